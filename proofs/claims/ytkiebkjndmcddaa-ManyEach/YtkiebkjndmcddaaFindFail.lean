/-
  Package find: failure and Border.
-/
import Derived.Test.YtkiebkjndmcddaaFindExt
namespace Go.Proofs.Ytkiebkjndmcddaa.FindP
open Go.RowKit Kit LineM FindM FindR EditM

/-- the borders of s in the block g, of the call's own -/
structure FailPost (w : World) (s : ByteArray) (e : Ending) (w' : World) : Prop where
  is : ∃ g cap, e = .returned (.slice (some ⟨g, 0, none⟩) s.size cap) ∧ s.size ≤ cap ∧ w.heap.size ≤ g ∧ RN w g s.size (fun i => bord s.data.toList (i + 1)) w'
theorem cand_res {s : List UInt8} {n r : Nat} {c : UInt8} (hc : s[n]? = some c) (h : (∃ j, Cand s n j ∧ s[j]? = some c ∧ r = j + 1) ∨ (Cand s n 0 ∧ s[0]? ≠ some c ∧ r = 0)) : r = bord s (n + 1) := by
  rcases h with ⟨j, h1, h2, rfl⟩ | ⟨h1, h2, rfl⟩
  · exact (h1.hit (h2.trans hc.symm)).symm
  · exact (h1.miss (by rw [hc]; exact h2)).symm
set_option maxRecDepth 100000 in
set_option maxHeartbeats 4000000 in
theorem failure (s : ByteArray) (w : World) (hs : s.size ≤ 1000000) : Calls Try.prog 27 #[.string s] w (FailPost w s) := by
  obtain ⟨i0, hi, hz0, hz1, hz2⟩ := info_parts infoInt
  have HI := Lib.hid (And.intro hi (And.intro hz0 (And.intro hz1 hz2)))
  clear hi hz0 hz1 hz2
  go_enter Try.func27, Try.ntmps27
  go_wp2_with (refine wpList_make_full _ rfl _ _ 22 rfl w.heap.size 3 i0 _ 1 Try.underlying22 HI.out.1 HI.out.2.1 HI.out.2.2.1 .i64 .i64 _ _ s.size rfl rfl rfl rfl (by rw [HI.out.2.2.2]; omega) (by unfold maxLen; omega) (by simp) ?_; intro w1 hown hgrow)
  have S0 : Hid (RN w w.heap.size s.size (fun _ => 0) w1) := Lib.hid (RN.made (grows_below hgrow) hown)
  clear hown hgrow
  go_loopw [4] (fun vi wr => ∃ (m : Nat) (d : Nat → Nat), 0 < m ∧ vi = .int .i64 (m : Int) ∧ Hid (∀ i, i < s.size → i < m → d i = bord s.data.toList (i + 1)) ∧ Hid (RN w w.heap.size s.size d wr)) (fun vi _ => s.size - (intOf vi).toNat)
  case atStart => exact ⟨1, _, by omega, rfl, Lib.hid (fun i _ hi => by
    have e : i = 0 := by omega
    rw [e]
    exact (bord_one _).symm), S0⟩
  case round =>
    obtain ⟨m, d, hm, rfl, HD, HR⟩ := hrel
    clear S0
    by_cases hlt : m < s.size
    · have i0 : (0 : Int) ≤ (m : Int) := by omega
      have i1 : (m : Int) < (s.size : Int) := by omega
      have i2 : (0 : Int) ≤ (m : Int) - 1 := by omega
      have i3 : (m : Int) - 1 < (s.size : Int) := by omega
      have i4 : (1 : Int) ≤ (m : Int) := by omega
      have i5 : (m : Int) < (s.size : Int) + 1 := by omega
      have i6 : 1 ≤ m := by omega
      have r1 : IntKind.i64.wrap ((m : Int) - 1) = (m : Int) - 1 := IntWalk.i64_in _ (by omega)
      have r2 : ((m : Int) - 1).toNat = m - 1 := by omega
      have r3 : IntKind.i64.wrap ((m : Int) + 1) = (m : Int) + 1 := IntWalk.i64_in _ (by omega)
      have c1 : wr.cell? ⟨w.heap.size, m - 1, none⟩ = some (.int .i64 (bord s.data.toList m : Int)) := by
        rw [HR.out.cell (m - 1) (by omega), HD.out (m - 1) (by omega) (by omega), show m - 1 + 1 = m by omega]
      have c2 := HR.out.cell m hlt
      have c3 := HR.out.free m hlt
      have G := Lib.hid (sget s m hlt)
      have E := Lib.hid fun (W : World) (hW : RN w w.heap.size s.size d W) => extend (Cand s.data.toList m) s w.heap.size s.size s.size (bord s.data.toList m) s[m] W (by omega) (cand_start _ hm) (fun j hj => by have := hj.1.1; omega) (fun j hj h0 hne => hj.back h0 (by rw [G.out]; exact hne)) (fun j hj => by
        have h1 := hj.1.1
        rw [hW.cell j (by omega), HD.out j (by omega) (by omega)])
      have S0 : Hid (RN w w.heap.size s.size d wr.drew ∧ wr.drew.cell? ⟨w.heap.size, m - 1, none⟩ = some (.int .i64 (bord s.data.toList m : Int)) ∧ wr.drew.cell? ⟨w.heap.size, m, none⟩ = some (.int .i64 (d m : Int)) ∧ wr.drew.frozen? ⟨w.heap.size, m, none⟩ = false) := Lib.hid ⟨HR.out.next (Below.drew (Below.refl _ _)), c1, c2, c3⟩
      have L0 : w.heap.size < wr.heap.size := HR.out.lt
      go_wp2_with fail
      go_region_with (first | (refine (E.out _ S0.out.1).mono ?_; rintro e wx ⟨r, rfl, hr, rfl⟩; have HRES := Lib.hid (cand_res G.out hr); clear hr))
      all_goals
        have HD2 : Hid (∀ i, i < s.size → i < m + 1 → (fun j => if j = m then r else d j) i = bord s.data.toList (i + 1)) := Lib.hid fun i hi him => by
          show (if i = m then r else d i) = _
          by_cases e : i = m
          · rw [if_pos e, HRES.out, e]
          · rw [if_neg e]; exact HD.out i hi (by omega)
        have HR2 := Lib.hid ((HR.out.set hlt r).next (Below.drew (Below.refl _ _)))
        clear HD HR HRES E S0 c1 c2 c3 G
        go_wp2_with fail
        go_roundw
        case rel => exact ⟨m + 1, _, by omega, by go_num, HD2, HR2⟩
        case measure => simp [intOf]; omega
    · have i1 : ¬ (m : Int) < (s.size : Int) := by omega
      have F : Hid (FailPost w s (.returned (.slice (some ⟨w.heap.size, 0, none⟩) s.size s.size)) wr) := Lib.hid ⟨_, _, rfl, Nat.le_refl _, Nat.le_refl _, HR.out.congr (fun i hi => HD.out i hi (by omega))⟩
      clear HD HR
      go_wp2_with fail
      go_ret
      exact F.out
/-- Border within its bound, and beyond it -/
theorem bords_range (s : List UInt8) (n : Nat) : (List.range n).map (fun i => bord s (i + 1)) = bords s n := rfl
set_option maxHeartbeats 1000000 in
theorem border (s : ByteArray) (w : World) (hs : s.size ≤ 600) : Calls Try.prog 15 #[.string s] w (IrPost w (ints (bords s.data.toList s.size)) 0) := by
  have F := Lib.hid (failure s w (by omega))
  go_enter Try.func15, Try.ntmps15
  go_wp2_with (go_at_call 27; refine F.out.mono ?_; rintro e w1 ⟨g, cap, rfl, hc, hg, hr⟩; have HR := Lib.hid hr; clear hr)
  go_ret2
  exact ⟨_, rfl, HR.out.val hc, HR.out.bel.mono hg⟩
set_option maxHeartbeats 1000000 in
theorem border_no (s : ByteArray) (w : World) (hs : 600 < s.size) : Calls Try.prog 15 #[.string s] w (IrPost w [] 1) := by
  go_enter Try.func15, Try.ntmps15
  go_wp2_with fail
  go_ret2
  exact ⟨_, rfl, SlV.nil _, Below.refl _ _⟩
end Go.Proofs.Ytkiebkjndmcddaa.FindP
