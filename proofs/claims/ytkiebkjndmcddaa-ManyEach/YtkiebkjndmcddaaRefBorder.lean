/-
  The document: FindBorder.
-/
import Derived.Test.YtkiebkjndmcddaaRefHits
import Derived.Test.YtkiebkjndmcddaaBordMath
import Derived.BigQuiet
namespace Go.Proofs.Ytkiebkjndmcddaa.FindR
open Go.RowKit Kit FindM LineM EditM

/-- the test of a border, by two slices -/
theorem bord_iff (s : ByteArray) (n k : Nat) (hn : n ≤ s.size) (hk : k ≤ n) : ((s.extract 0 k).toList == (s.extract (n - k) n).toList) = true ↔ isM s.data.toList s.data.toList n k := by
  rw [Lib.toList_data, Lib.toList_data, Lib.extract_data, Lib.extract_data, isB_slices (by rw [size_list]; exact hn) hk]
  simp only [beq_iff_eq, List.drop_zero]
  rw [List.drop_take, show n - (n - k) = k by omega, Nat.sub_zero]
theorem bord_yes (s : ByteArray) (n k : Nat) (hn : n ≤ s.size) (hk : k ≤ n) (h : isM s.data.toList s.data.toList n k) : ((s.extract 0 k).toList == (s.extract (n - k) n).toList) = true := (bord_iff s n k hn hk).2 h
theorem bord_not (s : ByteArray) (n k : Nat) (hn : n ≤ s.size) (hk : k ≤ n) (h : ¬ isM s.data.toList s.data.toList n k) : ((s.extract 0 k).toList == (s.extract (n - k) n).toList) = false := by
  rw [Bool.eq_false_iff]; exact fun e => h ((bord_iff s n k hn hk).1 e)
/-- what is refused of a border's text -/
def bfault (n : Nat) : Int := if 600 < n then 1 else 0
set_option maxHeartbeats 1000000 in
theorem findBorder_no (s : ByteArray) (w : World) (h : 600 < s.size) : Calls Try.prog 16 #[.string s] w (IsPost w [] 1) := by
  go_enter Try.func16, Try.ntmps16
  go_wp2_with fail
  go_ret2
  exact ⟨_, rfl, IK.nil (Below.refl _ _)⟩
set_option maxRecDepth 100000 in
set_option maxHeartbeats 2000000 in
theorem findBorder (s : ByteArray) (w : World) (h : s.size ≤ 600) : Calls Try.prog 16 #[.string s] w (IsPost w (ints (bords s.data.toList s.size)) 0) := by
  obtain ⟨i0, hi, hz0, hz1, hz2⟩ := info_parts infoInt
  have HI := Lib.hid (And.intro hi (And.intro hz0 (And.intro hz1 hz2)))
  clear hi hz0 hz1 hz2
  go_enter Try.func16, Try.ntmps16
  go_wp2_with fail
  go_loopw [4, 5, 6] (fun vo vi _ wr => ∃ m : Nat, m ≤ s.size ∧ vi = .int .i64 ((m : Int) + 1) ∧ Hid (IK w (ints (bords s.data.toList m)) vo wr)) (fun _ vi _ _ => s.size + 1 - (intOf vi).toNat)
  case atStart => exact ⟨0, by omega, rfl, Lib.hid (IK.nil (Below.refl _ _))⟩
  case round =>
    obtain ⟨m, hm, rfl, HK⟩ := hrel
    by_cases hlt : m < s.size
    · have HS := Lib.hid (bords_succ s.data.toList m)
      have r1 : IntKind.i64.wrap ((m : Int) + 1 - 1) = (m : Int) := by rw [IntWalk.i64_in _ (by omega)]; omega
      have r2 : IntKind.i64.wrap ((m : Int) + 1 + 1) = (m : Int) + 1 + 1 := IntWalk.i64_in _ (by omega)
      have q1 : decide ((m : Int) + 1 ≤ (s.size : Int)) = true := decide_eq_true (by omega)
      have hL : (ints (bords s.data.toList m)).length ≤ 600 := by
        unfold ints
        rw [List.length_map, bords_len]
        omega
      go_wp2_with fail
      go_loopw [6] (fun vk wx => ∃ k : Nat, k ≤ m ∧ vk = .int .i64 (k : Int) ∧ Hid (∀ j, isB s.data.toList (m + 1) j → j ≤ k) ∧ ∃ q, wx = wr.drewN q) (fun vk _ => (intOf vk).toNat)
      case atStart => exact ⟨m, Nat.le_refl _, rfl, Lib.hid (fun j hj => by have := hj.1; omega), 0, rfl⟩
      case round =>
        obtain ⟨k, hk, rfl, HJ, q, rfl⟩ := hrel
        have r3 : IntKind.i64.wrap ((m : Int) + 1 - (k : Int)) = (m : Int) + 1 - (k : Int) := IntWalk.i64_in _ (by omega)
        have r4 : ((m : Int) + 1 - (k : Int)).toNat = m + 1 - k := by omega
        have r5 : ((m : Int) + 1).toNat = m + 1 := by omega
        have j1 : (0 : Int) ≤ (m : Int) + 1 - (k : Int) := by omega
        have j2 : (m : Int) + 1 - (k : Int) ≤ (m : Int) + 1 := by omega
        have j3 : (m : Int) + 1 ≤ (s.size : Int) := by omega
        have j4 : (k : Int) ≤ (s.size : Int) := by omega
        have j5 : k ≤ s.size := by omega
        have j6 : (k : Int) ≤ (m : Int) + 1 := by omega
        have j7 : k ≤ m + 1 := by omega
        have j8 : (m : Int) < (s.size : Int) := by omega
        have j9 : m + 1 ≤ s.size := by omega
        by_cases hb : isM s.data.toList s.data.toList (m + 1) k
        · have HE := Lib.hid (bord_yes s (m + 1) k (by omega) (by omega) hb)
          have HB := Lib.hid (bord_of ⟨by omega, hb⟩ HJ.out)
          clear hb HJ
          have HK2 := Lib.hid fun nq => HK.out.next (bdrewN (Below.refl _ _) nq)
          clear HK
          have HL : Hid (ints (bords s.data.toList (m + 1)) = ints (bords s.data.toList m) ++ [(k : Int)]) := Lib.hid (by rw [HS.out, HB.out]; simp [ints])
          clear HS HB
          generalize ints (bords s.data.toList m) = L at *
          go_wp2_with fail
          go_quiet (fail)
          rw [HE.out]
          simp only [Bool.not_true]
          simp only [World.drewN_drewN]
          have E4 := Lib.hid (HK2.out (q + nq))
          generalize wr.drewN (q + nq) = w3 at *
          clear HK2
          have hsz := E4.out.bel.size
          have HROW := Lib.hid (E4.out.row)
          go_wp2_with (at_builtin; refine wpList_append_lies _ rfl _ _ 22 rfl w.heap.size 3 i0 _ 1 8 Try.underlying22 HI.out.1 HI.out.2.1 HI.out.2.2.1 HI.out.2.2.2 rfl (by decide) _ L.length (flatC ic L) rfl (HROW.out.alloc _) ⟨w3.heap.size, 0, none⟩ 1 1 [.int .i64 (k : Int)] rfl rfl (cell_one_new _ _ _) (by simp [Value.oneCell']) (by omega) (by unfold maxLen; omega) (by omega) (by simp; omega) _ rfl ?_; intro g cap w1 hown1 hgrow1 _ _)
          go_roundw
          case rel => exact ⟨m + 1, by omega, by go_num, Lib.hid ⟨by rw [HL.out, List.length_append, flatC_append]; exact hown1, bgrow (balloc E4.out.bel _) (HROW.out.alloc _) hgrow1⟩⟩
          case measure => simp [intOf]; omega
        · have HE := Lib.hid (bord_not s (m + 1) k (by omega) (by omega) hb)
          have hk0 : k ≠ 0 := fun e => hb (by rw [e]; exact isM_zero _ _ _)
          have HJ2 : Hid (∀ j, isB s.data.toList (m + 1) j → j ≤ k - 1) := Lib.hid fun j hj => by
            have h1 := HJ.out j hj
            have h2 : j ≠ k := fun e => hb (e ▸ hj.2)
            omega
          clear HJ hb
          have r6 : IntKind.i64.wrap ((k : Int) - 1) = (k : Int) - 1 := IntWalk.i64_in _ (by omega)
          go_wp2_with fail
          go_quiet (fail)
          rw [HE.out]
          simp only [Bool.not_false]
          go_wp2_with fail
          go_roundw
          case rel => exact ⟨k - 1, by omega, by go_num, HJ2, _, rfl⟩
          case measure => simp [intOf]; omega
    · have e1 : m = s.size := by omega
      have q1 : decide ((m : Int) + 1 ≤ (s.size : Int)) = false := decide_eq_false (by omega)
      rw [e1] at HK q1
      subst e1
      go_wp2_with fail
      go_ret2
      exact ⟨_, rfl, HK.out⟩
end Go.Proofs.Ytkiebkjndmcddaa.FindR
