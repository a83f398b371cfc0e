/-
  The document: common, DiffCost.
-/
import Derived.Test.YtokfnajgjhkepaaRefLinesFault
import Derived.Test.YtokfnajgjhkepaaNumRow
import Derived.BigQuiet
namespace Go.Proofs.Ytokfnajgjhkepaa.DiffR
open Go.RowKit Kit LineM StrM DiffM DiffA NumR

theorem same_iff (a b : ByteArray) : (a.toList == b.toList) = true ↔ a = b := by
  rw [Lib.toList_data, Lib.toList_data, beq_iff_eq]
  constructor
  · intro h
    rw [← EditM.str_list a, ← EditM.str_list b, h]
  · rintro rfl; rfl
theorem same_not {a b : ByteArray} (h : a ≠ b) : (a.toList == b.toList) = false := by
  rw [Bool.eq_false_iff]; exact fun e => h ((same_iff a b).1 e)
def CmPost (c : Nat) (w : World) (e : Ending) (w' : World) : Prop := e = .returned (.int .i64 (c : Int)) ∧ Below w.heap.size w w'
set_option maxRecDepth 100000 in
set_option maxHeartbeats 8000000 in
theorem common (aa : Option Addr) (ca : Nat) (la : List ByteArray) (ab : Option Addr) (cb : Nat) (lb : List ByteArray) (w : World) (ha : StAt w aa la) (hb : StAt w ab lb) (hna : la.length ≤ 80) (hnb : lb.length ≤ 80) :
    Calls Try.prog 42 #[.slice aa la.length ca, .slice ab lb.length cb] w (CmPost (lcs la lb) w) := by
  obtain ⟨i0, hi, hz0, hz1, hz2⟩ := info_parts infoInt
  have HI := Lib.hid (And.intro hi (And.intro hz0 (And.intro hz1 hz2)))
  clear hi hz0 hz1 hz2
  have HA := Lib.hid ha
  have HB := Lib.hid hb
  obtain ⟨n, hln⟩ : ∃ n, la.length = n := ⟨_, rfl⟩
  obtain ⟨m, hlm⟩ : ∃ m, lb.length = m := ⟨_, rfl⟩
  have HN := Lib.hid hln
  have HM := Lib.hid hlm
  rw [hln] at hna ⊢
  rw [hlm] at hnb ⊢
  clear ha hb hln hlm
  have r0 : IntKind.i64.wrap ((m : Int) + 1) = ((m + 1 : Nat) : Int) := by rw [show ((m : Int) + 1) = ((m + 1 : Nat) : Int) by omega]; exact IntWalk.i64_in _ (by omega)
  go_enter Try.func42, Try.ntmps42
  go_wp2_with (refine wpList_make_full _ rfl _ _ 28 rfl w.heap.size 3 i0 _ 1 Try.underlying28 HI.out.1 HI.out.2.1 HI.out.2.2.1 .i64 .i64 _ _ (m + 1) rfl rfl rfl rfl (by rw [HI.out.2.2.2]; omega) (by unfold maxLen; omega) (by simp) ?_; intro w1 hown hgrow)
  have S0 : Hid (Below w.heap.size w w1 ∧ RN w w.heap.size (m + 1) (fun _ => 0) w1) := Lib.hid ⟨grows_below hgrow, RN.made (grows_below hgrow) hown⟩
  clear hown hgrow
  go_loopw [5, 17] (fun vr vi wr => ∃ (i blk : Nat) (d : Nat → Nat), i ≤ n ∧ vi = .int .i64 (i : Int) ∧ vr = .slice (some ⟨blk, 0, none⟩) (m + 1) (m + 1) ∧ Hid (∀ k, k ≤ m → d k = lcs (la.take i) (lb.take k)) ∧ Hid (Below w.heap.size w wr ∧ ∃ wm, RN wm blk (m + 1) d wr)) (fun _ vi _ => n - (intOf vi).toNat)
  case atStart => exact ⟨0, w.heap.size, _, by omega, rfl, rfl, Lib.hid (fun k _ => by rw [List.take_zero, lcs_nil_left]), Lib.hid ⟨S0.out.1, _, S0.out.2⟩⟩
  case round =>
    obtain ⟨i, blk, d, hin, rfl, rfl, HD, HR⟩ := hrel
    clear S0
    obtain ⟨hbw, wm, hrn⟩ := HR.out
    have HRN := Lib.hid hrn
    have HBW := Lib.hid hbw
    clear hbw hrn HR
    by_cases hlt : i < n
    · obtain ⟨x, hx⟩ : ∃ x, la[i]? = some x := ⟨la[i]'(by have := HN.out; omega), List.getElem?_eq_getElem _⟩
      obtain ⟨g, off, rfl, hg, c0⟩ := StAt.get (HA.out.next HBW.out) hx
      have u0 : (0 : Int) ≤ (i : Int) := by omega
      have u1 : (i : Int) < (n : Int) := by omega
      have r1 : IntKind.i64.wrap ((i : Int) + 1) = (i : Int) + 1 := IntWalk.i64_in _ (by omega)
      go_wp2_with (refine wpList_make_full _ rfl _ _ 28 rfl wr.heap.size 3 i0 _ 1 Try.underlying28 HI.out.1 HI.out.2.1 HI.out.2.2.1 .i64 .i64 _ _ (m + 1) rfl rfl rfl rfl (by rw [HI.out.2.2.2]; omega) (by unfold maxLen; omega) (by simp) ?_; intro w2 hown hgrow)
      have S1 : Hid (RN wr wr.heap.size (m + 1) (fun _ => 0) w2) := Lib.hid (RN.made (grows_below hgrow) hown)
      clear hown hgrow
      obtain ⟨wq, rfl⟩ : ∃ wq, wq = wr := ⟨_, rfl⟩
      have hbq := HRN.out.lt
      go_loopw [27] (fun vk wx => ∃ (k : Nat) (e : Nat → Nat), k ≤ m ∧ vk = .int .i64 (k : Int) ∧ Hid (∀ j, j ≤ k → e j = lcs (la.take (i + 1)) (lb.take j)) ∧ Hid (RN wq wq.heap.size (m + 1) e wx)) (fun vk _ => m - (intOf vk).toNat)
      case atStart => exact ⟨0, _, by omega, rfl, Lib.hid (fun j hj => by
        have e : j = 0 := by omega
        rw [e, List.take_zero, lcs_nil_right]), S1⟩
      case round =>
        obtain ⟨k, e, hkm, rfl, HE, HX⟩ := hrel
        clear S1
        by_cases hkl : k < m
        · obtain ⟨y, hy⟩ : ∃ y, lb[k]? = some y := ⟨lb[k]'(by have := HM.out; omega), List.getElem?_eq_getElem _⟩
          have BX := Lib.hid (HX.out.bel)
          obtain ⟨g2, off2, rfl, hg2, c1⟩ := StAt.get (HB.out.next (bstep HBW.out BX.out)) hy
          have k0 : (0 : Int) ≤ (k : Int) := by omega
          have k1 : (k : Int) < (m : Int) := by omega
          have k2 : (k : Int) + 1 < ((m + 1 : Nat) : Int) := by omega
          have k3 : (k : Int) < ((m + 1 : Nat) : Int) := by omega
          have k4 : (0 : Int) ≤ (k : Int) + 1 := by omega
          have r2 : IntKind.i64.wrap ((k : Int) + 1) = (k : Int) + 1 := IntWalk.i64_in _ (by omega)
          have d0 : wr.cell? ⟨blk, k, none⟩ = some (.int .i64 (d k : Int)) := keep BX.out hbq (HRN.out.cell k (by omega))
          have d1 : wr.cell? ⟨blk, k + 1, none⟩ = some (.int .i64 (d (k + 1) : Int)) := keep BX.out hbq (HRN.out.cell (k + 1) (by omega))
          have e0 := HX.out.cell k (by omega)
          have e1 := HX.out.cell (k + 1) (by omega)
          have e2 := HX.out.free (k + 1) (by omega)
          have hne : blk ≠ wq.heap.size := by omega
          have hdk : d k ≤ 80 := by
            rw [HD.out k (by omega)]
            have := lcs_right (la.take i) (lb.take k)
            rw [List.length_take] at this
            omega
          have HNX := Lib.hid (row_next hx hy)
          rw [← HD.out k (by omega), ← HD.out (k + 1) (by omega), ← HE.out k (Nat.le_refl _)] at HNX
          have hmx : (if d (k + 1) < e k then ((e k : Nat) : Int) else ((d (k + 1) : Nat) : Int)) = ((max (d (k + 1)) (e k) : Nat) : Int) := by
            split <;> omega
          clear hy
          obtain ⟨M, hM⟩ : ∃ M, max (d (k + 1)) (e k) = M := ⟨_, rfl⟩
          rw [hM] at HNX hmx
          clear hM
          go_wp2_with fail
          go_region
          have HX2 := Lib.hid ((HX.out.set (i := k + 1) (by omega) M).next (Below.drew (Below.refl _ _)))
          have BX2 := Lib.hid (HX2.out.bel)
          generalize (wr.setCell ⟨wq.heap.size, k + 1, none⟩ (.int .i64 (M : Int))).drew = W2 at *
          clear hmx d0 d1 e0 e1 e2 c1 hg2
          by_cases hxy : x = y
          · have HQ := (same_iff x y).2 hxy
            have d0 : W2.cell? ⟨blk, k, none⟩ = some (.int .i64 (d k : Int)) := keep BX2.out hbq (HRN.out.cell k (by omega))
            have e1 : W2.cell? ⟨wq.heap.size, k + 1, none⟩ = some (.int .i64 (M : Int)) := by
              have := HX2.out.cell (k + 1) (by omega)
              rwa [if_pos rfl] at this
            have e2 := HX2.out.free (k + 1) (by omega)
            have r3 : IntKind.i64.wrap ((d k : Int) + 1) = (d k : Int) + 1 := IntWalk.i64_in _ (by omega)
            have HV : Hid (lcs (la.take (i + 1)) (lb.take (k + 1)) = max M (d k + 1)) := Lib.hid (HNX.out.1 hxy)
            clear HNX hxy
            obtain ⟨V, hVe⟩ : ∃ V, max M (d k + 1) = V := ⟨_, rfl⟩
            have hm1 : (if (M : Int) < (d k : Int) + 1 then ((d k : Nat) : Int) + 1 else ((M : Nat) : Int)) = (V : Int) := by split <;> omega
            have hm2 : (if M < d k + 1 then ((d k : Nat) : Int) + 1 else ((M : Nat) : Int)) = (V : Int) := by split <;> omega
            rw [hVe] at HV
            clear hVe
            have HE2 : Hid (∀ j, j ≤ k + 1 → (fun j => if j = k + 1 then V else (if j = k + 1 then M else e j)) j = lcs (la.take (i + 1)) (lb.take j)) := Lib.hid (fun j hj => by
              show (if j = k + 1 then V else (if j = k + 1 then M else e j)) = _
              by_cases e : j = k + 1
              · rw [if_pos e, e, HV.out]
              · rw [if_neg e, if_neg e]; exact HE.out j (by omega))
            have HX3 := Lib.hid ((HX2.out.set (i := k + 1) (by omega) V).next (Below.drew (Below.refl _ _)))
            clear HV HX
            go_wp2_with fail
            go_region
            go_wp2_with fail
            go_roundw
            case rel => exact ⟨k + 1, _, by omega, by go_num, HE2, HX3⟩
            case measure => simp [intOf]; omega
          · have HQ := same_not hxy
            have HV : Hid (lcs (la.take (i + 1)) (lb.take (k + 1)) = M) := Lib.hid (HNX.out.2 hxy)
            have HE2 : Hid (∀ j, j ≤ k + 1 → (fun j => if j = k + 1 then M else e j) j = lcs (la.take (i + 1)) (lb.take j)) := Lib.hid (fun j hj => by
              show (if j = k + 1 then M else e j) = _
              by_cases e : j = k + 1
              · rw [if_pos e, e, HV.out]
              · rw [if_neg e]; exact HE.out j (by omega))
            clear HNX hxy HV HX
            go_wp2_with fail
            go_roundw
            case rel => exact ⟨k + 1, _, by omega, by go_num, HE2, HX2⟩
            case measure => simp [intOf]; omega
        · have k1 : ¬ (k : Int) < (m : Int) := by omega
          have HD2 : Hid (∀ j, j ≤ m → e j = lcs (la.take (i + 1)) (lb.take j)) := Lib.hid (fun j hj => HE.out j (by omega))
          have HR2 : Hid (Below w.heap.size w wr ∧ ∃ wm, RN wm wq.heap.size (m + 1) e wr) := Lib.hid ⟨bstep HBW.out HX.out.bel, _, HX.out⟩
          clear HE HX HRN HBW HD
          go_wp2_with fail
          go_roundw
          case rel => exact ⟨i + 1, _, _, by omega, by go_num, rfl, HD2, HR2⟩
          case measure => simp [intOf]; omega
    · have u1 : ¬ (i : Int) < (n : Int) := by omega
      have hv : d m = lcs la lb := by
        rw [HD.out m (Nat.le_refl _), List.take_of_length_le (by have := HN.out; omega), List.take_of_length_le (by have := HM.out; omega)]
      have c0 := HRN.out.cell m (by omega)
      rw [hv] at c0
      have hbl := HRN.out.lt
      have k0 : (0 : Int) ≤ (m : Int) := by omega
      have k1 : (m : Int) < ((m + 1 : Nat) : Int) := by omega
      clear HD HRN hv
      generalize lcs la lb = v at *
      go_wp2_with fail
      go_ret
      exact ⟨rfl, HBW.out⟩
end Go.Proofs.Ytokfnajgjhkepaa.DiffR
