/-
  The law RopeDepths.
-/
import Derived.Test.YteahnhemcceebaaRopePlaysW
namespace Go.Proofs.Yteahnhemcceebaa.RopeL
open Go.RowKit Kit RopeM RopeC RefC

/-- the number of binary digits -/
def bits (n : Nat) : Nat := if h : n = 0 then 0 else bits (n / 2) + 1
  termination_by n
  decreasing_by omega
theorem bits_zero : bits 0 = 0 := by unfold bits; rfl
theorem bits_pos {n : Nat} (h : 0 < n) : bits n = bits (n / 2) + 1 := by
  rw [bits.eq_1]
  rw [dif_neg (by omega)]
theorem lt_bits : ∀ (k n : Nat), 2 ^ k ≤ n → k < bits n
  | 0, n, h => by
    have h' : 0 < n := by simp at h; omega
    rw [bits_pos h']; omega
  | k + 1, n, h => by
    have h1 : 2 ^ k ≤ n / 2 := by rw [Nat.pow_succ] at h; omega
    have h2 := lt_bits k (n / 2) h1
    have h3 : 0 < 2 ^ (k + 1) := Nat.pow_pos (by omega)
    rw [bits_pos (by omega)]; omega
theorem bits_le : ∀ (k n : Nat), n < 2 ^ k → bits n ≤ k
  | 0, n, h => by
    have : n = 0 := by simpa using h
    subst this; rw [bits_zero]; omega
  | k + 1, n, h => by
    rcases Nat.eq_zero_or_pos n with rfl | hn
    · rw [bits_zero]; omega
    · rw [bits_pos hn]
      have := bits_le k (n / 2) (by rw [Nat.pow_succ] at h; omega)
      omega
/-- the depth of a balanced tree, by the digits of its length -/
theorem dep_bits {t : RT} (h : t.ok) : t.dep ≤ 2 * bits t.len := by
  by_cases h0 : 0 < t.dep
  · have := lt_bits _ _ (RT.shallow h h0)
    omega
  · omega

theorem bdrewN' {n : Nat} {w W1 : World} (h : Below n w W1) (k : Nat) : Below n w (W1.drewN k) := h.trans ⟨rfl, rfl, rfl, Nat.le_refl _, fun _ _ => rfl⟩
/-- the row of texts, as a reader holds it -/
theorem Row.text' {w : World} {v : Value} {ts : Tx} (h : Row w v (ts.map strV)) : ∃ a cap, v = .slice a ts.length cap ∧ ∀ (i : Nat) t, ts[i]? = some t → ∃ g off, a = some ⟨g, off, none⟩ ∧ g < w.heap.size ∧ w.cell? ⟨g, off + i, none⟩ = some (.string ⟨t.toArray⟩) := by
  obtain ⟨a, cap, rfl, h⟩ := h
  refine ⟨a, cap, by simp, fun i t hi => ?_⟩
  have hlt := (List.getElem?_eq_some_iff.1 hi).1
  obtain ⟨g, off, e, hg, hc⟩ := h (by simp; omega)
  refine ⟨g, off, e, hg, ?_⟩
  rw [hc i (by simpa using hlt)]
  simp [strV, hi]
theorem Row.deps {w : World} {v : Value} {ts : List RT} (h : Row w v (depsV ts)) : ∃ a cap, v = .slice a ts.length cap ∧ ∀ (i : Nat) t, ts[i]? = some t → ∃ g off, a = some ⟨g, off, none⟩ ∧ g < w.heap.size ∧ w.cell? ⟨g, off + i, none⟩ = some (.int .i64 (t.dep : Int)) := by
  obtain ⟨a, cap, rfl, h⟩ := h
  refine ⟨a, cap, by simp [depsV], fun i t hi => ?_⟩
  have hlt := (List.getElem?_eq_some_iff.1 hi).1
  obtain ⟨g, off, e, hg, hc⟩ := h (by simp [depsV]; omega)
  refine ⟨g, off, e, hg, ?_⟩
  rw [hc i (by simpa [depsV] using hlt)]
  simp [depsV, hi]

set_option maxRecDepth 100000 in
set_option maxHeartbeats 2000000 in
theorem ropeDepths_ok (a : Option Addr) (cap : Nat) (l : List OpM) (w : World) (hl : OpsAt w a l) (h80 : l.length ≤ 80) :
    Calls Try.prog 5 #[.slice a l.length cap] w fun e w' => e = .returned (.bool true) ∧ Below w.heap.size w w' := by
  have P := Lib.hid (depths l a cap w hl h80)
  have Q : Hid (∀ W : World, Below w.heap.size w W → Calls Try.prog 12 #[.slice a l.length cap] W fun e w' => ∃ tv cv, e = .returned (.tuple #[tv, cv, .int .i64 0]) ∧ Row w' tv ((texts l []).map strV) ∧ Row w' cv (ints (codes l [])) ∧ Below W.heap.size W w') := Lib.hid fun W hW => played l a cap W (hl.next hW) h80
  have HF := Lib.hid (Fine.nil.texts (l := l))
  clear hl h80
  generalize l.length = n at *
  go_enter Try.func5, Try.ntmps5
  go_wp2_with fail
  refine P.out.mono ?_
  rintro e w1 ⟨dv, rs, rfl, htx, hok, hd, hb⟩
  have D1 := Lib.hid hd
  have B1 := Lib.hid hb
  have HOK := Lib.hid hok
  rw [← htx] at Q HF
  clear hd hb P hok htx
  go_wp2_with fail
  refine (Q.out _ B1.out).mono ?_
  rintro e w2 ⟨tv, cv, rfl, ht, _, hb⟩
  have B2 := Lib.hid (bstep B1.out hb)
  obtain ⟨ad, cd, rfl, hdd⟩ := Row.deps (D1.out.next hb)
  obtain ⟨at', ct, rfl, htt⟩ := Row.text' ht
  have HD := Lib.hid hdd
  have HT := Lib.hid htt
  have hlen := HF.out.1
  have HLIM := Lib.hid HF.out.2
  clear hdd htt ht hb Q D1 HF
  rw [txts_length] at hlen ⊢
  obtain ⟨m, hm⟩ : ∃ m, rs.length = m := ⟨_, rfl⟩
  rw [hm] at hlen ⊢
  have HM := Lib.hid hm
  clear hm
  go_wp2_with fail
  go_loopw [8] (fun x wr => ∃ (i : Nat), i ≤ m ∧ x = .int .i64 (i : Int) ∧ Below w2.heap.size w2 wr) (fun x _ => m - (intOf x).toNat)
  case atStart => exact ⟨0, by omega, rfl, Below.refl _ _⟩
  case round =>
    obtain ⟨i, hin, rfl, hW⟩ := hrel
    by_cases hlt : i < m
    · obtain ⟨t, hti⟩ : ∃ t, rs[i]? = some t := ⟨rs[i]'(by rw [HM.out]; exact hlt), by simp [HM.out, hlt]⟩
      have htt : (txts rs)[i]? = some t.txt := by simp [txts, hti]
      obtain ⟨gd, offd, rfl, hgd, d0⟩ := HD.out i t hti
      obtain ⟨gt, off, rfl, hgt, t0⟩ := HT.out i t.txt htt
      have hl6 := HLIM.out t.txt (List.mem_of_getElem? htt)
      have hok := HOK.out t (List.mem_of_getElem? hti)
      have hdb := dep_bits hok
      have hdp := RT.dep_pos hok
      have hsz : (⟨t.txt.toArray⟩ : ByteArray).size = t.len := by rw [← RT.txt_len]; simp [ByteArray.size]
      have he : (⟨t.txt.toArray⟩ : ByteArray).toList.isEmpty = decide (t.len = 0) := by
        rw [← RT.txt_len, Lib.toList_data]
        cases t.txt <;> simp
      rw [RT.txt_len] at hl6
      have hb10 : bits t.len ≤ 10 := bits_le 10 _ (by omega)
      have d0 := keep hW hgd d0
      have t0 := keep hW hgt t0
      have HW := Lib.hid hW
      clear hW hti htt hok
      generalize (⟨t.txt.toArray⟩ : ByteArray) = st at *
      generalize t.dep = dd at *
      generalize t.len = ln at *
      go_wp2_with fail
      go_loopw [9, 10] (fun mo x wx => ∃ k : Nat, k ≤ ln ∧ x = .int .i64 (k : Int) ∧ mo = .int .i64 ((2 * (bits ln - bits k) : Nat) : Int) ∧ bits k ≤ bits ln ∧ wx = wr) (fun _ x _ => (intOf x).toNat)
      case atStart => exact ⟨ln, Nat.le_refl _, rfl, by simp, Nat.le_refl _, rfl⟩
      case round =>
        obtain ⟨k, hk, rfl, rfl, hbk, rfl⟩ := hrel
        by_cases hk0 : 0 < k
        · have e1 := bits_pos hk0
          have e2 : ((2 * (bits ln - bits (k / 2)) : Nat) : Int) = ((2 * (bits ln - bits k) : Nat) : Int) + 2 := by omega
          have hmo : 2 * (bits ln - bits k) ≤ 20 := by omega
          have HE2 := Lib.hid e2
          have HB2 : bits (k / 2) ≤ bits ln := by omega
          clear e1 e2
          generalize 2 * (bits ln - bits k) = mo at *
          go_wp2_with fail
          go_roundw
          case rel => exact ⟨k / 2, by omega, by go_num, by rw [HE2.out], HB2, trivial⟩
          case measure => simp [intOf]; omega
        · obtain rfl : k = 0 := by omega
          have e0 : 2 * (bits ln - bits 0) = 2 * bits ln := by rw [bits_zero]; omega
          rw [e0]
          have hmo : 2 * bits ln ≤ 20 := by omega
          clear e0 hbk hb10
          generalize 2 * bits ln = mo at *
          by_cases hz : ln = 0
          · have hd0 : dd = 0 := by omega
            subst hz hd0
            have he : st.toList.isEmpty = true := by rw [he]; rfl
            have x1 : decide ((mo : Int) < ((0 : Nat) : Int)) = false := by rw [decide_eq_false_iff_not]; omega
            have x2 : decide (mo < 0) = false := by rw [decide_eq_false_iff_not]; omega
            clear hdp hdb
            go_upto_region 15 with fail
            go_quiet (fail)
            go_wp2_with fail
            go_roundw
            case rel => exact ⟨i + 1, by omega, rfl, bdrewN' HW.out _⟩
            case measure => simp [intOf]; omega
          · have hd0 : 0 < dd := by omega
            have he : st.toList.isEmpty = false := by rw [he, decide_eq_false_iff_not]; exact hz
            have x1 : decide ((mo : Int) + 2 < (dd : Int)) = false := by rw [decide_eq_false_iff_not]; omega
            have x2 : decide (mo + 2 < dd) = false := by rw [decide_eq_false_iff_not]; omega
            have x3 : decide ((0 : Int) < (dd : Int)) = true := by rw [decide_eq_true_eq]; omega
            have x4 : decide (0 < dd) = true := by rw [decide_eq_true_eq]; omega
            have x5 : decide ((dd : Int) < 0) = false := by rw [decide_eq_false_iff_not]; omega
            clear hdp hdb
            go_upto_region 15 with fail
            go_quiet (fail)
            go_wp2_with fail
            go_roundw
            case rel => exact ⟨i + 1, by omega, rfl, bdrewN' HW.out _⟩
            case measure => simp [intOf]; omega
    · go_wp2_with fail
      go_ret
      exact ⟨rfl, bstep B2.out hW⟩

set_option maxRecDepth 100000 in
set_option maxHeartbeats 1000000 in
theorem ropeDepths_big (a : Option Addr) (n cap : Nat) (w : World) (h : 80 < n) :
    Calls Try.prog 5 #[.slice a n cap] w fun e w' => e = .returned (.bool true) ∧ Below w.heap.size w w' := by
  have P := Lib.hid (depths_big n cap a w h)
  have Q := Lib.hid (played_big n cap a w h)
  go_enter Try.func5, Try.ntmps5
  go_wp2_with fail
  refine P.out.mono ?_
  rintro e w1 ⟨rfl, rfl⟩
  go_wp2_with fail
  refine Q.out.mono ?_
  rintro e w1 ⟨rfl, rfl⟩
  go_wp2_with fail
  go_loopw [8] (fun x wr => x = .int .i64 0 ∧ Below w.heap.size w wr) (fun _ _ => 0)
  case atStart => exact ⟨rfl, Below.refl _ _⟩
  case round =>
    obtain ⟨rfl, hW⟩ := hrel
    go_wp2_with fail
    go_ret
    exact ⟨rfl, hW⟩

theorem ropeDepths (a : Option Addr) (cap : Nat) (l : List OpM) (w : World) (hl : OpsAt w a l) :
    Calls Try.prog 5 #[.slice a l.length cap] w fun e w' => e = .returned (.bool true) ∧ Below w.heap.size w w' := by
  by_cases h : l.length ≤ 80
  · exact ropeDepths_ok a cap l w hl h
  · exact ropeDepths_big a _ cap w (by omega)

end Go.Proofs.Yteahnhemcceebaa.RopeL
