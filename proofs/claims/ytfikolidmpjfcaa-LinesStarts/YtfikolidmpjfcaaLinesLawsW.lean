/-
  The laws LinesStarts and LinesLines, walked.
-/
import Derived.Test.YtfikolidmpjfcaaLineLine
import Derived.Test.YtfikolidmpjfcaaRefLStarts
import Derived.Test.YtfikolidmpjfcaaRefLLine
import Derived.Test.YtfikolidmpjfcaaSameL
namespace Go.Proofs.Ytfikolidmpjfcaa.LineR
open Go.RowKit Kit EditM LineM

theorem same (v1 v2 : Value) (zs : List Int) (w : World) (h1 : IsV w v1 zs) (h2 : IsV w v2 zs) (hl : zs.length ≤ 100000) :
    Calls Try.prog 12 #[v1, v2] w fun e w' => e = .returned (.bool true) ∧ Below w.heap.size w w' :=
  SameL.same v1 v2 zs w (IsV.row h1) (IsV.row h2) (by unfold maxLen; omega)
set_option maxHeartbeats 1000000 in
theorem linesStarts (s : ByteArray) (w : World) (_hs : s.size ≤ maxLen) :
    Calls Try.prog 3 #[.string s] w fun e w' => e = .returned (.bool true) ∧ Below w.heap.size w w' := by
  obtain ⟨R, c, M, D, LN⟩ : ∃ R c, (∀ W, Calls Try.prog 10 #[.string s] W (IsPost W R c)) ∧ (∀ W, Calls Try.prog 11 #[.string s] W (IsPost W R c)) ∧ R.length ≤ 100000 := by
    by_cases h : 600 < s.size
    · exact ⟨_, _, fun W => LineC.starts_no s W h, fun W => starts_no s W h, by simp⟩
    · refine ⟨_, _, fun W => LineC.starts s W (by omega), fun W => starts s W (by omega), ?_⟩
      have := PosM.lns_col_le s.data.toList
      rw [sts_len]
      rw [size_list] at this; omega
  have M' := Lib.hid M
  have D' := Lib.hid D
  have SA := Lib.hid (fun v1 v2 W h1 h2 => same v1 v2 R W h1 h2 LN)
  clear M D LN
  go_enter Try.func3, Try.ntmps3
  go_wp2_with fail
  refine (M'.out _).mono ?_
  rintro e w1 ⟨v1, rfl, hk1⟩
  have B1 := Lib.hid hk1.bel
  have V1 := Lib.hid hk1.val
  clear hk1 M'
  go_wp2_with fail
  refine (D'.out _).mono ?_
  rintro e w2 ⟨v2, rfl, hk2⟩
  have B2 := Lib.hid (bstep B1.out hk2.bel)
  have SS := Lib.hid (SA.out v1 v2 w2 (V1.out.next hk2.bel) hk2.val)
  clear hk2 D' SA V1
  go_wp2_with fail
  refine SS.out.mono ?_
  rintro e w3 ⟨rfl, hb3⟩
  have B3 := Lib.hid (bstep B2.out hb3)
  clear hb3 SS
  go_wp2_with fail
  go_ret
  exact ⟨by first | rfl | simp, B3.out⟩
set_option maxHeartbeats 1000000 in
theorem linesLines (al : Option Addr) (cap : Nat) (zs : List Int) (a : Int) (w : World) (hl : IsAt w al zs) (_ : ∀ e ∈ zs, I64 e) (hlc : zs.length ≤ cap) (hmx : cap ≤ maxLen) {Y : Prop} (_ : Y) {X : Prop} (_ : X) :
    Calls Try.prog 5 #[.slice al zs.length cap, .int .i64 a] w fun e w' => e = .returned (.bool true) ∧ Below w.heap.size w w' := by
  obtain ⟨x, c, M, D⟩ : ∃ x c, Calls Try.prog 15 #[.slice al zs.length cap, .int .i64 a] w (LineC.LnPost x c w) ∧ (∀ W, Below w.heap.size w W → Calls Try.prog 16 #[.slice al zs.length cap, .int .i64 a] W (LnPost x c W)) := by
    have hm2 : zs.length ≤ maxLen := by omega
    by_cases hv : Vld 600 zs
    · by_cases ha : a < 0
      · exact ⟨_, _, LineC.line_range zs al cap a w hl hlc hm2 hv ha, fun W hW => line_range zs al cap a W (hl.next hW) hm2 hv ha⟩
      · have h1 := LineC.line_ok zs al cap a w hl hlc hm2 hv (by omega)
        have h2 := fun W (hW : Below w.heap.size w W) => line_ok zs al cap a W (hl.next hW) hm2 hv (by omega)
        obtain ⟨i, hi⟩ : ∃ i, UpTo zs a (i + 1) := by
          obtain ⟨i, hi⟩ := upto_ex a zs
          have := upto_pos hv (by omega) hi
          exact ⟨i - 1, by rw [Nat.sub_add_cancel this]; exact hi⟩
        refine ⟨i, 0, h1.mono ?_, fun W hW => (h2 W hW).mono ?_⟩
        · rintro e w' ⟨j, rfl, h4, h5⟩
          have := upto_one hv.inc hi h4
          obtain rfl : i = j := by omega
          exact ⟨rfl, h5⟩
        · rintro e w' ⟨j, rfl, h4, h5⟩
          have := upto_one hv.inc hi h4
          obtain rfl : i = j := by omega
          exact ⟨rfl, h5⟩
    · exact ⟨_, _, LineC.line_bad zs al cap a w hl hlc hm2 hv, fun W hW => line_bad zs al cap a W (hl.next hW) hm2 hv⟩
  have M' := Lib.hid M
  have D' := Lib.hid D
  clear M D hl hlc
  generalize zs.length = n at *
  go_enter Try.func5, Try.ntmps5
  go_wp2_with fail
  refine M'.out.mono ?_
  rintro e w1 ⟨rfl, hb1⟩
  have B1 := Lib.hid hb1
  clear hb1 M'
  go_wp2_with fail
  refine (D'.out _ B1.out).mono ?_
  rintro e w2 ⟨rfl, hb2⟩
  have B2 := Lib.hid (bstep B1.out hb2)
  clear hb2 D'
  go_wp2_with fail
  go_ret
  exact ⟨by first | rfl | simp, B2.out⟩
end Go.Proofs.Ytfikolidmpjfcaa.LineR
