/-
  The law LinesUpdates, walked.
-/
import Derived.Test.YtfikolidmpjfcaaLinesLawsW
import Derived.Test.YtfikolidmpjfcaaRefLUpdate
import Derived.Test.YtfikolidmpjfcaaEditAt
namespace Go.Proofs.Ytfikolidmpjfcaa.LineR
open Go.RowKit Kit EditM LineM

set_option maxHeartbeats 1000000 in
theorem linesUpdates (al : Option Addr) (cap : Nat) (zs : List Int) (size : Int) (e0 : EdM) (w : World) (hl : IsAt w al zs) (_ : ∀ e ∈ zs, I64 e) (hlc : zs.length ≤ cap) (hmx : cap ≤ maxLen) {Y : Prop} (_ : Y) {X : Prop} (_ : X) (hok : e0.ok) :
    Calls Try.prog 4 #[.slice al zs.length cap, .int .i64 size, .agg #[.int .i64 e0.at_, .int .i64 e0.cut, .string e0.put]] w fun e w' => e = .returned (.bool true) ∧ Below w.heap.size w w' := by
  obtain ⟨_, h2, _, h4, h5⟩ := hok
  obtain ⟨a, c, p⟩ := e0
  dsimp only at *
  have A0 := Lib.hid (balloc (Below.refl w.heap.size w) (.cells #[.int .i64 a, .int .i64 c, .string p] 29))
  obtain ⟨R, cd, M, D, LN⟩ : ∃ R cd, (∀ W, Below w.heap.size w W → Calls Try.prog 13 #[.slice al zs.length cap, .int .i64 size, .agg #[.int .i64 a, .int .i64 c, .string p]] W (IsPost W R cd)) ∧ (∀ W, Below w.heap.size w W → Calls Try.prog 14 #[.slice al zs.length cap, .int .i64 size, .agg #[.int .i64 a, .int .i64 c, .string p]] W (IsPost W R cd)) ∧ R.length ≤ 100000 := by
    have hm2 : zs.length ≤ maxLen := by omega
    by_cases hv : Vld size zs
    · by_cases hf : fault size a c p.size = 0
      · obtain ⟨f1, f2, f3, f4, f5, f6⟩ := fault_zero.1 hf
        obtain ⟨n, rfl⟩ := Int.eq_ofNat_of_zero_le f1
        obtain ⟨a, rfl⟩ := Int.eq_ofNat_of_zero_le f3
        obtain ⟨c, rfl⟩ := Int.eq_ofNat_of_zero_le f4
        refine ⟨sts (made (txt zs n) a c p.data.toList), 0, fun W hW => ?_, fun W hW => update_ok n zs al cap a c p W (hl.next hW) hv (by omega) (by omega) (by omega), ?_⟩
        · have e := sts_txt hv (Int.le_refl _)
          have := LineC.update_ok (txt zs n) al cap a c p W (by rw [e]; exact hl.next hW) (by rw [e]; exact hlc) (by rw [txt_len]; omega) (by rw [txt_len]; omega) (by rw [txt_len]; omega)
          rw [e, txt_len] at this
          exact this
        · have := PosM.lns_col_le (made (txt zs n) a c p.data.toList)
          rw [made_length (by rw [txt_len]; omega), txt_len, size_list] at this
          rw [sts_len]; omega
      · exact ⟨_, _, fun W hW => LineC.update_fault size zs al cap a c p W (hl.next hW) hlc hm2 hv h2 h5 hf, fun W hW => update_fault size zs al cap a c p W (hl.next hW) hm2 hv h2 h4 h5 hf, by simp⟩
    · exact ⟨_, _, fun W hW => LineC.update_bad size zs al cap a c p W (hl.next hW) hlc hm2 hv, fun W hW => update_bad size zs al cap a c p W (hl.next hW) hm2 hv, by simp⟩
  have M' := Lib.hid (M _ A0.out)
  have D' := Lib.hid D
  have SA := Lib.hid (fun v1 v2 W h1 h2 => same v1 v2 R W h1 h2 LN)
  clear hl M D LN h2 h4 h5
  generalize zs.length = n at *
  go_enter Try.func4, Try.ntmps4
  go_wp2_with fail
  refine M'.out.mono ?_
  rintro e w1 ⟨v1, rfl, hk1⟩
  have hb1 := hk1.bel
  have V1 := Lib.hid hk1.val
  obtain ⟨_, d0, d1, d2, _, _, _⟩ := (B3.new w (.int .i64 a) (.int .i64 c) (.string p) 29).next hb1
  have B := Lib.hid (bstep A0.out hb1)
  clear hb1 hk1 M'
  go_wp2_with fail
  refine (D'.out _ B.out).mono ?_
  rintro e w2 ⟨v2, rfl, hk2⟩
  have B2 := Lib.hid (bstep B.out hk2.bel)
  have SS := Lib.hid (SA.out v1 v2 w2 (V1.out.next hk2.bel) hk2.val)
  clear hk2 D'
  go_wp2_with fail
  refine SS.out.mono ?_
  rintro e w3 ⟨rfl, hb3⟩
  have B3 := Lib.hid (bstep B2.out hb3)
  clear hb3 SS
  go_wp2_with fail
  go_ret
  exact ⟨by first | rfl | simp, B3.out⟩
end Go.Proofs.Ytfikolidmpjfcaa.LineR
