/-
  The law SpansShifts, walked.
-/
import Derived.Test.YtdiogfhbgmkajaaRefShift
import Derived.Test.YtdiogfhbgmkajaaSpansLawsA
namespace Go.Proofs.Ytdiogfhbgmkajaa.SpanR
open Go.RowKit Kit SpanM SpanC EditM
theorem valid_ofB {n : Int} {l : List SpM} (h : mayB n l = true) : Valid n l := Classical.byContradiction fun q => by rw [mayB_no q] at h; cases h
set_option maxHeartbeats 1000000 in
theorem shift_no (n : Int) (l : List SpM) (al : Option Addr) (cap : Nat) (a c : Int) (p : ByteArray) (w : World) (hl : SpsAt w al l) (hmx : l.length ≤ 9223372036854775807) (hp : p.size ≤ 140737488351232) (ha : a ≤ 9223372036854775807) (_hc : c ≤ 9223372036854775807) (m : Nat) (h : ¬ (mayB n l = true ∧ fault n a c p.size = 0)) :
    Calls Try.prog 21 #[.int .i64 n, .slice al l.length cap, .agg #[.int .i64 a, .int .i64 c, .string p]] w (SetPost (shC n l a c p.size m) [] w) := by
  obtain ⟨w0, hw0⟩ : ∃ w0, w0 = w.alloc (.cells #[.int .i64 a, .int .i64 c, .string p] 33) := ⟨_, rfl⟩
  have HL : Hid (SpsAt w0 al l) := Lib.hid (by rw [hw0]; exact hl.next (balloc (Below.refl _ _) _))
  have HB : Hid (B3 w.heap.size (.int .i64 a) (.int .i64 c) (.string p) w0) := Lib.hid (by rw [hw0]; exact B3.new _ _ _ _ _)
  have HW : Hid (Below w.heap.size w w0) := Lib.hid (by rw [hw0]; exact balloc (Below.refl _ _) _)
  have MY := Lib.hid (may n l al cap w0 HL.out hmx)
  have CK := Lib.hid (fun W => EditC.check n a c p W ha hp)
  clear hl
  cases hm : mayB n l
  · rw [show shC n l a c p.size m = 4 by unfold shC; rw [hm]; rfl]
    rw [hm] at MY
    clear hm h HL
    generalize l.length = N at *
    go_enter Try.func21, Try.ntmps21
    go_wp2_with fail
    rw [← hw0]
    refine MY.out.mono ?_
    rintro e w1 ⟨rfl, hb1⟩
    have B := Lib.hid (bstep HW.out hb1)
    clear hb1 MY
    go_wp2_with fail
    go_ret2
    exact ⟨_, rfl, SpK.nil B.out⟩
  · have hf : fault n a c p.size ≠ 0 := fun q => h ⟨hm, q⟩
    rw [show shC n l a c p.size m = fault n a c p.size by unfold shC; rw [hm, if_pos rfl, if_neg hf]]
    rw [hm] at MY
    have OL : Hid (outL (fault n a c p.size) [] = []) := Lib.hid (outL_no _ hf)
    have g : (fault n a c p.size != 0) = true := by simpa using hf
    clear hm h HL hf
    generalize fault n a c p.size = fv at *
    generalize l.length = N at *
    go_enter Try.func21, Try.ntmps21
    go_wp2_with fail
    rw [← hw0]
    clear hw0
    refine MY.out.mono ?_
    rintro e w1 ⟨rfl, hb1⟩
    have B := Lib.hid (bstep HW.out hb1)
    obtain ⟨_, d0, d1, d2, _, _, _⟩ := HB.out.next hb1
    clear hb1 MY
    go_wp2_with fail
    refine (CK.out _).mono ?_
    rintro e w2 ⟨rfl, hb2⟩
    have B2 := Lib.hid (bstep B.out hb2)
    clear hb2 CK d0 d1 d2
    go_wp2_with fail
    go_ret2
    exact ⟨_, rfl, by rw [OL.out]; exact SpK.nil B2.out⟩
set_option maxHeartbeats 1000000 in
theorem shift_no_ref (n : Int) (l : List SpM) (al : Option Addr) (cap : Nat) (a c : Int) (p : ByteArray) (w : World) (hl : SpsAt w al l) (hmx : l.length ≤ 9223372036854775807) (hp : p.size ≤ 140737488351232) (ha : a ≤ 9223372036854775807) (hc : c ≤ 9223372036854775807) (m : Nat) (h : ¬ (mayB n l = true ∧ fault n a c p.size = 0)) :
    Calls Try.prog 22 #[.int .i64 n, .slice al l.length cap, .agg #[.int .i64 a, .int .i64 c, .string p]] w (SetPost (shC n l a c p.size m) [] w) := by
  obtain ⟨w0, hw0⟩ : ∃ w0, w0 = w.alloc (.cells #[.int .i64 a, .int .i64 c, .string p] 33) := ⟨_, rfl⟩
  have HL : Hid (SpsAt w0 al l) := Lib.hid (by rw [hw0]; exact hl.next (balloc (Below.refl _ _) _))
  have HB : Hid (B3 w.heap.size (.int .i64 a) (.int .i64 c) (.string p) w0) := Lib.hid (by rw [hw0]; exact B3.new _ _ _ _ _)
  have HW : Hid (Below w.heap.size w w0) := Lib.hid (by rw [hw0]; exact balloc (Below.refl _ _) _)
  have MY := Lib.hid (may_ref n l al cap w0 HL.out hmx)
  have CK := Lib.hid (fun W => EditR.fault_ref n a c p W ha hc hp)
  clear hl
  cases hm : mayB n l
  · rw [show shC n l a c p.size m = 4 by unfold shC; rw [hm]; rfl]
    rw [hm] at MY
    clear hm h HL
    generalize l.length = N at *
    go_enter Try.func22, Try.ntmps22
    go_wp2_with fail
    rw [← hw0]
    refine MY.out.mono ?_
    rintro e w1 ⟨rfl, hb1⟩
    have B := Lib.hid (bstep HW.out hb1)
    clear hb1 MY
    go_wp2_with fail
    go_ret2
    exact ⟨_, rfl, SpK.nil B.out⟩
  · have hf : fault n a c p.size ≠ 0 := fun q => h ⟨hm, q⟩
    rw [show shC n l a c p.size m = fault n a c p.size by unfold shC; rw [hm, if_pos rfl, if_neg hf]]
    rw [hm] at MY
    have OL : Hid (outL (fault n a c p.size) [] = []) := Lib.hid (outL_no _ hf)
    have g : (fault n a c p.size != 0) = true := by simpa using hf
    clear hm h HL hf
    generalize fault n a c p.size = fv at *
    generalize l.length = N at *
    go_enter Try.func22, Try.ntmps22
    go_wp2_with fail
    rw [← hw0]
    clear hw0
    refine MY.out.mono ?_
    rintro e w1 ⟨rfl, hb1⟩
    have B := Lib.hid (bstep HW.out hb1)
    obtain ⟨_, d0, d1, d2, _, _, _⟩ := HB.out.next hb1
    clear hb1 MY
    go_wp2_with fail
    refine (CK.out _).mono ?_
    rintro e w2 ⟨rfl, hb2⟩
    have B2 := Lib.hid (bstep B.out hb2)
    clear hb2 CK d0 d1 d2
    go_wp2_with fail
    go_ret2
    exact ⟨_, rfl, by rw [OL.out]; exact SpK.nil B2.out⟩
set_option maxHeartbeats 1000000 in
theorem spansShifts (n : Int) (al : Option Addr) (cap : Nat) (l : List SpM) (e0 : EdM) (w : World) {X : Prop} (_ : X) (hl : SpsAt w al l) (_ : ∀ e ∈ l, e.ok) (hlc : l.length ≤ cap) (hmx : cap ≤ maxLen) {Y : Prop} (_ : Y) (hok : e0.ok) :
    Calls Try.prog 6 #[.int .i64 n, .slice al l.length cap, .agg #[.int .i64 e0.at_, .int .i64 e0.cut, .string e0.put]] w fun e w' => e = .returned (.bool true) ∧ Below w.heap.size w w' := by
  unfold maxLen at hmx
  obtain ⟨_, h2, _, h4, h5⟩ := hok
  obtain ⟨a, c, p⟩ := e0
  dsimp only at *
  have A0 := Lib.hid (balloc (Below.refl w.heap.size w) (.cells #[.int .i64 a, .int .i64 c, .string p] 33))
  obtain ⟨cd, es, M, R, LN⟩ : ∃ cd es, (∀ W, Below w.heap.size w W → Calls Try.prog 21 #[.int .i64 n, .slice al l.length cap, .agg #[.int .i64 a, .int .i64 c, .string p]] W (SetPost cd es W)) ∧ (∀ W, Below w.heap.size w W → Calls Try.prog 22 #[.int .i64 n, .slice al l.length cap, .agg #[.int .i64 a, .int .i64 c, .string p]] W (SetPost cd es W)) ∧ (outL cd es).length ≤ 40 := by
    by_cases hc : mayB n l = true ∧ fault n a c p.size = 0
    · refine ⟨_, _, fun W hW => shift_ok n l al cap a c p W (hl.next hW) (valid_ofB hc.1) hc.2 h5 h2 _ rfl _ rfl, fun W hW => shift_ok_ref n l al cap a c p W (hl.next hW) (valid_ofB hc.1) hc.2 h5 h2 h4 _ rfl _ rfl, ?_⟩
      split
      · rw [outL_no _ (by decide)]; simp
      · rw [outL_zero]; omega
    · refine ⟨_, _, fun W hW => shift_no n l al cap a c p W (hl.next hW) (by omega) h5 h2 h4 0 hc, fun W hW => shift_no_ref n l al cap a c p W (hl.next hW) (by omega) h5 h2 h4 0 hc, ?_⟩
      unfold outL; split <;> simp
  have M' := Lib.hid (M _ A0.out)
  have R' := Lib.hid R
  have SA := Lib.hid (fun v1 v2 W h1 h2 => same v1 v2 (outL cd es) W h1 h2 (by omega))
  clear hl M R LN h2 h4 h5
  generalize l.length = N at *
  go_enter Try.func6, Try.ntmps6
  go_wp2_with fail
  refine M'.out.mono ?_
  rintro e w1 ⟨v1, rfl, hk1⟩
  have hb1 := hk1.bel
  have V1 := Lib.hid hk1.val
  obtain ⟨_, d0, d1, d2, _, _, _⟩ := (B3.new w (.int .i64 a) (.int .i64 c) (.string p) 33).next hb1
  have B := Lib.hid (bstep A0.out hb1)
  clear hb1 hk1 M'
  go_wp2_with fail
  refine (R'.out _ B.out).mono ?_
  rintro e w2 ⟨v2, rfl, hk2⟩
  have B2 := Lib.hid (bstep B.out hk2.bel)
  have SS := Lib.hid (SA.out v1 v2 w2 (V1.out.next hk2.bel) hk2.val)
  clear hk2 R'
  go_wp2_with fail
  refine SS.out.mono ?_
  rintro e w3 ⟨rfl, hb3⟩
  have B3 := Lib.hid (bstep B2.out hb3)
  clear hb3 SS
  go_wp2_with fail
  go_ret
  exact ⟨by first | rfl | simp, B3.out⟩
end Go.Proofs.Ytdiogfhbgmkajaa.SpanR
