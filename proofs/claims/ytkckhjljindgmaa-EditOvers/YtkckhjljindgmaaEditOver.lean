/-
  Package edit: what Over answers.
-/
import Derived.Test.YtkckhjljindgmaaEditAt
import Derived.Test.YtkckhjljindgmaaEditCheck
import Derived.Test.YtkckhjljindgmaaEditPlace
import Derived.Test.YtkckhjljindgmaaEditBehind
import Derived.Test.YtkckhjljindgmaaEditConflict
import Derived.Test.YtkckhjljindgmaaBoxes
namespace Go.Proofs.Ytkckhjljindgmaa.EditC
open Go.RowKit Kit EditM

def eZ : EdM := ⟨0, 0, ⟨#[]⟩⟩
/-- an edit over another one -/
def moved (a b : EdM) : EdM := ⟨placed b.at_ b.cut b.put.size a.at_ (behind a b), a.cut, a.put⟩
def flt (n : Int) (e : EdM) : Int := fault n e.at_ e.cut e.put.size
/-- the first error of Over -/
def overC (n : Int) (a b : EdM) : Int :=
  if flt n a ≠ 0 then flt n a
  else if flt n b ≠ 0 then flt n b
  else if clash a b = true then 10
  else flt (n - b.cut + b.put.size) (moved a b)
def overR (n : Int) (a b : EdM) : EdM := if overC n a b = 0 then moved a b else eZ

/-- what Over keeps: its boxes -/
structure OvA (w : World) (a b : EdM) (W : World) : Prop where
  ba : B3 w.heap.size (.int .i64 a.at_) (.int .i64 a.cut) (.string a.put) W
  bb : B3 (w.heap.size + 1) (.int .i64 b.at_) (.int .i64 b.cut) (.string b.put) W
  br : B3 (w.heap.size + 2) (.int .i64 0) (.int .i64 0) (.string ⟨#[]⟩) W
  bel : Below w.heap.size w W
theorem OvA.next {w : World} {a b : EdM} {W W' : World} (h : OvA w a b W) (hb : Below W.heap.size W W') : OvA w a b W' := ⟨h.ba.next hb, h.bb.next hb, h.br.next hb, bstep h.bel hb⟩
theorem ed0i (x0 x1 x2 y0 y1 y2 : Value) (w : World) : (Instr.index 80 (.agg #[x0, x1, x2, y0, y1, y2]) (.int .i64 0)).run Try.prog w = .ok (.agg #[x0, x1, x2]) w := by kernel_rfl
theorem ed1i (x0 x1 x2 y0 y1 y2 : Value) (w : World) : (Instr.index 80 (.agg #[x0, x1, x2, y0, y1, y2]) (.int .i64 1)).run Try.prog w = .ok (.agg #[y0, y1, y2]) w := by kernel_rfl

theorem OvA.new (w : World) (a b : EdM) (t : TypeId) : OvA w a b (((w.alloc (.cells #[.int .i64 a.at_, .int .i64 a.cut, .string a.put] t)).alloc (.cells #[.int .i64 b.at_, .int .i64 b.cut, .string b.put] t)).alloc (.cells #[.int .i64 0, .int .i64 0, .string ⟨#[]⟩] t)) := by
  refine ⟨((B3.new w _ _ _ t).alloc _).alloc _, ?_, ?_, balloc (balloc (balloc (Below.refl _ _) _) _) _⟩
  · have := (B3.new (w.alloc (.cells #[.int .i64 a.at_, .int .i64 a.cut, .string a.put] t)) (.int .i64 b.at_) (.int .i64 b.cut) (.string b.put) t).alloc (.cells #[.int .i64 0, .int .i64 0, .string ⟨#[]⟩] t)
    simpa using this
  · have := B3.new ((w.alloc (.cells #[.int .i64 a.at_, .int .i64 a.cut, .string a.put] t)).alloc (.cells #[.int .i64 b.at_, .int .i64 b.cut, .string b.put] t)) (.int .i64 0) (.int .i64 0) (.string ⟨#[]⟩) t
    simpa using this
/-- the facts that a load wants -/
def OvS (w : World) (a b : EdM) (W : World) : Prop := OvA w a b W ∧ (w.heap.size < W.heap.size ∧ W.cell? ⟨w.heap.size, 0, none⟩ = some (.int .i64 a.at_) ∧ W.cell? ⟨w.heap.size, 1, none⟩ = some (.int .i64 a.cut) ∧ W.cell? ⟨w.heap.size, 2, none⟩ = some (.string a.put)) ∧
  (w.heap.size + 1 < W.heap.size ∧ W.cell? ⟨w.heap.size + 1, 0, none⟩ = some (.int .i64 b.at_) ∧ W.cell? ⟨w.heap.size + 1, 1, none⟩ = some (.int .i64 b.cut) ∧ W.cell? ⟨w.heap.size + 1, 2, none⟩ = some (.string b.put))
theorem OvA.s {w : World} {a b : EdM} {W : World} (h : OvA w a b W) : OvS w a b W := ⟨h, ⟨h.ba.lt, h.ba.c0, h.ba.c1, h.ba.c2⟩, h.bb.lt, h.bb.c0, h.bb.c1, h.bb.c2⟩
theorem OvS.next {w : World} {a b : EdM} {W W' : World} (h : OvS w a b W) (hb : Below W.heap.size W W') : OvS w a b W' := (h.1.next hb).s

def OvM (w : World) (a b : EdM) (km : Nat) (m c p : Value) (W : World) : Prop := OvA w a b W ∧ (km < W.heap.size ∧ W.cell? ⟨km, 0, none⟩ = some m ∧ W.cell? ⟨km, 1, none⟩ = some c ∧ W.cell? ⟨km, 2, none⟩ = some p) ∧
  (w.heap.size + 1 < W.heap.size ∧ W.cell? ⟨w.heap.size + 1, 0, none⟩ = some (.int .i64 b.at_) ∧ W.cell? ⟨w.heap.size + 1, 1, none⟩ = some (.int .i64 b.cut) ∧ W.cell? ⟨w.heap.size + 1, 2, none⟩ = some (.string b.put))
theorem OvM.of {w : World} {a b : EdM} {km : Nat} {m c p : Value} {W : World} (h : OvA w a b W ∧ B3 km m c p W) : OvM w a b km m c p W := ⟨h.1, ⟨h.2.lt, h.2.c0, h.2.c1, h.2.c2⟩, h.1.s.2.2⟩
theorem OvM.next {w : World} {a b : EdM} {km : Nat} {m c p : Value} {W W' : World} (h : OvM w a b km m c p W) (hb : Below W.heap.size W W') : OvM w a b km m c p W' :=
  ⟨h.1.next hb, ⟨Nat.lt_of_lt_of_le h.2.1.1 hb.size, keep hb h.2.1.1 h.2.1.2.1, keep hb h.2.1.1 h.2.1.2.2.1, keep hb h.2.1.1 h.2.1.2.2.2⟩, (h.1.next hb).s.2.2⟩

theorem placed_le {a c x : Int} {p : Nat} {r : Bool} (a0 : 0 ≤ a) (a1 : a ≤ 600) (_c0 : 0 ≤ c) (x0 : 0 ≤ x) (x1 : x ≤ 600) : placed a c p x r ≤ 1200 + p := by
  unfold placed; split
  · omega
  · split
    · split <;> omega
    · omega

theorem bset3 {w W : World} (h : Below w.heap.size w W) {k : Nat} (hk : w.heap.size ≤ k) (x y z : Value) : Below w.heap.size w (((W.setCell ⟨k, 0, none⟩ x).setCell ⟨k, 1, none⟩ y).setCell ⟨k, 2, none⟩ z) :=
  ((h.setCell (p := ⟨k, 0, none⟩) hk x).setCell (p := ⟨k, 1, none⟩) hk y).setCell (p := ⟨k, 2, none⟩) hk z

set_option maxRecDepth 100000 in
set_option maxHeartbeats 4000000 in
theorem over (n : Int) (a b : EdM) (w : World) (ha : a.ok) (hb : b.ok) :
    Calls Try.prog 22 #[.int .i64 n, .agg #[.int .i64 a.at_, .int .i64 a.cut, .string a.put], .agg #[.int .i64 b.at_, .int .i64 b.cut, .string b.put]] w fun e w' => e = .returned (.tuple #[.agg #[.int .i64 (overR n a b).at_, .int .i64 (overR n a b).cut, .string (overR n a b).put], .int .i64 (overC n a b)]) ∧ Below w.heap.size w w' := by
  have CA := Lib.hid (fun W => check n a.at_ a.cut a.put W ha.a1 ha.p)
  have CB := Lib.hid (fun W => check n b.at_ b.cut b.put W hb.a1 hb.p)
  have FA := Lib.hid (show flt n a = fault n a.at_ a.cut a.put.size from rfl)
  have FB := Lib.hid (show flt n b = fault n b.at_ b.cut b.put.size from rfl)
  have OC := Lib.hid (show overC n a b = _ from rfl)
  unfold overC at OC
  have H0 := Lib.hid (OvA.new w a b 23)
  rw [← FA.out] at CA
  rw [← FB.out] at CB
  have i0 := ed0i
  have i1 := ed1i
  go_enter Try.func22, Try.ntmps22
  go_wp2_with fail
  go_loopw [18] (fun i wr => ∃ j : Int, (j = 0 ∨ (j = 1 ∧ flt n a = 0) ∨ (j = 2 ∧ flt n a = 0 ∧ flt n b = 0)) ∧ i = .int .i64 j ∧ OvA w a b wr) (fun i _ => (2 - intOf i).toNat)
  case atStart => exact ⟨0, .inl rfl, rfl, H0.out⟩
  case round =>
    obtain ⟨j, hj, rfl, hov⟩ := hrel
    clear H0
    have HV := Lib.hid hov
    clear hov
    rcases hj with rfl | ⟨rfl, hfa⟩ | ⟨rfl, hfa, hfb⟩
    · by_cases h0 : flt n a = 0
      · have HF := Lib.hid h0
        rw [h0] at CA
        clear h0
        go_wp2_with fail
        refine (CA.out _).mono ?_
        rintro e w1 ⟨rfl, hb1⟩
        have V1 := Lib.hid ((HV.out.next (balloc (Below.refl _ _) _)).next hb1)
        clear hb1
        go_wp2_with fail
        go_roundw
        case rel => exact ⟨1, .inr (.inl ⟨rfl, HF.out⟩), rfl, V1.out⟩
        case measure => simp [intOf]
      · have R : Hid (overC n a b = flt n a) := by show _ = _; unfold overC; rw [if_pos h0]
        have R2 : Hid (overR n a b = eZ) := by show _ = _; unfold overR; rw [R.out, if_neg h0]
        have g0 : (flt n a != 0) = true := by simpa using h0
        generalize flt n a = fa at *
        clear h0
        go_wp2_with fail
        refine (CA.out _).mono ?_
        rintro e w1 ⟨rfl, hb1⟩
        have V1 := Lib.hid ((HV.out.next (balloc (Below.refl _ _) _)).next hb1)
        clear hb1
        obtain ⟨r0, r1, r2, r3, r4, r5, r6⟩ := V1.out.br
        go_wp2_with fail
        refine bodyPost_ret (v := .tuple #[.agg #[.int .i64 0, .int .i64 0, .string ⟨#[]⟩], .int .i64 fa]) (by simp [results, Try.results22, go_sem, *]) rfl ⟨by rw [R2.out, R.out]; rfl, bset3 V1.out.bel (by omega) _ _ _⟩
    · have HFA := Lib.hid hfa
      clear hfa
      by_cases h0 : flt n b = 0
      · have HF := Lib.hid h0
        rw [h0] at CB
        clear h0
        go_wp2_with fail
        refine (CB.out _).mono ?_
        rintro e w1 ⟨rfl, hb1⟩
        have V1 := Lib.hid ((HV.out.next (balloc (Below.refl _ _) _)).next hb1)
        clear hb1
        go_wp2_with fail
        go_roundw
        case rel => exact ⟨2, .inr (.inr ⟨rfl, HFA.out, HF.out⟩), rfl, V1.out⟩
        case measure => simp [intOf]
      · have R : Hid (overC n a b = flt n b) := by show _ = _; unfold overC; rw [if_neg (by simpa using HFA.out), if_pos h0]
        have R2 : Hid (overR n a b = eZ) := by show _ = _; unfold overR; rw [R.out, if_neg h0]
        have g0 : (flt n b != 0) = true := by simpa using h0
        generalize flt n b = fa at *
        clear h0
        go_wp2_with fail
        refine (CB.out _).mono ?_
        rintro e w1 ⟨rfl, hb1⟩
        have V1 := Lib.hid ((HV.out.next (balloc (Below.refl _ _) _)).next hb1)
        clear hb1
        obtain ⟨r0, r1, r2, r3, r4, r5, r6⟩ := V1.out.br
        go_wp2_with fail
        refine bodyPost_ret (v := .tuple #[.agg #[.int .i64 0, .int .i64 0, .string ⟨#[]⟩], .int .i64 fa]) (by simp [results, Try.results22, go_sem, *]) rfl ⟨by rw [R2.out, R.out]; rfl, bset3 V1.out.bel (by omega) _ _ _⟩
    · have HFA := Lib.hid hfa
      have HFB := Lib.hid hfb
      obtain ⟨n0, n6, a0, ac0, a2, a3⟩ := fault_zero.1 hfa
      obtain ⟨_, _, b0, bc0, b2, b3⟩ := fault_zero.1 hfb
      clear hfa hfb i0 i1 CA CB
      have CF := Lib.hid (fun W => conflict a b W a0 (by omega) ac0 (by omega) b0 (by omega) bc0 (by omega) ha.p hb.p)
      have s0 := HV.out.s
      obtain ⟨_, ⟨_, s1, s2, s3⟩, _, s4, s5, s6⟩ := s0
      by_cases hcl : clash a b = true
      · have R : Hid (overC n a b = 10) := by show _ = _; unfold overC; rw [if_neg (by simpa using HFA.out), if_neg (by simpa using HFB.out), if_pos hcl]
        have R2 : Hid (overR n a b = eZ) := by show _ = _; unfold overR; rw [R.out, if_neg (by decide)]
        rw [hcl] at CF
        clear hcl
        go_wp2_with fail
        refine (CF.out _).mono ?_
        rintro e w1 ⟨rfl, hb1⟩
        have V1 := Lib.hid (HV.out.next hb1)
        clear hb1
        obtain ⟨r0, r1, r2, r3, r4, r5, r6⟩ := V1.out.br
        go_wp2_with fail
        refine bodyPost_ret (v := .tuple #[.agg #[.int .i64 0, .int .i64 0, .string ⟨#[]⟩], .int .i64 10]) (by simp [results, Try.results22, go_sem, *]) rfl ⟨by rw [R2.out, R.out]; rfl, bset3 V1.out.bel (by omega) _ _ _⟩
      · have hcf : clash a b = false := by simpa using hcl
        have R : Hid (overC n a b = flt (n - b.cut + b.put.size) (moved a b)) := by show _ = _; unfold overC; rw [if_neg (by simpa using HFA.out), if_neg (by simpa using HFB.out), if_neg hcl]
        rw [hcf] at CF
        have GB := Lib.hid (fun W => goesBehind a b W)
        have PL := Lib.hid (fun W => place_ok b.at_ b.cut a.at_ b.put (behind a b) W b0 (by omega) bc0 (by omega) a0 (by omega) hb.p)
        have pm := placed_le (a := b.at_) (c := b.cut) (x := a.at_) (p := b.put.size) (r := behind a b) b0 (by omega) bc0 a0 (by omega)
        have hbp := hb.p
        have SA := Lib.hid (fun W => sizeAfter n b.at_ b.cut b.put W n0 n6 bc0 (by omega) hb.p)
        have CM := Lib.hid (fun W => check (n - b.cut + b.put.size) (moved a b).at_ a.cut a.put W (by show placed _ _ _ _ _ ≤ _; omega) ha.p)
        have MV : Hid (moved a b = ⟨(moved a b).at_, a.cut, a.put⟩) := by show _ = _; rfl
        have MP : Hid (placed b.at_ b.cut b.put.size a.at_ (behind a b) = (moved a b).at_) := by show _ = _; rfl
        rw [MP.out] at PL
        clear hcl hcf pm a0 ac0 a2 a3 b0 bc0 b2 b3 n0 n6
        have FM : Hid (fault (n - b.cut + b.put.size) (moved a b).at_ a.cut a.put.size = flt (n - b.cut + b.put.size) (moved a b)) := by show _ = _; rfl
        rw [FM.out] at CM
        generalize behind a b = rr at *
        go_wp2_with fail
        refine (CF.out _).mono ?_
        rintro e w1 ⟨rfl, hb1⟩
        have V1 := Lib.hid (HV.out.next hb1)
        clear hb1 s1 s2 s3 s4 s5 s6 HV CF
        go_upto_region 10 with fail
        go_region_held3 (fun W => OvA w a b W ∧ (w.heap.size < W.heap.size ∧ W.cell? ⟨w.heap.size, 0, none⟩ = some (.int .i64 a.at_) ∧ W.cell? ⟨w.heap.size, 1, none⟩ = some (.int .i64 a.cut) ∧ W.cell? ⟨w.heap.size, 2, none⟩ = some (.string a.put)) ∧ (w.heap.size + 1 < W.heap.size ∧ W.cell? ⟨w.heap.size + 1, 0, none⟩ = some (.int .i64 b.at_) ∧ W.cell? ⟨w.heap.size + 1, 1, none⟩ = some (.int .i64 b.cut) ∧ W.cell? ⟨w.heap.size + 1, 2, none⟩ = some (.string b.put)))
          (first | exact V1.out.s.next ((Below.refl _ _).drew) | exact OvS.next (by assumption) (by assumption))
          (first | (go_at_call 41; refine (GB.out _).mono ?_; rintro e w' ⟨rfl, hb⟩) | (go_at_call 20; refine (PL.out _).mono ?_; rintro e w' ⟨rfl, hb⟩))
        rename_i hH
        clear hb
        generalize w' = W2 at *
        have V2 := Lib.hid hH.1
        obtain ⟨_, ⟨_, s1, s2, s3⟩, _⟩ := hH
        clear V1 GB PL
        go_upto_region 12 with fail
        have X3 : Hid (OvA w a b (W2.alloc (.cells #[.int .i64 (moved a b).at_, .int .i64 a.cut, .string a.put] 23)) ∧ B3 W2.heap.size (.int .i64 (moved a b).at_) (.int .i64 a.cut) (.string a.put) (W2.alloc (.cells #[.int .i64 (moved a b).at_, .int .i64 a.cut, .string a.put] 23))) := Lib.hid ⟨V2.out.next (balloc (Below.refl _ _) _), B3.new _ _ _ _ _⟩
        clear V2 s1 s2 s3
        generalize W2.alloc (.cells #[.int .i64 (moved a b).at_, .int .i64 a.cut, .string a.put] 23) = W3 at *
        generalize W2.heap.size = km at *
        go_region_held3 (fun W => OvA w a b W ∧ (km < W.heap.size ∧ W.cell? ⟨km, 0, none⟩ = some (.int .i64 (moved a b).at_) ∧ W.cell? ⟨km, 1, none⟩ = some (.int .i64 a.cut) ∧ W.cell? ⟨km, 2, none⟩ = some (.string a.put)) ∧ (w.heap.size + 1 < W.heap.size ∧ W.cell? ⟨w.heap.size + 1, 0, none⟩ = some (.int .i64 b.at_) ∧ W.cell? ⟨w.heap.size + 1, 1, none⟩ = some (.int .i64 b.cut) ∧ W.cell? ⟨w.heap.size + 1, 2, none⟩ = some (.string b.put)))
          (first | exact (OvM.of X3.out).next ((Below.refl _ _).drew) | exact OvM.next (by assumption) (by assumption))
          (first | (go_at_call 34; refine (SA.out _).mono ?_; rintro e w' ⟨rfl, hb⟩) | (go_at_call 14; refine (CM.out _).mono ?_; rintro e w' ⟨rfl, hb⟩))
        rename_i hH
        obtain ⟨V4, ⟨_, s1, s2, s3⟩, _⟩ := hH
        have V5 := Lib.hid V4
        obtain ⟨r0, r1, r2, r3, r4, r5, r6⟩ := V4.br
        clear V4 X3 SA CM
        by_cases h0 : flt (n - b.cut + b.put.size) (moved a b) = 0
        · have R1 := Lib.hid (R.out.trans h0)
          have R2 : Hid (overR n a b = ⟨(moved a b).at_, a.cut, a.put⟩) := by show _ = _; unfold overR; rw [if_pos R1.out]; rfl
          rw [h0]
          generalize (moved a b).at_ = ma at *
          clear h0 R FM
          go_wp2_with fail
          refine bodyPost_ret (v := .tuple #[.agg #[.int .i64 ma, .int .i64 a.cut, .string a.put], .int .i64 0]) (by simp [results, Try.results22, go_sem, *]) rfl ⟨by rw [R2.out, R1.out], bset3 V5.out.bel (by omega) _ _ _⟩
        · have R2 : Hid (overR n a b = eZ) := by show _ = _; unfold overR; rw [R.out, if_neg h0]
          have g0 : (flt (n - b.cut + b.put.size) (moved a b) != 0) = true := by simpa using h0
          generalize flt (n - b.cut + b.put.size) (moved a b) = fm at *
          clear h0
          go_wp2_with fail
          refine bodyPost_ret (v := .tuple #[.agg #[.int .i64 0, .int .i64 0, .string ⟨#[]⟩], .int .i64 fm]) (by simp [results, Try.results22, go_sem, *]) rfl ⟨by rw [R2.out, R.out]; rfl, bset3 V5.out.bel (by omega) _ _ _⟩

end Go.Proofs.Ytkckhjljindgmaa.EditC
