/-
  Package hist: execute (one deed).
-/
import Derived.Test.YtkeacipjjoeieaaHistDo2
import Derived.Test.YtkeacipjjoeieaaHistRedo
namespace Go.Proofs.Ytkeacipjjoeieaa.HistC
open Go.RowKit Kit EditM EditC EditK HistM

/-- a call's own memory lies ahead of it -/
theorem ExPost.ahead {s : TL} {c : Int} {k : Nat} {F : Nat → Prop} {N : Nat} {w w1 : World} (hb : Below w.heap.size w w1) {x : Ending} {w' : World} (h : ExPost s c k F N w1 x w') (hF : ∀ b, F b → b < w.heap.size) : ExPost s c k F N w x w' := by
  obtain ⟨h1, h2, h3⟩ := h
  refine ⟨h1, h2.mono (fun b q => q.imp id fun q => ⟨Nat.le_trans hb.size q.1, q.2⟩) (fun b q => ?_) (Nat.le_refl _), ?_⟩
  · rcases q with q | q
    · exact Nat.lt_of_lt_of_le (hF b q) (Nat.le_trans hb.size h3.size)
    · exact q.2
  · exact (Fr.of_below hb).trans (h3.mono fun b q _ => .inl q)
set_option maxRecDepth 100000 in
set_option maxHeartbeats 2000000 in
theorem execute (s : TL) (k : Nat) (F : Nat → Prop) (N : Nat) (d : DeedM) (w : World) (h : HOk s k F N w) (hN2 : N ≤ 1000) (eok : d.ed.ok) :
    Calls Try.prog 21 #[.pointer (some ⟨k, 0, none⟩), .agg #[.int .i64 d.kind, .int .i64 d.ed.at_, .int .i64 d.ed.cut, .string d.ed.put]] w (ExPost (s.step d).1 (s.step d).2 k F (N + 1) w) := by
  have HF : Hid (∀ b, F b → b < w.heap.size) := Lib.hid fun b q => h.lt q
  have B1 : Hid (Below w.heap.size w (w.alloc (.cells #[.int .i64 d.kind, .int .i64 d.ed.at_, .int .i64 d.ed.cut, .string d.ed.put] 45))) := Lib.hid (balloc (Below.refl _ _) _)
  have H1 : HOk s k F N (w.alloc (.cells #[.int .i64 d.kind, .int .i64 d.ed.at_, .int .i64 d.ed.cut, .string d.ed.put] 45)) := h.kept B1.out.size fun b q => B1.out.block b (h.lt q)
  obtain ⟨knd, e⟩ := d
  dsimp only at *
  unfold TL.step
  dsimp only
  by_cases h1 : knd = 1
  · subst h1
    rw [if_pos rfl]
    have DO : Hid (Calls Try.prog 25 #[.pointer (some ⟨k, 0, none⟩), .agg #[.int .i64 e.at_, .int .i64 e.cut, .string e.put]] (w.alloc (.cells #[.int .i64 1, .int .i64 e.at_, .int .i64 e.cut, .string e.put] 45)) (ExPost (if e.fault s.now = 0 then (s.edit (e.step s.now), 0) else (s, e.fault s.now)).1 (if e.fault s.now = 0 then (s.edit (e.step s.now), 0) else (s, e.fault s.now)).2 k F (N + 1) (w.alloc (.cells #[.int .i64 1, .int .i64 e.at_, .int .i64 e.cut, .string e.put] 45)))) := Lib.hid (by
      by_cases hf : e.fault s.now = 0
      · rw [if_pos hf]; exact do_ok s k F N e _ H1 hN2 eok hf
      · rw [if_neg hf]; exact do_err s k F N e _ H1 eok hf)
    generalize (if e.fault s.now = 0 then (s.edit (e.step s.now), 0) else (s, e.fault s.now)).1 = s' at *
    generalize (if e.fault s.now = 0 then (s.edit (e.step s.now), 0) else (s, e.fault s.now)).2 = c' at *
    clear h H1 eok
    obtain ⟨a, c, p⟩ := e
    dsimp only at *
    go_enter Try.func21, Try.ntmps21
    go_wp2_with fail
    refine DO.out.mono ?_
    rintro e w1 ⟨rfl, hx⟩
    have HE := Lib.hid hx
    clear hx
    go_wp2_with fail
    go_ret
    exact ExPost.ahead B1.out ⟨rfl, HE.out⟩ HF.out
  rw [if_neg h1]
  by_cases h2 : knd = 2
  · subst h2
    rw [if_pos rfl]
    obtain ⟨gs, vu, vr, vs, hr, hN, hx⟩ := h
    have HXm := Lib.hid ((hx.mark false).next (balloc (Below.refl _ _) (.cells #[.int .i64 2, .int .i64 e.at_, .int .i64 e.cut, .string e.put] 45)))
    have HR := Lib.hid (hr.mark hr.ok.lt)
    have HNN : Hid (∀ g ∈ gs, g.length ≤ N + 1) := Lib.hid fun g hg => Nat.le_succ_of_le (hN g hg)
    have hkF := hx.kF
    obtain ⟨klt, q0, q1, q2, q3, qf⟩ := hx.box
    have qf3 := qf 3
    have kne : ¬ k = w.heap.size := by omega
    clear H1 hx hr hN qf q0 q1 q2 eok
    obtain ⟨a, c, p⟩ := e
    dsimp only at *
    go_enter Try.func21, Try.ntmps21
    go_wp2_with fail
    go_ret
    refine ⟨rfl, ⟨gs, vu, vr, vs, HR.out, HNN.out, HXm.out.mono (fun b q => Or.inl q) (fun b q => ?_)⟩, ((Fr.refl _ _).set (.inl hkF) _).alloc _⟩
    rcases q with q | q
    · exact HXm.out.lt b q
    · exact q.2
  rw [if_neg h2]
  by_cases h3 : knd = 3
  · subst h3
    rw [if_pos rfl]
    have UN : Hid (Calls Try.prog 26 #[.pointer (some ⟨k, 0, none⟩)] (w.alloc (.cells #[.int .i64 3, .int .i64 e.at_, .int .i64 e.cut, .string e.put] 45)) (ExPost (if s.p = 0 then (s, 7) else ((⟨s.ts, s.p - 1, false⟩ : TL), (0 : Int))).1 (if s.p = 0 then (s, 7) else ((⟨s.ts, s.p - 1, false⟩ : TL), (0 : Int))).2 k F (N + 1) (w.alloc (.cells #[.int .i64 3, .int .i64 e.at_, .int .i64 e.cut, .string e.put] 45)))) := Lib.hid (by
      by_cases hf : s.p = 0
      · rw [if_pos hf]; exact undo_none s k F N _ H1 hf
      · rw [if_neg hf]; exact undo_ok s k F N _ H1 hN2 (s.p - 1) (by omega))
    generalize (if s.p = 0 then (s, 7) else ((⟨s.ts, s.p - 1, false⟩ : TL), (0 : Int))).1 = s' at *
    generalize (if s.p = 0 then (s, 7) else ((⟨s.ts, s.p - 1, false⟩ : TL), (0 : Int))).2 = c' at *
    clear h H1 eok
    obtain ⟨a, c, p⟩ := e
    dsimp only at *
    go_enter Try.func21, Try.ntmps21
    go_wp2_with fail
    refine UN.out.mono ?_
    rintro e w1 ⟨rfl, hx⟩
    have HE := Lib.hid hx
    clear hx
    go_wp2_with fail
    go_ret
    exact ExPost.ahead B1.out ⟨rfl, HE.out⟩ HF.out
  rw [if_neg h3]
  by_cases h4 : knd = 4
  · subst h4
    rw [if_pos rfl]
    have UN : Hid (Calls Try.prog 27 #[.pointer (some ⟨k, 0, none⟩)] (w.alloc (.cells #[.int .i64 4, .int .i64 e.at_, .int .i64 e.cut, .string e.put] 45)) (ExPost (if s.p + 1 = s.ts.length then (s, 7) else ((⟨s.ts, s.p + 1, false⟩ : TL), (0 : Int))).1 (if s.p + 1 = s.ts.length then (s, 7) else ((⟨s.ts, s.p + 1, false⟩ : TL), (0 : Int))).2 k F (N + 1) (w.alloc (.cells #[.int .i64 4, .int .i64 e.at_, .int .i64 e.cut, .string e.put] 45)))) := Lib.hid (by
      by_cases hf : s.p + 1 = s.ts.length
      · rw [if_pos hf]; exact redo_none s k F N _ H1 hf
      · rw [if_neg hf]; exact redo_ok s k F N _ H1 hN2 s.p rfl (by obtain ⟨gs, vu, vr, vs, hr, hN, hx⟩ := H1; have := hr.ok.lt; omega))
    generalize (if s.p + 1 = s.ts.length then (s, 7) else ((⟨s.ts, s.p + 1, false⟩ : TL), (0 : Int))).1 = s' at *
    generalize (if s.p + 1 = s.ts.length then (s, 7) else ((⟨s.ts, s.p + 1, false⟩ : TL), (0 : Int))).2 = c' at *
    clear h H1 eok
    obtain ⟨a, c, p⟩ := e
    dsimp only at *
    go_enter Try.func21, Try.ntmps21
    go_wp2_with fail
    refine UN.out.mono ?_
    rintro e w1 ⟨rfl, hx⟩
    have HE := Lib.hid hx
    clear hx
    go_wp2_with fail
    go_ret
    exact ExPost.ahead B1.out ⟨rfl, HE.out⟩ HF.out
  rw [if_neg h4]
  have g1 : (knd == 1) = false := by simpa using h1
  have g2 : (knd == 2) = false := by simpa using h2
  have g3 : (knd == 3) = false := by simpa using h3
  have g4 : (knd == 4) = false := by simpa using h4
  have HH := Lib.hid H1
  clear h1 h2 h3 h4 h H1 eok
  obtain ⟨a, c, p⟩ := e
  dsimp only at *
  go_enter Try.func21, Try.ntmps21
  go_wp2_with fail
  go_ret
  exact ExPost.ahead B1.out ⟨rfl, HH.out.ex (Below.refl _ _) (by omega), Fr.refl _ _⟩ HF.out

end Go.Proofs.Ytkeacipjjoeieaa.HistC
