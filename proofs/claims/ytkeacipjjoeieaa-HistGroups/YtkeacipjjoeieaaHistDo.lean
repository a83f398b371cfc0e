/-
  Package hist: do (an edit is made and recorded).
-/
import Derived.Test.YtkeacipjjoeieaaHistApply
import Derived.Test.YtkeacipjjoeieaaHistRecordN
import Derived.Test.YtkeacipjjoeieaaHistRecordF
import Derived.Test.YtkeacipjjoeieaaHistMath
import Derived.Test.YtkeacipjjoeieaaEditInvert
namespace Go.Proofs.Ytkeacipjjoeieaa.HistC
open Go.RowKit Kit EditM EditC EditK HistM

/-- the history s lies in the box k, its rows in the blocks F; no group has more than N changes -/
def HOk (s : TL) (k : Nat) (F : Nat → Prop) (N : Nat) (w : World) : Prop := ∃ gs vu vr vs, Rel s gs ∧ (∀ g ∈ gs, g.length ≤ N) ∧ HX k (.string (str s.now)) gs s.p s.op vu vr vs F w
def ExPost (s : TL) (c : Int) (k : Nat) (F : Nat → Prop) (N : Nat) (w : World) (x : Ending) (w' : World) : Prop := x = .returned (.int .i64 c) ∧ HOk s k (grow F w w') N w' ∧ Fr F w w'
theorem HOk.mono {s : TL} {k : Nat} {F G : Nat → Prop} {N M : Nat} {w : World} (h : HOk s k F N w) (hG : ∀ b, F b → G b) (hl : ∀ b, G b → b < w.heap.size) (hN : N ≤ M) : HOk s k G M w := by
  obtain ⟨gs, vu, vr, vs, h1, h2, h3⟩ := h
  exact ⟨gs, vu, vr, vs, h1, fun g hg => Nat.le_trans (h2 g hg) hN, h3.mono hG hl⟩
theorem HOk.kept {s : TL} {k : Nat} {F : Nat → Prop} {N : Nat} {w w' : World} (h : HOk s k F N w) (hs : w.heap.size ≤ w'.heap.size) (hb : ∀ b, F b → w'.heap[b]? = w.heap[b]?) : HOk s k F N w' := by
  obtain ⟨gs, vu, vr, vs, h1, h2, h3⟩ := h
  exact ⟨gs, vu, vr, vs, h1, h2, h3.kept hs hb⟩
theorem HOk.lt {s : TL} {k : Nat} {F : Nat → Prop} {N : Nat} {w : World} (h : HOk s k F N w) {b : Nat} (hb : F b) : b < w.heap.size := by
  obtain ⟨gs, vu, vr, vs, h1, h2, h3⟩ := h
  exact h3.lt b hb
/-- nothing but new memory -/
theorem HOk.ex {s : TL} {k : Nat} {F : Nat → Prop} {N M : Nat} {w w' : World} (h : HOk s k F N w) (hb : Below w.heap.size w w') (hN : N ≤ M) : HOk s k (grow F w w') M w' :=
  (h.kept hb.size fun b q => hb.block b (h.lt q)).mono (fun _ q => .inl q) (fun b q => by
    rcases q with q | q
    · exact Nat.lt_of_lt_of_le (h.lt q) hb.size
    · exact q.2) hN

set_option maxRecDepth 100000 in
set_option maxHeartbeats 1000000 in
theorem do_err (s : TL) (k : Nat) (F : Nat → Prop) (N : Nat) (e : EdM) (w : World) (h : HOk s k F N w) (eok : e.ok) (hf : e.fault s.now ≠ 0) :
    Calls Try.prog 25 #[.pointer (some ⟨k, 0, none⟩), .agg #[.int .i64 e.at_, .int .i64 e.cut, .string e.put]] w (ExPost s (e.fault s.now) k F (N + 1) w) := by
  have HF : Hid (e.fault s.now = fault ((str s.now).size : Int) e.at_ e.cut e.put.size) := by show _ = _; unfold EdM.fault; rw [size_str]
  have hfn : fault ((str s.now).size : Int) e.at_ e.cut e.put.size ≠ 0 := by rw [← HF.out]; exact hf
  rw [HF.out]
  have HH := Lib.hid h
  obtain ⟨gs, vu, vr, vs, h1, h2, h3⟩ := h
  have CK := Lib.hid (fun W => check ((str s.now).size : Int) e.at_ e.cut e.put W eok.a1 eok.p)
  generalize fault ((str s.now).size : Int) e.at_ e.cut e.put.size = fv at *
  have KS : Hid (∀ W, Below w.heap.size w W → W.cell? ⟨k, 0, none⟩ = some (.string (str s.now))) := Lib.hid fun W hW => keep hW h3.box.lt h3.box.c0
  have c0 := h3.box.c0
  have klt := h3.box.lt
  have kne : ¬ k = w.heap.size := by omega
  have g0 : (fv != 0) = true := by simpa using hfn
  clear h3 h2 h1 hf HF hfn
  generalize str s.now = t at *
  obtain ⟨a, c, p⟩ := e
  dsimp only at *
  clear eok
  go_enter Try.func25, Try.ntmps25
  go_wp2_with fail
  go_region_with (first | (refine (CK.out _).mono ?_; rintro e w1 ⟨rfl, hb1⟩; have HB1 := Lib.hid hb1; clear hb1))
  all_goals
    go_wp2_with fail
    go_ret
    have FB := bstep (balloc (Below.refl w.heap.size w) _).drew HB1.out
    exact ⟨rfl, HH.out.ex FB (by omega), Fr.of_below FB⟩

end Go.Proofs.Ytkeacipjjoeieaa.HistC
