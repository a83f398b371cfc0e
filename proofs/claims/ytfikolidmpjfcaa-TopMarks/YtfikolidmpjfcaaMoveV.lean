/-
  marks.Move of valid edits, of marks that a call holds.
-/
import Derived.Test.YtfikolidmpjfcaaMarkMove2
namespace Go.Proofs.Ytfikolidmpjfcaa.MarkK
open Go.RowKit Kit EditM MarkM MarkC

theorem bad_no {ms : List MkM} {n : Int} (h0 : 0 ≤ n) (h1 : n ≤ 600) (h : ∀ m ∈ ms, m.in_ n) : badIn ms n = false := by
  unfold badIn
  rw [anyOut_iff.2 h, decide_eq_false (show ¬ n < 0 by omega), decide_eq_false (show ¬ 600 < n by omega)]; rfl
def MoveV (w : World) (L : List MkM) (e : Ending) (w' : World) : Prop := ∃ v, e = .returned (.tuple #[v, .int .i64 0]) ∧ MksV w' v L ∧ Below w.heap.size w w'
theorem moveV (n : Int) (ms : List MkM) (v : Value) (l : List EdM) (u : Value) (w : World) (hv : MksV w v ms) (hu : EdsV w u l) (h60 : ms.length ≤ 60) (l60 : l.length ≤ 60) (hok : ∀ e ∈ l, e.ok) (h0 : 0 ≤ n) (h1 : n ≤ 600) (hin : ∀ m ∈ ms, m.in_ n) (hc : szC l n = 0) :
    Calls Try.prog 25 #[.int .i64 n, v, u] w (MoveV w (ms.map (mvd l))) := by
  obtain ⟨a, cap, rfl, _, ha, _⟩ := hv
  obtain ⟨b, bcap, rfl, _, hb, _⟩ := hu
  have hbad := bad_no h0 h1 hin
  have hcode : mvCode ms l n = 0 := by unfold mvCode; rw [hbad]; exact hc
  refine (move_ok n ms a cap l b bcap w ha h60 hb hok l60 hbad).mono ?_
  rintro e w' ⟨x, rfl, h2, h3⟩
  rw [hcode] at h2 ⊢
  rcases h2 with ⟨_, h2⟩ | ⟨h2, _⟩
  · exact ⟨x, rfl, h2, h3⟩
  · exact absurd rfl h2
theorem oneM (w : World) (m : MkM) : MksV (w.alloc (.cells #[.int .i64 m.at_, .bool m.right] 50)) (.slice (some ⟨w.heap.size, 0, none⟩) 1 1) [m] := by
  refine ⟨_, _, rfl, by simp, ⟨fun i o hi => ⟨w.heap.size, 0, rfl, by simp, fun j hj => ?_⟩⟩, .inr ⟨_, _, rfl, by simp⟩⟩
  have hi0 : i = 0 := by
    have := (List.getElem?_eq_some_iff.1 hi).1
    simpa using this
  subst hi0
  simp at hi; subst hi
  rw [show (0 + 0 * 2 + j) = j by omega, cells_new]
  simp [MkM.cs]
theorem oneE (w : World) (e : EdM) : EdsV (w.alloc (.cells #[.int .i64 e.at_, .int .i64 e.cut, .string e.put] 29)) (.slice (some ⟨w.heap.size, 0, none⟩) 1 1) [e] := by
  refine ⟨_, _, rfl, by simp, ⟨fun i o hi => ⟨w.heap.size, 0, rfl, by simp, fun j hj => ?_⟩⟩, .inr ⟨_, _, rfl, by simp⟩⟩
  have hi0 : i = 0 := by
    have := (List.getElem?_eq_some_iff.1 hi).1
    simpa using this
  subst hi0
  simp at hi; subst hi
  rw [show (0 + 0 * 3 + j) = j by omega, cells_new]
  simp [EdM.cs]

end Go.Proofs.Ytfikolidmpjfcaa.MarkK
