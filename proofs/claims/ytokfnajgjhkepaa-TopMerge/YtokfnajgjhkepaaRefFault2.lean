/-
  The call of LinesFault at two lists.
-/
import Derived.Test.YtokfnajgjhkepaaRefCommon
namespace Go.Proofs.Ytokfnajgjhkepaa.DiffR
open Go.RowKit Kit LineM StrM DiffM DiffA NumR

/-- a number and a code -/
def NcPost (n c : Int) (w : World) (e : Ending) (w' : World) : Prop := e = .returned (.tuple #[.int .i64 n, .int .i64 c]) ∧ Below w.heap.size w w'
/-- the call of LinesFault at two lists -/
theorem fault_two (x y : Sv) (w : World) (hx : x.has w) (hy : y.has w) (t : TypeId) : Calls Try.prog 26 #[.slice (some ⟨w.heap.size, 0, none⟩) 2 2] (w.alloc (.cells #[.slice x.a x.l.length x.cap, .slice y.a y.l.length y.cap] t)) (LfPost (lf [x, y]) (w.alloc (.cells #[.slice x.a x.l.length x.cap, .slice y.a y.l.length y.cap] t))) :=
  linesFault _ 2 [x, y] _ (two_at w x y t) (fun s hs => by
    have hb := balloc (Below.refl w.heap.size w) (.cells #[.slice x.a x.l.length x.cap, .slice y.a y.l.length y.cap] t)
    rcases List.mem_cons.1 hs with rfl | hs
    · exact SlAt.next hx hb
    · rw [List.mem_singleton] at hs; subst hs; exact SlAt.next hy hb) (by simp)
open Classical in
theorem lf_two (x y : Sv) : (lf [x, y] = 0 ∧ okL x.l ∧ okL y.l) ∨ (lf [x, y] = 1 ∧ ¬ (okL x.l ∧ okL y.l)) := by
  by_cases h : okL x.l ∧ okL y.l
  · exact .inl ⟨lf_ok (fun s hs => by
      rcases List.mem_cons.1 hs with rfl | hs
      · exact h.1
      · rw [List.mem_singleton] at hs; subst hs; exact h.2), h⟩
  · refine .inr ⟨?_, h⟩
    by_cases hx : okL x.l
    · exact lf_bad (s := y) (by simp) (fun hy => h ⟨hx, hy⟩)
    · exact lf_bad (s := x) (by simp) hx
end Go.Proofs.Ytokfnajgjhkepaa.DiffR
