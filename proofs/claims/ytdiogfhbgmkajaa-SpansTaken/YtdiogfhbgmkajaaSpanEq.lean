/-
  A span against itself.
-/
import Derived.Test.YtdiogfhbgmkajaaSpanAt
import Derived.Laws.StructEq
namespace Go.Proofs.Ytdiogfhbgmkajaa.SpanM
open Go.RowKit Kit
/-- a span is not unlike itself -/
theorem neqSpan (a b : Int) (w : World) : (binOp .neq 25 (.agg #[.int .i64 a, .int .i64 b]) (.agg #[.int .i64 a, .int .i64 b])).run Try.prog w = .ok (.bool false) w := by
  have u3 := Try.underlying3
  have a3 := Try.isAgg3
  have z3 := Try.sizeOf3
  have hS : Try.prog.underlying 25 = some (.struct (Try.prog.fieldsOf 25)) := by kernel_rfl
  have hp : Try.prog.stoodInHeld 25 = false := by kernel_rfl
  rw [run_neq_struct, show (10000 : Nat) = 9999 + 1 from rfl, run_equalIn_agg w 9999 25 _ _ hS hp]
  simp only [Program.fieldsOf, Try.underlying25]
  go_simp
  try simp
theorem guardSpan (op : BinOp) (x y : Operand) (xs ys : Array Value) (w : World) : (eqGuard op 25 x y (.agg xs) (.agg ys)).run Try.prog w = .ok () w := run_eqGuard_agg w op _ x y xs ys (by kernel_rfl)
/-- a slice of spans, read where it lies -/
theorem SpsV.at_ {w : World} {v : Value} {l : List SpM} (h : SpsV w v l) : ∃ a cap, v = .slice a l.length cap ∧ SpsAt w a l := by
  obtain ⟨a, cap, e, _, ha, _⟩ := h
  exact ⟨a, cap, e, ha⟩
end Go.Proofs.Ytdiogfhbgmkajaa.SpanM
