/-
  A step against itself; steps that are read. No function of the program is named.
-/
import Derived.Test.YtcknmaimkodaeaaStepAt
import Derived.Test.YtcknmaimkodaeaaChecked
import Derived.Laws.StructEq
namespace Go.Proofs.Ytcknmaimkodaeaa.DiffA
open Go.RowKit Kit LineM

theorem neqStep (a b : Int) (w : World) : (binOp .neq 28 (.agg #[.int .i64 a, .int .i64 b]) (.agg #[.int .i64 a, .int .i64 b])).run Try.prog w = .ok (.bool false) w := by
  have u3 := Try.underlying3
  have a3 := Try.isAgg3
  have z3 := Try.sizeOf3
  have hS : Try.prog.underlying 28 = some (.struct (Try.prog.fieldsOf 28)) := by kernel_rfl
  have hp : Try.prog.stoodInHeld 28 = false := by kernel_rfl
  rw [run_neq_struct, show (10000 : Nat) = 9999 + 1 from rfl, run_equalIn_agg w 9999 28 _ _ hS hp]
  simp only [Program.fieldsOf, Try.underlying28]
  go_simp
  try simp
theorem guardStep (op : BinOp) (x y : Operand) (xs ys : Array Value) (w : World) : (eqGuard op 28 x y (.agg xs) (.agg ys)).run Try.prog w = .ok () w := run_eqGuard_agg w op _ x y xs ys (by kernel_rfl)
theorem step_get {w : World} {a : Option Addr} {l : List (Nat × Nat)} (h : SlAt 2 pc w a l) {i : Nat} {p : Nat × Nat} (hi : l[i]? = some p) : ∃ g off, a = some ⟨g, off, none⟩ ∧ g < w.heap.size ∧ w.cell? ⟨g, off + i * 2, none⟩ = some (.int .i64 (p.1 : Int)) ∧ w.cell? ⟨g, off + i * 2 + 1, none⟩ = some (.int .i64 (p.2 : Int)) := by
  obtain ⟨g, off, e, hg, hcc⟩ := h.cell i p hi
  refine ⟨g, off, e, hg, ?_, ?_⟩
  · have := hcc 0 (by omega)
    simpa [pc] using this
  · have := hcc 1 (by omega)
    simpa [pc] using this
end Go.Proofs.Ytcknmaimkodaeaa.DiffA
