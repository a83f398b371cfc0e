/-
  A mark against itself; the edits of valid edits.
-/
import Derived.Test.YtllpglanpfjcnaaMoveMath
import Derived.Laws.StructEq
namespace Go.Proofs.Ytllpglanpfjcnaa.MarkK
open Go.RowKit Kit EditM MarkM

/-- a mark is not unlike itself -/
theorem neqMark (a : Int) (r : Bool) (w : World) : (binOp .neq 28 (.agg #[.int .i64 a, .bool r]) (.agg #[.int .i64 a, .bool r])).run Try.prog w = .ok (.bool false) w := by
  have u3 := Try.underlying3
  have a3 := Try.isAgg3
  have z3 := Try.sizeOf3
  have u4 := Try.underlying4
  have a4 := Try.isAgg4
  have z4 := Try.sizeOf4
  have hS : Try.prog.underlying 28 = some (.struct (Try.prog.fieldsOf 28)) := by kernel_rfl
  have hp : Try.prog.stoodInHeld 28 = false := by kernel_rfl
  rw [run_neq_struct, show (10000 : Nat) = 9999 + 1 from rfl, run_equalIn_agg w 9999 28 _ _ hS hp]
  simp only [Program.fieldsOf, Try.underlying28]
  go_simp
  try simp
theorem guardMark (op : BinOp) (x y : Operand) (xs ys : Array Value) (w : World) : (eqGuard op 28 x y (.agg xs) (.agg ys)).run Try.prog w = .ok () w := run_eqGuard_agg w op _ x y xs ys (by kernel_rfl)

theorem szC_take {l : List EdM} {n : Int} (h : szC l n = 0) (j : Nat) : szC (l.take j) n = 0 := by
  induction l generalizing n j with
  | nil => simp [szC]
  | cons e l ih =>
    cases j with
    | zero => rfl
    | succ j =>
      by_cases hf : fault n e.at_ e.cut e.put.size = 0
      · simp only [szC, if_pos hf, List.take_succ_cons] at h ⊢
        exact ih h j
      · simp only [szC, if_neg hf] at h; exact absurd h hf
theorem szC_each {l : List EdM} {n : Int} (h : szC l n = 0) {j : Nat} {e : EdM} (he : l[j]? = some e) : fault (szN (l.take j) n) e.at_ e.cut e.put.size = 0 := by
  by_cases hf : fault (szN (l.take j) n) e.at_ e.cut e.put.size = 0
  · exact hf
  · rw [szC_at he (szC_take h j) hf] at h; exact h
end Go.Proofs.Ytllpglanpfjcnaa.MarkK
