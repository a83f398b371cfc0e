/-
  What the laws of sets share: numbers picked, places of sums and differences, truths of a set that is there.
-/
import Derived.Test.YtdiogfhbgmkajaaKeepSet
import Derived.Test.YtdiogfhbgmkajaaKeepAdd
import Derived.Test.YtdiogfhbgmkajaaSpanEq
namespace Go.Proofs.Ytdiogfhbgmkajaa.SpanK
open Go.RowKit Kit SpanM SpanC Lift Txt

theorem pick_in (x : Int) (N : Nat) (h : 0 < N) : ∃ K : Nat, x % (N : Int) = (K : Int) ∧ K < N := by
  have h1 := Int.emod_nonneg x (show (N : Int) ≠ 0 by omega)
  have h2 := Int.emod_lt_of_pos x (show (0 : Int) < (N : Int) by omega)
  exact ⟨(x % (N : Int)).toNat, by omega, by omega⟩
theorem add_in {l : List SpM} {s : SpM} (h : Norm l) (i : Int) : In (addL l s) i ↔ In l i ∨ (s.lo ≤ i ∧ i < s.hi) := (with_norm h).2 i
theorem cut_in {l : List SpM} {s : SpM} (h : Norm l) (hs : s.lo ≤ s.hi) (i : Int) : In (cutL l s) i ↔ In l i ∧ ¬ (s.lo ≤ i ∧ i < s.hi) := (wo_norm h hs).2 i
theorem withinV (n : Nat) (l : List SpM) (v : Value) (w : World) (h : SpsV w v l) (hv : Valid n l) : Calls Try.prog 29 #[.int .i64 (n : Int), v] w (WithinPost w n l) := by
  obtain ⟨a, cap, rfl, ha⟩ := SpsV.at_ h
  exact withinK n l a cap w ha hv
theorem notNil (blk n c : Nat) (w : World) : (binOp .eql 45 (.slice (some ⟨blk, 0, none⟩) n c) (.slice none 0 0)).run Try.prog w = .ok (.bool false) w := by kernel_rfl
end Go.Proofs.Ytdiogfhbgmkajaa.SpanK
