/-
  A row of integers that a sort turns in place, its memory: what an exchange leaves. No program is named.
-/
import Derived.Test.YtllpglanpfjcnaaSortMath
import Derived.Test.YtllpglanpfjcnaaBoxes
namespace Go.Proofs.Ytllpglanpfjcnaa.SortM
open Go.RowKit Kit

/-- the block blk holds the row d of n numbers; what lies below it is as it was in w0 -/
structure SR (w0 : World) (blk n : Nat) (d : Nat → Nat) (W : World) : Prop where
  bel : Below blk w0 W
  lt : blk < W.heap.size
  cell : ∀ i, i < n → W.cell? ⟨blk, i, none⟩ = some (.int .i64 (d i : Int))
  free : ∀ i, i < n → W.frozen? ⟨blk, i, none⟩ = false
  rng : ∀ i, i < n → d i < n
section
variable {w0 W W' : World} {blk n : Nat} {d : Nat → Nat}
theorem SR.next (h : SR w0 blk n d W) (hb : Below W.heap.size W W') : SR w0 blk n d W' :=
  ⟨h.bel.trans (hb.mono (Nat.le_of_lt h.lt)), Nat.lt_of_lt_of_le h.lt hb.size, fun i hi => (hb.cell (p := ⟨blk, i, none⟩) h.lt).trans (h.cell i hi), fun i hi => (hb.frozen (p := ⟨blk, i, none⟩) h.lt).trans (h.free i hi), h.rng⟩
theorem SR.drew (h : SR w0 blk n d W) : SR w0 blk n d W.drew := h.next ((Below.refl _ _).drew)
theorem SR.set (h : SR w0 blk n d W) {i : Nat} (hi : i < n) (v : Nat) (hv : v < n) : SR w0 blk n (fun k => if k = i then v else d k) (W.setCell ⟨blk, i, none⟩ (.int .i64 (v : Int))) := by
  refine ⟨h.bel.setCell (p := ⟨blk, i, none⟩) (Nat.le_refl _) _, by rw [setZ]; exact h.lt, fun k hk => ?_, fun k hk => by rw [World.frozen?_setCell]; exact h.free k hk, fun k hk => by split; exact hv; exact h.rng k hk⟩
  by_cases e : k = i
  · subst e; rw [if_pos rfl]; exact setS (h.cell k hk) _
  · rw [if_neg e, setO (.inr e)]; exact h.cell k hk
theorem SR.swap (h : SR w0 blk n d W) {i j : Nat} (hi : i < n) (hj : j < n) (hij : i ≠ j) : SR w0 blk n (swp d i j) (((W.setCell ⟨blk, i, none⟩ (.int .i64 (d j : Int))).setCell ⟨blk, j, none⟩ (.int .i64 (d i : Int))).drew) := by
  have := ((h.set hi (d j) (h.rng j hj)).set hj (d i) (h.rng i hi)).drew
  have e : (fun k => if k = j then d i else (fun k => if k = i then d j else d k) k) = swp d i j := by
    funext k; unfold swp; dsimp only
    by_cases e1 : k = j
    · subst e1; rw [if_pos rfl, if_neg (Ne.symm hij), if_pos rfl]
    · rw [if_neg e1]
      by_cases e2 : k = i
      · rw [if_pos e2, if_pos e2]
      · rw [if_neg e2, if_neg e2, if_neg e1]
  rw [e] at this
  exact this
theorem SR.two (h : SR w0 blk n d W) {i j : Nat} (hij : i ≠ j) (hj : j < n) (v : Value) : (W.setCell ⟨blk, i, none⟩ v).cell? ⟨blk, j, none⟩ = some (.int .i64 (d j : Int)) := (setO (.inr (Ne.symm hij)) _).trans (h.cell j hj)
end

end Go.Proofs.Ytllpglanpfjcnaa.SortM
