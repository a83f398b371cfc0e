/-
  A row of numbers that a call has made and writes. No function of the program is named.
-/
import Derived.Test.YtokfnajgjhkepaaBnd2
namespace Go.Proofs.Ytokfnajgjhkepaa.NumR
open Go.RowKit Kit LineM EditM

/-- a row of numbers of the call's own, in the block blk; all below it is as in w0 -/
structure RN (w0 : World) (blk n : Nat) (d : Nat → Nat) (W : World) : Prop where
  bel : Below blk w0 W
  lt : blk < W.heap.size
  cell : ∀ i, i < n → W.cell? ⟨blk, i, none⟩ = some (.int .i64 (d i : Int))
  free : ∀ i, i < n → W.frozen? ⟨blk, i, none⟩ = false
section
variable {w0 W W' : World} {blk n : Nat} {d d' : Nat → Nat}
theorem RN.next (h : RN w0 blk n d W) (hb : Below W.heap.size W W') : RN w0 blk n d W' := ⟨h.bel.trans (hb.mono (Nat.le_of_lt h.lt)), Nat.lt_of_lt_of_le h.lt hb.size, fun i hi => (hb.cell (p := ⟨blk, i, none⟩) h.lt).trans (h.cell i hi), fun i hi => (hb.frozen (p := ⟨blk, i, none⟩) h.lt).trans (h.free i hi)⟩
theorem RN.congr (h : RN w0 blk n d W) (e : ∀ i, i < n → d i = d' i) : RN w0 blk n d' W := ⟨h.bel, h.lt, fun i hi => by rw [← e i hi]; exact h.cell i hi, h.free⟩
theorem RN.set (h : RN w0 blk n d W) {i : Nat} (hi : i < n) (v : Nat) : RN w0 blk n (fun j => if j = i then v else d j) (W.setCell ⟨blk, i, none⟩ (.int .i64 (v : Int))) := by
  refine ⟨h.bel.setCell (p := ⟨blk, i, none⟩) (Nat.le_refl _) _, by rw [setZ]; exact h.lt, fun j hj => ?_, fun j hj => by rw [World.frozen?_setCell]; exact h.free j hj⟩
  by_cases e : j = i
  · subst e; rw [if_pos rfl]; exact setS (h.cell j hj) _
  · rw [if_neg e, setO (.inr e)]; exact h.cell j hj
theorem RN.made {base e cap : Nat} (hb : Below blk w0 W) (h : W.ownsRow base e 1 (.slice (some ⟨blk, 0, none⟩) n cap) n (madeCells (Value.int .i64 0).cells (n * 1)).toList) : RN w0 blk n (fun _ => 0) W := by
  refine ⟨hb, (h.lt blk rfl).2, fun i hi => ?_, fun i hi => h.frozenAt i⟩
  rw [h.cellAt i (by omega)]
  simp [madeCells, Value.cells, hi, Nat.mod_one]
theorem RN.drewN (h : RN w0 blk n d W) (m : Nat) : RN w0 blk n d (W.drewN m) := h.next (bdrewN (Below.refl _ _) m)
end
end Go.Proofs.Ytokfnajgjhkepaa.NumR
