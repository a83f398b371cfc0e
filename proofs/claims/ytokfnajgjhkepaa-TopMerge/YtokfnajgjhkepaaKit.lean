/-
  Small tools of my own for walks that make memory: what is kept below a bound. No program is named.
-/
import Derived.WalkKit
import Derived.Below
import Derived.Carry
import Derived.Lib.Hide
import Derived.Deep.RegionHeld3
import Derived.Deep.QuietTactic
import Derived.BigQuiet
namespace Go.Proofs.Ytokfnajgjhkepaa.Kit
open Go.RowKit

/-- what a call that keeps all old memory leaves: old cells, old marks, old blocks: rules that the walk takes by itself -/
theorem bfacts {W w1 : World} (hb : Below W.heap.size W w1) : (∀ b o, b < W.heap.size → w1.cell? ⟨b, o, none⟩ = W.cell? ⟨b, o, none⟩) ∧ (∀ b o, b < W.heap.size → w1.frozen? ⟨b, o, none⟩ = W.frozen? ⟨b, o, none⟩) ∧ (∀ k, k < W.heap.size → k < w1.heap.size) :=
  ⟨fun b o h => hb.cell (p := ⟨b, o, none⟩) h, fun b o h => hb.frozen (p := ⟨b, o, none⟩) h, fun _ h => Nat.lt_of_lt_of_le h hb.size⟩

theorem bstep {w W1 w2 : World} (h : Below w.heap.size w W1) (hb : Below W1.heap.size W1 w2) : Below w.heap.size w w2 := h.trans (hb.mono h.size)
theorem balloc {w W1 : World} (h : Below w.heap.size w W1) (o : Obj) : Below w.heap.size w (W1.alloc o) := h.alloc h.size o
theorem bdrewN {w W1 : World} (h : Below w.heap.size w W1) (n : Nat) : Below w.heap.size w (W1.drewN n) := h.trans ⟨rfl, rfl, rfl, Nat.le_refl _, fun _ _ => rfl⟩
theorem setCell_drewN (w : World) (n : Nat) (p : Addr) (v : Value) : (w.drewN n).setCell p v = (w.setCell p v).drewN n := rfl
theorem keep {W w' : World} {k o : Nat} {v : Value} (hb : Below W.heap.size W w') (hk : k < W.heap.size) (h : W.cell? ⟨k, o, none⟩ = some v) : w'.cell? ⟨k, o, none⟩ = some v := (hb.cell hk).trans h

end Go.Proofs.Ytokfnajgjhkepaa.Kit
