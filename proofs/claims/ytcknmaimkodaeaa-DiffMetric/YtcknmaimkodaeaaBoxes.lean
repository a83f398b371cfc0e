/-
  Boxes of two and of three cells that a call has made and writes. No program is named.
-/
import Derived.Test.YtcknmaimkodaeaaKit
import Derived.RangeFuncBox
import Derived.RangeFuncNested
namespace Go.Proofs.Ytcknmaimkodaeaa.Kit
open Go.RowKit

/-- a box of three cells that may be written -/
structure B3 (k : Nat) (a b c : Value) (W : World) : Prop where
  lt : k < W.heap.size
  c0 : W.cell? ⟨k, 0, none⟩ = some a
  c1 : W.cell? ⟨k, 1, none⟩ = some b
  c2 : W.cell? ⟨k, 2, none⟩ = some c
  f0 : W.frozen? ⟨k, 0, none⟩ = false
  f1 : W.frozen? ⟨k, 1, none⟩ = false
  f2 : W.frozen? ⟨k, 2, none⟩ = false
structure B2 (k : Nat) (a b : Value) (W : World) : Prop where
  lt : k < W.heap.size
  c0 : W.cell? ⟨k, 0, none⟩ = some a
  c1 : W.cell? ⟨k, 1, none⟩ = some b
  f0 : W.frozen? ⟨k, 0, none⟩ = false
  f1 : W.frozen? ⟨k, 1, none⟩ = false
theorem B3.next {k : Nat} {a b c : Value} {W W' : World} (h : B3 k a b c W) (hb : Below W.heap.size W W') : B3 k a b c W' :=
  ⟨Nat.lt_of_lt_of_le h.lt hb.size, keep hb h.lt h.c0, keep hb h.lt h.c1, keep hb h.lt h.c2, (hb.frozen (p := ⟨k, 0, none⟩) h.lt).trans h.f0, (hb.frozen (p := ⟨k, 1, none⟩) h.lt).trans h.f1, (hb.frozen (p := ⟨k, 2, none⟩) h.lt).trans h.f2⟩
theorem B2.next {k : Nat} {a b : Value} {W W' : World} (h : B2 k a b W) (hb : Below W.heap.size W W') : B2 k a b W' :=
  ⟨Nat.lt_of_lt_of_le h.lt hb.size, keep hb h.lt h.c0, keep hb h.lt h.c1, (hb.frozen (p := ⟨k, 0, none⟩) h.lt).trans h.f0, (hb.frozen (p := ⟨k, 1, none⟩) h.lt).trans h.f1⟩
theorem B3.new (w : World) (a b c : Value) (t : TypeId) : B3 w.heap.size a b c (w.alloc (.cells #[a, b, c] t)) := ⟨by simp, by simp, by simp, by simp, by simp, by simp, by simp⟩
theorem B2.new (w : World) (a b : Value) (t : TypeId) : B2 w.heap.size a b (w.alloc (.cells #[a, b] t)) := ⟨by simp, by simp, by simp, by simp, by simp⟩
theorem B3.alloc {k : Nat} {a b c : Value} {W : World} (h : B3 k a b c W) (o : Obj) : B3 k a b c (W.alloc o) := h.next (balloc (Below.refl _ _) o)
theorem B2.alloc {k : Nat} {a b : Value} {W : World} (h : B2 k a b W) (o : Obj) : B2 k a b (W.alloc o) := h.next (balloc (Below.refl _ _) o)
theorem B3.own {β : Type} (k : Nat) (f g h : β → Value) : Own (fun (s : β) W => B3 k (f s) (g s) (h s) W) := fun _ _ _ _ hs hg hr =>
  ⟨Nat.lt_of_lt_of_le hs.lt hg.size, cell_kept hs.c0 hg hr, cell_kept hs.c1 hg hr, cell_kept hs.c2 hg hr, (frozen_kept hs.c0 hg hr).trans hs.f0, (frozen_kept hs.c1 hg hr).trans hs.f1, (frozen_kept hs.c2 hg hr).trans hs.f2⟩
theorem B2.own {β : Type} (k : Nat) (f g : β → Value) : Own (fun (s : β) W => B2 k (f s) (g s) W) := fun _ _ _ _ hs hg hr =>
  ⟨Nat.lt_of_lt_of_le hs.lt hg.size, cell_kept hs.c0 hg hr, cell_kept hs.c1 hg hr, (frozen_kept hs.c0 hg hr).trans hs.f0, (frozen_kept hs.c1 hg hr).trans hs.f1⟩
theorem setO {W : World} {j o k i : Nat} (h : k ≠ j ∨ i ≠ o) (v : Value) : (W.setCell ⟨j, o, none⟩ v).cell? ⟨k, i, none⟩ = W.cell? ⟨k, i, none⟩ :=
  World.cell?_setCell_other _ _ _ _ (fun e => by injection e with e1 e2; rcases h with h | h <;> omega)
theorem setS {W : World} {j o : Nat} {u : Value} (h : W.cell? ⟨j, o, none⟩ = some u) (v : Value) : (W.setCell ⟨j, o, none⟩ v).cell? ⟨j, o, none⟩ = some v := World.cell?_setCell_same _ _ _ h
theorem setZ {W : World} {j o : Nat} (v : Value) : (W.setCell ⟨j, o, none⟩ v).heap.size = W.heap.size := by simp [World.setCell]
theorem B3.set {k : Nat} {a b c : Value} {W : World} (h : B3 k a b c W) (a' b' c' : Value) : B3 k a' b' c' (((W.setCell ⟨k, 0, none⟩ a').setCell ⟨k, 1, none⟩ b').setCell ⟨k, 2, none⟩ c') := by
  obtain ⟨h0, h1, h2, h3, h4, h5, h6⟩ := h
  refine ⟨by rw [setZ, setZ, setZ]; exact h0, ?_, ?_, ?_, by simp only [World.frozen?_setCell]; exact h4, by simp only [World.frozen?_setCell]; exact h5, by simp only [World.frozen?_setCell]; exact h6⟩
  · rw [setO (by simp), setO (by simp)]; exact setS h1 _
  · rw [setO (by simp)]; exact setS ((setO (by simp) _).trans h2) _
  · exact setS ((setO (by simp) _).trans ((setO (by simp) _).trans h3)) _
theorem B2.set {k : Nat} {a b : Value} {W : World} (h : B2 k a b W) (a' b' : Value) : B2 k a' b' ((W.setCell ⟨k, 0, none⟩ a').setCell ⟨k, 1, none⟩ b') := by
  obtain ⟨h0, h1, h2, h4, h5⟩ := h
  refine ⟨by rw [setZ, setZ]; exact h0, ?_, ?_, by simp only [World.frozen?_setCell]; exact h4, by simp only [World.frozen?_setCell]; exact h5⟩
  · rw [setO (by simp)]; exact setS h1 _
  · exact setS ((setO (by simp) _).trans h2) _
theorem B3.other {k : Nat} {a b c : Value} {W : World} (h : B3 k a b c W) {j o : Nat} (hj : k ≠ j) (v : Value) : B3 k a b c (W.setCell ⟨j, o, none⟩ v) := by
  obtain ⟨h0, h1, h2, h3, h4, h5, h6⟩ := h
  exact ⟨by rw [setZ]; exact h0, (setO (.inl hj) _).trans h1, (setO (.inl hj) _).trans h2, (setO (.inl hj) _).trans h3, by rw [World.frozen?_setCell]; exact h4, by rw [World.frozen?_setCell]; exact h5, by rw [World.frozen?_setCell]; exact h6⟩
theorem B2.other {k : Nat} {a b : Value} {W : World} (h : B2 k a b W) {j o : Nat} (hj : k ≠ j) (v : Value) : B2 k a b (W.setCell ⟨j, o, none⟩ v) := by
  obtain ⟨h0, h1, h2, h4, h5⟩ := h
  exact ⟨by rw [setZ]; exact h0, (setO (.inl hj) _).trans h1, (setO (.inl hj) _).trans h2, by rw [World.frozen?_setCell]; exact h4, by rw [World.frozen?_setCell]; exact h5⟩

end Go.Proofs.Ytcknmaimkodaeaa.Kit
