/-
  A table of numbers, a row each of its own, that a call has made and writes; the cost of scripts, tail by tail. No function of the program is named.
-/
import Derived.Test.YtokfnajgjhkepaaBnd2
import Derived.Test.YtokfnajgjhkepaaNumRow
namespace Go.Proofs.Ytokfnajgjhkepaa.DiffP
open Go.RowKit Kit LineM EditM DiffM NumR

section
variable {α : Type}
theorem cost_nil_left (b : List α) : cost [] b = b.length := by
  have h := cost_eq [] b
  rw [lcs_nil_left] at h
  simpa using h
theorem cost_nil_right (a : List α) : cost a [] = a.length := by
  have h := cost_eq a []
  rw [lcs_nil_right] at h
  simpa using h
theorem cost_same (x : α) (a b : List α) : cost (x :: a) (x :: b) = cost a b := by
  have h1 := cost_eq (x :: a) (x :: b)
  have h2 := cost_eq a b
  rw [lcs_same] at h1
  simp only [List.length_cons] at h1
  omega
theorem cost_other {x y : α} (h : x ≠ y) (a b : List α) : cost (x :: a) (y :: b) = 1 + min (cost a (y :: b)) (cost (x :: a) b) := by
  have h1 := cost_eq (x :: a) (y :: b)
  have h2 := cost_eq a (y :: b)
  have h3 := cost_eq (x :: a) b
  rw [lcs_other h] at h1
  simp only [List.length_cons] at h1 h2 h3
  omega
theorem cost_bound (a b : List α) : cost a b ≤ a.length + b.length := by
  have := cost_eq a b
  omega
theorem drop_at {a : List α} {i : Nat} {x : α} (h : a[i]? = some x) : a.drop i = x :: a.drop (i + 1) := by
  obtain ⟨h1, h2⟩ := List.getElem?_eq_some_iff.1 h
  rw [List.drop_eq_getElem_cons h1, h2]
end
/-- the table tb, of n + 1 rows of m + 1 numbers each; the rows from lo on are there -/
structure Tab (w0 : World) (tb n m lo : Nat) (rb : Nat → Nat) (d : Nat → Nat → Nat) (W : World) : Prop where
  bel : Below w0.heap.size w0 W
  low : w0.heap.size ≤ tb
  lt : tb < W.heap.size
  old : ∀ i, i ≤ n → ∃ v, W.cell? ⟨tb, i, none⟩ = some v
  row : ∀ i, lo ≤ i → i ≤ n → W.cell? ⟨tb, i, none⟩ = some (.slice (some ⟨rb i, 0, none⟩) (m + 1) (m + 1))
  free : ∀ i, i ≤ n → W.frozen? ⟨tb, i, none⟩ = false
  rlow : ∀ i, lo ≤ i → i ≤ n → tb < rb i ∧ rb i < W.heap.size
  dist : ∀ i j, lo ≤ i → i < j → j ≤ n → rb j < rb i
  cell : ∀ i j, lo ≤ i → i ≤ n → j ≤ m → W.cell? ⟨rb i, j, none⟩ = some (.int .i64 (d i j : Int))
  rfree : ∀ i j, lo ≤ i → i ≤ n → j ≤ m → W.frozen? ⟨rb i, j, none⟩ = false
section
variable {w0 W W' : World} {tb n m lo : Nat} {rb rb' : Nat → Nat} {d d' : Nat → Nat → Nat}
theorem Tab.next (h : Tab w0 tb n m lo rb d W) (hb : Below W.heap.size W W') : Tab w0 tb n m lo rb d W' where
  bel := bstep h.bel hb
  low := h.low
  lt := Nat.lt_of_lt_of_le h.lt hb.size
  old := fun i hi => by obtain ⟨v, hv⟩ := h.old i hi; exact ⟨v, keep hb h.lt hv⟩
  row := fun i h1 h2 => keep hb h.lt (h.row i h1 h2)
  free := fun i hi => (hb.frozen (p := ⟨tb, i, none⟩) h.lt).trans (h.free i hi)
  rlow := fun i h1 h2 => ⟨(h.rlow i h1 h2).1, Nat.lt_of_lt_of_le (h.rlow i h1 h2).2 hb.size⟩
  dist := h.dist
  cell := fun i j h1 h2 h3 => keep hb (h.rlow i h1 h2).2 (h.cell i j h1 h2 h3)
  rfree := fun i j h1 h2 h3 => (hb.frozen (p := ⟨rb i, j, none⟩) (h.rlow i h1 h2).2).trans (h.rfree i j h1 h2 h3)
theorem Tab.congr (h : Tab w0 tb n m lo rb d W) (e : ∀ i j, lo ≤ i → i ≤ n → j ≤ m → d i j = d' i j) : Tab w0 tb n m lo rb d' W :=
  { h with cell := fun i j h1 h2 h3 => by rw [← e i j h1 h2 h3]; exact h.cell i j h1 h2 h3 }
theorem Tab.apart (h : Tab w0 tb n m lo rb d W) {i j : Nat} (h1 : lo ≤ i) (h2 : i ≤ n) (h3 : lo ≤ j) (h4 : j ≤ n) (h5 : j ≠ i) : rb j ≠ rb i := by
  rcases Nat.lt_or_gt_of_ne h5 with h6 | h6
  · have := h.dist j i h3 h6 h2; omega
  · have := h.dist i j h1 h6 h4; omega
theorem Tab.set (h : Tab w0 tb n m lo rb d W) {i j : Nat} (h1 : lo ≤ i) (h2 : i ≤ n) (h3 : j ≤ m) (v : Nat) : Tab w0 tb n m lo rb (fun a b => if a = i ∧ b = j then v else d a b) (W.setCell ⟨rb i, j, none⟩ (.int .i64 (v : Int))) where
  bel := h.bel.setCell (p := ⟨rb i, j, none⟩) (by have := (h.rlow i h1 h2).1; have := h.low; show w0.heap.size ≤ rb i; omega) _
  low := h.low
  lt := by rw [setZ]; exact h.lt
  old := fun a ha => by obtain ⟨u, hu⟩ := h.old a ha; exact ⟨u, by rw [setO (.inl (by have := (h.rlow i h1 h2).1; omega))]; exact hu⟩
  row := fun a h4 h5 => by rw [setO (.inl (by have := (h.rlow i h1 h2).1; omega))]; exact h.row a h4 h5
  free := fun a ha => by rw [World.frozen?_setCell]; exact h.free a ha
  rlow := fun a h4 h5 => by rw [setZ]; exact h.rlow a h4 h5
  dist := h.dist
  cell := fun a b h4 h5 h6 => by
    by_cases e : a = i ∧ b = j
    · rw [if_pos e, e.1, e.2]; exact setS (h.cell i j h1 h2 h3) _
    · rw [if_neg e, setO]
      · exact h.cell a b h4 h5 h6
      · by_cases ea : a = i
        · exact .inr (fun eb => e ⟨ea, eb⟩)
        · exact .inl (h.apart h1 h2 h4 h5 ea)
  rfree := fun a b h4 h5 h6 => by rw [World.frozen?_setCell]; exact h.rfree a b h4 h5 h6
theorem Tab.made {base e cap : Nat} (h0 : Below w0.heap.size w0 W) (hb : Below W.heap.size W W') (h : W'.ownsRow base e 1 (.slice (some ⟨W.heap.size, 0, none⟩) (n + 1) cap) (n + 1) (madeCells (Value.slice none 0 0).cells ((n + 1) * 1)).toList) : Tab w0 W.heap.size n m (n + 1) rb d W' where
  bel := bstep h0 hb
  low := h0.size
  lt := (h.lt W.heap.size rfl).2
  old := fun i hi => ⟨.slice none 0 0, by
    rw [h.cellAt i (by omega)]
    simp [madeCells, Value.cells, Nat.mod_one, hi, Nat.lt_succ_of_le]⟩
  row := fun i h1 h2 => by omega
  free := fun i _ => h.frozenAt i
  rlow := fun i h1 h2 => by omega
  dist := fun i j h1 h2 h3 => by omega
  cell := fun i j h1 h2 => by omega
  rfree := fun i j h1 h2 => by omega
theorem Tab.newRow {base e cap i : Nat} (h : Tab w0 tb n m (i + 1) rb d W) (hi : i ≤ n) (hb : Below W.heap.size W W') (hr : W'.ownsRow base e 1 (.slice (some ⟨W.heap.size, 0, none⟩) (m + 1) cap) (m + 1) (madeCells (Value.int .i64 0).cells ((m + 1) * 1)).toList) : Tab w0 tb n m i (fun a => if a = i then W.heap.size else rb a) (fun a b => if a = i then 0 else d a b) (W'.setCell ⟨tb, i, none⟩ (.slice (some ⟨W.heap.size, 0, none⟩) (m + 1) (m + 1))) := by
  have h' := h.next hb
  have hl := (hr.lt W.heap.size rfl).2
  have ht := h.lt
  refine ⟨h'.bel.setCell (p := ⟨tb, i, none⟩) h.low _, h.low, by rw [setZ]; exact h'.lt, fun a ha => ?_, fun a h1 h2 => ?_, fun a ha => by rw [World.frozen?_setCell]; exact h'.free a ha, fun a h1 h2 => ?_, fun a b h1 h2 h3 => ?_, fun a b h1 h2 h3 => ?_, fun a b h1 h2 h3 => ?_⟩
  · by_cases ea : a = i
    · obtain ⟨u, hu⟩ := h'.old i hi
      exact ⟨_, by rw [ea]; exact setS hu _⟩
    · obtain ⟨u, hu⟩ := h'.old a ha
      exact ⟨u, by rw [setO (.inr ea)]; exact hu⟩
  · by_cases ea : a = i
    · obtain ⟨u, hu⟩ := h'.old i hi
      rw [if_pos ea, ea]; exact setS hu _
    · rw [if_neg ea, setO (.inr ea)]; exact h'.row a (by omega) h2
  · rw [setZ]
    by_cases ea : a = i
    · rw [if_pos ea]; exact ⟨ht, hl⟩
    · rw [if_neg ea]; exact h'.rlow a (by omega) h2
  · rw [if_neg (show ¬ b = i by omega)]
    by_cases ea : a = i
    · rw [if_pos ea]; exact (h.rlow b (by omega) h3).2
    · rw [if_neg ea]; exact h.dist a b (by omega) h2 h3
  · by_cases ea : a = i
    · rw [if_pos ea, if_pos ea, setO (.inl (by omega)), hr.cellAt b (by omega)]
      simp [madeCells, Value.cells, Nat.mod_one, h3, Nat.lt_succ_of_le]
    · rw [if_neg ea, if_neg ea, setO (.inl (by have := (h.rlow a (by omega) h2).1; omega))]
      exact h'.cell a b (by omega) h2 h3
  · rw [World.frozen?_setCell]
    by_cases ea : a = i
    · rw [if_pos ea]; exact hr.frozenAt b
    · rw [if_neg ea]; exact h'.rfree a b (by omega) h2 h3
end
end Go.Proofs.Ytokfnajgjhkepaa.DiffP
