/-
  Slices of operations as values; Play of them.
-/
import Derived.Test.YtkckhjljindgmaaRopePlay
namespace Go.Proofs.Ytkckhjljindgmaa.KeepC
open Go.RowKit Kit RopeM RopeC

/-- a slice of operations, nil or at an address -/
def OpsV (w : World) (v : Value) (l : List OpM) : Prop := ∃ a cap, v = .slice a l.length cap ∧ l.length ≤ cap ∧ OpsAt w a l ∧ ((a = none ∧ cap = 0 ∧ l = []) ∨ ∃ g off, a = some ⟨g, off, none⟩)
theorem OpsV.next {w w' : World} {v : Value} {l : List OpM} (h : OpsV w v l) (hb : Below w.heap.size w w') : OpsV w' v l := by
  obtain ⟨a, cap, e, hle, ha, hs⟩ := h
  exact ⟨a, cap, e, hle, ha.next hb, hs⟩
def opCells (l : List OpM) : List Value := (l.map fun o => o.cells.toList).flatten
theorem opCells_cons (o : OpM) (l : List OpM) : opCells (o :: l) = o.cells.toList ++ opCells l := by simp [opCells]
theorem opCells_append (l m : List OpM) : opCells (l ++ m) = opCells l ++ opCells m := by simp [opCells]
theorem opCells_length : ∀ l : List OpM, (opCells l).length = l.length * 6
  | [] => rfl
  | o :: l => by rw [opCells_cons, List.length_append, opCells_length l, List.length_cons]; simp [OpM.cells]; omega
theorem opCells_get : ∀ (l : List OpM) (i : Nat) (o : OpM) (j : Nat), l[i]? = some o → j < 6 → (opCells l)[i * 6 + j]? = o.cells.toList[j]?
  | [], i, o, j, h, _ => by simp at h
  | x :: l, 0, o, j, h, hj => by
    simp at h; subst h
    rw [opCells_cons, List.getElem?_append_left (by simp [OpM.cells]; omega)]; simp
  | x :: l, i + 1, o, j, h, hj => by
    simp at h
    rw [opCells_cons, List.getElem?_append_right (by simp [OpM.cells]; omega)]
    have e2 : (i + 1) * 6 + j - x.cells.toList.length = i * 6 + j := by simp [OpM.cells]; omega
    rw [e2]
    exact opCells_get l i o j h hj
theorem opCells_one (l : List OpM) : ∀ u ∈ opCells l, u.oneCell' = true := by
  intro u hu
  simp only [opCells, List.mem_flatten, List.mem_map] at hu
  obtain ⟨x, ⟨o, _, rfl⟩, hu⟩ := hu
  simp [OpM.cells] at hu
  rcases hu with rfl | rfl | rfl | rfl | rfl | rfl <;> rfl
/-- what lies at the address, cell by cell -/
theorem ops_cells {w : World} {l : List OpM} {g off : Nat} (h : OpsAt w (some ⟨g, off, none⟩) l) : ∀ j u, (opCells l)[j]? = some u → w.cell? ((⟨g, off, none⟩ : Addr).add j) = some u := by
  intro j u hj
  have hjl := (List.getElem?_eq_some_iff.1 hj).1
  rw [opCells_length] at hjl
  have hi : j / 6 < l.length := by omega
  have ho : l[j / 6]? = some l[j / 6] := by simp [hi]
  obtain ⟨g', off', e, _, c0, c1, c2, c3, c4, c5⟩ := h.cell (j / 6) _ ho
  have hg := opCells_get l (j / 6) _ (j % 6) ho (by omega)
  have hjj : j / 6 * 6 + j % 6 = j := by omega
  rw [hjj, hj] at hg
  have ea : (⟨g, off, none⟩ : Addr).add j = ⟨g, off + (j / 6 * 6 + j % 6), none⟩ := by
    rw [hjj]; unfold Addr.add; split
    · simp
    · rfl
  simp only [Option.some.injEq, Addr.mk.injEq, and_true] at e
  obtain ⟨rfl, rfl⟩ := e
  rw [ea]
  have h6 : j % 6 < 6 := by omega
  generalize j % 6 = r at *
  match r, h6 with
  | 0, _ => rw [hg]; simpa [OpM.cells] using c0
  | 1, _ => rw [hg]; simpa [OpM.cells, Nat.add_assoc] using c1
  | 2, _ => rw [hg]; simpa [OpM.cells, Nat.add_assoc] using c2
  | 3, _ => rw [hg]; simpa [OpM.cells, Nat.add_assoc] using c3
  | 4, _ => rw [hg]; simpa [OpM.cells, Nat.add_assoc] using c4
  | 5, _ => rw [hg]; simpa [OpM.cells, Nat.add_assoc] using c5
theorem OpsV.of_owns {w : World} {base : Nat} {v : Value} {l : List OpM} (h : w.ownsRow base 55 6 v l.length (opCells l)) : OpsV w v l := by
  rcases h.2 with ⟨e, h0⟩ | ⟨g, cap, cur, e, hb, hg, hle, _⟩
  · have hl : l = [] := List.eq_nil_of_length_eq_zero h0
    subst hl
    exact ⟨none, 0, by rw [e]; rfl, by simp, ⟨fun i o hi => by simp at hi⟩, .inl ⟨rfl, rfl, rfl⟩⟩
  · refine ⟨some ⟨g, 0, none⟩, cap, e, hle, ⟨fun i o hi => ⟨g, 0, rfl, (h.lt g (by rw [e]; rfl)).2, ?_⟩⟩, .inr ⟨g, 0, rfl⟩⟩
    have hlt := (List.getElem?_eq_some_iff.1 hi).1
    rw [e] at h
    have k : ∀ j, j < 6 → w.cell? ⟨g, 0 + i * 6 + j, none⟩ = o.cells.toList[j]? := by
      intro j hj
      rw [Nat.zero_add, h.cellAt (i * 6 + j) (by omega), opCells_get l i o j hi hj]
    exact ⟨k 0 (by omega), k 1 (by omega), k 2 (by omega), k 3 (by omega), k 4 (by omega), k 5 (by omega)⟩
theorem infoOp : (Try.prog.info? 55).map (fun i => (i.zero, i.size, i.bytes)) = some (some (.agg #[.int .i64 0, .string ⟨#[]⟩, .int .i64 0, .int .i64 0, .int .i64 0, .int .i64 0]), 6, 56) := by kernel_rfl

/-- Play, whatever the value -/
theorem playV (v : Value) (l : List OpM) (w : World) (h : OpsV w v l) (h80 : l.length ≤ 80) :
    Calls Try.prog 29 #[v] w fun e w' => ∃ tv cv, e = .returned (.tuple #[tv, cv, .int .i64 0]) ∧ RowF w' tv ((texts l []).map strV) ∧ Row w' cv (ints (codes l [])) ∧ Below w.heap.size w w' := by
  obtain ⟨a, cap, rfl, _, ha, _⟩ := h
  exact playF l a cap w ha h80

end Go.Proofs.Ytkckhjljindgmaa.KeepC
