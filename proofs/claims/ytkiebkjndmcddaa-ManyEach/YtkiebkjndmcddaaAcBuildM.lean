/-
  Package find: what holds while the machine is built.
-/
import Derived.Test.YtkiebkjndmcddaaAcGrow
import Derived.Test.YtkiebkjndmcddaaStrAt
namespace Go.Proofs.Ytkiebkjndmcddaa.AcM
open Go.RowKit Go.Maps Kit FindM LineM HistM

theorem flatC_put {α : Type} {k : Nat} {cells : α → List Value} (hk : ∀ o, (cells o).length = k) : ∀ (l : List α) (i : Nat) (o o' : α) (j : Nat) (u : Value), l[i]? = some o → j < k → cells o' = (cells o).set j u → flatC cells (l.set i o') = (flatC cells l).set (i * k + j) u
  | [], i, o, o', j, u, h, _, _ => by simp at h
  | x :: l, 0, o, o', j, u, h, hj, e => by
    simp at h; subst h
    rw [List.set_cons_zero, flatC_cons, flatC_cons, e, List.set_append, if_pos (by rw [hk]; omega)]; simp
  | x :: l, i + 1, o, o', j, u, h, hj, e => by
    simp at h
    have e1 : (i + 1) * k + j = k + (i * k + j) := by rw [Nat.succ_mul]; omega
    rw [List.set_cons_succ, flatC_cons, flatC_cons, flatC_put hk l i o o' j u h hj e, List.set_append, if_neg (by rw [hk]; omega), hk, e1]
    congr 2; omega
/-- a row of numbers that is written, whatever lies below it -/
structure EN (blk n : Nat) (d : Nat → Nat) (W : World) : Prop where
  lt : blk < W.heap.size
  cell : ∀ i, i < n → W.cell? ⟨blk, i, none⟩ = some (.int .i64 (d i : Int))
  free : ∀ i, i < n → W.frozen? ⟨blk, i, none⟩ = false
section
variable {W W' : World} {blk n : Nat} {d : Nat → Nat}
theorem EN.kept (h : EN blk n d W) (hs : W.heap.size ≤ W'.heap.size) (e : W'.heap[blk]? = W.heap[blk]?) : EN blk n d W' :=
  ⟨Nat.lt_of_lt_of_le h.lt hs, fun i hi => (World.cell?_of_block (a := ⟨blk, i, none⟩) e).trans (h.cell i hi), fun i hi => (World.frozen?_of_block (a := ⟨blk, i, none⟩) e).trans (h.free i hi)⟩
theorem EN.set (h : EN blk n d W) {i : Nat} (hi : i < n) (v : Nat) : EN blk n (fun j => if j = i then v else d j) (W.setCell ⟨blk, i, none⟩ (.int .i64 (v : Int))) := by
  refine ⟨by rw [setZ]; exact h.lt, fun j hj => ?_, fun j hj => by rw [World.frozen?_setCell]; exact h.free j hj⟩
  by_cases e : j = i
  · subst e; rw [if_pos rfl]; exact setS (h.cell j hj) _
  · rw [if_neg e, setO (.inr e)]; exact h.cell j hj
theorem EN.made {base e cap : Nat} (h : W.ownsRow base e 1 (.slice (some ⟨blk, 0, none⟩) n cap) n (madeCells (Value.int .i64 0).cells (n * 1)).toList) : EN blk n (fun _ => 0) W := by
  refine ⟨(h.lt blk rfl).2, fun i hi => ?_, fun i hi => h.frozenAt i⟩
  rw [h.cellAt i (by omega)]
  simp [madeCells, Value.cells, hi, Nat.mod_one]
end
/-- the first state -/
theorem mac_one {w : World} {mb : Nat} (hm : OM w mb 0 (.map [])) {B : Nat} (hB : B ≤ mb) (hB2 : B ≤ w.heap.size) : MacAt B (w.alloc (.cells #[.map (some mb), .int .i64 ((0 : Nat) : Int), .int .i64 (-1)] 72)) (.slice (some ⟨w.heap.size, 0, none⟩) 1 1) [[]] [⟨mb, 0, -1⟩] where
  row := by
    refine ⟨rfl, .inr ⟨w.heap.size, 0, 1, rfl, Nat.le_refl _, by unfold maxLen; omega, by simp, fun j u hj => ?_, fun j hj => ⟨?_, ?_⟩⟩⟩
    · have := cells_new3 w [.map (some mb), .int .i64 ((0 : Nat) : Int), .int .i64 (-1)] 72 j u hj
      rw [add_of rfl] at this
      exact this
    · have hj3 : j < 3 := by omega
      obtain ⟨u, hu⟩ : ∃ u, [Value.map (some mb), .int .i64 ((0 : Nat) : Int), .int .i64 (-1)][j]? = some u := ⟨_, List.getElem?_eq_getElem (by simpa using hj3)⟩
      have := cells_new3 w [.map (some mb), .int .i64 ((0 : Nat) : Int), .int .i64 (-1)] 72 j u hu
      rw [add_of rfl] at this
      show (World.cell? _ ⟨w.heap.size, 0 + j, none⟩).isSome = true
      rw [this]; rfl
    · exact World.frozen?_alloc_new w #[.map (some mb), .int .i64 ((0 : Nat) : Int), .int .i64 (-1)] 72 (0 + j)
  low := by
    rintro b (hb | ⟨st, hst, rfl⟩)
    · cases hb; exact hB2
    · rw [List.mem_singleton] at hst; subst hst; exact hB
  len := rfl
  trie := trie_one
  maps s st hst := by
    match s, hst with
    | 0, hst =>
      simp at hst; subst hst
      exact ⟨0, _, hm.same (Below.heap_alloc w _ mb hm.lt), by simp, DMp.one⟩
  far st hst := by
    rw [List.mem_singleton] at hst; subst hst
    intro e
    simp [Value.ownBlock] at e
    have := hm.lt
    omega
  apart i j a b ha hb _ := by
    have h1 := (List.getElem?_eq_some_iff.1 ha).1
    have h2 := (List.getElem?_eq_some_iff.1 hb).1
    simp at h1 h2
    omega
  suf s st hst h0 := by
    have h1 := (List.getElem?_eq_some_iff.1 hst).1
    simp at h1
    omega
/-- a state is found to be a string -/
theorem MacAt.setFi {B : Nat} {w : World} {g off n cap : Nat} {ps : List (List UInt8)} {ss : List St} (h : MacAt B w (.slice (some ⟨g, off, none⟩) n cap) ps ss) {e : Nat} {st : St} (he : ss[e]? = some st) (z : Int) : MacAt B (w.setCell ⟨g, off + e * 3 + 2, none⟩ (.int .i64 z)) (.slice (some ⟨g, off, none⟩) n cap) ps (ss.set e { st with fi := z }) := by
  have hel := (List.getElem?_eq_some_iff.1 he).1
  have hn : n = ss.length := by
    rcases h.row.is with ⟨e1, _⟩ | ⟨g', off', cap', e1, _⟩
    · cases e1
    · cases e1; rfl
  subst hn
  have get : ∀ {s : Nat} {x : St}, (ss.set e { st with fi := z })[s]? = some x → ∃ y, ss[s]? = some y ∧ x.mb = y.mb ∧ x.sf = y.sf := fun {s x} hx => by
    by_cases hs : s = e
    · subst hs
      rw [List.getElem?_set_self hel] at hx
      cases hx
      exact ⟨st, he, rfl, rfl⟩
    · rw [List.getElem?_set_ne (Ne.symm hs)] at hx
      exact ⟨x, hx, rfl, rfl⟩
  have getm : ∀ {x : St}, x ∈ ss.set e { st with fi := z } → ∃ y ∈ ss, x.mb = y.mb := fun {x} hx => by
    obtain ⟨s, hs⟩ := List.mem_iff_getElem?.1 hx
    obtain ⟨y, hy, e1, _⟩ := get hs
    exact ⟨y, List.mem_of_getElem? hy, e1⟩
  have hoth : ∀ b, b ≠ g → (w.setCell ⟨g, off + e * 3 + 2, none⟩ (.int .i64 z)).heap[b]? = w.heap[b]? := fun b hb => heap_set_other hb _
  refine ⟨?_, ?_, by rw [List.length_set]; exact h.len, h.trie, fun s x hx => ?_, fun x hx => ?_, fun i j a b ha hb hab => ?_, fun s x hx h0 => ?_⟩
  · have := h.row.set (e * 3 + 2) (.int .i64 z) (by omega)
    rw [← flatC_put stc_len ss e st { st with fi := z } 2 (.int .i64 z) he (by omega) rfl, ← Nat.add_assoc] at this
    rw [List.length_set]; exact this
  · rintro b (hb | ⟨x, hx, rfl⟩)
    · exact h.low b (.inl hb)
    · obtain ⟨y, hy, e1⟩ := getm hx
      rw [e1]; exact h.low _ (.inr ⟨y, hy, rfl⟩)
  · obtain ⟨y, hy, e1, _⟩ := get hx
    obtain ⟨m, D, h1, h2, h3⟩ := h.maps s y hy
    have hne : y.mb ≠ g := fun e2 => h.far y (List.mem_of_getElem? hy) (by rw [e2]; rfl)
    rw [e1]
    exact ⟨m, D, h1.same (hoth _ hne), h2, h3⟩
  · obtain ⟨y, hy, e1⟩ := getm hx
    rw [e1]; exact h.far y hy
  · obtain ⟨y, hy, e1, _⟩ := get ha
    obtain ⟨y', hy', e2, _⟩ := get hb
    exact h.apart i j y y' hy hy' (by rw [← e1, ← e2]; exact hab)
  · obtain ⟨y, hy, _, e2⟩ := get hx
    rw [e2]; exact h.suf s y hy h0
theorem foot_set {g off n cap e : Nat} {ss : List St} {st : St} (he : ss[e]? = some st) (z : Int) {b : Nat} (h : Foot (.slice (some ⟨g, off, none⟩) n cap) (ss.set e { st with fi := z }) b) : Foot (.slice (some ⟨g, off, none⟩) n cap) ss b := by
  rcases h with h | ⟨x, hx, rfl⟩
  · exact .inl h
  · obtain ⟨s, hs⟩ := List.mem_iff_getElem?.1 hx
    by_cases hse : s = e
    · subst hse
      rw [List.getElem?_set_self (List.getElem?_eq_some_iff.1 he).1] at hs
      cases hs
      exact .inr ⟨st, List.mem_of_getElem? he, rfl⟩
    · rw [List.getElem?_set_ne (Ne.symm hse)] at hs
      exact .inr ⟨x, List.mem_of_getElem? hs, rfl⟩
end Go.Proofs.Ytkiebkjndmcddaa.AcM
