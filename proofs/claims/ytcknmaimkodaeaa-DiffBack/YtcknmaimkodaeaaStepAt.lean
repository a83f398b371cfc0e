/-
  Steps in memory: pairs of numbers; a row of the call's own whose elements are written and appended to. No function is named.
-/
import Derived.Test.YtcknmaimkodaeaaDiffAt
import Derived.Test.YtcknmaimkodaeaaRowO
namespace Go.Proofs.Ytcknmaimkodaeaa.DiffA
open Go.RowKit Kit LineM StrM DiffM HistM

/-- the cells of a step -/
def pc (p : Nat × Nat) : List Value := [.int .i64 (p.1 : Int), .int .i64 (p.2 : Int)]
theorem pc_len (p : Nat × Nat) : (pc p).length = 2 := rfl
theorem infoStep : (Try.prog.info? 28).map (fun i => (i.zero, i.size, i.bytes)) = some (some (.agg #[.int .i64 0, .int .i64 0]), 2, 16) := by kernel_rfl
theorem flatC_put {α : Type} {k : Nat} {cells : α → List Value} (hk : ∀ o, (cells o).length = k) : ∀ (l : List α) (i : Nat) (o o' : α) (j : Nat) (u : Value), l[i]? = some o → j < k → cells o' = (cells o).set j u → flatC cells (l.set i o') = (flatC cells l).set (i * k + j) u
  | [], i, o, o', j, u, h, _, _ => by simp at h
  | x :: l, 0, o, o', j, u, h, hj, e => by
    simp at h; subst h
    rw [List.set_cons_zero, flatC_cons, flatC_cons, e, List.set_append, if_pos (by rw [hk]; omega)]; simp
  | x :: l, i + 1, o, o', j, u, h, hj, e => by
    simp at h
    have e1 : (i + 1) * k + j = k + (i * k + j) := by rw [Nat.succ_mul]; omega
    rw [List.set_cons_succ, flatC_cons, flatC_cons, flatC_put hk l i o o' j u h hj e, List.set_append, if_neg (by rw [hk]; omega), hk, e1]
    congr 2; omega
/-- one cell of one element is written -/
theorem RO.put {α : Type} {k : Nat} {cells : α → List Value} (hk : ∀ o, (cells o).length = k) {w W : World} {l : List α} {g off n cap : Nat} (h : RO k cells w l (.slice (some ⟨g, off, none⟩) n cap) W) (hn : n = l.length) {i j : Nat} {o o' : α} {u : Value} (hi : l[i]? = some o) (hj : j < k) (e : cells o' = (cells o).set j u) : RO k cells w (l.set i o') (.slice (some ⟨g, off, none⟩) n cap) (W.setCell ⟨g, off + i * k + j, none⟩ u) := by
  subst hn
  have hil := (List.getElem?_eq_some_iff.1 hi).1
  have hlt : i * k + j < l.length * k := by
    have h1 : (i + 1) * k ≤ l.length * k := Nat.mul_le_mul_right k hil
    rw [Nat.succ_mul] at h1
    omega
  refine ⟨?_, h.low, h.bel.setCell (p := ⟨g, off + i * k + j, none⟩) (h.low g rfl) _⟩
  have := h.row.set (i * k + j) u hlt
  rw [← flatC_put hk l i o o' j u hi hj e, ← Nat.add_assoc] at this
  rw [List.length_set]; exact this
/-- what one element's cell holds, and that it may be written -/
theorem RO.at_ {α : Type} {k : Nat} {cells : α → List Value} (hk : ∀ o, (cells o).length = k) {w W : World} {l : List α} {v : Value} (h : RO k cells w l v W) {i : Nat} {o : α} (hi : l[i]? = some o) : ∃ g off cap, v = .slice (some ⟨g, off, none⟩) l.length cap ∧ g < W.heap.size ∧ w.heap.size ≤ g ∧ ∀ j u, j < k → (cells o)[j]? = some u → W.cell? ⟨g, off + i * k + j, none⟩ = some u ∧ W.frozen? ⟨g, off + i * k + j, none⟩ = false := by
  have hil := (List.getElem?_eq_some_iff.1 hi).1
  obtain ⟨g, off, cap, e, h1, _, hg, hc, hf⟩ := h.row.pos (by omega)
  refine ⟨g, off, cap, e, hg, h.low g (by rw [e]; rfl), fun j u hj hu => ⟨?_, ?_⟩⟩
  · rw [Nat.add_assoc]
    exact hc _ _ ((flatC_get hk l i o j hi hj).trans hu)
  · rw [Nat.add_assoc]
    have h2 : (i + 1) * k ≤ cap * k := Nat.mul_le_mul_right k (by omega)
    rw [Nat.succ_mul] at h2
    exact (hf (i * k + j) (by omega)).2
/-- the last run is of the last kind -/
theorem comb_last (ks : List Nat) (k : Nat) : ∃ l n, comb (ks ++ [k]) = l ++ [(k, n)] ∧ 1 ≤ n := by
  rw [comb_snoc]
  rcases List.eq_nil_or_concat (comb ks) with h | ⟨l, p, h⟩
  · rw [h]; exact ⟨[], 1, rfl, Nat.le_refl _⟩
  · rw [h, List.concat_eq_append, push_snoc]
    by_cases e : p.1 = k
    · rw [if_pos e]; exact ⟨l, p.2 + 1, rfl, by omega⟩
    · rw [if_neg e]; exact ⟨l ++ [p], 1, rfl, Nat.le_refl _⟩
theorem ex_len_le (l : List (Nat × Nat)) : ∀ p ∈ l, p.2 ≤ (ex l).length := by
  induction l with
  | nil => simp
  | cons q l ih =>
    intro p hp
    rw [ex_cons, List.length_append, List.length_replicate]
    rcases List.mem_cons.1 hp with rfl | hp
    · omega
    · have := ih p hp; omega
theorem runs_len {l : List (Nat × Nat)} (h : Runs l) : l.length ≤ (ex l).length := by
  have key : ∀ l : List (Nat × Nat), (∀ p ∈ l, 1 ≤ p.2) → l.length ≤ (ex l).length := by
    intro l
    induction l with
    | nil => simp
    | cons q l ih =>
      intro hq
      have h1 := hq q (by simp)
      have h2 := ih (fun p hp => hq p (by simp [hp]))
      rw [ex_cons, List.length_append, List.length_replicate, List.length_cons]
      omega
  exact key l h.pos
/-- one more kind: as the loop does it -/
theorem comb_step {ks : List Nat} {i k : Nat} (hk : ks[i]? = some k) : (i = 0 ∧ comb (ks.take (i + 1)) = [(k, 1)]) ∨ ∃ k' l n, ks[i - 1]? = some k' ∧ 0 < i ∧ comb (ks.take i) = l ++ [(k', n)] ∧ n ≤ i ∧ l.length + 1 ≤ i ∧ ((k' = k ∧ comb (ks.take (i + 1)) = l ++ [(k, n + 1)]) ∨ (k' ≠ k ∧ comb (ks.take (i + 1)) = l ++ [(k', n)] ++ [(k, 1)])) := by
  have e0 : ks.take (i + 1) = ks.take i ++ [k] := by rw [List.take_add_one, hk]; rfl
  by_cases hi : i = 0
  · subst hi
    left
    rw [e0]; exact ⟨rfl, rfl⟩
  · right
    have hil := (List.getElem?_eq_some_iff.1 hk).1
    have h1 : ks[i - 1]? = some (ks[i - 1]'(by omega)) := List.getElem?_eq_getElem (by omega)
    have e1 : ks.take i = ks.take (i - 1) ++ [ks[i - 1]'(by omega)] := by
      conv => lhs; rw [show i = (i - 1) + 1 by omega, List.take_add_one, h1]
      rfl
    obtain ⟨l, n, hl, hn⟩ := comb_last (ks.take (i - 1)) (ks[i - 1]'(by omega))
    rw [← e1] at hl
    have hex := (comb_all (ks.take i)).2
    have hrl := runs_len (comb_all (ks.take i)).1
    have hnl := ex_len_le (comb (ks.take i)) (ks[i - 1]'(by omega), n) (by rw [hl]; simp)
    rw [hex, List.length_take] at hrl hnl
    rw [hl] at hrl
    dsimp only at hnl
    simp only [List.length_append, List.length_singleton] at hrl
    refine ⟨_, l, n, h1, by omega, hl, by omega, by omega, ?_⟩
    rw [e0, comb_snoc, hl, push_snoc]
    by_cases e : ks[i - 1]'(by omega) = k
    · left; rw [if_pos e]; exact ⟨e, rfl⟩
    · right; rw [if_neg e]; exact ⟨e, rfl⟩
end Go.Proofs.Ytcknmaimkodaeaa.DiffA
