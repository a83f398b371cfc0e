/-
  What two lists have in common: plain lists. No program is named.
-/
import Derived.Test.YtcknmaimkodaeaaKit
namespace Go.Proofs.Ytcknmaimkodaeaa.DiffM

section
variable {α : Type}
/-- n is how many elements two lists have in common, in their order, at most -/
structure Lcs (a b : List α) (n : Nat) : Prop where
  is : ∃ c : List α, c.Sublist a ∧ c.Sublist b ∧ c.length = n
  max : ∀ c : List α, c.Sublist a → c.Sublist b → c.length ≤ n
theorem Lcs.one {a b : List α} {n m : Nat} (h : Lcs a b n) (k : Lcs a b m) : n = m := by
  obtain ⟨c, h1, h2, h3⟩ := h.is
  obtain ⟨d, k1, k2, k3⟩ := k.is
  have := h.max d k1 k2
  have := k.max c h1 h2
  omega
theorem lcs_ex (a b : List α) : ∃ n, Lcs a b n := by
  classical
  have key : ∀ j, (∀ c : List α, c.Sublist a → c.Sublist b → c.length ≤ j) → ∃ n, Lcs a b n := by
    intro j
    induction j with
    | zero => exact fun h => ⟨0, ⟨[], by simp, by simp, rfl⟩, h⟩
    | succ j ih =>
      intro h
      by_cases hc : ∃ c : List α, c.Sublist a ∧ c.Sublist b ∧ c.length = j + 1
      · exact ⟨j + 1, hc, h⟩
      · refine ih (fun c h1 h2 => ?_)
        have h3 := h c h1 h2
        have h4 : c.length ≠ j + 1 := fun e => hc ⟨c, h1, h2, e⟩
        omega
  exact key a.length (fun c h1 _ => h1.length_le)
noncomputable def lcs (a b : List α) : Nat := (lcs_ex a b).choose
theorem lcs_is (a b : List α) : Lcs a b (lcs a b) := (lcs_ex a b).choose_spec
theorem lcs_of {a b : List α} {n : Nat} (h : Lcs a b n) : lcs a b = n := (lcs_is a b).one h
theorem lcs_le {a b c : List α} (h1 : c.Sublist a) (h2 : c.Sublist b) : c.length ≤ lcs a b := (lcs_is a b).max c h1 h2
theorem lcs_left (a b : List α) : lcs a b ≤ a.length := by
  obtain ⟨c, h1, _, h3⟩ := (lcs_is a b).is
  have := h1.length_le; omega
theorem lcs_right (a b : List α) : lcs a b ≤ b.length := by
  obtain ⟨c, _, h2, h3⟩ := (lcs_is a b).is
  have := h2.length_le; omega
theorem lcs_comm (a b : List α) : lcs a b = lcs b a := lcs_of ⟨by obtain ⟨c, h1, h2, h3⟩ := (lcs_is b a).is; exact ⟨c, h2, h1, h3⟩, fun c h1 h2 => lcs_le h2 h1⟩
theorem lcs_self (a : List α) : lcs a a = a.length := lcs_of ⟨⟨a, List.Sublist.refl _, List.Sublist.refl _, rfl⟩, fun _ h _ => h.length_le⟩
theorem lcs_nil_left (b : List α) : lcs [] b = 0 := by have := lcs_left ([] : List α) b; simpa using this
theorem lcs_nil_right (a : List α) : lcs a [] = 0 := by have := lcs_right a ([] : List α); simpa using this
theorem lcs_rev (a b : List α) : lcs a.reverse b.reverse = lcs a b := by
  refine lcs_of ⟨?_, fun c h1 h2 => ?_⟩
  · obtain ⟨c, h1, h2, h3⟩ := (lcs_is a b).is
    exact ⟨c.reverse, h1.reverse, h2.reverse, by simpa using h3⟩
  · have h3 := lcs_le (a := a) (b := b) (c := c.reverse) (by simpa using h1.reverse) (by simpa using h2.reverse)
    simpa using h3
theorem lcs_mono {a a' b b' : List α} (h1 : a.Sublist a') (h2 : b.Sublist b') : lcs a b ≤ lcs a' b' := by
  obtain ⟨c, k1, k2, k3⟩ := (lcs_is a b).is
  rw [← k3]
  exact lcs_le (k1.trans h1) (k2.trans h2)
/-- the heads are alike -/
theorem lcs_same (x : α) (a b : List α) : lcs (x :: a) (x :: b) = lcs a b + 1 := by
  refine lcs_of ⟨?_, fun c h1 h2 => ?_⟩
  · obtain ⟨c, h1, h2, h3⟩ := (lcs_is a b).is
    exact ⟨x :: c, h1.cons_cons x, h2.cons_cons x, by simp [h3]⟩
  · cases c with
    | nil => simp
    | cons z c =>
      have k1 : c.Sublist a := by
        cases h1 with
        | cons _ h => exact (List.sublist_cons_self z c).trans h
        | cons_cons _ h => exact h
      have k2 : c.Sublist b := by
        cases h2 with
        | cons _ h => exact (List.sublist_cons_self z c).trans h
        | cons_cons _ h => exact h
      have := lcs_le k1 k2
      simp; omega
/-- they are not -/
theorem lcs_other {x y : α} (h : x ≠ y) (a b : List α) : lcs (x :: a) (y :: b) = max (lcs (x :: a) b) (lcs a (y :: b)) := by
  refine Nat.le_antisymm ?_ ?_
  · obtain ⟨c, h1, h2, h3⟩ := (lcs_is (x :: a) (y :: b)).is
    rw [← h3]
    cases h1 with
    | cons _ k => have := lcs_le k h2; omega
    | cons_cons _ k =>
      cases h2 with
      | cons _ k2 => have := lcs_le (k.cons_cons x) k2; omega
      | cons_cons _ k2 => exact absurd rfl h
  · have h1 := lcs_mono (List.Sublist.refl (x :: a)) (List.sublist_cons_self y b)
    have h2 := lcs_mono (List.sublist_cons_self x a) (List.Sublist.refl (y :: b))
    omega
/-- the last ones -/
theorem lcs_snoc_same (x : α) (a b : List α) : lcs (a ++ [x]) (b ++ [x]) = lcs a b + 1 := by
  rw [← lcs_rev, List.reverse_append, List.reverse_append]
  simp only [List.reverse_singleton, List.singleton_append]
  rw [lcs_same, lcs_rev]
theorem lcs_snoc_other {x y : α} (h : x ≠ y) (a b : List α) : lcs (a ++ [x]) (b ++ [y]) = max (lcs (a ++ [x]) b) (lcs a (b ++ [y])) := by
  rw [← lcs_rev, List.reverse_append, List.reverse_append]
  simp only [List.reverse_singleton, List.singleton_append]
  rw [lcs_other h, ← lcs_rev (a ++ [x]) b, ← lcs_rev a (b ++ [y])]
  simp
/-- a line more adds one at most -/
theorem lcs_more (x : α) (a b : List α) : lcs (x :: a) b ≤ lcs a b + 1 := by
  obtain ⟨c, h1, h2, h3⟩ := (lcs_is (x :: a) b).is
  rw [← h3]
  cases h1 with
  | cons _ k => have := lcs_le k h2; omega
  | cons_cons _ k =>
    have := lcs_le k ((List.sublist_cons_self _ _).trans h2)
    simp; omega
theorem lcs_snoc (x : α) (a b : List α) : lcs a b ≤ lcs (a ++ [x]) b ∧ lcs (a ++ [x]) b ≤ lcs a b + 1 := by
  refine ⟨lcs_mono (List.sublist_append_left a [x]) (List.Sublist.refl b), ?_⟩
  rw [← lcs_rev (a ++ [x]) b, ← lcs_rev a b, List.reverse_append]
  exact lcs_more x _ _
/-- what both have ahead, or behind -/
theorem lcs_head (h a b : List α) : lcs (h ++ a) (h ++ b) = h.length + lcs a b := by
  induction h with
  | nil => simp
  | cons x h ih => rw [List.cons_append, List.cons_append, lcs_same, ih]; simp; omega
theorem lcs_tail (a b t : List α) : lcs (a ++ t) (b ++ t) = lcs a b + t.length := by
  rw [← lcs_rev, List.reverse_append, List.reverse_append, lcs_head, lcs_rev]
  simp; omega
/-- alike: all of them are in common -/
theorem lcs_full {a b : List α} (h1 : lcs a b = a.length) (h2 : lcs a b = b.length) : a = b := by
  obtain ⟨c, k1, k2, k3⟩ := (lcs_is a b).is
  rw [← k1.eq_of_length (by omega), k2.eq_of_length (by omega)]
/-- two parts of a list have a part in common -/
theorem sub_two : ∀ {b c d : List α}, c.Sublist b → d.Sublist b → ∃ e : List α, e.Sublist c ∧ e.Sublist d ∧ c.length + d.length ≤ b.length + e.length
  | [], c, d, h1, h2 => by
    rw [List.sublist_nil] at h1 h2
    subst h1; subst h2
    exact ⟨[], by simp, by simp, by simp⟩
  | x :: b, c, d, h1, h2 => by
    cases h1 with
    | cons _ k1 =>
      cases h2 with
      | cons _ k2 =>
        obtain ⟨e, e1, e2, e3⟩ := sub_two k1 k2
        exact ⟨e, e1, e2, by simp; omega⟩
      | cons_cons _ k2 =>
        obtain ⟨e, e1, e2, e3⟩ := sub_two k1 k2
        exact ⟨e, e1, e2.trans (List.sublist_cons_self _ _), by simp; omega⟩
    | cons_cons _ k1 =>
      cases h2 with
      | cons _ k2 =>
        obtain ⟨e, e1, e2, e3⟩ := sub_two k1 k2
        exact ⟨e, e1.trans (List.sublist_cons_self _ _), e2, by simp; omega⟩
      | cons_cons _ k2 =>
        obtain ⟨e, e1, e2, e3⟩ := sub_two k1 k2
        exact ⟨x :: e, e1.cons_cons x, e2.cons_cons x, by simp; omega⟩
/-- by way of a third list -/
theorem lcs_way (a b c : List α) : lcs a b + lcs b c ≤ b.length + lcs a c := by
  obtain ⟨d, d1, d2, d3⟩ := (lcs_is a b).is
  obtain ⟨f, f1, f2, f3⟩ := (lcs_is b c).is
  obtain ⟨e, e1, e2, e3⟩ := sub_two d2 f1
  have := lcs_le (e1.trans d1) (e2.trans f2)
  omega
/-- the cost of a script -/
noncomputable def cost (a b : List α) : Nat := a.length + b.length - 2 * lcs a b
theorem cost_eq (a b : List α) : cost a b + 2 * lcs a b = a.length + b.length := by
  have h1 := lcs_left a b
  have h2 := lcs_right a b
  unfold cost; omega
theorem cost_comm (a b : List α) : cost a b = cost b a := by
  have h1 := cost_eq a b
  have h2 := cost_eq b a
  rw [lcs_comm b a] at h2
  omega
theorem cost_self (a : List α) : cost a a = 0 := by
  have h1 := cost_eq a a
  rw [lcs_self] at h1; omega
theorem cost_zero {a b : List α} (h : cost a b = 0) : a = b := by
  have h1 := cost_eq a b
  have h2 := lcs_left a b
  have h3 := lcs_right a b
  exact lcs_full (by omega) (by omega)
theorem cost_way (a b c : List α) : cost a c ≤ cost a b + cost b c := by
  have h1 := cost_eq a b
  have h2 := cost_eq b c
  have h3 := cost_eq a c
  have h4 := lcs_way a b c
  omega
theorem cost_even (a b : List α) : (cost a b + a.length + b.length) % 2 = 0 := by
  have h1 := cost_eq a b; omega
theorem cost_frame (h a b t : List α) : cost (h ++ a ++ t) (h ++ b ++ t) = cost a b := by
  have h1 := cost_eq a b
  have h2 := cost_eq (h ++ a ++ t) (h ++ b ++ t)
  rw [lcs_tail, lcs_head] at h2
  simp only [List.length_append] at h2
  omega
theorem cost_more (x : α) (a b : List α) : cost (a ++ [x]) b = cost a b + 1 ∨ cost (a ++ [x]) b + 1 = cost a b := by
  have h1 := cost_eq a b
  have h2 := cost_eq (a ++ [x]) b
  have h3 := lcs_snoc x a b
  rw [List.length_append, List.length_singleton] at h2
  omega
end
end Go.Proofs.Ytcknmaimkodaeaa.DiffM
