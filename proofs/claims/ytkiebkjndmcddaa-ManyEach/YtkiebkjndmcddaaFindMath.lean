/-
  Where a string stands in a text: plain lists. No program is named.
-/
import Derived.Test.YtkiebkjndmcddaaKit
namespace Go.Proofs.Ytkiebkjndmcddaa.FindM

/-- f stands in t at i -/
def stands (t f : List UInt8) (i : Nat) : Bool := decide (i + f.length ≤ t.length ∧ (t.drop i).take f.length = f)
theorem stands_iff {t f : List UInt8} {i : Nat} : stands t f i = true ↔ i + f.length ≤ t.length ∧ (t.drop i).take f.length = f := by simp [stands]
theorem stands_get {t f : List UInt8} {i : Nat} : stands t f i = true ↔ i + f.length ≤ t.length ∧ ∀ j, j < f.length → t[i + j]? = f[j]? := by
  rw [stands_iff]
  constructor
  · rintro ⟨h1, h2⟩
    refine ⟨h1, fun j hj => ?_⟩
    rw [← List.getElem?_drop]
    conv => rhs; rw [← h2]
    rw [List.getElem?_take_of_lt hj]
  · rintro ⟨h1, h2⟩
    refine ⟨h1, ?_⟩
    apply List.ext_getElem?
    intro j
    by_cases hj : j < f.length
    · rw [List.getElem?_take_of_lt hj, List.getElem?_drop, h2 j hj]
    · rw [List.getElem?_eq_none (by simp; omega), List.getElem?_eq_none (by omega)]
/-- the places below n at which it stands -/
def hitsTo (t f : List UInt8) (n : Nat) : List Nat := (List.range n).filter (stands t f)
def hits (t f : List UInt8) : List Nat := hitsTo t f t.length
theorem hitsTo_succ (t f : List UInt8) (n : Nat) : hitsTo t f (n + 1) = hitsTo t f n ++ (if stands t f n = true then [n] else []) := by
  unfold hitsTo
  rw [List.range_succ, List.filter_append]
  by_cases h : stands t f n = true <;> simp [h]
theorem mem_hits {t f : List UInt8} (hf : f ≠ []) {i : Nat} : i ∈ hits t f ↔ stands t f i = true := by
  unfold hits hitsTo
  rw [List.mem_filter, List.mem_range]
  constructor
  · exact fun h => h.2
  · intro h
    refine ⟨?_, h⟩
    have := (stands_iff.1 h).1
    have : 0 < f.length := List.length_pos_iff.2 hf
    omega
theorem hits_inc (t f : List UInt8) : (hits t f).Pairwise (· < ·) := List.pairwise_lt_range.filter _
theorem hits_len (t f : List UInt8) : (hits t f).length ≤ t.length := by
  have := List.length_filter_le (stands t f) (List.range t.length)
  simpa [hits, hitsTo] using this
/-- two rising lists of the same numbers are one -/
theorem inc_eq {a b : List Nat} (ha : a.Pairwise (· < ·)) (hb : b.Pairwise (· < ·)) (h : ∀ x, x ∈ a ↔ x ∈ b) : a = b := by
  have nd : ∀ {a : List Nat}, a.Pairwise (· < ·) → a.Nodup := fun h => h.imp (fun {x y} hxy e => by omega)
  exact List.Perm.eq_of_pairwise (le := (· < ·)) (fun x y _ _ h1 h2 => by omega) ha hb ((List.perm_ext_iff_of_nodup (nd ha) (nd hb)).2 h)
/-- it stands in a part of a text -/
theorem stands_part {t f : List UInt8} {a b i : Nat} (hb : b ≤ t.length) (hab : a ≤ b) : stands ((t.take b).drop a) f i = true ↔ a + i + f.length ≤ b ∧ stands t f (a + i) = true := by
  rw [stands_get, stands_get]
  have hl : ((t.take b).drop a).length = b - a := by simp; omega
  rw [hl]
  constructor
  · rintro ⟨h1, h2⟩
    refine ⟨by omega, by omega, fun j hj => ?_⟩
    rw [← h2 j hj, List.getElem?_drop, List.getElem?_take_of_lt (by omega)]
    congr 1; omega
  · rintro ⟨h1, _, h2⟩
    refine ⟨by omega, fun j hj => ?_⟩
    rw [← h2 j hj, List.getElem?_drop, List.getElem?_take_of_lt (by omega)]
    congr 1; omega
/-- the places of a part are those of the whole that lie in it -/
theorem hits_part {t f : List UInt8} (hf : f ≠ []) {a b : Nat} (hb : b ≤ t.length) (hab : a ≤ b) : (hits ((t.take b).drop a) f).map (a + ·) = (hits t f).filter (fun i => decide (a ≤ i ∧ i + f.length ≤ b)) := by
  refine inc_eq ?_ ((hits_inc t f).filter _) (fun x => ?_)
  · rw [List.pairwise_map]
    exact (hits_inc _ f).imp (fun h => by omega)
  · rw [List.mem_map, List.mem_filter, mem_hits hf, decide_eq_true_eq]
    constructor
    · rintro ⟨i, hi, rfl⟩
      obtain ⟨h1, h2⟩ := (stands_part hb hab).1 ((mem_hits hf).1 hi)
      exact ⟨h2, by omega, h1⟩
    · rintro ⟨h1, h2, h3⟩
      refine ⟨x - a, (mem_hits hf).2 ((stands_part hb hab).2 ⟨by omega, ?_⟩), by omega⟩
      rw [show a + (x - a) = x by omega]; exact h1
/-- cut in two: in the one part, in the other, or across -/
theorem hits_cut {t f : List UInt8} (hf : f ≠ []) {c : Nat} (hc : c ≤ t.length) :
    (hits (t.take c) f).length + (hits (t.drop c) f).length + (hits ((t.take (min t.length (c + f.length - 1))).drop (c + 1 - f.length)) f).length = (hits t f).length := by
  have hp : 0 < f.length := List.length_pos_iff.2 hf
  have e1 := congrArg List.length (hits_part (t := t) hf (a := 0) (b := c) hc (by omega))
  have e2 := congrArg List.length (hits_part (t := t) hf (a := c) (b := t.length) (Nat.le_refl _) hc)
  have e3 := congrArg List.length (hits_part (t := t) hf (a := c + 1 - f.length) (b := min t.length (c + f.length - 1)) (by omega) (by omega))
  simp only [List.drop_zero, List.take_length, List.length_map] at e1 e2 e3
  rw [e1, e2, e3]
  have hin : ∀ i ∈ hits t f, i + f.length ≤ t.length := fun i hi => (stands_iff.1 ((mem_hits hf).1 hi)).1
  generalize hits t f = l at *
  clear e1 e2 e3
  induction l with
  | nil => rfl
  | cons i l ih =>
    have h0 := hin i (by simp)
    have := ih (fun j hj => hin j (by simp [hj]))
    simp only [List.filter_cons]
    rcases (by omega : i + f.length ≤ c ∨ c ≤ i ∨ (i < c ∧ c < i + f.length)) with h | h | h
    · have d1 : decide (0 ≤ i ∧ i + f.length ≤ c) = true := decide_eq_true ⟨by omega, h⟩
      have d2 : decide (c ≤ i ∧ i + f.length ≤ t.length) = false := decide_eq_false (by omega)
      have d3 : decide (c + 1 - f.length ≤ i ∧ i + f.length ≤ min t.length (c + f.length - 1)) = false := decide_eq_false (by omega)
      rw [d1, d2, d3]
      simp only [if_true, Bool.false_eq_true, if_false, List.length_cons]
      omega
    · have d1 : decide (0 ≤ i ∧ i + f.length ≤ c) = false := decide_eq_false (by omega)
      have d2 : decide (c ≤ i ∧ i + f.length ≤ t.length) = true := decide_eq_true ⟨h, h0⟩
      have d3 : decide (c + 1 - f.length ≤ i ∧ i + f.length ≤ min t.length (c + f.length - 1)) = false := decide_eq_false (by omega)
      rw [d1, d2, d3]
      simp only [if_true, Bool.false_eq_true, if_false, List.length_cons]
      omega
    · have d1 : decide (0 ≤ i ∧ i + f.length ≤ c) = false := decide_eq_false (by omega)
      have d2 : decide (c ≤ i ∧ i + f.length ≤ t.length) = false := decide_eq_false (by omega)
      have d3 : decide (c + 1 - f.length ≤ i ∧ i + f.length ≤ min t.length (c + f.length - 1)) = true := decide_eq_true (by omega)
      rw [d1, d2, d3]
      simp only [if_true, Bool.false_eq_true, if_false, List.length_cons]
      omega
end Go.Proofs.Ytkiebkjndmcddaa.FindM
