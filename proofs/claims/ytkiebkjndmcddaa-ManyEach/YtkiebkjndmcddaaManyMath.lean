/-
  All occurrences of several strings, by their ends and then by falling length: plain lists. No program is named.
-/
import Derived.Test.YtkiebkjndmcddaaFindMath
namespace Go.Proofs.Ytkiebkjndmcddaa.FindM

/-- the length of the i-th string -/
def fl (fs : List (List UInt8)) (i : Nat) : Nat := (fs.getD i []).length
/-- those of one length that end at e, among the first n strings -/
def rowI (t : List UInt8) (fs : List (List UInt8)) (e long n : Nat) : List (Nat × Nat) := ((List.range n).filter (fun i => decide (fl fs i = long ∧ long ≤ e) && stands t (fs.getD i []) (e - long))).map (fun i => (e - long, i))
/-- those of the lengths 20 .. 21 - m that end at e -/
def rowL (t : List UInt8) (fs : List (List UInt8)) (e m : Nat) : List (Nat × Nat) := (List.range m).flatMap (fun d => rowI t fs e (20 - d) fs.length)
/-- those that end at 1 .. n -/
def manyTo (t : List UInt8) (fs : List (List UInt8)) (n : Nat) : List (Nat × Nat) := (List.range n).flatMap (fun e => rowL t fs (e + 1) 20)
def many (t : List UInt8) (fs : List (List UInt8)) : List (Nat × Nat) := manyTo t fs t.length
theorem rowI_succ (t : List UInt8) (fs : List (List UInt8)) (e long n : Nat) : rowI t fs e long (n + 1) = rowI t fs e long n ++ (if fl fs n = long ∧ long ≤ e ∧ stands t (fs.getD n []) (e - long) = true then [(e - long, n)] else []) := by
  unfold rowI
  rw [List.range_succ, List.filter_append, List.map_append]
  congr 1
  by_cases h : fl fs n = long ∧ long ≤ e ∧ stands t (fs.getD n []) (e - long) = true
  · rw [if_pos h]
    have : (decide (fl fs n = long ∧ long ≤ e) && stands t (fs.getD n []) (e - long)) = true := by rw [h.2.2]; simp [h.1, h.2.1]
    simp only [List.filter_cons, this, if_true, List.filter_nil, List.map_cons, List.map_nil]
  · rw [if_neg h]
    have : (decide (fl fs n = long ∧ long ≤ e) && stands t (fs.getD n []) (e - long)) = false := by
      rw [Bool.and_eq_false_iff]
      by_cases h1 : fl fs n = long ∧ long ≤ e
      · right
        cases hq : stands t (fs.getD n []) (e - long)
        · rfl
        · exact absurd ⟨h1.1, h1.2, hq⟩ h
      · left; exact decide_eq_false h1
    simp only [List.filter_cons, this, Bool.false_eq_true, if_false, List.filter_nil, List.map_nil]
theorem rowL_succ (t : List UInt8) (fs : List (List UInt8)) (e m : Nat) : rowL t fs e (m + 1) = rowL t fs e m ++ rowI t fs e (20 - m) fs.length := by
  unfold rowL; rw [List.range_succ, List.flatMap_append]; simp
theorem manyTo_succ (t : List UInt8) (fs : List (List UInt8)) (n : Nat) : manyTo t fs (n + 1) = manyTo t fs n ++ rowL t fs (n + 1) 20 := by
  unfold manyTo; rw [List.range_succ, List.flatMap_append]; simp
/-- p is an occurrence -/
def IsHit (t : List UInt8) (fs : List (List UInt8)) (p : Nat × Nat) : Prop := p.2 < fs.length ∧ stands t (fs.getD p.2 []) p.1 = true
theorem mem_rowI {t : List UInt8} {fs : List (List UInt8)} {e long n : Nat} {p : Nat × Nat} : p ∈ rowI t fs e long n ↔ p.2 < n ∧ fl fs p.2 = long ∧ p.1 + long = e ∧ stands t (fs.getD p.2 []) p.1 = true := by
  unfold rowI
  simp only [List.mem_map, List.mem_filter, List.mem_range, Bool.and_eq_true, decide_eq_true_eq]
  constructor
  · rintro ⟨i, ⟨h1, ⟨h2, h3⟩, h4⟩, rfl⟩
    exact ⟨h1, h2, by show e - long + long = e; omega, h4⟩
  · rintro ⟨h1, h2, h3, h4⟩
    refine ⟨p.2, ⟨h1, ⟨h2, by omega⟩, ?_⟩, ?_⟩
    · rw [show e - long = p.1 by omega]; exact h4
    · rw [show e - long = p.1 by omega]
theorem mem_rowL {t : List UInt8} {fs : List (List UInt8)} {e m : Nat} {p : Nat × Nat} (hm : m ≤ 20) : p ∈ rowL t fs e m ↔ IsHit t fs p ∧ p.1 + fl fs p.2 = e ∧ fl fs p.2 ≤ 20 ∧ 20 - fl fs p.2 < m := by
  unfold rowL
  simp only [List.mem_flatMap, List.mem_range, mem_rowI]
  constructor
  · rintro ⟨d, hd, h1, h2, h3, h4⟩
    exact ⟨⟨h1, h4⟩, by omega, by omega, by omega⟩
  · rintro ⟨⟨h1, h4⟩, h2, h3, h5⟩
    exact ⟨20 - fl fs p.2, h5, h1, by omega, by omega, h4⟩
/-- the strings are neither empty nor too long -/
def FsOk (fs : List (List UInt8)) : Prop := ∀ i, i < fs.length → 0 < fl fs i ∧ fl fs i ≤ 20
theorem mem_manyTo {t : List UInt8} {fs : List (List UInt8)} (hf : FsOk fs) {n : Nat} {p : Nat × Nat} : p ∈ manyTo t fs n ↔ IsHit t fs p ∧ p.1 + fl fs p.2 ≤ n := by
  unfold manyTo
  simp only [List.mem_flatMap, List.mem_range, mem_rowL (Nat.le_refl 20)]
  constructor
  · rintro ⟨e, he, h1, h2, _, _⟩
    exact ⟨h1, by omega⟩
  · rintro ⟨h1, h2⟩
    obtain ⟨h3, h4⟩ := hf p.2 h1.1
    exact ⟨p.1 + fl fs p.2 - 1, by omega, h1, by omega, h4, by omega⟩
theorem mem_many {t : List UInt8} {fs : List (List UInt8)} (hf : FsOk fs) {p : Nat × Nat} : p ∈ many t fs ↔ IsHit t fs p := by
  unfold many
  rw [mem_manyTo hf]
  constructor
  · exact fun h => h.1
  · intro h
    exact ⟨h, (stands_iff.1 h.2).1⟩
/-- the order: by the end, then by falling length, then by the string -/
def Bef (fs : List (List UInt8)) (p q : Nat × Nat) : Prop := p.1 + fl fs p.2 < q.1 + fl fs q.2 ∨ (p.1 + fl fs p.2 = q.1 + fl fs q.2 ∧ (fl fs q.2 < fl fs p.2 ∨ (fl fs p.2 = fl fs q.2 ∧ p.2 < q.2)))
theorem rowI_inc (t : List UInt8) (fs : List (List UInt8)) (e long n : Nat) : (rowI t fs e long n).Pairwise (Bef fs) := by
  have hm : ∀ p ∈ rowI t fs e long n, p.1 + fl fs p.2 = e ∧ fl fs p.2 = long := fun p hp => by
    obtain ⟨_, h2, h3, _⟩ := mem_rowI.1 hp
    exact ⟨by omega, h2⟩
  have h2 : (rowI t fs e long n).Pairwise (fun p q => p.2 < q.2) := by
    unfold rowI
    rw [List.pairwise_map]
    exact List.pairwise_lt_range.filter _
  exact h2.imp_of_mem fun {p q} hp hq h => by
    obtain ⟨a1, a2⟩ := hm p hp
    obtain ⟨b1, b2⟩ := hm q hq
    exact .inr ⟨by omega, .inr ⟨by omega, h⟩⟩
theorem rowL_inc (t : List UInt8) (fs : List (List UInt8)) (e : Nat) : ∀ m, m ≤ 20 → (rowL t fs e m).Pairwise (Bef fs)
  | 0, _ => by simp [rowL]
  | m + 1, h => by
    rw [rowL_succ, List.pairwise_append]
    refine ⟨rowL_inc t fs e m (by omega), rowI_inc _ _ _ _ _, fun p hp q hq => ?_⟩
    obtain ⟨_, h1, h2, h3⟩ := (mem_rowL (by omega)).1 hp
    obtain ⟨_, h4, h5, _⟩ := mem_rowI.1 hq
    exact .inr ⟨by omega, .inl (by omega)⟩
theorem manyTo_inc (t : List UInt8) (fs : List (List UInt8)) : ∀ n, (manyTo t fs n).Pairwise (Bef fs)
  | 0 => by simp [manyTo]
  | n + 1 => by
    rw [manyTo_succ, List.pairwise_append]
    refine ⟨manyTo_inc t fs n, rowL_inc _ _ _ _ (Nat.le_refl _), fun p hp q hq => ?_⟩
    have h1 : p.1 + fl fs p.2 ≤ n := by
      unfold manyTo at hp
      simp only [List.mem_flatMap, List.mem_range, mem_rowL (Nat.le_refl 20)] at hp
      obtain ⟨e, he, _, h, _⟩ := hp
      omega
    obtain ⟨_, h2, _, _⟩ := (mem_rowL (Nat.le_refl 20)).1 hq
    exact .inl (by omega)
theorem many_inc (t : List UInt8) (fs : List (List UInt8)) : (many t fs).Pairwise (Bef fs) := manyTo_inc t fs _
/-- a rising list of the same occurrences is that one -/
theorem many_one {t : List UInt8} {fs : List (List UInt8)} (hf : FsOk fs) {l : List (Nat × Nat)} (hi : l.Pairwise (Bef fs)) (hm : ∀ p, p ∈ l ↔ IsHit t fs p) : l = many t fs := by
  have asym : ∀ p q, Bef fs p q → Bef fs q p → False := fun p q h1 h2 => by
    unfold Bef at h1 h2; omega
  have nd : ∀ {a : List (Nat × Nat)}, a.Pairwise (Bef fs) → a.Nodup := fun h => h.imp (fun {x y} hxy e => by subst e; exact asym _ _ hxy hxy)
  exact List.Perm.eq_of_pairwise (le := Bef fs) (fun p q _ _ h1 h2 => (asym p q h1 h2).elim) hi (many_inc t fs) ((List.perm_ext_iff_of_nodup (nd hi) (nd (many_inc t fs))).2 fun p => (hm p).trans (mem_many hf).symm)
/-- two unlike strings of one length do not end at one place -/
theorem hit_unique {t : List UInt8} {fs : List (List UInt8)} (hn : fs.Nodup) {p q : Nat × Nat} (hp : IsHit t fs p) (hq : IsHit t fs q) (h1 : p.1 + fl fs p.2 = q.1 + fl fs q.2) (h2 : fl fs p.2 = fl fs q.2) : p = q := by
  have ea : p.1 = q.1 := by omega
  have e1 := (stands_iff.1 hp.2).2
  have e2 := (stands_iff.1 hq.2).2
  have es : fs.getD p.2 [] = fs.getD q.2 [] := by
    rw [← e1, ← e2, ea]
    show ((t.drop q.1).take (fl fs p.2)) = ((t.drop q.1).take (fl fs q.2))
    rw [h2]
  have ei : p.2 = q.2 := by
    have hp1 := hp.1
    have hq1 := hq.1
    simp only [List.getD, List.getElem?_eq_getElem hp1, List.getElem?_eq_getElem hq1, Option.getD_some] at es
    exact (List.getElem_inj hn).1 es
  exact Prod.ext ea ei
/-- each string's occurrences, in their order -/
theorem many_each {t : List UInt8} {fs : List (List UInt8)} (hf : FsOk fs) {i : Nat} (hi : i < fs.length) : ((many t fs).filter (fun p => p.2 == i)).map (·.1) = hits t (fs.getD i []) := by
  have hne : fs.getD i [] ≠ [] := fun e => by
    have := (hf i hi).1
    unfold fl at this
    rw [e] at this
    simp at this
  refine inc_eq ?_ (hits_inc _ _) (fun x => ?_)
  · rw [List.pairwise_map]
    refine ((many_inc t fs).filter _).imp_of_mem fun {p q} hp hq h => ?_
    have h1 : p.2 = i := by simpa using (List.mem_filter.1 hp).2
    have h2 : q.2 = i := by simpa using (List.mem_filter.1 hq).2
    unfold Bef at h
    rw [h1, h2] at h
    omega
  · rw [mem_hits hne, List.mem_map]
    constructor
    · rintro ⟨p, hp, rfl⟩
      obtain ⟨h1, h2⟩ := List.mem_filter.1 hp
      have e : p.2 = i := by simpa using h2
      have := ((mem_many hf).1 h1).2
      rw [e] at this
      exact this
    · intro h
      exact ⟨(x, i), List.mem_filter.2 ⟨(mem_many hf).2 ⟨hi, h⟩, by simp⟩, rfl⟩
/-- each occurrence is one of one string -/
theorem many_sum (l : List (Nat × Nat)) (n : Nat) (h : ∀ p ∈ l, p.2 < n) : ((List.range n).map fun i => (l.filter (fun p => p.2 == i)).length).sum = l.length := by
  induction l with
  | nil =>
    clear h
    induction n with
    | zero => rfl
    | succ n ih => rw [List.range_succ, List.map_append, List.sum_append, ih]; simp
  | cons p l ih =>
    have h0 := h p (by simp)
    have ih' := ih (fun q hq => h q (by simp [hq]))
    have key : ∀ m, ((List.range m).map fun i => ((p :: l).filter (fun p => p.2 == i)).length).sum = ((List.range m).map fun i => (l.filter (fun p => p.2 == i)).length).sum + (if p.2 < m then 1 else 0) := by
      intro m
      induction m with
      | zero => simp
      | succ m im =>
        rw [List.range_succ, List.map_append, List.sum_append, List.map_append, List.sum_append, im]
        simp only [List.map_cons, List.map_nil, List.sum_cons, List.sum_nil, List.filter_cons]
        by_cases e : p.2 = m
        · subst e
          simp
          omega
        · have hb : (p.2 == m) = false := by simpa using e
          rw [hb]
          simp only [Bool.false_eq_true, if_false]
          by_cases hl : p.2 < m
          · rw [if_pos hl, if_pos (by omega)]; omega
          · rw [if_neg hl, if_neg (by omega)]; omega
    rw [key, ih', if_pos h0]; simp
end Go.Proofs.Ytkiebkjndmcddaa.FindM
