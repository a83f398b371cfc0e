/-
  The words of two texts with another byte between them; words as texts. No program is named.
-/
import Derived.Test.YtedlgobpoifnfaaWordMath
namespace Go.Proofs.Ytedlgobpoifnfaa.WordM

theorem letAt_left {u w : List UInt8} {i : Nat} (h : i < u.length) : letAt (u ++ w) i = letAt u i := by
  unfold letAt; rw [List.getElem?_append_left h]
theorem letAt_right {u w : List UInt8} (j : Nat) : letAt (u ++ w) (u.length + j) = letAt w j := by
  unfold letAt; rw [List.getElem?_append_right (by omega)]; congr 3; omega
theorem letAt_cons (c : UInt8) (v : List UInt8) (j : Nat) : letAt (c :: v) (j + 1) = letAt v j := by
  unfold letAt; rw [List.getElem?_cons_succ]
def shift (n : Int) (o : List (Int × List UInt8)) : List (Int × List UInt8) := o.map fun p => (p.1 + n, p.2)
theorem wat_left {u v : List UInt8} {c : UInt8} (hc : letB c = false) {i : Nat} (h : i < u.length) : wat (u ++ c :: v) i = wat u i := by
  have hr : runAt (u ++ c :: v) i = runAt u i := by
    unfold runAt
    rw [List.drop_append_of_le_length (by omega), List.takeWhile_append]
    split
    · rename_i ha
      rw [List.takeWhile_cons, hc]
      simp only [Bool.false_eq_true, if_false, List.append_nil]
      exact (List.IsPrefix.eq_of_length (List.takeWhile_prefix _) ha).symm
    · rfl
  unfold wat
  rw [hr]
  by_cases h0 : 0 < i
  · rw [letAt_left (w := c :: v) (show i - 1 < u.length by omega)]
  · simp [h0]
theorem wat_right {u v : List UInt8} {c : UInt8} (hc : letB c = false) (j : Nat) : wat (u ++ c :: v) (u.length + 1 + j) = wat v j := by
  have hr : runAt (u ++ c :: v) (u.length + 1 + j) = runAt v j := by
    unfold runAt
    rw [List.drop_append, List.drop_eq_nil_of_le (show u.length ≤ u.length + 1 + j by omega), List.nil_append, show u.length + 1 + j - u.length = j + 1 by omega, List.drop_succ_cons]
  unfold wat
  rw [hr]
  by_cases h0 : j = 0
  · subst h0
    have : letAt (u ++ c :: v) (u.length + 1 + 0 - 1) = false := by
      rw [show u.length + 1 + 0 - 1 = u.length + 0 by omega, letAt_right]
      simp [letAt, hc]
    rw [this]; simp
  · rw [show u.length + 1 + j - 1 = u.length + (j - 1 + 1) by omega, letAt_right, letAt_cons]
    have h1 : 0 < u.length + 1 + j := by omega
    have h2 : 0 < j := by omega
    simp only [h1, h2, true_and]
theorem occTo_left {u v : List UInt8} {c : UInt8} (hc : letB c = false) : ∀ n, n ≤ u.length → occTo (u ++ c :: v) n = occTo u n
  | 0, _ => rfl
  | n + 1, h => by
    show occTo (u ++ c :: v) n ++ one (u ++ c :: v) n = occTo u n ++ one u n
    rw [occTo_left hc n (by omega), one, one, wat_left hc (by omega)]
theorem occTo_right {u v : List UInt8} {c : UInt8} (hc : letB c = false) : ∀ m, occTo (u ++ c :: v) (u.length + 1 + m) = occ u ++ shift (u.length + 1) (occTo v m)
  | 0 => by
    show occTo (u ++ c :: v) u.length ++ one (u ++ c :: v) u.length = _
    rw [occTo_left hc _ (Nat.le_refl _), one_none (wat_none _ _ (by
      have := letAt_right (u := u) (w := c :: v) 0
      rw [Nat.add_zero] at this
      rw [this]; simp [letAt, hc]))]
    rfl
  | m + 1 => by
    show occTo (u ++ c :: v) (u.length + 1 + m) ++ one (u ++ c :: v) (u.length + 1 + m) = occ u ++ shift (u.length + 1) (occTo v m ++ one v m)
    rw [occTo_right hc m, List.append_assoc, one, one, wat_right hc m]
    congr 1
    rw [shift, shift, List.map_append]
    congr 1
    split
    · rfl
    · simp; omega
/-- the words of two texts with another byte between them -/
theorem occ_join (u v : List UInt8) (c : UInt8) (hc : letB c = false) : occ (u ++ c :: v) = occ u ++ shift (u.length + 1) (occ v) := by
  have h := occTo_right (u := u) (v := v) hc v.length
  show occTo (u ++ c :: v) (u ++ c :: v).length = occ u ++ shift (u.length + 1) (occTo v v.length)
  rw [← h]
  congr 1
  simp; omega
theorem pos_append (o1 o2 : List (Int × List UInt8)) (w : List UInt8) : pos (o1 ++ o2) w = pos o1 w ++ pos o2 w := by simp [pos]
theorem pos_shift (n : Int) (o : List (Int × List UInt8)) (w : List UInt8) : pos (shift n o) w = (pos o w).map (· + n) := by
  unfold pos shift
  rw [List.filter_map, List.map_map, List.map_map]
  rfl
theorem pos_join (u v : List UInt8) (c : UInt8) (hc : letB c = false) (w : List UInt8) : pos (occ (u ++ c :: v)) w = pos (occ u) w ++ (pos (occ v) w).map (· + ((u.length : Int) + 1)) := by
  rw [occ_join u v c hc, pos_append, pos_shift]

/-- a text of letters alone -/
theorem occ_letters {l : List UInt8} (h : ∀ c ∈ l, letB c = true) (h0 : l ≠ []) (h12 : l.length ≤ 12) : occ l = [(0, l)] := by
  have hp : 0 < l.length := List.length_pos_iff.2 h0
  have hw := occTo_word l 0 l.length (by omega) (Nat.le_refl _) (.inl rfl) (fun i _ hi => by rw [letAt_get l hi]; exact h _ (List.getElem_mem hi)) (letAt_end l (Nat.le_refl _))
  rw [occTo_last, if_pos ⟨by omega, by omega⟩] at hw
  rw [hw]
  simp [occTo]
theorem wat_letters (s : List UInt8) (i : Nat) : ∀ c ∈ wat s i, letB c = true := by
  intro c hc
  unfold wat at hc
  split at hc
  · simp at hc
  · split at hc
    · simp at hc
    · unfold runAt at hc
      have := List.all_takeWhile (p := letB) (l := s.drop i)
      rw [List.all_eq_true] at this
      exact this c hc
/-- a word stands where it is said to -/
theorem wat_at (s : List UInt8) (i : Nat) : (s.drop i).take (wat s i).length = wat s i := by
  unfold wat
  split
  · simp
  · split
    · simp
    · exact (List.prefix_iff_eq_take.1 (List.takeWhile_prefix letB)).symm
theorem wat_in (s : List UInt8) (i : Nat) (h : wat s i ≠ []) : i + (wat s i).length ≤ s.length := by
  have h1 := congrArg List.length (wat_at s i)
  rw [List.length_take, List.length_drop] at h1
  have : 0 < (wat s i).length := List.length_pos_iff.2 h
  omega
/-- the places rise -/
theorem occTo_inc (s : List UInt8) : ∀ n, (occTo s n).Pairwise (fun p q => p.1 < q.1) ∧ ∀ p ∈ occTo s n, p.1 < (n : Int)
  | 0 => ⟨List.Pairwise.nil, fun p hp => by simp [occTo] at hp⟩
  | n + 1 => by
    obtain ⟨h1, h2⟩ := occTo_inc s n
    have hone : ∀ p ∈ one s n, p.1 = (n : Int) := by
      intro p hp
      unfold one at hp
      split at hp
      · simp at hp
      · simp at hp; rw [hp]
    refine ⟨?_, fun p hp => ?_⟩
    · show (occTo s n ++ one s n).Pairwise _
      rw [List.pairwise_append]
      refine ⟨h1, ?_, fun p hp q hq => by rw [hone q hq]; exact h2 p hp⟩
      unfold one
      split <;> simp
    · rcases List.mem_append.1 hp with hp | hp
      · have := h2 p hp; omega
      · rw [hone p hp]; omega
theorem pos_inc (s w : List UInt8) : (pos (occ s) w).Pairwise (· < ·) := by
  unfold pos
  exact List.pairwise_map.2 ((occTo_inc s _).1.filter _)
end Go.Proofs.Ytedlgobpoifnfaa.WordM
