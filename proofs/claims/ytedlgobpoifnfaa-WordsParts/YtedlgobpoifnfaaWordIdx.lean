/-
  The index of a text, as a list.
-/
import Derived.Test.YtedlgobpoifnfaaWordMath
import Derived.Sort.KeysCollected
namespace Go.Proofs.Ytedlgobpoifnfaa.WordM

theorem inc_sort {ss : List (List UInt8)} (hnd : ss.Nodup) : (ss.mergeSort leB).Pairwise (· < ·) := by
  have hle : (ss.mergeSort leB).Pairwise (fun a b => leB a b = true) := List.pairwise_mergeSort
    (fun a b c h1 h2 => by simp only [leB, decide_eq_true_eq] at *; exact List.le_trans h1 h2)
    (fun a b => by simp only [leB, Bool.or_eq_true, decide_eq_true_eq]; exact List.le_total a b) ss
  have hnd2 : (ss.mergeSort leB).Pairwise (fun a b => a ≠ b) := (List.mergeSort_perm ss leB).symm.nodup hnd
  refine List.Pairwise.imp₂ (fun a b h1 h2 => ?_) hle hnd2
  simp only [leB, decide_eq_true_eq] at h1
  rcases Classical.em (a < b) with h | h
  · exact h
  · exact absurd (List.le_antisymm h1 (List.not_lt.1 h)) h2
/-- each once -/
def once : List (List UInt8) → List (List UInt8)
  | [] => []
  | x :: l => if x ∈ once l then once l else x :: once l
theorem mem_once : ∀ (l : List (List UInt8)) (x : List UInt8), x ∈ once l ↔ x ∈ l
  | [], x => by simp [once]
  | y :: l, x => by
    unfold once
    split
    · rename_i h
      rw [mem_once l x, List.mem_cons]
      constructor
      · exact .inr
      · rintro (rfl | h')
        · exact (mem_once l _).1 h
        · exact h'
    · rw [List.mem_cons, List.mem_cons, mem_once l x]
theorem nodup_once : ∀ l : List (List UInt8), (once l).Nodup
  | [] => by simp [once]
  | y :: l => by
    unfold once
    split
    · exact nodup_once l
    · rename_i h
      exact List.nodup_cons.2 ⟨h, nodup_once l⟩
/-- the words, without their places -/
def wordsL (o : List (Int × List UInt8)) : List (List UInt8) := (once (o.map (·.2))).mergeSort leB
def idxL (o : List (Int × List UInt8)) : List (List UInt8 × List Int) := (wordsL o).map fun x => (x, pos o x)
theorem wordsL_inc (o : List (Int × List UInt8)) : (wordsL o).Pairwise (· < ·) := inc_sort (nodup_once _)
theorem mem_wordsL (o : List (Int × List UInt8)) (x : List UInt8) : x ∈ wordsL o ↔ x ∈ o.map (·.2) := by
  rw [wordsL, (List.mergeSort_perm _ leB).mem_iff, mem_once]
theorem idxL_fst (o : List (Int × List UInt8)) : (idxL o).map (·.1) = wordsL o := by
  rw [idxL, List.map_map]
  simp [Function.comp_def]
theorem idxL_is (o : List (Int × List UInt8)) : Idx o (idxL o) := by
  refine ⟨by rw [idxL_fst]; exact wordsL_inc o, fun x => by rw [idxL_fst]; exact mem_wordsL o x, fun p hp => ?_⟩
  obtain ⟨x, _, rfl⟩ := List.mem_map.1 hp
  rfl
theorem Idx.eq {o : List (Int × List UInt8)} {l : List (List UInt8 × List Int)} (h : Idx o l) : l = idxL o := h.unique (idxL_is o)
/-- the index of a text -/
def ix (s : List UInt8) : List (List UInt8 × List Int) := idxL (occ s)
theorem ix_len (s : List UInt8) : (ix s).length ≤ s.length := Nat.le_trans (idxL_is (occ s)).len (occ_len s)
theorem ix_places (s : List UInt8) : ∀ p ∈ ix s, p.2.length ≤ s.length := by
  intro p hp
  rw [(idxL_is (occ s)).at_ p hp]
  exact Nat.le_trans (pos_len _ _) (occ_len s)
theorem ix_word (s : List UInt8) : ∀ p ∈ ix s, p.1.length ≤ 12 ∧ p.1 ≠ [] := by
  intro p hp
  have := ((idxL_is (occ s)).mem p.1).1 (List.mem_map.2 ⟨p, hp, rfl⟩)
  obtain ⟨q, hq, e⟩ := List.mem_map.1 this
  obtain ⟨i, _, rfl, hne⟩ := (mem_occ s q).1 hq
  rw [← e]
  exact ⟨wat_len s i, hne⟩
end Go.Proofs.Ytedlgobpoifnfaa.WordM
