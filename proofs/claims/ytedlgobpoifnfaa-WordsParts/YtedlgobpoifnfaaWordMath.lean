/-
  The words of a text: plain lists. No program is named.
-/
import Derived.Test.YtedlgobpoifnfaaKit
namespace Go.Proofs.Ytedlgobpoifnfaa.WordM

def letB (c : UInt8) : Bool := (97 ≤ c.toNat && c.toNat ≤ 122) || (65 ≤ c.toNat && c.toNat ≤ 90) || (48 ≤ c.toNat && c.toNat ≤ 57)
/-- is there a letter at a place? -/
def letAt (s : List UInt8) (i : Nat) : Bool := (s[i]?.map letB).getD false
theorem letAt_end (s : List UInt8) {i : Nat} (h : s.length ≤ i) : letAt s i = false := by simp [letAt, List.getElem?_eq_none h]
theorem letAt_get (s : List UInt8) {i : Nat} (h : i < s.length) : letAt s i = letB s[i] := by simp [letAt, h]
/-- the letters from a place on -/
def runAt (s : List UInt8) (i : Nat) : List UInt8 := (s.drop i).takeWhile letB
/-- the indexed word that begins at a place; empty: none does -/
def wat (s : List UInt8) (i : Nat) : List UInt8 := if 0 < i ∧ letAt s (i - 1) = true then [] else if 12 < (runAt s i).length then [] else runAt s i
def one (s : List UInt8) (i : Nat) : List (Int × List UInt8) := if wat s i = [] then [] else [((i : Int), wat s i)]
/-- the words that begin ahead of a place -/
def occTo (s : List UInt8) : Nat → List (Int × List UInt8)
  | 0 => []
  | n + 1 => occTo s n ++ one s n
def occ (s : List UInt8) : List (Int × List UInt8) := occTo s s.length

theorem takeWhile_len (p : UInt8 → Bool) : ∀ (l : List UInt8) (n : Nat), n ≤ l.length → (∀ i (_ : i < n) (h2 : i < l.length), p l[i] = true) → (∀ h : n < l.length, p l[n] = false) → l.takeWhile p = l.take n
  | [], n, _, _, _ => by simp
  | c :: l, 0, _, _, h => by
    have := h (by simp)
    simp at this
    simp [this]
  | c :: l, n + 1, hn, h1, h2 => by
    have h0 := h1 0 (by omega) (by simp)
    simp at h0
    simp only [List.takeWhile_cons, h0, if_true, List.take_succ_cons]
    rw [takeWhile_len p l n (by simpa using hn) (fun i h h' => (congrArg p (List.getElem_cons_succ c l i (by simpa using h')).symm).trans (h1 (i + 1) (by omega) (by simpa using h'))) (fun h => (congrArg p (List.getElem_cons_succ c l n (by simpa using h)).symm).trans (h2 (by simpa using h)))]
/-- the run between two places -/
theorem runAt_is (s : List UInt8) (a b : Nat) (hab : a ≤ b) (hb : b ≤ s.length) (h1 : ∀ i, a ≤ i → i < b → letAt s i = true) (h2 : letAt s b = false) : runAt s a = (s.drop a).take (b - a) := by
  refine takeWhile_len letB _ _ (by simp; omega) (fun i h h' => ?_) (fun h => ?_)
  · have := h1 (a + i) (by omega) (by omega)
    simp only [List.length_drop] at h'
    rw [letAt_get s (by omega)] at this
    simpa using this
  · simp only [List.length_drop] at h
    rw [letAt_get s (by omega)] at h2
    simp only [List.getElem_drop]
    have e : a + (b - a) = b := by omega
    simpa [e] using h2
theorem wat_inner (s : List UInt8) (i : Nat) (h0 : 0 < i) (h : letAt s (i - 1) = true) : wat s i = [] := by simp [wat, h0, h]
theorem wat_start (s : List UInt8) (i : Nat) (h : i = 0 ∨ letAt s (i - 1) = false) : wat s i = if 12 < (runAt s i).length then [] else runAt s i := by
  unfold wat
  rw [if_neg]
  rintro ⟨h1, h2⟩
  rcases h with h | h
  · omega
  · rw [h] at h2; cases h2
theorem runAt_none (s : List UInt8) (i : Nat) (h : letAt s i = false) : runAt s i = [] := by
  by_cases hi : i ≤ s.length
  · rw [runAt_is s i i (Nat.le_refl _) hi (fun j h1 h2 => by omega) h]; simp
  · simp [runAt, List.drop_eq_nil_of_le (show s.length ≤ i by omega)]
theorem wat_none (s : List UInt8) (i : Nat) (h : letAt s i = false) : wat s i = [] := by
  unfold wat
  rw [runAt_none s i h]; simp
theorem one_none {s : List UInt8} {i : Nat} (h : wat s i = []) : one s i = [] := by simp [one, h]
theorem one_some {s : List UInt8} {i : Nat} (h : wat s i ≠ []) : one s i = [((i : Int), wat s i)] := by simp [one, h]
/-- nothing begins within a word -/
theorem occTo_inner (s : List UInt8) (a : Nat) : ∀ n, (∀ i, a ≤ i → i < a + n → letAt s i = true) → occTo s (a + 1 + n) = occTo s (a + 1)
  | 0, _ => rfl
  | n + 1, h => by
    show occTo s (a + 1 + n) ++ one s (a + 1 + n) = _
    rw [occTo_inner s a n (fun i h1 h2 => h i h1 (by omega)), one_none (wat_inner s _ (by omega) (h _ (by omega) (by omega))), List.append_nil]
/-- the word between two places -/
theorem occTo_word (s : List UInt8) (a b : Nat) (hab : a ≤ b) (hb : b ≤ s.length) (h0 : a = 0 ∨ letAt s (a - 1) = false) (h1 : ∀ i, a ≤ i → i < b → letAt s i = true) (h2 : letAt s b = false) :
    occTo s (b + 1) = occTo s a ++ (if a < b ∧ b - a ≤ 12 then [((a : Int), (s.drop a).take (b - a))] else []) := by
  have hr := runAt_is s a b hab hb h1 h2
  have hl : (runAt s a).length = b - a := by rw [hr]; simp; omega
  have hw := wat_start s a h0
  rw [hl] at hw
  have e : occTo s (b + 1) = occTo s (a + 1) := by
    have := occTo_inner s a (b - a) (fun i h3 h4 => h1 i h3 (by omega))
    rwa [show a + 1 + (b - a) = b + 1 by omega] at this
  rw [e]
  show occTo s a ++ one s a = _
  congr 1
  by_cases hc : a < b ∧ b - a ≤ 12
  · rw [if_pos hc]
    rw [if_neg (by omega)] at hw
    have hne : wat s a ≠ [] := by
      intro h
      rw [hw] at h
      rw [h] at hl
      simp at hl; omega
    rw [one_some hne, hw, hr]
  · rw [if_neg hc]
    refine one_none ?_
    rw [hw]
    by_cases h : 12 < b - a
    · rw [if_pos h]
    · rw [if_neg h]
      exact List.eq_nil_of_length_eq_zero (by omega)
theorem occTo_last (s : List UInt8) : occTo s (s.length + 1) = occ s := by
  show occTo s s.length ++ one s s.length = occTo s s.length
  rw [one_none (wat_none s _ (letAt_end s (Nat.le_refl _))), List.append_nil]

theorem wat_len (s : List UInt8) (i : Nat) : (wat s i).length ≤ 12 := by
  unfold wat
  split
  · simp
  · split
    · simp
    · omega
theorem mem_occTo (s : List UInt8) : ∀ n (p : Int × List UInt8), p ∈ occTo s n ↔ ∃ i, i < n ∧ p = ((i : Int), wat s i) ∧ wat s i ≠ []
  | 0, p => by simp [occTo]
  | n + 1, p => by
    show p ∈ occTo s n ++ one s n ↔ _
    rw [List.mem_append, mem_occTo s n p]
    constructor
    · rintro (⟨i, h1, h2, h3⟩ | h)
      · exact ⟨i, by omega, h2, h3⟩
      · unfold one at h
        split at h
        · simp at h
        · rename_i hn
          simp at h
          exact ⟨n, by omega, h, hn⟩
    · rintro ⟨i, h1, h2, h3⟩
      by_cases hi : i < n
      · exact .inl ⟨i, hi, h2, h3⟩
      · obtain rfl : i = n := by omega
        right
        rw [one_some h3, h2]; simp
theorem mem_occ (s : List UInt8) (p : Int × List UInt8) : p ∈ occ s ↔ ∃ i, i < s.length ∧ p = ((i : Int), wat s i) ∧ wat s i ≠ [] := mem_occTo s _ p
theorem occTo_len (s : List UInt8) : ∀ n, (occTo s n).length ≤ n
  | 0 => by simp [occTo]
  | n + 1 => by
    show (occTo s n ++ one s n).length ≤ n + 1
    have := occTo_len s n
    rw [List.length_append]
    have : (one s n).length ≤ 1 := by unfold one; split <;> simp
    omega
theorem occ_len (s : List UInt8) : (occ s).length ≤ s.length := occTo_len s _

/-- the places of a word -/
def pos (o : List (Int × List UInt8)) (w : List UInt8) : List Int := (o.filter (fun p => p.2 == w)).map (·.1)
theorem pos_snoc (o : List (Int × List UInt8)) (a : Int) (v w : List UInt8) : pos (o ++ [(a, v)]) w = pos o w ++ (if v = w then [a] else []) := by
  unfold pos
  by_cases h : v = w
  · subst h; simp
  · simp [h]
theorem pos_len (o : List (Int × List UInt8)) (w : List UInt8) : (pos o w).length ≤ o.length := by
  unfold pos; rw [List.length_map]; exact List.length_filter_le _ _
theorem mem_pos (o : List (Int × List UInt8)) (w : List UInt8) (a : Int) : a ∈ pos o w ↔ (a, w) ∈ o := by
  unfold pos
  simp only [List.mem_map, List.mem_filter, beq_iff_eq]
  constructor
  · rintro ⟨⟨x, y⟩, ⟨h1, rfl⟩, rfl⟩; exact h1
  · intro h; exact ⟨(a, w), ⟨h, rfl⟩, rfl⟩
theorem pos_nil_iff (o : List (Int × List UInt8)) (w : List UInt8) : pos o w = [] ↔ w ∉ o.map (·.2) := by
  constructor
  · intro h hm
    obtain ⟨p, hp, rfl⟩ := List.mem_map.1 hm
    have := (mem_pos o p.2 p.1).2 hp
    rw [h] at this; cases this
  · intro h
    refine List.eq_nil_iff_forall_not_mem.2 fun a ha => h ?_
    exact List.mem_map.2 ⟨(a, w), (mem_pos o w a).1 ha, rfl⟩

/-- the index -/
structure Idx (o : List (Int × List UInt8)) (l : List (List UInt8 × List Int)) : Prop where
  inc : (l.map (·.1)).Pairwise (· < ·)
  mem : ∀ w, w ∈ l.map (·.1) ↔ w ∈ o.map (·.2)
  at_ : ∀ p ∈ l, p.2 = pos o p.1
theorem inc_ext {a b : List (List UInt8)} (ha : a.Pairwise (· < ·)) (hb : b.Pairwise (· < ·)) (h : ∀ x, x ∈ a ↔ x ∈ b) : a = b := by
  have nd : ∀ {a : List (List UInt8)}, a.Pairwise (· < ·) → a.Nodup := fun h => h.imp (fun {x y} hxy e => by subst e; exact List.lt_irrefl _ hxy)
  refine List.Perm.eq_of_pairwise (le := (· < ·)) (fun x y _ _ h1 h2 => absurd h2 (List.lt_asymm h1)) ha hb ((List.perm_ext_iff_of_nodup (nd ha) (nd hb)).2 h)
theorem list_of_keys {f : List UInt8 → List Int} : ∀ l : List (List UInt8 × List Int), (∀ p ∈ l, p.2 = f p.1) → l = (l.map (·.1)).map (fun w => (w, f w))
  | [], _ => rfl
  | p :: l, h => by
    have h0 := h p (by simp)
    have := list_of_keys l (fun q hq => h q (by simp [hq]))
    simp only [List.map_cons]
    rw [← this, ← h0]
/-- there is one index alone -/
theorem Idx.unique {o : List (Int × List UInt8)} {l m : List (List UInt8 × List Int)} (h : Idx o l) (h' : Idx o m) : l = m := by
  have e := inc_ext h.inc h'.inc (fun x => (h.mem x).trans (h'.mem x).symm)
  rw [list_of_keys l h.at_, list_of_keys m h'.at_, e]
theorem Idx.nodup {o : List (Int × List UInt8)} {l : List (List UInt8 × List Int)} (h : Idx o l) : (l.map (·.1)).Nodup := h.inc.imp (fun {x y} hxy e => by subst e; exact List.lt_irrefl _ hxy)
theorem nodup_le : ∀ {b : List (List UInt8)} {a : List (List UInt8)}, a.Nodup → (∀ x ∈ a, x ∈ b) → a.length ≤ b.length := by
  intro b a ha h
  exact ha.length_le_of_subset h
theorem Idx.len {o : List (Int × List UInt8)} {l : List (List UInt8 × List Int)} (h : Idx o l) : l.length ≤ o.length := by
  have := nodup_le h.nodup (fun x hx => (h.mem x).1 hx)
  simpa using this
end Go.Proofs.Ytedlgobpoifnfaa.WordM
