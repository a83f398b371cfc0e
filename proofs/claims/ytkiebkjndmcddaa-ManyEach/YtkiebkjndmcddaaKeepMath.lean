/-
  The places that are replaced, and the text that is put together of them: plain lists. No program is named.
-/
import Derived.Test.YtkiebkjndmcddaaRepMath
namespace Go.Proofs.Ytkiebkjndmcddaa.FindM

/-- the places, from e on, that are at least z behind the one kept before -/
def keep (z : Nat) : Nat → List Nat → List Nat
  | _, [] => []
  | e, a :: l => if e ≤ a then a :: keep z (a + z) l else keep z e l
/-- where the next one may begin, behind a list -/
def kend (z : Nat) : Nat → List Nat → Nat
  | e, [] => e
  | e, a :: l => if e ≤ a then kend z (a + z) l else kend z e l
theorem keep_snoc (z : Nat) : ∀ (l : List Nat) (e a : Nat), keep z e (l ++ [a]) = keep z e l ++ (if kend z e l ≤ a then [a] else []) ∧ kend z e (l ++ [a]) = if kend z e l ≤ a then a + z else kend z e l
  | [], e, a => by
    simp only [List.nil_append, keep, kend]
    exact ⟨rfl, rfl⟩
  | b :: l, e, a => by
    simp only [List.cons_append, keep, kend]
    by_cases h : e ≤ b
    · simp only [if_pos h]
      obtain ⟨h1, h2⟩ := keep_snoc z l (b + z) a
      exact ⟨by rw [h1]; rfl, h2⟩
    · simp only [if_neg h]
      exact keep_snoc z l e a
theorem keep_len (z : Nat) : ∀ (l : List Nat) (e : Nat), (keep z e l).length ≤ l.length
  | [], e => by simp [keep]
  | b :: l, e => by
    unfold keep
    split
    · have := keep_len z l (b + z); simp only [List.length_cons]; omega
    · have := keep_len z l e; simp only [List.length_cons]; omega
theorem kend_le (z : Nat) {m : Nat} : ∀ (l : List Nat) (e : Nat), e ≤ m → (∀ a ∈ l, a + z ≤ m) → kend z e l ≤ m
  | [], e, h, _ => h
  | b :: l, e, h, hl => by
    unfold kend
    split
    · exact kend_le z l _ (hl b (by simp)) (fun a ha => hl a (by simp [ha]))
    · exact kend_le z l _ h (fun a ha => hl a (by simp [ha]))
theorem keep_congr (z : Nat) : ∀ (l : List Nat) (e d : Nat), e ≤ d → (∀ x ∈ l, e ≤ x → d ≤ x) → keep z e l = keep z d l
  | [], _, _, _, _ => rfl
  | b :: l, e, d, h, hl => by
    unfold keep
    by_cases hb : e ≤ b
    · rw [if_pos hb, if_pos (hl b (by simp) hb)]
    · rw [if_neg hb, if_neg (by omega)]
      exact keep_congr z l e d h (fun x hx => hl x (by simp [hx]))
theorem keep_hit {z : Nat} (hz : 0 < z) : ∀ (l : List Nat) (r : Nat), l.Pairwise (· < ·) → r ∈ l → keep z r l = r :: keep z (r + z) l
  | [], _, _, h => by simp at h
  | b :: l, r, hp, h => by
    rw [List.pairwise_cons] at hp
    by_cases e : b = r
    · subst e
      simp only [keep]
      rw [if_pos (Nat.le_refl _), if_neg (by omega)]
    · have hm : r ∈ l := by
        rcases List.mem_cons.1 h with h | h
        · exact absurd h.symm e
        · exact h
      have := hp.1 r hm
      simp only [keep]
      rw [if_neg (by omega), if_neg (by omega), keep_hit hz l r hp.2 hm]
theorem keep_from (z : Nat) : ∀ (l : List Nat) (r : Nat), ∀ x ∈ (keep z r l).head?, r ≤ x
  | [], _, x, h => by simp [keep] at h
  | b :: l, r, x, h => by
    unfold keep at h
    split at h
    · simp at h; omega
    · exact keep_from z l r x h
theorem keep_mem (z : Nat) : ∀ (l : List Nat) (r : Nat), ∀ x ∈ keep z r l, x ∈ l
  | [], _, x, h => by simp [keep] at h
  | b :: l, r, x, h => by
    unfold keep at h
    split at h
    · rcases List.mem_cons.1 h with h | h
      · simp [h]
      · simp [keep_mem z l _ x h]
    · simp [keep_mem z l _ x h]
/-- the kept ones do not overlap -/
theorem keep_apart (z : Nat) : ∀ (l : List Nat) (r : Nat), (∀ x ∈ keep z r l, r ≤ x) ∧ (keep z r l).Pairwise (fun a b => a + z ≤ b)
  | [], r => by simp [keep]
  | b :: l, r => by
    unfold keep
    by_cases h : r ≤ b
    · rw [if_pos h]
      obtain ⟨h1, h2⟩ := keep_apart z l (b + z)
      refine ⟨fun x hx => ?_, List.pairwise_cons.2 ⟨h1, h2⟩⟩
      rcases List.mem_cons.1 hx with rfl | hx
      · exact h
      · have := h1 x hx; omega
    · rw [if_neg h]
      exact keep_apart z l r
/-- the text out of what is between them -/
def asm (t p : List UInt8) (z : Nat) : Nat → List Nat → List UInt8
  | r, [] => t.drop r
  | r, a :: k => ((t.take a).drop r) ++ (p ++ asm t p z (a + z) k)
theorem asm_step {t p : List UInt8} {z r : Nat} {k : List Nat} (hr : r < t.length) (h : ∀ x ∈ k.head?, r + 1 ≤ x) : asm t p z r k = t[r] :: asm t p z (r + 1) k := by
  cases k with
  | nil => exact List.drop_eq_getElem_cons hr
  | cons a k =>
    have ha := h a (by simp)
    have : (t.take a).drop r = t[r] :: (t.take a).drop (r + 1) := by
      rw [List.drop_eq_getElem_cons (by simp; omega), List.getElem_take]
    simp only [asm, this, List.cons_append]
theorem rep_keep {f p t : List UInt8} (hf : f ≠ []) : ∀ n r, r ≤ t.length → t.length - r ≤ n → rep f p (t.drop r) = (asm t p f.length r (keep f.length r (hits t f)), (keep f.length r (hits t f)).length) := by
  have hp : 0 < f.length := List.length_pos_iff.2 hf
  have hend : rep f p (t.drop t.length) = (asm t p f.length t.length (keep f.length t.length (hits t f)), (keep f.length t.length (hits t f)).length) := by
    have hk : keep f.length t.length (hits t f) = [] := by
      rw [List.eq_nil_iff_forall_not_mem]
      intro x hx
      have h1 := (keep_apart f.length (hits t f) t.length).1 x hx
      have h2 := (stands_iff.1 ((mem_hits hf).1 (keep_mem _ _ _ x hx))).1
      omega
    rw [hk, List.drop_eq_nil_of_le (Nat.le_refl _), rep_nil]
    simp [asm]
  intro n
  induction n with
  | zero =>
    intro r hr hn
    obtain rfl : r = t.length := by omega
    exact hend
  | succ n ih =>
    intro r hr hn
    by_cases he : r = t.length
    · subst he; exact hend
    have hlt : r < t.length := by omega
    have e0 : stands (t.drop r) f 0 = stands t f r := by
      have := stands_part (t := t) (f := f) (a := r) (b := t.length) (i := 0) (Nat.le_refl _) hr
      rw [List.take_length, Nat.add_zero] at this
      rw [Bool.eq_iff_iff, this]
      constructor
      · exact fun h => h.2
      · exact fun h => ⟨by have := (stands_iff.1 h).1; omega, h⟩
    cases hs : stands t f r
    · rw [hs] at e0
      have e1 : t.drop r = t[r] :: t.drop (r + 1) := List.drop_eq_getElem_cons hlt
      rw [e1] at e0 ⊢
      have hk : keep f.length r (hits t f) = keep f.length (r + 1) (hits t f) := keep_congr _ _ _ _ (by omega) (fun x hx hrx => by
        have : x ≠ r := fun e => by
          have := (mem_hits hf).1 hx
          rw [e, hs] at this
          cases this
        omega)
      rw [rep_miss e0, ih (r + 1) hlt (by omega), hk, asm_step hlt (keep_from _ _ _)]
    · rw [hs] at e0
      have hle := (stands_iff.1 hs).1
      rw [rep_hit hf e0, List.drop_drop, ih (r + f.length) hle (by omega), keep_hit hp _ r (hits_inc t f) ((mem_hits hf).2 hs)]
      simp only [asm, List.length_cons]
      rw [List.drop_eq_nil_of_le (by rw [List.length_take]; omega), List.nil_append]
theorem rep_asm {f p t : List UInt8} (hf : f ≠ []) : rep f p t = (asm t p f.length 0 (keep f.length 0 (hits t f)), (keep f.length 0 (hits t f)).length) := rep_keep hf t.length 0 (Nat.zero_le _) (by omega)
/-- what is put together, piece by piece -/
def asmTo (t p : List UInt8) (z : Nat) : Nat → List Nat → List UInt8
  | _, [] => []
  | r, a :: k => ((t.take a).drop r) ++ (p ++ asmTo t p z (a + z) k)
def restTo (z : Nat) : Nat → List Nat → Nat
  | r, [] => r
  | _, a :: k => restTo z (a + z) k
theorem asmTo_snoc (t p : List UInt8) (z : Nat) : ∀ (k : List Nat) (r a : Nat), asmTo t p z r (k ++ [a]) = asmTo t p z r k ++ ((t.take a).drop (restTo z r k) ++ p) ∧ restTo z r (k ++ [a]) = a + z
  | [], r, a => by simp [asmTo, restTo]
  | b :: k, r, a => by
    obtain ⟨h1, h2⟩ := asmTo_snoc t p z k (b + z) a
    simp only [List.cons_append, asmTo, restTo]
    exact ⟨by rw [h1]; simp only [List.append_assoc], h2⟩
theorem asm_done (t p : List UInt8) (z : Nat) : ∀ (k : List Nat) (r : Nat), asm t p z r k = asmTo t p z r k ++ t.drop (restTo z r k)
  | [], r => by simp [asm, asmTo, restTo]
  | b :: k, r => by
    simp only [asm, asmTo, restTo]
    rw [asm_done t p z k (b + z)]
    simp only [List.append_assoc]
theorem hitsTo_end {t f : List UInt8} (hf : f ≠ []) : hits t f = hitsTo t f (t.length + 1 - f.length) := by
  have hp : 0 < f.length := List.length_pos_iff.2 hf
  refine inc_eq (hits_inc t f) (List.pairwise_lt_range.filter _) (fun x => ?_)
  rw [mem_hits hf]
  unfold hitsTo
  rw [List.mem_filter, List.mem_range]
  constructor
  · intro h
    have := (stands_iff.1 h).1
    exact ⟨by omega, h⟩
  · exact fun h => h.2
end Go.Proofs.Ytkiebkjndmcddaa.FindM
