/-
  Occurrences of a string that are replaced from left to right: plain lists. No program is named.
-/
import Derived.Test.YtkiebkjndmcddaaFindMath
namespace Go.Proofs.Ytkiebkjndmcddaa.FindM

/-- f is replaced by p: the text, and how often -/
def rep (f p : List UInt8) (t : List UInt8) : List UInt8 × Nat :=
  match t with
  | [] => ([], 0)
  | c :: r => if h : f ≠ [] ∧ stands (c :: r) f 0 = true then (p ++ (rep f p ((c :: r).drop f.length)).1, (rep f p ((c :: r).drop f.length)).2 + 1) else (c :: (rep f p r).1, (rep f p r).2)
termination_by t.length
decreasing_by
  · have : 0 < f.length := List.length_pos_iff.2 h.1
    simp only [List.length_drop, List.length_cons]; omega
  · simp
theorem rep_nil (f p : List UInt8) : rep f p [] = ([], 0) := by rw [rep]
theorem rep_hit {f p t : List UInt8} (hf : f ≠ []) (h : stands t f 0 = true) : rep f p t = (p ++ (rep f p (t.drop f.length)).1, (rep f p (t.drop f.length)).2 + 1) := by
  cases t with
  | nil =>
    have h1 := (stands_iff.1 h).1
    have h2 : 0 < f.length := List.length_pos_iff.2 hf
    simp only [List.length_nil] at h1
    omega
  | cons c r => rw [rep, dif_pos ⟨hf, h⟩]
theorem rep_miss {f p : List UInt8} {c : UInt8} {r : List UInt8} (h : stands (c :: r) f 0 = false) : rep f p (c :: r) = (c :: (rep f p r).1, (rep f p r).2) := by
  rw [rep, dif_neg]
  rintro ⟨_, h2⟩
  rw [h] at h2; cases h2
theorem stands_zero {t f : List UInt8} : stands t f 0 = true ↔ t = f ++ t.drop f.length := by
  rw [stands_iff]
  constructor
  · rintro ⟨_, h⟩
    rw [List.drop_zero] at h
    conv => lhs; rw [← List.take_append_drop f.length t, h]
  · intro h
    have hl : f.length ≤ t.length := by
      have := congrArg List.length h
      simp at this; omega
    refine ⟨by omega, ?_⟩
    rw [List.drop_zero, h]; simp
theorem stands_tail {c : UInt8} {r f : List UInt8} {i : Nat} : stands (c :: r) f (i + 1) = stands r f i := by
  unfold stands
  rw [List.drop_succ_cons, List.length_cons]
  congr 1
  simp only [eq_iff_iff]
  constructor <;> rintro ⟨h1, h2⟩ <;> exact ⟨by omega, h2⟩
/-- how a proof about rep goes -/
theorem rep_ind (f : List UInt8) (hf : f ≠ []) {P : List UInt8 → Prop} (h0 : P []) (hit : ∀ t, stands t f 0 = true → P (t.drop f.length) → P t) (miss : ∀ c r, stands (c :: r) f 0 = false → P r → P (c :: r)) : ∀ t, P t := by
  have : ∀ n t, t.length ≤ n → P t := by
    intro n
    induction n with
    | zero =>
      intro t ht
      obtain rfl := List.eq_nil_of_length_eq_zero (show t.length = 0 by omega)
      exact h0
    | succ n ih =>
      intro t ht
      cases t with
      | nil => exact h0
      | cons c r =>
        have hp : 0 < f.length := List.length_pos_iff.2 hf
        cases h : stands (c :: r) f 0
        · exact miss c r h (ih r (by simpa using ht))
        · exact hit _ h (ih _ (by simp only [List.length_drop, List.length_cons] at ht ⊢; omega))
  exact fun t => this t.length t (Nat.le_refl _)
/-- by itself -/
theorem rep_self {f : List UInt8} (hf : f ≠ []) : ∀ t, (rep f f t).1 = t := by
  refine rep_ind f hf (by rw [rep_nil]) (fun t h ih => ?_) (fun c r h ih => ?_)
  · rw [rep_hit hf h]
    show f ++ (rep f f (t.drop f.length)).1 = t
    rw [ih]; exact (stands_zero.1 h).symm
  · rw [rep_miss h]
    show c :: (rep f f r).1 = c :: r
    rw [ih]
/-- how often does not hang on what is put -/
theorem rep_count {f : List UInt8} (hf : f ≠ []) (p q : List UInt8) : ∀ t, (rep f p t).2 = (rep f q t).2 := by
  refine rep_ind f hf (by rw [rep_nil, rep_nil]) (fun t h ih => ?_) (fun c r h ih => ?_)
  · rw [rep_hit hf h, rep_hit hf h]
    show _ + 1 = _ + 1
    rw [ih]
  · rw [rep_miss h, rep_miss h]; exact ih
theorem rep_len {f p : List UInt8} (hf : f ≠ []) : ∀ t, (rep f p t).1.length + (rep f p t).2 * f.length = t.length + (rep f p t).2 * p.length := by
  refine rep_ind f hf (by rw [rep_nil]; simp) (fun t h ih => ?_) (fun c r h ih => ?_)
  · have hl := (stands_iff.1 h).1
    rw [rep_hit hf h]
    simp only [List.length_append, List.length_drop, Nat.succ_mul] at ih ⊢
    omega
  · rw [rep_miss h]
    simp only [List.length_cons]
    omega
/-- by a sign that is nowhere: the sign stands there so often -/
theorem rep_signs {f : List UInt8} {h : UInt8} (hf : f ≠ []) : ∀ t, h ∉ t → (rep f [h] t).1.count h = (rep f [h] t).2 := by
  refine rep_ind f hf (fun _ => by rw [rep_nil]; rfl) (fun t hs ih hn => ?_) (fun c r hs ih hn => ?_)
  · rw [rep_hit hf hs]
    simp only [List.singleton_append, List.count_cons_self]
    rw [ih (fun hm => hn (List.mem_of_mem_drop hm))]
  · rw [rep_miss hs]
    have h1 : c ≠ h := fun e => hn (by simp [e])
    simp only [List.count_cons_of_ne h1]
    exact ih (fun hm => hn (by simp [hm]))
/-- and back -/
theorem rep_back {f : List UInt8} {h : UInt8} (hf : f ≠ []) : ∀ t, h ∉ t → rep [h] f (rep f [h] t).1 = (t, (rep f [h] t).2) := by
  refine rep_ind f hf (fun _ => by rw [rep_nil, rep_nil]) (fun t hs ih hn => ?_) (fun c r hs ih hn => ?_)
  · rw [rep_hit hf hs]
    simp only [List.singleton_append]
    rw [rep_hit (by simp) (stands_zero.2 (by simp))]
    simp only [List.length_singleton, List.drop_succ_cons, List.drop_zero]
    rw [ih (fun hm => hn (List.mem_of_mem_drop hm))]
    simp only [Prod.mk.injEq, and_true]
    exact (stands_zero.1 hs).symm
  · rw [rep_miss hs]
    have h1 : c ≠ h := fun e => hn (by simp [e])
    have h2 : stands (c :: (rep f [h] r).1) [h] 0 = false := by
      cases hq : stands (c :: (rep f [h] r).1) [h] 0
      · rfl
      · have := stands_zero.1 hq
        simp at this
        exact absurd this h1
    rw [rep_miss h2, ih (fun hm => hn (by simp [hm]))]
/-- what stands at the beginning of the result, without the sign, stood at the beginning of the text -/
theorem rep_prefix {f : List UInt8} {h : UInt8} (hf : f ≠ []) : ∀ t g, h ∉ g → stands (rep f [h] t).1 g 0 = true → stands t g 0 = true := by
  refine rep_ind f hf (fun g _ hg => by rw [rep_nil] at hg; exact hg) (fun t hs ih g hn hg => ?_) (fun c r hs ih g hn hg => ?_)
  · rw [rep_hit hf hs] at hg
    cases g with
    | nil => simp [stands]
    | cons x g =>
      have := stands_zero.1 hg
      simp only [List.cons_append, List.cons.injEq] at this
      exact absurd (this.1 ▸ (List.mem_cons_self : x ∈ x :: g)) hn
  · rw [rep_miss hs] at hg
    cases g with
    | nil => simp [stands]
    | cons x g =>
      have h1 := stands_get.1 hg
      have h0 := h1.2 0 (by simp)
      simp at h0
      subst h0
      have h2 : stands (rep f [h] r).1 g 0 = true := by
        rw [stands_get]
        refine ⟨by have := h1.1; simp at this ⊢; omega, fun j hj => ?_⟩
        have := h1.2 (j + 1) (by simpa using hj)
        simpa using this
      have h3 := stands_get.1 (ih g (fun hm => hn (by simp [hm])) h2)
      rw [stands_get]
      refine ⟨by have := h3.1; simp at this ⊢; omega, fun j hj => ?_⟩
      cases j with
      | zero => simp
      | succ j =>
        have := h3.2 j (by simpa using hj)
        simpa using this
/-- none is left -/
theorem rep_none {f : List UInt8} {h : UInt8} (hf : f ≠ []) (hn : h ∉ f) : ∀ t i, stands (rep f [h] t).1 f i = false := by
  refine rep_ind f hf (fun i => ?_) (fun t hs ih i => ?_) (fun c r hs ih i => ?_)
  · rw [rep_nil]
    cases hq : stands [] f i
    · rfl
    · have h1 := (stands_iff.1 hq).1
      have h2 : 0 < f.length := List.length_pos_iff.2 hf
      simp only [List.length_nil] at h1
      omega
  · rw [rep_hit hf hs]
    cases i with
    | zero =>
      cases hq : stands ([h] ++ (rep f [h] (t.drop f.length)).1) f 0
      · rfl
      · have := stands_zero.1 hq
        cases f with
        | nil => exact absurd rfl hf
        | cons x f =>
          simp only [List.cons_append, List.cons.injEq] at this
          exact absurd (this.1 ▸ (List.mem_cons_self : x ∈ x :: f)) hn
    | succ i => exact (stands_tail (c := h)).trans (ih i)
  · cases i with
    | zero =>
      cases hq : stands (rep f [h] (c :: r)).1 f 0
      · rfl
      · rw [rep_prefix hf _ _ hn hq] at hs; cases hs
    | succ i => rw [rep_miss hs]; exact stands_tail.trans (ih i)
/-- fewer than they stand -/
theorem hits_drop {t f : List UInt8} (hf : f ≠ []) (a : Nat) : (hits (t.drop a) f).length ≤ (hits t f).length := by
  by_cases ha : a ≤ t.length
  · have := congrArg List.length (hits_part (t := t) hf (a := a) (b := t.length) (Nat.le_refl _) ha)
    rw [List.length_map, List.take_length] at this
    rw [this]
    exact List.length_filter_le _ _
  · rw [List.drop_eq_nil_of_le (by omega)]
    simp [hits, hitsTo]
theorem hits_cons {c : UInt8} {r f : List UInt8} (hf : f ≠ []) : (hits (c :: r) f).length = (if stands (c :: r) f 0 = true then 1 else 0) + (hits r f).length := by
  have h := hits_cut (t := c :: r) hf (c := 1) (by simp)
  have e : hits (c :: r) f = (if stands (c :: r) f 0 = true then [0] else []) ++ (hits r f).map (· + 1) := by
    refine inc_eq (hits_inc _ _) ?_ (fun x => ?_)
    · rw [List.pairwise_append]
      refine ⟨by split <;> simp, by rw [List.pairwise_map]; exact (hits_inc r f).imp (fun h => by omega), fun a ha b hb => ?_⟩
      obtain ⟨y, _, rfl⟩ := List.mem_map.1 hb
      split at ha <;> simp at ha
      omega
    · rw [mem_hits hf, List.mem_append, List.mem_map]
      cases x with
      | zero =>
        cases hs : stands (c :: r) f 0 <;> simp
      | succ x =>
        rw [stands_tail]
        constructor
        · exact fun h => .inr ⟨x, (mem_hits hf).2 h, rfl⟩
        · rintro (h | ⟨y, hy, e⟩)
          · split at h <;> simp at h
          · obtain rfl : y = x := by omega
            exact (mem_hits hf).1 hy
  rw [e, List.length_append, List.length_map]
  split <;> simp
theorem rep_le {f p : List UInt8} (hf : f ≠ []) : ∀ t, (rep f p t).2 ≤ (hits t f).length := by
  refine rep_ind f hf (by rw [rep_nil]; exact Nat.zero_le _) (fun t h ih => ?_) (fun c r h ih => ?_)
  · have hp : 0 < f.length := List.length_pos_iff.2 hf
    rw [rep_hit hf h]
    cases t with
    | nil =>
      have h1 := (stands_iff.1 h).1
      simp only [List.length_nil] at h1
      omega
    | cons c r =>
      rw [hits_cons hf, if_pos h]
      obtain ⟨m, hm⟩ : ∃ m, f.length = m + 1 := ⟨f.length - 1, by omega⟩
      rw [hm, List.drop_succ_cons] at ih ⊢
      have := hits_drop (t := r) hf m
      show (rep f p (r.drop m)).2 + 1 ≤ _
      omega
  · rw [rep_miss h, hits_cons hf, if_neg (by rw [h]; simp)]
    show (rep f p r).2 ≤ _
    omega
theorem rep_pos {f p : List UInt8} (hf : f ≠ []) : ∀ t, 0 < (hits t f).length → 0 < (rep f p t).2 := by
  refine rep_ind f hf (fun h => by simp [hits, hitsTo] at h) (fun t h _ _ => ?_) (fun c r h ih hh => ?_)
  · rw [rep_hit hf h]; exact Nat.succ_pos _
  · rw [hits_cons hf, if_neg (by rw [h]; simp)] at hh
    rw [rep_miss h]
    exact ih (by omega)
/-- one sign alone -/
theorem hits_one (h : UInt8) : ∀ t : List UInt8, (hits t [h]).length = t.count h
  | [] => by simp [hits, hitsTo]
  | c :: r => by
    rw [hits_cons (by simp), hits_one h r]
    by_cases e : c = h
    · subst e
      rw [if_pos (stands_zero.2 (by simp)), List.count_cons_self]; omega
    · rw [if_neg, List.count_cons_of_ne e]
      · omega
      · intro hq
        have := stands_zero.1 hq
        simp at this
        exact e this
end Go.Proofs.Ytkiebkjndmcddaa.FindM
