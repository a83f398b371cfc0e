/-
  Several of my texts in one: what is known of plain lists: scripts, marks, hunks, regions, merged lines.
-/
import Derived.Test.YtokfnajgjhkepaaKit

/-
  What two lists have in common: plain lists. No program is named.
-/
namespace Go.Proofs.Ytokfnajgjhkepaa.DiffM

section
variable {α : Type}
/-- n is how many elements two lists have in common, in their order, at most -/
structure Lcs (a b : List α) (n : Nat) : Prop where
  is : ∃ c : List α, c.Sublist a ∧ c.Sublist b ∧ c.length = n
  max : ∀ c : List α, c.Sublist a → c.Sublist b → c.length ≤ n
theorem Lcs.one {a b : List α} {n m : Nat} (h : Lcs a b n) (k : Lcs a b m) : n = m := by
  obtain ⟨c, h1, h2, h3⟩ := h.is
  obtain ⟨d, k1, k2, k3⟩ := k.is
  have := h.max d k1 k2
  have := k.max c h1 h2
  omega
theorem lcs_ex (a b : List α) : ∃ n, Lcs a b n := by
  classical
  have key : ∀ j, (∀ c : List α, c.Sublist a → c.Sublist b → c.length ≤ j) → ∃ n, Lcs a b n := by
    intro j
    induction j with
    | zero => exact fun h => ⟨0, ⟨[], by simp, by simp, rfl⟩, h⟩
    | succ j ih =>
      intro h
      by_cases hc : ∃ c : List α, c.Sublist a ∧ c.Sublist b ∧ c.length = j + 1
      · exact ⟨j + 1, hc, h⟩
      · refine ih (fun c h1 h2 => ?_)
        have h3 := h c h1 h2
        have h4 : c.length ≠ j + 1 := fun e => hc ⟨c, h1, h2, e⟩
        omega
  exact key a.length (fun c h1 _ => h1.length_le)
noncomputable def lcs (a b : List α) : Nat := (lcs_ex a b).choose
theorem lcs_is (a b : List α) : Lcs a b (lcs a b) := (lcs_ex a b).choose_spec
theorem lcs_of {a b : List α} {n : Nat} (h : Lcs a b n) : lcs a b = n := (lcs_is a b).one h
theorem lcs_le {a b c : List α} (h1 : c.Sublist a) (h2 : c.Sublist b) : c.length ≤ lcs a b := (lcs_is a b).max c h1 h2
theorem lcs_left (a b : List α) : lcs a b ≤ a.length := by
  obtain ⟨c, h1, _, h3⟩ := (lcs_is a b).is
  have := h1.length_le; omega
theorem lcs_right (a b : List α) : lcs a b ≤ b.length := by
  obtain ⟨c, _, h2, h3⟩ := (lcs_is a b).is
  have := h2.length_le; omega
theorem lcs_comm (a b : List α) : lcs a b = lcs b a := lcs_of ⟨by obtain ⟨c, h1, h2, h3⟩ := (lcs_is b a).is; exact ⟨c, h2, h1, h3⟩, fun c h1 h2 => lcs_le h2 h1⟩
theorem lcs_self (a : List α) : lcs a a = a.length := lcs_of ⟨⟨a, List.Sublist.refl _, List.Sublist.refl _, rfl⟩, fun _ h _ => h.length_le⟩
theorem lcs_nil_left (b : List α) : lcs [] b = 0 := by have := lcs_left ([] : List α) b; simpa using this
theorem lcs_nil_right (a : List α) : lcs a [] = 0 := by have := lcs_right a ([] : List α); simpa using this
theorem lcs_rev (a b : List α) : lcs a.reverse b.reverse = lcs a b := by
  refine lcs_of ⟨?_, fun c h1 h2 => ?_⟩
  · obtain ⟨c, h1, h2, h3⟩ := (lcs_is a b).is
    exact ⟨c.reverse, h1.reverse, h2.reverse, by simpa using h3⟩
  · have h3 := lcs_le (a := a) (b := b) (c := c.reverse) (by simpa using h1.reverse) (by simpa using h2.reverse)
    simpa using h3
theorem lcs_mono {a a' b b' : List α} (h1 : a.Sublist a') (h2 : b.Sublist b') : lcs a b ≤ lcs a' b' := by
  obtain ⟨c, k1, k2, k3⟩ := (lcs_is a b).is
  rw [← k3]
  exact lcs_le (k1.trans h1) (k2.trans h2)
/-- the heads are alike -/
theorem lcs_same (x : α) (a b : List α) : lcs (x :: a) (x :: b) = lcs a b + 1 := by
  refine lcs_of ⟨?_, fun c h1 h2 => ?_⟩
  · obtain ⟨c, h1, h2, h3⟩ := (lcs_is a b).is
    exact ⟨x :: c, h1.cons_cons x, h2.cons_cons x, by simp [h3]⟩
  · cases c with
    | nil => simp
    | cons z c =>
      have k1 : c.Sublist a := by
        cases h1 with
        | cons _ h => exact (List.sublist_cons_self z c).trans h
        | cons_cons _ h => exact h
      have k2 : c.Sublist b := by
        cases h2 with
        | cons _ h => exact (List.sublist_cons_self z c).trans h
        | cons_cons _ h => exact h
      have := lcs_le k1 k2
      simp; omega
/-- they are not -/
theorem lcs_other {x y : α} (h : x ≠ y) (a b : List α) : lcs (x :: a) (y :: b) = max (lcs (x :: a) b) (lcs a (y :: b)) := by
  refine Nat.le_antisymm ?_ ?_
  · obtain ⟨c, h1, h2, h3⟩ := (lcs_is (x :: a) (y :: b)).is
    rw [← h3]
    cases h1 with
    | cons _ k => have := lcs_le k h2; omega
    | cons_cons _ k =>
      cases h2 with
      | cons _ k2 => have := lcs_le (k.cons_cons x) k2; omega
      | cons_cons _ k2 => exact absurd rfl h
  · have h1 := lcs_mono (List.Sublist.refl (x :: a)) (List.sublist_cons_self y b)
    have h2 := lcs_mono (List.sublist_cons_self x a) (List.Sublist.refl (y :: b))
    omega
/-- the last ones -/
theorem lcs_snoc_same (x : α) (a b : List α) : lcs (a ++ [x]) (b ++ [x]) = lcs a b + 1 := by
  rw [← lcs_rev, List.reverse_append, List.reverse_append]
  simp only [List.reverse_singleton, List.singleton_append]
  rw [lcs_same, lcs_rev]
theorem lcs_snoc_other {x y : α} (h : x ≠ y) (a b : List α) : lcs (a ++ [x]) (b ++ [y]) = max (lcs (a ++ [x]) b) (lcs a (b ++ [y])) := by
  rw [← lcs_rev, List.reverse_append, List.reverse_append]
  simp only [List.reverse_singleton, List.singleton_append]
  rw [lcs_other h, ← lcs_rev (a ++ [x]) b, ← lcs_rev a (b ++ [y])]
  simp
/-- a line more adds one at most -/
theorem lcs_more (x : α) (a b : List α) : lcs (x :: a) b ≤ lcs a b + 1 := by
  obtain ⟨c, h1, h2, h3⟩ := (lcs_is (x :: a) b).is
  rw [← h3]
  cases h1 with
  | cons _ k => have := lcs_le k h2; omega
  | cons_cons _ k =>
    have := lcs_le k ((List.sublist_cons_self _ _).trans h2)
    simp; omega
theorem lcs_snoc (x : α) (a b : List α) : lcs a b ≤ lcs (a ++ [x]) b ∧ lcs (a ++ [x]) b ≤ lcs a b + 1 := by
  refine ⟨lcs_mono (List.sublist_append_left a [x]) (List.Sublist.refl b), ?_⟩
  rw [← lcs_rev (a ++ [x]) b, ← lcs_rev a b, List.reverse_append]
  exact lcs_more x _ _
/-- what both have ahead, or behind -/
theorem lcs_head (h a b : List α) : lcs (h ++ a) (h ++ b) = h.length + lcs a b := by
  induction h with
  | nil => simp
  | cons x h ih => rw [List.cons_append, List.cons_append, lcs_same, ih]; simp; omega
theorem lcs_tail (a b t : List α) : lcs (a ++ t) (b ++ t) = lcs a b + t.length := by
  rw [← lcs_rev, List.reverse_append, List.reverse_append, lcs_head, lcs_rev]
  simp; omega
/-- alike: all of them are in common -/
theorem lcs_full {a b : List α} (h1 : lcs a b = a.length) (h2 : lcs a b = b.length) : a = b := by
  obtain ⟨c, k1, k2, k3⟩ := (lcs_is a b).is
  rw [← k1.eq_of_length (by omega), k2.eq_of_length (by omega)]
/-- two parts of a list have a part in common -/
theorem sub_two : ∀ {b c d : List α}, c.Sublist b → d.Sublist b → ∃ e : List α, e.Sublist c ∧ e.Sublist d ∧ c.length + d.length ≤ b.length + e.length
  | [], c, d, h1, h2 => by
    rw [List.sublist_nil] at h1 h2
    subst h1; subst h2
    exact ⟨[], by simp, by simp, by simp⟩
  | x :: b, c, d, h1, h2 => by
    cases h1 with
    | cons _ k1 =>
      cases h2 with
      | cons _ k2 =>
        obtain ⟨e, e1, e2, e3⟩ := sub_two k1 k2
        exact ⟨e, e1, e2, by simp; omega⟩
      | cons_cons _ k2 =>
        obtain ⟨e, e1, e2, e3⟩ := sub_two k1 k2
        exact ⟨e, e1, e2.trans (List.sublist_cons_self _ _), by simp; omega⟩
    | cons_cons _ k1 =>
      cases h2 with
      | cons _ k2 =>
        obtain ⟨e, e1, e2, e3⟩ := sub_two k1 k2
        exact ⟨e, e1.trans (List.sublist_cons_self _ _), e2, by simp; omega⟩
      | cons_cons _ k2 =>
        obtain ⟨e, e1, e2, e3⟩ := sub_two k1 k2
        exact ⟨x :: e, e1.cons_cons x, e2.cons_cons x, by simp; omega⟩
/-- by way of a third list -/
theorem lcs_way (a b c : List α) : lcs a b + lcs b c ≤ b.length + lcs a c := by
  obtain ⟨d, d1, d2, d3⟩ := (lcs_is a b).is
  obtain ⟨f, f1, f2, f3⟩ := (lcs_is b c).is
  obtain ⟨e, e1, e2, e3⟩ := sub_two d2 f1
  have := lcs_le (e1.trans d1) (e2.trans f2)
  omega
/-- the cost of a script -/
noncomputable def cost (a b : List α) : Nat := a.length + b.length - 2 * lcs a b
theorem cost_eq (a b : List α) : cost a b + 2 * lcs a b = a.length + b.length := by
  have h1 := lcs_left a b
  have h2 := lcs_right a b
  unfold cost; omega
theorem cost_comm (a b : List α) : cost a b = cost b a := by
  have h1 := cost_eq a b
  have h2 := cost_eq b a
  rw [lcs_comm b a] at h2
  omega
theorem cost_self (a : List α) : cost a a = 0 := by
  have h1 := cost_eq a a
  rw [lcs_self] at h1; omega
theorem cost_zero {a b : List α} (h : cost a b = 0) : a = b := by
  have h1 := cost_eq a b
  have h2 := lcs_left a b
  have h3 := lcs_right a b
  exact lcs_full (by omega) (by omega)
theorem cost_way (a b c : List α) : cost a c ≤ cost a b + cost b c := by
  have h1 := cost_eq a b
  have h2 := cost_eq b c
  have h3 := cost_eq a c
  have h4 := lcs_way a b c
  omega
theorem cost_even (a b : List α) : (cost a b + a.length + b.length) % 2 = 0 := by
  have h1 := cost_eq a b; omega
theorem cost_frame (h a b t : List α) : cost (h ++ a ++ t) (h ++ b ++ t) = cost a b := by
  have h1 := cost_eq a b
  have h2 := cost_eq (h ++ a ++ t) (h ++ b ++ t)
  rw [lcs_tail, lcs_head] at h2
  simp only [List.length_append] at h2
  omega
theorem cost_more (x : α) (a b : List α) : cost (a ++ [x]) b = cost a b + 1 ∨ cost (a ++ [x]) b + 1 = cost a b := by
  have h1 := cost_eq a b
  have h2 := cost_eq (a ++ [x]) b
  have h3 := lcs_snoc x a b
  rw [List.length_append, List.length_singleton] at h2
  omega
end
end Go.Proofs.Ytokfnajgjhkepaa.DiffM

/-
  Scripts between two lists: one by one, and in runs; what patching makes of them: plain lists. No program is named.
-/
namespace Go.Proofs.Ytokfnajgjhkepaa.DiffM

section
variable {α : Type}
open Classical in
/-- the kinds of the script, one by one: 1 a line is kept, 2 dropped, 3 taken -/
noncomputable def kinds : List α → List α → List Nat
  | [], [] => []
  | [], _ :: b => 3 :: kinds [] b
  | _ :: a, [] => 2 :: kinds a []
  | x :: a, y :: b => if x = y then 1 :: kinds a b else if lcs a (y :: b) = lcs (x :: a) (y :: b) then 2 :: kinds a (y :: b) else 3 :: kinds (x :: a) b
termination_by a b => a.length + b.length
theorem kinds_nil : kinds ([] : List α) [] = [] := by rw [kinds]
theorem kinds_take (y : α) (b : List α) : kinds [] (y :: b) = 3 :: kinds [] b := by rw [kinds]
theorem kinds_drop (x : α) (a : List α) : kinds (x :: a) [] = 2 :: kinds a [] := by rw [kinds]
theorem kinds_same (x : α) (a b : List α) : kinds (x :: a) (x :: b) = 1 :: kinds a b := by rw [kinds, if_pos rfl]
theorem kinds_less {x y : α} (h : x ≠ y) {a b : List α} (hl : lcs a (y :: b) = lcs (x :: a) (y :: b)) : kinds (x :: a) (y :: b) = 2 :: kinds a (y :: b) := by rw [kinds, if_neg h, if_pos hl]
theorem kinds_more {x y : α} (h : x ≠ y) {a b : List α} (hl : lcs a (y :: b) ≠ lcs (x :: a) (y :: b)) : kinds (x :: a) (y :: b) = 3 :: kinds (x :: a) b := by rw [kinds, if_neg h, if_neg hl]
/-- a script -/
inductive Scr : List Nat → List α → List α → Prop
  | nil : Scr [] [] []
  | keep (x : α) {ks : List Nat} {a b : List α} : Scr ks a b → Scr (1 :: ks) (x :: a) (x :: b)
  | drop (x : α) {ks : List Nat} {a b : List α} : Scr ks a b → Scr (2 :: ks) (x :: a) b
  | take (y : α) {ks : List Nat} {a b : List α} : Scr ks a b → Scr (3 :: ks) a (y :: b)
theorem kinds_all : ∀ n (a b : List α), a.length + b.length ≤ n → Scr (kinds a b) a b ∧ (kinds a b).count 1 = lcs a b
  | _, [], [], _ => by rw [kinds_nil]; exact ⟨.nil, by rw [lcs_nil_left]; rfl⟩
  | n + 1, [], y :: b, h => by
    obtain ⟨h1, h2⟩ := kinds_all n [] b (by simp at h ⊢; omega)
    rw [kinds_take]
    exact ⟨.take y h1, by rw [List.count_cons_of_ne (by decide), h2, lcs_nil_left, lcs_nil_left]⟩
  | n + 1, x :: a, [], h => by
    obtain ⟨h1, h2⟩ := kinds_all n a [] (by simp at h ⊢; omega)
    rw [kinds_drop]
    exact ⟨.drop x h1, by rw [List.count_cons_of_ne (by decide), h2, lcs_nil_right, lcs_nil_right]⟩
  | n + 1, x :: a, y :: b, h => by
    by_cases e : x = y
    · subst e
      obtain ⟨h1, h2⟩ := kinds_all n a b (by simp at h ⊢; omega)
      rw [kinds_same]
      exact ⟨.keep x h1, by rw [List.count_cons_self, h2, lcs_same]⟩
    · by_cases hl : lcs a (y :: b) = lcs (x :: a) (y :: b)
      · obtain ⟨h1, h2⟩ := kinds_all n a (y :: b) (by simp at h ⊢; omega)
        rw [kinds_less e hl]
        exact ⟨.drop x h1, by rw [List.count_cons_of_ne (by decide), h2, hl]⟩
      · obtain ⟨h1, h2⟩ := kinds_all n (x :: a) b (by simp at h ⊢; omega)
        rw [kinds_more e hl]
        refine ⟨.take y h1, ?_⟩
        have := lcs_other e a b
        rw [List.count_cons_of_ne (by decide), h2]
        omega
  | 0, [], _ :: _, h => by simp at h
  | 0, _ :: _, _, h => by simp at h
theorem kinds_scr (a b : List α) : Scr (kinds a b) a b := (kinds_all _ a b (Nat.le_refl _)).1
theorem kinds_keep (a b : List α) : (kinds a b).count 1 = lcs a b := (kinds_all _ a b (Nat.le_refl _)).2
theorem Scr.counts {ks : List Nat} {a b : List α} (h : Scr ks a b) : ks.count 1 + ks.count 2 = a.length ∧ ks.count 1 + ks.count 3 = b.length ∧ ks.length = ks.count 1 + ks.count 2 + ks.count 3 := by
  induction h with
  | nil => simp
  | keep x _ ih => simp only [List.count_cons_self, List.count_cons_of_ne (show (1 : Nat) ≠ 2 by decide), List.count_cons_of_ne (show (1 : Nat) ≠ 3 by decide), List.length_cons]; omega
  | drop x _ ih => simp only [List.count_cons_self, List.count_cons_of_ne (show (2 : Nat) ≠ 1 by decide), List.count_cons_of_ne (show (2 : Nat) ≠ 3 by decide), List.length_cons]; omega
  | take y _ ih => simp only [List.count_cons_self, List.count_cons_of_ne (show (3 : Nat) ≠ 1 by decide), List.count_cons_of_ne (show (3 : Nat) ≠ 2 by decide), List.length_cons]; omega
theorem Scr.kind {ks : List Nat} {a b : List α} (h : Scr ks a b) : ∀ k ∈ ks, k = 1 ∨ k = 2 ∨ k = 3 := by
  induction h with
  | nil => simp
  | keep _ _ ih => intro k hk; rcases List.mem_cons.1 hk with rfl | hk; exact .inl rfl; exact ih k hk
  | drop _ _ ih => intro k hk; rcases List.mem_cons.1 hk with rfl | hk; exact .inr (.inl rfl); exact ih k hk
  | take _ _ ih => intro k hk; rcases List.mem_cons.1 hk with rfl | hk; exact .inr (.inr rfl); exact ih k hk
/-- runs of one kind -/
theorem Scr.keeps {n : Nat} {ks : List Nat} {a b : List α} (h : Scr (List.replicate n 1 ++ ks) a b) : n ≤ a.length ∧ n ≤ b.length ∧ a.take n = b.take n ∧ Scr ks (a.drop n) (b.drop n) := by
  induction n generalizing a b with
  | zero => simpa using h
  | succ n ih =>
    rw [List.replicate_succ, List.cons_append] at h
    cases h with
    | keep x h =>
      obtain ⟨h1, h2, h3, h4⟩ := ih h
      simp only [List.length_cons, List.take_succ_cons, List.drop_succ_cons, h3]
      exact ⟨by omega, by omega, trivial, h4⟩
theorem Scr.drops {n : Nat} {ks : List Nat} {a b : List α} (h : Scr (List.replicate n 2 ++ ks) a b) : n ≤ a.length ∧ Scr ks (a.drop n) b := by
  induction n generalizing a b with
  | zero => simpa using h
  | succ n ih =>
    rw [List.replicate_succ, List.cons_append] at h
    cases h with
    | drop x h =>
      obtain ⟨h1, h4⟩ := ih h
      simp only [List.length_cons, List.drop_succ_cons]
      exact ⟨by omega, h4⟩
theorem Scr.takes {n : Nat} {ks : List Nat} {a b : List α} (h : Scr (List.replicate n 3 ++ ks) a b) : n ≤ b.length ∧ Scr ks a (b.drop n) := by
  induction n generalizing a b with
  | zero => simpa using h
  | succ n ih =>
    rw [List.replicate_succ, List.cons_append] at h
    cases h with
    | take x h =>
      obtain ⟨h1, h4⟩ := ih h
      simp only [List.length_cons, List.drop_succ_cons]
      exact ⟨by omega, h4⟩
end

/-- one more: the last run grows, or a new one begins -/
def push (l : List (Nat × Nat)) (k : Nat) : List (Nat × Nat) :=
  match l.getLast? with
  | some p => if p.1 = k then l.dropLast ++ [(k, p.2 + 1)] else l ++ [(k, 1)]
  | none => [(k, 1)]
theorem push_nil (k : Nat) : push [] k = [(k, 1)] := rfl
theorem push_snoc (l : List (Nat × Nat)) (p : Nat × Nat) (k : Nat) : push (l ++ [p]) k = if p.1 = k then l ++ [(k, p.2 + 1)] else l ++ [p] ++ [(k, 1)] := by
  unfold push
  rw [List.getLast?_append]
  simp
/-- in runs -/
def comb (ks : List Nat) : List (Nat × Nat) := ks.foldl push []
theorem comb_snoc (ks : List Nat) (k : Nat) : comb (ks ++ [k]) = push (comb ks) k := by simp [comb]
/-- and out of them -/
def ex (l : List (Nat × Nat)) : List Nat := l.flatMap fun p => List.replicate p.2 p.1
theorem ex_cons (p : Nat × Nat) (l : List (Nat × Nat)) : ex (p :: l) = List.replicate p.2 p.1 ++ ex l := by simp [ex]
theorem ex_append (l m : List (Nat × Nat)) : ex (l ++ m) = ex l ++ ex m := by simp [ex]
theorem ex_one (k n : Nat) : ex [(k, n)] = List.replicate n k := by simp [ex]
/-- runs: none is empty, two side by side are of two kinds -/
structure Runs (l : List (Nat × Nat)) : Prop where
  pos : ∀ p ∈ l, 1 ≤ p.2
  alt : ∀ (i : Nat) (p q : Nat × Nat), l[i]? = some p → l[i + 1]? = some q → p.1 ≠ q.1
theorem runs_nil : Runs [] := ⟨by simp, fun i p q h => by simp at h⟩
theorem push_ex (l : List (Nat × Nat)) (k : Nat) : ex (push l k) = ex l ++ [k] := by
  rcases List.eq_nil_or_concat l with rfl | ⟨l, p, rfl⟩
  · rfl
  · rw [List.concat_eq_append, push_snoc]
    obtain ⟨k', n⟩ := p
    by_cases e : k' = k
    · subst e
      rw [if_pos rfl, ex_append, ex_append, ex_one, ex_one, List.replicate_succ', List.append_assoc]
    · rw [if_neg e, ex_append, ex_one]; rfl
theorem Runs.push {l : List (Nat × Nat)} (h : Runs l) (k : Nat) : Runs (push l k) := by
  rcases List.eq_nil_or_concat l with rfl | ⟨l, p, rfl⟩
  · refine ⟨fun p hp => ?_, fun i p q h1 h2 => ?_⟩
    · rw [push_nil, List.mem_singleton] at hp; rw [hp]; exact Nat.le_refl 1
    · rw [push_nil] at h2; simp at h2
  · rw [List.concat_eq_append] at h ⊢
    rw [push_snoc]
    by_cases e : p.1 = k
    · rw [if_pos e]
      refine ⟨fun q hq => ?_, fun i q r h1 h2 => ?_⟩
      · rcases List.mem_append.1 hq with hq | hq
        · exact h.pos q (List.mem_append_left _ hq)
        · rw [List.mem_singleton] at hq; rw [hq]; exact Nat.succ_le_succ (Nat.zero_le _)
      · have hi2 := (List.getElem?_eq_some_iff.1 h2).1
        simp at hi2
        have h1' : (l ++ [p])[i]? = some q := by
          rw [List.getElem?_append_left (by omega)] at h1 ⊢; exact h1
        by_cases hl : i + 1 < l.length
        · refine h.alt i q r h1' ?_
          rw [List.getElem?_append_left hl] at h2 ⊢; exact h2
        · have e3 : i + 1 = l.length := by omega
          have e2 : r = (k, p.2 + 1) := by
            rw [e3, List.getElem?_append_right (Nat.le_refl _), Nat.sub_self] at h2
            simpa using h2.symm
          have := h.alt i q p h1' (by rw [e3, List.getElem?_append_right (Nat.le_refl _), Nat.sub_self]; rfl)
          rw [e2]; rw [e] at this; exact this
    · rw [if_neg e]
      refine ⟨fun q hq => ?_, fun i q r h1 h2 => ?_⟩
      · rcases List.mem_append.1 hq with hq | hq
        · exact h.pos q hq
        · rw [List.mem_singleton] at hq; rw [hq]; exact Nat.le_refl 1
      · have hi2 := (List.getElem?_eq_some_iff.1 h2).1
        simp at hi2
        by_cases hl : i + 1 < l.length + 1
        · refine h.alt i q r ?_ ?_
          · rw [List.getElem?_append_left (by simp; omega)] at h1; exact h1
          · rw [List.getElem?_append_left (by simp; omega)] at h2; exact h2
        · have e3 : i = l.length := by omega
          have e1 : q = p := by
            rw [e3, List.getElem?_append_left (by simp), List.getElem?_append_right (Nat.le_refl _), Nat.sub_self] at h1
            simpa using h1.symm
          have e2 : r = (k, 1) := by
            rw [e3, List.getElem?_append_right (by simp)] at h2
            simpa using h2.symm
          rw [e1, e2]; exact e
theorem comb_all (ks : List Nat) : Runs (comb ks) ∧ ex (comb ks) = ks := by
  have key : ∀ (ks : List Nat) (l : List (Nat × Nat)), Runs l → Runs (ks.foldl push l) ∧ ex (ks.foldl push l) = ex l ++ ks := by
    intro ks
    induction ks with
    | nil => intro l h; exact ⟨h, by simp⟩
    | cons k ks ih =>
      intro l h
      obtain ⟨h1, h2⟩ := ih (push l k) (h.push k)
      exact ⟨h1, by rw [List.foldl_cons, h2, push_ex, List.append_assoc]; rfl⟩
  have := key ks [] runs_nil
  exact ⟨this.1, this.2.trans (by simp [ex])⟩
/-- runs are told by what they are made of -/
theorem runs_one : ∀ {l m : List (Nat × Nat)}, Runs l → Runs m → ex l = ex m → l = m
  | [], [], _, _, _ => rfl
  | [], q :: m, _, hm, h => by
    have h1 := hm.pos q (by simp)
    rw [ex_cons] at h
    have := congrArg List.length h
    simp [ex] at this; omega
  | p :: l, [], hl, _, h => by
    have h1 := hl.pos p (by simp)
    rw [ex_cons] at h
    have := congrArg List.length h
    simp [ex] at this; omega
  | (k, n) :: l, (k', n') :: m, hl, hm, h => by
    have tl : Runs l := ⟨fun p hp => hl.pos p (by simp [hp]), fun i p q h1 h2 => hl.alt (i + 1) p q (by simpa using h1) (by simpa using h2)⟩
    have tm : Runs m := ⟨fun p hp => hm.pos p (by simp [hp]), fun i p q h1 h2 => hm.alt (i + 1) p q (by simpa using h1) (by simpa using h2)⟩
    have p1 : 1 ≤ n := hl.pos (k, n) (by simp)
    have p2 : 1 ≤ n' := hm.pos (k', n') (by simp)
    rw [ex_cons, ex_cons] at h
    have e1 : k = k' := by
      have := congrArg (fun z => z[0]?) h
      simp only [List.getElem?_append_left (show 0 < (List.replicate n k).length by simp; omega), List.getElem?_append_left (show 0 < (List.replicate n' k').length by simp; omega)] at this
      rw [List.getElem?_replicate, List.getElem?_replicate, if_pos (by omega), if_pos (by omega)] at this
      exact Option.some.inj this
    subst e1
    -- the run's end: what follows is of another kind
    have hd : ∀ {n : Nat} {l : List (Nat × Nat)}, Runs ((k, n) :: l) → (ex l)[0]? ≠ some k := by
      intro n l hr
      cases l with
      | nil => simp [ex]
      | cons q l =>
        have h1 := hr.pos q (by simp)
        have h2 := hr.alt 0 (k, n) q rfl rfl
        rw [ex_cons, List.getElem?_append_left (by simp; omega), List.getElem?_replicate, if_pos (by omega)]
        intro e
        exact h2 (Option.some.inj e).symm
    have key : ∀ {n n' : Nat} {l m : List (Nat × Nat)}, Runs ((k, n) :: l) → (ex l)[0]? ≠ some k → List.replicate n k ++ ex l = List.replicate n' k ++ ex m → n' ≤ n := by
      intro n n' l m _ hne he
      by_cases hle : n' ≤ n
      · exact hle
      · exfalso
        have h3 := congrArg (fun z => z[n]?) he
        rw [List.getElem?_append_right (by simp), List.length_replicate, Nat.sub_self, List.getElem?_append_left (by simp; omega), List.getElem?_replicate, if_pos (by omega)] at h3
        exact hne h3
    have e2 : n = n' := Nat.le_antisymm (key hm (hd hm) h.symm) (key hl (hd hl) h)
    subst e2
    rw [runs_one tl tm (List.append_cancel_left h)]
end Go.Proofs.Ytokfnajgjhkepaa.DiffM

/-
  What steps make of lines; the rows of common parts: plain lists. No program is named.
-/
namespace Go.Proofs.Ytokfnajgjhkepaa.DiffM

section
variable {α : Type}
/-- one step: how many of the one, of the other are used up, what is made; or what is refused -/
def pstep (a n : List α) (s : Nat × Nat × List α) (p : Int × Int) : Except Int (Nat × Nat × List α) :=
  if p.1 ≠ 1 ∧ p.1 ≠ 2 ∧ p.1 ≠ 3 then .error 3
  else if p.2 < 1 ∨ 200 < p.2 then .error 2
  else if p.1 = 3 then (if n.length < s.2.1 + p.2.toNat then .error 5 else .ok (s.1, s.2.1 + p.2.toNat, s.2.2 ++ (n.drop s.2.1).take p.2.toNat))
  else if a.length < s.1 + p.2.toNat then .error 5
  else .ok (s.1 + p.2.toNat, s.2.1, if p.1 = 1 then s.2.2 ++ (a.drop s.1).take p.2.toNat else s.2.2)
/-- all of them -/
def prun (a n : List α) (l : List (Int × Int)) (s : Nat × Nat × List α) : Except Int (Nat × Nat × List α) := l.foldlM (pstep a n) s
theorem prun_nil (a n : List α) (s : Nat × Nat × List α) : prun a n [] s = .ok s := rfl
theorem prun_cons (a n : List α) (p : Int × Int) (l : List (Int × Int)) (s : Nat × Nat × List α) : prun a n (p :: l) s = (pstep a n s p).bind (prun a n l) := rfl
theorem prun_append (a n : List α) : ∀ (l m : List (Int × Int)) (s : Nat × Nat × List α), prun a n (l ++ m) s = (prun a n l s).bind (prun a n m)
  | [], m, s => rfl
  | p :: l, m, s => by
    rw [List.cons_append, prun_cons, prun_cons]
    cases h : pstep a n s p with
    | error c => rfl
    | ok s' => exact prun_append a n l m s'
theorem prun_stop {a n : List α} {l : List (Int × Int)} {t : Nat} {s : Nat × Nat × List α} {c : Int} (h : prun a n (l.take t) s = .error c) : prun a n l s = .error c := by
  rw [← List.take_append_drop t l, prun_append, h]; rfl
theorem prun_next {a n : List α} {l : List (Int × Int)} {t : Nat} {s s' : Nat × Nat × List α} {p : Int × Int} (h : prun a n (l.take t) s = .ok s') (hp : l[t]? = some p) : prun a n (l.take (t + 1)) s = pstep a n s' p := by
  rw [List.take_add_one, hp, prun_append, h]
  show (prun a n [p] s') = _
  rw [prun_cons]
  cases pstep a n s' p <;> rfl
/-- the end: nothing may be left -/
def pfin (a n : List α) (r : Except Int (Nat × Nat × List α)) : List α × Int :=
  match r with
  | .error c => ([], c)
  | .ok s => if s.1 < a.length ∨ s.2.1 < n.length then ([], 4) else (s.2.2, 0)
/-- what stays within bounds -/
structure PIn (a n : List α) (s : Nat × Nat × List α) : Prop where
  i : s.1 ≤ a.length
  k : s.2.1 ≤ n.length
  out : s.2.2.length ≤ s.1 + s.2.1
theorem pstep_in {a n : List α} {s s' : Nat × Nat × List α} {p : Int × Int} (h : PIn a n s) (hs : pstep a n s p = .ok s') : PIn a n s' := by
  have h1 := h.i
  have h2 := h.k
  have h3 := h.out
  unfold pstep at hs
  split at hs
  · cases hs
  · split at hs
    · cases hs
    · split at hs
      · split at hs
        · cases hs
        · cases hs
          exact ⟨h1, by dsimp only; omega, by simp only [List.length_append, List.length_take, List.length_drop]; omega⟩
      · split at hs
        · cases hs
        · cases hs
          refine ⟨by dsimp only; omega, h2, ?_⟩
          dsimp only
          split
          · simp only [List.length_append, List.length_take, List.length_drop]; omega
          · omega
theorem prun_in {a n : List α} : ∀ {l : List (Int × Int)} {s s' : Nat × Nat × List α}, PIn a n s → prun a n l s = .ok s' → PIn a n s'
  | [], s, s', h, e => by cases e; exact h
  | p :: l, s, s', h, e => by
    rw [prun_cons] at e
    cases hp : pstep a n s p with
    | error c => rw [hp] at e; cases e
    | ok s1 => rw [hp] at e; exact prun_in (pstep_in h hp) e
theorem pin_start (a n : List α) : PIn a n (0, 0, []) := ⟨Nat.zero_le _, Nat.zero_le _, Nat.le_refl _⟩
/-- the lines that are taken -/
def tk : List Nat → List α → List α
  | [], _ => []
  | k :: ks, b => if k = 3 then b.take 1 ++ tk ks (b.drop 1) else if k = 1 then tk ks (b.drop 1) else tk ks b
theorem tk_keeps (ks : List Nat) : ∀ (n : Nat) (b : List α), tk (List.replicate n 1 ++ ks) b = tk ks (b.drop n)
  | 0, b => by simp
  | n + 1, b => by
    rw [List.replicate_succ, List.cons_append]
    show tk (List.replicate n 1 ++ ks) (b.drop 1) = _
    rw [tk_keeps ks n, List.drop_drop, Nat.add_comm]
theorem tk_drops (ks : List Nat) : ∀ (n : Nat) (b : List α), tk (List.replicate n 2 ++ ks) b = tk ks b
  | 0, b => by simp
  | n + 1, b => by
    rw [List.replicate_succ, List.cons_append]
    exact tk_drops ks n b
theorem tk_takes (ks : List Nat) : ∀ (n : Nat) (b : List α), tk (List.replicate n 3 ++ ks) b = b.take n ++ tk ks (b.drop n)
  | 0, b => by simp
  | n + 1, b => by
    rw [List.replicate_succ, List.cons_append]
    show b.take 1 ++ tk (List.replicate n 3 ++ ks) (b.drop 1) = _
    rw [tk_takes ks n, List.drop_drop, ← List.append_assoc]
    congr 1
    · rw [Nat.add_comm n 1, List.take_add]
    · congr 2; omega
theorem tk_len (ks : List Nat) : ∀ b : List α, (tk ks b).length ≤ b.length := by
  induction ks with
  | nil => intro b; simp [tk]
  | cons k ks ih =>
    intro b
    have := ih (b.drop 1)
    have h2 := ih b
    unfold tk
    split
    · simp only [List.length_append, List.length_take, List.length_drop] at this ⊢; omega
    · split
      · simp only [List.length_drop] at this; omega
      · exact h2
/-- runs, as the steps of the machine -/
def steps (l : List (Nat × Nat)) : List (Int × Int) := l.map fun p => ((p.1 : Int), (p.2 : Int))
/-- patched by its own steps it is the other list -/
theorem patch_back {a n : List α} : ∀ (l : List (Nat × Nat)) (i k : Nat) (out b : List α), (∀ p ∈ l, 1 ≤ p.2 ∧ p.2 ≤ 200 ∧ (p.1 = 1 ∨ p.1 = 2 ∨ p.1 = 3)) → i ≤ a.length → k ≤ n.length → Scr (ex l) (a.drop i) b → n.drop k = tk (ex l) b → prun a n (steps l) (i, k, out) = .ok (a.length, n.length, out ++ b)
  | [], i, k, out, b, _, hi, hk, hs, hn => by
    have h1 : a.drop i = [] ∧ b = [] := by
      have : ex ([] : List (Nat × Nat)) = [] := rfl
      rw [this] at hs
      generalize a.drop i = z at hs
      cases hs
      exact ⟨rfl, rfl⟩
    have h2 : n.drop k = [] := hn
    have e1 := List.drop_eq_nil_iff.1 h1.1
    have e2 := List.drop_eq_nil_iff.1 h2
    rw [h1.2, List.append_nil]
    show Except.ok (i, k, out) = _
    rw [show i = a.length by omega, show k = n.length by omega]
  | (kd, c) :: l, i, k, out, b, hp, hi, hk, hs, hn => by
    obtain ⟨c1, c2, c3⟩ := hp (kd, c) (by simp)
    dsimp only at c1 c2 c3
    have hp' : ∀ p ∈ l, 1 ≤ p.2 ∧ p.2 ≤ 200 ∧ (p.1 = 1 ∨ p.1 = 2 ∨ p.1 = 3) := fun p h => hp p (by simp [h])
    rw [ex_cons] at hs hn
    show prun a n (((kd : Int), (c : Int)) :: steps l) _ = _
    rw [prun_cons]
    rcases c3 with rfl | rfl | rfl
    · obtain ⟨h1, h2, h3, h4⟩ := hs.keeps
      dsimp only at hs hn h1 h2 h3 h4
      rw [tk_keeps] at hn
      rw [List.length_drop] at h1
      have e : pstep a n (i, k, out) (((1 : Nat) : Int), (c : Int)) = .ok (i + c, k, out ++ b.take c) := by
        unfold pstep
        dsimp only
        rw [if_neg (by omega), if_neg (by omega), if_neg (by omega), if_neg (by omega), if_pos (by omega), Int.toNat_natCast, h3]
      rw [e]
      show prun a n (steps l) _ = _
      rw [List.drop_drop] at h4
      rw [patch_back l (i + c) k _ (b.drop c) hp' (by omega) hk h4 hn, List.append_assoc, List.take_append_drop]
    · obtain ⟨h1, h4⟩ := hs.drops
      dsimp only at hs hn h1 h4
      rw [tk_drops] at hn
      rw [List.length_drop] at h1
      have e : pstep a n (i, k, out) (((2 : Nat) : Int), (c : Int)) = .ok (i + c, k, out) := by
        unfold pstep
        dsimp only
        rw [if_neg (by omega), if_neg (by omega), if_neg (by omega), if_neg (by omega), if_neg (by omega), Int.toNat_natCast]
      rw [e]
      show prun a n (steps l) _ = _
      rw [List.drop_drop] at h4
      exact patch_back l (i + c) k _ b hp' (by omega) hk h4 hn
    · obtain ⟨h1, h4⟩ := hs.takes
      dsimp only at hs hn h1 h4
      rw [tk_takes] at hn
      have hl := congrArg List.length hn
      rw [List.length_drop, List.length_append, List.length_take, Nat.min_eq_left h1] at hl
      have ht : (n.drop k).take c = b.take c := by
        rw [hn, List.take_append_of_le_length (by rw [List.length_take]; omega), List.take_take, Nat.min_self]
      have hd : n.drop (k + c) = tk (ex l) (b.drop c) := by
        rw [← List.drop_drop, hn, List.drop_append_of_le_length (by rw [List.length_take]; omega), List.drop_eq_nil_of_le (by rw [List.length_take]; omega), List.nil_append]
      have e : pstep a n (i, k, out) (((3 : Nat) : Int), (c : Int)) = .ok (i, k + c, out ++ b.take c) := by
        unfold pstep
        dsimp only
        rw [if_neg (by omega), if_neg (by omega), if_pos (by omega), if_neg (by omega), Int.toNat_natCast, ht]
      rw [e]
      show prun a n (steps l) _ = _
      rw [patch_back l i (k + c) _ (b.drop c) hp' hi (by omega) h4 hd, List.append_assoc, List.take_append_drop]
/-- one place of the next row of common parts -/
theorem row_next {a b : List α} {i k : Nat} {x y : α} (hx : a[i]? = some x) (hy : b[k]? = some y) :
    (x = y → lcs (a.take (i + 1)) (b.take (k + 1)) = max (max (lcs (a.take i) (b.take (k + 1))) (lcs (a.take (i + 1)) (b.take k))) (lcs (a.take i) (b.take k) + 1)) ∧
    (x ≠ y → lcs (a.take (i + 1)) (b.take (k + 1)) = max (lcs (a.take i) (b.take (k + 1))) (lcs (a.take (i + 1)) (b.take k))) := by
  have e1 : a.take (i + 1) = a.take i ++ [x] := by rw [List.take_add_one, hx]; rfl
  have e2 : b.take (k + 1) = b.take k ++ [y] := by rw [List.take_add_one, hy]; rfl
  rw [e1, e2]
  constructor
  · rintro rfl
    have h1 := lcs_snoc_same x (a.take i) (b.take k)
    have h2 := lcs_snoc x (a.take i) (b.take k)
    have h3 := lcs_snoc x (b.take k) (a.take i)
    rw [lcs_comm (b.take k ++ [x]) (a.take i), lcs_comm (b.take k) (a.take i)] at h3
    omega
  · intro h
    have h1 := lcs_snoc_other h (a.take i) (b.take k)
    omega
/-- and of the tails -/
theorem tail_next {a b : List α} {i k : Nat} {x y : α} (hx : a[i]? = some x) (hy : b[k]? = some y) :
    (x = y → lcs (a.drop i) (b.drop k) = lcs (a.drop (i + 1)) (b.drop (k + 1)) + 1) ∧
    (x ≠ y → lcs (a.drop i) (b.drop k) = max (lcs (a.drop (i + 1)) (b.drop k)) (lcs (a.drop i) (b.drop (k + 1)))) := by
  obtain ⟨hi, hx'⟩ := List.getElem?_eq_some_iff.1 hx
  obtain ⟨hk, hy'⟩ := List.getElem?_eq_some_iff.1 hy
  have e1 : a.drop i = x :: a.drop (i + 1) := by rw [List.drop_eq_getElem_cons hi, hx']
  have e2 : b.drop k = y :: b.drop (k + 1) := by rw [List.drop_eq_getElem_cons hk, hy']
  rw [e1, e2]
  constructor
  · rintro rfl
    exact lcs_same _ _ _
  · intro h
    have := lcs_other h (a.drop (i + 1)) (b.drop (k + 1))
    omega
/-- a line more that both have -/
theorem keep_more {a b : List α} {i j m : Nat} {x : α} (h : ∃ c : List α, c.Sublist (a.take i) ∧ c.Sublist (b.take j) ∧ c.length = m) (hx : a[i]? = some x) (hy : b[j]? = some x) : ∃ c : List α, c.Sublist (a.take (i + 1)) ∧ c.Sublist (b.take (j + 1)) ∧ c.length = m + 1 := by
  obtain ⟨c, h1, h2, h3⟩ := h
  have e1 : a.take (i + 1) = a.take i ++ [x] := by rw [List.take_add_one, hx]; rfl
  have e2 : b.take (j + 1) = b.take j ++ [x] := by rw [List.take_add_one, hy]; rfl
  exact ⟨c ++ [x], by rw [e1]; exact h1.append (List.Sublist.refl _), by rw [e2]; exact h2.append (List.Sublist.refl _), by simp [h3]⟩
theorem keep_left {a b : List α} {i j m : Nat} (h : ∃ c : List α, c.Sublist (a.take i) ∧ c.Sublist (b.take j) ∧ c.length = m) : ∃ c : List α, c.Sublist (a.take (i + 1)) ∧ c.Sublist (b.take j) ∧ c.length = m := by
  obtain ⟨c, h1, h2, h3⟩ := h
  exact ⟨c, h1.trans (List.take_sublist_take_left (Nat.le_succ i)), h2, h3⟩
theorem keep_right {a b : List α} {i j m : Nat} (h : ∃ c : List α, c.Sublist (a.take i) ∧ c.Sublist (b.take j) ∧ c.length = m) : ∃ c : List α, c.Sublist (a.take i) ∧ c.Sublist (b.take (j + 1)) ∧ c.length = m := by
  obtain ⟨c, h1, h2, h3⟩ := h
  exact ⟨c, h1, h2.trans (List.take_sublist_take_left (Nat.le_succ j)), h3⟩
theorem keep_end {a b : List α} {i j m : Nat} (h : ∃ c : List α, c.Sublist (a.take i) ∧ c.Sublist (b.take j) ∧ c.length = m) : m ≤ lcs a b := by
  obtain ⟨c, h1, h2, h3⟩ := h
  rw [← h3]
  exact lcs_le (h1.trans (List.take_sublist i a)) (h2.trans (List.take_sublist j b))
end
end Go.Proofs.Ytokfnajgjhkepaa.DiffM

/-
  Steps, one by one: how many lines of the other list are used up, what is paid, what is taken. Plain lists.
-/
namespace Go.Proofs.Ytokfnajgjhkepaa.DiffM

section
variable {α : Type}
/-- so many lines of the other list are used up -/
def used (ks : List Nat) : Nat := ks.count 1 + ks.count 3
/-- so many are dropped and taken -/
def paid (ks : List Nat) : Nat := ks.count 2 + ks.count 3
theorem used_append (ks ls : List Nat) : used (ks ++ ls) = used ks + used ls := by unfold used; rw [List.count_append, List.count_append]; omega
theorem paid_append (ks ls : List Nat) : paid (ks ++ ls) = paid ks + paid ls := by unfold paid; rw [List.count_append, List.count_append]; omega
theorem count_rep (n k j : Nat) : (List.replicate n k).count j = if k = j then n else 0 := by
  rw [List.count_replicate]
  by_cases h : k = j <;> simp [h]
theorem tk_cons (k : Nat) (ks : List Nat) (b : List α) : tk (k :: ks) b = if k = 3 then b.take 1 ++ tk ks (b.drop 1) else if k = 1 then tk ks (b.drop 1) else tk ks b := rfl
theorem tk_append (ls : List Nat) : ∀ (ks : List Nat) (b : List α), tk (ks ++ ls) b = tk ks b ++ tk ls (b.drop (used ks))
  | [], b => by simp [tk, used]
  | k :: ks, b => by
    have ih := fun b => tk_append ls ks b
    rw [List.cons_append, tk_cons k (ks ++ ls), tk_cons k ks]
    by_cases h3 : k = 3
    · have e : used (k :: ks) = 1 + used ks := by unfold used; rw [h3, List.count_cons, List.count_cons]; simp; omega
      rw [if_pos h3, if_pos h3, ih, List.drop_drop, e, List.append_assoc]
    · by_cases h1 : k = 1
      · have e : used (k :: ks) = 1 + used ks := by unfold used; rw [h1, List.count_cons, List.count_cons]; simp; omega
        rw [if_neg h3, if_pos h1, if_neg h3, if_pos h1, ih, List.drop_drop, e]
      · have e : used (k :: ks) = used ks := by unfold used; rw [List.count_cons, List.count_cons]; simp [h1, h3]
        rw [if_neg h3, if_neg h1, if_neg h3, if_neg h1, ih, e]
theorem ex_next {R : List (Nat × Nat)} {t k c : Nat} (h : R[t]? = some (k, c)) : ex (R.take (t + 1)) = ex (R.take t) ++ List.replicate c k := by
  rw [List.take_add_one, h, ex_append]
  show ex (R.take t) ++ ex [(k, c)] = _
  rw [ex_one]
theorem back_keep {R : List (Nat × Nat)} {t c : Nat} (h : R[t]? = some (1, c)) (b : List α) : used (ex (R.take (t + 1))) = used (ex (R.take t)) + c ∧ paid (ex (R.take (t + 1))) = paid (ex (R.take t)) ∧ tk (ex (R.take (t + 1))) b = tk (ex (R.take t)) b := by
  rw [ex_next h, used_append, paid_append, tk_append]
  have e := tk_keeps [] c (b.drop (used (ex (R.take t))))
  rw [List.append_nil] at e
  refine ⟨?_, ?_, ?_⟩
  · unfold used; rw [count_rep, count_rep]; simp
  · unfold paid; rw [count_rep, count_rep]; simp
  · rw [e]; simp [tk]
theorem back_drop {R : List (Nat × Nat)} {t c : Nat} (h : R[t]? = some (2, c)) (b : List α) : used (ex (R.take (t + 1))) = used (ex (R.take t)) ∧ paid (ex (R.take (t + 1))) = paid (ex (R.take t)) + c ∧ tk (ex (R.take (t + 1))) b = tk (ex (R.take t)) b := by
  rw [ex_next h, used_append, paid_append, tk_append]
  have e := tk_drops [] c (b.drop (used (ex (R.take t))))
  rw [List.append_nil] at e
  refine ⟨?_, ?_, ?_⟩
  · unfold used; rw [count_rep, count_rep]; simp
  · unfold paid; rw [count_rep, count_rep]; simp
  · rw [e]; simp [tk]
theorem back_take {R : List (Nat × Nat)} {t c : Nat} (h : R[t]? = some (3, c)) (b : List α) : used (ex (R.take (t + 1))) = used (ex (R.take t)) + c ∧ paid (ex (R.take (t + 1))) = paid (ex (R.take t)) + c ∧ tk (ex (R.take (t + 1))) b = tk (ex (R.take t)) b ++ (b.drop (used (ex (R.take t)))).take c := by
  rw [ex_next h, used_append, paid_append, tk_append]
  have e := tk_takes [] c (b.drop (used (ex (R.take t))))
  rw [List.append_nil] at e
  refine ⟨?_, ?_, ?_⟩
  · unfold used; rw [count_rep, count_rep]; simp
  · unfold paid; rw [count_rep, count_rep]; simp
  · rw [e]; simp [tk]
theorem used_le (R : List (Nat × Nat)) (t : Nat) : used (ex (R.take t)) ≤ used (ex R) := by
  conv => rhs; rw [← List.take_append_drop t R, ex_append, used_append]
  omega
theorem paid_le (R : List (Nat × Nat)) (t : Nat) : paid (ex (R.take t)) ≤ paid (ex R) := by
  conv => rhs; rw [← List.take_append_drop t R, ex_append, paid_append]
  omega
theorem used_all {ks : List Nat} {a b : List α} (h : Scr ks a b) : used ks = b.length := by
  unfold used; exact h.counts.2.1
theorem paid_all (a b : List α) : paid (kinds a b) = cost a b := by
  have h1 := (kinds_scr a b).counts
  have h2 := kinds_keep a b
  have h3 := cost_eq a b
  unfold paid
  omega
/-- what the runs of two lists are -/
structure Rn (a b : List α) (R : List (Nat × Nat)) : Prop where
  pos : ∀ p ∈ R, 1 ≤ p.2
  alt : ∀ (i : Nat) (p q : Nat × Nat), R[i]? = some p → R[i + 1]? = some q → p.1 ≠ q.1
  kind : ∀ p ∈ R, p.1 = 1 ∨ p.1 = 2 ∨ p.1 = 3
  ex : ex R = kinds a b
theorem rn_of (a b : List α) : Rn a b (comb (kinds a b)) := by
  obtain ⟨h1, h2⟩ := comb_all (kinds a b)
  refine ⟨h1.pos, h1.alt, fun p hp => ?_, h2⟩
  have h3 := h1.pos p hp
  have h4 : p.1 ∈ DiffM.ex (comb (kinds a b)) := by
    unfold DiffM.ex
    rw [List.mem_flatMap]
    exact ⟨p, hp, by rw [List.mem_replicate]; exact ⟨by omega, rfl⟩⟩
  rw [h2] at h4
  exact (kinds_scr a b).kind _ h4
theorem pow_len {R : List (Nat × Nat)} (h : ∀ p ∈ R, 1 ≤ p.2) : R.length ≤ (ex R).length := by
  induction R with
  | nil => simp
  | cons q l ih =>
    have h1 := h q (by simp)
    have h2 := ih (fun p hp => h p (by simp [hp]))
    rw [ex_cons, List.length_append, List.length_replicate, List.length_cons]
    omega
theorem ex_le (R : List (Nat × Nat)) : ∀ p ∈ R, p.2 ≤ (ex R).length := by
  induction R with
  | nil => simp
  | cons q l ih =>
    intro p hp
    rw [ex_cons, List.length_append, List.length_replicate]
    rcases List.mem_cons.1 hp with rfl | hp
    · omega
    · have := ih p hp; omega
/-- patched: it is the other list -/
theorem patched {a b : List α} {R : List (Nat × Nat)} (h : Rn a b R) (hab : a.length + b.length ≤ 200) : pfin a (tk (ex R) b) (prun a (tk (ex R) b) (steps R) (0, 0, [])) = (b, 0) := by
  have hs : Scr (ex R) (a.drop 0) b := by rw [h.ex, List.drop_zero]; exact kinds_scr a b
  have hlen : (ex R).length ≤ 200 := by
    rw [h.ex]
    have := (kinds_scr a b).counts
    omega
  have := patch_back (n := tk (ex R) b) R 0 0 [] b (fun p hp => ⟨h.pos p hp, by have := ex_le R p hp; omega, h.kind p hp⟩) (Nat.zero_le _) (Nat.zero_le _) hs (by rw [List.drop_zero])
  rw [this]
  unfold pfin
  dsimp only
  rw [if_neg (by omega), List.nil_append]
end
end Go.Proofs.Ytokfnajgjhkepaa.DiffM

/-
  Three-way merging on plain lists: what a script touches, drops and puts; regions; the merged lines. No program is named.
-/
namespace Go.Proofs.Ytokfnajgjhkepaa.DiffM

section
variable {α : Type}
/-- what a script has touched so far (gap i is ahead of line i), dropped, put; where it stands in the two lists -/
structure TS (α : Type) where
  gap : Nat → Bool
  gone : Nat → Bool
  puts : Nat → List α
  at_ : Nat
  to_ : Nat
def tnew : TS α := ⟨fun _ => false, fun _ => false, fun _ => [], 0, 0⟩
def tstep (b : List α) (s : TS α) (k : Nat) : TS α :=
  if k = 1 then { s with at_ := s.at_ + 1, to_ := s.to_ + 1 }
  else if k = 2 then { s with gap := fun i => if i = s.at_ ∨ i = s.at_ + 1 then true else s.gap i, gone := fun i => if i = s.at_ then true else s.gone i, at_ := s.at_ + 1 }
  else { s with gap := fun i => if i = s.at_ then true else s.gap i, puts := fun i => if i = s.at_ then s.puts i ++ (b[s.to_]?).toList else s.puts i, to_ := s.to_ + 1 }
def trun (b : List α) (ks : List Nat) : TS α := ks.foldl (tstep b) tnew
theorem trun_nil (b : List α) : trun b [] = tnew := rfl
theorem trun_snoc (b : List α) (ks : List Nat) (k : Nat) : trun b (ks ++ [k]) = tstep b (trun b ks) k := by simp [trun]
theorem trun_append (b : List α) (ks ls : List Nat) : trun b (ks ++ ls) = ls.foldl (tstep b) (trun b ks) := by simp [trun]
/-- one line of the base, as it is kept or not, behind what is put ahead of it -/
def cellv (base : List α) (gone : Nat → Bool) (puts : Nat → List α) (i : Nat) : List α := puts i ++ if gone i then [] else (base[i]?).toList
/-- l of these, from the place lo on -/
def seg (base : List α) (gone : Nat → Bool) (puts : Nat → List α) (lo : Nat) : Nat → List α
  | 0 => []
  | l + 1 => seg base gone puts lo l ++ cellv base gone puts (lo + l)
/-- the version of a region -/
def made (base : List α) (gone : Nat → Bool) (puts : Nat → List α) (lo hi : Nat) : List α := seg base gone puts lo (hi - lo) ++ puts hi
theorem seg_congr {base : List α} {g g' : Nat → Bool} {p p' : Nat → List α} {lo : Nat} : ∀ {l : Nat}, (∀ k, lo ≤ k → k < lo + l → g k = g' k ∧ p k = p' k) → seg base g p lo l = seg base g' p' lo l
  | 0, _ => rfl
  | l + 1, h => by
    unfold seg cellv
    rw [seg_congr (fun k h1 h2 => h k h1 (by omega)), (h (lo + l) (by omega) (by omega)).1, (h (lo + l) (by omega) (by omega)).2]
theorem seg_add (base : List α) (g : Nat → Bool) (p : Nat → List α) (lo : Nat) (l : Nat) : ∀ m, seg base g p lo (l + m) = seg base g p lo l ++ seg base g p (lo + l) m
  | 0 => by simp [seg]
  | m + 1 => by
    rw [← Nat.add_assoc]
    show seg base g p lo (l + m) ++ _ = seg base g p lo l ++ (seg base g p (lo + l) m ++ _)
    rw [seg_add base g p lo l m, List.append_assoc, Nat.add_assoc]
theorem seg_base {base : List α} {g : Nat → Bool} {p : Nat → List α} {lo : Nat} : ∀ {l : Nat}, lo + l ≤ base.length → (∀ k, lo ≤ k → k < lo + l → g k = false ∧ p k = []) → seg base g p lo l = (base.drop lo).take l
  | 0, _, _ => by simp [seg]
  | l + 1, hl, h => by
    unfold seg cellv
    rw [seg_base (by omega) (fun k h1 h2 => h k h1 (by omega)), (h (lo + l) (by omega) (by omega)).1, (h (lo + l) (by omega) (by omega)).2, List.take_add_one, List.getElem?_drop]
    simp
/-- what is known of a script's marks behind its first steps -/
structure TI (base b : List α) (ks : List Nat) (T : TS α) : Prop where
  at_ : T.at_ = ks.count 1 + ks.count 2
  to_ : T.to_ = used ks
  ver : seg base T.gone T.puts 0 T.at_ ++ T.puts T.at_ = b.take T.to_
  far : ∀ k, T.at_ < k → T.puts k = [] ∧ T.gap k = false
  fgone : ∀ k, T.at_ ≤ k → T.gone k = false
  pg : ∀ k, T.gap k = false → T.puts k = [] ∧ T.gone k = false
  gg : ∀ k, T.gone k = true → T.gap k = true ∧ T.gap (k + 1) = true
theorem Scr.split {r : List Nat} : ∀ {ks : List Nat} {a b : List α}, Scr (ks ++ r) a b → Scr r (a.drop (ks.count 1 + ks.count 2)) (b.drop (used ks)) ∧ ks.count 1 + ks.count 2 ≤ a.length ∧ used ks ≤ b.length
  | [], a, b, h => by simpa [used] using h
  | k :: ks, a, b, h => by
    rw [List.cons_append] at h
    generalize hz : k :: (ks ++ r) = z at h
    cases h with
    | nil => cases hz
    | keep x h1 =>
      cases hz
      obtain ⟨h2, h3, h4⟩ := Scr.split h1
      have e1 : (1 :: ks).count 1 + (1 :: ks).count 2 = (ks.count 1 + ks.count 2) + 1 := by rw [List.count_cons, List.count_cons]; simp; omega
      have e2 : used (1 :: ks) = used ks + 1 := by unfold used; rw [List.count_cons, List.count_cons]; simp; omega
      rw [e1, e2, List.drop_succ_cons, List.drop_succ_cons]
      exact ⟨h2, by simp; omega, by simp; omega⟩
    | drop x h1 =>
      cases hz
      obtain ⟨h2, h3, h4⟩ := Scr.split h1
      have e1 : (2 :: ks).count 1 + (2 :: ks).count 2 = (ks.count 1 + ks.count 2) + 1 := by rw [List.count_cons, List.count_cons]; simp; omega
      have e2 : used (2 :: ks) = used ks := by unfold used; rw [List.count_cons, List.count_cons]; simp
      rw [e1, e2, List.drop_succ_cons]
      exact ⟨h2, by simp; omega, h4⟩
    | take x h1 =>
      cases hz
      obtain ⟨h2, h3, h4⟩ := Scr.split h1
      have e1 : (3 :: ks).count 1 + (3 :: ks).count 2 = ks.count 1 + ks.count 2 := by rw [List.count_cons, List.count_cons]; simp
      have e2 : used (3 :: ks) = used ks + 1 := by unfold used; rw [List.count_cons, List.count_cons]; simp; omega
      rw [e1, e2, List.drop_succ_cons]
      exact ⟨h2, h3, by simp; omega⟩
theorem ti_step {base b : List α} {ks r : List Nat} {k : Nat} {T : TS α} (h : TI base b ks T) (hs : Scr (ks ++ k :: r) base b) : TI base b (ks ++ [k]) (tstep b T k) := by
  obtain ⟨h1, h2, h3⟩ := Scr.split hs
  rw [← h.at_, ← h.to_] at h1
  rw [← h.at_] at h2
  rw [← h.to_] at h3
  generalize hz : k :: r = z at h1
  generalize ha : base.drop T.at_ = xa at h1
  generalize hb : b.drop T.to_ = xb at h1
  have hb0 : b[T.to_]? = xb[0]? := by rw [← hb, List.getElem?_drop, Nat.add_zero]
  have ha0 : base[T.at_]? = xa[0]? := by rw [← ha, List.getElem?_drop, Nat.add_zero]
  cases h1 with
  | nil => cases hz
  | keep x _ =>
    cases hz
    have e : tstep b T 1 = { T with at_ := T.at_ + 1, to_ := T.to_ + 1 } := rfl
    rw [e]
    refine ⟨?_, ?_, ?_, fun j hj => ?_, fun j hj => h.fgone j (by dsimp only at hj; omega), h.pg, h.gg⟩
    · dsimp only; rw [h.at_, List.count_append, List.count_append]; simp; omega
    · dsimp only; rw [h.to_, used_append]; rfl
    · dsimp only
      have hp : T.puts (T.at_ + 1) = [] := (h.far _ (Nat.lt_succ_self _)).1
      rw [hp, List.append_nil, List.take_add_one, ← h.ver, hb0]
      show seg base T.gone T.puts 0 T.at_ ++ cellv base T.gone T.puts (0 + T.at_) = _
      unfold cellv
      rw [Nat.zero_add, h.fgone _ (Nat.le_refl _), ha0]
      simp
    · dsimp only at hj
      have := h.far j (by omega)
      exact this
  | drop x _ =>
    cases hz
    have e : tstep b T 2 = { T with gap := fun i => if i = T.at_ ∨ i = T.at_ + 1 then true else T.gap i, gone := fun i => if i = T.at_ then true else T.gone i, at_ := T.at_ + 1 } := rfl
    rw [e]
    refine ⟨?_, ?_, ?_, fun j hj => ?_, fun j hj => ?_, fun j hj => ?_, fun j hj => ?_⟩
    · dsimp only; rw [h.at_, List.count_append, List.count_append]; simp; omega
    · dsimp only; rw [h.to_, used_append]; rfl
    · dsimp only
      have hp : T.puts (T.at_ + 1) = [] := (h.far _ (Nat.lt_succ_self _)).1
      rw [hp, List.append_nil, ← h.ver]
      show seg base _ T.puts 0 T.at_ ++ cellv base _ T.puts (0 + T.at_) = _
      unfold cellv
      rw [Nat.zero_add, if_pos (by simp), List.append_nil]
      congr 1
      exact seg_congr (fun j _ h2 => ⟨by rw [if_neg (by omega)], rfl⟩)
    · dsimp only at hj ⊢
      have := h.far j (by omega)
      exact ⟨this.1, by rw [if_neg (by omega)]; exact this.2⟩
    · dsimp only at hj ⊢
      rw [if_neg (by omega)]; exact h.fgone j (by omega)
    · dsimp only at hj ⊢
      by_cases e1 : j = T.at_ ∨ j = T.at_ + 1
      · rw [if_pos e1] at hj; cases hj
      · rw [if_neg e1] at hj
        rw [if_neg (fun e2 => e1 (.inl e2))]
        exact h.pg j hj
    · dsimp only at hj ⊢
      by_cases e1 : j = T.at_
      · exact ⟨if_pos (.inl e1), if_pos (.inr (by omega))⟩
      · rw [if_neg e1] at hj
        have := h.gg j hj
        exact ⟨by rw [this.1]; simp, by rw [this.2]; simp⟩
  | take y _ =>
    cases hz
    have e : tstep b T 3 = { T with gap := fun i => if i = T.at_ then true else T.gap i, puts := fun i => if i = T.at_ then T.puts i ++ (b[T.to_]?).toList else T.puts i, to_ := T.to_ + 1 } := rfl
    rw [e]
    refine ⟨?_, ?_, ?_, fun j hj => ?_, fun j hj => h.fgone j hj, fun j hj => ?_, fun j hj => ?_⟩
    · dsimp only; rw [h.at_, List.count_append, List.count_append]; simp
    · dsimp only; rw [h.to_, used_append]; rfl
    · dsimp only
      rw [if_pos rfl, List.take_add_one, ← h.ver, ← List.append_assoc]
      congr 2
      exact seg_congr (fun j _ h2 => ⟨rfl, by rw [if_neg (by omega)]⟩)
    · dsimp only at hj ⊢
      have := h.far j hj
      rw [if_neg (by omega), if_neg (by omega)]
      exact this
    · dsimp only at hj ⊢
      by_cases e1 : j = T.at_
      · rw [if_pos e1] at hj; cases hj
      · rw [if_neg e1] at hj ⊢
        exact h.pg j hj
    · dsimp only at hj ⊢
      have := h.gg j hj
      exact ⟨by rw [this.1]; simp, by rw [this.2]; simp⟩
theorem ti_new (base b : List α) : TI base b [] tnew := ⟨rfl, rfl, by simp [tnew, seg], fun _ _ => ⟨rfl, rfl⟩, fun _ _ => rfl, fun _ _ => ⟨rfl, rfl⟩, fun _ h => by cases h⟩
theorem ti_more {base b : List α} {r : List Nat} : ∀ (ks done : List Nat), Scr (done ++ (ks ++ r)) base b → TI base b done (trun b done) → TI base b (done ++ ks) (trun b (done ++ ks))
  | [], done, _, h => by rw [List.append_nil]; exact h
  | k :: ks, done, hs, h => by
    have e : done ++ k :: ks = (done ++ [k]) ++ ks := by rw [List.append_assoc]; rfl
    rw [e]
    refine ti_more ks (done ++ [k]) (by rw [List.append_assoc]; exact hs) ?_
    rw [trun_snoc]
    exact ti_step h hs
theorem ti_run {base b : List α} {ks r : List Nat} (h : Scr (ks ++ r) base b) : TI base b ks (trun b ks) := by
  have := ti_more (r := r) ks [] (by rw [List.nil_append]; exact h) (ti_new base b)
  rwa [List.nil_append] at this
/-- the marks of the script between two lists -/
noncomputable def marks (base b : List α) : TS α := trun b (kinds base b)
theorem marks_ti (base b : List α) : TI base b (kinds base b) (marks base b) := ti_run (r := []) (by rw [List.append_nil]; exact kinds_scr base b)
theorem marks_at (base b : List α) : (marks base b).at_ = base.length ∧ (marks base b).to_ = b.length := by
  have h := marks_ti base b
  have c := (kinds_scr base b).counts
  exact ⟨h.at_.trans c.1, h.to_.trans c.2.1⟩
theorem marks_ver (base b : List α) : seg base (marks base b).gone (marks base b).puts 0 base.length ++ (marks base b).puts base.length = b := by
  have h := (marks_ti base b).ver
  rw [(marks_at base b).1, (marks_at base b).2, List.take_length] at h
  exact h
end
end Go.Proofs.Ytokfnajgjhkepaa.DiffM

/-
  Three-way merging on plain lists: regions, the merged lines; one side alone, both turned, changes that are apart. No program is named.
-/
namespace Go.Proofs.Ytokfnajgjhkepaa.DiffM

section
variable {α : Type}
/-- the first place from i on whose line is not dropped -/
def reach (g : Nat → Bool) (n i : Nat) : Nat := if i < n ∧ g i = true then reach g n (i + 1) else i
termination_by n - i
theorem reach_go {g : Nat → Bool} {n i : Nat} (h1 : i < n) (h2 : g i = true) : reach g n i = reach g n (i + 1) := by rw [reach, if_pos ⟨h1, h2⟩]
theorem reach_at {g : Nat → Bool} {n i : Nat} (h : ¬ (i < n ∧ g i = true)) : reach g n i = i := by rw [reach, if_neg h]
theorem reach_spec (g : Nat → Bool) (n : Nat) : ∀ m i, n - i ≤ m → i ≤ n → i ≤ reach g n i ∧ reach g n i ≤ n ∧ (∀ k, i ≤ k → k < reach g n i → g k = true) ∧ (reach g n i < n → g (reach g n i) = false)
  | m, i, hm, hi => by
    by_cases h : i < n ∧ g i = true
    · rw [reach_go h.1 h.2]
      match m, hm with
      | 0, hm => omega
      | m + 1, hm =>
        obtain ⟨h1, h2, h3, h4⟩ := reach_spec g n m (i + 1) (by omega) (by omega)
        refine ⟨by omega, h2, fun k hk1 hk2 => ?_, h4⟩
        by_cases e : k = i
        · rw [e]; exact h.2
        · exact h3 k (by omega) hk2
    · rw [reach_at h]
      refine ⟨Nat.le_refl _, hi, fun k h1 h2 => by omega, fun h1 => ?_⟩
      cases hg : g i with
      | true => exact absurd ⟨h1, hg⟩ h
      | false => rfl
theorem reach_le {g : Nat → Bool} {n i : Nat} (hi : i ≤ n) : i ≤ reach g n i ∧ reach g n i ≤ n := ⟨(reach_spec g n _ i (Nat.le_refl _) hi).1, (reach_spec g n _ i (Nat.le_refl _) hi).2.1⟩
/-- one of the gaps from lo to hi is touched -/
def uses (g : Nat → Bool) (lo hi : Nat) : Prop := ∃ k, lo ≤ k ∧ k ≤ hi ∧ g k = true
open Classical in
/-- what a region becomes, and how many conflicts that is -/
noncomputable def pick (m1 m2 m3 : α) (uA uB : Prop) (x y : List α) : List α × Nat := if ¬ uB ∨ x = y then (x, 0) else if ¬ uA then (y, 0) else (m1 :: x ++ m2 :: y ++ [m3], 1)
noncomputable def region (m1 m2 m3 : α) (base : List α) (A B : TS α) (lo hi : Nat) : List α × Nat := pick m1 m2 m3 (uses A.gap lo hi) (uses B.gap lo hi) (made base A.gone A.puts lo hi) (made base B.gone B.puts lo hi)
def both (A B : TS α) (k : Nat) : Bool := A.gone k || B.gone k
/-- the merged lines from the place i on, and the conflicts -/
noncomputable def mtail (m1 m2 m3 : α) (base : List α) (A B : TS α) (i : Nat) : List α × Nat :=
  if _h : i ≤ base.length then
    if A.gap i = false ∧ B.gap i = false then ((base[i]?).toList ++ (mtail m1 m2 m3 base A B (i + 1)).1, (mtail m1 m2 m3 base A B (i + 1)).2)
    else
      ((region m1 m2 m3 base A B i (reach (both A B) base.length i)).1 ++ (base[reach (both A B) base.length i]?).toList ++ (mtail m1 m2 m3 base A B (reach (both A B) base.length i + 1)).1,
        (region m1 m2 m3 base A B i (reach (both A B) base.length i)).2 + (mtail m1 m2 m3 base A B (reach (both A B) base.length i + 1)).2)
  else ([], 0)
termination_by base.length + 1 - i
decreasing_by
  all_goals first
    | omega
    | (have := (reach_le (g := both A B) ‹i ≤ base.length›).1; omega)
section
variable {m1 m2 m3 : α} {base : List α} {A B C : TS α}
theorem mtail_end {i : Nat} (h : ¬ i ≤ base.length) : mtail m1 m2 m3 base A B i = ([], 0) := by rw [mtail, dif_neg h]
theorem mtail_off {i : Nat} (h : i ≤ base.length) (hg : A.gap i = false ∧ B.gap i = false) : mtail m1 m2 m3 base A B i = ((base[i]?).toList ++ (mtail m1 m2 m3 base A B (i + 1)).1, (mtail m1 m2 m3 base A B (i + 1)).2) := by rw [mtail, dif_pos h, if_pos hg]
theorem mtail_on {i : Nat} (h : i ≤ base.length) (hg : ¬ (A.gap i = false ∧ B.gap i = false)) : mtail m1 m2 m3 base A B i = ((region m1 m2 m3 base A B i (reach (both A B) base.length i)).1 ++ (base[reach (both A B) base.length i]?).toList ++ (mtail m1 m2 m3 base A B (reach (both A B) base.length i + 1)).1, (region m1 m2 m3 base A B i (reach (both A B) base.length i)).2 + (mtail m1 m2 m3 base A B (reach (both A B) base.length i + 1)).2) := by rw [mtail, dif_pos h, if_neg hg]
theorem pick_turn {uA uB : Prop} (h : uA ∨ uB) (x y : List α) : (pick m1 m2 m3 uA uB x y).2 = (pick m1 m2 m3 uB uA y x).2 ∧ (pick m1 m2 m3 uA uB x y).1.length = (pick m1 m2 m3 uB uA y x).1.length ∧ ((pick m1 m2 m3 uA uB x y).2 = 0 → (pick m1 m2 m3 uA uB x y).1 = (pick m1 m2 m3 uB uA y x).1) := by
  unfold pick
  by_cases hxy : x = y
  · subst hxy
    rw [if_pos (.inr rfl), if_pos (.inr rfl)]
    exact ⟨rfl, rfl, fun _ => rfl⟩
  · have hyx : ¬ y = x := fun e => hxy e.symm
    by_cases hB : uB
    · by_cases hA : uA
      · rw [if_neg (by simp [hB, hxy]), if_neg (by simp [hA]), if_neg (by simp [hA, hyx]), if_neg (by simp [hB])]
        exact ⟨rfl, by simp; omega, fun h => by cases h⟩
      · rw [if_neg (by simp [hB, hxy]), if_pos hA, if_pos (.inl hA)]
        exact ⟨rfl, rfl, fun _ => rfl⟩
    · have hA : uA := h.resolve_right hB
      rw [if_pos (.inl hB), if_neg (by simp [hA, hyx]), if_pos hB]
      exact ⟨rfl, rfl, fun _ => rfl⟩
theorem both_comm (A B : TS α) : both A B = both B A := by
  funext k; unfold both; exact Bool.or_comm _ _
theorem uses_here {g : Nat → Bool} {i hi : Nat} (h : g i = true) (hh : i ≤ hi) : uses g i hi := ⟨i, Nat.le_refl _, hh, h⟩
theorem gap_or {i : Nat} (hg : ¬ (A.gap i = false ∧ B.gap i = false)) : A.gap i = true ∨ B.gap i = true := by
  cases hA : A.gap i with
  | true => exact .inl rfl
  | false =>
    cases hB : B.gap i with
    | true => exact .inr rfl
    | false => exact absurd ⟨hA, hB⟩ hg
theorem mtail_turn : ∀ m i, base.length + 1 - i ≤ m → (mtail m1 m2 m3 base A B i).2 = (mtail m1 m2 m3 base B A i).2 ∧ (mtail m1 m2 m3 base A B i).1.length = (mtail m1 m2 m3 base B A i).1.length ∧ ((mtail m1 m2 m3 base A B i).2 = 0 → (mtail m1 m2 m3 base A B i).1 = (mtail m1 m2 m3 base B A i).1)
  | m, i, hm => by
    by_cases h : i ≤ base.length
    · match m, hm with
      | 0, hm => omega
      | m + 1, hm =>
        by_cases hg : A.gap i = false ∧ B.gap i = false
        · obtain ⟨h1, h2, h3⟩ := mtail_turn m (i + 1) (by omega)
          rw [mtail_off h hg, mtail_off h hg.symm]
          exact ⟨h1, by simp only [List.length_append]; rw [h2], fun e => by dsimp only at e ⊢; rw [h3 e]⟩
        · have hr := reach_le (g := both A B) h
          obtain ⟨h1, h2, h3⟩ := mtail_turn m (reach (both A B) base.length i + 1) (by omega)
          have hp := pick_turn (m1 := m1) (m2 := m2) (m3 := m3) (uA := uses A.gap i (reach (both A B) base.length i)) (uB := uses B.gap i (reach (both A B) base.length i)) ((gap_or hg).imp (fun h => uses_here h hr.1) (fun h => uses_here h hr.1)) (made base A.gone A.puts i (reach (both A B) base.length i)) (made base B.gone B.puts i (reach (both A B) base.length i))
          rw [mtail_on h hg, mtail_on h (fun e => hg e.symm), both_comm B A]
          unfold region
          refine ⟨by dsimp only; rw [hp.1, h1], by simp only [List.length_append]; rw [hp.2.1, h2], fun e => ?_⟩
          dsimp only at e ⊢
          rw [hp.2.2 (by omega), h3 (by omega)]
    · rw [mtail_end h, mtail_end h]
      exact ⟨rfl, rfl, fun _ => rfl⟩
theorem seg_first (g : Nat → Bool) (p : Nat → List α) (i m : Nat) : seg base g p i (m + 1) = cellv base g p i ++ seg base g p (i + 1) m := by
  rw [Nat.add_comm m 1, seg_add]
  simp [seg]
/-- where each region becomes the version of C, the whole does -/
theorem mtail_is (hA : A.gone base.length = false) (hB : B.gone base.length = false)
    (h1 : ∀ k, k ≤ base.length → A.gap k = false → B.gap k = false → C.puts k = [] ∧ C.gone k = false)
    (h2 : ∀ k, k ≤ base.length → A.gone k = false → B.gone k = false → C.gone k = false)
    (h3 : ∀ i hi, i ≤ hi → hi ≤ base.length → (A.gap i = true ∨ B.gap i = true) → (∀ k, i ≤ k → k < hi → both A B k = true) → region m1 m2 m3 base A B i hi = (made base C.gone C.puts i hi, 0)) :
    ∀ m i, base.length + 1 - i ≤ m → i ≤ base.length + 1 → mtail m1 m2 m3 base A B i = (seg base C.gone C.puts i (base.length + 1 - i), 0)
  | m, i, hm, hi1 => by
    by_cases h : i ≤ base.length
    · match m, hm with
      | 0, hm => omega
      | m + 1, hm =>
        by_cases hg : A.gap i = false ∧ B.gap i = false
        · rw [mtail_off h hg, mtail_is hA hB h1 h2 h3 m (i + 1) (by omega) (by omega), show base.length + 1 - i = (base.length + 1 - (i + 1)) + 1 by omega, seg_first]
          have := h1 i h hg.1 hg.2
          unfold cellv
          rw [this.1, this.2]
          simp
        · obtain ⟨r1, r2, r3, r4⟩ := reach_spec (both A B) base.length _ i (Nat.le_refl _) h
          rw [mtail_on h hg]
          generalize reach (both A B) base.length i = hi at *
          rw [h3 i hi r1 r2 (gap_or hg) r3, mtail_is hA hB h1 h2 h3 m (hi + 1) (by omega) (by omega)]
          have hgh : C.gone hi = false := by
            by_cases e : hi < base.length
            · have hb := r4 e
              unfold both at hb
              rw [Bool.or_eq_false_iff] at hb
              exact h2 hi r2 hb.1 hb.2
            · have e2 : hi = base.length := by omega
              rw [e2]; exact h2 _ (Nat.le_refl _) hA hB
          have e3 : base.length + 1 - i = (hi - i) + ((base.length + 1 - (hi + 1)) + 1) := by omega
          rw [e3, seg_add, show i + (hi - i) = hi by omega, seg_first]
          unfold made cellv
          rw [hgh]
          simp
    · have e : base.length + 1 - i = 0 := by omega
      rw [mtail_end h, e]; rfl
end
end
end Go.Proofs.Ytokfnajgjhkepaa.DiffM

/-
  Three-way merging on plain lists: one side alone, the same on both, changes on either side of a line that is nowhere else. No program is named.
-/
namespace Go.Proofs.Ytokfnajgjhkepaa.DiffM

section
variable {α : Type} {m1 m2 m3 : α}
theorem foldl_keeps (b : List α) : ∀ (n : Nat) (T : TS α), ((List.replicate n 1).foldl (tstep b) T).gap = T.gap ∧ ((List.replicate n 1).foldl (tstep b) T).gone = T.gone ∧ ((List.replicate n 1).foldl (tstep b) T).puts = T.puts
  | 0, T => ⟨rfl, rfl, rfl⟩
  | n + 1, T => by
    rw [List.replicate_succ, List.foldl_cons]
    have := foldl_keeps b n (tstep b T 1)
    exact this
theorem kinds_self : ∀ a : List α, kinds a a = List.replicate a.length 1
  | [] => by rw [kinds_nil]; rfl
  | x :: a => by rw [kinds_same, kinds_self a]; rfl
theorem marks_self (a : List α) : (marks a a).gap = (fun _ => false) ∧ (marks a a).gone = (fun _ => false) ∧ (marks a a).puts = (fun _ => []) := by
  unfold marks trun
  rw [kinds_self]
  have := foldl_keeps a a.length (tnew : TS α)
  exact this
/-- all the version of a script is the other list -/
theorem marks_all (base b : List α) : seg base (marks base b).gone (marks base b).puts 0 (base.length + 1) = b := by
  show seg base _ _ 0 base.length ++ cellv base _ _ (0 + base.length) = b
  unfold cellv
  have e : base[base.length]? = none := List.getElem?_eq_none (Nat.le_refl _)
  rw [Nat.zero_add, e]
  have := marks_ver base b
  simpa using this
theorem marks_end (base b : List α) : (marks base b).gone base.length = false := (marks_ti base b).fgone _ (by rw [(marks_at base b).1]; exact Nat.le_refl _)
/-- the merged lines, and the conflicts -/
noncomputable def mrg (m1 m2 m3 : α) (base a b : List α) : List α × Nat := mtail m1 m2 m3 base (marks base a) (marks base b) 0
theorem not_uses {g : Nat → Bool} {lo hi : Nat} (h : ∀ k, lo ≤ k → k ≤ hi → g k = false) : ¬ uses g lo hi := by
  rintro ⟨k, h1, h2, h3⟩
  rw [h k h1 h2] at h3
  cases h3
theorem pick_left {uA uB : Prop} (h : ¬ uB) (x y : List α) : pick m1 m2 m3 uA uB x y = (x, 0) := by unfold pick; rw [if_pos (.inl h)]
theorem pick_right {uA uB : Prop} (h : ¬ uA) (hB : uB) (x y : List α) : pick m1 m2 m3 uA uB x y = (y, 0) := by
  unfold pick
  by_cases e : x = y
  · rw [if_pos (.inr e), e]
  · rw [if_neg (by simp [hB, e]), if_pos h]
theorem pick_same {uA uB : Prop} (x : List α) : pick m1 m2 m3 uA uB x x = (x, 0) := by unfold pick; rw [if_pos (.inr rfl)]
theorem mrg_left (base a : List α) : mrg m1 m2 m3 base a base = (a, 0) := by
  obtain ⟨s1, s2, s3⟩ := marks_self base
  have := mtail_is (m1 := m1) (m2 := m2) (m3 := m3) (base := base) (A := marks base a) (B := marks base base) (C := marks base a) (marks_end base a) (marks_end base base)
    (fun k _ h _ => (marks_ti base a).pg k h) (fun k _ h _ => h)
    (fun i hi _ _ _ _ => pick_left (not_uses (fun k _ _ => by rw [s1])) _ _) _ 0 (Nat.le_refl _) (Nat.zero_le _)
  unfold mrg
  rw [this, Nat.sub_zero, marks_all]
theorem mrg_right (base a : List α) : mrg m1 m2 m3 base base a = (a, 0) := by
  obtain ⟨s1, s2, s3⟩ := marks_self base
  have := mtail_is (m1 := m1) (m2 := m2) (m3 := m3) (base := base) (A := marks base base) (B := marks base a) (C := marks base a) (marks_end base base) (marks_end base a)
    (fun k _ _ h => (marks_ti base a).pg k h) (fun k _ _ h => h)
    (fun i hi h1 _ h3 _ => pick_right (not_uses (fun k _ _ => by rw [s1])) (uses_here (h3.resolve_left (by rw [s1]; simp)) h1) _ _) _ 0 (Nat.le_refl _) (Nat.zero_le _)
  unfold mrg
  rw [this, Nat.sub_zero, marks_all]
theorem mrg_same (base a : List α) : mrg m1 m2 m3 base a a = (a, 0) := by
  have := mtail_is (m1 := m1) (m2 := m2) (m3 := m3) (base := base) (A := marks base a) (B := marks base a) (C := marks base a) (marks_end base a) (marks_end base a)
    (fun k _ h _ => (marks_ti base a).pg k h) (fun k _ h _ => h)
    (fun i hi _ _ _ _ => pick_same _) _ 0 (Nat.le_refl _) (Nat.zero_le _)
  unfold mrg
  rw [this, Nat.sub_zero, marks_all]
theorem mrg_turn (base a b : List α) : (mrg m1 m2 m3 base a b).2 = (mrg m1 m2 m3 base b a).2 ∧ (mrg m1 m2 m3 base a b).1.length = (mrg m1 m2 m3 base b a).1.length ∧ ((mrg m1 m2 m3 base a b).2 = 0 → (mrg m1 m2 m3 base a b).1 = (mrg m1 m2 m3 base b a).1) := mtail_turn _ 0 (Nat.le_refl _)
/-- what is behind the same tail, with a line that is nowhere else at its head: kept -/
theorem kinds_far (s : α) (tail : List α) : ∀ m (head u : List α), head.length + u.length ≤ m → s ∉ head → s ∉ u → ∃ ks, kinds (head ++ s :: tail) (u ++ s :: tail) = ks ++ List.replicate (tail.length + 1) 1 ∧ Scr ks head u
  | m, [], [], _, _, _ => ⟨[], by rw [List.nil_append, kinds_self]; rfl, .nil⟩
  | m + 1, [], y :: u, hm, h1, h2 => by
    have hy : s ≠ y := fun e => h2 (by rw [e]; simp)
    obtain ⟨ks, e, hs⟩ := kinds_far s tail m [] u (by simp at hm ⊢; omega) h1 (fun h => h2 (by simp [h]))
    have hl : lcs tail (y :: (u ++ s :: tail)) ≠ lcs (s :: tail) (y :: (u ++ s :: tail)) := by
      have k1 := lcs_left tail (y :: (u ++ s :: tail))
      have k2 : (s :: tail).length ≤ lcs (s :: tail) (y :: (u ++ s :: tail)) := lcs_le (List.Sublist.refl _) ((List.sublist_append_right u (s :: tail)).cons y)
      simp at k2
      omega
    refine ⟨3 :: ks, ?_, .take y hs⟩
    rw [List.nil_append, List.cons_append, kinds_more hy hl]
    rw [List.nil_append] at e
    rw [e]; rfl
  | m + 1, x :: head, [], hm, h1, h2 => by
    have hx : x ≠ s := fun e => h1 (by rw [e]; simp)
    obtain ⟨ks, e, hs⟩ := kinds_far s tail m head [] (by simp at hm ⊢; omega) (fun h => h1 (by simp [h])) h2
    have hl : lcs (head ++ s :: tail) (s :: tail) = lcs (x :: (head ++ s :: tail)) (s :: tail) := by
      have k1 := lcs_right (x :: (head ++ s :: tail)) (s :: tail)
      have k2 : (s :: tail).length ≤ lcs (head ++ s :: tail) (s :: tail) := lcs_le (List.sublist_append_right head (s :: tail)) (List.Sublist.refl _)
      have k3 : lcs (head ++ s :: tail) (s :: tail) ≤ lcs (x :: (head ++ s :: tail)) (s :: tail) := lcs_mono ((List.Sublist.refl _).cons x) (List.Sublist.refl _)
      omega
    refine ⟨2 :: ks, ?_, .drop x hs⟩
    rw [List.nil_append, List.cons_append, kinds_less hx hl]
    rw [List.nil_append] at e
    rw [e]; rfl
  | m + 1, x :: head, y :: u, hm, h1, h2 => by
    have h1' : s ∉ head := fun h => h1 (by simp [h])
    have h2' : s ∉ u := fun h => h2 (by simp [h])
    by_cases hxy : x = y
    · subst hxy
      obtain ⟨ks, e, hs⟩ := kinds_far s tail m head u (by simp at hm ⊢; omega) h1' h2'
      refine ⟨1 :: ks, ?_, .keep x hs⟩
      rw [List.cons_append, List.cons_append, kinds_same, e]; rfl
    · by_cases hl : lcs (head ++ s :: tail) (y :: (u ++ s :: tail)) = lcs (x :: (head ++ s :: tail)) (y :: (u ++ s :: tail))
      · obtain ⟨ks, e, hs⟩ := kinds_far s tail m head (y :: u) (by simp at hm ⊢; omega) h1' h2
        refine ⟨2 :: ks, ?_, .drop x hs⟩
        rw [List.cons_append] at e
        rw [List.cons_append, List.cons_append, kinds_less hxy hl, e]; rfl
      · obtain ⟨ks, e, hs⟩ := kinds_far s tail m (x :: head) u (by simp at hm ⊢; omega) h1 h2'
        refine ⟨3 :: ks, ?_, .take y hs⟩
        rw [List.cons_append] at e
        rw [List.cons_append, List.cons_append, kinds_more hxy hl, e]; rfl
  | 0, [], _ :: _, hm, _, _ => by simp at hm
  | 0, _ :: _, _, hm, _, _ => by simp at hm
/-- the same ahead of both: kept -/
theorem kinds_front (a b : List α) : ∀ p : List α, kinds (p ++ a) (p ++ b) = List.replicate p.length 1 ++ kinds a b
  | [] => rfl
  | x :: p => by rw [List.cons_append, List.cons_append, kinds_same, kinds_front a b p]; rfl
end
end Go.Proofs.Ytokfnajgjhkepaa.DiffM

/-
  Hunks of a script on plain lists: what the marks of a script say, as ranges. No program is named.
-/
namespace Go.Proofs.Ytokfnajgjhkepaa.DiffM

section
variable {α : Type}
/-- a range of lines, and what replaces it -/
structure Hk (α : Type) where
  b : Nat
  e : Nat
  l : List α
/-- it is a hunk of these marks -/
structure IsH (base : List α) (T : TS α) (h : Hk α) : Prop where
  le : h.b ≤ h.e
  at_ : h.e ≤ T.at_
  gap : ∀ k, h.b ≤ k → k ≤ h.e → T.gap k = true
  gone : ∀ k, h.b ≤ k → k < h.e → T.gone k = true
  off : T.gone h.e = false
  l : h.l = made base T.gone T.puts h.b h.e
/-- these are the hunks of the marks -/
structure HI (base : List α) (T : TS α) (hs : List (Hk α)) : Prop where
  ord : hs.Pairwise (fun x y => x.e < y.b)
  is : ∀ h ∈ hs, IsH base T h
  all : ∀ k, T.gap k = true → ∃ h ∈ hs, h.b ≤ k ∧ k ≤ h.e
/-- these are, and one more that is still growing -/
structure HJ (base : List α) (T : TS α) (hs : List (Hk α)) (b : Nat) (l : List α) : Prop where
  ord : hs.Pairwise (fun x y => x.e < y.b)
  is : ∀ h ∈ hs, IsH base T h ∧ h.e < b
  le : b ≤ T.at_
  gap : ∀ k, b ≤ k → k < T.at_ → T.gap k = true ∧ T.gone k = true
  l : l = made base T.gone T.puts b T.at_
  all : ∀ k, T.gap k = true → (∃ h ∈ hs, h.b ≤ k ∧ k ≤ h.e) ∨ (b ≤ k ∧ k ≤ T.at_)
section
variable {base m : List α} {T T' : TS α} {hs : List (Hk α)} {h : Hk α} {b : Nat} {l : List α} {ks r : List Nat}
theorem made_congr {g g' : Nat → Bool} {p p' : Nat → List α} {lo hi : Nat} (hh : lo ≤ hi) (e : ∀ k, lo ≤ k → k ≤ hi → g k = g' k ∧ p k = p' k) : made base g p lo hi = made base g' p' lo hi := by
  unfold made
  rw [seg_congr (fun k h1 h2 => e k h1 (by omega)), (e hi hh (Nat.le_refl _)).2]
theorem IsH.mono (h1 : IsH base T h) (e : ∀ k, k ≤ h.e → T'.gap k = T.gap k ∧ T'.gone k = T.gone k ∧ T'.puts k = T.puts k) (ha : T.at_ ≤ T'.at_) : IsH base T' h :=
  ⟨h1.le, Nat.le_trans h1.at_ ha, fun k k1 k2 => by rw [(e k k2).1]; exact h1.gap k k1 k2, fun k k1 k2 => by rw [(e k (by omega)).2.1]; exact h1.gone k k1 k2, by rw [(e _ (Nat.le_refl _)).2.1]; exact h1.off,
    by rw [h1.l]; exact (made_congr h1.le (fun k _ k2 => ⟨(e k k2).2.1, (e k k2).2.2⟩)).symm⟩
theorem hi_new : HI base (tnew : TS α) [] := ⟨.nil, fun _ h => by simp at h, fun k h => by cases h⟩
theorem tstep_1 : tstep m T 1 = { T with at_ := T.at_ + 1, to_ := T.to_ + 1 } := rfl
theorem tstep_2 : tstep m T 2 = { T with gap := fun i => if i = T.at_ ∨ i = T.at_ + 1 then true else T.gap i, gone := fun i => if i = T.at_ then true else T.gone i, at_ := T.at_ + 1 } := rfl
theorem tstep_3 : tstep m T 3 = { T with gap := fun i => if i = T.at_ then true else T.gap i, puts := fun i => if i = T.at_ then T.puts i ++ (m[T.to_]?).toList else T.puts i, to_ := T.to_ + 1 } := rfl
theorem HI.keep (h1 : HI base T hs) : HI base (tstep m T 1) hs := ⟨h1.ord, fun h hh => (h1.is h hh).mono (fun _ _ => ⟨rfl, rfl, rfl⟩) (by rw [tstep_1]; exact Nat.le_succ _), h1.all⟩
theorem HI.openLast (h1 : HI base T (hs ++ [h])) (he : h.e = T.at_) : HJ base T hs h.b h.l := by
  have ho := List.pairwise_append.1 h1.ord
  have hh := h1.is h (by simp)
  refine ⟨ho.1, fun x hx => ⟨h1.is x (by simp [hx]), ho.2.2 x hx h (by simp)⟩, by rw [← he]; exact hh.le, fun k k1 k2 => ⟨hh.gap k k1 (by omega), hh.gone k k1 (by omega)⟩, by rw [hh.l, he], fun k hk => ?_⟩
  obtain ⟨x, hx, k1, k2⟩ := h1.all k hk
  rcases List.mem_append.1 hx with hx | hx
  · exact .inl ⟨x, hx, k1, k2⟩
  · rw [List.mem_singleton] at hx; subst hx; exact .inr ⟨k1, by omega⟩
theorem HI.openNew (h1 : HI base T hs) (t : TI base m ks T) (he : ∀ h ∈ hs, h.e < T.at_) : HJ base T hs T.at_ [] := by
  refine ⟨h1.ord, fun x hx => ⟨h1.is x hx, he x hx⟩, Nat.le_refl _, fun k k1 k2 => by omega, ?_, fun k hk => .inl (h1.all k hk)⟩
  have hg : T.gap T.at_ = false := by
    cases hg : T.gap T.at_ with
    | false => rfl
    | true =>
      obtain ⟨x, hx, k1, k2⟩ := h1.all _ hg
      have := he x hx
      omega
  unfold made
  rw [Nat.sub_self, (t.pg _ hg).1]; rfl
theorem HJ.drop (h1 : HJ base T hs b l) (t : TI base m ks T) : HJ base (tstep m T 2) hs b l ∧ (tstep m T 2).gap (tstep m T 2).at_ = true := by
  rw [tstep_2]
  refine ⟨⟨h1.ord, fun x hx => ⟨(h1.is x hx).1.mono (fun k hk => ?_) (Nat.le_succ _), (h1.is x hx).2⟩, Nat.le_succ_of_le h1.le, fun k k1 k2 => ?_, ?_, fun k hk => ?_⟩, by simp⟩
  · have := (h1.is x hx).2
    have := h1.le
    dsimp only
    rw [if_neg (by omega), if_neg (by omega)]
    exact ⟨rfl, rfl, rfl⟩
  · dsimp only at k2 ⊢
    by_cases e : k = T.at_
    · rw [if_pos (.inl e), if_pos e]; exact ⟨rfl, rfl⟩
    · have := h1.gap k k1 (by omega)
      rw [if_neg (by omega), if_neg e]; exact this
  · dsimp only
    have hle := h1.le
    rw [h1.l]
    unfold made
    rw [(t.far (T.at_ + 1) (Nat.lt_succ_self _)).1, List.append_nil, show T.at_ + 1 - b = (T.at_ - b) + 1 by omega]
    show _ = seg base _ T.puts b (T.at_ - b) ++ cellv base _ T.puts (b + (T.at_ - b))
    unfold cellv
    rw [show b + (T.at_ - b) = T.at_ by omega, if_pos (if_pos rfl), List.append_nil]
    congr 1
    exact seg_congr (fun k _ h2 => ⟨by rw [if_neg (by omega)], rfl⟩)
  · dsimp only at hk ⊢
    by_cases e : k = T.at_ ∨ k = T.at_ + 1
    · have := h1.le
      exact .inr ⟨by omega, by omega⟩
    · rw [if_neg e] at hk
      exact (h1.all k hk).imp id (fun h => ⟨h.1, by omega⟩)
theorem HJ.take (h1 : HJ base T hs b l) : HJ base (tstep m T 3) hs b (l ++ (m[T.to_]?).toList) ∧ (tstep m T 3).gap (tstep m T 3).at_ = true := by
  rw [tstep_3]
  refine ⟨⟨h1.ord, fun x hx => ⟨(h1.is x hx).1.mono (fun k hk => ?_) (Nat.le_refl _), (h1.is x hx).2⟩, h1.le, fun k k1 k2 => ?_, ?_, fun k hk => ?_⟩, by simp⟩
  · have := (h1.is x hx).2
    have := h1.le
    dsimp only
    rw [if_neg (by omega), if_neg (by omega)]
    exact ⟨rfl, rfl, rfl⟩
  · dsimp only at k2 ⊢
    rw [if_neg (by omega)]; exact h1.gap k k1 k2
  · dsimp only
    rw [h1.l]
    unfold made
    dsimp only
    rw [if_pos rfl, List.append_assoc]
    congr 1
    exact seg_congr (fun k _ h2 => ⟨rfl, by have := h1.le; rw [if_neg (by omega)]⟩)
  · dsimp only at hk ⊢
    by_cases e : k = T.at_
    · exact .inr ⟨by have := h1.le; omega, by omega⟩
    · rw [if_neg e] at hk
      exact h1.all k hk
theorem HJ.close (h1 : HJ base T hs b l) (t : TI base m ks T) (hg : T.gap T.at_ = true) : HI base T (hs ++ [⟨b, T.at_, l⟩]) := by
  refine ⟨List.pairwise_append.2 ⟨h1.ord, by simp, fun x hx y hy => ?_⟩, fun x hx => ?_, fun k hk => ?_⟩
  · rw [List.mem_singleton] at hy; subst hy; exact (h1.is x hx).2
  · rcases List.mem_append.1 hx with hx | hx
    · exact (h1.is x hx).1
    · rw [List.mem_singleton] at hx; subst hx
      refine ⟨h1.le, Nat.le_refl _, fun k k1 k2 => ?_, fun k k1 k2 => (h1.gap k k1 k2).2, t.fgone _ (Nat.le_refl _), h1.l⟩
      dsimp only at k1 k2
      by_cases e : k = T.at_
      · rw [e]; exact hg
      · exact (h1.gap k k1 (by omega)).1
  · rcases h1.all k hk with ⟨x, hx, k1, k2⟩ | ⟨k1, k2⟩
    · exact ⟨x, by simp [hx], k1, k2⟩
    · exact ⟨⟨b, T.at_, l⟩, by simp, k1, k2⟩
/-- so many lines are kept -/
theorem HI.keeps : ∀ (n : Nat) (ks : List Nat), HI base (trun m ks) hs → HI base (trun m (ks ++ List.replicate n 1)) hs
  | 0, ks, h => by simpa using h
  | n + 1, ks, h => by
    have e : ks ++ List.replicate (n + 1) 1 = (ks ++ [1]) ++ List.replicate n 1 := by rw [List.replicate_succ, List.append_assoc]; rfl
    rw [e]
    exact HI.keeps n _ (by rw [trun_snoc]; exact h.keep)
/-- so many lines are dropped -/
theorem HJ.drops : ∀ (n : Nat) (ks : List Nat), Scr (ks ++ (List.replicate (n + 1) 2 ++ r)) base m → HJ base (trun m ks) hs b l → HJ base (trun m (ks ++ List.replicate (n + 1) 2)) hs b l ∧ (trun m (ks ++ List.replicate (n + 1) 2)).gap (trun m (ks ++ List.replicate (n + 1) 2)).at_ = true
  | 0, ks, hs', h => by
    have := h.drop (ti_run (r := _) hs')
    rw [show List.replicate (0 + 1) 2 = [2] from rfl, trun_snoc]
    exact this
  | n + 1, ks, hs', h => by
    have e : ks ++ List.replicate (n + 1 + 1) 2 = (ks ++ [2]) ++ List.replicate (n + 1) 2 := by rw [List.replicate_succ, List.append_assoc]; rfl
    have := h.drop (ti_run (r := _) hs')
    rw [e]
    refine HJ.drops n (ks ++ [2]) ?_ (by rw [trun_snoc]; exact this.1)
    rw [← List.append_assoc, ← e, List.append_assoc]; exact hs'
/-- so many lines are taken -/
theorem HJ.takes : ∀ (n : Nat) (ks : List Nat) (l : List α), Scr (ks ++ (List.replicate (n + 1) 3 ++ r)) base m → HJ base (trun m ks) hs b l → HJ base (trun m (ks ++ List.replicate (n + 1) 3)) hs b (l ++ (m.drop (used ks)).take (n + 1)) ∧ (trun m (ks ++ List.replicate (n + 1) 3)).gap (trun m (ks ++ List.replicate (n + 1) 3)).at_ = true
  | 0, ks, l, hs', h => by
    have t := ti_run (r := _) hs'
    have := h.take (m := m)
    rw [show List.replicate (0 + 1) 3 = [3] from rfl, trun_snoc, List.take_add_one, List.take_zero, List.nil_append, List.getElem?_drop, Nat.add_zero, ← t.to_]
    exact this
  | n + 1, ks, l, hs', h => by
    have e : ks ++ List.replicate (n + 1 + 1) 3 = (ks ++ [3]) ++ List.replicate (n + 1) 3 := by rw [List.replicate_succ, List.append_assoc]; rfl
    have t := ti_run (r := _) hs'
    have h0 := h.take (m := m)
    rw [e]
    have h2 := HJ.takes n (ks ++ [3]) (l ++ (m[(trun m ks).to_]?).toList) (by rw [← List.append_assoc, ← e, List.append_assoc]; exact hs') (by rw [trun_snoc]; exact h0.1)
    have e2 : l ++ (m[(trun m ks).to_]?).toList ++ (m.drop (used (ks ++ [3]))).take (n + 1) = l ++ (m.drop (used ks)).take (n + 1 + 1) := by
      have e3 : used (ks ++ [3]) = used ks + 1 := by rw [used_append]; rfl
      rw [e3, t.to_, List.append_assoc]
      congr 1
      rw [← List.drop_drop]
      generalize hz : m.drop (used ks) = z
      have e4 : m[used ks]? = z[0]? := by rw [← hz, List.getElem?_drop, Nat.add_zero]
      rw [e4]
      cases z with
      | nil => simp
      | cons x z => simp
    rw [e2] at h2
    exact h2
end
end
end Go.Proofs.Ytokfnajgjhkepaa.DiffM

/-
  Regions and replacement of ranges on plain lists: hunks taken off two sides, region by region, make the merged lines. No program is named.
-/
namespace Go.Proofs.Ytokfnajgjhkepaa.DiffM

section
variable {α : Type}
/-- the hunks from the place c on -/
structure Rest (base : List α) (T : TS α) (c : Nat) (r : List (Hk α)) : Prop where
  ord : r.Pairwise (fun x y => x.e < y.b)
  is : ∀ h ∈ r, IsH base T h
  all : ∀ k, c ≤ k → T.gap k = true → ∃ h ∈ r, h.b ≤ k ∧ k ≤ h.e
  lo : ∀ h ∈ r, c ≤ h.b
/-- what stands there, and the place behind it, with the hunks put in -/
def emit (base : List α) (s : List α × Nat) : List (Hk α) → List α × Nat
  | [] => s
  | h :: r => emit base (s.1 ++ (base.drop s.2).take (h.b - s.2) ++ h.l, h.e) r
/-- a range with its hunks put in -/
def repl (base : List α) (p q : Nat) (r : List (Hk α)) : List α := (emit base ([], p) r).1 ++ (base.drop (emit base ([], p) r).2).take (q - (emit base ([], p) r).2)
section
variable {base m1 m2 : List α} {T A B : TS α} {r hs : List (Hk α)} {h : Hk α} {c i e : Nat} {ks : List Nat}
theorem emit_snoc : ∀ (r : List (Hk α)) (s : List α × Nat), emit base s (r ++ [h]) = ((emit base s r).1 ++ (base.drop (emit base s r).2).take (h.b - (emit base s r).2) ++ h.l, h.e)
  | [], _ => rfl
  | _ :: r, _ => emit_snoc r _
theorem emit_pre : ∀ (r : List (Hk α)) (s : List α × Nat), (emit base s r).1 = s.1 ++ (emit base ([], s.2) r).1 ∧ (emit base s r).2 = (emit base ([], s.2) r).2
  | [], s => by simp [emit]
  | x :: r, s => by
    obtain ⟨h1, h2⟩ := emit_pre r (s.1 ++ (base.drop s.2).take (x.b - s.2) ++ x.l, x.e)
    obtain ⟨h3, h4⟩ := emit_pre r ([] ++ (base.drop s.2).take (x.b - s.2) ++ x.l, x.e)
    refine ⟨?_, ?_⟩
    · show (emit base _ r).1 = s.1 ++ (emit base _ r).1
      rw [h1, h3]; simp
    · show (emit base _ r).2 = (emit base _ r).2
      rw [h2, h4]
theorem emit_app : ∀ (r q : List (Hk α)) (s : List α × Nat), emit base s (r ++ q) = emit base (emit base s r) q
  | [], _, _ => rfl
  | _ :: r, q, _ => emit_app r q _
/-- what is written so far is no longer than all of it -/
theorem emit_le (p : Nat) (r q : List (Hk α)) : (emit base ([], p) r).1.length ≤ (emit base ([], p) (r ++ q)).1.length := by
  rw [emit_app, (emit_pre q (emit base ([], p) r)).1, List.length_append]; omega
theorem HI.rest (h : HI base T hs) : Rest base T 0 hs := ⟨h.ord, h.is, fun k _ hk => h.all k hk, fun _ _ => Nat.zero_le _⟩
theorem Rest.tail (h1 : Rest base T c (h :: r)) : Rest base T (h.e + 1) r := by
  have ho := List.pairwise_cons.1 h1.ord
  refine ⟨ho.2, fun x hx => h1.is x (by simp [hx]), fun k hk hg => ?_, fun x hx => ho.1 x hx⟩
  obtain ⟨x, hx, k1, k2⟩ := h1.all k (by have := h1.lo h (by simp); have := (h1.is h (by simp)).le; omega) hg
  rcases List.mem_cons.1 hx with rfl | hx
  · omega
  · exact ⟨x, hx, k1, k2⟩
theorem Rest.mono (h1 : Rest base T c r) (hc : c ≤ i) (hb : ∀ h ∈ r, i ≤ h.b) : Rest base T i r := ⟨h1.ord, h1.is, fun k hk hg => h1.all k (by omega) hg, hb⟩
theorem Rest.first (h1 : Rest base T c (h :: r)) : ∀ x ∈ h :: r, h.b ≤ x.b := by
  intro x hx
  rcases List.mem_cons.1 hx with rfl | hx
  · exact Nat.le_refl _
  · have := (List.pairwise_cons.1 h1.ord).1 x hx
    have := (h1.is h (by simp)).le
    omega
/-- no more of them than places -/
theorem Rest.len (hn : T.at_ ≤ i) : ∀ (r : List (Hk α)) (c : Nat), Rest base T c r → c ≤ i + 1 → r.length + c ≤ i + 1
  | [], c, _, hc => by simpa using hc
  | h :: r, c, h1, hc => by
    have hh := h1.is h (by simp)
    have := h1.lo h (by simp)
    have := hh.le
    have := hh.at_
    have := Rest.len hn r (h.e + 1) h1.tail (by omega)
    simp; omega
/-- the places behind a hunk, up to the next one -/
theorem seg_fill (t : TI base m1 ks T) {p x : Nat} (hip : i ≤ p) (hpx : p < x) (hx : x ≤ base.length) (hg : T.gone p = false) (hk : ∀ k, p < k → k < x → T.gap k = false) : made base T.gone T.puts i p ++ (base.drop p).take (x - p) = seg base T.gone T.puts i (x - i) := by
  have e1 : x - i = (p - i) + ((x - p - 1) + 1) := by omega
  have e2 : seg base T.gone T.puts (p + 1) (x - p - 1) = (base.drop (p + 1)).take (x - p - 1) := seg_base (by omega) (fun k k1 k2 => by
    have := t.pg k (hk k (by omega) (by omega))
    exact ⟨this.2, this.1⟩)
  rw [e1, seg_add, show i + (p - i) = p by omega, seg_first, e2]
  unfold made cellv
  rw [hg]
  have e3 : (base.drop p).take (x - p) = (base[p]?).toList ++ (base.drop (p + 1)).take (x - p - 1) := by
    rw [show x - p = (x - p - 1) + 1 by omega, ← List.drop_drop]
    generalize hz : base.drop p = z
    have e4 : base[p]? = z[0]? := by rw [← hz, List.getElem?_drop, Nat.add_zero]
    rw [e4]
    cases z with
    | nil => simp
    | cons y z => simp
  rw [e3]
  simp
/-- what a version is written of, hunk by hunk -/
structure Vs (base : List α) (T : TS α) (i e : Nat) (s : List α × Nat) (c : Nat) : Prop where
  ic : i ≤ c
  ce : c ≤ e + 1
  le : s.2 ≤ c
  fill : ∀ x, c ≤ x → x ≤ base.length → (∀ k, c ≤ k → k < x → T.gap k = false) → s.1 ++ (base.drop s.2).take (x - s.2) = seg base T.gone T.puts i (x - i)
  full : c ≤ s.2 + 1
  se : s.2 ≤ e
  done : c = s.2 + 1 → s.1 = made base T.gone T.puts i s.2
theorem Vs.new (t : TI base m1 ks T) (he : i ≤ e) : Vs base T i e ([], i) i := by
  refine ⟨Nat.le_refl _, by omega, Nat.le_refl _, fun x h1 h2 h3 => ?_, Nat.le_succ _, he, fun h => ?_⟩
  · rw [List.nil_append, seg_base (by omega) (fun k k1 k2 => by
      have := t.pg k (h3 k k1 (by omega))
      exact ⟨this.2, this.1⟩)]
  · dsimp only at h; omega
theorem Vs.step {s : List α × Nat} (t : TI base m1 ks T) (hn : T.at_ = base.length) (h1 : Vs base T i e s c) (hh : IsH base T h) (hc : c ≤ h.b) (he : h.e ≤ e) (hk : ∀ k, c ≤ k → k < h.b → T.gap k = false) : Vs base T i e (s.1 ++ (base.drop s.2).take (h.b - s.2) ++ h.l, h.e) (h.e + 1) := by
  have l1 := h1.ic
  have l2 := hh.le
  have l3 := hh.at_
  have ef := h1.fill h.b hc (by omega) hk
  have em : s.1 ++ (base.drop s.2).take (h.b - s.2) ++ h.l = made base T.gone T.puts i h.e := by
    rw [ef, hh.l]
    unfold made
    rw [← List.append_assoc, show h.e - i = (h.b - i) + (h.e - h.b) by omega, seg_add, show i + (h.b - i) = h.b by omega]
  refine ⟨by omega, by omega, Nat.le_succ _, fun x k1 k2 k3 => ?_, Nat.le_refl _, he, fun _ => em⟩
  dsimp only
  rw [em]
  exact seg_fill t (by omega) (by omega) k2 hh.off (fun k q1 q2 => k3 k (by omega) q2)
/-- the version of a region: its hunks put in -/
theorem repl_made (t : TI base m1 ks T) (hn : T.at_ = base.length) (hie : i ≤ e) (hen : e ≤ base.length) {rr : List (Hk α)} (hr : ∀ h ∈ rr, e < h.b) : ∀ (r : List (Hk α)) (s : List α × Nat) (c : Nat), Rest base T c (r ++ rr) → (∀ h ∈ r, h.e ≤ e) → Vs base T i e s c → (emit base s r).1 ++ (base.drop (emit base s r).2).take (e - (emit base s r).2) = made base T.gone T.puts i e
  | [], s, c, h1, _, h3 => by
    show s.1 ++ (base.drop s.2).take (e - s.2) = _
    have hno : ∀ k, c ≤ k → k ≤ e → T.gap k = false := fun k k1 k2 => by
      cases hg : T.gap k with
      | false => rfl
      | true =>
        obtain ⟨x, hx, q1, q2⟩ := h1.all k k1 hg
        have := hr x (by simpa using hx)
        omega
    by_cases hc : c ≤ e
    · rw [h3.fill e hc hen (fun k k1 k2 => hno k k1 (by omega))]
      unfold made
      rw [(t.pg e (hno e hc (Nat.le_refl _))).1, List.append_nil]
    · have l1 := h3.ce
      have l2 := h3.full
      have l3 := h3.le
      have es : s.2 = e := by have := h3.se; omega
      rw [h3.done (by omega), es, Nat.sub_self, List.take_zero, List.append_nil]
  | h :: r, s, c, h1, h2, h3 => by
    have h1' : Rest base T c (h :: (r ++ rr)) := h1
    refine repl_made t hn hie hen hr r _ (h.e + 1) h1'.tail (fun x hx => h2 x (by simp [hx])) (h3.step t hn (h1.is h (by simp)) (h1.lo h (by simp)) (h2 h (by simp)) (fun k k1 k2 => ?_))
    cases hg : T.gap k with
    | false => rfl
    | true =>
      obtain ⟨x, hx, q1, q2⟩ := h1'.all k k1 hg
      have := h1'.first x hx
      omega
end
/-- hunks are taken off both sides while they touch the region -/
inductive Grw (i : Nat) (r0 : Nat → List (Hk α)) : Nat → (Nat → List (Hk α)) → (Nat → List (Hk α)) → Prop
  | start : Grw i r0 i (fun _ => []) r0
  | take {e : Nat} {ts rs : Nat → List (Hk α)} {k : Nat} {h : Hk α} {r : List (Hk α)} : Grw i r0 e ts rs → k < 2 → rs k = h :: r → h.b ≤ e → Grw i r0 (max e h.e) (fun j => if j = k then ts k ++ [h] else ts j) (fun j => if j = k then r else rs j)
/-- the region begins where the first of them does -/
structure Fst (r0 : Nat → List (Hk α)) (i : Nat) : Prop where
  at_ : ∃ j h r, j < 2 ∧ r0 j = h :: r ∧ h.b = i
  le : ∀ j h r, j < 2 → r0 j = h :: r → i ≤ h.b
def side (A B : TS α) (j : Nat) : TS α := if j = 0 then A else B
/-- what is known while a region grows -/
structure Gr (base : List α) (A B : TS α) (i e : Nat) (r0 ts rs : Nat → List (Hk α)) : Prop where
  ie : i ≤ e
  en : e ≤ base.length
  cover : ∀ k, i ≤ k → k < e → both A B k = true
  split : ∀ j, j < 2 → r0 j = ts j ++ rs j
  in_ : ∀ j, j < 2 → ∀ h ∈ ts j, h.e ≤ e
section
variable {base : List α} {A B : TS α} {i e : Nat} {r0 ts rs : Nat → List (Hk α)}
theorem gr_of (hA : A.at_ = base.length) (hB : B.at_ = base.length) (h0 : ∀ j, j < 2 → Rest base (side A B j) i (r0 j)) (hi : i ≤ base.length) (h : Grw i r0 e ts rs) : Gr base A B i e r0 ts rs := by
  induction h with
  | start => exact ⟨Nat.le_refl _, hi, fun k k1 k2 => by omega, fun j _ => by simp, fun j _ h hh => by simp at hh⟩
  | @take e ts rs k h r hg hk hr hb ih =>
    have hh : IsH base (side A B k) h := (h0 k hk).is h (by rw [ih.split k hk, hr]; simp)
    have hat : (side A B k).at_ = base.length := by unfold side; split <;> assumption
    have h1 := hh.at_
    have h2 := ih.en
    have h3 := ih.ie
    refine ⟨by omega, by omega, fun q q1 q2 => ?_, fun j hj => ?_, fun j hj x hx => ?_⟩
    · by_cases hq : q < e
      · exact ih.cover q q1 hq
      · have := hh.gone q (by omega) (by omega)
        unfold both
        unfold side at this
        split at this <;> rw [this] <;> simp
    · by_cases ej : j = k
      · subst ej; rw [if_pos rfl, if_pos rfl, ih.split j hj, hr]; simp
      · rw [if_neg ej, if_neg ej, ih.split j hj]
    · by_cases ej : j = k
      · subst ej
        rw [if_pos rfl] at hx
        rcases List.mem_append.1 hx with hx | hx
        · have := ih.in_ j hj x hx; omega
        · rw [List.mem_singleton] at hx; subst hx; omega
      · rw [if_neg ej] at hx
        have := ih.in_ j hj x hx; omega
/-- it is done where no more of them touch it: it ends at the first line that stays -/
theorem gr_end (tA : ∃ m ks, TI base m ks A) (tB : ∃ m ks, TI base m ks B) (hA : A.at_ = base.length) (hB : B.at_ = base.length) (h0 : ∀ j, j < 2 → Rest base (side A B j) i (r0 j)) (hg : Gr base A B i e r0 ts rs) (hs : ∀ j h r, j < 2 → rs j = h :: r → e < h.b) :
    reach (both A B) base.length i = e ∧ (∀ j, j < 2 → ∀ h ∈ rs j, e < h.b) ∧ (∀ j, j < 2 → (uses (side A B j).gap i e ↔ ts j ≠ [])) := by
  have hall : ∀ j, j < 2 → ∀ h ∈ rs j, e < h.b := fun j hj h hh => by
    cases hr : rs j with
    | nil => rw [hr] at hh; cases hh
    | cons x r =>
      have h1 := hs j x r hj hr
      have h2 := h0 j hj
      rw [hg.split j hj, hr] at h2
      have ho := (List.pairwise_append.1 h2.ord).2.1
      rw [hr] at hh
      rcases List.mem_cons.1 hh with rfl | hh
      · exact h1
      · have h3 := (List.pairwise_cons.1 ho).1 h hh
        have h4 := (h2.is x (by simp)).le
        omega
  have hside : ∀ j, j < 2 → ∃ m ks, TI base m ks (side A B j) := fun j hj => by
    unfold side; split <;> assumption
  have hat : ∀ j, (side A B j).at_ = base.length := fun j => by unfold side; split <;> assumption
  have hoff : ∀ j, j < 2 → (side A B j).gone e = false := fun j hj => by
    cases hgo : (side A B j).gone e with
    | false => rfl
    | true =>
      obtain ⟨m, ks, t⟩ := hside j hj
      obtain ⟨x, hx, q1, q2⟩ := (h0 j hj).all e hg.ie (t.gg e hgo).1
      rw [hg.split j hj] at hx
      rcases List.mem_append.1 hx with hx | hx
      · have h1 := hg.in_ j hj x hx
        have h2 := ((h0 j hj).is x (by rw [hg.split j hj]; simp [hx])).off
        rw [show x.e = e by omega, hgo] at h2
        cases h2
      · have := hall j hj x hx; omega
  have hb : both A B e = false := by
    have h1 := hoff 0 (by omega)
    have h2 := hoff 1 (by omega)
    unfold side at h1 h2
    unfold both
    simp at h1 h2
    rw [h1, h2]; rfl
  have hie := hg.ie
  have hen := hg.en
  refine ⟨?_, hall, fun j hj => ⟨?_, ?_⟩⟩
  · obtain ⟨r1, r2, r3, r4⟩ := reach_spec (both A B) base.length _ i (Nat.le_refl _) (by omega)
    rcases Nat.lt_trichotomy (reach (both A B) base.length i) e with h | h | h
    · have := r4 (by omega)
      rw [hg.cover _ r1 h] at this
      cases this
    · exact h
    · have := r3 e hie h
      rw [hb] at this
      cases this
  · rintro ⟨k, k1, k2, k3⟩ hn
    obtain ⟨x, hx, q1, q2⟩ := (h0 j hj).all k k1 k3
    rw [hg.split j hj, hn, List.nil_append] at hx
    have := hall j hj x hx
    omega
  · intro hn
    obtain ⟨x, hx⟩ := List.exists_mem_of_ne_nil _ hn
    have h1 := (h0 j hj).is x (by rw [hg.split j hj]; simp [hx])
    have h2 := (h0 j hj).lo x (by rw [hg.split j hj]; simp [hx])
    have h3 := hg.in_ j hj x hx
    exact ⟨x.b, h2, by have := h1.le; omega, h1.gap x.b (Nat.le_refl _) h1.le⟩
end
end
end Go.Proofs.Ytokfnajgjhkepaa.DiffM

/-
  The merged lines, region by region: plain lists. No program is named.
-/
namespace Go.Proofs.Ytokfnajgjhkepaa.DiffM

section
variable {α : Type}
/-- ranges one behind the other, from p on, up to q -/
def Chn (q : Nat) : Nat → List (Hk α) → Prop
  | p, [] => p ≤ q
  | p, h :: r => p ≤ h.b ∧ h.b ≤ q ∧ Chn q h.e r
section
variable {base : List α} {T A B : TS α} {q p : Nat} {hs r : List (Hk α)} {h : Hk α}
theorem chn_at : ∀ (hs : List (Hk α)) (s : List α × Nat) (t : Nat), Chn q s.2 hs → hs[t]? = some h → (emit base s (hs.take t)).2 ≤ h.b ∧ h.b ≤ q
  | [], _, _, _, ht => by simp at ht
  | x :: r, s, 0, hc, ht => by
    simp at ht; subst ht
    exact ⟨hc.1, hc.2.1⟩
  | x :: r, s, t + 1, hc, ht => by
    rw [List.take_succ_cons]
    exact chn_at r (s.1 ++ (base.drop s.2).take (x.b - s.2) ++ x.l, x.e) t hc.2.2 (by simpa using ht)
theorem chn_end : ∀ (hs : List (Hk α)) (s : List α × Nat), Chn q s.2 hs → (emit base s hs).2 ≤ q
  | [], _, hc => hc
  | x :: r, s, hc => chn_end r (s.1 ++ (base.drop s.2).take (x.b - s.2) ++ x.l, x.e) hc.2.2
theorem chn_snoc (he : h.e ≤ q) : ∀ (hs : List (Hk α)) (s : List α × Nat), Chn q s.2 hs → (emit base s hs).2 ≤ h.b → h.b ≤ q → Chn q s.2 (hs ++ [h])
  | [], _, _, h1, h2 => ⟨h1, h2, he⟩
  | x :: r, s, hc, h1, h2 => ⟨hc.1, hc.2.1, chn_snoc he r (s.1 ++ (base.drop s.2).take (x.b - s.2) ++ x.l, x.e) hc.2.2 h1 h2⟩
theorem chn_rest {e : Nat} {rr : List (Hk α)} : ∀ (r : List (Hk α)) (c p : Nat), Rest base T c (r ++ rr) → (∀ h ∈ r, h.e ≤ e) → p ≤ c → p ≤ e → Chn e p r
  | [], _, _, _, _, _, h4 => h4
  | x :: r, c, p, h1, h2, h3, _ => by
    have h1' : Rest base T c (x :: (r ++ rr)) := h1
    have l1 := h1'.lo x (by simp)
    have l2 := (h1'.is x (by simp)).le
    have l3 := h2 x (by simp)
    exact ⟨by omega, by omega, chn_rest r (x.e + 1) x.e h1'.tail (fun y hy => h2 y (by simp [hy])) (Nat.le_succ _) l3⟩
end
section
variable {m1 m2 m3 : α} {base : List α} {A B : TS α} {i e c cl : Nat} {r0 ts rs rs' : Nat → List (Hk α)} {M : List (Hk α)} {R : List α × Nat}
theorem mtail_skip : ∀ (d c : Nat), c + d ≤ base.length + 1 → (∀ k, c ≤ k → k < c + d → A.gap k = false ∧ B.gap k = false) → mtail m1 m2 m3 base A B c = ((base.drop c).take d ++ (mtail m1 m2 m3 base A B (c + d)).1, (mtail m1 m2 m3 base A B (c + d)).2)
  | 0, c, _, _ => by simp
  | d + 1, c, hd, hk => by
    have ih := mtail_skip d (c + 1) (by omega) (fun k k1 k2 => hk k (by omega) (by omega))
    rw [mtail_off (by omega) (hk c (Nat.le_refl _) (by omega)), ih, show c + 1 + d = c + (d + 1) by omega]
    have e3 : (base.drop c).take (d + 1) = (base[c]?).toList ++ (base.drop (c + 1)).take d := by
      rw [← List.drop_drop]
      generalize hz : base.drop c = z
      have e4 : base[c]? = z[0]? := by rw [← hz, List.getElem?_drop, Nat.add_zero]
      rw [e4]
      cases z with
      | nil => simp
      | cons y z => simp
    rw [e3]
    simp
theorem pick_one (uA uB : Prop) (x y : List α) : (pick m1 m2 m3 uA uB x y).2 ≤ 1 := by
  unfold pick
  split
  · simp
  · split <;> simp
theorem mtail_few : ∀ m i, base.length + 1 - i ≤ m → (mtail m1 m2 m3 base A B i).2 ≤ base.length + 1 - i
  | m, i, hm => by
    by_cases h : i ≤ base.length
    · match m, hm with
      | 0, hm => omega
      | m + 1, hm =>
        by_cases hg : A.gap i = false ∧ B.gap i = false
        · have h1 := mtail_few m (i + 1) (by omega)
          rw [mtail_off h hg]
          dsimp only; omega
        · have hr := reach_le (g := both A B) h
          have h1 := mtail_few m (reach (both A B) base.length i + 1) (by omega)
          have h2 : (region m1 m2 m3 base A B i (reach (both A B) base.length i)).2 ≤ 1 := pick_one _ _ _ _
          rw [mtail_on h hg]
          dsimp only; omega
    · rw [mtail_end h]; exact Nat.zero_le _
/-- what is known between two regions -/
structure MQ (m1 m2 m3 : α) (base : List α) (A B : TS α) (R : List α × Nat) (c : Nat) (M : List (Hk α)) (cl : Nat) (rs : Nat → List (Hk α)) : Prop where
  rest : ∀ j, j < 2 → Rest base (side A B j) c (rs j)
  cn : c ≤ base.length + 1
  pc : (emit base ([], 0) M).2 ≤ c
  ml : M.length ≤ c
  chn : Chn base.length 0 M
  fill : ∀ x, c ≤ x → x ≤ base.length + 1 → (∀ k, c ≤ k → k < x → A.gap k = false ∧ B.gap k = false) → R.1 = (emit base ([], 0) M).1 ++ (base.drop (emit base ([], 0) M).2).take (x - (emit base ([], 0) M).2) ++ (mtail m1 m2 m3 base A B x).1 ∧ R.2 = cl + (mtail m1 m2 m3 base A B x).2
theorem MQ.new (h : ∀ j, j < 2 → Rest base (side A B j) 0 (rs j)) : MQ m1 m2 m3 base A B (mtail m1 m2 m3 base A B 0) 0 [] 0 rs := by
  refine ⟨h, Nat.zero_le _, Nat.le_refl _, Nat.le_refl _, Nat.zero_le _, fun x _ h2 h3 => ?_⟩
  have := mtail_skip (m1 := m1) (m2 := m2) (m3 := m3) (base := base) (A := A) (B := B) x 0 (by omega) (fun k k1 k2 => h3 k k1 (by omega))
  rw [this, Nat.zero_add]
  simp [emit]
theorem MQ.few (h : MQ m1 m2 m3 base A B R c M cl rs) (hR : R.2 ≤ base.length + 1) : cl ≤ base.length + 1 := by
  have := (h.fill c (Nat.le_refl _) h.cn (fun k k1 k2 => by omega)).2
  omega
/-- no gap between here and the first hunk -/
theorem fst_gap (hf : Fst rs i) (h0 : ∀ j, j < 2 → Rest base (side A B j) c (rs j)) : c ≤ i ∧ (∀ k, c ≤ k → k < i → A.gap k = false ∧ B.gap k = false) ∧ ¬ (A.gap i = false ∧ B.gap i = false) := by
  have no : ∀ j k, j < 2 → c ≤ k → k < i → (side A B j).gap k = false := fun j k hj k1 k2 => by
    cases hg : (side A B j).gap k with
    | false => rfl
    | true =>
      obtain ⟨x, hx, q1, q2⟩ := (h0 j hj).all k k1 hg
      cases hr : rs j with
      | nil => rw [hr] at hx; cases hx
      | cons y r =>
        have h1 := hf.le j y r hj hr
        have h2 := h0 j hj
        rw [hr] at h2 hx
        have := h2.first x hx
        omega
  obtain ⟨j, h, r, hj, hr, hb⟩ := hf.at_
  have h2 := h0 j hj
  rw [hr] at h2
  have h3 := h2.lo h (by simp)
  have h4 := (h2.is h (by simp)).gap h.b (Nat.le_refl _) (h2.is h (by simp)).le
  refine ⟨by omega, fun k k1 k2 => ⟨?_, ?_⟩, fun hno => ?_⟩
  · have := no 0 k (by omega) k1 k2
    simpa [side] using this
  · have := no 1 k (by omega) k1 k2
    simpa [side] using this
  · rw [hb] at h4
    unfold side at h4
    split at h4
    · rw [hno.1] at h4; cases h4
    · rw [hno.2] at h4; cases h4
/-- a region is what its versions say -/
theorem reg_is (tA : ∃ m ks, TI base m ks A) (tB : ∃ m ks, TI base m ks B) (hA : A.at_ = base.length) (hB : B.at_ = base.length) (h0 : ∀ j, j < 2 → Rest base (side A B j) i (r0 j)) (hf : Fst r0 i) (hw : Grw i r0 e ts rs) (hs : ∀ j h r, j < 2 → rs j = h :: r → e < h.b) :
    (ts 0 = [] → region m1 m2 m3 base A B i e = (repl base i e (ts 1), 0)) ∧ (ts 0 ≠ [] → ts 1 = [] ∨ repl base i e (ts 0) = repl base i e (ts 1) → region m1 m2 m3 base A B i e = (repl base i e (ts 0), 0)) ∧ (ts 0 ≠ [] → ts 1 ≠ [] → repl base i e (ts 0) ≠ repl base i e (ts 1) → region m1 m2 m3 base A B i e = (m1 :: repl base i e (ts 0) ++ m2 :: repl base i e (ts 1) ++ [m3], 1)) ∧ (∀ j, j < 2 → repl base i e (ts j) = made base (side A B j).gone (side A B j).puts i e) := by
  obtain ⟨j0, x0, q0, hj0, hr0, hb0⟩ := hf.at_
  have hin : i ≤ base.length := by
    have h1 := (h0 j0 hj0).is x0 (by rw [hr0]; simp)
    have h2 := h1.at_
    have h3 := h1.le
    have h4 : (side A B j0).at_ = base.length := by unfold side; split <;> assumption
    omega
  have hg := gr_of hA hB h0 hin hw
  obtain ⟨g1, g2, g3⟩ := gr_end tA tB hA hB h0 hg hs
  have hv : ∀ j, j < 2 → repl base i e (ts j) = made base (side A B j).gone (side A B j).puts i e := fun j hj => by
    obtain ⟨m, ks, t⟩ : ∃ m ks, TI base m ks (side A B j) := by unfold side; split <;> assumption
    have h4 : (side A B j).at_ = base.length := by unfold side; split <;> assumption
    exact repl_made t h4 hg.ie hg.en (g2 j hj) (ts j) ([], i) i (by rw [← hg.split j hj]; exact h0 j hj) (hg.in_ j hj) (Vs.new t hg.ie)
  have v0 := hv 0 (by omega)
  have v1 := hv 1 (by omega)
  have u0 := g3 0 (by omega)
  have u1 := g3 1 (by omega)
  have s0 : side A B 0 = A := rfl
  have s1 : side A B 1 = B := rfl
  rw [s0] at v0 u0
  rw [s1] at v1 u1
  have hone : ts 0 = [] → ts 1 ≠ [] := fun hn0 hn1 => by
    obtain ⟨_, _, hgi⟩ := fst_gap hf h0
    rcases gap_or hgi with h | h
    · exact u0.1 (uses_here h hg.ie) hn0
    · exact u1.1 (uses_here h hg.ie) hn1
  unfold region
  rw [← v0, ← v1]
  refine ⟨fun hn => ?_, fun hn hor => ?_, fun hn hn1 hne => ?_, hv⟩
  · exact pick_right (fun h => u0.1 h hn) (u1.2 (hone hn)) _ _
  · rcases hor with h | h
    · exact pick_left (fun h' => u1.1 h' h) _ _
    · rw [h]; exact pick_same _
  · unfold pick
    rw [if_neg (fun h => h.elim (fun h => h (u1.2 hn1)) hne), if_neg (fun h => h (u0.2 hn))]
/-- a region more -/
theorem MQ.step (tA : ∃ m ks, TI base m ks A) (tB : ∃ m ks, TI base m ks B) (hA : A.at_ = base.length) (hB : B.at_ = base.length) (h : MQ m1 m2 m3 base A B R c M cl rs) (hf : Fst rs i) (hw : Grw i rs e ts rs') (hs : ∀ j h r, j < 2 → rs' j = h :: r → e < h.b) :
    MQ m1 m2 m3 base A B R (e + 1) (M ++ [⟨i, e, (region m1 m2 m3 base A B i e).1⟩]) (cl + (region m1 m2 m3 base A B i e).2) rs' ∧ (∀ j, j < 2 → Rest base (side A B j) i (rs j)) ∧ Gr base A B i e rs ts rs' := by
  obtain ⟨c1, c2, c3⟩ := fst_gap hf h.rest
  have h0 : ∀ j, j < 2 → Rest base (side A B j) i (rs j) := fun j hj => (h.rest j hj).mono c1 (fun x hx => by
    cases hr : rs j with
    | nil => rw [hr] at hx; cases hx
    | cons y r =>
      have h1 := hf.le j y r hj hr
      have h2 := h.rest j hj
      rw [hr] at h2 hx
      have := h2.first x hx
      omega)
  obtain ⟨j0, x0, q0, hj0, hr0, hb0⟩ := hf.at_
  have hin : i ≤ base.length := by
    have h1 := (h0 j0 hj0).is x0 (by rw [hr0]; simp)
    have h2 := h1.at_
    have h3 := h1.le
    have h4 : (side A B j0).at_ = base.length := by unfold side; split <;> assumption
    omega
  have hg := gr_of hA hB h0 hin hw
  obtain ⟨g1, g2, g3⟩ := gr_end tA tB hA hB h0 hg hs
  have hie := hg.ie
  have hen := hg.en
  have hpc := h.pc
  have hml := h.ml
  obtain ⟨f1, f2⟩ := h.fill i c1 (by omega) c2
  refine ⟨⟨fun j hj => ?_, by omega, ?_, by simp; omega, ?_, fun x x1 x2 x3 => ?_⟩, h0, hg⟩
  · have h1 := h0 j hj
    rw [hg.split j hj] at h1
    have ho := List.pairwise_append.1 h1.ord
    refine ⟨ho.2.1, fun x hx => h1.is x (by simp [hx]), fun k k1 k2 => ?_, fun x hx => g2 j hj x hx⟩
    obtain ⟨x, hx, q1, q2⟩ := h1.all k (by omega) k2
    rcases List.mem_append.1 hx with hx | hx
    · have := hg.in_ j hj x hx; omega
    · exact ⟨x, hx, q1, q2⟩
  · rw [emit_snoc]; exact Nat.le_succ _
  · exact chn_snoc (base := base) (by exact hen) M ([], 0) h.chn (by dsimp only; omega) (by dsimp only; omega)
  · rw [emit_snoc]
    dsimp only
    rw [f1, f2, mtail_on hin c3, g1]
    dsimp only
    have hsk := mtail_skip (m1 := m1) (m2 := m2) (m3 := m3) (base := base) (A := A) (B := B) (x - (e + 1)) (e + 1) (by omega) (fun k k1 k2 => x3 k k1 (by omega))
    rw [show e + 1 + (x - (e + 1)) = x by omega] at hsk
    rw [hsk]
    dsimp only
    have e3 : (base.drop e).take (x - e) = (base[e]?).toList ++ (base.drop (e + 1)).take (x - (e + 1)) := by
      rw [show x - e = (x - (e + 1)) + 1 by omega, ← List.drop_drop]
      generalize hz : base.drop e = z
      have e4 : base[e]? = z[0]? := by rw [← hz, List.getElem?_drop, Nat.add_zero]
      rw [e4]
      cases z with
      | nil => simp
      | cons y z => simp
    rw [e3]
    refine ⟨by simp, by omega⟩
/-- no region is left -/
theorem MQ.all (h : MQ m1 m2 m3 base A B R c M cl rs) (h0 : rs 0 = []) (h1 : rs 1 = []) : R.1 = repl base 0 base.length M ∧ R.2 = cl := by
  have no : ∀ j k, j < 2 → c ≤ k → (side A B j).gap k = false := fun j k hj k1 => by
    cases hg : (side A B j).gap k with
    | false => rfl
    | true =>
      obtain ⟨x, hx, _⟩ := (h.rest j hj).all k k1 hg
      have : j = 0 ∨ j = 1 := by omega
      rcases this with rfl | rfl
      · rw [h0] at hx; cases hx
      · rw [h1] at hx; cases hx
  have hcn := h.cn
  obtain ⟨f1, f2⟩ := h.fill (base.length + 1) hcn (Nat.le_refl _) (fun k k1 _ => ⟨by simpa [side] using no 0 k (by omega) k1, by simpa [side] using no 1 k (by omega) k1⟩)
  rw [mtail_end (by omega)] at f1 f2
  refine ⟨?_, by simpa using f2⟩
  rw [f1, List.append_nil]
  unfold repl
  congr 1
  rw [List.take_of_length_le (by simp; omega), List.take_of_length_le (by simp)]
end
end
end Go.Proofs.Ytokfnajgjhkepaa.DiffM

/-
  Three-way merging on plain lists: changes on either side of a line that is nowhere else are both made. No program is named.
-/
namespace Go.Proofs.Ytokfnajgjhkepaa.DiffM

section
variable {α : Type} {m1 m2 m3 : α}
theorem foldl_low (b : List α) : ∀ (ks : List Nat) (T : TS α) (k : Nat), k < T.at_ → (ks.foldl (tstep b) T).gap k = T.gap k
  | [], _, _, _ => rfl
  | j :: ks, T, k, h => by
    have h1 : T.at_ ≤ (tstep b T j).at_ ∧ (tstep b T j).gap k = T.gap k := by
      unfold tstep
      by_cases e1 : j = 1
      · rw [if_pos e1]; exact ⟨Nat.le_succ _, rfl⟩
      · by_cases e2 : j = 2
        · rw [if_neg e1, if_pos e2]
          exact ⟨Nat.le_succ _, if_neg (by omega)⟩
        · rw [if_neg e1, if_neg e2]
          exact ⟨Nat.le_refl _, if_neg (by omega)⟩
    rw [List.foldl_cons, foldl_low b ks _ k (by omega), h1.2]
theorem foldl_keeps_at (b : List α) : ∀ (n : Nat) (T : TS α), ((List.replicate n 1).foldl (tstep b) T).at_ = T.at_ + n
  | 0, T => rfl
  | n + 1, T => by
    rw [List.replicate_succ, List.foldl_cons, foldl_keeps_at b n]
    show T.at_ + 1 + n = _
    omega
/-- the changes ahead of the line touch nothing behind it -/
theorem far_gaps {s : α} {head u tail : List α} (h1 : s ∉ head) (h2 : s ∉ u) {k : Nat} (hk : head.length < k) : (marks (head ++ s :: tail) (u ++ s :: tail)).gap k = false := by
  obtain ⟨ks, e, hs⟩ := kinds_far s tail _ head u (Nat.le_refl _) h1 h2
  have hti : TI (head ++ s :: tail) (u ++ s :: tail) ks (trun (u ++ s :: tail) ks) := ti_run (r := List.replicate (tail.length + 1) 1) (by rw [← e]; exact kinds_scr _ _)
  unfold marks
  rw [e, trun_append, (foldl_keeps _ _ _).1]
  refine (hti.far k ?_).2
  rw [hti.at_, hs.counts.1]; exact hk
/-- the changes behind the line touch nothing ahead of it -/
theorem front_gaps (p a b : List α) {k : Nat} (hk : k < p.length) : (marks (p ++ a) (p ++ b)).gap k = false := by
  unfold marks
  rw [kinds_front, trun_append, foldl_low _ _ _ _ ?_]
  · unfold trun
    rw [(foldl_keeps _ _ _).1]; rfl
  · unfold trun
    rw [foldl_keeps_at]
    show k < 0 + p.length
    omega
theorem mrg_far {s : α} {head u tail v : List α} (h1 : s ∉ head) (h2 : s ∉ u) : mrg m1 m2 m3 (head ++ s :: tail) (u ++ s :: tail) (head ++ s :: v) = (u ++ s :: v, 0) := by
  have eb : head ++ s :: tail = (head ++ [s]) ++ tail := by simp
  have ev : head ++ s :: v = (head ++ [s]) ++ v := by simp
  have hgA : ∀ k, head.length < k → (marks (head ++ s :: tail) (u ++ s :: tail)).gap k = false := fun k hk => far_gaps h1 h2 hk
  have hgB : ∀ k, k ≤ head.length → (marks (head ++ s :: tail) (head ++ s :: v)).gap k = false := fun k hk => by
    rw [eb, ev]; exact front_gaps _ _ _ (by simp; omega)
  have hn : (head ++ s :: tail).length = head.length + 1 + tail.length := by simp; omega
  have tA := marks_ti (head ++ s :: tail) (u ++ s :: tail)
  have tB := marks_ti (head ++ s :: tail) (head ++ s :: v)
  have vA := marks_all (head ++ s :: tail) (u ++ s :: tail)
  have vB := marks_all (head ++ s :: tail) (head ++ s :: v)
  have eA := marks_end (head ++ s :: tail) (u ++ s :: tail)
  have eB := marks_end (head ++ s :: tail) (head ++ s :: v)
  unfold mrg
  generalize hA : marks (head ++ s :: tail) (u ++ s :: tail) = A at *
  generalize hB : marks (head ++ s :: tail) (head ++ s :: v) = B at *
  generalize hbase : head ++ s :: tail = base at *
  obtain ⟨C, hC⟩ : ∃ C : TS α, C = ⟨fun _ => false, fun k => if k ≤ head.length then A.gone k else B.gone k, fun k => if k ≤ head.length then A.puts k else B.puts k, 0, 0⟩ := ⟨_, rfl⟩
  have cg : ∀ k, C.gone k = if k ≤ head.length then A.gone k else B.gone k := fun k => by rw [hC]
  have cp : ∀ k, C.puts k = if k ≤ head.length then A.puts k else B.puts k := fun k => by rw [hC]
  have clo : ∀ k, k ≤ head.length → C.gone k = A.gone k ∧ C.puts k = A.puts k := fun k hk => ⟨by rw [cg, if_pos hk], by rw [cp, if_pos hk]⟩
  have chi : ∀ k, head.length < k → C.gone k = B.gone k ∧ C.puts k = B.puts k := fun k hk => ⟨by rw [cg, if_neg (by omega)], by rw [cp, if_neg (by omega)]⟩
  clear hC cg cp
  have key := mtail_is (m1 := m1) (m2 := m2) (m3 := m3) (base := base) (A := A) (B := B) (C := C) eA eB
    (fun k _ ha hb => by
      by_cases hk : k ≤ head.length
      · rw [(clo k hk).1, (clo k hk).2]; exact tA.pg k ha
      · rw [(chi k (by omega)).1, (chi k (by omega)).2]; exact tB.pg k hb)
    (fun k _ ha hb => by
      by_cases hk : k ≤ head.length
      · rw [(clo k hk).1]; exact ha
      · rw [(chi k (by omega)).1]; exact hb)
    (fun i hi h3 _ h5 h6 => by
      unfold region
      by_cases hih : i ≤ head.length
      · have hhi : hi ≤ head.length := by
          by_cases hlt : head.length < hi
          · exfalso
            have hb := h6 head.length hih hlt
            unfold both at hb
            rw [Bool.or_eq_true] at hb
            rcases hb with hb | hb
            · have := (tA.gg _ hb).2
              rw [hgA _ (by omega)] at this; cases this
            · have := (tB.gg _ hb).1
              rw [hgB _ (Nat.le_refl _)] at this; cases this
          · omega
        rw [pick_left (not_uses (fun k _ hk => hgB k (by omega)))]
        unfold made
        rw [seg_congr (g := C.gone) (g' := A.gone) (p := C.puts) (p' := A.puts) (fun k _ hk => clo k (by omega)), (clo hi hhi).2]
      · have hAi : A.gap i = false := hgA i (by omega)
        have hBi : B.gap i = true := h5.resolve_left (by rw [hAi]; simp)
        rw [pick_right (not_uses (fun k hk _ => hgA k (by omega))) (uses_here hBi h3)]
        unfold made
        rw [seg_congr (g := C.gone) (g' := B.gone) (p := C.puts) (p' := B.puts) (fun k hk _ => chi k (by omega)), (chi hi (by omega)).2])
    _ 0 (Nat.le_refl _) (Nat.zero_le _)
  rw [key]
  have en : base.length + 1 - 0 = (head.length + 1) + (tail.length + 1) := by omega
  have en2 : base.length + 1 = (head.length + 1) + (tail.length + 1) := by omega
  rw [en2, seg_add] at vA vB
  rw [en, seg_add, Nat.zero_add]
  rw [Nat.zero_add] at vA vB
  rw [seg_congr (lo := 0) (g := C.gone) (g' := A.gone) (p := C.puts) (p' := A.puts) (fun k _ hk => clo k (by omega)), seg_congr (lo := head.length + 1) (g := C.gone) (g' := B.gone) (p := C.puts) (p' := B.puts) (fun k hk _ => chi k (by omega))]
  have wA : seg base A.gone A.puts (head.length + 1) (tail.length + 1) = tail := by
    show seg base A.gone A.puts (head.length + 1) tail.length ++ cellv base A.gone A.puts (head.length + 1 + tail.length) = tail
    have hz := tA.pg (head.length + 1 + tail.length) (hgA _ (by omega))
    have hno : base[head.length + 1 + tail.length]? = none := List.getElem?_eq_none (by omega)
    unfold cellv
    rw [seg_base (by omega) (fun k hk _ => (tA.pg k (hgA k (by omega))).symm), hz.1, hz.2, hno, ← hbase]
    simp
  have wB : seg base B.gone B.puts 0 (head.length + 1) = head ++ [s] := by
    rw [seg_base (by omega) (fun k _ hk => (tB.pg k (hgB k (by omega))).symm), List.drop_zero, eb, List.take_append_of_le_length (by simp), List.take_of_length_le (by simp)]
  rw [wA] at vA
  rw [wB] at vB
  have xA : seg base A.gone A.puts 0 (head.length + 1) = u ++ [s] := by
    have : u ++ s :: tail = (u ++ [s]) ++ tail := by simp
    rw [this] at vA
    exact List.append_cancel_right vA
  have xB : seg base B.gone B.puts (head.length + 1) (tail.length + 1) = v := by
    rw [ev] at vB
    exact List.append_cancel_left vB
  rw [xA, xB]
  simp
end
end Go.Proofs.Ytokfnajgjhkepaa.DiffM
