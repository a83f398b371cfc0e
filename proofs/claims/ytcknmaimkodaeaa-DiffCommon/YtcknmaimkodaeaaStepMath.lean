/-
  Scripts between two lists: one by one, and in runs; what patching makes of them: plain lists. No program is named.
-/
import Derived.Test.YtcknmaimkodaeaaLcsMath
namespace Go.Proofs.Ytcknmaimkodaeaa.DiffM

section
variable {α : Type}
open Classical in
/-- the kinds of the script, one by one: 1 a line is kept, 2 dropped, 3 taken -/
noncomputable def kinds : List α → List α → List Nat
  | [], [] => []
  | [], _ :: b => 3 :: kinds [] b
  | _ :: a, [] => 2 :: kinds a []
  | x :: a, y :: b => if x = y then 1 :: kinds a b else if lcs a (y :: b) = lcs (x :: a) (y :: b) then 2 :: kinds a (y :: b) else 3 :: kinds (x :: a) b
termination_by a b => a.length + b.length
theorem kinds_nil : kinds ([] : List α) [] = [] := by rw [kinds]
theorem kinds_take (y : α) (b : List α) : kinds [] (y :: b) = 3 :: kinds [] b := by rw [kinds]
theorem kinds_drop (x : α) (a : List α) : kinds (x :: a) [] = 2 :: kinds a [] := by rw [kinds]
theorem kinds_same (x : α) (a b : List α) : kinds (x :: a) (x :: b) = 1 :: kinds a b := by rw [kinds, if_pos rfl]
theorem kinds_less {x y : α} (h : x ≠ y) {a b : List α} (hl : lcs a (y :: b) = lcs (x :: a) (y :: b)) : kinds (x :: a) (y :: b) = 2 :: kinds a (y :: b) := by rw [kinds, if_neg h, if_pos hl]
theorem kinds_more {x y : α} (h : x ≠ y) {a b : List α} (hl : lcs a (y :: b) ≠ lcs (x :: a) (y :: b)) : kinds (x :: a) (y :: b) = 3 :: kinds (x :: a) b := by rw [kinds, if_neg h, if_neg hl]
/-- a script -/
inductive Scr : List Nat → List α → List α → Prop
  | nil : Scr [] [] []
  | keep (x : α) {ks : List Nat} {a b : List α} : Scr ks a b → Scr (1 :: ks) (x :: a) (x :: b)
  | drop (x : α) {ks : List Nat} {a b : List α} : Scr ks a b → Scr (2 :: ks) (x :: a) b
  | take (y : α) {ks : List Nat} {a b : List α} : Scr ks a b → Scr (3 :: ks) a (y :: b)
theorem kinds_all : ∀ n (a b : List α), a.length + b.length ≤ n → Scr (kinds a b) a b ∧ (kinds a b).count 1 = lcs a b
  | _, [], [], _ => by rw [kinds_nil]; exact ⟨.nil, by rw [lcs_nil_left]; rfl⟩
  | n + 1, [], y :: b, h => by
    obtain ⟨h1, h2⟩ := kinds_all n [] b (by simp at h ⊢; omega)
    rw [kinds_take]
    exact ⟨.take y h1, by rw [List.count_cons_of_ne (by decide), h2, lcs_nil_left, lcs_nil_left]⟩
  | n + 1, x :: a, [], h => by
    obtain ⟨h1, h2⟩ := kinds_all n a [] (by simp at h ⊢; omega)
    rw [kinds_drop]
    exact ⟨.drop x h1, by rw [List.count_cons_of_ne (by decide), h2, lcs_nil_right, lcs_nil_right]⟩
  | n + 1, x :: a, y :: b, h => by
    by_cases e : x = y
    · subst e
      obtain ⟨h1, h2⟩ := kinds_all n a b (by simp at h ⊢; omega)
      rw [kinds_same]
      exact ⟨.keep x h1, by rw [List.count_cons_self, h2, lcs_same]⟩
    · by_cases hl : lcs a (y :: b) = lcs (x :: a) (y :: b)
      · obtain ⟨h1, h2⟩ := kinds_all n a (y :: b) (by simp at h ⊢; omega)
        rw [kinds_less e hl]
        exact ⟨.drop x h1, by rw [List.count_cons_of_ne (by decide), h2, hl]⟩
      · obtain ⟨h1, h2⟩ := kinds_all n (x :: a) b (by simp at h ⊢; omega)
        rw [kinds_more e hl]
        refine ⟨.take y h1, ?_⟩
        have := lcs_other e a b
        rw [List.count_cons_of_ne (by decide), h2]
        omega
  | 0, [], _ :: _, h => by simp at h
  | 0, _ :: _, _, h => by simp at h
theorem kinds_scr (a b : List α) : Scr (kinds a b) a b := (kinds_all _ a b (Nat.le_refl _)).1
theorem kinds_keep (a b : List α) : (kinds a b).count 1 = lcs a b := (kinds_all _ a b (Nat.le_refl _)).2
theorem Scr.counts {ks : List Nat} {a b : List α} (h : Scr ks a b) : ks.count 1 + ks.count 2 = a.length ∧ ks.count 1 + ks.count 3 = b.length ∧ ks.length = ks.count 1 + ks.count 2 + ks.count 3 := by
  induction h with
  | nil => simp
  | keep x _ ih => simp only [List.count_cons_self, List.count_cons_of_ne (show (1 : Nat) ≠ 2 by decide), List.count_cons_of_ne (show (1 : Nat) ≠ 3 by decide), List.length_cons]; omega
  | drop x _ ih => simp only [List.count_cons_self, List.count_cons_of_ne (show (2 : Nat) ≠ 1 by decide), List.count_cons_of_ne (show (2 : Nat) ≠ 3 by decide), List.length_cons]; omega
  | take y _ ih => simp only [List.count_cons_self, List.count_cons_of_ne (show (3 : Nat) ≠ 1 by decide), List.count_cons_of_ne (show (3 : Nat) ≠ 2 by decide), List.length_cons]; omega
theorem Scr.kind {ks : List Nat} {a b : List α} (h : Scr ks a b) : ∀ k ∈ ks, k = 1 ∨ k = 2 ∨ k = 3 := by
  induction h with
  | nil => simp
  | keep _ _ ih => intro k hk; rcases List.mem_cons.1 hk with rfl | hk; exact .inl rfl; exact ih k hk
  | drop _ _ ih => intro k hk; rcases List.mem_cons.1 hk with rfl | hk; exact .inr (.inl rfl); exact ih k hk
  | take _ _ ih => intro k hk; rcases List.mem_cons.1 hk with rfl | hk; exact .inr (.inr rfl); exact ih k hk
/-- runs of one kind -/
theorem Scr.keeps {n : Nat} {ks : List Nat} {a b : List α} (h : Scr (List.replicate n 1 ++ ks) a b) : n ≤ a.length ∧ n ≤ b.length ∧ a.take n = b.take n ∧ Scr ks (a.drop n) (b.drop n) := by
  induction n generalizing a b with
  | zero => simpa using h
  | succ n ih =>
    rw [List.replicate_succ, List.cons_append] at h
    cases h with
    | keep x h =>
      obtain ⟨h1, h2, h3, h4⟩ := ih h
      simp only [List.length_cons, List.take_succ_cons, List.drop_succ_cons, h3]
      exact ⟨by omega, by omega, trivial, h4⟩
theorem Scr.drops {n : Nat} {ks : List Nat} {a b : List α} (h : Scr (List.replicate n 2 ++ ks) a b) : n ≤ a.length ∧ Scr ks (a.drop n) b := by
  induction n generalizing a b with
  | zero => simpa using h
  | succ n ih =>
    rw [List.replicate_succ, List.cons_append] at h
    cases h with
    | drop x h =>
      obtain ⟨h1, h4⟩ := ih h
      simp only [List.length_cons, List.drop_succ_cons]
      exact ⟨by omega, h4⟩
theorem Scr.takes {n : Nat} {ks : List Nat} {a b : List α} (h : Scr (List.replicate n 3 ++ ks) a b) : n ≤ b.length ∧ Scr ks a (b.drop n) := by
  induction n generalizing a b with
  | zero => simpa using h
  | succ n ih =>
    rw [List.replicate_succ, List.cons_append] at h
    cases h with
    | take x h =>
      obtain ⟨h1, h4⟩ := ih h
      simp only [List.length_cons, List.drop_succ_cons]
      exact ⟨by omega, h4⟩
end

/-- one more: the last run grows, or a new one begins -/
def push (l : List (Nat × Nat)) (k : Nat) : List (Nat × Nat) :=
  match l.getLast? with
  | some p => if p.1 = k then l.dropLast ++ [(k, p.2 + 1)] else l ++ [(k, 1)]
  | none => [(k, 1)]
theorem push_nil (k : Nat) : push [] k = [(k, 1)] := rfl
theorem push_snoc (l : List (Nat × Nat)) (p : Nat × Nat) (k : Nat) : push (l ++ [p]) k = if p.1 = k then l ++ [(k, p.2 + 1)] else l ++ [p] ++ [(k, 1)] := by
  unfold push
  rw [List.getLast?_append]
  simp
/-- in runs -/
def comb (ks : List Nat) : List (Nat × Nat) := ks.foldl push []
theorem comb_snoc (ks : List Nat) (k : Nat) : comb (ks ++ [k]) = push (comb ks) k := by simp [comb]
/-- and out of them -/
def ex (l : List (Nat × Nat)) : List Nat := l.flatMap fun p => List.replicate p.2 p.1
theorem ex_cons (p : Nat × Nat) (l : List (Nat × Nat)) : ex (p :: l) = List.replicate p.2 p.1 ++ ex l := by simp [ex]
theorem ex_append (l m : List (Nat × Nat)) : ex (l ++ m) = ex l ++ ex m := by simp [ex]
theorem ex_one (k n : Nat) : ex [(k, n)] = List.replicate n k := by simp [ex]
/-- runs: none is empty, two side by side are of two kinds -/
structure Runs (l : List (Nat × Nat)) : Prop where
  pos : ∀ p ∈ l, 1 ≤ p.2
  alt : ∀ (i : Nat) (p q : Nat × Nat), l[i]? = some p → l[i + 1]? = some q → p.1 ≠ q.1
theorem runs_nil : Runs [] := ⟨by simp, fun i p q h => by simp at h⟩
theorem push_ex (l : List (Nat × Nat)) (k : Nat) : ex (push l k) = ex l ++ [k] := by
  rcases List.eq_nil_or_concat l with rfl | ⟨l, p, rfl⟩
  · rfl
  · rw [List.concat_eq_append, push_snoc]
    obtain ⟨k', n⟩ := p
    by_cases e : k' = k
    · subst e
      rw [if_pos rfl, ex_append, ex_append, ex_one, ex_one, List.replicate_succ', List.append_assoc]
    · rw [if_neg e, ex_append, ex_one]; rfl
theorem Runs.push {l : List (Nat × Nat)} (h : Runs l) (k : Nat) : Runs (push l k) := by
  rcases List.eq_nil_or_concat l with rfl | ⟨l, p, rfl⟩
  · refine ⟨fun p hp => ?_, fun i p q h1 h2 => ?_⟩
    · rw [push_nil, List.mem_singleton] at hp; rw [hp]; exact Nat.le_refl 1
    · rw [push_nil] at h2; simp at h2
  · rw [List.concat_eq_append] at h ⊢
    rw [push_snoc]
    by_cases e : p.1 = k
    · rw [if_pos e]
      refine ⟨fun q hq => ?_, fun i q r h1 h2 => ?_⟩
      · rcases List.mem_append.1 hq with hq | hq
        · exact h.pos q (List.mem_append_left _ hq)
        · rw [List.mem_singleton] at hq; rw [hq]; exact Nat.succ_le_succ (Nat.zero_le _)
      · have hi2 := (List.getElem?_eq_some_iff.1 h2).1
        simp at hi2
        have h1' : (l ++ [p])[i]? = some q := by
          rw [List.getElem?_append_left (by omega)] at h1 ⊢; exact h1
        by_cases hl : i + 1 < l.length
        · refine h.alt i q r h1' ?_
          rw [List.getElem?_append_left hl] at h2 ⊢; exact h2
        · have e3 : i + 1 = l.length := by omega
          have e2 : r = (k, p.2 + 1) := by
            rw [e3, List.getElem?_append_right (Nat.le_refl _), Nat.sub_self] at h2
            simpa using h2.symm
          have := h.alt i q p h1' (by rw [e3, List.getElem?_append_right (Nat.le_refl _), Nat.sub_self]; rfl)
          rw [e2]; rw [e] at this; exact this
    · rw [if_neg e]
      refine ⟨fun q hq => ?_, fun i q r h1 h2 => ?_⟩
      · rcases List.mem_append.1 hq with hq | hq
        · exact h.pos q hq
        · rw [List.mem_singleton] at hq; rw [hq]; exact Nat.le_refl 1
      · have hi2 := (List.getElem?_eq_some_iff.1 h2).1
        simp at hi2
        by_cases hl : i + 1 < l.length + 1
        · refine h.alt i q r ?_ ?_
          · rw [List.getElem?_append_left (by simp; omega)] at h1; exact h1
          · rw [List.getElem?_append_left (by simp; omega)] at h2; exact h2
        · have e3 : i = l.length := by omega
          have e1 : q = p := by
            rw [e3, List.getElem?_append_left (by simp), List.getElem?_append_right (Nat.le_refl _), Nat.sub_self] at h1
            simpa using h1.symm
          have e2 : r = (k, 1) := by
            rw [e3, List.getElem?_append_right (by simp)] at h2
            simpa using h2.symm
          rw [e1, e2]; exact e
theorem comb_all (ks : List Nat) : Runs (comb ks) ∧ ex (comb ks) = ks := by
  have key : ∀ (ks : List Nat) (l : List (Nat × Nat)), Runs l → Runs (ks.foldl push l) ∧ ex (ks.foldl push l) = ex l ++ ks := by
    intro ks
    induction ks with
    | nil => intro l h; exact ⟨h, by simp⟩
    | cons k ks ih =>
      intro l h
      obtain ⟨h1, h2⟩ := ih (push l k) (h.push k)
      exact ⟨h1, by rw [List.foldl_cons, h2, push_ex, List.append_assoc]; rfl⟩
  have := key ks [] runs_nil
  exact ⟨this.1, this.2.trans (by simp [ex])⟩
/-- runs are told by what they are made of -/
theorem runs_one : ∀ {l m : List (Nat × Nat)}, Runs l → Runs m → ex l = ex m → l = m
  | [], [], _, _, _ => rfl
  | [], q :: m, _, hm, h => by
    have h1 := hm.pos q (by simp)
    rw [ex_cons] at h
    have := congrArg List.length h
    simp [ex] at this; omega
  | p :: l, [], hl, _, h => by
    have h1 := hl.pos p (by simp)
    rw [ex_cons] at h
    have := congrArg List.length h
    simp [ex] at this; omega
  | (k, n) :: l, (k', n') :: m, hl, hm, h => by
    have tl : Runs l := ⟨fun p hp => hl.pos p (by simp [hp]), fun i p q h1 h2 => hl.alt (i + 1) p q (by simpa using h1) (by simpa using h2)⟩
    have tm : Runs m := ⟨fun p hp => hm.pos p (by simp [hp]), fun i p q h1 h2 => hm.alt (i + 1) p q (by simpa using h1) (by simpa using h2)⟩
    have p1 : 1 ≤ n := hl.pos (k, n) (by simp)
    have p2 : 1 ≤ n' := hm.pos (k', n') (by simp)
    rw [ex_cons, ex_cons] at h
    have e1 : k = k' := by
      have := congrArg (fun z => z[0]?) h
      simp only [List.getElem?_append_left (show 0 < (List.replicate n k).length by simp; omega), List.getElem?_append_left (show 0 < (List.replicate n' k').length by simp; omega)] at this
      rw [List.getElem?_replicate, List.getElem?_replicate, if_pos (by omega), if_pos (by omega)] at this
      exact Option.some.inj this
    subst e1
    -- the run's end: what follows is of another kind
    have hd : ∀ {n : Nat} {l : List (Nat × Nat)}, Runs ((k, n) :: l) → (ex l)[0]? ≠ some k := by
      intro n l hr
      cases l with
      | nil => simp [ex]
      | cons q l =>
        have h1 := hr.pos q (by simp)
        have h2 := hr.alt 0 (k, n) q rfl rfl
        rw [ex_cons, List.getElem?_append_left (by simp; omega), List.getElem?_replicate, if_pos (by omega)]
        intro e
        exact h2 (Option.some.inj e).symm
    have key : ∀ {n n' : Nat} {l m : List (Nat × Nat)}, Runs ((k, n) :: l) → (ex l)[0]? ≠ some k → List.replicate n k ++ ex l = List.replicate n' k ++ ex m → n' ≤ n := by
      intro n n' l m _ hne he
      by_cases hle : n' ≤ n
      · exact hle
      · exfalso
        have h3 := congrArg (fun z => z[n]?) he
        rw [List.getElem?_append_right (by simp), List.length_replicate, Nat.sub_self, List.getElem?_append_left (by simp; omega), List.getElem?_replicate, if_pos (by omega)] at h3
        exact hne h3
    have e2 : n = n' := Nat.le_antisymm (key hm (hd hm) h.symm) (key hl (hd hl) h)
    subst e2
    rw [runs_one tl tm (List.append_cancel_left h)]
end Go.Proofs.Ytcknmaimkodaeaa.DiffM
