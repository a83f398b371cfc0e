/-
  Steps, one by one: how many lines of the other list are used up, what is paid, what is taken. Plain lists.
-/
import Derived.Test.YtcknmaimkodaeaaPatchMath
namespace Go.Proofs.Ytcknmaimkodaeaa.DiffM

section
variable {α : Type}
/-- so many lines of the other list are used up -/
def used (ks : List Nat) : Nat := ks.count 1 + ks.count 3
/-- so many are dropped and taken -/
def paid (ks : List Nat) : Nat := ks.count 2 + ks.count 3
theorem used_append (ks ls : List Nat) : used (ks ++ ls) = used ks + used ls := by unfold used; rw [List.count_append, List.count_append]; omega
theorem paid_append (ks ls : List Nat) : paid (ks ++ ls) = paid ks + paid ls := by unfold paid; rw [List.count_append, List.count_append]; omega
theorem count_rep (n k j : Nat) : (List.replicate n k).count j = if k = j then n else 0 := by
  rw [List.count_replicate]
  by_cases h : k = j <;> simp [h]
theorem tk_cons (k : Nat) (ks : List Nat) (b : List α) : tk (k :: ks) b = if k = 3 then b.take 1 ++ tk ks (b.drop 1) else if k = 1 then tk ks (b.drop 1) else tk ks b := rfl
theorem tk_append (ls : List Nat) : ∀ (ks : List Nat) (b : List α), tk (ks ++ ls) b = tk ks b ++ tk ls (b.drop (used ks))
  | [], b => by simp [tk, used]
  | k :: ks, b => by
    have ih := fun b => tk_append ls ks b
    rw [List.cons_append, tk_cons k (ks ++ ls), tk_cons k ks]
    by_cases h3 : k = 3
    · have e : used (k :: ks) = 1 + used ks := by unfold used; rw [h3, List.count_cons, List.count_cons]; simp; omega
      rw [if_pos h3, if_pos h3, ih, List.drop_drop, e, List.append_assoc]
    · by_cases h1 : k = 1
      · have e : used (k :: ks) = 1 + used ks := by unfold used; rw [h1, List.count_cons, List.count_cons]; simp; omega
        rw [if_neg h3, if_pos h1, if_neg h3, if_pos h1, ih, List.drop_drop, e]
      · have e : used (k :: ks) = used ks := by unfold used; rw [List.count_cons, List.count_cons]; simp [h1, h3]
        rw [if_neg h3, if_neg h1, if_neg h3, if_neg h1, ih, e]
theorem ex_next {R : List (Nat × Nat)} {t k c : Nat} (h : R[t]? = some (k, c)) : ex (R.take (t + 1)) = ex (R.take t) ++ List.replicate c k := by
  rw [List.take_add_one, h, ex_append]
  show ex (R.take t) ++ ex [(k, c)] = _
  rw [ex_one]
theorem back_keep {R : List (Nat × Nat)} {t c : Nat} (h : R[t]? = some (1, c)) (b : List α) : used (ex (R.take (t + 1))) = used (ex (R.take t)) + c ∧ paid (ex (R.take (t + 1))) = paid (ex (R.take t)) ∧ tk (ex (R.take (t + 1))) b = tk (ex (R.take t)) b := by
  rw [ex_next h, used_append, paid_append, tk_append]
  have e := tk_keeps [] c (b.drop (used (ex (R.take t))))
  rw [List.append_nil] at e
  refine ⟨?_, ?_, ?_⟩
  · unfold used; rw [count_rep, count_rep]; simp
  · unfold paid; rw [count_rep, count_rep]; simp
  · rw [e]; simp [tk]
theorem back_drop {R : List (Nat × Nat)} {t c : Nat} (h : R[t]? = some (2, c)) (b : List α) : used (ex (R.take (t + 1))) = used (ex (R.take t)) ∧ paid (ex (R.take (t + 1))) = paid (ex (R.take t)) + c ∧ tk (ex (R.take (t + 1))) b = tk (ex (R.take t)) b := by
  rw [ex_next h, used_append, paid_append, tk_append]
  have e := tk_drops [] c (b.drop (used (ex (R.take t))))
  rw [List.append_nil] at e
  refine ⟨?_, ?_, ?_⟩
  · unfold used; rw [count_rep, count_rep]; simp
  · unfold paid; rw [count_rep, count_rep]; simp
  · rw [e]; simp [tk]
theorem back_take {R : List (Nat × Nat)} {t c : Nat} (h : R[t]? = some (3, c)) (b : List α) : used (ex (R.take (t + 1))) = used (ex (R.take t)) + c ∧ paid (ex (R.take (t + 1))) = paid (ex (R.take t)) + c ∧ tk (ex (R.take (t + 1))) b = tk (ex (R.take t)) b ++ (b.drop (used (ex (R.take t)))).take c := by
  rw [ex_next h, used_append, paid_append, tk_append]
  have e := tk_takes [] c (b.drop (used (ex (R.take t))))
  rw [List.append_nil] at e
  refine ⟨?_, ?_, ?_⟩
  · unfold used; rw [count_rep, count_rep]; simp
  · unfold paid; rw [count_rep, count_rep]; simp
  · rw [e]; simp [tk]
theorem used_le (R : List (Nat × Nat)) (t : Nat) : used (ex (R.take t)) ≤ used (ex R) := by
  conv => rhs; rw [← List.take_append_drop t R, ex_append, used_append]
  omega
theorem paid_le (R : List (Nat × Nat)) (t : Nat) : paid (ex (R.take t)) ≤ paid (ex R) := by
  conv => rhs; rw [← List.take_append_drop t R, ex_append, paid_append]
  omega
theorem used_all {ks : List Nat} {a b : List α} (h : Scr ks a b) : used ks = b.length := by
  unfold used; exact h.counts.2.1
theorem paid_all (a b : List α) : paid (kinds a b) = cost a b := by
  have h1 := (kinds_scr a b).counts
  have h2 := kinds_keep a b
  have h3 := cost_eq a b
  unfold paid
  omega
/-- what the runs of two lists are -/
structure Rn (a b : List α) (R : List (Nat × Nat)) : Prop where
  pos : ∀ p ∈ R, 1 ≤ p.2
  alt : ∀ (i : Nat) (p q : Nat × Nat), R[i]? = some p → R[i + 1]? = some q → p.1 ≠ q.1
  kind : ∀ p ∈ R, p.1 = 1 ∨ p.1 = 2 ∨ p.1 = 3
  ex : ex R = kinds a b
theorem rn_of (a b : List α) : Rn a b (comb (kinds a b)) := by
  obtain ⟨h1, h2⟩ := comb_all (kinds a b)
  refine ⟨h1.pos, h1.alt, fun p hp => ?_, h2⟩
  have h3 := h1.pos p hp
  have h4 : p.1 ∈ DiffM.ex (comb (kinds a b)) := by
    unfold DiffM.ex
    rw [List.mem_flatMap]
    exact ⟨p, hp, by rw [List.mem_replicate]; exact ⟨by omega, rfl⟩⟩
  rw [h2] at h4
  exact (kinds_scr a b).kind _ h4
theorem pow_len {R : List (Nat × Nat)} (h : ∀ p ∈ R, 1 ≤ p.2) : R.length ≤ (ex R).length := by
  induction R with
  | nil => simp
  | cons q l ih =>
    have h1 := h q (by simp)
    have h2 := ih (fun p hp => h p (by simp [hp]))
    rw [ex_cons, List.length_append, List.length_replicate, List.length_cons]
    omega
theorem ex_le (R : List (Nat × Nat)) : ∀ p ∈ R, p.2 ≤ (ex R).length := by
  induction R with
  | nil => simp
  | cons q l ih =>
    intro p hp
    rw [ex_cons, List.length_append, List.length_replicate]
    rcases List.mem_cons.1 hp with rfl | hp
    · omega
    · have := ih p hp; omega
/-- patched: it is the other list -/
theorem patched {a b : List α} {R : List (Nat × Nat)} (h : Rn a b R) (hab : a.length + b.length ≤ 200) : pfin a (tk (ex R) b) (prun a (tk (ex R) b) (steps R) (0, 0, [])) = (b, 0) := by
  have hs : Scr (ex R) (a.drop 0) b := by rw [h.ex, List.drop_zero]; exact kinds_scr a b
  have hlen : (ex R).length ≤ 200 := by
    rw [h.ex]
    have := (kinds_scr a b).counts
    omega
  have := patch_back (n := tk (ex R) b) R 0 0 [] b (fun p hp => ⟨h.pos p hp, by have := ex_le R p hp; omega, h.kind p hp⟩) (Nat.zero_le _) (Nat.zero_le _) hs (by rw [List.drop_zero])
  rw [this]
  unfold pfin
  dsimp only
  rw [if_neg (by omega), List.nil_append]
end
end Go.Proofs.Ytcknmaimkodaeaa.DiffM
