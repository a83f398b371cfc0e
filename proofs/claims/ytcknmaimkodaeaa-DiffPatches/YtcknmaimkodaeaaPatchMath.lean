/-
  What steps make of lines; the rows of common parts: plain lists. No program is named.
-/
import Derived.Test.YtcknmaimkodaeaaStepMath
namespace Go.Proofs.Ytcknmaimkodaeaa.DiffM

section
variable {α : Type}
/-- one step: how many of the one, of the other are used up, what is made; or what is refused -/
def pstep (a n : List α) (s : Nat × Nat × List α) (p : Int × Int) : Except Int (Nat × Nat × List α) :=
  if p.1 ≠ 1 ∧ p.1 ≠ 2 ∧ p.1 ≠ 3 then .error 3
  else if p.2 < 1 ∨ 200 < p.2 then .error 2
  else if p.1 = 3 then (if n.length < s.2.1 + p.2.toNat then .error 5 else .ok (s.1, s.2.1 + p.2.toNat, s.2.2 ++ (n.drop s.2.1).take p.2.toNat))
  else if a.length < s.1 + p.2.toNat then .error 5
  else .ok (s.1 + p.2.toNat, s.2.1, if p.1 = 1 then s.2.2 ++ (a.drop s.1).take p.2.toNat else s.2.2)
/-- all of them -/
def prun (a n : List α) (l : List (Int × Int)) (s : Nat × Nat × List α) : Except Int (Nat × Nat × List α) := l.foldlM (pstep a n) s
theorem prun_nil (a n : List α) (s : Nat × Nat × List α) : prun a n [] s = .ok s := rfl
theorem prun_cons (a n : List α) (p : Int × Int) (l : List (Int × Int)) (s : Nat × Nat × List α) : prun a n (p :: l) s = (pstep a n s p).bind (prun a n l) := rfl
theorem prun_append (a n : List α) : ∀ (l m : List (Int × Int)) (s : Nat × Nat × List α), prun a n (l ++ m) s = (prun a n l s).bind (prun a n m)
  | [], m, s => rfl
  | p :: l, m, s => by
    rw [List.cons_append, prun_cons, prun_cons]
    cases h : pstep a n s p with
    | error c => rfl
    | ok s' => exact prun_append a n l m s'
theorem prun_stop {a n : List α} {l : List (Int × Int)} {t : Nat} {s : Nat × Nat × List α} {c : Int} (h : prun a n (l.take t) s = .error c) : prun a n l s = .error c := by
  rw [← List.take_append_drop t l, prun_append, h]; rfl
theorem prun_next {a n : List α} {l : List (Int × Int)} {t : Nat} {s s' : Nat × Nat × List α} {p : Int × Int} (h : prun a n (l.take t) s = .ok s') (hp : l[t]? = some p) : prun a n (l.take (t + 1)) s = pstep a n s' p := by
  rw [List.take_add_one, hp, prun_append, h]
  show (prun a n [p] s') = _
  rw [prun_cons]
  cases pstep a n s' p <;> rfl
/-- the end: nothing may be left -/
def pfin (a n : List α) (r : Except Int (Nat × Nat × List α)) : List α × Int :=
  match r with
  | .error c => ([], c)
  | .ok s => if s.1 < a.length ∨ s.2.1 < n.length then ([], 4) else (s.2.2, 0)
/-- what stays within bounds -/
structure PIn (a n : List α) (s : Nat × Nat × List α) : Prop where
  i : s.1 ≤ a.length
  k : s.2.1 ≤ n.length
  out : s.2.2.length ≤ s.1 + s.2.1
theorem pstep_in {a n : List α} {s s' : Nat × Nat × List α} {p : Int × Int} (h : PIn a n s) (hs : pstep a n s p = .ok s') : PIn a n s' := by
  have h1 := h.i
  have h2 := h.k
  have h3 := h.out
  unfold pstep at hs
  split at hs
  · cases hs
  · split at hs
    · cases hs
    · split at hs
      · split at hs
        · cases hs
        · cases hs
          exact ⟨h1, by dsimp only; omega, by simp only [List.length_append, List.length_take, List.length_drop]; omega⟩
      · split at hs
        · cases hs
        · cases hs
          refine ⟨by dsimp only; omega, h2, ?_⟩
          dsimp only
          split
          · simp only [List.length_append, List.length_take, List.length_drop]; omega
          · omega
theorem prun_in {a n : List α} : ∀ {l : List (Int × Int)} {s s' : Nat × Nat × List α}, PIn a n s → prun a n l s = .ok s' → PIn a n s'
  | [], s, s', h, e => by cases e; exact h
  | p :: l, s, s', h, e => by
    rw [prun_cons] at e
    cases hp : pstep a n s p with
    | error c => rw [hp] at e; cases e
    | ok s1 => rw [hp] at e; exact prun_in (pstep_in h hp) e
theorem pin_start (a n : List α) : PIn a n (0, 0, []) := ⟨Nat.zero_le _, Nat.zero_le _, Nat.le_refl _⟩
/-- the lines that are taken -/
def tk : List Nat → List α → List α
  | [], _ => []
  | k :: ks, b => if k = 3 then b.take 1 ++ tk ks (b.drop 1) else if k = 1 then tk ks (b.drop 1) else tk ks b
theorem tk_keeps (ks : List Nat) : ∀ (n : Nat) (b : List α), tk (List.replicate n 1 ++ ks) b = tk ks (b.drop n)
  | 0, b => by simp
  | n + 1, b => by
    rw [List.replicate_succ, List.cons_append]
    show tk (List.replicate n 1 ++ ks) (b.drop 1) = _
    rw [tk_keeps ks n, List.drop_drop, Nat.add_comm]
theorem tk_drops (ks : List Nat) : ∀ (n : Nat) (b : List α), tk (List.replicate n 2 ++ ks) b = tk ks b
  | 0, b => by simp
  | n + 1, b => by
    rw [List.replicate_succ, List.cons_append]
    exact tk_drops ks n b
theorem tk_takes (ks : List Nat) : ∀ (n : Nat) (b : List α), tk (List.replicate n 3 ++ ks) b = b.take n ++ tk ks (b.drop n)
  | 0, b => by simp
  | n + 1, b => by
    rw [List.replicate_succ, List.cons_append]
    show b.take 1 ++ tk (List.replicate n 3 ++ ks) (b.drop 1) = _
    rw [tk_takes ks n, List.drop_drop, ← List.append_assoc]
    congr 1
    · rw [Nat.add_comm n 1, List.take_add]
    · congr 2; omega
theorem tk_len (ks : List Nat) : ∀ b : List α, (tk ks b).length ≤ b.length := by
  induction ks with
  | nil => intro b; simp [tk]
  | cons k ks ih =>
    intro b
    have := ih (b.drop 1)
    have h2 := ih b
    unfold tk
    split
    · simp only [List.length_append, List.length_take, List.length_drop] at this ⊢; omega
    · split
      · simp only [List.length_drop] at this; omega
      · exact h2
/-- runs, as the steps of the machine -/
def steps (l : List (Nat × Nat)) : List (Int × Int) := l.map fun p => ((p.1 : Int), (p.2 : Int))
/-- patched by its own steps it is the other list -/
theorem patch_back {a n : List α} : ∀ (l : List (Nat × Nat)) (i k : Nat) (out b : List α), (∀ p ∈ l, 1 ≤ p.2 ∧ p.2 ≤ 200 ∧ (p.1 = 1 ∨ p.1 = 2 ∨ p.1 = 3)) → i ≤ a.length → k ≤ n.length → Scr (ex l) (a.drop i) b → n.drop k = tk (ex l) b → prun a n (steps l) (i, k, out) = .ok (a.length, n.length, out ++ b)
  | [], i, k, out, b, _, hi, hk, hs, hn => by
    have h1 : a.drop i = [] ∧ b = [] := by
      have : ex ([] : List (Nat × Nat)) = [] := rfl
      rw [this] at hs
      generalize a.drop i = z at hs
      cases hs
      exact ⟨rfl, rfl⟩
    have h2 : n.drop k = [] := hn
    have e1 := List.drop_eq_nil_iff.1 h1.1
    have e2 := List.drop_eq_nil_iff.1 h2
    rw [h1.2, List.append_nil]
    show Except.ok (i, k, out) = _
    rw [show i = a.length by omega, show k = n.length by omega]
  | (kd, c) :: l, i, k, out, b, hp, hi, hk, hs, hn => by
    obtain ⟨c1, c2, c3⟩ := hp (kd, c) (by simp)
    dsimp only at c1 c2 c3
    have hp' : ∀ p ∈ l, 1 ≤ p.2 ∧ p.2 ≤ 200 ∧ (p.1 = 1 ∨ p.1 = 2 ∨ p.1 = 3) := fun p h => hp p (by simp [h])
    rw [ex_cons] at hs hn
    show prun a n (((kd : Int), (c : Int)) :: steps l) _ = _
    rw [prun_cons]
    rcases c3 with rfl | rfl | rfl
    · obtain ⟨h1, h2, h3, h4⟩ := hs.keeps
      dsimp only at hs hn h1 h2 h3 h4
      rw [tk_keeps] at hn
      rw [List.length_drop] at h1
      have e : pstep a n (i, k, out) (((1 : Nat) : Int), (c : Int)) = .ok (i + c, k, out ++ b.take c) := by
        unfold pstep
        dsimp only
        rw [if_neg (by omega), if_neg (by omega), if_neg (by omega), if_neg (by omega), if_pos (by omega), Int.toNat_natCast, h3]
      rw [e]
      show prun a n (steps l) _ = _
      rw [List.drop_drop] at h4
      rw [patch_back l (i + c) k _ (b.drop c) hp' (by omega) hk h4 hn, List.append_assoc, List.take_append_drop]
    · obtain ⟨h1, h4⟩ := hs.drops
      dsimp only at hs hn h1 h4
      rw [tk_drops] at hn
      rw [List.length_drop] at h1
      have e : pstep a n (i, k, out) (((2 : Nat) : Int), (c : Int)) = .ok (i + c, k, out) := by
        unfold pstep
        dsimp only
        rw [if_neg (by omega), if_neg (by omega), if_neg (by omega), if_neg (by omega), if_neg (by omega), Int.toNat_natCast]
      rw [e]
      show prun a n (steps l) _ = _
      rw [List.drop_drop] at h4
      exact patch_back l (i + c) k _ b hp' (by omega) hk h4 hn
    · obtain ⟨h1, h4⟩ := hs.takes
      dsimp only at hs hn h1 h4
      rw [tk_takes] at hn
      have hl := congrArg List.length hn
      rw [List.length_drop, List.length_append, List.length_take, Nat.min_eq_left h1] at hl
      have ht : (n.drop k).take c = b.take c := by
        rw [hn, List.take_append_of_le_length (by rw [List.length_take]; omega), List.take_take, Nat.min_self]
      have hd : n.drop (k + c) = tk (ex l) (b.drop c) := by
        rw [← List.drop_drop, hn, List.drop_append_of_le_length (by rw [List.length_take]; omega), List.drop_eq_nil_of_le (by rw [List.length_take]; omega), List.nil_append]
      have e : pstep a n (i, k, out) (((3 : Nat) : Int), (c : Int)) = .ok (i, k + c, out ++ b.take c) := by
        unfold pstep
        dsimp only
        rw [if_neg (by omega), if_neg (by omega), if_pos (by omega), if_neg (by omega), Int.toNat_natCast, ht]
      rw [e]
      show prun a n (steps l) _ = _
      rw [patch_back l i (k + c) _ (b.drop c) hp' hi (by omega) h4 hd, List.append_assoc, List.take_append_drop]
/-- one place of the next row of common parts -/
theorem row_next {a b : List α} {i k : Nat} {x y : α} (hx : a[i]? = some x) (hy : b[k]? = some y) :
    (x = y → lcs (a.take (i + 1)) (b.take (k + 1)) = max (max (lcs (a.take i) (b.take (k + 1))) (lcs (a.take (i + 1)) (b.take k))) (lcs (a.take i) (b.take k) + 1)) ∧
    (x ≠ y → lcs (a.take (i + 1)) (b.take (k + 1)) = max (lcs (a.take i) (b.take (k + 1))) (lcs (a.take (i + 1)) (b.take k))) := by
  have e1 : a.take (i + 1) = a.take i ++ [x] := by rw [List.take_add_one, hx]; rfl
  have e2 : b.take (k + 1) = b.take k ++ [y] := by rw [List.take_add_one, hy]; rfl
  rw [e1, e2]
  constructor
  · rintro rfl
    have h1 := lcs_snoc_same x (a.take i) (b.take k)
    have h2 := lcs_snoc x (a.take i) (b.take k)
    have h3 := lcs_snoc x (b.take k) (a.take i)
    rw [lcs_comm (b.take k ++ [x]) (a.take i), lcs_comm (b.take k) (a.take i)] at h3
    omega
  · intro h
    have h1 := lcs_snoc_other h (a.take i) (b.take k)
    omega
/-- and of the tails -/
theorem tail_next {a b : List α} {i k : Nat} {x y : α} (hx : a[i]? = some x) (hy : b[k]? = some y) :
    (x = y → lcs (a.drop i) (b.drop k) = lcs (a.drop (i + 1)) (b.drop (k + 1)) + 1) ∧
    (x ≠ y → lcs (a.drop i) (b.drop k) = max (lcs (a.drop (i + 1)) (b.drop k)) (lcs (a.drop i) (b.drop (k + 1)))) := by
  obtain ⟨hi, hx'⟩ := List.getElem?_eq_some_iff.1 hx
  obtain ⟨hk, hy'⟩ := List.getElem?_eq_some_iff.1 hy
  have e1 : a.drop i = x :: a.drop (i + 1) := by rw [List.drop_eq_getElem_cons hi, hx']
  have e2 : b.drop k = y :: b.drop (k + 1) := by rw [List.drop_eq_getElem_cons hk, hy']
  rw [e1, e2]
  constructor
  · rintro rfl
    exact lcs_same _ _ _
  · intro h
    have := lcs_other h (a.drop (i + 1)) (b.drop (k + 1))
    omega
/-- a line more that both have -/
theorem keep_more {a b : List α} {i j m : Nat} {x : α} (h : ∃ c : List α, c.Sublist (a.take i) ∧ c.Sublist (b.take j) ∧ c.length = m) (hx : a[i]? = some x) (hy : b[j]? = some x) : ∃ c : List α, c.Sublist (a.take (i + 1)) ∧ c.Sublist (b.take (j + 1)) ∧ c.length = m + 1 := by
  obtain ⟨c, h1, h2, h3⟩ := h
  have e1 : a.take (i + 1) = a.take i ++ [x] := by rw [List.take_add_one, hx]; rfl
  have e2 : b.take (j + 1) = b.take j ++ [x] := by rw [List.take_add_one, hy]; rfl
  exact ⟨c ++ [x], by rw [e1]; exact h1.append (List.Sublist.refl _), by rw [e2]; exact h2.append (List.Sublist.refl _), by simp [h3]⟩
theorem keep_left {a b : List α} {i j m : Nat} (h : ∃ c : List α, c.Sublist (a.take i) ∧ c.Sublist (b.take j) ∧ c.length = m) : ∃ c : List α, c.Sublist (a.take (i + 1)) ∧ c.Sublist (b.take j) ∧ c.length = m := by
  obtain ⟨c, h1, h2, h3⟩ := h
  exact ⟨c, h1.trans (List.take_sublist_take_left (Nat.le_succ i)), h2, h3⟩
theorem keep_right {a b : List α} {i j m : Nat} (h : ∃ c : List α, c.Sublist (a.take i) ∧ c.Sublist (b.take j) ∧ c.length = m) : ∃ c : List α, c.Sublist (a.take i) ∧ c.Sublist (b.take (j + 1)) ∧ c.length = m := by
  obtain ⟨c, h1, h2, h3⟩ := h
  exact ⟨c, h1, h2.trans (List.take_sublist_take_left (Nat.le_succ j)), h3⟩
theorem keep_end {a b : List α} {i j m : Nat} (h : ∃ c : List α, c.Sublist (a.take i) ∧ c.Sublist (b.take j) ∧ c.length = m) : m ≤ lcs a b := by
  obtain ⟨c, h1, h2, h3⟩ := h
  rw [← h3]
  exact lcs_le (h1.trans (List.take_sublist i a)) (h2.trans (List.take_sublist j b))
end
end Go.Proofs.Ytcknmaimkodaeaa.DiffM
