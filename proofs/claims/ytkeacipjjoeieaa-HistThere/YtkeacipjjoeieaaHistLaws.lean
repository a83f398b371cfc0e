/-
  Package hist on plain data: undoing, redoing, deeds that are refused. No program is named.
-/
import Derived.Test.YtkeacipjjoeieaaHistMath
namespace Go.Proofs.Ytkeacipjjoeieaa.HistM
open Go.RowKit Kit EditM EditK

def uD : DeedM := ⟨3, ⟨0, 0, ⟨#[]⟩⟩⟩
def rD : DeedM := ⟨4, ⟨0, 0, ⟨#[]⟩⟩⟩
def cD : DeedM := ⟨2, ⟨0, 0, ⟨#[]⟩⟩⟩
theorem plain_ok (k : Int) : (⟨k, ⟨0, 0, ⟨#[]⟩⟩⟩ : DeedM).ed.ok := ⟨by show (_ : Int) ≤ 0; omega, by show (0 : Int) ≤ _; omega, by show (_ : Int) ≤ 0; omega, by show (0 : Int) ≤ _; omega, by show (0 : Nat) ≤ _; omega⟩
theorem step_u0 {s : TL} (h : s.p = 0) : s.step uD = (s, 7) := by simp [TL.step, uD, h]
theorem step_u {s : TL} (h : s.p ≠ 0) : s.step uD = (⟨s.ts, s.p - 1, false⟩, 0) := by simp [TL.step, uD, h]
theorem step_r {s : TL} (h : s.p + 1 ≠ s.ts.length) : s.step rD = (⟨s.ts, s.p + 1, false⟩, 0) := by simp [TL.step, rD, h]
theorem step_c (s : TL) : s.step cD = (⟨s.ts, s.p, false⟩, 0) := by simp [TL.step, cD]
theorem TL.texts_last (s : TL) {l : List DeedM} {n : Nat} (h : l.length = n + 1) : (s.texts l)[n]? = some (s.run l).now := by
  obtain ⟨d, hd⟩ : ∃ d, l[n]? = some d := ⟨l[n], by simp⟩
  have e : l = l.take (n + 1) := by rw [List.take_of_length_le (by omega)]
  rw [e, TL.texts_next s hd, TL.run_next s hd, List.getElem?_append_right (by rw [TL.texts_len, List.length_take]; omega), TL.texts_len, List.length_take, show n - min n l.length = 0 by omega]
  rfl
/-- all undone -/
theorem run_undo (s : TL) : ∀ n, (s.run (List.replicate n uD)).ts = s.ts ∧ (s.run (List.replicate n uD)).p = s.p - n
  | 0 => ⟨rfl, rfl⟩
  | n + 1 => by
    obtain ⟨h1, h2⟩ := run_undo s n
    rw [List.replicate_succ', TL.run_append]
    show ((s.run (List.replicate n uD)).step uD).1.ts = _ ∧ ((s.run (List.replicate n uD)).step uD).1.p = _
    by_cases h : (s.run (List.replicate n uD)).p = 0
    · rw [step_u0 h]; exact ⟨h1, by show (s.run (List.replicate n uD)).p = _; omega⟩
    · rw [step_u h]; exact ⟨h1, by show (s.run (List.replicate n uD)).p - 1 = _; omega⟩
theorem edit_begin {s : TL} (h : s.ok) {t x : Bs} (h0 : s.ts[0]? = some t) (hp : s.p < 20) : (s.edit x).ts[0]? = some t ∧ (s.edit x).p ≤ s.p + 1 := by
  have hl := h.lt
  unfold TL.edit
  split
  · rename_i ho
    have := h.op ho
    exact ⟨by show (s.ts.take s.p ++ [x])[0]? = _; rw [List.getElem?_append_left (by simp; omega), List.getElem?_take, if_pos (by omega)]; exact h0, by show s.p ≤ _; omega⟩
  · exact ⟨by show (s.ts.take (s.p + 1) ++ [x])[0]? = _; rw [List.getElem?_append_left (by simp; omega), List.getElem?_take, if_pos (by omega)]; exact h0, Nat.le_refl _⟩
theorem step_begin {s : TL} (h : s.ok) {t : Bs} (h0 : s.ts[0]? = some t) (hp : s.p < 20) (d : DeedM) : (s.step d).1.ts[0]? = some t ∧ (s.step d).1.p ≤ s.p + 1 := by
  unfold TL.step
  split
  · split
    · exact edit_begin h h0 hp
    · exact ⟨h0, by show s.p ≤ _; omega⟩
  split
  · exact ⟨h0, by show s.p ≤ _; omega⟩
  split
  · split
    · exact ⟨h0, by show s.p ≤ _; omega⟩
    · exact ⟨h0, by show s.p - 1 ≤ _; omega⟩
  split
  · split
    · exact ⟨h0, by show s.p ≤ _; omega⟩
    · exact ⟨h0, Nat.le_refl _⟩
  · exact ⟨h0, by show s.p ≤ _; omega⟩
theorem run_begin {t : Bs} (ht : t.length ≤ 600) : ∀ (l : List DeedM), l.length ≤ 20 → ((TL.start t).run l).ts[0]? = some t ∧ ((TL.start t).run l).p ≤ l.length := by
  intro l hl
  have key : ∀ n, n ≤ l.length → ((TL.start t).run (l.take n)).ts[0]? = some t ∧ ((TL.start t).run (l.take n)).p ≤ n := by
    intro n
    induction n with
    | zero => intro _; exact ⟨rfl, Nat.le_refl _⟩
    | succ n ih =>
      intro hn
      obtain ⟨h1, h2⟩ := ih (by omega)
      obtain ⟨d, hd⟩ : ∃ d, l[n]? = some d := ⟨l[n], by simp⟩
      rw [TL.run_next _ hd]
      obtain ⟨h3, h4⟩ := step_begin ((TL.start_ok ht).run _) h1 (by omega) d
      exact ⟨h3, by omega⟩
  have := key l.length (Nat.le_refl _)
  rwa [List.take_length] at this
/-- all undone it is the text that it was -/
theorem begin_ {t : Bs} (ht : t.length ≤ 600) (l : List DeedM) (hl : l.length ≤ 20) : ((TL.start t).run (l ++ List.replicate 20 uD)).p = 0 ∧ ((TL.start t).run (l ++ List.replicate 20 uD)).now = t := by
  obtain ⟨h1, h2⟩ := run_begin ht l hl
  obtain ⟨h3, h4⟩ := run_undo ((TL.start t).run l) 20
  rw [TL.run_append]
  have hp : (((TL.start t).run l).run (List.replicate 20 uD)).p = 0 := by omega
  refine ⟨hp, ?_⟩
  unfold TL.now
  rw [hp, h3, List.getD_eq_getElem?_getD, h1]; rfl

/-- what is not refused, and its texts -/
def TL.few (s : TL) : List DeedM → List DeedM
  | [] => []
  | d :: l => (if (s.step d).2 = 0 then [d] else []) ++ TL.few (s.step d).1 l
def TL.want (s : TL) : List DeedM → List Bs
  | [] => []
  | d :: l => (if (s.step d).2 = 0 then [(s.step d).1.now] else []) ++ TL.want (s.step d).1 l
theorem TL.few_append (s : TL) (l m : List DeedM) : s.few (l ++ m) = s.few l ++ (s.run l).few m := by
  induction l generalizing s with
  | nil => rfl
  | cons d l ih => simp only [List.cons_append, TL.few, ih, List.append_assoc]; rfl
theorem TL.want_append (s : TL) (l m : List DeedM) : s.want (l ++ m) = s.want l ++ (s.run l).want m := by
  induction l generalizing s with
  | nil => rfl
  | cons d l ih => simp only [List.cons_append, TL.want, ih, List.append_assoc]; rfl
theorem TL.few_len (s : TL) (l : List DeedM) : (s.few l).length ≤ l.length := by
  induction l generalizing s with
  | nil => exact Nat.le_refl _
  | cons d l ih =>
    have := ih (s.step d).1
    simp only [TL.few, List.length_append, List.length_cons]
    split <;> simp <;> omega
theorem TL.few_mem (s : TL) (l : List DeedM) : ∀ d ∈ s.few l, d ∈ l := by
  induction l generalizing s with
  | nil => intro d hd; simp [TL.few] at hd
  | cons e l ih =>
    intro d hd
    rcases List.mem_append.1 hd with h | h
    · split at h
      · simp at h; rw [h]; simp
      · simp at h
    · exact List.mem_cons_of_mem _ (ih _ d h)
theorem TL.few_next (s : TL) {l : List DeedM} {i : Nat} {d : DeedM} (h : l[i]? = some d) : s.few (l.take (i + 1)) = s.few (l.take i) ++ (if ((s.run (l.take i)).step d).2 = 0 then [d] else []) := by
  rw [take_next h, TL.few_append]; simp [TL.few]
theorem TL.want_next (s : TL) {l : List DeedM} {i : Nat} {d : DeedM} (h : l[i]? = some d) : s.want (l.take (i + 1)) = s.want (l.take i) ++ (if ((s.run (l.take i)).step d).2 = 0 then [((s.run (l.take i)).step d).1.now] else []) := by
  rw [take_next h, TL.want_append]; simp [TL.want]
theorem step_same {s : TL} {d : DeedM} (h : (s.step d).2 ≠ 0) : (s.step d).1 = s := by
  unfold TL.step at h ⊢
  split at h
  · rename_i h1
    rw [if_pos h1]
    split at h
    · exact absurd rfl h
    · rename_i h2; rw [if_neg h2]
  · rename_i h1
    rw [if_neg h1]
    split at h
    · exact absurd rfl h
    · rename_i h2
      rw [if_neg h2]
      split at h
      · rename_i h3
        rw [if_pos h3]
        split at h
        · rename_i h4; rw [if_pos h4]
        · exact absurd rfl h
      · rename_i h3
        rw [if_neg h3]
        split at h
        · rename_i h5
          rw [if_pos h5]
          split at h
          · rename_i h4; rw [if_pos h4]
          · exact absurd rfl h
        · rename_i h5; rw [if_neg h5]
theorem TL.few_texts (s : TL) (l : List DeedM) : s.texts (s.few l) = s.want l := by
  induction l generalizing s with
  | nil => rfl
  | cons d l ih =>
    by_cases h : (s.step d).2 = 0
    · simp only [TL.few, TL.want, if_pos h, List.singleton_append, TL.texts, ih]
    · simp only [TL.few, TL.want, if_neg h, List.nil_append]
      rw [step_same h]
      exact ih s
theorem TL.codes_at (s : TL) {l : List DeedM} {i : Nat} {d : DeedM} (h : l[i]? = some d) : (s.codes l)[i]? = some ((s.run (l.take i)).step d).2 := by
  have hl := (List.getElem?_eq_some_iff.1 h).1
  have e : l = l.take (i + 1) ++ l.drop (i + 1) := (List.take_append_drop _ _).symm
  rw [e, TL.codes_append, List.getElem?_append_left (by rw [TL.codes_len, List.length_take]; omega), ← e, TL.codes_next s h, List.getElem?_append_right (by rw [TL.codes_len, List.length_take]; omega), TL.codes_len, List.length_take, show i - min i l.length = 0 by omega]
  rfl
theorem TL.texts_at (s : TL) {l : List DeedM} {i : Nat} {d : DeedM} (h : l[i]? = some d) : (s.texts l)[i]? = some ((s.run (l.take i)).step d).1.now := by
  have hl := (List.getElem?_eq_some_iff.1 h).1
  have e : l = l.take (i + 1) ++ l.drop (i + 1) := (List.take_append_drop _ _).symm
  rw [e, TL.texts_append, List.getElem?_append_left (by rw [TL.texts_len, List.length_take]; omega), ← e, TL.texts_next s h, List.getElem?_append_right (by rw [TL.texts_len, List.length_take]; omega), TL.texts_len, List.length_take, show i - min i l.length = 0 by omega]
  rfl

/-- undone so often, and as often redone -/
theorem run_back (s : TL) : ∀ n, n ≤ s.p → 0 < n → s.run (List.replicate n uD) = ⟨s.ts, s.p - n, false⟩ := by
  intro n
  induction n with
  | zero => intro _ h0; omega
  | succ n ih =>
    intro hn _
    rw [List.replicate_succ', TL.run_append]
    show ((s.run (List.replicate n uD)).step uD).1 = _
    by_cases h0 : n = 0
    · subst h0
      show (s.step uD).1 = _
      rw [step_u (by omega)]
    · rw [ih (by omega) (by omega), step_u (by show s.p - n ≠ 0; omega)]
      show (⟨s.ts, s.p - n - 1, false⟩ : TL) = _
      rw [Nat.sub_sub]
theorem run_there {ts : List Bs} {p : Nat} : ∀ n, p + n < ts.length → 0 < n → (⟨ts, p, false⟩ : TL).run (List.replicate n rD) = ⟨ts, p + n, false⟩ := by
  intro n
  induction n with
  | zero => intro _ h0; omega
  | succ n ih =>
    intro hn _
    rw [List.replicate_succ', TL.run_append]
    show (((⟨ts, p, false⟩ : TL).run (List.replicate n rD)).step rD).1 = _
    by_cases h0 : n = 0
    · subst h0
      show ((⟨ts, p, false⟩ : TL).step rD).1 = _
      rw [step_r (by show p + 1 ≠ ts.length; omega)]
    · rw [ih (by omega) (by omega), step_r (by show p + n + 1 ≠ ts.length; omega)]
      rfl
def moreOf (l : List DeedM) (k : Nat) : List DeedM := l ++ List.replicate k uD ++ List.replicate k rD
theorem there_run {s : TL} (h : s.ok) {k : Nat} (hk : k ≤ s.p) (k0 : 0 < k) : (s.run (List.replicate k uD)).run (List.replicate k rD) = ⟨s.ts, s.p, false⟩ := by
  have hl := h.lt
  rw [run_back s k hk k0, run_there k (by omega) k0, show s.p - k + k = s.p by omega]
theorem take_rep {α : Type} {i k : Nat} {x : α} (h : i ≤ k) : (List.replicate k x).take i = List.replicate i x := by
  rw [List.take_replicate, Nat.min_eq_left h]
theorem there_codes {s : TL} (h : s.ok) {k : Nat} (hk : k ≤ s.p) : ∀ c ∈ s.codes (List.replicate k uD ++ List.replicate k rD), c = 0 := by
  intro c hc
  have hl := h.lt
  rw [TL.codes_append] at hc
  rcases List.mem_append.1 hc with hc | hc
  · obtain ⟨i, hi⟩ := List.getElem?_of_mem hc
    have hlt := (List.getElem?_eq_some_iff.1 hi).1
    rw [TL.codes_len, List.length_replicate] at hlt
    rw [TL.codes_at s (d := uD) (by rw [List.getElem?_replicate, if_pos hlt]), take_rep (by omega)] at hi
    cases hi
    by_cases h0 : i = 0
    · subst h0
      show (s.step uD).2 = 0
      rw [step_u (by omega)]
    · rw [run_back s i (by omega) (by omega), step_u (by show s.p - i ≠ 0; omega)]
  · obtain ⟨i, hi⟩ := List.getElem?_of_mem hc
    have hlt := (List.getElem?_eq_some_iff.1 hi).1
    rw [TL.codes_len, List.length_replicate] at hlt
    rw [run_back s k hk (by omega)] at hi
    rw [TL.codes_at _ (d := rD) (by rw [List.getElem?_replicate, if_pos hlt]), take_rep (by omega)] at hi
    cases hi
    by_cases h0 : i = 0
    · subst h0
      show ((⟨s.ts, s.p - k, false⟩ : TL).step rD).2 = 0
      rw [step_r (by show s.p - k + 1 ≠ s.ts.length; omega)]
    · rw [run_there i (by omega) (by omega), step_r (by show s.p - k + i + 1 ≠ s.ts.length; omega)]

end Go.Proofs.Ytkeacipjjoeieaa.HistM
