/-
  Plain mathematics of package pos: valid extents; lines and columns of a list of bytes. No program is named.
-/
import Derived.WalkKit
namespace Go.Proofs.Ytcknmaimkodaeaa.PosM

def fitsB (x : Int) : Bool := decide (0 ≤ x) && decide (x ≤ 1099511627776)
def mayB (b l c : Int) : Bool := fitsB b && fitsB l && fitsB c && (if l = 0 then c == b else decide (l + c ≤ b))

theorem fitsB_iff (x : Int) : fitsB x = true ↔ 0 ≤ x ∧ x ≤ 1099511627776 := by simp [fitsB]

/-- how many line feeds -/
def lns (l : List UInt8) : Nat := l.count 10
/-- how many bytes behind the last line feed -/
def col (l : List UInt8) : Nat := (l.reverse.takeWhile (· != 10)).length

theorem lns_nil : lns [] = 0 := rfl
theorem col_nil : col [] = 0 := rfl
theorem lns_append (a b : List UInt8) : lns (a ++ b) = lns a + lns b := by simp [lns]
theorem lns_snoc (l : List UInt8) (c : UInt8) : lns (l ++ [c]) = lns l + if c = 10 then 1 else 0 := by
  rw [lns_append]; simp only [lns, List.count_singleton]; simp
theorem col_snoc (l : List UInt8) (c : UInt8) : col (l ++ [c]) = if c = 10 then 0 else col l + 1 := by
  unfold col
  rw [List.reverse_append]
  by_cases h : c = 10 <;> simp [h]
theorem snocInd {p : List UInt8 → Prop} (h0 : p []) (h1 : ∀ l c, p l → p (l ++ [c])) (l : List UInt8) : p l := by
  have : ∀ r : List UInt8, p r.reverse := by
    intro r
    induction r with
    | nil => exact h0
    | cons c r ih => rw [List.reverse_cons]; exact h1 _ _ ih
  have h := this l.reverse
  rwa [List.reverse_reverse] at h
theorem col_append (a b : List UInt8) : col (a ++ b) = if lns b = 0 then col a + b.length else col b := by
  revert b
  refine snocInd ?_ ?_
  · simp [lns]
  · intro l c ih
    rw [← List.append_assoc, col_snoc, ih, lns_snoc, col_snoc]
    by_cases h : c = 10
    · simp [h]
    · simp only [h, if_false, Nat.add_zero, List.length_append, List.length_singleton]
      split <;> omega
theorem lns_col_le (l : List UInt8) : lns l + col l ≤ l.length := by
  revert l
  refine snocInd ?_ ?_
  · simp [lns, col]
  · intro l c ih
    rw [lns_snoc, col_snoc, List.length_append, List.length_singleton]
    by_cases h : c = 10
    · simp only [h, if_true]; omega
    · simp only [h, if_false]; omega
theorem col_of_lns_zero {l : List UInt8} (h : lns l = 0) : col l = l.length := by
  have := col_append [] l
  rw [if_pos h, col_nil] at this
  simpa using this

theorem mayB_of (l : List UInt8) (h : l.length ≤ 1099511627776) : mayB l.length (lns l) (col l) = true := by
  have h1 := lns_col_le l
  have h2 : lns l = 0 → col l = l.length := col_of_lns_zero
  simp only [mayB, Bool.and_eq_true, fitsB_iff]
  refine ⟨⟨⟨?_, ?_⟩, ?_⟩, ?_⟩
  · omega
  · omega
  · omega
  · by_cases h0 : lns l = 0
    · simp [h0, h2 h0]
    · rw [if_neg (by omega)]; simp; omega

/-! ### counting from the end -/
theorem tw_step (p : UInt8 → Bool) : ∀ (r : List UInt8) (k : Nat) (hk : k < r.length), k ≤ (r.takeWhile p).length →
    (p r[k] = true → k + 1 ≤ (r.takeWhile p).length) ∧ (p r[k] = false → (r.takeWhile p).length = k)
  | c :: r, 0, _, _ => by
    constructor
    · intro h; simp at h; simp [h]
    · intro h; simp at h; simp [h]
  | c :: r, k + 1, hk, hle => by
    have hc : p c = true := by
      cases h : p c
      · simp [h] at hle
      · rfl
    have e : ((c :: r).takeWhile p).length = (r.takeWhile p).length + 1 := by simp [hc]
    rw [e] at hle ⊢
    have := tw_step p r k (by simpa using hk) (by omega)
    simp only [List.getElem_cons_succ]
    exact ⟨fun h => by have := this.1 h; omega, fun h => by have := this.2 h; omega⟩
theorem col_step (l : List UInt8) (k : Nat) (hk : k < l.length) (hle : k ≤ col l) :
    (l[l.length - 1 - k]'(by omega) ≠ 10 → k + 1 ≤ col l) ∧ (l[l.length - 1 - k]'(by omega) = 10 → col l = k) := by
  have := tw_step (· != 10) l.reverse k (by simpa using hk) hle
  rw [List.getElem_reverse] at this
  exact ⟨fun h => this.1 (by simpa using h), fun h => this.2 (by simpa using h)⟩
theorem col_len (l : List UInt8) : col l ≤ l.length := by have := lns_col_le l; omega

/-! ### places and their lines and columns -/
theorem take_split (l : List UInt8) {i k : Nat} (h : i ≤ k) : l.take k = l.take i ++ (l.drop i).take (k - i) := by
  rw [← List.take_add, Nat.add_sub_cancel' h]
theorem pos_lt (l : List UInt8) {i k : Nat} (h : i < k) (hk : k ≤ l.length) :
    lns (l.take i) < lns (l.take k) ∨ lns (l.take i) = lns (l.take k) ∧ col (l.take i) < col (l.take k) := by
  rw [take_split l (Nat.le_of_lt h), lns_append, col_append]
  by_cases h0 : lns ((l.drop i).take (k - i)) = 0
  · right
    rw [if_pos h0, h0]
    refine ⟨by omega, ?_⟩
    rw [List.length_take, List.length_drop]
    omega
  · left; omega
theorem pos_inj (l : List UInt8) {i k : Nat} (hi : i ≤ l.length) (hk : k ≤ l.length) (h1 : lns (l.take i) = lns (l.take k)) (h2 : col (l.take i) = col (l.take k)) : i = k := by
  rcases Nat.lt_trichotomy i k with h | h | h
  · have := pos_lt l h hk; omega
  · exact h
  · have := pos_lt l h hi; omega

/-- the length of the first line -/
def first (l : List UInt8) : Nat := (l.takeWhile (· != 10)).length
theorem first_le (l : List UInt8) : first l ≤ l.length := by
  unfold first; exact (List.takeWhile_sublist _).length_le
theorem first_clean (l : List UInt8) {c : Nat} (h : c ≤ first l) : lns (l.take c) = 0 := by
  unfold lns
  rw [List.count_eq_zero]
  intro hm
  have : (10 : UInt8) ∈ l.takeWhile (· != 10) := by
    have e : l.take c = (l.takeWhile (· != 10)).take c := by
      conv => lhs; rw [← List.takeWhile_append_dropWhile (p := (· != 10)) (l := l)]
      rw [List.take_append_of_le_length h]
    rw [e] at hm
    exact List.mem_of_mem_take hm
  have := List.all_takeWhile (p := (· != 10)) (l := l)
  rw [List.all_eq_true] at this
  have := this 10 (by assumption)
  simp at this
theorem first_feed (l : List UInt8) (h : first l < l.length) : l[first l] = 10 := by
  have := tw_step (· != 10) l (first l) h (Nat.le_refl _)
  by_cases e : l[first l] = 10
  · exact e
  · have := this.1 (by simpa using e)
    unfold first at this; omega

/-- the only place of a line and a column, from the line's start -/
theorem place_iff (l : List UInt8) {st line c at' : Nat} (hst : st ≤ l.length) (h1 : lns (l.take st) = line) (h2 : col (l.take st) = 0) (hat : at' ≤ l.length) :
    (lns (l.take at') = line ∧ col (l.take at') = c) ↔ (at' = st + c ∧ c ≤ first (l.drop st)) := by
  have hf := first_le (l.drop st)
  rw [List.length_drop] at hf
  have key : ∀ c, c ≤ first (l.drop st) → lns (l.take (st + c)) = line ∧ col (l.take (st + c)) = c := by
    intro c hc
    have h0 := first_clean (l.drop st) hc
    rw [take_split l (Nat.le_add_right st c), Nat.add_sub_cancel_left, lns_append, col_append, h0, if_pos rfl, h1, h2, List.length_take, List.length_drop]
    omega
  constructor
  · rintro ⟨g1, g2⟩
    by_cases hc : c ≤ first (l.drop st)
    · exact ⟨pos_inj l hat (by omega) (g1.trans (key c hc).1.symm) (g2.trans (key c hc).2.symm), hc⟩
    · exfalso
      have k1 := key (first (l.drop st)) (Nat.le_refl _)
      have hlt : st + first (l.drop st) < at' := by
        rcases Nat.lt_trichotomy (st + first (l.drop st)) at' with h | h | h
        · exact h
        · rw [← h] at g2; omega
        · have := pos_lt l h (by omega); omega
      have hfe := first_feed (l.drop st) (by rw [List.length_drop]; omega)
      rw [List.getElem_drop] at hfe
      have e : l.take (st + first (l.drop st) + 1) = l.take (st + first (l.drop st)) ++ [10] := by
        rw [List.take_succ_eq_append_getElem (by omega), hfe]
      have e2 : lns (l.take (st + first (l.drop st) + 1)) = line + 1 := by rw [e, lns_snoc, k1.1]; simp
      rw [take_split l (show st + first (l.drop st) + 1 ≤ at' by omega), lns_append] at g1
      omega
  · rintro ⟨rfl, hc⟩
    exact key c hc

/-- one line on: behind the next feed -/
theorem next_line (l : List UInt8) {st : Nat} (h2 : col (l.take st) = 0) (hlt : st + first (l.drop st) < l.length) :
    lns (l.take (st + first (l.drop st) + 1)) = lns (l.take st) + 1 ∧ col (l.take (st + first (l.drop st) + 1)) = 0 := by
  have k1 := (place_iff l (c := first (l.drop st)) (at' := st + first (l.drop st)) (by omega) rfl h2 (by omega)).2 ⟨rfl, Nat.le_refl _⟩
  have hfe := first_feed (l.drop st) (by rw [List.length_drop]; omega)
  rw [List.getElem_drop] at hfe
  have e : l.take (st + first (l.drop st) + 1) = l.take (st + first (l.drop st)) ++ [10] := by
    rw [List.take_succ_eq_append_getElem (by omega), hfe]
  rw [e, lns_snoc, col_snoc, k1.1]
  simp
/-- no line more: no feed is left -/
theorem last_line (l : List UInt8) {st : Nat} (hst : st ≤ l.length) (h : st + first (l.drop st) = l.length) : lns l = lns (l.take st) := by
  have h0 := first_clean (l.drop st) (c := l.length - st) (by omega)
  have := take_split l hst
  rw [List.take_length] at this
  conv => lhs; rw [this]
  rw [lns_append, h0]; rfl

end Go.Proofs.Ytcknmaimkodaeaa.PosM
