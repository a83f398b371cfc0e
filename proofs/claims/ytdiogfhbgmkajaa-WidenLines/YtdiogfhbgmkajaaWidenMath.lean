/-
  Whole lines, on plain lists of bytes. No program is named.
-/
import Derived.Test.YtdiogfhbgmkajaaPosMath
namespace Go.Proofs.Ytdiogfhbgmkajaa.WideM
open PosM
abbrev Bs := List UInt8
/-- where the line of the place x begins -/
def wl (l : Bs) (x : Nat) : Nat := x - col (l.take x)
/-- behind the first feed at or behind x, or the end -/
def wh (l : Bs) (x : Nat) : Nat := if first (l.drop x) < (l.drop x).length then x + first (l.drop x) + 1 else l.length
structure Ls (l : Bs) (lo x : Nat) : Prop where
  le : x ≤ lo
  at_ : x = 0 ∨ ∃ y, x = y + 1 ∧ l[y]? = some 10
  clean : ∀ i, x ≤ i → i < lo → l[i]? ≠ some 10
structure Le (l : Bs) (hi y : Nat) : Prop where
  ge : hi ≤ y
  le : y ≤ l.length
  or_ : (∃ z, y = z + 1 ∧ hi ≤ z ∧ l[z]? = some 10 ∧ ∀ i, hi ≤ i → i < z → l[i]? ≠ some 10) ∨ (y = l.length ∧ ∀ i, hi ≤ i → i < l.length → l[i]? ≠ some 10)
theorem wl_ls (l : Bs) {lo : Nat} (h : lo ≤ l.length) : Ls l lo (wl l lo) := by
  have hlen : (l.take lo).length = lo := by rw [List.length_take]; omega
  have hc := col_len (l.take lo)
  rw [hlen] at hc
  have get : ∀ i (hi : i < (l.take lo).length), l[i]? = some (l.take lo)[i] := fun i hi => by
    rw [List.getElem_take, List.getElem?_eq_getElem]
  refine ⟨by unfold wl; omega, ?_, fun i h1 h2 => ?_⟩
  · by_cases q : col (l.take lo) < lo
    · right
      have hs := col_step (l.take lo) (col (l.take lo)) (by omega) (Nat.le_refl _)
      have e10 : (l.take lo)[(l.take lo).length - 1 - col (l.take lo)]'(by omega) = 10 := by
        refine Classical.byContradiction fun q => ?_
        have := hs.1 q; omega
      refine ⟨lo - 1 - col (l.take lo), by unfold wl; omega, ?_⟩
      rw [get _ (by omega)]
      simp only [hlen] at e10
      rw [e10]
    · left; unfold wl; omega
  · unfold wl at h1
    have hs := col_step (l.take lo) (lo - 1 - i) (by omega) (by omega)
    rw [get i (by omega)]
    intro e
    have e' : (l.take lo)[i]'(by omega) = 10 := by simpa using e
    have ei : (l.take lo).length - 1 - (lo - 1 - i) = i := by omega
    simp only [ei] at hs
    have := hs.2 e'
    omega
theorem first_no (l : Bs) (i : Nat) (h : i < first l) : l[i]? ≠ some 10 := by
  have hl := first_le l
  have := first_clean l (c := i + 1) (by omega)
  intro e
  unfold lns at this
  rw [List.count_eq_zero] at this
  apply this
  have : (l.take (i + 1))[i]? = some 10 := by rw [List.getElem?_take, if_pos (by omega), e]
  exact List.mem_of_getElem? this
theorem wh_le (l : Bs) {hi : Nat} (h : hi ≤ l.length) : Le l hi (wh l hi) := by
  have hf := first_le (l.drop hi)
  have hlen : (l.drop hi).length = l.length - hi := List.length_drop
  unfold wh
  split
  · rename_i q
    refine ⟨by omega, by omega, .inl ⟨hi + first (l.drop hi), rfl, by omega, ?_, fun i h1 h2 => ?_⟩⟩
    · have := first_feed (l.drop hi) q
      have e : (l.drop hi)[first (l.drop hi)]? = some 10 := by rw [List.getElem?_eq_getElem q, this]
      rw [List.getElem?_drop] at e
      exact e
    · have := first_no (l.drop hi) (i - hi) (by omega)
      rw [List.getElem?_drop, show hi + (i - hi) = i by omega] at this
      exact this
  · rename_i q
    refine ⟨h, Nat.le_refl _, .inr ⟨rfl, fun i h1 h2 => ?_⟩⟩
    have := first_no (l.drop hi) (i - hi) (by omega)
    rw [List.getElem?_drop, show hi + (i - hi) = i by omega] at this
    exact this
end Go.Proofs.Ytdiogfhbgmkajaa.WideM
