/-
  The lines of a text into which something is put within one line. Plain lists.
-/
import Derived.Test.YtokfnajgjhkepaaBnd2
import Derived.Test.YtokfnajgjhkepaaBnd1
namespace Go.Proofs.Ytokfnajgjhkepaa.DiffM
open LinesM

theorem cut_app : ∀ (a b : List UInt8) {i r : List (List UInt8)} {z y : List UInt8}, cut a = i ++ [z] → cut b = y :: r → cut (a ++ b) = i ++ [z ++ y] ++ r
  | [], b, i, r, z, y, ha, hb => by
    have h : ([[]] : List (List UInt8)) = i ++ [z] := ha
    cases i with
    | nil =>
      have hz : z = [] := by simpa using h.symm
      rw [hz]; simpa using hb
    | cons x i => simp at h
  | c :: a, b, i, r, z, y, ha, hb => by
    obtain ⟨i', z', ha'⟩ : ∃ i' z', cut a = i' ++ [z'] := by
      rcases List.eq_nil_or_concat (cut a) with h | ⟨l, x, h⟩
      · exact absurd h (cut_ne a)
      · exact ⟨l, x, by rw [h, List.concat_eq_append]⟩
    have ih := cut_app a b ha' hb
    have e1 : cut (c :: a) = if c = 10 then [] :: cut a else put c (cut a) := rfl
    have e2 : cut (c :: (a ++ b)) = if c = 10 then [] :: cut (a ++ b) else put c (cut (a ++ b)) := rfl
    rw [List.cons_append, e2]
    rw [e1] at ha
    by_cases hc : c = 10
    · rw [if_pos hc] at ha ⊢
      rw [ha'] at ha
      have h2 : i = [] :: i' ∧ z = z' := by
        have := List.append_inj' (s₁ := i) (t₁ := [z]) (s₂ := [] :: i') (t₂ := [z']) (by rw [← ha]; rfl) rfl
        exact ⟨this.1, by simpa using this.2⟩
      rw [ih, h2.1, h2.2]; rfl
    · rw [if_neg hc] at ha ⊢
      rw [ih, put_append c (by simp)]
      obtain ⟨i2, z2, h1, h2⟩ := put_last c (r := cut a) ha'
      rw [h1] at ha
      have h3 := List.append_inj' (s₁ := i2) (t₁ := [z2]) (s₂ := i) (t₂ := [z]) ha rfl
      have h4 : z2 = z := by simpa using h3.2
      rw [h2 y, h3.1, h4]
theorem cut_put {p : List UInt8} (hp : cut p = [p]) (a b : List UInt8) : ∃ (i r : List (List UInt8)) (z y : List UInt8), cut (a ++ b) = i ++ [z ++ y] ++ r ∧ cut (a ++ p ++ b) = i ++ [z ++ p ++ y] ++ r := by
  obtain ⟨i, z, ha⟩ : ∃ i z, cut a = i ++ [z] := by
    rcases List.eq_nil_or_concat (cut a) with h | ⟨l, x, h⟩
    · exact absurd h (cut_ne a)
    · exact ⟨l, x, by rw [h, List.concat_eq_append]⟩
  obtain ⟨y, r, hb⟩ : ∃ y r, cut b = y :: r := by
    cases h : cut b with
    | nil => exact absurd h (cut_ne b)
    | cons y r => exact ⟨y, r, rfl⟩
  refine ⟨i, r, z, y, cut_app a b ha hb, ?_⟩
  have h1 := cut_app p b (i := []) (z := p) (by rw [hp]; rfl) hb
  rw [List.append_assoc, cut_app a (p ++ b) ha (y := p ++ y) (r := r) (by rw [h1]; rfl)]
  simp
section
variable {α : Type}
theorem cost_mid {i r : List α} {x y : α} (h : x ≠ y) : cost (i ++ [x] ++ r) (i ++ [y] ++ r) = 2 := by
  rw [cost_frame]
  have h1 := cost_eq [x] [y]
  have h2 := lcs_other h ([] : List α) []
  rw [lcs_nil_left, lcs_nil_right] at h2
  rw [h2] at h1
  simpa using h1
end
end Go.Proofs.Ytokfnajgjhkepaa.DiffM
