/-
  The number of binary digits. No program is named.
-/
import Derived.Test.YteahnhemcceebaaRopeTree
namespace Go.Proofs.Yteahnhemcceebaa.BitsM
open RopeM

/-- the number of binary digits -/
def bits (n : Nat) : Nat := if h : n = 0 then 0 else bits (n / 2) + 1
  termination_by n
  decreasing_by omega
theorem bits_zero : bits 0 = 0 := by unfold bits; rfl
theorem bits_pos {n : Nat} (h : 0 < n) : bits n = bits (n / 2) + 1 := by
  rw [bits.eq_1]
  rw [dif_neg (by omega)]
theorem lt_bits : ∀ (k n : Nat), 2 ^ k ≤ n → k < bits n
  | 0, n, h => by
    have h' : 0 < n := by simp at h; omega
    rw [bits_pos h']; omega
  | k + 1, n, h => by
    have h1 : 2 ^ k ≤ n / 2 := by rw [Nat.pow_succ] at h; omega
    have h2 := lt_bits k (n / 2) h1
    have h3 : 0 < 2 ^ (k + 1) := Nat.pow_pos (by omega)
    rw [bits_pos (by omega)]; omega
theorem bits_le : ∀ (k n : Nat), n < 2 ^ k → bits n ≤ k
  | 0, n, h => by
    have : n = 0 := by simpa using h
    subst this; rw [bits_zero]; omega
  | k + 1, n, h => by
    rcases Nat.eq_zero_or_pos n with rfl | hn
    · rw [bits_zero]; omega
    · rw [bits_pos hn]
      have := bits_le k (n / 2) (by rw [Nat.pow_succ] at h; omega)
      omega
/-- the depth of a balanced tree, by the digits of its length -/
theorem dep_bits {t : RT} (h : t.ok) : t.dep ≤ 2 * bits t.len := by
  by_cases h0 : 0 < t.dep
  · have := lt_bits _ _ (RT.shallow h h0)
    omega
  · omega


end Go.Proofs.Yteahnhemcceebaa.BitsM
