/-
  How long merged lines are. Plain lists.
-/
import Derived.Test.YtokfnajgjhkepaaMergeLen
namespace Go.Proofs.Ytokfnajgjhkepaa.MergeT
open Go.RowKit DiffM

section
variable {m1 m2 m3 : ByteArray} {la b c : List ByteArray}
theorem pick_len {uA uB : Prop} (x y : List ByteArray) : (pick m1 m2 m3 uA uB x y).1.length ≤ x.length + y.length + 3 := by
  unfold pick
  split
  · dsimp only; omega
  · split
    · dsimp only; omega
    · simp; omega
theorem mtail_len (hb : b.length ≤ 80) (hc : c.length ≤ 80) : ∀ m i, la.length + 1 - i ≤ m → (mtail m1 m2 m3 la (marks la b) (marks la c) i).1.length ≤ 200 * (la.length + 1 - i)
  | m, i, hm => by
    by_cases h : i ≤ la.length
    · match m, hm with
      | 0, hm => omega
      | m + 1, hm =>
        by_cases hg : (marks la b).gap i = false ∧ (marks la c).gap i = false
        · have h1 := mtail_len hb hc m (i + 1) (by omega)
          rw [mtail_off h hg]
          simp only [List.length_append]
          have : ((la[i]?).toList).length ≤ 1 := by cases la[i]? <;> simp
          omega
        · have hr := reach_le (g := both (marks la b) (marks la c)) h
          have h1 := mtail_len hb hc m (reach (both (marks la b) (marks la c)) la.length i + 1) (by omega)
          rw [mtail_on h hg]
          generalize reach (both (marks la b) (marks la c)) la.length i = hi at *
          have hx := made_len (la := la) (b := b) hb hr.1 hr.2
          have hy := made_len (la := la) (b := c) hc hr.1 hr.2
          have hp := pick_len (m1 := m1) (m2 := m2) (m3 := m3) (uA := uses (marks la b).gap i hi) (uB := uses (marks la c).gap i hi) (made la (marks la b).gone (marks la b).puts i hi) (made la (marks la c).gone (marks la c).puts i hi)
          unfold region
          simp only [List.length_append]
          have : ((la[hi]?).toList).length ≤ 1 := by cases la[hi]? <;> simp
          omega
    · rw [mtail_end h]; simp
theorem mrg_len (ha : la.length ≤ 80) (hb : b.length ≤ 80) (hc : c.length ≤ 80) : (mrg m1 m2 m3 la b c).1.length ≤ 100000 := by
  have := mtail_len (m1 := m1) (m2 := m2) (m3 := m3) (la := la) hb hc _ 0 (Nat.le_refl _)
  unfold mrg
  omega
end
end Go.Proofs.Ytokfnajgjhkepaa.MergeT
