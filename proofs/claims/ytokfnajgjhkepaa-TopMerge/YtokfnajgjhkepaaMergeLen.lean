/-
  How long versions are. Plain lists.
-/
import Derived.Test.YtokfnajgjhkepaaRefMake1
import Derived.Test.YtokfnajgjhkepaaBnd1
namespace Go.Proofs.Ytokfnajgjhkepaa.MergeT
open Go.RowKit DiffM

section
variable {la b : List ByteArray} {lo l i hi : Nat}
theorem seg_len (hb : b.length ≤ 80) (h : lo + l ≤ la.length + 1) : (seg la (marks la b).gone (marks la b).puts lo l).length ≤ 80 := by
  have h1 := marks_all la b
  have e : la.length + 1 = lo + (l + (la.length + 1 - lo - l)) := by omega
  rw [e, seg_add, seg_add, Nat.zero_add] at h1
  have h2 := congrArg List.length h1
  simp only [List.length_append] at h2
  omega
theorem puts_len (hb : b.length ≤ 80) : ((marks la b).puts i).length ≤ 80 := by
  by_cases h : i ≤ la.length
  · have h1 := seg_len (la := la) (lo := i) (l := 1) hb (by omega)
    have e : seg la (marks la b).gone (marks la b).puts i 1 = cellv la (marks la b).gone (marks la b).puts i := by simp [seg]
    rw [e] at h1
    unfold cellv at h1
    rw [List.length_append] at h1
    omega
  · have := ((marks_ti la b).far i (by rw [(marks_at la b).1]; omega)).1
    rw [this]; simp
theorem made_len (hb : b.length ≤ 80) (h1 : lo ≤ hi) (h2 : hi ≤ la.length) : (made la (marks la b).gone (marks la b).puts lo hi).length ≤ 80 := by
  have h := seg_len (la := la) (b := b) (lo := lo) (l := hi - lo + 1) hb (by omega)
  have e : seg la (marks la b).gone (marks la b).puts lo (hi - lo + 1) = seg la (marks la b).gone (marks la b).puts lo (hi - lo) ++ cellv la (marks la b).gone (marks la b).puts (lo + (hi - lo)) := rfl
  rw [e, show lo + (hi - lo) = hi by omega] at h
  unfold cellv at h
  unfold made
  simp only [List.length_append] at h ⊢
  omega
theorem sofar_len (hb : b.length ≤ 80) (h1 : lo ≤ hi) (h2 : hi ≤ la.length) : (sofar la (marks la b) lo hi i).length + ((marks la b).puts i).length ≤ 100000 := by
  have hp := puts_len (la := la) (b := b) (i := i) hb
  unfold sofar
  split
  · have := seg_len (la := la) (b := b) (lo := lo) (l := i - lo) hb (by omega)
    omega
  · have := made_len (la := la) (b := b) hb h1 h2
    omega
end
end Go.Proofs.Ytokfnajgjhkepaa.MergeT
