/-
  Edits of a list, one by one: a slice of one of them; that they fit.
-/
import Derived.Test.YtedlgobpoifnfaaEditsA
import Derived.Test.YtedlgobpoifnfaaEditApplyV
namespace Go.Proofs.Ytedlgobpoifnfaa.EditK
open Go.RowKit Kit EditM

/-- a slice of one element of a slice of edits -/
theorem es_sub {w : World} {g off c i : Nat} {es : List EdM} {e : EdM} (h : EdsAt w (some ⟨g, off, none⟩) es) (hi : es[i]? = some e) (hc : 1 ≤ c) (hg : g < w.heap.size) : EdsV w (.slice (some ⟨g, off + i * 3, none⟩) 1 c) [e] := by
  refine ⟨_, c, rfl, hc, ⟨fun j o hj => ?_⟩, .inr ⟨_, _, rfl, hg⟩⟩
  have hj0 : j = 0 := by have := (List.getElem?_eq_some_iff.1 hj).1; simpa using this
  subst hj0
  simp at hj; subst hj
  obtain ⟨g', off', e', h1, h2⟩ := SlAt.cell h i e hi
  simp only [Option.some.injEq, Addr.mk.injEq, and_true] at e'
  obtain ⟨rfl, rfl⟩ := e'
  exact ⟨g, off + i * 3, rfl, h1, fun k hk => by rw [Nat.zero_mul, Nat.add_zero]; exact h2 k hk⟩
/-- the edits of a list fit, one behind the other -/
theorem es_fit {es : List EdM} {t : Bs} (hc : apC es t = 0) {i : Nat} {e : EdM} (hi : es[i]? = some e) : e.fits (apT (es.take i) t) ∧ apT (es.take (i + 1)) t = e.step (apT (es.take i) t) ∧ apC [e] (apT (es.take i) t) = 0 ∧ apT [e] (apT (es.take i) t) = apT (es.take (i + 1)) t := by
  have h1 : apC (es.take i ++ es.drop i) t = 0 := by rw [List.take_append_drop]; exact hc
  have h2 := apC_tail _ _ _ h1
  rw [EditM.drop_next hi] at h2
  have hf : e.fault (apT (es.take i) t) = 0 := by
    refine Classical.byContradiction fun q => ?_
    simp only [apC, if_neg q] at h2
    exact q h2
  refine ⟨EdM.fits_of hf, apT_next hi, ?_, ?_⟩
  · simp only [apC, if_pos hf]
  · rw [apT_next hi]; rfl
end Go.Proofs.Ytedlgobpoifnfaa.EditK
