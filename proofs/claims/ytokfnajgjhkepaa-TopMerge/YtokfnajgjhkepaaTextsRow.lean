/-
  A slice of lines as a row of values. No function is named.
-/
import Derived.Test.YtokfnajgjhkepaaBnd2
namespace Go.Proofs.Ytokfnajgjhkepaa.DiffL
open Go.RowKit Kit LineM StrM

theorem texts_row {w : World} {v : Value} {l : List ByteArray} (h : SlV 1 sc w v l) : Row w v (l.map (.string ·)) := by
  obtain ⟨a, cap, rfl, _, ha, _⟩ := h
  refine ⟨a, cap, by rw [List.length_map], fun hp => ?_⟩
  rw [List.length_map] at hp
  obtain ⟨g, off, e, hg, _⟩ := StAt.get ha (List.getElem?_eq_getElem hp)
  refine ⟨g, off, e, hg, fun i hi => ?_⟩
  rw [List.length_map] at hi
  obtain ⟨g', off', e', _, hc⟩ := StAt.get ha (List.getElem?_eq_getElem hi)
  rw [e] at e'
  simp only [Option.some.injEq, Addr.mk.injEq, and_true] at e'
  obtain ⟨rfl, rfl⟩ := e'
  rw [hc, List.getElem?_map, List.getElem?_eq_getElem hi]; rfl
end Go.Proofs.Ytokfnajgjhkepaa.DiffL
