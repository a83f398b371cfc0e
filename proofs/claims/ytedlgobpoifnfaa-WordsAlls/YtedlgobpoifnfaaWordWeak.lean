/-
  Words that a call is handed: read alone, their slices at whatever address.
-/
import Derived.Test.YtedlgobpoifnfaaWordAt
namespace Go.Proofs.Ytedlgobpoifnfaa.WordM
open Go.RowKit Kit LineM WordC

/-- integers that are read -/
def IsW (w : World) (v : Value) (l : List Int) : Prop := ∃ a cap, v = .slice a l.length cap ∧ IsAt w a l
theorem IsV.weak {w : World} {v : Value} {l : List Int} (h : IsV w v l) : IsW w v l := by
  obtain ⟨a, cap, e, _, ha, _⟩ := h
  exact ⟨a, cap, e, ha⟩
theorem IsW.next {w w' : World} {v : Value} {l : List Int} (h : IsW w v l) (hb : Below w.heap.size w w') : IsW w' v l := by
  obtain ⟨a, cap, e, ha⟩ := h
  exact ⟨a, cap, e, SlAt.next ha hb⟩
theorem IsW.form {w : World} {u : Value} {l : List Int} (h : IsW w u l) : ∃ a n cap, u = .slice a n cap := by
  obtain ⟨a, cap, rfl, _⟩ := h
  exact ⟨_, _, _, rfl⟩
/-- words that are read -/
def WsW (w : World) (v : Value) (l : List (List UInt8 × List Int)) : Prop := ∃ us : List Wt, l = us.map rd ∧ (∃ a cap, v = .slice a us.length cap ∧ SlAt 2 cw w a us) ∧ ∀ t ∈ us, IsW w t.2.1 t.2.2
theorem WsV.weak {w : World} {v : Value} {l : List (List UInt8 × List Int)} (h : WsV w v l) : WsW w v l := by
  obtain ⟨us, h1, ⟨a, cap, e, _, ha, _⟩, h3⟩ := h
  exact ⟨us, h1, ⟨a, cap, e, ha⟩, fun t ht => IsV.weak (h3 t ht)⟩
theorem WsW.next {w w' : World} {v : Value} {l : List (List UInt8 × List Int)} (h : WsW w v l) (hb : Below w.heap.size w w') : WsW w' v l := by
  obtain ⟨us, h1, ⟨a, cap, e, ha⟩, h3⟩ := h
  exact ⟨us, h1, ⟨a, cap, e, ha.next hb⟩, fun t ht => (h3 t ht).next hb⟩
theorem WsW.form {w : World} {v : Value} {l : List (List UInt8 × List Int)} (h : WsW w v l) : ∃ a cap, v = .slice a l.length cap := by
  obtain ⟨us, rfl, ⟨a, cap, e, _⟩, _⟩ := h
  exact ⟨a, cap, by rw [e, List.length_map]⟩
/-- one word of it -/
theorem WsW.get {w : World} {a : Option Addr} {n cap : Nat} {l : List (List UInt8 × List Int)} (h : WsW w (.slice a n cap) l) {i : Nat} {p : List UInt8 × List Int} (hi : l[i]? = some p) :
    ∃ g off u, a = some ⟨g, off, none⟩ ∧ g < w.heap.size ∧ w.cell? ⟨g, off + i * 2, none⟩ = some (.string (bs p.1)) ∧ w.cell? ⟨g, off + i * 2 + 1, none⟩ = some u ∧ IsW w u p.2 := by
  obtain ⟨us, rfl, ⟨a', cap', e, h2⟩, h3⟩ := h
  rw [List.getElem?_map] at hi
  cases hu : us[i]? with
  | none => rw [hu] at hi; cases hi
  | some t =>
    rw [hu] at hi
    simp only [Option.map_some, Option.some.injEq] at hi
    subst hi
    cases e
    obtain ⟨g, off, e0, e1, hc⟩ := h2.cell i t hu
    exact ⟨g, off, t.2.1, e0, e1, by have := hc 0 (by omega); simpa [cw, rd] using this, by have := hc 1 (by omega); simpa [cw] using this, h3 t (List.mem_of_getElem? hu)⟩
end Go.Proofs.Ytedlgobpoifnfaa.WordM
