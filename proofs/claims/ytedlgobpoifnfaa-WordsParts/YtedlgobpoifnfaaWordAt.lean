/-
  Words in memory: a slice of words, each with its places.
-/
import Derived.Test.YtedlgobpoifnfaaLineAt
import Derived.Test.YtedlgobpoifnfaaWordMath
import Derived.Test.YtedlgobpoifnfaaWordEach
namespace Go.Proofs.Ytedlgobpoifnfaa.WordM
open Go.RowKit Kit LineM WordC

/-- a word: its bytes, the slice of its places as a value, its places -/
abbrev Wt := List UInt8 × Value × List Int
def cw (t : Wt) : List Value := [.string (bs t.1), t.2.1]
def rd (t : Wt) : List UInt8 × List Int := (t.1, t.2.2)
theorem cw_len (t : Wt) : (cw t).length = 2 := rfl
theorem infoWord : (Try.prog.info? 46).map (fun i => (i.zero, i.size, i.bytes)) = some (some (.agg #[.string ByteArray.empty, .slice none 0 0]), 2, 40) := by kernel_rfl
/-- a slice of words reads as l -/
def WsV (w : World) (v : Value) (l : List (List UInt8 × List Int)) : Prop := ∃ us : List Wt, l = us.map rd ∧ SlV 2 cw w v us ∧ ∀ t ∈ us, IsV w t.2.1 t.2.2
theorem WsV.next {w w' : World} {v : Value} {l : List (List UInt8 × List Int)} (h : WsV w v l) (hb : Below w.heap.size w w') : WsV w' v l := by
  obtain ⟨us, h1, h2, h3⟩ := h
  exact ⟨us, h1, h2.next hb, fun t ht => SlV.next (h3 t ht) hb⟩
theorem WsV.nil (w : World) : WsV w (.slice none 0 0) [] := ⟨[], rfl, SlV.nil w, fun t ht => by simp at ht⟩
theorem WsV.form {w : World} {v : Value} {l : List (List UInt8 × List Int)} (h : WsV w v l) : ∃ a cap, v = .slice a l.length cap := by
  obtain ⟨us, rfl, ⟨a, cap, e, _⟩, _⟩ := h
  exact ⟨a, cap, by rw [e, List.length_map]⟩
/-- one word of it -/
theorem WsV.get {w : World} {a : Option Addr} {n cap : Nat} {l : List (List UInt8 × List Int)} (h : WsV w (.slice a n cap) l) {i : Nat} {p : List UInt8 × List Int} (hi : l[i]? = some p) :
    ∃ g off u, a = some ⟨g, off, none⟩ ∧ g < w.heap.size ∧ w.cell? ⟨g, off + i * 2, none⟩ = some (.string (bs p.1)) ∧ w.cell? ⟨g, off + i * 2 + 1, none⟩ = some u ∧ IsV w u p.2 := by
  obtain ⟨us, rfl, ⟨a', cap', e, _, h2, _⟩, h3⟩ := h
  rw [List.getElem?_map] at hi
  cases hu : us[i]? with
  | none => rw [hu] at hi; cases hi
  | some t =>
    rw [hu] at hi
    simp only [Option.map_some, Option.some.injEq] at hi
    subst hi
    cases e
    obtain ⟨g, off, e0, e1, hc⟩ := h2.cell i t hu
    exact ⟨g, off, t.2.1, e0, e1, by have := hc 0 (by omega); simpa [cw, rd] using this, by have := hc 1 (by omega); simpa [cw] using this, h3 t (List.mem_of_getElem? hu)⟩
/-- words, made by a call -/
def WsPost (w0 : World) (l : List (List UInt8 × List Int)) (e : Ending) (w' : World) : Prop := ∃ v, e = .returned v ∧ WsV w' v l ∧ Below w0.heap.size w0 w'
/-- words and a code -/
def WcPost (w0 : World) (l : List (List UInt8 × List Int)) (c : Int) (e : Ending) (w' : World) : Prop := ∃ v, e = .returned (.tuple #[v, .int .i64 c]) ∧ WsV w' v l ∧ Below w0.heap.size w0 w'
end Go.Proofs.Ytedlgobpoifnfaa.WordM
