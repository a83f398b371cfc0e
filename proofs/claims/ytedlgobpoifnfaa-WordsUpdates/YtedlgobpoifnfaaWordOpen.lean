/-
  Words that come in: a slice of words, opened.
-/
import Derived.Test.YtedlgobpoifnfaaWordWeak
import Derived.ChangeSlices
import Derived.Lib.SmallJoins
namespace Go.Proofs.Ytedlgobpoifnfaa.WordM
open Go.ChangeShapes Go.RowKit Kit LineM WordC

/-- a word that came in -/
def Wt.has (W : World) (t : Wt) : Prop := IsW W t.2.1 t.2.2 ∧ t.2.2.length ≤ maxLen
theorem add_zero (x : Addr) : x.add 0 = x := by
  obtain ⟨b, o, s⟩ := x
  simp [Addr.add]
theorem isW_of {W : World} {x : Addr} {l c : Nat} {zs : List Int} (hl : l ≤ zs.length) (hcell : ∀ i, i < zs.length → W.cell? (x.add i) = some (.int .i64 (zs.getD i 0))) : IsW W (.slice (some x) l c) (zs.take l) := by
  have hlen : (zs.take l).length = l := by rw [List.length_take]; omega
  refine ⟨some x, c, by rw [hlen], ⟨fun i o hi => ?_⟩⟩
  have hil := (List.getElem?_eq_some_iff.1 hi).1
  rw [hlen] at hil
  have h0 := hcell 0 (by omega)
  rw [add_zero] at h0
  have s0 := spot_none h0
  have hlt := block_lt h0
  refine ⟨x.block, x.off, by rw [← s0], hlt, fun j hj => ?_⟩
  obtain rfl : j = 0 := by omega
  have h1 := hcell i (by omega)
  rw [add_of s0] at h1
  have ho : zs.getD i 0 = o := by
    rw [List.getElem?_take_of_lt hil] at hi
    simp [List.getD, hi]
  rw [ho] at h1
  rw [Nat.mul_one, Nat.add_zero, h1]; rfl
theorem list2 {α : Type} : ∀ {l : List α}, l.length = 2 → ∃ a b, l = [a, b]
  | [a, b], _ => ⟨a, b, rfl⟩
theorem open_word {H : Type} {enc : TypeId × Value → H} {W : World} {n : Nat} {cs : List Value} {x : DataW H × List MemPlace} (h : DataW.trod enc Try.prog W 0 (fun _ => true) true n 46 cs = some x) : ∃ t : Wt, cs = cw t ∧ t.has W := by
  obtain ⟨xs, k, _, _, hl, hxl, hf⟩ := DataW.trod_struct Try.underlying46 h
  have hc : Try.prog.cellsOf 46 = 2 := by kernel_rfl
  have h1 : Try.prog.cellsOf 9 = 1 := by kernel_rfl
  have h2 : Try.prog.cellsOf 28 = 1 := by kernel_rfl
  rw [hc] at hl
  obtain ⟨y0, y1, rfl⟩ := list2 hxl
  obtain ⟨v0, v1, rfl⟩ := list2 hl
  have g0 := hf 0 _ rfl
  have g1 := hf 1 _ rfl
  simp [h1, h2] at g0 g1
  obtain ⟨z0, e0, d0, _⟩ := DataW.trod_string Try.underlying9 g0
  simp at e0
  subst e0
  rcases open_ints Try.underlying28 Try.underlying3 (by kernel_rfl) g1 with ⟨hcs, _⟩ | ⟨x, l, c, zs, hcs, _, hle, hm, hz, _, hcell, hwz⟩
  · simp at hcs; subst hcs
    exact ⟨(z0.data.toList, .slice none 0 0, []), rfl, ⟨none, 0, rfl, SlAt.nil _ _⟩, by simp⟩
  · simp at hcs; subst hcs
    simp at hz
    refine ⟨(z0.data.toList, .slice (some x) l c, zs.take l), rfl, isW_of (by omega) hcell, ?_⟩
    show (zs.take l).length ≤ maxLen
    rw [List.length_take]; omega
theorem open_words {H : Type} {enc : TypeId × Value → H} {W : World} {fuel : Nat} {a : Option Addr} {len cap : Nat} {x : DataW H × List MemPlace} (h : DataW.trod enc Try.prog W 0 (fun _ => true) true fuel 22 [.slice a len cap] = some x) (hs : ∀ m ∈ x.1.weights Try.prog 22, m ≤ reachBytes) :
    ∃ l : List Wt, len = l.length ∧ SlAt 2 cw W a l ∧ (∀ t ∈ l, t.has W) ∧ len ≤ cap ∧ cap ≤ maxLen ∧ ((a = none ∧ cap = 0) ∨ ∃ g off, a = some ⟨g, off, none⟩ ∨ len = 0) :=
  open_list Try.underlying22 (by kernel_rfl) (by omega) cw_len (Wt.has W) (fun _ _ _ h _ => open_word h) h hs
end Go.Proofs.Ytedlgobpoifnfaa.WordM
