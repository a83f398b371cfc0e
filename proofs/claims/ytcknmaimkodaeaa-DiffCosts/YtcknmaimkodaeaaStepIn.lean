/-
  Steps that come in: pairs of integers, opened. No function is named.
-/
import Derived.Test.YtcknmaimkodaeaaStepAt
namespace Go.Proofs.Ytcknmaimkodaeaa.DiffA
open Go.ChangeShapes Go.RowKit Kit LineM

/-- a step that came in: two numbers -/
def sci (p : Int × Int) : List Value := [.int .i64 p.1, .int .i64 p.2]
theorem sci_len (p : Int × Int) : (sci p).length = 2 := rfl
theorem sci_get {w : World} {a : Option Addr} {l : List (Int × Int)} (h : SlAt 2 sci w a l) {i : Nat} {p : Int × Int} (hi : l[i]? = some p) : ∃ g off, a = some ⟨g, off, none⟩ ∧ g < w.heap.size ∧ w.cell? ⟨g, off + i * 2, none⟩ = some (.int .i64 p.1) ∧ w.cell? ⟨g, off + i * 2 + 1, none⟩ = some (.int .i64 p.2) := by
  obtain ⟨g, off, e, hg, hc⟩ := h.cell i p hi
  refine ⟨g, off, e, hg, ?_, ?_⟩
  · have := hc 0 (by omega)
    simpa [sci] using this
  · have := hc 1 (by omega)
    simpa [sci] using this
theorem list2 {α : Type} : ∀ {l : List α}, l.length = 2 → ∃ a b, l = [a, b]
  | [a, b], _ => ⟨a, b, rfl⟩
def okP (p : Int × Int) : Prop := I64 p.1 ∧ I64 p.2
theorem open_step {H : Type} {enc : TypeId × Value → H} {W : World} {n : Nat} {cs : List Value} {x : DataW H × List MemPlace} (h : DataW.trod enc Try.prog W 0 (fun _ => true) true n 28 cs = some x) : ∃ p : Int × Int, cs = sci p ∧ okP p := by
  obtain ⟨xs, k, _, hx, hl, hxl, hf⟩ := DataW.trod_struct Try.underlying28 h
  have hc : Try.prog.cellsOf 28 = 2 := by kernel_rfl
  have h1 : Try.prog.cellsOf 3 = 1 := by kernel_rfl
  rw [hc] at hl
  obtain ⟨y0, y1, rfl⟩ := list2 hxl
  obtain ⟨v0, v1, rfl⟩ := list2 hl
  have g0 := hf 0 _ rfl
  have g1 := hf 1 _ rfl
  simp [h1] at g0 g1
  obtain ⟨z0, e0, _, w0⟩ := DataW.trod_int Try.underlying3 g0
  obtain ⟨z1, e1, _, w1⟩ := DataW.trod_int Try.underlying3 g1
  simp at e0 e1
  subst e0 e1
  exact ⟨(z0, z1), rfl, wf_i64 w0, wf_i64 w1⟩
theorem open_steps {H : Type} {enc : TypeId × Value → H} {W : World} {fuel : Nat} {a : Option Addr} {len cap : Nat} {x : DataW H × List MemPlace} (h : DataW.trod enc Try.prog W 0 (fun _ => true) true fuel 23 [.slice a len cap] = some x) (hs : ∀ m ∈ x.1.weights Try.prog 23, m ≤ reachBytes) :
    ∃ l : List (Int × Int), len = l.length ∧ SlAt 2 sci W a l ∧ (∀ p ∈ l, okP p) ∧ len ≤ cap ∧ cap ≤ maxLen ∧ ((a = none ∧ cap = 0) ∨ ∃ g off, a = some ⟨g, off, none⟩ ∨ len = 0) :=
  open_list Try.underlying23 (by kernel_rfl) (by omega) sci_len okP (fun _ _ _ h _ => open_step h) h hs
end Go.Proofs.Ytcknmaimkodaeaa.DiffA
