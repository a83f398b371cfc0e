/-
  Deeds in memory, opened where they come in.
-/
import Derived.Test.YtkeacipjjoeieaaHistMath
import Derived.Test.YtkeacipjjoeieaaEditAt
namespace Go.Proofs.Ytkeacipjjoeieaa.HistM
open Go.ChangeShapes Go.WideShapes Go.RowKit Kit EditM

def DeedM.cs (d : DeedM) : List Value := [.int .i64 d.kind, .int .i64 d.ed.at_, .int .i64 d.ed.cut, .string d.ed.put]
theorem DeedM.cs_len (d : DeedM) : d.cs.length = 4 := rfl
theorem DeedM.cs_one (d : DeedM) : ∀ u ∈ d.cs, u.oneCell' = true := by
  intro u hu
  simp [DeedM.cs] at hu
  rcases hu with rfl | rfl | rfl | rfl <;> rfl
abbrev DdsAt (w : World) (a : Option Addr) (l : List DeedM) : Prop := SlAt 4 DeedM.cs w a l
abbrev DdsV (w : World) (v : Value) (l : List DeedM) : Prop := SlV 4 DeedM.cs w v l
theorem DdsAt.get {w : World} {a : Option Addr} {l : List DeedM} (h : DdsAt w a l) {i : Nat} {d : DeedM} (hi : l[i]? = some d) : ∃ g off, a = some ⟨g, off, none⟩ ∧ g < w.heap.size ∧ w.cell? ⟨g, off + i * 4, none⟩ = some (.int .i64 d.kind) ∧ w.cell? ⟨g, off + i * 4 + 1, none⟩ = some (.int .i64 d.ed.at_) ∧ w.cell? ⟨g, off + i * 4 + 2, none⟩ = some (.int .i64 d.ed.cut) ∧ w.cell? ⟨g, off + i * 4 + 3, none⟩ = some (.string d.ed.put) := by
  obtain ⟨g, off, h0, h1, h2⟩ := SlAt.cell h i d hi
  exact ⟨g, off, h0, h1, h2 0 (by omega), h2 1 (by omega), h2 2 (by omega), h2 3 (by omega)⟩
theorem list2 {α : Type} : ∀ {l : List α}, l.length = 2 → ∃ a b, l = [a, b]
  | [a, b], _ => ⟨a, b, rfl⟩
theorem list4 {α : Type} : ∀ {l : List α}, l.length = 4 → ∃ a b c d, l = [a, b, c, d]
  | [a, b, c, d], _ => ⟨a, b, c, d, rfl⟩
theorem open_deed {H : Type} {enc : TypeId × Value → H} {W : World} {n : Nat} {cs : List Value} {x : DataW H × List MemPlace} (h : DataW.trod enc Try.prog W 0 (fun _ => true) true n 45 cs = some x) (hs : ∀ m ∈ x.1.weights Try.prog 45, m ≤ reachBytes) : ∃ d : DeedM, cs = d.cs ∧ d.ed.ok := by
  obtain ⟨xs, k, _, hx, hl, hxl, hf⟩ := DataW.trod_struct Try.underlying45 h
  have hc : Try.prog.cellsOf 45 = 4 := by kernel_rfl
  have h1 : Try.prog.cellsOf 3 = 1 := by kernel_rfl
  have h2 : Try.prog.cellsOf 43 = 3 := by kernel_rfl
  rw [hc] at hl
  obtain ⟨y0, y1, rfl⟩ := list2 hxl
  obtain ⟨v0, v1, v2, v3, rfl⟩ := list4 hl
  have g0 := hf 0 _ rfl
  have g1 := hf 1 _ rfl
  simp [h1, h2] at g0 g1
  obtain ⟨z0, e0, _, w0⟩ := DataW.trod_int Try.underlying3 g0
  simp at e0
  subst e0
  obtain ⟨e, he, hok⟩ := open_edit g1 (fun m hm => hs m (by
    rw [hx]
    simp [DataW.weights, Try.underlying45, DataW.weightsEach]
    exact .inr hm))
  refine ⟨⟨z0, e⟩, ?_, hok⟩
  simp [EdM.cs] at he
  obtain ⟨rfl, rfl, rfl⟩ := he
  rfl
theorem open_deeds {H : Type} {enc : TypeId × Value → H} {W : World} {fuel : Nat} {a : Option Addr} {len cap : Nat} {x : DataW H × List MemPlace} (h : DataW.trod enc Try.prog W 0 (fun _ => true) true fuel 22 [.slice a len cap] = some x) (hs : ∀ m ∈ x.1.weights Try.prog 22, m ≤ reachBytes) :
    ∃ l : List DeedM, len = l.length ∧ DdsAt W a l ∧ (∀ d ∈ l, d.ed.ok) ∧ len ≤ cap ∧ cap ≤ maxLen ∧ ((a = none ∧ cap = 0) ∨ ∃ g off, a = some ⟨g, off, none⟩ ∨ len = 0) :=
  open_list Try.underlying22 (by kernel_rfl) (by omega) DeedM.cs_len (fun d => d.ed.ok) (fun _ _ _ h hs => open_deed h hs) h hs

end Go.Proofs.Ytkeacipjjoeieaa.HistM
