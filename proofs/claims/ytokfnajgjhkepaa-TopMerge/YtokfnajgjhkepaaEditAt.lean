/-
  Edits in memory: a slice of edits, opened where it comes in.
-/
import Derived.Test.YtokfnajgjhkepaaChecked
import Derived.Test.YtokfnajgjhkepaaBnd2
import Derived.Lib.SmallJoins
namespace Go.Proofs.Ytokfnajgjhkepaa.EditM
open Go.RowKit Kit

def EdM.cs (e : EdM) : List Value := [.int .i64 e.at_, .int .i64 e.cut, .string e.put]
theorem EdM.cs_len (e : EdM) : e.cs.length = 3 := rfl
theorem EdM.cs_one (e : EdM) : ∀ u ∈ e.cs, u.oneCell' = true := by
  intro u hu
  simp [EdM.cs] at hu
  rcases hu with rfl | rfl | rfl <;> rfl
/-- a slice of edits -/
abbrev EdsAt (w : World) (a : Option Addr) (l : List EdM) : Prop := SlAt 3 EdM.cs w a l
abbrev EdsV (w : World) (v : Value) (l : List EdM) : Prop := SlV 3 EdM.cs w v l
theorem EdsAt.get {w : World} {a : Option Addr} {l : List EdM} (h : EdsAt w a l) {i : Nat} {e : EdM} (hi : l[i]? = some e) : ∃ g off, a = some ⟨g, off, none⟩ ∧ g < w.heap.size ∧ w.cell? ⟨g, off + i * 3, none⟩ = some (.int .i64 e.at_) ∧ w.cell? ⟨g, off + i * 3 + 1, none⟩ = some (.int .i64 e.cut) ∧ w.cell? ⟨g, off + i * 3 + 2, none⟩ = some (.string e.put) := by
  obtain ⟨g, off, h0, h1, h2⟩ := SlAt.cell h i e hi
  exact ⟨g, off, h0, h1, h2 0 (by omega), h2 1 (by omega), h2 2 (by omega)⟩

theorem list3 {α : Type} : ∀ {l : List α}, l.length = 3 → ∃ a b c, l = [a, b, c]
  | [a, b, c], _ => ⟨a, b, c, rfl⟩
theorem wf_i64 {n : Int} (h : (Lit.int .i64 n).wf = true) : -9223372036854775808 ≤ n ∧ n ≤ 9223372036854775807 := by
  simp only [Lit.wf, Bool.and_eq_true, decide_eq_true_eq] at h
  exact h
theorem open_edit {H : Type} {enc : TypeId × Value → H} {W : World} {n : Nat} {cs : List Value} {x : DataW H × List MemPlace} (h : DataW.trod enc Try.prog W 0 (fun _ => true) true n 40 cs = some x) (hs : ∀ m ∈ x.1.weights Try.prog 40, m ≤ reachBytes) : ∃ e : EdM, cs = e.cs ∧ e.ok := by
  obtain ⟨xs, k, _, hx, hl, hxl, hf⟩ := DataW.trod_struct Try.underlying40 h
  have hc : Try.prog.cellsOf 40 = 3 := by kernel_rfl
  have h1 : Try.prog.cellsOf 3 = 1 := by kernel_rfl
  have h2 : Try.prog.cellsOf 9 = 1 := by kernel_rfl
  rw [hc] at hl
  obtain ⟨y0, y1, y2, rfl⟩ := list3 hxl
  obtain ⟨v0, v1, v2, rfl⟩ := list3 hl
  have g0 := hf 0 _ rfl
  have g1 := hf 1 _ rfl
  have g2 := hf 2 _ rfl
  simp [h1, h2] at g0 g1 g2
  obtain ⟨z0, e0, _, w0⟩ := DataW.trod_int Try.underlying3 g0
  obtain ⟨z1, e1, _, w1⟩ := DataW.trod_int Try.underlying3 g1
  obtain ⟨z2, e2, d2, _⟩ := DataW.trod_string Try.underlying9 g2
  simp at e0 e1 e2
  subst e0 e1 e2
  refine ⟨⟨z0, z1, z2⟩, rfl, (wf_i64 w0).1, (wf_i64 w0).2, (wf_i64 w1).1, (wf_i64 w1).2, ?_⟩
  have := hs z2.data.toList.length (by
    rw [hx]
    simp [DataW.weights, Try.underlying40, DataW.weightsEach, d2])
  simpa [reachBytes] using this
theorem open_edits {H : Type} {enc : TypeId × Value → H} {W : World} {fuel : Nat} {a : Option Addr} {len cap : Nat} {x : DataW H × List MemPlace} (h : DataW.trod enc Try.prog W 0 (fun _ => true) true fuel 41 [.slice a len cap] = some x) (hs : ∀ m ∈ x.1.weights Try.prog 41, m ≤ reachBytes) :
    ∃ l : List EdM, len = l.length ∧ EdsAt W a l ∧ (∀ e ∈ l, e.ok) ∧ len ≤ cap ∧ cap ≤ maxLen ∧ ((a = none ∧ cap = 0) ∨ ∃ g off, a = some ⟨g, off, none⟩ ∨ len = 0) :=
  open_list Try.underlying41 (by kernel_rfl) (by omega) EdM.cs_len EdM.ok (fun _ _ _ h hs => open_edit h hs) h hs

set_option maxRecDepth 100000 in
theorem open_editV {H : Type} {enc : TypeId × Value → H} {W : World} {r : Reach} {b0 : Nat} {v : Value} {d : DataW H} {p : List MemPlace} (hv : Value.okWide Try.prog W r b0 40 v) (h : DataW.Trod enc Try.prog W 0 (fun _ => true) true 40 v d p) (hs : ∀ m ∈ d.weights Try.prog 40, m ≤ reachBytes) :
    ∃ e : EdM, v = .agg #[.int .i64 e.at_, .int .i64 e.cut, .string e.put] ∧ e.ok := by
  obtain ⟨c0, c1, c2, y0, y1, y2, m, rfl, hd, _, hy0, hy1, hy2⟩ := Joins.open_agg3 Try.underlying40 (by kernel_rfl) (by kernel_rfl) hv h
  obtain ⟨z0, e0, _, w0⟩ := DataW.trod_int Try.underlying3 hy0
  obtain ⟨z1, e1, _, w1⟩ := DataW.trod_int Try.underlying3 hy1
  obtain ⟨z2, e2, d2, _⟩ := DataW.trod_string Try.underlying9 hy2
  simp at e0 e1 e2
  subst e0 e1 e2
  refine ⟨⟨z0, z1, z2⟩, rfl, (wf_i64 w0).1, (wf_i64 w0).2, (wf_i64 w1).1, (wf_i64 w1).2, ?_⟩
  have := hs z2.data.toList.length (by
    rw [hd]
    simp [DataW.weights, Try.underlying40, DataW.weightsEach, d2])
  simpa [reachBytes] using this

end Go.Proofs.Ytokfnajgjhkepaa.EditM
