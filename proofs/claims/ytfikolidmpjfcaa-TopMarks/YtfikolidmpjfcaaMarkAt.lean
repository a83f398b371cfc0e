/-
  Marks in memory: a slice of marks, opened where it comes in.
-/
import Derived.Test.YtfikolidmpjfcaaChecked
import Derived.Test.YtfikolidmpjfcaaSl
import Derived.Test.YtfikolidmpjfcaaEditAt
import Derived.OwnWalk
import Derived.Lib.SmallJoins
namespace Go.Proofs.Ytfikolidmpjfcaa.MarkM
open Go.RowKit Kit EditM

structure MkM where
  at_ : Int
  right : Bool
def MkM.cs (m : MkM) : List Value := [.int .i64 m.at_, .bool m.right]
theorem MkM.cs_len (m : MkM) : m.cs.length = 2 := rfl
theorem MkM.cs_one (m : MkM) : ∀ u ∈ m.cs, u.oneCell' = true := by
  intro u hu
  simp [MkM.cs] at hu
  rcases hu with rfl | rfl <;> rfl
structure MkM.ok (m : MkM) : Prop where
  a0 : -9223372036854775808 ≤ m.at_
  a1 : m.at_ ≤ 9223372036854775807
abbrev MksAt (w : World) (a : Option Addr) (l : List MkM) : Prop := SlAt 2 MkM.cs w a l
abbrev MksV (w : World) (v : Value) (l : List MkM) : Prop := SlV 2 MkM.cs w v l
theorem MksAt.get {w : World} {a : Option Addr} {l : List MkM} (h : MksAt w a l) {i : Nat} {m : MkM} (hi : l[i]? = some m) : ∃ g off, a = some ⟨g, off, none⟩ ∧ g < w.heap.size ∧ w.cell? ⟨g, off + i * 2, none⟩ = some (.int .i64 m.at_) ∧ w.cell? ⟨g, off + i * 2 + 1, none⟩ = some (.bool m.right) := by
  obtain ⟨g, off, h0, h1, h2⟩ := SlAt.cell h i m hi
  exact ⟨g, off, h0, h1, h2 0 (by omega), h2 1 (by omega)⟩
theorem infoMark : (Try.prog.info? 50).map (fun i => (i.zero, i.size, i.bytes)) = some (some (.agg #[.int .i64 0, .bool false]), 2, 16) := by kernel_rfl
theorem infoInt : (Try.prog.info? 3).map (fun i => (i.zero, i.size, i.bytes)) = some (some (.int .i64 0), 1, 8) := by kernel_rfl

theorem list2 {α : Type} : ∀ {l : List α}, l.length = 2 → ∃ a b, l = [a, b]
  | [a, b], _ => ⟨a, b, rfl⟩
theorem open_mark {H : Type} {enc : TypeId × Value → H} {W : World} {n : Nat} {cs : List Value} {x : DataW H × List MemPlace} (h : DataW.trod enc Try.prog W 0 (fun _ => true) true n 50 cs = some x) : ∃ m : MkM, cs = m.cs ∧ m.ok := by
  obtain ⟨xs, k, _, hx, hl, hxl, hf⟩ := DataW.trod_struct Try.underlying50 h
  have hc : Try.prog.cellsOf 50 = 2 := by kernel_rfl
  have h1 : Try.prog.cellsOf 3 = 1 := by kernel_rfl
  have h2 : Try.prog.cellsOf 4 = 1 := by kernel_rfl
  rw [hc] at hl
  obtain ⟨y0, y1, rfl⟩ := list2 hxl
  obtain ⟨v0, v1, rfl⟩ := list2 hl
  have g0 := hf 0 _ rfl
  have g1 := hf 1 _ rfl
  simp [h1, h2] at g0 g1
  obtain ⟨z0, e0, _, w0⟩ := DataW.trod_int Try.underlying3 g0
  obtain ⟨z1, e1, _⟩ := DataW.trod_bool Try.underlying4 g1
  simp at e0 e1
  subst e0 e1
  exact ⟨⟨z0, z1⟩, rfl, (wf_i64 w0).1, (wf_i64 w0).2⟩
theorem open_marks {H : Type} {enc : TypeId × Value → H} {W : World} {fuel : Nat} {a : Option Addr} {len cap : Nat} {x : DataW H × List MemPlace} (h : DataW.trod enc Try.prog W 0 (fun _ => true) true fuel 48 [.slice a len cap] = some x) (hs : ∀ m ∈ x.1.weights Try.prog 48, m ≤ reachBytes) :
    ∃ l : List MkM, len = l.length ∧ MksAt W a l ∧ (∀ e ∈ l, e.ok) ∧ len ≤ cap ∧ cap ≤ maxLen ∧ ((a = none ∧ cap = 0) ∨ ∃ g off, a = some ⟨g, off, none⟩ ∨ len = 0) :=
  open_list Try.underlying48 (by kernel_rfl) (by omega) MkM.cs_len MkM.ok (fun _ _ _ h _ => open_mark h) h hs

end Go.Proofs.Ytfikolidmpjfcaa.MarkM
