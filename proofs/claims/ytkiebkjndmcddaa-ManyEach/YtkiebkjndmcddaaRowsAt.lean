/-
  Rows of integers that come in as a slice of slices.
-/
import Derived.Test.YtkiebkjndmcddaaLineAt
import Derived.Test.YtkiebkjndmcddaaLift
import Derived.ChangeSlices
namespace Go.Proofs.Ytkiebkjndmcddaa.RowsM
open Go.ChangeShapes Go.RowKit Kit LineM

/-- a row of integers that came in: where, how long, with how much behind it, and what lies there -/
structure Rw where
  a : Option Addr
  len : Nat
  cap : Nat
  zs : List Int
def rc (r : Rw) : List Value := [.slice r.a r.len r.cap]
theorem rc_len (r : Rw) : (rc r).length = 1 := rfl
def Rw.has (W : World) (r : Rw) : Prop := Lift.IsRow .i64 W r.a r.len r.cap r.zs
theorem open_row {H : Type} {enc : TypeId × Value → H} {W : World} {n : Nat} {cs : List Value} {x : DataW H × List MemPlace} (h : DataW.trod enc Try.prog W 0 (fun _ => true) true n 22 cs = some x) : ∃ r : Rw, cs = rc r ∧ r.has W := by
  rcases open_ints Try.underlying22 Try.underlying3 (by kernel_rfl) h with ⟨hcs, _⟩ | ⟨x, l, c, zs, hcs, _, hl, hm, hz, _, hcell, hwz⟩
  · exact ⟨⟨none, 0, 0, []⟩, hcs, .inl ⟨rfl, rfl, rfl, rfl⟩⟩
  · exact ⟨⟨some x, l, c, zs⟩, hcs, .inr ⟨_, rfl, hl, hm, by simpa using hz, hcell, hwz⟩⟩
theorem open_rows {H : Type} {enc : TypeId × Value → H} {W : World} {fuel : Nat} {a : Option Addr} {len cap : Nat} {x : DataW H × List MemPlace} (h : DataW.trod enc Try.prog W 0 (fun _ => true) true fuel 45 [.slice a len cap] = some x) (hs : ∀ m ∈ x.1.weights Try.prog 45, m ≤ reachBytes) :
    ∃ l : List Rw, len = l.length ∧ SlAt 1 rc W a l ∧ (∀ r ∈ l, Rw.has W r) ∧ len ≤ cap ∧ cap ≤ maxLen ∧ ((a = none ∧ cap = 0) ∨ ∃ g off, a = some ⟨g, off, none⟩ ∨ len = 0) :=
  open_list Try.underlying45 (by kernel_rfl) (by omega) rc_len (Rw.has W) (fun _ _ _ h _ => open_row h) h hs
end Go.Proofs.Ytkiebkjndmcddaa.RowsM
