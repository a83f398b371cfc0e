/-
  What edits are made of (a list of fustiankeep.Change), opened where it comes in.
-/
import Derived.Test.YtedlgobpoifnfaaChange1
namespace Go.Proofs.Ytedlgobpoifnfaa.ChgM
open Go.ChangeShapes Go.WideShapes Go.RowKit Kit EditM Lift Txt

abbrev ChsAt (w : World) (a : Option Addr) (l : List ChgM) : Prop := SlAt 3 ChgM.cs w a l
theorem ChsAt.get {w : World} {a : Option Addr} {l : List ChgM} (h : ChsAt w a l) {i : Nat} {e : ChgM} (hi : l[i]? = some e) : ∃ g off, a = some ⟨g, off, none⟩ ∧ g < w.heap.size ∧ w.cell? ⟨g, off + i * 3, none⟩ = some (.int .i64 e.at_) ∧ w.cell? ⟨g, off + i * 3 + 1, none⟩ = some (.int .i64 e.cut) ∧ w.cell? ⟨g, off + i * 3 + 2, none⟩ = some (.slice e.ta e.tlen e.tcap) := by
  obtain ⟨g, off, h0, h1, h2⟩ := SlAt.cell h i e hi
  exact ⟨g, off, h0, h1, h2 0 (by omega), h2 1 (by omega), h2 2 (by omega)⟩
theorem open_changes {H : Type} {enc : TypeId × Value → H} {W : World} {fuel : Nat} {a : Option Addr} {len cap : Nat} {x : DataW H × List MemPlace} (h : DataW.trod enc Try.prog W 0 (fun _ => true) true fuel 37 [.slice a len cap] = some x) (hs : ∀ m ∈ x.1.weights Try.prog 37, m ≤ reachBytes) :
    ∃ l : List ChgM, len = l.length ∧ ChsAt W a l ∧ (∀ e ∈ l, e.has W) ∧ len ≤ cap ∧ cap ≤ maxLen ∧ ((a = none ∧ cap = 0) ∨ ∃ g off, a = some ⟨g, off, none⟩ ∨ len = 0) :=
  open_list Try.underlying37 (by kernel_rfl) (by omega) ChgM.cs_len (ChgM.has W) (fun _ _ _ h _ => open_change h) h hs

end Go.Proofs.Ytedlgobpoifnfaa.ChgM
