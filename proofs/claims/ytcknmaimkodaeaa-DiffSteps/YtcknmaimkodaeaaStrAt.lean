/-
  Slices of strings: opened where they come in, of the call's own, and read. No function is named.
-/
import Derived.Test.YtcknmaimkodaeaaLineAt
namespace Go.Proofs.Ytcknmaimkodaeaa.StrM
open Go.ChangeShapes Go.RowKit Kit LineM

/-- the cell of a string -/
def sc (s : ByteArray) : List Value := [.string s]
theorem sc_len (s : ByteArray) : (sc s).length = 1 := rfl
abbrev StAt (w : World) (a : Option Addr) (l : List ByteArray) : Prop := SlAt 1 sc w a l
theorem StAt.get {w : World} {a : Option Addr} {l : List ByteArray} (h : StAt w a l) {i : Nat} {s : ByteArray} (hi : l[i]? = some s) : ∃ g off, a = some ⟨g, off, none⟩ ∧ g < w.heap.size ∧ w.cell? ⟨g, off + i, none⟩ = some (.string s) := by
  obtain ⟨g, off, e, hg, hc⟩ := h.cell i s hi
  refine ⟨g, off, e, hg, ?_⟩
  have := hc 0 (by omega)
  simpa [sc] using this
theorem open_str1 {H : Type} {enc : TypeId × Value → H} {W : World} {n : Nat} {cs : List Value} {x : DataW H × List MemPlace} (h : DataW.trod enc Try.prog W 0 (fun _ => true) true n 9 cs = some x) : ∃ s : ByteArray, cs = sc s ∧ s.size ≤ maxLen := by
  obtain ⟨s, e, _, w0⟩ := DataW.trod_string Try.underlying9 h
  exact ⟨s, e, w0⟩
theorem open_strs {H : Type} {enc : TypeId × Value → H} {W : World} {fuel : Nat} {a : Option Addr} {len cap : Nat} {x : DataW H × List MemPlace} (h : DataW.trod enc Try.prog W 0 (fun _ => true) true fuel 22 [.slice a len cap] = some x) (hs : ∀ m ∈ x.1.weights Try.prog 22, m ≤ reachBytes) :
    ∃ l : List ByteArray, len = l.length ∧ StAt W a l ∧ (∀ s ∈ l, s.size ≤ maxLen) ∧ len ≤ cap ∧ cap ≤ maxLen ∧ ((a = none ∧ cap = 0) ∨ ∃ g off, a = some ⟨g, off, none⟩ ∨ len = 0) :=
  open_list Try.underlying22 (by kernel_rfl) (by omega) sc_len (fun s => s.size ≤ maxLen) (fun _ _ _ h _ => open_str1 h) h hs

/-- strings of the call's own -/
structure SK (w : World) (xs : List ByteArray) (v : Value) (wr : World) : Prop where
  row : wr.ownsRow w.heap.size 9 1 v xs.length (flatC sc xs)
  bel : Below w.heap.size w wr
section
variable {w w1 w2 : World} {xs : List ByteArray} {v : Value}
theorem SK.next (h : SK w xs v w1) (hb : Below w1.heap.size w1 w2) : SK w xs v w2 := ⟨row_next h.row hb, bstep h.bel hb⟩
theorem SK.val (h : SK w xs v w1) : SlV 1 sc w1 v xs := SlV.of_owns sc_len h.row
theorem SK.nil (hb : Below w.heap.size w w1) : SK w [] (.slice none 0 0) w1 := ⟨World.ownsRow_nil _ _ _ _, hb⟩
theorem SK.rebase (h : SK w1 xs v w2) (hb : Below w.heap.size w w1) : SK w xs v w2 := ⟨h.row.mono hb.size, bstep hb h.bel⟩
end
/-- the strings as plain lists -/
def plain (l : List ByteArray) : List (List UInt8) := l.map fun s => s.data.toList
theorem plain_len (l : List ByteArray) : (plain l).length = l.length := by simp [plain]
theorem plain_get {l : List ByteArray} {i : Nat} {s : ByteArray} (h : l[i]? = some s) : (plain l).getD i [] = s.data.toList := by simp [plain, List.getD, h]
end Go.Proofs.Ytcknmaimkodaeaa.StrM
