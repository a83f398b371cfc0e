/-
  No cell of these rows narrows 'for every input' (looked for: loops, veiled, ifaces, maps, wideKeys, modest, calm, conditions, laid).
  DERIVED. THE GIVEN ROWS OF THIS SEAT. 12 by the template 'for every input the law returns true; each argument reads behind the call as it read before'; 0 by the template 'total and deterministic' (their statements: YtdiogfhbgmkajaaTotals.lean).
  GIVEN WITH THE SEED: the statements are not yours to turn. If you find one false, say at which input.
  Laid BY PROGRAM, IN A SANDBOX (cutbox-rows.mjs): the forced cells as the released guide's own fill.sh prints them over the translation 634a574692498fe7… (all of the seat's roots in one cut). By AI agents, Wed Nov 11 2026. No macro, syntax, notation, axiom, sorry.
-/
import Derived.Test.YtdiogfhbgmkajaaChecked
import GoSem.Claim
import GoSem.ClaimJoined
import GoSem.ClaimMapViews
import Derived.JoinedTies
import Derived.KernelRfl
namespace Go.Proofs.Ytdiogfhbgmkajaa
/- THE CELL 'sum', in the pinned program and in every row, IS THE sha256 OF THE DUMP (.gsa) THAT YtdiogfhbgmkajaaProg.lean LOADS. Nothing in Lean hashes anything: it is a label: what it is worth is what the hold of that sum in a sandbox is worth. -/
noncomputable def Try.pinned : Pinned := { name := "ytdiogfhbgmkajaa", sum := "634a574692498fe709b607e8beb3f4a64c70575c5e77e59a6c9ad3da797fe80f", checked := Try.checked }
namespace Rows
def none {H : Type} : Left H := { results := [], args := [] }

/-- 'fustianlaw.SpansMays': WHATEVER THE INPUT: true; the input reads as it did. -/
def spansMaysSpec : ChangeSpec := { name := "spansMays", fn := fun _ => fun
  | [d1, d2] => { results := [.lit (.bool true)], args := [d1, d2] }
  | _ => none }
def spansMaysRow : OpenClaim := { program := "ytdiogfhbgmkajaa", sum := "634a574692498fe709b607e8beb3f4a64c70575c5e77e59a6c9ad3da797fe80f", func := "fustian/fustianlaw.SpansMays", spec := "spansMays", apart := false }
def SpansMaysSaid : Prop := spansMaysRow.holds Try.pinned (OpenSpec.ofChange spansMaysSpec)

/-- ITS FALSE NEIGHBOUR: 'it returns false'. Refute it at one input. -/
def spansMaysWrong : ChangeSpec := { name := "spansMays", fn := fun _ => fun
  | [d1, d2] => { results := [.lit (.bool false)], args := [d1, d2] }
  | _ => none }
def SpansMaysWrongFalsely : Prop := spansMaysRow.holds Try.pinned (OpenSpec.ofChange spansMaysWrong)

/-- 'fustianlaw.SpansAdds': WHATEVER THE INPUT: true; the input reads as it did. -/
def spansAddsSpec : ChangeSpec := { name := "spansAdds", fn := fun _ => fun
  | [d1, d2, d3] => { results := [.lit (.bool true)], args := [d1, d2, d3] }
  | _ => none }
def spansAddsRow : OpenClaim := { program := "ytdiogfhbgmkajaa", sum := "634a574692498fe709b607e8beb3f4a64c70575c5e77e59a6c9ad3da797fe80f", func := "fustian/fustianlaw.SpansAdds", spec := "spansAdds", apart := false }
def SpansAddsSaid : Prop := spansAddsRow.holds Try.pinned (OpenSpec.ofChange spansAddsSpec)

/-- ITS FALSE NEIGHBOUR: 'it returns false'. Refute it at one input. -/
def spansAddsWrong : ChangeSpec := { name := "spansAdds", fn := fun _ => fun
  | [d1, d2, d3] => { results := [.lit (.bool false)], args := [d1, d2, d3] }
  | _ => none }
def SpansAddsWrongFalsely : Prop := spansAddsRow.holds Try.pinned (OpenSpec.ofChange spansAddsWrong)

/-- 'fustianlaw.SpansCuts': WHATEVER THE INPUT: true; the input reads as it did. -/
def spansCutsSpec : ChangeSpec := { name := "spansCuts", fn := fun _ => fun
  | [d1, d2, d3] => { results := [.lit (.bool true)], args := [d1, d2, d3] }
  | _ => none }
def spansCutsRow : OpenClaim := { program := "ytdiogfhbgmkajaa", sum := "634a574692498fe709b607e8beb3f4a64c70575c5e77e59a6c9ad3da797fe80f", func := "fustian/fustianlaw.SpansCuts", spec := "spansCuts", apart := false }
def SpansCutsSaid : Prop := spansCutsRow.holds Try.pinned (OpenSpec.ofChange spansCutsSpec)

/-- ITS FALSE NEIGHBOUR: 'it returns false'. Refute it at one input. -/
def spansCutsWrong : ChangeSpec := { name := "spansCuts", fn := fun _ => fun
  | [d1, d2, d3] => { results := [.lit (.bool false)], args := [d1, d2, d3] }
  | _ => none }
def SpansCutsWrongFalsely : Prop := spansCutsRow.holds Try.pinned (OpenSpec.ofChange spansCutsWrong)

/-- 'fustianlaw.SpansShifts': WHATEVER THE INPUT: true; the input reads as it did. -/
def spansShiftsSpec : ChangeSpec := { name := "spansShifts", fn := fun _ => fun
  | [d1, d2, d3] => { results := [.lit (.bool true)], args := [d1, d2, d3] }
  | _ => none }
def spansShiftsRow : OpenClaim := { program := "ytdiogfhbgmkajaa", sum := "634a574692498fe709b607e8beb3f4a64c70575c5e77e59a6c9ad3da797fe80f", func := "fustian/fustianlaw.SpansShifts", spec := "spansShifts", apart := false }
def SpansShiftsSaid : Prop := spansShiftsRow.holds Try.pinned (OpenSpec.ofChange spansShiftsSpec)

/-- ITS FALSE NEIGHBOUR: 'it returns false'. Refute it at one input. -/
def spansShiftsWrong : ChangeSpec := { name := "spansShifts", fn := fun _ => fun
  | [d1, d2, d3] => { results := [.lit (.bool false)], args := [d1, d2, d3] }
  | _ => none }
def SpansShiftsWrongFalsely : Prop := spansShiftsRow.holds Try.pinned (OpenSpec.ofChange spansShiftsWrong)

/-- 'fustianlaw.SpansTakes': WHATEVER THE INPUT: true; the input reads as it did. -/
def spansTakesSpec : ChangeSpec := { name := "spansTakes", fn := fun _ => fun
  | [d1, d2, d3] => { results := [.lit (.bool true)], args := [d1, d2, d3] }
  | _ => none }
def spansTakesRow : OpenClaim := { program := "ytdiogfhbgmkajaa", sum := "634a574692498fe709b607e8beb3f4a64c70575c5e77e59a6c9ad3da797fe80f", func := "fustian/fustianlaw.SpansTakes", spec := "spansTakes", apart := false }
def SpansTakesSaid : Prop := spansTakesRow.holds Try.pinned (OpenSpec.ofChange spansTakesSpec)

/-- ITS FALSE NEIGHBOUR: 'it returns false'. Refute it at one input. -/
def spansTakesWrong : ChangeSpec := { name := "spansTakes", fn := fun _ => fun
  | [d1, d2, d3] => { results := [.lit (.bool false)], args := [d1, d2, d3] }
  | _ => none }
def SpansTakesWrongFalsely : Prop := spansTakesRow.holds Try.pinned (OpenSpec.ofChange spansTakesWrong)

/-- 'fustianlaw.SpansWidens': WHATEVER THE INPUT: true; the input reads as it did. -/
def spansWidensSpec : ChangeSpec := { name := "spansWidens", fn := fun _ => fun
  | [d1, d2] => { results := [.lit (.bool true)], args := [d1, d2] }
  | _ => none }
def spansWidensRow : OpenClaim := { program := "ytdiogfhbgmkajaa", sum := "634a574692498fe709b607e8beb3f4a64c70575c5e77e59a6c9ad3da797fe80f", func := "fustian/fustianlaw.SpansWidens", spec := "spansWidens", inPlace := ["internal/bytealg.IndexByteString"], apart := false }
def SpansWidensSaid : Prop := spansWidensRow.holds Try.pinned (OpenSpec.ofChange spansWidensSpec)

/-- ITS FALSE NEIGHBOUR: 'it returns false'. Refute it at one input. -/
def spansWidensWrong : ChangeSpec := { name := "spansWidens", fn := fun _ => fun
  | [d1, d2] => { results := [.lit (.bool false)], args := [d1, d2] }
  | _ => none }
def SpansWidensWrongFalsely : Prop := spansWidensRow.holds Try.pinned (OpenSpec.ofChange spansWidensWrong)

/-- 'fustiankeep.SpansAlgebra': WHATEVER THE INPUT: true; the input reads as it did. -/
def spansAlgebraSpec : ChangeSpec := { name := "spansAlgebra", fn := fun _ => fun
  | [d1, d2, d3, d4] => { results := [.lit (.bool true)], args := [d1, d2, d3, d4] }
  | _ => none }
def spansAlgebraRow : OpenClaim := { program := "ytdiogfhbgmkajaa", sum := "634a574692498fe709b607e8beb3f4a64c70575c5e77e59a6c9ad3da797fe80f", func := "fustian/fustiankeep.SpansAlgebra", spec := "spansAlgebra", apart := false }
def SpansAlgebraSaid : Prop := spansAlgebraRow.holds Try.pinned (OpenSpec.ofChange spansAlgebraSpec)

/-- ITS FALSE NEIGHBOUR: 'it returns false'. Refute it at one input. -/
def spansAlgebraWrong : ChangeSpec := { name := "spansAlgebra", fn := fun _ => fun
  | [d1, d2, d3, d4] => { results := [.lit (.bool false)], args := [d1, d2, d3, d4] }
  | _ => none }
def SpansAlgebraWrongFalsely : Prop := spansAlgebraRow.holds Try.pinned (OpenSpec.ofChange spansAlgebraWrong)

/-- 'fustiankeep.SpansTaken': WHATEVER THE INPUT: true; the input reads as it did. -/
def spansTakenSpec : ChangeSpec := { name := "spansTaken", fn := fun _ => fun
  | [d1, d2, d3] => { results := [.lit (.bool true)], args := [d1, d2, d3] }
  | _ => none }
def spansTakenRow : OpenClaim := { program := "ytdiogfhbgmkajaa", sum := "634a574692498fe709b607e8beb3f4a64c70575c5e77e59a6c9ad3da797fe80f", func := "fustian/fustiankeep.SpansTaken", spec := "spansTaken", apart := false }
def SpansTakenSaid : Prop := spansTakenRow.holds Try.pinned (OpenSpec.ofChange spansTakenSpec)

/-- ITS FALSE NEIGHBOUR: 'it returns false'. Refute it at one input. -/
def spansTakenWrong : ChangeSpec := { name := "spansTaken", fn := fun _ => fun
  | [d1, d2, d3] => { results := [.lit (.bool false)], args := [d1, d2, d3] }
  | _ => none }
def SpansTakenWrongFalsely : Prop := spansTakenRow.holds Try.pinned (OpenSpec.ofChange spansTakenWrong)

/-- 'fustiankeep.SpansFollow': WHATEVER THE INPUT: true; the input reads as it did. -/
def spansFollowSpec : ChangeSpec := { name := "spansFollow", fn := fun _ => fun
  | [d1, d2, d3] => { results := [.lit (.bool true)], args := [d1, d2, d3] }
  | _ => none }
def spansFollowRow : OpenClaim := { program := "ytdiogfhbgmkajaa", sum := "634a574692498fe709b607e8beb3f4a64c70575c5e77e59a6c9ad3da797fe80f", func := "fustian/fustiankeep.SpansFollow", spec := "spansFollow", apart := false }
def SpansFollowSaid : Prop := spansFollowRow.holds Try.pinned (OpenSpec.ofChange spansFollowSpec)

/-- ITS FALSE NEIGHBOUR: 'it returns false'. Refute it at one input. -/
def spansFollowWrong : ChangeSpec := { name := "spansFollow", fn := fun _ => fun
  | [d1, d2, d3] => { results := [.lit (.bool false)], args := [d1, d2, d3] }
  | _ => none }
def SpansFollowWrongFalsely : Prop := spansFollowRow.holds Try.pinned (OpenSpec.ofChange spansFollowWrong)

/-- 'fustiankeep.WidenLines': WHATEVER THE INPUT: true; the input reads as it did. -/
def widenLinesSpec : ChangeSpec := { name := "widenLines", fn := fun _ => fun
  | [d1, d2, d3] => { results := [.lit (.bool true)], args := [d1, d2, d3] }
  | _ => none }
def widenLinesRow : OpenClaim := { program := "ytdiogfhbgmkajaa", sum := "634a574692498fe709b607e8beb3f4a64c70575c5e77e59a6c9ad3da797fe80f", func := "fustian/fustiankeep.WidenLines", spec := "widenLines", inPlace := ["internal/bytealg.IndexByteString"], apart := false }
def WidenLinesSaid : Prop := widenLinesRow.holds Try.pinned (OpenSpec.ofChange widenLinesSpec)

/-- ITS FALSE NEIGHBOUR: 'it returns false'. Refute it at one input. -/
def widenLinesWrong : ChangeSpec := { name := "widenLines", fn := fun _ => fun
  | [d1, d2, d3] => { results := [.lit (.bool false)], args := [d1, d2, d3] }
  | _ => none }
def WidenLinesWrongFalsely : Prop := widenLinesRow.holds Try.pinned (OpenSpec.ofChange widenLinesWrong)

/-- 'fustiankeep.SpansTwo': WHATEVER THE INPUT: true; the input reads as it did. -/
def spansTwoSpec : ChangeSpec := { name := "spansTwo", fn := fun _ => fun
  | [d1, d2, d3, d4, d5, d6] => { results := [.lit (.bool true)], args := [d1, d2, d3, d4, d5, d6] }
  | _ => none }
def spansTwoRow : OpenClaim := { program := "ytdiogfhbgmkajaa", sum := "634a574692498fe709b607e8beb3f4a64c70575c5e77e59a6c9ad3da797fe80f", func := "fustian/fustiankeep.SpansTwo", spec := "spansTwo", apart := false }
def SpansTwoSaid : Prop := spansTwoRow.holds Try.pinned (OpenSpec.ofChange spansTwoSpec)

/-- ITS FALSE NEIGHBOUR: 'it returns false'. Refute it at one input. -/
def spansTwoWrong : ChangeSpec := { name := "spansTwo", fn := fun _ => fun
  | [d1, d2, d3, d4, d5, d6] => { results := [.lit (.bool false)], args := [d1, d2, d3, d4, d5, d6] }
  | _ => none }
def SpansTwoWrongFalsely : Prop := spansTwoRow.holds Try.pinned (OpenSpec.ofChange spansTwoWrong)

/-- 'fustiantop.TopDirty': WHATEVER THE INPUT: true; the input reads as it did. -/
def topDirtySpec : ChangeSpec := { name := "topDirty", fn := fun _ => fun
  | [d1, d2] => { results := [.lit (.bool true)], args := [d1, d2] }
  | _ => none }
def topDirtyRow : OpenClaim := { program := "ytdiogfhbgmkajaa", sum := "634a574692498fe709b607e8beb3f4a64c70575c5e77e59a6c9ad3da797fe80f", func := "fustian/fustiantop.TopDirty", spec := "topDirty", inPlace := ["internal/bytealg.IndexByteString", "internal/bytealg.IndexString"], unfollowed := true, recurses := true, named := ["internal/bytealg.MaxLen"], apart := false }
def TopDirtySaid : Prop := topDirtyRow.holds Try.pinned (OpenSpec.ofChange topDirtySpec)

/-- ITS FALSE NEIGHBOUR: 'it returns false'. Refute it at one input. -/
def topDirtyWrong : ChangeSpec := { name := "topDirty", fn := fun _ => fun
  | [d1, d2] => { results := [.lit (.bool false)], args := [d1, d2] }
  | _ => none }
def TopDirtyWrongFalsely : Prop := topDirtyRow.holds Try.pinned (OpenSpec.ofChange topDirtyWrong)

/- THE SECOND FORM. 'bulk': how many values and letters a reading holds, each counted each time it is reached (what is shared counts as often as it is met; a slice's spare places count too). A statement '..UptoSaid' is the law's where the arguments, and the package variables that the reading takes, are together of bulk at most 1048576: NARROWER than '..Said'. Prove '..Said' where nothing that the law and all that it calls make is longer than what came in: it says more and counts as full. Else prove '..UptoSaid'. A law counts once. -/
mutual
def uptoBulk {H : Type} : DataW H → Nat
  | .lit (.string bytes) => bytes.length + 1
  | .lit _ => 1
  | .nil => 1
  | .ptr d => uptoBulk d + 1
  | .slice elems spare => uptoBulkAll elems + uptoBulkAll spare + 1
  | .agg parts => uptoBulkAll parts + 1
  | .iface _ d => uptoBulk d + 1
  | .map entries => uptoBulkEntries entries + 1
  | .held _ => 1
def uptoBulkAll {H : Type} : List (DataW H) → Nat
  | [] => 0
  | d :: r => uptoBulk d + uptoBulkAll r
def uptoBulkEntries {H : Type} : List (Lit × DataW H) → Nat
  | [] => 0
  | x :: r => uptoBulkEntry x + uptoBulkEntries r
def uptoBulkEntry {H : Type} : Lit × DataW H → Nat
  | (.string bytes, d) => bytes.length + uptoBulk d + 1
  | (_, d) => uptoBulk d + 1
 end
def uptoSmall : (H : Type) → List (DataW H) → Bool := fun _ ds => decide (uptoBulkAll ds ≤ 1048576)
def OpenSpec.upto (s : _root_.Go.ChangeSpec) : _root_.Go.OpenSpec := { _root_.Go.OpenSpec.ofChange s with cond := some uptoSmall }

/-- 'fustianlaw.SpansMays', WHERE WHAT IT READS IS OF BULK AT MOST 1048576: true; the input reads as it did. -/
def spansMaysUptoRow : OpenClaim := { program := "ytdiogfhbgmkajaa", sum := "634a574692498fe709b607e8beb3f4a64c70575c5e77e59a6c9ad3da797fe80f", func := "fustian/fustianlaw.SpansMays", spec := "spansMays", apart := false, narrowed := true }
def SpansMaysUptoSaid : Prop := spansMaysUptoRow.holds Try.pinned (OpenSpec.upto spansMaysSpec)

/-- 'fustianlaw.SpansAdds', WHERE WHAT IT READS IS OF BULK AT MOST 1048576: true; the input reads as it did. -/
def spansAddsUptoRow : OpenClaim := { program := "ytdiogfhbgmkajaa", sum := "634a574692498fe709b607e8beb3f4a64c70575c5e77e59a6c9ad3da797fe80f", func := "fustian/fustianlaw.SpansAdds", spec := "spansAdds", apart := false, narrowed := true }
def SpansAddsUptoSaid : Prop := spansAddsUptoRow.holds Try.pinned (OpenSpec.upto spansAddsSpec)

/-- 'fustianlaw.SpansCuts', WHERE WHAT IT READS IS OF BULK AT MOST 1048576: true; the input reads as it did. -/
def spansCutsUptoRow : OpenClaim := { program := "ytdiogfhbgmkajaa", sum := "634a574692498fe709b607e8beb3f4a64c70575c5e77e59a6c9ad3da797fe80f", func := "fustian/fustianlaw.SpansCuts", spec := "spansCuts", apart := false, narrowed := true }
def SpansCutsUptoSaid : Prop := spansCutsUptoRow.holds Try.pinned (OpenSpec.upto spansCutsSpec)

/-- 'fustianlaw.SpansShifts', WHERE WHAT IT READS IS OF BULK AT MOST 1048576: true; the input reads as it did. -/
def spansShiftsUptoRow : OpenClaim := { program := "ytdiogfhbgmkajaa", sum := "634a574692498fe709b607e8beb3f4a64c70575c5e77e59a6c9ad3da797fe80f", func := "fustian/fustianlaw.SpansShifts", spec := "spansShifts", apart := false, narrowed := true }
def SpansShiftsUptoSaid : Prop := spansShiftsUptoRow.holds Try.pinned (OpenSpec.upto spansShiftsSpec)

/-- 'fustianlaw.SpansTakes', WHERE WHAT IT READS IS OF BULK AT MOST 1048576: true; the input reads as it did. -/
def spansTakesUptoRow : OpenClaim := { program := "ytdiogfhbgmkajaa", sum := "634a574692498fe709b607e8beb3f4a64c70575c5e77e59a6c9ad3da797fe80f", func := "fustian/fustianlaw.SpansTakes", spec := "spansTakes", apart := false, narrowed := true }
def SpansTakesUptoSaid : Prop := spansTakesUptoRow.holds Try.pinned (OpenSpec.upto spansTakesSpec)

/-- 'fustianlaw.SpansWidens', WHERE WHAT IT READS IS OF BULK AT MOST 1048576: true; the input reads as it did. -/
def spansWidensUptoRow : OpenClaim := { program := "ytdiogfhbgmkajaa", sum := "634a574692498fe709b607e8beb3f4a64c70575c5e77e59a6c9ad3da797fe80f", func := "fustian/fustianlaw.SpansWidens", spec := "spansWidens", inPlace := ["internal/bytealg.IndexByteString"], apart := false, narrowed := true }
def SpansWidensUptoSaid : Prop := spansWidensUptoRow.holds Try.pinned (OpenSpec.upto spansWidensSpec)

/-- 'fustiankeep.SpansAlgebra', WHERE WHAT IT READS IS OF BULK AT MOST 1048576: true; the input reads as it did. -/
def spansAlgebraUptoRow : OpenClaim := { program := "ytdiogfhbgmkajaa", sum := "634a574692498fe709b607e8beb3f4a64c70575c5e77e59a6c9ad3da797fe80f", func := "fustian/fustiankeep.SpansAlgebra", spec := "spansAlgebra", apart := false, narrowed := true }
def SpansAlgebraUptoSaid : Prop := spansAlgebraUptoRow.holds Try.pinned (OpenSpec.upto spansAlgebraSpec)

/-- 'fustiankeep.SpansTaken', WHERE WHAT IT READS IS OF BULK AT MOST 1048576: true; the input reads as it did. -/
def spansTakenUptoRow : OpenClaim := { program := "ytdiogfhbgmkajaa", sum := "634a574692498fe709b607e8beb3f4a64c70575c5e77e59a6c9ad3da797fe80f", func := "fustian/fustiankeep.SpansTaken", spec := "spansTaken", apart := false, narrowed := true }
def SpansTakenUptoSaid : Prop := spansTakenUptoRow.holds Try.pinned (OpenSpec.upto spansTakenSpec)

/-- 'fustiankeep.SpansFollow', WHERE WHAT IT READS IS OF BULK AT MOST 1048576: true; the input reads as it did. -/
def spansFollowUptoRow : OpenClaim := { program := "ytdiogfhbgmkajaa", sum := "634a574692498fe709b607e8beb3f4a64c70575c5e77e59a6c9ad3da797fe80f", func := "fustian/fustiankeep.SpansFollow", spec := "spansFollow", apart := false, narrowed := true }
def SpansFollowUptoSaid : Prop := spansFollowUptoRow.holds Try.pinned (OpenSpec.upto spansFollowSpec)

/-- 'fustiankeep.WidenLines', WHERE WHAT IT READS IS OF BULK AT MOST 1048576: true; the input reads as it did. -/
def widenLinesUptoRow : OpenClaim := { program := "ytdiogfhbgmkajaa", sum := "634a574692498fe709b607e8beb3f4a64c70575c5e77e59a6c9ad3da797fe80f", func := "fustian/fustiankeep.WidenLines", spec := "widenLines", inPlace := ["internal/bytealg.IndexByteString"], apart := false, narrowed := true }
def WidenLinesUptoSaid : Prop := widenLinesUptoRow.holds Try.pinned (OpenSpec.upto widenLinesSpec)

/-- 'fustiankeep.SpansTwo', WHERE WHAT IT READS IS OF BULK AT MOST 1048576: true; the input reads as it did. -/
def spansTwoUptoRow : OpenClaim := { program := "ytdiogfhbgmkajaa", sum := "634a574692498fe709b607e8beb3f4a64c70575c5e77e59a6c9ad3da797fe80f", func := "fustian/fustiankeep.SpansTwo", spec := "spansTwo", apart := false, narrowed := true }
def SpansTwoUptoSaid : Prop := spansTwoUptoRow.holds Try.pinned (OpenSpec.upto spansTwoSpec)

/-- 'fustiantop.TopDirty', WHERE WHAT IT READS IS OF BULK AT MOST 1048576: true; the input reads as it did. -/
def topDirtyUptoRow : OpenClaim := { program := "ytdiogfhbgmkajaa", sum := "634a574692498fe709b607e8beb3f4a64c70575c5e77e59a6c9ad3da797fe80f", func := "fustian/fustiantop.TopDirty", spec := "topDirty", inPlace := ["internal/bytealg.IndexByteString", "internal/bytealg.IndexString"], unfollowed := true, recurses := true, named := ["internal/bytealg.MaxLen"], apart := false, narrowed := true }
def TopDirtyUptoSaid : Prop := topDirtyUptoRow.holds Try.pinned (OpenSpec.upto topDirtySpec)

end Rows
end Go.Proofs.Ytdiogfhbgmkajaa
