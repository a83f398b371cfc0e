/-
  No cell of these rows narrows 'for every input' (looked for: loops, veiled, ifaces, maps, wideKeys, modest, calm, conditions, laid).
  DERIVED. THE GIVEN ROWS OF THIS SEAT. 6 by the template 'for every input the law returns true; each argument reads behind the call as it read before'; 0 by the template 'total and deterministic' (their statements: YtkeacipjjoeieaaTotals.lean).
  GIVEN WITH THE SEED: the statements are not yours to turn. If you find one false, say at which input.
  Laid BY PROGRAM, IN A SANDBOX (cutbox-rows.mjs): the forced cells as the released guide's own fill.sh prints them over the translation 2d1ded9f05d51480… (all of the seat's roots in one cut). By AI agents, Wed Nov 11 2026. No macro, syntax, notation, axiom, sorry.
-/
import Derived.Test.YtkeacipjjoeieaaChecked
import GoSem.Claim
import GoSem.ClaimJoined
import GoSem.ClaimMapViews
import Derived.JoinedTies
import Derived.KernelRfl
namespace Go.Proofs.Ytkeacipjjoeieaa
/- THE CELL 'sum', in the pinned program and in every row, IS THE sha256 OF THE DUMP (.gsa) THAT YtkeacipjjoeieaaProg.lean LOADS. Nothing in Lean hashes anything: it is a label: what it is worth is what the hold of that sum in a sandbox is worth. -/
noncomputable def Try.pinned : Pinned := { name := "ytkeacipjjoeieaa", sum := "2d1ded9f05d51480385ea662455c67f4b3bd54b434bc8f0320713df474fcea2a", checked := Try.checked }
namespace Rows
def none {H : Type} : Left H := { results := [], args := [] }

/-- 'fustianlaw.HistPlays': WHATEVER THE INPUT: true; the input reads as it did. -/
def histPlaysSpec : ChangeSpec := { name := "histPlays", fn := fun _ => fun
  | [d1, d2] => { results := [.lit (.bool true)], args := [d1, d2] }
  | _ => none }
def histPlaysRow : OpenClaim := { program := "ytkeacipjjoeieaa", sum := "2d1ded9f05d51480385ea662455c67f4b3bd54b434bc8f0320713df474fcea2a", func := "fustian/fustianlaw.HistPlays", spec := "histPlays", apart := false }
def HistPlaysSaid : Prop := histPlaysRow.holds Try.pinned (OpenSpec.ofChange histPlaysSpec)

/-- ITS FALSE NEIGHBOUR: 'it returns false'. Refute it at one input. -/
def histPlaysWrong : ChangeSpec := { name := "histPlays", fn := fun _ => fun
  | [d1, d2] => { results := [.lit (.bool false)], args := [d1, d2] }
  | _ => none }
def HistPlaysWrongFalsely : Prop := histPlaysRow.holds Try.pinned (OpenSpec.ofChange histPlaysWrong)

/-- 'fustianlaw.HistCounts': WHATEVER THE INPUT: true; the input reads as it did. -/
def histCountsSpec : ChangeSpec := { name := "histCounts", fn := fun _ => fun
  | [d1, d2] => { results := [.lit (.bool true)], args := [d1, d2] }
  | _ => none }
def histCountsRow : OpenClaim := { program := "ytkeacipjjoeieaa", sum := "2d1ded9f05d51480385ea662455c67f4b3bd54b434bc8f0320713df474fcea2a", func := "fustian/fustianlaw.HistCounts", spec := "histCounts", apart := false }
def HistCountsSaid : Prop := histCountsRow.holds Try.pinned (OpenSpec.ofChange histCountsSpec)

/-- ITS FALSE NEIGHBOUR: 'it returns false'. Refute it at one input. -/
def histCountsWrong : ChangeSpec := { name := "histCounts", fn := fun _ => fun
  | [d1, d2] => { results := [.lit (.bool false)], args := [d1, d2] }
  | _ => none }
def HistCountsWrongFalsely : Prop := histCountsRow.holds Try.pinned (OpenSpec.ofChange histCountsWrong)

/-- 'fustiankeep.HistThere': WHATEVER THE INPUT: true; the input reads as it did. -/
def histThereSpec : ChangeSpec := { name := "histThere", fn := fun _ => fun
  | [d1, d2, d3] => { results := [.lit (.bool true)], args := [d1, d2, d3] }
  | _ => none }
def histThereRow : OpenClaim := { program := "ytkeacipjjoeieaa", sum := "2d1ded9f05d51480385ea662455c67f4b3bd54b434bc8f0320713df474fcea2a", func := "fustian/fustiankeep.HistThere", spec := "histThere", apart := false }
def HistThereSaid : Prop := histThereRow.holds Try.pinned (OpenSpec.ofChange histThereSpec)

/-- ITS FALSE NEIGHBOUR: 'it returns false'. Refute it at one input. -/
def histThereWrong : ChangeSpec := { name := "histThere", fn := fun _ => fun
  | [d1, d2, d3] => { results := [.lit (.bool false)], args := [d1, d2, d3] }
  | _ => none }
def HistThereWrongFalsely : Prop := histThereRow.holds Try.pinned (OpenSpec.ofChange histThereWrong)

/-- 'fustiankeep.HistBegin': WHATEVER THE INPUT: true; the input reads as it did. -/
def histBeginSpec : ChangeSpec := { name := "histBegin", fn := fun _ => fun
  | [d1, d2] => { results := [.lit (.bool true)], args := [d1, d2] }
  | _ => none }
def histBeginRow : OpenClaim := { program := "ytkeacipjjoeieaa", sum := "2d1ded9f05d51480385ea662455c67f4b3bd54b434bc8f0320713df474fcea2a", func := "fustian/fustiankeep.HistBegin", spec := "histBegin", apart := false }
def HistBeginSaid : Prop := histBeginRow.holds Try.pinned (OpenSpec.ofChange histBeginSpec)

/-- ITS FALSE NEIGHBOUR: 'it returns false'. Refute it at one input. -/
def histBeginWrong : ChangeSpec := { name := "histBegin", fn := fun _ => fun
  | [d1, d2] => { results := [.lit (.bool false)], args := [d1, d2] }
  | _ => none }
def HistBeginWrongFalsely : Prop := histBeginRow.holds Try.pinned (OpenSpec.ofChange histBeginWrong)

/-- 'fustiankeep.HistRefused': WHATEVER THE INPUT: true; the input reads as it did. -/
def histRefusedSpec : ChangeSpec := { name := "histRefused", fn := fun _ => fun
  | [d1, d2] => { results := [.lit (.bool true)], args := [d1, d2] }
  | _ => none }
def histRefusedRow : OpenClaim := { program := "ytkeacipjjoeieaa", sum := "2d1ded9f05d51480385ea662455c67f4b3bd54b434bc8f0320713df474fcea2a", func := "fustian/fustiankeep.HistRefused", spec := "histRefused", apart := false }
def HistRefusedSaid : Prop := histRefusedRow.holds Try.pinned (OpenSpec.ofChange histRefusedSpec)

/-- ITS FALSE NEIGHBOUR: 'it returns false'. Refute it at one input. -/
def histRefusedWrong : ChangeSpec := { name := "histRefused", fn := fun _ => fun
  | [d1, d2] => { results := [.lit (.bool false)], args := [d1, d2] }
  | _ => none }
def HistRefusedWrongFalsely : Prop := histRefusedRow.holds Try.pinned (OpenSpec.ofChange histRefusedWrong)

/-- 'fustiankeep.HistGroups': WHATEVER THE INPUT: true; the input reads as it did. -/
def histGroupsSpec : ChangeSpec := { name := "histGroups", fn := fun _ => fun
  | [d1, d2, d3] => { results := [.lit (.bool true)], args := [d1, d2, d3] }
  | _ => none }
def histGroupsRow : OpenClaim := { program := "ytkeacipjjoeieaa", sum := "2d1ded9f05d51480385ea662455c67f4b3bd54b434bc8f0320713df474fcea2a", func := "fustian/fustiankeep.HistGroups", spec := "histGroups", apart := false }
def HistGroupsSaid : Prop := histGroupsRow.holds Try.pinned (OpenSpec.ofChange histGroupsSpec)

/-- ITS FALSE NEIGHBOUR: 'it returns false'. Refute it at one input. -/
def histGroupsWrong : ChangeSpec := { name := "histGroups", fn := fun _ => fun
  | [d1, d2, d3] => { results := [.lit (.bool false)], args := [d1, d2, d3] }
  | _ => none }
def HistGroupsWrongFalsely : Prop := histGroupsRow.holds Try.pinned (OpenSpec.ofChange histGroupsWrong)

/- THE SECOND FORM. 'bulk': how many values and letters a reading holds, each counted each time it is reached (what is shared counts as often as it is met; a slice's spare places count too). A statement '..UptoSaid' is the law's where the arguments, and the package variables that the reading takes, are together of bulk at most 1048576: NARROWER than '..Said'. Prove '..Said' where nothing that the law and all that it calls make is longer than what came in: it says more and counts as full. Else prove '..UptoSaid'. A law counts once. -/
mutual
def uptoBulk {H : Type} : DataW H → Nat
  | .lit (.string bytes) => bytes.length + 1
  | .lit _ => 1
  | .nil => 1
  | .ptr d => uptoBulk d + 1
  | .slice elems spare => uptoBulkAll elems + uptoBulkAll spare + 1
  | .agg parts => uptoBulkAll parts + 1
  | .iface _ d => uptoBulk d + 1
  | .map entries => uptoBulkEntries entries + 1
  | .held _ => 1
def uptoBulkAll {H : Type} : List (DataW H) → Nat
  | [] => 0
  | d :: r => uptoBulk d + uptoBulkAll r
def uptoBulkEntries {H : Type} : List (Lit × DataW H) → Nat
  | [] => 0
  | x :: r => uptoBulkEntry x + uptoBulkEntries r
def uptoBulkEntry {H : Type} : Lit × DataW H → Nat
  | (.string bytes, d) => bytes.length + uptoBulk d + 1
  | (_, d) => uptoBulk d + 1
 end
def uptoSmall : (H : Type) → List (DataW H) → Bool := fun _ ds => decide (uptoBulkAll ds ≤ 1048576)
def OpenSpec.upto (s : _root_.Go.ChangeSpec) : _root_.Go.OpenSpec := { _root_.Go.OpenSpec.ofChange s with cond := some uptoSmall }

/-- 'fustianlaw.HistPlays', WHERE WHAT IT READS IS OF BULK AT MOST 1048576: true; the input reads as it did. -/
def histPlaysUptoRow : OpenClaim := { program := "ytkeacipjjoeieaa", sum := "2d1ded9f05d51480385ea662455c67f4b3bd54b434bc8f0320713df474fcea2a", func := "fustian/fustianlaw.HistPlays", spec := "histPlays", apart := false, narrowed := true }
def HistPlaysUptoSaid : Prop := histPlaysUptoRow.holds Try.pinned (OpenSpec.upto histPlaysSpec)

/-- 'fustianlaw.HistCounts', WHERE WHAT IT READS IS OF BULK AT MOST 1048576: true; the input reads as it did. -/
def histCountsUptoRow : OpenClaim := { program := "ytkeacipjjoeieaa", sum := "2d1ded9f05d51480385ea662455c67f4b3bd54b434bc8f0320713df474fcea2a", func := "fustian/fustianlaw.HistCounts", spec := "histCounts", apart := false, narrowed := true }
def HistCountsUptoSaid : Prop := histCountsUptoRow.holds Try.pinned (OpenSpec.upto histCountsSpec)

/-- 'fustiankeep.HistThere', WHERE WHAT IT READS IS OF BULK AT MOST 1048576: true; the input reads as it did. -/
def histThereUptoRow : OpenClaim := { program := "ytkeacipjjoeieaa", sum := "2d1ded9f05d51480385ea662455c67f4b3bd54b434bc8f0320713df474fcea2a", func := "fustian/fustiankeep.HistThere", spec := "histThere", apart := false, narrowed := true }
def HistThereUptoSaid : Prop := histThereUptoRow.holds Try.pinned (OpenSpec.upto histThereSpec)

/-- 'fustiankeep.HistBegin', WHERE WHAT IT READS IS OF BULK AT MOST 1048576: true; the input reads as it did. -/
def histBeginUptoRow : OpenClaim := { program := "ytkeacipjjoeieaa", sum := "2d1ded9f05d51480385ea662455c67f4b3bd54b434bc8f0320713df474fcea2a", func := "fustian/fustiankeep.HistBegin", spec := "histBegin", apart := false, narrowed := true }
def HistBeginUptoSaid : Prop := histBeginUptoRow.holds Try.pinned (OpenSpec.upto histBeginSpec)

/-- 'fustiankeep.HistRefused', WHERE WHAT IT READS IS OF BULK AT MOST 1048576: true; the input reads as it did. -/
def histRefusedUptoRow : OpenClaim := { program := "ytkeacipjjoeieaa", sum := "2d1ded9f05d51480385ea662455c67f4b3bd54b434bc8f0320713df474fcea2a", func := "fustian/fustiankeep.HistRefused", spec := "histRefused", apart := false, narrowed := true }
def HistRefusedUptoSaid : Prop := histRefusedUptoRow.holds Try.pinned (OpenSpec.upto histRefusedSpec)

/-- 'fustiankeep.HistGroups', WHERE WHAT IT READS IS OF BULK AT MOST 1048576: true; the input reads as it did. -/
def histGroupsUptoRow : OpenClaim := { program := "ytkeacipjjoeieaa", sum := "2d1ded9f05d51480385ea662455c67f4b3bd54b434bc8f0320713df474fcea2a", func := "fustian/fustiankeep.HistGroups", spec := "histGroups", apart := false, narrowed := true }
def HistGroupsUptoSaid : Prop := histGroupsUptoRow.holds Try.pinned (OpenSpec.upto histGroupsSpec)

end Rows
end Go.Proofs.Ytkeacipjjoeieaa
