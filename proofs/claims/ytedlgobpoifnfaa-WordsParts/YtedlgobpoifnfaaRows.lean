/-
  No cell of these rows narrows 'for every input' (looked for: loops, veiled, ifaces, maps, wideKeys, modest, calm, conditions, laid).
  DERIVED. THE GIVEN ROWS OF THIS SEAT. 6 by the template 'for every input the law returns true; each argument reads behind the call as it read before'; 0 by the template 'total and deterministic' (their statements: YtedlgobpoifnfaaTotals.lean).
  GIVEN WITH THE SEED: the statements are not yours to turn. If you find one false, say at which input.
  Laid BY PROGRAM, IN A SANDBOX (cutbox-rows.mjs): the forced cells as the released guide's own fill.sh prints them over the translation bed64edc293c369c… (all of the seat's roots in one cut). By AI agents, Wed Nov 11 2026. No macro, syntax, notation, axiom, sorry.
-/
import Derived.Test.YtedlgobpoifnfaaChecked
import GoSem.Claim
import GoSem.ClaimJoined
import GoSem.ClaimMapViews
import Derived.JoinedTies
import Derived.KernelRfl
namespace Go.Proofs.Ytedlgobpoifnfaa
/- THE CELL 'sum', in the pinned program and in every row, IS THE sha256 OF THE DUMP (.gsa) THAT YtedlgobpoifnfaaProg.lean LOADS. Nothing in Lean hashes anything: it is a label: what it is worth is what the hold of that sum in a sandbox is worth. -/
noncomputable def Try.pinned : Pinned := { name := "ytedlgobpoifnfaa", sum := "bed64edc293c369c8ba25f8a903c62f0e03c10caafbdb59acdfa1bdc19802bab", checked := Try.checked }
namespace Rows
def none {H : Type} : Left H := { results := [], args := [] }

/-- 'fustianlaw.WordsAlls': WHATEVER THE INPUT: true; the input reads as it did. -/
def wordsAllsSpec : ChangeSpec := { name := "wordsAlls", fn := fun _ => fun
  | [d] => { results := [.lit (.bool true)], args := [d] }
  | _ => none }
def wordsAllsRow : OpenClaim := { program := "ytedlgobpoifnfaa", sum := "bed64edc293c369c8ba25f8a903c62f0e03c10caafbdb59acdfa1bdc19802bab", func := "fustian/fustianlaw.WordsAlls", spec := "wordsAlls", inPlace := ["internal/reflectlite.ValueOf", "internal/reflectlite.Swapper", "(internal/reflectlite.Value).Len"], unfollowed := true, recurses := true, apart := false }
def WordsAllsSaid : Prop := wordsAllsRow.holds Try.pinned (OpenSpec.ofChange wordsAllsSpec)

/-- ITS FALSE NEIGHBOUR: 'it returns false'. Refute it at one input. -/
def wordsAllsWrong : ChangeSpec := { name := "wordsAlls", fn := fun _ => fun
  | [d] => { results := [.lit (.bool false)], args := [d] }
  | _ => none }
def WordsAllsWrongFalsely : Prop := wordsAllsRow.holds Try.pinned (OpenSpec.ofChange wordsAllsWrong)

/-- 'fustianlaw.WordsFinds': WHATEVER THE INPUT: true; the input reads as it did. -/
def wordsFindsSpec : ChangeSpec := { name := "wordsFinds", fn := fun _ => fun
  | [d1, d2] => { results := [.lit (.bool true)], args := [d1, d2] }
  | _ => none }
def wordsFindsRow : OpenClaim := { program := "ytedlgobpoifnfaa", sum := "bed64edc293c369c8ba25f8a903c62f0e03c10caafbdb59acdfa1bdc19802bab", func := "fustian/fustianlaw.WordsFinds", spec := "wordsFinds", unfollowed := true, recurses := true, apart := false }
def WordsFindsSaid : Prop := wordsFindsRow.holds Try.pinned (OpenSpec.ofChange wordsFindsSpec)

/-- ITS FALSE NEIGHBOUR: 'it returns false'. Refute it at one input. -/
def wordsFindsWrong : ChangeSpec := { name := "wordsFinds", fn := fun _ => fun
  | [d1, d2] => { results := [.lit (.bool false)], args := [d1, d2] }
  | _ => none }
def WordsFindsWrongFalsely : Prop := wordsFindsRow.holds Try.pinned (OpenSpec.ofChange wordsFindsWrong)

/-- 'fustianlaw.WordsUpdates': WHATEVER THE INPUT: true; the input reads as it did. -/
def wordsUpdatesSpec : ChangeSpec := { name := "wordsUpdates", fn := fun _ => fun
  | [d1, d2, d3] => { results := [.lit (.bool true)], args := [d1, d2, d3] }
  | _ => none }
def wordsUpdatesRow : OpenClaim := { program := "ytedlgobpoifnfaa", sum := "bed64edc293c369c8ba25f8a903c62f0e03c10caafbdb59acdfa1bdc19802bab", func := "fustian/fustianlaw.WordsUpdates", spec := "wordsUpdates", inPlace := ["internal/reflectlite.ValueOf", "internal/reflectlite.Swapper", "(internal/reflectlite.Value).Len"], unfollowed := true, recurses := true, apart := false }
def WordsUpdatesSaid : Prop := wordsUpdatesRow.holds Try.pinned (OpenSpec.ofChange wordsUpdatesSpec)

/-- ITS FALSE NEIGHBOUR: 'it returns false'. Refute it at one input. -/
def wordsUpdatesWrong : ChangeSpec := { name := "wordsUpdates", fn := fun _ => fun
  | [d1, d2, d3] => { results := [.lit (.bool false)], args := [d1, d2, d3] }
  | _ => none }
def WordsUpdatesWrongFalsely : Prop := wordsUpdatesRow.holds Try.pinned (OpenSpec.ofChange wordsUpdatesWrong)

/-- 'fustiankeep.WordsFollow': WHATEVER THE INPUT: true; the input reads as it did. -/
def wordsFollowSpec : ChangeSpec := { name := "wordsFollow", fn := fun _ => fun
  | [d1, d2] => { results := [.lit (.bool true)], args := [d1, d2] }
  | _ => none }
def wordsFollowRow : OpenClaim := { program := "ytedlgobpoifnfaa", sum := "bed64edc293c369c8ba25f8a903c62f0e03c10caafbdb59acdfa1bdc19802bab", func := "fustian/fustiankeep.WordsFollow", spec := "wordsFollow", unfollowed := true, recurses := true, apart := false }
def WordsFollowSaid : Prop := wordsFollowRow.holds Try.pinned (OpenSpec.ofChange wordsFollowSpec)

/-- ITS FALSE NEIGHBOUR: 'it returns false'. Refute it at one input. -/
def wordsFollowWrong : ChangeSpec := { name := "wordsFollow", fn := fun _ => fun
  | [d1, d2] => { results := [.lit (.bool false)], args := [d1, d2] }
  | _ => none }
def WordsFollowWrongFalsely : Prop := wordsFollowRow.holds Try.pinned (OpenSpec.ofChange wordsFollowWrong)

/-- 'fustiankeep.WordsParts': WHATEVER THE INPUT: true; the input reads as it did. -/
def wordsPartsSpec : ChangeSpec := { name := "wordsParts", fn := fun _ => fun
  | [d1, d2] => { results := [.lit (.bool true)], args := [d1, d2] }
  | _ => none }
def wordsPartsRow : OpenClaim := { program := "ytedlgobpoifnfaa", sum := "bed64edc293c369c8ba25f8a903c62f0e03c10caafbdb59acdfa1bdc19802bab", func := "fustian/fustiankeep.WordsParts", spec := "wordsParts", unfollowed := true, recurses := true, apart := false }
def WordsPartsSaid : Prop := wordsPartsRow.holds Try.pinned (OpenSpec.ofChange wordsPartsSpec)

/-- ITS FALSE NEIGHBOUR: 'it returns false'. Refute it at one input. -/
def wordsPartsWrong : ChangeSpec := { name := "wordsParts", fn := fun _ => fun
  | [d1, d2] => { results := [.lit (.bool false)], args := [d1, d2] }
  | _ => none }
def WordsPartsWrongFalsely : Prop := wordsPartsRow.holds Try.pinned (OpenSpec.ofChange wordsPartsWrong)

/-- 'fustiankeep.WordsEdge': WHATEVER THE INPUT: true; the input reads as it did. -/
def wordsEdgeSpec : ChangeSpec := { name := "wordsEdge", fn := fun _ => fun
  | [d1, d2] => { results := [.lit (.bool true)], args := [d1, d2] }
  | _ => none }
def wordsEdgeRow : OpenClaim := { program := "ytedlgobpoifnfaa", sum := "bed64edc293c369c8ba25f8a903c62f0e03c10caafbdb59acdfa1bdc19802bab", func := "fustian/fustiankeep.WordsEdge", spec := "wordsEdge", unfollowed := true, recurses := true, apart := false }
def WordsEdgeSaid : Prop := wordsEdgeRow.holds Try.pinned (OpenSpec.ofChange wordsEdgeSpec)

/-- ITS FALSE NEIGHBOUR: 'it returns false'. Refute it at one input. -/
def wordsEdgeWrong : ChangeSpec := { name := "wordsEdge", fn := fun _ => fun
  | [d1, d2] => { results := [.lit (.bool false)], args := [d1, d2] }
  | _ => none }
def WordsEdgeWrongFalsely : Prop := wordsEdgeRow.holds Try.pinned (OpenSpec.ofChange wordsEdgeWrong)

/- THE SECOND FORM. 'bulk': how many values and letters a reading holds, each counted each time it is reached (what is shared counts as often as it is met; a slice's spare places count too). A statement '..UptoSaid' is the law's where the arguments, and the package variables that the reading takes, are together of bulk at most 1048576: NARROWER than '..Said'. Prove '..Said' where nothing that the law and all that it calls make is longer than what came in: it says more and counts as full. Else prove '..UptoSaid'. A law counts once. -/
mutual
def uptoBulk {H : Type} : DataW H → Nat
  | .lit (.string bytes) => bytes.length + 1
  | .lit _ => 1
  | .nil => 1
  | .ptr d => uptoBulk d + 1
  | .slice elems spare => uptoBulkAll elems + uptoBulkAll spare + 1
  | .agg parts => uptoBulkAll parts + 1
  | .iface _ d => uptoBulk d + 1
  | .map entries => uptoBulkEntries entries + 1
  | .held _ => 1
def uptoBulkAll {H : Type} : List (DataW H) → Nat
  | [] => 0
  | d :: r => uptoBulk d + uptoBulkAll r
def uptoBulkEntries {H : Type} : List (Lit × DataW H) → Nat
  | [] => 0
  | x :: r => uptoBulkEntry x + uptoBulkEntries r
def uptoBulkEntry {H : Type} : Lit × DataW H → Nat
  | (.string bytes, d) => bytes.length + uptoBulk d + 1
  | (_, d) => uptoBulk d + 1
 end
def uptoSmall : (H : Type) → List (DataW H) → Bool := fun _ ds => decide (uptoBulkAll ds ≤ 1048576)
def OpenSpec.upto (s : _root_.Go.ChangeSpec) : _root_.Go.OpenSpec := { _root_.Go.OpenSpec.ofChange s with cond := some uptoSmall }

/-- 'fustianlaw.WordsAlls', WHERE WHAT IT READS IS OF BULK AT MOST 1048576: true; the input reads as it did. -/
def wordsAllsUptoRow : OpenClaim := { program := "ytedlgobpoifnfaa", sum := "bed64edc293c369c8ba25f8a903c62f0e03c10caafbdb59acdfa1bdc19802bab", func := "fustian/fustianlaw.WordsAlls", spec := "wordsAlls", inPlace := ["internal/reflectlite.ValueOf", "internal/reflectlite.Swapper", "(internal/reflectlite.Value).Len"], unfollowed := true, recurses := true, apart := false, narrowed := true }
def WordsAllsUptoSaid : Prop := wordsAllsUptoRow.holds Try.pinned (OpenSpec.upto wordsAllsSpec)

/-- 'fustianlaw.WordsFinds', WHERE WHAT IT READS IS OF BULK AT MOST 1048576: true; the input reads as it did. -/
def wordsFindsUptoRow : OpenClaim := { program := "ytedlgobpoifnfaa", sum := "bed64edc293c369c8ba25f8a903c62f0e03c10caafbdb59acdfa1bdc19802bab", func := "fustian/fustianlaw.WordsFinds", spec := "wordsFinds", unfollowed := true, recurses := true, apart := false, narrowed := true }
def WordsFindsUptoSaid : Prop := wordsFindsUptoRow.holds Try.pinned (OpenSpec.upto wordsFindsSpec)

/-- 'fustianlaw.WordsUpdates', WHERE WHAT IT READS IS OF BULK AT MOST 1048576: true; the input reads as it did. -/
def wordsUpdatesUptoRow : OpenClaim := { program := "ytedlgobpoifnfaa", sum := "bed64edc293c369c8ba25f8a903c62f0e03c10caafbdb59acdfa1bdc19802bab", func := "fustian/fustianlaw.WordsUpdates", spec := "wordsUpdates", inPlace := ["internal/reflectlite.ValueOf", "internal/reflectlite.Swapper", "(internal/reflectlite.Value).Len"], unfollowed := true, recurses := true, apart := false, narrowed := true }
def WordsUpdatesUptoSaid : Prop := wordsUpdatesUptoRow.holds Try.pinned (OpenSpec.upto wordsUpdatesSpec)

/-- 'fustiankeep.WordsFollow', WHERE WHAT IT READS IS OF BULK AT MOST 1048576: true; the input reads as it did. -/
def wordsFollowUptoRow : OpenClaim := { program := "ytedlgobpoifnfaa", sum := "bed64edc293c369c8ba25f8a903c62f0e03c10caafbdb59acdfa1bdc19802bab", func := "fustian/fustiankeep.WordsFollow", spec := "wordsFollow", unfollowed := true, recurses := true, apart := false, narrowed := true }
def WordsFollowUptoSaid : Prop := wordsFollowUptoRow.holds Try.pinned (OpenSpec.upto wordsFollowSpec)

/-- 'fustiankeep.WordsParts', WHERE WHAT IT READS IS OF BULK AT MOST 1048576: true; the input reads as it did. -/
def wordsPartsUptoRow : OpenClaim := { program := "ytedlgobpoifnfaa", sum := "bed64edc293c369c8ba25f8a903c62f0e03c10caafbdb59acdfa1bdc19802bab", func := "fustian/fustiankeep.WordsParts", spec := "wordsParts", unfollowed := true, recurses := true, apart := false, narrowed := true }
def WordsPartsUptoSaid : Prop := wordsPartsUptoRow.holds Try.pinned (OpenSpec.upto wordsPartsSpec)

/-- 'fustiankeep.WordsEdge', WHERE WHAT IT READS IS OF BULK AT MOST 1048576: true; the input reads as it did. -/
def wordsEdgeUptoRow : OpenClaim := { program := "ytedlgobpoifnfaa", sum := "bed64edc293c369c8ba25f8a903c62f0e03c10caafbdb59acdfa1bdc19802bab", func := "fustian/fustiankeep.WordsEdge", spec := "wordsEdge", unfollowed := true, recurses := true, apart := false, narrowed := true }
def WordsEdgeUptoSaid : Prop := wordsEdgeUptoRow.holds Try.pinned (OpenSpec.upto wordsEdgeSpec)

end Rows
end Go.Proofs.Ytedlgobpoifnfaa
