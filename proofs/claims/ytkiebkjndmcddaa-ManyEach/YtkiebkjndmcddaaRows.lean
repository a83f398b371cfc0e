/-
  No cell of these rows narrows 'for every input' (looked for: loops, veiled, ifaces, maps, wideKeys, modest, calm, conditions, laid).
  DERIVED. THE GIVEN ROWS OF THIS SEAT. 9 by the template 'for every input the law returns true; each argument reads behind the call as it read before'; 0 by the template 'total and deterministic' (their statements: YtkiebkjndmcddaaTotals.lean).
  GIVEN WITH THE SEED: the statements are not yours to turn. If you find one false, say at which input.
  Laid BY PROGRAM, IN A SANDBOX (cutbox-rows.mjs): the forced cells as the released guide's own fill.sh prints them over the translation 0368d17f6db47844… (all of the seat's roots in one cut). By AI agents, Wed Nov 11 2026. No macro, syntax, notation, axiom, sorry.
-/
import Derived.Test.YtkiebkjndmcddaaChecked
import GoSem.Claim
import GoSem.ClaimJoined
import GoSem.ClaimMapViews
import Derived.JoinedTies
import Derived.KernelRfl
namespace Go.Proofs.Ytkiebkjndmcddaa
/- THE CELL 'sum', in the pinned program and in every row, IS THE sha256 OF THE DUMP (.gsa) THAT YtkiebkjndmcddaaProg.lean LOADS. Nothing in Lean hashes anything: it is a label: what it is worth is what the hold of that sum in a sandbox is worth. -/
noncomputable def Try.pinned : Pinned := { name := "ytkiebkjndmcddaa", sum := "0368d17f6db478442a889028964acd4ce9faa5db672a1ea5c69a7b47ae66dc38", checked := Try.checked }
namespace Rows
def none {H : Type} : Left H := { results := [], args := [] }

/-- 'fustianlaw.FindAlls': WHATEVER THE INPUT: true; the input reads as it did. -/
def findAllsSpec : ChangeSpec := { name := "findAlls", fn := fun _ => fun
  | [d1, d2] => { results := [.lit (.bool true)], args := [d1, d2] }
  | _ => none }
def findAllsRow : OpenClaim := { program := "ytkiebkjndmcddaa", sum := "0368d17f6db478442a889028964acd4ce9faa5db672a1ea5c69a7b47ae66dc38", func := "fustian/fustianlaw.FindAlls", spec := "findAlls", apart := false }
def FindAllsSaid : Prop := findAllsRow.holds Try.pinned (OpenSpec.ofChange findAllsSpec)

/-- ITS FALSE NEIGHBOUR: 'it returns false'. Refute it at one input. -/
def findAllsWrong : ChangeSpec := { name := "findAlls", fn := fun _ => fun
  | [d1, d2] => { results := [.lit (.bool false)], args := [d1, d2] }
  | _ => none }
def FindAllsWrongFalsely : Prop := findAllsRow.holds Try.pinned (OpenSpec.ofChange findAllsWrong)

/-- 'fustianlaw.FindBorders': WHATEVER THE INPUT: true; the input reads as it did. -/
def findBordersSpec : ChangeSpec := { name := "findBorders", fn := fun _ => fun
  | [d] => { results := [.lit (.bool true)], args := [d] }
  | _ => none }
def findBordersRow : OpenClaim := { program := "ytkiebkjndmcddaa", sum := "0368d17f6db478442a889028964acd4ce9faa5db672a1ea5c69a7b47ae66dc38", func := "fustian/fustianlaw.FindBorders", spec := "findBorders", apart := false }
def FindBordersSaid : Prop := findBordersRow.holds Try.pinned (OpenSpec.ofChange findBordersSpec)

/-- ITS FALSE NEIGHBOUR: 'it returns false'. Refute it at one input. -/
def findBordersWrong : ChangeSpec := { name := "findBorders", fn := fun _ => fun
  | [d] => { results := [.lit (.bool false)], args := [d] }
  | _ => none }
def FindBordersWrongFalsely : Prop := findBordersRow.holds Try.pinned (OpenSpec.ofChange findBordersWrong)

/-- 'fustianlaw.FindReplaces': WHATEVER THE INPUT: true; the input reads as it did. -/
def findReplacesSpec : ChangeSpec := { name := "findReplaces", fn := fun _ => fun
  | [d1, d2, d3] => { results := [.lit (.bool true)], args := [d1, d2, d3] }
  | _ => none }
def findReplacesRow : OpenClaim := { program := "ytkiebkjndmcddaa", sum := "0368d17f6db478442a889028964acd4ce9faa5db672a1ea5c69a7b47ae66dc38", func := "fustian/fustianlaw.FindReplaces", spec := "findReplaces", inPlace := ["internal/abi.NoEscape"], apart := false }
def FindReplacesSaid : Prop := findReplacesRow.holds Try.pinned (OpenSpec.ofChange findReplacesSpec)

/-- ITS FALSE NEIGHBOUR: 'it returns false'. Refute it at one input. -/
def findReplacesWrong : ChangeSpec := { name := "findReplaces", fn := fun _ => fun
  | [d1, d2, d3] => { results := [.lit (.bool false)], args := [d1, d2, d3] }
  | _ => none }
def FindReplacesWrongFalsely : Prop := findReplacesRow.holds Try.pinned (OpenSpec.ofChange findReplacesWrong)

/-- 'fustianlaw.FindManys': WHATEVER THE INPUT: true; the input reads as it did. -/
def findManysSpec : ChangeSpec := { name := "findManys", fn := fun _ => fun
  | [d1, d2] => { results := [.lit (.bool true)], args := [d1, d2] }
  | _ => none }
def findManysRow : OpenClaim := { program := "ytkiebkjndmcddaa", sum := "0368d17f6db478442a889028964acd4ce9faa5db672a1ea5c69a7b47ae66dc38", func := "fustian/fustianlaw.FindManys", spec := "findManys", apart := false }
def FindManysSaid : Prop := findManysRow.holds Try.pinned (OpenSpec.ofChange findManysSpec)

/-- ITS FALSE NEIGHBOUR: 'it returns false'. Refute it at one input. -/
def findManysWrong : ChangeSpec := { name := "findManys", fn := fun _ => fun
  | [d1, d2] => { results := [.lit (.bool false)], args := [d1, d2] }
  | _ => none }
def FindManysWrongFalsely : Prop := findManysRow.holds Try.pinned (OpenSpec.ofChange findManysWrong)

/-- 'fustiankeep.FindJust': WHATEVER THE INPUT: true; the input reads as it did. -/
def findJustSpec : ChangeSpec := { name := "findJust", fn := fun _ => fun
  | [d1, d2, d3] => { results := [.lit (.bool true)], args := [d1, d2, d3] }
  | _ => none }
def findJustRow : OpenClaim := { program := "ytkiebkjndmcddaa", sum := "0368d17f6db478442a889028964acd4ce9faa5db672a1ea5c69a7b47ae66dc38", func := "fustian/fustiankeep.FindJust", spec := "findJust", apart := false }
def FindJustSaid : Prop := findJustRow.holds Try.pinned (OpenSpec.ofChange findJustSpec)

/-- ITS FALSE NEIGHBOUR: 'it returns false'. Refute it at one input. -/
def findJustWrong : ChangeSpec := { name := "findJust", fn := fun _ => fun
  | [d1, d2, d3] => { results := [.lit (.bool false)], args := [d1, d2, d3] }
  | _ => none }
def FindJustWrongFalsely : Prop := findJustRow.holds Try.pinned (OpenSpec.ofChange findJustWrong)

/-- 'fustiankeep.BorderPeriod': WHATEVER THE INPUT: true; the input reads as it did. -/
def borderPeriodSpec : ChangeSpec := { name := "borderPeriod", fn := fun _ => fun
  | [d] => { results := [.lit (.bool true)], args := [d] }
  | _ => none }
def borderPeriodRow : OpenClaim := { program := "ytkiebkjndmcddaa", sum := "0368d17f6db478442a889028964acd4ce9faa5db672a1ea5c69a7b47ae66dc38", func := "fustian/fustiankeep.BorderPeriod", spec := "borderPeriod", apart := false }
def BorderPeriodSaid : Prop := borderPeriodRow.holds Try.pinned (OpenSpec.ofChange borderPeriodSpec)

/-- ITS FALSE NEIGHBOUR: 'it returns false'. Refute it at one input. -/
def borderPeriodWrong : ChangeSpec := { name := "borderPeriod", fn := fun _ => fun
  | [d] => { results := [.lit (.bool false)], args := [d] }
  | _ => none }
def BorderPeriodWrongFalsely : Prop := borderPeriodRow.holds Try.pinned (OpenSpec.ofChange borderPeriodWrong)

/-- 'fustiankeep.ReplaceBack': WHATEVER THE INPUT: true; the input reads as it did. -/
def replaceBackSpec : ChangeSpec := { name := "replaceBack", fn := fun _ => fun
  | [d1, d2] => { results := [.lit (.bool true)], args := [d1, d2] }
  | _ => none }
def replaceBackRow : OpenClaim := { program := "ytkiebkjndmcddaa", sum := "0368d17f6db478442a889028964acd4ce9faa5db672a1ea5c69a7b47ae66dc38", func := "fustian/fustiankeep.ReplaceBack", spec := "replaceBack", inPlace := ["internal/abi.NoEscape"], apart := false }
def ReplaceBackSaid : Prop := replaceBackRow.holds Try.pinned (OpenSpec.ofChange replaceBackSpec)

/-- ITS FALSE NEIGHBOUR: 'it returns false'. Refute it at one input. -/
def replaceBackWrong : ChangeSpec := { name := "replaceBack", fn := fun _ => fun
  | [d1, d2] => { results := [.lit (.bool false)], args := [d1, d2] }
  | _ => none }
def ReplaceBackWrongFalsely : Prop := replaceBackRow.holds Try.pinned (OpenSpec.ofChange replaceBackWrong)

/-- 'fustiankeep.ManyEach': WHATEVER THE INPUT: true; the input reads as it did. -/
def manyEachSpec : ChangeSpec := { name := "manyEach", fn := fun _ => fun
  | [d1, d2] => { results := [.lit (.bool true)], args := [d1, d2] }
  | _ => none }
def manyEachRow : OpenClaim := { program := "ytkiebkjndmcddaa", sum := "0368d17f6db478442a889028964acd4ce9faa5db672a1ea5c69a7b47ae66dc38", func := "fustian/fustiankeep.ManyEach", spec := "manyEach", apart := false }
def ManyEachSaid : Prop := manyEachRow.holds Try.pinned (OpenSpec.ofChange manyEachSpec)

/-- ITS FALSE NEIGHBOUR: 'it returns false'. Refute it at one input. -/
def manyEachWrong : ChangeSpec := { name := "manyEach", fn := fun _ => fun
  | [d1, d2] => { results := [.lit (.bool false)], args := [d1, d2] }
  | _ => none }
def ManyEachWrongFalsely : Prop := manyEachRow.holds Try.pinned (OpenSpec.ofChange manyEachWrong)

/-- 'fustiankeep.ReplaceNone': WHATEVER THE INPUT: true; the input reads as it did. -/
def replaceNoneSpec : ChangeSpec := { name := "replaceNone", fn := fun _ => fun
  | [d1, d2] => { results := [.lit (.bool true)], args := [d1, d2] }
  | _ => none }
def replaceNoneRow : OpenClaim := { program := "ytkiebkjndmcddaa", sum := "0368d17f6db478442a889028964acd4ce9faa5db672a1ea5c69a7b47ae66dc38", func := "fustian/fustiankeep.ReplaceNone", spec := "replaceNone", inPlace := ["internal/abi.NoEscape"], apart := false }
def ReplaceNoneSaid : Prop := replaceNoneRow.holds Try.pinned (OpenSpec.ofChange replaceNoneSpec)

/-- ITS FALSE NEIGHBOUR: 'it returns false'. Refute it at one input. -/
def replaceNoneWrong : ChangeSpec := { name := "replaceNone", fn := fun _ => fun
  | [d1, d2] => { results := [.lit (.bool false)], args := [d1, d2] }
  | _ => none }
def ReplaceNoneWrongFalsely : Prop := replaceNoneRow.holds Try.pinned (OpenSpec.ofChange replaceNoneWrong)

/- THE SECOND FORM. 'bulk': how many values and letters a reading holds, each counted each time it is reached (what is shared counts as often as it is met; a slice's spare places count too). A statement '..UptoSaid' is the law's where the arguments, and the package variables that the reading takes, are together of bulk at most 1048576: NARROWER than '..Said'. Prove '..Said' where nothing that the law and all that it calls make is longer than what came in: it says more and counts as full. Else prove '..UptoSaid'. A law counts once. -/
mutual
def uptoBulk {H : Type} : DataW H → Nat
  | .lit (.string bytes) => bytes.length + 1
  | .lit _ => 1
  | .nil => 1
  | .ptr d => uptoBulk d + 1
  | .slice elems spare => uptoBulkAll elems + uptoBulkAll spare + 1
  | .agg parts => uptoBulkAll parts + 1
  | .iface _ d => uptoBulk d + 1
  | .map entries => uptoBulkEntries entries + 1
  | .held _ => 1
def uptoBulkAll {H : Type} : List (DataW H) → Nat
  | [] => 0
  | d :: r => uptoBulk d + uptoBulkAll r
def uptoBulkEntries {H : Type} : List (Lit × DataW H) → Nat
  | [] => 0
  | x :: r => uptoBulkEntry x + uptoBulkEntries r
def uptoBulkEntry {H : Type} : Lit × DataW H → Nat
  | (.string bytes, d) => bytes.length + uptoBulk d + 1
  | (_, d) => uptoBulk d + 1
 end
def uptoSmall : (H : Type) → List (DataW H) → Bool := fun _ ds => decide (uptoBulkAll ds ≤ 1048576)
def OpenSpec.upto (s : _root_.Go.ChangeSpec) : _root_.Go.OpenSpec := { _root_.Go.OpenSpec.ofChange s with cond := some uptoSmall }

/-- 'fustianlaw.FindAlls', WHERE WHAT IT READS IS OF BULK AT MOST 1048576: true; the input reads as it did. -/
def findAllsUptoRow : OpenClaim := { program := "ytkiebkjndmcddaa", sum := "0368d17f6db478442a889028964acd4ce9faa5db672a1ea5c69a7b47ae66dc38", func := "fustian/fustianlaw.FindAlls", spec := "findAlls", apart := false, narrowed := true }
def FindAllsUptoSaid : Prop := findAllsUptoRow.holds Try.pinned (OpenSpec.upto findAllsSpec)

/-- 'fustianlaw.FindBorders', WHERE WHAT IT READS IS OF BULK AT MOST 1048576: true; the input reads as it did. -/
def findBordersUptoRow : OpenClaim := { program := "ytkiebkjndmcddaa", sum := "0368d17f6db478442a889028964acd4ce9faa5db672a1ea5c69a7b47ae66dc38", func := "fustian/fustianlaw.FindBorders", spec := "findBorders", apart := false, narrowed := true }
def FindBordersUptoSaid : Prop := findBordersUptoRow.holds Try.pinned (OpenSpec.upto findBordersSpec)

/-- 'fustianlaw.FindReplaces', WHERE WHAT IT READS IS OF BULK AT MOST 1048576: true; the input reads as it did. -/
def findReplacesUptoRow : OpenClaim := { program := "ytkiebkjndmcddaa", sum := "0368d17f6db478442a889028964acd4ce9faa5db672a1ea5c69a7b47ae66dc38", func := "fustian/fustianlaw.FindReplaces", spec := "findReplaces", inPlace := ["internal/abi.NoEscape"], apart := false, narrowed := true }
def FindReplacesUptoSaid : Prop := findReplacesUptoRow.holds Try.pinned (OpenSpec.upto findReplacesSpec)

/-- 'fustianlaw.FindManys', WHERE WHAT IT READS IS OF BULK AT MOST 1048576: true; the input reads as it did. -/
def findManysUptoRow : OpenClaim := { program := "ytkiebkjndmcddaa", sum := "0368d17f6db478442a889028964acd4ce9faa5db672a1ea5c69a7b47ae66dc38", func := "fustian/fustianlaw.FindManys", spec := "findManys", apart := false, narrowed := true }
def FindManysUptoSaid : Prop := findManysUptoRow.holds Try.pinned (OpenSpec.upto findManysSpec)

/-- 'fustiankeep.FindJust', WHERE WHAT IT READS IS OF BULK AT MOST 1048576: true; the input reads as it did. -/
def findJustUptoRow : OpenClaim := { program := "ytkiebkjndmcddaa", sum := "0368d17f6db478442a889028964acd4ce9faa5db672a1ea5c69a7b47ae66dc38", func := "fustian/fustiankeep.FindJust", spec := "findJust", apart := false, narrowed := true }
def FindJustUptoSaid : Prop := findJustUptoRow.holds Try.pinned (OpenSpec.upto findJustSpec)

/-- 'fustiankeep.BorderPeriod', WHERE WHAT IT READS IS OF BULK AT MOST 1048576: true; the input reads as it did. -/
def borderPeriodUptoRow : OpenClaim := { program := "ytkiebkjndmcddaa", sum := "0368d17f6db478442a889028964acd4ce9faa5db672a1ea5c69a7b47ae66dc38", func := "fustian/fustiankeep.BorderPeriod", spec := "borderPeriod", apart := false, narrowed := true }
def BorderPeriodUptoSaid : Prop := borderPeriodUptoRow.holds Try.pinned (OpenSpec.upto borderPeriodSpec)

/-- 'fustiankeep.ReplaceBack', WHERE WHAT IT READS IS OF BULK AT MOST 1048576: true; the input reads as it did. -/
def replaceBackUptoRow : OpenClaim := { program := "ytkiebkjndmcddaa", sum := "0368d17f6db478442a889028964acd4ce9faa5db672a1ea5c69a7b47ae66dc38", func := "fustian/fustiankeep.ReplaceBack", spec := "replaceBack", inPlace := ["internal/abi.NoEscape"], apart := false, narrowed := true }
def ReplaceBackUptoSaid : Prop := replaceBackUptoRow.holds Try.pinned (OpenSpec.upto replaceBackSpec)

/-- 'fustiankeep.ManyEach', WHERE WHAT IT READS IS OF BULK AT MOST 1048576: true; the input reads as it did. -/
def manyEachUptoRow : OpenClaim := { program := "ytkiebkjndmcddaa", sum := "0368d17f6db478442a889028964acd4ce9faa5db672a1ea5c69a7b47ae66dc38", func := "fustian/fustiankeep.ManyEach", spec := "manyEach", apart := false, narrowed := true }
def ManyEachUptoSaid : Prop := manyEachUptoRow.holds Try.pinned (OpenSpec.upto manyEachSpec)

/-- 'fustiankeep.ReplaceNone', WHERE WHAT IT READS IS OF BULK AT MOST 1048576: true; the input reads as it did. -/
def replaceNoneUptoRow : OpenClaim := { program := "ytkiebkjndmcddaa", sum := "0368d17f6db478442a889028964acd4ce9faa5db672a1ea5c69a7b47ae66dc38", func := "fustian/fustiankeep.ReplaceNone", spec := "replaceNone", inPlace := ["internal/abi.NoEscape"], apart := false, narrowed := true }
def ReplaceNoneUptoSaid : Prop := replaceNoneUptoRow.holds Try.pinned (OpenSpec.upto replaceNoneSpec)

end Rows
end Go.Proofs.Ytkiebkjndmcddaa
