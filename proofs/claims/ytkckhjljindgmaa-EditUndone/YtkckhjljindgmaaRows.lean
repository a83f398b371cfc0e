/-
  No cell of these rows narrows 'for every input' (looked for: loops, veiled, ifaces, maps, wideKeys, modest, calm, conditions, laid).
  DERIVED. THE GIVEN ROWS OF THIS SEAT. 11 by the template 'for every input the law returns true; each argument reads behind the call as it read before'; 0 by the template 'total and deterministic' (their statements: YtkckhjljindgmaaTotals.lean).
  GIVEN WITH THE SEED: the statements are not yours to turn. If you find one false, say at which input.
  Laid BY PROGRAM, IN A SANDBOX (cutbox-rows.mjs): the forced cells as the released guide's own fill.sh prints them over the translation 8a9f317a64d565b7… (all of the seat's roots in one cut). By AI agents, Wed Nov 11 2026. No macro, syntax, notation, axiom, sorry.
-/
import Derived.Test.YtkckhjljindgmaaChecked
import GoSem.Claim
import GoSem.ClaimJoined
import GoSem.ClaimMapViews
import Derived.JoinedTies
import Derived.KernelRfl
namespace Go.Proofs.Ytkckhjljindgmaa
/- THE CELL 'sum', in the pinned program and in every row, IS THE sha256 OF THE DUMP (.gsa) THAT YtkckhjljindgmaaProg.lean LOADS. Nothing in Lean hashes anything: it is a label: what it is worth is what the hold of that sum in a sandbox is worth. -/
noncomputable def Try.pinned : Pinned := { name := "ytkckhjljindgmaa", sum := "8a9f317a64d565b7ec216a7e622f2e8ef449a77e4352019297398548a9f76702", checked := Try.checked }
namespace Rows
def none {H : Type} : Left H := { results := [], args := [] }

/-- 'fustianlaw.EditChecks': WHATEVER THE INPUT: true; the input reads as it did. -/
def editChecksSpec : ChangeSpec := { name := "editChecks", fn := fun _ => fun
  | [d1, d2] => { results := [.lit (.bool true)], args := [d1, d2] }
  | _ => none }
def editChecksRow : OpenClaim := { program := "ytkckhjljindgmaa", sum := "8a9f317a64d565b7ec216a7e622f2e8ef449a77e4352019297398548a9f76702", func := "fustian/fustianlaw.EditChecks", spec := "editChecks", apart := false }
def EditChecksSaid : Prop := editChecksRow.holds Try.pinned (OpenSpec.ofChange editChecksSpec)

/-- ITS FALSE NEIGHBOUR: 'it returns false'. Refute it at one input. -/
def editChecksWrong : ChangeSpec := { name := "editChecks", fn := fun _ => fun
  | [d1, d2] => { results := [.lit (.bool false)], args := [d1, d2] }
  | _ => none }
def EditChecksWrongFalsely : Prop := editChecksRow.holds Try.pinned (OpenSpec.ofChange editChecksWrong)

/-- 'fustianlaw.EditApplies': WHATEVER THE INPUT: true; the input reads as it did. -/
def editAppliesSpec : ChangeSpec := { name := "editApplies", fn := fun _ => fun
  | [d1, d2] => { results := [.lit (.bool true)], args := [d1, d2] }
  | _ => none }
def editAppliesRow : OpenClaim := { program := "ytkckhjljindgmaa", sum := "8a9f317a64d565b7ec216a7e622f2e8ef449a77e4352019297398548a9f76702", func := "fustian/fustianlaw.EditApplies", spec := "editApplies", apart := false }
def EditAppliesSaid : Prop := editAppliesRow.holds Try.pinned (OpenSpec.ofChange editAppliesSpec)

/-- ITS FALSE NEIGHBOUR: 'it returns false'. Refute it at one input. -/
def editAppliesWrong : ChangeSpec := { name := "editApplies", fn := fun _ => fun
  | [d1, d2] => { results := [.lit (.bool false)], args := [d1, d2] }
  | _ => none }
def EditAppliesWrongFalsely : Prop := editAppliesRow.holds Try.pinned (OpenSpec.ofChange editAppliesWrong)

/-- 'fustianlaw.EditInverts': WHATEVER THE INPUT: true; the input reads as it did. -/
def editInvertsSpec : ChangeSpec := { name := "editInverts", fn := fun _ => fun
  | [d1, d2] => { results := [.lit (.bool true)], args := [d1, d2] }
  | _ => none }
def editInvertsRow : OpenClaim := { program := "ytkckhjljindgmaa", sum := "8a9f317a64d565b7ec216a7e622f2e8ef449a77e4352019297398548a9f76702", func := "fustian/fustianlaw.EditInverts", spec := "editInverts", apart := false }
def EditInvertsSaid : Prop := editInvertsRow.holds Try.pinned (OpenSpec.ofChange editInvertsSpec)

/-- ITS FALSE NEIGHBOUR: 'it returns false'. Refute it at one input. -/
def editInvertsWrong : ChangeSpec := { name := "editInverts", fn := fun _ => fun
  | [d1, d2] => { results := [.lit (.bool false)], args := [d1, d2] }
  | _ => none }
def EditInvertsWrongFalsely : Prop := editInvertsRow.holds Try.pinned (OpenSpec.ofChange editInvertsWrong)

/-- 'fustianlaw.EditPlaces': WHATEVER THE INPUT: true; the input reads as it did. -/
def editPlacesSpec : ChangeSpec := { name := "editPlaces", fn := fun _ => fun
  | [d1, d2, d3] => { results := [.lit (.bool true)], args := [d1, d2, d3] }
  | _ => none }
def editPlacesRow : OpenClaim := { program := "ytkckhjljindgmaa", sum := "8a9f317a64d565b7ec216a7e622f2e8ef449a77e4352019297398548a9f76702", func := "fustian/fustianlaw.EditPlaces", spec := "editPlaces", apart := false }
def EditPlacesSaid : Prop := editPlacesRow.holds Try.pinned (OpenSpec.ofChange editPlacesSpec)

/-- ITS FALSE NEIGHBOUR: 'it returns false'. Refute it at one input. -/
def editPlacesWrong : ChangeSpec := { name := "editPlaces", fn := fun _ => fun
  | [d1, d2, d3] => { results := [.lit (.bool false)], args := [d1, d2, d3] }
  | _ => none }
def EditPlacesWrongFalsely : Prop := editPlacesRow.holds Try.pinned (OpenSpec.ofChange editPlacesWrong)

/-- 'fustianlaw.EditOvers': WHATEVER THE INPUT: true; the input reads as it did. -/
def editOversSpec : ChangeSpec := { name := "editOvers", fn := fun _ => fun
  | [d1, d2, d3] => { results := [.lit (.bool true)], args := [d1, d2, d3] }
  | _ => none }
def editOversRow : OpenClaim := { program := "ytkckhjljindgmaa", sum := "8a9f317a64d565b7ec216a7e622f2e8ef449a77e4352019297398548a9f76702", func := "fustian/fustianlaw.EditOvers", spec := "editOvers", unfollowed := true, recurses := true, apart := false }
def EditOversSaid : Prop := editOversRow.holds Try.pinned (OpenSpec.ofChange editOversSpec)

/-- ITS FALSE NEIGHBOUR: 'it returns false'. Refute it at one input. -/
def editOversWrong : ChangeSpec := { name := "editOvers", fn := fun _ => fun
  | [d1, d2, d3] => { results := [.lit (.bool false)], args := [d1, d2, d3] }
  | _ => none }
def EditOversWrongFalsely : Prop := editOversRow.holds Try.pinned (OpenSpec.ofChange editOversWrong)

/-- 'fustiankeep.EditUndone': WHATEVER THE INPUT: true; the input reads as it did. -/
def editUndoneSpec : ChangeSpec := { name := "editUndone", fn := fun _ => fun
  | [d1, d2] => { results := [.lit (.bool true)], args := [d1, d2] }
  | _ => none }
def editUndoneRow : OpenClaim := { program := "ytkckhjljindgmaa", sum := "8a9f317a64d565b7ec216a7e622f2e8ef449a77e4352019297398548a9f76702", func := "fustian/fustiankeep.EditUndone", spec := "editUndone", apart := false }
def EditUndoneSaid : Prop := editUndoneRow.holds Try.pinned (OpenSpec.ofChange editUndoneSpec)

/-- ITS FALSE NEIGHBOUR: 'it returns false'. Refute it at one input. -/
def editUndoneWrong : ChangeSpec := { name := "editUndone", fn := fun _ => fun
  | [d1, d2] => { results := [.lit (.bool false)], args := [d1, d2] }
  | _ => none }
def EditUndoneWrongFalsely : Prop := editUndoneRow.holds Try.pinned (OpenSpec.ofChange editUndoneWrong)

/-- 'fustiankeep.EditParts': WHATEVER THE INPUT: true; the input reads as it did. -/
def editPartsSpec : ChangeSpec := { name := "editParts", fn := fun _ => fun
  | [d1, d2, d3] => { results := [.lit (.bool true)], args := [d1, d2, d3] }
  | _ => none }
def editPartsRow : OpenClaim := { program := "ytkckhjljindgmaa", sum := "8a9f317a64d565b7ec216a7e622f2e8ef449a77e4352019297398548a9f76702", func := "fustian/fustiankeep.EditParts", spec := "editParts", apart := false }
def EditPartsSaid : Prop := editPartsRow.holds Try.pinned (OpenSpec.ofChange editPartsSpec)

/-- ITS FALSE NEIGHBOUR: 'it returns false'. Refute it at one input. -/
def editPartsWrong : ChangeSpec := { name := "editParts", fn := fun _ => fun
  | [d1, d2, d3] => { results := [.lit (.bool false)], args := [d1, d2, d3] }
  | _ => none }
def EditPartsWrongFalsely : Prop := editPartsRow.holds Try.pinned (OpenSpec.ofChange editPartsWrong)

/-- 'fustiankeep.EditCommutes': WHATEVER THE INPUT: true; the input reads as it did. -/
def editCommutesSpec : ChangeSpec := { name := "editCommutes", fn := fun _ => fun
  | [d1, d2, d3] => { results := [.lit (.bool true)], args := [d1, d2, d3] }
  | _ => none }
def editCommutesRow : OpenClaim := { program := "ytkckhjljindgmaa", sum := "8a9f317a64d565b7ec216a7e622f2e8ef449a77e4352019297398548a9f76702", func := "fustian/fustiankeep.EditCommutes", spec := "editCommutes", apart := false }
def EditCommutesSaid : Prop := editCommutesRow.holds Try.pinned (OpenSpec.ofChange editCommutesSpec)

/-- ITS FALSE NEIGHBOUR: 'it returns false'. Refute it at one input. -/
def editCommutesWrong : ChangeSpec := { name := "editCommutes", fn := fun _ => fun
  | [d1, d2, d3] => { results := [.lit (.bool false)], args := [d1, d2, d3] }
  | _ => none }
def EditCommutesWrongFalsely : Prop := editCommutesRow.holds Try.pinned (OpenSpec.ofChange editCommutesWrong)

/-- 'fustiankeep.EditKeeps': WHATEVER THE INPUT: true; the input reads as it did. -/
def editKeepsSpec : ChangeSpec := { name := "editKeeps", fn := fun _ => fun
  | [d1, d2, d3, d4] => { results := [.lit (.bool true)], args := [d1, d2, d3, d4] }
  | _ => none }
def editKeepsRow : OpenClaim := { program := "ytkckhjljindgmaa", sum := "8a9f317a64d565b7ec216a7e622f2e8ef449a77e4352019297398548a9f76702", func := "fustian/fustiankeep.EditKeeps", spec := "editKeeps", apart := false }
def EditKeepsSaid : Prop := editKeepsRow.holds Try.pinned (OpenSpec.ofChange editKeepsSpec)

/-- ITS FALSE NEIGHBOUR: 'it returns false'. Refute it at one input. -/
def editKeepsWrong : ChangeSpec := { name := "editKeeps", fn := fun _ => fun
  | [d1, d2, d3, d4] => { results := [.lit (.bool false)], args := [d1, d2, d3, d4] }
  | _ => none }
def EditKeepsWrongFalsely : Prop := editKeepsRow.holds Try.pinned (OpenSpec.ofChange editKeepsWrong)

/-- 'fustiankeep.EditRest': WHATEVER THE INPUT: true; the input reads as it did. -/
def editRestSpec : ChangeSpec := { name := "editRest", fn := fun _ => fun
  | [d1, d2] => { results := [.lit (.bool true)], args := [d1, d2] }
  | _ => none }
def editRestRow : OpenClaim := { program := "ytkckhjljindgmaa", sum := "8a9f317a64d565b7ec216a7e622f2e8ef449a77e4352019297398548a9f76702", func := "fustian/fustiankeep.EditRest", spec := "editRest", apart := false }
def EditRestSaid : Prop := editRestRow.holds Try.pinned (OpenSpec.ofChange editRestSpec)

/-- ITS FALSE NEIGHBOUR: 'it returns false'. Refute it at one input. -/
def editRestWrong : ChangeSpec := { name := "editRest", fn := fun _ => fun
  | [d1, d2] => { results := [.lit (.bool false)], args := [d1, d2] }
  | _ => none }
def EditRestWrongFalsely : Prop := editRestRow.holds Try.pinned (OpenSpec.ofChange editRestWrong)

/-- 'fustiantop.TopRope': WHATEVER THE INPUT: true; the input reads as it did. -/
def topRopeSpec : ChangeSpec := { name := "topRope", fn := fun _ => fun
  | [d1, d2] => { results := [.lit (.bool true)], args := [d1, d2] }
  | _ => none }
def topRopeRow : OpenClaim := { program := "ytkckhjljindgmaa", sum := "8a9f317a64d565b7ec216a7e622f2e8ef449a77e4352019297398548a9f76702", func := "fustian/fustiantop.TopRope", spec := "topRope", inPlace := ["internal/abi.NoEscape", "internal/bytealg.CountString", "internal/bytealg.IndexByteString", "internal/bytealg.IndexString"], unfollowed := true, recurses := true, named := ["internal/bytealg.MaxLen"], apart := false }
def TopRopeSaid : Prop := topRopeRow.holds Try.pinned (OpenSpec.ofChange topRopeSpec)

/-- ITS FALSE NEIGHBOUR: 'it returns false'. Refute it at one input. -/
def topRopeWrong : ChangeSpec := { name := "topRope", fn := fun _ => fun
  | [d1, d2] => { results := [.lit (.bool false)], args := [d1, d2] }
  | _ => none }
def TopRopeWrongFalsely : Prop := topRopeRow.holds Try.pinned (OpenSpec.ofChange topRopeWrong)

/- THE SECOND FORM. 'bulk': how many values and letters a reading holds, each counted each time it is reached (what is shared counts as often as it is met; a slice's spare places count too). A statement '..UptoSaid' is the law's where the arguments, and the package variables that the reading takes, are together of bulk at most 1048576: NARROWER than '..Said'. Prove '..Said' where nothing that the law and all that it calls make is longer than what came in: it says more and counts as full. Else prove '..UptoSaid'. A law counts once. -/
mutual
def uptoBulk {H : Type} : DataW H → Nat
  | .lit (.string bytes) => bytes.length + 1
  | .lit _ => 1
  | .nil => 1
  | .ptr d => uptoBulk d + 1
  | .slice elems spare => uptoBulkAll elems + uptoBulkAll spare + 1
  | .agg parts => uptoBulkAll parts + 1
  | .iface _ d => uptoBulk d + 1
  | .map entries => uptoBulkEntries entries + 1
  | .held _ => 1
def uptoBulkAll {H : Type} : List (DataW H) → Nat
  | [] => 0
  | d :: r => uptoBulk d + uptoBulkAll r
def uptoBulkEntries {H : Type} : List (Lit × DataW H) → Nat
  | [] => 0
  | x :: r => uptoBulkEntry x + uptoBulkEntries r
def uptoBulkEntry {H : Type} : Lit × DataW H → Nat
  | (.string bytes, d) => bytes.length + uptoBulk d + 1
  | (_, d) => uptoBulk d + 1
 end
def uptoSmall : (H : Type) → List (DataW H) → Bool := fun _ ds => decide (uptoBulkAll ds ≤ 1048576)
def OpenSpec.upto (s : _root_.Go.ChangeSpec) : _root_.Go.OpenSpec := { _root_.Go.OpenSpec.ofChange s with cond := some uptoSmall }

/-- 'fustianlaw.EditChecks', WHERE WHAT IT READS IS OF BULK AT MOST 1048576: true; the input reads as it did. -/
def editChecksUptoRow : OpenClaim := { program := "ytkckhjljindgmaa", sum := "8a9f317a64d565b7ec216a7e622f2e8ef449a77e4352019297398548a9f76702", func := "fustian/fustianlaw.EditChecks", spec := "editChecks", apart := false, narrowed := true }
def EditChecksUptoSaid : Prop := editChecksUptoRow.holds Try.pinned (OpenSpec.upto editChecksSpec)

/-- 'fustianlaw.EditApplies', WHERE WHAT IT READS IS OF BULK AT MOST 1048576: true; the input reads as it did. -/
def editAppliesUptoRow : OpenClaim := { program := "ytkckhjljindgmaa", sum := "8a9f317a64d565b7ec216a7e622f2e8ef449a77e4352019297398548a9f76702", func := "fustian/fustianlaw.EditApplies", spec := "editApplies", apart := false, narrowed := true }
def EditAppliesUptoSaid : Prop := editAppliesUptoRow.holds Try.pinned (OpenSpec.upto editAppliesSpec)

/-- 'fustianlaw.EditInverts', WHERE WHAT IT READS IS OF BULK AT MOST 1048576: true; the input reads as it did. -/
def editInvertsUptoRow : OpenClaim := { program := "ytkckhjljindgmaa", sum := "8a9f317a64d565b7ec216a7e622f2e8ef449a77e4352019297398548a9f76702", func := "fustian/fustianlaw.EditInverts", spec := "editInverts", apart := false, narrowed := true }
def EditInvertsUptoSaid : Prop := editInvertsUptoRow.holds Try.pinned (OpenSpec.upto editInvertsSpec)

/-- 'fustianlaw.EditPlaces', WHERE WHAT IT READS IS OF BULK AT MOST 1048576: true; the input reads as it did. -/
def editPlacesUptoRow : OpenClaim := { program := "ytkckhjljindgmaa", sum := "8a9f317a64d565b7ec216a7e622f2e8ef449a77e4352019297398548a9f76702", func := "fustian/fustianlaw.EditPlaces", spec := "editPlaces", apart := false, narrowed := true }
def EditPlacesUptoSaid : Prop := editPlacesUptoRow.holds Try.pinned (OpenSpec.upto editPlacesSpec)

/-- 'fustianlaw.EditOvers', WHERE WHAT IT READS IS OF BULK AT MOST 1048576: true; the input reads as it did. -/
def editOversUptoRow : OpenClaim := { program := "ytkckhjljindgmaa", sum := "8a9f317a64d565b7ec216a7e622f2e8ef449a77e4352019297398548a9f76702", func := "fustian/fustianlaw.EditOvers", spec := "editOvers", unfollowed := true, recurses := true, apart := false, narrowed := true }
def EditOversUptoSaid : Prop := editOversUptoRow.holds Try.pinned (OpenSpec.upto editOversSpec)

/-- 'fustiankeep.EditUndone', WHERE WHAT IT READS IS OF BULK AT MOST 1048576: true; the input reads as it did. -/
def editUndoneUptoRow : OpenClaim := { program := "ytkckhjljindgmaa", sum := "8a9f317a64d565b7ec216a7e622f2e8ef449a77e4352019297398548a9f76702", func := "fustian/fustiankeep.EditUndone", spec := "editUndone", apart := false, narrowed := true }
def EditUndoneUptoSaid : Prop := editUndoneUptoRow.holds Try.pinned (OpenSpec.upto editUndoneSpec)

/-- 'fustiankeep.EditParts', WHERE WHAT IT READS IS OF BULK AT MOST 1048576: true; the input reads as it did. -/
def editPartsUptoRow : OpenClaim := { program := "ytkckhjljindgmaa", sum := "8a9f317a64d565b7ec216a7e622f2e8ef449a77e4352019297398548a9f76702", func := "fustian/fustiankeep.EditParts", spec := "editParts", apart := false, narrowed := true }
def EditPartsUptoSaid : Prop := editPartsUptoRow.holds Try.pinned (OpenSpec.upto editPartsSpec)

/-- 'fustiankeep.EditCommutes', WHERE WHAT IT READS IS OF BULK AT MOST 1048576: true; the input reads as it did. -/
def editCommutesUptoRow : OpenClaim := { program := "ytkckhjljindgmaa", sum := "8a9f317a64d565b7ec216a7e622f2e8ef449a77e4352019297398548a9f76702", func := "fustian/fustiankeep.EditCommutes", spec := "editCommutes", apart := false, narrowed := true }
def EditCommutesUptoSaid : Prop := editCommutesUptoRow.holds Try.pinned (OpenSpec.upto editCommutesSpec)

/-- 'fustiankeep.EditKeeps', WHERE WHAT IT READS IS OF BULK AT MOST 1048576: true; the input reads as it did. -/
def editKeepsUptoRow : OpenClaim := { program := "ytkckhjljindgmaa", sum := "8a9f317a64d565b7ec216a7e622f2e8ef449a77e4352019297398548a9f76702", func := "fustian/fustiankeep.EditKeeps", spec := "editKeeps", apart := false, narrowed := true }
def EditKeepsUptoSaid : Prop := editKeepsUptoRow.holds Try.pinned (OpenSpec.upto editKeepsSpec)

/-- 'fustiankeep.EditRest', WHERE WHAT IT READS IS OF BULK AT MOST 1048576: true; the input reads as it did. -/
def editRestUptoRow : OpenClaim := { program := "ytkckhjljindgmaa", sum := "8a9f317a64d565b7ec216a7e622f2e8ef449a77e4352019297398548a9f76702", func := "fustian/fustiankeep.EditRest", spec := "editRest", apart := false, narrowed := true }
def EditRestUptoSaid : Prop := editRestUptoRow.holds Try.pinned (OpenSpec.upto editRestSpec)

/-- 'fustiantop.TopRope', WHERE WHAT IT READS IS OF BULK AT MOST 1048576: true; the input reads as it did. -/
def topRopeUptoRow : OpenClaim := { program := "ytkckhjljindgmaa", sum := "8a9f317a64d565b7ec216a7e622f2e8ef449a77e4352019297398548a9f76702", func := "fustian/fustiantop.TopRope", spec := "topRope", inPlace := ["internal/abi.NoEscape", "internal/bytealg.CountString", "internal/bytealg.IndexByteString", "internal/bytealg.IndexString"], unfollowed := true, recurses := true, named := ["internal/bytealg.MaxLen"], apart := false, narrowed := true }
def TopRopeUptoSaid : Prop := topRopeUptoRow.holds Try.pinned (OpenSpec.upto topRopeSpec)

end Rows
end Go.Proofs.Ytkckhjljindgmaa
