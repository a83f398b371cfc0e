/-
  No cell of these rows narrows 'for every input' (looked for: loops, veiled, ifaces, maps, wideKeys, modest, calm, conditions, laid).
  DERIVED. THE GIVEN ROWS OF THIS SEAT. 8 by the template 'for every input the law returns true; each argument reads behind the call as it read before'; 0 by the template 'total and deterministic' (their statements: YtllpglanpfjcnaaTotals.lean).
  GIVEN WITH THE SEED: the statements are not yours to turn. If you find one false, say at which input.
  Laid BY PROGRAM, IN A SANDBOX (cutbox-rows.mjs): the forced cells as the released guide's own fill.sh prints them over the translation fb8b1b46318ccb61… (all of the seat's roots in one cut). By AI agents, Wed Nov 11 2026. No macro, syntax, notation, axiom, sorry.
-/
import Derived.Test.YtllpglanpfjcnaaChecked
import GoSem.Claim
import GoSem.ClaimJoined
import GoSem.ClaimMapViews
import Derived.JoinedTies
import Derived.KernelRfl
namespace Go.Proofs.Ytllpglanpfjcnaa
/- THE CELL 'sum', in the pinned program and in every row, IS THE sha256 OF THE DUMP (.gsa) THAT YtllpglanpfjcnaaProg.lean LOADS. Nothing in Lean hashes anything: it is a label: what it is worth is what the hold of that sum in a sandbox is worth. -/
noncomputable def Try.pinned : Pinned := { name := "ytllpglanpfjcnaa", sum := "fb8b1b46318ccb610e488f9b7fcc4f9ec29c784b6b633b7afdf3944b2257d551", checked := Try.checked }
namespace Rows
def none {H : Type} : Left H := { results := [], args := [] }

/-- 'fustianlaw.MarksMoves': WHATEVER THE INPUT: true; the input reads as it did. -/
def marksMovesSpec : ChangeSpec := { name := "marksMoves", fn := fun _ => fun
  | [d1, d2, d3] => { results := [.lit (.bool true)], args := [d1, d2, d3] }
  | _ => none }
def marksMovesRow : OpenClaim := { program := "ytllpglanpfjcnaa", sum := "fb8b1b46318ccb610e488f9b7fcc4f9ec29c784b6b633b7afdf3944b2257d551", func := "fustian/fustianlaw.MarksMoves", spec := "marksMoves", unfollowed := true, recurses := true, apart := false }
def MarksMovesSaid : Prop := marksMovesRow.holds Try.pinned (OpenSpec.ofChange marksMovesSpec)

/-- ITS FALSE NEIGHBOUR: 'it returns false'. Refute it at one input. -/
def marksMovesWrong : ChangeSpec := { name := "marksMoves", fn := fun _ => fun
  | [d1, d2, d3] => { results := [.lit (.bool false)], args := [d1, d2, d3] }
  | _ => none }
def MarksMovesWrongFalsely : Prop := marksMovesRow.holds Try.pinned (OpenSpec.ofChange marksMovesWrong)

/-- 'fustianlaw.MarksOrders': WHATEVER THE INPUT: true; the input reads as it did. -/
def marksOrdersSpec : ChangeSpec := { name := "marksOrders", fn := fun _ => fun
  | [d] => { results := [.lit (.bool true)], args := [d] }
  | _ => none }
def marksOrdersRow : OpenClaim := { program := "ytllpglanpfjcnaa", sum := "fb8b1b46318ccb610e488f9b7fcc4f9ec29c784b6b633b7afdf3944b2257d551", func := "fustian/fustianlaw.MarksOrders", spec := "marksOrders", unfollowed := true, recurses := true, apart := false }
def MarksOrdersSaid : Prop := marksOrdersRow.holds Try.pinned (OpenSpec.ofChange marksOrdersSpec)

/-- ITS FALSE NEIGHBOUR: 'it returns false'. Refute it at one input. -/
def marksOrdersWrong : ChangeSpec := { name := "marksOrders", fn := fun _ => fun
  | [d] => { results := [.lit (.bool false)], args := [d] }
  | _ => none }
def MarksOrdersWrongFalsely : Prop := marksOrdersRow.holds Try.pinned (OpenSpec.ofChange marksOrdersWrong)

/-- 'fustianlaw.MarksNears': WHATEVER THE INPUT: true; the input reads as it did. -/
def marksNearsSpec : ChangeSpec := { name := "marksNears", fn := fun _ => fun
  | [d1, d2, d3] => { results := [.lit (.bool true)], args := [d1, d2, d3] }
  | _ => none }
def marksNearsRow : OpenClaim := { program := "ytllpglanpfjcnaa", sum := "fb8b1b46318ccb610e488f9b7fcc4f9ec29c784b6b633b7afdf3944b2257d551", func := "fustian/fustianlaw.MarksNears", spec := "marksNears", unfollowed := true, recurses := true, apart := false }
def MarksNearsSaid : Prop := marksNearsRow.holds Try.pinned (OpenSpec.ofChange marksNearsSpec)

/-- ITS FALSE NEIGHBOUR: 'it returns false'. Refute it at one input. -/
def marksNearsWrong : ChangeSpec := { name := "marksNears", fn := fun _ => fun
  | [d1, d2, d3] => { results := [.lit (.bool false)], args := [d1, d2, d3] }
  | _ => none }
def MarksNearsWrongFalsely : Prop := marksNearsRow.holds Try.pinned (OpenSpec.ofChange marksNearsWrong)

/-- 'fustiankeep.MarksOrdered': WHATEVER THE INPUT: true; the input reads as it did. -/
def marksOrderedSpec : ChangeSpec := { name := "marksOrdered", fn := fun _ => fun
  | [d1, d2, d3] => { results := [.lit (.bool true)], args := [d1, d2, d3] }
  | _ => none }
def marksOrderedRow : OpenClaim := { program := "ytllpglanpfjcnaa", sum := "fb8b1b46318ccb610e488f9b7fcc4f9ec29c784b6b633b7afdf3944b2257d551", func := "fustian/fustiankeep.MarksOrdered", spec := "marksOrdered", unfollowed := true, recurses := true, apart := false }
def MarksOrderedSaid : Prop := marksOrderedRow.holds Try.pinned (OpenSpec.ofChange marksOrderedSpec)

/-- ITS FALSE NEIGHBOUR: 'it returns false'. Refute it at one input. -/
def marksOrderedWrong : ChangeSpec := { name := "marksOrdered", fn := fun _ => fun
  | [d1, d2, d3] => { results := [.lit (.bool false)], args := [d1, d2, d3] }
  | _ => none }
def MarksOrderedWrongFalsely : Prop := marksOrderedRow.holds Try.pinned (OpenSpec.ofChange marksOrderedWrong)

/-- 'fustiankeep.MarksWithin': WHATEVER THE INPUT: true; the input reads as it did. -/
def marksWithinSpec : ChangeSpec := { name := "marksWithin", fn := fun _ => fun
  | [d1, d2, d3] => { results := [.lit (.bool true)], args := [d1, d2, d3] }
  | _ => none }
def marksWithinRow : OpenClaim := { program := "ytllpglanpfjcnaa", sum := "fb8b1b46318ccb610e488f9b7fcc4f9ec29c784b6b633b7afdf3944b2257d551", func := "fustian/fustiankeep.MarksWithin", spec := "marksWithin", unfollowed := true, recurses := true, apart := false }
def MarksWithinSaid : Prop := marksWithinRow.holds Try.pinned (OpenSpec.ofChange marksWithinSpec)

/-- ITS FALSE NEIGHBOUR: 'it returns false'. Refute it at one input. -/
def marksWithinWrong : ChangeSpec := { name := "marksWithin", fn := fun _ => fun
  | [d1, d2, d3] => { results := [.lit (.bool false)], args := [d1, d2, d3] }
  | _ => none }
def MarksWithinWrongFalsely : Prop := marksWithinRow.holds Try.pinned (OpenSpec.ofChange marksWithinWrong)

/-- 'fustiankeep.MarksUndone': WHATEVER THE INPUT: true; the input reads as it did. -/
def marksUndoneSpec : ChangeSpec := { name := "marksUndone", fn := fun _ => fun
  | [d1, d2, d3] => { results := [.lit (.bool true)], args := [d1, d2, d3] }
  | _ => none }
def marksUndoneRow : OpenClaim := { program := "ytllpglanpfjcnaa", sum := "fb8b1b46318ccb610e488f9b7fcc4f9ec29c784b6b633b7afdf3944b2257d551", func := "fustian/fustiankeep.MarksUndone", spec := "marksUndone", unfollowed := true, recurses := true, apart := false }
def MarksUndoneSaid : Prop := marksUndoneRow.holds Try.pinned (OpenSpec.ofChange marksUndoneSpec)

/-- ITS FALSE NEIGHBOUR: 'it returns false'. Refute it at one input. -/
def marksUndoneWrong : ChangeSpec := { name := "marksUndone", fn := fun _ => fun
  | [d1, d2, d3] => { results := [.lit (.bool false)], args := [d1, d2, d3] }
  | _ => none }
def MarksUndoneWrongFalsely : Prop := marksUndoneRow.holds Try.pinned (OpenSpec.ofChange marksUndoneWrong)

/-- 'fustiankeep.MarksSorted': WHATEVER THE INPUT: true; the input reads as it did. -/
def marksSortedSpec : ChangeSpec := { name := "marksSorted", fn := fun _ => fun
  | [d1, d2, d3] => { results := [.lit (.bool true)], args := [d1, d2, d3] }
  | _ => none }
def marksSortedRow : OpenClaim := { program := "ytllpglanpfjcnaa", sum := "fb8b1b46318ccb610e488f9b7fcc4f9ec29c784b6b633b7afdf3944b2257d551", func := "fustian/fustiankeep.MarksSorted", spec := "marksSorted", unfollowed := true, recurses := true, apart := false }
def MarksSortedSaid : Prop := marksSortedRow.holds Try.pinned (OpenSpec.ofChange marksSortedSpec)

/-- ITS FALSE NEIGHBOUR: 'it returns false'. Refute it at one input. -/
def marksSortedWrong : ChangeSpec := { name := "marksSorted", fn := fun _ => fun
  | [d1, d2, d3] => { results := [.lit (.bool false)], args := [d1, d2, d3] }
  | _ => none }
def MarksSortedWrongFalsely : Prop := marksSortedRow.holds Try.pinned (OpenSpec.ofChange marksSortedWrong)

/-- 'fustiankeep.MarksParts': WHATEVER THE INPUT: true; the input reads as it did. -/
def marksPartsSpec : ChangeSpec := { name := "marksParts", fn := fun _ => fun
  | [d1, d2, d3, d4] => { results := [.lit (.bool true)], args := [d1, d2, d3, d4] }
  | _ => none }
def marksPartsRow : OpenClaim := { program := "ytllpglanpfjcnaa", sum := "fb8b1b46318ccb610e488f9b7fcc4f9ec29c784b6b633b7afdf3944b2257d551", func := "fustian/fustiankeep.MarksParts", spec := "marksParts", unfollowed := true, recurses := true, apart := false }
def MarksPartsSaid : Prop := marksPartsRow.holds Try.pinned (OpenSpec.ofChange marksPartsSpec)

/-- ITS FALSE NEIGHBOUR: 'it returns false'. Refute it at one input. -/
def marksPartsWrong : ChangeSpec := { name := "marksParts", fn := fun _ => fun
  | [d1, d2, d3, d4] => { results := [.lit (.bool false)], args := [d1, d2, d3, d4] }
  | _ => none }
def MarksPartsWrongFalsely : Prop := marksPartsRow.holds Try.pinned (OpenSpec.ofChange marksPartsWrong)

/- THE SECOND FORM. 'bulk': how many values and letters a reading holds, each counted each time it is reached (what is shared counts as often as it is met; a slice's spare places count too). A statement '..UptoSaid' is the law's where the arguments, and the package variables that the reading takes, are together of bulk at most 1048576: NARROWER than '..Said'. Prove '..Said' where nothing that the law and all that it calls make is longer than what came in: it says more and counts as full. Else prove '..UptoSaid'. A law counts once. -/
mutual
def uptoBulk {H : Type} : DataW H → Nat
  | .lit (.string bytes) => bytes.length + 1
  | .lit _ => 1
  | .nil => 1
  | .ptr d => uptoBulk d + 1
  | .slice elems spare => uptoBulkAll elems + uptoBulkAll spare + 1
  | .agg parts => uptoBulkAll parts + 1
  | .iface _ d => uptoBulk d + 1
  | .map entries => uptoBulkEntries entries + 1
  | .held _ => 1
def uptoBulkAll {H : Type} : List (DataW H) → Nat
  | [] => 0
  | d :: r => uptoBulk d + uptoBulkAll r
def uptoBulkEntries {H : Type} : List (Lit × DataW H) → Nat
  | [] => 0
  | x :: r => uptoBulkEntry x + uptoBulkEntries r
def uptoBulkEntry {H : Type} : Lit × DataW H → Nat
  | (.string bytes, d) => bytes.length + uptoBulk d + 1
  | (_, d) => uptoBulk d + 1
 end
def uptoSmall : (H : Type) → List (DataW H) → Bool := fun _ ds => decide (uptoBulkAll ds ≤ 1048576)
def OpenSpec.upto (s : _root_.Go.ChangeSpec) : _root_.Go.OpenSpec := { _root_.Go.OpenSpec.ofChange s with cond := some uptoSmall }

/-- 'fustianlaw.MarksMoves', WHERE WHAT IT READS IS OF BULK AT MOST 1048576: true; the input reads as it did. -/
def marksMovesUptoRow : OpenClaim := { program := "ytllpglanpfjcnaa", sum := "fb8b1b46318ccb610e488f9b7fcc4f9ec29c784b6b633b7afdf3944b2257d551", func := "fustian/fustianlaw.MarksMoves", spec := "marksMoves", unfollowed := true, recurses := true, apart := false, narrowed := true }
def MarksMovesUptoSaid : Prop := marksMovesUptoRow.holds Try.pinned (OpenSpec.upto marksMovesSpec)

/-- 'fustianlaw.MarksOrders', WHERE WHAT IT READS IS OF BULK AT MOST 1048576: true; the input reads as it did. -/
def marksOrdersUptoRow : OpenClaim := { program := "ytllpglanpfjcnaa", sum := "fb8b1b46318ccb610e488f9b7fcc4f9ec29c784b6b633b7afdf3944b2257d551", func := "fustian/fustianlaw.MarksOrders", spec := "marksOrders", unfollowed := true, recurses := true, apart := false, narrowed := true }
def MarksOrdersUptoSaid : Prop := marksOrdersUptoRow.holds Try.pinned (OpenSpec.upto marksOrdersSpec)

/-- 'fustianlaw.MarksNears', WHERE WHAT IT READS IS OF BULK AT MOST 1048576: true; the input reads as it did. -/
def marksNearsUptoRow : OpenClaim := { program := "ytllpglanpfjcnaa", sum := "fb8b1b46318ccb610e488f9b7fcc4f9ec29c784b6b633b7afdf3944b2257d551", func := "fustian/fustianlaw.MarksNears", spec := "marksNears", unfollowed := true, recurses := true, apart := false, narrowed := true }
def MarksNearsUptoSaid : Prop := marksNearsUptoRow.holds Try.pinned (OpenSpec.upto marksNearsSpec)

/-- 'fustiankeep.MarksOrdered', WHERE WHAT IT READS IS OF BULK AT MOST 1048576: true; the input reads as it did. -/
def marksOrderedUptoRow : OpenClaim := { program := "ytllpglanpfjcnaa", sum := "fb8b1b46318ccb610e488f9b7fcc4f9ec29c784b6b633b7afdf3944b2257d551", func := "fustian/fustiankeep.MarksOrdered", spec := "marksOrdered", unfollowed := true, recurses := true, apart := false, narrowed := true }
def MarksOrderedUptoSaid : Prop := marksOrderedUptoRow.holds Try.pinned (OpenSpec.upto marksOrderedSpec)

/-- 'fustiankeep.MarksWithin', WHERE WHAT IT READS IS OF BULK AT MOST 1048576: true; the input reads as it did. -/
def marksWithinUptoRow : OpenClaim := { program := "ytllpglanpfjcnaa", sum := "fb8b1b46318ccb610e488f9b7fcc4f9ec29c784b6b633b7afdf3944b2257d551", func := "fustian/fustiankeep.MarksWithin", spec := "marksWithin", unfollowed := true, recurses := true, apart := false, narrowed := true }
def MarksWithinUptoSaid : Prop := marksWithinUptoRow.holds Try.pinned (OpenSpec.upto marksWithinSpec)

/-- 'fustiankeep.MarksUndone', WHERE WHAT IT READS IS OF BULK AT MOST 1048576: true; the input reads as it did. -/
def marksUndoneUptoRow : OpenClaim := { program := "ytllpglanpfjcnaa", sum := "fb8b1b46318ccb610e488f9b7fcc4f9ec29c784b6b633b7afdf3944b2257d551", func := "fustian/fustiankeep.MarksUndone", spec := "marksUndone", unfollowed := true, recurses := true, apart := false, narrowed := true }
def MarksUndoneUptoSaid : Prop := marksUndoneUptoRow.holds Try.pinned (OpenSpec.upto marksUndoneSpec)

/-- 'fustiankeep.MarksSorted', WHERE WHAT IT READS IS OF BULK AT MOST 1048576: true; the input reads as it did. -/
def marksSortedUptoRow : OpenClaim := { program := "ytllpglanpfjcnaa", sum := "fb8b1b46318ccb610e488f9b7fcc4f9ec29c784b6b633b7afdf3944b2257d551", func := "fustian/fustiankeep.MarksSorted", spec := "marksSorted", unfollowed := true, recurses := true, apart := false, narrowed := true }
def MarksSortedUptoSaid : Prop := marksSortedUptoRow.holds Try.pinned (OpenSpec.upto marksSortedSpec)

/-- 'fustiankeep.MarksParts', WHERE WHAT IT READS IS OF BULK AT MOST 1048576: true; the input reads as it did. -/
def marksPartsUptoRow : OpenClaim := { program := "ytllpglanpfjcnaa", sum := "fb8b1b46318ccb610e488f9b7fcc4f9ec29c784b6b633b7afdf3944b2257d551", func := "fustian/fustiankeep.MarksParts", spec := "marksParts", unfollowed := true, recurses := true, apart := false, narrowed := true }
def MarksPartsUptoSaid : Prop := marksPartsUptoRow.holds Try.pinned (OpenSpec.upto marksPartsSpec)

end Rows
end Go.Proofs.Ytllpglanpfjcnaa
