/-
  No cell of these rows narrows 'for every input' (looked for: loops, veiled, ifaces, maps, wideKeys, modest, calm, conditions, laid).
  DERIVED. THE GIVEN ROWS OF THIS SEAT. 7 by the template 'for every input the law returns true; each argument reads behind the call as it read before'; 0 by the template 'total and deterministic' (their statements: YtfikolidmpjfcaaTotals.lean).
  GIVEN WITH THE SEED: the statements are not yours to turn. If you find one false, say at which input.
  Laid BY PROGRAM, IN A SANDBOX (cutbox-rows.mjs): the forced cells as the released guide's own fill.sh prints them over the translation f9439348e2c4db7b… (all of the seat's roots in one cut). By AI agents, Wed Nov 11 2026. No macro, syntax, notation, axiom, sorry.
-/
import Derived.Test.YtfikolidmpjfcaaChecked
import GoSem.Claim
import GoSem.ClaimJoined
import GoSem.ClaimMapViews
import Derived.JoinedTies
import Derived.KernelRfl
namespace Go.Proofs.Ytfikolidmpjfcaa
/- THE CELL 'sum', in the pinned program and in every row, IS THE sha256 OF THE DUMP (.gsa) THAT YtfikolidmpjfcaaProg.lean LOADS. Nothing in Lean hashes anything: it is a label: what it is worth is what the hold of that sum in a sandbox is worth. -/
noncomputable def Try.pinned : Pinned := { name := "ytfikolidmpjfcaa", sum := "f9439348e2c4db7b0e3dd82b50852d32b46e3f7ff5df9247e6a55a16355ad455", checked := Try.checked }
namespace Rows
def none {H : Type} : Left H := { results := [], args := [] }

/-- 'fustianlaw.LinesStarts': WHATEVER THE INPUT: true; the input reads as it did. -/
def linesStartsSpec : ChangeSpec := { name := "linesStarts", fn := fun _ => fun
  | [d] => { results := [.lit (.bool true)], args := [d] }
  | _ => none }
def linesStartsRow : OpenClaim := { program := "ytfikolidmpjfcaa", sum := "f9439348e2c4db7b0e3dd82b50852d32b46e3f7ff5df9247e6a55a16355ad455", func := "fustian/fustianlaw.LinesStarts", spec := "linesStarts", apart := false }
def LinesStartsSaid : Prop := linesStartsRow.holds Try.pinned (OpenSpec.ofChange linesStartsSpec)

/-- ITS FALSE NEIGHBOUR: 'it returns false'. Refute it at one input. -/
def linesStartsWrong : ChangeSpec := { name := "linesStarts", fn := fun _ => fun
  | [d] => { results := [.lit (.bool false)], args := [d] }
  | _ => none }
def LinesStartsWrongFalsely : Prop := linesStartsRow.holds Try.pinned (OpenSpec.ofChange linesStartsWrong)

/-- 'fustianlaw.LinesUpdates': WHATEVER THE INPUT: true; the input reads as it did. -/
def linesUpdatesSpec : ChangeSpec := { name := "linesUpdates", fn := fun _ => fun
  | [d1, d2, d3] => { results := [.lit (.bool true)], args := [d1, d2, d3] }
  | _ => none }
def linesUpdatesRow : OpenClaim := { program := "ytfikolidmpjfcaa", sum := "f9439348e2c4db7b0e3dd82b50852d32b46e3f7ff5df9247e6a55a16355ad455", func := "fustian/fustianlaw.LinesUpdates", spec := "linesUpdates", unfollowed := true, recurses := true, apart := false }
def LinesUpdatesSaid : Prop := linesUpdatesRow.holds Try.pinned (OpenSpec.ofChange linesUpdatesSpec)

/-- ITS FALSE NEIGHBOUR: 'it returns false'. Refute it at one input. -/
def linesUpdatesWrong : ChangeSpec := { name := "linesUpdates", fn := fun _ => fun
  | [d1, d2, d3] => { results := [.lit (.bool false)], args := [d1, d2, d3] }
  | _ => none }
def LinesUpdatesWrongFalsely : Prop := linesUpdatesRow.holds Try.pinned (OpenSpec.ofChange linesUpdatesWrong)

/-- 'fustianlaw.LinesLines': WHATEVER THE INPUT: true; the input reads as it did. -/
def linesLinesSpec : ChangeSpec := { name := "linesLines", fn := fun _ => fun
  | [d1, d2] => { results := [.lit (.bool true)], args := [d1, d2] }
  | _ => none }
def linesLinesRow : OpenClaim := { program := "ytfikolidmpjfcaa", sum := "f9439348e2c4db7b0e3dd82b50852d32b46e3f7ff5df9247e6a55a16355ad455", func := "fustian/fustianlaw.LinesLines", spec := "linesLines", unfollowed := true, recurses := true, apart := false }
def LinesLinesSaid : Prop := linesLinesRow.holds Try.pinned (OpenSpec.ofChange linesLinesSpec)

/-- ITS FALSE NEIGHBOUR: 'it returns false'. Refute it at one input. -/
def linesLinesWrong : ChangeSpec := { name := "linesLines", fn := fun _ => fun
  | [d1, d2] => { results := [.lit (.bool false)], args := [d1, d2] }
  | _ => none }
def LinesLinesWrongFalsely : Prop := linesLinesRow.holds Try.pinned (OpenSpec.ofChange linesLinesWrong)

/-- 'fustiankeep.LinesFollow': WHATEVER THE INPUT: true; the input reads as it did. -/
def linesFollowSpec : ChangeSpec := { name := "linesFollow", fn := fun _ => fun
  | [d1, d2] => { results := [.lit (.bool true)], args := [d1, d2] }
  | _ => none }
def linesFollowRow : OpenClaim := { program := "ytfikolidmpjfcaa", sum := "f9439348e2c4db7b0e3dd82b50852d32b46e3f7ff5df9247e6a55a16355ad455", func := "fustian/fustiankeep.LinesFollow", spec := "linesFollow", unfollowed := true, recurses := true, apart := false }
def LinesFollowSaid : Prop := linesFollowRow.holds Try.pinned (OpenSpec.ofChange linesFollowSpec)

/-- ITS FALSE NEIGHBOUR: 'it returns false'. Refute it at one input. -/
def linesFollowWrong : ChangeSpec := { name := "linesFollow", fn := fun _ => fun
  | [d1, d2] => { results := [.lit (.bool false)], args := [d1, d2] }
  | _ => none }
def LinesFollowWrongFalsely : Prop := linesFollowRow.holds Try.pinned (OpenSpec.ofChange linesFollowWrong)

/-- 'fustiankeep.LinesPlaces': WHATEVER THE INPUT: true; the input reads as it did. -/
def linesPlacesSpec : ChangeSpec := { name := "linesPlaces", fn := fun _ => fun
  | [d1, d2] => { results := [.lit (.bool true)], args := [d1, d2] }
  | _ => none }
def linesPlacesRow : OpenClaim := { program := "ytfikolidmpjfcaa", sum := "f9439348e2c4db7b0e3dd82b50852d32b46e3f7ff5df9247e6a55a16355ad455", func := "fustian/fustiankeep.LinesPlaces", spec := "linesPlaces", inPlace := ["internal/bytealg.CountString", "internal/bytealg.IndexByteString", "internal/bytealg.IndexString"], unfollowed := true, recurses := true, named := ["internal/bytealg.MaxLen"], apart := false }
def LinesPlacesSaid : Prop := linesPlacesRow.holds Try.pinned (OpenSpec.ofChange linesPlacesSpec)

/-- ITS FALSE NEIGHBOUR: 'it returns false'. Refute it at one input. -/
def linesPlacesWrong : ChangeSpec := { name := "linesPlaces", fn := fun _ => fun
  | [d1, d2] => { results := [.lit (.bool false)], args := [d1, d2] }
  | _ => none }
def LinesPlacesWrongFalsely : Prop := linesPlacesRow.holds Try.pinned (OpenSpec.ofChange linesPlacesWrong)

/-- 'fustiankeep.LinesJoin': WHATEVER THE INPUT: true; the input reads as it did. -/
def linesJoinSpec : ChangeSpec := { name := "linesJoin", fn := fun _ => fun
  | [d1, d2] => { results := [.lit (.bool true)], args := [d1, d2] }
  | _ => none }
def linesJoinRow : OpenClaim := { program := "ytfikolidmpjfcaa", sum := "f9439348e2c4db7b0e3dd82b50852d32b46e3f7ff5df9247e6a55a16355ad455", func := "fustian/fustiankeep.LinesJoin", spec := "linesJoin", apart := false }
def LinesJoinSaid : Prop := linesJoinRow.holds Try.pinned (OpenSpec.ofChange linesJoinSpec)

/-- ITS FALSE NEIGHBOUR: 'it returns false'. Refute it at one input. -/
def linesJoinWrong : ChangeSpec := { name := "linesJoin", fn := fun _ => fun
  | [d1, d2] => { results := [.lit (.bool false)], args := [d1, d2] }
  | _ => none }
def LinesJoinWrongFalsely : Prop := linesJoinRow.holds Try.pinned (OpenSpec.ofChange linesJoinWrong)

/-- 'fustiantop.TopMarks': WHATEVER THE INPUT: true; the input reads as it did. -/
def topMarksSpec : ChangeSpec := { name := "topMarks", fn := fun _ => fun
  | [d1, d2] => { results := [.lit (.bool true)], args := [d1, d2] }
  | _ => none }
def topMarksRow : OpenClaim := { program := "ytfikolidmpjfcaa", sum := "f9439348e2c4db7b0e3dd82b50852d32b46e3f7ff5df9247e6a55a16355ad455", func := "fustian/fustiantop.TopMarks", spec := "topMarks", unfollowed := true, recurses := true, apart := false }
def TopMarksSaid : Prop := topMarksRow.holds Try.pinned (OpenSpec.ofChange topMarksSpec)

/-- ITS FALSE NEIGHBOUR: 'it returns false'. Refute it at one input. -/
def topMarksWrong : ChangeSpec := { name := "topMarks", fn := fun _ => fun
  | [d1, d2] => { results := [.lit (.bool false)], args := [d1, d2] }
  | _ => none }
def TopMarksWrongFalsely : Prop := topMarksRow.holds Try.pinned (OpenSpec.ofChange topMarksWrong)

/- THE SECOND FORM. 'bulk': how many values and letters a reading holds, each counted each time it is reached (what is shared counts as often as it is met; a slice's spare places count too). A statement '..UptoSaid' is the law's where the arguments, and the package variables that the reading takes, are together of bulk at most 1048576: NARROWER than '..Said'. Prove '..Said' where nothing that the law and all that it calls make is longer than what came in: it says more and counts as full. Else prove '..UptoSaid'. A law counts once. -/
mutual
def uptoBulk {H : Type} : DataW H → Nat
  | .lit (.string bytes) => bytes.length + 1
  | .lit _ => 1
  | .nil => 1
  | .ptr d => uptoBulk d + 1
  | .slice elems spare => uptoBulkAll elems + uptoBulkAll spare + 1
  | .agg parts => uptoBulkAll parts + 1
  | .iface _ d => uptoBulk d + 1
  | .map entries => uptoBulkEntries entries + 1
  | .held _ => 1
def uptoBulkAll {H : Type} : List (DataW H) → Nat
  | [] => 0
  | d :: r => uptoBulk d + uptoBulkAll r
def uptoBulkEntries {H : Type} : List (Lit × DataW H) → Nat
  | [] => 0
  | x :: r => uptoBulkEntry x + uptoBulkEntries r
def uptoBulkEntry {H : Type} : Lit × DataW H → Nat
  | (.string bytes, d) => bytes.length + uptoBulk d + 1
  | (_, d) => uptoBulk d + 1
 end
def uptoSmall : (H : Type) → List (DataW H) → Bool := fun _ ds => decide (uptoBulkAll ds ≤ 1048576)
def OpenSpec.upto (s : _root_.Go.ChangeSpec) : _root_.Go.OpenSpec := { _root_.Go.OpenSpec.ofChange s with cond := some uptoSmall }

/-- 'fustianlaw.LinesStarts', WHERE WHAT IT READS IS OF BULK AT MOST 1048576: true; the input reads as it did. -/
def linesStartsUptoRow : OpenClaim := { program := "ytfikolidmpjfcaa", sum := "f9439348e2c4db7b0e3dd82b50852d32b46e3f7ff5df9247e6a55a16355ad455", func := "fustian/fustianlaw.LinesStarts", spec := "linesStarts", apart := false, narrowed := true }
def LinesStartsUptoSaid : Prop := linesStartsUptoRow.holds Try.pinned (OpenSpec.upto linesStartsSpec)

/-- 'fustianlaw.LinesUpdates', WHERE WHAT IT READS IS OF BULK AT MOST 1048576: true; the input reads as it did. -/
def linesUpdatesUptoRow : OpenClaim := { program := "ytfikolidmpjfcaa", sum := "f9439348e2c4db7b0e3dd82b50852d32b46e3f7ff5df9247e6a55a16355ad455", func := "fustian/fustianlaw.LinesUpdates", spec := "linesUpdates", unfollowed := true, recurses := true, apart := false, narrowed := true }
def LinesUpdatesUptoSaid : Prop := linesUpdatesUptoRow.holds Try.pinned (OpenSpec.upto linesUpdatesSpec)

/-- 'fustianlaw.LinesLines', WHERE WHAT IT READS IS OF BULK AT MOST 1048576: true; the input reads as it did. -/
def linesLinesUptoRow : OpenClaim := { program := "ytfikolidmpjfcaa", sum := "f9439348e2c4db7b0e3dd82b50852d32b46e3f7ff5df9247e6a55a16355ad455", func := "fustian/fustianlaw.LinesLines", spec := "linesLines", unfollowed := true, recurses := true, apart := false, narrowed := true }
def LinesLinesUptoSaid : Prop := linesLinesUptoRow.holds Try.pinned (OpenSpec.upto linesLinesSpec)

/-- 'fustiankeep.LinesFollow', WHERE WHAT IT READS IS OF BULK AT MOST 1048576: true; the input reads as it did. -/
def linesFollowUptoRow : OpenClaim := { program := "ytfikolidmpjfcaa", sum := "f9439348e2c4db7b0e3dd82b50852d32b46e3f7ff5df9247e6a55a16355ad455", func := "fustian/fustiankeep.LinesFollow", spec := "linesFollow", unfollowed := true, recurses := true, apart := false, narrowed := true }
def LinesFollowUptoSaid : Prop := linesFollowUptoRow.holds Try.pinned (OpenSpec.upto linesFollowSpec)

/-- 'fustiankeep.LinesPlaces', WHERE WHAT IT READS IS OF BULK AT MOST 1048576: true; the input reads as it did. -/
def linesPlacesUptoRow : OpenClaim := { program := "ytfikolidmpjfcaa", sum := "f9439348e2c4db7b0e3dd82b50852d32b46e3f7ff5df9247e6a55a16355ad455", func := "fustian/fustiankeep.LinesPlaces", spec := "linesPlaces", inPlace := ["internal/bytealg.CountString", "internal/bytealg.IndexByteString", "internal/bytealg.IndexString"], unfollowed := true, recurses := true, named := ["internal/bytealg.MaxLen"], apart := false, narrowed := true }
def LinesPlacesUptoSaid : Prop := linesPlacesUptoRow.holds Try.pinned (OpenSpec.upto linesPlacesSpec)

/-- 'fustiankeep.LinesJoin', WHERE WHAT IT READS IS OF BULK AT MOST 1048576: true; the input reads as it did. -/
def linesJoinUptoRow : OpenClaim := { program := "ytfikolidmpjfcaa", sum := "f9439348e2c4db7b0e3dd82b50852d32b46e3f7ff5df9247e6a55a16355ad455", func := "fustian/fustiankeep.LinesJoin", spec := "linesJoin", apart := false, narrowed := true }
def LinesJoinUptoSaid : Prop := linesJoinUptoRow.holds Try.pinned (OpenSpec.upto linesJoinSpec)

/-- 'fustiantop.TopMarks', WHERE WHAT IT READS IS OF BULK AT MOST 1048576: true; the input reads as it did. -/
def topMarksUptoRow : OpenClaim := { program := "ytfikolidmpjfcaa", sum := "f9439348e2c4db7b0e3dd82b50852d32b46e3f7ff5df9247e6a55a16355ad455", func := "fustian/fustiantop.TopMarks", spec := "topMarks", unfollowed := true, recurses := true, apart := false, narrowed := true }
def TopMarksUptoSaid : Prop := topMarksUptoRow.holds Try.pinned (OpenSpec.upto topMarksSpec)

end Rows
end Go.Proofs.Ytfikolidmpjfcaa
