/-
  No cell of these rows narrows 'for every input' (looked for: loops, veiled, ifaces, maps, wideKeys, modest, calm, conditions, laid).
  DERIVED. THE GIVEN ROWS OF THIS SEAT. 8 by the template 'for every input the law returns true; each argument reads behind the call as it read before'; 0 by the template 'total and deterministic' (their statements: YteahnhemcceebaaTotals.lean).
  GIVEN WITH THE SEED: the statements are not yours to turn. If you find one false, say at which input.
  Laid BY PROGRAM, IN A SANDBOX (cutbox-rows.mjs): the forced cells as the released guide's own fill.sh prints them over the translation f1ac401a8760ba73… (all of the seat's roots in one cut). By AI agents, Wed Nov 11 2026. No macro, syntax, notation, axiom, sorry.
-/
import Derived.Test.YteahnhemcceebaaChecked
import GoSem.Claim
import GoSem.ClaimJoined
import GoSem.ClaimMapViews
import Derived.JoinedTies
import Derived.KernelRfl
namespace Go.Proofs.Yteahnhemcceebaa
/- THE CELL 'sum', in the pinned program and in every row, IS THE sha256 OF THE DUMP (.gsa) THAT YteahnhemcceebaaProg.lean LOADS. Nothing in Lean hashes anything: it is a label: what it is worth is what the hold of that sum in a sandbox is worth. -/
noncomputable def Try.pinned : Pinned := { name := "yteahnhemcceebaa", sum := "f1ac401a8760ba738a19509567ca8e2ec2c64215b63465e223dbb70e63fee56d", checked := Try.checked }
namespace Rows
def none {H : Type} : Left H := { results := [], args := [] }

/-- 'fustianlaw.RopePlays': WHATEVER THE INPUT: true; the input reads as it did. -/
def ropePlaysSpec : ChangeSpec := { name := "ropePlays", fn := fun _ => fun
  | [d] => { results := [.lit (.bool true)], args := [d] }
  | _ => none }
def ropePlaysRow : OpenClaim := { program := "yteahnhemcceebaa", sum := "f1ac401a8760ba738a19509567ca8e2ec2c64215b63465e223dbb70e63fee56d", func := "fustian/fustianlaw.RopePlays", spec := "ropePlays", inPlace := ["internal/abi.NoEscape"], unfollowed := true, recurses := true, apart := false }
def RopePlaysSaid : Prop := ropePlaysRow.holds Try.pinned (OpenSpec.ofChange ropePlaysSpec)

/-- ITS FALSE NEIGHBOUR: 'it returns false'. Refute it at one input. -/
def ropePlaysWrong : ChangeSpec := { name := "ropePlays", fn := fun _ => fun
  | [d] => { results := [.lit (.bool false)], args := [d] }
  | _ => none }
def RopePlaysWrongFalsely : Prop := ropePlaysRow.holds Try.pinned (OpenSpec.ofChange ropePlaysWrong)

/-- 'fustianlaw.RopeMeasures': WHATEVER THE INPUT: true; the input reads as it did. -/
def ropeMeasuresSpec : ChangeSpec := { name := "ropeMeasures", fn := fun _ => fun
  | [d] => { results := [.lit (.bool true)], args := [d] }
  | _ => none }
def ropeMeasuresRow : OpenClaim := { program := "yteahnhemcceebaa", sum := "f1ac401a8760ba738a19509567ca8e2ec2c64215b63465e223dbb70e63fee56d", func := "fustian/fustianlaw.RopeMeasures", spec := "ropeMeasures", inPlace := ["internal/bytealg.CountString", "internal/bytealg.IndexByteString", "internal/bytealg.IndexString"], unfollowed := true, recurses := true, named := ["internal/bytealg.MaxLen"], apart := false }
def RopeMeasuresSaid : Prop := ropeMeasuresRow.holds Try.pinned (OpenSpec.ofChange ropeMeasuresSpec)

/-- ITS FALSE NEIGHBOUR: 'it returns false'. Refute it at one input. -/
def ropeMeasuresWrong : ChangeSpec := { name := "ropeMeasures", fn := fun _ => fun
  | [d] => { results := [.lit (.bool false)], args := [d] }
  | _ => none }
def RopeMeasuresWrongFalsely : Prop := ropeMeasuresRow.holds Try.pinned (OpenSpec.ofChange ropeMeasuresWrong)

/-- 'fustianlaw.RopeDepths': WHATEVER THE INPUT: true; the input reads as it did. -/
def ropeDepthsSpec : ChangeSpec := { name := "ropeDepths", fn := fun _ => fun
  | [d] => { results := [.lit (.bool true)], args := [d] }
  | _ => none }
def ropeDepthsRow : OpenClaim := { program := "yteahnhemcceebaa", sum := "f1ac401a8760ba738a19509567ca8e2ec2c64215b63465e223dbb70e63fee56d", func := "fustian/fustianlaw.RopeDepths", spec := "ropeDepths", unfollowed := true, recurses := true, apart := false }
def RopeDepthsSaid : Prop := ropeDepthsRow.holds Try.pinned (OpenSpec.ofChange ropeDepthsSpec)

/-- ITS FALSE NEIGHBOUR: 'it returns false'. Refute it at one input. -/
def ropeDepthsWrong : ChangeSpec := { name := "ropeDepths", fn := fun _ => fun
  | [d] => { results := [.lit (.bool false)], args := [d] }
  | _ => none }
def RopeDepthsWrongFalsely : Prop := ropeDepthsRow.holds Try.pinned (OpenSpec.ofChange ropeDepthsWrong)

/-- 'fustiankeep.RopeCut': WHATEVER THE INPUT: true; the input reads as it did. -/
def ropeCutSpec : ChangeSpec := { name := "ropeCut", fn := fun _ => fun
  | [d1, d2, d3] => { results := [.lit (.bool true)], args := [d1, d2, d3] }
  | _ => none }
def ropeCutRow : OpenClaim := { program := "yteahnhemcceebaa", sum := "f1ac401a8760ba738a19509567ca8e2ec2c64215b63465e223dbb70e63fee56d", func := "fustian/fustiankeep.RopeCut", spec := "ropeCut", inPlace := ["internal/abi.NoEscape"], unfollowed := true, recurses := true, apart := false }
def RopeCutSaid : Prop := ropeCutRow.holds Try.pinned (OpenSpec.ofChange ropeCutSpec)

/-- ITS FALSE NEIGHBOUR: 'it returns false'. Refute it at one input. -/
def ropeCutWrong : ChangeSpec := { name := "ropeCut", fn := fun _ => fun
  | [d1, d2, d3] => { results := [.lit (.bool false)], args := [d1, d2, d3] }
  | _ => none }
def RopeCutWrongFalsely : Prop := ropeCutRow.holds Try.pinned (OpenSpec.ofChange ropeCutWrong)

/-- 'fustiankeep.RopeStays': WHATEVER THE INPUT: true; the input reads as it did. -/
def ropeStaysSpec : ChangeSpec := { name := "ropeStays", fn := fun _ => fun
  | [d1, d2] => { results := [.lit (.bool true)], args := [d1, d2] }
  | _ => none }
def ropeStaysRow : OpenClaim := { program := "yteahnhemcceebaa", sum := "f1ac401a8760ba738a19509567ca8e2ec2c64215b63465e223dbb70e63fee56d", func := "fustian/fustiankeep.RopeStays", spec := "ropeStays", inPlace := ["internal/abi.NoEscape"], unfollowed := true, recurses := true, apart := false }
def RopeStaysSaid : Prop := ropeStaysRow.holds Try.pinned (OpenSpec.ofChange ropeStaysSpec)

/-- ITS FALSE NEIGHBOUR: 'it returns false'. Refute it at one input. -/
def ropeStaysWrong : ChangeSpec := { name := "ropeStays", fn := fun _ => fun
  | [d1, d2] => { results := [.lit (.bool false)], args := [d1, d2] }
  | _ => none }
def RopeStaysWrongFalsely : Prop := ropeStaysRow.holds Try.pinned (OpenSpec.ofChange ropeStaysWrong)

/-- 'fustiankeep.RopeShallow': WHATEVER THE INPUT: true; the input reads as it did. -/
def ropeShallowSpec : ChangeSpec := { name := "ropeShallow", fn := fun _ => fun
  | [d1, d2] => { results := [.lit (.bool true)], args := [d1, d2] }
  | _ => none }
def ropeShallowRow : OpenClaim := { program := "yteahnhemcceebaa", sum := "f1ac401a8760ba738a19509567ca8e2ec2c64215b63465e223dbb70e63fee56d", func := "fustian/fustiankeep.RopeShallow", spec := "ropeShallow", inPlace := ["internal/bytealg.CountString", "internal/bytealg.IndexByteString", "internal/bytealg.IndexString"], unfollowed := true, recurses := true, named := ["internal/bytealg.MaxLen"], apart := false }
def RopeShallowSaid : Prop := ropeShallowRow.holds Try.pinned (OpenSpec.ofChange ropeShallowSpec)

/-- ITS FALSE NEIGHBOUR: 'it returns false'. Refute it at one input. -/
def ropeShallowWrong : ChangeSpec := { name := "ropeShallow", fn := fun _ => fun
  | [d1, d2] => { results := [.lit (.bool false)], args := [d1, d2] }
  | _ => none }
def RopeShallowWrongFalsely : Prop := ropeShallowRow.holds Try.pinned (OpenSpec.ofChange ropeShallowWrong)

/-- 'fustiankeep.RopeSame': WHATEVER THE INPUT: true; the input reads as it did. -/
def ropeSameSpec : ChangeSpec := { name := "ropeSame", fn := fun _ => fun
  | [d1, d2, d3] => { results := [.lit (.bool true)], args := [d1, d2, d3] }
  | _ => none }
def ropeSameRow : OpenClaim := { program := "yteahnhemcceebaa", sum := "f1ac401a8760ba738a19509567ca8e2ec2c64215b63465e223dbb70e63fee56d", func := "fustian/fustiankeep.RopeSame", spec := "ropeSame", inPlace := ["internal/abi.NoEscape", "internal/bytealg.CountString", "internal/bytealg.IndexByteString", "internal/bytealg.IndexString"], unfollowed := true, recurses := true, named := ["internal/bytealg.MaxLen"], apart := false }
def RopeSameSaid : Prop := ropeSameRow.holds Try.pinned (OpenSpec.ofChange ropeSameSpec)

/-- ITS FALSE NEIGHBOUR: 'it returns false'. Refute it at one input. -/
def ropeSameWrong : ChangeSpec := { name := "ropeSame", fn := fun _ => fun
  | [d1, d2, d3] => { results := [.lit (.bool false)], args := [d1, d2, d3] }
  | _ => none }
def RopeSameWrongFalsely : Prop := ropeSameRow.holds Try.pinned (OpenSpec.ofChange ropeSameWrong)

/-- 'fustiankeep.RopeCopies': WHATEVER THE INPUT: true; the input reads as it did. -/
def ropeCopiesSpec : ChangeSpec := { name := "ropeCopies", fn := fun _ => fun
  | [d1, d2] => { results := [.lit (.bool true)], args := [d1, d2] }
  | _ => none }
def ropeCopiesRow : OpenClaim := { program := "yteahnhemcceebaa", sum := "f1ac401a8760ba738a19509567ca8e2ec2c64215b63465e223dbb70e63fee56d", func := "fustian/fustiankeep.RopeCopies", spec := "ropeCopies", inPlace := ["internal/abi.NoEscape"], unfollowed := true, recurses := true, apart := false }
def RopeCopiesSaid : Prop := ropeCopiesRow.holds Try.pinned (OpenSpec.ofChange ropeCopiesSpec)

/-- ITS FALSE NEIGHBOUR: 'it returns false'. Refute it at one input. -/
def ropeCopiesWrong : ChangeSpec := { name := "ropeCopies", fn := fun _ => fun
  | [d1, d2] => { results := [.lit (.bool false)], args := [d1, d2] }
  | _ => none }
def RopeCopiesWrongFalsely : Prop := ropeCopiesRow.holds Try.pinned (OpenSpec.ofChange ropeCopiesWrong)

/- THE SECOND FORM. 'bulk': how many values and letters a reading holds, each counted each time it is reached (what is shared counts as often as it is met; a slice's spare places count too). A statement '..UptoSaid' is the law's where the arguments, and the package variables that the reading takes, are together of bulk at most 1048576: NARROWER than '..Said'. Prove '..Said' where nothing that the law and all that it calls make is longer than what came in: it says more and counts as full. Else prove '..UptoSaid'. A law counts once. -/
mutual
def uptoBulk {H : Type} : DataW H → Nat
  | .lit (.string bytes) => bytes.length + 1
  | .lit _ => 1
  | .nil => 1
  | .ptr d => uptoBulk d + 1
  | .slice elems spare => uptoBulkAll elems + uptoBulkAll spare + 1
  | .agg parts => uptoBulkAll parts + 1
  | .iface _ d => uptoBulk d + 1
  | .map entries => uptoBulkEntries entries + 1
  | .held _ => 1
def uptoBulkAll {H : Type} : List (DataW H) → Nat
  | [] => 0
  | d :: r => uptoBulk d + uptoBulkAll r
def uptoBulkEntries {H : Type} : List (Lit × DataW H) → Nat
  | [] => 0
  | x :: r => uptoBulkEntry x + uptoBulkEntries r
def uptoBulkEntry {H : Type} : Lit × DataW H → Nat
  | (.string bytes, d) => bytes.length + uptoBulk d + 1
  | (_, d) => uptoBulk d + 1
 end
def uptoSmall : (H : Type) → List (DataW H) → Bool := fun _ ds => decide (uptoBulkAll ds ≤ 1048576)
def OpenSpec.upto (s : _root_.Go.ChangeSpec) : _root_.Go.OpenSpec := { _root_.Go.OpenSpec.ofChange s with cond := some uptoSmall }

/-- 'fustianlaw.RopePlays', WHERE WHAT IT READS IS OF BULK AT MOST 1048576: true; the input reads as it did. -/
def ropePlaysUptoRow : OpenClaim := { program := "yteahnhemcceebaa", sum := "f1ac401a8760ba738a19509567ca8e2ec2c64215b63465e223dbb70e63fee56d", func := "fustian/fustianlaw.RopePlays", spec := "ropePlays", inPlace := ["internal/abi.NoEscape"], unfollowed := true, recurses := true, apart := false, narrowed := true }
def RopePlaysUptoSaid : Prop := ropePlaysUptoRow.holds Try.pinned (OpenSpec.upto ropePlaysSpec)

/-- 'fustianlaw.RopeMeasures', WHERE WHAT IT READS IS OF BULK AT MOST 1048576: true; the input reads as it did. -/
def ropeMeasuresUptoRow : OpenClaim := { program := "yteahnhemcceebaa", sum := "f1ac401a8760ba738a19509567ca8e2ec2c64215b63465e223dbb70e63fee56d", func := "fustian/fustianlaw.RopeMeasures", spec := "ropeMeasures", inPlace := ["internal/bytealg.CountString", "internal/bytealg.IndexByteString", "internal/bytealg.IndexString"], unfollowed := true, recurses := true, named := ["internal/bytealg.MaxLen"], apart := false, narrowed := true }
def RopeMeasuresUptoSaid : Prop := ropeMeasuresUptoRow.holds Try.pinned (OpenSpec.upto ropeMeasuresSpec)

/-- 'fustianlaw.RopeDepths', WHERE WHAT IT READS IS OF BULK AT MOST 1048576: true; the input reads as it did. -/
def ropeDepthsUptoRow : OpenClaim := { program := "yteahnhemcceebaa", sum := "f1ac401a8760ba738a19509567ca8e2ec2c64215b63465e223dbb70e63fee56d", func := "fustian/fustianlaw.RopeDepths", spec := "ropeDepths", unfollowed := true, recurses := true, apart := false, narrowed := true }
def RopeDepthsUptoSaid : Prop := ropeDepthsUptoRow.holds Try.pinned (OpenSpec.upto ropeDepthsSpec)

/-- 'fustiankeep.RopeCut', WHERE WHAT IT READS IS OF BULK AT MOST 1048576: true; the input reads as it did. -/
def ropeCutUptoRow : OpenClaim := { program := "yteahnhemcceebaa", sum := "f1ac401a8760ba738a19509567ca8e2ec2c64215b63465e223dbb70e63fee56d", func := "fustian/fustiankeep.RopeCut", spec := "ropeCut", inPlace := ["internal/abi.NoEscape"], unfollowed := true, recurses := true, apart := false, narrowed := true }
def RopeCutUptoSaid : Prop := ropeCutUptoRow.holds Try.pinned (OpenSpec.upto ropeCutSpec)

/-- 'fustiankeep.RopeStays', WHERE WHAT IT READS IS OF BULK AT MOST 1048576: true; the input reads as it did. -/
def ropeStaysUptoRow : OpenClaim := { program := "yteahnhemcceebaa", sum := "f1ac401a8760ba738a19509567ca8e2ec2c64215b63465e223dbb70e63fee56d", func := "fustian/fustiankeep.RopeStays", spec := "ropeStays", inPlace := ["internal/abi.NoEscape"], unfollowed := true, recurses := true, apart := false, narrowed := true }
def RopeStaysUptoSaid : Prop := ropeStaysUptoRow.holds Try.pinned (OpenSpec.upto ropeStaysSpec)

/-- 'fustiankeep.RopeShallow', WHERE WHAT IT READS IS OF BULK AT MOST 1048576: true; the input reads as it did. -/
def ropeShallowUptoRow : OpenClaim := { program := "yteahnhemcceebaa", sum := "f1ac401a8760ba738a19509567ca8e2ec2c64215b63465e223dbb70e63fee56d", func := "fustian/fustiankeep.RopeShallow", spec := "ropeShallow", inPlace := ["internal/bytealg.CountString", "internal/bytealg.IndexByteString", "internal/bytealg.IndexString"], unfollowed := true, recurses := true, named := ["internal/bytealg.MaxLen"], apart := false, narrowed := true }
def RopeShallowUptoSaid : Prop := ropeShallowUptoRow.holds Try.pinned (OpenSpec.upto ropeShallowSpec)

/-- 'fustiankeep.RopeSame', WHERE WHAT IT READS IS OF BULK AT MOST 1048576: true; the input reads as it did. -/
def ropeSameUptoRow : OpenClaim := { program := "yteahnhemcceebaa", sum := "f1ac401a8760ba738a19509567ca8e2ec2c64215b63465e223dbb70e63fee56d", func := "fustian/fustiankeep.RopeSame", spec := "ropeSame", inPlace := ["internal/abi.NoEscape", "internal/bytealg.CountString", "internal/bytealg.IndexByteString", "internal/bytealg.IndexString"], unfollowed := true, recurses := true, named := ["internal/bytealg.MaxLen"], apart := false, narrowed := true }
def RopeSameUptoSaid : Prop := ropeSameUptoRow.holds Try.pinned (OpenSpec.upto ropeSameSpec)

/-- 'fustiankeep.RopeCopies', WHERE WHAT IT READS IS OF BULK AT MOST 1048576: true; the input reads as it did. -/
def ropeCopiesUptoRow : OpenClaim := { program := "yteahnhemcceebaa", sum := "f1ac401a8760ba738a19509567ca8e2ec2c64215b63465e223dbb70e63fee56d", func := "fustian/fustiankeep.RopeCopies", spec := "ropeCopies", inPlace := ["internal/abi.NoEscape"], unfollowed := true, recurses := true, apart := false, narrowed := true }
def RopeCopiesUptoSaid : Prop := ropeCopiesUptoRow.holds Try.pinned (OpenSpec.upto ropeCopiesSpec)

end Rows
end Go.Proofs.Yteahnhemcceebaa
