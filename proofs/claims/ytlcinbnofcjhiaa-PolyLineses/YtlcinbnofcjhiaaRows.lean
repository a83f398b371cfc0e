/-
  No cell of these rows narrows 'for every input' (looked for: loops, veiled, ifaces, maps, wideKeys, modest, calm, conditions, laid).
  DERIVED. THE GIVEN ROWS OF THIS SEAT. 8 by the template 'for every input the law returns true; each argument reads behind the call as it read before'; 0 by the template 'total and deterministic' (their statements: YtlcinbnofcjhiaaTotals.lean).
  GIVEN WITH THE SEED: the statements are not yours to turn. If you find one false, say at which input.
  Laid BY PROGRAM, IN A SANDBOX (cutbox-rows.mjs): the forced cells as the released guide's own fill.sh prints them over the translation d99b5051abd50b5f… (all of the seat's roots in one cut). By AI agents, Wed Nov 11 2026. No macro, syntax, notation, axiom, sorry.
-/
import Derived.Test.YtlcinbnofcjhiaaChecked
import GoSem.Claim
import GoSem.ClaimJoined
import GoSem.ClaimMapViews
import Derived.JoinedTies
import Derived.KernelRfl
namespace Go.Proofs.Ytlcinbnofcjhiaa
/- THE CELL 'sum', in the pinned program and in every row, IS THE sha256 OF THE DUMP (.gsa) THAT YtlcinbnofcjhiaaProg.lean LOADS. Nothing in Lean hashes anything: it is a label: what it is worth is what the hold of that sum in a sandbox is worth. -/
noncomputable def Try.pinned : Pinned := { name := "ytlcinbnofcjhiaa", sum := "d99b5051abd50b5fded7ed7b1ae4b2cb7cd3e60c5c6c1f109f4c8e02c04c9709", checked := Try.checked }
namespace Rows
def none {H : Type} : Left H := { results := [], args := [] }

/-- 'fustianlaw.PolyOfs': WHATEVER THE INPUT: true; the input reads as it did. -/
def polyOfsSpec : ChangeSpec := { name := "polyOfs", fn := fun _ => fun
  | [d] => { results := [.lit (.bool true)], args := [d] }
  | _ => none }
def polyOfsRow : OpenClaim := { program := "ytlcinbnofcjhiaa", sum := "d99b5051abd50b5fded7ed7b1ae4b2cb7cd3e60c5c6c1f109f4c8e02c04c9709", func := "fustian/fustianlaw.PolyOfs", spec := "polyOfs", apart := false }
def PolyOfsSaid : Prop := polyOfsRow.holds Try.pinned (OpenSpec.ofChange polyOfsSpec)

/-- ITS FALSE NEIGHBOUR: 'it returns false'. Refute it at one input. -/
def polyOfsWrong : ChangeSpec := { name := "polyOfs", fn := fun _ => fun
  | [d] => { results := [.lit (.bool false)], args := [d] }
  | _ => none }
def PolyOfsWrongFalsely : Prop := polyOfsRow.holds Try.pinned (OpenSpec.ofChange polyOfsWrong)

/-- 'fustianlaw.PolyMays': WHATEVER THE INPUT: true; the input reads as it did. -/
def polyMaysSpec : ChangeSpec := { name := "polyMays", fn := fun _ => fun
  | [d] => { results := [.lit (.bool true)], args := [d] }
  | _ => none }
def polyMaysRow : OpenClaim := { program := "ytlcinbnofcjhiaa", sum := "d99b5051abd50b5fded7ed7b1ae4b2cb7cd3e60c5c6c1f109f4c8e02c04c9709", func := "fustian/fustianlaw.PolyMays", spec := "polyMays", apart := false }
def PolyMaysSaid : Prop := polyMaysRow.holds Try.pinned (OpenSpec.ofChange polyMaysSpec)

/-- ITS FALSE NEIGHBOUR: 'it returns false'. Refute it at one input. -/
def polyMaysWrong : ChangeSpec := { name := "polyMays", fn := fun _ => fun
  | [d] => { results := [.lit (.bool false)], args := [d] }
  | _ => none }
def PolyMaysWrongFalsely : Prop := polyMaysRow.holds Try.pinned (OpenSpec.ofChange polyMaysWrong)

/-- 'fustianlaw.PolyJoins': WHATEVER THE INPUT: true; the input reads as it did. -/
def polyJoinsSpec : ChangeSpec := { name := "polyJoins", fn := fun _ => fun
  | [d1, d2] => { results := [.lit (.bool true)], args := [d1, d2] }
  | _ => none }
def polyJoinsRow : OpenClaim := { program := "ytlcinbnofcjhiaa", sum := "d99b5051abd50b5fded7ed7b1ae4b2cb7cd3e60c5c6c1f109f4c8e02c04c9709", func := "fustian/fustianlaw.PolyJoins", spec := "polyJoins", apart := false }
def PolyJoinsSaid : Prop := polyJoinsRow.holds Try.pinned (OpenSpec.ofChange polyJoinsSpec)

/-- ITS FALSE NEIGHBOUR: 'it returns false'. Refute it at one input. -/
def polyJoinsWrong : ChangeSpec := { name := "polyJoins", fn := fun _ => fun
  | [d1, d2] => { results := [.lit (.bool false)], args := [d1, d2] }
  | _ => none }
def PolyJoinsWrongFalsely : Prop := polyJoinsRow.holds Try.pinned (OpenSpec.ofChange polyJoinsWrong)

/-- 'fustianlaw.PolyLineses': WHATEVER THE INPUT: true; the input reads as it did. -/
def polyLinesesSpec : ChangeSpec := { name := "polyLineses", fn := fun _ => fun
  | [d] => { results := [.lit (.bool true)], args := [d] }
  | _ => none }
def polyLinesesRow : OpenClaim := { program := "ytlcinbnofcjhiaa", sum := "d99b5051abd50b5fded7ed7b1ae4b2cb7cd3e60c5c6c1f109f4c8e02c04c9709", func := "fustian/fustianlaw.PolyLineses", spec := "polyLineses", inPlace := ["internal/bytealg.IndexByteString", "internal/bytealg.IndexString"], unfollowed := true, recurses := true, named := ["internal/bytealg.MaxLen"], apart := false }
def PolyLinesesSaid : Prop := polyLinesesRow.holds Try.pinned (OpenSpec.ofChange polyLinesesSpec)

/-- ITS FALSE NEIGHBOUR: 'it returns false'. Refute it at one input. -/
def polyLinesesWrong : ChangeSpec := { name := "polyLineses", fn := fun _ => fun
  | [d] => { results := [.lit (.bool false)], args := [d] }
  | _ => none }
def PolyLinesesWrongFalsely : Prop := polyLinesesRow.holds Try.pinned (OpenSpec.ofChange polyLinesesWrong)

/-- 'fustiankeep.PolyParts': WHATEVER THE INPUT: true; the input reads as it did. -/
def polyPartsSpec : ChangeSpec := { name := "polyParts", fn := fun _ => fun
  | [d1, d2, d3] => { results := [.lit (.bool true)], args := [d1, d2, d3] }
  | _ => none }
def polyPartsRow : OpenClaim := { program := "ytlcinbnofcjhiaa", sum := "d99b5051abd50b5fded7ed7b1ae4b2cb7cd3e60c5c6c1f109f4c8e02c04c9709", func := "fustian/fustiankeep.PolyParts", spec := "polyParts", apart := false }
def PolyPartsSaid : Prop := polyPartsRow.holds Try.pinned (OpenSpec.ofChange polyPartsSpec)

/-- ITS FALSE NEIGHBOUR: 'it returns false'. Refute it at one input. -/
def polyPartsWrong : ChangeSpec := { name := "polyParts", fn := fun _ => fun
  | [d1, d2, d3] => { results := [.lit (.bool false)], args := [d1, d2, d3] }
  | _ => none }
def PolyPartsWrongFalsely : Prop := polyPartsRow.holds Try.pinned (OpenSpec.ofChange polyPartsWrong)

/-- 'fustiankeep.PolyByte': WHATEVER THE INPUT: true; the input reads as it did. -/
def polyByteSpec : ChangeSpec := { name := "polyByte", fn := fun _ => fun
  | [d1, d2, d3, d4, d5] => { results := [.lit (.bool true)], args := [d1, d2, d3, d4, d5] }
  | _ => none }
def polyByteRow : OpenClaim := { program := "ytlcinbnofcjhiaa", sum := "d99b5051abd50b5fded7ed7b1ae4b2cb7cd3e60c5c6c1f109f4c8e02c04c9709", func := "fustian/fustiankeep.PolyByte", spec := "polyByte", apart := false }
def PolyByteSaid : Prop := polyByteRow.holds Try.pinned (OpenSpec.ofChange polyByteSpec)

/-- ITS FALSE NEIGHBOUR: 'it returns false'. Refute it at one input. -/
def polyByteWrong : ChangeSpec := { name := "polyByte", fn := fun _ => fun
  | [d1, d2, d3, d4, d5] => { results := [.lit (.bool false)], args := [d1, d2, d3, d4, d5] }
  | _ => none }
def PolyByteWrongFalsely : Prop := polyByteRow.holds Try.pinned (OpenSpec.ofChange polyByteWrong)

/-- 'fustiankeep.PolyLined': WHATEVER THE INPUT: true; the input reads as it did. -/
def polyLinedSpec : ChangeSpec := { name := "polyLined", fn := fun _ => fun
  | [d1, d2] => { results := [.lit (.bool true)], args := [d1, d2] }
  | _ => none }
def polyLinedRow : OpenClaim := { program := "ytlcinbnofcjhiaa", sum := "d99b5051abd50b5fded7ed7b1ae4b2cb7cd3e60c5c6c1f109f4c8e02c04c9709", func := "fustian/fustiankeep.PolyLined", spec := "polyLined", inPlace := ["internal/bytealg.IndexByteString", "internal/bytealg.IndexString", "internal/bytealg.CountString"], unfollowed := true, recurses := true, named := ["internal/bytealg.MaxLen"], apart := false }
def PolyLinedSaid : Prop := polyLinedRow.holds Try.pinned (OpenSpec.ofChange polyLinedSpec)

/-- ITS FALSE NEIGHBOUR: 'it returns false'. Refute it at one input. -/
def polyLinedWrong : ChangeSpec := { name := "polyLined", fn := fun _ => fun
  | [d1, d2] => { results := [.lit (.bool false)], args := [d1, d2] }
  | _ => none }
def PolyLinedWrongFalsely : Prop := polyLinedRow.holds Try.pinned (OpenSpec.ofChange polyLinedWrong)

/-- 'fustiankeep.PolyPower': WHATEVER THE INPUT: true; the input reads as it did. -/
def polyPowerSpec : ChangeSpec := { name := "polyPower", fn := fun _ => fun
  | [d1, d2] => { results := [.lit (.bool true)], args := [d1, d2] }
  | _ => none }
def polyPowerRow : OpenClaim := { program := "ytlcinbnofcjhiaa", sum := "d99b5051abd50b5fded7ed7b1ae4b2cb7cd3e60c5c6c1f109f4c8e02c04c9709", func := "fustian/fustiankeep.PolyPower", spec := "polyPower", apart := false }
def PolyPowerSaid : Prop := polyPowerRow.holds Try.pinned (OpenSpec.ofChange polyPowerSpec)

/-- ITS FALSE NEIGHBOUR: 'it returns false'. Refute it at one input. -/
def polyPowerWrong : ChangeSpec := { name := "polyPower", fn := fun _ => fun
  | [d1, d2] => { results := [.lit (.bool false)], args := [d1, d2] }
  | _ => none }
def PolyPowerWrongFalsely : Prop := polyPowerRow.holds Try.pinned (OpenSpec.ofChange polyPowerWrong)

/- THE SECOND FORM. 'bulk': how many values and letters a reading holds, each counted each time it is reached (what is shared counts as often as it is met; a slice's spare places count too). A statement '..UptoSaid' is the law's where the arguments, and the package variables that the reading takes, are together of bulk at most 1048576: NARROWER than '..Said'. Prove '..Said' where nothing that the law and all that it calls make is longer than what came in: it says more and counts as full. Else prove '..UptoSaid'. A law counts once. -/
mutual
def uptoBulk {H : Type} : DataW H → Nat
  | .lit (.string bytes) => bytes.length + 1
  | .lit _ => 1
  | .nil => 1
  | .ptr d => uptoBulk d + 1
  | .slice elems spare => uptoBulkAll elems + uptoBulkAll spare + 1
  | .agg parts => uptoBulkAll parts + 1
  | .iface _ d => uptoBulk d + 1
  | .map entries => uptoBulkEntries entries + 1
  | .held _ => 1
def uptoBulkAll {H : Type} : List (DataW H) → Nat
  | [] => 0
  | d :: r => uptoBulk d + uptoBulkAll r
def uptoBulkEntries {H : Type} : List (Lit × DataW H) → Nat
  | [] => 0
  | x :: r => uptoBulkEntry x + uptoBulkEntries r
def uptoBulkEntry {H : Type} : Lit × DataW H → Nat
  | (.string bytes, d) => bytes.length + uptoBulk d + 1
  | (_, d) => uptoBulk d + 1
 end
def uptoSmall : (H : Type) → List (DataW H) → Bool := fun _ ds => decide (uptoBulkAll ds ≤ 1048576)
def OpenSpec.upto (s : _root_.Go.ChangeSpec) : _root_.Go.OpenSpec := { _root_.Go.OpenSpec.ofChange s with cond := some uptoSmall }

/-- 'fustianlaw.PolyOfs', WHERE WHAT IT READS IS OF BULK AT MOST 1048576: true; the input reads as it did. -/
def polyOfsUptoRow : OpenClaim := { program := "ytlcinbnofcjhiaa", sum := "d99b5051abd50b5fded7ed7b1ae4b2cb7cd3e60c5c6c1f109f4c8e02c04c9709", func := "fustian/fustianlaw.PolyOfs", spec := "polyOfs", apart := false, narrowed := true }
def PolyOfsUptoSaid : Prop := polyOfsUptoRow.holds Try.pinned (OpenSpec.upto polyOfsSpec)

/-- 'fustianlaw.PolyMays', WHERE WHAT IT READS IS OF BULK AT MOST 1048576: true; the input reads as it did. -/
def polyMaysUptoRow : OpenClaim := { program := "ytlcinbnofcjhiaa", sum := "d99b5051abd50b5fded7ed7b1ae4b2cb7cd3e60c5c6c1f109f4c8e02c04c9709", func := "fustian/fustianlaw.PolyMays", spec := "polyMays", apart := false, narrowed := true }
def PolyMaysUptoSaid : Prop := polyMaysUptoRow.holds Try.pinned (OpenSpec.upto polyMaysSpec)

/-- 'fustianlaw.PolyJoins', WHERE WHAT IT READS IS OF BULK AT MOST 1048576: true; the input reads as it did. -/
def polyJoinsUptoRow : OpenClaim := { program := "ytlcinbnofcjhiaa", sum := "d99b5051abd50b5fded7ed7b1ae4b2cb7cd3e60c5c6c1f109f4c8e02c04c9709", func := "fustian/fustianlaw.PolyJoins", spec := "polyJoins", apart := false, narrowed := true }
def PolyJoinsUptoSaid : Prop := polyJoinsUptoRow.holds Try.pinned (OpenSpec.upto polyJoinsSpec)

/-- 'fustianlaw.PolyLineses', WHERE WHAT IT READS IS OF BULK AT MOST 1048576: true; the input reads as it did. -/
def polyLinesesUptoRow : OpenClaim := { program := "ytlcinbnofcjhiaa", sum := "d99b5051abd50b5fded7ed7b1ae4b2cb7cd3e60c5c6c1f109f4c8e02c04c9709", func := "fustian/fustianlaw.PolyLineses", spec := "polyLineses", inPlace := ["internal/bytealg.IndexByteString", "internal/bytealg.IndexString"], unfollowed := true, recurses := true, named := ["internal/bytealg.MaxLen"], apart := false, narrowed := true }
def PolyLinesesUptoSaid : Prop := polyLinesesUptoRow.holds Try.pinned (OpenSpec.upto polyLinesesSpec)

/-- 'fustiankeep.PolyParts', WHERE WHAT IT READS IS OF BULK AT MOST 1048576: true; the input reads as it did. -/
def polyPartsUptoRow : OpenClaim := { program := "ytlcinbnofcjhiaa", sum := "d99b5051abd50b5fded7ed7b1ae4b2cb7cd3e60c5c6c1f109f4c8e02c04c9709", func := "fustian/fustiankeep.PolyParts", spec := "polyParts", apart := false, narrowed := true }
def PolyPartsUptoSaid : Prop := polyPartsUptoRow.holds Try.pinned (OpenSpec.upto polyPartsSpec)

/-- 'fustiankeep.PolyByte', WHERE WHAT IT READS IS OF BULK AT MOST 1048576: true; the input reads as it did. -/
def polyByteUptoRow : OpenClaim := { program := "ytlcinbnofcjhiaa", sum := "d99b5051abd50b5fded7ed7b1ae4b2cb7cd3e60c5c6c1f109f4c8e02c04c9709", func := "fustian/fustiankeep.PolyByte", spec := "polyByte", apart := false, narrowed := true }
def PolyByteUptoSaid : Prop := polyByteUptoRow.holds Try.pinned (OpenSpec.upto polyByteSpec)

/-- 'fustiankeep.PolyLined', WHERE WHAT IT READS IS OF BULK AT MOST 1048576: true; the input reads as it did. -/
def polyLinedUptoRow : OpenClaim := { program := "ytlcinbnofcjhiaa", sum := "d99b5051abd50b5fded7ed7b1ae4b2cb7cd3e60c5c6c1f109f4c8e02c04c9709", func := "fustian/fustiankeep.PolyLined", spec := "polyLined", inPlace := ["internal/bytealg.IndexByteString", "internal/bytealg.IndexString", "internal/bytealg.CountString"], unfollowed := true, recurses := true, named := ["internal/bytealg.MaxLen"], apart := false, narrowed := true }
def PolyLinedUptoSaid : Prop := polyLinedUptoRow.holds Try.pinned (OpenSpec.upto polyLinedSpec)

/-- 'fustiankeep.PolyPower', WHERE WHAT IT READS IS OF BULK AT MOST 1048576: true; the input reads as it did. -/
def polyPowerUptoRow : OpenClaim := { program := "ytlcinbnofcjhiaa", sum := "d99b5051abd50b5fded7ed7b1ae4b2cb7cd3e60c5c6c1f109f4c8e02c04c9709", func := "fustian/fustiankeep.PolyPower", spec := "polyPower", apart := false, narrowed := true }
def PolyPowerUptoSaid : Prop := polyPowerUptoRow.holds Try.pinned (OpenSpec.upto polyPowerSpec)

end Rows
end Go.Proofs.Ytlcinbnofcjhiaa
