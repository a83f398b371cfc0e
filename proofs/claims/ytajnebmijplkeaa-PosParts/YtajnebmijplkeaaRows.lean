/-
  No cell of these rows narrows 'for every input' (looked for: loops, veiled, ifaces, maps, wideKeys, modest, calm, conditions, laid).
  DERIVED. THE GIVEN ROWS OF THIS SEAT. 8 by the template 'for every input the law returns true; each argument reads behind the call as it read before'; 0 by the template 'total and deterministic' (their statements: YtajnebmijplkeaaTotals.lean).
  GIVEN WITH THE SEED: the statements are not yours to turn. If you find one false, say at which input.
  Laid BY PROGRAM, IN A SANDBOX (cutbox-rows.mjs): the forced cells as the released guide's own fill.sh prints them over the translation c52146f7a033ecd3… (all of the seat's roots in one cut). By AI agents, Wed Nov 11 2026. No macro, syntax, notation, axiom, sorry.
-/
import Derived.Test.YtajnebmijplkeaaChecked
import GoSem.Claim
import GoSem.ClaimJoined
import GoSem.ClaimMapViews
import Derived.JoinedTies
import Derived.KernelRfl
namespace Go.Proofs.Ytajnebmijplkeaa
/- THE CELL 'sum', in the pinned program and in every row, IS THE sha256 OF THE DUMP (.gsa) THAT YtajnebmijplkeaaProg.lean LOADS. Nothing in Lean hashes anything: it is a label: what it is worth is what the hold of that sum in a sandbox is worth. -/
noncomputable def Try.pinned : Pinned := { name := "ytajnebmijplkeaa", sum := "c52146f7a033ecd3442fcdc543671960140e863bc2f5caee4c2ddea72bfb97f0", checked := Try.checked }
namespace Rows
def none {H : Type} : Left H := { results := [], args := [] }

/-- 'fustianlaw.PosOfs': WHATEVER THE INPUT: true; the input reads as it did. -/
def posOfsSpec : ChangeSpec := { name := "posOfs", fn := fun _ => fun
  | [d] => { results := [.lit (.bool true)], args := [d] }
  | _ => none }
def posOfsRow : OpenClaim := { program := "ytajnebmijplkeaa", sum := "c52146f7a033ecd3442fcdc543671960140e863bc2f5caee4c2ddea72bfb97f0", func := "fustian/fustianlaw.PosOfs", spec := "posOfs", inPlace := ["internal/bytealg.CountString", "internal/bytealg.IndexByteString", "internal/bytealg.IndexString"], named := ["internal/bytealg.MaxLen"], apart := false }
def PosOfsSaid : Prop := posOfsRow.holds Try.pinned (OpenSpec.ofChange posOfsSpec)

/-- ITS FALSE NEIGHBOUR: 'it returns false'. Refute it at one input. -/
def posOfsWrong : ChangeSpec := { name := "posOfs", fn := fun _ => fun
  | [d] => { results := [.lit (.bool false)], args := [d] }
  | _ => none }
def PosOfsWrongFalsely : Prop := posOfsRow.holds Try.pinned (OpenSpec.ofChange posOfsWrong)

/-- 'fustianlaw.PosMays': WHATEVER THE INPUT: true; the input reads as it did. -/
def posMaysSpec : ChangeSpec := { name := "posMays", fn := fun _ => fun
  | [d] => { results := [.lit (.bool true)], args := [d] }
  | _ => none }
def posMaysRow : OpenClaim := { program := "ytajnebmijplkeaa", sum := "c52146f7a033ecd3442fcdc543671960140e863bc2f5caee4c2ddea72bfb97f0", func := "fustian/fustianlaw.PosMays", spec := "posMays", apart := false }
def PosMaysSaid : Prop := posMaysRow.holds Try.pinned (OpenSpec.ofChange posMaysSpec)

/-- ITS FALSE NEIGHBOUR: 'it returns false'. Refute it at one input. -/
def posMaysWrong : ChangeSpec := { name := "posMays", fn := fun _ => fun
  | [d] => { results := [.lit (.bool false)], args := [d] }
  | _ => none }
def PosMaysWrongFalsely : Prop := posMaysRow.holds Try.pinned (OpenSpec.ofChange posMaysWrong)

/-- 'fustianlaw.PosJoins': WHATEVER THE INPUT: true; the input reads as it did. -/
def posJoinsSpec : ChangeSpec := { name := "posJoins", fn := fun _ => fun
  | [d1, d2] => { results := [.lit (.bool true)], args := [d1, d2] }
  | _ => none }
def posJoinsRow : OpenClaim := { program := "ytajnebmijplkeaa", sum := "c52146f7a033ecd3442fcdc543671960140e863bc2f5caee4c2ddea72bfb97f0", func := "fustian/fustianlaw.PosJoins", spec := "posJoins", apart := false }
def PosJoinsSaid : Prop := posJoinsRow.holds Try.pinned (OpenSpec.ofChange posJoinsSpec)

/-- ITS FALSE NEIGHBOUR: 'it returns false'. Refute it at one input. -/
def posJoinsWrong : ChangeSpec := { name := "posJoins", fn := fun _ => fun
  | [d1, d2] => { results := [.lit (.bool false)], args := [d1, d2] }
  | _ => none }
def PosJoinsWrongFalsely : Prop := posJoinsRow.holds Try.pinned (OpenSpec.ofChange posJoinsWrong)

/-- 'fustianlaw.PosAts': WHATEVER THE INPUT: true; the input reads as it did. -/
def posAtsSpec : ChangeSpec := { name := "posAts", fn := fun _ => fun
  | [d1, d2] => { results := [.lit (.bool true)], args := [d1, d2] }
  | _ => none }
def posAtsRow : OpenClaim := { program := "ytajnebmijplkeaa", sum := "c52146f7a033ecd3442fcdc543671960140e863bc2f5caee4c2ddea72bfb97f0", func := "fustian/fustianlaw.PosAts", spec := "posAts", inPlace := ["internal/bytealg.CountString", "internal/bytealg.IndexByteString", "internal/bytealg.IndexString"], named := ["internal/bytealg.MaxLen"], apart := false }
def PosAtsSaid : Prop := posAtsRow.holds Try.pinned (OpenSpec.ofChange posAtsSpec)

/-- ITS FALSE NEIGHBOUR: 'it returns false'. Refute it at one input. -/
def posAtsWrong : ChangeSpec := { name := "posAts", fn := fun _ => fun
  | [d1, d2] => { results := [.lit (.bool false)], args := [d1, d2] }
  | _ => none }
def PosAtsWrongFalsely : Prop := posAtsRow.holds Try.pinned (OpenSpec.ofChange posAtsWrong)

/-- 'fustianlaw.PosFinds': WHATEVER THE INPUT: true; the input reads as it did. -/
def posFindsSpec : ChangeSpec := { name := "posFinds", fn := fun _ => fun
  | [d1, d2, d3] => { results := [.lit (.bool true)], args := [d1, d2, d3] }
  | _ => none }
def posFindsRow : OpenClaim := { program := "ytajnebmijplkeaa", sum := "c52146f7a033ecd3442fcdc543671960140e863bc2f5caee4c2ddea72bfb97f0", func := "fustian/fustianlaw.PosFinds", spec := "posFinds", inPlace := ["internal/bytealg.IndexByteString", "internal/bytealg.IndexString"], named := ["internal/bytealg.MaxLen"], apart := false }
def PosFindsSaid : Prop := posFindsRow.holds Try.pinned (OpenSpec.ofChange posFindsSpec)

/-- ITS FALSE NEIGHBOUR: 'it returns false'. Refute it at one input. -/
def posFindsWrong : ChangeSpec := { name := "posFinds", fn := fun _ => fun
  | [d1, d2, d3] => { results := [.lit (.bool false)], args := [d1, d2, d3] }
  | _ => none }
def PosFindsWrongFalsely : Prop := posFindsRow.holds Try.pinned (OpenSpec.ofChange posFindsWrong)

/-- 'fustiankeep.PosParts': WHATEVER THE INPUT: true; the input reads as it did. -/
def posPartsSpec : ChangeSpec := { name := "posParts", fn := fun _ => fun
  | [d1, d2, d3] => { results := [.lit (.bool true)], args := [d1, d2, d3] }
  | _ => none }
def posPartsRow : OpenClaim := { program := "ytajnebmijplkeaa", sum := "c52146f7a033ecd3442fcdc543671960140e863bc2f5caee4c2ddea72bfb97f0", func := "fustian/fustiankeep.PosParts", spec := "posParts", inPlace := ["internal/bytealg.CountString", "internal/bytealg.IndexByteString", "internal/bytealg.IndexString"], named := ["internal/bytealg.MaxLen"], apart := false }
def PosPartsSaid : Prop := posPartsRow.holds Try.pinned (OpenSpec.ofChange posPartsSpec)

/-- ITS FALSE NEIGHBOUR: 'it returns false'. Refute it at one input. -/
def posPartsWrong : ChangeSpec := { name := "posParts", fn := fun _ => fun
  | [d1, d2, d3] => { results := [.lit (.bool false)], args := [d1, d2, d3] }
  | _ => none }
def PosPartsWrongFalsely : Prop := posPartsRow.holds Try.pinned (OpenSpec.ofChange posPartsWrong)

/-- 'fustiankeep.PosBack': WHATEVER THE INPUT: true; the input reads as it did. -/
def posBackSpec : ChangeSpec := { name := "posBack", fn := fun _ => fun
  | [d1, d2] => { results := [.lit (.bool true)], args := [d1, d2] }
  | _ => none }
def posBackRow : OpenClaim := { program := "ytajnebmijplkeaa", sum := "c52146f7a033ecd3442fcdc543671960140e863bc2f5caee4c2ddea72bfb97f0", func := "fustian/fustiankeep.PosBack", spec := "posBack", inPlace := ["internal/bytealg.CountString", "internal/bytealg.IndexByteString", "internal/bytealg.IndexString"], named := ["internal/bytealg.MaxLen"], apart := false }
def PosBackSaid : Prop := posBackRow.holds Try.pinned (OpenSpec.ofChange posBackSpec)

/-- ITS FALSE NEIGHBOUR: 'it returns false'. Refute it at one input. -/
def posBackWrong : ChangeSpec := { name := "posBack", fn := fun _ => fun
  | [d1, d2] => { results := [.lit (.bool false)], args := [d1, d2] }
  | _ => none }
def PosBackWrongFalsely : Prop := posBackRow.holds Try.pinned (OpenSpec.ofChange posBackWrong)

/-- 'fustiankeep.PosOrder': WHATEVER THE INPUT: true; the input reads as it did. -/
def posOrderSpec : ChangeSpec := { name := "posOrder", fn := fun _ => fun
  | [d1, d2, d3] => { results := [.lit (.bool true)], args := [d1, d2, d3] }
  | _ => none }
def posOrderRow : OpenClaim := { program := "ytajnebmijplkeaa", sum := "c52146f7a033ecd3442fcdc543671960140e863bc2f5caee4c2ddea72bfb97f0", func := "fustian/fustiankeep.PosOrder", spec := "posOrder", inPlace := ["internal/bytealg.CountString", "internal/bytealg.IndexByteString", "internal/bytealg.IndexString"], named := ["internal/bytealg.MaxLen"], apart := false }
def PosOrderSaid : Prop := posOrderRow.holds Try.pinned (OpenSpec.ofChange posOrderSpec)

/-- ITS FALSE NEIGHBOUR: 'it returns false'. Refute it at one input. -/
def posOrderWrong : ChangeSpec := { name := "posOrder", fn := fun _ => fun
  | [d1, d2, d3] => { results := [.lit (.bool false)], args := [d1, d2, d3] }
  | _ => none }
def PosOrderWrongFalsely : Prop := posOrderRow.holds Try.pinned (OpenSpec.ofChange posOrderWrong)

/- THE SECOND FORM. 'bulk': how many values and letters a reading holds, each counted each time it is reached (what is shared counts as often as it is met; a slice's spare places count too). A statement '..UptoSaid' is the law's where the arguments, and the package variables that the reading takes, are together of bulk at most 1048576: NARROWER than '..Said'. Prove '..Said' where nothing that the law and all that it calls make is longer than what came in: it says more and counts as full. Else prove '..UptoSaid'. A law counts once. -/
mutual
def uptoBulk {H : Type} : DataW H → Nat
  | .lit (.string bytes) => bytes.length + 1
  | .lit _ => 1
  | .nil => 1
  | .ptr d => uptoBulk d + 1
  | .slice elems spare => uptoBulkAll elems + uptoBulkAll spare + 1
  | .agg parts => uptoBulkAll parts + 1
  | .iface _ d => uptoBulk d + 1
  | .map entries => uptoBulkEntries entries + 1
  | .held _ => 1
def uptoBulkAll {H : Type} : List (DataW H) → Nat
  | [] => 0
  | d :: r => uptoBulk d + uptoBulkAll r
def uptoBulkEntries {H : Type} : List (Lit × DataW H) → Nat
  | [] => 0
  | x :: r => uptoBulkEntry x + uptoBulkEntries r
def uptoBulkEntry {H : Type} : Lit × DataW H → Nat
  | (.string bytes, d) => bytes.length + uptoBulk d + 1
  | (_, d) => uptoBulk d + 1
 end
def uptoSmall : (H : Type) → List (DataW H) → Bool := fun _ ds => decide (uptoBulkAll ds ≤ 1048576)
def OpenSpec.upto (s : _root_.Go.ChangeSpec) : _root_.Go.OpenSpec := { _root_.Go.OpenSpec.ofChange s with cond := some uptoSmall }

/-- 'fustianlaw.PosOfs', WHERE WHAT IT READS IS OF BULK AT MOST 1048576: true; the input reads as it did. -/
def posOfsUptoRow : OpenClaim := { program := "ytajnebmijplkeaa", sum := "c52146f7a033ecd3442fcdc543671960140e863bc2f5caee4c2ddea72bfb97f0", func := "fustian/fustianlaw.PosOfs", spec := "posOfs", inPlace := ["internal/bytealg.CountString", "internal/bytealg.IndexByteString", "internal/bytealg.IndexString"], named := ["internal/bytealg.MaxLen"], apart := false, narrowed := true }
def PosOfsUptoSaid : Prop := posOfsUptoRow.holds Try.pinned (OpenSpec.upto posOfsSpec)

/-- 'fustianlaw.PosMays', WHERE WHAT IT READS IS OF BULK AT MOST 1048576: true; the input reads as it did. -/
def posMaysUptoRow : OpenClaim := { program := "ytajnebmijplkeaa", sum := "c52146f7a033ecd3442fcdc543671960140e863bc2f5caee4c2ddea72bfb97f0", func := "fustian/fustianlaw.PosMays", spec := "posMays", apart := false, narrowed := true }
def PosMaysUptoSaid : Prop := posMaysUptoRow.holds Try.pinned (OpenSpec.upto posMaysSpec)

/-- 'fustianlaw.PosJoins', WHERE WHAT IT READS IS OF BULK AT MOST 1048576: true; the input reads as it did. -/
def posJoinsUptoRow : OpenClaim := { program := "ytajnebmijplkeaa", sum := "c52146f7a033ecd3442fcdc543671960140e863bc2f5caee4c2ddea72bfb97f0", func := "fustian/fustianlaw.PosJoins", spec := "posJoins", apart := false, narrowed := true }
def PosJoinsUptoSaid : Prop := posJoinsUptoRow.holds Try.pinned (OpenSpec.upto posJoinsSpec)

/-- 'fustianlaw.PosAts', WHERE WHAT IT READS IS OF BULK AT MOST 1048576: true; the input reads as it did. -/
def posAtsUptoRow : OpenClaim := { program := "ytajnebmijplkeaa", sum := "c52146f7a033ecd3442fcdc543671960140e863bc2f5caee4c2ddea72bfb97f0", func := "fustian/fustianlaw.PosAts", spec := "posAts", inPlace := ["internal/bytealg.CountString", "internal/bytealg.IndexByteString", "internal/bytealg.IndexString"], named := ["internal/bytealg.MaxLen"], apart := false, narrowed := true }
def PosAtsUptoSaid : Prop := posAtsUptoRow.holds Try.pinned (OpenSpec.upto posAtsSpec)

/-- 'fustianlaw.PosFinds', WHERE WHAT IT READS IS OF BULK AT MOST 1048576: true; the input reads as it did. -/
def posFindsUptoRow : OpenClaim := { program := "ytajnebmijplkeaa", sum := "c52146f7a033ecd3442fcdc543671960140e863bc2f5caee4c2ddea72bfb97f0", func := "fustian/fustianlaw.PosFinds", spec := "posFinds", inPlace := ["internal/bytealg.IndexByteString", "internal/bytealg.IndexString"], named := ["internal/bytealg.MaxLen"], apart := false, narrowed := true }
def PosFindsUptoSaid : Prop := posFindsUptoRow.holds Try.pinned (OpenSpec.upto posFindsSpec)

/-- 'fustiankeep.PosParts', WHERE WHAT IT READS IS OF BULK AT MOST 1048576: true; the input reads as it did. -/
def posPartsUptoRow : OpenClaim := { program := "ytajnebmijplkeaa", sum := "c52146f7a033ecd3442fcdc543671960140e863bc2f5caee4c2ddea72bfb97f0", func := "fustian/fustiankeep.PosParts", spec := "posParts", inPlace := ["internal/bytealg.CountString", "internal/bytealg.IndexByteString", "internal/bytealg.IndexString"], named := ["internal/bytealg.MaxLen"], apart := false, narrowed := true }
def PosPartsUptoSaid : Prop := posPartsUptoRow.holds Try.pinned (OpenSpec.upto posPartsSpec)

/-- 'fustiankeep.PosBack', WHERE WHAT IT READS IS OF BULK AT MOST 1048576: true; the input reads as it did. -/
def posBackUptoRow : OpenClaim := { program := "ytajnebmijplkeaa", sum := "c52146f7a033ecd3442fcdc543671960140e863bc2f5caee4c2ddea72bfb97f0", func := "fustian/fustiankeep.PosBack", spec := "posBack", inPlace := ["internal/bytealg.CountString", "internal/bytealg.IndexByteString", "internal/bytealg.IndexString"], named := ["internal/bytealg.MaxLen"], apart := false, narrowed := true }
def PosBackUptoSaid : Prop := posBackUptoRow.holds Try.pinned (OpenSpec.upto posBackSpec)

/-- 'fustiankeep.PosOrder', WHERE WHAT IT READS IS OF BULK AT MOST 1048576: true; the input reads as it did. -/
def posOrderUptoRow : OpenClaim := { program := "ytajnebmijplkeaa", sum := "c52146f7a033ecd3442fcdc543671960140e863bc2f5caee4c2ddea72bfb97f0", func := "fustian/fustiankeep.PosOrder", spec := "posOrder", inPlace := ["internal/bytealg.CountString", "internal/bytealg.IndexByteString", "internal/bytealg.IndexString"], named := ["internal/bytealg.MaxLen"], apart := false, narrowed := true }
def PosOrderUptoSaid : Prop := posOrderUptoRow.holds Try.pinned (OpenSpec.upto posOrderSpec)

end Rows
end Go.Proofs.Ytajnebmijplkeaa
