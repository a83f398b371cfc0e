/-
  Plain mathematics of package pos: valid extents. No program is named.
-/
import Derived.WalkKit
namespace Go.Proofs.Ytajnebmijplkeaa.PosM

def fitsB (x : Int) : Bool := decide (0 ≤ x) && decide (x ≤ 1099511627776)
def mayB (b l c : Int) : Bool := fitsB b && fitsB l && fitsB c && (if l = 0 then c == b else decide (l + c ≤ b))

theorem fitsB_iff (x : Int) : fitsB x = true ↔ 0 ≤ x ∧ x ≤ 1099511627776 := by simp [fitsB]

end Go.Proofs.Ytajnebmijplkeaa.PosM
