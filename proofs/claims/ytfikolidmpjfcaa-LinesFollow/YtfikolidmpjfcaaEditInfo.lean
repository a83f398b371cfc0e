/-
  The row of the type api.Edit in the program's table.
-/
import Derived.Test.YtfikolidmpjfcaaEditAt
import Derived.OwnWalk
namespace Go.Proofs.Ytfikolidmpjfcaa.EditC
open Go.RowKit Kit EditM

def ed0 : EdM := ⟨0, 0, ⟨#[]⟩⟩
theorem infoEdit : (Try.prog.info? 29).map (fun i => (i.zero, i.size, i.bytes)) = some (some (.agg #[.int .i64 0, .int .i64 0, .string ⟨#[]⟩]), 3, 32) := by kernel_rfl

end Go.Proofs.Ytfikolidmpjfcaa.EditC
