/-
  The row of the type api.Edit in the program's table.
-/
import Derived.Test.YtedlgobpoifnfaaEditAt
import Derived.OwnWalk
namespace Go.Proofs.Ytedlgobpoifnfaa.EditC
open Go.RowKit Kit EditM

def ed0 : EdM := ⟨0, 0, ⟨#[]⟩⟩
theorem infoEdit : (Try.prog.info? 34).map (fun i => (i.zero, i.size, i.bytes)) = some (some (.agg #[.int .i64 0, .int .i64 0, .string ⟨#[]⟩]), 3, 32) := by kernel_rfl

end Go.Proofs.Ytedlgobpoifnfaa.EditC
