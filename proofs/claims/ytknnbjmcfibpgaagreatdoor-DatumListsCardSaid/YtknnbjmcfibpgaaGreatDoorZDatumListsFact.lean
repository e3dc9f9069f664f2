import Derived.Test.YtknnbjmcfibpgaaGreatDoorRows
import Derived.JoinedOf
set_option linter.unusedSimpArgs false
set_option linter.unusedVariables false
namespace Go.Proofs.YtknnbjmcfibpgaaGreatDoor
open Go
theorem JW:joinedFacts Tryz.prog 4 Tryz.f4 Rows.datumListsSpec Rows.datumListsRow=true:=by kernel_rfl
end Go.Proofs.YtknnbjmcfibpgaaGreatDoor
