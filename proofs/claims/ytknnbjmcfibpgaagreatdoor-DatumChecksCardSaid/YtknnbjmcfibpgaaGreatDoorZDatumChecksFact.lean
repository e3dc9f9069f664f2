import Derived.Test.YtknnbjmcfibpgaaGreatDoorRows
import Derived.JoinedOf
set_option linter.unusedSimpArgs false
set_option linter.unusedVariables false
namespace Go.Proofs.YtknnbjmcfibpgaaGreatDoor
open Go
theorem Jh:joinedFacts Tryz.prog 3 Tryz.f3 Rows.datumChecksSpec Rows.datumChecksRow=true:=by kernel_rfl
end Go.Proofs.YtknnbjmcfibpgaaGreatDoor
