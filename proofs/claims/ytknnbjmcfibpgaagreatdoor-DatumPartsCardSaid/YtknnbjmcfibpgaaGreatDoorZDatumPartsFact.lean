import Derived.Test.YtknnbjmcfibpgaaGreatDoorRows
import Derived.JoinedOf
set_option linter.unusedSimpArgs false
set_option linter.unusedVariables false
namespace Go.Proofs.YtknnbjmcfibpgaaGreatDoor
open Go
theorem Kw:joinedFacts Tryz.prog 5 Tryz.f5 Rows.datumPartsSpec Rows.datumPartsRow=true:=by kernel_rfl
end Go.Proofs.YtknnbjmcfibpgaaGreatDoor
