import Derived.Test.YtokieofohmgjdaaGreatDoorRows
import Derived.JoinedOf
set_option linter.unusedSimpArgs false
set_option linter.unusedVariables false
namespace Go.Proofs.YtokieofohmgjdaaGreatDoor
open Go
theorem Hr:joinedFacts Tryz.prog 4 Tryz.f4 Rows.datumOrdersSpec Rows.datumOrdersRow=true:=by kernel_rfl
end Go.Proofs.YtokieofohmgjdaaGreatDoor
