/- DatumOrder: the closed facts that its row asks. -/
import Derived.Test.YtokieofohmgjdaaGreatDoorRows
import Derived.JoinedOf
set_option linter.unusedSimpArgs false
set_option linter.unusedVariables false
namespace Go.Proofs.YtokieofohmgjdaaGreatDoor
open Go

theorem datumOrder_facts : joinedFacts Tryz.prog 8 Tryz.f8 Rows.datumOrderSpec Rows.datumOrderRow = true := by kernel_rfl
end Go.Proofs.YtokieofohmgjdaaGreatDoor
