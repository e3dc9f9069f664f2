/- DatumSizes: the closed facts that its row asks. -/
import Derived.Test.YtodkeaoikjjneaaGreatDoorRows
import Derived.JoinedOf
set_option linter.unusedSimpArgs false
set_option linter.unusedVariables false
namespace Go.Proofs.YtodkeaoikjjneaaGreatDoor
open Go

theorem datumSizes_facts : joinedFacts Tryz.prog 8 Tryz.f8 Rows.datumSizesSpec Rows.datumSizesRow = true := by kernel_rfl
end Go.Proofs.YtodkeaoikjjneaaGreatDoor
