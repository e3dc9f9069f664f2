/- DatumPaths: the closed facts that its row asks. -/
import Derived.Test.YtodkeaoikjjneaaGreatDoorRows
import Derived.JoinedOf
set_option linter.unusedSimpArgs false
set_option linter.unusedVariables false
namespace Go.Proofs.YtodkeaoikjjneaaGreatDoor
open Go

theorem datumPaths_facts : joinedFacts Tryz.prog 4 Tryz.f4 Rows.datumPathsSpec Rows.datumPathsRow = true := by kernel_rfl
end Go.Proofs.YtodkeaoikjjneaaGreatDoor
