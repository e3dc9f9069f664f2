/- DatumReplaced: the closed facts that its row asks. -/
import Derived.Test.YtodkeaoikjjneaaGreatDoorRows
import Derived.JoinedOf
set_option linter.unusedSimpArgs false
set_option linter.unusedVariables false
namespace Go.Proofs.YtodkeaoikjjneaaGreatDoor
open Go

theorem datumReplaced_facts : joinedFacts Tryz.prog 6 Tryz.f6 Rows.datumReplacedSpec Rows.datumReplacedRow = true := by kernel_rfl
end Go.Proofs.YtodkeaoikjjneaaGreatDoor
