/- DatumListed: the closed facts that its row asks. -/
import Derived.Test.YtodkeaoikjjneaaGreatDoorRows
import Derived.JoinedOf
set_option linter.unusedSimpArgs false
set_option linter.unusedVariables false
namespace Go.Proofs.YtodkeaoikjjneaaGreatDoor
open Go

theorem datumListed_facts : joinedFacts Tryz.prog 3 Tryz.f3 Rows.datumListedSpec Rows.datumListedRow = true := by kernel_rfl
end Go.Proofs.YtodkeaoikjjneaaGreatDoor
