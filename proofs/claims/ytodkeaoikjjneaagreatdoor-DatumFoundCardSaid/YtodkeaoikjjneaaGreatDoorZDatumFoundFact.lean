/- DatumFound: the closed facts that its row asks. -/
import Derived.Test.YtodkeaoikjjneaaGreatDoorRows
import Derived.JoinedOf
set_option linter.unusedSimpArgs false
set_option linter.unusedVariables false
namespace Go.Proofs.YtodkeaoikjjneaaGreatDoor
open Go

theorem datumFound_facts : joinedFacts Tryz.prog 5 Tryz.f5 Rows.datumFoundSpec Rows.datumFoundRow = true := by kernel_rfl
end Go.Proofs.YtodkeaoikjjneaaGreatDoor
