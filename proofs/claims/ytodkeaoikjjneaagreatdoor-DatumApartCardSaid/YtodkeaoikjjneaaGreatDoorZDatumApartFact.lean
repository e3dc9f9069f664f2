/- DatumApart: the closed facts that its row asks. -/
import Derived.Test.YtodkeaoikjjneaaGreatDoorRows
import Derived.JoinedOf
set_option linter.unusedSimpArgs false
set_option linter.unusedVariables false
namespace Go.Proofs.YtodkeaoikjjneaaGreatDoor
open Go
theorem datumApart_facts : joinedFacts Tryz.prog 7 Tryz.f7 Rows.datumApartSpec Rows.datumApartRow = true:=by kernel_rfl
end Go.Proofs.YtodkeaoikjjneaaGreatDoor
