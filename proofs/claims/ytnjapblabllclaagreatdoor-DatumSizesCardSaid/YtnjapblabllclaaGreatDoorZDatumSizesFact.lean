/- DatumSizes: the closed facts that its row asks. -/
import Derived.Test.YtnjapblabllclaaGreatDoorRows
import Derived.JoinedOf
set_option linter.unusedSimpArgs false
set_option linter.unusedVariables false
namespace Go.Proofs.YtnjapblabllclaaGreatDoor
open Go

theorem datumSizes_facts : joinedFacts Tryz.prog 9 Tryz.f9 Rows.datumSizesSpec Rows.datumSizesRow = true := by kernel_rfl
end Go.Proofs.YtnjapblabllclaaGreatDoor
