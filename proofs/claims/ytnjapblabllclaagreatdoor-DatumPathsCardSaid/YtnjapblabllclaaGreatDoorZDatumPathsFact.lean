/- DatumPaths: the closed facts that its row asks. -/
import Derived.Test.YtnjapblabllclaaGreatDoorRows
import Derived.JoinedOf
set_option linter.unusedSimpArgs false
set_option linter.unusedVariables false
namespace Go.Proofs.YtnjapblabllclaaGreatDoor
open Go

theorem datumPaths_facts : joinedFacts Tryz.prog 5 Tryz.f5 Rows.datumPathsSpec Rows.datumPathsRow = true := by kernel_rfl
end Go.Proofs.YtnjapblabllclaaGreatDoor
