/- DatumFound: the closed facts that its row asks. -/
import Derived.Test.YtnjapblabllclaaGreatDoorRows
import Derived.JoinedOf
set_option linter.unusedSimpArgs false
set_option linter.unusedVariables false
namespace Go.Proofs.YtnjapblabllclaaGreatDoor
open Go

theorem datumFound_facts : joinedFacts Tryz.prog 6 Tryz.f6 Rows.datumFoundSpec Rows.datumFoundRow = true := by kernel_rfl
end Go.Proofs.YtnjapblabllclaaGreatDoor
