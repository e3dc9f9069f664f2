/- DatumReplaced: the closed facts that its row asks. -/
import Derived.Test.YtnjapblabllclaaGreatDoorRows
import Derived.JoinedOf
set_option linter.unusedSimpArgs false
set_option linter.unusedVariables false
namespace Go.Proofs.YtnjapblabllclaaGreatDoor
open Go

theorem datumReplaced_facts : joinedFacts Tryz.prog 7 Tryz.f7 Rows.datumReplacedSpec Rows.datumReplacedRow = true := by kernel_rfl
end Go.Proofs.YtnjapblabllclaaGreatDoor
