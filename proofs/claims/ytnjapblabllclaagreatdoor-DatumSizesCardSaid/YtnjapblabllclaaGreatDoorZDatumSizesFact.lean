/- DatumSizes: the closed facts that its row asks. -/
import Derived.Test.YtnjapblabllclaaGreatDoorRows
import Derived.JoinedOf
namespace Go.Proofs.YtnjapblabllclaaGreatDoor
open Go

theorem datumSizes_facts : joinedFacts Tryz.prog 9 Tryz.f9 Rows.datumSizesSpec Rows.datumSizesRow = true := by kernel_rfl
end Go.Proofs.YtnjapblabllclaaGreatDoor
