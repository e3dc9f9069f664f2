/- GraphKnown: the closed facts that its row asks. -/
import Derived.Test.YtaijefddfkcfhaaGreatDoorRows
import Derived.JoinedOf
namespace Go.Proofs.YtaijefddfkcfhaaGreatDoor
open Go

theorem graphKnown_facts : joinedFacts Tryz.prog 3 Tryz.f3 Rows.graphKnownSpec Rows.graphKnownRow = true := by kernel_rfl
end Go.Proofs.YtaijefddfkcfhaaGreatDoor
