/- GraphKnown: the closed facts that its row asks. -/
import Derived.Test.YthojmbjflcanfabGreatDoorRows
import Derived.JoinedOf
namespace Go.Proofs.YthojmbjflcanfabGreatDoor
open Go

theorem graphKnown_facts : joinedFacts Tryz.prog 8 Tryz.f8 Rows.graphKnownSpec Rows.graphKnownRow = true := by kernel_rfl
end Go.Proofs.YthojmbjflcanfabGreatDoor
