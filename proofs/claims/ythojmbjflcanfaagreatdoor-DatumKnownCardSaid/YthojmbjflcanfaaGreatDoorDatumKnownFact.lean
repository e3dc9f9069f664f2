/- DatumKnown: the closed facts that its row asks. -/
import Derived.Test.YthojmbjflcanfaaGreatDoorRows
import Derived.JoinedOf
namespace Go.Proofs.YthojmbjflcanfaaGreatDoor
open Go

theorem datumKnown_facts : joinedFacts Tryz.prog 8 Tryz.f8 Rows.datumKnownSpec Rows.datumKnownRow = true := by kernel_rfl
end Go.Proofs.YthojmbjflcanfaaGreatDoor
