/- DatumKnown: the closed facts that its row asks. -/
import Derived.Test.YtodkeaoikjjneaaGreatDoorRows
import Derived.JoinedOf
namespace Go.Proofs.YtodkeaoikjjneaaGreatDoor
open Go

theorem datumKnown_facts : joinedFacts Tryz.prog 10 Tryz.f10 Rows.datumKnownSpec Rows.datumKnownRow = true := by kernel_rfl
end Go.Proofs.YtodkeaoikjjneaaGreatDoor
