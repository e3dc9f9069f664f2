/- DatumKnown, reckoned: the reading comes to the answer true. -/
import Derived.Test.YtodkeaoikjjneaaGreatDoorSums
import Derived.KernelRfl
namespace Go.Proofs.YtodkeaoikjjneaaGreatDoor
open Go Go.Eng

theorem datumKnown_says : saysTrue Tryz.prog sums nls 10 = true := by kernel_rfl
end Go.Proofs.YtodkeaoikjjneaaGreatDoor
