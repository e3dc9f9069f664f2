/- DatumKnown, reckoned: the reading comes to the answer true. -/
import Derived.Test.YthojmbjflcanfaaGreatDoorSums
import Derived.KernelRfl
namespace Go.Proofs.YthojmbjflcanfaaGreatDoor
open Go Go.Eng

theorem datumKnown_says : saysTrue Tryz.prog sums nls 8 = true := by kernel_rfl
end Go.Proofs.YthojmbjflcanfaaGreatDoor
