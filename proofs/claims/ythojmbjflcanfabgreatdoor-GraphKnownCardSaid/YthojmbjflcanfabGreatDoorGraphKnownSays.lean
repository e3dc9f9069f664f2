/- GraphKnown, reckoned: the reading comes to the answer true. -/
import Derived.Test.YthojmbjflcanfabGreatDoorSums
import Derived.KernelRfl
namespace Go.Proofs.YthojmbjflcanfabGreatDoor
open Go Go.Eng

theorem graphKnown_says : saysTrue Tryz.prog sums nls 8 = true := by kernel_rfl
end Go.Proofs.YthojmbjflcanfabGreatDoor
