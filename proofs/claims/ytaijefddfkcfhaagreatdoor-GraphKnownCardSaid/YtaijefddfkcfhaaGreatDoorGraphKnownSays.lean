/- GraphKnown, reckoned: the reading comes to the answer true. -/
import Derived.Test.YtaijefddfkcfhaaGreatDoorSums
import Derived.KernelRfl
namespace Go.Proofs.YtaijefddfkcfhaaGreatDoor
open Go Go.Eng

theorem graphKnown_says : saysTrue Tryz.prog sums nls 3 = true := by kernel_rfl
end Go.Proofs.YtaijefddfkcfhaaGreatDoor
