/- The chapter's examples, reckoned. -/
import Derived.Test.YtodkeaoikjjneaaGreatDoorU3
set_option linter.unusedSimpArgs false
set_option linter.unusedVariables false
namespace Go.Proofs.YtodkeaoikjjneaaGreatDoor
open Go Go.Eng
theorem looks_says : saysTrue Tryz.prog nosums nls 21 = true:=by kernel_rfl
end Go.Proofs.YtodkeaoikjjneaaGreatDoor
