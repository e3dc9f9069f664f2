/- The chapter's examples, reckoned. -/
import Derived.Test.YtnjapblabllclaaGreatDoorU3
set_option linter.unusedSimpArgs false
set_option linter.unusedVariables false
namespace Go.Proofs.YtnjapblabllclaaGreatDoor
open Go Go.Eng
theorem looks_says : saysTrue Tryz.prog nosums nls 12 = true := by kernel_rfl
end Go.Proofs.YtnjapblabllclaaGreatDoor
