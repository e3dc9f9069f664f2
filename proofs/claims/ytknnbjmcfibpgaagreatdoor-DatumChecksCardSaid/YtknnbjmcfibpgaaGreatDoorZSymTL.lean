import Derived.Test.YtknnbjmcfibpgaaGreatDoorU3
set_option linter.unusedSimpArgs false
set_option linter.unusedVariables false
namespace Go.Proofs.YtknnbjmcfibpgaaGreatDoor
open Go Go.Eng
theorem XU:saysTrue Tryz.prog nosums nls 7=true:=by kernel_rfl
end Go.Proofs.YtknnbjmcfibpgaaGreatDoor
