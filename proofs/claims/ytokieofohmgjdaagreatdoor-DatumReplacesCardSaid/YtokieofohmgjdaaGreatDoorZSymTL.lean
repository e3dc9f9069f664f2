import Derived.Test.YtokieofohmgjdaaGreatDoorU3
set_option linter.unusedSimpArgs false
set_option linter.unusedVariables false
namespace Go.Proofs.YtokieofohmgjdaaGreatDoor
open Go Go.Eng
theorem XC:saysTrue Tryz.prog nosums nls 10=true:=by kernel_rfl
end Go.Proofs.YtokieofohmgjdaaGreatDoor
