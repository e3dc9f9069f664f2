import Derived.Test.YtokieofohmgjdaaGreatDoorRows
import Derived.JoinedOf
set_option linter.unusedSimpArgs false
set_option linter.unusedVariables false
namespace Go.Proofs.YtokieofohmgjdaaGreatDoor
open Go
theorem IJ:joinedFacts Tryz.prog 7 Tryz.f7 Rows.datumReplacesSpec Rows.datumReplacesRow=true:=by kernel_rfl
end Go.Proofs.YtokieofohmgjdaaGreatDoor
