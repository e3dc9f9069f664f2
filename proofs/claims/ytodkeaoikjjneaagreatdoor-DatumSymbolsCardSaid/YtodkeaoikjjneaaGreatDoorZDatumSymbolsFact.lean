/- DatumSymbols: the closed facts that its row asks. -/
import Derived.Test.YtodkeaoikjjneaaGreatDoorRows
import Derived.JoinedOf
set_option linter.unusedSimpArgs false
set_option linter.unusedVariables false
namespace Go.Proofs.YtodkeaoikjjneaaGreatDoor
open Go

theorem datumSymbols_facts : joinedFacts Tryz.prog 9 Tryz.f9 Rows.datumSymbolsSpec Rows.datumSymbolsRow = true := by kernel_rfl
end Go.Proofs.YtodkeaoikjjneaaGreatDoor
