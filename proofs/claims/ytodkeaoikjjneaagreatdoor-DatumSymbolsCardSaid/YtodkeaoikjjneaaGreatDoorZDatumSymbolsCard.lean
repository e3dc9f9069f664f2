/- DatumSymbols: its row, tied to the text of the program by the given tie. -/
import Derived.Test.YtodkeaoikjjneaaGreatDoorZDatumSymbols
import Derived.Test.YtodkeaoikjjneaaGreatDoorTie
import Derived.Test.YtodkeaoikjjneaaGreatDoorCards
import Derived.SevenTiedAt
set_option linter.unusedSimpArgs false
set_option linter.unusedVariables false
namespace Go.Proofs.YtodkeaoikjjneaaGreatDoor
open Go

theorem datumSymbols_card_holds : Rows.DatumSymbolsCardSaid :=
  Claim7.holds_tied_plain_at .later [] [.handle] true Rows.datumSymbolsCard.stood.harness true
    datumSymbols_holds (fun _ h => by cases h) (by kernel_rfl) (fun _ h => by cases h) datumSymbols_row_tie rfl ⟨rfl, rfl⟩ (by kernel_rfl) rfl
    (fun f fn hf hfn => by
      obtain rfl : f = 9 := Option.some.inj ((show Tryz.prog.funcNamed "caracole/caracolelaw01.DatumSymbols" = some 9 by kernel_rfl).symm.trans hf) |>.symm
      obtain rfl : fn = Tryz.f9 := (Option.some.inj (Tryz.func9.symm.trans hfn)).symm
      exact ⟨by kernel_rfl, fun j t ht => by
        rw [Tryz.params9] at ht
        cases j with
        | zero =>
          obtain rfl : 22 = t := Option.some.inj ht
          kernel_rfl
        | succ j => simp at ht⟩)
    (by kernel_rfl)
#print axioms datumSymbols_card_holds
end Go.Proofs.YtodkeaoikjjneaaGreatDoor
