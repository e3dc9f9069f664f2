/- DatumListed: its row, tied to the text of the program by the given tie. -/
import Derived.Test.YtodkeaoikjjneaaGreatDoorZDatumListed
import Derived.Test.YtodkeaoikjjneaaGreatDoorTie
import Derived.Test.YtodkeaoikjjneaaGreatDoorCards
import Derived.SevenTiedAt
set_option linter.unusedSimpArgs false
set_option linter.unusedVariables false
namespace Go.Proofs.YtodkeaoikjjneaaGreatDoor
open Go

theorem datumListed_card_holds : Rows.DatumListedCardSaid :=
  Claim7.holds_tied_plain_at .later [] [.handle] true Rows.datumListedCard.stood.harness true
    datumListed_holds (fun _ h => by cases h) (by kernel_rfl) (fun _ h => by cases h) datumListed_row_tie rfl ⟨rfl, rfl⟩ (by kernel_rfl) rfl
    (fun f fn hf hfn => by
      obtain rfl : f = 3 := Option.some.inj ((show Tryz.prog.funcNamed "caracole/caracolelaw01.DatumListed" = some 3 by kernel_rfl).symm.trans hf) |>.symm
      obtain rfl : fn = Tryz.f3 := (Option.some.inj (Tryz.func3.symm.trans hfn)).symm
      exact ⟨by kernel_rfl, fun j t ht => by
        rw [Tryz.params3] at ht
        cases j with
        | zero =>
          obtain rfl : 22 = t := Option.some.inj ht
          kernel_rfl
        | succ j => simp at ht⟩)
    (by kernel_rfl)
#print axioms datumListed_card_holds
end Go.Proofs.YtodkeaoikjjneaaGreatDoor
