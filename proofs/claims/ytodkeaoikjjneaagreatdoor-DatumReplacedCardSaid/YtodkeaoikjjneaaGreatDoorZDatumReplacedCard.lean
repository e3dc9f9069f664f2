/- DatumReplaced: its row, tied to the text of the program by the given tie. -/
import Derived.Test.YtodkeaoikjjneaaGreatDoorZDatumReplaced
import Derived.Test.YtodkeaoikjjneaaGreatDoorTie
import Derived.Test.YtodkeaoikjjneaaGreatDoorCards
import Derived.SevenTiedAt
set_option linter.unusedSimpArgs false
set_option linter.unusedVariables false
namespace Go.Proofs.YtodkeaoikjjneaaGreatDoor
open Go

theorem datumReplaced_card_holds : Rows.DatumReplacedCardSaid :=
  Claim7.holds_tied_plain_at .later [] [.handle] true Rows.datumReplacedCard.stood.harness true
    datumReplaced_holds (fun _ h => by cases h) (by kernel_rfl) (fun _ h => by cases h) datumReplaced_row_tie rfl ⟨rfl, rfl⟩ (by kernel_rfl) rfl
    (fun f fn hf hfn => by
      obtain rfl : f = 6 := Option.some.inj ((show Tryz.prog.funcNamed "caracole/caracolelaw01.DatumReplaced" = some 6 by kernel_rfl).symm.trans hf) |>.symm
      obtain rfl : fn = Tryz.f6 := (Option.some.inj (Tryz.func6.symm.trans hfn)).symm
      exact ⟨by kernel_rfl, fun j t ht => by
        rw [Tryz.params6] at ht
        cases j with
        | zero =>
          obtain rfl : 22 = t := Option.some.inj ht
          kernel_rfl
        | succ j => simp at ht⟩)
    (by kernel_rfl)
#print axioms datumReplaced_card_holds
end Go.Proofs.YtodkeaoikjjneaaGreatDoor
