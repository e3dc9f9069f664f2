/- DatumFound: its row, tied to the text of the program by the given tie. -/
import Derived.Test.YtodkeaoikjjneaaGreatDoorZDatumFound
import Derived.Test.YtodkeaoikjjneaaGreatDoorTie
import Derived.Test.YtodkeaoikjjneaaGreatDoorCards
import Derived.SevenTiedAt
set_option linter.unusedSimpArgs false
set_option linter.unusedVariables false
namespace Go.Proofs.YtodkeaoikjjneaaGreatDoor
open Go

theorem datumFound_card_holds : Rows.DatumFoundCardSaid :=
  Claim7.holds_tied_plain_at .later [] [.handle] true Rows.datumFoundCard.stood.harness true
    datumFound_holds (fun _ h => by cases h) (by kernel_rfl) (fun _ h => by cases h) datumFound_row_tie rfl ⟨rfl, rfl⟩ (by kernel_rfl) rfl
    (fun f fn hf hfn => by
      obtain rfl : f = 5 := Option.some.inj ((show Tryz.prog.funcNamed "caracole/caracolelaw01.DatumFound" = some 5 by kernel_rfl).symm.trans hf) |>.symm
      obtain rfl : fn = Tryz.f5 := (Option.some.inj (Tryz.func5.symm.trans hfn)).symm
      exact ⟨by kernel_rfl, fun j t ht => by
        rw [Tryz.params5] at ht
        cases j with
        | zero =>
          obtain rfl : 22 = t := Option.some.inj ht
          kernel_rfl
        | succ j => simp at ht⟩)
    (by kernel_rfl)
#print axioms datumFound_card_holds
end Go.Proofs.YtodkeaoikjjneaaGreatDoor
