/- DatumApart: its row, tied to the text of the program by the given tie. -/
import Derived.Test.YtodkeaoikjjneaaGreatDoorZDatumApart
import Derived.Test.YtodkeaoikjjneaaGreatDoorTie
import Derived.Test.YtodkeaoikjjneaaGreatDoorCards
import Derived.SevenTiedAt
set_option linter.unusedSimpArgs false
set_option linter.unusedVariables false
namespace Go.Proofs.YtodkeaoikjjneaaGreatDoor
open Go
theorem datumApart_card_holds : Rows.DatumApartCardSaid :=
  Claim7.holds_tied_plain_at .later [] [.handle] true Rows.datumApartCard.stood.harness true
    datumApart_holds (fun _ h => by cases h) (by kernel_rfl) (fun _ h => by cases h) datumApart_row_tie rfl ⟨rfl,rfl⟩ (by kernel_rfl) rfl
    (fun f fn hf hfn => by
      obtain rfl : f = 7:=Option.some.inj ((show Tryz.prog.funcNamed "caracole/caracolelaw01.DatumApart" = some 7 by kernel_rfl).symm.trans hf) |>.symm
      obtain rfl : fn = Tryz.f7:=(Option.some.inj (Tryz.func7.symm.trans hfn)).symm
      exact ⟨by kernel_rfl,fun j t ht => by
        rw [Tryz.params7] at ht
        cases j with
        | zero =>
          obtain rfl : 22 = t:=Option.some.inj ht
          kernel_rfl
        | succ j => simp at ht⟩)
    (by kernel_rfl)
#print axioms datumApart_card_holds
end Go.Proofs.YtodkeaoikjjneaaGreatDoor
