/- DatumKnown: its row, tied to the text of the program by the given tie. -/
import Derived.Test.YtodkeaoikjjneaaGreatDoorDatumKnown
import Derived.Test.YtodkeaoikjjneaaGreatDoorTie
import Derived.Test.YtodkeaoikjjneaaGreatDoorCards
import Derived.SevenTiedAt
namespace Go.Proofs.YtodkeaoikjjneaaGreatDoor
open Go

theorem datumKnown_card_holds : Rows.DatumKnownCardSaid :=
  Claim7.holds_tied_plain_at .later [] [.handle] true Rows.datumKnownCard.stood.harness true
    datumKnown_holds (fun _ h => by cases h) (by kernel_rfl) (fun _ h => by cases h) datumKnown_row_tie rfl ⟨rfl, rfl⟩ (by kernel_rfl) rfl
    (fun f fn hf hfn => by
      obtain rfl : f = 10 := Option.some.inj ((show Tryz.prog.funcNamed "caracole/caracolelaw01.DatumKnown" = some 10 by kernel_rfl).symm.trans hf) |>.symm
      obtain rfl : fn = Tryz.f10 := (Option.some.inj (Tryz.func10.symm.trans hfn)).symm
      exact ⟨by kernel_rfl, fun j t ht => by
        rw [Tryz.params10] at ht
        simp at ht⟩)
    (by kernel_rfl)
#print axioms datumKnown_card_holds
end Go.Proofs.YtodkeaoikjjneaaGreatDoor
