/- GraphKnown: its row, tied to the text of the program by the given tie. -/
import Derived.Test.YthojmbjflcanfabGreatDoorGraphKnown
import Derived.Test.YthojmbjflcanfabGreatDoorTie
import Derived.Test.YthojmbjflcanfabGreatDoorCards
import Derived.SevenTiedAt
namespace Go.Proofs.YthojmbjflcanfabGreatDoor
open Go

theorem graphKnown_card_holds : Rows.GraphKnownCardSaid :=
  Claim7.holds_tied_plain_at .later [] [.handle] true Rows.graphKnownCard.stood.harness true
    graphKnown_holds (fun _ h => by cases h) (by kernel_rfl) (fun _ h => by cases h) graphKnown_row_tie rfl ⟨rfl, rfl⟩ (by kernel_rfl) rfl
    (fun f fn hf hfn => by
      obtain rfl : f = 8 := Option.some.inj ((show Tryz.prog.funcNamed "caracole/caracolelaw02.GraphKnown" = some 8 by kernel_rfl).symm.trans hf) |>.symm
      obtain rfl : fn = Tryz.f8 := (Option.some.inj (Tryz.func8.symm.trans hfn)).symm
      exact ⟨by kernel_rfl, fun j t ht => by
        rw [Tryz.params8] at ht
        simp at ht⟩)
    (by kernel_rfl)
#print axioms graphKnown_card_holds
end Go.Proofs.YthojmbjflcanfabGreatDoor
