/- GraphKnown: its row, tied to the text of the program by the given tie. -/
import Derived.Test.YtaijefddfkcfhaaGreatDoorGraphKnown
import Derived.Test.YtaijefddfkcfhaaGreatDoorTie
import Derived.Test.YtaijefddfkcfhaaGreatDoorCards
import Derived.SevenTiedAt
namespace Go.Proofs.YtaijefddfkcfhaaGreatDoor
open Go

theorem graphKnown_card_holds : Rows.GraphKnownCardSaid :=
  Claim7.holds_tied_plain_at .later [] [.handle] true Rows.graphKnownCard.stood.harness true
    graphKnown_holds (fun _ h => by cases h) (by kernel_rfl) (fun _ h => by cases h) graphKnown_row_tie rfl ⟨rfl, rfl⟩ (by kernel_rfl) rfl
    (fun f fn hf hfn => by
      obtain rfl : f = 3 := Option.some.inj ((show Tryz.prog.funcNamed "caracole/caracolelaw02.GraphKnown" = some 3 by kernel_rfl).symm.trans hf) |>.symm
      obtain rfl : fn = Tryz.f3 := (Option.some.inj (Tryz.func3.symm.trans hfn)).symm
      exact ⟨by kernel_rfl, fun j t ht => by
        rw [Tryz.params3] at ht
        simp at ht⟩)
    (by kernel_rfl)
#print axioms graphKnown_card_holds
end Go.Proofs.YtaijefddfkcfhaaGreatDoor
