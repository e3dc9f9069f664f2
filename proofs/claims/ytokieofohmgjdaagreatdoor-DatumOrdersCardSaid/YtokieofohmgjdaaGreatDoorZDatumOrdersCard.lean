import Derived.Test.YtokieofohmgjdaaGreatDoorZDatumOrders
import Derived.Test.YtokieofohmgjdaaGreatDoorTie
import Derived.Test.YtokieofohmgjdaaGreatDoorCards
import Derived.SevenTiedAt
set_option linter.unusedSimpArgs false
set_option linter.unusedVariables false
namespace Go.Proofs.YtokieofohmgjdaaGreatDoor
open Go
theorem datumOrders_card_holds:Rows.DatumOrdersCardSaid:=
 Claim7.holds_tied_plain_at .later [] [.handle] true Rows.datumOrdersCard.stood.harness true
  Hs (fun _ h=>by cases h) (by kernel_rfl) (fun _ h=>by cases h) datumOrders_row_tie rfl ⟨rfl,rfl⟩ (by kernel_rfl) rfl
  (fun f fn hf hfn=>by
   obtain rfl:f=4:=Option.some.inj ((show Tryz.prog.funcNamed "caracole/caracolelaw01.DatumOrders" = some 4 by kernel_rfl).symm.trans hf) |>.symm
   obtain rfl:fn=Tryz.f4:=(Option.some.inj (Tryz.func4.symm.trans hfn)).symm
   exact⟨by kernel_rfl,fun j t ht=>by
    rw[Tryz.params4] at ht
    cases j with
    | zero=>
     obtain rfl:24=t:=Option.some.inj ht
     kernel_rfl
    | succ j=>
     cases j with
     | zero=>
      obtain rfl:24=t:=Option.some.inj ht
      kernel_rfl
     | succ j=>
      cases j with
      | zero=>
       obtain rfl:25=t:=Option.some.inj ht
       kernel_rfl
      | succ j=>
       simp at ht
    ⟩)
  (by kernel_rfl)
#print axioms datumOrders_card_holds
end Go.Proofs.YtokieofohmgjdaaGreatDoor
