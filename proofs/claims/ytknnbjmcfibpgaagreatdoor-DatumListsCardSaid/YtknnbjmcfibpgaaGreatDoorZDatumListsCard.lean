import Derived.Test.YtknnbjmcfibpgaaGreatDoorZDatumLists
import Derived.Test.YtknnbjmcfibpgaaGreatDoorTie
import Derived.Test.YtknnbjmcfibpgaaGreatDoorCards
import Derived.SevenTiedAt
set_option linter.unusedSimpArgs false
set_option linter.unusedVariables false
namespace Go.Proofs.YtknnbjmcfibpgaaGreatDoor
open Go
theorem datumLists_card_holds:Rows.DatumListsCardSaid:=
 Claim7.holds_tied_plain_at .later [] [.handle] true Rows.datumListsCard.stood.harness true
  JX (fun _ h=>by cases h) (by kernel_rfl) (fun _ h=>by cases h) datumLists_row_tie rfl ⟨rfl,rfl⟩ (by kernel_rfl) rfl
  (fun f fn hf hfn=>by
   obtain rfl:f=4:=Option.some.inj ((show Tryz.prog.funcNamed "caracole/caracolelaw01.DatumLists" = some 4 by kernel_rfl).symm.trans hf) |>.symm
   obtain rfl:fn=Tryz.f4:=(Option.some.inj (Tryz.func4.symm.trans hfn)).symm
   exact⟨by kernel_rfl,fun j t ht=>by
    rw[Tryz.params4] at ht
    cases j with
    | zero=>
     obtain rfl:24=t:=Option.some.inj ht
     kernel_rfl
    | succ j=>
     cases j with
     | zero=>
      obtain rfl:24=t:=Option.some.inj ht
      kernel_rfl
     | succ j=>
      cases j with
      | zero=>
       obtain rfl:22=t:=Option.some.inj ht
       kernel_rfl
      | succ j=>
       cases j with
       | zero=>
        obtain rfl:25=t:=Option.some.inj ht
        kernel_rfl
       | succ j=>
        simp at ht
    ⟩)
  (by kernel_rfl)
#print axioms datumLists_card_holds
end Go.Proofs.YtknnbjmcfibpgaaGreatDoor
