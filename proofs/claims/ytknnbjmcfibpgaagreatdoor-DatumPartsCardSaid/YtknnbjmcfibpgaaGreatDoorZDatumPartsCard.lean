import Derived.Test.YtknnbjmcfibpgaaGreatDoorZDatumParts
import Derived.Test.YtknnbjmcfibpgaaGreatDoorTie
import Derived.Test.YtknnbjmcfibpgaaGreatDoorCards
import Derived.SevenTiedAt
set_option linter.unusedSimpArgs false
set_option linter.unusedVariables false
namespace Go.Proofs.YtknnbjmcfibpgaaGreatDoor
open Go
theorem datumParts_card_holds:Rows.DatumPartsCardSaid:=
 Claim7.holds_tied_plain_at .later [] [.handle] true Rows.datumPartsCard.stood.harness true
  Kx (fun _ h=>by cases h) (by kernel_rfl) (fun _ h=>by cases h) datumParts_row_tie rfl ⟨rfl,rfl⟩ (by kernel_rfl) rfl
  (fun f fn hf hfn=>by
   obtain rfl:f=5:=Option.some.inj ((show Tryz.prog.funcNamed "caracole/caracolelaw01.DatumParts" = some 5 by kernel_rfl).symm.trans hf) |>.symm
   obtain rfl:fn=Tryz.f5:=(Option.some.inj (Tryz.func5.symm.trans hfn)).symm
   exact⟨by kernel_rfl,fun j t ht=>by
    rw[Tryz.params5] at ht
    cases j with
    | zero=>
     obtain rfl:24=t:=Option.some.inj ht
     kernel_rfl
    | succ j=>
     cases j with
     | zero=>
      obtain rfl:24=t:=Option.some.inj ht
      kernel_rfl
     | succ j=>
      cases j with
      | zero=>
       obtain rfl:25=t:=Option.some.inj ht
       kernel_rfl
      | succ j=>
       cases j with
       | zero=>
        obtain rfl:25=t:=Option.some.inj ht
        kernel_rfl
       | succ j=>
        simp at ht
    ⟩)
  (by kernel_rfl)
#print axioms datumParts_card_holds
end Go.Proofs.YtknnbjmcfibpgaaGreatDoor
