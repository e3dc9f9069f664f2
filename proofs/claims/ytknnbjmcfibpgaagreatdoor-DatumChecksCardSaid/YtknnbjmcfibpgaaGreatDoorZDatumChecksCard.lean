import Derived.Test.YtknnbjmcfibpgaaGreatDoorZDatumChecks
import Derived.Test.YtknnbjmcfibpgaaGreatDoorTie
import Derived.Test.YtknnbjmcfibpgaaGreatDoorCards
import Derived.SevenTiedAt
set_option linter.unusedSimpArgs false
set_option linter.unusedVariables false
namespace Go.Proofs.YtknnbjmcfibpgaaGreatDoor
open Go
theorem datumChecks_card_holds:Rows.DatumChecksCardSaid:=
 Claim7.holds_tied_plain_at .later [] [.handle] true Rows.datumChecksCard.stood.harness true
  Ji (fun _ h=>by cases h) (by kernel_rfl) (fun _ h=>by cases h) datumChecks_row_tie rfl ⟨rfl,rfl⟩ (by kernel_rfl) rfl
  (fun f fn hf hfn=>by
   obtain rfl:f=3:=Option.some.inj ((show Tryz.prog.funcNamed "caracole/caracolelaw01.DatumChecks" = some 3 by kernel_rfl).symm.trans hf) |>.symm
   obtain rfl:fn=Tryz.f3:=(Option.some.inj (Tryz.func3.symm.trans hfn)).symm
   exact⟨by kernel_rfl,fun j t ht=>by
    rw[Tryz.params3] at ht
    cases j with
    | zero=>
     obtain rfl:24=t:=Option.some.inj ht
     kernel_rfl
    | succ j=>
     cases j with
     | zero=>
      obtain rfl:25=t:=Option.some.inj ht
      kernel_rfl
     | succ j=>
      simp at ht
    ⟩)
  (by kernel_rfl)
#print axioms datumChecks_card_holds
end Go.Proofs.YtknnbjmcfibpgaaGreatDoor
