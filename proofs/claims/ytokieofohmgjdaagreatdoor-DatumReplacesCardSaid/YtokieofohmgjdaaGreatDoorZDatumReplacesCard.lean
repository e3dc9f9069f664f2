import Derived.Test.YtokieofohmgjdaaGreatDoorZDatumReplaces
import Derived.Test.YtokieofohmgjdaaGreatDoorTie
import Derived.Test.YtokieofohmgjdaaGreatDoorCards
import Derived.SevenTiedAt
set_option linter.unusedSimpArgs false
set_option linter.unusedVariables false
namespace Go.Proofs.YtokieofohmgjdaaGreatDoor
open Go
theorem datumReplaces_card_holds:Rows.DatumReplacesCardSaid:=
 Claim7.holds_tied_plain_at .later [] [.handle] true Rows.datumReplacesCard.stood.harness true
  IK (fun _ h=>by cases h) (by kernel_rfl) (fun _ h=>by cases h) datumReplaces_row_tie rfl ⟨rfl,rfl⟩ (by kernel_rfl) rfl
  (fun f fn hf hfn=>by
   obtain rfl:f=7:=Option.some.inj ((show Tryz.prog.funcNamed "caracole/caracolelaw01.DatumReplaces" = some 7 by kernel_rfl).symm.trans hf) |>.symm
   obtain rfl:fn=Tryz.f7:=(Option.some.inj (Tryz.func7.symm.trans hfn)).symm
   exact⟨by kernel_rfl,fun j t ht=>by
    rw[Tryz.params7] at ht
    cases j with
    | zero=>
     obtain rfl:24=t:=Option.some.inj ht
     kernel_rfl
    | succ j=>
     cases j with
     | zero=>
      obtain rfl:24=t:=Option.some.inj ht
      kernel_rfl
     | succ j=>
      cases j with
      | zero=>
       obtain rfl:24=t:=Option.some.inj ht
       kernel_rfl
      | succ j=>
       cases j with
       | zero=>
        obtain rfl:25=t:=Option.some.inj ht
        kernel_rfl
       | succ j=>
        simp at ht
    ⟩)
  (by kernel_rfl)
#print axioms datumReplaces_card_holds
end Go.Proofs.YtokieofohmgjdaaGreatDoor
