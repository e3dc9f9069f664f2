import Derived.Test.YtknnbjmcfibpgaaGreatDoorRows
import Derived.Test.YtknnbjmcfibpgaaGreatDoorU9
import Derived.Test.YtknnbjmcfibpgaaGreatDoorZDatumChecksFact
import Derived.ChangeSame
import Derived.ChangeSlices
import Derived.ChangeVars
import Derived.JoinedOf
import Derived.RowKit
import Derived.RowKitTokens
import Derived.LaidLaws
import Derived.LaidHandle
import Derived.Stop.Joined
import Derived.Carry
set_option linter.unusedSimpArgs false
set_option linter.unusedVariables false
namespace Go.Proofs.YtknnbjmcfibpgaaGreatDoor
open Go Go.Eng Go.ChangeShapes Go.WideShapes Go.RowKit
theorem Tryz.own:ownKnob Tryz.prog.godebug=none:=by kernel_rfl
theorem Tryz.et:Tryz.prog.globalNamed "errors.errorType" = some 0:=by kernel_rfl
theorem Tryz.rt:(Tryz.prog.cutTypes.find? (·.1 == "internal/reflectlite.rtype")).map (·.2)=some 224:=by kernel_rfl
theorem Tryz.oneRow:((List.range 273).filter fun t=>Tryz.prog.rowNamed t [101,114,114,111,114])=[169]:=by kernel_rfl
theorem Tryz.size:Tryz.prog.types.size=273:=by kernel_rfl
theorem Tryz.laidOut:laidOutB Tryz.prog=true:=by kernel_rfl
theorem MR{W:World}(h:laidMetH Tryz.prog Rows.datumChecksRow.laid W):W.cell? ⟨0,0,none⟩=some handle:=by
 have h':laidMet Tryz.prog [] W/\handlesMet Tryz.prog Rows.datumChecksRow.laid W:=h
 obtain⟨name,u,ty,e1,e2,e3,e4,e5⟩:=h'.2 _ (List.mem_singleton.2 rfl)
 have en:name=[101,114,114,111,114]:=(Option.some.inj e1).symm
 subst en
 obtain rfl:=Option.some.inj (Tryz.rt.symm.trans e2)
 have hm:ty∈(List.range 273).filter fun t=>Tryz.prog.rowNamed t [101,114,114,111,114]:=List.mem_filter.2 ⟨List.mem_range.2 (by rw[<-Tryz.size];exact e3),e4⟩
 rw[Tryz.oneRow] at hm
 obtain rfl:=List.mem_singleton.1 hm
 have hh:typeHandle Tryz.prog 169=.pointer (some ⟨2,169,none⟩):=by kernel_rfl
 rw[hh] at e5
 simpa [handle] using World.var?_cell Tryz.et e5 0
noncomputable def laidWorld (os:Os):World:=
 let w0:=World.holding Tryz.prog os ⟨#[],#[],[]⟩
 {w0 with heap:=w0.heap.modify 0 fun
   | .cells _ t frozen=>.cells #[handle] t frozen
   | o=>o }
theorem Oq(os:Os)(args:Array Value):laidMetH Tryz.prog Rows.datumChecksRow.laid ((laidWorld os).forCall (fun _ _=>0) ⟨#[],args,[]⟩).memory:=
 laidMetH_of_parts (laidMet_nil _ _) (by kernel_rfl)
set_option maxRecDepth 100000 in
theorem IW(os:Os)(started:os.Started)(H:Type)(enc:TypeId×Value->H):
  ReturnsInHanded {} Tryz.checked os 3 .any (fun w args=>(Rows.datumChecksSpec.pre enc Tryz.prog Tryz.f3 [] false w args/\laidMetH Tryz.prog Rows.datumChecksRow.laid w)/\sizedMet enc Tryz.prog Tryz.f3 (OpenSpec.ofChange Rows.datumChecksSpec) false w args)
   (Rows.datumChecksSpec.post enc Tryz.prog Tryz.f3 false true false false):=by
 refine returnsInHanded_of_change_and (C:=Tryz.checked) (X:=fun w _=>laidMetH Tryz.prog Rows.datumChecksRow.laid w) (fun _ _ _ hh h=>h.of_heap hh) Tryz.own started (by kernel_rfl) Tryz.func3
  (ChangeSpec.witness_at (enc:=enc) (C:=Tryz.checked) (os:=os) (X:=fun w _=>laidMetH Tryz.prog Rows.datumChecksRow.laid w) false (laidWorld os) #[.agg #[.int .i64 0,.int .i64 0,.string ⟨#[]⟩,.slice none 0 0],.slice none 0 0] 8 rfl (by kernel_rfl) (by kernel_rfl) (by kernel_rfl) (by kernel_rfl) (by kernel_rfl) (Oq os _)) ?_
 intro W base args ds gs before hval0 hW _ _ hL _
 have hW':=hW
 obtain⟨p,q,hA0,hV0,rfl,hfz,hnd⟩:=hW
 have hA:DataW.TrodAll enc Tryz.prog W 0 (fun _=>true) true Tryz.f3.params.toList args.toList ds p:=hA0
 have hV:DataW.TrodVars enc Tryz.prog W (fun _=>true) [] gs q:=hV0
 rw[Tryz.params3] at hA
 obtain⟨v0,v1,d0,d1,p0,p1,rfl,rfl,rfl,h0,h1⟩:=trodAll_two hA
 obtain⟨rfl,rfl⟩:=trodVars_none hV
 have hg:=MR hL
 have hlt:=DataW.TrodAll.lt hA
 have k0:∃cs,v0=.agg cs/\cs.size=Tryz.prog.cellsOf 24:=okWide_struct PY (hval0 0 24 _ rfl rfl)
 have k1:∃a len cap,v1=.slice a len cap:=okWide_slice Tryz.underlying25 (hval0 1 25 _ rfl rfl)
 refine(Qb W hg h0 h1 k0 k1).mono fun e W' ⟨he,o1,o2,o3,o4,o5⟩=>?_
 subst he
 have hbl:Below W.heap.size W W':=⟨o1,o3,o2,o4,o5⟩
 have b0:=Below.trod Tryz.laidOut (t:=24) (by kernel_rfl) (of_decide_eq_true (by kernel_rfl)) h0 hbl fun x hx=>hlt x (List.mem_append_left _ hx)
 have b1:=Below.trod Tryz.laidOut (t:=25) (by kernel_rfl) (of_decide_eq_true (by kernel_rfl)) h1 hbl fun x hx=>hlt x (List.mem_append_right _ hx)
 refine⟨_,rfl,_,_,_,[],p0++p1,[],hW',?_,?_,?_,QA o1 o2 o5 _,fun h=>by cases h⟩
 .exact trodAll_mk1 (shut_bool Tryz.underlying4 true)
 .show DataW.TrodAll enc Tryz.prog W' 0 _ true Tryz.f3.params.toList [v0,v1] [d0,d1] _
  rw[Tryz.params3]
  exact trodAll_mk2 b0 b1
 .rfl
theorem Jj:Tryz.prog.funcNamed "caracole/caracolelaw01.DatumChecks" = some 3:=by kernel_rfl
theorem Ko:Tryz.f3.isInstance Tryz.prog Rows.datumChecksRow.origin Rows.datumChecksRow.targs:=of_decide_eq_true (by kernel_rfl)
theorem Kq:Tryz.f3.isWrapper Tryz.prog Rows.datumChecksRow.wrapper Rows.datumChecksRow.mainSum:=by unfold Func.isWrapper;rw[if_neg (of_decide_eq_false (by kernel_rfl))];exact⟨rfl,rfl⟩
theorem Ji:Rows.DatumChecksSaid:=
 OpenClaim.holds_of_wide 3 Tryz.f3 rfl rfl rfl rfl rfl rfl rfl ⟨rfl,rfl,rfl,rfl,rfl⟩ rfl rfl rfl rfl rfl Jj Tryz.func3 Jh
  Ko Kq
  (fun os started H enc _=>IW os started H enc)
end Go.Proofs.YtknnbjmcfibpgaaGreatDoor
