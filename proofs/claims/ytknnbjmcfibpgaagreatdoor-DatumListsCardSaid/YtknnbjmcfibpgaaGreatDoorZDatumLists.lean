import Derived.Test.YtknnbjmcfibpgaaGreatDoorRows
import Derived.Test.YtknnbjmcfibpgaaGreatDoorU8
import Derived.Test.YtknnbjmcfibpgaaGreatDoorZDatumListsFact
import Derived.ChangeSame
import Derived.ChangeSlices
import Derived.ChangeVars
import Derived.JoinedOf
import Derived.RowKit
import Derived.RowKitTokens
import Derived.LaidLaws
import Derived.LaidHandle
import Derived.Stop.Joined
import Derived.Carry
set_option linter.unusedSimpArgs false
set_option linter.unusedVariables false
namespace Go.Proofs.YtknnbjmcfibpgaaGreatDoor
open Go Go.Eng Go.ChangeShapes Go.WideShapes Go.RowKit
theorem Tryz.own:ownKnob Tryz.prog.godebug=none:=by kernel_rfl
theorem Tryz.et:Tryz.prog.globalNamed "errors.errorType" = some 0:=by kernel_rfl
theorem Tryz.rt:(Tryz.prog.cutTypes.find? (·.1 == "internal/reflectlite.rtype")).map (·.2)=some 224:=by kernel_rfl
theorem Tryz.oneRow:((List.range 273).filter fun t=>Tryz.prog.rowNamed t [101,114,114,111,114])=[169]:=by kernel_rfl
theorem Tryz.size:Tryz.prog.types.size=273:=by kernel_rfl
theorem Tryz.laidOut:laidOutB Tryz.prog=true:=by kernel_rfl
theorem Mc{W:World}(h:laidMetH Tryz.prog Rows.datumListsRow.laid W):W.cell? ⟨0,0,none⟩=some handle:=by
 have h':laidMet Tryz.prog [] W/\handlesMet Tryz.prog Rows.datumListsRow.laid W:=h
 obtain⟨name,u,ty,e1,e2,e3,e4,e5⟩:=h'.2 _ (List.mem_singleton.2 rfl)
 have en:name=[101,114,114,111,114]:=(Option.some.inj e1).symm
 subst en
 obtain rfl:=Option.some.inj (Tryz.rt.symm.trans e2)
 have hm:ty∈(List.range 273).filter fun t=>Tryz.prog.rowNamed t [101,114,114,111,114]:=List.mem_filter.2 ⟨List.mem_range.2 (by rw[<-Tryz.size];exact e3),e4⟩
 rw[Tryz.oneRow] at hm
 obtain rfl:=List.mem_singleton.1 hm
 have hh:typeHandle Tryz.prog 169=.pointer (some ⟨2,169,none⟩):=by kernel_rfl
 rw[hh] at e5
 simpa [handle] using World.var?_cell Tryz.et e5 0
noncomputable def laidWorld (os:Os):World:=
 let w0:=World.holding Tryz.prog os ⟨#[],#[],[]⟩
 {w0 with heap:=w0.heap.modify 0 fun
   | .cells _ t frozen=>.cells #[handle] t frozen
   | o=>o }
theorem Oa(os:Os)(args:Array Value):laidMetH Tryz.prog Rows.datumListsRow.laid ((laidWorld os).forCall (fun _ _=>0) ⟨#[],args,[]⟩).memory:=
 laidMetH_of_parts (laidMet_nil _ _) (by kernel_rfl)
set_option maxRecDepth 100000 in
theorem I1(os:Os)(started:os.Started)(H:Type)(enc:TypeId×Value->H):
  ReturnsInHanded {} Tryz.checked os 4 .any (fun w args=>(Rows.datumListsSpec.pre enc Tryz.prog Tryz.f4 [] false w args/\laidMetH Tryz.prog Rows.datumListsRow.laid w)/\sizedMet enc Tryz.prog Tryz.f4 (OpenSpec.ofChange Rows.datumListsSpec) false w args)
   (Rows.datumListsSpec.post enc Tryz.prog Tryz.f4 false true false false):=by
 refine returnsInHanded_of_change_and (C:=Tryz.checked) (X:=fun w _=>laidMetH Tryz.prog Rows.datumListsRow.laid w) (fun _ _ _ hh h=>h.of_heap hh) Tryz.own started (by kernel_rfl) Tryz.func4
  (ChangeSpec.witness_at (enc:=enc) (C:=Tryz.checked) (os:=os) (X:=fun w _=>laidMetH Tryz.prog Rows.datumListsRow.laid w) false (laidWorld os) #[.agg #[.int .i64 0,.int .i64 0,.string ⟨#[]⟩,.slice none 0 0],.agg #[.int .i64 0,.int .i64 0,.string ⟨#[]⟩,.slice none 0 0],.slice none 0 0,.slice none 0 0] 8 rfl (by kernel_rfl) (by kernel_rfl) (by kernel_rfl) (by kernel_rfl) (by kernel_rfl) (Oa os _)) ?_
 intro W base args ds gs before hval0 hW _ _ hL _
 have hW':=hW
 obtain⟨p,q,hA0,hV0,rfl,hfz,hnd⟩:=hW
 have hA:DataW.TrodAll enc Tryz.prog W 0 (fun _=>true) true Tryz.f4.params.toList args.toList ds p:=hA0
 have hV:DataW.TrodVars enc Tryz.prog W (fun _=>true) [] gs q:=hV0
 rw[Tryz.params4] at hA
 obtain⟨v0,v1,v2,v3,d0,d1,d2,d3,p0,p1,p2,p3,rfl,rfl,rfl,h0,h1,h2,h3⟩:=trodAll_four hA
 obtain⟨rfl,rfl⟩:=trodVars_none hV
 have hg:=Mc hL
 have hlt:=DataW.TrodAll.lt hA
 have k0:∃cs,v0=.agg cs/\cs.size=Tryz.prog.cellsOf 24:=okWide_struct Ku (hval0 0 24 _ rfl rfl)
 have k1:∃cs,v1=.agg cs/\cs.size=Tryz.prog.cellsOf 24:=okWide_struct Ku (hval0 1 24 _ rfl rfl)
 have k2:∃a len cap,v2=.slice a len cap:=okWide_slice Tryz.underlying22 (hval0 2 22 _ rfl rfl)
 have k3:∃a len cap,v3=.slice a len cap:=okWide_slice Tryz.underlying25 (hval0 3 25 _ rfl rfl)
 refine(UW W hg h0 h1 h2 h3 k0 k1 k2 k3).mono fun e W' ⟨he,o1,o2,o3,o4,o5⟩=>?_
 subst he
 have hbl:Below W.heap.size W W':=⟨o1,o3,o2,o4,o5⟩
 have b0:=Below.trod Tryz.laidOut (t:=24) (by kernel_rfl) (of_decide_eq_true (by kernel_rfl)) h0 hbl fun x hx=>hlt x (List.mem_append_left _ (List.mem_append_left _ (List.mem_append_left _ hx)))
 have b1:=Below.trod Tryz.laidOut (t:=24) (by kernel_rfl) (of_decide_eq_true (by kernel_rfl)) h1 hbl fun x hx=>hlt x (List.mem_append_left _ (List.mem_append_left _ (List.mem_append_right _ hx)))
 have b2:=Below.trod Tryz.laidOut (t:=22) (by kernel_rfl) (of_decide_eq_true (by kernel_rfl)) h2 hbl fun x hx=>hlt x (List.mem_append_left _ (List.mem_append_right _ hx))
 have b3:=Below.trod Tryz.laidOut (t:=25) (by kernel_rfl) (of_decide_eq_true (by kernel_rfl)) h3 hbl fun x hx=>hlt x (List.mem_append_right _ hx)
 refine⟨_,rfl,_,_,_,[],p0++(p1++(p2++p3)),[],hW',?_,?_,?_,Qj o1 o2 o5 _,fun h=>by cases h⟩
 .exact trodAll_mk1 (shut_bool Tryz.underlying4 true)
 .show DataW.TrodAll enc Tryz.prog W' 0 _ true Tryz.f4.params.toList [v0,v1,v2,v3] [d0,d1,d2,d3] _
  rw[Tryz.params4]
  exact trodAll_mk4 b0 b1 b2 b3
 .rfl
theorem JY:Tryz.prog.funcNamed "caracole/caracolelaw01.DatumLists" = some 4:=by kernel_rfl
theorem KR:Tryz.f4.isInstance Tryz.prog Rows.datumListsRow.origin Rows.datumListsRow.targs:=of_decide_eq_true (by kernel_rfl)
theorem KS:Tryz.f4.isWrapper Tryz.prog Rows.datumListsRow.wrapper Rows.datumListsRow.mainSum:=by unfold Func.isWrapper;rw[if_neg (of_decide_eq_false (by kernel_rfl))];exact⟨rfl,rfl⟩
theorem JX:Rows.DatumListsSaid:=
 OpenClaim.holds_of_wide 4 Tryz.f4 rfl rfl rfl rfl rfl rfl rfl ⟨rfl,rfl,rfl,rfl,rfl⟩ rfl rfl rfl rfl rfl JY Tryz.func4 JW
  KR KS
  (fun os started H enc _=>I1 os started H enc)
end Go.Proofs.YtknnbjmcfibpgaaGreatDoor
