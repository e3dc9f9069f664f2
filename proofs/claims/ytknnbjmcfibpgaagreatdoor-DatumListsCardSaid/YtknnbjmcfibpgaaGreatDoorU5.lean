import Derived.Test.YtknnbjmcfibpgaaGreatDoorProg
import Derived.WalkKit
import Derived.LaidEql
import Derived.Stop.Asserts
import Derived.RowKitTokens
import Derived.Test.YtknnbjmcfibpgaaGreatDoorU2
import Derived.Test.YtknnbjmcfibpgaaGreatDoorU3
import Derived.Test.YtknnbjmcfibpgaaGreatDoorU4
import Derived.Test.YtknnbjmcfibpgaaGreatDoorZSymTL
set_option linter.unusedSimpArgs false
set_option linter.unusedVariables false
noncomputable section
namespace Go.Proofs.YtknnbjmcfibpgaaGreatDoor
open Go Go.RowKit Go.Extern.Stop Go.Stop Go.Extern
theorem Auv(t:Value)(w:World):Calls Tryz.prog 157 #[.nilIface,t] w fun e w'=>e=.returned (.bool false)/\w'=w:=by
 go_enter Tryz.func157,Tryz.ntmps157
 go_wp2
 go_ret
 exact⟨rfl,rfl⟩
theorem TB(t:Addr)(w:World):(ReflectliteValue.unpack (.iface 190 (.pointer (some t)))).run Tryz.prog w=.ok (.agg #[.pointer (some ⟨2,190,none⟩),.pointer (some ⟨w.heap.size,0,none⟩),.int .u64 150]) (w.alloc (.cells #[.pointer (some t)] 190)):=by kernel_rfl
theorem AeZ(a:Addr)(w:World):(ReflectliteValue.methodAny (ReflectliteValue.valueError "reflectlite.Value.Type" 0) (fun t _ _ _=>ReflectliteType.toType t) #[.agg #[.pointer (some ⟨2,190,none⟩),.pointer (some a),.int .u64 150]]).run Tryz.prog w=.ok (.iface 224 (.agg #[.pointer (some ⟨2,190,none⟩)])) w:=by kernel_rfl
theorem AeV(h:Value)(w:World):(Go.method 373 224 (.agg #[h]) "Kind").run Tryz.prog w=.ok (209,h) w:=by kernel_rfl
theorem AeT(h:Value)(w:World):(Go.method 373 224 (.agg #[h]) "Elem").run Tryz.prog w=.ok (232,.agg #[h]) w:=by kernel_rfl
theorem AeU(h:Value)(w:World):(Go.method 373 224 (.agg #[h]) "Implements").run Tryz.prog w=.ok (233,.agg #[h]) w:=by kernel_rfl
theorem WT(h:Value)(w:World):(Go.method 373 224 (.agg #[h]) "AssignableTo").run Tryz.prog w=.ok (230,.agg #[h]) w:=by kernel_rfl
theorem AeQ(w:World):((ReflectliteType.abiMethod fun t=>(fun a:Nat=>Value.int IntKind.u8 (a:Int)) <$> Rtype.kind t) #[.pointer (some ⟨2,190,none⟩)]).run Tryz.prog w=.ok (.int .u8 22) w:=by kernel_rfl
theorem AeR(w:World):((ReflectliteType.abiMethod fun t=>(fun a:Nat=>Value.int IntKind.u8 (a:Int)) <$> Rtype.kind t) #[.pointer (some ⟨2,171,none⟩)]).run Tryz.prog w=.ok (.int .u8 25) w:=by kernel_rfl
theorem AeN(w:World):(ReflectliteType.method ReflectliteType.elem #[.agg #[.pointer (some ⟨2,190,none⟩)]]).run Tryz.prog w=.ok (.iface 224 (.agg #[.pointer (some ⟨2,171,none⟩)])) w:=by kernel_rfl
theorem Anq(w:World):(ReflectliteType.relation "Implements" ReflectliteType.implements_ #[.agg #[.pointer (some ⟨2,171,none⟩)],.iface 224 (.agg #[.pointer (some ⟨2,169,none⟩)])]).run Tryz.prog w=.ok (.bool true) w:=by kernel_rfl
theorem Acn(v:Value)(w:World):(ReflectliteType.typeOf #[.iface 171 v]).run Tryz.prog w=.ok (.iface 224 (.agg #[.pointer (some ⟨2,171,none⟩)])) w:=by kernel_rfl
theorem Aci(w:World):(ReflectliteType.relation "AssignableTo" ReflectliteType.assignableTo #[.agg #[.pointer (some ⟨2,171,none⟩)],(.iface 224 (.agg #[.pointer (some ⟨2,171,none⟩)]))]).run Tryz.prog w=.ok (.bool true) w:=by kernel_rfl
theorem TC(x y:Value)(w:World):(ReflectliteValue.unpack (.iface 171 (.agg #[x,y]))).run Tryz.prog w=.ok (.agg #[.pointer (some ⟨2,171,none⟩),.pointer (some ⟨w.heap.size,0,none⟩),.int .u64 153]) (w.alloc (.cells #[x,y] 171)):=by kernel_rfl
theorem Ow(a:Addr)(w:World):(ReflectliteValue.parts (.agg #[.pointer (some ⟨2,190,none⟩),.pointer (some a),.int .u64 150])).run Tryz.prog w=.ok (some (190,a,150)) w:=by kernel_rfl
theorem Acl(a:Addr)(w:World):(ReflectliteValue.parts (.agg #[.pointer (some ⟨2,171,none⟩),.pointer (some a),.int .u64 409])).run Tryz.prog w=.ok (some (171,a,409)) w:=by kernel_rfl
theorem Acm(a:Addr)(w:World):(ReflectliteValue.parts (.agg #[.pointer (some ⟨2,171,none⟩),.pointer (some a),.int .u64 153])).run Tryz.prog w=.ok (some (171,a,153)) w:=by kernel_rfl
theorem Ack(w:World):(Rtype.elem? 190).run Tryz.prog w=.ok (some 171) w:=by kernel_rfl
theorem AwK(p:Addr)(w:World):(ReflectliteValue.mk 171 p ReflectliteValue.flagAddr).run Tryz.prog w=.ok (.agg #[.pointer (some ⟨2,171,none⟩),.pointer (some p),.int .u64 409]) w:=by kernel_rfl
theorem Acj(w:World):(Rtype.directlyAssignable 171 171).run Tryz.prog w=.ok true w:=by kernel_rfl
theorem Aa1(w:World):(sizeOf 171).run Tryz.prog w=.ok 2 w:=by kernel_rfl
theorem Ano(w:World):(isAgg 190).run Tryz.prog w=.ok false w:=by kernel_rfl
theorem Anp(w:World):(isAgg 171).run Tryz.prog w=.ok true w:=by kernel_rfl
theorem TA(a p:Addr)(W:World)(ha:W.cell? a=some (.pointer (some p))):(loadVar 190 a).run Tryz.prog W=.ok (.pointer (some p)) W:=by
 simp[loadVar,Ano,ha,Result.andThen]
theorem AeS(b:Addr)(x y:Value)(W:World)(hb:W.cell? b=some x)(hb2:W.cell? (b.add 1)=some y):(loadVar 171 b).run Tryz.prog W=.ok (.agg #[x,y]) W:=by
 have h2:W.cell? ⟨b.block,b.off+1,none⟩=some y:=hb2
 simp[loadVar,Anp,Aa1,loadCells,loadCellsFrom,Addr.add,hb,h2,Result.andThen]
theorem Ov(z:Sem Value)(f:TypeId->Addr->Nat->Nat->Sem Value)(v:Value):ReflectliteValue.method z f #[v]=(do match <-ReflectliteValue.parts v with|none=>z|some (t,a,fl)=>f t a fl (fl % 32)):=rfl
theorem AeP(a p:Addr)(W:World)(ha:W.cell? a=some (.pointer (some p))):
  (ReflectliteValue.method (ReflectliteValue.valueError "reflectlite.Value.IsNil" 0) ReflectliteValue.isNil #[.agg #[.pointer (some ⟨2,190,none⟩),.pointer (some a),.int .u64 150]]).run Tryz.prog W=.ok (.bool false) W:=by
 rw[Ov]
 simp only[Sem.run_bind,Ow,Result.andThen]
 simp[ReflectliteValue.isNil,TA a p W ha,Result.andThen]
theorem AeO(a p:Addr)(W:World)(ha:W.cell? a=some (.pointer (some p))):
  (ReflectliteValue.method (ReflectliteValue.valueError "reflectlite.Value.Elem" 0) ReflectliteValue.elem #[.agg #[.pointer (some ⟨2,190,none⟩),.pointer (some a),.int .u64 150]]).run Tryz.prog W=.ok (.agg #[.pointer (some ⟨2,171,none⟩),.pointer (some p),.int .u64 409]) W:=by
 rw[Ov]
 simp only[Sem.run_bind,Ow,Result.andThen]
 simp[ReflectliteValue.elem,TA a p W ha,Result.andThen,Ack,AwK]
theorem AeY(a c:Addr)(x o:Value)(W:World)(h:W.cell? c=some o):∃o',(W.setCell a x).cell? c=some o':=by
 by_cases hb:a.block=c.block
 .cases hh:W.heap[c.block]? with
  | none=>simp[World.cell?,hh] at h
  | some ob=>
   cases ob with
   | cells c1 t1 f1=>
    have h3:c.spot=none/\c1[c.off]? = some o:=by
     simp only[World.cell?,hh] at h
     cases hs:c.spot with
     | none=>simpa [hs] using h
     | some q=>simp[hs] at h
    have hlt:c.off<c1.size:=(Array.getElem?_eq_some_iff.1 h3.2).1
    refine⟨(if a.spot.isSome then c1 else c1.setIfInBounds a.off x)[c.off]'(by split<;>simpa using hlt),?_⟩
    simp only[World.cell?,World.setCell,Array.getElem?_modify,hb,hh,h3.1,↓reduceIte,Option.map_some,Option.isSome_none,Bool.false_eq_true]
    exact Array.getElem?_eq_getElem _
   | _=>simp[World.cell?,hh] at h
 .exact⟨o,by simp[World.cell?,World.setCell,Array.getElem?_modify,hb] at h ⊢;exact h⟩
theorem Auw(ta b:Addr)(x y old old2:Value)(W:World)(hx:x.oneCell'=true)(hy:y.oneCell'=true)(hb:W.cell? b=some x)(hb2:W.cell? (b.add 1)=some y)(ht:W.cell? ta=some old)(hf:W.frozen? ta=false)(ht2:W.cell? (ta.add 1)=some old2)(hf2:W.frozen? (ta.add 1)=false):
  (ReflectliteValue.set #[.agg #[.pointer (some ⟨2,171,none⟩),.pointer (some ta),.int .u64 409],.agg #[.pointer (some ⟨2,171,none⟩),.pointer (some b),.int .u64 153]]).run Tryz.prog W=.ok (.tuple #[]) ((W.setCell ta x).setCell (ta.add 1) y):=by
 have h1:ReflectliteValue.set #[.agg #[.pointer (some ⟨2,171,none⟩),.pointer (some ta),.int .u64 409],.agg #[.pointer (some ⟨2,171,none⟩),.pointer (some b),.int .u64 153]]=(do
  let (some (dst,a,fl),some (src,b,_)):=(<-ReflectliteValue.parts (.agg #[.pointer (some ⟨2,171,none⟩),.pointer (some ta),.int .u64 409]),<-ReflectliteValue.parts (.agg #[.pointer (some ⟨2,171,none⟩),.pointer (some b),.int .u64 153]))
   | unsupported (.noEntry "extern/(internal/reflectlite.Value).Set.zeroValue")
  if fl / ReflectliteValue.flagAddr % 2==0 then unsupported (.noEntry "extern/(internal/reflectlite.Value).Set.unaddressable")
  let val <-loadVar src b
  if <-Rtype.directlyAssignable dst src then storeVar dst a val
  else if <-Rtype.implements dst src then
   if (<-Rtype.kind src)==20 then
    match val with
    | .nilIface=>unsupported (.noEntry "extern/reflectlite: a nil value of one interface type handed on as a value of another")
    | _=>storeVar dst a val
   else storeVar dst a (.iface src val)
  else panicString ("reflectlite.Set: value of type " ++ (<-Rtype.spelt src) ++ " is not assignable to type " ++ (<-Rtype.spelt dst))
  pure (.tuple #[])):=rfl
 rw[h1]
 simp only[Sem.run_bind,Acl,Acm,Result.andThen]
 have hne:ta≠ta.add 1:=fun h=>by
  have h9:ta.off=(ta.add 1).off:=congrArg Addr.off h
  simp[Addr.add] at h9
 have hc2:∃o,(W.setCell ta x).cell? (ta.add 1)=some o:=AeY ta (ta.add 1) x old2 W ht2
 obtain⟨o,hc2⟩:=hc2
 have hf3:(W.setCell ta x).frozen? (ta.add 1)=false:=(World.frozen?_setCell _ _ _ _).trans hf2
 have h8:(storeCells ta [x,y]).run Tryz.prog W=.ok () ((W.setCell ta x).setCell (ta.add 1) y):=by
  show (do store (Addr.add ta 0) x;(do store (Addr.add ta 1) y;pure ()):Sem Unit).run Tryz.prog W=_
  rw[Sem.run_bind,show Addr.add ta 0=ta from rfl,run_store Tryz.prog W ta _ _ hx]
  simp only[ht,hf,Result.andThen,Bool.false_eq_true,if_false]
  rw[Sem.run_bind,run_store Tryz.prog _ (ta.add 1) _ _ hy]
  simp[hc2,hf3,Result.andThen]
 simp[ReflectliteValue.flagAddr,AeS b x y W hb hb2,Result.andThen,Acj,storeVar,Aa1,Value.cells,h8]
set_option maxHeartbeats 4000000 in
theorem Auu(x y:Value)(t:Addr)(old old2:Value)(w:World)(hx:x.oneCell'=true)(hy:y.oneCell'=true)(hg:w.cell? ⟨0,0,none⟩=some (.iface 224 (.agg #[.pointer (some ⟨2,169,none⟩)])))(ht0:w.cell? t=some old)(hf0:w.frozen? t=false)(ht2:w.cell? (t.add 1)=some old2)(hf2:w.frozen? (t.add 1)=false):
  Calls Tryz.prog 157 #[.iface 171 (.agg #[x,y]),.iface 190 (.pointer (some t))] w fun ev w'=>ev=.returned (.bool true)/\w'=(((((w.alloc (.cells #[.pointer (some t)] 190)).alloc (.cells #[.pointer (some ⟨2,190,none⟩),.pointer (some ⟨w.heap.size,0,none⟩),.int .u64 150] 207)).alloc (.cells #[.pointer (some ⟨2,190,none⟩),.pointer (some ⟨w.heap.size,0,none⟩),.int .u64 150] 207)).alloc (.cells #[x,y] 171)).setCell t x).setCell (t.add 1) y:=by
 have h1:=@run_callFunc_extern Tryz.prog 172 _ (fun args=>ReflectliteValue.unpack (args.getD 0 (.tuple #[]))) Tryz.func172 (by kernel_rfl) (by kernel_rfl) (by kernel_rfl) (by kernel_rfl)
 have h2:=@run_callFunc_extern Tryz.prog 173 _ (ReflectliteValue.methodAny (ReflectliteValue.valueError "reflectlite.Value.Type" 0) (fun t _ _ _=>ReflectliteType.toType t)) Tryz.func173 (by kernel_rfl) (by kernel_rfl) (by kernel_rfl) (by kernel_rfl)
 have h3:=@run_callFunc_extern Tryz.prog 174 _ (ReflectliteValue.method (ReflectliteValue.valueError "reflectlite.Value.IsNil" 0) ReflectliteValue.isNil) Tryz.func174 (by kernel_rfl) (by kernel_rfl) (by kernel_rfl) (by kernel_rfl)
 have h4:=@run_callFunc_extern Tryz.prog 209 _ (ReflectliteType.abiMethod fun t=>do pure (.int .u8 (<-Rtype.kind t))) Tryz.func209 (by kernel_rfl) (by kernel_rfl) (by kernel_rfl) (by kernel_rfl)
 have h5:=@run_callFunc_extern Tryz.prog 232 _ (ReflectliteType.method ReflectliteType.elem) Tryz.func232 (by kernel_rfl) (by kernel_rfl) (by kernel_rfl) (by kernel_rfl)
 have h6:=@run_callFunc_extern Tryz.prog 233 _ (ReflectliteType.relation "Implements" ReflectliteType.implements_) Tryz.func233 (by kernel_rfl) (by kernel_rfl) (by kernel_rfl) (by kernel_rfl)
 have h7:=@run_callFunc_extern Tryz.prog 183 _ ReflectliteType.typeOf Tryz.func183 (by kernel_rfl) (by kernel_rfl) (by kernel_rfl) (by kernel_rfl)
 have h8:=@run_callFunc_extern Tryz.prog 230 _ (ReflectliteType.relation "AssignableTo" ReflectliteType.assignableTo) Tryz.func230 (by kernel_rfl) (by kernel_rfl) (by kernel_rfl) (by kernel_rfl)
 have h9:=@run_callFunc_extern Tryz.prog 184 _ (ReflectliteValue.method (ReflectliteValue.valueError "reflectlite.Value.Elem" 0) ReflectliteValue.elem) Tryz.func184 (by kernel_rfl) (by kernel_rfl) (by kernel_rfl) (by kernel_rfl)
 have h10:=@run_callFunc_extern Tryz.prog 185 _ ReflectliteValue.set Tryz.func185 (by kernel_rfl) (by kernel_rfl) (by kernel_rfl) (by kernel_rfl)
 have k1:=Acn
 have k2:=WT
 have k3:=Aci
 have k4:=TC
 have k5:=TB
 have k6:=AeZ
 have k7:=AeV
 have k8:=AeT
 have k9:=AeU
 have k10:=AeQ
 have k11:=AeR
 have k12:=AeN
 have k13:=Anq
 have n8:=AeP ⟨w.heap.size,0,none⟩ t ((w.alloc (.cells #[.pointer (some t)] 190)).alloc (.cells #[.pointer (some ⟨2,190,none⟩),.pointer (some ⟨w.heap.size,0,none⟩),.int .u64 150] 207)) (by simp)
 have hlt:0<w.heap.size:=by
  rcases Nat.lt_or_ge 0 w.heap.size with h|h
  .exact h
  .simp[World.cell?,Array.getElem?_eq_none h] at hg
 have htl:t.block<w.heap.size:=by
  rcases Nat.lt_or_ge t.block w.heap.size with h|h
  .exact h
  .simp[World.cell?,Array.getElem?_eq_none h] at ht0
 have hg2:((w.alloc (.cells #[.pointer (some t)] 190)).alloc (.cells #[.pointer (some ⟨2,190,none⟩),.pointer (some ⟨w.heap.size,0,none⟩),.int .u64 150] 207)).cell? ⟨0,0,none⟩=some (.iface 224 (.agg #[.pointer (some ⟨2,169,none⟩)])):=by
  rw[World.cell?_alloc_lt _ _ ⟨0,0,none⟩ (by simp<;>omega),World.cell?_alloc_lt _ _ ⟨0,0,none⟩ hlt];exact hg
 have el:=AeO ⟨w.heap.size,0,none⟩ t (((w.alloc (.cells #[.pointer (some t)] 190)).alloc (.cells #[.pointer (some ⟨2,190,none⟩),.pointer (some ⟨w.heap.size,0,none⟩),.int .u64 150] 207)).alloc (.cells #[.pointer (some ⟨2,190,none⟩),.pointer (some ⟨w.heap.size,0,none⟩),.int .u64 150] 207)) (by rw[World.cell?_alloc_lt _ _ ⟨w.heap.size,0,none⟩ (by simp;omega)];simp)
 have up:∀(a:Addr) (v:Value),a.block<w.heap.size->w.cell? a=some v->((((w.alloc (.cells #[.pointer (some t)] 190)).alloc (.cells #[.pointer (some ⟨2,190,none⟩),.pointer (some ⟨w.heap.size,0,none⟩),.int .u64 150] 207)).alloc (.cells #[.pointer (some ⟨2,190,none⟩),.pointer (some ⟨w.heap.size,0,none⟩),.int .u64 150] 207)).alloc (.cells #[x,y] 171)).cell? a=some v:=fun a v h1 h2=>by
  rw[World.cell?_alloc_lt _ _ a (by simp;omega),World.cell?_alloc_lt _ _ a (by simp;omega),World.cell?_alloc_lt _ _ a (by simp;omega),World.cell?_alloc_lt _ _ a h1];exact h2
 have upf:∀(a:Addr),a.block<w.heap.size->w.frozen? a=false->((((w.alloc (.cells #[.pointer (some t)] 190)).alloc (.cells #[.pointer (some ⟨2,190,none⟩),.pointer (some ⟨w.heap.size,0,none⟩),.int .u64 150] 207)).alloc (.cells #[.pointer (some ⟨2,190,none⟩),.pointer (some ⟨w.heap.size,0,none⟩),.int .u64 150] 207)).alloc (.cells #[x,y] 171)).frozen? a=false:=fun a h1 h2=>by
  rw[World.frozen?_alloc_old _ _ a (by simp;omega),World.frozen?_alloc_old _ _ a (by simp;omega),World.frozen?_alloc_old _ _ a (by simp;omega),World.frozen?_alloc_old _ _ a (Nat.ne_of_lt h1)];exact h2
 have st:=Auw t ⟨w.heap.size+1+1+1,0,none⟩ x y old old2 ((((w.alloc (.cells #[.pointer (some t)] 190)).alloc (.cells #[.pointer (some ⟨2,190,none⟩),.pointer (some ⟨w.heap.size,0,none⟩),.int .u64 150] 207)).alloc (.cells #[.pointer (some ⟨2,190,none⟩),.pointer (some ⟨w.heap.size,0,none⟩),.int .u64 150] 207)).alloc (.cells #[x,y] 171)) hx hy
  (by rw[World.cell?_alloc_at _ _ _ _ (by simp)];rfl)
  (by rw[show (Addr.add ⟨w.heap.size+1+1+1,0,none⟩ 1:Addr)=⟨w.heap.size+1+1+1,1,none⟩ from rfl,World.cell?_alloc_at _ _ _ _ (by simp)];rfl)
  (up t old htl ht0) (upf t htl hf0) (up (t.add 1) old2 htl ht2) (upf (t.add 1) htl hf2)
 go_enter Tryz.func157,Tryz.ntmps157
 go_wp2
 refine wp_loop_rounds 1 ?_
 rw[rounds_succ]
 go_wp2
 go_ret
 exact⟨rfl,rfl⟩
end Go.Proofs.YtknnbjmcfibpgaaGreatDoor
namespace Go.Eng
open Go
section
variable [Pins] {P:Program} {m:Mp} {Z:aC} {w:World} {f:FuncId} {fn:Func} {body:Code} {args':Array Value}
theorem CallOK.of_store2(hf:P.funcs[f]? = some fn)(hb:fn.body=some body)(hname:(fn.name == "runtime.NumGoroutine")=false)(hr:Rel Top m Z w){p p' x x' y y':Value}{V:aC}(hst:aK 2 p (.agg #[x,y]) Z=.skip V)(hp:bH m p p')(hx:bH m x x')(hy:bH m y y')(h:∀(t:Addr) (old old2:Value),p'=.pointer (some t)->x'.oneCell'=true->y'.oneCell'=true->w.cell? t=some old->w.frozen? t=false->w.cell? (t.add 1)=some old2->w.frozen? (t.add 1)=false->∃w4:World,(∀j,j<w.heap.size->w4.heap[j]? = w.heap[j]?)/\w.heap.size<=w4.heap.size/\w4.os=w.os/\w4.tape=w.tape/\w4.output=w.output/\
   Calls P f args' w fun e w'=>e=.returned (.bool true)/\w'=(w4.setCell t x').setCell (t.add 1) y'):CallOK P m Z w f args' none (.ret (.bool true) none V):=by
 obtain⟨b,off,ent,c,el,c',rfl,hg,ho,hro,hc,hs,rfl⟩:=GH hst
 have hvc:aI (.agg #[x,y])=[x,y]:=rfl
 rw[hvc] at hc hs
 generalize hpp:p'=pp at hp
 cases hp with
 | ptr hm=>
  rename_i e
  have hcc:oneCell x=true/\oneCell y=true:=by simpa using (Bool.and_eq_true_iff.1 hc).2
  have hone:x'.oneCell'=true:=Qr (EP hx hcc.1)
  have hone2:y'.oneCell'=true:=Qr (EP hy hcc.2)
  obtain⟨hre,hsy⟩:=hr.sync b ent e trivial hg hm
  rw[ho] at hsy
  obtain⟨ca,el',fr,h2,h3,h4,_⟩:=hsy
  have hoff:off+1<c.length:=by
   rw[D2] at hs
   by_cases hle:off+[x,y].length<=c.length
   .simp at hle
    omega
   .rw[if_neg hle] at hs
    cases hs
  obtain⟨old,h5,_⟩:=h4 off c[off] (List.getElem?_eq_getElem (by omega))
  obtain⟨old2,h52,_⟩:=h4 (off+1) c[off+1] (List.getElem?_eq_getElem hoff)
  have hlt:e.blk<w.heap.size:=(hr.dom _ _ hm).2
  have hfr:=h3 (by rw[<-hre];exact hro)
  have cell:∀w4:World,w4.heap[e.blk]? = w.heap[e.blk]? -> ∀(o:Nat) (v:Value),ca[e.sh+o]? = some v->w4.cell? ⟨e.blk,e.sh+o,none⟩=some v/\w4.frozen? ⟨e.blk,e.sh+o,none⟩=false:=fun w4 hw4 o v hv=>by
   rw[h2] at hw4
   exact⟨by simp[World.cell?,hw4,hv],by simp[World.frozen?,hw4,hfr]⟩
  have hadd:Addr.add ⟨e.blk,e.sh+off,none⟩ 1=⟨e.blk,e.sh+(off+1),none⟩:=by simp[Addr.add,Nat.add_assoc]
  obtain⟨w4,g1,g2,g3,g4,g5,g6⟩:=h _ old old2 hpp hone hone2 (cell w rfl off old h5).1 (cell w rfl off old h5).2 (by rw[hadd];exact(cell w rfl (off+1) old2 h52).1) (by rw[hadd];exact(cell w rfl (off+1) old2 h52).2)
  have hr4:Rel Top m Z w4:=hr.moreWorld g1 g2
  have hS4:Step Z Z m m w w4:=(Step.refl Z m w).moreWorld g1 g2 g3 g4 g5
  obtain⟨w',k1,k2,k3⟩:=hr4.splice (P:=P) hm hg ho hro hs (.cons hx (.cons hy .nil)) (fun v hv=>by
   rcases List.mem_cons.1 hv with rfl|hv
   .exact hone
   .rw[List.mem_singleton] at hv
    rw[hv]
    exact hone2)
  have c1:=cell w4 (g1 _ hlt) off old h5
  have c2:=cell w4 (g1 _ hlt) (off+1) old2 h52
  have hne:((e.sh+off:Nat))≠e.sh+(off+1):=by omega
  have hc2:(w4.setCell ⟨e.blk,e.sh+off,none⟩ x').cell? ⟨e.blk,e.sh+(off+1),none⟩=some old2:=by
   have hw4:=g1 _ hlt
   rw[h2] at hw4
   simp[World.setCell,World.cell?,Array.getElem?_modify,hw4,h52,Array.getElem?_setIfInBounds,Array.getElem?_set]
  have hf2:(w4.setCell ⟨e.blk,e.sh+off,none⟩ x').frozen? ⟨e.blk,e.sh+(off+1),none⟩=false:=(World.frozen?_setCell _ _ _ _).trans c2.2
  have hrun:(storeCells ⟨e.blk,e.sh+off,none⟩ [x',y']).run P w4=.ok () ((w4.setCell ⟨e.blk,e.sh+off,none⟩ x').setCell (Addr.add ⟨e.blk,e.sh+off,none⟩ 1) y'):=by
   show (do store (Addr.add ⟨e.blk,e.sh+off,none⟩ 0) x';(do store (Addr.add ⟨e.blk,e.sh+off,none⟩ 1) y';pure ()):Sem Unit).run P w4=_
   rw[Sem.run_bind,run_store P w4 _ _ _ hone]
   rw[hadd]
   simp[Addr.add,c1.1,c1.2,Result.andThen,Sem.run_bind,run_store P _ _ _ _ hone2,hc2,hf2]
  rw[hrun] at k1
  cases k1
  exact CallOK.of_calls hf hb hname g6 k2 (hS4.trans k3) (.bool true)
end
end Go.Eng
namespace Go.Proofs.YtknnbjmcfibpgaaGreatDoor
open Go Go.Eng
def handle:Value:=.iface 224 (.agg #[.pointer (some ⟨2,169,none⟩)])
theorem AeW:(Tryz.prog.funcs.toList.all fun fn=>!(fn.name == "runtime.NumGoroutine"))=true:=by kernel_rfl
theorem AeX(f:FuncId)(fn:Func)(h:Tryz.prog.funcs[f]? = some fn):(fn.name == "runtime.NumGoroutine")=false:=by
 have:=List.all_eq_true.1 AeW fn (by
  rw[Array.mem_toList_iff]
  exact Array.mem_of_getElem? h)
 simpa using this
theorem Am7[Pins](W:World)(hpin:∀o,W.heap[0]? = some o->Pins.on 0 o)(hg:W.cell? ⟨0,0,none⟩=some handle):SumOK Tryz.prog sums:=by
 intro f args Z r m w args' h hr hA
 unfold sums at h
 cases hf:Nat.beq f 157 with
 | false=>rw[hf] at h;cases h
 | true=>
  rw[hf] at h
  rw[Nat.beq_eq] at hf
  subst hf
  have hname:=AeX 157 _ Tryz.func157
  obtain⟨L'⟩:=args'
  simp only[cond_true] at h
  split at h
  .rename_i p
   cases h
   match L',hA with
   | [a',p'],hA=>
    have h1:=hA.head
    cases h1
    exact CallOK.of_calls Tryz.func157 rfl hname (Auv p' w) hr (.refl _ _ _) (.bool false)
   | [],hA=>simp[LRel] at hA
   | [_],hA=>simp[LRel] at hA
   | _::_::_::_,hA=>simp[LRel] at hA
  .rename_i t cs pt p
   cases hc:(Nat.beq t 171&&Nat.beq pt 190) with
   | false=>rw[hc] at h;cases h
   | true=>
    rw[hc] at h
    simp only[Bool.and_eq_true,Nat.beq_eq] at hc
    obtain⟨rfl,rfl⟩:=hc
    simp only[cond_true] at h
    split at h
    .rename_i x y hx
     split at h
     .rename_i V hst
      cases h
      match L',hA with
      | [a',p'],hA=>
       have h1:=hA.head
       have h2:=hA.tail.head
       cases h1 with
       | iface _ h1=>
       cases h2 with
       | iface _ h2=>
       rename_i v' q'
       cases h1 with
       | agg hsz hel=>
        rename_i cs'
        have hcs:cs = #[x,y]:=by
         apply Array.ext'
         simpa using hx
        subst hcs
        obtain⟨l'⟩:=cs'
        match l',hsz,hel with
        | [x',y'],hsz,hel=>
         have hxx:bH m x x':=hel 0 x x' rfl rfl
         have hyy:bH m y y':=hel 1 y y' rfl rfl
         refine CallOK.of_store2 Tryz.func157 rfl hname hr hst h2 hxx hyy fun ta old old2 hp hone hone2 hct hfr hct2 hfr2=>?_
         subst hp
         have hgw:w.cell? ⟨0,0,none⟩=some handle:=by
          cases ho:W.heap[0]? with
          | none=>simp[World.cell?,ho] at hg
          | some o=>
           have:=(hr.pin 0 o (hpin o ho)).1
           rw[<-hg]
           simp[World.cell?,ho,this]
         have hlt:∀(w:World) (o:Obj) (j:Nat),j<w.heap.size->(w.alloc o).heap[j]? = w.heap[j]?:=fun w o j hj=>by
          show (w.heap.push o)[j]? = _
          exact(Array.getElem?_push_lt hj).trans (Array.getElem?_eq_getElem hj).symm
         have hs:∀(w:World) (o:Obj),(w.alloc o).heap.size=w.heap.size+1:=fun w o=>by
          show (w.heap.push o).size=_
          simp
         have hhit:=Auu x' y' ta old old2 w hone hone2 hgw hct hfr hct2 hfr2
         refine⟨_,?_,?_,?_,?_,?_,hhit⟩
         .intro j hj
          rw[hlt _ _ j (by rw[hs,hs,hs];omega),hlt _ _ j (by rw[hs,hs];omega),hlt _ _ j (by rw[hs];omega),hlt _ _ j hj]
         .rw[hs,hs,hs,hs]
          omega
         .rfl
         .rfl
         .rfl
        | [],hsz,hel=>simp at hsz
        | [_],hsz,hel=>simp at hsz
        | _::_::_::_,hsz,hel=>simp at hsz
      | [],hA=>simp[LRel] at hA
      | [_],hA=>simp[LRel] at hA
      | _::_::_::_,hA=>simp[LRel] at hA
     .cases h
    .cases h
  .cases h
end Go.Proofs.YtknnbjmcfibpgaaGreatDoor
namespace Go.Proofs.YtknnbjmcfibpgaaGreatDoor
open Go Go.Eng
attribute [local congr] Aa Af Ae Ab Ad
attribute [-go_sem] List.range_succ
def top(n:Nat):Env where
 call:=fun f args u Z=>match u with
  | none=>bif Nat.beq f 7&&args.isEmpty then .ret (.bool true) none Z else (env n).call f args none Z
  | some md=>(env n).call f args (some md) Z
 round:=fun l args Z=>(env n).round l args Z
theorem C9(n:Nat)(f:FuncId)(args:List Value)(Z:aC)(h:Nat.beq f 7=false):(top n).call f args none Z=(env n).call f args none Z:=by
 show (bif Nat.beq f 7&&args.isEmpty then CRes.ret (.bool true) none Z else (env n).call f args none Z)=_
 rw[h]
 rfl
theorem Gt(n:Nat)(Z:aC):(top n).call 7 [] none Z=.ret (.bool true) none Z:=rfl
theorem NI:Tryz.prog.follows .mixedOrders=true:=by kernel_rfl
theorem Am8:(Tryz.prog.funcs.toList.all fun fn=>!(fn.name == "runtime.NumGoroutine"))=true:=by kernel_rfl
theorem JM(f:FuncId)(fn:Func)(h:Tryz.prog.funcs[f]? = some fn):(fn.name == "runtime.NumGoroutine")=false:=by
 have:=List.all_eq_true.1 Am8 fn (by
  rw[Array.mem_toList_iff]
  exact Array.mem_of_getElem? h)
 simpa using this
abbrev varPins(W:World):Pins:=⟨fun k o=>k=0/\W.heap[k]? = some o⟩
theorem Ac5[Pins]:SumOK Tryz.prog nosums:=fun _ _ _ _ _ _ _ h=>by cases h
theorem Xu(W:World):Calls Tryz.prog 7 #[] W fun e W'=>e=.returned (.bool true)/\W'.os=W.os/\W'.output=W.output/\W'.tape=W.tape/\W.heap.size<=W'.heap.size/\∀i,i<W.heap.size->W'.heap[i]? = W.heap[i]?:=
 Aet NI JM Tryz.func7 rfl W (@Ac5 (pinsOf W)) Xv
theorem AwG(n:Nat)(W0:World)(hg:W0.cell? ⟨0,0,none⟩=some handle):@EnvOK (varPins W0) Tryz.prog (top n):=by
 letI:=varPins W0
 have h:EnvOK Tryz.prog (env n):=Abf (Am7 W0 (fun o h=>⟨rfl,h⟩) hg) NI JM nls n
 refine⟨fun f args u Z m w args' hr hA hu=>?_,fun l args Z m w args' e hr hA hm=>h.round l args Z m w args' e hr hA hm⟩
 cases u with
 | some md=>exact h.call f args (some md) Z m w args' hr hA hu
 | none=>
  by_cases hf:(Nat.beq f 7&&args.isEmpty)=true
  .rw[Bool.and_eq_true,Nat.beq_eq,List.isEmpty_iff] at hf
   obtain⟨rfl,rfl⟩:=hf
   obtain⟨L'⟩:=args'
   have hl:L'=[]:=by
    have:=hA.1
    exact List.length_eq_zero_iff.1 this.symm
   subst hl
   show CallOK Tryz.prog m Z w 7 #[] none (.ret (.bool true) none Z)
   refine .inr ⟨El Tryz.func7 rfl (JM _ _ Tryz.func7),fun cs hu=>?_⟩
   obtain⟨e,w',fr,⟨rfl,ho,hout,ht,hsz,hk⟩,hc,hfn,hl⟩:=Xu w cs
   exact⟨m,w',.bool true,fr,cs,hr.moreWorld hk hsz,(Step.refl Z m w).moreWorld hk hsz ho ht hout,.bool true,hu,.refl _ _,StepsIn.of_steps hc,hfn,hl.2.2.1,⟨hl.1,hl.2.1,hl.2.2.2⟩⟩
  .have e:(top n).call f args none Z=(env n).call f args none Z:=by
    show (bif Nat.beq f 7&&args.isEmpty then CRes.ret (.bool true) none Z else (env n).call f args none Z)=_
    rw[Bool.not_eq_true] at hf
    rw[hf]
    rfl
   rw[e]
   exact h.call f args none Z m w args' hr hA hu
theorem Ae2[Pins]{P:Program}{E:Env}(hE:EnvOK P E)(hm:P.follows .mixedOrders=true)(hname:∀(f:FuncId) (fn:Func),P.funcs[f]? = some fn->(fn.name == "runtime.NumGoroutine")=false)(nls:Hints){f:FuncId}{fn:Func}{body:Code}(hf:P.funcs[f]? = some fn)(hb:fn.body=some body)(Z:aC)(m:Mp)(W:World)(args:List Value)(args':Array Value)(hr:Rel Top m Z W)(hA:LRel m args args'.toList)(hro:∀b e,m b=some e->e.ro=true)(h:∃V,bD P nls E f args none Z=.ret (.bool true) none V):
  Calls P f args' W fun e W'=>e=.returned (.bool true)/\W'.os=W.os/\W'.output=W.output/\W'.tape=W.tape/\W.heap.size<=W'.heap.size/\∀i,i<W.heap.size->W'.heap[i]? = W.heap[i]?:=by
 obtain⟨V,h⟩:=h
 have hc:=Aa6 hE (Aba hm hE) hname nls f args none Z m W args' hr hA
 generalize bD P nls E f args none Z=r at h hc
 subst h
 rcases hc with⟨_,_,_,v',hval,_⟩|⟨_,hgo⟩
 .have hent:=El (P:=P) (w:=W) (args:=args') hf hb (hname f fn hf)
  rw[hent] at hval
  cases hval
 .intro cs
  obtain⟨m',w',v',fr,cs',hR,hS',hV,_,hun,hst,hfn,hk,hgoing⟩:=hgo cs rfl
  have hcs:cs'=cs:=by
   rcases hun with h|⟨h,_⟩
   .exact h
   .cases h
  subst hcs
  have hv':=hV.flat rfl
  subst hv'
  exact⟨.returned (.bool true),w',fr,⟨rfl,hS'.os,hS'.output,hS'.tape,hS'.size,fun i hi=>hS'.keep i hi fun b e ent hb hre=>by rw[hro b e hb] at hre;cases hre⟩,hst.steps,hfn,D9 hk hgoing⟩
theorem AcY{f:FuncId}{fn:Func}{body:Code}(hf:Tryz.prog.funcs[f]? = some fn)(hb:fn.body=some body)(n:Nat)(Z:aC)(m:Mp)(W:World)(args:List Value)(args':Array Value)(hg:W.cell? ⟨0,0,none⟩=some handle)(hr:@Rel (varPins W) Top m Z W)(hA:LRel m args args'.toList)(hro:∀b e,m b=some e->e.ro=true)(h:∃V,bD Tryz.prog nls (top n) f args none Z=.ret (.bool true) none V):
  Calls Tryz.prog f args' W fun e W'=>e=.returned (.bool true)/\W'.os=W.os/\W'.output=W.output/\W'.tape=W.tape/\W.heap.size<=W'.heap.size/\∀i,i<W.heap.size->W'.heap[i]? = W.heap[i]?:=
 @Ae2 (varPins W) Tryz.prog (top n) (AwG n W hg) NI JM nls f fn body hf hb Z m W args args' hr hA hro h
def numbers(zs:List Int):aC:=⟨Tr.set .lf 0 ⟨.cells (zs.map fun z=>Value.int .i64 z) TI,true,none,0⟩,1,1⟩
end Go.Proofs.YtknnbjmcfibpgaaGreatDoor
namespace Go.Proofs.YtknnbjmcfibpgaaGreatDoor
open Go Go.Eng
attribute [local congr] Aa Af Ae Ab Ad
attribute [-go_sem] List.range_succ
structure Stays (Q:Nat->Value->aC->Prop):Prop where
 keep:∀base base' v Z V,Q base v Z->Wf Z->base'<=base->(∀b,base<=b->b<Z.next->V.heap.get b=Z.heap.get b)->Q base' v V
def ResP(x:D)(l:List (List Nat×D))(base:Nat)(w:Value)(Z:aC):Prop:=∃us,Vecs 25 (fun b=>base<=b) Z w us/\PathsL (fun b=>base<=b) Z us (foundIn x l)
mutual
theorem Ac9:∀(d:D) (p:List Nat) (y:List Nat×D),y∈d.pieces p->y.2.deep<=d.deep/\y.2.count<=d.count
 | .mk k z t ds,p,y,h=>by
  rw[D.pieces] at h
  rcases List.mem_cons.1 h with rfl|h
  .exact⟨Nat.le_refl _,Nat.le_refl _⟩
  .have:=Mt ds p 0 y h
   rw[D.deep,D.count]
   omega
theorem Mt:∀(ds:List D) (p:List Nat) (i:Nat) (y:List Nat×D),y∈D.piecesL p i ds->y.2.deep<=D.deeps ds/\y.2.count<=D.counts ds
 | [],p,i,y,h=>by simp[D.piecesL] at h
 | d::ds,p,i,y,h=>by
  rw[D.piecesL,List.mem_append] at h
  rw[D.deeps,D.counts]
  rcases h with h|h
  .have:=Ac9 d _ y h;omega
  .have:=Mt ds _ _ y h;omega
end
end Go.Proofs.YtknnbjmcfibpgaaGreatDoor
namespace Go.Proofs.YtknnbjmcfibpgaaGreatDoor
open Go Go.Eng
attribute [local congr] Aa Af Ae Ab Ad
attribute [-go_sem] List.range_succ
theorem AfC:bE nls 122=[14,15,28]:=by kernel_rfl
theorem Qp(e:TypeId)(bytes:Nat)(z:List Value)(n:Nat)(Z:aC)(h:n*(bytes+1)<=1000000000):fmakeSlice e bytes z (.int .i64 (.ofNat n)) (.int .i64 (.ofNat n)) Z=.val (.slice (some ⟨Z.next,0,none⟩) n n) (Z.push (.cells (reps n z) e) none):=by
 show cond (Nat.ble n n&&Nat.ble (n*(bytes+1)) 1000000000) _ _=_
 rw[show Nat.ble n n=true by rw[Nat.ble_eq];exact Nat.le_refl _,show Nat.ble (n*(bytes+1)) 1000000000=true by rw[Nat.ble_eq];exact h]
 rfl
theorem F4(n:Nat)(z:List Value):(reps n z).length=n*z.length:=by
 induction n with
 | zero=>simp[PH]
 | succ n ih=>rw[PG,List.length_append,ih,Nat.succ_mul];omega
def CopyAt(m:Nat)(d:D):Prop:=∀(lv:List Value) (R:Nat->Prop) (Z:aC),Wf Z->aL R Z (.agg lv.toArray) d->Gives ((env m).call 88 [.agg lv.toArray] none Z) Z fun w V=>aL (fun b=>Z.next<=b) V w d
structure HeadEa (bo base:Nat) (R:Nat->Prop) (q:Option Addr) (c:Nat) (ds:List D) (bU:aC) (i:Nat) (f g:Nat->Value) (Z:aC):Prop where
 f0:f 0=.slice q ds.length c
 f1:f 1=.func (.func 88) #[] #[]
 f5:f 5=.slice (some ⟨bo,0,none⟩) ds.length ds.length
 g14:g 14=.int .i64 (.ofNat ds.length)
 g15:g 15=.int .i64 (.ofNat i)
 cs:∃done rest ver,Z.heap.get bo=some ⟨.cells (done++rest) TD,false,none,ver⟩/\Row (fun b=>base<=b/\b≠bo) Z done (ds.take i)/\rest.length=(ds.length-i)*4
 hbo:base<=bo
 lay:aO R Z q 0 ds
 low:∀b,R b->b<base
 wf:Wf Z
 ext:Ext bU Z
 le:i<=ds.length
theorem AcC(m:Nat){bo base:Nat}{R:Nat->Prop}{q:Option Addr}{c:Nat}{ds:List D}{bU:aC}(hC:∀d∈ds,CopyAt m d)(hb0:bU.next=base)(hfew:ds.length<1000000):
  ∀(j fuel i:Nat) (f g:Nat->Value) (Z:aC),i+j=ds.length->j<fuel->HeadEa bo base R q c ds bU i f g Z->
  ∃f' g' V,floop [14,15,28] (Ql (env m) none 122) fuel (Sl 7 29 f g []) none Z=.done (.exit 0) (Sl 7 29 f' g' []) none V/\HeadEa bo base R q c ds bU ds.length f' g' V:=by
 intro j
 induction j with
 | zero=>
  intro fuel i f g Z hij hf h
  obtain⟨fuel,rfl⟩:∃q,fuel=q+1:=⟨fuel-1,by omega⟩
  obtain rfl:i=ds.length:=by omega
  have d1:decide (Int.ofNat ds.length<Int.ofNat ds.length)=false:=by simp
  rw[Ao,Bl]
  unfold Ql
  simp -implicitDefEqProofs only[go_sem,Pd,Lc,h.g14,h.g15,d1,List.mem_cons]
  refine⟨_,_,_,rfl,{ h with g14:=?_,g15:=?_ }⟩
  .simp -implicitDefEqProofs only[go_sem,reduceCtorEq,h.g14,List.mem_cons,true_or,or_true]
  .simp -implicitDefEqProofs only[go_sem,reduceCtorEq,h.g15,List.mem_cons,true_or,or_true]
 | succ j ih=>
  intro fuel i f g Z hij hf h
  obtain⟨fuel,rfl⟩:∃q,fuel=q+1:=⟨fuel-1,by omega⟩
  have hi:i<ds.length:=by omega
  have d1:decide (Int.ofNat i<Int.ofNat ds.length)=true:=by simp;omega
  have hd:ds[i]? = some ds[i]:=List.getElem?_eq_getElem hi
  obtain⟨b,off,cs,rfl,hRb,hcs,hle,hL⟩:=aO.get h.lay hd
  rw[Nat.zero_add] at hle hL
  obtain⟨done,rest,ver,hg,hr,hrl⟩:=h.cs
  obtain⟨w,a_,e1,x1,hw1,hL1⟩:=hC _ (List.getElem_mem hi) ((cs.drop (off+i*4)).take 4) R Z h.wf hL
  obtain⟨l4,rfl,hl4,hone⟩:=hL1.agg
  have hbn:=(h.wf _ _ hg).1
  have hg1:=(x1.get bo hbn).trans hg
  have hdl:done.length=i*4:=by rw[hr.1,List.length_take];omega
  have w1:=Ga i (by omega)
  have hr4:4<=rest.length:=by rw[hrl];omega
  have e4:((done++rest).take (i*4)++l4++(done++rest).drop (i*4+4))=(done++l4)++rest.drop 4:=by
   rw[<-hdl,List.take_left',List.drop_append]
   .simp[List.drop_eq_nil_of_le]
   .rfl
  have hlen:i*4+4<=(done++rest).length:=by rw[List.length_append,hdl];omega
  rw[Ao,Bl]
  unfold Ql
  simp -implicitDefEqProofs only[go_sem,Ar,Pd,Lc,Adh,QE,Adi,QF,Adj,QG,h.f0,h.f1,h.f5,h.g14,h.g15,d1,hi,hcs,hle,e1,hg1,hl4,hone,hlen,e4,w1,List.mem_cons]
  generalize hff:upd _ 6 _=f1
  generalize hgg:upd _ 15 _=g1
  have n1:=x1.next
  have hbase:base<=Z.next:=by have:=h.ext.next;omega
  have hbo:=h.hbo
  have kc:∀(o:FObj) b cs,a_.cells b=some cs->b≠bo->(a_.put bo o none).cells b=some cs:=fun o b cs hc hb=>by rw[Ak,if_neg hb];exact hc
  exact ih fuel (i+1) f1 g1 _ (by omega) (by omega) {
   f0:=by rw[<-hff];simp -implicitDefEqProofs only[go_sem,reduceCtorEq,h.f0]
   f1:=by rw[<-hff];simp -implicitDefEqProofs only[go_sem,reduceCtorEq,h.f1]
   f5:=by rw[<-hff];simp -implicitDefEqProofs only[go_sem,reduceCtorEq,h.f5]
   g14:=by rw[<-hgg];simp -implicitDefEqProofs only[go_sem,reduceCtorEq,h.g14,List.mem_cons,true_or,or_true]
   g15:=by rw[<-hgg];simp -implicitDefEqProofs only[go_sem,reduceCtorEq]
   cs:=⟨done++l4,rest.drop 4,_,by rw[Am,if_pos rfl],by
    rw[List.take_add_one,hd]
    exact(hr.keep fun b cs hb hc=>⟨kc _ b cs ((x1.cells (h.wf.cells hc)).trans hc) hb.2,hb⟩).snoc hl4 hone (hL1.keep fun b cs hb hc=>⟨kc _ b cs hc (by omega),by omega,by omega⟩),by rw[List.length_drop,hrl];omega⟩
   hbo:=h.hbo
   lay:=h.lay.keep fun b cs hb hc=>⟨kc _ b cs ((x1.cells (h.wf.cells hc)).trans hc) (by have:=h.low b hb;omega),hb⟩
   low:=h.low
   wf:=hw1.put _ _ _ (by omega)
   ext:=(h.ext.trans x1).put _ _ _ (by omega)
   le:=hi }
theorem OD(m:Nat)(ds:List D)(hC:∀d∈ds,CopyAt m d)(hfew:ds.length<1000000)(q:Option Addr)(c:Nat)(R:Nat->Prop)(Z:aC)(hw:Wf Z)(hE:aO R Z q 0 ds):
  Gives ((env (m+1)).call 122 [.slice q ds.length c,.func (.func 88) #[] #[]] none Z) Z fun w V=>∃q' c',w=.slice q' ds.length c'/\aO (fun b=>Z.next<=b) V q' 0 ds:=by
 rw[Al _ 122 _ _ rfl,Ae8 _ _ _ _ (by simp),Aj]
 unfold Aaz
 cases hz:(Int.ofNat ds.length==(0:Int)) with
 | true=>
  have h0:ds=[]:=by
   have:=Int.ofNat.inj (eq_of_beq hz)
   exact List.length_eq_zero_iff.1 this
  subst h0
  simp -implicitDefEqProofs only[go_sem,Pb,La,Pc,Lb,Ade,QB,hz]
  exact⟨_,_,rfl,Ext.refl _,hw,none,0,rfl,trivial⟩
 | false=>
  have hmk:=fun Z=>Qp 24 56 [.int .i64 0,.int .i64 0,.string ⟨#[]⟩,.slice none 0 0] ds.length Z (by omega)
  simp -implicitDefEqProofs only[go_sem,Pb,La,Pc,Lb,Adf,QC,Adg,QD,hz,hmk,AfC]
  generalize hff:upd _ 5 _=f1
  generalize hgg:upd _ 15 _=g1
  generalize hbf:bF=fuel
  obtain⟨f2,g2,a9,e2,h2⟩:=AcC m (bo:=Z.next) (base:=Z.next) (R:=fun b=>R b/\b<Z.next) (q:=q) (c:=c) (bU:=Z) hC rfl hfew ds.length fuel 0 f1 g1 (Z.push (.cells (reps ds.length [.int .i64 0,.int .i64 0,.string ⟨#[]⟩,.slice none 0 0]) TD) none) (by omega) (by rw[<-hbf];show ds.length<1000000000000;omega) {
   f0:=by rw[<-hff];simp -implicitDefEqProofs only[go_sem,reduceCtorEq]
   f1:=by rw[<-hff];simp -implicitDefEqProofs only[go_sem,reduceCtorEq]
   f5:=by rw[<-hff];simp -implicitDefEqProofs only[go_sem,reduceCtorEq]
   g14:=by rw[<-hgg];simp -implicitDefEqProofs only[go_sem,reduceCtorEq]
   g15:=by rw[<-hgg];simp -implicitDefEqProofs only[go_sem,reduceCtorEq]<;>rfl
   cs:=⟨[],reps ds.length [.int .i64 0,.int .i64 0,.string ⟨#[]⟩,.slice none 0 0],Z.clock,by rw[Ai,if_pos rfl];rfl,Row.nil _ _,by rw[F4];rfl⟩
   hbo:=Nat.le_refl _
   lay:=hE.keep fun b cs hb hc=>⟨by rw[Ah,if_neg (by have:=hw.cells hc;omega)];exact hc,hb,hw.cells hc⟩
   low:=fun b hb=>hb.2
   wf:=hw.push _ _
   ext:=(Ext.refl _).push _ _
   le:=Nat.zero_le _ }
  rw[e2]
  simp -implicitDefEqProofs only[go_sem,Adk,QH,h2.f5]
  obtain⟨done,rest,ver,hg,hr,hrl⟩:=h2.cs
  rw[List.take_length] at hr
  have hrest:rest=[]:=List.length_eq_zero_iff.1 (by rw[hrl];omega)
  subst hrest
  rw[List.append_nil] at hg
  exact⟨_,_,rfl,h2.ext,h2.wf,_,_,rfl,hr.elems (Aq hg) (Nat.le_refl _) (fun c hc=>hc.1) 0 ds fun j e he=>by rwa [Nat.zero_add]⟩
theorem AcB(m:Nat)(k z:Int)(t:ByteArray)(ds:List D)(hC:∀d∈ds,CopyAt m d)(hfew:ds.length<1000000):CopyAt (m+2) (.mk k z t ds):=by
 intro lv R Z hw hL
 obtain⟨q,c,hv,hE⟩:=hL
 have hlv:lv=[.int .i64 k,.int .i64 z,.string t,.slice q ds.length c]:=by
  have:=Value.agg.inj hv
  simpa using congrArg Array.toList this
 subst hlv
 rw[Al _ 88 _ _ rfl,AoJ _ _ _ _ (by simp),Aj]
 unfold AmV
 have x1:Ext Z ((Z.push (.cells [.int .i64 k,.int .i64 z,.string t,.slice q ds.length c] TD) none).push (.cells [.int .i64 0,.int .i64 0,.string ⟨#[]⟩,.slice none 0 0] TD) none):=((Ext.refl _).push _ _).push _ _
 have hw1:=(hw.push (.cells [.int .i64 k,.int .i64 z,.string t,.slice q ds.length c] TD) none).push (.cells [.int .i64 0,.int .i64 0,.string ⟨#[]⟩,.slice none 0 0] TD) none
 have c1:((Z.push (.cells [.int .i64 k,.int .i64 z,.string t,.slice q ds.length c] TD) none).push (.cells [.int .i64 0,.int .i64 0,.string ⟨#[]⟩,.slice none 0 0] TD) none).cells Z.next=some [.int .i64 k,.int .i64 z,.string t,.slice q ds.length c]:=by rw[Ah,if_neg (by rw[Ac];omega),Ah,if_pos rfl];rfl
 have g2:((Z.push (.cells [.int .i64 k,.int .i64 z,.string t,.slice q ds.length c] TD) none).push (.cells [.int .i64 0,.int .i64 0,.string ⟨#[]⟩,.slice none 0 0] TD) none).heap.get (Z.next+1)=some ⟨.cells [.int .i64 0,.int .i64 0,.string ⟨#[]⟩,.slice none 0 0] TD,false,none,Z.clock+1⟩:=by rw[Ai,if_pos (by rw[Ac])];rfl
 have kc:((Z.push (.cells [.int .i64 k,.int .i64 z,.string t,.slice q ds.length c] TD) none).push (.cells [.int .i64 0,.int .i64 0,.string ⟨#[]⟩,.slice none 0 0] TD) none).clock=Z.clock+2:=rfl
 have kn:((Z.push (.cells [.int .i64 k,.int .i64 z,.string t,.slice q ds.length c] TD) none).push (.cells [.int .i64 0,.int .i64 0,.string ⟨#[]⟩,.slice none 0 0] TD) none).next=Z.next+2:=rfl
 simp -implicitDefEqProofs only[go_sem,AlD,ZZ]
 generalize aC.push (aC.push Z _ _) _ _=a_ at x1 hw1 c1 g2 kc kn ⊢
 have hv1:=Dw hw1 (lam:=Z.clock+2) (by omega)
 obtain⟨_,a9,e2,x2,hw2,q',c',rfl,hE'⟩:=OD m ds hC hfew q c R a_ hw1 (hE.keep fun b cs hb hc=>⟨(x1.cells (hw.cells hc)).trans hc,hb⟩)
 have c2:(view a9 (Z.clock+2)).cells Z.next=some [.int .i64 k,.int .i64 z,.string t,.slice q ds.length c]:=JP hw1 (by omega) (x2.get _ (hw1.cells c1)) c1
 have g2':=(x2.get _ (hw1 _ _ g2).1).trans g2
 simp -implicitDefEqProofs only[go_sem,Ar,AlE,Z0,hv1,c1,e2,c2,g2',AB,Av,Au,AH,Bg]
 have n2:=x2.next
 exact⟨_,_,rfl,(x1.trans x2).put _ _ _ (by omega),hw2.put _ _ _ (by omega),q',c',rfl,hE'.keep fun b cs hb hc=>⟨by rw[Ak,if_neg (by omega)];exact hc,by omega⟩⟩
theorem Hx(n:Nat):∀(N:Nat) (d:D),D.deep d<=N->d.count<1000000->CopyAt (n+2*N) d
 | 0,d,h,_=>by cases d;rw[D.deep] at h;omega
 | N+1,.mk k z t ds,h,hc=>by
  rw[D.deep] at h
  rw[D.count] at hc
  have:=E1 ds
  exact AcB (n+2*N) k z t ds (fun d hd=>Hx n N d (by have:=Ft hd;omega) (by have:=Fs hd;omega)) (by omega)
end Go.Proofs.YtknnbjmcfibpgaaGreatDoor
namespace Go.Proofs.YtknnbjmcfibpgaaGreatDoor
open Go Go.Eng
attribute [local congr] Aa Af Ae Ab Ad
attribute [-go_sem] List.range_succ
theorem AcV:bE nls 94=[7,8,9,32]:=by kernel_rfl
theorem Avt{cs:List Value}{off:Nat}{a b c e:Value}(h:(cs.drop off).take 4=[a,b,c,e]):cs[off+3]? = some e:=by
 have:((cs.drop off).take 4)[3]? = some e:=by rw[h];rfl
 rw[List.getElem?_take,if_pos (by omega),List.getElem?_drop] at this
 exact this
structure HeadPl (a:Option Addr) (plen cx i b off:Nat) (f g:Nat->Value):Prop where
 f0:f 0=.pointer (some ⟨b,off,none⟩)
 g7:g 7=.slice a plen cx
 g8:g 8=.int .i64 (.ofNat plen)
 g9:g 9=.int .i64 (.ofNat i)
theorem XB(E:Env){a:Option Addr}{cx:Nat}{path:List Nat}{R:Nat->Prop}{Z:aC}(hs:path.length<100000)(x:D)(hp:path≠[]->∃b rest,a=some ⟨b,0,none⟩/\Z.cells b=some (intsOf path++rest)):
  ∀(j fuel i:Nat) (f g:Nat->Value) (d:D) (b off:Nat) (cs:List Value),i+j=path.length->j<fuel->atP (path.drop i) d=some x->d.count<100000->Z.cells b=some cs->4<=cs.length-off->aL R Z (.agg ((cs.drop off).take 4).toArray) d->HeadPl a path.length cx i b off f g->
  ∃f' g' b off cs,floop [7,8,9,32] (Abq E none 94) fuel (Sl 7 33 f g []) none Z=.done (.exit 0) (Sl 7 33 f' g' []) none Z/\f' 0=.pointer (some ⟨b,off,none⟩)/\Z.cells b=some cs/\4<=cs.length-off/\aL R Z (.agg ((cs.drop off).take 4).toArray) x:=by
 intro j
 induction j with
 | zero=>
  intro fuel i f g d b off cs hij hf hx _ hc hle hL h
  obtain⟨fuel,rfl⟩:∃q,fuel=q+1:=⟨fuel-1,by omega⟩
  obtain rfl:i=path.length:=by omega
  rw[List.drop_length,atP] at hx
  obtain rfl:=Option.some.inj hx
  have d1:decide (Int.ofNat path.length<Int.ofNat path.length)=false:=by simp
  rw[Ao,Bl]
  unfold Abq
  simp -implicitDefEqProofs only[go_sem,Wp,S5,h.g8,h.g9,d1,List.mem_cons]
  exact⟨_,_,b,off,cs,rfl,h.f0,hc,hle,hL⟩
 | succ j ih=>
  intro fuel i f g d b off cs hij hf hx hN hc hle hL h
  obtain⟨fuel,rfl⟩:∃q,fuel=q+1:=⟨fuel-1,by omega⟩
  have hi:i<path.length:=by omega
  have d1:decide (Int.ofNat i<Int.ofNat path.length)=true:=by simp;omega
  obtain⟨bp,rest,rfl,hcp⟩:=hp (fun h=>by rw[h] at hi;simp at hi)
  have g1:=Xg rest hi
  have w3:=Ga i (by omega)
  have hdr:path.drop i=path[i]::path.drop (i+1):=List.drop_eq_getElem_cons hi
  obtain⟨k,z,t,ds⟩:=d
  obtain⟨q,c,hv,hE⟩:=hL
  have hv':(cs.drop off).take 4=[.int .i64 k,.int .i64 z,.string t,.slice q ds.length c]:=by
   have:=Value.agg.inj hv
   simpa using congrArg Array.toList this
  have hf3:=Avt hv'
  rw[hdr,atP] at hx
  simp only[D.parts] at hx
  cases hd:ds[path[i]]? with
  | none=>rw[hd] at hx;cases hx
  | some d'=>
   rw[hd] at hx
   simp only at hx
   have hpi:=(List.getElem?_eq_some_iff.1 hd).1
   obtain⟨b',off',cs',rfl,hRb,hcs',hle',hL'⟩:=aO.get hE hd
   rw[Nat.zero_add] at hle' hL'
   have e0:decide (Int.ofNat path[i]<0)=false:=by simp
   have e1:decide (Int.ofNat path[i]≥Int.ofNat ds.length)=false:=by simp;omega
   rw[Ao,Bl]
   unfold Abq
   simp -implicitDefEqProofs only[go_sem,Wp,S5,Al9,Aak,Ama,Aal,Amb,Aam,Amc,Aan,h.f0,h.g7,h.g8,h.g9,d1,hi,hcp,g1,hc,hf3,e0,e1,hpi,w3,List.mem_cons]
   generalize hff:upd _ 0 _=f1
   generalize hgg:upd _ 9 _=gg
   exact ih fuel (i+1) f1 gg d' b' (off'+path[i]*4) cs' (by omega) (by omega) hx (by have:=Fs (List.mem_of_getElem? hd);rw[D.count] at hN;omega) hcs' (by omega) hL' {
    f0:=by rw[<-hff];simp -implicitDefEqProofs only[go_sem,reduceCtorEq]
    g7:=by rw[<-hgg];simp -implicitDefEqProofs only[go_sem,reduceCtorEq,h.g7,List.mem_cons,true_or,or_true]
    g8:=by rw[<-hgg];simp -implicitDefEqProofs only[go_sem,reduceCtorEq,h.g8,List.mem_cons,true_or,or_true]
    g9:=by rw[<-hgg];simp -implicitDefEqProofs only[go_sem,reduceCtorEq] }
theorem AfU(n:Nat){path:List Nat}{pv:Value}{R Q:Nat->Prop}{Z:aC}(hs:path.length<100000){d x:D}(hP:PathV Q Z pv path){b off:Nat}{cs:List Value}(hx:atP path d=some x)(hN:d.count<100000)(hc:Z.cells b=some cs)(hle:4<=cs.length-off)(hL:aL R Z (.agg ((cs.drop off).take 4).toArray) d):
  ∃b' off' cs',(env (n+1)).call 94 [.pointer (some ⟨b,off,none⟩),pv] none Z=.ret (.pointer (some ⟨b',off',none⟩)) none Z/\Z.cells b'=some cs'/\4<=cs'.length-off'/\aL R Z (.agg ((cs'.drop off').take 4).toArray) x:=by
 obtain⟨a,cx,rfl,k1⟩:=U4 hP
 rw[Al _ 94 _ _ rfl,AoP _ _ _ _ (by simp),Aj]
 unfold Am1
 simp -implicitDefEqProofs only[go_sem,Al7,Aai,Al8,Aaj,AcV]
 generalize hff:upd _ 4 _=f1
 generalize hgg:upd _ 9 _=g1
 generalize hbf:bF=fuel
 obtain⟨f2,g2,b',off',cs',e2,h1,h2,h3,h4⟩:=XB (env n) (a:=a) (cx:=cx) (Z:=Z) hs x (fun h=>by obtain⟨b,r,x,_,y⟩:=k1 h;exact⟨b,r,x,y⟩) path.length fuel 0 f1 g1 d b off cs (by omega) (by rw[<-hbf];show path.length<1000000000000;omega) hx hN hc hle hL {
  f0:=by rw[<-hff];simp -implicitDefEqProofs only[go_sem,reduceCtorEq]
  g7:=by rw[<-hgg];simp -implicitDefEqProofs only[go_sem,reduceCtorEq]
  g8:=by rw[<-hgg];simp -implicitDefEqProofs only[go_sem,reduceCtorEq]
  g9:=by rw[<-hgg];simp -implicitDefEqProofs only[go_sem,reduceCtorEq]<;>rfl }
 rw[e2]
 simp -implicitDefEqProofs only[go_sem,Amd,Aao,h1]
 exact⟨_,_,_,rfl,h2,h3,h4⟩
theorem TV(n:Nat)(p q:Value)(Z:aC):(env (n+1)).call 150 [p,q] (some .returning) Z=.ret (.tuple #[]) (some .returning) Z:=by
 rw[Hz,Ub _ _ _ _ (by simp),Aj]
 unfold Tg
 simp -implicitDefEqProofs only[go_sem,Pr,Lr,Ps,Ls,AdK,Q7,AfQ]
theorem Anv(n w:Nat)(cap:Array Value)(x:D)(Z:aC)(hw:Wf Z)(h:∀V,Ext Z V->Wf V->Gives ((env (n+1)).call w cap.toList none V) V fun v cA=>aL (fun b=>V.next<=b) cA v x):
  Gives ((env (n+2)).call 125 [.func (.func w) #[] cap] none Z) Z fun v V=>∃u,v=.tuple #[u,.int .i64 0,.int .i64 0]/\aL (fun b=>Z.next<=b) V u x:=by
 rw[Al _ 125 _ _ rfl,T_ _ _ _ _ (by simp),Aj]
 unfold Te
 have hX1:Ext Z (((Z.push (.cells [.int .i64 0,.int .i64 0,.string ⟨#[]⟩,.slice none 0 0] TD) none).push (.cells [.int .i64 0] 3) none).push (.cells [.int .i64 0] 32) none):=(((Ext.refl _).push _ _).push _ _).push _ _
 have hw1:=((hw.push (.cells [.int .i64 0,.int .i64 0,.string ⟨#[]⟩,.slice none 0 0] TD) none).push (.cells [.int .i64 0] 3) none).push (.cells [.int .i64 0] 32) none
 obtain⟨_,a9,e2,hX2,hw2,hq⟩:=h _ hX1 hw1
 obtain⟨k,z,t,ds⟩:=x
 obtain⟨q,c,rfl,hE⟩:=hq
 have g0:a9.heap.get Z.next=_:=(hX2.get Z.next (by simp only[Ac];omega)).trans (by simp -implicitDefEqProofs only[Ai,Ac,Nat.add_assoc,Nat.reduceAdd,Nat.left_eq_add,reduceCtorEq,↓reduceIte,Nat.reduceEqDiff]<;>rfl)
 have g1:a9.heap.get (Z.next+1)=_:=(hX2.get (Z.next+1) (by simp only[Ac];omega)).trans (by simp -implicitDefEqProofs only[Ai,Ac,Nat.add_assoc,Nat.reduceAdd,Nat.add_left_cancel_iff,reduceCtorEq,↓reduceIte,Nat.reduceEqDiff]<;>rfl)
 have g2:a9.heap.get (Z.next+2)=_:=(hX2.get (Z.next+2) (by simp only[Ac];omega)).trans (by simp -implicitDefEqProofs only[Ai,Ac,Nat.add_assoc,Nat.reduceAdd,Nat.add_left_cancel_iff,reduceCtorEq,↓reduceIte,Nat.reduceEqDiff]<;>rfl)
 simp -implicitDefEqProofs only[go_sem,Ar,Pf,Le,Pg,Lf,Ph,Lg,e2,g0,g1,g2,Bg,PO,IQ,TV,AB,Av,Au,AH]
 have m0:=(hw2 _ _ g0).1
 have m1:=(hw2 _ _ g1).1
 have m2:=(hw2 _ _ g2).1
 exact⟨_,_,rfl,(((hX1.trans hX2).put _ _ _ (Nat.le_refl _)).put _ _ _ (Nat.le_add_right _ _)).put _ _ _ (Nat.le_add_right _ _),((hw2.put _ _ _ m0).put _ _ _ m1).put _ _ _ m2,_,rfl,q,c,rfl,hE.keep fun b cs hb hc=>by
  simp only[Ac] at hb
  exact⟨by rw[Ak,if_neg (by omega),Ak,if_neg (by omega),Ak,if_neg (by omega)];exact hc,by omega⟩⟩
theorem Ae1(n w:Nat)(cap:Array Value)(x:D)(Z:aC)(hw:Wf Z)(h:∀V,Ext Z V->Wf V->Gives ((env (n+1)).call w cap.toList none V) V fun v cA=>aL (fun b=>V.next<=b) cA v x):
  Gives ((env (n+3)).call 82 [.func (.func w) #[] cap] none Z) Z fun v V=>∃u,v=.tuple #[u,.int .i64 0]/\aL (fun b=>Z.next<=b) V u x:=by
 rw[Al _ 82 _ _ rfl,Abe _ _ _ _ (by simp),Aj]
 unfold Acc
 have hX1:Ext Z (Z.push (.cells [.int .i64 0,.int .i64 0,.string ⟨#[]⟩,.slice none 0 0] TD) none):=(Ext.refl _).push _ _
 obtain⟨_,a9,e2,hX2,hw2,u,rfl,hq⟩:=Anv n w cap x _ (hw.push (.cells [.int .i64 0,.int .i64 0,.string ⟨#[]⟩,.slice none 0 0] TD) none) fun V hx hw'=>h V (hX1.trans hx) hw'
 obtain⟨k,z,t,ds⟩:=x
 obtain⟨q,c,rfl,hE⟩:=hq
 have g0:a9.heap.get Z.next=_:=(hX2.get Z.next (Nat.lt_succ_self _)).trans (by rw[Ai,if_pos rfl])
 have m0:=(hw2 _ _ g0).1
 have hne:(Z.next=a9.next)=False:=by simp;omega
 have hne':(a9.next=Z.next)=False:=by simp;omega
 simp -implicitDefEqProofs only[go_sem,Ar,V3,SI,V4,SJ,V5,SK,e2,g0,Bg,AB,Av,Au,AH,AU,hne,hne']
 exact⟨_,_,rfl,(((hX1.trans hX2).push _ _).put _ _ _ (by have:=(hX1.trans hX2).next;omega)).put _ _ _ (Nat.le_refl _),((hw2.push _ _).put _ _ _ (Nat.lt_succ_self _)).put _ _ _ (by rw[Aw,Ac];omega),_,rfl,q,c,rfl,hE.keep fun b cs hb hc=>by
  have:=hw2.cells hc
  simp only[Ac] at hb
  exact⟨by rw[Ak,if_neg (by omega),Ak,if_neg (by omega),Ah,if_neg (by omega)];exact hc,by omega⟩⟩
theorem at1(M n:Nat)(hM:M=n+14)(bd bp:Nat)(L:Nat)(hL6:L<=6)(d x:D)(hF:Fine M L d)(lv:List Value)(h4:lv.length=4)(R Q:Nat->Prop)(path:List Nat)(pv:Value)(hs:path.length<100000)(hx:atP path d=some x)(hxd:x.deep<=7)(hxc:x.count<100000)(Z:aC)(hw:Wf Z)(hb1:Z.cells bd=some lv)(hb2:Z.cells bp=some [pv])(hL:aL R Z (.agg lv.toArray) d)(hP:PathV Q Z pv path)(hR:∀b,R b->b<Z.next):
  Gives ((env (M+6)).call 93 [.pointer (some ⟨bd,0,none⟩),.pointer (some ⟨bp,0,none⟩)] none Z) Z fun v V=>aL (fun b=>Z.next<=b) V v x:=by
 have hf:=hF.few hL6
 rw[Al _ 93 _ _ rfl,AoO _ _ _ _ (by simp),Aj]
 unfold Am0
 have x0:Ext Z (Z.push (.cells [.int .i64 0,.int .i64 0,.string ⟨#[]⟩,.slice none 0 0] TD) none):=(Ext.refl _).push _ _
 have hw0:=hw.push (.cells [.int .i64 0,.int .i64 0,.string ⟨#[]⟩,.slice none 0 0] TD) none
 have ne1:(bd=Z.next)=False:=by have:=hw.cells hb1;simp;omega
 have ne2:(bp=Z.next)=False:=by have:=hw.cells hb2;simp;omega
 obtain⟨_,a_,e1,x1,hw1,rfl⟩:=WI M d lv h4 R _ hw0 (hL.keep fun b cs hb hc=>⟨(x0.cells (hw.cells hc)).trans hc,hb⟩) (fun b hb=>by have:=hR b hb;rw[Ac];omega) (hF.small hL6) (by omega) hF.good
 have x01:=x0.trans x1
 have c1:=(x01.cells (hw.cells hb1)).trans hb1
 have c2:=(x01.cells (hw.cells hb2)).trans hb2
 have ht:lv.take 4=lv:=List.take_of_length_le (by omega)
 have hL1:aL R a_ (.agg ((lv.drop 0).take 4).toArray) d:=by
  rw[List.drop_zero,ht]
  exact hL.keep fun b cs hb hc=>⟨(x01.cells (hw.cells hc)).trans hc,hb⟩
 obtain⟨b',off',cs',e2,hc',hle',hL'⟩:=AfU (M+4) (Q:=fun _=>True) (Z:=a_) hs (hP.keep fun b cs _ hc=>⟨(x01.cells (hw.cells hc)).trans hc,trivial⟩) hx (by rw[<-Ed d []];omega) c1 (by omega) hL1
 have hcp:=Hx (n+5) 7 x hxd (by omega)
 rw[show n+5+2*7=M+5 by omega] at hcp
 obtain⟨_,a9,e3,x2,hw2,hq⟩:=hcp ((cs'.drop off').take 4) R a_ hw1 hL'
 obtain⟨k,z,t,ds⟩:=x
 obtain⟨q,c,rfl,hE⟩:=hq
 have g0:a9.heap.get Z.next=_:=((x1.trans x2).get Z.next (Nat.lt_succ_self _)).trans (by rw[Ai,if_pos rfl])
 have m0:=(hw2 _ _ g0).1
 simp -implicitDefEqProofs only[go_sem,Ar,Al4,Aaf,Al5,Aag,Al6,Aah,hb1,hb2,ne1,ne2,c1,c2,h4,ht,e1,e2,e3,hc',hle',g0,Bg,AB,Av,Au,AH,Nat.le_refl]
 have n1:=x1.next
 rw[Ac] at n1
 exact⟨_,_,rfl,(x01.trans x2).put _ _ _ (Nat.le_refl _),hw2.put _ _ _ m0,q,c,rfl,hE.keep fun b cs hb hc=>⟨by rw[Ak,if_neg (by omega)];exact hc,by omega⟩⟩
end Go.Proofs.YtknnbjmcfibpgaaGreatDoor
namespace Go.Proofs.YtknnbjmcfibpgaaGreatDoor
open Go Go.Eng
def nilD:D:=.mk 0 0 ⟨#[]⟩ []
def pairD(a b:D):D:=.mk 5 0 ⟨#[]⟩ [a,b]
def bS(t:D):List D->D
 | []=>t
 | d::ds=>pairD d (bS t ds)
theorem Ec(t:D):∀ds:List D,(bS t ds).count=ds.length+D.counts ds+t.count
 | []=>by simp[bS,D.counts]
 | d::ds=>by
  rw[bS,pairD,D.count,D.counts,D.counts,D.counts,D.counts,Ec t ds,List.length_cons]
  omega
theorem Mk(t:D)(N:Nat):∀ds:List D,(∀d∈ds,d.deep<=N)->(bS t ds).deep<=ds.length+max N t.deep
 | [],_=>by rw[bS];omega
 | d::ds,h=>by
  have h1:=h d List.mem_cons_self
  have h2:=Mk t N ds fun d' hd=>h d' (List.mem_cons_of_mem _ hd)
  rw[bS,pairD,D.deep,D.deeps,D.deeps,D.deeps,List.length_cons]
  omega
theorem Eu:∀a b:List D,D.counts (a++b)=D.counts a+D.counts b
 | [],b=>by simp[D.counts]
 | d::a,b=>by rw[List.cons_append,D.counts,D.counts,Eu a b];omega
theorem EM:∀a:List D,D.counts a.reverse=D.counts a
 | []=>rfl
 | d::a=>by rw[List.reverse_cons,Eu,EM a,D.counts,D.counts,D.counts];omega
def Sane(m:Nat)(d:D):Prop:=∀path,∀x∈d.pieces path,x.2.parts.length<=900/\GoodD m x.2
theorem Fine.sane{m L:Nat}{d:D}(h:Fine m L d):Sane m d:=fun path x hx=>by
 have h':=((h path).2 x hx).2
 exact⟨by omega,h'.2⟩
theorem Am4(m:Nat):Sane m nilD:=fun path x hx=>by
 rw[nilD,D.pieces,D.piecesL] at hx
 simp only[List.mem_singleton] at hx
 subst hx
 exact⟨by simp[D.parts],fun k z t ds e=>by cases e;exact⟨0,rfl,.nil⟩⟩
theorem Aes{m:Nat}{a b:D}(ha:Sane m a)(hb:Sane m b):Sane m (pairD a b):=fun path x hx=>by
 rw[pairD,D.pieces,D.piecesL,D.piecesL,D.piecesL,List.append_nil] at hx
 rcases List.mem_cons.1 hx with rfl|hx
 .exact⟨by simp[D.parts],fun k z t ds e=>by cases e;exact⟨5,rfl,.pair⟩⟩
 .rcases List.mem_append.1 hx with hx|hx
  .exact ha _ x hx
  .exact hb _ x hx
theorem PI{m:Nat}{t:D}(ht:Sane m t):∀ {ds:List D},(∀d∈ds,Sane m d)->Sane m (bS t ds)
 | [],_=>ht
 | d::ds,h=>Aes (h d List.mem_cons_self) (PI ht fun d' hd=>h d' (List.mem_cons_of_mem _ hd))
theorem Sane.good{m:Nat}{d:D}(h:Sane m d):AllGood m (d.pieces []):=fun path k z t ds hx=>(h [] _ hx).2 k z t ds rfl
theorem KL(d:D)(hd:d.deep<1000):∀y∈d.pieces [],y.1.length<1000:=fun y hy=>by
 have h1:=Hm d []
 have h2:y.1.length+1<=longest (d.pieces []):=by
  obtain⟨a,b,h⟩:=List.append_of_mem hy
  rw[h,FH,Jd]
  omega
 simp at h1
 omega
theorem Sane.small{m:Nat}{d:D}(h:Sane m d)(hd:d.deep<1000):Small (d.pieces []):=fun x hx=>⟨by have:=KL d hd x hx;omega,by have:=(h [] x hx).1;omega⟩
theorem AeE(M:Nat)(d:D)(h:Sane M d)(hc:d.count<=2000)(hd:d.deep<1000)(lv:List Value)(h4:lv.length=4)(R:Nat->Prop)(Z:aC)(hw:Wf Z)(hL:aL R Z (.agg lv.toArray) d)(hR:∀b,R b->b<Z.next):
  Gives ((env (M+5)).call 64 [.agg lv.toArray] none Z) Z fun w _=>w=.int .i64 (.ofNat d.count):=by
 have:=WI M d lv h4 R Z hw hL hR (h.small hd) (by rw[Ed];exact hc) h.good
 rwa [Ed] at this
end Go.Proofs.YtknnbjmcfibpgaaGreatDoor
namespace Go.Proofs.YtknnbjmcfibpgaaGreatDoor
open Go Go.Eng
def VecG(Q R:Nat->Prop)(Z:aC)(s:Value)(ds:List D):Prop:=
 (ds=[]/\s=.slice none 0 0)\/(∃b cs ver,s=.slice (some ⟨b,0,none⟩) ds.length ds.length/\Z.heap.get b=some ⟨.cells cs TD,false,some 4,ver⟩/\Q b/\Row R Z cs ds)
theorem VecG.slice{Q R:Nat->Prop}{Z:aC}{s:Value}{ds:List D}(h:VecG Q R Z s ds):∃p,s=.slice p ds.length ds.length/\aO (fun b=>Q b\/R b) Z p 0 ds:=by
 rcases h with⟨rfl,rfl⟩|⟨b,cs,ver,rfl,hb,hq,hr⟩
 .exact⟨none,rfl,trivial⟩
 .exact⟨_,rfl,hr.elems (Aq hb) (.inl hq) (fun c hc=>.inr hc) 0 ds fun j e he=>by rwa [Nat.zero_add]⟩
theorem VecG.one{Q R:Nat->Prop}{Z:aC}{s:Value}{ds:List D}(h:VecG Q R Z s ds):oneCell s=true/\aU s=true/\aI s=[s]:=by
 rcases h with⟨rfl,rfl⟩|⟨b,cs,ver,rfl,hb,hq,hr⟩<;>exact⟨rfl,rfl,rfl⟩
theorem VecG.keep{Q Q' R R':Nat->Prop}{Z V:aC}{s:Value}{ds:List D}(h:VecG Q R Z s ds)(hq:∀b e,Q b->Z.heap.get b=some e->V.heap.get b=some e/\Q' b)(hr:∀b cs,R b->Z.cells b=some cs->V.cells b=some cs/\R' b):VecG Q' R' V s ds:=by
 rcases h with h|⟨b,cs,ver,rfl,hb,hQ,hR⟩
 .exact .inl h
 .exact .inr ⟨b,cs,ver,rfl,(hq b _ hQ hb).1,(hq b _ hQ hb).2,hR.keep hr⟩
theorem KP(Q R Q':Nat->Prop)(a_:aC)(s:Value)(ds:List D)(d:D)(l:List Value)(hw:Wf a_)(hl:l.length=4)(ho:l.all oneCell=true)(hlen:ds.length<900)(hV:VecG Q R a_ s ds)(hd:aL R a_ (.agg l.toArray) d)(hQR:∀b,Q b->¬ R b)(hQ':∀b,a_.next<=b->Q' b):
  ∃s' τ,fappend TD 4 56 s (.slice (some ⟨a_.next,0,none⟩) 1 1) (a_.push (.cells l TD) none)=.val s' τ/\VecG Q' R τ s' (ds++[d])/\Wf τ/\Chg Q a_ τ:=by
 have hx:(a_.push (.cells l TD) none).cells a_.next=some l:=by rw[Ah,if_pos rfl];rfl
 rcases hV with⟨rfl,rfl⟩|⟨b,cs,ver,rfl,hb,hq,hR⟩
 .refine⟨_,_,IR TD 4 56 _ 1 l _ hx hl ho (by decide),.inr ⟨_,_,_,rfl,by rw[Ai,if_pos rfl],hQ' _ (by rw[Ac];omega),?_⟩,(hw.push _ _).push _ _,((Chg.refl _ _).push _ _).push _ _⟩
  exact(Row.nil _ _).snoc hl ho (hd.keep fun c cs hc h=>by
   have:=hw.cells h
   refine⟨?_,hc⟩
   rw[Ah,if_neg (by rw[Ac];omega),Ah,if_neg (by omega)]
   exact h)
 .have hbn:b<a_.next:=(hw b _ hb).1
  have hb1:(a_.push (.cells l TD) none).heap.get b=some ⟨.cells cs TD,false,some 4,ver⟩:=by rw[Ai,if_neg (by omega)];exact hb
  have hw1:=hw.push (.cells l TD) none
  have hw2:=hw1.put b (.defd false) none (by rw[Ac];omega)
  refine⟨_,_,Kw TD 4 56 b _ 1 ds.length ver cs l _ hb1 hx hl ho hR.1 (by decide) (by omega),.inr ⟨_,_,_,by rw[List.length_append];rfl,by rw[Ai,if_pos rfl],hQ' _ (by rw[Aw,Ac];omega),?_⟩,hw2.push _ _,(((Chg.refl _ _).push _ _).put _ _ _ (.inr hq)).push _ _⟩
  have kp:∀(c:Nat) (cs':List Value),R c->a_.cells c=some cs'->
    (((a_.push (.cells l TD) none).put b (.defd false) none).push (.cells (cs++l) TD) (some 4)).cells c=some cs'/\R c:=fun c cs' hc h=>by
   have:=hw.cells h
   refine⟨?_,hc⟩
   rw[Ah,if_neg (by rw[Aw,Ac];omega),Ak,if_neg (fun(e:c=b)=>hQR b hq (e ▸ hc)),Ah,if_neg (by omega)]
   exact h
  exact(hR.keep kp).snoc hl ho (hd.keep kp)
theorem Row.append{R:Nat->Prop}{Z:aC}{cs cs':List Value}{ds ds':List D}(h:Row R Z cs ds)(h':Row R Z cs' ds'):Row R Z (cs++cs') (ds++ds'):=by
 refine⟨by rw[List.length_append,List.length_append,h.1,h'.1];omega,by rw[List.all_append,h.2.1,h'.2.1];rfl,fun i d hd=>?_⟩
 by_cases hi:i<ds.length
 .rw[List.getElem?_append_left hi] at hd
  have:=h.2.2 i d hd
  rw[List.drop_append_of_le_length (by rw[h.1];omega),List.take_append_of_le_length (by rw[List.length_drop,h.1];omega)]
  exact this
 .rw[List.getElem?_append_right (by omega)] at hd
  have:=h'.2.2 (i-ds.length) d hd
  have e:i*4=cs.length+(i-ds.length)*4:=by rw[h.1];omega
  rw[e,<-List.drop_drop,List.drop_left]
  exact this
end Go.Proofs.YtknnbjmcfibpgaaGreatDoor
namespace Go.Proofs.YtknnbjmcfibpgaaGreatDoor
open Go Go.Eng
variable (E:Env) (ro:Option Nat) (last:List Nat->aZ) (cl:List Nat) (a:aY) (u:Option FrameMode) (Z:aC)
def QI(_:Unit):List COp:=[⟨fun a Z=>fbox 24 (a.get 0) Z,some 1,tT⟩,
 ⟨fun a Z=>.val (.slice none 0 0) Z,some 2,tT⟩,
 ⟨fun a Z=>aM [(.int .i64 0),(.int .i64 0),(.string ⟨#[]⟩),(.slice none 0 0)] 24 none Z,some 3,tT⟩]
def AgS:List COp:=QI ()
def Ld(_:Unit):List COp:=[⟨fun a Z=>aH 0 (a.get 1) Z,some 4,tT⟩,
 ⟨fun a Z=>aG none (a.get 4) Z,some 5,tT⟩,
 ⟨fun a Z=>bO Tryz.prog 3 (.tmp 5) (.const (.int .i64 5)) (a.get 5) (.int .i64 5) Z,some 6,tT⟩]
def XN:List COp:=Ld ()
def QJ(_:Unit):List COp:=[⟨fun a Z=>.val (a.get 2) Z,some 7,tT⟩,
 ⟨fun a Z=>aH 3 (a.get 1) Z,some 8,tT⟩,
 ⟨fun a Z=>aG none (a.get 8) Z,some 9,tT⟩,
 ⟨fun a Z=>bC (none,4) (a.get 9) (.int .i64 0) Z,some 10,tT⟩,
 ⟨fun a Z=>aG (some 4) (a.get 10) Z,some 11,tT⟩,
 ⟨fun a Z=>aX 24 1 4 [(.int .i64 0),(.int .i64 0),(.string ⟨#[]⟩),(.slice none 0 0)] [(0,(a.get 11))] Z,some 12,tT⟩,
 ⟨fun a Z=>fappend 24 4 56 (a.get 7) (a.get 12) Z,some 13,tT⟩,
 ⟨fun a Z=>.val (a.get 13) Z,some 2,tT⟩]
def XO:List COp:=QJ ()
def QK(_:Unit):List COp:=[⟨fun a Z=>aH 3 (a.get 1) Z,some 14,tT⟩,
 ⟨fun a Z=>aG none (a.get 14) Z,some 15,tT⟩,
 ⟨fun a Z=>bC (none,4) (a.get 15) (.int .i64 1) Z,some 16,tT⟩,
 ⟨fun a Z=>aG (some 4) (a.get 16) Z,some 17,tT⟩,
 ⟨fun a Z=>aK 4 (a.get 1) (a.get 17) Z,none,tT⟩]
def XP:List COp:=QK ()
def QL(_:Unit):List DOp:=[⟨fun a Z=>.val (a.get 2) Z,some 18,tT,some 0,false⟩,
 ⟨fun a Z=>aG (some 4) (a.get 1) Z,some 19,tT,some 0,false⟩,
 ⟨fun a Z=>.val (a.get 18) Z,some 2,tT,some 0,false⟩,
 ⟨fun a Z=>aK 4 (a.get 3) (a.get 19) Z,none,tT,none,true⟩]
def XQ:List DOp:=QL ()
noncomputable def x123_0:Code:=(scopesOf (Tryz.f123.body.getD .skip)).getD 0 .skip
def find123_0(E:Env)(ro:Option Nat)(fn:FuncId):Nat->Option (Bx aZ):=fun l=>match findLabel x123_0 l with|some rest=>some ⟨(ccode Tryz.prog nls 998 rest).un E ro fn⟩|none=>none
def rest123_0_0(E:Env)(ro:Option Nat)(fn:FuncId):aZ:=(aF aV (aF (aF (aD E ro XN) (aN (fun a=>(a.get 6)) (aF (aD E ro XO) (aF (aD E ro XP) (gotoR 0))) aV)) (aF (drawR E ro XQ) bL)))
def AaA(E:Env)(ro:Option Nat)(fn:FuncId):aZ:=(aF (aD E ro AgS) (fscope (find123_0 E ro fn) bF (aF aV (aF (aF (aD E ro XN) (aN (fun a=>(a.get 6)) (aF (aD E ro XO) (aF (aD E ro XP) (gotoR 0))) aV)) (aF (drawR E ro XQ) bL)))))
theorem Adl:aD E ro AgS a u Z=aD E ro (QI ()) a u Z:=rfl
theorem Pe:aD E ro XN a u Z=aD E ro (Ld ()) a u Z:=rfl
theorem Adm:aD E ro XO a u Z=aD E ro (QJ ()) a u Z:=rfl
theorem Adn:aD E ro XP a u Z=aD E ro (QK ()) a u Z:=rfl
theorem Ado:bI E ro last XQ cl a u Z=bI E ro last (QL ()) cl a u Z:=rfl
theorem LX(E:Env)(ro:Option Nat)(fn:FuncId):find123_0 E ro fn 0=some ⟨rest123_0_0 E ro fn⟩:=by kernel_rfl
theorem AnF(E:Env)(ro:Option Nat)(fn:FuncId):code Tryz.prog nls (Tryz.f123.body.getD .skip) E ro fn=AaA E ro fn:=by kernel_rfl
theorem Ae9(E:Env)(args:List Value)(u:Option FrameMode)(Z:aC)(hn:args.length<=(4:Nat)):bD Tryz.prog nls E 123 args u Z=aP Tryz.prog E [.tmp 2,.cell 3 24] (AaA E none 123 ⟨bB undef 4 args,fun _=>undef,4,20,[]⟩ u Z):=by
 rw[Ap (body:=Tryz.f123.body.getD .skip) Tryz.func123 rfl E args u Z 4 20 (by kernel_rfl) rfl ⟨hn,by decide⟩,AnF]
 rfl
def ZA(_:Unit):List COp:=[⟨fun a Z=>fbox 24 (a.get 0) Z,some 1,tT⟩,
 ⟨fun a Z=>.val (.slice none 0 0) Z,some 2,tT⟩]
def Ath:List COp:=ZA ()
def SF(_:Unit):List COp:=[⟨fun a Z=>aG (some 4) (a.get 1) Z,some 6,tT⟩,
 ⟨fun a Z=>.enter 123 [(a.get 6)] Z,some 7,tT⟩,
 ⟨fun a Z=>.val (a.get 7) Z,some 5,tT⟩,
 ⟨fun a Z=>aJ 0 (a.get 5) Z,some 8,tT⟩,
 ⟨fun a Z=>aJ 1 (a.get 5) Z,some 9,tT⟩,
 ⟨fun a Z=>aM [(.int .i64 0),(.int .i64 0),(.string ⟨#[]⟩),(.slice none 0 0)] 24 none Z,some 4,tT⟩,
 ⟨fun a Z=>.val (a.get 8) Z,some 3,tT⟩,
 ⟨fun a Z=>aK 4 (a.get 4) (a.get 9) Z,none,tT⟩]
def Ati:List COp:=SF ()
def SG(_:Unit):List COp:=[⟨fun a Z=>aH 0 (a.get 4) Z,some 10,tT⟩,
 ⟨fun a Z=>aG none (a.get 10) Z,some 11,tT⟩,
 ⟨fun a Z=>i_neq Tryz.prog 3 (.tmp 11) (.const (.int .i64 0)) (a.get 11) (.int .i64 0) Z,some 12,tT⟩]
def Atj:List COp:=SG ()
def ZB(_:Unit):List COp:=[⟨fun a Z=>.enter 124 [(.int .i64 4)] Z,some 13,tT⟩]
def Atk:List COp:=ZB ()
def ZC(_:Unit):List COp:=[⟨fun a Z=>.val (a.get 3) Z,some 14,tT⟩,
 ⟨fun a Z=>.val (a.get 14) Z,some 2,tT⟩]
def Atl:List COp:=ZC ()
def AmO(E:Env)(ro:Option Nat)(fn:FuncId):aZ:=(aF (aD E ro Ath) (aF (aD E ro Ati) (aF (aF (aD E ro Atj) (aN (fun a=>(a.get 12)) (aD E ro Atk) aV)) (aF (aD E ro Atl) bL))))
theorem Ald:aD E ro Ath a u Z=aD E ro (ZA ()) a u Z:=rfl
theorem V0:aD E ro Ati a u Z=aD E ro (SF ()) a u Z:=rfl
theorem V1:aD E ro Atj a u Z=aD E ro (SG ()) a u Z:=rfl
theorem Ale:aD E ro Atk a u Z=aD E ro (ZB ()) a u Z:=rfl
theorem Alf:aD E ro Atl a u Z=aD E ro (ZC ()) a u Z:=rfl
theorem Au9(E:Env)(ro:Option Nat)(fn:FuncId):code Tryz.prog nls (Tryz.f80.body.getD .skip) E ro fn=AmO E ro fn:=by kernel_rfl
theorem AoC(E:Env)(args:List Value)(u:Option FrameMode)(Z:aC)(hn:args.length<=(5:Nat)):bD Tryz.prog nls E 80 args u Z=aP Tryz.prog E [.tmp 2] (AmO E none 80 ⟨bB undef 5 args,fun _=>undef,5,15,[]⟩ u Z):=by
 rw[Ap (body:=Tryz.f80.body.getD .skip) Tryz.func80 rfl E args u Z 5 15 (by kernel_rfl) rfl ⟨hn,by decide⟩,Au9]
 rfl
def Zy(_:Unit):List COp:=[⟨fun a Z=>.val (.slice none 0 0) Z,some 2,tT⟩]
def Atf:List COp:=Zy ()
def Zz(_:Unit):List COp:=[⟨fun a Z=>.val (a.get 0) Z,some 3,tT⟩,
 ⟨fun a Z=>.enter 122 [(a.get 3),(.func (.func 88) #[] #[])] Z,some 4,tT⟩,
 ⟨fun a Z=>.val (a.get 4) Z,some 2,tT⟩]
def Atg:List COp:=Zz ()
def AmN(E:Env)(ro:Option Nat)(fn:FuncId):aZ:=(aF (aD E ro Atf) (aF (aD E ro Atg) bL))
theorem Alb:aD E ro Atf a u Z=aD E ro (Zy ()) a u Z:=rfl
theorem Alc:aD E ro Atg a u Z=aD E ro (Zz ()) a u Z:=rfl
theorem Au8(E:Env)(ro:Option Nat)(fn:FuncId):code Tryz.prog nls (Tryz.f79.body.getD .skip) E ro fn=AmN E ro fn:=by kernel_rfl
theorem AoB(E:Env)(args:List Value)(u:Option FrameMode)(Z:aC)(hn:args.length<=(2:Nat)):bD Tryz.prog nls E 79 args u Z=aP Tryz.prog E [.tmp 2] (AmN E none 79 ⟨bB undef 2 args,fun _=>undef,2,5,[]⟩ u Z):=by
 rw[Ap (body:=Tryz.f79.body.getD .skip) Tryz.func79 rfl E args u Z 2 5 (by kernel_rfl) rfl ⟨hn,by decide⟩,Au8]
 rfl
def ZP(_:Unit):List COp:=[⟨fun a Z=>fbox 24 (a.get 0) Z,some 2,tT⟩,
 ⟨fun a Z=>aM [(.int .i64 0),(.int .i64 0),(.string ⟨#[]⟩),(.slice none 0 0)] 24 none Z,some 4,tT⟩]
def AtF:List COp:=ZP ()
def ZQ(_:Unit):List COp:=[⟨fun a Z=>.val (a.get 1) Z,some 7,tT⟩,
 ⟨fun a Z=>.enter 126 [(a.get 7)] Z,some 8,tT⟩]
def AtG:List COp:=ZQ ()
def ZR(_:Unit):List COp:=[⟨fun a Z=>aM [(.int .i64 0),(.int .i64 0),(.string ⟨#[]⟩),(.slice none 0 0)] 24 none Z,some 6,tT⟩,
 ⟨fun a Z=>aK 4 (a.get 6) (a.get 10) Z,none,tT⟩]
def AtH:List COp:=ZR ()
def ZS(_:Unit):List COp:=[⟨fun a Z=>aG (some 4) (a.get 6) Z,some 11,tT⟩,
 ⟨fun a Z=>aG (some 4) (a.get 2) Z,some 12,tT⟩,
 ⟨fun a Z=>aX 24 2 4 [(.int .i64 0),(.int .i64 0),(.string ⟨#[]⟩),(.slice none 0 0)] [(0,(a.get 11)),(1,(a.get 12))] Z,some 13,tT⟩,
 ⟨fun a Z=>bP (fun i=>nth [(0,1),(1,1),(2,1),(3,1)] i) [(.int .i64 0),(.int .i64 0),(.string ⟨#[]⟩),(.slice none 0 0)] [(0,(.int .i64 5)),(3,(a.get 13))] Z,some 14,tT⟩,
 ⟨fun a Z=>aK 4 (a.get 2) (a.get 14) Z,none,tT⟩]
def AtI:List COp:=ZS ()
noncomputable def EK:Code:=((rangesOf (Tryz.f85.body.getD .skip)).getD 0 (.skip,.skip)).1
noncomputable def EL:Code:=((rangesOf (Tryz.f85.body.getD .skip)).getD 0 (.skip,.skip)).2
def ZT(_:Unit):List COp:=[⟨fun a Z=>aG (some 4) (a.get 2) Z,some 15,tT⟩,
 ⟨fun a Z=>aK 4 (a.get 4) (a.get 15) Z,none,tT⟩]
def AtJ:List COp:=ZT ()
def AmS(E:Env)(ro:Option Nat)(fn:FuncId):aZ:=(aF (aD E ro AtF) (aF (aF (aD E ro AtG) (aW 0 (frange E ro fn (.tmp 8) [9,10] EK EL))) (aF (aD E ro AtJ) bL)))
theorem Alt:aD E ro AtF a u Z=aD E ro (ZP ()) a u Z:=rfl
theorem Alu:aD E ro AtG a u Z=aD E ro (ZQ ()) a u Z:=rfl
theorem Alv:aD E ro AtH a u Z=aD E ro (ZR ()) a u Z:=rfl
theorem Alw:aD E ro AtI a u Z=aD E ro (ZS ()) a u Z:=rfl
theorem Acs(E:Env)(ro:Option Nat)(fn:FuncId):code Tryz.prog nls EK E ro fn=(aD E ro AtH):=by kernel_rfl
theorem Acu(E:Env)(ro:Option Nat)(fn:FuncId):code Tryz.prog nls EL E ro fn=(aW 1 (aD E ro AtI)):=by kernel_rfl
theorem Alx:aD E ro AtJ a u Z=aD E ro (ZT ()) a u Z:=rfl
theorem Ave(E:Env)(ro:Option Nat)(fn:FuncId):code Tryz.prog nls (Tryz.f85.body.getD .skip) E ro fn=AmS E ro fn:=by kernel_rfl
theorem AoG(E:Env)(args:List Value)(u:Option FrameMode)(Z:aC)(hn:args.length<=(7:Nat)):bD Tryz.prog nls E 85 args u Z=aP Tryz.prog E [.cell 4 24] (AmS E none 85 ⟨bB undef 7 args,fun _=>undef,7,16,[]⟩ u Z):=by
 rw[Ap (body:=Tryz.f85.body.getD .skip) Tryz.func85 rfl E args u Z 7 16 (by kernel_rfl) rfl ⟨hn,by decide⟩,Ave]
 rfl
def QN(_:Unit):List COp:=[⟨fun a Z=>fbox 22 (a.get 0) Z,some 1,tT⟩,
 ⟨fun a Z=>.val .nilFunc Z,some 2,tT⟩]
def AgX:List COp:=QN ()
def QO(_:Unit):List COp:=[⟨fun a Z=>.val (.func (.func 151) #[] #[(a.get 1)]) Z,some 3,tT⟩,
 ⟨fun a Z=>.val (a.get 3) Z,some 2,tT⟩]
def AgY:List COp:=QO ()
def AaC(E:Env)(ro:Option Nat)(fn:FuncId):aZ:=(aF (aD E ro AgX) (aF (aD E ro AgY) bL))
theorem Adq:aD E ro AgX a u Z=aD E ro (QN ()) a u Z:=rfl
theorem Adr:aD E ro AgY a u Z=aD E ro (QO ()) a u Z:=rfl
theorem AnI(E:Env)(ro:Option Nat)(fn:FuncId):code Tryz.prog nls (Tryz.f126.body.getD .skip) E ro fn=AaC E ro fn:=by kernel_rfl
theorem Afb(E:Env)(args:List Value)(u:Option FrameMode)(Z:aC)(hn:args.length<=(2:Nat)):bD Tryz.prog nls E 126 args u Z=aP Tryz.prog E [.tmp 2] (AaC E none 126 ⟨bB undef 2 args,fun _=>undef,2,4,[]⟩ u Z):=by
 rw[Ap (body:=Tryz.f126.body.getD .skip) Tryz.func126 rfl E args u Z 2 4 (by kernel_rfl) rfl ⟨hn,by decide⟩,AnI]
 rfl
def Rb(_:Unit):List COp:=[⟨fun a Z=>aG none (a.get 1) Z,some 4,tT⟩,
 ⟨fun a Z=>flenL (a.get 4) Z,some 5,tT⟩,
 ⟨fun a Z=>i_sub Tryz.prog 3 (.tmp 5) (.const (.int .i64 1)) (a.get 5) (.int .i64 1) Z,some 6,tT⟩,
 ⟨fun a Z=>.val (a.get 6) Z,some 3,tT⟩]
def Ah1:List COp:=Rb ()
def Lt(_:Unit):List COp:=[⟨fun a Z=>.val (a.get 3) Z,some 7,tT⟩,
 ⟨fun a Z=>i_geq Tryz.prog 3 (.tmp 7) (.const (.int .i64 0)) (a.get 7) (.int .i64 0) Z,some 8,tT⟩]
def Ah2:List COp:=Lt ()
def Rd(_:Unit):List COp:=[⟨fun a Z=>.val (a.get 0) Z,some 11,tT⟩,
 ⟨fun a Z=>.val (a.get 3) Z,some 12,tT⟩,
 ⟨fun a Z=>aG none (a.get 1) Z,some 13,tT⟩,
 ⟨fun a Z=>.val (a.get 3) Z,some 14,tT⟩,
 ⟨fun a Z=>bC (none,4) (a.get 13) (a.get 14) Z,some 15,tT⟩,
 ⟨fun a Z=>aG (some 4) (a.get 15) Z,some 16,tT⟩,
 ⟨fun a Z=>fcallV (a.get 11) [(a.get 12),(a.get 16)] Z,some 17,tT⟩,
 ⟨fun a Z=>fun1 Tryz.prog (Op.unary .not) (a.get 17) Z,some 18,tT⟩]
def Ah4:List COp:=Rd ()
def Rc(_:Unit):List COp:=[⟨fun a Z=>.val (a.get 3) Z,some 9,tT⟩,
 ⟨fun a Z=>i_sub Tryz.prog 3 (.tmp 9) (.const (.int .i64 1)) (a.get 9) (.int .i64 1) Z,some 10,tT⟩,
 ⟨fun a Z=>.val (a.get 10) Z,some 3,tT⟩]
def Ah3:List COp:=Rc ()
def Qm(E:Env)(ro:Option Nat)(fn:FuncId):aZ:=(aF (aF (aD E ro Ah2) (aN (fun a=>(a.get 8)) aV (exitR 0))) (aF (aW 1 (aF (aD E ro Ah4) (aN (fun a=>(a.get 18)) bL aV))) (aD E ro Ah3)))
def AaI(E:Env)(ro:Option Nat)(fn:FuncId):aZ:=(aF (aD E ro Ah1) (aW 0 (loopR (bE nls fn) (Qm E ro fn))))
theorem AdP:aD E ro Ah1 a u Z=aD E ro (Rb ()) a u Z:=rfl
theorem Pt:aD E ro Ah2 a u Z=aD E ro (Lt ()) a u Z:=rfl
theorem AdR:aD E ro Ah4 a u Z=aD E ro (Rd ()) a u Z:=rfl
theorem AdQ:aD E ro Ah3 a u Z=aD E ro (Rc ()) a u Z:=rfl
theorem AnT(E:Env)(ro:Option Nat)(fn:FuncId):code Tryz.prog nls (Tryz.f151.body.getD .skip) E ro fn=AaI E ro fn:=by kernel_rfl
theorem Afh(E:Env)(args:List Value)(u:Option FrameMode)(Z:aC)(hn:args.length<=(4:Nat)):bD Tryz.prog nls E 151 args u Z=aP Tryz.prog E [] (AaI E none 151 ⟨bB undef 4 args,fun _=>undef,4,19,[]⟩ u Z):=by
 rw[Ap (body:=Tryz.f151.body.getD .skip) Tryz.func151 rfl E args u Z 4 19 (by kernel_rfl) rfl ⟨hn,by decide⟩,AnT]
 rfl
def Nu(_:Unit):List COp:=[⟨fun a Z=>.val (a.get 0) Z,some 4,tT⟩,
 ⟨fun a Z=>flenL (a.get 4) Z,some 5,tT⟩,
 ⟨fun a Z=>i_sub Tryz.prog 3 (.tmp 5) (.const (.int .i64 1)) (a.get 5) (.int .i64 1) Z,some 6,tT⟩,
 ⟨fun a Z=>.val (.int .i64 0) Z,some 2,tT⟩,
 ⟨fun a Z=>.val (a.get 6) Z,some 3,tT⟩]
def Aub:List COp:=Nu ()
def Ko(_:Unit):List COp:=[⟨fun a Z=>.val (a.get 2) Z,some 7,tT⟩,
 ⟨fun a Z=>.val (a.get 3) Z,some 8,tT⟩,
 ⟨fun a Z=>i_lss Tryz.prog 3 (.tmp 7) (.tmp 8) (a.get 7) (a.get 8) Z,some 9,tT⟩]
def Auc:List COp:=Ko ()
def Aae(_:Unit):List DOp:=[⟨fun a Z=>.val (a.get 0) Z,some 14,tT,some 0,false⟩,
 ⟨fun a Z=>.val (a.get 2) Z,some 15,tT,some 0,false⟩,
 ⟨fun a Z=>.val (a.get 0) Z,some 18,tT,some 0,false⟩,
 ⟨fun a Z=>.val (a.get 3) Z,some 19,tT,some 0,false⟩,
 ⟨fun a Z=>bC (none,4) (a.get 18) (a.get 19) Z,some 20,tT,some 0,false⟩,
 ⟨fun a Z=>aG (some 4) (a.get 20) Z,some 21,tT,some 0,false⟩,
 ⟨fun a Z=>.val (a.get 0) Z,some 22,tT,some 0,false⟩,
 ⟨fun a Z=>.val (a.get 2) Z,some 23,tT,some 0,false⟩,
 ⟨fun a Z=>bC (none,4) (a.get 22) (a.get 23) Z,some 24,tT,some 0,false⟩,
 ⟨fun a Z=>aG (some 4) (a.get 24) Z,some 25,tT,some 0,false⟩,
 ⟨fun a Z=>bC (none,4) (a.get 14) (a.get 15) Z,some 26,tT,some 0,false⟩,
 ⟨fun a Z=>aK 4 (a.get 26) (a.get 21) Z,none,tT,none,false⟩,
 ⟨fun a Z=>.val (a.get 0) Z,some 16,tT,some 0,false⟩,
 ⟨fun a Z=>.val (a.get 3) Z,some 17,tT,some 0,false⟩,
 ⟨fun a Z=>bC (none,4) (a.get 16) (a.get 17) Z,some 27,tT,some 1,false⟩,
 ⟨fun a Z=>aK 4 (a.get 27) (a.get 25) Z,none,tT,none,true⟩]
def Aue:List DOp:=Aae ()
def Aad(_:Unit):List COp:=[⟨fun a Z=>.val (a.get 2) Z,some 10,tT⟩,
 ⟨fun a Z=>i_add Tryz.prog 3 (.tmp 10) (.const (.int .i64 1)) (a.get 10) (.int .i64 1) Z,some 11,tT⟩,
 ⟨fun a Z=>.val (a.get 3) Z,some 12,tT⟩,
 ⟨fun a Z=>i_sub Tryz.prog 3 (.tmp 12) (.const (.int .i64 1)) (a.get 12) (.int .i64 1) Z,some 13,tT⟩,
 ⟨fun a Z=>.val (a.get 11) Z,some 2,tT⟩,
 ⟨fun a Z=>.val (a.get 13) Z,some 3,tT⟩]
def Aud:List COp:=Aad ()
def OW(E:Env)(ro:Option Nat)(fn:FuncId):aZ:=(aF (aF (aD E ro Auc) (aN (fun a=>(a.get 9)) aV (exitR 0))) (aF (aW 1 (drawR E ro Aue)) (aD E ro Aud)))
def AmY(E:Env)(ro:Option Nat)(fn:FuncId):aZ:=(aF (aD E ro Aub) (aW 0 (loopR (bE nls fn) (OW E ro fn))))
theorem Nv:aD E ro Aub a u Z=aD E ro (Nu ()) a u Z:=rfl
theorem JJ:aD E ro Auc a u Z=aD E ro (Ko ()) a u Z:=rfl
theorem Al3:bI E ro last Aue cl a u Z=bI E ro last (Aae ()) cl a u Z:=rfl
theorem Al2:aD E ro Aud a u Z=aD E ro (Aad ()) a u Z:=rfl
theorem Avk(E:Env)(ro:Option Nat)(fn:FuncId):code Tryz.prog nls (Tryz.f91.body.getD .skip) E ro fn=AmY E ro fn:=by kernel_rfl
theorem AoM(E:Env)(args:List Value)(u:Option FrameMode)(Z:aC)(hn:args.length<=(4:Nat)):bD Tryz.prog nls E 91 args u Z=aP Tryz.prog E [] (AmY E none 91 ⟨bB undef 4 args,fun _=>undef,4,28,[]⟩ u Z):=by
 rw[Ap (body:=Tryz.f91.body.getD .skip) Tryz.func91 rfl E args u Z 4 28 (by kernel_rfl) rfl ⟨hn,by decide⟩,Avk]
 rfl
def RP(_:Unit):List COp:=[⟨fun a Z=>fbox 22 (a.get 0) Z,some 1,tT⟩,
 ⟨fun a Z=>aM [(.int .i64 0),(.int .i64 0),(.string ⟨#[]⟩),(.slice none 0 0)] 24 none Z,some 2,tT⟩,
 ⟨fun a Z=>.val (.int .i64 0) Z,some 3,tT⟩]
def Aq7:List COp:=RP ()
def RQ(_:Unit):List COp:=[⟨fun a Z=>.val (.func (.func 83) #[] #[(a.get 1)]) Z,some 4,tT⟩,
 ⟨fun a Z=>.enter 82 [(a.get 4)] Z,some 5,tT⟩,
 ⟨fun a Z=>aJ 0 (a.get 5) Z,some 6,tT⟩,
 ⟨fun a Z=>aJ 1 (a.get 5) Z,some 7,tT⟩,
 ⟨fun a Z=>aK 4 (a.get 2) (a.get 6) Z,none,tT⟩,
 ⟨fun a Z=>.val (a.get 7) Z,some 3,tT⟩]
def Aq8:List COp:=RQ ()
def Amt(E:Env)(ro:Option Nat)(fn:FuncId):aZ:=(aF (aD E ro Aq7) (aF (aD E ro Aq8) bL))
theorem Vj:aD E ro Aq7 a u Z=aD E ro (RP ()) a u Z:=rfl
theorem Vk:aD E ro Aq8 a u Z=aD E ro (RQ ()) a u Z:=rfl
theorem AuK(E:Env)(ro:Option Nat)(fn:FuncId):code Tryz.prog nls (Tryz.f24.body.getD .skip) E ro fn=Amt E ro fn:=by kernel_rfl
theorem Aoh(E:Env)(args:List Value)(u:Option FrameMode)(Z:aC)(hn:args.length<=(2:Nat)):bD Tryz.prog nls E 24 args u Z=aP Tryz.prog E [.cell 2 24,.tmp 3] (Amt E none 24 ⟨bB undef 2 args,fun _=>undef,2,8,[]⟩ u Z):=by
 rw[Ap (body:=Tryz.f24.body.getD .skip) Tryz.func24 rfl E args u Z 2 8 (by kernel_rfl) rfl ⟨hn,by decide⟩,AuK]
 rfl
def ZI(_:Unit):List COp:=[⟨fun a Z=>aM [(.int .i64 0),(.int .i64 0),(.string ⟨#[]⟩),(.slice none 0 0)] 24 none Z,some 1,tT⟩]
def Atv:List COp:=ZI ()
def ZJ(_:Unit):List COp:=[⟨fun a Z=>.val (.int .i64 1) Z,some 2,tT⟩]
def Atw:List COp:=ZJ ()
def ZK(_:Unit):List COp:=[⟨fun a Z=>aG none (a.get 0) Z,some 5,tT⟩,
 ⟨fun a Z=>flenL (a.get 5) Z,some 6,tT⟩,
 ⟨fun a Z=>.val (.int .i64 0) Z,some 7,tT⟩]
def Atx:List COp:=ZK ()
def Nk(_:Unit):List COp:=[⟨fun a Z=>i_lss Tryz.prog 3 (.tmp 7) (.tmp 6) (a.get 7) (a.get 6) Z,some 8,tT⟩]
def Aty:List COp:=Nk ()
def SL(_:Unit):List COp:=[⟨fun a Z=>bC (none,4) (a.get 5) (a.get 7) Z,some 9,tT⟩,
 ⟨fun a Z=>aG (some 4) (a.get 9) Z,some 10,tT⟩,
 ⟨fun a Z=>aM [(.int .i64 0),(.int .i64 0),(.string ⟨#[]⟩),(.slice none 0 0)] 24 none Z,some 4,tT⟩,
 ⟨fun a Z=>aK 4 (a.get 4) (a.get 10) Z,none,tT⟩]
def Atz:List COp:=SL ()
def SM(_:Unit):List COp:=[⟨fun a Z=>.val (a.get 2) Z,some 11,tT⟩,
 ⟨fun a Z=>aG (some 4) (a.get 4) Z,some 12,tT⟩,
 ⟨fun a Z=>.enter 64 [(a.get 12)] Z,some 13,tT⟩,
 ⟨fun a Z=>i_add Tryz.prog 3 (.const (.int .i64 1)) (.tmp 13) (.int .i64 1) (a.get 13) Z,some 14,tT⟩,
 ⟨fun a Z=>i_add Tryz.prog 3 (.tmp 11) (.tmp 14) (a.get 11) (a.get 14) Z,some 15,tT⟩,
 ⟨fun a Z=>.val (a.get 15) Z,some 2,tT⟩]
def AtA:List COp:=SM ()
def ZL(_:Unit):List COp:=[⟨fun a Z=>i_add Tryz.prog 3 (.tmp 7) (.const (.int .i64 1)) (a.get 7) (.int .i64 1) Z,some 16,tT⟩,
 ⟨fun a Z=>.val (a.get 16) Z,some 7,tT⟩]
def AtB:List COp:=ZL ()
def OV(E:Env)(ro:Option Nat)(fn:FuncId):aZ:=(aF (aD E ro Aty) (aF (aN (fun a=>(a.get 8)) aV (exitR 0)) (aF (aW 1 (aF (aD E ro Atz) (aD E ro AtA))) (aD E ro AtB))))
def ZM(_:Unit):List COp:=[⟨fun a Z=>.val (a.get 2) Z,some 17,tT⟩,
 ⟨fun a Z=>.enter 84 [(a.get 17)] Z,some 18,tT⟩]
def AtC:List COp:=ZM ()
def ZN(_:Unit):List COp:=[⟨fun a Z=>bP (fun i=>nth [(0,1),(1,1),(2,1),(3,1)] i) [(.int .i64 0),(.int .i64 0),(.string ⟨#[]⟩),(.slice none 0 0)] [] Z,some 19,tT⟩,
 ⟨fun a Z=>aG none (a.get 0) Z,some 20,tT⟩,
 ⟨fun a Z=>.enter 79 [(a.get 20)] Z,some 21,tT⟩,
 ⟨fun a Z=>.enter 85 [(a.get 19),(a.get 21)] Z,some 22,tT⟩,
 ⟨fun a Z=>aK 4 (a.get 1) (a.get 22) Z,none,tT⟩]
def AtD:List COp:=ZN ()
def AmQ(E:Env)(ro:Option Nat)(fn:FuncId):aZ:=(aF (aD E ro Atv) (aF (aD E ro Atw) (aF (aF (aD E ro Atx) (aW 0 (loopR (bE nls fn) (OV E ro fn)))) (aF (aD E ro AtC) (aF (aD E ro AtD) bL)))))
theorem Alm:aD E ro Atv a u Z=aD E ro (ZI ()) a u Z:=rfl
theorem Aln:aD E ro Atw a u Z=aD E ro (ZJ ()) a u Z:=rfl
theorem Alo:aD E ro Atx a u Z=aD E ro (ZK ()) a u Z:=rfl
theorem Nl:aD E ro Aty a u Z=aD E ro (Nk ()) a u Z:=rfl
theorem V6:aD E ro Atz a u Z=aD E ro (SL ()) a u Z:=rfl
theorem V7:aD E ro AtA a u Z=aD E ro (SM ()) a u Z:=rfl
theorem Alp:aD E ro AtB a u Z=aD E ro (ZL ()) a u Z:=rfl
theorem Alq:aD E ro AtC a u Z=aD E ro (ZM ()) a u Z:=rfl
theorem Alr:aD E ro AtD a u Z=aD E ro (ZN ()) a u Z:=rfl
theorem Avc(E:Env)(ro:Option Nat)(fn:FuncId):code Tryz.prog nls (Tryz.f83.body.getD .skip) E ro fn=AmQ E ro fn:=by kernel_rfl
theorem AoE(E:Env)(args:List Value)(u:Option FrameMode)(Z:aC)(hn:args.length<=(5:Nat)):bD Tryz.prog nls E 83 args u Z=aP Tryz.prog E [.cell 1 24] (AmQ E none 83 ⟨bB undef 5 args,fun _=>undef,5,23,[]⟩ u Z):=by
 rw[Ap (body:=Tryz.f83.body.getD .skip) Tryz.func83 rfl E args u Z 5 23 (by kernel_rfl) rfl ⟨hn,by decide⟩,Avc]
 rfl
def RL(_:Unit):List COp:=[⟨fun a Z=>fbox 24 (a.get 0) Z,some 1,tT⟩,
 ⟨fun a Z=>.val (.slice none 0 0) Z,some 2,tT⟩,
 ⟨fun a Z=>.val (.int .i64 0) Z,some 3,tT⟩]
def AqX:List COp:=RL ()
def RM(_:Unit):List COp:=[⟨fun a Z=>.val (.func (.func 78) #[] #[(a.get 1)]) Z,some 4,tT⟩,
 ⟨fun a Z=>.enter 77 [(a.get 4)] Z,some 5,tT⟩,
 ⟨fun a Z=>aJ 0 (a.get 5) Z,some 6,tT⟩,
 ⟨fun a Z=>aJ 1 (a.get 5) Z,some 7,tT⟩,
 ⟨fun a Z=>.val (a.get 6) Z,some 2,tT⟩,
 ⟨fun a Z=>.val (a.get 7) Z,some 3,tT⟩]
def AqY:List COp:=RM ()
def Amr(E:Env)(ro:Option Nat)(fn:FuncId):aZ:=(aF (aD E ro AqX) (aF (aD E ro AqY) bL))
theorem Vf:aD E ro AqX a u Z=aD E ro (RL ()) a u Z:=rfl
theorem Vg:aD E ro AqY a u Z=aD E ro (RM ()) a u Z:=rfl
theorem AuI(E:Env)(ro:Option Nat)(fn:FuncId):code Tryz.prog nls (Tryz.f22.body.getD .skip) E ro fn=Amr E ro fn:=by kernel_rfl
theorem Aof(E:Env)(args:List Value)(u:Option FrameMode)(Z:aC)(hn:args.length<=(2:Nat)):bD Tryz.prog nls E 22 args u Z=aP Tryz.prog E [.tmp 2,.tmp 3] (Amr E none 22 ⟨bB undef 2 args,fun _=>undef,2,8,[]⟩ u Z):=by
 rw[Ap (body:=Tryz.f22.body.getD .skip) Tryz.func22 rfl E args u Z 2 8 (by kernel_rfl) rfl ⟨hn,by decide⟩,AuI]
 rfl
def Ng(_:Unit):List COp:=[⟨fun a Z=>.val (.slice none 0 0) Z,some 1,tT⟩]
def Atc:List COp:=Ng ()
def Ni(_:Unit):List COp:=[⟨fun a Z=>aG (some 4) (a.get 0) Z,some 2,tT⟩,
 ⟨fun a Z=>.enter 64 [(a.get 2)] Z,some 3,tT⟩]
def Atd:List COp:=Ni ()
def SE(_:Unit):List COp:=[⟨fun a Z=>aG (some 4) (a.get 0) Z,some 4,tT⟩,
 ⟨fun a Z=>.enter 80 [(a.get 4)] Z,some 5,tT⟩,
 ⟨fun a Z=>.enter 79 [(a.get 5)] Z,some 6,tT⟩,
 ⟨fun a Z=>.val (a.get 6) Z,some 1,tT⟩]
def Ate:List COp:=SE ()
def AmM(E:Env)(ro:Option Nat)(fn:FuncId):aZ:=(aF (aD E ro Atc) (aF (aD E ro Atd) (aF (aD E ro Ate) bL)))
theorem Nh:aD E ro Atc a u Z=aD E ro (Ng ()) a u Z:=rfl
theorem Nj:aD E ro Atd a u Z=aD E ro (Ni ()) a u Z:=rfl
theorem VZ:aD E ro Ate a u Z=aD E ro (SE ()) a u Z:=rfl
theorem Au7(E:Env)(ro:Option Nat)(fn:FuncId):code Tryz.prog nls (Tryz.f78.body.getD .skip) E ro fn=AmM E ro fn:=by kernel_rfl
theorem AoA(E:Env)(args:List Value)(u:Option FrameMode)(Z:aC)(hn:args.length<=(1:Nat)):bD Tryz.prog nls E 78 args u Z=aP Tryz.prog E [.tmp 1] (AmM E none 78 ⟨bB undef 1 args,fun _=>undef,1,7,[]⟩ u Z):=by
 rw[Ap (body:=Tryz.f78.body.getD .skip) Tryz.func78 rfl E args u Z 1 7 (by kernel_rfl) rfl ⟨hn,by decide⟩,Au7]
 rfl
def RY(_:Unit):List COp:=[⟨fun a Z=>fbox 24 (a.get 0) Z,some 2,tT⟩,
 ⟨fun a Z=>fbox 24 (a.get 1) Z,some 3,tT⟩,
 ⟨fun a Z=>aM [(.int .i64 0),(.int .i64 0),(.string ⟨#[]⟩),(.slice none 0 0)] 24 none Z,some 4,tT⟩,
 ⟨fun a Z=>.val (.int .i64 0) Z,some 5,tT⟩]
def Ars:List COp:=RY ()
def RZ(_:Unit):List COp:=[⟨fun a Z=>.val (.func (.func 87) #[] #[(a.get 2),(a.get 3)]) Z,some 6,tT⟩,
 ⟨fun a Z=>.enter 82 [(a.get 6)] Z,some 7,tT⟩,
 ⟨fun a Z=>aJ 0 (a.get 7) Z,some 8,tT⟩,
 ⟨fun a Z=>aJ 1 (a.get 7) Z,some 9,tT⟩,
 ⟨fun a Z=>aK 4 (a.get 4) (a.get 8) Z,none,tT⟩,
 ⟨fun a Z=>.val (a.get 9) Z,some 5,tT⟩]
def Art:List COp:=RZ ()
def Amw(E:Env)(ro:Option Nat)(fn:FuncId):aZ:=(aF (aD E ro Ars) (aF (aD E ro Art) bL))
theorem Vr:aD E ro Ars a u Z=aD E ro (RY ()) a u Z:=rfl
theorem Vs:aD E ro Art a u Z=aD E ro (RZ ()) a u Z:=rfl
theorem AuN(E:Env)(ro:Option Nat)(fn:FuncId):code Tryz.prog nls (Tryz.f27.body.getD .skip) E ro fn=Amw E ro fn:=by kernel_rfl
theorem Aok(E:Env)(args:List Value)(u:Option FrameMode)(Z:aC)(hn:args.length<=(4:Nat)):bD Tryz.prog nls E 27 args u Z=aP Tryz.prog E [.cell 4 24,.tmp 5] (Amw E none 27 ⟨bB undef 4 args,fun _=>undef,4,10,[]⟩ u Z):=by
 rw[Ap (body:=Tryz.f27.body.getD .skip) Tryz.func27 rfl E args u Z 4 10 (by kernel_rfl) rfl ⟨hn,by decide⟩,AuN]
 rfl
def ZW(_:Unit):List COp:=[⟨fun a Z=>aM [(.int .i64 0),(.int .i64 0),(.string ⟨#[]⟩),(.slice none 0 0)] 24 none Z,some 2,tT⟩]
def AtP:List COp:=ZW ()
def Kn(_:Unit):List COp:=[⟨fun a Z=>aG (some 4) (a.get 0) Z,some 6,tT⟩,
 ⟨fun a Z=>.enter 64 [(a.get 6)] Z,some 7,tT⟩,
 ⟨fun a Z=>.val (a.get 7) Z,some 3,tT⟩]
def AtQ:List COp:=Kn ()
def Nm(_:Unit):List COp:=[⟨fun a Z=>aG (some 4) (a.get 1) Z,some 8,tT⟩,
 ⟨fun a Z=>.enter 64 [(a.get 8)] Z,some 9,tT⟩,
 ⟨fun a Z=>.val (a.get 9) Z,some 4,tT⟩]
def AtS:List COp:=Nm ()
def SR(_:Unit):List COp:=[⟨fun a Z=>aG (some 4) (a.get 0) Z,some 10,tT⟩,
 ⟨fun a Z=>.enter 80 [(a.get 10)] Z,some 11,tT⟩,
 ⟨fun a Z=>.val (a.get 11) Z,some 5,tT⟩]
def AtT:List COp:=SR ()
def ZX(_:Unit):List COp:=[⟨fun a Z=>.val (a.get 3) Z,some 12,tT⟩,
 ⟨fun a Z=>i_sub Tryz.prog 3 (.tmp 12) (.const (.int .i64 1)) (a.get 12) (.int .i64 1) Z,some 13,tT⟩,
 ⟨fun a Z=>.val (a.get 4) Z,some 14,tT⟩,
 ⟨fun a Z=>i_add Tryz.prog 3 (.tmp 13) (.tmp 14) (a.get 13) (a.get 14) Z,some 15,tT⟩,
 ⟨fun a Z=>.enter 84 [(a.get 15)] Z,some 16,tT⟩]
def AtU:List COp:=ZX ()
def ZY(_:Unit):List COp:=[⟨fun a Z=>aG (some 4) (a.get 1) Z,some 17,tT⟩,
 ⟨fun a Z=>.enter 88 [(a.get 17)] Z,some 18,tT⟩,
 ⟨fun a Z=>.val (a.get 5) Z,some 19,tT⟩,
 ⟨fun a Z=>.enter 79 [(a.get 19)] Z,some 20,tT⟩,
 ⟨fun a Z=>.enter 85 [(a.get 18),(a.get 20)] Z,some 21,tT⟩,
 ⟨fun a Z=>aK 4 (a.get 2) (a.get 21) Z,none,tT⟩]
def AtV:List COp:=ZY ()
def AmU(E:Env)(ro:Option Nat)(fn:FuncId):aZ:=(aF (aD E ro AtP) (aF (aD E ro AtQ) (aF (aD E ro AtS) (aF (aD E ro AtT) (aF (aD E ro AtU) (aF (aD E ro AtV) bL))))))
theorem AlA:aD E ro AtP a u Z=aD E ro (ZW ()) a u Z:=rfl
theorem JG:aD E ro AtQ a u Z=aD E ro (Kn ()) a u Z:=rfl
theorem Nn:aD E ro AtS a u Z=aD E ro (Nm ()) a u Z:=rfl
theorem Wc:aD E ro AtT a u Z=aD E ro (SR ()) a u Z:=rfl
theorem AlB:aD E ro AtU a u Z=aD E ro (ZX ()) a u Z:=rfl
theorem AlC:aD E ro AtV a u Z=aD E ro (ZY ()) a u Z:=rfl
theorem Avg(E:Env)(ro:Option Nat)(fn:FuncId):code Tryz.prog nls (Tryz.f87.body.getD .skip) E ro fn=AmU E ro fn:=by kernel_rfl
theorem AoI(E:Env)(args:List Value)(u:Option FrameMode)(Z:aC)(hn:args.length<=(6:Nat)):bD Tryz.prog nls E 87 args u Z=aP Tryz.prog E [.cell 2 24] (AmU E none 87 ⟨bB undef 6 args,fun _=>undef,6,22,[]⟩ u Z):=by
 rw[Ap (body:=Tryz.f87.body.getD .skip) Tryz.func87 rfl E args u Z 6 22 (by kernel_rfl) rfl ⟨hn,by decide⟩,Avg]
 rfl
def R2(_:Unit):List COp:=[⟨fun a Z=>fbox 24 (a.get 0) Z,some 1,tT⟩,
 ⟨fun a Z=>aM [(.int .i64 0),(.int .i64 0),(.string ⟨#[]⟩),(.slice none 0 0)] 24 none Z,some 2,tT⟩,
 ⟨fun a Z=>.val (.int .i64 0) Z,some 3,tT⟩]
def ArC:List COp:=R2 ()
def R3(_:Unit):List COp:=[⟨fun a Z=>.val (.func (.func 90) #[] #[(a.get 1)]) Z,some 4,tT⟩,
 ⟨fun a Z=>.enter 82 [(a.get 4)] Z,some 5,tT⟩,
 ⟨fun a Z=>aJ 0 (a.get 5) Z,some 6,tT⟩,
 ⟨fun a Z=>aJ 1 (a.get 5) Z,some 7,tT⟩,
 ⟨fun a Z=>aK 4 (a.get 2) (a.get 6) Z,none,tT⟩,
 ⟨fun a Z=>.val (a.get 7) Z,some 3,tT⟩]
def ArD:List COp:=R3 ()
def Amy(E:Env)(ro:Option Nat)(fn:FuncId):aZ:=(aF (aD E ro ArC) (aF (aD E ro ArD) bL))
theorem Vv:aD E ro ArC a u Z=aD E ro (R2 ()) a u Z:=rfl
theorem Vw:aD E ro ArD a u Z=aD E ro (R3 ()) a u Z:=rfl
theorem AuP(E:Env)(ro:Option Nat)(fn:FuncId):code Tryz.prog nls (Tryz.f29.body.getD .skip) E ro fn=Amy E ro fn:=by kernel_rfl
theorem Aom(E:Env)(args:List Value)(u:Option FrameMode)(Z:aC)(hn:args.length<=(2:Nat)):bD Tryz.prog nls E 29 args u Z=aP Tryz.prog E [.cell 2 24,.tmp 3] (Amy E none 29 ⟨bB undef 2 args,fun _=>undef,2,8,[]⟩ u Z):=by
 rw[Ap (body:=Tryz.f29.body.getD .skip) Tryz.func29 rfl E args u Z 2 8 (by kernel_rfl) rfl ⟨hn,by decide⟩,AuP]
 rfl
def Aaa(_:Unit):List COp:=[⟨fun a Z=>aM [(.int .i64 0),(.int .i64 0),(.string ⟨#[]⟩),(.slice none 0 0)] 24 none Z,some 1,tT⟩]
def At6:List COp:=Aaa ()
def Ns(_:Unit):List COp:=[⟨fun a Z=>aG (some 4) (a.get 0) Z,some 3,tT⟩,
 ⟨fun a Z=>.enter 64 [(a.get 3)] Z,some 4,tT⟩]
def At7:List COp:=Ns ()
def S0(_:Unit):List COp:=[⟨fun a Z=>aG (some 4) (a.get 0) Z,some 5,tT⟩,
 ⟨fun a Z=>.enter 80 [(a.get 5)] Z,some 6,tT⟩,
 ⟨fun a Z=>.val (a.get 6) Z,some 2,tT⟩]
def At8:List COp:=S0 ()
def Aab(_:Unit):List COp:=[⟨fun a Z=>.val (a.get 2) Z,some 7,tT⟩,
 ⟨fun a Z=>.enter 91 [(a.get 7)] Z,some 8,tT⟩]
def At9:List COp:=Aab ()
def Aac(_:Unit):List COp:=[⟨fun a Z=>bP (fun i=>nth [(0,1),(1,1),(2,1),(3,1)] i) [(.int .i64 0),(.int .i64 0),(.string ⟨#[]⟩),(.slice none 0 0)] [] Z,some 9,tT⟩,
 ⟨fun a Z=>.val (a.get 2) Z,some 10,tT⟩,
 ⟨fun a Z=>.enter 79 [(a.get 10)] Z,some 11,tT⟩,
 ⟨fun a Z=>.enter 85 [(a.get 9),(a.get 11)] Z,some 12,tT⟩,
 ⟨fun a Z=>aK 4 (a.get 1) (a.get 12) Z,none,tT⟩]
def Aua:List COp:=Aac ()
def AmX(E:Env)(ro:Option Nat)(fn:FuncId):aZ:=(aF (aD E ro At6) (aF (aD E ro At7) (aF (aD E ro At8) (aF (aD E ro At9) (aF (aD E ro Aua) bL)))))
theorem AlZ:aD E ro At6 a u Z=aD E ro (Aaa ()) a u Z:=rfl
theorem Nt:aD E ro At7 a u Z=aD E ro (Ns ()) a u Z:=rfl
theorem Wm:aD E ro At8 a u Z=aD E ro (S0 ()) a u Z:=rfl
theorem Al0:aD E ro At9 a u Z=aD E ro (Aab ()) a u Z:=rfl
theorem Al1:aD E ro Aua a u Z=aD E ro (Aac ()) a u Z:=rfl
theorem Avj(E:Env)(ro:Option Nat)(fn:FuncId):code Tryz.prog nls (Tryz.f90.body.getD .skip) E ro fn=AmX E ro fn:=by kernel_rfl
theorem AoL(E:Env)(args:List Value)(u:Option FrameMode)(Z:aC)(hn:args.length<=(3:Nat)):bD Tryz.prog nls E 90 args u Z=aP Tryz.prog E [.cell 1 24] (AmX E none 90 ⟨bB undef 3 args,fun _=>undef,3,13,[]⟩ u Z):=by
 rw[Ap (body:=Tryz.f90.body.getD .skip) Tryz.func90 rfl E args u Z 3 13 (by kernel_rfl) rfl ⟨hn,by decide⟩,Avj]
 rfl
def SB(_:Unit):List COp:=[⟨fun a Z=>.val (.slice none 0 0) Z,some 2,tT⟩,
 ⟨fun a Z=>.val (.int .i64 0) Z,some 3,tT⟩]
def As9:List COp:=SB ()
def SC(_:Unit):List COp:=[⟨fun a Z=>.val (a.get 0) Z,some 8,tT⟩,
 ⟨fun a Z=>.enter 121 [(a.get 8)] Z,some 9,tT⟩,
 ⟨fun a Z=>.val (a.get 9) Z,some 7,tT⟩,
 ⟨fun a Z=>aJ 0 (a.get 7) Z,some 10,tT⟩,
 ⟨fun a Z=>aJ 1 (a.get 7) Z,some 11,tT⟩,
 ⟨fun a Z=>aJ 2 (a.get 7) Z,some 12,tT⟩,
 ⟨fun a Z=>.val (a.get 10) Z,some 4,tT⟩,
 ⟨fun a Z=>.val (a.get 11) Z,some 5,tT⟩,
 ⟨fun a Z=>.val (a.get 12) Z,some 6,tT⟩]
def Ata:List COp:=SC ()
def SD(_:Unit):List COp:=[⟨fun a Z=>.val (a.get 4) Z,some 13,tT⟩,
 ⟨fun a Z=>.val (a.get 6) Z,some 14,tT⟩,
 ⟨fun a Z=>.val (a.get 13) Z,some 2,tT⟩,
 ⟨fun a Z=>.val (a.get 14) Z,some 3,tT⟩]
def Atb:List COp:=SD ()
def Acb(E:Env)(ro:Option Nat)(fn:FuncId):aZ:=(aF (aD E ro As9) (aF (aD E ro Ata) (aF (aD E ro Atb) bL)))
theorem VW:aD E ro As9 a u Z=aD E ro (SB ()) a u Z:=rfl
theorem VX:aD E ro Ata a u Z=aD E ro (SC ()) a u Z:=rfl
theorem VY:aD E ro Atb a u Z=aD E ro (SD ()) a u Z:=rfl
theorem Au6(E:Env)(ro:Option Nat)(fn:FuncId):code Tryz.prog nls (Tryz.f77.body.getD .skip) E ro fn=Acb E ro fn:=by kernel_rfl
theorem Abd(E:Env)(args:List Value)(u:Option FrameMode)(Z:aC)(hn:args.length<=(7:Nat)):bD Tryz.prog nls E 77 args u Z=aP Tryz.prog E [.tmp 2,.tmp 3] (Acb E none 77 ⟨bB undef 7 args,fun _=>undef,7,15,[]⟩ u Z):=by
 rw[Ap (body:=Tryz.f77.body.getD .skip) Tryz.func77 rfl E args u Z 7 15 (by kernel_rfl) rfl ⟨hn,by decide⟩,Au6]
 rfl
def K8(_:Unit):List COp:=[⟨fun a Z=>.val (.slice none 0 0) Z,some 2,tT⟩,
 ⟨fun a Z=>aM [(.int .i64 0)] 3 none Z,some 3,tT⟩,
 ⟨fun a Z=>aM [(.int .i64 0)] 32 none Z,some 4,tT⟩]
def AgF:List COp:=K8 ()
def K9(_:Unit):List COp:=[⟨fun a Z=>.val (.func (.func 148) #[] #[(a.get 3),(a.get 4)]) Z,some 5,tT⟩,
 ⟨fun a Z=>fdefer (a.get 5) [] Z,none,tT⟩]
def AgG:List COp:=K9 ()
def K_(_:Unit):List COp:=[⟨fun a Z=>.val (a.get 0) Z,some 6,tT⟩,
 ⟨fun a Z=>fcallV (a.get 6) [] Z,some 7,tT⟩,
 ⟨fun a Z=>.val (a.get 7) Z,some 2,tT⟩,
 ⟨fun a Z=>aK 1 (a.get 3) (.int .i64 0) Z,none,tT⟩,
 ⟨fun a Z=>aK 1 (a.get 4) (.int .i64 0) Z,none,tT⟩]
def AgH:List COp:=K_ ()
def Td(E:Env)(ro:Option Nat)(fn:FuncId):aZ:=(aF (aD E ro AgF) (aF (aD E ro AgG) (aF (aD E ro AgH) bL)))
theorem O9:aD E ro AgF a u Z=aD E ro (K8 ()) a u Z:=rfl
theorem O_:aD E ro AgG a u Z=aD E ro (K9 ()) a u Z:=rfl
theorem Pa:aD E ro AgH a u Z=aD E ro (K_ ()) a u Z:=rfl
theorem AnD(E:Env)(ro:Option Nat)(fn:FuncId):code Tryz.prog nls (Tryz.f121.body.getD .skip) E ro fn=Td E ro fn:=by kernel_rfl
theorem T9(E:Env)(args:List Value)(u:Option FrameMode)(Z:aC)(hn:args.length<=(5:Nat)):bD Tryz.prog nls E 121 args u Z=aP Tryz.prog E [.tmp 2,.cell 3 3,.cell 4 32] (Td E none 121 ⟨bB undef 5 args,fun _=>undef,5,8,[]⟩ u Z):=by
 rw[Ap (body:=Tryz.f121.body.getD .skip) Tryz.func121 rfl E args u Z 5 8 (by kernel_rfl) rfl ⟨hn,by decide⟩,AnD]
 rfl
def Lo(_:Unit):List COp:=[⟨fun a Z=>.recover Z,some 6,tT⟩]
def AhM:List COp:=Lo ()
def Lp(_:Unit):List COp:=[⟨fun a Z=>bO Tryz.prog 20 (.tmp 6) (.const .nilIface) (a.get 6) .nilIface Z,some 7,tT⟩]
def AhN:List COp:=Lp ()
def Q1(_:Unit):List COp:=[⟨fun a Z=>.val (a.get 6) Z,some 2,tT⟩]
def AhO:List COp:=Q1 ()
def Q2(_:Unit):List COp:=[⟨fun a Z=>fassert Tryz.prog (a.get 6) 169 true Z,some 8,tT⟩,
 ⟨fun a Z=>aJ 1 (a.get 8) Z,some 9,tT⟩,
 ⟨fun a Z=>aJ 0 (a.get 8) Z,some 10,tT⟩]
def AhP:List COp:=Q2 ()
def Q3(_:Unit):List COp:=[⟨fun a Z=>.val (a.get 10) Z,some 3,tT⟩]
def AhQ:List COp:=Q3 ()
def Q4(_:Unit):List COp:=[⟨fun a Z=>.val (a.get 3) Z,some 11,tT⟩,
 ⟨fun a Z=>.enter 136 [(a.get 11)] Z,some 12,tT⟩,
 ⟨fun a Z=>aM [(.int .i64 0),(.int .i64 0)] 171 none Z,some 4,tT⟩,
 ⟨fun a Z=>aK 2 (a.get 4) (a.get 12) Z,none,tT⟩]
def AhR:List COp:=Q4 ()
def Q5(_:Unit):List DOp:=[⟨fun a Z=>aH 1 (a.get 4) Z,some 13,tT,some 0,false⟩,
 ⟨fun a Z=>aG none (a.get 13) Z,some 14,tT,some 0,false⟩,
 ⟨fun a Z=>aK 1 (a.get 0) (a.get 14) Z,none,tT,none,false⟩,
 ⟨fun a Z=>aH 0 (a.get 4) Z,some 15,tT,some 0,false⟩,
 ⟨fun a Z=>aG none (a.get 15) Z,some 16,tT,some 0,false⟩,
 ⟨fun a Z=>aK 1 (a.get 1) (a.get 16) Z,none,tT,none,true⟩]
def AhS:List DOp:=Q5 ()
def Apk(_:Unit):List COp:=[⟨fun a Z=>.val (a.get 6) Z,some 5,tT⟩]
def AvX:List COp:=Apk ()
def Apl(_:Unit):List COp:=[⟨fun a Z=>aK 1 (a.get 1) (.int .i64 1) Z,none,tT⟩]
def AvY:List COp:=Apl ()
def Tf(E:Env)(ro:Option Nat)(fn:FuncId):aZ:=(aF (aD E ro AhM) (aW 0 (aF (aD E ro AhN) (aN (fun a=>(a.get 7)) (aD E ro AhO) (aF (aD E ro AhP) (aN (fun a=>(a.get 9)) (aF (aD E ro AhQ) (aF (aD E ro AhR) (drawR E ro AhS))) (aF (aD E ro AvX) (aD E ro AvY))))))))
theorem Pp:aD E ro AhM a u Z=aD E ro (Lo ()) a u Z:=rfl
theorem Pq:aD E ro AhN a u Z=aD E ro (Lp ()) a u Z:=rfl
theorem AdE:aD E ro AhO a u Z=aD E ro (Q1 ()) a u Z:=rfl
theorem AdF:aD E ro AhP a u Z=aD E ro (Q2 ()) a u Z:=rfl
theorem AdG:aD E ro AhQ a u Z=aD E ro (Q3 ()) a u Z:=rfl
theorem AdH:aD E ro AhR a u Z=aD E ro (Q4 ()) a u Z:=rfl
theorem AdI:bI E ro last AhS cl a u Z=bI E ro last (Q5 ()) cl a u Z:=rfl
theorem AnQ(E:Env)(ro:Option Nat)(fn:FuncId):code Tryz.prog nls (Tryz.f148.body.getD .skip) E ro fn=Tf E ro fn:=by kernel_rfl
theorem Ua(E:Env)(args:List Value)(u:Option FrameMode)(Z:aC)(hn:args.length<=(6:Nat)):bD Tryz.prog nls E 148 args u Z=aP Tryz.prog E [] (Tf E none 148 ⟨bB undef 6 args,fun _=>undef,6,17,[]⟩ u Z):=by
 rw[Ap (body:=Tryz.f148.body.getD .skip) Tryz.func148 rfl E args u Z 6 17 (by kernel_rfl) rfl ⟨hn,by decide⟩,AnQ]
 rfl
def Yb(_:Unit):List COp:=[⟨fun a Z=>.val (.slice none 0 0) Z,some 2,tT⟩]
def AqQ:List COp:=Yb ()
def Yc(_:Unit):List COp:=[⟨fun a Z=>.val (.slice none 0 0) Z,some 3,tT⟩]
def AqR:List COp:=Yc ()
def Yd(_:Unit):List COp:=[⟨fun a Z=>.val (.int .i64 0) Z,some 4,tT⟩]
def AqS:List COp:=Yd ()
def RK(_:Unit):List COp:=[⟨fun a Z=>.val (a.get 4) Z,some 5,tT⟩,
 ⟨fun a Z=>.val (a.get 0) Z,some 6,tT⟩,
 ⟨fun a Z=>flenL (a.get 6) Z,some 7,tT⟩,
 ⟨fun a Z=>i_lss Tryz.prog 3 (.tmp 5) (.tmp 7) (a.get 5) (a.get 7) Z,some 8,tT⟩]
def AqT:List COp:=RK ()
def Yf(_:Unit):List COp:=[⟨fun a Z=>.val (a.get 3) Z,some 11,tT⟩,
 ⟨fun a Z=>.val (a.get 0) Z,some 12,tT⟩,
 ⟨fun a Z=>.val (a.get 4) Z,some 13,tT⟩,
 ⟨fun a Z=>bC (none,4) (a.get 12) (a.get 13) Z,some 14,tT⟩,
 ⟨fun a Z=>aG (some 4) (a.get 14) Z,some 15,tT⟩,
 ⟨fun a Z=>.enter 10 [(a.get 15)] Z,some 16,tT⟩,
 ⟨fun a Z=>aX 24 1 4 [(.int .i64 0),(.int .i64 0),(.string ⟨#[]⟩),(.slice none 0 0)] [(0,(a.get 16))] Z,some 17,tT⟩,
 ⟨fun a Z=>fappend 24 4 56 (a.get 11) (a.get 17) Z,some 18,tT⟩,
 ⟨fun a Z=>.val (a.get 18) Z,some 3,tT⟩]
def AqV:List COp:=Yf ()
def Ye(_:Unit):List COp:=[⟨fun a Z=>.val (a.get 4) Z,some 9,tT⟩,
 ⟨fun a Z=>i_add Tryz.prog 3 (.tmp 9) (.const (.int .i64 1)) (a.get 9) (.int .i64 1) Z,some 10,tT⟩,
 ⟨fun a Z=>.val (a.get 10) Z,some 4,tT⟩]
def AqU:List COp:=Ye ()
def Abm(E:Env)(ro:Option Nat)(fn:FuncId):aZ:=(aF (aF (aD E ro AqT) (aN (fun a=>(a.get 8)) aV (exitR 0))) (aF (aW 1 (aD E ro AqV)) (aD E ro AqU)))
def Yg(_:Unit):List COp:=[⟨fun a Z=>.val (a.get 3) Z,some 19,tT⟩,
 ⟨fun a Z=>.val (a.get 19) Z,some 2,tT⟩]
def AqW:List COp:=Yg ()
def Amq(E:Env)(ro:Option Nat)(fn:FuncId):aZ:=(aF (aD E ro AqQ) (aF (aD E ro AqR) (aF (aF (aD E ro AqS) (aW 0 (loopR (bE nls fn) (Abm E ro fn)))) (aF (aD E ro AqW) bL))))
theorem Ajv:aD E ro AqQ a u Z=aD E ro (Yb ()) a u Z:=rfl
theorem Ajw:aD E ro AqR a u Z=aD E ro (Yc ()) a u Z:=rfl
theorem Ajx:aD E ro AqS a u Z=aD E ro (Yd ()) a u Z:=rfl
theorem Ve:aD E ro AqT a u Z=aD E ro (RK ()) a u Z:=rfl
theorem Ajz:aD E ro AqV a u Z=aD E ro (Yf ()) a u Z:=rfl
theorem Ajy:aD E ro AqU a u Z=aD E ro (Ye ()) a u Z:=rfl
theorem AjA:aD E ro AqW a u Z=aD E ro (Yg ()) a u Z:=rfl
theorem AuH(E:Env)(ro:Option Nat)(fn:FuncId):code Tryz.prog nls (Tryz.f21.body.getD .skip) E ro fn=Amq E ro fn:=by kernel_rfl
theorem Aoe(E:Env)(args:List Value)(u:Option FrameMode)(Z:aC)(hn:args.length<=(5:Nat)):bD Tryz.prog nls E 21 args u Z=aP Tryz.prog E [.tmp 2] (Amq E none 21 ⟨bB undef 5 args,fun _=>undef,5,20,[]⟩ u Z):=by
 rw[Ap (body:=Tryz.f21.body.getD .skip) Tryz.func21 rfl E args u Z 5 20 (by kernel_rfl) rfl ⟨hn,by decide⟩,AuH]
 rfl
def XG(_:Unit):List COp:=[⟨fun a Z=>fbox 24 (a.get 0) Z,some 1,tT⟩,
 ⟨fun a Z=>aM [(.int .i64 0),(.int .i64 0),(.string ⟨#[]⟩),(.slice none 0 0)] 24 none Z,some 2,tT⟩]
def Aqq:List COp:=XG ()
def XH(_:Unit):List COp:=[⟨fun a Z=>aH 0 (a.get 1) Z,some 5,tT⟩,
 ⟨fun a Z=>aG none (a.get 5) Z,some 6,tT⟩,
 ⟨fun a Z=>aH 1 (a.get 1) Z,some 7,tT⟩,
 ⟨fun a Z=>aG none (a.get 7) Z,some 8,tT⟩,
 ⟨fun a Z=>aH 2 (a.get 1) Z,some 9,tT⟩,
 ⟨fun a Z=>aG none (a.get 9) Z,some 10,tT⟩,
 ⟨fun a Z=>bP (fun i=>nth [(0,1),(1,1),(2,1),(3,1)] i) [(.int .i64 0),(.int .i64 0),(.string ⟨#[]⟩),(.slice none 0 0)] [(0,(a.get 6)),(1,(a.get 8)),(2,(a.get 10))] Z,some 11,tT⟩,
 ⟨fun a Z=>aM [(.int .i64 0),(.int .i64 0),(.string ⟨#[]⟩),(.slice none 0 0)] 24 none Z,some 3,tT⟩,
 ⟨fun a Z=>aK 4 (a.get 3) (a.get 11) Z,none,tT⟩]
def Aqr:List COp:=XH ()
def XI(_:Unit):List COp:=[⟨fun a Z=>.val (.int .i64 0) Z,some 4,tT⟩]
def Aqs:List COp:=XI ()
def Qx(_:Unit):List COp:=[⟨fun a Z=>.val (a.get 4) Z,some 12,tT⟩,
 ⟨fun a Z=>aH 3 (a.get 1) Z,some 13,tT⟩,
 ⟨fun a Z=>aG none (a.get 13) Z,some 14,tT⟩,
 ⟨fun a Z=>flenL (a.get 14) Z,some 15,tT⟩,
 ⟨fun a Z=>i_lss Tryz.prog 3 (.tmp 12) (.tmp 15) (a.get 12) (a.get 15) Z,some 16,tT⟩]
def Aqt:List COp:=Qx ()
def XK(_:Unit):List DOp:=[⟨fun a Z=>aH 3 (a.get 1) Z,some 21,tT,some 0,false⟩,
 ⟨fun a Z=>aG none (a.get 21) Z,some 22,tT,some 0,false⟩,
 ⟨fun a Z=>.val (a.get 4) Z,some 23,tT,some 0,false⟩,
 ⟨fun a Z=>bC (none,4) (a.get 22) (a.get 23) Z,some 24,tT,some 0,false⟩,
 ⟨fun a Z=>aG (some 4) (a.get 24) Z,some 25,tT,some 0,false⟩,
 ⟨fun a Z=>.enter 10 [(a.get 25)] Z,some 26,tT,none,false⟩,
 ⟨fun a Z=>aH 3 (a.get 3) Z,some 19,tT,some 0,false⟩,
 ⟨fun a Z=>aG none (a.get 19) Z,some 20,tT,some 0,false⟩,
 ⟨fun a Z=>aX 24 1 4 [(.int .i64 0),(.int .i64 0),(.string ⟨#[]⟩),(.slice none 0 0)] [(0,(a.get 26))] Z,some 27,tT,some 1,false⟩,
 ⟨fun a Z=>fappend 24 4 56 (a.get 20) (a.get 27) Z,some 28,tT,none,true⟩,
 ⟨fun a Z=>aH 3 (a.get 3) Z,some 29,tT,some 2,false⟩,
 ⟨fun a Z=>aK 1 (a.get 29) (a.get 28) Z,none,tT,none,true⟩]
def Aqv:List DOp:=XK ()
def XJ(_:Unit):List COp:=[⟨fun a Z=>.val (a.get 4) Z,some 17,tT⟩,
 ⟨fun a Z=>i_add Tryz.prog 3 (.tmp 17) (.const (.int .i64 1)) (a.get 17) (.int .i64 1) Z,some 18,tT⟩,
 ⟨fun a Z=>.val (a.get 18) Z,some 4,tT⟩]
def Aqu:List COp:=XJ ()
def Abk(E:Env)(ro:Option Nat)(fn:FuncId):aZ:=(aF (aF (aD E ro Aqt) (aN (fun a=>(a.get 16)) aV (exitR 0))) (aF (aW 1 (drawR E ro Aqv)) (aD E ro Aqu)))
def XL(_:Unit):List COp:=[⟨fun a Z=>aG (some 4) (a.get 3) Z,some 30,tT⟩,
 ⟨fun a Z=>aK 4 (a.get 2) (a.get 30) Z,none,tT⟩]
def Aqw:List COp:=XL ()
def Aml(E:Env)(ro:Option Nat)(fn:FuncId):aZ:=(aF (aD E ro Aqq) (aF (aD E ro Aqr) (aF (aF (aD E ro Aqs) (aW 0 (loopR (bE nls fn) (Abk E ro fn)))) (aF (aD E ro Aqw) bL))))
theorem AfZ:aD E ro Aqq a u Z=aD E ro (XG ()) a u Z:=rfl
theorem Af0:aD E ro Aqr a u Z=aD E ro (XH ()) a u Z:=rfl
theorem Af1:aD E ro Aqs a u Z=aD E ro (XI ()) a u Z:=rfl
theorem U7:aD E ro Aqt a u Z=aD E ro (Qx ()) a u Z:=rfl
theorem Af3:bI E ro last Aqv cl a u Z=bI E ro last (XK ()) cl a u Z:=rfl
theorem Af2:aD E ro Aqu a u Z=aD E ro (XJ ()) a u Z:=rfl
theorem Af4:aD E ro Aqw a u Z=aD E ro (XL ()) a u Z:=rfl
theorem AuC(E:Env)(ro:Option Nat)(fn:FuncId):code Tryz.prog nls (Tryz.f10.body.getD .skip) E ro fn=Aml E ro fn:=by kernel_rfl
theorem An9(E:Env)(args:List Value)(u:Option FrameMode)(Z:aC)(hn:args.length<=(5:Nat)):bD Tryz.prog nls E 10 args u Z=aP Tryz.prog E [.cell 2 24] (Aml E none 10 ⟨bB undef 5 args,fun _=>undef,5,31,[]⟩ u Z):=by
 rw[Ap (body:=Tryz.f10.body.getD .skip) Tryz.func10 rfl E args u Z 5 31 (by kernel_rfl) rfl ⟨hn,by decide⟩,AuC]
 rfl
end Go.Proofs.YtknnbjmcfibpgaaGreatDoor
namespace Go.Proofs.YtknnbjmcfibpgaaGreatDoor
open Go Go.Eng
attribute [local congr] Aa Af Ae Ab Ad
attribute [-go_sem] List.range_succ
def scopeK(find:Nat->Option (Bx aZ))(again:aZ->aZ)(r:KRes):KRes:=match r with
 | .done (.goto l) a u Z=>(match find l with|some rest=>again rest.un a u Z|none=>.done (.goto l) a u Z)
 | r=>r
theorem FN(find:Nat->Option (Bx aZ))(n:Nat)(run:aZ)(a:aY)(u:Option FrameMode)(Z:aC):fscope find (n+1) run a u Z=scopeK find (fscope find n) (run a u Z):=by
 show (match run a u Z with|.done (.goto l) a u Z=>(match find l with|some rest=>fscope find n rest.un a u Z|none=>.done (.goto l) a u Z)|r=>r)=_
 unfold scopeK
 rfl
theorem Wz{find:Nat->Option (Bx aZ)}{l:Nat}{r:aZ}(hf:find l=some ⟨r⟩)(again:aZ->aZ)(a:aY)(u:Option FrameMode)(Z:aC):scopeK find again (.done (.goto l) a u Z)=again r a u Z:=by
 unfold scopeK
 simp only
 rw[hf]
theorem NF(find:Nat->Option (Bx aZ))(again:aZ->aZ)(a:aY)(u:Option FrameMode)(Z:aC):scopeK find again (.done .ret a u Z)=.done .ret a u Z:=rfl
theorem OJ(b off c:Nat)(Z:aC):bC (none,4) (.slice (some ⟨b,off,none⟩) 2 c) (.int .i64 0) Z=.val (.pointer (some ⟨b,off,none⟩)) Z:=(BX b off 2 c 0 4 .i64 Z).trans (by rw[if_pos (by decide)];simp)
theorem OK(b off c:Nat)(Z:aC):bC (none,4) (.slice (some ⟨b,off,none⟩) 2 c) (.int .i64 1) Z=.val (.pointer (some ⟨b,off+4,none⟩)) Z:=(BX b off 2 c 1 4 .i64 Z).trans (by rw[if_pos (by decide)])
structure HeadEl (R:Nat->Prop) (bU:aC) (bd bt:Nat) (rest:D) (done:List D) (f:Nat->Value) (Z:aC):Prop where
 f1:f 1=.pointer (some ⟨bd,0,none⟩)
 f3:f 3=.pointer (some ⟨bt,0,none⟩)
 vec:VecG (fun b=>bU.next<=b/\b≠bd/\b≠bt) R Z (f 2) done
 hd:∃ver lv,Z.heap.get bd=some ⟨.cells lv TD,false,none,ver⟩/\lv.length=4/\aL R Z (.agg lv.toArray) rest
 ht:∃ver,Z.heap.get bt=some ⟨.cells [.int .i64 0,.int .i64 0,.string ⟨#[]⟩,.slice none 0 0] TD,false,none,ver⟩
 ne:bd≠bt
 lo:bU.next<=bd/\bU.next<=bt
 wf:Wf Z
 ext:Ext bU Z
theorem NV(E:Env){R:Nat->Prop}{bU:aC}{bd bt:Nat}(hR:∀b,R b->b<bU.next)(k z:Int)(tt:ByteArray)(td:List D)(hk:(k==5)=false):∀(es:List D) (fuel:Nat) (done:List D) (f g:Nat->Value) (Z:aC),es.length<fuel->done.length+es.length<900->HeadEl R bU bd bt (bS (.mk k z tt td) es) done f Z->
  ∃f' g' V tv,fscope (find123_0 E none 123) fuel (rest123_0_0 E none 123) (Sl 4 20 f g []) none Z=.done .ret (Sl 4 20 f' g' []) none V/\f' 3=.pointer (some ⟨bt,0,none⟩)/\VecG (fun b=>bU.next<=b/\b≠bt) R V (f' 2) (done++es)/\V.cells bt=some tv/\tv.length=4/\aL R V (.agg tv.toArray) (.mk k z tt td)/\Ext bU V/\Wf V:=by
 intro es
 induction es with
 | nil=>
  intro fuel done f g Z hf hlen h
  obtain⟨fuel,rfl⟩:∃q,fuel=q+1:=⟨fuel-1,by omega⟩
  obtain⟨ver,lv,hg,h4,hL⟩:=h.hd
  have hL0:=hL
  rw[bS] at hL
  obtain⟨q,c,hv,hE⟩:=hL
  have hlv:lv=[.int .i64 k,.int .i64 z,.string tt,.slice q td.length c]:=by
   have:=Value.agg.inj hv
   simpa using congrArg Array.toList this
  subst hlv
  have hc:=Aq hg
  obtain⟨vt,ht⟩:=h.ht
  obtain⟨o1,o2,o3⟩:=h.vec.one
  have hvw:=Dw h.wf (lam:=Z.clock) (Nat.le_refl _)
  have hlt:=(h.wf _ _ ht).1
  rw[FN]
  unfold rest123_0_0
  simp -implicitDefEqProofs only[go_sem,Ar,Pe,Ld,Ado,QL,h.f1,h.f3,hc,hk,hvw,ht,o1,o2,o3,NF]
  refine⟨_,_,_,[.int .i64 k,.int .i64 z,.string tt,.slice q td.length c],rfl,by simp -implicitDefEqProofs only[go_sem,reduceCtorEq,h.f3],?_,by rw[Ak,if_pos rfl];rfl,rfl,?_,h.ext.put _ _ _ h.lo.2,h.wf.put _ _ _ hlt⟩
  .refine(show VecG _ R Z _ done from by simp -implicitDefEqProofs only[go_sem,reduceCtorEq];exact h.vec).keep (Q:=fun b=>bU.next<=b/\b≠bd/\b≠bt) (fun b e hb hc=>⟨by rw[Am,if_neg hb.2.2];exact hc,hb.1,hb.2.2⟩) fun b cs hb hc=>⟨by rw[Ak,if_neg (by have:=hR b hb;have:=h.lo.2;omega)];exact hc,hb⟩
  .exact hL0.keep fun b cs hb hc=>⟨by rw[Ak,if_neg (by have:=hR b hb;have:=h.lo.2;omega)];exact hc,hb⟩
 | cons d es ih=>
  intro fuel done f g Z hf hlen h
  obtain⟨fuel,rfl⟩:∃q,fuel=q+1:=⟨fuel-1,by omega⟩
  rw[List.length_cons] at hf hlen
  obtain⟨ver,lv,hg,h4,hL⟩:=h.hd
  rw[bS,pairD] at hL
  obtain⟨q,c,hv,⟨b,off,cs,rfl,hRb,hcs,hle,hd⟩,⟨b',off',cs',hq',_,hcs',hle',hd'⟩,_⟩:=hL
  cases hq'
  rw[hcs] at hcs'
  cases hcs'
  have hlv:lv=[.int .i64 5,.int .i64 0,.string ⟨#[]⟩,.slice (some ⟨b,off,none⟩) 2 c]:=by
   have:=Value.agg.inj hv
   simpa using congrArg Array.toList this
  subst hlv
  have hc:=Aq hg
  obtain⟨vt,ht⟩:=h.ht
  have hbd:=h.lo.1
  have hbt:=h.lo.2
  have hbn:=hR b hRb
  have hle0:=h.ext.next
  obtain⟨l4,e4,hl4,ho4⟩:=hd.agg
  have e4':(cs.drop (off+0*4)).take 4=l4:=by
   have:=Value.agg.inj e4
   simpa using congrArg Array.toList this
  rw[e4'] at hd
  obtain⟨m4,e5,hm4,hom4⟩:=hd'.agg
  have e5':(cs.drop (off+(0+1)*4)).take 4=m4:=by
   have:=Value.agg.inj e5
   simpa using congrArg Array.toList this
  rw[e5'] at hd'
  have hdl:bd<Z.next:=(h.wf _ _ hg).1
  obtain⟨s',τ,ha,hV,hwτ,hch⟩:=KP (fun b=>bU.next<=b/\b≠bd/\b≠bt) R (fun b=>bU.next<=b/\b≠bd/\b≠bt) Z (f 2) done d l4 h.wf hl4 ho4 (by omega) h.vec hd (fun x hx hr=>by have:=hR x hr;omega) (fun x hx=>⟨by omega,by omega,by have:=(h.wf _ _ ht).1;omega⟩)
  have kR:∀x xs,R x->Z.cells x=some xs->τ.cells x=some xs:=fun x xs hx hxs=>(hch.cells (h.wf.cells hxs) (fun hq=>by have:=hR x hx;omega)).trans hxs
  have hgτ:τ.heap.get bd=_:=(hch.get bd hdl (fun hq=>hq.2.1 rfl)).trans hg
  have hcτ:=Aq hgτ
  have htτ:τ.heap.get bt=_:=(hch.get bt (h.wf _ _ ht).1 (fun hq=>hq.2.2 rfl)).trans ht
  have hcsτ:=kR _ _ hRb hcs
  rw[FN]
  unfold rest123_0_0
  have l1:4<=cs.length-off:=by omega
  have l2:4<=cs.length-(off+4):=by omega
  have e6:List.take 4 (List.drop off cs)=l4:=by simpa using e4'
  have e7:List.take 4 (List.drop (off+4) cs)=m4:=by simpa using e5'
  have nb:(b=bd)=False:=by simp;omega
  have tl4:l4.take 4=l4:=List.take_of_length_le (by omega)
  have tm4:m4.take 4=m4:=List.take_of_length_le (by omega)
  have hone:=(show VecG _ R τ s' _ from hV).one
  simp -implicitDefEqProofs only[go_sem,Ar,Pe,Ld,Adm,QJ,Adn,QK,h.f1,hc,hcs,l1,e6,l2,e7,hl4,ho4,hm4,hom4,tl4,tm4,ha,hcτ,hcsτ,hgτ,hone.1,hone.2.1,hone.2.2,OJ,OK,Afy,PQ,Wz (LX E none 123)]
  generalize hff:upd _ 2 _=f1
  generalize hgg:upd _ 17 _=g1
  have q2:f1 2=s':=by rw[<-hff];simp -implicitDefEqProofs only[go_sem,reduceCtorEq]
  have hlt2:=hgτ
  have hnτ:=hch.next
  have hX:Ext bU (τ.put bd (.cells m4 TD) none):=(((h.ext.chg _).trans hch fun b _ hq=>hq).ext fun x hx hq=>by omega).put _ _ _ hbd
  obtain⟨f2,g2,a9,tv,r1,r2,r3,r4⟩:=ih fuel (done++[d]) f1 g1 (τ.put bd (.cells m4 TD) none) (by omega) (by rw[List.length_append,List.length_singleton];omega) {
   f1:=by rw[<-hff];simp -implicitDefEqProofs only[go_sem,reduceCtorEq,h.f1]
   f3:=by rw[<-hff];simp -implicitDefEqProofs only[go_sem,reduceCtorEq,h.f3]
   vec:=by rw[q2];exact hV.keep (fun x e hx hc=>⟨by rw[Am,if_neg hx.2.1];exact hc,hx⟩) fun x xs hx hxs=>⟨by rw[Ak,if_neg (by have:=hR x hx;omega)];exact hxs,hx⟩
   hd:=⟨_,m4,by rw[Am,if_pos rfl],hm4,hd'.keep fun x xs hx hxs=>⟨by rw[Ak,if_neg (by have:=hR x hx;omega)];exact kR x xs hx hxs,hx⟩⟩
   ht:=⟨vt,by rw[Am,if_neg (Ne.symm h.ne)];exact htτ⟩
   ne:=h.ne
   lo:=h.lo
   wf:=hwτ.put _ _ _ (by omega)
   ext:=hX }
  rw[List.append_assoc] at r3
  exact⟨f2,g2,a9,tv,r1,r2,r3,r4⟩
theorem TX(n:Nat){R:Nat->Prop}(k z:Int)(tt:ByteArray)(td:List D)(hk:(k==5)=false)(es:List D)(hlen:es.length<900)(lv:List Value)(h4:lv.length=4)(Z:aC)(hw:Wf Z)(hL:aL R Z (.agg lv.toArray) (bS (.mk k z tt td) es))(hR:∀b,R b->b<Z.next):
  Gives ((env (n+1)).call 123 [.agg lv.toArray] none Z) Z fun w V=>∃(s:Value) (tv:List Value),w=.tuple #[s,.agg tv.toArray]/\tv.length=4/\VecG (fun b=>Z.next<=b) R V s es/\aL R V (.agg tv.toArray) (.mk k z tt td):=by
 have ht:lv.take 4=lv:=List.take_of_length_le (by omega)
 rw[Al _ 123 _ _ rfl,Ae9 _ _ _ _ (by simp),Aj]
 unfold AaA
 have x1:Ext Z ((Z.push (.cells lv TD) none).push (.cells [.int .i64 0,.int .i64 0,.string ⟨#[]⟩,.slice none 0 0] TD) none):=((Ext.refl _).push _ _).push _ _
 have hw1:=(hw.push (.cells lv TD) none).push (.cells [.int .i64 0,.int .i64 0,.string ⟨#[]⟩,.slice none 0 0] TD) none
 have g1:((Z.push (.cells lv TD) none).push (.cells [.int .i64 0,.int .i64 0,.string ⟨#[]⟩,.slice none 0 0] TD) none).heap.get Z.next=some ⟨.cells lv TD,false,none,Z.clock⟩:=by rw[Ai,if_neg (by rw[Ac];omega),Ai,if_pos rfl]
 have g2:((Z.push (.cells lv TD) none).push (.cells [.int .i64 0,.int .i64 0,.string ⟨#[]⟩,.slice none 0 0] TD) none).heap.get (Z.next+1)=some ⟨.cells [.int .i64 0,.int .i64 0,.string ⟨#[]⟩,.slice none 0 0] TD,false,none,Z.clock+1⟩:=by rw[Ai,if_pos (by rw[Ac])];rfl
 simp -implicitDefEqProofs only[go_sem,Adl,QI]
 generalize aC.push (aC.push Z _ _) _ _=a_ at x1 hw1 g1 g2 ⊢
 generalize hff:upd _ 3 _=f1
 generalize hbf:bF=fuel
 obtain⟨f2,g2',a9,tv,r1,r2,r3,r4,r5,r6,r7,r8⟩:=NV (env n) (bU:=Z) (bd:=Z.next) (bt:=Z.next+1) hR k z tt td hk es fuel [] f1 (fun _=>undef) a_ (by rw[<-hbf];show es.length<1000000000000;omega) (by simp;omega) {
  f1:=by rw[<-hff];simp -implicitDefEqProofs only[go_sem,reduceCtorEq]
  f3:=by rw[<-hff];simp -implicitDefEqProofs only[go_sem,reduceCtorEq]
  vec:=.inl ⟨rfl,by rw[<-hff];simp -implicitDefEqProofs only[go_sem,reduceCtorEq]⟩
  hd:=⟨_,lv,g1,h4,hL.keep fun b cs hb hc=>⟨(x1.cells (hw.cells hc)).trans hc,hb⟩⟩
  ht:=⟨_,g2⟩
  ne:=by omega
  lo:=⟨by omega,by omega⟩
  wf:=hw1
  ext:=x1 }
 have r1':=r1
 unfold rest123_0_0 at r1
 rw[r1]
 have o:=r3.one
 have ttv:tv.take 4=tv:=List.take_of_length_le (by omega)
 simp -implicitDefEqProofs only[go_sem,r2,r4,r5,ttv,o.1,o.2.1,o.2.2,Bg,AB,Av,Au,AH,AU]
 exact⟨_,_,rfl,r7,r8,_,_,rfl,r5,r3.keep (fun b e hb hc=>⟨hc,hb.1⟩) (fun b cs hb hc=>⟨hc,hb⟩),r6⟩
end Go.Proofs.YtknnbjmcfibpgaaGreatDoor
namespace Go.Proofs.YtknnbjmcfibpgaaGreatDoor
open Go Go.Eng
attribute [local congr] Aa Af Ae Ab Ad
attribute [-go_sem] List.range_succ
theorem GA(m:Nat)(ds:List D)(hC:∀d∈ds,CopyAt m d)(hfew:ds.length<1000000)(q:Option Addr)(c:Nat)(R:Nat->Prop)(Z:aC)(hw:Wf Z)(hE:aO R Z q 0 ds):
  Gives ((env (m+2)).call 79 [.slice q ds.length c] none Z) Z fun w V=>∃q' c',w=.slice q' ds.length c'/\aO (fun b=>Z.next<=b) V q' 0 ds:=by
 rw[Al _ 79 _ _ rfl,AoB _ _ _ _ (by simp),Aj]
 unfold AmN
 obtain⟨_,a9,e2,x2,hw2,q',c',rfl,hE'⟩:=OD m ds hC hfew q c R Z hw hE
 simp -implicitDefEqProofs only[go_sem,Alb,Zy,Alc,Zz,e2]
 exact⟨_,_,rfl,x2,hw2,q',c',rfl,hE'⟩
end Go.Proofs.YtknnbjmcfibpgaaGreatDoor
namespace Go.Proofs.YtknnbjmcfibpgaaGreatDoor
open Go Go.Eng
attribute [local congr] Aa Af Ae Ab Ad
attribute [-go_sem] List.range_succ
structure ListI (P:Nat->Prop) (l r bt:Nat) (f g:Nat->Value) (cur:D) (Z:aC):Prop where
 wf:Wf Z
 le:bt<r/\r<l/\l<Z.next
 fresh:∀b,l<b->P b
 loop:LoopAt 85 [9,10] EK EL 7 16 f g l r .ready Z
 col:∃ver,Z.heap.get r=some ⟨.defd true,false,none,ver⟩
 cell:∃ver tv,Z.heap.get bt=some ⟨.cells tv TD,false,none,ver⟩/\tv.length=4/\aL (fun b=>P b/\b≠l/\b≠r/\b≠bt) Z (.agg tv.toArray) cur
theorem Xq(n:Nat){P:Nat->Prop}{l r bt:Nat}{f g:Nat->Value}{cur:D}{Z:aC}(h:ListI P l r bt f g cur Z)(h2:f 2=.pointer (some ⟨bt,0,none⟩))(i:Int)(xv:List Value)(x:D)(hx:aL (fun b=>P b/\b≠l/\b≠r/\b≠bt) Z (.agg xv.toArray) x):
  ∃V,(env (n+1)).round l [.int .i64 i,.agg xv.toArray] Z=.ret (.bool true) none V/\Chg (fun b=>b=l\/b=bt) Z V/\ListI P l r bt f g (pairD x cur) V:=by
 obtain⟨hw,⟨l2,l3,l4⟩,hP,hA,⟨vr,hr⟩,⟨vt,tv,ht,htl,hcur⟩⟩:=h
 have hx0:=hx
 have hcur0:=hcur
 obtain⟨k,z,t,ds⟩:=x
 obtain⟨k',z',t',ds'⟩:=cur
 obtain⟨p,c,hv,_⟩:=hx
 obtain⟨p',c',hv',_⟩:=hcur
 have hxv:xv=[.int .i64 k,.int .i64 z,.string t,.slice p ds.length c]:=by
  have:=Value.agg.inj hv
  simpa using congrArg Array.toList this
 have htv:tv=[.int .i64 k',.int .i64 z',.string t',.slice p' ds'.length c']:=by
  have:=Value.agg.inj hv'
  simpa using congrArg Array.toList this
 subst hxv htv
 rw[JK _ _ _ _ _ _ _ _ _ n l r _ hA rfl,Acs]
 have hct:=Aq ht
 have n1:(bt=Z.next)=False:=by simp;omega
 have n2:(l=Z.next)=False:=by simp;omega
 have n3:(Z.next=l)=False:=by simp;omega
 have n4:(bt=l)=False:=by simp;omega
 have n5:(bt=Z.next+1)=False:=by simp;omega
 simp -implicitDefEqProofs only[go_sem,Ar,Alv,ZR,List.zip_cons_cons,List.zip_nil_right,FQ,GL]
 have hA1:∀o:FObj,LoopAt 85 [9,10] EK EL 7 16 f g l r .ready ((Z.push (.cells [.int .i64 0,.int .i64 0,.string ⟨#[]⟩,.slice none 0 0] TD) none).put Z.next o none):=fun o=>hA.keep (by rw[Am,if_neg (by omega),Ai,if_neg (by omega)])
 rw[EZ _ _ _ _ _ _ _ _ _ l r _ (hA1 _),Acu]
 have hg:∀(o o' o'':FObj),((((Z.push o none).put Z.next o' none).put l o'' none).push (.cells [.int .i64 k,.int .i64 z,.string t,.slice p ds.length c,.int .i64 k',.int .i64 z',.string t',.slice p' ds'.length c'] TD) none).heap.get bt=some ⟨.cells [.int .i64 k',.int .i64 z',.string t',.slice p' ds'.length c'] TD,false,none,vt⟩:=fun o o' o''=>by
  rw[Ai,if_neg (by simp only[Aw,Ac];omega),Am,if_neg (by omega),Am,if_neg (by omega),Ai,if_neg (by omega)];exact ht
 simp -implicitDefEqProofs only[go_sem,Ar,Alw,ZS,h2,hct,n1,n2,n3,n4,n5,hg,OH]
 have hB:∀(o o' o'' o3:FObj),LoopAt 85 [9,10] EK EL 7 16 f g l r .busy (((((Z.push o none).put Z.next o' none).put l (.loop .busy none 85 ((List.range 7).map f) g 7 16 [9,10] EK EL r) none).push o'' none).put bt o3 none):=fun _ _ _ _=>⟨_,by rw[Am,if_neg (by omega),Ai,if_neg (by simp only[Aw,Ac];omega),Am,if_pos rfl]⟩
 rw[Hc _ _ _ _ _ _ _ _ _ _ l r _ _ (hB _ _ _ _)]
 have hw1:=((((hw.push (.cells [.int .i64 0,.int .i64 0,.string ⟨#[]⟩,.slice none 0 0] TD) none).put Z.next (.cells [.int .i64 k,.int .i64 z,.string t,.slice p ds.length c] TD) none (Nat.lt_succ_self _)).put l (.loop .busy none 85 ((List.range 7).map f) g 7 16 [9,10] EK EL r) none (by simp only[Aw,Ac];omega)).push (.cells [.int .i64 k,.int .i64 z,.string t,.slice p ds.length c,.int .i64 k',.int .i64 z',.string t',.slice p' ds'.length c'] TD) none).put bt (.cells [.int .i64 5,.int .i64 0,.string ⟨#[]⟩,.slice (some ⟨Z.next+1,0,none⟩) 2 2] TD) none (by simp only[Aw,Ac];omega)
 have hw2:=hw1.put l (.loop .ready none 85 ((List.range 7).map f) g 7 16 [9,10] EK EL r) none (by simp only[Aw,Ac];omega)
 have kc:∀(o o' o'' o3 o4 o5:FObj) b cs,b≠l->b≠bt->Z.cells b=some cs->((((((Z.push o none).put Z.next o' none).put l o'' none).push o3 none).put bt o4 none).put l o5 none).cells b=some cs:=fun o o' o'' o3 o4 o5 b cs h1 h2 hc=>by
  have:=hw.cells hc
  rw[Ak,if_neg h1,Ak,if_neg h2,Ah,if_neg (by simp only[Aw,Ac];omega),Ak,if_neg h1,Ak,if_neg (by omega),Ah,if_neg (by omega)]
  exact hc
 have hb:∀(o o' o'' o4 o5:FObj) (vs:List Value),((((((Z.push o none).put Z.next o' none).put l o'' none).push (.cells vs TD) none).put bt o4 none).put l o5 none).cells (Z.next+1)=some vs:=fun o o' o'' o4 o5 vs=>by
  rw[Ak,if_neg (by omega),Ak,if_neg (by omega),Ah,if_pos (by simp only[Aw,Ac])];rfl
 refine⟨_,rfl,(((((((Chg.refl _ Z).push _ _).put _ _ _ (.inl (Nat.le_refl _))).put _ _ _ (.inr (.inl rfl))).push _ _).put _ _ _ (.inr (.inr rfl))).put _ _ _ (.inr (.inl rfl))),hw2,⟨l2,l3,by simp only[Aw,Ac];omega⟩,hP,LoopAt.put _ _ _ _ _ _ _ _ _ _ _ _,⟨vr,by
  rw[Am,if_neg (by omega),Am,if_neg (by omega),Ai,if_neg (by simp only[Aw,Ac];omega),Am,if_neg (by omega),Am,if_neg (by omega),Ai,if_neg (by omega)];exact hr⟩,⟨_,_,by rw[Am,if_neg (by omega),Am,if_pos rfl],rfl,?_⟩⟩
 exact⟨some ⟨Z.next+1,0,none⟩,2,rfl,⟨_,_,_,rfl,⟨hP _ (by omega),by omega,by omega,by omega⟩,hb _ _ _ _ _ _,by simp,hx0.keep fun b cs hb hc=>⟨kc _ _ _ _ _ _ b cs hb.2.1 hb.2.2.2 hc,hb⟩⟩,⟨_,_,_,rfl,⟨hP _ (by omega),by omega,by omega,by omega⟩,hb _ _ _ _ _ _,by simp,hcur0.keep fun b cs hb hc=>⟨kc _ _ _ _ _ _ b cs hb.2.1 hb.2.2.2 hc,hb⟩⟩,trivial⟩
def pre:Nat->Int
 | 0 => -1
 | k+1=>.ofNat k
theorem K1(k:Nat)(hk:k<1000000000000):wrapI (Int.ofNat k-1)=pre k:=by
 cases k with
 | zero=>decide
 | succ k=>exact AaV k (by omega)
theorem Avu:bE nls 151=[]:=by kernel_rfl
theorem NS(n:Nat){P:Nat->Prop}{l r bt bs:Nat}{fL gL:Nat->Value}(h2:fL 2=.pointer (some ⟨bt,0,none⟩))(t:D)(q:Option Addr)(c:Nat)(ds:List D)(hlen:ds.length<1000000)(hbs:bs≠l/\bs≠bt):
  ∀(j fuel:Nat) (f g:Nat->Value) (Z:aC),j<=ds.length->j<fuel->f 0=.func (.yield l) #[] #[]->f 1=.pointer (some ⟨bs,0,none⟩)->f 3=.int .i64 (pre j)->Z.cells bs=some [.slice q ds.length c]->ListI P l r bt fL gL (bS t (ds.drop j)) Z->aO (fun b=>P b/\b≠l/\b≠r/\b≠bt) Z q 0 ds->
   ∃f' g' V,floop [] (Qm (env (n+1)) none 151) fuel (Sl 4 19 f g []) none Z=.done (.exit 0) (Sl 4 19 f' g' []) none V/\Chg (fun b=>b=l\/b=bt) Z V/\ListI P l r bt fL gL (bS t ds) V:=by
 intro j
 induction j with
 | zero=>
  intro fuel f g Z hj hf f0 f1 f3 hs h hE
  obtain⟨fuel,rfl⟩:∃q,fuel=q+1:=⟨fuel-1,by omega⟩
  have d1:decide (pre 0≥0)=false:=by decide
  rw[Ao]
  unfold Qm
  simp -implicitDefEqProofs only[go_sem,Pt,Lt,f3,d1]
  exact⟨_,_,_,rfl,Chg.refl _ _,h⟩
 | succ j ih=>
  intro fuel f g Z hj hf f0 f1 f3 hs h hE
  obtain⟨fuel,rfl⟩:∃q,fuel=q+1:=⟨fuel-1,by omega⟩
  rw[pre] at f3
  have d1:decide (Int.ofNat j≥0)=true:=by simp
  have hd:ds[j]? = some ds[j]:=List.getElem?_eq_getElem (by omega)
  obtain⟨b,off,cs,rfl,hRb,hcs,hle,hL⟩:=aO.get hE hd
  rw[Nat.zero_add] at hle hL
  obtain⟨a_,e1,ch1,h1⟩:=Xq n h h2 (Int.ofNat j) _ _ hL
  rw[show pairD ds[j] (bS t (ds.drop (j+1)))=bS t (ds.drop j) by rw[List.drop_eq_getElem_cons (by omega:j<ds.length)];rfl] at h1
  have w1:=K1 j (by omega)
  have hjl:j<ds.length:=by omega
  have hn:=h.wf.cells hs
  have hs1:a_.cells bs=some [.slice (some ⟨b,off,none⟩) ds.length c]:=(ch1.cells hn (fun e=>by rcases e with e|e<;>omega)).trans hs
  rw[Ao]
  unfold Qm
  simp -implicitDefEqProofs only[go_sem,Pt,Lt,AdQ,Rc,AdR,Rd,f0,f1,f3,d1,hs,hjl,hcs,hle,Eo,EB,e1,w1]
  generalize hff:upd _ 3 _=f2
  obtain⟨f',g',V,a1,a2,a3⟩:=ih fuel f2 _ a_ (by omega) (by omega) (by rw[<-hff];simp -implicitDefEqProofs only[go_sem,reduceCtorEq,f0]) (by rw[<-hff];simp -implicitDefEqProofs only[go_sem,reduceCtorEq,f1]) (by rw[<-hff];simp -implicitDefEqProofs only[go_sem,reduceCtorEq]) hs1 h1 (hE.keep fun x xs hx hxs=>⟨(ch1.cells (h.wf.cells hxs) (fun e=>by rcases e with e|e<;>omega)).trans hxs,hx⟩)
  exact⟨f',g',V,a1,ch1.trans a2 fun _ _ h=>h,a3⟩
theorem TF(n:Nat)(s:Value)(hs:oneCell s=true)(Z:aC)(hw:Wf Z):
  ∃V,(env (n+1)).call 126 [s] none Z=.ret (.func (.func 151) #[] #[.pointer (some ⟨Z.next,0,none⟩)]) none V/\Ext Z V/\Wf V/\V.cells Z.next=some [s]/\V.next=Z.next+1:=by
 rw[Al _ 126 _ _ rfl,Afb _ _ _ _ (by simp),Aj]
 unfold AaC
 have o:aI s=[s]/\aU s=true:=by cases s<;>first|exact⟨rfl,rfl⟩|cases hs
 simp -implicitDefEqProofs only[go_sem,Adq,QN,Adr,QO,hs,o.1,o.2,Ek,E7,Fg]
 exact⟨_,rfl,(Ext.refl _).push _ _,hw.push _ _,by rw[Ah,if_pos rfl];rfl,rfl⟩
end Go.Proofs.YtknnbjmcfibpgaaGreatDoor
namespace Go.Proofs.YtknnbjmcfibpgaaGreatDoor
open Go Go.Eng
attribute [local congr] Aa Af Ae Ab Ad
attribute [-go_sem] List.range_succ
theorem PU(n:Nat){P:Nat->Prop}{l r bt bs:Nat}{fL gL:Nat->Value}(h2:fL 2=.pointer (some ⟨bt,0,none⟩))(t:D)(q:Option Addr)(c:Nat)(ds:List D)(hlen:ds.length<1000000)(hbs:bs≠l/\bs≠bt)(Z:aC)(hs:Z.cells bs=some [.slice q ds.length c])(h:ListI P l r bt fL gL t Z)(hE:aO (fun b=>P b/\b≠l/\b≠r/\b≠bt) Z q 0 ds):
  ∃V,(env (n+2)).call 151 [.func (.yield l) #[] #[],.pointer (some ⟨bs,0,none⟩)] none Z=.ret (.tuple #[]) none V/\Chg (fun b=>b=l\/b=bt) Z V/\ListI P l r bt fL gL (bS t ds) V:=by
 rw[Al _ 151 _ _ rfl,Afh _ _ _ _ (by simp),Aj]
 unfold AaI
 have w1:=K1 ds.length (by omega)
 simp -implicitDefEqProofs only[go_sem,AdP,Rb,hs,w1,Avu]
 generalize hff:upd _ 3 _=f2
 generalize hbf:bF=fuel
 obtain⟨f',g',V,a1,a2,a3⟩:=NS n h2 t q c ds hlen hbs ds.length fuel f2 _ Z (Nat.le_refl _) (by rw[<-hbf];show ds.length<1000000000000;omega) (by rw[<-hff];simp -implicitDefEqProofs only[go_sem,reduceCtorEq]) (by rw[<-hff];simp -implicitDefEqProofs only[go_sem,reduceCtorEq]) (by rw[<-hff];simp -implicitDefEqProofs only[go_sem,reduceCtorEq]) hs (by rw[List.drop_length];exact h) hE
 rw[a1]
 simp -implicitDefEqProofs only[go_sem]
 exact⟨_,rfl,a2,a3⟩
theorem Qo(n lo:Nat)(t:D)(ds:List D)(hlen:ds.length<1000000)(tv:List Value)(h4:tv.length=4)(q:Option Addr)(c:Nat)(Z:aC)(hw:Wf Z)(hlo:lo<=Z.next)(hT:aL (fun b=>lo<=b) Z (.agg tv.toArray) t)(hE:aO (fun b=>lo<=b) Z q 0 ds):
  Gives ((env (n+3)).call 85 [.agg tv.toArray,.slice q ds.length c] none Z) Z fun w V=>aL (fun b=>lo<=b) V w (bS t ds):=by
 have ht4:tv.take 4=tv:=List.take_of_length_le (by omega)
 rw[Al _ 85 _ _ rfl,AoG _ _ _ _ (by simp),Aj]
 unfold AmS
 have x1:Ext Z ((Z.push (.cells tv TD) none).push (.cells [.int .i64 0,.int .i64 0,.string ⟨#[]⟩,.slice none 0 0] TD) none):=((Ext.refl _).push _ _).push _ _
 have hw1:=(hw.push (.cells tv TD) none).push (.cells [.int .i64 0,.int .i64 0,.string ⟨#[]⟩,.slice none 0 0] TD) none
 have g1:((Z.push (.cells tv TD) none).push (.cells [.int .i64 0,.int .i64 0,.string ⟨#[]⟩,.slice none 0 0] TD) none).heap.get Z.next=some ⟨.cells tv TD,false,none,Z.clock⟩:=by rw[Ai,if_neg (by rw[Ac];omega),Ai,if_pos rfl]
 have g2:((Z.push (.cells tv TD) none).push (.cells [.int .i64 0,.int .i64 0,.string ⟨#[]⟩,.slice none 0 0] TD) none).heap.get (Z.next+1)=some ⟨.cells [.int .i64 0,.int .i64 0,.string ⟨#[]⟩,.slice none 0 0] TD,false,none,Z.clock+1⟩:=by rw[Ai,if_pos (by rw[Ac])];rfl
 have n1:((Z.push (.cells tv TD) none).push (.cells [.int .i64 0,.int .i64 0,.string ⟨#[]⟩,.slice none 0 0] TD) none).next=Z.next+2:=rfl
 obtain⟨a9,e2,x2,hw2,c2,n2⟩:=TF (n+1) (.slice q ds.length c) rfl _ hw1
 rw[n1] at e2 c2 n2
 simp -implicitDefEqProofs only[go_sem,Alt,ZP,Alu,ZQ,e2]
 generalize hff:upd _ 4 _=f1
 generalize hgg:upd _ 8 _=g1'
 have q2:f1 2=.pointer (some ⟨Z.next,0,none⟩):=by rw[<-hff];simp -implicitDefEqProofs only[go_sem,reduceCtorEq]
 have q4:f1 4=.pointer (some ⟨Z.next+1,0,none⟩):=by rw[<-hff];simp -implicitDefEqProofs only[go_sem,reduceCtorEq]
 have hg12:=(x2.get _ (by rw[n1];omega)).trans g1
 have hg22:=(x2.get _ (by rw[n1];omega)).trans g2
 have x12:=x1.trans x2
 clear hff
 rw[J3 _ _ _ _ _ _ _ _ _ _ _ _ 8 151 #[] #[.pointer (some ⟨Z.next+2,0,none⟩)] (by rw[PN,<-hgg];simp -implicitDefEqProofs only[go_sem,reduceCtorEq])]
 clear hgg
 have x3:Ext a9 ((a9.push (.defd true) none).push (.loop .ready none 85 ((List.range 7).map f1) g1' 7 16 [9,10] EK EL a9.next) none):=((Ext.refl _).push _ _).push _ _
 have hw3:=(hw2.push (.defd true) none).push (.loop .ready none 85 ((List.range 7).map f1) g1' 7 16 [9,10] EK EL a9.next) none
 have hl3:LoopAt 85 [9,10] EK EL 7 16 f1 g1' (a9.next+1) a9.next .ready ((a9.push (.defd true) none).push (.loop .ready none 85 ((List.range 7).map f1) g1' 7 16 [9,10] EK EL a9.next) none):=J7 ..
 have hr3:((a9.push (.defd true) none).push (.loop .ready none 85 ((List.range 7).map f1) g1' 7 16 [9,10] EK EL a9.next) none).heap.get a9.next=some ⟨.defd true,false,none,a9.clock⟩:=by rw[Ai,if_neg (by rw[Ac];omega),Ai,if_pos rfl]
 have n3:((a9.push (.defd true) none).push (.loop .ready none 85 ((List.range 7).map f1) g1' 7 16 [9,10] EK EL a9.next) none).next=a9.next+2:=rfl
 generalize aC.push (aC.push a9 _ _) _ _=bT at x3 hw3 hl3 hr3 n3 ⊢
 have x03:=x12.trans x3
 have kl:∀b cs,lo<=b->Z.cells b=some cs->bT.cells b=some cs/\((lo<=b/\b≠Z.next+1)/\b≠a9.next+1/\b≠a9.next/\b≠Z.next):=fun b cs hb hc=>by
  have:=hw.cells hc
  exact⟨(x03.cells this).trans hc,⟨hb,by omega⟩,by omega,by omega,by omega⟩
 obtain⟨bX,e4,ch4,hI⟩:=PU n (P:=fun b=>lo<=b/\b≠Z.next+1) (l:=a9.next+1) (r:=a9.next) (bt:=Z.next) (bs:=Z.next+2) (fL:=f1) (gL:=g1') q2 t q c ds hlen ⟨by omega,by omega⟩ bT ((x3.cells (by omega)).trans c2) ⟨hw3,⟨by omega,by omega,by omega⟩,fun b hb=>⟨by omega,by omega⟩,hl3,⟨_,hr3⟩,⟨_,tv,(x3.get _ (by omega)).trans hg12,h4,hT.keep kl⟩⟩ (hE.keep kl)
 have hargs:(#[]:Array Value).toList++[Value.func (.yield (a9.next+1)) #[] #[]]++(#[.pointer (some ⟨Z.next+2,0,none⟩)]:Array Value).toList=[.func (.yield (a9.next+1)) #[] #[],.pointer (some ⟨Z.next+2,0,none⟩)]:=rfl
 obtain⟨hw4,⟨l2,l3,l4⟩,_,hl4,⟨vr,hr4⟩,⟨vt,tv4,ht4',htl4,hL4⟩⟩:=hI
 rw[hargs,e4,Jb _ _ _ _ _ _ _ _ _ _ _ _ _ _ _ _ hl4]
 have n4:=ch4.next
 have c4:=Aq ht4'
 have hg24:bX.heap.get (Z.next+1)=_:=(ch4.get _ (by omega) (fun e=>by rcases e with e|e<;>omega)).trans ((x3.get _ (by omega)).trans hg22)
 have tt4:tv4.take 4=tv4:=List.take_of_length_le (by omega)
 obtain⟨l4',e4',_,ho4⟩:=hL4.agg
 have e5:tv4=l4':=by
  have:=Value.agg.inj e4'
  simpa using congrArg Array.toList this
 subst e5
 have c5:∀o:FObj,(bX.put (a9.next+1) o none).cells Z.next=some tv4:=fun o=>by rw[Ak,if_neg (by omega)];exact c4
 have g5:∀o:FObj,(bX.put (a9.next+1) o none).heap.get (Z.next+1)=some ⟨.cells [.int .i64 0,.int .i64 0,.string ⟨#[]⟩,.slice none 0 0] TD,false,none,Z.clock+1⟩:=fun o=>by rw[Am,if_neg (by omega)];exact hg24
 have hcol:∀(o o':FObj),((bX.put (a9.next+1) o none).put (Z.next+1) o' none).heap.get a9.next=some ⟨.defd true,false,none,vr⟩:=fun o o'=>by rw[Am,if_neg (by omega),Am,if_neg (by omega)];exact hr4
 simp -implicitDefEqProofs only[go_sem,Ar,Alx,ZT,q2,q4,c5,g5,htl4,tt4,ho4,Nat.le_refl]
 rw[Gb _ _ _ _ _ _ _ _ _ _ (hcol _ _)]
 have cf:∀(o o':FObj),(((bX.put (a9.next+1) o none).put (Z.next+1) (.cells tv4 TD) none).put a9.next o' none).cells (Z.next+1)=some tv4:=fun o o'=>by rw[Ak,if_neg (by omega),Ak,if_pos rfl];rfl
 simp -implicitDefEqProofs only[go_sem,q4,cf,htl4,tt4,Bg,AB,Av,Au,AH]
 have x04:Ext Z bX:=((x03.chg _).trans ch4 fun b _ h=>h).ext fun b hb h=>by rcases h with h|h<;>omega
 exact⟨_,_,rfl,((x04.put _ _ _ (by omega)).put _ _ _ (by omega)).put _ _ _ (by omega),((hw4.put _ _ _ (by omega)).put _ _ _ (by rw[Aw];omega)).put _ _ _ (by rw[Aw,Aw];omega),hL4.keep fun b cs hb hc=>⟨by
  rw[Ak,if_neg hb.2.2.1,Ak,if_neg hb.1.2,Ak,if_neg hb.2.1];exact hc,hb.1.1⟩⟩
end Go.Proofs.YtknnbjmcfibpgaaGreatDoor
namespace Go.Proofs.YtknnbjmcfibpgaaGreatDoor
open Go Go.Eng
attribute [local congr] Aa Af Ae Ab Ad
attribute [-go_sem] List.range_succ
theorem AaT(cs l4:List Value)(off j:Nat)(hl:l4.length=4)(ho:off+4<=cs.length)(h:j+4<=off\/off+4<=j):((cs.take off++l4++cs.drop (off+4)).drop j).take 4=(cs.drop j).take 4:=by
 apply List.ext_getElem?
 intro i
 rw[List.getElem?_take,List.getElem?_take]
 split
 .rw[List.getElem?_drop,List.getElem?_drop]
  rcases h with h|h
  .rw[List.append_assoc,List.getElem?_append_left (by rw[List.length_take];omega),List.getElem?_take,if_pos (by omega)]
  .rw[List.getElem?_append_right (by rw[List.length_append,List.length_take];omega),List.getElem?_drop,List.length_append,List.length_take,hl]
   congr 1
   omega
 .rfl
theorem Aez(cs l4:List Value)(off:Nat)(hl:l4.length=4)(ho:off+4<=cs.length):((cs.take off++l4++cs.drop (off+4)).drop off).take 4=l4:=by
 rw[List.append_assoc,List.drop_append_of_le_length (by rw[List.length_take];omega),List.drop_eq_nil_of_le (by rw[List.length_take];omega),List.nil_append,List.take_append_of_le_length (by omega),List.take_of_length_le (by omega)]
theorem Row.set{R:Nat->Prop}{Z:aC}{cs l4:List Value}{ds:List D}{d:D}(h:Row R Z cs ds)(i:Nat)(hi:i<ds.length)(hl:l4.length=4)(ho:l4.all oneCell=true)(hd:aL R Z (.agg l4.toArray) d):Row R Z (cs.take (i*4)++l4++cs.drop (i*4+4)) (ds.set i d):=by
 obtain⟨h1,h2,h3⟩:=h
 refine⟨by rw[List.length_append,List.length_append,List.length_take,List.length_drop,List.length_set];omega,?_,fun j e he=>?_⟩
 .rw[List.all_append,List.all_append,ho]
  have a1:(cs.take (i*4)).all oneCell=true:=List.all_eq_true.2 fun x hx=>List.all_eq_true.1 h2 x (List.mem_of_mem_take hx)
  have a2:(cs.drop (i*4+4)).all oneCell=true:=List.all_eq_true.2 fun x hx=>List.all_eq_true.1 h2 x (List.mem_of_mem_drop hx)
  rw[a1,a2];rfl
 .by_cases hj:i=j
  .subst hj
   rw[List.getElem?_set_self (by omega)] at he
   cases he
   rw[Aez cs l4 _ hl (by omega)]
   exact hd
  .rw[List.getElem?_set_ne hj] at he
   rw[AaT cs l4 _ _ hl (by omega) (by omega)]
   exact h3 j e he
def Turned(ds:List D)(i:Nat)(cur:List D):Prop:=cur.length=ds.length/\∀k,k<ds.length->cur[k]? = if k<i\/ds.length-i<=k then ds[ds.length-1-k]? else ds[k]?
theorem Turned.step{ds cur:List D}{i:Nat}(h:Turned ds i cur)(hi:i+1+i<ds.length):∃x y,cur[i]? = some x/\cur[ds.length-1-i]? = some y/\Turned ds (i+1) ((cur.set i y).set (ds.length-1-i) x):=by
 obtain⟨h1,h2⟩:=h
 have e1:=h2 i (by omega)
 have e2:=h2 (ds.length-1-i) (by omega)
 rw[if_neg (by omega)] at e1
 rw[if_neg (by omega)] at e2
 obtain⟨x,hx⟩:∃x,ds[i]? = some x:=⟨_,List.getElem?_eq_getElem (by omega)⟩
 obtain⟨y,hy⟩:∃y,ds[ds.length-1-i]? = some y:=⟨_,List.getElem?_eq_getElem (by omega)⟩
 refine⟨x,y,by rw[e1,hx],by rw[e2,hy],by rw[List.length_set,List.length_set,h1],fun k hk=>?_⟩
 by_cases k1:ds.length-1-i=k
 .subst k1
  rw[List.getElem?_set_self (by rw[List.length_set];omega),if_pos (by omega),show ds.length-1-(ds.length-1-i)=i by omega,hx]
 .rw[List.getElem?_set_ne k1]
  by_cases k2:i=k
  .subst k2
   rw[List.getElem?_set_self (by omega),if_pos (by omega),hy]
  .rw[List.getElem?_set_ne k2,h2 k hk]
   by_cases c:k<i\/ds.length-i<=k
   .rw[if_pos c,if_pos (by omega)]
   .rw[if_neg c,if_neg (by omega)]
theorem Turned.done{ds cur:List D}{i:Nat}(h:Turned ds i cur)(hi:ds.length<=i+1+i):cur=ds.reverse:=by
 obtain⟨h1,h2⟩:=h
 apply List.ext_getElem?
 intro k
 by_cases hk:k<ds.length
 .rw[List.getElem?_reverse hk,h2 k hk]
  by_cases c:k<i\/ds.length-i<=k
  .rw[if_pos c]
  .rw[if_neg c,show ds.length-1-k=k by omega]
 .rw[List.getElem?_eq_none (by omega),List.getElem?_eq_none (by rw[List.length_reverse];omega)]
theorem Turned.start(ds:List D):Turned ds 0 ds:=⟨rfl,fun k hk=>by rw[if_neg (by omega)]⟩
theorem Xm:bE nls 91=[]:=by kernel_rfl
theorem Ta(n:Nat){R:Nat->Prop}{b c:Nat}{ds:List D}(hlen:ds.length<1000000)(h0:0<ds.length)(hR:¬ R b):
  ∀(j fuel i:Nat) (cur:List D) (cs:List Value) (ver:Nat) (f g:Nat->Value) (Z:aC),ds.length<=i+1+i+j->2*i<=ds.length->j<fuel->f 0=.slice (some ⟨b,0,none⟩) ds.length c->f 2=.int .i64 (.ofNat i)->f 3=.int .i64 (.ofNat (ds.length-1-i))->Wf Z->Z.heap.get b=some ⟨.cells cs TD,false,some 4,ver⟩->Row R Z cs cur->Turned ds i cur->
   ∃f' g' V cs' ver',floop [] (OW (env n) none 91) fuel (Sl 4 28 f g []) none Z=.done (.exit 0) (Sl 4 28 f' g' []) none V/\Chg (fun x=>x=b) Z V/\Wf V/\V.heap.get b=some ⟨.cells cs' TD,false,some 4,ver'⟩/\Row R V cs' ds.reverse:=by
 intro j
 induction j with
 | zero=>
  intro fuel i cur cs ver f g Z hj hi2 hf f0 f2 f3 hw hb hr ht
  obtain⟨fuel,rfl⟩:∃q,fuel=q+1:=⟨fuel-1,by omega⟩
  have d1:decide (Int.ofNat i<Int.ofNat (ds.length-1-i))=false:=by simp;omega
  rw[Ao]
  unfold OW
  simp -implicitDefEqProofs only[go_sem,JJ,Ko,f2,f3,d1]
  have:=ht.done (by omega)
  subst this
  exact⟨_,_,_,_,_,rfl,Chg.refl _ _,hw,hb,hr⟩
 | succ j ih=>
  intro fuel i cur cs ver f g Z hj hi2 hf f0 f2 f3 hw hb hr ht
  by_cases hlt:i+1+i<ds.length
  .obtain⟨fuel,rfl⟩:∃q,fuel=q+1:=⟨fuel-1,by omega⟩
   have d1:decide (Int.ofNat i<Int.ofNat (ds.length-1-i))=true:=by simp;omega
   obtain⟨x,y,hx,hy,ht'⟩:=ht.step hlt
   have hil:i<ds.length:=by omega
   have hjl:ds.length-1-i<ds.length:=by omega
   have hcl:cs.length=ds.length*4:=by rw[hr.1,ht.1]
   have hbn:=(hw _ _ hb).1
   have hc:=Aq hb
   have hvw:=Dw hw (lam:=Z.clock) (Nat.le_refl _)
   have m1:4<=cs.length-i*4:=by omega
   have m2:4<=cs.length-(ds.length-1-i)*4:=by omega
   have hLx:=hr.2.2 _ _ hx
   have hLy:=hr.2.2 _ _ hy
   obtain⟨xl,ex,hxl,hxo⟩:=hLx.agg
   obtain⟨yl,ey,hyl,hyo⟩:=hLy.agg
   have ex':(cs.drop (i*4)).take 4=xl:=by
    have:=Value.agg.inj ex
    simpa using congrArg Array.toList this
   have ey':(cs.drop ((ds.length-1-i)*4)).take 4=yl:=by
    have:=Value.agg.inj ey
    simpa using congrArg Array.toList this
   rw[ex'] at hLx
   rw[ey'] at hLy
   have w1:=Ga i (by omega)
   have w2:wrapI (Int.ofNat (ds.length-1-i)-1)=Int.ofNat (ds.length-1-(i+1)):=by
    have:=AaV (ds.length-1-(i+1)) (by omega)
    rwa [show ds.length-1-(i+1)+1=ds.length-1-i by omega] at this
   have m3:i*4+4<=cs.length:=by omega
   have m4:(ds.length-1-i)*4+4<=(cs.take (i*4)++(yl++cs.drop (i*4+4))).length:=by
    rw[List.length_append,List.length_append,List.length_take,List.length_drop];omega
   rw[Ao]
   unfold OW
   simp -implicitDefEqProofs only[go_sem,Ar,JJ,Ko,Al2,Aad,Al3,Aae,f0,f2,f3,d1,hil,hjl,hvw,hc,hb,m1,m2,ex',ey',hxl,hxo,hyl,hyo,m3,m4,w1,w2,List.append_assoc]
   generalize hff:upd _ 3 _=f1
   have kp:∀(o o':FObj) x xs,R x->Z.cells x=some xs->((Z.put b o (some 4)).put b o' (some 4)).cells x=some xs/\R x:=fun o o' x xs hx hxs=>by
    have:x≠b:=fun e=>hR (e ▸ hx)
    exact⟨by rw[Ak,if_neg this,Ak,if_neg this];exact hxs,hx⟩
   have hr2:Row R ((Z.put b (.cells (cs.take (i*4)++(yl++cs.drop (i*4+4))) TD) (some 4)).put b (.cells ((cs.take (i*4)++(yl++cs.drop (i*4+4))).take ((ds.length-1-i)*4)++(xl++(cs.take (i*4)++(yl++cs.drop (i*4+4))).drop ((ds.length-1-i)*4+4))) TD) (some 4)) ((cs.take (i*4)++(yl++cs.drop (i*4+4))).take ((ds.length-1-i)*4)++(xl++(cs.take (i*4)++(yl++cs.drop (i*4+4))).drop ((ds.length-1-i)*4+4))) ((cur.set i y).set (ds.length-1-i) x):=by
    have:=Row.set (Row.set (hr.keep (kp (.cells (cs.take (i*4)++(yl++cs.drop (i*4+4))) TD) (.cells ((cs.take (i*4)++(yl++cs.drop (i*4+4))).take ((ds.length-1-i)*4)++(xl++(cs.take (i*4)++(yl++cs.drop (i*4+4))).drop ((ds.length-1-i)*4+4))) TD))) i (by rw[ht.1];omega) hyl hyo (hLy.keep (kp _ _))) (ds.length-1-i) (by rw[List.length_set,ht.1];omega) hxl hxo (hLx.keep (kp _ _))
    simpa only[List.append_assoc] using this
   obtain⟨f',g',V,cs',ver',a1,a2,a3,a4,a5⟩:=ih fuel (i+1) _ _ _ f1 _ _ (by omega) (by omega) (by omega) (by rw[<-hff];simp -implicitDefEqProofs only[go_sem,reduceCtorEq,f0]) (by rw[<-hff];simp -implicitDefEqProofs only[go_sem,reduceCtorEq]) (by rw[<-hff];simp -implicitDefEqProofs only[go_sem,reduceCtorEq]) ((hw.put b _ _ hbn).put b _ _ (by rw[Aw];exact hbn)) (by rw[Am,if_pos rfl]) hr2 ht'
   exact⟨f',g',V,cs',ver',a1,(((Chg.refl (fun x=>x=b) Z).put _ _ _ (.inr rfl)).put _ _ _ (.inr rfl)).trans a2 fun _ _ h=>h,a3,a4,a5⟩
  .exact ih fuel i cur cs ver f g Z (by omega) hi2 (by omega) f0 f2 f3 hw hb hr ht
theorem Aaw(n:Nat){Q R:Nat->Prop}(hQR:∀b,Q b->¬ R b){s:Value}{ds:List D}(hlen:ds.length<1000000)(Z:aC)(hw:Wf Z)(hV:VecG Q R Z s ds):
  ∃V,(env (n+1)).call 91 [s] none Z=.ret (.tuple #[]) none V/\Chg Q Z V/\Wf V/\VecG Q R V s ds.reverse:=by
 rw[Al _ 91 _ _ rfl,AoM _ _ _ _ (by simp),Aj]
 unfold AmY
 rcases hV with⟨rfl,rfl⟩|⟨b,cs,ver,rfl,hb,hq,hr⟩
 .have w1:wrapI (Int.ofNat 0-1) = -1:=by decide
  have d1:decide ((0:Int) < -1)=false:=by decide
  simp -implicitDefEqProofs only[go_sem,Nv,Nu,w1,Xm]
  rw[show bF=999999999999+1 from rfl,Ao]
  unfold OW
  simp -implicitDefEqProofs only[go_sem,JJ,Ko,d1]
  exact⟨_,rfl,Chg.refl _ _,hw,.inl ⟨rfl,rfl⟩⟩
 .by_cases h0:ds.length=0
  .have:ds=[]:=List.length_eq_zero_iff.1 h0
   subst this
   have w1:wrapI (Int.ofNat 0-1) = -1:=by decide
   have d1:decide ((0:Int) < -1)=false:=by decide
   simp -implicitDefEqProofs only[go_sem,Nv,Nu,w1,Xm]
   rw[show bF=999999999999+1 from rfl,Ao]
   unfold OW
   simp -implicitDefEqProofs only[go_sem,JJ,Ko,d1]
   exact⟨_,rfl,Chg.refl _ _,hw,.inr ⟨b,cs,ver,rfl,hb,hq,hr⟩⟩
  .have w1:wrapI (Int.ofNat ds.length-1)=Int.ofNat (ds.length-1):=by
    have:=AaV (ds.length-1) (by omega)
    rwa [show ds.length-1+1=ds.length by omega] at this
   simp -implicitDefEqProofs only[go_sem,Nv,Nu,w1,Xm]
   generalize hff:upd _ 3 _=f1
   generalize hbf:bF=fuel
   obtain⟨f',g',V,cs',ver',a1,a2,a3,a4,a5⟩:=Ta n (c:=ds.length) hlen (by omega) (hQR b hq) ds.length fuel 0 ds cs ver f1 _ Z (by omega) (by omega) (by rw[<-hbf];show ds.length<1000000000000;omega) (by rw[<-hff];simp -implicitDefEqProofs only[go_sem,reduceCtorEq]) (by rw[<-hff];simp -implicitDefEqProofs only[go_sem,reduceCtorEq]<;>rfl) (by rw[<-hff];simp -implicitDefEqProofs only[go_sem,reduceCtorEq,Nat.sub_zero]) hw hb hr (Turned.start ds)
   rw[a1]
   simp -implicitDefEqProofs only[go_sem]
   exact⟨_,rfl,a2.weaken fun x _ e=>by rw[e];exact hq,a3,.inr ⟨b,cs',ver',by rw[List.length_reverse],a4,hq,a5⟩⟩
end Go.Proofs.YtknnbjmcfibpgaaGreatDoor
namespace Go.Proofs.YtknnbjmcfibpgaaGreatDoor
open Go Go.Eng
attribute [local congr] Aa Af Ae Ab Ad
attribute [-go_sem] List.range_succ
theorem TW(n:Nat)(p q:Value)(Z:aC):(env (n+1)).call 148 [p,q] (some .returning) Z=.ret (.tuple #[]) (some .returning) Z:=by
 rw[Hz,Ua _ _ _ _ (by simp),Aj]
 unfold Tf
 simp -implicitDefEqProofs only[go_sem,Pp,Lo,Pq,Lp,AdE,Q1,AfQ]
theorem Anw(n w:Nat)(cap:Array Value)(ds:List D)(Z:aC)(hw:Wf Z)(h:∀V,Ext Z V->Wf V->Gives ((env (n+1)).call w cap.toList none V) V fun v cA=>∃q c,v=.slice q ds.length c/\aO (fun b=>V.next<=b) cA q 0 ds):
  Gives ((env (n+2)).call 121 [.func (.func w) #[] cap] none Z) Z fun v V=>∃q c,v=.tuple #[.slice q ds.length c,.int .i64 0,.int .i64 0]/\aO (fun b=>Z.next<=b) V q 0 ds:=by
 rw[Al _ 121 _ _ rfl,T9 _ _ _ _ (by simp),Aj]
 unfold Td
 have hX1:Ext Z ((Z.push (.cells [.int .i64 0] 3) none).push (.cells [.int .i64 0] 32) none):=((Ext.refl _).push _ _).push _ _
 have hw1:=(hw.push (.cells [.int .i64 0] 3) none).push (.cells [.int .i64 0] 32) none
 obtain⟨_,a9,e2,hX2,hw2,q,c,rfl,hE⟩:=h _ hX1 hw1
 have g0:a9.heap.get Z.next=_:=(hX2.get Z.next (by simp only[Ac];omega)).trans (by simp -implicitDefEqProofs only[Ai,Ac,Nat.add_assoc,Nat.reduceAdd,Nat.left_eq_add,reduceCtorEq,↓reduceIte,Nat.reduceEqDiff]<;>rfl)
 have g1:a9.heap.get (Z.next+1)=_:=(hX2.get (Z.next+1) (by simp only[Ac];omega)).trans (by simp -implicitDefEqProofs only[Ai,Ac,Nat.add_assoc,Nat.reduceAdd,Nat.add_left_cancel_iff,reduceCtorEq,↓reduceIte,Nat.reduceEqDiff]<;>rfl)
 simp -implicitDefEqProofs only[go_sem,Ar,O9,K8,O_,K9,Pa,K_,e2,g0,g1,PO,IQ,TW,AB,Av,Au,AH,AU]
 have m0:=(hw2 _ _ g0).1
 have m1:=(hw2 _ _ g1).1
 exact⟨_,_,rfl,((hX1.trans hX2).put _ _ _ (Nat.le_refl _)).put _ _ _ (Nat.le_add_right _ _),(hw2.put _ _ _ m0).put _ _ _ m1,q,c,rfl,hE.keep fun b cs hb hc=>by
  simp only[Ac] at hb
  exact⟨by rw[Ak,if_neg (by omega),Ak,if_neg (by omega)];exact hc,by omega⟩⟩
theorem AwL(n w:Nat)(cap:Array Value)(ds:List D)(Z:aC)(hw:Wf Z)(h:∀V,Ext Z V->Wf V->Gives ((env (n+1)).call w cap.toList none V) V fun v cA=>∃q c,v=.slice q ds.length c/\aO (fun b=>V.next<=b) cA q 0 ds):
  Gives ((env (n+3)).call 77 [.func (.func w) #[] cap] none Z) Z fun v V=>∃q c,v=.tuple #[.slice q ds.length c,.int .i64 0]/\aO (fun b=>Z.next<=b) V q 0 ds:=by
 rw[Al _ 77 _ _ rfl,Abd _ _ _ _ (by simp),Aj]
 unfold Acb
 obtain⟨_,a9,e2,hX2,hw2,q,c,rfl,hE⟩:=Anw n w cap ds Z hw h
 simp -implicitDefEqProofs only[go_sem,VW,SB,VX,SC,VY,SD,e2,AB,Av,Au,AU]
 exact⟨_,_,rfl,hX2,hw2,q,c,rfl,hE⟩
end Go.Proofs.YtknnbjmcfibpgaaGreatDoor
namespace Go.Proofs.YtknnbjmcfibpgaaGreatDoor
open Go Go.Eng
attribute [local congr] Aa Af Ae Ab Ad
attribute [-go_sem] List.range_succ
structure Elems (M:Nat) (es:List D):Prop where
 sane:∀e∈es,Sane M e
 deep:∀e∈es,e.deep<=4
 len:es.length<=12
 few:D.counts es<=1900
theorem AfR:nilD.deep=1:=rfl
theorem Gd:nilD.count=1:=rfl
theorem Elems.count{M:Nat}{es:List D}(h:Elems M es):(bS nilD es).count<=2000:=by rw[Ec,Gd];have:=h.len;have:=h.few;omega
theorem Elems.depth{M:Nat}{es:List D}(h:Elems M es):(bS nilD es).deep<=16:=by
 have:=Mk nilD 4 es h.deep
 rw[AfR] at this
 have:=h.len
 omega
theorem Elems.all{M:Nat}{es:List D}(h:Elems M es):Sane M (bS nilD es):=PI (Am4 M) h.sane
theorem AwR(M n:Nat)(hM:M=n+30)(d:D)(hd:d.deep<=16)(hc:d.count<=2000):CopyAt (M+3) d:=by
 have:=Hx (n+1) 16 d hd (by omega)
 rwa [show n+1+2*16=M+3 by omega] at this
theorem Elems.copies{M:Nat}{es:List D}(h:Elems M es)(n:Nat)(hM:M=n+30):∀d∈es,CopyAt (M+3) d:=fun d hd=>AwR M n hM d (by have:=h.deep d hd;omega) (by have:=Fs hd;have:=h.few;omega)
theorem Elems.reverse{M:Nat}{es:List D}(h:Elems M es):Elems M es.reverse:=⟨fun e he=>h.sane e (List.mem_reverse.1 he),fun e he=>h.deep e (List.mem_reverse.1 he),by rw[List.length_reverse];exact h.len,by rw[EM];exact h.few⟩
end Go.Proofs.YtknnbjmcfibpgaaGreatDoor
namespace Go.Proofs.YtknnbjmcfibpgaaGreatDoor
open Go Go.Eng
attribute [local congr] Aa Af Ae Ab Ad
attribute [-go_sem] List.range_succ
theorem Ja(P:Nat->Prop)(Z:aC):aL P Z (.agg #[.int .i64 0,.int .i64 0,.string ⟨#[]⟩,.slice none 0 0]) nilD:=⟨none,0,rfl,trivial⟩
theorem AfL(M:Nat)(p:Nat)(hp:p<=2000)(Z:aC):(env (M+1)).call 84 [.int .i64 (.ofNat p)] none Z=.ret (.tuple #[]) none Z:=UT M _ (by simp only[Int.ofNat_eq_natCast];omega) Z
end Go.Proofs.YtknnbjmcfibpgaaGreatDoor
namespace Go.Proofs.YtknnbjmcfibpgaaGreatDoor
open Go Go.Eng
attribute [local congr] Aa Af Ae Ab Ad
attribute [-go_sem] List.range_succ
theorem Avv:bE nls 83=[5,6,7,17,19,20,21,22]:=by kernel_rfl
theorem TR(ds:List D)(i:Nat)(d:D)(h:ds[i]? = some d):D.counts (ds.take (i+1))=D.counts (ds.take i)+d.count:=by
 rw[List.take_add_one,h,Eu]
 simp[D.counts]
theorem NU(ds:List D)(i:Nat):D.counts (ds.take i)<=D.counts ds:=by
 have:=Eu (ds.take i) (ds.drop i)
 rw[List.take_append_drop] at this
 omega
structure HeadFr (q:Option Addr) (c:Nat) (es:List D) (bU:aC) (i:Nat) (ff:Nat->Value) (f g:Nat->Value) (Z:aC):Prop where
 g5:g 5=.slice q es.length c
 g6:g 6=.int .i64 (.ofNat es.length)
 g7:g 7=.int .i64 (.ofNat i)
 f0:f 0=ff 0
 f1:f 1=ff 1
 f2:f 2=.int .i64 (.ofNat (i+D.counts (es.take i)+1))
 wf:Wf Z
 ext:Ext bU Z
end Go.Proofs.YtknnbjmcfibpgaaGreatDoor
namespace Go.Proofs.YtknnbjmcfibpgaaGreatDoor
open Go Go.Eng
attribute [local congr] Aa Af Ae Ab Ad
attribute [-go_sem] List.range_succ
theorem Vec.slice{Z:aC}{lo:Nat}{s:Value}{ds:List D}(h:Vec Z lo s ds):∃p,s=.slice p ds.length ds.length/\aO (fun b=>lo<b) Z p 0 ds:=by
 rcases h with⟨rfl,rfl⟩|⟨b,cs,ver,rfl,hb,hq,hr⟩
 .exact⟨none,rfl,trivial⟩
 .exact⟨_,rfl,hr.elems (Aq hb) hq (fun c hc=>hc.1) 0 ds fun j e he=>by rwa [Nat.zero_add]⟩
theorem Vec.spot{Z:aC}{lo:Nat}{s:Value}{ds:List D}(hw:Wf Z)(h:Vec Z lo s ds):∀b n m,s=.slice (some ⟨b,0,none⟩) n m->b<Z.next/\lo<b:=by
 intro b n m hs
 rcases h with⟨_,h⟩|⟨b',cs,ver,h,hb,hlb,_⟩
 .rw[hs] at h;cases h
 .rw[hs] at h;cases h;exact⟨(hw _ _ hb).1,hlb⟩
theorem Vec.ones{Z:aC}{lo:Nat}{s:Value}{ds:List D}(h:Vec Z lo s ds):oneCell s=true/\aU s=true/\aI s=[s]:=by
 rcases h with⟨rfl,rfl⟩|⟨b,cs,ver,rfl,hb,hq,hr⟩<;>exact⟨rfl,rfl,rfl⟩
theorem Avw:bE nls 10=[30]:=by kernel_rfl
theorem Avx:bE nls 21=[19]:=by kernel_rfl
def KeepAt(m:Nat)(d:D):Prop:=∀(lv:List Value) (R:Nat->Prop) (Z:aC),Wf Z->aL R Z (.agg lv.toArray) d->(∀b,R b->b<Z.next)->Gives ((env m).call 10 [.agg lv.toArray] none Z) Z fun w V=>aL (fun b=>Z.next<=b) V w d
structure HeadKd (b0:Nat) (R:Nat->Prop) (k z:Int) (t:ByteArray) (q:Option Addr) (c:Nat) (ds:List D) (bU:aC) (i:Nat) (f:Nat->Value) (Z:aC):Prop where
 f1:f 1=.pointer (some ⟨b0,0,none⟩)
 f2:f 2=.pointer (some ⟨b0+1,0,none⟩)
 f3:f 3=.pointer (some ⟨b0+2,0,none⟩)
 f4:f 4=.int .i64 (.ofNat i)
 c1:Z.cells b0=some [.int .i64 k,.int .i64 z,.string t,.slice q ds.length c]
 g2:∃ver,Z.heap.get (b0+1)=some ⟨.cells [.int .i64 0,.int .i64 0,.string ⟨#[]⟩,.slice none 0 0] TD,false,none,ver⟩
 g3:∃ver s,Z.heap.get (b0+2)=some ⟨.cells [.int .i64 k,.int .i64 z,.string t,s] TD,false,none,ver⟩/\Vec Z (b0+2) s (ds.take i)
 lay:aO R Z q 0 ds
 wf:Wf Z
 ext:Ext bU Z
theorem Xj(m:Nat){b0:Nat}{R:Nat->Prop}{k z:Int}{t:ByteArray}{q:Option Addr}{c:Nat}{ds:List D}{bU:aC}(hC:∀d∈ds,KeepAt m d)(hb0:bU.next=b0)(hR:∀b,R b->b<b0)(hfew:ds.length<900):
  ∀(j fuel i:Nat) (f g:Nat->Value) (Z:aC),i+j=ds.length->j<fuel->HeadKd b0 R k z t q c ds bU i f Z->
   ∃f' g' V,floop [30] (Abk (env m) none 10) fuel (Sl 5 31 f g []) none Z=.done (.exit 0) (Sl 5 31 f' g' []) none V/\HeadKd b0 R k z t q c ds bU ds.length f' V:=by
 intro j
 induction j with
 | zero=>
  intro fuel i f g Z hij hf h
  obtain⟨fuel,rfl⟩:∃q,fuel=q+1:=⟨fuel-1,by omega⟩
  obtain rfl:i=ds.length:=by omega
  have d1:decide (Int.ofNat ds.length<Int.ofNat ds.length)=false:=by simp
  rw[Ao]
  unfold Abk
  simp -implicitDefEqProofs only[go_sem,U7,Qx,h.f1,h.f4,h.c1,d1]
  exact⟨_,_,_,rfl,h⟩
 | succ j ih=>
  intro fuel i f g Z hij hf h
  obtain⟨fuel,rfl⟩:∃q,fuel=q+1:=⟨fuel-1,by omega⟩
  have hi:i<ds.length:=by omega
  have d1:decide (Int.ofNat i<Int.ofNat ds.length)=true:=by simp;omega
  have hd:ds[i]? = some ds[i]:=List.getElem?_eq_getElem hi
  have hmem:=List.getElem_mem hi
  have hw:=h.wf
  obtain⟨b,off,cs,rfl,hRb,hcs,hle,hL⟩:=aO.get h.lay hd
  rw[Nat.zero_add] at hle hL
  obtain⟨vt,ht2⟩:=h.g2
  obtain⟨v3,s,hg3,hV⟩:=h.g3
  have hn3:=(hw _ _ hg3).1
  obtain⟨_,a_,e1,x1,hw1,hL1⟩:=hC _ hmem ((cs.drop (off+i*4)).take 4) R Z hw hL (fun b hb=>by have:=hR b hb;omega)
  obtain⟨l4,rfl,hl4,ho4⟩:=hL1.agg
  have n1:=x1.next
  have hsp:=hV.spot hw
  have hV1:Vec a_ (b0+2) s (ds.take i):=hV.keep hw fun c h1 h2=>x1.get c h2
  obtain⟨s',τ,ha,ho,hVτ,hwτ,hnτ,hcτ,hg1,hg2⟩:=G3 a_ (b0+2) s (ds.take i) ds[i] l4 hw1 (by omega) hl4 ho4 (by rw[List.length_take];omega) hV1 (hL1.keep fun c cs hc h=>⟨h,by omega,fun b n m hs=>by have:=hsp b n m hs;omega⟩)
  rw[show ds.take i++[ds[i]]=ds.take (i+1) by rw[List.take_add_one,hd];rfl] at hVτ
  have hvw:=Dw hw (lam:=Z.clock) (Nat.le_refl _)
  have hv3:(view a_ Z.clock).cells (b0+2)=some [.int .i64 k,.int .i64 z,.string t,s]:=JP hw (Nat.le_refl _) (x1.get _ hn3) (Aq hg3)
  have hg3τ:τ.heap.get (b0+2)=some ⟨.cells [.int .i64 k,.int .i64 z,.string t,s] TD,false,none,v3⟩:=(hg1 _ (Nat.le_refl _)).trans ((x1.get _ hn3).trans hg3)
  have w3:=Ga i (by omega)
  have o':=hVτ.ones
  have hc1:=h.c1
  rw[Ao]
  unfold Abk
  simp -implicitDefEqProofs only[go_sem,Ar,U7,Qx,Af2,XJ,Af3,XK,h.f1,h.f3,h.f4,hc1,d1,hi,hvw,hcs,hle,e1,hv3,hl4,ho4,ha,o'.1,o'.2.1,o'.2.2,hg3τ,w3]
  generalize hff:upd _ 4 _=f1
  have kR:∀b cs,b<b0->Z.cells b=some cs->(τ.put (b0+2) (.cells [.int .i64 k,.int .i64 z,.string t,s'] TD) none).cells b=some cs:=fun b cs hb hc=>by
   rw[Ak,if_neg (by omega),AO,hg1 b (by omega),<-AO]
   exact(x1.cells (hw.cells hc)).trans hc
  exact ih fuel (i+1) f1 _ _ (by omega) (by omega) {
   f1:=by rw[<-hff];simp -implicitDefEqProofs only[go_sem,reduceCtorEq,h.f1]
   f2:=by rw[<-hff];simp -implicitDefEqProofs only[go_sem,reduceCtorEq,h.f2]
   f3:=by rw[<-hff];simp -implicitDefEqProofs only[go_sem,reduceCtorEq,h.f3]
   f4:=by rw[<-hff];simp -implicitDefEqProofs only[go_sem,reduceCtorEq]
   c1:=by
    have:=hw.cells hc1
    rw[Ak,if_neg (by omega),AO,hg1 b0 (by omega),<-AO]
    exact(x1.cells this).trans hc1
   g2:=⟨vt,by rw[Am,if_neg (by omega),hg1 _ (by omega),x1.get _ (by omega)];exact ht2⟩
   g3:=⟨_,s',by rw[Am,if_pos rfl],hVτ.keep hwτ fun c h1 h2=>by rw[Am,if_neg (by omega)]⟩
   lay:=h.lay.keep fun b cs hb hc=>⟨kR b cs (hR b hb) hc,hb⟩
   wf:=hwτ.put _ _ _ (by omega)
   ext:=⟨by rw[Aw];have:=h.ext.next;omega,by rw[BA];have:=h.ext.clock;have:=x1.clock;omega,fun b hb=>by
    rw[Am,if_neg (by omega),hg2 b (by have:=h.ext.next;omega) (fun b' n m hs=>by have:=hsp b' n m hs;omega),x1.get b (by have:=h.ext.next;omega)]
    exact h.ext.get b hb⟩ }
theorem Xk(m:Nat)(k z:Int)(t:ByteArray)(ds:List D)(hfew:ds.length<900)(hC:∀d∈ds,KeepAt m d):KeepAt (m+1) (.mk k z t ds):=by
 intro lv R Z hw hL hR
 have hL0:=hL
 obtain⟨q,c,hv,hE⟩:=hL
 have hlv:lv=[.int .i64 k,.int .i64 z,.string t,.slice q ds.length c]:=by
  have:=Value.agg.inj hv
  simpa using congrArg Array.toList this
 subst hlv
 rw[Al _ 10 _ _ rfl,An9 _ _ _ _ (by simp),Aj]
 unfold Aml
 have x1:Ext Z ((((Z.push (.cells [.int .i64 k,.int .i64 z,.string t,.slice q ds.length c] TD) none).push (.cells [.int .i64 0,.int .i64 0,.string ⟨#[]⟩,.slice none 0 0] TD) none).push (.cells [.int .i64 0,.int .i64 0,.string ⟨#[]⟩,.slice none 0 0] TD) none).put (Z.next+2) (.cells [.int .i64 k,.int .i64 z,.string t,.slice none 0 0] TD) none):=(((((Ext.refl _).push _ _).push _ _).push _ _).put _ _ _ (by omega))
 have hw1:=((((hw.push (.cells [.int .i64 k,.int .i64 z,.string t,.slice q ds.length c] TD) none).push (.cells [.int .i64 0,.int .i64 0,.string ⟨#[]⟩,.slice none 0 0] TD) none).push (.cells [.int .i64 0,.int .i64 0,.string ⟨#[]⟩,.slice none 0 0] TD) none).put (Z.next+2) (.cells [.int .i64 k,.int .i64 z,.string t,.slice none 0 0] TD) none (by simp only[Ac];omega))
 have c1:((((Z.push (.cells [.int .i64 k,.int .i64 z,.string t,.slice q ds.length c] TD) none).push (.cells [.int .i64 0,.int .i64 0,.string ⟨#[]⟩,.slice none 0 0] TD) none).push (.cells [.int .i64 0,.int .i64 0,.string ⟨#[]⟩,.slice none 0 0] TD) none).put (Z.next+2) (.cells [.int .i64 k,.int .i64 z,.string t,.slice none 0 0] TD) none).cells Z.next=some [.int .i64 k,.int .i64 z,.string t,.slice q ds.length c]:=by
  rw[Ak,if_neg (by omega),Ah,if_neg (by simp only[Ac];omega),Ah,if_neg (by simp only[Ac];omega),Ah,if_pos rfl];rfl
 have g2:((((Z.push (.cells [.int .i64 k,.int .i64 z,.string t,.slice q ds.length c] TD) none).push (.cells [.int .i64 0,.int .i64 0,.string ⟨#[]⟩,.slice none 0 0] TD) none).push (.cells [.int .i64 0,.int .i64 0,.string ⟨#[]⟩,.slice none 0 0] TD) none).put (Z.next+2) (.cells [.int .i64 k,.int .i64 z,.string t,.slice none 0 0] TD) none).heap.get (Z.next+1)=some ⟨.cells [.int .i64 0,.int .i64 0,.string ⟨#[]⟩,.slice none 0 0] TD,false,none,Z.clock+1⟩:=by
  rw[Am,if_neg (by omega),Ai,if_neg (by simp only[Ac];omega),Ai,if_pos (by rw[Ac])];rfl
 have g3:((((Z.push (.cells [.int .i64 k,.int .i64 z,.string t,.slice q ds.length c] TD) none).push (.cells [.int .i64 0,.int .i64 0,.string ⟨#[]⟩,.slice none 0 0] TD) none).push (.cells [.int .i64 0,.int .i64 0,.string ⟨#[]⟩,.slice none 0 0] TD) none).put (Z.next+2) (.cells [.int .i64 k,.int .i64 z,.string t,.slice none 0 0] TD) none).heap.get (Z.next+2)=some ⟨.cells [.int .i64 k,.int .i64 z,.string t,.slice none 0 0] TD,false,none,Z.clock+3⟩:=by
  rw[Am,if_pos rfl];rfl
 simp -implicitDefEqProofs only[go_sem,Ar,AfZ,XG,Af0,XH,Af1,XI,Avw]
 generalize hff:upd _ 4 _=f1
 generalize hbf:bF=fuel
 generalize aC.put _ _ _ _=a_ at x1 hw1 c1 g2 g3 ⊢
 obtain⟨f2,g2',a9,e2,h2⟩:=Xj m hC rfl hR hfew ds.length fuel 0 f1 _ a_ (by omega) (by rw[<-hbf];show ds.length<1000000000000;omega) {
  f1:=by rw[<-hff];simp -implicitDefEqProofs only[go_sem,reduceCtorEq]
  f2:=by rw[<-hff];simp -implicitDefEqProofs only[go_sem,reduceCtorEq]
  f3:=by rw[<-hff];simp -implicitDefEqProofs only[go_sem,reduceCtorEq]
  f4:=by rw[<-hff];simp -implicitDefEqProofs only[go_sem,reduceCtorEq]<;>rfl
  c1:=c1
  g2:=⟨_,g2⟩
  g3:=⟨_,_,g3,.inl ⟨rfl,rfl⟩⟩
  lay:=hE.keep fun b cs hb hc=>⟨(x1.cells (hw.cells hc)).trans hc,hb⟩
  wf:=hw1
  ext:=x1 }
 rw[e2]
 obtain⟨v3,s,hg3,hV⟩:=h2.g3
 obtain⟨v2,hg2⟩:=h2.g2
 have o:=hV.ones
 rw[List.take_length] at hV
 obtain⟨p,rfl,hE2⟩:=hV.slice
 have hc3:=Aq hg3
 have m2:=(h2.wf _ _ hg2).1
 simp -implicitDefEqProofs only[go_sem,Ar,Af4,XL,h2.f2,h2.f3,hc3,hg2,Bg,AB,Av,Au,AH]
 exact⟨_,_,rfl,h2.ext.put _ _ _ (by omega),h2.wf.put _ _ _ m2,p,_,rfl,hE2.keep fun b cs hb hc=>⟨by rw[Ak,if_neg (by omega)];exact hc,by omega⟩⟩
theorem Mh(n:Nat):∀(N:Nat) (d:D),D.deep d<=N->d.count<900->KeepAt (n+N) d
 | 0,d,h,_=>by cases d;rw[D.deep] at h;omega
 | N+1,.mk k z t ds,h,hc=>by
  rw[D.deep] at h
  rw[D.count] at hc
  have:=E1 ds
  exact Xk (n+N) k z t ds (by omega) (fun d hd=>Mh n N d (by have:=Ft hd;omega) (by have:=Fs hd;omega))
end Go.Proofs.YtknnbjmcfibpgaaGreatDoor
namespace Go.Eng
open Go
section
variable (E:Env) (ro:Option Nat) (a:aY) (u:Option FrameMode) (Z:aC) (cl:List Nat)
end
end Go.Eng
namespace Go.Proofs.YtknnbjmcfibpgaaGreatDoor
open Go Go.Eng
end Go.Proofs.YtknnbjmcfibpgaaGreatDoor
namespace Go.Proofs.YtknnbjmcfibpgaaGreatDoor
open Go Go.Eng
variable (E:Env) (ro:Option Nat) (last:List Nat->aZ) (cl:List Nat) (a:aY) (u:Option FrameMode) (Z:aC)
def QM(_:Unit):List COp:=[⟨fun a Z=>.val (a.get 0) Z,some 2,tT⟩,
 ⟨fun a Z=>.enter 149 [(a.get 2),(.int .i64 0)] Z,some 3,tT⟩]
def AgT:List COp:=QM ()
def AaB(E:Env)(ro:Option Nat)(fn:FuncId):aZ:=(aD E ro AgT)
theorem Adp:aD E ro AgT a u Z=aD E ro (QM ()) a u Z:=rfl
theorem AnG(E:Env)(ro:Option Nat)(fn:FuncId):code Tryz.prog nls (Tryz.f124.body.getD .skip) E ro fn=AaB E ro fn:=by kernel_rfl
theorem Afa(E:Env)(args:List Value)(u:Option FrameMode)(Z:aC)(hn:args.length<=(2:Nat)):bD Tryz.prog nls E 124 args u Z=aP Tryz.prog E [] (AaB E none 124 ⟨bB undef 2 args,fun _=>undef,2,4,[]⟩ u Z):=by
 rw[Ap (body:=Tryz.f124.body.getD .skip) Tryz.func124 rfl E args u Z 2 4 (by kernel_rfl) rfl ⟨hn,by decide⟩,AnG]
 rfl
def Q6(_:Unit):List COp:=[⟨fun a Z=>.val (a.get 0) Z,some 4,tT⟩,
 ⟨fun a Z=>.val (a.get 1) Z,some 5,tT⟩,
 ⟨fun a Z=>bP (fun i=>nth [(0,1),(1,1)] i) [(.int .i64 0),(.int .i64 0)] [(0,(a.get 4)),(1,(a.get 5))] Z,some 6,tT⟩,
 ⟨fun a Z=>.val (.iface 171 (a.get 6)) Z,some 7,tT⟩,
 ⟨fun a Z=>fpanic (a.get 7) Z,none,tT⟩]
def AhT:List COp:=Q6 ()
def AaH(E:Env)(ro:Option Nat)(fn:FuncId):aZ:=(aD E ro AhT)
theorem AdJ:aD E ro AhT a u Z=aD E ro (Q6 ()) a u Z:=rfl
theorem AnR(E:Env)(ro:Option Nat)(fn:FuncId):code Tryz.prog nls (Tryz.f149.body.getD .skip) E ro fn=AaH E ro fn:=by kernel_rfl
theorem Afg(E:Env)(args:List Value)(u:Option FrameMode)(Z:aC)(hn:args.length<=(4:Nat)):bD Tryz.prog nls E 149 args u Z=aP Tryz.prog E [] (AaH E none 149 ⟨bB undef 4 args,fun _=>undef,4,8,[]⟩ u Z):=by
 rw[Ap (body:=Tryz.f149.body.getD .skip) Tryz.func149 rfl E args u Z 4 8 (by kernel_rfl) rfl ⟨hn,by decide⟩,AnR]
 rfl
def QP(_:Unit):List COp:=[⟨fun a Z=>aM [(.int .i64 0),(.int .i64 0)] 171 none Z,some 2,tT⟩]
def AgZ:List COp:=QP ()
def QQ(_:Unit):List COp:=[⟨fun a Z=>aM [(.int .i64 0),(.int .i64 0)] 171 none Z,some 3,tT⟩]
def Ag0:List COp:=QQ ()
def QR(_:Unit):List COp:=[⟨fun a Z=>.val (a.get 0) Z,some 4,tT⟩,
 ⟨fun a Z=>.val (.iface 190 (a.get 3)) Z,some 5,tT⟩,
 ⟨fun a Z=>.enter 157 [(a.get 4),(a.get 5)] Z,some 6,tT⟩,
 ⟨fun a Z=>fun1 Tryz.prog (Op.unary .not) (a.get 6) Z,some 7,tT⟩]
def Ag1:List COp:=QR ()
def Api(_:Unit):List COp:=[⟨fun a Z=>aH 0 (a.get 3) Z,some 8,tT⟩,
 ⟨fun a Z=>aK 1 (a.get 8) (.int .i64 1) Z,none,tT⟩]
def AvV:List COp:=Api ()
def QS(_:Unit):List COp:=[⟨fun a Z=>aG (some 2) (a.get 3) Z,some 9,tT⟩,
 ⟨fun a Z=>aK 2 (a.get 2) (a.get 9) Z,none,tT⟩]
def Ag2:List COp:=QS ()
def AaD(E:Env)(ro:Option Nat)(fn:FuncId):aZ:=(aF (aD E ro AgZ) (aF (aD E ro Ag0) (aF (aF (aD E ro Ag1) (aN (fun a=>(a.get 7)) (aD E ro AvV) aV)) (aF (aD E ro Ag2) bL))))
theorem Ads:aD E ro AgZ a u Z=aD E ro (QP ()) a u Z:=rfl
theorem Adt:aD E ro Ag0 a u Z=aD E ro (QQ ()) a u Z:=rfl
theorem Adu:aD E ro Ag1 a u Z=aD E ro (QR ()) a u Z:=rfl
theorem Adv:aD E ro Ag2 a u Z=aD E ro (QS ()) a u Z:=rfl
theorem AnJ(E:Env)(ro:Option Nat)(fn:FuncId):code Tryz.prog nls (Tryz.f136.body.getD .skip) E ro fn=AaD E ro fn:=by kernel_rfl
theorem Afc(E:Env)(args:List Value)(u:Option FrameMode)(Z:aC)(hn:args.length<=(4:Nat)):bD Tryz.prog nls E 136 args u Z=aP Tryz.prog E [.cell 2 171] (AaD E none 136 ⟨bB undef 4 args,fun _=>undef,4,10,[]⟩ u Z):=by
 rw[Ap (body:=Tryz.f136.body.getD .skip) Tryz.func136 rfl E args u Z 4 10 (by kernel_rfl) rfl ⟨hn,by decide⟩,AnJ]
 rfl
noncomputable def Ant:Code:=((rangesOf (Tryz.f106.body.getD .skip)).getD 0 (.skip,.skip)).1
noncomputable def Anu:Code:=((rangesOf (Tryz.f106.body.getD .skip)).getD 0 (.skip,.skip)).2
noncomputable def Aa4:Code:=((rangesOf (Tryz.f106.body.getD .skip)).getD 1 (.skip,.skip)).1
noncomputable def Aa5:Code:=((rangesOf (Tryz.f106.body.getD .skip)).getD 1 (.skip,.skip)).2
def AfW(_:Unit):List COp:=[⟨fun a Z=>aG none (a.get 8) Z,some 37,tT⟩,
 ⟨fun a Z=>aG none (a.get 5) Z,some 38,tT⟩,
 ⟨fun a Z=>flenL (a.get 38) Z,some 39,tT⟩,
 ⟨fun a Z=>bO Tryz.prog 3 (.tmp 37) (.tmp 39) (a.get 37) (a.get 39) Z,some 40,tT⟩]
def Ao9:List COp:=AfW ()
def AfX(_:Unit):List COp:=[⟨fun a Z=>.enter 124 [(.int .i64 10)] Z,some 41,tT⟩]
def Apa:List COp:=AfX ()
def AfY(_:Unit):List COp:=[⟨fun a Z=>aG none (a.get 9) Z,some 42,tT⟩,
 ⟨fun a Z=>.val (a.get 42) Z,some 4,tT⟩]
def Apb:List COp:=AfY ()
noncomputable def x106_0:Code:=(scopesOf (Tryz.f106.body.getD .skip)).getD 0 .skip
def find106_0(E:Env)(ro:Option Nat)(fn:FuncId):Nat->Option (Bx aZ):=fun l=>match findLabel x106_0 l with|some rest=>some ⟨(ccode Tryz.prog nls 998 rest).un E ro fn⟩|none=>none
end Go.Proofs.YtknnbjmcfibpgaaGreatDoor
namespace Go.Proofs.YtknnbjmcfibpgaaGreatDoor
open Go Go.Eng
mutual
theorem Aeq:∀(a b:D),D.same a b=D.same b a
 | .mk k n t ds,.mk k' n' t' ds'=>by
  rw[show D.same (.mk k n t ds) (.mk k' n' t' ds')=(decide (k=k')&&decide (n=n')&&(t.toList==t'.toList)&&D.sames ds ds') from rfl,show D.same (.mk k' n' t' ds') (.mk k n t ds)=(decide (k'=k)&&decide (n'=n)&&(t'.toList==t.toList)&&D.sames ds' ds) from rfl,ND ds ds']
  rw[show decide (k=k')=decide (k'=k) by simp[eq_comm],show decide (n=n')=decide (n'=n) by simp[eq_comm],show (t.toList==t'.toList)=(t'.toList==t.toList) from BEq.comm]
theorem ND:∀(a b:List D),D.sames a b=D.sames b a
 | [],[]=>rfl
 | [],_::_=>rfl
 | _::_,[]=>rfl
 | a::l,b::r=>by
  rw[show D.sames (a::l) (b::r)=(D.same a b&&D.sames l r) from rfl,show D.sames (b::r) (a::l)=(D.same b a&&D.sames r l) from rfl,Aeq a b,ND l r]
end
mutual
theorem O3:∀(d:D) (p:List Nat) (y:List Nat×D),y∈d.pieces p->∃r,y.1=p++r/\atP r d=some y.2
 | .mk k z t ds,p,y,h=>by
  rw[D.pieces] at h
  rcases List.mem_cons.1 h with rfl|h
  .exact⟨[],by simp,rfl⟩
  .obtain⟨j,r,d',h1,h2,h3⟩:=GK ds p 0 y h
   refine⟨(0+j)::r,h1,?_⟩
   rw[atP]
   simp only[D.parts]
   rw[Nat.zero_add,h2]
   exact h3
theorem GK:∀(ds:List D) (p:List Nat) (i:Nat) (y:List Nat×D),y∈D.piecesL p i ds->∃j r d',y.1=p++(i+j)::r/\ds[j]? = some d'/\atP r d'=some y.2
 | [],p,i,y,h=>by simp[D.piecesL] at h
 | d::ds,p,i,y,h=>by
  rw[D.piecesL,List.mem_append] at h
  rcases h with h|h
  .obtain⟨r,h1,h2⟩:=O3 d _ y h
   exact⟨0,r,d,by rw[h1];simp,rfl,h2⟩
  .obtain⟨j,r,d',h1,h2,h3⟩:=GK ds p (i+1) y h
   exact⟨j+1,r,d',by rw[h1,show i+1+j=i+(j+1) by omega],by simpa using h2,h3⟩
end
theorem L7(x:D)(a b:List (List Nat×D)):foundIn x (a++b)=foundIn x a++foundIn x b:=by
 unfold foundIn
 rw[List.filter_append,List.map_append]
end Go.Proofs.YtknnbjmcfibpgaaGreatDoor
namespace Go.Proofs.YtknnbjmcfibpgaaGreatDoor
open Go Go.Eng
theorem toList_inj{a b:ByteArray}(h:a.toList=b.toList):a=b:=by
 rw[ByteArray.toList_eq,ByteArray.toList_eq] at h
 obtain⟨⟨x⟩⟩:=a
 obtain⟨⟨y⟩⟩:=b
 simp at h
 rw[h]
mutual
theorem Ib:∀(a b:D),D.same a b=true->a=b
 | .mk k n t ds,.mk k' n' t' ds',h=>by
  rw[show D.same (.mk k n t ds) (.mk k' n' t' ds')=(decide (k=k')&&decide (n=n')&&(t.toList==t'.toList)&&D.sames ds ds') from rfl] at h
  simp only[Bool.and_eq_true,decide_eq_true_eq] at h
  obtain⟨⟨⟨rfl,rfl⟩,h3⟩,h4⟩:=h
  rw[toList_inj (eq_of_beq h3),Wy ds ds' h4]
theorem Wy:∀(a b:List D),D.sames a b=true->a=b
 | [],[],_=>rfl
 | [],_::_,h=>by cases h
 | _::_,[],h=>by cases h
 | a::l,b::r,h=>by
  rw[show D.sames (a::l) (b::r)=(D.same a b&&D.sames l r) from rfl,Bool.and_eq_true] at h
  rw[Ib a b h.1,Wy l r h.2]
end
mutual
theorem EX:∀(a:D),D.same a a=true
 | .mk k n t ds=>by
  rw[show D.same (.mk k n t ds) (.mk k n t ds)=(decide (k=k)&&decide (n=n)&&(t.toList==t.toList)&&D.sames ds ds) from rfl,IK ds]
  simp
theorem IK:∀(l:List D),D.sames l l=true
 | []=>rfl
 | a::l=>by
  rw[show D.sames (a::l) (a::l)=(D.same a a&&D.sames l l) from rfl,EX a,IK l]
  rfl
end
theorem Am2(a b:D):D.same a b=true↔a=b:=⟨Ib a b,fun h=>h ▸ EX a⟩
mutual
def repl(x y:D):D->D
 | .mk k z t ds=>if D.same (.mk k z t ds) x=true then y else .mk k z t (repls x y ds)
def repls(x y:D):List D->List D
 | []=>[]
 | d::ds=>repl x y d::repls x y ds
end
mutual
theorem Aen(x:D):∀d,repl x x d=d
 | .mk k z t ds=>by
  rw[repl]
  split
  .rename_i h;exact(Ib _ _ h).symm
  .rw[Ny x ds]
theorem Ny(x:D):∀ds,repls x x ds=ds
 | []=>rfl
 | d::ds=>by rw[repls,Aen x d,Ny x ds]
end
def occ(x d:D):Nat:=((d.pieces []).filter fun y=>D.same y.2 x).length
mutual
def occN(x:D):D->Nat
 | .mk k z t ds=>(if D.same (.mk k z t ds) x=true then 1 else 0)+occsN x ds
def occsN(x:D):List D->Nat
 | []=>0
 | d::ds=>occN x d+occsN x ds
end
mutual
theorem AcR(x:D):∀(d:D) (p:List Nat),(foundIn x (d.pieces p)).length=occN x d
 | .mk k z t ds,p=>by
  rw[D.pieces,occN]
  have:=L8 x ds p 0
  unfold foundIn at this ⊢
  rw[List.filter_cons]
  split
  .rw[List.map_cons,List.length_cons,this];omega
  .rw[this];omega
theorem L8(x:D):∀(ds:List D) (p:List Nat) (i:Nat),(foundIn x (D.piecesL p i ds)).length=occsN x ds
 | [],p,i=>rfl
 | d::ds,p,i=>by rw[D.piecesL,L7,List.length_append,AcR x d _,L8 x ds p (i+1),occsN]
end
mutual
theorem Ac7(x:D):∀d:D,d.count<x.count->occN x d=0
 | .mk k z t ds,h=>by
  rw[occN,if_neg (fun e=>by rw[Ib _ _ e] at h;omega)]
  rw[D.count] at h
  rw[IA x ds (by omega)]
theorem IA(x:D):∀ds:List D,D.counts ds<x.count->occsN x ds=0
 | [],_=>rfl
 | d::ds,h=>by
  rw[D.counts] at h
  rw[occsN,Ac7 x d (by omega),IA x ds (by omega)]
end
mutual
theorem Aat(x y:D):∀d:D,(repl x y d).count+occN x d*x.count=d.count+occN x d*y.count
 | .mk k z t ds=>by
  rw[repl,occN]
  split
  .rename_i h
   have hx:=Ib _ _ h
   have hc:D.counts ds<x.count:=by rw[<-hx,D.count];omega
   rw[IA x ds hc,<-hx]
   omega
  .rw[D.count,D.count,Nat.zero_add]
   have:=KN x y ds
   omega
theorem KN(x y:D):∀ds:List D,D.counts (repls x y ds)+occsN x ds*x.count=D.counts ds+occsN x ds*y.count
 | []=>by simp[repls,D.counts,occsN]
 | d::ds=>by
  rw[repls,D.counts,D.counts,occsN,Nat.add_mul,Nat.add_mul]
  have:=Aat x y d
  have:=KN x y ds
  omega
end
mutual
theorem Aem(x y:D):∀d:D,repl x y d=d\/0<occN y (repl x y d)
 | .mk k z t ds=>by
  rw[repl]
  split
  .right
   cases y with
   | mk k' z' t' ds'=>rw[occN,if_pos (EX _)];omega
  .rcases II x y ds with h|h
   .left;rw[h]
   .right;rw[occN];omega
theorem II(x y:D):∀ds:List D,repls x y ds=ds\/0<occsN y (repls x y ds)
 | []=>.inl rfl
 | d::ds=>by
  rw[repls,occsN]
  rcases Aem x y d with h|h
  .rcases II x y ds with h'|h'
   .left;rw[h,h']
   .right;omega
  .right;omega
end
mutual
theorem Ael(x y:D)(h1:occN x y=0)(h2:occN y x=0):∀d:D,occN x (repl x y d)=0
 | .mk k z t ds=>by
  rw[repl]
  split
  .exact h1
  .rename_i hne
   rw[occN,Nx x y h1 h2 ds,Nat.add_zero]
   split
   .rename_i h
    have hx:=Ib _ _ h
    rcases II x y ds with h'|h'
    .rw[h'] at hx
     exact absurd ((Am2 _ _).2 hx) hne
    .rw[<-hx,occN] at h2
     omega
   .rfl
theorem Nx(x y:D)(h1:occN x y=0)(h2:occN y x=0):∀ds:List D,occsN x (repls x y ds)=0
 | []=>rfl
 | d::ds=>by rw[repls,occsN,Ael x y h1 h2 d,Nx x y h1 h2 ds]
end
end Go.Proofs.YtknnbjmcfibpgaaGreatDoor
namespace Go.Proofs.YtknnbjmcfibpgaaGreatDoor
open Go Go.Eng
variable (E:Env) (ro:Option Nat) (last:List Nat->aZ) (cl:List Nat) (a:aY) (u:Option FrameMode) (Z:aC)
end Go.Proofs.YtknnbjmcfibpgaaGreatDoor
namespace Go.Proofs.YtknnbjmcfibpgaaGreatDoor
open Go Go.Eng
attribute [local congr] Aa Af Ae Ab Ad
attribute [-go_sem] List.range_succ
end Go.Proofs.YtknnbjmcfibpgaaGreatDoor
namespace Go.Proofs.YtknnbjmcfibpgaaGreatDoor
open Go Go.Eng
attribute [local congr] Aa Af Ae Ab Ad
attribute [-go_sem] List.range_succ
def GatherI(l r cm:Nat)(R:Nat->Prop)(f g:Nat->Value)(done:List (List Nat×D))(B:Nat->Prop)(Z:aC):Prop:=
 (∀b,b=l\/b=r\/b=cm->B b)/\(∀b,B b->b<Z.next/\(b=l\/b=r\/b=cm\/l<b))/\LoopAt 106 [14,15] Ant Anu 12 43 f g l r .ready Z/\(∃ver,Z.heap.get r=some ⟨.defd true,false,none,ver⟩)/\
  ∃s ver,Z.heap.get cm=some ⟨.cells [s] TL,false,none,ver⟩/\VecG (fun b=>B b/\l<b) R Z s (done.map (·.2))
end Go.Proofs.YtknnbjmcfibpgaaGreatDoor
namespace Go.Proofs.YtknnbjmcfibpgaaGreatDoor
open Go Go.Eng
attribute [local congr] Aa Af Ae Ab Ad
attribute [-go_sem] List.range_succ
section
variable {kk n l bw bo bp base:Nat} {R:Nat->Prop} {g:Value} {I:List (List Nat×D)->(Nat->Prop)->aC->Prop} {all done:List (List Nat×D)} {B:Nat->Prop} {u:Value} {us:List Value} {ds:List D} {i:Nat} {d:D} {r:List (List D×Nat)} {f:Nat->Value} {Z:aC}
def StopAt(E:Env)(l:Nat)(R:Nat->Prop)(I:List (List Nat×D)->(Nat->Prop)->aC->Prop)(J:(Nat->Prop)->aC->Prop)(pre:List (List Nat×D))(path:List Nat)(d:D):Prop:=
 ∀B Z pv v,Wf Z->I pre B Z->PathAt Z pv path->aL R Z v d->∃B' V,E.round l [pv,v] Z=.ret (.bool false) none V/\Wf V/\Chg B Z V/\(∀b,B' b->B b\/Z.next<=b)/\J B' V
end
end Go.Proofs.YtknnbjmcfibpgaaGreatDoor
namespace Go.Proofs.YtknnbjmcfibpgaaGreatDoor
open Go Go.Eng
attribute [local congr] Aa Af Ae Ab Ad
attribute [-go_sem] List.range_succ
section
variable (fn:FuncId) (params:List Tmp) (assign body:Code) (nl nt:Nat) (f g:Nat->Value) (Z:aC)
def LoopDone(l r id:Nat)(Z:aC):Prop:=∃ver,Z.heap.get l=some ⟨.loop .done (some (.exit id)) fn ((List.range nl).map f) g nl nt params assign body r,false,none,ver⟩
theorem LoopDone.put(l r id:Nat):LoopDone fn params assign body nl nt f g l r id (Z.put l (.loop .done (some (.exit id)) fn ((List.range nl).map f) g nl nt params assign body r) none):=⟨_,by rw[Am,if_pos rfl]⟩
end
end Go.Proofs.YtknnbjmcfibpgaaGreatDoor
namespace Go.Proofs.YtknnbjmcfibpgaaGreatDoor
open Go Go.Eng
attribute [local congr] Aa Af Ae Ab Ad
attribute [-go_sem] List.range_succ
def likeD:D->D->Bool
 | .mk k z t ps,.mk k' z' t' ps'=>(k==k')&&(z==z')&&(t.toList==t'.toList)&&(Int.ofNat ps.length==Int.ofNat ps'.length)
def CmpB(l r mb fb cm bv:Nat)(R:Nat->Prop)(es:List D)(n:Nat)(fv:Value->aC->Prop)(B:Nat->Prop)(Z:aC):Prop:=
 (∀b,b=l\/b=r\/b=mb\/b=fb\/b=cm\/b=bv->B b)/\(∀b,B b->b<Z.next/\(b=l\/b=r\/b=mb\/b=fb\/b=cm\/b=bv\/l<b))/\(∃ver,Z.heap.get r=some ⟨.defd true,false,none,ver⟩)/\
  (∃ver,Z.heap.get mb=some ⟨.cells [.int .i64 (.ofNat n)] TI,false,none,ver⟩)/\(∃w ver,Z.heap.get fb=some ⟨.cells [w] 25,false,none,ver⟩/\fv w Z)/\∃s,Z.cells cm=some [s]/\VecG (· = bv) R Z s es
def CmpI(l r mb fb cm bv:Nat)(R:Nat->Prop)(es:List D)(f g:Nat->Value)(done:List (List Nat×D))(B:Nat->Prop)(Z:aC):Prop:=
 LoopAt 106 [24,25] Aa4 Aa5 12 43 f g l r .ready Z/\CmpB l r mb fb cm bv R es done.length (fun w _=>w=.slice none 0 0) B Z
theorem CmpB.keep{l r mb fb cm bv n:Nat}{R:Nat->Prop}{es:List D}{fv:Value->aC->Prop}{B:Nat->Prop}{Z V:aC}(h:CmpB l r mb fb cm bv R es n fv B Z)(hw:Wf Z)(hn:Z.next<=V.next)(hk:∀b,B b->b≠l->V.heap.get b=Z.heap.get b)(hne:l≠r/\l≠mb/\l≠fb/\l≠cm/\l≠bv)(hR:∀b c,R b->Z.cells b=some c->V.cells b=some c)(hf:∀w,fv w Z->fv w V):CmpB l r mb fb cm bv R es n fv B V:=by
 obtain⟨h1,h2,⟨v3,h3⟩,⟨v4,h4⟩,⟨w,v5,h5,h6⟩,s,h7,h8⟩:=h
 refine⟨h1,fun b hb=>⟨Nat.lt_of_lt_of_le (h2 b hb).1 hn,(h2 b hb).2⟩,⟨v3,(hk r (h1 r (by simp)) (Ne.symm hne.1)).trans h3⟩,⟨v4,(hk mb (h1 mb (by simp)) (Ne.symm hne.2.1)).trans h4⟩,⟨w,v5,(hk fb (h1 fb (by simp)) (Ne.symm hne.2.2.1)).trans h5,hf w h6⟩,s,?_,h8.keep (fun b e hb he=>⟨?_,hb⟩) fun b c hb hc=>⟨hR b c hb hc,hb⟩⟩
 .rw[AO,hk cm (h1 cm (by simp)) (Ne.symm hne.2.2.2.1),<-AO];exact h7
 .rw[hb] at he ⊢
  exact(hk bv (h1 bv (by simp)) (Ne.symm hne.2.2.2.2)).trans he
def CmpJ(l r mb fb cm bv:Nat)(R:Nat->Prop)(es:List D)(f g:Nat->Value)(n:Nat)(path:List Nat)(base:Nat)(B:Nat->Prop)(Z:aC):Prop:=
 LoopDone 106 [24,25] Aa4 Aa5 12 43 f g l r 2 Z/\CmpB l r mb fb cm bv R es n (fun w Z=>PathV (fun b=>base<=b) Z w path) B Z
end Go.Proofs.YtknnbjmcfibpgaaGreatDoor
namespace Go.Proofs.YtknnbjmcfibpgaaGreatDoor
open Go Go.Eng
attribute [local congr] Aa Af Ae Ab Ad
attribute [-go_sem] List.range_succ
def AxB(E:Env):aZ:=aF (aF (aD E none Ao9) (aN (fun a=>a.get 40) (aD E none Apa) aV)) (aF (aD E none Apb) bL)
end Go.Proofs.YtknnbjmcfibpgaaGreatDoor
namespace Go.Eng
open Go
section
variable (P:Program) (E:Env) (ro:Option Nat) (rs:List ResultVar) (dst:Option Tmp) (k:aZ) (a:aY) (u:Option FrameMode) (Z s:aC) (ch:List PanicEntry)
theorem Qb(t:TypeId)(v:Value):fpanic (.iface t v) Z=.panic (.iface t v) Z:=rfl
theorem Tv(v:Value):afterOp E ro dst a u k (.panic v s)=.done (.panic [{ v,recovered:=false }]) a u s:=rfl
theorem A8(u':Option FrameMode):afterCall a dst u k (.pan ch u' s)=.done (.panic ch) a u s:=rfl
theorem AA:aP P E rs (.done (.panic ch) a u Z)=fleave P E rs a u a.defers (.panicking ch) Z:=rfl
theorem LY(f:FuncId)(cap args:Array Value)(ds:List Deferred):fleave P E rs a u ({ target:=.fn (.func f) cap,args:=args }::ds) (.panicking ch) Z=
  (match E.call f (args.toList++cap.toList) (some (.panicking ch)) Z with
   | .ret _ (some md') Z=>fleave P E rs a u ds (unrecovered md') Z
   | .pan ch (some md') Z=>fleave P E rs a u ds (raised md' ch) Z
   | _=>.no):=rfl
theorem G_(v:Value):afterOp E none dst a (some (.panicking [{ v,recovered:=false }])) k (.recover Z)=k (a.put dst v) (some (.panicking [{ v,recovered:=true }])) Z:=rfl
theorem Gu(v:Value):unrecovered (.panicking [{ v,recovered:=true }])=.returning:=rfl
end
end Go.Eng
namespace Go.Proofs.YtknnbjmcfibpgaaGreatDoor
open Go Go.Eng
attribute [local congr] Aa Af Ae Ab Ad
attribute [-go_sem] List.range_succ
abbrev failing(c z:Int):PanicEntry:={ v:=.iface 171 (.agg #[.int .i64 c,.int .i64 z]),recovered:=false }
abbrev failed(c z:Int):PanicEntry:={ v:=.iface 171 (.agg #[.int .i64 c,.int .i64 z]),recovered:=true }
theorem Avs(n:Nat)(c z:Int)(Z:aC):(env (n+1)).call 149 [.int .i64 c,.int .i64 z] none Z=.pan [failing c z] none Z:=by
 rw[Al _ 149 _ _ rfl,Afg _ _ _ _ (by simp),Aj]
 unfold AaH
 simp -implicitDefEqProofs only[go_sem,AdJ,Q6,Qb,Tv,AA,AV]
theorem G7(n:Nat)(c:Int)(Z:aC):(env (n+2)).call 124 [.int .i64 c] none Z=.pan [failing c 0] none Z:=by
 rw[Al _ 124 _ _ rfl,Afa _ _ _ _ (by simp),Aj]
 unfold AaB
 simp -implicitDefEqProofs only[go_sem,Adp,QM,Avs,A8,AA,AV]
end Go.Proofs.YtknnbjmcfibpgaaGreatDoor
namespace Go.Proofs.YtknnbjmcfibpgaaGreatDoor
open Go Go.Eng
attribute [local congr] Aa Af Ae Ab Ad
attribute [-go_sem] List.range_succ
theorem WP:aggSize Tryz.prog 171=some (some 2):=by kernel_rfl
theorem FL(n:Nat)(c z:Int)(Z:aC)(hw:Wf Z):
  Gives ((env (n+2)).call 136 [.iface 171 (.agg #[.int .i64 c,.int .i64 z])] none Z) Z fun v _=>v=.agg #[.int .i64 c,.int .i64 z]:=by
 rw[Al _ 136 _ _ rfl,Afc _ _ _ _ (by simp),Aj]
 unfold AaD
 have hw1:=(hw.push (.cells [.int .i64 0,.int .i64 0] 171) none).push (.cells [.int .i64 0,.int .i64 0] 171) none
 have hX1:Ext Z ((Z.push (.cells [.int .i64 0,.int .i64 0] 171) none).push (.cells [.int .i64 0,.int .i64 0] 171) none):=((Ext.refl _).push _ _).push _ _
 have e1:=Avr n (.int .i64 c) (.int .i64 z) (.pointer (some ⟨Z.next+1,0,none⟩)) ((Z.push (.cells [.int .i64 0,.int .i64 0] 171) none).push (.cells [.int .i64 0,.int .i64 0] 171) none)
  (((Z.push (.cells [.int .i64 0,.int .i64 0] 171) none).push (.cells [.int .i64 0,.int .i64 0] 171) none).put (Z.next+1) (.cells [.int .i64 c,.int .i64 z] 171) none) (by
   simp -implicitDefEqProofs only[go_sem,Ar])
 simp -implicitDefEqProofs only[go_sem,Ar,Ads,QP,Adt,QQ,Adu,QR,Adv,QS,e1,WP,Ag,AB,Av,Au,AH]
 refine⟨_,_,rfl,(hX1.put _ _ _ (Nat.le_add_right _ _)).put _ _ _ (Nat.le_refl _),?_,rfl⟩
 exact(hw1.put _ _ _ (by simp only[Ac];omega)).put _ _ _ (by simp only[Aw,Ac];omega)
theorem Afq(v:Value)(x:Nat)(Z:aC):bO Tryz.prog 20 (.tmp x) (.const .nilIface) (.iface 171 v) .nilIface Z=.val (.bool false) Z:=by kernel_rfl
theorem OG(v:Value)(Z:aC):fassert Tryz.prog (.iface 171 v) 169 true Z=.val (.tuple #[.iface 171 v,.bool true]) Z:=by kernel_rfl
def Fails(r:CRes)(Z:aC)(c z:Int):Prop:=∃V,r=.pan [failing c z] none V/\Ext Z V/\Wf V
end Go.Proofs.YtknnbjmcfibpgaaGreatDoor
namespace Go.Proofs.YtknnbjmcfibpgaaGreatDoor
open Go Go.Eng
attribute [local congr] Aa Af Ae Ab Ad
attribute [-go_sem] List.range_succ
theorem I7(P:Program)(E:Env)(rs:List ResultVar)(a:aY)(u:Option FrameMode)(Z:aC)(ch:List PanicEntry)(r:Nat)(args:Array Value)(ds:List Deferred)(ver:Nat)(h:Z.heap.get r=some ⟨.defd true,false,none,ver⟩):
  fleave P E rs a u ({ target:=.collected r,args:=args }::ds) (.panicking ch) Z=fleave P E rs a u ds (.panicking ch) (Z.put r (.defd false) none):=by
 show (cond (isRun (.panicking ch)) CRes.no (match Z.heap.get r with|some e=>(match e.obj with|.defd true=>cond e.ro CRes.no (fleave P E rs a u ds (.panicking ch) (Z.put r (.defd false) none))|_=>.no)|none=>.no))=_
 rw[h]
 rfl
end Go.Proofs.YtknnbjmcfibpgaaGreatDoor
namespace Go.Proofs.YtknnbjmcfibpgaaGreatDoor
open Go Go.Eng
attribute [local congr] Aa Af Ae Ab Ad
attribute [-go_sem] List.range_succ
structure Apart (M:Nat) (d:D):Prop where
 sane:Sane M d
 count:d.count<900
 deep:d.deep<1000
theorem Apart.small{M:Nat}{d:D}(h:Apart M d):Small (d.pieces []):=h.sane.small h.deep
theorem Apart.few{M:Nat}{d:D}(h:Apart M d):(d.pieces []).length<900:=by rw[Ed];exact h.count
end Go.Proofs.YtknnbjmcfibpgaaGreatDoor
namespace Go.Proofs.YtknnbjmcfibpgaaGreatDoor
open Go Go.Eng
variable (E:Env) (ro:Option Nat) (last:List Nat->aZ) (cl:List Nat) (a:aY) (u:Option FrameMode) (Z:aC)
end Go.Proofs.YtknnbjmcfibpgaaGreatDoor
namespace Go.Eng
open Go
def ordZ(a b:Int):Int:=if a<b then -1 else if a>b then 1 else 0
theorem ED{a b:Int}:ordZ a b=0↔a=b:=by
 unfold ordZ
 split
 .omega
 .split<;>omega
theorem Ge{a b:Int}:ordZ a b<0↔a<b:=by
 unfold ordZ
 split
 .omega
 .split<;>omega
theorem O1(a b:Int):ordZ b a = - ordZ a b:=by
 unfold ordZ
 split<;>split<;>(try split)<;>omega
theorem Mr(a b:Int) : -1<=ordZ a b/\ordZ a b<=1:=by
 unfold ordZ
 split
 .omega
 .split<;>omega
abbrev cmpT(a b:ByteArray):Int:=Extern.BytealgCompare.cmp a b
def LtT(a b:ByteArray):Prop:=∃i,(∀j,j<i->a[j]! = b[j]!)/\i<=a.size/\i<b.size/\(i=a.size\/a[i]! < b[i]!)
theorem EQ(a b:ByteArray):(LtT a b/\cmpT a b = -1)\/(LtT b a/\cmpT a b=1)\/(a=b/\cmpT a b=0):=by
 unfold cmpT Extern.BytealgCompare.cmp
 cases h:(List.range (min a.size b.size)).find? fun i=>a[i]! != b[i]! with
 | some i=>
  rw[List.find?_range_eq_some] at h
  obtain⟨h1,h2,h3⟩:=h
  rw[List.mem_range] at h2
  have h3':∀j,j<i->a[j]! = b[j]!:=fun j hj=>by
   have:=h3 j hj
   simpa using this
  have h1':a[i]! ≠ b[i]!:=by simpa using h1
  simp only
  by_cases hl:a[i]! < b[i]!
  .rw[if_pos hl]
   exact .inl ⟨⟨i,h3',by omega,by omega,.inr hl⟩,rfl⟩
  .rw[if_neg hl]
   refine .inr (.inl ⟨⟨i,fun j hj=>(h3' j hj).symm,by omega,by omega,.inr ?_⟩,rfl⟩)
   rcases UInt8.lt_or_eq_of_le (UInt8.not_lt.1 hl) with h|h
   .exact h
   .exact absurd h.symm h1'
 | none=>
  rw[List.find?_eq_none] at h
  have h':∀j,j<min a.size b.size->a[j]! = b[j]!:=fun j hj=>by
   have:=h j (List.mem_range.2 hj)
   simpa using this
  simp only
  by_cases h1:a.size<b.size
  .rw[if_pos h1]
   exact .inl ⟨⟨a.size,fun j hj=>h' j (by omega),Nat.le_refl _,h1,.inl rfl⟩,rfl⟩
  .rw[if_neg h1]
   by_cases h2:a.size>b.size
   .rw[if_pos h2]
    exact .inr (.inl ⟨⟨b.size,fun j hj=>(h' j (by omega)).symm,Nat.le_refl _,h2,.inl rfl⟩,rfl⟩)
   .rw[if_neg h2]
    refine .inr (.inr ⟨?_,rfl⟩)
    apply ByteArray.ext
    apply Array.ext
    .show a.size=b.size;omega
    .intro i h3 h4
     have h5:i<a.size:=h3
     have h6:i<b.size:=h4
     have:=h' i (by omega)
     rw[getElem!_pos a i h5,getElem!_pos b i h6] at this
     exact this
theorem LtT.irrefl{a:ByteArray}(h:LtT a a):False:=by
 obtain⟨i,_,_,h2,h3⟩:=h
 rcases h3 with h3|h3
 .omega
 .exact UInt8.lt_irrefl _ h3
theorem LtT.trans{a b c:ByteArray}(h:LtT a b)(h':LtT b c):LtT a c:=by
 obtain⟨i,h1,h2,h3,h4⟩:=h
 obtain⟨k,k1,k2,k3,k4⟩:=h'
 by_cases hik:i<k
 .refine⟨i,fun j hj=>(h1 j hj).trans (k1 j (by omega)),h2,by omega,?_⟩
  rw[<-k1 i hik]
  exact h4
 .by_cases hki:k<i
  .refine⟨k,fun j hj=>(h1 j (by omega)).trans (k1 j hj),by omega,k3,?_⟩
   rcases k4 with k4|k4
   .omega
   .rw[h1 k hki]
    exact .inr k4
  .obtain rfl:i=k:=by omega
   refine⟨i,fun j hj=>(h1 j hj).trans (k1 j hj),h2,k3,?_⟩
   rcases k4 with k4|k4
   .omega
   .rcases h4 with h4|h4
    .exact .inl h4
    .exact .inr (UInt8.lt_trans h4 k4)
theorem Ae4{a b:ByteArray}:cmpT a b<0↔LtT a b:=by
 rcases EQ a b with⟨h,e⟩|⟨h,e⟩|⟨h,e⟩
 .exact⟨fun _=>h,fun _=>by omega⟩
 .exact⟨fun h'=>by omega,fun h'=>(h.trans h').irrefl.elim⟩
 .subst h
  exact⟨fun h'=>by omega,fun h'=>h'.irrefl.elim⟩
theorem Hw{a b:ByteArray}:cmpT a b=0↔a=b:=by
 rcases EQ a b with⟨h,e⟩|⟨h,e⟩|⟨h,e⟩
 .exact⟨fun h'=>by omega,fun h'=>by subst h';exact h.irrefl.elim⟩
 .exact⟨fun h'=>by omega,fun h'=>by subst h';exact h.irrefl.elim⟩
 .exact⟨fun _=>h,fun _=>e⟩
theorem Acw(a b:ByteArray):cmpT b a = - cmpT a b:=by
 rcases EQ a b with⟨h,e⟩|⟨h,e⟩|⟨h,e⟩
 .rcases EQ b a with⟨h',e'⟩|⟨h',e'⟩|⟨h',e'⟩
  .exact(h.trans h').irrefl.elim
  .omega
  .subst h';exact h.irrefl.elim
 .rcases EQ b a with⟨h',e'⟩|⟨h',e'⟩|⟨h',e'⟩
  .omega
  .exact(h.trans h').irrefl.elim
  .subst h';exact h.irrefl.elim
 .subst h
  omega
theorem W4(a b:ByteArray) : -1<=cmpT a b/\cmpT a b<=1:=by
 rcases EQ a b with⟨_,e⟩|⟨_,e⟩|⟨_,e⟩<;>omega
def thenI(a b:Int):Int:=if a=0 then b else a
theorem GZ{a b:Int}:thenI a b=0↔a=0/\b=0:=by
 unfold thenI
 split<;>omega
theorem GY(a b:Int):thenI (-a) (-b) = - thenI a b:=by
 unfold thenI
 split<;>split<;>omega
theorem F5{a b:Int}(h : -1<=a/\a<=1)(h' : -1<=b/\b<=1) : -1<=thenI a b/\thenI a b<=1:=by
 unfold thenI
 split<;>omega
theorem Anc{a b:Int}:thenI a b<=0↔a<0\/(a=0/\b<=0):=by
 unfold thenI
 split<;>omega
mutual
def ordU:D->D->Int
 | .mk k z t ds,.mk k' z' t' es=>thenI (ordZ k k') (thenI (ordZ z z') (thenI (cmpT t t') (ordUs ds es)))
def ordUs:List D->List D->Int
 | [],[]=>0
 | [],_::_ => -1
 | _::_,[]=>1
 | d::ds,e::es=>thenI (ordU d e) (ordUs ds es)
end
mutual
theorem O0:∀d e:D,ordU d e=0↔d=e
 | .mk k z t ds,.mk k' z' t' es=>by
  rw[ordU,GZ,GZ,GZ,ED,ED,Hw,Mq ds es,D.mk.injEq]
theorem Mq:∀ds es:List D,ordUs ds es=0↔ds=es
 | [],[]=>by simp[ordUs]
 | [],_::_=>by simp[ordUs]
 | _::_,[]=>by simp[ordUs]
 | d::ds,e::es=>by rw[ordUs,GZ,O0 d e,Mq ds es,List.cons.injEq]
end
mutual
theorem OZ:∀d e:D,ordU e d = - ordU d e
 | .mk k z t ds,.mk k' z' t' es=>by
  rw[ordU,ordU,O1 k k',O1 z z',Acw t t',Mo ds es,GY,GY,GY]
theorem Mo:∀ds es:List D,ordUs es ds = - ordUs ds es
 | [],[]=>by simp[ordUs]
 | [],_::_=>by simp[ordUs]
 | _::_,[]=>by simp[ordUs]
 | d::ds,e::es=>by rw[ordUs,ordUs,OZ d e,Mo ds es,GY]
end
mutual
theorem Xy:∀d e:D,-1<=ordU d e/\ordU d e<=1
 | .mk k z t ds,.mk k' z' t' es=>by
  rw[ordU]
  exact F5 (Mr _ _) (F5 (Mr _ _) (F5 (W4 _ _) (KH ds es)))
theorem KH:∀ds es:List D,-1<=ordUs ds es/\ordUs ds es<=1
 | [],[]=>by simp[ordUs]
 | [],_::_=>by simp[ordUs]
 | _::_,[]=>by simp[ordUs]
 | d::ds,e::es=>by
  rw[ordUs]
  exact F5 (Xy d e) (KH ds es)
end
theorem G0{A B C a b c:Int}(h1:A<0->B<0->C<0)(h2:A<0->B=0->C<0)(h3:A=0->B<0->C<0)(h4:A=0->B=0->C=0)(h5:a<=0->b<=0->c<=0)(ha:thenI A a<=0)(hb:thenI B b<=0):thenI C c<=0:=by
 rw[Anc] at *
 rcases ha with ha|⟨ha,ha'⟩<;>rcases hb with hb|⟨hb,hb'⟩
 .exact .inl (h1 ha hb)
 .exact .inl (h2 ha hb)
 .exact .inl (h3 ha hb)
 .exact .inr ⟨h4 ha hb,h5 ha' hb'⟩
mutual
theorem Xz:∀a b c:D,ordU a b<=0->ordU b c<=0->ordU a c<=0
 | .mk k1 z1 t1 d1,.mk k2 z2 t2 d2,.mk k3 z3 t3 d3=>by
  rw[ordU,ordU,ordU]
  refine G0 (fun h h'=>?_) (fun h h'=>?_) (fun h h'=>?_) (fun h h'=>?_) ?_
  .rw[Ge] at *;omega
  .rw[Ge] at *;rw[ED] at h';omega
  .rw[Ge] at *;rw[ED] at h;omega
  .rw[ED] at *;omega
  refine G0 (fun h h'=>?_) (fun h h'=>?_) (fun h h'=>?_) (fun h h'=>?_) ?_
  .rw[Ge] at *;omega
  .rw[Ge] at *;rw[ED] at h';omega
  .rw[Ge] at *;rw[ED] at h;omega
  .rw[ED] at *;omega
  refine G0 (fun h h'=>?_) (fun h h'=>?_) (fun h h'=>?_) (fun h h'=>?_) (KI d1 d2 d3)
  .rw[Ae4] at *;exact h.trans h'
  .rw[Hw] at h';subst h';exact h
  .rw[Hw] at h;subst h;exact h'
  .rw[Hw] at *;exact h.trans h'
theorem KI:∀a b c:List D,ordUs a b<=0->ordUs b c<=0->ordUs a c<=0
 | [],[],[]=>by simp[ordUs]
 | [],[],_::_=>by simp[ordUs]
 | [],_::_,[]=>by simp[ordUs]
 | [],_::_,_::_=>by simp[ordUs]
 | _::_,[],[]=>by simp[ordUs]
 | _::_,[],_::_=>by simp[ordUs]
 | _::_,_::_,[]=>by simp[ordUs]
 | a::ar,b::br,c::cr=>by
  rw[ordUs,ordUs,ordUs]
  have ht:=Xz a b c
  have hz:=O0
  refine G0 (fun h h'=>?_) (fun h h'=>?_) (fun h h'=>?_) (fun h h'=>?_) (KI ar br cr)
  .have h1:=ht (by omega) (by omega)
   by_cases h0:ordU a c=0
   .have e:=(hz a c).1 h0
    subst e
    have:=OZ a b
    omega
   .omega
  .rw[hz] at h';subst h';exact h
  .rw[hz] at h;subst h;exact h'
  .rw[hz] at *;exact h.trans h'
end
end Go.Eng
namespace Go.Proofs.YtknnbjmcfibpgaaGreatDoor
open Go Go.Eng
attribute [local congr] Aa Af Ae Ab Ad
attribute [-go_sem] List.range_succ
def ordI(a b:Int):Int:=if a<b then -1 else if a>b then 1 else 0
end Go.Proofs.YtknnbjmcfibpgaaGreatDoor
namespace Go.Proofs.YtknnbjmcfibpgaaGreatDoor
open Go Go.Eng
attribute [local congr] Aa Af Ae Ab Ad
attribute [-go_sem] List.range_succ
def OrdR(d e:D)(r:Value):Prop:=r=.int .i64 (ordU d e)
end Go.Proofs.YtknnbjmcfibpgaaGreatDoor
namespace Go.Proofs.YtknnbjmcfibpgaaGreatDoor
open Go Go.Eng
attribute [local congr] Aa Af Ae Ab Ad
attribute [-go_sem] List.range_succ
section
variable (k z k' z':Int) (t t':ByteArray) (p p':Option Addr) (l l' c c':Nat) (Z:aC) (hw:Wf Z)
include hw
end
end Go.Proofs.YtknnbjmcfibpgaaGreatDoor
namespace Go.Proofs.YtknnbjmcfibpgaaGreatDoor
open Go Go.Eng
attribute [local congr] Aa Af Ae Ab Ad
attribute [-go_sem] List.range_succ
theorem Jj(path:List Nat):∀(ds:List D) (j i:Nat) (d:D),ds[i]? = some d->∀x∈d.pieces (path++[j+i]),x∈D.piecesL path j ds
 | [],j,i,d,h=>by simp at h
 | d0::ds,j,0,d,h=>fun x hx=>by
  cases h
  rw[D.piecesL]
  exact List.mem_append_left _ hx
 | d0::ds,j,i+1,d,h=>fun x hx=>by
  rw[D.piecesL]
  exact List.mem_append_right _ (Jj path ds (j+1) i d h x (by rw[show j+1+i=j+(i+1) by omega];exact hx))
end Go.Proofs.YtknnbjmcfibpgaaGreatDoor
namespace Go.Proofs.YtknnbjmcfibpgaaGreatDoor
open Go Go.Eng
attribute [local congr] Aa Af Ae Ab Ad
attribute [-go_sem] List.range_succ
theorem Apart.at{M:Nat}{d:D}(h:Apart M d):∀x∈d.pieces [],x.2.parts.length<=900/\GoodD M x.2:=h.sane []
end Go.Proofs.YtknnbjmcfibpgaaGreatDoor
namespace Go.Proofs.YtknnbjmcfibpgaaGreatDoor
open Go Go.Eng
def Agree(A B:List (List Nat×D)):Prop:=A.length=B.length/\∀(i:Nat) (a:List Nat×D),A[i]? = some a->∃b,B[i]? = some b/\a.1=b.1/\likeD a.2 b.2=true
theorem Agree.nil:Agree [] []:=⟨rfl,fun i a h=>by simp at h⟩
theorem Agree.cons{a b:List Nat×D}{A B:List (List Nat×D)}(h1:a.1=b.1)(h2:likeD a.2 b.2=true)(h:Agree A B):Agree (a::A) (b::B):=by
 refine⟨by simp[h.1],fun i x hx=>?_⟩
 cases i with
 | zero=>cases hx;exact⟨b,rfl,h1,h2⟩
 | succ i=>exact h.2 i x hx
theorem Agree.append{A B A' B':List (List Nat×D)}(h:Agree A B)(h':Agree A' B'):Agree (A++A') (B++B'):=by
 refine⟨by simp[h.1,h'.1],fun i x hx=>?_⟩
 by_cases hi:i<A.length
 .rw[List.getElem?_append_left hi] at hx
  rw[List.getElem?_append_left (by rw[<-h.1];exact hi)]
  exact h.2 i x hx
 .rw[List.getElem?_append_right (by omega)] at hx
  rw[List.getElem?_append_right (by rw[<-h.1];omega),<-h.1]
  exact h'.2 _ x hx
theorem Xp(d:D):likeD d d=true:=by
 obtain⟨k,z,t,ds⟩:=d
 simp[likeD]
theorem Agree.refl:∀A:List (List Nat×D),Agree A A
 | []=>.nil
 | a::A=>.cons rfl (Xp _) (Agree.refl A)
def Split(A B:List (List Nat×D)):Prop:=∃pre pre' path x y ra rb,A=pre++(path,x)::ra/\B=pre'++(path,y)::rb/\Agree pre pre'/\likeD x y=false
mutual
theorem Qv(p:List Nat):∀d e:D,d=e\/Split (d.pieces p) (e.pieces p)
 | .mk k z t ds,.mk k' z' t' es=>by
  cases h:likeD (.mk k z t ds) (.mk k' z' t' es) with
  | false=>exact .inr ⟨[],[],p,_,_,_,_,by rw[D.pieces];rfl,by rw[D.pieces];rfl,.nil,h⟩
  | true=>
   have h':=h
   simp only[likeD,Bool.and_eq_true,beq_iff_eq] at h'
   obtain⟨⟨⟨h1,h2⟩,h3⟩,h4⟩:=h'
   have h5:=toList_inj h3
   subst h1 h2 h5
   rcases Ii p ds es 0 (Int.ofNat.inj h4) with rfl|⟨pre,pre',path,x,y,ra,rb,e1,e2,e3,e4⟩
   .exact .inl rfl
   .exact .inr ⟨(p,.mk k z t ds)::pre,(p,.mk k z t es)::pre',path,x,y,ra,rb,by rw[D.pieces,e1];rfl,by rw[D.pieces,e2];rfl,.cons rfl h e3,e4⟩
theorem Ii(p:List Nat):∀(ds es:List D) (i:Nat),ds.length=es.length->ds=es\/Split (D.piecesL p i ds) (D.piecesL p i es)
 | [],[],_,_=>.inl rfl
 | [],_::_,_,h=>by simp at h
 | _::_,[],_,h=>by simp at h
 | d::ds,e::es,i,h=>by
  rcases Qv (p++[i]) d e with rfl|⟨pre,pre',path,x,y,ra,rb,e1,e2,e3,e4⟩
  .rcases Ii p ds es (i+1) (by simpa using h) with rfl|⟨pre,pre',path,x,y,ra,rb,e1,e2,e3,e4⟩
   .exact .inl rfl
   .exact .inr ⟨d.pieces (p++[i])++pre,d.pieces (p++[i])++pre',path,x,y,ra,rb,by rw[D.piecesL,e1,List.append_assoc],by rw[D.piecesL,e2,List.append_assoc],(Agree.refl _).append e3,e4⟩
  .exact .inr ⟨pre,pre',path,x,y,ra++D.piecesL p (i+1) ds,rb++D.piecesL p (i+1) es,by rw[D.piecesL,e1,List.append_assoc,List.cons_append],by rw[D.piecesL,e2,List.append_assoc,List.cons_append],e3,e4⟩
end
mutual
theorem Qu(p:List Nat):∀d:D,(d.pieces p).Pairwise fun a b=>a.1≠b.1
 | .mk k z t ds=>by
  rw[D.pieces]
  refine List.Pairwise.cons (fun b hb h=>?_) (Ih p ds 0)
  obtain⟨j,r,d',h1,_⟩:=GK ds p 0 b hb
  rw[h1] at h
  have:=congrArg List.length h
  simp at this
theorem Ih(p:List Nat):∀(ds:List D) (i:Nat),(D.piecesL p i ds).Pairwise fun a b=>a.1≠b.1
 | [],_=>by rw[D.piecesL];exact List.Pairwise.nil
 | d::ds,i=>by
  rw[D.piecesL]
  refine List.pairwise_append.2 ⟨Qu _ d,Ih p ds (i+1),fun a ha b hb h=>?_⟩
  obtain⟨r,h1,_⟩:=O3 d (p++[i]) a ha
  obtain⟨j,r',d',h2,_⟩:=GK ds p (i+1) b hb
  rw[h1,h2,List.append_assoc] at h
  have:=List.append_cancel_left h
  simp at this
  omega
end
end Go.Proofs.YtknnbjmcfibpgaaGreatDoor
end
