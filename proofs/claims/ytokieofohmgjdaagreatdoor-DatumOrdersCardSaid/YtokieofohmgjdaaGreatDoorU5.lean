import Derived.Test.YtokieofohmgjdaaGreatDoorProg
import Derived.WalkKit
import Derived.LaidEql
import Derived.Stop.Asserts
import Derived.RowKitTokens
import Derived.Test.YtokieofohmgjdaaGreatDoorU2
import Derived.Test.YtokieofohmgjdaaGreatDoorU3
import Derived.Test.YtokieofohmgjdaaGreatDoorU4
import Derived.Test.YtokieofohmgjdaaGreatDoorZSymTL
import Derived.ChangeArms
import Derived.DataReads
import Derived.ChangeSlices
import Derived.OpenShut
import Derived.Carry
import Derived.Laws.StructEq
set_option linter.unusedSimpArgs false
set_option linter.unusedVariables false
noncomputable section
namespace Go.Proofs.YtokieofohmgjdaaGreatDoor
open Go Go.RowKit Go.Extern.Stop Go.Stop Go.Extern
theorem Aum(t:Value)(w:World):Calls Tryz.prog 169 #[.nilIface,t] w fun e w'=>e=.returned (.bool false)∧w'=w:=by
 go_enter Tryz.func169,Tryz.ntmps169
 go_wp2
 go_ret
 exact⟨rfl,rfl⟩
theorem Te(t:Addr)(w:World):(ReflectliteValue.unpack (.iface 197 (.pointer (some t)))).run Tryz.prog w=.ok (.agg #[.pointer (some ⟨2,197,none⟩),.pointer (some ⟨w.heap.size,0,none⟩),.int .u64 150]) (w.alloc (.cells #[.pointer (some t)] 197)):=by kernel_rfl
theorem Ae9(a:Addr)(w:World):(ReflectliteValue.methodAny (ReflectliteValue.valueError "reflectlite.Value.Type" 0) (fun t _ _ _=>ReflectliteType.toType t) #[.agg #[.pointer (some ⟨2,197,none⟩),.pointer (some a),.int .u64 150]]).run Tryz.prog w=.ok (.iface 231 (.agg #[.pointer (some ⟨2,197,none⟩)])) w:=by kernel_rfl
theorem Ae5(h:Value)(w:World):(Go.method 380 231 (.agg #[h]) "Kind").run Tryz.prog w=.ok (221,h) w:=by kernel_rfl
theorem Ae3(h:Value)(w:World):(Go.method 380 231 (.agg #[h]) "Elem").run Tryz.prog w=.ok (244,.agg #[h]) w:=by kernel_rfl
theorem Ae4(h:Value)(w:World):(Go.method 380 231 (.agg #[h]) "Implements").run Tryz.prog w=.ok (245,.agg #[h]) w:=by kernel_rfl
theorem V_(h:Value)(w:World):(Go.method 380 231 (.agg #[h]) "AssignableTo").run Tryz.prog w=.ok (242,.agg #[h]) w:=by kernel_rfl
theorem Ae0(w:World):((ReflectliteType.abiMethod fun t=>(fun a:Nat=>Value.int IntKind.u8 (a:Int)) <$> Rtype.kind t) #[.pointer (some ⟨2,197,none⟩)]).run Tryz.prog w=.ok (.int .u8 22) w:=by kernel_rfl
theorem Ae1(w:World):((ReflectliteType.abiMethod fun t=>(fun a:Nat=>Value.int IntKind.u8 (a:Int)) <$> Rtype.kind t) #[.pointer (some ⟨2,178,none⟩)]).run Tryz.prog w=.ok (.int .u8 25) w:=by kernel_rfl
theorem AeX(w:World):(ReflectliteType.method ReflectliteType.elem #[.agg #[.pointer (some ⟨2,197,none⟩)]]).run Tryz.prog w=.ok (.iface 231 (.agg #[.pointer (some ⟨2,178,none⟩)])) w:=by kernel_rfl
theorem AnK(w:World):(ReflectliteType.relation "Implements" ReflectliteType.implements_ #[.agg #[.pointer (some ⟨2,178,none⟩)],.iface 231 (.agg #[.pointer (some ⟨2,176,none⟩)])]).run Tryz.prog w=.ok (.bool true) w:=by kernel_rfl
theorem Aby(v:Value)(w:World):(ReflectliteType.typeOf #[.iface 178 v]).run Tryz.prog w=.ok (.iface 231 (.agg #[.pointer (some ⟨2,178,none⟩)])) w:=by kernel_rfl
theorem Abt(w:World):(ReflectliteType.relation "AssignableTo" ReflectliteType.assignableTo #[.agg #[.pointer (some ⟨2,178,none⟩)],(.iface 231 (.agg #[.pointer (some ⟨2,178,none⟩)]))]).run Tryz.prog w=.ok (.bool true) w:=by kernel_rfl
theorem Tf(x y:Value)(w:World):(ReflectliteValue.unpack (.iface 178 (.agg #[x,y]))).run Tryz.prog w=.ok (.agg #[.pointer (some ⟨2,178,none⟩),.pointer (some ⟨w.heap.size,0,none⟩),.int .u64 153]) (w.alloc (.cells #[x,y] 178)):=by kernel_rfl
theorem NO(a:Addr)(w:World):(ReflectliteValue.parts (.agg #[.pointer (some ⟨2,197,none⟩),.pointer (some a),.int .u64 150])).run Tryz.prog w=.ok (some (197,a,150)) w:=by kernel_rfl
theorem Abw(a:Addr)(w:World):(ReflectliteValue.parts (.agg #[.pointer (some ⟨2,178,none⟩),.pointer (some a),.int .u64 409])).run Tryz.prog w=.ok (some (178,a,409)) w:=by kernel_rfl
theorem Abx(a:Addr)(w:World):(ReflectliteValue.parts (.agg #[.pointer (some ⟨2,178,none⟩),.pointer (some a),.int .u64 153])).run Tryz.prog w=.ok (some (178,a,153)) w:=by kernel_rfl
theorem Abv(w:World):(Rtype.elem? 197).run Tryz.prog w=.ok (some 178) w:=by kernel_rfl
theorem Awd(p:Addr)(w:World):(ReflectliteValue.mk 178 p ReflectliteValue.flagAddr).run Tryz.prog w=.ok (.agg #[.pointer (some ⟨2,178,none⟩),.pointer (some p),.int .u64 409]) w:=by kernel_rfl
theorem Abu(w:World):(Rtype.directlyAssignable 178 178).run Tryz.prog w=.ok true w:=by kernel_rfl
theorem ZZ(w:World):(sizeOf 178).run Tryz.prog w=.ok 2 w:=by kernel_rfl
theorem AnI(w:World):(isAgg 197).run Tryz.prog w=.ok false w:=by kernel_rfl
theorem AnJ(w:World):(isAgg 178).run Tryz.prog w=.ok true w:=by kernel_rfl
theorem Td(a p:Addr)(W:World)(ha:W.cell? a=some (.pointer (some p))):(loadVar 197 a).run Tryz.prog W=.ok (.pointer (some p)) W:=by
 simp[loadVar,AnI,ha,Result.andThen]
theorem Ae2(b:Addr)(x y:Value)(W:World)(hb:W.cell? b=some x)(hb2:W.cell? (b.add 1)=some y):(loadVar 178 b).run Tryz.prog W=.ok (.agg #[x,y]) W:=by
 have h2:W.cell? ⟨b.block,b.off+1,none⟩=some y:=hb2
 simp[loadVar,AnJ,ZZ,loadCells,loadCellsFrom,Addr.add,hb,h2,Result.andThen]
theorem NN(z:Sem Value)(f:TypeId→Addr→Nat→Nat→Sem Value)(v:Value):ReflectliteValue.method z f #[v]=(do match ←ReflectliteValue.parts v with|none=>z|some (t,a,fl)=>f t a fl (fl % 32)):=rfl
theorem AeZ(a p:Addr)(W:World)(ha:W.cell? a=some (.pointer (some p))):
  (ReflectliteValue.method (ReflectliteValue.valueError "reflectlite.Value.IsNil" 0) ReflectliteValue.isNil #[.agg #[.pointer (some ⟨2,197,none⟩),.pointer (some a),.int .u64 150]]).run Tryz.prog W=.ok (.bool false) W:=by
 rw[NN]
 simp only[Sem.run_bind,NO,Result.andThen]
 simp[ReflectliteValue.isNil,Td a p W ha,Result.andThen]
theorem AeY(a p:Addr)(W:World)(ha:W.cell? a=some (.pointer (some p))):
  (ReflectliteValue.method (ReflectliteValue.valueError "reflectlite.Value.Elem" 0) ReflectliteValue.elem #[.agg #[.pointer (some ⟨2,197,none⟩),.pointer (some a),.int .u64 150]]).run Tryz.prog W=.ok (.agg #[.pointer (some ⟨2,178,none⟩),.pointer (some p),.int .u64 409]) W:=by
 rw[NN]
 simp only[Sem.run_bind,NO,Result.andThen]
 simp[ReflectliteValue.elem,Td a p W ha,Result.andThen,Abv,Awd]
theorem Ae8(a c:Addr)(x o:Value)(W:World)(h:W.cell? c=some o):∃o',(W.setCell a x).cell? c=some o':=by
 by_cases hb:a.block=c.block
 ·cases hh:W.heap[c.block]? with
  | none=>simp[World.cell?,hh] at h
  | some ob=>
   cases ob with
   | cells c1 t1 f1=>
    have h3:c.spot=none∧c1[c.off]? = some o:=by
     simp only[World.cell?,hh] at h
     cases hs:c.spot with
     | none=>simpa [hs] using h
     | some q=>simp[hs] at h
    have hlt:c.off<c1.size:=(Array.getElem?_eq_some_iff.1 h3.2).1
    refine⟨(if a.spot.isSome then c1 else c1.setIfInBounds a.off x)[c.off]'(by split<;>simpa using hlt),?_⟩
    simp only[World.cell?,World.setCell,Array.getElem?_modify,hb,hh,h3.1,↓reduceIte,Option.map_some,Option.isSome_none,Bool.false_eq_true]
    exact Array.getElem?_eq_getElem _
   | _=>simp[World.cell?,hh] at h
 ·exact⟨o,by simp[World.cell?,World.setCell,Array.getElem?_modify,hb] at h ⊢;exact h⟩
theorem Aun(ta b:Addr)(x y old old2:Value)(W:World)(hx:x.oneCell'=true)(hy:y.oneCell'=true)(hb:W.cell? b=some x)(hb2:W.cell? (b.add 1)=some y)(ht:W.cell? ta=some old)(hf:W.frozen? ta=false)(ht2:W.cell? (ta.add 1)=some old2)(hf2:W.frozen? (ta.add 1)=false):
  (ReflectliteValue.set #[.agg #[.pointer (some ⟨2,178,none⟩),.pointer (some ta),.int .u64 409],.agg #[.pointer (some ⟨2,178,none⟩),.pointer (some b),.int .u64 153]]).run Tryz.prog W=.ok (.tuple #[]) ((W.setCell ta x).setCell (ta.add 1) y):=by
 have h1:ReflectliteValue.set #[.agg #[.pointer (some ⟨2,178,none⟩),.pointer (some ta),.int .u64 409],.agg #[.pointer (some ⟨2,178,none⟩),.pointer (some b),.int .u64 153]]=(do
  let (some (dst,a,fl),some (src,b,_)):=(←ReflectliteValue.parts (.agg #[.pointer (some ⟨2,178,none⟩),.pointer (some ta),.int .u64 409]),←ReflectliteValue.parts (.agg #[.pointer (some ⟨2,178,none⟩),.pointer (some b),.int .u64 153]))
   | unsupported (.noEntry "extern/(internal/reflectlite.Value).Set.zeroValue")
  if fl / ReflectliteValue.flagAddr % 2==0 then unsupported (.noEntry "extern/(internal/reflectlite.Value).Set.unaddressable")
  let val ←loadVar src b
  if ←Rtype.directlyAssignable dst src then storeVar dst a val
  else if ←Rtype.implements dst src then
   if (←Rtype.kind src)==20 then
    match val with
    | .nilIface=>unsupported (.noEntry "extern/reflectlite: a nil value of one interface type handed on as a value of another")
    | _=>storeVar dst a val
   else storeVar dst a (.iface src val)
  else panicString ("reflectlite.Set: value of type " ++ (←Rtype.spelt src) ++ " is not assignable to type " ++ (←Rtype.spelt dst))
  pure (.tuple #[])):=rfl
 rw[h1]
 simp only[Sem.run_bind,Abw,Abx,Result.andThen]
 have hne:ta≠ta.add 1:=fun h=>by
  have h9:ta.off=(ta.add 1).off:=congrArg Addr.off h
  simp[Addr.add] at h9
 have hc2:∃o,(W.setCell ta x).cell? (ta.add 1)=some o:=Ae8 ta (ta.add 1) x old2 W ht2
 obtain⟨o,hc2⟩:=hc2
 have hf3:(W.setCell ta x).frozen? (ta.add 1)=false:=(World.frozen?_setCell _ _ _ _).trans hf2
 have h8:(storeCells ta [x,y]).run Tryz.prog W=.ok () ((W.setCell ta x).setCell (ta.add 1) y):=by
  show (do store (Addr.add ta 0) x;(do store (Addr.add ta 1) y;pure ()):Sem Unit).run Tryz.prog W=_
  rw[Sem.run_bind,show Addr.add ta 0=ta from rfl,run_store Tryz.prog W ta _ _ hx]
  simp only[ht,hf,Result.andThen,Bool.false_eq_true,if_false]
  rw[Sem.run_bind,run_store Tryz.prog _ (ta.add 1) _ _ hy]
  simp[hc2,hf3,Result.andThen]
 simp[ReflectliteValue.flagAddr,Ae2 b x y W hb hb2,Result.andThen,Abu,storeVar,ZZ,Value.cells,h8]
set_option maxHeartbeats 4000000 in
theorem Aul(x y:Value)(t:Addr)(old old2:Value)(w:World)(hx:x.oneCell'=true)(hy:y.oneCell'=true)(hg:w.cell? ⟨0,0,none⟩=some (.iface 231 (.agg #[.pointer (some ⟨2,176,none⟩)])))(ht0:w.cell? t=some old)(hf0:w.frozen? t=false)(ht2:w.cell? (t.add 1)=some old2)(hf2:w.frozen? (t.add 1)=false):
  Calls Tryz.prog 169 #[.iface 178 (.agg #[x,y]),.iface 197 (.pointer (some t))] w fun ev w'=>ev=.returned (.bool true)∧w'=(((((w.alloc (.cells #[.pointer (some t)] 197)).alloc (.cells #[.pointer (some ⟨2,197,none⟩),.pointer (some ⟨w.heap.size,0,none⟩),.int .u64 150] 214)).alloc (.cells #[.pointer (some ⟨2,197,none⟩),.pointer (some ⟨w.heap.size,0,none⟩),.int .u64 150] 214)).alloc (.cells #[x,y] 178)).setCell t x).setCell (t.add 1) y:=by
 have h1:=@run_callFunc_extern Tryz.prog 184 _ (fun args=>ReflectliteValue.unpack (args.getD 0 (.tuple #[]))) Tryz.func184 (by kernel_rfl) (by kernel_rfl) (by kernel_rfl) (by kernel_rfl)
 have h2:=@run_callFunc_extern Tryz.prog 185 _ (ReflectliteValue.methodAny (ReflectliteValue.valueError "reflectlite.Value.Type" 0) (fun t _ _ _=>ReflectliteType.toType t)) Tryz.func185 (by kernel_rfl) (by kernel_rfl) (by kernel_rfl) (by kernel_rfl)
 have h3:=@run_callFunc_extern Tryz.prog 186 _ (ReflectliteValue.method (ReflectliteValue.valueError "reflectlite.Value.IsNil" 0) ReflectliteValue.isNil) Tryz.func186 (by kernel_rfl) (by kernel_rfl) (by kernel_rfl) (by kernel_rfl)
 have h4:=@run_callFunc_extern Tryz.prog 221 _ (ReflectliteType.abiMethod fun t=>do pure (.int .u8 (←Rtype.kind t))) Tryz.func221 (by kernel_rfl) (by kernel_rfl) (by kernel_rfl) (by kernel_rfl)
 have h5:=@run_callFunc_extern Tryz.prog 244 _ (ReflectliteType.method ReflectliteType.elem) Tryz.func244 (by kernel_rfl) (by kernel_rfl) (by kernel_rfl) (by kernel_rfl)
 have h6:=@run_callFunc_extern Tryz.prog 245 _ (ReflectliteType.relation "Implements" ReflectliteType.implements_) Tryz.func245 (by kernel_rfl) (by kernel_rfl) (by kernel_rfl) (by kernel_rfl)
 have h7:=@run_callFunc_extern Tryz.prog 195 _ ReflectliteType.typeOf Tryz.func195 (by kernel_rfl) (by kernel_rfl) (by kernel_rfl) (by kernel_rfl)
 have h8:=@run_callFunc_extern Tryz.prog 242 _ (ReflectliteType.relation "AssignableTo" ReflectliteType.assignableTo) Tryz.func242 (by kernel_rfl) (by kernel_rfl) (by kernel_rfl) (by kernel_rfl)
 have h9:=@run_callFunc_extern Tryz.prog 196 _ (ReflectliteValue.method (ReflectliteValue.valueError "reflectlite.Value.Elem" 0) ReflectliteValue.elem) Tryz.func196 (by kernel_rfl) (by kernel_rfl) (by kernel_rfl) (by kernel_rfl)
 have h10:=@run_callFunc_extern Tryz.prog 197 _ ReflectliteValue.set Tryz.func197 (by kernel_rfl) (by kernel_rfl) (by kernel_rfl) (by kernel_rfl)
 have k1:=Aby
 have k2:=V_
 have k3:=Abt
 have k4:=Tf
 have k5:=Te
 have k6:=Ae9
 have k7:=Ae5
 have k8:=Ae3
 have k9:=Ae4
 have k10:=Ae0
 have k11:=Ae1
 have k12:=AeX
 have k13:=AnK
 have n8:=AeZ ⟨w.heap.size,0,none⟩ t ((w.alloc (.cells #[.pointer (some t)] 197)).alloc (.cells #[.pointer (some ⟨2,197,none⟩),.pointer (some ⟨w.heap.size,0,none⟩),.int .u64 150] 214)) (by simp)
 have hlt:0<w.heap.size:=by
  rcases Nat.lt_or_ge 0 w.heap.size with h|h
  ·exact h
  ·simp[World.cell?,Array.getElem?_eq_none h] at hg
 have htl:t.block<w.heap.size:=by
  rcases Nat.lt_or_ge t.block w.heap.size with h|h
  ·exact h
  ·simp[World.cell?,Array.getElem?_eq_none h] at ht0
 have hg2:((w.alloc (.cells #[.pointer (some t)] 197)).alloc (.cells #[.pointer (some ⟨2,197,none⟩),.pointer (some ⟨w.heap.size,0,none⟩),.int .u64 150] 214)).cell? ⟨0,0,none⟩=some (.iface 231 (.agg #[.pointer (some ⟨2,176,none⟩)])):=by
  rw[World.cell?_alloc_lt _ _ ⟨0,0,none⟩ (by simp<;>omega),World.cell?_alloc_lt _ _ ⟨0,0,none⟩ hlt];exact hg
 have el:=AeY ⟨w.heap.size,0,none⟩ t (((w.alloc (.cells #[.pointer (some t)] 197)).alloc (.cells #[.pointer (some ⟨2,197,none⟩),.pointer (some ⟨w.heap.size,0,none⟩),.int .u64 150] 214)).alloc (.cells #[.pointer (some ⟨2,197,none⟩),.pointer (some ⟨w.heap.size,0,none⟩),.int .u64 150] 214)) (by rw[World.cell?_alloc_lt _ _ ⟨w.heap.size,0,none⟩ (by simp;omega)];simp)
 have up:∀(a:Addr) (v:Value),a.block<w.heap.size→w.cell? a=some v→((((w.alloc (.cells #[.pointer (some t)] 197)).alloc (.cells #[.pointer (some ⟨2,197,none⟩),.pointer (some ⟨w.heap.size,0,none⟩),.int .u64 150] 214)).alloc (.cells #[.pointer (some ⟨2,197,none⟩),.pointer (some ⟨w.heap.size,0,none⟩),.int .u64 150] 214)).alloc (.cells #[x,y] 178)).cell? a=some v:=fun a v h1 h2=>by
  rw[World.cell?_alloc_lt _ _ a (by simp;omega),World.cell?_alloc_lt _ _ a (by simp;omega),World.cell?_alloc_lt _ _ a (by simp;omega),World.cell?_alloc_lt _ _ a h1];exact h2
 have upf:∀(a:Addr),a.block<w.heap.size→w.frozen? a=false→((((w.alloc (.cells #[.pointer (some t)] 197)).alloc (.cells #[.pointer (some ⟨2,197,none⟩),.pointer (some ⟨w.heap.size,0,none⟩),.int .u64 150] 214)).alloc (.cells #[.pointer (some ⟨2,197,none⟩),.pointer (some ⟨w.heap.size,0,none⟩),.int .u64 150] 214)).alloc (.cells #[x,y] 178)).frozen? a=false:=fun a h1 h2=>by
  rw[World.frozen?_alloc_old _ _ a (by simp;omega),World.frozen?_alloc_old _ _ a (by simp;omega),World.frozen?_alloc_old _ _ a (by simp;omega),World.frozen?_alloc_old _ _ a (Nat.ne_of_lt h1)];exact h2
 have st:=Aun t ⟨w.heap.size+1+1+1,0,none⟩ x y old old2 ((((w.alloc (.cells #[.pointer (some t)] 197)).alloc (.cells #[.pointer (some ⟨2,197,none⟩),.pointer (some ⟨w.heap.size,0,none⟩),.int .u64 150] 214)).alloc (.cells #[.pointer (some ⟨2,197,none⟩),.pointer (some ⟨w.heap.size,0,none⟩),.int .u64 150] 214)).alloc (.cells #[x,y] 178)) hx hy
  (by rw[World.cell?_alloc_at _ _ _ _ (by simp)];rfl)
  (by rw[show (Addr.add ⟨w.heap.size+1+1+1,0,none⟩ 1:Addr)=⟨w.heap.size+1+1+1,1,none⟩ from rfl,World.cell?_alloc_at _ _ _ _ (by simp)];rfl)
  (up t old htl ht0) (upf t htl hf0) (up (t.add 1) old2 htl ht2) (upf (t.add 1) htl hf2)
 go_enter Tryz.func169,Tryz.ntmps169
 go_wp2
 refine wp_loop_rounds 1 ?_
 rw[rounds_succ]
 go_wp2
 go_ret
 exact⟨rfl,rfl⟩
end Go.Proofs.YtokieofohmgjdaaGreatDoor
namespace Go.Eng
open Go
section
variable [Pins] {P:Program} {m:Mp} {σ:FState} {w:World} {f:FuncId} {fn:Func} {body:Code} {args':Array Value}
theorem CallOK.of_store2(hf:P.funcs[f]? = some fn)(hb:fn.body=some body)(hname:(fn.name == "runtime.NumGoroutine")=false)(hr:Rel Top m σ w){p p' x x' y y':Value}{σ':FState}(hst:fstore 2 p (.agg #[x,y]) σ=.skip σ')(hp:VRel m p p')(hx:VRel m x x')(hy:VRel m y y')(h:∀(t:Addr) (old old2:Value),p'=.pointer (some t)→x'.oneCell'=true→y'.oneCell'=true→w.cell? t=some old→w.frozen? t=false→w.cell? (t.add 1)=some old2→w.frozen? (t.add 1)=false→∃w4:World,(∀j,j<w.heap.size→w4.heap[j]? = w.heap[j]?)∧w.heap.size≤w4.heap.size∧w4.os=w.os∧w4.tape=w.tape∧w4.output=w.output∧
   Calls P f args' w fun e w'=>e=.returned (.bool true)∧w'=(w4.setCell t x').setCell (t.add 1) y'):CallOK P m σ w f args' none (.ret (.bool true) none σ'):=by
 obtain⟨b,off,ent,c,el,c',rfl,hg,ho,hro,hc,hs,rfl⟩:=EU hst
 have hvc:valCells (.agg #[x,y])=[x,y]:=rfl
 rw[hvc] at hc hs
 generalize hpp:p'=pp at hp
 cases hp with
 | ptr hm=>
  rename_i e
  have hcc:oneCell x=true∧oneCell y=true:=by simpa using (Bool.and_eq_true_iff.1 hc).2
  have hone:x'.oneCell'=true:=PU (C_ hx hcc.1)
  have hone2:y'.oneCell'=true:=PU (C_ hy hcc.2)
  obtain⟨hre,hsy⟩:=hr.sync b ent e trivial hg hm
  rw[ho] at hsy
  obtain⟨ca,el',fr,h2,h3,h4,_⟩:=hsy
  have hoff:off+1<c.length:=by
   rw[Ce] at hs
   by_cases hle:off+[x,y].length≤c.length
   ·simp at hle
    omega
   ·rw[if_neg hle] at hs
    cases hs
  obtain⟨old,h5,_⟩:=h4 off c[off] (List.getElem?_eq_getElem (by omega))
  obtain⟨old2,h52,_⟩:=h4 (off+1) c[off+1] (List.getElem?_eq_getElem hoff)
  have hlt:e.blk<w.heap.size:=(hr.dom _ _ hm).2
  have hfr:=h3 (by rw[←hre];exact hro)
  have cell:∀w4:World,w4.heap[e.blk]? = w.heap[e.blk]? → ∀(o:Nat) (v:Value),ca[e.sh+o]? = some v→w4.cell? ⟨e.blk,e.sh+o,none⟩=some v∧w4.frozen? ⟨e.blk,e.sh+o,none⟩=false:=fun w4 hw4 o v hv=>by
   rw[h2] at hw4
   exact⟨by simp[World.cell?,hw4,hv],by simp[World.frozen?,hw4,hfr]⟩
  have hadd:Addr.add ⟨e.blk,e.sh+off,none⟩ 1=⟨e.blk,e.sh+(off+1),none⟩:=by simp[Addr.add,Nat.add_assoc]
  obtain⟨w4,g1,g2,g3,g4,g5,g6⟩:=h _ old old2 hpp hone hone2 (cell w rfl off old h5).1 (cell w rfl off old h5).2 (by rw[hadd];exact(cell w rfl (off+1) old2 h52).1) (by rw[hadd];exact(cell w rfl (off+1) old2 h52).2)
  have hr4:Rel Top m σ w4:=hr.moreWorld g1 g2
  have hS4:Step σ σ m m w w4:=(Step.refl σ m w).moreWorld g1 g2 g3 g4 g5
  obtain⟨w',k1,k2,k3⟩:=hr4.splice (P:=P) hm hg ho hro hs (.cons hx (.cons hy .nil)) (fun v hv=>by
   rcases List.mem_cons.1 hv with rfl|hv
   ·exact hone
   ·rw[List.mem_singleton] at hv
    rw[hv]
    exact hone2)
  have c1:=cell w4 (g1 _ hlt) off old h5
  have c2:=cell w4 (g1 _ hlt) (off+1) old2 h52
  have hne:((e.sh+off:Nat))≠e.sh+(off+1):=by omega
  have hc2:(w4.setCell ⟨e.blk,e.sh+off,none⟩ x').cell? ⟨e.blk,e.sh+(off+1),none⟩=some old2:=by
   have hw4:=g1 _ hlt
   rw[h2] at hw4
   simp[World.setCell,World.cell?,Array.getElem?_modify,hw4,h52,Array.getElem?_setIfInBounds,Array.getElem?_set]
  have hf2:(w4.setCell ⟨e.blk,e.sh+off,none⟩ x').frozen? ⟨e.blk,e.sh+(off+1),none⟩=false:=(World.frozen?_setCell _ _ _ _).trans c2.2
  have hrun:(storeCells ⟨e.blk,e.sh+off,none⟩ [x',y']).run P w4=.ok () ((w4.setCell ⟨e.blk,e.sh+off,none⟩ x').setCell (Addr.add ⟨e.blk,e.sh+off,none⟩ 1) y'):=by
   show (do store (Addr.add ⟨e.blk,e.sh+off,none⟩ 0) x';(do store (Addr.add ⟨e.blk,e.sh+off,none⟩ 1) y';pure ()):Sem Unit).run P w4=_
   rw[Sem.run_bind,run_store P w4 _ _ _ hone]
   rw[hadd]
   simp[Addr.add,c1.1,c1.2,Result.andThen,Sem.run_bind,run_store P _ _ _ _ hone2,hc2,hf2]
  rw[hrun] at k1
  cases k1
  exact CallOK.of_calls hf hb hname g6 k2 (hS4.trans k3) (.bool true)
end
end Go.Eng
namespace Go.Proofs.YtokieofohmgjdaaGreatDoor
open Go Go.Eng
def handle:Value:=.iface 231 (.agg #[.pointer (some ⟨2,176,none⟩)])
theorem Ae6:(Tryz.prog.funcs.toList.all fun fn=>!(fn.name == "runtime.NumGoroutine"))=true:=by kernel_rfl
theorem Ae7(f:FuncId)(fn:Func)(h:Tryz.prog.funcs[f]? = some fn):(fn.name == "runtime.NumGoroutine")=false:=by
 have:=List.all_eq_true.1 Ae6 fn (by
  rw[Array.mem_toList_iff]
  exact Array.mem_of_getElem? h)
 simpa using this
theorem Ant[Pins](W:World)(hpin:∀o,W.heap[0]? = some o→Pins.on 0 o)(hg:W.cell? ⟨0,0,none⟩=some handle):SumOK Tryz.prog sums:=by
 intro f args σ r m w args' h hr hA
 unfold sums at h
 cases hf:Nat.beq f 169 with
 | false=>rw[hf] at h;cases h
 | true=>
  rw[hf] at h
  rw[Nat.beq_eq] at hf
  subst hf
  have hname:=Ae7 169 _ Tryz.func169
  obtain⟨L'⟩:=args'
  simp only[cond_true] at h
  split at h
  ·rename_i p
   cases h
   match L',hA with
   | [a',p'],hA=>
    have h1:=hA.head
    cases h1
    exact CallOK.of_calls Tryz.func169 rfl hname (Aum p' w) hr (.refl _ _ _) (.bool false)
   | [],hA=>simp[LRel] at hA
   | [_],hA=>simp[LRel] at hA
   | _::_::_::_,hA=>simp[LRel] at hA
  ·rename_i t cs pt p
   cases hc:(Nat.beq t 178&&Nat.beq pt 197) with
   | false=>rw[hc] at h;cases h
   | true=>
    rw[hc] at h
    simp only[Bool.and_eq_true,Nat.beq_eq] at hc
    obtain⟨rfl,rfl⟩:=hc
    simp only[cond_true] at h
    split at h
    ·rename_i x y hx
     split at h
     ·rename_i σ' hst
      cases h
      match L',hA with
      | [a',p'],hA=>
       have h1:=hA.head
       have h2:=hA.tail.head
       cases h1 with
       | iface _ h1=>
       cases h2 with
       | iface _ h2=>
       rename_i v' q'
       cases h1 with
       | agg hsz hel=>
        rename_i cs'
        have hcs:cs = #[x,y]:=by
         apply Array.ext'
         simpa using hx
        subst hcs
        obtain⟨l'⟩:=cs'
        match l',hsz,hel with
        | [x',y'],hsz,hel=>
         have hxx:VRel m x x':=hel 0 x x' rfl rfl
         have hyy:VRel m y y':=hel 1 y y' rfl rfl
         refine CallOK.of_store2 Tryz.func169 rfl hname hr hst h2 hxx hyy fun ta old old2 hp hone hone2 hct hfr hct2 hfr2=>?_
         subst hp
         have hgw:w.cell? ⟨0,0,none⟩=some handle:=by
          cases ho:W.heap[0]? with
          | none=>simp[World.cell?,ho] at hg
          | some o=>
           have:=(hr.pin 0 o (hpin o ho)).1
           rw[←hg]
           simp[World.cell?,ho,this]
         have hlt:∀(w:World) (o:Obj) (j:Nat),j<w.heap.size→(w.alloc o).heap[j]? = w.heap[j]?:=fun w o j hj=>by
          show (w.heap.push o)[j]? = _
          exact(Array.getElem?_push_lt hj).trans (Array.getElem?_eq_getElem hj).symm
         have hs:∀(w:World) (o:Obj),(w.alloc o).heap.size=w.heap.size+1:=fun w o=>by
          show (w.heap.push o).size=_
          simp
         have hhit:=Aul x' y' ta old old2 w hone hone2 hgw hct hfr hct2 hfr2
         refine⟨_,?_,?_,?_,?_,?_,hhit⟩
         ·intro j hj
          rw[hlt _ _ j (by rw[hs,hs,hs];omega),hlt _ _ j (by rw[hs,hs];omega),hlt _ _ j (by rw[hs];omega),hlt _ _ j hj]
         ·rw[hs,hs,hs,hs]
          omega
         ·rfl
         ·rfl
         ·rfl
        | [],hsz,hel=>simp at hsz
        | [_],hsz,hel=>simp at hsz
        | _::_::_::_,hsz,hel=>simp at hsz
      | [],hA=>simp[LRel] at hA
      | [_],hA=>simp[LRel] at hA
      | _::_::_::_,hA=>simp[LRel] at hA
     ·cases h
    ·cases h
  ·cases h
end Go.Proofs.YtokieofohmgjdaaGreatDoor
namespace Go.Proofs.YtokieofohmgjdaaGreatDoor
open Go Go.Eng
attribute [local congr] Ac Aj Ai Ad Ah
attribute [-go_sem] List.range_succ
def top(n:Nat):Env where
 call:=fun f args u σ=>match u with
  | none=>bif Nat.beq f 10&&args.isEmpty then .ret (.bool true) none σ else (env n).call f args none σ
  | some md=>(env n).call f args (some md) σ
 round:=fun l args σ=>(env n).round l args σ
theorem Cr(n:Nat)(f:FuncId)(args:List Value)(σ:FState)(h:Nat.beq f 10=false):(top n).call f args none σ=(env n).call f args none σ:=by
 show (bif Nat.beq f 10&&args.isEmpty then CRes.ret (.bool true) none σ else (env n).call f args none σ)=_
 rw[h]
 rfl
theorem Jm(n:Nat)(σ:FState):(top n).call 10 [] none σ=.ret (.bool true) none σ:=rfl
theorem M4:Tryz.prog.follows .mixedOrders=true:=by kernel_rfl
theorem Anu:(Tryz.prog.funcs.toList.all fun fn=>!(fn.name == "runtime.NumGoroutine"))=true:=by kernel_rfl
theorem Il(f:FuncId)(fn:Func)(h:Tryz.prog.funcs[f]? = some fn):(fn.name == "runtime.NumGoroutine")=false:=by
 have:=List.all_eq_true.1 Anu fn (by
  rw[Array.mem_toList_iff]
  exact Array.mem_of_getElem? h)
 simpa using this
abbrev varPins(W:World):Pins:=⟨fun k o=>k=0∧W.heap[k]? = some o⟩
theorem Acq[Pins]:SumOK Tryz.prog nosums:=fun _ _ _ _ _ _ _ h=>by cases h
theorem WK(W:World):Calls Tryz.prog 10 #[] W fun e W'=>e=.returned (.bool true)∧W'.os=W.os∧W'.output=W.output∧W'.tape=W.tape∧W.heap.size≤W'.heap.size∧∀i,i<W.heap.size→W'.heap[i]? = W.heap[i]?:=
 AeD M4 Il Tryz.func10 rfl W (@Acq (pinsOf W)) WL
theorem Av8(n:Nat)(W0:World)(hg:W0.cell? ⟨0,0,none⟩=some handle):@EnvOK (varPins W0) Tryz.prog (top n):=by
 letI:=varPins W0
 have h:EnvOK Tryz.prog (env n):=Aaf (Ant W0 (fun o h=>⟨rfl,h⟩) hg) M4 Il nls n
 refine⟨fun f args u σ m w args' hr hA hu=>?_,fun l args σ m w args' e hr hA hm=>h.round l args σ m w args' e hr hA hm⟩
 cases u with
 | some md=>exact h.call f args (some md) σ m w args' hr hA hu
 | none=>
  by_cases hf:(Nat.beq f 10&&args.isEmpty)=true
  ·rw[Bool.and_eq_true,Nat.beq_eq,List.isEmpty_iff] at hf
   obtain⟨rfl,rfl⟩:=hf
   obtain⟨L'⟩:=args'
   have hl:L'=[]:=by
    have:=hA.1
    exact List.length_eq_zero_iff.1 this.symm
   subst hl
   show CallOK Tryz.prog m σ w 10 #[] none (.ret (.bool true) none σ)
   refine .inr ⟨CE Tryz.func10 rfl (Il _ _ Tryz.func10),fun cs hu=>?_⟩
   obtain⟨e,w',fr,⟨rfl,ho,hout,ht,hsz,hk⟩,hc,hfn,hl⟩:=WK w cs
   exact⟨m,w',.bool true,fr,cs,hr.moreWorld hk hsz,(Step.refl σ m w).moreWorld hk hsz ho ht hout,.bool true,hu,.refl _ _,StepsIn.of_steps hc,hfn,hl.2.2.1,⟨hl.1,hl.2.1,hl.2.2.2⟩⟩
  ·have e:(top n).call f args none σ=(env n).call f args none σ:=by
    show (bif Nat.beq f 10&&args.isEmpty then CRes.ret (.bool true) none σ else (env n).call f args none σ)=_
    rw[Bool.not_eq_true] at hf
    rw[hf]
    rfl
   rw[e]
   exact h.call f args none σ m w args' hr hA hu
theorem Afd[Pins]{P:Program}{E:Env}(hE:EnvOK P E)(hm:P.follows .mixedOrders=true)(hname:∀(f:FuncId) (fn:Func),P.funcs[f]? = some fn→(fn.name == "runtime.NumGoroutine")=false)(nls:Hints){f:FuncId}{fn:Func}{body:Code}(hf:P.funcs[f]? = some fn)(hb:fn.body=some body)(σ:FState)(m:Mp)(W:World)(args:List Value)(args':Array Value)(hr:Rel Top m σ W)(hA:LRel m args args'.toList)(hro:∀b e,m b=some e→e.ro=true)(h:∃σ',fcall P nls E f args none σ=.ret (.bool true) none σ'):
  Calls P f args' W fun e W'=>e=.returned (.bool true)∧W'.os=W.os∧W'.output=W.output∧W'.tape=W.tape∧W.heap.size≤W'.heap.size∧∀i,i<W.heap.size→W'.heap[i]? = W.heap[i]?:=by
 obtain⟨σ',h⟩:=h
 have hc:=Z1 hE (Z5 hm hE) hname nls f args none σ m W args' hr hA
 generalize fcall P nls E f args none σ=r at h hc
 subst h
 rcases hc with⟨_,_,_,v',hval,_⟩|⟨_,hgo⟩
 ·have hent:=CE (P:=P) (w:=W) (args:=args') hf hb (hname f fn hf)
  rw[hent] at hval
  cases hval
 ·intro cs
  obtain⟨m',w',v',fr,cs',hR,hS',hV,_,hun,hst,hfn,hk,hgoing⟩:=hgo cs rfl
  have hcs:cs'=cs:=by
   rcases hun with h|⟨h,_⟩
   ·exact h
   ·cases h
  subst hcs
  have hv':=hV.flat rfl
  subst hv'
  exact⟨.returned (.bool true),w',fr,⟨rfl,hS'.os,hS'.output,hS'.tape,hS'.size,fun i hi=>hS'.keep i hi fun b e ent hb hre=>by rw[hro b e hb] at hre;cases hre⟩,hst.steps,hfn,Ch hk hgoing⟩
theorem Acl{f:FuncId}{fn:Func}{body:Code}(hf:Tryz.prog.funcs[f]? = some fn)(hb:fn.body=some body)(n:Nat)(σ:FState)(m:Mp)(W:World)(args:List Value)(args':Array Value)(hg:W.cell? ⟨0,0,none⟩=some handle)(hr:@Rel (varPins W) Top m σ W)(hA:LRel m args args'.toList)(hro:∀b e,m b=some e→e.ro=true)(h:∃σ',fcall Tryz.prog nls (top n) f args none σ=.ret (.bool true) none σ'):
  Calls Tryz.prog f args' W fun e W'=>e=.returned (.bool true)∧W'.os=W.os∧W'.output=W.output∧W'.tape=W.tape∧W.heap.size≤W'.heap.size∧∀i,i<W.heap.size→W'.heap[i]? = W.heap[i]?:=
 @Afd (varPins W) Tryz.prog (top n) (Av8 n W hg) M4 Il nls f fn body hf hb σ m W args args' hr hA hro h
def numbers(zs:List Int):FState:=⟨Tr.set .lf 0 ⟨.cells (zs.map fun z=>Value.int .i64 z) TI,true,none,0⟩,1,1⟩
end Go.Proofs.YtokieofohmgjdaaGreatDoor
namespace Go.Proofs.YtokieofohmgjdaaGreatDoor
open Go Go.Eng
def isCells(W:World)(b:Nat):Bool:=match W.heap[b]? with
 | some (.cells ..)=>true
 | _=>false
def seenV(W:World)(v:Value):Value:=
 match v with
 | .int k n=>.int k n
 | .string s=>.string s
 | .slice none l c=>.slice none l c
 | .slice (some a) l c=>if l=0∧c=0 then .slice (some ⟨0,0,none⟩) 0 0 else if a.spot=none∧isCells W a.block=true then .slice (some ⟨a.block,a.off,none⟩) l c else .tuple #[]
 | _=>.tuple #[]
def seenM(W:World):Mp:=fun b=>if isCells W b=true then some ⟨b,0,true,none⟩ else none
def seenE(W:World)(b:Nat):Option Ent:=match W.heap[b]? with
 | some (.cells c t _)=>some ⟨.cells (c.toList.map (seenV W)) t,true,none,0⟩
 | _=>none
def seenT(W:World):Nat→Tr Ent
 | 0=>.lf
 | n+1=>match seenE W n with
  | some e=>(seenT W n).set n e
  | none=>seenT W n
def seenS(W:World):FState:=⟨seenT W W.heap.size,W.heap.size,1⟩
theorem Jj(W:World):∀n b,(seenT W n).get b=if b<n then seenE W b else none
 | 0,b=>by rw[if_neg (Nat.not_lt_zero b)];rfl
 | n+1,b=>by
  rw[seenT]
  cases h:seenE W n with
  | some e=>
   rw[Tr.get_set,Jj W n b]
   by_cases hb:b=n
   ·subst hb
    rw[if_pos rfl,if_pos (Nat.lt_succ_self b),h]
   ·rw[if_neg hb]
    by_cases hl:b<n
    ·rw[if_pos hl,if_pos (by omega)]
    ·rw[if_neg hl,if_neg (by omega)]
  | none=>
   show (seenT W n).get b=_
   rw[Jj W n b]
   by_cases hb:b=n
   ·subst hb
    rw[if_neg (Nat.lt_irrefl b),if_pos (Nat.lt_succ_self b),h]
   ·by_cases hl:b<n
    ·rw[if_pos hl,if_pos (by omega)]
    ·rw[if_neg hl,if_neg (by omega)]
theorem Ji(W:World)(b:Nat):(seenS W).heap.get b=seenE W b:=by
 show (seenT W W.heap.size).get b=_
 rw[Jj]
 by_cases h:b<W.heap.size
 ·rw[if_pos h]
 ·rw[if_neg h]
  unfold seenE
  rw[Array.getElem?_eq_none (by omega)]
theorem M1{W:World}{b:Nat}{e:Ent}(h:seenE W b=some e):∃c t fr,W.heap[b]? = some (.cells c t fr)∧e=⟨.cells (c.toList.map (seenV W)) t,true,none,0⟩∧b<W.heap.size:=by
 unfold seenE at h
 split at h
 ·rename_i c t fr hb
  cases h
  exact⟨c,t,fr,hb,rfl,(Array.getElem?_eq_some_iff.1 hb).1⟩
 ·cases h
theorem Abk(W:World):Wf (seenS W):=fun b e h=>by
 rw[Ji] at h
 obtain⟨c,t,fr,h1,rfl,h2⟩:=M1 h
 exact⟨h2,Nat.lt_succ_self 0⟩
theorem D_{W:World}{b:Nat}:isCells W b=true↔∃c t fr,W.heap[b]? = some (.cells c t fr):=by
 unfold isCells
 split
 ·rename_i c t fr h
  exact⟨fun _=>⟨c,t,fr,h⟩,fun _=>rfl⟩
 ·rename_i h
  exact⟨fun h'=>(by cases h'),fun ⟨c,t,fr,h'⟩=>absurd h' (h c t fr)⟩
theorem M2{W:World}{b:Nat}{c:Array Value}{t:TypeId}{fr:Nat×Nat}(h:W.heap[b]? = some (.cells c t fr)):(seenS W).cells b=some (c.toList.map (seenV W)):=by
 rw[Ap,Ji]
 unfold seenE
 rw[h]
 rfl
theorem Db{W:World}{a:Addr}{v:Value}(h:W.cell? a=some v):a.spot=none∧isCells W a.block=true∧∃c t fr,W.heap[a.block]? = some (.cells c t fr)∧c[a.off]? = some v:=by
 unfold World.cell? at h
 split at h
 ·rename_i c t fr hb
  split at h
  ·cases h
  ·rename_i hs
   exact⟨by simpa using hs,D_.2 ⟨c,t,fr,hb⟩,c,t,fr,hb,h⟩
 ·cases h
theorem Jk{W:World}(hg:isCells W 0=true)(v:Value):VRel (seenM W) (seenV W v) v:=by
 unfold seenV
 split
 ·exact .int _ _
 ·exact .string _
 ·exact .nilSlice _ _
 ·rename_i a l c
  by_cases h:l=0∧c=0
  ·rw[if_pos h]
   obtain⟨rfl,rfl⟩:=h
   exact .empty (e:=⟨0,0,true,none⟩) (by unfold seenM;rw[if_pos hg])
  ·rw[if_neg h]
   by_cases h2:a.spot=none∧isCells W a.block=true
   ·rw[if_pos h2]
    have:=VRel.slice (m:=seenM W) (b:=a.block) (off:=a.off) (l:=l) (c:=c) (c':=c) (e:=⟨a.block,0,true,none⟩) (by unfold seenM;rw[if_pos h2.2]) (.inl rfl)
    obtain⟨b,off,sp⟩:=a
    obtain⟨rfl,_⟩:=h2
    simpa using this
   ·rw[if_neg h2]
    exact .unknown _
 ·exact .unknown _
theorem Anr{W:World}(hg:isCells W 0=true):@Rel (varPins W) Top (seenM W) (seenS W) W:=by
 letI:=varPins W
 refine⟨fun b ent e _ hb he=>?_,fun b b' ent ent' e e' hne hb hb' _ _ he he'=>?_,fun b e he=>?_,fun b ent hb=>(Abk W b ent hb).1,fun k o hk=>⟨hk.2,fun b e he hro=>?_⟩⟩
 ·rw[Ji] at hb
  obtain⟨c,t,fr,h1,rfl,h2⟩:=M1 hb
  unfold seenM at he
  rw[if_pos (D_.2 ⟨c,t,fr,h1⟩)] at he
  cases he
  refine⟨rfl,c,t,fr,h1,(fun h=>by cases h),fun i v hv=>?_,trivial⟩
  rw[List.getElem?_map] at hv
  cases hc:c.toList[i]? with
  | none=>rw[hc] at hv;cases hv
  | some v'=>
   rw[hc] at hv
   cases hv
   exact⟨v',by rw[Nat.zero_add];simpa using hc,Jk hg v'⟩
 ·unfold seenM at he he'
  split at he
  ·split at he'
   ·cases he
    cases he'
    exact hne
   ·cases he'
  ·cases he
 ·unfold seenM at he
  split at he
  ·rename_i h
   cases he
   obtain⟨c,t,fr,h1⟩:=D_.1 h
   have:=(Array.getElem?_eq_some_iff.1 h1).1
   exact⟨this,this⟩
  ·cases he
 ·unfold seenM at he
  split at he
  ·cases he
   cases hro
  ·cases he
theorem AqO{W:World}:∀b e,seenM W b=some e→e.ro=true:=fun b e h=>by
 unfold seenM at h
 split at h
 ·cases h
  rfl
 ·cases h
def seenA(W:World)(v:Value):Value:=match v with
 | .agg cs=>.agg (cs.toList.map (seenV W)).toArray
 | v=>seenV W v
theorem AeE{W:World}(hg:isCells W 0=true)(v:Value):VRel (seenM W) (seenA W v) v:=by
 unfold seenA
 split
 ·rename_i cs
  refine .agg (by simp) fun i x x' hx hx'=>?_
  simp only[List.getElem?_toArray,List.getElem?_map,Array.getElem?_toList,hx',Option.map_some,Option.some.injEq] at hx
  subst hx
  exact Jk hg x'
 ·exact Jk hg _
theorem S1{W:World}(hg:isCells W 0=true)(vs:List Value):LRel (seenM W) (vs.map (seenA W)) vs:=by
 refine⟨by simp,fun i v v' h h'=>?_⟩
 rw[List.getElem?_map,h'] at h
 cases h
 exact AeE hg v'
theorem AeF{W:World}{a:Addr}{len cap:Nat}{zs:List Int}(hl:len≤cap)(hz:zs.length=cap)(hc:∀i,i<zs.length→W.cell? (a.add i)=some (.int .i64 (zs.getD i 0))):
  ∃p c,seenV W (.slice (some a) len cap)=.slice p len c∧Ints (seenS W) p (zs.take len)∧(zs.take len).length=len∧∀q,p=some q→q.block=0∨isCells W q.block=true:=by
 have hlen:(zs.take len).length=len:=by rw[List.length_take];omega
 by_cases h0:len=0∧cap=0
 ·obtain⟨rfl,rfl⟩:=h0
  refine⟨some ⟨0,0,none⟩,0,rfl,fun i n h=>by simp at h,hlen,fun q hq=>.inl (by cases hq;rfl)⟩
 ·have hfirst:=hc 0 (by omega)
  have ha0:a.add 0=a:=by unfold Addr.add;rw[if_pos rfl]
  rw[ha0] at hfirst
  obtain⟨hs,hcl,c,t,fr,hb,_⟩:=Db hfirst
  refine⟨some ⟨a.block,a.off,none⟩,cap,?_,fun i n h=>?_,hlen,fun q hq=>.inr (by cases hq;exact hcl)⟩
  ·unfold seenV
   simp only
   rw[if_neg h0,if_pos ⟨hs,hcl⟩]
  ·refine⟨a.block,a.off,_,rfl,M2 hb,?_⟩
   have hi:i<len:=by
    have:=(List.getElem?_eq_some_iff.1 h).1
    omega
   have h1:=hc i (by omega)
   have hadd:a.add i=⟨a.block,a.off+i,none⟩:=by
    unfold Addr.add
    by_cases hi0:i=0
    ·rw[if_pos hi0]
     subst hi0
     obtain⟨x,y,z⟩:=a
     cases hs
     rfl
    ·rw[if_neg hi0]
   rw[hadd] at h1
   obtain⟨_,_,c',t',fr',hb',hcv⟩:=Db h1
   simp only at hb' hcv
   rw[hb] at hb'
   cases hb'
   rw[List.getElem?_map,Array.getElem?_toList,hcv]
   rw[List.getElem?_take,if_pos hi] at h
   rw[List.getD_eq_getElem?_getD,h]
   rfl
end Go.Proofs.YtokieofohmgjdaaGreatDoor
namespace Go.Proofs.YtokieofohmgjdaaGreatDoor
open Go Go.Eng
noncomputable def fieldsD:Array Field:=match Tryz.prog.underlying TD with
 | some (.struct fs)=>fs
 | _=>#[]
theorem Jn:Tryz.prog.underlying TD=some (.struct fieldsD):=by kernel_rfl
theorem Anz:Tryz.prog.underlying TL=some (.slice TD):=by kernel_rfl
theorem S2:Tryz.prog.underlying TI=some (.int .i64):=by kernel_rfl
theorem ZU:Tryz.prog.underlying 9=some .string:=by kernel_rfl
theorem Ab2:(fieldsD[0]?).map (fun f=>(f.type,f.offset))=some (TI,0):=by kernel_rfl
theorem Ab3:(fieldsD[1]?).map (fun f=>(f.type,f.offset))=some (TI,1):=by kernel_rfl
theorem Ab4:(fieldsD[2]?).map (fun f=>(f.type,f.offset))=some (9,2):=by kernel_rfl
theorem Ab5:(fieldsD[3]?).map (fun f=>(f.type,f.offset))=some (TL,3):=by kernel_rfl
theorem GM:Tryz.prog.cellsOf TD=4:=by kernel_rfl
theorem Tk:Tryz.prog.cellsOf TI=1:=by kernel_rfl
theorem KP:Tryz.prog.cellsOf 9=1:=by kernel_rfl
theorem Pg:Tryz.prog.cellsOf TL=1:=by kernel_rfl
theorem Ju{α:Type}{P:Nat→α→Prop}:∀(n:Nat),(∀i,i<n→∃d,P i d)→∃ds:List α,ds.length=n∧∀i d,ds[i]? = some d→P i d
 | 0,_=>⟨[],rfl,fun i d h=>by simp at h⟩
 | n+1,h=>by
  obtain⟨ds,h1,h2⟩:=Ju n fun i hi=>h i (by omega)
  obtain⟨d,hd⟩:=h n (by omega)
  refine⟨ds++[d],by simp[h1],fun i e he=>?_⟩
  by_cases hi:i<ds.length
  ·rw[List.getElem?_append_left hi] at he
   exact h2 i e he
  ·rw[List.getElem?_append_right (by omega)] at he
   have:i-ds.length=0:=by
    have:=(List.getElem?_eq_some_iff.1 he).1
    simp at this
    omega
   rw[this] at he
   cases he
   obtain rfl:i=n:=by omega
   exact hd
theorem Li{R:Nat→Prop}{σ:FState}{b off:Nat}{cs:List Value}(hb:σ.cells b=some cs)(hR:R b):∀(es:List D) (i:Nat),(∀j e,es[j]? = some e→4≤cs.length-(off+(i+j)*4)∧LaidR R σ (.agg ((cs.drop (off+(i+j)*4)).take 4).toArray) e)→LaidRE R σ (some ⟨b,off,none⟩) i es
 | [],_,_=>trivial
 | e::es,i,h=>by
  have h0:=h 0 e rfl
  refine⟨⟨b,off,cs,rfl,hR,hb,h0.1,h0.2⟩,Li hb hR es (i+1) fun j e' he=>?_⟩
  have:=h (j+1) e' (by simpa using he)
  rwa [show i+(j+1)=i+1+j by omega] at this
theorem S6{a:Addr}(h:a.spot=none)(n:Nat):a.add n=⟨a.block,a.off+n,none⟩:=by
 unfold Addr.add
 by_cases hn:n=0
 ·rw[if_pos hn]
  subst hn
  obtain⟨x,y,z⟩:=a
  cases h
  rfl
 ·rw[if_neg hn]
theorem AnR{W:World}{b o:Nat}{c:Array Value}{t:TypeId}{fr:Nat×Nat}(h:W.heap[b]? = some (.cells c t fr)):W.cell? ⟨b,o,none⟩=c[o]?:=by
 unfold World.cell?
 simp only[h]
 rfl
theorem AfT{i t o:Nat}(h:(fieldsD[i]?).map (fun f=>(f.type,f.offset))=some (t,o)):∃f,fieldsD[i]? = some f∧f.type=t∧f.offset=o:=by
 cases hf:fieldsD[i]? with
 | none=>rw[hf] at h;cases h
 | some f=>
  rw[hf] at h
  cases h
  exact⟨f,rfl,rfl,rfl⟩
theorem Cx{α:Type}{l:List α}(h:l.length=4):∃a b c d,l=[a,b,c,d]:=by
 match l,h with
 | [a,b,c,d],_=>exact⟨a,b,c,d,rfl⟩
theorem ZT{H:Type}{enc:TypeId×Value→H}{W:World}{held:Bool}:∀(n:Nat) (cs:List Value) (x:DataW H×List MemPlace),DataW.trod enc Tryz.prog W 0 (fun _=>true) held n TD cs=some x→
  cs.length=4∧∃d:D,LaidR (fun b=>b<W.heap.size) (seenS W) (.agg (cs.map (seenV W)).toArray) d:=by
 intro n
 induction n with
 | zero=>intro cs x h;simp[DataW.trod] at h
 | succ n ih=>
  intro cs x h
  obtain⟨xs,m,hm,hx,hl,hxl,hf⟩:=DataW.trod_struct Jn h
  obtain rfl:m=n:=by omega
  rw[GM] at hl
  refine⟨hl,?_⟩
  have hsz:fieldsD.size=4:=by kernel_rfl
  rw[hsz] at hxl
  obtain⟨c0,c1,c2,c3,rfl⟩:=Cx hl
  have get:∀ {i t o:Nat},(fieldsD[i]?).map (fun f=>(f.type,f.offset))=some (t,o)→∃y,DataW.trod enc Tryz.prog W 0 (fun _=>true) held m t (([c0,c1,c2,c3].drop o).take (Tryz.prog.cellsOf t))=some y:=fun {i t o} hi=>by
   obtain⟨f,h1,h2,h3⟩:=AfT hi
   have:=hf i f h1
   rw[h2,h3] at this
   have hlt:i<xs.length:=by
    have:=(Array.getElem?_eq_some_iff.1 h1).1
    omega
   exact⟨xs[i],by rw[this,List.getElem?_eq_getElem hlt]⟩
  obtain⟨y0,h0⟩:=get Ab2
  obtain⟨y1,h1⟩:=get Ab3
  obtain⟨y2,h2⟩:=get Ab4
  obtain⟨y3,h3⟩:=get Ab5
  rw[Tk] at h0 h1
  rw[KP] at h2
  rw[Pg] at h3
  obtain⟨k,e0,_,_⟩:=DataW.trod_int S2 h0
  obtain⟨z,e1,_,_⟩:=DataW.trod_int S2 h1
  obtain⟨t,e2,_,_⟩:=DataW.trod_string ZU h2
  obtain rfl:c0=.int .i64 k:=by simpa using e0
  obtain rfl:c1=.int .i64 z:=by simpa using e1
  obtain rfl:c2=.string t:=by simpa using e2
  rcases DataW.trod_slice Anz h3 with⟨e3,_⟩|⟨a,len,cap,elems,rest,m',hm',e3,_,_,hle,hmx,hel,hes,hsp,_⟩
  ·obtain rfl:c3=.slice none 0 0:=by simpa using e3
   exact⟨.mk k z t [],none,0,rfl,trivial⟩
  ·obtain rfl:c3=.slice (some a) len cap:=by simpa using e3
   obtain⟨hrl,hrs⟩:=hsp rfl
   rw[GM] at hes hrs
   by_cases h00:len=0∧cap=0
   ·obtain⟨rfl,rfl⟩:=h00
    exact⟨.mk k z t [],some ⟨0,0,none⟩,0,rfl,trivial⟩
   ·have hfirst:∃v,W.cell? a=some v:=by
     have ha0:a.add 0=a:=by unfold Addr.add;rw[if_pos rfl]
     have key:∀ {y:DataW H×List MemPlace},(W.cells? 0 (a.add 0) 4).bind (DataW.trod enc Tryz.prog W 0 (fun _=>true) held m' TD)=some y→∃v,W.cell? a=some v:=fun hb=>by
      rw[Option.bind_eq_some_iff] at hb
      obtain⟨cs',hc',_⟩:=hb
      obtain⟨_,hl',hg⟩:=World.cells?_some hc'
      have:=hg 0 (by omega)
      rw[ha0,ha0,List.getElem?_eq_getElem (by omega)] at this
      exact⟨_,this⟩
     by_cases hl0:0<len
     ·have:=hes 0 hl0
      rw[Nat.zero_mul,List.getElem?_eq_getElem (by omega)] at this
      exact key this
     ·have:=hrs 0 (by omega)
      obtain rfl:len=0:=by omega
      rw[Nat.add_zero,Nat.zero_mul,List.getElem?_eq_getElem (by omega)] at this
      exact key this
    obtain⟨v0,hv0⟩:=hfirst
    obtain⟨hsn,hic,c,ty,fr,hb,_⟩:=Db hv0
    have hlt:a.block<W.heap.size:=(Array.getElem?_eq_some_iff.1 hb).1
    have hσ:=M2 hb
    have each:∀i,i<len→∃d:D,4≤(c.toList.map (seenV W)).length-(a.off+i*4)∧LaidR (fun b=>b<W.heap.size) (seenS W) (.agg (((c.toList.map (seenV W)).drop (a.off+i*4)).take 4).toArray) d:=fun i hi=>by
     have hb':=hes i hi
     rw[List.getElem?_eq_getElem (by omega),Option.bind_eq_some_iff] at hb'
     obtain⟨cs',hc',ht'⟩:=hb'
     obtain⟨_,hl',hg⟩:=World.cells?_some hc'
     have hcell:∀j,j<4→c[a.off+i*4+j]? = cs'[j]?:=fun j hj=>by
      have:=hg j hj
      rw[S6 hsn,S6 rfl,AnR hb] at this
      exact this
     obtain⟨_,d,hd⟩:=ih cs' _ (by obtain rfl:m'+1=m:=hm'.symm;exact DataW.trod_le (Nat.le_succ _) ht')
     have h3':=hcell 3 (by omega)
     rw[List.getElem?_eq_getElem (by omega)] at h3'
     have hsz':=(Array.getElem?_eq_some_iff.1 h3').1
     refine⟨d,by simp;omega,?_⟩
     have e:((c.toList.map (seenV W)).drop (a.off+i*4)).take 4=cs'.map (seenV W):=by
      apply List.ext_getElem?
      intro j
      rw[List.getElem?_take]
      by_cases hj:j<4
      ·rw[if_pos hj,List.getElem?_drop,List.getElem?_map,Array.getElem?_toList,hcell j hj,List.getElem?_map]
      ·rw[if_neg hj,List.getElem?_eq_none (by simp;omega)]
     rw[e]
     exact hd
    obtain⟨ds,hds,hD⟩:=Ju len each
    refine⟨.mk k z t ds,some ⟨a.block,a.off,none⟩,cap,?_,?_⟩
    ·show Value.agg _=_
     have:seenV W (.slice (some a) len cap)=.slice (some ⟨a.block,a.off,none⟩) len cap:=by
      unfold seenV
      simp only
      rw[if_neg h00,if_pos ⟨hsn,hic⟩]
     rw[hds]
     simp only[List.map_cons,List.map_nil,this]
     rfl
    ·refine Li hσ hlt ds 0 fun j e he=>?_
     rw[Nat.zero_add]
     exact hD j e he
end Go.Proofs.YtokieofohmgjdaaGreatDoor
namespace Go.Proofs.YtokieofohmgjdaaGreatDoor
open Go Go.Eng Go.ChangeShapes Go.WideShapes Go.RowKit
abbrev Fine4(W:World)(e:Ending)(W':World):Prop:=e=.returned (.bool true)∧W'.os=W.os∧W'.output=W.output∧W'.tape=W.tape∧W.heap.size≤W'.heap.size∧∀i,i<W.heap.size→W'.heap[i]? = W.heap[i]?
theorem Agc{f:FuncId}{fn:Func}{body:Code}(hf:Tryz.prog.funcs[f]? = some fn)(hb:fn.body=some body)(n:Nat)(W:World)(vs:List Value)(hg:W.cell? ⟨0,0,none⟩=some handle)(h:∃σ',fcall Tryz.prog nls (top n) f (vs.map (seenA W)) none (seenS W)=.ret (.bool true) none σ'):Calls Tryz.prog f vs.toArray W (Fine4 W):=
 Acl hf hb n (seenS W) (seenM W) W (vs.map (seenA W)) vs.toArray hg (Anr (Db hg).2.1) (by simpa using S1 (Db hg).2.1 vs) AqO h
theorem NK{H:Type}{enc:TypeId×Value→H}{W:World}{v:Value}{d:DataW H}{p:List MemPlace}(h:DataW.Trod enc Tryz.prog W 0 (fun _=>true) true TD v d p)(hv:∃cs,v=.agg cs∧cs.size=Tryz.prog.cellsOf TD):
  ∃(lv:List Value) (x:D),seenA W v=.agg lv.toArray∧lv.length=4∧LaidR (fun b=>b<(seenS W).next) (seenS W) (.agg lv.toArray) x:=by
 obtain⟨cs,rfl,_⟩:=hv
 obtain⟨fuel,h⟩:=h
 obtain⟨hl,x,hx⟩:=ZT fuel _ _ h
 have hl':cs.toList.length=4:=hl
 exact⟨_,x,rfl,by simpa using hl',hx⟩
theorem AeU{H:Type}{enc:TypeId×Value→H}{W:World}{v:Value}{d:DataW H}{p:List MemPlace}(hg:W.cell? ⟨0,0,none⟩=some handle)(h:DataW.Trod enc Tryz.prog W 0 (fun _=>true) true 25 v d p)(hv:∃a len cap,v=.slice a len cap):
  ∃(q:Option Addr) (l:List Int) (cp:Nat),seenA W v=.slice q l.length cp∧l.length<9223372036854775808∧Ints (seenS W) q l∧∀a,q=some a→a.block<(seenS W).next:=by
 obtain⟨a0,len0,cap0,rfl⟩:=hv
 obtain⟨fuel,h⟩:=h
 have und:Tryz.prog.underlying 25=some (.slice TI):=by kernel_rfl
 rcases open_ints und S2 (by kernel_rfl) h with⟨hc,hx⟩|⟨a,len,cap,zs,hc,hb,hl,hm,hz,hx,hcell,hwf⟩
 ·have hv:Value.slice a0 len0 cap0=.slice none 0 0:=by simpa [Value.cells] using hc
  rw[hv]
  exact⟨none,[],0,rfl,by simp,fun i n h=>by simp at h,fun a h=>by cases h⟩
 ·have hv:Value.slice a0 len0 cap0=.slice (some a) len cap:=by simpa [Value.cells] using hc
  rw[hv]
  rw[if_pos rfl] at hz
  obtain⟨q,c,h1,h2,h3,h4⟩:=AeF hl hz hcell
  refine⟨q,zs.take len,c,by rw[h3];exact h1,by unfold maxLen at hm;omega,h2,fun b hb=>?_⟩
  have hgs:isCells W 0=true:=(Db hg).2.1
  have key:isCells W b.block=true:=by
   rcases h4 b hb with h|h
   ·rw[h];exact hgs
   ·exact h
  obtain⟨c',t',fr',h5⟩:=D_.1 key
  exact(Array.getElem?_eq_some_iff.1 h5).1
end Go.Proofs.YtokieofohmgjdaaGreatDoor
namespace Go.Eng
open Go
def Ful(T:TypeId)(σ:FState)(b:Nat)(s:Value)(vs:List Value):Prop:=
 ∃fz ver,s=.slice (some ⟨b,0,none⟩) vs.length vs.length∧σ.heap.get b=some ⟨.cells vs T,false,fz,ver⟩∧(fz=none∨fz=some 1)
section
variable {T:TypeId} {σ σ':FState} {b:Nat} {s:Value} {vs:List Value}
theorem Ful.keep(h:Ful T σ b s vs)(hb:σ'.heap.get b=σ.heap.get b):Ful T σ' b s vs:=by
 obtain⟨fz,ver,h1,h2,h3⟩:=h
 exact⟨fz,ver,h1,hb.trans h2,h3⟩
theorem Ful.lt(h:Ful T σ b s vs)(hw:Wf σ):b<σ.next:=by
 obtain⟨fz,ver,h1,h2,h3⟩:=h
 exact(hw _ _ h2).1
theorem Ful.cells(h:Ful T σ b s vs):s=.slice (some ⟨b,0,none⟩) vs.length vs.length∧σ.cells b=some vs:=by
 obtain⟨fz,ver,h1,h2,h3⟩:=h
 exact⟨h1,Au h2⟩
theorem Ful.one(h:Ful T σ b s vs):oneCell s=true∧notTuple s=true∧valCells s=[s]:=by
 obtain⟨fz,ver,rfl,_⟩:=h
 exact⟨B6 _ _ _,CG _ _ _,rfl⟩
theorem Ful.push(T:TypeId)(σ:FState)(vs:List Value):Ful T (σ.push (.cells vs T) none) σ.next (.slice (some ⟨σ.next,0,none⟩) vs.length vs.length) vs:=⟨none,σ.clock,rfl,by rw[Ak,if_pos rfl],.inl rfl⟩
theorem Et(bx n cx:Nat)(new rest:List Value)(hx:σ.cells bx=some (new++rest))(hn:new.length=n):fnew 1 (.slice (some ⟨bx,0,none⟩) n cx) σ=some (n,new):=by
 unfold fnew
 simp only[CF,hx,Nat.mul_one,List.drop_zero,Nat.sub_zero,List.length_append]
 rw[if_pos (by omega),List.take_left' hn]
theorem Ful.append(h:Ful T σ b s vs)(hw:Wf σ)(src:Value)(new:List Value)(bytes:Nat)(hx:fnew 1 src σ=some (new.length,new))(ho:new.all oneCell=true)(hby:bytes<1000)(hlen:vs.length+new.length<100000):
  ∃b' s' τ,fappend T 1 bytes s src σ=.val s' τ∧Ful T τ b' s' (vs++new)∧(b'=b∨b'=σ.next)∧Chg (· = b) σ τ∧Wf τ:=by
 have hb:=h.lt hw
 obtain⟨fz,ver,rfl,h2,h3⟩:=h
 have e0:fappend T 1 bytes (.slice (some ⟨b,0,none⟩) vs.length vs.length) src σ=fappend2 T 1 bytes vs.length vs.length (some ⟨b,0,none⟩) new.length new σ:=by
  unfold fappend
  simp only[hx,ho]
  rfl
 rw[e0]
 unfold fappend2
 by_cases hz:new.length=0
 ·obtain rfl:new=[]:=List.length_eq_zero_iff.1 hz
  rw[show Nat.ble (vs.length+([]:List Value).length) vs.length=true by rw[Nat.ble_eq];simp]
  show ∃b' s' τ,fappendRoom 1 vs.length vs.length (some ⟨b,0,none⟩) 0 [] σ=.val s' τ∧_
  unfold fappendRoom
  simp only[h2,Ce,Nat.mul_one,Nat.zero_add,List.length_nil,Nat.add_zero,Nat.le_refl,if_true,List.append_nil]
  refine⟨b,_,_,rfl,⟨fz,σ.clock,rfl,?_,h3⟩,.inl rfl,(Chg.refl (· = b) _).put _ _ _ (.inr rfl),hw.put _ _ _ hb⟩
  rw[An,if_pos rfl]
  simp
 ·have hm:(vs.length+new.length)*(bytes+1)≤100000*1000:=Nat.mul_le_mul (by omega) (by omega)
  rw[show Nat.ble (vs.length+new.length) vs.length=false by rw[←Bool.not_eq_true,Nat.ble_eq];omega,show Nat.ble ((vs.length+new.length)*(bytes+1)) 1000000000=true by rw[Nat.ble_eq];omega]
  show ∃b' s' τ,fappendGrow T 1 vs.length vs.length (some ⟨b,0,none⟩) new.length new σ=.val s' τ∧_
  unfold fappendGrow
  have hc:=Au h2
  simp only[CF,hc,h2,List.drop_zero,Nat.sub_zero,Nat.mul_one,Nat.le_refl,if_true]
  rw[List.take_of_length_le (Nat.le_refl _)]
  have hl:vs.length+new.length=(vs++new).length:=by simp
  rcases h3 with rfl|rfl
  ·refine⟨σ.next,.slice (some ⟨σ.next,0,none⟩) (vs.length+new.length) (vs.length+new.length),σ.push (.cells (vs++new) T) (some 1),rfl,⟨some 1,σ.clock,by rw[hl],by rw[Ak,if_pos rfl],.inr rfl⟩,.inr rfl,(Chg.refl _ _).push _ _,hw.push _ _⟩
  ·rw[show Nat.beq vs.length vs.length=true by rw[Nat.beq_eq]]
   refine⟨σ.next,.slice (some ⟨σ.next,0,none⟩) (vs.length+new.length) (vs.length+new.length),(σ.put b (.defd false) none).push (.cells (vs++new) T) (some 1),rfl,⟨some 1,(σ.put b (.defd false) none).clock,by rw[hl],by rw[Ak,if_pos (by rw[Ao])],.inr rfl⟩,.inr rfl,((Chg.refl (· = b) _).put _ _ _ (.inr rfl)).push _ _,(hw.put _ _ _ hb).push _ _⟩
theorem DA{σ σ':FState}(hw:Wf σ){lam:Nat}(hl:σ.clock≤lam){b:Nat}{c:List Value}(hb:σ'.heap.get b=σ.heap.get b)(hc:σ.cells b=some c):(view σ' lam).cells b=some c:=by
 rw[Ap,FT,hb]
 rw[Ap] at hc
 cases hg:σ.heap.get b with
 | none=>rw[hg] at hc;cases hc
 | some e=>
  rw[hg] at hc
  simp only
  rw[if_pos (by have:=(hw b e hg).2;omega)]
  exact hc
def intsOf(path:List Nat):List Value:=path.map fun i=>.int .i64 (.ofNat i)
theorem EV(path:List Nat):(intsOf path).all oneCell=true:=by
 induction path with
 | nil=>rfl
 | cons x l ih=>rw[intsOf,List.map_cons,List.all_cons,Ea,Bool.true_and];exact ih
theorem BN(path:List Nat):(intsOf path).length=path.length:=by simp[intsOf]
def PathV(Q:Nat→Prop)(σ:FState)(v:Value)(path:List Nat):Prop:=
 (v=.slice none 0 0∧path=[])∨∃b cx rest,v=.slice (some ⟨b,0,none⟩) path.length cx∧Q b∧σ.cells b=some (intsOf path++rest)
theorem PathV.keep{Q Q':Nat→Prop}{σ σ':FState}{v:Value}{path:List Nat}(h:PathV Q σ v path)(hk:∀b c,Q b→σ.cells b=some c→σ'.cells b=some c∧Q' b):PathV Q' σ' v path:=by
 rcases h with h|⟨b,cx,rest,h1,h2,h3⟩
 ·exact .inl h
 ·exact .inr ⟨b,cx,rest,h1,(hk b _ h2 h3).2,(hk b _ h2 h3).1⟩
theorem PathV.fnew{Q:Nat→Prop}{σ:FState}{v:Value}{path:List Nat}(h:PathV Q σ v path):Eng.fnew 1 v σ=some ((intsOf path).length,intsOf path):=by
 rcases h with⟨rfl,rfl⟩|⟨b,cx,rest,rfl,h2,h3⟩
 ·rfl
 ·rw[BN]
  exact Et b path.length cx _ rest h3 (BN _)
theorem PathV.one{Q:Nat→Prop}{σ:FState}{v:Value}{path:List Nat}(h:PathV Q σ v path):oneCell v=true∧notTuple v=true∧valCells v=[v]:=by
 rcases h with⟨rfl,rfl⟩|⟨b,cx,rest,rfl,h2,h3⟩
 ·exact⟨B6 _ _ _,CG _ _ _,rfl⟩
 ·exact⟨B6 _ _ _,CG _ _ _,rfl⟩
def PathsL(Q:Nat→Prop)(σ:FState):List Value→List (List Nat)→Prop
 | [],[]=>True
 | u::us,p::ps=>PathV Q σ u p∧PathsL Q σ us ps
 | _,_=>False
theorem PathsL.keep{Q Q':Nat→Prop}{σ σ':FState}(hk:∀b c,Q b→σ.cells b=some c→σ'.cells b=some c∧Q' b):∀ {us:List Value} {ps:List (List Nat)},PathsL Q σ us ps→PathsL Q' σ' us ps
 | [],[],_=>trivial
 | _::_,_::_,⟨h1,h2⟩=>⟨h1.keep hk,h2.keep hk⟩
theorem PathsL.length{Q:Nat→Prop}{σ:FState}:∀ {us:List Value} {ps:List (List Nat)},PathsL Q σ us ps→us.length=ps.length
 | [],[],_=>rfl
 | _::_,_::_,⟨_,h2⟩=>congrArg (· + 1) h2.length
theorem PathsL.append{Q:Nat→Prop}{σ:FState}:∀ {us us':List Value} {ps ps':List (List Nat)},PathsL Q σ us ps→PathsL Q σ us' ps'→PathsL Q σ (us++us') (ps++ps')
 | [],_,[],_,_,h=>h
 | _::_,_,_::_,_,⟨h1,h2⟩,h=>⟨h1,h2.append h⟩
theorem PathsL.all{Q:Nat→Prop}{σ:FState}:∀ {us:List Value} {ps:List (List Nat)},PathsL Q σ us ps→us.all oneCell=true
 | [],[],_=>rfl
 | _::_,_::_,⟨h1,h2⟩=>by rw[List.all_cons,h1.one.1,Bool.true_and];exact h2.all
theorem PathsL.get{Q:Nat→Prop}{σ:FState}:∀ {us:List Value} {ps:List (List Nat)} {i:Nat} {p:List Nat},PathsL Q σ us ps→ps[i]? = some p→∃u,us[i]? = some u∧PathV Q σ u p
 | u::_,_::_,0,_,⟨h1,_⟩,h=>by cases h;exact⟨u,rfl,h1⟩
 | _::us,_::ps,i+1,p,⟨_,h2⟩,h=>by
  obtain⟨u,h3,h4⟩:=PathsL.get (i:=i) h2 (by simpa using h)
  exact⟨u,by simpa using h3,h4⟩
 | [],[],_,_,_,h=>by simp at h
end
end Go.Eng
namespace Go.Proofs.YtokieofohmgjdaaGreatDoor
open Go Go.Eng
variable (E:Env) (ro:Option Nat) (last:List Nat→RunF) (cl:List Nat) (a:FAct) (u:Option FrameMode) (σ:FState)
def Xl(_:Unit):List COp:=[⟨fun a σ=>fbox 24 (a.get 0) σ,some 2,fun _=>some true⟩,
 ⟨fun a σ=>.val (.slice none 0 0) σ,some 4,fun _=>some true⟩]
def Arf:List COp:=Xl ()
def Xm(_:Unit):List COp:=[⟨fun a σ=>fbuildSlice 3 0 1 [(.int .i64 0)] [] σ,some 7,fun _=>some true⟩,
 ⟨fun a σ=>.val (a.get 1) σ,some 8,fun _=>some true⟩,
 ⟨fun a σ=>fappend 3 1 8 (a.get 7) (a.get 8) σ,some 9,fun _=>some true⟩,
 ⟨fun a σ=>fbuildSlice 25 1 1 [(.slice none 0 0)] [(0,(a.get 9))] σ,some 10,fun _=>some true⟩,
 ⟨fun a σ=>.val (a.get 10) σ,some 5,fun _=>some true⟩]
def Arg:List COp:=Xm ()
def Xn(_:Unit):List COp:=[⟨fun a σ=>.val (.int .i64 0) σ,some 6,fun _=>some true⟩]
def Arh:List COp:=Xn ()
def RB(_:Unit):List COp:=[⟨fun a σ=>.val (a.get 6) σ,some 11,fun _=>some true⟩,
 ⟨fun a σ=>ffield 3 (a.get 2) σ,some 12,fun _=>some true⟩,
 ⟨fun a σ=>fload none (a.get 12) σ,some 13,fun _=>some true⟩,
 ⟨fun a σ=>flenL (a.get 13) σ,some 14,fun _=>some true⟩,
 ⟨fun a σ=>i_lss Tryz.prog 3 (.tmp 11) (.tmp 14) (a.get 11) (a.get 14) σ,some 15,fun _=>some true⟩]
def Ari:List COp:=RB ()
def Xp(_:Unit):List DOp:=[⟨fun a σ=>fbuildSlice 3 0 1 [(.int .i64 0)] [] σ,some 24,fun _=>some true,some 0,false⟩,
 ⟨fun a σ=>.val (a.get 1) σ,some 25,fun _=>some true,some 0,false⟩,
 ⟨fun a σ=>fappend 3 1 8 (a.get 24) (a.get 25) σ,some 26,fun _=>some true,none,false⟩,
 ⟨fun a σ=>.val (a.get 6) σ,some 27,fun _=>some true,some 0,false⟩,
 ⟨fun a σ=>fbuildSlice 3 1 1 [(.int .i64 0)] [(0,(a.get 27))] σ,some 28,fun _=>some true,some 0,false⟩,
 ⟨fun a σ=>fappend 3 1 8 (a.get 26) (a.get 28) σ,some 29,fun _=>some true,none,false⟩,
 ⟨fun a σ=>ffield 3 (a.get 2) σ,some 19,fun _=>some true,some 0,false⟩,
 ⟨fun a σ=>fload none (a.get 19) σ,some 20,fun _=>some true,some 0,false⟩,
 ⟨fun a σ=>.val (a.get 6) σ,some 21,fun _=>some true,some 0,false⟩,
 ⟨fun a σ=>findex (none,4) (a.get 20) (a.get 21) σ,some 22,fun _=>some true,some 0,false⟩,
 ⟨fun a σ=>fload (some 4) (a.get 22) σ,some 23,fun _=>some true,some 0,false⟩,
 ⟨fun a σ=>.enter 22 [(a.get 23),(a.get 29)] σ,some 30,fun _=>some true,none,false⟩,
 ⟨fun a σ=>.val (a.get 5) σ,some 18,fun _=>some true,some 0,false⟩,
 ⟨fun a σ=>fappend 25 1 24 (a.get 18) (a.get 30) σ,some 31,fun _=>some true,none,true⟩,
 ⟨fun a σ=>.val (a.get 31) σ,some 5,fun _=>some true,some 4,false⟩]
def Ark:List DOp:=Xp ()
def Xo(_:Unit):List COp:=[⟨fun a σ=>.val (a.get 6) σ,some 16,fun _=>some true⟩,
 ⟨fun a σ=>i_add Tryz.prog 3 (.tmp 16) (.const (.int .i64 1)) (a.get 16) (.int .i64 1) σ,some 17,fun _=>some true⟩,
 ⟨fun a σ=>.val (a.get 17) σ,some 6,fun _=>some true⟩]
def Arj:List COp:=Xo ()
def Ur(E:Env)(ro:Option Nat)(fn:FuncId):RunF:=(seqR (seqR (fops E ro Ari) (condR (fun a=>(a.get 15)) skipR (exitR 0))) (seqR (blockR 1 (drawR E ro Ark)) (fops E ro Arj)))
def Xq(_:Unit):List COp:=[⟨fun a σ=>.val (a.get 5) σ,some 32,fun _=>some true⟩,
 ⟨fun a σ=>.val (a.get 32) σ,some 4,fun _=>some true⟩]
def Arl:List COp:=Xq ()
def Am3(E:Env)(ro:Option Nat)(fn:FuncId):RunF:=(seqR (fops E ro Arf) (seqR (fops E ro Arg) (seqR (seqR (fops E ro Arh) (blockR 0 (loopR (keepOf nls fn) (Ur E ro fn)))) (seqR (fops E ro Arl) retR))))
theorem AkB:fops E ro Arf a u σ=fops E ro (Xl ()) a u σ:=rfl
theorem AkC:fops E ro Arg a u σ=fops E ro (Xm ()) a u σ:=rfl
theorem AkD:fops E ro Arh a u σ=fops E ro (Xn ()) a u σ:=rfl
theorem UQ:fops E ro Ari a u σ=fops E ro (RB ()) a u σ:=rfl
theorem AkF:fdraw E ro last Ark cl a u σ=fdraw E ro last (Xp ()) cl a u σ:=rfl
theorem AkE:fops E ro Arj a u σ=fops E ro (Xo ()) a u σ:=rfl
theorem AkG:fops E ro Arl a u σ=fops E ro (Xq ()) a u σ:=rfl
theorem Auv(E:Env)(ro:Option Nat)(fn:FuncId):code Tryz.prog nls (Tryz.f22.body.getD .skip) E ro fn=Am3 E ro fn:=by kernel_rfl
theorem AoL(E:Env)(args:List Value)(u:Option FrameMode)(σ:FState)(hn:args.length≤(7:Nat)):fcall Tryz.prog nls E 22 args u σ=leaveR Tryz.prog E [.tmp 4] (Am3 E none 22 ⟨padTo undef 7 args,fun _=>undef,7,33,[]⟩ u σ):=by
 rw[Al (body:=Tryz.f22.body.getD .skip) Tryz.func22 rfl E args u σ 7 33 (by kernel_rfl) rfl ⟨hn,by decide⟩,Auv]
 rfl
def XM(_:Unit):List COp:=[⟨fun a σ=>fbox 24 (a.get 0) σ,some 2,fun _=>some true⟩,
 ⟨fun a σ=>newCells [(.int .i64 0),(.int .i64 0),(.string ⟨#[]⟩),(.slice none 0 0)] 24 none σ,some 4,fun _=>some true⟩,
 ⟨fun a σ=>.val (.bool false) σ,some 5,fun _=>some true⟩]
def ArX:List COp:=XM ()
def XN(_:Unit):List COp:=[⟨fun a σ=>.val (.int .i64 0) σ,some 6,fun _=>some true⟩]
def ArY:List COp:=XN ()
def RX(_:Unit):List COp:=[⟨fun a σ=>.val (a.get 6) σ,some 7,fun _=>some true⟩,
 ⟨fun a σ=>.val (a.get 1) σ,some 8,fun _=>some true⟩,
 ⟨fun a σ=>flenL (a.get 8) σ,some 9,fun _=>some true⟩,
 ⟨fun a σ=>i_lss Tryz.prog 3 (.tmp 7) (.tmp 9) (a.get 7) (a.get 9) σ,some 10,fun _=>some true⟩]
def ArZ:List COp:=RX ()
def XP(_:Unit):List DOp:=[⟨fun a σ=>.val (a.get 1) σ,some 13,fun _=>some true,some 0,false⟩,
 ⟨fun a σ=>.val (a.get 6) σ,some 14,fun _=>some true,some 0,false⟩,
 ⟨fun a σ=>findex (none,1) (a.get 13) (a.get 14) σ,some 15,fun _=>some true,some 0,false⟩,
 ⟨fun a σ=>fload none (a.get 15) σ,some 16,fun _=>some true,some 0,false⟩,
 ⟨fun a σ=>ffield 3 (a.get 2) σ,some 17,fun _=>some true,some 0,false⟩,
 ⟨fun a σ=>fload none (a.get 17) σ,some 18,fun _=>some true,some 0,false⟩,
 ⟨fun a σ=>flenL (a.get 18) σ,some 19,fun _=>some true,some 0,false⟩,
 ⟨fun a σ=>i_sub Tryz.prog 3 (.tmp 19) (.const (.int .i64 1)) (a.get 19) (.int .i64 1) σ,some 20,fun _=>some true,some 0,false⟩,
 ⟨fun a σ=>.enter 107 [(a.get 16),(.int .i64 0),(a.get 20)] σ,some 21,fun _=>some true,none,true⟩,
 ⟨fun a σ=>fun1 Tryz.prog (Op.unary .not) (a.get 21) σ,some 22,fun _=>some true,some 1,false⟩]
def Ar1:List DOp:=XP ()
def AvR(_:Unit):List COp:=[⟨fun a σ=>fbuild (fun i=>nth [(0,1),(1,1),(2,1),(3,1)] i) [(.int .i64 0),(.int .i64 0),(.string ⟨#[]⟩),(.slice none 0 0)] [] σ,some 23,fun _=>some true⟩,
 ⟨fun a σ=>fstore 4 (a.get 4) (a.get 23) σ,none,fun _=>some true⟩,
 ⟨fun a σ=>.val (.bool false) σ,some 5,fun _=>some true⟩]
def Awp:List COp:=AvR ()
def XQ(_:Unit):List DOp:=[⟨fun a σ=>ffield 3 (a.get 2) σ,some 24,fun _=>some true,some 0,false⟩,
 ⟨fun a σ=>fload none (a.get 24) σ,some 25,fun _=>some true,some 0,false⟩,
 ⟨fun a σ=>.val (a.get 1) σ,some 26,fun _=>some true,some 0,false⟩,
 ⟨fun a σ=>.val (a.get 6) σ,some 27,fun _=>some true,some 0,false⟩,
 ⟨fun a σ=>findex (none,1) (a.get 26) (a.get 27) σ,some 28,fun _=>some true,some 0,false⟩,
 ⟨fun a σ=>fload none (a.get 28) σ,some 29,fun _=>some true,some 0,false⟩,
 ⟨fun a σ=>findex (none,4) (a.get 25) (a.get 29) σ,some 30,fun _=>some true,some 0,false⟩,
 ⟨fun a σ=>fload (some 4) (a.get 30) σ,some 31,fun _=>some true,some 0,false⟩,
 ⟨fun a σ=>fstore 4 (a.get 2) (a.get 31) σ,none,fun _=>some true,none,true⟩]
def Ar2:List DOp:=XQ ()
def XO(_:Unit):List COp:=[⟨fun a σ=>.val (a.get 6) σ,some 11,fun _=>some true⟩,
 ⟨fun a σ=>i_add Tryz.prog 3 (.tmp 11) (.const (.int .i64 1)) (a.get 11) (.int .i64 1) σ,some 12,fun _=>some true⟩,
 ⟨fun a σ=>.val (a.get 12) σ,some 6,fun _=>some true⟩]
def Ar0:List COp:=XO ()
def Aak(E:Env)(ro:Option Nat)(fn:FuncId):RunF:=(seqR (seqR (fops E ro ArZ) (condR (fun a=>(a.get 10)) skipR (exitR 0))) (seqR (blockR 1 (seqR (seqR (drawR E ro Ar1) (condR (fun a=>(a.get 22)) (seqR (fops E ro Awp) retR) skipR)) (drawR E ro Ar2))) (fops E ro Ar0)))
def XR(_:Unit):List COp:=[⟨fun a σ=>fload (some 4) (a.get 2) σ,some 32,fun _=>some true⟩,
 ⟨fun a σ=>fstore 4 (a.get 4) (a.get 32) σ,none,fun _=>some true⟩,
 ⟨fun a σ=>.val (.bool true) σ,some 5,fun _=>some true⟩]
def Ar3:List COp:=XR ()
def Am9(E:Env)(ro:Option Nat)(fn:FuncId):RunF:=(seqR (fops E ro ArX) (seqR (seqR (fops E ro ArY) (blockR 0 (loopR (keepOf nls fn) (Aak E ro fn)))) (seqR (fops E ro Ar3) retR)))
theorem All:fops E ro ArX a u σ=fops E ro (XM ()) a u σ:=rfl
theorem Alm:fops E ro ArY a u σ=fops E ro (XN ()) a u σ:=rfl
theorem U2:fops E ro ArZ a u σ=fops E ro (RX ()) a u σ:=rfl
theorem Alo:fdraw E ro last Ar1 cl a u σ=fdraw E ro last (XP ()) cl a u σ:=rfl
theorem Alp:fdraw E ro last Ar2 cl a u σ=fdraw E ro last (XQ ()) cl a u σ:=rfl
theorem Aln:fops E ro Ar0 a u σ=fops E ro (XO ()) a u σ:=rfl
theorem Alq:fops E ro Ar3 a u σ=fops E ro (XR ()) a u σ:=rfl
theorem AuD(E:Env)(ro:Option Nat)(fn:FuncId):code Tryz.prog nls (Tryz.f41.body.getD .skip) E ro fn=Am9 E ro fn:=by kernel_rfl
theorem AoR(E:Env)(args:List Value)(u:Option FrameMode)(σ:FState)(hn:args.length≤(7:Nat)):fcall Tryz.prog nls E 41 args u σ=leaveR Tryz.prog E [.cell 4 24,.tmp 5] (Am9 E none 41 ⟨padTo undef 7 args,fun _=>undef,7,33,[]⟩ u σ):=by
 rw[Al (body:=Tryz.f41.body.getD .skip) Tryz.func41 rfl E args u σ 7 33 (by kernel_rfl) rfl ⟨hn,by decide⟩,AuD]
 rfl
def J2(_:Unit):List COp:=[⟨fun a σ=>.val (.bool false) σ,some 6,fun _=>some true⟩]
def AgB:List COp:=J2 ()
def J3(_:Unit):List COp:=[⟨fun a σ=>.val (a.get 1) σ,some 7,fun _=>some true⟩,
 ⟨fun a σ=>.val (a.get 0) σ,some 8,fun _=>some true⟩,
 ⟨fun a σ=>i_leq Tryz.prog 3 (.tmp 7) (.tmp 8) (a.get 7) (a.get 8) σ,some 9,fun _=>some true⟩,
 ⟨fun a σ=>.val (a.get 9) σ,some 10,fun _=>some true⟩,
 ⟨fun a σ=>.val (a.get 0) σ,some 11,fun a=>gd (a.get 10) true⟩,
 ⟨fun a σ=>.val (a.get 2) σ,some 12,fun a=>gd (a.get 10) true⟩,
 ⟨fun a σ=>i_leq Tryz.prog 3 (.tmp 11) (.tmp 12) (a.get 11) (a.get 12) σ,some 13,fun a=>gd (a.get 10) true⟩,
 ⟨fun a σ=>fpick (a.get 10) (a.get 13) (.bool false) σ,some 14,fun _=>some true⟩,
 ⟨fun a σ=>.val (a.get 14) σ,some 6,fun _=>some true⟩]
def AgC:List COp:=J3 ()
def Zi(E:Env)(ro:Option Nat)(fn:FuncId):RunF:=(seqR (fops E ro AgB) (seqR (fops E ro AgC) retR))
theorem Of:fops E ro AgB a u σ=fops E ro (J2 ()) a u σ:=rfl
theorem Og:fops E ro AgC a u σ=fops E ro (J3 ()) a u σ:=rfl
theorem AnV(E:Env)(ro:Option Nat)(fn:FuncId):code Tryz.prog nls (Tryz.f107.body.getD .skip) E ro fn=Zi E ro fn:=by kernel_rfl
theorem Afk(E:Env)(args:List Value)(u:Option FrameMode)(σ:FState)(hn:args.length≤(6:Nat)):fcall Tryz.prog nls E 107 args u σ=leaveR Tryz.prog E [.tmp 6] (Zi E none 107 ⟨padTo undef 6 args,fun _=>undef,6,15,[]⟩ u σ):=by
 rw[Al (body:=Tryz.f107.body.getD .skip) Tryz.func107 rfl E args u σ 6 15 (by kernel_rfl) rfl ⟨hn,by decide⟩,AnV]
 rfl
def RU(_:Unit):List COp:=[⟨fun a σ=>.val (.bool false) σ,some 4,fun _=>some true⟩]
def ArO:List COp:=RU ()
def RV(_:Unit):List COp:=[⟨fun a σ=>.val (a.get 0) σ,some 6,fun _=>some true⟩,
 ⟨fun a σ=>flenL (a.get 6) σ,some 7,fun _=>some true⟩,
 ⟨fun a σ=>.val (a.get 1) σ,some 8,fun _=>some true⟩,
 ⟨fun a σ=>flenL (a.get 8) σ,some 9,fun _=>some true⟩,
 ⟨fun a σ=>i_neq Tryz.prog 3 (.tmp 7) (.tmp 9) (a.get 7) (a.get 9) σ,some 10,fun _=>some true⟩]
def ArP:List COp:=RV ()
def XH(_:Unit):List COp:=[⟨fun a σ=>.val (.bool false) σ,some 4,fun _=>some true⟩]
def ArQ:List COp:=XH ()
def XI(_:Unit):List COp:=[⟨fun a σ=>.val (.int .i64 0) σ,some 5,fun _=>some true⟩]
def ArR:List COp:=XI ()
def L8(_:Unit):List COp:=[⟨fun a σ=>.val (a.get 5) σ,some 11,fun _=>some true⟩,
 ⟨fun a σ=>.val (a.get 0) σ,some 12,fun _=>some true⟩,
 ⟨fun a σ=>flenL (a.get 12) σ,some 13,fun _=>some true⟩,
 ⟨fun a σ=>i_lss Tryz.prog 3 (.tmp 11) (.tmp 13) (a.get 11) (a.get 13) σ,some 14,fun _=>some true⟩]
def ArS:List COp:=L8 ()
def RW(_:Unit):List DOp:=[⟨fun a σ=>.val (a.get 0) σ,some 17,fun _=>some true,some 0,false⟩,
 ⟨fun a σ=>.val (a.get 5) σ,some 18,fun _=>some true,some 0,false⟩,
 ⟨fun a σ=>findex (none,1) (a.get 17) (a.get 18) σ,some 19,fun _=>some true,some 0,false⟩,
 ⟨fun a σ=>fload none (a.get 19) σ,some 20,fun _=>some true,some 0,false⟩,
 ⟨fun a σ=>.val (a.get 1) σ,some 21,fun _=>some true,some 0,false⟩,
 ⟨fun a σ=>.val (a.get 5) σ,some 22,fun _=>some true,some 0,false⟩,
 ⟨fun a σ=>findex (none,1) (a.get 21) (a.get 22) σ,some 23,fun _=>some true,some 0,false⟩,
 ⟨fun a σ=>fload none (a.get 23) σ,some 24,fun _=>some true,some 0,false⟩,
 ⟨fun a σ=>i_neq Tryz.prog 3 (.tmp 20) (.tmp 24) (a.get 20) (a.get 24) σ,some 25,fun _=>some true,some 0,false⟩]
def ArU:List DOp:=RW ()
def XK(_:Unit):List COp:=[⟨fun a σ=>.val (.bool false) σ,some 4,fun _=>some true⟩]
def ArV:List COp:=XK ()
def XJ(_:Unit):List COp:=[⟨fun a σ=>.val (a.get 5) σ,some 15,fun _=>some true⟩,
 ⟨fun a σ=>i_add Tryz.prog 3 (.tmp 15) (.const (.int .i64 1)) (a.get 15) (.int .i64 1) σ,some 16,fun _=>some true⟩,
 ⟨fun a σ=>.val (a.get 16) σ,some 5,fun _=>some true⟩]
def ArT:List COp:=XJ ()
def Aaj(E:Env)(ro:Option Nat)(fn:FuncId):RunF:=(seqR (seqR (fops E ro ArS) (condR (fun a=>(a.get 14)) skipR (exitR 0))) (seqR (blockR 1 (seqR (drawR E ro ArU) (condR (fun a=>(a.get 25)) (seqR (fops E ro ArV) retR) skipR))) (fops E ro ArT)))
def XL(_:Unit):List COp:=[⟨fun a σ=>.val (.bool true) σ,some 4,fun _=>some true⟩]
def ArW:List COp:=XL ()
def Am8(E:Env)(ro:Option Nat)(fn:FuncId):RunF:=(seqR (fops E ro ArO) (seqR (seqR (fops E ro ArP) (condR (fun a=>(a.get 10)) (seqR (fops E ro ArQ) retR) skipR)) (seqR (seqR (fops E ro ArR) (blockR 0 (loopR (keepOf nls fn) (Aaj E ro fn)))) (seqR (fops E ro ArW) retR))))
theorem UZ:fops E ro ArO a u σ=fops E ro (RU ()) a u σ:=rfl
theorem U0:fops E ro ArP a u σ=fops E ro (RV ()) a u σ:=rfl
theorem Alg:fops E ro ArQ a u σ=fops E ro (XH ()) a u σ:=rfl
theorem Alh:fops E ro ArR a u σ=fops E ro (XI ()) a u σ:=rfl
theorem L9:fops E ro ArS a u σ=fops E ro (L8 ()) a u σ:=rfl
theorem U1:fdraw E ro last ArU cl a u σ=fdraw E ro last (RW ()) cl a u σ:=rfl
theorem Alj:fops E ro ArV a u σ=fops E ro (XK ()) a u σ:=rfl
theorem Ali:fops E ro ArT a u σ=fops E ro (XJ ()) a u σ:=rfl
theorem Alk:fops E ro ArW a u σ=fops E ro (XL ()) a u σ:=rfl
theorem AuC(E:Env)(ro:Option Nat)(fn:FuncId):code Tryz.prog nls (Tryz.f29.body.getD .skip) E ro fn=Am8 E ro fn:=by kernel_rfl
theorem AoQ(E:Env)(args:List Value)(u:Option FrameMode)(σ:FState)(hn:args.length≤(6:Nat)):fcall Tryz.prog nls E 29 args u σ=leaveR Tryz.prog E [.tmp 4] (Am8 E none 29 ⟨padTo undef 6 args,fun _=>undef,6,26,[]⟩ u σ):=by
 rw[Al (body:=Tryz.f29.body.getD .skip) Tryz.func29 rfl E args u σ 6 26 (by kernel_rfl) rfl ⟨hn,by decide⟩,AuC]
 rfl
end Go.Proofs.YtokieofohmgjdaaGreatDoor
namespace Go.Proofs.YtokieofohmgjdaaGreatDoor
open Go Go.Eng
attribute [local congr] Ac Aj Ai Ad Ah
attribute [-go_sem] List.range_succ
abbrev TP:TypeId:=25
theorem Ach:keepOf nls 22=[32]:=by kernel_rfl
structure HeadPa (bd bo base:Nat) (R:Nat→Prop) (k z:Int) (t:ByteArray) (q:Option Addr) (c:Nat) (ds:List D) (at':List Nat) (atv:Value) (us:List Value) (ps:List (List Nat)) (σ0:FState) (i:Nat) (f:Nat→Value) (σ:FState):Prop where
 f1:f 1=atv
 f2:f 2=.pointer (some ⟨bd,0,none⟩)
 f5:Ful TP σ bo (f 5) us
 f6:f 6=.int .i64 (.ofNat i)
 cd:σ.cells bd=some [.int .i64 k,.int .i64 z,.string t,.slice q ds.length c]
 lay:LaidRE R σ q 0 ds
 low:∀b,R b→b<base
 atp:PathV (· < base) σ atv at'
 hbd:base≤bd∧bd≠bo
 hbo:base≤bo
 lst:PathsL (fun b=>base≤b∧b≠bo) σ us ps
 wf:Wf σ
 ext:Ext σ0 σ
 le:i≤ds.length
 few:ds.length<10000
def PathsAt(m:Nat)(d:D):Prop:=∀(at':List Nat) (v atv:Value) (R Q:Nat→Prop) (σ:FState),Wf σ→LaidR R σ v d→PathV Q σ atv at'→at'.length+d.deep<1000→(d.pieces at').length<10000→
 Gives ((env m).call 22 [v,atv] none σ) σ fun w σ'=>∃b us,σ.next≤b∧Ful TP σ' b w us∧PathsL (fun b=>σ.next≤b) σ' us ((d.pieces at').map (·.1))
theorem Ci:∀ {ds:List D} {d:D},d∈ds→d.deep≤D.deeps ds
 | x::ds,d,h=>by
  rw[D.deeps]
  rcases List.mem_cons.1 h with rfl|h
  ·omega
  ·have:=Ci h;omega
theorem FF:∀(ds:List D) (at':List Nat) (i:Nat),ds.length≤(D.piecesL at' i ds).length
 | [],_,_=>Nat.zero_le _
 | d::ds,at',i=>by
  rw[D.piecesL,List.length_append,D.pieces_eq,List.length_cons,List.length_cons]
  have:=FF ds at' (i+1)
  omega
end Go.Proofs.YtokieofohmgjdaaGreatDoor
namespace Go.Proofs.YtokieofohmgjdaaGreatDoor
open Go Go.Eng
attribute [local congr] Ac Aj Ai Ad Ah
attribute [-go_sem] List.range_succ
theorem Apl:keepOf nls 29=[]:=by kernel_rfl
theorem Eb{Q:Nat→Prop}{σ:FState}{v:Value}{p:List Nat}(h:PathV Q σ v p):∃a cx,v=.slice a p.length cx∧(p≠[]→∃b rest,a=some ⟨b,0,none⟩∧Q b∧σ.cells b=some (intsOf p++rest)):=by
 rcases h with⟨rfl,rfl⟩|⟨b,cx,rest,rfl,hQ,hc⟩
 ·exact⟨none,0,rfl,fun h=>absurd rfl h⟩
 ·exact⟨_,cx,rfl,fun _=>⟨b,rest,rfl,hQ,hc⟩⟩
theorem EW{p:List Nat}{i:Nat}(rest:List Value)(h:i<p.length):(intsOf p++rest)[i]? = some (.int .i64 (.ofNat p[i])):=by
 rw[List.getElem?_append_left (by rw[BN];exact h),intsOf,List.getElem?_map,List.getElem?_eq_getElem h];rfl
structure HeadEi (v w:Value) (i:Nat) (f:Nat→Value):Prop where
 f0:f 0=v
 f1:f 1=w
 f5:f 5=.int .i64 (.ofNat i)
theorem TU(E:Env){p p':List Nat}(hlen:p.length=p'.length){a a':Option Addr}{cx cx':Nat}{σ:FState}(hw:Wf σ)(hs:p.length<100000)(h1:p≠[]→∃b rest,a=some ⟨b,0,none⟩∧σ.cells b=some (intsOf p++rest))(h2:p'≠[]→∃b rest,a'=some ⟨b,0,none⟩∧σ.cells b=some (intsOf p'++rest)):
  ∀(j fuel i:Nat) (f g:Nat→Value),i+j=p.length→j<fuel→HeadEi (.slice a p.length cx) (.slice a' p'.length cx') i f→
  ∃e f' g',floop [] (Aaj E none 29) fuel (Sl 6 26 f g []) none σ=.done e (Sl 6 26 f' g' []) none σ∧(if p.drop i=p'.drop i then e=.exit 0 else e=.ret∧f' 4=.bool false):=by
 intro j
 induction j with
 | zero=>
  intro fuel i f g hij hf h
  obtain⟨fuel,rfl⟩:∃q,fuel=q+1:=⟨fuel-1,by omega⟩
  obtain rfl:i=p.length:=by omega
  have d1:decide (Int.ofNat p.length<Int.ofNat p.length)=false:=by simp
  rw[Am,Bk]
  unfold Aaj
  simp -implicitDefEqProofs only[go_sem,L9,L8,h.f0,h.f5,d1]
  refine⟨_,_,_,rfl,?_⟩
  rw[List.drop_length,hlen,List.drop_length,if_pos rfl]
 | succ j ih=>
  intro fuel i f g hij hf h
  obtain⟨fuel,rfl⟩:∃q,fuel=q+1:=⟨fuel-1,by omega⟩
  have hi:i<p.length:=by omega
  have hi':i<p'.length:=by omega
  have d1:decide (Int.ofNat i<Int.ofNat p.length)=true:=by simp;omega
  obtain⟨b,rest,rfl,hc⟩:=h1 (fun h=>by rw[h] at hi;simp at hi)
  obtain⟨b',rest',rfl,hc'⟩:=h2 (fun h=>by rw[h] at hi';simp at hi')
  have hv:=BQ hw (Nat.le_refl _)
  have g1:=EW rest hi
  have g2:=EW rest' hi'
  have w3:=D4 i (by omega)
  have hdr:p.drop i=p[i]::p.drop (i+1):=List.drop_eq_getElem_cons hi
  have hdr':p'.drop i=p'[i]::p'.drop (i+1):=List.drop_eq_getElem_cons hi'
  rw[Am,Bk]
  unfold Aaj
  cases e:(Int.ofNat p[i]==Int.ofNat p'[i]) with
  | false=>
   simp -implicitDefEqProofs only[go_sem,L9,L8,U1,RW,Alj,XK,h.f0,h.f1,h.f5,d1,hi,hi',hv,hc,hc',g1,g2,e]
   refine⟨_,_,_,rfl,?_⟩
   rw[hdr,hdr',if_neg (fun h=>by
    have:=(List.cons.inj h).1
    rw[this] at e
    simp at e)]
   exact⟨rfl,by simp -implicitDefEqProofs only[go_sem,reduceCtorEq]⟩
  | true=>
   simp -implicitDefEqProofs only[go_sem,L9,L8,U1,RW,Ali,XJ,h.f0,h.f1,h.f5,d1,hi,hi',hv,hc,hc',g1,g2,e,w3]
   obtain⟨e',f',g',e1,h3⟩:=ih fuel (i+1) (upd f 5 (.int .i64 (.ofNat (i+1)))) _ (by omega) (by omega) {
    f0:=by simp -implicitDefEqProofs only[go_sem,reduceCtorEq,h.f0]
    f1:=by simp -implicitDefEqProofs only[go_sem,reduceCtorEq,h.f1]
    f5:=by simp -implicitDefEqProofs only[go_sem,reduceCtorEq] }
   refine⟨e',f',g',e1,?_⟩
   have hpe:p[i]=p'[i]:=Int.ofNat.inj (eq_of_beq e)
   rw[hdr,hdr',hpe]
   by_cases hh:p.drop (i+1)=p'.drop (i+1)
   ·rw[if_pos hh] at h3
    rw[hh,if_pos rfl];exact h3
   ·rw[if_neg hh] at h3
    rw[if_neg (fun h=>hh (List.cons.inj h).2)];exact h3
theorem AbX(n:Nat){Q Q':Nat→Prop}{v w:Value}{p p':List Nat}{σ:FState}(hw:Wf σ)(hs:p.length<100000)(h1:PathV Q σ v p)(h2:PathV Q' σ w p'):
  (env (n+1)).call 29 [v,w] none σ=.ret (.bool (decide (p=p'))) none σ:=by
 obtain⟨a,cx,rfl,k1⟩:=Eb h1
 obtain⟨a',cx',rfl,k2⟩:=Eb h2
 rw[Ag _ 29 _ _ rfl,AoQ _ _ _ _ (by simp),Af]
 unfold Am8
 cases e:(Int.ofNat p.length==Int.ofNat p'.length) with
 | false=>
  simp -implicitDefEqProofs only[go_sem,UZ,RU,U0,RV,Alg,XH,e]
  rw[decide_eq_false (fun h=>by rw[h] at e;simp at e)]
 | true=>
  have hl:p.length=p'.length:=Int.ofNat.inj (eq_of_beq e)
  simp -implicitDefEqProofs only[go_sem,UZ,RU,U0,RV,Alh,XI,e,Apl]
  generalize hff:upd _ 5 _=f1
  generalize hgg:upd _ 10 _=g1
  generalize hbf:bigFuel=fuel
  obtain⟨e',f',g',e1,h3⟩:=TU (env n) hl hw hs (fun h=>by obtain⟨b,r,x,_,y⟩:=k1 h;exact⟨b,r,x,y⟩) (fun h=>by obtain⟨b,r,x,_,y⟩:=k2 h;exact⟨b,r,x,y⟩) (cx:=cx) (cx':=cx') p.length fuel 0 f1 g1 (by omega) (by rw[←hbf];show p.length<1000000000000;omega) {
   f0:=by rw[←hff];simp -implicitDefEqProofs only[go_sem,reduceCtorEq]
   f1:=by rw[←hff];simp -implicitDefEqProofs only[go_sem,reduceCtorEq]
   f5:=by rw[←hff];simp -implicitDefEqProofs only[go_sem,reduceCtorEq]<;>rfl }
  rw[e1]
  rw[List.drop_zero,List.drop_zero] at h3
  by_cases hp:p=p'
  ·rw[if_pos hp] at h3
   subst h3
   simp -implicitDefEqProofs only[go_sem,Alk,XL]
   rw[decide_eq_true hp]
  ·rw[if_neg hp] at h3
   obtain⟨rfl,h4⟩:=h3
   simp -implicitDefEqProofs only[go_sem,h4]
   rw[decide_eq_false hp]
theorem AL(n:Nat)(x y z:Int)(σ:FState):(env (n+1)).call 107 [.int .i64 x,.int .i64 y,.int .i64 z] none σ=.ret (.bool (decide (y≤x)&&decide (x≤z))) none σ:=by
 rw[Ag _ 107 _ _ rfl,Afk _ _ _ _ (by simp),Af]
 unfold Zi
 cases e:decide (y≤x) with
 | false=>simp -implicitDefEqProofs only[go_sem,Of,J2,Og,J3,e,Bool.false_and]
 | true=>simp -implicitDefEqProofs only[go_sem,Of,J2,Og,J3,e,Bool.true_and]
theorem Af9:keepOf nls 41=[32]:=by kernel_rfl
def atP:List Nat→D→Option D
 | [],d=>some d
 | i::p,d=>match d.parts[i]? with
  | some d'=>atP p d'
  | none=>none
theorem Auj(n:Nat)(h:1≤n)(h2:n<1000000000):wrapI (Int.ofNat n-1)=Int.ofNat (n-1):=by
 rw[B_ (by simp only[Int.ofNat_eq_natCast];omega)]
 simp only[Int.ofNat_eq_natCast]
 omega
theorem Ep:∀ds:List D,ds.length≤D.counts ds
 | []=>Nat.zero_le _
 | .mk _ _ _ l::ds=>by rw[List.length_cons,D.counts,D.count];have:=Ep ds;omega
theorem FU:∀ {ds:List D} {d:D},d∈ds→d.count≤D.counts ds
 | x::ds,d,h=>by
  rw[D.counts]
  rcases List.mem_cons.1 h with rfl|h
  ·omega
  ·have:=FU h;omega
structure HeadPt (b2 b4:Nat) (pv:Value) (R:Nat→Prop) (k z:Int) (t:ByteArray) (q:Option Addr) (c:Nat) (ds:List D) (i:Nat) (f:Nat→Value) (σ:FState):Prop where
 f1:f 1=pv
 f2:f 2=.pointer (some ⟨b2,0,none⟩)
 f4:f 4=.pointer (some ⟨b4,0,none⟩)
 f6:f 6=.int .i64 (.ofNat i)
 cd:∃fz ver,σ.heap.get b2=some ⟨.cells [.int .i64 k,.int .i64 z,.string t,.slice q ds.length c] TD,false,fz,ver⟩
 lay:LaidRE R σ q 0 ds
 wf:Wf σ
theorem AcB(m:Nat){b2 b4:Nat}{a:Option Addr}{cx:Nat}{path:List Nat}{R:Nat→Prop}(hs:path.length<100000)(hR:∀b,R b→b≠b2)(x:D):
  ∀(j fuel i:Nat) (f g:Nat→Value) (σ:FState) (k z:Int) (t:ByteArray) (q:Option Addr) (c:Nat) (ds:List D),i+j=path.length→j<fuel→atP (path.drop i) (.mk k z t ds)=some x→(D.mk k z t ds).count<100000→
   (path≠[]→∃b rest,a=some ⟨b,0,none⟩∧b≠b2∧σ.cells b=some (intsOf path++rest))→HeadPt b2 b4 (.slice a path.length cx) R k z t q c ds i f σ→
  ∃f' g' σ' k z t q c ds,floop [32] (Aak (env (m+1)) none 41) fuel (Sl 7 33 f g []) none σ=.done (.exit 0) (Sl 7 33 f' g' []) none σ'∧HeadPt b2 b4 (.slice a path.length cx) R k z t q c ds path.length f' σ'∧x=.mk k z t ds∧Chg (· = b2) σ σ':=by
 intro j
 induction j with
 | zero=>
  intro fuel i f g σ k z t q c ds hij hf hx _ hp h
  obtain⟨fuel,rfl⟩:∃q,fuel=q+1:=⟨fuel-1,by omega⟩
  obtain rfl:i=path.length:=by omega
  rw[List.drop_length,atP] at hx
  have d1:decide (Int.ofNat path.length<Int.ofNat path.length)=false:=by simp
  rw[Am,Bk]
  unfold Aak
  simp -implicitDefEqProofs only[go_sem,U2,RX,h.f1,h.f6,d1]
  exact⟨_,_,_,k,z,t,q,c,ds,rfl,h,(Option.some.inj hx).symm,Chg.refl _ _⟩
 | succ j ih=>
  intro fuel i f g σ k z t q c ds hij hf hx hN hp h
  obtain⟨fuel,rfl⟩:∃q,fuel=q+1:=⟨fuel-1,by omega⟩
  have hi:i<path.length:=by omega
  have d1:decide (Int.ofNat i<Int.ofNat path.length)=true:=by simp;omega
  obtain⟨b,rest,rfl,hb,hc⟩:=hp (fun h=>by rw[h] at hi;simp at hi)
  have hv:=BQ h.wf (Nat.le_refl _)
  have g1:=EW rest hi
  have w3:=D4 i (by omega)
  have hdr:path.drop i=path[i]::path.drop (i+1):=List.drop_eq_getElem_cons hi
  rw[hdr,atP] at hx
  simp only[D.parts] at hx
  cases hd:ds[path[i]]? with
  | none=>rw[hd] at hx;cases hx
  | some d=>
   rw[hd] at hx
   simp only at hx
   have hpi:=(List.getElem?_eq_some_iff.1 hd).1
   obtain⟨b',off,cs,rfl,hRb,hcs,hle,hL⟩:=LaidRE.get h.lay hd
   rw[Nat.zero_add] at hle hL
   obtain⟨fz,ver,hg2⟩:=h.cd
   have c2:=Au hg2
   have l4:((cs.drop (off+path[i]*4)).take 4).length=4:=by rw[List.length_take,List.length_drop];omega
   have hL':=hL
   obtain⟨k',z',t',ds'⟩:=d
   obtain⟨q',c',hv4,hE'⟩:=hL
   have hv4':(cs.drop (off+path[i]*4)).take 4=[.int .i64 k',.int .i64 z',.string t',.slice q' ds'.length c']:=by
    have:=Value.agg.inj hv4
    simpa using congrArg Array.toList this
   have hfew:ds.length<100000:=by have:=Ep ds;rw[D.count] at hN;omega
   have e0:decide ((0:Int)≤Int.ofNat path[i])=true:=by simp
   have e1:decide (Int.ofNat path[i]≤Int.ofNat (ds.length-1))=true:=by simp;omega
   have w4:=Auj ds.length (by omega) (by omega)
   have hb2:=h.wf.cells c2
   rw[Am,Bk]
   unfold Aak
   simp -implicitDefEqProofs only[go_sem,Aw,U2,RX,Alo,XP,Alp,XQ,Aln,XO,h.f1,h.f2,h.f6,d1,hi,hv,hc,c2,g1,hg2,AL,w3,w4,e0,e1,hpi,hcs,hle,hv4']
   have hC:Chg (· = b2) σ (σ.put b2 (.cells [.int .i64 k',.int .i64 z',.string t',.slice q' ds'.length c'] TD) fz):=(Chg.refl (· = b2) σ).put _ _ _ (.inr rfl)
   obtain⟨f',g',σ',k1,z1,t1,q1,c1,ds1,e2,h2,h3,h4⟩:=ih fuel (i+1) (upd f 6 (.int .i64 (.ofNat (i+1)))) _ (σ.put b2 (.cells [.int .i64 k',.int .i64 z',.string t',.slice q' ds'.length c'] TD) fz) k' z' t' q' c' ds' (by omega) (by omega) hx (by have:=FU (List.mem_of_getElem? hd);rw[D.count] at hN;omega) (fun hne=>⟨b,rest,rfl,hb,by rw[Ar,if_neg hb];exact hc⟩) {
    f1:=by simp -implicitDefEqProofs only[go_sem,reduceCtorEq,h.f1]
    f2:=by simp -implicitDefEqProofs only[go_sem,reduceCtorEq,h.f2]
    f4:=by simp -implicitDefEqProofs only[go_sem,reduceCtorEq,h.f4]
    f6:=by simp -implicitDefEqProofs only[go_sem,reduceCtorEq]
    cd:=⟨fz,_,by rw[An,if_pos rfl]⟩
    lay:=hE'.keep fun b cs hb hc=>⟨by rw[Ar,if_neg (hR b hb)];exact hc,hb⟩
    wf:=h.wf.put _ _ _ hb2 }
   exact⟨f',g',σ',k1,z1,t1,q1,c1,ds1,e2,h2,h3,hC.trans h4 fun _ _ h=>h⟩
theorem ApF(m:Nat){d x:D}{path:List Nat}{lv:List Value}{pv:Value}{R Q:Nat→Prop}{σ:FState}(hw:Wf σ)(hL:LaidR R σ (.agg lv.toArray) d)(hP:PathV Q σ pv path)(hs:path.length<100000)(hN:d.count<100000)(hx:atP path d=some x):
  Gives ((env (m+2)).call 41 [.agg lv.toArray,pv] none σ) σ fun w σ'=>∃u,w=.tuple #[u,.bool true]∧LaidR (fun b=>R b∧b<σ.next) σ' u x:=by
 obtain⟨a,cx,rfl,k1⟩:=Eb hP
 obtain⟨k,z,t,ds⟩:=d
 obtain⟨q,c,hv,hE⟩:=hL
 have hlv:lv=[.int .i64 k,.int .i64 z,.string t,.slice q ds.length c]:=by
  have:=Value.agg.inj hv
  simpa using congrArg Array.toList this
 subst hlv
 rw[Ag _ 41 _ _ rfl,AoR _ _ _ _ (by simp),Af]
 unfold Am9
 have x1:Ext σ ((σ.push (.cells [.int .i64 k,.int .i64 z,.string t,.slice q ds.length c] TD) none).push (.cells [.int .i64 0,.int .i64 0,.string ⟨#[]⟩,.slice none 0 0] TD) none):=((Ext.refl _).push _ _).push _ _
 have hw1:=(hw.push (.cells [.int .i64 k,.int .i64 z,.string t,.slice q ds.length c] TD) none).push (.cells [.int .i64 0,.int .i64 0,.string ⟨#[]⟩,.slice none 0 0] TD) none
 have c1:((σ.push (.cells [.int .i64 k,.int .i64 z,.string t,.slice q ds.length c] TD) none).push (.cells [.int .i64 0,.int .i64 0,.string ⟨#[]⟩,.slice none 0 0] TD) none).heap.get σ.next=some ⟨.cells [.int .i64 k,.int .i64 z,.string t,.slice q ds.length c] TD,false,none,σ.clock⟩:=by rw[Ak,if_neg (by rw[Aa];omega),Ak,if_pos rfl]
 have g4:((σ.push (.cells [.int .i64 k,.int .i64 z,.string t,.slice q ds.length c] TD) none).push (.cells [.int .i64 0,.int .i64 0,.string ⟨#[]⟩,.slice none 0 0] TD) none).heap.get (σ.next+1)=some ⟨.cells [.int .i64 0,.int .i64 0,.string ⟨#[]⟩,.slice none 0 0] TD,false,none,σ.clock+1⟩:=by rw[Ak,if_pos (by rw[Aa])];rfl
 simp -implicitDefEqProofs only[go_sem,All,XM,Alm,XN,Af9]
 generalize hff:upd _ 6 _=f1
 generalize hbf:bigFuel=fuel
 generalize FState.push (FState.push σ _ _) _ _=σ1 at x1 hw1 c1 g4 ⊢
 obtain⟨f2,g2,σ2,k2,z2,t2,q2,c2,ds2,e2,h2,rfl,h4⟩:=AcB m (b2:=σ.next) (b4:=σ.next+1) (R:=fun b=>R b∧b<σ.next) (path:=path) (cx:=cx) (a:=a) hs (fun b hb=>by omega) x path.length fuel 0 f1 (fun _=>undef) σ1 k z t q c ds (by omega) (by rw[←hbf];show path.length<1000000000000;omega) hx hN (fun hne=>by
   obtain⟨b,rest,h1,_,h3⟩:=k1 hne
   have:=hw.cells h3
   exact⟨b,rest,h1,by omega,(x1.cells this).trans h3⟩) {
  f1:=by rw[←hff];simp -implicitDefEqProofs only[go_sem,reduceCtorEq]
  f2:=by rw[←hff];simp -implicitDefEqProofs only[go_sem,reduceCtorEq]
  f4:=by rw[←hff];simp -implicitDefEqProofs only[go_sem,reduceCtorEq]
  f6:=by rw[←hff];simp -implicitDefEqProofs only[go_sem,reduceCtorEq]<;>rfl
  cd:=⟨_,_,c1⟩
  lay:=hE.keep fun b c hb hc=>⟨(x1.cells (hw.cells hc)).trans hc,hb,hw.cells hc⟩
  wf:=hw1 }
 have n1:=x1.next
 have hn1:σ.next+1<σ1.next:=(hw1 _ _ g4).1
 have g4':σ2.heap.get (σ.next+1)=_:=(h4.get (σ.next+1) hn1 (by omega)).trans g4
 obtain⟨fz,ver,hg2⟩:=h2.cd
 have cc:=Au hg2
 rw[e2]
 simp -implicitDefEqProofs only[go_sem,Aw,Alq,XR,h2.f2,h2.f4,cc,g4',AX,AJ,AI,BU,Bt,Cf]
 have x2:Ext σ σ2:=⟨by have:=h4.next;omega,by have:=x1.clock;have:=h4.clock;omega,fun b hb=>(h4.get b (by omega) (by omega)).trans (x1.get b hb)⟩
 exact⟨_,_,rfl,x2.put _ _ _ (by omega),h2.wf.put _ _ _ (by have:=h4.next;omega),_,rfl,q2,c2,rfl,h2.lay.keep fun b c hb hc=>⟨by rw[Ar,if_neg (by omega)];exact hc,hb⟩⟩
end Go.Proofs.YtokieofohmgjdaaGreatDoor
namespace Go.Eng
open Go
end Go.Eng
namespace Go.Proofs.YtokieofohmgjdaaGreatDoor
open Go Go.Eng
variable (E:Env) (ro:Option Nat) (last:List Nat→RunF) (cl:List Nat) (a:FAct) (u:Option FrameMode) (σ:FState)
noncomputable def AnN:Code:=((rangesOf (Tryz.f113.body.getD .skip)).getD 0 (.skip,.skip)).1
noncomputable def AnO:Code:=((rangesOf (Tryz.f113.body.getD .skip)).getD 0 (.skip,.skip)).2
def Kh(_:Unit):List COp:=[⟨fun a σ=>.val (.slice none 0 0) σ,some 2,fun _=>some true⟩]
def AhW:List COp:=Kh ()
def Ki(_:Unit):List COp:=[⟨fun a σ=>.val (a.get 0) σ,some 3,fun _=>some true⟩,
 ⟨fun a σ=>i_eql Tryz.prog 25 (.tmp 3) (.const (.slice none 0 0)) (a.get 3) (.slice none 0 0) σ,some 4,fun _=>some true⟩]
def AhX:List COp:=Ki ()
def Qx(_:Unit):List COp:=[⟨fun a σ=>.val (.slice none 0 0) σ,some 2,fun _=>some true⟩]
def AhY:List COp:=Qx ()
def Qy(_:Unit):List COp:=[⟨fun a σ=>fbuildSlice 3 0 1 [(.int .i64 0)] [] σ,some 5,fun _=>some true⟩,
 ⟨fun a σ=>.val (a.get 0) σ,some 6,fun _=>some true⟩,
 ⟨fun a σ=>fappend 3 1 8 (a.get 5) (a.get 6) σ,some 7,fun _=>some true⟩,
 ⟨fun a σ=>.val (a.get 7) σ,some 2,fun _=>some true⟩]
def AhZ:List COp:=Qy ()
def Zq(E:Env)(ro:Option Nat)(fn:FuncId):RunF:=(seqR (fops E ro AhW) (seqR (seqR (fops E ro AhX) (condR (fun a=>(a.get 4)) (seqR (fops E ro AhY) retR) skipR)) (seqR (fops E ro AhZ) retR)))
theorem OA:fops E ro AhW a u σ=fops E ro (Kh ()) a u σ:=rfl
theorem OB:fops E ro AhX a u σ=fops E ro (Ki ()) a u σ:=rfl
theorem Ac6:fops E ro AhY a u σ=fops E ro (Qx ()) a u σ:=rfl
theorem Ac7:fops E ro AhZ a u σ=fops E ro (Qy ()) a u σ:=rfl
theorem An8(E:Env)(ro:Option Nat)(fn:FuncId):code Tryz.prog nls (Tryz.f135.body.getD .skip) E ro fn=Zq E ro fn:=by kernel_rfl
theorem Afs(E:Env)(args:List Value)(u:Option FrameMode)(σ:FState)(hn:args.length≤(2:Nat)):fcall Tryz.prog nls E 135 args u σ=leaveR Tryz.prog E [.tmp 2] (Zq E none 135 ⟨padTo undef 2 args,fun _=>undef,2,8,[]⟩ u σ):=by
 rw[Al (body:=Tryz.f135.body.getD .skip) Tryz.func135 rfl E args u σ 2 8 (by kernel_rfl) rfl ⟨hn,by decide⟩,An8]
 rfl
def P8(_:Unit):List COp:=[⟨fun a σ=>newCells [(.int .i64 0),(.int .i64 0),(.string ⟨#[]⟩),(.slice none 0 0)] 24 none σ,some 2,fun _=>some true⟩]
def AgD:List COp:=P8 ()
def P9(_:Unit):List COp:=[⟨fun a σ=>fload (some 4) (a.get 0) σ,some 3,fun _=>some true⟩,
 ⟨fun a σ=>.enter 71 [(a.get 3)] σ,some 4,fun _=>some true⟩]
def AgE:List COp:=P9 ()
def P_(_:Unit):List COp:=[⟨fun a σ=>fload none (a.get 1) σ,some 5,fun _=>some true⟩,
 ⟨fun a σ=>.enter 109 [(a.get 0),(a.get 5)] σ,some 6,fun _=>some true⟩,
 ⟨fun a σ=>fnilCheck (a.get 6) σ,some 7,fun _=>some true⟩,
 ⟨fun a σ=>fload (some 4) (a.get 7) σ,some 8,fun _=>some true⟩,
 ⟨fun a σ=>.enter 104 [(a.get 8)] σ,some 9,fun _=>some true⟩,
 ⟨fun a σ=>fstore 4 (a.get 2) (a.get 9) σ,none,fun _=>some true⟩]
def AgF:List COp:=P_ ()
def Zj(E:Env)(ro:Option Nat)(fn:FuncId):RunF:=(seqR (fops E ro AgD) (seqR (fops E ro AgE) (seqR (fops E ro AgF) retR)))
theorem AcH:fops E ro AgD a u σ=fops E ro (P8 ()) a u σ:=rfl
theorem AcI:fops E ro AgE a u σ=fops E ro (P9 ()) a u σ:=rfl
theorem AcJ:fops E ro AgF a u σ=fops E ro (P_ ()) a u σ:=rfl
theorem AnW(E:Env)(ro:Option Nat)(fn:FuncId):code Tryz.prog nls (Tryz.f108.body.getD .skip) E ro fn=Zj E ro fn:=by kernel_rfl
theorem Afl(E:Env)(args:List Value)(u:Option FrameMode)(σ:FState)(hn:args.length≤(2:Nat)):fcall Tryz.prog nls E 108 args u σ=leaveR Tryz.prog E [.cell 2 24] (Zj E none 108 ⟨padTo undef 2 args,fun _=>undef,2,10,[]⟩ u σ):=by
 rw[Al (body:=Tryz.f108.body.getD .skip) Tryz.func108 rfl E args u σ 2 10 (by kernel_rfl) rfl ⟨hn,by decide⟩,AnW]
 rfl
def Qa(_:Unit):List COp:=[⟨fun a σ=>.val (.pointer none) σ,some 4,fun _=>some true⟩]
def AgG:List COp:=Qa ()
def Qb(_:Unit):List COp:=[⟨fun a σ=>.val (a.get 1) σ,some 7,fun _=>some true⟩,
 ⟨fun a σ=>flenL (a.get 7) σ,some 8,fun _=>some true⟩,
 ⟨fun a σ=>.val (.int .i64 0) σ,some 9,fun _=>some true⟩]
def AgH:List COp:=Qb ()
def J4(_:Unit):List COp:=[⟨fun a σ=>i_lss Tryz.prog 3 (.tmp 9) (.tmp 8) (a.get 9) (a.get 8) σ,some 10,fun _=>some true⟩]
def AgI:List COp:=J4 ()
def Qc(_:Unit):List COp:=[⟨fun a σ=>findex (none,1) (a.get 7) (a.get 9) σ,some 11,fun _=>some true⟩,
 ⟨fun a σ=>fload none (a.get 11) σ,some 12,fun _=>some true⟩,
 ⟨fun a σ=>.val (a.get 12) σ,some 6,fun _=>some true⟩]
def AgJ:List COp:=Qc ()
def Qd(_:Unit):List COp:=[⟨fun a σ=>.val (a.get 6) σ,some 13,fun _=>some true⟩,
 ⟨fun a σ=>i_lss Tryz.prog 3 (.tmp 13) (.const (.int .i64 0)) (a.get 13) (.int .i64 0) σ,some 14,fun _=>some true⟩,
 ⟨fun a σ=>.val (a.get 14) σ,some 15,fun _=>some true⟩,
 ⟨fun a σ=>.val (a.get 6) σ,some 16,fun a=>gd (a.get 15) false⟩,
 ⟨fun a σ=>.val (a.get 0) σ,some 17,fun a=>gd (a.get 15) false⟩,
 ⟨fun a σ=>fnilCheck (a.get 17) σ,some 18,fun a=>gd (a.get 15) false⟩,
 ⟨fun a σ=>ffield 3 (a.get 18) σ,some 19,fun a=>gd (a.get 15) false⟩,
 ⟨fun a σ=>fload none (a.get 19) σ,some 20,fun a=>gd (a.get 15) false⟩,
 ⟨fun a σ=>flenL (a.get 20) σ,some 21,fun a=>gd (a.get 15) false⟩,
 ⟨fun a σ=>i_geq Tryz.prog 3 (.tmp 16) (.tmp 21) (a.get 16) (a.get 21) σ,some 22,fun a=>gd (a.get 15) false⟩,
 ⟨fun a σ=>fpick (a.get 15) (.bool true) (a.get 22) σ,some 23,fun _=>some true⟩]
def AgK:List COp:=Qd ()
def ApJ(_:Unit):List COp:=[⟨fun a σ=>.enter 136 [(.int .i64 9)] σ,some 24,fun _=>some true⟩]
def Avt:List COp:=ApJ ()
def Qe(_:Unit):List COp:=[⟨fun a σ=>.val (a.get 0) σ,some 25,fun _=>some true⟩,
 ⟨fun a σ=>fnilCheck (a.get 25) σ,some 26,fun _=>some true⟩,
 ⟨fun a σ=>ffield 3 (a.get 26) σ,some 27,fun _=>some true⟩,
 ⟨fun a σ=>fload none (a.get 27) σ,some 28,fun _=>some true⟩,
 ⟨fun a σ=>.val (a.get 6) σ,some 29,fun _=>some true⟩,
 ⟨fun a σ=>findex (none,4) (a.get 28) (a.get 29) σ,some 30,fun _=>some true⟩,
 ⟨fun a σ=>.val (a.get 30) σ,some 0,fun _=>some true⟩]
def AgL:List COp:=Qe ()
def Qf(_:Unit):List COp:=[⟨fun a σ=>i_add Tryz.prog 3 (.tmp 9) (.const (.int .i64 1)) (a.get 9) (.int .i64 1) σ,some 31,fun _=>some true⟩,
 ⟨fun a σ=>.val (a.get 31) σ,some 9,fun _=>some true⟩]
def AgM:List COp:=Qf ()
def PL(E:Env)(ro:Option Nat)(fn:FuncId):RunF:=(seqR (fops E ro AgI) (seqR (condR (fun a=>(a.get 10)) skipR (exitR 0)) (seqR (blockR 1 (seqR (fops E ro AgJ) (seqR (seqR (fops E ro AgK) (condR (fun a=>(a.get 23)) (fops E ro Avt) skipR)) (fops E ro AgL)))) (fops E ro AgM))))
def Qg(_:Unit):List COp:=[⟨fun a σ=>.val (a.get 0) σ,some 32,fun _=>some true⟩,
 ⟨fun a σ=>.val (a.get 32) σ,some 4,fun _=>some true⟩]
def AgN:List COp:=Qg ()
def Zk(E:Env)(ro:Option Nat)(fn:FuncId):RunF:=(seqR (fops E ro AgG) (seqR (seqR (fops E ro AgH) (blockR 0 (loopR (keepOf nls fn) (PL E ro fn)))) (seqR (fops E ro AgN) retR)))
theorem AcK:fops E ro AgG a u σ=fops E ro (Qa ()) a u σ:=rfl
theorem AcL:fops E ro AgH a u σ=fops E ro (Qb ()) a u σ:=rfl
theorem Oh:fops E ro AgI a u σ=fops E ro (J4 ()) a u σ:=rfl
theorem AcM:fops E ro AgJ a u σ=fops E ro (Qc ()) a u σ:=rfl
theorem AcN:fops E ro AgK a u σ=fops E ro (Qd ()) a u σ:=rfl
theorem AcO:fops E ro AgL a u σ=fops E ro (Qe ()) a u σ:=rfl
theorem AcP:fops E ro AgM a u σ=fops E ro (Qf ()) a u σ:=rfl
theorem AcQ:fops E ro AgN a u σ=fops E ro (Qg ()) a u σ:=rfl
theorem AnX(E:Env)(ro:Option Nat)(fn:FuncId):code Tryz.prog nls (Tryz.f109.body.getD .skip) E ro fn=Zk E ro fn:=by kernel_rfl
theorem Afm(E:Env)(args:List Value)(u:Option FrameMode)(σ:FState)(hn:args.length≤(7:Nat)):fcall Tryz.prog nls E 109 args u σ=leaveR Tryz.prog E [.tmp 4] (Zk E none 109 ⟨padTo undef 7 args,fun _=>undef,7,33,[]⟩ u σ):=by
 rw[Al (body:=Tryz.f109.body.getD .skip) Tryz.func109 rfl E args u σ 7 33 (by kernel_rfl) rfl ⟨hn,by decide⟩,AnX]
 rfl
def P6(_:Unit):List COp:=[⟨fun a σ=>fbox 24 (a.get 0) σ,some 1,fun _=>some true⟩,
 ⟨fun a σ=>newCells [(.int .i64 0),(.int .i64 0),(.string ⟨#[]⟩),(.slice none 0 0)] 24 none σ,some 2,fun _=>some true⟩]
def Agz:List COp:=P6 ()
def P7(_:Unit):List DOp:=[⟨fun a σ=>ffield 3 (a.get 1) σ,some 9,fun _=>some true,some 0,false⟩,
 ⟨fun a σ=>fload none (a.get 9) σ,some 10,fun _=>some true,some 0,false⟩,
 ⟨fun a σ=>.enter 139 [(a.get 10),(.func (.func 104) #[] #[])] σ,some 11,fun _=>some true,none,false⟩,
 ⟨fun a σ=>ffield 0 (a.get 1) σ,some 3,fun _=>some true,some 0,false⟩,
 ⟨fun a σ=>fload none (a.get 3) σ,some 4,fun _=>some true,some 0,false⟩,
 ⟨fun a σ=>ffield 1 (a.get 1) σ,some 5,fun _=>some true,some 0,false⟩,
 ⟨fun a σ=>fload none (a.get 5) σ,some 6,fun _=>some true,some 0,false⟩,
 ⟨fun a σ=>ffield 2 (a.get 1) σ,some 7,fun _=>some true,some 0,false⟩,
 ⟨fun a σ=>fload none (a.get 7) σ,some 8,fun _=>some true,some 0,false⟩,
 ⟨fun a σ=>fbuild (fun i=>nth [(0,1),(1,1),(2,1),(3,1)] i) [(.int .i64 0),(.int .i64 0),(.string ⟨#[]⟩),(.slice none 0 0)] [(0,(a.get 4)),(1,(a.get 6)),(2,(a.get 8)),(3,(a.get 11))] σ,some 12,fun _=>some true,some 1,false⟩,
 ⟨fun a σ=>fstore 4 (a.get 2) (a.get 12) σ,none,fun _=>some true,none,true⟩]
def AgA:List DOp:=P7 ()
def Zh(E:Env)(ro:Option Nat)(fn:FuncId):RunF:=(seqR (fops E ro Agz) (seqR (drawR E ro AgA) retR))
theorem AcF:fops E ro Agz a u σ=fops E ro (P6 ()) a u σ:=rfl
theorem AcG:fdraw E ro last AgA cl a u σ=fdraw E ro last (P7 ()) cl a u σ:=rfl
theorem AnU(E:Env)(ro:Option Nat)(fn:FuncId):code Tryz.prog nls (Tryz.f104.body.getD .skip) E ro fn=Zh E ro fn:=by kernel_rfl
theorem Afj(E:Env)(args:List Value)(u:Option FrameMode)(σ:FState)(hn:args.length≤(2:Nat)):fcall Tryz.prog nls E 104 args u σ=leaveR Tryz.prog E [.cell 2 24] (Zh E none 104 ⟨padTo undef 2 args,fun _=>undef,2,13,[]⟩ u σ):=by
 rw[Al (body:=Tryz.f104.body.getD .skip) Tryz.func104 rfl E args u σ 2 13 (by kernel_rfl) rfl ⟨hn,by decide⟩,AnU]
 rfl
def Kj(_:Unit):List COp:=[⟨fun a σ=>.val (.slice none 0 0) σ,some 4,fun _=>some true⟩]
def Ah3:List COp:=Kj ()
def Kk(_:Unit):List COp:=[⟨fun a σ=>.val (a.get 0) σ,some 7,fun _=>some true⟩,
 ⟨fun a σ=>flenL (a.get 7) σ,some 8,fun _=>some true⟩,
 ⟨fun a σ=>i_eql Tryz.prog 3 (.tmp 8) (.const (.int .i64 0)) (a.get 8) (.int .i64 0) σ,some 9,fun _=>some true⟩]
def Ah4:List COp:=Kk ()
def QC(_:Unit):List COp:=[⟨fun a σ=>.val (.slice none 0 0) σ,some 4,fun _=>some true⟩]
def Ah5:List COp:=QC ()
def QD(_:Unit):List COp:=[⟨fun a σ=>.val (a.get 0) σ,some 10,fun _=>some true⟩,
 ⟨fun a σ=>flenL (a.get 10) σ,some 11,fun _=>some true⟩,
 ⟨fun a σ=>fmakeSlice 24 56 [(.int .i64 0),(.int .i64 0),(.string ⟨#[]⟩),(.slice none 0 0)] (a.get 11) (a.get 11) σ,some 12,fun _=>some true⟩,
 ⟨fun a σ=>.val (a.get 12) σ,some 5,fun _=>some true⟩]
def Ah6:List COp:=QD ()
def QE(_:Unit):List COp:=[⟨fun a σ=>.val (a.get 0) σ,some 13,fun _=>some true⟩,
 ⟨fun a σ=>flenL (a.get 13) σ,some 14,fun _=>some true⟩,
 ⟨fun a σ=>.val (.int .i64 0) σ,some 15,fun _=>some true⟩]
def Ah7:List COp:=QE ()
def Kl(_:Unit):List COp:=[⟨fun a σ=>i_lss Tryz.prog 3 (.tmp 15) (.tmp 14) (a.get 15) (a.get 14) σ,some 16,fun _=>some true⟩]
def Ah8:List COp:=Kl ()
def QF(_:Unit):List COp:=[⟨fun a σ=>.val (a.get 15) σ,some 17,fun _=>some true⟩,
 ⟨fun a σ=>.val (a.get 17) σ,some 6,fun _=>some true⟩]
def Ah9:List COp:=QF ()
def QG(_:Unit):List COp:=[⟨fun a σ=>.val (a.get 5) σ,some 18,fun _=>some true⟩,
 ⟨fun a σ=>.val (a.get 6) σ,some 19,fun _=>some true⟩,
 ⟨fun a σ=>.val (a.get 1) σ,some 20,fun _=>some true⟩,
 ⟨fun a σ=>.val (a.get 0) σ,some 21,fun _=>some true⟩,
 ⟨fun a σ=>.val (a.get 6) σ,some 22,fun _=>some true⟩,
 ⟨fun a σ=>findex (none,4) (a.get 21) (a.get 22) σ,some 23,fun _=>some true⟩,
 ⟨fun a σ=>fload (some 4) (a.get 23) σ,some 24,fun _=>some true⟩,
 ⟨fun a σ=>fcallV (a.get 20) [(a.get 24)] σ,some 25,fun _=>some true⟩,
 ⟨fun a σ=>findex (none,4) (a.get 18) (a.get 19) σ,some 26,fun _=>some true⟩,
 ⟨fun a σ=>fstore 4 (a.get 26) (a.get 25) σ,none,fun _=>some true⟩]
def Aia:List COp:=QG ()
def QH(_:Unit):List COp:=[⟨fun a σ=>i_add Tryz.prog 3 (.tmp 15) (.const (.int .i64 1)) (a.get 15) (.int .i64 1) σ,some 27,fun _=>some true⟩,
 ⟨fun a σ=>.val (a.get 27) σ,some 15,fun _=>some true⟩]
def Aib:List COp:=QH ()
def PM(E:Env)(ro:Option Nat)(fn:FuncId):RunF:=(seqR (fops E ro Ah8) (seqR (condR (fun a=>(a.get 16)) skipR (exitR 0)) (seqR (blockR 1 (seqR (fops E ro Ah9) (fops E ro Aia))) (fops E ro Aib))))
def QI(_:Unit):List COp:=[⟨fun a σ=>.val (a.get 5) σ,some 28,fun _=>some true⟩,
 ⟨fun a σ=>.val (a.get 28) σ,some 4,fun _=>some true⟩]
def Aic:List COp:=QI ()
def Zt(E:Env)(ro:Option Nat)(fn:FuncId):RunF:=(seqR (fops E ro Ah3) (seqR (seqR (fops E ro Ah4) (condR (fun a=>(a.get 9)) (seqR (fops E ro Ah5) retR) skipR)) (seqR (fops E ro Ah6) (seqR (seqR (fops E ro Ah7) (blockR 0 (loopR (keepOf nls fn) (PM E ro fn)))) (seqR (fops E ro Aic) retR)))))
theorem OC:fops E ro Ah3 a u σ=fops E ro (Kj ()) a u σ:=rfl
theorem OD:fops E ro Ah4 a u σ=fops E ro (Kk ()) a u σ:=rfl
theorem Adb:fops E ro Ah5 a u σ=fops E ro (QC ()) a u σ:=rfl
theorem Adc:fops E ro Ah6 a u σ=fops E ro (QD ()) a u σ:=rfl
theorem Add:fops E ro Ah7 a u σ=fops E ro (QE ()) a u σ:=rfl
theorem OE:fops E ro Ah8 a u σ=fops E ro (Kl ()) a u σ:=rfl
theorem Ade:fops E ro Ah9 a u σ=fops E ro (QF ()) a u σ:=rfl
theorem Adf:fops E ro Aia a u σ=fops E ro (QG ()) a u σ:=rfl
theorem Adg:fops E ro Aib a u σ=fops E ro (QH ()) a u σ:=rfl
theorem Adh:fops E ro Aic a u σ=fops E ro (QI ()) a u σ:=rfl
theorem Aob(E:Env)(ro:Option Nat)(fn:FuncId):code Tryz.prog nls (Tryz.f139.body.getD .skip) E ro fn=Zt E ro fn:=by kernel_rfl
theorem Afv(E:Env)(args:List Value)(u:Option FrameMode)(σ:FState)(hn:args.length≤(7:Nat)):fcall Tryz.prog nls E 139 args u σ=leaveR Tryz.prog E [.tmp 4] (Zt E none 139 ⟨padTo undef 7 args,fun _=>undef,7,29,[]⟩ u σ):=by
 rw[Al (body:=Tryz.f139.body.getD .skip) Tryz.func139 rfl E args u σ 7 29 (by kernel_rfl) rfl ⟨hn,by decide⟩,Aob]
 rfl
end Go.Proofs.YtokieofohmgjdaaGreatDoor
namespace Go.Proofs.YtokieofohmgjdaaGreatDoor
open Go Go.Eng
attribute [local congr] Ac Aj Ai Ad Ah
attribute [-go_sem] List.range_succ
end Go.Proofs.YtokieofohmgjdaaGreatDoor
namespace Go.Proofs.YtokieofohmgjdaaGreatDoor
open Go Go.Eng
attribute [local congr] Ac Aj Ai Ad Ah
attribute [-go_sem] List.range_succ
structure HeadEf (p p':Option Addr) (len c c':Nat) (k:Nat) (f g:Nat→Value):Prop where
 f1:f 1=.slice p' len c'
 f2:f 2=.func (.func 144) #[] #[]
 g15:g 15=.slice p len c
 g16:g 16=.int .i64 (.ofNat len)
 g17:g 17=.int .i64 (.ofNat k)
end Go.Proofs.YtokieofohmgjdaaGreatDoor
namespace Go.Proofs.YtokieofohmgjdaaGreatDoor
open Go Go.Eng
attribute [local congr] Ac
end Go.Proofs.YtokieofohmgjdaaGreatDoor
namespace Go.Proofs.YtokieofohmgjdaaGreatDoor
open Go Go.Eng
attribute [local congr] Ac
structure HeadEqC (a:FAct) (s s':Value) (k:Nat):Prop where
 ok:a.ok
 nt:a.nt=27
 nl:a.nl=6
 ds:a.defers=[]
 g0:a.get 0=s
 g1:a.get 1=s'
 g5:a.get 5=.int .i64 (.ofNat k)
end Go.Proofs.YtokieofohmgjdaaGreatDoor
namespace Go.Eng
open Go
def Vecs(T:TypeId)(Q:Nat→Prop)(σ:FState)(s:Value)(vs:List Value):Prop:=(s=.slice none 0 0∧vs=[])∨∃b,Ful T σ b s vs∧Q b
section
variable {T:TypeId} {Q Q':Nat→Prop} {σ σ':FState} {s:Value} {vs:List Value}
theorem Vecs.one(h:Vecs T Q σ s vs):oneCell s=true∧notTuple s=true∧valCells s=[s]:=by
 rcases h with⟨rfl,_⟩|⟨b,h,_⟩
 ·exact⟨B6 _ _ _,CG _ _ _,rfl⟩
 ·exact h.one
theorem Vecs.keep(h:Vecs T Q σ s vs)(hk:∀b,Q b→b<σ.next→σ'.heap.get b=σ.heap.get b∧Q' b)(hw:Wf σ):Vecs T Q' σ' s vs:=by
 rcases h with h|⟨b,h,hq⟩
 ·exact .inl h
 ·exact .inr ⟨b,h.keep (hk b hq (h.lt hw)).1,(hk b hq (h.lt hw)).2⟩
theorem Vecs.append(h:Vecs T Q σ s vs)(hw:Wf σ)(bx cx:Nat)(v:Value)(bytes:Nat)(hx:σ.cells bx=some [v])(ho:oneCell v=true)(hby:bytes<1000)(hlen:vs.length+1<100000):
  ∃b' s' τ,fappend T 1 bytes s (.slice (some ⟨bx,0,none⟩) 1 cx) σ=.val s' τ∧Ful T τ b' s' (vs++[v])∧(Q b'∨b'=σ.next)∧Chg Q σ τ∧Wf τ:=by
 rcases h with⟨rfl,rfl⟩|⟨b,h,hq⟩
 ·refine⟨σ.next,.slice (some ⟨σ.next,0,none⟩) 1 1,σ.push (.cells [v] T) (some 1),?_,⟨some 1,σ.clock,rfl,by rw[Ak,if_pos rfl];rfl,.inr rfl⟩,.inr rfl,(Chg.refl _ _).push _ _,hw.push _ _⟩
  have hn:=Et bx 1 cx [v] [] hx rfl
  unfold fappend
  simp only[hn]
  rw[show [v].all oneCell=true by simp[ho]]
  show fappend2 T 1 bytes 0 0 none 1 [v] σ=_
  unfold fappend2
  rw[show Nat.ble (0+1) 0=false from rfl,show Nat.ble ((0+1)*(bytes+1)) 1000000000=true by rw[Nat.ble_eq];omega]
  rfl
 ·obtain⟨b',s',τ,e,F,hb',hC,hw'⟩:=h.append hw (.slice (some ⟨bx,0,none⟩) 1 cx) [v] bytes (Et bx 1 cx [v] [] hx rfl) (by simp[ho]) hby (by simpa using hlen)
  refine⟨b',s',τ,e,F,?_,hC.weaken fun x _ hx=>hx ▸ hq,hw'⟩
  rcases hb' with rfl|rfl
  ·exact .inl hq
  ·exact .inr rfl
end
end Go.Eng
namespace Go.Proofs.YtokieofohmgjdaaGreatDoor
open Go Go.Eng
attribute [local congr] Ac Aj Ai Ad Ah
attribute [-go_sem] List.range_succ
theorem PathAt.pathV{σ:FState}{v:Value}{path:List Nat}(h:PathAt σ v path):PathV (fun _=>True) σ v path:=by
 obtain⟨p,c,rfl,⟨rfl,rfl,rfl⟩|⟨b,more,rfl,hc⟩⟩:=h
 ·exact .inl ⟨rfl,rfl⟩
 ·exact .inr ⟨b,c,more,rfl,trivial,hc⟩
theorem AfQ(x:Nat)(l c:Nat)(σ:FState):i_eql Tryz.prog 25 (.tmp x) (.const (.slice none 0 0)) (.slice none l c) (.slice none 0 0) σ=.val (.bool true) σ:=by kernel_rfl
theorem AbY(x:Nat)(a:Addr)(l c:Nat)(σ:FState):i_eql Tryz.prog 25 (.tmp x) (.const (.slice none 0 0)) (.slice (some a) l c) (.slice none 0 0) σ=.val (.bool false) σ:=by kernel_rfl
theorem Aff(n:Nat){Q:Nat→Prop}{v:Value}{path:List Nat}(σ:FState)(hw:Wf σ)(h:PathV Q σ v path)(hl:path.length<99999):
  Gives ((env (n+1)).call 135 [v] none σ) σ fun w σ'=>PathV (fun b=>σ.next≤b) σ' w path:=by
 rw[Ag _ 135 _ _ rfl,Afs _ _ _ _ (by simp),Af]
 unfold Zq
 have h0:=h
 rcases h with⟨rfl,rfl⟩|⟨b,cx,rest,rfl,hQ,hc⟩
 ·simp -implicitDefEqProofs only[go_sem,OA,Kh,OB,Ki,Ac6,Qx,AfQ]
  exact⟨_,_,rfl,Ext.refl _,hw,.inl ⟨rfl,rfl⟩⟩
 ·have F1:Ful TI (σ.push (.cells [] TI) none) σ.next (.slice (some ⟨σ.next,0,none⟩) 0 0) []:=Ful.push TI σ []
  have hb:=hw.cells hc
  have hw1:=hw.push (.cells [] TI) none
  have a1:PathV Q (σ.push (.cells [] TI) none) (.slice (some ⟨b,0,none⟩) path.length cx) path:=.inr ⟨b,cx,rest,rfl,hQ,by rw[Ab,if_neg (by omega)];exact hc⟩
  obtain⟨b2,s2,σ2,e2,F2,hb2,ch2,hw2⟩:=F1.append hw1 (.slice (some ⟨b,0,none⟩) path.length cx) (intsOf path) 8 a1.fnew (EV _) (by omega) (by simp[BN];omega)
  simp -implicitDefEqProofs only[go_sem,OA,Kh,OB,Ki,Ac7,Qy,AbY,e2]
  have n2:=ch2.next
  have k2:=ch2.clock
  rw[Aa] at n2
  rw[CU] at k2
  rw[List.nil_append] at F2
  obtain⟨g1,g2⟩:=F2.cells
  rw[BN] at g1
  refine⟨_,_,rfl,⟨by omega,by omega,fun x hx=>?_⟩,hw2,.inr ⟨b2,_,[],g1,?_,by rw[List.append_nil];exact g2⟩⟩
  ·rw[ch2.get x (by rw[Aa];omega) (by omega),Ak,if_neg (by omega)]
  ·rcases hb2 with rfl|rfl
   ·exact Nat.le_refl _
   ·rw[Aa];omega
end Go.Proofs.YtokieofohmgjdaaGreatDoor
namespace Go.Proofs.YtokieofohmgjdaaGreatDoor
open Go Go.Eng
attribute [local congr] Ac Aj Ai Ad Ah
attribute [-go_sem] List.range_succ
def foundIn(x:D)(l:List (List Nat×D)):List (List Nat):=(l.filter fun y=>D.same y.2 x).map (·.1)
def Paths'(B:Nat→Prop)(l:Nat)(σ:FState)(fv:Value)(ps:List (List Nat)):Prop:=∃us bo,Vecs 25 (fun b=>b=bo∧B b∧l<b) σ fv us∧PathsL (fun b=>B b∧l<b∧b≠bo) σ us ps
def FindI(l r cm bx:Nat)(R X:Nat→Prop)(xv:List Value)(x:D)(σ0:FState)(f g:Nat→Value)(done:List (List Nat×D))(B:Nat→Prop)(σ:FState):Prop:=
 (∀b,X b∨b=l∨b=r∨b=cm∨b=bx→B b)∧(∀b,B b→b<σ.next∧(X b∨b=l∨b=r∨b=cm∨b=bx∨l<b))∧LoopAt 113 [10,11] AnN AnO 8 21 f g l r .ready σ∧(∃ver,σ.heap.get r=some ⟨.defd true,false,none,ver⟩)∧
  (∃fv ver,σ.heap.get cm=some ⟨.cells [fv] 42,false,none,ver⟩∧Paths' B l σ fv (foundIn x done))∧σ.cells bx=some xv∧LaidR (fun b=>R b∨X b) σ (.agg xv.toArray) x∧∀b,X b→σ.heap.get b=σ0.heap.get b
end Go.Proofs.YtokieofohmgjdaaGreatDoor
namespace Go.Proofs.YtokieofohmgjdaaGreatDoor
open Go Go.Eng
attribute [local congr] Ac Aj Ai Ad Ah
attribute [-go_sem] List.range_succ
end Go.Proofs.YtokieofohmgjdaaGreatDoor
namespace Go.Proofs.YtokieofohmgjdaaGreatDoor
open Go Go.Eng
attribute [local congr] Ac Aj Ai Ad Ah
attribute [-go_sem] List.range_succ
structure Stays (Q:Nat→Value→FState→Prop):Prop where
 keep:∀base base' v σ σ',Q base v σ→Wf σ→base'≤base→(∀b,base≤b→b<σ.next→σ'.heap.get b=σ.heap.get b)→Q base' v σ'
def ResP(x:D)(l:List (List Nat×D))(base:Nat)(w:Value)(σ:FState):Prop:=∃us,Vecs 25 (fun b=>base≤b) σ w us∧PathsL (fun b=>base≤b) σ us (foundIn x l)
mutual
theorem AcC:∀(d:D) (p:List Nat) (y:List Nat×D),y∈d.pieces p→y.2.deep≤d.deep∧y.2.count≤d.count
 | .mk k z t ds,p,y,h=>by
  rw[D.pieces] at h
  rcases List.mem_cons.1 h with rfl|h
  ·exact⟨Nat.le_refl _,Nat.le_refl _⟩
  ·have:=Lr ds p 0 y h
   rw[D.deep,D.count]
   omega
theorem Lr:∀(ds:List D) (p:List Nat) (i:Nat) (y:List Nat×D),y∈D.piecesL p i ds→y.2.deep≤D.deeps ds∧y.2.count≤D.counts ds
 | [],p,i,y,h=>by simp[D.piecesL] at h
 | d::ds,p,i,y,h=>by
  rw[D.piecesL,List.mem_append] at h
  rw[D.deeps,D.counts]
  rcases h with h|h
  ·have:=AcC d _ y h;omega
  ·have:=Lr ds _ _ y h;omega
end
theorem WJ(l:List (List Nat×D))(L:Nat)(h:∀x∈l,x.1.length≤L):longest l≤L+1:=by
 induction l with
 | nil=>simp[longest]
 | cons x l ih=>
  rw[EX]
  have:=h x List.mem_cons_self
  have:=ih fun y hy=>h y (List.mem_cons_of_mem _ hy)
  omega
theorem Fine.deep_le{m L:Nat}{d:D}(h:Fine m L d):d.deep≤L+1:=by
 have h1:=D0 d []
 have h2:=WJ (d.pieces []) L fun x hx=>by have:=((h []).2 x hx).1;simpa using this
 simp at h1
 omega
end Go.Proofs.YtokieofohmgjdaaGreatDoor
namespace Go.Proofs.YtokieofohmgjdaaGreatDoor
open Go Go.Eng
attribute [local congr] Ac Aj Ai Ad Ah
attribute [-go_sem] List.range_succ
theorem Af7:keepOf nls 139=[14,15,28]:=by kernel_rfl
theorem PP(e:TypeId)(bytes:Nat)(z:List Value)(n:Nat)(σ:FState)(h:n*(bytes+1)≤1000000000):fmakeSlice e bytes z (.int .i64 (.ofNat n)) (.int .i64 (.ofNat n)) σ=.val (.slice (some ⟨σ.next,0,none⟩) n n) (σ.push (.cells (reps n z) e) none):=by
 show cond (Nat.ble n n&&Nat.ble (n*(bytes+1)) 1000000000) _ _=_
 rw[show Nat.ble n n=true by rw[Nat.ble_eq];exact Nat.le_refl _,show Nat.ble (n*(bytes+1)) 1000000000=true by rw[Nat.ble_eq];exact h]
 rfl
theorem Em(n:Nat)(z:List Value):(reps n z).length=n*z.length:=by
 induction n with
 | zero=>simp[O2]
 | succ n ih=>rw[O1,List.length_append,ih,Nat.succ_mul];omega
def CopyAt(m:Nat)(d:D):Prop:=∀(lv:List Value) (R:Nat→Prop) (σ:FState),Wf σ→LaidR R σ (.agg lv.toArray) d→Gives ((env m).call 104 [.agg lv.toArray] none σ) σ fun w σ'=>LaidR (fun b=>σ.next≤b) σ' w d
structure HeadEa (bo base:Nat) (R:Nat→Prop) (q:Option Addr) (c:Nat) (ds:List D) (σ0:FState) (i:Nat) (f g:Nat→Value) (σ:FState):Prop where
 f0:f 0=.slice q ds.length c
 f1:f 1=.func (.func 104) #[] #[]
 f5:f 5=.slice (some ⟨bo,0,none⟩) ds.length ds.length
 g14:g 14=.int .i64 (.ofNat ds.length)
 g15:g 15=.int .i64 (.ofNat i)
 cs:∃done rest ver,σ.heap.get bo=some ⟨.cells (done++rest) TD,false,none,ver⟩∧Row (fun b=>base≤b∧b≠bo) σ done (ds.take i)∧rest.length=(ds.length-i)*4
 hbo:base≤bo
 lay:LaidRE R σ q 0 ds
 low:∀b,R b→b<base
 wf:Wf σ
 ext:Ext σ0 σ
 le:i≤ds.length
theorem AbT(m:Nat){bo base:Nat}{R:Nat→Prop}{q:Option Addr}{c:Nat}{ds:List D}{σ0:FState}(hC:∀d∈ds,CopyAt m d)(hb0:σ0.next=base)(hfew:ds.length<1000000):
  ∀(j fuel i:Nat) (f g:Nat→Value) (σ:FState),i+j=ds.length→j<fuel→HeadEa bo base R q c ds σ0 i f g σ→
  ∃f' g' σ',floop [14,15,28] (PM (env m) none 139) fuel (Sl 7 29 f g []) none σ=.done (.exit 0) (Sl 7 29 f' g' []) none σ'∧HeadEa bo base R q c ds σ0 ds.length f' g' σ':=by
 intro j
 induction j with
 | zero=>
  intro fuel i f g σ hij hf h
  obtain⟨fuel,rfl⟩:∃q,fuel=q+1:=⟨fuel-1,by omega⟩
  obtain rfl:i=ds.length:=by omega
  have d1:decide (Int.ofNat ds.length<Int.ofNat ds.length)=false:=by simp
  rw[Am,Bk]
  unfold PM
  simp -implicitDefEqProofs only[go_sem,OE,Kl,h.g14,h.g15,d1,List.mem_cons]
  refine⟨_,_,_,rfl,{ h with g14:=?_,g15:=?_ }⟩
  ·simp -implicitDefEqProofs only[go_sem,reduceCtorEq,h.g14,List.mem_cons,true_or,or_true]
  ·simp -implicitDefEqProofs only[go_sem,reduceCtorEq,h.g15,List.mem_cons,true_or,or_true]
 | succ j ih=>
  intro fuel i f g σ hij hf h
  obtain⟨fuel,rfl⟩:∃q,fuel=q+1:=⟨fuel-1,by omega⟩
  have hi:i<ds.length:=by omega
  have d1:decide (Int.ofNat i<Int.ofNat ds.length)=true:=by simp;omega
  have hd:ds[i]? = some ds[i]:=List.getElem?_eq_getElem hi
  obtain⟨b,off,cs,rfl,hRb,hcs,hle,hL⟩:=LaidRE.get h.lay hd
  rw[Nat.zero_add] at hle hL
  obtain⟨done,rest,ver,hg,hr,hrl⟩:=h.cs
  obtain⟨w,σ1,e1,x1,hw1,hL1⟩:=hC _ (List.getElem_mem hi) ((cs.drop (off+i*4)).take 4) R σ h.wf hL
  obtain⟨l4,rfl,hl4,hone⟩:=hL1.agg
  have hbn:=(h.wf _ _ hg).1
  have hg1:=(x1.get bo hbn).trans hg
  have hdl:done.length=i*4:=by rw[hr.1,List.length_take];omega
  have w1:=D4 i (by omega)
  have hr4:4≤rest.length:=by rw[hrl];omega
  have e4:((done++rest).take (i*4)++l4++(done++rest).drop (i*4+4))=(done++l4)++rest.drop 4:=by
   rw[←hdl,List.take_left',List.drop_append]
   ·simp[List.drop_eq_nil_of_le]
   ·rfl
  have hlen:i*4+4≤(done++rest).length:=by rw[List.length_append,hdl];omega
  rw[Am,Bk]
  unfold PM
  simp -implicitDefEqProofs only[go_sem,Aw,OE,Kl,Ade,QF,Adf,QG,Adg,QH,h.f0,h.f1,h.f5,h.g14,h.g15,d1,hi,hcs,hle,e1,hg1,hl4,hone,hlen,e4,w1,List.mem_cons]
  generalize hff:upd _ 6 _=f1
  generalize hgg:upd _ 15 _=g1
  have n1:=x1.next
  have hbase:base≤σ.next:=by have:=h.ext.next;omega
  have hbo:=h.hbo
  have kc:∀(o:FObj) b cs,σ1.cells b=some cs→b≠bo→(σ1.put bo o none).cells b=some cs:=fun o b cs hc hb=>by rw[Ar,if_neg hb];exact hc
  exact ih fuel (i+1) f1 g1 _ (by omega) (by omega) {
   f0:=by rw[←hff];simp -implicitDefEqProofs only[go_sem,reduceCtorEq,h.f0]
   f1:=by rw[←hff];simp -implicitDefEqProofs only[go_sem,reduceCtorEq,h.f1]
   f5:=by rw[←hff];simp -implicitDefEqProofs only[go_sem,reduceCtorEq,h.f5]
   g14:=by rw[←hgg];simp -implicitDefEqProofs only[go_sem,reduceCtorEq,h.g14,List.mem_cons,true_or,or_true]
   g15:=by rw[←hgg];simp -implicitDefEqProofs only[go_sem,reduceCtorEq]
   cs:=⟨done++l4,rest.drop 4,_,by rw[An,if_pos rfl],by
    rw[List.take_add_one,hd]
    exact(hr.keep fun b cs hb hc=>⟨kc _ b cs ((x1.cells (h.wf.cells hc)).trans hc) hb.2,hb⟩).snoc hl4 hone (hL1.keep fun b cs hb hc=>⟨kc _ b cs hc (by omega),by omega,by omega⟩),by rw[List.length_drop,hrl];omega⟩
   hbo:=h.hbo
   lay:=h.lay.keep fun b cs hb hc=>⟨kc _ b cs ((x1.cells (h.wf.cells hc)).trans hc) (by have:=h.low b hb;omega),hb⟩
   low:=h.low
   wf:=hw1.put _ _ _ (by omega)
   ext:=(h.ext.trans x1).put _ _ _ (by omega)
   le:=hi }
theorem AbU(m:Nat)(ds:List D)(hC:∀d∈ds,CopyAt m d)(hfew:ds.length<1000000)(q:Option Addr)(c:Nat)(R:Nat→Prop)(σ:FState)(hw:Wf σ)(hE:LaidRE R σ q 0 ds):
  Gives ((env (m+1)).call 139 [.slice q ds.length c,.func (.func 104) #[] #[]] none σ) σ fun w σ'=>∃q' c',w=.slice q' ds.length c'∧LaidRE (fun b=>σ.next≤b) σ' q' 0 ds:=by
 rw[Ag _ 139 _ _ rfl,Afv _ _ _ _ (by simp),Af]
 unfold Zt
 cases hz:(Int.ofNat ds.length==(0:Int)) with
 | true=>
  have h0:ds=[]:=by
   have:=Int.ofNat.inj (eq_of_beq hz)
   exact List.length_eq_zero_iff.1 this
  subst h0
  simp -implicitDefEqProofs only[go_sem,OC,Kj,OD,Kk,Adb,QC,hz]
  exact⟨_,_,rfl,Ext.refl _,hw,none,0,rfl,trivial⟩
 | false=>
  have hmk:=fun σ=>PP 24 56 [.int .i64 0,.int .i64 0,.string ⟨#[]⟩,.slice none 0 0] ds.length σ (by omega)
  simp -implicitDefEqProofs only[go_sem,OC,Kj,OD,Kk,Adc,QD,Add,QE,hz,hmk,Af7]
  generalize hff:upd _ 5 _=f1
  generalize hgg:upd _ 15 _=g1
  generalize hbf:bigFuel=fuel
  obtain⟨f2,g2,σ2,e2,h2⟩:=AbT m (bo:=σ.next) (base:=σ.next) (R:=fun b=>R b∧b<σ.next) (q:=q) (c:=c) (σ0:=σ) hC rfl hfew ds.length fuel 0 f1 g1 (σ.push (.cells (reps ds.length [.int .i64 0,.int .i64 0,.string ⟨#[]⟩,.slice none 0 0]) TD) none) (by omega) (by rw[←hbf];show ds.length<1000000000000;omega) {
   f0:=by rw[←hff];simp -implicitDefEqProofs only[go_sem,reduceCtorEq]
   f1:=by rw[←hff];simp -implicitDefEqProofs only[go_sem,reduceCtorEq]
   f5:=by rw[←hff];simp -implicitDefEqProofs only[go_sem,reduceCtorEq]
   g14:=by rw[←hgg];simp -implicitDefEqProofs only[go_sem,reduceCtorEq]
   g15:=by rw[←hgg];simp -implicitDefEqProofs only[go_sem,reduceCtorEq]<;>rfl
   cs:=⟨[],reps ds.length [.int .i64 0,.int .i64 0,.string ⟨#[]⟩,.slice none 0 0],σ.clock,by rw[Ak,if_pos rfl];rfl,Row.nil _ _,by rw[Em];rfl⟩
   hbo:=Nat.le_refl _
   lay:=hE.keep fun b cs hb hc=>⟨by rw[Ab,if_neg (by have:=hw.cells hc;omega)];exact hc,hb,hw.cells hc⟩
   low:=fun b hb=>hb.2
   wf:=hw.push _ _
   ext:=(Ext.refl _).push _ _
   le:=Nat.zero_le _ }
  rw[e2]
  simp -implicitDefEqProofs only[go_sem,Adh,QI,h2.f5]
  obtain⟨done,rest,ver,hg,hr,hrl⟩:=h2.cs
  rw[List.take_length] at hr
  have hrest:rest=[]:=List.length_eq_zero_iff.1 (by rw[hrl];omega)
  subst hrest
  rw[List.append_nil] at hg
  exact⟨_,_,rfl,h2.ext,h2.wf,_,_,rfl,hr.elems (Au hg) (Nat.le_refl _) (fun c hc=>hc.1) 0 ds fun j e he=>by rwa [Nat.zero_add]⟩
theorem AbQ(m:Nat)(k z:Int)(t:ByteArray)(ds:List D)(hC:∀d∈ds,CopyAt m d)(hfew:ds.length<1000000):CopyAt (m+2) (.mk k z t ds):=by
 intro lv R σ hw hL
 obtain⟨q,c,hv,hE⟩:=hL
 have hlv:lv=[.int .i64 k,.int .i64 z,.string t,.slice q ds.length c]:=by
  have:=Value.agg.inj hv
  simpa using congrArg Array.toList this
 subst hlv
 rw[Ag _ 104 _ _ rfl,Afj _ _ _ _ (by simp),Af]
 unfold Zh
 have x1:Ext σ ((σ.push (.cells [.int .i64 k,.int .i64 z,.string t,.slice q ds.length c] TD) none).push (.cells [.int .i64 0,.int .i64 0,.string ⟨#[]⟩,.slice none 0 0] TD) none):=((Ext.refl _).push _ _).push _ _
 have hw1:=(hw.push (.cells [.int .i64 k,.int .i64 z,.string t,.slice q ds.length c] TD) none).push (.cells [.int .i64 0,.int .i64 0,.string ⟨#[]⟩,.slice none 0 0] TD) none
 have c1:((σ.push (.cells [.int .i64 k,.int .i64 z,.string t,.slice q ds.length c] TD) none).push (.cells [.int .i64 0,.int .i64 0,.string ⟨#[]⟩,.slice none 0 0] TD) none).cells σ.next=some [.int .i64 k,.int .i64 z,.string t,.slice q ds.length c]:=by rw[Ab,if_neg (by rw[Aa];omega),Ab,if_pos rfl];rfl
 have g2:((σ.push (.cells [.int .i64 k,.int .i64 z,.string t,.slice q ds.length c] TD) none).push (.cells [.int .i64 0,.int .i64 0,.string ⟨#[]⟩,.slice none 0 0] TD) none).heap.get (σ.next+1)=some ⟨.cells [.int .i64 0,.int .i64 0,.string ⟨#[]⟩,.slice none 0 0] TD,false,none,σ.clock+1⟩:=by rw[Ak,if_pos (by rw[Aa])];rfl
 have kc:((σ.push (.cells [.int .i64 k,.int .i64 z,.string t,.slice q ds.length c] TD) none).push (.cells [.int .i64 0,.int .i64 0,.string ⟨#[]⟩,.slice none 0 0] TD) none).clock=σ.clock+2:=rfl
 have kn:((σ.push (.cells [.int .i64 k,.int .i64 z,.string t,.slice q ds.length c] TD) none).push (.cells [.int .i64 0,.int .i64 0,.string ⟨#[]⟩,.slice none 0 0] TD) none).next=σ.next+2:=rfl
 simp -implicitDefEqProofs only[go_sem,AcF,P6]
 generalize FState.push (FState.push σ _ _) _ _=σ1 at x1 hw1 c1 g2 kc kn ⊢
 have hv1:=BQ hw1 (lam:=σ.clock+2) (by omega)
 obtain⟨_,σ2,e2,x2,hw2,q',c',rfl,hE'⟩:=AbU m ds hC hfew q c R σ1 hw1 (hE.keep fun b cs hb hc=>⟨(x1.cells (hw.cells hc)).trans hc,hb⟩)
 have c2:(view σ2 (σ.clock+2)).cells σ.next=some [.int .i64 k,.int .i64 z,.string t,.slice q ds.length c]:=DA hw1 (by omega) (x2.get _ (hw1.cells c1)) c1
 have g2':=(x2.get _ (hw1 _ _ g2).1).trans g2
 simp -implicitDefEqProofs only[go_sem,Aw,AcG,P7,hv1,c1,e2,c2,g2',AX,AJ,AI,BU,Cf]
 have n2:=x2.next
 exact⟨_,_,rfl,(x1.trans x2).put _ _ _ (by omega),hw2.put _ _ _ (by omega),q',c',rfl,hE'.keep fun b cs hb hc=>⟨by rw[Ar,if_neg (by omega)];exact hc,by omega⟩⟩
theorem Z2(n:Nat):∀(N:Nat) (d:D),D.deep d≤N→d.count<1000000→CopyAt (n+2*N) d
 | 0,d,h,_=>by cases d;rw[D.deep] at h;omega
 | N+1,.mk k z t ds,h,hc=>by
  rw[D.deep] at h
  rw[D.count] at hc
  have:=Ep ds
  exact AbQ (n+2*N) k z t ds (fun d hd=>Z2 n N d (by have:=Ci hd;omega) (by have:=FU hd;omega)) (by omega)
end Go.Proofs.YtokieofohmgjdaaGreatDoor
namespace Go.Proofs.YtokieofohmgjdaaGreatDoor
open Go Go.Eng
attribute [local congr] Ac Aj Ai Ad Ah
attribute [-go_sem] List.range_succ
theorem Aci:keepOf nls 109=[7,8,9,32]:=by kernel_rfl
theorem Au8{cs:List Value}{off:Nat}{a b c e:Value}(h:(cs.drop off).take 4=[a,b,c,e]):cs[off+3]? = some e:=by
 have:((cs.drop off).take 4)[3]? = some e:=by rw[h];rfl
 rw[List.getElem?_take,if_pos (by omega),List.getElem?_drop] at this
 exact this
structure HeadPl (a:Option Addr) (plen cx i b off:Nat) (f g:Nat→Value):Prop where
 f0:f 0=.pointer (some ⟨b,off,none⟩)
 g7:g 7=.slice a plen cx
 g8:g 8=.int .i64 (.ofNat plen)
 g9:g 9=.int .i64 (.ofNat i)
theorem WS(E:Env){a:Option Addr}{cx:Nat}{path:List Nat}{R:Nat→Prop}{σ:FState}(hs:path.length<100000)(x:D)(hp:path≠[]→∃b rest,a=some ⟨b,0,none⟩∧σ.cells b=some (intsOf path++rest)):
  ∀(j fuel i:Nat) (f g:Nat→Value) (d:D) (b off:Nat) (cs:List Value),i+j=path.length→j<fuel→atP (path.drop i) d=some x→d.count<100000→σ.cells b=some cs→4≤cs.length-off→LaidR R σ (.agg ((cs.drop off).take 4).toArray) d→HeadPl a path.length cx i b off f g→
  ∃f' g' b off cs,floop [7,8,9,32] (PL E none 109) fuel (Sl 7 33 f g []) none σ=.done (.exit 0) (Sl 7 33 f' g' []) none σ∧f' 0=.pointer (some ⟨b,off,none⟩)∧σ.cells b=some cs∧4≤cs.length-off∧LaidR R σ (.agg ((cs.drop off).take 4).toArray) x:=by
 intro j
 induction j with
 | zero=>
  intro fuel i f g d b off cs hij hf hx _ hc hle hL h
  obtain⟨fuel,rfl⟩:∃q,fuel=q+1:=⟨fuel-1,by omega⟩
  obtain rfl:i=path.length:=by omega
  rw[List.drop_length,atP] at hx
  obtain rfl:=Option.some.inj hx
  have d1:decide (Int.ofNat path.length<Int.ofNat path.length)=false:=by simp
  rw[Am,Bk]
  unfold PL
  simp -implicitDefEqProofs only[go_sem,Oh,J4,h.g8,h.g9,d1,List.mem_cons]
  exact⟨_,_,b,off,cs,rfl,h.f0,hc,hle,hL⟩
 | succ j ih=>
  intro fuel i f g d b off cs hij hf hx hN hc hle hL h
  obtain⟨fuel,rfl⟩:∃q,fuel=q+1:=⟨fuel-1,by omega⟩
  have hi:i<path.length:=by omega
  have d1:decide (Int.ofNat i<Int.ofNat path.length)=true:=by simp;omega
  obtain⟨bp,rest,rfl,hcp⟩:=hp (fun h=>by rw[h] at hi;simp at hi)
  have g1:=EW rest hi
  have w3:=D4 i (by omega)
  have hdr:path.drop i=path[i]::path.drop (i+1):=List.drop_eq_getElem_cons hi
  obtain⟨k,z,t,ds⟩:=d
  obtain⟨q,c,hv,hE⟩:=hL
  have hv':(cs.drop off).take 4=[.int .i64 k,.int .i64 z,.string t,.slice q ds.length c]:=by
   have:=Value.agg.inj hv
   simpa using congrArg Array.toList this
  have hf3:=Au8 hv'
  rw[hdr,atP] at hx
  simp only[D.parts] at hx
  cases hd:ds[path[i]]? with
  | none=>rw[hd] at hx;cases hx
  | some d'=>
   rw[hd] at hx
   simp only at hx
   have hpi:=(List.getElem?_eq_some_iff.1 hd).1
   obtain⟨b',off',cs',rfl,hRb,hcs',hle',hL'⟩:=LaidRE.get hE hd
   rw[Nat.zero_add] at hle' hL'
   have e0:decide (Int.ofNat path[i]<0)=false:=by simp
   have e1:decide (Int.ofNat path[i]≥Int.ofNat ds.length)=false:=by simp;omega
   rw[Am,Bk]
   unfold PL
   simp -implicitDefEqProofs only[go_sem,Oh,J4,AcM,Qc,AcN,Qd,AcO,Qe,AcP,Qf,h.f0,h.g7,h.g8,h.g9,d1,hi,hcp,g1,hc,hf3,e0,e1,hpi,w3,List.mem_cons]
   generalize hff:upd _ 0 _=f1
   generalize hgg:upd _ 9 _=gg
   exact ih fuel (i+1) f1 gg d' b' (off'+path[i]*4) cs' (by omega) (by omega) hx (by have:=FU (List.mem_of_getElem? hd);rw[D.count] at hN;omega) hcs' (by omega) hL' {
    f0:=by rw[←hff];simp -implicitDefEqProofs only[go_sem,reduceCtorEq]
    g7:=by rw[←hgg];simp -implicitDefEqProofs only[go_sem,reduceCtorEq,h.g7,List.mem_cons,true_or,or_true]
    g8:=by rw[←hgg];simp -implicitDefEqProofs only[go_sem,reduceCtorEq,h.g8,List.mem_cons,true_or,or_true]
    g9:=by rw[←hgg];simp -implicitDefEqProofs only[go_sem,reduceCtorEq] }
theorem Agv(n:Nat){path:List Nat}{pv:Value}{R Q:Nat→Prop}{σ:FState}(hs:path.length<100000){d x:D}(hP:PathV Q σ pv path){b off:Nat}{cs:List Value}(hx:atP path d=some x)(hN:d.count<100000)(hc:σ.cells b=some cs)(hle:4≤cs.length-off)(hL:LaidR R σ (.agg ((cs.drop off).take 4).toArray) d):
  ∃b' off' cs',(env (n+1)).call 109 [.pointer (some ⟨b,off,none⟩),pv] none σ=.ret (.pointer (some ⟨b',off',none⟩)) none σ∧σ.cells b'=some cs'∧4≤cs'.length-off'∧LaidR R σ (.agg ((cs'.drop off').take 4).toArray) x:=by
 obtain⟨a,cx,rfl,k1⟩:=Eb hP
 rw[Ag _ 109 _ _ rfl,Afm _ _ _ _ (by simp),Af]
 unfold Zk
 simp -implicitDefEqProofs only[go_sem,AcK,Qa,AcL,Qb,Aci]
 generalize hff:upd _ 4 _=f1
 generalize hgg:upd _ 9 _=g1
 generalize hbf:bigFuel=fuel
 obtain⟨f2,g2,b',off',cs',e2,h1,h2,h3,h4⟩:=WS (env n) (a:=a) (cx:=cx) (σ:=σ) hs x (fun h=>by obtain⟨b,r,x,_,y⟩:=k1 h;exact⟨b,r,x,y⟩) path.length fuel 0 f1 g1 d b off cs (by omega) (by rw[←hbf];show path.length<1000000000000;omega) hx hN hc hle hL {
  f0:=by rw[←hff];simp -implicitDefEqProofs only[go_sem,reduceCtorEq]
  g7:=by rw[←hgg];simp -implicitDefEqProofs only[go_sem,reduceCtorEq]
  g8:=by rw[←hgg];simp -implicitDefEqProofs only[go_sem,reduceCtorEq]
  g9:=by rw[←hgg];simp -implicitDefEqProofs only[go_sem,reduceCtorEq]<;>rfl }
 rw[e2]
 simp -implicitDefEqProofs only[go_sem,AcQ,Qg,h1]
 exact⟨_,_,_,rfl,h2,h3,h4⟩
theorem at1(M n:Nat)(hM:M=n+14)(bd bp:Nat)(L:Nat)(hL6:L≤6)(d x:D)(hF:Fine M L d)(lv:List Value)(h4:lv.length=4)(R Q:Nat→Prop)(path:List Nat)(pv:Value)(hs:path.length<100000)(hx:atP path d=some x)(hxd:x.deep≤7)(hxc:x.count<100000)(σ:FState)(hw:Wf σ)(hb1:σ.cells bd=some lv)(hb2:σ.cells bp=some [pv])(hL:LaidR R σ (.agg lv.toArray) d)(hP:PathV Q σ pv path)(hR:∀b,R b→b<σ.next):
  Gives ((env (M+6)).call 108 [.pointer (some ⟨bd,0,none⟩),.pointer (some ⟨bp,0,none⟩)] none σ) σ fun v σ'=>LaidR (fun b=>σ.next≤b) σ' v x:=by
 have hf:=hF.few hL6
 rw[Ag _ 108 _ _ rfl,Afl _ _ _ _ (by simp),Af]
 unfold Zj
 have x0:Ext σ (σ.push (.cells [.int .i64 0,.int .i64 0,.string ⟨#[]⟩,.slice none 0 0] TD) none):=(Ext.refl _).push _ _
 have hw0:=hw.push (.cells [.int .i64 0,.int .i64 0,.string ⟨#[]⟩,.slice none 0 0] TD) none
 have ne1:(bd=σ.next)=False:=by have:=hw.cells hb1;simp;omega
 have ne2:(bp=σ.next)=False:=by have:=hw.cells hb2;simp;omega
 obtain⟨_,σ1,e1,x1,hw1,rfl⟩:=VV M d lv h4 R _ hw0 (hL.keep fun b cs hb hc=>⟨(x0.cells (hw.cells hc)).trans hc,hb⟩) (fun b hb=>by have:=hR b hb;rw[Aa];omega) (hF.small hL6) (by omega) hF.good
 have x01:=x0.trans x1
 have c1:=(x01.cells (hw.cells hb1)).trans hb1
 have c2:=(x01.cells (hw.cells hb2)).trans hb2
 have ht:lv.take 4=lv:=List.take_of_length_le (by omega)
 have hL1:LaidR R σ1 (.agg ((lv.drop 0).take 4).toArray) d:=by
  rw[List.drop_zero,ht]
  exact hL.keep fun b cs hb hc=>⟨(x01.cells (hw.cells hc)).trans hc,hb⟩
 obtain⟨b',off',cs',e2,hc',hle',hL'⟩:=Agv (M+4) (Q:=fun _=>True) (σ:=σ1) hs (hP.keep fun b cs _ hc=>⟨(x01.cells (hw.cells hc)).trans hc,trivial⟩) hx (by rw[←Cn d []];omega) c1 (by omega) hL1
 have hcp:=Z2 (n+5) 7 x hxd (by omega)
 rw[show n+5+2*7=M+5 by omega] at hcp
 obtain⟨_,σ2,e3,x2,hw2,hq⟩:=hcp ((cs'.drop off').take 4) R σ1 hw1 hL'
 obtain⟨k,z,t,ds⟩:=x
 obtain⟨q,c,rfl,hE⟩:=hq
 have g0:σ2.heap.get σ.next=_:=((x1.trans x2).get σ.next (Nat.lt_succ_self _)).trans (by rw[Ak,if_pos rfl])
 have m0:=(hw2 _ _ g0).1
 simp -implicitDefEqProofs only[go_sem,Aw,AcH,P8,AcI,P9,AcJ,P_,hb1,hb2,ne1,ne2,c1,c2,h4,ht,e1,e2,e3,hc',hle',g0,Cf,AX,AJ,AI,BU,Nat.le_refl]
 have n1:=x1.next
 rw[Aa] at n1
 exact⟨_,_,rfl,(x01.trans x2).put _ _ _ (Nat.le_refl _),hw2.put _ _ _ m0,q,c,rfl,hE.keep fun b cs hb hc=>⟨by rw[Ar,if_neg (by omega)];exact hc,by omega⟩⟩
end Go.Proofs.YtokieofohmgjdaaGreatDoor
namespace Go.Proofs.YtokieofohmgjdaaGreatDoor
open Go Go.Eng
def nilD:D:=.mk 0 0 ⟨#[]⟩ []
def pairD(a b:D):D:=.mk 5 0 ⟨#[]⟩ [a,b]
def listD(t:D):List D→D
 | []=>t
 | d::ds=>pairD d (listD t ds)
theorem GN:∀a b:List D,D.counts (a++b)=D.counts a+D.counts b
 | [],b=>by simp[D.counts]
 | d::a,b=>by rw[List.cons_append,D.counts,D.counts,GN a b];omega
def Sane(m:Nat)(d:D):Prop:=∀path,∀x∈d.pieces path,x.2.parts.length≤900∧GoodD m x.2
theorem Fine.sane{m L:Nat}{d:D}(h:Fine m L d):Sane m d:=fun path x hx=>by
 have h':=((h path).2 x hx).2
 exact⟨by omega,h'.2⟩
theorem Sane.good{m:Nat}{d:D}(h:Sane m d):AllGood m (d.pieces []):=fun path k z t ds hx=>(h [] _ hx).2 k z t ds rfl
theorem JH(d:D)(hd:d.deep<1000):∀y∈d.pieces [],y.1.length<1000:=fun y hy=>by
 have h1:=D0 d []
 have h2:y.1.length+1≤longest (d.pieces []):=by
  obtain⟨a,b,h⟩:=List.append_of_mem hy
  rw[h,DZ,EX]
  omega
 simp at h1
 omega
theorem Sane.small{m:Nat}{d:D}(h:Sane m d)(hd:d.deep<1000):Small (d.pieces []):=fun x hx=>⟨by have:=JH d hd x hx;omega,by have:=(h [] x hx).1;omega⟩
theorem Dn(M:Nat)(d:D)(h:Sane M d)(hc:d.count≤2000)(hd:d.deep<1000)(lv:List Value)(h4:lv.length=4)(R:Nat→Prop)(σ:FState)(hw:Wf σ)(hL:LaidR R σ (.agg lv.toArray) d)(hR:∀b,R b→b<σ.next):
  Gives ((env (M+5)).call 71 [.agg lv.toArray] none σ) σ fun w _=>w=.int .i64 (.ofNat d.count):=by
 have:=VV M d lv h4 R σ hw hL hR (h.small hd) (by rw[Cn];exact hc) h.good
 rwa [Cn] at this
end Go.Proofs.YtokieofohmgjdaaGreatDoor
namespace Go.Proofs.YtokieofohmgjdaaGreatDoor
open Go Go.Eng
def VecG(Q R:Nat→Prop)(σ:FState)(s:Value)(ds:List D):Prop:=
 (ds=[]∧s=.slice none 0 0)∨(∃b cs ver,s=.slice (some ⟨b,0,none⟩) ds.length ds.length∧σ.heap.get b=some ⟨.cells cs TD,false,some 4,ver⟩∧Q b∧Row R σ cs ds)
theorem VecG.slice{Q R:Nat→Prop}{σ:FState}{s:Value}{ds:List D}(h:VecG Q R σ s ds):∃p,s=.slice p ds.length ds.length∧LaidRE (fun b=>Q b∨R b) σ p 0 ds:=by
 rcases h with⟨rfl,rfl⟩|⟨b,cs,ver,rfl,hb,hq,hr⟩
 ·exact⟨none,rfl,trivial⟩
 ·exact⟨_,rfl,hr.elems (Au hb) (.inl hq) (fun c hc=>.inr hc) 0 ds fun j e he=>by rwa [Nat.zero_add]⟩
theorem VecG.one{Q R:Nat→Prop}{σ:FState}{s:Value}{ds:List D}(h:VecG Q R σ s ds):oneCell s=true∧notTuple s=true∧valCells s=[s]:=by
 rcases h with⟨rfl,rfl⟩|⟨b,cs,ver,rfl,hb,hq,hr⟩<;>exact⟨rfl,rfl,rfl⟩
theorem VecG.keep{Q Q' R R':Nat→Prop}{σ σ':FState}{s:Value}{ds:List D}(h:VecG Q R σ s ds)(hq:∀b e,Q b→σ.heap.get b=some e→σ'.heap.get b=some e∧Q' b)(hr:∀b cs,R b→σ.cells b=some cs→σ'.cells b=some cs∧R' b):VecG Q' R' σ' s ds:=by
 rcases h with h|⟨b,cs,ver,rfl,hb,hQ,hR⟩
 ·exact .inl h
 ·exact .inr ⟨b,cs,ver,rfl,(hq b _ hQ hb).1,(hq b _ hQ hb).2,hR.keep hr⟩
theorem JL(Q R Q':Nat→Prop)(σ1:FState)(s:Value)(ds:List D)(d:D)(l:List Value)(hw:Wf σ1)(hl:l.length=4)(ho:l.all oneCell=true)(hlen:ds.length<900)(hV:VecG Q R σ1 s ds)(hd:LaidR R σ1 (.agg l.toArray) d)(hQR:∀b,Q b→¬ R b)(hQ':∀b,σ1.next≤b→Q' b):
  ∃s' τ,fappend TD 4 56 s (.slice (some ⟨σ1.next,0,none⟩) 1 1) (σ1.push (.cells l TD) none)=.val s' τ∧VecG Q' R τ s' (ds++[d])∧Wf τ∧Chg Q σ1 τ:=by
 have hx:(σ1.push (.cells l TD) none).cells σ1.next=some l:=by rw[Ab,if_pos rfl];rfl
 rcases hV with⟨rfl,rfl⟩|⟨b,cs,ver,rfl,hb,hq,hR⟩
 ·refine⟨_,_,Hi TD 4 56 _ 1 l _ hx hl ho (by decide),.inr ⟨_,_,_,rfl,by rw[Ak,if_pos rfl],hQ' _ (by rw[Aa];omega),?_⟩,(hw.push _ _).push _ _,((Chg.refl _ _).push _ _).push _ _⟩
  exact(Row.nil _ _).snoc hl ho (hd.keep fun c cs hc h=>by
   have:=hw.cells h
   refine⟨?_,hc⟩
   rw[Ab,if_neg (by rw[Aa];omega),Ab,if_neg (by omega)]
   exact h)
 ·have hbn:b<σ1.next:=(hw b _ hb).1
  have hb1:(σ1.push (.cells l TD) none).heap.get b=some ⟨.cells cs TD,false,some 4,ver⟩:=by rw[Ak,if_neg (by omega)];exact hb
  have hw1:=hw.push (.cells l TD) none
  have hw2:=hw1.put b (.defd false) none (by rw[Aa];omega)
  refine⟨_,_,Jr TD 4 56 b _ 1 ds.length ver cs l _ hb1 hx hl ho hR.1 (by decide) (by omega),.inr ⟨_,_,_,by rw[List.length_append];rfl,by rw[Ak,if_pos rfl],hQ' _ (by rw[Ao,Aa];omega),?_⟩,hw2.push _ _,(((Chg.refl _ _).push _ _).put _ _ _ (.inr hq)).push _ _⟩
  have kp:∀(c:Nat) (cs':List Value),R c→σ1.cells c=some cs'→
    (((σ1.push (.cells l TD) none).put b (.defd false) none).push (.cells (cs++l) TD) (some 4)).cells c=some cs'∧R c:=fun c cs' hc h=>by
   have:=hw.cells h
   refine⟨?_,hc⟩
   rw[Ab,if_neg (by rw[Ao,Aa];omega),Ar,if_neg (fun(e:c=b)=>hQR b hq (e ▸ hc)),Ab,if_neg (by omega)]
   exact h
  exact(hR.keep kp).snoc hl ho (hd.keep kp)
theorem Row.append{R:Nat→Prop}{σ:FState}{cs cs':List Value}{ds ds':List D}(h:Row R σ cs ds)(h':Row R σ cs' ds'):Row R σ (cs++cs') (ds++ds'):=by
 refine⟨by rw[List.length_append,List.length_append,h.1,h'.1];omega,by rw[List.all_append,h.2.1,h'.2.1];rfl,fun i d hd=>?_⟩
 by_cases hi:i<ds.length
 ·rw[List.getElem?_append_left hi] at hd
  have:=h.2.2 i d hd
  rw[List.drop_append_of_le_length (by rw[h.1];omega),List.take_append_of_le_length (by rw[List.length_drop,h.1];omega)]
  exact this
 ·rw[List.getElem?_append_right (by omega)] at hd
  have:=h'.2.2 (i-ds.length) d hd
  have e:i*4=cs.length+(i-ds.length)*4:=by rw[h.1];omega
  rw[e,←List.drop_drop,List.drop_left]
  exact this
end Go.Proofs.YtokieofohmgjdaaGreatDoor
namespace Go.Eng
open Go
section
variable (E:Env) (ro:Option Nat) (a:FAct) (u:Option FrameMode) (σ:FState) (cl:List Nat)
theorem AbS(l:List DOp)(sb sa:SOp)(fl:List DOp):drawSR E ro l sb sa fl a u σ=fdraw E ro (fswap E ro sb sa fl) l [σ.clock] a u σ:=rfl
theorem AfZ(nb na:Nat)(pb vb pa va:FAct→Value)(fl:List DOp):fswap E ro ⟨nb,pb,vb⟩ ⟨na,pa,va⟩ fl cl a u σ=
  (match fstore nb (pb a) (vb a) σ with
   | .skip σ'=>fdraw E ro (fswapA ⟨na,pa,va⟩ (pb a) nb σ'.next) fl (cl++[σ'.clock]) a u σ'
   | _=>.no):=rfl
theorem Ace(nb na next:Nat)(pb:Value)(pa va:FAct→Value):fswapA ⟨na,pa,va⟩ pb nb next cl a u σ=
  cond (Nat.beq σ.next next&&apartP na nb (pa a) pb) (match fstore na (pa a) (va a) σ with|.skip σ'=>.done .normal a u σ'|_=>.no) .no:=rfl
theorem Abs(n n' b b' o o':Nat)(h:b≠b'):apartP n n' (.pointer (some ⟨b,o,none⟩)) (.pointer (some ⟨b',o',none⟩))=true:=by
 show (!Nat.beq b b'||Nat.ble (o+n) o'||Nat.ble (o'+n') o)=true
 rw[show Nat.beq b b'=false by rw[←Bool.not_eq_true,Nat.beq_eq];exact h]
 rfl
theorem Afb(n:Nat):Nat.beq n n=true:=by rw[Nat.beq_eq]
end
end Go.Eng
namespace Go.Proofs.YtokieofohmgjdaaGreatDoor
open Go Go.Eng
theorem Row.init{R:Nat→Prop}{σ:FState}{cs:List Value}{ds:List D}{x:D}(h:Row R σ cs (ds++[x])):Row R σ (cs.take (ds.length*4)) ds:=by
 have h1:=h.1
 rw[List.length_append,List.length_singleton] at h1
 refine⟨by rw[List.length_take];omega,?_,fun i d hd=>?_⟩
 ·rw[List.all_eq_true]
  exact fun v hv=>List.all_eq_true.1 h.2.1 v (List.mem_of_mem_take hv)
 ·have hi:=(List.getElem?_eq_some_iff.1 hd).1
  have:=h.2.2 i d (by rw[List.getElem?_append_left hi];exact hd)
  rw[List.drop_take,List.take_take,show min 4 (ds.length*4-i*4)=4 by omega]
  exact this
theorem AeP(Q R:Nat→Prop)(σ:FState)(s:Value)(ds:List D)(x d:D)(l:List Value)(hw:Wf σ)(hl:l.length=4)(ho:l.all oneCell=true)(hV:VecG Q R σ s (ds++[x]))(hd:LaidR R σ (.agg l.toArray) d)(hQR:∀b,Q b→¬ R b):
  ∃b,s=.slice (some ⟨b,0,none⟩) (ds.length+1) (ds.length+1)∧Q b∧∃τ,fstore 4 (.pointer (some ⟨b,ds.length*4,none⟩)) (.agg l.toArray) σ=.skip τ∧VecG Q R τ s (ds++[d])∧Wf τ∧Chg Q σ τ∧τ.next=σ.next:=by
 rcases hV with⟨h,_⟩|⟨b,cs,ver,rfl,hb,hq,hR⟩
 ·simp at h
 ·have h1:=hR.1
  rw[List.length_append,List.length_singleton] at h1 ⊢
  have hbn:=(hw b _ hb).1
  obtain⟨L,eL⟩:∃L,cs.take (ds.length*4)++l++cs.drop (ds.length*4+4)=L:=⟨_,rfl⟩
  have eL2:cs.take (ds.length*4)++l=L:=by rw[←eL,List.drop_eq_nil_of_le (by omega),List.append_nil]
  have kp:∀(c:Nat) (cs':List Value),R c→σ.cells c=some cs'→(σ.put b (.cells L TD) (some 4)).cells c=some cs'∧R c:=fun c cs' hc h=>by
   refine⟨?_,hc⟩
   rw[Ar,if_neg (fun(e:c=b)=>hQR b hq (e ▸ hc))]
   exact h
  refine⟨b,rfl,hq,σ.put b (.cells L TD) (some 4),?_,.inr ⟨b,_,σ.clock,by rw[List.length_append,List.length_singleton],by rw[An,if_pos rfl],hq,?_⟩,hw.put _ _ _ hbn,(Chg.refl _ _).put _ _ _ (.inr hq),rfl⟩
  ·rw[Aw,hb]
   have hv:valCells (.agg l.toArray)=l:=by simp[Io]
   simp only[hv,hl,ho,HD,and_self,if_true]
   rw[if_pos (by omega),eL]
  ·have h:= ((Row.init hR).keep kp).snoc hl ho (hd.keep kp)
   rw[eL2] at h
   exact h
end Go.Proofs.YtokieofohmgjdaaGreatDoor
namespace Go.Proofs.YtokieofohmgjdaaGreatDoor
open Go Go.Eng
variable (E:Env) (ro:Option Nat) (last:List Nat→RunF) (cl:List Nat) (a:FAct) (u:Option FrameMode) (σ:FState)
def Qz(_:Unit):List COp:=[⟨fun a σ=>.val (a.get 0) σ,some 2,fun _=>some true⟩,
 ⟨fun a σ=>.enter 162 [(a.get 2),(.int .i64 0)] σ,some 3,fun _=>some true⟩]
def Ah0:List COp:=Qz ()
def Zr(E:Env)(ro:Option Nat)(fn:FuncId):RunF:=(fops E ro Ah0)
theorem Ac8:fops E ro Ah0 a u σ=fops E ro (Qz ()) a u σ:=rfl
theorem An9(E:Env)(ro:Option Nat)(fn:FuncId):code Tryz.prog nls (Tryz.f136.body.getD .skip) E ro fn=Zr E ro fn:=by kernel_rfl
theorem Aft(E:Env)(args:List Value)(u:Option FrameMode)(σ:FState)(hn:args.length≤(2:Nat)):fcall Tryz.prog nls E 136 args u σ=leaveR Tryz.prog E [] (Zr E none 136 ⟨padTo undef 2 args,fun _=>undef,2,4,[]⟩ u σ):=by
 rw[Al (body:=Tryz.f136.body.getD .skip) Tryz.func136 rfl E args u σ 2 4 (by kernel_rfl) rfl ⟨hn,by decide⟩,An9]
 rfl
def Q9(_:Unit):List COp:=[⟨fun a σ=>.val (a.get 0) σ,some 4,fun _=>some true⟩,
 ⟨fun a σ=>.val (a.get 1) σ,some 5,fun _=>some true⟩,
 ⟨fun a σ=>fbuild (fun i=>nth [(0,1),(1,1)] i) [(.int .i64 0),(.int .i64 0)] [(0,(a.get 4)),(1,(a.get 5))] σ,some 6,fun _=>some true⟩,
 ⟨fun a σ=>.val (.iface 178 (a.get 6)) σ,some 7,fun _=>some true⟩,
 ⟨fun a σ=>fpanic (a.get 7) σ,none,fun _=>some true⟩]
def Aji:List COp:=Q9 ()
def ZA(E:Env)(ro:Option Nat)(fn:FuncId):RunF:=(fops E ro Aji)
theorem AdI:fops E ro Aji a u σ=fops E ro (Q9 ()) a u σ:=rfl
theorem Aon(E:Env)(ro:Option Nat)(fn:FuncId):code Tryz.prog nls (Tryz.f162.body.getD .skip) E ro fn=ZA E ro fn:=by kernel_rfl
theorem AfC(E:Env)(args:List Value)(u:Option FrameMode)(σ:FState)(hn:args.length≤(4:Nat)):fcall Tryz.prog nls E 162 args u σ=leaveR Tryz.prog E [] (ZA E none 162 ⟨padTo undef 4 args,fun _=>undef,4,8,[]⟩ u σ):=by
 rw[Al (body:=Tryz.f162.body.getD .skip) Tryz.func162 rfl E args u σ 4 8 (by kernel_rfl) rfl ⟨hn,by decide⟩,Aon]
 rfl
def QJ(_:Unit):List COp:=[⟨fun a σ=>newCells [(.int .i64 0),(.int .i64 0)] 178 none σ,some 2,fun _=>some true⟩]
def Aid:List COp:=QJ ()
def QK(_:Unit):List COp:=[⟨fun a σ=>newCells [(.int .i64 0),(.int .i64 0)] 178 none σ,some 3,fun _=>some true⟩]
def Aie:List COp:=QK ()
def QL(_:Unit):List COp:=[⟨fun a σ=>.val (a.get 0) σ,some 4,fun _=>some true⟩,
 ⟨fun a σ=>.val (.iface 197 (a.get 3)) σ,some 5,fun _=>some true⟩,
 ⟨fun a σ=>.enter 169 [(a.get 4),(a.get 5)] σ,some 6,fun _=>some true⟩,
 ⟨fun a σ=>fun1 Tryz.prog (Op.unary .not) (a.get 6) σ,some 7,fun _=>some true⟩]
def Aif:List COp:=QL ()
def ApU(_:Unit):List COp:=[⟨fun a σ=>ffield 0 (a.get 3) σ,some 8,fun _=>some true⟩,
 ⟨fun a σ=>fstore 1 (a.get 8) (.int .i64 1) σ,none,fun _=>some true⟩]
def AvD:List COp:=ApU ()
def QM(_:Unit):List COp:=[⟨fun a σ=>fload (some 2) (a.get 3) σ,some 9,fun _=>some true⟩,
 ⟨fun a σ=>fstore 2 (a.get 2) (a.get 9) σ,none,fun _=>some true⟩]
def Aig:List COp:=QM ()
def Zu(E:Env)(ro:Option Nat)(fn:FuncId):RunF:=(seqR (fops E ro Aid) (seqR (fops E ro Aie) (seqR (seqR (fops E ro Aif) (condR (fun a=>(a.get 7)) (fops E ro AvD) skipR)) (seqR (fops E ro Aig) retR))))
theorem Adi:fops E ro Aid a u σ=fops E ro (QJ ()) a u σ:=rfl
theorem Adj:fops E ro Aie a u σ=fops E ro (QK ()) a u σ:=rfl
theorem Adk:fops E ro Aif a u σ=fops E ro (QL ()) a u σ:=rfl
theorem Adl:fops E ro Aig a u σ=fops E ro (QM ()) a u σ:=rfl
theorem Aoc(E:Env)(ro:Option Nat)(fn:FuncId):code Tryz.prog nls (Tryz.f148.body.getD .skip) E ro fn=Zu E ro fn:=by kernel_rfl
theorem Afw(E:Env)(args:List Value)(u:Option FrameMode)(σ:FState)(hn:args.length≤(4:Nat)):fcall Tryz.prog nls E 148 args u σ=leaveR Tryz.prog E [.cell 2 178] (Zu E none 148 ⟨padTo undef 4 args,fun _=>undef,4,10,[]⟩ u σ):=by
 rw[Al (body:=Tryz.f148.body.getD .skip) Tryz.func148 rfl E args u σ 4 10 (by kernel_rfl) rfl ⟨hn,by decide⟩,Aoc]
 rfl
def Ke(_:Unit):List COp:=[⟨fun a σ=>.val (.slice none 0 0) σ,some 2,fun _=>some true⟩,
 ⟨fun a σ=>newCells [(.int .i64 0)] 3 none σ,some 3,fun _=>some true⟩,
 ⟨fun a σ=>newCells [(.int .i64 0)] 32 none σ,some 4,fun _=>some true⟩]
def AhR:List COp:=Ke ()
def Kf(_:Unit):List COp:=[⟨fun a σ=>.val (.func (.func 161) #[] #[(a.get 3),(a.get 4)]) σ,some 5,fun _=>some true⟩,
 ⟨fun a σ=>fdefer (a.get 5) [] σ,none,fun _=>some true⟩]
def AhS:List COp:=Kf ()
def Kg(_:Unit):List COp:=[⟨fun a σ=>.val (a.get 0) σ,some 6,fun _=>some true⟩,
 ⟨fun a σ=>fcallV (a.get 6) [] σ,some 7,fun _=>some true⟩,
 ⟨fun a σ=>.val (a.get 7) σ,some 2,fun _=>some true⟩,
 ⟨fun a σ=>fstore 1 (a.get 3) (.int .i64 0) σ,none,fun _=>some true⟩,
 ⟨fun a σ=>fstore 1 (a.get 4) (.int .i64 0) σ,none,fun _=>some true⟩]
def AhT:List COp:=Kg ()
def SS(E:Env)(ro:Option Nat)(fn:FuncId):RunF:=(seqR (fops E ro AhR) (seqR (fops E ro AhS) (seqR (fops E ro AhT) retR)))
theorem Ox:fops E ro AhR a u σ=fops E ro (Ke ()) a u σ:=rfl
theorem Oy:fops E ro AhS a u σ=fops E ro (Kf ()) a u σ:=rfl
theorem Oz:fops E ro AhT a u σ=fops E ro (Kg ()) a u σ:=rfl
theorem An6(E:Env)(ro:Option Nat)(fn:FuncId):code Tryz.prog nls (Tryz.f133.body.getD .skip) E ro fn=SS E ro fn:=by kernel_rfl
theorem TF(E:Env)(args:List Value)(u:Option FrameMode)(σ:FState)(hn:args.length≤(5:Nat)):fcall Tryz.prog nls E 133 args u σ=leaveR Tryz.prog E [.tmp 2,.cell 3 3,.cell 4 32] (SS E none 133 ⟨padTo undef 5 args,fun _=>undef,5,8,[]⟩ u σ):=by
 rw[Al (body:=Tryz.f133.body.getD .skip) Tryz.func133 rfl E args u σ 5 8 (by kernel_rfl) rfl ⟨hn,by decide⟩,An6]
 rfl
def Kr(_:Unit):List COp:=[⟨fun a σ=>.recover σ,some 6,fun _=>some true⟩]
def Ajb:List COp:=Kr ()
def Ks(_:Unit):List COp:=[⟨fun a σ=>i_eql Tryz.prog 20 (.tmp 6) (.const .nilIface) (a.get 6) .nilIface σ,some 7,fun _=>some true⟩]
def Ajc:List COp:=Ks ()
def Q4(_:Unit):List COp:=[⟨fun a σ=>.val (a.get 6) σ,some 2,fun _=>some true⟩]
def Ajd:List COp:=Q4 ()
def Q5(_:Unit):List COp:=[⟨fun a σ=>fassert Tryz.prog (a.get 6) 176 true σ,some 8,fun _=>some true⟩,
 ⟨fun a σ=>fextract 1 (a.get 8) σ,some 9,fun _=>some true⟩,
 ⟨fun a σ=>fextract 0 (a.get 8) σ,some 10,fun _=>some true⟩]
def Aje:List COp:=Q5 ()
def Q6(_:Unit):List COp:=[⟨fun a σ=>.val (a.get 10) σ,some 3,fun _=>some true⟩]
def Ajf:List COp:=Q6 ()
def Q7(_:Unit):List COp:=[⟨fun a σ=>.val (a.get 3) σ,some 11,fun _=>some true⟩,
 ⟨fun a σ=>.enter 148 [(a.get 11)] σ,some 12,fun _=>some true⟩,
 ⟨fun a σ=>newCells [(.int .i64 0),(.int .i64 0)] 178 none σ,some 4,fun _=>some true⟩,
 ⟨fun a σ=>fstore 2 (a.get 4) (a.get 12) σ,none,fun _=>some true⟩]
def Ajg:List COp:=Q7 ()
def Q8(_:Unit):List DOp:=[⟨fun a σ=>ffield 1 (a.get 4) σ,some 13,fun _=>some true,some 0,false⟩,
 ⟨fun a σ=>fload none (a.get 13) σ,some 14,fun _=>some true,some 0,false⟩,
 ⟨fun a σ=>fstore 1 (a.get 0) (a.get 14) σ,none,fun _=>some true,none,false⟩,
 ⟨fun a σ=>ffield 0 (a.get 4) σ,some 15,fun _=>some true,some 0,false⟩,
 ⟨fun a σ=>fload none (a.get 15) σ,some 16,fun _=>some true,some 0,false⟩,
 ⟨fun a σ=>fstore 1 (a.get 1) (a.get 16) σ,none,fun _=>some true,none,true⟩]
def Ajh:List DOp:=Q8 ()
def ApY(_:Unit):List COp:=[⟨fun a σ=>.val (a.get 6) σ,some 5,fun _=>some true⟩]
def AvH:List COp:=ApY ()
def ApZ(_:Unit):List COp:=[⟨fun a σ=>fstore 1 (a.get 1) (.int .i64 1) σ,none,fun _=>some true⟩]
def AvI:List COp:=ApZ ()
def SU(E:Env)(ro:Option Nat)(fn:FuncId):RunF:=(seqR (fops E ro Ajb) (blockR 0 (seqR (fops E ro Ajc) (condR (fun a=>(a.get 7)) (fops E ro Ajd) (seqR (fops E ro Aje) (condR (fun a=>(a.get 9)) (seqR (fops E ro Ajf) (seqR (fops E ro Ajg) (drawR E ro Ajh))) (seqR (fops E ro AvH) (fops E ro AvI))))))))
theorem OK:fops E ro Ajb a u σ=fops E ro (Kr ()) a u σ:=rfl
theorem OL:fops E ro Ajc a u σ=fops E ro (Ks ()) a u σ:=rfl
theorem AdD:fops E ro Ajd a u σ=fops E ro (Q4 ()) a u σ:=rfl
theorem AdE:fops E ro Aje a u σ=fops E ro (Q5 ()) a u σ:=rfl
theorem AdF:fops E ro Ajf a u σ=fops E ro (Q6 ()) a u σ:=rfl
theorem AdG:fops E ro Ajg a u σ=fops E ro (Q7 ()) a u σ:=rfl
theorem AdH:fdraw E ro last Ajh cl a u σ=fdraw E ro last (Q8 ()) cl a u σ:=rfl
theorem Aom(E:Env)(ro:Option Nat)(fn:FuncId):code Tryz.prog nls (Tryz.f161.body.getD .skip) E ro fn=SU E ro fn:=by kernel_rfl
theorem TH(E:Env)(args:List Value)(u:Option FrameMode)(σ:FState)(hn:args.length≤(6:Nat)):fcall Tryz.prog nls E 161 args u σ=leaveR Tryz.prog E [] (SU E none 161 ⟨padTo undef 6 args,fun _=>undef,6,17,[]⟩ u σ):=by
 rw[Al (body:=Tryz.f161.body.getD .skip) Tryz.func161 rfl E args u σ 6 17 (by kernel_rfl) rfl ⟨hn,by decide⟩,Aom]
 rfl
def Sz(_:Unit):List COp:=[⟨fun a σ=>.val (.slice none 0 0) σ,some 2,fun _=>some true⟩,
 ⟨fun a σ=>.val (.int .i64 0) σ,some 3,fun _=>some true⟩]
def AtR:List COp:=Sz ()
def SA(_:Unit):List COp:=[⟨fun a σ=>.val (a.get 0) σ,some 8,fun _=>some true⟩,
 ⟨fun a σ=>.enter 133 [(a.get 8)] σ,some 9,fun _=>some true⟩,
 ⟨fun a σ=>.val (a.get 9) σ,some 7,fun _=>some true⟩,
 ⟨fun a σ=>fextract 0 (a.get 7) σ,some 10,fun _=>some true⟩,
 ⟨fun a σ=>fextract 1 (a.get 7) σ,some 11,fun _=>some true⟩,
 ⟨fun a σ=>fextract 2 (a.get 7) σ,some 12,fun _=>some true⟩,
 ⟨fun a σ=>.val (a.get 10) σ,some 4,fun _=>some true⟩,
 ⟨fun a σ=>.val (a.get 11) σ,some 5,fun _=>some true⟩,
 ⟨fun a σ=>.val (a.get 12) σ,some 6,fun _=>some true⟩]
def AtS:List COp:=SA ()
def SB(_:Unit):List COp:=[⟨fun a σ=>.val (a.get 4) σ,some 13,fun _=>some true⟩,
 ⟨fun a σ=>.val (a.get 6) σ,some 14,fun _=>some true⟩,
 ⟨fun a σ=>.val (a.get 13) σ,some 2,fun _=>some true⟩,
 ⟨fun a σ=>.val (a.get 14) σ,some 3,fun _=>some true⟩]
def AtT:List COp:=SB ()
def Abj(E:Env)(ro:Option Nat)(fn:FuncId):RunF:=(seqR (fops E ro AtR) (seqR (fops E ro AtS) (seqR (fops E ro AtT) retR)))
theorem Vy:fops E ro AtR a u σ=fops E ro (Sz ()) a u σ:=rfl
theorem Vz:fops E ro AtS a u σ=fops E ro (SA ()) a u σ:=rfl
theorem VA:fops E ro AtT a u σ=fops E ro (SB ()) a u σ:=rfl
theorem Au0(E:Env)(ro:Option Nat)(fn:FuncId):code Tryz.prog nls (Tryz.f90.body.getD .skip) E ro fn=Abj E ro fn:=by kernel_rfl
theorem Aae(E:Env)(args:List Value)(u:Option FrameMode)(σ:FState)(hn:args.length≤(7:Nat)):fcall Tryz.prog nls E 90 args u σ=leaveR Tryz.prog E [.tmp 2,.tmp 3] (Abj E none 90 ⟨padTo undef 7 args,fun _=>undef,7,15,[]⟩ u σ):=by
 rw[Al (body:=Tryz.f90.body.getD .skip) Tryz.func90 rfl E args u σ 7 15 (by kernel_rfl) rfl ⟨hn,by decide⟩,Au0]
 rfl
def Ja(_:Unit):List COp:=[⟨fun a σ=>fbox 24 (a.get 0) σ,some 2,fun _=>some true⟩,
 ⟨fun a σ=>fbox 24 (a.get 1) σ,some 3,fun _=>some true⟩,
 ⟨fun a σ=>.val (.slice none 0 0) σ,some 4,fun _=>some true⟩,
 ⟨fun a σ=>.val (.int .i64 0) σ,some 5,fun _=>some true⟩]
def ArE:List COp:=Ja ()
def Jb(_:Unit):List COp:=[⟨fun a σ=>.val (.func (.func 91) #[] #[(a.get 2),(a.get 3)]) σ,some 6,fun _=>some true⟩,
 ⟨fun a σ=>.enter 90 [(a.get 6)] σ,some 7,fun _=>some true⟩,
 ⟨fun a σ=>fextract 0 (a.get 7) σ,some 8,fun _=>some true⟩,
 ⟨fun a σ=>fextract 1 (a.get 7) σ,some 9,fun _=>some true⟩,
 ⟨fun a σ=>.val (a.get 8) σ,some 4,fun _=>some true⟩,
 ⟨fun a σ=>.val (a.get 9) σ,some 5,fun _=>some true⟩]
def ArF:List COp:=Jb ()
def O3(E:Env)(ro:Option Nat)(fn:FuncId):RunF:=(seqR (fops E ro ArE) (seqR (fops E ro ArF) retR))
theorem Ib:fops E ro ArE a u σ=fops E ro (Ja ()) a u σ:=rfl
theorem Ic:fops E ro ArF a u σ=fops E ro (Jb ()) a u σ:=rfl
theorem AuA(E:Env)(ro:Option Nat)(fn:FuncId):code Tryz.prog nls (Tryz.f27.body.getD .skip) E ro fn=O3 E ro fn:=by kernel_rfl
theorem JY(E:Env)(args:List Value)(u:Option FrameMode)(σ:FState)(hn:args.length≤(4:Nat)):fcall Tryz.prog nls E 27 args u σ=leaveR Tryz.prog E [.tmp 4,.tmp 5] (O3 E none 27 ⟨padTo undef 4 args,fun _=>undef,4,10,[]⟩ u σ):=by
 rw[Al (body:=Tryz.f27.body.getD .skip) Tryz.func27 rfl E args u σ 4 10 (by kernel_rfl) rfl ⟨hn,by decide⟩,AuA]
 rfl
def Jf(_:Unit):List COp:=[⟨fun a σ=>.val (.slice none 0 0) σ,some 2,fun _=>some true⟩]
def AtU:List COp:=Jf ()
def Jg(_:Unit):List COp:=[⟨fun a σ=>fload (some 4) (a.get 0) σ,some 3,fun _=>some true⟩,
 ⟨fun a σ=>.enter 71 [(a.get 3)] σ,some 4,fun _=>some true⟩]
def AtV:List COp:=Jg ()
def MM(_:Unit):List COp:=[⟨fun a σ=>fload (some 4) (a.get 1) σ,some 5,fun _=>some true⟩,
 ⟨fun a σ=>.enter 71 [(a.get 5)] σ,some 6,fun _=>some true⟩]
def AtW:List COp:=MM ()
def SC(_:Unit):List COp:=[⟨fun a σ=>fload (some 4) (a.get 0) σ,some 7,fun _=>some true⟩,
 ⟨fun a σ=>fload (some 4) (a.get 1) σ,some 8,fun _=>some true⟩,
 ⟨fun a σ=>.enter 92 [(a.get 7),(a.get 8)] σ,some 9,fun _=>some true⟩,
 ⟨fun a σ=>.val (a.get 9) σ,some 2,fun _=>some true⟩]
def AtX:List COp:=SC ()
def O4(E:Env)(ro:Option Nat)(fn:FuncId):RunF:=(seqR (fops E ro AtU) (seqR (fops E ro AtV) (seqR (fops E ro AtW) (seqR (fops E ro AtX) retR))))
theorem Ii:fops E ro AtU a u σ=fops E ro (Jf ()) a u σ:=rfl
theorem Ij:fops E ro AtV a u σ=fops E ro (Jg ()) a u σ:=rfl
theorem MN:fops E ro AtW a u σ=fops E ro (MM ()) a u σ:=rfl
theorem VB:fops E ro AtX a u σ=fops E ro (SC ()) a u σ:=rfl
theorem Au1(E:Env)(ro:Option Nat)(fn:FuncId):code Tryz.prog nls (Tryz.f91.body.getD .skip) E ro fn=O4 E ro fn:=by kernel_rfl
theorem JZ(E:Env)(args:List Value)(u:Option FrameMode)(σ:FState)(hn:args.length≤(2:Nat)):fcall Tryz.prog nls E 91 args u σ=leaveR Tryz.prog E [.tmp 2] (O4 E none 91 ⟨padTo undef 2 args,fun _=>undef,2,10,[]⟩ u σ):=by
 rw[Al (body:=Tryz.f91.body.getD .skip) Tryz.func91 rfl E args u σ 2 10 (by kernel_rfl) rfl ⟨hn,by decide⟩,Au1]
 rfl
def YS(_:Unit):List COp:=[⟨fun a σ=>fbox 24 (a.get 0) σ,some 2,fun _=>some true⟩,
 ⟨fun a σ=>fbox 24 (a.get 1) σ,some 3,fun _=>some true⟩,
 ⟨fun a σ=>.val (.slice none 0 0) σ,some 4,fun _=>some true⟩]
def AtY:List COp:=YS ()
def YY(_:Unit):List COp:=[⟨fun a σ=>newCells [(.slice none 0 0)] 22 none σ,some 5,fun _=>some true⟩]
def AtZ:List COp:=YY ()
def YZ(_:Unit):List COp:=[⟨fun a σ=>fload (some 4) (a.get 3) σ,some 12,fun _=>some true⟩,
 ⟨fun a σ=>.enter 123 [(a.get 12)] σ,some 13,fun _=>some true⟩]
def At0:List COp:=YZ ()
def Y0(_:Unit):List COp:=[⟨fun a σ=>newCells [(.int .i64 0),(.int .i64 0),(.string ⟨#[]⟩),(.slice none 0 0)] 24 none σ,some 7,fun _=>some true⟩,
 ⟨fun a σ=>fstore 4 (a.get 7) (a.get 15) σ,none,fun _=>some true⟩]
def At1:List COp:=Y0 ()
def Y1(_:Unit):List DOp:=[⟨fun a σ=>fload none (a.get 5) σ,some 16,fun _=>some true,some 0,false⟩,
 ⟨fun a σ=>fload (some 4) (a.get 7) σ,some 17,fun _=>some true,some 0,false⟩,
 ⟨fun a σ=>flenL (a.get 16) σ,some 18,fun _=>some true,some 0,false⟩,
 ⟨fun a σ=>fbuildSlice 24 1 4 [(.int .i64 0),(.int .i64 0),(.string ⟨#[]⟩),(.slice none 0 0)] [(0,(.agg #[(.int .i64 0),(.int .i64 0),(.string ⟨#[]⟩),(.slice none 0 0)]))] σ,some 19,fun _=>some true,some 0,false⟩,
 ⟨fun a σ=>fappend 24 4 56 (a.get 16) (a.get 19) σ,some 20,fun _=>some true,none,true⟩]
def At2:List DOp:=Y1 ()
def AmK:List DOp:=[⟨fun a σ=>findex (none,4) (a.get 20) (a.get 18) σ,some 21,fun _=>some true,some 1,false⟩]
noncomputable def Cz:Code:=((rangesOf (Tryz.f92.body.getD .skip)).getD 0 (.skip,.skip)).1
noncomputable def CA:Code:=((rangesOf (Tryz.f92.body.getD .skip)).getD 0 (.skip,.skip)).2
def Y2(_:Unit):List COp:=[⟨fun a σ=>newCells [(.int .i64 0)] 3 none σ,some 8,fun _=>some true⟩,
 ⟨fun a σ=>fstore 1 (a.get 8) (.int .i64 0) σ,none,fun _=>some true⟩]
def At3:List COp:=Y2 ()
def Y3(_:Unit):List COp:=[⟨fun a σ=>newCells [(.slice none 0 0)] 25 none σ,some 9,fun _=>some true⟩]
def At4:List COp:=Y3 ()
def Y4(_:Unit):List COp:=[⟨fun a σ=>fload (some 4) (a.get 2) σ,some 22,fun _=>some true⟩,
 ⟨fun a σ=>.enter 123 [(a.get 22)] σ,some 23,fun _=>some true⟩]
def At5:List COp:=Y4 ()
def Y5(_:Unit):List COp:=[⟨fun a σ=>.val (a.get 24) σ,some 10,fun _=>some true⟩]
def At6:List COp:=Y5 ()
def Y6(_:Unit):List COp:=[⟨fun a σ=>newCells [(.int .i64 0),(.int .i64 0),(.string ⟨#[]⟩),(.slice none 0 0)] 24 none σ,some 11,fun _=>some true⟩,
 ⟨fun a σ=>fstore 4 (a.get 11) (a.get 25) σ,none,fun _=>some true⟩]
def At7:List COp:=Y6 ()
def SE(_:Unit):List DOp:=[⟨fun a σ=>fload (some 4) (a.get 11) σ,some 29,fun _=>some true,some 0,false⟩,
 ⟨fun a σ=>fload none (a.get 5) σ,some 30,fun _=>some true,some 0,false⟩,
 ⟨fun a σ=>fload none (a.get 8) σ,some 31,fun _=>some true,some 0,false⟩,
 ⟨fun a σ=>findex (none,4) (a.get 30) (a.get 31) σ,some 32,fun _=>some true,some 0,false⟩,
 ⟨fun a σ=>fload (some 4) (a.get 32) σ,some 33,fun _=>some true,some 0,false⟩,
 ⟨fun a σ=>.enter 134 [(a.get 29),(a.get 33)] σ,some 34,fun _=>some true,none,true⟩,
 ⟨fun a σ=>.val (a.get 34) σ,some 28,fun _=>some true,some 1,false⟩]
def AmF:List DOp:=SE ()
def SF(_:Unit):List COp:=[⟨fun a σ=>fload none (a.get 8) σ,some 35,fun _=>some true⟩,
 ⟨fun a σ=>i_add Tryz.prog 3 (.tmp 35) (.const (.int .i64 1)) (a.get 35) (.int .i64 1) σ,some 36,fun _=>some true⟩,
 ⟨fun a σ=>fstore 1 (a.get 8) (a.get 36) σ,none,fun _=>some true⟩]
def YU:List COp:=SF ()
def SD(_:Unit):List COp:=[⟨fun a σ=>.val (a.get 10) σ,some 26,fun _=>some true⟩,
 ⟨fun a σ=>.enter 135 [(a.get 26)] σ,some 27,fun _=>some true⟩,
 ⟨fun a σ=>fstore 1 (a.get 9) (a.get 27) σ,none,fun _=>some true⟩]
def YT:List COp:=SD ()
noncomputable def CB:Code:=((rangesOf (Tryz.f92.body.getD .skip)).getD 1 (.skip,.skip)).1
noncomputable def CC:Code:=((rangesOf (Tryz.f92.body.getD .skip)).getD 1 (.skip,.skip)).2
def KG(_:Unit):List COp:=[⟨fun a σ=>fload none (a.get 8) σ,some 37,fun _=>some true⟩,
 ⟨fun a σ=>fload none (a.get 5) σ,some 38,fun _=>some true⟩,
 ⟨fun a σ=>flenL (a.get 38) σ,some 39,fun _=>some true⟩,
 ⟨fun a σ=>i_eql Tryz.prog 3 (.tmp 37) (.tmp 39) (a.get 37) (a.get 39) σ,some 40,fun _=>some true⟩]
def YV:List COp:=KG ()
def SG(_:Unit):List COp:=[⟨fun a σ=>.enter 136 [(.int .i64 10)] σ,some 41,fun _=>some true⟩]
def YW:List COp:=SG ()
def SH(_:Unit):List COp:=[⟨fun a σ=>fload none (a.get 9) σ,some 42,fun _=>some true⟩,
 ⟨fun a σ=>.val (a.get 42) σ,some 4,fun _=>some true⟩]
def YX:List COp:=SH ()
noncomputable def x92_0:Code:=(scopesOf (Tryz.f92.body.getD .skip)).getD 0 .skip
def find92_0(E:Env)(ro:Option Nat)(fn:FuncId):Nat→Option (Bx RunF):=fun l=>match findLabel x92_0 l with|some rest=>some ⟨(ccode Tryz.prog nls 998 rest).un E ro fn⟩|none=>none
def Ann(E:Env)(ro:Option Nat)(fn:FuncId):RunF:=(seqR (fops E ro AtY) (fscope (find92_0 E ro fn) bigFuel (seqR (fops E ro AtZ) (seqR (seqR (fops E ro At0) (blockR 0 (frange E ro fn (.tmp 13) [14,15] Cz CA))) (seqR (fops E ro At3) (seqR (fops E ro At4) (seqR skipR (seqR (seqR (fops E ro At5) (blockR 2 (frange E ro fn (.tmp 23) [24,25] CB CC))) (seqR (seqR (fops E ro YV) (condR (fun a=>(a.get 40)) (fops E ro YW) skipR)) (seqR (fops E ro YX) retR))))))))))
theorem AmE:fops E ro AtY a u σ=fops E ro (YS ()) a u σ:=rfl
theorem AmG:fops E ro AtZ a u σ=fops E ro (YY ()) a u σ:=rfl
theorem AmH:fops E ro At0 a u σ=fops E ro (YZ ()) a u σ:=rfl
theorem AmI:fops E ro At1 a u σ=fops E ro (Y0 ()) a u σ:=rfl
theorem AmJ:fdraw E ro last At2 cl a u σ=fdraw E ro last (Y1 ()) cl a u σ:=rfl
theorem Aes(E:Env)(ro:Option Nat)(last:List Nat→RunF)(cl:List Nat)(a:FAct)(u:Option FrameMode)(σ:FState):fdraw E ro last AmK cl a u σ=fdraw E ro last [⟨fun a σ=>findex (none,4) (a.get 20) (a.get 18) σ,some 21,fun _=>some true,some 1,false⟩] cl a u σ:=rfl
theorem AbD(E:Env)(ro:Option Nat)(fn:FuncId):code Tryz.prog nls Cz E ro fn=(fops E ro At1):=by kernel_rfl
theorem AbE(E:Env)(ro:Option Nat)(fn:FuncId):code Tryz.prog nls CA E ro fn=(blockR 1 (drawSR E ro At2 ⟨1,fun a=>(a.get 5),fun a=>(a.get 20)⟩ ⟨4,fun a=>(a.get 21),fun a=>(a.get 17)⟩ AmK)):=by kernel_rfl
theorem AmL:fops E ro At3 a u σ=fops E ro (Y2 ()) a u σ:=rfl
theorem AmM:fops E ro At4 a u σ=fops E ro (Y3 ()) a u σ:=rfl
theorem AmN:fops E ro At5 a u σ=fops E ro (Y4 ()) a u σ:=rfl
theorem AmO:fops E ro At6 a u σ=fops E ro (Y5 ()) a u σ:=rfl
theorem AmP:fops E ro At7 a u σ=fops E ro (Y6 ()) a u σ:=rfl
theorem Aeo:fdraw E ro last AmF cl a u σ=fdraw E ro last (SE ()) cl a u σ:=rfl
theorem Aep:fops E ro YU a u σ=fops E ro (SF ()) a u σ:=rfl
theorem Aen:fops E ro YT a u σ=fops E ro (SD ()) a u σ:=rfl
theorem AbF(E:Env)(ro:Option Nat)(fn:FuncId):code Tryz.prog nls CB E ro fn=(seqR (fops E ro At6) (fops E ro At7)):=by kernel_rfl
theorem AbG(E:Env)(ro:Option Nat)(fn:FuncId):code Tryz.prog nls CC E ro fn=(blockR 3 (blockR 4 (seqR (drawR E ro AmF) (condR (fun a=>(a.get 28)) (fops E ro YU) (seqR (fops E ro YT) (exitR 2)))))):=by kernel_rfl
theorem OZ:fops E ro YV a u σ=fops E ro (KG ()) a u σ:=rfl
theorem Aeq:fops E ro YW a u σ=fops E ro (SG ()) a u σ:=rfl
theorem Aer:fops E ro YX a u σ=fops E ro (SH ()) a u σ:=rfl
theorem Au2(E:Env)(ro:Option Nat)(fn:FuncId):code Tryz.prog nls (Tryz.f92.body.getD .skip) E ro fn=Ann E ro fn:=by kernel_rfl
theorem Ao5(E:Env)(args:List Value)(u:Option FrameMode)(σ:FState)(hn:args.length≤(12:Nat)):fcall Tryz.prog nls E 92 args u σ=leaveR Tryz.prog E [.tmp 4] (Ann E none 92 ⟨padTo undef 12 args,fun _=>undef,12,43,[]⟩ u σ):=by
 rw[Al (body:=Tryz.f92.body.getD .skip) Tryz.func92 rfl E args u σ 12 43 (by kernel_rfl) rfl ⟨hn,by decide⟩,Au2]
 rfl
end Go.Proofs.YtokieofohmgjdaaGreatDoor
namespace Go.Proofs.YtokieofohmgjdaaGreatDoor
open Go Go.Eng
mutual
theorem AeC:∀(a b:D),D.same a b=D.same b a
 | .mk k n t ds,.mk k' n' t' ds'=>by
  rw[show D.same (.mk k n t ds) (.mk k' n' t' ds')=(decide (k=k')&&decide (n=n')&&(t.toList==t'.toList)&&D.sames ds ds') from rfl,show D.same (.mk k' n' t' ds') (.mk k n t ds)=(decide (k'=k)&&decide (n'=n)&&(t'.toList==t.toList)&&D.sames ds' ds) from rfl,MY ds ds']
  rw[show decide (k=k')=decide (k'=k) by simp[eq_comm],show decide (n=n')=decide (n'=n) by simp[eq_comm],show (t.toList==t'.toList)=(t'.toList==t.toList) from BEq.comm]
theorem MY:∀(a b:List D),D.sames a b=D.sames b a
 | [],[]=>rfl
 | [],_::_=>rfl
 | _::_,[]=>rfl
 | a::l,b::r=>by
  rw[show D.sames (a::l) (b::r)=(D.same a b&&D.sames l r) from rfl,show D.sames (b::r) (a::l)=(D.same b a&&D.sames r l) from rfl,AeC a b,MY l r]
end
mutual
theorem IN:∀(d:D) (p:List Nat) (y:List Nat×D),y∈d.pieces p→∃r,y.1=p++r∧atP r d=some y.2
 | .mk k z t ds,p,y,h=>by
  rw[D.pieces] at h
  rcases List.mem_cons.1 h with rfl|h
  ·exact⟨[],by simp,rfl⟩
  ·obtain⟨j,r,d',h1,h2,h3⟩:=E2 ds p 0 y h
   refine⟨(0+j)::r,h1,?_⟩
   rw[atP]
   simp only[D.parts]
   rw[Nat.zero_add,h2]
   exact h3
theorem E2:∀(ds:List D) (p:List Nat) (i:Nat) (y:List Nat×D),y∈D.piecesL p i ds→∃j r d',y.1=p++(i+j)::r∧ds[j]? = some d'∧atP r d'=some y.2
 | [],p,i,y,h=>by simp[D.piecesL] at h
 | d::ds,p,i,y,h=>by
  rw[D.piecesL,List.mem_append] at h
  rcases h with h|h
  ·obtain⟨r,h1,h2⟩:=IN d _ y h
   exact⟨0,r,d,by rw[h1];simp,rfl,h2⟩
  ·obtain⟨j,r,d',h1,h2,h3⟩:=E2 ds p (i+1) y h
   exact⟨j+1,r,d',by rw[h1,show i+1+j=i+(j+1) by omega],by simpa using h2,h3⟩
end
theorem K3(x:D)(a b:List (List Nat×D)):foundIn x (a++b)=foundIn x a++foundIn x b:=by
 unfold foundIn
 rw[List.filter_append,List.map_append]
end Go.Proofs.YtokieofohmgjdaaGreatDoor
namespace Go.Proofs.YtokieofohmgjdaaGreatDoor
open Go Go.Eng
theorem toList_inj{a b:ByteArray}(h:a.toList=b.toList):a=b:=by
 rw[ByteArray.toList_eq,ByteArray.toList_eq] at h
 obtain⟨⟨x⟩⟩:=a
 obtain⟨⟨y⟩⟩:=b
 simp at h
 rw[h]
mutual
theorem GG:∀(a b:D),D.same a b=true→a=b
 | .mk k n t ds,.mk k' n' t' ds',h=>by
  rw[show D.same (.mk k n t ds) (.mk k' n' t' ds')=(decide (k=k')&&decide (n=n')&&(t.toList==t'.toList)&&D.sames ds ds') from rfl] at h
  simp only[Bool.and_eq_true,decide_eq_true_eq] at h
  obtain⟨⟨⟨rfl,rfl⟩,h3⟩,h4⟩:=h
  rw[toList_inj (eq_of_beq h3),VP ds ds' h4]
theorem VP:∀(a b:List D),D.sames a b=true→a=b
 | [],[],_=>rfl
 | [],_::_,h=>by cases h
 | _::_,[],h=>by cases h
 | a::l,b::r,h=>by
  rw[show D.sames (a::l) (b::r)=(D.same a b&&D.sames l r) from rfl,Bool.and_eq_true] at h
  rw[GG a b h.1,VP l r h.2]
end
mutual
theorem Jh:∀(a:D),D.same a a=true
 | .mk k n t ds=>by
  rw[show D.same (.mk k n t ds) (.mk k n t ds)=(decide (k=k)&&decide (n=n)&&(t.toList==t.toList)&&D.sames ds ds) from rfl,MZ ds]
  simp
theorem MZ:∀(l:List D),D.sames l l=true
 | []=>rfl
 | a::l=>by
  rw[show D.sames (a::l) (a::l)=(D.same a a&&D.sames l l) from rfl,Jh a,MZ l]
  rfl
end
theorem Anp(a b:D):D.same a b=true↔a=b:=⟨GG a b,fun h=>h ▸ Jh a⟩
mutual
def repl(x y:D):D→D
 | .mk k z t ds=>if D.same (.mk k z t ds) x=true then y else .mk k z t (repls x y ds)
def repls(x y:D):List D→List D
 | []=>[]
 | d::ds=>repl x y d::repls x y ds
end
mutual
theorem Aey(x:D):∀d,repl x x d=d
 | .mk k z t ds=>by
  rw[repl]
  split
  ·rename_i h;exact(GG _ _ h).symm
  ·rw[MS x ds]
theorem MS(x:D):∀ds,repls x x ds=ds
 | []=>rfl
 | d::ds=>by rw[repls,Aey x d,MS x ds]
end
def occ(x d:D):Nat:=((d.pieces []).filter fun y=>D.same y.2 x).length
mutual
def occN(x:D):D→Nat
 | .mk k z t ds=>(if D.same (.mk k z t ds) x=true then 1 else 0)+occsN x ds
def occsN(x:D):List D→Nat
 | []=>0
 | d::ds=>occN x d+occsN x ds
end
mutual
theorem Acc(x:D):∀(d:D) (p:List Nat),(foundIn x (d.pieces p)).length=occN x d
 | .mk k z t ds,p=>by
  rw[D.pieces,occN]
  have:=K4 x ds p 0
  unfold foundIn at this ⊢
  rw[List.filter_cons]
  split
  ·rw[List.map_cons,List.length_cons,this];omega
  ·rw[this];omega
theorem K4(x:D):∀(ds:List D) (p:List Nat) (i:Nat),(foundIn x (D.piecesL p i ds)).length=occsN x ds
 | [],p,i=>rfl
 | d::ds,p,i=>by rw[D.piecesL,K3,List.length_append,Acc x d _,K4 x ds p (i+1),occsN]
end
mutual
theorem Acs(x:D):∀d:D,d.count<x.count→occN x d=0
 | .mk k z t ds,h=>by
  rw[occN,if_neg (fun e=>by rw[GG _ _ e] at h;omega)]
  rw[D.count] at h
  rw[G1 x ds (by omega)]
theorem G1(x:D):∀ds:List D,D.counts ds<x.count→occsN x ds=0
 | [],_=>rfl
 | d::ds,h=>by
  rw[D.counts] at h
  rw[occsN,Acs x d (by omega),G1 x ds (by omega)]
end
mutual
theorem Zd(x y:D):∀d:D,(repl x y d).count+occN x d*x.count=d.count+occN x d*y.count
 | .mk k z t ds=>by
  rw[repl,occN]
  split
  ·rename_i h
   have hx:=GG _ _ h
   have hc:D.counts ds<x.count:=by rw[←hx,D.count];omega
   rw[G1 x ds hc,←hx]
   omega
  ·rw[D.count,D.count,Nat.zero_add]
   have:=JJ x y ds
   omega
theorem JJ(x y:D):∀ds:List D,D.counts (repls x y ds)+occsN x ds*x.count=D.counts ds+occsN x ds*y.count
 | []=>by simp[repls,D.counts,occsN]
 | d::ds=>by
  rw[repls,D.counts,D.counts,occsN,Nat.add_mul,Nat.add_mul]
  have:=Zd x y d
  have:=JJ x y ds
  omega
end
mutual
theorem Aex(x y:D):∀d:D,repl x y d=d∨0<occN y (repl x y d)
 | .mk k z t ds=>by
  rw[repl]
  split
  ·right
   cases y with
   | mk k' z' t' ds'=>rw[occN,if_pos (Jh _)];omega
  ·rcases Hc x y ds with h|h
   ·left;rw[h]
   ·right;rw[occN];omega
theorem Hc(x y:D):∀ds:List D,repls x y ds=ds∨0<occsN y (repls x y ds)
 | []=>.inl rfl
 | d::ds=>by
  rw[repls,occsN]
  rcases Aex x y d with h|h
  ·rcases Hc x y ds with h'|h'
   ·left;rw[h,h']
   ·right;omega
  ·right;omega
end
mutual
theorem Aew(x y:D)(h1:occN x y=0)(h2:occN y x=0):∀d:D,occN x (repl x y d)=0
 | .mk k z t ds=>by
  rw[repl]
  split
  ·exact h1
  ·rename_i hne
   rw[occN,MR x y h1 h2 ds,Nat.add_zero]
   split
   ·rename_i h
    have hx:=GG _ _ h
    rcases Hc x y ds with h'|h'
    ·rw[h'] at hx
     exact absurd ((Anp _ _).2 hx) hne
    ·rw[←hx,occN] at h2
     omega
   ·rfl
theorem MR(x y:D)(h1:occN x y=0)(h2:occN y x=0):∀ds:List D,occsN x (repls x y ds)=0
 | []=>rfl
 | d::ds=>by rw[repls,occsN,Aew x y h1 h2 d,MR x y h1 h2 ds]
end
theorem N9:∀ {L L':Nat},L≤L'→most L≤most L'
 | 0,L',_=>Uz L'
 | L+1,0,h=>by omega
 | L+1,L'+1,h=>by rw[most,most];have:=N9 (L:=L) (L':=L') (by omega);omega
theorem N0{m L L':Nat}(h:L≤L'){d:D}(hF:Fine m L d):Fine m L' d:=fun path=>⟨Nat.le_trans (hF path).1 (N9 h),fun x hx=>by
 have:=(hF path).2 x hx
 exact⟨by omega,this.2⟩⟩
end Go.Proofs.YtokieofohmgjdaaGreatDoor
namespace Go.Proofs.YtokieofohmgjdaaGreatDoor
open Go Go.Eng
variable (E:Env) (ro:Option Nat) (last:List Nat→RunF) (cl:List Nat) (a:FAct) (u:Option FrameMode) (σ:FState)
def QA(_:Unit):List COp:=[⟨fun a σ=>fbox 24 (a.get 0) σ,some 2,fun _=>some true⟩,
 ⟨fun a σ=>fbox 24 (a.get 1) σ,some 3,fun _=>some true⟩,
 ⟨fun a σ=>.val (.bool false) σ,some 4,fun _=>some true⟩]
def Ah1:List COp:=QA ()
def QB(_:Unit):List COp:=[⟨fun a σ=>ffield 0 (a.get 2) σ,some 5,fun _=>some true⟩,
 ⟨fun a σ=>fload none (a.get 5) σ,some 6,fun _=>some true⟩,
 ⟨fun a σ=>ffield 0 (a.get 3) σ,some 7,fun _=>some true⟩,
 ⟨fun a σ=>fload none (a.get 7) σ,some 8,fun _=>some true⟩,
 ⟨fun a σ=>i_eql Tryz.prog 3 (.tmp 6) (.tmp 8) (a.get 6) (a.get 8) σ,some 9,fun _=>some true⟩,
 ⟨fun a σ=>.val (a.get 9) σ,some 10,fun _=>some true⟩,
 ⟨fun a σ=>ffield 1 (a.get 2) σ,some 11,fun a=>gd (a.get 10) true⟩,
 ⟨fun a σ=>fload none (a.get 11) σ,some 12,fun a=>gd (a.get 10) true⟩,
 ⟨fun a σ=>ffield 1 (a.get 3) σ,some 13,fun a=>gd (a.get 10) true⟩,
 ⟨fun a σ=>fload none (a.get 13) σ,some 14,fun a=>gd (a.get 10) true⟩,
 ⟨fun a σ=>i_eql Tryz.prog 3 (.tmp 12) (.tmp 14) (a.get 12) (a.get 14) σ,some 15,fun a=>gd (a.get 10) true⟩,
 ⟨fun a σ=>fpick (a.get 10) (a.get 15) (.bool false) σ,some 16,fun _=>some true⟩,
 ⟨fun a σ=>.val (a.get 16) σ,some 17,fun _=>some true⟩,
 ⟨fun a σ=>ffield 2 (a.get 2) σ,some 18,fun a=>gd (a.get 17) true⟩,
 ⟨fun a σ=>fload none (a.get 18) σ,some 19,fun a=>gd (a.get 17) true⟩,
 ⟨fun a σ=>ffield 2 (a.get 3) σ,some 20,fun a=>gd (a.get 17) true⟩,
 ⟨fun a σ=>fload none (a.get 20) σ,some 21,fun a=>gd (a.get 17) true⟩,
 ⟨fun a σ=>i_eql Tryz.prog 9 (.tmp 19) (.tmp 21) (a.get 19) (a.get 21) σ,some 22,fun a=>gd (a.get 17) true⟩,
 ⟨fun a σ=>fpick (a.get 17) (a.get 22) (.bool false) σ,some 23,fun _=>some true⟩,
 ⟨fun a σ=>.val (a.get 23) σ,some 24,fun _=>some true⟩,
 ⟨fun a σ=>ffield 3 (a.get 2) σ,some 25,fun a=>gd (a.get 24) true⟩,
 ⟨fun a σ=>fload none (a.get 25) σ,some 26,fun a=>gd (a.get 24) true⟩,
 ⟨fun a σ=>flenL (a.get 26) σ,some 27,fun a=>gd (a.get 24) true⟩,
 ⟨fun a σ=>ffield 3 (a.get 3) σ,some 28,fun a=>gd (a.get 24) true⟩,
 ⟨fun a σ=>fload none (a.get 28) σ,some 29,fun a=>gd (a.get 24) true⟩,
 ⟨fun a σ=>flenL (a.get 29) σ,some 30,fun a=>gd (a.get 24) true⟩,
 ⟨fun a σ=>i_eql Tryz.prog 3 (.tmp 27) (.tmp 30) (a.get 27) (a.get 30) σ,some 31,fun a=>gd (a.get 24) true⟩,
 ⟨fun a σ=>fpick (a.get 24) (a.get 31) (.bool false) σ,some 32,fun _=>some true⟩,
 ⟨fun a σ=>.val (a.get 32) σ,some 4,fun _=>some true⟩]
def Ah2:List COp:=QB ()
def Zs(E:Env)(ro:Option Nat)(fn:FuncId):RunF:=(seqR (fops E ro Ah1) (seqR (fops E ro Ah2) retR))
theorem Ac9:fops E ro Ah1 a u σ=fops E ro (QA ()) a u σ:=rfl
theorem Ada:fops E ro Ah2 a u σ=fops E ro (QB ()) a u σ:=rfl
theorem Aoa(E:Env)(ro:Option Nat)(fn:FuncId):code Tryz.prog nls (Tryz.f137.body.getD .skip) E ro fn=Zs E ro fn:=by kernel_rfl
theorem Afu(E:Env)(args:List Value)(u:Option FrameMode)(σ:FState)(hn:args.length≤(4:Nat)):fcall Tryz.prog nls E 137 args u σ=leaveR Tryz.prog E [.tmp 4] (Zs E none 137 ⟨padTo undef 4 args,fun _=>undef,4,33,[]⟩ u σ):=by
 rw[Al (body:=Tryz.f137.body.getD .skip) Tryz.func137 rfl E args u σ 4 33 (by kernel_rfl) rfl ⟨hn,by decide⟩,Aoa]
 rfl
def Qv(_:Unit):List COp:=[⟨fun a σ=>fbox 24 (a.get 0) σ,some 2,fun _=>some true⟩,
 ⟨fun a σ=>fbox 24 (a.get 1) σ,some 3,fun _=>some true⟩,
 ⟨fun a σ=>.val (.bool false) σ,some 4,fun _=>some true⟩]
def AhU:List COp:=Qv ()
def Qw(_:Unit):List COp:=[⟨fun a σ=>ffield 0 (a.get 2) σ,some 5,fun _=>some true⟩,
 ⟨fun a σ=>fload none (a.get 5) σ,some 6,fun _=>some true⟩,
 ⟨fun a σ=>ffield 0 (a.get 3) σ,some 7,fun _=>some true⟩,
 ⟨fun a σ=>fload none (a.get 7) σ,some 8,fun _=>some true⟩,
 ⟨fun a σ=>i_eql Tryz.prog 3 (.tmp 6) (.tmp 8) (a.get 6) (a.get 8) σ,some 9,fun _=>some true⟩,
 ⟨fun a σ=>.val (a.get 9) σ,some 10,fun _=>some true⟩,
 ⟨fun a σ=>ffield 1 (a.get 2) σ,some 11,fun a=>gd (a.get 10) true⟩,
 ⟨fun a σ=>fload none (a.get 11) σ,some 12,fun a=>gd (a.get 10) true⟩,
 ⟨fun a σ=>ffield 1 (a.get 3) σ,some 13,fun a=>gd (a.get 10) true⟩,
 ⟨fun a σ=>fload none (a.get 13) σ,some 14,fun a=>gd (a.get 10) true⟩,
 ⟨fun a σ=>i_eql Tryz.prog 3 (.tmp 12) (.tmp 14) (a.get 12) (a.get 14) σ,some 15,fun a=>gd (a.get 10) true⟩,
 ⟨fun a σ=>fpick (a.get 10) (a.get 15) (.bool false) σ,some 16,fun _=>some true⟩,
 ⟨fun a σ=>.val (a.get 16) σ,some 17,fun _=>some true⟩,
 ⟨fun a σ=>ffield 2 (a.get 2) σ,some 18,fun a=>gd (a.get 17) true⟩,
 ⟨fun a σ=>fload none (a.get 18) σ,some 19,fun a=>gd (a.get 17) true⟩,
 ⟨fun a σ=>ffield 2 (a.get 3) σ,some 20,fun a=>gd (a.get 17) true⟩,
 ⟨fun a σ=>fload none (a.get 20) σ,some 21,fun a=>gd (a.get 17) true⟩,
 ⟨fun a σ=>i_eql Tryz.prog 9 (.tmp 19) (.tmp 21) (a.get 19) (a.get 21) σ,some 22,fun a=>gd (a.get 17) true⟩,
 ⟨fun a σ=>fpick (a.get 17) (a.get 22) (.bool false) σ,some 23,fun _=>some true⟩,
 ⟨fun a σ=>.val (a.get 23) σ,some 24,fun _=>some true⟩,
 ⟨fun a σ=>ffield 3 (a.get 2) σ,some 25,fun a=>gd (a.get 24) true⟩,
 ⟨fun a σ=>fload none (a.get 25) σ,some 26,fun a=>gd (a.get 24) true⟩,
 ⟨fun a σ=>flenL (a.get 26) σ,some 27,fun a=>gd (a.get 24) true⟩,
 ⟨fun a σ=>ffield 3 (a.get 3) σ,some 28,fun a=>gd (a.get 24) true⟩,
 ⟨fun a σ=>fload none (a.get 28) σ,some 29,fun a=>gd (a.get 24) true⟩,
 ⟨fun a σ=>flenL (a.get 29) σ,some 30,fun a=>gd (a.get 24) true⟩,
 ⟨fun a σ=>i_eql Tryz.prog 3 (.tmp 27) (.tmp 30) (a.get 27) (a.get 30) σ,some 31,fun a=>gd (a.get 24) true⟩,
 ⟨fun a σ=>fpick (a.get 24) (a.get 31) (.bool false) σ,some 32,fun _=>some true⟩,
 ⟨fun a σ=>.val (a.get 32) σ,some 4,fun _=>some true⟩]
def AhV:List COp:=Qw ()
def Zp(E:Env)(ro:Option Nat)(fn:FuncId):RunF:=(seqR (fops E ro AhU) (seqR (fops E ro AhV) retR))
theorem Ac4:fops E ro AhU a u σ=fops E ro (Qv ()) a u σ:=rfl
theorem Ac5:fops E ro AhV a u σ=fops E ro (Qw ()) a u σ:=rfl
theorem An7(E:Env)(ro:Option Nat)(fn:FuncId):code Tryz.prog nls (Tryz.f134.body.getD .skip) E ro fn=Zp E ro fn:=by kernel_rfl
theorem Afr(E:Env)(args:List Value)(u:Option FrameMode)(σ:FState)(hn:args.length≤(4:Nat)):fcall Tryz.prog nls E 134 args u σ=leaveR Tryz.prog E [.tmp 4] (Zp E none 134 ⟨padTo undef 4 args,fun _=>undef,4,33,[]⟩ u σ):=by
 rw[Al (body:=Tryz.f134.body.getD .skip) Tryz.func134 rfl E args u σ 4 33 (by kernel_rfl) rfl ⟨hn,by decide⟩,An7]
 rfl
end Go.Proofs.YtokieofohmgjdaaGreatDoor
namespace Go.Proofs.YtokieofohmgjdaaGreatDoor
open Go Go.Eng
attribute [local congr] Ac Aj Ai Ad Ah
attribute [-go_sem] List.range_succ
theorem Abr(n:Nat)(k z k' z':Int)(t t':ByteArray)(p p':Option Addr)(l l' c c':Nat)(σ:FState)(hw:Wf σ):
  Gives ((env (n+1)).call 137 [.agg #[.int .i64 k,.int .i64 z,.string t,.slice p l c],.agg #[.int .i64 k',.int .i64 z',.string t',.slice p' l' c']] none σ) σ fun w _=>w=.bool ((k==k')&&(z==z')&&(t.toList==t'.toList)&&(Int.ofNat l==Int.ofNat l')):=by
 rw[Ag _ 137 _ _ rfl,Afu _ _ _ _ (by simp),Af]
 unfold Zs
 have fin:∀(o1 o2:FObj),Ext σ ((σ.push o1 none).push o2 none)∧Wf ((σ.push o1 none).push o2 none):=fun o1 o2=>⟨((Ext.refl _).push _ _).push _ _,(hw.push _ _).push _ _⟩
 cases e1:(k==k')<;>cases e2:(z==z')<;>cases e3:(t.toList==t'.toList)<;>cases e4:(Int.ofNat l==Int.ofNat l')<;>simp -implicitDefEqProofs only[go_sem,Ac9,QA,Ada,QB,e1,e2,e3,e4]<;>exact⟨_,_,rfl,(fin ..).1,(fin ..).2,rfl⟩
theorem Abq(n:Nat)(k z k' z':Int)(t t':ByteArray)(p p':Option Addr)(l l' c c':Nat)(σ:FState)(hw:Wf σ):
  Gives ((env (n+1)).call 134 [.agg #[.int .i64 k,.int .i64 z,.string t,.slice p l c],.agg #[.int .i64 k',.int .i64 z',.string t',.slice p' l' c']] none σ) σ fun w _=>w=.bool ((k==k')&&(z==z')&&(t.toList==t'.toList)&&(Int.ofNat l==Int.ofNat l')):=by
 rw[Ag _ 134 _ _ rfl,Afr _ _ _ _ (by simp),Af]
 unfold Zp
 have fin:∀(o1 o2:FObj),Ext σ ((σ.push o1 none).push o2 none)∧Wf ((σ.push o1 none).push o2 none):=fun o1 o2=>⟨((Ext.refl _).push _ _).push _ _,(hw.push _ _).push _ _⟩
 cases e1:(k==k')<;>cases e2:(z==z')<;>cases e3:(t.toList==t'.toList)<;>cases e4:(Int.ofNat l==Int.ofNat l')<;>simp -implicitDefEqProofs only[go_sem,Ac4,Qv,Ac5,Qw,e1,e2,e3,e4]<;>exact⟨_,_,rfl,(fin ..).1,(fin ..).2,rfl⟩
end Go.Proofs.YtokieofohmgjdaaGreatDoor
namespace Go.Proofs.YtokieofohmgjdaaGreatDoor
open Go Go.Eng
attribute [local congr] Ac Aj Ai Ad Ah
attribute [-go_sem] List.range_succ
def GatherI(l r cm:Nat)(R:Nat→Prop)(f g:Nat→Value)(done:List (List Nat×D))(B:Nat→Prop)(σ:FState):Prop:=
 (∀b,b=l∨b=r∨b=cm→B b)∧(∀b,B b→b<σ.next∧(b=l∨b=r∨b=cm∨l<b))∧LoopAt 92 [14,15] Cz CA 12 43 f g l r .ready σ∧(∃ver,σ.heap.get r=some ⟨.defd true,false,none,ver⟩)∧
  ∃s ver,σ.heap.get cm=some ⟨.cells [s] TL,false,none,ver⟩∧VecG (fun b=>B b∧l<b) R σ s (done.map (·.2))
theorem Ul(M l r cm:Nat)(R:Nat→Prop)(f g:Nat→Value)(all:List (List Nat×D))(hne:cm<r∧r<l)(h5:f 5=.pointer (some ⟨cm,0,none⟩))(hR:∀b,R b→b<cm)(hfew:all.length<900):
  Body (env (M+3)) l R (.func (.func 153) #[] #[]) (GatherI l r cm R f g) all where
 stays:=fun done B σ σ' ⟨h1,h2,h6,⟨v7,h7⟩,⟨s,v8,h8,h9⟩⟩ hw hC=>by
  have k:∀b,B b→b<σ.next→σ'.heap.get b=σ.heap.get b:=fun b hb hn=>hC.get b hn fun h=>h.1 hb
  have hn:=hC.next
  have kR:∀b c,R b→σ.cells b=some c→σ'.cells b=some c:=fun b c hb hc=>by
   have:=hC.get b (hw.cells hc) fun h=>h.2 hb
   rw[Ap] at hc ⊢
   rw[this];exact hc
  have own:=fun b hb=>(h2 b (h1 b hb)).1
  exact⟨h1,fun b hb=>⟨Nat.lt_of_lt_of_le (h2 b hb).1 hn,(h2 b hb).2⟩,h6.keep (k l (h1 l (by simp)) (own l (by simp))),⟨v7,(k r (h1 r (by simp)) (own r (by simp))).trans h7⟩,⟨s,v8,(k cm (h1 cm (by simp)) (own cm (by simp))).trans h8,h9.keep (fun b e hb he=>⟨(k b hb.1 (hw _ _ he).1).trans he,hb⟩) fun b cs hb hc=>⟨kR b cs hb hc,hb⟩⟩⟩
 own:=fun done B σ ⟨h1,h2,h6,_⟩ b hb=>⟨(h2 b hb).1,fun h=>by
  have:=hR b h
  rcases (h2 b hb).2 with h|h|h|h
  all_goals omega⟩
 inside:=fun done B σ k z t p ln c _ hw=>FY (M+2) _ 153 #[] rfl k z t (.slice p ln c) (B6 _ _ _) σ hw fun σ' _ hw'=>⟨_,σ',Ta (M+1) _ σ',Ext.refl _,hw',rfl⟩
 go:=fun done path d rest B σ pv v hall' hw ⟨h1,h2,h6,⟨v7,h7⟩,⟨s,v8,h8,h9⟩⟩ hpath hL=>by
  have hdone:done.length<900:=by have:=congrArg List.length hall';simp at this;omega
  have hL0:=hL
  obtain⟨k,z,t,ps⟩:=d
  obtain⟨p,c,rfl,hq⟩:=hL
  have own:=fun b hb=>(h2 b (h1 b hb)).1
  have ol:=own l (by simp)
  have or':=own r (by simp)
  have oc:=own cm (by simp)
  rw[FP _ _ _ _ _ _ _ _ _ (M+2) l r _ h6 rfl,AbD]
  simp -implicitDefEqProofs only[go_sem,Aw,AmI,Y0,List.zip_cons_cons,List.zip_nil_right,Dz,D2]
  have x1:Ext σ ((σ.push (.cells [.int .i64 0,.int .i64 0,.string ⟨#[]⟩,.slice none 0 0] TD) none).put σ.next (.cells [.int .i64 k,.int .i64 z,.string t,.slice p ps.length c] TD) none):=((Ext.refl _).push _ _).put _ _ _ (Nat.le_refl _)
  have hw1:=(hw.push (.cells [.int .i64 0,.int .i64 0,.string ⟨#[]⟩,.slice none 0 0] TD) none).put σ.next (.cells [.int .i64 k,.int .i64 z,.string t,.slice p ps.length c] TD) none (Nat.lt_succ_self _)
  have b1:((σ.push (.cells [.int .i64 0,.int .i64 0,.string ⟨#[]⟩,.slice none 0 0] TD) none).put σ.next (.cells [.int .i64 k,.int .i64 z,.string t,.slice p ps.length c] TD) none).cells σ.next=some [.int .i64 k,.int .i64 z,.string t,.slice p ps.length c]:=by rw[Ar,if_pos rfl];rfl
  have n1:((σ.push (.cells [.int .i64 0,.int .i64 0,.string ⟨#[]⟩,.slice none 0 0] TD) none).put σ.next (.cells [.int .i64 k,.int .i64 z,.string t,.slice p ps.length c] TD) none).next=σ.next+1:=rfl
  generalize FState.put _ _ _ _=σ1 at x1 hw1 b1 n1 ⊢
  have l1:=h6.keep (x1.get l ol)
  rw[CP _ _ _ _ _ _ _ _ _ l r _ l1,AbE]
  have hw2:=hw1.put l (.loop .busy none 92 ((List.range 12).map f) g 12 43 [14,15] Cz CA r) none (by omega)
  have l2:LoopAt 92 [14,15] Cz CA 12 43 f g l r .busy (σ1.put l (.loop .busy none 92 ((List.range 12).map f) g 12 43 [14,15] Cz CA r) none):=LoopAt.put _ _ _ _ _ _ _ _ _ _ _ _
  have n2:(σ1.put l (.loop .busy none 92 ((List.range 12).map f) g 12 43 [14,15] Cz CA r) none).next=σ.next+1:=n1
  have C2:Chg (· = l) σ (σ1.put l (.loop .busy none 92 ((List.range 12).map f) g 12 43 [14,15] Cz CA r) none):=(x1.chg _).put _ _ _ (.inr rfl)
  have b2:(σ1.put l (.loop .busy none 92 ((List.range 12).map f) g 12 43 [14,15] Cz CA r) none).cells σ.next=some [.int .i64 k,.int .i64 z,.string t,.slice p ps.length c]:=by rw[Ar,if_neg (by omega)];exact b1
  generalize FState.put _ l _ _=σ2 at hw2 l2 b2 C2 n2 ⊢
  have hlc:∀b cs,σ.cells b=some cs→b≠l:=fun b cs hc hb=>by
   obtain⟨ver,h6⟩:=h6
   rw[hb,Ap,h6] at hc
   cases hc
  have k2:∀b cs,σ.cells b=some cs→σ2.cells b=some cs:=fun b cs hc=>(C2.cells (hw.cells hc) (hlc b cs hc)).trans hc
  have g2:∀b,b<σ.next→b≠l→σ2.heap.get b=σ.heap.get b:=fun b hb hne=>C2.get b hb hne
  have c8:σ2.cells cm=some [s]:=k2 _ _ (Au h8)
  have V2:VecG (fun b=>B b∧l<b) R σ2 s (done.map (·.2)):=h9.keep (fun b e hb he=>⟨(g2 b (hw _ _ he).1 (by omega)).trans he,hb⟩) fun b cs hb hc=>⟨k2 b cs hc,hb⟩
  obtain⟨s',τ,ha,V3,hw3,ch3⟩:=JL (fun b=>B b∧l<b) R (fun b=>(B b∨σ.next≤b)∧l<b) σ2 s (done.map (·.2)) nilD [.int .i64 0,.int .i64 0,.string ⟨#[]⟩,.slice none 0 0] hw2 rfl rfl (by simp;omega) V2 ⟨none,0,rfl,trivial⟩ (fun b hb h=>by have:=hR b h;omega) (fun b hb=>⟨.inr (by omega),by omega⟩)
  have h83:τ.heap.get cm=some ⟨.cells [s] TL,false,none,v8⟩:=(ch3.get cm (by omega) (fun h=>by omega)).trans ((g2 cm oc (by omega)).trans h8)
  have n3:=ch3.next
  have hw4:=hw3.put cm (.cells [s'] TL) none (by omega)
  have V4:VecG (fun b=>(B b∨σ.next≤b)∧l<b) R (τ.put cm (.cells [s'] TL) none) s' (done.map (·.2)++[nilD]):=V3.keep (fun b e hb he=>⟨by rw[An,if_neg (by omega)];exact he,hb⟩) fun b cs hb hc=>⟨by rw[Ar,if_neg (by have:=hR b hb;omega)];exact hc,hb⟩
  have kR4:∀b cs,R b→σ.cells b=some cs→(τ.put cm (.cells [s'] TL) none).cells b=some cs:=fun b cs hb hc=>by
   have:=hR b hb
   rw[Ar,if_neg (by omega)]
   exact(ch3.cells (by have:=hw.cells hc;omega) (fun h=>by omega)).trans (k2 b cs hc)
  obtain⟨bv,hs',hbv,τ5,e5,V5,hw5,ch5,n5⟩:=AeP (fun b=>(B b∨σ.next≤b)∧l<b) R _ s' (done.map (·.2)) nilD (.mk k z t ps) [.int .i64 k,.int .i64 z,.string t,.slice p ps.length c] hw4 rfl rfl V4 (hL0.keep fun b cs hb hc=>⟨kR4 b cs hb hc,hb⟩) (fun b hb h=>by have:=hR b h;omega)
  have hv2:=BQ hw2 (Nat.le_refl σ2.clock)
  obtain⟨p0,hs,_⟩:=V2.slice
  subst hs
  subst hs'
  have hcmb:bv≠cm:=by omega
  have hone:=V3.one
  rw[List.length_map] at e5 ha V4 V5 h83 h8 V2 V3
  simp -implicitDefEqProofs only[go_sem,AbS,AfZ,Ace,ET,AmJ,Y1,Aes,hv2,b2,h5,c8,ha,h83,e5,Abs _ _ _ _ _ _ hcmb,List.length_map,Afb,Nat.lt_add_one,KY]
  have l5:LoopAt 92 [14,15] Cz CA 12 43 f g l r .busy τ5:=l2.keep (by rw[ch5.get l (by rw[Ao];omega) (by omega),An,if_neg (by omega),ch3.get l (by omega) (by omega)])
  rw[D6 _ _ _ _ _ _ _ _ _ _ l r _ _ l5]
  have m5:=ch5.next
  rw[Ao] at n5 m5
  have g5:∀(o:FObj) b,b<σ.next→b≠l→b≠cm→¬ (B b∧l<b)→(τ5.put l o none).heap.get b=σ.heap.get b:=fun o b hb hl hc hB=>by
   rw[An,if_neg hl,ch5.get b (by rw[Ao];omega) (fun h=>hB ⟨h.1.resolve_right (by omega),h.2⟩),An,if_neg hc,ch3.get b (by omega) hB]
   exact g2 b hb hl
  have gc5:∀o:FObj,(τ5.put l o none).heap.get cm=some ⟨.cells [.slice (some ⟨bv,0,none⟩) (done.length+1) (done.length+1)] TL,false,none,τ.clock⟩:=fun o=>by
   rw[An,if_neg (by omega),ch5.get cm (by rw[Ao];omega) (fun h=>by omega),An,if_pos rfl,List.length_map]
  have kl5:∀b cs,R b→σ.cells b=some cs→τ5.cells b=some cs:=fun b cs hb hc=>by
   have:=hR b hb
   have:=hw.cells hc
   exact(ch5.cells (by rw[Ao];omega) (fun h=>by omega)).trans (kR4 b cs hb hc)
  refine⟨fun b=>B b∨(σ.next≤b∧b<τ5.next),_,rfl,hw5.put _ _ _ (by omega),⟨by rw[Ao];omega,by have:=C2.clock;have:=ch3.clock;have:=ch5.clock;rw[Cy] at this;rw[Cy];omega,fun b hb hB=>g5 _ b hb (fun h=>hB (h ▸ h1 l (by simp))) (fun h=>hB (h ▸ h1 cm (by simp))) fun h=>hB h.1⟩,fun b hb=>by
   rcases hb with h|h
   ·exact .inl h
   ·exact .inr h.1,fun b hb=>.inl (h1 b hb),fun b hb=>?_,LoopAt.put _ _ _ _ _ _ _ _ _ _ _ _,⟨v7,(g5 _ r or' (by omega) (by omega) (by omega)).trans h7⟩,_,_,gc5 _,?_⟩
  ·rw[Ao]
   rcases hb with h|h
   ·exact⟨by have:=(h2 b h).1;omega,(h2 b h).2⟩
   ·exact⟨h.2,.inr (.inr (.inr (by omega)))⟩
  ·rw[List.map_append,List.map_singleton]
   exact V5.keep (fun b e hb he=>⟨by rw[An,if_neg (by omega)];exact he,by
    have:=(hw5 _ _ he).1
    rcases hb.1 with h|h
    ·exact .inl h
    ·exact .inr ⟨h,this⟩,hb.2⟩) fun b cs hb hc=>⟨by rw[Ar,if_neg (by have:=hR b hb;omega)];exact hc,hb⟩
end Go.Proofs.YtokieofohmgjdaaGreatDoor
namespace Go.Proofs.YtokieofohmgjdaaGreatDoor
open Go Go.Eng
attribute [local congr] Ac Aj Ai Ad Ah
attribute [-go_sem] List.range_succ
section
variable {kk n l bw bo bp base:Nat} {R:Nat→Prop} {g:Value} {I:List (List Nat×D)→(Nat→Prop)→FState→Prop} {all done:List (List Nat×D)} {B:Nat→Prop} {u:Value} {us:List Value} {ds:List D} {i:Nat} {d:D} {r:List (List D×Nat)} {f:Nat→Value} {σ:FState}
def StopAt(E:Env)(l:Nat)(R:Nat→Prop)(I:List (List Nat×D)→(Nat→Prop)→FState→Prop)(J:(Nat→Prop)→FState→Prop)(pre:List (List Nat×D))(path:List Nat)(d:D):Prop:=
 ∀B σ pv v,Wf σ→I pre B σ→PathAt σ pv path→LaidR R σ v d→∃B' σ',E.round l [pv,v] σ=.ret (.bool false) none σ'∧Wf σ'∧Chg B σ σ'∧(∀b,B' b→B b∨σ.next≤b)∧J B' σ'
theorem Zf{J:(Nat→Prop)→FState→Prop}(hB:BodyTo kk (env n) l R g I all)(hst:StopAt (env n) l R I J done (wayOf r++[i]) d)(h:WHead l R g I all bw bo bp base B (u::us) ((ds,i)::r) done f σ)(hd:ds[i]? = some d)(hr:r.length<90000)(gg:Nat→Value):
  ∃f' g' σ' B',Dg (env n) none 149 (Sl 8 80 f gg []) none σ=.done .ret (Sl 8 80 f' g' []) none σ'∧Chg (fun b=>B b∨base≤b) σ σ'∧(∀b,B' b→B b∨base≤b)∧Wf σ'∧J B' σ':=by
 obtain⟨p,c,mo,mp,rfl,hE,hl,h4,co,ho,h5,cp,hp⟩:=h.top
 have hv:=BQ h.wf (Nat.le_refl σ.clock)
 have d0:decide (Int.ofNat (r.length+1)>0)=true:=by simp
 have w1:=AqV r.length (by omega)
 have lt1:r.length<r.length+1:=Nat.lt_succ_self _
 have hi:i<ds.length:=(List.getElem?_eq_some_iff.1 hd).1
 have ne1:(Int.ofNat i==Int.ofNat ds.length)=false:=by simp;omega
 obtain⟨b,off,cs,rfl,hRb,hcs,hle,hL⟩:=LaidRE.get hE hd
 rw[Nat.zero_add] at hle hL
 obtain⟨k,z,t,q,c',hag,hq⟩:=LaidR.shape hL
 have htk:(cs.drop (off+i*4)).take 4=[.int .i64 k,.int .i64 z,.string t,.slice q d.parts.length c']:=by
  have:=congrArg (fun v=>match v with|.agg a=>a.toList|_=>[]) hag
  simpa using this
 rw[htk] at hL
 have hall:=h.all
 rw[CN r hd] at hall
 unfold Dg
 simp -implicitDefEqProofs only[go_sem,EB,E6,Gi,Gh,Gk,Gj,h4,h5,d0,w1,lt1,hv,co,cp,ho,hp,ne1]
 generalize hg:upd _ 33 _=g1
 clear hg
 have f4:upd f 6 (Value.int IntKind.i64 (Int.ofNat (r.length+1))) 4=f 4:=by simp -implicitDefEqProofs only[go_sem,reduceCtorEq]
 have f5:upd f 6 (Value.int IntKind.i64 (Int.ofNat (r.length+1))) 5=f 5:=by simp -implicitDefEqProofs only[go_sem,reduceCtorEq]
 have f0:upd f 6 (Value.int IntKind.i64 (Int.ofNat (r.length+1))) 0=f 0:=by simp -implicitDefEqProofs only[go_sem,reduceCtorEq]
 have f2:upd f 6 (Value.int IntKind.i64 (Int.ofNat (r.length+1))) 2=f 2:=by simp -implicitDefEqProofs only[go_sem,reduceCtorEq]
 have f6:upd f 6 (Value.int IntKind.i64 (Int.ofNat (r.length+1))) 6=Value.int IntKind.i64 (Int.ofNat (r.length+1)):=by simp -implicitDefEqProofs only[go_sem,reduceCtorEq]
 generalize upd f 6 _=f1 at f4 f5 f0 f2 f6 ⊢
 simp -implicitDefEqProofs only[go_sem,Aw,IX,HU,f4,f5,f6,h4,h5,w1,lt1,hv,co,cp,ho,hp,hi,hcs,hle,htk]
 generalize hg:upd _ 62 _=g2
 clear hg
 have p0:upd f1 7 (Value.pointer (some ⟨σ.next,0,none⟩)) 0=f 0:=by simp -implicitDefEqProofs only[go_sem,reduceCtorEq,f0]
 have p2:upd f1 7 (Value.pointer (some ⟨σ.next,0,none⟩)) 2=f 2:=by simp -implicitDefEqProofs only[go_sem,reduceCtorEq,f2]
 have p4:upd f1 7 (Value.pointer (some ⟨σ.next,0,none⟩)) 4=f 4:=by simp -implicitDefEqProofs only[go_sem,reduceCtorEq,f4]
 have p5:upd f1 7 (Value.pointer (some ⟨σ.next,0,none⟩)) 5=f 5:=by simp -implicitDefEqProofs only[go_sem,reduceCtorEq,f5]
 have p6:upd f1 7 (Value.pointer (some ⟨σ.next,0,none⟩)) 6=Value.int IntKind.i64 (Int.ofNat (r.length+1)):=by simp -implicitDefEqProofs only[go_sem,reduceCtorEq,f6]
 have p7:upd f1 7 (Value.pointer (some ⟨σ.next,0,none⟩)) 7=Value.pointer (some ⟨σ.next,0,none⟩):=by simp -implicitDefEqProofs only[go_sem,reduceCtorEq]
 generalize upd f1 7 _=f2' at p0 p2 p4 p5 p6 p7 ⊢
 have x1:Ext σ ((σ.push (.cells [.int .i64 0,.int .i64 0,.string ⟨#[]⟩,.slice none 0 0] TD) none).put σ.next (.cells [.int .i64 k,.int .i64 z,.string t,.slice q d.parts.length c'] TD) none):=((Ext.refl _).push _ _).put _ _ _ (Nat.le_refl _)
 have hw1:=(h.wf.push (.cells [.int .i64 0,.int .i64 0,.string ⟨#[]⟩,.slice none 0 0] TD) none).put σ.next (.cells [.int .i64 k,.int .i64 z,.string t,.slice q d.parts.length c'] TD) none (Nat.lt_succ_self _)
 have b1:((σ.push (.cells [.int .i64 0,.int .i64 0,.string ⟨#[]⟩,.slice none 0 0] TD) none).put σ.next (.cells [.int .i64 k,.int .i64 z,.string t,.slice q d.parts.length c'] TD) none).cells σ.next=some [.int .i64 k,.int .i64 z,.string t,.slice q d.parts.length c']:=by rw[Ar,if_pos rfl];rfl
 have hcl:((σ.push (.cells [.int .i64 0,.int .i64 0,.string ⟨#[]⟩,.slice none 0 0] TD) none).put σ.next (.cells [.int .i64 k,.int .i64 z,.string t,.slice q d.parts.length c'] TD) none).clock=σ.clock+2:=rfl
 have hnx:((σ.push (.cells [.int .i64 0,.int .i64 0,.string ⟨#[]⟩,.slice none 0 0] TD) none).put σ.next (.cells [.int .i64 k,.int .i64 z,.string t,.slice q d.parts.length c'] TD) none).next=σ.next+1:=rfl
 generalize FState.put _ _ _ _=σ1 at x1 hw1 b1 hcl hnx ⊢
 have hv1:=BQ hw1 (Nat.le_of_eq hcl)
 have hlp:r.length+1≤(List.map (fun i=>Value.int IntKind.i64 (Int.ofNat i)) (wayOf r)++Value.int IntKind.i64 (Int.ofNat i)::mp).length:=by simp[BB]
 have sl3:=K5 Tryz.prog 25 TI 1 bp 0 (r.length+1) _ (r.length+1) (view σ1 (σ.clock+2)) FS Ik hlp
 have i1:I done B σ1:=hB.stays _ _ _ _ h.inv h.wf (x1.chg _)
 have hbpn:=h.pth.lt h.wf
 have hP:PathAt σ1 (.slice (some ⟨bp,0,none⟩) (r.length+1) (r.length+1)) (wayOf r++[i]):=⟨some ⟨bp,0,none⟩,r.length+1,by simp[BB],.inr ⟨bp,mp,rfl,by rw[x1.cells hbpn,cp];simp⟩⟩
 have kR:∀b cs,R b→σ.cells b=some cs→σ1.cells b=some cs∧R b:=fun b cs hb hc=>⟨(x1.cells (h.wf.cells hc)).trans hc,hb⟩
 obtain⟨B',σ2,e2,hw2,ch2,hB',j2⟩:=hst B σ1 _ _ hw1 i1 hP (hL.keep kR)
 simp -implicitDefEqProofs only[go_sem,G7,FJ,p0,p5,p6,p7,h.f0,h5,hv1,b1,sl3,Cj,Cs,e2]
 have hbase:=h.base
 have n1:=x1.next
 exact⟨_,_,σ2,B',rfl,(x1.chg _).trans (ch2.weaken fun b _ hb=>.inl hb) (fun b _ hb=>hb),fun b hb=>(hB' b hb).imp id fun h'=>by omega,hw2,j2⟩
theorem M9{J:(Nat→Prop)→FState→Prop}{pre rest:List (List Nat×D)}{path:List Nat}(hB:BodyTo pre.length (env n) l R g I all)(hst:StopAt (env n) l R I J pre path d)(hS:Small all)(hsplit:all=pre++(path,d)::rest):∀(m fuel:Nat) (st:List (List D×Nat)) (us:List Value) (done:List (List Nat×D)) (B:Nat→Prop) (bo bp:Nat) (f gg:Nat→Value) (σ:FState),
  2*(todo st).length+st.length≤m→m<fuel→st.length≤80000→done.length≤pre.length→WHead l R g I all bw bo bp base B us st done f σ→
  ∃f' g' σ' B',floop [] (Dg (env n) none 149) fuel (Sl 8 80 f gg []) none σ=.done .ret (Sl 8 80 f' g' []) none σ'∧Chg (fun b=>B b∨base≤b) σ σ'∧(∀b,B' b→B b∨base≤b)∧Wf σ'∧J B' σ':=by
 intro m
 induction m with
 | zero=>
  intro fuel st us done B bo bp f gg σ hm hf hst' hdl h
  obtain rfl:st=[]:=by cases st with|nil=>rfl|cons _ _=>simp at hm
  have hall:=h.all
  rw[show todo ([]:List (List D×Nat))=[] from rfl,List.append_nil,hsplit] at hall
  have:=congrArg List.length hall
  simp at this
  omega
 | succ m ih=>
  intro fuel st us done B bo bp f gg σ hm hf hst' hdl h
  obtain⟨fuel,rfl⟩:∃q,fuel=q+1:=⟨fuel-1,by omega⟩
  cases st with
  | nil=>exact ih (fuel+1) [] us done B bo bp f gg σ (by simp[todo]) (by omega) hst' hdl h
  | cons x r=>
   obtain⟨ds,i⟩:=x
   cases us with
   | nil=>exact absurd h.lev (fun h=>h)
   | cons u us=>
    have hi:i≤ds.length:=h.lev.2.1
    have hr:r.length+1≤80000:=hst'
    rw[Am,Bk]
    by_cases he:i=ds.length
    ·subst he
     obtain⟨f',g',σ',e,hC,hH⟩:=MU hB h (by omega) (kept [] gg)
     rw[e,BC]
     rw[Im,EP] at hm
     have hlb:(bump r).length=r.length:=by cases r<;>rfl
     obtain⟨f2,g2,σ2,B2,e2,hC2,hB2,hw2,hJ2⟩:=ih fuel _ _ _ _ _ _ f' g' σ' (by simp at hm;omega) (by omega) (by omega) hdl hH
     exact⟨f2,g2,σ2,B2,e2,(hC.weaken fun b _ hb=>.inr hb.1).trans hC2 (fun b _ hb=>hb),hB2,hw2,hJ2⟩
    ·have hlt:i<ds.length:=by omega
     have hd:ds[i]? = some ds[i]:=List.getElem?_eq_getElem hlt
     have hall:=h.all
     rw[CN r hd] at hall
     have hx:=hS (wayOf r++[i],ds[i]) (by rw[hall];simp)
     by_cases hk:done.length<pre.length
     ·obtain⟨f',g',σ',B',bo',bp',u',e,hC,hBB,hH⟩:=MT hB hk h hd (by omega) hx.2 (kept [] gg)
      rw[e,BC]
      rw[CN r hd] at hm
      have hl:(wayOf r++[i]).length=r.length+1:=by simp[BB]
      have hx1:=hx.1
      simp only[hl] at hx1
      obtain⟨f2,g2,σ2,B2,e2,hC2,hB2,hw2,hJ2⟩:=ih fuel _ _ _ _ _ _ f' g' σ' (by simp at hm ⊢;omega) (by omega) (by simp;omega) (by simp;omega) hH
      refine⟨f2,g2,σ2,B2,e2,hC.trans hC2 fun b _ hb=>?_,fun b hb=>?_,hw2,hJ2⟩
      ·rcases hb with hb|hb
       ·exact hBB b hb
       ·exact .inr hb
      ·rcases hB2 b hb with hb|hb
       ·exact hBB b hb
       ·exact .inr hb
     ·have hle:done.length=pre.length:=by omega
      rw[hsplit] at hall
      obtain⟨h1,h2⟩:=List.append_inj hall hle.symm
      obtain⟨h3,h4⟩:=List.cons.inj h2
      obtain⟨h5,h6⟩:=Prod.mk.inj h3
      subst h1
      rw[h5] at hst
      have hst2:StopAt (env n) l R I J pre (wayOf r++[i]) ds[i]:=by rw[←h6];exact hst
      obtain⟨f',g',σ',B',e,hC,hBB,hw',hJ⟩:=Zf hB hst2 h hd (by omega) (kept [] gg)
      rw[e,CD]
      exact⟨f',g',σ',B',rfl,hC,hBB,hw',hJ⟩
theorem V0(d:D){J:(Nat→Prop)→FState→Prop}{pre rest:List (List Nat×D)}{path:List Nat}{x:D}(hB:BodyTo pre.length (env n) l R g I (d.pieces []))(hst:StopAt (env n) l R I J pre path x)(hsplit:d.pieces []=pre++(path,x)::rest)(hS:Small (d.pieces []))(hN:(d.pieces []).length<100000000000)(b1 b2:Nat)(σ:FState)(v:Value)(lv:List Value)(B:Nat→Prop)(hw:Wf σ)(hi:I [] B σ)(hcv:σ.cells b1=some lv)(hv:v=.agg lv.toArray)(hb1:¬ B b1)(hL:LaidR R σ v d)(hR:∀b,R b→b<σ.next)(hcw:σ.cells b2=some [g])(hb2:¬ B b2):
  ∃σ' B',(env (n+1)).call 149 [.func (.yield l) #[] #[],.pointer (some ⟨b1,0,none⟩),.pointer (some ⟨b2,0,none⟩)] none σ=.ret (.tuple #[]) none σ'∧Chg B σ σ'∧(∀b,B' b→B b∨σ.next≤b)∧Wf σ'∧J B' σ':=by
 subst hv
 obtain⟨k,z,t,q,c',hag,hq⟩:=LaidR.shape hL
 have hlv:lv=[.int .i64 k,.int .i64 z,.string t,.slice q d.parts.length c']:=by
  have:=congrArg (fun v=>match v with|.agg a=>a.toList|_=>[]) hag
  simpa using this
 subst hlv
 have hpc:=D.pieces_eq [] d
 by_cases hpre:pre=[]
 ·subst hpre
  rw[hpc] at hsplit
  obtain⟨h3,h4⟩:=List.cons.inj hsplit
  obtain⟨h5,h6⟩:=Prod.mk.inj h3
  subst h5
  subst h6
  obtain⟨B',σ1,e1,hw1,ch1,hB1,j1⟩:=hst B σ (.slice none 0 0) _ hw hi ⟨none,0,rfl,.inl ⟨rfl,rfl,rfl⟩⟩ hL
  rw[Ag _ 149 _ _ rfl,Fs _ _ _ _ (by simp),Af]
  unfold Hd
  have tk:List.take 4 [Value.int .i64 k,.int .i64 z,.string t,.slice q d.parts.length c']=[.int .i64 k,.int .i64 z,.string t,.slice q d.parts.length c']:=rfl
  simp -implicitDefEqProofs only[go_sem,EA,E5,hcv,Cj,Cs,e1]
  exact⟨_,_,rfl,ch1,hB1,hw1,j1⟩
 have hpos:0<pre.length:=List.length_pos_iff.2 hpre
 obtain⟨B',σ1,e1,hw1,ch1,hB1,i1⟩:=hB.go [] [] d _ B σ (.slice none 0 0) _ hpos (by rw[hpc];rfl) hw hi ⟨none,0,rfl,.inl ⟨rfl,rfl,rfl⟩⟩ hL
 have ownB:=hB.own _ _ _ hi
 have ownB1:=hB.own _ _ _ i1
 have hb1n:=hw.cells hcv
 have hb2n:=hw.cells hcw
 have n1:=ch1.next
 have cv1:σ1.cells b1=some [.int .i64 k,.int .i64 z,.string t,.slice q d.parts.length c']:=(ch1.cells hb1n hb1).trans hcv
 have cw1:σ1.cells b2=some [g]:=(ch1.cells hb2n hb2).trans hcw
 obtain⟨_,σ2,e2,x2,hw2,rfl⟩:=hB.inside _ B' σ1 k z t q d.parts.length c' i1 hw1
 have n2:=x2.next
 have x3:Ext σ2 ((σ2.push (.cells [.slice q d.parts.length c'] TL) none).push (.cells [.int .i64 0] TI) none):=((Ext.refl _).push _ _).push _ _
 have hw3:=(hw2.push (.cells [.slice q d.parts.length c'] TL) none).push (.cells [.int .i64 0] TI) none
 have hlow:∀b,B' b→B b∨σ.next≤b:=hB1
 have nB:∀b,b<σ.next→¬ B b→¬ B' b:=fun b hb h1 h2=>by
  rcases hB1 b h2 with h3|h3
  ·exact h1 h3
  ·omega
 have c03:∀b,b<σ.next→¬ B b→((σ2.push (.cells [.slice q d.parts.length c'] TL) none).push (.cells [.int .i64 0] TI) none).heap.get b=σ.heap.get b:=fun b hb h0=>
  (x3.get b (by omega)).trans ((x2.get b (by omega)).trans (ch1.get b hb h0))
 have kR:∀b cs,R b→σ.cells b=some cs→((σ2.push (.cells [.slice q d.parts.length c'] TL) none).push (.cells [.int .i64 0] TI) none).cells b=some cs:=fun b cs hb hc=>by
  rw[Ap,c03 b (hR b hb) (fun hB0=>(ownB b hB0).2 hb),←Ap]
  exact hc
 rw[Ag _ 149 _ _ rfl,Fs _ _ _ _ (by simp),Af]
 unfold Hd
 have tk:List.take 4 [Value.int .i64 k,.int .i64 z,.string t,.slice q d.parts.length c']=[.int .i64 k,.int .i64 z,.string t,.slice q d.parts.length c']:=rfl
 simp -implicitDefEqProofs only[go_sem,EA,E5,IV,HS,IW,HT,hcv,Cj,Cs,e1,cw1,cv1,e2,Af8,DF]
 generalize hff:upd _ 5 _=f1
 generalize hgg:upd _ 16 _=g1
 generalize hbf:bigFuel=fuel
 have hH:WHead l R g I (d.pieces []) b2 σ2.next (σ2.next+1) σ.next B' [.slice q d.parts.length c'] [(d.parts,0)] ([]++[([],d)]) f1 ((σ2.push (.cells [.slice q d.parts.length c'] TL) none).push (.cells [.int .i64 0] TI) none):={
  f0:=by rw[←hff];simp -implicitDefEqProofs only[go_sem,reduceCtorEq]
  f2:=by rw[←hff];simp -implicitDefEqProofs only[go_sem,reduceCtorEq]
  cw:=by rw[Ap,c03 b2 hb2n hb2,←Ap];exact hcw
  hbw:=⟨hb2n,nB b2 hb2n hb2⟩
  opn:=⟨_,none,σ2.clock,by rw[←hff];simp -implicitDefEqProofs only[go_sem,reduceCtorEq]<;>rfl,by rw[Ak,if_neg (by rw[Aa];omega),Ak,if_pos rfl];rfl,.inl rfl,[],rfl⟩
  hbo:=⟨by omega,fun h=>by have:=(ownB1 _ h).1;omega⟩
  lev:=⟨⟨q,c',rfl,hq.keep fun b cs hb hc=>⟨kR b cs hb hc,hb⟩⟩,Nat.zero_le _,(hS ([],d) (by rw[hpc];exact List.mem_cons_self)).2,trivial⟩
  low:=hR
  pth:=⟨_,none,σ2.clock+1,by rw[←hff];simp -implicitDefEqProofs only[go_sem,reduceCtorEq]<;>rfl,by rw[Ak,if_pos (by rw[Aa])];rfl,.inl rfl,[],rfl⟩
  hbp:=⟨by omega,fun h=>by have:=(ownB1 _ h).1;omega⟩
  ne:=by omega
  inv:=hB.stays _ _ _ _ i1 hw1 (by
   have:=x2.clock
   have:=x3.clock
   have:=x3.next
   exact⟨by omega,by omega,fun b hb _=>(x3.get b (by omega)).trans (x2.get b hb)⟩)
  all:=by rw[hpc];show _=[]++[([],d)]++(D.piecesL [] 0 (d.parts.drop 0)++[]);simp
  wf:=hw3
  base:=by rw[Aa,Aa];omega }
 obtain⟨f2,g2,σ4,B4,e4,ch4,hB4,hw4,i4⟩:=M9 hB hst hS hsplit _ fuel _ _ _ _ _ _ f1 g1 _ (Nat.le_refl _) (by
  rw[←hbf]
  show _<1000000000000
  have h1:(todo [(d.parts,0)]).length=(D.piecesL [] 0 d.parts).length:=by simp[todo,below,wayOf]
  have h2:=congrArg List.length hpc
  rw[List.length_cons] at h2
  rw[h1,List.length_singleton]
  omega) (by simp) (by simp;omega) hH
 rw[e4]
 simp -implicitDefEqProofs only[go_sem]
 refine⟨_,B4,rfl,⟨?_,?_,?_⟩,?_,hw4,i4⟩
 ·have:=x3.next;have:=ch4.next;omega
 ·have:=ch1.clock;have:=x2.clock;have:=x3.clock;have:=ch4.clock;omega
 ·intro b hb h0
  have:=x3.next
  rw[ch4.get b (by omega) (fun h=>by
   rcases h with h|h
   ·exact nB b hb h0 h
   ·omega)]
  exact c03 b hb h0
 ·intro b hb
  rcases hB4 b hb with h|h
  ·exact hB1 b h
  ·exact .inr h
end
end Go.Proofs.YtokieofohmgjdaaGreatDoor
namespace Go.Proofs.YtokieofohmgjdaaGreatDoor
open Go Go.Eng
attribute [local congr] Ac Aj Ai Ad Ah
attribute [-go_sem] List.range_succ
section
variable (fn:FuncId) (params:List Tmp) (assign body:Code) (nl nt:Nat) (f g:Nat→Value) (σ:FState)
def LoopDone(l r id:Nat)(σ:FState):Prop:=∃ver,σ.heap.get l=some ⟨.loop .done (some (.exit id)) fn ((List.range nl).map f) g nl nt params assign body r,false,none,ver⟩
theorem Ni(known:Bool)(l r id:Nat)(a:FAct)(u:Option FrameMode)(h:LoopAt fn params assign body nl nt f g l r .busy σ):
  endRound known l (.done (.exit id) a u σ)=.ret (.bool false) none (σ.put l (.loop .done (some (.exit id)) fn ((List.range nl).map f) g nl nt params assign body r) none):=by
 obtain⟨ver,h⟩:=h
 show endJump l .done (some (.exit id)) false σ=_
 unfold endJump setJump
 simp only[h]
 rfl
theorem LoopDone.put(l r id:Nat):LoopDone fn params assign body nl nt f g l r id (σ.put l (.loop .done (some (.exit id)) fn ((List.range nl).map f) g nl nt params assign body r) none):=⟨_,by rw[An,if_pos rfl]⟩
theorem Lj(ds:List Deferred)(u:Option FrameMode)(l r id:Nat)(mark:List Deferred)(v:Value)(u':Option FrameMode)(h:LoopDone fn params assign body nl nt f g l r id σ):
  leaveLoop l mark (Sl nl nt f g ds) u (.ret v u' σ)=.done (.exit id) (Sl nl nt f g (mark++ds)) u (σ.put l (.loop .exhausted (some (.exit id)) fn ((List.range nl).map f) g nl nt params assign body r) none):=by
 obtain⟨ver,h⟩:=h
 unfold leaveLoop
 simp only[h]
 rfl
end
theorem JV{J:(Nat→Prop)→FState→Prop}{pre rest:List (List Nat×D)}{path:List Nat}{x:D}(id:Nat)(m:Nat)(fn:FuncId)(params:List Tmp)(assign body:Code)(nl nt:Nat)(f g:Nat→Value)(ds:List Deferred)(u:Option FrameMode)(t b1 b2:Nat)(σ:FState)(w:Value)(R:Nat→Prop)(d:D)(lv:List Value)(I:List (List Nat×D)→(Nat→Prop)→FState→Prop)(B:Nat→Prop)(hB:BodyTo pre.length (env m) (σ.next+1) R w I (d.pieces []))(hst:StopAt (env m) (σ.next+1) R I J pre path x)(hsplit:d.pieces []=pre++(path,x)::rest)(hS:Small (d.pieces []))(hN:(d.pieces []).length<100000000000)(hl:∀B σ',J B σ'→LoopDone fn params assign body nl nt f g (σ.next+1) σ.next id σ')(hi:I [] B ((σ.push (.defd true) none).push (.loop .ready none fn ((List.range nl).map f) g nl nt params assign body σ.next) none))(ht:(Sl nl nt f g ds).get t=.func (.func 149) #[] #[.pointer (some ⟨b1,0,none⟩),.pointer (some ⟨b2,0,none⟩)])(hw:Wf σ)(hcv:σ.cells b1=some lv)(hb1:¬ B b1)(hL:LaidR R σ (.agg lv.toArray) d)(hR:∀b,R b→b<σ.next)(hcw:σ.cells b2=some [w])(hb2:¬ B b2):
  ∃σ' B',frange (env (m+1)) none fn (.tmp t) params assign body (Sl nl nt f g ds) u σ=
    .done (.exit id) (Sl nl nt f g ({ target:=.collected σ.next,args:=#[] }::ds)) u (σ'.put (σ.next+1) (.loop .exhausted (some (.exit id)) fn ((List.range nl).map f) g nl nt params assign body σ.next) none)∧
   Chg B σ σ'∧σ.next+2≤σ'.next∧(∀b,B' b→B b∨σ.next≤b)∧Wf σ'∧J B' σ':=by
 rw[IH _ _ _ _ _ _ _ _ _ _ _ _ t _ _ _ ht]
 have x1:Ext σ ((σ.push (.defd true) none).push (.loop .ready none fn ((List.range nl).map f) g nl nt params assign body σ.next) none):=((Ext.refl _).push _ _).push _ _
 have hw1:=(hw.push (.defd true) none).push (.loop .ready none fn ((List.range nl).map f) g nl nt params assign body σ.next) none
 have hn1:((σ.push (.defd true) none).push (.loop .ready none fn ((List.range nl).map f) g nl nt params assign body σ.next) none).next=σ.next+2:=rfl
 generalize FState.push _ (.loop .ready none fn ((List.range nl).map f) g nl nt params assign body σ.next) none=σ1 at hi x1 hw1 hn1 ⊢
 have hb1n:=hw.cells hcv
 have hb2n:=hw.cells hcw
 obtain⟨σ2,B2,e2,ch2,hB2,hw2,i2⟩:=V0 d hB hst hsplit hS hN b1 b2 σ1 _ lv B hw1 hi ((x1.cells hb1n).trans hcv) rfl hb1 (hL.keep fun b cs hb hc=>⟨(x1.cells (hw.cells hc)).trans hc,hb⟩) (fun b hb=>by have:=hR b hb;omega) ((x1.cells hb2n).trans hcw) hb2
 have hargs:(#[]:Array Value).toList++[Value.func (.yield (σ.next+1)) #[] #[]]++(#[.pointer (some ⟨b1,0,none⟩),.pointer (some ⟨b2,0,none⟩)]:Array Value).toList=[.func (.yield (σ.next+1)) #[] #[],.pointer (some ⟨b1,0,none⟩),.pointer (some ⟨b2,0,none⟩)]:=rfl
 rw[hargs,e2,Lj _ _ _ _ _ _ _ _ _ _ _ _ _ _ _ _ _ (hl _ _ i2)]
 have n2:=ch2.next
 refine⟨σ2,B2,rfl,⟨by omega,Nat.le_trans x1.clock ch2.clock,fun b hb h0=>(ch2.get b (by omega) h0).trans (x1.get b hb)⟩,by omega,fun b hb=>?_,hw2,i2⟩
 rcases hB2 b hb with h|h
 ·exact .inl h
 ·exact .inr (by omega)
end Go.Proofs.YtokieofohmgjdaaGreatDoor
namespace Go.Proofs.YtokieofohmgjdaaGreatDoor
open Go Go.Eng
attribute [local congr] Ac Aj Ai Ad Ah
attribute [-go_sem] List.range_succ
def likeD:D→D→Bool
 | .mk k z t ps,.mk k' z' t' ps'=>(k==k')&&(z==z')&&(t.toList==t'.toList)&&(Int.ofNat ps.length==Int.ofNat ps'.length)
def CmpB(l r mb fb cm bv:Nat)(R:Nat→Prop)(es:List D)(n:Nat)(fv:Value→FState→Prop)(B:Nat→Prop)(σ:FState):Prop:=
 (∀b,b=l∨b=r∨b=mb∨b=fb∨b=cm∨b=bv→B b)∧(∀b,B b→b<σ.next∧(b=l∨b=r∨b=mb∨b=fb∨b=cm∨b=bv∨l<b))∧(∃ver,σ.heap.get r=some ⟨.defd true,false,none,ver⟩)∧
  (∃ver,σ.heap.get mb=some ⟨.cells [.int .i64 (.ofNat n)] TI,false,none,ver⟩)∧(∃w ver,σ.heap.get fb=some ⟨.cells [w] 25,false,none,ver⟩∧fv w σ)∧∃s,σ.cells cm=some [s]∧VecG (· = bv) R σ s es
def CmpI(l r mb fb cm bv:Nat)(R:Nat→Prop)(es:List D)(f g:Nat→Value)(done:List (List Nat×D))(B:Nat→Prop)(σ:FState):Prop:=
 LoopAt 92 [24,25] CB CC 12 43 f g l r .ready σ∧CmpB l r mb fb cm bv R es done.length (fun w _=>w=.slice none 0 0) B σ
theorem CmpB.keep{l r mb fb cm bv n:Nat}{R:Nat→Prop}{es:List D}{fv:Value→FState→Prop}{B:Nat→Prop}{σ σ':FState}(h:CmpB l r mb fb cm bv R es n fv B σ)(hw:Wf σ)(hn:σ.next≤σ'.next)(hk:∀b,B b→b≠l→σ'.heap.get b=σ.heap.get b)(hne:l≠r∧l≠mb∧l≠fb∧l≠cm∧l≠bv)(hR:∀b c,R b→σ.cells b=some c→σ'.cells b=some c)(hf:∀w,fv w σ→fv w σ'):CmpB l r mb fb cm bv R es n fv B σ':=by
 obtain⟨h1,h2,⟨v3,h3⟩,⟨v4,h4⟩,⟨w,v5,h5,h6⟩,s,h7,h8⟩:=h
 refine⟨h1,fun b hb=>⟨Nat.lt_of_lt_of_le (h2 b hb).1 hn,(h2 b hb).2⟩,⟨v3,(hk r (h1 r (by simp)) (Ne.symm hne.1)).trans h3⟩,⟨v4,(hk mb (h1 mb (by simp)) (Ne.symm hne.2.1)).trans h4⟩,⟨w,v5,(hk fb (h1 fb (by simp)) (Ne.symm hne.2.2.1)).trans h5,hf w h6⟩,s,?_,h8.keep (fun b e hb he=>⟨?_,hb⟩) fun b c hb hc=>⟨hR b c hb hc,hb⟩⟩
 ·rw[Ap,hk cm (h1 cm (by simp)) (Ne.symm hne.2.2.2.1),←Ap];exact h7
 ·rw[hb] at he ⊢
  exact(hk bv (h1 bv (by simp)) (Ne.symm hne.2.2.2.2)).trans he
theorem NS(M l r mb fb cm bv:Nat)(R:Nat→Prop)(es:List D)(f g:Nat→Value)(hne:l≠r∧l≠mb∧l≠fb∧l≠cm∧l≠bv)(h5:f 5=.pointer (some ⟨cm,0,none⟩))(h8:f 8=.pointer (some ⟨mb,0,none⟩))(hR:∀b,R b→b≠l)(hes:es.length<1000)(done:List (List Nat×D))(d e:D)(B:Nat→Prop)(σ:FState)(pv v:Value)(hw:Wf σ)(h:CmpI l r mb fb cm bv R es f g done B σ)(hL:LaidR R σ v d)(he:es[done.length]? = some e):
  ∃σ3 f' g',(env (M+3)).round l [pv,v] σ=endRound (Tryz.prog.funcs[92]?).isSome l (blockK 3 (blockK 4 (if likeD d e=true then fops (env (M+2)) (some l) YU (Sl 12 43 f' g' []) none σ3 else andThen (fops (env (M+2)) (some l) YT (Sl 12 43 f' g' []) none σ3) (exitR 2))))∧f' 8=f 8∧f' 9=f 9∧f' 10=pv∧
   Wf σ3∧Chg (· = l) σ σ3∧LoopAt 92 [24,25] CB CC 12 43 f g l r .busy σ3:=by
 obtain⟨h6,h1,h2,⟨v3,h3⟩,⟨v4,h4⟩,⟨w,v7,h7,rfl⟩,s,hs,hV⟩:=h
 obtain⟨k,z,t,ps⟩:=d
 obtain⟨p,c,rfl,hq⟩:=hL
 have own:=fun b hb=>(h2 b (h1 b hb)).1
 have ol:=own l (by simp)
 rw[FP _ _ _ _ _ _ _ _ _ (M+2) l r _ h6 rfl,AbF]
 simp -implicitDefEqProofs only[go_sem,Aw,AmO,Y5,AmP,Y6,List.zip_cons_cons,List.zip_nil_right,Dz,D2]
 have x1:Ext σ ((σ.push (.cells [.int .i64 0,.int .i64 0,.string ⟨#[]⟩,.slice none 0 0] TD) none).put σ.next (.cells [.int .i64 k,.int .i64 z,.string t,.slice p ps.length c] TD) none):=((Ext.refl _).push _ _).put _ _ _ (Nat.le_refl _)
 have hw1:=(hw.push (.cells [.int .i64 0,.int .i64 0,.string ⟨#[]⟩,.slice none 0 0] TD) none).put σ.next (.cells [.int .i64 k,.int .i64 z,.string t,.slice p ps.length c] TD) none (Nat.lt_succ_self _)
 have b1:((σ.push (.cells [.int .i64 0,.int .i64 0,.string ⟨#[]⟩,.slice none 0 0] TD) none).put σ.next (.cells [.int .i64 k,.int .i64 z,.string t,.slice p ps.length c] TD) none).cells σ.next=some [.int .i64 k,.int .i64 z,.string t,.slice p ps.length c]:=by rw[Ar,if_pos rfl];rfl
 have n1:((σ.push (.cells [.int .i64 0,.int .i64 0,.string ⟨#[]⟩,.slice none 0 0] TD) none).put σ.next (.cells [.int .i64 k,.int .i64 z,.string t,.slice p ps.length c] TD) none).next=σ.next+1:=rfl
 generalize FState.put _ _ _ _=σ1 at x1 hw1 b1 n1 ⊢
 have l1:=h6.keep (x1.get l ol)
 rw[CP _ _ _ _ _ _ _ _ _ l r _ l1,AbG]
 have hw2:=hw1.put l (.loop .busy none 92 ((List.range 12).map f) g 12 43 [24,25] CB CC r) none (by omega)
 have l2:LoopAt 92 [24,25] CB CC 12 43 f g l r .busy (σ1.put l (.loop .busy none 92 ((List.range 12).map f) g 12 43 [24,25] CB CC r) none):=LoopAt.put _ _ _ _ _ _ _ _ _ _ _ _
 have n2:(σ1.put l (.loop .busy none 92 ((List.range 12).map f) g 12 43 [24,25] CB CC r) none).next=σ.next+1:=n1
 have C2:Chg (· = l) σ (σ1.put l (.loop .busy none 92 ((List.range 12).map f) g 12 43 [24,25] CB CC r) none):=(x1.chg _).put _ _ _ (.inr rfl)
 have b2:(σ1.put l (.loop .busy none 92 ((List.range 12).map f) g 12 43 [24,25] CB CC r) none).cells σ.next=some [.int .i64 k,.int .i64 z,.string t,.slice p ps.length c]:=by rw[Ar,if_neg (by omega)];exact b1
 generalize FState.put _ l _ _=σ2 at hw2 l2 b2 C2 n2 ⊢
 have hlc:∀b cs,σ.cells b=some cs→b≠l:=fun b cs hc hb=>by
  obtain⟨ver,h6⟩:=h6
  rw[hb,Ap,h6] at hc
  cases hc
 have k2:∀b cs,σ.cells b=some cs→σ2.cells b=some cs:=fun b cs hc=>(C2.cells (hw.cells hc) (hlc b cs hc)).trans hc
 have cs2:=k2 _ _ hs
 have cm2:=k2 _ _ (Au h4)
 obtain⟨p0,hs0,hE⟩:=hV.slice
 subst hs0
 obtain⟨b,off,cs,rfl,hRb,hcs,hle,hLe⟩:=LaidRE.get hE he
 obtain⟨k',z',t',ps'⟩:=e
 obtain⟨p',c',hag,hq'⟩:=hLe
 rw[Nat.zero_add] at hag hle
 have htk:(cs.drop (off+done.length*4)).take 4=[.int .i64 k',.int .i64 z',.string t',.slice p' ps'.length c']:=by
  have:=Value.agg.inj hag
  simpa using congrArg Array.toList this
 have hlt:done.length<es.length:=(List.getElem?_eq_some_iff.1 he).1
 have hcs2:=k2 _ _ hcs
 obtain⟨_,σ3,e3,x3,hw3,rfl⟩:=Abq (M+1) k z k' z' t t' p p' ps.length ps'.length c c' σ2 hw2
 have hv2:=BQ hw2 (Nat.le_refl σ2.clock)
 simp -implicitDefEqProofs only[go_sem,Aeo,SE,hv2,b2,h5,h8,cs2,cm2,hlt,hcs2,hle,htk,e3]
 have hlk:likeD (.mk k z t ps) (.mk k' z' t' ps')=((k==k')&&(z==z')&&(t.toList==t'.toList)&&(Int.ofNat ps.length==Int.ofNat ps'.length)):=rfl
 rw[←hlk]
 refine⟨σ3,_,_,rfl,?_,?_,?_,hw3,C2.trans (x3.chg _) (fun b _ hb=>hb),l2.keep (x3.get l (by omega))⟩
 ·simp -implicitDefEqProofs only[go_sem,reduceCtorEq,h8]
 ·simp -implicitDefEqProofs only[go_sem,reduceCtorEq]
 ·simp -implicitDefEqProofs only[go_sem,reduceCtorEq]
theorem Ts(M l r mb fb cm bv:Nat)(R:Nat→Prop)(es:List D)(f g:Nat→Value)(all:List (List Nat×D))(kk:Nat)(hne:cm<bv∧bv<mb∧mb<fb∧fb<r∧r<l)(h5:f 5=.pointer (some ⟨cm,0,none⟩))(h8:f 8=.pointer (some ⟨mb,0,none⟩))(hR:∀b,R b→b<cm)(hes:es.length<1000)(hlike:∀(i:Nat) (x:List Nat×D),i<kk→all[i]? = some x→∃e,es[i]? = some e∧likeD x.2 e=true):
  BodyTo kk (env (M+3)) l R (.func (.func 153) #[] #[]) (CmpI l r mb fb cm bv R es f g) all where
 stays:=fun done B σ σ' ⟨h6,h⟩ hw hC=>⟨h6.keep (hC.get l (h.2.1 l (h.1 l (by simp))).1 fun h'=>h'.1 (h.1 l (by simp))),h.keep hw hC.next (fun b hb _=>hC.get b (h.2.1 b hb).1 fun h'=>h'.1 hb) (by omega) (fun b c hb hc=>(hC.cells (hw.cells hc) fun h'=>h'.2 hb).trans hc) fun w hw'=>hw'⟩
 own:=fun done B σ ⟨_,h⟩ b hb=>⟨(h.2.1 b hb).1,fun hr=>by
  have:=hR b hr
  have:=(h.2.1 b hb).2
  omega⟩
 inside:=fun done B σ k z t p ln c _ hw=>FY (M+2) _ 153 #[] rfl k z t (.slice p ln c) (B6 _ _ _) σ hw fun σ' _ hw'=>⟨_,σ',Ta (M+1) _ σ',Ext.refl _,hw',rfl⟩
 go:=fun done path d rest B σ pv v hk hall' hw h hpath hL=>by
  obtain⟨e,he,hl⟩:=hlike done.length (path,d) hk (by rw[hall',List.getElem?_append_right (Nat.le_refl _),Nat.sub_self];rfl)
  obtain⟨σ3,f',g',e3,q8,q9,q10,hw3,C3,l3⟩:=NS M l r mb fb cm bv R es f g (by omega) h5 h8 (fun b hb=>by have:=hR b hb;omega) hes done d e B σ pv v hw h hL he
  rw[e3,hl]
  obtain⟨h6,hB⟩:=h
  have hB0:=hB
  obtain⟨h1,h2,⟨v3,h3⟩,⟨v4,h4⟩,⟨w,v5,h5',rfl⟩,s,hs,hV⟩:=hB
  have own:=fun b hb=>(h2 b (h1 b hb)).1
  have om:=own mb (by simp)
  have hdl:done.length<es.length:=(List.getElem?_eq_some_iff.1 he).1
  have gm:σ3.heap.get mb=some ⟨.cells [.int .i64 (.ofNat done.length)] TI,false,none,v4⟩:=(C3.get mb om (by omega)).trans h4
  have cm3:=Au gm
  have a1:=D4 done.length (by omega)
  simp -implicitDefEqProofs only[go_sem,ET,Aep,SF,q8,h8,gm,cm3,a1]
  have l4:LoopAt 92 [24,25] CB CC 12 43 f g l r .busy (σ3.put mb (.cells [.int .i64 (.ofNat (done.length+1))] TI) none):=l3.keep (by rw[An,if_neg (by omega)])
  rw[D6 _ _ _ _ _ _ _ _ _ _ l r _ _ l4]
  have n3:=C3.next
  have og:∀(o:FObj) b,b<σ.next→b≠l→b≠mb→((σ3.put mb (.cells [.int .i64 (.ofNat (done.length+1))] TI) none).put l o none).heap.get b=σ.heap.get b:=fun o b hb hl hm=>by
   rw[An,if_neg hl,An,if_neg hm];exact C3.get b hb hl
  refine⟨B,_,rfl,(hw3.put _ _ _ (by omega)).put _ _ _ (by rw[Ao];have:=own l (by simp);omega),⟨by rw[Ao,Ao];omega,by have:=C3.clock;rw[Cy,Cy];omega,fun b hb hB=>og _ b hb (fun h=>hB (h ▸ h1 l (by simp))) (fun h=>hB (h ▸ h1 mb (by simp)))⟩,fun b hb=>.inl hb,LoopAt.put _ _ _ _ _ _ _ _ _ _ _ _,h1,fun b hb=>⟨by rw[Ao,Ao];have:=(h2 b hb).1;omega,(h2 b hb).2⟩,⟨v3,(og _ r (own r (by simp)) (by omega) (by omega)).trans h3⟩,⟨σ3.clock,?_⟩,⟨_,v5,(og _ fb (own fb (by simp)) (by omega) (by omega)).trans h5',rfl⟩,s,?_,hV.keep (fun b e hb he=>⟨(og _ b (hw _ _ he).1 (by omega) (by omega)).trans he,hb⟩) fun b c hb hc=>⟨?_,hb⟩⟩
  ·rw[An,if_neg (by omega),An,if_pos rfl,List.length_append,List.length_singleton]
  ·rw[Ap,og _ cm (own cm (by simp)) (by omega) (by omega),←Ap];exact hs
  ·rw[Ap,og _ b (hw.cells hc) (by have:=hR b hb;omega) (by have:=hR b hb;omega),←Ap];exact hc
def CmpJ(l r mb fb cm bv:Nat)(R:Nat→Prop)(es:List D)(f g:Nat→Value)(n:Nat)(path:List Nat)(base:Nat)(B:Nat→Prop)(σ:FState):Prop:=
 LoopDone 92 [24,25] CB CC 12 43 f g l r 2 σ∧CmpB l r mb fb cm bv R es n (fun w σ=>PathV (fun b=>base≤b) σ w path) B σ
theorem Afg(M l r mb fb cm bv:Nat)(R:Nat→Prop)(es:List D)(f g:Nat→Value)(pre:List (List Nat×D))(path:List Nat)(d e:D)(hne:cm<bv∧bv<mb∧mb<fb∧fb<r∧r<l)(h5:f 5=.pointer (some ⟨cm,0,none⟩))(h8:f 8=.pointer (some ⟨mb,0,none⟩))(h9:f 9=.pointer (some ⟨fb,0,none⟩))(hR:∀b,R b→b<cm)(hes:es.length<1000)(hp:path.length<90000)(he:es[pre.length]? = some e)(hl:likeD d e=false):StopAt (env (M+3)) l R (CmpI l r mb fb cm bv R es f g) (CmpJ l r mb fb cm bv R es f g pre.length path (l+1)) pre path d:=by
 intro B σ pv v hw h hpath hL
 obtain⟨σ3,f',g',e3,q8,q9,q10,hw3,C3,l3⟩:=NS M l r mb fb cm bv R es f g (by omega) h5 h8 (fun b hb=>by have:=hR b hb;omega) hes pre d e B σ pv v hw h hL he
 rw[e3,hl]
 obtain⟨h6,hB⟩:=h
 obtain⟨h1,h2,⟨v3,h3⟩,⟨v4,h4⟩,⟨w,v5,h5',rfl⟩,s,hs,hV⟩:=hB
 have own:=fun b hb=>(h2 b (h1 b hb)).1
 have ol:=own l (by simp)
 have of':=own fb (by simp)
 have n3:=C3.next
 have hlc:∀b cs,σ.cells b=some cs→b≠l:=fun b cs hc hb=>by
  obtain⟨ver,h6⟩:=h6
  rw[hb,Ap,h6] at hc
  cases hc
 obtain⟨w4,σ4,e4,x4,hw4,P4⟩:=Aff (M+1) σ3 hw3 (hpath.pathV.keep (Q':=fun _=>True) fun b cs _ hc=>⟨(C3.cells (hw.cells hc) (hlc b cs hc)).trans hc,trivial⟩) (by omega)
 have n4:=x4.next
 have gf:σ4.heap.get fb=some ⟨.cells [.slice none 0 0] 25,false,none,v5⟩:=(x4.get fb (by omega)).trans ((C3.get fb of' (by omega)).trans h5')
 simp -implicitDefEqProofs only[go_sem,Aw,Aen,SD,q9,q10,h9,e4,gf,P4.one.1,P4.one.2.1,P4.one.2.2]
 have l4:LoopAt 92 [24,25] CB CC 12 43 f g l r .busy (σ4.put fb (.cells [w4] 25) none):=l3.keep (by rw[An,if_neg (by omega),x4.get l (by omega)])
 rw[Ni _ _ _ _ _ _ _ _ _ _ l r 2 _ _ l4]
 have og:∀(o:FObj) b,b<σ.next→b≠l→b≠fb→((σ4.put fb (.cells [w4] 25) none).put l o none).heap.get b=σ.heap.get b:=fun o b hb hl hf=>by
  rw[An,if_neg hl,An,if_neg hf,x4.get b (by omega)];exact C3.get b hb hl
 refine⟨B,_,rfl,(hw4.put _ _ _ (by omega)).put _ _ _ (by rw[Ao];omega),⟨by rw[Ao,Ao];omega,by have:=C3.clock;have:=x4.clock;rw[Cy,Cy];omega,fun b hb hB=>og _ b hb (fun h=>hB (h ▸ h1 l (by simp))) (fun h=>hB (h ▸ h1 fb (by simp)))⟩,fun b hb=>.inl hb,LoopDone.put _ _ _ _ _ _ _ _ _ _ _ _,h1,fun b hb=>⟨by rw[Ao,Ao];have:=(h2 b hb).1;omega,(h2 b hb).2⟩,⟨v3,(og _ r (own r (by simp)) (by omega) (by omega)).trans h3⟩,⟨v4,(og _ mb (own mb (by simp)) (by omega) (by omega)).trans h4⟩,⟨w4,σ4.clock,by rw[An,if_neg (by omega),An,if_pos rfl],P4.keep fun b c hb hc=>⟨?_,by omega⟩⟩,s,?_,hV.keep (fun b e hb he=>⟨(og _ b (hw _ _ he).1 (by omega) (by omega)).trans he,hb⟩) fun b c hb hc=>⟨?_,hb⟩⟩
 ·rw[Ar,if_neg (by omega),Ar,if_neg (by omega)];exact hc
 ·rw[Ap,og _ cm (own cm (by simp)) (by omega) (by omega),←Ap];exact hs
 ·rw[Ap,og _ b (hw.cells hc) (by have:=hR b hb;omega) (by have:=hR b hb;omega),←Ap];exact hc
end Go.Proofs.YtokieofohmgjdaaGreatDoor
namespace Go.Proofs.YtokieofohmgjdaaGreatDoor
open Go Go.Eng
variable (E:Env) (ro:Option Nat) (last:List Nat→RunF) (cl:List Nat) (a:FAct) (u:Option FrameMode) (σ:FState)
noncomputable def x140_0:Code:=(scopesOf (Tryz.f140.body.getD .skip)).getD 0 .skip
def find140_0(E:Env)(ro:Option Nat)(fn:FuncId):Nat→Option (Bx RunF):=fun l=>match findLabel x140_0 l with|some rest=>some ⟨(ccode Tryz.prog nls 998 rest).un E ro fn⟩|none=>none
end Go.Proofs.YtokieofohmgjdaaGreatDoor
end
