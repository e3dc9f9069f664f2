import Derived.Test.YtokieofohmgjdaaGreatDoorProg
import Derived.WalkKit
import Derived.LaidEql
import Derived.Stop.Asserts
import Derived.RowKitTokens
import Derived.Test.YtokieofohmgjdaaGreatDoorU2
import Derived.Test.YtokieofohmgjdaaGreatDoorU3
import Derived.Test.YtokieofohmgjdaaGreatDoorU4
import Derived.Test.YtokieofohmgjdaaGreatDoorZSymTL
import Derived.Test.YtokieofohmgjdaaGreatDoorU5
set_option linter.unusedSimpArgs false
set_option linter.unusedVariables false
noncomputable section
namespace Go.Proofs.YtokieofohmgjdaaGreatDoor
open Go Go.RowKit Go.Extern.Stop Go.Stop Go.Extern
theorem Arm(t:Value)(w:World):Calls Tryz.prog 169 #[.nilIface,t] w fun e w'=>e=.returned (.bool false)∧w'=w:=by
 go_enter Tryz.func169,Tryz.ntmps169
 go_wp2
 go_ret
 exact⟨rfl,rfl⟩
theorem Uu(t:Addr)(w:World):(ReflectliteValue.unpack (.iface 197 (.pointer (some t)))).run Tryz.prog w=.ok (.agg #[.pointer (some ⟨2,197,none⟩),.pointer (some ⟨w.heap.size,0,none⟩),.int .u64 150]) (w.alloc (.cells #[.pointer (some t)] 197)):=by kernel_rfl
theorem Aeq(a:Addr)(w:World):(ReflectliteValue.methodAny (ReflectliteValue.valueError "reflectlite.Value.Type" 0) (fun t _ _ _=>ReflectliteType.toType t) #[.agg #[.pointer (some ⟨2,197,none⟩),.pointer (some a),.int .u64 150]]).run Tryz.prog w=.ok (.iface 231 (.agg #[.pointer (some ⟨2,197,none⟩)])) w:=by kernel_rfl
theorem Aem(h:Value)(w:World):(Go.method 380 231 (.agg #[h]) "Kind").run Tryz.prog w=.ok (221,h) w:=by kernel_rfl
theorem Aek(h:Value)(w:World):(Go.method 380 231 (.agg #[h]) "Elem").run Tryz.prog w=.ok (244,.agg #[h]) w:=by kernel_rfl
theorem Ael(h:Value)(w:World):(Go.method 380 231 (.agg #[h]) "Implements").run Tryz.prog w=.ok (245,.agg #[h]) w:=by kernel_rfl
theorem WX(h:Value)(w:World):(Go.method 380 231 (.agg #[h]) "AssignableTo").run Tryz.prog w=.ok (242,.agg #[h]) w:=by kernel_rfl
theorem Aeh(w:World):((ReflectliteType.abiMethod fun t=>(fun a:Nat=>Value.int IntKind.u8 (a:Int)) <$> Rtype.kind t) #[.pointer (some ⟨2,197,none⟩)]).run Tryz.prog w=.ok (.int .u8 22) w:=by kernel_rfl
theorem Aei(w:World):((ReflectliteType.abiMethod fun t=>(fun a:Nat=>Value.int IntKind.u8 (a:Int)) <$> Rtype.kind t) #[.pointer (some ⟨2,178,none⟩)]).run Tryz.prog w=.ok (.int .u8 25) w:=by kernel_rfl
theorem Aee(w:World):(ReflectliteType.method ReflectliteType.elem #[.agg #[.pointer (some ⟨2,197,none⟩)]]).run Tryz.prog w=.ok (.iface 231 (.agg #[.pointer (some ⟨2,178,none⟩)])) w:=by kernel_rfl
theorem Amd(w:World):(ReflectliteType.relation "Implements" ReflectliteType.implements_ #[.agg #[.pointer (some ⟨2,178,none⟩)],.iface 231 (.agg #[.pointer (some ⟨2,176,none⟩)])]).run Tryz.prog w=.ok (.bool true) w:=by kernel_rfl
theorem Abi(v:Value)(w:World):(ReflectliteType.typeOf #[.iface 178 v]).run Tryz.prog w=.ok (.iface 231 (.agg #[.pointer (some ⟨2,178,none⟩)])) w:=by kernel_rfl
theorem Abd(w:World):(ReflectliteType.relation "AssignableTo" ReflectliteType.assignableTo #[.agg #[.pointer (some ⟨2,178,none⟩)],(.iface 231 (.agg #[.pointer (some ⟨2,178,none⟩)]))]).run Tryz.prog w=.ok (.bool true) w:=by kernel_rfl
theorem Uv(x y:Value)(w:World):(ReflectliteValue.unpack (.iface 178 (.agg #[x,y]))).run Tryz.prog w=.ok (.agg #[.pointer (some ⟨2,178,none⟩),.pointer (some ⟨w.heap.size,0,none⟩),.int .u64 153]) (w.alloc (.cells #[x,y] 178)):=by kernel_rfl
theorem O9(a:Addr)(w:World):(ReflectliteValue.parts (.agg #[.pointer (some ⟨2,197,none⟩),.pointer (some a),.int .u64 150])).run Tryz.prog w=.ok (some (197,a,150)) w:=by kernel_rfl
theorem Abg(a:Addr)(w:World):(ReflectliteValue.parts (.agg #[.pointer (some ⟨2,178,none⟩),.pointer (some a),.int .u64 409])).run Tryz.prog w=.ok (some (178,a,409)) w:=by kernel_rfl
theorem Abh(a:Addr)(w:World):(ReflectliteValue.parts (.agg #[.pointer (some ⟨2,178,none⟩),.pointer (some a),.int .u64 153])).run Tryz.prog w=.ok (some (178,a,153)) w:=by kernel_rfl
theorem Abf(w:World):(Rtype.elem? 197).run Tryz.prog w=.ok (some 178) w:=by kernel_rfl
theorem AsZ(p:Addr)(w:World):(ReflectliteValue.mk 178 p ReflectliteValue.flagAddr).run Tryz.prog w=.ok (.agg #[.pointer (some ⟨2,178,none⟩),.pointer (some p),.int .u64 409]) w:=by kernel_rfl
theorem Abe(w:World):(Rtype.directlyAssignable 178 178).run Tryz.prog w=.ok true w:=by kernel_rfl
theorem Z8(w:World):(sizeOf 178).run Tryz.prog w=.ok 2 w:=by kernel_rfl
theorem Amb(w:World):(isAgg 197).run Tryz.prog w=.ok false w:=by kernel_rfl
theorem Amc(w:World):(isAgg 178).run Tryz.prog w=.ok true w:=by kernel_rfl
theorem Ut(a p:Addr)(W:World)(ha:W.cell? a=some (.pointer (some p))):(loadVar 197 a).run Tryz.prog W=.ok (.pointer (some p)) W:=by
 simp[loadVar,Amb,ha,Result.andThen]
theorem Aej(b:Addr)(x y:Value)(W:World)(hb:W.cell? b=some x)(hb2:W.cell? (b.add 1)=some y):(loadVar 178 b).run Tryz.prog W=.ok (.agg #[x,y]) W:=by
 have h2:W.cell? ⟨b.block,b.off+1,none⟩=some y:=hb2
 simp[loadVar,Amc,Z8,loadCells,loadCellsFrom,Addr.add,hb,h2,Result.andThen]
theorem O8(z:Sem Value)(f:TypeId→Addr→Nat→Nat→Sem Value)(v:Value):ReflectliteValue.method z f #[v]=(do match ←ReflectliteValue.parts v with|none=>z|some (t,a,fl)=>f t a fl (fl % 32)):=rfl
theorem Aeg(a p:Addr)(W:World)(ha:W.cell? a=some (.pointer (some p))):
  (ReflectliteValue.method (ReflectliteValue.valueError "reflectlite.Value.IsNil" 0) ReflectliteValue.isNil #[.agg #[.pointer (some ⟨2,197,none⟩),.pointer (some a),.int .u64 150]]).run Tryz.prog W=.ok (.bool false) W:=by
 rw[O8]
 simp only[Sem.run_bind,O9,Result.andThen]
 simp[ReflectliteValue.isNil,Ut a p W ha,Result.andThen]
theorem Aef(a p:Addr)(W:World)(ha:W.cell? a=some (.pointer (some p))):
  (ReflectliteValue.method (ReflectliteValue.valueError "reflectlite.Value.Elem" 0) ReflectliteValue.elem #[.agg #[.pointer (some ⟨2,197,none⟩),.pointer (some a),.int .u64 150]]).run Tryz.prog W=.ok (.agg #[.pointer (some ⟨2,178,none⟩),.pointer (some p),.int .u64 409]) W:=by
 rw[O8]
 simp only[Sem.run_bind,O9,Result.andThen]
 simp[ReflectliteValue.elem,Ut a p W ha,Result.andThen,Abf,AsZ]
theorem Aep(a c:Addr)(x o:Value)(W:World)(h:W.cell? c=some o):∃o',(W.setCell a x).cell? c=some o':=by
 by_cases hb:a.block=c.block
 ·cases hh:W.heap[c.block]? with
  | none=>simp[World.cell?,hh] at h
  | some ob=>
   cases ob with
   | cells c1 t1 f1=>
    have h3:c.spot=none∧c1[c.off]? = some o:=by
     simp only[World.cell?,hh] at h
     cases hs:c.spot with
     | none=>simpa [hs] using h
     | some q=>simp[hs] at h
    have hlt:c.off<c1.size:=(Array.getElem?_eq_some_iff.1 h3.2).1
    refine⟨(if a.spot.isSome then c1 else c1.setIfInBounds a.off x)[c.off]'(by split<;>simpa using hlt),?_⟩
    simp only[World.cell?,World.setCell,Array.getElem?_modify,hb,hh,h3.1,↓reduceIte,Option.map_some,Option.isSome_none,Bool.false_eq_true]
    exact Array.getElem?_eq_getElem _
   | _=>simp[World.cell?,hh] at h
 ·exact⟨o,by simp[World.cell?,World.setCell,Array.getElem?_modify,hb] at h ⊢;exact h⟩
theorem Arn(ta b:Addr)(x y old old2:Value)(W:World)(hx:x.oneCell'=true)(hy:y.oneCell'=true)(hb:W.cell? b=some x)(hb2:W.cell? (b.add 1)=some y)(ht:W.cell? ta=some old)(hf:W.frozen? ta=false)(ht2:W.cell? (ta.add 1)=some old2)(hf2:W.frozen? (ta.add 1)=false):
  (ReflectliteValue.set #[.agg #[.pointer (some ⟨2,178,none⟩),.pointer (some ta),.int .u64 409],.agg #[.pointer (some ⟨2,178,none⟩),.pointer (some b),.int .u64 153]]).run Tryz.prog W=.ok (.tuple #[]) ((W.setCell ta x).setCell (ta.add 1) y):=by
 have h1:ReflectliteValue.set #[.agg #[.pointer (some ⟨2,178,none⟩),.pointer (some ta),.int .u64 409],.agg #[.pointer (some ⟨2,178,none⟩),.pointer (some b),.int .u64 153]]=(do
  let (some (dst,a,fl),some (src,b,_)):=(←ReflectliteValue.parts (.agg #[.pointer (some ⟨2,178,none⟩),.pointer (some ta),.int .u64 409]),←ReflectliteValue.parts (.agg #[.pointer (some ⟨2,178,none⟩),.pointer (some b),.int .u64 153]))
   | unsupported (.noEntry "extern/(internal/reflectlite.Value).Set.zeroValue")
  if fl / ReflectliteValue.flagAddr % 2==0 then unsupported (.noEntry "extern/(internal/reflectlite.Value).Set.unaddressable")
  let val ←loadVar src b
  if ←Rtype.directlyAssignable dst src then storeVar dst a val
  else if ←Rtype.implements dst src then
   if (←Rtype.kind src)==20 then
    match val with
    | .nilIface=>unsupported (.noEntry "extern/reflectlite: a nil value of one interface type handed on as a value of another")
    | _=>storeVar dst a val
   else storeVar dst a (.iface src val)
  else panicString ("reflectlite.Set: value of type " ++ (←Rtype.spelt src) ++ " is not assignable to type " ++ (←Rtype.spelt dst))
  pure (.tuple #[])):=rfl
 rw[h1]
 simp only[Sem.run_bind,Abg,Abh,Result.andThen]
 have hne:ta≠ta.add 1:=fun h=>by
  have h9:ta.off=(ta.add 1).off:=congrArg Addr.off h
  simp[Addr.add] at h9
 have hc2:∃o,(W.setCell ta x).cell? (ta.add 1)=some o:=Aep ta (ta.add 1) x old2 W ht2
 obtain⟨o,hc2⟩:=hc2
 have hf3:(W.setCell ta x).frozen? (ta.add 1)=false:=(World.frozen?_setCell _ _ _ _).trans hf2
 have h8:(storeCells ta [x,y]).run Tryz.prog W=.ok () ((W.setCell ta x).setCell (ta.add 1) y):=by
  show (do store (Addr.add ta 0) x;(do store (Addr.add ta 1) y;pure ()):Sem Unit).run Tryz.prog W=_
  rw[Sem.run_bind,show Addr.add ta 0=ta from rfl,run_store Tryz.prog W ta _ _ hx]
  simp only[ht,hf,Result.andThen,Bool.false_eq_true,if_false]
  rw[Sem.run_bind,run_store Tryz.prog _ (ta.add 1) _ _ hy]
  simp[hc2,hf3,Result.andThen]
 simp[ReflectliteValue.flagAddr,Aej b x y W hb hb2,Result.andThen,Abe,storeVar,Z8,Value.cells,h8]
set_option maxHeartbeats 4000000 in
theorem Arl(x y:Value)(t:Addr)(old old2:Value)(w:World)(hx:x.oneCell'=true)(hy:y.oneCell'=true)(hg:w.cell? ⟨0,0,none⟩=some (.iface 231 (.agg #[.pointer (some ⟨2,176,none⟩)])))(ht0:w.cell? t=some old)(hf0:w.frozen? t=false)(ht2:w.cell? (t.add 1)=some old2)(hf2:w.frozen? (t.add 1)=false):
  Calls Tryz.prog 169 #[.iface 178 (.agg #[x,y]),.iface 197 (.pointer (some t))] w fun ev w'=>ev=.returned (.bool true)∧w'=(((((w.alloc (.cells #[.pointer (some t)] 197)).alloc (.cells #[.pointer (some ⟨2,197,none⟩),.pointer (some ⟨w.heap.size,0,none⟩),.int .u64 150] 214)).alloc (.cells #[.pointer (some ⟨2,197,none⟩),.pointer (some ⟨w.heap.size,0,none⟩),.int .u64 150] 214)).alloc (.cells #[x,y] 178)).setCell t x).setCell (t.add 1) y:=by
 have h1:=@run_callFunc_extern Tryz.prog 184 _ (fun args=>ReflectliteValue.unpack (args.getD 0 (.tuple #[]))) Tryz.func184 (by kernel_rfl) (by kernel_rfl) (by kernel_rfl) (by kernel_rfl)
 have h2:=@run_callFunc_extern Tryz.prog 185 _ (ReflectliteValue.methodAny (ReflectliteValue.valueError "reflectlite.Value.Type" 0) (fun t _ _ _=>ReflectliteType.toType t)) Tryz.func185 (by kernel_rfl) (by kernel_rfl) (by kernel_rfl) (by kernel_rfl)
 have h3:=@run_callFunc_extern Tryz.prog 186 _ (ReflectliteValue.method (ReflectliteValue.valueError "reflectlite.Value.IsNil" 0) ReflectliteValue.isNil) Tryz.func186 (by kernel_rfl) (by kernel_rfl) (by kernel_rfl) (by kernel_rfl)
 have h4:=@run_callFunc_extern Tryz.prog 221 _ (ReflectliteType.abiMethod fun t=>do pure (.int .u8 (←Rtype.kind t))) Tryz.func221 (by kernel_rfl) (by kernel_rfl) (by kernel_rfl) (by kernel_rfl)
 have h5:=@run_callFunc_extern Tryz.prog 244 _ (ReflectliteType.method ReflectliteType.elem) Tryz.func244 (by kernel_rfl) (by kernel_rfl) (by kernel_rfl) (by kernel_rfl)
 have h6:=@run_callFunc_extern Tryz.prog 245 _ (ReflectliteType.relation "Implements" ReflectliteType.implements_) Tryz.func245 (by kernel_rfl) (by kernel_rfl) (by kernel_rfl) (by kernel_rfl)
 have h7:=@run_callFunc_extern Tryz.prog 195 _ ReflectliteType.typeOf Tryz.func195 (by kernel_rfl) (by kernel_rfl) (by kernel_rfl) (by kernel_rfl)
 have h8:=@run_callFunc_extern Tryz.prog 242 _ (ReflectliteType.relation "AssignableTo" ReflectliteType.assignableTo) Tryz.func242 (by kernel_rfl) (by kernel_rfl) (by kernel_rfl) (by kernel_rfl)
 have h9:=@run_callFunc_extern Tryz.prog 196 _ (ReflectliteValue.method (ReflectliteValue.valueError "reflectlite.Value.Elem" 0) ReflectliteValue.elem) Tryz.func196 (by kernel_rfl) (by kernel_rfl) (by kernel_rfl) (by kernel_rfl)
 have h10:=@run_callFunc_extern Tryz.prog 197 _ ReflectliteValue.set Tryz.func197 (by kernel_rfl) (by kernel_rfl) (by kernel_rfl) (by kernel_rfl)
 have k1:=Abi
 have k2:=WX
 have k3:=Abd
 have k4:=Uv
 have k5:=Uu
 have k6:=Aeq
 have k7:=Aem
 have k8:=Aek
 have k9:=Ael
 have k10:=Aeh
 have k11:=Aei
 have k12:=Aee
 have k13:=Amd
 have n8:=Aeg ⟨w.heap.size,0,none⟩ t ((w.alloc (.cells #[.pointer (some t)] 197)).alloc (.cells #[.pointer (some ⟨2,197,none⟩),.pointer (some ⟨w.heap.size,0,none⟩),.int .u64 150] 214)) (by simp)
 have hlt:0<w.heap.size:=by
  rcases Nat.lt_or_ge 0 w.heap.size with h|h
  ·exact h
  ·simp[World.cell?,Array.getElem?_eq_none h] at hg
 have htl:t.block<w.heap.size:=by
  rcases Nat.lt_or_ge t.block w.heap.size with h|h
  ·exact h
  ·simp[World.cell?,Array.getElem?_eq_none h] at ht0
 have hg2:((w.alloc (.cells #[.pointer (some t)] 197)).alloc (.cells #[.pointer (some ⟨2,197,none⟩),.pointer (some ⟨w.heap.size,0,none⟩),.int .u64 150] 214)).cell? ⟨0,0,none⟩=some (.iface 231 (.agg #[.pointer (some ⟨2,176,none⟩)])):=by
  rw[World.cell?_alloc_lt _ _ ⟨0,0,none⟩ (by simp<;>omega),World.cell?_alloc_lt _ _ ⟨0,0,none⟩ hlt];exact hg
 have el:=Aef ⟨w.heap.size,0,none⟩ t (((w.alloc (.cells #[.pointer (some t)] 197)).alloc (.cells #[.pointer (some ⟨2,197,none⟩),.pointer (some ⟨w.heap.size,0,none⟩),.int .u64 150] 214)).alloc (.cells #[.pointer (some ⟨2,197,none⟩),.pointer (some ⟨w.heap.size,0,none⟩),.int .u64 150] 214)) (by rw[World.cell?_alloc_lt _ _ ⟨w.heap.size,0,none⟩ (by simp;omega)];simp)
 have up:∀(a:Addr) (v:Value),a.block<w.heap.size→w.cell? a=some v→((((w.alloc (.cells #[.pointer (some t)] 197)).alloc (.cells #[.pointer (some ⟨2,197,none⟩),.pointer (some ⟨w.heap.size,0,none⟩),.int .u64 150] 214)).alloc (.cells #[.pointer (some ⟨2,197,none⟩),.pointer (some ⟨w.heap.size,0,none⟩),.int .u64 150] 214)).alloc (.cells #[x,y] 178)).cell? a=some v:=fun a v h1 h2=>by
  rw[World.cell?_alloc_lt _ _ a (by simp;omega),World.cell?_alloc_lt _ _ a (by simp;omega),World.cell?_alloc_lt _ _ a (by simp;omega),World.cell?_alloc_lt _ _ a h1];exact h2
 have upf:∀(a:Addr),a.block<w.heap.size→w.frozen? a=false→((((w.alloc (.cells #[.pointer (some t)] 197)).alloc (.cells #[.pointer (some ⟨2,197,none⟩),.pointer (some ⟨w.heap.size,0,none⟩),.int .u64 150] 214)).alloc (.cells #[.pointer (some ⟨2,197,none⟩),.pointer (some ⟨w.heap.size,0,none⟩),.int .u64 150] 214)).alloc (.cells #[x,y] 178)).frozen? a=false:=fun a h1 h2=>by
  rw[World.frozen?_alloc_old _ _ a (by simp;omega),World.frozen?_alloc_old _ _ a (by simp;omega),World.frozen?_alloc_old _ _ a (by simp;omega),World.frozen?_alloc_old _ _ a (Nat.ne_of_lt h1)];exact h2
 have st:=Arn t ⟨w.heap.size+1+1+1,0,none⟩ x y old old2 ((((w.alloc (.cells #[.pointer (some t)] 197)).alloc (.cells #[.pointer (some ⟨2,197,none⟩),.pointer (some ⟨w.heap.size,0,none⟩),.int .u64 150] 214)).alloc (.cells #[.pointer (some ⟨2,197,none⟩),.pointer (some ⟨w.heap.size,0,none⟩),.int .u64 150] 214)).alloc (.cells #[x,y] 178)) hx hy
  (by rw[World.cell?_alloc_at _ _ _ _ (by simp)];rfl)
  (by rw[show (Addr.add ⟨w.heap.size+1+1+1,0,none⟩ 1:Addr)=⟨w.heap.size+1+1+1,1,none⟩ from rfl,World.cell?_alloc_at _ _ _ _ (by simp)];rfl)
  (up t old htl ht0) (upf t htl hf0) (up (t.add 1) old2 htl ht2) (upf (t.add 1) htl hf2)
 go_enter Tryz.func169,Tryz.ntmps169
 go_wp2
 refine wp_loop_rounds 1 ?_
 rw[rounds_succ]
 go_wp2
 go_ret
 exact⟨rfl,rfl⟩
end Go.Proofs.YtokieofohmgjdaaGreatDoor
namespace Go.Eng
open Go
section
variable [Pins] {P:Program} {m:Mp} {σ:FState} {w:World} {f:FuncId} {fn:Func} {body:Code} {args':Array Value}
theorem CallOK.of_store2(hf:P.funcs[f]? = some fn)(hb:fn.body=some body)(hname:(fn.name == "runtime.NumGoroutine")=false)(hr:Rel Top m σ w){p p' x x' y y':Value}{σ':FState}(hst:fstore 2 p (.agg #[x,y]) σ=.skip σ')(hp:VRel m p p')(hx:VRel m x x')(hy:VRel m y y')(h:∀(t:Addr) (old old2:Value),p'=.pointer (some t)→x'.oneCell'=true→y'.oneCell'=true→w.cell? t=some old→w.frozen? t=false→w.cell? (t.add 1)=some old2→w.frozen? (t.add 1)=false→∃w4:World,(∀j,j<w.heap.size→w4.heap[j]? = w.heap[j]?)∧w.heap.size≤w4.heap.size∧w4.os=w.os∧w4.tape=w.tape∧w4.output=w.output∧
   Calls P f args' w fun e w'=>e=.returned (.bool true)∧w'=(w4.setCell t x').setCell (t.add 1) y'):CallOK P m σ w f args' none (.ret (.bool true) none σ'):=by
 obtain⟨b,off,ent,c,el,c',rfl,hg,ho,hro,hc,hs,rfl⟩:=GP hst
 have hvc:valCells (.agg #[x,y])=[x,y]:=rfl
 rw[hvc] at hc hs
 generalize hpp:p'=pp at hp
 cases hp with
 | ptr hm=>
  rename_i e
  have hcc:oneCell x=true∧oneCell y=true:=by simpa using (Bool.and_eq_true_iff.1 hc).2
  have hone:x'.oneCell'=true:=Q7 (ER hx hcc.1)
  have hone2:y'.oneCell'=true:=Q7 (ER hy hcc.2)
  obtain⟨hre,hsy⟩:=hr.sync b ent e trivial hg hm
  rw[ho] at hsy
  obtain⟨ca,el',fr,h2,h3,h4,_⟩:=hsy
  have hoff:off+1<c.length:=by
   rw[D6] at hs
   by_cases hle:off+[x,y].length≤c.length
   ·simp at hle
    omega
   ·rw[if_neg hle] at hs
    cases hs
  obtain⟨old,h5,_⟩:=h4 off c[off] (List.getElem?_eq_getElem (by omega))
  obtain⟨old2,h52,_⟩:=h4 (off+1) c[off+1] (List.getElem?_eq_getElem hoff)
  have hlt:e.blk<w.heap.size:=(hr.dom _ _ hm).2
  have hfr:=h3 (by rw[←hre];exact hro)
  have cell:∀w4:World,w4.heap[e.blk]? = w.heap[e.blk]? → ∀(o:Nat) (v:Value),ca[e.sh+o]? = some v→w4.cell? ⟨e.blk,e.sh+o,none⟩=some v∧w4.frozen? ⟨e.blk,e.sh+o,none⟩=false:=fun w4 hw4 o v hv=>by
   rw[h2] at hw4
   exact⟨by simp[World.cell?,hw4,hv],by simp[World.frozen?,hw4,hfr]⟩
  have hadd:Addr.add ⟨e.blk,e.sh+off,none⟩ 1=⟨e.blk,e.sh+(off+1),none⟩:=by simp[Addr.add,Nat.add_assoc]
  obtain⟨w4,g1,g2,g3,g4,g5,g6⟩:=h _ old old2 hpp hone hone2 (cell w rfl off old h5).1 (cell w rfl off old h5).2 (by rw[hadd];exact(cell w rfl (off+1) old2 h52).1) (by rw[hadd];exact(cell w rfl (off+1) old2 h52).2)
  have hr4:Rel Top m σ w4:=hr.moreWorld g1 g2
  have hS4:Step σ σ m m w w4:=(Step.refl σ m w).moreWorld g1 g2 g3 g4 g5
  obtain⟨w',k1,k2,k3⟩:=hr4.splice (P:=P) hm hg ho hro hs (.cons hx (.cons hy .nil)) (fun v hv=>by
   rcases List.mem_cons.1 hv with rfl|hv
   ·exact hone
   ·rw[List.mem_singleton] at hv
    rw[hv]
    exact hone2)
  have c1:=cell w4 (g1 _ hlt) off old h5
  have c2:=cell w4 (g1 _ hlt) (off+1) old2 h52
  have hne:((e.sh+off:Nat))≠e.sh+(off+1):=by omega
  have hc2:(w4.setCell ⟨e.blk,e.sh+off,none⟩ x').cell? ⟨e.blk,e.sh+(off+1),none⟩=some old2:=by
   have hw4:=g1 _ hlt
   rw[h2] at hw4
   simp[World.setCell,World.cell?,Array.getElem?_modify,hw4,h52,Array.getElem?_setIfInBounds,Array.getElem?_set]
  have hf2:(w4.setCell ⟨e.blk,e.sh+off,none⟩ x').frozen? ⟨e.blk,e.sh+(off+1),none⟩=false:=(World.frozen?_setCell _ _ _ _).trans c2.2
  have hrun:(storeCells ⟨e.blk,e.sh+off,none⟩ [x',y']).run P w4=.ok () ((w4.setCell ⟨e.blk,e.sh+off,none⟩ x').setCell (Addr.add ⟨e.blk,e.sh+off,none⟩ 1) y'):=by
   show (do store (Addr.add ⟨e.blk,e.sh+off,none⟩ 0) x';(do store (Addr.add ⟨e.blk,e.sh+off,none⟩ 1) y';pure ()):Sem Unit).run P w4=_
   rw[Sem.run_bind,run_store P w4 _ _ _ hone]
   rw[hadd]
   simp[Addr.add,c1.1,c1.2,Result.andThen,Sem.run_bind,run_store P _ _ _ _ hone2,hc2,hf2]
  rw[hrun] at k1
  cases k1
  exact CallOK.of_calls hf hb hname g6 k2 (hS4.trans k3) (.bool true)
end
end Go.Eng
namespace Go.Proofs.YtokieofohmgjdaaGreatDoor
open Go Go.Eng
def handle:Value:=.iface 231 (.agg #[.pointer (some ⟨2,176,none⟩)])
theorem Aen:(Tryz.prog.funcs.toList.all fun fn=>!(fn.name == "runtime.NumGoroutine"))=true:=by kernel_rfl
theorem Aeo(f:FuncId)(fn:Func)(h:Tryz.prog.funcs[f]? = some fn):(fn.name == "runtime.NumGoroutine")=false:=by
 have:=List.all_eq_true.1 Aen fn (by
  rw[Array.mem_toList_iff]
  exact Array.mem_of_getElem? h)
 simpa using this
theorem AlU[Pins](W:World)(hpin:∀o,W.heap[0]? = some o→Pins.on 0 o)(hg:W.cell? ⟨0,0,none⟩=some handle):SumOK Tryz.prog sums:=by
 intro f args σ r m w args' h hr hA
 unfold sums at h
 cases hf:Nat.beq f 169 with
 | false=>rw[hf] at h;cases h
 | true=>
  rw[hf] at h
  rw[Nat.beq_eq] at hf
  subst hf
  have hname:=Aeo 169 _ Tryz.func169
  obtain⟨L'⟩:=args'
  simp only[cond_true] at h
  split at h
  ·rename_i p
   cases h
   match L',hA with
   | [a',p'],hA=>
    have h1:=hA.head
    cases h1
    exact CallOK.of_calls Tryz.func169 rfl hname (Arm p' w) hr (.refl _ _ _) (.bool false)
   | [],hA=>simp[LRel] at hA
   | [_],hA=>simp[LRel] at hA
   | _::_::_::_,hA=>simp[LRel] at hA
  ·rename_i t cs pt p
   cases hc:(Nat.beq t 178&&Nat.beq pt 197) with
   | false=>rw[hc] at h;cases h
   | true=>
    rw[hc] at h
    simp only[Bool.and_eq_true,Nat.beq_eq] at hc
    obtain⟨rfl,rfl⟩:=hc
    simp only[cond_true] at h
    split at h
    ·rename_i x y hx
     split at h
     ·rename_i σ' hst
      cases h
      match L',hA with
      | [a',p'],hA=>
       have h1:=hA.head
       have h2:=hA.tail.head
       cases h1 with
       | iface _ h1=>
       cases h2 with
       | iface _ h2=>
       rename_i v' q'
       cases h1 with
       | agg hsz hel=>
        rename_i cs'
        have hcs:cs = #[x,y]:=by
         apply Array.ext'
         simpa using hx
        subst hcs
        obtain⟨l'⟩:=cs'
        match l',hsz,hel with
        | [x',y'],hsz,hel=>
         have hxx:VRel m x x':=hel 0 x x' rfl rfl
         have hyy:VRel m y y':=hel 1 y y' rfl rfl
         refine CallOK.of_store2 Tryz.func169 rfl hname hr hst h2 hxx hyy fun ta old old2 hp hone hone2 hct hfr hct2 hfr2=>?_
         subst hp
         have hgw:w.cell? ⟨0,0,none⟩=some handle:=by
          cases ho:W.heap[0]? with
          | none=>simp[World.cell?,ho] at hg
          | some o=>
           have:=(hr.pin 0 o (hpin o ho)).1
           rw[←hg]
           simp[World.cell?,ho,this]
         have hlt:∀(w:World) (o:Obj) (j:Nat),j<w.heap.size→(w.alloc o).heap[j]? = w.heap[j]?:=fun w o j hj=>by
          show (w.heap.push o)[j]? = _
          exact(Array.getElem?_push_lt hj).trans (Array.getElem?_eq_getElem hj).symm
         have hs:∀(w:World) (o:Obj),(w.alloc o).heap.size=w.heap.size+1:=fun w o=>by
          show (w.heap.push o).size=_
          simp
         have hhit:=Arl x' y' ta old old2 w hone hone2 hgw hct hfr hct2 hfr2
         refine⟨_,?_,?_,?_,?_,?_,hhit⟩
         ·intro j hj
          rw[hlt _ _ j (by rw[hs,hs,hs];omega),hlt _ _ j (by rw[hs,hs];omega),hlt _ _ j (by rw[hs];omega),hlt _ _ j hj]
         ·rw[hs,hs,hs,hs]
          omega
         ·rfl
         ·rfl
         ·rfl
        | [],hsz,hel=>simp at hsz
        | [_],hsz,hel=>simp at hsz
        | _::_::_::_,hsz,hel=>simp at hsz
      | [],hA=>simp[LRel] at hA
      | [_],hA=>simp[LRel] at hA
      | _::_::_::_,hA=>simp[LRel] at hA
     ·cases h
    ·cases h
  ·cases h
end Go.Proofs.YtokieofohmgjdaaGreatDoor
namespace Go.Proofs.YtokieofohmgjdaaGreatDoor
open Go Go.Eng
attribute [local congr] Ab Ah Af Ad Ae
attribute [-go_sem] List.range_succ
def top(n:Nat):Env where
 call:=fun f args u σ=>match u with
  | none=>bif Nat.beq f 10&&args.isEmpty then .ret (.bool true) none σ else (env n).call f args none σ
  | some md=>(env n).call f args (some md) σ
 round:=fun l args σ=>(env n).round l args σ
theorem En(n:Nat)(f:FuncId)(args:List Value)(σ:FState)(h:Nat.beq f 10=false):(top n).call f args none σ=(env n).call f args none σ:=by
 show (bif Nat.beq f 10&&args.isEmpty then CRes.ret (.bool true) none σ else (env n).call f args none σ)=_
 rw[h]
 rfl
theorem IE(n:Nat)(σ:FState):(top n).call 10 [] none σ=.ret (.bool true) none σ:=rfl
theorem Om:Tryz.prog.follows .mixedOrders=true:=by kernel_rfl
theorem AlV:(Tryz.prog.funcs.toList.all fun fn=>!(fn.name == "runtime.NumGoroutine"))=true:=by kernel_rfl
theorem Kd(f:FuncId)(fn:Func)(h:Tryz.prog.funcs[f]? = some fn):(fn.name == "runtime.NumGoroutine")=false:=by
 have:=List.all_eq_true.1 AlV fn (by
  rw[Array.mem_toList_iff]
  exact Array.mem_of_getElem? h)
 simpa using this
abbrev varPins(W:World):Pins:=⟨fun k o=>k=0∧W.heap[k]? = some o⟩
theorem AbZ[Pins]:SumOK Tryz.prog nosums:=fun _ _ _ _ _ _ _ h=>by cases h
theorem XB(W:World):Calls Tryz.prog 10 #[] W fun e W'=>e=.returned (.bool true)∧W'.os=W.os∧W'.output=W.output∧W'.tape=W.tape∧W.heap.size≤W'.heap.size∧∀i,i<W.heap.size→W'.heap[i]? = W.heap[i]?:=
 AdU Om Kd Tryz.func10 rfl W (@AbZ (pinsOf W)) XC
theorem AsV(n:Nat)(W0:World)(hg:W0.cell? ⟨0,0,none⟩=some handle):@EnvOK (varPins W0) Tryz.prog (top n):=by
 letI:=varPins W0
 have h:EnvOK Tryz.prog (env n):=Aah (AlU W0 (fun o h=>⟨rfl,h⟩) hg) Om Kd nls n
 refine⟨fun f args u σ m w args' hr hA hu=>?_,fun l args σ m w args' e hr hA hm=>h.round l args σ m w args' e hr hA hm⟩
 cases u with
 | some md=>exact h.call f args (some md) σ m w args' hr hA hu
 | none=>
  by_cases hf:(Nat.beq f 10&&args.isEmpty)=true
  ·rw[Bool.and_eq_true,Nat.beq_eq,List.isEmpty_iff] at hf
   obtain⟨rfl,rfl⟩:=hf
   obtain⟨L'⟩:=args'
   have hl:L'=[]:=by
    have:=hA.1
    exact List.length_eq_zero_iff.1 this.symm
   subst hl
   show CallOK Tryz.prog m σ w 10 #[] none (.ret (.bool true) none σ)
   refine .inr ⟨Ev Tryz.func10 rfl (Kd _ _ Tryz.func10),fun cs hu=>?_⟩
   obtain⟨e,w',fr,⟨rfl,ho,hout,ht,hsz,hk⟩,hc,hfn,hl⟩:=XB w cs
   exact⟨m,w',.bool true,fr,cs,hr.moreWorld hk hsz,(Step.refl σ m w).moreWorld hk hsz ho ht hout,.bool true,hu,.refl _ _,StepsIn.of_steps hc,hfn,hl.2.2.1,⟨hl.1,hl.2.1,hl.2.2.2⟩⟩
  ·have e:(top n).call f args none σ=(env n).call f args none σ:=by
    show (bif Nat.beq f 10&&args.isEmpty then CRes.ret (.bool true) none σ else (env n).call f args none σ)=_
    rw[Bool.not_eq_true] at hf
    rw[hf]
    rfl
   rw[e]
   exact h.call f args none σ m w args' hr hA hu
theorem Aev[Pins]{P:Program}{E:Env}(hE:EnvOK P E)(hm:P.follows .mixedOrders=true)(hname:∀(f:FuncId) (fn:Func),P.funcs[f]? = some fn→(fn.name == "runtime.NumGoroutine")=false)(nls:Hints){f:FuncId}{fn:Func}{body:Code}(hf:P.funcs[f]? = some fn)(hb:fn.body=some body)(σ:FState)(m:Mp)(W:World)(args:List Value)(args':Array Value)(hr:Rel Top m σ W)(hA:LRel m args args'.toList)(hro:∀b e,m b=some e→e.ro=true)(h:∃σ',fcall P nls E f args none σ=.ret (.bool true) none σ'):
  Calls P f args' W fun e W'=>e=.returned (.bool true)∧W'.os=W.os∧W'.output=W.output∧W'.tape=W.tape∧W.heap.size≤W'.heap.size∧∀i,i<W.heap.size→W'.heap[i]? = W.heap[i]?:=by
 obtain⟨σ',h⟩:=h
 have hc:=Z_ hE (Aac hm hE) hname nls f args none σ m W args' hr hA
 generalize fcall P nls E f args none σ=r at h hc
 subst h
 rcases hc with⟨_,_,_,v',hval,_⟩|⟨_,hgo⟩
 ·have hent:=Ev (P:=P) (w:=W) (args:=args') hf hb (hname f fn hf)
  rw[hent] at hval
  cases hval
 ·intro cs
  obtain⟨m',w',v',fr,cs',hR,hS',hV,_,hun,hst,hfn,hk,hgoing⟩:=hgo cs rfl
  have hcs:cs'=cs:=by
   rcases hun with h|⟨h,_⟩
   ·exact h
   ·cases h
  subst hcs
  have hv':=hV.flat rfl
  subst hv'
  exact⟨.returned (.bool true),w',fr,⟨rfl,hS'.os,hS'.output,hS'.tape,hS'.size,fun i hi=>hS'.keep i hi fun b e ent hb hre=>by rw[hro b e hb] at hre;cases hre⟩,hst.steps,hfn,Ec hk hgoing⟩
theorem AbU{f:FuncId}{fn:Func}{body:Code}(hf:Tryz.prog.funcs[f]? = some fn)(hb:fn.body=some body)(n:Nat)(σ:FState)(m:Mp)(W:World)(args:List Value)(args':Array Value)(hg:W.cell? ⟨0,0,none⟩=some handle)(hr:@Rel (varPins W) Top m σ W)(hA:LRel m args args'.toList)(hro:∀b e,m b=some e→e.ro=true)(h:∃σ',fcall Tryz.prog nls (top n) f args none σ=.ret (.bool true) none σ'):
  Calls Tryz.prog f args' W fun e W'=>e=.returned (.bool true)∧W'.os=W.os∧W'.output=W.output∧W'.tape=W.tape∧W.heap.size≤W'.heap.size∧∀i,i<W.heap.size→W'.heap[i]? = W.heap[i]?:=
 @Aev (varPins W) Tryz.prog (top n) (AsV n W hg) Om Kd nls f fn body hf hb σ m W args args' hr hA hro h
def numbers(zs:List Int):FState:=⟨Tr.set .lf 0 ⟨.cells (zs.map fun z=>Value.int .i64 z) TI,true,none,0⟩,1,1⟩
end Go.Proofs.YtokieofohmgjdaaGreatDoor
namespace Go.Proofs.YtokieofohmgjdaaGreatDoor
open Go Go.Eng
attribute [local congr] Ab Ah Af Ad Ae
attribute [-go_sem] List.range_succ
structure Stays (Q:Nat→Value→FState→Prop):Prop where
 keep:∀base base' v σ σ',Q base v σ→Wf σ→base'≤base→(∀b,base≤b→b<σ.next→σ'.heap.get b=σ.heap.get b)→Q base' v σ'
def ResP(x:D)(l:List (List Nat×D))(base:Nat)(w:Value)(σ:FState):Prop:=∃us,Vecs 25 (fun b=>base≤b) σ w us∧PathsL (fun b=>base≤b) σ us (foundIn x l)
mutual
theorem HT:∀(d:D) (p:List Nat) (y:List Nat×D),y∈d.pieces p→y.2.deep≤d.deep∧y.2.count≤d.count
 | .mk k z t ds,p,y,h=>by
  rw[D.pieces] at h
  rcases List.mem_cons.1 h with rfl|h
  ·exact⟨Nat.le_refl _,Nat.le_refl _⟩
  ·have:=Nc ds p 0 y h
   rw[D.deep,D.count]
   omega
theorem Nc:∀(ds:List D) (p:List Nat) (i:Nat) (y:List Nat×D),y∈D.piecesL p i ds→y.2.deep≤D.deeps ds∧y.2.count≤D.counts ds
 | [],p,i,y,h=>by simp[D.piecesL] at h
 | d::ds,p,i,y,h=>by
  rw[D.piecesL,List.mem_append] at h
  rw[D.deeps,D.counts]
  rcases h with h|h
  ·have:=HT d _ y h;omega
  ·have:=Nc ds _ _ y h;omega
end
theorem XA(l:List (List Nat×D))(L:Nat)(h:∀x∈l,x.1.length≤L):longest l≤L+1:=by
 induction l with
 | nil=>simp[longest]
 | cons x l ih=>
  rw[GQ]
  have:=h x List.mem_cons_self
  have:=ih fun y hy=>h y (List.mem_cons_of_mem _ hy)
  omega
theorem Fine.deep_le{m L:Nat}{d:D}(h:Fine m L d):d.deep≤L+1:=by
 have h1:=FL d []
 have h2:=XA (d.pieces []) L fun x hx=>by have:=((h []).2 x hx).1;simpa using this
 simp at h1
 omega
end Go.Proofs.YtokieofohmgjdaaGreatDoor
namespace Go.Proofs.YtokieofohmgjdaaGreatDoor
open Go Go.Eng
attribute [local congr] Ab Ah Af Ad Ae
attribute [-go_sem] List.range_succ
theorem Vp:keepOf nls 139=[14,15,28]:=by kernel_rfl
theorem JG(e:TypeId)(bytes:Nat)(z:List Value)(n:Nat)(σ:FState)(h:n*(bytes+1)≤1000000000):fmakeSlice e bytes z (.int .i64 (.ofNat n)) (.int .i64 (.ofNat n)) σ=.val (.slice (some ⟨σ.next,0,none⟩) n n) (σ.push (.cells (reps n z) e) none):=by
 show cond (Nat.ble n n&&Nat.ble (n*(bytes+1)) 1000000000) _ _=_
 rw[show Nat.ble n n=true by rw[Nat.ble_eq];exact Nat.le_refl _,show Nat.ble (n*(bytes+1)) 1000000000=true by rw[Nat.ble_eq];exact h]
 rfl
theorem Fc(n:Nat)(z:List Value):(reps n z).length=n*z.length:=by
 induction n with
 | zero=>simp[Qo]
 | succ n ih=>rw[Qn,List.length_append,ih,Nat.succ_mul];omega
def CopyAt(m:Nat)(d:D):Prop:=∀(lv:List Value) (R:Nat→Prop) (σ:FState),Wf σ→LaidR R σ (.agg lv.toArray) d→Gives ((env m).call 104 [.agg lv.toArray] none σ) σ fun w σ'=>LaidR (fun b=>σ.next≤b) σ' w d
structure HeadEa (bo base:Nat) (R:Nat→Prop) (q:Option Addr) (c:Nat) (ds:List D) (σ0:FState) (i:Nat) (f g:Nat→Value) (σ:FState):Prop where
 f0:f 0=.slice q ds.length c
 f1:f 1=.func (.func 104) #[] #[]
 f5:f 5=.slice (some ⟨bo,0,none⟩) ds.length ds.length
 g14:g 14=.int .i64 (.ofNat ds.length)
 g15:g 15=.int .i64 (.ofNat i)
 cs:∃done rest ver,σ.heap.get bo=some ⟨.cells (done++rest) TD,false,none,ver⟩∧Row (fun b=>base≤b∧b≠bo) σ done (ds.take i)∧rest.length=(ds.length-i)*4
 hbo:base≤bo
 lay:LaidRE R σ q 0 ds
 low:∀b,R b→b<base
 wf:Wf σ
 ext:Ext σ0 σ
 le:i≤ds.length
theorem Abu(m:Nat){bo base:Nat}{R:Nat→Prop}{q:Option Addr}{c:Nat}{ds:List D}{σ0:FState}(hC:∀d∈ds,CopyAt m d)(hb0:σ0.next=base)(hfew:ds.length<1000000):
  ∀(j fuel i:Nat) (f g:Nat→Value) (σ:FState),i+j=ds.length→j<fuel→HeadEa bo base R q c ds σ0 i f g σ→
  ∃f' g' σ',floop [14,15,28] (I_ (env m) none 139) fuel (Sl 7 29 f g []) none σ=.done (.exit 0) (Sl 7 29 f' g' []) none σ'∧HeadEa bo base R q c ds σ0 ds.length f' g' σ':=by
 intro j
 induction j with
 | zero=>
  intro fuel i f g σ hij hf h
  obtain⟨fuel,rfl⟩:∃q,fuel=q+1:=⟨fuel-1,by omega⟩
  obtain rfl:i=ds.length:=by omega
  have d1:decide (Int.ofNat ds.length<Int.ofNat ds.length)=false:=by simp
  rw[Ar,BU]
  unfold I_
  simp -implicitDefEqProofs only[go_sem,Ib,Ia,h.g14,h.g15,d1,List.mem_cons]
  refine⟨_,_,_,rfl,{ h with g14:=?_,g15:=?_ }⟩
  ·simp -implicitDefEqProofs only[go_sem,reduceCtorEq,h.g14,List.mem_cons,true_or,or_true]
  ·simp -implicitDefEqProofs only[go_sem,reduceCtorEq,h.g15,List.mem_cons,true_or,or_true]
 | succ j ih=>
  intro fuel i f g σ hij hf h
  obtain⟨fuel,rfl⟩:∃q,fuel=q+1:=⟨fuel-1,by omega⟩
  have hi:i<ds.length:=by omega
  have d1:decide (Int.ofNat i<Int.ofNat ds.length)=true:=by simp;omega
  have hd:ds[i]? = some ds[i]:=List.getElem?_eq_getElem hi
  obtain⟨b,off,cs,rfl,hRb,hcs,hle,hL⟩:=LaidRE.get h.lay hd
  rw[Nat.zero_add] at hle hL
  obtain⟨done,rest,ver,hg,hr,hrl⟩:=h.cs
  obtain⟨w,σ1,e1,x1,hw1,hL1⟩:=hC _ (List.getElem_mem hi) ((cs.drop (off+i*4)).take 4) R σ h.wf hL
  obtain⟨l4,rfl,hl4,hone⟩:=hL1.agg
  have hbn:=(h.wf _ _ hg).1
  have hg1:=(x1.get bo hbn).trans hg
  have hdl:done.length=i*4:=by rw[hr.1,List.length_take];omega
  have w1:=GH i (by omega)
  have hr4:4≤rest.length:=by rw[hrl];omega
  have e4:((done++rest).take (i*4)++l4++(done++rest).drop (i*4+4))=(done++l4)++rest.drop 4:=by
   rw[←hdl,List.take_left',List.drop_append]
   ·simp[List.drop_eq_nil_of_le]
   ·rfl
  have hlen:i*4+4≤(done++rest).length:=by rw[List.length_append,hdl];omega
  rw[Ar,BU]
  unfold I_
  simp -implicitDefEqProofs only[go_sem,Aw,Ib,Ia,PS,LS,PT,LU,PU,LV,h.f0,h.f1,h.f5,h.g14,h.g15,d1,hi,hcs,hle,e1,hg1,hl4,hone,hlen,e4,w1,List.mem_cons]
  generalize hff:upd _ 6 _=f1
  generalize hgg:upd _ 15 _=g1
  have n1:=x1.next
  have hbase:base≤σ.next:=by have:=h.ext.next;omega
  have hbo:=h.hbo
  have kc:∀(o:FObj) b cs,σ1.cells b=some cs→b≠bo→(σ1.put bo o none).cells b=some cs:=fun o b cs hc hb=>by rw[Al,if_neg hb];exact hc
  exact ih fuel (i+1) f1 g1 _ (by omega) (by omega) {
   f0:=by rw[←hff];simp -implicitDefEqProofs only[go_sem,reduceCtorEq,h.f0]
   f1:=by rw[←hff];simp -implicitDefEqProofs only[go_sem,reduceCtorEq,h.f1]
   f5:=by rw[←hff];simp -implicitDefEqProofs only[go_sem,reduceCtorEq,h.f5]
   g14:=by rw[←hgg];simp -implicitDefEqProofs only[go_sem,reduceCtorEq,h.g14,List.mem_cons,true_or,or_true]
   g15:=by rw[←hgg];simp -implicitDefEqProofs only[go_sem,reduceCtorEq]
   cs:=⟨done++l4,rest.drop 4,_,by rw[Am,if_pos rfl],by
    rw[List.take_add_one,hd]
    exact(hr.keep fun b cs hb hc=>⟨kc _ b cs ((x1.cells (h.wf.cells hc)).trans hc) hb.2,hb⟩).snoc hl4 hone (hL1.keep fun b cs hb hc=>⟨kc _ b cs hc (by omega),by omega,by omega⟩),by rw[List.length_drop,hrl];omega⟩
   hbo:=h.hbo
   lay:=h.lay.keep fun b cs hb hc=>⟨kc _ b cs ((x1.cells (h.wf.cells hc)).trans hc) (by have:=h.low b hb;omega),hb⟩
   low:=h.low
   wf:=hw1.put _ _ _ (by omega)
   ext:=(h.ext.trans x1).put _ _ _ (by omega)
   le:=hi }
theorem Abv(m:Nat)(ds:List D)(hC:∀d∈ds,CopyAt m d)(hfew:ds.length<1000000)(q:Option Addr)(c:Nat)(R:Nat→Prop)(σ:FState)(hw:Wf σ)(hE:LaidRE R σ q 0 ds):
  Gives ((env (m+1)).call 139 [.slice q ds.length c,.func (.func 104) #[] #[]] none σ) σ fun w σ'=>∃q' c',w=.slice q' ds.length c'∧LaidRE (fun b=>σ.next≤b) σ' q' 0 ds:=by
 rw[Ak _ 139 _ _ rfl,UK _ _ _ _ (by simp),Aj]
 unfold T_
 cases hz:(Int.ofNat ds.length==(0:Int)) with
 | true=>
  have h0:ds=[]:=by
   have:=Int.ofNat.inj (eq_of_beq hz)
   exact List.length_eq_zero_iff.1 this
  subst h0
  simp -implicitDefEqProofs only[go_sem,H8,H7,H_,H9,PP,LP,hz]
  exact⟨_,_,rfl,Ext.refl _,hw,none,0,rfl,trivial⟩
 | false=>
  have hmk:=fun σ=>JG 24 56 [.int .i64 0,.int .i64 0,.string ⟨#[]⟩,.slice none 0 0] ds.length σ (by omega)
  simp -implicitDefEqProofs only[go_sem,H8,H7,H_,H9,PQ,LQ,PR,LR,hz,hmk,Vp]
  generalize hff:upd _ 5 _=f1
  generalize hgg:upd _ 15 _=g1
  generalize hbf:bigFuel=fuel
  obtain⟨f2,g2,σ2,e2,h2⟩:=Abu m (bo:=σ.next) (base:=σ.next) (R:=fun b=>R b∧b<σ.next) (q:=q) (c:=c) (σ0:=σ) hC rfl hfew ds.length fuel 0 f1 g1 (σ.push (.cells (reps ds.length [.int .i64 0,.int .i64 0,.string ⟨#[]⟩,.slice none 0 0]) TD) none) (by omega) (by rw[←hbf];show ds.length<1000000000000;omega) {
   f0:=by rw[←hff];simp -implicitDefEqProofs only[go_sem,reduceCtorEq]
   f1:=by rw[←hff];simp -implicitDefEqProofs only[go_sem,reduceCtorEq]
   f5:=by rw[←hff];simp -implicitDefEqProofs only[go_sem,reduceCtorEq]
   g14:=by rw[←hgg];simp -implicitDefEqProofs only[go_sem,reduceCtorEq]
   g15:=by rw[←hgg];simp -implicitDefEqProofs only[go_sem,reduceCtorEq]<;>rfl
   cs:=⟨[],reps ds.length [.int .i64 0,.int .i64 0,.string ⟨#[]⟩,.slice none 0 0],σ.clock,by rw[Ai,if_pos rfl];rfl,Row.nil _ _,by rw[Fc];rfl⟩
   hbo:=Nat.le_refl _
   lay:=hE.keep fun b cs hb hc=>⟨by rw[Ac,if_neg (by have:=hw.cells hc;omega)];exact hc,hb,hw.cells hc⟩
   low:=fun b hb=>hb.2
   wf:=hw.push _ _
   ext:=(Ext.refl _).push _ _
   le:=Nat.zero_le _ }
  rw[e2]
  simp -implicitDefEqProofs only[go_sem,PV,LW,h2.f5]
  obtain⟨done,rest,ver,hg,hr,hrl⟩:=h2.cs
  rw[List.take_length] at hr
  have hrest:rest=[]:=List.length_eq_zero_iff.1 (by rw[hrl];omega)
  subst hrest
  rw[List.append_nil] at hg
  exact⟨_,_,rfl,h2.ext,h2.wf,_,_,rfl,hr.elems (AB hg) (Nat.le_refl _) (fun c hc=>hc.1) 0 ds fun j e he=>by rwa [Nat.zero_add]⟩
theorem Abt(m:Nat)(k z:Int)(t:ByteArray)(ds:List D)(hC:∀d∈ds,CopyAt m d)(hfew:ds.length<1000000):CopyAt (m+2) (.mk k z t ds):=by
 intro lv R σ hw hL
 obtain⟨q,c,hv,hE⟩:=hL
 have hlv:lv=[.int .i64 k,.int .i64 z,.string t,.slice q ds.length c]:=by
  have:=Value.agg.inj hv
  simpa using congrArg Array.toList this
 subst hlv
 rw[Ak _ 104 _ _ rfl,AeA _ _ _ _ (by simp),Aj]
 unfold Zu
 have x1:Ext σ ((σ.push (.cells [.int .i64 k,.int .i64 z,.string t,.slice q ds.length c] TD) none).push (.cells [.int .i64 0,.int .i64 0,.string ⟨#[]⟩,.slice none 0 0] TD) none):=((Ext.refl _).push _ _).push _ _
 have hw1:=(hw.push (.cells [.int .i64 k,.int .i64 z,.string t,.slice q ds.length c] TD) none).push (.cells [.int .i64 0,.int .i64 0,.string ⟨#[]⟩,.slice none 0 0] TD) none
 have c1:((σ.push (.cells [.int .i64 k,.int .i64 z,.string t,.slice q ds.length c] TD) none).push (.cells [.int .i64 0,.int .i64 0,.string ⟨#[]⟩,.slice none 0 0] TD) none).cells σ.next=some [.int .i64 k,.int .i64 z,.string t,.slice q ds.length c]:=by rw[Ac,if_neg (by rw[Aa];omega),Ac,if_pos rfl];rfl
 have g2:((σ.push (.cells [.int .i64 k,.int .i64 z,.string t,.slice q ds.length c] TD) none).push (.cells [.int .i64 0,.int .i64 0,.string ⟨#[]⟩,.slice none 0 0] TD) none).heap.get (σ.next+1)=some ⟨.cells [.int .i64 0,.int .i64 0,.string ⟨#[]⟩,.slice none 0 0] TD,false,none,σ.clock+1⟩:=by rw[Ai,if_pos (by rw[Aa])];rfl
 have kc:((σ.push (.cells [.int .i64 k,.int .i64 z,.string t,.slice q ds.length c] TD) none).push (.cells [.int .i64 0,.int .i64 0,.string ⟨#[]⟩,.slice none 0 0] TD) none).clock=σ.clock+2:=rfl
 have kn:((σ.push (.cells [.int .i64 k,.int .i64 z,.string t,.slice q ds.length c] TD) none).push (.cells [.int .i64 0,.int .i64 0,.string ⟨#[]⟩,.slice none 0 0] TD) none).next=σ.next+2:=rfl
 simp -implicitDefEqProofs only[go_sem,Ab6,Re]
 generalize FState.push (FState.push σ _ _) _ _=σ1 at x1 hw1 c1 g2 kc kn ⊢
 have hv1:=D0 hw1 (lam:=σ.clock+2) (by omega)
 obtain⟨_,σ2,e2,x2,hw2,q',c',rfl,hE'⟩:=Abv m ds hC hfew q c R σ1 hw1 (hE.keep fun b cs hb hc=>⟨(x1.cells (hw.cells hc)).trans hc,hb⟩)
 have c2:(view σ2 (σ.clock+2)).cells σ.next=some [.int .i64 k,.int .i64 z,.string t,.slice q ds.length c]:=ED hw1 (by omega) (x2.get _ (hw1.cells c1)) c1
 have g2':=(x2.get _ (hw1 _ _ g2).1).trans g2
 simp -implicitDefEqProofs only[go_sem,Aw,Ab7,Rf,hv1,c1,e2,c2,g2',Bj,AX,AP,A0,BJ]
 have n2:=x2.next
 exact⟨_,_,rfl,(x1.trans x2).put _ _ _ (by omega),hw2.put _ _ _ (by omega),q',c',rfl,hE'.keep fun b cs hb hc=>⟨by rw[Al,if_neg (by omega)];exact hc,by omega⟩⟩
theorem QD(n:Nat):∀(N:Nat) (d:D),D.deep d≤N→d.count<1000000→CopyAt (n+2*N) d
 | 0,d,h,_=>by cases d;rw[D.deep] at h;omega
 | N+1,.mk k z t ds,h,hc=>by
  rw[D.deep] at h
  rw[D.count] at hc
  have:=Eh ds
  exact Abt (n+2*N) k z t ds (fun d hd=>QD n N d (by have:=Eo hd;omega) (by have:=Fv hd;omega)) (by omega)
end Go.Proofs.YtokieofohmgjdaaGreatDoor
namespace Go.Proofs.YtokieofohmgjdaaGreatDoor
open Go Go.Eng
attribute [local congr] Ab Ah Af Ad Ae
attribute [-go_sem] List.range_succ
theorem AbR:keepOf nls 109=[7,8,9,32]:=by kernel_rfl
theorem Ar1{cs:List Value}{off:Nat}{a b c e:Value}(h:(cs.drop off).take 4=[a,b,c,e]):cs[off+3]? = some e:=by
 have:((cs.drop off).take 4)[3]? = some e:=by rw[h];rfl
 rw[List.getElem?_take,if_pos (by omega),List.getElem?_drop] at this
 exact this
structure HeadPl (a:Option Addr) (plen cx i b off:Nat) (f g:Nat→Value):Prop where
 f0:f 0=.pointer (some ⟨b,off,none⟩)
 g7:g 7=.slice a plen cx
 g8:g 8=.int .i64 (.ofNat plen)
 g9:g 9=.int .i64 (.ofNat i)
theorem XH(E:Env){a:Option Addr}{cx:Nat}{path:List Nat}{R:Nat→Prop}{σ:FState}(hs:path.length<100000)(x:D)(hp:path≠[]→∃b rest,a=some ⟨b,0,none⟩∧σ.cells b=some (intsOf path++rest)):
  ∀(j fuel i:Nat) (f g:Nat→Value) (d:D) (b off:Nat) (cs:List Value),i+j=path.length→j<fuel→atP (path.drop i) d=some x→d.count<100000→σ.cells b=some cs→4≤cs.length-off→LaidR R σ (.agg ((cs.drop off).take 4).toArray) d→HeadPl a path.length cx i b off f g→
  ∃f' g' b off cs,floop [7,8,9,32] (Q1 E none 109) fuel (Sl 7 33 f g []) none σ=.done (.exit 0) (Sl 7 33 f' g' []) none σ∧f' 0=.pointer (some ⟨b,off,none⟩)∧σ.cells b=some cs∧4≤cs.length-off∧LaidR R σ (.agg ((cs.drop off).take 4).toArray) x:=by
 intro j
 induction j with
 | zero=>
  intro fuel i f g d b off cs hij hf hx _ hc hle hL h
  obtain⟨fuel,rfl⟩:∃q,fuel=q+1:=⟨fuel-1,by omega⟩
  obtain rfl:i=path.length:=by omega
  rw[List.drop_length,atP] at hx
  obtain rfl:=Option.some.inj hx
  have d1:decide (Int.ofNat path.length<Int.ofNat path.length)=false:=by simp
  rw[Ar,BU]
  unfold Q1
  simp -implicitDefEqProofs only[go_sem,Pz,Lz,h.g8,h.g9,d1,List.mem_cons]
  exact⟨_,_,b,off,cs,rfl,h.f0,hc,hle,hL⟩
 | succ j ih=>
  intro fuel i f g d b off cs hij hf hx hN hc hle hL h
  obtain⟨fuel,rfl⟩:∃q,fuel=q+1:=⟨fuel-1,by omega⟩
  have hi:i<path.length:=by omega
  have d1:decide (Int.ofNat i<Int.ofNat path.length)=true:=by simp;omega
  obtain⟨bp,rest,rfl,hcp⟩:=hp (fun h=>by rw[h] at hi;simp at hi)
  have g1:=M3 rest hi
  have w3:=GH i (by omega)
  have hdr:path.drop i=path[i]::path.drop (i+1):=List.drop_eq_getElem_cons hi
  obtain⟨k,z,t,ds⟩:=d
  obtain⟨q,c,hv,hE⟩:=hL
  have hv':(cs.drop off).take 4=[.int .i64 k,.int .i64 z,.string t,.slice q ds.length c]:=by
   have:=Value.agg.inj hv
   simpa using congrArg Array.toList this
  have hf3:=Ar1 hv'
  rw[hdr,atP] at hx
  simp only[D.parts] at hx
  cases hd:ds[path[i]]? with
  | none=>rw[hd] at hx;cases hx
  | some d'=>
   rw[hd] at hx
   simp only at hx
   have hpi:=(List.getElem?_eq_some_iff.1 hd).1
   obtain⟨b',off',cs',rfl,hRb,hcs',hle',hL'⟩:=LaidRE.get hE hd
   rw[Nat.zero_add] at hle' hL'
   have e0:decide (Int.ofNat path[i]<0)=false:=by simp
   have e1:decide (Int.ofNat path[i]≥Int.ofNat ds.length)=false:=by simp;omega
   rw[Ar,BU]
   unfold Q1
   simp -implicitDefEqProofs only[go_sem,Pz,Lz,Acd,Rl,Ace,Rm,Acf,Rn,Acg,Ro,h.f0,h.g7,h.g8,h.g9,d1,hi,hcp,g1,hc,hf3,e0,e1,hpi,w3,List.mem_cons]
   generalize hff:upd _ 0 _=f1
   generalize hgg:upd _ 9 _=gg
   exact ih fuel (i+1) f1 gg d' b' (off'+path[i]*4) cs' (by omega) (by omega) hx (by have:=Fv (List.mem_of_getElem? hd);rw[D.count] at hN;omega) hcs' (by omega) hL' {
    f0:=by rw[←hff];simp -implicitDefEqProofs only[go_sem,reduceCtorEq]
    g7:=by rw[←hgg];simp -implicitDefEqProofs only[go_sem,reduceCtorEq,h.g7,List.mem_cons,true_or,or_true]
    g8:=by rw[←hgg];simp -implicitDefEqProofs only[go_sem,reduceCtorEq,h.g8,List.mem_cons,true_or,or_true]
    g9:=by rw[←hgg];simp -implicitDefEqProofs only[go_sem,reduceCtorEq] }
theorem Afp(n:Nat){path:List Nat}{pv:Value}{R Q:Nat→Prop}{σ:FState}(hs:path.length<100000){d x:D}(hP:PathV Q σ pv path){b off:Nat}{cs:List Value}(hx:atP path d=some x)(hN:d.count<100000)(hc:σ.cells b=some cs)(hle:4≤cs.length-off)(hL:LaidR R σ (.agg ((cs.drop off).take 4).toArray) d):
  ∃b' off' cs',(env (n+1)).call 109 [.pointer (some ⟨b,off,none⟩),pv] none σ=.ret (.pointer (some ⟨b',off',none⟩)) none σ∧σ.cells b'=some cs'∧4≤cs'.length-off'∧LaidR R σ (.agg ((cs'.drop off').take 4).toArray) x:=by
 obtain⟨a,cx,rfl,k1⟩:=Le hP
 rw[Ak _ 109 _ _ rfl,AeD _ _ _ _ (by simp),Aj]
 unfold Zx
 simp -implicitDefEqProofs only[go_sem,Acb,Rj,Acc,Rk,AbR]
 generalize hff:upd _ 4 _=f1
 generalize hgg:upd _ 9 _=g1
 generalize hbf:bigFuel=fuel
 obtain⟨f2,g2,b',off',cs',e2,h1,h2,h3,h4⟩:=XH (env n) (a:=a) (cx:=cx) (σ:=σ) hs x (fun h=>by obtain⟨b,r,x,_,y⟩:=k1 h;exact⟨b,r,x,y⟩) path.length fuel 0 f1 g1 d b off cs (by omega) (by rw[←hbf];show path.length<1000000000000;omega) hx hN hc hle hL {
  f0:=by rw[←hff];simp -implicitDefEqProofs only[go_sem,reduceCtorEq]
  g7:=by rw[←hgg];simp -implicitDefEqProofs only[go_sem,reduceCtorEq]
  g8:=by rw[←hgg];simp -implicitDefEqProofs only[go_sem,reduceCtorEq]
  g9:=by rw[←hgg];simp -implicitDefEqProofs only[go_sem,reduceCtorEq]<;>rfl }
 rw[e2]
 simp -implicitDefEqProofs only[go_sem,Ach,Rp,h1]
 exact⟨_,_,_,rfl,h2,h3,h4⟩
theorem UF(n:Nat)(p q:Value)(σ:FState):(env (n+1)).call 164 [p,q] (some .returning) σ=.ret (.tuple #[]) (some .returning) σ:=by
 rw[Ph,UM _ _ _ _ (by simp),Aj]
 unfold Ub
 simp -implicitDefEqProofs only[go_sem,P8,Mc,P9,Md,Ada,Sm,Asa]
theorem Ami(n w:Nat)(cap:Array Value)(x:D)(σ:FState)(hw:Wf σ)(h:∀σ',Ext σ σ'→Wf σ'→Gives ((env (n+1)).call w cap.toList none σ') σ' fun v σ''=>LaidR (fun b=>σ'.next≤b) σ'' v x):
  Gives ((env (n+2)).call 141 [.func (.func w) #[] cap] none σ) σ fun v σ'=>∃u,v=.tuple #[u,.int .i64 0,.int .i64 0]∧LaidR (fun b=>σ.next≤b) σ' u x:=by
 rw[Ak _ 141 _ _ rfl,UL _ _ _ _ (by simp),Aj]
 unfold Ua
 have hX1:Ext σ (((σ.push (.cells [.int .i64 0,.int .i64 0,.string ⟨#[]⟩,.slice none 0 0] TD) none).push (.cells [.int .i64 0] 3) none).push (.cells [.int .i64 0] 32) none):=(((Ext.refl _).push _ _).push _ _).push _ _
 have hw1:=((hw.push (.cells [.int .i64 0,.int .i64 0,.string ⟨#[]⟩,.slice none 0 0] TD) none).push (.cells [.int .i64 0] 3) none).push (.cells [.int .i64 0] 32) none
 obtain⟨_,σ2,e2,hX2,hw2,hq⟩:=h _ hX1 hw1
 obtain⟨k,z,t,ds⟩:=x
 obtain⟨q,c,rfl,hE⟩:=hq
 have g0:σ2.heap.get σ.next=_:=(hX2.get σ.next (by simp only[Aa];omega)).trans (by simp -implicitDefEqProofs only[Ai,Aa,Nat.add_assoc,Nat.reduceAdd,Nat.left_eq_add,reduceCtorEq,↓reduceIte,Nat.reduceEqDiff]<;>rfl)
 have g1:σ2.heap.get (σ.next+1)=_:=(hX2.get (σ.next+1) (by simp only[Aa];omega)).trans (by simp -implicitDefEqProofs only[Ai,Aa,Nat.add_assoc,Nat.reduceAdd,Nat.add_left_cancel_iff,reduceCtorEq,↓reduceIte,Nat.reduceEqDiff]<;>rfl)
 have g2:σ2.heap.get (σ.next+2)=_:=(hX2.get (σ.next+2) (by simp only[Aa];omega)).trans (by simp -implicitDefEqProofs only[Ai,Aa,Nat.add_assoc,Nat.reduceAdd,Nat.add_left_cancel_iff,reduceCtorEq,↓reduceIte,Nat.reduceEqDiff]<;>rfl)
 simp -implicitDefEqProofs only[go_sem,Aw,PW,LX,PX,LY,PY,LZ,e2,g0,g1,g2,BJ,Ad7,Up,UF,Bj,AX,AP,A0]
 have m0:=(hw2 _ _ g0).1
 have m1:=(hw2 _ _ g1).1
 have m2:=(hw2 _ _ g2).1
 exact⟨_,_,rfl,(((hX1.trans hX2).put _ _ _ (Nat.le_refl _)).put _ _ _ (Nat.le_add_right _ _)).put _ _ _ (Nat.le_add_right _ _),((hw2.put _ _ _ m0).put _ _ _ m1).put _ _ _ m2,_,rfl,q,c,rfl,hE.keep fun b cs hb hc=>by
  simp only[Aa] at hb
  exact⟨by rw[Al,if_neg (by omega),Al,if_neg (by omega),Al,if_neg (by omega)];exact hc,by omega⟩⟩
theorem As0(n w:Nat)(cap:Array Value)(x:D)(σ:FState)(hw:Wf σ)(h:∀σ',Ext σ σ'→Wf σ'→Gives ((env (n+1)).call w cap.toList none σ') σ' fun v σ''=>LaidR (fun b=>σ'.next≤b) σ'' v x):
  Gives ((env (n+3)).call 99 [.func (.func w) #[] cap] none σ) σ fun v σ'=>∃u,v=.tuple #[u,.int .i64 0]∧LaidR (fun b=>σ.next≤b) σ' u x:=by
 rw[Ak _ 99 _ _ rfl,Aag _ _ _ _ (by simp),Aj]
 unfold Aa9
 have hX1:Ext σ (σ.push (.cells [.int .i64 0,.int .i64 0,.string ⟨#[]⟩,.slice none 0 0] TD) none):=(Ext.refl _).push _ _
 obtain⟨_,σ2,e2,hX2,hw2,u,rfl,hq⟩:=Ami n w cap x _ (hw.push (.cells [.int .i64 0,.int .i64 0,.string ⟨#[]⟩,.slice none 0 0] TD) none) fun σ' hx hw'=>h σ' (hX1.trans hx) hw'
 obtain⟨k,z,t,ds⟩:=x
 obtain⟨q,c,rfl,hE⟩:=hq
 have g0:σ2.heap.get σ.next=_:=(hX2.get σ.next (Nat.lt_succ_self _)).trans (by rw[Ai,if_pos rfl])
 have m0:=(hw2 _ _ g0).1
 have hne:(σ.next=σ2.next)=False:=by simp;omega
 have hne':(σ2.next=σ.next)=False:=by simp;omega
 simp -implicitDefEqProofs only[go_sem,Aw,Wv,TQ,Ww,TR,Wx,TT,e2,g0,BJ,Bj,AX,AP,A0,DZ,hne,hne']
 exact⟨_,_,rfl,(((hX1.trans hX2).push _ _).put _ _ _ (by have:=(hX1.trans hX2).next;omega)).put _ _ _ (Nat.le_refl _),((hw2.push _ _).put _ _ _ (Nat.lt_succ_self _)).put _ _ _ (by rw[Ap,Aa];omega),_,rfl,q,c,rfl,hE.keep fun b cs hb hc=>by
  have:=hw2.cells hc
  simp only[Aa] at hb
  exact⟨by rw[Al,if_neg (by omega),Al,if_neg (by omega),Ac,if_neg (by omega)];exact hc,by omega⟩⟩
theorem at1(M n:Nat)(hM:M=n+14)(bd bp:Nat)(L:Nat)(hL6:L≤6)(d x:D)(hF:Fine M L d)(lv:List Value)(h4:lv.length=4)(R Q:Nat→Prop)(path:List Nat)(pv:Value)(hs:path.length<100000)(hx:atP path d=some x)(hxd:x.deep≤7)(hxc:x.count<100000)(σ:FState)(hw:Wf σ)(hb1:σ.cells bd=some lv)(hb2:σ.cells bp=some [pv])(hL:LaidR R σ (.agg lv.toArray) d)(hP:PathV Q σ pv path)(hR:∀b,R b→b<σ.next):
  Gives ((env (M+6)).call 108 [.pointer (some ⟨bd,0,none⟩),.pointer (some ⟨bp,0,none⟩)] none σ) σ fun v σ'=>LaidR (fun b=>σ.next≤b) σ' v x:=by
 have hf:=hF.few hL6
 rw[Ak _ 108 _ _ rfl,AeC _ _ _ _ (by simp),Aj]
 unfold Zw
 have x0:Ext σ (σ.push (.cells [.int .i64 0,.int .i64 0,.string ⟨#[]⟩,.slice none 0 0] TD) none):=(Ext.refl _).push _ _
 have hw0:=hw.push (.cells [.int .i64 0,.int .i64 0,.string ⟨#[]⟩,.slice none 0 0] TD) none
 have ne1:(bd=σ.next)=False:=by have:=hw.cells hb1;simp;omega
 have ne2:(bp=σ.next)=False:=by have:=hw.cells hb2;simp;omega
 obtain⟨_,σ1,e1,x1,hw1,rfl⟩:=WO M d lv h4 R _ hw0 (hL.keep fun b cs hb hc=>⟨(x0.cells (hw.cells hc)).trans hc,hb⟩) (fun b hb=>by have:=hR b hb;rw[Aa];omega) (hF.small hL6) (by omega) hF.good
 have x01:=x0.trans x1
 have c1:=(x01.cells (hw.cells hb1)).trans hb1
 have c2:=(x01.cells (hw.cells hb2)).trans hb2
 have ht:lv.take 4=lv:=List.take_of_length_le (by omega)
 have hL1:LaidR R σ1 (.agg ((lv.drop 0).take 4).toArray) d:=by
  rw[List.drop_zero,ht]
  exact hL.keep fun b cs hb hc=>⟨(x01.cells (hw.cells hc)).trans hc,hb⟩
 obtain⟨b',off',cs',e2,hc',hle',hL'⟩:=Afp (M+4) (Q:=fun _=>True) (σ:=σ1) hs (hP.keep fun b cs _ hc=>⟨(x01.cells (hw.cells hc)).trans hc,trivial⟩) hx (by rw[←DV d []];omega) c1 (by omega) hL1
 have hcp:=QD (n+5) 7 x hxd (by omega)
 rw[show n+5+2*7=M+5 by omega] at hcp
 obtain⟨_,σ2,e3,x2,hw2,hq⟩:=hcp ((cs'.drop off').take 4) R σ1 hw1 hL'
 obtain⟨k,z,t,ds⟩:=x
 obtain⟨q,c,rfl,hE⟩:=hq
 have g0:σ2.heap.get σ.next=_:=((x1.trans x2).get σ.next (Nat.lt_succ_self _)).trans (by rw[Ai,if_pos rfl])
 have m0:=(hw2 _ _ g0).1
 simp -implicitDefEqProofs only[go_sem,Aw,Ab8,Rg,Ab9,Rh,Aca,Ri,hb1,hb2,ne1,ne2,c1,c2,h4,ht,e1,e2,e3,hc',hle',g0,BJ,Bj,AX,AP,A0,Nat.le_refl]
 have n1:=x1.next
 rw[Aa] at n1
 exact⟨_,_,rfl,(x01.trans x2).put _ _ _ (Nat.le_refl _),hw2.put _ _ _ m0,q,c,rfl,hE.keep fun b cs hb hc=>⟨by rw[Al,if_neg (by omega)];exact hc,by omega⟩⟩
end Go.Proofs.YtokieofohmgjdaaGreatDoor
namespace Go.Proofs.YtokieofohmgjdaaGreatDoor
open Go Go.Eng
def nilD:D:=.mk 0 0 ⟨#[]⟩ []
def pairD(a b:D):D:=.mk 5 0 ⟨#[]⟩ [a,b]
def listD(t:D):List D→D
 | []=>t
 | d::ds=>pairD d (listD t ds)
theorem K_(t:D):∀ds:List D,(listD t ds).count=ds.length+D.counts ds+t.count
 | []=>by simp[listD,D.counts]
 | d::ds=>by
  rw[listD,pairD,D.count,D.counts,D.counts,D.counts,D.counts,K_ t ds,List.length_cons]
  omega
theorem M7(t:D)(N:Nat):∀ds:List D,(∀d∈ds,d.deep≤N)→(listD t ds).deep≤ds.length+max N t.deep
 | [],_=>by rw[listD];omega
 | d::ds,h=>by
  have h1:=h d List.mem_cons_self
  have h2:=M7 t N ds fun d' hd=>h d' (List.mem_cons_of_mem _ hd)
  rw[listD,pairD,D.deep,D.deeps,D.deeps,D.deeps,List.length_cons]
  omega
theorem Gb:∀a b:List D,D.counts (a++b)=D.counts a+D.counts b
 | [],b=>by simp[D.counts]
 | d::a,b=>by rw[List.cons_append,D.counts,D.counts,Gb a b];omega
theorem Hm:∀a:List D,D.counts a.reverse=D.counts a
 | []=>rfl
 | d::a=>by rw[List.reverse_cons,Gb,Hm a,D.counts,D.counts,D.counts];omega
def Sane(m:Nat)(d:D):Prop:=∀path,∀x∈d.pieces path,x.2.parts.length≤900∧GoodD m x.2
theorem Fine.sane{m L:Nat}{d:D}(h:Fine m L d):Sane m d:=fun path x hx=>by
 have h':=((h path).2 x hx).2
 exact⟨by omega,h'.2⟩
theorem AlS(m:Nat):Sane m nilD:=fun path x hx=>by
 rw[nilD,D.pieces,D.piecesL] at hx
 simp only[List.mem_singleton] at hx
 subst hx
 exact⟨by simp[D.parts],fun k z t ds e=>by cases e;exact⟨0,rfl,.nil⟩⟩
theorem AdT{m:Nat}{a b:D}(ha:Sane m a)(hb:Sane m b):Sane m (pairD a b):=fun path x hx=>by
 rw[pairD,D.pieces,D.piecesL,D.piecesL,D.piecesL,List.append_nil] at hx
 rcases List.mem_cons.1 hx with rfl|hx
 ·exact⟨by simp[D.parts],fun k z t ds e=>by cases e;exact⟨5,rfl,.pair⟩⟩
 ·rcases List.mem_append.1 hx with hx|hx
  ·exact ha _ x hx
  ·exact hb _ x hx
theorem Qp{m:Nat}{t:D}(ht:Sane m t):∀ {ds:List D},(∀d∈ds,Sane m d)→Sane m (listD t ds)
 | [],_=>ht
 | d::ds,h=>AdT (h d List.mem_cons_self) (Qp ht fun d' hd=>h d' (List.mem_cons_of_mem _ hd))
theorem Sane.good{m:Nat}{d:D}(h:Sane m d):AllGood m (d.pieces []):=fun path k z t ds hx=>(h [] _ hx).2 k z t ds rfl
theorem Lg(d:D)(hd:d.deep<1000):∀y∈d.pieces [],y.1.length<1000:=fun y hy=>by
 have h1:=FL d []
 have h2:y.1.length+1≤longest (d.pieces []):=by
  obtain⟨a,b,h⟩:=List.append_of_mem hy
  rw[h,FK,GQ]
  omega
 simp at h1
 omega
theorem Sane.small{m:Nat}{d:D}(h:Sane m d)(hd:d.deep<1000):Small (d.pieces []):=fun x hx=>⟨by have:=Lg d hd x hx;omega,by have:=(h [] x hx).1;omega⟩
theorem Ad4(M:Nat)(d:D)(h:Sane M d)(hc:d.count≤2000)(hd:d.deep<1000)(lv:List Value)(h4:lv.length=4)(R:Nat→Prop)(σ:FState)(hw:Wf σ)(hL:LaidR R σ (.agg lv.toArray) d)(hR:∀b,R b→b<σ.next):
  Gives ((env (M+5)).call 71 [.agg lv.toArray] none σ) σ fun w _=>w=.int .i64 (.ofNat d.count):=by
 have:=WO M d lv h4 R σ hw hL hR (h.small hd) (by rw[DV];exact hc) h.good
 rwa [DV] at this
end Go.Proofs.YtokieofohmgjdaaGreatDoor
namespace Go.Proofs.YtokieofohmgjdaaGreatDoor
open Go Go.Eng
def VecG(Q R:Nat→Prop)(σ:FState)(s:Value)(ds:List D):Prop:=
 (ds=[]∧s=.slice none 0 0)∨(∃b cs ver,s=.slice (some ⟨b,0,none⟩) ds.length ds.length∧σ.heap.get b=some ⟨.cells cs TD,false,some 4,ver⟩∧Q b∧Row R σ cs ds)
theorem VecG.slice{Q R:Nat→Prop}{σ:FState}{s:Value}{ds:List D}(h:VecG Q R σ s ds):∃p,s=.slice p ds.length ds.length∧LaidRE (fun b=>Q b∨R b) σ p 0 ds:=by
 rcases h with⟨rfl,rfl⟩|⟨b,cs,ver,rfl,hb,hq,hr⟩
 ·exact⟨none,rfl,trivial⟩
 ·exact⟨_,rfl,hr.elems (AB hb) (.inl hq) (fun c hc=>.inr hc) 0 ds fun j e he=>by rwa [Nat.zero_add]⟩
theorem VecG.one{Q R:Nat→Prop}{σ:FState}{s:Value}{ds:List D}(h:VecG Q R σ s ds):oneCell s=true∧notTuple s=true∧valCells s=[s]:=by
 rcases h with⟨rfl,rfl⟩|⟨b,cs,ver,rfl,hb,hq,hr⟩<;>exact⟨rfl,rfl,rfl⟩
theorem VecG.keep{Q Q' R R':Nat→Prop}{σ σ':FState}{s:Value}{ds:List D}(h:VecG Q R σ s ds)(hq:∀b e,Q b→σ.heap.get b=some e→σ'.heap.get b=some e∧Q' b)(hr:∀b cs,R b→σ.cells b=some cs→σ'.cells b=some cs∧R' b):VecG Q' R' σ' s ds:=by
 rcases h with h|⟨b,cs,ver,rfl,hb,hQ,hR⟩
 ·exact .inl h
 ·exact .inr ⟨b,cs,ver,rfl,(hq b _ hQ hb).1,(hq b _ hQ hb).2,hR.keep hr⟩
theorem WQ(Q R Q':Nat→Prop)(σ1:FState)(s:Value)(ds:List D)(d:D)(l:List Value)(hw:Wf σ1)(hl:l.length=4)(ho:l.all oneCell=true)(hlen:ds.length<900)(hV:VecG Q R σ1 s ds)(hd:LaidR R σ1 (.agg l.toArray) d)(hQR:∀b,Q b→¬ R b)(hQ':∀b,σ1.next≤b→Q' b):
  ∃s' τ,fappend TD 4 56 s (.slice (some ⟨σ1.next,0,none⟩) 1 1) (σ1.push (.cells l TD) none)=.val s' τ∧VecG Q' R τ s' (ds++[d])∧Wf τ∧Chg Q σ1 τ:=by
 have hx:(σ1.push (.cells l TD) none).cells σ1.next=some l:=by rw[Ac,if_pos rfl];rfl
 rcases hV with⟨rfl,rfl⟩|⟨b,cs,ver,rfl,hb,hq,hR⟩
 ·refine⟨_,_,Jm TD 4 56 _ 1 l _ hx hl ho (by decide),.inr ⟨_,_,_,rfl,by rw[Ai,if_pos rfl],hQ' _ (by rw[Aa];omega),?_⟩,(hw.push _ _).push _ _,((Chg.refl _ _).push _ _).push _ _⟩
  exact(Row.nil _ _).snoc hl ho (hd.keep fun c cs hc h=>by
   have:=hw.cells h
   refine⟨?_,hc⟩
   rw[Ac,if_neg (by rw[Aa];omega),Ac,if_neg (by omega)]
   exact h)
 ·have hbn:b<σ1.next:=(hw b _ hb).1
  have hb1:(σ1.push (.cells l TD) none).heap.get b=some ⟨.cells cs TD,false,some 4,ver⟩:=by rw[Ai,if_neg (by omega)];exact hb
  have hw1:=hw.push (.cells l TD) none
  have hw2:=hw1.put b (.defd false) none (by rw[Aa];omega)
  refine⟨_,_,K1 TD 4 56 b _ 1 ds.length ver cs l _ hb1 hx hl ho hR.1 (by decide) (by omega),.inr ⟨_,_,_,by rw[List.length_append];rfl,by rw[Ai,if_pos rfl],hQ' _ (by rw[Ap,Aa];omega),?_⟩,hw2.push _ _,(((Chg.refl _ _).push _ _).put _ _ _ (.inr hq)).push _ _⟩
  have kp:∀(c:Nat) (cs':List Value),R c→σ1.cells c=some cs'→
    (((σ1.push (.cells l TD) none).put b (.defd false) none).push (.cells (cs++l) TD) (some 4)).cells c=some cs'∧R c:=fun c cs' hc h=>by
   have:=hw.cells h
   refine⟨?_,hc⟩
   rw[Ac,if_neg (by rw[Ap,Aa];omega),Al,if_neg (fun(e:c=b)=>hQR b hq (e ▸ hc)),Ac,if_neg (by omega)]
   exact h
  exact(hR.keep kp).snoc hl ho (hd.keep kp)
theorem Row.append{R:Nat→Prop}{σ:FState}{cs cs':List Value}{ds ds':List D}(h:Row R σ cs ds)(h':Row R σ cs' ds'):Row R σ (cs++cs') (ds++ds'):=by
 refine⟨by rw[List.length_append,List.length_append,h.1,h'.1];omega,by rw[List.all_append,h.2.1,h'.2.1];rfl,fun i d hd=>?_⟩
 by_cases hi:i<ds.length
 ·rw[List.getElem?_append_left hi] at hd
  have:=h.2.2 i d hd
  rw[List.drop_append_of_le_length (by rw[h.1];omega),List.take_append_of_le_length (by rw[List.length_drop,h.1];omega)]
  exact this
 ·rw[List.getElem?_append_right (by omega)] at hd
  have:=h'.2.2 (i-ds.length) d hd
  have e:i*4=cs.length+(i-ds.length)*4:=by rw[h.1];omega
  rw[e,←List.drop_drop,List.drop_left]
  exact this
end Go.Proofs.YtokieofohmgjdaaGreatDoor
namespace Go.Eng
open Go
section
variable (E:Env) (ro:Option Nat) (a:FAct) (u:Option FrameMode) (σ:FState) (cl:List Nat)
end
end Go.Eng
namespace Go.Proofs.YtokieofohmgjdaaGreatDoor
open Go Go.Eng
end Go.Proofs.YtokieofohmgjdaaGreatDoor
namespace Go.Proofs.YtokieofohmgjdaaGreatDoor
open Go Go.Eng
variable (E:Env) (ro:Option Nat) (last:List Nat→RunF) (cl:List Nat) (a:FAct) (u:Option FrameMode) (σ:FState)
def R0(_:Unit):List COp:=[⟨fun a σ=>.val (a.get 0) σ,some 2,fun _=>some true⟩,
 ⟨fun a σ=>.enter 162 [(a.get 2),(.int .i64 0)] σ,some 3,fun _=>some true⟩]
def Ag7:List COp:=R0 ()
def ZF(E:Env)(ro:Option Nat)(fn:FuncId):RunF:=(fops E ro Ag7)
theorem AcP:fops E ro Ag7 a u σ=fops E ro (R0 ()) a u σ:=rfl
theorem AmA(E:Env)(ro:Option Nat)(fn:FuncId):code Tryz.prog nls (Tryz.f136.body.getD .skip) E ro fn=ZF E ro fn:=by kernel_rfl
theorem AeL(E:Env)(args:List Value)(u:Option FrameMode)(σ:FState)(hn:args.length≤(2:Nat)):fcall Tryz.prog nls E 136 args u σ=leaveR Tryz.prog E [] (ZF E none 136 ⟨padTo undef 2 args,fun _=>undef,2,4,[]⟩ u σ):=by
 rw[Ao (body:=Tryz.f136.body.getD .skip) Tryz.func136 rfl E args u σ 2 4 (by kernel_rfl) rfl ⟨hn,by decide⟩,AmA]
 rfl
def Sk(_:Unit):List COp:=[⟨fun a σ=>.val (a.get 0) σ,some 4,fun _=>some true⟩,
 ⟨fun a σ=>.val (a.get 1) σ,some 5,fun _=>some true⟩,
 ⟨fun a σ=>fbuild (fun i=>nth [(0,1),(1,1)] i) [(.int .i64 0),(.int .i64 0)] [(0,(a.get 4)),(1,(a.get 5))] σ,some 6,fun _=>some true⟩,
 ⟨fun a σ=>.val (.iface 178 (a.get 6)) σ,some 7,fun _=>some true⟩,
 ⟨fun a σ=>fpanic (a.get 7) σ,none,fun _=>some true⟩]
def Aim:List COp:=Sk ()
def ZO(E:Env)(ro:Option Nat)(fn:FuncId):RunF:=(fops E ro Aim)
theorem Ac9:fops E ro Aim a u σ=fops E ro (Sk ()) a u σ:=rfl
theorem AmO(E:Env)(ro:Option Nat)(fn:FuncId):code Tryz.prog nls (Tryz.f162.body.getD .skip) E ro fn=ZO E ro fn:=by kernel_rfl
theorem AeU(E:Env)(args:List Value)(u:Option FrameMode)(σ:FState)(hn:args.length≤(4:Nat)):fcall Tryz.prog nls E 162 args u σ=leaveR Tryz.prog E [] (ZO E none 162 ⟨padTo undef 4 args,fun _=>undef,4,8,[]⟩ u σ):=by
 rw[Ao (body:=Tryz.f162.body.getD .skip) Tryz.func162 rfl E args u σ 4 8 (by kernel_rfl) rfl ⟨hn,by decide⟩,AmO]
 rfl
def R7(_:Unit):List COp:=[⟨fun a σ=>newCells [(.int .i64 0),(.int .i64 0)] 178 none σ,some 2,fun _=>some true⟩]
def Ahx:List COp:=R7 ()
def R8(_:Unit):List COp:=[⟨fun a σ=>newCells [(.int .i64 0),(.int .i64 0)] 178 none σ,some 3,fun _=>some true⟩]
def Ahy:List COp:=R8 ()
def R9(_:Unit):List COp:=[⟨fun a σ=>.val (a.get 0) σ,some 4,fun _=>some true⟩,
 ⟨fun a σ=>.val (.iface 197 (a.get 3)) σ,some 5,fun _=>some true⟩,
 ⟨fun a σ=>.enter 169 [(a.get 4),(a.get 5)] σ,some 6,fun _=>some true⟩,
 ⟨fun a σ=>fun1 Tryz.prog (Op.unary .not) (a.get 6) σ,some 7,fun _=>some true⟩]
def Ahz:List COp:=R9 ()
def AnV(_:Unit):List COp:=[⟨fun a σ=>ffield 0 (a.get 3) σ,some 8,fun _=>some true⟩,
 ⟨fun a σ=>fstore 1 (a.get 8) (.int .i64 1) σ,none,fun _=>some true⟩]
def Asr:List COp:=AnV ()
def R_(_:Unit):List COp:=[⟨fun a σ=>fload (some 2) (a.get 3) σ,some 9,fun _=>some true⟩,
 ⟨fun a σ=>fstore 2 (a.get 2) (a.get 9) σ,none,fun _=>some true⟩]
def AhA:List COp:=R_ ()
def ZJ(E:Env)(ro:Option Nat)(fn:FuncId):RunF:=(seqR (fops E ro Ahx) (seqR (fops E ro Ahy) (seqR (seqR (fops E ro Ahz) (condR (fun a=>(a.get 7)) (fops E ro Asr) skipR)) (seqR (fops E ro AhA) retR))))
theorem AcV:fops E ro Ahx a u σ=fops E ro (R7 ()) a u σ:=rfl
theorem AcW:fops E ro Ahy a u σ=fops E ro (R8 ()) a u σ:=rfl
theorem AcX:fops E ro Ahz a u σ=fops E ro (R9 ()) a u σ:=rfl
theorem AcY:fops E ro AhA a u σ=fops E ro (R_ ()) a u σ:=rfl
theorem AmG(E:Env)(ro:Option Nat)(fn:FuncId):code Tryz.prog nls (Tryz.f148.body.getD .skip) E ro fn=ZJ E ro fn:=by kernel_rfl
theorem AeP(E:Env)(args:List Value)(u:Option FrameMode)(σ:FState)(hn:args.length≤(4:Nat)):fcall Tryz.prog nls E 148 args u σ=leaveR Tryz.prog E [.cell 2 178] (ZJ E none 148 ⟨padTo undef 4 args,fun _=>undef,4,10,[]⟩ u σ):=by
 rw[Ao (body:=Tryz.f148.body.getD .skip) Tryz.func148 rfl E args u σ 4 10 (by kernel_rfl) rfl ⟨hn,by decide⟩,AmG]
 rfl
noncomputable def Arq:Code:=((rangesOf (Tryz.f92.body.getD .skip)).getD 0 (.skip,.skip)).1
noncomputable def Arr:Code:=((rangesOf (Tryz.f92.body.getD .skip)).getD 0 (.skip,.skip)).2
noncomputable def Aet:Code:=((rangesOf (Tryz.f92.body.getD .skip)).getD 1 (.skip,.skip)).1
noncomputable def Aeu:Code:=((rangesOf (Tryz.f92.body.getD .skip)).getD 1 (.skip,.skip)).2
def AoH(_:Unit):List COp:=[⟨fun a σ=>fload none (a.get 8) σ,some 37,fun _=>some true⟩,
 ⟨fun a σ=>fload none (a.get 5) σ,some 38,fun _=>some true⟩,
 ⟨fun a σ=>flenL (a.get 38) σ,some 39,fun _=>some true⟩,
 ⟨fun a σ=>i_eql Tryz.prog 3 (.tmp 37) (.tmp 39) (a.get 37) (a.get 39) σ,some 40,fun _=>some true⟩]
def AsN:List COp:=AoH ()
def AoI(_:Unit):List COp:=[⟨fun a σ=>.enter 136 [(.int .i64 10)] σ,some 41,fun _=>some true⟩]
def AsO:List COp:=AoI ()
def AoJ(_:Unit):List COp:=[⟨fun a σ=>fload none (a.get 9) σ,some 42,fun _=>some true⟩,
 ⟨fun a σ=>.val (a.get 42) σ,some 4,fun _=>some true⟩]
def AsP:List COp:=AoJ ()
noncomputable def x92_0:Code:=(scopesOf (Tryz.f92.body.getD .skip)).getD 0 .skip
def find92_0(E:Env)(ro:Option Nat)(fn:FuncId):Nat→Option (Bx RunF):=fun l=>match findLabel x92_0 l with|some rest=>some ⟨(ccode Tryz.prog nls 998 rest).un E ro fn⟩|none=>none
end Go.Proofs.YtokieofohmgjdaaGreatDoor
namespace Go.Proofs.YtokieofohmgjdaaGreatDoor
open Go Go.Eng
mutual
theorem AdS:∀(a b:D),D.same a b=D.same b a
 | .mk k n t ds,.mk k' n' t' ds'=>by
  rw[show D.same (.mk k n t ds) (.mk k' n' t' ds')=(decide (k=k')&&decide (n=n')&&(t.toList==t'.toList)&&D.sames ds ds') from rfl,show D.same (.mk k' n' t' ds') (.mk k n t ds)=(decide (k'=k)&&decide (n'=n)&&(t'.toList==t.toList)&&D.sames ds' ds) from rfl,Og ds ds']
  rw[show decide (k=k')=decide (k'=k) by simp[eq_comm],show decide (n=n')=decide (n'=n) by simp[eq_comm],show (t.toList==t'.toList)=(t'.toList==t.toList) from BEq.comm]
theorem Og:∀(a b:List D),D.sames a b=D.sames b a
 | [],[]=>rfl
 | [],_::_=>rfl
 | _::_,[]=>rfl
 | a::l,b::r=>by
  rw[show D.sames (a::l) (b::r)=(D.same a b&&D.sames l r) from rfl,show D.sames (b::r) (a::l)=(D.same b a&&D.sames r l) from rfl,AdS a b,Og l r]
end
mutual
theorem Kw:∀(d:D) (p:List Nat) (y:List Nat×D),y∈d.pieces p→∃r,y.1=p++r∧atP r d=some y.2
 | .mk k z t ds,p,y,h=>by
  rw[D.pieces] at h
  rcases List.mem_cons.1 h with rfl|h
  ·exact⟨[],by simp,rfl⟩
  ·obtain⟨j,r,d',h1,h2,h3⟩:=GS ds p 0 y h
   refine⟨(0+j)::r,h1,?_⟩
   rw[atP]
   simp only[D.parts]
   rw[Nat.zero_add,h2]
   exact h3
theorem GS:∀(ds:List D) (p:List Nat) (i:Nat) (y:List Nat×D),y∈D.piecesL p i ds→∃j r d',y.1=p++(i+j)::r∧ds[j]? = some d'∧atP r d'=some y.2
 | [],p,i,y,h=>by simp[D.piecesL] at h
 | d::ds,p,i,y,h=>by
  rw[D.piecesL,List.mem_append] at h
  rcases h with h|h
  ·obtain⟨r,h1,h2⟩:=Kw d _ y h
   exact⟨0,r,d,by rw[h1];simp,rfl,h2⟩
  ·obtain⟨j,r,d',h1,h2,h3⟩:=GS ds p (i+1) y h
   exact⟨j+1,r,d',by rw[h1,show i+1+j=i+(j+1) by omega],by simpa using h2,h3⟩
end
theorem MQ(x:D)(a b:List (List Nat×D)):foundIn x (a++b)=foundIn x a++foundIn x b:=by
 unfold foundIn
 rw[List.filter_append,List.map_append]
theorem MR(x:D)(l:List (List Nat×D)):(foundIn x l).length≤l.length:=by
 unfold foundIn
 rw[List.length_map]
 exact List.length_filter_le _ _
theorem Ox{T:TypeId}{Q:Nat→Prop}{σ:FState}{s:Value}{vs:List Value}(h:Vecs T Q σ s vs):∃a c,s=.slice a vs.length c∧(vs≠[]→∃b,a=some ⟨b,0,none⟩∧σ.cells b=some vs):=by
 rcases h with⟨rfl,rfl⟩|⟨b,h,_⟩
 ·exact⟨none,0,rfl,fun h=>absurd rfl h⟩
 ·obtain⟨h1,h2⟩:=h.cells
  exact⟨_,_,h1,fun _=>⟨b,rfl,h2⟩⟩
end Go.Proofs.YtokieofohmgjdaaGreatDoor
namespace Go.Proofs.YtokieofohmgjdaaGreatDoor
open Go Go.Eng
theorem toList_inj{a b:ByteArray}(h:a.toList=b.toList):a=b:=by
 rw[ByteArray.toList_eq,ByteArray.toList_eq] at h
 obtain⟨⟨x⟩⟩:=a
 obtain⟨⟨y⟩⟩:=b
 simp at h
 rw[h]
mutual
theorem ID:∀(a b:D),D.same a b=true→a=b
 | .mk k n t ds,.mk k' n' t' ds',h=>by
  rw[show D.same (.mk k n t ds) (.mk k' n' t' ds')=(decide (k=k')&&decide (n=n')&&(t.toList==t'.toList)&&D.sames ds ds') from rfl] at h
  simp only[Bool.and_eq_true,decide_eq_true_eq] at h
  obtain⟨⟨⟨rfl,rfl⟩,h3⟩,h4⟩:=h
  rw[toList_inj (eq_of_beq h3),WJ ds ds' h4]
theorem WJ:∀(a b:List D),D.sames a b=true→a=b
 | [],[],_=>rfl
 | [],_::_,h=>by cases h
 | _::_,[],h=>by cases h
 | a::l,b::r,h=>by
  rw[show D.sames (a::l) (b::r)=(D.same a b&&D.sames l r) from rfl,Bool.and_eq_true] at h
  rw[ID a b h.1,WJ l r h.2]
end
mutual
theorem GD:∀(a:D),D.same a a=true
 | .mk k n t ds=>by
  rw[show D.same (.mk k n t ds) (.mk k n t ds)=(decide (k=k)&&decide (n=n)&&(t.toList==t.toList)&&D.sames ds ds) from rfl,Oh ds]
  simp
theorem Oh:∀(l:List D),D.sames l l=true
 | []=>rfl
 | a::l=>by
  rw[show D.sames (a::l) (a::l)=(D.same a a&&D.sames l l) from rfl,GD a,Oh l]
  rfl
end
theorem AlQ(a b:D):D.same a b=true↔a=b:=⟨ID a b,fun h=>h ▸ GD a⟩
mutual
def repl(x y:D):D→D
 | .mk k z t ds=>if D.same (.mk k z t ds) x=true then y else .mk k z t (repls x y ds)
def repls(x y:D):List D→List D
 | []=>[]
 | d::ds=>repl x y d::repls x y ds
end
theorem IC(x y:D):∀ds:List D,repls x y ds=ds.map (repl x y)
 | []=>rfl
 | d::ds=>by rw[repls,IC x y ds];rfl
theorem TW(x y:D)(ds:List D):(repls x y ds).length=ds.length:=by rw[IC,List.length_map]
mutual
theorem AdN(x:D):∀d,repl x x d=d
 | .mk k z t ds=>by
  rw[repl]
  split
  ·rename_i h;exact(ID _ _ h).symm
  ·rw[Oa x ds]
theorem Oa(x:D):∀ds,repls x x ds=ds
 | []=>rfl
 | d::ds=>by rw[repls,AdN x d,Oa x ds]
end
def occ(x d:D):Nat:=((d.pieces []).filter fun y=>D.same y.2 x).length
mutual
def occN(x:D):D→Nat
 | .mk k z t ds=>(if D.same (.mk k z t ds) x=true then 1 else 0)+occsN x ds
def occsN(x:D):List D→Nat
 | []=>0
 | d::ds=>occN x d+occsN x ds
end
mutual
theorem Gi(x:D):∀(d:D) (p:List Nat),(foundIn x (d.pieces p)).length=occN x d
 | .mk k z t ds,p=>by
  rw[D.pieces,occN]
  have:=MS x ds p 0
  unfold foundIn at this ⊢
  rw[List.filter_cons]
  split
  ·rw[List.map_cons,List.length_cons,this];omega
  ·rw[this];omega
theorem MS(x:D):∀(ds:List D) (p:List Nat) (i:Nat),(foundIn x (D.piecesL p i ds)).length=occsN x ds
 | [],p,i=>rfl
 | d::ds,p,i=>by rw[D.piecesL,MQ,List.length_append,Gi x d _,MS x ds p (i+1),occsN]
end
mutual
theorem Ab1(x:D):∀d:D,d.count<x.count→occN x d=0
 | .mk k z t ds,h=>by
  rw[occN,if_neg (fun e=>by rw[ID _ _ e] at h;omega)]
  rw[D.count] at h
  rw[Jb x ds (by omega)]
theorem Jb(x:D):∀ds:List D,D.counts ds<x.count→occsN x ds=0
 | [],_=>rfl
 | d::ds,h=>by
  rw[D.counts] at h
  rw[occsN,Ab1 x d (by omega),Jb x ds (by omega)]
end
mutual
theorem N8(x y:D):∀d:D,(repl x y d).count+occN x d*x.count=d.count+occN x d*y.count
 | .mk k z t ds=>by
  rw[repl,occN]
  split
  ·rename_i h
   have hx:=ID _ _ h
   have hc:D.counts ds<x.count:=by rw[←hx,D.count];omega
   rw[Jb x ds hc,←hx]
   omega
  ·rw[D.count,D.count,Nat.zero_add]
   have:=Li x y ds
   omega
theorem Li(x y:D):∀ds:List D,D.counts (repls x y ds)+occsN x ds*x.count=D.counts ds+occsN x ds*y.count
 | []=>by simp[repls,D.counts,occsN]
 | d::ds=>by
  rw[repls,D.counts,D.counts,occsN,Nat.add_mul,Nat.add_mul]
  have:=N8 x y d
  have:=Li x y ds
  omega
end
mutual
theorem AdM(x y:D):∀d:D,repl x y d=d∨0<occN y (repl x y d)
 | .mk k z t ds=>by
  rw[repl]
  split
  ·right
   cases y with
   | mk k' z' t' ds'=>rw[occN,if_pos (GD _)];omega
  ·rcases Jj x y ds with h|h
   ·left;rw[h]
   ·right;rw[occN];omega
theorem Jj(x y:D):∀ds:List D,repls x y ds=ds∨0<occsN y (repls x y ds)
 | []=>.inl rfl
 | d::ds=>by
  rw[repls,occsN]
  rcases AdM x y d with h|h
  ·rcases Jj x y ds with h'|h'
   ·left;rw[h,h']
   ·right;omega
  ·right;omega
end
mutual
theorem AdL(x y:D)(h1:occN x y=0)(h2:occN y x=0):∀d:D,occN x (repl x y d)=0
 | .mk k z t ds=>by
  rw[repl]
  split
  ·exact h1
  ·rename_i hne
   rw[occN,N_ x y h1 h2 ds,Nat.add_zero]
   split
   ·rename_i h
    have hx:=ID _ _ h
    rcases Jj x y ds with h'|h'
    ·rw[h'] at hx
     exact absurd ((AlQ _ _).2 hx) hne
    ·rw[←hx,occN] at h2
     omega
   ·rfl
theorem N_(x y:D)(h1:occN x y=0)(h2:occN y x=0):∀ds:List D,occsN x (repls x y ds)=0
 | []=>rfl
 | d::ds=>by rw[repls,occsN,AdL x y h1 h2 d,N_ x y h1 h2 ds]
end
end Go.Proofs.YtokieofohmgjdaaGreatDoor
namespace Go.Proofs.YtokieofohmgjdaaGreatDoor
open Go Go.Eng
variable (E:Env) (ro:Option Nat) (last:List Nat→RunF) (cl:List Nat) (a:FAct) (u:Option FrameMode) (σ:FState)
end Go.Proofs.YtokieofohmgjdaaGreatDoor
namespace Go.Proofs.YtokieofohmgjdaaGreatDoor
open Go Go.Eng
attribute [local congr] Ab Ah Af Ad Ae
attribute [-go_sem] List.range_succ
end Go.Proofs.YtokieofohmgjdaaGreatDoor
namespace Go.Proofs.YtokieofohmgjdaaGreatDoor
open Go Go.Eng
attribute [local congr] Ab Ah Af Ad Ae
attribute [-go_sem] List.range_succ
def GatherI(l r cm:Nat)(R:Nat→Prop)(f g:Nat→Value)(done:List (List Nat×D))(B:Nat→Prop)(σ:FState):Prop:=
 (∀b,b=l∨b=r∨b=cm→B b)∧(∀b,B b→b<σ.next∧(b=l∨b=r∨b=cm∨l<b))∧LoopAt 92 [14,15] Arq Arr 12 43 f g l r .ready σ∧(∃ver,σ.heap.get r=some ⟨.defd true,false,none,ver⟩)∧
  ∃s ver,σ.heap.get cm=some ⟨.cells [s] TL,false,none,ver⟩∧VecG (fun b=>B b∧l<b) R σ s (done.map (·.2))
end Go.Proofs.YtokieofohmgjdaaGreatDoor
namespace Go.Proofs.YtokieofohmgjdaaGreatDoor
open Go Go.Eng
attribute [local congr] Ab Ah Af Ad Ae
attribute [-go_sem] List.range_succ
section
variable {kk n l bw bo bp base:Nat} {R:Nat→Prop} {g:Value} {I:List (List Nat×D)→(Nat→Prop)→FState→Prop} {all done:List (List Nat×D)} {B:Nat→Prop} {u:Value} {us:List Value} {ds:List D} {i:Nat} {d:D} {r:List (List D×Nat)} {f:Nat→Value} {σ:FState}
def StopAt(E:Env)(l:Nat)(R:Nat→Prop)(I:List (List Nat×D)→(Nat→Prop)→FState→Prop)(J:(Nat→Prop)→FState→Prop)(pre:List (List Nat×D))(path:List Nat)(d:D):Prop:=
 ∀B σ pv v,Wf σ→I pre B σ→PathAt σ pv path→LaidR R σ v d→∃B' σ',E.round l [pv,v] σ=.ret (.bool false) none σ'∧Wf σ'∧Chg B σ σ'∧(∀b,B' b→B b∨σ.next≤b)∧J B' σ'
end
end Go.Proofs.YtokieofohmgjdaaGreatDoor
namespace Go.Proofs.YtokieofohmgjdaaGreatDoor
open Go Go.Eng
attribute [local congr] Ab Ah Af Ad Ae
attribute [-go_sem] List.range_succ
section
variable (fn:FuncId) (params:List Tmp) (assign body:Code) (nl nt:Nat) (f g:Nat→Value) (σ:FState)
def LoopDone(l r id:Nat)(σ:FState):Prop:=∃ver,σ.heap.get l=some ⟨.loop .done (some (.exit id)) fn ((List.range nl).map f) g nl nt params assign body r,false,none,ver⟩
theorem LoopDone.put(l r id:Nat):LoopDone fn params assign body nl nt f g l r id (σ.put l (.loop .done (some (.exit id)) fn ((List.range nl).map f) g nl nt params assign body r) none):=⟨_,by rw[Am,if_pos rfl]⟩
end
end Go.Proofs.YtokieofohmgjdaaGreatDoor
namespace Go.Proofs.YtokieofohmgjdaaGreatDoor
open Go Go.Eng
attribute [local congr] Ab Ah Af Ad Ae
attribute [-go_sem] List.range_succ
def likeD:D→D→Bool
 | .mk k z t ps,.mk k' z' t' ps'=>(k==k')&&(z==z')&&(t.toList==t'.toList)&&(Int.ofNat ps.length==Int.ofNat ps'.length)
def CmpB(l r mb fb cm bv:Nat)(R:Nat→Prop)(es:List D)(n:Nat)(fv:Value→FState→Prop)(B:Nat→Prop)(σ:FState):Prop:=
 (∀b,b=l∨b=r∨b=mb∨b=fb∨b=cm∨b=bv→B b)∧(∀b,B b→b<σ.next∧(b=l∨b=r∨b=mb∨b=fb∨b=cm∨b=bv∨l<b))∧(∃ver,σ.heap.get r=some ⟨.defd true,false,none,ver⟩)∧
  (∃ver,σ.heap.get mb=some ⟨.cells [.int .i64 (.ofNat n)] TI,false,none,ver⟩)∧(∃w ver,σ.heap.get fb=some ⟨.cells [w] 25,false,none,ver⟩∧fv w σ)∧∃s,σ.cells cm=some [s]∧VecG (· = bv) R σ s es
def CmpI(l r mb fb cm bv:Nat)(R:Nat→Prop)(es:List D)(f g:Nat→Value)(done:List (List Nat×D))(B:Nat→Prop)(σ:FState):Prop:=
 LoopAt 92 [24,25] Aet Aeu 12 43 f g l r .ready σ∧CmpB l r mb fb cm bv R es done.length (fun w _=>w=.slice none 0 0) B σ
theorem CmpB.keep{l r mb fb cm bv n:Nat}{R:Nat→Prop}{es:List D}{fv:Value→FState→Prop}{B:Nat→Prop}{σ σ':FState}(h:CmpB l r mb fb cm bv R es n fv B σ)(hw:Wf σ)(hn:σ.next≤σ'.next)(hk:∀b,B b→b≠l→σ'.heap.get b=σ.heap.get b)(hne:l≠r∧l≠mb∧l≠fb∧l≠cm∧l≠bv)(hR:∀b c,R b→σ.cells b=some c→σ'.cells b=some c)(hf:∀w,fv w σ→fv w σ'):CmpB l r mb fb cm bv R es n fv B σ':=by
 obtain⟨h1,h2,⟨v3,h3⟩,⟨v4,h4⟩,⟨w,v5,h5,h6⟩,s,h7,h8⟩:=h
 refine⟨h1,fun b hb=>⟨Nat.lt_of_lt_of_le (h2 b hb).1 hn,(h2 b hb).2⟩,⟨v3,(hk r (h1 r (by simp)) (Ne.symm hne.1)).trans h3⟩,⟨v4,(hk mb (h1 mb (by simp)) (Ne.symm hne.2.1)).trans h4⟩,⟨w,v5,(hk fb (h1 fb (by simp)) (Ne.symm hne.2.2.1)).trans h5,hf w h6⟩,s,?_,h8.keep (fun b e hb he=>⟨?_,hb⟩) fun b c hb hc=>⟨hR b c hb hc,hb⟩⟩
 ·rw[AG,hk cm (h1 cm (by simp)) (Ne.symm hne.2.2.2.1),←AG];exact h7
 ·rw[hb] at he ⊢
  exact(hk bv (h1 bv (by simp)) (Ne.symm hne.2.2.2.2)).trans he
def CmpJ(l r mb fb cm bv:Nat)(R:Nat→Prop)(es:List D)(f g:Nat→Value)(n:Nat)(path:List Nat)(base:Nat)(B:Nat→Prop)(σ:FState):Prop:=
 LoopDone 92 [24,25] Aet Aeu 12 43 f g l r 2 σ∧CmpB l r mb fb cm bv R es n (fun w σ=>PathV (fun b=>base≤b) σ w path) B σ
end Go.Proofs.YtokieofohmgjdaaGreatDoor
namespace Go.Proofs.YtokieofohmgjdaaGreatDoor
open Go Go.Eng
variable (E:Env) (ro:Option Nat) (last:List Nat→RunF) (cl:List Nat) (a:FAct) (u:Option FrameMode) (σ:FState)
noncomputable def x140_0:Code:=(scopesOf (Tryz.f140.body.getD .skip)).getD 0 .skip
def find140_0(E:Env)(ro:Option Nat)(fn:FuncId):Nat→Option (Bx RunF):=fun l=>match findLabel x140_0 l with|some rest=>some ⟨(ccode Tryz.prog nls 998 rest).un E ro fn⟩|none=>none
noncomputable def Amg:Code:=((rangesOf (Tryz.f102.body.getD .skip)).getD 0 (.skip,.skip)).1
noncomputable def Amh:Code:=((rangesOf (Tryz.f102.body.getD .skip)).getD 0 (.skip,.skip)).2
def XZ(_:Unit):List COp:=[⟨fun a σ=>fbox 24 (a.get 0) σ,some 1,fun _=>some true⟩,
 ⟨fun a σ=>newCells [(.int .i64 0),(.int .i64 0),(.string ⟨#[]⟩),(.slice none 0 0)] 24 none σ,some 2,fun _=>some true⟩]
def Ao5:List COp:=XZ ()
def X0(_:Unit):List COp:=[⟨fun a σ=>ffield 0 (a.get 1) σ,some 5,fun _=>some true⟩,
 ⟨fun a σ=>fload none (a.get 5) σ,some 6,fun _=>some true⟩,
 ⟨fun a σ=>ffield 1 (a.get 1) σ,some 7,fun _=>some true⟩,
 ⟨fun a σ=>fload none (a.get 7) σ,some 8,fun _=>some true⟩,
 ⟨fun a σ=>ffield 2 (a.get 1) σ,some 9,fun _=>some true⟩,
 ⟨fun a σ=>fload none (a.get 9) σ,some 10,fun _=>some true⟩,
 ⟨fun a σ=>fbuild (fun i=>nth [(0,1),(1,1),(2,1),(3,1)] i) [(.int .i64 0),(.int .i64 0),(.string ⟨#[]⟩),(.slice none 0 0)] [(0,(a.get 6)),(1,(a.get 8)),(2,(a.get 10))] σ,some 11,fun _=>some true⟩,
 ⟨fun a σ=>newCells [(.int .i64 0),(.int .i64 0),(.string ⟨#[]⟩),(.slice none 0 0)] 24 none σ,some 3,fun _=>some true⟩,
 ⟨fun a σ=>fstore 4 (a.get 3) (a.get 11) σ,none,fun _=>some true⟩]
def Ao6:List COp:=X0 ()
def X9(_:Unit):List COp:=[⟨fun a σ=>.val (.int .i64 0) σ,some 4,fun _=>some true⟩]
def Ao7:List COp:=X9 ()
def R1(_:Unit):List COp:=[⟨fun a σ=>.val (a.get 4) σ,some 12,fun _=>some true⟩,
 ⟨fun a σ=>ffield 3 (a.get 1) σ,some 13,fun _=>some true⟩,
 ⟨fun a σ=>fload none (a.get 13) σ,some 14,fun _=>some true⟩,
 ⟨fun a σ=>flenL (a.get 14) σ,some 15,fun _=>some true⟩,
 ⟨fun a σ=>i_lss Tryz.prog 3 (.tmp 12) (.tmp 15) (a.get 12) (a.get 15) σ,some 16,fun _=>some true⟩]
def Ao8:List COp:=R1 ()
def Ya(_:Unit):List DOp:=[⟨fun a σ=>ffield 3 (a.get 1) σ,some 21,fun _=>some true,some 0,false⟩,
 ⟨fun a σ=>fload none (a.get 21) σ,some 22,fun _=>some true,some 0,false⟩,
 ⟨fun a σ=>.val (a.get 4) σ,some 23,fun _=>some true,some 0,false⟩,
 ⟨fun a σ=>findex (none,4) (a.get 22) (a.get 23) σ,some 24,fun _=>some true,some 0,false⟩,
 ⟨fun a σ=>fload (some 4) (a.get 24) σ,some 25,fun _=>some true,some 0,false⟩,
 ⟨fun a σ=>.enter 13 [(a.get 25)] σ,some 26,fun _=>some true,none,false⟩,
 ⟨fun a σ=>ffield 3 (a.get 3) σ,some 19,fun _=>some true,some 0,false⟩,
 ⟨fun a σ=>fload none (a.get 19) σ,some 20,fun _=>some true,some 0,false⟩,
 ⟨fun a σ=>fbuildSlice 24 1 4 [(.int .i64 0),(.int .i64 0),(.string ⟨#[]⟩),(.slice none 0 0)] [(0,(a.get 26))] σ,some 27,fun _=>some true,some 1,false⟩,
 ⟨fun a σ=>fappend 24 4 56 (a.get 20) (a.get 27) σ,some 28,fun _=>some true,none,true⟩,
 ⟨fun a σ=>ffield 3 (a.get 3) σ,some 29,fun _=>some true,some 2,false⟩,
 ⟨fun a σ=>fstore 1 (a.get 29) (a.get 28) σ,none,fun _=>some true,none,true⟩]
def Apa:List DOp:=Ya ()
def X_(_:Unit):List COp:=[⟨fun a σ=>.val (a.get 4) σ,some 17,fun _=>some true⟩,
 ⟨fun a σ=>i_add Tryz.prog 3 (.tmp 17) (.const (.int .i64 1)) (a.get 17) (.int .i64 1) σ,some 18,fun _=>some true⟩,
 ⟨fun a σ=>.val (a.get 18) σ,some 4,fun _=>some true⟩]
def Ao9:List COp:=X_ ()
def Aan(E:Env)(ro:Option Nat)(fn:FuncId):RunF:=(seqR (seqR (fops E ro Ao8) (condR (fun a=>(a.get 16)) skipR (exitR 0))) (seqR (blockR 1 (drawR E ro Apa)) (fops E ro Ao9)))
def Yb(_:Unit):List COp:=[⟨fun a σ=>fload (some 4) (a.get 3) σ,some 30,fun _=>some true⟩,
 ⟨fun a σ=>fstore 4 (a.get 2) (a.get 30) σ,none,fun _=>some true⟩]
def Apb:List COp:=Yb ()
def Alr(E:Env)(ro:Option Nat)(fn:FuncId):RunF:=(seqR (fops E ro Ao5) (seqR (fops E ro Ao6) (seqR (seqR (fops E ro Ao7) (blockR 0 (loopR (keepOf nls fn) (Aan E ro fn)))) (seqR (fops E ro Apb) retR))))
theorem Ahi:fops E ro Ao5 a u σ=fops E ro (XZ ()) a u σ:=rfl
theorem Ahj:fops E ro Ao6 a u σ=fops E ro (X0 ()) a u σ:=rfl
theorem Ahk:fops E ro Ao7 a u σ=fops E ro (X9 ()) a u σ:=rfl
theorem VL:fops E ro Ao8 a u σ=fops E ro (R1 ()) a u σ:=rfl
theorem Ahm:fdraw E ro last Apa cl a u σ=fdraw E ro last (Ya ()) cl a u σ:=rfl
theorem Ahl:fops E ro Ao9 a u σ=fops E ro (X_ ()) a u σ:=rfl
theorem Ahn:fops E ro Apb a u σ=fops E ro (Yb ()) a u σ:=rfl
theorem Arv(E:Env)(ro:Option Nat)(fn:FuncId):code Tryz.prog nls (Tryz.f13.body.getD .skip) E ro fn=Alr E ro fn:=by kernel_rfl
theorem Am8(E:Env)(args:List Value)(u:Option FrameMode)(σ:FState)(hn:args.length≤(5:Nat)):fcall Tryz.prog nls E 13 args u σ=leaveR Tryz.prog E [.cell 2 24] (Alr E none 13 ⟨padTo undef 5 args,fun _=>undef,5,31,[]⟩ u σ):=by
 rw[Ao (body:=Tryz.f13.body.getD .skip) Tryz.func13 rfl E args u σ 5 31 (by kernel_rfl) rfl ⟨hn,by decide⟩,Arv]
 rfl
end Go.Proofs.YtokieofohmgjdaaGreatDoor
namespace Go.Proofs.YtokieofohmgjdaaGreatDoor
open Go Go.Eng
attribute [local congr] Ab Ah Af Ad Ae
attribute [-go_sem] List.range_succ
def scopeK(find:Nat→Option (Bx RunF))(again:RunF→RunF)(r:KRes):KRes:=match r with
 | .done (.goto l) a u σ=>(match find l with|some rest=>again rest.un a u σ|none=>.done (.goto l) a u σ)
 | r=>r
theorem K8(find:Nat→Option (Bx RunF))(n:Nat)(run:RunF)(a:FAct)(u:Option FrameMode)(σ:FState):fscope find (n+1) run a u σ=scopeK find (fscope find n) (run a u σ):=by
 show (match run a u σ with|.done (.goto l) a u σ=>(match find l with|some rest=>fscope find n rest.un a u σ|none=>.done (.goto l) a u σ)|r=>r)=_
 unfold scopeK
 rfl
theorem ZX(find:Nat→Option (Bx RunF))(again:RunF→RunF)(a:FAct)(u:Option FrameMode)(σ:FState):scopeK find again (.done .ret a u σ)=.done .ret a u σ:=rfl
structure HeadEl (R:Nat→Prop) (σ0:FState) (bd bt:Nat) (rest:D) (done:List D) (f:Nat→Value) (σ:FState):Prop where
 f1:f 1=.pointer (some ⟨bd,0,none⟩)
 f3:f 3=.pointer (some ⟨bt,0,none⟩)
 vec:VecG (fun b=>σ0.next≤b∧b≠bd∧b≠bt) R σ (f 2) done
 hd:∃ver lv,σ.heap.get bd=some ⟨.cells lv TD,false,none,ver⟩∧lv.length=4∧LaidR R σ (.agg lv.toArray) rest
 ht:∃ver,σ.heap.get bt=some ⟨.cells [.int .i64 0,.int .i64 0,.string ⟨#[]⟩,.slice none 0 0] TD,false,none,ver⟩
 ne:bd≠bt
 lo:σ0.next≤bd∧σ0.next≤bt
 wf:Wf σ
 ext:Ext σ0 σ
end Go.Proofs.YtokieofohmgjdaaGreatDoor
namespace Go.Proofs.YtokieofohmgjdaaGreatDoor
open Go Go.Eng
attribute [local congr] Ab Ah Af Ad Ae
attribute [-go_sem] List.range_succ
def Atd(E:Env):RunF:=seqR (seqR (fops E none AsN) (condR (fun a=>a.get 40) (fops E none AsO) skipR)) (seqR (fops E none AsP) retR)
end Go.Proofs.YtokieofohmgjdaaGreatDoor
namespace Go.Eng
open Go
section
variable (P:Program) (E:Env) (ro:Option Nat) (rs:List ResultVar) (dst:Option Tmp) (k:RunF) (a:FAct) (u:Option FrameMode) (σ s:FState) (ch:List PanicEntry)
theorem QS(t:TypeId)(v:Value):fpanic (.iface t v) σ=.panic (.iface t v) σ:=rfl
theorem Uo(v:Value):afterOp E ro dst a u k (.panic v s)=.done (.panic [{ v,recovered:=false }]) a u s:=rfl
theorem Bi(u':Option FrameMode):afterCall a dst u k (.pan ch u' s)=.done (.panic ch) a u s:=rfl
theorem AH:leaveR P E rs (.done (.panic ch) a u σ)=fleave P E rs a u a.defers (.panicking ch) σ:=rfl
theorem Xi(f:FuncId)(cap args:Array Value)(ds:List Deferred):fleave P E rs a u ({ target:=.fn (.func f) cap,args:=args }::ds) (.panicking ch) σ=
  (match E.call f (args.toList++cap.toList) (some (.panicking ch)) σ with
   | .ret _ (some md') σ=>fleave P E rs a u ds (unrecovered md') σ
   | .pan ch (some md') σ=>fleave P E rs a u ds (raised md' ch) σ
   | _=>.no):=rfl
theorem Ms(v:Value):afterOp E none dst a (some (.panicking [{ v,recovered:=false }])) k (.recover σ)=k (a.put dst v) (some (.panicking [{ v,recovered:=true }])) σ:=rfl
theorem KX(v:Value):unrecovered (.panicking [{ v,recovered:=true }])=.returning:=rfl
end
end Go.Eng
namespace Go.Proofs.YtokieofohmgjdaaGreatDoor
open Go Go.Eng
attribute [local congr] Ab Ah Af Ad Ae
attribute [-go_sem] List.range_succ
abbrev failing(c z:Int):PanicEntry:={ v:=.iface 178 (.agg #[.int .i64 c,.int .i64 z]),recovered:=false }
abbrev failed(c z:Int):PanicEntry:={ v:=.iface 178 (.agg #[.int .i64 c,.int .i64 z]),recovered:=true }
theorem Ar0(n:Nat)(c z:Int)(σ:FState):(env (n+1)).call 162 [.int .i64 c,.int .i64 z] none σ=.pan [failing c z] none σ:=by
 rw[Ak _ 162 _ _ rfl,AeU _ _ _ _ (by simp),Aj]
 unfold ZO
 simp -implicitDefEqProofs only[go_sem,Ac9,Sk,QS,Uo,AH,Bc]
theorem Hi(n:Nat)(c:Int)(σ:FState):(env (n+2)).call 136 [.int .i64 c] none σ=.pan [failing c 0] none σ:=by
 rw[Ak _ 136 _ _ rfl,AeL _ _ _ _ (by simp),Aj]
 unfold ZF
 simp -implicitDefEqProofs only[go_sem,AcP,R0,Ar0,Bi,AH,Bc]
end Go.Proofs.YtokieofohmgjdaaGreatDoor
namespace Go.Proofs.YtokieofohmgjdaaGreatDoor
open Go Go.Eng
attribute [local congr] Ab Ah Af Ad Ae
attribute [-go_sem] List.range_succ
theorem WU:aggSize Tryz.prog 178=some (some 2):=by kernel_rfl
theorem Jv(n:Nat)(c z:Int)(σ:FState)(hw:Wf σ):
  Gives ((env (n+2)).call 148 [.iface 178 (.agg #[.int .i64 c,.int .i64 z])] none σ) σ fun v _=>v=.agg #[.int .i64 c,.int .i64 z]:=by
 rw[Ak _ 148 _ _ rfl,AeP _ _ _ _ (by simp),Aj]
 unfold ZJ
 have hw1:=(hw.push (.cells [.int .i64 0,.int .i64 0] 178) none).push (.cells [.int .i64 0,.int .i64 0] 178) none
 have hX1:Ext σ ((σ.push (.cells [.int .i64 0,.int .i64 0] 178) none).push (.cells [.int .i64 0,.int .i64 0] 178) none):=((Ext.refl _).push _ _).push _ _
 have e1:=ArY n (.int .i64 c) (.int .i64 z) (.pointer (some ⟨σ.next+1,0,none⟩)) ((σ.push (.cells [.int .i64 0,.int .i64 0] 178) none).push (.cells [.int .i64 0,.int .i64 0] 178) none)
  (((σ.push (.cells [.int .i64 0,.int .i64 0] 178) none).push (.cells [.int .i64 0,.int .i64 0] 178) none).put (σ.next+1) (.cells [.int .i64 c,.int .i64 z] 178) none) (by
   simp -implicitDefEqProofs only[go_sem,Aw])
 simp -implicitDefEqProofs only[go_sem,Aw,AcV,R7,AcW,R8,AcX,R9,AcY,R_,e1,WU,Ag,Bj,AX,AP,A0]
 refine⟨_,_,rfl,(hX1.put _ _ _ (Nat.le_add_right _ _)).put _ _ _ (Nat.le_refl _),?_,rfl⟩
 exact(hw1.put _ _ _ (by simp only[Aa];omega)).put _ _ _ (by simp only[Ap,Aa];omega)
theorem ArZ(v:Value)(x:Nat)(σ:FState):i_eql Tryz.prog 20 (.tmp x) (.const .nilIface) (.iface 178 v) .nilIface σ=.val (.bool false) σ:=by kernel_rfl
theorem Abz(v:Value)(σ:FState):fassert Tryz.prog (.iface 178 v) 176 true σ=.val (.tuple #[.iface 178 v,.bool true]) σ:=by kernel_rfl
def Fails(r:CRes)(σ:FState)(c z:Int):Prop:=∃σ',r=.pan [failing c z] none σ'∧Ext σ σ'∧Wf σ'
end Go.Proofs.YtokieofohmgjdaaGreatDoor
namespace Go.Proofs.YtokieofohmgjdaaGreatDoor
open Go Go.Eng
attribute [local congr] Ab Ah Af Ad Ae
attribute [-go_sem] List.range_succ
theorem JA(P:Program)(E:Env)(rs:List ResultVar)(a:FAct)(u:Option FrameMode)(σ:FState)(ch:List PanicEntry)(r:Nat)(args:Array Value)(ds:List Deferred)(ver:Nat)(h:σ.heap.get r=some ⟨.defd true,false,none,ver⟩):
  fleave P E rs a u ({ target:=.collected r,args:=args }::ds) (.panicking ch) σ=fleave P E rs a u ds (.panicking ch) (σ.put r (.defd false) none):=by
 show (cond (isRun (.panicking ch)) CRes.no (match σ.heap.get r with|some e=>(match e.obj with|.defd true=>cond e.ro CRes.no (fleave P E rs a u ds (.panicking ch) (σ.put r (.defd false) none))|_=>.no)|none=>.no))=_
 rw[h]
 rfl
end Go.Proofs.YtokieofohmgjdaaGreatDoor
namespace Go.Proofs.YtokieofohmgjdaaGreatDoor
open Go Go.Eng
attribute [local congr] Ab Ah Af Ad Ae
attribute [-go_sem] List.range_succ
structure Apart (M:Nat) (d:D):Prop where
 sane:Sane M d
 count:d.count<900
 deep:d.deep<1000
theorem Apart.small{M:Nat}{d:D}(h:Apart M d):Small (d.pieces []):=h.sane.small h.deep
theorem Apart.few{M:Nat}{d:D}(h:Apart M d):(d.pieces []).length<900:=by rw[DV];exact h.count
end Go.Proofs.YtokieofohmgjdaaGreatDoor
namespace Go.Proofs.YtokieofohmgjdaaGreatDoor
open Go Go.Eng
variable (E:Env) (ro:Option Nat) (last:List Nat→RunF) (cl:List Nat) (a:FAct) (u:Option FrameMode) (σ:FState)
end Go.Proofs.YtokieofohmgjdaaGreatDoor
namespace Go.Eng
open Go
def ordZ(a b:Int):Int:=if a<b then -1 else if a>b then 1 else 0
theorem EH{a b:Int}:ordZ a b=0↔a=b:=by
 unfold ordZ
 split
 ·omega
 ·split<;>omega
theorem Gj{a b:Int}:ordZ a b<0↔a<b:=by
 unfold ordZ
 split
 ·omega
 ·split<;>omega
theorem Pt(a b:Int):ordZ b a = - ordZ a b:=by
 unfold ordZ
 split<;>split<;>(try split)<;>omega
theorem Nb(a b:Int) : -1≤ordZ a b∧ordZ a b≤1:=by
 unfold ordZ
 split
 ·omega
 ·split<;>omega
abbrev cmpT(a b:ByteArray):Int:=Extern.BytealgCompare.cmp a b
def LtT(a b:ByteArray):Prop:=∃i,(∀j,j<i→a[j]! = b[j]!)∧i≤a.size∧i<b.size∧(i=a.size∨a[i]! < b[i]!)
theorem ET(a b:ByteArray):(LtT a b∧cmpT a b = -1)∨(LtT b a∧cmpT a b=1)∨(a=b∧cmpT a b=0):=by
 unfold cmpT Extern.BytealgCompare.cmp
 cases h:(List.range (min a.size b.size)).find? fun i=>a[i]! != b[i]! with
 | some i=>
  rw[List.find?_range_eq_some] at h
  obtain⟨h1,h2,h3⟩:=h
  rw[List.mem_range] at h2
  have h3':∀j,j<i→a[j]! = b[j]!:=fun j hj=>by
   have:=h3 j hj
   simpa using this
  have h1':a[i]! ≠ b[i]!:=by simpa using h1
  simp only
  by_cases hl:a[i]! < b[i]!
  ·rw[if_pos hl]
   exact .inl ⟨⟨i,h3',by omega,by omega,.inr hl⟩,rfl⟩
  ·rw[if_neg hl]
   refine .inr (.inl ⟨⟨i,fun j hj=>(h3' j hj).symm,by omega,by omega,.inr ?_⟩,rfl⟩)
   rcases UInt8.lt_or_eq_of_le (UInt8.not_lt.1 hl) with h|h
   ·exact h
   ·exact absurd h.symm h1'
 | none=>
  rw[List.find?_eq_none] at h
  have h':∀j,j<min a.size b.size→a[j]! = b[j]!:=fun j hj=>by
   have:=h j (List.mem_range.2 hj)
   simpa using this
  simp only
  by_cases h1:a.size<b.size
  ·rw[if_pos h1]
   exact .inl ⟨⟨a.size,fun j hj=>h' j (by omega),Nat.le_refl _,h1,.inl rfl⟩,rfl⟩
  ·rw[if_neg h1]
   by_cases h2:a.size>b.size
   ·rw[if_pos h2]
    exact .inr (.inl ⟨⟨b.size,fun j hj=>(h' j (by omega)).symm,Nat.le_refl _,h2,.inl rfl⟩,rfl⟩)
   ·rw[if_neg h2]
    refine .inr (.inr ⟨?_,rfl⟩)
    apply ByteArray.ext
    apply Array.ext
    ·show a.size=b.size;omega
    ·intro i h3 h4
     have h5:i<a.size:=h3
     have h6:i<b.size:=h4
     have:=h' i (by omega)
     rw[getElem!_pos a i h5,getElem!_pos b i h6] at this
     exact this
theorem LtT.irrefl{a:ByteArray}(h:LtT a a):False:=by
 obtain⟨i,_,_,h2,h3⟩:=h
 rcases h3 with h3|h3
 ·omega
 ·exact UInt8.lt_irrefl _ h3
theorem LtT.trans{a b c:ByteArray}(h:LtT a b)(h':LtT b c):LtT a c:=by
 obtain⟨i,h1,h2,h3,h4⟩:=h
 obtain⟨k,k1,k2,k3,k4⟩:=h'
 by_cases hik:i<k
 ·refine⟨i,fun j hj=>(h1 j hj).trans (k1 j (by omega)),h2,by omega,?_⟩
  rw[←k1 i hik]
  exact h4
 ·by_cases hki:k<i
  ·refine⟨k,fun j hj=>(h1 j (by omega)).trans (k1 j hj),by omega,k3,?_⟩
   rcases k4 with k4|k4
   ·omega
   ·rw[h1 k hki]
    exact .inr k4
  ·obtain rfl:i=k:=by omega
   refine⟨i,fun j hj=>(h1 j hj).trans (k1 j hj),h2,k3,?_⟩
   rcases k4 with k4|k4
   ·omega
   ·rcases h4 with h4|h4
    ·exact .inl h4
    ·exact .inr (UInt8.lt_trans h4 k4)
theorem Aey{a b:ByteArray}:cmpT a b<0↔LtT a b:=by
 rcases ET a b with⟨h,e⟩|⟨h,e⟩|⟨h,e⟩
 ·exact⟨fun _=>h,fun _=>by omega⟩
 ·exact⟨fun h'=>by omega,fun h'=>(h.trans h').irrefl.elim⟩
 ·subst h
  exact⟨fun h'=>by omega,fun h'=>h'.irrefl.elim⟩
theorem HK{a b:ByteArray}:cmpT a b=0↔a=b:=by
 rcases ET a b with⟨h,e⟩|⟨h,e⟩|⟨h,e⟩
 ·exact⟨fun h'=>by omega,fun h'=>by subst h';exact h.irrefl.elim⟩
 ·exact⟨fun h'=>by omega,fun h'=>by subst h';exact h.irrefl.elim⟩
 ·exact⟨fun _=>h,fun _=>e⟩
theorem Abo(a b:ByteArray):cmpT b a = - cmpT a b:=by
 rcases ET a b with⟨h,e⟩|⟨h,e⟩|⟨h,e⟩
 ·rcases ET b a with⟨h',e'⟩|⟨h',e'⟩|⟨h',e'⟩
  ·exact(h.trans h').irrefl.elim
  ·omega
  ·subst h';exact h.irrefl.elim
 ·rcases ET b a with⟨h',e'⟩|⟨h',e'⟩|⟨h',e'⟩
  ·omega
  ·exact(h.trans h').irrefl.elim
  ·subst h';exact h.irrefl.elim
 ·subst h
  omega
theorem Xb(a b:ByteArray) : -1≤cmpT a b∧cmpT a b≤1:=by
 rcases ET a b with⟨_,e⟩|⟨_,e⟩|⟨_,e⟩<;>omega
def thenI(a b:Int):Int:=if a=0 then b else a
theorem Hc{a b:Int}:thenI a b=0↔a=0∧b=0:=by
 unfold thenI
 split<;>omega
theorem Hb(a b:Int):thenI (-a) (-b) = - thenI a b:=by
 unfold thenI
 split<;>split<;>omega
theorem Ga{a b:Int}(h : -1≤a∧a≤1)(h' : -1≤b∧b≤1) : -1≤thenI a b∧thenI a b≤1:=by
 unfold thenI
 split<;>omega
theorem AlZ{a b:Int}:thenI a b≤0↔a<0∨(a=0∧b≤0):=by
 unfold thenI
 split<;>omega
mutual
def ordU:D→D→Int
 | .mk k z t ds,.mk k' z' t' es=>thenI (ordZ k k') (thenI (ordZ z z') (thenI (cmpT t t') (ordUs ds es)))
def ordUs:List D→List D→Int
 | [],[]=>0
 | [],_::_ => -1
 | _::_,[]=>1
 | d::ds,e::es=>thenI (ordU d e) (ordUs ds es)
end
mutual
theorem Ps:∀d e:D,ordU d e=0↔d=e
 | .mk k z t ds,.mk k' z' t' es=>by
  rw[ordU,Hc,Hc,Hc,EH,EH,HK,Na ds es,D.mk.injEq]
theorem Na:∀ds es:List D,ordUs ds es=0↔ds=es
 | [],[]=>by simp[ordUs]
 | [],_::_=>by simp[ordUs]
 | _::_,[]=>by simp[ordUs]
 | d::ds,e::es=>by rw[ordUs,Hc,Ps d e,Na ds es,List.cons.injEq]
end
mutual
theorem Pr:∀d e:D,ordU e d = - ordU d e
 | .mk k z t ds,.mk k' z' t' es=>by
  rw[ordU,ordU,Pt k k',Pt z z',Abo t t',M_ ds es,Hb,Hb,Hb]
theorem M_:∀ds es:List D,ordUs es ds = - ordUs ds es
 | [],[]=>by simp[ordUs]
 | [],_::_=>by simp[ordUs]
 | _::_,[]=>by simp[ordUs]
 | d::ds,e::es=>by rw[ordUs,ordUs,Pr d e,M_ ds es,Hb]
end
mutual
theorem XF:∀d e:D,-1≤ordU d e∧ordU d e≤1
 | .mk k z t ds,.mk k' z' t' es=>by
  rw[ordU]
  exact Ga (Nb _ _) (Ga (Nb _ _) (Ga (Xb _ _) (Lc ds es)))
theorem Lc:∀ds es:List D,-1≤ordUs ds es∧ordUs ds es≤1
 | [],[]=>by simp[ordUs]
 | [],_::_=>by simp[ordUs]
 | _::_,[]=>by simp[ordUs]
 | d::ds,e::es=>by
  rw[ordUs]
  exact Ga (XF d e) (Lc ds es)
end
theorem Hd{A B C a b c:Int}(h1:A<0→B<0→C<0)(h2:A<0→B=0→C<0)(h3:A=0→B<0→C<0)(h4:A=0→B=0→C=0)(h5:a≤0→b≤0→c≤0)(ha:thenI A a≤0)(hb:thenI B b≤0):thenI C c≤0:=by
 rw[AlZ] at *
 rcases ha with ha|⟨ha,ha'⟩<;>rcases hb with hb|⟨hb,hb'⟩
 ·exact .inl (h1 ha hb)
 ·exact .inl (h2 ha hb)
 ·exact .inl (h3 ha hb)
 ·exact .inr ⟨h4 ha hb,h5 ha' hb'⟩
mutual
theorem XG:∀a b c:D,ordU a b≤0→ordU b c≤0→ordU a c≤0
 | .mk k1 z1 t1 d1,.mk k2 z2 t2 d2,.mk k3 z3 t3 d3=>by
  rw[ordU,ordU,ordU]
  refine Hd (fun h h'=>?_) (fun h h'=>?_) (fun h h'=>?_) (fun h h'=>?_) ?_
  ·rw[Gj] at *;omega
  ·rw[Gj] at *;rw[EH] at h';omega
  ·rw[Gj] at *;rw[EH] at h;omega
  ·rw[EH] at *;omega
  refine Hd (fun h h'=>?_) (fun h h'=>?_) (fun h h'=>?_) (fun h h'=>?_) ?_
  ·rw[Gj] at *;omega
  ·rw[Gj] at *;rw[EH] at h';omega
  ·rw[Gj] at *;rw[EH] at h;omega
  ·rw[EH] at *;omega
  refine Hd (fun h h'=>?_) (fun h h'=>?_) (fun h h'=>?_) (fun h h'=>?_) (Ld d1 d2 d3)
  ·rw[Aey] at *;exact h.trans h'
  ·rw[HK] at h';subst h';exact h
  ·rw[HK] at h;subst h;exact h'
  ·rw[HK] at *;exact h.trans h'
theorem Ld:∀a b c:List D,ordUs a b≤0→ordUs b c≤0→ordUs a c≤0
 | [],[],[]=>by simp[ordUs]
 | [],[],_::_=>by simp[ordUs]
 | [],_::_,[]=>by simp[ordUs]
 | [],_::_,_::_=>by simp[ordUs]
 | _::_,[],[]=>by simp[ordUs]
 | _::_,[],_::_=>by simp[ordUs]
 | _::_,_::_,[]=>by simp[ordUs]
 | a::ar,b::br,c::cr=>by
  rw[ordUs,ordUs,ordUs]
  have ht:=XG a b c
  have hz:=Ps
  refine Hd (fun h h'=>?_) (fun h h'=>?_) (fun h h'=>?_) (fun h h'=>?_) (Ld ar br cr)
  ·have h1:=ht (by omega) (by omega)
   by_cases h0:ordU a c=0
   ·have e:=(hz a c).1 h0
    subst e
    have:=Pr a b
    omega
   ·omega
  ·rw[hz] at h';subst h';exact h
  ·rw[hz] at h;subst h;exact h'
  ·rw[hz] at *;exact h.trans h'
end
end Go.Eng
namespace Go.Proofs.YtokieofohmgjdaaGreatDoor
open Go Go.Eng
attribute [local congr] Ab Ah Af Ad Ae
attribute [-go_sem] List.range_succ
def ordI(a b:Int):Int:=if a<b then -1 else if a>b then 1 else 0
end Go.Proofs.YtokieofohmgjdaaGreatDoor
namespace Go.Proofs.YtokieofohmgjdaaGreatDoor
open Go Go.Eng
attribute [local congr] Ab Ah Af Ad Ae
attribute [-go_sem] List.range_succ
def OrdR(d e:D)(r:Value):Prop:=r=.int .i64 (ordU d e)
end Go.Proofs.YtokieofohmgjdaaGreatDoor
namespace Go.Proofs.YtokieofohmgjdaaGreatDoor
open Go Go.Eng
attribute [local congr] Ab Ah Af Ad Ae
attribute [-go_sem] List.range_succ
section
variable (k z k' z':Int) (t t':ByteArray) (p p':Option Addr) (l l' c c':Nat) (σ:FState) (hw:Wf σ)
include hw
end
end Go.Proofs.YtokieofohmgjdaaGreatDoor
namespace Go.Proofs.YtokieofohmgjdaaGreatDoor
open Go Go.Eng
attribute [local congr] Ab Ah Af Ad Ae
attribute [-go_sem] List.range_succ
theorem JM(path:List Nat):∀(ds:List D) (j i:Nat) (d:D),ds[i]? = some d→∀x∈d.pieces (path++[j+i]),x∈D.piecesL path j ds
 | [],j,i,d,h=>by simp at h
 | d0::ds,j,0,d,h=>fun x hx=>by
  cases h
  rw[D.piecesL]
  exact List.mem_append_left _ hx
 | d0::ds,j,i+1,d,h=>fun x hx=>by
  rw[D.piecesL]
  exact List.mem_append_right _ (JM path ds (j+1) i d h x (by rw[show j+1+i=j+(i+1) by omega];exact hx))
end Go.Proofs.YtokieofohmgjdaaGreatDoor
namespace Go.Proofs.YtokieofohmgjdaaGreatDoor
open Go Go.Eng
attribute [local congr] Ab Ah Af Ad Ae
attribute [-go_sem] List.range_succ
theorem Apart.at{M:Nat}{d:D}(h:Apart M d):∀x∈d.pieces [],x.2.parts.length≤900∧GoodD M x.2:=h.sane []
end Go.Proofs.YtokieofohmgjdaaGreatDoor
namespace Go.Proofs.YtokieofohmgjdaaGreatDoor
open Go Go.Eng
def Agree(A B:List (List Nat×D)):Prop:=A.length=B.length∧∀(i:Nat) (a:List Nat×D),A[i]? = some a→∃b,B[i]? = some b∧a.1=b.1∧likeD a.2 b.2=true
theorem Agree.nil:Agree [] []:=⟨rfl,fun i a h=>by simp at h⟩
theorem Agree.cons{a b:List Nat×D}{A B:List (List Nat×D)}(h1:a.1=b.1)(h2:likeD a.2 b.2=true)(h:Agree A B):Agree (a::A) (b::B):=by
 refine⟨by simp[h.1],fun i x hx=>?_⟩
 cases i with
 | zero=>cases hx;exact⟨b,rfl,h1,h2⟩
 | succ i=>exact h.2 i x hx
theorem Agree.append{A B A' B':List (List Nat×D)}(h:Agree A B)(h':Agree A' B'):Agree (A++A') (B++B'):=by
 refine⟨by simp[h.1,h'.1],fun i x hx=>?_⟩
 by_cases hi:i<A.length
 ·rw[List.getElem?_append_left hi] at hx
  rw[List.getElem?_append_left (by rw[←h.1];exact hi)]
  exact h.2 i x hx
 ·rw[List.getElem?_append_right (by omega)] at hx
  rw[List.getElem?_append_right (by rw[←h.1];omega),←h.1]
  exact h'.2 _ x hx
theorem Xz(d:D):likeD d d=true:=by
 obtain⟨k,z,t,ds⟩:=d
 simp[likeD]
theorem Agree.refl:∀A:List (List Nat×D),Agree A A
 | []=>.nil
 | a::A=>.cons rfl (Xz _) (Agree.refl A)
def Split(A B:List (List Nat×D)):Prop:=∃pre pre' path x y ra rb,A=pre++(path,x)::ra∧B=pre'++(path,y)::rb∧Agree pre pre'∧likeD x y=false
mutual
theorem Rb(p:List Nat):∀d e:D,d=e∨Split (d.pieces p) (e.pieces p)
 | .mk k z t ds,.mk k' z' t' es=>by
  cases h:likeD (.mk k z t ds) (.mk k' z' t' es) with
  | false=>exact .inr ⟨[],[],p,_,_,_,_,by rw[D.pieces];rfl,by rw[D.pieces];rfl,.nil,h⟩
  | true=>
   have h':=h
   simp only[likeD,Bool.and_eq_true,beq_iff_eq] at h'
   obtain⟨⟨⟨h1,h2⟩,h3⟩,h4⟩:=h'
   have h5:=toList_inj h3
   subst h1 h2 h5
   rcases IX p ds es 0 (Int.ofNat.inj h4) with rfl|⟨pre,pre',path,x,y,ra,rb,e1,e2,e3,e4⟩
   ·exact .inl rfl
   ·exact .inr ⟨(p,.mk k z t ds)::pre,(p,.mk k z t es)::pre',path,x,y,ra,rb,by rw[D.pieces,e1];rfl,by rw[D.pieces,e2];rfl,.cons rfl h e3,e4⟩
theorem IX(p:List Nat):∀(ds es:List D) (i:Nat),ds.length=es.length→ds=es∨Split (D.piecesL p i ds) (D.piecesL p i es)
 | [],[],_,_=>.inl rfl
 | [],_::_,_,h=>by simp at h
 | _::_,[],_,h=>by simp at h
 | d::ds,e::es,i,h=>by
  rcases Rb (p++[i]) d e with rfl|⟨pre,pre',path,x,y,ra,rb,e1,e2,e3,e4⟩
  ·rcases IX p ds es (i+1) (by simpa using h) with rfl|⟨pre,pre',path,x,y,ra,rb,e1,e2,e3,e4⟩
   ·exact .inl rfl
   ·exact .inr ⟨d.pieces (p++[i])++pre,d.pieces (p++[i])++pre',path,x,y,ra,rb,by rw[D.piecesL,e1,List.append_assoc],by rw[D.piecesL,e2,List.append_assoc],(Agree.refl _).append e3,e4⟩
  ·exact .inr ⟨pre,pre',path,x,y,ra++D.piecesL p (i+1) ds,rb++D.piecesL p (i+1) es,by rw[D.piecesL,e1,List.append_assoc,List.cons_append],by rw[D.piecesL,e2,List.append_assoc,List.cons_append],e3,e4⟩
end
mutual
theorem Ra(p:List Nat):∀d:D,(d.pieces p).Pairwise fun a b=>a.1≠b.1
 | .mk k z t ds=>by
  rw[D.pieces]
  refine List.Pairwise.cons (fun b hb h=>?_) (IW p ds 0)
  obtain⟨j,r,d',h1,_⟩:=GS ds p 0 b hb
  rw[h1] at h
  have:=congrArg List.length h
  simp at this
theorem IW(p:List Nat):∀(ds:List D) (i:Nat),(D.piecesL p i ds).Pairwise fun a b=>a.1≠b.1
 | [],_=>by rw[D.piecesL];exact List.Pairwise.nil
 | d::ds,i=>by
  rw[D.piecesL]
  refine List.pairwise_append.2 ⟨Ra _ d,IW p ds (i+1),fun a ha b hb h=>?_⟩
  obtain⟨r,h1,_⟩:=Kw d (p++[i]) a ha
  obtain⟨j,r',d',h2,_⟩:=GS ds p (i+1) b hb
  rw[h1,h2,List.append_assoc] at h
  have:=List.append_cancel_left h
  simp at this
  omega
end
end Go.Proofs.YtokieofohmgjdaaGreatDoor
namespace Go.Proofs.YtokieofohmgjdaaGreatDoor
open Go Go.Eng
variable (E:Env) (ro:Option Nat) (last:List Nat→RunF) (cl:List Nat) (a:FAct) (u:Option FrameMode) (σ:FState)
def TF(_:Unit):List COp:=[⟨fun a σ=>fbox 24 (a.get 0) σ,some 2,fun _=>some true⟩,
 ⟨fun a σ=>fbox 24 (a.get 1) σ,some 3,fun _=>some true⟩,
 ⟨fun a σ=>.val (.int .i64 0) σ,some 4,fun _=>some true⟩]
def AqW:List COp:=TF ()
def TG(_:Unit):List COp:=[⟨fun a σ=>fload (some 4) (a.get 2) σ,some 6,fun _=>some true⟩,
 ⟨fun a σ=>.enter 19 [(a.get 6)] σ,some 7,fun _=>some true⟩,
 ⟨fun a σ=>.val (a.get 7) σ,some 5,fun _=>some true⟩]
def AqX:List COp:=TG ()
def TH(_:Unit):List COp:=[⟨fun a σ=>.val (a.get 5) σ,some 8,fun _=>some true⟩,
 ⟨fun a σ=>i_neq Tryz.prog 32 (.tmp 8) (.const (.int .i64 0)) (a.get 8) (.int .i64 0) σ,some 9,fun _=>some true⟩]
def AqY:List COp:=TH ()
def Zf(_:Unit):List COp:=[⟨fun a σ=>.val (a.get 5) σ,some 10,fun _=>some true⟩,
 ⟨fun a σ=>.val (a.get 10) σ,some 4,fun _=>some true⟩]
def AqZ:List COp:=Zf ()
def Zg(_:Unit):List COp:=[⟨fun a σ=>fload (some 4) (a.get 3) σ,some 11,fun _=>some true⟩,
 ⟨fun a σ=>.enter 19 [(a.get 11)] σ,some 12,fun _=>some true⟩,
 ⟨fun a σ=>.val (a.get 12) σ,some 4,fun _=>some true⟩]
def Aq0:List COp:=Zg ()
def AlL(E:Env)(ro:Option Nat)(fn:FuncId):RunF:=(seqR (fops E ro AqW) (seqR (seqR (fops E ro AqX) (seqR (fops E ro AqY) (condR (fun a=>(a.get 9)) (seqR (fops E ro AqZ) retR) skipR))) (seqR (fops E ro Aq0) retR)))
theorem Wn:fops E ro AqW a u σ=fops E ro (TF ()) a u σ:=rfl
theorem Wo:fops E ro AqX a u σ=fops E ro (TG ()) a u σ:=rfl
theorem Wp:fops E ro AqY a u σ=fops E ro (TH ()) a u σ:=rfl
theorem Ak3:fops E ro AqZ a u σ=fops E ro (Zf ()) a u σ:=rfl
theorem Ak4:fops E ro Aq0 a u σ=fops E ro (Zg ()) a u σ:=rfl
theorem ArS(E:Env)(ro:Option Nat)(fn:FuncId):code Tryz.prog nls (Tryz.f83.body.getD .skip) E ro fn=AlL E ro fn:=by kernel_rfl
theorem Ant(E:Env)(args:List Value)(u:Option FrameMode)(σ:FState)(hn:args.length≤(6:Nat)):fcall Tryz.prog nls E 83 args u σ=leaveR Tryz.prog E [.tmp 4] (AlL E none 83 ⟨padTo undef 6 args,fun _=>undef,6,13,[]⟩ u σ):=by
 rw[Ao (body:=Tryz.f83.body.getD .skip) Tryz.func83 rfl E args u σ 6 13 (by kernel_rfl) rfl ⟨hn,by decide⟩,ArS]
 rfl
def TJ(_:Unit):List COp:=[⟨fun a σ=>fbox 24 (a.get 0) σ,some 1,fun _=>some true⟩,
 ⟨fun a σ=>newCells [(.int .i64 0),(.int .i64 0),(.string ⟨#[]⟩),(.slice none 0 0)] 24 none σ,some 2,fun _=>some true⟩,
 ⟨fun a σ=>.val (.int .i64 0) σ,some 3,fun _=>some true⟩]
def Aq1:List COp:=TJ ()
def TK(_:Unit):List COp:=[⟨fun a σ=>fload (some 4) (a.get 1) σ,some 5,fun _=>some true⟩,
 ⟨fun a σ=>.enter 82 [(a.get 5)] σ,some 6,fun _=>some true⟩,
 ⟨fun a σ=>.val (a.get 6) σ,some 4,fun _=>some true⟩]
def Aq2:List COp:=TK ()
def TM(_:Unit):List COp:=[⟨fun a σ=>.val (a.get 4) σ,some 7,fun _=>some true⟩,
 ⟨fun a σ=>i_neq Tryz.prog 32 (.tmp 7) (.const (.int .i64 0)) (a.get 7) (.int .i64 0) σ,some 8,fun _=>some true⟩]
def Aq3:List COp:=TM ()
def Zh(_:Unit):List COp:=[⟨fun a σ=>fbuild (fun i=>nth [(0,1),(1,1),(2,1),(3,1)] i) [(.int .i64 0),(.int .i64 0),(.string ⟨#[]⟩),(.slice none 0 0)] [] σ,some 9,fun _=>some true⟩,
 ⟨fun a σ=>.val (a.get 4) σ,some 10,fun _=>some true⟩,
 ⟨fun a σ=>fstore 4 (a.get 2) (a.get 9) σ,none,fun _=>some true⟩,
 ⟨fun a σ=>.val (a.get 10) σ,some 3,fun _=>some true⟩]
def Aq4:List COp:=Zh ()
def Zi(_:Unit):List COp:=[⟨fun a σ=>fload (some 4) (a.get 1) σ,some 11,fun _=>some true⟩,
 ⟨fun a σ=>fstore 4 (a.get 2) (a.get 11) σ,none,fun _=>some true⟩,
 ⟨fun a σ=>.val (.int .i64 0) σ,some 3,fun _=>some true⟩]
def Aq5:List COp:=Zi ()
def AlM(E:Env)(ro:Option Nat)(fn:FuncId):RunF:=(seqR (fops E ro Aq1) (seqR (seqR (fops E ro Aq2) (seqR (fops E ro Aq3) (condR (fun a=>(a.get 8)) (seqR (fops E ro Aq4) retR) skipR))) (seqR (fops E ro Aq5) retR)))
theorem Wq:fops E ro Aq1 a u σ=fops E ro (TJ ()) a u σ:=rfl
theorem Ws:fops E ro Aq2 a u σ=fops E ro (TK ()) a u σ:=rfl
theorem Wt:fops E ro Aq3 a u σ=fops E ro (TM ()) a u σ:=rfl
theorem Ak5:fops E ro Aq4 a u σ=fops E ro (Zh ()) a u σ:=rfl
theorem Ak6:fops E ro Aq5 a u σ=fops E ro (Zi ()) a u σ:=rfl
theorem ArT(E:Env)(ro:Option Nat)(fn:FuncId):code Tryz.prog nls (Tryz.f84.body.getD .skip) E ro fn=AlM E ro fn:=by kernel_rfl
theorem Anu(E:Env)(args:List Value)(u:Option FrameMode)(σ:FState)(hn:args.length≤(5:Nat)):fcall Tryz.prog nls E 84 args u σ=leaveR Tryz.prog E [.cell 2 24,.tmp 3] (AlM E none 84 ⟨padTo undef 5 args,fun _=>undef,5,12,[]⟩ u σ):=by
 rw[Ao (body:=Tryz.f84.body.getD .skip) Tryz.func84 rfl E args u σ 5 12 (by kernel_rfl) rfl ⟨hn,by decide⟩,ArT]
 rfl
def SL(_:Unit):List COp:=[⟨fun a σ=>fbox 24 (a.get 0) σ,some 1,fun _=>some true⟩,
 ⟨fun a σ=>.val (.int .i64 0) σ,some 2,fun _=>some true⟩]
def Apc:List COp:=SL ()
def SM(_:Unit):List COp:=[⟨fun a σ=>fload (some 4) (a.get 1) σ,some 4,fun _=>some true⟩,
 ⟨fun a σ=>.enter 81 [(a.get 4)] σ,some 5,fun _=>some true⟩,
 ⟨fun a σ=>.val (a.get 5) σ,some 3,fun _=>some true⟩]
def Apd:List COp:=SM ()
def SN(_:Unit):List COp:=[⟨fun a σ=>.val (a.get 3) σ,some 6,fun _=>some true⟩,
 ⟨fun a σ=>i_neq Tryz.prog 32 (.tmp 6) (.const (.int .i64 0)) (a.get 6) (.int .i64 0) σ,some 7,fun _=>some true⟩]
def Ape:List COp:=SN ()
def Yf(_:Unit):List COp:=[⟨fun a σ=>.val (a.get 3) σ,some 8,fun _=>some true⟩,
 ⟨fun a σ=>.val (a.get 8) σ,some 2,fun _=>some true⟩]
def Apf:List COp:=Yf ()
def Yg(_:Unit):List COp:=[⟨fun a σ=>fload (some 4) (a.get 1) σ,some 9,fun _=>some true⟩,
 ⟨fun a σ=>.enter 82 [(a.get 9)] σ,some 10,fun _=>some true⟩,
 ⟨fun a σ=>.val (a.get 10) σ,some 2,fun _=>some true⟩]
def Apg:List COp:=Yg ()
def Als(E:Env)(ro:Option Nat)(fn:FuncId):RunF:=(seqR (fops E ro Apc) (seqR (seqR (fops E ro Apd) (seqR (fops E ro Ape) (condR (fun a=>(a.get 7)) (seqR (fops E ro Apf) retR) skipR))) (seqR (fops E ro Apg) retR)))
theorem VM:fops E ro Apc a u σ=fops E ro (SL ()) a u σ:=rfl
theorem VN:fops E ro Apd a u σ=fops E ro (SM ()) a u σ:=rfl
theorem VO:fops E ro Ape a u σ=fops E ro (SN ()) a u σ:=rfl
theorem Ai6:fops E ro Apf a u σ=fops E ro (Yf ()) a u σ:=rfl
theorem Ai7:fops E ro Apg a u σ=fops E ro (Yg ()) a u σ:=rfl
theorem Arw(E:Env)(ro:Option Nat)(fn:FuncId):code Tryz.prog nls (Tryz.f19.body.getD .skip) E ro fn=Als E ro fn:=by kernel_rfl
theorem Am9(E:Env)(args:List Value)(u:Option FrameMode)(σ:FState)(hn:args.length≤(4:Nat)):fcall Tryz.prog nls E 19 args u σ=leaveR Tryz.prog E [.tmp 2] (Als E none 19 ⟨padTo undef 4 args,fun _=>undef,4,11,[]⟩ u σ):=by
 rw[Ao (body:=Tryz.f19.body.getD .skip) Tryz.func19 rfl E args u σ 4 11 (by kernel_rfl) rfl ⟨hn,by decide⟩,Arw]
 rfl
def Tx(_:Unit):List COp:=[⟨fun a σ=>fbox 24 (a.get 0) σ,some 1,fun _=>some true⟩,
 ⟨fun a σ=>.val (.int .i64 0) σ,some 2,fun _=>some true⟩]
def AqI:List COp:=Tx ()
def Tz(_:Unit):List COp:=[⟨fun a σ=>fload (some 4) (a.get 1) σ,some 6,fun _=>some true⟩,
 ⟨fun a σ=>.enter 130 [(a.get 6)] σ,some 7,fun _=>some true⟩,
 ⟨fun a σ=>.val (a.get 7) σ,some 3,fun _=>some true⟩]
def AqJ:List COp:=Tz ()
def TA(_:Unit):List COp:=[⟨fun a σ=>.val (a.get 3) σ,some 8,fun _=>some true⟩,
 ⟨fun a σ=>i_neq Tryz.prog 32 (.tmp 8) (.const (.int .i64 0)) (a.get 8) (.int .i64 0) σ,some 9,fun _=>some true⟩]
def AqK:List COp:=TA ()
def Za(_:Unit):List COp:=[⟨fun a σ=>.val (a.get 3) σ,some 10,fun _=>some true⟩,
 ⟨fun a σ=>.val (a.get 10) σ,some 2,fun _=>some true⟩]
def AqL:List COp:=Za ()
def Zb(_:Unit):List COp:=[⟨fun a σ=>.val (.int .i64 0) σ,some 4,fun _=>some true⟩]
def AqM:List COp:=Zb ()
def NS(_:Unit):List COp:=[⟨fun a σ=>.val (a.get 4) σ,some 11,fun _=>some true⟩,
 ⟨fun a σ=>ffield 3 (a.get 1) σ,some 12,fun _=>some true⟩,
 ⟨fun a σ=>fload none (a.get 12) σ,some 13,fun _=>some true⟩,
 ⟨fun a σ=>flenL (a.get 13) σ,some 14,fun _=>some true⟩,
 ⟨fun a σ=>i_lss Tryz.prog 3 (.tmp 11) (.tmp 14) (a.get 11) (a.get 14) σ,some 15,fun _=>some true⟩]
def AqN:List COp:=NS ()
def TB(_:Unit):List COp:=[⟨fun a σ=>ffield 3 (a.get 1) σ,some 18,fun _=>some true⟩,
 ⟨fun a σ=>fload none (a.get 18) σ,some 19,fun _=>some true⟩,
 ⟨fun a σ=>.val (a.get 4) σ,some 20,fun _=>some true⟩,
 ⟨fun a σ=>findex (none,4) (a.get 19) (a.get 20) σ,some 21,fun _=>some true⟩,
 ⟨fun a σ=>fload (some 4) (a.get 21) σ,some 22,fun _=>some true⟩,
 ⟨fun a σ=>.enter 81 [(a.get 22)] σ,some 23,fun _=>some true⟩,
 ⟨fun a σ=>.val (a.get 23) σ,some 5,fun _=>some true⟩]
def AqP:List COp:=TB ()
def TC(_:Unit):List COp:=[⟨fun a σ=>.val (a.get 5) σ,some 24,fun _=>some true⟩,
 ⟨fun a σ=>i_neq Tryz.prog 32 (.tmp 24) (.const (.int .i64 0)) (a.get 24) (.int .i64 0) σ,some 25,fun _=>some true⟩]
def AqQ:List COp:=TC ()
def Zd(_:Unit):List COp:=[⟨fun a σ=>.val (a.get 5) σ,some 26,fun _=>some true⟩,
 ⟨fun a σ=>.val (a.get 26) σ,some 2,fun _=>some true⟩]
def AqR:List COp:=Zd ()
def Zc(_:Unit):List COp:=[⟨fun a σ=>.val (a.get 4) σ,some 16,fun _=>some true⟩,
 ⟨fun a σ=>i_add Tryz.prog 3 (.tmp 16) (.const (.int .i64 1)) (a.get 16) (.int .i64 1) σ,some 17,fun _=>some true⟩,
 ⟨fun a σ=>.val (a.get 17) σ,some 4,fun _=>some true⟩]
def AqO:List COp:=Zc ()
def M5(E:Env)(ro:Option Nat)(fn:FuncId):RunF:=(seqR (seqR (fops E ro AqN) (condR (fun a=>(a.get 15)) skipR (exitR 0))) (seqR (blockR 1 (seqR (fops E ro AqP) (seqR (fops E ro AqQ) (condR (fun a=>(a.get 25)) (seqR (fops E ro AqR) retR) skipR)))) (fops E ro AqO)))
def Ty(_:Unit):List COp:=[⟨fun a σ=>.val (.int .i64 0) σ,some 2,fun _=>some true⟩]
def AkX:List COp:=Ty ()
def AlK(E:Env)(ro:Option Nat)(fn:FuncId):RunF:=(seqR (fops E ro AqI) (seqR (seqR (fops E ro AqJ) (seqR (fops E ro AqK) (condR (fun a=>(a.get 9)) (seqR (fops E ro AqL) retR) skipR))) (seqR (seqR (fops E ro AqM) (blockR 0 (loopR (keepOf nls fn) (M5 E ro fn)))) (seqR (fops E ro AkX) retR))))
theorem Wh:fops E ro AqI a u σ=fops E ro (Tx ()) a u σ:=rfl
theorem Wi:fops E ro AqJ a u σ=fops E ro (Tz ()) a u σ:=rfl
theorem Wj:fops E ro AqK a u σ=fops E ro (TA ()) a u σ:=rfl
theorem AkY:fops E ro AqL a u σ=fops E ro (Za ()) a u σ:=rfl
theorem AkZ:fops E ro AqM a u σ=fops E ro (Zb ()) a u σ:=rfl
theorem NT:fops E ro AqN a u σ=fops E ro (NS ()) a u σ:=rfl
theorem Wk:fops E ro AqP a u σ=fops E ro (TB ()) a u σ:=rfl
theorem Wl:fops E ro AqQ a u σ=fops E ro (TC ()) a u σ:=rfl
theorem Ak1:fops E ro AqR a u σ=fops E ro (Zd ()) a u σ:=rfl
theorem Ak0:fops E ro AqO a u σ=fops E ro (Zc ()) a u σ:=rfl
theorem AdJ:fops E ro AkX a u σ=fops E ro (Ty ()) a u σ:=rfl
theorem ArQ(E:Env)(ro:Option Nat)(fn:FuncId):code Tryz.prog nls (Tryz.f81.body.getD .skip) E ro fn=AlK E ro fn:=by kernel_rfl
theorem Ans(E:Env)(args:List Value)(u:Option FrameMode)(σ:FState)(hn:args.length≤(6:Nat)):fcall Tryz.prog nls E 81 args u σ=leaveR Tryz.prog E [.tmp 2] (AlK E none 81 ⟨padTo undef 6 args,fun _=>undef,6,27,[]⟩ u σ):=by
 rw[Ao (body:=Tryz.f81.body.getD .skip) Tryz.func81 rfl E args u σ 6 27 (by kernel_rfl) rfl ⟨hn,by decide⟩,ArQ]
 rfl
def C3(_:Unit):List COp:=[⟨fun a σ=>fbox 24 (a.get 0) σ,some 1,fun _=>some true⟩,
 ⟨fun a σ=>.val (.int .i64 0) σ,some 2,fun _=>some true⟩]
def AgT:List COp:=C3 ()
def C6(_:Unit):List COp:=[⟨fun a σ=>ffield 0 (a.get 1) σ,some 6,fun _=>some true⟩,
 ⟨fun a σ=>fload none (a.get 6) σ,some 7,fun _=>some true⟩,
 ⟨fun a σ=>.enter 107 [(a.get 7),(.int .i64 0),(.int .i64 6)] σ,some 8,fun _=>some true⟩,
 ⟨fun a σ=>fun1 Tryz.prog (Op.unary .not) (a.get 8) σ,some 9,fun _=>some true⟩]
def AgU:List COp:=C6 ()
def C8(_:Unit):List COp:=[⟨fun a σ=>.val (.int .i64 4) σ,some 2,fun _=>some true⟩]
def AgV:List COp:=C8 ()
def C_(_:Unit):List COp:=[⟨fun a σ=>ffield 0 (a.get 1) σ,some 10,fun _=>some true⟩,
 ⟨fun a σ=>fload none (a.get 10) σ,some 11,fun _=>some true⟩,
 ⟨fun a σ=>i_eql Tryz.prog 3 (.tmp 11) (.const (.int .i64 1)) (a.get 11) (.int .i64 1) σ,some 12,fun _=>some true⟩,
 ⟨fun a σ=>.val (a.get 12) σ,some 13,fun _=>some true⟩,
 ⟨fun a σ=>ffield 0 (a.get 1) σ,some 14,fun a=>gd (a.get 13) false⟩,
 ⟨fun a σ=>fload none (a.get 14) σ,some 15,fun a=>gd (a.get 13) false⟩,
 ⟨fun a σ=>i_eql Tryz.prog 3 (.tmp 15) (.const (.int .i64 2)) (a.get 15) (.int .i64 2) σ,some 16,fun a=>gd (a.get 13) false⟩,
 ⟨fun a σ=>fpick (a.get 13) (.bool true) (a.get 16) σ,some 17,fun _=>some true⟩,
 ⟨fun a σ=>.val (a.get 17) σ,some 3,fun _=>some true⟩]
def AgW:List COp:=C_ ()
def Da(_:Unit):List COp:=[⟨fun a σ=>ffield 0 (a.get 1) σ,some 18,fun _=>some true⟩,
 ⟨fun a σ=>fload none (a.get 18) σ,some 19,fun _=>some true⟩,
 ⟨fun a σ=>i_eql Tryz.prog 3 (.tmp 19) (.const (.int .i64 3)) (a.get 19) (.int .i64 3) σ,some 20,fun _=>some true⟩,
 ⟨fun a σ=>.val (a.get 20) σ,some 21,fun _=>some true⟩,
 ⟨fun a σ=>ffield 0 (a.get 1) σ,some 22,fun a=>gd (a.get 21) false⟩,
 ⟨fun a σ=>fload none (a.get 22) σ,some 23,fun a=>gd (a.get 21) false⟩,
 ⟨fun a σ=>i_eql Tryz.prog 3 (.tmp 23) (.const (.int .i64 4)) (a.get 23) (.int .i64 4) σ,some 24,fun a=>gd (a.get 21) false⟩,
 ⟨fun a σ=>fpick (a.get 21) (.bool true) (a.get 24) σ,some 25,fun _=>some true⟩,
 ⟨fun a σ=>.val (a.get 25) σ,some 4,fun _=>some true⟩]
def AgX:List COp:=Da ()
def Db(_:Unit):List COp:=[⟨fun a σ=>ffield 0 (a.get 1) σ,some 26,fun _=>some true⟩,
 ⟨fun a σ=>fload none (a.get 26) σ,some 27,fun _=>some true⟩,
 ⟨fun a σ=>i_eql Tryz.prog 3 (.tmp 27) (.const (.int .i64 5)) (a.get 27) (.int .i64 5) σ,some 28,fun _=>some true⟩,
 ⟨fun a σ=>.val (a.get 28) σ,some 29,fun _=>some true⟩,
 ⟨fun a σ=>ffield 0 (a.get 1) σ,some 30,fun a=>gd (a.get 29) false⟩,
 ⟨fun a σ=>fload none (a.get 30) σ,some 31,fun a=>gd (a.get 29) false⟩,
 ⟨fun a σ=>i_eql Tryz.prog 3 (.tmp 31) (.const (.int .i64 6)) (a.get 31) (.int .i64 6) σ,some 32,fun a=>gd (a.get 29) false⟩,
 ⟨fun a σ=>fpick (a.get 29) (.bool true) (a.get 32) σ,some 33,fun _=>some true⟩,
 ⟨fun a σ=>.val (a.get 33) σ,some 5,fun _=>some true⟩]
def AgY:List COp:=Db ()
def Dc(_:Unit):List COp:=[⟨fun a σ=>.val (a.get 3) σ,some 34,fun _=>some true⟩,
 ⟨fun a σ=>fun1 Tryz.prog (Op.unary .not) (a.get 34) σ,some 35,fun _=>some true⟩,
 ⟨fun a σ=>.val (a.get 35) σ,some 36,fun _=>some true⟩,
 ⟨fun a σ=>ffield 1 (a.get 1) σ,some 37,fun a=>gd (a.get 36) true⟩,
 ⟨fun a σ=>fload none (a.get 37) σ,some 38,fun a=>gd (a.get 36) true⟩,
 ⟨fun a σ=>i_neq Tryz.prog 3 (.tmp 38) (.const (.int .i64 0)) (a.get 38) (.int .i64 0) σ,some 39,fun a=>gd (a.get 36) true⟩,
 ⟨fun a σ=>fpick (a.get 36) (a.get 39) (.bool false) σ,some 40,fun _=>some true⟩,
 ⟨fun a σ=>.val (a.get 40) σ,some 41,fun _=>some true⟩,
 ⟨fun a σ=>.val (a.get 4) σ,some 42,fun a=>gd (a.get 41) false⟩,
 ⟨fun a σ=>fun1 Tryz.prog (Op.unary .not) (a.get 42) σ,some 43,fun a=>gd (a.get 41) false⟩,
 ⟨fun a σ=>.val (a.get 43) σ,some 44,fun a=>gd (a.get 41) false⟩,
 ⟨fun a σ=>ffield 2 (a.get 1) σ,some 45,fun a=>gd (a.get 44) true⟩,
 ⟨fun a σ=>fload none (a.get 45) σ,some 46,fun a=>gd (a.get 44) true⟩,
 ⟨fun a σ=>i_neq Tryz.prog 9 (.tmp 46) (.const (.string ⟨#[]⟩)) (a.get 46) (.string ⟨#[]⟩) σ,some 47,fun a=>gd (a.get 44) true⟩,
 ⟨fun a σ=>fpick (a.get 44) (a.get 47) (.bool false) σ,some 48,fun a=>gd (a.get 41) false⟩,
 ⟨fun a σ=>fpick (a.get 41) (.bool true) (a.get 48) σ,some 49,fun _=>some true⟩,
 ⟨fun a σ=>.val (a.get 49) σ,some 50,fun _=>some true⟩,
 ⟨fun a σ=>.val (a.get 5) σ,some 51,fun a=>gd (a.get 50) false⟩,
 ⟨fun a σ=>fun1 Tryz.prog (Op.unary .not) (a.get 51) σ,some 52,fun a=>gd (a.get 50) false⟩,
 ⟨fun a σ=>.val (a.get 52) σ,some 53,fun a=>gd (a.get 50) false⟩,
 ⟨fun a σ=>ffield 3 (a.get 1) σ,some 54,fun a=>gd (a.get 53) true⟩,
 ⟨fun a σ=>fload none (a.get 54) σ,some 55,fun a=>gd (a.get 53) true⟩,
 ⟨fun a σ=>flenL (a.get 55) σ,some 56,fun a=>gd (a.get 53) true⟩,
 ⟨fun a σ=>i_gtr Tryz.prog 3 (.tmp 56) (.const (.int .i64 0)) (a.get 56) (.int .i64 0) σ,some 57,fun a=>gd (a.get 53) true⟩,
 ⟨fun a σ=>fpick (a.get 53) (a.get 57) (.bool false) σ,some 58,fun a=>gd (a.get 50) false⟩,
 ⟨fun a σ=>fpick (a.get 50) (.bool true) (a.get 58) σ,some 59,fun _=>some true⟩,
 ⟨fun a σ=>.val (a.get 59) σ,some 60,fun _=>some true⟩,
 ⟨fun a σ=>ffield 0 (a.get 1) σ,some 61,fun a=>gd (a.get 60) false⟩,
 ⟨fun a σ=>fload none (a.get 61) σ,some 62,fun a=>gd (a.get 60) false⟩,
 ⟨fun a σ=>i_eql Tryz.prog 3 (.tmp 62) (.const (.int .i64 5)) (a.get 62) (.int .i64 5) σ,some 63,fun a=>gd (a.get 60) false⟩,
 ⟨fun a σ=>.val (a.get 63) σ,some 64,fun a=>gd (a.get 60) false⟩,
 ⟨fun a σ=>ffield 3 (a.get 1) σ,some 65,fun a=>gd (a.get 64) true⟩,
 ⟨fun a σ=>fload none (a.get 65) σ,some 66,fun a=>gd (a.get 64) true⟩,
 ⟨fun a σ=>flenL (a.get 66) σ,some 67,fun a=>gd (a.get 64) true⟩,
 ⟨fun a σ=>i_neq Tryz.prog 3 (.tmp 67) (.const (.int .i64 2)) (a.get 67) (.int .i64 2) σ,some 68,fun a=>gd (a.get 64) true⟩,
 ⟨fun a σ=>fpick (a.get 64) (a.get 68) (.bool false) σ,some 69,fun a=>gd (a.get 60) false⟩,
 ⟨fun a σ=>fpick (a.get 60) (.bool true) (a.get 69) σ,some 70,fun _=>some true⟩]
def AgZ:List COp:=Dc ()
def Dd(_:Unit):List COp:=[⟨fun a σ=>.val (.int .i64 1) σ,some 2,fun _=>some true⟩]
def Ag0:List COp:=Dd ()
def De(_:Unit):List COp:=[⟨fun a σ=>ffield 0 (a.get 1) σ,some 71,fun _=>some true⟩,
 ⟨fun a σ=>fload none (a.get 71) σ,some 72,fun _=>some true⟩]
def Ag1:List COp:=De ()
def Df(_:Unit):List COp:=[⟨fun a σ=>i_eql Tryz.prog 3 (.tmp 72) (.const (.int .i64 1)) (a.get 72) (.int .i64 1) σ,some 74,fun _=>some true⟩,
 ⟨fun a σ=>.val (a.get 74) σ,some 73,fun _=>some true⟩]
def Ag2:List COp:=Df ()
def Cn(_:Unit):List COp:=[⟨fun a σ=>ffield 1 (a.get 1) σ,some 75,fun _=>some true⟩,
 ⟨fun a σ=>fload none (a.get 75) σ,some 76,fun _=>some true⟩,
 ⟨fun a σ=>.enter 107 [(a.get 76),(.int .i64 0),(.int .i64 1)] σ,some 77,fun _=>some true⟩,
 ⟨fun a σ=>fun1 Tryz.prog (Op.unary .not) (a.get 77) σ,some 78,fun _=>some true⟩]
def Aaw:List COp:=Cn ()
def Co(_:Unit):List COp:=[⟨fun a σ=>.val (.int .i64 13) σ,some 2,fun _=>some true⟩]
def Aax:List COp:=Co ()
def Cp(_:Unit):List COp:=[⟨fun a σ=>i_eql Tryz.prog 3 (.tmp 72) (.const (.int .i64 2)) (a.get 72) (.int .i64 2) σ,some 80,fun _=>some true⟩,
 ⟨fun a σ=>.val (a.get 80) σ,some 79,fun _=>some true⟩]
def Aay:List COp:=Cp ()
def Cq(_:Unit):List COp:=[⟨fun a σ=>ffield 1 (a.get 1) σ,some 81,fun _=>some true⟩,
 ⟨fun a σ=>fload none (a.get 81) σ,some 82,fun _=>some true⟩,
 ⟨fun a σ=>.enter 107 [(a.get 82),(.int .i64 (-999999999)),(.int .i64 999999999)] σ,some 83,fun _=>some true⟩,
 ⟨fun a σ=>fun1 Tryz.prog (Op.unary .not) (a.get 83) σ,some 84,fun _=>some true⟩]
def Aaz:List COp:=Cq ()
def Cr(_:Unit):List COp:=[⟨fun a σ=>.val (.int .i64 13) σ,some 2,fun _=>some true⟩]
def AaA:List COp:=Cr ()
def Cs(_:Unit):List COp:=[⟨fun a σ=>i_eql Tryz.prog 3 (.tmp 72) (.const (.int .i64 3)) (a.get 72) (.int .i64 3) σ,some 86,fun _=>some true⟩,
 ⟨fun a σ=>.val (a.get 86) σ,some 85,fun _=>some true⟩]
def AaB:List COp:=Cs ()
def Ct(_:Unit):List COp:=[⟨fun a σ=>ffield 2 (a.get 1) σ,some 87,fun _=>some true⟩,
 ⟨fun a σ=>fload none (a.get 87) σ,some 88,fun _=>some true⟩,
 ⟨fun a σ=>.enter 158 [(a.get 88)] σ,some 89,fun _=>some true⟩,
 ⟨fun a σ=>fun1 Tryz.prog (Op.unary .not) (a.get 89) σ,some 90,fun _=>some true⟩]
def AaC:List COp:=Ct ()
def Cu(_:Unit):List COp:=[⟨fun a σ=>.val (.int .i64 2) σ,some 2,fun _=>some true⟩]
def AaD:List COp:=Cu ()
def Cv(_:Unit):List COp:=[⟨fun a σ=>i_eql Tryz.prog 3 (.tmp 72) (.const (.int .i64 4)) (a.get 72) (.int .i64 4) σ,some 92,fun _=>some true⟩,
 ⟨fun a σ=>.val (a.get 92) σ,some 91,fun _=>some true⟩]
def AaE:List COp:=Cv ()
def Cw(_:Unit):List COp:=[⟨fun a σ=>ffield 2 (a.get 1) σ,some 93,fun _=>some true⟩,
 ⟨fun a σ=>fload none (a.get 93) σ,some 94,fun _=>some true⟩,
 ⟨fun a σ=>.enter 159 [(a.get 94)] σ,some 95,fun _=>some true⟩,
 ⟨fun a σ=>.val (a.get 95) σ,some 2,fun _=>some true⟩]
def AaF:List COp:=Cw ()
def Cx(_:Unit):List COp:=[⟨fun a σ=>.val (.int .i64 0) σ,some 2,fun _=>some true⟩]
def AaG:List COp:=Cx ()
def Ge(E:Env)(ro:Option Nat)(fn:FuncId):RunF:=(seqR (fops E ro AgT) (seqR (seqR (fops E ro AgU) (condR (fun a=>(a.get 9)) (seqR (fops E ro AgV) retR) skipR)) (seqR (fops E ro AgW) (seqR (fops E ro AgX) (seqR (fops E ro AgY) (seqR (seqR (fops E ro AgZ) (condR (fun a=>(a.get 70)) (seqR (fops E ro Ag0) retR) skipR)) (seqR (seqR (fops E ro Ag1) (blockR 0 (seqR (fops E ro Ag2) (condR (fun a=>(a.get 73)) (seqR (fops E ro Aaw) (condR (fun a=>(a.get 78)) (seqR (fops E ro Aax) retR) skipR)) (seqR (fops E ro Aay) (condR (fun a=>(a.get 79)) (seqR (fops E ro Aaz) (condR (fun a=>(a.get 84)) (seqR (fops E ro AaA) retR) skipR)) (seqR (fops E ro AaB) (condR (fun a=>(a.get 85)) (seqR (fops E ro AaC) (condR (fun a=>(a.get 90)) (seqR (fops E ro AaD) retR) skipR)) (seqR (fops E ro AaE) (condR (fun a=>(a.get 91)) (seqR (fops E ro AaF) retR) skipR)))))))))) (seqR (fops E ro AaG) retR))))))))
theorem BG:fops E ro AgT a u σ=fops E ro (C3 ()) a u σ:=rfl
theorem BH:fops E ro AgU a u σ=fops E ro (C6 ()) a u σ:=rfl
theorem BI:fops E ro AgV a u σ=fops E ro (C8 ()) a u σ:=rfl
theorem BV:fops E ro AgW a u σ=fops E ro (C_ ()) a u σ:=rfl
theorem BW:fops E ro AgX a u σ=fops E ro (Da ()) a u σ:=rfl
theorem BX:fops E ro AgY a u σ=fops E ro (Db ()) a u σ:=rfl
theorem BZ:fops E ro AgZ a u σ=fops E ro (Dc ()) a u σ:=rfl
theorem B0:fops E ro Ag0 a u σ=fops E ro (Dd ()) a u σ:=rfl
theorem B6:fops E ro Ag1 a u σ=fops E ro (De ()) a u σ:=rfl
theorem B_:fops E ro Ag2 a u σ=fops E ro (Df ()) a u σ:=rfl
theorem Bk:fops E ro Aaw a u σ=fops E ro (Cn ()) a u σ:=rfl
theorem Bl:fops E ro Aax a u σ=fops E ro (Co ()) a u σ:=rfl
theorem Bm:fops E ro Aay a u σ=fops E ro (Cp ()) a u σ:=rfl
theorem Bn:fops E ro Aaz a u σ=fops E ro (Cq ()) a u σ:=rfl
theorem Bo:fops E ro AaA a u σ=fops E ro (Cr ()) a u σ:=rfl
theorem Bp:fops E ro AaB a u σ=fops E ro (Cs ()) a u σ:=rfl
theorem Bq:fops E ro AaC a u σ=fops E ro (Ct ()) a u σ:=rfl
theorem Br:fops E ro AaD a u σ=fops E ro (Cu ()) a u σ:=rfl
theorem Bs:fops E ro AaE a u σ=fops E ro (Cv ()) a u σ:=rfl
theorem Bt:fops E ro AaF a u σ=fops E ro (Cw ()) a u σ:=rfl
theorem Bu:fops E ro AaG a u σ=fops E ro (Cx ()) a u σ:=rfl
theorem Amy(E:Env)(ro:Option Nat)(fn:FuncId):code Tryz.prog nls (Tryz.f130.body.getD .skip) E ro fn=Ge E ro fn:=by kernel_rfl
theorem Fa(E:Env)(args:List Value)(u:Option FrameMode)(σ:FState)(hn:args.length≤(6:Nat)):fcall Tryz.prog nls E 130 args u σ=leaveR Tryz.prog E [.tmp 2] (Ge E none 130 ⟨padTo undef 6 args,fun _=>undef,6,96,[]⟩ u σ):=by
 rw[Ao (body:=Tryz.f130.body.getD .skip) Tryz.func130 rfl E args u σ 6 96 (by kernel_rfl) rfl ⟨hn,by decide⟩,Amy]
 rfl
def NU(_:Unit):List COp:=[⟨fun a σ=>fbox 24 (a.get 0) σ,some 1,fun _=>some true⟩,
 ⟨fun a σ=>.val (.int .i64 0) σ,some 2,fun _=>some true⟩]
def AqS:List COp:=NU ()
def NW(_:Unit):List COp:=[⟨fun a σ=>fload (some 4) (a.get 1) σ,some 3,fun _=>some true⟩,
 ⟨fun a σ=>.enter 52 [(a.get 3),(.int .i64 2000)] σ,some 4,fun _=>some true⟩,
 ⟨fun a σ=>i_gtr Tryz.prog 3 (.tmp 4) (.const (.int .i64 2000)) (a.get 4) (.int .i64 2000) σ,some 5,fun _=>some true⟩]
def AqT:List COp:=NW ()
def Ze(_:Unit):List COp:=[⟨fun a σ=>.val (.int .i64 8) σ,some 2,fun _=>some true⟩]
def AqU:List COp:=Ze ()
def TE(_:Unit):List COp:=[⟨fun a σ=>.val (.int .i64 0) σ,some 2,fun _=>some true⟩]
def AqV:List COp:=TE ()
def Aa8(E:Env)(ro:Option Nat)(fn:FuncId):RunF:=(seqR (fops E ro AqS) (seqR (seqR (fops E ro AqT) (condR (fun a=>(a.get 5)) (seqR (fops E ro AqU) retR) skipR)) (seqR (fops E ro AqV) retR)))
theorem NV:fops E ro AqS a u σ=fops E ro (NU ()) a u σ:=rfl
theorem NX:fops E ro AqT a u σ=fops E ro (NW ()) a u σ:=rfl
theorem Ak2:fops E ro AqU a u σ=fops E ro (Ze ()) a u σ:=rfl
theorem Wm:fops E ro AqV a u σ=fops E ro (TE ()) a u σ:=rfl
theorem ArR(E:Env)(ro:Option Nat)(fn:FuncId):code Tryz.prog nls (Tryz.f82.body.getD .skip) E ro fn=Aa8 E ro fn:=by kernel_rfl
theorem Aaf(E:Env)(args:List Value)(u:Option FrameMode)(σ:FState)(hn:args.length≤(2:Nat)):fcall Tryz.prog nls E 82 args u σ=leaveR Tryz.prog E [.tmp 2] (Aa8 E none 82 ⟨padTo undef 2 args,fun _=>undef,2,6,[]⟩ u σ):=by
 rw[Ao (body:=Tryz.f82.body.getD .skip) Tryz.func82 rfl E args u σ 2 6 (by kernel_rfl) rfl ⟨hn,by decide⟩,ArR]
 rfl
def ND(_:Unit):List COp:=[⟨fun a σ=>fbox 24 (a.get 0) σ,some 2,fun _=>some true⟩,
 ⟨fun a σ=>.val (.int .i64 0) σ,some 4,fun _=>some true⟩]
def ApV:List COp:=ND ()
def NF(_:Unit):List COp:=[⟨fun a σ=>.val (.int .i64 1) σ,some 5,fun _=>some true⟩]
def ApW:List COp:=NF ()
def NH(_:Unit):List COp:=[⟨fun a σ=>.val (.int .i64 0) σ,some 6,fun _=>some true⟩]
def ApX:List COp:=NH ()
def HH(_:Unit):List COp:=[⟨fun a σ=>.val (a.get 6) σ,some 7,fun _=>some true⟩,
 ⟨fun a σ=>ffield 3 (a.get 2) σ,some 8,fun _=>some true⟩,
 ⟨fun a σ=>fload none (a.get 8) σ,some 9,fun _=>some true⟩,
 ⟨fun a σ=>flenL (a.get 9) σ,some 10,fun _=>some true⟩,
 ⟨fun a σ=>i_lss Tryz.prog 3 (.tmp 7) (.tmp 10) (a.get 7) (a.get 10) σ,some 11,fun _=>some true⟩,
 ⟨fun a σ=>.val (a.get 11) σ,some 12,fun _=>some true⟩,
 ⟨fun a σ=>.val (a.get 5) σ,some 13,fun a=>gd (a.get 12) true⟩,
 ⟨fun a σ=>.val (a.get 1) σ,some 14,fun a=>gd (a.get 12) true⟩,
 ⟨fun a σ=>i_leq Tryz.prog 3 (.tmp 13) (.tmp 14) (a.get 13) (a.get 14) σ,some 15,fun a=>gd (a.get 12) true⟩,
 ⟨fun a σ=>fpick (a.get 12) (a.get 15) (.bool false) σ,some 16,fun _=>some true⟩]
def ApY:List COp:=HH ()
def Tj(_:Unit):List COp:=[⟨fun a σ=>.val (a.get 5) σ,some 19,fun _=>some true⟩,
 ⟨fun a σ=>ffield 3 (a.get 2) σ,some 20,fun _=>some true⟩,
 ⟨fun a σ=>fload none (a.get 20) σ,some 21,fun _=>some true⟩,
 ⟨fun a σ=>.val (a.get 6) σ,some 22,fun _=>some true⟩,
 ⟨fun a σ=>findex (none,4) (a.get 21) (a.get 22) σ,some 23,fun _=>some true⟩,
 ⟨fun a σ=>fload (some 4) (a.get 23) σ,some 24,fun _=>some true⟩,
 ⟨fun a σ=>.val (a.get 1) σ,some 25,fun _=>some true⟩,
 ⟨fun a σ=>.val (a.get 5) σ,some 26,fun _=>some true⟩,
 ⟨fun a σ=>i_sub Tryz.prog 3 (.tmp 25) (.tmp 26) (a.get 25) (a.get 26) σ,some 27,fun _=>some true⟩,
 ⟨fun a σ=>.enter 52 [(a.get 24),(a.get 27)] σ,some 28,fun _=>some true⟩,
 ⟨fun a σ=>i_add Tryz.prog 3 (.tmp 19) (.tmp 28) (a.get 19) (a.get 28) σ,some 29,fun _=>some true⟩,
 ⟨fun a σ=>.val (a.get 29) σ,some 5,fun _=>some true⟩]
def Ap0:List COp:=Tj ()
def Ti(_:Unit):List COp:=[⟨fun a σ=>.val (a.get 6) σ,some 17,fun _=>some true⟩,
 ⟨fun a σ=>i_add Tryz.prog 3 (.tmp 17) (.const (.int .i64 1)) (a.get 17) (.int .i64 1) σ,some 18,fun _=>some true⟩,
 ⟨fun a σ=>.val (a.get 18) σ,some 6,fun _=>some true⟩]
def ApZ:List COp:=Ti ()
def Hv(E:Env)(ro:Option Nat)(fn:FuncId):RunF:=(seqR (seqR (fops E ro ApY) (condR (fun a=>(a.get 16)) skipR (exitR 0))) (seqR (blockR 1 (fops E ro Ap0)) (fops E ro ApZ)))
def NJ(_:Unit):List COp:=[⟨fun a σ=>.val (a.get 5) σ,some 30,fun _=>some true⟩,
 ⟨fun a σ=>.val (a.get 30) σ,some 4,fun _=>some true⟩]
def Ap1:List COp:=NJ ()
def WI(E:Env)(ro:Option Nat)(fn:FuncId):RunF:=(seqR (fops E ro ApV) (seqR (fops E ro ApW) (seqR (seqR (fops E ro ApX) (blockR 0 (loopR (keepOf nls fn) (Hv E ro fn)))) (seqR (fops E ro Ap1) retR))))
theorem NE:fops E ro ApV a u σ=fops E ro (ND ()) a u σ:=rfl
theorem NG:fops E ro ApW a u σ=fops E ro (NF ()) a u σ:=rfl
theorem NI:fops E ro ApX a u σ=fops E ro (NH ()) a u σ:=rfl
theorem GA:fops E ro ApY a u σ=fops E ro (HH ()) a u σ:=rfl
theorem V2:fops E ro Ap0 a u σ=fops E ro (Tj ()) a u σ:=rfl
theorem V1:fops E ro ApZ a u σ=fops E ro (Ti ()) a u σ:=rfl
theorem NK:fops E ro Ap1 a u σ=fops E ro (NJ ()) a u σ:=rfl
theorem ArE(E:Env)(ro:Option Nat)(fn:FuncId):code Tryz.prog nls (Tryz.f52.body.getD .skip) E ro fn=WI E ro fn:=by kernel_rfl
theorem QH(E:Env)(args:List Value)(u:Option FrameMode)(σ:FState)(hn:args.length≤(7:Nat)):fcall Tryz.prog nls E 52 args u σ=leaveR Tryz.prog E [.tmp 4] (WI E none 52 ⟨padTo undef 7 args,fun _=>undef,7,31,[]⟩ u σ):=by
 rw[Ao (body:=Tryz.f52.body.getD .skip) Tryz.func52 rfl E args u σ 7 31 (by kernel_rfl) rfl ⟨hn,by decide⟩,ArE]
 rfl
def Fq(_:Unit):List COp:=[⟨fun a σ=>.val (.bool false) σ,some 2,fun _=>some true⟩]
def Ah3:List COp:=Fq ()
def Fs(_:Unit):List COp:=[⟨fun a σ=>.val (a.get 0) σ,some 5,fun _=>some true⟩,
 ⟨fun a σ=>flenS (a.get 5) σ,some 6,fun _=>some true⟩,
 ⟨fun a σ=>i_lss Tryz.prog 3 (.tmp 6) (.const (.int .i64 1)) (a.get 6) (.int .i64 1) σ,some 7,fun _=>some true⟩,
 ⟨fun a σ=>.val (a.get 7) σ,some 8,fun _=>some true⟩,
 ⟨fun a σ=>.val (a.get 0) σ,some 9,fun a=>gd (a.get 8) false⟩,
 ⟨fun a σ=>flenS (a.get 9) σ,some 10,fun a=>gd (a.get 8) false⟩,
 ⟨fun a σ=>i_gtr Tryz.prog 3 (.tmp 10) (.const (.int .i64 20)) (a.get 10) (.int .i64 20) σ,some 11,fun a=>gd (a.get 8) false⟩,
 ⟨fun a σ=>fpick (a.get 8) (.bool true) (a.get 11) σ,some 12,fun _=>some true⟩,
 ⟨fun a σ=>.val (a.get 12) σ,some 13,fun _=>some true⟩,
 ⟨fun a σ=>.val (a.get 0) σ,some 14,fun a=>gd (a.get 13) false⟩,
 ⟨fun a σ=>findexS (a.get 14) (.int .i64 0) σ,some 15,fun a=>gd (a.get 13) false⟩,
 ⟨fun a σ=>.enter 183 [(a.get 15)] σ,some 16,fun a=>gd (a.get 13) false⟩,
 ⟨fun a σ=>fpick (a.get 13) (.bool true) (a.get 16) σ,some 17,fun _=>some true⟩,
 ⟨fun a σ=>.val (a.get 17) σ,some 18,fun _=>some true⟩,
 ⟨fun a σ=>.val (a.get 0) σ,some 19,fun a=>gd (a.get 18) false⟩,
 ⟨fun a σ=>findexS (a.get 19) (.int .i64 0) σ,some 20,fun a=>gd (a.get 18) false⟩,
 ⟨fun a σ=>i_eql Tryz.prog 5 (.tmp 20) (.const (.int .u8 45)) (a.get 20) (.int .u8 45) σ,some 21,fun a=>gd (a.get 18) false⟩,
 ⟨fun a σ=>.val (a.get 21) σ,some 22,fun a=>gd (a.get 18) false⟩,
 ⟨fun a σ=>.val (a.get 0) σ,some 23,fun a=>gd (a.get 22) true⟩,
 ⟨fun a σ=>flenS (a.get 23) σ,some 24,fun a=>gd (a.get 22) true⟩,
 ⟨fun a σ=>i_gtr Tryz.prog 3 (.tmp 24) (.const (.int .i64 1)) (a.get 24) (.int .i64 1) σ,some 25,fun a=>gd (a.get 22) true⟩,
 ⟨fun a σ=>fpick (a.get 22) (a.get 25) (.bool false) σ,some 26,fun a=>gd (a.get 18) false⟩,
 ⟨fun a σ=>.val (a.get 26) σ,some 27,fun a=>gd (a.get 18) false⟩,
 ⟨fun a σ=>.val (a.get 0) σ,some 28,fun a=>gd (a.get 27) true⟩,
 ⟨fun a σ=>findexS (a.get 28) (.int .i64 1) σ,some 29,fun a=>gd (a.get 27) true⟩,
 ⟨fun a σ=>.enter 183 [(a.get 29)] σ,some 30,fun a=>gd (a.get 27) true⟩,
 ⟨fun a σ=>fpick (a.get 27) (a.get 30) (.bool false) σ,some 31,fun a=>gd (a.get 18) false⟩,
 ⟨fun a σ=>fpick (a.get 18) (.bool true) (a.get 31) σ,some 32,fun _=>some true⟩]
def Ah4:List COp:=Fs ()
def Ii(_:Unit):List COp:=[⟨fun a σ=>.val (.bool false) σ,some 2,fun _=>some true⟩]
def Ah5:List COp:=Ii ()
def J0(_:Unit):List COp:=[⟨fun a σ=>.val (.int .i64 0) σ,some 3,fun _=>some true⟩]
def Ah6:List COp:=J0 ()
def Dm(_:Unit):List COp:=[⟨fun a σ=>.val (a.get 3) σ,some 33,fun _=>some true⟩,
 ⟨fun a σ=>.val (a.get 0) σ,some 34,fun _=>some true⟩,
 ⟨fun a σ=>flenS (a.get 34) σ,some 35,fun _=>some true⟩,
 ⟨fun a σ=>i_lss Tryz.prog 3 (.tmp 33) (.tmp 35) (a.get 33) (a.get 35) σ,some 36,fun _=>some true⟩]
def Ah7:List COp:=Dm ()
def Dr(_:Unit):List COp:=[⟨fun a σ=>.val (a.get 0) σ,some 39,fun _=>some true⟩,
 ⟨fun a σ=>.val (a.get 3) σ,some 40,fun _=>some true⟩,
 ⟨fun a σ=>findexS (a.get 39) (a.get 40) σ,some 41,fun _=>some true⟩,
 ⟨fun a σ=>.val (a.get 41) σ,some 4,fun _=>some true⟩]
def Ah9:List COp:=Dr ()
def Dt(_:Unit):List COp:=[⟨fun a σ=>.val (a.get 4) σ,some 42,fun _=>some true⟩,
 ⟨fun a σ=>i_leq Tryz.prog 5 (.const (.int .u8 97)) (.tmp 42) (.int .u8 97) (a.get 42) σ,some 43,fun _=>some true⟩,
 ⟨fun a σ=>.val (a.get 43) σ,some 44,fun _=>some true⟩,
 ⟨fun a σ=>.val (a.get 4) σ,some 45,fun a=>gd (a.get 44) true⟩,
 ⟨fun a σ=>i_leq Tryz.prog 5 (.tmp 45) (.const (.int .u8 122)) (a.get 45) (.int .u8 122) σ,some 46,fun a=>gd (a.get 44) true⟩,
 ⟨fun a σ=>fpick (a.get 44) (a.get 46) (.bool false) σ,some 47,fun _=>some true⟩,
 ⟨fun a σ=>.val (a.get 47) σ,some 48,fun _=>some true⟩,
 ⟨fun a σ=>.val (a.get 4) σ,some 49,fun a=>gd (a.get 48) false⟩,
 ⟨fun a σ=>.enter 183 [(a.get 49)] σ,some 50,fun a=>gd (a.get 48) false⟩,
 ⟨fun a σ=>fpick (a.get 48) (.bool true) (a.get 50) σ,some 51,fun _=>some true⟩]
def Aia:List COp:=Dt ()
def Du(_:Unit):List COp:=[⟨fun a σ=>.val (a.get 4) σ,some 52,fun _=>some true⟩]
def Aib:List COp:=Du ()
def Dv(_:Unit):List COp:=[⟨fun a σ=>i_eql Tryz.prog 5 (.tmp 52) (.const (.int .u8 45)) (a.get 52) (.int .u8 45) σ,some 54,fun _=>some true⟩,
 ⟨fun a σ=>.val (a.get 54) σ,some 53,fun _=>some true⟩]
def Aic:List COp:=Dv ()
def CG(_:Unit):List COp:=[⟨fun a σ=>i_eql Tryz.prog 5 (.tmp 52) (.const (.int .u8 43)) (a.get 52) (.int .u8 43) σ,some 55,fun _=>some true⟩,
 ⟨fun a σ=>.val (a.get 55) σ,some 53,fun _=>some true⟩]
def AaK:List COp:=CG ()
def CH(_:Unit):List COp:=[⟨fun a σ=>i_eql Tryz.prog 5 (.tmp 52) (.const (.int .u8 42)) (a.get 52) (.int .u8 42) σ,some 56,fun _=>some true⟩,
 ⟨fun a σ=>.val (a.get 56) σ,some 53,fun _=>some true⟩]
def AaL:List COp:=CH ()
def CI(_:Unit):List COp:=[⟨fun a σ=>i_eql Tryz.prog 5 (.tmp 52) (.const (.int .u8 47)) (a.get 52) (.int .u8 47) σ,some 57,fun _=>some true⟩,
 ⟨fun a σ=>.val (a.get 57) σ,some 53,fun _=>some true⟩]
def AaM:List COp:=CI ()
def CJ(_:Unit):List COp:=[⟨fun a σ=>i_eql Tryz.prog 5 (.tmp 52) (.const (.int .u8 60)) (a.get 52) (.int .u8 60) σ,some 58,fun _=>some true⟩,
 ⟨fun a σ=>.val (a.get 58) σ,some 53,fun _=>some true⟩]
def AaN:List COp:=CJ ()
def CK(_:Unit):List COp:=[⟨fun a σ=>i_eql Tryz.prog 5 (.tmp 52) (.const (.int .u8 62)) (a.get 52) (.int .u8 62) σ,some 59,fun _=>some true⟩,
 ⟨fun a σ=>.val (a.get 59) σ,some 53,fun _=>some true⟩]
def AaO:List COp:=CK ()
def CL(_:Unit):List COp:=[⟨fun a σ=>i_eql Tryz.prog 5 (.tmp 52) (.const (.int .u8 61)) (a.get 52) (.int .u8 61) σ,some 60,fun _=>some true⟩,
 ⟨fun a σ=>.val (a.get 60) σ,some 53,fun _=>some true⟩]
def AaP:List COp:=CL ()
def CM(_:Unit):List COp:=[⟨fun a σ=>i_eql Tryz.prog 5 (.tmp 52) (.const (.int .u8 63)) (a.get 52) (.int .u8 63) σ,some 61,fun _=>some true⟩,
 ⟨fun a σ=>.val (a.get 61) σ,some 53,fun _=>some true⟩]
def AaQ:List COp:=CM ()
def CN(_:Unit):List COp:=[⟨fun a σ=>i_eql Tryz.prog 5 (.tmp 52) (.const (.int .u8 33)) (a.get 52) (.int .u8 33) σ,some 62,fun _=>some true⟩,
 ⟨fun a σ=>.val (a.get 62) σ,some 53,fun _=>some true⟩]
def AaR:List COp:=CN ()
def CO(_:Unit):List COp:=[⟨fun a σ=>.val (.bool false) σ,some 2,fun _=>some true⟩]
def AaS:List COp:=CO ()
def Dq(_:Unit):List COp:=[⟨fun a σ=>.val (a.get 3) σ,some 37,fun _=>some true⟩,
 ⟨fun a σ=>i_add Tryz.prog 3 (.tmp 37) (.const (.int .i64 1)) (a.get 37) (.int .i64 1) σ,some 38,fun _=>some true⟩,
 ⟨fun a σ=>.val (a.get 38) σ,some 3,fun _=>some true⟩]
def Ah8:List COp:=Dq ()
def Gd(E:Env)(ro:Option Nat)(fn:FuncId):RunF:=(seqR (seqR (fops E ro Ah7) (condR (fun a=>(a.get 36)) skipR (exitR 0))) (seqR (blockR 1 (seqR (fops E ro Ah9) (seqR (seqR (fops E ro Aia) (condR (fun a=>(a.get 51)) (exitR 1) skipR)) (seqR (seqR (fops E ro Aib) (blockR 2 (seqR (seqR (fops E ro Aic) (condR (fun a=>(a.get 53)) skipR (seqR (fops E ro AaK) (condR (fun a=>(a.get 53)) skipR (seqR (fops E ro AaL) (condR (fun a=>(a.get 53)) skipR (seqR (fops E ro AaM) (condR (fun a=>(a.get 53)) skipR (seqR (fops E ro AaN) (condR (fun a=>(a.get 53)) skipR (seqR (fops E ro AaO) (condR (fun a=>(a.get 53)) skipR (seqR (fops E ro AaP) (condR (fun a=>(a.get 53)) skipR (seqR (fops E ro AaQ) (condR (fun a=>(a.get 53)) skipR (fops E ro AaR))))))))))))))))) (condR (fun a=>(a.get 53)) (exitR 1) skipR)))) (seqR (fops E ro AaS) retR))))) (fops E ro Ah8)))
def HE(_:Unit):List COp:=[⟨fun a σ=>.val (.bool true) σ,some 2,fun _=>some true⟩]
def AaT:List COp:=HE ()
def ZM(E:Env)(ro:Option Nat)(fn:FuncId):RunF:=(seqR (fops E ro Ah3) (seqR (seqR (fops E ro Ah4) (condR (fun a=>(a.get 32)) (seqR (fops E ro Ah5) retR) skipR)) (seqR (seqR (fops E ro Ah6) (blockR 0 (loopR (keepOf nls fn) (Gd E ro fn)))) (seqR (fops E ro AaT) retR))))
theorem EZ:fops E ro Ah3 a u σ=fops E ro (Fq ()) a u σ:=rfl
theorem E0:fops E ro Ah4 a u σ=fops E ro (Fs ()) a u σ:=rfl
theorem Ij:fops E ro Ah5 a u σ=fops E ro (Ii ()) a u σ:=rfl
theorem KG:fops E ro Ah6 a u σ=fops E ro (J0 ()) a u σ:=rfl
theorem Ch:fops E ro Ah7 a u σ=fops E ro (Dm ()) a u σ:=rfl
theorem CC:fops E ro Ah9 a u σ=fops E ro (Dr ()) a u σ:=rfl
theorem CD:fops E ro Aia a u σ=fops E ro (Dt ()) a u σ:=rfl
theorem CE:fops E ro Aib a u σ=fops E ro (Du ()) a u σ:=rfl
theorem CF:fops E ro Aic a u σ=fops E ro (Dv ()) a u σ:=rfl
theorem BL:fops E ro AaK a u σ=fops E ro (CG ()) a u σ:=rfl
theorem BM:fops E ro AaL a u σ=fops E ro (CH ()) a u σ:=rfl
theorem BN:fops E ro AaM a u σ=fops E ro (CI ()) a u σ:=rfl
theorem BO:fops E ro AaN a u σ=fops E ro (CJ ()) a u σ:=rfl
theorem BP:fops E ro AaO a u σ=fops E ro (CK ()) a u σ:=rfl
theorem BQ:fops E ro AaP a u σ=fops E ro (CL ()) a u σ:=rfl
theorem BR:fops E ro AaQ a u σ=fops E ro (CM ()) a u σ:=rfl
theorem BS:fops E ro AaR a u σ=fops E ro (CN ()) a u σ:=rfl
theorem BT:fops E ro AaS a u σ=fops E ro (CO ()) a u σ:=rfl
theorem CB:fops E ro Ah8 a u σ=fops E ro (Dq ()) a u σ:=rfl
theorem Jg:fops E ro AaT a u σ=fops E ro (HE ()) a u σ:=rfl
theorem AmM(E:Env)(ro:Option Nat)(fn:FuncId):code Tryz.prog nls (Tryz.f158.body.getD .skip) E ro fn=ZM E ro fn:=by kernel_rfl
theorem AeS(E:Env)(args:List Value)(u:Option FrameMode)(σ:FState)(hn:args.length≤(5:Nat)):fcall Tryz.prog nls E 158 args u σ=leaveR Tryz.prog E [.tmp 2] (ZM E none 158 ⟨padTo undef 5 args,fun _=>undef,5,63,[]⟩ u σ):=by
 rw[Ao (body:=Tryz.f158.body.getD .skip) Tryz.func158 rfl E args u σ 5 63 (by kernel_rfl) rfl ⟨hn,by decide⟩,AmM]
 rfl
def Ma(_:Unit):List COp:=[⟨fun a σ=>.val (.int .i64 0) σ,some 2,fun _=>some true⟩]
def Aid:List COp:=Ma ()
def Mb(_:Unit):List COp:=[⟨fun a σ=>.val (a.get 0) σ,some 4,fun _=>some true⟩,
 ⟨fun a σ=>flenS (a.get 4) σ,some 5,fun _=>some true⟩,
 ⟨fun a σ=>i_gtr Tryz.prog 3 (.tmp 5) (.const (.int .i64 60)) (a.get 5) (.int .i64 60) σ,some 6,fun _=>some true⟩]
def Aie:List COp:=Mb ()
def Sh(_:Unit):List COp:=[⟨fun a σ=>.val (.int .i64 8) σ,some 2,fun _=>some true⟩]
def Aif:List COp:=Sh ()
def Si(_:Unit):List COp:=[⟨fun a σ=>.val (.int .i64 0) σ,some 3,fun _=>some true⟩]
def Aig:List COp:=Si ()
def Ik(_:Unit):List COp:=[⟨fun a σ=>.val (a.get 3) σ,some 7,fun _=>some true⟩,
 ⟨fun a σ=>.val (a.get 0) σ,some 8,fun _=>some true⟩,
 ⟨fun a σ=>flenS (a.get 8) σ,some 9,fun _=>some true⟩,
 ⟨fun a σ=>i_lss Tryz.prog 3 (.tmp 7) (.tmp 9) (a.get 7) (a.get 9) σ,some 10,fun _=>some true⟩]
def Aih:List COp:=Ik ()
def J2(_:Unit):List COp:=[⟨fun a σ=>.val (a.get 0) σ,some 13,fun _=>some true⟩,
 ⟨fun a σ=>.val (a.get 3) σ,some 14,fun _=>some true⟩,
 ⟨fun a σ=>findexS (a.get 13) (a.get 14) σ,some 15,fun _=>some true⟩,
 ⟨fun a σ=>i_lss Tryz.prog 5 (.tmp 15) (.const (.int .u8 32)) (a.get 15) (.int .u8 32) σ,some 16,fun _=>some true⟩,
 ⟨fun a σ=>.val (a.get 16) σ,some 17,fun _=>some true⟩,
 ⟨fun a σ=>.val (a.get 0) σ,some 18,fun a=>gd (a.get 17) false⟩,
 ⟨fun a σ=>.val (a.get 3) σ,some 19,fun a=>gd (a.get 17) false⟩,
 ⟨fun a σ=>findexS (a.get 18) (a.get 19) σ,some 20,fun a=>gd (a.get 17) false⟩,
 ⟨fun a σ=>i_gtr Tryz.prog 5 (.tmp 20) (.const (.int .u8 126)) (a.get 20) (.int .u8 126) σ,some 21,fun a=>gd (a.get 17) false⟩,
 ⟨fun a σ=>fpick (a.get 17) (.bool true) (a.get 21) σ,some 22,fun _=>some true⟩]
def Aij:List COp:=J2 ()
def J3(_:Unit):List COp:=[⟨fun a σ=>.val (.int .i64 13) σ,some 2,fun _=>some true⟩]
def Aik:List COp:=J3 ()
def J1(_:Unit):List COp:=[⟨fun a σ=>.val (a.get 3) σ,some 11,fun _=>some true⟩,
 ⟨fun a σ=>i_add Tryz.prog 3 (.tmp 11) (.const (.int .i64 1)) (a.get 11) (.int .i64 1) σ,some 12,fun _=>some true⟩,
 ⟨fun a σ=>.val (a.get 12) σ,some 3,fun _=>some true⟩]
def Aii:List COp:=J1 ()
def Ht(E:Env)(ro:Option Nat)(fn:FuncId):RunF:=(seqR (seqR (fops E ro Aih) (condR (fun a=>(a.get 10)) skipR (exitR 0))) (seqR (blockR 1 (seqR (fops E ro Aij) (condR (fun a=>(a.get 22)) (seqR (fops E ro Aik) retR) skipR))) (fops E ro Aii)))
def Sj(_:Unit):List COp:=[⟨fun a σ=>.val (.int .i64 0) σ,some 2,fun _=>some true⟩]
def Ail:List COp:=Sj ()
def ZN(E:Env)(ro:Option Nat)(fn:FuncId):RunF:=(seqR (fops E ro Aid) (seqR (seqR (fops E ro Aie) (condR (fun a=>(a.get 6)) (seqR (fops E ro Aif) retR) skipR)) (seqR (seqR (fops E ro Aig) (blockR 0 (loopR (keepOf nls fn) (Ht E ro fn)))) (seqR (fops E ro Ail) retR))))
theorem P6:fops E ro Aid a u σ=fops E ro (Ma ()) a u σ:=rfl
theorem P7:fops E ro Aie a u σ=fops E ro (Mb ()) a u σ:=rfl
theorem Ac6:fops E ro Aif a u σ=fops E ro (Sh ()) a u σ:=rfl
theorem Ac7:fops E ro Aig a u σ=fops E ro (Si ()) a u σ:=rfl
theorem Il:fops E ro Aih a u σ=fops E ro (Ik ()) a u σ:=rfl
theorem KI:fops E ro Aij a u σ=fops E ro (J2 ()) a u σ:=rfl
theorem KJ:fops E ro Aik a u σ=fops E ro (J3 ()) a u σ:=rfl
theorem KH:fops E ro Aii a u σ=fops E ro (J1 ()) a u σ:=rfl
theorem Ac8:fops E ro Ail a u σ=fops E ro (Sj ()) a u σ:=rfl
theorem AmN(E:Env)(ro:Option Nat)(fn:FuncId):code Tryz.prog nls (Tryz.f159.body.getD .skip) E ro fn=ZN E ro fn:=by kernel_rfl
theorem AeT(E:Env)(args:List Value)(u:Option FrameMode)(σ:FState)(hn:args.length≤(4:Nat)):fcall Tryz.prog nls E 159 args u σ=leaveR Tryz.prog E [.tmp 2] (ZN E none 159 ⟨padTo undef 4 args,fun _=>undef,4,23,[]⟩ u σ):=by
 rw[Ao (body:=Tryz.f159.body.getD .skip) Tryz.func159 rfl E args u σ 4 23 (by kernel_rfl) rfl ⟨hn,by decide⟩,AmN]
 rfl
end Go.Proofs.YtokieofohmgjdaaGreatDoor
namespace Go.Proofs.YtokieofohmgjdaaGreatDoor
open Go Go.Eng
attribute [local congr] Ab Ah Af Ad Ae
attribute [-go_sem] List.range_succ
inductive Whole:Int→Int→ByteArray→Nat→Prop
 | nil:Whole 0 0 ⟨#[]⟩ 0
 | bool (z:Int) (h:0≤z∧z≤1):Whole 1 z ⟨#[]⟩ 0
 | num (z:Int) (h : -999999999≤z∧z≤999999999):Whole 2 z ⟨#[]⟩ 0
 | sym (t:ByteArray) (h:t∈symTexts):Whole 3 0 t 0
 | str (t:ByteArray) (h:t∈strTexts):Whole 4 0 t 0
 | pair:Whole 5 0 ⟨#[]⟩ 2
 | vec (l:Nat):Whole 6 0 ⟨#[]⟩ l
end Go.Proofs.YtokieofohmgjdaaGreatDoor
namespace Go.Proofs.YtokieofohmgjdaaGreatDoor
open Go Go.Eng
attribute [local congr] Ab Ah Af Ad Ae
attribute [-go_sem] List.range_succ
def WholeD:D→Prop
 | .mk k z t ds=>Whole k z t ds.length
end Go.Proofs.YtokieofohmgjdaaGreatDoor
namespace Go.Proofs.YtokieofohmgjdaaGreatDoor
open Go Go.Eng
attribute [local congr] Ab Ah Af Ad Ae
attribute [-go_sem] List.range_succ
theorem Js(ds:List D)(i:Nat)(d:D)(h:ds[i]? = some d):D.counts (ds.take (i+1))=D.counts (ds.take i)+d.count:=by
 rw[List.take_add_one,h,Gb]
 simp[D.counts]
theorem EN:∀(ds:List D) (i:Nat),D.counts (ds.take i)≤D.counts ds
 | [],i=>by simp
 | d::ds,0=>by simp[D.counts]
 | d::ds,i+1=>by
  rw[List.take_succ_cons,D.counts,D.counts]
  have:=EN ds i
  omega
def KPs(m:Nat)(R:Nat→Prop)(d:D):Prop:=∀(v:Value) (mx:Nat) (σ':FState),Wf σ'→LaidR R σ' v d→d.count≤mx→mx≤100000→Gives ((env m).call 52 [v,.int .i64 (.ofNat mx)] none σ') σ' fun r _=>r=.int .i64 (.ofNat d.count)
theorem AnF(m:Nat)(R:Nat→Prop)(ds:List D)(p:Option Addr)(c bx mx:Nat)(k z:Int)(t:ByteArray)(hmx:1+D.counts ds≤mx)(hmx2:mx≤100000)(hds:ds.length<1000000)(hO:∀(i:Nat) (d:D),ds[i]? = some d→KPs m R d):
  ∀(j fuel i:Nat) (f g:Nat→Value) (σ:FState),ds.length-i=j→j<fuel→i≤ds.length→Wf σ→LaidRE R σ p 0 ds→σ.cells bx=some [.int .i64 k,.int .i64 z,.string t,.slice p ds.length c]→f 2=.pointer (some ⟨bx,0,none⟩)→f 1=.int .i64 (.ofNat mx)→f 5=.int .i64 (.ofNat (1+D.counts (ds.take i)))→f 6=.int .i64 (.ofNat i)→
   ∃f' g' σ',floop [30] (Hv (env m) none 52) fuel (Sl 7 31 f g []) none σ=.done (.exit 0) (Sl 7 31 f' g' []) none σ'∧Ext σ σ'∧Wf σ'∧f' 5=.int .i64 (.ofNat (1+D.counts ds)):=by
 intro j
 induction j with
 | zero=>
  intro fuel i f g σ hj hf hi hw hE hc f2 f1 f5 f6
  obtain⟨fuel,rfl⟩:∃q,fuel=q+1:=⟨fuel-1,by omega⟩
  obtain rfl:i=ds.length:=by omega
  have d0:decide (Int.ofNat ds.length<Int.ofNat ds.length)=false:=by simp
  rw[Ar]
  unfold Hv
  simp -implicitDefEqProofs only[go_sem,GA,HH,f2,f6,hc,d0]
  exact⟨_,_,_,rfl,Ext.refl _,hw,by rw[f5,List.take_length]⟩
 | succ j ih=>
  intro fuel i f g σ hj hf hi hw hE hc f2 f1 f5 f6
  obtain⟨fuel,rfl⟩:∃q,fuel=q+1:=⟨fuel-1,by omega⟩
  have hlt:i<ds.length:=by omega
  have d0:decide (Int.ofNat i<Int.ofNat ds.length)=true:=by simp;omega
  have hd:ds[i]? = some ds[i]:=List.getElem?_eq_getElem hlt
  have ht1:=Js ds i ds[i] hd
  have ht2:=EN ds (i+1)
  have ht3:=EN ds i
  have d1:decide (Int.ofNat (1+D.counts (ds.take i))≤Int.ofNat mx)=true:=by simp only[Int.ofNat_eq_natCast,decide_eq_true_eq];omega
  obtain⟨b,off,cs,rfl,hRb,hcs,hle,hL⟩:=LaidRE.get hE hd
  rw[Nat.zero_add] at hle hL
  obtain⟨_,σ3,e3,x3,hw3,rfl⟩:=hO i ds[i] hd _ (mx-(1+D.counts (ds.take i))) σ hw hL (by omega) (by omega)
  have a1:=GH i (by omega)
  have s1:wrapI (Int.ofNat mx-Int.ofNat (1+D.counts (ds.take i)))=Int.ofNat (mx-(1+D.counts (ds.take i))):=by
   simp only[Int.ofNat_eq_natCast]
   rw[Dk (by omega)]
   omega
  have s2:wrapI (Int.ofNat (1+D.counts (ds.take i))+Int.ofNat ds[i].count)=Int.ofNat (1+D.counts (ds.take (i+1))):=by
   simp only[Int.ofNat_eq_natCast]
   rw[Dk (by omega)]
   omega
  have ih':=fun f g h2 h1 h5 h6=>ih fuel (i+1) f g σ3 (by omega) (by omega) (by omega) hw3 (hE.keep fun b cs hb hc=>⟨(x3.cells (hw.cells hc)).trans hc,hb⟩) ((x3.cells (hw.cells hc)).trans hc) h2 h1 h5 h6
  unfold Hv at ih'
  rw[Ar]
  unfold Hv
  generalize hq:1+D.counts (ds.take i)=q at *
  generalize hq2:1+D.counts (ds.take (i+1))=q2 at *
  simp -implicitDefEqProofs only[go_sem,GA,HH,V1,Ti,V2,Tj,f1,f2,f5,f6,hc,d0,d1,hlt,hcs,hle,e3,s1,s2,a1,Ag]
  generalize hff:upd _ 6 _=f2'
  generalize hgg:upd _ 18 _=g2
  obtain⟨f3,g3,σ4,e4,x4,hw4,r5⟩:=ih' f2' g2 (by rw[←hff];simp -implicitDefEqProofs only[go_sem,reduceCtorEq,f2]) (by rw[←hff];simp -implicitDefEqProofs only[go_sem,reduceCtorEq,f1]) (by rw[←hff];simp -implicitDefEqProofs only[go_sem,reduceCtorEq]) (by rw[←hff];simp -implicitDefEqProofs only[go_sem,reduceCtorEq])
  exact⟨f3,g3,σ4,e4,x3.trans x4,hw4,r5⟩
theorem Q0(n:Nat)(R:Nat→Prop):∀(N:Nat) (d:D),d.deep≤N→KPs (n+N) R d:=by
 intro N
 induction N with
 | zero=>
  intro d hN
  obtain⟨k,z,t,ds⟩:=d
  rw[D.deep] at hN
  omega
 | succ N ih=>
  intro d hN v mx σ hw hL hcm hmx
  obtain⟨k,z,t,ds⟩:=d
  obtain⟨p,c,rfl,hE⟩:=hL
  obtain⟨M,hM⟩:∃M,n+N=M:=⟨_,rfl⟩
  rw[hM] at ih
  have hcd:(D.mk k z t ds).count=1+D.counts ds:=by rw[D.count];omega
  have hdl:ds.length<1000000:=by
   have:=Hz ds [] 0
   rw[FM] at this
   omega
  rw[show n+(N+1)=M+1 by omega,Ak _ 52 _ _ rfl,QH _ _ _ _ (by simp),Aj]
  unfold WI
  have x1:Ext σ (σ.push (.cells [.int .i64 k,.int .i64 z,.string t,.slice p ds.length c] TD) none):=(Ext.refl _).push _ _
  have hw1:=hw.push (.cells [.int .i64 k,.int .i64 z,.string t,.slice p ds.length c] TD) none
  have c1:(σ.push (.cells [.int .i64 k,.int .i64 z,.string t,.slice p ds.length c] TD) none).cells σ.next=some [.int .i64 k,.int .i64 z,.string t,.slice p ds.length c]:=by rw[Ac,if_pos rfl];rfl
  have hkeep:keepOf nls 52=[30]:=by kernel_rfl
  have lp:=fun fuel f g hf h2 h1 h5 h6=>AnF M R ds p c σ.next mx k z t (by omega) hmx hdl (fun i d hdi=>ih d (by rw[D.deep] at hN;have:=Eo (List.mem_of_getElem? hdi);omega))
   ds.length fuel 0 f g _ (by omega) hf (by omega) hw1 (hE.keep fun b cs hb hc=>⟨(x1.cells (hw.cells hc)).trans hc,hb⟩) c1 h2 h1 h5 h6
  simp -implicitDefEqProofs only[go_sem,NE,ND,NG,NF,NI,NH,Ag,hkeep]
  generalize hbf:bigFuel=fuel
  generalize hff:upd _ 6 _=f1
  obtain⟨f',g',σ3,e3,x3,hw3,r5⟩:=lp fuel f1 (fun _=>undef) (by rw[←hbf];show ds.length<1000000000000;omega) (by rw[←hff];simp -implicitDefEqProofs only[go_sem,reduceCtorEq]) (by rw[←hff];simp -implicitDefEqProofs only[go_sem,reduceCtorEq]) (by rw[←hff];simp -implicitDefEqProofs only[go_sem,reduceCtorEq]<;>rfl) (by rw[←hff];simp -implicitDefEqProofs only[go_sem,reduceCtorEq]<;>rfl)
  rw[e3]
  simp -implicitDefEqProofs only[go_sem,NK,NJ,r5]
  exact⟨_,_,rfl,x1.trans x3,hw3,by rw[hcd]⟩
end Go.Proofs.YtokieofohmgjdaaGreatDoor
namespace Go.Proofs.YtokieofohmgjdaaGreatDoor
open Go Go.Eng
attribute [local congr] Ab Ah Af Ad Ae
attribute [-go_sem] List.range_succ
theorem Pd(d:D):1≤d.count:=by
 cases d
 rw[D.count]
 omega
theorem EU:∀ds:List D,ds.length≤D.counts ds
 | []=>by simp
 | d::ds=>by
  rw[D.counts,List.length_cons]
  have:=Pd d
  have:=EU ds
  omega
def KPm(m mx:Nat)(R:Nat→Prop)(d:D):Prop:=∀(v:Value) (σ':FState),Wf σ'→LaidR R σ' v d→Gives ((env m).call 52 [v,.int .i64 (.ofNat mx)] none σ') σ' fun r _=>r=.int .i64 (.ofNat (min d.count (mx+1)))
theorem Vr(m:Nat)(R:Nat→Prop)(ds:List D)(p:Option Addr)(c bx mx:Nat)(k z:Int)(t:ByteArray)(fuel i:Nat)(f g:Nat→Value)(σ:FState)(hbig:mx≤D.counts (ds.take i))(hi:i≤ds.length)(hw:Wf σ)(hE:LaidRE R σ p 0 ds)(hc:σ.cells bx=some [.int .i64 k,.int .i64 z,.string t,.slice p ds.length c])(f2:f 2=.pointer (some ⟨bx,0,none⟩))(f1:f 1=.int .i64 (.ofNat mx))(f5:f 5=.int .i64 (.ofNat (min (1+D.counts (ds.take i)) (mx+1))))(f6:f 6=.int .i64 (.ofNat i)):
  ∃f' g' σ',floop [30] (Hv (env m) none 52) (fuel+1) (Sl 7 31 f g []) none σ=.done (.exit 0) (Sl 7 31 f' g' []) none σ'∧Ext σ σ'∧Wf σ'∧f' 5=.int .i64 (.ofNat (min (1+D.counts ds) (mx+1))):=by
 have h3:=EN ds i
 have e0:min (1+D.counts (ds.take i)) (mx+1)=mx+1:=by omega
 have e1:min (1+D.counts ds) (mx+1)=mx+1:=by omega
 rw[e0] at f5
 rw[e1]
 have d1:decide (Int.ofNat (mx+1)≤Int.ofNat mx)=false:=by simp only[Int.ofNat_eq_natCast,decide_eq_false_iff_not];omega
 rw[Ar]
 unfold Hv
 by_cases hlt:i<ds.length
 ·have d0:decide (Int.ofNat i<Int.ofNat ds.length)=true:=by simp;omega
  simp -implicitDefEqProofs only[go_sem,GA,HH,f1,f2,f5,f6,hc,d0,d1]
  exact⟨_,_,_,rfl,Ext.refl _,hw,f5⟩
 ·have d0:decide (Int.ofNat i<Int.ofNat ds.length)=false:=by simp;omega
  simp -implicitDefEqProofs only[go_sem,GA,HH,f1,f2,f5,f6,hc,d0]
  exact⟨_,_,_,rfl,Ext.refl _,hw,f5⟩
theorem Vq(m:Nat)(R:Nat→Prop)(ds:List D)(p:Option Addr)(c bx mx:Nat)(k z:Int)(t:ByteArray)(hmx2:mx≤100000)(hO:∀(d:D) (mx':Nat),mx'<mx→KPm m mx' R d):
  ∀(j fuel i:Nat) (f g:Nat→Value) (σ:FState),mx+1-min (1+D.counts (ds.take i)) (mx+1)≤j→j<fuel→i≤ds.length→Wf σ→LaidRE R σ p 0 ds→σ.cells bx=some [.int .i64 k,.int .i64 z,.string t,.slice p ds.length c]→f 2=.pointer (some ⟨bx,0,none⟩)→f 1=.int .i64 (.ofNat mx)→f 5=.int .i64 (.ofNat (min (1+D.counts (ds.take i)) (mx+1)))→f 6=.int .i64 (.ofNat i)→
   ∃f' g' σ',floop [30] (Hv (env m) none 52) fuel (Sl 7 31 f g []) none σ=.done (.exit 0) (Sl 7 31 f' g' []) none σ'∧Ext σ σ'∧Wf σ'∧f' 5=.int .i64 (.ofNat (min (1+D.counts ds) (mx+1))):=by
 intro j
 induction j with
 | zero=>
  intro fuel i f g σ hj hf hi hw hE hc f2 f1 f5 f6
  obtain⟨fuel,rfl⟩:∃q,fuel=q+1:=⟨fuel-1,by omega⟩
  exact Vr m R ds p c bx mx k z t fuel i f g σ (by omega) hi hw hE hc f2 f1 f5 f6
 | succ j ih=>
  intro fuel i f g σ hj hf hi hw hE hc f2 f1 f5 f6
  obtain⟨fuel,rfl⟩:∃q,fuel=q+1:=⟨fuel-1,by omega⟩
  by_cases hbig:mx≤D.counts (ds.take i)
  ·exact Vr m R ds p c bx mx k z t fuel i f g σ hbig hi hw hE hc f2 f1 f5 f6
  have e0:min (1+D.counts (ds.take i)) (mx+1)=1+D.counts (ds.take i):=by omega
  rw[e0] at f5
  by_cases hlt:i<ds.length
  ·have d0:decide (Int.ofNat i<Int.ofNat ds.length)=true:=by simp;omega
   have hd:ds[i]? = some ds[i]:=List.getElem?_eq_getElem hlt
   have ht1:=Js ds i ds[i] hd
   have hpos:=Pd ds[i]
   have hge:=EU (ds.take i)
   rw[List.length_take] at hge
   have d1:decide (Int.ofNat (1+D.counts (ds.take i))≤Int.ofNat mx)=true:=by simp only[Int.ofNat_eq_natCast,decide_eq_true_eq];omega
   obtain⟨b,off,cs,rfl,hRb,hcs,hle,hL⟩:=LaidRE.get hE hd
   rw[Nat.zero_add] at hle hL
   obtain⟨_,σ3,e3,x3,hw3,rfl⟩:=hO ds[i] (mx-(1+D.counts (ds.take i))) (by omega) _ σ hw hL
   have a1:=GH i (by omega)
   have s1:wrapI (Int.ofNat mx-Int.ofNat (1+D.counts (ds.take i)))=Int.ofNat (mx-(1+D.counts (ds.take i))):=by
    simp only[Int.ofNat_eq_natCast]
    rw[Dk (by omega)]
    omega
   have s2:wrapI (Int.ofNat (1+D.counts (ds.take i))+Int.ofNat (min ds[i].count (mx-(1+D.counts (ds.take i))+1)))=Int.ofNat (min (1+D.counts (ds.take (i+1))) (mx+1)):=by
    simp only[Int.ofNat_eq_natCast]
    rw[Dk (by omega)]
    omega
   have ih':=fun f g h2 h1 h5 h6=>ih fuel (i+1) f g σ3 (by omega) (by omega) (by omega) hw3 (hE.keep fun b cs hb hc=>⟨(x3.cells (hw.cells hc)).trans hc,hb⟩) ((x3.cells (hw.cells hc)).trans hc) h2 h1 h5 h6
   unfold Hv at ih'
   rw[Ar]
   unfold Hv
   generalize hq:1+D.counts (ds.take i)=q at *
   generalize hq2:min (1+D.counts (ds.take (i+1))) (mx+1)=q2 at *
   generalize hq3:min ds[i].count (mx-q+1)=q3 at *
   simp -implicitDefEqProofs only[go_sem,GA,HH,V1,Ti,V2,Tj,f1,f2,f5,f6,hc,d0,d1,hlt,hcs,hle,e3,s1,s2,a1,Ag]
   generalize hff:upd _ 6 _=f2'
   generalize hgg:upd _ 18 _=g2
   obtain⟨f3,g3,σ4,e4,x4,hw4,r5⟩:=ih' f2' g2 (by rw[←hff];simp -implicitDefEqProofs only[go_sem,reduceCtorEq,f2]) (by rw[←hff];simp -implicitDefEqProofs only[go_sem,reduceCtorEq,f1]) (by rw[←hff];simp -implicitDefEqProofs only[go_sem,reduceCtorEq]) (by rw[←hff];simp -implicitDefEqProofs only[go_sem,reduceCtorEq])
   exact⟨f3,g3,σ4,e4,x3.trans x4,hw4,r5⟩
  ·obtain rfl:i=ds.length:=by omega
   rw[List.take_length] at e0 f5
   rw[e0]
   have d0:decide (Int.ofNat ds.length<Int.ofNat ds.length)=false:=by simp
   rw[Ar]
   unfold Hv
   simp -implicitDefEqProofs only[go_sem,GA,HH,f2,f6,hc,d0]
   exact⟨_,_,_,rfl,Ext.refl _,hw,f5⟩
theorem Afd(n:Nat)(R:Nat→Prop):∀(N mx:Nat) (d:D),mx≤N→N≤100000→KPm (n+N+1) mx R d:=by
 intro N
 induction N with
 | zero=>
  intro mx d hN hN2 v σ hw hL
  obtain⟨k,z,t,ds⟩:=d
  obtain⟨p,c,rfl,hE⟩:=hL
  have hcd:(D.mk k z t ds).count=1+D.counts ds:=by rw[D.count];omega
  obtain rfl:mx=0:=by omega
  rw[show n+0+1=n+1 by omega,Ak _ 52 _ _ rfl,QH _ _ _ _ (by simp),Aj]
  unfold WI
  have x1:Ext σ (σ.push (.cells [.int .i64 k,.int .i64 z,.string t,.slice p ds.length c] TD) none):=(Ext.refl _).push _ _
  have hw1:=hw.push (.cells [.int .i64 k,.int .i64 z,.string t,.slice p ds.length c] TD) none
  have c1:(σ.push (.cells [.int .i64 k,.int .i64 z,.string t,.slice p ds.length c] TD) none).cells σ.next=some [.int .i64 k,.int .i64 z,.string t,.slice p ds.length c]:=by rw[Ac,if_pos rfl];rfl
  have hkeep:keepOf nls 52=[30]:=by kernel_rfl
  have lp:=fun fuel f g hf h2 h1 h5 h6=>Vq n R ds p c σ.next 0 k z t (by omega) (fun d mx' h=>by omega)
   0 fuel 0 f g _ (by omega) hf (by omega) hw1 (hE.keep fun b cs hb hc=>⟨(x1.cells (hw.cells hc)).trans hc,hb⟩) c1 h2 h1 h5 h6
  simp -implicitDefEqProofs only[go_sem,NE,ND,NG,NF,NI,NH,Ag,hkeep]
  generalize hbf:bigFuel=fuel
  generalize hff:upd _ 6 _=f1
  obtain⟨f',g',σ3,e3,x3,hw3,r5⟩:=lp fuel f1 (fun _=>undef) (by rw[←hbf];show 0<1000000000000;omega) (by rw[←hff];simp -implicitDefEqProofs only[go_sem,reduceCtorEq]) (by rw[←hff];simp -implicitDefEqProofs only[go_sem,reduceCtorEq]<;>rfl) (by rw[←hff];simp -implicitDefEqProofs only[go_sem,reduceCtorEq]<;>rfl) (by rw[←hff];simp -implicitDefEqProofs only[go_sem,reduceCtorEq]<;>rfl)
  rw[e3]
  simp -implicitDefEqProofs only[go_sem,NK,NJ,r5]
  exact⟨_,_,rfl,x1.trans x3,hw3,by rw[hcd]⟩
 | succ N ih=>
  intro mx d hN hN2 v σ hw hL
  obtain⟨k,z,t,ds⟩:=d
  obtain⟨p,c,rfl,hE⟩:=hL
  obtain⟨M,hM⟩:∃M,n+N+1=M:=⟨_,rfl⟩
  rw[hM] at ih
  have hcd:(D.mk k z t ds).count=1+D.counts ds:=by rw[D.count];omega
  rw[show n+(N+1)+1=M+1 by omega,Ak _ 52 _ _ rfl,QH _ _ _ _ (by simp),Aj]
  unfold WI
  have x1:Ext σ (σ.push (.cells [.int .i64 k,.int .i64 z,.string t,.slice p ds.length c] TD) none):=(Ext.refl _).push _ _
  have hw1:=hw.push (.cells [.int .i64 k,.int .i64 z,.string t,.slice p ds.length c] TD) none
  have c1:(σ.push (.cells [.int .i64 k,.int .i64 z,.string t,.slice p ds.length c] TD) none).cells σ.next=some [.int .i64 k,.int .i64 z,.string t,.slice p ds.length c]:=by rw[Ac,if_pos rfl];rfl
  have hkeep:keepOf nls 52=[30]:=by kernel_rfl
  have lp:=fun fuel f g hf h2 h1 h5 h6=>Vq M R ds p c σ.next mx k z t (by omega) (fun d mx' h=>ih mx' d (by omega) (by omega))
   mx fuel 0 f g _ (by simp[D.counts]) hf (by omega) hw1 (hE.keep fun b cs hb hc=>⟨(x1.cells (hw.cells hc)).trans hc,hb⟩) c1 h2 h1 h5 h6
  simp -implicitDefEqProofs only[go_sem,NE,ND,NG,NF,NI,NH,Ag,hkeep]
  generalize hbf:bigFuel=fuel
  generalize hff:upd _ 6 _=f1
  obtain⟨f',g',σ3,e3,x3,hw3,r5⟩:=lp fuel f1 (fun _=>undef) (by rw[←hbf];show mx<1000000000000;omega) (by rw[←hff];simp -implicitDefEqProofs only[go_sem,reduceCtorEq]) (by rw[←hff];simp -implicitDefEqProofs only[go_sem,reduceCtorEq]) (by rw[←hff];simp -implicitDefEqProofs only[go_sem,reduceCtorEq,List.take_zero,D.counts,Nat.add_zero];rw[show min 1 (mx+1)=1 by omega];rfl) (by rw[←hff];simp -implicitDefEqProofs only[go_sem,reduceCtorEq]<;>rfl)
  rw[e3]
  simp -implicitDefEqProofs only[go_sem,NK,NJ,r5]
  exact⟨_,_,rfl,x1.trans x3,hw3,by rw[hcd]⟩
end Go.Proofs.YtokieofohmgjdaaGreatDoor
namespace Go.Proofs.YtokieofohmgjdaaGreatDoor
open Go Go.Eng
variable (E:Env) (ro:Option Nat) (last:List Nat→RunF) (cl:List Nat) (a:FAct) (u:Option FrameMode) (σ:FState)
def Aa3(_:Unit):List COp:=[⟨fun a σ=>fbox 24 (a.get 0) σ,some 1,fun _=>some true⟩,
 ⟨fun a σ=>.val (.bool false) σ,some 2,fun _=>some true⟩]
def Ata:List COp:=Aa3 ()
def Aa5(_:Unit):List COp:=[⟨fun a σ=>fload (some 4) (a.get 1) σ,some 3,fun _=>some true⟩,
 ⟨fun a σ=>.enter 52 [(a.get 3),(.int .i64 150)] σ,some 4,fun _=>some true⟩,
 ⟨fun a σ=>i_gtr Tryz.prog 3 (.tmp 4) (.const (.int .i64 150)) (a.get 4) (.int .i64 150) σ,some 5,fun _=>some true⟩,
 ⟨fun a σ=>.val (a.get 5) σ,some 6,fun _=>some true⟩,
 ⟨fun a σ=>fload (some 4) (a.get 1) σ,some 7,fun a=>gd (a.get 6) false⟩,
 ⟨fun a σ=>.enter 53 [(a.get 7)] σ,some 8,fun a=>gd (a.get 6) false⟩,
 ⟨fun a σ=>fpick (a.get 6) (.bool true) (a.get 8) σ,some 9,fun _=>some true⟩,
 ⟨fun a σ=>.val (a.get 9) σ,some 2,fun _=>some true⟩]
def Atb:List COp:=Aa5 ()
def AsR(E:Env)(ro:Option Nat)(fn:FuncId):RunF:=(seqR (fops E ro Ata) (seqR (fops E ro Atb) retR))
theorem Aa4:fops E ro Ata a u σ=fops E ro (Aa3 ()) a u σ:=rfl
theorem Aa6:fops E ro Atb a u σ=fops E ro (Aa5 ()) a u σ:=rfl
theorem As3(E:Env)(ro:Option Nat)(fn:FuncId):code Tryz.prog nls (Tryz.f9.body.getD .skip) E ro fn=AsR E ro fn:=by kernel_rfl
theorem ArX(E:Env)(args:List Value)(u:Option FrameMode)(σ:FState)(hn:args.length≤(2:Nat)):fcall Tryz.prog nls E 9 args u σ=leaveR Tryz.prog E [.tmp 2] (AsR E none 9 ⟨padTo undef 2 args,fun _=>undef,2,10,[]⟩ u σ):=by
 rw[Ao (body:=Tryz.f9.body.getD .skip) Tryz.func9 rfl E args u σ 2 10 (by kernel_rfl) rfl ⟨hn,by decide⟩,As3]
 rfl
def Tk(_:Unit):List COp:=[⟨fun a σ=>fbox 24 (a.get 0) σ,some 1,fun _=>some true⟩,
 ⟨fun a σ=>.val (.bool false) σ,some 2,fun _=>some true⟩]
def Ap2:List COp:=Tk ()
def Tl(_:Unit):List COp:=[⟨fun a σ=>ffield 2 (a.get 1) σ,some 4,fun _=>some true⟩,
 ⟨fun a σ=>fload none (a.get 4) σ,some 5,fun _=>some true⟩,
 ⟨fun a σ=>flenS (a.get 5) σ,some 6,fun _=>some true⟩,
 ⟨fun a σ=>i_gtr Tryz.prog 3 (.tmp 6) (.const (.int .i64 100)) (a.get 6) (.int .i64 100) σ,some 7,fun _=>some true⟩]
def Ap3:List COp:=Tl ()
def YG(_:Unit):List COp:=[⟨fun a σ=>.val (.bool true) σ,some 2,fun _=>some true⟩]
def Ap4:List COp:=YG ()
def YH(_:Unit):List COp:=[⟨fun a σ=>.val (.int .i64 0) σ,some 3,fun _=>some true⟩]
def Ap5:List COp:=YH ()
def NL(_:Unit):List COp:=[⟨fun a σ=>.val (a.get 3) σ,some 8,fun _=>some true⟩,
 ⟨fun a σ=>ffield 3 (a.get 1) σ,some 9,fun _=>some true⟩,
 ⟨fun a σ=>fload none (a.get 9) σ,some 10,fun _=>some true⟩,
 ⟨fun a σ=>flenL (a.get 10) σ,some 11,fun _=>some true⟩,
 ⟨fun a σ=>i_lss Tryz.prog 3 (.tmp 8) (.tmp 11) (a.get 8) (a.get 11) σ,some 12,fun _=>some true⟩]
def Ap6:List COp:=NL ()
def Tm(_:Unit):List COp:=[⟨fun a σ=>ffield 3 (a.get 1) σ,some 15,fun _=>some true⟩,
 ⟨fun a σ=>fload none (a.get 15) σ,some 16,fun _=>some true⟩,
 ⟨fun a σ=>.val (a.get 3) σ,some 17,fun _=>some true⟩,
 ⟨fun a σ=>findex (none,4) (a.get 16) (a.get 17) σ,some 18,fun _=>some true⟩,
 ⟨fun a σ=>fload (some 4) (a.get 18) σ,some 19,fun _=>some true⟩,
 ⟨fun a σ=>.enter 53 [(a.get 19)] σ,some 20,fun _=>some true⟩]
def Ap8:List COp:=Tm ()
def YJ(_:Unit):List COp:=[⟨fun a σ=>.val (.bool true) σ,some 2,fun _=>some true⟩]
def Ap9:List COp:=YJ ()
def YI(_:Unit):List COp:=[⟨fun a σ=>.val (a.get 3) σ,some 13,fun _=>some true⟩,
 ⟨fun a σ=>i_add Tryz.prog 3 (.tmp 13) (.const (.int .i64 1)) (a.get 13) (.int .i64 1) σ,some 14,fun _=>some true⟩,
 ⟨fun a σ=>.val (a.get 14) σ,some 3,fun _=>some true⟩]
def Ap7:List COp:=YI ()
def K9(E:Env)(ro:Option Nat)(fn:FuncId):RunF:=(seqR (seqR (fops E ro Ap6) (condR (fun a=>(a.get 12)) skipR (exitR 0))) (seqR (blockR 1 (seqR (fops E ro Ap8) (condR (fun a=>(a.get 20)) (seqR (fops E ro Ap9) retR) skipR))) (fops E ro Ap7)))
def YK(_:Unit):List COp:=[⟨fun a σ=>.val (.bool false) σ,some 2,fun _=>some true⟩]
def Aqa:List COp:=YK ()
def AlA(E:Env)(ro:Option Nat)(fn:FuncId):RunF:=(seqR (fops E ro Ap2) (seqR (seqR (fops E ro Ap3) (condR (fun a=>(a.get 7)) (seqR (fops E ro Ap4) retR) skipR)) (seqR (seqR (fops E ro Ap5) (blockR 0 (loopR (keepOf nls fn) (K9 E ro fn)))) (seqR (fops E ro Aqa) retR))))
theorem V4:fops E ro Ap2 a u σ=fops E ro (Tk ()) a u σ:=rfl
theorem V6:fops E ro Ap3 a u σ=fops E ro (Tl ()) a u σ:=rfl
theorem Akl:fops E ro Ap4 a u σ=fops E ro (YG ()) a u σ:=rfl
theorem Akm:fops E ro Ap5 a u σ=fops E ro (YH ()) a u σ:=rfl
theorem NM:fops E ro Ap6 a u σ=fops E ro (NL ()) a u σ:=rfl
theorem V7:fops E ro Ap8 a u σ=fops E ro (Tm ()) a u σ:=rfl
theorem Ako:fops E ro Ap9 a u σ=fops E ro (YJ ()) a u σ:=rfl
theorem Akn:fops E ro Ap7 a u σ=fops E ro (YI ()) a u σ:=rfl
theorem Akp:fops E ro Aqa a u σ=fops E ro (YK ()) a u σ:=rfl
theorem ArF(E:Env)(ro:Option Nat)(fn:FuncId):code Tryz.prog nls (Tryz.f53.body.getD .skip) E ro fn=AlA E ro fn:=by kernel_rfl
theorem Ani(E:Env)(args:List Value)(u:Option FrameMode)(σ:FState)(hn:args.length≤(4:Nat)):fcall Tryz.prog nls E 53 args u σ=leaveR Tryz.prog E [.tmp 2] (AlA E none 53 ⟨padTo undef 4 args,fun _=>undef,4,21,[]⟩ u σ):=by
 rw[Ao (body:=Tryz.f53.body.getD .skip) Tryz.func53 rfl E args u σ 4 21 (by kernel_rfl) rfl ⟨hn,by decide⟩,ArF]
 rfl
def Mn(_:Unit):List COp:=[⟨fun a σ=>.val (.bool false) σ,some 2,fun _=>some true⟩]
def AiX:List COp:=Mn ()
def Mo(_:Unit):List COp:=[⟨fun a σ=>.val (a.get 0) σ,some 3,fun _=>some true⟩,
 ⟨fun a σ=>i_leq Tryz.prog 5 (.const (.int .u8 48)) (.tmp 3) (.int .u8 48) (a.get 3) σ,some 4,fun _=>some true⟩,
 ⟨fun a σ=>.val (a.get 4) σ,some 5,fun _=>some true⟩,
 ⟨fun a σ=>.val (a.get 0) σ,some 6,fun a=>gd (a.get 5) true⟩,
 ⟨fun a σ=>i_leq Tryz.prog 5 (.tmp 6) (.const (.int .u8 57)) (a.get 6) (.int .u8 57) σ,some 7,fun a=>gd (a.get 5) true⟩,
 ⟨fun a σ=>fpick (a.get 5) (a.get 7) (.bool false) σ,some 8,fun _=>some true⟩,
 ⟨fun a σ=>.val (a.get 8) σ,some 2,fun _=>some true⟩]
def AiY:List COp:=Mo ()
def ZR(E:Env)(ro:Option Nat)(fn:FuncId):RunF:=(seqR (fops E ro AiX) (seqR (fops E ro AiY) retR))
theorem Qi:fops E ro AiX a u σ=fops E ro (Mn ()) a u σ:=rfl
theorem Qj:fops E ro AiY a u σ=fops E ro (Mo ()) a u σ:=rfl
theorem AmU(E:Env)(ro:Option Nat)(fn:FuncId):code Tryz.prog nls (Tryz.f183.body.getD .skip) E ro fn=ZR E ro fn:=by kernel_rfl
theorem AeX(E:Env)(args:List Value)(u:Option FrameMode)(σ:FState)(hn:args.length≤(2:Nat)):fcall Tryz.prog nls E 183 args u σ=leaveR Tryz.prog E [.tmp 2] (ZR E none 183 ⟨padTo undef 2 args,fun _=>undef,2,9,[]⟩ u σ):=by
 rw[Ao (body:=Tryz.f183.body.getD .skip) Tryz.func183 rfl E args u σ 2 9 (by kernel_rfl) rfl ⟨hn,by decide⟩,AmU]
 rfl
end Go.Proofs.YtokieofohmgjdaaGreatDoor
namespace Go.Proofs.YtokieofohmgjdaaGreatDoor
open Go Go.Eng
attribute [local congr] Ab Ah Af Ad Ae
attribute [-go_sem] List.range_succ
def digC(c:Nat):Bool:=decide (48≤c)&&decide (c≤57)
def signs:List Nat:=[45,43,42,47,60,62,61,63,33]
def symC(c:Nat):Bool:=(decide (97≤c)&&decide (c≤122))||digC c||signs.contains c
def byteAt(t:ByteArray)(i:Nat):Nat:=t[i]!.toNat
def symB(t:ByteArray):Bool:=decide (1≤t.size)&&decide (t.size≤20)&&!digC (byteAt t 0)&&!(byteAt t 0==45&&decide (1<t.size)&&digC (byteAt t 1))&&(List.range t.size).all fun i=>symC (byteAt t i)
theorem EV(s:ByteArray)(i:Nat)(h:i<s.size)(σ:FState):findexS (.string s) (.int .i64 (.ofNat i)) σ=.val (.int .u8 (byteAt s i:Nat)) σ:=by
 have e:s[i]? = some s[i]!:=by rw[getElem?_pos s i h,getElem!_pos s i h]
 unfold findexS natOf
 simp only[e]
 rfl
theorem Kn(s:ByteArray)(h:0<s.size)(σ:FState):findexS (.string s) (.int .i64 0) σ=.val (.int .u8 (byteAt s 0:Nat)) σ:=EV s 0 h σ
theorem Pj(s:ByteArray)(h:1<s.size)(σ:FState):findexS (.string s) (.int .i64 1) σ=.val (.int .u8 (byteAt s 1:Nat)) σ:=EV s 1 h σ
theorem D5(x y:Operand)(a b:Int)(σ:FState):i_leq Tryz.prog 5 x y (.int .u8 a) (.int .u8 b) σ=.val (.bool (decide (a≤b))) σ:=by kernel_rfl
theorem XD(x y:Operand)(a b:Int)(σ:FState):i_lss Tryz.prog 5 x y (.int .u8 a) (.int .u8 b) σ=.val (.bool (decide (a<b))) σ:=by kernel_rfl
theorem Xp(x y:Operand)(a b:Int)(σ:FState):i_gtr Tryz.prog 5 x y (.int .u8 a) (.int .u8 b) σ=.val (.bool (decide (a>b))) σ:=by kernel_rfl
theorem D8(x y:Operand)(a b:Int)(σ:FState):i_eql Tryz.prog 5 x y (.int .u8 a) (.int .u8 b) σ=.val (.bool (a==b)) σ:=by kernel_rfl
theorem MC(n c:Nat)(σ:FState):(env (n+1)).call 183 [.int .u8 (c:Int)] none σ=.ret (.bool (digC c)) none σ:=by
 rw[Ak _ 183 _ _ rfl,AeX _ _ _ _ (by simp),Aj]
 unfold ZR digC
 by_cases h:48≤c
 ·have d0:decide ((48:Int)≤(c:Int))=true:=by simp;omega
  have d1:decide ((c:Int)≤57)=decide (c≤57):=by simp;omega
  have d2:decide (48≤c)=true:=by simp;omega
  simp -implicitDefEqProofs only[go_sem,Qi,Mn,Qj,Mo,D5,d0,d1,d2,Bool.true_and]
 ·have d0:decide ((48:Int)≤(c:Int))=false:=by simp;omega
  have d2:decide (48≤c)=false:=by simp;omega
  simp -implicitDefEqProofs only[go_sem,Qi,Mn,Qj,Mo,D5,d0,d2,Bool.false_and]
theorem AoS(n i c:Nat)(t:ByteArray)(f g:Nat→Value)(σ:FState)(hi:i<t.size)(hsz:i<1000000)(hc:byteAt t i=c)(f0:f 0=.string t)(f3:f 3=.int .i64 (.ofNat i)):
  ∃f' g',f' 0=.string t∧((symC c=true∧Gd (env (n+1)) none 158 (Sl 5 63 f g []) none σ=.done .normal (Sl 5 63 f' g' []) none σ∧f' 3=.int .i64 (.ofNat (i+1)))∨
   (symC c=false∧Gd (env (n+1)) none 158 (Sl 5 63 f g []) none σ=.done .ret (Sl 5 63 f' g' []) none σ∧f' 2=.bool false)):=by
 have d0:decide (Int.ofNat i<Int.ofNat t.size)=true:=by simp;omega
 have hb:=EV t i hi σ
 rw[hc] at hb
 have a1:=GH i (by omega)
 have hdg:=MC n c σ
 unfold Gd
 by_cases hl:97≤c∧c≤122
 ·have l1:decide ((97:Int)≤(c:Int))=true:=by simp;omega
  have l2:decide ((c:Int)≤122)=true:=by simp;omega
  simp -implicitDefEqProofs only[go_sem,Ch,Dm,CB,Dq,CC,Dr,CD,Dt,CE,Du,CF,Dv,BL,CG,BM,CH,BN,CI,BO,CJ,BP,CK,BQ,CL,BR,CM,BS,CN,BT,CO,f0,f3,d0,hb,a1,l1,l2,Ag,D5]
  refine⟨_,_,?_,.inl ⟨by unfold symC;simp;omega,rfl,?_⟩⟩
  ·simp -implicitDefEqProofs only[go_sem,reduceCtorEq,f0]
  ·simp -implicitDefEqProofs only[go_sem,reduceCtorEq]
 ·have hnl:(decide (97≤c)&&decide (c≤122))=false:=by simp;omega
  cases hd:digC c with
  | true=>
   rw[hd] at hdg
   by_cases h97:97≤c
   ·have l1:decide ((97:Int)≤(c:Int))=true:=by simp;omega
    have l2:decide ((c:Int)≤122)=false:=by simp;omega
    simp -implicitDefEqProofs only[go_sem,Ch,Dm,CB,Dq,CC,Dr,CD,Dt,CE,Du,CF,Dv,BL,CG,BM,CH,BN,CI,BO,CJ,BP,CK,BQ,CL,BR,CM,BS,CN,BT,CO,f0,f3,d0,hb,a1,l1,l2,hdg,Ag,D5]
    refine⟨_,_,?_,.inl ⟨by unfold symC;rw[hd];simp,rfl,?_⟩⟩
    ·simp -implicitDefEqProofs only[go_sem,reduceCtorEq,f0]
    ·simp -implicitDefEqProofs only[go_sem,reduceCtorEq]
   ·have l1:decide ((97:Int)≤(c:Int))=false:=by simp;omega
    simp -implicitDefEqProofs only[go_sem,Ch,Dm,CB,Dq,CC,Dr,CD,Dt,CE,Du,CF,Dv,BL,CG,BM,CH,BN,CI,BO,CJ,BP,CK,BQ,CL,BR,CM,BS,CN,BT,CO,f0,f3,d0,hb,a1,l1,hdg,Ag,D5]
    refine⟨_,_,?_,.inl ⟨by unfold symC;rw[hd];simp,rfl,?_⟩⟩
    ·simp -implicitDefEqProofs only[go_sem,reduceCtorEq,f0]
    ·simp -implicitDefEqProofs only[go_sem,reduceCtorEq]
  | false=>
   rw[hd] at hdg
   have hsg:symC c=signs.contains c:=by unfold symC;rw[hnl,hd];rfl
   rw[hsg]
   by_cases h0:c=45
   ·have e0:((c:Int)==45)=true:=by simp;omega
    by_cases h97:97≤c
    ·have l1:decide ((97:Int)≤(c:Int))=true:=by simp;omega
     have l2:decide ((c:Int)≤122)=false:=by simp;omega
     simp -implicitDefEqProofs only[go_sem,Ch,Dm,CB,Dq,CC,Dr,CD,Dt,CE,Du,CF,Dv,BL,CG,BM,CH,BN,CI,BO,CJ,BP,CK,BQ,CL,BR,CM,BS,CN,BT,CO,f0,f3,d0,hb,a1,l1,l2,hdg,e0,Ag,D8,D5]
     refine⟨_,_,?_,.inl ⟨?_,rfl,?_⟩⟩
     ·simp -implicitDefEqProofs only[go_sem,reduceCtorEq,f0]
     ·simp[signs];omega
     ·simp -implicitDefEqProofs only[go_sem,reduceCtorEq]
    ·have l1:decide ((97:Int)≤(c:Int))=false:=by simp;omega
     simp -implicitDefEqProofs only[go_sem,Ch,Dm,CB,Dq,CC,Dr,CD,Dt,CE,Du,CF,Dv,BL,CG,BM,CH,BN,CI,BO,CJ,BP,CK,BQ,CL,BR,CM,BS,CN,BT,CO,f0,f3,d0,hb,a1,l1,hdg,e0,Ag,D8,D5]
     refine⟨_,_,?_,.inl ⟨?_,rfl,?_⟩⟩
     ·simp -implicitDefEqProofs only[go_sem,reduceCtorEq,f0]
     ·simp[signs];omega
     ·simp -implicitDefEqProofs only[go_sem,reduceCtorEq]
   ·have e0:((c:Int)==45)=false:=by simp;omega
    by_cases h1:c=43
    ·have e1:((c:Int)==43)=true:=by simp;omega
     by_cases h97:97≤c
     ·have l1:decide ((97:Int)≤(c:Int))=true:=by simp;omega
      have l2:decide ((c:Int)≤122)=false:=by simp;omega
      simp -implicitDefEqProofs only[go_sem,Ch,Dm,CB,Dq,CC,Dr,CD,Dt,CE,Du,CF,Dv,BL,CG,BM,CH,BN,CI,BO,CJ,BP,CK,BQ,CL,BR,CM,BS,CN,BT,CO,f0,f3,d0,hb,a1,l1,l2,hdg,e0,e1,Ag,D8,D5]
      refine⟨_,_,?_,.inl ⟨?_,rfl,?_⟩⟩
      ·simp -implicitDefEqProofs only[go_sem,reduceCtorEq,f0]
      ·simp[signs];omega
      ·simp -implicitDefEqProofs only[go_sem,reduceCtorEq]
     ·have l1:decide ((97:Int)≤(c:Int))=false:=by simp;omega
      simp -implicitDefEqProofs only[go_sem,Ch,Dm,CB,Dq,CC,Dr,CD,Dt,CE,Du,CF,Dv,BL,CG,BM,CH,BN,CI,BO,CJ,BP,CK,BQ,CL,BR,CM,BS,CN,BT,CO,f0,f3,d0,hb,a1,l1,hdg,e0,e1,Ag,D8,D5]
      refine⟨_,_,?_,.inl ⟨?_,rfl,?_⟩⟩
      ·simp -implicitDefEqProofs only[go_sem,reduceCtorEq,f0]
      ·simp[signs];omega
      ·simp -implicitDefEqProofs only[go_sem,reduceCtorEq]
    ·have e1:((c:Int)==43)=false:=by simp;omega
     by_cases h2:c=42
     ·have e2:((c:Int)==42)=true:=by simp;omega
      by_cases h97:97≤c
      ·have l1:decide ((97:Int)≤(c:Int))=true:=by simp;omega
       have l2:decide ((c:Int)≤122)=false:=by simp;omega
       simp -implicitDefEqProofs only[go_sem,Ch,Dm,CB,Dq,CC,Dr,CD,Dt,CE,Du,CF,Dv,BL,CG,BM,CH,BN,CI,BO,CJ,BP,CK,BQ,CL,BR,CM,BS,CN,BT,CO,f0,f3,d0,hb,a1,l1,l2,hdg,e0,e1,e2,Ag,D8,D5]
       refine⟨_,_,?_,.inl ⟨?_,rfl,?_⟩⟩
       ·simp -implicitDefEqProofs only[go_sem,reduceCtorEq,f0]
       ·simp[signs];omega
       ·simp -implicitDefEqProofs only[go_sem,reduceCtorEq]
      ·have l1:decide ((97:Int)≤(c:Int))=false:=by simp;omega
       simp -implicitDefEqProofs only[go_sem,Ch,Dm,CB,Dq,CC,Dr,CD,Dt,CE,Du,CF,Dv,BL,CG,BM,CH,BN,CI,BO,CJ,BP,CK,BQ,CL,BR,CM,BS,CN,BT,CO,f0,f3,d0,hb,a1,l1,hdg,e0,e1,e2,Ag,D8,D5]
       refine⟨_,_,?_,.inl ⟨?_,rfl,?_⟩⟩
       ·simp -implicitDefEqProofs only[go_sem,reduceCtorEq,f0]
       ·simp[signs];omega
       ·simp -implicitDefEqProofs only[go_sem,reduceCtorEq]
     ·have e2:((c:Int)==42)=false:=by simp;omega
      by_cases h3:c=47
      ·have e3:((c:Int)==47)=true:=by simp;omega
       by_cases h97:97≤c
       ·have l1:decide ((97:Int)≤(c:Int))=true:=by simp;omega
        have l2:decide ((c:Int)≤122)=false:=by simp;omega
        simp -implicitDefEqProofs only[go_sem,Ch,Dm,CB,Dq,CC,Dr,CD,Dt,CE,Du,CF,Dv,BL,CG,BM,CH,BN,CI,BO,CJ,BP,CK,BQ,CL,BR,CM,BS,CN,BT,CO,f0,f3,d0,hb,a1,l1,l2,hdg,e0,e1,e2,e3,Ag,D8,D5]
        refine⟨_,_,?_,.inl ⟨?_,rfl,?_⟩⟩
        ·simp -implicitDefEqProofs only[go_sem,reduceCtorEq,f0]
        ·simp[signs];omega
        ·simp -implicitDefEqProofs only[go_sem,reduceCtorEq]
       ·have l1:decide ((97:Int)≤(c:Int))=false:=by simp;omega
        simp -implicitDefEqProofs only[go_sem,Ch,Dm,CB,Dq,CC,Dr,CD,Dt,CE,Du,CF,Dv,BL,CG,BM,CH,BN,CI,BO,CJ,BP,CK,BQ,CL,BR,CM,BS,CN,BT,CO,f0,f3,d0,hb,a1,l1,hdg,e0,e1,e2,e3,Ag,D8,D5]
        refine⟨_,_,?_,.inl ⟨?_,rfl,?_⟩⟩
        ·simp -implicitDefEqProofs only[go_sem,reduceCtorEq,f0]
        ·simp[signs];omega
        ·simp -implicitDefEqProofs only[go_sem,reduceCtorEq]
      ·have e3:((c:Int)==47)=false:=by simp;omega
       by_cases h4:c=60
       ·have e4:((c:Int)==60)=true:=by simp;omega
        by_cases h97:97≤c
        ·have l1:decide ((97:Int)≤(c:Int))=true:=by simp;omega
         have l2:decide ((c:Int)≤122)=false:=by simp;omega
         simp -implicitDefEqProofs only[go_sem,Ch,Dm,CB,Dq,CC,Dr,CD,Dt,CE,Du,CF,Dv,BL,CG,BM,CH,BN,CI,BO,CJ,BP,CK,BQ,CL,BR,CM,BS,CN,BT,CO,f0,f3,d0,hb,a1,l1,l2,hdg,e0,e1,e2,e3,e4,Ag,D8,D5]
         refine⟨_,_,?_,.inl ⟨?_,rfl,?_⟩⟩
         ·simp -implicitDefEqProofs only[go_sem,reduceCtorEq,f0]
         ·simp[signs];omega
         ·simp -implicitDefEqProofs only[go_sem,reduceCtorEq]
        ·have l1:decide ((97:Int)≤(c:Int))=false:=by simp;omega
         simp -implicitDefEqProofs only[go_sem,Ch,Dm,CB,Dq,CC,Dr,CD,Dt,CE,Du,CF,Dv,BL,CG,BM,CH,BN,CI,BO,CJ,BP,CK,BQ,CL,BR,CM,BS,CN,BT,CO,f0,f3,d0,hb,a1,l1,hdg,e0,e1,e2,e3,e4,Ag,D8,D5]
         refine⟨_,_,?_,.inl ⟨?_,rfl,?_⟩⟩
         ·simp -implicitDefEqProofs only[go_sem,reduceCtorEq,f0]
         ·simp[signs];omega
         ·simp -implicitDefEqProofs only[go_sem,reduceCtorEq]
       ·have e4:((c:Int)==60)=false:=by simp;omega
        by_cases h5:c=62
        ·have e5:((c:Int)==62)=true:=by simp;omega
         by_cases h97:97≤c
         ·have l1:decide ((97:Int)≤(c:Int))=true:=by simp;omega
          have l2:decide ((c:Int)≤122)=false:=by simp;omega
          simp -implicitDefEqProofs only[go_sem,Ch,Dm,CB,Dq,CC,Dr,CD,Dt,CE,Du,CF,Dv,BL,CG,BM,CH,BN,CI,BO,CJ,BP,CK,BQ,CL,BR,CM,BS,CN,BT,CO,f0,f3,d0,hb,a1,l1,l2,hdg,e0,e1,e2,e3,e4,e5,Ag,D8,D5]
          refine⟨_,_,?_,.inl ⟨?_,rfl,?_⟩⟩
          ·simp -implicitDefEqProofs only[go_sem,reduceCtorEq,f0]
          ·simp[signs];omega
          ·simp -implicitDefEqProofs only[go_sem,reduceCtorEq]
         ·have l1:decide ((97:Int)≤(c:Int))=false:=by simp;omega
          simp -implicitDefEqProofs only[go_sem,Ch,Dm,CB,Dq,CC,Dr,CD,Dt,CE,Du,CF,Dv,BL,CG,BM,CH,BN,CI,BO,CJ,BP,CK,BQ,CL,BR,CM,BS,CN,BT,CO,f0,f3,d0,hb,a1,l1,hdg,e0,e1,e2,e3,e4,e5,Ag,D8,D5]
          refine⟨_,_,?_,.inl ⟨?_,rfl,?_⟩⟩
          ·simp -implicitDefEqProofs only[go_sem,reduceCtorEq,f0]
          ·simp[signs];omega
          ·simp -implicitDefEqProofs only[go_sem,reduceCtorEq]
        ·have e5:((c:Int)==62)=false:=by simp;omega
         by_cases h6:c=61
         ·have e6:((c:Int)==61)=true:=by simp;omega
          by_cases h97:97≤c
          ·have l1:decide ((97:Int)≤(c:Int))=true:=by simp;omega
           have l2:decide ((c:Int)≤122)=false:=by simp;omega
           simp -implicitDefEqProofs only[go_sem,Ch,Dm,CB,Dq,CC,Dr,CD,Dt,CE,Du,CF,Dv,BL,CG,BM,CH,BN,CI,BO,CJ,BP,CK,BQ,CL,BR,CM,BS,CN,BT,CO,f0,f3,d0,hb,a1,l1,l2,hdg,e0,e1,e2,e3,e4,e5,e6,Ag,D8,D5]
           refine⟨_,_,?_,.inl ⟨?_,rfl,?_⟩⟩
           ·simp -implicitDefEqProofs only[go_sem,reduceCtorEq,f0]
           ·simp[signs];omega
           ·simp -implicitDefEqProofs only[go_sem,reduceCtorEq]
          ·have l1:decide ((97:Int)≤(c:Int))=false:=by simp;omega
           simp -implicitDefEqProofs only[go_sem,Ch,Dm,CB,Dq,CC,Dr,CD,Dt,CE,Du,CF,Dv,BL,CG,BM,CH,BN,CI,BO,CJ,BP,CK,BQ,CL,BR,CM,BS,CN,BT,CO,f0,f3,d0,hb,a1,l1,hdg,e0,e1,e2,e3,e4,e5,e6,Ag,D8,D5]
           refine⟨_,_,?_,.inl ⟨?_,rfl,?_⟩⟩
           ·simp -implicitDefEqProofs only[go_sem,reduceCtorEq,f0]
           ·simp[signs];omega
           ·simp -implicitDefEqProofs only[go_sem,reduceCtorEq]
         ·have e6:((c:Int)==61)=false:=by simp;omega
          by_cases h7:c=63
          ·have e7:((c:Int)==63)=true:=by simp;omega
           by_cases h97:97≤c
           ·have l1:decide ((97:Int)≤(c:Int))=true:=by simp;omega
            have l2:decide ((c:Int)≤122)=false:=by simp;omega
            simp -implicitDefEqProofs only[go_sem,Ch,Dm,CB,Dq,CC,Dr,CD,Dt,CE,Du,CF,Dv,BL,CG,BM,CH,BN,CI,BO,CJ,BP,CK,BQ,CL,BR,CM,BS,CN,BT,CO,f0,f3,d0,hb,a1,l1,l2,hdg,e0,e1,e2,e3,e4,e5,e6,e7,Ag,D8,D5]
            refine⟨_,_,?_,.inl ⟨?_,rfl,?_⟩⟩
            ·simp -implicitDefEqProofs only[go_sem,reduceCtorEq,f0]
            ·simp[signs];omega
            ·simp -implicitDefEqProofs only[go_sem,reduceCtorEq]
           ·have l1:decide ((97:Int)≤(c:Int))=false:=by simp;omega
            simp -implicitDefEqProofs only[go_sem,Ch,Dm,CB,Dq,CC,Dr,CD,Dt,CE,Du,CF,Dv,BL,CG,BM,CH,BN,CI,BO,CJ,BP,CK,BQ,CL,BR,CM,BS,CN,BT,CO,f0,f3,d0,hb,a1,l1,hdg,e0,e1,e2,e3,e4,e5,e6,e7,Ag,D8,D5]
            refine⟨_,_,?_,.inl ⟨?_,rfl,?_⟩⟩
            ·simp -implicitDefEqProofs only[go_sem,reduceCtorEq,f0]
            ·simp[signs];omega
            ·simp -implicitDefEqProofs only[go_sem,reduceCtorEq]
          ·have e7:((c:Int)==63)=false:=by simp;omega
           by_cases h8:c=33
           ·have e8:((c:Int)==33)=true:=by simp;omega
            by_cases h97:97≤c
            ·have l1:decide ((97:Int)≤(c:Int))=true:=by simp;omega
             have l2:decide ((c:Int)≤122)=false:=by simp;omega
             simp -implicitDefEqProofs only[go_sem,Ch,Dm,CB,Dq,CC,Dr,CD,Dt,CE,Du,CF,Dv,BL,CG,BM,CH,BN,CI,BO,CJ,BP,CK,BQ,CL,BR,CM,BS,CN,BT,CO,f0,f3,d0,hb,a1,l1,l2,hdg,e0,e1,e2,e3,e4,e5,e6,e7,e8,Ag,D8,D5]
             refine⟨_,_,?_,.inl ⟨?_,rfl,?_⟩⟩
             ·simp -implicitDefEqProofs only[go_sem,reduceCtorEq,f0]
             ·simp[signs];omega
             ·simp -implicitDefEqProofs only[go_sem,reduceCtorEq]
            ·have l1:decide ((97:Int)≤(c:Int))=false:=by simp;omega
             simp -implicitDefEqProofs only[go_sem,Ch,Dm,CB,Dq,CC,Dr,CD,Dt,CE,Du,CF,Dv,BL,CG,BM,CH,BN,CI,BO,CJ,BP,CK,BQ,CL,BR,CM,BS,CN,BT,CO,f0,f3,d0,hb,a1,l1,hdg,e0,e1,e2,e3,e4,e5,e6,e7,e8,Ag,D8,D5]
             refine⟨_,_,?_,.inl ⟨?_,rfl,?_⟩⟩
             ·simp -implicitDefEqProofs only[go_sem,reduceCtorEq,f0]
             ·simp[signs];omega
             ·simp -implicitDefEqProofs only[go_sem,reduceCtorEq]
           ·have e8:((c:Int)==33)=false:=by simp;omega
            by_cases h97:97≤c
            ·have l1:decide ((97:Int)≤(c:Int))=true:=by simp;omega
             have l2:decide ((c:Int)≤122)=false:=by simp;omega
             simp -implicitDefEqProofs only[go_sem,Ch,Dm,CB,Dq,CC,Dr,CD,Dt,CE,Du,CF,Dv,BL,CG,BM,CH,BN,CI,BO,CJ,BP,CK,BQ,CL,BR,CM,BS,CN,BT,CO,f0,f3,d0,hb,a1,l1,l2,hdg,e0,e1,e2,e3,e4,e5,e6,e7,e8,Ag,D8,D5]
             refine⟨_,_,?_,.inr ⟨?_,rfl,?_⟩⟩
             ·simp -implicitDefEqProofs only[go_sem,reduceCtorEq,f0]
             ·simp[signs];omega
             ·simp -implicitDefEqProofs only[go_sem,reduceCtorEq]
            ·have l1:decide ((97:Int)≤(c:Int))=false:=by simp;omega
             simp -implicitDefEqProofs only[go_sem,Ch,Dm,CB,Dq,CC,Dr,CD,Dt,CE,Du,CF,Dv,BL,CG,BM,CH,BN,CI,BO,CJ,BP,CK,BQ,CL,BR,CM,BS,CN,BT,CO,f0,f3,d0,hb,a1,l1,hdg,e0,e1,e2,e3,e4,e5,e6,e7,e8,Ag,D8,D5]
             refine⟨_,_,?_,.inr ⟨?_,rfl,?_⟩⟩
             ·simp -implicitDefEqProofs only[go_sem,reduceCtorEq,f0]
             ·simp[signs];omega
             ·simp -implicitDefEqProofs only[go_sem,reduceCtorEq]
end Go.Proofs.YtokieofohmgjdaaGreatDoor
namespace Go.Proofs.YtokieofohmgjdaaGreatDoor
open Go Go.Eng
attribute [local congr] Ab Ah Af Ad Ae
attribute [-go_sem] List.range_succ
theorem AoR(n:Nat)(t:ByteArray)(hsz:t.size≤20)(σ:FState):∀(j fuel i:Nat) (f g:Nat→Value),t.size-i=j→j<fuel→i≤t.size→f 0=.string t→f 3=.int .i64 (.ofNat i)→
  ∃f' g',((∀k,i≤k→k<t.size→symC (byteAt t k)=true)∧floop [] (Gd (env (n+1)) none 158) fuel (Sl 5 63 f g []) none σ=.done (.exit 0) (Sl 5 63 f' g' []) none σ)∨
   ((∃k,i≤k∧k<t.size∧symC (byteAt t k)=false)∧floop [] (Gd (env (n+1)) none 158) fuel (Sl 5 63 f g []) none σ=.done .ret (Sl 5 63 f' g' []) none σ∧f' 2=.bool false):=by
 intro j
 induction j with
 | zero=>
  intro fuel i f g hj hf hi f0 f3
  obtain⟨fuel,rfl⟩:∃q,fuel=q+1:=⟨fuel-1,by omega⟩
  obtain rfl:i=t.size:=by omega
  have d0:decide (Int.ofNat t.size<Int.ofNat t.size)=false:=by simp
  rw[Ar]
  have h:∃f' g',Gd (env (n+1)) none 158 (Sl 5 63 f (kept [] g) []) none σ=.done (.exit 0) (Sl 5 63 f' g' []) none σ:=by
   unfold Gd
   simp -implicitDefEqProofs only[go_sem,Ch,Dm,f0,f3,d0]
   exact⟨_,_,rfl⟩
  obtain⟨f',g',e⟩:=h
  refine⟨f',g',.inl ⟨fun k h1 h2=>by omega,?_⟩⟩
  simp -implicitDefEqProofs only[BU,e,AL]
 | succ j ih=>
  intro fuel i f g hj hf hi f0 f3
  obtain⟨fuel,rfl⟩:∃q,fuel=q+1:=⟨fuel-1,by omega⟩
  have hlt:i<t.size:=by omega
  rw[Ar]
  obtain⟨f1,g1,h0,h⟩:=AoS n i (byteAt t i) t f (kept [] g) σ hlt (by omega) rfl f0 f3
  rcases h with⟨hc,e,h3⟩|⟨hc,e,h2⟩
  ·obtain⟨f2,g2,h⟩:=ih fuel (i+1) f1 g1 (by omega) (by omega) (by omega) h0 h3
   refine⟨f2,g2,?_⟩
   simp -implicitDefEqProofs only[BU,e,Aq]
   rcases h with⟨h4,h5⟩|⟨⟨k,h4,h5,h6⟩,h7,h8⟩
   ·refine .inl ⟨fun k h1 h2=>?_,h5⟩
    by_cases hk:k=i
    ·subst hk;exact hc
    ·exact h4 k (by omega) h2
   ·exact .inr ⟨⟨k,by omega,h5,h6⟩,h7,h8⟩
  ·refine⟨f1,g1,.inr ⟨⟨i,Nat.le_refl _,hlt,hc⟩,?_,h2⟩⟩
   simp -implicitDefEqProofs only[BU,e,AV]
theorem AoT{t:ByteArray}(h1:1≤t.size)(h2:t.size≤20)(h3:digC (byteAt t 0)=false)(h4:(byteAt t 0==45&&decide (1<t.size)&&digC (byteAt t 1))=false):symB t=(List.range t.size).all fun i=>symC (byteAt t i):=by
 unfold symB
 rw[h3,h4]
 simp[h1,h2]
theorem Qm(n:Nat)(t:ByteArray)(σ:FState):(env (n+2)).call 158 [.string t] none σ=.ret (.bool (symB t)) none σ:=by
 rw[Ak _ 158 _ _ rfl,AeS _ _ _ _ (by simp),Aj]
 unfold ZM
 have hkeep:keepOf nls 158=[]:=by kernel_rfl
 by_cases hs1:t.size<1
 ·have d0:decide (Int.ofNat t.size<1)=true:=by simp;omega
  have e:symB t=false:=by unfold symB;rw[show decide (1≤t.size)=false from decide_eq_false (by omega)];rfl
  simp -implicitDefEqProofs only[go_sem,EZ,Fq,E0,Fs,Ij,Ii,d0,e]
 ·have d0:decide (Int.ofNat t.size<1)=false:=by simp;omega
  by_cases hs2:t.size>20
  ·have d1:decide (Int.ofNat t.size>20)=true:=by simp;omega
   have e:symB t=false:=by unfold symB;rw[show decide (t.size≤20)=false from decide_eq_false (by omega),Bool.and_false];rfl
   simp -implicitDefEqProofs only[go_sem,EZ,Fq,E0,Fs,Ij,Ii,d0,d1,e]
  ·have d1:decide (Int.ofNat t.size>20)=false:=by simp;omega
   have b0:=Kn t (by omega) σ
   have g0:=MC n (byteAt t 0) σ
   cases hd0:digC (byteAt t 0) with
   | true=>
    rw[hd0] at g0
    have e:symB t=false:=by unfold symB;rw[hd0];simp
    simp -implicitDefEqProofs only[go_sem,EZ,Fq,E0,Fs,Ij,Ii,d0,d1,b0,g0,e]
   | false=>
    rw[hd0] at g0
    have fin:∀(f g:Nat→Value),f 0=.string t→f 3=.int .i64 (.ofNat 0)→(byteAt t 0==45&&decide (1<t.size)&&digC (byteAt t 1))=false→∃f' g',(symB t=true∧floop [] (Gd (env (n+1)) none 158) bigFuel (Sl 5 63 f g []) none σ=.done (.exit 0) (Sl 5 63 f' g' []) none σ)∨
      (symB t=false∧floop [] (Gd (env (n+1)) none 158) bigFuel (Sl 5 63 f g []) none σ=.done .ret (Sl 5 63 f' g' []) none σ∧f' 2=.bool false):=fun f g f0 f3 h4=>by
     obtain⟨f',g',h⟩:=AoR n t (by omega) σ t.size bigFuel 0 f g (by omega) (by show t.size<1000000000000;omega) (by omega) f0 f3
     refine⟨f',g',?_⟩
     rw[AoT (by omega) (by omega) hd0 h4]
     rcases h with⟨h1,h2⟩|⟨⟨k,h1,h2,h3⟩,h5,h6⟩
     ·exact .inl ⟨List.all_eq_true.2 fun k hk=>h1 k (Nat.zero_le _) (List.mem_range.1 hk),h2⟩
     ·refine .inr ⟨?_,h5,h6⟩
      rw[←Bool.not_eq_true,List.all_eq_true]
      intro h
      have:=h k (List.mem_range.2 h2)
      rw[h3] at this
      cases this
    by_cases h45:byteAt t 0=45
    ·have e45:((byteAt t 0:Int)==45)=true:=by simp;omega
     by_cases hs3:t.size>1
     ·have d3:decide (Int.ofNat t.size>1)=true:=by simp;omega
      have b1:=Pj t (by omega) σ
      have g1:=MC n (byteAt t 1) σ
      cases hd1:digC (byteAt t 1) with
      | true=>
       rw[hd1] at g1
       have e:symB t=false:=by unfold symB;rw[hd1,hd0];simp[h45,hs3]
       simp -implicitDefEqProofs only[go_sem,EZ,Fq,E0,Fs,Ij,Ii,d0,d1,d3,b0,g0,b1,g1,D8,e45,e]
      | false=>
       rw[hd1] at g1
       simp -implicitDefEqProofs only[go_sem,EZ,Fq,E0,Fs,KG,J0,d0,d1,d3,b0,g0,b1,g1,D8,e45,Ag,hkeep]
       generalize hff:upd _ 3 _=f1
       generalize hgg:upd _ 32 _=gg1
       obtain⟨f',g',h⟩:=fin f1 gg1 (by rw[←hff];simp -implicitDefEqProofs only[go_sem,reduceCtorEq]) (by rw[←hff];simp -implicitDefEqProofs only[go_sem,reduceCtorEq]<;>rfl) (by rw[hd1,Bool.and_false])
       rcases h with⟨h1,h2⟩|⟨h1,h2,h3⟩
       ·rw[h2];simp -implicitDefEqProofs only[go_sem,Jg,HE,h1]
       ·rw[h2];simp -implicitDefEqProofs only[go_sem,h1,h3]
     ·have d3:decide (Int.ofNat t.size>1)=false:=by simp;omega
      simp -implicitDefEqProofs only[go_sem,EZ,Fq,E0,Fs,KG,J0,d0,d1,d3,b0,g0,D8,e45,Ag,hkeep]
      generalize hff:upd _ 3 _=f1
      generalize hgg:upd _ 32 _=gg1
      obtain⟨f',g',h⟩:=fin f1 gg1 (by rw[←hff];simp -implicitDefEqProofs only[go_sem,reduceCtorEq]) (by rw[←hff];simp -implicitDefEqProofs only[go_sem,reduceCtorEq]<;>rfl) (by rw[show decide (1<t.size)=false from decide_eq_false (by omega)];simp)
      rcases h with⟨h1,h2⟩|⟨h1,h2,h3⟩
      ·rw[h2];simp -implicitDefEqProofs only[go_sem,Jg,HE,h1]
      ·rw[h2];simp -implicitDefEqProofs only[go_sem,h1,h3]
    ·have e45:((byteAt t 0:Int)==45)=false:=by simp;omega
     simp -implicitDefEqProofs only[go_sem,EZ,Fq,E0,Fs,KG,J0,d0,d1,b0,g0,D8,e45,Ag,hkeep]
     generalize hff:upd _ 3 _=f1
     generalize hgg:upd _ 32 _=gg1
     obtain⟨f',g',h⟩:=fin f1 gg1 (by rw[←hff];simp -implicitDefEqProofs only[go_sem,reduceCtorEq]) (by rw[←hff];simp -implicitDefEqProofs only[go_sem,reduceCtorEq]<;>rfl) (by rw[show (byteAt t 0==45)=false by simpa using h45];rfl)
     rcases h with⟨h1,h2⟩|⟨h1,h2,h3⟩
     ·rw[h2];simp -implicitDefEqProofs only[go_sem,Jg,HE,h1]
     ·rw[h2];simp -implicitDefEqProofs only[go_sem,h1,h3]
end Go.Proofs.YtokieofohmgjdaaGreatDoor
end
