import Derived.Test.YtknnbjmcfibpgaaGreatDoorProg
import Derived.WalkKit
import Derived.LaidEql
import Derived.Stop.Asserts
import Derived.RowKitTokens
import Derived.Shelf.Sort.Plain
import Derived.Test.YtknnbjmcfibpgaaGreatDoorU2
import Derived.Laws.IdiomCopy
import Derived.Sort.Grow
import Derived.Test.YtknnbjmcfibpgaaGreatDoorU3
import Derived.Test.YtknnbjmcfibpgaaGreatDoorU4
import Derived.Test.YtknnbjmcfibpgaaGreatDoorZSymTL
import Derived.Test.YtknnbjmcfibpgaaGreatDoorU5
set_option linter.unusedSimpArgs false
set_option linter.unusedVariables false
noncomputable section
namespace Go.Proofs.YtknnbjmcfibpgaaGreatDoor
open Go Go.RowKit Go.Extern.Stop Go.Stop Go.Extern
theorem Au0(t:Value)(w:World):Calls Tryz.prog 157 #[.nilIface,t] w fun e w'=>e=.returned (.bool false)/\w'=w:=by
 go_enter Tryz.func157,Tryz.ntmps157
 go_wp2
 go_ret
 exact⟨rfl,rfl⟩
theorem Ug(t:Addr)(w:World):(ReflectliteValue.unpack (.iface 190 (.pointer (some t)))).run Tryz.prog w=.ok (.agg #[.pointer (some ⟨2,190,none⟩),.pointer (some ⟨w.heap.size,0,none⟩),.int .u64 150]) (w.alloc (.cells #[.pointer (some t)] 190)):=by kernel_rfl
theorem Afv(a:Addr)(w:World):(ReflectliteValue.methodAny (ReflectliteValue.valueError "reflectlite.Value.Type" 0) (fun t _ _ _=>ReflectliteType.toType t) #[.agg #[.pointer (some ⟨2,190,none⟩),.pointer (some a),.int .u64 150]]).run Tryz.prog w=.ok (.iface 224 (.agg #[.pointer (some ⟨2,190,none⟩)])) w:=by kernel_rfl
theorem Afs(h:Value)(w:World):(Go.method 373 224 (.agg #[h]) "Kind").run Tryz.prog w=.ok (209,h) w:=by kernel_rfl
theorem Afq(h:Value)(w:World):(Go.method 373 224 (.agg #[h]) "Elem").run Tryz.prog w=.ok (232,.agg #[h]) w:=by kernel_rfl
theorem Afr(h:Value)(w:World):(Go.method 373 224 (.agg #[h]) "Implements").run Tryz.prog w=.ok (233,.agg #[h]) w:=by kernel_rfl
theorem Xh(h:Value)(w:World):(Go.method 373 224 (.agg #[h]) "AssignableTo").run Tryz.prog w=.ok (230,.agg #[h]) w:=by kernel_rfl
theorem Afn(w:World):((ReflectliteType.abiMethod fun t=>(fun a:Nat=>Value.int IntKind.u8 (a:Int)) <$> Rtype.kind t) #[.pointer (some ⟨2,190,none⟩)]).run Tryz.prog w=.ok (.int .u8 22) w:=by kernel_rfl
theorem Afo(w:World):((ReflectliteType.abiMethod fun t=>(fun a:Nat=>Value.int IntKind.u8 (a:Int)) <$> Rtype.kind t) #[.pointer (some ⟨2,171,none⟩)]).run Tryz.prog w=.ok (.int .u8 25) w:=by kernel_rfl
theorem Afk(w:World):(ReflectliteType.method ReflectliteType.elem #[.agg #[.pointer (some ⟨2,190,none⟩)]]).run Tryz.prog w=.ok (.iface 224 (.agg #[.pointer (some ⟨2,171,none⟩)])) w:=by kernel_rfl
theorem Aoa(w:World):(ReflectliteType.relation "Implements" ReflectliteType.implements_ #[.agg #[.pointer (some ⟨2,171,none⟩)],.iface 224 (.agg #[.pointer (some ⟨2,169,none⟩)])]).run Tryz.prog w=.ok (.bool true) w:=by kernel_rfl
theorem Acz(v:Value)(w:World):(ReflectliteType.typeOf #[.iface 171 v]).run Tryz.prog w=.ok (.iface 224 (.agg #[.pointer (some ⟨2,171,none⟩)])) w:=by kernel_rfl
theorem Acu(w:World):(ReflectliteType.relation "AssignableTo" ReflectliteType.assignableTo #[.agg #[.pointer (some ⟨2,171,none⟩)],(.iface 224 (.agg #[.pointer (some ⟨2,171,none⟩)]))]).run Tryz.prog w=.ok (.bool true) w:=by kernel_rfl
theorem Uh(x y:Value)(w:World):(ReflectliteValue.unpack (.iface 171 (.agg #[x,y]))).run Tryz.prog w=.ok (.agg #[.pointer (some ⟨2,171,none⟩),.pointer (some ⟨w.heap.size,0,none⟩),.int .u64 153]) (w.alloc (.cells #[x,y] 171)):=by kernel_rfl
theorem OJ(a:Addr)(w:World):(ReflectliteValue.parts (.agg #[.pointer (some ⟨2,190,none⟩),.pointer (some a),.int .u64 150])).run Tryz.prog w=.ok (some (190,a,150)) w:=by kernel_rfl
theorem Acx(a:Addr)(w:World):(ReflectliteValue.parts (.agg #[.pointer (some ⟨2,171,none⟩),.pointer (some a),.int .u64 409])).run Tryz.prog w=.ok (some (171,a,409)) w:=by kernel_rfl
theorem Acy(a:Addr)(w:World):(ReflectliteValue.parts (.agg #[.pointer (some ⟨2,171,none⟩),.pointer (some a),.int .u64 153])).run Tryz.prog w=.ok (some (171,a,153)) w:=by kernel_rfl
theorem Acw(w:World):(Rtype.elem? 190).run Tryz.prog w=.ok (some 171) w:=by kernel_rfl
theorem Axm(p:Addr)(w:World):(ReflectliteValue.mk 171 p ReflectliteValue.flagAddr).run Tryz.prog w=.ok (.agg #[.pointer (some ⟨2,171,none⟩),.pointer (some p),.int .u64 409]) w:=by kernel_rfl
theorem Acv(w:World):(Rtype.directlyAssignable 171 171).run Tryz.prog w=.ok true w:=by kernel_rfl
theorem AaY(w:World):(sizeOf 171).run Tryz.prog w=.ok 2 w:=by kernel_rfl
theorem An8(w:World):(isAgg 190).run Tryz.prog w=.ok false w:=by kernel_rfl
theorem An9(w:World):(isAgg 171).run Tryz.prog w=.ok true w:=by kernel_rfl
theorem Ue(a p:Addr)(W:World)(ha:W.cell? a=some (.pointer (some p))):(loadVar 190 a).run Tryz.prog W=.ok (.pointer (some p)) W:=by
 simp[loadVar,An8,ha,Result.andThen]
theorem Afp(b:Addr)(x y:Value)(W:World)(hb:W.cell? b=some x)(hb2:W.cell? (b.add 1)=some y):(loadVar 171 b).run Tryz.prog W=.ok (.agg #[x,y]) W:=by
 have h2:W.cell? ⟨b.block,b.off+1,none⟩=some y:=hb2
 simp[loadVar,An9,AaY,loadCells,loadCellsFrom,Addr.add,hb,h2,Result.andThen]
theorem OI(z:Sem Value)(f:TypeId->Addr->Nat->Nat->Sem Value)(v:Value):ReflectliteValue.method z f #[v]=(do match <-ReflectliteValue.parts v with|none=>z|some (t,a,fl)=>f t a fl (fl % 32)):=rfl
theorem Afm(a p:Addr)(W:World)(ha:W.cell? a=some (.pointer (some p))):
  (ReflectliteValue.method (ReflectliteValue.valueError "reflectlite.Value.IsNil" 0) ReflectliteValue.isNil #[.agg #[.pointer (some ⟨2,190,none⟩),.pointer (some a),.int .u64 150]]).run Tryz.prog W=.ok (.bool false) W:=by
 rw[OI]
 simp only[Sem.run_bind,OJ,Result.andThen]
 simp[ReflectliteValue.isNil,Ue a p W ha,Result.andThen]
theorem Afl(a p:Addr)(W:World)(ha:W.cell? a=some (.pointer (some p))):
  (ReflectliteValue.method (ReflectliteValue.valueError "reflectlite.Value.Elem" 0) ReflectliteValue.elem #[.agg #[.pointer (some ⟨2,190,none⟩),.pointer (some a),.int .u64 150]]).run Tryz.prog W=.ok (.agg #[.pointer (some ⟨2,171,none⟩),.pointer (some p),.int .u64 409]) W:=by
 rw[OI]
 simp only[Sem.run_bind,OJ,Result.andThen]
 simp[ReflectliteValue.elem,Ue a p W ha,Result.andThen,Acw,Axm]
theorem Afu(a c:Addr)(x o:Value)(W:World)(h:W.cell? c=some o):∃o',(W.setCell a x).cell? c=some o':=by
 by_cases hb:a.block=c.block
 .cases hh:W.heap[c.block]? with
  | none=>simp[World.cell?,hh] at h
  | some ob=>
   cases ob with
   | cells c1 t1 f1=>
    have h3:c.spot=none/\c1[c.off]? = some o:=by
     simp only[World.cell?,hh] at h
     cases hs:c.spot with
     | none=>simpa [hs] using h
     | some q=>simp[hs] at h
    have hlt:c.off<c1.size:=(Array.getElem?_eq_some_iff.1 h3.2).1
    refine⟨(if a.spot.isSome then c1 else c1.setIfInBounds a.off x)[c.off]'(by split<;>simpa using hlt),?_⟩
    simp only[World.cell?,World.setCell,Array.getElem?_modify,hb,hh,h3.1,↓reduceIte,Option.map_some,Option.isSome_none,Bool.false_eq_true]
    exact Array.getElem?_eq_getElem _
   | _=>simp[World.cell?,hh] at h
 .exact⟨o,by simp[World.cell?,World.setCell,Array.getElem?_modify,hb] at h ⊢;exact h⟩
theorem Au1(ta b:Addr)(x y old old2:Value)(W:World)(hx:x.oneCell'=true)(hy:y.oneCell'=true)(hb:W.cell? b=some x)(hb2:W.cell? (b.add 1)=some y)(ht:W.cell? ta=some old)(hf:W.frozen? ta=false)(ht2:W.cell? (ta.add 1)=some old2)(hf2:W.frozen? (ta.add 1)=false):
  (ReflectliteValue.set #[.agg #[.pointer (some ⟨2,171,none⟩),.pointer (some ta),.int .u64 409],.agg #[.pointer (some ⟨2,171,none⟩),.pointer (some b),.int .u64 153]]).run Tryz.prog W=.ok (.tuple #[]) ((W.setCell ta x).setCell (ta.add 1) y):=by
 have h1:ReflectliteValue.set #[.agg #[.pointer (some ⟨2,171,none⟩),.pointer (some ta),.int .u64 409],.agg #[.pointer (some ⟨2,171,none⟩),.pointer (some b),.int .u64 153]]=(do
  let (some (dst,a,fl),some (src,b,_)):=(<-ReflectliteValue.parts (.agg #[.pointer (some ⟨2,171,none⟩),.pointer (some ta),.int .u64 409]),<-ReflectliteValue.parts (.agg #[.pointer (some ⟨2,171,none⟩),.pointer (some b),.int .u64 153]))
   | unsupported (.noEntry "extern/(internal/reflectlite.Value).Set.zeroValue")
  if fl / ReflectliteValue.flagAddr % 2==0 then unsupported (.noEntry "extern/(internal/reflectlite.Value).Set.unaddressable")
  let val <-loadVar src b
  if <-Rtype.directlyAssignable dst src then storeVar dst a val
  else if <-Rtype.implements dst src then
   if (<-Rtype.kind src)==20 then
    match val with
    | .nilIface=>unsupported (.noEntry "extern/reflectlite: a nil value of one interface type handed on as a value of another")
    | _=>storeVar dst a val
   else storeVar dst a (.iface src val)
  else panicString ("reflectlite.Set: value of type " ++ (<-Rtype.spelt src) ++ " is not assignable to type " ++ (<-Rtype.spelt dst))
  pure (.tuple #[])):=rfl
 rw[h1]
 simp only[Sem.run_bind,Acx,Acy,Result.andThen]
 have hne:ta≠ta.add 1:=fun h=>by
  have h9:ta.off=(ta.add 1).off:=congrArg Addr.off h
  simp[Addr.add] at h9
 have hc2:∃o,(W.setCell ta x).cell? (ta.add 1)=some o:=Afu ta (ta.add 1) x old2 W ht2
 obtain⟨o,hc2⟩:=hc2
 have hf3:(W.setCell ta x).frozen? (ta.add 1)=false:=(World.frozen?_setCell _ _ _ _).trans hf2
 have h8:(storeCells ta [x,y]).run Tryz.prog W=.ok () ((W.setCell ta x).setCell (ta.add 1) y):=by
  show (do store (Addr.add ta 0) x;(do store (Addr.add ta 1) y;pure ()):Sem Unit).run Tryz.prog W=_
  rw[Sem.run_bind,show Addr.add ta 0=ta from rfl,run_store Tryz.prog W ta _ _ hx]
  simp only[ht,hf,Result.andThen,Bool.false_eq_true,if_false]
  rw[Sem.run_bind,run_store Tryz.prog _ (ta.add 1) _ _ hy]
  simp[hc2,hf3,Result.andThen]
 simp[ReflectliteValue.flagAddr,Afp b x y W hb hb2,Result.andThen,Acv,storeVar,AaY,Value.cells,h8]
set_option maxHeartbeats 4000000 in
theorem AuZ(x y:Value)(t:Addr)(old old2:Value)(w:World)(hx:x.oneCell'=true)(hy:y.oneCell'=true)(hg:w.cell? ⟨0,0,none⟩=some (.iface 224 (.agg #[.pointer (some ⟨2,169,none⟩)])))(ht0:w.cell? t=some old)(hf0:w.frozen? t=false)(ht2:w.cell? (t.add 1)=some old2)(hf2:w.frozen? (t.add 1)=false):
  Calls Tryz.prog 157 #[.iface 171 (.agg #[x,y]),.iface 190 (.pointer (some t))] w fun ev w'=>ev=.returned (.bool true)/\w'=(((((w.alloc (.cells #[.pointer (some t)] 190)).alloc (.cells #[.pointer (some ⟨2,190,none⟩),.pointer (some ⟨w.heap.size,0,none⟩),.int .u64 150] 207)).alloc (.cells #[.pointer (some ⟨2,190,none⟩),.pointer (some ⟨w.heap.size,0,none⟩),.int .u64 150] 207)).alloc (.cells #[x,y] 171)).setCell t x).setCell (t.add 1) y:=by
 have h1:=@run_callFunc_extern Tryz.prog 172 _ (fun args=>ReflectliteValue.unpack (args.getD 0 (.tuple #[]))) Tryz.func172 (by kernel_rfl) (by kernel_rfl) (by kernel_rfl) (by kernel_rfl)
 have h2:=@run_callFunc_extern Tryz.prog 173 _ (ReflectliteValue.methodAny (ReflectliteValue.valueError "reflectlite.Value.Type" 0) (fun t _ _ _=>ReflectliteType.toType t)) Tryz.func173 (by kernel_rfl) (by kernel_rfl) (by kernel_rfl) (by kernel_rfl)
 have h3:=@run_callFunc_extern Tryz.prog 174 _ (ReflectliteValue.method (ReflectliteValue.valueError "reflectlite.Value.IsNil" 0) ReflectliteValue.isNil) Tryz.func174 (by kernel_rfl) (by kernel_rfl) (by kernel_rfl) (by kernel_rfl)
 have h4:=@run_callFunc_extern Tryz.prog 209 _ (ReflectliteType.abiMethod fun t=>do pure (.int .u8 (<-Rtype.kind t))) Tryz.func209 (by kernel_rfl) (by kernel_rfl) (by kernel_rfl) (by kernel_rfl)
 have h5:=@run_callFunc_extern Tryz.prog 232 _ (ReflectliteType.method ReflectliteType.elem) Tryz.func232 (by kernel_rfl) (by kernel_rfl) (by kernel_rfl) (by kernel_rfl)
 have h6:=@run_callFunc_extern Tryz.prog 233 _ (ReflectliteType.relation "Implements" ReflectliteType.implements_) Tryz.func233 (by kernel_rfl) (by kernel_rfl) (by kernel_rfl) (by kernel_rfl)
 have h7:=@run_callFunc_extern Tryz.prog 183 _ ReflectliteType.typeOf Tryz.func183 (by kernel_rfl) (by kernel_rfl) (by kernel_rfl) (by kernel_rfl)
 have h8:=@run_callFunc_extern Tryz.prog 230 _ (ReflectliteType.relation "AssignableTo" ReflectliteType.assignableTo) Tryz.func230 (by kernel_rfl) (by kernel_rfl) (by kernel_rfl) (by kernel_rfl)
 have h9:=@run_callFunc_extern Tryz.prog 184 _ (ReflectliteValue.method (ReflectliteValue.valueError "reflectlite.Value.Elem" 0) ReflectliteValue.elem) Tryz.func184 (by kernel_rfl) (by kernel_rfl) (by kernel_rfl) (by kernel_rfl)
 have h10:=@run_callFunc_extern Tryz.prog 185 _ ReflectliteValue.set Tryz.func185 (by kernel_rfl) (by kernel_rfl) (by kernel_rfl) (by kernel_rfl)
 have k1:=Acz
 have k2:=Xh
 have k3:=Acu
 have k4:=Uh
 have k5:=Ug
 have k6:=Afv
 have k7:=Afs
 have k8:=Afq
 have k9:=Afr
 have k10:=Afn
 have k11:=Afo
 have k12:=Afk
 have k13:=Aoa
 have n8:=Afm ⟨w.heap.size,0,none⟩ t ((w.alloc (.cells #[.pointer (some t)] 190)).alloc (.cells #[.pointer (some ⟨2,190,none⟩),.pointer (some ⟨w.heap.size,0,none⟩),.int .u64 150] 207)) (by simp)
 have hlt:0<w.heap.size:=by
  rcases Nat.lt_or_ge 0 w.heap.size with h|h
  .exact h
  .simp[World.cell?,Array.getElem?_eq_none h] at hg
 have htl:t.block<w.heap.size:=by
  rcases Nat.lt_or_ge t.block w.heap.size with h|h
  .exact h
  .simp[World.cell?,Array.getElem?_eq_none h] at ht0
 have hg2:((w.alloc (.cells #[.pointer (some t)] 190)).alloc (.cells #[.pointer (some ⟨2,190,none⟩),.pointer (some ⟨w.heap.size,0,none⟩),.int .u64 150] 207)).cell? ⟨0,0,none⟩=some (.iface 224 (.agg #[.pointer (some ⟨2,169,none⟩)])):=by
  rw[World.cell?_alloc_lt _ _ ⟨0,0,none⟩ (by simp<;>omega),World.cell?_alloc_lt _ _ ⟨0,0,none⟩ hlt];exact hg
 have el:=Afl ⟨w.heap.size,0,none⟩ t (((w.alloc (.cells #[.pointer (some t)] 190)).alloc (.cells #[.pointer (some ⟨2,190,none⟩),.pointer (some ⟨w.heap.size,0,none⟩),.int .u64 150] 207)).alloc (.cells #[.pointer (some ⟨2,190,none⟩),.pointer (some ⟨w.heap.size,0,none⟩),.int .u64 150] 207)) (by rw[World.cell?_alloc_lt _ _ ⟨w.heap.size,0,none⟩ (by simp;omega)];simp)
 have up:∀(a:Addr) (v:Value),a.block<w.heap.size->w.cell? a=some v->((((w.alloc (.cells #[.pointer (some t)] 190)).alloc (.cells #[.pointer (some ⟨2,190,none⟩),.pointer (some ⟨w.heap.size,0,none⟩),.int .u64 150] 207)).alloc (.cells #[.pointer (some ⟨2,190,none⟩),.pointer (some ⟨w.heap.size,0,none⟩),.int .u64 150] 207)).alloc (.cells #[x,y] 171)).cell? a=some v:=fun a v h1 h2=>by
  rw[World.cell?_alloc_lt _ _ a (by simp;omega),World.cell?_alloc_lt _ _ a (by simp;omega),World.cell?_alloc_lt _ _ a (by simp;omega),World.cell?_alloc_lt _ _ a h1];exact h2
 have upf:∀(a:Addr),a.block<w.heap.size->w.frozen? a=false->((((w.alloc (.cells #[.pointer (some t)] 190)).alloc (.cells #[.pointer (some ⟨2,190,none⟩),.pointer (some ⟨w.heap.size,0,none⟩),.int .u64 150] 207)).alloc (.cells #[.pointer (some ⟨2,190,none⟩),.pointer (some ⟨w.heap.size,0,none⟩),.int .u64 150] 207)).alloc (.cells #[x,y] 171)).frozen? a=false:=fun a h1 h2=>by
  rw[World.frozen?_alloc_old _ _ a (by simp;omega),World.frozen?_alloc_old _ _ a (by simp;omega),World.frozen?_alloc_old _ _ a (by simp;omega),World.frozen?_alloc_old _ _ a (Nat.ne_of_lt h1)];exact h2
 have st:=Au1 t ⟨w.heap.size+1+1+1,0,none⟩ x y old old2 ((((w.alloc (.cells #[.pointer (some t)] 190)).alloc (.cells #[.pointer (some ⟨2,190,none⟩),.pointer (some ⟨w.heap.size,0,none⟩),.int .u64 150] 207)).alloc (.cells #[.pointer (some ⟨2,190,none⟩),.pointer (some ⟨w.heap.size,0,none⟩),.int .u64 150] 207)).alloc (.cells #[x,y] 171)) hx hy
  (by rw[World.cell?_alloc_at _ _ _ _ (by simp)];rfl)
  (by rw[show (Addr.add ⟨w.heap.size+1+1+1,0,none⟩ 1:Addr)=⟨w.heap.size+1+1+1,1,none⟩ from rfl,World.cell?_alloc_at _ _ _ _ (by simp)];rfl)
  (up t old htl ht0) (upf t htl hf0) (up (t.add 1) old2 htl ht2) (upf (t.add 1) htl hf2)
 go_enter Tryz.func157,Tryz.ntmps157
 go_wp2
 refine wp_loop_rounds 1 ?_
 rw[rounds_succ]
 go_wp2
 go_ret
 exact⟨rfl,rfl⟩
end Go.Proofs.YtknnbjmcfibpgaaGreatDoor
namespace Go.Proofs
open Go.Shelf
def Tryz.lays190_ren:Go.Shelf.Ren:=⟨fun|190=>115|125=>144|258=>143|128=>169|129=>170|302=>160|303=>161|304=>162|305=>163|306=>164|307=>165|308=>166|309=>167|310=>168|333=>177|329=>178|330=>179|334=>180|335=>181|336=>182|344=>187|n=>n,fun|31=>35|9=>9|3=>3|46=>152|0=>0|51=>201|53=>82|4=>4|183=>193|182=>192|131=>198|5=>5|218=>218|222=>221|228=>238|229=>91|n=>n,fun|n=>n⟩
theorem Tryz.lays190:Go.Proofs.Lays.n190 Tryz.prog Tryz.lays190_ren:={
 mixed:=by kernel_rfl
 f125:=Tryz.func144.trans (congrArg some (by kernel_rfl))
 f128:=Tryz.func169.trans (congrArg some (by kernel_rfl))
 f129:=Tryz.func170.trans (congrArg some (by kernel_rfl))
 f190:=Tryz.func115.trans (congrArg some (by kernel_rfl))
 f258:=Tryz.func143.trans (congrArg some (by kernel_rfl))
 f302:=Tryz.func160.trans (congrArg some (by kernel_rfl))
 f303:=Tryz.func161.trans (congrArg some (by kernel_rfl))
 f304:=Tryz.func162.trans (congrArg some (by kernel_rfl))
 f305:=Tryz.func163.trans (congrArg some (by kernel_rfl))
 f306:=Tryz.func164.trans (congrArg some (by kernel_rfl))
 f307:=Tryz.func165.trans (congrArg some (by kernel_rfl))
 f308:=Tryz.func166.trans (congrArg some (by kernel_rfl))
 f309:=Tryz.func167.trans (congrArg some (by kernel_rfl))
 f310:=Tryz.func168.trans (congrArg some (by kernel_rfl))
 f329:=Tryz.func178.trans (congrArg some (by kernel_rfl))
 f330:=Tryz.func179.trans (congrArg some (by kernel_rfl))
 f333:=Tryz.func177.trans (congrArg some (by kernel_rfl))
 f334:=Tryz.func180.trans (congrArg some (by kernel_rfl))
 f335:=Tryz.func181.trans (congrArg some (by kernel_rfl))
 f336:=Tryz.func182.trans (congrArg some (by kernel_rfl))
 f344:=Tryz.func187.trans (congrArg some (by kernel_rfl))
 t0:=Tryz.underlying0
 a0:=Tryz.isAgg0
 z0:=Tryz.sizeOf0
 v0:=Tryz.zeroValue0
 t3:=Tryz.underlying3
 a3:=Tryz.isAgg3
 z3:=Tryz.sizeOf3
 v3:=Tryz.zeroValue3
 t4:=Tryz.underlying4
 a4:=Tryz.isAgg4
 z4:=Tryz.sizeOf4
 v4:=Tryz.zeroValue4
 t5:=Tryz.underlying5
 a5:=Tryz.isAgg5
 z5:=Tryz.sizeOf5
 v5:=Tryz.zeroValue5
 t9:=Tryz.underlying9
 a9:=Tryz.isAgg9
 z9:=Tryz.sizeOf9
 v9:=Tryz.zeroValue9
 t31:=Tryz.underlying35
 a31:=Tryz.isAgg35
 z31:=Tryz.sizeOf35
 v31:=Tryz.zeroValue35
 t46:=Tryz.underlying152
 a46:=Tryz.isAgg152
 z46:=Tryz.sizeOf152
 v46:=Tryz.zeroValue152
 t51:=Tryz.underlying201
 a51:=Tryz.isAgg201
 z51:=Tryz.sizeOf201
 v51:=Tryz.zeroValue201
 t53:=Tryz.underlying82
 a53:=Tryz.isAgg82
 z53:=Tryz.sizeOf82
 v53:=Tryz.zeroValue82
 t131:=Tryz.underlying198
 a131:=Tryz.isAgg198
 z131:=Tryz.sizeOf198
 v131:=Tryz.zeroValue198
 t182:=Tryz.underlying192
 a182:=Tryz.isAgg192
 z182:=Tryz.sizeOf192
 v182:=Tryz.zeroValue192
 t183:=Tryz.underlying193
 a183:=Tryz.isAgg193
 z183:=Tryz.sizeOf193
 v183:=Tryz.zeroValue193
 t218:=Tryz.underlying218
 a218:=Tryz.isAgg218
 z218:=Tryz.sizeOf218
 v218:=Tryz.zeroValue218
 t222:=Tryz.underlying221
 a222:=Tryz.isAgg221
 z222:=Tryz.sizeOf221
 v222:=Tryz.zeroValue221
 t228:=Tryz.underlying238
 a228:=Tryz.isAgg238
 z228:=Tryz.sizeOf238
 v228:=Tryz.zeroValue238
 t229:=Tryz.underlying91
 a229:=Tryz.isAgg91
 z229:=Tryz.sizeOf91
 v229:=Tryz.zeroValue91 }
end Go.Proofs
namespace Go.Proofs.YtknnbjmcfibpgaaGreatDoor
open Go Go.Sort Go.Shelf
theorem Axb(blk off cap:Nat)(ss:List (List UInt8))(w:World)(hH:Holds encStr w blk off ss.toArray)(hblk:blk<w.heap.size)(hsz:ss.length<4611686018427387904):
  Calls Tryz.prog 115 #[.slice (some ⟨blk,off,none⟩) ss.length cap] w fun e w'=>e=.returned (.tuple #[])/\∃n os,w'=grow (putRow encStr (Sort.ahead w n) blk off (ss.mergeSort fun x y=>decide (x<=y)).toArray) os:=
 Any.slices_Sort_string Tryz.lays190 blk off cap ss w hH hblk hsz
end Go.Proofs.YtknnbjmcfibpgaaGreatDoor
namespace Go.Eng
open Go
section
variable [Pins] {P:Program} {m:Mp} {Z:aC} {w:World} {f:FuncId} {fn:Func} {body:Code} {args':Array Value}
theorem CallOK.of_store2(hf:P.funcs[f]? = some fn)(hb:fn.body=some body)(hname:(fn.name == "runtime.NumGoroutine")=false)(hr:Rel Top m Z w){p p' x x' y y':Value}{V:aC}(hst:aK 2 p (.agg #[x,y]) Z=.skip V)(hp:bE m p p')(hx:bE m x x')(hy:bE m y y')(h:∀(t:Addr) (old old2:Value),p'=.pointer (some t)->x'.oneCell'=true->y'.oneCell'=true->w.cell? t=some old->w.frozen? t=false->w.cell? (t.add 1)=some old2->w.frozen? (t.add 1)=false->∃w4:World,(∀j,j<w.heap.size->w4.heap[j]? = w.heap[j]?)/\w.heap.size<=w4.heap.size/\w4.os=w.os/\w4.tape=w.tape/\w4.output=w.output/\
   Calls P f args' w fun e w'=>e=.returned (.bool true)/\w'=(w4.setCell t x').setCell (t.add 1) y'):CallOK P m Z w f args' none (.ret (.bool true) none V):=by
 obtain⟨b,off,ent,c,el,c',rfl,hg,ho,hro,hc,hs,rfl⟩:=FO hst
 have hvc:aI (.agg #[x,y])=[x,y]:=rfl
 rw[hvc] at hc hs
 generalize hpp:p'=pp at hp
 cases hp with
 | ptr hm=>
  rename_i e
  have hcc:oneCell x=true/\oneCell y=true:=by simpa using (Bool.and_eq_true_iff.1 hc).2
  have hone:x'.oneCell'=true:=QH (EX hx hcc.1)
  have hone2:y'.oneCell'=true:=QH (EX hy hcc.2)
  obtain⟨hre,hsy⟩:=hr.sync b ent e trivial hg hm
  rw[ho] at hsy
  obtain⟨ca,el',fr,h2,h3,h4,_⟩:=hsy
  have hoff:off+1<c.length:=by
   rw[DW] at hs
   by_cases hle:off+[x,y].length<=c.length
   .simp at hle
    omega
   .rw[if_neg hle] at hs
    cases hs
  obtain⟨old,h5,_⟩:=h4 off c[off] (List.getElem?_eq_getElem (by omega))
  obtain⟨old2,h52,_⟩:=h4 (off+1) c[off+1] (List.getElem?_eq_getElem hoff)
  have hlt:e.blk<w.heap.size:=(hr.dom _ _ hm).2
  have hfr:=h3 (by rw[<-hre];exact hro)
  have cell:∀w4:World,w4.heap[e.blk]? = w.heap[e.blk]? -> ∀(o:Nat) (v:Value),ca[e.sh+o]? = some v->w4.cell? ⟨e.blk,e.sh+o,none⟩=some v/\w4.frozen? ⟨e.blk,e.sh+o,none⟩=false:=fun w4 hw4 o v hv=>by
   rw[h2] at hw4
   exact⟨by simp[World.cell?,hw4,hv],by simp[World.frozen?,hw4,hfr]⟩
  have hadd:Addr.add ⟨e.blk,e.sh+off,none⟩ 1=⟨e.blk,e.sh+(off+1),none⟩:=by simp[Addr.add,Nat.add_assoc]
  obtain⟨w4,g1,g2,g3,g4,g5,g6⟩:=h _ old old2 hpp hone hone2 (cell w rfl off old h5).1 (cell w rfl off old h5).2 (by rw[hadd];exact(cell w rfl (off+1) old2 h52).1) (by rw[hadd];exact(cell w rfl (off+1) old2 h52).2)
  have hr4:Rel Top m Z w4:=hr.moreWorld g1 g2
  have hS4:Step Z Z m m w w4:=(Step.refl Z m w).moreWorld g1 g2 g3 g4 g5
  obtain⟨w',k1,k2,k3⟩:=hr4.splice (P:=P) hm hg ho hro hs (.cons hx (.cons hy .nil)) (fun v hv=>by
   rcases List.mem_cons.1 hv with rfl|hv
   .exact hone
   .rw[List.mem_singleton] at hv
    rw[hv]
    exact hone2)
  have c1:=cell w4 (g1 _ hlt) off old h5
  have c2:=cell w4 (g1 _ hlt) (off+1) old2 h52
  have hne:((e.sh+off:Nat))≠e.sh+(off+1):=by omega
  have hc2:(w4.setCell ⟨e.blk,e.sh+off,none⟩ x').cell? ⟨e.blk,e.sh+(off+1),none⟩=some old2:=by
   have hw4:=g1 _ hlt
   rw[h2] at hw4
   simp[World.setCell,World.cell?,Array.getElem?_modify,hw4,h52,Array.getElem?_setIfInBounds,Array.getElem?_set]
  have hf2:(w4.setCell ⟨e.blk,e.sh+off,none⟩ x').frozen? ⟨e.blk,e.sh+(off+1),none⟩=false:=(World.frozen?_setCell _ _ _ _).trans c2.2
  have hrun:(storeCells ⟨e.blk,e.sh+off,none⟩ [x',y']).run P w4=.ok () ((w4.setCell ⟨e.blk,e.sh+off,none⟩ x').setCell (Addr.add ⟨e.blk,e.sh+off,none⟩ 1) y'):=by
   show (do store (Addr.add ⟨e.blk,e.sh+off,none⟩ 0) x';(do store (Addr.add ⟨e.blk,e.sh+off,none⟩ 1) y';pure ()):Sem Unit).run P w4=_
   rw[Sem.run_bind,run_store P w4 _ _ _ hone]
   rw[hadd]
   simp[Addr.add,c1.1,c1.2,Result.andThen,Sem.run_bind,run_store P _ _ _ _ hone2,hc2,hf2]
  rw[hrun] at k1
  cases k1
  exact CallOK.of_calls hf hb hname g6 k2 (hS4.trans k3) (.bool true)
end
end Go.Eng
namespace Go.Eng
open Go Go.Sort
theorem J7(b:Nat):∀(vs:List Value) (o:Nat) (w:World),w.setCells b o vs=mapBlock w b fun c=>c.mapIdx fun k x=>if o<=k/\k<o+vs.length then vs.getD (k-o) x else x
 | [],o,w=>by
  rw[mapBlock_id]
  .rfl
  .intro c e fr _
   apply Array.ext_getElem?
   intro k
   rw[Array.getElem?_mapIdx]
   cases c[k]? with
   | none=>rfl
   | some x=>rw[Option.map_some,if_neg (by simp)]
 | v::r,o,w=>by
  show (w.setCell ⟨b,o,none⟩ v).setCells b (o+1) r=_
  rw[J7 b r (o+1),setCell_eq,mapBlock_mapBlock]
  refine mapBlock_congr _ _ _ _ fun c e fr _=>?_
  apply Array.ext_getElem?
  intro k
  rw[Array.getElem?_mapIdx,Array.getElem?_mapIdx,Array.getElem?_setIfInBounds]
  by_cases hk:o=k
  .subst hk
   rw[if_pos rfl]
   by_cases hs:o<c.size
   .rw[if_pos hs,Array.getElem?_eq_getElem hs,Option.map_some,Option.map_some,if_neg (by omega),if_pos (by simp)]
    simp
   .rw[if_neg hs,Array.getElem?_eq_none (by omega)]
    rfl
  .rw[if_neg hk]
   cases c[k]? with
   | none=>rfl
   | some x=>
    rw[Option.map_some,Option.map_some]
    by_cases h:o+1<=k/\k<o+1+r.length
    .rw[if_pos h,if_pos (by simp;omega),show k-o=(k-(o+1))+1 by omega,List.getD_cons_succ]
    .rw[if_neg h,if_neg (by simp;omega)]
theorem TQ{α:Type}[Inhabited α](enc:α->Value)(w:World)(b o:Nat)(d:Array α):w.setCells b o (d.toList.map enc)=putRow enc w b o d:=by
 rw[J7]
 unfold putRow
 refine mapBlock_congr _ _ _ _ fun c e fr _=>?_
 unfold putCells
 apply Array.ext_getElem?
 intro k
 rw[Array.getElem?_mapIdx,Array.getElem?_mapIdx]
 cases c[k]? with
 | none=>rfl
 | some x=>
  rw[Option.map_some,Option.map_some,List.length_map,Array.length_toList]
  by_cases h:o<=k/\k<o+d.size
  .rw[if_pos h,if_pos h]
   have hk:k-o<d.size:=by omega
   rw[List.getD_eq_getElem?_getD,List.getElem?_map,Array.getElem?_toList,Array.getElem?_eq_getElem hk,Option.map_some,Option.getD_some,getElem!_pos d (k-o) hk]
  .rw[if_neg h,if_neg h]
section
variable [Pins] {P:Program} {m:Mp} {Z:aC} {w:World} {f:FuncId} {fn:Func} {body:Code} {args':Array Value}
theorem CallOK.of_calls2(hf:P.funcs[f]? = some fn)(hb:fn.body=some body)(hname:(fn.name == "runtime.NumGoroutine")=false){m':Mp}{V:aC}{R:World->Prop}{v v':Value}(h:Calls P f args' w fun e w'=>e=.returned v'/\R w')(k:∀w1,R w1->Rel Top m' V w1/\Step Z V m m' w w1)(hV:bE m' v v'):CallOK P m Z w f args' none (.ret v none V):=by
 refine .inr ⟨Ef hf hb hname,fun cs hu=>?_⟩
 obtain⟨e,w',fr,⟨rfl,hR⟩,hc,hfn,hl⟩:=h cs
 obtain⟨h1,h2⟩:=k w' hR
 exact⟨m',_,v',fr,cs,h1,h2,hV,hu,.refl _ _,StepsIn.of_steps hc,hfn,hl.2.2.1,⟨hl.1,hl.2.1,hl.2.2.2⟩⟩
theorem CallOK.of_row(hf:P.funcs[f]? = some fn)(hb:fn.body=some body)(hname:(fn.name == "runtime.NumGoroutine")=false)(hr:Rel Top m Z w){α:Type}[Inhabited α](enc:α->Value)(d:Array α){b off:Nat}{e:MEnt}{V:aC}(hst:aK d.size (.pointer (some ⟨b,off,none⟩)) (.agg (d.toList.map enc).toArray) Z=.skip V)(hm:m b=some e)(hx:∀x,bE m (enc x) (enc x))(hone:∀x,(enc x).oneCell'=true)(h:e.blk<w.heap.size->(∀ent c el,Z.heap.get b=some ent->ent.obj=.cells c el->∀j v,j<d.size->c[off+j]? = some v->∃v',w.cell? ⟨e.blk,e.sh+off+j,none⟩=some v'/\bE m v v'/\w.frozen? ⟨e.blk,e.sh+off+j,none⟩=false)->
   Calls P f args' w fun x w'=>x=.returned (.tuple #[])/\∃n os,w'=grow (putRow enc (Sort.ahead w n) e.blk (e.sh+off) d) os):CallOK P m Z w f args' none (.ret (.tuple #[]) none V):=by
 obtain⟨b',off',ent,c,el,c',hbb,hg,ho,hro,hc,hs,rfl⟩:=FO hst
 cases hbb
 have hvc:aI (.agg (d.toList.map enc).toArray)=d.toList.map enc:=rfl
 rw[hvc] at hc hs
 obtain⟨hre,hsy⟩:=hr.sync b ent e trivial hg hm
 rw[ho] at hsy
 obtain⟨ca,el',fr,h2,h3,h4,_⟩:=hsy
 have hoff:off+d.size<=c.length:=by
  rw[DW] at hs
  by_cases hle:off+(d.toList.map enc).length<=c.length
  .simpa using hle
  .rw[if_neg hle] at hs
   cases hs
 have hlt:e.blk<w.heap.size:=(hr.dom _ _ hm).2
 have hfr:=h3 (by rw[<-hre];exact hro)
 have cell:∀w4:World,w4.heap[e.blk]? = w.heap[e.blk]? -> ∀j,j<d.size->(w4.cell? ⟨e.blk,e.sh+off+j,none⟩).isSome=true/\w4.frozen? ⟨e.blk,e.sh+off+j,none⟩=false:=fun w4 hw4 j hj=>by
  obtain⟨old,h5,_⟩:=h4 (off+j) c[off+j] (List.getElem?_eq_getElem (by omega))
  rw[h2] at hw4
  have h5':ca[e.sh+off+j]? = some old:=by rw[Nat.add_assoc];exact h5
  exact⟨by simp[World.cell?,hw4,h5'],by simp[World.frozen?,hw4,hfr]⟩
 refine CallOK.of_calls2 (m':=m) hf hb hname (h hlt fun ent2 c2 el2 hg2 ho2 j v hj hv=>by
  rw[hg] at hg2
  cases hg2
  rw[ho] at ho2
  cases ho2
  obtain⟨v',h5,h6⟩:=h4 (off+j) v hv
  have h5':ca[e.sh+off+j]? = some v':=by rw[Nat.add_assoc];exact h5
  exact⟨v',by simp[World.cell?,h2,h5'],h6,by simp[World.frozen?,h2,hfr]⟩) (fun w1 hw1=>?_) (.unknown _)
 obtain⟨n,os,rfl⟩:=hw1
 have g1:∀j,j<w.heap.size->(grow (Sort.ahead w n) os).heap[j]? = w.heap[j]?:=fun j hj=>heap_grow_old (Sort.ahead w n) os hj
 have g2:w.heap.size<=(grow (Sort.ahead w n) os).heap.size:=by rw[size_grow];exact Nat.le_add_right _ _
 have hr4:Rel Top m Z (grow (Sort.ahead w n) os):=hr.moreWorld g1 g2
 have hS4:Step Z Z m m w (grow (Sort.ahead w n) os):=(Step.refl Z m w).moreWorld g1 g2 rfl rfl rfl
 have hL:LRel m (d.toList.map enc) (d.toList.map enc):=⟨rfl,fun i v v' h1 h2=>by
  rw[h1] at h2
  cases h2
  rw[List.getElem?_map] at h1
  obtain⟨x,_,rfl⟩:=Option.map_eq_some_iff.1 h1
  exact hx x⟩
 have hO:∀v∈d.toList.map enc,v.oneCell'=true:=fun v hv=>by
  obtain⟨x,_,rfl⟩:=List.mem_map.1 hv
  exact hone x
 obtain⟨w',k1,k2,k3⟩:=hr4.splice (P:=P) hm hg ho hro hs hL hO
 have hcell:=cell (grow (Sort.ahead w n) os) (g1 _ hlt)
 have hrun:=run_storeCells_cells (P:=P) e.blk (e.sh+off) (d.toList.map enc) 0 (grow (Sort.ahead w n) os) (fun j hj=>(hcell j (by simpa using hj)).1) (fun j hj=>(hcell j (by simpa using hj)).2) hO
 rw[hrun,Nat.add_zero,TQ,putRow_grow enc (Sort.ahead w n) os e.blk (e.sh+off) d hlt] at k1
 cases k1
 exact⟨k2,hS4.trans k3⟩
end
end Go.Eng
namespace Go.Proofs.YtknnbjmcfibpgaaGreatDoor
open Go Go.Eng
def handle:Value:=.iface 224 (.agg #[.pointer (some ⟨2,169,none⟩)])
theorem Aft:(Tryz.prog.funcs.toList.all fun fn=>!(fn.name == "runtime.NumGoroutine"))=true:=by kernel_rfl
theorem Uf(f:FuncId)(fn:Func)(h:Tryz.prog.funcs[f]? = some fn):(fn.name == "runtime.NumGoroutine")=false:=by
 have:=List.all_eq_true.1 Aft fn (by
  rw[Array.mem_toList_iff]
  exact Array.mem_of_getElem? h)
 simpa using this
theorem KA(x:List UInt8):∀l,(insS x l).Perm (x::l)
 | []=>.refl _
 | y::l=>by
  rw[insS]
  split
  .exact .refl _
  .exact((KA x l).cons y).trans (.swap x y l)
theorem Hb:∀l,(sortS l).Perm l
 | []=>.refl _
 | x::l=>(KA x (sortS l)).trans ((Hb l).cons x)
theorem La(x:List UInt8):∀l:List (List UInt8),l.Pairwise (· <= ·)->(insS x l).Pairwise (· <= ·)
 | [],_=>by simp[insS]
 | y::l,h=>by
  rw[insS]
  have h':=List.pairwise_cons.1 h
  split
  .rename_i hxy
   exact List.pairwise_cons.2 ⟨fun z hz=>by
    rcases List.mem_cons.1 hz with rfl|hz
    .exact hxy
    .exact List.le_trans hxy (h'.1 z hz),h⟩
  .rename_i hxy
   have hyx:y<=x:=(List.le_total x y).resolve_left hxy
   exact List.pairwise_cons.2 ⟨fun z hz=>by
    rcases List.mem_cons.1 ((KA x l).mem_iff.1 hz) with rfl|hz
    .exact hyx
    .exact h'.1 z hz,La x l h'.2⟩
theorem Hc:∀l,(sortS l).Pairwise (· <= ·)
 | []=>.nil
 | x::l=>La x _ (Hc l)
theorem WZ(l:List (List UInt8)):sortS l=l.mergeSort fun x y=>decide (x<=y):=by
 refine List.Perm.eq_of_pairwise (le:=fun x y=>x<=y) (fun a b _ _=>List.le_antisymm) (Hc l) ?_ ((Hb l).trans (List.mergeSort_perm l _).symm)
 refine(List.pairwise_mergeSort (fun a b c h1 h2=>?_) (fun a b=>?_) l).imp fun h=>by simpa using h
 .simp only[decide_eq_true_eq] at *
  exact List.le_trans h1 h2
 .simp only[Bool.or_eq_true,decide_eq_true_eq]
  exact List.le_total a b
theorem Lr:∀ {l:List Value} {ss:List (List UInt8)},textsOf l=some ss->ss.length=l.length/\∀(j:Nat) (x:List UInt8),ss[j]? = some x->l[j]? = some (encS x)
 | [],ss,h=>by cases h;exact⟨rfl,fun j x hx=>by simp at hx⟩
 | v::r,ss,h=>by
  unfold textsOf at h
  split at h
  .rename_i heq;cases heq
  .rename_i s r' heq
   cases heq
   split at h
   .rename_i l hl
    cases h
    obtain⟨h1,h2⟩:=Lr hl
    refine⟨by simp[h1],fun j x hx=>?_⟩
    cases j with
    | zero=>simp at hx;subst hx;simp[encS]
    | succ j=>simpa using h2 j x (by simpa using hx)
   .cases h
  .cases h
theorem Ae7[Pins]{Z:aC}{m:Mp}{w:World}{b off len c:Nat}{args':Array Value}{cs:List Value}{ss:List (List UInt8)}{V:aC}(hr:Rel Top m Z w)(hA:LRel m [.slice (some ⟨b,off,none⟩) len c] args'.toList)(hc:Z.cells b=some cs)(hs:textsOf ((cs.drop off).take len)=some ss)(hl:ss.length=len)(h0:1<=len)(h9:len<=1000000000)(hst:aK len (.pointer (some ⟨b,off,none⟩)) (.agg ((sortS ss).map encS).toArray) Z=.skip V):
  CallOK Tryz.prog m Z w 115 args' none (.ret (.tuple #[]) none V):=by
 obtain⟨L'⟩:=args'
 match L',hA with
 | [],hA=>simp[LRel] at hA
 | _::_::_,hA=>simp[LRel] at hA
 | [a'],hA=>
  have hlen:(sortS ss).length=len:=(Hb ss).length_eq.trans hl
  have h1:=hA.head
  cases h1 with
  | empty hm=>omega
  | slice hm hcap=>
   rename_i c' e
   have hst':aK (sortS ss).toArray.size (.pointer (some ⟨b,off,none⟩)) (.agg ((sortS ss).toArray.toList.map encS).toArray) Z=.skip V:=by
    rw[List.size_toArray,hlen];exact hst
   have hname:=Uf 115 _ Tryz.func115
   refine CallOK.of_row Tryz.func115 rfl hname hr encS (sortS ss).toArray hst' hm (fun x=>.string _) (fun x=>rfl) fun hlt hcell=>?_
   rw[List.size_toArray,hlen] at hcell
   have hss:=Lr hs
   have hh:=Axb e.blk (e.sh+off) c' ss w (fun j hj=>by
    simp only[List.size_toArray] at hj
    obtain⟨ent,hg,ho⟩:∃ent,Z.heap.get b=some ent/\∃el,ent.obj=.cells cs el:=by
     rw[aC.cells] at hc
     cases hg:Z.heap.get b with
     | none=>rw[hg] at hc;cases hc
     | some ent=>
      rw[hg] at hc
      refine⟨ent,rfl,?_⟩
      cases ho:ent.obj<;>simp[ho,FObj.cells?] at hc
      subst hc
      exact⟨_,rfl⟩
    obtain⟨el,ho⟩:=ho
    have hj2:=hss.2 j ss[j] (List.getElem?_eq_getElem hj)
    rw[List.getElem?_take,if_pos (by omega),List.getElem?_drop] at hj2
    obtain⟨v',h3,h4,h5⟩:=hcell ent cs el hg ho j (encS ss[j]) (by omega) hj2
    cases h4
    refine⟨?_,h5⟩
    rw[h3]
    simp only[List.getElem!_toArray]
    rw[getElem!_pos ss j hj]) hlt (by omega)
   rw[hl] at hh
   exact hh.mono fun x w' h=>by
    rw[<-WZ] at h
    exact h
theorem AnT[Pins](W:World)(hpin:∀o,W.heap[0]? = some o->Pins.on 0 o)(hg:W.cell? ⟨0,0,none⟩=some handle):SumOK Tryz.prog sums:=by
 intro f args Z r m w args' h hr hA
 unfold sums at h
 cases hso:Nat.beq f 115 with
 | true=>
  rw[hso,cond_true] at h
  rw[Nat.beq_eq] at hso
  subst hso
  split at h
  .rename_i b off len c
   cases h0:(Nat.ble 1 len&&Nat.ble len 1000000000) with
   | false=>rw[h0] at h;cases h
   | true=>
    rw[h0,cond_true] at h
    split at h
    .rename_i cs hc
     split at h
     .rename_i ss hs
      cases hl:Nat.beq ss.length len with
      | false=>rw[hl] at h;cases h
      | true=>
       rw[hl,cond_true] at h
       split at h
       .rename_i V hst
        cases h
        exact Ae7 hr hA hc hs (Nat.eq_of_beq_eq_true hl) (Nat.le_of_ble_eq_true (Bool.and_eq_true_iff.1 h0).1) (Nat.le_of_ble_eq_true (Bool.and_eq_true_iff.1 h0).2) hst
       .cases h
     .cases h
    .cases h
  .cases h
 | false=>
 rw[hso,cond_false] at h
 cases hf:Nat.beq f 157 with
 | false=>rw[hf] at h;cases h
 | true=>
  rw[hf] at h
  rw[Nat.beq_eq] at hf
  subst hf
  have hname:=Uf 157 _ Tryz.func157
  obtain⟨L'⟩:=args'
  simp only[cond_true] at h
  split at h
  .rename_i p
   cases h
   match L',hA with
   | [a',p'],hA=>
    have h1:=hA.head
    cases h1
    exact CallOK.of_calls Tryz.func157 rfl hname (Au0 p' w) hr (.refl _ _ _) (.bool false)
   | [],hA=>simp[LRel] at hA
   | [_],hA=>simp[LRel] at hA
   | _::_::_::_,hA=>simp[LRel] at hA
  .rename_i t cs pt p
   cases hc:(Nat.beq t 171&&Nat.beq pt 190) with
   | false=>rw[hc] at h;cases h
   | true=>
    rw[hc] at h
    simp only[Bool.and_eq_true,Nat.beq_eq] at hc
    obtain⟨rfl,rfl⟩:=hc
    simp only[cond_true] at h
    split at h
    .rename_i x y hx
     split at h
     .rename_i V hst
      cases h
      match L',hA with
      | [a',p'],hA=>
       have h1:=hA.head
       have h2:=hA.tail.head
       cases h1 with
       | iface _ h1=>
       cases h2 with
       | iface _ h2=>
       rename_i v' q'
       cases h1 with
       | agg hsz hel=>
        rename_i cs'
        have hcs:cs = #[x,y]:=by
         apply Array.ext'
         simpa using hx
        subst hcs
        obtain⟨l'⟩:=cs'
        match l',hsz,hel with
        | [x',y'],hsz,hel=>
         have hxx:bE m x x':=hel 0 x x' rfl rfl
         have hyy:bE m y y':=hel 1 y y' rfl rfl
         refine CallOK.of_store2 Tryz.func157 rfl hname hr hst h2 hxx hyy fun ta old old2 hp hone hone2 hct hfr hct2 hfr2=>?_
         subst hp
         have hgw:w.cell? ⟨0,0,none⟩=some handle:=by
          cases ho:W.heap[0]? with
          | none=>simp[World.cell?,ho] at hg
          | some o=>
           have:=(hr.pin 0 o (hpin o ho)).1
           rw[<-hg]
           simp[World.cell?,ho,this]
         have hlt:∀(w:World) (o:Obj) (j:Nat),j<w.heap.size->(w.alloc o).heap[j]? = w.heap[j]?:=fun w o j hj=>by
          show (w.heap.push o)[j]? = _
          exact(Array.getElem?_push_lt hj).trans (Array.getElem?_eq_getElem hj).symm
         have hs:∀(w:World) (o:Obj),(w.alloc o).heap.size=w.heap.size+1:=fun w o=>by
          show (w.heap.push o).size=_
          simp
         have hhit:=AuZ x' y' ta old old2 w hone hone2 hgw hct hfr hct2 hfr2
         refine⟨_,?_,?_,?_,?_,?_,hhit⟩
         .intro j hj
          rw[hlt _ _ j (by rw[hs,hs,hs];omega),hlt _ _ j (by rw[hs,hs];omega),hlt _ _ j (by rw[hs];omega),hlt _ _ j hj]
         .rw[hs,hs,hs,hs]
          omega
         .rfl
         .rfl
         .rfl
        | [],hsz,hel=>simp at hsz
        | [_],hsz,hel=>simp at hsz
        | _::_::_::_,hsz,hel=>simp at hsz
      | [],hA=>simp[LRel] at hA
      | [_],hA=>simp[LRel] at hA
      | _::_::_::_,hA=>simp[LRel] at hA
     .cases h
    .cases h
  .cases h
end Go.Proofs.YtknnbjmcfibpgaaGreatDoor
namespace Go.Proofs.YtknnbjmcfibpgaaGreatDoor
open Go Go.Eng
attribute [local congr] Aa Af Ad Ab Ac
attribute [-go_sem] List.range_succ
def top(n:Nat):Env where
 call:=fun f args u Z=>match u with
  | none=>bif Nat.beq f 7&&args.isEmpty then .ret (.bool true) none Z else (env n).call f args none Z
  | some md=>(env n).call f args (some md) Z
 round:=fun l args Z=>(env n).round l args Z
theorem Er(n:Nat)(f:FuncId)(args:List Value)(Z:aC)(h:Nat.beq f 7=false):(top n).call f args none Z=(env n).call f args none Z:=by
 show (bif Nat.beq f 7&&args.isEmpty then CRes.ret (.bool true) none Z else (env n).call f args none Z)=_
 rw[h]
 rfl
theorem PX(n:Nat)(Z:aC):(top n).call 7 [] none Z=.ret (.bool true) none Z:=rfl
theorem NW:Tryz.prog.follows .mixedOrders=true:=by kernel_rfl
theorem AnU:(Tryz.prog.funcs.toList.all fun fn=>!(fn.name == "runtime.NumGoroutine"))=true:=by kernel_rfl
theorem J9(f:FuncId)(fn:Func)(h:Tryz.prog.funcs[f]? = some fn):(fn.name == "runtime.NumGoroutine")=false:=by
 have:=List.all_eq_true.1 AnU fn (by
  rw[Array.mem_toList_iff]
  exact Array.mem_of_getElem? h)
 simpa using this
abbrev varPins(W:World):Pins:=⟨fun k o=>k=0/\W.heap[k]? = some o⟩
theorem Adq[Pins]:SumOK Tryz.prog nosums:=fun _ _ _ _ _ _ _ h=>by cases h
theorem XT(W:World):Calls Tryz.prog 7 #[] W fun e W'=>e=.returned (.bool true)/\W'.os=W.os/\W'.output=W.output/\W'.tape=W.tape/\W.heap.size<=W'.heap.size/\∀i,i<W.heap.size->W'.heap[i]? = W.heap[i]?:=
 Ae1 NW J9 Tryz.func7 rfl W (@Adq (pinsOf W)) XU
theorem Axg(n:Nat)(W0:World)(hg:W0.cell? ⟨0,0,none⟩=some handle):@EnvOK (varPins W0) Tryz.prog (top n):=by
 letI:=varPins W0
 have h:EnvOK Tryz.prog (env n):=Abe (AnT W0 (fun o h=>⟨rfl,h⟩) hg) NW J9 nls n
 refine⟨fun f args u Z m w args' hr hA hu=>?_,fun l args Z m w args' e hr hA hm=>h.round l args Z m w args' e hr hA hm⟩
 cases u with
 | some md=>exact h.call f args (some md) Z m w args' hr hA hu
 | none=>
  by_cases hf:(Nat.beq f 7&&args.isEmpty)=true
  .rw[Bool.and_eq_true,Nat.beq_eq,List.isEmpty_iff] at hf
   obtain⟨rfl,rfl⟩:=hf
   obtain⟨L'⟩:=args'
   have hl:L'=[]:=by
    have:=hA.1
    exact List.length_eq_zero_iff.1 this.symm
   subst hl
   show CallOK Tryz.prog m Z w 7 #[] none (.ret (.bool true) none Z)
   refine .inr ⟨Ef Tryz.func7 rfl (J9 _ _ Tryz.func7),fun cs hu=>?_⟩
   obtain⟨e,w',fr,⟨rfl,ho,hout,ht,hsz,hk⟩,hc,hfn,hl⟩:=XT w cs
   exact⟨m,w',.bool true,fr,cs,hr.moreWorld hk hsz,(Step.refl Z m w).moreWorld hk hsz ho ht hout,.bool true,hu,.refl _ _,StepsIn.of_steps hc,hfn,hl.2.2.1,⟨hl.1,hl.2.1,hl.2.2.2⟩⟩
  .have e:(top n).call f args none Z=(env n).call f args none Z:=by
    show (bif Nat.beq f 7&&args.isEmpty then CRes.ret (.bool true) none Z else (env n).call f args none Z)=_
    rw[Bool.not_eq_true] at hf
    rw[hf]
    rfl
   rw[e]
   exact h.call f args none Z m w args' hr hA hu
theorem Afy[Pins]{P:Program}{E:Env}(hE:EnvOK P E)(hm:P.follows .mixedOrders=true)(hname:∀(f:FuncId) (fn:Func),P.funcs[f]? = some fn->(fn.name == "runtime.NumGoroutine")=false)(nls:Hints){f:FuncId}{fn:Func}{body:Code}(hf:P.funcs[f]? = some fn)(hb:fn.body=some body)(Z:aC)(m:Mp)(W:World)(args:List Value)(args':Array Value)(hr:Rel Top m Z W)(hA:LRel m args args'.toList)(hro:∀b e,m b=some e->e.ro=true)(h:∃V,bA P nls E f args none Z=.ret (.bool true) none V):
  Calls P f args' W fun e W'=>e=.returned (.bool true)/\W'.os=W.os/\W'.output=W.output/\W'.tape=W.tape/\W.heap.size<=W'.heap.size/\∀i,i<W.heap.size->W'.heap[i]? = W.heap[i]?:=by
 obtain⟨V,h⟩:=h
 have hc:=Aa3 hE (Aa7 hm hE) hname nls f args none Z m W args' hr hA
 generalize bA P nls E f args none Z=r at h hc
 subst h
 rcases hc with⟨_,_,_,v',hval,_⟩|⟨_,hgo⟩
 .have hent:=Ef (P:=P) (w:=W) (args:=args') hf hb (hname f fn hf)
  rw[hent] at hval
  cases hval
 .intro cs
  obtain⟨m',w',v',fr,cs',hR,hS',hV,_,hun,hst,hfn,hk,hgoing⟩:=hgo cs rfl
  have hcs:cs'=cs:=by
   rcases hun with h|⟨h,_⟩
   .exact h
   .cases h
  subst hcs
  have hv':=hV.flat rfl
  subst hv'
  exact⟨.returned (.bool true),w',fr,⟨rfl,hS'.os,hS'.output,hS'.tape,hS'.size,fun i hi=>hS'.keep i hi fun b e ent hb hre=>by rw[hro b e hb] at hre;cases hre⟩,hst.steps,hfn,Ea hk hgoing⟩
theorem Adh{f:FuncId}{fn:Func}{body:Code}(hf:Tryz.prog.funcs[f]? = some fn)(hb:fn.body=some body)(n:Nat)(Z:aC)(m:Mp)(W:World)(args:List Value)(args':Array Value)(hg:W.cell? ⟨0,0,none⟩=some handle)(hr:@Rel (varPins W) Top m Z W)(hA:LRel m args args'.toList)(hro:∀b e,m b=some e->e.ro=true)(h:∃V,bA Tryz.prog nls (top n) f args none Z=.ret (.bool true) none V):
  Calls Tryz.prog f args' W fun e W'=>e=.returned (.bool true)/\W'.os=W.os/\W'.output=W.output/\W'.tape=W.tape/\W.heap.size<=W'.heap.size/\∀i,i<W.heap.size->W'.heap[i]? = W.heap[i]?:=
 @Afy (varPins W) Tryz.prog (top n) (Axg n W hg) NW J9 nls f fn body hf hb Z m W args args' hr hA hro h
def numbers(zs:List Int):aC:=⟨Tr.set .lf 0 ⟨.cells (zs.map fun z=>Value.int .i64 z) TI,true,none,0⟩,1,1⟩
end Go.Proofs.YtknnbjmcfibpgaaGreatDoor
namespace Go.Proofs.YtknnbjmcfibpgaaGreatDoor
open Go Go.Eng
attribute [local congr] Aa Af Ad Ab Ac
attribute [-go_sem] List.range_succ
structure Stays (Q:Nat->Value->aC->Prop):Prop where
 keep:∀base base' v Z V,Q base v Z->Wf Z->base'<=base->(∀b,base<=b->b<Z.next->V.heap.get b=Z.heap.get b)->Q base' v V
def ResP(x:D)(l:List (List Nat×D))(base:Nat)(w:Value)(Z:aC):Prop:=∃us,Vecs 25 (fun b=>base<=b) Z w us/\PathsL (fun b=>base<=b) Z us (foundIn x l)
mutual
theorem Adv:∀(d:D) (p:List Nat) (y:List Nat×D),y∈d.pieces p->y.2.deep<=d.deep/\y.2.count<=d.count
 | .mk k z t ds,p,y,h=>by
  rw[D.pieces] at h
  rcases List.mem_cons.1 h with rfl|h
  .exact⟨Nat.le_refl _,Nat.le_refl _⟩
  .have:=M9 ds p 0 y h
   rw[D.deep,D.count]
   omega
theorem M9:∀(ds:List D) (p:List Nat) (i:Nat) (y:List Nat×D),y∈D.piecesL p i ds->y.2.deep<=D.deeps ds/\y.2.count<=D.counts ds
 | [],p,i,y,h=>by simp[D.piecesL] at h
 | d::ds,p,i,y,h=>by
  rw[D.piecesL,List.mem_append] at h
  rw[D.deeps,D.counts]
  rcases h with h|h
  .have:=Adv d _ y h;omega
  .have:=M9 ds _ _ y h;omega
end
end Go.Proofs.YtknnbjmcfibpgaaGreatDoor
namespace Go.Proofs.YtknnbjmcfibpgaaGreatDoor
open Go Go.Eng
attribute [local congr] Aa Af Ad Ab Ac
attribute [-go_sem] List.range_succ
theorem Af8:bH nls 122=[14,15,28]:=by kernel_rfl
theorem QF(e:TypeId)(bytes:Nat)(z:List Value)(n:Nat)(Z:aC)(h:n*(bytes+1)<=1000000000):fmakeSlice e bytes z (.int .i64 (.ofNat n)) (.int .i64 (.ofNat n)) Z=.val (.slice (some ⟨Z.next,0,none⟩) n n) (Z.push (.cells (reps n z) e) none):=by
 show cond (Nat.ble n n&&Nat.ble (n*(bytes+1)) 1000000000) _ _=_
 rw[show Nat.ble n n=true by rw[Nat.ble_eq];exact Nat.le_refl _,show Nat.ble (n*(bytes+1)) 1000000000=true by rw[Nat.ble_eq];exact h]
 rfl
theorem F_(n:Nat)(z:List Value):(reps n z).length=n*z.length:=by
 induction n with
 | zero=>simp[PM]
 | succ n ih=>rw[PL,List.length_append,ih,Nat.succ_mul];omega
def CopyAt(m:Nat)(d:D):Prop:=∀(lv:List Value) (R:Nat->Prop) (Z:aC),Wf Z->aU R Z (.agg lv.toArray) d->Gives ((env m).call 88 [.agg lv.toArray] none Z) Z fun w V=>aU (fun b=>Z.next<=b) V w d
structure HeadEa (bo base:Nat) (R:Nat->Prop) (q:Option Addr) (c:Nat) (ds:List D) (bU:aC) (i:Nat) (f g:Nat->Value) (Z:aC):Prop where
 f0:f 0=.slice q ds.length c
 f1:f 1=.func (.func 88) #[] #[]
 f5:f 5=.slice (some ⟨bo,0,none⟩) ds.length ds.length
 g14:g 14=.int .i64 (.ofNat ds.length)
 g15:g 15=.int .i64 (.ofNat i)
 cs:∃done rest ver,Z.heap.get bo=some ⟨.cells (done++rest) TD,false,none,ver⟩/\Row (fun b=>base<=b/\b≠bo) Z done (ds.take i)/\rest.length=(ds.length-i)*4
 hbo:base<=bo
 lay:bF R Z q 0 ds
 low:∀b,R b->b<base
 wf:Wf Z
 ext:Ext bU Z
 le:i<=ds.length
theorem AcV(m:Nat){bo base:Nat}{R:Nat->Prop}{q:Option Addr}{c:Nat}{ds:List D}{bU:aC}(hC:∀d∈ds,CopyAt m d)(hb0:bU.next=base)(hfew:ds.length<1000000):
  ∀(j fuel i:Nat) (f g:Nat->Value) (Z:aC),i+j=ds.length->j<fuel->HeadEa bo base R q c ds bU i f g Z->
  ∃f' g' V,floop [14,15,28] (QC (env m) none 122) fuel (Sl 7 29 f g []) none Z=.done (.exit 0) (Sl 7 29 f' g' []) none V/\HeadEa bo base R q c ds bU ds.length f' g' V:=by
 intro j
 induction j with
 | zero=>
  intro fuel i f g Z hij hf h
  obtain⟨fuel,rfl⟩:∃q,fuel=q+1:=⟨fuel-1,by omega⟩
  obtain rfl:i=ds.length:=by omega
  have d1:decide (Int.ofNat ds.length<Int.ofNat ds.length)=false:=by simp
  rw[Ap,CE]
  unfold QC
  simp -implicitDefEqProofs only[go_sem,Po,LV,h.g14,h.g15,d1,List.mem_cons]
  refine⟨_,_,_,rfl,{ h with g14:=?_,g15:=?_ }⟩
  .simp -implicitDefEqProofs only[go_sem,reduceCtorEq,h.g14,List.mem_cons,true_or,or_true]
  .simp -implicitDefEqProofs only[go_sem,reduceCtorEq,h.g15,List.mem_cons,true_or,or_true]
 | succ j ih=>
  intro fuel i f g Z hij hf h
  obtain⟨fuel,rfl⟩:∃q,fuel=q+1:=⟨fuel-1,by omega⟩
  have hi:i<ds.length:=by omega
  have d1:decide (Int.ofNat i<Int.ofNat ds.length)=true:=by simp;omega
  have hd:ds[i]? = some ds[i]:=List.getElem?_eq_getElem hi
  obtain⟨b,off,cs,rfl,hRb,hcs,hle,hL⟩:=bF.get h.lay hd
  rw[Nat.zero_add] at hle hL
  obtain⟨done,rest,ver,hg,hr,hrl⟩:=h.cs
  obtain⟨w,bS,e1,x1,hw1,hL1⟩:=hC _ (List.getElem_mem hi) ((cs.drop (off+i*4)).take 4) R Z h.wf hL
  obtain⟨l4,rfl,hl4,hone⟩:=hL1.agg
  have hbn:=(h.wf _ _ hg).1
  have hg1:=(x1.get bo hbn).trans hg
  have hdl:done.length=i*4:=by rw[hr.1,List.length_take];omega
  have w1:=FT i (by omega)
  have hr4:4<=rest.length:=by rw[hrl];omega
  have e4:((done++rest).take (i*4)++l4++(done++rest).drop (i*4+4))=(done++l4)++rest.drop 4:=by
   rw[<-hdl,List.take_left',List.drop_append]
   .simp[List.drop_eq_nil_of_le]
   .rfl
  have hlen:i*4+4<=(done++rest).length:=by rw[List.length_append,hdl];omega
  rw[Ap,CE]
  unfold QC
  simp -implicitDefEqProofs only[go_sem,AP,Po,LV,AdN,Q8,AdO,Q9,AdP,Q_,h.f0,h.f1,h.f5,h.g14,h.g15,d1,hi,hcs,hle,e1,hg1,hl4,hone,hlen,e4,w1,List.mem_cons]
  generalize hff:upd _ 6 _=f1
  generalize hgg:upd _ 15 _=g1
  have n1:=x1.next
  have hbase:base<=Z.next:=by have:=h.ext.next;omega
  have hbo:=h.hbo
  have kc:∀(o:FObj) b cs,bS.cells b=some cs->b≠bo->(bS.put bo o none).cells b=some cs:=fun o b cs hc hb=>by rw[Aq,if_neg hb];exact hc
  exact ih fuel (i+1) f1 g1 _ (by omega) (by omega) {
   f0:=by rw[<-hff];simp -implicitDefEqProofs only[go_sem,reduceCtorEq,h.f0]
   f1:=by rw[<-hff];simp -implicitDefEqProofs only[go_sem,reduceCtorEq,h.f1]
   f5:=by rw[<-hff];simp -implicitDefEqProofs only[go_sem,reduceCtorEq,h.f5]
   g14:=by rw[<-hgg];simp -implicitDefEqProofs only[go_sem,reduceCtorEq,h.g14,List.mem_cons,true_or,or_true]
   g15:=by rw[<-hgg];simp -implicitDefEqProofs only[go_sem,reduceCtorEq]
   cs:=⟨done++l4,rest.drop 4,_,by rw[Ak,if_pos rfl],by
    rw[List.take_add_one,hd]
    exact(hr.keep fun b cs hb hc=>⟨kc _ b cs ((x1.cells (h.wf.cells hc)).trans hc) hb.2,hb⟩).snoc hl4 hone (hL1.keep fun b cs hb hc=>⟨kc _ b cs hc (by omega),by omega,by omega⟩),by rw[List.length_drop,hrl];omega⟩
   hbo:=h.hbo
   lay:=h.lay.keep fun b cs hb hc=>⟨kc _ b cs ((x1.cells (h.wf.cells hc)).trans hc) (by have:=h.low b hb;omega),hb⟩
   low:=h.low
   wf:=hw1.put _ _ _ (by omega)
   ext:=(h.ext.trans x1).put _ _ _ (by omega)
   le:=hi }
theorem AcW(m:Nat)(ds:List D)(hC:∀d∈ds,CopyAt m d)(hfew:ds.length<1000000)(q:Option Addr)(c:Nat)(R:Nat->Prop)(Z:aC)(hw:Wf Z)(hE:bF R Z q 0 ds):
  Gives ((env (m+1)).call 122 [.slice q ds.length c,.func (.func 88) #[] #[]] none Z) Z fun w V=>∃q' c',w=.slice q' ds.length c'/\bF (fun b=>Z.next<=b) V q' 0 ds:=by
 rw[Ai _ 122 _ _ rfl,AfI _ _ _ _ (by simp),Ah]
 unfold Aav
 cases hz:(Int.ofNat ds.length==(0:Int)) with
 | true=>
  have h0:ds=[]:=by
   have:=Int.ofNat.inj (eq_of_beq hz)
   exact List.length_eq_zero_iff.1 this
  subst h0
  simp -implicitDefEqProofs only[go_sem,Pm,LS,Pn,LU,AdK,Q5,hz]
  exact⟨_,_,rfl,Ext.refl _,hw,none,0,rfl,trivial⟩
 | false=>
  have hmk:=fun Z=>QF 24 56 [.int .i64 0,.int .i64 0,.string ⟨#[]⟩,.slice none 0 0] ds.length Z (by omega)
  simp -implicitDefEqProofs only[go_sem,Pm,LS,Pn,LU,AdL,Q6,AdM,Q7,hz,hmk,Af8]
  generalize hff:upd _ 5 _=f1
  generalize hgg:upd _ 15 _=g1
  generalize hbf:bL=fuel
  obtain⟨f2,g2,a_,e2,h2⟩:=AcV m (bo:=Z.next) (base:=Z.next) (R:=fun b=>R b/\b<Z.next) (q:=q) (c:=c) (bU:=Z) hC rfl hfew ds.length fuel 0 f1 g1 (Z.push (.cells (reps ds.length [.int .i64 0,.int .i64 0,.string ⟨#[]⟩,.slice none 0 0]) TD) none) (by omega) (by rw[<-hbf];show ds.length<1000000000000;omega) {
   f0:=by rw[<-hff];simp -implicitDefEqProofs only[go_sem,reduceCtorEq]
   f1:=by rw[<-hff];simp -implicitDefEqProofs only[go_sem,reduceCtorEq]
   f5:=by rw[<-hff];simp -implicitDefEqProofs only[go_sem,reduceCtorEq]
   g14:=by rw[<-hgg];simp -implicitDefEqProofs only[go_sem,reduceCtorEq]
   g15:=by rw[<-hgg];simp -implicitDefEqProofs only[go_sem,reduceCtorEq]<;>rfl
   cs:=⟨[],reps ds.length [.int .i64 0,.int .i64 0,.string ⟨#[]⟩,.slice none 0 0],Z.clock,by rw[Aj,if_pos rfl];rfl,Row.nil _ _,by rw[F_];rfl⟩
   hbo:=Nat.le_refl _
   lay:=hE.keep fun b cs hb hc=>⟨by rw[Al,if_neg (by have:=hw.cells hc;omega)];exact hc,hb,hw.cells hc⟩
   low:=fun b hb=>hb.2
   wf:=hw.push _ _
   ext:=(Ext.refl _).push _ _
   le:=Nat.zero_le _ }
  rw[e2]
  simp -implicitDefEqProofs only[go_sem,AdQ,Ra,h2.f5]
  obtain⟨done,rest,ver,hg,hr,hrl⟩:=h2.cs
  rw[List.take_length] at hr
  have hrest:rest=[]:=List.length_eq_zero_iff.1 (by rw[hrl];omega)
  subst hrest
  rw[List.append_nil] at hg
  exact⟨_,_,rfl,h2.ext,h2.wf,_,_,rfl,hr.elems (AB hg) (Nat.le_refl _) (fun c hc=>hc.1) 0 ds fun j e he=>by rwa [Nat.zero_add]⟩
theorem AcR(m:Nat)(k z:Int)(t:ByteArray)(ds:List D)(hC:∀d∈ds,CopyAt m d)(hfew:ds.length<1000000):CopyAt (m+2) (.mk k z t ds):=by
 intro lv R Z hw hL
 obtain⟨q,c,hv,hE⟩:=hL
 have hlv:lv=[.int .i64 k,.int .i64 z,.string t,.slice q ds.length c]:=by
  have:=Value.agg.inj hv
  simpa using congrArg Array.toList this
 subst hlv
 rw[Ai _ 88 _ _ rfl,Apx _ _ _ _ (by simp),Ah]
 unfold AnI
 have x1:Ext Z ((Z.push (.cells [.int .i64 k,.int .i64 z,.string t,.slice q ds.length c] TD) none).push (.cells [.int .i64 0,.int .i64 0,.string ⟨#[]⟩,.slice none 0 0] TD) none):=((Ext.refl _).push _ _).push _ _
 have hw1:=(hw.push (.cells [.int .i64 k,.int .i64 z,.string t,.slice q ds.length c] TD) none).push (.cells [.int .i64 0,.int .i64 0,.string ⟨#[]⟩,.slice none 0 0] TD) none
 have c1:((Z.push (.cells [.int .i64 k,.int .i64 z,.string t,.slice q ds.length c] TD) none).push (.cells [.int .i64 0,.int .i64 0,.string ⟨#[]⟩,.slice none 0 0] TD) none).cells Z.next=some [.int .i64 k,.int .i64 z,.string t,.slice q ds.length c]:=by rw[Al,if_neg (by rw[Ae];omega),Al,if_pos rfl];rfl
 have g2:((Z.push (.cells [.int .i64 k,.int .i64 z,.string t,.slice q ds.length c] TD) none).push (.cells [.int .i64 0,.int .i64 0,.string ⟨#[]⟩,.slice none 0 0] TD) none).heap.get (Z.next+1)=some ⟨.cells [.int .i64 0,.int .i64 0,.string ⟨#[]⟩,.slice none 0 0] TD,false,none,Z.clock+1⟩:=by rw[Aj,if_pos (by rw[Ae])];rfl
 have kc:((Z.push (.cells [.int .i64 k,.int .i64 z,.string t,.slice q ds.length c] TD) none).push (.cells [.int .i64 0,.int .i64 0,.string ⟨#[]⟩,.slice none 0 0] TD) none).clock=Z.clock+2:=rfl
 have kn:((Z.push (.cells [.int .i64 k,.int .i64 z,.string t,.slice q ds.length c] TD) none).push (.cells [.int .i64 0,.int .i64 0,.string ⟨#[]⟩,.slice none 0 0] TD) none).next=Z.next+2:=rfl
 simp -implicitDefEqProofs only[go_sem,AmB,Z3]
 generalize aC.push (aC.push Z _ _) _ _=bS at x1 hw1 c1 g2 kc kn ⊢
 have hv1:=D1 hw1 (lam:=Z.clock+2) (by omega)
 obtain⟨_,a_,e2,x2,hw2,q',c',rfl,hE'⟩:=AcW m ds hC hfew q c R bS hw1 (hE.keep fun b cs hb hc=>⟨(x1.cells (hw.cells hc)).trans hc,hb⟩)
 have c2:(view a_ (Z.clock+2)).cells Z.next=some [.int .i64 k,.int .i64 z,.string t,.slice q ds.length c]:=Kd hw1 (by omega) (x2.get _ (hw1.cells c1)) c1
 have g2':=(x2.get _ (hw1 _ _ g2).1).trans g2
 simp -implicitDefEqProofs only[go_sem,AP,AmC,Z4,hv1,c1,e2,c2,g2',Bb,AH,AL,Dl,Ep]
 have n2:=x2.next
 exact⟨_,_,rfl,(x1.trans x2).put _ _ _ (by omega),hw2.put _ _ _ (by omega),q',c',rfl,hE'.keep fun b cs hb hc=>⟨by rw[Aq,if_neg (by omega)];exact hc,by omega⟩⟩
theorem Aa4(n:Nat):∀(N:Nat) (d:D),D.deep d<=N->d.count<1000000->CopyAt (n+2*N) d
 | 0,d,h,_=>by cases d;rw[D.deep] at h;omega
 | N+1,.mk k z t ds,h,hc=>by
  rw[D.deep] at h
  rw[D.count] at hc
  have:=Et ds
  exact AcR (n+2*N) k z t ds (fun d hd=>Aa4 n N d (by have:=EK hd;omega) (by have:=Gi hd;omega)) (by omega)
end Go.Proofs.YtknnbjmcfibpgaaGreatDoor
namespace Go.Proofs.YtknnbjmcfibpgaaGreatDoor
open Go Go.Eng
attribute [local congr] Aa Af Ad Ab Ac
attribute [-go_sem] List.range_succ
theorem Adf:bH nls 94=[7,8,9,32]:=by kernel_rfl
theorem AvU{cs:List Value}{off:Nat}{a b c e:Value}(h:(cs.drop off).take 4=[a,b,c,e]):cs[off+3]? = some e:=by
 have:((cs.drop off).take 4)[3]? = some e:=by rw[h];rfl
 rw[List.getElem?_take,if_pos (by omega),List.getElem?_drop] at this
 exact this
structure HeadPl (a:Option Addr) (plen cx i b off:Nat) (f g:Nat->Value):Prop where
 f0:f 0=.pointer (some ⟨b,off,none⟩)
 g7:g 7=.slice a plen cx
 g8:g 8=.int .i64 (.ofNat plen)
 g9:g 9=.int .i64 (.ofNat i)
theorem Yc(E:Env){a:Option Addr}{cx:Nat}{path:List Nat}{R:Nat->Prop}{Z:aC}(hs:path.length<100000)(x:D)(hp:path≠[]->∃b rest,a=some ⟨b,0,none⟩/\Z.cells b=some (intsOf path++rest)):
  ∀(j fuel i:Nat) (f g:Nat->Value) (d:D) (b off:Nat) (cs:List Value),i+j=path.length->j<fuel->atP (path.drop i) d=some x->d.count<100000->Z.cells b=some cs->4<=cs.length-off->aU R Z (.agg ((cs.drop off).take 4).toArray) d->HeadPl a path.length cx i b off f g->
  ∃f' g' b off cs,floop [7,8,9,32] (Abo E none 94) fuel (Sl 7 33 f g []) none Z=.done (.exit 0) (Sl 7 33 f' g' []) none Z/\f' 0=.pointer (some ⟨b,off,none⟩)/\Z.cells b=some cs/\4<=cs.length-off/\aU R Z (.agg ((cs.drop off).take 4).toArray) x:=by
 intro j
 induction j with
 | zero=>
  intro fuel i f g d b off cs hij hf hx _ hc hle hL h
  obtain⟨fuel,rfl⟩:∃q,fuel=q+1:=⟨fuel-1,by omega⟩
  obtain rfl:i=path.length:=by omega
  rw[List.drop_length,atP] at hx
  obtain rfl:=Option.some.inj hx
  have d1:decide (Int.ofNat path.length<Int.ofNat path.length)=false:=by simp
  rw[Ap,CE]
  unfold Abo
  simp -implicitDefEqProofs only[go_sem,WN,Tw,h.g8,h.g9,d1,List.mem_cons]
  exact⟨_,_,b,off,cs,rfl,h.f0,hc,hle,hL⟩
 | succ j ih=>
  intro fuel i f g d b off cs hij hf hx hN hc hle hL h
  obtain⟨fuel,rfl⟩:∃q,fuel=q+1:=⟨fuel-1,by omega⟩
  have hi:i<path.length:=by omega
  have d1:decide (Int.ofNat i<Int.ofNat path.length)=true:=by simp;omega
  obtain⟨bp,rest,rfl,hcp⟩:=hp (fun h=>by rw[h] at hi;simp at hi)
  have g1:=XL rest hi
  have w3:=FT i (by omega)
  have hdr:path.drop i=path[i]::path.drop (i+1):=List.drop_eq_getElem_cons hi
  obtain⟨k,z,t,ds⟩:=d
  obtain⟨q,c,hv,hE⟩:=hL
  have hv':(cs.drop off).take 4=[.int .i64 k,.int .i64 z,.string t,.slice q ds.length c]:=by
   have:=Value.agg.inj hv
   simpa using congrArg Array.toList this
  have hf3:=AvU hv'
  rw[hdr,atP] at hx
  simp only[D.parts] at hx
  cases hd:ds[path[i]]? with
  | none=>rw[hd] at hx;cases hx
  | some d'=>
   rw[hd] at hx
   simp only at hx
   have hpi:=(List.getElem?_eq_some_iff.1 hd).1
   obtain⟨b',off',cs',rfl,hRb,hcs',hle',hL'⟩:=bF.get hE hd
   rw[Nat.zero_add] at hle' hL'
   have e0:decide (Int.ofNat path[i]<0)=false:=by simp
   have e1:decide (Int.ofNat path[i]≥Int.ofNat ds.length)=false:=by simp;omega
   rw[Ap,CE]
   unfold Abo
   simp -implicitDefEqProofs only[go_sem,WN,Tw,Am0,Aah,Am1,Aai,Am2,Aaj,Am3,Aak,h.f0,h.g7,h.g8,h.g9,d1,hi,hcp,g1,hc,hf3,e0,e1,hpi,w3,List.mem_cons]
   generalize hff:upd _ 0 _=f1
   generalize hgg:upd _ 9 _=gg
   exact ih fuel (i+1) f1 gg d' b' (off'+path[i]*4) cs' (by omega) (by omega) hx (by have:=Gi (List.mem_of_getElem? hd);rw[D.count] at hN;omega) hcs' (by omega) hL' {
    f0:=by rw[<-hff];simp -implicitDefEqProofs only[go_sem,reduceCtorEq]
    g7:=by rw[<-hgg];simp -implicitDefEqProofs only[go_sem,reduceCtorEq,h.g7,List.mem_cons,true_or,or_true]
    g8:=by rw[<-hgg];simp -implicitDefEqProofs only[go_sem,reduceCtorEq,h.g8,List.mem_cons,true_or,or_true]
    g9:=by rw[<-hgg];simp -implicitDefEqProofs only[go_sem,reduceCtorEq] }
theorem Agu(n:Nat){path:List Nat}{pv:Value}{R Q:Nat->Prop}{Z:aC}(hs:path.length<100000){d x:D}(hP:PathV Q Z pv path){b off:Nat}{cs:List Value}(hx:atP path d=some x)(hN:d.count<100000)(hc:Z.cells b=some cs)(hle:4<=cs.length-off)(hL:aU R Z (.agg ((cs.drop off).take 4).toArray) d):
  ∃b' off' cs',(env (n+1)).call 94 [.pointer (some ⟨b,off,none⟩),pv] none Z=.ret (.pointer (some ⟨b',off',none⟩)) none Z/\Z.cells b'=some cs'/\4<=cs'.length-off'/\aU R Z (.agg ((cs'.drop off').take 4).toArray) x:=by
 obtain⟨a,cx,rfl,k1⟩:=Vx hP
 rw[Ai _ 94 _ _ rfl,ApA _ _ _ _ (by simp),Ah]
 unfold AnL
 simp -implicitDefEqProofs only[go_sem,AmY,Aaf,AmZ,Aag,Adf]
 generalize hff:upd _ 4 _=f1
 generalize hgg:upd _ 9 _=g1
 generalize hbf:bL=fuel
 obtain⟨f2,g2,b',off',cs',e2,h1,h2,h3,h4⟩:=Yc (env n) (a:=a) (cx:=cx) (Z:=Z) hs x (fun h=>by obtain⟨b,r,x,_,y⟩:=k1 h;exact⟨b,r,x,y⟩) path.length fuel 0 f1 g1 d b off cs (by omega) (by rw[<-hbf];show path.length<1000000000000;omega) hx hN hc hle hL {
  f0:=by rw[<-hff];simp -implicitDefEqProofs only[go_sem,reduceCtorEq]
  g7:=by rw[<-hgg];simp -implicitDefEqProofs only[go_sem,reduceCtorEq]
  g8:=by rw[<-hgg];simp -implicitDefEqProofs only[go_sem,reduceCtorEq]
  g9:=by rw[<-hgg];simp -implicitDefEqProofs only[go_sem,reduceCtorEq]<;>rfl }
 rw[e2]
 simp -implicitDefEqProofs only[go_sem,Am4,Aal,h1]
 exact⟨_,_,_,rfl,h2,h3,h4⟩
theorem at1(M n:Nat)(hM:M=n+14)(bd bp:Nat)(L:Nat)(hL6:L<=6)(d x:D)(hF:Fine M L d)(lv:List Value)(h4:lv.length=4)(R Q:Nat->Prop)(path:List Nat)(pv:Value)(hs:path.length<100000)(hx:atP path d=some x)(hxd:x.deep<=7)(hxc:x.count<100000)(Z:aC)(hw:Wf Z)(hb1:Z.cells bd=some lv)(hb2:Z.cells bp=some [pv])(hL:aU R Z (.agg lv.toArray) d)(hP:PathV Q Z pv path)(hR:∀b,R b->b<Z.next):
  Gives ((env (M+6)).call 93 [.pointer (some ⟨bd,0,none⟩),.pointer (some ⟨bp,0,none⟩)] none Z) Z fun v V=>aU (fun b=>Z.next<=b) V v x:=by
 have hf:=hF.few hL6
 rw[Ai _ 93 _ _ rfl,Apz _ _ _ _ (by simp),Ah]
 unfold AnK
 have x0:Ext Z (Z.push (.cells [.int .i64 0,.int .i64 0,.string ⟨#[]⟩,.slice none 0 0] TD) none):=(Ext.refl _).push _ _
 have hw0:=hw.push (.cells [.int .i64 0,.int .i64 0,.string ⟨#[]⟩,.slice none 0 0] TD) none
 have ne1:(bd=Z.next)=False:=by have:=hw.cells hb1;simp;omega
 have ne2:(bp=Z.next)=False:=by have:=hw.cells hb2;simp;omega
 obtain⟨_,bS,e1,x1,hw1,rfl⟩:=W_ M d lv h4 R _ hw0 (hL.keep fun b cs hb hc=>⟨(x0.cells (hw.cells hc)).trans hc,hb⟩) (fun b hb=>by have:=hR b hb;rw[Ae];omega) (hF.small hL6) (by omega) hF.good
 have x01:=x0.trans x1
 have c1:=(x01.cells (hw.cells hb1)).trans hb1
 have c2:=(x01.cells (hw.cells hb2)).trans hb2
 have ht:lv.take 4=lv:=List.take_of_length_le (by omega)
 have hL1:aU R bS (.agg ((lv.drop 0).take 4).toArray) d:=by
  rw[List.drop_zero,ht]
  exact hL.keep fun b cs hb hc=>⟨(x01.cells (hw.cells hc)).trans hc,hb⟩
 obtain⟨b',off',cs',e2,hc',hle',hL'⟩:=Agu (M+4) (Q:=fun _=>True) (Z:=bS) hs (hP.keep fun b cs _ hc=>⟨(x01.cells (hw.cells hc)).trans hc,trivial⟩) hx (by rw[<-DY d []];omega) c1 (by omega) hL1
 have hcp:=Aa4 (n+5) 7 x hxd (by omega)
 rw[show n+5+2*7=M+5 by omega] at hcp
 obtain⟨_,a_,e3,x2,hw2,hq⟩:=hcp ((cs'.drop off').take 4) R bS hw1 hL'
 obtain⟨k,z,t,ds⟩:=x
 obtain⟨q,c,rfl,hE⟩:=hq
 have g0:a_.heap.get Z.next=_:=((x1.trans x2).get Z.next (Nat.lt_succ_self _)).trans (by rw[Aj,if_pos rfl])
 have m0:=(hw2 _ _ g0).1
 simp -implicitDefEqProofs only[go_sem,AP,AmV,Aac,AmW,Aad,AmX,Aae,hb1,hb2,ne1,ne2,c1,c2,h4,ht,e1,e2,e3,hc',hle',g0,Ep,Bb,AH,AL,Dl,Nat.le_refl]
 have n1:=x1.next
 rw[Ae] at n1
 exact⟨_,_,rfl,(x01.trans x2).put _ _ _ (Nat.le_refl _),hw2.put _ _ _ m0,q,c,rfl,hE.keep fun b cs hb hc=>⟨by rw[Aq,if_neg (by omega)];exact hc,by omega⟩⟩
end Go.Proofs.YtknnbjmcfibpgaaGreatDoor
namespace Go.Proofs.YtknnbjmcfibpgaaGreatDoor
open Go Go.Eng
def nilD:D:=.mk 0 0 ⟨#[]⟩ []
def pairD(a b:D):D:=.mk 5 0 ⟨#[]⟩ [a,b]
def listD(t:D):List D->D
 | []=>t
 | d::ds=>pairD d (listD t ds)
theorem Ld(t:D):∀ds:List D,(listD t ds).count=ds.length+D.counts ds+t.count
 | []=>by simp[listD,D.counts]
 | d::ds=>by
  rw[listD,pairD,D.count,D.counts,D.counts,D.counts,D.counts,Ld t ds,List.length_cons]
  omega
theorem MZ(t:D)(N:Nat):∀ds:List D,(∀d∈ds,d.deep<=N)->(listD t ds).deep<=ds.length+max N t.deep
 | [],_=>by rw[listD];omega
 | d::ds,h=>by
  have h1:=h d List.mem_cons_self
  have h2:=MZ t N ds fun d' hd=>h d' (List.mem_cons_of_mem _ hd)
  rw[listD,pairD,D.deep,D.deeps,D.deeps,D.deeps,List.length_cons]
  omega
theorem Gb:∀a b:List D,D.counts (a++b)=D.counts a+D.counts b
 | [],b=>by simp[D.counts]
 | d::a,b=>by rw[List.cons_append,D.counts,D.counts,Gb a b];omega
theorem Hn:∀a:List D,D.counts a.reverse=D.counts a
 | []=>rfl
 | d::a=>by rw[List.reverse_cons,Gb,Hn a,D.counts,D.counts,D.counts];omega
def Sane(m:Nat)(d:D):Prop:=∀path,∀x∈d.pieces path,x.2.parts.length<=900/\GoodD m x.2
theorem Fine.sane{m L:Nat}{d:D}(h:Fine m L d):Sane m d:=fun path x hx=>by
 have h':=((h path).2 x hx).2
 exact⟨by omega,h'.2⟩
theorem AnO(m:Nat):Sane m nilD:=fun path x hx=>by
 rw[nilD,D.pieces,D.piecesL] at hx
 simp only[List.mem_singleton] at hx
 subst hx
 exact⟨by simp[D.parts],fun k z t ds e=>by cases e;exact⟨0,rfl,.nil⟩⟩
theorem Ae0{m:Nat}{a b:D}(ha:Sane m a)(hb:Sane m b):Sane m (pairD a b):=fun path x hx=>by
 rw[pairD,D.pieces,D.piecesL,D.piecesL,D.piecesL,List.append_nil] at hx
 rcases List.mem_cons.1 hx with rfl|hx
 .exact⟨by simp[D.parts],fun k z t ds e=>by cases e;exact⟨5,rfl,.pair⟩⟩
 .rcases List.mem_append.1 hx with hx|hx
  .exact ha _ x hx
  .exact hb _ x hx
theorem PP{m:Nat}{t:D}(ht:Sane m t):∀ {ds:List D},(∀d∈ds,Sane m d)->Sane m (listD t ds)
 | [],_=>ht
 | d::ds,h=>Ae0 (h d List.mem_cons_self) (PP ht fun d' hd=>h d' (List.mem_cons_of_mem _ hd))
theorem Sane.good{m:Nat}{d:D}(h:Sane m d):AllGood m (d.pieces []):=fun path k z t ds hx=>(h [] _ hx).2 k z t ds rfl
theorem Lm(d:D)(hd:d.deep<1000):∀y∈d.pieces [],y.1.length<1000:=fun y hy=>by
 have h1:=FQ d []
 have h2:y.1.length+1<=longest (d.pieces []):=by
  obtain⟨a,b,h⟩:=List.append_of_mem hy
  rw[h,FP,Jv]
  omega
 simp at h1
 omega
theorem Sane.small{m:Nat}{d:D}(h:Sane m d)(hd:d.deep<1000):Small (d.pieces []):=fun x hx=>⟨by have:=Lm d hd x hx;omega,by have:=(h [] x hx).1;omega⟩
theorem Afc(M:Nat)(d:D)(h:Sane M d)(hc:d.count<=2000)(hd:d.deep<1000)(lv:List Value)(h4:lv.length=4)(R:Nat->Prop)(Z:aC)(hw:Wf Z)(hL:aU R Z (.agg lv.toArray) d)(hR:∀b,R b->b<Z.next):
  Gives ((env (M+5)).call 64 [.agg lv.toArray] none Z) Z fun w _=>w=.int .i64 (.ofNat d.count):=by
 have:=W_ M d lv h4 R Z hw hL hR (h.small hd) (by rw[DY];exact hc) h.good
 rwa [DY] at this
end Go.Proofs.YtknnbjmcfibpgaaGreatDoor
namespace Go.Proofs.YtknnbjmcfibpgaaGreatDoor
open Go Go.Eng
def VecG(Q R:Nat->Prop)(Z:aC)(s:Value)(ds:List D):Prop:=
 (ds=[]/\s=.slice none 0 0)\/(∃b cs ver,s=.slice (some ⟨b,0,none⟩) ds.length ds.length/\Z.heap.get b=some ⟨.cells cs TD,false,some 4,ver⟩/\Q b/\Row R Z cs ds)
theorem VecG.slice{Q R:Nat->Prop}{Z:aC}{s:Value}{ds:List D}(h:VecG Q R Z s ds):∃p,s=.slice p ds.length ds.length/\bF (fun b=>Q b\/R b) Z p 0 ds:=by
 rcases h with⟨rfl,rfl⟩|⟨b,cs,ver,rfl,hb,hq,hr⟩
 .exact⟨none,rfl,trivial⟩
 .exact⟨_,rfl,hr.elems (AB hb) (.inl hq) (fun c hc=>.inr hc) 0 ds fun j e he=>by rwa [Nat.zero_add]⟩
theorem VecG.one{Q R:Nat->Prop}{Z:aC}{s:Value}{ds:List D}(h:VecG Q R Z s ds):oneCell s=true/\aM s=true/\aI s=[s]:=by
 rcases h with⟨rfl,rfl⟩|⟨b,cs,ver,rfl,hb,hq,hr⟩<;>exact⟨rfl,rfl,rfl⟩
theorem VecG.keep{Q Q' R R':Nat->Prop}{Z V:aC}{s:Value}{ds:List D}(h:VecG Q R Z s ds)(hq:∀b e,Q b->Z.heap.get b=some e->V.heap.get b=some e/\Q' b)(hr:∀b cs,R b->Z.cells b=some cs->V.cells b=some cs/\R' b):VecG Q' R' V s ds:=by
 rcases h with h|⟨b,cs,ver,rfl,hb,hQ,hR⟩
 .exact .inl h
 .exact .inr ⟨b,cs,ver,rfl,(hq b _ hQ hb).1,(hq b _ hQ hb).2,hR.keep hr⟩
theorem Row.append{R:Nat->Prop}{Z:aC}{cs cs':List Value}{ds ds':List D}(h:Row R Z cs ds)(h':Row R Z cs' ds'):Row R Z (cs++cs') (ds++ds'):=by
 refine⟨by rw[List.length_append,List.length_append,h.1,h'.1];omega,by rw[List.all_append,h.2.1,h'.2.1];rfl,fun i d hd=>?_⟩
 by_cases hi:i<ds.length
 .rw[List.getElem?_append_left hi] at hd
  have:=h.2.2 i d hd
  rw[List.drop_append_of_le_length (by rw[h.1];omega),List.take_append_of_le_length (by rw[List.length_drop,h.1];omega)]
  exact this
 .rw[List.getElem?_append_right (by omega)] at hd
  have:=h'.2.2 (i-ds.length) d hd
  have e:i*4=cs.length+(i-ds.length)*4:=by rw[h.1];omega
  rw[e,<-List.drop_drop,List.drop_left]
  exact this
end Go.Proofs.YtknnbjmcfibpgaaGreatDoor
namespace Go.Eng
open Go
section
variable (E:Env) (ro:Option Nat) (a:aV) (u:Option FrameMode) (Z:aC) (cl:List Nat)
end
end Go.Eng
namespace Go.Proofs.YtknnbjmcfibpgaaGreatDoor
open Go Go.Eng
end Go.Proofs.YtknnbjmcfibpgaaGreatDoor
namespace Go.Proofs.YtknnbjmcfibpgaaGreatDoor
open Go Go.Eng
variable (E:Env) (ro:Option Nat) (last:List Nat->aZ) (cl:List Nat) (a:aV) (u:Option FrameMode) (Z:aC)
def Rb(_:Unit):List COp:=[⟨fun a Z=>.val (a.get 0) Z,some 2,tT⟩,
 ⟨fun a Z=>.enter 149 [(a.get 2),(.int .i64 0)] Z,some 3,tT⟩]
def AhS:List COp:=Rb ()
def Aaw(E:Env)(ro:Option Nat)(fn:FuncId):aZ:=(aD E ro AhS)
theorem AdR:aD E ro AhS a u Z=aD E ro (Rb ()) a u Z:=rfl
theorem Aox(E:Env)(ro:Option Nat)(fn:FuncId):code Tryz.prog nls (Tryz.f124.body.getD .skip) E ro fn=Aaw E ro fn:=by kernel_rfl
theorem AfJ(E:Env)(args:List Value)(u:Option FrameMode)(Z:aC)(hn:args.length<=(2:Nat)):bA Tryz.prog nls E 124 args u Z=aN Tryz.prog E [] (Aaw E none 124 ⟨aY undef 2 args,fun _=>undef,2,4,[]⟩ u Z):=by
 rw[Am (body:=Tryz.f124.body.getD .skip) Tryz.func124 rfl E args u Z 2 4 (by kernel_rfl) rfl ⟨hn,by decide⟩,Aox]
 rfl
def RP(_:Unit):List COp:=[⟨fun a Z=>.val (a.get 0) Z,some 4,tT⟩,
 ⟨fun a Z=>.val (a.get 1) Z,some 5,tT⟩,
 ⟨fun a Z=>fbuild (fun i=>nth [(0,1),(1,1)] i) [(.int .i64 0),(.int .i64 0)] [(0,(a.get 4)),(1,(a.get 5))] Z,some 6,tT⟩,
 ⟨fun a Z=>.val (.iface 171 (a.get 6)) Z,some 7,tT⟩,
 ⟨fun a Z=>fpanic (a.get 7) Z,none,tT⟩]
def Ajx:List COp:=RP ()
def AaD(E:Env)(ro:Option Nat)(fn:FuncId):aZ:=(aD E ro Ajx)
theorem Aeq:aD E ro Ajx a u Z=aD E ro (RP ()) a u Z:=rfl
theorem AoK(E:Env)(ro:Option Nat)(fn:FuncId):code Tryz.prog nls (Tryz.f149.body.getD .skip) E ro fn=AaD E ro fn:=by kernel_rfl
theorem AfQ(E:Env)(args:List Value)(u:Option FrameMode)(Z:aC)(hn:args.length<=(4:Nat)):bA Tryz.prog nls E 149 args u Z=aN Tryz.prog E [] (AaD E none 149 ⟨aY undef 4 args,fun _=>undef,4,8,[]⟩ u Z):=by
 rw[Am (body:=Tryz.f149.body.getD .skip) Tryz.func149 rfl E args u Z 4 8 (by kernel_rfl) rfl ⟨hn,by decide⟩,AoK]
 rfl
def Rj(_:Unit):List COp:=[⟨fun a Z=>aP [(.int .i64 0),(.int .i64 0)] 171 none Z,some 2,tT⟩]
def Ah4:List COp:=Rj ()
def Rk(_:Unit):List COp:=[⟨fun a Z=>aP [(.int .i64 0),(.int .i64 0)] 171 none Z,some 3,tT⟩]
def Ah5:List COp:=Rk ()
def Rl(_:Unit):List COp:=[⟨fun a Z=>.val (a.get 0) Z,some 4,tT⟩,
 ⟨fun a Z=>.val (.iface 190 (a.get 3)) Z,some 5,tT⟩,
 ⟨fun a Z=>.enter 157 [(a.get 4),(a.get 5)] Z,some 6,tT⟩,
 ⟨fun a Z=>fun1 Tryz.prog (Op.unary .not) (a.get 6) Z,some 7,tT⟩]
def Ah6:List COp:=Rl ()
def Ap4(_:Unit):List COp:=[⟨fun a Z=>aH 0 (a.get 3) Z,some 8,tT⟩,
 ⟨fun a Z=>aK 1 (a.get 8) (.int .i64 1) Z,none,tT⟩]
def Awl:List COp:=Ap4 ()
def Rm(_:Unit):List COp:=[⟨fun a Z=>aG (some 2) (a.get 3) Z,some 9,tT⟩,
 ⟨fun a Z=>aK 2 (a.get 2) (a.get 9) Z,none,tT⟩]
def Ah7:List COp:=Rm ()
def Aax(E:Env)(ro:Option Nat)(fn:FuncId):aZ:=(aF (aD E ro Ah4) (aF (aD E ro Ah5) (aF (aF (aD E ro Ah6) (aL (fun a=>(a.get 7)) (aD E ro Awl) aQ)) (aF (aD E ro Ah7) bO))))
theorem AdX:aD E ro Ah4 a u Z=aD E ro (Rj ()) a u Z:=rfl
theorem AdY:aD E ro Ah5 a u Z=aD E ro (Rk ()) a u Z:=rfl
theorem AdZ:aD E ro Ah6 a u Z=aD E ro (Rl ()) a u Z:=rfl
theorem Ad0:aD E ro Ah7 a u Z=aD E ro (Rm ()) a u Z:=rfl
theorem Aoz(E:Env)(ro:Option Nat)(fn:FuncId):code Tryz.prog nls (Tryz.f136.body.getD .skip) E ro fn=Aax E ro fn:=by kernel_rfl
theorem AfK(E:Env)(args:List Value)(u:Option FrameMode)(Z:aC)(hn:args.length<=(4:Nat)):bA Tryz.prog nls E 136 args u Z=aN Tryz.prog E [.cell 2 171] (Aax E none 136 ⟨aY undef 4 args,fun _=>undef,4,10,[]⟩ u Z):=by
 rw[Am (body:=Tryz.f136.body.getD .skip) Tryz.func136 rfl E args u Z 4 10 (by kernel_rfl) rfl ⟨hn,by decide⟩,Aoz]
 rfl
noncomputable def Aof:Code:=((bP (Tryz.f106.body.getD .skip)).getD 0 (.skip,.skip)).1
noncomputable def Aog:Code:=((bP (Tryz.f106.body.getD .skip)).getD 0 (.skip,.skip)).2
noncomputable def Aa1:Code:=((bP (Tryz.f106.body.getD .skip)).getD 1 (.skip,.skip)).1
noncomputable def Aa2:Code:=((bP (Tryz.f106.body.getD .skip)).getD 1 (.skip,.skip)).2
def Agx(_:Unit):List COp:=[⟨fun a Z=>aG none (a.get 8) Z,some 37,tT⟩,
 ⟨fun a Z=>aG none (a.get 5) Z,some 38,tT⟩,
 ⟨fun a Z=>flenL (a.get 38) Z,some 39,tT⟩,
 ⟨fun a Z=>bJ Tryz.prog 3 (.tmp 37) (.tmp 39) (a.get 37) (a.get 39) Z,some 40,tT⟩]
def ApT:List COp:=Agx ()
def Agy(_:Unit):List COp:=[⟨fun a Z=>.enter 124 [(.int .i64 10)] Z,some 41,tT⟩]
def ApU:List COp:=Agy ()
def Agz(_:Unit):List COp:=[⟨fun a Z=>aG none (a.get 9) Z,some 42,tT⟩,
 ⟨fun a Z=>.val (a.get 42) Z,some 4,tT⟩]
def ApV:List COp:=Agz ()
noncomputable def x106_0:Code:=(scopesOf (Tryz.f106.body.getD .skip)).getD 0 .skip
def find106_0(E:Env)(ro:Option Nat)(fn:FuncId):Nat->Option (Bx aZ):=fun l=>match findLabel x106_0 l with|some rest=>some ⟨(ccode Tryz.prog nls 998 rest).un E ro fn⟩|none=>none
end Go.Proofs.YtknnbjmcfibpgaaGreatDoor
namespace Go.Proofs.YtknnbjmcfibpgaaGreatDoor
open Go Go.Eng
mutual
theorem AeZ:∀(a b:D),D.same a b=D.same b a
 | .mk k n t ds,.mk k' n' t' ds'=>by
  rw[show D.same (.mk k n t ds) (.mk k' n' t' ds')=(decide (k=k')&&decide (n=n')&&(t.toList==t'.toList)&&D.sames ds ds') from rfl,show D.same (.mk k' n' t' ds') (.mk k n t ds)=(decide (k'=k)&&decide (n'=n)&&(t'.toList==t.toList)&&D.sames ds' ds) from rfl,NQ ds ds']
  rw[show decide (k=k')=decide (k'=k) by simp[eq_comm],show decide (n=n')=decide (n'=n) by simp[eq_comm],show (t.toList==t'.toList)=(t'.toList==t.toList) from BEq.comm]
theorem NQ:∀(a b:List D),D.sames a b=D.sames b a
 | [],[]=>rfl
 | [],_::_=>rfl
 | _::_,[]=>rfl
 | a::l,b::r=>by
  rw[show D.sames (a::l) (b::r)=(D.same a b&&D.sames l r) from rfl,show D.sames (b::r) (a::l)=(D.same b a&&D.sames r l) from rfl,AeZ a b,NQ l r]
end
mutual
theorem O7:∀(d:D) (p:List Nat) (y:List Nat×D),y∈d.pieces p->∃r,y.1=p++r/\atP r d=some y.2
 | .mk k z t ds,p,y,h=>by
  rw[D.pieces] at h
  rcases List.mem_cons.1 h with rfl|h
  .exact⟨[],by simp,rfl⟩
  .obtain⟨j,r,d',h1,h2,h3⟩:=GU ds p 0 y h
   refine⟨(0+j)::r,h1,?_⟩
   rw[atP]
   simp only[D.parts]
   rw[Nat.zero_add,h2]
   exact h3
theorem GU:∀(ds:List D) (p:List Nat) (i:Nat) (y:List Nat×D),y∈D.piecesL p i ds->∃j r d',y.1=p++(i+j)::r/\ds[j]? = some d'/\atP r d'=some y.2
 | [],p,i,y,h=>by simp[D.piecesL] at h
 | d::ds,p,i,y,h=>by
  rw[D.piecesL,List.mem_append] at h
  rcases h with h|h
  .obtain⟨r,h1,h2⟩:=O7 d _ y h
   exact⟨0,r,d,by rw[h1];simp,rfl,h2⟩
  .obtain⟨j,r,d',h1,h2,h3⟩:=GU ds p (i+1) y h
   exact⟨j+1,r,d',by rw[h1,show i+1+j=i+(j+1) by omega],by simpa using h2,h3⟩
end
theorem ML(x:D)(a b:List (List Nat×D)):foundIn x (a++b)=foundIn x a++foundIn x b:=by
 unfold foundIn
 rw[List.filter_append,List.map_append]
end Go.Proofs.YtknnbjmcfibpgaaGreatDoor
namespace Go.Proofs.YtknnbjmcfibpgaaGreatDoor
open Go Go.Eng
theorem toList_inj{a b:ByteArray}(h:a.toList=b.toList):a=b:=by
 rw[ByteArray.toList_eq,ByteArray.toList_eq] at h
 obtain⟨⟨x⟩⟩:=a
 obtain⟨⟨y⟩⟩:=b
 simp at h
 rw[h]
mutual
theorem Iz:∀(a b:D),D.same a b=true->a=b
 | .mk k n t ds,.mk k' n' t' ds',h=>by
  rw[show D.same (.mk k n t ds) (.mk k' n' t' ds')=(decide (k=k')&&decide (n=n')&&(t.toList==t'.toList)&&D.sames ds ds') from rfl] at h
  simp only[Bool.and_eq_true,decide_eq_true_eq] at h
  obtain⟨⟨⟨rfl,rfl⟩,h3⟩,h4⟩:=h
  rw[toList_inj (eq_of_beq h3),WX ds ds' h4]
theorem WX:∀(a b:List D),D.sames a b=true->a=b
 | [],[],_=>rfl
 | [],_::_,h=>by cases h
 | _::_,[],h=>by cases h
 | a::l,b::r,h=>by
  rw[show D.sames (a::l) (b::r)=(D.same a b&&D.sames l r) from rfl,Bool.and_eq_true] at h
  rw[Iz a b h.1,WX l r h.2]
end
mutual
theorem IA:∀(a:D),D.same a a=true
 | .mk k n t ds=>by
  rw[show D.same (.mk k n t ds) (.mk k n t ds)=(decide (k=k)&&decide (n=n)&&(t.toList==t.toList)&&D.sames ds ds) from rfl,NR ds]
  simp
theorem NR:∀(l:List D),D.sames l l=true
 | []=>rfl
 | a::l=>by
  rw[show D.sames (a::l) (a::l)=(D.same a a&&D.sames l l) from rfl,IA a,NR l]
  rfl
end
theorem AnM(a b:D):D.same a b=true↔a=b:=⟨Iz a b,fun h=>h ▸ IA a⟩
mutual
def repl(x y:D):D->D
 | .mk k z t ds=>if D.same (.mk k z t ds) x=true then y else .mk k z t (repls x y ds)
def repls(x y:D):List D->List D
 | []=>[]
 | d::ds=>repl x y d::repls x y ds
end
mutual
theorem AeW(x:D):∀d,repl x x d=d
 | .mk k z t ds=>by
  rw[repl]
  split
  .rename_i h;exact(Iz _ _ h).symm
  .rw[NJ x ds]
theorem NJ(x:D):∀ds,repls x x ds=ds
 | []=>rfl
 | d::ds=>by rw[repls,AeW x d,NJ x ds]
end
def occ(x d:D):Nat:=((d.pieces []).filter fun y=>D.same y.2 x).length
mutual
def occN(x:D):D->Nat
 | .mk k z t ds=>(if D.same (.mk k z t ds) x=true then 1 else 0)+occsN x ds
def occsN(x:D):List D->Nat
 | []=>0
 | d::ds=>occN x d+occsN x ds
end
mutual
theorem Ada(x:D):∀(d:D) (p:List Nat),(foundIn x (d.pieces p)).length=occN x d
 | .mk k z t ds,p=>by
  rw[D.pieces,occN]
  have:=MM x ds p 0
  unfold foundIn at this ⊢
  rw[List.filter_cons]
  split
  .rw[List.map_cons,List.length_cons,this];omega
  .rw[this];omega
theorem MM(x:D):∀(ds:List D) (p:List Nat) (i:Nat),(foundIn x (D.piecesL p i ds)).length=occsN x ds
 | [],p,i=>rfl
 | d::ds,p,i=>by rw[D.piecesL,ML,List.length_append,Ada x d _,MM x ds p (i+1),occsN]
end
mutual
theorem Ads(x:D):∀d:D,d.count<x.count->occN x d=0
 | .mk k z t ds,h=>by
  rw[occN,if_neg (fun e=>by rw[Iz _ _ e] at h;omega)]
  rw[D.count] at h
  rw[I1 x ds (by omega)]
theorem I1(x:D):∀ds:List D,D.counts ds<x.count->occsN x ds=0
 | [],_=>rfl
 | d::ds,h=>by
  rw[D.counts] at h
  rw[occsN,Ads x d (by omega),I1 x ds (by omega)]
end
mutual
theorem Aao(x y:D):∀d:D,(repl x y d).count+occN x d*x.count=d.count+occN x d*y.count
 | .mk k z t ds=>by
  rw[repl,occN]
  split
  .rename_i h
   have hx:=Iz _ _ h
   have hc:D.counts ds<x.count:=by rw[<-hx,D.count];omega
   rw[I1 x ds hc,<-hx]
   omega
  .rw[D.count,D.count,Nat.zero_add]
   have:=Lo x y ds
   omega
theorem Lo(x y:D):∀ds:List D,D.counts (repls x y ds)+occsN x ds*x.count=D.counts ds+occsN x ds*y.count
 | []=>by simp[repls,D.counts,occsN]
 | d::ds=>by
  rw[repls,D.counts,D.counts,occsN,Nat.add_mul,Nat.add_mul]
  have:=Aao x y d
  have:=Lo x y ds
  omega
end
mutual
theorem AeV(x y:D):∀d:D,repl x y d=d\/0<occN y (repl x y d)
 | .mk k z t ds=>by
  rw[repl]
  split
  .right
   cases y with
   | mk k' z' t' ds'=>rw[occN,if_pos (IA _)];omega
  .rcases I8 x y ds with h|h
   .left;rw[h]
   .right;rw[occN];omega
theorem I8(x y:D):∀ds:List D,repls x y ds=ds\/0<occsN y (repls x y ds)
 | []=>.inl rfl
 | d::ds=>by
  rw[repls,occsN]
  rcases AeV x y d with h|h
  .rcases I8 x y ds with h'|h'
   .left;rw[h,h']
   .right;omega
  .right;omega
end
mutual
theorem AeU(x y:D)(h1:occN x y=0)(h2:occN y x=0):∀d:D,occN x (repl x y d)=0
 | .mk k z t ds=>by
  rw[repl]
  split
  .exact h1
  .rename_i hne
   rw[occN,NI x y h1 h2 ds,Nat.add_zero]
   split
   .rename_i h
    have hx:=Iz _ _ h
    rcases I8 x y ds with h'|h'
    .rw[h'] at hx
     exact absurd ((AnM _ _).2 hx) hne
    .rw[<-hx,occN] at h2
     omega
   .rfl
theorem NI(x y:D)(h1:occN x y=0)(h2:occN y x=0):∀ds:List D,occsN x (repls x y ds)=0
 | []=>rfl
 | d::ds=>by rw[repls,occsN,AeU x y h1 h2 d,NI x y h1 h2 ds]
end
end Go.Proofs.YtknnbjmcfibpgaaGreatDoor
namespace Go.Proofs.YtknnbjmcfibpgaaGreatDoor
open Go Go.Eng
variable (E:Env) (ro:Option Nat) (last:List Nat->aZ) (cl:List Nat) (a:aV) (u:Option FrameMode) (Z:aC)
end Go.Proofs.YtknnbjmcfibpgaaGreatDoor
namespace Go.Proofs.YtknnbjmcfibpgaaGreatDoor
open Go Go.Eng
attribute [local congr] Aa Af Ad Ab Ac
attribute [-go_sem] List.range_succ
end Go.Proofs.YtknnbjmcfibpgaaGreatDoor
namespace Go.Proofs.YtknnbjmcfibpgaaGreatDoor
open Go Go.Eng
attribute [local congr] Aa Af Ad Ab Ac
attribute [-go_sem] List.range_succ
def GatherI(l r cm:Nat)(R:Nat->Prop)(f g:Nat->Value)(done:List (List Nat×D))(B:Nat->Prop)(Z:aC):Prop:=
 (∀b,b=l\/b=r\/b=cm->B b)/\(∀b,B b->b<Z.next/\(b=l\/b=r\/b=cm\/l<b))/\bR 106 [14,15] Aof Aog 12 43 f g l r .ready Z/\(∃ver,Z.heap.get r=some ⟨.defd true,false,none,ver⟩)/\
  ∃s ver,Z.heap.get cm=some ⟨.cells [s] TL,false,none,ver⟩/\VecG (fun b=>B b/\l<b) R Z s (done.map (·.2))
end Go.Proofs.YtknnbjmcfibpgaaGreatDoor
namespace Go.Proofs.YtknnbjmcfibpgaaGreatDoor
open Go Go.Eng
attribute [local congr] Aa Af Ad Ab Ac
attribute [-go_sem] List.range_succ
section
variable {kk n l bw bo bp base:Nat} {R:Nat->Prop} {g:Value} {I:List (List Nat×D)->(Nat->Prop)->aC->Prop} {all done:List (List Nat×D)} {B:Nat->Prop} {u:Value} {us:List Value} {ds:List D} {i:Nat} {d:D} {r:List (List D×Nat)} {f:Nat->Value} {Z:aC}
def StopAt(E:Env)(l:Nat)(R:Nat->Prop)(I:List (List Nat×D)->(Nat->Prop)->aC->Prop)(J:(Nat->Prop)->aC->Prop)(pre:List (List Nat×D))(path:List Nat)(d:D):Prop:=
 ∀B Z pv v,Wf Z->I pre B Z->PathAt Z pv path->aU R Z v d->∃B' V,E.round l [pv,v] Z=.ret (.bool false) none V/\Wf V/\Chg B Z V/\(∀b,B' b->B b\/Z.next<=b)/\J B' V
end
end Go.Proofs.YtknnbjmcfibpgaaGreatDoor
namespace Go.Proofs.YtknnbjmcfibpgaaGreatDoor
open Go Go.Eng
attribute [local congr] Aa Af Ad Ab Ac
attribute [-go_sem] List.range_succ
section
variable (fn:FuncId) (params:List Tmp) (assign body:Code) (nl nt:Nat) (f g:Nat->Value) (Z:aC)
def LoopDone(l r id:Nat)(Z:aC):Prop:=∃ver,Z.heap.get l=some ⟨.loop .done (some (.exit id)) fn ((List.range nl).map f) g nl nt params assign body r,false,none,ver⟩
theorem LoopDone.put(l r id:Nat):LoopDone fn params assign body nl nt f g l r id (Z.put l (.loop .done (some (.exit id)) fn ((List.range nl).map f) g nl nt params assign body r) none):=⟨_,by rw[Ak,if_pos rfl]⟩
end
end Go.Proofs.YtknnbjmcfibpgaaGreatDoor
namespace Go.Proofs.YtknnbjmcfibpgaaGreatDoor
open Go Go.Eng
attribute [local congr] Aa Af Ad Ab Ac
attribute [-go_sem] List.range_succ
def likeD:D->D->Bool
 | .mk k z t ps,.mk k' z' t' ps'=>(k==k')&&(z==z')&&(t.toList==t'.toList)&&(Int.ofNat ps.length==Int.ofNat ps'.length)
def CmpB(l r mb fb cm bv:Nat)(R:Nat->Prop)(es:List D)(n:Nat)(fv:Value->aC->Prop)(B:Nat->Prop)(Z:aC):Prop:=
 (∀b,b=l\/b=r\/b=mb\/b=fb\/b=cm\/b=bv->B b)/\(∀b,B b->b<Z.next/\(b=l\/b=r\/b=mb\/b=fb\/b=cm\/b=bv\/l<b))/\(∃ver,Z.heap.get r=some ⟨.defd true,false,none,ver⟩)/\
  (∃ver,Z.heap.get mb=some ⟨.cells [.int .i64 (.ofNat n)] TI,false,none,ver⟩)/\(∃w ver,Z.heap.get fb=some ⟨.cells [w] 25,false,none,ver⟩/\fv w Z)/\∃s,Z.cells cm=some [s]/\VecG (· = bv) R Z s es
def CmpI(l r mb fb cm bv:Nat)(R:Nat->Prop)(es:List D)(f g:Nat->Value)(done:List (List Nat×D))(B:Nat->Prop)(Z:aC):Prop:=
 bR 106 [24,25] Aa1 Aa2 12 43 f g l r .ready Z/\CmpB l r mb fb cm bv R es done.length (fun w _=>w=.slice none 0 0) B Z
theorem CmpB.keep{l r mb fb cm bv n:Nat}{R:Nat->Prop}{es:List D}{fv:Value->aC->Prop}{B:Nat->Prop}{Z V:aC}(h:CmpB l r mb fb cm bv R es n fv B Z)(hw:Wf Z)(hn:Z.next<=V.next)(hk:∀b,B b->b≠l->V.heap.get b=Z.heap.get b)(hne:l≠r/\l≠mb/\l≠fb/\l≠cm/\l≠bv)(hR:∀b c,R b->Z.cells b=some c->V.cells b=some c)(hf:∀w,fv w Z->fv w V):CmpB l r mb fb cm bv R es n fv B V:=by
 obtain⟨h1,h2,⟨v3,h3⟩,⟨v4,h4⟩,⟨w,v5,h5,h6⟩,s,h7,h8⟩:=h
 refine⟨h1,fun b hb=>⟨Nat.lt_of_lt_of_le (h2 b hb).1 hn,(h2 b hb).2⟩,⟨v3,(hk r (h1 r (by simp)) (Ne.symm hne.1)).trans h3⟩,⟨v4,(hk mb (h1 mb (by simp)) (Ne.symm hne.2.1)).trans h4⟩,⟨w,v5,(hk fb (h1 fb (by simp)) (Ne.symm hne.2.2.1)).trans h5,hf w h6⟩,s,?_,h8.keep (fun b e hb he=>⟨?_,hb⟩) fun b c hb hc=>⟨hR b c hb hc,hb⟩⟩
 .rw[Av,hk cm (h1 cm (by simp)) (Ne.symm hne.2.2.2.1),<-Av];exact h7
 .rw[hb] at he ⊢
  exact(hk bv (h1 bv (by simp)) (Ne.symm hne.2.2.2.2)).trans he
def CmpJ(l r mb fb cm bv:Nat)(R:Nat->Prop)(es:List D)(f g:Nat->Value)(n:Nat)(path:List Nat)(base:Nat)(B:Nat->Prop)(Z:aC):Prop:=
 LoopDone 106 [24,25] Aa1 Aa2 12 43 f g l r 2 Z/\CmpB l r mb fb cm bv R es n (fun w Z=>PathV (fun b=>base<=b) Z w path) B Z
end Go.Proofs.YtknnbjmcfibpgaaGreatDoor
namespace Go.Proofs.YtknnbjmcfibpgaaGreatDoor
open Go Go.Eng
variable (E:Env) (ro:Option Nat) (last:List Nat->aZ) (cl:List Nat) (a:aV) (u:Option FrameMode) (Z:aC)
noncomputable def x123_0:Code:=(scopesOf (Tryz.f123.body.getD .skip)).getD 0 .skip
def find123_0(E:Env)(ro:Option Nat)(fn:FuncId):Nat->Option (Bx aZ):=fun l=>match findLabel x123_0 l with|some rest=>some ⟨(ccode Tryz.prog nls 998 rest).un E ro fn⟩|none=>none
noncomputable def Au3:Code:=((bP (Tryz.f85.body.getD .skip)).getD 0 (.skip,.skip)).1
noncomputable def Au4:Code:=((bP (Tryz.f85.body.getD .skip)).getD 0 (.skip,.skip)).2
def Yh(_:Unit):List COp:=[⟨fun a Z=>fbox 24 (a.get 0) Z,some 1,tT⟩,
 ⟨fun a Z=>aP [(.int .i64 0),(.int .i64 0),(.string ⟨#[]⟩),(.slice none 0 0)] 24 none Z,some 2,tT⟩]
def ArM:List COp:=Yh ()
def Yi(_:Unit):List COp:=[⟨fun a Z=>aH 0 (a.get 1) Z,some 5,tT⟩,
 ⟨fun a Z=>aG none (a.get 5) Z,some 6,tT⟩,
 ⟨fun a Z=>aH 1 (a.get 1) Z,some 7,tT⟩,
 ⟨fun a Z=>aG none (a.get 7) Z,some 8,tT⟩,
 ⟨fun a Z=>aH 2 (a.get 1) Z,some 9,tT⟩,
 ⟨fun a Z=>aG none (a.get 9) Z,some 10,tT⟩,
 ⟨fun a Z=>fbuild (fun i=>nth [(0,1),(1,1),(2,1),(3,1)] i) [(.int .i64 0),(.int .i64 0),(.string ⟨#[]⟩),(.slice none 0 0)] [(0,(a.get 6)),(1,(a.get 8)),(2,(a.get 10))] Z,some 11,tT⟩,
 ⟨fun a Z=>aP [(.int .i64 0),(.int .i64 0),(.string ⟨#[]⟩),(.slice none 0 0)] 24 none Z,some 3,tT⟩,
 ⟨fun a Z=>aK 4 (a.get 3) (a.get 11) Z,none,tT⟩]
def ArN:List COp:=Yi ()
def Yj(_:Unit):List COp:=[⟨fun a Z=>.val (.int .i64 0) Z,some 4,tT⟩]
def ArO:List COp:=Yj ()
def QN(_:Unit):List COp:=[⟨fun a Z=>.val (a.get 4) Z,some 12,tT⟩,
 ⟨fun a Z=>aH 3 (a.get 1) Z,some 13,tT⟩,
 ⟨fun a Z=>aG none (a.get 13) Z,some 14,tT⟩,
 ⟨fun a Z=>flenL (a.get 14) Z,some 15,tT⟩,
 ⟨fun a Z=>i_lss Tryz.prog 3 (.tmp 12) (.tmp 15) (a.get 12) (a.get 15) Z,some 16,tT⟩]
def ArP:List COp:=QN ()
def Yl(_:Unit):List DOp:=[⟨fun a Z=>aH 3 (a.get 1) Z,some 21,tT,some 0,false⟩,
 ⟨fun a Z=>aG none (a.get 21) Z,some 22,tT,some 0,false⟩,
 ⟨fun a Z=>.val (a.get 4) Z,some 23,tT,some 0,false⟩,
 ⟨fun a Z=>bB (none,4) (a.get 22) (a.get 23) Z,some 24,tT,some 0,false⟩,
 ⟨fun a Z=>aG (some 4) (a.get 24) Z,some 25,tT,some 0,false⟩,
 ⟨fun a Z=>.enter 10 [(a.get 25)] Z,some 26,tT,none,false⟩,
 ⟨fun a Z=>aH 3 (a.get 3) Z,some 19,tT,some 0,false⟩,
 ⟨fun a Z=>aG none (a.get 19) Z,some 20,tT,some 0,false⟩,
 ⟨fun a Z=>aX 24 1 4 [(.int .i64 0),(.int .i64 0),(.string ⟨#[]⟩),(.slice none 0 0)] [(0,(a.get 26))] Z,some 27,tT,some 1,false⟩,
 ⟨fun a Z=>fappend 24 4 56 (a.get 20) (a.get 27) Z,some 28,tT,none,true⟩,
 ⟨fun a Z=>aH 3 (a.get 3) Z,some 29,tT,some 2,false⟩,
 ⟨fun a Z=>aK 1 (a.get 29) (a.get 28) Z,none,tT,none,true⟩]
def ArR:List DOp:=Yl ()
def Yk(_:Unit):List COp:=[⟨fun a Z=>.val (a.get 4) Z,some 17,tT⟩,
 ⟨fun a Z=>i_add Tryz.prog 3 (.tmp 17) (.const (.int .i64 1)) (a.get 17) (.int .i64 1) Z,some 18,tT⟩,
 ⟨fun a Z=>.val (a.get 18) Z,some 4,tT⟩]
def ArQ:List COp:=Yk ()
def Abj(E:Env)(ro:Option Nat)(fn:FuncId):aZ:=(aF (aF (aD E ro ArP) (aL (fun a=>(a.get 16)) aQ (exitR 0))) (aF (aR 1 (drawR E ro ArR)) (aD E ro ArQ)))
def Ym(_:Unit):List COp:=[⟨fun a Z=>aG (some 4) (a.get 3) Z,some 30,tT⟩,
 ⟨fun a Z=>aK 4 (a.get 2) (a.get 30) Z,none,tT⟩]
def ArS:List COp:=Ym ()
def Anb(E:Env)(ro:Option Nat)(fn:FuncId):aZ:=(aF (aD E ro ArM) (aF (aD E ro ArN) (aF (aF (aD E ro ArO) (aR 0 (loopR (bH nls fn) (Abj E ro fn)))) (aF (aD E ro ArS) bO))))
theorem AgD:aD E ro ArM a u Z=aD E ro (Yh ()) a u Z:=rfl
theorem AgE:aD E ro ArN a u Z=aD E ro (Yi ()) a u Z:=rfl
theorem AgF:aD E ro ArO a u Z=aD E ro (Yj ()) a u Z:=rfl
theorem VA:aD E ro ArP a u Z=aD E ro (QN ()) a u Z:=rfl
theorem AgH:bM E ro last ArR cl a u Z=bM E ro last (Yl ()) cl a u Z:=rfl
theorem AgG:aD E ro ArQ a u Z=aD E ro (Yk ()) a u Z:=rfl
theorem AgI:aD E ro ArS a u Z=aD E ro (Ym ()) a u Z:=rfl
theorem Au8(E:Env)(ro:Option Nat)(fn:FuncId):code Tryz.prog nls (Tryz.f10.body.getD .skip) E ro fn=Anb E ro fn:=by kernel_rfl
theorem Ao2(E:Env)(args:List Value)(u:Option FrameMode)(Z:aC)(hn:args.length<=(5:Nat)):bA Tryz.prog nls E 10 args u Z=aN Tryz.prog E [.cell 2 24] (Anb E none 10 ⟨aY undef 5 args,fun _=>undef,5,31,[]⟩ u Z):=by
 rw[Am (body:=Tryz.f10.body.getD .skip) Tryz.func10 rfl E args u Z 5 31 (by kernel_rfl) rfl ⟨hn,by decide⟩,Au8]
 rfl
end Go.Proofs.YtknnbjmcfibpgaaGreatDoor
namespace Go.Proofs.YtknnbjmcfibpgaaGreatDoor
open Go Go.Eng
attribute [local congr] Aa Af Ad Ab Ac
attribute [-go_sem] List.range_succ
def scopeK(find:Nat->Option (Bx aZ))(again:aZ->aZ)(r:KRes):KRes:=match r with
 | .done (.goto l) a u Z=>(match find l with|some rest=>again rest.un a u Z|none=>.done (.goto l) a u Z)
 | r=>r
theorem K_(find:Nat->Option (Bx aZ))(n:Nat)(run:aZ)(a:aV)(u:Option FrameMode)(Z:aC):fscope find (n+1) run a u Z=scopeK find (fscope find n) (run a u Z):=by
 show (match run a u Z with|.done (.goto l) a u Z=>(match find l with|some rest=>fscope find n rest.un a u Z|none=>.done (.goto l) a u Z)|r=>r)=_
 unfold scopeK
 rfl
theorem AaL(find:Nat->Option (Bx aZ))(again:aZ->aZ)(a:aV)(u:Option FrameMode)(Z:aC):scopeK find again (.done .ret a u Z)=.done .ret a u Z:=rfl
structure HeadEl (R:Nat->Prop) (bU:aC) (bd bt:Nat) (rest:D) (done:List D) (f:Nat->Value) (Z:aC):Prop where
 f1:f 1=.pointer (some ⟨bd,0,none⟩)
 f3:f 3=.pointer (some ⟨bt,0,none⟩)
 vec:VecG (fun b=>bU.next<=b/\b≠bd/\b≠bt) R Z (f 2) done
 hd:∃ver lv,Z.heap.get bd=some ⟨.cells lv TD,false,none,ver⟩/\lv.length=4/\aU R Z (.agg lv.toArray) rest
 ht:∃ver,Z.heap.get bt=some ⟨.cells [.int .i64 0,.int .i64 0,.string ⟨#[]⟩,.slice none 0 0] TD,false,none,ver⟩
 ne:bd≠bt
 lo:bU.next<=bd/\bU.next<=bt
 wf:Wf Z
 ext:Ext bU Z
end Go.Proofs.YtknnbjmcfibpgaaGreatDoor
namespace Go.Proofs.YtknnbjmcfibpgaaGreatDoor
open Go Go.Eng
attribute [local congr] Aa Af Ad Ab Ac
attribute [-go_sem] List.range_succ
def Ayp(E:Env):aZ:=aF (aF (aD E none ApT) (aL (fun a=>a.get 40) (aD E none ApU) aQ)) (aF (aD E none ApV) bO)
end Go.Proofs.YtknnbjmcfibpgaaGreatDoor
namespace Go.Eng
open Go
section
variable (P:Program) (E:Env) (ro:Option Nat) (rs:List ResultVar) (dst:Option Tmp) (k:aZ) (a:aV) (u:Option FrameMode) (Z s:aC) (ch:List PanicEntry)
theorem Qt(t:TypeId)(v:Value):fpanic (.iface t v) Z=.panic (.iface t v) Z:=rfl
theorem TZ(v:Value):afterOp E ro dst a u k (.panic v s)=.done (.panic [{ v,recovered:=false }]) a u s:=rfl
theorem Bi(u':Option FrameMode):afterCall a dst u k (.pan ch u' s)=.done (.panic ch) a u s:=rfl
theorem AG:aN P E rs (.done (.panic ch) a u Z)=fleave P E rs a u a.defers (.panicking ch) Z:=rfl
theorem IY(f:FuncId)(cap args:Array Value)(ds:List Deferred):fleave P E rs a u ({ target:=.fn (.func f) cap,args:=args }::ds) (.panicking ch) Z=
  (match E.call f (args.toList++cap.toList) (some (.panicking ch)) Z with
   | .ret _ (some md') Z=>fleave P E rs a u ds (unrecovered md') Z
   | .pan ch (some md') Z=>fleave P E rs a u ds (raised md' ch) Z
   | _=>.no):=rfl
theorem FM(v:Value):afterOp E none dst a (some (.panicking [{ v,recovered:=false }])) k (.recover Z)=k (a.put dst v) (some (.panicking [{ v,recovered:=true }])) Z:=rfl
theorem E9(v:Value):unrecovered (.panicking [{ v,recovered:=true }])=.returning:=rfl
end
end Go.Eng
namespace Go.Proofs.YtknnbjmcfibpgaaGreatDoor
open Go Go.Eng
attribute [local congr] Aa Af Ad Ab Ac
attribute [-go_sem] List.range_succ
abbrev failing(c z:Int):PanicEntry:={ v:=.iface 171 (.agg #[.int .i64 c,.int .i64 z]),recovered:=false }
abbrev failed(c z:Int):PanicEntry:={ v:=.iface 171 (.agg #[.int .i64 c,.int .i64 z]),recovered:=true }
theorem AvT(n:Nat)(c z:Int)(Z:aC):(env (n+1)).call 149 [.int .i64 c,.int .i64 z] none Z=.pan [failing c z] none Z:=by
 rw[Ai _ 149 _ _ rfl,AfQ _ _ _ _ (by simp),Ah]
 unfold AaD
 simp -implicitDefEqProofs only[go_sem,Aeq,RP,Qt,TZ,AG,Bd]
theorem Hp(n:Nat)(c:Int)(Z:aC):(env (n+2)).call 124 [.int .i64 c] none Z=.pan [failing c 0] none Z:=by
 rw[Ai _ 124 _ _ rfl,AfJ _ _ _ _ (by simp),Ah]
 unfold Aaw
 simp -implicitDefEqProofs only[go_sem,AdR,Rb,AvT,Bi,AG,Bd]
end Go.Proofs.YtknnbjmcfibpgaaGreatDoor
namespace Go.Proofs.YtknnbjmcfibpgaaGreatDoor
open Go Go.Eng
attribute [local congr] Aa Af Ad Ab Ac
attribute [-go_sem] List.range_succ
theorem Xf:aggSize Tryz.prog 171=some (some 2):=by kernel_rfl
theorem EU(n:Nat)(c z:Int)(Z:aC)(hw:Wf Z):
  Gives ((env (n+2)).call 136 [.iface 171 (.agg #[.int .i64 c,.int .i64 z])] none Z) Z fun v _=>v=.agg #[.int .i64 c,.int .i64 z]:=by
 rw[Ai _ 136 _ _ rfl,AfK _ _ _ _ (by simp),Ah]
 unfold Aax
 have hw1:=(hw.push (.cells [.int .i64 0,.int .i64 0] 171) none).push (.cells [.int .i64 0,.int .i64 0] 171) none
 have hX1:Ext Z ((Z.push (.cells [.int .i64 0,.int .i64 0] 171) none).push (.cells [.int .i64 0,.int .i64 0] 171) none):=((Ext.refl _).push _ _).push _ _
 have e1:=AvR n (.int .i64 c) (.int .i64 z) (.pointer (some ⟨Z.next+1,0,none⟩)) ((Z.push (.cells [.int .i64 0,.int .i64 0] 171) none).push (.cells [.int .i64 0,.int .i64 0] 171) none)
  (((Z.push (.cells [.int .i64 0,.int .i64 0] 171) none).push (.cells [.int .i64 0,.int .i64 0] 171) none).put (Z.next+1) (.cells [.int .i64 c,.int .i64 z] 171) none) (by
   simp -implicitDefEqProofs only[go_sem,AP])
 simp -implicitDefEqProofs only[go_sem,AP,AdX,Rj,AdY,Rk,AdZ,Rl,Ad0,Rm,e1,Xf,Ag,Bb,AH,AL,Dl]
 refine⟨_,_,rfl,(hX1.put _ _ _ (Nat.le_add_right _ _)).put _ _ _ (Nat.le_refl _),?_,rfl⟩
 exact(hw1.put _ _ _ (by simp only[Ae];omega)).put _ _ _ (by simp only[Ao,Ae];omega)
theorem Xz(v:Value)(x:Nat)(Z:aC):bJ Tryz.prog 20 (.tmp x) (.const .nilIface) (.iface 171 v) .nilIface Z=.val (.bool false) Z:=by kernel_rfl
theorem Ku(v:Value)(Z:aC):fassert Tryz.prog (.iface 171 v) 169 true Z=.val (.tuple #[.iface 171 v,.bool true]) Z:=by kernel_rfl
def Fails(r:CRes)(Z:aC)(c z:Int):Prop:=∃V,r=.pan [failing c z] none V/\Ext Z V/\Wf V
end Go.Proofs.YtknnbjmcfibpgaaGreatDoor
namespace Go.Proofs.YtknnbjmcfibpgaaGreatDoor
open Go Go.Eng
attribute [local congr] Aa Af Ad Ab Ac
attribute [-go_sem] List.range_succ
theorem Jp(P:Program)(E:Env)(rs:List ResultVar)(a:aV)(u:Option FrameMode)(Z:aC)(ch:List PanicEntry)(r:Nat)(args:Array Value)(ds:List Deferred)(ver:Nat)(h:Z.heap.get r=some ⟨.defd true,false,none,ver⟩):
  fleave P E rs a u ({ target:=.collected r,args:=args }::ds) (.panicking ch) Z=fleave P E rs a u ds (.panicking ch) (Z.put r (.defd false) none):=by
 show (cond (isRun (.panicking ch)) CRes.no (match Z.heap.get r with|some e=>(match e.obj with|.defd true=>cond e.ro CRes.no (fleave P E rs a u ds (.panicking ch) (Z.put r (.defd false) none))|_=>.no)|none=>.no))=_
 rw[h]
 rfl
end Go.Proofs.YtknnbjmcfibpgaaGreatDoor
namespace Go.Proofs.YtknnbjmcfibpgaaGreatDoor
open Go Go.Eng
attribute [local congr] Aa Af Ad Ab Ac
attribute [-go_sem] List.range_succ
structure Apart (M:Nat) (d:D):Prop where
 sane:Sane M d
 count:d.count<900
 deep:d.deep<1000
theorem Apart.small{M:Nat}{d:D}(h:Apart M d):Small (d.pieces []):=h.sane.small h.deep
theorem Apart.few{M:Nat}{d:D}(h:Apart M d):(d.pieces []).length<900:=by rw[DY];exact h.count
end Go.Proofs.YtknnbjmcfibpgaaGreatDoor
namespace Go.Proofs.YtknnbjmcfibpgaaGreatDoor
open Go Go.Eng
variable (E:Env) (ro:Option Nat) (last:List Nat->aZ) (cl:List Nat) (a:aV) (u:Option FrameMode) (Z:aC)
def S_(_:Unit):List COp:=[⟨fun a Z=>.val (.int .i64 0) Z,some 2,tT⟩,
 ⟨fun a Z=>.val (.int .i64 0) Z,some 3,tT⟩]
def Aue:List COp:=S_ ()
def Ta(_:Unit):List COp:=[⟨fun a Z=>.val (a.get 0) Z,some 8,tT⟩,
 ⟨fun a Z=>.enter 119 [(a.get 8)] Z,some 9,tT⟩,
 ⟨fun a Z=>.val (a.get 9) Z,some 7,tT⟩,
 ⟨fun a Z=>aJ 0 (a.get 7) Z,some 10,tT⟩,
 ⟨fun a Z=>aJ 1 (a.get 7) Z,some 11,tT⟩,
 ⟨fun a Z=>aJ 2 (a.get 7) Z,some 12,tT⟩,
 ⟨fun a Z=>.val (a.get 10) Z,some 4,tT⟩,
 ⟨fun a Z=>.val (a.get 11) Z,some 5,tT⟩,
 ⟨fun a Z=>.val (a.get 12) Z,some 6,tT⟩]
def Auf:List COp:=Ta ()
def Tc(_:Unit):List COp:=[⟨fun a Z=>.val (a.get 4) Z,some 13,tT⟩,
 ⟨fun a Z=>.val (a.get 6) Z,some 14,tT⟩,
 ⟨fun a Z=>.val (a.get 13) Z,some 2,tT⟩,
 ⟨fun a Z=>.val (a.get 14) Z,some 3,tT⟩]
def Aug:List COp:=Tc ()
def Acn(E:Env)(ro:Option Nat)(fn:FuncId):aZ:=(aF (aD E ro Aue) (aF (aD E ro Auf) (aF (aD E ro Aug) bO)))
theorem Wv:aD E ro Aue a u Z=aD E ro (S_ ()) a u Z:=rfl
theorem Ww:aD E ro Auf a u Z=aD E ro (Ta ()) a u Z:=rfl
theorem Wx:aD E ro Aug a u Z=aD E ro (Tc ()) a u Z:=rfl
theorem AvE(E:Env)(ro:Option Nat)(fn:FuncId):code Tryz.prog nls (Tryz.f72.body.getD .skip) E ro fn=Acn E ro fn:=by kernel_rfl
theorem Abd(E:Env)(args:List Value)(u:Option FrameMode)(Z:aC)(hn:args.length<=(7:Nat)):bA Tryz.prog nls E 72 args u Z=aN Tryz.prog E [.tmp 2,.tmp 3] (Acn E none 72 ⟨aY undef 7 args,fun _=>undef,7,15,[]⟩ u Z):=by
 rw[Am (body:=Tryz.f72.body.getD .skip) Tryz.func72 rfl E args u Z 7 15 (by kernel_rfl) rfl ⟨hn,by decide⟩,AvE]
 rfl
def LP(_:Unit):List COp:=[⟨fun a Z=>.val (.int .i64 0) Z,some 2,tT⟩,
 ⟨fun a Z=>aP [(.int .i64 0)] 3 none Z,some 3,tT⟩,
 ⟨fun a Z=>aP [(.int .i64 0)] 32 none Z,some 4,tT⟩]
def Ahv:List COp:=LP ()
def LQ(_:Unit):List COp:=[⟨fun a Z=>.val (.func (.func 145) #[] #[(a.get 3),(a.get 4)]) Z,some 5,tT⟩,
 ⟨fun a Z=>fdefer (a.get 5) [] Z,none,tT⟩]
def Ahw:List COp:=LQ ()
def LR(_:Unit):List COp:=[⟨fun a Z=>.val (a.get 0) Z,some 6,tT⟩,
 ⟨fun a Z=>fcallV (a.get 6) [] Z,some 7,tT⟩,
 ⟨fun a Z=>.val (a.get 7) Z,some 2,tT⟩,
 ⟨fun a Z=>aK 1 (a.get 3) (.int .i64 0) Z,none,tT⟩,
 ⟨fun a Z=>aK 1 (a.get 4) (.int .i64 0) Z,none,tT⟩]
def Ahx:List COp:=LR ()
def TB(E:Env)(ro:Option Nat)(fn:FuncId):aZ:=(aF (aD E ro Ahv) (aF (aD E ro Ahw) (aF (aD E ro Ahx) bO)))
theorem Pi:aD E ro Ahv a u Z=aD E ro (LP ()) a u Z:=rfl
theorem Pj:aD E ro Ahw a u Z=aD E ro (LQ ()) a u Z:=rfl
theorem Pk:aD E ro Ahx a u Z=aD E ro (LR ()) a u Z:=rfl
theorem Aou(E:Env)(ro:Option Nat)(fn:FuncId):code Tryz.prog nls (Tryz.f119.body.getD .skip) E ro fn=TB E ro fn:=by kernel_rfl
theorem UE(E:Env)(args:List Value)(u:Option FrameMode)(Z:aC)(hn:args.length<=(5:Nat)):bA Tryz.prog nls E 119 args u Z=aN Tryz.prog E [.tmp 2,.cell 3 3,.cell 4 32] (TB E none 119 ⟨aY undef 5 args,fun _=>undef,5,8,[]⟩ u Z):=by
 rw[Am (body:=Tryz.f119.body.getD .skip) Tryz.func119 rfl E args u Z 5 8 (by kernel_rfl) rfl ⟨hn,by decide⟩,Aou]
 rfl
def L9(_:Unit):List COp:=[⟨fun a Z=>.recover Z,some 6,tT⟩]
def Ai7:List COp:=L9 ()
def L_(_:Unit):List COp:=[⟨fun a Z=>bJ Tryz.prog 20 (.tmp 6) (.const .nilIface) (a.get 6) .nilIface Z,some 7,tT⟩]
def Ai8:List COp:=L_ ()
def RH(_:Unit):List COp:=[⟨fun a Z=>.val (a.get 6) Z,some 2,tT⟩]
def Ai9:List COp:=RH ()
def RI(_:Unit):List COp:=[⟨fun a Z=>fassert Tryz.prog (a.get 6) 169 true Z,some 8,tT⟩,
 ⟨fun a Z=>aJ 1 (a.get 8) Z,some 9,tT⟩,
 ⟨fun a Z=>aJ 0 (a.get 8) Z,some 10,tT⟩]
def Aja:List COp:=RI ()
def RJ(_:Unit):List COp:=[⟨fun a Z=>.val (a.get 10) Z,some 3,tT⟩]
def Ajb:List COp:=RJ ()
def RK(_:Unit):List COp:=[⟨fun a Z=>.val (a.get 3) Z,some 11,tT⟩,
 ⟨fun a Z=>.enter 136 [(a.get 11)] Z,some 12,tT⟩,
 ⟨fun a Z=>aP [(.int .i64 0),(.int .i64 0)] 171 none Z,some 4,tT⟩,
 ⟨fun a Z=>aK 2 (a.get 4) (a.get 12) Z,none,tT⟩]
def Ajc:List COp:=RK ()
def RL(_:Unit):List DOp:=[⟨fun a Z=>aH 1 (a.get 4) Z,some 13,tT,some 0,false⟩,
 ⟨fun a Z=>aG none (a.get 13) Z,some 14,tT,some 0,false⟩,
 ⟨fun a Z=>aK 1 (a.get 0) (a.get 14) Z,none,tT,none,false⟩,
 ⟨fun a Z=>aH 0 (a.get 4) Z,some 15,tT,some 0,false⟩,
 ⟨fun a Z=>aG none (a.get 15) Z,some 16,tT,some 0,false⟩,
 ⟨fun a Z=>aK 1 (a.get 1) (a.get 16) Z,none,tT,none,true⟩]
def Ajd:List DOp:=RL ()
def Aqy(_:Unit):List COp:=[⟨fun a Z=>.val (a.get 6) Z,some 5,tT⟩]
def Awu:List COp:=Aqy ()
def Aqz(_:Unit):List COp:=[⟨fun a Z=>aK 1 (a.get 1) (.int .i64 1) Z,none,tT⟩]
def Awv:List COp:=Aqz ()
def TF(E:Env)(ro:Option Nat)(fn:FuncId):aZ:=(aF (aD E ro Ai7) (aR 0 (aF (aD E ro Ai8) (aL (fun a=>(a.get 7)) (aD E ro Ai9) (aF (aD E ro Aja) (aL (fun a=>(a.get 9)) (aF (aD E ro Ajb) (aF (aD E ro Ajc) (drawR E ro Ajd))) (aF (aD E ro Awu) (aD E ro Awv))))))))
theorem Px:aD E ro Ai7 a u Z=aD E ro (L9 ()) a u Z:=rfl
theorem Py:aD E ro Ai8 a u Z=aD E ro (L_ ()) a u Z:=rfl
theorem Aei:aD E ro Ai9 a u Z=aD E ro (RH ()) a u Z:=rfl
theorem Aej:aD E ro Aja a u Z=aD E ro (RI ()) a u Z:=rfl
theorem Aek:aD E ro Ajb a u Z=aD E ro (RJ ()) a u Z:=rfl
theorem Ael:aD E ro Ajc a u Z=aD E ro (RK ()) a u Z:=rfl
theorem Aem:bM E ro last Ajd cl a u Z=bM E ro last (RL ()) cl a u Z:=rfl
theorem AoH(E:Env)(ro:Option Nat)(fn:FuncId):code Tryz.prog nls (Tryz.f145.body.getD .skip) E ro fn=TF E ro fn:=by kernel_rfl
theorem UH(E:Env)(args:List Value)(u:Option FrameMode)(Z:aC)(hn:args.length<=(6:Nat)):bA Tryz.prog nls E 145 args u Z=aN Tryz.prog E [] (TF E none 145 ⟨aY undef 6 args,fun _=>undef,6,17,[]⟩ u Z):=by
 rw[Am (body:=Tryz.f145.body.getD .skip) Tryz.func145 rfl E args u Z 6 17 (by kernel_rfl) rfl ⟨hn,by decide⟩,AoH]
 rfl
end Go.Proofs.YtknnbjmcfibpgaaGreatDoor
namespace Go.Eng
open Go
def ordZ(a b:Int):Int:=if a<b then -1 else if a>b then 1 else 0
theorem EM{a b:Int}:ordZ a b=0↔a=b:=by
 unfold ordZ
 split
 .omega
 .split<;>omega
theorem Gl{a b:Int}:ordZ a b<0↔a<b:=by
 unfold ordZ
 split
 .omega
 .split<;>omega
theorem O5(a b:Int):ordZ b a = - ordZ a b:=by
 unfold ordZ
 split<;>split<;>(try split)<;>omega
theorem M8(a b:Int) : -1<=ordZ a b/\ordZ a b<=1:=by
 unfold ordZ
 split
 .omega
 .split<;>omega
abbrev cmpT(a b:ByteArray):Int:=Extern.BytealgCompare.cmp a b
def LtT(a b:ByteArray):Prop:=∃i,(∀j,j<i->a[j]! = b[j]!)/\i<=a.size/\i<b.size/\(i=a.size\/a[i]! < b[i]!)
theorem E0(a b:ByteArray):(LtT a b/\cmpT a b = -1)\/(LtT b a/\cmpT a b=1)\/(a=b/\cmpT a b=0):=by
 unfold cmpT Extern.BytealgCompare.cmp
 cases h:(List.range (min a.size b.size)).find? fun i=>a[i]! != b[i]! with
 | some i=>
  rw[List.find?_range_eq_some] at h
  obtain⟨h1,h2,h3⟩:=h
  rw[List.mem_range] at h2
  have h3':∀j,j<i->a[j]! = b[j]!:=fun j hj=>by
   have:=h3 j hj
   simpa using this
  have h1':a[i]! ≠ b[i]!:=by simpa using h1
  simp only
  by_cases hl:a[i]! < b[i]!
  .rw[if_pos hl]
   exact .inl ⟨⟨i,h3',by omega,by omega,.inr hl⟩,rfl⟩
  .rw[if_neg hl]
   refine .inr (.inl ⟨⟨i,fun j hj=>(h3' j hj).symm,by omega,by omega,.inr ?_⟩,rfl⟩)
   rcases UInt8.lt_or_eq_of_le (UInt8.not_lt.1 hl) with h|h
   .exact h
   .exact absurd h.symm h1'
 | none=>
  rw[List.find?_eq_none] at h
  have h':∀j,j<min a.size b.size->a[j]! = b[j]!:=fun j hj=>by
   have:=h j (List.mem_range.2 hj)
   simpa using this
  simp only
  by_cases h1:a.size<b.size
  .rw[if_pos h1]
   exact .inl ⟨⟨a.size,fun j hj=>h' j (by omega),Nat.le_refl _,h1,.inl rfl⟩,rfl⟩
  .rw[if_neg h1]
   by_cases h2:a.size>b.size
   .rw[if_pos h2]
    exact .inr (.inl ⟨⟨b.size,fun j hj=>(h' j (by omega)).symm,Nat.le_refl _,h2,.inl rfl⟩,rfl⟩)
   .rw[if_neg h2]
    refine .inr (.inr ⟨?_,rfl⟩)
    apply ByteArray.ext
    apply Array.ext
    .show a.size=b.size;omega
    .intro i h3 h4
     have h5:i<a.size:=h3
     have h6:i<b.size:=h4
     have:=h' i (by omega)
     rw[getElem!_pos a i h5,getElem!_pos b i h6] at this
     exact this
theorem LtT.irrefl{a:ByteArray}(h:LtT a a):False:=by
 obtain⟨i,_,_,h2,h3⟩:=h
 rcases h3 with h3|h3
 .omega
 .exact UInt8.lt_irrefl _ h3
theorem LtT.trans{a b c:ByteArray}(h:LtT a b)(h':LtT b c):LtT a c:=by
 obtain⟨i,h1,h2,h3,h4⟩:=h
 obtain⟨k,k1,k2,k3,k4⟩:=h'
 by_cases hik:i<k
 .refine⟨i,fun j hj=>(h1 j hj).trans (k1 j (by omega)),h2,by omega,?_⟩
  rw[<-k1 i hik]
  exact h4
 .by_cases hki:k<i
  .refine⟨k,fun j hj=>(h1 j (by omega)).trans (k1 j hj),by omega,k3,?_⟩
   rcases k4 with k4|k4
   .omega
   .rw[h1 k hki]
    exact .inr k4
  .obtain rfl:i=k:=by omega
   refine⟨i,fun j hj=>(h1 j hj).trans (k1 j hj),h2,k3,?_⟩
   rcases k4 with k4|k4
   .omega
   .rcases h4 with h4|h4
    .exact .inl h4
    .exact .inr (UInt8.lt_trans h4 k4)
theorem AfA{a b:ByteArray}:cmpT a b<0↔LtT a b:=by
 rcases E0 a b with⟨h,e⟩|⟨h,e⟩|⟨h,e⟩
 .exact⟨fun _=>h,fun _=>by omega⟩
 .exact⟨fun h'=>by omega,fun h'=>(h.trans h').irrefl.elim⟩
 .subst h
  exact⟨fun h'=>by omega,fun h'=>h'.irrefl.elim⟩
theorem HK{a b:ByteArray}:cmpT a b=0↔a=b:=by
 rcases E0 a b with⟨h,e⟩|⟨h,e⟩|⟨h,e⟩
 .exact⟨fun h'=>by omega,fun h'=>by subst h';exact h.irrefl.elim⟩
 .exact⟨fun h'=>by omega,fun h'=>by subst h';exact h.irrefl.elim⟩
 .exact⟨fun _=>h,fun _=>e⟩
theorem AcM(a b:ByteArray):cmpT b a = - cmpT a b:=by
 rcases E0 a b with⟨h,e⟩|⟨h,e⟩|⟨h,e⟩
 .rcases E0 b a with⟨h',e'⟩|⟨h',e'⟩|⟨h',e'⟩
  .exact(h.trans h').irrefl.elim
  .omega
  .subst h';exact h.irrefl.elim
 .rcases E0 b a with⟨h',e'⟩|⟨h',e'⟩|⟨h',e'⟩
  .omega
  .exact(h.trans h').irrefl.elim
  .subst h';exact h.irrefl.elim
 .subst h
  omega
theorem Xt(a b:ByteArray) : -1<=cmpT a b/\cmpT a b<=1:=by
 rcases E0 a b with⟨_,e⟩|⟨_,e⟩|⟨_,e⟩<;>omega
def thenI(a b:Int):Int:=if a=0 then b else a
theorem He{a b:Int}:thenI a b=0↔a=0/\b=0:=by
 unfold thenI
 split<;>omega
theorem Hd(a b:Int):thenI (-a) (-b) = - thenI a b:=by
 unfold thenI
 split<;>split<;>omega
theorem Ga{a b:Int}(h : -1<=a/\a<=1)(h' : -1<=b/\b<=1) : -1<=thenI a b/\thenI a b<=1:=by
 unfold thenI
 split<;>omega
theorem AnY{a b:Int}:thenI a b<=0↔a<0\/(a=0/\b<=0):=by
 unfold thenI
 split<;>omega
mutual
def ordU:D->D->Int
 | .mk k z t ds,.mk k' z' t' es=>thenI (ordZ k k') (thenI (ordZ z z') (thenI (cmpT t t') (ordUs ds es)))
def ordUs:List D->List D->Int
 | [],[]=>0
 | [],_::_ => -1
 | _::_,[]=>1
 | d::ds,e::es=>thenI (ordU d e) (ordUs ds es)
end
mutual
theorem O4:∀d e:D,ordU d e=0↔d=e
 | .mk k z t ds,.mk k' z' t' es=>by
  rw[ordU,He,He,He,EM,EM,HK,M7 ds es,D.mk.injEq]
theorem M7:∀ds es:List D,ordUs ds es=0↔ds=es
 | [],[]=>by simp[ordUs]
 | [],_::_=>by simp[ordUs]
 | _::_,[]=>by simp[ordUs]
 | d::ds,e::es=>by rw[ordUs,He,O4 d e,M7 ds es,List.cons.injEq]
end
mutual
theorem O3:∀d e:D,ordU e d = - ordU d e
 | .mk k z t ds,.mk k' z' t' es=>by
  rw[ordU,ordU,O5 k k',O5 z z',AcM t t',M6 ds es,Hd,Hd,Hd]
theorem M6:∀ds es:List D,ordUs es ds = - ordUs ds es
 | [],[]=>by simp[ordUs]
 | [],_::_=>by simp[ordUs]
 | _::_,[]=>by simp[ordUs]
 | d::ds,e::es=>by rw[ordUs,ordUs,O3 d e,M6 ds es,Hd]
end
mutual
theorem X_:∀d e:D,-1<=ordU d e/\ordU d e<=1
 | .mk k z t ds,.mk k' z' t' es=>by
  rw[ordU]
  exact Ga (M8 _ _) (Ga (M8 _ _) (Ga (Xt _ _) (Lh ds es)))
theorem Lh:∀ds es:List D,-1<=ordUs ds es/\ordUs ds es<=1
 | [],[]=>by simp[ordUs]
 | [],_::_=>by simp[ordUs]
 | _::_,[]=>by simp[ordUs]
 | d::ds,e::es=>by
  rw[ordUs]
  exact Ga (X_ d e) (Lh ds es)
end
theorem Hf{A B C a b c:Int}(h1:A<0->B<0->C<0)(h2:A<0->B=0->C<0)(h3:A=0->B<0->C<0)(h4:A=0->B=0->C=0)(h5:a<=0->b<=0->c<=0)(ha:thenI A a<=0)(hb:thenI B b<=0):thenI C c<=0:=by
 rw[AnY] at *
 rcases ha with ha|⟨ha,ha'⟩<;>rcases hb with hb|⟨hb,hb'⟩
 .exact .inl (h1 ha hb)
 .exact .inl (h2 ha hb)
 .exact .inl (h3 ha hb)
 .exact .inr ⟨h4 ha hb,h5 ha' hb'⟩
mutual
theorem Ya:∀a b c:D,ordU a b<=0->ordU b c<=0->ordU a c<=0
 | .mk k1 z1 t1 d1,.mk k2 z2 t2 d2,.mk k3 z3 t3 d3=>by
  rw[ordU,ordU,ordU]
  refine Hf (fun h h'=>?_) (fun h h'=>?_) (fun h h'=>?_) (fun h h'=>?_) ?_
  .rw[Gl] at *;omega
  .rw[Gl] at *;rw[EM] at h';omega
  .rw[Gl] at *;rw[EM] at h;omega
  .rw[EM] at *;omega
  refine Hf (fun h h'=>?_) (fun h h'=>?_) (fun h h'=>?_) (fun h h'=>?_) ?_
  .rw[Gl] at *;omega
  .rw[Gl] at *;rw[EM] at h';omega
  .rw[Gl] at *;rw[EM] at h;omega
  .rw[EM] at *;omega
  refine Hf (fun h h'=>?_) (fun h h'=>?_) (fun h h'=>?_) (fun h h'=>?_) (Li d1 d2 d3)
  .rw[AfA] at *;exact h.trans h'
  .rw[HK] at h';subst h';exact h
  .rw[HK] at h;subst h;exact h'
  .rw[HK] at *;exact h.trans h'
theorem Li:∀a b c:List D,ordUs a b<=0->ordUs b c<=0->ordUs a c<=0
 | [],[],[]=>by simp[ordUs]
 | [],[],_::_=>by simp[ordUs]
 | [],_::_,[]=>by simp[ordUs]
 | [],_::_,_::_=>by simp[ordUs]
 | _::_,[],[]=>by simp[ordUs]
 | _::_,[],_::_=>by simp[ordUs]
 | _::_,_::_,[]=>by simp[ordUs]
 | a::ar,b::br,c::cr=>by
  rw[ordUs,ordUs,ordUs]
  have ht:=Ya a b c
  have hz:=O4
  refine Hf (fun h h'=>?_) (fun h h'=>?_) (fun h h'=>?_) (fun h h'=>?_) (Li ar br cr)
  .have h1:=ht (by omega) (by omega)
   by_cases h0:ordU a c=0
   .have e:=(hz a c).1 h0
    subst e
    have:=O3 a b
    omega
   .omega
  .rw[hz] at h';subst h';exact h
  .rw[hz] at h;subst h;exact h'
  .rw[hz] at *;exact h.trans h'
end
end Go.Eng
namespace Go.Proofs.YtknnbjmcfibpgaaGreatDoor
open Go Go.Eng
attribute [local congr] Aa Af Ad Ab Ac
attribute [-go_sem] List.range_succ
def ordI(a b:Int):Int:=if a<b then -1 else if a>b then 1 else 0
end Go.Proofs.YtknnbjmcfibpgaaGreatDoor
namespace Go.Proofs.YtknnbjmcfibpgaaGreatDoor
open Go Go.Eng
attribute [local congr] Aa Af Ad Ab Ac
attribute [-go_sem] List.range_succ
def OrdR(d e:D)(r:Value):Prop:=r=.int .i64 (ordU d e)
end Go.Proofs.YtknnbjmcfibpgaaGreatDoor
namespace Go.Proofs.YtknnbjmcfibpgaaGreatDoor
open Go Go.Eng
attribute [local congr] Aa Af Ad Ab Ac
attribute [-go_sem] List.range_succ
section
variable (k z k' z':Int) (t t':ByteArray) (p p':Option Addr) (l l' c c':Nat) (Z:aC) (hw:Wf Z)
include hw
end
end Go.Proofs.YtknnbjmcfibpgaaGreatDoor
namespace Go.Proofs.YtknnbjmcfibpgaaGreatDoor
open Go Go.Eng
attribute [local congr] Aa Af Ad Ab Ac
attribute [-go_sem] List.range_succ
theorem JC(path:List Nat):∀(ds:List D) (j i:Nat) (d:D),ds[i]? = some d->∀x∈d.pieces (path++[j+i]),x∈D.piecesL path j ds
 | [],j,i,d,h=>by simp at h
 | d0::ds,j,0,d,h=>fun x hx=>by
  cases h
  rw[D.piecesL]
  exact List.mem_append_left _ hx
 | d0::ds,j,i+1,d,h=>fun x hx=>by
  rw[D.piecesL]
  exact List.mem_append_right _ (JC path ds (j+1) i d h x (by rw[show j+1+i=j+(i+1) by omega];exact hx))
end Go.Proofs.YtknnbjmcfibpgaaGreatDoor
namespace Go.Proofs.YtknnbjmcfibpgaaGreatDoor
open Go Go.Eng
attribute [local congr] Aa Af Ad Ab Ac
attribute [-go_sem] List.range_succ
theorem Uy(n:Nat)(p q:Value)(Z:aC):(env (n+1)).call 145 [p,q] (some .returning) Z=.ret (.tuple #[]) (some .returning) Z:=by
 rw[Fz,UH _ _ _ _ (by simp),Ah]
 unfold TF
 simp -implicitDefEqProofs only[go_sem,Px,L9,Py,L_,Aei,RH,X0]
theorem Aoh(n w:Nat)(cap:Array Value){Q:Nat->Value->aC->Prop}(hQ:Stays Q)(hone:∀base v Z,Q base v Z->oneCell v=true/\aM v=true/\aI v=[v])(Z:aC)(hw:Wf Z)(h:∀V,Ext Z V->Wf V->Gives ((env (n+1)).call w cap.toList none V) V (Q V.next)):
  Gives ((env (n+2)).call 119 [.func (.func w) #[] cap] none Z) Z fun v V=>∃u,v=.tuple #[u,.int .i64 0,.int .i64 0]/\Q Z.next u V:=by
 rw[Ai _ 119 _ _ rfl,UE _ _ _ _ (by simp),Ah]
 unfold TB
 have hX1:Ext Z ((Z.push (.cells [.int .i64 0] 3) none).push (.cells [.int .i64 0] 32) none):=((Ext.refl _).push _ _).push _ _
 have hw1:=(hw.push (.cells [.int .i64 0] 3) none).push (.cells [.int .i64 0] 32) none
 obtain⟨u,a_,e2,hX2,hw2,hq⟩:=h _ hX1 hw1
 have g1:a_.heap.get Z.next=_:=(hX2.get Z.next (by simp only[Ae];omega)).trans (by simp -implicitDefEqProofs only[Aj,Ae,Nat.add_assoc,Nat.reduceAdd,Nat.left_eq_add,reduceCtorEq,↓reduceIte,Nat.reduceEqDiff]<;>rfl)
 have g2:a_.heap.get (Z.next+1)=_:=(hX2.get (Z.next+1) (by simp only[Ae];omega)).trans (by simp -implicitDefEqProofs only[Aj,Ae,Nat.add_assoc,Nat.reduceAdd,Nat.add_left_cancel_iff,reduceCtorEq,↓reduceIte,Nat.reduceEqDiff]<;>rfl)
 obtain⟨o1,o2,o3⟩:=hone _ _ _ hq
 simp -implicitDefEqProofs only[go_sem,Pi,LP,Pj,LQ,Pk,LR,e2,g1,g2,Kg,Gg,Uy,Bb,AH,AL,Dl,BD,o1,o2,o3]
 have m1:=(hw2 _ _ g1).1
 have m2:=(hw2 _ _ g2).1
 exact⟨_,_,rfl,((hX1.trans hX2).put _ _ _ (Nat.le_refl _)).put _ _ _ (Nat.le_add_right _ _),(hw2.put _ _ _ m1).put _ _ _ m2,_,rfl,hQ.keep _ _ _ _ _ hq hw2 (by simp only[Ae];omega) fun b hb _=>by
  simp only[Ae] at hb
  rw[Ak,if_neg (by omega),Ak,if_neg (by omega)]⟩
theorem Axn(n w:Nat)(cap:Array Value){Q:Nat->Value->aC->Prop}(hQ:Stays Q)(hone:∀base v Z,Q base v Z->oneCell v=true/\aM v=true/\aI v=[v])(Z:aC)(hw:Wf Z)(h:∀V,Ext Z V->Wf V->Gives ((env (n+1)).call w cap.toList none V) V (Q V.next)):
  Gives ((env (n+3)).call 72 [.func (.func w) #[] cap] none Z) Z fun v V=>∃u,v=.tuple #[u,.int .i64 0]/\Q Z.next u V:=by
 rw[Ai _ 72 _ _ rfl,Abd _ _ _ _ (by simp),Ah]
 unfold Acn
 obtain⟨_,a_,e2,hX2,hw2,u,rfl,hq⟩:=Aoh n w cap hQ hone Z hw h
 obtain⟨o1,o2,o3⟩:=hone _ _ _ hq
 simp -implicitDefEqProofs only[go_sem,Wv,S_,Ww,Ta,Wx,Tc,e2,Bb,AH,AL,BD,o1,o2,o3]
 exact⟨_,_,rfl,hX2,hw2,u,rfl,hq⟩
theorem Adt(y:Int):Stays (fun _ v _=>v=.int .i64 y):=⟨fun _ _ _ _ _ h _ _ _=>h⟩
theorem Apart.at{M:Nat}{d:D}(h:Apart M d):∀x∈d.pieces [],x.2.parts.length<=900/\GoodD M x.2:=h.sane []
end Go.Proofs.YtknnbjmcfibpgaaGreatDoor
namespace Go.Proofs.YtknnbjmcfibpgaaGreatDoor
open Go Go.Eng
def Agree(A B:List (List Nat×D)):Prop:=A.length=B.length/\∀(i:Nat) (a:List Nat×D),A[i]? = some a->∃b,B[i]? = some b/\a.1=b.1/\likeD a.2 b.2=true
theorem Agree.nil:Agree [] []:=⟨rfl,fun i a h=>by simp at h⟩
theorem Agree.cons{a b:List Nat×D}{A B:List (List Nat×D)}(h1:a.1=b.1)(h2:likeD a.2 b.2=true)(h:Agree A B):Agree (a::A) (b::B):=by
 refine⟨by simp[h.1],fun i x hx=>?_⟩
 cases i with
 | zero=>cases hx;exact⟨b,rfl,h1,h2⟩
 | succ i=>exact h.2 i x hx
theorem Agree.append{A B A' B':List (List Nat×D)}(h:Agree A B)(h':Agree A' B'):Agree (A++A') (B++B'):=by
 refine⟨by simp[h.1,h'.1],fun i x hx=>?_⟩
 by_cases hi:i<A.length
 .rw[List.getElem?_append_left hi] at hx
  rw[List.getElem?_append_left (by rw[<-h.1];exact hi)]
  exact h.2 i x hx
 .rw[List.getElem?_append_right (by omega)] at hx
  rw[List.getElem?_append_right (by rw[<-h.1];omega),<-h.1]
  exact h'.2 _ x hx
theorem XS(d:D):likeD d d=true:=by
 obtain⟨k,z,t,ds⟩:=d
 simp[likeD]
theorem Agree.refl:∀A:List (List Nat×D),Agree A A
 | []=>.nil
 | a::A=>.cons rfl (XS _) (Agree.refl A)
def Split(A B:List (List Nat×D)):Prop:=∃pre pre' path x y ra rb,A=pre++(path,x)::ra/\B=pre'++(path,y)::rb/\Agree pre pre'/\likeD x y=false
mutual
theorem QL(p:List Nat):∀d e:D,d=e\/Split (d.pieces p) (e.pieces p)
 | .mk k z t ds,.mk k' z' t' es=>by
  cases h:likeD (.mk k z t ds) (.mk k' z' t' es) with
  | false=>exact .inr ⟨[],[],p,_,_,_,_,by rw[D.pieces];rfl,by rw[D.pieces];rfl,.nil,h⟩
  | true=>
   have h':=h
   simp only[likeD,Bool.and_eq_true,beq_iff_eq] at h'
   obtain⟨⟨⟨h1,h2⟩,h3⟩,h4⟩:=h'
   have h5:=toList_inj h3
   subst h1 h2 h5
   rcases IK p ds es 0 (Int.ofNat.inj h4) with rfl|⟨pre,pre',path,x,y,ra,rb,e1,e2,e3,e4⟩
   .exact .inl rfl
   .exact .inr ⟨(p,.mk k z t ds)::pre,(p,.mk k z t es)::pre',path,x,y,ra,rb,by rw[D.pieces,e1];rfl,by rw[D.pieces,e2];rfl,.cons rfl h e3,e4⟩
theorem IK(p:List Nat):∀(ds es:List D) (i:Nat),ds.length=es.length->ds=es\/Split (D.piecesL p i ds) (D.piecesL p i es)
 | [],[],_,_=>.inl rfl
 | [],_::_,_,h=>by simp at h
 | _::_,[],_,h=>by simp at h
 | d::ds,e::es,i,h=>by
  rcases QL (p++[i]) d e with rfl|⟨pre,pre',path,x,y,ra,rb,e1,e2,e3,e4⟩
  .rcases IK p ds es (i+1) (by simpa using h) with rfl|⟨pre,pre',path,x,y,ra,rb,e1,e2,e3,e4⟩
   .exact .inl rfl
   .exact .inr ⟨d.pieces (p++[i])++pre,d.pieces (p++[i])++pre',path,x,y,ra,rb,by rw[D.piecesL,e1,List.append_assoc],by rw[D.piecesL,e2,List.append_assoc],(Agree.refl _).append e3,e4⟩
  .exact .inr ⟨pre,pre',path,x,y,ra++D.piecesL p (i+1) ds,rb++D.piecesL p (i+1) es,by rw[D.piecesL,e1,List.append_assoc,List.cons_append],by rw[D.piecesL,e2,List.append_assoc,List.cons_append],e3,e4⟩
end
mutual
theorem QK(p:List Nat):∀d:D,(d.pieces p).Pairwise fun a b=>a.1≠b.1
 | .mk k z t ds=>by
  rw[D.pieces]
  refine List.Pairwise.cons (fun b hb h=>?_) (IJ p ds 0)
  obtain⟨j,r,d',h1,_⟩:=GU ds p 0 b hb
  rw[h1] at h
  have:=congrArg List.length h
  simp at this
theorem IJ(p:List Nat):∀(ds:List D) (i:Nat),(D.piecesL p i ds).Pairwise fun a b=>a.1≠b.1
 | [],_=>by rw[D.piecesL];exact List.Pairwise.nil
 | d::ds,i=>by
  rw[D.piecesL]
  refine List.pairwise_append.2 ⟨QK _ d,IJ p ds (i+1),fun a ha b hb h=>?_⟩
  obtain⟨r,h1,_⟩:=O7 d (p++[i]) a ha
  obtain⟨j,r',d',h2,_⟩:=GU ds p (i+1) b hb
  rw[h1,h2,List.append_assoc] at h
  have:=List.append_cancel_left h
  simp at this
  omega
end
end Go.Proofs.YtknnbjmcfibpgaaGreatDoor
namespace Go.Proofs.YtknnbjmcfibpgaaGreatDoor
open Go Go.Eng
variable (E:Env) (ro:Option Nat) (last:List Nat->aZ) (cl:List Nat) (a:aV) (u:Option FrameMode) (Z:aC)
def RZ(_:Unit):List COp:=[⟨fun a Z=>fbox 24 (a.get 0) Z,some 1,tT⟩,
 ⟨fun a Z=>.val (.int .i64 0) Z,some 2,tT⟩]
def Asc:List COp:=RZ ()
def R0(_:Unit):List COp:=[⟨fun a Z=>aG (some 4) (a.get 1) Z,some 4,tT⟩,
 ⟨fun a Z=>.enter 74 [(a.get 4)] Z,some 5,tT⟩,
 ⟨fun a Z=>.val (a.get 5) Z,some 3,tT⟩]
def Asd:List COp:=R0 ()
def R1(_:Unit):List COp:=[⟨fun a Z=>.val (a.get 3) Z,some 6,tT⟩,
 ⟨fun a Z=>i_neq Tryz.prog 32 (.tmp 6) (.const (.int .i64 0)) (a.get 6) (.int .i64 0) Z,some 7,tT⟩]
def Ase:List COp:=R1 ()
def Yy(_:Unit):List COp:=[⟨fun a Z=>.val (a.get 3) Z,some 8,tT⟩,
 ⟨fun a Z=>.val (a.get 8) Z,some 2,tT⟩]
def Asf:List COp:=Yy ()
def Yz(_:Unit):List COp:=[⟨fun a Z=>aG (some 4) (a.get 1) Z,some 9,tT⟩,
 ⟨fun a Z=>.enter 75 [(a.get 9)] Z,some 10,tT⟩,
 ⟨fun a Z=>.val (a.get 10) Z,some 2,tT⟩]
def Asg:List COp:=Yz ()
def Anh(E:Env)(ro:Option Nat)(fn:FuncId):aZ:=(aF (aD E ro Asc) (aF (aF (aD E ro Asd) (aF (aD E ro Ase) (aL (fun a=>(a.get 7)) (aF (aD E ro Asf) bO) aQ))) (aF (aD E ro Asg) bO)))
theorem VN:aD E ro Asc a u Z=aD E ro (RZ ()) a u Z:=rfl
theorem VO:aD E ro Asd a u Z=aD E ro (R0 ()) a u Z:=rfl
theorem VP:aD E ro Ase a u Z=aD E ro (R1 ()) a u Z:=rfl
theorem AjU:aD E ro Asf a u Z=aD E ro (Yy ()) a u Z:=rfl
theorem AjV:aD E ro Asg a u Z=aD E ro (Yz ()) a u Z:=rfl
theorem Ave(E:Env)(ro:Option Nat)(fn:FuncId):code Tryz.prog nls (Tryz.f16.body.getD .skip) E ro fn=Anh E ro fn:=by kernel_rfl
theorem Ao7(E:Env)(args:List Value)(u:Option FrameMode)(Z:aC)(hn:args.length<=(4:Nat)):bA Tryz.prog nls E 16 args u Z=aN Tryz.prog E [.tmp 2] (Anh E none 16 ⟨aY undef 4 args,fun _=>undef,4,11,[]⟩ u Z):=by
 rw[Am (body:=Tryz.f16.body.getD .skip) Tryz.func16 rfl E args u Z 4 11 (by kernel_rfl) rfl ⟨hn,by decide⟩,Ave]
 rfl
def Tf(_:Unit):List COp:=[⟨fun a Z=>fbox 24 (a.get 0) Z,some 1,tT⟩,
 ⟨fun a Z=>.val (.int .i64 0) Z,some 2,tT⟩]
def Auj:List COp:=Tf ()
def Th(_:Unit):List COp:=[⟨fun a Z=>aG (some 4) (a.get 1) Z,some 6,tT⟩,
 ⟨fun a Z=>.enter 120 [(a.get 6)] Z,some 7,tT⟩,
 ⟨fun a Z=>.val (a.get 7) Z,some 3,tT⟩]
def Auk:List COp:=Th ()
def Ti(_:Unit):List COp:=[⟨fun a Z=>.val (a.get 3) Z,some 8,tT⟩,
 ⟨fun a Z=>i_neq Tryz.prog 32 (.tmp 8) (.const (.int .i64 0)) (a.get 8) (.int .i64 0) Z,some 9,tT⟩]
def Aul:List COp:=Ti ()
def ZN(_:Unit):List COp:=[⟨fun a Z=>.val (a.get 3) Z,some 10,tT⟩,
 ⟨fun a Z=>.val (a.get 10) Z,some 2,tT⟩]
def Aum:List COp:=ZN ()
def ZO(_:Unit):List COp:=[⟨fun a Z=>.val (.int .i64 0) Z,some 4,tT⟩]
def Aun:List COp:=ZO ()
def ND(_:Unit):List COp:=[⟨fun a Z=>.val (a.get 4) Z,some 11,tT⟩,
 ⟨fun a Z=>aH 3 (a.get 1) Z,some 12,tT⟩,
 ⟨fun a Z=>aG none (a.get 12) Z,some 13,tT⟩,
 ⟨fun a Z=>flenL (a.get 13) Z,some 14,tT⟩,
 ⟨fun a Z=>i_lss Tryz.prog 3 (.tmp 11) (.tmp 14) (a.get 11) (a.get 14) Z,some 15,tT⟩]
def Auo:List COp:=ND ()
def Tj(_:Unit):List COp:=[⟨fun a Z=>aH 3 (a.get 1) Z,some 18,tT⟩,
 ⟨fun a Z=>aG none (a.get 18) Z,some 19,tT⟩,
 ⟨fun a Z=>.val (a.get 4) Z,some 20,tT⟩,
 ⟨fun a Z=>bB (none,4) (a.get 19) (a.get 20) Z,some 21,tT⟩,
 ⟨fun a Z=>aG (some 4) (a.get 21) Z,some 22,tT⟩,
 ⟨fun a Z=>.enter 74 [(a.get 22)] Z,some 23,tT⟩,
 ⟨fun a Z=>.val (a.get 23) Z,some 5,tT⟩]
def Auq:List COp:=Tj ()
def Tk(_:Unit):List COp:=[⟨fun a Z=>.val (a.get 5) Z,some 24,tT⟩,
 ⟨fun a Z=>i_neq Tryz.prog 32 (.tmp 24) (.const (.int .i64 0)) (a.get 24) (.int .i64 0) Z,some 25,tT⟩]
def Aur:List COp:=Tk ()
def ZQ(_:Unit):List COp:=[⟨fun a Z=>.val (a.get 5) Z,some 26,tT⟩,
 ⟨fun a Z=>.val (a.get 26) Z,some 2,tT⟩]
def Aus:List COp:=ZQ ()
def ZP(_:Unit):List COp:=[⟨fun a Z=>.val (a.get 4) Z,some 16,tT⟩,
 ⟨fun a Z=>i_add Tryz.prog 3 (.tmp 16) (.const (.int .i64 1)) (a.get 16) (.int .i64 1) Z,some 17,tT⟩,
 ⟨fun a Z=>.val (a.get 17) Z,some 4,tT⟩]
def Aup:List COp:=ZP ()
def MX(E:Env)(ro:Option Nat)(fn:FuncId):aZ:=(aF (aF (aD E ro Auo) (aL (fun a=>(a.get 15)) aQ (exitR 0))) (aF (aR 1 (aF (aD E ro Auq) (aF (aD E ro Aur) (aL (fun a=>(a.get 25)) (aF (aD E ro Aus) bO) aQ)))) (aD E ro Aup)))
def Tg(_:Unit):List COp:=[⟨fun a Z=>.val (.int .i64 0) Z,some 2,tT⟩]
def Ami:List COp:=Tg ()
def AnE(E:Env)(ro:Option Nat)(fn:FuncId):aZ:=(aF (aD E ro Auj) (aF (aF (aD E ro Auk) (aF (aD E ro Aul) (aL (fun a=>(a.get 9)) (aF (aD E ro Aum) bO) aQ))) (aF (aF (aD E ro Aun) (aR 0 (loopR (bH nls fn) (MX E ro fn)))) (aF (aD E ro Ami) bO))))
theorem WA:aD E ro Auj a u Z=aD E ro (Tf ()) a u Z:=rfl
theorem WB:aD E ro Auk a u Z=aD E ro (Th ()) a u Z:=rfl
theorem WC:aD E ro Aul a u Z=aD E ro (Ti ()) a u Z:=rfl
theorem Amj:aD E ro Aum a u Z=aD E ro (ZN ()) a u Z:=rfl
theorem Amk:aD E ro Aun a u Z=aD E ro (ZO ()) a u Z:=rfl
theorem NE:aD E ro Auo a u Z=aD E ro (ND ()) a u Z:=rfl
theorem WD:aD E ro Auq a u Z=aD E ro (Tj ()) a u Z:=rfl
theorem WE:aD E ro Aur a u Z=aD E ro (Tk ()) a u Z:=rfl
theorem Amm:aD E ro Aus a u Z=aD E ro (ZQ ()) a u Z:=rfl
theorem Aml:aD E ro Aup a u Z=aD E ro (ZP ()) a u Z:=rfl
theorem AeS:aD E ro Ami a u Z=aD E ro (Tg ()) a u Z:=rfl
theorem AvG(E:Env)(ro:Option Nat)(fn:FuncId):code Tryz.prog nls (Tryz.f74.body.getD .skip) E ro fn=AnE E ro fn:=by kernel_rfl
theorem Apt(E:Env)(args:List Value)(u:Option FrameMode)(Z:aC)(hn:args.length<=(6:Nat)):bA Tryz.prog nls E 74 args u Z=aN Tryz.prog E [.tmp 2] (AnE E none 74 ⟨aY undef 6 args,fun _=>undef,6,27,[]⟩ u Z):=by
 rw[Am (body:=Tryz.f74.body.getD .skip) Tryz.func74 rfl E args u Z 6 27 (by kernel_rfl) rfl ⟨hn,by decide⟩,AvG]
 rfl
def C0(_:Unit):List COp:=[⟨fun a Z=>fbox 24 (a.get 0) Z,some 1,tT⟩,
 ⟨fun a Z=>.val (.int .i64 0) Z,some 2,tT⟩]
def Ahy:List COp:=C0 ()
def C3(_:Unit):List COp:=[⟨fun a Z=>aH 0 (a.get 1) Z,some 6,tT⟩,
 ⟨fun a Z=>aG none (a.get 6) Z,some 7,tT⟩,
 ⟨fun a Z=>.enter 92 [(a.get 7),(.int .i64 0),(.int .i64 6)] Z,some 8,tT⟩,
 ⟨fun a Z=>fun1 Tryz.prog (Op.unary .not) (a.get 8) Z,some 9,tT⟩]
def Ahz:List COp:=C3 ()
def C5(_:Unit):List COp:=[⟨fun a Z=>.val (.int .i64 4) Z,some 2,tT⟩]
def AhA:List COp:=C5 ()
def C9(_:Unit):List COp:=[⟨fun a Z=>aH 0 (a.get 1) Z,some 10,tT⟩,
 ⟨fun a Z=>aG none (a.get 10) Z,some 11,tT⟩,
 ⟨fun a Z=>bJ Tryz.prog 3 (.tmp 11) (.const (.int .i64 1)) (a.get 11) (.int .i64 1) Z,some 12,tT⟩,
 ⟨fun a Z=>.val (a.get 12) Z,some 13,tT⟩,
 ⟨fun a Z=>aH 0 (a.get 1) Z,some 14,fun a=>gd (a.get 13) false⟩,
 ⟨fun a Z=>aG none (a.get 14) Z,some 15,fun a=>gd (a.get 13) false⟩,
 ⟨fun a Z=>bJ Tryz.prog 3 (.tmp 15) (.const (.int .i64 2)) (a.get 15) (.int .i64 2) Z,some 16,fun a=>gd (a.get 13) false⟩,
 ⟨fun a Z=>bG (a.get 13) (.bool true) (a.get 16) Z,some 17,tT⟩,
 ⟨fun a Z=>.val (a.get 17) Z,some 3,tT⟩]
def AhB:List COp:=C9 ()
def C_(_:Unit):List COp:=[⟨fun a Z=>aH 0 (a.get 1) Z,some 18,tT⟩,
 ⟨fun a Z=>aG none (a.get 18) Z,some 19,tT⟩,
 ⟨fun a Z=>bJ Tryz.prog 3 (.tmp 19) (.const (.int .i64 3)) (a.get 19) (.int .i64 3) Z,some 20,tT⟩,
 ⟨fun a Z=>.val (a.get 20) Z,some 21,tT⟩,
 ⟨fun a Z=>aH 0 (a.get 1) Z,some 22,fun a=>gd (a.get 21) false⟩,
 ⟨fun a Z=>aG none (a.get 22) Z,some 23,fun a=>gd (a.get 21) false⟩,
 ⟨fun a Z=>bJ Tryz.prog 3 (.tmp 23) (.const (.int .i64 4)) (a.get 23) (.int .i64 4) Z,some 24,fun a=>gd (a.get 21) false⟩,
 ⟨fun a Z=>bG (a.get 21) (.bool true) (a.get 24) Z,some 25,tT⟩,
 ⟨fun a Z=>.val (a.get 25) Z,some 4,tT⟩]
def AhC:List COp:=C_ ()
def Da(_:Unit):List COp:=[⟨fun a Z=>aH 0 (a.get 1) Z,some 26,tT⟩,
 ⟨fun a Z=>aG none (a.get 26) Z,some 27,tT⟩,
 ⟨fun a Z=>bJ Tryz.prog 3 (.tmp 27) (.const (.int .i64 5)) (a.get 27) (.int .i64 5) Z,some 28,tT⟩,
 ⟨fun a Z=>.val (a.get 28) Z,some 29,tT⟩,
 ⟨fun a Z=>aH 0 (a.get 1) Z,some 30,fun a=>gd (a.get 29) false⟩,
 ⟨fun a Z=>aG none (a.get 30) Z,some 31,fun a=>gd (a.get 29) false⟩,
 ⟨fun a Z=>bJ Tryz.prog 3 (.tmp 31) (.const (.int .i64 6)) (a.get 31) (.int .i64 6) Z,some 32,fun a=>gd (a.get 29) false⟩,
 ⟨fun a Z=>bG (a.get 29) (.bool true) (a.get 32) Z,some 33,tT⟩,
 ⟨fun a Z=>.val (a.get 33) Z,some 5,tT⟩]
def AhD:List COp:=Da ()
def Db(_:Unit):List COp:=[⟨fun a Z=>.val (a.get 3) Z,some 34,tT⟩,
 ⟨fun a Z=>fun1 Tryz.prog (Op.unary .not) (a.get 34) Z,some 35,tT⟩,
 ⟨fun a Z=>.val (a.get 35) Z,some 36,tT⟩,
 ⟨fun a Z=>aH 1 (a.get 1) Z,some 37,fun a=>gd (a.get 36) true⟩,
 ⟨fun a Z=>aG none (a.get 37) Z,some 38,fun a=>gd (a.get 36) true⟩,
 ⟨fun a Z=>i_neq Tryz.prog 3 (.tmp 38) (.const (.int .i64 0)) (a.get 38) (.int .i64 0) Z,some 39,fun a=>gd (a.get 36) true⟩,
 ⟨fun a Z=>bG (a.get 36) (a.get 39) (.bool false) Z,some 40,tT⟩,
 ⟨fun a Z=>.val (a.get 40) Z,some 41,tT⟩,
 ⟨fun a Z=>.val (a.get 4) Z,some 42,fun a=>gd (a.get 41) false⟩,
 ⟨fun a Z=>fun1 Tryz.prog (Op.unary .not) (a.get 42) Z,some 43,fun a=>gd (a.get 41) false⟩,
 ⟨fun a Z=>.val (a.get 43) Z,some 44,fun a=>gd (a.get 41) false⟩,
 ⟨fun a Z=>aH 2 (a.get 1) Z,some 45,fun a=>gd (a.get 44) true⟩,
 ⟨fun a Z=>aG none (a.get 45) Z,some 46,fun a=>gd (a.get 44) true⟩,
 ⟨fun a Z=>i_neq Tryz.prog 9 (.tmp 46) (.const (.string ⟨#[]⟩)) (a.get 46) (.string ⟨#[]⟩) Z,some 47,fun a=>gd (a.get 44) true⟩,
 ⟨fun a Z=>bG (a.get 44) (a.get 47) (.bool false) Z,some 48,fun a=>gd (a.get 41) false⟩,
 ⟨fun a Z=>bG (a.get 41) (.bool true) (a.get 48) Z,some 49,tT⟩,
 ⟨fun a Z=>.val (a.get 49) Z,some 50,tT⟩,
 ⟨fun a Z=>.val (a.get 5) Z,some 51,fun a=>gd (a.get 50) false⟩,
 ⟨fun a Z=>fun1 Tryz.prog (Op.unary .not) (a.get 51) Z,some 52,fun a=>gd (a.get 50) false⟩,
 ⟨fun a Z=>.val (a.get 52) Z,some 53,fun a=>gd (a.get 50) false⟩,
 ⟨fun a Z=>aH 3 (a.get 1) Z,some 54,fun a=>gd (a.get 53) true⟩,
 ⟨fun a Z=>aG none (a.get 54) Z,some 55,fun a=>gd (a.get 53) true⟩,
 ⟨fun a Z=>flenL (a.get 55) Z,some 56,fun a=>gd (a.get 53) true⟩,
 ⟨fun a Z=>i_gtr Tryz.prog 3 (.tmp 56) (.const (.int .i64 0)) (a.get 56) (.int .i64 0) Z,some 57,fun a=>gd (a.get 53) true⟩,
 ⟨fun a Z=>bG (a.get 53) (a.get 57) (.bool false) Z,some 58,fun a=>gd (a.get 50) false⟩,
 ⟨fun a Z=>bG (a.get 50) (.bool true) (a.get 58) Z,some 59,tT⟩,
 ⟨fun a Z=>.val (a.get 59) Z,some 60,tT⟩,
 ⟨fun a Z=>aH 0 (a.get 1) Z,some 61,fun a=>gd (a.get 60) false⟩,
 ⟨fun a Z=>aG none (a.get 61) Z,some 62,fun a=>gd (a.get 60) false⟩,
 ⟨fun a Z=>bJ Tryz.prog 3 (.tmp 62) (.const (.int .i64 5)) (a.get 62) (.int .i64 5) Z,some 63,fun a=>gd (a.get 60) false⟩,
 ⟨fun a Z=>.val (a.get 63) Z,some 64,fun a=>gd (a.get 60) false⟩,
 ⟨fun a Z=>aH 3 (a.get 1) Z,some 65,fun a=>gd (a.get 64) true⟩,
 ⟨fun a Z=>aG none (a.get 65) Z,some 66,fun a=>gd (a.get 64) true⟩,
 ⟨fun a Z=>flenL (a.get 66) Z,some 67,fun a=>gd (a.get 64) true⟩,
 ⟨fun a Z=>i_neq Tryz.prog 3 (.tmp 67) (.const (.int .i64 2)) (a.get 67) (.int .i64 2) Z,some 68,fun a=>gd (a.get 64) true⟩,
 ⟨fun a Z=>bG (a.get 64) (a.get 68) (.bool false) Z,some 69,fun a=>gd (a.get 60) false⟩,
 ⟨fun a Z=>bG (a.get 60) (.bool true) (a.get 69) Z,some 70,tT⟩]
def AhE:List COp:=Db ()
def Dc(_:Unit):List COp:=[⟨fun a Z=>.val (.int .i64 1) Z,some 2,tT⟩]
def AhF:List COp:=Dc ()
def Dd(_:Unit):List COp:=[⟨fun a Z=>aH 0 (a.get 1) Z,some 71,tT⟩,
 ⟨fun a Z=>aG none (a.get 71) Z,some 72,tT⟩]
def AhG:List COp:=Dd ()
def De(_:Unit):List COp:=[⟨fun a Z=>bJ Tryz.prog 3 (.tmp 72) (.const (.int .i64 1)) (a.get 72) (.int .i64 1) Z,some 74,tT⟩,
 ⟨fun a Z=>.val (a.get 74) Z,some 73,tT⟩]
def AhH:List COp:=De ()
def Ck(_:Unit):List COp:=[⟨fun a Z=>aH 1 (a.get 1) Z,some 75,tT⟩,
 ⟨fun a Z=>aG none (a.get 75) Z,some 76,tT⟩,
 ⟨fun a Z=>.enter 92 [(a.get 76),(.int .i64 0),(.int .i64 1)] Z,some 77,tT⟩,
 ⟨fun a Z=>fun1 Tryz.prog (Op.unary .not) (a.get 77) Z,some 78,tT⟩]
def AbB:List COp:=Ck ()
def Cm(_:Unit):List COp:=[⟨fun a Z=>.val (.int .i64 13) Z,some 2,tT⟩]
def AbC:List COp:=Cm ()
def Cn(_:Unit):List COp:=[⟨fun a Z=>bJ Tryz.prog 3 (.tmp 72) (.const (.int .i64 2)) (a.get 72) (.int .i64 2) Z,some 80,tT⟩,
 ⟨fun a Z=>.val (a.get 80) Z,some 79,tT⟩]
def AbD:List COp:=Cn ()
def Co(_:Unit):List COp:=[⟨fun a Z=>aH 1 (a.get 1) Z,some 81,tT⟩,
 ⟨fun a Z=>aG none (a.get 81) Z,some 82,tT⟩,
 ⟨fun a Z=>.enter 92 [(a.get 82),(.int .i64 (-999999999)),(.int .i64 999999999)] Z,some 83,tT⟩,
 ⟨fun a Z=>fun1 Tryz.prog (Op.unary .not) (a.get 83) Z,some 84,tT⟩]
def AbE:List COp:=Co ()
def Cp(_:Unit):List COp:=[⟨fun a Z=>.val (.int .i64 13) Z,some 2,tT⟩]
def AbF:List COp:=Cp ()
def Cq(_:Unit):List COp:=[⟨fun a Z=>bJ Tryz.prog 3 (.tmp 72) (.const (.int .i64 3)) (a.get 72) (.int .i64 3) Z,some 86,tT⟩,
 ⟨fun a Z=>.val (a.get 86) Z,some 85,tT⟩]
def AbG:List COp:=Cq ()
def Cr(_:Unit):List COp:=[⟨fun a Z=>aH 2 (a.get 1) Z,some 87,tT⟩,
 ⟨fun a Z=>aG none (a.get 87) Z,some 88,tT⟩,
 ⟨fun a Z=>.enter 146 [(a.get 88)] Z,some 89,tT⟩,
 ⟨fun a Z=>fun1 Tryz.prog (Op.unary .not) (a.get 89) Z,some 90,tT⟩]
def AbH:List COp:=Cr ()
def Cs(_:Unit):List COp:=[⟨fun a Z=>.val (.int .i64 2) Z,some 2,tT⟩]
def AbI:List COp:=Cs ()
def Ct(_:Unit):List COp:=[⟨fun a Z=>bJ Tryz.prog 3 (.tmp 72) (.const (.int .i64 4)) (a.get 72) (.int .i64 4) Z,some 92,tT⟩,
 ⟨fun a Z=>.val (a.get 92) Z,some 91,tT⟩]
def AbJ:List COp:=Ct ()
def Cu(_:Unit):List COp:=[⟨fun a Z=>aH 2 (a.get 1) Z,some 93,tT⟩,
 ⟨fun a Z=>aG none (a.get 93) Z,some 94,tT⟩,
 ⟨fun a Z=>.enter 147 [(a.get 94)] Z,some 95,tT⟩,
 ⟨fun a Z=>.val (a.get 95) Z,some 2,tT⟩]
def AbK:List COp:=Cu ()
def Cv(_:Unit):List COp:=[⟨fun a Z=>.val (.int .i64 0) Z,some 2,tT⟩]
def AbL:List COp:=Cv ()
def Gf(E:Env)(ro:Option Nat)(fn:FuncId):aZ:=(aF (aD E ro Ahy) (aF (aF (aD E ro Ahz) (aL (fun a=>(a.get 9)) (aF (aD E ro AhA) bO) aQ)) (aF (aD E ro AhB) (aF (aD E ro AhC) (aF (aD E ro AhD) (aF (aF (aD E ro AhE) (aL (fun a=>(a.get 70)) (aF (aD E ro AhF) bO) aQ)) (aF (aF (aD E ro AhG) (aR 0 (aF (aD E ro AhH) (aL (fun a=>(a.get 73)) (aF (aD E ro AbB) (aL (fun a=>(a.get 78)) (aF (aD E ro AbC) bO) aQ)) (aF (aD E ro AbD) (aL (fun a=>(a.get 79)) (aF (aD E ro AbE) (aL (fun a=>(a.get 84)) (aF (aD E ro AbF) bO) aQ)) (aF (aD E ro AbG) (aL (fun a=>(a.get 85)) (aF (aD E ro AbH) (aL (fun a=>(a.get 90)) (aF (aD E ro AbI) bO) aQ)) (aF (aD E ro AbJ) (aL (fun a=>(a.get 91)) (aF (aD E ro AbK) bO) aQ)))))))))) (aF (aD E ro AbL) bO))))))))
theorem BF:aD E ro Ahy a u Z=aD E ro (C0 ()) a u Z:=rfl
theorem BG:aD E ro Ahz a u Z=aD E ro (C3 ()) a u Z:=rfl
theorem BH:aD E ro AhA a u Z=aD E ro (C5 ()) a u Z:=rfl
theorem BT:aD E ro AhB a u Z=aD E ro (C9 ()) a u Z:=rfl
theorem BU:aD E ro AhC a u Z=aD E ro (C_ ()) a u Z:=rfl
theorem BV:aD E ro AhD a u Z=aD E ro (Da ()) a u Z:=rfl
theorem BW:aD E ro AhE a u Z=aD E ro (Db ()) a u Z:=rfl
theorem BX:aD E ro AhF a u Z=aD E ro (Dc ()) a u Z:=rfl
theorem BZ:aD E ro AhG a u Z=aD E ro (Dd ()) a u Z:=rfl
theorem B0:aD E ro AhH a u Z=aD E ro (De ()) a u Z:=rfl
theorem Bj:aD E ro AbB a u Z=aD E ro (Ck ()) a u Z:=rfl
theorem Bk:aD E ro AbC a u Z=aD E ro (Cm ()) a u Z:=rfl
theorem Bl:aD E ro AbD a u Z=aD E ro (Cn ()) a u Z:=rfl
theorem Bm:aD E ro AbE a u Z=aD E ro (Co ()) a u Z:=rfl
theorem Bn:aD E ro AbF a u Z=aD E ro (Cp ()) a u Z:=rfl
theorem Bo:aD E ro AbG a u Z=aD E ro (Cq ()) a u Z:=rfl
theorem Bp:aD E ro AbH a u Z=aD E ro (Cr ()) a u Z:=rfl
theorem Bq:aD E ro AbI a u Z=aD E ro (Cs ()) a u Z:=rfl
theorem Br:aD E ro AbJ a u Z=aD E ro (Ct ()) a u Z:=rfl
theorem Bs:aD E ro AbK a u Z=aD E ro (Cu ()) a u Z:=rfl
theorem Bt:aD E ro AbL a u Z=aD E ro (Cv ()) a u Z:=rfl
theorem Aov(E:Env)(ro:Option Nat)(fn:FuncId):code Tryz.prog nls (Tryz.f120.body.getD .skip) E ro fn=Gf E ro fn:=by kernel_rfl
theorem Fj(E:Env)(args:List Value)(u:Option FrameMode)(Z:aC)(hn:args.length<=(6:Nat)):bA Tryz.prog nls E 120 args u Z=aN Tryz.prog E [.tmp 2] (Gf E none 120 ⟨aY undef 6 args,fun _=>undef,6,96,[]⟩ u Z):=by
 rw[Am (body:=Tryz.f120.body.getD .skip) Tryz.func120 rfl E args u Z 6 96 (by kernel_rfl) rfl ⟨hn,by decide⟩,Aov]
 rfl
def ZR(_:Unit):List COp:=[⟨fun a Z=>fbox 24 (a.get 0) Z,some 1,tT⟩,
 ⟨fun a Z=>.val (.int .i64 0) Z,some 2,tT⟩]
def Aut:List COp:=ZR ()
def ZS(_:Unit):List COp:=[⟨fun a Z=>aG (some 4) (a.get 1) Z,some 3,tT⟩,
 ⟨fun a Z=>.enter 42 [(a.get 3),(.int .i64 2000)] Z,some 4,tT⟩,
 ⟨fun a Z=>i_gtr Tryz.prog 3 (.tmp 4) (.const (.int .i64 2000)) (a.get 4) (.int .i64 2000) Z,some 5,tT⟩]
def Auu:List COp:=ZS ()
def AwT(_:Unit):List COp:=[⟨fun a Z=>.val (.int .i64 8) Z,some 2,tT⟩]
def Ax8:List COp:=AwT ()
def ZT(_:Unit):List COp:=[⟨fun a Z=>.val (.int .i64 0) Z,some 2,tT⟩]
def Auv:List COp:=ZT ()
def AnF(E:Env)(ro:Option Nat)(fn:FuncId):aZ:=(aF (aD E ro Aut) (aF (aF (aD E ro Auu) (aL (fun a=>(a.get 5)) (aF (aD E ro Ax8) bO) aQ)) (aF (aD E ro Auv) bO)))
theorem Amn:aD E ro Aut a u Z=aD E ro (ZR ()) a u Z:=rfl
theorem Amo:aD E ro Auu a u Z=aD E ro (ZS ()) a u Z:=rfl
theorem Amp:aD E ro Auv a u Z=aD E ro (ZT ()) a u Z:=rfl
theorem AvH(E:Env)(ro:Option Nat)(fn:FuncId):code Tryz.prog nls (Tryz.f75.body.getD .skip) E ro fn=AnF E ro fn:=by kernel_rfl
theorem Apu(E:Env)(args:List Value)(u:Option FrameMode)(Z:aC)(hn:args.length<=(2:Nat)):bA Tryz.prog nls E 75 args u Z=aN Tryz.prog E [.tmp 2] (AnF E none 75 ⟨aY undef 2 args,fun _=>undef,2,6,[]⟩ u Z):=by
 rw[Am (body:=Tryz.f75.body.getD .skip) Tryz.func75 rfl E args u Z 2 6 (by kernel_rfl) rfl ⟨hn,by decide⟩,AvH]
 rfl
def Nn(_:Unit):List COp:=[⟨fun a Z=>fbox 24 (a.get 0) Z,some 2,tT⟩,
 ⟨fun a Z=>.val (.int .i64 0) Z,some 4,tT⟩]
def AsK:List COp:=Nn ()
def Nr(_:Unit):List COp:=[⟨fun a Z=>.val (.int .i64 1) Z,some 5,tT⟩]
def AsL:List COp:=Nr ()
def Nt(_:Unit):List COp:=[⟨fun a Z=>.val (.int .i64 0) Z,some 6,tT⟩]
def AsM:List COp:=Nt ()
def HF(_:Unit):List COp:=[⟨fun a Z=>.val (a.get 6) Z,some 7,tT⟩,
 ⟨fun a Z=>aH 3 (a.get 2) Z,some 8,tT⟩,
 ⟨fun a Z=>aG none (a.get 8) Z,some 9,tT⟩,
 ⟨fun a Z=>flenL (a.get 9) Z,some 10,tT⟩,
 ⟨fun a Z=>i_lss Tryz.prog 3 (.tmp 7) (.tmp 10) (a.get 7) (a.get 10) Z,some 11,tT⟩,
 ⟨fun a Z=>.val (a.get 11) Z,some 12,tT⟩,
 ⟨fun a Z=>.val (a.get 5) Z,some 13,fun a=>gd (a.get 12) true⟩,
 ⟨fun a Z=>.val (a.get 1) Z,some 14,fun a=>gd (a.get 12) true⟩,
 ⟨fun a Z=>i_leq Tryz.prog 3 (.tmp 13) (.tmp 14) (a.get 13) (a.get 14) Z,some 15,fun a=>gd (a.get 12) true⟩,
 ⟨fun a Z=>bG (a.get 12) (a.get 15) (.bool false) Z,some 16,tT⟩]
def AsN:List COp:=HF ()
def SC(_:Unit):List COp:=[⟨fun a Z=>.val (a.get 5) Z,some 19,tT⟩,
 ⟨fun a Z=>aH 3 (a.get 2) Z,some 20,tT⟩,
 ⟨fun a Z=>aG none (a.get 20) Z,some 21,tT⟩,
 ⟨fun a Z=>.val (a.get 6) Z,some 22,tT⟩,
 ⟨fun a Z=>bB (none,4) (a.get 21) (a.get 22) Z,some 23,tT⟩,
 ⟨fun a Z=>aG (some 4) (a.get 23) Z,some 24,tT⟩,
 ⟨fun a Z=>.val (a.get 1) Z,some 25,tT⟩,
 ⟨fun a Z=>.val (a.get 5) Z,some 26,tT⟩,
 ⟨fun a Z=>i_sub Tryz.prog 3 (.tmp 25) (.tmp 26) (a.get 25) (a.get 26) Z,some 27,tT⟩,
 ⟨fun a Z=>.enter 42 [(a.get 24),(a.get 27)] Z,some 28,tT⟩,
 ⟨fun a Z=>i_add Tryz.prog 3 (.tmp 19) (.tmp 28) (a.get 19) (a.get 28) Z,some 29,tT⟩,
 ⟨fun a Z=>.val (a.get 29) Z,some 5,tT⟩]
def AsP:List COp:=SC ()
def SB(_:Unit):List COp:=[⟨fun a Z=>.val (a.get 6) Z,some 17,tT⟩,
 ⟨fun a Z=>i_add Tryz.prog 3 (.tmp 17) (.const (.int .i64 1)) (a.get 17) (.int .i64 1) Z,some 18,tT⟩,
 ⟨fun a Z=>.val (a.get 18) Z,some 6,tT⟩]
def AsO:List COp:=SB ()
def Hw(E:Env)(ro:Option Nat)(fn:FuncId):aZ:=(aF (aF (aD E ro AsN) (aL (fun a=>(a.get 16)) aQ (exitR 0))) (aF (aR 1 (aD E ro AsP)) (aD E ro AsO)))
def Nv(_:Unit):List COp:=[⟨fun a Z=>.val (a.get 5) Z,some 30,tT⟩,
 ⟨fun a Z=>.val (a.get 30) Z,some 4,tT⟩]
def AsQ:List COp:=Nv ()
def WW(E:Env)(ro:Option Nat)(fn:FuncId):aZ:=(aF (aD E ro AsK) (aF (aD E ro AsL) (aF (aF (aD E ro AsM) (aR 0 (loopR (bH nls fn) (Hw E ro fn)))) (aF (aD E ro AsQ) bO))))
theorem Nq:aD E ro AsK a u Z=aD E ro (Nn ()) a u Z:=rfl
theorem Ns:aD E ro AsL a u Z=aD E ro (Nr ()) a u Z:=rfl
theorem Nu:aD E ro AsM a u Z=aD E ro (Nt ()) a u Z:=rfl
theorem GF:aD E ro AsN a u Z=aD E ro (HF ()) a u Z:=rfl
theorem VZ:aD E ro AsP a u Z=aD E ro (SC ()) a u Z:=rfl
theorem VY:aD E ro AsO a u Z=aD E ro (SB ()) a u Z:=rfl
theorem Nw:aD E ro AsQ a u Z=aD E ro (Nv ()) a u Z:=rfl
theorem Avj(E:Env)(ro:Option Nat)(fn:FuncId):code Tryz.prog nls (Tryz.f42.body.getD .skip) E ro fn=WW E ro fn:=by kernel_rfl
theorem Qh(E:Env)(args:List Value)(u:Option FrameMode)(Z:aC)(hn:args.length<=(7:Nat)):bA Tryz.prog nls E 42 args u Z=aN Tryz.prog E [.tmp 4] (WW E none 42 ⟨aY undef 7 args,fun _=>undef,7,31,[]⟩ u Z):=by
 rw[Am (body:=Tryz.f42.body.getD .skip) Tryz.func42 rfl E args u Z 7 31 (by kernel_rfl) rfl ⟨hn,by decide⟩,Avj]
 rfl
def Fw(_:Unit):List COp:=[⟨fun a Z=>.val (.bool false) Z,some 2,tT⟩]
def Aje:List COp:=Fw ()
def Fx(_:Unit):List COp:=[⟨fun a Z=>.val (a.get 0) Z,some 5,tT⟩,
 ⟨fun a Z=>flenS (a.get 5) Z,some 6,tT⟩,
 ⟨fun a Z=>i_lss Tryz.prog 3 (.tmp 6) (.const (.int .i64 1)) (a.get 6) (.int .i64 1) Z,some 7,tT⟩,
 ⟨fun a Z=>.val (a.get 7) Z,some 8,tT⟩,
 ⟨fun a Z=>.val (a.get 0) Z,some 9,fun a=>gd (a.get 8) false⟩,
 ⟨fun a Z=>flenS (a.get 9) Z,some 10,fun a=>gd (a.get 8) false⟩,
 ⟨fun a Z=>i_gtr Tryz.prog 3 (.tmp 10) (.const (.int .i64 20)) (a.get 10) (.int .i64 20) Z,some 11,fun a=>gd (a.get 8) false⟩,
 ⟨fun a Z=>bG (a.get 8) (.bool true) (a.get 11) Z,some 12,tT⟩,
 ⟨fun a Z=>.val (a.get 12) Z,some 13,tT⟩,
 ⟨fun a Z=>.val (a.get 0) Z,some 14,fun a=>gd (a.get 13) false⟩,
 ⟨fun a Z=>bQ (a.get 14) (.int .i64 0) Z,some 15,fun a=>gd (a.get 13) false⟩,
 ⟨fun a Z=>.enter 171 [(a.get 15)] Z,some 16,fun a=>gd (a.get 13) false⟩,
 ⟨fun a Z=>bG (a.get 13) (.bool true) (a.get 16) Z,some 17,tT⟩,
 ⟨fun a Z=>.val (a.get 17) Z,some 18,tT⟩,
 ⟨fun a Z=>.val (a.get 0) Z,some 19,fun a=>gd (a.get 18) false⟩,
 ⟨fun a Z=>bQ (a.get 19) (.int .i64 0) Z,some 20,fun a=>gd (a.get 18) false⟩,
 ⟨fun a Z=>bJ Tryz.prog 5 (.tmp 20) (.const (.int .u8 45)) (a.get 20) (.int .u8 45) Z,some 21,fun a=>gd (a.get 18) false⟩,
 ⟨fun a Z=>.val (a.get 21) Z,some 22,fun a=>gd (a.get 18) false⟩,
 ⟨fun a Z=>.val (a.get 0) Z,some 23,fun a=>gd (a.get 22) true⟩,
 ⟨fun a Z=>flenS (a.get 23) Z,some 24,fun a=>gd (a.get 22) true⟩,
 ⟨fun a Z=>i_gtr Tryz.prog 3 (.tmp 24) (.const (.int .i64 1)) (a.get 24) (.int .i64 1) Z,some 25,fun a=>gd (a.get 22) true⟩,
 ⟨fun a Z=>bG (a.get 22) (a.get 25) (.bool false) Z,some 26,fun a=>gd (a.get 18) false⟩,
 ⟨fun a Z=>.val (a.get 26) Z,some 27,fun a=>gd (a.get 18) false⟩,
 ⟨fun a Z=>.val (a.get 0) Z,some 28,fun a=>gd (a.get 27) true⟩,
 ⟨fun a Z=>bQ (a.get 28) (.int .i64 1) Z,some 29,fun a=>gd (a.get 27) true⟩,
 ⟨fun a Z=>.enter 171 [(a.get 29)] Z,some 30,fun a=>gd (a.get 27) true⟩,
 ⟨fun a Z=>bG (a.get 27) (a.get 30) (.bool false) Z,some 31,fun a=>gd (a.get 18) false⟩,
 ⟨fun a Z=>bG (a.get 18) (.bool true) (a.get 31) Z,some 32,tT⟩]
def Ajf:List COp:=Fx ()
def Ie(_:Unit):List COp:=[⟨fun a Z=>.val (.bool false) Z,some 2,tT⟩]
def Ajg:List COp:=Ie ()
def JO(_:Unit):List COp:=[⟨fun a Z=>.val (.int .i64 0) Z,some 3,tT⟩]
def Ajh:List COp:=JO ()
def Di(_:Unit):List COp:=[⟨fun a Z=>.val (a.get 3) Z,some 33,tT⟩,
 ⟨fun a Z=>.val (a.get 0) Z,some 34,tT⟩,
 ⟨fun a Z=>flenS (a.get 34) Z,some 35,tT⟩,
 ⟨fun a Z=>i_lss Tryz.prog 3 (.tmp 33) (.tmp 35) (a.get 33) (a.get 35) Z,some 36,tT⟩]
def Aji:List COp:=Di ()
def Dr(_:Unit):List COp:=[⟨fun a Z=>.val (a.get 0) Z,some 39,tT⟩,
 ⟨fun a Z=>.val (a.get 3) Z,some 40,tT⟩,
 ⟨fun a Z=>bQ (a.get 39) (a.get 40) Z,some 41,tT⟩,
 ⟨fun a Z=>.val (a.get 41) Z,some 4,tT⟩]
def Ajk:List COp:=Dr ()
def Dt(_:Unit):List COp:=[⟨fun a Z=>.val (a.get 4) Z,some 42,tT⟩,
 ⟨fun a Z=>i_leq Tryz.prog 5 (.const (.int .u8 97)) (.tmp 42) (.int .u8 97) (a.get 42) Z,some 43,tT⟩,
 ⟨fun a Z=>.val (a.get 43) Z,some 44,tT⟩,
 ⟨fun a Z=>.val (a.get 4) Z,some 45,fun a=>gd (a.get 44) true⟩,
 ⟨fun a Z=>i_leq Tryz.prog 5 (.tmp 45) (.const (.int .u8 122)) (a.get 45) (.int .u8 122) Z,some 46,fun a=>gd (a.get 44) true⟩,
 ⟨fun a Z=>bG (a.get 44) (a.get 46) (.bool false) Z,some 47,tT⟩,
 ⟨fun a Z=>.val (a.get 47) Z,some 48,tT⟩,
 ⟨fun a Z=>.val (a.get 4) Z,some 49,fun a=>gd (a.get 48) false⟩,
 ⟨fun a Z=>.enter 171 [(a.get 49)] Z,some 50,fun a=>gd (a.get 48) false⟩,
 ⟨fun a Z=>bG (a.get 48) (.bool true) (a.get 50) Z,some 51,tT⟩]
def Ajl:List COp:=Dt ()
def Du(_:Unit):List COp:=[⟨fun a Z=>.val (a.get 4) Z,some 52,tT⟩]
def Ajm:List COp:=Du ()
def Dv(_:Unit):List COp:=[⟨fun a Z=>bJ Tryz.prog 5 (.tmp 52) (.const (.int .u8 45)) (a.get 52) (.int .u8 45) Z,some 54,tT⟩,
 ⟨fun a Z=>.val (a.get 54) Z,some 53,tT⟩]
def Ajn:List COp:=Dv ()
def CF(_:Unit):List COp:=[⟨fun a Z=>bJ Tryz.prog 5 (.tmp 52) (.const (.int .u8 43)) (a.get 52) (.int .u8 43) Z,some 55,tT⟩,
 ⟨fun a Z=>.val (a.get 55) Z,some 53,tT⟩]
def AbP:List COp:=CF ()
def CG(_:Unit):List COp:=[⟨fun a Z=>bJ Tryz.prog 5 (.tmp 52) (.const (.int .u8 42)) (a.get 52) (.int .u8 42) Z,some 56,tT⟩,
 ⟨fun a Z=>.val (a.get 56) Z,some 53,tT⟩]
def AbQ:List COp:=CG ()
def CH(_:Unit):List COp:=[⟨fun a Z=>bJ Tryz.prog 5 (.tmp 52) (.const (.int .u8 47)) (a.get 52) (.int .u8 47) Z,some 57,tT⟩,
 ⟨fun a Z=>.val (a.get 57) Z,some 53,tT⟩]
def AbR:List COp:=CH ()
def CI(_:Unit):List COp:=[⟨fun a Z=>bJ Tryz.prog 5 (.tmp 52) (.const (.int .u8 60)) (a.get 52) (.int .u8 60) Z,some 58,tT⟩,
 ⟨fun a Z=>.val (a.get 58) Z,some 53,tT⟩]
def AbS:List COp:=CI ()
def CJ(_:Unit):List COp:=[⟨fun a Z=>bJ Tryz.prog 5 (.tmp 52) (.const (.int .u8 62)) (a.get 52) (.int .u8 62) Z,some 59,tT⟩,
 ⟨fun a Z=>.val (a.get 59) Z,some 53,tT⟩]
def AbT:List COp:=CJ ()
def CK(_:Unit):List COp:=[⟨fun a Z=>bJ Tryz.prog 5 (.tmp 52) (.const (.int .u8 61)) (a.get 52) (.int .u8 61) Z,some 60,tT⟩,
 ⟨fun a Z=>.val (a.get 60) Z,some 53,tT⟩]
def AbU:List COp:=CK ()
def CL(_:Unit):List COp:=[⟨fun a Z=>bJ Tryz.prog 5 (.tmp 52) (.const (.int .u8 63)) (a.get 52) (.int .u8 63) Z,some 61,tT⟩,
 ⟨fun a Z=>.val (a.get 61) Z,some 53,tT⟩]
def AbV:List COp:=CL ()
def CM(_:Unit):List COp:=[⟨fun a Z=>bJ Tryz.prog 5 (.tmp 52) (.const (.int .u8 33)) (a.get 52) (.int .u8 33) Z,some 62,tT⟩,
 ⟨fun a Z=>.val (a.get 62) Z,some 53,tT⟩]
def AbW:List COp:=CM ()
def CN(_:Unit):List COp:=[⟨fun a Z=>.val (.bool false) Z,some 2,tT⟩]
def AbX:List COp:=CN ()
def Dq(_:Unit):List COp:=[⟨fun a Z=>.val (a.get 3) Z,some 37,tT⟩,
 ⟨fun a Z=>i_add Tryz.prog 3 (.tmp 37) (.const (.int .i64 1)) (a.get 37) (.int .i64 1) Z,some 38,tT⟩,
 ⟨fun a Z=>.val (a.get 38) Z,some 3,tT⟩]
def Ajj:List COp:=Dq ()
def Ge(E:Env)(ro:Option Nat)(fn:FuncId):aZ:=(aF (aF (aD E ro Aji) (aL (fun a=>(a.get 36)) aQ (exitR 0))) (aF (aR 1 (aF (aD E ro Ajk) (aF (aF (aD E ro Ajl) (aL (fun a=>(a.get 51)) (exitR 1) aQ)) (aF (aF (aD E ro Ajm) (aR 2 (aF (aF (aD E ro Ajn) (aL (fun a=>(a.get 53)) aQ (aF (aD E ro AbP) (aL (fun a=>(a.get 53)) aQ (aF (aD E ro AbQ) (aL (fun a=>(a.get 53)) aQ (aF (aD E ro AbR) (aL (fun a=>(a.get 53)) aQ (aF (aD E ro AbS) (aL (fun a=>(a.get 53)) aQ (aF (aD E ro AbT) (aL (fun a=>(a.get 53)) aQ (aF (aD E ro AbU) (aL (fun a=>(a.get 53)) aQ (aF (aD E ro AbV) (aL (fun a=>(a.get 53)) aQ (aD E ro AbW))))))))))))))))) (aL (fun a=>(a.get 53)) (exitR 1) aQ)))) (aF (aD E ro AbX) bO))))) (aD E ro Ajj)))
def HB(_:Unit):List COp:=[⟨fun a Z=>.val (.bool true) Z,some 2,tT⟩]
def AbY:List COp:=HB ()
def AaB(E:Env)(ro:Option Nat)(fn:FuncId):aZ:=(aF (aD E ro Aje) (aF (aF (aD E ro Ajf) (aL (fun a=>(a.get 32)) (aF (aD E ro Ajg) bO) aQ)) (aF (aF (aD E ro Ajh) (aR 0 (loopR (bH nls fn) (Ge E ro fn)))) (aF (aD E ro AbY) bO))))
theorem E7:aD E ro Aje a u Z=aD E ro (Fw ()) a u Z:=rfl
theorem E8:aD E ro Ajf a u Z=aD E ro (Fx ()) a u Z:=rfl
theorem Ig:aD E ro Ajg a u Z=aD E ro (Ie ()) a u Z:=rfl
theorem KM:aD E ro Ajh a u Z=aD E ro (JO ()) a u Z:=rfl
theorem Cf:aD E ro Aji a u Z=aD E ro (Di ()) a u Z:=rfl
theorem CA:aD E ro Ajk a u Z=aD E ro (Dr ()) a u Z:=rfl
theorem CB:aD E ro Ajl a u Z=aD E ro (Dt ()) a u Z:=rfl
theorem CC:aD E ro Ajm a u Z=aD E ro (Du ()) a u Z:=rfl
theorem CD:aD E ro Ajn a u Z=aD E ro (Dv ()) a u Z:=rfl
theorem BK:aD E ro AbP a u Z=aD E ro (CF ()) a u Z:=rfl
theorem BL:aD E ro AbQ a u Z=aD E ro (CG ()) a u Z:=rfl
theorem BM:aD E ro AbR a u Z=aD E ro (CH ()) a u Z:=rfl
theorem BN:aD E ro AbS a u Z=aD E ro (CI ()) a u Z:=rfl
theorem BO:aD E ro AbT a u Z=aD E ro (CJ ()) a u Z:=rfl
theorem BP:aD E ro AbU a u Z=aD E ro (CK ()) a u Z:=rfl
theorem BQ:aD E ro AbV a u Z=aD E ro (CL ()) a u Z:=rfl
theorem BR:aD E ro AbW a u Z=aD E ro (CM ()) a u Z:=rfl
theorem BS:aD E ro AbX a u Z=aD E ro (CN ()) a u Z:=rfl
theorem Cz:aD E ro Ajj a u Z=aD E ro (Dq ()) a u Z:=rfl
theorem I4:aD E ro AbY a u Z=aD E ro (HB ()) a u Z:=rfl
theorem AoI(E:Env)(ro:Option Nat)(fn:FuncId):code Tryz.prog nls (Tryz.f146.body.getD .skip) E ro fn=AaB E ro fn:=by kernel_rfl
theorem AfO(E:Env)(args:List Value)(u:Option FrameMode)(Z:aC)(hn:args.length<=(5:Nat)):bA Tryz.prog nls E 146 args u Z=aN Tryz.prog E [.tmp 2] (AaB E none 146 ⟨aY undef 5 args,fun _=>undef,5,63,[]⟩ u Z):=by
 rw[Am (body:=Tryz.f146.body.getD .skip) Tryz.func146 rfl E args u Z 5 63 (by kernel_rfl) rfl ⟨hn,by decide⟩,AoI]
 rfl
def Ma(_:Unit):List COp:=[⟨fun a Z=>.val (.int .i64 0) Z,some 2,tT⟩]
def Ajo:List COp:=Ma ()
def Mb(_:Unit):List COp:=[⟨fun a Z=>.val (a.get 0) Z,some 4,tT⟩,
 ⟨fun a Z=>flenS (a.get 4) Z,some 5,tT⟩,
 ⟨fun a Z=>i_gtr Tryz.prog 3 (.tmp 5) (.const (.int .i64 60)) (a.get 5) (.int .i64 60) Z,some 6,tT⟩]
def Ajp:List COp:=Mb ()
def RM(_:Unit):List COp:=[⟨fun a Z=>.val (.int .i64 8) Z,some 2,tT⟩]
def Ajq:List COp:=RM ()
def RN(_:Unit):List COp:=[⟨fun a Z=>.val (.int .i64 0) Z,some 3,tT⟩]
def Ajr:List COp:=RN ()
def Ih(_:Unit):List COp:=[⟨fun a Z=>.val (a.get 3) Z,some 7,tT⟩,
 ⟨fun a Z=>.val (a.get 0) Z,some 8,tT⟩,
 ⟨fun a Z=>flenS (a.get 8) Z,some 9,tT⟩,
 ⟨fun a Z=>i_lss Tryz.prog 3 (.tmp 7) (.tmp 9) (a.get 7) (a.get 9) Z,some 10,tT⟩]
def Ajs:List COp:=Ih ()
def JQ(_:Unit):List COp:=[⟨fun a Z=>.val (a.get 0) Z,some 13,tT⟩,
 ⟨fun a Z=>.val (a.get 3) Z,some 14,tT⟩,
 ⟨fun a Z=>bQ (a.get 13) (a.get 14) Z,some 15,tT⟩,
 ⟨fun a Z=>i_lss Tryz.prog 5 (.tmp 15) (.const (.int .u8 32)) (a.get 15) (.int .u8 32) Z,some 16,tT⟩,
 ⟨fun a Z=>.val (a.get 16) Z,some 17,tT⟩,
 ⟨fun a Z=>.val (a.get 0) Z,some 18,fun a=>gd (a.get 17) false⟩,
 ⟨fun a Z=>.val (a.get 3) Z,some 19,fun a=>gd (a.get 17) false⟩,
 ⟨fun a Z=>bQ (a.get 18) (a.get 19) Z,some 20,fun a=>gd (a.get 17) false⟩,
 ⟨fun a Z=>i_gtr Tryz.prog 5 (.tmp 20) (.const (.int .u8 126)) (a.get 20) (.int .u8 126) Z,some 21,fun a=>gd (a.get 17) false⟩,
 ⟨fun a Z=>bG (a.get 17) (.bool true) (a.get 21) Z,some 22,tT⟩]
def Aju:List COp:=JQ ()
def JR(_:Unit):List COp:=[⟨fun a Z=>.val (.int .i64 13) Z,some 2,tT⟩]
def Ajv:List COp:=JR ()
def JP(_:Unit):List COp:=[⟨fun a Z=>.val (a.get 3) Z,some 11,tT⟩,
 ⟨fun a Z=>i_add Tryz.prog 3 (.tmp 11) (.const (.int .i64 1)) (a.get 11) (.int .i64 1) Z,some 12,tT⟩,
 ⟨fun a Z=>.val (a.get 12) Z,some 3,tT⟩]
def Ajt:List COp:=JP ()
def Hu(E:Env)(ro:Option Nat)(fn:FuncId):aZ:=(aF (aF (aD E ro Ajs) (aL (fun a=>(a.get 10)) aQ (exitR 0))) (aF (aR 1 (aF (aD E ro Aju) (aL (fun a=>(a.get 22)) (aF (aD E ro Ajv) bO) aQ))) (aD E ro Ajt)))
def RO(_:Unit):List COp:=[⟨fun a Z=>.val (.int .i64 0) Z,some 2,tT⟩]
def Ajw:List COp:=RO ()
def AaC(E:Env)(ro:Option Nat)(fn:FuncId):aZ:=(aF (aD E ro Ajo) (aF (aF (aD E ro Ajp) (aL (fun a=>(a.get 6)) (aF (aD E ro Ajq) bO) aQ)) (aF (aF (aD E ro Ajr) (aR 0 (loopR (bH nls fn) (Hu E ro fn)))) (aF (aD E ro Ajw) bO))))
theorem Pz:aD E ro Ajo a u Z=aD E ro (Ma ()) a u Z:=rfl
theorem PA:aD E ro Ajp a u Z=aD E ro (Mb ()) a u Z:=rfl
theorem Aen:aD E ro Ajq a u Z=aD E ro (RM ()) a u Z:=rfl
theorem Aeo:aD E ro Ajr a u Z=aD E ro (RN ()) a u Z:=rfl
theorem Ii:aD E ro Ajs a u Z=aD E ro (Ih ()) a u Z:=rfl
theorem KO:aD E ro Aju a u Z=aD E ro (JQ ()) a u Z:=rfl
theorem KP:aD E ro Ajv a u Z=aD E ro (JR ()) a u Z:=rfl
theorem KN:aD E ro Ajt a u Z=aD E ro (JP ()) a u Z:=rfl
theorem Aep:aD E ro Ajw a u Z=aD E ro (RO ()) a u Z:=rfl
theorem AoJ(E:Env)(ro:Option Nat)(fn:FuncId):code Tryz.prog nls (Tryz.f147.body.getD .skip) E ro fn=AaC E ro fn:=by kernel_rfl
theorem AfP(E:Env)(args:List Value)(u:Option FrameMode)(Z:aC)(hn:args.length<=(4:Nat)):bA Tryz.prog nls E 147 args u Z=aN Tryz.prog E [.tmp 2] (AaC E none 147 ⟨aY undef 4 args,fun _=>undef,4,23,[]⟩ u Z):=by
 rw[Am (body:=Tryz.f147.body.getD .skip) Tryz.func147 rfl E args u Z 4 23 (by kernel_rfl) rfl ⟨hn,by decide⟩,AoJ]
 rfl
end Go.Proofs.YtknnbjmcfibpgaaGreatDoor
namespace Go.Proofs.YtknnbjmcfibpgaaGreatDoor
open Go Go.Eng
attribute [local congr] Aa Af Ad Ab Ac
attribute [-go_sem] List.range_succ
inductive Whole:Int->Int->ByteArray->Nat->Prop
 | nil:Whole 0 0 ⟨#[]⟩ 0
 | bool (z:Int) (h:0<=z/\z<=1):Whole 1 z ⟨#[]⟩ 0
 | num (z:Int) (h : -999999999<=z/\z<=999999999):Whole 2 z ⟨#[]⟩ 0
 | sym (t:ByteArray) (h:t∈symTexts):Whole 3 0 t 0
 | str (t:ByteArray) (h:t∈strTexts):Whole 4 0 t 0
 | pair:Whole 5 0 ⟨#[]⟩ 2
 | vec (l:Nat):Whole 6 0 ⟨#[]⟩ l
end Go.Proofs.YtknnbjmcfibpgaaGreatDoor
namespace Go.Proofs.YtknnbjmcfibpgaaGreatDoor
open Go Go.Eng
attribute [local congr] Aa Af Ad Ab Ac
attribute [-go_sem] List.range_succ
def WholeD:D->Prop
 | .mk k z t ds=>Whole k z t ds.length
end Go.Proofs.YtknnbjmcfibpgaaGreatDoor
namespace Go.Proofs.YtknnbjmcfibpgaaGreatDoor
open Go Go.Eng
attribute [local congr] Aa Af Ad Ab Ac
attribute [-go_sem] List.range_succ
theorem Jf(ds:List D)(i:Nat)(d:D)(h:ds[i]? = some d):D.counts (ds.take (i+1))=D.counts (ds.take i)+d.count:=by
 rw[List.take_add_one,h,Gb]
 simp[D.counts]
theorem ET:∀(ds:List D) (i:Nat),D.counts (ds.take i)<=D.counts ds
 | [],i=>by simp
 | d::ds,0=>by simp[D.counts]
 | d::ds,i+1=>by
  rw[List.take_succ_cons,D.counts,D.counts]
  have:=ET ds i
  omega
def KPs(m:Nat)(R:Nat->Prop)(d:D):Prop:=∀(v:Value) (mx:Nat) (V:aC),Wf V->aU R V v d->d.count<=mx->mx<=100000->Gives ((env m).call 42 [v,.int .i64 (.ofNat mx)] none V) V fun r _=>r=.int .i64 (.ofNat d.count)
theorem ApJ(m:Nat)(R:Nat->Prop)(ds:List D)(p:Option Addr)(c bx mx:Nat)(k z:Int)(t:ByteArray)(hmx:1+D.counts ds<=mx)(hmx2:mx<=100000)(hds:ds.length<1000000)(hO:∀(i:Nat) (d:D),ds[i]? = some d->KPs m R d):
  ∀(j fuel i:Nat) (f g:Nat->Value) (Z:aC),ds.length-i=j->j<fuel->i<=ds.length->Wf Z->bF R Z p 0 ds->Z.cells bx=some [.int .i64 k,.int .i64 z,.string t,.slice p ds.length c]->f 2=.pointer (some ⟨bx,0,none⟩)->f 1=.int .i64 (.ofNat mx)->f 5=.int .i64 (.ofNat (1+D.counts (ds.take i)))->f 6=.int .i64 (.ofNat i)->
   ∃f' g' V,floop [30] (Hw (env m) none 42) fuel (Sl 7 31 f g []) none Z=.done (.exit 0) (Sl 7 31 f' g' []) none V/\Ext Z V/\Wf V/\f' 5=.int .i64 (.ofNat (1+D.counts ds)):=by
 intro j
 induction j with
 | zero=>
  intro fuel i f g Z hj hf hi hw hE hc f2 f1 f5 f6
  obtain⟨fuel,rfl⟩:∃q,fuel=q+1:=⟨fuel-1,by omega⟩
  obtain rfl:i=ds.length:=by omega
  have d0:decide (Int.ofNat ds.length<Int.ofNat ds.length)=false:=by simp
  rw[Ap]
  unfold Hw
  simp -implicitDefEqProofs only[go_sem,GF,HF,f2,f6,hc,d0]
  exact⟨_,_,_,rfl,Ext.refl _,hw,by rw[f5,List.take_length]⟩
 | succ j ih=>
  intro fuel i f g Z hj hf hi hw hE hc f2 f1 f5 f6
  obtain⟨fuel,rfl⟩:∃q,fuel=q+1:=⟨fuel-1,by omega⟩
  have hlt:i<ds.length:=by omega
  have d0:decide (Int.ofNat i<Int.ofNat ds.length)=true:=by simp;omega
  have hd:ds[i]? = some ds[i]:=List.getElem?_eq_getElem hlt
  have ht1:=Jf ds i ds[i] hd
  have ht2:=ET ds (i+1)
  have ht3:=ET ds i
  have d1:decide (Int.ofNat (1+D.counts (ds.take i))<=Int.ofNat mx)=true:=by simp only[Int.ofNat_eq_natCast,decide_eq_true_eq];omega
  obtain⟨b,off,cs,rfl,hRb,hcs,hle,hL⟩:=bF.get hE hd
  rw[Nat.zero_add] at hle hL
  obtain⟨_,bT,e3,x3,hw3,rfl⟩:=hO i ds[i] hd _ (mx-(1+D.counts (ds.take i))) Z hw hL (by omega) (by omega)
  have a1:=FT i (by omega)
  have s1:wrapI (Int.ofNat mx-Int.ofNat (1+D.counts (ds.take i)))=Int.ofNat (mx-(1+D.counts (ds.take i))):=by
   simp only[Int.ofNat_eq_natCast]
   rw[DV (by omega)]
   omega
  have s2:wrapI (Int.ofNat (1+D.counts (ds.take i))+Int.ofNat ds[i].count)=Int.ofNat (1+D.counts (ds.take (i+1))):=by
   simp only[Int.ofNat_eq_natCast]
   rw[DV (by omega)]
   omega
  have ih':=fun f g h2 h1 h5 h6=>ih fuel (i+1) f g bT (by omega) (by omega) (by omega) hw3 (hE.keep fun b cs hb hc=>⟨(x3.cells (hw.cells hc)).trans hc,hb⟩) ((x3.cells (hw.cells hc)).trans hc) h2 h1 h5 h6
  unfold Hw at ih'
  rw[Ap]
  unfold Hw
  generalize hq:1+D.counts (ds.take i)=q at *
  generalize hq2:1+D.counts (ds.take (i+1))=q2 at *
  simp -implicitDefEqProofs only[go_sem,GF,HF,VY,SB,VZ,SC,f1,f2,f5,f6,hc,d0,d1,hlt,hcs,hle,e3,s1,s2,a1,Ag]
  generalize hff:upd _ 6 _=f2'
  generalize hgg:upd _ 18 _=g2
  obtain⟨f3,g3,bW,e4,x4,hw4,r5⟩:=ih' f2' g2 (by rw[<-hff];simp -implicitDefEqProofs only[go_sem,reduceCtorEq,f2]) (by rw[<-hff];simp -implicitDefEqProofs only[go_sem,reduceCtorEq,f1]) (by rw[<-hff];simp -implicitDefEqProofs only[go_sem,reduceCtorEq]) (by rw[<-hff];simp -implicitDefEqProofs only[go_sem,reduceCtorEq])
  exact⟨f3,g3,bW,e4,x3.trans x4,hw4,r5⟩
theorem QB(n:Nat)(R:Nat->Prop):∀(N:Nat) (d:D),d.deep<=N->KPs (n+N) R d:=by
 intro N
 induction N with
 | zero=>
  intro d hN
  obtain⟨k,z,t,ds⟩:=d
  rw[D.deep] at hN
  omega
 | succ N ih=>
  intro d hN v mx Z hw hL hcm hmx
  obtain⟨k,z,t,ds⟩:=d
  obtain⟨p,c,rfl,hE⟩:=hL
  obtain⟨M,hM⟩:∃M,n+N=M:=⟨_,rfl⟩
  rw[hM] at ih
  have hcd:(D.mk k z t ds).count=1+D.counts ds:=by rw[D.count];omega
  have hdl:ds.length<1000000:=by
   have:=Ll ds [] 0
   rw[FR] at this
   omega
  rw[show n+(N+1)=M+1 by omega,Ai _ 42 _ _ rfl,Qh _ _ _ _ (by simp),Ah]
  unfold WW
  have x1:Ext Z (Z.push (.cells [.int .i64 k,.int .i64 z,.string t,.slice p ds.length c] TD) none):=(Ext.refl _).push _ _
  have hw1:=hw.push (.cells [.int .i64 k,.int .i64 z,.string t,.slice p ds.length c] TD) none
  have c1:(Z.push (.cells [.int .i64 k,.int .i64 z,.string t,.slice p ds.length c] TD) none).cells Z.next=some [.int .i64 k,.int .i64 z,.string t,.slice p ds.length c]:=by rw[Al,if_pos rfl];rfl
  have hkeep:bH nls 42=[30]:=by kernel_rfl
  have lp:=fun fuel f g hf h2 h1 h5 h6=>ApJ M R ds p c Z.next mx k z t (by omega) hmx hdl (fun i d hdi=>ih d (by rw[D.deep] at hN;have:=EK (List.mem_of_getElem? hdi);omega))
   ds.length fuel 0 f g _ (by omega) hf (by omega) hw1 (hE.keep fun b cs hb hc=>⟨(x1.cells (hw.cells hc)).trans hc,hb⟩) c1 h2 h1 h5 h6
  simp -implicitDefEqProofs only[go_sem,Nq,Nn,Ns,Nr,Nu,Nt,Ag,hkeep]
  generalize hbf:bL=fuel
  generalize hff:upd _ 6 _=f1
  obtain⟨f',g',bT,e3,x3,hw3,r5⟩:=lp fuel f1 (fun _=>undef) (by rw[<-hbf];show ds.length<1000000000000;omega) (by rw[<-hff];simp -implicitDefEqProofs only[go_sem,reduceCtorEq]) (by rw[<-hff];simp -implicitDefEqProofs only[go_sem,reduceCtorEq]) (by rw[<-hff];simp -implicitDefEqProofs only[go_sem,reduceCtorEq]<;>rfl) (by rw[<-hff];simp -implicitDefEqProofs only[go_sem,reduceCtorEq]<;>rfl)
  rw[e3]
  simp -implicitDefEqProofs only[go_sem,Nw,Nv,r5]
  exact⟨_,_,rfl,x1.trans x3,hw3,by rw[hcd]⟩
end Go.Proofs.YtknnbjmcfibpgaaGreatDoor
namespace Go.Proofs.YtknnbjmcfibpgaaGreatDoor
open Go Go.Eng
attribute [local congr] Aa Af Ad Ab Ac
attribute [-go_sem] List.range_succ
theorem OO(d:D):1<=d.count:=by
 cases d
 rw[D.count]
 omega
theorem E1:∀ds:List D,ds.length<=D.counts ds
 | []=>by simp
 | d::ds=>by
  rw[D.counts,List.length_cons]
  have:=OO d
  have:=E1 ds
  omega
def KPm(m mx:Nat)(R:Nat->Prop)(d:D):Prop:=∀(v:Value) (V:aC),Wf V->aU R V v d->Gives ((env m).call 42 [v,.int .i64 (.ofNat mx)] none V) V fun r _=>r=.int .i64 (.ofNat (min d.count (mx+1)))
theorem Vk(m:Nat)(R:Nat->Prop)(ds:List D)(p:Option Addr)(c bx mx:Nat)(k z:Int)(t:ByteArray)(fuel i:Nat)(f g:Nat->Value)(Z:aC)(hbig:mx<=D.counts (ds.take i))(hi:i<=ds.length)(hw:Wf Z)(hE:bF R Z p 0 ds)(hc:Z.cells bx=some [.int .i64 k,.int .i64 z,.string t,.slice p ds.length c])(f2:f 2=.pointer (some ⟨bx,0,none⟩))(f1:f 1=.int .i64 (.ofNat mx))(f5:f 5=.int .i64 (.ofNat (min (1+D.counts (ds.take i)) (mx+1))))(f6:f 6=.int .i64 (.ofNat i)):
  ∃f' g' V,floop [30] (Hw (env m) none 42) (fuel+1) (Sl 7 31 f g []) none Z=.done (.exit 0) (Sl 7 31 f' g' []) none V/\Ext Z V/\Wf V/\f' 5=.int .i64 (.ofNat (min (1+D.counts ds) (mx+1))):=by
 have h3:=ET ds i
 have e0:min (1+D.counts (ds.take i)) (mx+1)=mx+1:=by omega
 have e1:min (1+D.counts ds) (mx+1)=mx+1:=by omega
 rw[e0] at f5
 rw[e1]
 have d1:decide (Int.ofNat (mx+1)<=Int.ofNat mx)=false:=by simp only[Int.ofNat_eq_natCast,decide_eq_false_iff_not];omega
 rw[Ap]
 unfold Hw
 by_cases hlt:i<ds.length
 .have d0:decide (Int.ofNat i<Int.ofNat ds.length)=true:=by simp;omega
  simp -implicitDefEqProofs only[go_sem,GF,HF,f1,f2,f5,f6,hc,d0,d1]
  exact⟨_,_,_,rfl,Ext.refl _,hw,f5⟩
 .have d0:decide (Int.ofNat i<Int.ofNat ds.length)=false:=by simp;omega
  simp -implicitDefEqProofs only[go_sem,GF,HF,f1,f2,f5,f6,hc,d0]
  exact⟨_,_,_,rfl,Ext.refl _,hw,f5⟩
theorem Vj(m:Nat)(R:Nat->Prop)(ds:List D)(p:Option Addr)(c bx mx:Nat)(k z:Int)(t:ByteArray)(hmx2:mx<=100000)(hO:∀(d:D) (mx':Nat),mx'<mx->KPm m mx' R d):
  ∀(j fuel i:Nat) (f g:Nat->Value) (Z:aC),mx+1-min (1+D.counts (ds.take i)) (mx+1)<=j->j<fuel->i<=ds.length->Wf Z->bF R Z p 0 ds->Z.cells bx=some [.int .i64 k,.int .i64 z,.string t,.slice p ds.length c]->f 2=.pointer (some ⟨bx,0,none⟩)->f 1=.int .i64 (.ofNat mx)->f 5=.int .i64 (.ofNat (min (1+D.counts (ds.take i)) (mx+1)))->f 6=.int .i64 (.ofNat i)->
   ∃f' g' V,floop [30] (Hw (env m) none 42) fuel (Sl 7 31 f g []) none Z=.done (.exit 0) (Sl 7 31 f' g' []) none V/\Ext Z V/\Wf V/\f' 5=.int .i64 (.ofNat (min (1+D.counts ds) (mx+1))):=by
 intro j
 induction j with
 | zero=>
  intro fuel i f g Z hj hf hi hw hE hc f2 f1 f5 f6
  obtain⟨fuel,rfl⟩:∃q,fuel=q+1:=⟨fuel-1,by omega⟩
  exact Vk m R ds p c bx mx k z t fuel i f g Z (by omega) hi hw hE hc f2 f1 f5 f6
 | succ j ih=>
  intro fuel i f g Z hj hf hi hw hE hc f2 f1 f5 f6
  obtain⟨fuel,rfl⟩:∃q,fuel=q+1:=⟨fuel-1,by omega⟩
  by_cases hbig:mx<=D.counts (ds.take i)
  .exact Vk m R ds p c bx mx k z t fuel i f g Z hbig hi hw hE hc f2 f1 f5 f6
  have e0:min (1+D.counts (ds.take i)) (mx+1)=1+D.counts (ds.take i):=by omega
  rw[e0] at f5
  by_cases hlt:i<ds.length
  .have d0:decide (Int.ofNat i<Int.ofNat ds.length)=true:=by simp;omega
   have hd:ds[i]? = some ds[i]:=List.getElem?_eq_getElem hlt
   have ht1:=Jf ds i ds[i] hd
   have hpos:=OO ds[i]
   have hge:=E1 (ds.take i)
   rw[List.length_take] at hge
   have d1:decide (Int.ofNat (1+D.counts (ds.take i))<=Int.ofNat mx)=true:=by simp only[Int.ofNat_eq_natCast,decide_eq_true_eq];omega
   obtain⟨b,off,cs,rfl,hRb,hcs,hle,hL⟩:=bF.get hE hd
   rw[Nat.zero_add] at hle hL
   obtain⟨_,bT,e3,x3,hw3,rfl⟩:=hO ds[i] (mx-(1+D.counts (ds.take i))) (by omega) _ Z hw hL
   have a1:=FT i (by omega)
   have s1:wrapI (Int.ofNat mx-Int.ofNat (1+D.counts (ds.take i)))=Int.ofNat (mx-(1+D.counts (ds.take i))):=by
    simp only[Int.ofNat_eq_natCast]
    rw[DV (by omega)]
    omega
   have s2:wrapI (Int.ofNat (1+D.counts (ds.take i))+Int.ofNat (min ds[i].count (mx-(1+D.counts (ds.take i))+1)))=Int.ofNat (min (1+D.counts (ds.take (i+1))) (mx+1)):=by
    simp only[Int.ofNat_eq_natCast]
    rw[DV (by omega)]
    omega
   have ih':=fun f g h2 h1 h5 h6=>ih fuel (i+1) f g bT (by omega) (by omega) (by omega) hw3 (hE.keep fun b cs hb hc=>⟨(x3.cells (hw.cells hc)).trans hc,hb⟩) ((x3.cells (hw.cells hc)).trans hc) h2 h1 h5 h6
   unfold Hw at ih'
   rw[Ap]
   unfold Hw
   generalize hq:1+D.counts (ds.take i)=q at *
   generalize hq2:min (1+D.counts (ds.take (i+1))) (mx+1)=q2 at *
   generalize hq3:min ds[i].count (mx-q+1)=q3 at *
   simp -implicitDefEqProofs only[go_sem,GF,HF,VY,SB,VZ,SC,f1,f2,f5,f6,hc,d0,d1,hlt,hcs,hle,e3,s1,s2,a1,Ag]
   generalize hff:upd _ 6 _=f2'
   generalize hgg:upd _ 18 _=g2
   obtain⟨f3,g3,bW,e4,x4,hw4,r5⟩:=ih' f2' g2 (by rw[<-hff];simp -implicitDefEqProofs only[go_sem,reduceCtorEq,f2]) (by rw[<-hff];simp -implicitDefEqProofs only[go_sem,reduceCtorEq,f1]) (by rw[<-hff];simp -implicitDefEqProofs only[go_sem,reduceCtorEq]) (by rw[<-hff];simp -implicitDefEqProofs only[go_sem,reduceCtorEq])
   exact⟨f3,g3,bW,e4,x3.trans x4,hw4,r5⟩
  .obtain rfl:i=ds.length:=by omega
   rw[List.take_length] at e0 f5
   rw[e0]
   have d0:decide (Int.ofNat ds.length<Int.ofNat ds.length)=false:=by simp
   rw[Ap]
   unfold Hw
   simp -implicitDefEqProofs only[go_sem,GF,HF,f2,f6,hc,d0]
   exact⟨_,_,_,rfl,Ext.refl _,hw,f5⟩
theorem AvY(n:Nat)(R:Nat->Prop):∀(N mx:Nat) (d:D),mx<=N->N<=100000->KPm (n+N+1) mx R d:=by
 intro N
 induction N with
 | zero=>
  intro mx d hN hN2 v Z hw hL
  obtain⟨k,z,t,ds⟩:=d
  obtain⟨p,c,rfl,hE⟩:=hL
  have hcd:(D.mk k z t ds).count=1+D.counts ds:=by rw[D.count];omega
  obtain rfl:mx=0:=by omega
  rw[show n+0+1=n+1 by omega,Ai _ 42 _ _ rfl,Qh _ _ _ _ (by simp),Ah]
  unfold WW
  have x1:Ext Z (Z.push (.cells [.int .i64 k,.int .i64 z,.string t,.slice p ds.length c] TD) none):=(Ext.refl _).push _ _
  have hw1:=hw.push (.cells [.int .i64 k,.int .i64 z,.string t,.slice p ds.length c] TD) none
  have c1:(Z.push (.cells [.int .i64 k,.int .i64 z,.string t,.slice p ds.length c] TD) none).cells Z.next=some [.int .i64 k,.int .i64 z,.string t,.slice p ds.length c]:=by rw[Al,if_pos rfl];rfl
  have hkeep:bH nls 42=[30]:=by kernel_rfl
  have lp:=fun fuel f g hf h2 h1 h5 h6=>Vj n R ds p c Z.next 0 k z t (by omega) (fun d mx' h=>by omega)
   0 fuel 0 f g _ (by omega) hf (by omega) hw1 (hE.keep fun b cs hb hc=>⟨(x1.cells (hw.cells hc)).trans hc,hb⟩) c1 h2 h1 h5 h6
  simp -implicitDefEqProofs only[go_sem,Nq,Nn,Ns,Nr,Nu,Nt,Ag,hkeep]
  generalize hbf:bL=fuel
  generalize hff:upd _ 6 _=f1
  obtain⟨f',g',bT,e3,x3,hw3,r5⟩:=lp fuel f1 (fun _=>undef) (by rw[<-hbf];show 0<1000000000000;omega) (by rw[<-hff];simp -implicitDefEqProofs only[go_sem,reduceCtorEq]) (by rw[<-hff];simp -implicitDefEqProofs only[go_sem,reduceCtorEq]<;>rfl) (by rw[<-hff];simp -implicitDefEqProofs only[go_sem,reduceCtorEq]<;>rfl) (by rw[<-hff];simp -implicitDefEqProofs only[go_sem,reduceCtorEq]<;>rfl)
  rw[e3]
  simp -implicitDefEqProofs only[go_sem,Nw,Nv,r5]
  exact⟨_,_,rfl,x1.trans x3,hw3,by rw[hcd]⟩
 | succ N ih=>
  intro mx d hN hN2 v Z hw hL
  obtain⟨k,z,t,ds⟩:=d
  obtain⟨p,c,rfl,hE⟩:=hL
  obtain⟨M,hM⟩:∃M,n+N+1=M:=⟨_,rfl⟩
  rw[hM] at ih
  have hcd:(D.mk k z t ds).count=1+D.counts ds:=by rw[D.count];omega
  rw[show n+(N+1)+1=M+1 by omega,Ai _ 42 _ _ rfl,Qh _ _ _ _ (by simp),Ah]
  unfold WW
  have x1:Ext Z (Z.push (.cells [.int .i64 k,.int .i64 z,.string t,.slice p ds.length c] TD) none):=(Ext.refl _).push _ _
  have hw1:=hw.push (.cells [.int .i64 k,.int .i64 z,.string t,.slice p ds.length c] TD) none
  have c1:(Z.push (.cells [.int .i64 k,.int .i64 z,.string t,.slice p ds.length c] TD) none).cells Z.next=some [.int .i64 k,.int .i64 z,.string t,.slice p ds.length c]:=by rw[Al,if_pos rfl];rfl
  have hkeep:bH nls 42=[30]:=by kernel_rfl
  have lp:=fun fuel f g hf h2 h1 h5 h6=>Vj M R ds p c Z.next mx k z t (by omega) (fun d mx' h=>ih mx' d (by omega) (by omega))
   mx fuel 0 f g _ (by simp[D.counts]) hf (by omega) hw1 (hE.keep fun b cs hb hc=>⟨(x1.cells (hw.cells hc)).trans hc,hb⟩) c1 h2 h1 h5 h6
  simp -implicitDefEqProofs only[go_sem,Nq,Nn,Ns,Nr,Nu,Nt,Ag,hkeep]
  generalize hbf:bL=fuel
  generalize hff:upd _ 6 _=f1
  obtain⟨f',g',bT,e3,x3,hw3,r5⟩:=lp fuel f1 (fun _=>undef) (by rw[<-hbf];show mx<1000000000000;omega) (by rw[<-hff];simp -implicitDefEqProofs only[go_sem,reduceCtorEq]) (by rw[<-hff];simp -implicitDefEqProofs only[go_sem,reduceCtorEq]) (by rw[<-hff];simp -implicitDefEqProofs only[go_sem,reduceCtorEq,List.take_zero,D.counts,Nat.add_zero];rw[show min 1 (mx+1)=1 by omega];rfl) (by rw[<-hff];simp -implicitDefEqProofs only[go_sem,reduceCtorEq]<;>rfl)
  rw[e3]
  simp -implicitDefEqProofs only[go_sem,Nw,Nv,r5]
  exact⟨_,_,rfl,x1.trans x3,hw3,by rw[hcd]⟩
end Go.Proofs.YtknnbjmcfibpgaaGreatDoor
namespace Go.Proofs.YtknnbjmcfibpgaaGreatDoor
open Go Go.Eng
variable (E:Env) (ro:Option Nat) (last:List Nat->aZ) (cl:List Nat) (a:aV) (u:Option FrameMode) (Z:aC)
def Acb(_:Unit):List COp:=[⟨fun a Z=>fbox 24 (a.get 0) Z,some 1,tT⟩,
 ⟨fun a Z=>.val (.bool false) Z,some 2,tT⟩]
def Ax6:List COp:=Acb ()
def Acd(_:Unit):List COp:=[⟨fun a Z=>aG (some 4) (a.get 1) Z,some 3,tT⟩,
 ⟨fun a Z=>.enter 42 [(a.get 3),(.int .i64 150)] Z,some 4,tT⟩,
 ⟨fun a Z=>i_gtr Tryz.prog 3 (.tmp 4) (.const (.int .i64 150)) (a.get 4) (.int .i64 150) Z,some 5,tT⟩,
 ⟨fun a Z=>.val (a.get 5) Z,some 6,tT⟩,
 ⟨fun a Z=>aG (some 4) (a.get 1) Z,some 7,fun a=>gd (a.get 6) false⟩,
 ⟨fun a Z=>.enter 43 [(a.get 7)] Z,some 8,fun a=>gd (a.get 6) false⟩,
 ⟨fun a Z=>bG (a.get 6) (.bool true) (a.get 8) Z,some 9,tT⟩,
 ⟨fun a Z=>.val (a.get 9) Z,some 2,tT⟩]
def Ax7:List COp:=Acd ()
def Aw8(E:Env)(ro:Option Nat)(fn:FuncId):aZ:=(aF (aD E ro Ax6) (aF (aD E ro Ax7) bO))
theorem Acc:aD E ro Ax6 a u Z=aD E ro (Acb ()) a u Z:=rfl
theorem Ace:aD E ro Ax7 a u Z=aD E ro (Acd ()) a u Z:=rfl
theorem Axr(E:Env)(ro:Option Nat)(fn:FuncId):code Tryz.prog nls (Tryz.f6.body.getD .skip) E ro fn=Aw8 E ro fn:=by kernel_rfl
theorem AvP(E:Env)(args:List Value)(u:Option FrameMode)(Z:aC)(hn:args.length<=(2:Nat)):bA Tryz.prog nls E 6 args u Z=aN Tryz.prog E [.tmp 2] (Aw8 E none 6 ⟨aY undef 2 args,fun _=>undef,2,10,[]⟩ u Z):=by
 rw[Am (body:=Tryz.f6.body.getD .skip) Tryz.func6 rfl E args u Z 2 10 (by kernel_rfl) rfl ⟨hn,by decide⟩,Axr]
 rfl
def SD(_:Unit):List COp:=[⟨fun a Z=>fbox 24 (a.get 0) Z,some 1,tT⟩,
 ⟨fun a Z=>.val (.bool false) Z,some 2,tT⟩]
def AsR:List COp:=SD ()
def SE(_:Unit):List COp:=[⟨fun a Z=>aH 2 (a.get 1) Z,some 4,tT⟩,
 ⟨fun a Z=>aG none (a.get 4) Z,some 5,tT⟩,
 ⟨fun a Z=>flenS (a.get 5) Z,some 6,tT⟩,
 ⟨fun a Z=>i_gtr Tryz.prog 3 (.tmp 6) (.const (.int .i64 100)) (a.get 6) (.int .i64 100) Z,some 7,tT⟩]
def AsS:List COp:=SE ()
def YU(_:Unit):List COp:=[⟨fun a Z=>.val (.bool true) Z,some 2,tT⟩]
def AsT:List COp:=YU ()
def YV(_:Unit):List COp:=[⟨fun a Z=>.val (.int .i64 0) Z,some 3,tT⟩]
def AsU:List COp:=YV ()
def Nx(_:Unit):List COp:=[⟨fun a Z=>.val (a.get 3) Z,some 8,tT⟩,
 ⟨fun a Z=>aH 3 (a.get 1) Z,some 9,tT⟩,
 ⟨fun a Z=>aG none (a.get 9) Z,some 10,tT⟩,
 ⟨fun a Z=>flenL (a.get 10) Z,some 11,tT⟩,
 ⟨fun a Z=>i_lss Tryz.prog 3 (.tmp 8) (.tmp 11) (a.get 8) (a.get 11) Z,some 12,tT⟩]
def AsV:List COp:=Nx ()
def SF(_:Unit):List COp:=[⟨fun a Z=>aH 3 (a.get 1) Z,some 15,tT⟩,
 ⟨fun a Z=>aG none (a.get 15) Z,some 16,tT⟩,
 ⟨fun a Z=>.val (a.get 3) Z,some 17,tT⟩,
 ⟨fun a Z=>bB (none,4) (a.get 16) (a.get 17) Z,some 18,tT⟩,
 ⟨fun a Z=>aG (some 4) (a.get 18) Z,some 19,tT⟩,
 ⟨fun a Z=>.enter 43 [(a.get 19)] Z,some 20,tT⟩]
def AsX:List COp:=SF ()
def YX(_:Unit):List COp:=[⟨fun a Z=>.val (.bool true) Z,some 2,tT⟩]
def AsY:List COp:=YX ()
def YW(_:Unit):List COp:=[⟨fun a Z=>.val (a.get 3) Z,some 13,tT⟩,
 ⟨fun a Z=>i_add Tryz.prog 3 (.tmp 13) (.const (.int .i64 1)) (a.get 13) (.int .i64 1) Z,some 14,tT⟩,
 ⟨fun a Z=>.val (a.get 14) Z,some 3,tT⟩]
def AsW:List COp:=YW ()
def Lc(E:Env)(ro:Option Nat)(fn:FuncId):aZ:=(aF (aF (aD E ro AsV) (aL (fun a=>(a.get 12)) aQ (exitR 0))) (aF (aR 1 (aF (aD E ro AsX) (aL (fun a=>(a.get 20)) (aF (aD E ro AsY) bO) aQ))) (aD E ro AsW)))
def YY(_:Unit):List COp:=[⟨fun a Z=>.val (.bool false) Z,some 2,tT⟩]
def AsZ:List COp:=YY ()
def Anm(E:Env)(ro:Option Nat)(fn:FuncId):aZ:=(aF (aD E ro AsR) (aF (aF (aD E ro AsS) (aL (fun a=>(a.get 7)) (aF (aD E ro AsT) bO) aQ)) (aF (aF (aD E ro AsU) (aR 0 (loopR (bH nls fn) (Lc E ro fn)))) (aF (aD E ro AsZ) bO))))
theorem V0:aD E ro AsR a u Z=aD E ro (SD ()) a u Z:=rfl
theorem V3:aD E ro AsS a u Z=aD E ro (SE ()) a u Z:=rfl
theorem Alo:aD E ro AsT a u Z=aD E ro (YU ()) a u Z:=rfl
theorem Alp:aD E ro AsU a u Z=aD E ro (YV ()) a u Z:=rfl
theorem Ny:aD E ro AsV a u Z=aD E ro (Nx ()) a u Z:=rfl
theorem V4:aD E ro AsX a u Z=aD E ro (SF ()) a u Z:=rfl
theorem Alr:aD E ro AsY a u Z=aD E ro (YX ()) a u Z:=rfl
theorem Alq:aD E ro AsW a u Z=aD E ro (YW ()) a u Z:=rfl
theorem Als:aD E ro AsZ a u Z=aD E ro (YY ()) a u Z:=rfl
theorem Avk(E:Env)(ro:Option Nat)(fn:FuncId):code Tryz.prog nls (Tryz.f43.body.getD .skip) E ro fn=Anm E ro fn:=by kernel_rfl
theorem Apc(E:Env)(args:List Value)(u:Option FrameMode)(Z:aC)(hn:args.length<=(4:Nat)):bA Tryz.prog nls E 43 args u Z=aN Tryz.prog E [.tmp 2] (Anm E none 43 ⟨aY undef 4 args,fun _=>undef,4,21,[]⟩ u Z):=by
 rw[Am (body:=Tryz.f43.body.getD .skip) Tryz.func43 rfl E args u Z 4 21 (by kernel_rfl) rfl ⟨hn,by decide⟩,Avk]
 rfl
def Mh(_:Unit):List COp:=[⟨fun a Z=>.val (.bool false) Z,some 2,tT⟩]
def AjW:List COp:=Mh ()
def Mi(_:Unit):List COp:=[⟨fun a Z=>.val (a.get 0) Z,some 3,tT⟩,
 ⟨fun a Z=>i_leq Tryz.prog 5 (.const (.int .u8 48)) (.tmp 3) (.int .u8 48) (a.get 3) Z,some 4,tT⟩,
 ⟨fun a Z=>.val (a.get 4) Z,some 5,tT⟩,
 ⟨fun a Z=>.val (a.get 0) Z,some 6,fun a=>gd (a.get 5) true⟩,
 ⟨fun a Z=>i_leq Tryz.prog 5 (.tmp 6) (.const (.int .u8 57)) (a.get 6) (.int .u8 57) Z,some 7,fun a=>gd (a.get 5) true⟩,
 ⟨fun a Z=>bG (a.get 5) (a.get 7) (.bool false) Z,some 8,tT⟩,
 ⟨fun a Z=>.val (a.get 8) Z,some 2,tT⟩]
def AjX:List COp:=Mi ()
def AaF(E:Env)(ro:Option Nat)(fn:FuncId):aZ:=(aF (aD E ro AjW) (aF (aD E ro AjX) bO))
theorem PH:aD E ro AjW a u Z=aD E ro (Mh ()) a u Z:=rfl
theorem PI:aD E ro AjX a u Z=aD E ro (Mi ()) a u Z:=rfl
theorem AoO(E:Env)(ro:Option Nat)(fn:FuncId):code Tryz.prog nls (Tryz.f171.body.getD .skip) E ro fn=AaF E ro fn:=by kernel_rfl
theorem AfS(E:Env)(args:List Value)(u:Option FrameMode)(Z:aC)(hn:args.length<=(2:Nat)):bA Tryz.prog nls E 171 args u Z=aN Tryz.prog E [.tmp 2] (AaF E none 171 ⟨aY undef 2 args,fun _=>undef,2,9,[]⟩ u Z):=by
 rw[Am (body:=Tryz.f171.body.getD .skip) Tryz.func171 rfl E args u Z 2 9 (by kernel_rfl) rfl ⟨hn,by decide⟩,AoO]
 rfl
end Go.Proofs.YtknnbjmcfibpgaaGreatDoor
namespace Go.Proofs.YtknnbjmcfibpgaaGreatDoor
open Go Go.Eng
attribute [local congr] Aa Af Ad Ab Ac
attribute [-go_sem] List.range_succ
def digC(c:Nat):Bool:=decide (48<=c)&&decide (c<=57)
def signs:List Nat:=[45,43,42,47,60,62,61,63,33]
def symC(c:Nat):Bool:=(decide (97<=c)&&decide (c<=122))||digC c||signs.contains c
def aW(t:ByteArray)(i:Nat):Nat:=t[i]!.toNat
def symB(t:ByteArray):Bool:=decide (1<=t.size)&&decide (t.size<=20)&&!digC (aW t 0)&&!(aW t 0==45&&decide (1<t.size)&&digC (aW t 1))&&(List.range t.size).all fun i=>symC (aW t i)
theorem EI(s:ByteArray)(i:Nat)(h:i<s.size)(Z:aC):bQ (.string s) (.int .i64 (.ofNat i)) Z=.val (.int .u8 (aW s i:Nat)) Z:=by
 have e:s[i]? = some s[i]!:=by rw[getElem?_pos s i h,getElem!_pos s i h]
 unfold bQ natOf
 simp only[e]
 rfl
theorem OV(s:ByteArray)(h:0<s.size)(Z:aC):bQ (.string s) (.int .i64 0) Z=.val (.int .u8 (aW s 0:Nat)) Z:=EI s 0 h Z
theorem OW(s:ByteArray)(h:1<s.size)(Z:aC):bQ (.string s) (.int .i64 1) Z=.val (.int .u8 (aW s 1:Nat)) Z:=EI s 1 h Z
theorem D3(x y:Operand)(a b:Int)(Z:aC):i_leq Tryz.prog 5 x y (.int .u8 a) (.int .u8 b) Z=.val (.bool (decide (a<=b))) Z:=by kernel_rfl
theorem XV(x y:Operand)(a b:Int)(Z:aC):i_lss Tryz.prog 5 x y (.int .u8 a) (.int .u8 b) Z=.val (.bool (decide (a<b))) Z:=by kernel_rfl
theorem XJ(x y:Operand)(a b:Int)(Z:aC):i_gtr Tryz.prog 5 x y (.int .u8 a) (.int .u8 b) Z=.val (.bool (decide (a>b))) Z:=by kernel_rfl
theorem D5(x y:Operand)(a b:Int)(Z:aC):bJ Tryz.prog 5 x y (.int .u8 a) (.int .u8 b) Z=.val (.bool (a==b)) Z:=by kernel_rfl
theorem Mz(n c:Nat)(Z:aC):(env (n+1)).call 171 [.int .u8 (c:Int)] none Z=.ret (.bool (digC c)) none Z:=by
 rw[Ai _ 171 _ _ rfl,AfS _ _ _ _ (by simp),Ah]
 unfold AaF digC
 by_cases h:48<=c
 .have d0:decide ((48:Int)<=(c:Int))=true:=by simp;omega
  have d1:decide ((c:Int)<=57)=decide (c<=57):=by simp;omega
  have d2:decide (48<=c)=true:=by simp;omega
  simp -implicitDefEqProofs only[go_sem,PH,Mh,PI,Mi,D3,d0,d1,d2,Bool.true_and]
 .have d0:decide ((48:Int)<=(c:Int))=false:=by simp;omega
  have d2:decide (48<=c)=false:=by simp;omega
  simp -implicitDefEqProofs only[go_sem,PH,Mh,PI,Mi,D3,d0,d2,Bool.false_and]
theorem ArB(n i c:Nat)(t:ByteArray)(f g:Nat->Value)(Z:aC)(hi:i<t.size)(hsz:i<1000000)(hc:aW t i=c)(f0:f 0=.string t)(f3:f 3=.int .i64 (.ofNat i)):
  ∃f' g',f' 0=.string t/\((symC c=true/\Ge (env (n+1)) none 146 (Sl 5 63 f g []) none Z=.done .normal (Sl 5 63 f' g' []) none Z/\f' 3=.int .i64 (.ofNat (i+1)))\/
   (symC c=false/\Ge (env (n+1)) none 146 (Sl 5 63 f g []) none Z=.done .ret (Sl 5 63 f' g' []) none Z/\f' 2=.bool false)):=by
 have d0:decide (Int.ofNat i<Int.ofNat t.size)=true:=by simp;omega
 have hb:=EI t i hi Z
 rw[hc] at hb
 have a1:=FT i (by omega)
 have hdg:=Mz n c Z
 unfold Ge
 by_cases hl:97<=c/\c<=122
 .have l1:decide ((97:Int)<=(c:Int))=true:=by simp;omega
  have l2:decide ((c:Int)<=122)=true:=by simp;omega
  simp -implicitDefEqProofs only[go_sem,Cf,Di,Cz,Dq,CA,Dr,CB,Dt,CC,Du,CD,Dv,BK,CF,BL,CG,BM,CH,BN,CI,BO,CJ,BP,CK,BQ,CL,BR,CM,BS,CN,f0,f3,d0,hb,a1,l1,l2,Ag,D3]
  refine⟨_,_,?_,.inl ⟨by unfold symC;simp;omega,rfl,?_⟩⟩
  .simp -implicitDefEqProofs only[go_sem,reduceCtorEq,f0]
  .simp -implicitDefEqProofs only[go_sem,reduceCtorEq]
 .have hnl:(decide (97<=c)&&decide (c<=122))=false:=by simp;omega
  cases hd:digC c with
  | true=>
   rw[hd] at hdg
   by_cases h97:97<=c
   .have l1:decide ((97:Int)<=(c:Int))=true:=by simp;omega
    have l2:decide ((c:Int)<=122)=false:=by simp;omega
    simp -implicitDefEqProofs only[go_sem,Cf,Di,Cz,Dq,CA,Dr,CB,Dt,CC,Du,CD,Dv,BK,CF,BL,CG,BM,CH,BN,CI,BO,CJ,BP,CK,BQ,CL,BR,CM,BS,CN,f0,f3,d0,hb,a1,l1,l2,hdg,Ag,D3]
    refine⟨_,_,?_,.inl ⟨by unfold symC;rw[hd];simp,rfl,?_⟩⟩
    .simp -implicitDefEqProofs only[go_sem,reduceCtorEq,f0]
    .simp -implicitDefEqProofs only[go_sem,reduceCtorEq]
   .have l1:decide ((97:Int)<=(c:Int))=false:=by simp;omega
    simp -implicitDefEqProofs only[go_sem,Cf,Di,Cz,Dq,CA,Dr,CB,Dt,CC,Du,CD,Dv,BK,CF,BL,CG,BM,CH,BN,CI,BO,CJ,BP,CK,BQ,CL,BR,CM,BS,CN,f0,f3,d0,hb,a1,l1,hdg,Ag,D3]
    refine⟨_,_,?_,.inl ⟨by unfold symC;rw[hd];simp,rfl,?_⟩⟩
    .simp -implicitDefEqProofs only[go_sem,reduceCtorEq,f0]
    .simp -implicitDefEqProofs only[go_sem,reduceCtorEq]
  | false=>
   rw[hd] at hdg
   have hsg:symC c=signs.contains c:=by unfold symC;rw[hnl,hd];rfl
   rw[hsg]
   by_cases h0:c=45
   .have e0:((c:Int)==45)=true:=by simp;omega
    by_cases h97:97<=c
    .have l1:decide ((97:Int)<=(c:Int))=true:=by simp;omega
     have l2:decide ((c:Int)<=122)=false:=by simp;omega
     simp -implicitDefEqProofs only[go_sem,Cf,Di,Cz,Dq,CA,Dr,CB,Dt,CC,Du,CD,Dv,BK,CF,BL,CG,BM,CH,BN,CI,BO,CJ,BP,CK,BQ,CL,BR,CM,BS,CN,f0,f3,d0,hb,a1,l1,l2,hdg,e0,Ag,D5,D3]
     refine⟨_,_,?_,.inl ⟨?_,rfl,?_⟩⟩
     .simp -implicitDefEqProofs only[go_sem,reduceCtorEq,f0]
     .simp[signs];omega
     .simp -implicitDefEqProofs only[go_sem,reduceCtorEq]
    .have l1:decide ((97:Int)<=(c:Int))=false:=by simp;omega
     simp -implicitDefEqProofs only[go_sem,Cf,Di,Cz,Dq,CA,Dr,CB,Dt,CC,Du,CD,Dv,BK,CF,BL,CG,BM,CH,BN,CI,BO,CJ,BP,CK,BQ,CL,BR,CM,BS,CN,f0,f3,d0,hb,a1,l1,hdg,e0,Ag,D5,D3]
     refine⟨_,_,?_,.inl ⟨?_,rfl,?_⟩⟩
     .simp -implicitDefEqProofs only[go_sem,reduceCtorEq,f0]
     .simp[signs];omega
     .simp -implicitDefEqProofs only[go_sem,reduceCtorEq]
   .have e0:((c:Int)==45)=false:=by simp;omega
    by_cases h1:c=43
    .have e1:((c:Int)==43)=true:=by simp;omega
     by_cases h97:97<=c
     .have l1:decide ((97:Int)<=(c:Int))=true:=by simp;omega
      have l2:decide ((c:Int)<=122)=false:=by simp;omega
      simp -implicitDefEqProofs only[go_sem,Cf,Di,Cz,Dq,CA,Dr,CB,Dt,CC,Du,CD,Dv,BK,CF,BL,CG,BM,CH,BN,CI,BO,CJ,BP,CK,BQ,CL,BR,CM,BS,CN,f0,f3,d0,hb,a1,l1,l2,hdg,e0,e1,Ag,D5,D3]
      refine⟨_,_,?_,.inl ⟨?_,rfl,?_⟩⟩
      .simp -implicitDefEqProofs only[go_sem,reduceCtorEq,f0]
      .simp[signs];omega
      .simp -implicitDefEqProofs only[go_sem,reduceCtorEq]
     .have l1:decide ((97:Int)<=(c:Int))=false:=by simp;omega
      simp -implicitDefEqProofs only[go_sem,Cf,Di,Cz,Dq,CA,Dr,CB,Dt,CC,Du,CD,Dv,BK,CF,BL,CG,BM,CH,BN,CI,BO,CJ,BP,CK,BQ,CL,BR,CM,BS,CN,f0,f3,d0,hb,a1,l1,hdg,e0,e1,Ag,D5,D3]
      refine⟨_,_,?_,.inl ⟨?_,rfl,?_⟩⟩
      .simp -implicitDefEqProofs only[go_sem,reduceCtorEq,f0]
      .simp[signs];omega
      .simp -implicitDefEqProofs only[go_sem,reduceCtorEq]
    .have e1:((c:Int)==43)=false:=by simp;omega
     by_cases h2:c=42
     .have e2:((c:Int)==42)=true:=by simp;omega
      by_cases h97:97<=c
      .have l1:decide ((97:Int)<=(c:Int))=true:=by simp;omega
       have l2:decide ((c:Int)<=122)=false:=by simp;omega
       simp -implicitDefEqProofs only[go_sem,Cf,Di,Cz,Dq,CA,Dr,CB,Dt,CC,Du,CD,Dv,BK,CF,BL,CG,BM,CH,BN,CI,BO,CJ,BP,CK,BQ,CL,BR,CM,BS,CN,f0,f3,d0,hb,a1,l1,l2,hdg,e0,e1,e2,Ag,D5,D3]
       refine⟨_,_,?_,.inl ⟨?_,rfl,?_⟩⟩
       .simp -implicitDefEqProofs only[go_sem,reduceCtorEq,f0]
       .simp[signs];omega
       .simp -implicitDefEqProofs only[go_sem,reduceCtorEq]
      .have l1:decide ((97:Int)<=(c:Int))=false:=by simp;omega
       simp -implicitDefEqProofs only[go_sem,Cf,Di,Cz,Dq,CA,Dr,CB,Dt,CC,Du,CD,Dv,BK,CF,BL,CG,BM,CH,BN,CI,BO,CJ,BP,CK,BQ,CL,BR,CM,BS,CN,f0,f3,d0,hb,a1,l1,hdg,e0,e1,e2,Ag,D5,D3]
       refine⟨_,_,?_,.inl ⟨?_,rfl,?_⟩⟩
       .simp -implicitDefEqProofs only[go_sem,reduceCtorEq,f0]
       .simp[signs];omega
       .simp -implicitDefEqProofs only[go_sem,reduceCtorEq]
     .have e2:((c:Int)==42)=false:=by simp;omega
      by_cases h3:c=47
      .have e3:((c:Int)==47)=true:=by simp;omega
       by_cases h97:97<=c
       .have l1:decide ((97:Int)<=(c:Int))=true:=by simp;omega
        have l2:decide ((c:Int)<=122)=false:=by simp;omega
        simp -implicitDefEqProofs only[go_sem,Cf,Di,Cz,Dq,CA,Dr,CB,Dt,CC,Du,CD,Dv,BK,CF,BL,CG,BM,CH,BN,CI,BO,CJ,BP,CK,BQ,CL,BR,CM,BS,CN,f0,f3,d0,hb,a1,l1,l2,hdg,e0,e1,e2,e3,Ag,D5,D3]
        refine⟨_,_,?_,.inl ⟨?_,rfl,?_⟩⟩
        .simp -implicitDefEqProofs only[go_sem,reduceCtorEq,f0]
        .simp[signs];omega
        .simp -implicitDefEqProofs only[go_sem,reduceCtorEq]
       .have l1:decide ((97:Int)<=(c:Int))=false:=by simp;omega
        simp -implicitDefEqProofs only[go_sem,Cf,Di,Cz,Dq,CA,Dr,CB,Dt,CC,Du,CD,Dv,BK,CF,BL,CG,BM,CH,BN,CI,BO,CJ,BP,CK,BQ,CL,BR,CM,BS,CN,f0,f3,d0,hb,a1,l1,hdg,e0,e1,e2,e3,Ag,D5,D3]
        refine⟨_,_,?_,.inl ⟨?_,rfl,?_⟩⟩
        .simp -implicitDefEqProofs only[go_sem,reduceCtorEq,f0]
        .simp[signs];omega
        .simp -implicitDefEqProofs only[go_sem,reduceCtorEq]
      .have e3:((c:Int)==47)=false:=by simp;omega
       by_cases h4:c=60
       .have e4:((c:Int)==60)=true:=by simp;omega
        by_cases h97:97<=c
        .have l1:decide ((97:Int)<=(c:Int))=true:=by simp;omega
         have l2:decide ((c:Int)<=122)=false:=by simp;omega
         simp -implicitDefEqProofs only[go_sem,Cf,Di,Cz,Dq,CA,Dr,CB,Dt,CC,Du,CD,Dv,BK,CF,BL,CG,BM,CH,BN,CI,BO,CJ,BP,CK,BQ,CL,BR,CM,BS,CN,f0,f3,d0,hb,a1,l1,l2,hdg,e0,e1,e2,e3,e4,Ag,D5,D3]
         refine⟨_,_,?_,.inl ⟨?_,rfl,?_⟩⟩
         .simp -implicitDefEqProofs only[go_sem,reduceCtorEq,f0]
         .simp[signs];omega
         .simp -implicitDefEqProofs only[go_sem,reduceCtorEq]
        .have l1:decide ((97:Int)<=(c:Int))=false:=by simp;omega
         simp -implicitDefEqProofs only[go_sem,Cf,Di,Cz,Dq,CA,Dr,CB,Dt,CC,Du,CD,Dv,BK,CF,BL,CG,BM,CH,BN,CI,BO,CJ,BP,CK,BQ,CL,BR,CM,BS,CN,f0,f3,d0,hb,a1,l1,hdg,e0,e1,e2,e3,e4,Ag,D5,D3]
         refine⟨_,_,?_,.inl ⟨?_,rfl,?_⟩⟩
         .simp -implicitDefEqProofs only[go_sem,reduceCtorEq,f0]
         .simp[signs];omega
         .simp -implicitDefEqProofs only[go_sem,reduceCtorEq]
       .have e4:((c:Int)==60)=false:=by simp;omega
        by_cases h5:c=62
        .have e5:((c:Int)==62)=true:=by simp;omega
         by_cases h97:97<=c
         .have l1:decide ((97:Int)<=(c:Int))=true:=by simp;omega
          have l2:decide ((c:Int)<=122)=false:=by simp;omega
          simp -implicitDefEqProofs only[go_sem,Cf,Di,Cz,Dq,CA,Dr,CB,Dt,CC,Du,CD,Dv,BK,CF,BL,CG,BM,CH,BN,CI,BO,CJ,BP,CK,BQ,CL,BR,CM,BS,CN,f0,f3,d0,hb,a1,l1,l2,hdg,e0,e1,e2,e3,e4,e5,Ag,D5,D3]
          refine⟨_,_,?_,.inl ⟨?_,rfl,?_⟩⟩
          .simp -implicitDefEqProofs only[go_sem,reduceCtorEq,f0]
          .simp[signs];omega
          .simp -implicitDefEqProofs only[go_sem,reduceCtorEq]
         .have l1:decide ((97:Int)<=(c:Int))=false:=by simp;omega
          simp -implicitDefEqProofs only[go_sem,Cf,Di,Cz,Dq,CA,Dr,CB,Dt,CC,Du,CD,Dv,BK,CF,BL,CG,BM,CH,BN,CI,BO,CJ,BP,CK,BQ,CL,BR,CM,BS,CN,f0,f3,d0,hb,a1,l1,hdg,e0,e1,e2,e3,e4,e5,Ag,D5,D3]
          refine⟨_,_,?_,.inl ⟨?_,rfl,?_⟩⟩
          .simp -implicitDefEqProofs only[go_sem,reduceCtorEq,f0]
          .simp[signs];omega
          .simp -implicitDefEqProofs only[go_sem,reduceCtorEq]
        .have e5:((c:Int)==62)=false:=by simp;omega
         by_cases h6:c=61
         .have e6:((c:Int)==61)=true:=by simp;omega
          by_cases h97:97<=c
          .have l1:decide ((97:Int)<=(c:Int))=true:=by simp;omega
           have l2:decide ((c:Int)<=122)=false:=by simp;omega
           simp -implicitDefEqProofs only[go_sem,Cf,Di,Cz,Dq,CA,Dr,CB,Dt,CC,Du,CD,Dv,BK,CF,BL,CG,BM,CH,BN,CI,BO,CJ,BP,CK,BQ,CL,BR,CM,BS,CN,f0,f3,d0,hb,a1,l1,l2,hdg,e0,e1,e2,e3,e4,e5,e6,Ag,D5,D3]
           refine⟨_,_,?_,.inl ⟨?_,rfl,?_⟩⟩
           .simp -implicitDefEqProofs only[go_sem,reduceCtorEq,f0]
           .simp[signs];omega
           .simp -implicitDefEqProofs only[go_sem,reduceCtorEq]
          .have l1:decide ((97:Int)<=(c:Int))=false:=by simp;omega
           simp -implicitDefEqProofs only[go_sem,Cf,Di,Cz,Dq,CA,Dr,CB,Dt,CC,Du,CD,Dv,BK,CF,BL,CG,BM,CH,BN,CI,BO,CJ,BP,CK,BQ,CL,BR,CM,BS,CN,f0,f3,d0,hb,a1,l1,hdg,e0,e1,e2,e3,e4,e5,e6,Ag,D5,D3]
           refine⟨_,_,?_,.inl ⟨?_,rfl,?_⟩⟩
           .simp -implicitDefEqProofs only[go_sem,reduceCtorEq,f0]
           .simp[signs];omega
           .simp -implicitDefEqProofs only[go_sem,reduceCtorEq]
         .have e6:((c:Int)==61)=false:=by simp;omega
          by_cases h7:c=63
          .have e7:((c:Int)==63)=true:=by simp;omega
           by_cases h97:97<=c
           .have l1:decide ((97:Int)<=(c:Int))=true:=by simp;omega
            have l2:decide ((c:Int)<=122)=false:=by simp;omega
            simp -implicitDefEqProofs only[go_sem,Cf,Di,Cz,Dq,CA,Dr,CB,Dt,CC,Du,CD,Dv,BK,CF,BL,CG,BM,CH,BN,CI,BO,CJ,BP,CK,BQ,CL,BR,CM,BS,CN,f0,f3,d0,hb,a1,l1,l2,hdg,e0,e1,e2,e3,e4,e5,e6,e7,Ag,D5,D3]
            refine⟨_,_,?_,.inl ⟨?_,rfl,?_⟩⟩
            .simp -implicitDefEqProofs only[go_sem,reduceCtorEq,f0]
            .simp[signs];omega
            .simp -implicitDefEqProofs only[go_sem,reduceCtorEq]
           .have l1:decide ((97:Int)<=(c:Int))=false:=by simp;omega
            simp -implicitDefEqProofs only[go_sem,Cf,Di,Cz,Dq,CA,Dr,CB,Dt,CC,Du,CD,Dv,BK,CF,BL,CG,BM,CH,BN,CI,BO,CJ,BP,CK,BQ,CL,BR,CM,BS,CN,f0,f3,d0,hb,a1,l1,hdg,e0,e1,e2,e3,e4,e5,e6,e7,Ag,D5,D3]
            refine⟨_,_,?_,.inl ⟨?_,rfl,?_⟩⟩
            .simp -implicitDefEqProofs only[go_sem,reduceCtorEq,f0]
            .simp[signs];omega
            .simp -implicitDefEqProofs only[go_sem,reduceCtorEq]
          .have e7:((c:Int)==63)=false:=by simp;omega
           by_cases h8:c=33
           .have e8:((c:Int)==33)=true:=by simp;omega
            by_cases h97:97<=c
            .have l1:decide ((97:Int)<=(c:Int))=true:=by simp;omega
             have l2:decide ((c:Int)<=122)=false:=by simp;omega
             simp -implicitDefEqProofs only[go_sem,Cf,Di,Cz,Dq,CA,Dr,CB,Dt,CC,Du,CD,Dv,BK,CF,BL,CG,BM,CH,BN,CI,BO,CJ,BP,CK,BQ,CL,BR,CM,BS,CN,f0,f3,d0,hb,a1,l1,l2,hdg,e0,e1,e2,e3,e4,e5,e6,e7,e8,Ag,D5,D3]
             refine⟨_,_,?_,.inl ⟨?_,rfl,?_⟩⟩
             .simp -implicitDefEqProofs only[go_sem,reduceCtorEq,f0]
             .simp[signs];omega
             .simp -implicitDefEqProofs only[go_sem,reduceCtorEq]
            .have l1:decide ((97:Int)<=(c:Int))=false:=by simp;omega
             simp -implicitDefEqProofs only[go_sem,Cf,Di,Cz,Dq,CA,Dr,CB,Dt,CC,Du,CD,Dv,BK,CF,BL,CG,BM,CH,BN,CI,BO,CJ,BP,CK,BQ,CL,BR,CM,BS,CN,f0,f3,d0,hb,a1,l1,hdg,e0,e1,e2,e3,e4,e5,e6,e7,e8,Ag,D5,D3]
             refine⟨_,_,?_,.inl ⟨?_,rfl,?_⟩⟩
             .simp -implicitDefEqProofs only[go_sem,reduceCtorEq,f0]
             .simp[signs];omega
             .simp -implicitDefEqProofs only[go_sem,reduceCtorEq]
           .have e8:((c:Int)==33)=false:=by simp;omega
            by_cases h97:97<=c
            .have l1:decide ((97:Int)<=(c:Int))=true:=by simp;omega
             have l2:decide ((c:Int)<=122)=false:=by simp;omega
             simp -implicitDefEqProofs only[go_sem,Cf,Di,Cz,Dq,CA,Dr,CB,Dt,CC,Du,CD,Dv,BK,CF,BL,CG,BM,CH,BN,CI,BO,CJ,BP,CK,BQ,CL,BR,CM,BS,CN,f0,f3,d0,hb,a1,l1,l2,hdg,e0,e1,e2,e3,e4,e5,e6,e7,e8,Ag,D5,D3]
             refine⟨_,_,?_,.inr ⟨?_,rfl,?_⟩⟩
             .simp -implicitDefEqProofs only[go_sem,reduceCtorEq,f0]
             .simp[signs];omega
             .simp -implicitDefEqProofs only[go_sem,reduceCtorEq]
            .have l1:decide ((97:Int)<=(c:Int))=false:=by simp;omega
             simp -implicitDefEqProofs only[go_sem,Cf,Di,Cz,Dq,CA,Dr,CB,Dt,CC,Du,CD,Dv,BK,CF,BL,CG,BM,CH,BN,CI,BO,CJ,BP,CK,BQ,CL,BR,CM,BS,CN,f0,f3,d0,hb,a1,l1,hdg,e0,e1,e2,e3,e4,e5,e6,e7,e8,Ag,D5,D3]
             refine⟨_,_,?_,.inr ⟨?_,rfl,?_⟩⟩
             .simp -implicitDefEqProofs only[go_sem,reduceCtorEq,f0]
             .simp[signs];omega
             .simp -implicitDefEqProofs only[go_sem,reduceCtorEq]
end Go.Proofs.YtknnbjmcfibpgaaGreatDoor
end
