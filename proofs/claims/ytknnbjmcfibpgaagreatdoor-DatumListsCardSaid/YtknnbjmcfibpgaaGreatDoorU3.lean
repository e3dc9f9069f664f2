import Derived.Test.YtknnbjmcfibpgaaGreatDoorU2
import Derived.KernelRfl
import Derived.Attr
import Derived.Test.YtknnbjmcfibpgaaGreatDoorProg
set_option linter.unusedSimpArgs false
set_option linter.unusedVariables false
noncomputable section
namespace Go.Eng
open Go
def aY.ok(a:aY):Prop:=a.nl<=a.loc.length
theorem DV{a:aY}{d t:Nat}{v:Value}(h:a.ok)(hd:d<a.nt):(a.put (some d) v).get t=if t=d then v else a.get t:=by
 have e:a.put (some d) v=a.putT d v:=by
  show (Bool.rec (motive:=fun _=>aY) a (a.putT d v) (Nat.blt d a.nt))=_
  have:Nat.blt d a.nt=true:=by simpa [Nat.blt_eq] using hd
  rw[this]
 rw[e,I9]
 unfold aY.ok at h
 by_cases ht:t=d
 .rw[if_pos ht,if_pos ht,if_pos (by omega)]
 .rw[if_neg ht,if_neg ht]
theorem C3(a:aY)(v:Value):a.put none v=a:=rfl
theorem Ea(a:aY)(dst:Option Tmp)(v:Value):(a.put dst v).nt=a.nt:=(Mv a dst v).1
theorem BN(a:aY)(dst:Option Tmp)(v:Value):(a.put dst v).defers=a.defers:=(Mv a dst v).2
theorem Eb(a:aY)(dst:Option Tmp)(v:Value):(a.put dst v).ok=a.ok:=by
 cases dst with
 | none=>rfl
 | some d=>
  show aY.ok (Bool.rec (motive:=fun _=>aY) a (a.putT d v) (Nat.blt d a.nt))=_
  cases Nat.blt d a.nt with
  | false=>rfl
  | true=>
   show aY.ok (a.putT d v)=_
   unfold aY.putT
   cases Nat.ble a.nl d with
   | true=>rfl
   | false=>
    show (a.nl<=(setNth v a.loc d).length)=(a.nl<=a.loc.length)
    rw[Gs,List.length_set]
theorem HB(nl nt:Nat)(args:List Value)(t:Nat):(⟨bB undef nl args,fun _=>undef,nl,nt,[]⟩:aY).get t=if t<nl then args[t]?.getD undef else undef:=by
 show Bool.rec (motive:=fun _=>Value) (Option.rec (motive:=fun _=>Value) undef (fun v=>v) (nth (bB undef nl args) t)) undef (Nat.ble nl t)=_
 rw[Et,O2]
 by_cases h:t<nl
 .have:Nat.ble nl t=false:=by rw[<-Bool.not_eq_true,Nat.ble_eq];omega
  rw[this,if_pos h,if_pos h]
 .have:Nat.ble nl t=true:=by rw[Nat.ble_eq];omega
  rw[this,if_neg h,if_neg h]
theorem Ac8{α:Type}(d:α)(n:Nat)(l:List α):(bB d n l).length=n:=by
 induction n generalizing l with
 | zero=>rfl
 | succ n ih=>cases l with
  | nil=>exact congrArg (· + 1) (ih [])
  | cons x t=>exact congrArg (· + 1) (ih t)
theorem U3(nl nt:Nat)(args:List Value)(ds:List Deferred):(⟨bB undef nl args,fun _=>undef,nl,nt,ds⟩:aY).ok:=by
 show nl<=_
 rw[Ac8]
 exact Nat.le_refl _
theorem Ae3(t:Tmp)(a:aY):(cget (.tmp t)).un a=a.get t:=rfl
theorem Ac(Z:aC)(o:FObj)(fz:Option Nat):(Z.push o fz).next=Z.next+1:=rfl
theorem Bk(Z:aC)(o:FObj)(fz:Option Nat):(Z.push o fz).clock=Z.clock+1:=rfl
theorem Aw(Z:aC)(b:Nat)(o:FObj)(fz:Option Nat):(Z.put b o fz).next=Z.next:=rfl
theorem BA(Z:aC)(b:Nat)(o:FObj)(fz:Option Nat):(Z.put b o fz).clock=Z.clock+1:=rfl
theorem Am(Z:aC)(c:Nat)(o:FObj)(fz:Option Nat)(b:Nat):(Z.put c o fz).heap.get b=if b=c then some ⟨o,false,fz,Z.clock⟩ else Z.heap.get b:=Tr.get_set _ _ _ _
section
variable (P:Program) (H:Hints) (E:Env) (ro:Option Nat) (fn:FuncId) (a:aY) (u:Option FrameMode) (Z:aC)
theorem Aa{r r':KRes}(k:aZ)(h:r=r'):andThen r k=andThen r' k:=by rw[h]
theorem Az(k:aZ):andThen (.done .normal a u Z) k=k a u Z:=rfl
theorem A0(k:aZ):andThen (.done .ret a u Z) k=.done .ret a u Z:=rfl
theorem AR(id:Nat)(k:aZ):andThen (.done (.exit id) a u Z) k=.done (.exit id) a u Z:=rfl
theorem Ay(ch:List PanicEntry)(k:aZ):andThen (.done (.panic ch) a u Z) k=.done (.panic ch) a u Z:=rfl
theorem CW:aD E ro [] a u Z=.done .normal a u Z:=rfl
theorem AcQ(o:COp)(l:List COp):aD E ro (o::l) a u Z=(match o.guard a with|none=>.no|some false=>aD E ro l (a.put o.dst skipV) u Z|some true=>afterOp E ro o.dst a u (aD E ro l) (o.op a Z)):=by
 show Option.rec (motive:=fun _=>KRes) .no _ (o.guard a)=_
 cases o.guard a with
 | none=>rfl
 | some g=>cases g<;>rfl
variable (dst:Option Tmp) (k:aZ)
theorem Ce(v:Value)(s:aC):afterOp E ro dst a u k (.val v s)=k (a.put dst v) u s:=rfl
theorem BB(s:aC):afterOp E ro dst a u k (.skip s)=k (a.put dst undef) u s:=rfl
theorem Bh(f:FuncId)(args:List Value)(s:aC):afterOp E ro dst a u k (.enter f args s)=afterCall a dst u k (E.call f args none s):=rfl
theorem Cd(v:Value)(u':Option FrameMode)(s:aC):afterCall a dst u k (.ret v u' s)=k (a.put dst v) u s:=rfl
end
end Go.Eng
namespace Go.Eng
open Go
def nosums:Sums:=fun _ _ _=>none
theorem AcG(P:Program)(S:Sums)(H:Hints)(n:Nat)(f:FuncId)(args:List Value)(Z:aC)(h:S f args Z=none):
  (fenv P S H (n+1)).call f args none Z=bD P H (fenv P S H n) f args none Z:=by
 show fcallS P S H (fenv P S H n) f args none Z=_
 unfold fcallS
 rw[h]
theorem W8(P:Program)(S:Sums)(H:Hints)(n l:Nat)(args:List Value)(Z:aC):(fenv P S H (n+1)).round l args Z=fround P H (fenv P S H n) l args Z:=rfl
theorem W7(P:Program)(S:Sums)(H:Hints)(n:Nat)(f:FuncId)(args:List Value)(md:FrameMode)(Z:aC):(fenv P S H (n+1)).call f args (some md) Z=bD P H (fenv P S H n) f args (some md) Z:=rfl
theorem AuB{P:Program}{H:Hints}{f:FuncId}{fn:Func}{body:Code}(hf:P.funcs[f]? = some fn)(hb:fn.body=some body):
  (cfn P H f).un=some ⟨code P H body,slotsOf H f,fn.ntmps,fn.results.toList,fn.params.size+fn.nfree⟩:=by
 unfold cfn
 rw[hf]
 simp only[hb]
theorem Ap{P:Program}{H:Hints}{f:FuncId}{fn:Func}{body:Code}(hf:P.funcs[f]? = some fn)(hb:fn.body=some body)(E:Env)(args:List Value)(u:Option FrameMode)(Z:aC)(nl nt:Nat)(hl:slotsOf H f=nl)(ht:fn.ntmps=nt)(hn:args.length<=nl/\nl<=nt):
  bD P H E f args u Z=(match code P H body E none f ⟨bB undef nl args,fun _=>undef,nl,nt,[]⟩ u Z with
  | .done .normal a u Z=>fleave P E fn.results.toList a u a.defers .returning Z
  | .done .ret a u Z=>fleave P E fn.results.toList a u a.defers .returning Z
  | .done (.panic ch) a u Z=>fleave P E fn.results.toList a u a.defers (.panicking ch) Z
  | _=>.no):=by
 unfold bD
 rw[AuB hf hb]
 simp only[hl,ht]
 have h1:Nat.ble (len args) nl=true:=by rw[Nat.ble_eq,Es];exact hn.1
 have h2:Nat.ble nl nt=true:=by rw[Nat.ble_eq];exact hn.2
 rw[h1,h2]
 rfl
section
variable (P:Program) (H:Hints) (E:Env) (ro:Option Nat) (fn:FuncId) (a:aY) (u:Option FrameMode) (Z:aC)
theorem AB(rs:List ResultVar):fleave P E rs a u [] .returning Z=(match fresults P rs a Z with
    | some [v]=>.ret v u Z
    | some vs=>.ret (.tuple vs.toArray) u Z
    | none=>.no):=rfl
theorem AV(rs:List ResultVar)(ch:List PanicEntry):fleave P E rs a u [] (.panicking ch) Z=.pan ch u Z:=rfl
variable (d:Nat)
end
end Go.Eng
namespace Go.Eng
open Go
def flenD(d:Option TypeDesc)(x:Value)(Z:aC):ORes:=
 match d with
 | some .string=>flenS x Z
 | some (.slice _)=>flenL x Z
 | some (.map _ _)=>flenM x Z
 | _=>.no
section
variable (P:Program) (H:Hints) (E:Env) (ro:Option Nat) (fn:FuncId) (a:aY) (u:Option FrameMode) (Z:aC)
variable (x y z:Operand)
end
theorem AoR(e:TypeId)(v:Value)(Z:aC)(h:aU v=true):fbox e v Z=.val (.pointer (some ⟨Z.next,0,none⟩)) (Z.push (.cells (aI v) e) none):=by
 unfold fbox;rw[h];rfl
theorem Ch(off b o:Nat)(Z:aC):aH off (.pointer (some ⟨b,o,none⟩)) Z=.val (.pointer (some ⟨b,o+off,none⟩)) Z:=rfl
theorem CX(b:Bool)(x y:Value)(Z:aC):bM (.bool b) x y Z=.val (bif b then x else y) Z:=by cases b<;>rfl
end Go.Eng
namespace Go.Eng
open Go
theorem Ba(c:Array Value):aU (.agg c)=true:=of_decide_eq_true (by simp[aU])
theorem Bb(k:IntKind)(n:Int):aU (.int k n)=true:=of_decide_eq_true (by simp[aU])
theorem AJ(s:ByteArray):aU (.string s)=true:=of_decide_eq_true (by simp[aU])
theorem AY(b:Bool):aU (.bool b)=true:=of_decide_eq_true (by simp[aU])
theorem AG(p:Option Addr)(l c:Nat):aU (.slice p l c)=true:=of_decide_eq_true (by simp[aU])
theorem AE(p:Option Addr):aU (.pointer p)=true:=of_decide_eq_true (by simp[aU])
theorem Ek(f:Fn)(a b:Array Value):aU (.func f a b)=true:=of_decide_eq_true (by simp[aU])
theorem Jg(r:Option Nat):aU (.map r)=true:=of_decide_eq_true (by simp[aU])
theorem Bf(k:IntKind)(n:Int):oneCell (.int k n)=true:=of_decide_eq_true (by simp[oneCell])
theorem AP(s:ByteArray):oneCell (.string s)=true:=of_decide_eq_true (by simp[oneCell])
theorem Bc(b:Bool):oneCell (.bool b)=true:=of_decide_eq_true (by simp[oneCell])
theorem AC(p:Option Addr)(l c:Nat):oneCell (.slice p l c)=true:=of_decide_eq_true (by simp[oneCell])
theorem AK(p:Option Addr):oneCell (.pointer p)=true:=of_decide_eq_true (by simp[oneCell])
theorem Fg(f:Fn)(a b:Array Value):oneCell (.func f a b)=true:=of_decide_eq_true (by simp[oneCell])
theorem KG(r:Option Nat):oneCell (.map r)=true:=of_decide_eq_true (by simp[oneCell])
theorem Bd(l:List Value):aI (.agg l.toArray)=l:=rfl
theorem Be(k:IntKind)(n:Int):aI (.int k n)=[.int k n]:=rfl
theorem AL(s:ByteArray):aI (.string s)=[.string s]:=rfl
theorem AZ(b:Bool):aI (.bool b)=[.bool b]:=rfl
theorem AQ(p:Option Addr)(l c:Nat):aI (.slice p l c)=[.slice p l c]:=rfl
theorem AF(p:Option Addr):aI (.pointer p)=[.pointer p]:=rfl
theorem E7(f:Fn)(a b:Array Value):aI (.func f a b)=[.func f a b]:=rfl
theorem JN(r:Option Nat):aI (.map r)=[.map r]:=rfl
def FObj.cells? : FObj->Option (List Value)
 | .cells c _=>some c
 | _=>none
theorem cells?_cells(c:List Value)(t:TypeId):(FObj.cells c t).cells? = some c:=rfl
theorem AO(Z:aC)(b:Nat):Z.cells b=(Z.heap.get b).bind fun e=>e.obj.cells?:=by
 show Option.rec (motive:=fun _=>Option (List Value)) none _ (Z.heap.get b)=_
 cases Z.heap.get b with
 | none=>rfl
 | some e=>
  obtain⟨o,ro,fz,ver⟩:=e
  cases o<;>rfl
theorem Ah(Z:aC)(o:FObj)(fz:Option Nat)(b:Nat):(Z.push o fz).cells b=if b=Z.next then o.cells? else Z.cells b:=by
 rw[AO,Ai,AO]
 by_cases h:b=Z.next
 .rw[if_pos h,if_pos h];rfl
 .rw[if_neg h,if_neg h]
theorem Ak(Z:aC)(c:Nat)(o:FObj)(fz:Option Nat)(b:Nat):(Z.put c o fz).cells b=if b=c then o.cells? else Z.cells b:=by
 rw[AO,Am,AO]
 by_cases h:b=c
 .rw[if_pos h,if_pos h];rfl
 .rw[if_neg h,if_neg h]
theorem D5(b off:Nat)(Z:aC):aG none (.pointer (some ⟨b,off,none⟩)) Z=(match Z.cells b with|some c=>(match c[off]? with|some v=>.val v Z|none=>.no)|none=>.no):=by
 unfold aG
 cases h:Z.cells b with
 | none=>simp only[h]
 | some c=>simp only[h,Et];cases c[off]?<;>rfl
theorem D6(n b off:Nat)(Z:aC):aG (some n) (.pointer (some ⟨b,off,none⟩)) Z=(match Z.cells b with|some c=>(if n<=c.length-off then .val (.agg ((c.drop off).take n).toArray) Z else .no)|none=>.no):=by
 unfold aG
 cases h:Z.cells b with
 | none=>simp only[h]
 | some c=>
  simp only[h,Hb,Hv,List.length_drop]
  by_cases hn:n<=c.length-off
  .rw[if_pos hn,if_pos hn]
  .rw[if_neg hn,if_neg hn]
section
variable (P:Program) (a:aY) (Z:aC) (t u:TypeId) (x y:Operand)
end
end Go.Eng
namespace Go.Eng
open Go
section
variable (P:Program) (t:TypeId) (x y:Operand) (s r:ByteArray) (Z:aC)
theorem Aqb:fbin0 P .eql t x y (.string s) (.string r) Z=.val (.bool (s.toList==r.toList)) Z:=by
 unfold fbin0 orPure
 simp[eqGuard,binOp,flat,Op.stringOp]
 rfl
theorem Aqc:fbin0 P .neq t x y (.string s) (.string r) Z=.val (.bool (!(s.toList==r.toList))) Z:=by
 unfold fbin0 orPure
 simp[eqGuard,binOp,flat,Op.stringOp]
 rfl
end
structure Ext (Z V:aC):Prop where
 next:Z.next<=V.next
 clock:Z.clock<=V.clock
 get:∀b,b<Z.next->V.heap.get b=Z.heap.get b
theorem Ext.refl(Z:aC):Ext Z Z:=⟨Nat.le_refl _,Nat.le_refl _,fun _ _=>rfl⟩
theorem Ext.trans{Z bW cD:aC}(h:Ext Z bW)(k:Ext bW cD):Ext Z cD:=
 ⟨Nat.le_trans h.next k.next,Nat.le_trans h.clock k.clock,fun b hb=>(k.get b (Nat.lt_of_lt_of_le hb h.next)).trans (h.get b hb)⟩
theorem Ext.push{Z bW:aC}(h:Ext Z bW)(o:FObj)(fz:Option Nat):Ext Z (bW.push o fz):=
 ⟨Nat.le_succ_of_le h.next,Nat.le_succ_of_le h.clock,fun b hb=>by
  rw[Ai,if_neg (by have:=h.next;omega)]
  exact h.get b hb⟩
theorem Ext.put{Z bW:aC}(h:Ext Z bW)(c:Nat)(o:FObj)(fz:Option Nat)(hc:Z.next<=c):Ext Z (bW.put c o fz):=
 ⟨h.next,Nat.le_succ_of_le h.clock,fun b hb=>by
  rw[Am,if_neg (by omega)]
  exact h.get b hb⟩
theorem Ext.cells{Z V:aC}(h:Ext Z V){b:Nat}(hb:b<Z.next):V.cells b=Z.cells b:=by
 rw[AO,AO,h.get b hb]
def Wf(Z:aC):Prop:=∀b e,Z.heap.get b=some e->b<Z.next/\e.ver<Z.clock
theorem Wf.cells{Z:aC}(h:Wf Z){b:Nat}{c:List Value}(hc:Z.cells b=some c):b<Z.next:=by
 rw[AO] at hc
 cases hg:Z.heap.get b with
 | none=>rw[hg] at hc;cases hc
 | some e=>exact(h b e hg).1
theorem Wf.push{Z:aC}(h:Wf Z)(o:FObj)(fz:Option Nat):Wf (Z.push o fz):=fun b e hb=>by
 rw[Ai] at hb
 rw[Ac,Bk]
 by_cases hn:b=Z.next
 .rw[if_pos hn] at hb
  cases hb
  exact⟨by omega,Nat.lt_succ_self _⟩
 .rw[if_neg hn] at hb
  have:=h b e hb
  exact⟨by omega,by omega⟩
theorem Wf.put{Z:aC}(h:Wf Z)(c:Nat)(o:FObj)(fz:Option Nat)(hc:c<Z.next):Wf (Z.put c o fz):=fun b e hb=>by
 rw[Am] at hb
 rw[Aw,BA]
 by_cases hn:b=c
 .rw[if_pos hn] at hb
  cases hb
  exact⟨by omega,Nat.lt_succ_self _⟩
 .rw[if_neg hn] at hb
  have:=h b e hb
  exact⟨by omega,by omega⟩
inductive D where
 | mk (kind num:Int) (text:ByteArray) (parts:List D)
mutual
def Laid(Z:aC):Value->D->Prop
 | v,.mk k n t ds=>∃p c,v=.agg #[.int .i64 k,.int .i64 n,.string t,.slice p ds.length c]/\LaidE Z p 0 ds
def LaidE(Z:aC):Option Addr->Nat->List D->Prop
 | _,_,[]=>True
 | p,i,d::ds=>(∃b off cs,p=some ⟨b,off,none⟩/\Z.cells b=some cs/\4<=cs.length-(off+i*4)/\Laid Z (.agg ((cs.drop (off+i*4)).take 4).toArray) d)/\LaidE Z p (i+1) ds
end
mutual
theorem Laid.ext{Z V:aC}(hw:Wf Z)(h:Ext Z V):∀ {v:Value} {d:D},Laid Z v d->Laid V v d
 | _,.mk _ _ _ _,⟨p,c,hv,he⟩=>⟨p,c,hv,LaidE.ext hw h he⟩
theorem LaidE.ext{Z V:aC}(hw:Wf Z)(h:Ext Z V):∀ {p:Option Addr} {i:Nat} {ds:List D},LaidE Z p i ds->LaidE V p i ds
 | _,_,[],_=>trivial
 | _,_,_::_,⟨⟨b,off,cs,hp,hc,hl,hd⟩,hr⟩=>⟨⟨b,off,cs,hp,(h.cells (hw.cells hc)).trans hc,hl,Laid.ext hw h hd⟩,LaidE.ext hw h hr⟩
end
theorem LaidE.get{Z:aC}{p:Option Addr}:∀ {i:Nat} {ds:List D} {k:Nat} {d:D},LaidE Z p i ds->ds[k]? = some d->
  ∃b off cs,p=some ⟨b,off,none⟩/\Z.cells b=some cs/\4<=cs.length-(off+(i+k)*4)/\Laid Z (.agg ((cs.drop (off+(i+k)*4)).take 4).toArray) d
 | i,d::ds,0,_,h,hk=>by
  cases hk
  exact h.1
 | i,d::ds,k+1,_,h,hk=>by
  have:=LaidE.get (i:=i+1) h.2 (k:=k) (by simpa using hk)
  rwa [show i+1+k=i+(k+1) by omega] at this
 | _,[],_,_,_,hk=>by simp at hk
mutual
def D.same:D->D->Bool
 | .mk k n t ds,.mk k' n' t' ds'=>decide (k=k')&&decide (n=n')&&(t.toList==t'.toList)&&D.sames ds ds'
def D.sames:List D->List D->Bool
 | [],[]=>true
 | d::ds,d'::ds'=>D.same d d'&&D.sames ds ds'
 | _,_=>false
end
mutual
def D.deep:D->Nat
 | .mk _ _ _ ds=>D.deeps ds+1
def D.deeps:List D->Nat
 | []=>0
 | d::ds=>max (D.deep d) (D.deeps ds)
end
end Go.Eng
namespace Go.Eng
open Go
theorem CU(p:Option Addr)(n c:Nat)(Z:aC):flenL (.slice p n c) Z=.val (.int .i64 (.ofNat n)) Z:=rfl
theorem CV(s:ByteArray)(Z:aC):flenS (.string s) Z=.val (.int .i64 (.ofNat s.size)) Z:=rfl
theorem BX(b off l c n size:Nat)(k:IntKind)(Z:aC):bC (none,size) (.slice (some ⟨b,off,none⟩) l c) (.int k (.ofNat n)) Z=(if n<l then .val (.pointer (some ⟨b,off+n*size,none⟩)) Z else .no):=by
 show cond (Nat.blt n l) _ _=_
 by_cases h:n<l
 .rw[show Nat.blt n l=true by simpa [Nat.blt_eq] using h,if_pos h];rfl
 .rw[show Nat.blt n l=false by rw[<-Bool.not_eq_true,Nat.blt_eq];exact h,if_neg h];rfl
section
variable (P:Program) (H:Hints) (E:Env) (ro:Option Nat) (fn:FuncId) (a:aY) (u:Option FrameMode) (Z:aC) (d:Nat)
variable (last:List Nat->aZ) (cl:List Nat)
variable (dst:Option Tmp) (k:aZ)
theorem Cg(v:Value)(lam:Nat):drawF dst a u Z k (.val v (view Z lam))=k (a.put dst v) u Z:=by
 have:regrow Z (view Z lam)=some Z:=by
  unfold regrow
  rw[show Nat.beq (view Z lam).next Z.next=true by rw[Nat.beq_eq];rfl]
  rfl
 unfold drawF
 simp only[this]
theorem BD(v:Value)(lam:Nat)(o:FObj)(fz:Option Nat):drawF dst a u Z k (.val v ((view Z lam).push o fz))=k (a.put dst v) u (Z.push o fz):=by
 have:regrow Z ((view Z lam).push o fz)=some (Z.push o fz):=by
  unfold regrow
  rw[show Nat.beq ((view Z lam).push o fz).next Z.next=false by rw[<-Bool.not_eq_true,Nat.beq_eq];show ¬ Z.next+1=Z.next;omega]
  rw[Ai]
  have e:(view Z lam).next=Z.next:=rfl
  rw[e,if_pos rfl]
  rfl
 unfold drawF
 simp only[this]
theorem Cn(r:ORes):stepOp E ro dst a u r=afterOp E ro dst a u (fun a u Z=>.done .normal a u Z) r:=rfl
theorem A9(free:Bool):drawA free k (.done .normal a u Z)=k a u Z:=rfl
theorem Co(lam:Nat):(view Z lam).next=Z.next:=rfl
theorem C2{α:Type}(x:α)(l:List α):nth (x::l) 0=some x:=rfl
theorem C0{α:Type}(x:α)(l:List α)(n:Nat):nth (x::l) (n+1)=nth l n:=rfl
theorem G5(lam b:Nat):(view Z lam).cells b=(Z.heap.get b).bind fun e=>if e.ver<lam then e.obj.cells? else none:=by
 rw[AO,JO]
 cases Z.heap.get b with
 | none=>rfl
 | some e=>
  simp only[Option.bind_some]
  by_cases h:e.ver<lam
  .rw[if_pos h,if_pos h];rfl
  .rw[if_neg h,if_neg h];rfl
theorem WK(lam b c:Nat)(o:FObj)(fz:Option Nat):(view (Z.put c o fz) lam).cells b=if b=c then (if Z.clock<lam then o.cells? else none) else (view Z lam).cells b:=by
 rw[G5,Am,G5]
 by_cases h:b=c
 .rw[if_pos h,if_pos h];rfl
 .rw[if_neg h,if_neg h]
end
theorem Dw{Z:aC}(h:Wf Z){lam:Nat}(hl:Z.clock<=lam)(b:Nat):(view Z lam).cells b=Z.cells b:=by
 rw[G5,AO]
 cases hg:Z.heap.get b with
 | none=>rfl
 | some e=>
  simp only[Option.bind_some]
  rw[if_pos (by have:=(h b e hg).2;omega)]
theorem Ao(keep:List Nat)(run:aZ)(n:Nat)(a:aY)(u:Option FrameMode)(Z:aC):floop keep run (n+1) a u Z=andThen (run (a.forget keep) u Z) (floop keep run n):=rfl
theorem L6(keep:List Nat)(a:aY)(t:Nat):(a.forget keep).tmp t=if t∈keep then a.tmp t else undef:=by
 induction keep with
 | nil=>simp;rfl
 | cons x r ih=>
  show Bool.rec (motive:=fun _=>Value) ((a.forget r).tmp t) (a.tmp x) (Nat.beq t x)=_
  by_cases hx:t=x
  .subst hx
   rw[show Nat.beq t t=true by rw[Nat.beq_eq]]
   simp
  .rw[show Nat.beq t x=false by rw[<-Bool.not_eq_true,Nat.beq_eq];exact hx,ih]
   simp[hx]
theorem L5(keep:List Nat)(a:aY)(h:a.ok)(t:Nat):(a.forget keep).get t=if t<a.nl\/t∈keep then a.get t else undef:=by
 have hl:(a.forget keep).loc=a.loc:=rfl
 have hn:(a.forget keep).nl=a.nl:=Nat.le_antisymm (Nat.le_refl _) (Nat.le_refl _)
 by_cases hlt:t<a.nl
 .rw[if_pos (.inl hlt)]
  unfold aY.get
  rw[hl,hn,show Nat.ble a.nl t=false by rw[<-Bool.not_eq_true,Nat.ble_eq];omega]
 .have hb:Nat.ble a.nl t=true:=by rw[Nat.ble_eq];omega
  have e1:a.get t=a.tmp t:=by unfold aY.get;rw[hb]
  have e2:(a.forget keep).get t=(a.forget keep).tmp t:=by unfold aY.get;rw[hn,hb]
  rw[e1,e2]
  exact(L6 keep a t).trans (by simp[hlt])
theorem CC(keep:List Nat)(a:aY):(a.forget keep).ok=a.ok:=propext Iff.rfl
theorem CB(keep:List Nat)(a:aY):(a.forget keep).nt=a.nt:=Nat.le_antisymm (Nat.le_refl _) (Nat.le_refl _)
theorem CA(keep:List Nat)(a:aY):(a.forget keep).nl=a.nl:=Nat.le_antisymm (Nat.le_refl _) (Nat.le_refl _)
theorem A7(keep:List Nat)(a:aY):(a.forget keep).defers=a.defers:=rfl
end Go.Eng
namespace Go.Eng
open Go
def aV:aZ:=fun a u Z=>.done .normal a u Z
def bL:aZ:=fun a u Z=>.done .ret a u Z
def exitR(id:Nat):aZ:=fun a u Z=>.done (.exit id) a u Z
def gotoR(l:Nat):aZ:=fun a u Z=>.done (.goto l) a u Z
def aF(x y:aZ):aZ:=fun a u Z=>andThen (x a u Z) y
def aN(c:aY->Value)(x y:aZ):aZ:=fun a u Z=>match c a with
 | .bool true=>x a u Z
 | .bool false=>y a u Z
 | _=>.no
def aW(id:Nat)(x:aZ):aZ:=fun a u Z=>match x a u Z with
 | .done (.exit id') a u Z=>cond (Nat.beq id' id) (.done .normal a u Z) (.done (.exit id') a u Z)
 | r=>r
def loopR(keep:List Nat)(x:aZ):aZ:=fun a u Z=>floop keep x bF a u Z
def drawR(E:Env)(ro:Option Nat)(l:List DOp):aZ:=fun a u Z=>bI E ro (fun _ a u Z=>.done .normal a u Z) l [Z.clock] a u Z
def drawSR(E:Env)(ro:Option Nat)(l:List DOp)(sb sa:SOp)(fl:List DOp):aZ:=fun a u Z=>bI E ro (fswap E ro sb sa fl) l [Z.clock] a u Z
def aP(P:Program)(E:Env)(rs:List ResultVar)(r:KRes):CRes:=match r with
 | .done .normal a u Z=>fleave P E rs a u a.defers .returning Z
 | .done .ret a u Z=>fleave P E rs a u a.defers .returning Z
 | .done (.panic ch) a u Z=>fleave P E rs a u a.defers (.panicking ch) Z
 | _=>.no
def gd(v:Value)(want:Bool):Option Bool:=match v with
 | .bool b=>some (b==want)
 | .chan none=>some false
 | _=>none
def i_add(P:Program)(t:TypeId)(x y:Operand)(a b:Value)(Z:aC):ORes:=fbinI (fun a b=>.int .i64 (wrapI (a+b))) a b (fbin0 P .add t x y a b Z) Z
def i_sub(P:Program)(t:TypeId)(x y:Operand)(a b:Value)(Z:aC):ORes:=fbinI (fun a b=>.int .i64 (wrapI (a-b))) a b (fbin0 P .sub t x y a b Z) Z
def i_mul(P:Program)(t:TypeId)(x y:Operand)(a b:Value)(Z:aC):ORes:=fbinI (fun a b=>.int .i64 (wrapI (a*b))) a b (fbin0 P .mul t x y a b Z) Z
def bO(P:Program)(t:TypeId)(x y:Operand)(a b:Value)(Z:aC):ORes:=fbinI (fun a b=>.bool (ieq a b)) a b (fbin0 P .eql t x y a b Z) Z
def i_neq(P:Program)(t:TypeId)(x y:Operand)(a b:Value)(Z:aC):ORes:=fbinI (fun a b=>.bool (!ieq a b)) a b (fbin0 P .neq t x y a b Z) Z
def i_lss(P:Program)(t:TypeId)(x y:Operand)(a b:Value)(Z:aC):ORes:=fbinI (fun a b=>.bool (!ile b a)) a b (fbin0 P .lss t x y a b Z) Z
def i_leq(P:Program)(t:TypeId)(x y:Operand)(a b:Value)(Z:aC):ORes:=fbinI (fun a b=>.bool (ile a b)) a b (fbin0 P .leq t x y a b Z) Z
def i_gtr(P:Program)(t:TypeId)(x y:Operand)(a b:Value)(Z:aC):ORes:=fbinI (fun a b=>.bool (!ile a b)) a b (fbin0 P .gtr t x y a b Z) Z
def i_geq(P:Program)(t:TypeId)(x y:Operand)(a b:Value)(Z:aC):ORes:=fbinI (fun a b=>.bool (ile b a)) a b (fbin0 P .geq t x y a b Z) Z
def rangesOf:Code->List (Code×Code)
 | .seq x y=>rangesOf x++rangesOf y
 | .cond _ x y=>rangesOf x++rangesOf y
 | .block _ x=>rangesOf x
 | .loop x=>rangesOf x
 | .scope x=>rangesOf x
 | .rangeFunc _ _ x y=>(x,y)::(rangesOf x++rangesOf y)
 | _=>[]
def scopesOf:Code->List Code
 | .seq x y=>scopesOf x++scopesOf y
 | .cond _ x y=>scopesOf x++scopesOf y
 | .block _ x=>scopesOf x
 | .loop x=>scopesOf x
 | .scope x=>x::scopesOf x
 | .rangeFunc _ _ x y=>scopesOf x++scopesOf y
 | _=>[]
section
variable (a:aY) (u:Option FrameMode) (Z:aC)
theorem Ag:aV a u Z=.done .normal a u Z:=rfl
theorem DR:bL a u Z=.done .ret a u Z:=rfl
theorem CT(id:Nat):exitR id a u Z=.done (.exit id) a u Z:=rfl
theorem Afy(l:Nat):gotoR l a u Z=.done (.goto l) a u Z:=rfl
theorem PQ(l:Nat)(k:aZ):andThen (.done (.goto l) a u Z) k=.done (.goto l) a u Z:=rfl
theorem DS(x y:aZ):aF x y a u Z=andThen (x a u Z) y:=rfl
theorem CS(E:Env)(ro:Option Nat)(l:List DOp):drawR E ro l a u Z=bI E ro (fun _ a u Z=>.done .normal a u Z) l [Z.clock] a u Z:=rfl
theorem BG(P:Program)(E:Env)(rs:List ResultVar):aP P E rs (.done .ret a u Z)=fleave P E rs a u a.defers .returning Z:=rfl
theorem AX(P:Program)(E:Env)(rs:List ResultVar):aP P E rs (.done .normal a u Z)=fleave P E rs a u a.defers .returning Z:=rfl
variable (E:Env) (ro:Option Nat) (last:List Nat->aZ) (cl:List Nat)
theorem BF:bI E ro last [] cl a u Z=last cl a u Z:=rfl
theorem DF(op:OpF)(dst:Option Tmp)(g:aY->Option Bool)(q:Nat)(free:Bool)(l:List DOp):bI E ro last (⟨op,dst,g,some q,free⟩::l) cl a u Z=
  (match g a with
    | none=>.no
    | some false=>bI E ro last l cl (a.put dst skipV) u Z
    | some true=>(match nth cl q with
     | some lam=>drawF dst a u Z (bI E ro last l cl) (op a (view Z lam))
     | none=>.no)):=by
 show Option.rec (motive:=fun _=>KRes) .no _ (g a)=_
 cases g a with
 | none=>rfl
 | some g=>cases g<;>rfl
theorem DE(op:OpF)(dst:Option Tmp)(g:aY->Option Bool)(free:Bool)(l:List DOp):bI E ro last (⟨op,dst,g,none,free⟩::l) cl a u Z=
  (match g a with
    | none=>.no
    | some false=>bI E ro last l (cl++[Z.clock]) (a.put dst skipV) u Z
    | some true=>drawA free (fun a u Z=>bI E ro last l (cl++[Z.clock]) a u Z) (stepOp E ro dst a u (op a Z))):=by
 show Option.rec (motive:=fun _=>KRes) .no _ (g a)=_
 cases g a with
 | none=>rfl
 | some g=>cases g<;>rfl
theorem D7(op:OpF)(dst:Option Tmp)(g:aY->Option Bool)(l:List COp):aD E ro (⟨op,dst,g⟩::l) a u Z=(match g a with|none=>.no|some false=>aD E ro l (a.put dst skipV) u Z|some true=>afterOp E ro dst a u (aD E ro l) (op a Z)):=AcQ E ro a u Z _ _
end
end Go.Eng
namespace Go.Eng
open Go
theorem D3(e:TypeId)(v:Value)(Z:aC):fbox e v Z=if aU v=true then .val (.pointer (some ⟨Z.next,0,none⟩)) (Z.push (.cells (aI v) e) none) else .no:=by
 cases h:aU v with
 | true=>rw[AoR _ _ _ h];rfl
 | false=>unfold fbox;rw[h];rfl
theorem Bj(c:List Value)(el:TypeId)(fz:Option Nat)(Z:aC):aM c el fz Z=.val (.pointer (some ⟨Z.next,0,none⟩)) (Z.push (.cells c el) fz):=rfl
section
variable (P:Program) (t:TypeId) (x y:Operand) (n m:Int) (s r:ByteArray) (Z:aC)
theorem DC:bO P t x y (.int .i64 n) (.int .i64 m) Z=.val (.bool (n==m)) Z:=by
 show ORes.val (.bool (ieq n m)) Z=_
 rw[Xf]
theorem DP:i_neq P t x y (.int .i64 n) (.int .i64 m) Z=.val (.bool (!(n==m))) Z:=by
 show ORes.val (.bool (!ieq n m)) Z=_
 rw[Xf]
theorem DL:i_lss P t x y (.int .i64 n) (.int .i64 m) Z=.val (.bool (decide (n<m))) Z:=by
 show ORes.val (.bool (!ile m n)) Z=_
 rw[Md]
 congr 2
 rw[Bool.eq_iff_iff];simp
theorem DK:i_leq P t x y (.int .i64 n) (.int .i64 m) Z=.val (.bool (decide (n<=m))) Z:=by
 show ORes.val (.bool (ile n m)) Z=_
 rw[Md]
theorem DJ:i_gtr P t x y (.int .i64 n) (.int .i64 m) Z=.val (.bool (decide (n>m))) Z:=by
 show ORes.val (.bool (!ile n m)) Z=_
 rw[Md]
 congr 2
 rw[Bool.eq_iff_iff];simp
theorem DI:i_geq P t x y (.int .i64 n) (.int .i64 m) Z=.val (.bool (decide (n≥m))) Z:=by
 show ORes.val (.bool (ile m n)) Z=_
 rw[Md]
theorem DA:i_add P t x y (.int .i64 n) (.int .i64 m) Z=.val (.int .i64 (wrapI (n+m))) Z:=rfl
theorem DT:i_sub P t x y (.int .i64 n) (.int .i64 m) Z=.val (.int .i64 (wrapI (n-m))) Z:=rfl
theorem DM:i_mul P t x y (.int .i64 n) (.int .i64 m) Z=.val (.int .i64 (wrapI (n*m))) Z:=rfl
theorem DD:bO P t x y (.string s) (.string r) Z=.val (.bool (s.toList==r.toList)) Z:=Aqb P t x y s r Z
theorem DQ:i_neq P t x y (.string s) (.string r) Z=.val (.bool (!(s.toList==r.toList))) Z:=Aqc P t x y s r Z
theorem D8(b:Bool):fun1 P (Op.unary .not) (.bool b) Z=.val (.bool (!b)) Z:=rfl
end
theorem Dj{n:Int}(h : -9223372036854775808<=n/\n<=9223372036854775807):wrapI n=n:=by
 cases n with
 | ofNat k=>
  show cond (Nat.ble k 9223372036854775807) _ _=_
  have:k<=9223372036854775807:=by have:=h.2;rw[Int.ofNat_eq_natCast] at this;omega
  rw[show Nat.ble k 9223372036854775807=true by rw[Nat.ble_eq];exact this]
  rfl
 | negSucc k=>
  show cond (Nat.ble k 9223372036854775807) _ _=_
  have:k<=9223372036854775807:=by have:=h.1;rw[Int.negSucc_eq] at this;omega
  rw[show Nat.ble k 9223372036854775807=true by rw[Nat.ble_eq];exact this]
  rfl
def Gives(r:CRes)(Z:aC)(Q:Value->aC->Prop):Prop:=∃v V,r=.ret v none V/\Ext Z V/\Wf V/\Q v V
end Go.Eng
namespace Go.Eng
open Go
theorem DG(w:Bool):gd skipV w=some false:=rfl
theorem DH(b:Bool):gd (.bool b) true=some b:=by cases b<;>rfl
theorem CY(b:Bool):gd (.bool b) false=some (!b):=by cases b<;>rfl
theorem Ci(P:Program)(E:Env)(t:Tmp)(a:aY)(u:Option FrameMode)(Z:aC):fleave P E [.tmp t] a u [] .returning Z=.ret (a.get t) u Z:=rfl
theorem BH(P:Program)(E:Env)(t t':Tmp)(a:aY)(u:Option FrameMode)(Z:aC):fleave P E [.tmp t,.tmp t'] a u [] .returning Z=.ret (.tuple #[a.get t,a.get t']) u Z:=rfl
theorem BI(P:Program)(E:Env)(t t' t'':Tmp)(a:aY)(u:Option FrameMode)(Z:aC):fleave P E [.tmp t,.tmp t',.tmp t''] a u [] .returning Z=.ret (.tuple #[a.get t,a.get t',a.get t'']) u Z:=rfl
theorem Ani{X:aC->CRes}{Z a_:aC}{r:CRes}{Q:Value->aC->Prop}(hr:X a_=r)(h:∀V,Ext Z V->Wf V->Gives (X V) V Q)(hx:Ext Z a_)(hw:Wf a_):Gives r a_ Q:=hr ▸ h a_ hx hw
theorem Cf{c:aY->Value}{x y:aZ}{a:aY}{u:Option FrameMode}{Z:aC}:aN c x y a u Z=(match c a with
 | .bool b=>if b=true then x a u Z else y a u Z
 | _=>.no):=by
 unfold aN
 cases c a with
 | bool b=>cases b<;>rfl
 | _=>rfl
end Go.Eng
namespace Go.Eng
open Go
def blockK(id:Nat)(r:KRes):KRes:=match r with
 | .done (.exit id') a u Z=>cond (Nat.beq id' id) (.done .normal a u Z) (.done (.exit id') a u Z)
 | r=>r
section
variable (a:aY) (u:Option FrameMode) (Z:aC)
theorem CR(id:Nat)(x:aZ):aW id x a u Z=blockK id (x a u Z):=rfl
theorem AW(id:Nat):blockK id (.done .normal a u Z)=.done .normal a u Z:=rfl
theorem BC(id:Nat):blockK id (.done .ret a u Z)=.done .ret a u Z:=rfl
theorem Dm(id:Nat)(ch:List PanicEntry):blockK id (.done (.panic ch) a u Z)=.done (.panic ch) a u Z:=rfl
theorem Bi(id id':Nat):blockK id (.done (.exit id') a u Z)=if id'=id then .done .normal a u Z else .done (.exit id') a u Z:=by
 show cond (Nat.beq id' id) _ _=_
 by_cases h:id'=id
 .rw[if_pos h,show Nat.beq id' id=true by rw[Nat.beq_eq];exact h];rfl
 .rw[if_neg h,show Nat.beq id' id=false by rw[<-Bool.not_eq_true,Nat.beq_eq];exact h];rfl
theorem CZ(keep:List Nat)(x:aZ):loopR keep x a u Z=floop keep x bF a u Z:=rfl
end
theorem D_(a:aY)(dst:Option Tmp)(v:Value):(a.put dst v).nl=a.nl:=by
 cases dst with
 | none=>rfl
 | some d=>
  show aY.nl (Bool.rec (motive:=fun _=>aY) a (a.putT d v) (Nat.blt d a.nt))=_
  cases Nat.blt d a.nt with
  | false=>rfl
  | true=>
   show aY.nl (a.putT d v)=_
   unfold aY.putT
   cases Nat.ble a.nl d<;>rfl
theorem JL:∀ {ds ds':List D},D.sames ds ds'=true->ds.length=ds'.length
 | [],[],_=>rfl
 | _::ds,_::ds',h=>by
  have h':(D.same _ _&&D.sames ds ds')=true:=h
  rw[Bool.and_eq_true] at h'
  simp[JL h'.2]
 | [],_::_,h=>by simp[D.sames] at h
 | _::_,[],h=>by simp[D.sames] at h
end Go.Eng
namespace Go.Eng
open Go
def xorI(a b:Int):Int:=IntKind.u64.wrap ((BitVec.ofInt 64 a ^^^ BitVec.ofInt 64 b).toNat)
theorem WN(n:Int):0<=IntKind.u64.wrap n/\IntKind.u64.wrap n<18446744073709551616:=by
 have h:IntKind.u64.wrap n=n % 18446744073709551616:=rfl
 rw[h]
 omega
theorem Anm{n:Int}(h:0<=n/\n<18446744073709551616):IntKind.u64.wrap n=n:=by
 have e:IntKind.u64.wrap n=n % 18446744073709551616:=rfl
 rw[e]
 omega
theorem Anl{n:Int}(h : -9223372036854775808<=n/\n<=9223372036854775807):IntKind.i64.wrap n=n:=by
 have e:IntKind.i64.wrap n=(if n % 18446744073709551616≥9223372036854775808 then n % 18446744073709551616-18446744073709551616 else n % 18446744073709551616):=by
  show (if (true&&decide (n % 18446744073709551616≥9223372036854775808))=true then _ else _)=_
  simp
  rfl
 rw[e]
 split<;>omega
theorem NP(a b:Int):0<=xorI a b/\xorI a b<18446744073709551616:=WN _
section
variable (P:Program) (t:TypeId) (x y:Operand) (a b:Int) (Z:aC)
theorem DB:i_add P t x y (.int .u64 a) (.int .u64 b) Z=.val (.int .u64 (IntKind.u64.wrap (a+b))) Z:=by kernel_rfl
theorem DN:i_mul P t x y (.int .u64 a) (.int .u64 b) Z=.val (.int .u64 (IntKind.u64.wrap (a*b))) Z:=by kernel_rfl
theorem DU:fbin0 P .xor t x y (.int .u64 a) (.int .u64 b) Z=.val (.int .u64 (xorI a b)) Z:=by kernel_rfl
theorem Cm:fbin0 P .shr t x y (.int .u64 a) (.int .u64 32) Z=.val (.int .u64 (a.fdiv 4294967296)) Z:=by kernel_rfl
theorem Ck:fbin0 P .shr t x y (.int .u64 a) (.int .u64 27) Z=.val (.int .u64 (a.fdiv 134217728)) Z:=by kernel_rfl
theorem C8:fbin0 P .shr t x y (.int .u64 a) (.int .u64 9) Z=.val (.int .u64 (a.fdiv 512)) Z:=by kernel_rfl
theorem Ap7(h:b≠0):fbin0 P .rem t x y (.int .u64 a) (.int .u64 b) Z=.val (.int .u64 (a.tmod b)) Z:=by
 unfold fbin0 orPure
 simp[eqGuard,binOp,flat,Op.intDiv,h]
 rfl
theorem A_(p:Addr):bJ (.pointer (some p)) Z=.val (.pointer (some p)) Z:=rfl
end
theorem Dn(b off:Nat)(v:Value)(Z:aC)(hv:oneCell v=true):aK 1 (.pointer (some ⟨b,off,none⟩)) v Z=
  (match Z.heap.get b with
   | some e=>(match e.obj,e.ro with
    | .cells c el,false=>if off<c.length then .skip (Z.put b (.cells (c.set off v) el) e.fz) else .no
    | _,_=>.no)
   | none=>.no):=by
 have hc:aI v=[v]/\aU v=true:=by cases v<;>first|exact⟨rfl,rfl⟩|cases hv
 unfold aK
 cases hg:Z.heap.get b with
 | none=>simp only[hg]
 | some e=>
  obtain⟨o,ro,fz,ver⟩:=e
  simp only[hg]
  cases o with
  | cells c el=>cases ro with
   | true=>rfl
   | false=>
    simp only[hc.1,hc.2]
    show cond (true&&Nat.beq (len [v]) 1&&[v].all oneCell) _ _=_
    have:(true&&Nat.beq (len [v]) 1&&[v].all oneCell)=true:=by
     simp[hv];rfl
    rw[this]
    simp only[cond_true,D2,List.length_singleton]
    by_cases h:off<c.length
    .rw[if_pos (by omega),if_pos h]
     simp only[]
     congr 3
     rw[List.set_eq_take_append_cons_drop,if_pos h]
     simp
    .rw[if_neg (by omega),if_neg h]
  | _=>cases ro<;>rfl
structure ExtC (x:Nat) (Z V:aC):Prop where
 next:Z.next<=V.next
 clock:Z.clock<=V.clock
 get:∀b,b<Z.next->b≠x->V.heap.get b=Z.heap.get b
theorem ExtC.refl(x:Nat)(Z:aC):ExtC x Z Z:=⟨Nat.le_refl _,Nat.le_refl _,fun _ _ _=>rfl⟩
theorem ExtC.trans{x:Nat}{Z bW cD:aC}(h:ExtC x Z bW)(k:ExtC x bW cD):ExtC x Z cD:=
 ⟨Nat.le_trans h.next k.next,Nat.le_trans h.clock k.clock,fun b hb hx=>(k.get b (Nat.lt_of_lt_of_le hb h.next) hx).trans (h.get b hb hx)⟩
theorem ExtC.push{x:Nat}{Z bW:aC}(h:ExtC x Z bW)(o:FObj)(fz:Option Nat):ExtC x Z (bW.push o fz):=
 ⟨Nat.le_succ_of_le h.next,Nat.le_succ_of_le h.clock,fun b hb hx=>by
  rw[Ai,if_neg (by have:=h.next;omega)]
  exact h.get b hb hx⟩
theorem ExtC.put{x:Nat}{Z bW:aC}(h:ExtC x Z bW)(o:FObj)(fz:Option Nat):ExtC x Z (bW.put x o fz):=
 ⟨h.next,Nat.le_succ_of_le h.clock,fun b hb hx=>by
  rw[Am,if_neg hx]
  exact h.get b hb hx⟩
theorem ExtC.putNew{x:Nat}{Z bW:aC}(h:ExtC x Z bW)(c:Nat)(o:FObj)(fz:Option Nat)(hc:Z.next<=c):ExtC x Z (bW.put c o fz):=
 ⟨h.next,Nat.le_succ_of_le h.clock,fun b hb hx=>by
  rw[Am,if_neg (by omega)]
  exact h.get b hb hx⟩
theorem Ext.toC{Z V:aC}(h:Ext Z V)(x:Nat):ExtC x Z V:=⟨h.next,h.clock,fun b hb _=>h.get b hb⟩
theorem ExtC.cells{x:Nat}{Z V:aC}(h:ExtC x Z V){b:Nat}(hb:b<Z.next)(hx:b≠x):V.cells b=Z.cells b:=by
 rw[AO,AO,h.get b hb hx]
end Go.Eng
namespace Go.Eng
open Go
def upd(f:Nat->Value)(d:Nat)(v:Value):Nat->Value:=fun t=>if t=d then v else f t
theorem AwH(f:Nat->Value)(d:Nat)(v:Value)(t:Nat):upd f d v t=if t=d then v else f t:=rfl
def Sl(nl nt:Nat)(f g:Nat->Value)(ds:List Deferred):aY:=⟨(List.range nl).map f,g,nl,nt,ds⟩
theorem PN(nl nt:Nat)(f g:Nat->Value)(ds:List Deferred)(t:Nat):(Sl nl nt f g ds).get t=if t<nl then f t else g t:=by
 show Bool.rec (motive:=fun _=>Value) (Option.rec (motive:=fun _=>Value) undef (fun v=>v) (nth ((List.range nl).map f) t)) (g t) (Nat.ble nl t)=_
 rw[Et]
 by_cases h:t<nl
 .have:Nat.ble nl t=false:=by rw[<-Bool.not_eq_true,Nat.ble_eq];omega
  rw[this,if_pos h]
  simp[h]
 .have:Nat.ble nl t=true:=by rw[Nat.ble_eq];omega
  rw[this,if_neg h]
theorem Aut(nl nt:Nat)(f g:Nat->Value)(ds:List Deferred)(d:Nat)(v:Value):(Sl nl nt f g ds).put (some d) v=
  if d<nt then (if d<nl then Sl nl nt (upd f d v) g ds else Sl nl nt f (upd g d v) ds) else Sl nl nt f g ds:=by
 show (Bool.rec (motive:=fun _=>aY) (Sl nl nt f g ds) ((Sl nl nt f g ds).putT d v) (Nat.blt d nt))=_
 by_cases h:d<nt
 .have:Nat.blt d nt=true:=by simpa [Nat.blt_eq] using h
  rw[this,if_pos h]
  show (Sl nl nt f g ds).putT d v=_
  unfold aY.putT
  by_cases hl:d<nl
  .have:Nat.ble nl d=false:=by rw[<-Bool.not_eq_true,Nat.ble_eq];omega
   rw[if_pos hl]
   show Bool.rec (motive:=fun _=>aY) (⟨setNth v ((List.range nl).map f) d,g,nl,nt,ds⟩:aY) _ (Nat.ble nl d)=_
   rw[this,Gs]
   show (⟨((List.range nl).map f).set d v,g,nl,nt,ds⟩:aY)=⟨(List.range nl).map (upd f d v),g,nl,nt,ds⟩
   congr 1
   apply List.ext_getElem?
   intro i
   rw[List.getElem?_set]
   simp only[List.length_map,List.length_range,List.getElem?_map,upd]
   by_cases hi:d=i
   .subst hi
    simp[hl,upd]
   .rw[if_neg hi]
    by_cases hin:i<nl
    .simp[hin,Ne.symm hi,upd]
    .simp[hin]
  .have:Nat.ble nl d=true:=by rw[Nat.ble_eq];omega
   rw[if_neg hl]
   show Bool.rec (motive:=fun _=>aY) _ (⟨(List.range nl).map f,fun k=>Bool.rec (motive:=fun _=>Value) (g k) v (Nat.beq k d),nl,nt,ds⟩:aY) (Nat.ble nl d)=_
   rw[this]
   show (⟨(List.range nl).map f,fun k=>Bool.rec (motive:=fun _=>Value) (g k) v (Nat.beq k d),nl,nt,ds⟩:aY)=⟨(List.range nl).map f,upd g d v,nl,nt,ds⟩
   congr 1
   funext k
   unfold upd
   by_cases hk:k=d
   .subst hk
    rw[if_pos rfl,show Nat.beq k k=true by rw[Nat.beq_eq]]
   .rw[if_neg hk,show Nat.beq k d=false by rw[<-Bool.not_eq_true,Nat.beq_eq];exact hk]
 .have:Nat.blt d nt=false:=by rw[<-Bool.not_eq_true,Nat.blt_eq];exact h
  rw[this,if_neg h]
theorem Aj(nl nt:Nat)(args:List Value)(ds:List Deferred):(⟨bB undef nl args,fun _=>undef,nl,nt,ds⟩:aY)=Sl nl nt (fun t=>args[t]?.getD undef) (fun _=>undef) ds:=by
 unfold Sl
 congr 1
 apply List.ext_getElem?
 intro i
 rw[O2]
 by_cases h:i<nl<;>simp[h]
theorem Om(nl nt:Nat)(f g:Nat->Value)(ds:List Deferred):(Sl nl nt f g ds).defers=ds:=by simp[Sl]
theorem AwJ(nl nt:Nat)(f g:Nat->Value)(ds:List Deferred):(Sl nl nt f g ds).nl=nl:=by simp[Sl]
def kept(keep:List Nat)(g:Nat->Value):Nat->Value:=fun t=>if t∈keep then g t else undef
theorem Fe(keep:List Nat)(g:Nat->Value)(t:Nat):kept keep g t=if t∈keep then g t else undef:=rfl
theorem Bl(nl nt:Nat)(f g:Nat->Value)(ds:List Deferred)(keep:List Nat):(Sl nl nt f g ds).forget keep=Sl nl nt f (kept keep g) ds:=by
 have e:((Sl nl nt f g ds).forget keep).tmp=kept keep g:=by
  funext t
  rw[L6]
  rfl
 show (⟨(List.range nl).map f,((Sl nl nt f g ds).forget keep).tmp,nl,nt,ds⟩:aY)=_
 rw[e]
 rfl
end Go.Eng
namespace Go.Eng
open Go
theorem Aq{Z:aC}{x:Nat}{c:List Value}{t:TypeId}{ro:Bool}{fz:Option Nat}{ver:Nat}(h:Z.heap.get x=some ⟨.cells c t,ro,fz,ver⟩):Z.cells x=some c:=by
 rw[AO,h];rfl
end Go.Eng
namespace Go.Eng
open Go
theorem AoZ(place:Nat->Option (Nat×Nat))(c:List Value):lay place [] c=some c:=rfl
theorem AfJ(place:Nat->Option (Nat×Nat))(i:Nat)(v:Value)(ps:List (Nat×Value))(c:List Value):lay place ((i,v)::ps) c=
  (match place i with
   | some q=>if aU v=true/\(aI v).length=q.2 then (if q.1+(aI v).length<=c.length then lay place ps (c.take q.1++aI v++c.drop (q.1+(aI v).length)) else none) else none
   | none=>none):=by
 show (match place i with
   | some (off,size)=>cond (aU v&&Nat.beq (len (aI v)) size) (match spliceN off (aI v) c with|some c'=>lay place ps c'|none=>none) none
   | none=>none)=_
 cases place i with
 | none=>rfl
 | some q=>
  obtain⟨off,size⟩:=q
  simp only[]
  rw[Es,D2]
  by_cases h:aU v=true/\(aI v).length=size
  .rw[if_pos h,show (aU v&&Nat.beq (aI v).length size)=true by rw[h.1,show Nat.beq (aI v).length size=true by rw[Nat.beq_eq];exact h.2];rfl]
   by_cases hl:off+(aI v).length<=c.length
   .rw[if_pos hl,if_pos hl];rfl
   .rw[if_neg hl,if_neg hl];rfl
  .rw[if_neg h]
   have:(aU v&&Nat.beq (aI v).length size)=false:=by
    rw[<-Bool.not_eq_true]
    intro hh
    rw[Bool.and_eq_true,Nat.beq_eq] at hh
    exact h hh
   rw[this];rfl
theorem OH(place:Nat->Option (Nat×Nat))(z:List Value)(ps:List (Nat×Value))(Z:aC):bP place z ps Z=(match lay place ps z with|some c=>.val (.agg c.toArray) Z|none=>.no):=by
 unfold bP
 cases lay place ps z<;>rfl
theorem LU(e n s:Nat)(z:List Value)(ps:List (Nat×Value))(Z:aC):aX e n s z ps Z=(match lay (fun i=>some (i*s,s)) ps (reps n z) with|some c=>.val (.slice (some ⟨Z.next,0,none⟩) n n) (Z.push (.cells c e) none)|none=>.no):=by
 unfold aX
 cases lay (fun i=>some (i*s,s)) ps (reps n z)<;>rfl
theorem PH{α:Type}(z:List α):reps 0 z=[]:=rfl
theorem PG{α:Type}(n:Nat)(z:List α):reps (n+1) z=z++reps n z:=rfl
theorem Ar(n b off:Nat)(v:Value)(Z:aC):aK n (.pointer (some ⟨b,off,none⟩)) v Z=
  (match Z.heap.get b with
   | some e=>(match e.obj,e.ro with
    | .cells c el,false=>if aU v=true/\(aI v).length=n/\(aI v).all oneCell=true then
      (if off+(aI v).length<=c.length then .skip (Z.put b (.cells (c.take off++aI v++c.drop (off+(aI v).length)) el) e.fz) else .no) else .no
    | _,_=>.no)
   | none=>.no):=by
 unfold aK
 cases hg:Z.heap.get b with
 | none=>simp only[hg]
 | some e=>
  obtain⟨o,ro,fz,ver⟩:=e
  simp only[hg]
  cases o with
  | cells c el=>cases ro with
   | true=>rfl
   | false=>
    simp only[Es,D2]
    by_cases h:aU v=true/\(aI v).length=n/\(aI v).all oneCell=true
    .rw[if_pos h,show (aU v&&Nat.beq (aI v).length n&&(aI v).all oneCell)=true by rw[h.1,h.2.2,show Nat.beq (aI v).length n=true by rw[Nat.beq_eq];exact h.2.1];rfl]
     by_cases hl:off+(aI v).length<=c.length
     .rw[if_pos hl,if_pos hl];rfl
     .rw[if_neg hl,if_neg hl];rfl
    .rw[if_neg h]
     have:(aU v&&Nat.beq (aI v).length n&&(aI v).all oneCell)=false:=by
      rw[<-Bool.not_eq_true]
      intro hh
      rw[Bool.and_eq_true,Bool.and_eq_true,Nat.beq_eq] at hh
      exact h ⟨hh.1.1,hh.1.2,hh.2⟩
     rw[this];rfl
  | _=>cases ro<;>rfl
theorem Xn(P:Program)(E:Env)(c:Tmp)(t:TypeId)(a:aY)(u:Option FrameMode)(Z:aC):fleave P E [.cell c t] a u [] .returning Z=
  (match aggSize P t with
   | some sz=>(match aG sz (a.get c) Z with
    | .val v _=>.ret v u Z
    | _=>.no)
   | none=>.no):=by
 rw[AB]
 show (match (match fresult P (.cell c t) a Z,some [] with|some v,some vs=>some (v::vs)|_,_=>none) with|some [v]=>CRes.ret v u Z|some vs=>_|none=>_)=_
 unfold fresult
 simp only[]
 cases h:aggSize P t with
 | none=>simp only[]
 | some sz=>
  simp only[]
  cases h2:aG sz (a.get c) Z<;>simp only[]
end Go.Eng
namespace Go.Eng
open Go
theorem Af{a a':aY}{Z V:aC}(E:Env)(ro:Option Nat)(l:List COp)(u:Option FrameMode)(h:a=a')(k:Z=V):aD E ro l a u Z=aD E ro l a' u V:=by rw[h,k]
theorem Ae{a a':aY}{Z V:aC}{cl cl':List Nat}(E:Env)(ro:Option Nat)(last:List Nat->aZ)(l:List DOp)(u:Option FrameMode)(h0:cl=cl')(h:a=a')(k:Z=V):bI E ro last l cl a u Z=bI E ro last l cl' a' u V:=by rw[h0,h,k]
theorem Ab{a a':aY}{r r':ORes}(E:Env)(ro:Option Nat)(dst:Option Tmp)(u:Option FrameMode)(k:aZ)(h:a=a')(h2:r=r'):afterOp E ro dst a u k r=afterOp E ro dst a' u k r':=by rw[h,h2]
theorem Ad{a a':aY}{r r':ORes}{Z V:aC}(dst:Option Tmp)(u:Option FrameMode)(k:aZ)(h:a=a')(h1:Z=V)(h2:r=r'):drawF dst a u Z k r=drawF dst a' u V k r':=by rw[h,h1,h2]
end Go.Eng
namespace Go.Eng
open Go
mutual
theorem Laid.extC{x:Nat}{c3:List Value}{Z V:aC}(hw:Wf Z)(hx:Z.cells x=some c3)(h3:c3.length<4)(h:ExtC x Z V):∀ {v:Value} {d:D},Laid Z v d->Laid V v d
 | _,.mk _ _ _ _,⟨p,c,hv,he⟩=>⟨p,c,hv,LaidE.extC hw hx h3 h he⟩
theorem LaidE.extC{x:Nat}{c3:List Value}{Z V:aC}(hw:Wf Z)(hx:Z.cells x=some c3)(h3:c3.length<4)(h:ExtC x Z V):∀ {p:Option Addr} {i:Nat} {ds:List D},LaidE Z p i ds->LaidE V p i ds
 | _,_,[],_=>trivial
 | _,_,_::_,⟨⟨b,off,cs,hp,hc,hl,hd⟩,hr⟩=>
  have hb:b≠x:=fun hb=>by
   rw[hb,hx] at hc
   cases hc
   omega
  ⟨⟨b,off,cs,hp,(h.cells (hw.cells hc) hb).trans hc,hl,Laid.extC hw hx h3 h hd⟩,LaidE.extC hw hx h3 h hr⟩
end
end Go.Eng
namespace Go.Eng
open Go
mutual
def aL(R:Nat->Prop)(Z:aC):Value->D->Prop
 | v,.mk k n t ds=>∃p c,v=.agg #[.int .i64 k,.int .i64 n,.string t,.slice p ds.length c]/\aO R Z p 0 ds
def aO(R:Nat->Prop)(Z:aC):Option Addr->Nat->List D->Prop
 | _,_,[]=>True
 | p,i,d::ds=>(∃b off cs,p=some ⟨b,off,none⟩/\R b/\Z.cells b=some cs/\4<=cs.length-(off+i*4)/\aL R Z (.agg ((cs.drop (off+i*4)).take 4).toArray) d)/\aO R Z p (i+1) ds
end
mutual
theorem aL.laid{R:Nat->Prop}{Z:aC}:∀ {v:Value} {d:D},aL R Z v d->Laid Z v d
 | _,.mk _ _ _ _,⟨p,c,hv,he⟩=>⟨p,c,hv,aO.laid he⟩
theorem aO.laid{R:Nat->Prop}{Z:aC}:∀ {p:Option Addr} {i:Nat} {ds:List D},aO R Z p i ds->LaidE Z p i ds
 | _,_,[],_=>trivial
 | _,_,_::_,⟨⟨b,off,cs,hp,_,hc,hl,hd⟩,hr⟩=>⟨⟨b,off,cs,hp,hc,hl,aL.laid hd⟩,aO.laid hr⟩
end
mutual
theorem aL.keep{R R':Nat->Prop}{Z V:aC}(h:∀b cs,R b->Z.cells b=some cs->V.cells b=some cs/\R' b):∀ {v:Value} {d:D},aL R Z v d->aL R' V v d
 | _,.mk _ _ _ _,⟨p,c,hv,he⟩=>⟨p,c,hv,aO.keep h he⟩
theorem aO.keep{R R':Nat->Prop}{Z V:aC}(h:∀b cs,R b->Z.cells b=some cs->V.cells b=some cs/\R' b):∀ {p:Option Addr} {i:Nat} {ds:List D},aO R Z p i ds->aO R' V p i ds
 | _,_,[],_=>trivial
 | _,_,_::_,⟨⟨b,off,cs,hp,hR,hc,hl,hd⟩,hr⟩=>⟨⟨b,off,cs,hp,(h b cs hR hc).2,(h b cs hR hc).1,hl,aL.keep h hd⟩,aO.keep h hr⟩
end
def New(Z V:aC)(b:Nat):Prop:=Z.next<=b/\b<V.next
def Row(R:Nat->Prop)(Z:aC)(cs:List Value)(ds:List D):Prop:=cs.length=ds.length*4/\cs.all oneCell=true/\∀(i:Nat) (d:D),ds[i]? = some d->aL R Z (.agg ((cs.drop (i*4)).take 4).toArray) d
theorem Row.nil(R:Nat->Prop)(Z:aC):Row R Z [] []:=⟨rfl,rfl,fun i d h=>by simp at h⟩
theorem Row.keep{R R':Nat->Prop}{Z V:aC}(h:∀b cs,R b->Z.cells b=some cs->V.cells b=some cs/\R' b){cs:List Value}{ds:List D}(hr:Row R Z cs ds):Row R' V cs ds:=⟨hr.1,hr.2.1,fun i d hd=>(hr.2.2 i d hd).keep h⟩
theorem aL.agg{R:Nat->Prop}{Z:aC}{v:Value}{d:D}(h:aL R Z v d):∃l:List Value,v=.agg l.toArray/\l.length=4/\l.all oneCell=true:=by
 obtain⟨k,n,t,ds⟩:=d
 obtain⟨p,c,rfl,_⟩:=h
 exact⟨_,rfl,rfl,rfl⟩
theorem Row.snoc{R:Nat->Prop}{Z:aC}{cs l:List Value}{ds:List D}{d:D}(hr:Row R Z cs ds)(hl:l.length=4)(ho:l.all oneCell=true)(hd:aL R Z (.agg l.toArray) d):Row R Z (cs++l) (ds++[d]):=by
 refine⟨by simp[hr.1,hl];omega,by simp[hr.2.1,ho],fun i e he=>?_⟩
 by_cases hi:i<ds.length
 .rw[List.getElem?_append_left hi] at he
  have:=hr.2.2 i e he
  rwa [List.drop_append_of_le_length (by rw[hr.1];omega),List.take_append_of_le_length (by rw[List.length_drop,hr.1];omega)]
 .rw[List.getElem?_append_right (by omega)] at he
  obtain rfl:i=ds.length:=by
   have:i-ds.length<1:=(List.getElem?_eq_some_iff.1 he).1
   omega
  simp at he
  subst he
  rw[<-hr.1,List.drop_left,List.take_of_length_le (by omega)]
  exact hd
theorem Row.elems{R R':Nat->Prop}{Z:aC}{cs:List Value}{ds:List D}(hr:Row R Z cs ds){b:Nat}(hb:Z.cells b=some cs)(hR:R' b)(hRR:∀c,R c->R' c):∀(i:Nat) (es:List D),(∀j e,es[j]? = some e->ds[i+j]? = some e)->aO R' Z (some ⟨b,0,none⟩) i es
 | _,[],_=>trivial
 | i,e::es,h=>by
  have h0:=h 0 e rfl
  have hlt:i+0<ds.length:=(List.getElem?_eq_some_iff.1 h0).1
  refine⟨⟨b,0,cs,rfl,hR,hb,by rw[hr.1];omega,?_⟩,Row.elems hr hb hR hRR (i+1) es fun j e' hj=>?_⟩
  .have:=hr.2.2 i e h0
   rw[Nat.zero_add]
   exact this.keep fun c cs hc h=>⟨h,hRR c hc⟩
  .have:=h (j+1) e' (by simpa using hj)
   rwa [show i+1+j=i+(j+1) by omega]
theorem Ei(Z:aC)(b off n:Nat):loadAll Z b off n=(match Z.cells b with|some c=>if n<=c.length-off then some ((c.drop off).take n) else none|none=>none):=by
 unfold loadAll
 cases Z.cells b with
 | none=>rfl
 | some c=>simp only[Hb,Hv,List.length_drop]
theorem IR(e size bytes bx cx:Nat)(new:List Value)(Z:aC)(hx:Z.cells bx=some new)(hs:new.length=size)(ho:new.all oneCell=true)(hb:bytes<1000):
  fappend e size bytes (.slice none 0 0) (.slice (some ⟨bx,0,none⟩) 1 cx) Z=.val (.slice (some ⟨Z.next,0,none⟩) 1 1) (Z.push (.cells new e) (some size)):=by
 unfold fappend fnew
 simp only[Ei,hx,List.drop_zero,Nat.one_mul,Nat.sub_zero,hs,Nat.le_refl,if_true]
 rw[show new.take size=new from List.take_of_length_le (by omega),ho]
 show fappend2 e size bytes 0 0 none 1 new Z=_
 unfold fappend2
 rw[show Nat.ble (0+1) 0=false from rfl,show Nat.ble ((0+1)*(bytes+1)) 1000000000=true by rw[Nat.ble_eq];omega]
 rfl
theorem Kw(e size bytes b bx cx len ver:Nat)(old new:List Value)(Z:aC)(hb:Z.heap.get b=some ⟨.cells old e,false,some size,ver⟩)(hx:Z.cells bx=some new)(hs:new.length=size)(ho:new.all oneCell=true)(hold:old.length=len*size)(hby:bytes<1000)(hlen:len<1000):
  fappend e size bytes (.slice (some ⟨b,0,none⟩) len len) (.slice (some ⟨bx,0,none⟩) 1 cx) Z=.val (.slice (some ⟨(Z.put b (.defd false) none).next,0,none⟩) (len+1) (len+1)) ((Z.put b (.defd false) none).push (.cells (old++new) e) (some size)):=by
 have hc:=Aq hb
 unfold fappend fnew
 simp only[Ei,hx,List.drop_zero,Nat.one_mul,Nat.sub_zero,hs,Nat.le_refl,if_true]
 rw[show new.take size=new from List.take_of_length_le (by omega),ho]
 show fappend2 e size bytes len len (some ⟨b,0,none⟩) 1 new Z=_
 unfold fappend2
 have hm:(len+1)*(bytes+1)<=1000*1000:=Nat.mul_le_mul (by omega) (by omega)
 rw[show Nat.ble (len+1) len=false by rw[<-Bool.not_eq_true,Nat.ble_eq];omega,show Nat.ble ((len+1)*(bytes+1)) 1000000000=true by rw[Nat.ble_eq];omega]
 show fappendGrow e size len len (some ⟨b,0,none⟩) 1 new Z=_
 unfold fappendGrow
 simp only[Ei,hc,hb,List.drop_zero,Nat.sub_zero,hold,Nat.le_refl,if_true]
 rw[show Nat.beq len len=true by rw[Nat.beq_eq],show Nat.beq size size=true by rw[Nat.beq_eq],List.take_of_length_le (by omega)]
 rfl
end Go.Eng
namespace Go.Eng
open Go
section
variable (P:Program) (E:Env) (rs:List ResultVar) (a:aY) (u:Option FrameMode) (Z:aC)
theorem Un(g:FuncId)(first cap:Array Value)(args:List Value):fcallV (.func (.func g) first cap) args Z=.enter g (first.toList++args++cap.toList) Z:=rfl
theorem Up(g:FuncId)(first cap:Array Value)(args:List Value):fdefer (.func (.func g) first cap) args Z=.defer { target:=.fn (.func g) cap,args:=(first.toList++args).toArray } Z:=rfl
theorem Tu(nl nt:Nat)(f g:Nat->Value)(ds:List Deferred)(d:Deferred)(k:aZ):afterOp E none none (Sl nl nt f g ds) u k (.defer d Z)=k (Sl nl nt f g (d::ds)) u Z:=rfl
theorem NR(dst:Option Tmp)(k:aZ):afterOp E none dst a (some .returning) k (.recover Z)=k (a.put dst .nilIface) (some .returning) Z:=rfl
theorem AcM(f:FuncId)(cap args:Array Value)(ds:List Deferred):fleave P E rs a u ({ target:=.fn (.func f) cap,args:=args }::ds) .returning Z=
  (match E.call f (args.toList++cap.toList) (some .returning) Z with
   | .ret _ (some md') Z=>fleave P E rs a u ds (unrecovered md') Z
   | .pan ch (some md') Z=>fleave P E rs a u ds (raised md' ch) Z
   | _=>.no):=rfl
theorem G9:unrecovered .returning=.returning:=rfl
theorem Av:fresults P [] a Z=some []:=rfl
theorem Au(r:ResultVar):fresults P (r::rs) a Z=(match fresult P r a Z,fresults P rs a Z with|some v,some vs=>some (v::vs)|_,_=>none):=rfl
theorem AU(t:Tmp):fresult P (.tmp t) a Z=some (a.get t):=rfl
theorem AH(c:Tmp)(t:TypeId):fresult P (.cell c t) a Z=(match aggSize P t with
  | some sz=>(match aG sz (a.get c) Z with
   | .val v _=>some v
   | _=>none)
  | none=>none):=rfl
theorem Xo:fleave P E [] a u [] .returning Z=.ret (.tuple #[]) u Z:=rfl
theorem Uq(i:Nat)(l:List Value):aJ i (.tuple l.toArray) Z=(match l[i]? with|some x=>.val x Z|none=>.no):=by
 unfold aJ
 simp only[List.getElem?_toArray]
 cases l[i]?<;>rfl
end
end Go.Eng
namespace Go.Eng
open Go
theorem AcS(P:Program)(t e size b off ln cap h:Nat)(Z:aC)(hu:under P t=some (.slice e))(hs:bN P e=some size)(hh:h<=cap)(c:List Value)(el:TypeId)(ro:Bool)(fz:Option Nat)(ver:Nat)(hb:Z.heap.get b=some ⟨.cells c el,ro,fz,ver⟩)(hfz:fz=none\/fz=some size):
  fslice P t (.slice (some ⟨b,off,none⟩) ln cap) none (some (.int .i64 (.ofNat h))) none Z=.val (.slice (some ⟨b,off,none⟩) h cap) Z:=by
 have hc:capOk size none b Z=true:=by
  unfold capOk
  simp only[hb]
  rcases hfz with rfl|rfl
  .rfl
  .show Nat.beq size size=true
   rw[Nat.beq_eq]
 have hbd:bounds3 ln cap none (some (.int .i64 (.ofNat h))) none=some (0,h,cap):=by
  show (match hiOf ln cap (some (.int .i64 (.ofNat h))) none with|none=>none|some h=>(match loOf h none with|none=>none|some l=>some (l,h,cap)))=_
  have:hiOf ln cap (some (.int .i64 (.ofNat h))) none=some h:=by
   show cond (Nat.ble h cap) (some h) none=some h
   rw[show Nat.ble h cap=true by rw[Nat.ble_eq];exact hh]
   rfl
  rw[this]
  rfl
 unfold fslice
 simp only[hu,hs]
 unfold fsliceL
 simp only[hbd,hc]
 show ORes.val (.slice (some ⟨b,off+0*size,none⟩) (h-0) (cap-0)) Z=_
 simp
theorem UH(P:Program)(t e size b off ln cap h:Nat)(Z:aC)(hu:under P t=some (.slice e))(hs:bN P e=some size)(hh:h<=cap):
  fslice P t (.slice (some ⟨b,off,none⟩) ln cap) none (some (.int .i64 (.ofNat h))) (some (.int .i64 (.ofNat h))) Z=.val (.slice (some ⟨b,off,none⟩) h h) Z:=by
 have hbd:bounds3 ln cap none (some (.int .i64 (.ofNat h))) (some (.int .i64 (.ofNat h)))=some (0,h,h):=by
  have h1:mxOf cap (some (.int .i64 (.ofNat h)))=some h:=by
   show cond (Nat.ble h cap) (some h) none=some h
   rw[show Nat.ble h cap=true by rw[Nat.ble_eq];exact hh]
   rfl
  have h2:hiOf ln h (some (.int .i64 (.ofNat h))) (some (.int .i64 (.ofNat h)))=some h:=by
   show cond (Nat.ble h h) (some h) none=some h
   rw[show Nat.ble h h=true by rw[Nat.ble_eq];exact Nat.le_refl _]
   rfl
  unfold bounds3
  rw[h1]
  simp only[h2]
  rfl
 unfold fslice
 simp only[hu,hs]
 unfold fsliceL
 simp only[hbd]
 show ORes.val (.slice (some ⟨b,off+0*size,none⟩) (h-0) (h-0)) Z=_
 simp
theorem PS(e bytes b bx cx len cap ver:Nat)(fz:Option Nat)(el:TypeId)(c:List Value)(v:Value)(Z:aC)(hb:Z.heap.get b=some ⟨.cells c el,false,fz,ver⟩)(hx:Z.cells bx=some [v])(ho:oneCell v=true)(hlt:len<cap)(hc:cap<=c.length):
  fappend e 1 bytes (.slice (some ⟨b,0,none⟩) len cap) (.slice (some ⟨bx,0,none⟩) 1 cx) Z=.val (.slice (some ⟨b,0,none⟩) (len+1) cap) (Z.put b (.cells (c.set len v) el) fz):=by
 unfold fappend fnew
 simp only[Ei,hx,List.drop_zero,Nat.one_mul,Nat.sub_zero,List.length_singleton,Nat.le_refl,if_true]
 show cond ([v].all oneCell) (fappend2 e 1 bytes len cap (some ⟨b,0,none⟩) 1 [v] Z) .no=_
 rw[show [v].all oneCell=true by simp[ho]]
 show fappend2 e 1 bytes len cap (some ⟨b,0,none⟩) 1 [v] Z=_
 unfold fappend2
 rw[show Nat.ble (len+1) cap=true by rw[Nat.ble_eq];omega]
 show fappendRoom 1 len cap (some ⟨b,0,none⟩) 1 [v] Z=_
 unfold fappendRoom
 simp only[hb,D2,List.length_singleton,Nat.mul_one,Nat.zero_add]
 rw[if_pos (by omega)]
 simp only[]
 congr 3
 rw[List.set_eq_take_append_cons_drop,if_pos (by omega)]
 simp
theorem PR(e bytes b bx cx len ver:Nat)(fz:Option Nat)(old:List Value)(v:Value)(Z:aC)(hb:Z.heap.get b=some ⟨.cells old e,false,fz,ver⟩)(hfz:fz=none\/fz=some 1)(hx:Z.cells bx=some [v])(ho:oneCell v=true)(hl:old.length=len)(hby:bytes<1000)(hlen:len<100000):
  ∃τ,fappend e 1 bytes (.slice (some ⟨b,0,none⟩) len len) (.slice (some ⟨bx,0,none⟩) 1 cx) Z=.val (.slice (some ⟨Z.next,0,none⟩) (len+1) (len+1)) τ/\(τ=Z.push (.cells (old++[v]) e) (some 1)\/τ=(Z.put b (.defd false) none).push (.cells (old++[v]) e) (some 1)):=by
 have hc:=Aq hb
 unfold fappend fnew
 simp only[Ei,hx,List.drop_zero,Nat.one_mul,Nat.sub_zero,List.length_singleton,Nat.le_refl,if_true]
 have h1:(List.take 1 [v]).all oneCell=true:=by simp[ho]
 rw[h1]
 show ∃τ,fappend2 e 1 bytes len len (some ⟨b,0,none⟩) 1 [v] Z=_/\_
 have hm:(len+1)*(bytes+1)<=100000*1000:=Nat.mul_le_mul (by omega) (by omega)
 unfold fappend2
 rw[show Nat.ble (len+1) len=false by rw[<-Bool.not_eq_true,Nat.ble_eq];omega,show Nat.ble ((len+1)*(bytes+1)) 1000000000=true by rw[Nat.ble_eq];omega]
 show ∃τ,fappendGrow e 1 len len (some ⟨b,0,none⟩) 1 [v] Z=_/\_
 unfold fappendGrow
 simp only[Ei,hc,hb,List.drop_zero,Nat.sub_zero,Nat.mul_one,hl,Nat.le_refl,if_true]
 rw[List.take_of_length_le (by omega)]
 rcases hfz with rfl|rfl
 .exact⟨_,rfl,.inl rfl⟩
 .rw[show Nat.beq len len=true by rw[Nat.beq_eq]]
  exact⟨_,rfl,.inr rfl⟩
attribute [go_sem_proc ↓] reduceIte
attribute [go_sem] List.getElem?_cons_zero List.getElem?_cons_succ Option.getD_some
attribute [go_sem_proc] Nat.reduceLT Nat.reduceEqDiff Nat.reduceAdd Nat.reduceMul Nat.reduceLeDiff Nat.reduceSub
attribute [go_sem] DS  D7  CW  DF  DE  BF  CS  DR  Ag  CT  Ce  BB  Bh  Cd  Az  A0  AR  C3          C2  C0  Cg  BD  Cn  A9  Co  Ac  Bk  Aw  BA  D3  Bj  Ba  Bb  AJ  AY  AG  AE  Bd  Be  AL  AZ  AQ  AF  Ch  D5  D6  Ah  Ak  cells?_cells  DH  CY  DG  CX  DC  DP  DL  DK  DJ  DI  DA  DT  DM  DD  DQ  D8  CU  CV  Nat.add_zero  Nat.zero_add  Nat.add_left_cancel_iff  Nat.add_eq_left  Nat.left_eq_add  List.getElem?_cons_zero  List.getElem?_cons_succ  beq_self_eq_true  Bool.not_true  Bool.not_false  cond_true  cond_false  BG  AX  Ci  BH  BI  Cf  Bool.false_eq_true  CR  AW  BC  Bi  CZ  BX  List.not_mem_nil  or_false  or_true  List.cons_append  List.nil_append  DB  DN  DU  Cm  Ck  C8  A_  Dn  Ai  Am  List.set_cons_zero  List.set_cons_succ  List.length_cons  List.length_nil  Bf  AP  Bc  AC  AK  Un  Up  List.toList_toArray  Tu  NR  AcM  G9  Xo  Uq  Nat.add_assoc  AoZ  AfJ  OH  LU  PH  PG  Xn  List.take_zero  List.take_succ_cons  List.drop_zero  List.drop_succ_cons  List.drop_nil  List.take_nil  List.append_nil  Nat.zero_mul  Nat.one_mul      and_self  true_and    Nat.sub_zero  List.all_cons  List.all_nil  Bool.and_self  Bool.and_true  Nat.mul_one  PN  Aut  Om  AwJ  Bl  AwH  Fe
end Go.Eng
namespace Go.Proofs.YtknnbjmcfibpgaaGreatDoor
section
open Go Go.Eng
def nls:Hints:=[(0,[]),(0,[]),(0,[]),(18,[108]),(31,[55,56,57,58,59,60,61,62,63,64,65,66,67,68,69,70,71,72,73,74,75,76,77,78,79,80,81,82,83,84,85,86,87,88,89,90,91,92,93,94,95,96,97,98,99,100,101,102,103,104,105,106,107,108,109,110,111,112,113,114,115,116,117,118,119,120,121,122,123,124,125,126,127,128,129,130,131,132,133,134,135,136,137,138,139,140,141,142,143,144,145,146,147,148,149,150,151,152,153,154,155,156,157,158,159,160,161,162,163,164,165,166,167,168,169,170,171,172,173,174,175,176,177,178,179,180,181,182,183,184,185,186,187,188,189,190,191,192,193,194,195,196,197,198,199,200,201,202,203,204,205,206,207,208,209,210,211,212,213,214,215,216,217,218,219]),(33,[219]),(2,[]),(20,[]),(7,[61,62,63,64,65,66,67,68,69,70]),(2,[]),(5,[30]),(6,[]),(8,[]),(2,[]),(5,[]),(5,[]),(4,[]),(6,[]),(4,[]),(6,[]),(7,[21]),(5,[19]),(2,[]),(7,[]),(2,[]),(6,[21,22,23,24,25,26]),(6,[]),(4,[]),(9,[]),(2,[]),(9,[37]),(7,[32]),(7,[32]),(2,[]),(4,[]),(9,[]),(6,[]),(11,[]),(4,[]),(7,[]),(6,[]),(6,[]),(7,[30]),(4,[]),(0,[]),(2,[]),(2,[]),(0,[]),(2,[]),(6,[]),(4,[]),(4,[]),(2,[]),(2,[]),(4,[]),(2,[]),(2,[]),(4,[]),(2,[]),(4,[]),(6,[]),(4,[]),(7,[]),(3,[]),(6,[]),(5,[]),(9,[31,32,33]),(7,[]),(1,[]),(8,[]),(2,[]),(5,[28]),(7,[]),(1,[]),(6,[]),(2,[]),(4,[]),(7,[]),(1,[]),(2,[]),(5,[]),(5,[19,20]),(7,[]),(5,[5,6,7,17,19,20,21,22]),(2,[]),(7,[]),(5,[]),(6,[]),(2,[]),(6,[]),(3,[]),(4,[]),(6,[]),(2,[]),(7,[7,8,9,32]),(9,[]),(9,[52]),(7,[]),(2,[]),(8,[]),(10,[37]),(5,[19]),(7,[]),(4,[]),(7,[]),(2,[]),(12,[]),(2,[]),(6,[]),(5,[]),(6,[]),(4,[]),(5,[]),(2,[]),(5,[]),(3,[]),(7,[]),(2,[]),(8,[74]),(5,[]),(6,[]),(5,[]),(7,[14,15,28]),(4,[]),(2,[]),(5,[]),(2,[]),(5,[]),(4,[]),(2,[]),(4,[]),(4,[]),(5,[]),(4,[]),(7,[]),(6,[]),(4,[]),(8,[]),(4,[]),(4,[]),(2,[]),(1,[]),(6,[]),(19,[]),(2,[]),(6,[]),(5,[]),(4,[]),(6,[]),(4,[]),(6,[]),(4,[]),(6,[]),(2,[]),(10,[15,16,17]),(6,[]),(2,[]),(8,[]),(4,[13,14]),(5,[6]),(8,[13,14]),(11,[27,28,29,30,31,32,33,34,35,36,37,38,39,40,41,42,43,44,45,46,47,48,49,50,51,52,53,54]),(11,[]),(13,[]),(8,[]),(11,[15,16,35,36,37,38,39,40,41,42,43,44,45,46,47,48,49,50,51,52,53,54,55,56,57,58,59,60,61,62,63,64,65,66,67,68,69,70,71,72,73,74,75,76,77,78,79,80,81,82,83,84,85,86,87,88,89,90,91,92,93,94,95,96,97,98,99,100,101,102,103,104,105,106,107,108,109,110,111,112,113,114,115,116,117,118,119,120,121,122,123,124,125,126,127,128,129,130,131,132]),(4,[]),(11,[46,47,48,49,50,51,52,53,54,55,56,57,58,59,60,61,62,63,64,65,66,67,68,69,70,71,72,73,74,75,76,77,78,79,80,81,82,83]),(12,[46,47,48,49,50,51,52,53,54,55,56,57,58,59,60,61,62,63,64,65,66,67,68,69,70,71,72,73,74,75,76,77,78,79,80,81,82,83,84,85,86,87,88,89,90,91,92,93,94,95,96,97,98,99,100,101,102,103,104,105,106,107,108,109,110,111,112,113,114,115,116,117,118,119,120,121,122,123,124,125,126,127,128,129,130,131,132,133,134,135,136,137,138,139,140,141,142,143,144,145,146,147,148,149,150,151,152,153,154,155,156,157,158,159,160,161,162,163,164,165,166,167]),(3,[]),(3,[]),(2,[]),(1,[]),(1,[]),(1,[]),(16,[48,49,50]),(2,[]),(10,[]),(2,[]),(2,[]),(6,[]),(10,[]),(2,[]),(1,[]),(1,[]),(2,[]),(4,[]),(8,[]),(17,[17,18,19,20,21,22,23,24,25,26,27,28,29,30,31,32,33,34,35,36,37,38,39,40,41,42,43,44,45,46,47,48,49,50,51,52,53,54,55,56,57,58,59,60,61,62,63,64,65,66,67,68,69,70,71,72,73,74,75,76,77,78,79,80,81,82,83,84,85,86,87,88,89,90,91,92,93,94,95,96,97,98,99,100,101,102,103,104,105,106,107,108,109,110,111,112,113,114,115,116,117,118,119,120,121,122,123,124,125,126,127,128,129,130,131,132,133,134,135,136,137,138,139,140,141,142,143,144,145,146,147,148,149,150,151,152,153,154,155,156,157,158,159,175]),(4,[]),(2,[]),(2,[]),(2,[]),(4,[]),(2,[]),(1,[]),(1,[]),(1,[]),(1,[]),(1,[]),(1,[]),(1,[]),(1,[]),(1,[]),(1,[]),(1,[]),(1,[]),(1,[]),(1,[]),(1,[]),(1,[]),(1,[]),(1,[]),(2,[]),(4,[]),(4,[]),(4,[]),(2,[]),(1,[]),(2,[]),(4,[]),(2,[]),(4,[]),(2,[]),(4,[]),(11,[11,12,13,34,35,36,37,38]),(1,[]),(1,[]),(1,[]),(1,[]),(2,[]),(1,[]),(1,[]),(2,[]),(1,[]),(1,[]),(1,[]),(1,[]),(1,[]),(1,[]),(1,[]),(0,[]),(0,[]),(0,[]),(0,[])]
def sums:Sums:=fun f args Z=>
 cond (Nat.beq f 157) (match args with
  | [.nilIface,_]=>some (.ret (.bool false) none Z)
  | [.iface t (.agg cs),.iface pt p]=>cond (Nat.beq t 171&&Nat.beq pt 190) (match cs.toList with
   | [x,y]=>(match aK 2 p (.agg #[x,y]) Z with|.skip V=>some (.ret (.bool true) none V)|_=>none)
   | _=>none) none
  | _=>none) none
def env(n:Nat):Env:=fenv Tryz.prog sums nls n
theorem Al(n:Nat)(f:FuncId)(args:List Value)(Z:aC)(h:Nat.beq f 157=false):(env (n+1)).call f args none Z=bD Tryz.prog nls (env n) f args none Z:=AcG _ _ _ _ _ _ _ (by
 unfold sums
 rw[h]
 rfl)
theorem Avr(n:Nat)(x y p:Value)(Z V:aC)(h:aK 2 p (.agg #[x,y]) Z=.skip V):(env (n+1)).call 157 [.iface 171 (.agg #[x,y]),.iface 190 p] none Z=.ret (.bool true) none V:=by
 show fcallS Tryz.prog sums nls (fenv Tryz.prog sums nls n) 157 [.iface 171 (.agg #[x,y]),.iface 190 p] none Z=_
 unfold fcallS
 have e:sums 157 [.iface 171 (.agg #[x,y]),.iface 190 p] Z=some (.ret (.bool true) none V):=by
  show (match aK 2 p (.agg #[x,y]) Z with|.skip V=>some (CRes.ret (.bool true) none V)|_=>none)=_
  rw[h]
 rw[e]
theorem Hz(n:Nat)(f:FuncId)(args:List Value)(md:FrameMode)(Z:aC):(env (n+1)).call f args (some md) Z=bD Tryz.prog nls (env n) f args (some md) Z:=W7 _ _ _ _ _ _ _ _
theorem AcF(n l:Nat)(args:List Value)(Z:aC):(env (n+1)).round l args Z=fround Tryz.prog nls (env n) l args Z:=W8 _ _ _ _ _ _ _
variable (E:Env) (ro:Option Nat) (last:List Nat->aZ) (cl:List Nat) (a:aY) (u:Option FrameMode) (Z:aC)
def tT(_:aY):Option Bool:=some true
attribute [go_sem] tT
def Kh(_:Unit):List COp:=[⟨fun a Z=>fbox 24 (a.get 0) Z,some 2,tT⟩,
 ⟨fun a Z=>fbox 24 (a.get 1) Z,some 3,tT⟩,
 ⟨fun a Z=>.val (.bool false) Z,some 4,tT⟩]
def AqC:List COp:=Kh ()
def Ki(_:Unit):List COp:=[⟨fun a Z=>aH 0 (a.get 2) Z,some 5,tT⟩,
 ⟨fun a Z=>aG none (a.get 5) Z,some 6,tT⟩,
 ⟨fun a Z=>aH 0 (a.get 3) Z,some 7,tT⟩,
 ⟨fun a Z=>aG none (a.get 7) Z,some 8,tT⟩,
 ⟨fun a Z=>bO Tryz.prog 3 (.tmp 6) (.tmp 8) (a.get 6) (a.get 8) Z,some 9,tT⟩,
 ⟨fun a Z=>.val (a.get 9) Z,some 10,tT⟩,
 ⟨fun a Z=>aH 1 (a.get 2) Z,some 11,fun a=>gd (a.get 10) true⟩,
 ⟨fun a Z=>aG none (a.get 11) Z,some 12,fun a=>gd (a.get 10) true⟩,
 ⟨fun a Z=>aH 1 (a.get 3) Z,some 13,fun a=>gd (a.get 10) true⟩,
 ⟨fun a Z=>aG none (a.get 13) Z,some 14,fun a=>gd (a.get 10) true⟩,
 ⟨fun a Z=>bO Tryz.prog 3 (.tmp 12) (.tmp 14) (a.get 12) (a.get 14) Z,some 15,fun a=>gd (a.get 10) true⟩,
 ⟨fun a Z=>bM (a.get 10) (a.get 15) (.bool false) Z,some 16,tT⟩,
 ⟨fun a Z=>.val (a.get 16) Z,some 17,tT⟩,
 ⟨fun a Z=>aH 2 (a.get 2) Z,some 18,fun a=>gd (a.get 17) true⟩,
 ⟨fun a Z=>aG none (a.get 18) Z,some 19,fun a=>gd (a.get 17) true⟩,
 ⟨fun a Z=>aH 2 (a.get 3) Z,some 20,fun a=>gd (a.get 17) true⟩,
 ⟨fun a Z=>aG none (a.get 20) Z,some 21,fun a=>gd (a.get 17) true⟩,
 ⟨fun a Z=>bO Tryz.prog 9 (.tmp 19) (.tmp 21) (a.get 19) (a.get 21) Z,some 22,fun a=>gd (a.get 17) true⟩,
 ⟨fun a Z=>bM (a.get 17) (a.get 22) (.bool false) Z,some 23,tT⟩,
 ⟨fun a Z=>.val (a.get 23) Z,some 24,tT⟩,
 ⟨fun a Z=>aH 3 (a.get 2) Z,some 25,fun a=>gd (a.get 24) true⟩,
 ⟨fun a Z=>aG none (a.get 25) Z,some 26,fun a=>gd (a.get 24) true⟩,
 ⟨fun a Z=>aH 3 (a.get 3) Z,some 27,fun a=>gd (a.get 24) true⟩,
 ⟨fun a Z=>aG none (a.get 27) Z,some 28,fun a=>gd (a.get 24) true⟩,
 ⟨fun a Z=>.enter 26 [(a.get 26),(a.get 28)] Z,some 29,fun a=>gd (a.get 24) true⟩,
 ⟨fun a Z=>bM (a.get 24) (a.get 29) (.bool false) Z,some 30,tT⟩,
 ⟨fun a Z=>.val (a.get 30) Z,some 4,tT⟩]
def AqD:List COp:=Ki ()
def Amn(E:Env)(ro:Option Nat)(fn:FuncId):aZ:=(aF (aD E ro AqC) (aF (aD E ro AqD) bL))
theorem JA:aD E ro AqC a u Z=aD E ro (Kh ()) a u Z:=rfl
theorem JB:aD E ro AqD a u Z=aD E ro (Ki ()) a u Z:=rfl
theorem AuE(E:Env)(ro:Option Nat)(fn:FuncId):code Tryz.prog nls (Tryz.f18.body.getD .skip) E ro fn=Amn E ro fn:=by kernel_rfl
theorem Aob(E:Env)(args:List Value)(u:Option FrameMode)(Z:aC)(hn:args.length<=(4:Nat)):bD Tryz.prog nls E 18 args u Z=aP Tryz.prog E [.tmp 4] (Amn E none 18 ⟨bB undef 4 args,fun _=>undef,4,31,[]⟩ u Z):=by
 rw[Ap (body:=Tryz.f18.body.getD .skip) Tryz.func18 rfl E args u Z 4 31 (by kernel_rfl) rfl ⟨hn,by decide⟩,AuE]
 rfl
def RT(_:Unit):List COp:=[⟨fun a Z=>.val (.bool false) Z,some 4,tT⟩]
def Arj:List COp:=RT ()
def RU(_:Unit):List COp:=[⟨fun a Z=>.val (a.get 0) Z,some 6,tT⟩,
 ⟨fun a Z=>flenL (a.get 6) Z,some 7,tT⟩,
 ⟨fun a Z=>.val (a.get 1) Z,some 8,tT⟩,
 ⟨fun a Z=>flenL (a.get 8) Z,some 9,tT⟩,
 ⟨fun a Z=>i_neq Tryz.prog 3 (.tmp 7) (.tmp 9) (a.get 7) (a.get 9) Z,some 10,tT⟩]
def Ark:List COp:=RU ()
def RV(_:Unit):List COp:=[⟨fun a Z=>.val (.bool false) Z,some 4,tT⟩]
def Arl:List COp:=RV ()
def Yq(_:Unit):List COp:=[⟨fun a Z=>.val (.int .i64 0) Z,some 5,tT⟩]
def Arm:List COp:=Yq ()
def RW(_:Unit):List COp:=[⟨fun a Z=>.val (a.get 5) Z,some 11,tT⟩,
 ⟨fun a Z=>.val (a.get 0) Z,some 12,tT⟩,
 ⟨fun a Z=>flenL (a.get 12) Z,some 13,tT⟩,
 ⟨fun a Z=>i_lss Tryz.prog 3 (.tmp 11) (.tmp 13) (a.get 11) (a.get 13) Z,some 14,tT⟩]
def Arn:List COp:=RW ()
def Ys(_:Unit):List DOp:=[⟨fun a Z=>.val (a.get 0) Z,some 17,tT,some 0,false⟩,
 ⟨fun a Z=>.val (a.get 5) Z,some 18,tT,some 0,false⟩,
 ⟨fun a Z=>bC (none,4) (a.get 17) (a.get 18) Z,some 19,tT,some 0,false⟩,
 ⟨fun a Z=>aG (some 4) (a.get 19) Z,some 20,tT,some 0,false⟩,
 ⟨fun a Z=>.val (a.get 1) Z,some 21,tT,some 0,false⟩,
 ⟨fun a Z=>.val (a.get 5) Z,some 22,tT,some 0,false⟩,
 ⟨fun a Z=>bC (none,4) (a.get 21) (a.get 22) Z,some 23,tT,some 0,false⟩,
 ⟨fun a Z=>aG (some 4) (a.get 23) Z,some 24,tT,some 0,false⟩,
 ⟨fun a Z=>.enter 18 [(a.get 20),(a.get 24)] Z,some 25,tT,none,true⟩,
 ⟨fun a Z=>fun1 Tryz.prog (Op.unary .not) (a.get 25) Z,some 26,tT,some 1,false⟩]
def Arp:List DOp:=Ys ()
def Yt(_:Unit):List COp:=[⟨fun a Z=>.val (.bool false) Z,some 4,tT⟩]
def Arq:List COp:=Yt ()
def Yr(_:Unit):List COp:=[⟨fun a Z=>.val (a.get 5) Z,some 15,tT⟩,
 ⟨fun a Z=>i_add Tryz.prog 3 (.tmp 15) (.const (.int .i64 1)) (a.get 15) (.int .i64 1) Z,some 16,tT⟩,
 ⟨fun a Z=>.val (a.get 16) Z,some 5,tT⟩]
def Aro:List COp:=Yr ()
def Abn(E:Env)(ro:Option Nat)(fn:FuncId):aZ:=(aF (aF (aD E ro Arn) (aN (fun a=>(a.get 14)) aV (exitR 0))) (aF (aW 1 (aF (drawR E ro Arp) (aN (fun a=>(a.get 26)) (aF (aD E ro Arq) bL) aV))) (aD E ro Aro)))
def Yu(_:Unit):List COp:=[⟨fun a Z=>.val (.bool true) Z,some 4,tT⟩]
def Arr:List COp:=Yu ()
def Amv(E:Env)(ro:Option Nat)(fn:FuncId):aZ:=(aF (aD E ro Arj) (aF (aF (aD E ro Ark) (aN (fun a=>(a.get 10)) (aF (aD E ro Arl) bL) aV)) (aF (aF (aD E ro Arm) (aW 0 (loopR (bE nls fn) (Abn E ro fn)))) (aF (aD E ro Arr) bL))))
theorem Vn:aD E ro Arj a u Z=aD E ro (RT ()) a u Z:=rfl
theorem Vo:aD E ro Ark a u Z=aD E ro (RU ()) a u Z:=rfl
theorem Vp:aD E ro Arl a u Z=aD E ro (RV ()) a u Z:=rfl
theorem AjO:aD E ro Arm a u Z=aD E ro (Yq ()) a u Z:=rfl
theorem Vq:aD E ro Arn a u Z=aD E ro (RW ()) a u Z:=rfl
theorem AjQ:bI E ro last Arp cl a u Z=bI E ro last (Ys ()) cl a u Z:=rfl
theorem AjR:aD E ro Arq a u Z=aD E ro (Yt ()) a u Z:=rfl
theorem AjP:aD E ro Aro a u Z=aD E ro (Yr ()) a u Z:=rfl
theorem AjS:aD E ro Arr a u Z=aD E ro (Yu ()) a u Z:=rfl
theorem AuM(E:Env)(ro:Option Nat)(fn:FuncId):code Tryz.prog nls (Tryz.f26.body.getD .skip) E ro fn=Amv E ro fn:=by kernel_rfl
theorem Aoj(E:Env)(args:List Value)(u:Option FrameMode)(Z:aC)(hn:args.length<=(6:Nat)):bD Tryz.prog nls E 26 args u Z=aP Tryz.prog E [.tmp 4] (Amv E none 26 ⟨bB undef 6 args,fun _=>undef,6,27,[]⟩ u Z):=by
 rw[Ap (body:=Tryz.f26.body.getD .skip) Tryz.func26 rfl E args u Z 6 27 (by kernel_rfl) rfl ⟨hn,by decide⟩,AuM]
 rfl
def Zp(_:Unit):List COp:=[⟨fun a Z=>.val (.int .u64 0) Z,some 2,tT⟩]
def As2:List COp:=Zp ()
def Zq(_:Unit):List COp:=[⟨fun a Z=>.val (a.get 0) Z,some 4,tT⟩,
 ⟨fun a Z=>bJ (a.get 4) Z,some 5,tT⟩,
 ⟨fun a Z=>aH 1 (a.get 5) Z,some 6,tT⟩,
 ⟨fun a Z=>aG none (a.get 6) Z,some 7,tT⟩,
 ⟨fun a Z=>fun1 Tryz.prog (convert 3 82) (a.get 7) Z,some 8,tT⟩,
 ⟨fun a Z=>i_add Tryz.prog 82 (.tmp 8) (.const (.int .u64 1376283091369227076)) (a.get 8) (.int .u64 1376283091369227076) Z,some 9,tT⟩,
 ⟨fun a Z=>.val (a.get 9) Z,some 3,tT⟩]
def As3:List COp:=Zq ()
def SA(_:Unit):List DOp:=[⟨fun a Z=>.val (a.get 0) Z,some 10,tT,some 0,false⟩,
 ⟨fun a Z=>bJ (a.get 10) Z,some 11,tT,some 0,false⟩,
 ⟨fun a Z=>aH 1 (a.get 11) Z,some 12,tT,some 0,false⟩,
 ⟨fun a Z=>aG none (a.get 12) Z,some 13,tT,some 0,false⟩,
 ⟨fun a Z=>.val (a.get 0) Z,some 14,tT,some 0,false⟩,
 ⟨fun a Z=>bJ (a.get 14) Z,some 15,tT,some 0,false⟩,
 ⟨fun a Z=>aH 0 (a.get 15) Z,some 16,tT,some 0,false⟩,
 ⟨fun a Z=>aG none (a.get 16) Z,some 17,tT,some 0,false⟩,
 ⟨fun a Z=>flenL (a.get 17) Z,some 18,tT,some 0,false⟩,
 ⟨fun a Z=>i_lss Tryz.prog 3 (.tmp 13) (.tmp 18) (a.get 13) (a.get 18) Z,some 19,tT,some 0,false⟩]
def Ak3:List DOp:=SA ()
def Zr(_:Unit):List DOp:=[⟨fun a Z=>.val (a.get 3) Z,some 20,tT,some 0,false⟩,
 ⟨fun a Z=>.val (a.get 0) Z,some 21,tT,some 0,false⟩,
 ⟨fun a Z=>bJ (a.get 21) Z,some 22,tT,some 0,false⟩,
 ⟨fun a Z=>aH 0 (a.get 22) Z,some 23,tT,some 0,false⟩,
 ⟨fun a Z=>aG none (a.get 23) Z,some 24,tT,some 0,false⟩,
 ⟨fun a Z=>.val (a.get 0) Z,some 25,tT,some 0,false⟩,
 ⟨fun a Z=>bJ (a.get 25) Z,some 26,tT,some 0,false⟩,
 ⟨fun a Z=>aH 1 (a.get 26) Z,some 27,tT,some 0,false⟩,
 ⟨fun a Z=>aG none (a.get 27) Z,some 28,tT,some 0,false⟩,
 ⟨fun a Z=>bC (none,1) (a.get 24) (a.get 28) Z,some 29,tT,some 0,false⟩,
 ⟨fun a Z=>aG none (a.get 29) Z,some 30,tT,some 0,false⟩,
 ⟨fun a Z=>fun1 Tryz.prog (convert 3 82) (a.get 30) Z,some 31,tT,some 0,false⟩,
 ⟨fun a Z=>i_mul Tryz.prog 82 (.tmp 31) (.const (.int .u64 11820040416388919761)) (a.get 31) (.int .u64 11820040416388919761) Z,some 32,tT,some 0,false⟩,
 ⟨fun a Z=>fbin0 Tryz.prog .xor 82 (.tmp 20) (.tmp 32) (a.get 20) (a.get 32) Z,some 33,tT,some 0,false⟩,
 ⟨fun a Z=>.val (a.get 33) Z,some 3,tT,some 0,false⟩]
def Ak4:List DOp:=Zr ()
def Zt(_:Unit):List COp:=[⟨fun a Z=>.val (a.get 0) Z,some 34,tT⟩,
 ⟨fun a Z=>bJ (a.get 34) Z,some 35,tT⟩,
 ⟨fun a Z=>aH 1 (a.get 35) Z,some 36,tT⟩,
 ⟨fun a Z=>aG none (a.get 36) Z,some 37,tT⟩,
 ⟨fun a Z=>i_add Tryz.prog 3 (.tmp 37) (.const (.int .i64 1)) (a.get 37) (.int .i64 1) Z,some 38,tT⟩,
 ⟨fun a Z=>bJ (a.get 34) Z,some 39,tT⟩,
 ⟨fun a Z=>aH 1 (a.get 39) Z,some 40,tT⟩,
 ⟨fun a Z=>aK 1 (a.get 40) (a.get 38) Z,none,tT⟩]
def As4:List COp:=Zt ()
def Zu(_:Unit):List COp:=[⟨fun a Z=>.val (a.get 0) Z,some 41,tT⟩,
 ⟨fun a Z=>.val (a.get 0) Z,some 42,tT⟩,
 ⟨fun a Z=>bJ (a.get 42) Z,some 43,tT⟩,
 ⟨fun a Z=>aH 2 (a.get 43) Z,some 44,tT⟩,
 ⟨fun a Z=>aG none (a.get 44) Z,some 45,tT⟩,
 ⟨fun a Z=>.val (a.get 3) Z,some 46,tT⟩,
 ⟨fun a Z=>i_add Tryz.prog 82 (.tmp 45) (.tmp 46) (a.get 45) (a.get 46) Z,some 47,tT⟩,
 ⟨fun a Z=>i_mul Tryz.prog 82 (.tmp 47) (.const (.int .u64 589684135938649225)) (a.get 47) (.int .u64 589684135938649225) Z,some 48,tT⟩,
 ⟨fun a Z=>bJ (a.get 41) Z,some 49,tT⟩,
 ⟨fun a Z=>aH 2 (a.get 49) Z,some 50,tT⟩,
 ⟨fun a Z=>aK 1 (a.get 50) (a.get 48) Z,none,tT⟩]
def As5:List COp:=Zu ()
def Zv(_:Unit):List DOp:=[⟨fun a Z=>.val (a.get 0) Z,some 51,tT,some 0,false⟩,
 ⟨fun a Z=>.val (a.get 0) Z,some 52,tT,some 0,false⟩,
 ⟨fun a Z=>bJ (a.get 52) Z,some 53,tT,some 0,false⟩,
 ⟨fun a Z=>aH 2 (a.get 53) Z,some 54,tT,some 0,false⟩,
 ⟨fun a Z=>aG none (a.get 54) Z,some 55,tT,some 0,false⟩,
 ⟨fun a Z=>.val (a.get 0) Z,some 56,tT,some 0,false⟩,
 ⟨fun a Z=>bJ (a.get 56) Z,some 57,tT,some 0,false⟩,
 ⟨fun a Z=>aH 2 (a.get 57) Z,some 58,tT,some 0,false⟩,
 ⟨fun a Z=>aG none (a.get 58) Z,some 59,tT,some 0,false⟩,
 ⟨fun a Z=>fbin0 Tryz.prog .shr 82 (.tmp 59) (.const (.int .u64 32)) (a.get 59) (.int .u64 32) Z,some 60,tT,some 0,false⟩,
 ⟨fun a Z=>fbin0 Tryz.prog .xor 82 (.tmp 55) (.tmp 60) (a.get 55) (a.get 60) Z,some 61,tT,some 0,false⟩,
 ⟨fun a Z=>bJ (a.get 51) Z,some 62,tT,some 0,false⟩,
 ⟨fun a Z=>aH 2 (a.get 62) Z,some 63,tT,some 0,false⟩,
 ⟨fun a Z=>aK 1 (a.get 63) (a.get 61) Z,none,tT,none,true⟩]
def As6:List DOp:=Zv ()
def Zw(_:Unit):List COp:=[⟨fun a Z=>.val (a.get 0) Z,some 64,tT⟩,
 ⟨fun a Z=>.val (a.get 0) Z,some 65,tT⟩,
 ⟨fun a Z=>bJ (a.get 65) Z,some 66,tT⟩,
 ⟨fun a Z=>aH 2 (a.get 66) Z,some 67,tT⟩,
 ⟨fun a Z=>aG none (a.get 67) Z,some 68,tT⟩,
 ⟨fun a Z=>i_mul Tryz.prog 82 (.tmp 68) (.const (.int .u64 4983270260364809079)) (a.get 68) (.int .u64 4983270260364809079) Z,some 69,tT⟩,
 ⟨fun a Z=>bJ (a.get 64) Z,some 70,tT⟩,
 ⟨fun a Z=>aH 2 (a.get 70) Z,some 71,tT⟩,
 ⟨fun a Z=>aK 1 (a.get 71) (a.get 69) Z,none,tT⟩]
def As7:List COp:=Zw ()
def Zx(_:Unit):List DOp:=[⟨fun a Z=>.val (a.get 0) Z,some 72,tT,some 0,false⟩,
 ⟨fun a Z=>bJ (a.get 72) Z,some 73,tT,some 0,false⟩,
 ⟨fun a Z=>aH 2 (a.get 73) Z,some 74,tT,some 0,false⟩,
 ⟨fun a Z=>aG none (a.get 74) Z,some 75,tT,some 0,false⟩,
 ⟨fun a Z=>.val (a.get 0) Z,some 76,tT,some 0,false⟩,
 ⟨fun a Z=>bJ (a.get 76) Z,some 77,tT,some 0,false⟩,
 ⟨fun a Z=>aH 2 (a.get 77) Z,some 78,tT,some 0,false⟩,
 ⟨fun a Z=>aG none (a.get 78) Z,some 79,tT,some 0,false⟩,
 ⟨fun a Z=>fbin0 Tryz.prog .shr 82 (.tmp 79) (.const (.int .u64 27)) (a.get 79) (.int .u64 27) Z,some 80,tT,some 0,false⟩,
 ⟨fun a Z=>fbin0 Tryz.prog .xor 82 (.tmp 75) (.tmp 80) (a.get 75) (a.get 80) Z,some 81,tT,some 0,false⟩,
 ⟨fun a Z=>fbin0 Tryz.prog .shr 82 (.tmp 81) (.const (.int .u64 9)) (a.get 81) (.int .u64 9) Z,some 82,tT,some 0,false⟩,
 ⟨fun a Z=>.val (a.get 82) Z,some 2,tT,some 0,false⟩]
def As8:List DOp:=Zx ()
def AmL(E:Env)(ro:Option Nat)(fn:FuncId):aZ:=(aF (aD E ro As2) (aF (aD E ro As3) (aF (aF (drawR E ro Ak3) (aN (fun a=>(a.get 19)) (drawR E ro Ak4) aV)) (aF (aD E ro As4) (aF (aD E ro As5) (aF (drawR E ro As6) (aF (aD E ro As7) (aF (drawR E ro As8) bL))))))))
theorem Ak1:aD E ro As2 a u Z=aD E ro (Zp ()) a u Z:=rfl
theorem Ak2:aD E ro As3 a u Z=aD E ro (Zq ()) a u Z:=rfl
theorem VV:bI E ro last Ak3 cl a u Z=bI E ro last (SA ()) cl a u Z:=rfl
theorem Ak5:bI E ro last Ak4 cl a u Z=bI E ro last (Zr ()) cl a u Z:=rfl
theorem Ak6:aD E ro As4 a u Z=aD E ro (Zt ()) a u Z:=rfl
theorem Ak7:aD E ro As5 a u Z=aD E ro (Zu ()) a u Z:=rfl
theorem Ak8:bI E ro last As6 cl a u Z=bI E ro last (Zv ()) cl a u Z:=rfl
theorem Ak9:aD E ro As7 a u Z=aD E ro (Zw ()) a u Z:=rfl
theorem Ala:bI E ro last As8 cl a u Z=bI E ro last (Zx ()) cl a u Z:=rfl
theorem Au5(E:Env)(ro:Option Nat)(fn:FuncId):code Tryz.prog nls (Tryz.f76.body.getD .skip) E ro fn=AmL E ro fn:=by kernel_rfl
theorem Aoz(E:Env)(args:List Value)(u:Option FrameMode)(Z:aC)(hn:args.length<=(4:Nat)):bD Tryz.prog nls E 76 args u Z=aP Tryz.prog E [.tmp 2] (AmL E none 76 ⟨bB undef 4 args,fun _=>undef,4,83,[]⟩ u Z):=by
 rw[Ap (body:=Tryz.f76.body.getD .skip) Tryz.func76 rfl E args u Z 4 83 (by kernel_rfl) rfl ⟨hn,by decide⟩,Au5]
 rfl
def RG(_:Unit):List COp:=[⟨fun a Z=>.val (.int .i64 0) Z,some 4,tT⟩]
def AqE:List COp:=RG ()
def RH(_:Unit):List COp:=[⟨fun a Z=>.val (a.get 0) Z,some 6,tT⟩,
 ⟨fun a Z=>.enter 76 [(a.get 6)] Z,some 7,tT⟩,
 ⟨fun a Z=>.val (a.get 7) Z,some 5,tT⟩]
def AqF:List COp:=RH ()
def RI(_:Unit):List COp:=[⟨fun a Z=>.val (a.get 1) Z,some 8,tT⟩,
 ⟨fun a Z=>i_lss Tryz.prog 3 (.tmp 8) (.const (.int .i64 1)) (a.get 8) (.int .i64 1) Z,some 9,tT⟩]
def AqG:List COp:=RI ()
def XY(_:Unit):List COp:=[⟨fun a Z=>.val (.int .i64 0) Z,some 4,tT⟩]
def AqH:List COp:=XY ()
def XZ(_:Unit):List COp:=[⟨fun a Z=>.val (a.get 5) Z,some 10,tT⟩,
 ⟨fun a Z=>.val (a.get 1) Z,some 11,tT⟩,
 ⟨fun a Z=>i_add Tryz.prog 3 (.tmp 11) (.const (.int .i64 1)) (a.get 11) (.int .i64 1) Z,some 12,tT⟩,
 ⟨fun a Z=>fun1 Tryz.prog (convert 3 82) (a.get 12) Z,some 13,tT⟩,
 ⟨fun a Z=>fbin0 Tryz.prog .rem 82 (.tmp 10) (.tmp 13) (a.get 10) (a.get 13) Z,some 14,tT⟩,
 ⟨fun a Z=>fun1 Tryz.prog (convert 82 3) (a.get 14) Z,some 15,tT⟩,
 ⟨fun a Z=>.val (a.get 15) Z,some 4,tT⟩]
def AqI:List COp:=XZ ()
def Amo(E:Env)(ro:Option Nat)(fn:FuncId):aZ:=(aF (aD E ro AqE) (aF (aD E ro AqF) (aF (aF (aD E ro AqG) (aN (fun a=>(a.get 9)) (aF (aD E ro AqH) bL) aV)) (aF (aD E ro AqI) bL))))
theorem Va:aD E ro AqE a u Z=aD E ro (RG ()) a u Z:=rfl
theorem Vb:aD E ro AqF a u Z=aD E ro (RH ()) a u Z:=rfl
theorem Vc:aD E ro AqG a u Z=aD E ro (RI ()) a u Z:=rfl
theorem Ajj:aD E ro AqH a u Z=aD E ro (XY ()) a u Z:=rfl
theorem Ajk:aD E ro AqI a u Z=aD E ro (XZ ()) a u Z:=rfl
theorem AuF(E:Env)(ro:Option Nat)(fn:FuncId):code Tryz.prog nls (Tryz.f19.body.getD .skip) E ro fn=Amo E ro fn:=by kernel_rfl
theorem Aoc(E:Env)(args:List Value)(u:Option FrameMode)(Z:aC)(hn:args.length<=(6:Nat)):bD Tryz.prog nls E 19 args u Z=aP Tryz.prog E [.tmp 4] (Amo E none 19 ⟨bB undef 6 args,fun _=>undef,6,16,[]⟩ u Z):=by
 rw[Ap (body:=Tryz.f19.body.getD .skip) Tryz.func19 rfl E args u Z 6 16 (by kernel_rfl) rfl ⟨hn,by decide⟩,AuF]
 rfl
def Y3(_:Unit):List COp:=[⟨fun a Z=>.val (.bool false) Z,some 4,tT⟩]
def Asn:List COp:=Y3 ()
def Y4(_:Unit):List COp:=[⟨fun a Z=>.val (a.get 0) Z,some 5,tT⟩,
 ⟨fun a Z=>.val (a.get 1) Z,some 6,tT⟩,
 ⟨fun a Z=>i_sub Tryz.prog 3 (.tmp 6) (.const (.int .i64 1)) (a.get 6) (.int .i64 1) Z,some 7,tT⟩,
 ⟨fun a Z=>.enter 19 [(a.get 5),(a.get 7)] Z,some 8,tT⟩,
 ⟨fun a Z=>bO Tryz.prog 3 (.tmp 8) (.const (.int .i64 0)) (a.get 8) (.int .i64 0) Z,some 9,tT⟩,
 ⟨fun a Z=>.val (a.get 9) Z,some 4,tT⟩]
def Aso:List COp:=Y4 ()
def AmC(E:Env)(ro:Option Nat)(fn:FuncId):aZ:=(aF (aD E ro Asn) (aF (aD E ro Aso) bL))
theorem AkD:aD E ro Asn a u Z=aD E ro (Y3 ()) a u Z:=rfl
theorem AkE:aD E ro Aso a u Z=aD E ro (Y4 ()) a u Z:=rfl
theorem AuU(E:Env)(ro:Option Nat)(fn:FuncId):code Tryz.prog nls (Tryz.f54.body.getD .skip) E ro fn=AmC E ro fn:=by kernel_rfl
theorem Aoq(E:Env)(args:List Value)(u:Option FrameMode)(Z:aC)(hn:args.length<=(4:Nat)):bD Tryz.prog nls E 54 args u Z=aP Tryz.prog E [.tmp 4] (AmC E none 54 ⟨bB undef 4 args,fun _=>undef,4,10,[]⟩ u Z):=by
 rw[Ap (body:=Tryz.f54.body.getD .skip) Tryz.func54 rfl E args u Z 4 10 (by kernel_rfl) rfl ⟨hn,by decide⟩,AuU]
 rfl
def Ze(_:Unit):List COp:=[⟨fun a Z=>.val (.int .i64 0) Z,some 6,tT⟩]
def AsC:List COp:=Ze ()
def Zf(_:Unit):List COp:=[⟨fun a Z=>.val (a.get 1) Z,some 7,tT⟩,
 ⟨fun a Z=>.val (a.get 0) Z,some 8,tT⟩,
 ⟨fun a Z=>.val (a.get 2) Z,some 9,tT⟩,
 ⟨fun a Z=>.val (a.get 1) Z,some 10,tT⟩,
 ⟨fun a Z=>i_sub Tryz.prog 3 (.tmp 9) (.tmp 10) (a.get 9) (a.get 10) Z,some 11,tT⟩,
 ⟨fun a Z=>.enter 19 [(a.get 8),(a.get 11)] Z,some 12,tT⟩,
 ⟨fun a Z=>i_add Tryz.prog 3 (.tmp 7) (.tmp 12) (a.get 7) (a.get 12) Z,some 13,tT⟩,
 ⟨fun a Z=>.val (a.get 13) Z,some 6,tT⟩]
def AsD:List COp:=Zf ()
def AmI(E:Env)(ro:Option Nat)(fn:FuncId):aZ:=(aF (aD E ro AsC) (aF (aD E ro AsD) bL))
theorem AkP:aD E ro AsC a u Z=aD E ro (Ze ()) a u Z:=rfl
theorem AkQ:aD E ro AsD a u Z=aD E ro (Zf ()) a u Z:=rfl
theorem Au0(E:Env)(ro:Option Nat)(fn:FuncId):code Tryz.prog nls (Tryz.f60.body.getD .skip) E ro fn=AmI E ro fn:=by kernel_rfl
theorem Aow(E:Env)(args:List Value)(u:Option FrameMode)(Z:aC)(hn:args.length<=(6:Nat)):bD Tryz.prog nls E 60 args u Z=aP Tryz.prog E [.tmp 6] (AmI E none 60 ⟨bB undef 6 args,fun _=>undef,6,14,[]⟩ u Z):=by
 rw[Ap (body:=Tryz.f60.body.getD .skip) Tryz.func60 rfl E args u Z 6 14 (by kernel_rfl) rfl ⟨hn,by decide⟩,Au0]
 rfl
def Zc(_:Unit):List COp:=[⟨fun a Z=>.val (.int .i64 0) Z,some 4,tT⟩]
def AsA:List COp:=Zc ()
def Zd(_:Unit):List COp:=[⟨fun a Z=>.val (a.get 1) Z,some 5,tT⟩,
 ⟨fun a Z=>.val (a.get 0) Z,some 6,tT⟩,
 ⟨fun a Z=>.val (a.get 1) Z,some 7,tT⟩,
 ⟨fun a Z=>flenL (a.get 7) Z,some 8,tT⟩,
 ⟨fun a Z=>i_sub Tryz.prog 3 (.tmp 8) (.const (.int .i64 1)) (a.get 8) (.int .i64 1) Z,some 9,tT⟩,
 ⟨fun a Z=>.enter 19 [(a.get 6),(a.get 9)] Z,some 10,tT⟩,
 ⟨fun a Z=>bC (none,1) (a.get 5) (a.get 10) Z,some 11,tT⟩,
 ⟨fun a Z=>aG none (a.get 11) Z,some 12,tT⟩,
 ⟨fun a Z=>.val (a.get 12) Z,some 4,tT⟩]
def AsB:List COp:=Zd ()
def AmH(E:Env)(ro:Option Nat)(fn:FuncId):aZ:=(aF (aD E ro AsA) (aF (aD E ro AsB) bL))
theorem AkN:aD E ro AsA a u Z=aD E ro (Zc ()) a u Z:=rfl
theorem AkO:aD E ro AsB a u Z=aD E ro (Zd ()) a u Z:=rfl
theorem AuZ(E:Env)(ro:Option Nat)(fn:FuncId):code Tryz.prog nls (Tryz.f59.body.getD .skip) E ro fn=AmH E ro fn:=by kernel_rfl
theorem Aov(E:Env)(args:List Value)(u:Option FrameMode)(Z:aC)(hn:args.length<=(4:Nat)):bD Tryz.prog nls E 59 args u Z=aP Tryz.prog E [.tmp 4] (AmH E none 59 ⟨bB undef 4 args,fun _=>undef,4,13,[]⟩ u Z):=by
 rw[Ap (body:=Tryz.f59.body.getD .skip) Tryz.func59 rfl E args u Z 4 13 (by kernel_rfl) rfl ⟨hn,by decide⟩,AuZ]
 rfl
def Y9(_:Unit):List COp:=[⟨fun a Z=>.val (.string ⟨#[]⟩) Z,some 4,tT⟩]
def Asw:List COp:=Y9 ()
def Y_(_:Unit):List COp:=[⟨fun a Z=>.val (a.get 1) Z,some 5,tT⟩,
 ⟨fun a Z=>.val (a.get 0) Z,some 6,tT⟩,
 ⟨fun a Z=>.val (a.get 1) Z,some 7,tT⟩,
 ⟨fun a Z=>flenL (a.get 7) Z,some 8,tT⟩,
 ⟨fun a Z=>i_sub Tryz.prog 3 (.tmp 8) (.const (.int .i64 1)) (a.get 8) (.int .i64 1) Z,some 9,tT⟩,
 ⟨fun a Z=>.enter 19 [(a.get 6),(a.get 9)] Z,some 10,tT⟩,
 ⟨fun a Z=>bC (none,1) (a.get 5) (a.get 10) Z,some 11,tT⟩,
 ⟨fun a Z=>aG none (a.get 11) Z,some 12,tT⟩,
 ⟨fun a Z=>.val (a.get 12) Z,some 4,tT⟩]
def Asx:List COp:=Y_ ()
def AmF(E:Env)(ro:Option Nat)(fn:FuncId):aZ:=(aF (aD E ro Asw) (aF (aD E ro Asx) bL))
theorem AkJ:aD E ro Asw a u Z=aD E ro (Y9 ()) a u Z:=rfl
theorem AkK:aD E ro Asx a u Z=aD E ro (Y_ ()) a u Z:=rfl
theorem AuX(E:Env)(ro:Option Nat)(fn:FuncId):code Tryz.prog nls (Tryz.f57.body.getD .skip) E ro fn=AmF E ro fn:=by kernel_rfl
theorem Aot(E:Env)(args:List Value)(u:Option FrameMode)(Z:aC)(hn:args.length<=(4:Nat)):bD Tryz.prog nls E 57 args u Z=aP Tryz.prog E [.tmp 4] (AmF E none 57 ⟨bB undef 4 args,fun _=>undef,4,13,[]⟩ u Z):=by
 rw[Ap (body:=Tryz.f57.body.getD .skip) Tryz.func57 rfl E args u Z 4 13 (by kernel_rfl) rfl ⟨hn,by decide⟩,AuX]
 rfl
def Wh(_:Unit):List COp:=[⟨fun a Z=>aM [(.int .i64 0),(.int .i64 0),(.string ⟨#[]⟩),(.slice none 0 0)] 24 none Z,some 4,tT⟩]
def Awp:List COp:=Wh ()
def Wk(_:Unit):List COp:=[⟨fun a Z=>.val (a.get 1) Z,some 7,tT⟩,
 ⟨fun a Z=>i_lss Tryz.prog 3 (.tmp 7) (.const (.int .i64 2)) (a.get 7) (.int .i64 2) Z,some 8,tT⟩,
 ⟨fun a Z=>.val (a.get 8) Z,some 9,tT⟩,
 ⟨fun a Z=>.val (a.get 0) Z,some 10,fun a=>gd (a.get 9) false⟩,
 ⟨fun a Z=>.enter 54 [(a.get 10),(.int .i64 4)] Z,some 11,fun a=>gd (a.get 9) false⟩,
 ⟨fun a Z=>bM (a.get 9) (.bool true) (a.get 11) Z,some 12,tT⟩]
def Awq:List COp:=Wk ()
def Nq(_:Unit):List COp:=[⟨fun a Z=>.val (a.get 0) Z,some 13,tT⟩,
 ⟨fun a Z=>.enter 19 [(a.get 13),(.int .i64 6)] Z,some 14,tT⟩]
def Awr:List COp:=Nq ()
def Nr(_:Unit):List COp:=[⟨fun a Z=>bO Tryz.prog 3 (.tmp 14) (.const (.int .i64 0)) (a.get 14) (.int .i64 0) Z,some 16,tT⟩,
 ⟨fun a Z=>.val (a.get 16) Z,some 15,tT⟩]
def Aws:List COp:=Nr ()
def AlW(_:Unit):List COp:=[⟨fun a Z=>bP (fun i=>nth [(0,1),(1,1),(2,1),(3,1)] i) [(.int .i64 0),(.int .i64 0),(.string ⟨#[]⟩),(.slice none 0 0)] [] Z,some 17,tT⟩,
 ⟨fun a Z=>aK 4 (a.get 4) (a.get 17) Z,none,tT⟩]
def Awt:List COp:=AlW ()
def PE(_:Unit):List COp:=[⟨fun a Z=>bO Tryz.prog 3 (.tmp 14) (.const (.int .i64 1)) (a.get 14) (.int .i64 1) Z,some 19,tT⟩,
 ⟨fun a Z=>.val (a.get 19) Z,some 18,tT⟩]
def Awu:List COp:=PE ()
def AlX(_:Unit):List COp:=[⟨fun a Z=>.val (a.get 0) Z,some 20,tT⟩,
 ⟨fun a Z=>.enter 54 [(a.get 20),(.int .i64 2)] Z,some 21,tT⟩,
 ⟨fun a Z=>.enter 55 [(a.get 21)] Z,some 22,tT⟩,
 ⟨fun a Z=>aK 4 (a.get 4) (a.get 22) Z,none,tT⟩]
def Awv:List COp:=AlX ()
def Wl(_:Unit):List COp:=[⟨fun a Z=>bO Tryz.prog 3 (.tmp 14) (.const (.int .i64 2)) (a.get 14) (.int .i64 2) Z,some 24,tT⟩,
 ⟨fun a Z=>.val (a.get 24) Z,some 23,tT⟩]
def Aww:List COp:=Wl ()
def AlY(_:Unit):List COp:=[⟨fun a Z=>.val (a.get 0) Z,some 25,tT⟩,
 ⟨fun a Z=>aX 9 8 1 [(.string ⟨#[]⟩)] [(0,(.string ⟨#[97]⟩)),(1,(.string ⟨#[98]⟩)),(2,(.string ⟨#[120]⟩)),(3,(.string ⟨#[105,102]⟩)),(4,(.string ⟨#[108,105,115,116]⟩)),(5,(.string ⟨#[97,45,98]⟩)),(6,(.string ⟨#[110,117,108,108,63]⟩)),(7,(.string ⟨#[43]⟩))] Z,some 26,tT⟩,
 ⟨fun a Z=>.enter 57 [(a.get 25),(a.get 26)] Z,some 27,tT⟩,
 ⟨fun a Z=>.enter 56 [(a.get 27)] Z,some 28,tT⟩,
 ⟨fun a Z=>aK 4 (a.get 4) (a.get 28) Z,none,tT⟩]
def Awx:List COp:=AlY ()
def Ab7(_:Unit):List COp:=[⟨fun a Z=>bO Tryz.prog 3 (.tmp 14) (.const (.int .i64 3)) (a.get 14) (.int .i64 3) Z,some 30,tT⟩,
 ⟨fun a Z=>.val (a.get 30) Z,some 29,tT⟩]
def Awy:List COp:=Ab7 ()
def Z3(_:Unit):List COp:=[⟨fun a Z=>.val (a.get 0) Z,some 31,tT⟩,
 ⟨fun a Z=>aX 9 5 1 [(.string ⟨#[]⟩)] [(0,(.string ⟨#[]⟩)),(1,(.string ⟨#[97]⟩)),(2,(.string ⟨#[116,119,111,32,119,111,114,100,115]⟩)),(3,(.string ⟨#[113,34,113]⟩)),(4,(.string ⟨#[98,92]⟩))] Z,some 32,tT⟩,
 ⟨fun a Z=>.enter 57 [(a.get 31),(a.get 32)] Z,some 33,tT⟩,
 ⟨fun a Z=>.enter 52 [(a.get 33)] Z,some 34,tT⟩,
 ⟨fun a Z=>aK 4 (a.get 4) (a.get 34) Z,none,tT⟩]
def AlH:List COp:=Z3 ()
def Z4(_:Unit):List COp:=[⟨fun a Z=>.val (a.get 0) Z,some 35,tT⟩,
 ⟨fun a Z=>.val (a.get 0) Z,some 36,tT⟩,
 ⟨fun a Z=>.enter 60 [(a.get 36),(.int .i64 (-20)),(.int .i64 20)] Z,some 37,tT⟩,
 ⟨fun a Z=>.val (a.get 0) Z,some 38,tT⟩,
 ⟨fun a Z=>.enter 60 [(a.get 38),(.int .i64 (-999)),(.int .i64 999)] Z,some 39,tT⟩,
 ⟨fun a Z=>aX 3 5 1 [(.int .i64 0)] [(0,(.int .i64 0)),(1,(.int .i64 1)),(2,(.int .i64 (-1))),(3,(a.get 37)),(4,(a.get 39))] Z,some 40,tT⟩,
 ⟨fun a Z=>.enter 59 [(a.get 35),(a.get 40)] Z,some 41,tT⟩,
 ⟨fun a Z=>.enter 58 [(a.get 41)] Z,some 42,tT⟩,
 ⟨fun a Z=>aK 4 (a.get 4) (a.get 42) Z,none,tT⟩]
def AlJ:List COp:=Z4 ()
def SW(_:Unit):List COp:=[⟨fun a Z=>.val (a.get 0) Z,some 43,tT⟩,
 ⟨fun a Z=>.enter 54 [(a.get 43),(.int .i64 6)] Z,some 44,tT⟩]
def AlL:List COp:=SW ()
def Z5(_:Unit):List COp:=[⟨fun a Z=>bP (fun i=>nth [(0,1),(1,1),(2,1),(3,1)] i) [(.int .i64 0),(.int .i64 0),(.string ⟨#[]⟩),(.slice none 0 0)] [(0,(.int .i64 6))] Z,some 45,tT⟩,
 ⟨fun a Z=>aM [(.int .i64 0),(.int .i64 0),(.string ⟨#[]⟩),(.slice none 0 0)] 24 none Z,some 5,tT⟩,
 ⟨fun a Z=>aK 4 (a.get 5) (a.get 45) Z,none,tT⟩]
def AlM:List COp:=Z5 ()
def Z6(_:Unit):List COp:=[⟨fun a Z=>.val (a.get 0) Z,some 46,tT⟩,
 ⟨fun a Z=>.enter 19 [(a.get 46),(.int .i64 3)] Z,some 47,tT⟩,
 ⟨fun a Z=>.val (a.get 47) Z,some 6,tT⟩]
def AlO:List COp:=Z6 ()
def SX(_:Unit):List COp:=[⟨fun a Z=>.val (a.get 6) Z,some 48,tT⟩,
 ⟨fun a Z=>i_gtr Tryz.prog 3 (.tmp 48) (.const (.int .i64 0)) (a.get 48) (.int .i64 0) Z,some 49,tT⟩]
def At3:List COp:=SX ()
def Z8(_:Unit):List DOp:=[⟨fun a Z=>.val (a.get 0) Z,some 54,tT,some 0,false⟩,
 ⟨fun a Z=>.val (a.get 1) Z,some 55,tT,some 0,false⟩,
 ⟨fun a Z=>i_sub Tryz.prog 3 (.tmp 55) (.const (.int .i64 1)) (a.get 55) (.int .i64 1) Z,some 56,tT,some 0,false⟩,
 ⟨fun a Z=>.enter 8 [(a.get 54),(a.get 56)] Z,some 57,tT,none,false⟩,
 ⟨fun a Z=>aH 3 (a.get 5) Z,some 52,tT,some 0,false⟩,
 ⟨fun a Z=>aG none (a.get 52) Z,some 53,tT,some 0,false⟩,
 ⟨fun a Z=>aX 24 1 4 [(.int .i64 0),(.int .i64 0),(.string ⟨#[]⟩),(.slice none 0 0)] [(0,(a.get 57))] Z,some 58,tT,some 1,false⟩,
 ⟨fun a Z=>fappend 24 4 56 (a.get 53) (a.get 58) Z,some 59,tT,none,true⟩,
 ⟨fun a Z=>aH 3 (a.get 5) Z,some 60,tT,some 2,false⟩,
 ⟨fun a Z=>aK 1 (a.get 60) (a.get 59) Z,none,tT,none,true⟩]
def At5:List DOp:=Z8 ()
def Z7(_:Unit):List COp:=[⟨fun a Z=>.val (a.get 6) Z,some 50,tT⟩,
 ⟨fun a Z=>i_sub Tryz.prog 3 (.tmp 50) (.const (.int .i64 1)) (a.get 50) (.int .i64 1) Z,some 51,tT⟩,
 ⟨fun a Z=>.val (a.get 51) Z,some 6,tT⟩]
def At4:List COp:=Z7 ()
def AfH(E:Env)(ro:Option Nat)(fn:FuncId):aZ:=(aF (aF (aD E ro At3) (aN (fun a=>(a.get 49)) aV (exitR 1))) (aF (aW 2 (drawR E ro At5)) (aD E ro At4)))
def Z9(_:Unit):List COp:=[⟨fun a Z=>aG (some 4) (a.get 5) Z,some 61,tT⟩,
 ⟨fun a Z=>aK 4 (a.get 4) (a.get 61) Z,none,tT⟩]
def AlS:List COp:=Z9 ()
def Z_(_:Unit):List COp:=[⟨fun a Z=>.val (a.get 0) Z,some 62,tT⟩,
 ⟨fun a Z=>.val (a.get 1) Z,some 63,tT⟩,
 ⟨fun a Z=>i_sub Tryz.prog 3 (.tmp 63) (.const (.int .i64 1)) (a.get 63) (.int .i64 1) Z,some 64,tT⟩,
 ⟨fun a Z=>.enter 8 [(a.get 62),(a.get 64)] Z,some 65,tT⟩,
 ⟨fun a Z=>.val (a.get 0) Z,some 66,tT⟩,
 ⟨fun a Z=>.val (a.get 1) Z,some 67,tT⟩,
 ⟨fun a Z=>i_sub Tryz.prog 3 (.tmp 67) (.const (.int .i64 1)) (a.get 67) (.int .i64 1) Z,some 68,tT⟩,
 ⟨fun a Z=>.enter 8 [(a.get 66),(a.get 68)] Z,some 69,tT⟩,
 ⟨fun a Z=>.enter 61 [(a.get 65),(a.get 69)] Z,some 70,tT⟩,
 ⟨fun a Z=>aK 4 (a.get 4) (a.get 70) Z,none,tT⟩]
def AlU:List COp:=Z_ ()
def AwC(E:Env)(ro:Option Nat)(fn:FuncId):aZ:=(aF (aD E ro Awp) (aF (aF (aD E ro Awq) (aN (fun a=>(a.get 12)) (aF (aF (aD E ro Awr) (aW 0 (aF (aD E ro Aws) (aN (fun a=>(a.get 15)) (aF (aD E ro Awt) bL) (aF (aD E ro Awu) (aN (fun a=>(a.get 18)) (aF (aD E ro Awv) bL) (aF (aD E ro Aww) (aN (fun a=>(a.get 23)) (aF (aD E ro Awx) bL) (aF (aD E ro Awy) (aN (fun a=>(a.get 29)) (aF (aD E ro AlH) bL) aV)))))))))) (aF (aD E ro AlJ) bL)) aV)) (aF (aF (aD E ro AlL) (aN (fun a=>(a.get 44)) (aF (aD E ro AlM) (aF (aF (aD E ro AlO) (aW 1 (loopR (bE nls fn) (AfH E ro fn)))) (aF (aD E ro AlS) bL))) aV)) (aF (aD E ro AlU) bL))))
theorem SV:aD E ro Awp a u Z=aD E ro (Wh ()) a u Z:=rfl
theorem SY:aD E ro Awq a u Z=aD E ro (Wk ()) a u Z:=rfl
theorem JH:aD E ro Awr a u Z=aD E ro (Nq ()) a u Z:=rfl
theorem JI:aD E ro Aws a u Z=aD E ro (Nr ()) a u Z:=rfl
theorem Ap2:aD E ro Awt a u Z=aD E ro (AlW ()) a u Z:=rfl
theorem LD:aD E ro Awu a u Z=aD E ro (PE ()) a u Z:=rfl
theorem Ap3:aD E ro Awv a u Z=aD E ro (AlX ()) a u Z:=rfl
theorem SZ:aD E ro Aww a u Z=aD E ro (Wl ()) a u Z:=rfl
theorem Ap4:aD E ro Awx a u Z=aD E ro (AlY ()) a u Z:=rfl
theorem Ab8:aD E ro Awy a u Z=aD E ro (Ab7 ()) a u Z:=rfl
theorem AlI:aD E ro AlH a u Z=aD E ro (Z3 ()) a u Z:=rfl
theorem AlK:aD E ro AlJ a u Z=aD E ro (Z4 ()) a u Z:=rfl
theorem Wi:aD E ro AlL a u Z=aD E ro (SW ()) a u Z:=rfl
theorem AlN:aD E ro AlM a u Z=aD E ro (Z5 ()) a u Z:=rfl
theorem AlP:aD E ro AlO a u Z=aD E ro (Z6 ()) a u Z:=rfl
theorem Wj:aD E ro At3 a u Z=aD E ro (SX ()) a u Z:=rfl
theorem AlR:bI E ro last At5 cl a u Z=bI E ro last (Z8 ()) cl a u Z:=rfl
theorem AlQ:aD E ro At4 a u Z=aD E ro (Z7 ()) a u Z:=rfl
theorem AlT:aD E ro AlS a u Z=aD E ro (Z9 ()) a u Z:=rfl
theorem AlV:aD E ro AlU a u Z=aD E ro (Z_ ()) a u Z:=rfl
theorem AwP(E:Env)(ro:Option Nat)(fn:FuncId):code Tryz.prog nls (Tryz.f8.body.getD .skip) E ro fn=AwC E ro fn:=by kernel_rfl
theorem Afn(E:Env)(args:List Value)(u:Option FrameMode)(Z:aC)(hn:args.length<=(7:Nat)):bD Tryz.prog nls E 8 args u Z=aP Tryz.prog E [.cell 4 24] (AwC E none 8 ⟨bB undef 7 args,fun _=>undef,7,71,[]⟩ u Z):=by
 rw[Ap (body:=Tryz.f8.body.getD .skip) Tryz.func8 rfl E args u Z 7 71 (by kernel_rfl) rfl ⟨hn,by decide⟩,AwP]
 rfl
def Ame(_:Unit):List COp:=[⟨fun a Z=>.val (.pointer none) Z,some 2,tT⟩]
def Axp:List COp:=Ame ()
def Amf(_:Unit):List COp:=[⟨fun a Z=>.val (a.get 0) Z,some 3,tT⟩,
 ⟨fun a Z=>bP (fun i=>nth [(0,1),(1,1),(2,1)] i) [(.slice none 0 0),(.int .i64 0),(.int .u64 0)] [(0,(a.get 3)),(2,(.int .u64 2611923443488327891))] Z,some 4,tT⟩,
 ⟨fun a Z=>fbox 84 (a.get 4) Z,some 5,tT⟩,
 ⟨fun a Z=>.val (a.get 5) Z,some 2,tT⟩]
def Axq:List COp:=Amf ()
def AwD(E:Env)(ro:Option Nat)(fn:FuncId):aZ:=(aF (aD E ro Axp) (aF (aD E ro Axq) bL))
theorem Ap5:aD E ro Axp a u Z=aD E ro (Ame ()) a u Z:=rfl
theorem Ap6:aD E ro Axq a u Z=aD E ro (Amf ()) a u Z:=rfl
theorem AwQ(E:Env)(ro:Option Nat)(fn:FuncId):code Tryz.prog nls (Tryz.f9.body.getD .skip) E ro fn=AwD E ro fn:=by kernel_rfl
theorem Avq(E:Env)(args:List Value)(u:Option FrameMode)(Z:aC)(hn:args.length<=(2:Nat)):bD Tryz.prog nls E 9 args u Z=aP Tryz.prog E [.tmp 2] (AwD E none 9 ⟨bB undef 2 args,fun _=>undef,2,6,[]⟩ u Z):=by
 rw[Ap (body:=Tryz.f9.body.getD .skip) Tryz.func9 rfl E args u Z 2 6 (by kernel_rfl) rfl ⟨hn,by decide⟩,AwQ]
 rfl
def Za(_:Unit):List COp:=[⟨fun a Z=>aM [(.int .i64 0),(.int .i64 0),(.string ⟨#[]⟩),(.slice none 0 0)] 24 none Z,some 2,tT⟩]
def Asy:List COp:=Za ()
def Zb(_:Unit):List COp:=[⟨fun a Z=>.val (a.get 0) Z,some 3,tT⟩,
 ⟨fun a Z=>bP (fun i=>nth [(0,1),(1,1),(2,1),(3,1)] i) [(.int .i64 0),(.int .i64 0),(.string ⟨#[]⟩),(.slice none 0 0)] [(0,(.int .i64 2)),(1,(a.get 3))] Z,some 4,tT⟩,
 ⟨fun a Z=>aK 4 (a.get 2) (a.get 4) Z,none,tT⟩]
def Asz:List COp:=Zb ()
def AmG(E:Env)(ro:Option Nat)(fn:FuncId):aZ:=(aF (aD E ro Asy) (aF (aD E ro Asz) bL))
theorem AkL:aD E ro Asy a u Z=aD E ro (Za ()) a u Z:=rfl
theorem AkM:aD E ro Asz a u Z=aD E ro (Zb ()) a u Z:=rfl
theorem AuY(E:Env)(ro:Option Nat)(fn:FuncId):code Tryz.prog nls (Tryz.f58.body.getD .skip) E ro fn=AmG E ro fn:=by kernel_rfl
theorem Aou(E:Env)(args:List Value)(u:Option FrameMode)(Z:aC)(hn:args.length<=(2:Nat)):bD Tryz.prog nls E 58 args u Z=aP Tryz.prog E [.cell 2 24] (AmG E none 58 ⟨bB undef 2 args,fun _=>undef,2,5,[]⟩ u Z):=by
 rw[Ap (body:=Tryz.f58.body.getD .skip) Tryz.func58 rfl E args u Z 2 5 (by kernel_rfl) rfl ⟨hn,by decide⟩,AuY]
 rfl
def Y7(_:Unit):List COp:=[⟨fun a Z=>aM [(.int .i64 0),(.int .i64 0),(.string ⟨#[]⟩),(.slice none 0 0)] 24 none Z,some 2,tT⟩]
def Asu:List COp:=Y7 ()
def Y8(_:Unit):List COp:=[⟨fun a Z=>.val (a.get 0) Z,some 3,tT⟩,
 ⟨fun a Z=>bP (fun i=>nth [(0,1),(1,1),(2,1),(3,1)] i) [(.int .i64 0),(.int .i64 0),(.string ⟨#[]⟩),(.slice none 0 0)] [(0,(.int .i64 3)),(2,(a.get 3))] Z,some 4,tT⟩,
 ⟨fun a Z=>aK 4 (a.get 2) (a.get 4) Z,none,tT⟩]
def Asv:List COp:=Y8 ()
def AmE(E:Env)(ro:Option Nat)(fn:FuncId):aZ:=(aF (aD E ro Asu) (aF (aD E ro Asv) bL))
theorem AkH:aD E ro Asu a u Z=aD E ro (Y7 ()) a u Z:=rfl
theorem AkI:aD E ro Asv a u Z=aD E ro (Y8 ()) a u Z:=rfl
theorem AuW(E:Env)(ro:Option Nat)(fn:FuncId):code Tryz.prog nls (Tryz.f56.body.getD .skip) E ro fn=AmE E ro fn:=by kernel_rfl
theorem Aos(E:Env)(args:List Value)(u:Option FrameMode)(Z:aC)(hn:args.length<=(2:Nat)):bD Tryz.prog nls E 56 args u Z=aP Tryz.prog E [.cell 2 24] (AmE E none 56 ⟨bB undef 2 args,fun _=>undef,2,5,[]⟩ u Z):=by
 rw[Ap (body:=Tryz.f56.body.getD .skip) Tryz.func56 rfl E args u Z 2 5 (by kernel_rfl) rfl ⟨hn,by decide⟩,AuW]
 rfl
def Y1(_:Unit):List COp:=[⟨fun a Z=>aM [(.int .i64 0),(.int .i64 0),(.string ⟨#[]⟩),(.slice none 0 0)] 24 none Z,some 2,tT⟩]
def Asl:List COp:=Y1 ()
def Y2(_:Unit):List COp:=[⟨fun a Z=>.val (a.get 0) Z,some 3,tT⟩,
 ⟨fun a Z=>bP (fun i=>nth [(0,1),(1,1),(2,1),(3,1)] i) [(.int .i64 0),(.int .i64 0),(.string ⟨#[]⟩),(.slice none 0 0)] [(0,(.int .i64 4)),(2,(a.get 3))] Z,some 4,tT⟩,
 ⟨fun a Z=>aK 4 (a.get 2) (a.get 4) Z,none,tT⟩]
def Asm:List COp:=Y2 ()
def AmB(E:Env)(ro:Option Nat)(fn:FuncId):aZ:=(aF (aD E ro Asl) (aF (aD E ro Asm) bL))
theorem AkB:aD E ro Asl a u Z=aD E ro (Y1 ()) a u Z:=rfl
theorem AkC:aD E ro Asm a u Z=aD E ro (Y2 ()) a u Z:=rfl
theorem AuT(E:Env)(ro:Option Nat)(fn:FuncId):code Tryz.prog nls (Tryz.f52.body.getD .skip) E ro fn=AmB E ro fn:=by kernel_rfl
theorem Aop(E:Env)(args:List Value)(u:Option FrameMode)(Z:aC)(hn:args.length<=(2:Nat)):bD Tryz.prog nls E 52 args u Z=aP Tryz.prog E [.cell 2 24] (AmB E none 52 ⟨bB undef 2 args,fun _=>undef,2,5,[]⟩ u Z):=by
 rw[Ap (body:=Tryz.f52.body.getD .skip) Tryz.func52 rfl E args u Z 2 5 (by kernel_rfl) rfl ⟨hn,by decide⟩,AuT]
 rfl
def Si(_:Unit):List COp:=[⟨fun a Z=>aM [(.int .i64 0),(.int .i64 0),(.string ⟨#[]⟩),(.slice none 0 0)] 24 none Z,some 2,tT⟩]
def Asp:List COp:=Si ()
def Sj(_:Unit):List COp:=[⟨fun a Z=>.val (a.get 0) Z,some 3,tT⟩]
def Asq:List COp:=Sj ()
def Y5(_:Unit):List COp:=[⟨fun a Z=>bP (fun i=>nth [(0,1),(1,1),(2,1),(3,1)] i) [(.int .i64 0),(.int .i64 0),(.string ⟨#[]⟩),(.slice none 0 0)] [(0,(.int .i64 1)),(1,(.int .i64 1))] Z,some 4,tT⟩,
 ⟨fun a Z=>aK 4 (a.get 2) (a.get 4) Z,none,tT⟩]
def Asr:List COp:=Y5 ()
def Y6(_:Unit):List COp:=[⟨fun a Z=>bP (fun i=>nth [(0,1),(1,1),(2,1),(3,1)] i) [(.int .i64 0),(.int .i64 0),(.string ⟨#[]⟩),(.slice none 0 0)] [(0,(.int .i64 1))] Z,some 5,tT⟩,
 ⟨fun a Z=>aK 4 (a.get 2) (a.get 5) Z,none,tT⟩]
def Ass:List COp:=Y6 ()
def AmD(E:Env)(ro:Option Nat)(fn:FuncId):aZ:=(aF (aD E ro Asp) (aF (aF (aD E ro Asq) (aN (fun a=>(a.get 3)) (aF (aD E ro Asr) bL) aV)) (aF (aD E ro Ass) bL)))
theorem VJ:aD E ro Asp a u Z=aD E ro (Si ()) a u Z:=rfl
theorem VK:aD E ro Asq a u Z=aD E ro (Sj ()) a u Z:=rfl
theorem AkF:aD E ro Asr a u Z=aD E ro (Y5 ()) a u Z:=rfl
theorem AkG:aD E ro Ass a u Z=aD E ro (Y6 ()) a u Z:=rfl
theorem AuV(E:Env)(ro:Option Nat)(fn:FuncId):code Tryz.prog nls (Tryz.f55.body.getD .skip) E ro fn=AmD E ro fn:=by kernel_rfl
theorem Aor(E:Env)(args:List Value)(u:Option FrameMode)(Z:aC)(hn:args.length<=(2:Nat)):bD Tryz.prog nls E 55 args u Z=aP Tryz.prog E [.cell 2 24] (AmD E none 55 ⟨bB undef 2 args,fun _=>undef,2,6,[]⟩ u Z):=by
 rw[Ap (body:=Tryz.f55.body.getD .skip) Tryz.func55 rfl E args u Z 2 6 (by kernel_rfl) rfl ⟨hn,by decide⟩,AuV]
 rfl
def Zg(_:Unit):List COp:=[⟨fun a Z=>fbox 24 (a.get 0) Z,some 2,tT⟩,
 ⟨fun a Z=>fbox 24 (a.get 1) Z,some 3,tT⟩,
 ⟨fun a Z=>aM [(.int .i64 0),(.int .i64 0),(.string ⟨#[]⟩),(.slice none 0 0)] 24 none Z,some 4,tT⟩]
def AsE:List COp:=Zg ()
def Zh(_:Unit):List COp:=[⟨fun a Z=>aG (some 4) (a.get 2) Z,some 5,tT⟩,
 ⟨fun a Z=>aG (some 4) (a.get 3) Z,some 6,tT⟩,
 ⟨fun a Z=>aX 24 2 4 [(.int .i64 0),(.int .i64 0),(.string ⟨#[]⟩),(.slice none 0 0)] [(0,(a.get 5)),(1,(a.get 6))] Z,some 7,tT⟩,
 ⟨fun a Z=>bP (fun i=>nth [(0,1),(1,1),(2,1),(3,1)] i) [(.int .i64 0),(.int .i64 0),(.string ⟨#[]⟩),(.slice none 0 0)] [(0,(.int .i64 5)),(3,(a.get 7))] Z,some 8,tT⟩,
 ⟨fun a Z=>aK 4 (a.get 4) (a.get 8) Z,none,tT⟩]
def AsF:List COp:=Zh ()
def AmJ(E:Env)(ro:Option Nat)(fn:FuncId):aZ:=(aF (aD E ro AsE) (aF (aD E ro AsF) bL))
theorem AkR:aD E ro AsE a u Z=aD E ro (Zg ()) a u Z:=rfl
theorem AkS:aD E ro AsF a u Z=aD E ro (Zh ()) a u Z:=rfl
theorem Au1(E:Env)(ro:Option Nat)(fn:FuncId):code Tryz.prog nls (Tryz.f61.body.getD .skip) E ro fn=AmJ E ro fn:=by kernel_rfl
theorem Aox(E:Env)(args:List Value)(u:Option FrameMode)(Z:aC)(hn:args.length<=(4:Nat)):bD Tryz.prog nls E 61 args u Z=aP Tryz.prog E [.cell 4 24] (AmJ E none 61 ⟨bB undef 4 args,fun _=>undef,4,9,[]⟩ u Z):=by
 rw[Ap (body:=Tryz.f61.body.getD .skip) Tryz.func61 rfl E args u Z 4 9 (by kernel_rfl) rfl ⟨hn,by decide⟩,Au1]
 rfl
end
section
open Go Go.Eng
attribute [local congr] Aa
def Ints(Z:aC)(p:Option Addr)(l:List Int):Prop:=∀(i:Nat) (n:Int),l[i]? = some n->∃b off cs,p=some ⟨b,off,none⟩/\Z.cells b=some cs/\cs[off+i]? = some (.int .i64 n)
def Coil(Z:aC)(x k:Nat):Prop:=∃p l cp m ver,Z.heap.get x=some ⟨.cells [.slice p l.length cp,.int .i64 (.ofNat k),.int .u64 m] 84,false,none,ver⟩/\Ints Z p l/\l.length<9223372036854775808/\∀a,p=some a->a.block<x
theorem Aqj(n:Nat)(x k:Nat)(hk:k<1000000000000)(Z:aC)(hw:Wf Z)(hC:Coil Z x k):
  ∃m V,(env (n+1)).call 76 [.pointer (some ⟨x,0,none⟩)] none Z=.ret (.int .u64 m) none V/\0<=m/\m<18446744073709551616/\ExtC x Z V/\Wf V/\Coil V x (k+1):=by
 obtain⟨p,l,cp,m,ver,hc,hl,hll,hp⟩:=hC
 rw[Al _ 76 _ _ rfl,Aoz _ _ _ _ (by simp),Aj]
 unfold AmL
 have hcc:Z.cells x=some [.slice p l.length cp,.int .i64 (.ofNat k),.int .u64 m]:=by rw[AO,hc];rfl
 have hv:=Dw hw (Nat.le_refl _)
 have cv1:∀n Z,fun1 Tryz.prog (convert 3 82) (.int .i64 n) Z=.val (.int .u64 (IntKind.u64.wrap n)) Z:=fun n Z=>by kernel_rfl
 have hx:x<Z.next:=(hw x _ hc).1
 have hwr:wrapI (Int.ofNat k+1)=Int.ofNat (k+1):=by
  rw[Dj (by rw[Int.ofNat_eq_natCast];omega)];rfl
 have part1:∀(f g:Nat->Value) (Y:Int),f 0=.pointer (some ⟨x,0,none⟩)->f 3=.int .u64 Y->∃f1 g1 X,
   andThen (bI (env n) none (fun _ a u Z=>.done .normal a u Z) Ak3 [Z.clock] (Sl 4 83 f g []) none Z) (aN (fun a=>a.get 19) (drawR (env n) none Ak4) aV)=.done .normal (Sl 4 83 f1 g1 []) none Z/\
   f1 0=.pointer (some ⟨x,0,none⟩)/\f1 3=.int .u64 X:=by
  intro f g Y p0 p3
  by_cases hlt:k<l.length
  .have hd:decide (Int.ofNat k<Int.ofNat l.length)=true:=by simp;omega
   obtain⟨b,off,cs,rfl,hcs,hci⟩:=hl k l[k] (List.getElem?_eq_getElem hlt)
   simp -implicitDefEqProofs only[go_sem,VV,SA,Ak5,Zr,p0,p3,hcc,hv,cv1,hd,hlt,hcs,hci]
   exact⟨_,_,_,rfl,by simp -implicitDefEqProofs only[go_sem,reduceCtorEq,p0],by simp -implicitDefEqProofs only[go_sem,reduceCtorEq]<;>rfl⟩
  .have hd:decide (Int.ofNat k<Int.ofNat l.length)=false:=by simp;omega
   simp -implicitDefEqProofs only[go_sem,VV,SA,p0,p3,hcc,hv,cv1,hd]
   exact⟨_,_,_,rfl,p0,p3⟩
 have put_step:∀(τ:aC) (c:List Value),Wf τ->ExtC x Z τ->Wf (τ.put x (.cells c 84) none)/\ExtC x Z (τ.put x (.cells c 84) none)/\(τ.put x (.cells c 84) none).heap.get x=some ⟨.cells c 84,false,none,τ.clock⟩/\(τ.put x (.cells c 84) none).clock=τ.clock+1:=fun τ c h1 h2=>
  ⟨h1.put _ _ _ (Nat.lt_of_lt_of_le hx h2.next),h2.put _ _,by rw[Am,if_pos rfl],rfl⟩
 simp -implicitDefEqProofs only[go_sem,Ak1,Zp,Ak2,Zq,hcc,cv1]
 generalize hf:upd _ _ _=f0
 generalize hg:upd _ _ _=g0
 obtain⟨f1,g1,X,e1,p0,p3⟩:=part1 f0 g0 _ (by rw[<-hf];simp -implicitDefEqProofs only[go_sem,reduceCtorEq]) (by rw[<-hf];simp -implicitDefEqProofs only[go_sem,reduceCtorEq]<;>rfl)
 clear hf hg
 rw[e1]
 simp -implicitDefEqProofs only[go_sem,Ak6,Zt,p0,p3,hcc,hc,hwr]
 obtain⟨w1,x1,c1,k1⟩:=put_step Z [.slice p l.length cp,.int .i64 (.ofNat (k+1)),.int .u64 m] hw (ExtC.refl _ _)
 generalize aC.put Z x _ _=a_ at w1 x1 c1 k1 ⊢
 have d1:=Aq c1
 generalize upd g1 _ _=g2
 simp -implicitDefEqProofs only[go_sem,Ak7,Zu,p0,p3,d1,c1]
 obtain⟨w2,x2,c2,k2⟩:=put_step a_ [.slice p l.length cp,.int .i64 (.ofNat (k+1)),.int .u64 (IntKind.u64.wrap (IntKind.u64.wrap (m+X)*589684135938649225))] w1 x1
 generalize aC.put a_ x _ _=a9 at w2 x2 c2 k2 ⊢
 generalize IntKind.u64.wrap (IntKind.u64.wrap (m+X)*589684135938649225)=m2 at c2 ⊢
 have d2:=Aq c2
 have v2:=Dw (lam:=a_.clock+1) w2 (Nat.le_of_eq k2)
 generalize upd _ _ _=g3
 simp -implicitDefEqProofs only[go_sem,Ak8,Zv,p0,p3,d2,c2,v2]
 obtain⟨w3,x3,c3,k3⟩:=put_step a9 [.slice p l.length cp,.int .i64 (.ofNat (k+1)),.int .u64 (xorI m2 (m2.fdiv 4294967296))] w2 x2
 generalize aC.put a9 x _ _=bT at w3 x3 c3 k3 ⊢
 generalize xorI m2 (m2.fdiv 4294967296)=m3 at c3 ⊢
 have d3:=Aq c3
 generalize upd _ _ _=g4
 simp -implicitDefEqProofs only[go_sem,Ak9,Zw,p0,p3,d3,c3]
 obtain⟨w4,x4,c4,k4⟩:=put_step bT [.slice p l.length cp,.int .i64 (.ofNat (k+1)),.int .u64 (IntKind.u64.wrap (m3*4983270260364809079))] w3 x3
 generalize aC.put bT x _ _=bX at w4 x4 c4 k4 ⊢
 generalize IntKind.u64.wrap (m3*4983270260364809079)=m4 at c4 ⊢
 have d4:=Aq c4
 have v4:=Dw (lam:=bT.clock+1) w4 (Nat.le_of_eq k4)
 generalize upd _ _ _=g5
 simp -implicitDefEqProofs only[go_sem,Ala,Zx,p0,p3,d4,c4,v4]
 refine⟨_,_,rfl,?_,?_,x4,w4,p,l,cp,m4,_,c4,?_,hll,hp⟩
 .have:=NP m4 (m4.fdiv 134217728)
  rw[Int.fdiv_eq_ediv_of_nonneg _ (by omega)]
  omega
 .have:=NP m4 (m4.fdiv 134217728)
  rw[Int.fdiv_eq_ediv_of_nonneg _ (by omega)]
  omega
 .intro i z hi
  obtain⟨b,off,cs,hb,h1,h2⟩:=hl i z hi
  exact⟨b,off,cs,hb,(x4.cells (hw.cells h1) (Nat.ne_of_lt (hp _ hb))).trans h1,h2⟩
structure Wound (x k k':Nat) (Z V:aC):Prop where
 ext:ExtC x Z V
 wf:Wf V
 coil:Coil V x k'
theorem NN(n:Nat)(x k:Nat)(m:Int)(hm:m<1000000)(hk:k<1000000000000)(Z:aC)(hw:Wf Z)(hC:Coil Z x k):
  ∃r V,(env (n+2)).call 19 [.pointer (some ⟨x,0,none⟩),.int .i64 m] none Z=.ret (.int .i64 r) none V/\0<=r/\(r<=m\/r=0)/\Wound x k (k+1) Z V:=by
 obtain⟨w,a_,e,h0,h1,hx,hw1,hC1⟩:=Aqj n x k hk Z hw hC
 have cv1:∀n Z,fun1 Tryz.prog (convert 3 82) (.int .i64 n) Z=.val (.int .u64 (IntKind.u64.wrap n)) Z:=fun n Z=>by kernel_rfl
 have cv2:∀n Z,fun1 Tryz.prog (convert 82 3) (.int .u64 n) Z=.val (.int .i64 (IntKind.i64.wrap n)) Z:=fun n Z=>by kernel_rfl
 rw[Al _ 19 _ _ rfl,Aoc _ _ _ _ (by simp),Aj]
 unfold Amo
 by_cases hlt:m<1
 .have hd:decide (m<1)=true:=by simpa using hlt
  simp -implicitDefEqProofs only[go_sem,Va,RG,Vb,RH,Vc,RI,Ajj,XY,e,hd]
  exact⟨_,_,rfl,Int.le_refl _,.inr rfl,hx,hw1,hC1⟩
 .have hd:decide (m<1)=false:=by simpa using hlt
  have hwr:wrapI (m+1)=m+1:=Dj (by omega)
  have hu:IntKind.u64.wrap (m+1)=m+1:=Anm (by omega)
  have hr:=fun(x y:Operand) (Z:aC)=>Ap7 Tryz.prog 82 x y w (m+1) Z (by omega)
  have ht:w.tmod (m+1)=w % (m+1):=Int.tmod_eq_emod_of_nonneg h0
  have hlo:=Int.emod_nonneg w (show m+1≠0 by omega)
  have hhi:=Int.emod_lt_of_pos w (show 0<m+1 by omega)
  have hs:IntKind.i64.wrap (w % (m+1))=w % (m+1):=Anl (by omega)
  simp -implicitDefEqProofs only[go_sem,Va,RG,Vb,RH,Vc,RI,Ajk,XZ,e,hd,hwr,cv1,cv2,hu,hr,ht,hs]
  exact⟨_,_,rfl,hlo,.inl (by omega),hx,hw1,hC1⟩
theorem Qq(n:Nat)(x k:Nat)(m:Int)(hm:1<=m/\m<1000000)(hk:k<1000000000000)(Z:aC)(hw:Wf Z)(hC:Coil Z x k):
  ∃r V,(env (n+3)).call 54 [.pointer (some ⟨x,0,none⟩),.int .i64 m] none Z=.ret (.bool r) none V/\Wound x k (k+1) Z V:=by
 obtain⟨w,a_,e,h0,h1,hW⟩:=NN n x k (m-1) (by omega) hk Z hw hC
 rw[Al _ 54 _ _ rfl,Aoq _ _ _ _ (by simp),Aj]
 unfold AmC
 have hwr:wrapI (m-1)=m-1:=Dj (by omega)
 simp -implicitDefEqProofs only[go_sem,AkD,Y3,AkE,Y4,hwr,e]
 exact⟨_,_,rfl,hW⟩
theorem Abh(n:Nat)(x k:Nat)(lo hi:Int)(hm : -1000000<lo/\lo<=hi/\hi<1000000/\hi-lo<1000000)(hk:k<1000000000000)(Z:aC)(hw:Wf Z)(hC:Coil Z x k):
  ∃r V,(env (n+3)).call 60 [.pointer (some ⟨x,0,none⟩),.int .i64 lo,.int .i64 hi] none Z=.ret (.int .i64 r) none V/\lo<=r/\r<=hi/\Wound x k (k+1) Z V:=by
 obtain⟨w,a_,e,h0,h1,hW⟩:=NN n x k (hi-lo) (by omega) hk Z hw hC
 rw[Al _ 60 _ _ rfl,Aow _ _ _ _ (by simp),Aj]
 unfold AmI
 have hwr:wrapI (hi-lo)=hi-lo:=Dj (by omega)
 have hwr2:wrapI (lo+w)=lo+w:=Dj (by omega)
 simp -implicitDefEqProofs only[go_sem,AkP,Ze,AkQ,Zf,hwr,e,hwr2]
 exact⟨_,_,rfl,by omega,by omega,hW⟩
theorem AvI(n:Nat)(x k:Nat)(b off len c:Nat)(cs:List Value)(hl:1<=len/\len<1000000)(hk:k<1000000000000)(Z:aC)(hw:Wf Z)(hC:Coil Z x k)(hc:Z.cells b=some cs)(hb:b≠x)(hcs:off+len<=cs.length):
  ∃i v V,(env (n+3)).call 59 [.pointer (some ⟨x,0,none⟩),.slice (some ⟨b,off,none⟩) len c] none Z=.ret v none V/\i<len/\cs[off+i]? = some v/\Wound x k (k+1) Z V:=by
 obtain⟨w,a_,e,h0,h1,hW⟩:=NN n x k (Int.ofNat len-1) (by rw[Int.ofNat_eq_natCast];omega) hk Z hw hC
 obtain⟨i,rfl⟩:∃i:Nat,w=Int.ofNat i:=⟨w.toNat,by rw[Int.ofNat_eq_natCast];omega⟩
 have hi:i<len:=by rw[Int.ofNat_eq_natCast,Int.ofNat_eq_natCast] at h1;omega
 rw[Al _ 59 _ _ rfl,Aov _ _ _ _ (by simp),Aj]
 unfold AmH
 have hwr:wrapI (Int.ofNat len-1)=Int.ofNat len-1:=Dj (by rw[Int.ofNat_eq_natCast];omega)
 have hc1:a_.cells b=some cs:=(hW.ext.cells (hw.cells hc) hb).trans hc
 have hv:cs[off+i]? = some cs[off+i]:=List.getElem?_eq_getElem (by omega)
 simp -implicitDefEqProofs only[go_sem,AkN,Zc,AkO,Zd,hwr,e,hi,hc1,hv]
 exact⟨i,_,_,rfl,hi,hv,hW⟩
theorem Acg(n:Nat)(x k:Nat)(b off len c:Nat)(cs:List Value)(hl:1<=len/\len<1000000)(hk:k<1000000000000)(Z:aC)(hw:Wf Z)(hC:Coil Z x k)(hc:Z.cells b=some cs)(hb:b≠x)(hcs:off+len<=cs.length):
  ∃i v V,(env (n+3)).call 57 [.pointer (some ⟨x,0,none⟩),.slice (some ⟨b,off,none⟩) len c] none Z=.ret v none V/\i<len/\cs[off+i]? = some v/\Wound x k (k+1) Z V:=by
 obtain⟨w,a_,e,h0,h1,hW⟩:=NN n x k (Int.ofNat len-1) (by rw[Int.ofNat_eq_natCast];omega) hk Z hw hC
 obtain⟨i,rfl⟩:∃i:Nat,w=Int.ofNat i:=⟨w.toNat,by rw[Int.ofNat_eq_natCast];omega⟩
 have hi:i<len:=by rw[Int.ofNat_eq_natCast,Int.ofNat_eq_natCast] at h1;omega
 rw[Al _ 57 _ _ rfl,Aot _ _ _ _ (by simp),Aj]
 unfold AmF
 have hwr:wrapI (Int.ofNat len-1)=Int.ofNat len-1:=Dj (by rw[Int.ofNat_eq_natCast];omega)
 have hc1:a_.cells b=some cs:=(hW.ext.cells (hw.cells hc) hb).trans hc
 have hv:cs[off+i]? = some cs[off+i]:=List.getElem?_eq_getElem (by omega)
 simp -implicitDefEqProofs only[go_sem,AkJ,Y9,AkK,Y_,hwr,e,hi,hc1,hv]
 exact⟨i,_,_,rfl,hi,hv,hW⟩
end
section
open Go Go.Eng
attribute [local congr] Aa Af Ae Ab Ad
attribute [-go_sem] List.range_succ
theorem Bg:aggSize Tryz.prog 24=some (some 4):=by kernel_rfl
theorem AvH(n:Nat)(z:Int)(Z:aC)(hw:Wf Z):
  Gives ((env (n+1)).call 58 [.int .i64 z] none Z) Z fun v _=>v=.agg #[.int .i64 2,.int .i64 z,.string ⟨#[]⟩,.slice none 0 0]:=by
 rw[Al _ 58 _ _ rfl,Aou _ _ _ _ (by simp),Aj]
 unfold AmG
 simp -implicitDefEqProofs only[go_sem,Ar,AkL,Za,AkM,Zb,Bg]
 exact⟨_,_,rfl,((Ext.refl Z).push _ _).put _ _ _ (Nat.le_refl _),(hw.push _ _).put _ _ _ (Nat.lt_succ_self _),rfl⟩
theorem AwF(n:Nat)(s:ByteArray)(Z:aC)(hw:Wf Z):
  Gives ((env (n+1)).call 56 [.string s] none Z) Z fun v _=>v=.agg #[.int .i64 3,.int .i64 0,.string s,.slice none 0 0]:=by
 rw[Al _ 56 _ _ rfl,Aos _ _ _ _ (by simp),Aj]
 unfold AmE
 simp -implicitDefEqProofs only[go_sem,Ar,AkH,Y7,AkI,Y8,Bg]
 exact⟨_,_,rfl,((Ext.refl Z).push _ _).put _ _ _ (Nat.le_refl _),(hw.push _ _).put _ _ _ (Nat.lt_succ_self _),rfl⟩
theorem AwE(n:Nat)(s:ByteArray)(Z:aC)(hw:Wf Z):
  Gives ((env (n+1)).call 52 [.string s] none Z) Z fun v _=>v=.agg #[.int .i64 4,.int .i64 0,.string s,.slice none 0 0]:=by
 rw[Al _ 52 _ _ rfl,Aop _ _ _ _ (by simp),Aj]
 unfold AmB
 simp -implicitDefEqProofs only[go_sem,Ar,AkB,Y1,AkC,Y2,Bg]
 exact⟨_,_,rfl,((Ext.refl Z).push _ _).put _ _ _ (Nat.le_refl _),(hw.push _ _).put _ _ _ (Nat.lt_succ_self _),rfl⟩
theorem Ans(n:Nat)(b:Bool)(Z:aC)(hw:Wf Z):
  Gives ((env (n+1)).call 55 [.bool b] none Z) Z fun v _=>v=.agg #[.int .i64 1,.int .i64 (if b=true then 1 else 0),.string ⟨#[]⟩,.slice none 0 0]:=by
 rw[Al _ 55 _ _ rfl,Aor _ _ _ _ (by simp),Aj]
 unfold AmD
 cases b with
 | true=>
  simp -implicitDefEqProofs only[go_sem,Ar,VJ,Si,VK,Sj,AkF,Y5,Bg]
  exact⟨_,_,rfl,((Ext.refl Z).push _ _).put _ _ _ (Nat.le_refl _),(hw.push _ _).put _ _ _ (Nat.lt_succ_self _),rfl⟩
 | false=>
  simp -implicitDefEqProofs only[go_sem,Ar,VJ,Si,VK,Sj,AkG,Y6,Bg]
  exact⟨_,_,rfl,((Ext.refl Z).push _ _).put _ _ _ (Nat.le_refl _),(hw.push _ _).put _ _ _ (Nat.lt_succ_self _),rfl⟩
def symTexts:List ByteArray:=[⟨#[97]⟩,⟨#[98]⟩,⟨#[120]⟩,⟨#[105,102]⟩,⟨#[108,105,115,116]⟩,⟨#[97,45,98]⟩,⟨#[110,117,108,108,63]⟩,⟨#[43]⟩]
def strTexts:List ByteArray:=[⟨#[]⟩,⟨#[97]⟩,⟨#[116,119,111,32,119,111,114,100,115]⟩,⟨#[113,34,113]⟩,⟨#[98,92]⟩]
inductive Leaf:D->Prop
 | nil:Leaf (.mk 0 0 ⟨#[]⟩ [])
 | bool (b:Bool):Leaf (.mk 1 (if b=true then 1 else 0) ⟨#[]⟩ [])
 | num (z:Int) (h : -999<=z/\z<=999):Leaf (.mk 2 z ⟨#[]⟩ [])
 | sym (t:ByteArray) (h:t∈symTexts):Leaf (.mk 3 0 t [])
 | str (t:ByteArray) (h:t∈strTexts):Leaf (.mk 4 0 t [])
inductive Made:Nat->D->Prop
 | leaf (L:Nat) (d:D) (h:Leaf d):Made L d
 | pair (L:Nat) (a b:D) (ha:Made L a) (hb:Made L b):Made (L+1) (.mk 5 0 ⟨#[]⟩ [a,b])
 | vec (L:Nat) (l:List D) (hl:l.length<=3) (h:∀d,d∈l->Made L d):Made (L+1) (.mk 6 0 ⟨#[]⟩ l)
theorem Coil.cells{Z:aC}{x k:Nat}(h:Coil Z x k):∃c3,Z.cells x=some c3/\c3.length<4:=by
 obtain⟨p,l,cp,m,ver,hc,_⟩:=h
 exact⟨_,Aq hc,by simp⟩
theorem Coil.low{Z V:aC}{x k:Nat}(h:Coil Z x k)(hx:∀b,b<=x->V.heap.get b=Z.heap.get b):Coil V x k:=by
 obtain⟨p,l,cp,m,ver,hc,hl,hll,hp⟩:=h
 refine⟨p,l,cp,m,ver,(hx x (Nat.le_refl _)).trans hc,?_,hll,hp⟩
 intro i z hi
 obtain⟨b,off,cs,hb,h1,h2⟩:=hl i z hi
 refine⟨b,off,cs,hb,?_,h2⟩
 rw[AO,hx b (Nat.le_of_lt (hp _ hb)),<-AO]
 exact h1
theorem Coil.put{Z:aC}{x k:Nat}(h:Coil Z x k)(b:Nat)(hb:x<b)(o:FObj)(fz:Option Nat):Coil (Z.put b o fz) x k:=h.low fun c hc=>by
 rw[Am,if_neg (by omega)]
theorem Coil.ext{Z V:aC}{x k:Nat}(hw:Wf Z)(h:Coil Z x k)(hx:Ext Z V):Coil V x k:=by
 obtain⟨p,l,cp,m,ver,hc,r⟩:=h
 have hlt:=(hw x _ hc).1
 exact Coil.low ⟨p,l,cp,m,ver,hc,r⟩ fun b hb=>hx.get b (by omega)
def LeafIn(x k K bo:Nat)(bU:aC)(r:KRes):Prop:=∃f g V kd n t k',r=.done .ret (Sl 7 71 f g []) none V/\f 4=.pointer (some ⟨bo,0,none⟩)/\
 (∃ver,V.heap.get bo=some ⟨.cells [.int .i64 kd,.int .i64 n,.string t,.slice none 0 0] 24,false,none,ver⟩)/\Leaf (.mk kd n t [])/\ExtC x bU V/\Wf V/\Coil V x k'/\k<=k'/\k'<=K
def leaf8(E:Env)(ro:Option Nat):aZ:=(aF (aF (aD E ro Awr) (aW 0 (aF (aD E ro Aws) (aN (fun a=>(a.get 15)) (aF (aD E ro Awt) bL) (aF (aD E ro Awu) (aN (fun a=>(a.get 18)) (aF (aD E ro Awv) bL) (aF (aD E ro Aww) (aN (fun a=>(a.get 23)) (aF (aD E ro Awx) bL) (aF (aD E ro Awy) (aN (fun a=>(a.get 29)) (aF (aD E ro AlH) bL) aV)))))))))) (aF (aD E ro AlJ) bL))
theorem UQ(n x k bo:Nat)(hk:k<100000000000)(bU Z:aC)(f g:Nat->Value)(h0:f 0=.pointer (some ⟨x,0,none⟩))(h4:f 4=.pointer (some ⟨bo,0,none⟩))(hw:Wf Z)(hC:Coil Z x k)(hX:ExtC x bU Z)(hbo:bU.next<=bo)(hbx:x<bo)(ver:Nat)(z0 z1 z2 z3:Value)(hb:Z.heap.get bo=some ⟨.cells [z0,z1,z2,z3] 24,false,none,ver⟩):
  LeafIn x k (k+4) bo bU (leaf8 (env (n+3)) none (Sl 7 71 f g []) none Z):=by
 obtain⟨w,a_,e,w0,w1,hX1,hw1,hC1⟩:=NN (n+1) x k 6 (by omega) (by omega) Z hw hC
 have hne:bo≠x:=by omega
 unfold leaf8
 have hb1:a_.heap.get bo=some ⟨.cells [z0,z1,z2,z3] 24,false,none,ver⟩:=(hX1.get bo (hw bo _ hb).1 hne).trans hb
 have fin:∀(τ:aC) (ver' k':Nat) (y:List Value) (kd m:Int) (t:ByteArray),ExtC x a_ τ->Wf τ->Coil τ x k'->τ.heap.get bo=some ⟨.cells y 24,false,none,ver'⟩->k<=k'->k'<=k+4->Leaf (.mk kd m t [])->∀g',
   LeafIn x k (k+4) bo bU (.done .ret (Sl 7 71 f g' []) none (τ.put bo (.cells [.int .i64 kd,.int .i64 m,.string t,.slice none 0 0] 24) none)):=fun τ ver' k' y kd m t a1 a2 a3 a4 a5 a6 a7 g'=>
  ⟨f,g',_,kd,m,t,k',rfl,h4,⟨_,by rw[Am,if_pos rfl]⟩,a7,((hX.trans hX1).trans a1).putNew _ _ _ hbo,a2.put _ _ _ (a2 _ _ a4).1,a3.put _ hbx _ _,a5,a6⟩
 by_cases c0:w=0
 .subst c0
  have d0:((0:Int)==0)=true:=rfl
  simp -implicitDefEqProofs only[go_sem,Ar,JH,Nq,JI,Nr,Ap2,AlW,h0,h4,e,d0,hb1]
  exact fin a_ _ (k+1) _ 0 0 _ (ExtC.refl _ _) hw1 hC1 hb1 (by omega) (by omega) .nil _
 .have d0:(w==0)=false:=by simpa using c0
  by_cases c1:w=1
  .subst c1
   have d1:((1:Int)==1)=true:=rfl
   obtain⟨b,a9,e2,hX2,hw2,hC2⟩:=Qq n x (k+1) 2 (by omega) (by omega) a_ hw1 hC1
   obtain⟨_,bT,e3,hX3,hw3,rfl⟩:=Ans (n+2) b a9 hw2
   have hb3:bT.heap.get bo=some ⟨.cells [z0,z1,z2,z3] 24,false,none,ver⟩:=(hX3.get bo (hw2 _ _ ((hX2.get bo (hw1 _ _ hb1).1 hne).trans hb1)).1).trans ((hX2.get bo (hw1 _ _ hb1).1 hne).trans hb1)
   simp -implicitDefEqProofs only[go_sem,Ar,JH,Nq,JI,Nr,LD,PE,Ap3,AlX,h0,h4,e,d0,d1,hb1,e2,e3,hb3]
   exact fin bT _ (k+2) _ 1 _ _ (hX2.trans (hX3.toC x)) hw3 (hC2.ext hw2 hX3) hb3 (by omega) (by omega) (.bool b) _
  .have d1:(w==1)=false:=by simpa using c1
   have at1:∀(a9:aC),ExtC x a_ a9->a9.heap.get bo=some ⟨.cells [z0,z1,z2,z3] 24,false,none,ver⟩:=fun a9 h=>(h.get bo (hw1 _ _ hb1).1 hne).trans hb1
   by_cases c2:w=2
   .subst c2
    have d2:((2:Int)==2)=true:=rfl
    have hX2:Ext a_ (a_.push (.cells (symTexts.map Value.string) 9) none):=(Ext.refl _).push _ _
    have hw2:=hw1.push (.cells (symTexts.map Value.string) 9) none
    obtain⟨i,v,bT,e3,hi,hv,hX3,hw3,hC3⟩:=Acg n x (k+1) a_.next 0 8 8 (symTexts.map Value.string) (by omega) (by omega) _ hw2 (hC1.ext hw1 hX2) (by rw[Ah,if_pos rfl];rfl)
     (by have:=(hw1 _ _ hb1).1;omega) (by simp[symTexts])
    rw[List.getElem?_map,Option.map_eq_some_iff] at hv
    obtain⟨t,ht,rfl⟩:=hv
    have htm:=List.mem_of_getElem? ht
    obtain⟨_,bX,e4,hX4,hw4,rfl⟩:=AwF (n+2) t bT hw3
    have hx4:ExtC x a_ bX:=((hX2.toC x).trans hX3).trans (hX4.toC x)
    have hb4:=at1 bX hx4
    have e3':(env (n+3)).call 57 [.pointer (some ⟨x,0,none⟩),.slice (some ⟨a_.next,0,none⟩) 8 8] none (a_.push (.cells [.string ⟨#[97]⟩,.string ⟨#[98]⟩,.string ⟨#[120]⟩,.string ⟨#[105,102]⟩,.string ⟨#[108,105,115,116]⟩,.string ⟨#[97,45,98]⟩,.string ⟨#[110,117,108,108,63]⟩,.string ⟨#[43]⟩] 9) none)=.ret (.string t) none bT:=e3
    simp -implicitDefEqProofs only[go_sem,Ar,JH,Nq,JI,Nr,LD,PE,SZ,Wl,Ap4,AlY,h0,h4,e,d0,d1,d2,hb1,e3',e4,hb4]
    exact fin bX _ (k+2) _ 3 0 _ hx4 hw4 (hC3.ext hw3 hX4) hb4 (by omega) (by omega) (.sym t htm) _
   .have d2:(w==2)=false:=by simpa using c2
    by_cases c3:w=3
    .subst c3
     have d3:((3:Int)==3)=true:=rfl
     have hX2:Ext a_ (a_.push (.cells (strTexts.map Value.string) 9) none):=(Ext.refl _).push _ _
     have hw2:=hw1.push (.cells (strTexts.map Value.string) 9) none
     obtain⟨i,v,bT,e3,hi,hv,hX3,hw3,hC3⟩:=Acg n x (k+1) a_.next 0 5 5 (strTexts.map Value.string) (by omega) (by omega) _ hw2 (hC1.ext hw1 hX2) (by rw[Ah,if_pos rfl];rfl)
      (by have:=(hw1 _ _ hb1).1;omega) (by simp[strTexts])
     rw[List.getElem?_map,Option.map_eq_some_iff] at hv
     obtain⟨t,ht,rfl⟩:=hv
     have htm:=List.mem_of_getElem? ht
     obtain⟨_,bX,e4,hX4,hw4,rfl⟩:=AwE (n+2) t bT hw3
     have hx4:ExtC x a_ bX:=((hX2.toC x).trans hX3).trans (hX4.toC x)
     have hb4:=at1 bX hx4
     have e3':(env (n+3)).call 57 [.pointer (some ⟨x,0,none⟩),.slice (some ⟨a_.next,0,none⟩) 5 5] none (a_.push (.cells [.string ⟨#[]⟩,.string ⟨#[97]⟩,.string ⟨#[116,119,111,32,119,111,114,100,115]⟩,.string ⟨#[113,34,113]⟩,.string ⟨#[98,92]⟩] 9) none)=.ret (.string t) none bT:=e3
     simp -implicitDefEqProofs only[go_sem,Ar,JH,Nq,JI,Nr,LD,PE,SZ,Wl,Ab8,Ab7,AlI,Z3,h0,h4,e,d0,d1,d2,d3,hb1,e3',e4,hb4]
     exact fin bX _ (k+2) _ 4 0 _ hx4 hw4 (hC3.ext hw3 hX4) hb4 (by omega) (by omega) (.str t htm) _
    .have d3:(w==3)=false:=by simpa using c3
     obtain⟨a,a9,e2,a0,a1,hX2,hw2,hC2⟩:=Abh n x (k+1) (-20) 20 (by omega) (by omega) a_ hw1 hC1
     obtain⟨b,bT,e3,b0,b1,hX3,hw3,hC3⟩:=Abh n x (k+2) (-999) 999 (by omega) (by omega) a9 hw2 hC2
     have hX4:Ext bT (bT.push (.cells [.int .i64 0,.int .i64 1,.int .i64 (-1),.int .i64 a,.int .i64 b] 3) none):=(Ext.refl _).push _ _
     have hw4:=hw3.push (.cells [.int .i64 0,.int .i64 1,.int .i64 (-1),.int .i64 a,.int .i64 b] 3) none
     have hlt:x<bT.next:=by have:=(hw1 _ _ hb1).1;have:=hX2.next;have:=hX3.next;omega
     obtain⟨i,v,bV,e5,hi,hv,hX5,hw5,hC5⟩:=AvI n x (k+3) bT.next 0 5 5 _ (by omega) (by omega) _ hw4 (hC3.ext hw3 hX4) (by rw[Ah,if_pos rfl];rfl) (by omega) (by simp)
     have hz:∃z,v=.int .i64 z /\ -999<=z/\z<=999:=by
      obtain rfl|rfl|rfl|rfl|rfl:i=0\/i=1\/i=2\/i=3\/i=4:=by omega
      all_goals (simp at hv;exact⟨_,hv.symm,by omega,by omega⟩)
     obtain⟨z,rfl,hz0,hz1⟩:=hz
     obtain⟨_,cB,e6,hX6,hw6,rfl⟩:=AvH (n+2) z bV hw5
     have hx6:ExtC x a_ cB:=(((hX2.trans hX3).trans (hX4.toC x)).trans hX5).trans (hX6.toC x)
     have hb6:=at1 cB hx6
     simp -implicitDefEqProofs only[go_sem,Ar,JH,Nq,JI,Nr,LD,PE,SZ,Wl,Ab8,Ab7,AlK,Z4,h0,h4,e,d0,d1,d2,d3,hb1,e2,e3,e5,e6,hb6]
     exact fin cB _ (k+4) _ 2 z _ hx6 hw6 (hC5.ext hw5 hX6) hb6 (by omega) (by omega) (.num z ⟨hz0,hz1⟩) _
theorem AwS:bE nls 8=[61,62,63,64,65,66,67,68,69,70]:=by kernel_rfl
theorem Ms(n:Nat)(R:Nat->Prop)(d1 d2:D)(v1 v2:Value)(Z:aC)(hw:Wf Z)(h1:aL R Z v1 d1)(h2:aL R Z v2 d2):
  ∃v V,(env (n+1)).call 61 [v1,v2] none Z=.ret v none V/\Ext Z V/\Wf V/\aL (fun b=>R b\/New Z V b) V v (.mk 5 0 ⟨#[]⟩ [d1,d2]):=by
 have H1:=h1
 have H2:=h2
 obtain⟨k1,n1,t1,l1⟩:=d1
 obtain⟨k2,n2,t2,l2⟩:=d2
 obtain⟨p1,c1,rfl,e1⟩:=h1
 obtain⟨p2,c2,rfl,e2⟩:=h2
 rw[Al _ 61 _ _ rfl,Aox _ _ _ _ (by simp),Aj]
 unfold AmJ
 simp -implicitDefEqProofs only[go_sem,Ar,AkR,Zg,AkS,Zh,Bg]
 generalize hs:aC.put _ _ _ _=V
 have hx:Ext Z V:=by
  rw[<-hs]
  exact(((((Ext.refl Z).push _ _).push _ _).push _ _).push _ _).put _ _ _ (Nat.le_add_right _ _)
 have hw':Wf V:=by
  rw[<-hs]
  exact((((hw.push _ _).push _ _).push _ _).push _ _).put _ _ _ (by simp only[Ac];omega)
 have hc:V.cells (Z.next+3)=some [.int .i64 k1,.int .i64 n1,.string t1,.slice p1 l1.length c1,.int .i64 k2,.int .i64 n2,.string t2,.slice p2 l2.length c2]:=by
  rw[<-hs]
  simp -implicitDefEqProofs only[go_sem]
 have hN:New Z V (Z.next+3):=⟨by omega,hw'.cells hc⟩
 have kp:∀b cs,R b->Z.cells b=some cs->V.cells b=some cs/\(R b\/New Z V b):=fun b cs hR h=>⟨(hx.cells (hw.cells h)).trans h,.inl hR⟩
 exact⟨_,_,rfl,hx,hw',some ⟨Z.next+3,0,none⟩,2,rfl,⟨_,_,_,rfl,.inr hN,hc,by simp,H1.keep kp⟩,⟨_,_,_,rfl,.inr hN,hc,by simp,H2.keep kp⟩,trivial⟩
def Vec(Z:aC)(lo:Nat)(s:Value)(ds:List D):Prop:=
 (ds=[]/\s=.slice none 0 0)\/(∃b cs ver,s=.slice (some ⟨b,0,none⟩) ds.length ds.length/\Z.heap.get b=some ⟨.cells cs 24,false,some 4,ver⟩/\lo<b/\Row (fun c=>lo<c/\c≠b) Z cs ds)
theorem G3(a_:aC)(lo:Nat)(s:Value)(ds:List D)(d:D)(l:List Value)(hw:Wf a_)(hlo:lo<a_.next)(hl:l.length=4)(ho:l.all oneCell=true)(hlen:ds.length<900)(hV:Vec a_ lo s ds)(hd:aL (fun c=>lo<c/\∀b n m,s=.slice (some ⟨b,0,none⟩) n m->c≠b) a_ (.agg l.toArray) d):
  ∃s' τ,fappend 24 4 56 s (.slice (some ⟨a_.next,0,none⟩) 1 1) (a_.push (.cells l 24) none)=.val s' τ/\oneCell s'=true/\Vec τ lo s' (ds++[d])/\Wf τ/\a_.next<=τ.next/\a_.clock<=τ.clock/\
   (∀c,c<=lo->τ.heap.get c=a_.heap.get c)/\(∀c,c<a_.next->(∀b n m,s=.slice (some ⟨b,0,none⟩) n m->c≠b)->τ.heap.get c=a_.heap.get c):=by
 have hx:(a_.push (.cells l 24) none).cells a_.next=some l:=by rw[Ah,if_pos rfl];rfl
 rcases hV with⟨rfl,rfl⟩|⟨b,cs,ver,rfl,hb,hlb,hR⟩
 .refine⟨_,_,IR 24 4 56 _ 1 l _ hx hl ho (by decide),rfl,.inr ⟨_,_,_,rfl,by rw[Ai,if_pos rfl],by rw[Ac];omega,?_⟩,(hw.push _ _).push _ _,?_,?_,?_,?_⟩
  .have h2:aL (fun c=>lo<c/\c≠(a_.push (.cells l 24) none).next) ((a_.push (.cells l 24) none).push (.cells l 24) (some 4)) (.agg l.toArray) d:=hd.keep fun c cs hc h=>by
    have:=hw.cells h
    refine⟨?_,hc.1,by rw[Ac];omega⟩
    rw[Ah,if_neg (by rw[Ac];omega),Ah,if_neg (by omega)]
    exact h
   exact(Row.nil _ _).snoc hl ho h2
  .simp only[Ac];omega
  .simp only[Bk];omega
  .intro c hc
   rw[Ai,if_neg (by rw[Ac];omega),Ai,if_neg (by omega)]
  .intro c hc _
   rw[Ai,if_neg (by rw[Ac];omega),Ai,if_neg (by omega)]
 .have hbn:b<a_.next:=(hw b _ hb).1
  have hb1:(a_.push (.cells l 24) none).heap.get b=some ⟨.cells cs 24,false,some 4,ver⟩:=by rw[Ai,if_neg (by omega)];exact hb
  have hw1:=hw.push (.cells l 24) none
  have hw2:=hw1.put b (.defd false) none (by rw[Ac];omega)
  refine⟨_,_,Kw 24 4 56 b _ 1 ds.length ver cs l _ hb1 hx hl ho hR.1 (by decide) (by omega),rfl,.inr ⟨_,_,_,by rw[List.length_append];rfl,by rw[Ai,if_pos rfl],by rw[Aw,Ac];omega,?_⟩,hw2.push _ _,?_,?_,?_,?_⟩
  .have kp:∀(c:Nat) (cs':List Value),(lo<c/\c≠b)->a_.cells c=some cs'->
     (((a_.push (.cells l 24) none).put b (.defd false) none).push (.cells (cs++l) 24) (some 4)).cells c=some cs'/\(lo<c/\c≠((a_.push (.cells l 24) none).put b (.defd false) none).next):=fun c cs' hc h=>by
    have:=hw.cells h
    refine⟨?_,hc.1,by rw[Aw,Ac];omega⟩
    rw[Ah,if_neg (by rw[Aw,Ac];omega),Ak,if_neg hc.2,Ah,if_neg (by omega)]
    exact h
   exact(hR.keep kp).snoc hl ho ((hd.keep fun c cs' hc h=>kp c cs' ⟨hc.1,hc.2 b _ _ rfl⟩ h))
  .simp only[Ac,Aw];omega
  .simp only[Bk,BA];omega
  .intro c hc
   rw[Ai,if_neg (by rw[Aw,Ac];omega),Am,if_neg (by omega),Ai,if_neg (by omega)]
  .intro c hc hne
   rw[Ai,if_neg (by rw[Aw,Ac];omega),Am,if_neg (hne b _ _ rfl),Ai,if_neg (by omega)]
theorem Vec.keep{Z V:aC}{lo:Nat}{s:Value}{ds:List D}(hw:Wf Z)(h:Vec Z lo s ds)(hx:∀c,lo<c->c<Z.next->V.heap.get c=Z.heap.get c):Vec V lo s ds:=by
 rcases h with h|⟨b,cs,ver,hs,hb,hlb,hR⟩
 .exact .inl h
 .refine .inr ⟨b,cs,ver,hs,(hx b hlb (hw b _ hb).1).trans hb,hlb,hR.keep fun c cs' hc h=>⟨?_,hc⟩⟩
  rw[AO,hx c hc.1 (hw.cells h),<-AO]
  exact h
def DatumAt(m x L W:Nat):Prop:=∀k Z,k+W<100000000000->Wf Z->Coil Z x k->∃v d V k',(env m).call 8 [.pointer (some ⟨x,0,none⟩),.int .i64 (.ofNat L)] none Z=.ret v none V/\aL (New Z V) V v d/\Made L d/\
 ExtC x Z V/\Wf V/\Coil V x k'/\k<=k'/\k'<=k+W
structure HeadV (x bo b5 L W K j:Nat) (bU:aC) (ds:List D) (f:Nat->Value) (Z:aC):Prop where
 f0:f 0=.pointer (some ⟨x,0,none⟩)
 f1:f 1=.int .i64 (.ofNat (L+1))
 f4:f 4=.pointer (some ⟨bo,0,none⟩)
 f5:f 5=.pointer (some ⟨b5,0,none⟩)
 f6:f 6=.int .i64 (.ofNat j)
 hbo:∃ver z0 z1 z2 z3,Z.heap.get bo=some ⟨.cells [z0,z1,z2,z3] 24,false,none,ver⟩
 hb5:∃ver s,Z.heap.get b5=some ⟨.cells [.int .i64 6,.int .i64 0,.string ⟨#[]⟩,s] 24,false,none,ver⟩/\Vec Z b5 s ds
 ext:ExtC x bU Z
 wf:Wf Z
 coil:∃k',Coil Z x k'/\k'+j*W<=K
 made:∀d,d∈ds->Made L d
 lt1:x<bU.next
 lt2:bU.next<=bo
 lt3:bo<b5
 len:ds.length+j<=3
theorem PY(m x bo b5 L W K:Nat)(hK:K<100000000000)(hL:L<1000)(bU:aC)(k0:Nat)(hD:DatumAt m x L W):∀(j fuel:Nat) (ds:List D) (f g:Nat->Value) (Z:aC),j<fuel->HeadV x bo b5 L W K j bU ds f Z->(∃k',Coil Z x k'/\k0<=k'/\k'+j*W<=K)->
  ∃f' g' V ds',floop [61,62,63,64,65,66,67,68,69,70] (AfH (env m) none 8) fuel (Sl 7 71 f g []) none Z=.done (.exit 1) (Sl 7 71 f' g' []) none V/\HeadV x bo b5 L W K 0 bU ds' f' V/\(∃k',Coil V x k'/\k0<=k'/\k'<=K):=by
 intro j
 induction j with
 | zero=>
  intro fuel ds f g Z hf hH hk
  obtain⟨fuel,rfl⟩:∃q,fuel=q+1:=⟨fuel-1,by omega⟩
  have hd:decide (Int.ofNat 0>0)=false:=rfl
  rw[Ao]
  unfold AfH
  simp -implicitDefEqProofs only[go_sem,Wj,SX,hH.f6,hd]
  exact⟨f,_,Z,ds,rfl,hH,by simpa using hk⟩
 | succ j ih=>
  intro fuel ds f g Z hf hH hk
  obtain⟨k',hC,hk0,hkK⟩:=hk
  obtain⟨fuel,rfl⟩:∃q,fuel=q+1:=⟨fuel-1,by omega⟩
  have hd:decide (Int.ofNat (j+1)>0)=true:=by simp
  have hwr:wrapI (Int.ofNat (L+1)-1)=Int.ofNat L:=by
   rw[Dj (by rw[Int.ofNat_eq_natCast];omega),Int.ofNat_eq_natCast,Int.ofNat_eq_natCast];omega
  have hwj:wrapI (Int.ofNat (j+1)-1)=Int.ofNat j:=by
   have:=hH.len
   rw[Dj (by rw[Int.ofNat_eq_natCast];omega),Int.ofNat_eq_natCast,Int.ofNat_eq_natCast];omega
  have hjW:(j+1)*W=j*W+W:=Nat.succ_mul j W
  obtain⟨v,d,a_,k1,e,hLd,hMd,hX1,hw1,hC1,hk1,hk2⟩:=hD k' Z (by omega) hH.wf hC
  obtain⟨ver5,s,hb5,hV⟩:=hH.hb5
  have hxb:x<b5:=by have:=hH.lt1;have:=hH.lt2;have:=hH.lt3;omega
  have hb5n:=(hH.wf b5 _ hb5)
  have hb51:a_.heap.get b5=_:=(hX1.get b5 hb5n.1 (by omega)).trans hb5
  have hv5:(view a_ Z.clock).cells b5=some [.int .i64 6,.int .i64 0,.string ⟨#[]⟩,s]:=by
   rw[G5,hb51]
   simp only[Option.bind_some]
   rw[if_pos hb5n.2]
   rfl
  have hV1:Vec a_ b5 s ds:=hV.keep hH.wf fun c h1 h2=>hX1.get c h2 (by omega)
  have hs:∀b n m,s=.slice (some ⟨b,0,none⟩) n m->b<Z.next/\b5<b:=by
   intro b n m hs
   rcases hV with⟨_,h⟩|⟨b',cs,ver,h,hb,hlb,_⟩
   .rw[hs] at h;cases h
   .rw[hs] at h;cases h;exact⟨(hH.wf _ _ hb).1,hlb⟩
  obtain⟨kd,nd,td,dd⟩:=d
  have hLd':=hLd
  obtain⟨p,c,rfl,_⟩:=hLd'
  obtain⟨s',τ,ha,ho,hVτ,hwτ,hnτ,hcτ,hg1,hg2⟩:=G3 a_ b5 s ds (.mk kd nd td dd) [.int .i64 kd,.int .i64 nd,.string td,.slice p dd.length c] hw1 (by have:=hX1.next;omega) rfl rfl (by have:=hH.len;omega) hV1
   (hLd.keep fun c cs hc h=>⟨h,by have:=hc.1;omega,fun b n m hsb=>by have:=(hs b n m hsb).1;have:=hc.1;omega⟩)
  have hgb5:τ.heap.get b5=_:=(hg1 b5 (Nat.le_refl _)).trans hb51
  have hb5τ:b5<τ.next:=by have:=hX1.next;omega
  obtain⟨vero,z0,z1,z2,z3,hbo⟩:=hH.hbo
  have hlt3:=hH.lt3
  have hlt2:=hH.lt2
  have hlt1:=hH.lt1
  have hCτ:Coil τ x k1:=hC1.low fun c hc=>hg1 c (by omega)
  have hH':HeadV x bo b5 L W K j bU (ds++[.mk kd nd td dd]) (upd f 6 (.int .i64 (.ofNat j))) (τ.put b5 (.cells [.int .i64 6,.int .i64 0,.string ⟨#[]⟩,s'] 24) none):={
   f0:=by simp -implicitDefEqProofs only[go_sem,reduceCtorEq,hH.f0]
   f1:=by simp -implicitDefEqProofs only[go_sem,reduceCtorEq,hH.f1]
   f4:=by simp -implicitDefEqProofs only[go_sem,reduceCtorEq,hH.f4]
   f5:=by simp -implicitDefEqProofs only[go_sem,reduceCtorEq,hH.f5]
   f6:=by simp -implicitDefEqProofs only[go_sem,reduceCtorEq]
   hbo:=⟨vero,z0,z1,z2,z3,by
    rw[Am,if_neg (by omega),hg1 bo (by omega),hX1.get bo (by have:=hb5n.1;omega) (by omega)]
    exact hbo⟩
   hb5:=⟨_,s',by rw[Am,if_pos rfl],hVτ.keep hwτ fun c h1 h2=>by rw[Am,if_neg (by omega)]⟩
   ext:=⟨by rw[Aw];have:=hH.ext.next;have:=hX1.next;omega,by rw[BA];have:=hH.ext.clock;have:=hX1.clock;omega,fun c hc hcx=>by
    have h1:=hH.ext.next
    have h2:=hX1.next
    rw[Am,if_neg (by omega),hg2 c (by omega) (fun b n m h=>by have:=(hs b n m h).2;omega),hX1.get c (by omega) hcx]
    exact hH.ext.get c hc hcx⟩
   wf:=hwτ.put _ _ _ hb5τ
   coil:=⟨k1,hCτ.put b5 hxb _ _,by omega⟩
   made:=fun e he=>by
    rcases List.mem_append.1 he with h|h
    .exact hH.made e h
    .rw[List.mem_singleton.1 h];exact hMd
   lt1:=hlt1
   lt2:=hlt2
   lt3:=hlt3
   len:=by have:=hH.len;rw[List.length_append,List.length_singleton];omega }
  rw[Ao]
  unfold AfH
  simp -implicitDefEqProofs only[go_sem,Wj,SX,AlQ,Z7,AlR,Z8,hH.f0,hH.f1,hH.f5,hH.f6,hd,hwr,e,hv5,ha,ho,hgb5,hwj]
  exact ih fuel _ _ _ _ (by omega) hH' ⟨k1,hCτ.put b5 hxb _ _,by omega,by omega⟩
def vec8(E:Env)(ro:Option Nat):aZ:=(aF (aD E ro AlM) (aF (aF (aD E ro AlO) (aW 1 (loopR (bE nls 8) (AfH E ro 8)))) (aF (aD E ro AlS) bL)))
def rest8(E:Env)(ro:Option Nat):aZ:=(aF (aF (aD E ro AlL) (aN (fun a=>(a.get 44)) (vec8 E ro) aV)) (aF (aD E ro AlU) bL))
theorem Acd(E:Env)(ro:Option Nat):AwC E ro 8=aF (aD E ro Awp) (aF (aF (aD E ro Awq) (aN (fun a=>(a.get 12)) (leaf8 E ro) aV)) (rest8 E ro)):=rfl
theorem UR{x k K bo L:Nat}{Z:aC}{r:KRes}(E:Env)(hbo:bo=Z.next)(h:LeafIn x k K bo Z r):∃v d V k',aP Tryz.prog E [.cell 4 24] r=.ret v none V/\aL (New Z V) V v d/\Made L d/\ExtC x Z V/\Wf V/\Coil V x k'/\k<=k'/\k'<=K:=by
 obtain⟨f,g,V,kd,n,t,k',rfl,h4,⟨ver,hg⟩,hL,hX,hw,hC,h1,h2⟩:=h
 have hc:=Aq hg
 simp -implicitDefEqProofs only[go_sem,Bg,h4,hc]
 exact⟨_,.mk kd n t [],_,k',rfl,⟨none,0,rfl,trivial⟩,.leaf _ _ hL,hX,hw,hC,h1,h2⟩
theorem I2(M x L W:Nat)(hL:L<2)(hW:4<=W):DatumAt (M+3+1) x L W:=by
 intro k Z hk hw hC
 have hx:=hC.cells
 have hd:decide (Int.ofNat L<2)=true:=by simp;omega
 rw[Al _ 8 _ _ rfl,Afn _ _ _ _ (by simp),Aj,Acd]
 have hXa:Ext Z (Z.push (.cells [.int .i64 0,.int .i64 0,.string ⟨#[]⟩,.slice none 0 0] 24) none):=(Ext.refl _).push _ _
 have hwa:=hw.push (.cells [.int .i64 0,.int .i64 0,.string ⟨#[]⟩,.slice none 0 0] 24) none
 obtain⟨c3,hc3,_⟩:=hx
 have hxn:=hw.cells hc3
 simp -implicitDefEqProofs only[go_sem,SV,Wh,SY,Wk,hd]
 generalize hf:upd _ _ _=f1
 generalize hg:upd _ _ _=g1
 have hleaf:=UQ M x k Z.next (by omega) Z _ f1 g1 (by rw[<-hf];simp -implicitDefEqProofs only[go_sem,reduceCtorEq]) (by rw[<-hf];simp -implicitDefEqProofs only[go_sem,reduceCtorEq]) hwa (hC.ext hw hXa) (hXa.toC x) (Nat.le_refl _) hxn _ _ _ _ _ (by rw[Ai,if_pos rfl])
 obtain⟨v,d,V,k',h1,h2⟩:=UR (L:=L) (env (M+3)) rfl hleaf
 obtain⟨f,g,cA,kd,nn,t,k'',e1,r1⟩:=hleaf
 rw[e1] at h1 ⊢
 simp -implicitDefEqProofs only[A0]
 obtain⟨r2,r3,r4,r5,r6,r7,r8⟩:=h2
 exact⟨v,d,V,k',h1,r2,r3,r4,r5,r6,r7,by omega⟩
theorem PZ(M x L W:Nat)(hL:1<=L/\L<900)(hW:4<=W/\W<10000000000)(hD:DatumAt (M+3) x L W):DatumAt (M+3+1) x (L+1) (3*W+10):=by
 intro k Z hk hw hC
 have hd:decide (Int.ofNat (L+1)<2)=false:=by simp;omega
 have hwr:wrapI (Int.ofNat (L+1)-1)=Int.ofNat L:=by
  rw[Dj (by rw[Int.ofNat_eq_natCast];omega),Int.ofNat_eq_natCast,Int.ofNat_eq_natCast];omega
 rw[Al _ 8 _ _ rfl,Afn _ _ _ _ (by simp),Aj,Acd]
 have hXa:Ext Z (Z.push (.cells [.int .i64 0,.int .i64 0,.string ⟨#[]⟩,.slice none 0 0] 24) none):=(Ext.refl _).push _ _
 have hwa:=hw.push (.cells [.int .i64 0,.int .i64 0,.string ⟨#[]⟩,.slice none 0 0] 24) none
 have hba:(Z.push (.cells [.int .i64 0,.int .i64 0,.string ⟨#[]⟩,.slice none 0 0] 24) none).heap.get Z.next=some ⟨.cells [.int .i64 0,.int .i64 0,.string ⟨#[]⟩,.slice none 0 0] 24,false,none,Z.clock⟩:=by rw[Ai,if_pos rfl]
 obtain⟨c3,hc3,_⟩:=hC.cells
 have hxn:=hw.cells hc3
 obtain⟨b,a_,e1,hX1,hw1,hC1⟩:=Qq M x k 4 (by omega) (by omega) _ hwa (hC.ext hw hXa)
 have hX01:ExtC x Z a_:=(hXa.toC x).trans hX1
 have hb1:=(hX1.get Z.next (by rw[Ac];omega) (by omega)).trans hba
 have hn1:=(hw1 _ _ hb1).1
 cases b with
 | true=>
  simp -implicitDefEqProofs only[go_sem,SV,Wh,SY,Wk,hd,e1]
  generalize hf:upd _ _ _=f1
  generalize hg:upd _ _ _=g1
  have hleaf:=UQ M x (k+1) Z.next (by omega) Z _ f1 g1 (by rw[<-hf];simp -implicitDefEqProofs only[go_sem,reduceCtorEq]) (by rw[<-hf];simp -implicitDefEqProofs only[go_sem,reduceCtorEq]) hw1 hC1 hX01 (Nat.le_refl _) hxn _ _ _ _ _ hb1
  obtain⟨v,d,V,k',h1,h2⟩:=UR (L:=L+1) (env (M+3)) rfl hleaf
  obtain⟨f,g,cA,kd,nn,t,k'',e2,r1⟩:=hleaf
  rw[e2] at h1 ⊢
  simp -implicitDefEqProofs only[A0]
  obtain⟨r2,r3,r4,r5,r6,r7,r8⟩:=h2
  exact⟨v,d,V,k',h1,r2,r3,r4,r5,r6,by omega,by omega⟩
 | false=>
  obtain⟨b,a9,e2,hX2,hw2,hC2⟩:=Qq M x (k+1) 6 (by omega) (by omega) _ hw1 hC1
  have hX02:ExtC x Z a9:=hX01.trans hX2
  have hb2:=(hX2.get Z.next hn1 (by omega)).trans hb1
  have hn2:=(hw2 _ _ hb2).1
  simp -implicitDefEqProofs only[go_sem,SV,Wh,SY,Wk,hd,e1]
  generalize hf:upd _ _ _=f1
  generalize hg:upd _ _ _=g1
  have p0:f1 0=.pointer (some ⟨x,0,none⟩):=by rw[<-hf];simp -implicitDefEqProofs only[go_sem,reduceCtorEq]
  have p1:f1 1=.int .i64 (.ofNat (L+1)):=by rw[<-hf];simp -implicitDefEqProofs only[go_sem,reduceCtorEq]
  have p4:f1 4=.pointer (some ⟨Z.next,0,none⟩):=by rw[<-hf];simp -implicitDefEqProofs only[go_sem,reduceCtorEq]
  clear hf hg
  unfold rest8
  cases b with
  | true=>
   obtain⟨i,bT,e3,i0,i1,hX3,hw3,hC3⟩:=NN (M+1) x (k+2) 3 (by omega) (by omega) ((a9.push (.cells [.int .i64 0,.int .i64 0,.string ⟨#[]⟩,.slice none 0 0] 24) none).put a9.next (.cells [.int .i64 6,.int .i64 0,.string ⟨#[]⟩,.slice none 0 0] 24) none)
    ((hw2.push _ _).put _ _ _ (Nat.lt_succ_self _)) (hC2.ext hw2 (((Ext.refl _).push _ _).put _ _ _ (Nat.le_refl _)))
   obtain⟨j,rfl⟩:∃j:Nat,i=Int.ofNat j:=⟨i.toNat,by rw[Int.ofNat_eq_natCast];omega⟩
   have hx5:x<a9.next:=by have:=hX02.next;omega
   have hb53:bT.heap.get a9.next=_:=(hX3.get a9.next (Nat.lt_succ_self _) (by omega)).trans (by rw[Am,if_pos rfl])
   have hb3:bT.heap.get Z.next=_:=(hX3.get Z.next (Nat.lt_succ_of_lt hn2) (by omega)).trans ((by rw[Am,if_neg (by omega),Ai,if_neg (by omega)]:_=_).trans hb2)
   unfold vec8
   simp -implicitDefEqProofs only[go_sem,Ar,Wi,SW,AlN,Z5,AlP,Z6,p0,p1,p4,e2,e3,AwS]
   generalize hf:upd _ _ _=f2
   generalize hg:upd _ _ _=g2
   generalize hbf:bF=fuel
   have hfu:j<fuel:=by rw[<-hbf];show j<1000000000000;rw[Int.ofNat_eq_natCast] at i1;omega
   have hX03:ExtC x Z bT:=(hX02.trans ((((Ext.refl a9).push _ _).put _ _ _ (Nat.le_refl _)).toC x)).trans hX3
   have hj3:j<=3:=by rw[Int.ofNat_eq_natCast] at i1;omega
   have hjW:j*W<=3*W:=Nat.mul_le_mul_right W hj3
   have hH:HeadV x Z.next a9.next L W (k+(3*W+10)) j Z [] f2 bT:={
    f0:=by rw[<-hf];simp -implicitDefEqProofs only[go_sem,reduceCtorEq,p0]
    f1:=by rw[<-hf];simp -implicitDefEqProofs only[go_sem,reduceCtorEq,p1]
    f4:=by rw[<-hf];simp -implicitDefEqProofs only[go_sem,reduceCtorEq,p4]
    f5:=by rw[<-hf];simp -implicitDefEqProofs only[go_sem,reduceCtorEq]
    f6:=by rw[<-hf];simp -implicitDefEqProofs only[go_sem,reduceCtorEq]
    hbo:=⟨_,_,_,_,_,hb3⟩
    hb5:=⟨_,_,hb53,.inl ⟨rfl,rfl⟩⟩
    ext:=hX03
    wf:=hw3
    coil:=⟨_,hC3,by omega⟩
    made:=fun d hd=>by cases hd
    lt1:=hxn
    lt2:=Nat.le_refl _
    lt3:=hn2
    len:=by simpa using hj3 }
   obtain⟨f3,g3,bX,ds,el,hH4,k',hC4,hk',hK'⟩:=PY (M+3) x Z.next a9.next L W (k+(3*W+10)) hk (by omega) Z k hD j fuel [] f2 g2 bT hfu hH ⟨_,hC3,by omega,by omega⟩
   rw[el]
   obtain⟨v5,s5,hb5,hV⟩:=hH4.hb5
   obtain⟨vo,z0,z1,z2,z3,hbo⟩:=hH4.hbo
   have hc5:=Aq hb5
   have q4:=hH4.f4
   have q5:=hH4.f5
   have hs5:∃p,s5=.slice p ds.length ds.length/\aO (fun c=>a9.next<c) bX p 0 ds:=by
    rcases hV with⟨rfl,rfl⟩|⟨b,cs,ver,rfl,hb,hlb,hR⟩
    .exact⟨none,rfl,trivial⟩
    .have hbn:=(hH4.wf _ _ hb).1
     exact⟨_,rfl,hR.elems (R':=fun c=>a9.next<c) (Aq hb) hlb (fun _ h=>h.1) 0 ds fun j e h=>by rwa [Nat.zero_add]⟩
   obtain⟨p,rfl,hE⟩:=hs5
   simp -implicitDefEqProofs only[go_sem,Ar,AlT,Z9,q4,q5,hc5,hbo,Bg]
   have hno:=(hH4.wf _ _ hbo).1
   have hlen:ds.length<=3:=by have:=hH4.len;omega
   refine⟨_,.mk 6 0 ⟨#[]⟩ ds,_,k',rfl,⟨p,_,rfl,hE.keep fun b cs hb h=>?_⟩,.vec L ds hlen hH4.made,hH4.ext.putNew _ _ _ (Nat.le_refl _),hH4.wf.put _ _ _ hno,hC4.put _ hxn _ _,hk',hK'⟩
   have hb':a9.next<b:=hb
   refine⟨?_,by omega,?_⟩
   .rw[Ak,if_neg (by omega)];exact h
   .rw[Aw];exact hH4.wf.cells h
  | false=>
   obtain⟨v1,d1,bT,k3,e3,hL3,hM3,hX3,hw3,hC3,hk3,hk3'⟩:=hD (k+2) a9 (by omega) hw2 hC2
   obtain⟨v2,d2,bX,k4,e4,hL4,hM4,hX4,hw4,hC4,hk4,hk4'⟩:=hD k3 bT (by omega) hw3 hC3
   have kp:∀b cs,New a9 bT b->bT.cells b=some cs->bX.cells b=some cs/\(a9.next<=b/\b<bX.next):=fun b cs hb h=>by
    have h1:=hX4.next
    exact⟨(hX4.cells hb.2 (by have:=hb.1;omega)).trans h,hb.1,by have:=hb.2;omega⟩
   obtain⟨v5,bV,e5,hX5,hw5,hL5⟩:=Ms (M+2) (fun b=>a9.next<=b/\b<bX.next) d1 d2 v1 v2 bX hw4 (hL3.keep kp) (hL4.keep fun b cs hb h=>⟨h,by have:=hb.1;have:=hX3.next;omega,hb.2⟩)
   have hX25:ExtC x a9 bV:=(hX3.trans hX4).trans (hX5.toC x)
   have hb5:=(hX25.get Z.next hn2 (by omega)).trans hb2
   obtain⟨p,c,rfl,hE⟩:=hL5
   simp -implicitDefEqProofs only[go_sem,Ar,Wi,SW,AlV,Z_,p0,p1,p4,e2,e3,e4,e5,hwr,hb5,Bg]
   have hnn:=hX02.next
   have hn5:=(hw5 _ _ hb5).1
   refine⟨_,.mk 5 0 ⟨#[]⟩ [d1,d2],_,k4,rfl,⟨p,c,rfl,hE.keep fun b cs hb h=>?_⟩,.pair L _ _ hM3 hM4,(hX02.trans hX25).putNew _ _ _ (Nat.le_refl _),hw5.put _ _ _ hn5,(hC4.ext hw4 hX5).put _ hxn _ _,by omega,by omega⟩
   have hlo:Z.next<b:=by
    rcases hb with hb|hb
    .exact Nat.lt_of_lt_of_le hn2 hb.1
    .have:=hb.1;have:=hX3.next;have:=hX4.next;omega
   refine⟨?_,by omega,?_⟩
   .rw[Ak,if_neg (by omega)];exact h
   .rw[Aw];exact hw5.cells h
def wound:Nat->Nat
 | 0=>10
 | 1=>10
 | L+2=>3*wound (L+1)+10
theorem Iu(n x:Nat):∀L,L<=6->DatumAt (n+L+4) x L (wound L)
 | 0,_=>I2 n x 0 10 (by omega) (by omega)
 | 1,_=>I2 (n+1) x 1 10 (by omega) (by omega)
 | L+2,h=>by
  have ih:=Iu n x (L+1) (by omega)
  have hW:4<=wound (L+1)/\wound (L+1)<10000000000:=by
   obtain rfl|rfl|rfl|rfl|rfl:L=0\/L=1\/L=2\/L=3\/L=4:=by omega
   all_goals (simp[wound])
  exact PZ (n+L+2) x (L+1) (wound (L+1)) (by omega) hW ih
end
section
open Go Go.Eng
variable (E:Env) (ro:Option Nat) (last:List Nat->aZ) (cl:List Nat) (a:aY) (u:Option FrameMode) (Z:aC)
def ZO(_:Unit):List COp:=[⟨fun a Z=>.val (a.get 0) Z,some 2,tT⟩,
 ⟨fun a Z=>i_gtr Tryz.prog 3 (.tmp 2) (.const (.int .i64 2000)) (a.get 2) (.int .i64 2000) Z,some 3,tT⟩]
def AtE:List COp:=ZO ()
def Awo(_:Unit):List COp:=[⟨fun a Z=>.enter 124 [(.int .i64 8)] Z,some 4,tT⟩]
def Axn:List COp:=Awo ()
def AmR(E:Env)(ro:Option Nat)(fn:FuncId):aZ:=(aF (aD E ro AtE) (aN (fun a=>(a.get 3)) (aD E ro Axn) aV))
theorem Als:aD E ro AtE a u Z=aD E ro (ZO ()) a u Z:=rfl
theorem Avd(E:Env)(ro:Option Nat)(fn:FuncId):code Tryz.prog nls (Tryz.f84.body.getD .skip) E ro fn=AmR E ro fn:=by kernel_rfl
theorem AoF(E:Env)(args:List Value)(u:Option FrameMode)(Z:aC)(hn:args.length<=(2:Nat)):bD Tryz.prog nls E 84 args u Z=aP Tryz.prog E [] (AmR E none 84 ⟨bB undef 2 args,fun _=>undef,2,5,[]⟩ u Z):=by
 rw[Ap (body:=Tryz.f84.body.getD .skip) Tryz.func84 rfl E args u Z 2 5 (by kernel_rfl) rfl ⟨hn,by decide⟩,Avd]
 rfl
def Sk(_:Unit):List COp:=[⟨fun a Z=>fbox 24 (a.get 0) Z,some 1,tT⟩,
 ⟨fun a Z=>.val (.int .i64 0) Z,some 2,tT⟩]
def AsG:List COp:=Sk ()
def Sm(_:Unit):List COp:=[⟨fun a Z=>.val (.map (some Z.next)) (Z.push (.map [] 0) none),some 6,tT⟩,
 ⟨fun a Z=>bP (fun i=>nth [(0,1),(1,1)] i) [(.int .i64 0),(.map none)] [(1,(a.get 6))] Z,some 7,tT⟩,
 ⟨fun a Z=>aM [(.int .i64 0),(.map none)] 130 none Z,some 3,tT⟩,
 ⟨fun a Z=>aK 2 (a.get 3) (a.get 7) Z,none,tT⟩]
def AsH:List COp:=Sm ()
def Sn(_:Unit):List COp:=[⟨fun a Z=>.val (.func (.func 110) #[(a.get 3)] #[]) Z,some 8,tT⟩,
 ⟨fun a Z=>bP (fun i=>nth [(0,1)] i) [.nilFunc] [(0,(a.get 8))] Z,some 9,tT⟩,
 ⟨fun a Z=>aG (some 4) (a.get 1) Z,some 10,tT⟩,
 ⟨fun a Z=>.enter 111 [(a.get 9),(a.get 10)] Z,some 11,tT⟩]
def AsI:List COp:=Sn ()
def M6(_:Unit):List COp:=[⟨fun a Z=>aM [(.int .i64 0),(.int .i64 0),(.string ⟨#[]⟩),(.slice none 0 0)] 24 none Z,some 5,tT⟩,
 ⟨fun a Z=>aK 4 (a.get 5) (a.get 13) Z,none,tT⟩]
def AsJ:List COp:=M6 ()
def M8(_:Unit):List COp:=[⟨fun a Z=>aG (some 4) (a.get 5) Z,some 14,tT⟩,
 ⟨fun a Z=>.enter 112 [(a.get 14)] Z,some 15,tT⟩]
def AsK:List COp:=M8 ()
def Sq(_:Unit):List COp:=[⟨fun a Z=>aH 0 (a.get 3) Z,some 16,tT⟩,
 ⟨fun a Z=>aG none (a.get 16) Z,some 17,tT⟩,
 ⟨fun a Z=>i_add Tryz.prog 3 (.tmp 17) (.const (.int .i64 1)) (a.get 17) (.int .i64 1) Z,some 18,tT⟩,
 ⟨fun a Z=>aH 0 (a.get 3) Z,some 19,tT⟩,
 ⟨fun a Z=>aK 1 (a.get 19) (a.get 18) Z,none,tT⟩]
def AsL:List COp:=Sq ()
noncomputable def Dy:Code:=((rangesOf (Tryz.f64.body.getD .skip)).getD 0 (.skip,.skip)).1
noncomputable def Dz:Code:=((rangesOf (Tryz.f64.body.getD .skip)).getD 0 (.skip,.skip)).2
def Zi(_:Unit):List COp:=[⟨fun a Z=>aH 0 (a.get 3) Z,some 20,tT⟩,
 ⟨fun a Z=>aG none (a.get 20) Z,some 21,tT⟩,
 ⟨fun a Z=>.enter 84 [(a.get 21)] Z,some 22,tT⟩]
def AsM:List COp:=Zi ()
def Zj(_:Unit):List COp:=[⟨fun a Z=>aH 0 (a.get 3) Z,some 23,tT⟩,
 ⟨fun a Z=>aG none (a.get 23) Z,some 24,tT⟩,
 ⟨fun a Z=>.val (a.get 24) Z,some 2,tT⟩]
def AsN:List COp:=Zj ()
def Ab9(E:Env)(ro:Option Nat)(fn:FuncId):aZ:=(aF (aD E ro AsG) (aF (aD E ro AsH) (aF (aF (aD E ro AsI) (aW 0 (frange E ro fn (.tmp 11) [12,13] Dy Dz))) (aF (aD E ro AsM) (aF (aD E ro AsN) bL)))))
theorem VL:aD E ro AsG a u Z=aD E ro (Sk ()) a u Z:=rfl
theorem VM:aD E ro AsH a u Z=aD E ro (Sm ()) a u Z:=rfl
theorem VN:aD E ro AsI a u Z=aD E ro (Sn ()) a u Z:=rfl
theorem M7:aD E ro AsJ a u Z=aD E ro (M6 ()) a u Z:=rfl
theorem M9:aD E ro AsK a u Z=aD E ro (M8 ()) a u Z:=rfl
theorem VO:aD E ro AsL a u Z=aD E ro (Sq ()) a u Z:=rfl
theorem JS(E:Env)(ro:Option Nat)(fn:FuncId):code Tryz.prog nls Dy E ro fn=(aD E ro AsJ):=by kernel_rfl
theorem JT(E:Env)(ro:Option Nat)(fn:FuncId):code Tryz.prog nls Dz E ro fn=(aW 1 (aF (aD E ro AsK) (aD E ro AsL))):=by kernel_rfl
theorem AkT:aD E ro AsM a u Z=aD E ro (Zi ()) a u Z:=rfl
theorem AkU:aD E ro AsN a u Z=aD E ro (Zj ()) a u Z:=rfl
theorem Au2(E:Env)(ro:Option Nat)(fn:FuncId):code Tryz.prog nls (Tryz.f64.body.getD .skip) E ro fn=Ab9 E ro fn:=by kernel_rfl
theorem Abb(E:Env)(args:List Value)(u:Option FrameMode)(Z:aC)(hn:args.length<=(6:Nat)):bD Tryz.prog nls E 64 args u Z=aP Tryz.prog E [.tmp 2] (Ab9 E none 64 ⟨bB undef 6 args,fun _=>undef,6,25,[]⟩ u Z):=by
 rw[Ap (body:=Tryz.f64.body.getD .skip) Tryz.func64 rfl E args u Z 6 25 (by kernel_rfl) rfl ⟨hn,by decide⟩,Au2]
 rfl
noncomputable def Aux:Code:=((rangesOf (Tryz.f65.body.getD .skip)).getD 0 (.skip,.skip)).1
noncomputable def Auy:Code:=((rangesOf (Tryz.f65.body.getD .skip)).getD 0 (.skip,.skip)).2
def K3(_:Unit):List COp:=[⟨fun a Z=>.val (.bool false) Z,some 4,tT⟩]
def Af5:List COp:=K3 ()
def K4(_:Unit):List COp:=[⟨fun a Z=>.val (a.get 1) Z,some 6,tT⟩,
 ⟨fun a Z=>flenL (a.get 6) Z,some 7,tT⟩,
 ⟨fun a Z=>bO Tryz.prog 3 (.tmp 7) (.const (.int .i64 0)) (a.get 7) (.int .i64 0) Z,some 8,tT⟩,
 ⟨fun a Z=>.val (a.get 8) Z,some 9,tT⟩,
 ⟨fun a Z=>.val (a.get 0) Z,some 10,fun a=>gd (a.get 9) false⟩,
 ⟨fun a Z=>bJ (a.get 10) Z,some 11,fun a=>gd (a.get 9) false⟩,
 ⟨fun a Z=>aH 0 (a.get 11) Z,some 12,fun a=>gd (a.get 9) false⟩,
 ⟨fun a Z=>aG none (a.get 12) Z,some 13,fun a=>gd (a.get 9) false⟩,
 ⟨fun a Z=>i_leq Tryz.prog 3 (.tmp 13) (.const (.int .i64 2000)) (a.get 13) (.int .i64 2000) Z,some 14,fun a=>gd (a.get 9) false⟩,
 ⟨fun a Z=>bM (a.get 9) (.bool true) (a.get 14) Z,some 15,tT⟩]
def Af6:List COp:=K4 ()
def K5(_:Unit):List COp:=[⟨fun a Z=>.val (.bool true) Z,some 4,tT⟩]
def Af7:List COp:=K5 ()
def Apc(_:Unit):List COp:=[⟨fun a Z=>.val (a.get 1) Z,some 16,tT⟩,
 ⟨fun a Z=>bC (none,4) (a.get 16) (.int .i64 0) Z,some 17,tT⟩,
 ⟨fun a Z=>.val (a.get 1) Z,some 18,tT⟩,
 ⟨fun a Z=>flenL (a.get 18) Z,some 19,tT⟩,
 ⟨fun a Z=>bP (fun i=>nth [(0,1),(1,1)] i) [(.pointer none),(.int .i64 0)] [(0,(a.get 17)),(1,(a.get 19))] Z,some 20,tT⟩,
 ⟨fun a Z=>aM [(.pointer none),(.int .i64 0)] 175 none Z,some 5,tT⟩,
 ⟨fun a Z=>aK 2 (a.get 5) (a.get 20) Z,none,tT⟩]
def AvQ:List COp:=Apc ()
def Apd(_:Unit):List DOp:=[⟨fun a Z=>.val (a.get 0) Z,some 21,tT,some 0,false⟩,
 ⟨fun a Z=>bJ (a.get 21) Z,some 22,tT,some 0,false⟩,
 ⟨fun a Z=>aH 1 (a.get 22) Z,some 23,tT,some 0,false⟩,
 ⟨fun a Z=>aG none (a.get 23) Z,some 24,tT,some 0,false⟩,
 ⟨fun a Z=>aG (some 2) (a.get 5) Z,some 25,tT,some 0,false⟩,
 ⟨fun a Z=>(cop Tryz.prog (.lookup 128 (.tmp 24) (.tmp 25) false)).un a Z,some 26,tT,some 0,false⟩]
def AvR:List DOp:=Apd ()
def Ape(_:Unit):List COp:=[⟨fun a Z=>.val (.bool false) Z,some 4,tT⟩]
def AvS:List COp:=Ape ()
def Apf(_:Unit):List DOp:=[⟨fun a Z=>.val (a.get 0) Z,some 27,tT,some 0,false⟩,
 ⟨fun a Z=>bJ (a.get 27) Z,some 28,tT,some 0,false⟩,
 ⟨fun a Z=>aH 1 (a.get 28) Z,some 29,tT,some 0,false⟩,
 ⟨fun a Z=>aG none (a.get 29) Z,some 30,tT,some 0,false⟩,
 ⟨fun a Z=>aG (some 2) (a.get 5) Z,some 31,tT,some 0,false⟩,
 ⟨fun a Z=>(cop Tryz.prog (.mapUpdate 128 (.tmp 30) (.tmp 31) (.const (.bool true)))).un a Z,none,tT,none,true⟩]
def AvT:List DOp:=Apf ()
def Apg(_:Unit):List COp:=[⟨fun a Z=>.val (.bool true) Z,some 4,tT⟩]
def AvU:List COp:=Apg ()
def Aax(E:Env)(ro:Option Nat)(fn:FuncId):aZ:=(aF (aD E ro Af5) (aF (aF (aD E ro Af6) (aN (fun a=>(a.get 15)) (aF (aD E ro Af7) bL) aV)) (aF (aD E ro AvQ) (aF (aF (drawR E ro AvR) (aN (fun a=>(a.get 26)) (aF (aD E ro AvS) bL) aV)) (aF (drawR E ro AvT) (aF (aD E ro AvU) bL))))))
theorem O4:aD E ro Af5 a u Z=aD E ro (K3 ()) a u Z:=rfl
theorem O5:aD E ro Af6 a u Z=aD E ro (K4 ()) a u Z:=rfl
theorem O6:aD E ro Af7 a u Z=aD E ro (K5 ()) a u Z:=rfl
theorem Anx(E:Env)(ro:Option Nat)(fn:FuncId):code Tryz.prog nls (Tryz.f110.body.getD .skip) E ro fn=Aax E ro fn:=by kernel_rfl
theorem Ae6(E:Env)(args:List Value)(u:Option FrameMode)(Z:aC)(hn:args.length<=(6:Nat)):bD Tryz.prog nls E 110 args u Z=aP Tryz.prog E [.tmp 4] (Aax E none 110 ⟨bB undef 6 args,fun _=>undef,6,32,[]⟩ u Z):=by
 rw[Ap (body:=Tryz.f110.body.getD .skip) Tryz.func110 rfl E args u Z 6 32 (by kernel_rfl) rfl ⟨hn,by decide⟩,Anx]
 rfl
def Qy(_:Unit):List COp:=[⟨fun a Z=>fbox 135 (a.get 0) Z,some 2,tT⟩,
 ⟨fun a Z=>fbox 24 (a.get 1) Z,some 3,tT⟩,
 ⟨fun a Z=>.val .nilFunc Z,some 4,tT⟩]
def Af8:List COp:=Qy ()
def Qz(_:Unit):List COp:=[⟨fun a Z=>.val (.func (.func 137) #[] #[(a.get 3),(a.get 2)]) Z,some 5,tT⟩,
 ⟨fun a Z=>.val (a.get 5) Z,some 4,tT⟩]
def Af9:List COp:=Qz ()
def Aay(E:Env)(ro:Option Nat)(fn:FuncId):aZ:=(aF (aD E ro Af8) (aF (aD E ro Af9) bL))
theorem Ada:aD E ro Af8 a u Z=aD E ro (Qy ()) a u Z:=rfl
theorem Adb:aD E ro Af9 a u Z=aD E ro (Qz ()) a u Z:=rfl
theorem Anz(E:Env)(ro:Option Nat)(fn:FuncId):code Tryz.prog nls (Tryz.f111.body.getD .skip) E ro fn=Aay E ro fn:=by kernel_rfl
theorem Ae7(E:Env)(args:List Value)(u:Option FrameMode)(Z:aC)(hn:args.length<=(4:Nat)):bD Tryz.prog nls E 111 args u Z=aP Tryz.prog E [.tmp 4] (Aay E none 111 ⟨bB undef 4 args,fun _=>undef,4,6,[]⟩ u Z):=by
 rw[Ap (body:=Tryz.f111.body.getD .skip) Tryz.func111 rfl E args u Z 4 6 (by kernel_rfl) rfl ⟨hn,by decide⟩,Anz]
 rfl
def Jn(_:Unit):List COp:=[⟨fun a Z=>.val (a.get 0) Z,some 8,tT⟩,
 ⟨fun a Z=>aG (some 4) (a.get 1) Z,some 9,tT⟩,
 ⟨fun a Z=>fcallV (a.get 8) [(.slice none 0 0),(a.get 9)] Z,some 10,tT⟩,
 ⟨fun a Z=>fun1 Tryz.prog (Op.unary .not) (a.get 10) Z,some 11,tT⟩]
def Ag3:List COp:=Jn ()
def Lh(_:Unit):List COp:=[⟨fun a Z=>aG (some 1) (a.get 2) Z,some 12,tT⟩,
 ⟨fun a Z=>aG (some 4) (a.get 1) Z,some 13,tT⟩,
 ⟨fun a Z=>.enter 138 [(a.get 12),(a.get 13)] Z,some 14,tT⟩,
 ⟨fun a Z=>aX 22 1 1 [(.slice none 0 0)] [(0,(a.get 14))] Z,some 15,tT⟩,
 ⟨fun a Z=>.val (a.get 15) Z,some 4,tT⟩]
def Ag4:List COp:=Lh ()
def Li(_:Unit):List COp:=[⟨fun a Z=>aX 3 1 1 [(.int .i64 0)] [(0,(.int .i64 0))] Z,some 16,tT⟩,
 ⟨fun a Z=>.val (a.get 16) Z,some 5,tT⟩]
def Ag5:List COp:=Li ()
def HQ(_:Unit):List COp:=[⟨fun a Z=>.val (a.get 4) Z,some 17,tT⟩,
 ⟨fun a Z=>flenL (a.get 17) Z,some 18,tT⟩,
 ⟨fun a Z=>i_gtr Tryz.prog 3 (.tmp 18) (.const (.int .i64 0)) (a.get 18) (.int .i64 0) Z,some 19,tT⟩]
def Ag6:List COp:=HQ ()
def Jp(_:Unit):List COp:=[⟨fun a Z=>.val (a.get 5) Z,some 20,tT⟩,
 ⟨fun a Z=>flenL (a.get 20) Z,some 21,tT⟩,
 ⟨fun a Z=>.val (a.get 21) Z,some 6,tT⟩]
def Ag7:List COp:=Jp ()
def Jq(_:Unit):List DOp:=[⟨fun a Z=>.val (a.get 5) Z,some 22,tT,some 0,false⟩,
 ⟨fun a Z=>.val (a.get 6) Z,some 23,tT,some 0,false⟩,
 ⟨fun a Z=>i_sub Tryz.prog 3 (.tmp 23) (.const (.int .i64 1)) (a.get 23) (.int .i64 1) Z,some 24,tT,some 0,false⟩,
 ⟨fun a Z=>bC (none,1) (a.get 22) (a.get 24) Z,some 25,tT,some 0,false⟩,
 ⟨fun a Z=>aG none (a.get 25) Z,some 26,tT,some 0,false⟩,
 ⟨fun a Z=>.val (a.get 4) Z,some 27,tT,some 0,false⟩,
 ⟨fun a Z=>.val (a.get 6) Z,some 28,tT,some 0,false⟩,
 ⟨fun a Z=>i_sub Tryz.prog 3 (.tmp 28) (.const (.int .i64 1)) (a.get 28) (.int .i64 1) Z,some 29,tT,some 0,false⟩,
 ⟨fun a Z=>bC (none,1) (a.get 27) (a.get 29) Z,some 30,tT,some 0,false⟩,
 ⟨fun a Z=>aG none (a.get 30) Z,some 31,tT,some 0,false⟩,
 ⟨fun a Z=>flenL (a.get 31) Z,some 32,tT,some 0,false⟩,
 ⟨fun a Z=>bO Tryz.prog 3 (.tmp 26) (.tmp 32) (a.get 26) (a.get 32) Z,some 33,tT,some 0,false⟩]
def Ag8:List DOp:=Jq ()
def QT(_:Unit):List DOp:=[⟨fun a Z=>.val (a.get 4) Z,some 34,tT,some 0,false⟩,
 ⟨fun a Z=>.val (a.get 6) Z,some 35,tT,some 0,false⟩,
 ⟨fun a Z=>i_sub Tryz.prog 3 (.tmp 35) (.const (.int .i64 1)) (a.get 35) (.int .i64 1) Z,some 36,tT,some 0,false⟩,
 ⟨fun a Z=>fslice Tryz.prog 44 (a.get 34) none (some (a.get 36)) none Z,some 37,tT,some 0,false⟩,
 ⟨fun a Z=>.val (a.get 5) Z,some 38,tT,some 0,false⟩,
 ⟨fun a Z=>.val (a.get 6) Z,some 39,tT,some 0,false⟩,
 ⟨fun a Z=>i_sub Tryz.prog 3 (.tmp 39) (.const (.int .i64 1)) (a.get 39) (.int .i64 1) Z,some 40,tT,some 0,false⟩,
 ⟨fun a Z=>fslice Tryz.prog 25 (a.get 38) none (some (a.get 40)) none Z,some 41,tT,some 0,false⟩,
 ⟨fun a Z=>.val (a.get 37) Z,some 4,tT,some 0,false⟩,
 ⟨fun a Z=>.val (a.get 41) Z,some 5,tT,some 0,false⟩]
def Ag9:List DOp:=QT ()
def Lj(_:Unit):List COp:=[⟨fun a Z=>.val (a.get 6) Z,some 42,tT⟩,
 ⟨fun a Z=>i_gtr Tryz.prog 3 (.tmp 42) (.const (.int .i64 1)) (a.get 42) (.int .i64 1) Z,some 43,tT⟩]
def Aha:List COp:=Lj ()
def QU(_:Unit):List COp:=[⟨fun a Z=>.val (a.get 5) Z,some 44,tT⟩,
 ⟨fun a Z=>.val (a.get 6) Z,some 45,tT⟩,
 ⟨fun a Z=>i_sub Tryz.prog 3 (.tmp 45) (.const (.int .i64 2)) (a.get 45) (.int .i64 2) Z,some 46,tT⟩,
 ⟨fun a Z=>bC (none,1) (a.get 44) (a.get 46) Z,some 47,tT⟩,
 ⟨fun a Z=>aG none (a.get 47) Z,some 48,tT⟩,
 ⟨fun a Z=>i_add Tryz.prog 3 (.tmp 48) (.const (.int .i64 1)) (a.get 48) (.int .i64 1) Z,some 49,tT⟩,
 ⟨fun a Z=>bC (none,1) (a.get 44) (a.get 46) Z,some 50,tT⟩,
 ⟨fun a Z=>aK 1 (a.get 50) (a.get 49) Z,none,tT⟩]
def Ahb:List COp:=QU ()
def Ll(_:Unit):List DOp:=[⟨fun a Z=>.val (a.get 4) Z,some 51,tT,some 0,false⟩,
 ⟨fun a Z=>.val (a.get 6) Z,some 52,tT,some 0,false⟩,
 ⟨fun a Z=>i_sub Tryz.prog 3 (.tmp 52) (.const (.int .i64 1)) (a.get 52) (.int .i64 1) Z,some 53,tT,some 0,false⟩,
 ⟨fun a Z=>bC (none,1) (a.get 51) (a.get 53) Z,some 54,tT,some 0,false⟩,
 ⟨fun a Z=>aG none (a.get 54) Z,some 55,tT,some 0,false⟩,
 ⟨fun a Z=>.val (a.get 5) Z,some 56,tT,some 0,false⟩,
 ⟨fun a Z=>.val (a.get 6) Z,some 57,tT,some 0,false⟩,
 ⟨fun a Z=>i_sub Tryz.prog 3 (.tmp 57) (.const (.int .i64 1)) (a.get 57) (.int .i64 1) Z,some 58,tT,some 0,false⟩,
 ⟨fun a Z=>bC (none,1) (a.get 56) (a.get 58) Z,some 59,tT,some 0,false⟩,
 ⟨fun a Z=>aG none (a.get 59) Z,some 60,tT,some 0,false⟩,
 ⟨fun a Z=>bC (none,4) (a.get 55) (a.get 60) Z,some 61,tT,some 0,false⟩,
 ⟨fun a Z=>aG (some 4) (a.get 61) Z,some 62,tT,some 0,false⟩,
 ⟨fun a Z=>aM [(.int .i64 0),(.int .i64 0),(.string ⟨#[]⟩),(.slice none 0 0)] 24 none Z,some 7,tT,some 0,false⟩,
 ⟨fun a Z=>aK 4 (a.get 7) (a.get 62) Z,none,tT,none,true⟩]
def Ahc:List DOp:=Ll ()
def Jo(_:Unit):List DOp:=[⟨fun a Z=>.val (a.get 0) Z,some 63,tT,some 0,false⟩,
 ⟨fun a Z=>.val (a.get 5) Z,some 64,tT,some 0,false⟩,
 ⟨fun a Z=>.val (a.get 6) Z,some 65,tT,some 0,false⟩,
 ⟨fun a Z=>.val (a.get 6) Z,some 66,tT,some 0,false⟩,
 ⟨fun a Z=>fslice Tryz.prog 25 (a.get 64) none (some (a.get 65)) (some (a.get 66)) Z,some 67,tT,some 0,false⟩,
 ⟨fun a Z=>aG (some 4) (a.get 7) Z,some 68,tT,some 0,false⟩,
 ⟨fun a Z=>fcallV (a.get 63) [(a.get 67),(a.get 68)] Z,some 69,tT,none,true⟩,
 ⟨fun a Z=>fun1 Tryz.prog (Op.unary .not) (a.get 69) Z,some 70,tT,some 1,false⟩]
def AbI:List DOp:=Jo ()
def MA(_:Unit):List COp:=[⟨fun a Z=>.val (a.get 4) Z,some 71,tT⟩,
 ⟨fun a Z=>aG (some 1) (a.get 2) Z,some 72,tT⟩,
 ⟨fun a Z=>aG (some 4) (a.get 7) Z,some 73,tT⟩,
 ⟨fun a Z=>.enter 138 [(a.get 72),(a.get 73)] Z,some 74,tT⟩,
 ⟨fun a Z=>aX 22 1 1 [(.slice none 0 0)] [(0,(a.get 74))] Z,some 75,tT⟩,
 ⟨fun a Z=>fappend 22 1 24 (a.get 71) (a.get 75) Z,some 76,tT⟩,
 ⟨fun a Z=>.val (a.get 76) Z,some 4,tT⟩]
def AbJ:List COp:=MA ()
def MB(_:Unit):List COp:=[⟨fun a Z=>.val (a.get 5) Z,some 77,tT⟩,
 ⟨fun a Z=>aX 3 1 1 [(.int .i64 0)] [(0,(.int .i64 0))] Z,some 78,tT⟩,
 ⟨fun a Z=>fappend 3 1 8 (a.get 77) (a.get 78) Z,some 79,tT⟩,
 ⟨fun a Z=>.val (a.get 79) Z,some 5,tT⟩]
def AbK:List COp:=MB ()
def F8(E:Env)(ro:Option Nat)(fn:FuncId):aZ:=(aF (aF (aD E ro Ag6) (aN (fun a=>(a.get 19)) aV (exitR 0))) (aW 1 (aF (aD E ro Ag7) (aF (aF (drawR E ro Ag8) (aN (fun a=>(a.get 33)) (aF (drawR E ro Ag9) (aF (aF (aD E ro Aha) (aN (fun a=>(a.get 43)) (aD E ro Ahb) aV)) (exitR 1))) aV)) (aF (drawR E ro Ahc) (aF (aF (drawR E ro AbI) (aN (fun a=>(a.get 70)) bL aV)) (aF (aD E ro AbJ) (aD E ro AbK))))))))
def Nz(E:Env)(ro:Option Nat)(fn:FuncId):aZ:=(aF (aF (aD E ro Ag3) (aN (fun a=>(a.get 11)) bL aV)) (aF (aD E ro Ag4) (aF (aD E ro Ag5) (aW 0 (loopR (bE nls fn) (F8 E ro fn))))))
theorem J8:aD E ro Ag3 a u Z=aD E ro (Jn ()) a u Z:=rfl
theorem Pi:aD E ro Ag4 a u Z=aD E ro (Lh ()) a u Z:=rfl
theorem Pj:aD E ro Ag5 a u Z=aD E ro (Li ()) a u Z:=rfl
theorem HR:aD E ro Ag6 a u Z=aD E ro (HQ ()) a u Z:=rfl
theorem J9:aD E ro Ag7 a u Z=aD E ro (Jp ()) a u Z:=rfl
theorem J_:bI E ro last Ag8 cl a u Z=bI E ro last (Jq ()) cl a u Z:=rfl
theorem Adw:bI E ro last Ag9 cl a u Z=bI E ro last (QT ()) cl a u Z:=rfl
theorem Pk:aD E ro Aha a u Z=aD E ro (Lj ()) a u Z:=rfl
theorem Adx:aD E ro Ahb a u Z=aD E ro (QU ()) a u Z:=rfl
theorem Pm:bI E ro last Ahc cl a u Z=bI E ro last (Ll ()) cl a u Z:=rfl
theorem Mz:bI E ro last AbI cl a u Z=bI E ro last (Jo ()) cl a u Z:=rfl
theorem XR:aD E ro AbJ a u Z=aD E ro (MA ()) a u Z:=rfl
theorem XS:aD E ro AbK a u Z=aD E ro (MB ()) a u Z:=rfl
theorem AnK(E:Env)(ro:Option Nat)(fn:FuncId):code Tryz.prog nls (Tryz.f137.body.getD .skip) E ro fn=Nz E ro fn:=by kernel_rfl
theorem LP(E:Env)(args:List Value)(u:Option FrameMode)(Z:aC)(hn:args.length<=(8:Nat)):bD Tryz.prog nls E 137 args u Z=aP Tryz.prog E [] (Nz E none 137 ⟨bB undef 8 args,fun _=>undef,8,80,[]⟩ u Z):=by
 rw[Ap (body:=Tryz.f137.body.getD .skip) Tryz.func137 rfl E args u Z 8 80 (by kernel_rfl) rfl ⟨hn,by decide⟩,AnK]
 rfl
def QV(_:Unit):List COp:=[⟨fun a Z=>fbox 135 (a.get 0) Z,some 2,tT⟩,
 ⟨fun a Z=>fbox 24 (a.get 1) Z,some 3,tT⟩,
 ⟨fun a Z=>.val (.slice none 0 0) Z,some 4,tT⟩]
def Ahd:List COp:=QV ()
def QW(_:Unit):List COp:=[⟨fun a Z=>aH 0 (a.get 2) Z,some 5,tT⟩,
 ⟨fun a Z=>aG none (a.get 5) Z,some 6,tT⟩,
 ⟨fun a Z=>aH 3 (a.get 3) Z,some 7,tT⟩,
 ⟨fun a Z=>aG none (a.get 7) Z,some 8,tT⟩,
 ⟨fun a Z=>fcallV (a.get 6) [(a.get 8)] Z,some 9,tT⟩,
 ⟨fun a Z=>fun1 Tryz.prog (Op.unary .not) (a.get 9) Z,some 10,tT⟩]
def Ahe:List COp:=QW ()
def Apj(_:Unit):List COp:=[⟨fun a Z=>.val (.slice none 0 0) Z,some 4,tT⟩]
def AvW:List COp:=Apj ()
def QX(_:Unit):List COp:=[⟨fun a Z=>aH 3 (a.get 3) Z,some 11,tT⟩,
 ⟨fun a Z=>aG none (a.get 11) Z,some 12,tT⟩,
 ⟨fun a Z=>.val (a.get 12) Z,some 4,tT⟩]
def Ahf:List COp:=QX ()
def AaE(E:Env)(ro:Option Nat)(fn:FuncId):aZ:=(aF (aD E ro Ahd) (aF (aF (aD E ro Ahe) (aN (fun a=>(a.get 10)) (aF (aD E ro AvW) bL) aV)) (aF (aD E ro Ahf) bL)))
theorem Ady:aD E ro Ahd a u Z=aD E ro (QV ()) a u Z:=rfl
theorem Adz:aD E ro Ahe a u Z=aD E ro (QW ()) a u Z:=rfl
theorem AdA:aD E ro Ahf a u Z=aD E ro (QX ()) a u Z:=rfl
theorem AnL(E:Env)(ro:Option Nat)(fn:FuncId):code Tryz.prog nls (Tryz.f138.body.getD .skip) E ro fn=AaE E ro fn:=by kernel_rfl
theorem Afd(E:Env)(args:List Value)(u:Option FrameMode)(Z:aC)(hn:args.length<=(4:Nat)):bD Tryz.prog nls E 138 args u Z=aP Tryz.prog E [.tmp 4] (AaE E none 138 ⟨bB undef 4 args,fun _=>undef,4,13,[]⟩ u Z):=by
 rw[Ap (body:=Tryz.f138.body.getD .skip) Tryz.func138 rfl E args u Z 4 13 (by kernel_rfl) rfl ⟨hn,by decide⟩,AnL]
 rfl
def DX(_:Unit):List COp:=[⟨fun a Z=>fbox 24 (a.get 0) Z,some 1,tT⟩]
def Aga:List COp:=DX ()
def DY(_:Unit):List COp:=[⟨fun a Z=>aG (some 4) (a.get 1) Z,some 5,tT⟩,
 ⟨fun a Z=>.enter 117 [(a.get 5)] Z,some 6,tT⟩,
 ⟨fun a Z=>.val (a.get 6) Z,some 2,tT⟩]
def Agb:List COp:=DY ()
def DZ(_:Unit):List COp:=[⟨fun a Z=>.val (a.get 2) Z,some 7,tT⟩,
 ⟨fun a Z=>finvoke Tryz.prog (a.get 7) "caracole/datum.formed" [] Z,some 8,tT⟩,
 ⟨fun a Z=>fun1 Tryz.prog (Op.unary .not) (a.get 8) Z,some 9,tT⟩]
def Agc:List COp:=DZ ()
def Fh(_:Unit):List COp:=[⟨fun a Z=>.enter 124 [(.int .i64 1)] Z,some 10,tT⟩]
def Agd:List COp:=Fh ()
def Ep(_:Unit):List COp:=[⟨fun a Z=>.val (a.get 2) Z,some 11,tT⟩]
def Age:List COp:=Ep ()
def Er(_:Unit):List COp:=[⟨fun a Z=>fassert Tryz.prog (a.get 11) 177 true Z,some 12,tT⟩,
 ⟨fun a Z=>aJ 1 (a.get 12) Z,some 13,tT⟩,
 ⟨fun a Z=>aJ 0 (a.get 12) Z,some 14,tT⟩]
def Agf:List COp:=Er ()
def HI(_:Unit):List COp:=[⟨fun a Z=>aM [(.int .i64 0),(.int .i64 0),(.string ⟨#[]⟩),(.slice none 0 0)] 177 none Z,some 3,tT⟩,
 ⟨fun a Z=>aK 4 (a.get 3) (a.get 14) Z,none,tT⟩]
def Agg:List COp:=HI ()
def HK(_:Unit):List COp:=[⟨fun a Z=>aG (some 4) (a.get 3) Z,some 15,tT⟩,
 ⟨fun a Z=>.enter 139 [(a.get 15)] Z,some 16,tT⟩]
def Agh:List COp:=HK ()
def Fj(_:Unit):List COp:=[⟨fun a Z=>fassert Tryz.prog (a.get 11) 145 true Z,some 17,tT⟩,
 ⟨fun a Z=>aJ 1 (a.get 17) Z,some 18,tT⟩,
 ⟨fun a Z=>aJ 0 (a.get 17) Z,some 19,tT⟩]
def Agi:List COp:=Fj ()
def HM(_:Unit):List COp:=[⟨fun a Z=>aM [(.int .i64 0),(.int .i64 0),(.string ⟨#[]⟩),(.slice none 0 0)] 145 none Z,some 4,tT⟩,
 ⟨fun a Z=>aK 4 (a.get 4) (a.get 19) Z,none,tT⟩]
def Agj:List COp:=HM ()
def Gg(_:Unit):List COp:=[⟨fun a Z=>aG (some 4) (a.get 4) Z,some 20,tT⟩,
 ⟨fun a Z=>.enter 140 [(a.get 20)] Z,some 21,tT⟩]
def Abs:List COp:=Gg ()
def Tb(E:Env)(ro:Option Nat)(fn:FuncId):aZ:=(aF (aD E ro Aga) (aF (aD E ro Agb) (aF (aF (aD E ro Agc) (aN (fun a=>(a.get 9)) (aD E ro Agd) aV)) (aF (aD E ro Age) (aW 0 (aF (aD E ro Agf) (aN (fun a=>(a.get 13)) (aF (aD E ro Agg) (aD E ro Agh)) (aF (aD E ro Agi) (aN (fun a=>(a.get 18)) (aF (aD E ro Agj) (aD E ro Abs)) aV)))))))))
theorem Dh:aD E ro Aga a u Z=aD E ro (DX ()) a u Z:=rfl
theorem Di:aD E ro Agb a u Z=aD E ro (DY ()) a u Z:=rfl
theorem Dl:aD E ro Agc a u Z=aD E ro (DZ ()) a u Z:=rfl
theorem ES:aD E ro Agd a u Z=aD E ro (Fh ()) a u Z:=rfl
theorem Ef:aD E ro Age a u Z=aD E ro (Ep ()) a u Z:=rfl
theorem Eg:aD E ro Agf a u Z=aD E ro (Er ()) a u Z:=rfl
theorem HJ:aD E ro Agg a u Z=aD E ro (HI ()) a u Z:=rfl
theorem HL:aD E ro Agh a u Z=aD E ro (HK ()) a u Z:=rfl
theorem ET:aD E ro Agi a u Z=aD E ro (Fj ()) a u Z:=rfl
theorem HN:aD E ro Agj a u Z=aD E ro (HM ()) a u Z:=rfl
theorem GM:aD E ro Abs a u Z=aD E ro (Gg ()) a u Z:=rfl
theorem AnA(E:Env)(ro:Option Nat)(fn:FuncId):code Tryz.prog nls (Tryz.f112.body.getD .skip) E ro fn=Tb E ro fn:=by kernel_rfl
theorem TY(E:Env)(args:List Value)(u:Option FrameMode)(Z:aC)(hn:args.length<=(5:Nat)):bD Tryz.prog nls E 112 args u Z=aP Tryz.prog E [] (Tb E none 112 ⟨bB undef 5 args,fun _=>undef,5,22,[]⟩ u Z):=by
 rw[Ap (body:=Tryz.f112.body.getD .skip) Tryz.func112 rfl E args u Z 5 22 (by kernel_rfl) rfl ⟨hn,by decide⟩,AnA]
 rfl
def E2(_:Unit):List COp:=[⟨fun a Z=>fbox 24 (a.get 0) Z,some 1,tT⟩,
 ⟨fun a Z=>.val .nilIface Z,some 2,tT⟩]
def Agk:List COp:=E2 ()
def E3(_:Unit):List COp:=[⟨fun a Z=>aH 0 (a.get 1) Z,some 3,tT⟩,
 ⟨fun a Z=>aG none (a.get 3) Z,some 4,tT⟩]
def Agl:List COp:=E3 ()
def E4(_:Unit):List COp:=[⟨fun a Z=>bO Tryz.prog 3 (.tmp 4) (.const (.int .i64 0)) (a.get 4) (.int .i64 0) Z,some 6,tT⟩,
 ⟨fun a Z=>.val (a.get 6) Z,some 5,tT⟩]
def Agn:List COp:=E4 ()
def QA(_:Unit):List COp:=[⟨fun a Z=>aG (some 4) (a.get 1) Z,some 7,tT⟩,
 ⟨fun a Z=>bP (fun i=>nth [(0,4)] i) [(.int .i64 0),(.int .i64 0),(.string ⟨#[]⟩),(.slice none 0 0)] [(0,(a.get 7))] Z,some 8,tT⟩,
 ⟨fun a Z=>.val (.iface 180 (a.get 8)) Z,some 9,tT⟩,
 ⟨fun a Z=>.val (a.get 9) Z,some 2,tT⟩]
def Ago:List COp:=QA ()
def Fk(_:Unit):List COp:=[⟨fun a Z=>bO Tryz.prog 3 (.tmp 4) (.const (.int .i64 1)) (a.get 4) (.int .i64 1) Z,some 11,tT⟩,
 ⟨fun a Z=>.val (a.get 11) Z,some 10,tT⟩]
def Agp:List COp:=Fk ()
def FR(_:Unit):List COp:=[⟨fun a Z=>bO Tryz.prog 3 (.tmp 4) (.const (.int .i64 2)) (a.get 4) (.int .i64 2) Z,some 12,tT⟩,
 ⟨fun a Z=>.val (a.get 12) Z,some 10,tT⟩]
def Agq:List COp:=FR ()
def K6(_:Unit):List COp:=[⟨fun a Z=>aG (some 4) (a.get 1) Z,some 13,tT⟩,
 ⟨fun a Z=>bP (fun i=>nth [(0,4)] i) [(.int .i64 0),(.int .i64 0),(.string ⟨#[]⟩),(.slice none 0 0)] [(0,(a.get 13))] Z,some 14,tT⟩,
 ⟨fun a Z=>.val (.iface 177 (a.get 14)) Z,some 15,tT⟩,
 ⟨fun a Z=>.val (a.get 15) Z,some 2,tT⟩]
def Agr:List COp:=K6 ()
def GN(_:Unit):List COp:=[⟨fun a Z=>bO Tryz.prog 3 (.tmp 4) (.const (.int .i64 3)) (a.get 4) (.int .i64 3) Z,some 17,tT⟩,
 ⟨fun a Z=>.val (a.get 17) Z,some 16,tT⟩]
def Ags:List COp:=GN ()
def HO(_:Unit):List COp:=[⟨fun a Z=>bO Tryz.prog 3 (.tmp 4) (.const (.int .i64 4)) (a.get 4) (.int .i64 4) Z,some 18,tT⟩,
 ⟨fun a Z=>.val (a.get 18) Z,some 16,tT⟩]
def Agt:List COp:=HO ()
def K7(_:Unit):List COp:=[⟨fun a Z=>aG (some 4) (a.get 1) Z,some 19,tT⟩,
 ⟨fun a Z=>bP (fun i=>nth [(0,4)] i) [(.int .i64 0),(.int .i64 0),(.string ⟨#[]⟩),(.slice none 0 0)] [(0,(a.get 19))] Z,some 20,tT⟩,
 ⟨fun a Z=>.val (.iface 145 (a.get 20)) Z,some 21,tT⟩,
 ⟨fun a Z=>.val (a.get 21) Z,some 2,tT⟩]
def Agu:List COp:=K7 ()
def Hp(_:Unit):List COp:=[⟨fun a Z=>bO Tryz.prog 3 (.tmp 4) (.const (.int .i64 5)) (a.get 4) (.int .i64 5) Z,some 23,tT⟩,
 ⟨fun a Z=>.val (a.get 23) Z,some 22,tT⟩]
def Abt:List COp:=Hp ()
def Jl(_:Unit):List COp:=[⟨fun a Z=>bO Tryz.prog 3 (.tmp 4) (.const (.int .i64 6)) (a.get 4) (.int .i64 6) Z,some 24,tT⟩,
 ⟨fun a Z=>.val (a.get 24) Z,some 22,tT⟩]
def Abu:List COp:=Jl ()
def Jm(_:Unit):List COp:=[⟨fun a Z=>aG (some 4) (a.get 1) Z,some 25,tT⟩,
 ⟨fun a Z=>bP (fun i=>nth [(0,4)] i) [(.int .i64 0),(.int .i64 0),(.string ⟨#[]⟩),(.slice none 0 0)] [(0,(a.get 25))] Z,some 26,tT⟩,
 ⟨fun a Z=>.val (.iface 181 (a.get 26)) Z,some 27,tT⟩,
 ⟨fun a Z=>.val (a.get 27) Z,some 2,tT⟩]
def Abv:List COp:=Jm ()
def My(_:Unit):List COp:=[⟨fun a Z=>.enter 124 [(.int .i64 4)] Z,some 28,tT⟩]
def Abw:List COp:=My ()
def Agm(_:Unit):List COp:=[⟨fun a Z=>.val .nilIface Z,some 2,tT⟩]
def Aph:List COp:=Agm ()
def Tc(E:Env)(ro:Option Nat)(fn:FuncId):aZ:=(aF (aD E ro Agk) (aF (aF (aD E ro Agl) (aW 0 (aF (aD E ro Agn) (aN (fun a=>(a.get 5)) (aF (aD E ro Ago) bL) (aF (aF (aD E ro Agp) (aN (fun a=>(a.get 10)) aV (aD E ro Agq))) (aN (fun a=>(a.get 10)) (aF (aD E ro Agr) bL) (aF (aF (aD E ro Ags) (aN (fun a=>(a.get 16)) aV (aD E ro Agt))) (aN (fun a=>(a.get 16)) (aF (aD E ro Agu) bL) (aF (aF (aD E ro Abt) (aN (fun a=>(a.get 22)) aV (aD E ro Abu))) (aN (fun a=>(a.get 22)) (aF (aD E ro Abv) bL) aV)))))))))) (aF (aD E ro Abw) (aF (aD E ro Aph) bL))))
theorem EE:aD E ro Agk a u Z=aD E ro (E2 ()) a u Z:=rfl
theorem EF:aD E ro Agl a u Z=aD E ro (E3 ()) a u Z:=rfl
theorem EG:aD E ro Agn a u Z=aD E ro (E4 ()) a u Z:=rfl
theorem Adc:aD E ro Ago a u Z=aD E ro (QA ()) a u Z:=rfl
theorem EU:aD E ro Agp a u Z=aD E ro (Fk ()) a u Z:=rfl
theorem Fv:aD E ro Agq a u Z=aD E ro (FR ()) a u Z:=rfl
theorem O7:aD E ro Agr a u Z=aD E ro (K6 ()) a u Z:=rfl
theorem Gh:aD E ro Ags a u Z=aD E ro (GN ()) a u Z:=rfl
theorem HP:aD E ro Agt a u Z=aD E ro (HO ()) a u Z:=rfl
theorem O8:aD E ro Agu a u Z=aD E ro (K7 ()) a u Z:=rfl
theorem IC:aD E ro Abt a u Z=aD E ro (Hp ()) a u Z:=rfl
theorem Mw:aD E ro Abu a u Z=aD E ro (Jl ()) a u Z:=rfl
theorem Mx:aD E ro Abv a u Z=aD E ro (Jm ()) a u Z:=rfl
theorem XM:aD E ro Abw a u Z=aD E ro (My ()) a u Z:=rfl
theorem AnB(E:Env)(ro:Option Nat)(fn:FuncId):code Tryz.prog nls (Tryz.f117.body.getD .skip) E ro fn=Tc E ro fn:=by kernel_rfl
theorem TZ(E:Env)(args:List Value)(u:Option FrameMode)(Z:aC)(hn:args.length<=(2:Nat)):bD Tryz.prog nls E 117 args u Z=aP Tryz.prog E [.tmp 2] (Tc E none 117 ⟨bB undef 2 args,fun _=>undef,2,29,[]⟩ u Z):=by
 rw[Ap (body:=Tryz.f117.body.getD .skip) Tryz.func117 rfl E args u Z 2 29 (by kernel_rfl) rfl ⟨hn,by decide⟩,AnB]
 rfl
def FT(_:Unit):List COp:=[⟨fun a Z=>fbox 177 (a.get 0) Z,some 1,tT⟩]
def Ahg:List COp:=FT ()
def FU(_:Unit):List COp:=[⟨fun a Z=>.val (.int .i64 (-999999999)) Z,some 2,tT⟩,
 ⟨fun a Z=>.val (.int .i64 999999999) Z,some 3,tT⟩]
def Ahh:List COp:=FU ()
def FV(_:Unit):List COp:=[⟨fun a Z=>aH 0 (a.get 1) Z,some 4,tT⟩,
 ⟨fun a Z=>aH 0 (a.get 4) Z,some 5,tT⟩,
 ⟨fun a Z=>aG none (a.get 5) Z,some 6,tT⟩,
 ⟨fun a Z=>bO Tryz.prog 3 (.tmp 6) (.const (.int .i64 1)) (a.get 6) (.int .i64 1) Z,some 7,tT⟩]
def Ahi:List COp:=FV ()
def GP(_:Unit):List COp:=[⟨fun a Z=>.val (.int .i64 0) Z,some 2,tT⟩,
 ⟨fun a Z=>.val (.int .i64 1) Z,some 3,tT⟩]
def Ahj:List COp:=GP ()
def FW(_:Unit):List COp:=[⟨fun a Z=>aH 0 (a.get 1) Z,some 8,tT⟩,
 ⟨fun a Z=>aH 1 (a.get 8) Z,some 9,tT⟩,
 ⟨fun a Z=>aG none (a.get 9) Z,some 10,tT⟩,
 ⟨fun a Z=>.val (a.get 2) Z,some 11,tT⟩,
 ⟨fun a Z=>i_lss Tryz.prog 3 (.tmp 10) (.tmp 11) (a.get 10) (a.get 11) Z,some 12,tT⟩,
 ⟨fun a Z=>.val (a.get 12) Z,some 13,tT⟩,
 ⟨fun a Z=>aH 0 (a.get 1) Z,some 14,fun a=>gd (a.get 13) false⟩,
 ⟨fun a Z=>aH 1 (a.get 14) Z,some 15,fun a=>gd (a.get 13) false⟩,
 ⟨fun a Z=>aG none (a.get 15) Z,some 16,fun a=>gd (a.get 13) false⟩,
 ⟨fun a Z=>.val (a.get 3) Z,some 17,fun a=>gd (a.get 13) false⟩,
 ⟨fun a Z=>i_gtr Tryz.prog 3 (.tmp 16) (.tmp 17) (a.get 16) (a.get 17) Z,some 18,fun a=>gd (a.get 13) false⟩,
 ⟨fun a Z=>bM (a.get 13) (.bool true) (a.get 18) Z,some 19,tT⟩]
def Ahk:List COp:=FW ()
def HS(_:Unit):List COp:=[⟨fun a Z=>.enter 124 [(.int .i64 13)] Z,some 20,tT⟩]
def Ahl:List COp:=HS ()
def NA(E:Env)(ro:Option Nat)(fn:FuncId):aZ:=(aF (aD E ro Ahg) (aF (aD E ro Ahh) (aF (aF (aD E ro Ahi) (aN (fun a=>(a.get 7)) (aD E ro Ahj) aV)) (aF (aD E ro Ahk) (aN (fun a=>(a.get 19)) (aD E ro Ahl) aV)))))
theorem Fw:aD E ro Ahg a u Z=aD E ro (FT ()) a u Z:=rfl
theorem Fx:aD E ro Ahh a u Z=aD E ro (FU ()) a u Z:=rfl
theorem Fy:aD E ro Ahi a u Z=aD E ro (FV ()) a u Z:=rfl
theorem Gi:aD E ro Ahj a u Z=aD E ro (GP ()) a u Z:=rfl
theorem Fz:aD E ro Ahk a u Z=aD E ro (FW ()) a u Z:=rfl
theorem HT:aD E ro Ahl a u Z=aD E ro (HS ()) a u Z:=rfl
theorem AnM(E:Env)(ro:Option Nat)(fn:FuncId):code Tryz.prog nls (Tryz.f139.body.getD .skip) E ro fn=NA E ro fn:=by kernel_rfl
theorem LQ(E:Env)(args:List Value)(u:Option FrameMode)(Z:aC)(hn:args.length<=(4:Nat)):bD Tryz.prog nls E 139 args u Z=aP Tryz.prog E [] (NA E none 139 ⟨bB undef 4 args,fun _=>undef,4,21,[]⟩ u Z):=by
 rw[Ap (body:=Tryz.f139.body.getD .skip) Tryz.func139 rfl E args u Z 4 21 (by kernel_rfl) rfl ⟨hn,by decide⟩,AnM]
 rfl
def GQ(_:Unit):List COp:=[⟨fun a Z=>fbox 145 (a.get 0) Z,some 1,tT⟩]
def Ahm:List COp:=GQ ()
def GR(_:Unit):List COp:=[⟨fun a Z=>aH 0 (a.get 1) Z,some 3,tT⟩,
 ⟨fun a Z=>aH 0 (a.get 3) Z,some 4,tT⟩,
 ⟨fun a Z=>aG none (a.get 4) Z,some 5,tT⟩,
 ⟨fun a Z=>bO Tryz.prog 3 (.tmp 5) (.const (.int .i64 3)) (a.get 5) (.int .i64 3) Z,some 6,tT⟩,
 ⟨fun a Z=>.val (a.get 6) Z,some 7,tT⟩,
 ⟨fun a Z=>aH 0 (a.get 1) Z,some 8,fun a=>gd (a.get 7) true⟩,
 ⟨fun a Z=>aH 2 (a.get 8) Z,some 9,fun a=>gd (a.get 7) true⟩,
 ⟨fun a Z=>aG none (a.get 9) Z,some 10,fun a=>gd (a.get 7) true⟩,
 ⟨fun a Z=>.enter 158 [(a.get 10)] Z,some 11,fun a=>gd (a.get 7) true⟩,
 ⟨fun a Z=>fun1 Tryz.prog (Op.unary .not) (a.get 11) Z,some 12,fun a=>gd (a.get 7) true⟩,
 ⟨fun a Z=>bM (a.get 7) (a.get 12) (.bool false) Z,some 13,tT⟩,
 ⟨fun a Z=>.val (a.get 13) Z,some 2,tT⟩]
def Ahn:List COp:=GR ()
def Jr(_:Unit):List COp:=[⟨fun a Z=>.enter 124 [(.int .i64 2)] Z,some 14,tT⟩]
def Aho:List COp:=Jr ()
def GS(_:Unit):List COp:=[⟨fun a Z=>aH 0 (a.get 1) Z,some 16,tT⟩,
 ⟨fun a Z=>aH 0 (a.get 16) Z,some 17,tT⟩,
 ⟨fun a Z=>aG none (a.get 17) Z,some 18,tT⟩,
 ⟨fun a Z=>bO Tryz.prog 3 (.tmp 18) (.const (.int .i64 4)) (a.get 18) (.int .i64 4) Z,some 19,tT⟩,
 ⟨fun a Z=>.val (a.get 19) Z,some 20,tT⟩,
 ⟨fun a Z=>aH 0 (a.get 1) Z,some 21,fun a=>gd (a.get 20) true⟩,
 ⟨fun a Z=>aH 2 (a.get 21) Z,some 22,fun a=>gd (a.get 20) true⟩,
 ⟨fun a Z=>aG none (a.get 22) Z,some 23,fun a=>gd (a.get 20) true⟩,
 ⟨fun a Z=>flenS (a.get 23) Z,some 24,fun a=>gd (a.get 20) true⟩,
 ⟨fun a Z=>i_gtr Tryz.prog 3 (.tmp 24) (.const (.int .i64 60)) (a.get 24) (.int .i64 60) Z,some 25,fun a=>gd (a.get 20) true⟩,
 ⟨fun a Z=>bM (a.get 20) (a.get 25) (.bool false) Z,some 26,tT⟩,
 ⟨fun a Z=>.val (a.get 26) Z,some 15,tT⟩]
def Ahp:List COp:=GS ()
def Js(_:Unit):List COp:=[⟨fun a Z=>.enter 124 [(.int .i64 8)] Z,some 27,tT⟩]
def Ahq:List COp:=Js ()
def GU(_:Unit):List COp:=[⟨fun a Z=>aH 0 (a.get 1) Z,some 29,tT⟩,
 ⟨fun a Z=>aH 0 (a.get 29) Z,some 30,tT⟩,
 ⟨fun a Z=>aG none (a.get 30) Z,some 31,tT⟩,
 ⟨fun a Z=>bO Tryz.prog 3 (.tmp 31) (.const (.int .i64 4)) (a.get 31) (.int .i64 4) Z,some 32,tT⟩,
 ⟨fun a Z=>.val (a.get 32) Z,some 33,tT⟩,
 ⟨fun a Z=>aH 0 (a.get 1) Z,some 34,fun a=>gd (a.get 33) true⟩,
 ⟨fun a Z=>aH 2 (a.get 34) Z,some 35,fun a=>gd (a.get 33) true⟩,
 ⟨fun a Z=>aG none (a.get 35) Z,some 36,fun a=>gd (a.get 33) true⟩,
 ⟨fun a Z=>.enter 159 [(a.get 36)] Z,some 37,fun a=>gd (a.get 33) true⟩,
 ⟨fun a Z=>fun1 Tryz.prog (Op.unary .not) (a.get 37) Z,some 38,fun a=>gd (a.get 33) true⟩,
 ⟨fun a Z=>bM (a.get 33) (a.get 38) (.bool false) Z,some 39,tT⟩,
 ⟨fun a Z=>.val (a.get 39) Z,some 28,tT⟩]
def Ahr:List COp:=GU ()
def Jt(_:Unit):List COp:=[⟨fun a Z=>.enter 124 [(.int .i64 13)] Z,some 40,tT⟩]
def Ahs:List COp:=Jt ()
def NB(E:Env)(ro:Option Nat)(fn:FuncId):aZ:=(aF (aD E ro Ahm) (aW 0 (aF (aD E ro Ahn) (aN (fun a=>(a.get 2)) (aD E ro Aho) (aF (aD E ro Ahp) (aN (fun a=>(a.get 15)) (aD E ro Ahq) (aF (aD E ro Ahr) (aN (fun a=>(a.get 28)) (aD E ro Ahs) aV))))))))
theorem Gj:aD E ro Ahm a u Z=aD E ro (GQ ()) a u Z:=rfl
theorem Gk:aD E ro Ahn a u Z=aD E ro (GR ()) a u Z:=rfl
theorem Ka:aD E ro Aho a u Z=aD E ro (Jr ()) a u Z:=rfl
theorem Gl:aD E ro Ahp a u Z=aD E ro (GS ()) a u Z:=rfl
theorem Kb:aD E ro Ahq a u Z=aD E ro (Js ()) a u Z:=rfl
theorem Gm:aD E ro Ahr a u Z=aD E ro (GU ()) a u Z:=rfl
theorem Kc:aD E ro Ahs a u Z=aD E ro (Jt ()) a u Z:=rfl
theorem AnN(E:Env)(ro:Option Nat)(fn:FuncId):code Tryz.prog nls (Tryz.f140.body.getD .skip) E ro fn=NB E ro fn:=by kernel_rfl
theorem LR(E:Env)(args:List Value)(u:Option FrameMode)(Z:aC)(hn:args.length<=(2:Nat)):bD Tryz.prog nls E 140 args u Z=aP Tryz.prog E [] (NB E none 140 ⟨bB undef 2 args,fun _=>undef,2,41,[]⟩ u Z):=by
 rw[Ap (body:=Tryz.f140.body.getD .skip) Tryz.func140 rfl E args u Z 2 41 (by kernel_rfl) rfl ⟨hn,by decide⟩,AnN]
 rfl
def JC(_:Unit):List COp:=[⟨fun a Z=>fbox 145 (a.get 0) Z,some 1,tT⟩,
 ⟨fun a Z=>.val (.bool false) Z,some 2,tT⟩]
def Ajr:List COp:=JC ()
def JD(_:Unit):List COp:=[⟨fun a Z=>aH 0 (a.get 1) Z,some 3,tT⟩,
 ⟨fun a Z=>aH 1 (a.get 3) Z,some 4,tT⟩,
 ⟨fun a Z=>aG none (a.get 4) Z,some 5,tT⟩,
 ⟨fun a Z=>bO Tryz.prog 3 (.tmp 5) (.const (.int .i64 0)) (a.get 5) (.int .i64 0) Z,some 6,tT⟩,
 ⟨fun a Z=>.val (a.get 6) Z,some 7,tT⟩,
 ⟨fun a Z=>aH 0 (a.get 1) Z,some 8,fun a=>gd (a.get 7) true⟩,
 ⟨fun a Z=>aH 3 (a.get 8) Z,some 9,fun a=>gd (a.get 7) true⟩,
 ⟨fun a Z=>aG none (a.get 9) Z,some 10,fun a=>gd (a.get 7) true⟩,
 ⟨fun a Z=>flenL (a.get 10) Z,some 11,fun a=>gd (a.get 7) true⟩,
 ⟨fun a Z=>bO Tryz.prog 3 (.tmp 11) (.const (.int .i64 0)) (a.get 11) (.int .i64 0) Z,some 12,fun a=>gd (a.get 7) true⟩,
 ⟨fun a Z=>bM (a.get 7) (a.get 12) (.bool false) Z,some 13,tT⟩,
 ⟨fun a Z=>.val (a.get 13) Z,some 2,tT⟩]
def Ajs:List COp:=JD ()
def Tj(E:Env)(ro:Option Nat)(fn:FuncId):aZ:=(aF (aD E ro Ajr) (aF (aD E ro Ajs) bL))
theorem Kj:aD E ro Ajr a u Z=aD E ro (JC ()) a u Z:=rfl
theorem Kk:aD E ro Ajs a u Z=aD E ro (JD ()) a u Z:=rfl
theorem An1(E:Env)(ro:Option Nat)(fn:FuncId):code Tryz.prog nls (Tryz.f213.body.getD .skip) E ro fn=Tj E ro fn:=by kernel_rfl
theorem Ue(E:Env)(args:List Value)(u:Option FrameMode)(Z:aC)(hn:args.length<=(2:Nat)):bD Tryz.prog nls E 213 args u Z=aP Tryz.prog E [.tmp 2] (Tj E none 213 ⟨bB undef 2 args,fun _=>undef,2,14,[]⟩ u Z):=by
 rw[Ap (body:=Tryz.f213.body.getD .skip) Tryz.func213 rfl E args u Z 2 14 (by kernel_rfl) rfl ⟨hn,by decide⟩,An1]
 rfl
def JE(_:Unit):List COp:=[⟨fun a Z=>fbox 177 (a.get 0) Z,some 1,tT⟩,
 ⟨fun a Z=>.val (.bool false) Z,some 2,tT⟩]
def Ajt:List COp:=JE ()
def JF(_:Unit):List COp:=[⟨fun a Z=>aH 0 (a.get 1) Z,some 3,tT⟩,
 ⟨fun a Z=>aH 2 (a.get 3) Z,some 4,tT⟩,
 ⟨fun a Z=>aG none (a.get 4) Z,some 5,tT⟩,
 ⟨fun a Z=>bO Tryz.prog 9 (.tmp 5) (.const (.string ⟨#[]⟩)) (a.get 5) (.string ⟨#[]⟩) Z,some 6,tT⟩,
 ⟨fun a Z=>.val (a.get 6) Z,some 7,tT⟩,
 ⟨fun a Z=>aH 0 (a.get 1) Z,some 8,fun a=>gd (a.get 7) true⟩,
 ⟨fun a Z=>aH 3 (a.get 8) Z,some 9,fun a=>gd (a.get 7) true⟩,
 ⟨fun a Z=>aG none (a.get 9) Z,some 10,fun a=>gd (a.get 7) true⟩,
 ⟨fun a Z=>flenL (a.get 10) Z,some 11,fun a=>gd (a.get 7) true⟩,
 ⟨fun a Z=>bO Tryz.prog 3 (.tmp 11) (.const (.int .i64 0)) (a.get 11) (.int .i64 0) Z,some 12,fun a=>gd (a.get 7) true⟩,
 ⟨fun a Z=>bM (a.get 7) (a.get 12) (.bool false) Z,some 13,tT⟩,
 ⟨fun a Z=>.val (a.get 13) Z,some 2,tT⟩]
def Aju:List COp:=JF ()
def Tk(E:Env)(ro:Option Nat)(fn:FuncId):aZ:=(aF (aD E ro Ajt) (aF (aD E ro Aju) bL))
theorem Kl:aD E ro Ajt a u Z=aD E ro (JE ()) a u Z:=rfl
theorem Km:aD E ro Aju a u Z=aD E ro (JF ()) a u Z:=rfl
theorem An2(E:Env)(ro:Option Nat)(fn:FuncId):code Tryz.prog nls (Tryz.f219.body.getD .skip) E ro fn=Tk E ro fn:=by kernel_rfl
theorem Uf(E:Env)(args:List Value)(u:Option FrameMode)(Z:aC)(hn:args.length<=(2:Nat)):bD Tryz.prog nls E 219 args u Z=aP Tryz.prog E [.tmp 2] (Tk E none 219 ⟨bB undef 2 args,fun _=>undef,2,14,[]⟩ u Z):=by
 rw[Ap (body:=Tryz.f219.body.getD .skip) Tryz.func219 rfl E args u Z 2 14 (by kernel_rfl) rfl ⟨hn,by decide⟩,An2]
 rfl
def H8(_:Unit):List COp:=[⟨fun a Z=>fbox 180 (a.get 0) Z,some 1,tT⟩,
 ⟨fun a Z=>.val (.bool false) Z,some 2,tT⟩]
def AjB:List COp:=H8 ()
def H_(_:Unit):List COp:=[⟨fun a Z=>aH 0 (a.get 1) Z,some 3,tT⟩,
 ⟨fun a Z=>aH 1 (a.get 3) Z,some 4,tT⟩,
 ⟨fun a Z=>aG none (a.get 4) Z,some 5,tT⟩,
 ⟨fun a Z=>bO Tryz.prog 3 (.tmp 5) (.const (.int .i64 0)) (a.get 5) (.int .i64 0) Z,some 6,tT⟩,
 ⟨fun a Z=>.val (a.get 6) Z,some 7,tT⟩,
 ⟨fun a Z=>aH 0 (a.get 1) Z,some 8,fun a=>gd (a.get 7) true⟩,
 ⟨fun a Z=>aH 2 (a.get 8) Z,some 9,fun a=>gd (a.get 7) true⟩,
 ⟨fun a Z=>aG none (a.get 9) Z,some 10,fun a=>gd (a.get 7) true⟩,
 ⟨fun a Z=>bO Tryz.prog 9 (.tmp 10) (.const (.string ⟨#[]⟩)) (a.get 10) (.string ⟨#[]⟩) Z,some 11,fun a=>gd (a.get 7) true⟩,
 ⟨fun a Z=>bM (a.get 7) (a.get 11) (.bool false) Z,some 12,tT⟩,
 ⟨fun a Z=>.val (a.get 12) Z,some 13,tT⟩,
 ⟨fun a Z=>aH 0 (a.get 1) Z,some 14,fun a=>gd (a.get 13) true⟩,
 ⟨fun a Z=>aH 3 (a.get 14) Z,some 15,fun a=>gd (a.get 13) true⟩,
 ⟨fun a Z=>aG none (a.get 15) Z,some 16,fun a=>gd (a.get 13) true⟩,
 ⟨fun a Z=>flenL (a.get 16) Z,some 17,fun a=>gd (a.get 13) true⟩,
 ⟨fun a Z=>bO Tryz.prog 3 (.tmp 17) (.const (.int .i64 0)) (a.get 17) (.int .i64 0) Z,some 18,fun a=>gd (a.get 13) true⟩,
 ⟨fun a Z=>bM (a.get 13) (a.get 18) (.bool false) Z,some 19,tT⟩,
 ⟨fun a Z=>.val (a.get 19) Z,some 2,tT⟩]
def AjC:List COp:=H_ ()
def Tl(E:Env)(ro:Option Nat)(fn:FuncId):aZ:=(aF (aD E ro AjB) (aF (aD E ro AjC) bL))
theorem H9:aD E ro AjB a u Z=aD E ro (H8 ()) a u Z:=rfl
theorem Ia:aD E ro AjC a u Z=aD E ro (H_ ()) a u Z:=rfl
theorem An3(E:Env)(ro:Option Nat)(fn:FuncId):code Tryz.prog nls (Tryz.f221.body.getD .skip) E ro fn=Tl E ro fn:=by kernel_rfl
theorem Ug(E:Env)(args:List Value)(u:Option FrameMode)(Z:aC)(hn:args.length<=(2:Nat)):bD Tryz.prog nls E 221 args u Z=aP Tryz.prog E [.tmp 2] (Tl E none 221 ⟨bB undef 2 args,fun _=>undef,2,20,[]⟩ u Z):=by
 rw[Ap (body:=Tryz.f221.body.getD .skip) Tryz.func221 rfl E args u Z 2 20 (by kernel_rfl) rfl ⟨hn,by decide⟩,An3]
 rfl
def GW(_:Unit):List COp:=[⟨fun a Z=>fbox 181 (a.get 0) Z,some 1,tT⟩,
 ⟨fun a Z=>.val (.bool false) Z,some 2,tT⟩]
def AjD:List COp:=GW ()
def GX(_:Unit):List COp:=[⟨fun a Z=>aH 0 (a.get 1) Z,some 3,tT⟩,
 ⟨fun a Z=>aH 1 (a.get 3) Z,some 4,tT⟩,
 ⟨fun a Z=>aG none (a.get 4) Z,some 5,tT⟩,
 ⟨fun a Z=>bO Tryz.prog 3 (.tmp 5) (.const (.int .i64 0)) (a.get 5) (.int .i64 0) Z,some 6,tT⟩,
 ⟨fun a Z=>.val (a.get 6) Z,some 7,tT⟩,
 ⟨fun a Z=>aH 0 (a.get 1) Z,some 8,fun a=>gd (a.get 7) true⟩,
 ⟨fun a Z=>aH 2 (a.get 8) Z,some 9,fun a=>gd (a.get 7) true⟩,
 ⟨fun a Z=>aG none (a.get 9) Z,some 10,fun a=>gd (a.get 7) true⟩,
 ⟨fun a Z=>bO Tryz.prog 9 (.tmp 10) (.const (.string ⟨#[]⟩)) (a.get 10) (.string ⟨#[]⟩) Z,some 11,fun a=>gd (a.get 7) true⟩,
 ⟨fun a Z=>bM (a.get 7) (a.get 11) (.bool false) Z,some 12,tT⟩,
 ⟨fun a Z=>.val (a.get 12) Z,some 13,tT⟩,
 ⟨fun a Z=>aH 0 (a.get 1) Z,some 14,fun a=>gd (a.get 13) true⟩,
 ⟨fun a Z=>aH 0 (a.get 14) Z,some 15,fun a=>gd (a.get 13) true⟩,
 ⟨fun a Z=>aG none (a.get 15) Z,some 16,fun a=>gd (a.get 13) true⟩,
 ⟨fun a Z=>bO Tryz.prog 3 (.tmp 16) (.const (.int .i64 6)) (a.get 16) (.int .i64 6) Z,some 17,fun a=>gd (a.get 13) true⟩,
 ⟨fun a Z=>.val (a.get 17) Z,some 18,fun a=>gd (a.get 13) true⟩,
 ⟨fun a Z=>aH 0 (a.get 1) Z,some 19,fun a=>gd (a.get 18) false⟩,
 ⟨fun a Z=>aH 3 (a.get 19) Z,some 20,fun a=>gd (a.get 18) false⟩,
 ⟨fun a Z=>aG none (a.get 20) Z,some 21,fun a=>gd (a.get 18) false⟩,
 ⟨fun a Z=>flenL (a.get 21) Z,some 22,fun a=>gd (a.get 18) false⟩,
 ⟨fun a Z=>bO Tryz.prog 3 (.tmp 22) (.const (.int .i64 2)) (a.get 22) (.int .i64 2) Z,some 23,fun a=>gd (a.get 18) false⟩,
 ⟨fun a Z=>bM (a.get 18) (.bool true) (a.get 23) Z,some 24,fun a=>gd (a.get 13) true⟩,
 ⟨fun a Z=>bM (a.get 13) (a.get 24) (.bool false) Z,some 25,tT⟩,
 ⟨fun a Z=>.val (a.get 25) Z,some 2,tT⟩]
def AjE:List COp:=GX ()
def NC(E:Env)(ro:Option Nat)(fn:FuncId):aZ:=(aF (aD E ro AjD) (aF (aD E ro AjE) bL))
theorem Gp:aD E ro AjD a u Z=aD E ro (GW ()) a u Z:=rfl
theorem Gq:aD E ro AjE a u Z=aD E ro (GX ()) a u Z:=rfl
theorem An4(E:Env)(ro:Option Nat)(fn:FuncId):code Tryz.prog nls (Tryz.f223.body.getD .skip) E ro fn=NC E ro fn:=by kernel_rfl
theorem LS(E:Env)(args:List Value)(u:Option FrameMode)(Z:aC)(hn:args.length<=(2:Nat)):bD Tryz.prog nls E 223 args u Z=aP Tryz.prog E [.tmp 2] (NC E none 223 ⟨bB undef 2 args,fun _=>undef,2,26,[]⟩ u Z):=by
 rw[Ap (body:=Tryz.f223.body.getD .skip) Tryz.func223 rfl E args u Z 2 26 (by kernel_rfl) rfl ⟨hn,by decide⟩,An4]
 rfl
def HY(_:Unit):List COp:=[⟨fun a Z=>.val (.bool false) Z,some 2,tT⟩]
def Ah5:List COp:=HY ()
def H0(_:Unit):List COp:=[⟨fun a Z=>.val (a.get 0) Z,some 4,tT⟩,
 ⟨fun a Z=>flenS (a.get 4) Z,some 5,tT⟩,
 ⟨fun a Z=>bO Tryz.prog 3 (.tmp 5) (.const (.int .i64 0)) (a.get 5) (.int .i64 0) Z,some 6,tT⟩,
 ⟨fun a Z=>.val (a.get 6) Z,some 7,tT⟩,
 ⟨fun a Z=>.val (a.get 0) Z,some 8,fun a=>gd (a.get 7) false⟩,
 ⟨fun a Z=>flenS (a.get 8) Z,some 9,fun a=>gd (a.get 7) false⟩,
 ⟨fun a Z=>i_gtr Tryz.prog 3 (.tmp 9) (.const (.int .i64 20)) (a.get 9) (.int .i64 20) Z,some 10,fun a=>gd (a.get 7) false⟩,
 ⟨fun a Z=>bM (a.get 7) (.bool true) (a.get 10) Z,some 11,tT⟩]
def Ah6:List COp:=H0 ()
def Lu(_:Unit):List COp:=[⟨fun a Z=>.val (.bool false) Z,some 2,tT⟩]
def Ah7:List COp:=Lu ()
def Lv(_:Unit):List COp:=[⟨fun a Z=>.val (a.get 0) Z,some 12,tT⟩,
 ⟨fun a Z=>flenS (a.get 12) Z,some 13,tT⟩,
 ⟨fun a Z=>.val (.int .i64 0) Z,some 14,tT⟩]
def Ah8:List COp:=Lv ()
def E5(_:Unit):List COp:=[⟨fun a Z=>i_lss Tryz.prog 3 (.tmp 14) (.tmp 13) (a.get 14) (a.get 13) Z,some 15,tT⟩]
def Ah9:List COp:=E5 ()
def FX(_:Unit):List COp:=[⟨fun a Z=>.val (a.get 14) Z,some 16,tT⟩,
 ⟨fun a Z=>.val (a.get 16) Z,some 3,tT⟩]
def Aia:List COp:=FX ()
def FY(_:Unit):List COp:=[⟨fun a Z=>.val (a.get 0) Z,some 17,tT⟩,
 ⟨fun a Z=>.val (a.get 3) Z,some 18,tT⟩,
 ⟨fun a Z=>bQ (a.get 17) (a.get 18) Z,some 19,tT⟩,
 ⟨fun a Z=>fun1 Tryz.prog (convert 5 21) (a.get 19) Z,some 20,tT⟩,
 ⟨fun a Z=>.enter 176 [(a.get 20)] Z,some 21,tT⟩]
def Aib:List COp:=FY ()
def FZ(_:Unit):List COp:=[⟨fun a Z=>bO Tryz.prog 216 (.tmp 21) (.const (.int .i64 2)) (a.get 21) (.int .i64 2) Z,some 23,tT⟩,
 ⟨fun a Z=>.val (a.get 23) Z,some 22,tT⟩]
def Aic:List COp:=FZ ()
def F2(_:Unit):List COp:=[⟨fun a Z=>bO Tryz.prog 216 (.tmp 21) (.const (.int .i64 0)) (a.get 21) (.int .i64 0) Z,some 25,tT⟩,
 ⟨fun a Z=>.val (a.get 25) Z,some 24,tT⟩]
def Aid:List COp:=F2 ()
def F3(_:Unit):List COp:=[⟨fun a Z=>.val (a.get 3) Z,some 26,tT⟩,
 ⟨fun a Z=>i_gtr Tryz.prog 3 (.tmp 26) (.const (.int .i64 1)) (a.get 26) (.int .i64 1) Z,some 27,tT⟩,
 ⟨fun a Z=>.val (a.get 27) Z,some 28,tT⟩,
 ⟨fun a Z=>.val (a.get 3) Z,some 29,fun a=>gd (a.get 28) false⟩,
 ⟨fun a Z=>bO Tryz.prog 3 (.tmp 29) (.const (.int .i64 1)) (a.get 29) (.int .i64 1) Z,some 30,fun a=>gd (a.get 28) false⟩,
 ⟨fun a Z=>.val (a.get 30) Z,some 31,fun a=>gd (a.get 28) false⟩,
 ⟨fun a Z=>.val (a.get 0) Z,some 32,fun a=>gd (a.get 31) true⟩,
 ⟨fun a Z=>bQ (a.get 32) (.int .i64 0) Z,some 33,fun a=>gd (a.get 31) true⟩,
 ⟨fun a Z=>i_neq Tryz.prog 5 (.tmp 33) (.const (.int .u8 45)) (a.get 33) (.int .u8 45) Z,some 34,fun a=>gd (a.get 31) true⟩,
 ⟨fun a Z=>bM (a.get 31) (a.get 34) (.bool false) Z,some 35,fun a=>gd (a.get 28) false⟩,
 ⟨fun a Z=>bM (a.get 28) (.bool true) (a.get 35) Z,some 36,tT⟩]
def Aie:List COp:=F3 ()
def Hr(_:Unit):List COp:=[⟨fun a Z=>.val (.bool false) Z,some 2,tT⟩]
def AbV:List COp:=Hr ()
def Hs(_:Unit):List COp:=[⟨fun a Z=>i_add Tryz.prog 3 (.tmp 14) (.const (.int .i64 1)) (a.get 14) (.int .i64 1) Z,some 37,tT⟩,
 ⟨fun a Z=>.val (a.get 37) Z,some 14,tT⟩]
def AbW:List COp:=Hs ()
def Fb(E:Env)(ro:Option Nat)(fn:FuncId):aZ:=(aF (aD E ro Ah9) (aF (aN (fun a=>(a.get 15)) aV (exitR 0)) (aF (aW 1 (aF (aD E ro Aia) (aF (aD E ro Aib) (aW 2 (aF (aW 4 (aF (aW 3 (aF (aF (aF (aD E ro Aic) (aN (fun a=>(a.get 22)) (exitR 3) aV)) (aF (aD E ro Aid) (aN (fun a=>(a.get 24)) (exitR 4) aV))) (exitR 2))) (aF (aD E ro Aie) (aN (fun a=>(a.get 36)) (exitR 1) aV)))) (aF (aF (aD E ro AbV) bL) (exitR 2))))))) (aD E ro AbW))))
def Jz(_:Unit):List COp:=[⟨fun a Z=>.val (.bool true) Z,some 2,tT⟩]
def AbX:List COp:=Jz ()
def Th(E:Env)(ro:Option Nat)(fn:FuncId):aZ:=(aF (aD E ro Ah5) (aF (aF (aD E ro Ah6) (aN (fun a=>(a.get 11)) (aF (aD E ro Ah7) bL) aV)) (aF (aF (aD E ro Ah8) (aW 0 (loopR (bE nls fn) (Fb E ro fn)))) (aF (aD E ro AbX) bL))))
theorem HZ:aD E ro Ah5 a u Z=aD E ro (HY ()) a u Z:=rfl
theorem H3:aD E ro Ah6 a u Z=aD E ro (H0 ()) a u Z:=rfl
theorem Pu:aD E ro Ah7 a u Z=aD E ro (Lu ()) a u Z:=rfl
theorem Pv:aD E ro Ah8 a u Z=aD E ro (Lv ()) a u Z:=rfl
theorem EH:aD E ro Ah9 a u Z=aD E ro (E5 ()) a u Z:=rfl
theorem FA:aD E ro Aia a u Z=aD E ro (FX ()) a u Z:=rfl
theorem FB:aD E ro Aib a u Z=aD E ro (FY ()) a u Z:=rfl
theorem FC:aD E ro Aic a u Z=aD E ro (FZ ()) a u Z:=rfl
theorem FD:aD E ro Aid a u Z=aD E ro (F2 ()) a u Z:=rfl
theorem FE:aD E ro Aie a u Z=aD E ro (F3 ()) a u Z:=rfl
theorem IE:aD E ro AbV a u Z=aD E ro (Hr ()) a u Z:=rfl
theorem IG:aD E ro AbW a u Z=aD E ro (Hs ()) a u Z:=rfl
theorem MC:aD E ro AbX a u Z=aD E ro (Jz ()) a u Z:=rfl
theorem AnU(E:Env)(ro:Option Nat)(fn:FuncId):code Tryz.prog nls (Tryz.f158.body.getD .skip) E ro fn=Th E ro fn:=by kernel_rfl
theorem Uc(E:Env)(args:List Value)(u:Option FrameMode)(Z:aC)(hn:args.length<=(4:Nat)):bD Tryz.prog nls E 158 args u Z=aP Tryz.prog E [.tmp 2] (Th E none 158 ⟨bB undef 4 args,fun _=>undef,4,38,[]⟩ u Z):=by
 rw[Ap (body:=Tryz.f158.body.getD .skip) Tryz.func158 rfl E args u Z 4 38 (by kernel_rfl) rfl ⟨hn,by decide⟩,AnU]
 rfl
def Lw(_:Unit):List COp:=[⟨fun a Z=>.val (.bool false) Z,some 2,tT⟩]
def Aif:List COp:=Lw ()
def Lx(_:Unit):List COp:=[⟨fun a Z=>.val (a.get 0) Z,some 5,tT⟩,
 ⟨fun a Z=>frangeS (a.get 5) Z,some 6,tT⟩]
def Aig:List COp:=Lx ()
def GV(_:Unit):List COp:=[⟨fun a Z=>fnext (a.get 6) Z,some 7,tT⟩,
 ⟨fun a Z=>aJ 0 (a.get 7) Z,some 8,tT⟩]
def Aih:List COp:=GV ()
def H4(_:Unit):List COp:=[⟨fun a Z=>aJ 2 (a.get 7) Z,some 9,tT⟩,
 ⟨fun a Z=>.val (a.get 9) Z,some 4,tT⟩]
def Aii:List COp:=H4 ()
def H6(_:Unit):List COp:=[⟨fun a Z=>.val (a.get 4) Z,some 10,tT⟩,
 ⟨fun a Z=>i_lss Tryz.prog 21 (.tmp 10) (.const (.int .i32 32)) (a.get 10) (.int .i32 32) Z,some 11,tT⟩,
 ⟨fun a Z=>.val (a.get 11) Z,some 12,tT⟩,
 ⟨fun a Z=>.val (a.get 4) Z,some 13,fun a=>gd (a.get 12) false⟩,
 ⟨fun a Z=>i_gtr Tryz.prog 21 (.tmp 13) (.const (.int .i32 126)) (a.get 13) (.int .i32 126) Z,some 14,fun a=>gd (a.get 12) false⟩,
 ⟨fun a Z=>bM (a.get 12) (.bool true) (a.get 14) Z,some 15,tT⟩]
def Aij:List COp:=H6 ()
def Ly(_:Unit):List COp:=[⟨fun a Z=>.val (.bool false) Z,some 2,tT⟩]
def Aik:List COp:=Ly ()
def Hj(E:Env)(ro:Option Nat)(fn:FuncId):aZ:=(aF (aD E ro Aih) (aF (aN (fun a=>(a.get 8)) aV (exitR 0)) (aW 1 (aF (aD E ro Aii) (aF (aD E ro Aij) (aN (fun a=>(a.get 15)) (aF (aD E ro Aik) bL) aV))))))
def Re(_:Unit):List COp:=[⟨fun a Z=>.val (.bool true) Z,some 2,tT⟩]
def Ail:List COp:=Re ()
def Ti(E:Env)(ro:Option Nat)(fn:FuncId):aZ:=(aF (aD E ro Aif) (aF (aF (aD E ro Aig) (aW 0 (loopR (bE nls fn) (Hj E ro fn)))) (aF (aD E ro Ail) bL)))
theorem Pw:aD E ro Aif a u Z=aD E ro (Lw ()) a u Z:=rfl
theorem Px:aD E ro Aig a u Z=aD E ro (Lx ()) a u Z:=rfl
theorem Gn:aD E ro Aih a u Z=aD E ro (GV ()) a u Z:=rfl
theorem H5:aD E ro Aii a u Z=aD E ro (H4 ()) a u Z:=rfl
theorem H7:aD E ro Aij a u Z=aD E ro (H6 ()) a u Z:=rfl
theorem Py:aD E ro Aik a u Z=aD E ro (Ly ()) a u Z:=rfl
theorem AdS:aD E ro Ail a u Z=aD E ro (Re ()) a u Z:=rfl
theorem AnV(E:Env)(ro:Option Nat)(fn:FuncId):code Tryz.prog nls (Tryz.f159.body.getD .skip) E ro fn=Ti E ro fn:=by kernel_rfl
theorem Ud(E:Env)(args:List Value)(u:Option FrameMode)(Z:aC)(hn:args.length<=(5:Nat)):bD Tryz.prog nls E 159 args u Z=aP Tryz.prog E [.tmp 2] (Ti E none 159 ⟨bB undef 5 args,fun _=>undef,5,16,[]⟩ u Z):=by
 rw[Ap (body:=Tryz.f159.body.getD .skip) Tryz.func159 rfl E args u Z 5 16 (by kernel_rfl) rfl ⟨hn,by decide⟩,AnV]
 rfl
end
section
open Go Go.Eng
attribute [local congr] Aa Af Ae Ab Ad
attribute [-go_sem] List.range_succ
theorem PO:aggSize Tryz.prog 3=some none:=by kernel_rfl
theorem IQ:aggSize Tryz.prog 32=some none:=by kernel_rfl
theorem AfQ(x:Nat)(Z:aC):bO Tryz.prog 20 (.tmp x) (.const .nilIface) .nilIface .nilIface Z=.val (.bool true) Z:=by kernel_rfl
end
end Go.Proofs.YtknnbjmcfibpgaaGreatDoor
end
