import Derived.Test.YtokieofohmgjdaaGreatDoorU2
import Derived.KernelRfl
import Derived.Attr
import Derived.Test.YtokieofohmgjdaaGreatDoorProg
set_option linter.unusedSimpArgs false
set_option linter.unusedVariables false
noncomputable section
namespace Go.Eng
open Go
def FAct.ok(a:FAct):Prop:=a.nl≤a.loc.length
theorem DX{a:FAct}{d t:Nat}{v:Value}(h:a.ok)(hd:d<a.nt):(a.put (some d) v).get t=if t=d then v else a.get t:=by
 have e:a.put (some d) v=a.putT d v:=by
  show (Bool.rec (motive:=fun _=>FAct) a (a.putT d v) (Nat.blt d a.nt))=_
  have:Nat.blt d a.nt=true:=by simpa [Nat.blt_eq] using hd
  rw[this]
 rw[e,JD]
 unfold FAct.ok at h
 by_cases ht:t=d
 ·rw[if_pos ht,if_pos ht,if_pos (by omega)]
 ·rw[if_neg ht,if_neg ht]
theorem C0(a:FAct)(v:Value):a.put none v=a:=rfl
theorem Ee(a:FAct)(dst:Option Tmp)(v:Value):(a.put dst v).nt=a.nt:=(Nf a dst v).1
theorem BK(a:FAct)(dst:Option Tmp)(v:Value):(a.put dst v).defers=a.defers:=(Nf a dst v).2
theorem Ef(a:FAct)(dst:Option Tmp)(v:Value):(a.put dst v).ok=a.ok:=by
 cases dst with
 | none=>rfl
 | some d=>
  show FAct.ok (Bool.rec (motive:=fun _=>FAct) a (a.putT d v) (Nat.blt d a.nt))=_
  cases Nat.blt d a.nt with
  | false=>rfl
  | true=>
   show FAct.ok (a.putT d v)=_
   unfold FAct.putT
   cases Nat.ble a.nl d with
   | true=>rfl
   | false=>
    show (a.nl≤(setNth v a.loc d).length)=(a.nl≤a.loc.length)
    rw[GF,List.length_set]
theorem HN(nl nt:Nat)(args:List Value)(t:Nat):(⟨padTo undef nl args,fun _=>undef,nl,nt,[]⟩:FAct).get t=if t<nl then args[t]?.getD undef else undef:=by
 show Bool.rec (motive:=fun _=>Value) (Option.rec (motive:=fun _=>Value) undef (fun v=>v) (nth (padTo undef nl args) t)) undef (Nat.ble nl t)=_
 rw[EB,Pu]
 by_cases h:t<nl
 ·have:Nat.ble nl t=false:=by rw[←Bool.not_eq_true,Nat.ble_eq];omega
  rw[this,if_pos h,if_pos h]
 ·have:Nat.ble nl t=true:=by rw[Nat.ble_eq];omega
  rw[this,if_neg h,if_neg h]
theorem Ab3{α:Type}(d:α)(n:Nat)(l:List α):(padTo d n l).length=n:=by
 induction n generalizing l with
 | zero=>rfl
 | succ n ih=>cases l with
  | nil=>exact congrArg (· + 1) (ih [])
  | cons x t=>exact congrArg (· + 1) (ih t)
theorem VF(nl nt:Nat)(args:List Value)(ds:List Deferred):(⟨padTo undef nl args,fun _=>undef,nl,nt,ds⟩:FAct).ok:=by
 show nl≤_
 rw[Ab3]
 exact Nat.le_refl _
theorem Aew(t:Tmp)(a:FAct):(cget (.tmp t)).un a=a.get t:=rfl
theorem Aa(σ:FState)(o:FObj)(fz:Option Nat):(σ.push o fz).next=σ.next+1:=rfl
theorem Bd(σ:FState)(o:FObj)(fz:Option Nat):(σ.push o fz).clock=σ.clock+1:=rfl
theorem Ap(σ:FState)(b:Nat)(o:FObj)(fz:Option Nat):(σ.put b o fz).next=σ.next:=rfl
theorem Bh(σ:FState)(b:Nat)(o:FObj)(fz:Option Nat):(σ.put b o fz).clock=σ.clock+1:=rfl
theorem Am(σ:FState)(c:Nat)(o:FObj)(fz:Option Nat)(b:Nat):(σ.put c o fz).heap.get b=if b=c then some ⟨o,false,fz,σ.clock⟩ else σ.heap.get b:=Tr.get_set _ _ _ _
section
variable (P:Program) (H:Hints) (E:Env) (ro:Option Nat) (fn:FuncId) (a:FAct) (u:Option FrameMode) (σ:FState)
theorem Ab{r r':KRes}(k:RunF)(h:r=r'):andThen r k=andThen r' k:=by rw[h]
theorem Aq(k:RunF):andThen (.done .normal a u σ) k=k a u σ:=rfl
theorem AV(k:RunF):andThen (.done .ret a u σ) k=.done .ret a u σ:=rfl
theorem AL(id:Nat)(k:RunF):andThen (.done (.exit id) a u σ) k=.done (.exit id) a u σ:=rfl
theorem Av(ch:List PanicEntry)(k:RunF):andThen (.done (.panic ch) a u σ) k=.done (.panic ch) a u σ:=rfl
theorem CU:fops E ro [] a u σ=.done .normal a u σ:=rfl
theorem AbM(o:COp)(l:List COp):fops E ro (o::l) a u σ=(match o.guard a with|none=>.no|some false=>fops E ro l (a.put o.dst skipV) u σ|some true=>afterOp E ro o.dst a u (fops E ro l) (o.op a σ)):=by
 show Option.rec (motive:=fun _=>KRes) .no _ (o.guard a)=_
 cases o.guard a with
 | none=>rfl
 | some g=>cases g<;>rfl
variable (dst:Option Tmp) (k:RunF)
theorem Cb(v:Value)(s:FState):afterOp E ro dst a u k (.val v s)=k (a.put dst v) u s:=rfl
theorem Bw(s:FState):afterOp E ro dst a u k (.skip s)=k (a.put dst undef) u s:=rfl
theorem Be(f:FuncId)(args:List Value)(s:FState):afterOp E ro dst a u k (.enter f args s)=afterCall a dst u k (E.call f args none s):=rfl
theorem Ca(v:Value)(u':Option FrameMode)(s:FState):afterCall a dst u k (.ret v u' s)=k (a.put dst v) u s:=rfl
end
end Go.Eng
namespace Go.Eng
open Go
def nosums:Sums:=fun _ _ _=>none
theorem AbB(P:Program)(S:Sums)(H:Hints)(n:Nat)(f:FuncId)(args:List Value)(σ:FState)(h:S f args σ=none):
  (fenv P S H (n+1)).call f args none σ=fcall P H (fenv P S H n) f args none σ:=by
 show fcallS P S H (fenv P S H n) f args none σ=_
 unfold fcallS
 rw[h]
theorem Xh(P:Program)(S:Sums)(H:Hints)(n l:Nat)(args:List Value)(σ:FState):(fenv P S H (n+1)).round l args σ=fround P H (fenv P S H n) l args σ:=rfl
theorem Xg(P:Program)(S:Sums)(H:Hints)(n:Nat)(f:FuncId)(args:List Value)(md:FrameMode)(σ:FState):(fenv P S H (n+1)).call f args (some md) σ=fcall P H (fenv P S H n) f args (some md) σ:=rfl
theorem Ars{P:Program}{H:Hints}{f:FuncId}{fn:Func}{body:Code}(hf:P.funcs[f]? = some fn)(hb:fn.body=some body):
  (cfn P H f).un=some ⟨code P H body,slotsOf H f,fn.ntmps,fn.results.toList,fn.params.size+fn.nfree⟩:=by
 unfold cfn
 rw[hf]
 simp only[hb]
theorem Ao{P:Program}{H:Hints}{f:FuncId}{fn:Func}{body:Code}(hf:P.funcs[f]? = some fn)(hb:fn.body=some body)(E:Env)(args:List Value)(u:Option FrameMode)(σ:FState)(nl nt:Nat)(hl:slotsOf H f=nl)(ht:fn.ntmps=nt)(hn:args.length≤nl∧nl≤nt):
  fcall P H E f args u σ=(match code P H body E none f ⟨padTo undef nl args,fun _=>undef,nl,nt,[]⟩ u σ with
  | .done .normal a u σ=>fleave P E fn.results.toList a u a.defers .returning σ
  | .done .ret a u σ=>fleave P E fn.results.toList a u a.defers .returning σ
  | .done (.panic ch) a u σ=>fleave P E fn.results.toList a u a.defers (.panicking ch) σ
  | _=>.no):=by
 unfold fcall
 rw[Ars hf hb]
 simp only[hl,ht]
 have h1:Nat.ble (len args) nl=true:=by rw[Nat.ble_eq,EA];exact hn.1
 have h2:Nat.ble nl nt=true:=by rw[Nat.ble_eq];exact hn.2
 rw[h1,h2]
 rfl
section
variable (P:Program) (H:Hints) (E:Env) (ro:Option Nat) (fn:FuncId) (a:FAct) (u:Option FrameMode) (σ:FState)
theorem Bj(rs:List ResultVar):fleave P E rs a u [] .returning σ=(match fresults P rs a σ with
    | some [v]=>.ret v u σ
    | some vs=>.ret (.tuple vs.toArray) u σ
    | none=>.no):=rfl
theorem Bc(rs:List ResultVar)(ch:List PanicEntry):fleave P E rs a u [] (.panicking ch) σ=.pan ch u σ:=rfl
variable (d:Nat)
end
end Go.Eng
namespace Go.Eng
open Go
def flenD(d:Option TypeDesc)(x:Value)(σ:FState):ORes:=
 match d with
 | some .string=>flenS x σ
 | some (.slice _)=>flenL x σ
 | some (.map _ _)=>flenM x σ
 | _=>.no
section
variable (P:Program) (H:Hints) (E:Env) (ro:Option Nat) (fn:FuncId) (a:FAct) (u:Option FrameMode) (σ:FState)
variable (x y z:Operand)
end
theorem Anx(e:TypeId)(v:Value)(σ:FState)(h:notTuple v=true):fbox e v σ=.val (.pointer (some ⟨σ.next,0,none⟩)) (σ.push (.cells (valCells v) e) none):=by
 unfold fbox;rw[h];rfl
theorem Ce(off b o:Nat)(σ:FState):ffield off (.pointer (some ⟨b,o,none⟩)) σ=.val (.pointer (some ⟨b,o+off,none⟩)) σ:=rfl
theorem CV(b:Bool)(x y:Value)(σ:FState):fpick (.bool b) x y σ=.val (bif b then x else y) σ:=by cases b<;>rfl
end Go.Eng
namespace Go.Eng
open Go
theorem A8(c:Array Value):notTuple (.agg c)=true:=of_decide_eq_true (by simp[notTuple])
theorem A9(k:IntKind)(n:Int):notTuple (.int k n)=true:=of_decide_eq_true (by simp[notTuple])
theorem AC(s:ByteArray):notTuple (.string s)=true:=of_decide_eq_true (by simp[notTuple])
theorem AR(b:Bool):notTuple (.bool b)=true:=of_decide_eq_true (by simp[notTuple])
theorem AA(p:Option Addr)(l c:Nat):notTuple (.slice p l c)=true:=of_decide_eq_true (by simp[notTuple])
theorem Ay(p:Option Addr):notTuple (.pointer p)=true:=of_decide_eq_true (by simp[notTuple])
theorem D1(f:Fn)(a b:Array Value):notTuple (.func f a b)=true:=of_decide_eq_true (by simp[notTuple])
theorem JJ(r:Option Nat):notTuple (.map r)=true:=of_decide_eq_true (by simp[notTuple])
theorem AY(k:IntKind)(n:Int):oneCell (.int k n)=true:=of_decide_eq_true (by simp[oneCell])
theorem AJ(s:ByteArray):oneCell (.string s)=true:=of_decide_eq_true (by simp[oneCell])
theorem A_(b:Bool):oneCell (.bool b)=true:=of_decide_eq_true (by simp[oneCell])
theorem Au(p:Option Addr)(l c:Nat):oneCell (.slice p l c)=true:=of_decide_eq_true (by simp[oneCell])
theorem AE(p:Option Addr):oneCell (.pointer p)=true:=of_decide_eq_true (by simp[oneCell])
theorem EQ(f:Fn)(a b:Array Value):oneCell (.func f a b)=true:=of_decide_eq_true (by simp[oneCell])
theorem Lb(r:Option Nat):oneCell (.map r)=true:=of_decide_eq_true (by simp[oneCell])
theorem Ba(l:List Value):valCells (.agg l.toArray)=l:=rfl
theorem Bb(k:IntKind)(n:Int):valCells (.int k n)=[.int k n]:=rfl
theorem AF(s:ByteArray):valCells (.string s)=[.string s]:=rfl
theorem AU(b:Bool):valCells (.bool b)=[.bool b]:=rfl
theorem AK(p:Option Addr)(l c:Nat):valCells (.slice p l c)=[.slice p l c]:=rfl
theorem Az(p:Option Addr):valCells (.pointer p)=[.pointer p]:=rfl
theorem Es(f:Fn)(a b:Array Value):valCells (.func f a b)=[.func f a b]:=rfl
theorem Ke(r:Option Nat):valCells (.map r)=[.map r]:=rfl
def FObj.cells? : FObj→Option (List Value)
 | .cells c _=>some c
 | _=>none
theorem cells?_cells(c:List Value)(t:TypeId):(FObj.cells c t).cells? = some c:=rfl
theorem AG(σ:FState)(b:Nat):σ.cells b=(σ.heap.get b).bind fun e=>e.obj.cells?:=by
 show Option.rec (motive:=fun _=>Option (List Value)) none _ (σ.heap.get b)=_
 cases σ.heap.get b with
 | none=>rfl
 | some e=>
  obtain⟨o,ro,fz,ver⟩:=e
  cases o<;>rfl
theorem Ac(σ:FState)(o:FObj)(fz:Option Nat)(b:Nat):(σ.push o fz).cells b=if b=σ.next then o.cells? else σ.cells b:=by
 rw[AG,Ai,AG]
 by_cases h:b=σ.next
 ·rw[if_pos h,if_pos h];rfl
 ·rw[if_neg h,if_neg h]
theorem Al(σ:FState)(c:Nat)(o:FObj)(fz:Option Nat)(b:Nat):(σ.put c o fz).cells b=if b=c then o.cells? else σ.cells b:=by
 rw[AG,Am,AG]
 by_cases h:b=c
 ·rw[if_pos h,if_pos h];rfl
 ·rw[if_neg h,if_neg h]
theorem D9(b off:Nat)(σ:FState):fload none (.pointer (some ⟨b,off,none⟩)) σ=(match σ.cells b with|some c=>(match c[off]? with|some v=>.val v σ|none=>.no)|none=>.no):=by
 unfold fload
 cases h:σ.cells b with
 | none=>simp only[h]
 | some c=>simp only[h,EB];cases c[off]?<;>rfl
theorem D_(n b off:Nat)(σ:FState):fload (some n) (.pointer (some ⟨b,off,none⟩)) σ=(match σ.cells b with|some c=>(if n≤c.length-off then .val (.agg ((c.drop off).take n).toArray) σ else .no)|none=>.no):=by
 unfold fload
 cases h:σ.cells b with
 | none=>simp only[h]
 | some c=>
  simp only[h,Ho,HJ,List.length_drop]
  by_cases hn:n≤c.length-off
  ·rw[if_pos hn,if_pos hn]
  ·rw[if_neg hn,if_neg hn]
section
variable (P:Program) (a:FAct) (σ:FState) (t u:TypeId) (x y:Operand)
end
end Go.Eng
namespace Go.Eng
open Go
section
variable (P:Program) (t:TypeId) (x y:Operand) (s r:ByteArray) (σ:FState)
theorem AoP:fbin0 P .eql t x y (.string s) (.string r) σ=.val (.bool (s.toList==r.toList)) σ:=by
 unfold fbin0 orPure
 simp[eqGuard,binOp,flat,Op.stringOp]
 rfl
theorem AoQ:fbin0 P .neq t x y (.string s) (.string r) σ=.val (.bool (!(s.toList==r.toList))) σ:=by
 unfold fbin0 orPure
 simp[eqGuard,binOp,flat,Op.stringOp]
 rfl
end
structure Ext (σ σ':FState):Prop where
 next:σ.next≤σ'.next
 clock:σ.clock≤σ'.clock
 get:∀b,b<σ.next→σ'.heap.get b=σ.heap.get b
theorem Ext.refl(σ:FState):Ext σ σ:=⟨Nat.le_refl _,Nat.le_refl _,fun _ _=>rfl⟩
theorem Ext.trans{σ σ₁ σ₂:FState}(h:Ext σ σ₁)(k:Ext σ₁ σ₂):Ext σ σ₂:=
 ⟨Nat.le_trans h.next k.next,Nat.le_trans h.clock k.clock,fun b hb=>(k.get b (Nat.lt_of_lt_of_le hb h.next)).trans (h.get b hb)⟩
theorem Ext.push{σ σ₁:FState}(h:Ext σ σ₁)(o:FObj)(fz:Option Nat):Ext σ (σ₁.push o fz):=
 ⟨Nat.le_succ_of_le h.next,Nat.le_succ_of_le h.clock,fun b hb=>by
  rw[Ai,if_neg (by have:=h.next;omega)]
  exact h.get b hb⟩
theorem Ext.put{σ σ₁:FState}(h:Ext σ σ₁)(c:Nat)(o:FObj)(fz:Option Nat)(hc:σ.next≤c):Ext σ (σ₁.put c o fz):=
 ⟨h.next,Nat.le_succ_of_le h.clock,fun b hb=>by
  rw[Am,if_neg (by omega)]
  exact h.get b hb⟩
theorem Ext.cells{σ σ':FState}(h:Ext σ σ'){b:Nat}(hb:b<σ.next):σ'.cells b=σ.cells b:=by
 rw[AG,AG,h.get b hb]
def Wf(σ:FState):Prop:=∀b e,σ.heap.get b=some e→b<σ.next∧e.ver<σ.clock
theorem Wf.cells{σ:FState}(h:Wf σ){b:Nat}{c:List Value}(hc:σ.cells b=some c):b<σ.next:=by
 rw[AG] at hc
 cases hg:σ.heap.get b with
 | none=>rw[hg] at hc;cases hc
 | some e=>exact(h b e hg).1
theorem Wf.push{σ:FState}(h:Wf σ)(o:FObj)(fz:Option Nat):Wf (σ.push o fz):=fun b e hb=>by
 rw[Ai] at hb
 rw[Aa,Bd]
 by_cases hn:b=σ.next
 ·rw[if_pos hn] at hb
  cases hb
  exact⟨by omega,Nat.lt_succ_self _⟩
 ·rw[if_neg hn] at hb
  have:=h b e hb
  exact⟨by omega,by omega⟩
theorem Wf.put{σ:FState}(h:Wf σ)(c:Nat)(o:FObj)(fz:Option Nat)(hc:c<σ.next):Wf (σ.put c o fz):=fun b e hb=>by
 rw[Am] at hb
 rw[Ap,Bh]
 by_cases hn:b=c
 ·rw[if_pos hn] at hb
  cases hb
  exact⟨by omega,Nat.lt_succ_self _⟩
 ·rw[if_neg hn] at hb
  have:=h b e hb
  exact⟨by omega,by omega⟩
inductive D where
 | mk (kind num:Int) (text:ByteArray) (parts:List D)
mutual
def Laid(σ:FState):Value→D→Prop
 | v,.mk k n t ds=>∃p c,v=.agg #[.int .i64 k,.int .i64 n,.string t,.slice p ds.length c]∧LaidE σ p 0 ds
def LaidE(σ:FState):Option Addr→Nat→List D→Prop
 | _,_,[]=>True
 | p,i,d::ds=>(∃b off cs,p=some ⟨b,off,none⟩∧σ.cells b=some cs∧4≤cs.length-(off+i*4)∧Laid σ (.agg ((cs.drop (off+i*4)).take 4).toArray) d)∧LaidE σ p (i+1) ds
end
mutual
theorem Laid.ext{σ σ':FState}(hw:Wf σ)(h:Ext σ σ'):∀ {v:Value} {d:D},Laid σ v d→Laid σ' v d
 | _,.mk _ _ _ _,⟨p,c,hv,he⟩=>⟨p,c,hv,LaidE.ext hw h he⟩
theorem LaidE.ext{σ σ':FState}(hw:Wf σ)(h:Ext σ σ'):∀ {p:Option Addr} {i:Nat} {ds:List D},LaidE σ p i ds→LaidE σ' p i ds
 | _,_,[],_=>trivial
 | _,_,_::_,⟨⟨b,off,cs,hp,hc,hl,hd⟩,hr⟩=>⟨⟨b,off,cs,hp,(h.cells (hw.cells hc)).trans hc,hl,Laid.ext hw h hd⟩,LaidE.ext hw h hr⟩
end
theorem LaidE.get{σ:FState}{p:Option Addr}:∀ {i:Nat} {ds:List D} {k:Nat} {d:D},LaidE σ p i ds→ds[k]? = some d→
  ∃b off cs,p=some ⟨b,off,none⟩∧σ.cells b=some cs∧4≤cs.length-(off+(i+k)*4)∧Laid σ (.agg ((cs.drop (off+(i+k)*4)).take 4).toArray) d
 | i,d::ds,0,_,h,hk=>by
  cases hk
  exact h.1
 | i,d::ds,k+1,_,h,hk=>by
  have:=LaidE.get (i:=i+1) h.2 (k:=k) (by simpa using hk)
  rwa [show i+1+k=i+(k+1) by omega] at this
 | _,[],_,_,_,hk=>by simp at hk
mutual
def D.same:D→D→Bool
 | .mk k n t ds,.mk k' n' t' ds'=>decide (k=k')&&decide (n=n')&&(t.toList==t'.toList)&&D.sames ds ds'
def D.sames:List D→List D→Bool
 | [],[]=>true
 | d::ds,d'::ds'=>D.same d d'&&D.sames ds ds'
 | _,_=>false
end
mutual
def D.deep:D→Nat
 | .mk _ _ _ ds=>D.deeps ds+1
def D.deeps:List D→Nat
 | []=>0
 | d::ds=>max (D.deep d) (D.deeps ds)
end
end Go.Eng
namespace Go.Eng
open Go
theorem CS(p:Option Addr)(n c:Nat)(σ:FState):flenL (.slice p n c) σ=.val (.int .i64 (.ofNat n)) σ:=rfl
theorem CT(s:ByteArray)(σ:FState):flenS (.string s) σ=.val (.int .i64 (.ofNat s.size)) σ:=rfl
theorem Cf(b off l c n size:Nat)(k:IntKind)(σ:FState):findex (none,size) (.slice (some ⟨b,off,none⟩) l c) (.int k (.ofNat n)) σ=(if n<l then .val (.pointer (some ⟨b,off+n*size,none⟩)) σ else .no):=by
 show cond (Nat.blt n l) _ _=_
 by_cases h:n<l
 ·rw[show Nat.blt n l=true by simpa [Nat.blt_eq] using h,if_pos h];rfl
 ·rw[show Nat.blt n l=false by rw[←Bool.not_eq_true,Nat.blt_eq];exact h,if_neg h];rfl
section
variable (P:Program) (H:Hints) (E:Env) (ro:Option Nat) (fn:FuncId) (a:FAct) (u:Option FrameMode) (σ:FState) (d:Nat)
variable (last:List Nat→RunF) (cl:List Nat)
variable (dst:Option Tmp) (k:RunF)
theorem Cd(v:Value)(lam:Nat):drawF dst a u σ k (.val v (view σ lam))=k (a.put dst v) u σ:=by
 have:regrow σ (view σ lam)=some σ:=by
  unfold regrow
  rw[show Nat.beq (view σ lam).next σ.next=true by rw[Nat.beq_eq];rfl]
  rfl
 unfold drawF
 simp only[this]
theorem BA(v:Value)(lam:Nat)(o:FObj)(fz:Option Nat):drawF dst a u σ k (.val v ((view σ lam).push o fz))=k (a.put dst v) u (σ.push o fz):=by
 have:regrow σ ((view σ lam).push o fz)=some (σ.push o fz):=by
  unfold regrow
  rw[show Nat.beq ((view σ lam).push o fz).next σ.next=false by rw[←Bool.not_eq_true,Nat.beq_eq];show ¬ σ.next+1=σ.next;omega]
  rw[Ai]
  have e:(view σ lam).next=σ.next:=rfl
  rw[e,if_pos rfl]
  rfl
 unfold drawF
 simp only[this]
theorem Ck(r:ORes):stepOp E ro dst a u r=afterOp E ro dst a u (fun a u σ=>.done .normal a u σ) r:=rfl
theorem AZ(free:Bool):drawA free k (.done .normal a u σ)=k a u σ:=rfl
theorem Cm(lam:Nat):(view σ lam).next=σ.next:=rfl
theorem CZ{α:Type}(x:α)(l:List α):nth (x::l) 0=some x:=rfl
theorem CY{α:Type}(x:α)(l:List α)(n:Nat):nth (x::l) (n+1)=nth l n:=rfl
theorem Hf(lam b:Nat):(view σ lam).cells b=(σ.heap.get b).bind fun e=>if e.ver<lam then e.obj.cells? else none:=by
 rw[AG,Kf]
 cases σ.heap.get b with
 | none=>rfl
 | some e=>
  simp only[Option.bind_some]
  by_cases h:e.ver<lam
  ·rw[if_pos h,if_pos h];rfl
  ·rw[if_neg h,if_neg h];rfl
theorem Al3(lam b c:Nat)(o:FObj)(fz:Option Nat):(view (σ.put c o fz) lam).cells b=if b=c then (if σ.clock<lam then o.cells? else none) else (view σ lam).cells b:=by
 rw[Hf,Am,Hf]
 by_cases h:b=c
 ·rw[if_pos h,if_pos h];rfl
 ·rw[if_neg h,if_neg h]
end
theorem D0{σ:FState}(h:Wf σ){lam:Nat}(hl:σ.clock≤lam)(b:Nat):(view σ lam).cells b=σ.cells b:=by
 rw[Hf,AG]
 cases hg:σ.heap.get b with
 | none=>rfl
 | some e=>
  simp only[Option.bind_some]
  rw[if_pos (by have:=(h b e hg).2;omega)]
theorem Ar(keep:List Nat)(run:RunF)(n:Nat)(a:FAct)(u:Option FrameMode)(σ:FState):floop keep run (n+1) a u σ=andThen (run (a.forget keep) u σ) (floop keep run n):=rfl
theorem MP(keep:List Nat)(a:FAct)(t:Nat):(a.forget keep).tmp t=if t∈keep then a.tmp t else undef:=by
 induction keep with
 | nil=>simp;rfl
 | cons x r ih=>
  show Bool.rec (motive:=fun _=>Value) ((a.forget r).tmp t) (a.tmp x) (Nat.beq t x)=_
  by_cases hx:t=x
  ·subst hx
   rw[show Nat.beq t t=true by rw[Nat.beq_eq]]
   simp
  ·rw[show Nat.beq t x=false by rw[←Bool.not_eq_true,Nat.beq_eq];exact hx,ih]
   simp[hx]
theorem MO(keep:List Nat)(a:FAct)(h:a.ok)(t:Nat):(a.forget keep).get t=if t<a.nl∨t∈keep then a.get t else undef:=by
 have hl:(a.forget keep).loc=a.loc:=rfl
 have hn:(a.forget keep).nl=a.nl:=Nat.le_antisymm (Nat.le_refl _) (Nat.le_refl _)
 by_cases hlt:t<a.nl
 ·rw[if_pos (.inl hlt)]
  unfold FAct.get
  rw[hl,hn,show Nat.ble a.nl t=false by rw[←Bool.not_eq_true,Nat.ble_eq];omega]
 ·have hb:Nat.ble a.nl t=true:=by rw[Nat.ble_eq];omega
  have e1:a.get t=a.tmp t:=by unfold FAct.get;rw[hb]
  have e2:(a.forget keep).get t=(a.forget keep).tmp t:=by unfold FAct.get;rw[hn,hb]
  rw[e1,e2]
  exact(MP keep a t).trans (by simp[hlt])
theorem CA(keep:List Nat)(a:FAct):(a.forget keep).ok=a.ok:=propext Iff.rfl
theorem Cz(keep:List Nat)(a:FAct):(a.forget keep).nt=a.nt:=Nat.le_antisymm (Nat.le_refl _) (Nat.le_refl _)
theorem Cy(keep:List Nat)(a:FAct):(a.forget keep).nl=a.nl:=Nat.le_antisymm (Nat.le_refl _) (Nat.le_refl _)
theorem AW(keep:List Nat)(a:FAct):(a.forget keep).defers=a.defers:=rfl
end Go.Eng
namespace Go.Eng
open Go
def skipR:RunF:=fun a u σ=>.done .normal a u σ
def retR:RunF:=fun a u σ=>.done .ret a u σ
def exitR(id:Nat):RunF:=fun a u σ=>.done (.exit id) a u σ
def gotoR(l:Nat):RunF:=fun a u σ=>.done (.goto l) a u σ
def seqR(x y:RunF):RunF:=fun a u σ=>andThen (x a u σ) y
def condR(c:FAct→Value)(x y:RunF):RunF:=fun a u σ=>match c a with
 | .bool true=>x a u σ
 | .bool false=>y a u σ
 | _=>.no
def blockR(id:Nat)(x:RunF):RunF:=fun a u σ=>match x a u σ with
 | .done (.exit id') a u σ=>cond (Nat.beq id' id) (.done .normal a u σ) (.done (.exit id') a u σ)
 | r=>r
def loopR(keep:List Nat)(x:RunF):RunF:=fun a u σ=>floop keep x bigFuel a u σ
def drawR(E:Env)(ro:Option Nat)(l:List DOp):RunF:=fun a u σ=>fdraw E ro (fun _ a u σ=>.done .normal a u σ) l [σ.clock] a u σ
def drawSR(E:Env)(ro:Option Nat)(l:List DOp)(sb sa:SOp)(fl:List DOp):RunF:=fun a u σ=>fdraw E ro (fswap E ro sb sa fl) l [σ.clock] a u σ
def leaveR(P:Program)(E:Env)(rs:List ResultVar)(r:KRes):CRes:=match r with
 | .done .normal a u σ=>fleave P E rs a u a.defers .returning σ
 | .done .ret a u σ=>fleave P E rs a u a.defers .returning σ
 | .done (.panic ch) a u σ=>fleave P E rs a u a.defers (.panicking ch) σ
 | _=>.no
def gd(v:Value)(want:Bool):Option Bool:=match v with
 | .bool b=>some (b==want)
 | .chan none=>some false
 | _=>none
def i_add(P:Program)(t:TypeId)(x y:Operand)(a b:Value)(σ:FState):ORes:=fbinI (fun a b=>.int .i64 (wrapI (a+b))) a b (fbin0 P .add t x y a b σ) σ
def i_sub(P:Program)(t:TypeId)(x y:Operand)(a b:Value)(σ:FState):ORes:=fbinI (fun a b=>.int .i64 (wrapI (a-b))) a b (fbin0 P .sub t x y a b σ) σ
def i_mul(P:Program)(t:TypeId)(x y:Operand)(a b:Value)(σ:FState):ORes:=fbinI (fun a b=>.int .i64 (wrapI (a*b))) a b (fbin0 P .mul t x y a b σ) σ
def i_eql(P:Program)(t:TypeId)(x y:Operand)(a b:Value)(σ:FState):ORes:=fbinI (fun a b=>.bool (ieq a b)) a b (fbin0 P .eql t x y a b σ) σ
def i_neq(P:Program)(t:TypeId)(x y:Operand)(a b:Value)(σ:FState):ORes:=fbinI (fun a b=>.bool (!ieq a b)) a b (fbin0 P .neq t x y a b σ) σ
def i_lss(P:Program)(t:TypeId)(x y:Operand)(a b:Value)(σ:FState):ORes:=fbinI (fun a b=>.bool (!ile b a)) a b (fbin0 P .lss t x y a b σ) σ
def i_leq(P:Program)(t:TypeId)(x y:Operand)(a b:Value)(σ:FState):ORes:=fbinI (fun a b=>.bool (ile a b)) a b (fbin0 P .leq t x y a b σ) σ
def i_gtr(P:Program)(t:TypeId)(x y:Operand)(a b:Value)(σ:FState):ORes:=fbinI (fun a b=>.bool (!ile a b)) a b (fbin0 P .gtr t x y a b σ) σ
def i_geq(P:Program)(t:TypeId)(x y:Operand)(a b:Value)(σ:FState):ORes:=fbinI (fun a b=>.bool (ile b a)) a b (fbin0 P .geq t x y a b σ) σ
def rangesOf:Code→List (Code×Code)
 | .seq x y=>rangesOf x++rangesOf y
 | .cond _ x y=>rangesOf x++rangesOf y
 | .block _ x=>rangesOf x
 | .loop x=>rangesOf x
 | .scope x=>rangesOf x
 | .rangeFunc _ _ x y=>(x,y)::(rangesOf x++rangesOf y)
 | _=>[]
def scopesOf:Code→List Code
 | .seq x y=>scopesOf x++scopesOf y
 | .cond _ x y=>scopesOf x++scopesOf y
 | .block _ x=>scopesOf x
 | .loop x=>scopesOf x
 | .scope x=>x::scopesOf x
 | .rangeFunc _ _ x y=>scopesOf x++scopesOf y
 | _=>[]
section
variable (a:FAct) (u:Option FrameMode) (σ:FState)
theorem Ag:skipR a u σ=.done .normal a u σ:=rfl
theorem DQ:retR a u σ=.done .ret a u σ:=rfl
theorem CR(id:Nat):exitR id a u σ=.done (.exit id) a u σ:=rfl
theorem DR(x y:RunF):seqR x y a u σ=andThen (x a u σ) y:=rfl
theorem CQ(E:Env)(ro:Option Nat)(l:List DOp):drawR E ro l a u σ=fdraw E ro (fun _ a u σ=>.done .normal a u σ) l [σ.clock] a u σ:=rfl
theorem BC(P:Program)(E:Env)(rs:List ResultVar):leaveR P E rs (.done .ret a u σ)=fleave P E rs a u a.defers .returning σ:=rfl
theorem AQ(P:Program)(E:Env)(rs:List ResultVar):leaveR P E rs (.done .normal a u σ)=fleave P E rs a u a.defers .returning σ:=rfl
variable (E:Env) (ro:Option Nat) (last:List Nat→RunF) (cl:List Nat)
theorem BB:fdraw E ro last [] cl a u σ=last cl a u σ:=rfl
theorem DE(op:OpF)(dst:Option Tmp)(g:FAct→Option Bool)(q:Nat)(free:Bool)(l:List DOp):fdraw E ro last (⟨op,dst,g,some q,free⟩::l) cl a u σ=
  (match g a with
    | none=>.no
    | some false=>fdraw E ro last l cl (a.put dst skipV) u σ
    | some true=>(match nth cl q with
     | some lam=>drawF dst a u σ (fdraw E ro last l cl) (op a (view σ lam))
     | none=>.no)):=by
 show Option.rec (motive:=fun _=>KRes) .no _ (g a)=_
 cases g a with
 | none=>rfl
 | some g=>cases g<;>rfl
theorem DD(op:OpF)(dst:Option Tmp)(g:FAct→Option Bool)(free:Bool)(l:List DOp):fdraw E ro last (⟨op,dst,g,none,free⟩::l) cl a u σ=
  (match g a with
    | none=>.no
    | some false=>fdraw E ro last l (cl++[σ.clock]) (a.put dst skipV) u σ
    | some true=>drawA free (fun a u σ=>fdraw E ro last l (cl++[σ.clock]) a u σ) (stepOp E ro dst a u (op a σ))):=by
 show Option.rec (motive:=fun _=>KRes) .no _ (g a)=_
 cases g a with
 | none=>rfl
 | some g=>cases g<;>rfl
theorem Ea(op:OpF)(dst:Option Tmp)(g:FAct→Option Bool)(l:List COp):fops E ro (⟨op,dst,g⟩::l) a u σ=(match g a with|none=>.no|some false=>fops E ro l (a.put dst skipV) u σ|some true=>afterOp E ro dst a u (fops E ro l) (op a σ)):=AbM E ro a u σ _ _
end
end Go.Eng
namespace Go.Eng
open Go
theorem D7(e:TypeId)(v:Value)(σ:FState):fbox e v σ=if notTuple v=true then .val (.pointer (some ⟨σ.next,0,none⟩)) (σ.push (.cells (valCells v) e) none) else .no:=by
 cases h:notTuple v with
 | true=>rw[Anx _ _ _ h];rfl
 | false=>unfold fbox;rw[h];rfl
theorem Bg(c:List Value)(el:TypeId)(fz:Option Nat)(σ:FState):newCells c el fz σ=.val (.pointer (some ⟨σ.next,0,none⟩)) (σ.push (.cells c el) fz):=rfl
section
variable (P:Program) (t:TypeId) (x y:Operand) (n m:Int) (s r:ByteArray) (σ:FState)
theorem DB:i_eql P t x y (.int .i64 n) (.int .i64 m) σ=.val (.bool (n==m)) σ:=by
 show ORes.val (.bool (ieq n m)) σ=_
 rw[Xq]
theorem DN:i_neq P t x y (.int .i64 n) (.int .i64 m) σ=.val (.bool (!(n==m))) σ:=by
 show ORes.val (.bool (!ieq n m)) σ=_
 rw[Xq]
theorem DK:i_lss P t x y (.int .i64 n) (.int .i64 m) σ=.val (.bool (decide (n<m))) σ:=by
 show ORes.val (.bool (!ile m n)) σ=_
 rw[MY]
 congr 2
 rw[Bool.eq_iff_iff];simp
theorem DJ:i_leq P t x y (.int .i64 n) (.int .i64 m) σ=.val (.bool (decide (n≤m))) σ:=by
 show ORes.val (.bool (ile n m)) σ=_
 rw[MY]
theorem DI:i_gtr P t x y (.int .i64 n) (.int .i64 m) σ=.val (.bool (decide (n>m))) σ:=by
 show ORes.val (.bool (!ile n m)) σ=_
 rw[MY]
 congr 2
 rw[Bool.eq_iff_iff];simp
theorem DH:i_geq P t x y (.int .i64 n) (.int .i64 m) σ=.val (.bool (decide (n≥m))) σ:=by
 show ORes.val (.bool (ile m n)) σ=_
 rw[MY]
theorem Dz:i_add P t x y (.int .i64 n) (.int .i64 m) σ=.val (.int .i64 (wrapI (n+m))) σ:=rfl
theorem DS:i_sub P t x y (.int .i64 n) (.int .i64 m) σ=.val (.int .i64 (wrapI (n-m))) σ:=rfl
theorem DL:i_mul P t x y (.int .i64 n) (.int .i64 m) σ=.val (.int .i64 (wrapI (n*m))) σ:=rfl
theorem DC:i_eql P t x y (.string s) (.string r) σ=.val (.bool (s.toList==r.toList)) σ:=AoP P t x y s r σ
theorem DP:i_neq P t x y (.string s) (.string r) σ=.val (.bool (!(s.toList==r.toList))) σ:=AoQ P t x y s r σ
theorem Eb(b:Bool):fun1 P (Op.unary .not) (.bool b) σ=.val (.bool (!b)) σ:=rfl
end
theorem Dk{n:Int}(h : -9223372036854775808≤n∧n≤9223372036854775807):wrapI n=n:=by
 cases n with
 | ofNat k=>
  show cond (Nat.ble k 9223372036854775807) _ _=_
  have:k≤9223372036854775807:=by have:=h.2;rw[Int.ofNat_eq_natCast] at this;omega
  rw[show Nat.ble k 9223372036854775807=true by rw[Nat.ble_eq];exact this]
  rfl
 | negSucc k=>
  show cond (Nat.ble k 9223372036854775807) _ _=_
  have:k≤9223372036854775807:=by have:=h.1;rw[Int.negSucc_eq] at this;omega
  rw[show Nat.ble k 9223372036854775807=true by rw[Nat.ble_eq];exact this]
  rfl
def Gives(r:CRes)(σ:FState)(Q:Value→FState→Prop):Prop:=∃v σ',r=.ret v none σ'∧Ext σ σ'∧Wf σ'∧Q v σ'
end Go.Eng
namespace Go.Eng
open Go
theorem DF(w:Bool):gd skipV w=some false:=rfl
theorem DG(b:Bool):gd (.bool b) true=some b:=by cases b<;>rfl
theorem CW(b:Bool):gd (.bool b) false=some (!b):=by cases b<;>rfl
theorem Cg(P:Program)(E:Env)(t:Tmp)(a:FAct)(u:Option FrameMode)(σ:FState):fleave P E [.tmp t] a u [] .returning σ=.ret (a.get t) u σ:=rfl
theorem BD(P:Program)(E:Env)(t t':Tmp)(a:FAct)(u:Option FrameMode)(σ:FState):fleave P E [.tmp t,.tmp t'] a u [] .returning σ=.ret (.tuple #[a.get t,a.get t']) u σ:=rfl
theorem BF(P:Program)(E:Env)(t t' t'':Tmp)(a:FAct)(u:Option FrameMode)(σ:FState):fleave P E [.tmp t,.tmp t',.tmp t''] a u [] .returning σ=.ret (.tuple #[a.get t,a.get t',a.get t'']) u σ:=rfl
theorem Al2{X:FState→CRes}{σ σ1:FState}{r:CRes}{Q:Value→FState→Prop}(hr:X σ1=r)(h:∀σ',Ext σ σ'→Wf σ'→Gives (X σ') σ' Q)(hx:Ext σ σ1)(hw:Wf σ1):Gives r σ1 Q:=hr ▸ h σ1 hx hw
theorem Cc{c:FAct→Value}{x y:RunF}{a:FAct}{u:Option FrameMode}{σ:FState}:condR c x y a u σ=(match c a with
 | .bool b=>if b=true then x a u σ else y a u σ
 | _=>.no):=by
 unfold condR
 cases c a with
 | bool b=>cases b<;>rfl
 | _=>rfl
end Go.Eng
namespace Go.Eng
open Go
def blockK(id:Nat)(r:KRes):KRes:=match r with
 | .done (.exit id') a u σ=>cond (Nat.beq id' id) (.done .normal a u σ) (.done (.exit id') a u σ)
 | r=>r
section
variable (a:FAct) (u:Option FrameMode) (σ:FState)
theorem CP(id:Nat)(x:RunF):blockR id x a u σ=blockK id (x a u σ):=rfl
theorem AO(id:Nat):blockK id (.done .normal a u σ)=.done .normal a u σ:=rfl
theorem Bz(id:Nat):blockK id (.done .ret a u σ)=.done .ret a u σ:=rfl
theorem DW(id:Nat)(ch:List PanicEntry):blockK id (.done (.panic ch) a u σ)=.done (.panic ch) a u σ:=rfl
theorem Bf(id id':Nat):blockK id (.done (.exit id') a u σ)=if id'=id then .done .normal a u σ else .done (.exit id') a u σ:=by
 show cond (Nat.beq id' id) _ _=_
 by_cases h:id'=id
 ·rw[if_pos h,show Nat.beq id' id=true by rw[Nat.beq_eq];exact h];rfl
 ·rw[if_neg h,show Nat.beq id' id=false by rw[←Bool.not_eq_true,Nat.beq_eq];exact h];rfl
theorem CX(keep:List Nat)(x:RunF):loopR keep x a u σ=floop keep x bigFuel a u σ:=rfl
end
theorem Ed(a:FAct)(dst:Option Tmp)(v:Value):(a.put dst v).nl=a.nl:=by
 cases dst with
 | none=>rfl
 | some d=>
  show FAct.nl (Bool.rec (motive:=fun _=>FAct) a (a.putT d v) (Nat.blt d a.nt))=_
  cases Nat.blt d a.nt with
  | false=>rfl
  | true=>
   show FAct.nl (a.putT d v)=_
   unfold FAct.putT
   cases Nat.ble a.nl d<;>rfl
theorem Ha:∀ {ds ds':List D},D.sames ds ds'=true→ds.length=ds'.length
 | [],[],_=>rfl
 | _::ds,_::ds',h=>by
  have h':(D.same _ _&&D.sames ds ds')=true:=h
  rw[Bool.and_eq_true] at h'
  simp[Ha h'.2]
 | [],_::_,h=>by simp[D.sames] at h
 | _::_,[],h=>by simp[D.sames] at h
end Go.Eng
namespace Go.Eng
open Go
def xorI(a b:Int):Int:=IntKind.u64.wrap ((BitVec.ofInt 64 a ^^^ BitVec.ofInt 64 b).toNat)
theorem WS(n:Int):0≤IntKind.u64.wrap n∧IntKind.u64.wrap n<18446744073709551616:=by
 have h:IntKind.u64.wrap n=n % 18446744073709551616:=rfl
 rw[h]
 omega
theorem Al8{n:Int}(h:0≤n∧n<18446744073709551616):IntKind.u64.wrap n=n:=by
 have e:IntKind.u64.wrap n=n % 18446744073709551616:=rfl
 rw[e]
 omega
theorem Al7{n:Int}(h : -9223372036854775808≤n∧n≤9223372036854775807):IntKind.i64.wrap n=n:=by
 have e:IntKind.i64.wrap n=(if n % 18446744073709551616≥9223372036854775808 then n % 18446744073709551616-18446744073709551616 else n % 18446744073709551616):=by
  show (if (true&&decide (n % 18446744073709551616≥9223372036854775808))=true then _ else _)=_
  simp
  rfl
 rw[e]
 split<;>omega
theorem Oz(a b:Int):0≤xorI a b∧xorI a b<18446744073709551616:=WS _
section
variable (P:Program) (t:TypeId) (x y:Operand) (a b:Int) (σ:FState)
theorem DA:i_add P t x y (.int .u64 a) (.int .u64 b) σ=.val (.int .u64 (IntKind.u64.wrap (a+b))) σ:=by kernel_rfl
theorem DM:i_mul P t x y (.int .u64 a) (.int .u64 b) σ=.val (.int .u64 (IntKind.u64.wrap (a*b))) σ:=by kernel_rfl
theorem DT:fbin0 P .xor t x y (.int .u64 a) (.int .u64 b) σ=.val (.int .u64 (xorI a b)) σ:=by kernel_rfl
theorem Cj:fbin0 P .shr t x y (.int .u64 a) (.int .u64 32) σ=.val (.int .u64 (a.fdiv 4294967296)) σ:=by kernel_rfl
theorem Ci:fbin0 P .shr t x y (.int .u64 a) (.int .u64 27) σ=.val (.int .u64 (a.fdiv 134217728)) σ:=by kernel_rfl
theorem C9:fbin0 P .shr t x y (.int .u64 a) (.int .u64 9) σ=.val (.int .u64 (a.fdiv 512)) σ:=by kernel_rfl
theorem AoK(h:b≠0):fbin0 P .rem t x y (.int .u64 a) (.int .u64 b) σ=.val (.int .u64 (a.tmod b)) σ:=by
 unfold fbin0 orPure
 simp[eqGuard,binOp,flat,Op.intDiv,h]
 rfl
theorem A7(p:Addr):fnilCheck (.pointer (some p)) σ=.val (.pointer (some p)) σ:=rfl
end
theorem Dl(b off:Nat)(v:Value)(σ:FState)(hv:oneCell v=true):fstore 1 (.pointer (some ⟨b,off,none⟩)) v σ=
  (match σ.heap.get b with
   | some e=>(match e.obj,e.ro with
    | .cells c el,false=>if off<c.length then .skip (σ.put b (.cells (c.set off v) el) e.fz) else .no
    | _,_=>.no)
   | none=>.no):=by
 have hc:valCells v=[v]∧notTuple v=true:=by cases v<;>first|exact⟨rfl,rfl⟩|cases hv
 unfold fstore
 cases hg:σ.heap.get b with
 | none=>simp only[hg]
 | some e=>
  obtain⟨o,ro,fz,ver⟩:=e
  simp only[hg]
  cases o with
  | cells c el=>cases ro with
   | true=>rfl
   | false=>
    simp only[hc.1,hc.2]
    show cond (true&&Nat.beq (len [v]) 1&&[v].all oneCell) _ _=_
    have:(true&&Nat.beq (len [v]) 1&&[v].all oneCell)=true:=by
     simp[hv];rfl
    rw[this]
    simp only[cond_true,D6,List.length_singleton]
    by_cases h:off<c.length
    ·rw[if_pos (by omega),if_pos h]
     simp only[]
     congr 3
     rw[List.set_eq_take_append_cons_drop,if_pos h]
     simp
    ·rw[if_neg (by omega),if_neg h]
  | _=>cases ro<;>rfl
structure ExtC (x:Nat) (σ σ':FState):Prop where
 next:σ.next≤σ'.next
 clock:σ.clock≤σ'.clock
 get:∀b,b<σ.next→b≠x→σ'.heap.get b=σ.heap.get b
theorem ExtC.refl(x:Nat)(σ:FState):ExtC x σ σ:=⟨Nat.le_refl _,Nat.le_refl _,fun _ _ _=>rfl⟩
theorem ExtC.trans{x:Nat}{σ σ₁ σ₂:FState}(h:ExtC x σ σ₁)(k:ExtC x σ₁ σ₂):ExtC x σ σ₂:=
 ⟨Nat.le_trans h.next k.next,Nat.le_trans h.clock k.clock,fun b hb hx=>(k.get b (Nat.lt_of_lt_of_le hb h.next) hx).trans (h.get b hb hx)⟩
theorem ExtC.push{x:Nat}{σ σ₁:FState}(h:ExtC x σ σ₁)(o:FObj)(fz:Option Nat):ExtC x σ (σ₁.push o fz):=
 ⟨Nat.le_succ_of_le h.next,Nat.le_succ_of_le h.clock,fun b hb hx=>by
  rw[Ai,if_neg (by have:=h.next;omega)]
  exact h.get b hb hx⟩
theorem ExtC.put{x:Nat}{σ σ₁:FState}(h:ExtC x σ σ₁)(o:FObj)(fz:Option Nat):ExtC x σ (σ₁.put x o fz):=
 ⟨h.next,Nat.le_succ_of_le h.clock,fun b hb hx=>by
  rw[Am,if_neg hx]
  exact h.get b hb hx⟩
theorem ExtC.putNew{x:Nat}{σ σ₁:FState}(h:ExtC x σ σ₁)(c:Nat)(o:FObj)(fz:Option Nat)(hc:σ.next≤c):ExtC x σ (σ₁.put c o fz):=
 ⟨h.next,Nat.le_succ_of_le h.clock,fun b hb hx=>by
  rw[Am,if_neg (by omega)]
  exact h.get b hb hx⟩
theorem Ext.toC{σ σ':FState}(h:Ext σ σ')(x:Nat):ExtC x σ σ':=⟨h.next,h.clock,fun b hb _=>h.get b hb⟩
theorem ExtC.cells{x:Nat}{σ σ':FState}(h:ExtC x σ σ'){b:Nat}(hb:b<σ.next)(hx:b≠x):σ'.cells b=σ.cells b:=by
 rw[AG,AG,h.get b hb hx]
end Go.Eng
namespace Go.Eng
open Go
def upd(f:Nat→Value)(d:Nat)(v:Value):Nat→Value:=fun t=>if t=d then v else f t
theorem AsW(f:Nat→Value)(d:Nat)(v:Value)(t:Nat):upd f d v t=if t=d then v else f t:=rfl
def Sl(nl nt:Nat)(f g:Nat→Value)(ds:List Deferred):FAct:=⟨(List.range nl).map f,g,nl,nt,ds⟩
theorem Qu(nl nt:Nat)(f g:Nat→Value)(ds:List Deferred)(t:Nat):(Sl nl nt f g ds).get t=if t<nl then f t else g t:=by
 show Bool.rec (motive:=fun _=>Value) (Option.rec (motive:=fun _=>Value) undef (fun v=>v) (nth ((List.range nl).map f) t)) (g t) (Nat.ble nl t)=_
 rw[EB]
 by_cases h:t<nl
 ·have:Nat.ble nl t=false:=by rw[←Bool.not_eq_true,Nat.ble_eq];omega
  rw[this,if_pos h]
  simp[h]
 ·have:Nat.ble nl t=true:=by rw[Nat.ble_eq];omega
  rw[this,if_neg h]
theorem Ark(nl nt:Nat)(f g:Nat→Value)(ds:List Deferred)(d:Nat)(v:Value):(Sl nl nt f g ds).put (some d) v=
  if d<nt then (if d<nl then Sl nl nt (upd f d v) g ds else Sl nl nt f (upd g d v) ds) else Sl nl nt f g ds:=by
 show (Bool.rec (motive:=fun _=>FAct) (Sl nl nt f g ds) ((Sl nl nt f g ds).putT d v) (Nat.blt d nt))=_
 by_cases h:d<nt
 ·have:Nat.blt d nt=true:=by simpa [Nat.blt_eq] using h
  rw[this,if_pos h]
  show (Sl nl nt f g ds).putT d v=_
  unfold FAct.putT
  by_cases hl:d<nl
  ·have:Nat.ble nl d=false:=by rw[←Bool.not_eq_true,Nat.ble_eq];omega
   rw[if_pos hl]
   show Bool.rec (motive:=fun _=>FAct) (⟨setNth v ((List.range nl).map f) d,g,nl,nt,ds⟩:FAct) _ (Nat.ble nl d)=_
   rw[this,GF]
   show (⟨((List.range nl).map f).set d v,g,nl,nt,ds⟩:FAct)=⟨(List.range nl).map (upd f d v),g,nl,nt,ds⟩
   congr 1
   apply List.ext_getElem?
   intro i
   rw[List.getElem?_set]
   simp only[List.length_map,List.length_range,List.getElem?_map,upd]
   by_cases hi:d=i
   ·subst hi
    simp[hl,upd]
   ·rw[if_neg hi]
    by_cases hin:i<nl
    ·simp[hin,Ne.symm hi,upd]
    ·simp[hin]
  ·have:Nat.ble nl d=true:=by rw[Nat.ble_eq];omega
   rw[if_neg hl]
   show Bool.rec (motive:=fun _=>FAct) _ (⟨(List.range nl).map f,fun k=>Bool.rec (motive:=fun _=>Value) (g k) v (Nat.beq k d),nl,nt,ds⟩:FAct) (Nat.ble nl d)=_
   rw[this]
   show (⟨(List.range nl).map f,fun k=>Bool.rec (motive:=fun _=>Value) (g k) v (Nat.beq k d),nl,nt,ds⟩:FAct)=⟨(List.range nl).map f,upd g d v,nl,nt,ds⟩
   congr 1
   funext k
   unfold upd
   by_cases hk:k=d
   ·subst hk
    rw[if_pos rfl,show Nat.beq k k=true by rw[Nat.beq_eq]]
   ·rw[if_neg hk,show Nat.beq k d=false by rw[←Bool.not_eq_true,Nat.beq_eq];exact hk]
 ·have:Nat.blt d nt=false:=by rw[←Bool.not_eq_true,Nat.blt_eq];exact h
  rw[this,if_neg h]
theorem Aj(nl nt:Nat)(args:List Value)(ds:List Deferred):(⟨padTo undef nl args,fun _=>undef,nl,nt,ds⟩:FAct)=Sl nl nt (fun t=>args[t]?.getD undef) (fun _=>undef) ds:=by
 unfold Sl
 congr 1
 apply List.ext_getElem?
 intro i
 rw[Pu]
 by_cases h:i<nl<;>simp[h]
theorem O4(nl nt:Nat)(f g:Nat→Value)(ds:List Deferred):(Sl nl nt f g ds).defers=ds:=by simp[Sl]
theorem AsY(nl nt:Nat)(f g:Nat→Value)(ds:List Deferred):(Sl nl nt f g ds).nl=nl:=by simp[Sl]
def kept(keep:List Nat)(g:Nat→Value):Nat→Value:=fun t=>if t∈keep then g t else undef
theorem Fj(keep:List Nat)(g:Nat→Value)(t:Nat):kept keep g t=if t∈keep then g t else undef:=rfl
theorem BU(nl nt:Nat)(f g:Nat→Value)(ds:List Deferred)(keep:List Nat):(Sl nl nt f g ds).forget keep=Sl nl nt f (kept keep g) ds:=by
 have e:((Sl nl nt f g ds).forget keep).tmp=kept keep g:=by
  funext t
  rw[MP]
  rfl
 show (⟨(List.range nl).map f,((Sl nl nt f g ds).forget keep).tmp,nl,nt,ds⟩:FAct)=_
 rw[e]
 rfl
end Go.Eng
namespace Go.Eng
open Go
theorem AB{σ:FState}{x:Nat}{c:List Value}{t:TypeId}{ro:Bool}{fz:Option Nat}{ver:Nat}(h:σ.heap.get x=some ⟨.cells c t,ro,fz,ver⟩):σ.cells x=some c:=by
 rw[AG,h];rfl
end Go.Eng
namespace Go.Eng
open Go
theorem AnG(place:Nat→Option (Nat×Nat))(c:List Value):lay place [] c=some c:=rfl
theorem Afg(place:Nat→Option (Nat×Nat))(i:Nat)(v:Value)(ps:List (Nat×Value))(c:List Value):lay place ((i,v)::ps) c=
  (match place i with
   | some q=>if notTuple v=true∧(valCells v).length=q.2 then (if q.1+(valCells v).length≤c.length then lay place ps (c.take q.1++valCells v++c.drop (q.1+(valCells v).length)) else none) else none
   | none=>none):=by
 show (match place i with
   | some (off,size)=>cond (notTuple v&&Nat.beq (len (valCells v)) size) (match spliceN off (valCells v) c with|some c'=>lay place ps c'|none=>none) none
   | none=>none)=_
 cases place i with
 | none=>rfl
 | some q=>
  obtain⟨off,size⟩:=q
  simp only[]
  rw[EA,D6]
  by_cases h:notTuple v=true∧(valCells v).length=size
  ·rw[if_pos h,show (notTuple v&&Nat.beq (valCells v).length size)=true by rw[h.1,show Nat.beq (valCells v).length size=true by rw[Nat.beq_eq];exact h.2];rfl]
   by_cases hl:off+(valCells v).length≤c.length
   ·rw[if_pos hl,if_pos hl];rfl
   ·rw[if_neg hl,if_neg hl];rfl
  ·rw[if_neg h]
   have:(notTuple v&&Nat.beq (valCells v).length size)=false:=by
    rw[←Bool.not_eq_true]
    intro hh
    rw[Bool.and_eq_true,Nat.beq_eq] at hh
    exact h hh
   rw[this];rfl
theorem AbA(place:Nat→Option (Nat×Nat))(z:List Value)(ps:List (Nat×Value))(σ:FState):fbuild place z ps σ=(match lay place ps z with|some c=>.val (.agg c.toArray) σ|none=>.no):=by
 unfold fbuild
 cases lay place ps z<;>rfl
theorem MK(e n s:Nat)(z:List Value)(ps:List (Nat×Value))(σ:FState):fbuildSlice e n s z ps σ=(match lay (fun i=>some (i*s,s)) ps (reps n z) with|some c=>.val (.slice (some ⟨σ.next,0,none⟩) n n) (σ.push (.cells c e) none)|none=>.no):=by
 unfold fbuildSlice
 cases lay (fun i=>some (i*s,s)) ps (reps n z)<;>rfl
theorem Qo{α:Type}(z:List α):reps 0 z=[]:=rfl
theorem Qn{α:Type}(n:Nat)(z:List α):reps (n+1) z=z++reps n z:=rfl
theorem Aw(n b off:Nat)(v:Value)(σ:FState):fstore n (.pointer (some ⟨b,off,none⟩)) v σ=
  (match σ.heap.get b with
   | some e=>(match e.obj,e.ro with
    | .cells c el,false=>if notTuple v=true∧(valCells v).length=n∧(valCells v).all oneCell=true then
      (if off+(valCells v).length≤c.length then .skip (σ.put b (.cells (c.take off++valCells v++c.drop (off+(valCells v).length)) el) e.fz) else .no) else .no
    | _,_=>.no)
   | none=>.no):=by
 unfold fstore
 cases hg:σ.heap.get b with
 | none=>simp only[hg]
 | some e=>
  obtain⟨o,ro,fz,ver⟩:=e
  simp only[hg]
  cases o with
  | cells c el=>cases ro with
   | true=>rfl
   | false=>
    simp only[EA,D6]
    by_cases h:notTuple v=true∧(valCells v).length=n∧(valCells v).all oneCell=true
    ·rw[if_pos h,show (notTuple v&&Nat.beq (valCells v).length n&&(valCells v).all oneCell)=true by rw[h.1,h.2.2,show Nat.beq (valCells v).length n=true by rw[Nat.beq_eq];exact h.2.1];rfl]
     by_cases hl:off+(valCells v).length≤c.length
     ·rw[if_pos hl,if_pos hl];rfl
     ·rw[if_neg hl,if_neg hl];rfl
    ·rw[if_neg h]
     have:(notTuple v&&Nat.beq (valCells v).length n&&(valCells v).all oneCell)=false:=by
      rw[←Bool.not_eq_true]
      intro hh
      rw[Bool.and_eq_true,Bool.and_eq_true,Nat.beq_eq] at hh
      exact h ⟨hh.1.1,hh.1.2,hh.2⟩
     rw[this];rfl
  | _=>cases ro<;>rfl
theorem Xx(P:Program)(E:Env)(c:Tmp)(t:TypeId)(a:FAct)(u:Option FrameMode)(σ:FState):fleave P E [.cell c t] a u [] .returning σ=
  (match aggSize P t with
   | some sz=>(match fload sz (a.get c) σ with
    | .val v _=>.ret v u σ
    | _=>.no)
   | none=>.no):=by
 rw[Bj]
 show (match (match fresult P (.cell c t) a σ,some [] with|some v,some vs=>some (v::vs)|_,_=>none) with|some [v]=>CRes.ret v u σ|some vs=>_|none=>_)=_
 unfold fresult
 simp only[]
 cases h:aggSize P t with
 | none=>simp only[]
 | some sz=>
  simp only[]
  cases h2:fload sz (a.get c) σ<;>simp only[]
end Go.Eng
namespace Go.Eng
open Go
theorem Ah{a a':FAct}{σ σ':FState}(E:Env)(ro:Option Nat)(l:List COp)(u:Option FrameMode)(h:a=a')(k:σ=σ'):fops E ro l a u σ=fops E ro l a' u σ':=by rw[h,k]
theorem Af{a a':FAct}{σ σ':FState}{cl cl':List Nat}(E:Env)(ro:Option Nat)(last:List Nat→RunF)(l:List DOp)(u:Option FrameMode)(h0:cl=cl')(h:a=a')(k:σ=σ'):fdraw E ro last l cl a u σ=fdraw E ro last l cl' a' u σ':=by rw[h0,h,k]
theorem Ad{a a':FAct}{r r':ORes}(E:Env)(ro:Option Nat)(dst:Option Tmp)(u:Option FrameMode)(k:RunF)(h:a=a')(h2:r=r'):afterOp E ro dst a u k r=afterOp E ro dst a' u k r':=by rw[h,h2]
theorem Ae{a a':FAct}{r r':ORes}{σ σ':FState}(dst:Option Tmp)(u:Option FrameMode)(k:RunF)(h:a=a')(h1:σ=σ')(h2:r=r'):drawF dst a u σ k r=drawF dst a' u σ' k r':=by rw[h,h1,h2]
end Go.Eng
namespace Go.Eng
open Go
mutual
theorem Laid.extC{x:Nat}{c3:List Value}{σ σ':FState}(hw:Wf σ)(hx:σ.cells x=some c3)(h3:c3.length<4)(h:ExtC x σ σ'):∀ {v:Value} {d:D},Laid σ v d→Laid σ' v d
 | _,.mk _ _ _ _,⟨p,c,hv,he⟩=>⟨p,c,hv,LaidE.extC hw hx h3 h he⟩
theorem LaidE.extC{x:Nat}{c3:List Value}{σ σ':FState}(hw:Wf σ)(hx:σ.cells x=some c3)(h3:c3.length<4)(h:ExtC x σ σ'):∀ {p:Option Addr} {i:Nat} {ds:List D},LaidE σ p i ds→LaidE σ' p i ds
 | _,_,[],_=>trivial
 | _,_,_::_,⟨⟨b,off,cs,hp,hc,hl,hd⟩,hr⟩=>
  have hb:b≠x:=fun hb=>by
   rw[hb,hx] at hc
   cases hc
   omega
  ⟨⟨b,off,cs,hp,(h.cells (hw.cells hc) hb).trans hc,hl,Laid.extC hw hx h3 h hd⟩,LaidE.extC hw hx h3 h hr⟩
end
end Go.Eng
namespace Go.Eng
open Go
mutual
def LaidR(R:Nat→Prop)(σ:FState):Value→D→Prop
 | v,.mk k n t ds=>∃p c,v=.agg #[.int .i64 k,.int .i64 n,.string t,.slice p ds.length c]∧LaidRE R σ p 0 ds
def LaidRE(R:Nat→Prop)(σ:FState):Option Addr→Nat→List D→Prop
 | _,_,[]=>True
 | p,i,d::ds=>(∃b off cs,p=some ⟨b,off,none⟩∧R b∧σ.cells b=some cs∧4≤cs.length-(off+i*4)∧LaidR R σ (.agg ((cs.drop (off+i*4)).take 4).toArray) d)∧LaidRE R σ p (i+1) ds
end
mutual
theorem LaidR.laid{R:Nat→Prop}{σ:FState}:∀ {v:Value} {d:D},LaidR R σ v d→Laid σ v d
 | _,.mk _ _ _ _,⟨p,c,hv,he⟩=>⟨p,c,hv,LaidRE.laid he⟩
theorem LaidRE.laid{R:Nat→Prop}{σ:FState}:∀ {p:Option Addr} {i:Nat} {ds:List D},LaidRE R σ p i ds→LaidE σ p i ds
 | _,_,[],_=>trivial
 | _,_,_::_,⟨⟨b,off,cs,hp,_,hc,hl,hd⟩,hr⟩=>⟨⟨b,off,cs,hp,hc,hl,LaidR.laid hd⟩,LaidRE.laid hr⟩
end
mutual
theorem LaidR.keep{R R':Nat→Prop}{σ σ':FState}(h:∀b cs,R b→σ.cells b=some cs→σ'.cells b=some cs∧R' b):∀ {v:Value} {d:D},LaidR R σ v d→LaidR R' σ' v d
 | _,.mk _ _ _ _,⟨p,c,hv,he⟩=>⟨p,c,hv,LaidRE.keep h he⟩
theorem LaidRE.keep{R R':Nat→Prop}{σ σ':FState}(h:∀b cs,R b→σ.cells b=some cs→σ'.cells b=some cs∧R' b):∀ {p:Option Addr} {i:Nat} {ds:List D},LaidRE R σ p i ds→LaidRE R' σ' p i ds
 | _,_,[],_=>trivial
 | _,_,_::_,⟨⟨b,off,cs,hp,hR,hc,hl,hd⟩,hr⟩=>⟨⟨b,off,cs,hp,(h b cs hR hc).2,(h b cs hR hc).1,hl,LaidR.keep h hd⟩,LaidRE.keep h hr⟩
end
def New(σ σ':FState)(b:Nat):Prop:=σ.next≤b∧b<σ'.next
def Row(R:Nat→Prop)(σ:FState)(cs:List Value)(ds:List D):Prop:=cs.length=ds.length*4∧cs.all oneCell=true∧∀(i:Nat) (d:D),ds[i]? = some d→LaidR R σ (.agg ((cs.drop (i*4)).take 4).toArray) d
theorem Row.nil(R:Nat→Prop)(σ:FState):Row R σ [] []:=⟨rfl,rfl,fun i d h=>by simp at h⟩
theorem Row.keep{R R':Nat→Prop}{σ σ':FState}(h:∀b cs,R b→σ.cells b=some cs→σ'.cells b=some cs∧R' b){cs:List Value}{ds:List D}(hr:Row R σ cs ds):Row R' σ' cs ds:=⟨hr.1,hr.2.1,fun i d hd=>(hr.2.2 i d hd).keep h⟩
theorem LaidR.agg{R:Nat→Prop}{σ:FState}{v:Value}{d:D}(h:LaidR R σ v d):∃l:List Value,v=.agg l.toArray∧l.length=4∧l.all oneCell=true:=by
 obtain⟨k,n,t,ds⟩:=d
 obtain⟨p,c,rfl,_⟩:=h
 exact⟨_,rfl,rfl,rfl⟩
theorem Row.snoc{R:Nat→Prop}{σ:FState}{cs l:List Value}{ds:List D}{d:D}(hr:Row R σ cs ds)(hl:l.length=4)(ho:l.all oneCell=true)(hd:LaidR R σ (.agg l.toArray) d):Row R σ (cs++l) (ds++[d]):=by
 refine⟨by simp[hr.1,hl];omega,by simp[hr.2.1,ho],fun i e he=>?_⟩
 by_cases hi:i<ds.length
 ·rw[List.getElem?_append_left hi] at he
  have:=hr.2.2 i e he
  rwa [List.drop_append_of_le_length (by rw[hr.1];omega),List.take_append_of_le_length (by rw[List.length_drop,hr.1];omega)]
 ·rw[List.getElem?_append_right (by omega)] at he
  obtain rfl:i=ds.length:=by
   have:i-ds.length<1:=(List.getElem?_eq_some_iff.1 he).1
   omega
  simp at he
  subst he
  rw[←hr.1,List.drop_left,List.take_of_length_le (by omega)]
  exact hd
theorem Row.elems{R R':Nat→Prop}{σ:FState}{cs:List Value}{ds:List D}(hr:Row R σ cs ds){b:Nat}(hb:σ.cells b=some cs)(hR:R' b)(hRR:∀c,R c→R' c):∀(i:Nat) (es:List D),(∀j e,es[j]? = some e→ds[i+j]? = some e)→LaidRE R' σ (some ⟨b,0,none⟩) i es
 | _,[],_=>trivial
 | i,e::es,h=>by
  have h0:=h 0 e rfl
  have hlt:i+0<ds.length:=(List.getElem?_eq_some_iff.1 h0).1
  refine⟨⟨b,0,cs,rfl,hR,hb,by rw[hr.1];omega,?_⟩,Row.elems hr hb hR hRR (i+1) es fun j e' hj=>?_⟩
  ·have:=hr.2.2 i e h0
   rw[Nat.zero_add]
   exact this.keep fun c cs hc h=>⟨h,hRR c hc⟩
  ·have:=h (j+1) e' (by simpa using hj)
   rwa [show i+1+j=i+(j+1) by omega]
theorem Ew(σ:FState)(b off n:Nat):loadAll σ b off n=(match σ.cells b with|some c=>if n≤c.length-off then some ((c.drop off).take n) else none|none=>none):=by
 unfold loadAll
 cases σ.cells b with
 | none=>rfl
 | some c=>simp only[Ho,HJ,List.length_drop]
theorem Jm(e size bytes bx cx:Nat)(new:List Value)(σ:FState)(hx:σ.cells bx=some new)(hs:new.length=size)(ho:new.all oneCell=true)(hb:bytes<1000):
  fappend e size bytes (.slice none 0 0) (.slice (some ⟨bx,0,none⟩) 1 cx) σ=.val (.slice (some ⟨σ.next,0,none⟩) 1 1) (σ.push (.cells new e) (some size)):=by
 unfold fappend fnew
 simp only[Ew,hx,List.drop_zero,Nat.one_mul,Nat.sub_zero,hs,Nat.le_refl,if_true]
 rw[show new.take size=new from List.take_of_length_le (by omega),ho]
 show fappend2 e size bytes 0 0 none 1 new σ=_
 unfold fappend2
 rw[show Nat.ble (0+1) 0=false from rfl,show Nat.ble ((0+1)*(bytes+1)) 1000000000=true by rw[Nat.ble_eq];omega]
 rfl
theorem K1(e size bytes b bx cx len ver:Nat)(old new:List Value)(σ:FState)(hb:σ.heap.get b=some ⟨.cells old e,false,some size,ver⟩)(hx:σ.cells bx=some new)(hs:new.length=size)(ho:new.all oneCell=true)(hold:old.length=len*size)(hby:bytes<1000)(hlen:len<1000):
  fappend e size bytes (.slice (some ⟨b,0,none⟩) len len) (.slice (some ⟨bx,0,none⟩) 1 cx) σ=.val (.slice (some ⟨(σ.put b (.defd false) none).next,0,none⟩) (len+1) (len+1)) ((σ.put b (.defd false) none).push (.cells (old++new) e) (some size)):=by
 have hc:=AB hb
 unfold fappend fnew
 simp only[Ew,hx,List.drop_zero,Nat.one_mul,Nat.sub_zero,hs,Nat.le_refl,if_true]
 rw[show new.take size=new from List.take_of_length_le (by omega),ho]
 show fappend2 e size bytes len len (some ⟨b,0,none⟩) 1 new σ=_
 unfold fappend2
 have hm:(len+1)*(bytes+1)≤1000*1000:=Nat.mul_le_mul (by omega) (by omega)
 rw[show Nat.ble (len+1) len=false by rw[←Bool.not_eq_true,Nat.ble_eq];omega,show Nat.ble ((len+1)*(bytes+1)) 1000000000=true by rw[Nat.ble_eq];omega]
 show fappendGrow e size len len (some ⟨b,0,none⟩) 1 new σ=_
 unfold fappendGrow
 simp only[Ew,hc,hb,List.drop_zero,Nat.sub_zero,hold,Nat.le_refl,if_true]
 rw[show Nat.beq len len=true by rw[Nat.beq_eq],show Nat.beq size size=true by rw[Nat.beq_eq],List.take_of_length_le (by omega)]
 rfl
end Go.Eng
namespace Go.Eng
open Go
section
variable (P:Program) (E:Env) (rs:List ResultVar) (a:FAct) (u:Option FrameMode) (σ:FState)
theorem U0(g:FuncId)(first cap:Array Value)(args:List Value):fcallV (.func (.func g) first cap) args σ=.enter g (first.toList++args++cap.toList) σ:=rfl
theorem U2(g:FuncId)(first cap:Array Value)(args:List Value):fdefer (.func (.func g) first cap) args σ=.defer { target:=.fn (.func g) cap,args:=(first.toList++args).toArray } σ:=rfl
theorem Un(nl nt:Nat)(f g:Nat→Value)(ds:List Deferred)(d:Deferred)(k:RunF):afterOp E none none (Sl nl nt f g ds) u k (.defer d σ)=k (Sl nl nt f g (d::ds)) u σ:=rfl
theorem OB(dst:Option Tmp)(k:RunF):afterOp E none dst a (some .returning) k (.recover σ)=k (a.put dst .nilIface) (some .returning) σ:=rfl
theorem AbI(f:FuncId)(cap args:Array Value)(ds:List Deferred):fleave P E rs a u ({ target:=.fn (.func f) cap,args:=args }::ds) .returning σ=
  (match E.call f (args.toList++cap.toList) (some .returning) σ with
   | .ret _ (some md') σ=>fleave P E rs a u ds (unrecovered md') σ
   | .pan ch (some md') σ=>fleave P E rs a u ds (raised md' ch) σ
   | _=>.no):=rfl
theorem Hk:unrecovered .returning=.returning:=rfl
theorem AX:fresults P [] a σ=some []:=rfl
theorem AP(r:ResultVar):fresults P (r::rs) a σ=(match fresult P r a σ,fresults P rs a σ with|some v,some vs=>some (v::vs)|_,_=>none):=rfl
theorem DZ(t:Tmp):fresult P (.tmp t) a σ=some (a.get t):=rfl
theorem A0(c:Tmp)(t:TypeId):fresult P (.cell c t) a σ=(match aggSize P t with
  | some sz=>(match fload sz (a.get c) σ with
   | .val v _=>some v
   | _=>none)
  | none=>none):=rfl
theorem Xy:fleave P E [] a u [] .returning σ=.ret (.tuple #[]) u σ:=rfl
theorem U3(i:Nat)(l:List Value):fextract i (.tuple l.toArray) σ=(match l[i]? with|some x=>.val x σ|none=>.no):=by
 unfold fextract
 simp only[List.getElem?_toArray]
 cases l[i]?<;>rfl
end
end Go.Eng
namespace Go.Eng
open Go
theorem AbN(P:Program)(t e size b off ln cap h:Nat)(σ:FState)(hu:under P t=some (.slice e))(hs:sizeOfT P e=some size)(hh:h≤cap)(c:List Value)(el:TypeId)(ro:Bool)(fz:Option Nat)(ver:Nat)(hb:σ.heap.get b=some ⟨.cells c el,ro,fz,ver⟩)(hfz:fz=none∨fz=some size):
  fslice P t (.slice (some ⟨b,off,none⟩) ln cap) none (some (.int .i64 (.ofNat h))) none σ=.val (.slice (some ⟨b,off,none⟩) h cap) σ:=by
 have hc:capOk size none b σ=true:=by
  unfold capOk
  simp only[hb]
  rcases hfz with rfl|rfl
  ·rfl
  ·show Nat.beq size size=true
   rw[Nat.beq_eq]
 have hbd:bounds3 ln cap none (some (.int .i64 (.ofNat h))) none=some (0,h,cap):=by
  show (match hiOf ln cap (some (.int .i64 (.ofNat h))) none with|none=>none|some h=>(match loOf h none with|none=>none|some l=>some (l,h,cap)))=_
  have:hiOf ln cap (some (.int .i64 (.ofNat h))) none=some h:=by
   show cond (Nat.ble h cap) (some h) none=some h
   rw[show Nat.ble h cap=true by rw[Nat.ble_eq];exact hh]
   rfl
  rw[this]
  rfl
 unfold fslice
 simp only[hu,hs]
 unfold fsliceL
 simp only[hbd,hc]
 show ORes.val (.slice (some ⟨b,off+0*size,none⟩) (h-0) (cap-0)) σ=_
 simp
theorem Vk(P:Program)(t e size b off ln cap h:Nat)(σ:FState)(hu:under P t=some (.slice e))(hs:sizeOfT P e=some size)(hh:h≤cap):
  fslice P t (.slice (some ⟨b,off,none⟩) ln cap) none (some (.int .i64 (.ofNat h))) (some (.int .i64 (.ofNat h))) σ=.val (.slice (some ⟨b,off,none⟩) h h) σ:=by
 have hbd:bounds3 ln cap none (some (.int .i64 (.ofNat h))) (some (.int .i64 (.ofNat h)))=some (0,h,h):=by
  have h1:mxOf cap (some (.int .i64 (.ofNat h)))=some h:=by
   show cond (Nat.ble h cap) (some h) none=some h
   rw[show Nat.ble h cap=true by rw[Nat.ble_eq];exact hh]
   rfl
  have h2:hiOf ln h (some (.int .i64 (.ofNat h))) (some (.int .i64 (.ofNat h)))=some h:=by
   show cond (Nat.ble h h) (some h) none=some h
   rw[show Nat.ble h h=true by rw[Nat.ble_eq];exact Nat.le_refl _]
   rfl
  unfold bounds3
  rw[h1]
  simp only[h2]
  rfl
 unfold fslice
 simp only[hu,hs]
 unfold fsliceL
 simp only[hbd]
 show ORes.val (.slice (some ⟨b,off+0*size,none⟩) (h-0) (h-0)) σ=_
 simp
theorem Qy(e bytes b bx cx len cap ver:Nat)(fz:Option Nat)(el:TypeId)(c:List Value)(v:Value)(σ:FState)(hb:σ.heap.get b=some ⟨.cells c el,false,fz,ver⟩)(hx:σ.cells bx=some [v])(ho:oneCell v=true)(hlt:len<cap)(hc:cap≤c.length):
  fappend e 1 bytes (.slice (some ⟨b,0,none⟩) len cap) (.slice (some ⟨bx,0,none⟩) 1 cx) σ=.val (.slice (some ⟨b,0,none⟩) (len+1) cap) (σ.put b (.cells (c.set len v) el) fz):=by
 unfold fappend fnew
 simp only[Ew,hx,List.drop_zero,Nat.one_mul,Nat.sub_zero,List.length_singleton,Nat.le_refl,if_true]
 show cond ([v].all oneCell) (fappend2 e 1 bytes len cap (some ⟨b,0,none⟩) 1 [v] σ) .no=_
 rw[show [v].all oneCell=true by simp[ho]]
 show fappend2 e 1 bytes len cap (some ⟨b,0,none⟩) 1 [v] σ=_
 unfold fappend2
 rw[show Nat.ble (len+1) cap=true by rw[Nat.ble_eq];omega]
 show fappendRoom 1 len cap (some ⟨b,0,none⟩) 1 [v] σ=_
 unfold fappendRoom
 simp only[hb,D6,List.length_singleton,Nat.mul_one,Nat.zero_add]
 rw[if_pos (by omega)]
 simp only[]
 congr 3
 rw[List.set_eq_take_append_cons_drop,if_pos (by omega)]
 simp
theorem Qx(e bytes b bx cx len ver:Nat)(fz:Option Nat)(old:List Value)(v:Value)(σ:FState)(hb:σ.heap.get b=some ⟨.cells old e,false,fz,ver⟩)(hfz:fz=none∨fz=some 1)(hx:σ.cells bx=some [v])(ho:oneCell v=true)(hl:old.length=len)(hby:bytes<1000)(hlen:len<100000):
  ∃τ,fappend e 1 bytes (.slice (some ⟨b,0,none⟩) len len) (.slice (some ⟨bx,0,none⟩) 1 cx) σ=.val (.slice (some ⟨σ.next,0,none⟩) (len+1) (len+1)) τ∧(τ=σ.push (.cells (old++[v]) e) (some 1)∨τ=(σ.put b (.defd false) none).push (.cells (old++[v]) e) (some 1)):=by
 have hc:=AB hb
 unfold fappend fnew
 simp only[Ew,hx,List.drop_zero,Nat.one_mul,Nat.sub_zero,List.length_singleton,Nat.le_refl,if_true]
 have h1:(List.take 1 [v]).all oneCell=true:=by simp[ho]
 rw[h1]
 show ∃τ,fappend2 e 1 bytes len len (some ⟨b,0,none⟩) 1 [v] σ=_∧_
 have hm:(len+1)*(bytes+1)≤100000*1000:=Nat.mul_le_mul (by omega) (by omega)
 unfold fappend2
 rw[show Nat.ble (len+1) len=false by rw[←Bool.not_eq_true,Nat.ble_eq];omega,show Nat.ble ((len+1)*(bytes+1)) 1000000000=true by rw[Nat.ble_eq];omega]
 show ∃τ,fappendGrow e 1 len len (some ⟨b,0,none⟩) 1 [v] σ=_∧_
 unfold fappendGrow
 simp only[Ew,hc,hb,List.drop_zero,Nat.sub_zero,Nat.mul_one,hl,Nat.le_refl,if_true]
 rw[List.take_of_length_le (by omega)]
 rcases hfz with rfl|rfl
 ·exact⟨_,rfl,.inl rfl⟩
 ·rw[show Nat.beq len len=true by rw[Nat.beq_eq]]
  exact⟨_,rfl,.inr rfl⟩
attribute [go_sem_proc ↓] reduceIte
attribute [go_sem] List.getElem?_cons_zero List.getElem?_cons_succ Option.getD_some
attribute [go_sem_proc] Nat.reduceLT Nat.reduceEqDiff Nat.reduceAdd Nat.reduceMul Nat.reduceLeDiff Nat.reduceSub
attribute [go_sem] DR  Ea  CU  DE  DD  BB  CQ  DQ  Ag  CR  Cb  Bw  Be  Ca  Aq  AV  AL  C0          CZ  CY  Cd  BA  Ck  AZ  Cm  Aa  Bd  Ap  Bh  D7  Bg  A8  A9  AC  AR  AA  Ay  Ba  Bb  AF  AU  AK  Az  Ce  D9  D_  Ac  Al  cells?_cells  DG  CW  DF  CV  DB  DN  DK  DJ  DI  DH  Dz  DS  DL  DC  DP  Eb  CS  CT  Nat.add_zero  Nat.zero_add  Nat.add_left_cancel_iff  Nat.add_eq_left  Nat.left_eq_add  List.getElem?_cons_zero  List.getElem?_cons_succ  beq_self_eq_true  Bool.not_true  Bool.not_false  cond_true  cond_false  BC  AQ  Cg  BD  BF  Cc  Bool.false_eq_true  CP  AO  Bz  Bf  CX  Cf  List.not_mem_nil  or_false  or_true  List.cons_append  List.nil_append  DA  DM  DT  Cj  Ci  C9  A7  Dl  Ai  Am  List.set_cons_zero  List.set_cons_succ  List.length_cons  List.length_nil  AY  AJ  A_  Au  AE  U0  U2  List.toList_toArray  Un  OB  AbI  Hk  Xy  U3  Nat.add_assoc  AnG  Afg  AbA  MK  Qo  Qn  Xx  List.take_zero  List.take_succ_cons  List.drop_zero  List.drop_succ_cons  List.drop_nil  List.take_nil  List.append_nil  Nat.zero_mul  Nat.one_mul      and_self  true_and    Nat.sub_zero  List.all_cons  List.all_nil  Bool.and_self  Bool.and_true  Nat.mul_one  Qu  Ark  O4  AsY  BU  AsW  Fj
end Go.Eng
namespace Go.Proofs.YtokieofohmgjdaaGreatDoor
section
open Go Go.Eng
def nls:Hints:=[(0,[]),(0,[]),(0,[]),(18,[108]),(24,[137]),(31,[55,56,57,58,59,60,61,62,63,64,65,66,67,68,69,70,71,72,73,74,75,76,77,78,79,80,81,82,83,84,85,86,87,88,89,90,91,92,93,94,95,96,97,98,99,100,101,102,103,104,105,106,107,108,109,110,111,112,113,114,115,116,117,118,119,120,121,122,123,124,125,126,127,128,129,130,131,132,133,134,135,136,137,138,139,140,141,142,143,144,145,146,147,148,149,150,151,152,153,154,155,156,157,158,159,160,161,162,163,164,165,166,167,168,169,170,171,172,173,174,175,176,177,178,179,180,181,182,183,184,185,186,187,188,189,190,191,192,193,194,195,196,197,198,199,200,201,202,203,204,205,206,207,208,209,210,211,212,213,214,215,216,217,218,219]),(33,[219]),(23,[124]),(13,[]),(2,[]),(20,[]),(7,[61,62,63,64,65,66,67,68,69,70]),(2,[]),(5,[30]),(6,[]),(8,[]),(2,[]),(5,[]),(5,[]),(4,[]),(6,[]),(4,[]),(7,[32]),(11,[]),(6,[]),(4,[]),(7,[]),(4,[]),(9,[]),(6,[]),(7,[21]),(5,[19]),(2,[]),(7,[]),(2,[]),(6,[21,22,23,24,25,26]),(6,[]),(4,[]),(9,[]),(2,[]),(9,[37]),(7,[32]),(2,[]),(4,[]),(9,[]),(6,[]),(4,[]),(7,[]),(6,[]),(6,[]),(10,[]),(15,[]),(7,[30]),(4,[]),(0,[]),(2,[]),(2,[]),(0,[]),(2,[]),(2,[]),(2,[]),(4,[]),(2,[]),(2,[]),(4,[]),(2,[]),(4,[]),(6,[]),(4,[]),(7,[]),(3,[]),(6,[]),(5,[]),(9,[31,32,33]),(7,[]),(1,[]),(8,[]),(2,[]),(5,[28]),(7,[]),(1,[]),(6,[]),(2,[]),(6,[]),(5,[]),(9,[52]),(4,[]),(2,[]),(6,[]),(7,[68,69,70,71,72,73,74,75,76,77,78,79,80,81,82]),(7,[]),(2,[]),(12,[]),(9,[]),(7,[]),(1,[]),(2,[]),(5,[]),(5,[19,20]),(7,[]),(5,[5,6,7,17,19,20,21,22]),(2,[]),(7,[]),(6,[]),(2,[]),(3,[]),(4,[]),(6,[]),(2,[]),(7,[7,8,9,32]),(9,[]),(7,[]),(2,[]),(8,[]),(10,[37]),(7,[]),(4,[]),(9,[40]),(5,[19]),(5,[]),(6,[]),(4,[]),(5,[]),(2,[]),(5,[]),(3,[]),(7,[]),(2,[]),(8,[74]),(5,[]),(6,[]),(7,[]),(4,[]),(5,[]),(4,[]),(2,[]),(2,[]),(4,[]),(5,[]),(7,[14,15,28]),(4,[]),(5,[]),(2,[]),(5,[]),(4,[]),(4,[]),(4,[]),(6,[]),(4,[]),(8,[]),(4,[]),(4,[]),(2,[]),(1,[]),(6,[]),(19,[]),(2,[]),(6,[]),(5,[]),(4,[]),(2,[]),(6,[]),(4,[]),(6,[]),(6,[]),(4,[]),(6,[]),(2,[]),(10,[15,16,17]),(8,[]),(4,[13,14]),(5,[6]),(8,[13,14]),(11,[27,28,29,30,31,32,33,34,35,36,37,38,39,40,41,42,43,44,45,46,47,48,49,50,51,52,53,54]),(11,[]),(13,[]),(8,[]),(11,[15,16,35,36,37,38,39,40,41,42,43,44,45,46,47,48,49,50,51,52,53,54,55,56,57,58,59,60,61,62,63,64,65,66,67,68,69,70,71,72,73,74,75,76,77,78,79,80,81,82,83,84,85,86,87,88,89,90,91,92,93,94,95,96,97,98,99,100,101,102,103,104,105,106,107,108,109,110,111,112,113,114,115,116,117,118,119,120,121,122,123,124,125,126,127,128,129,130,131,132]),(4,[]),(11,[46,47,48,49,50,51,52,53,54,55,56,57,58,59,60,61,62,63,64,65,66,67,68,69,70,71,72,73,74,75,76,77,78,79,80,81,82,83]),(12,[46,47,48,49,50,51,52,53,54,55,56,57,58,59,60,61,62,63,64,65,66,67,68,69,70,71,72,73,74,75,76,77,78,79,80,81,82,83,84,85,86,87,88,89,90,91,92,93,94,95,96,97,98,99,100,101,102,103,104,105,106,107,108,109,110,111,112,113,114,115,116,117,118,119,120,121,122,123,124,125,126,127,128,129,130,131,132,133,134,135,136,137,138,139,140,141,142,143,144,145,146,147,148,149,150,151,152,153,154,155,156,157,158,159,160,161,162,163,164,165,166,167]),(3,[]),(3,[]),(2,[]),(1,[]),(1,[]),(1,[]),(16,[48,49,50]),(2,[]),(10,[]),(2,[]),(2,[]),(6,[]),(10,[]),(2,[]),(1,[]),(1,[]),(2,[]),(4,[]),(8,[]),(17,[17,18,19,20,21,22,23,24,25,26,27,28,29,30,31,32,33,34,35,36,37,38,39,40,41,42,43,44,45,46,47,48,49,50,51,52,53,54,55,56,57,58,59,60,61,62,63,64,65,66,67,68,69,70,71,72,73,74,75,76,77,78,79,80,81,82,83,84,85,86,87,88,89,90,91,92,93,94,95,96,97,98,99,100,101,102,103,104,105,106,107,108,109,110,111,112,113,114,115,116,117,118,119,120,121,122,123,124,125,126,127,128,129,130,131,132,133,134,135,136,137,138,139,140,141,142,143,144,145,146,147,148,149,150,151,152,153,154,155,156,157,158,159,175]),(4,[]),(2,[]),(2,[]),(2,[]),(4,[]),(2,[]),(1,[]),(1,[]),(1,[]),(1,[]),(1,[]),(1,[]),(1,[]),(1,[]),(1,[]),(1,[]),(1,[]),(1,[]),(1,[]),(1,[]),(1,[]),(1,[]),(1,[]),(1,[]),(2,[]),(4,[]),(4,[]),(4,[]),(2,[]),(1,[]),(2,[]),(4,[]),(2,[]),(4,[]),(2,[]),(4,[]),(11,[11,12,13,34,35,36,37,38]),(1,[]),(1,[]),(1,[]),(1,[]),(2,[]),(1,[]),(1,[]),(2,[]),(1,[]),(1,[]),(1,[]),(1,[]),(1,[]),(1,[]),(1,[]),(0,[]),(0,[]),(0,[]),(0,[])]
def sums:Sums:=fun f args σ=>
 cond (Nat.beq f 169) (match args with
  | [.nilIface,_]=>some (.ret (.bool false) none σ)
  | [.iface t (.agg cs),.iface pt p]=>cond (Nat.beq t 178&&Nat.beq pt 197) (match cs.toList with
   | [x,y]=>(match fstore 2 p (.agg #[x,y]) σ with|.skip σ'=>some (.ret (.bool true) none σ')|_=>none)
   | _=>none) none
  | _=>none) none
def env(n:Nat):Env:=fenv Tryz.prog sums nls n
theorem Ak(n:Nat)(f:FuncId)(args:List Value)(σ:FState)(h:Nat.beq f 169=false):(env (n+1)).call f args none σ=fcall Tryz.prog nls (env n) f args none σ:=AbB _ _ _ _ _ _ _ (by
 unfold sums
 rw[h]
 rfl)
theorem ArY(n:Nat)(x y p:Value)(σ σ':FState)(h:fstore 2 p (.agg #[x,y]) σ=.skip σ'):(env (n+1)).call 169 [.iface 178 (.agg #[x,y]),.iface 197 p] none σ=.ret (.bool true) none σ':=by
 show fcallS Tryz.prog sums nls (fenv Tryz.prog sums nls n) 169 [.iface 178 (.agg #[x,y]),.iface 197 p] none σ=_
 unfold fcallS
 have e:sums 169 [.iface 178 (.agg #[x,y]),.iface 197 p] σ=some (.ret (.bool true) none σ'):=by
  show (match fstore 2 p (.agg #[x,y]) σ with|.skip σ'=>some (CRes.ret (.bool true) none σ')|_=>none)=_
  rw[h]
 rw[e]
theorem Ph(n:Nat)(f:FuncId)(args:List Value)(md:FrameMode)(σ:FState):(env (n+1)).call f args (some md) σ=fcall Tryz.prog nls (env n) f args (some md) σ:=Xg _ _ _ _ _ _ _ _
theorem Abx(n l:Nat)(args:List Value)(σ:FState):(env (n+1)).round l args σ=fround Tryz.prog nls (env n) l args σ:=Xh _ _ _ _ _ _ _
end
section
open Go Go.Eng
variable (E:Env) (ro:Option Nat) (last:List Nat→RunF) (cl:List Nat) (a:FAct) (u:Option FrameMode) (σ:FState)
def KK(_:Unit):List COp:=[⟨fun a σ=>fbox 24 (a.get 0) σ,some 2,fun _=>some true⟩,
 ⟨fun a σ=>fbox 24 (a.get 1) σ,some 3,fun _=>some true⟩,
 ⟨fun a σ=>.val (.bool false) σ,some 4,fun _=>some true⟩]
def Aph:List COp:=KK ()
def KL(_:Unit):List COp:=[⟨fun a σ=>ffield 0 (a.get 2) σ,some 5,fun _=>some true⟩,
 ⟨fun a σ=>fload none (a.get 5) σ,some 6,fun _=>some true⟩,
 ⟨fun a σ=>ffield 0 (a.get 3) σ,some 7,fun _=>some true⟩,
 ⟨fun a σ=>fload none (a.get 7) σ,some 8,fun _=>some true⟩,
 ⟨fun a σ=>i_eql Tryz.prog 3 (.tmp 6) (.tmp 8) (a.get 6) (a.get 8) σ,some 9,fun _=>some true⟩,
 ⟨fun a σ=>.val (a.get 9) σ,some 10,fun _=>some true⟩,
 ⟨fun a σ=>ffield 1 (a.get 2) σ,some 11,fun a=>gd (a.get 10) true⟩,
 ⟨fun a σ=>fload none (a.get 11) σ,some 12,fun a=>gd (a.get 10) true⟩,
 ⟨fun a σ=>ffield 1 (a.get 3) σ,some 13,fun a=>gd (a.get 10) true⟩,
 ⟨fun a σ=>fload none (a.get 13) σ,some 14,fun a=>gd (a.get 10) true⟩,
 ⟨fun a σ=>i_eql Tryz.prog 3 (.tmp 12) (.tmp 14) (a.get 12) (a.get 14) σ,some 15,fun a=>gd (a.get 10) true⟩,
 ⟨fun a σ=>fpick (a.get 10) (a.get 15) (.bool false) σ,some 16,fun _=>some true⟩,
 ⟨fun a σ=>.val (a.get 16) σ,some 17,fun _=>some true⟩,
 ⟨fun a σ=>ffield 2 (a.get 2) σ,some 18,fun a=>gd (a.get 17) true⟩,
 ⟨fun a σ=>fload none (a.get 18) σ,some 19,fun a=>gd (a.get 17) true⟩,
 ⟨fun a σ=>ffield 2 (a.get 3) σ,some 20,fun a=>gd (a.get 17) true⟩,
 ⟨fun a σ=>fload none (a.get 20) σ,some 21,fun a=>gd (a.get 17) true⟩,
 ⟨fun a σ=>i_eql Tryz.prog 9 (.tmp 19) (.tmp 21) (a.get 19) (a.get 21) σ,some 22,fun a=>gd (a.get 17) true⟩,
 ⟨fun a σ=>fpick (a.get 17) (a.get 22) (.bool false) σ,some 23,fun _=>some true⟩,
 ⟨fun a σ=>.val (a.get 23) σ,some 24,fun _=>some true⟩,
 ⟨fun a σ=>ffield 3 (a.get 2) σ,some 25,fun a=>gd (a.get 24) true⟩,
 ⟨fun a σ=>fload none (a.get 25) σ,some 26,fun a=>gd (a.get 24) true⟩,
 ⟨fun a σ=>ffield 3 (a.get 3) σ,some 27,fun a=>gd (a.get 24) true⟩,
 ⟨fun a σ=>fload none (a.get 27) σ,some 28,fun a=>gd (a.get 24) true⟩,
 ⟨fun a σ=>.enter 36 [(a.get 26),(a.get 28)] σ,some 29,fun a=>gd (a.get 24) true⟩,
 ⟨fun a σ=>fpick (a.get 24) (a.get 29) (.bool false) σ,some 30,fun _=>some true⟩,
 ⟨fun a σ=>.val (a.get 30) σ,some 4,fun _=>some true⟩]
def Api:List COp:=KL ()
def Alt(E:Env)(ro:Option Nat)(fn:FuncId):RunF:=(seqR (fops E ro Aph) (seqR (fops E ro Api) retR))
theorem J5:fops E ro Aph a u σ=fops E ro (KK ()) a u σ:=rfl
theorem J6:fops E ro Api a u σ=fops E ro (KL ()) a u σ:=rfl
theorem Arx(E:Env)(ro:Option Nat)(fn:FuncId):code Tryz.prog nls (Tryz.f21.body.getD .skip) E ro fn=Alt E ro fn:=by kernel_rfl
theorem Ana(E:Env)(args:List Value)(u:Option FrameMode)(σ:FState)(hn:args.length≤(4:Nat)):fcall Tryz.prog nls E 21 args u σ=leaveR Tryz.prog E [.tmp 4] (Alt E none 21 ⟨padTo undef 4 args,fun _=>undef,4,31,[]⟩ u σ):=by
 rw[Ao (body:=Tryz.f21.body.getD .skip) Tryz.func21 rfl E args u σ 4 31 (by kernel_rfl) rfl ⟨hn,by decide⟩,Arx]
 rfl
def Ta(_:Unit):List COp:=[⟨fun a σ=>.val (.bool false) σ,some 4,fun _=>some true⟩]
def Apv:List COp:=Ta ()
def Tb(_:Unit):List COp:=[⟨fun a σ=>.val (a.get 0) σ,some 6,fun _=>some true⟩,
 ⟨fun a σ=>flenL (a.get 6) σ,some 7,fun _=>some true⟩,
 ⟨fun a σ=>.val (a.get 1) σ,some 8,fun _=>some true⟩,
 ⟨fun a σ=>flenL (a.get 8) σ,some 9,fun _=>some true⟩,
 ⟨fun a σ=>i_neq Tryz.prog 3 (.tmp 7) (.tmp 9) (a.get 7) (a.get 9) σ,some 10,fun _=>some true⟩]
def Apw:List COp:=Tb ()
def Tc(_:Unit):List COp:=[⟨fun a σ=>.val (.bool false) σ,some 4,fun _=>some true⟩]
def Apx:List COp:=Tc ()
def Ys(_:Unit):List COp:=[⟨fun a σ=>.val (.int .i64 0) σ,some 5,fun _=>some true⟩]
def Apy:List COp:=Ys ()
def Td(_:Unit):List COp:=[⟨fun a σ=>.val (a.get 5) σ,some 11,fun _=>some true⟩,
 ⟨fun a σ=>.val (a.get 0) σ,some 12,fun _=>some true⟩,
 ⟨fun a σ=>flenL (a.get 12) σ,some 13,fun _=>some true⟩,
 ⟨fun a σ=>i_lss Tryz.prog 3 (.tmp 11) (.tmp 13) (a.get 11) (a.get 13) σ,some 14,fun _=>some true⟩]
def Apz:List COp:=Td ()
def Yu(_:Unit):List DOp:=[⟨fun a σ=>.val (a.get 0) σ,some 17,fun _=>some true,some 0,false⟩,
 ⟨fun a σ=>.val (a.get 5) σ,some 18,fun _=>some true,some 0,false⟩,
 ⟨fun a σ=>findex (none,4) (a.get 17) (a.get 18) σ,some 19,fun _=>some true,some 0,false⟩,
 ⟨fun a σ=>fload (some 4) (a.get 19) σ,some 20,fun _=>some true,some 0,false⟩,
 ⟨fun a σ=>.val (a.get 1) σ,some 21,fun _=>some true,some 0,false⟩,
 ⟨fun a σ=>.val (a.get 5) σ,some 22,fun _=>some true,some 0,false⟩,
 ⟨fun a σ=>findex (none,4) (a.get 21) (a.get 22) σ,some 23,fun _=>some true,some 0,false⟩,
 ⟨fun a σ=>fload (some 4) (a.get 23) σ,some 24,fun _=>some true,some 0,false⟩,
 ⟨fun a σ=>.enter 21 [(a.get 20),(a.get 24)] σ,some 25,fun _=>some true,none,true⟩,
 ⟨fun a σ=>fun1 Tryz.prog (Op.unary .not) (a.get 25) σ,some 26,fun _=>some true,some 1,false⟩]
def ApB:List DOp:=Yu ()
def Yv(_:Unit):List COp:=[⟨fun a σ=>.val (.bool false) σ,some 4,fun _=>some true⟩]
def ApC:List COp:=Yv ()
def Yt(_:Unit):List COp:=[⟨fun a σ=>.val (a.get 5) σ,some 15,fun _=>some true⟩,
 ⟨fun a σ=>i_add Tryz.prog 3 (.tmp 15) (.const (.int .i64 1)) (a.get 15) (.int .i64 1) σ,some 16,fun _=>some true⟩,
 ⟨fun a σ=>.val (a.get 16) σ,some 5,fun _=>some true⟩]
def ApA:List COp:=Yt ()
def Aao(E:Env)(ro:Option Nat)(fn:FuncId):RunF:=(seqR (seqR (fops E ro Apz) (condR (fun a=>(a.get 14)) skipR (exitR 0))) (seqR (blockR 1 (seqR (drawR E ro ApB) (condR (fun a=>(a.get 26)) (seqR (fops E ro ApC) retR) skipR))) (fops E ro ApA)))
def Yw(_:Unit):List COp:=[⟨fun a σ=>.val (.bool true) σ,some 4,fun _=>some true⟩]
def ApD:List COp:=Yw ()
def Alw(E:Env)(ro:Option Nat)(fn:FuncId):RunF:=(seqR (fops E ro Apv) (seqR (seqR (fops E ro Apw) (condR (fun a=>(a.get 10)) (seqR (fops E ro Apx) retR) skipR)) (seqR (seqR (fops E ro Apy) (blockR 0 (loopR (keepOf nls fn) (Aao E ro fn)))) (seqR (fops E ro ApD) retR))))
theorem VT:fops E ro Apv a u σ=fops E ro (Ta ()) a u σ:=rfl
theorem VU:fops E ro Apw a u σ=fops E ro (Tb ()) a u σ:=rfl
theorem VV:fops E ro Apx a u σ=fops E ro (Tc ()) a u σ:=rfl
theorem Aj7:fops E ro Apy a u σ=fops E ro (Ys ()) a u σ:=rfl
theorem VW:fops E ro Apz a u σ=fops E ro (Td ()) a u σ:=rfl
theorem Aj9:fdraw E ro last ApB cl a u σ=fdraw E ro last (Yu ()) cl a u σ:=rfl
theorem Aka:fops E ro ApC a u σ=fops E ro (Yv ()) a u σ:=rfl
theorem Aj8:fops E ro ApA a u σ=fops E ro (Yt ()) a u σ:=rfl
theorem Akb:fops E ro ApD a u σ=fops E ro (Yw ()) a u σ:=rfl
theorem ArA(E:Env)(ro:Option Nat)(fn:FuncId):code Tryz.prog nls (Tryz.f36.body.getD .skip) E ro fn=Alw E ro fn:=by kernel_rfl
theorem Ane(E:Env)(args:List Value)(u:Option FrameMode)(σ:FState)(hn:args.length≤(6:Nat)):fcall Tryz.prog nls E 36 args u σ=leaveR Tryz.prog E [.tmp 4] (Alw E none 36 ⟨padTo undef 6 args,fun _=>undef,6,27,[]⟩ u σ):=by
 rw[Ao (body:=Tryz.f36.body.getD .skip) Tryz.func36 rfl E args u σ 6 27 (by kernel_rfl) rfl ⟨hn,by decide⟩,ArA]
 rfl
def Zj(_:Unit):List COp:=[⟨fun a σ=>.val (.int .u64 0) σ,some 2,fun _=>some true⟩]
def Aq6:List COp:=Zj ()
def Zk(_:Unit):List COp:=[⟨fun a σ=>.val (a.get 0) σ,some 4,fun _=>some true⟩,
 ⟨fun a σ=>fnilCheck (a.get 4) σ,some 5,fun _=>some true⟩,
 ⟨fun a σ=>ffield 1 (a.get 5) σ,some 6,fun _=>some true⟩,
 ⟨fun a σ=>fload none (a.get 6) σ,some 7,fun _=>some true⟩,
 ⟨fun a σ=>fun1 Tryz.prog (convert 3 85) (a.get 7) σ,some 8,fun _=>some true⟩,
 ⟨fun a σ=>i_add Tryz.prog 85 (.tmp 8) (.const (.int .u64 1376283091369227076)) (a.get 8) (.int .u64 1376283091369227076) σ,some 9,fun _=>some true⟩,
 ⟨fun a σ=>.val (a.get 9) σ,some 3,fun _=>some true⟩]
def Aq7:List COp:=Zk ()
def TN(_:Unit):List DOp:=[⟨fun a σ=>.val (a.get 0) σ,some 10,fun _=>some true,some 0,false⟩,
 ⟨fun a σ=>fnilCheck (a.get 10) σ,some 11,fun _=>some true,some 0,false⟩,
 ⟨fun a σ=>ffield 1 (a.get 11) σ,some 12,fun _=>some true,some 0,false⟩,
 ⟨fun a σ=>fload none (a.get 12) σ,some 13,fun _=>some true,some 0,false⟩,
 ⟨fun a σ=>.val (a.get 0) σ,some 14,fun _=>some true,some 0,false⟩,
 ⟨fun a σ=>fnilCheck (a.get 14) σ,some 15,fun _=>some true,some 0,false⟩,
 ⟨fun a σ=>ffield 0 (a.get 15) σ,some 16,fun _=>some true,some 0,false⟩,
 ⟨fun a σ=>fload none (a.get 16) σ,some 17,fun _=>some true,some 0,false⟩,
 ⟨fun a σ=>flenL (a.get 17) σ,some 18,fun _=>some true,some 0,false⟩,
 ⟨fun a σ=>i_lss Tryz.prog 3 (.tmp 13) (.tmp 18) (a.get 13) (a.get 18) σ,some 19,fun _=>some true,some 0,false⟩]
def Ak9:List DOp:=TN ()
def Zl(_:Unit):List DOp:=[⟨fun a σ=>.val (a.get 3) σ,some 20,fun _=>some true,some 0,false⟩,
 ⟨fun a σ=>.val (a.get 0) σ,some 21,fun _=>some true,some 0,false⟩,
 ⟨fun a σ=>fnilCheck (a.get 21) σ,some 22,fun _=>some true,some 0,false⟩,
 ⟨fun a σ=>ffield 0 (a.get 22) σ,some 23,fun _=>some true,some 0,false⟩,
 ⟨fun a σ=>fload none (a.get 23) σ,some 24,fun _=>some true,some 0,false⟩,
 ⟨fun a σ=>.val (a.get 0) σ,some 25,fun _=>some true,some 0,false⟩,
 ⟨fun a σ=>fnilCheck (a.get 25) σ,some 26,fun _=>some true,some 0,false⟩,
 ⟨fun a σ=>ffield 1 (a.get 26) σ,some 27,fun _=>some true,some 0,false⟩,
 ⟨fun a σ=>fload none (a.get 27) σ,some 28,fun _=>some true,some 0,false⟩,
 ⟨fun a σ=>findex (none,1) (a.get 24) (a.get 28) σ,some 29,fun _=>some true,some 0,false⟩,
 ⟨fun a σ=>fload none (a.get 29) σ,some 30,fun _=>some true,some 0,false⟩,
 ⟨fun a σ=>fun1 Tryz.prog (convert 3 85) (a.get 30) σ,some 31,fun _=>some true,some 0,false⟩,
 ⟨fun a σ=>i_mul Tryz.prog 85 (.tmp 31) (.const (.int .u64 11820040416388919761)) (a.get 31) (.int .u64 11820040416388919761) σ,some 32,fun _=>some true,some 0,false⟩,
 ⟨fun a σ=>fbin0 Tryz.prog .xor 85 (.tmp 20) (.tmp 32) (a.get 20) (a.get 32) σ,some 33,fun _=>some true,some 0,false⟩,
 ⟨fun a σ=>.val (a.get 33) σ,some 3,fun _=>some true,some 0,false⟩]
def Ala:List DOp:=Zl ()
def Zm(_:Unit):List COp:=[⟨fun a σ=>.val (a.get 0) σ,some 34,fun _=>some true⟩,
 ⟨fun a σ=>fnilCheck (a.get 34) σ,some 35,fun _=>some true⟩,
 ⟨fun a σ=>ffield 1 (a.get 35) σ,some 36,fun _=>some true⟩,
 ⟨fun a σ=>fload none (a.get 36) σ,some 37,fun _=>some true⟩,
 ⟨fun a σ=>i_add Tryz.prog 3 (.tmp 37) (.const (.int .i64 1)) (a.get 37) (.int .i64 1) σ,some 38,fun _=>some true⟩,
 ⟨fun a σ=>fnilCheck (a.get 34) σ,some 39,fun _=>some true⟩,
 ⟨fun a σ=>ffield 1 (a.get 39) σ,some 40,fun _=>some true⟩,
 ⟨fun a σ=>fstore 1 (a.get 40) (a.get 38) σ,none,fun _=>some true⟩]
def Aq8:List COp:=Zm ()
def Zn(_:Unit):List COp:=[⟨fun a σ=>.val (a.get 0) σ,some 41,fun _=>some true⟩,
 ⟨fun a σ=>.val (a.get 0) σ,some 42,fun _=>some true⟩,
 ⟨fun a σ=>fnilCheck (a.get 42) σ,some 43,fun _=>some true⟩,
 ⟨fun a σ=>ffield 2 (a.get 43) σ,some 44,fun _=>some true⟩,
 ⟨fun a σ=>fload none (a.get 44) σ,some 45,fun _=>some true⟩,
 ⟨fun a σ=>.val (a.get 3) σ,some 46,fun _=>some true⟩,
 ⟨fun a σ=>i_add Tryz.prog 85 (.tmp 45) (.tmp 46) (a.get 45) (a.get 46) σ,some 47,fun _=>some true⟩,
 ⟨fun a σ=>i_mul Tryz.prog 85 (.tmp 47) (.const (.int .u64 589684135938649225)) (a.get 47) (.int .u64 589684135938649225) σ,some 48,fun _=>some true⟩,
 ⟨fun a σ=>fnilCheck (a.get 41) σ,some 49,fun _=>some true⟩,
 ⟨fun a σ=>ffield 2 (a.get 49) σ,some 50,fun _=>some true⟩,
 ⟨fun a σ=>fstore 1 (a.get 50) (a.get 48) σ,none,fun _=>some true⟩]
def Aq9:List COp:=Zn ()
def Zo(_:Unit):List DOp:=[⟨fun a σ=>.val (a.get 0) σ,some 51,fun _=>some true,some 0,false⟩,
 ⟨fun a σ=>.val (a.get 0) σ,some 52,fun _=>some true,some 0,false⟩,
 ⟨fun a σ=>fnilCheck (a.get 52) σ,some 53,fun _=>some true,some 0,false⟩,
 ⟨fun a σ=>ffield 2 (a.get 53) σ,some 54,fun _=>some true,some 0,false⟩,
 ⟨fun a σ=>fload none (a.get 54) σ,some 55,fun _=>some true,some 0,false⟩,
 ⟨fun a σ=>.val (a.get 0) σ,some 56,fun _=>some true,some 0,false⟩,
 ⟨fun a σ=>fnilCheck (a.get 56) σ,some 57,fun _=>some true,some 0,false⟩,
 ⟨fun a σ=>ffield 2 (a.get 57) σ,some 58,fun _=>some true,some 0,false⟩,
 ⟨fun a σ=>fload none (a.get 58) σ,some 59,fun _=>some true,some 0,false⟩,
 ⟨fun a σ=>fbin0 Tryz.prog .shr 85 (.tmp 59) (.const (.int .u64 32)) (a.get 59) (.int .u64 32) σ,some 60,fun _=>some true,some 0,false⟩,
 ⟨fun a σ=>fbin0 Tryz.prog .xor 85 (.tmp 55) (.tmp 60) (a.get 55) (a.get 60) σ,some 61,fun _=>some true,some 0,false⟩,
 ⟨fun a σ=>fnilCheck (a.get 51) σ,some 62,fun _=>some true,some 0,false⟩,
 ⟨fun a σ=>ffield 2 (a.get 62) σ,some 63,fun _=>some true,some 0,false⟩,
 ⟨fun a σ=>fstore 1 (a.get 63) (a.get 61) σ,none,fun _=>some true,none,true⟩]
def Ara:List DOp:=Zo ()
def Zp(_:Unit):List COp:=[⟨fun a σ=>.val (a.get 0) σ,some 64,fun _=>some true⟩,
 ⟨fun a σ=>.val (a.get 0) σ,some 65,fun _=>some true⟩,
 ⟨fun a σ=>fnilCheck (a.get 65) σ,some 66,fun _=>some true⟩,
 ⟨fun a σ=>ffield 2 (a.get 66) σ,some 67,fun _=>some true⟩,
 ⟨fun a σ=>fload none (a.get 67) σ,some 68,fun _=>some true⟩,
 ⟨fun a σ=>i_mul Tryz.prog 85 (.tmp 68) (.const (.int .u64 4983270260364809079)) (a.get 68) (.int .u64 4983270260364809079) σ,some 69,fun _=>some true⟩,
 ⟨fun a σ=>fnilCheck (a.get 64) σ,some 70,fun _=>some true⟩,
 ⟨fun a σ=>ffield 2 (a.get 70) σ,some 71,fun _=>some true⟩,
 ⟨fun a σ=>fstore 1 (a.get 71) (a.get 69) σ,none,fun _=>some true⟩]
def Arb:List COp:=Zp ()
def Zq(_:Unit):List DOp:=[⟨fun a σ=>.val (a.get 0) σ,some 72,fun _=>some true,some 0,false⟩,
 ⟨fun a σ=>fnilCheck (a.get 72) σ,some 73,fun _=>some true,some 0,false⟩,
 ⟨fun a σ=>ffield 2 (a.get 73) σ,some 74,fun _=>some true,some 0,false⟩,
 ⟨fun a σ=>fload none (a.get 74) σ,some 75,fun _=>some true,some 0,false⟩,
 ⟨fun a σ=>.val (a.get 0) σ,some 76,fun _=>some true,some 0,false⟩,
 ⟨fun a σ=>fnilCheck (a.get 76) σ,some 77,fun _=>some true,some 0,false⟩,
 ⟨fun a σ=>ffield 2 (a.get 77) σ,some 78,fun _=>some true,some 0,false⟩,
 ⟨fun a σ=>fload none (a.get 78) σ,some 79,fun _=>some true,some 0,false⟩,
 ⟨fun a σ=>fbin0 Tryz.prog .shr 85 (.tmp 79) (.const (.int .u64 27)) (a.get 79) (.int .u64 27) σ,some 80,fun _=>some true,some 0,false⟩,
 ⟨fun a σ=>fbin0 Tryz.prog .xor 85 (.tmp 75) (.tmp 80) (a.get 75) (a.get 80) σ,some 81,fun _=>some true,some 0,false⟩,
 ⟨fun a σ=>fbin0 Tryz.prog .shr 85 (.tmp 81) (.const (.int .u64 9)) (a.get 81) (.int .u64 9) σ,some 82,fun _=>some true,some 0,false⟩,
 ⟨fun a σ=>.val (a.get 82) σ,some 2,fun _=>some true,some 0,false⟩]
def Arc:List DOp:=Zq ()
def AlN(E:Env)(ro:Option Nat)(fn:FuncId):RunF:=(seqR (fops E ro Aq6) (seqR (fops E ro Aq7) (seqR (seqR (drawR E ro Ak9) (condR (fun a=>(a.get 19)) (drawR E ro Ala) skipR)) (seqR (fops E ro Aq8) (seqR (fops E ro Aq9) (seqR (drawR E ro Ara) (seqR (fops E ro Arb) (seqR (drawR E ro Arc) retR))))))))
theorem Ak7:fops E ro Aq6 a u σ=fops E ro (Zj ()) a u σ:=rfl
theorem Ak8:fops E ro Aq7 a u σ=fops E ro (Zk ()) a u σ:=rfl
theorem Wu:fdraw E ro last Ak9 cl a u σ=fdraw E ro last (TN ()) cl a u σ:=rfl
theorem Alb:fdraw E ro last Ala cl a u σ=fdraw E ro last (Zl ()) cl a u σ:=rfl
theorem Alc:fops E ro Aq8 a u σ=fops E ro (Zm ()) a u σ:=rfl
theorem Ald:fops E ro Aq9 a u σ=fops E ro (Zn ()) a u σ:=rfl
theorem Ale:fdraw E ro last Ara cl a u σ=fdraw E ro last (Zo ()) cl a u σ:=rfl
theorem Alf:fops E ro Arb a u σ=fops E ro (Zp ()) a u σ:=rfl
theorem Alg:fdraw E ro last Arc cl a u σ=fdraw E ro last (Zq ()) cl a u σ:=rfl
theorem ArU(E:Env)(ro:Option Nat)(fn:FuncId):code Tryz.prog nls (Tryz.f86.body.getD .skip) E ro fn=AlN E ro fn:=by kernel_rfl
theorem Anv(E:Env)(args:List Value)(u:Option FrameMode)(σ:FState)(hn:args.length≤(4:Nat)):fcall Tryz.prog nls E 86 args u σ=leaveR Tryz.prog E [.tmp 2] (AlN E none 86 ⟨padTo undef 4 args,fun _=>undef,4,83,[]⟩ u σ):=by
 rw[Ao (body:=Tryz.f86.body.getD .skip) Tryz.func86 rfl E args u σ 4 83 (by kernel_rfl) rfl ⟨hn,by decide⟩,ArU]
 rfl
def S5(_:Unit):List COp:=[⟨fun a σ=>.val (.int .i64 0) σ,some 4,fun _=>some true⟩]
def Apq:List COp:=S5 ()
def S9(_:Unit):List COp:=[⟨fun a σ=>.val (a.get 0) σ,some 6,fun _=>some true⟩,
 ⟨fun a σ=>.enter 86 [(a.get 6)] σ,some 7,fun _=>some true⟩,
 ⟨fun a σ=>.val (a.get 7) σ,some 5,fun _=>some true⟩]
def Apr:List COp:=S9 ()
def S_(_:Unit):List COp:=[⟨fun a σ=>.val (a.get 1) σ,some 8,fun _=>some true⟩,
 ⟨fun a σ=>i_lss Tryz.prog 3 (.tmp 8) (.const (.int .i64 1)) (a.get 8) (.int .i64 1) σ,some 9,fun _=>some true⟩]
def Aps:List COp:=S_ ()
def Yq(_:Unit):List COp:=[⟨fun a σ=>.val (.int .i64 0) σ,some 4,fun _=>some true⟩]
def Apt:List COp:=Yq ()
def Yr(_:Unit):List COp:=[⟨fun a σ=>.val (a.get 5) σ,some 10,fun _=>some true⟩,
 ⟨fun a σ=>.val (a.get 1) σ,some 11,fun _=>some true⟩,
 ⟨fun a σ=>i_add Tryz.prog 3 (.tmp 11) (.const (.int .i64 1)) (a.get 11) (.int .i64 1) σ,some 12,fun _=>some true⟩,
 ⟨fun a σ=>fun1 Tryz.prog (convert 3 85) (a.get 12) σ,some 13,fun _=>some true⟩,
 ⟨fun a σ=>fbin0 Tryz.prog .rem 85 (.tmp 10) (.tmp 13) (a.get 10) (a.get 13) σ,some 14,fun _=>some true⟩,
 ⟨fun a σ=>fun1 Tryz.prog (convert 85 3) (a.get 14) σ,some 15,fun _=>some true⟩,
 ⟨fun a σ=>.val (a.get 15) σ,some 4,fun _=>some true⟩]
def Apu:List COp:=Yr ()
def Alv(E:Env)(ro:Option Nat)(fn:FuncId):RunF:=(seqR (fops E ro Apq) (seqR (fops E ro Apr) (seqR (seqR (fops E ro Aps) (condR (fun a=>(a.get 9)) (seqR (fops E ro Apt) retR) skipR)) (seqR (fops E ro Apu) retR))))
theorem VQ:fops E ro Apq a u σ=fops E ro (S5 ()) a u σ:=rfl
theorem VR:fops E ro Apr a u σ=fops E ro (S9 ()) a u σ:=rfl
theorem VS:fops E ro Aps a u σ=fops E ro (S_ ()) a u σ:=rfl
theorem Aj5:fops E ro Apt a u σ=fops E ro (Yq ()) a u σ:=rfl
theorem Aj6:fops E ro Apu a u σ=fops E ro (Yr ()) a u σ:=rfl
theorem Arz(E:Env)(ro:Option Nat)(fn:FuncId):code Tryz.prog nls (Tryz.f24.body.getD .skip) E ro fn=Alv E ro fn:=by kernel_rfl
theorem Anc(E:Env)(args:List Value)(u:Option FrameMode)(σ:FState)(hn:args.length≤(6:Nat)):fcall Tryz.prog nls E 24 args u σ=leaveR Tryz.prog E [.tmp 4] (Alv E none 24 ⟨padTo undef 6 args,fun _=>undef,6,16,[]⟩ u σ):=by
 rw[Ao (body:=Tryz.f24.body.getD .skip) Tryz.func24 rfl E args u σ 6 16 (by kernel_rfl) rfl ⟨hn,by decide⟩,Arz]
 rfl
def YN(_:Unit):List COp:=[⟨fun a σ=>.val (.bool false) σ,some 4,fun _=>some true⟩]
def Aqd:List COp:=YN ()
def YO(_:Unit):List COp:=[⟨fun a σ=>.val (a.get 0) σ,some 5,fun _=>some true⟩,
 ⟨fun a σ=>.val (a.get 1) σ,some 6,fun _=>some true⟩,
 ⟨fun a σ=>i_sub Tryz.prog 3 (.tmp 6) (.const (.int .i64 1)) (a.get 6) (.int .i64 1) σ,some 7,fun _=>some true⟩,
 ⟨fun a σ=>.enter 24 [(a.get 5),(a.get 7)] σ,some 8,fun _=>some true⟩,
 ⟨fun a σ=>i_eql Tryz.prog 3 (.tmp 8) (.const (.int .i64 0)) (a.get 8) (.int .i64 0) σ,some 9,fun _=>some true⟩,
 ⟨fun a σ=>.val (a.get 9) σ,some 4,fun _=>some true⟩]
def Aqe:List COp:=YO ()
def AlC(E:Env)(ro:Option Nat)(fn:FuncId):RunF:=(seqR (fops E ro Aqd) (seqR (fops E ro Aqe) retR))
theorem Aks:fops E ro Aqd a u σ=fops E ro (YN ()) a u σ:=rfl
theorem Akt:fops E ro Aqe a u σ=fops E ro (YO ()) a u σ:=rfl
theorem ArH(E:Env)(ro:Option Nat)(fn:FuncId):code Tryz.prog nls (Tryz.f61.body.getD .skip) E ro fn=AlC E ro fn:=by kernel_rfl
theorem Ank(E:Env)(args:List Value)(u:Option FrameMode)(σ:FState)(hn:args.length≤(4:Nat)):fcall Tryz.prog nls E 61 args u σ=leaveR Tryz.prog E [.tmp 4] (AlC E none 61 ⟨padTo undef 4 args,fun _=>undef,4,10,[]⟩ u σ):=by
 rw[Ao (body:=Tryz.f61.body.getD .skip) Tryz.func61 rfl E args u σ 4 10 (by kernel_rfl) rfl ⟨hn,by decide⟩,ArH]
 rfl
def YZ(_:Unit):List COp:=[⟨fun a σ=>.val (.int .i64 0) σ,some 6,fun _=>some true⟩]
def Aqr:List COp:=YZ ()
def Y0(_:Unit):List COp:=[⟨fun a σ=>.val (a.get 1) σ,some 7,fun _=>some true⟩,
 ⟨fun a σ=>.val (a.get 0) σ,some 8,fun _=>some true⟩,
 ⟨fun a σ=>.val (a.get 2) σ,some 9,fun _=>some true⟩,
 ⟨fun a σ=>.val (a.get 1) σ,some 10,fun _=>some true⟩,
 ⟨fun a σ=>i_sub Tryz.prog 3 (.tmp 9) (.tmp 10) (a.get 9) (a.get 10) σ,some 11,fun _=>some true⟩,
 ⟨fun a σ=>.enter 24 [(a.get 8),(a.get 11)] σ,some 12,fun _=>some true⟩,
 ⟨fun a σ=>i_add Tryz.prog 3 (.tmp 7) (.tmp 12) (a.get 7) (a.get 12) σ,some 13,fun _=>some true⟩,
 ⟨fun a σ=>.val (a.get 13) σ,some 6,fun _=>some true⟩]
def Aqs:List COp:=Y0 ()
def AlI(E:Env)(ro:Option Nat)(fn:FuncId):RunF:=(seqR (fops E ro Aqr) (seqR (fops E ro Aqs) retR))
theorem AkE:fops E ro Aqr a u σ=fops E ro (YZ ()) a u σ:=rfl
theorem AkF:fops E ro Aqs a u σ=fops E ro (Y0 ()) a u σ:=rfl
theorem ArN(E:Env)(ro:Option Nat)(fn:FuncId):code Tryz.prog nls (Tryz.f67.body.getD .skip) E ro fn=AlI E ro fn:=by kernel_rfl
theorem Anq(E:Env)(args:List Value)(u:Option FrameMode)(σ:FState)(hn:args.length≤(6:Nat)):fcall Tryz.prog nls E 67 args u σ=leaveR Tryz.prog E [.tmp 6] (AlI E none 67 ⟨padTo undef 6 args,fun _=>undef,6,14,[]⟩ u σ):=by
 rw[Ao (body:=Tryz.f67.body.getD .skip) Tryz.func67 rfl E args u σ 6 14 (by kernel_rfl) rfl ⟨hn,by decide⟩,ArN]
 rfl
def YX(_:Unit):List COp:=[⟨fun a σ=>.val (.int .i64 0) σ,some 4,fun _=>some true⟩]
def Aqp:List COp:=YX ()
def YY(_:Unit):List COp:=[⟨fun a σ=>.val (a.get 1) σ,some 5,fun _=>some true⟩,
 ⟨fun a σ=>.val (a.get 0) σ,some 6,fun _=>some true⟩,
 ⟨fun a σ=>.val (a.get 1) σ,some 7,fun _=>some true⟩,
 ⟨fun a σ=>flenL (a.get 7) σ,some 8,fun _=>some true⟩,
 ⟨fun a σ=>i_sub Tryz.prog 3 (.tmp 8) (.const (.int .i64 1)) (a.get 8) (.int .i64 1) σ,some 9,fun _=>some true⟩,
 ⟨fun a σ=>.enter 24 [(a.get 6),(a.get 9)] σ,some 10,fun _=>some true⟩,
 ⟨fun a σ=>findex (none,1) (a.get 5) (a.get 10) σ,some 11,fun _=>some true⟩,
 ⟨fun a σ=>fload none (a.get 11) σ,some 12,fun _=>some true⟩,
 ⟨fun a σ=>.val (a.get 12) σ,some 4,fun _=>some true⟩]
def Aqq:List COp:=YY ()
def AlH(E:Env)(ro:Option Nat)(fn:FuncId):RunF:=(seqR (fops E ro Aqp) (seqR (fops E ro Aqq) retR))
theorem AkC:fops E ro Aqp a u σ=fops E ro (YX ()) a u σ:=rfl
theorem AkD:fops E ro Aqq a u σ=fops E ro (YY ()) a u σ:=rfl
theorem ArM(E:Env)(ro:Option Nat)(fn:FuncId):code Tryz.prog nls (Tryz.f66.body.getD .skip) E ro fn=AlH E ro fn:=by kernel_rfl
theorem Anp(E:Env)(args:List Value)(u:Option FrameMode)(σ:FState)(hn:args.length≤(4:Nat)):fcall Tryz.prog nls E 66 args u σ=leaveR Tryz.prog E [.tmp 4] (AlH E none 66 ⟨padTo undef 4 args,fun _=>undef,4,13,[]⟩ u σ):=by
 rw[Ao (body:=Tryz.f66.body.getD .skip) Tryz.func66 rfl E args u σ 4 13 (by kernel_rfl) rfl ⟨hn,by decide⟩,ArM]
 rfl
def YT(_:Unit):List COp:=[⟨fun a σ=>.val (.string ⟨#[]⟩) σ,some 4,fun _=>some true⟩]
def Aql:List COp:=YT ()
def YU(_:Unit):List COp:=[⟨fun a σ=>.val (a.get 1) σ,some 5,fun _=>some true⟩,
 ⟨fun a σ=>.val (a.get 0) σ,some 6,fun _=>some true⟩,
 ⟨fun a σ=>.val (a.get 1) σ,some 7,fun _=>some true⟩,
 ⟨fun a σ=>flenL (a.get 7) σ,some 8,fun _=>some true⟩,
 ⟨fun a σ=>i_sub Tryz.prog 3 (.tmp 8) (.const (.int .i64 1)) (a.get 8) (.int .i64 1) σ,some 9,fun _=>some true⟩,
 ⟨fun a σ=>.enter 24 [(a.get 6),(a.get 9)] σ,some 10,fun _=>some true⟩,
 ⟨fun a σ=>findex (none,1) (a.get 5) (a.get 10) σ,some 11,fun _=>some true⟩,
 ⟨fun a σ=>fload none (a.get 11) σ,some 12,fun _=>some true⟩,
 ⟨fun a σ=>.val (a.get 12) σ,some 4,fun _=>some true⟩]
def Aqm:List COp:=YU ()
def AlF(E:Env)(ro:Option Nat)(fn:FuncId):RunF:=(seqR (fops E ro Aql) (seqR (fops E ro Aqm) retR))
theorem Aky:fops E ro Aql a u σ=fops E ro (YT ()) a u σ:=rfl
theorem Akz:fops E ro Aqm a u σ=fops E ro (YU ()) a u σ:=rfl
theorem ArK(E:Env)(ro:Option Nat)(fn:FuncId):code Tryz.prog nls (Tryz.f64.body.getD .skip) E ro fn=AlF E ro fn:=by kernel_rfl
theorem Ann(E:Env)(args:List Value)(u:Option FrameMode)(σ:FState)(hn:args.length≤(4:Nat)):fcall Tryz.prog nls E 64 args u σ=leaveR Tryz.prog E [.tmp 4] (AlF E none 64 ⟨padTo undef 4 args,fun _=>undef,4,13,[]⟩ u σ):=by
 rw[Ao (body:=Tryz.f64.body.getD .skip) Tryz.func64 rfl E args u σ 4 13 (by kernel_rfl) rfl ⟨hn,by decide⟩,ArK]
 rfl
def Ng(_:Unit):List COp:=[⟨fun a σ=>newCells [(.int .i64 0),(.int .i64 0),(.string ⟨#[]⟩),(.slice none 0 0)] 24 none σ,some 4,fun _=>some true⟩]
def Af9:List COp:=Ng ()
def Ni(_:Unit):List COp:=[⟨fun a σ=>.val (a.get 1) σ,some 7,fun _=>some true⟩,
 ⟨fun a σ=>i_lss Tryz.prog 3 (.tmp 7) (.const (.int .i64 2)) (a.get 7) (.int .i64 2) σ,some 8,fun _=>some true⟩,
 ⟨fun a σ=>.val (a.get 8) σ,some 9,fun _=>some true⟩,
 ⟨fun a σ=>.val (a.get 0) σ,some 10,fun a=>gd (a.get 9) false⟩,
 ⟨fun a σ=>.enter 61 [(a.get 10),(.int .i64 4)] σ,some 11,fun a=>gd (a.get 9) false⟩,
 ⟨fun a σ=>fpick (a.get 9) (.bool true) (a.get 11) σ,some 12,fun _=>some true⟩]
def Aga:List COp:=Ni ()
def Jd(_:Unit):List COp:=[⟨fun a σ=>.val (a.get 0) σ,some 13,fun _=>some true⟩,
 ⟨fun a σ=>.enter 24 [(a.get 13),(.int .i64 6)] σ,some 14,fun _=>some true⟩]
def Age:List COp:=Jd ()
def Je(_:Unit):List COp:=[⟨fun a σ=>i_eql Tryz.prog 3 (.tmp 14) (.const (.int .i64 0)) (a.get 14) (.int .i64 0) σ,some 16,fun _=>some true⟩,
 ⟨fun a σ=>.val (a.get 16) σ,some 15,fun _=>some true⟩]
def Agf:List COp:=Je ()
def XT(_:Unit):List COp:=[⟨fun a σ=>fbuild (fun i=>nth [(0,1),(1,1),(2,1),(3,1)] i) [(.int .i64 0),(.int .i64 0),(.string ⟨#[]⟩),(.slice none 0 0)] [] σ,some 17,fun _=>some true⟩,
 ⟨fun a σ=>fstore 4 (a.get 4) (a.get 17) σ,none,fun _=>some true⟩]
def Agg:List COp:=XT ()
def Ky(_:Unit):List COp:=[⟨fun a σ=>i_eql Tryz.prog 3 (.tmp 14) (.const (.int .i64 1)) (a.get 14) (.int .i64 1) σ,some 19,fun _=>some true⟩,
 ⟨fun a σ=>.val (a.get 19) σ,some 18,fun _=>some true⟩]
def Agi:List COp:=Ky ()
def XU(_:Unit):List COp:=[⟨fun a σ=>.val (a.get 0) σ,some 20,fun _=>some true⟩,
 ⟨fun a σ=>.enter 61 [(a.get 20),(.int .i64 2)] σ,some 21,fun _=>some true⟩,
 ⟨fun a σ=>.enter 62 [(a.get 21)] σ,some 22,fun _=>some true⟩,
 ⟨fun a σ=>fstore 4 (a.get 4) (a.get 22) σ,none,fun _=>some true⟩]
def Agj:List COp:=XU ()
def Nk(_:Unit):List COp:=[⟨fun a σ=>i_eql Tryz.prog 3 (.tmp 14) (.const (.int .i64 2)) (a.get 14) (.int .i64 2) σ,some 24,fun _=>some true⟩,
 ⟨fun a σ=>.val (a.get 24) σ,some 23,fun _=>some true⟩]
def Agl:List COp:=Nk ()
def XV(_:Unit):List COp:=[⟨fun a σ=>.val (a.get 0) σ,some 25,fun _=>some true⟩,
 ⟨fun a σ=>fbuildSlice 9 8 1 [(.string ⟨#[]⟩)] [(0,(.string ⟨#[97]⟩)),(1,(.string ⟨#[98]⟩)),(2,(.string ⟨#[120]⟩)),(3,(.string ⟨#[105,102]⟩)),(4,(.string ⟨#[108,105,115,116]⟩)),(5,(.string ⟨#[97,45,98]⟩)),(6,(.string ⟨#[110,117,108,108,63]⟩)),(7,(.string ⟨#[43]⟩))] σ,some 26,fun _=>some true⟩,
 ⟨fun a σ=>.enter 64 [(a.get 25),(a.get 26)] σ,some 27,fun _=>some true⟩,
 ⟨fun a σ=>.enter 63 [(a.get 27)] σ,some 28,fun _=>some true⟩,
 ⟨fun a σ=>fstore 4 (a.get 4) (a.get 28) σ,none,fun _=>some true⟩]
def Agm:List COp:=XV ()
def RQ(_:Unit):List COp:=[⟨fun a σ=>i_eql Tryz.prog 3 (.tmp 14) (.const (.int .i64 3)) (a.get 14) (.int .i64 3) σ,some 30,fun _=>some true⟩,
 ⟨fun a σ=>.val (a.get 30) σ,some 29,fun _=>some true⟩]
def Ago:List COp:=RQ ()
def RI(_:Unit):List COp:=[⟨fun a σ=>.val (a.get 0) σ,some 31,fun _=>some true⟩,
 ⟨fun a σ=>fbuildSlice 9 5 1 [(.string ⟨#[]⟩)] [(0,(.string ⟨#[]⟩)),(1,(.string ⟨#[97]⟩)),(2,(.string ⟨#[116,119,111,32,119,111,114,100,115]⟩)),(3,(.string ⟨#[113,34,113]⟩)),(4,(.string ⟨#[98,92]⟩))] σ,some 32,fun _=>some true⟩,
 ⟨fun a σ=>.enter 64 [(a.get 31),(a.get 32)] σ,some 33,fun _=>some true⟩,
 ⟨fun a σ=>.enter 59 [(a.get 33)] σ,some 34,fun _=>some true⟩,
 ⟨fun a σ=>fstore 4 (a.get 4) (a.get 34) σ,none,fun _=>some true⟩]
def XM:List COp:=RI ()
def RJ(_:Unit):List COp:=[⟨fun a σ=>.val (a.get 0) σ,some 35,fun _=>some true⟩,
 ⟨fun a σ=>.val (a.get 0) σ,some 36,fun _=>some true⟩,
 ⟨fun a σ=>.enter 67 [(a.get 36),(.int .i64 (-20)),(.int .i64 20)] σ,some 37,fun _=>some true⟩,
 ⟨fun a σ=>.val (a.get 0) σ,some 38,fun _=>some true⟩,
 ⟨fun a σ=>.enter 67 [(a.get 38),(.int .i64 (-999)),(.int .i64 999)] σ,some 39,fun _=>some true⟩,
 ⟨fun a σ=>fbuildSlice 3 5 1 [(.int .i64 0)] [(0,(.int .i64 0)),(1,(.int .i64 1)),(2,(.int .i64 (-1))),(3,(a.get 37)),(4,(a.get 39))] σ,some 40,fun _=>some true⟩,
 ⟨fun a σ=>.enter 66 [(a.get 35),(a.get 40)] σ,some 41,fun _=>some true⟩,
 ⟨fun a σ=>.enter 65 [(a.get 41)] σ,some 42,fun _=>some true⟩,
 ⟨fun a σ=>fstore 4 (a.get 4) (a.get 42) σ,none,fun _=>some true⟩]
def XN:List COp:=RJ ()
def LG(_:Unit):List COp:=[⟨fun a σ=>.val (a.get 0) σ,some 43,fun _=>some true⟩,
 ⟨fun a σ=>.enter 61 [(a.get 43),(.int .i64 6)] σ,some 44,fun _=>some true⟩]
def XO:List COp:=LG ()
def RK(_:Unit):List COp:=[⟨fun a σ=>fbuild (fun i=>nth [(0,1),(1,1),(2,1),(3,1)] i) [(.int .i64 0),(.int .i64 0),(.string ⟨#[]⟩),(.slice none 0 0)] [(0,(.int .i64 6))] σ,some 45,fun _=>some true⟩,
 ⟨fun a σ=>newCells [(.int .i64 0),(.int .i64 0),(.string ⟨#[]⟩),(.slice none 0 0)] 24 none σ,some 5,fun _=>some true⟩,
 ⟨fun a σ=>fstore 4 (a.get 5) (a.get 45) σ,none,fun _=>some true⟩]
def XP:List COp:=RK ()
def RL(_:Unit):List COp:=[⟨fun a σ=>.val (a.get 0) σ,some 46,fun _=>some true⟩,
 ⟨fun a σ=>.enter 24 [(a.get 46),(.int .i64 3)] σ,some 47,fun _=>some true⟩,
 ⟨fun a σ=>.val (a.get 47) σ,some 6,fun _=>some true⟩]
def XQ:List COp:=RL ()
def LH(_:Unit):List COp:=[⟨fun a σ=>.val (a.get 6) σ,some 48,fun _=>some true⟩,
 ⟨fun a σ=>i_gtr Tryz.prog 3 (.tmp 48) (.const (.int .i64 0)) (a.get 48) (.int .i64 0) σ,some 49,fun _=>some true⟩]
def Agb:List COp:=LH ()
def RN(_:Unit):List DOp:=[⟨fun a σ=>.val (a.get 0) σ,some 54,fun _=>some true,some 0,false⟩,
 ⟨fun a σ=>.val (a.get 1) σ,some 55,fun _=>some true,some 0,false⟩,
 ⟨fun a σ=>i_sub Tryz.prog 3 (.tmp 55) (.const (.int .i64 1)) (a.get 55) (.int .i64 1) σ,some 56,fun _=>some true,some 0,false⟩,
 ⟨fun a σ=>.enter 11 [(a.get 54),(a.get 56)] σ,some 57,fun _=>some true,none,false⟩,
 ⟨fun a σ=>ffield 3 (a.get 5) σ,some 52,fun _=>some true,some 0,false⟩,
 ⟨fun a σ=>fload none (a.get 52) σ,some 53,fun _=>some true,some 0,false⟩,
 ⟨fun a σ=>fbuildSlice 24 1 4 [(.int .i64 0),(.int .i64 0),(.string ⟨#[]⟩),(.slice none 0 0)] [(0,(a.get 57))] σ,some 58,fun _=>some true,some 1,false⟩,
 ⟨fun a σ=>fappend 24 4 56 (a.get 53) (a.get 58) σ,some 59,fun _=>some true,none,true⟩,
 ⟨fun a σ=>ffield 3 (a.get 5) σ,some 60,fun _=>some true,some 2,false⟩,
 ⟨fun a σ=>fstore 1 (a.get 60) (a.get 59) σ,none,fun _=>some true,none,true⟩]
def Agd:List DOp:=RN ()
def RM(_:Unit):List COp:=[⟨fun a σ=>.val (a.get 6) σ,some 50,fun _=>some true⟩,
 ⟨fun a σ=>i_sub Tryz.prog 3 (.tmp 50) (.const (.int .i64 1)) (a.get 50) (.int .i64 1) σ,some 51,fun _=>some true⟩,
 ⟨fun a σ=>.val (a.get 51) σ,some 6,fun _=>some true⟩]
def Agc:List COp:=RM ()
def Vs(E:Env)(ro:Option Nat)(fn:FuncId):RunF:=(seqR (seqR (fops E ro Agb) (condR (fun a=>(a.get 49)) skipR (exitR 1))) (seqR (blockR 2 (drawR E ro Agd)) (fops E ro Agc)))
def RO(_:Unit):List COp:=[⟨fun a σ=>fload (some 4) (a.get 5) σ,some 61,fun _=>some true⟩,
 ⟨fun a σ=>fstore 4 (a.get 4) (a.get 61) σ,none,fun _=>some true⟩]
def XR:List COp:=RO ()
def RP(_:Unit):List COp:=[⟨fun a σ=>.val (a.get 0) σ,some 62,fun _=>some true⟩,
 ⟨fun a σ=>.val (a.get 1) σ,some 63,fun _=>some true⟩,
 ⟨fun a σ=>i_sub Tryz.prog 3 (.tmp 63) (.const (.int .i64 1)) (a.get 63) (.int .i64 1) σ,some 64,fun _=>some true⟩,
 ⟨fun a σ=>.enter 11 [(a.get 62),(a.get 64)] σ,some 65,fun _=>some true⟩,
 ⟨fun a σ=>.val (a.get 0) σ,some 66,fun _=>some true⟩,
 ⟨fun a σ=>.val (a.get 1) σ,some 67,fun _=>some true⟩,
 ⟨fun a σ=>i_sub Tryz.prog 3 (.tmp 67) (.const (.int .i64 1)) (a.get 67) (.int .i64 1) σ,some 68,fun _=>some true⟩,
 ⟨fun a σ=>.enter 11 [(a.get 66),(a.get 68)] σ,some 69,fun _=>some true⟩,
 ⟨fun a σ=>.enter 68 [(a.get 65),(a.get 69)] σ,some 70,fun _=>some true⟩,
 ⟨fun a σ=>fstore 4 (a.get 4) (a.get 70) σ,none,fun _=>some true⟩]
def XS:List COp:=RP ()
def Alp(E:Env)(ro:Option Nat)(fn:FuncId):RunF:=(seqR (fops E ro Af9) (seqR (seqR (fops E ro Aga) (condR (fun a=>(a.get 12)) (seqR (seqR (fops E ro Age) (blockR 0 (seqR (fops E ro Agf) (condR (fun a=>(a.get 15)) (seqR (fops E ro Agg) retR) (seqR (fops E ro Agi) (condR (fun a=>(a.get 18)) (seqR (fops E ro Agj) retR) (seqR (fops E ro Agl) (condR (fun a=>(a.get 23)) (seqR (fops E ro Agm) retR) (seqR (fops E ro Ago) (condR (fun a=>(a.get 29)) (seqR (fops E ro XM) retR) skipR)))))))))) (seqR (fops E ro XN) retR)) skipR)) (seqR (seqR (fops E ro XO) (condR (fun a=>(a.get 44)) (seqR (fops E ro XP) (seqR (seqR (fops E ro XQ) (blockR 1 (loopR (keepOf nls fn) (Vs E ro fn)))) (seqR (fops E ro XR) retR))) skipR)) (seqR (fops E ro XS) retR))))
theorem Nh:fops E ro Af9 a u σ=fops E ro (Ng ()) a u σ:=rfl
theorem Nj:fops E ro Aga a u σ=fops E ro (Ni ()) a u σ:=rfl
theorem HA:fops E ro Age a u σ=fops E ro (Jd ()) a u σ:=rfl
theorem HB:fops E ro Agf a u σ=fops E ro (Je ()) a u σ:=rfl
theorem Agh:fops E ro Agg a u σ=fops E ro (XT ()) a u σ:=rfl
theorem JQ:fops E ro Agi a u σ=fops E ro (Ky ()) a u σ:=rfl
theorem Agk:fops E ro Agj a u σ=fops E ro (XU ()) a u σ:=rfl
theorem Nl:fops E ro Agl a u σ=fops E ro (Nk ()) a u σ:=rfl
theorem Agn:fops E ro Agm a u σ=fops E ro (XV ()) a u σ:=rfl
theorem VK:fops E ro Ago a u σ=fops E ro (RQ ()) a u σ:=rfl
theorem AcA:fops E ro XM a u σ=fops E ro (RI ()) a u σ:=rfl
theorem AcB:fops E ro XN a u σ=fops E ro (RJ ()) a u σ:=rfl
theorem PG:fops E ro XO a u σ=fops E ro (LG ()) a u σ:=rfl
theorem AcC:fops E ro XP a u σ=fops E ro (RK ()) a u σ:=rfl
theorem AcD:fops E ro XQ a u σ=fops E ro (RL ()) a u σ:=rfl
theorem PH:fops E ro Agb a u σ=fops E ro (LH ()) a u σ:=rfl
theorem AcF:fdraw E ro last Agd cl a u σ=fdraw E ro last (RN ()) cl a u σ:=rfl
theorem AcE:fops E ro Agc a u σ=fops E ro (RM ()) a u σ:=rfl
theorem AcG:fops E ro XR a u σ=fops E ro (RO ()) a u σ:=rfl
theorem AcH:fops E ro XS a u σ=fops E ro (RP ()) a u σ:=rfl
theorem Art(E:Env)(ro:Option Nat)(fn:FuncId):code Tryz.prog nls (Tryz.f11.body.getD .skip) E ro fn=Alp E ro fn:=by kernel_rfl
theorem Aad(E:Env)(args:List Value)(u:Option FrameMode)(σ:FState)(hn:args.length≤(7:Nat)):fcall Tryz.prog nls E 11 args u σ=leaveR Tryz.prog E [.cell 4 24] (Alp E none 11 ⟨padTo undef 7 args,fun _=>undef,7,71,[]⟩ u σ):=by
 rw[Ao (body:=Tryz.f11.body.getD .skip) Tryz.func11 rfl E args u σ 7 71 (by kernel_rfl) rfl ⟨hn,by decide⟩,Art]
 rfl
def XX(_:Unit):List COp:=[⟨fun a σ=>.val (.pointer none) σ,some 2,fun _=>some true⟩]
def Ao3:List COp:=XX ()
def XY(_:Unit):List COp:=[⟨fun a σ=>.val (a.get 0) σ,some 3,fun _=>some true⟩,
 ⟨fun a σ=>fbuild (fun i=>nth [(0,1),(1,1),(2,1)] i) [(.slice none 0 0),(.int .i64 0),(.int .u64 0)] [(0,(a.get 3)),(2,(.int .u64 2611923443488327891))] σ,some 4,fun _=>some true⟩,
 ⟨fun a σ=>fbox 87 (a.get 4) σ,some 5,fun _=>some true⟩,
 ⟨fun a σ=>.val (a.get 5) σ,some 2,fun _=>some true⟩]
def Ao4:List COp:=XY ()
def Alq(E:Env)(ro:Option Nat)(fn:FuncId):RunF:=(seqR (fops E ro Ao3) (seqR (fops E ro Ao4) retR))
theorem AgR:fops E ro Ao3 a u σ=fops E ro (XX ()) a u σ:=rfl
theorem AgS:fops E ro Ao4 a u σ=fops E ro (XY ()) a u σ:=rfl
theorem Aru(E:Env)(ro:Option Nat)(fn:FuncId):code Tryz.prog nls (Tryz.f12.body.getD .skip) E ro fn=Alq E ro fn:=by kernel_rfl
theorem Am7(E:Env)(args:List Value)(u:Option FrameMode)(σ:FState)(hn:args.length≤(2:Nat)):fcall Tryz.prog nls E 12 args u σ=leaveR Tryz.prog E [.tmp 2] (Alq E none 12 ⟨padTo undef 2 args,fun _=>undef,2,6,[]⟩ u σ):=by
 rw[Ao (body:=Tryz.f12.body.getD .skip) Tryz.func12 rfl E args u σ 2 6 (by kernel_rfl) rfl ⟨hn,by decide⟩,Aru]
 rfl
def YV(_:Unit):List COp:=[⟨fun a σ=>newCells [(.int .i64 0),(.int .i64 0),(.string ⟨#[]⟩),(.slice none 0 0)] 24 none σ,some 2,fun _=>some true⟩]
def Aqn:List COp:=YV ()
def YW(_:Unit):List COp:=[⟨fun a σ=>.val (a.get 0) σ,some 3,fun _=>some true⟩,
 ⟨fun a σ=>fbuild (fun i=>nth [(0,1),(1,1),(2,1),(3,1)] i) [(.int .i64 0),(.int .i64 0),(.string ⟨#[]⟩),(.slice none 0 0)] [(0,(.int .i64 2)),(1,(a.get 3))] σ,some 4,fun _=>some true⟩,
 ⟨fun a σ=>fstore 4 (a.get 2) (a.get 4) σ,none,fun _=>some true⟩]
def Aqo:List COp:=YW ()
def AlG(E:Env)(ro:Option Nat)(fn:FuncId):RunF:=(seqR (fops E ro Aqn) (seqR (fops E ro Aqo) retR))
theorem AkA:fops E ro Aqn a u σ=fops E ro (YV ()) a u σ:=rfl
theorem AkB:fops E ro Aqo a u σ=fops E ro (YW ()) a u σ:=rfl
theorem ArL(E:Env)(ro:Option Nat)(fn:FuncId):code Tryz.prog nls (Tryz.f65.body.getD .skip) E ro fn=AlG E ro fn:=by kernel_rfl
theorem Ano(E:Env)(args:List Value)(u:Option FrameMode)(σ:FState)(hn:args.length≤(2:Nat)):fcall Tryz.prog nls E 65 args u σ=leaveR Tryz.prog E [.cell 2 24] (AlG E none 65 ⟨padTo undef 2 args,fun _=>undef,2,5,[]⟩ u σ):=by
 rw[Ao (body:=Tryz.f65.body.getD .skip) Tryz.func65 rfl E args u σ 2 5 (by kernel_rfl) rfl ⟨hn,by decide⟩,ArL]
 rfl
def YR(_:Unit):List COp:=[⟨fun a σ=>newCells [(.int .i64 0),(.int .i64 0),(.string ⟨#[]⟩),(.slice none 0 0)] 24 none σ,some 2,fun _=>some true⟩]
def Aqj:List COp:=YR ()
def YS(_:Unit):List COp:=[⟨fun a σ=>.val (a.get 0) σ,some 3,fun _=>some true⟩,
 ⟨fun a σ=>fbuild (fun i=>nth [(0,1),(1,1),(2,1),(3,1)] i) [(.int .i64 0),(.int .i64 0),(.string ⟨#[]⟩),(.slice none 0 0)] [(0,(.int .i64 3)),(2,(a.get 3))] σ,some 4,fun _=>some true⟩,
 ⟨fun a σ=>fstore 4 (a.get 2) (a.get 4) σ,none,fun _=>some true⟩]
def Aqk:List COp:=YS ()
def AlE(E:Env)(ro:Option Nat)(fn:FuncId):RunF:=(seqR (fops E ro Aqj) (seqR (fops E ro Aqk) retR))
theorem Akw:fops E ro Aqj a u σ=fops E ro (YR ()) a u σ:=rfl
theorem Akx:fops E ro Aqk a u σ=fops E ro (YS ()) a u σ:=rfl
theorem ArJ(E:Env)(ro:Option Nat)(fn:FuncId):code Tryz.prog nls (Tryz.f63.body.getD .skip) E ro fn=AlE E ro fn:=by kernel_rfl
theorem Anm(E:Env)(args:List Value)(u:Option FrameMode)(σ:FState)(hn:args.length≤(2:Nat)):fcall Tryz.prog nls E 63 args u σ=leaveR Tryz.prog E [.cell 2 24] (AlE E none 63 ⟨padTo undef 2 args,fun _=>undef,2,5,[]⟩ u σ):=by
 rw[Ao (body:=Tryz.f63.body.getD .skip) Tryz.func63 rfl E args u σ 2 5 (by kernel_rfl) rfl ⟨hn,by decide⟩,ArJ]
 rfl
def YL(_:Unit):List COp:=[⟨fun a σ=>newCells [(.int .i64 0),(.int .i64 0),(.string ⟨#[]⟩),(.slice none 0 0)] 24 none σ,some 2,fun _=>some true⟩]
def Aqb:List COp:=YL ()
def YM(_:Unit):List COp:=[⟨fun a σ=>.val (a.get 0) σ,some 3,fun _=>some true⟩,
 ⟨fun a σ=>fbuild (fun i=>nth [(0,1),(1,1),(2,1),(3,1)] i) [(.int .i64 0),(.int .i64 0),(.string ⟨#[]⟩),(.slice none 0 0)] [(0,(.int .i64 4)),(2,(a.get 3))] σ,some 4,fun _=>some true⟩,
 ⟨fun a σ=>fstore 4 (a.get 2) (a.get 4) σ,none,fun _=>some true⟩]
def Aqc:List COp:=YM ()
def AlB(E:Env)(ro:Option Nat)(fn:FuncId):RunF:=(seqR (fops E ro Aqb) (seqR (fops E ro Aqc) retR))
theorem Akq:fops E ro Aqb a u σ=fops E ro (YL ()) a u σ:=rfl
theorem Akr:fops E ro Aqc a u σ=fops E ro (YM ()) a u σ:=rfl
theorem ArG(E:Env)(ro:Option Nat)(fn:FuncId):code Tryz.prog nls (Tryz.f59.body.getD .skip) E ro fn=AlB E ro fn:=by kernel_rfl
theorem Anj(E:Env)(args:List Value)(u:Option FrameMode)(σ:FState)(hn:args.length≤(2:Nat)):fcall Tryz.prog nls E 59 args u σ=leaveR Tryz.prog E [.cell 2 24] (AlB E none 59 ⟨padTo undef 2 args,fun _=>undef,2,5,[]⟩ u σ):=by
 rw[Ao (body:=Tryz.f59.body.getD .skip) Tryz.func59 rfl E args u σ 2 5 (by kernel_rfl) rfl ⟨hn,by decide⟩,ArG]
 rfl
def Tn(_:Unit):List COp:=[⟨fun a σ=>newCells [(.int .i64 0),(.int .i64 0),(.string ⟨#[]⟩),(.slice none 0 0)] 24 none σ,some 2,fun _=>some true⟩]
def Aqf:List COp:=Tn ()
def Tp(_:Unit):List COp:=[⟨fun a σ=>.val (a.get 0) σ,some 3,fun _=>some true⟩]
def Aqg:List COp:=Tp ()
def YP(_:Unit):List COp:=[⟨fun a σ=>fbuild (fun i=>nth [(0,1),(1,1),(2,1),(3,1)] i) [(.int .i64 0),(.int .i64 0),(.string ⟨#[]⟩),(.slice none 0 0)] [(0,(.int .i64 1)),(1,(.int .i64 1))] σ,some 4,fun _=>some true⟩,
 ⟨fun a σ=>fstore 4 (a.get 2) (a.get 4) σ,none,fun _=>some true⟩]
def Aqh:List COp:=YP ()
def YQ(_:Unit):List COp:=[⟨fun a σ=>fbuild (fun i=>nth [(0,1),(1,1),(2,1),(3,1)] i) [(.int .i64 0),(.int .i64 0),(.string ⟨#[]⟩),(.slice none 0 0)] [(0,(.int .i64 1))] σ,some 5,fun _=>some true⟩,
 ⟨fun a σ=>fstore 4 (a.get 2) (a.get 5) σ,none,fun _=>some true⟩]
def Aqi:List COp:=YQ ()
def AlD(E:Env)(ro:Option Nat)(fn:FuncId):RunF:=(seqR (fops E ro Aqf) (seqR (seqR (fops E ro Aqg) (condR (fun a=>(a.get 3)) (seqR (fops E ro Aqh) retR) skipR)) (seqR (fops E ro Aqi) retR)))
theorem V8:fops E ro Aqf a u σ=fops E ro (Tn ()) a u σ:=rfl
theorem V9:fops E ro Aqg a u σ=fops E ro (Tp ()) a u σ:=rfl
theorem Aku:fops E ro Aqh a u σ=fops E ro (YP ()) a u σ:=rfl
theorem Akv:fops E ro Aqi a u σ=fops E ro (YQ ()) a u σ:=rfl
theorem ArI(E:Env)(ro:Option Nat)(fn:FuncId):code Tryz.prog nls (Tryz.f62.body.getD .skip) E ro fn=AlD E ro fn:=by kernel_rfl
theorem Anl(E:Env)(args:List Value)(u:Option FrameMode)(σ:FState)(hn:args.length≤(2:Nat)):fcall Tryz.prog nls E 62 args u σ=leaveR Tryz.prog E [.cell 2 24] (AlD E none 62 ⟨padTo undef 2 args,fun _=>undef,2,6,[]⟩ u σ):=by
 rw[Ao (body:=Tryz.f62.body.getD .skip) Tryz.func62 rfl E args u σ 2 6 (by kernel_rfl) rfl ⟨hn,by decide⟩,ArI]
 rfl
def Y1(_:Unit):List COp:=[⟨fun a σ=>fbox 24 (a.get 0) σ,some 2,fun _=>some true⟩,
 ⟨fun a σ=>fbox 24 (a.get 1) σ,some 3,fun _=>some true⟩,
 ⟨fun a σ=>newCells [(.int .i64 0),(.int .i64 0),(.string ⟨#[]⟩),(.slice none 0 0)] 24 none σ,some 4,fun _=>some true⟩]
def Aqt:List COp:=Y1 ()
def Y2(_:Unit):List COp:=[⟨fun a σ=>fload (some 4) (a.get 2) σ,some 5,fun _=>some true⟩,
 ⟨fun a σ=>fload (some 4) (a.get 3) σ,some 6,fun _=>some true⟩,
 ⟨fun a σ=>fbuildSlice 24 2 4 [(.int .i64 0),(.int .i64 0),(.string ⟨#[]⟩),(.slice none 0 0)] [(0,(a.get 5)),(1,(a.get 6))] σ,some 7,fun _=>some true⟩,
 ⟨fun a σ=>fbuild (fun i=>nth [(0,1),(1,1),(2,1),(3,1)] i) [(.int .i64 0),(.int .i64 0),(.string ⟨#[]⟩),(.slice none 0 0)] [(0,(.int .i64 5)),(3,(a.get 7))] σ,some 8,fun _=>some true⟩,
 ⟨fun a σ=>fstore 4 (a.get 4) (a.get 8) σ,none,fun _=>some true⟩]
def Aqu:List COp:=Y2 ()
def AlJ(E:Env)(ro:Option Nat)(fn:FuncId):RunF:=(seqR (fops E ro Aqt) (seqR (fops E ro Aqu) retR))
theorem AkG:fops E ro Aqt a u σ=fops E ro (Y1 ()) a u σ:=rfl
theorem AkH:fops E ro Aqu a u σ=fops E ro (Y2 ()) a u σ:=rfl
theorem ArO(E:Env)(ro:Option Nat)(fn:FuncId):code Tryz.prog nls (Tryz.f68.body.getD .skip) E ro fn=AlJ E ro fn:=by kernel_rfl
theorem Anr(E:Env)(args:List Value)(u:Option FrameMode)(σ:FState)(hn:args.length≤(4:Nat)):fcall Tryz.prog nls E 68 args u σ=leaveR Tryz.prog E [.cell 4 24] (AlJ E none 68 ⟨padTo undef 4 args,fun _=>undef,4,9,[]⟩ u σ):=by
 rw[Ao (body:=Tryz.f68.body.getD .skip) Tryz.func68 rfl E args u σ 4 9 (by kernel_rfl) rfl ⟨hn,by decide⟩,ArO]
 rfl
end
section
open Go Go.Eng
attribute [local congr] Ab
def Ints(σ:FState)(p:Option Addr)(l:List Int):Prop:=∀(i:Nat) (n:Int),l[i]? = some n→∃b off cs,p=some ⟨b,off,none⟩∧σ.cells b=some cs∧cs[off+i]? = some (.int .i64 n)
def Coil(σ:FState)(x k:Nat):Prop:=∃p l cp m ver,σ.heap.get x=some ⟨.cells [.slice p l.length cp,.int .i64 (.ofNat k),.int .u64 m] 87,false,none,ver⟩∧Ints σ p l∧l.length<9223372036854775808∧∀a,p=some a→a.block<x
theorem AoW(n:Nat)(x k:Nat)(hk:k<1000000000000)(σ:FState)(hw:Wf σ)(hC:Coil σ x k):
  ∃m σ',(env (n+1)).call 86 [.pointer (some ⟨x,0,none⟩)] none σ=.ret (.int .u64 m) none σ'∧0≤m∧m<18446744073709551616∧ExtC x σ σ'∧Wf σ'∧Coil σ' x (k+1):=by
 obtain⟨p,l,cp,m,ver,hc,hl,hll,hp⟩:=hC
 rw[Ak _ 86 _ _ rfl,Anv _ _ _ _ (by simp),Aj]
 unfold AlN
 have hcc:σ.cells x=some [.slice p l.length cp,.int .i64 (.ofNat k),.int .u64 m]:=by rw[AG,hc];rfl
 have hv:=D0 hw (Nat.le_refl _)
 have cv1:∀n σ,fun1 Tryz.prog (convert 3 85) (.int .i64 n) σ=.val (.int .u64 (IntKind.u64.wrap n)) σ:=fun n σ=>by kernel_rfl
 have hx:x<σ.next:=(hw x _ hc).1
 have hwr:wrapI (Int.ofNat k+1)=Int.ofNat (k+1):=by
  rw[Dk (by rw[Int.ofNat_eq_natCast];omega)];rfl
 have part1:∀(f g:Nat→Value) (Y:Int),f 0=.pointer (some ⟨x,0,none⟩)→f 3=.int .u64 Y→∃f1 g1 X,
   andThen (fdraw (env n) none (fun _ a u σ=>.done .normal a u σ) Ak9 [σ.clock] (Sl 4 83 f g []) none σ) (condR (fun a=>a.get 19) (drawR (env n) none Ala) skipR)=.done .normal (Sl 4 83 f1 g1 []) none σ∧
   f1 0=.pointer (some ⟨x,0,none⟩)∧f1 3=.int .u64 X:=by
  intro f g Y p0 p3
  by_cases hlt:k<l.length
  ·have hd:decide (Int.ofNat k<Int.ofNat l.length)=true:=by simp;omega
   obtain⟨b,off,cs,rfl,hcs,hci⟩:=hl k l[k] (List.getElem?_eq_getElem hlt)
   simp -implicitDefEqProofs only[go_sem,Wu,TN,Alb,Zl,p0,p3,hcc,hv,cv1,hd,hlt,hcs,hci]
   exact⟨_,_,_,rfl,by simp -implicitDefEqProofs only[go_sem,reduceCtorEq,p0],by simp -implicitDefEqProofs only[go_sem,reduceCtorEq]<;>rfl⟩
  ·have hd:decide (Int.ofNat k<Int.ofNat l.length)=false:=by simp;omega
   simp -implicitDefEqProofs only[go_sem,Wu,TN,p0,p3,hcc,hv,cv1,hd]
   exact⟨_,_,_,rfl,p0,p3⟩
 have put_step:∀(τ:FState) (c:List Value),Wf τ→ExtC x σ τ→Wf (τ.put x (.cells c 87) none)∧ExtC x σ (τ.put x (.cells c 87) none)∧(τ.put x (.cells c 87) none).heap.get x=some ⟨.cells c 87,false,none,τ.clock⟩∧(τ.put x (.cells c 87) none).clock=τ.clock+1:=fun τ c h1 h2=>
  ⟨h1.put _ _ _ (Nat.lt_of_lt_of_le hx h2.next),h2.put _ _,by rw[Am,if_pos rfl],rfl⟩
 simp -implicitDefEqProofs only[go_sem,Ak7,Zj,Ak8,Zk,hcc,cv1]
 generalize hf:upd _ _ _=f0
 generalize hg:upd _ _ _=g0
 obtain⟨f1,g1,X,e1,p0,p3⟩:=part1 f0 g0 _ (by rw[←hf];simp -implicitDefEqProofs only[go_sem,reduceCtorEq]) (by rw[←hf];simp -implicitDefEqProofs only[go_sem,reduceCtorEq]<;>rfl)
 clear hf hg
 rw[e1]
 simp -implicitDefEqProofs only[go_sem,Alc,Zm,p0,p3,hcc,hc,hwr]
 obtain⟨w1,x1,c1,k1⟩:=put_step σ [.slice p l.length cp,.int .i64 (.ofNat (k+1)),.int .u64 m] hw (ExtC.refl _ _)
 generalize FState.put σ x _ _=σ1 at w1 x1 c1 k1 ⊢
 have d1:=AB c1
 generalize upd g1 _ _=g2
 simp -implicitDefEqProofs only[go_sem,Ald,Zn,p0,p3,d1,c1]
 obtain⟨w2,x2,c2,k2⟩:=put_step σ1 [.slice p l.length cp,.int .i64 (.ofNat (k+1)),.int .u64 (IntKind.u64.wrap (IntKind.u64.wrap (m+X)*589684135938649225))] w1 x1
 generalize FState.put σ1 x _ _=σ2 at w2 x2 c2 k2 ⊢
 generalize IntKind.u64.wrap (IntKind.u64.wrap (m+X)*589684135938649225)=m2 at c2 ⊢
 have d2:=AB c2
 have v2:=D0 (lam:=σ1.clock+1) w2 (Nat.le_of_eq k2)
 generalize upd _ _ _=g3
 simp -implicitDefEqProofs only[go_sem,Ale,Zo,p0,p3,d2,c2,v2]
 obtain⟨w3,x3,c3,k3⟩:=put_step σ2 [.slice p l.length cp,.int .i64 (.ofNat (k+1)),.int .u64 (xorI m2 (m2.fdiv 4294967296))] w2 x2
 generalize FState.put σ2 x _ _=σ3 at w3 x3 c3 k3 ⊢
 generalize xorI m2 (m2.fdiv 4294967296)=m3 at c3 ⊢
 have d3:=AB c3
 generalize upd _ _ _=g4
 simp -implicitDefEqProofs only[go_sem,Alf,Zp,p0,p3,d3,c3]
 obtain⟨w4,x4,c4,k4⟩:=put_step σ3 [.slice p l.length cp,.int .i64 (.ofNat (k+1)),.int .u64 (IntKind.u64.wrap (m3*4983270260364809079))] w3 x3
 generalize FState.put σ3 x _ _=σ4 at w4 x4 c4 k4 ⊢
 generalize IntKind.u64.wrap (m3*4983270260364809079)=m4 at c4 ⊢
 have d4:=AB c4
 have v4:=D0 (lam:=σ3.clock+1) w4 (Nat.le_of_eq k4)
 generalize upd _ _ _=g5
 simp -implicitDefEqProofs only[go_sem,Alg,Zq,p0,p3,d4,c4,v4]
 refine⟨_,_,rfl,?_,?_,x4,w4,p,l,cp,m4,_,c4,?_,hll,hp⟩
 ·have:=Oz m4 (m4.fdiv 134217728)
  rw[Int.fdiv_eq_ediv_of_nonneg _ (by omega)]
  omega
 ·have:=Oz m4 (m4.fdiv 134217728)
  rw[Int.fdiv_eq_ediv_of_nonneg _ (by omega)]
  omega
 ·intro i z hi
  obtain⟨b,off,cs,hb,h1,h2⟩:=hl i z hi
  exact⟨b,off,cs,hb,(x4.cells (hw.cells h1) (Nat.ne_of_lt (hp _ hb))).trans h1,h2⟩
structure Wound (x k k':Nat) (σ σ':FState):Prop where
 ext:ExtC x σ σ'
 wf:Wf σ'
 coil:Coil σ' x k'
theorem Ov(n:Nat)(x k:Nat)(m:Int)(hm:m<1000000)(hk:k<1000000000000)(σ:FState)(hw:Wf σ)(hC:Coil σ x k):
  ∃r σ',(env (n+2)).call 24 [.pointer (some ⟨x,0,none⟩),.int .i64 m] none σ=.ret (.int .i64 r) none σ'∧0≤r∧(r≤m∨r=0)∧Wound x k (k+1) σ σ':=by
 obtain⟨w,σ1,e,h0,h1,hx,hw1,hC1⟩:=AoW n x k hk σ hw hC
 have cv1:∀n σ,fun1 Tryz.prog (convert 3 85) (.int .i64 n) σ=.val (.int .u64 (IntKind.u64.wrap n)) σ:=fun n σ=>by kernel_rfl
 have cv2:∀n σ,fun1 Tryz.prog (convert 85 3) (.int .u64 n) σ=.val (.int .i64 (IntKind.i64.wrap n)) σ:=fun n σ=>by kernel_rfl
 rw[Ak _ 24 _ _ rfl,Anc _ _ _ _ (by simp),Aj]
 unfold Alv
 by_cases hlt:m<1
 ·have hd:decide (m<1)=true:=by simpa using hlt
  simp -implicitDefEqProofs only[go_sem,VQ,S5,VR,S9,VS,S_,Aj5,Yq,e,hd]
  exact⟨_,_,rfl,Int.le_refl _,.inr rfl,hx,hw1,hC1⟩
 ·have hd:decide (m<1)=false:=by simpa using hlt
  have hwr:wrapI (m+1)=m+1:=Dk (by omega)
  have hu:IntKind.u64.wrap (m+1)=m+1:=Al8 (by omega)
  have hr:=fun(x y:Operand) (σ:FState)=>AoK Tryz.prog 85 x y w (m+1) σ (by omega)
  have ht:w.tmod (m+1)=w % (m+1):=Int.tmod_eq_emod_of_nonneg h0
  have hlo:=Int.emod_nonneg w (show m+1≠0 by omega)
  have hhi:=Int.emod_lt_of_pos w (show 0<m+1 by omega)
  have hs:IntKind.i64.wrap (w % (m+1))=w % (m+1):=Al7 (by omega)
  simp -implicitDefEqProofs only[go_sem,VQ,S5,VR,S9,VS,S_,Aj6,Yr,e,hd,hwr,cv1,cv2,hu,hr,ht,hs]
  exact⟨_,_,rfl,hlo,.inl (by omega),hx,hw1,hC1⟩
theorem Q6(n:Nat)(x k:Nat)(m:Int)(hm:1≤m∧m<1000000)(hk:k<1000000000000)(σ:FState)(hw:Wf σ)(hC:Coil σ x k):
  ∃r σ',(env (n+3)).call 61 [.pointer (some ⟨x,0,none⟩),.int .i64 m] none σ=.ret (.bool r) none σ'∧Wound x k (k+1) σ σ':=by
 obtain⟨w,σ1,e,h0,h1,hW⟩:=Ov n x k (m-1) (by omega) hk σ hw hC
 rw[Ak _ 61 _ _ rfl,Ank _ _ _ _ (by simp),Aj]
 unfold AlC
 have hwr:wrapI (m-1)=m-1:=Dk (by omega)
 simp -implicitDefEqProofs only[go_sem,Aks,YN,Akt,YO,hwr,e]
 exact⟨_,_,rfl,hW⟩
theorem Aak(n:Nat)(x k:Nat)(lo hi:Int)(hm : -1000000<lo∧lo≤hi∧hi<1000000∧hi-lo<1000000)(hk:k<1000000000000)(σ:FState)(hw:Wf σ)(hC:Coil σ x k):
  ∃r σ',(env (n+3)).call 67 [.pointer (some ⟨x,0,none⟩),.int .i64 lo,.int .i64 hi] none σ=.ret (.int .i64 r) none σ'∧lo≤r∧r≤hi∧Wound x k (k+1) σ σ':=by
 obtain⟨w,σ1,e,h0,h1,hW⟩:=Ov n x k (hi-lo) (by omega) hk σ hw hC
 rw[Ak _ 67 _ _ rfl,Anq _ _ _ _ (by simp),Aj]
 unfold AlI
 have hwr:wrapI (hi-lo)=hi-lo:=Dk (by omega)
 have hwr2:wrapI (lo+w)=lo+w:=Dk (by omega)
 simp -implicitDefEqProofs only[go_sem,AkE,YZ,AkF,Y0,hwr,e,hwr2]
 exact⟨_,_,rfl,by omega,by omega,hW⟩
theorem Asc(n:Nat)(x k:Nat)(b off len c:Nat)(cs:List Value)(hl:1≤len∧len<1000000)(hk:k<1000000000000)(σ:FState)(hw:Wf σ)(hC:Coil σ x k)(hc:σ.cells b=some cs)(hb:b≠x)(hcs:off+len≤cs.length):
  ∃i v σ',(env (n+3)).call 66 [.pointer (some ⟨x,0,none⟩),.slice (some ⟨b,off,none⟩) len c] none σ=.ret v none σ'∧i<len∧cs[off+i]? = some v∧Wound x k (k+1) σ σ':=by
 obtain⟨w,σ1,e,h0,h1,hW⟩:=Ov n x k (Int.ofNat len-1) (by rw[Int.ofNat_eq_natCast];omega) hk σ hw hC
 obtain⟨i,rfl⟩:∃i:Nat,w=Int.ofNat i:=⟨w.toNat,by rw[Int.ofNat_eq_natCast];omega⟩
 have hi:i<len:=by rw[Int.ofNat_eq_natCast,Int.ofNat_eq_natCast] at h1;omega
 rw[Ak _ 66 _ _ rfl,Anp _ _ _ _ (by simp),Aj]
 unfold AlH
 have hwr:wrapI (Int.ofNat len-1)=Int.ofNat len-1:=Dk (by rw[Int.ofNat_eq_natCast];omega)
 have hc1:σ1.cells b=some cs:=(hW.ext.cells (hw.cells hc) hb).trans hc
 have hv:cs[off+i]? = some cs[off+i]:=List.getElem?_eq_getElem (by omega)
 simp -implicitDefEqProofs only[go_sem,AkC,YX,AkD,YY,hwr,e,hi,hc1,hv]
 exact⟨i,_,_,rfl,hi,hv,hW⟩
theorem Abc(n:Nat)(x k:Nat)(b off len c:Nat)(cs:List Value)(hl:1≤len∧len<1000000)(hk:k<1000000000000)(σ:FState)(hw:Wf σ)(hC:Coil σ x k)(hc:σ.cells b=some cs)(hb:b≠x)(hcs:off+len≤cs.length):
  ∃i v σ',(env (n+3)).call 64 [.pointer (some ⟨x,0,none⟩),.slice (some ⟨b,off,none⟩) len c] none σ=.ret v none σ'∧i<len∧cs[off+i]? = some v∧Wound x k (k+1) σ σ':=by
 obtain⟨w,σ1,e,h0,h1,hW⟩:=Ov n x k (Int.ofNat len-1) (by rw[Int.ofNat_eq_natCast];omega) hk σ hw hC
 obtain⟨i,rfl⟩:∃i:Nat,w=Int.ofNat i:=⟨w.toNat,by rw[Int.ofNat_eq_natCast];omega⟩
 have hi:i<len:=by rw[Int.ofNat_eq_natCast,Int.ofNat_eq_natCast] at h1;omega
 rw[Ak _ 64 _ _ rfl,Ann _ _ _ _ (by simp),Aj]
 unfold AlF
 have hwr:wrapI (Int.ofNat len-1)=Int.ofNat len-1:=Dk (by rw[Int.ofNat_eq_natCast];omega)
 have hc1:σ1.cells b=some cs:=(hW.ext.cells (hw.cells hc) hb).trans hc
 have hv:cs[off+i]? = some cs[off+i]:=List.getElem?_eq_getElem (by omega)
 simp -implicitDefEqProofs only[go_sem,Aky,YT,Akz,YU,hwr,e,hi,hc1,hv]
 exact⟨i,_,_,rfl,hi,hv,hW⟩
end
section
open Go Go.Eng
attribute [local congr] Ab Ah Af Ad Ae
attribute [-go_sem] List.range_succ
theorem BJ:aggSize Tryz.prog 24=some (some 4):=by kernel_rfl
theorem Asb(n:Nat)(z:Int)(σ:FState)(hw:Wf σ):
  Gives ((env (n+1)).call 65 [.int .i64 z] none σ) σ fun v _=>v=.agg #[.int .i64 2,.int .i64 z,.string ⟨#[]⟩,.slice none 0 0]:=by
 rw[Ak _ 65 _ _ rfl,Ano _ _ _ _ (by simp),Aj]
 unfold AlG
 simp -implicitDefEqProofs only[go_sem,Aw,AkA,YV,AkB,YW,BJ]
 exact⟨_,_,rfl,((Ext.refl σ).push _ _).put _ _ _ (Nat.le_refl _),(hw.push _ _).put _ _ _ (Nat.lt_succ_self _),rfl⟩
theorem AsU(n:Nat)(s:ByteArray)(σ:FState)(hw:Wf σ):
  Gives ((env (n+1)).call 63 [.string s] none σ) σ fun v _=>v=.agg #[.int .i64 3,.int .i64 0,.string s,.slice none 0 0]:=by
 rw[Ak _ 63 _ _ rfl,Anm _ _ _ _ (by simp),Aj]
 unfold AlE
 simp -implicitDefEqProofs only[go_sem,Aw,Akw,YR,Akx,YS,BJ]
 exact⟨_,_,rfl,((Ext.refl σ).push _ _).put _ _ _ (Nat.le_refl _),(hw.push _ _).put _ _ _ (Nat.lt_succ_self _),rfl⟩
theorem AsS(n:Nat)(s:ByteArray)(σ:FState)(hw:Wf σ):
  Gives ((env (n+1)).call 59 [.string s] none σ) σ fun v _=>v=.agg #[.int .i64 4,.int .i64 0,.string s,.slice none 0 0]:=by
 rw[Ak _ 59 _ _ rfl,Anj _ _ _ _ (by simp),Aj]
 unfold AlB
 simp -implicitDefEqProofs only[go_sem,Aw,Akq,YL,Akr,YM,BJ]
 exact⟨_,_,rfl,((Ext.refl σ).push _ _).put _ _ _ (Nat.le_refl _),(hw.push _ _).put _ _ _ (Nat.lt_succ_self _),rfl⟩
theorem Amf(n:Nat)(b:Bool)(σ:FState)(hw:Wf σ):
  Gives ((env (n+1)).call 62 [.bool b] none σ) σ fun v _=>v=.agg #[.int .i64 1,.int .i64 (if b=true then 1 else 0),.string ⟨#[]⟩,.slice none 0 0]:=by
 rw[Ak _ 62 _ _ rfl,Anl _ _ _ _ (by simp),Aj]
 unfold AlD
 cases b with
 | true=>
  simp -implicitDefEqProofs only[go_sem,Aw,V8,Tn,V9,Tp,Aku,YP,BJ]
  exact⟨_,_,rfl,((Ext.refl σ).push _ _).put _ _ _ (Nat.le_refl _),(hw.push _ _).put _ _ _ (Nat.lt_succ_self _),rfl⟩
 | false=>
  simp -implicitDefEqProofs only[go_sem,Aw,V8,Tn,V9,Tp,Akv,YQ,BJ]
  exact⟨_,_,rfl,((Ext.refl σ).push _ _).put _ _ _ (Nat.le_refl _),(hw.push _ _).put _ _ _ (Nat.lt_succ_self _),rfl⟩
end
section
open Go Go.Eng
attribute [local congr] Ab Ah Af Ad Ae
attribute [-go_sem] List.range_succ
def symTexts:List ByteArray:=[⟨#[97]⟩,⟨#[98]⟩,⟨#[120]⟩,⟨#[105,102]⟩,⟨#[108,105,115,116]⟩,⟨#[97,45,98]⟩,⟨#[110,117,108,108,63]⟩,⟨#[43]⟩]
def strTexts:List ByteArray:=[⟨#[]⟩,⟨#[97]⟩,⟨#[116,119,111,32,119,111,114,100,115]⟩,⟨#[113,34,113]⟩,⟨#[98,92]⟩]
inductive Leaf:D→Prop
 | nil:Leaf (.mk 0 0 ⟨#[]⟩ [])
 | bool (b:Bool):Leaf (.mk 1 (if b=true then 1 else 0) ⟨#[]⟩ [])
 | num (z:Int) (h : -999≤z∧z≤999):Leaf (.mk 2 z ⟨#[]⟩ [])
 | sym (t:ByteArray) (h:t∈symTexts):Leaf (.mk 3 0 t [])
 | str (t:ByteArray) (h:t∈strTexts):Leaf (.mk 4 0 t [])
inductive Made:Nat→D→Prop
 | leaf (L:Nat) (d:D) (h:Leaf d):Made L d
 | pair (L:Nat) (a b:D) (ha:Made L a) (hb:Made L b):Made (L+1) (.mk 5 0 ⟨#[]⟩ [a,b])
 | vec (L:Nat) (l:List D) (hl:l.length≤3) (h:∀d,d∈l→Made L d):Made (L+1) (.mk 6 0 ⟨#[]⟩ l)
theorem Coil.cells{σ:FState}{x k:Nat}(h:Coil σ x k):∃c3,σ.cells x=some c3∧c3.length<4:=by
 obtain⟨p,l,cp,m,ver,hc,_⟩:=h
 exact⟨_,AB hc,by simp⟩
theorem Coil.low{σ σ':FState}{x k:Nat}(h:Coil σ x k)(hx:∀b,b≤x→σ'.heap.get b=σ.heap.get b):Coil σ' x k:=by
 obtain⟨p,l,cp,m,ver,hc,hl,hll,hp⟩:=h
 refine⟨p,l,cp,m,ver,(hx x (Nat.le_refl _)).trans hc,?_,hll,hp⟩
 intro i z hi
 obtain⟨b,off,cs,hb,h1,h2⟩:=hl i z hi
 refine⟨b,off,cs,hb,?_,h2⟩
 rw[AG,hx b (Nat.le_of_lt (hp _ hb)),←AG]
 exact h1
theorem Coil.put{σ:FState}{x k:Nat}(h:Coil σ x k)(b:Nat)(hb:x<b)(o:FObj)(fz:Option Nat):Coil (σ.put b o fz) x k:=h.low fun c hc=>by
 rw[Am,if_neg (by omega)]
theorem Coil.ext{σ σ':FState}{x k:Nat}(hw:Wf σ)(h:Coil σ x k)(hx:Ext σ σ'):Coil σ' x k:=by
 obtain⟨p,l,cp,m,ver,hc,r⟩:=h
 have hlt:=(hw x _ hc).1
 exact Coil.low ⟨p,l,cp,m,ver,hc,r⟩ fun b hb=>hx.get b (by omega)
def LeafIn(x k K bo:Nat)(σ0:FState)(r:KRes):Prop:=∃f g σ' kd n t k',r=.done .ret (Sl 7 71 f g []) none σ'∧f 4=.pointer (some ⟨bo,0,none⟩)∧
 (∃ver,σ'.heap.get bo=some ⟨.cells [.int .i64 kd,.int .i64 n,.string t,.slice none 0 0] 24,false,none,ver⟩)∧Leaf (.mk kd n t [])∧ExtC x σ0 σ'∧Wf σ'∧Coil σ' x k'∧k≤k'∧k'≤K
def leaf11(E:Env)(ro:Option Nat):RunF:=(seqR (seqR (fops E ro Age) (blockR 0 (seqR (fops E ro Agf) (condR (fun a=>(a.get 15)) (seqR (fops E ro Agg) retR) (seqR (fops E ro Agi) (condR (fun a=>(a.get 18)) (seqR (fops E ro Agj) retR) (seqR (fops E ro Agl) (condR (fun a=>(a.get 23)) (seqR (fops E ro Agm) retR) (seqR (fops E ro Ago) (condR (fun a=>(a.get 29)) (seqR (fops E ro XM) retR) skipR)))))))))) (seqR (fops E ro XN) retR))
theorem Po(n x k bo:Nat)(hk:k<100000000000)(σ0 σ:FState)(f g:Nat→Value)(h0:f 0=.pointer (some ⟨x,0,none⟩))(h4:f 4=.pointer (some ⟨bo,0,none⟩))(hw:Wf σ)(hC:Coil σ x k)(hX:ExtC x σ0 σ)(hbo:σ0.next≤bo)(hbx:x<bo)(ver:Nat)(z0 z1 z2 z3:Value)(hb:σ.heap.get bo=some ⟨.cells [z0,z1,z2,z3] 24,false,none,ver⟩):
  LeafIn x k (k+4) bo σ0 (leaf11 (env (n+3)) none (Sl 7 71 f g []) none σ):=by
 obtain⟨w,σ1,e,w0,w1,hX1,hw1,hC1⟩:=Ov (n+1) x k 6 (by omega) (by omega) σ hw hC
 have hne:bo≠x:=by omega
 unfold leaf11
 have hb1:σ1.heap.get bo=some ⟨.cells [z0,z1,z2,z3] 24,false,none,ver⟩:=(hX1.get bo (hw bo _ hb).1 hne).trans hb
 have fin:∀(τ:FState) (ver' k':Nat) (y:List Value) (kd m:Int) (t:ByteArray),ExtC x σ1 τ→Wf τ→Coil τ x k'→τ.heap.get bo=some ⟨.cells y 24,false,none,ver'⟩→k≤k'→k'≤k+4→Leaf (.mk kd m t [])→∀g',
   LeafIn x k (k+4) bo σ0 (.done .ret (Sl 7 71 f g' []) none (τ.put bo (.cells [.int .i64 kd,.int .i64 m,.string t,.slice none 0 0] 24) none)):=fun τ ver' k' y kd m t a1 a2 a3 a4 a5 a6 a7 g'=>
  ⟨f,g',_,kd,m,t,k',rfl,h4,⟨_,by rw[Am,if_pos rfl]⟩,a7,((hX.trans hX1).trans a1).putNew _ _ _ hbo,a2.put _ _ _ (a2 _ _ a4).1,a3.put _ hbx _ _,a5,a6⟩
 by_cases c0:w=0
 ·subst c0
  have d0:((0:Int)==0)=true:=rfl
  simp -implicitDefEqProofs only[go_sem,Aw,HA,Jd,HB,Je,Agh,XT,h0,h4,e,d0,hb1]
  exact fin σ1 _ (k+1) _ 0 0 _ (ExtC.refl _ _) hw1 hC1 hb1 (by omega) (by omega) .nil _
 ·have d0:(w==0)=false:=by simpa using c0
  by_cases c1:w=1
  ·subst c1
   have d1:((1:Int)==1)=true:=rfl
   obtain⟨b,σ2,e2,hX2,hw2,hC2⟩:=Q6 n x (k+1) 2 (by omega) (by omega) σ1 hw1 hC1
   obtain⟨_,σ3,e3,hX3,hw3,rfl⟩:=Amf (n+2) b σ2 hw2
   have hb3:σ3.heap.get bo=some ⟨.cells [z0,z1,z2,z3] 24,false,none,ver⟩:=(hX3.get bo (hw2 _ _ ((hX2.get bo (hw1 _ _ hb1).1 hne).trans hb1)).1).trans ((hX2.get bo (hw1 _ _ hb1).1 hne).trans hb1)
   simp -implicitDefEqProofs only[go_sem,Aw,HA,Jd,HB,Je,JQ,Ky,Agk,XU,h0,h4,e,d0,d1,hb1,e2,e3,hb3]
   exact fin σ3 _ (k+2) _ 1 _ _ (hX2.trans (hX3.toC x)) hw3 (hC2.ext hw2 hX3) hb3 (by omega) (by omega) (.bool b) _
  ·have d1:(w==1)=false:=by simpa using c1
   have at1:∀(σ2:FState),ExtC x σ1 σ2→σ2.heap.get bo=some ⟨.cells [z0,z1,z2,z3] 24,false,none,ver⟩:=fun σ2 h=>(h.get bo (hw1 _ _ hb1).1 hne).trans hb1
   by_cases c2:w=2
   ·subst c2
    have d2:((2:Int)==2)=true:=rfl
    have hX2:Ext σ1 (σ1.push (.cells (symTexts.map Value.string) 9) none):=(Ext.refl _).push _ _
    have hw2:=hw1.push (.cells (symTexts.map Value.string) 9) none
    obtain⟨i,v,σ3,e3,hi,hv,hX3,hw3,hC3⟩:=Abc n x (k+1) σ1.next 0 8 8 (symTexts.map Value.string) (by omega) (by omega) _ hw2 (hC1.ext hw1 hX2) (by rw[Ac,if_pos rfl];rfl)
     (by have:=(hw1 _ _ hb1).1;omega) (by simp[symTexts])
    rw[List.getElem?_map,Option.map_eq_some_iff] at hv
    obtain⟨t,ht,rfl⟩:=hv
    have htm:=List.mem_of_getElem? ht
    obtain⟨_,σ4,e4,hX4,hw4,rfl⟩:=AsU (n+2) t σ3 hw3
    have hx4:ExtC x σ1 σ4:=((hX2.toC x).trans hX3).trans (hX4.toC x)
    have hb4:=at1 σ4 hx4
    have e3':(env (n+3)).call 64 [.pointer (some ⟨x,0,none⟩),.slice (some ⟨σ1.next,0,none⟩) 8 8] none (σ1.push (.cells [.string ⟨#[97]⟩,.string ⟨#[98]⟩,.string ⟨#[120]⟩,.string ⟨#[105,102]⟩,.string ⟨#[108,105,115,116]⟩,.string ⟨#[97,45,98]⟩,.string ⟨#[110,117,108,108,63]⟩,.string ⟨#[43]⟩] 9) none)=.ret (.string t) none σ3:=e3
    simp -implicitDefEqProofs only[go_sem,Aw,HA,Jd,HB,Je,JQ,Ky,Nl,Nk,Agn,XV,h0,h4,e,d0,d1,d2,hb1,e3',e4,hb4]
    exact fin σ4 _ (k+2) _ 3 0 _ hx4 hw4 (hC3.ext hw3 hX4) hb4 (by omega) (by omega) (.sym t htm) _
   ·have d2:(w==2)=false:=by simpa using c2
    by_cases c3:w=3
    ·subst c3
     have d3:((3:Int)==3)=true:=rfl
     have hX2:Ext σ1 (σ1.push (.cells (strTexts.map Value.string) 9) none):=(Ext.refl _).push _ _
     have hw2:=hw1.push (.cells (strTexts.map Value.string) 9) none
     obtain⟨i,v,σ3,e3,hi,hv,hX3,hw3,hC3⟩:=Abc n x (k+1) σ1.next 0 5 5 (strTexts.map Value.string) (by omega) (by omega) _ hw2 (hC1.ext hw1 hX2) (by rw[Ac,if_pos rfl];rfl)
      (by have:=(hw1 _ _ hb1).1;omega) (by simp[strTexts])
     rw[List.getElem?_map,Option.map_eq_some_iff] at hv
     obtain⟨t,ht,rfl⟩:=hv
     have htm:=List.mem_of_getElem? ht
     obtain⟨_,σ4,e4,hX4,hw4,rfl⟩:=AsS (n+2) t σ3 hw3
     have hx4:ExtC x σ1 σ4:=((hX2.toC x).trans hX3).trans (hX4.toC x)
     have hb4:=at1 σ4 hx4
     have e3':(env (n+3)).call 64 [.pointer (some ⟨x,0,none⟩),.slice (some ⟨σ1.next,0,none⟩) 5 5] none (σ1.push (.cells [.string ⟨#[]⟩,.string ⟨#[97]⟩,.string ⟨#[116,119,111,32,119,111,114,100,115]⟩,.string ⟨#[113,34,113]⟩,.string ⟨#[98,92]⟩] 9) none)=.ret (.string t) none σ3:=e3
     simp -implicitDefEqProofs only[go_sem,Aw,HA,Jd,HB,Je,JQ,Ky,Nl,Nk,VK,RQ,AcA,RI,h0,h4,e,d0,d1,d2,d3,hb1,e3',e4,hb4]
     exact fin σ4 _ (k+2) _ 4 0 _ hx4 hw4 (hC3.ext hw3 hX4) hb4 (by omega) (by omega) (.str t htm) _
    ·have d3:(w==3)=false:=by simpa using c3
     obtain⟨a,σ2,e2,a0,a1,hX2,hw2,hC2⟩:=Aak n x (k+1) (-20) 20 (by omega) (by omega) σ1 hw1 hC1
     obtain⟨b,σ3,e3,b0,b1,hX3,hw3,hC3⟩:=Aak n x (k+2) (-999) 999 (by omega) (by omega) σ2 hw2 hC2
     have hX4:Ext σ3 (σ3.push (.cells [.int .i64 0,.int .i64 1,.int .i64 (-1),.int .i64 a,.int .i64 b] 3) none):=(Ext.refl _).push _ _
     have hw4:=hw3.push (.cells [.int .i64 0,.int .i64 1,.int .i64 (-1),.int .i64 a,.int .i64 b] 3) none
     have hlt:x<σ3.next:=by have:=(hw1 _ _ hb1).1;have:=hX2.next;have:=hX3.next;omega
     obtain⟨i,v,σ5,e5,hi,hv,hX5,hw5,hC5⟩:=Asc n x (k+3) σ3.next 0 5 5 _ (by omega) (by omega) _ hw4 (hC3.ext hw3 hX4) (by rw[Ac,if_pos rfl];rfl) (by omega) (by simp)
     have hz:∃z,v=.int .i64 z ∧ -999≤z∧z≤999:=by
      obtain rfl|rfl|rfl|rfl|rfl:i=0∨i=1∨i=2∨i=3∨i=4:=by omega
      all_goals (simp at hv;exact⟨_,hv.symm,by omega,by omega⟩)
     obtain⟨z,rfl,hz0,hz1⟩:=hz
     obtain⟨_,σ6,e6,hX6,hw6,rfl⟩:=Asb (n+2) z σ5 hw5
     have hx6:ExtC x σ1 σ6:=(((hX2.trans hX3).trans (hX4.toC x)).trans hX5).trans (hX6.toC x)
     have hb6:=at1 σ6 hx6
     simp -implicitDefEqProofs only[go_sem,Aw,HA,Jd,HB,Je,JQ,Ky,Nl,Nk,VK,RQ,AcB,RJ,h0,h4,e,d0,d1,d2,d3,hb1,e2,e3,e5,e6,hb6]
     exact fin σ6 _ (k+4) _ 2 z _ hx6 hw6 (hC5.ext hw5 hX6) hb6 (by omega) (by omega) (.num z ⟨hz0,hz1⟩) _
end
section
open Go Go.Eng
attribute [local congr] Ab Ah Af Ad Ae
attribute [-go_sem] List.range_succ
theorem Ar2:keepOf nls 11=[61,62,63,64,65,66,67,68,69,70]:=by kernel_rfl
theorem Afo(n:Nat)(R:Nat→Prop)(d1 d2:D)(v1 v2:Value)(σ:FState)(hw:Wf σ)(h1:LaidR R σ v1 d1)(h2:LaidR R σ v2 d2):
  ∃v σ',(env (n+1)).call 68 [v1,v2] none σ=.ret v none σ'∧Ext σ σ'∧Wf σ'∧LaidR (fun b=>R b∨New σ σ' b) σ' v (.mk 5 0 ⟨#[]⟩ [d1,d2]):=by
 have H1:=h1
 have H2:=h2
 obtain⟨k1,n1,t1,l1⟩:=d1
 obtain⟨k2,n2,t2,l2⟩:=d2
 obtain⟨p1,c1,rfl,e1⟩:=h1
 obtain⟨p2,c2,rfl,e2⟩:=h2
 rw[Ak _ 68 _ _ rfl,Anr _ _ _ _ (by simp),Aj]
 unfold AlJ
 simp -implicitDefEqProofs only[go_sem,Aw,AkG,Y1,AkH,Y2,BJ]
 generalize hs:FState.put _ _ _ _=σ'
 have hx:Ext σ σ':=by
  rw[←hs]
  exact(((((Ext.refl σ).push _ _).push _ _).push _ _).push _ _).put _ _ _ (Nat.le_add_right _ _)
 have hw':Wf σ':=by
  rw[←hs]
  exact((((hw.push _ _).push _ _).push _ _).push _ _).put _ _ _ (by simp only[Aa];omega)
 have hc:σ'.cells (σ.next+3)=some [.int .i64 k1,.int .i64 n1,.string t1,.slice p1 l1.length c1,.int .i64 k2,.int .i64 n2,.string t2,.slice p2 l2.length c2]:=by
  rw[←hs]
  simp -implicitDefEqProofs only[go_sem]
 have hN:New σ σ' (σ.next+3):=⟨by omega,hw'.cells hc⟩
 have kp:∀b cs,R b→σ.cells b=some cs→σ'.cells b=some cs∧(R b∨New σ σ' b):=fun b cs hR h=>⟨(hx.cells (hw.cells h)).trans h,.inl hR⟩
 exact⟨_,_,rfl,hx,hw',some ⟨σ.next+3,0,none⟩,2,rfl,⟨_,_,_,rfl,.inr hN,hc,by simp,H1.keep kp⟩,⟨_,_,_,rfl,.inr hN,hc,by simp,H2.keep kp⟩,trivial⟩
def Vec(σ:FState)(lo:Nat)(s:Value)(ds:List D):Prop:=
 (ds=[]∧s=.slice none 0 0)∨(∃b cs ver,s=.slice (some ⟨b,0,none⟩) ds.length ds.length∧σ.heap.get b=some ⟨.cells cs 24,false,some 4,ver⟩∧lo<b∧Row (fun c=>lo<c∧c≠b) σ cs ds)
theorem Ow(σ1:FState)(lo:Nat)(s:Value)(ds:List D)(d:D)(l:List Value)(hw:Wf σ1)(hlo:lo<σ1.next)(hl:l.length=4)(ho:l.all oneCell=true)(hlen:ds.length<900)(hV:Vec σ1 lo s ds)(hd:LaidR (fun c=>lo<c∧∀b n m,s=.slice (some ⟨b,0,none⟩) n m→c≠b) σ1 (.agg l.toArray) d):
  ∃s' τ,fappend 24 4 56 s (.slice (some ⟨σ1.next,0,none⟩) 1 1) (σ1.push (.cells l 24) none)=.val s' τ∧oneCell s'=true∧Vec τ lo s' (ds++[d])∧Wf τ∧σ1.next≤τ.next∧σ1.clock≤τ.clock∧
   (∀c,c≤lo→τ.heap.get c=σ1.heap.get c)∧(∀c,c<σ1.next→(∀b n m,s=.slice (some ⟨b,0,none⟩) n m→c≠b)→τ.heap.get c=σ1.heap.get c):=by
 have hx:(σ1.push (.cells l 24) none).cells σ1.next=some l:=by rw[Ac,if_pos rfl];rfl
 rcases hV with⟨rfl,rfl⟩|⟨b,cs,ver,rfl,hb,hlb,hR⟩
 ·refine⟨_,_,Jm 24 4 56 _ 1 l _ hx hl ho (by decide),rfl,.inr ⟨_,_,_,rfl,by rw[Ai,if_pos rfl],by rw[Aa];omega,?_⟩,(hw.push _ _).push _ _,?_,?_,?_,?_⟩
  ·have h2:LaidR (fun c=>lo<c∧c≠(σ1.push (.cells l 24) none).next) ((σ1.push (.cells l 24) none).push (.cells l 24) (some 4)) (.agg l.toArray) d:=hd.keep fun c cs hc h=>by
    have:=hw.cells h
    refine⟨?_,hc.1,by rw[Aa];omega⟩
    rw[Ac,if_neg (by rw[Aa];omega),Ac,if_neg (by omega)]
    exact h
   exact(Row.nil _ _).snoc hl ho h2
  ·simp only[Aa];omega
  ·simp only[Bd];omega
  ·intro c hc
   rw[Ai,if_neg (by rw[Aa];omega),Ai,if_neg (by omega)]
  ·intro c hc _
   rw[Ai,if_neg (by rw[Aa];omega),Ai,if_neg (by omega)]
 ·have hbn:b<σ1.next:=(hw b _ hb).1
  have hb1:(σ1.push (.cells l 24) none).heap.get b=some ⟨.cells cs 24,false,some 4,ver⟩:=by rw[Ai,if_neg (by omega)];exact hb
  have hw1:=hw.push (.cells l 24) none
  have hw2:=hw1.put b (.defd false) none (by rw[Aa];omega)
  refine⟨_,_,K1 24 4 56 b _ 1 ds.length ver cs l _ hb1 hx hl ho hR.1 (by decide) (by omega),rfl,.inr ⟨_,_,_,by rw[List.length_append];rfl,by rw[Ai,if_pos rfl],by rw[Ap,Aa];omega,?_⟩,hw2.push _ _,?_,?_,?_,?_⟩
  ·have kp:∀(c:Nat) (cs':List Value),(lo<c∧c≠b)→σ1.cells c=some cs'→
     (((σ1.push (.cells l 24) none).put b (.defd false) none).push (.cells (cs++l) 24) (some 4)).cells c=some cs'∧(lo<c∧c≠((σ1.push (.cells l 24) none).put b (.defd false) none).next):=fun c cs' hc h=>by
    have:=hw.cells h
    refine⟨?_,hc.1,by rw[Ap,Aa];omega⟩
    rw[Ac,if_neg (by rw[Ap,Aa];omega),Al,if_neg hc.2,Ac,if_neg (by omega)]
    exact h
   exact(hR.keep kp).snoc hl ho ((hd.keep fun c cs' hc h=>kp c cs' ⟨hc.1,hc.2 b _ _ rfl⟩ h))
  ·simp only[Aa,Ap];omega
  ·simp only[Bd,Bh];omega
  ·intro c hc
   rw[Ai,if_neg (by rw[Ap,Aa];omega),Am,if_neg (by omega),Ai,if_neg (by omega)]
  ·intro c hc hne
   rw[Ai,if_neg (by rw[Ap,Aa];omega),Am,if_neg (hne b _ _ rfl),Ai,if_neg (by omega)]
theorem Vec.keep{σ σ':FState}{lo:Nat}{s:Value}{ds:List D}(hw:Wf σ)(h:Vec σ lo s ds)(hx:∀c,lo<c→c<σ.next→σ'.heap.get c=σ.heap.get c):Vec σ' lo s ds:=by
 rcases h with h|⟨b,cs,ver,hs,hb,hlb,hR⟩
 ·exact .inl h
 ·refine .inr ⟨b,cs,ver,hs,(hx b hlb (hw b _ hb).1).trans hb,hlb,hR.keep fun c cs' hc h=>⟨?_,hc⟩⟩
  rw[AG,hx c hc.1 (hw.cells h),←AG]
  exact h
def DatumAt(m x L W:Nat):Prop:=∀k σ,k+W<100000000000→Wf σ→Coil σ x k→∃v d σ' k',(env m).call 11 [.pointer (some ⟨x,0,none⟩),.int .i64 (.ofNat L)] none σ=.ret v none σ'∧LaidR (New σ σ') σ' v d∧Made L d∧
 ExtC x σ σ'∧Wf σ'∧Coil σ' x k'∧k≤k'∧k'≤k+W
structure HeadV (x bo b5 L W K j:Nat) (σ0:FState) (ds:List D) (f:Nat→Value) (σ:FState):Prop where
 f0:f 0=.pointer (some ⟨x,0,none⟩)
 f1:f 1=.int .i64 (.ofNat (L+1))
 f4:f 4=.pointer (some ⟨bo,0,none⟩)
 f5:f 5=.pointer (some ⟨b5,0,none⟩)
 f6:f 6=.int .i64 (.ofNat j)
 hbo:∃ver z0 z1 z2 z3,σ.heap.get bo=some ⟨.cells [z0,z1,z2,z3] 24,false,none,ver⟩
 hb5:∃ver s,σ.heap.get b5=some ⟨.cells [.int .i64 6,.int .i64 0,.string ⟨#[]⟩,s] 24,false,none,ver⟩∧Vec σ b5 s ds
 ext:ExtC x σ0 σ
 wf:Wf σ
 coil:∃k',Coil σ x k'∧k'+j*W≤K
 made:∀d,d∈ds→Made L d
 lt1:x<σ0.next
 lt2:σ0.next≤bo
 lt3:bo<b5
 len:ds.length+j≤3
theorem QE(m x bo b5 L W K:Nat)(hK:K<100000000000)(hL:L<1000)(σ0:FState)(k0:Nat)(hD:DatumAt m x L W):∀(j fuel:Nat) (ds:List D) (f g:Nat→Value) (σ:FState),j<fuel→HeadV x bo b5 L W K j σ0 ds f σ→(∃k',Coil σ x k'∧k0≤k'∧k'+j*W≤K)→
  ∃f' g' σ' ds',floop [61,62,63,64,65,66,67,68,69,70] (Vs (env m) none 11) fuel (Sl 7 71 f g []) none σ=.done (.exit 1) (Sl 7 71 f' g' []) none σ'∧HeadV x bo b5 L W K 0 σ0 ds' f' σ'∧(∃k',Coil σ' x k'∧k0≤k'∧k'≤K):=by
 intro j
 induction j with
 | zero=>
  intro fuel ds f g σ hf hH hk
  obtain⟨fuel,rfl⟩:∃q,fuel=q+1:=⟨fuel-1,by omega⟩
  have hd:decide (Int.ofNat 0>0)=false:=rfl
  rw[Ar]
  unfold Vs
  simp -implicitDefEqProofs only[go_sem,PH,LH,hH.f6,hd]
  exact⟨f,_,σ,ds,rfl,hH,by simpa using hk⟩
 | succ j ih=>
  intro fuel ds f g σ hf hH hk
  obtain⟨k',hC,hk0,hkK⟩:=hk
  obtain⟨fuel,rfl⟩:∃q,fuel=q+1:=⟨fuel-1,by omega⟩
  have hd:decide (Int.ofNat (j+1)>0)=true:=by simp
  have hwr:wrapI (Int.ofNat (L+1)-1)=Int.ofNat L:=by
   rw[Dk (by rw[Int.ofNat_eq_natCast];omega),Int.ofNat_eq_natCast,Int.ofNat_eq_natCast];omega
  have hwj:wrapI (Int.ofNat (j+1)-1)=Int.ofNat j:=by
   have:=hH.len
   rw[Dk (by rw[Int.ofNat_eq_natCast];omega),Int.ofNat_eq_natCast,Int.ofNat_eq_natCast];omega
  have hjW:(j+1)*W=j*W+W:=Nat.succ_mul j W
  obtain⟨v,d,σ1,k1,e,hLd,hMd,hX1,hw1,hC1,hk1,hk2⟩:=hD k' σ (by omega) hH.wf hC
  obtain⟨ver5,s,hb5,hV⟩:=hH.hb5
  have hxb:x<b5:=by have:=hH.lt1;have:=hH.lt2;have:=hH.lt3;omega
  have hb5n:=(hH.wf b5 _ hb5)
  have hb51:σ1.heap.get b5=_:=(hX1.get b5 hb5n.1 (by omega)).trans hb5
  have hv5:(view σ1 σ.clock).cells b5=some [.int .i64 6,.int .i64 0,.string ⟨#[]⟩,s]:=by
   rw[Hf,hb51]
   simp only[Option.bind_some]
   rw[if_pos hb5n.2]
   rfl
  have hV1:Vec σ1 b5 s ds:=hV.keep hH.wf fun c h1 h2=>hX1.get c h2 (by omega)
  have hs:∀b n m,s=.slice (some ⟨b,0,none⟩) n m→b<σ.next∧b5<b:=by
   intro b n m hs
   rcases hV with⟨_,h⟩|⟨b',cs,ver,h,hb,hlb,_⟩
   ·rw[hs] at h;cases h
   ·rw[hs] at h;cases h;exact⟨(hH.wf _ _ hb).1,hlb⟩
  obtain⟨kd,nd,td,dd⟩:=d
  have hLd':=hLd
  obtain⟨p,c,rfl,_⟩:=hLd'
  obtain⟨s',τ,ha,ho,hVτ,hwτ,hnτ,hcτ,hg1,hg2⟩:=Ow σ1 b5 s ds (.mk kd nd td dd) [.int .i64 kd,.int .i64 nd,.string td,.slice p dd.length c] hw1 (by have:=hX1.next;omega) rfl rfl (by have:=hH.len;omega) hV1
   (hLd.keep fun c cs hc h=>⟨h,by have:=hc.1;omega,fun b n m hsb=>by have:=(hs b n m hsb).1;have:=hc.1;omega⟩)
  have hgb5:τ.heap.get b5=_:=(hg1 b5 (Nat.le_refl _)).trans hb51
  have hb5τ:b5<τ.next:=by have:=hX1.next;omega
  obtain⟨vero,z0,z1,z2,z3,hbo⟩:=hH.hbo
  have hlt3:=hH.lt3
  have hlt2:=hH.lt2
  have hlt1:=hH.lt1
  have hCτ:Coil τ x k1:=hC1.low fun c hc=>hg1 c (by omega)
  have hH':HeadV x bo b5 L W K j σ0 (ds++[.mk kd nd td dd]) (upd f 6 (.int .i64 (.ofNat j))) (τ.put b5 (.cells [.int .i64 6,.int .i64 0,.string ⟨#[]⟩,s'] 24) none):={
   f0:=by simp -implicitDefEqProofs only[go_sem,reduceCtorEq,hH.f0]
   f1:=by simp -implicitDefEqProofs only[go_sem,reduceCtorEq,hH.f1]
   f4:=by simp -implicitDefEqProofs only[go_sem,reduceCtorEq,hH.f4]
   f5:=by simp -implicitDefEqProofs only[go_sem,reduceCtorEq,hH.f5]
   f6:=by simp -implicitDefEqProofs only[go_sem,reduceCtorEq]
   hbo:=⟨vero,z0,z1,z2,z3,by
    rw[Am,if_neg (by omega),hg1 bo (by omega),hX1.get bo (by have:=hb5n.1;omega) (by omega)]
    exact hbo⟩
   hb5:=⟨_,s',by rw[Am,if_pos rfl],hVτ.keep hwτ fun c h1 h2=>by rw[Am,if_neg (by omega)]⟩
   ext:=⟨by rw[Ap];have:=hH.ext.next;have:=hX1.next;omega,by rw[Bh];have:=hH.ext.clock;have:=hX1.clock;omega,fun c hc hcx=>by
    have h1:=hH.ext.next
    have h2:=hX1.next
    rw[Am,if_neg (by omega),hg2 c (by omega) (fun b n m h=>by have:=(hs b n m h).2;omega),hX1.get c (by omega) hcx]
    exact hH.ext.get c hc hcx⟩
   wf:=hwτ.put _ _ _ hb5τ
   coil:=⟨k1,hCτ.put b5 hxb _ _,by omega⟩
   made:=fun e he=>by
    rcases List.mem_append.1 he with h|h
    ·exact hH.made e h
    ·rw[List.mem_singleton.1 h];exact hMd
   lt1:=hlt1
   lt2:=hlt2
   lt3:=hlt3
   len:=by have:=hH.len;rw[List.length_append,List.length_singleton];omega }
  rw[Ar]
  unfold Vs
  simp -implicitDefEqProofs only[go_sem,PH,LH,AcE,RM,AcF,RN,hH.f0,hH.f1,hH.f5,hH.f6,hd,hwr,e,hv5,ha,ho,hgb5,hwj]
  exact ih fuel _ _ _ _ (by omega) hH' ⟨k1,hCτ.put b5 hxb _ _,by omega,by omega⟩
end
section
open Go Go.Eng
attribute [local congr] Ab Ah Af Ad Ae
attribute [-go_sem] List.range_succ
def vec11(E:Env)(ro:Option Nat):RunF:=(seqR (fops E ro XP) (seqR (seqR (fops E ro XQ) (blockR 1 (loopR (keepOf nls 11) (Vs E ro 11)))) (seqR (fops E ro XR) retR)))
def rest11(E:Env)(ro:Option Nat):RunF:=(seqR (seqR (fops E ro XO) (condR (fun a=>(a.get 44)) (vec11 E ro) skipR)) (seqR (fops E ro XS) retR))
theorem WH(E:Env)(ro:Option Nat):Alp E ro 11=seqR (fops E ro Af9) (seqR (seqR (fops E ro Aga) (condR (fun a=>(a.get 12)) (leaf11 E ro) skipR)) (rest11 E ro)):=rfl
theorem Vv{x k K bo L:Nat}{σ:FState}{r:KRes}(E:Env)(hbo:bo=σ.next)(h:LeafIn x k K bo σ r):∃v d σ' k',leaveR Tryz.prog E [.cell 4 24] r=.ret v none σ'∧LaidR (New σ σ') σ' v d∧Made L d∧ExtC x σ σ'∧Wf σ'∧Coil σ' x k'∧k≤k'∧k'≤K:=by
 obtain⟨f,g,σ',kd,n,t,k',rfl,h4,⟨ver,hg⟩,hL,hX,hw,hC,h1,h2⟩:=h
 have hc:=AB hg
 simp -implicitDefEqProofs only[go_sem,BJ,h4,hc]
 exact⟨_,.mk kd n t [],_,k',rfl,⟨none,0,rfl,trivial⟩,.leaf _ _ hL,hX,hw,hC,h1,h2⟩
theorem Ju(M x L W:Nat)(hL:L<2)(hW:4≤W):DatumAt (M+3+1) x L W:=by
 intro k σ hk hw hC
 have hx:=hC.cells
 have hd:decide (Int.ofNat L<2)=true:=by simp;omega
 rw[Ak _ 11 _ _ rfl,Aad _ _ _ _ (by simp),Aj,WH]
 have hXa:Ext σ (σ.push (.cells [.int .i64 0,.int .i64 0,.string ⟨#[]⟩,.slice none 0 0] 24) none):=(Ext.refl _).push _ _
 have hwa:=hw.push (.cells [.int .i64 0,.int .i64 0,.string ⟨#[]⟩,.slice none 0 0] 24) none
 obtain⟨c3,hc3,_⟩:=hx
 have hxn:=hw.cells hc3
 simp -implicitDefEqProofs only[go_sem,Nh,Ng,Nj,Ni,hd]
 generalize hf:upd _ _ _=f1
 generalize hg:upd _ _ _=g1
 have hleaf:=Po M x k σ.next (by omega) σ _ f1 g1 (by rw[←hf];simp -implicitDefEqProofs only[go_sem,reduceCtorEq]) (by rw[←hf];simp -implicitDefEqProofs only[go_sem,reduceCtorEq]) hwa (hC.ext hw hXa) (hXa.toC x) (Nat.le_refl _) hxn _ _ _ _ _ (by rw[Ai,if_pos rfl])
 obtain⟨v,d,σ',k',h1,h2⟩:=Vv (L:=L) (env (M+3)) rfl hleaf
 obtain⟨f,g,σ'',kd,nn,t,k'',e1,r1⟩:=hleaf
 rw[e1] at h1 ⊢
 simp -implicitDefEqProofs only[AV]
 obtain⟨r2,r3,r4,r5,r6,r7,r8⟩:=h2
 exact⟨v,d,σ',k',h1,r2,r3,r4,r5,r6,r7,by omega⟩
theorem QF(M x L W:Nat)(hL:1≤L∧L<900)(hW:4≤W∧W<10000000000)(hD:DatumAt (M+3) x L W):DatumAt (M+3+1) x (L+1) (3*W+10):=by
 intro k σ hk hw hC
 have hd:decide (Int.ofNat (L+1)<2)=false:=by simp;omega
 have hwr:wrapI (Int.ofNat (L+1)-1)=Int.ofNat L:=by
  rw[Dk (by rw[Int.ofNat_eq_natCast];omega),Int.ofNat_eq_natCast,Int.ofNat_eq_natCast];omega
 rw[Ak _ 11 _ _ rfl,Aad _ _ _ _ (by simp),Aj,WH]
 have hXa:Ext σ (σ.push (.cells [.int .i64 0,.int .i64 0,.string ⟨#[]⟩,.slice none 0 0] 24) none):=(Ext.refl _).push _ _
 have hwa:=hw.push (.cells [.int .i64 0,.int .i64 0,.string ⟨#[]⟩,.slice none 0 0] 24) none
 have hba:(σ.push (.cells [.int .i64 0,.int .i64 0,.string ⟨#[]⟩,.slice none 0 0] 24) none).heap.get σ.next=some ⟨.cells [.int .i64 0,.int .i64 0,.string ⟨#[]⟩,.slice none 0 0] 24,false,none,σ.clock⟩:=by rw[Ai,if_pos rfl]
 obtain⟨c3,hc3,_⟩:=hC.cells
 have hxn:=hw.cells hc3
 obtain⟨b,σ1,e1,hX1,hw1,hC1⟩:=Q6 M x k 4 (by omega) (by omega) _ hwa (hC.ext hw hXa)
 have hX01:ExtC x σ σ1:=(hXa.toC x).trans hX1
 have hb1:=(hX1.get σ.next (by rw[Aa];omega) (by omega)).trans hba
 have hn1:=(hw1 _ _ hb1).1
 cases b with
 | true=>
  simp -implicitDefEqProofs only[go_sem,Nh,Ng,Nj,Ni,hd,e1]
  generalize hf:upd _ _ _=f1
  generalize hg:upd _ _ _=g1
  have hleaf:=Po M x (k+1) σ.next (by omega) σ _ f1 g1 (by rw[←hf];simp -implicitDefEqProofs only[go_sem,reduceCtorEq]) (by rw[←hf];simp -implicitDefEqProofs only[go_sem,reduceCtorEq]) hw1 hC1 hX01 (Nat.le_refl _) hxn _ _ _ _ _ hb1
  obtain⟨v,d,σ',k',h1,h2⟩:=Vv (L:=L+1) (env (M+3)) rfl hleaf
  obtain⟨f,g,σ'',kd,nn,t,k'',e2,r1⟩:=hleaf
  rw[e2] at h1 ⊢
  simp -implicitDefEqProofs only[AV]
  obtain⟨r2,r3,r4,r5,r6,r7,r8⟩:=h2
  exact⟨v,d,σ',k',h1,r2,r3,r4,r5,r6,by omega,by omega⟩
 | false=>
  obtain⟨b,σ2,e2,hX2,hw2,hC2⟩:=Q6 M x (k+1) 6 (by omega) (by omega) _ hw1 hC1
  have hX02:ExtC x σ σ2:=hX01.trans hX2
  have hb2:=(hX2.get σ.next hn1 (by omega)).trans hb1
  have hn2:=(hw2 _ _ hb2).1
  simp -implicitDefEqProofs only[go_sem,Nh,Ng,Nj,Ni,hd,e1]
  generalize hf:upd _ _ _=f1
  generalize hg:upd _ _ _=g1
  have p0:f1 0=.pointer (some ⟨x,0,none⟩):=by rw[←hf];simp -implicitDefEqProofs only[go_sem,reduceCtorEq]
  have p1:f1 1=.int .i64 (.ofNat (L+1)):=by rw[←hf];simp -implicitDefEqProofs only[go_sem,reduceCtorEq]
  have p4:f1 4=.pointer (some ⟨σ.next,0,none⟩):=by rw[←hf];simp -implicitDefEqProofs only[go_sem,reduceCtorEq]
  clear hf hg
  unfold rest11
  cases b with
  | true=>
   obtain⟨i,σ3,e3,i0,i1,hX3,hw3,hC3⟩:=Ov (M+1) x (k+2) 3 (by omega) (by omega) ((σ2.push (.cells [.int .i64 0,.int .i64 0,.string ⟨#[]⟩,.slice none 0 0] 24) none).put σ2.next (.cells [.int .i64 6,.int .i64 0,.string ⟨#[]⟩,.slice none 0 0] 24) none)
    ((hw2.push _ _).put _ _ _ (Nat.lt_succ_self _)) (hC2.ext hw2 (((Ext.refl _).push _ _).put _ _ _ (Nat.le_refl _)))
   obtain⟨j,rfl⟩:∃j:Nat,i=Int.ofNat j:=⟨i.toNat,by rw[Int.ofNat_eq_natCast];omega⟩
   have hx5:x<σ2.next:=by have:=hX02.next;omega
   have hb53:σ3.heap.get σ2.next=_:=(hX3.get σ2.next (Nat.lt_succ_self _) (by omega)).trans (by rw[Am,if_pos rfl])
   have hb3:σ3.heap.get σ.next=_:=(hX3.get σ.next (Nat.lt_succ_of_lt hn2) (by omega)).trans ((by rw[Am,if_neg (by omega),Ai,if_neg (by omega)]:_=_).trans hb2)
   unfold vec11
   simp -implicitDefEqProofs only[go_sem,Aw,PG,LG,AcC,RK,AcD,RL,p0,p1,p4,e2,e3,Ar2]
   generalize hf:upd _ _ _=f2
   generalize hg:upd _ _ _=g2
   generalize hbf:bigFuel=fuel
   have hfu:j<fuel:=by rw[←hbf];show j<1000000000000;rw[Int.ofNat_eq_natCast] at i1;omega
   have hX03:ExtC x σ σ3:=(hX02.trans ((((Ext.refl σ2).push _ _).put _ _ _ (Nat.le_refl _)).toC x)).trans hX3
   have hj3:j≤3:=by rw[Int.ofNat_eq_natCast] at i1;omega
   have hjW:j*W≤3*W:=Nat.mul_le_mul_right W hj3
   have hH:HeadV x σ.next σ2.next L W (k+(3*W+10)) j σ [] f2 σ3:={
    f0:=by rw[←hf];simp -implicitDefEqProofs only[go_sem,reduceCtorEq,p0]
    f1:=by rw[←hf];simp -implicitDefEqProofs only[go_sem,reduceCtorEq,p1]
    f4:=by rw[←hf];simp -implicitDefEqProofs only[go_sem,reduceCtorEq,p4]
    f5:=by rw[←hf];simp -implicitDefEqProofs only[go_sem,reduceCtorEq]
    f6:=by rw[←hf];simp -implicitDefEqProofs only[go_sem,reduceCtorEq]
    hbo:=⟨_,_,_,_,_,hb3⟩
    hb5:=⟨_,_,hb53,.inl ⟨rfl,rfl⟩⟩
    ext:=hX03
    wf:=hw3
    coil:=⟨_,hC3,by omega⟩
    made:=fun d hd=>by cases hd
    lt1:=hxn
    lt2:=Nat.le_refl _
    lt3:=hn2
    len:=by simpa using hj3 }
   obtain⟨f3,g3,σ4,ds,el,hH4,k',hC4,hk',hK'⟩:=QE (M+3) x σ.next σ2.next L W (k+(3*W+10)) hk (by omega) σ k hD j fuel [] f2 g2 σ3 hfu hH ⟨_,hC3,by omega,by omega⟩
   rw[el]
   obtain⟨v5,s5,hb5,hV⟩:=hH4.hb5
   obtain⟨vo,z0,z1,z2,z3,hbo⟩:=hH4.hbo
   have hc5:=AB hb5
   have q4:=hH4.f4
   have q5:=hH4.f5
   have hs5:∃p,s5=.slice p ds.length ds.length∧LaidRE (fun c=>σ2.next<c) σ4 p 0 ds:=by
    rcases hV with⟨rfl,rfl⟩|⟨b,cs,ver,rfl,hb,hlb,hR⟩
    ·exact⟨none,rfl,trivial⟩
    ·have hbn:=(hH4.wf _ _ hb).1
     exact⟨_,rfl,hR.elems (R':=fun c=>σ2.next<c) (AB hb) hlb (fun _ h=>h.1) 0 ds fun j e h=>by rwa [Nat.zero_add]⟩
   obtain⟨p,rfl,hE⟩:=hs5
   simp -implicitDefEqProofs only[go_sem,Aw,AcG,RO,q4,q5,hc5,hbo,BJ]
   have hno:=(hH4.wf _ _ hbo).1
   have hlen:ds.length≤3:=by have:=hH4.len;omega
   refine⟨_,.mk 6 0 ⟨#[]⟩ ds,_,k',rfl,⟨p,_,rfl,hE.keep fun b cs hb h=>?_⟩,.vec L ds hlen hH4.made,hH4.ext.putNew _ _ _ (Nat.le_refl _),hH4.wf.put _ _ _ hno,hC4.put _ hxn _ _,hk',hK'⟩
   have hb':σ2.next<b:=hb
   refine⟨?_,by omega,?_⟩
   ·rw[Al,if_neg (by omega)];exact h
   ·rw[Ap];exact hH4.wf.cells h
  | false=>
   obtain⟨v1,d1,σ3,k3,e3,hL3,hM3,hX3,hw3,hC3,hk3,hk3'⟩:=hD (k+2) σ2 (by omega) hw2 hC2
   obtain⟨v2,d2,σ4,k4,e4,hL4,hM4,hX4,hw4,hC4,hk4,hk4'⟩:=hD k3 σ3 (by omega) hw3 hC3
   have kp:∀b cs,New σ2 σ3 b→σ3.cells b=some cs→σ4.cells b=some cs∧(σ2.next≤b∧b<σ4.next):=fun b cs hb h=>by
    have h1:=hX4.next
    exact⟨(hX4.cells hb.2 (by have:=hb.1;omega)).trans h,hb.1,by have:=hb.2;omega⟩
   obtain⟨v5,σ5,e5,hX5,hw5,hL5⟩:=Afo (M+2) (fun b=>σ2.next≤b∧b<σ4.next) d1 d2 v1 v2 σ4 hw4 (hL3.keep kp) (hL4.keep fun b cs hb h=>⟨h,by have:=hb.1;have:=hX3.next;omega,hb.2⟩)
   have hX25:ExtC x σ2 σ5:=(hX3.trans hX4).trans (hX5.toC x)
   have hb5:=(hX25.get σ.next hn2 (by omega)).trans hb2
   obtain⟨p,c,rfl,hE⟩:=hL5
   simp -implicitDefEqProofs only[go_sem,Aw,PG,LG,AcH,RP,p0,p1,p4,e2,e3,e4,e5,hwr,hb5,BJ]
   have hnn:=hX02.next
   have hn5:=(hw5 _ _ hb5).1
   refine⟨_,.mk 5 0 ⟨#[]⟩ [d1,d2],_,k4,rfl,⟨p,c,rfl,hE.keep fun b cs hb h=>?_⟩,.pair L _ _ hM3 hM4,(hX02.trans hX25).putNew _ _ _ (Nat.le_refl _),hw5.put _ _ _ hn5,(hC4.ext hw4 hX5).put _ hxn _ _,by omega,by omega⟩
   have hlo:σ.next<b:=by
    rcases hb with hb|hb
    ·exact Nat.lt_of_lt_of_le hn2 hb.1
    ·have:=hb.1;have:=hX3.next;have:=hX4.next;omega
   refine⟨?_,by omega,?_⟩
   ·rw[Al,if_neg (by omega)];exact h
   ·rw[Ap];exact hw5.cells h
def wound:Nat→Nat
 | 0=>10
 | 1=>10
 | L+2=>3*wound (L+1)+10
theorem I4(n x:Nat):∀L,L≤6→DatumAt (n+L+4) x L (wound L)
 | 0,_=>Ju n x 0 10 (by omega) (by omega)
 | 1,_=>Ju (n+1) x 1 10 (by omega) (by omega)
 | L+2,h=>by
  have ih:=I4 n x (L+1) (by omega)
  have hW:4≤wound (L+1)∧wound (L+1)<10000000000:=by
   obtain rfl|rfl|rfl|rfl|rfl:L=0∨L=1∨L=2∨L=3∨L=4:=by omega
   all_goals (simp[wound])
  exact QF (n+L+2) x (L+1) (wound (L+1)) (by omega) hW ih
end
section
open Go Go.Eng
variable (E:Env) (ro:Option Nat) (last:List Nat→RunF) (cl:List Nat) (a:FAct) (u:Option FrameMode) (σ:FState)
def Lw(_:Unit):List COp:=[⟨fun a σ=>.val (a.get 0) σ,some 2,fun _=>some true⟩,
 ⟨fun a σ=>i_gtr Tryz.prog 3 (.tmp 2) (.const (.int .i64 2000)) (a.get 2) (.int .i64 2000) σ,some 3,fun _=>some true⟩]
def Afr:List COp:=Lw ()
def Rd(_:Unit):List COp:=[⟨fun a σ=>.enter 136 [(.int .i64 8)] σ,some 4,fun _=>some true⟩]
def Afs:List COp:=Rd ()
def TX(E:Env)(ro:Option Nat)(fn:FuncId):RunF:=(seqR (fops E ro Afr) (condR (fun a=>(a.get 3)) (fops E ro Afs) skipR))
theorem Pw:fops E ro Afr a u σ=fops E ro (Lw ()) a u σ:=rfl
theorem Ab5:fops E ro Afs a u σ=fops E ro (Rd ()) a u σ:=rfl
theorem Amk(E:Env)(ro:Option Nat)(fn:FuncId):code Tryz.prog nls (Tryz.f101.body.getD .skip) E ro fn=TX E ro fn:=by kernel_rfl
theorem UG(E:Env)(args:List Value)(u:Option FrameMode)(σ:FState)(hn:args.length≤(2:Nat)):fcall Tryz.prog nls E 101 args u σ=leaveR Tryz.prog E [] (TX E none 101 ⟨padTo undef 2 args,fun _=>undef,2,5,[]⟩ u σ):=by
 rw[Ao (body:=Tryz.f101.body.getD .skip) Tryz.func101 rfl E args u σ 2 5 (by kernel_rfl) rfl ⟨hn,by decide⟩,Amk]
 rfl
def Tq(_:Unit):List COp:=[⟨fun a σ=>fbox 24 (a.get 0) σ,some 1,fun _=>some true⟩,
 ⟨fun a σ=>.val (.int .i64 0) σ,some 2,fun _=>some true⟩]
def Aqv:List COp:=Tq ()
def Tt(_:Unit):List COp:=[⟨fun a σ=>.val (.map (some σ.next)) (σ.push (.map [] 0) none),some 6,fun _=>some true⟩,
 ⟨fun a σ=>fbuild (fun i=>nth [(0,1),(1,1)] i) [(.int .i64 0),(.map none)] [(1,(a.get 6))] σ,some 7,fun _=>some true⟩,
 ⟨fun a σ=>newCells [(.int .i64 0),(.map none)] 136 none σ,some 3,fun _=>some true⟩,
 ⟨fun a σ=>fstore 2 (a.get 3) (a.get 7) σ,none,fun _=>some true⟩]
def Aqw:List COp:=Tt ()
def Tu(_:Unit):List COp:=[⟨fun a σ=>.val (.func (.func 120) #[(a.get 3)] #[]) σ,some 8,fun _=>some true⟩,
 ⟨fun a σ=>fbuild (fun i=>nth [(0,1)] i) [.nilFunc] [(0,(a.get 8))] σ,some 9,fun _=>some true⟩,
 ⟨fun a σ=>fload (some 4) (a.get 1) σ,some 10,fun _=>some true⟩,
 ⟨fun a σ=>.enter 121 [(a.get 9),(a.get 10)] σ,some 11,fun _=>some true⟩]
def Aqx:List COp:=Tu ()
def NN(_:Unit):List COp:=[⟨fun a σ=>newCells [(.int .i64 0),(.int .i64 0),(.string ⟨#[]⟩),(.slice none 0 0)] 24 none σ,some 5,fun _=>some true⟩,
 ⟨fun a σ=>fstore 4 (a.get 5) (a.get 13) σ,none,fun _=>some true⟩]
def Aqy:List COp:=NN ()
def NQ(_:Unit):List COp:=[⟨fun a σ=>fload (some 4) (a.get 5) σ,some 14,fun _=>some true⟩,
 ⟨fun a σ=>.enter 122 [(a.get 14)] σ,some 15,fun _=>some true⟩]
def Aqz:List COp:=NQ ()
def Tv(_:Unit):List COp:=[⟨fun a σ=>ffield 0 (a.get 3) σ,some 16,fun _=>some true⟩,
 ⟨fun a σ=>fload none (a.get 16) σ,some 17,fun _=>some true⟩,
 ⟨fun a σ=>i_add Tryz.prog 3 (.tmp 17) (.const (.int .i64 1)) (a.get 17) (.int .i64 1) σ,some 18,fun _=>some true⟩,
 ⟨fun a σ=>ffield 0 (a.get 3) σ,some 19,fun _=>some true⟩,
 ⟨fun a σ=>fstore 1 (a.get 19) (a.get 18) σ,none,fun _=>some true⟩]
def AqA:List COp:=Tv ()
noncomputable def Dx:Code:=((rangesOf (Tryz.f71.body.getD .skip)).getD 0 (.skip,.skip)).1
noncomputable def Dy:Code:=((rangesOf (Tryz.f71.body.getD .skip)).getD 0 (.skip,.skip)).2
def Y3(_:Unit):List COp:=[⟨fun a σ=>ffield 0 (a.get 3) σ,some 20,fun _=>some true⟩,
 ⟨fun a σ=>fload none (a.get 20) σ,some 21,fun _=>some true⟩,
 ⟨fun a σ=>.enter 101 [(a.get 21)] σ,some 22,fun _=>some true⟩]
def AqB:List COp:=Y3 ()
def Y4(_:Unit):List COp:=[⟨fun a σ=>ffield 0 (a.get 3) σ,some 23,fun _=>some true⟩,
 ⟨fun a σ=>fload none (a.get 23) σ,some 24,fun _=>some true⟩,
 ⟨fun a σ=>.val (a.get 24) σ,some 2,fun _=>some true⟩]
def AqC:List COp:=Y4 ()
def Aa7(E:Env)(ro:Option Nat)(fn:FuncId):RunF:=(seqR (fops E ro Aqv) (seqR (fops E ro Aqw) (seqR (seqR (fops E ro Aqx) (blockR 0 (frange E ro fn (.tmp 11) [12,13] Dx Dy))) (seqR (fops E ro AqB) (seqR (fops E ro AqC) retR)))))
theorem V_:fops E ro Aqv a u σ=fops E ro (Tq ()) a u σ:=rfl
theorem Wc:fops E ro Aqw a u σ=fops E ro (Tt ()) a u σ:=rfl
theorem Wd:fops E ro Aqx a u σ=fops E ro (Tu ()) a u σ:=rfl
theorem NP:fops E ro Aqy a u σ=fops E ro (NN ()) a u σ:=rfl
theorem NR:fops E ro Aqz a u σ=fops E ro (NQ ()) a u σ:=rfl
theorem We:fops E ro AqA a u σ=fops E ro (Tv ()) a u σ:=rfl
theorem Kj(E:Env)(ro:Option Nat)(fn:FuncId):code Tryz.prog nls Dx E ro fn=(fops E ro Aqy):=by kernel_rfl
theorem Kk(E:Env)(ro:Option Nat)(fn:FuncId):code Tryz.prog nls Dy E ro fn=(blockR 1 (seqR (fops E ro Aqz) (fops E ro AqA))):=by kernel_rfl
theorem AkI:fops E ro AqB a u σ=fops E ro (Y3 ()) a u σ:=rfl
theorem AkJ:fops E ro AqC a u σ=fops E ro (Y4 ()) a u σ:=rfl
theorem ArP(E:Env)(ro:Option Nat)(fn:FuncId):code Tryz.prog nls (Tryz.f71.body.getD .skip) E ro fn=Aa7 E ro fn:=by kernel_rfl
theorem Aae(E:Env)(args:List Value)(u:Option FrameMode)(σ:FState)(hn:args.length≤(6:Nat)):fcall Tryz.prog nls E 71 args u σ=leaveR Tryz.prog E [.tmp 2] (Aa7 E none 71 ⟨padTo undef 6 args,fun _=>undef,6,25,[]⟩ u σ):=by
 rw[Ao (body:=Tryz.f71.body.getD .skip) Tryz.func71 rfl E args u σ 6 25 (by kernel_rfl) rfl ⟨hn,by decide⟩,ArP]
 rfl
noncomputable def Aro:Code:=((rangesOf (Tryz.f72.body.getD .skip)).getD 0 (.skip,.skip)).1
noncomputable def Arp:Code:=((rangesOf (Tryz.f72.body.getD .skip)).getD 0 (.skip,.skip)).2
def LI(_:Unit):List COp:=[⟨fun a σ=>.val (.bool false) σ,some 4,fun _=>some true⟩]
def Agp:List COp:=LI ()
def LJ(_:Unit):List COp:=[⟨fun a σ=>.val (a.get 1) σ,some 6,fun _=>some true⟩,
 ⟨fun a σ=>flenL (a.get 6) σ,some 7,fun _=>some true⟩,
 ⟨fun a σ=>i_eql Tryz.prog 3 (.tmp 7) (.const (.int .i64 0)) (a.get 7) (.int .i64 0) σ,some 8,fun _=>some true⟩,
 ⟨fun a σ=>.val (a.get 8) σ,some 9,fun _=>some true⟩,
 ⟨fun a σ=>.val (a.get 0) σ,some 10,fun a=>gd (a.get 9) false⟩,
 ⟨fun a σ=>fnilCheck (a.get 10) σ,some 11,fun a=>gd (a.get 9) false⟩,
 ⟨fun a σ=>ffield 0 (a.get 11) σ,some 12,fun a=>gd (a.get 9) false⟩,
 ⟨fun a σ=>fload none (a.get 12) σ,some 13,fun a=>gd (a.get 9) false⟩,
 ⟨fun a σ=>i_leq Tryz.prog 3 (.tmp 13) (.const (.int .i64 2000)) (a.get 13) (.int .i64 2000) σ,some 14,fun a=>gd (a.get 9) false⟩,
 ⟨fun a σ=>fpick (a.get 9) (.bool true) (a.get 14) σ,some 15,fun _=>some true⟩]
def Agq:List COp:=LJ ()
def LK(_:Unit):List COp:=[⟨fun a σ=>.val (.bool true) σ,some 4,fun _=>some true⟩]
def Agr:List COp:=LK ()
def AnP(_:Unit):List COp:=[⟨fun a σ=>.val (a.get 1) σ,some 16,fun _=>some true⟩,
 ⟨fun a σ=>findex (none,4) (a.get 16) (.int .i64 0) σ,some 17,fun _=>some true⟩,
 ⟨fun a σ=>.val (a.get 1) σ,some 18,fun _=>some true⟩,
 ⟨fun a σ=>flenL (a.get 18) σ,some 19,fun _=>some true⟩,
 ⟨fun a σ=>fbuild (fun i=>nth [(0,1),(1,1)] i) [(.pointer none),(.int .i64 0)] [(0,(a.get 17)),(1,(a.get 19))] σ,some 20,fun _=>some true⟩,
 ⟨fun a σ=>newCells [(.pointer none),(.int .i64 0)] 182 none σ,some 5,fun _=>some true⟩,
 ⟨fun a σ=>fstore 2 (a.get 5) (a.get 20) σ,none,fun _=>some true⟩]
def Asm:List COp:=AnP ()
def AnQ(_:Unit):List DOp:=[⟨fun a σ=>.val (a.get 0) σ,some 21,fun _=>some true,some 0,false⟩,
 ⟨fun a σ=>fnilCheck (a.get 21) σ,some 22,fun _=>some true,some 0,false⟩,
 ⟨fun a σ=>ffield 1 (a.get 22) σ,some 23,fun _=>some true,some 0,false⟩,
 ⟨fun a σ=>fload none (a.get 23) σ,some 24,fun _=>some true,some 0,false⟩,
 ⟨fun a σ=>fload (some 2) (a.get 5) σ,some 25,fun _=>some true,some 0,false⟩,
 ⟨fun a σ=>(cop Tryz.prog (.lookup 134 (.tmp 24) (.tmp 25) false)).un a σ,some 26,fun _=>some true,some 0,false⟩]
def Asn:List DOp:=AnQ ()
def AnR(_:Unit):List COp:=[⟨fun a σ=>.val (.bool false) σ,some 4,fun _=>some true⟩]
def Aso:List COp:=AnR ()
def AnS(_:Unit):List DOp:=[⟨fun a σ=>.val (a.get 0) σ,some 27,fun _=>some true,some 0,false⟩,
 ⟨fun a σ=>fnilCheck (a.get 27) σ,some 28,fun _=>some true,some 0,false⟩,
 ⟨fun a σ=>ffield 1 (a.get 28) σ,some 29,fun _=>some true,some 0,false⟩,
 ⟨fun a σ=>fload none (a.get 29) σ,some 30,fun _=>some true,some 0,false⟩,
 ⟨fun a σ=>fload (some 2) (a.get 5) σ,some 31,fun _=>some true,some 0,false⟩,
 ⟨fun a σ=>(cop Tryz.prog (.mapUpdate 134 (.tmp 30) (.tmp 31) (.const (.bool true)))).un a σ,none,fun _=>some true,none,true⟩]
def Asp:List DOp:=AnS ()
def AnT(_:Unit):List COp:=[⟨fun a σ=>.val (.bool true) σ,some 4,fun _=>some true⟩]
def Asq:List COp:=AnT ()
def ZB(E:Env)(ro:Option Nat)(fn:FuncId):RunF:=(seqR (fops E ro Agp) (seqR (seqR (fops E ro Agq) (condR (fun a=>(a.get 15)) (seqR (fops E ro Agr) retR) skipR)) (seqR (fops E ro Asm) (seqR (seqR (drawR E ro Asn) (condR (fun a=>(a.get 26)) (seqR (fops E ro Aso) retR) skipR)) (seqR (drawR E ro Asp) (seqR (fops E ro Asq) retR))))))
theorem PI:fops E ro Agp a u σ=fops E ro (LI ()) a u σ:=rfl
theorem PJ:fops E ro Agq a u σ=fops E ro (LJ ()) a u σ:=rfl
theorem PK:fops E ro Agr a u σ=fops E ro (LK ()) a u σ:=rfl
theorem Amt(E:Env)(ro:Option Nat)(fn:FuncId):code Tryz.prog nls (Tryz.f120.body.getD .skip) E ro fn=ZB E ro fn:=by kernel_rfl
theorem AeH(E:Env)(args:List Value)(u:Option FrameMode)(σ:FState)(hn:args.length≤(6:Nat)):fcall Tryz.prog nls E 120 args u σ=leaveR Tryz.prog E [.tmp 4] (ZB E none 120 ⟨padTo undef 6 args,fun _=>undef,6,32,[]⟩ u σ):=by
 rw[Ao (body:=Tryz.f120.body.getD .skip) Tryz.func120 rfl E args u σ 6 32 (by kernel_rfl) rfl ⟨hn,by decide⟩,Amt]
 rfl
def RR(_:Unit):List COp:=[⟨fun a σ=>fbox 141 (a.get 0) σ,some 2,fun _=>some true⟩,
 ⟨fun a σ=>fbox 24 (a.get 1) σ,some 3,fun _=>some true⟩,
 ⟨fun a σ=>.val .nilFunc σ,some 4,fun _=>some true⟩]
def Ags:List COp:=RR ()
def RS(_:Unit):List COp:=[⟨fun a σ=>.val (.func (.func 149) #[] #[(a.get 3),(a.get 2)]) σ,some 5,fun _=>some true⟩,
 ⟨fun a σ=>.val (a.get 5) σ,some 4,fun _=>some true⟩]
def Agt:List COp:=RS ()
def ZC(E:Env)(ro:Option Nat)(fn:FuncId):RunF:=(seqR (fops E ro Ags) (seqR (fops E ro Agt) retR))
theorem AcI:fops E ro Ags a u σ=fops E ro (RR ()) a u σ:=rfl
theorem AcJ:fops E ro Agt a u σ=fops E ro (RS ()) a u σ:=rfl
theorem Amu(E:Env)(ro:Option Nat)(fn:FuncId):code Tryz.prog nls (Tryz.f121.body.getD .skip) E ro fn=ZC E ro fn:=by kernel_rfl
theorem AeI(E:Env)(args:List Value)(u:Option FrameMode)(σ:FState)(hn:args.length≤(4:Nat)):fcall Tryz.prog nls E 121 args u σ=leaveR Tryz.prog E [.tmp 4] (ZC E none 121 ⟨padTo undef 4 args,fun _=>undef,4,6,[]⟩ u σ):=by
 rw[Ao (body:=Tryz.f121.body.getD .skip) Tryz.func121 rfl E args u σ 4 6 (by kernel_rfl) rfl ⟨hn,by decide⟩,Amu]
 rfl
def JT(_:Unit):List COp:=[⟨fun a σ=>.val (a.get 0) σ,some 8,fun _=>some true⟩,
 ⟨fun a σ=>fload (some 4) (a.get 1) σ,some 9,fun _=>some true⟩,
 ⟨fun a σ=>fcallV (a.get 8) [(.slice none 0 0),(a.get 9)] σ,some 10,fun _=>some true⟩,
 ⟨fun a σ=>fun1 Tryz.prog (Op.unary .not) (a.get 10) σ,some 11,fun _=>some true⟩]
def AhB:List COp:=JT ()
def L7(_:Unit):List COp:=[⟨fun a σ=>fload (some 1) (a.get 2) σ,some 12,fun _=>some true⟩,
 ⟨fun a σ=>fload (some 4) (a.get 1) σ,some 13,fun _=>some true⟩,
 ⟨fun a σ=>.enter 150 [(a.get 12),(a.get 13)] σ,some 14,fun _=>some true⟩,
 ⟨fun a σ=>fbuildSlice 22 1 1 [(.slice none 0 0)] [(0,(a.get 14))] σ,some 15,fun _=>some true⟩,
 ⟨fun a σ=>.val (a.get 15) σ,some 4,fun _=>some true⟩]
def AhC:List COp:=L7 ()
def L8(_:Unit):List COp:=[⟨fun a σ=>fbuildSlice 3 1 1 [(.int .i64 0)] [(0,(.int .i64 0))] σ,some 16,fun _=>some true⟩,
 ⟨fun a σ=>.val (a.get 16) σ,some 5,fun _=>some true⟩]
def AhD:List COp:=L8 ()
def Ic(_:Unit):List COp:=[⟨fun a σ=>.val (a.get 4) σ,some 17,fun _=>some true⟩,
 ⟨fun a σ=>flenL (a.get 17) σ,some 18,fun _=>some true⟩,
 ⟨fun a σ=>i_gtr Tryz.prog 3 (.tmp 18) (.const (.int .i64 0)) (a.get 18) (.int .i64 0) σ,some 19,fun _=>some true⟩]
def AhE:List COp:=Ic ()
def JV(_:Unit):List COp:=[⟨fun a σ=>.val (a.get 5) σ,some 20,fun _=>some true⟩,
 ⟨fun a σ=>flenL (a.get 20) σ,some 21,fun _=>some true⟩,
 ⟨fun a σ=>.val (a.get 21) σ,some 6,fun _=>some true⟩]
def AhF:List COp:=JV ()
def JW(_:Unit):List DOp:=[⟨fun a σ=>.val (a.get 5) σ,some 22,fun _=>some true,some 0,false⟩,
 ⟨fun a σ=>.val (a.get 6) σ,some 23,fun _=>some true,some 0,false⟩,
 ⟨fun a σ=>i_sub Tryz.prog 3 (.tmp 23) (.const (.int .i64 1)) (a.get 23) (.int .i64 1) σ,some 24,fun _=>some true,some 0,false⟩,
 ⟨fun a σ=>findex (none,1) (a.get 22) (a.get 24) σ,some 25,fun _=>some true,some 0,false⟩,
 ⟨fun a σ=>fload none (a.get 25) σ,some 26,fun _=>some true,some 0,false⟩,
 ⟨fun a σ=>.val (a.get 4) σ,some 27,fun _=>some true,some 0,false⟩,
 ⟨fun a σ=>.val (a.get 6) σ,some 28,fun _=>some true,some 0,false⟩,
 ⟨fun a σ=>i_sub Tryz.prog 3 (.tmp 28) (.const (.int .i64 1)) (a.get 28) (.int .i64 1) σ,some 29,fun _=>some true,some 0,false⟩,
 ⟨fun a σ=>findex (none,1) (a.get 27) (a.get 29) σ,some 30,fun _=>some true,some 0,false⟩,
 ⟨fun a σ=>fload none (a.get 30) σ,some 31,fun _=>some true,some 0,false⟩,
 ⟨fun a σ=>flenL (a.get 31) σ,some 32,fun _=>some true,some 0,false⟩,
 ⟨fun a σ=>i_eql Tryz.prog 3 (.tmp 26) (.tmp 32) (a.get 26) (a.get 32) σ,some 33,fun _=>some true,some 0,false⟩]
def AhG:List DOp:=JW ()
def Sa(_:Unit):List DOp:=[⟨fun a σ=>.val (a.get 4) σ,some 34,fun _=>some true,some 0,false⟩,
 ⟨fun a σ=>.val (a.get 6) σ,some 35,fun _=>some true,some 0,false⟩,
 ⟨fun a σ=>i_sub Tryz.prog 3 (.tmp 35) (.const (.int .i64 1)) (a.get 35) (.int .i64 1) σ,some 36,fun _=>some true,some 0,false⟩,
 ⟨fun a σ=>fslice Tryz.prog 54 (a.get 34) none (some (a.get 36)) none σ,some 37,fun _=>some true,some 0,false⟩,
 ⟨fun a σ=>.val (a.get 5) σ,some 38,fun _=>some true,some 0,false⟩,
 ⟨fun a σ=>.val (a.get 6) σ,some 39,fun _=>some true,some 0,false⟩,
 ⟨fun a σ=>i_sub Tryz.prog 3 (.tmp 39) (.const (.int .i64 1)) (a.get 39) (.int .i64 1) σ,some 40,fun _=>some true,some 0,false⟩,
 ⟨fun a σ=>fslice Tryz.prog 25 (a.get 38) none (some (a.get 40)) none σ,some 41,fun _=>some true,some 0,false⟩,
 ⟨fun a σ=>.val (a.get 37) σ,some 4,fun _=>some true,some 0,false⟩,
 ⟨fun a σ=>.val (a.get 41) σ,some 5,fun _=>some true,some 0,false⟩]
def AhH:List DOp:=Sa ()
def L9(_:Unit):List COp:=[⟨fun a σ=>.val (a.get 6) σ,some 42,fun _=>some true⟩,
 ⟨fun a σ=>i_gtr Tryz.prog 3 (.tmp 42) (.const (.int .i64 1)) (a.get 42) (.int .i64 1) σ,some 43,fun _=>some true⟩]
def AhI:List COp:=L9 ()
def Sb(_:Unit):List COp:=[⟨fun a σ=>.val (a.get 5) σ,some 44,fun _=>some true⟩,
 ⟨fun a σ=>.val (a.get 6) σ,some 45,fun _=>some true⟩,
 ⟨fun a σ=>i_sub Tryz.prog 3 (.tmp 45) (.const (.int .i64 2)) (a.get 45) (.int .i64 2) σ,some 46,fun _=>some true⟩,
 ⟨fun a σ=>findex (none,1) (a.get 44) (a.get 46) σ,some 47,fun _=>some true⟩,
 ⟨fun a σ=>fload none (a.get 47) σ,some 48,fun _=>some true⟩,
 ⟨fun a σ=>i_add Tryz.prog 3 (.tmp 48) (.const (.int .i64 1)) (a.get 48) (.int .i64 1) σ,some 49,fun _=>some true⟩,
 ⟨fun a σ=>findex (none,1) (a.get 44) (a.get 46) σ,some 50,fun _=>some true⟩,
 ⟨fun a σ=>fstore 1 (a.get 50) (a.get 49) σ,none,fun _=>some true⟩]
def AhJ:List COp:=Sb ()
def L_(_:Unit):List DOp:=[⟨fun a σ=>.val (a.get 4) σ,some 51,fun _=>some true,some 0,false⟩,
 ⟨fun a σ=>.val (a.get 6) σ,some 52,fun _=>some true,some 0,false⟩,
 ⟨fun a σ=>i_sub Tryz.prog 3 (.tmp 52) (.const (.int .i64 1)) (a.get 52) (.int .i64 1) σ,some 53,fun _=>some true,some 0,false⟩,
 ⟨fun a σ=>findex (none,1) (a.get 51) (a.get 53) σ,some 54,fun _=>some true,some 0,false⟩,
 ⟨fun a σ=>fload none (a.get 54) σ,some 55,fun _=>some true,some 0,false⟩,
 ⟨fun a σ=>.val (a.get 5) σ,some 56,fun _=>some true,some 0,false⟩,
 ⟨fun a σ=>.val (a.get 6) σ,some 57,fun _=>some true,some 0,false⟩,
 ⟨fun a σ=>i_sub Tryz.prog 3 (.tmp 57) (.const (.int .i64 1)) (a.get 57) (.int .i64 1) σ,some 58,fun _=>some true,some 0,false⟩,
 ⟨fun a σ=>findex (none,1) (a.get 56) (a.get 58) σ,some 59,fun _=>some true,some 0,false⟩,
 ⟨fun a σ=>fload none (a.get 59) σ,some 60,fun _=>some true,some 0,false⟩,
 ⟨fun a σ=>findex (none,4) (a.get 55) (a.get 60) σ,some 61,fun _=>some true,some 0,false⟩,
 ⟨fun a σ=>fload (some 4) (a.get 61) σ,some 62,fun _=>some true,some 0,false⟩,
 ⟨fun a σ=>newCells [(.int .i64 0),(.int .i64 0),(.string ⟨#[]⟩),(.slice none 0 0)] 24 none σ,some 7,fun _=>some true,some 0,false⟩,
 ⟨fun a σ=>fstore 4 (a.get 7) (a.get 62) σ,none,fun _=>some true,none,true⟩]
def AhK:List DOp:=L_ ()
def JU(_:Unit):List DOp:=[⟨fun a σ=>.val (a.get 0) σ,some 63,fun _=>some true,some 0,false⟩,
 ⟨fun a σ=>.val (a.get 5) σ,some 64,fun _=>some true,some 0,false⟩,
 ⟨fun a σ=>.val (a.get 6) σ,some 65,fun _=>some true,some 0,false⟩,
 ⟨fun a σ=>.val (a.get 6) σ,some 66,fun _=>some true,some 0,false⟩,
 ⟨fun a σ=>fslice Tryz.prog 25 (a.get 64) none (some (a.get 65)) (some (a.get 66)) σ,some 67,fun _=>some true,some 0,false⟩,
 ⟨fun a σ=>fload (some 4) (a.get 7) σ,some 68,fun _=>some true,some 0,false⟩,
 ⟨fun a σ=>fcallV (a.get 63) [(a.get 67),(a.get 68)] σ,some 69,fun _=>some true,none,true⟩,
 ⟨fun a σ=>fun1 Tryz.prog (Op.unary .not) (a.get 69) σ,some 70,fun _=>some true,some 1,false⟩]
def AaH:List DOp:=JU ()
def Ns(_:Unit):List COp:=[⟨fun a σ=>.val (a.get 4) σ,some 71,fun _=>some true⟩,
 ⟨fun a σ=>fload (some 1) (a.get 2) σ,some 72,fun _=>some true⟩,
 ⟨fun a σ=>fload (some 4) (a.get 7) σ,some 73,fun _=>some true⟩,
 ⟨fun a σ=>.enter 150 [(a.get 72),(a.get 73)] σ,some 74,fun _=>some true⟩,
 ⟨fun a σ=>fbuildSlice 22 1 1 [(.slice none 0 0)] [(0,(a.get 74))] σ,some 75,fun _=>some true⟩,
 ⟨fun a σ=>fappend 22 1 24 (a.get 71) (a.get 75) σ,some 76,fun _=>some true⟩,
 ⟨fun a σ=>.val (a.get 76) σ,some 4,fun _=>some true⟩]
def AaI:List COp:=Ns ()
def Nt(_:Unit):List COp:=[⟨fun a σ=>.val (a.get 5) σ,some 77,fun _=>some true⟩,
 ⟨fun a σ=>fbuildSlice 3 1 1 [(.int .i64 0)] [(0,(.int .i64 0))] σ,some 78,fun _=>some true⟩,
 ⟨fun a σ=>fappend 3 1 8 (a.get 77) (a.get 78) σ,some 79,fun _=>some true⟩,
 ⟨fun a σ=>.val (a.get 79) σ,some 5,fun _=>some true⟩]
def AaJ:List COp:=Nt ()
def Gc(E:Env)(ro:Option Nat)(fn:FuncId):RunF:=(seqR (seqR (fops E ro AhE) (condR (fun a=>(a.get 19)) skipR (exitR 0))) (blockR 1 (seqR (fops E ro AhF) (seqR (seqR (drawR E ro AhG) (condR (fun a=>(a.get 33)) (seqR (drawR E ro AhH) (seqR (seqR (fops E ro AhI) (condR (fun a=>(a.get 43)) (fops E ro AhJ) skipR)) (exitR 1))) skipR)) (seqR (drawR E ro AhK) (seqR (seqR (drawR E ro AaH) (condR (fun a=>(a.get 70)) retR skipR)) (seqR (fops E ro AaI) (fops E ro AaJ))))))))
def Ob(E:Env)(ro:Option Nat)(fn:FuncId):RunF:=(seqR (seqR (fops E ro AhB) (condR (fun a=>(a.get 11)) retR skipR)) (seqR (fops E ro AhC) (seqR (fops E ro AhD) (blockR 0 (loopR (keepOf nls fn) (Gc E ro fn))))))
theorem Kz:fops E ro AhB a u σ=fops E ro (JT ()) a u σ:=rfl
theorem P0:fops E ro AhC a u σ=fops E ro (L7 ()) a u σ:=rfl
theorem P1:fops E ro AhD a u σ=fops E ro (L8 ()) a u σ:=rfl
theorem Ie:fops E ro AhE a u σ=fops E ro (Ic ()) a u σ:=rfl
theorem KA:fops E ro AhF a u σ=fops E ro (JV ()) a u σ:=rfl
theorem KC:fdraw E ro last AhG cl a u σ=fdraw E ro last (JW ()) cl a u σ:=rfl
theorem AcZ:fdraw E ro last AhH cl a u σ=fdraw E ro last (Sa ()) cl a u σ:=rfl
theorem P3:fops E ro AhI a u σ=fops E ro (L9 ()) a u σ:=rfl
theorem Ac0:fops E ro AhJ a u σ=fops E ro (Sb ()) a u σ:=rfl
theorem P5:fdraw E ro last AhK cl a u σ=fdraw E ro last (L_ ()) cl a u σ:=rfl
theorem Nr:fdraw E ro last AaH cl a u σ=fdraw E ro last (JU ()) cl a u σ:=rfl
theorem Yc:fops E ro AaI a u σ=fops E ro (Ns ()) a u σ:=rfl
theorem Yd:fops E ro AaJ a u σ=fops E ro (Nt ()) a u σ:=rfl
theorem AmH(E:Env)(ro:Option Nat)(fn:FuncId):code Tryz.prog nls (Tryz.f149.body.getD .skip) E ro fn=Ob E ro fn:=by kernel_rfl
theorem MD(E:Env)(args:List Value)(u:Option FrameMode)(σ:FState)(hn:args.length≤(8:Nat)):fcall Tryz.prog nls E 149 args u σ=leaveR Tryz.prog E [] (Ob E none 149 ⟨padTo undef 8 args,fun _=>undef,8,80,[]⟩ u σ):=by
 rw[Ao (body:=Tryz.f149.body.getD .skip) Tryz.func149 rfl E args u σ 8 80 (by kernel_rfl) rfl ⟨hn,by decide⟩,AmH]
 rfl
def Sc(_:Unit):List COp:=[⟨fun a σ=>fbox 141 (a.get 0) σ,some 2,fun _=>some true⟩,
 ⟨fun a σ=>fbox 24 (a.get 1) σ,some 3,fun _=>some true⟩,
 ⟨fun a σ=>.val (.slice none 0 0) σ,some 4,fun _=>some true⟩]
def AhL:List COp:=Sc ()
def Sd(_:Unit):List COp:=[⟨fun a σ=>ffield 0 (a.get 2) σ,some 5,fun _=>some true⟩,
 ⟨fun a σ=>fload none (a.get 5) σ,some 6,fun _=>some true⟩,
 ⟨fun a σ=>ffield 3 (a.get 3) σ,some 7,fun _=>some true⟩,
 ⟨fun a σ=>fload none (a.get 7) σ,some 8,fun _=>some true⟩,
 ⟨fun a σ=>fcallV (a.get 6) [(a.get 8)] σ,some 9,fun _=>some true⟩,
 ⟨fun a σ=>fun1 Tryz.prog (Op.unary .not) (a.get 9) σ,some 10,fun _=>some true⟩]
def AhM:List COp:=Sd ()
def AnW(_:Unit):List COp:=[⟨fun a σ=>.val (.slice none 0 0) σ,some 4,fun _=>some true⟩]
def Ass:List COp:=AnW ()
def Se(_:Unit):List COp:=[⟨fun a σ=>ffield 3 (a.get 3) σ,some 11,fun _=>some true⟩,
 ⟨fun a σ=>fload none (a.get 11) σ,some 12,fun _=>some true⟩,
 ⟨fun a σ=>.val (a.get 12) σ,some 4,fun _=>some true⟩]
def AhN:List COp:=Se ()
def ZK(E:Env)(ro:Option Nat)(fn:FuncId):RunF:=(seqR (fops E ro AhL) (seqR (seqR (fops E ro AhM) (condR (fun a=>(a.get 10)) (seqR (fops E ro Ass) retR) skipR)) (seqR (fops E ro AhN) retR)))
theorem Ac1:fops E ro AhL a u σ=fops E ro (Sc ()) a u σ:=rfl
theorem Ac2:fops E ro AhM a u σ=fops E ro (Sd ()) a u σ:=rfl
theorem Ac3:fops E ro AhN a u σ=fops E ro (Se ()) a u σ:=rfl
theorem AmI(E:Env)(ro:Option Nat)(fn:FuncId):code Tryz.prog nls (Tryz.f150.body.getD .skip) E ro fn=ZK E ro fn:=by kernel_rfl
theorem AeQ(E:Env)(args:List Value)(u:Option FrameMode)(σ:FState)(hn:args.length≤(4:Nat)):fcall Tryz.prog nls E 150 args u σ=leaveR Tryz.prog E [.tmp 4] (ZK E none 150 ⟨padTo undef 4 args,fun _=>undef,4,13,[]⟩ u σ):=by
 rw[Ao (body:=Tryz.f150.body.getD .skip) Tryz.func150 rfl E args u σ 4 13 (by kernel_rfl) rfl ⟨hn,by decide⟩,AmI]
 rfl
def D2(_:Unit):List COp:=[⟨fun a σ=>fbox 24 (a.get 0) σ,some 1,fun _=>some true⟩]
def Agu:List COp:=D2 ()
def D3(_:Unit):List COp:=[⟨fun a σ=>fload (some 4) (a.get 1) σ,some 5,fun _=>some true⟩,
 ⟨fun a σ=>.enter 127 [(a.get 5)] σ,some 6,fun _=>some true⟩,
 ⟨fun a σ=>.val (a.get 6) σ,some 2,fun _=>some true⟩]
def Agv:List COp:=D3 ()
def D4(_:Unit):List COp:=[⟨fun a σ=>.val (a.get 2) σ,some 7,fun _=>some true⟩,
 ⟨fun a σ=>finvoke Tryz.prog (a.get 7) "caracole/datum.formed" [] σ,some 8,fun _=>some true⟩,
 ⟨fun a σ=>fun1 Tryz.prog (Op.unary .not) (a.get 8) σ,some 9,fun _=>some true⟩]
def Agw:List COp:=D4 ()
def Fl(_:Unit):List COp:=[⟨fun a σ=>.enter 136 [(.int .i64 1)] σ,some 10,fun _=>some true⟩]
def Agx:List COp:=Fl ()
def Ey(_:Unit):List COp:=[⟨fun a σ=>.val (a.get 2) σ,some 11,fun _=>some true⟩]
def Agy:List COp:=Ey ()
def Ez(_:Unit):List COp:=[⟨fun a σ=>fassert Tryz.prog (a.get 11) 184 true σ,some 12,fun _=>some true⟩,
 ⟨fun a σ=>fextract 1 (a.get 12) σ,some 13,fun _=>some true⟩,
 ⟨fun a σ=>fextract 0 (a.get 12) σ,some 14,fun _=>some true⟩]
def Agz:List COp:=Ez ()
def HX(_:Unit):List COp:=[⟨fun a σ=>newCells [(.int .i64 0),(.int .i64 0),(.string ⟨#[]⟩),(.slice none 0 0)] 184 none σ,some 3,fun _=>some true⟩,
 ⟨fun a σ=>fstore 4 (a.get 3) (a.get 14) σ,none,fun _=>some true⟩]
def AgA:List COp:=HX ()
def HZ(_:Unit):List COp:=[⟨fun a σ=>fload (some 4) (a.get 3) σ,some 15,fun _=>some true⟩,
 ⟨fun a σ=>.enter 151 [(a.get 15)] σ,some 16,fun _=>some true⟩]
def AgB:List COp:=HZ ()
def Fm(_:Unit):List COp:=[⟨fun a σ=>fassert Tryz.prog (a.get 11) 151 true σ,some 17,fun _=>some true⟩,
 ⟨fun a σ=>fextract 1 (a.get 17) σ,some 18,fun _=>some true⟩,
 ⟨fun a σ=>fextract 0 (a.get 17) σ,some 19,fun _=>some true⟩]
def AgC:List COp:=Fm ()
def H3(_:Unit):List COp:=[⟨fun a σ=>newCells [(.int .i64 0),(.int .i64 0),(.string ⟨#[]⟩),(.slice none 0 0)] 151 none σ,some 4,fun _=>some true⟩,
 ⟨fun a σ=>fstore 4 (a.get 4) (a.get 19) σ,none,fun _=>some true⟩]
def AgD:List COp:=H3 ()
def Gq(_:Unit):List COp:=[⟨fun a σ=>fload (some 4) (a.get 4) σ,some 20,fun _=>some true⟩,
 ⟨fun a σ=>.enter 152 [(a.get 20)] σ,some 21,fun _=>some true⟩]
def Aar:List COp:=Gq ()
def TZ(E:Env)(ro:Option Nat)(fn:FuncId):RunF:=(seqR (fops E ro Agu) (seqR (fops E ro Agv) (seqR (seqR (fops E ro Agw) (condR (fun a=>(a.get 9)) (fops E ro Agx) skipR)) (seqR (fops E ro Agy) (blockR 0 (seqR (fops E ro Agz) (condR (fun a=>(a.get 13)) (seqR (fops E ro AgA) (fops E ro AgB)) (seqR (fops E ro AgC) (condR (fun a=>(a.get 18)) (seqR (fops E ro AgD) (fops E ro Aar)) skipR)))))))))
theorem Di:fops E ro Agu a u σ=fops E ro (D2 ()) a u σ:=rfl
theorem Dj:fops E ro Agv a u σ=fops E ro (D3 ()) a u σ:=rfl
theorem Dn:fops E ro Agw a u σ=fops E ro (D4 ()) a u σ:=rfl
theorem EW:fops E ro Agx a u σ=fops E ro (Fl ()) a u σ:=rfl
theorem Ej:fops E ro Agy a u σ=fops E ro (Ey ()) a u σ:=rfl
theorem Ek:fops E ro Agz a u σ=fops E ro (Ez ()) a u σ:=rfl
theorem HY:fops E ro AgA a u σ=fops E ro (HX ()) a u σ:=rfl
theorem H0:fops E ro AgB a u σ=fops E ro (HZ ()) a u σ:=rfl
theorem EX:fops E ro AgC a u σ=fops E ro (Fm ()) a u σ:=rfl
theorem H4:fops E ro AgD a u σ=fops E ro (H3 ()) a u σ:=rfl
theorem GY:fops E ro Aar a u σ=fops E ro (Gq ()) a u σ:=rfl
theorem Amv(E:Env)(ro:Option Nat)(fn:FuncId):code Tryz.prog nls (Tryz.f122.body.getD .skip) E ro fn=TZ E ro fn:=by kernel_rfl
theorem UI(E:Env)(args:List Value)(u:Option FrameMode)(σ:FState)(hn:args.length≤(5:Nat)):fcall Tryz.prog nls E 122 args u σ=leaveR Tryz.prog E [] (TZ E none 122 ⟨padTo undef 5 args,fun _=>undef,5,22,[]⟩ u σ):=by
 rw[Ao (body:=Tryz.f122.body.getD .skip) Tryz.func122 rfl E args u σ 5 22 (by kernel_rfl) rfl ⟨hn,by decide⟩,Amv]
 rfl
def E4(_:Unit):List COp:=[⟨fun a σ=>fbox 24 (a.get 0) σ,some 1,fun _=>some true⟩,
 ⟨fun a σ=>.val .nilIface σ,some 2,fun _=>some true⟩]
def AgG:List COp:=E4 ()
def E5(_:Unit):List COp:=[⟨fun a σ=>ffield 0 (a.get 1) σ,some 3,fun _=>some true⟩,
 ⟨fun a σ=>fload none (a.get 3) σ,some 4,fun _=>some true⟩]
def AgH:List COp:=E5 ()
def E6(_:Unit):List COp:=[⟨fun a σ=>i_eql Tryz.prog 3 (.tmp 4) (.const (.int .i64 0)) (a.get 4) (.int .i64 0) σ,some 6,fun _=>some true⟩,
 ⟨fun a σ=>.val (a.get 6) σ,some 5,fun _=>some true⟩]
def AgJ:List COp:=E6 ()
def RV(_:Unit):List COp:=[⟨fun a σ=>fload (some 4) (a.get 1) σ,some 7,fun _=>some true⟩,
 ⟨fun a σ=>fbuild (fun i=>nth [(0,4)] i) [(.int .i64 0),(.int .i64 0),(.string ⟨#[]⟩),(.slice none 0 0)] [(0,(a.get 7))] σ,some 8,fun _=>some true⟩,
 ⟨fun a σ=>.val (.iface 187 (a.get 8)) σ,some 9,fun _=>some true⟩,
 ⟨fun a σ=>.val (a.get 9) σ,some 2,fun _=>some true⟩]
def AgK:List COp:=RV ()
def Fp(_:Unit):List COp:=[⟨fun a σ=>i_eql Tryz.prog 3 (.tmp 4) (.const (.int .i64 1)) (a.get 4) (.int .i64 1) σ,some 11,fun _=>some true⟩,
 ⟨fun a σ=>.val (a.get 11) σ,some 10,fun _=>some true⟩]
def AgL:List COp:=Fp ()
def FU(_:Unit):List COp:=[⟨fun a σ=>i_eql Tryz.prog 3 (.tmp 4) (.const (.int .i64 2)) (a.get 4) (.int .i64 2) σ,some 12,fun _=>some true⟩,
 ⟨fun a σ=>.val (a.get 12) σ,some 10,fun _=>some true⟩]
def AgM:List COp:=FU ()
def LL(_:Unit):List COp:=[⟨fun a σ=>fload (some 4) (a.get 1) σ,some 13,fun _=>some true⟩,
 ⟨fun a σ=>fbuild (fun i=>nth [(0,4)] i) [(.int .i64 0),(.int .i64 0),(.string ⟨#[]⟩),(.slice none 0 0)] [(0,(a.get 13))] σ,some 14,fun _=>some true⟩,
 ⟨fun a σ=>.val (.iface 184 (a.get 14)) σ,some 15,fun _=>some true⟩,
 ⟨fun a σ=>.val (a.get 15) σ,some 2,fun _=>some true⟩]
def AgN:List COp:=LL ()
def GZ(_:Unit):List COp:=[⟨fun a σ=>i_eql Tryz.prog 3 (.tmp 4) (.const (.int .i64 3)) (a.get 4) (.int .i64 3) σ,some 17,fun _=>some true⟩,
 ⟨fun a σ=>.val (a.get 17) σ,some 16,fun _=>some true⟩]
def AgO:List COp:=GZ ()
def H5(_:Unit):List COp:=[⟨fun a σ=>i_eql Tryz.prog 3 (.tmp 4) (.const (.int .i64 4)) (a.get 4) (.int .i64 4) σ,some 18,fun _=>some true⟩,
 ⟨fun a σ=>.val (a.get 18) σ,some 16,fun _=>some true⟩]
def AgP:List COp:=H5 ()
def LM(_:Unit):List COp:=[⟨fun a σ=>fload (some 4) (a.get 1) σ,some 19,fun _=>some true⟩,
 ⟨fun a σ=>fbuild (fun i=>nth [(0,4)] i) [(.int .i64 0),(.int .i64 0),(.string ⟨#[]⟩),(.slice none 0 0)] [(0,(a.get 19))] σ,some 20,fun _=>some true⟩,
 ⟨fun a σ=>.val (.iface 151 (a.get 20)) σ,some 21,fun _=>some true⟩,
 ⟨fun a σ=>.val (a.get 21) σ,some 2,fun _=>some true⟩]
def AgQ:List COp:=LM ()
def HC(_:Unit):List COp:=[⟨fun a σ=>i_eql Tryz.prog 3 (.tmp 4) (.const (.int .i64 5)) (a.get 4) (.int .i64 5) σ,some 23,fun _=>some true⟩,
 ⟨fun a σ=>.val (a.get 23) σ,some 22,fun _=>some true⟩]
def Aas:List COp:=HC ()
def JR(_:Unit):List COp:=[⟨fun a σ=>i_eql Tryz.prog 3 (.tmp 4) (.const (.int .i64 6)) (a.get 4) (.int .i64 6) σ,some 24,fun _=>some true⟩,
 ⟨fun a σ=>.val (a.get 24) σ,some 22,fun _=>some true⟩]
def Aat:List COp:=JR ()
def JS(_:Unit):List COp:=[⟨fun a σ=>fload (some 4) (a.get 1) σ,some 25,fun _=>some true⟩,
 ⟨fun a σ=>fbuild (fun i=>nth [(0,4)] i) [(.int .i64 0),(.int .i64 0),(.string ⟨#[]⟩),(.slice none 0 0)] [(0,(a.get 25))] σ,some 26,fun _=>some true⟩,
 ⟨fun a σ=>.val (.iface 188 (a.get 26)) σ,some 27,fun _=>some true⟩,
 ⟨fun a σ=>.val (a.get 27) σ,some 2,fun _=>some true⟩]
def Aau:List COp:=JS ()
def Nq(_:Unit):List COp:=[⟨fun a σ=>.enter 136 [(.int .i64 4)] σ,some 28,fun _=>some true⟩]
def Aav:List COp:=Nq ()
def AgI(_:Unit):List COp:=[⟨fun a σ=>.val .nilIface σ,some 2,fun _=>some true⟩]
def AnU:List COp:=AgI ()
def T9(E:Env)(ro:Option Nat)(fn:FuncId):RunF:=(seqR (fops E ro AgG) (seqR (seqR (fops E ro AgH) (blockR 0 (seqR (fops E ro AgJ) (condR (fun a=>(a.get 5)) (seqR (fops E ro AgK) retR) (seqR (seqR (fops E ro AgL) (condR (fun a=>(a.get 10)) skipR (fops E ro AgM))) (condR (fun a=>(a.get 10)) (seqR (fops E ro AgN) retR) (seqR (seqR (fops E ro AgO) (condR (fun a=>(a.get 16)) skipR (fops E ro AgP))) (condR (fun a=>(a.get 16)) (seqR (fops E ro AgQ) retR) (seqR (seqR (fops E ro Aas) (condR (fun a=>(a.get 22)) skipR (fops E ro Aat))) (condR (fun a=>(a.get 22)) (seqR (fops E ro Aau) retR) skipR)))))))))) (seqR (fops E ro Aav) (seqR (fops E ro AnU) retR))))
theorem EI:fops E ro AgG a u σ=fops E ro (E4 ()) a u σ:=rfl
theorem EJ:fops E ro AgH a u σ=fops E ro (E5 ()) a u σ:=rfl
theorem EK:fops E ro AgJ a u σ=fops E ro (E6 ()) a u σ:=rfl
theorem AcM:fops E ro AgK a u σ=fops E ro (RV ()) a u σ:=rfl
theorem EY:fops E ro AgL a u σ=fops E ro (Fp ()) a u σ:=rfl
theorem Fx:fops E ro AgM a u σ=fops E ro (FU ()) a u σ:=rfl
theorem PL:fops E ro AgN a u σ=fops E ro (LL ()) a u σ:=rfl
theorem Gr:fops E ro AgO a u σ=fops E ro (GZ ()) a u σ:=rfl
theorem H6:fops E ro AgP a u σ=fops E ro (H5 ()) a u σ:=rfl
theorem PM:fops E ro AgQ a u σ=fops E ro (LM ()) a u σ:=rfl
theorem Jf:fops E ro Aas a u σ=fops E ro (HC ()) a u σ:=rfl
theorem Nm:fops E ro Aat a u σ=fops E ro (JR ()) a u σ:=rfl
theorem Nn:fops E ro Aau a u σ=fops E ro (JS ()) a u σ:=rfl
theorem XW:fops E ro Aav a u σ=fops E ro (Nq ()) a u σ:=rfl
theorem Amx(E:Env)(ro:Option Nat)(fn:FuncId):code Tryz.prog nls (Tryz.f127.body.getD .skip) E ro fn=T9 E ro fn:=by kernel_rfl
theorem UJ(E:Env)(args:List Value)(u:Option FrameMode)(σ:FState)(hn:args.length≤(2:Nat)):fcall Tryz.prog nls E 127 args u σ=leaveR Tryz.prog E [.tmp 2] (T9 E none 127 ⟨padTo undef 2 args,fun _=>undef,2,29,[]⟩ u σ):=by
 rw[Ao (body:=Tryz.f127.body.getD .skip) Tryz.func127 rfl E args u σ 2 29 (by kernel_rfl) rfl ⟨hn,by decide⟩,Amx]
 rfl
def RT(_:Unit):List COp:=[⟨fun a σ=>fbox 24 (a.get 0) σ,some 1,fun _=>some true⟩,
 ⟨fun a σ=>.val .nilFunc σ,some 2,fun _=>some true⟩]
def AgE:List COp:=RT ()
def RU(_:Unit):List COp:=[⟨fun a σ=>fbuild (fun i=>nth [(0,1)] i) [.nilFunc] [(0,(.func (.func 153) #[] #[]))] σ,some 3,fun _=>some true⟩,
 ⟨fun a σ=>fload (some 4) (a.get 1) σ,some 4,fun _=>some true⟩,
 ⟨fun a σ=>.enter 121 [(a.get 3),(a.get 4)] σ,some 5,fun _=>some true⟩,
 ⟨fun a σ=>.val (a.get 5) σ,some 2,fun _=>some true⟩]
def AgF:List COp:=RU ()
def ZD(E:Env)(ro:Option Nat)(fn:FuncId):RunF:=(seqR (fops E ro AgE) (seqR (fops E ro AgF) retR))
theorem AcK:fops E ro AgE a u σ=fops E ro (RT ()) a u σ:=rfl
theorem AcL:fops E ro AgF a u σ=fops E ro (RU ()) a u σ:=rfl
theorem Amw(E:Env)(ro:Option Nat)(fn:FuncId):code Tryz.prog nls (Tryz.f123.body.getD .skip) E ro fn=ZD E ro fn:=by kernel_rfl
theorem AeJ(E:Env)(args:List Value)(u:Option FrameMode)(σ:FState)(hn:args.length≤(2:Nat)):fcall Tryz.prog nls E 123 args u σ=leaveR Tryz.prog E [.tmp 2] (ZD E none 123 ⟨padTo undef 2 args,fun _=>undef,2,6,[]⟩ u σ):=by
 rw[Ao (body:=Tryz.f123.body.getD .skip) Tryz.func123 rfl E args u σ 2 6 (by kernel_rfl) rfl ⟨hn,by decide⟩,Amw]
 rfl
def Sf(_:Unit):List COp:=[⟨fun a σ=>.val (.bool false) σ,some 2,fun _=>some true⟩]
def Ah1:List COp:=Sf ()
def Sg(_:Unit):List COp:=[⟨fun a σ=>.val (.bool true) σ,some 2,fun _=>some true⟩]
def Ah2:List COp:=Sg ()
def ZL(E:Env)(ro:Option Nat)(fn:FuncId):RunF:=(seqR (fops E ro Ah1) (seqR (fops E ro Ah2) retR))
theorem Ac4:fops E ro Ah1 a u σ=fops E ro (Sf ()) a u σ:=rfl
theorem Ac5:fops E ro Ah2 a u σ=fops E ro (Sg ()) a u σ:=rfl
theorem AmL(E:Env)(ro:Option Nat)(fn:FuncId):code Tryz.prog nls (Tryz.f153.body.getD .skip) E ro fn=ZL E ro fn:=by kernel_rfl
theorem AeR(E:Env)(args:List Value)(u:Option FrameMode)(σ:FState)(hn:args.length≤(1:Nat)):fcall Tryz.prog nls E 153 args u σ=leaveR Tryz.prog E [.tmp 2] (ZL E none 153 ⟨padTo undef 1 args,fun _=>undef,1,3,[]⟩ u σ):=by
 rw[Ao (body:=Tryz.f153.body.getD .skip) Tryz.func153 rfl E args u σ 1 3 (by kernel_rfl) rfl ⟨hn,by decide⟩,AmL]
 rfl
def FV(_:Unit):List COp:=[⟨fun a σ=>fbox 184 (a.get 0) σ,some 1,fun _=>some true⟩]
def AhO:List COp:=FV ()
def FW(_:Unit):List COp:=[⟨fun a σ=>.val (.int .i64 (-999999999)) σ,some 2,fun _=>some true⟩,
 ⟨fun a σ=>.val (.int .i64 999999999) σ,some 3,fun _=>some true⟩]
def AhP:List COp:=FW ()
def FX(_:Unit):List COp:=[⟨fun a σ=>ffield 0 (a.get 1) σ,some 4,fun _=>some true⟩,
 ⟨fun a σ=>ffield 0 (a.get 4) σ,some 5,fun _=>some true⟩,
 ⟨fun a σ=>fload none (a.get 5) σ,some 6,fun _=>some true⟩,
 ⟨fun a σ=>i_eql Tryz.prog 3 (.tmp 6) (.const (.int .i64 1)) (a.get 6) (.int .i64 1) σ,some 7,fun _=>some true⟩]
def AhQ:List COp:=FX ()
def G0(_:Unit):List COp:=[⟨fun a σ=>.val (.int .i64 0) σ,some 2,fun _=>some true⟩,
 ⟨fun a σ=>.val (.int .i64 1) σ,some 3,fun _=>some true⟩]
def AhR:List COp:=G0 ()
def FY(_:Unit):List COp:=[⟨fun a σ=>ffield 0 (a.get 1) σ,some 8,fun _=>some true⟩,
 ⟨fun a σ=>ffield 1 (a.get 8) σ,some 9,fun _=>some true⟩,
 ⟨fun a σ=>fload none (a.get 9) σ,some 10,fun _=>some true⟩,
 ⟨fun a σ=>.val (a.get 2) σ,some 11,fun _=>some true⟩,
 ⟨fun a σ=>i_lss Tryz.prog 3 (.tmp 10) (.tmp 11) (a.get 10) (a.get 11) σ,some 12,fun _=>some true⟩,
 ⟨fun a σ=>.val (a.get 12) σ,some 13,fun _=>some true⟩,
 ⟨fun a σ=>ffield 0 (a.get 1) σ,some 14,fun a=>gd (a.get 13) false⟩,
 ⟨fun a σ=>ffield 1 (a.get 14) σ,some 15,fun a=>gd (a.get 13) false⟩,
 ⟨fun a σ=>fload none (a.get 15) σ,some 16,fun a=>gd (a.get 13) false⟩,
 ⟨fun a σ=>.val (a.get 3) σ,some 17,fun a=>gd (a.get 13) false⟩,
 ⟨fun a σ=>i_gtr Tryz.prog 3 (.tmp 16) (.tmp 17) (a.get 16) (a.get 17) σ,some 18,fun a=>gd (a.get 13) false⟩,
 ⟨fun a σ=>fpick (a.get 13) (.bool true) (a.get 18) σ,some 19,fun _=>some true⟩]
def AhS:List COp:=FY ()
def Ig(_:Unit):List COp:=[⟨fun a σ=>.enter 136 [(.int .i64 13)] σ,some 20,fun _=>some true⟩]
def AhT:List COp:=Ig ()
def Oc(E:Env)(ro:Option Nat)(fn:FuncId):RunF:=(seqR (fops E ro AhO) (seqR (fops E ro AhP) (seqR (seqR (fops E ro AhQ) (condR (fun a=>(a.get 7)) (fops E ro AhR) skipR)) (seqR (fops E ro AhS) (condR (fun a=>(a.get 19)) (fops E ro AhT) skipR)))))
theorem Fy:fops E ro AhO a u σ=fops E ro (FV ()) a u σ:=rfl
theorem Fz:fops E ro AhP a u σ=fops E ro (FW ()) a u σ:=rfl
theorem FA:fops E ro AhQ a u σ=fops E ro (FX ()) a u σ:=rfl
theorem Gs:fops E ro AhR a u σ=fops E ro (G0 ()) a u σ:=rfl
theorem FB:fops E ro AhS a u σ=fops E ro (FY ()) a u σ:=rfl
theorem Ih:fops E ro AhT a u σ=fops E ro (Ig ()) a u σ:=rfl
theorem AmJ(E:Env)(ro:Option Nat)(fn:FuncId):code Tryz.prog nls (Tryz.f151.body.getD .skip) E ro fn=Oc E ro fn:=by kernel_rfl
theorem ME(E:Env)(args:List Value)(u:Option FrameMode)(σ:FState)(hn:args.length≤(4:Nat)):fcall Tryz.prog nls E 151 args u σ=leaveR Tryz.prog E [] (Oc E none 151 ⟨padTo undef 4 args,fun _=>undef,4,21,[]⟩ u σ):=by
 rw[Ao (body:=Tryz.f151.body.getD .skip) Tryz.func151 rfl E args u σ 4 21 (by kernel_rfl) rfl ⟨hn,by decide⟩,AmJ]
 rfl
def G1(_:Unit):List COp:=[⟨fun a σ=>fbox 151 (a.get 0) σ,some 1,fun _=>some true⟩]
def AhU:List COp:=G1 ()
def G3(_:Unit):List COp:=[⟨fun a σ=>ffield 0 (a.get 1) σ,some 3,fun _=>some true⟩,
 ⟨fun a σ=>ffield 0 (a.get 3) σ,some 4,fun _=>some true⟩,
 ⟨fun a σ=>fload none (a.get 4) σ,some 5,fun _=>some true⟩,
 ⟨fun a σ=>i_eql Tryz.prog 3 (.tmp 5) (.const (.int .i64 3)) (a.get 5) (.int .i64 3) σ,some 6,fun _=>some true⟩,
 ⟨fun a σ=>.val (a.get 6) σ,some 7,fun _=>some true⟩,
 ⟨fun a σ=>ffield 0 (a.get 1) σ,some 8,fun a=>gd (a.get 7) true⟩,
 ⟨fun a σ=>ffield 2 (a.get 8) σ,some 9,fun a=>gd (a.get 7) true⟩,
 ⟨fun a σ=>fload none (a.get 9) σ,some 10,fun a=>gd (a.get 7) true⟩,
 ⟨fun a σ=>.enter 170 [(a.get 10)] σ,some 11,fun a=>gd (a.get 7) true⟩,
 ⟨fun a σ=>fun1 Tryz.prog (Op.unary .not) (a.get 11) σ,some 12,fun a=>gd (a.get 7) true⟩,
 ⟨fun a σ=>fpick (a.get 7) (a.get 12) (.bool false) σ,some 13,fun _=>some true⟩,
 ⟨fun a σ=>.val (a.get 13) σ,some 2,fun _=>some true⟩]
def AhV:List COp:=G3 ()
def JX(_:Unit):List COp:=[⟨fun a σ=>.enter 136 [(.int .i64 2)] σ,some 14,fun _=>some true⟩]
def AhW:List COp:=JX ()
def G6(_:Unit):List COp:=[⟨fun a σ=>ffield 0 (a.get 1) σ,some 16,fun _=>some true⟩,
 ⟨fun a σ=>ffield 0 (a.get 16) σ,some 17,fun _=>some true⟩,
 ⟨fun a σ=>fload none (a.get 17) σ,some 18,fun _=>some true⟩,
 ⟨fun a σ=>i_eql Tryz.prog 3 (.tmp 18) (.const (.int .i64 4)) (a.get 18) (.int .i64 4) σ,some 19,fun _=>some true⟩,
 ⟨fun a σ=>.val (a.get 19) σ,some 20,fun _=>some true⟩,
 ⟨fun a σ=>ffield 0 (a.get 1) σ,some 21,fun a=>gd (a.get 20) true⟩,
 ⟨fun a σ=>ffield 2 (a.get 21) σ,some 22,fun a=>gd (a.get 20) true⟩,
 ⟨fun a σ=>fload none (a.get 22) σ,some 23,fun a=>gd (a.get 20) true⟩,
 ⟨fun a σ=>flenS (a.get 23) σ,some 24,fun a=>gd (a.get 20) true⟩,
 ⟨fun a σ=>i_gtr Tryz.prog 3 (.tmp 24) (.const (.int .i64 60)) (a.get 24) (.int .i64 60) σ,some 25,fun a=>gd (a.get 20) true⟩,
 ⟨fun a σ=>fpick (a.get 20) (a.get 25) (.bool false) σ,some 26,fun _=>some true⟩,
 ⟨fun a σ=>.val (a.get 26) σ,some 15,fun _=>some true⟩]
def AhX:List COp:=G6 ()
def JY(_:Unit):List COp:=[⟨fun a σ=>.enter 136 [(.int .i64 8)] σ,some 27,fun _=>some true⟩]
def AhY:List COp:=JY ()
def G7(_:Unit):List COp:=[⟨fun a σ=>ffield 0 (a.get 1) σ,some 29,fun _=>some true⟩,
 ⟨fun a σ=>ffield 0 (a.get 29) σ,some 30,fun _=>some true⟩,
 ⟨fun a σ=>fload none (a.get 30) σ,some 31,fun _=>some true⟩,
 ⟨fun a σ=>i_eql Tryz.prog 3 (.tmp 31) (.const (.int .i64 4)) (a.get 31) (.int .i64 4) σ,some 32,fun _=>some true⟩,
 ⟨fun a σ=>.val (a.get 32) σ,some 33,fun _=>some true⟩,
 ⟨fun a σ=>ffield 0 (a.get 1) σ,some 34,fun a=>gd (a.get 33) true⟩,
 ⟨fun a σ=>ffield 2 (a.get 34) σ,some 35,fun a=>gd (a.get 33) true⟩,
 ⟨fun a σ=>fload none (a.get 35) σ,some 36,fun a=>gd (a.get 33) true⟩,
 ⟨fun a σ=>.enter 171 [(a.get 36)] σ,some 37,fun a=>gd (a.get 33) true⟩,
 ⟨fun a σ=>fun1 Tryz.prog (Op.unary .not) (a.get 37) σ,some 38,fun a=>gd (a.get 33) true⟩,
 ⟨fun a σ=>fpick (a.get 33) (a.get 38) (.bool false) σ,some 39,fun _=>some true⟩,
 ⟨fun a σ=>.val (a.get 39) σ,some 28,fun _=>some true⟩]
def AhZ:List COp:=G7 ()
def JZ(_:Unit):List COp:=[⟨fun a σ=>.enter 136 [(.int .i64 13)] σ,some 40,fun _=>some true⟩]
def Ah0:List COp:=JZ ()
def Od(E:Env)(ro:Option Nat)(fn:FuncId):RunF:=(seqR (fops E ro AhU) (blockR 0 (seqR (fops E ro AhV) (condR (fun a=>(a.get 2)) (fops E ro AhW) (seqR (fops E ro AhX) (condR (fun a=>(a.get 15)) (fops E ro AhY) (seqR (fops E ro AhZ) (condR (fun a=>(a.get 28)) (fops E ro Ah0) skipR))))))))
theorem Gt:fops E ro AhU a u σ=fops E ro (G1 ()) a u σ:=rfl
theorem Gu:fops E ro AhV a u σ=fops E ro (G3 ()) a u σ:=rfl
theorem KD:fops E ro AhW a u σ=fops E ro (JX ()) a u σ:=rfl
theorem Gv:fops E ro AhX a u σ=fops E ro (G6 ()) a u σ:=rfl
theorem KE:fops E ro AhY a u σ=fops E ro (JY ()) a u σ:=rfl
theorem Gw:fops E ro AhZ a u σ=fops E ro (G7 ()) a u σ:=rfl
theorem KF:fops E ro Ah0 a u σ=fops E ro (JZ ()) a u σ:=rfl
theorem AmK(E:Env)(ro:Option Nat)(fn:FuncId):code Tryz.prog nls (Tryz.f152.body.getD .skip) E ro fn=Od E ro fn:=by kernel_rfl
theorem MF(E:Env)(args:List Value)(u:Option FrameMode)(σ:FState)(hn:args.length≤(2:Nat)):fcall Tryz.prog nls E 152 args u σ=leaveR Tryz.prog E [] (Od E none 152 ⟨padTo undef 2 args,fun _=>undef,2,41,[]⟩ u σ):=by
 rw[Ao (body:=Tryz.f152.body.getD .skip) Tryz.func152 rfl E args u σ 2 41 (by kernel_rfl) rfl ⟨hn,by decide⟩,AmK]
 rfl
def J7(_:Unit):List COp:=[⟨fun a σ=>fbox 151 (a.get 0) σ,some 1,fun _=>some true⟩,
 ⟨fun a σ=>.val (.bool false) σ,some 2,fun _=>some true⟩]
def AjR:List COp:=J7 ()
def J8(_:Unit):List COp:=[⟨fun a σ=>ffield 0 (a.get 1) σ,some 3,fun _=>some true⟩,
 ⟨fun a σ=>ffield 1 (a.get 3) σ,some 4,fun _=>some true⟩,
 ⟨fun a σ=>fload none (a.get 4) σ,some 5,fun _=>some true⟩,
 ⟨fun a σ=>i_eql Tryz.prog 3 (.tmp 5) (.const (.int .i64 0)) (a.get 5) (.int .i64 0) σ,some 6,fun _=>some true⟩,
 ⟨fun a σ=>.val (a.get 6) σ,some 7,fun _=>some true⟩,
 ⟨fun a σ=>ffield 0 (a.get 1) σ,some 8,fun a=>gd (a.get 7) true⟩,
 ⟨fun a σ=>ffield 3 (a.get 8) σ,some 9,fun a=>gd (a.get 7) true⟩,
 ⟨fun a σ=>fload none (a.get 9) σ,some 10,fun a=>gd (a.get 7) true⟩,
 ⟨fun a σ=>flenL (a.get 10) σ,some 11,fun a=>gd (a.get 7) true⟩,
 ⟨fun a σ=>i_eql Tryz.prog 3 (.tmp 11) (.const (.int .i64 0)) (a.get 11) (.int .i64 0) σ,some 12,fun a=>gd (a.get 7) true⟩,
 ⟨fun a σ=>fpick (a.get 7) (a.get 12) (.bool false) σ,some 13,fun _=>some true⟩,
 ⟨fun a σ=>.val (a.get 13) σ,some 2,fun _=>some true⟩]
def AjS:List COp:=J8 ()
def Ue(E:Env)(ro:Option Nat)(fn:FuncId):RunF:=(seqR (fops E ro AjR) (seqR (fops E ro AjS) retR))
theorem KM:fops E ro AjR a u σ=fops E ro (J7 ()) a u σ:=rfl
theorem KN:fops E ro AjS a u σ=fops E ro (J8 ()) a u σ:=rfl
theorem AmZ(E:Env)(ro:Option Nat)(fn:FuncId):code Tryz.prog nls (Tryz.f225.body.getD .skip) E ro fn=Ue E ro fn:=by kernel_rfl
theorem UQ(E:Env)(args:List Value)(u:Option FrameMode)(σ:FState)(hn:args.length≤(2:Nat)):fcall Tryz.prog nls E 225 args u σ=leaveR Tryz.prog E [.tmp 2] (Ue E none 225 ⟨padTo undef 2 args,fun _=>undef,2,14,[]⟩ u σ):=by
 rw[Ao (body:=Tryz.f225.body.getD .skip) Tryz.func225 rfl E args u σ 2 14 (by kernel_rfl) rfl ⟨hn,by decide⟩,AmZ]
 rfl
def J9(_:Unit):List COp:=[⟨fun a σ=>fbox 184 (a.get 0) σ,some 1,fun _=>some true⟩,
 ⟨fun a σ=>.val (.bool false) σ,some 2,fun _=>some true⟩]
def AjZ:List COp:=J9 ()
def J_(_:Unit):List COp:=[⟨fun a σ=>ffield 0 (a.get 1) σ,some 3,fun _=>some true⟩,
 ⟨fun a σ=>ffield 2 (a.get 3) σ,some 4,fun _=>some true⟩,
 ⟨fun a σ=>fload none (a.get 4) σ,some 5,fun _=>some true⟩,
 ⟨fun a σ=>i_eql Tryz.prog 9 (.tmp 5) (.const (.string ⟨#[]⟩)) (a.get 5) (.string ⟨#[]⟩) σ,some 6,fun _=>some true⟩,
 ⟨fun a σ=>.val (a.get 6) σ,some 7,fun _=>some true⟩,
 ⟨fun a σ=>ffield 0 (a.get 1) σ,some 8,fun a=>gd (a.get 7) true⟩,
 ⟨fun a σ=>ffield 3 (a.get 8) σ,some 9,fun a=>gd (a.get 7) true⟩,
 ⟨fun a σ=>fload none (a.get 9) σ,some 10,fun a=>gd (a.get 7) true⟩,
 ⟨fun a σ=>flenL (a.get 10) σ,some 11,fun a=>gd (a.get 7) true⟩,
 ⟨fun a σ=>i_eql Tryz.prog 3 (.tmp 11) (.const (.int .i64 0)) (a.get 11) (.int .i64 0) σ,some 12,fun a=>gd (a.get 7) true⟩,
 ⟨fun a σ=>fpick (a.get 7) (a.get 12) (.bool false) σ,some 13,fun _=>some true⟩,
 ⟨fun a σ=>.val (a.get 13) σ,some 2,fun _=>some true⟩]
def Aj0:List COp:=J_ ()
def Uf(E:Env)(ro:Option Nat)(fn:FuncId):RunF:=(seqR (fops E ro AjZ) (seqR (fops E ro Aj0) retR))
theorem KO:fops E ro AjZ a u σ=fops E ro (J9 ()) a u σ:=rfl
theorem KP:fops E ro Aj0 a u σ=fops E ro (J_ ()) a u σ:=rfl
theorem Am0(E:Env)(ro:Option Nat)(fn:FuncId):code Tryz.prog nls (Tryz.f231.body.getD .skip) E ro fn=Uf E ro fn:=by kernel_rfl
theorem UR(E:Env)(args:List Value)(u:Option FrameMode)(σ:FState)(hn:args.length≤(2:Nat)):fcall Tryz.prog nls E 231 args u σ=leaveR Tryz.prog E [.tmp 2] (Uf E none 231 ⟨padTo undef 2 args,fun _=>undef,2,14,[]⟩ u σ):=by
 rw[Ao (body:=Tryz.f231.body.getD .skip) Tryz.func231 rfl E args u σ 2 14 (by kernel_rfl) rfl ⟨hn,by decide⟩,Am0]
 rfl
def Iy(_:Unit):List COp:=[⟨fun a σ=>fbox 187 (a.get 0) σ,some 1,fun _=>some true⟩,
 ⟨fun a σ=>.val (.bool false) σ,some 2,fun _=>some true⟩]
def Aj1:List COp:=Iy ()
def IA(_:Unit):List COp:=[⟨fun a σ=>ffield 0 (a.get 1) σ,some 3,fun _=>some true⟩,
 ⟨fun a σ=>ffield 1 (a.get 3) σ,some 4,fun _=>some true⟩,
 ⟨fun a σ=>fload none (a.get 4) σ,some 5,fun _=>some true⟩,
 ⟨fun a σ=>i_eql Tryz.prog 3 (.tmp 5) (.const (.int .i64 0)) (a.get 5) (.int .i64 0) σ,some 6,fun _=>some true⟩,
 ⟨fun a σ=>.val (a.get 6) σ,some 7,fun _=>some true⟩,
 ⟨fun a σ=>ffield 0 (a.get 1) σ,some 8,fun a=>gd (a.get 7) true⟩,
 ⟨fun a σ=>ffield 2 (a.get 8) σ,some 9,fun a=>gd (a.get 7) true⟩,
 ⟨fun a σ=>fload none (a.get 9) σ,some 10,fun a=>gd (a.get 7) true⟩,
 ⟨fun a σ=>i_eql Tryz.prog 9 (.tmp 10) (.const (.string ⟨#[]⟩)) (a.get 10) (.string ⟨#[]⟩) σ,some 11,fun a=>gd (a.get 7) true⟩,
 ⟨fun a σ=>fpick (a.get 7) (a.get 11) (.bool false) σ,some 12,fun _=>some true⟩,
 ⟨fun a σ=>.val (a.get 12) σ,some 13,fun _=>some true⟩,
 ⟨fun a σ=>ffield 0 (a.get 1) σ,some 14,fun a=>gd (a.get 13) true⟩,
 ⟨fun a σ=>ffield 3 (a.get 14) σ,some 15,fun a=>gd (a.get 13) true⟩,
 ⟨fun a σ=>fload none (a.get 15) σ,some 16,fun a=>gd (a.get 13) true⟩,
 ⟨fun a σ=>flenL (a.get 16) σ,some 17,fun a=>gd (a.get 13) true⟩,
 ⟨fun a σ=>i_eql Tryz.prog 3 (.tmp 17) (.const (.int .i64 0)) (a.get 17) (.int .i64 0) σ,some 18,fun a=>gd (a.get 13) true⟩,
 ⟨fun a σ=>fpick (a.get 13) (a.get 18) (.bool false) σ,some 19,fun _=>some true⟩,
 ⟨fun a σ=>.val (a.get 19) σ,some 2,fun _=>some true⟩]
def Aj2:List COp:=IA ()
def Ug(E:Env)(ro:Option Nat)(fn:FuncId):RunF:=(seqR (fops E ro Aj1) (seqR (fops E ro Aj2) retR))
theorem Iz:fops E ro Aj1 a u σ=fops E ro (Iy ()) a u σ:=rfl
theorem IB:fops E ro Aj2 a u σ=fops E ro (IA ()) a u σ:=rfl
theorem Am1(E:Env)(ro:Option Nat)(fn:FuncId):code Tryz.prog nls (Tryz.f233.body.getD .skip) E ro fn=Ug E ro fn:=by kernel_rfl
theorem US(E:Env)(args:List Value)(u:Option FrameMode)(σ:FState)(hn:args.length≤(2:Nat)):fcall Tryz.prog nls E 233 args u σ=leaveR Tryz.prog E [.tmp 2] (Ug E none 233 ⟨padTo undef 2 args,fun _=>undef,2,20,[]⟩ u σ):=by
 rw[Ao (body:=Tryz.f233.body.getD .skip) Tryz.func233 rfl E args u σ 2 20 (by kernel_rfl) rfl ⟨hn,by decide⟩,Am1]
 rfl
def G9(_:Unit):List COp:=[⟨fun a σ=>fbox 188 (a.get 0) σ,some 1,fun _=>some true⟩,
 ⟨fun a σ=>.val (.bool false) σ,some 2,fun _=>some true⟩]
def Aj3:List COp:=G9 ()
def G_(_:Unit):List COp:=[⟨fun a σ=>ffield 0 (a.get 1) σ,some 3,fun _=>some true⟩,
 ⟨fun a σ=>ffield 1 (a.get 3) σ,some 4,fun _=>some true⟩,
 ⟨fun a σ=>fload none (a.get 4) σ,some 5,fun _=>some true⟩,
 ⟨fun a σ=>i_eql Tryz.prog 3 (.tmp 5) (.const (.int .i64 0)) (a.get 5) (.int .i64 0) σ,some 6,fun _=>some true⟩,
 ⟨fun a σ=>.val (a.get 6) σ,some 7,fun _=>some true⟩,
 ⟨fun a σ=>ffield 0 (a.get 1) σ,some 8,fun a=>gd (a.get 7) true⟩,
 ⟨fun a σ=>ffield 2 (a.get 8) σ,some 9,fun a=>gd (a.get 7) true⟩,
 ⟨fun a σ=>fload none (a.get 9) σ,some 10,fun a=>gd (a.get 7) true⟩,
 ⟨fun a σ=>i_eql Tryz.prog 9 (.tmp 10) (.const (.string ⟨#[]⟩)) (a.get 10) (.string ⟨#[]⟩) σ,some 11,fun a=>gd (a.get 7) true⟩,
 ⟨fun a σ=>fpick (a.get 7) (a.get 11) (.bool false) σ,some 12,fun _=>some true⟩,
 ⟨fun a σ=>.val (a.get 12) σ,some 13,fun _=>some true⟩,
 ⟨fun a σ=>ffield 0 (a.get 1) σ,some 14,fun a=>gd (a.get 13) true⟩,
 ⟨fun a σ=>ffield 0 (a.get 14) σ,some 15,fun a=>gd (a.get 13) true⟩,
 ⟨fun a σ=>fload none (a.get 15) σ,some 16,fun a=>gd (a.get 13) true⟩,
 ⟨fun a σ=>i_eql Tryz.prog 3 (.tmp 16) (.const (.int .i64 6)) (a.get 16) (.int .i64 6) σ,some 17,fun a=>gd (a.get 13) true⟩,
 ⟨fun a σ=>.val (a.get 17) σ,some 18,fun a=>gd (a.get 13) true⟩,
 ⟨fun a σ=>ffield 0 (a.get 1) σ,some 19,fun a=>gd (a.get 18) false⟩,
 ⟨fun a σ=>ffield 3 (a.get 19) σ,some 20,fun a=>gd (a.get 18) false⟩,
 ⟨fun a σ=>fload none (a.get 20) σ,some 21,fun a=>gd (a.get 18) false⟩,
 ⟨fun a σ=>flenL (a.get 21) σ,some 22,fun a=>gd (a.get 18) false⟩,
 ⟨fun a σ=>i_eql Tryz.prog 3 (.tmp 22) (.const (.int .i64 2)) (a.get 22) (.int .i64 2) σ,some 23,fun a=>gd (a.get 18) false⟩,
 ⟨fun a σ=>fpick (a.get 18) (.bool true) (a.get 23) σ,some 24,fun a=>gd (a.get 13) true⟩,
 ⟨fun a σ=>fpick (a.get 13) (a.get 24) (.bool false) σ,some 25,fun _=>some true⟩,
 ⟨fun a σ=>.val (a.get 25) σ,some 2,fun _=>some true⟩]
def Aj4:List COp:=G_ ()
def Oe(E:Env)(ro:Option Nat)(fn:FuncId):RunF:=(seqR (fops E ro Aj3) (seqR (fops E ro Aj4) retR))
theorem Gy:fops E ro Aj3 a u σ=fops E ro (G9 ()) a u σ:=rfl
theorem Gz:fops E ro Aj4 a u σ=fops E ro (G_ ()) a u σ:=rfl
theorem Am2(E:Env)(ro:Option Nat)(fn:FuncId):code Tryz.prog nls (Tryz.f235.body.getD .skip) E ro fn=Oe E ro fn:=by kernel_rfl
theorem MG(E:Env)(args:List Value)(u:Option FrameMode)(σ:FState)(hn:args.length≤(2:Nat)):fcall Tryz.prog nls E 235 args u σ=leaveR Tryz.prog E [.tmp 2] (Oe E none 235 ⟨padTo undef 2 args,fun _=>undef,2,26,[]⟩ u σ):=by
 rw[Ao (body:=Tryz.f235.body.getD .skip) Tryz.func235 rfl E args u σ 2 26 (by kernel_rfl) rfl ⟨hn,by decide⟩,Am2]
 rfl
def Im(_:Unit):List COp:=[⟨fun a σ=>.val (.bool false) σ,some 2,fun _=>some true⟩]
def AiG:List COp:=Im ()
def Ip(_:Unit):List COp:=[⟨fun a σ=>.val (a.get 0) σ,some 4,fun _=>some true⟩,
 ⟨fun a σ=>flenS (a.get 4) σ,some 5,fun _=>some true⟩,
 ⟨fun a σ=>i_eql Tryz.prog 3 (.tmp 5) (.const (.int .i64 0)) (a.get 5) (.int .i64 0) σ,some 6,fun _=>some true⟩,
 ⟨fun a σ=>.val (a.get 6) σ,some 7,fun _=>some true⟩,
 ⟨fun a σ=>.val (a.get 0) σ,some 8,fun a=>gd (a.get 7) false⟩,
 ⟨fun a σ=>flenS (a.get 8) σ,some 9,fun a=>gd (a.get 7) false⟩,
 ⟨fun a σ=>i_gtr Tryz.prog 3 (.tmp 9) (.const (.int .i64 20)) (a.get 9) (.int .i64 20) σ,some 10,fun a=>gd (a.get 7) false⟩,
 ⟨fun a σ=>fpick (a.get 7) (.bool true) (a.get 10) σ,some 11,fun _=>some true⟩]
def AiH:List COp:=Ip ()
def Mi(_:Unit):List COp:=[⟨fun a σ=>.val (.bool false) σ,some 2,fun _=>some true⟩]
def AiI:List COp:=Mi ()
def Mj(_:Unit):List COp:=[⟨fun a σ=>.val (a.get 0) σ,some 12,fun _=>some true⟩,
 ⟨fun a σ=>flenS (a.get 12) σ,some 13,fun _=>some true⟩,
 ⟨fun a σ=>.val (.int .i64 0) σ,some 14,fun _=>some true⟩]
def AiJ:List COp:=Mj ()
def E7(_:Unit):List COp:=[⟨fun a σ=>i_lss Tryz.prog 3 (.tmp 14) (.tmp 13) (a.get 14) (a.get 13) σ,some 15,fun _=>some true⟩]
def AiK:List COp:=E7 ()
def FZ(_:Unit):List COp:=[⟨fun a σ=>.val (a.get 14) σ,some 16,fun _=>some true⟩,
 ⟨fun a σ=>.val (a.get 16) σ,some 3,fun _=>some true⟩]
def AiL:List COp:=FZ ()
def F7(_:Unit):List COp:=[⟨fun a σ=>.val (a.get 0) σ,some 17,fun _=>some true⟩,
 ⟨fun a σ=>.val (a.get 3) σ,some 18,fun _=>some true⟩,
 ⟨fun a σ=>findexS (a.get 17) (a.get 18) σ,some 19,fun _=>some true⟩,
 ⟨fun a σ=>fun1 Tryz.prog (convert 5 21) (a.get 19) σ,some 20,fun _=>some true⟩,
 ⟨fun a σ=>.enter 188 [(a.get 20)] σ,some 21,fun _=>some true⟩]
def AiM:List COp:=F7 ()
def F8(_:Unit):List COp:=[⟨fun a σ=>i_eql Tryz.prog 223 (.tmp 21) (.const (.int .i64 2)) (a.get 21) (.int .i64 2) σ,some 23,fun _=>some true⟩,
 ⟨fun a σ=>.val (a.get 23) σ,some 22,fun _=>some true⟩]
def AiN:List COp:=F8 ()
def F9(_:Unit):List COp:=[⟨fun a σ=>i_eql Tryz.prog 223 (.tmp 21) (.const (.int .i64 0)) (a.get 21) (.int .i64 0) σ,some 25,fun _=>some true⟩,
 ⟨fun a σ=>.val (a.get 25) σ,some 24,fun _=>some true⟩]
def AiO:List COp:=F9 ()
def F_(_:Unit):List COp:=[⟨fun a σ=>.val (a.get 3) σ,some 26,fun _=>some true⟩,
 ⟨fun a σ=>i_gtr Tryz.prog 3 (.tmp 26) (.const (.int .i64 1)) (a.get 26) (.int .i64 1) σ,some 27,fun _=>some true⟩,
 ⟨fun a σ=>.val (a.get 27) σ,some 28,fun _=>some true⟩,
 ⟨fun a σ=>.val (a.get 3) σ,some 29,fun a=>gd (a.get 28) false⟩,
 ⟨fun a σ=>i_eql Tryz.prog 3 (.tmp 29) (.const (.int .i64 1)) (a.get 29) (.int .i64 1) σ,some 30,fun a=>gd (a.get 28) false⟩,
 ⟨fun a σ=>.val (a.get 30) σ,some 31,fun a=>gd (a.get 28) false⟩,
 ⟨fun a σ=>.val (a.get 0) σ,some 32,fun a=>gd (a.get 31) true⟩,
 ⟨fun a σ=>findexS (a.get 32) (.int .i64 0) σ,some 33,fun a=>gd (a.get 31) true⟩,
 ⟨fun a σ=>i_neq Tryz.prog 5 (.tmp 33) (.const (.int .u8 45)) (a.get 33) (.int .u8 45) σ,some 34,fun a=>gd (a.get 31) true⟩,
 ⟨fun a σ=>fpick (a.get 31) (a.get 34) (.bool false) σ,some 35,fun a=>gd (a.get 28) false⟩,
 ⟨fun a σ=>fpick (a.get 28) (.bool true) (a.get 35) σ,some 36,fun _=>some true⟩]
def AiP:List COp:=F_ ()
def HF(_:Unit):List COp:=[⟨fun a σ=>.val (.bool false) σ,some 2,fun _=>some true⟩]
def AaV:List COp:=HF ()
def HG(_:Unit):List COp:=[⟨fun a σ=>i_add Tryz.prog 3 (.tmp 14) (.const (.int .i64 1)) (a.get 14) (.int .i64 1) σ,some 37,fun _=>some true⟩,
 ⟨fun a σ=>.val (a.get 37) σ,some 14,fun _=>some true⟩]
def AaW:List COp:=HG ()
def Fe(E:Env)(ro:Option Nat)(fn:FuncId):RunF:=(seqR (fops E ro AiK) (seqR (condR (fun a=>(a.get 15)) skipR (exitR 0)) (seqR (blockR 1 (seqR (fops E ro AiL) (seqR (fops E ro AiM) (blockR 2 (seqR (blockR 4 (seqR (blockR 3 (seqR (seqR (seqR (fops E ro AiN) (condR (fun a=>(a.get 22)) (exitR 3) skipR)) (seqR (fops E ro AiO) (condR (fun a=>(a.get 24)) (exitR 4) skipR))) (exitR 2))) (seqR (fops E ro AiP) (condR (fun a=>(a.get 36)) (exitR 1) skipR)))) (seqR (seqR (fops E ro AaV) retR) (exitR 2))))))) (fops E ro AaW))))
def J4(_:Unit):List COp:=[⟨fun a σ=>.val (.bool true) σ,some 2,fun _=>some true⟩]
def AaX:List COp:=J4 ()
def Uc(E:Env)(ro:Option Nat)(fn:FuncId):RunF:=(seqR (fops E ro AiG) (seqR (seqR (fops E ro AiH) (condR (fun a=>(a.get 11)) (seqR (fops E ro AiI) retR) skipR)) (seqR (seqR (fops E ro AiJ) (blockR 0 (loopR (keepOf nls fn) (Fe E ro fn)))) (seqR (fops E ro AaX) retR))))
theorem Io:fops E ro AiG a u σ=fops E ro (Im ()) a u σ:=rfl
theorem Iq:fops E ro AiH a u σ=fops E ro (Ip ()) a u σ:=rfl
theorem Qd:fops E ro AiI a u σ=fops E ro (Mi ()) a u σ:=rfl
theorem Qe:fops E ro AiJ a u σ=fops E ro (Mj ()) a u σ:=rfl
theorem EL:fops E ro AiK a u σ=fops E ro (E7 ()) a u σ:=rfl
theorem FC:fops E ro AiL a u σ=fops E ro (FZ ()) a u σ:=rfl
theorem FD:fops E ro AiM a u σ=fops E ro (F7 ()) a u σ:=rfl
theorem FE:fops E ro AiN a u σ=fops E ro (F8 ()) a u σ:=rfl
theorem FF:fops E ro AiO a u σ=fops E ro (F9 ()) a u σ:=rfl
theorem FG:fops E ro AiP a u σ=fops E ro (F_ ()) a u σ:=rfl
theorem Jh:fops E ro AaV a u σ=fops E ro (HF ()) a u σ:=rfl
theorem Ji:fops E ro AaW a u σ=fops E ro (HG ()) a u σ:=rfl
theorem Nv:fops E ro AaX a u σ=fops E ro (J4 ()) a u σ:=rfl
theorem AmS(E:Env)(ro:Option Nat)(fn:FuncId):code Tryz.prog nls (Tryz.f170.body.getD .skip) E ro fn=Uc E ro fn:=by kernel_rfl
theorem UN(E:Env)(args:List Value)(u:Option FrameMode)(σ:FState)(hn:args.length≤(4:Nat)):fcall Tryz.prog nls E 170 args u σ=leaveR Tryz.prog E [.tmp 2] (Uc E none 170 ⟨padTo undef 4 args,fun _=>undef,4,38,[]⟩ u σ):=by
 rw[Ao (body:=Tryz.f170.body.getD .skip) Tryz.func170 rfl E args u σ 4 38 (by kernel_rfl) rfl ⟨hn,by decide⟩,AmS]
 rfl
def Mk(_:Unit):List COp:=[⟨fun a σ=>.val (.bool false) σ,some 2,fun _=>some true⟩]
def AiQ:List COp:=Mk ()
def Ml(_:Unit):List COp:=[⟨fun a σ=>.val (a.get 0) σ,some 5,fun _=>some true⟩,
 ⟨fun a σ=>frangeS (a.get 5) σ,some 6,fun _=>some true⟩]
def AiR:List COp:=Ml ()
def G8(_:Unit):List COp:=[⟨fun a σ=>fnext (a.get 6) σ,some 7,fun _=>some true⟩,
 ⟨fun a σ=>fextract 0 (a.get 7) σ,some 8,fun _=>some true⟩]
def AiS:List COp:=G8 ()
def Ir(_:Unit):List COp:=[⟨fun a σ=>fextract 2 (a.get 7) σ,some 9,fun _=>some true⟩,
 ⟨fun a σ=>.val (a.get 9) σ,some 4,fun _=>some true⟩]
def AiT:List COp:=Ir ()
def Iv(_:Unit):List COp:=[⟨fun a σ=>.val (a.get 4) σ,some 10,fun _=>some true⟩,
 ⟨fun a σ=>i_lss Tryz.prog 21 (.tmp 10) (.const (.int .i32 32)) (a.get 10) (.int .i32 32) σ,some 11,fun _=>some true⟩,
 ⟨fun a σ=>.val (a.get 11) σ,some 12,fun _=>some true⟩,
 ⟨fun a σ=>.val (a.get 4) σ,some 13,fun a=>gd (a.get 12) false⟩,
 ⟨fun a σ=>i_gtr Tryz.prog 21 (.tmp 13) (.const (.int .i32 126)) (a.get 13) (.int .i32 126) σ,some 14,fun a=>gd (a.get 12) false⟩,
 ⟨fun a σ=>fpick (a.get 12) (.bool true) (a.get 14) σ,some 15,fun _=>some true⟩]
def AiU:List COp:=Iv ()
def Mm(_:Unit):List COp:=[⟨fun a σ=>.val (.bool false) σ,some 2,fun _=>some true⟩]
def AiV:List COp:=Mm ()
def Hu(E:Env)(ro:Option Nat)(fn:FuncId):RunF:=(seqR (fops E ro AiS) (seqR (condR (fun a=>(a.get 8)) skipR (exitR 0)) (blockR 1 (seqR (fops E ro AiT) (seqR (fops E ro AiU) (condR (fun a=>(a.get 15)) (seqR (fops E ro AiV) retR) skipR))))))
def SD(_:Unit):List COp:=[⟨fun a σ=>.val (.bool true) σ,some 2,fun _=>some true⟩]
def AiW:List COp:=SD ()
def Ud(E:Env)(ro:Option Nat)(fn:FuncId):RunF:=(seqR (fops E ro AiQ) (seqR (seqR (fops E ro AiR) (blockR 0 (loopR (keepOf nls fn) (Hu E ro fn)))) (seqR (fops E ro AiW) retR)))
theorem Qf:fops E ro AiQ a u σ=fops E ro (Mk ()) a u σ:=rfl
theorem Qg:fops E ro AiR a u σ=fops E ro (Ml ()) a u σ:=rfl
theorem Gx:fops E ro AiS a u σ=fops E ro (G8 ()) a u σ:=rfl
theorem Iu:fops E ro AiT a u σ=fops E ro (Ir ()) a u σ:=rfl
theorem Iw:fops E ro AiU a u σ=fops E ro (Iv ()) a u σ:=rfl
theorem Qh:fops E ro AiV a u σ=fops E ro (Mm ()) a u σ:=rfl
theorem Ado:fops E ro AiW a u σ=fops E ro (SD ()) a u σ:=rfl
theorem AmT(E:Env)(ro:Option Nat)(fn:FuncId):code Tryz.prog nls (Tryz.f171.body.getD .skip) E ro fn=Ud E ro fn:=by kernel_rfl
theorem UO(E:Env)(args:List Value)(u:Option FrameMode)(σ:FState)(hn:args.length≤(5:Nat)):fcall Tryz.prog nls E 171 args u σ=leaveR Tryz.prog E [.tmp 2] (Ud E none 171 ⟨padTo undef 5 args,fun _=>undef,5,16,[]⟩ u σ):=by
 rw[Ao (body:=Tryz.f171.body.getD .skip) Tryz.func171 rfl E args u σ 5 16 (by kernel_rfl) rfl ⟨hn,by decide⟩,AmT]
 rfl
end
section
open Go Go.Eng
attribute [local congr] Ab Ah Af Ad Ae
attribute [-go_sem] List.range_succ
theorem Ad7:aggSize Tryz.prog 3=some none:=by kernel_rfl
theorem Up:aggSize Tryz.prog 32=some none:=by kernel_rfl
theorem Asa(x:Nat)(σ:FState):i_eql Tryz.prog 20 (.tmp x) (.const .nilIface) .nilIface .nilIface σ=.val (.bool true) σ:=by kernel_rfl
end
end Go.Proofs.YtokieofohmgjdaaGreatDoor
end
