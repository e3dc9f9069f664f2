import Derived.Test.YtknnbjmcfibpgaaGreatDoorU2
import Derived.KernelRfl
import Derived.Attr
import Derived.Test.YtknnbjmcfibpgaaGreatDoorProg
set_option linter.unusedSimpArgs false
set_option linter.unusedVariables false
noncomputable section
namespace Go.Eng
open Go
def aV.ok(a:aV):Prop:=a.nl<=a.loc.length
theorem DT{a:aV}{d t:Nat}{v:Value}(h:a.ok)(hd:d<a.nt):(a.put (some d) v).get t=if t=d then v else a.get t:=by
 have e:a.put (some d) v=a.putT d v:=by
  show (Bool.rec (motive:=fun _=>aV) a (a.putT d v) (Nat.blt d a.nt))=_
  have:Nat.blt d a.nt=true:=by simpa [Nat.blt_eq] using hd
  rw[this]
 rw[e,Jr]
 unfold aV.ok at h
 by_cases ht:t=d
 .rw[if_pos ht,if_pos ht,if_pos (by omega)]
 .rw[if_neg ht,if_neg ht]
theorem CZ(a:aV)(v:Value):a.put none v=a:=rfl
theorem Ec(a:aV)(dst:Option Tmp)(v:Value):(a.put dst v).nt=a.nt:=(Na a dst v).1
theorem BJ(a:aV)(dst:Option Tmp)(v:Value):(a.put dst v).defers=a.defers:=(Na a dst v).2
theorem Ed(a:aV)(dst:Option Tmp)(v:Value):(a.put dst v).ok=a.ok:=by
 cases dst with
 | none=>rfl
 | some d=>
  show aV.ok (Bool.rec (motive:=fun _=>aV) a (a.putT d v) (Nat.blt d a.nt))=_
  cases Nat.blt d a.nt with
  | false=>rfl
  | true=>
   show aV.ok (a.putT d v)=_
   unfold aV.putT
   cases Nat.ble a.nl d with
   | true=>rfl
   | false=>
    show (a.nl<=(setNth v a.loc d).length)=(a.nl<=a.loc.length)
    rw[GH,List.length_set]
theorem HO(nl nt:Nat)(args:List Value)(t:Nat):(⟨aY undef nl args,fun _=>undef,nl,nt,[]⟩:aV).get t=if t<nl then args[t]?.getD undef else undef:=by
 show Bool.rec (motive:=fun _=>Value) (Option.rec (motive:=fun _=>Value) undef (fun v=>v) (nth (aY undef nl args) t)) undef (Nat.ble nl t)=_
 rw[ED,O6]
 by_cases h:t<nl
 .have:Nat.ble nl t=false:=by rw[<-Bool.not_eq_true,Nat.ble_eq];omega
  rw[this,if_pos h,if_pos h]
 .have:Nat.ble nl t=true:=by rw[Nat.ble_eq];omega
  rw[this,if_neg h,if_neg h]
theorem Adu{α:Type}(d:α)(n:Nat)(l:List α):(aY d n l).length=n:=by
 induction n generalizing l with
 | zero=>rfl
 | succ n ih=>cases l with
  | nil=>exact congrArg (· + 1) (ih [])
  | cons x t=>exact congrArg (· + 1) (ih t)
theorem Vw(nl nt:Nat)(args:List Value)(ds:List Deferred):(⟨aY undef nl args,fun _=>undef,nl,nt,ds⟩:aV).ok:=by
 show nl<=_
 rw[Adu]
 exact Nat.le_refl _
theorem Afz(t:Tmp)(a:aV):(cget (.tmp t)).un a=a.get t:=rfl
theorem Ae(Z:aC)(o:FObj)(fz:Option Nat):(Z.push o fz).next=Z.next+1:=rfl
theorem Bh(Z:aC)(o:FObj)(fz:Option Nat):(Z.push o fz).clock=Z.clock+1:=rfl
theorem Ao(Z:aC)(b:Nat)(o:FObj)(fz:Option Nat):(Z.put b o fz).next=Z.next:=rfl
theorem AX(Z:aC)(b:Nat)(o:FObj)(fz:Option Nat):(Z.put b o fz).clock=Z.clock+1:=rfl
theorem Ak(Z:aC)(c:Nat)(o:FObj)(fz:Option Nat)(b:Nat):(Z.put c o fz).heap.get b=if b=c then some ⟨o,false,fz,Z.clock⟩ else Z.heap.get b:=Tr.get_set _ _ _ _
section
variable (P:Program) (H:Hints) (E:Env) (ro:Option Nat) (fn:FuncId) (a:aV) (u:Option FrameMode) (Z:aC)
theorem Aa{r r':KRes}(k:aZ)(h:r=r'):andThen r k=andThen r' k:=by rw[h]
theorem Ar(k:aZ):andThen (.done .normal a u Z) k=k a u Z:=rfl
theorem AW(k:aZ):andThen (.done .ret a u Z) k=.done .ret a u Z:=rfl
theorem AO(id:Nat)(k:aZ):andThen (.done (.exit id) a u Z) k=.done (.exit id) a u Z:=rfl
theorem Aw(ch:List PanicEntry)(k:aZ):andThen (.done (.panic ch) a u Z) k=.done (.panic ch) a u Z:=rfl
theorem CT:aD E ro [] a u Z=.done .normal a u Z:=rfl
theorem Ac9(o:COp)(l:List COp):aD E ro (o::l) a u Z=(match o.guard a with|none=>.no|some false=>aD E ro l (a.put o.dst skipV) u Z|some true=>afterOp E ro o.dst a u (aD E ro l) (o.op a Z)):=by
 show Option.rec (motive:=fun _=>KRes) .no _ (o.guard a)=_
 cases o.guard a with
 | none=>rfl
 | some g=>cases g<;>rfl
variable (dst:Option Tmp) (k:aZ)
theorem B_(v:Value)(s:aC):afterOp E ro dst a u k (.val v s)=k (a.put dst v) u s:=rfl
theorem Bu(s:aC):afterOp E ro dst a u k (.skip s)=k (a.put dst undef) u s:=rfl
theorem Be(f:FuncId)(args:List Value)(s:aC):afterOp E ro dst a u k (.enter f args s)=afterCall a dst u k (E.call f args none s):=rfl
theorem B6(v:Value)(u':Option FrameMode)(s:aC):afterCall a dst u k (.ret v u' s)=k (a.put dst v) u s:=rfl
end
end Go.Eng
namespace Go.Eng
open Go
def nosums:Sums:=fun _ _ _=>none
theorem OT(P:Program)(S:Sums)(H:Hints)(n:Nat)(f:FuncId)(args:List Value)(Z:aC)(h:S f args Z=none):
  (fenv P S H (n+1)).call f args none Z=bA P H (fenv P S H n) f args none Z:=by
 show fcallS P S H (fenv P S H n) f args none Z=_
 unfold fcallS
 rw[h]
theorem XC(P:Program)(S:Sums)(H:Hints)(n l:Nat)(args:List Value)(Z:aC):(fenv P S H (n+1)).round l args Z=fround P H (fenv P S H n) l args Z:=rfl
theorem XB(P:Program)(S:Sums)(H:Hints)(n:Nat)(f:FuncId)(args:List Value)(md:FrameMode)(Z:aC):(fenv P S H (n+1)).call f args (some md) Z=bA P H (fenv P S H n) f args (some md) Z:=rfl
theorem Au7{P:Program}{H:Hints}{f:FuncId}{fn:Func}{body:Code}(hf:P.funcs[f]? = some fn)(hb:fn.body=some body):
  (cfn P H f).un=some ⟨code P H body,slotsOf H f,fn.ntmps,fn.results.toList,fn.params.size+fn.nfree⟩:=by
 unfold cfn
 rw[hf]
 simp only[hb]
theorem Am{P:Program}{H:Hints}{f:FuncId}{fn:Func}{body:Code}(hf:P.funcs[f]? = some fn)(hb:fn.body=some body)(E:Env)(args:List Value)(u:Option FrameMode)(Z:aC)(nl nt:Nat)(hl:slotsOf H f=nl)(ht:fn.ntmps=nt)(hn:args.length<=nl/\nl<=nt):
  bA P H E f args u Z=(match code P H body E none f ⟨aY undef nl args,fun _=>undef,nl,nt,[]⟩ u Z with
  | .done .normal a u Z=>fleave P E fn.results.toList a u a.defers .returning Z
  | .done .ret a u Z=>fleave P E fn.results.toList a u a.defers .returning Z
  | .done (.panic ch) a u Z=>fleave P E fn.results.toList a u a.defers (.panicking ch) Z
  | _=>.no):=by
 unfold bA
 rw[Au7 hf hb]
 simp only[hl,ht]
 have h1:Nat.ble (len args) nl=true:=by rw[Nat.ble_eq,EC];exact hn.1
 have h2:Nat.ble nl nt=true:=by rw[Nat.ble_eq];exact hn.2
 rw[h1,h2]
 rfl
section
variable (P:Program) (H:Hints) (E:Env) (ro:Option Nat) (fn:FuncId) (a:aV) (u:Option FrameMode) (Z:aC)
theorem Bb(rs:List ResultVar):fleave P E rs a u [] .returning Z=(match fresults P rs a Z with
    | some [v]=>.ret v u Z
    | some vs=>.ret (.tuple vs.toArray) u Z
    | none=>.no):=rfl
theorem Bd(rs:List ResultVar)(ch:List PanicEntry):fleave P E rs a u [] (.panicking ch) Z=.pan ch u Z:=rfl
variable (d:Nat)
end
end Go.Eng
namespace Go.Eng
open Go
def flenD(d:Option TypeDesc)(x:Value)(Z:aC):ORes:=
 match d with
 | some .string=>flenS x Z
 | some (.slice _)=>flenL x Z
 | some (.map _ _)=>flenM x Z
 | _=>.no
section
variable (P:Program) (H:Hints) (E:Env) (ro:Option Nat) (fn:FuncId) (a:aV) (u:Option FrameMode) (Z:aC)
variable (x y z:Operand)
end
theorem ApC(e:TypeId)(v:Value)(Z:aC)(h:aM v=true):fbox e v Z=.val (.pointer (some ⟨Z.next,0,none⟩)) (Z.push (.cells (aI v) e) none):=by
 unfold fbox;rw[h];rfl
theorem Cc(off b o:Nat)(Z:aC):aH off (.pointer (some ⟨b,o,none⟩)) Z=.val (.pointer (some ⟨b,o+off,none⟩)) Z:=rfl
theorem CU(b:Bool)(x y:Value)(Z:aC):bG (.bool b) x y Z=.val (bif b then x else y) Z:=by cases b<;>rfl
end Go.Eng
namespace Go.Eng
open Go
theorem A7(c:Array Value):aM (.agg c)=true:=of_decide_eq_true (by simp[aM])
theorem A8(k:IntKind)(n:Int):aM (.int k n)=true:=of_decide_eq_true (by simp[aM])
theorem AC(s:ByteArray):aM (.string s)=true:=of_decide_eq_true (by simp[aM])
theorem AU(b:Bool):aM (.bool b)=true:=of_decide_eq_true (by simp[aM])
theorem AA(p:Option Addr)(l c:Nat):aM (.slice p l c)=true:=of_decide_eq_true (by simp[aM])
theorem Ay(p:Option Addr):aM (.pointer p)=true:=of_decide_eq_true (by simp[aM])
theorem DX(f:Fn)(a b:Array Value):aM (.func f a b)=true:=of_decide_eq_true (by simp[aM])
theorem Jz(r:Option Nat):aM (.map r)=true:=of_decide_eq_true (by simp[aM])
theorem Bc(k:IntKind)(n:Int):oneCell (.int k n)=true:=of_decide_eq_true (by simp[oneCell])
theorem AJ(s:ByteArray):oneCell (.string s)=true:=of_decide_eq_true (by simp[oneCell])
theorem A9(b:Bool):oneCell (.bool b)=true:=of_decide_eq_true (by simp[oneCell])
theorem Au(p:Option Addr)(l c:Nat):oneCell (.slice p l c)=true:=of_decide_eq_true (by simp[oneCell])
theorem AE(p:Option Addr):oneCell (.pointer p)=true:=of_decide_eq_true (by simp[oneCell])
theorem EW(f:Fn)(a b:Array Value):oneCell (.func f a b)=true:=of_decide_eq_true (by simp[oneCell])
theorem Lg(r:Option Nat):oneCell (.map r)=true:=of_decide_eq_true (by simp[oneCell])
theorem A_(l:List Value):aI (.agg l.toArray)=l:=rfl
theorem Ba(k:IntKind)(n:Int):aI (.int k n)=[.int k n]:=rfl
theorem AF(s:ByteArray):aI (.string s)=[.string s]:=rfl
theorem AV(b:Bool):aI (.bool b)=[.bool b]:=rfl
theorem AK(p:Option Addr)(l c:Nat):aI (.slice p l c)=[.slice p l c]:=rfl
theorem Az(p:Option Addr):aI (.pointer p)=[.pointer p]:=rfl
theorem Eu(f:Fn)(a b:Array Value):aI (.func f a b)=[.func f a b]:=rfl
theorem Kb(r:Option Nat):aI (.map r)=[.map r]:=rfl
def FObj.cells? : FObj->Option (List Value)
 | .cells c _=>some c
 | _=>none
theorem cells?_cells(c:List Value)(t:TypeId):(FObj.cells c t).cells? = some c:=rfl
theorem Av(Z:aC)(b:Nat):Z.cells b=(Z.heap.get b).bind fun e=>e.obj.cells?:=by
 show Option.rec (motive:=fun _=>Option (List Value)) none _ (Z.heap.get b)=_
 cases Z.heap.get b with
 | none=>rfl
 | some e=>
  obtain⟨o,ro,fz,ver⟩:=e
  cases o<;>rfl
theorem Al(Z:aC)(o:FObj)(fz:Option Nat)(b:Nat):(Z.push o fz).cells b=if b=Z.next then o.cells? else Z.cells b:=by
 rw[Av,Aj,Av]
 by_cases h:b=Z.next
 .rw[if_pos h,if_pos h];rfl
 .rw[if_neg h,if_neg h]
theorem Aq(Z:aC)(c:Nat)(o:FObj)(fz:Option Nat)(b:Nat):(Z.put c o fz).cells b=if b=c then o.cells? else Z.cells b:=by
 rw[Av,Ak,Av]
 by_cases h:b=c
 .rw[if_pos h,if_pos h];rfl
 .rw[if_neg h,if_neg h]
theorem D6(b off:Nat)(Z:aC):aG none (.pointer (some ⟨b,off,none⟩)) Z=(match Z.cells b with|some c=>(match c[off]? with|some v=>.val v Z|none=>.no)|none=>.no):=by
 unfold aG
 cases h:Z.cells b with
 | none=>simp only[h]
 | some c=>simp only[h,ED];cases c[off]?<;>rfl
theorem D7(n b off:Nat)(Z:aC):aG (some n) (.pointer (some ⟨b,off,none⟩)) Z=(match Z.cells b with|some c=>(if n<=c.length-off then .val (.agg ((c.drop off).take n).toArray) Z else .no)|none=>.no):=by
 unfold aG
 cases h:Z.cells b with
 | none=>simp only[h]
 | some c=>
  simp only[h,Ho,HH,List.length_drop]
  by_cases hn:n<=c.length-off
  .rw[if_pos hn,if_pos hn]
  .rw[if_neg hn,if_neg hn]
section
variable (P:Program) (a:aV) (Z:aC) (t u:TypeId) (x y:Operand)
end
end Go.Eng
namespace Go.Eng
open Go
section
variable (P:Program) (t:TypeId) (x y:Operand) (s r:ByteArray) (Z:aC)
theorem Ary:fbin0 P .eql t x y (.string s) (.string r) Z=.val (.bool (s.toList==r.toList)) Z:=by
 unfold fbin0 orPure
 simp[eqGuard,binOp,flat,Op.stringOp]
 rfl
theorem Arz:fbin0 P .neq t x y (.string s) (.string r) Z=.val (.bool (!(s.toList==r.toList))) Z:=by
 unfold fbin0 orPure
 simp[eqGuard,binOp,flat,Op.stringOp]
 rfl
end
structure Ext (Z V:aC):Prop where
 next:Z.next<=V.next
 clock:Z.clock<=V.clock
 get:∀b,b<Z.next->V.heap.get b=Z.heap.get b
theorem Ext.refl(Z:aC):Ext Z Z:=⟨Nat.le_refl _,Nat.le_refl _,fun _ _=>rfl⟩
theorem Ext.trans{Z bV b_:aC}(h:Ext Z bV)(k:Ext bV b_):Ext Z b_:=
 ⟨Nat.le_trans h.next k.next,Nat.le_trans h.clock k.clock,fun b hb=>(k.get b (Nat.lt_of_lt_of_le hb h.next)).trans (h.get b hb)⟩
theorem Ext.push{Z bV:aC}(h:Ext Z bV)(o:FObj)(fz:Option Nat):Ext Z (bV.push o fz):=
 ⟨Nat.le_succ_of_le h.next,Nat.le_succ_of_le h.clock,fun b hb=>by
  rw[Aj,if_neg (by have:=h.next;omega)]
  exact h.get b hb⟩
theorem Ext.put{Z bV:aC}(h:Ext Z bV)(c:Nat)(o:FObj)(fz:Option Nat)(hc:Z.next<=c):Ext Z (bV.put c o fz):=
 ⟨h.next,Nat.le_succ_of_le h.clock,fun b hb=>by
  rw[Ak,if_neg (by omega)]
  exact h.get b hb⟩
theorem Ext.cells{Z V:aC}(h:Ext Z V){b:Nat}(hb:b<Z.next):V.cells b=Z.cells b:=by
 rw[Av,Av,h.get b hb]
def Wf(Z:aC):Prop:=∀b e,Z.heap.get b=some e->b<Z.next/\e.ver<Z.clock
theorem Wf.cells{Z:aC}(h:Wf Z){b:Nat}{c:List Value}(hc:Z.cells b=some c):b<Z.next:=by
 rw[Av] at hc
 cases hg:Z.heap.get b with
 | none=>rw[hg] at hc;cases hc
 | some e=>exact(h b e hg).1
theorem Wf.push{Z:aC}(h:Wf Z)(o:FObj)(fz:Option Nat):Wf (Z.push o fz):=fun b e hb=>by
 rw[Aj] at hb
 rw[Ae,Bh]
 by_cases hn:b=Z.next
 .rw[if_pos hn] at hb
  cases hb
  exact⟨by omega,Nat.lt_succ_self _⟩
 .rw[if_neg hn] at hb
  have:=h b e hb
  exact⟨by omega,by omega⟩
theorem Wf.put{Z:aC}(h:Wf Z)(c:Nat)(o:FObj)(fz:Option Nat)(hc:c<Z.next):Wf (Z.put c o fz):=fun b e hb=>by
 rw[Ak] at hb
 rw[Ao,AX]
 by_cases hn:b=c
 .rw[if_pos hn] at hb
  cases hb
  exact⟨by omega,Nat.lt_succ_self _⟩
 .rw[if_neg hn] at hb
  have:=h b e hb
  exact⟨by omega,by omega⟩
inductive D where
 | mk (kind num:Int) (text:ByteArray) (parts:List D)
mutual
def Laid(Z:aC):Value->D->Prop
 | v,.mk k n t ds=>∃p c,v=.agg #[.int .i64 k,.int .i64 n,.string t,.slice p ds.length c]/\LaidE Z p 0 ds
def LaidE(Z:aC):Option Addr->Nat->List D->Prop
 | _,_,[]=>True
 | p,i,d::ds=>(∃b off cs,p=some ⟨b,off,none⟩/\Z.cells b=some cs/\4<=cs.length-(off+i*4)/\Laid Z (.agg ((cs.drop (off+i*4)).take 4).toArray) d)/\LaidE Z p (i+1) ds
end
mutual
theorem Laid.ext{Z V:aC}(hw:Wf Z)(h:Ext Z V):∀ {v:Value} {d:D},Laid Z v d->Laid V v d
 | _,.mk _ _ _ _,⟨p,c,hv,he⟩=>⟨p,c,hv,LaidE.ext hw h he⟩
theorem LaidE.ext{Z V:aC}(hw:Wf Z)(h:Ext Z V):∀ {p:Option Addr} {i:Nat} {ds:List D},LaidE Z p i ds->LaidE V p i ds
 | _,_,[],_=>trivial
 | _,_,_::_,⟨⟨b,off,cs,hp,hc,hl,hd⟩,hr⟩=>⟨⟨b,off,cs,hp,(h.cells (hw.cells hc)).trans hc,hl,Laid.ext hw h hd⟩,LaidE.ext hw h hr⟩
end
theorem LaidE.get{Z:aC}{p:Option Addr}:∀ {i:Nat} {ds:List D} {k:Nat} {d:D},LaidE Z p i ds->ds[k]? = some d->
  ∃b off cs,p=some ⟨b,off,none⟩/\Z.cells b=some cs/\4<=cs.length-(off+(i+k)*4)/\Laid Z (.agg ((cs.drop (off+(i+k)*4)).take 4).toArray) d
 | i,d::ds,0,_,h,hk=>by
  cases hk
  exact h.1
 | i,d::ds,k+1,_,h,hk=>by
  have:=LaidE.get (i:=i+1) h.2 (k:=k) (by simpa using hk)
  rwa [show i+1+k=i+(k+1) by omega] at this
 | _,[],_,_,_,hk=>by simp at hk
mutual
def D.same:D->D->Bool
 | .mk k n t ds,.mk k' n' t' ds'=>decide (k=k')&&decide (n=n')&&(t.toList==t'.toList)&&D.sames ds ds'
def D.sames:List D->List D->Bool
 | [],[]=>true
 | d::ds,d'::ds'=>D.same d d'&&D.sames ds ds'
 | _,_=>false
end
mutual
def D.deep:D->Nat
 | .mk _ _ _ ds=>D.deeps ds+1
def D.deeps:List D->Nat
 | []=>0
 | d::ds=>max (D.deep d) (D.deeps ds)
end
end Go.Eng
namespace Go.Eng
open Go
theorem CR(p:Option Addr)(n c:Nat)(Z:aC):flenL (.slice p n c) Z=.val (.int .i64 (.ofNat n)) Z:=rfl
theorem CS(s:ByteArray)(Z:aC):flenS (.string s) Z=.val (.int .i64 (.ofNat s.size)) Z:=rfl
theorem Cd(b off l c n size:Nat)(k:IntKind)(Z:aC):bB (none,size) (.slice (some ⟨b,off,none⟩) l c) (.int k (.ofNat n)) Z=(if n<l then .val (.pointer (some ⟨b,off+n*size,none⟩)) Z else .no):=by
 show cond (Nat.blt n l) _ _=_
 by_cases h:n<l
 .rw[show Nat.blt n l=true by simpa [Nat.blt_eq] using h,if_pos h];rfl
 .rw[show Nat.blt n l=false by rw[<-Bool.not_eq_true,Nat.blt_eq];exact h,if_neg h];rfl
section
variable (P:Program) (H:Hints) (E:Env) (ro:Option Nat) (fn:FuncId) (a:aV) (u:Option FrameMode) (Z:aC) (d:Nat)
variable (last:List Nat->aZ) (cl:List Nat)
variable (dst:Option Tmp) (k:aZ)
theorem Cb(v:Value)(lam:Nat):drawF dst a u Z k (.val v (view Z lam))=k (a.put dst v) u Z:=by
 have:regrow Z (view Z lam)=some Z:=by
  unfold regrow
  rw[show Nat.beq (view Z lam).next Z.next=true by rw[Nat.beq_eq];rfl]
  rfl
 unfold drawF
 simp only[this]
theorem Bw(v:Value)(lam:Nat)(o:FObj)(fz:Option Nat):drawF dst a u Z k (.val v ((view Z lam).push o fz))=k (a.put dst v) u (Z.push o fz):=by
 have:regrow Z ((view Z lam).push o fz)=some (Z.push o fz):=by
  unfold regrow
  rw[show Nat.beq ((view Z lam).push o fz).next Z.next=false by rw[<-Bool.not_eq_true,Nat.beq_eq];show ¬ Z.next+1=Z.next;omega]
  rw[Aj]
  have e:(view Z lam).next=Z.next:=rfl
  rw[e,if_pos rfl]
  rfl
 unfold drawF
 simp only[this]
theorem Ci(r:ORes):stepOp E ro dst a u r=afterOp E ro dst a u (fun a u Z=>.done .normal a u Z) r:=rfl
theorem AZ(free:Bool):drawA free k (.done .normal a u Z)=k a u Z:=rfl
theorem Cj(lam:Nat):(view Z lam).next=Z.next:=rfl
theorem CY{α:Type}(x:α)(l:List α):nth (x::l) 0=some x:=rfl
theorem CX{α:Type}(x:α)(l:List α)(n:Nat):nth (x::l) (n+1)=nth l n:=rfl
theorem Hh(lam b:Nat):(view Z lam).cells b=(Z.heap.get b).bind fun e=>if e.ver<lam then e.obj.cells? else none:=by
 rw[Av,Kc]
 cases Z.heap.get b with
 | none=>rfl
 | some e=>
  simp only[Option.bind_some]
  by_cases h:e.ver<lam
  .rw[if_pos h,if_pos h];rfl
  .rw[if_neg h,if_neg h];rfl
theorem N8(lam b c:Nat)(o:FObj)(fz:Option Nat):(view (Z.put c o fz) lam).cells b=if b=c then (if Z.clock<lam then o.cells? else none) else (view Z lam).cells b:=by
 rw[Hh,Ak,Hh]
 by_cases h:b=c
 .rw[if_pos h,if_pos h];rfl
 .rw[if_neg h,if_neg h]
end
theorem D1{Z:aC}(h:Wf Z){lam:Nat}(hl:Z.clock<=lam)(b:Nat):(view Z lam).cells b=Z.cells b:=by
 rw[Hh,Av]
 cases hg:Z.heap.get b with
 | none=>rfl
 | some e=>
  simp only[Option.bind_some]
  rw[if_pos (by have:=(h b e hg).2;omega)]
theorem Ap(keep:List Nat)(run:aZ)(n:Nat)(a:aV)(u:Option FrameMode)(Z:aC):floop keep run (n+1) a u Z=andThen (run (a.forget keep) u Z) (floop keep run n):=rfl
theorem MK(keep:List Nat)(a:aV)(t:Nat):(a.forget keep).tmp t=if t∈keep then a.tmp t else undef:=by
 induction keep with
 | nil=>simp;rfl
 | cons x r ih=>
  show Bool.rec (motive:=fun _=>Value) ((a.forget r).tmp t) (a.tmp x) (Nat.beq t x)=_
  by_cases hx:t=x
  .subst hx
   rw[show Nat.beq t t=true by rw[Nat.beq_eq]]
   simp
  .rw[show Nat.beq t x=false by rw[<-Bool.not_eq_true,Nat.beq_eq];exact hx,ih]
   simp[hx]
theorem MJ(keep:List Nat)(a:aV)(h:a.ok)(t:Nat):(a.forget keep).get t=if t<a.nl\/t∈keep then a.get t else undef:=by
 have hl:(a.forget keep).loc=a.loc:=rfl
 have hn:(a.forget keep).nl=a.nl:=Nat.le_antisymm (Nat.le_refl _) (Nat.le_refl _)
 by_cases hlt:t<a.nl
 .rw[if_pos (.inl hlt)]
  unfold aV.get
  rw[hl,hn,show Nat.ble a.nl t=false by rw[<-Bool.not_eq_true,Nat.ble_eq];omega]
 .have hb:Nat.ble a.nl t=true:=by rw[Nat.ble_eq];omega
  have e1:a.get t=a.tmp t:=by unfold aV.get;rw[hb]
  have e2:(a.forget keep).get t=(a.forget keep).tmp t:=by unfold aV.get;rw[hn,hb]
  rw[e1,e2]
  exact(MK keep a t).trans (by simp[hlt])
theorem Cy(keep:List Nat)(a:aV):(a.forget keep).ok=a.ok:=propext Iff.rfl
theorem Cx(keep:List Nat)(a:aV):(a.forget keep).nt=a.nt:=Nat.le_antisymm (Nat.le_refl _) (Nat.le_refl _)
theorem Cw(keep:List Nat)(a:aV):(a.forget keep).nl=a.nl:=Nat.le_antisymm (Nat.le_refl _) (Nat.le_refl _)
theorem AY(keep:List Nat)(a:aV):(a.forget keep).defers=a.defers:=rfl
end Go.Eng
namespace Go.Eng
open Go
def aQ:aZ:=fun a u Z=>.done .normal a u Z
def bO:aZ:=fun a u Z=>.done .ret a u Z
def exitR(id:Nat):aZ:=fun a u Z=>.done (.exit id) a u Z
def gotoR(l:Nat):aZ:=fun a u Z=>.done (.goto l) a u Z
def aF(x y:aZ):aZ:=fun a u Z=>andThen (x a u Z) y
def aL(c:aV->Value)(x y:aZ):aZ:=fun a u Z=>match c a with
 | .bool true=>x a u Z
 | .bool false=>y a u Z
 | _=>.no
def aR(id:Nat)(x:aZ):aZ:=fun a u Z=>match x a u Z with
 | .done (.exit id') a u Z=>cond (Nat.beq id' id) (.done .normal a u Z) (.done (.exit id') a u Z)
 | r=>r
def loopR(keep:List Nat)(x:aZ):aZ:=fun a u Z=>floop keep x bL a u Z
def drawR(E:Env)(ro:Option Nat)(l:List DOp):aZ:=fun a u Z=>bM E ro (fun _ a u Z=>.done .normal a u Z) l [Z.clock] a u Z
def drawSR(E:Env)(ro:Option Nat)(l:List DOp)(sb sa:SOp)(fl:List DOp):aZ:=fun a u Z=>bM E ro (fswap E ro sb sa fl) l [Z.clock] a u Z
def aN(P:Program)(E:Env)(rs:List ResultVar)(r:KRes):CRes:=match r with
 | .done .normal a u Z=>fleave P E rs a u a.defers .returning Z
 | .done .ret a u Z=>fleave P E rs a u a.defers .returning Z
 | .done (.panic ch) a u Z=>fleave P E rs a u a.defers (.panicking ch) Z
 | _=>.no
def gd(v:Value)(want:Bool):Option Bool:=match v with
 | .bool b=>some (b==want)
 | .chan none=>some false
 | _=>none
def i_add(P:Program)(t:TypeId)(x y:Operand)(a b:Value)(Z:aC):ORes:=fbinI (fun a b=>.int .i64 (wrapI (a+b))) a b (fbin0 P .add t x y a b Z) Z
def i_sub(P:Program)(t:TypeId)(x y:Operand)(a b:Value)(Z:aC):ORes:=fbinI (fun a b=>.int .i64 (wrapI (a-b))) a b (fbin0 P .sub t x y a b Z) Z
def i_mul(P:Program)(t:TypeId)(x y:Operand)(a b:Value)(Z:aC):ORes:=fbinI (fun a b=>.int .i64 (wrapI (a*b))) a b (fbin0 P .mul t x y a b Z) Z
def bJ(P:Program)(t:TypeId)(x y:Operand)(a b:Value)(Z:aC):ORes:=fbinI (fun a b=>.bool (ieq a b)) a b (fbin0 P .eql t x y a b Z) Z
def i_neq(P:Program)(t:TypeId)(x y:Operand)(a b:Value)(Z:aC):ORes:=fbinI (fun a b=>.bool (!ieq a b)) a b (fbin0 P .neq t x y a b Z) Z
def i_lss(P:Program)(t:TypeId)(x y:Operand)(a b:Value)(Z:aC):ORes:=fbinI (fun a b=>.bool (!ile b a)) a b (fbin0 P .lss t x y a b Z) Z
def i_leq(P:Program)(t:TypeId)(x y:Operand)(a b:Value)(Z:aC):ORes:=fbinI (fun a b=>.bool (ile a b)) a b (fbin0 P .leq t x y a b Z) Z
def i_gtr(P:Program)(t:TypeId)(x y:Operand)(a b:Value)(Z:aC):ORes:=fbinI (fun a b=>.bool (!ile a b)) a b (fbin0 P .gtr t x y a b Z) Z
def i_geq(P:Program)(t:TypeId)(x y:Operand)(a b:Value)(Z:aC):ORes:=fbinI (fun a b=>.bool (ile b a)) a b (fbin0 P .geq t x y a b Z) Z
def bP:Code->List (Code×Code)
 | .seq x y=>bP x++bP y
 | .cond _ x y=>bP x++bP y
 | .block _ x=>bP x
 | .loop x=>bP x
 | .scope x=>bP x
 | .rangeFunc _ _ x y=>(x,y)::(bP x++bP y)
 | _=>[]
def scopesOf:Code->List Code
 | .seq x y=>scopesOf x++scopesOf y
 | .cond _ x y=>scopesOf x++scopesOf y
 | .block _ x=>scopesOf x
 | .loop x=>scopesOf x
 | .scope x=>x::scopesOf x
 | .rangeFunc _ _ x y=>scopesOf x++scopesOf y
 | _=>[]
section
variable (a:aV) (u:Option FrameMode) (Z:aC)
theorem Ag:aQ a u Z=.done .normal a u Z:=rfl
theorem DN:bO a u Z=.done .ret a u Z:=rfl
theorem CQ(id:Nat):exitR id a u Z=.done (.exit id) a u Z:=rfl
theorem DP(x y:aZ):aF x y a u Z=andThen (x a u Z) y:=rfl
theorem CP(E:Env)(ro:Option Nat)(l:List DOp):drawR E ro l a u Z=bM E ro (fun _ a u Z=>.done .normal a u Z) l [Z.clock] a u Z:=rfl
theorem BA(P:Program)(E:Env)(rs:List ResultVar):aN P E rs (.done .ret a u Z)=fleave P E rs a u a.defers .returning Z:=rfl
theorem AR(P:Program)(E:Env)(rs:List ResultVar):aN P E rs (.done .normal a u Z)=fleave P E rs a u a.defers .returning Z:=rfl
variable (E:Env) (ro:Option Nat) (last:List Nat->aZ) (cl:List Nat)
theorem Bz:bM E ro last [] cl a u Z=last cl a u Z:=rfl
theorem DD(op:OpF)(dst:Option Tmp)(g:aV->Option Bool)(q:Nat)(free:Bool)(l:List DOp):bM E ro last (⟨op,dst,g,some q,free⟩::l) cl a u Z=
  (match g a with
    | none=>.no
    | some false=>bM E ro last l cl (a.put dst skipV) u Z
    | some true=>(match nth cl q with
     | some lam=>drawF dst a u Z (bM E ro last l cl) (op a (view Z lam))
     | none=>.no)):=by
 show Option.rec (motive:=fun _=>KRes) .no _ (g a)=_
 cases g a with
 | none=>rfl
 | some g=>cases g<;>rfl
theorem DC(op:OpF)(dst:Option Tmp)(g:aV->Option Bool)(free:Bool)(l:List DOp):bM E ro last (⟨op,dst,g,none,free⟩::l) cl a u Z=
  (match g a with
    | none=>.no
    | some false=>bM E ro last l (cl++[Z.clock]) (a.put dst skipV) u Z
    | some true=>drawA free (fun a u Z=>bM E ro last l (cl++[Z.clock]) a u Z) (stepOp E ro dst a u (op a Z))):=by
 show Option.rec (motive:=fun _=>KRes) .no _ (g a)=_
 cases g a with
 | none=>rfl
 | some g=>cases g<;>rfl
theorem D8(op:OpF)(dst:Option Tmp)(g:aV->Option Bool)(l:List COp):aD E ro (⟨op,dst,g⟩::l) a u Z=(match g a with|none=>.no|some false=>aD E ro l (a.put dst skipV) u Z|some true=>afterOp E ro dst a u (aD E ro l) (op a Z)):=Ac9 E ro a u Z _ _
end
end Go.Eng
namespace Go.Eng
open Go
theorem D4(e:TypeId)(v:Value)(Z:aC):fbox e v Z=if aM v=true then .val (.pointer (some ⟨Z.next,0,none⟩)) (Z.push (.cells (aI v) e) none) else .no:=by
 cases h:aM v with
 | true=>rw[ApC _ _ _ h];rfl
 | false=>unfold fbox;rw[h];rfl
theorem Bg(c:List Value)(el:TypeId)(fz:Option Nat)(Z:aC):aP c el fz Z=.val (.pointer (some ⟨Z.next,0,none⟩)) (Z.push (.cells c el) fz):=rfl
section
variable (P:Program) (t:TypeId) (x y:Operand) (n m:Int) (s r:ByteArray) (Z:aC)
theorem DB:bJ P t x y (.int .i64 n) (.int .i64 m) Z=.val (.bool (n==m)) Z:=by
 show ORes.val (.bool (ieq n m)) Z=_
 rw[XK]
theorem DM:i_neq P t x y (.int .i64 n) (.int .i64 m) Z=.val (.bool (!(n==m))) Z:=by
 show ORes.val (.bool (!ieq n m)) Z=_
 rw[XK]
theorem DJ:i_lss P t x y (.int .i64 n) (.int .i64 m) Z=.val (.bool (decide (n<m))) Z:=by
 show ORes.val (.bool (!ile m n)) Z=_
 rw[MS]
 congr 2
 rw[Bool.eq_iff_iff];simp
theorem DI:i_leq P t x y (.int .i64 n) (.int .i64 m) Z=.val (.bool (decide (n<=m))) Z:=by
 show ORes.val (.bool (ile n m)) Z=_
 rw[MS]
theorem DH:i_gtr P t x y (.int .i64 n) (.int .i64 m) Z=.val (.bool (decide (n>m))) Z:=by
 show ORes.val (.bool (!ile n m)) Z=_
 rw[MS]
 congr 2
 rw[Bool.eq_iff_iff];simp
theorem DG:i_geq P t x y (.int .i64 n) (.int .i64 m) Z=.val (.bool (decide (n≥m))) Z:=by
 show ORes.val (.bool (ile m n)) Z=_
 rw[MS]
theorem Dz:i_add P t x y (.int .i64 n) (.int .i64 m) Z=.val (.int .i64 (wrapI (n+m))) Z:=rfl
theorem DQ:i_sub P t x y (.int .i64 n) (.int .i64 m) Z=.val (.int .i64 (wrapI (n-m))) Z:=rfl
theorem DK:i_mul P t x y (.int .i64 n) (.int .i64 m) Z=.val (.int .i64 (wrapI (n*m))) Z:=rfl
theorem Dk:bJ P t x y (.string s) (.string r) Z=.val (.bool (s.toList==r.toList)) Z:=Ary P t x y s r Z
theorem Dp:i_neq P t x y (.string s) (.string r) Z=.val (.bool (!(s.toList==r.toList))) Z:=Arz P t x y s r Z
theorem D9(b:Bool):fun1 P (Op.unary .not) (.bool b) Z=.val (.bool (!b)) Z:=rfl
end
theorem DV{n:Int}(h : -9223372036854775808<=n/\n<=9223372036854775807):wrapI n=n:=by
 cases n with
 | ofNat k=>
  show cond (Nat.ble k 9223372036854775807) _ _=_
  have:k<=9223372036854775807:=by have:=h.2;rw[Int.ofNat_eq_natCast] at this;omega
  rw[show Nat.ble k 9223372036854775807=true by rw[Nat.ble_eq];exact this]
  rfl
 | negSucc k=>
  show cond (Nat.ble k 9223372036854775807) _ _=_
  have:k<=9223372036854775807:=by have:=h.1;rw[Int.negSucc_eq] at this;omega
  rw[show Nat.ble k 9223372036854775807=true by rw[Nat.ble_eq];exact this]
  rfl
def Gives(r:CRes)(Z:aC)(Q:Value->aC->Prop):Prop:=∃v V,r=.ret v none V/\Ext Z V/\Wf V/\Q v V
end Go.Eng
namespace Go.Eng
open Go
theorem DE(w:Bool):gd skipV w=some false:=rfl
theorem DF(b:Bool):gd (.bool b) true=some b:=by cases b<;>rfl
theorem CV(b:Bool):gd (.bool b) false=some (!b):=by cases b<;>rfl
theorem Ce(P:Program)(E:Env)(t:Tmp)(a:aV)(u:Option FrameMode)(Z:aC):fleave P E [.tmp t] a u [] .returning Z=.ret (a.get t) u Z:=rfl
theorem BB(P:Program)(E:Env)(t t':Tmp)(a:aV)(u:Option FrameMode)(Z:aC):fleave P E [.tmp t,.tmp t'] a u [] .returning Z=.ret (.tuple #[a.get t,a.get t']) u Z:=rfl
theorem BC(P:Program)(E:Env)(t t' t'':Tmp)(a:aV)(u:Option FrameMode)(Z:aC):fleave P E [.tmp t,.tmp t',.tmp t''] a u [] .returning Z=.ret (.tuple #[a.get t,a.get t',a.get t'']) u Z:=rfl
theorem An2{X:aC->CRes}{Z bS:aC}{r:CRes}{Q:Value->aC->Prop}(hr:X bS=r)(h:∀V,Ext Z V->Wf V->Gives (X V) V Q)(hx:Ext Z bS)(hw:Wf bS):Gives r bS Q:=hr ▸ h bS hx hw
theorem Ca{c:aV->Value}{x y:aZ}{a:aV}{u:Option FrameMode}{Z:aC}:aL c x y a u Z=(match c a with
 | .bool b=>if b=true then x a u Z else y a u Z
 | _=>.no):=by
 unfold aL
 cases c a with
 | bool b=>cases b<;>rfl
 | _=>rfl
end Go.Eng
namespace Go.Eng
open Go
def blockK(id:Nat)(r:KRes):KRes:=match r with
 | .done (.exit id') a u Z=>cond (Nat.beq id' id) (.done .normal a u Z) (.done (.exit id') a u Z)
 | r=>r
section
variable (a:aV) (u:Option FrameMode) (Z:aC)
theorem CO(id:Nat)(x:aZ):aR id x a u Z=blockK id (x a u Z):=rfl
theorem AQ(id:Nat):blockK id (.done .normal a u Z)=.done .normal a u Z:=rfl
theorem Bv(id:Nat):blockK id (.done .ret a u Z)=.done .ret a u Z:=rfl
theorem DS(id:Nat)(ch:List PanicEntry):blockK id (.done (.panic ch) a u Z)=.done (.panic ch) a u Z:=rfl
theorem Bf(id id':Nat):blockK id (.done (.exit id') a u Z)=if id'=id then .done .normal a u Z else .done (.exit id') a u Z:=by
 show cond (Nat.beq id' id) _ _=_
 by_cases h:id'=id
 .rw[if_pos h,show Nat.beq id' id=true by rw[Nat.beq_eq];exact h];rfl
 .rw[if_neg h,show Nat.beq id' id=false by rw[<-Bool.not_eq_true,Nat.beq_eq];exact h];rfl
theorem CW(keep:List Nat)(x:aZ):loopR keep x a u Z=floop keep x bL a u Z:=rfl
end
theorem Eb(a:aV)(dst:Option Tmp)(v:Value):(a.put dst v).nl=a.nl:=by
 cases dst with
 | none=>rfl
 | some d=>
  show aV.nl (Bool.rec (motive:=fun _=>aV) a (a.putT d v) (Nat.blt d a.nt))=_
  cases Nat.blt d a.nt with
  | false=>rfl
  | true=>
   show aV.nl (a.putT d v)=_
   unfold aV.putT
   cases Nat.ble a.nl d<;>rfl
theorem J5:∀ {ds ds':List D},D.sames ds ds'=true->ds.length=ds'.length
 | [],[],_=>rfl
 | _::ds,_::ds',h=>by
  have h':(D.same _ _&&D.sames ds ds')=true:=h
  rw[Bool.and_eq_true] at h'
  simp[J5 h'.2]
 | [],_::_,h=>by simp[D.sames] at h
 | _::_,[],h=>by simp[D.sames] at h
end Go.Eng
namespace Go.Eng
open Go
def xorI(a b:Int):Int:=IntKind.u64.wrap ((BitVec.ofInt 64 a ^^^ BitVec.ofInt 64 b).toNat)
theorem Xd(n:Int):0<=IntKind.u64.wrap n/\IntKind.u64.wrap n<18446744073709551616:=by
 have h:IntKind.u64.wrap n=n % 18446744073709551616:=rfl
 rw[h]
 omega
theorem An6{n:Int}(h:0<=n/\n<18446744073709551616):IntKind.u64.wrap n=n:=by
 have e:IntKind.u64.wrap n=n % 18446744073709551616:=rfl
 rw[e]
 omega
theorem An5{n:Int}(h : -9223372036854775808<=n/\n<=9223372036854775807):IntKind.i64.wrap n=n:=by
 have e:IntKind.i64.wrap n=(if n % 18446744073709551616≥9223372036854775808 then n % 18446744073709551616-18446744073709551616 else n % 18446744073709551616):=by
  show (if (true&&decide (n % 18446744073709551616≥9223372036854775808))=true then _ else _)=_
  simp
  rfl
 rw[e]
 split<;>omega
theorem N_(a b:Int):0<=xorI a b/\xorI a b<18446744073709551616:=Xd _
section
variable (P:Program) (t:TypeId) (x y:Operand) (a b:Int) (Z:aC)
theorem DA:i_add P t x y (.int .u64 a) (.int .u64 b) Z=.val (.int .u64 (IntKind.u64.wrap (a+b))) Z:=by kernel_rfl
theorem DL:i_mul P t x y (.int .u64 a) (.int .u64 b) Z=.val (.int .u64 (IntKind.u64.wrap (a*b))) Z:=by kernel_rfl
theorem DR:fbin0 P .xor t x y (.int .u64 a) (.int .u64 b) Z=.val (.int .u64 (xorI a b)) Z:=by kernel_rfl
theorem Ch:fbin0 P .shr t x y (.int .u64 a) (.int .u64 32) Z=.val (.int .u64 (a.fdiv 4294967296)) Z:=by kernel_rfl
theorem Cg:fbin0 P .shr t x y (.int .u64 a) (.int .u64 27) Z=.val (.int .u64 (a.fdiv 134217728)) Z:=by kernel_rfl
theorem C8:fbin0 P .shr t x y (.int .u64 a) (.int .u64 9) Z=.val (.int .u64 (a.fdiv 512)) Z:=by kernel_rfl
theorem Art(h:b≠0):fbin0 P .rem t x y (.int .u64 a) (.int .u64 b) Z=.val (.int .u64 (a.tmod b)) Z:=by
 unfold fbin0 orPure
 simp[eqGuard,binOp,flat,Op.intDiv,h]
 rfl
theorem A0(p:Addr):bI (.pointer (some p)) Z=.val (.pointer (some p)) Z:=rfl
end
theorem Dm(b off:Nat)(v:Value)(Z:aC)(hv:oneCell v=true):aK 1 (.pointer (some ⟨b,off,none⟩)) v Z=
  (match Z.heap.get b with
   | some e=>(match e.obj,e.ro with
    | .cells c el,false=>if off<c.length then .skip (Z.put b (.cells (c.set off v) el) e.fz) else .no
    | _,_=>.no)
   | none=>.no):=by
 have hc:aI v=[v]/\aM v=true:=by cases v<;>first|exact⟨rfl,rfl⟩|cases hv
 unfold aK
 cases hg:Z.heap.get b with
 | none=>simp only[hg]
 | some e=>
  obtain⟨o,ro,fz,ver⟩:=e
  simp only[hg]
  cases o with
  | cells c el=>cases ro with
   | true=>rfl
   | false=>
    simp only[hc.1,hc.2]
    show cond (true&&Nat.beq (len [v]) 1&&[v].all oneCell) _ _=_
    have:(true&&Nat.beq (len [v]) 1&&[v].all oneCell)=true:=by
     simp[hv];rfl
    rw[this]
    simp only[cond_true,DW,List.length_singleton]
    by_cases h:off<c.length
    .rw[if_pos (by omega),if_pos h]
     simp only[]
     congr 3
     rw[List.set_eq_take_append_cons_drop,if_pos h]
     simp
    .rw[if_neg (by omega),if_neg h]
  | _=>cases ro<;>rfl
structure ExtC (x:Nat) (Z V:aC):Prop where
 next:Z.next<=V.next
 clock:Z.clock<=V.clock
 get:∀b,b<Z.next->b≠x->V.heap.get b=Z.heap.get b
theorem ExtC.refl(x:Nat)(Z:aC):ExtC x Z Z:=⟨Nat.le_refl _,Nat.le_refl _,fun _ _ _=>rfl⟩
theorem ExtC.trans{x:Nat}{Z bV b_:aC}(h:ExtC x Z bV)(k:ExtC x bV b_):ExtC x Z b_:=
 ⟨Nat.le_trans h.next k.next,Nat.le_trans h.clock k.clock,fun b hb hx=>(k.get b (Nat.lt_of_lt_of_le hb h.next) hx).trans (h.get b hb hx)⟩
theorem ExtC.push{x:Nat}{Z bV:aC}(h:ExtC x Z bV)(o:FObj)(fz:Option Nat):ExtC x Z (bV.push o fz):=
 ⟨Nat.le_succ_of_le h.next,Nat.le_succ_of_le h.clock,fun b hb hx=>by
  rw[Aj,if_neg (by have:=h.next;omega)]
  exact h.get b hb hx⟩
theorem ExtC.put{x:Nat}{Z bV:aC}(h:ExtC x Z bV)(o:FObj)(fz:Option Nat):ExtC x Z (bV.put x o fz):=
 ⟨h.next,Nat.le_succ_of_le h.clock,fun b hb hx=>by
  rw[Ak,if_neg hx]
  exact h.get b hb hx⟩
theorem ExtC.putNew{x:Nat}{Z bV:aC}(h:ExtC x Z bV)(c:Nat)(o:FObj)(fz:Option Nat)(hc:Z.next<=c):ExtC x Z (bV.put c o fz):=
 ⟨h.next,Nat.le_succ_of_le h.clock,fun b hb hx=>by
  rw[Ak,if_neg (by omega)]
  exact h.get b hb hx⟩
theorem Ext.toC{Z V:aC}(h:Ext Z V)(x:Nat):ExtC x Z V:=⟨h.next,h.clock,fun b hb _=>h.get b hb⟩
theorem ExtC.cells{x:Nat}{Z V:aC}(h:ExtC x Z V){b:Nat}(hb:b<Z.next)(hx:b≠x):V.cells b=Z.cells b:=by
 rw[Av,Av,h.get b hb hx]
end Go.Eng
namespace Go.Eng
open Go
def upd(f:Nat->Value)(d:Nat)(v:Value):Nat->Value:=fun t=>if t=d then v else f t
theorem Axj(f:Nat->Value)(d:Nat)(v:Value)(t:Nat):upd f d v t=if t=d then v else f t:=rfl
def Sl(nl nt:Nat)(f g:Nat->Value)(ds:List Deferred):aV:=⟨(List.range nl).map f,g,nl,nt,ds⟩
theorem Kf(nl nt:Nat)(f g:Nat->Value)(ds:List Deferred)(t:Nat):(Sl nl nt f g ds).get t=if t<nl then f t else g t:=by
 show Bool.rec (motive:=fun _=>Value) (Option.rec (motive:=fun _=>Value) undef (fun v=>v) (nth ((List.range nl).map f) t)) (g t) (Nat.ble nl t)=_
 rw[ED]
 by_cases h:t<nl
 .have:Nat.ble nl t=false:=by rw[<-Bool.not_eq_true,Nat.ble_eq];omega
  rw[this,if_pos h]
  simp[h]
 .have:Nat.ble nl t=true:=by rw[Nat.ble_eq];omega
  rw[this,if_neg h]
theorem AuY(nl nt:Nat)(f g:Nat->Value)(ds:List Deferred)(d:Nat)(v:Value):(Sl nl nt f g ds).put (some d) v=
  if d<nt then (if d<nl then Sl nl nt (upd f d v) g ds else Sl nl nt f (upd g d v) ds) else Sl nl nt f g ds:=by
 show (Bool.rec (motive:=fun _=>aV) (Sl nl nt f g ds) ((Sl nl nt f g ds).putT d v) (Nat.blt d nt))=_
 by_cases h:d<nt
 .have:Nat.blt d nt=true:=by simpa [Nat.blt_eq] using h
  rw[this,if_pos h]
  show (Sl nl nt f g ds).putT d v=_
  unfold aV.putT
  by_cases hl:d<nl
  .have:Nat.ble nl d=false:=by rw[<-Bool.not_eq_true,Nat.ble_eq];omega
   rw[if_pos hl]
   show Bool.rec (motive:=fun _=>aV) (⟨setNth v ((List.range nl).map f) d,g,nl,nt,ds⟩:aV) _ (Nat.ble nl d)=_
   rw[this,GH]
   show (⟨((List.range nl).map f).set d v,g,nl,nt,ds⟩:aV)=⟨(List.range nl).map (upd f d v),g,nl,nt,ds⟩
   congr 1
   apply List.ext_getElem?
   intro i
   rw[List.getElem?_set]
   simp only[List.length_map,List.length_range,List.getElem?_map,upd]
   by_cases hi:d=i
   .subst hi
    simp[hl,upd]
   .rw[if_neg hi]
    by_cases hin:i<nl
    .simp[hin,Ne.symm hi,upd]
    .simp[hin]
  .have:Nat.ble nl d=true:=by rw[Nat.ble_eq];omega
   rw[if_neg hl]
   show Bool.rec (motive:=fun _=>aV) _ (⟨(List.range nl).map f,fun k=>Bool.rec (motive:=fun _=>Value) (g k) v (Nat.beq k d),nl,nt,ds⟩:aV) (Nat.ble nl d)=_
   rw[this]
   show (⟨(List.range nl).map f,fun k=>Bool.rec (motive:=fun _=>Value) (g k) v (Nat.beq k d),nl,nt,ds⟩:aV)=⟨(List.range nl).map f,upd g d v,nl,nt,ds⟩
   congr 1
   funext k
   unfold upd
   by_cases hk:k=d
   .subst hk
    rw[if_pos rfl,show Nat.beq k k=true by rw[Nat.beq_eq]]
   .rw[if_neg hk,show Nat.beq k d=false by rw[<-Bool.not_eq_true,Nat.beq_eq];exact hk]
 .have:Nat.blt d nt=false:=by rw[<-Bool.not_eq_true,Nat.blt_eq];exact h
  rw[this,if_neg h]
theorem Ah(nl nt:Nat)(args:List Value)(ds:List Deferred):(⟨aY undef nl args,fun _=>undef,nl,nt,ds⟩:aV)=Sl nl nt (fun t=>args[t]?.getD undef) (fun _=>undef) ds:=by
 unfold Sl
 congr 1
 apply List.ext_getElem?
 intro i
 rw[O6]
 by_cases h:i<nl<;>simp[h]
theorem OD(nl nt:Nat)(f g:Nat->Value)(ds:List Deferred):(Sl nl nt f g ds).defers=ds:=by simp[Sl]
theorem Axl(nl nt:Nat)(f g:Nat->Value)(ds:List Deferred):(Sl nl nt f g ds).nl=nl:=by simp[Sl]
def kept(keep:List Nat)(g:Nat->Value):Nat->Value:=fun t=>if t∈keep then g t else undef
theorem Fp(keep:List Nat)(g:Nat->Value)(t:Nat):kept keep g t=if t∈keep then g t else undef:=rfl
theorem CE(nl nt:Nat)(f g:Nat->Value)(ds:List Deferred)(keep:List Nat):(Sl nl nt f g ds).forget keep=Sl nl nt f (kept keep g) ds:=by
 have e:((Sl nl nt f g ds).forget keep).tmp=kept keep g:=by
  funext t
  rw[MK]
  rfl
 show (⟨(List.range nl).map f,((Sl nl nt f g ds).forget keep).tmp,nl,nt,ds⟩:aV)=_
 rw[e]
 rfl
end Go.Eng
namespace Go.Eng
open Go
theorem AB{Z:aC}{x:Nat}{c:List Value}{t:TypeId}{ro:Bool}{fz:Option Nat}{ver:Nat}(h:Z.heap.get x=some ⟨.cells c t,ro,fz,ver⟩):Z.cells x=some c:=by
 rw[Av,h];rfl
end Go.Eng
namespace Go.Eng
open Go
theorem ApK(place:Nat->Option (Nat×Nat))(c:List Value):lay place [] c=some c:=rfl
theorem Agg(place:Nat->Option (Nat×Nat))(i:Nat)(v:Value)(ps:List (Nat×Value))(c:List Value):lay place ((i,v)::ps) c=
  (match place i with
   | some q=>if aM v=true/\(aI v).length=q.2 then (if q.1+(aI v).length<=c.length then lay place ps (c.take q.1++aI v++c.drop (q.1+(aI v).length)) else none) else none
   | none=>none):=by
 show (match place i with
   | some (off,size)=>cond (aM v&&Nat.beq (len (aI v)) size) (match spliceN off (aI v) c with|some c'=>lay place ps c'|none=>none) none
   | none=>none)=_
 cases place i with
 | none=>rfl
 | some q=>
  obtain⟨off,size⟩:=q
  simp only[]
  rw[EC,DW]
  by_cases h:aM v=true/\(aI v).length=size
  .rw[if_pos h,show (aM v&&Nat.beq (aI v).length size)=true by rw[h.1,show Nat.beq (aI v).length size=true by rw[Nat.beq_eq];exact h.2];rfl]
   by_cases hl:off+(aI v).length<=c.length
   .rw[if_pos hl,if_pos hl];rfl
   .rw[if_neg hl,if_neg hl];rfl
  .rw[if_neg h]
   have:(aM v&&Nat.beq (aI v).length size)=false:=by
    rw[<-Bool.not_eq_true]
    intro hh
    rw[Bool.and_eq_true,Nat.beq_eq] at hh
    exact h hh
   rw[this];rfl
theorem AcZ(place:Nat->Option (Nat×Nat))(z:List Value)(ps:List (Nat×Value))(Z:aC):fbuild place z ps Z=(match lay place ps z with|some c=>.val (.agg c.toArray) Z|none=>.no):=by
 unfold fbuild
 cases lay place ps z<;>rfl
theorem MF(e n s:Nat)(z:List Value)(ps:List (Nat×Value))(Z:aC):aX e n s z ps Z=(match lay (fun i=>some (i*s,s)) ps (reps n z) with|some c=>.val (.slice (some ⟨Z.next,0,none⟩) n n) (Z.push (.cells c e) none)|none=>.no):=by
 unfold aX
 cases lay (fun i=>some (i*s,s)) ps (reps n z)<;>rfl
theorem PM{α:Type}(z:List α):reps 0 z=[]:=rfl
theorem PL{α:Type}(n:Nat)(z:List α):reps (n+1) z=z++reps n z:=rfl
theorem AP(n b off:Nat)(v:Value)(Z:aC):aK n (.pointer (some ⟨b,off,none⟩)) v Z=
  (match Z.heap.get b with
   | some e=>(match e.obj,e.ro with
    | .cells c el,false=>if aM v=true/\(aI v).length=n/\(aI v).all oneCell=true then
      (if off+(aI v).length<=c.length then .skip (Z.put b (.cells (c.take off++aI v++c.drop (off+(aI v).length)) el) e.fz) else .no) else .no
    | _,_=>.no)
   | none=>.no):=by
 unfold aK
 cases hg:Z.heap.get b with
 | none=>simp only[hg]
 | some e=>
  obtain⟨o,ro,fz,ver⟩:=e
  simp only[hg]
  cases o with
  | cells c el=>cases ro with
   | true=>rfl
   | false=>
    simp only[EC,DW]
    by_cases h:aM v=true/\(aI v).length=n/\(aI v).all oneCell=true
    .rw[if_pos h,show (aM v&&Nat.beq (aI v).length n&&(aI v).all oneCell)=true by rw[h.1,h.2.2,show Nat.beq (aI v).length n=true by rw[Nat.beq_eq];exact h.2.1];rfl]
     by_cases hl:off+(aI v).length<=c.length
     .rw[if_pos hl,if_pos hl];rfl
     .rw[if_neg hl,if_neg hl];rfl
    .rw[if_neg h]
     have:(aM v&&Nat.beq (aI v).length n&&(aI v).all oneCell)=false:=by
      rw[<-Bool.not_eq_true]
      intro hh
      rw[Bool.and_eq_true,Bool.and_eq_true,Nat.beq_eq] at hh
      exact h ⟨hh.1.1,hh.1.2,hh.2⟩
     rw[this];rfl
  | _=>cases ro<;>rfl
theorem XQ(P:Program)(E:Env)(c:Tmp)(t:TypeId)(a:aV)(u:Option FrameMode)(Z:aC):fleave P E [.cell c t] a u [] .returning Z=
  (match aggSize P t with
   | some sz=>(match aG sz (a.get c) Z with
    | .val v _=>.ret v u Z
    | _=>.no)
   | none=>.no):=by
 rw[Bb]
 show (match (match fresult P (.cell c t) a Z,some [] with|some v,some vs=>some (v::vs)|_,_=>none) with|some [v]=>CRes.ret v u Z|some vs=>_|none=>_)=_
 unfold fresult
 simp only[]
 cases h:aggSize P t with
 | none=>simp only[]
 | some sz=>
  simp only[]
  cases h2:aG sz (a.get c) Z<;>simp only[]
end Go.Eng
namespace Go.Eng
open Go
theorem Af{a a':aV}{Z V:aC}(E:Env)(ro:Option Nat)(l:List COp)(u:Option FrameMode)(h:a=a')(k:Z=V):aD E ro l a u Z=aD E ro l a' u V:=by rw[h,k]
theorem Ad{a a':aV}{Z V:aC}{cl cl':List Nat}(E:Env)(ro:Option Nat)(last:List Nat->aZ)(l:List DOp)(u:Option FrameMode)(h0:cl=cl')(h:a=a')(k:Z=V):bM E ro last l cl a u Z=bM E ro last l cl' a' u V:=by rw[h0,h,k]
theorem Ab{a a':aV}{r r':ORes}(E:Env)(ro:Option Nat)(dst:Option Tmp)(u:Option FrameMode)(k:aZ)(h:a=a')(h2:r=r'):afterOp E ro dst a u k r=afterOp E ro dst a' u k r':=by rw[h,h2]
theorem Ac{a a':aV}{r r':ORes}{Z V:aC}(dst:Option Tmp)(u:Option FrameMode)(k:aZ)(h:a=a')(h1:Z=V)(h2:r=r'):drawF dst a u Z k r=drawF dst a' u V k r':=by rw[h,h1,h2]
end Go.Eng
namespace Go.Eng
open Go
mutual
theorem Laid.extC{x:Nat}{c3:List Value}{Z V:aC}(hw:Wf Z)(hx:Z.cells x=some c3)(h3:c3.length<4)(h:ExtC x Z V):∀ {v:Value} {d:D},Laid Z v d->Laid V v d
 | _,.mk _ _ _ _,⟨p,c,hv,he⟩=>⟨p,c,hv,LaidE.extC hw hx h3 h he⟩
theorem LaidE.extC{x:Nat}{c3:List Value}{Z V:aC}(hw:Wf Z)(hx:Z.cells x=some c3)(h3:c3.length<4)(h:ExtC x Z V):∀ {p:Option Addr} {i:Nat} {ds:List D},LaidE Z p i ds->LaidE V p i ds
 | _,_,[],_=>trivial
 | _,_,_::_,⟨⟨b,off,cs,hp,hc,hl,hd⟩,hr⟩=>
  have hb:b≠x:=fun hb=>by
   rw[hb,hx] at hc
   cases hc
   omega
  ⟨⟨b,off,cs,hp,(h.cells (hw.cells hc) hb).trans hc,hl,Laid.extC hw hx h3 h hd⟩,LaidE.extC hw hx h3 h hr⟩
end
end Go.Eng
namespace Go.Eng
open Go
mutual
def aU(R:Nat->Prop)(Z:aC):Value->D->Prop
 | v,.mk k n t ds=>∃p c,v=.agg #[.int .i64 k,.int .i64 n,.string t,.slice p ds.length c]/\bF R Z p 0 ds
def bF(R:Nat->Prop)(Z:aC):Option Addr->Nat->List D->Prop
 | _,_,[]=>True
 | p,i,d::ds=>(∃b off cs,p=some ⟨b,off,none⟩/\R b/\Z.cells b=some cs/\4<=cs.length-(off+i*4)/\aU R Z (.agg ((cs.drop (off+i*4)).take 4).toArray) d)/\bF R Z p (i+1) ds
end
mutual
theorem aU.laid{R:Nat->Prop}{Z:aC}:∀ {v:Value} {d:D},aU R Z v d->Laid Z v d
 | _,.mk _ _ _ _,⟨p,c,hv,he⟩=>⟨p,c,hv,bF.laid he⟩
theorem bF.laid{R:Nat->Prop}{Z:aC}:∀ {p:Option Addr} {i:Nat} {ds:List D},bF R Z p i ds->LaidE Z p i ds
 | _,_,[],_=>trivial
 | _,_,_::_,⟨⟨b,off,cs,hp,_,hc,hl,hd⟩,hr⟩=>⟨⟨b,off,cs,hp,hc,hl,aU.laid hd⟩,bF.laid hr⟩
end
mutual
theorem aU.keep{R R':Nat->Prop}{Z V:aC}(h:∀b cs,R b->Z.cells b=some cs->V.cells b=some cs/\R' b):∀ {v:Value} {d:D},aU R Z v d->aU R' V v d
 | _,.mk _ _ _ _,⟨p,c,hv,he⟩=>⟨p,c,hv,bF.keep h he⟩
theorem bF.keep{R R':Nat->Prop}{Z V:aC}(h:∀b cs,R b->Z.cells b=some cs->V.cells b=some cs/\R' b):∀ {p:Option Addr} {i:Nat} {ds:List D},bF R Z p i ds->bF R' V p i ds
 | _,_,[],_=>trivial
 | _,_,_::_,⟨⟨b,off,cs,hp,hR,hc,hl,hd⟩,hr⟩=>⟨⟨b,off,cs,hp,(h b cs hR hc).2,(h b cs hR hc).1,hl,aU.keep h hd⟩,bF.keep h hr⟩
end
def New(Z V:aC)(b:Nat):Prop:=Z.next<=b/\b<V.next
def Row(R:Nat->Prop)(Z:aC)(cs:List Value)(ds:List D):Prop:=cs.length=ds.length*4/\cs.all oneCell=true/\∀(i:Nat) (d:D),ds[i]? = some d->aU R Z (.agg ((cs.drop (i*4)).take 4).toArray) d
theorem Row.nil(R:Nat->Prop)(Z:aC):Row R Z [] []:=⟨rfl,rfl,fun i d h=>by simp at h⟩
theorem Row.keep{R R':Nat->Prop}{Z V:aC}(h:∀b cs,R b->Z.cells b=some cs->V.cells b=some cs/\R' b){cs:List Value}{ds:List D}(hr:Row R Z cs ds):Row R' V cs ds:=⟨hr.1,hr.2.1,fun i d hd=>(hr.2.2 i d hd).keep h⟩
theorem aU.agg{R:Nat->Prop}{Z:aC}{v:Value}{d:D}(h:aU R Z v d):∃l:List Value,v=.agg l.toArray/\l.length=4/\l.all oneCell=true:=by
 obtain⟨k,n,t,ds⟩:=d
 obtain⟨p,c,rfl,_⟩:=h
 exact⟨_,rfl,rfl,rfl⟩
theorem Row.snoc{R:Nat->Prop}{Z:aC}{cs l:List Value}{ds:List D}{d:D}(hr:Row R Z cs ds)(hl:l.length=4)(ho:l.all oneCell=true)(hd:aU R Z (.agg l.toArray) d):Row R Z (cs++l) (ds++[d]):=by
 refine⟨by simp[hr.1,hl];omega,by simp[hr.2.1,ho],fun i e he=>?_⟩
 by_cases hi:i<ds.length
 .rw[List.getElem?_append_left hi] at he
  have:=hr.2.2 i e he
  rwa [List.drop_append_of_le_length (by rw[hr.1];omega),List.take_append_of_le_length (by rw[List.length_drop,hr.1];omega)]
 .rw[List.getElem?_append_right (by omega)] at he
  obtain rfl:i=ds.length:=by
   have:i-ds.length<1:=(List.getElem?_eq_some_iff.1 he).1
   omega
  simp at he
  subst he
  rw[<-hr.1,List.drop_left,List.take_of_length_le (by omega)]
  exact hd
theorem Row.elems{R R':Nat->Prop}{Z:aC}{cs:List Value}{ds:List D}(hr:Row R Z cs ds){b:Nat}(hb:Z.cells b=some cs)(hR:R' b)(hRR:∀c,R c->R' c):∀(i:Nat) (es:List D),(∀j e,es[j]? = some e->ds[i+j]? = some e)->bF R' Z (some ⟨b,0,none⟩) i es
 | _,[],_=>trivial
 | i,e::es,h=>by
  have h0:=h 0 e rfl
  have hlt:i+0<ds.length:=(List.getElem?_eq_some_iff.1 h0).1
  refine⟨⟨b,0,cs,rfl,hR,hb,by rw[hr.1];omega,?_⟩,Row.elems hr hb hR hRR (i+1) es fun j e' hj=>?_⟩
  .have:=hr.2.2 i e h0
   rw[Nat.zero_add]
   exact this.keep fun c cs hc h=>⟨h,hRR c hc⟩
  .have:=h (j+1) e' (by simpa using hj)
   rwa [show i+1+j=i+(j+1) by omega]
theorem En(Z:aC)(b off n:Nat):loadAll Z b off n=(match Z.cells b with|some c=>if n<=c.length-off then some ((c.drop off).take n) else none|none=>none):=by
 unfold loadAll
 cases Z.cells b with
 | none=>rfl
 | some c=>simp only[Ho,HH,List.length_drop]
theorem P4(e size bytes bx cx:Nat)(new:List Value)(Z:aC)(hx:Z.cells bx=some new)(hs:new.length=size)(ho:new.all oneCell=true)(hb:bytes<1000):
  fappend e size bytes (.slice none 0 0) (.slice (some ⟨bx,0,none⟩) 1 cx) Z=.val (.slice (some ⟨Z.next,0,none⟩) 1 1) (Z.push (.cells new e) (some size)):=by
 unfold fappend fnew
 simp only[En,hx,List.drop_zero,Nat.one_mul,Nat.sub_zero,hs,Nat.le_refl,if_true]
 rw[show new.take size=new from List.take_of_length_le (by omega),ho]
 show fappend2 e size bytes 0 0 none 1 new Z=_
 unfold fappend2
 rw[show Nat.ble (0+1) 0=false from rfl,show Nat.ble ((0+1)*(bytes+1)) 1000000000=true by rw[Nat.ble_eq];omega]
 rfl
theorem Ub(e size bytes b bx cx len ver:Nat)(old new:List Value)(Z:aC)(hb:Z.heap.get b=some ⟨.cells old e,false,some size,ver⟩)(hx:Z.cells bx=some new)(hs:new.length=size)(ho:new.all oneCell=true)(hold:old.length=len*size)(hby:bytes<1000)(hlen:len<1000):
  fappend e size bytes (.slice (some ⟨b,0,none⟩) len len) (.slice (some ⟨bx,0,none⟩) 1 cx) Z=.val (.slice (some ⟨(Z.put b (.defd false) none).next,0,none⟩) (len+1) (len+1)) ((Z.put b (.defd false) none).push (.cells (old++new) e) (some size)):=by
 have hc:=AB hb
 unfold fappend fnew
 simp only[En,hx,List.drop_zero,Nat.one_mul,Nat.sub_zero,hs,Nat.le_refl,if_true]
 rw[show new.take size=new from List.take_of_length_le (by omega),ho]
 show fappend2 e size bytes len len (some ⟨b,0,none⟩) 1 new Z=_
 unfold fappend2
 have hm:(len+1)*(bytes+1)<=1000*1000:=Nat.mul_le_mul (by omega) (by omega)
 rw[show Nat.ble (len+1) len=false by rw[<-Bool.not_eq_true,Nat.ble_eq];omega,show Nat.ble ((len+1)*(bytes+1)) 1000000000=true by rw[Nat.ble_eq];omega]
 show fappendGrow e size len len (some ⟨b,0,none⟩) 1 new Z=_
 unfold fappendGrow
 simp only[En,hc,hb,List.drop_zero,Nat.sub_zero,hold,Nat.le_refl,if_true]
 rw[show Nat.beq len len=true by rw[Nat.beq_eq],show Nat.beq size size=true by rw[Nat.beq_eq],List.take_of_length_le (by omega)]
 rfl
end Go.Eng
namespace Go.Eng
open Go
section
variable (P:Program) (E:Env) (rs:List ResultVar) (a:aV) (u:Option FrameMode) (Z:aC)
theorem UU(g:FuncId)(first cap:Array Value)(args:List Value):fcallV (.func (.func g) first cap) args Z=.enter g (first.toList++args++cap.toList) Z:=rfl
theorem UW(g:FuncId)(first cap:Array Value)(args:List Value):fdefer (.func (.func g) first cap) args Z=.defer { target:=.fn (.func g) cap,args:=(first.toList++args).toArray } Z:=rfl
theorem TY(nl nt:Nat)(f g:Nat->Value)(ds:List Deferred)(d:Deferred)(k:aZ):afterOp E none none (Sl nl nt f g ds) u k (.defer d Z)=k (Sl nl nt f g (d::ds)) u Z:=rfl
theorem Ob(dst:Option Tmp)(k:aZ):afterOp E none dst a (some .returning) k (.recover Z)=k (a.put dst .nilIface) (some .returning) Z:=rfl
theorem Ac5(f:FuncId)(cap args:Array Value)(ds:List Deferred):fleave P E rs a u ({ target:=.fn (.func f) cap,args:=args }::ds) .returning Z=
  (match E.call f (args.toList++cap.toList) (some .returning) Z with
   | .ret _ (some md') Z=>fleave P E rs a u ds (unrecovered md') Z
   | .pan ch (some md') Z=>fleave P E rs a u ds (raised md' ch) Z
   | _=>.no):=rfl
theorem Hl:unrecovered .returning=.returning:=rfl
theorem AH:fresults P [] a Z=some []:=rfl
theorem AL(r:ResultVar):fresults P (r::rs) a Z=(match fresult P r a Z,fresults P rs a Z with|some v,some vs=>some (v::vs)|_,_=>none):=rfl
theorem BD(t:Tmp):fresult P (.tmp t) a Z=some (a.get t):=rfl
theorem Dl(c:Tmp)(t:TypeId):fresult P (.cell c t) a Z=(match aggSize P t with
  | some sz=>(match aG sz (a.get c) Z with
   | .val v _=>some v
   | _=>none)
  | none=>none):=rfl
theorem XR:fleave P E [] a u [] .returning Z=.ret (.tuple #[]) u Z:=rfl
theorem UX(i:Nat)(l:List Value):aJ i (.tuple l.toArray) Z=(match l[i]? with|some x=>.val x Z|none=>.no):=by
 unfold aJ
 simp only[List.getElem?_toArray]
 cases l[i]?<;>rfl
end
end Go.Eng
namespace Go.Eng
open Go
theorem Adb(P:Program)(t e size b off ln cap h:Nat)(Z:aC)(hu:under P t=some (.slice e))(hs:bN P e=some size)(hh:h<=cap)(c:List Value)(el:TypeId)(ro:Bool)(fz:Option Nat)(ver:Nat)(hb:Z.heap.get b=some ⟨.cells c el,ro,fz,ver⟩)(hfz:fz=none\/fz=some size):
  fslice P t (.slice (some ⟨b,off,none⟩) ln cap) none (some (.int .i64 (.ofNat h))) none Z=.val (.slice (some ⟨b,off,none⟩) h cap) Z:=by
 have hc:capOk size none b Z=true:=by
  unfold capOk
  simp only[hb]
  rcases hfz with rfl|rfl
  .rfl
  .show Nat.beq size size=true
   rw[Nat.beq_eq]
 have hbd:bounds3 ln cap none (some (.int .i64 (.ofNat h))) none=some (0,h,cap):=by
  show (match hiOf ln cap (some (.int .i64 (.ofNat h))) none with|none=>none|some h=>(match loOf h none with|none=>none|some l=>some (l,h,cap)))=_
  have:hiOf ln cap (some (.int .i64 (.ofNat h))) none=some h:=by
   show cond (Nat.ble h cap) (some h) none=some h
   rw[show Nat.ble h cap=true by rw[Nat.ble_eq];exact hh]
   rfl
  rw[this]
  rfl
 unfold fslice
 simp only[hu,hs]
 unfold fsliceL
 simp only[hbd,hc]
 show ORes.val (.slice (some ⟨b,off+0*size,none⟩) (h-0) (cap-0)) Z=_
 simp
theorem Vd(P:Program)(t e size b off ln cap h:Nat)(Z:aC)(hu:under P t=some (.slice e))(hs:bN P e=some size)(hh:h<=cap):
  fslice P t (.slice (some ⟨b,off,none⟩) ln cap) none (some (.int .i64 (.ofNat h))) (some (.int .i64 (.ofNat h))) Z=.val (.slice (some ⟨b,off,none⟩) h h) Z:=by
 have hbd:bounds3 ln cap none (some (.int .i64 (.ofNat h))) (some (.int .i64 (.ofNat h)))=some (0,h,h):=by
  have h1:mxOf cap (some (.int .i64 (.ofNat h)))=some h:=by
   show cond (Nat.ble h cap) (some h) none=some h
   rw[show Nat.ble h cap=true by rw[Nat.ble_eq];exact hh]
   rfl
  have h2:hiOf ln h (some (.int .i64 (.ofNat h))) (some (.int .i64 (.ofNat h)))=some h:=by
   show cond (Nat.ble h h) (some h) none=some h
   rw[show Nat.ble h h=true by rw[Nat.ble_eq];exact Nat.le_refl _]
   rfl
  unfold bounds3
  rw[h1]
  simp only[h2]
  rfl
 unfold fslice
 simp only[hu,hs]
 unfold fsliceL
 simp only[hbd]
 show ORes.val (.slice (some ⟨b,off+0*size,none⟩) (h-0) (h-0)) Z=_
 simp
theorem P3(e bytes b bx cx len cap ver:Nat)(fz:Option Nat)(el:TypeId)(c:List Value)(v:Value)(Z:aC)(hb:Z.heap.get b=some ⟨.cells c el,false,fz,ver⟩)(hx:Z.cells bx=some [v])(ho:oneCell v=true)(hlt:len<cap)(hc:cap<=c.length):
  fappend e 1 bytes (.slice (some ⟨b,0,none⟩) len cap) (.slice (some ⟨bx,0,none⟩) 1 cx) Z=.val (.slice (some ⟨b,0,none⟩) (len+1) cap) (Z.put b (.cells (c.set len v) el) fz):=by
 unfold fappend fnew
 simp only[En,hx,List.drop_zero,Nat.one_mul,Nat.sub_zero,List.length_singleton,Nat.le_refl,if_true]
 show cond ([v].all oneCell) (fappend2 e 1 bytes len cap (some ⟨b,0,none⟩) 1 [v] Z) .no=_
 rw[show [v].all oneCell=true by simp[ho]]
 show fappend2 e 1 bytes len cap (some ⟨b,0,none⟩) 1 [v] Z=_
 unfold fappend2
 rw[show Nat.ble (len+1) cap=true by rw[Nat.ble_eq];omega]
 show fappendRoom 1 len cap (some ⟨b,0,none⟩) 1 [v] Z=_
 unfold fappendRoom
 simp only[hb,DW,List.length_singleton,Nat.mul_one,Nat.zero_add]
 rw[if_pos (by omega)]
 simp only[]
 congr 3
 rw[List.set_eq_take_append_cons_drop,if_pos (by omega)]
 simp
theorem P2(e bytes b bx cx len ver:Nat)(fz:Option Nat)(old:List Value)(v:Value)(Z:aC)(hb:Z.heap.get b=some ⟨.cells old e,false,fz,ver⟩)(hfz:fz=none\/fz=some 1)(hx:Z.cells bx=some [v])(ho:oneCell v=true)(hl:old.length=len)(hby:bytes<1000)(hlen:len<100000):
  ∃τ,fappend e 1 bytes (.slice (some ⟨b,0,none⟩) len len) (.slice (some ⟨bx,0,none⟩) 1 cx) Z=.val (.slice (some ⟨Z.next,0,none⟩) (len+1) (len+1)) τ/\(τ=Z.push (.cells (old++[v]) e) (some 1)\/τ=(Z.put b (.defd false) none).push (.cells (old++[v]) e) (some 1)):=by
 have hc:=AB hb
 unfold fappend fnew
 simp only[En,hx,List.drop_zero,Nat.one_mul,Nat.sub_zero,List.length_singleton,Nat.le_refl,if_true]
 have h1:(List.take 1 [v]).all oneCell=true:=by simp[ho]
 rw[h1]
 show ∃τ,fappend2 e 1 bytes len len (some ⟨b,0,none⟩) 1 [v] Z=_/\_
 have hm:(len+1)*(bytes+1)<=100000*1000:=Nat.mul_le_mul (by omega) (by omega)
 unfold fappend2
 rw[show Nat.ble (len+1) len=false by rw[<-Bool.not_eq_true,Nat.ble_eq];omega,show Nat.ble ((len+1)*(bytes+1)) 1000000000=true by rw[Nat.ble_eq];omega]
 show ∃τ,fappendGrow e 1 len len (some ⟨b,0,none⟩) 1 [v] Z=_/\_
 unfold fappendGrow
 simp only[En,hc,hb,List.drop_zero,Nat.sub_zero,Nat.mul_one,hl,Nat.le_refl,if_true]
 rw[List.take_of_length_le (by omega)]
 rcases hfz with rfl|rfl
 .exact⟨_,rfl,.inl rfl⟩
 .rw[show Nat.beq len len=true by rw[Nat.beq_eq]]
  exact⟨_,rfl,.inr rfl⟩
attribute [go_sem_proc ↓] reduceIte
attribute [go_sem] List.getElem?_cons_zero List.getElem?_cons_succ Option.getD_some
attribute [go_sem_proc] Nat.reduceLT Nat.reduceEqDiff Nat.reduceAdd Nat.reduceMul Nat.reduceLeDiff Nat.reduceSub
attribute [go_sem] DP  D8  CT  DD  DC  Bz  CP  DN  Ag  CQ  B_  Bu  Be  B6  Ar  AW  AO  CZ          CY  CX  Cb  Bw  Ci  AZ  Cj  Ae  Bh  Ao  AX  D4  Bg  A7  A8  AC  AU  AA  Ay  A_  Ba  AF  AV  AK  Az  Cc  D6  D7  Al  Aq  cells?_cells  DF  CV  DE  CU  DB  DM  DJ  DI  DH  DG  Dz  DQ  DK  Dk  Dp  D9  CR  CS  Nat.add_zero  Nat.zero_add  Nat.add_left_cancel_iff  Nat.add_eq_left  Nat.left_eq_add  List.getElem?_cons_zero  List.getElem?_cons_succ  beq_self_eq_true  Bool.not_true  Bool.not_false  cond_true  cond_false  BA  AR  Ce  BB  BC  Ca  Bool.false_eq_true  CO  AQ  Bv  Bf  CW  Cd  List.not_mem_nil  or_false  or_true  List.cons_append  List.nil_append  DA  DL  DR  Ch  Cg  C8  A0  Dm  Aj  Ak  List.set_cons_zero  List.set_cons_succ  List.length_cons  List.length_nil  Bc  AJ  A9  Au  AE  UU  UW  List.toList_toArray  TY  Ob  Ac5  Hl  XR  UX  Nat.add_assoc  ApK  Agg  AcZ  MF  PM  PL  XQ  List.take_zero  List.take_succ_cons  List.drop_zero  List.drop_succ_cons  List.drop_nil  List.take_nil  List.append_nil  Nat.zero_mul  Nat.one_mul      and_self  true_and    Nat.sub_zero  List.all_cons  List.all_nil  Bool.and_self  Bool.and_true  Nat.mul_one  Kf  AuY  OD  Axl  CE  Axj  Fp
end Go.Eng
namespace Go.Proofs.YtknnbjmcfibpgaaGreatDoor
section
open Go Go.Eng
def nls:Hints:=[(0,[]),(0,[]),(0,[]),(18,[108]),(31,[55,56,57,58,59,60,61,62,63,64,65,66,67,68,69,70,71,72,73,74,75,76,77,78,79,80,81,82,83,84,85,86,87,88,89,90,91,92,93,94,95,96,97,98,99,100,101,102,103,104,105,106,107,108,109,110,111,112,113,114,115,116,117,118,119,120,121,122,123,124,125,126,127,128,129,130,131,132,133,134,135,136,137,138,139,140,141,142,143,144,145,146,147,148,149,150,151,152,153,154,155,156,157,158,159,160,161,162,163,164,165,166,167,168,169,170,171,172,173,174,175,176,177,178,179,180,181,182,183,184,185,186,187,188,189,190,191,192,193,194,195,196,197,198,199,200,201,202,203,204,205,206,207,208,209,210,211,212,213,214,215,216,217,218,219]),(33,[219]),(2,[]),(20,[]),(7,[61,62,63,64,65,66,67,68,69,70]),(2,[]),(5,[30]),(6,[]),(8,[]),(2,[]),(5,[]),(5,[]),(4,[]),(6,[]),(4,[]),(6,[]),(7,[21]),(5,[19]),(2,[]),(7,[]),(2,[]),(6,[21,22,23,24,25,26]),(6,[]),(4,[]),(9,[]),(2,[]),(9,[37]),(7,[32]),(7,[32]),(2,[]),(4,[]),(9,[]),(6,[]),(11,[]),(4,[]),(7,[]),(6,[]),(6,[]),(7,[30]),(4,[]),(0,[]),(2,[]),(2,[]),(0,[]),(2,[]),(6,[]),(4,[]),(4,[]),(2,[]),(2,[]),(4,[]),(2,[]),(2,[]),(4,[]),(2,[]),(4,[]),(6,[]),(4,[]),(7,[]),(3,[]),(6,[]),(5,[]),(9,[31,32,33]),(7,[]),(1,[]),(8,[]),(2,[]),(5,[28]),(7,[]),(1,[]),(6,[]),(2,[]),(4,[]),(7,[]),(1,[]),(2,[]),(5,[]),(5,[19,20]),(7,[]),(5,[5,6,7,17,19,20,21,22]),(2,[]),(7,[]),(5,[]),(6,[]),(2,[]),(6,[]),(3,[]),(4,[]),(6,[]),(2,[]),(7,[7,8,9,32]),(9,[]),(9,[52]),(7,[]),(2,[]),(8,[]),(10,[37]),(5,[19]),(7,[]),(4,[]),(7,[]),(2,[]),(12,[]),(2,[]),(6,[]),(5,[]),(6,[]),(4,[]),(5,[]),(2,[]),(5,[]),(3,[]),(7,[]),(2,[]),(8,[74]),(5,[]),(6,[]),(5,[]),(7,[14,15,28]),(4,[]),(2,[]),(5,[]),(2,[]),(5,[]),(4,[]),(2,[]),(4,[]),(4,[]),(5,[]),(4,[]),(7,[]),(6,[]),(4,[]),(8,[]),(4,[]),(4,[]),(2,[]),(1,[]),(6,[]),(19,[]),(2,[]),(6,[]),(5,[]),(4,[]),(6,[]),(4,[]),(6,[]),(4,[]),(6,[]),(2,[]),(10,[15,16,17]),(6,[]),(2,[]),(8,[]),(4,[13,14]),(5,[6]),(8,[13,14]),(11,[27,28,29,30,31,32,33,34,35,36,37,38,39,40,41,42,43,44,45,46,47,48,49,50,51,52,53,54]),(11,[]),(13,[]),(8,[]),(11,[15,16,35,36,37,38,39,40,41,42,43,44,45,46,47,48,49,50,51,52,53,54,55,56,57,58,59,60,61,62,63,64,65,66,67,68,69,70,71,72,73,74,75,76,77,78,79,80,81,82,83,84,85,86,87,88,89,90,91,92,93,94,95,96,97,98,99,100,101,102,103,104,105,106,107,108,109,110,111,112,113,114,115,116,117,118,119,120,121,122,123,124,125,126,127,128,129,130,131,132]),(4,[]),(11,[46,47,48,49,50,51,52,53,54,55,56,57,58,59,60,61,62,63,64,65,66,67,68,69,70,71,72,73,74,75,76,77,78,79,80,81,82,83]),(12,[46,47,48,49,50,51,52,53,54,55,56,57,58,59,60,61,62,63,64,65,66,67,68,69,70,71,72,73,74,75,76,77,78,79,80,81,82,83,84,85,86,87,88,89,90,91,92,93,94,95,96,97,98,99,100,101,102,103,104,105,106,107,108,109,110,111,112,113,114,115,116,117,118,119,120,121,122,123,124,125,126,127,128,129,130,131,132,133,134,135,136,137,138,139,140,141,142,143,144,145,146,147,148,149,150,151,152,153,154,155,156,157,158,159,160,161,162,163,164,165,166,167]),(3,[]),(3,[]),(2,[]),(1,[]),(1,[]),(1,[]),(16,[48,49,50]),(2,[]),(10,[]),(2,[]),(2,[]),(6,[]),(10,[]),(2,[]),(1,[]),(1,[]),(2,[]),(4,[]),(8,[]),(17,[17,18,19,20,21,22,23,24,25,26,27,28,29,30,31,32,33,34,35,36,37,38,39,40,41,42,43,44,45,46,47,48,49,50,51,52,53,54,55,56,57,58,59,60,61,62,63,64,65,66,67,68,69,70,71,72,73,74,75,76,77,78,79,80,81,82,83,84,85,86,87,88,89,90,91,92,93,94,95,96,97,98,99,100,101,102,103,104,105,106,107,108,109,110,111,112,113,114,115,116,117,118,119,120,121,122,123,124,125,126,127,128,129,130,131,132,133,134,135,136,137,138,139,140,141,142,143,144,145,146,147,148,149,150,151,152,153,154,155,156,157,158,159,175]),(4,[]),(2,[]),(2,[]),(2,[]),(4,[]),(2,[]),(1,[]),(1,[]),(1,[]),(1,[]),(1,[]),(1,[]),(1,[]),(1,[]),(1,[]),(1,[]),(1,[]),(1,[]),(1,[]),(1,[]),(1,[]),(1,[]),(1,[]),(1,[]),(2,[]),(4,[]),(4,[]),(4,[]),(2,[]),(1,[]),(2,[]),(4,[]),(2,[]),(4,[]),(2,[]),(4,[]),(11,[11,12,13,34,35,36,37,38]),(1,[]),(1,[]),(1,[]),(1,[]),(2,[]),(1,[]),(1,[]),(2,[]),(1,[]),(1,[]),(1,[]),(1,[]),(1,[]),(1,[]),(1,[]),(0,[]),(0,[]),(0,[]),(0,[])]
def textsOf:List Value->Option (List (List UInt8))
 | []=>some []
 | .string s::r=>match textsOf r with
  | some l=>some (s.data.toList::l)
  | none=>none
 | _=>none
def insS(x:List UInt8):List (List UInt8)->List (List UInt8)
 | []=>[x]
 | y::l=>if x<=y then x::y::l else y::insS x l
def sortS:List (List UInt8)->List (List UInt8)
 | []=>[]
 | x::l=>insS x (sortS l)
def encS(l:List UInt8):Value:=.string ⟨l.toArray⟩
def sums:Sums:=fun f args Z=>
 cond (Nat.beq f 115) (match args with
  | [.slice (some ⟨b,off,none⟩) len _]=>cond (Nat.ble 1 len&&Nat.ble len 1000000000) (match Z.cells b with
   | some cs=>(match textsOf ((cs.drop off).take len) with
    | some ss=>cond (Nat.beq ss.length len) (match aK len (.pointer (some ⟨b,off,none⟩)) (.agg ((sortS ss).map encS).toArray) Z with|.skip V=>some (.ret (.tuple #[]) none V)|_=>none) none
    | none=>none)
   | none=>none) none
  | _=>none) <|
 cond (Nat.beq f 157) (match args with
  | [.nilIface,_]=>some (.ret (.bool false) none Z)
  | [.iface t (.agg cs),.iface pt p]=>cond (Nat.beq t 171&&Nat.beq pt 190) (match cs.toList with
   | [x,y]=>(match aK 2 p (.agg #[x,y]) Z with|.skip V=>some (.ret (.bool true) none V)|_=>none)
   | _=>none) none
  | _=>none) none
def env(n:Nat):Env:=fenv Tryz.prog sums nls n
theorem Ai(n:Nat)(f:FuncId)(args:List Value)(Z:aC)(h:(Nat.beq f 115||Nat.beq f 157)=false):(env (n+1)).call f args none Z=bA Tryz.prog nls (env n) f args none Z:=OT _ _ _ _ _ _ _ (by
 rw[Bool.or_eq_false_iff] at h
 unfold sums
 rw[h.1,h.2]
 rfl)
theorem AvS(n b off len c:Nat)(Z V:aC)(cs:List Value)(ss:List (List UInt8))(hc:Z.cells b=some cs)(hs:textsOf ((cs.drop off).take len)=some ss)(hl:ss.length=len)(h0:1<=len)(h9:len<=1000000000)(h:aK len (.pointer (some ⟨b,off,none⟩)) (.agg ((sortS ss).map encS).toArray) Z=.skip V):(env (n+1)).call 115 [.slice (some ⟨b,off,none⟩) len c] none Z=.ret (.tuple #[]) none V:=by
 show fcallS Tryz.prog sums nls (fenv Tryz.prog sums nls n) 115 [.slice (some ⟨b,off,none⟩) len c] none Z=_
 unfold fcallS
 have e:sums 115 [.slice (some ⟨b,off,none⟩) len c] Z=some (.ret (.tuple #[]) none V):=by
  show cond (Nat.ble 1 len&&Nat.ble len 1000000000) (match Z.cells b with
   | some cs=>(match textsOf ((cs.drop off).take len) with
    | some ss=>cond (Nat.beq ss.length len) (match aK len (.pointer (some ⟨b,off,none⟩)) (.agg ((sortS ss).map encS).toArray) Z with|.skip V=>some (CRes.ret (.tuple #[]) none V)|_=>none) none
    | none=>none)
   | none=>none) none=_
  rw[Nat.ble_eq_true_of_le h0,Nat.ble_eq_true_of_le h9,hc]
  simp only[hs,Bool.and_self,cond_true]
  rw[hl,Nat.beq_refl,cond_true,h]
 rw[e]
theorem AvR(n:Nat)(x y p:Value)(Z V:aC)(h:aK 2 p (.agg #[x,y]) Z=.skip V):(env (n+1)).call 157 [.iface 171 (.agg #[x,y]),.iface 190 p] none Z=.ret (.bool true) none V:=by
 show fcallS Tryz.prog sums nls (fenv Tryz.prog sums nls n) 157 [.iface 171 (.agg #[x,y]),.iface 190 p] none Z=_
 unfold fcallS
 have e:sums 157 [.iface 171 (.agg #[x,y]),.iface 190 p] Z=some (.ret (.bool true) none V):=by
  show (match aK 2 p (.agg #[x,y]) Z with|.skip V=>some (CRes.ret (.bool true) none V)|_=>none)=_
  rw[h]
 rw[e]
theorem Fz(n:Nat)(f:FuncId)(args:List Value)(md:FrameMode)(Z:aC):(env (n+1)).call f args (some md) Z=bA Tryz.prog nls (env n) f args (some md) Z:=XB _ _ _ _ _ _ _ _
theorem AcY(n l:Nat)(args:List Value)(Z:aC):(env (n+1)).round l args Z=fround Tryz.prog nls (env n) l args Z:=XC _ _ _ _ _ _ _
variable (E:Env) (ro:Option Nat) (last:List Nat->aZ) (cl:List Nat) (a:aV) (u:Option FrameMode) (Z:aC)
def tT(_:aV):Option Bool:=some true
attribute [go_sem] tT
def KQ(_:Unit):List COp:=[⟨fun a Z=>fbox 24 (a.get 0) Z,some 2,tT⟩,
 ⟨fun a Z=>fbox 24 (a.get 1) Z,some 3,tT⟩,
 ⟨fun a Z=>.val (.bool false) Z,some 4,tT⟩]
def Asp:List COp:=KQ ()
def KR(_:Unit):List COp:=[⟨fun a Z=>aH 0 (a.get 2) Z,some 5,tT⟩,
 ⟨fun a Z=>aG none (a.get 5) Z,some 6,tT⟩,
 ⟨fun a Z=>aH 0 (a.get 3) Z,some 7,tT⟩,
 ⟨fun a Z=>aG none (a.get 7) Z,some 8,tT⟩,
 ⟨fun a Z=>bJ Tryz.prog 3 (.tmp 6) (.tmp 8) (a.get 6) (a.get 8) Z,some 9,tT⟩,
 ⟨fun a Z=>.val (a.get 9) Z,some 10,tT⟩,
 ⟨fun a Z=>aH 1 (a.get 2) Z,some 11,fun a=>gd (a.get 10) true⟩,
 ⟨fun a Z=>aG none (a.get 11) Z,some 12,fun a=>gd (a.get 10) true⟩,
 ⟨fun a Z=>aH 1 (a.get 3) Z,some 13,fun a=>gd (a.get 10) true⟩,
 ⟨fun a Z=>aG none (a.get 13) Z,some 14,fun a=>gd (a.get 10) true⟩,
 ⟨fun a Z=>bJ Tryz.prog 3 (.tmp 12) (.tmp 14) (a.get 12) (a.get 14) Z,some 15,fun a=>gd (a.get 10) true⟩,
 ⟨fun a Z=>bG (a.get 10) (a.get 15) (.bool false) Z,some 16,tT⟩,
 ⟨fun a Z=>.val (a.get 16) Z,some 17,tT⟩,
 ⟨fun a Z=>aH 2 (a.get 2) Z,some 18,fun a=>gd (a.get 17) true⟩,
 ⟨fun a Z=>aG none (a.get 18) Z,some 19,fun a=>gd (a.get 17) true⟩,
 ⟨fun a Z=>aH 2 (a.get 3) Z,some 20,fun a=>gd (a.get 17) true⟩,
 ⟨fun a Z=>aG none (a.get 20) Z,some 21,fun a=>gd (a.get 17) true⟩,
 ⟨fun a Z=>bJ Tryz.prog 9 (.tmp 19) (.tmp 21) (a.get 19) (a.get 21) Z,some 22,fun a=>gd (a.get 17) true⟩,
 ⟨fun a Z=>bG (a.get 17) (a.get 22) (.bool false) Z,some 23,tT⟩,
 ⟨fun a Z=>.val (a.get 23) Z,some 24,tT⟩,
 ⟨fun a Z=>aH 3 (a.get 2) Z,some 25,fun a=>gd (a.get 24) true⟩,
 ⟨fun a Z=>aG none (a.get 25) Z,some 26,fun a=>gd (a.get 24) true⟩,
 ⟨fun a Z=>aH 3 (a.get 3) Z,some 27,fun a=>gd (a.get 24) true⟩,
 ⟨fun a Z=>aG none (a.get 27) Z,some 28,fun a=>gd (a.get 24) true⟩,
 ⟨fun a Z=>.enter 26 [(a.get 26),(a.get 28)] Z,some 29,fun a=>gd (a.get 24) true⟩,
 ⟨fun a Z=>bG (a.get 24) (a.get 29) (.bool false) Z,some 30,tT⟩,
 ⟨fun a Z=>.val (a.get 30) Z,some 4,tT⟩]
def Asq:List COp:=KR ()
def Anj(E:Env)(ro:Option Nat)(fn:FuncId):aZ:=(aF (aD E ro Asp) (aF (aD E ro Asq) bO))
theorem JT:aD E ro Asp a u Z=aD E ro (KQ ()) a u Z:=rfl
theorem JU:aD E ro Asq a u Z=aD E ro (KR ()) a u Z:=rfl
theorem Avg(E:Env)(ro:Option Nat)(fn:FuncId):code Tryz.prog nls (Tryz.f18.body.getD .skip) E ro fn=Anj E ro fn:=by kernel_rfl
theorem Ao9(E:Env)(args:List Value)(u:Option FrameMode)(Z:aC)(hn:args.length<=(4:Nat)):bA Tryz.prog nls E 18 args u Z=aN Tryz.prog E [.tmp 4] (Anj E none 18 ⟨aY undef 4 args,fun _=>undef,4,31,[]⟩ u Z):=by
 rw[Am (body:=Tryz.f18.body.getD .skip) Tryz.func18 rfl E args u Z 4 31 (by kernel_rfl) rfl ⟨hn,by decide⟩,Avg]
 rfl
def Sx(_:Unit):List COp:=[⟨fun a Z=>.val (.bool false) Z,some 4,tT⟩]
def Asx:List COp:=Sx ()
def Sy(_:Unit):List COp:=[⟨fun a Z=>.val (a.get 0) Z,some 6,tT⟩,
 ⟨fun a Z=>flenL (a.get 6) Z,some 7,tT⟩,
 ⟨fun a Z=>.val (a.get 1) Z,some 8,tT⟩,
 ⟨fun a Z=>flenL (a.get 8) Z,some 9,tT⟩,
 ⟨fun a Z=>i_neq Tryz.prog 3 (.tmp 7) (.tmp 9) (a.get 7) (a.get 9) Z,some 10,tT⟩]
def Asy:List COp:=Sy ()
def Sz(_:Unit):List COp:=[⟨fun a Z=>.val (.bool false) Z,some 4,tT⟩]
def Asz:List COp:=Sz ()
def YL(_:Unit):List COp:=[⟨fun a Z=>.val (.int .i64 0) Z,some 5,tT⟩]
def AsA:List COp:=YL ()
def SA(_:Unit):List COp:=[⟨fun a Z=>.val (a.get 5) Z,some 11,tT⟩,
 ⟨fun a Z=>.val (a.get 0) Z,some 12,tT⟩,
 ⟨fun a Z=>flenL (a.get 12) Z,some 13,tT⟩,
 ⟨fun a Z=>i_lss Tryz.prog 3 (.tmp 11) (.tmp 13) (a.get 11) (a.get 13) Z,some 14,tT⟩]
def AsB:List COp:=SA ()
def YN(_:Unit):List DOp:=[⟨fun a Z=>.val (a.get 0) Z,some 17,tT,some 0,false⟩,
 ⟨fun a Z=>.val (a.get 5) Z,some 18,tT,some 0,false⟩,
 ⟨fun a Z=>bB (none,4) (a.get 17) (a.get 18) Z,some 19,tT,some 0,false⟩,
 ⟨fun a Z=>aG (some 4) (a.get 19) Z,some 20,tT,some 0,false⟩,
 ⟨fun a Z=>.val (a.get 1) Z,some 21,tT,some 0,false⟩,
 ⟨fun a Z=>.val (a.get 5) Z,some 22,tT,some 0,false⟩,
 ⟨fun a Z=>bB (none,4) (a.get 21) (a.get 22) Z,some 23,tT,some 0,false⟩,
 ⟨fun a Z=>aG (some 4) (a.get 23) Z,some 24,tT,some 0,false⟩,
 ⟨fun a Z=>.enter 18 [(a.get 20),(a.get 24)] Z,some 25,tT,none,true⟩,
 ⟨fun a Z=>fun1 Tryz.prog (Op.unary .not) (a.get 25) Z,some 26,tT,some 1,false⟩]
def AsD:List DOp:=YN ()
def YO(_:Unit):List COp:=[⟨fun a Z=>.val (.bool false) Z,some 4,tT⟩]
def AsE:List COp:=YO ()
def YM(_:Unit):List COp:=[⟨fun a Z=>.val (a.get 5) Z,some 15,tT⟩,
 ⟨fun a Z=>i_add Tryz.prog 3 (.tmp 15) (.const (.int .i64 1)) (a.get 15) (.int .i64 1) Z,some 16,tT⟩,
 ⟨fun a Z=>.val (a.get 16) Z,some 5,tT⟩]
def AsC:List COp:=YM ()
def Abl(E:Env)(ro:Option Nat)(fn:FuncId):aZ:=(aF (aF (aD E ro AsB) (aL (fun a=>(a.get 14)) aQ (exitR 0))) (aF (aR 1 (aF (drawR E ro AsD) (aL (fun a=>(a.get 26)) (aF (aD E ro AsE) bO) aQ))) (aD E ro AsC)))
def YP(_:Unit):List COp:=[⟨fun a Z=>.val (.bool true) Z,some 4,tT⟩]
def AsF:List COp:=YP ()
def Anl(E:Env)(ro:Option Nat)(fn:FuncId):aZ:=(aF (aD E ro Asx) (aF (aF (aD E ro Asy) (aL (fun a=>(a.get 10)) (aF (aD E ro Asz) bO) aQ)) (aF (aF (aD E ro AsA) (aR 0 (loopR (bH nls fn) (Abl E ro fn)))) (aF (aD E ro AsF) bO))))
theorem VU:aD E ro Asx a u Z=aD E ro (Sx ()) a u Z:=rfl
theorem VV:aD E ro Asy a u Z=aD E ro (Sy ()) a u Z:=rfl
theorem VW:aD E ro Asz a u Z=aD E ro (Sz ()) a u Z:=rfl
theorem Ak7:aD E ro AsA a u Z=aD E ro (YL ()) a u Z:=rfl
theorem VX:aD E ro AsB a u Z=aD E ro (SA ()) a u Z:=rfl
theorem Ak9:bM E ro last AsD cl a u Z=bM E ro last (YN ()) cl a u Z:=rfl
theorem Ala:aD E ro AsE a u Z=aD E ro (YO ()) a u Z:=rfl
theorem Ak8:aD E ro AsC a u Z=aD E ro (YM ()) a u Z:=rfl
theorem Alb:aD E ro AsF a u Z=aD E ro (YP ()) a u Z:=rfl
theorem Avi(E:Env)(ro:Option Nat)(fn:FuncId):code Tryz.prog nls (Tryz.f26.body.getD .skip) E ro fn=Anl E ro fn:=by kernel_rfl
theorem Apb(E:Env)(args:List Value)(u:Option FrameMode)(Z:aC)(hn:args.length<=(6:Nat)):bA Tryz.prog nls E 26 args u Z=aN Tryz.prog E [.tmp 4] (Anl E none 26 ⟨aY undef 6 args,fun _=>undef,6,27,[]⟩ u Z):=by
 rw[Am (body:=Tryz.f26.body.getD .skip) Tryz.func26 rfl E args u Z 6 27 (by kernel_rfl) rfl ⟨hn,by decide⟩,Avi]
 rfl
def ZU(_:Unit):List COp:=[⟨fun a Z=>.val (.int .u64 0) Z,some 2,tT⟩]
def Auw:List COp:=ZU ()
def ZV(_:Unit):List COp:=[⟨fun a Z=>.val (a.get 0) Z,some 4,tT⟩,
 ⟨fun a Z=>bI (a.get 4) Z,some 5,tT⟩,
 ⟨fun a Z=>aH 1 (a.get 5) Z,some 6,tT⟩,
 ⟨fun a Z=>aG none (a.get 6) Z,some 7,tT⟩,
 ⟨fun a Z=>fun1 Tryz.prog (convert 3 82) (a.get 7) Z,some 8,tT⟩,
 ⟨fun a Z=>i_add Tryz.prog 82 (.tmp 8) (.const (.int .u64 1376283091369227076)) (a.get 8) (.int .u64 1376283091369227076) Z,some 9,tT⟩,
 ⟨fun a Z=>.val (a.get 9) Z,some 3,tT⟩]
def Aux:List COp:=ZV ()
def Tl(_:Unit):List DOp:=[⟨fun a Z=>.val (a.get 0) Z,some 10,tT,some 0,false⟩,
 ⟨fun a Z=>bI (a.get 10) Z,some 11,tT,some 0,false⟩,
 ⟨fun a Z=>aH 1 (a.get 11) Z,some 12,tT,some 0,false⟩,
 ⟨fun a Z=>aG none (a.get 12) Z,some 13,tT,some 0,false⟩,
 ⟨fun a Z=>.val (a.get 0) Z,some 14,tT,some 0,false⟩,
 ⟨fun a Z=>bI (a.get 14) Z,some 15,tT,some 0,false⟩,
 ⟨fun a Z=>aH 0 (a.get 15) Z,some 16,tT,some 0,false⟩,
 ⟨fun a Z=>aG none (a.get 16) Z,some 17,tT,some 0,false⟩,
 ⟨fun a Z=>flenL (a.get 17) Z,some 18,tT,some 0,false⟩,
 ⟨fun a Z=>i_lss Tryz.prog 3 (.tmp 13) (.tmp 18) (a.get 13) (a.get 18) Z,some 19,tT,some 0,false⟩]
def Ams:List DOp:=Tl ()
def ZW(_:Unit):List DOp:=[⟨fun a Z=>.val (a.get 3) Z,some 20,tT,some 0,false⟩,
 ⟨fun a Z=>.val (a.get 0) Z,some 21,tT,some 0,false⟩,
 ⟨fun a Z=>bI (a.get 21) Z,some 22,tT,some 0,false⟩,
 ⟨fun a Z=>aH 0 (a.get 22) Z,some 23,tT,some 0,false⟩,
 ⟨fun a Z=>aG none (a.get 23) Z,some 24,tT,some 0,false⟩,
 ⟨fun a Z=>.val (a.get 0) Z,some 25,tT,some 0,false⟩,
 ⟨fun a Z=>bI (a.get 25) Z,some 26,tT,some 0,false⟩,
 ⟨fun a Z=>aH 1 (a.get 26) Z,some 27,tT,some 0,false⟩,
 ⟨fun a Z=>aG none (a.get 27) Z,some 28,tT,some 0,false⟩,
 ⟨fun a Z=>bB (none,1) (a.get 24) (a.get 28) Z,some 29,tT,some 0,false⟩,
 ⟨fun a Z=>aG none (a.get 29) Z,some 30,tT,some 0,false⟩,
 ⟨fun a Z=>fun1 Tryz.prog (convert 3 82) (a.get 30) Z,some 31,tT,some 0,false⟩,
 ⟨fun a Z=>i_mul Tryz.prog 82 (.tmp 31) (.const (.int .u64 11820040416388919761)) (a.get 31) (.int .u64 11820040416388919761) Z,some 32,tT,some 0,false⟩,
 ⟨fun a Z=>fbin0 Tryz.prog .xor 82 (.tmp 20) (.tmp 32) (a.get 20) (a.get 32) Z,some 33,tT,some 0,false⟩,
 ⟨fun a Z=>.val (a.get 33) Z,some 3,tT,some 0,false⟩]
def Amt:List DOp:=ZW ()
def ZX(_:Unit):List COp:=[⟨fun a Z=>.val (a.get 0) Z,some 34,tT⟩,
 ⟨fun a Z=>bI (a.get 34) Z,some 35,tT⟩,
 ⟨fun a Z=>aH 1 (a.get 35) Z,some 36,tT⟩,
 ⟨fun a Z=>aG none (a.get 36) Z,some 37,tT⟩,
 ⟨fun a Z=>i_add Tryz.prog 3 (.tmp 37) (.const (.int .i64 1)) (a.get 37) (.int .i64 1) Z,some 38,tT⟩,
 ⟨fun a Z=>bI (a.get 34) Z,some 39,tT⟩,
 ⟨fun a Z=>aH 1 (a.get 39) Z,some 40,tT⟩,
 ⟨fun a Z=>aK 1 (a.get 40) (a.get 38) Z,none,tT⟩]
def Auy:List COp:=ZX ()
def ZY(_:Unit):List COp:=[⟨fun a Z=>.val (a.get 0) Z,some 41,tT⟩,
 ⟨fun a Z=>.val (a.get 0) Z,some 42,tT⟩,
 ⟨fun a Z=>bI (a.get 42) Z,some 43,tT⟩,
 ⟨fun a Z=>aH 2 (a.get 43) Z,some 44,tT⟩,
 ⟨fun a Z=>aG none (a.get 44) Z,some 45,tT⟩,
 ⟨fun a Z=>.val (a.get 3) Z,some 46,tT⟩,
 ⟨fun a Z=>i_add Tryz.prog 82 (.tmp 45) (.tmp 46) (a.get 45) (a.get 46) Z,some 47,tT⟩,
 ⟨fun a Z=>i_mul Tryz.prog 82 (.tmp 47) (.const (.int .u64 589684135938649225)) (a.get 47) (.int .u64 589684135938649225) Z,some 48,tT⟩,
 ⟨fun a Z=>bI (a.get 41) Z,some 49,tT⟩,
 ⟨fun a Z=>aH 2 (a.get 49) Z,some 50,tT⟩,
 ⟨fun a Z=>aK 1 (a.get 50) (a.get 48) Z,none,tT⟩]
def Auz:List COp:=ZY ()
def ZZ(_:Unit):List DOp:=[⟨fun a Z=>.val (a.get 0) Z,some 51,tT,some 0,false⟩,
 ⟨fun a Z=>.val (a.get 0) Z,some 52,tT,some 0,false⟩,
 ⟨fun a Z=>bI (a.get 52) Z,some 53,tT,some 0,false⟩,
 ⟨fun a Z=>aH 2 (a.get 53) Z,some 54,tT,some 0,false⟩,
 ⟨fun a Z=>aG none (a.get 54) Z,some 55,tT,some 0,false⟩,
 ⟨fun a Z=>.val (a.get 0) Z,some 56,tT,some 0,false⟩,
 ⟨fun a Z=>bI (a.get 56) Z,some 57,tT,some 0,false⟩,
 ⟨fun a Z=>aH 2 (a.get 57) Z,some 58,tT,some 0,false⟩,
 ⟨fun a Z=>aG none (a.get 58) Z,some 59,tT,some 0,false⟩,
 ⟨fun a Z=>fbin0 Tryz.prog .shr 82 (.tmp 59) (.const (.int .u64 32)) (a.get 59) (.int .u64 32) Z,some 60,tT,some 0,false⟩,
 ⟨fun a Z=>fbin0 Tryz.prog .xor 82 (.tmp 55) (.tmp 60) (a.get 55) (a.get 60) Z,some 61,tT,some 0,false⟩,
 ⟨fun a Z=>bI (a.get 51) Z,some 62,tT,some 0,false⟩,
 ⟨fun a Z=>aH 2 (a.get 62) Z,some 63,tT,some 0,false⟩,
 ⟨fun a Z=>aK 1 (a.get 63) (a.get 61) Z,none,tT,none,true⟩]
def AuA:List DOp:=ZZ ()
def Z0(_:Unit):List COp:=[⟨fun a Z=>.val (a.get 0) Z,some 64,tT⟩,
 ⟨fun a Z=>.val (a.get 0) Z,some 65,tT⟩,
 ⟨fun a Z=>bI (a.get 65) Z,some 66,tT⟩,
 ⟨fun a Z=>aH 2 (a.get 66) Z,some 67,tT⟩,
 ⟨fun a Z=>aG none (a.get 67) Z,some 68,tT⟩,
 ⟨fun a Z=>i_mul Tryz.prog 82 (.tmp 68) (.const (.int .u64 4983270260364809079)) (a.get 68) (.int .u64 4983270260364809079) Z,some 69,tT⟩,
 ⟨fun a Z=>bI (a.get 64) Z,some 70,tT⟩,
 ⟨fun a Z=>aH 2 (a.get 70) Z,some 71,tT⟩,
 ⟨fun a Z=>aK 1 (a.get 71) (a.get 69) Z,none,tT⟩]
def AuB:List COp:=Z0 ()
def Z1(_:Unit):List DOp:=[⟨fun a Z=>.val (a.get 0) Z,some 72,tT,some 0,false⟩,
 ⟨fun a Z=>bI (a.get 72) Z,some 73,tT,some 0,false⟩,
 ⟨fun a Z=>aH 2 (a.get 73) Z,some 74,tT,some 0,false⟩,
 ⟨fun a Z=>aG none (a.get 74) Z,some 75,tT,some 0,false⟩,
 ⟨fun a Z=>.val (a.get 0) Z,some 76,tT,some 0,false⟩,
 ⟨fun a Z=>bI (a.get 76) Z,some 77,tT,some 0,false⟩,
 ⟨fun a Z=>aH 2 (a.get 77) Z,some 78,tT,some 0,false⟩,
 ⟨fun a Z=>aG none (a.get 78) Z,some 79,tT,some 0,false⟩,
 ⟨fun a Z=>fbin0 Tryz.prog .shr 82 (.tmp 79) (.const (.int .u64 27)) (a.get 79) (.int .u64 27) Z,some 80,tT,some 0,false⟩,
 ⟨fun a Z=>fbin0 Tryz.prog .xor 82 (.tmp 75) (.tmp 80) (a.get 75) (a.get 80) Z,some 81,tT,some 0,false⟩,
 ⟨fun a Z=>fbin0 Tryz.prog .shr 82 (.tmp 81) (.const (.int .u64 9)) (a.get 81) (.int .u64 9) Z,some 82,tT,some 0,false⟩,
 ⟨fun a Z=>.val (a.get 82) Z,some 2,tT,some 0,false⟩]
def AuC:List DOp:=Z1 ()
def AnG(E:Env)(ro:Option Nat)(fn:FuncId):aZ:=(aF (aD E ro Auw) (aF (aD E ro Aux) (aF (aF (drawR E ro Ams) (aL (fun a=>(a.get 19)) (drawR E ro Amt) aQ)) (aF (aD E ro Auy) (aF (aD E ro Auz) (aF (drawR E ro AuA) (aF (aD E ro AuB) (aF (drawR E ro AuC) bO))))))))
theorem Amq:aD E ro Auw a u Z=aD E ro (ZU ()) a u Z:=rfl
theorem Amr:aD E ro Aux a u Z=aD E ro (ZV ()) a u Z:=rfl
theorem WF:bM E ro last Ams cl a u Z=bM E ro last (Tl ()) cl a u Z:=rfl
theorem Amu:bM E ro last Amt cl a u Z=bM E ro last (ZW ()) cl a u Z:=rfl
theorem Amv:aD E ro Auy a u Z=aD E ro (ZX ()) a u Z:=rfl
theorem Amw:aD E ro Auz a u Z=aD E ro (ZY ()) a u Z:=rfl
theorem Amx:bM E ro last AuA cl a u Z=bM E ro last (ZZ ()) cl a u Z:=rfl
theorem Amy:aD E ro AuB a u Z=aD E ro (Z0 ()) a u Z:=rfl
theorem Amz:bM E ro last AuC cl a u Z=bM E ro last (Z1 ()) cl a u Z:=rfl
theorem AvI(E:Env)(ro:Option Nat)(fn:FuncId):code Tryz.prog nls (Tryz.f76.body.getD .skip) E ro fn=AnG E ro fn:=by kernel_rfl
theorem Apv(E:Env)(args:List Value)(u:Option FrameMode)(Z:aC)(hn:args.length<=(4:Nat)):bA Tryz.prog nls E 76 args u Z=aN Tryz.prog E [.tmp 2] (AnG E none 76 ⟨aY undef 4 args,fun _=>undef,4,83,[]⟩ u Z):=by
 rw[Am (body:=Tryz.f76.body.getD .skip) Tryz.func76 rfl E args u Z 4 83 (by kernel_rfl) rfl ⟨hn,by decide⟩,AvI]
 rfl
def Ss(_:Unit):List COp:=[⟨fun a Z=>.val (.int .i64 0) Z,some 4,tT⟩]
def Asr:List COp:=Ss ()
def Su(_:Unit):List COp:=[⟨fun a Z=>.val (a.get 0) Z,some 6,tT⟩,
 ⟨fun a Z=>.enter 76 [(a.get 6)] Z,some 7,tT⟩,
 ⟨fun a Z=>.val (a.get 7) Z,some 5,tT⟩]
def Ass:List COp:=Su ()
def Sv(_:Unit):List COp:=[⟨fun a Z=>.val (a.get 1) Z,some 8,tT⟩,
 ⟨fun a Z=>i_lss Tryz.prog 3 (.tmp 8) (.const (.int .i64 1)) (a.get 8) (.int .i64 1) Z,some 9,tT⟩]
def Asu:List COp:=Sv ()
def YJ(_:Unit):List COp:=[⟨fun a Z=>.val (.int .i64 0) Z,some 4,tT⟩]
def Asv:List COp:=YJ ()
def YK(_:Unit):List COp:=[⟨fun a Z=>.val (a.get 5) Z,some 10,tT⟩,
 ⟨fun a Z=>.val (a.get 1) Z,some 11,tT⟩,
 ⟨fun a Z=>i_add Tryz.prog 3 (.tmp 11) (.const (.int .i64 1)) (a.get 11) (.int .i64 1) Z,some 12,tT⟩,
 ⟨fun a Z=>fun1 Tryz.prog (convert 3 82) (a.get 12) Z,some 13,tT⟩,
 ⟨fun a Z=>fbin0 Tryz.prog .rem 82 (.tmp 10) (.tmp 13) (a.get 10) (a.get 13) Z,some 14,tT⟩,
 ⟨fun a Z=>fun1 Tryz.prog (convert 82 3) (a.get 14) Z,some 15,tT⟩,
 ⟨fun a Z=>.val (a.get 15) Z,some 4,tT⟩]
def Asw:List COp:=YK ()
def Ank(E:Env)(ro:Option Nat)(fn:FuncId):aZ:=(aF (aD E ro Asr) (aF (aD E ro Ass) (aF (aF (aD E ro Asu) (aL (fun a=>(a.get 9)) (aF (aD E ro Asv) bO) aQ)) (aF (aD E ro Asw) bO))))
theorem VR:aD E ro Asr a u Z=aD E ro (Ss ()) a u Z:=rfl
theorem VS:aD E ro Ass a u Z=aD E ro (Su ()) a u Z:=rfl
theorem VT:aD E ro Asu a u Z=aD E ro (Sv ()) a u Z:=rfl
theorem AkX:aD E ro Asv a u Z=aD E ro (YJ ()) a u Z:=rfl
theorem AkY:aD E ro Asw a u Z=aD E ro (YK ()) a u Z:=rfl
theorem Avh(E:Env)(ro:Option Nat)(fn:FuncId):code Tryz.prog nls (Tryz.f19.body.getD .skip) E ro fn=Ank E ro fn:=by kernel_rfl
theorem Apa(E:Env)(args:List Value)(u:Option FrameMode)(Z:aC)(hn:args.length<=(6:Nat)):bA Tryz.prog nls E 19 args u Z=aN Tryz.prog E [.tmp 4] (Ank E none 19 ⟨aY undef 6 args,fun _=>undef,6,16,[]⟩ u Z):=by
 rw[Am (body:=Tryz.f19.body.getD .skip) Tryz.func19 rfl E args u Z 6 16 (by kernel_rfl) rfl ⟨hn,by decide⟩,Avh]
 rfl
def Y1(_:Unit):List COp:=[⟨fun a Z=>.val (.bool false) Z,some 4,tT⟩]
def As2:List COp:=Y1 ()
def Y2(_:Unit):List COp:=[⟨fun a Z=>.val (a.get 0) Z,some 5,tT⟩,
 ⟨fun a Z=>.val (a.get 1) Z,some 6,tT⟩,
 ⟨fun a Z=>i_sub Tryz.prog 3 (.tmp 6) (.const (.int .i64 1)) (a.get 6) (.int .i64 1) Z,some 7,tT⟩,
 ⟨fun a Z=>.enter 19 [(a.get 5),(a.get 7)] Z,some 8,tT⟩,
 ⟨fun a Z=>bJ Tryz.prog 3 (.tmp 8) (.const (.int .i64 0)) (a.get 8) (.int .i64 0) Z,some 9,tT⟩,
 ⟨fun a Z=>.val (a.get 9) Z,some 4,tT⟩]
def As3:List COp:=Y2 ()
def Ano(E:Env)(ro:Option Nat)(fn:FuncId):aZ:=(aF (aD E ro As2) (aF (aD E ro As3) bO))
theorem Alv:aD E ro As2 a u Z=aD E ro (Y1 ()) a u Z:=rfl
theorem Alw:aD E ro As3 a u Z=aD E ro (Y2 ()) a u Z:=rfl
theorem Avm(E:Env)(ro:Option Nat)(fn:FuncId):code Tryz.prog nls (Tryz.f54.body.getD .skip) E ro fn=Ano E ro fn:=by kernel_rfl
theorem Ape(E:Env)(args:List Value)(u:Option FrameMode)(Z:aC)(hn:args.length<=(4:Nat)):bA Tryz.prog nls E 54 args u Z=aN Tryz.prog E [.tmp 4] (Ano E none 54 ⟨aY undef 4 args,fun _=>undef,4,10,[]⟩ u Z):=by
 rw[Am (body:=Tryz.f54.body.getD .skip) Tryz.func54 rfl E args u Z 4 10 (by kernel_rfl) rfl ⟨hn,by decide⟩,Avm]
 rfl
def Zc(_:Unit):List COp:=[⟨fun a Z=>.val (.int .i64 0) Z,some 6,tT⟩]
def Atg:List COp:=Zc ()
def Zd(_:Unit):List COp:=[⟨fun a Z=>.val (a.get 1) Z,some 7,tT⟩,
 ⟨fun a Z=>.val (a.get 0) Z,some 8,tT⟩,
 ⟨fun a Z=>.val (a.get 2) Z,some 9,tT⟩,
 ⟨fun a Z=>.val (a.get 1) Z,some 10,tT⟩,
 ⟨fun a Z=>i_sub Tryz.prog 3 (.tmp 9) (.tmp 10) (a.get 9) (a.get 10) Z,some 11,tT⟩,
 ⟨fun a Z=>.enter 19 [(a.get 8),(a.get 11)] Z,some 12,tT⟩,
 ⟨fun a Z=>i_add Tryz.prog 3 (.tmp 7) (.tmp 12) (a.get 7) (a.get 12) Z,some 13,tT⟩,
 ⟨fun a Z=>.val (a.get 13) Z,some 6,tT⟩]
def Ath:List COp:=Zd ()
def Anu(E:Env)(ro:Option Nat)(fn:FuncId):aZ:=(aF (aD E ro Atg) (aF (aD E ro Ath) bO))
theorem AlH:aD E ro Atg a u Z=aD E ro (Zc ()) a u Z:=rfl
theorem AlI:aD E ro Ath a u Z=aD E ro (Zd ()) a u Z:=rfl
theorem Avs(E:Env)(ro:Option Nat)(fn:FuncId):code Tryz.prog nls (Tryz.f60.body.getD .skip) E ro fn=Anu E ro fn:=by kernel_rfl
theorem Apk(E:Env)(args:List Value)(u:Option FrameMode)(Z:aC)(hn:args.length<=(6:Nat)):bA Tryz.prog nls E 60 args u Z=aN Tryz.prog E [.tmp 6] (Anu E none 60 ⟨aY undef 6 args,fun _=>undef,6,14,[]⟩ u Z):=by
 rw[Am (body:=Tryz.f60.body.getD .skip) Tryz.func60 rfl E args u Z 6 14 (by kernel_rfl) rfl ⟨hn,by decide⟩,Avs]
 rfl
def Za(_:Unit):List COp:=[⟨fun a Z=>.val (.int .i64 0) Z,some 4,tT⟩]
def Ate:List COp:=Za ()
def Zb(_:Unit):List COp:=[⟨fun a Z=>.val (a.get 1) Z,some 5,tT⟩,
 ⟨fun a Z=>.val (a.get 0) Z,some 6,tT⟩,
 ⟨fun a Z=>.val (a.get 1) Z,some 7,tT⟩,
 ⟨fun a Z=>flenL (a.get 7) Z,some 8,tT⟩,
 ⟨fun a Z=>i_sub Tryz.prog 3 (.tmp 8) (.const (.int .i64 1)) (a.get 8) (.int .i64 1) Z,some 9,tT⟩,
 ⟨fun a Z=>.enter 19 [(a.get 6),(a.get 9)] Z,some 10,tT⟩,
 ⟨fun a Z=>bB (none,1) (a.get 5) (a.get 10) Z,some 11,tT⟩,
 ⟨fun a Z=>aG none (a.get 11) Z,some 12,tT⟩,
 ⟨fun a Z=>.val (a.get 12) Z,some 4,tT⟩]
def Atf:List COp:=Zb ()
def Ant(E:Env)(ro:Option Nat)(fn:FuncId):aZ:=(aF (aD E ro Ate) (aF (aD E ro Atf) bO))
theorem AlF:aD E ro Ate a u Z=aD E ro (Za ()) a u Z:=rfl
theorem AlG:aD E ro Atf a u Z=aD E ro (Zb ()) a u Z:=rfl
theorem Avr(E:Env)(ro:Option Nat)(fn:FuncId):code Tryz.prog nls (Tryz.f59.body.getD .skip) E ro fn=Ant E ro fn:=by kernel_rfl
theorem Apj(E:Env)(args:List Value)(u:Option FrameMode)(Z:aC)(hn:args.length<=(4:Nat)):bA Tryz.prog nls E 59 args u Z=aN Tryz.prog E [.tmp 4] (Ant E none 59 ⟨aY undef 4 args,fun _=>undef,4,13,[]⟩ u Z):=by
 rw[Am (body:=Tryz.f59.body.getD .skip) Tryz.func59 rfl E args u Z 4 13 (by kernel_rfl) rfl ⟨hn,by decide⟩,Avr]
 rfl
def Y7(_:Unit):List COp:=[⟨fun a Z=>.val (.string ⟨#[]⟩) Z,some 4,tT⟩]
def Ata:List COp:=Y7 ()
def Y8(_:Unit):List COp:=[⟨fun a Z=>.val (a.get 1) Z,some 5,tT⟩,
 ⟨fun a Z=>.val (a.get 0) Z,some 6,tT⟩,
 ⟨fun a Z=>.val (a.get 1) Z,some 7,tT⟩,
 ⟨fun a Z=>flenL (a.get 7) Z,some 8,tT⟩,
 ⟨fun a Z=>i_sub Tryz.prog 3 (.tmp 8) (.const (.int .i64 1)) (a.get 8) (.int .i64 1) Z,some 9,tT⟩,
 ⟨fun a Z=>.enter 19 [(a.get 6),(a.get 9)] Z,some 10,tT⟩,
 ⟨fun a Z=>bB (none,1) (a.get 5) (a.get 10) Z,some 11,tT⟩,
 ⟨fun a Z=>aG none (a.get 11) Z,some 12,tT⟩,
 ⟨fun a Z=>.val (a.get 12) Z,some 4,tT⟩]
def Atb:List COp:=Y8 ()
def Anr(E:Env)(ro:Option Nat)(fn:FuncId):aZ:=(aF (aD E ro Ata) (aF (aD E ro Atb) bO))
theorem AlB:aD E ro Ata a u Z=aD E ro (Y7 ()) a u Z:=rfl
theorem AlC:aD E ro Atb a u Z=aD E ro (Y8 ()) a u Z:=rfl
theorem Avp(E:Env)(ro:Option Nat)(fn:FuncId):code Tryz.prog nls (Tryz.f57.body.getD .skip) E ro fn=Anr E ro fn:=by kernel_rfl
theorem Aph(E:Env)(args:List Value)(u:Option FrameMode)(Z:aC)(hn:args.length<=(4:Nat)):bA Tryz.prog nls E 57 args u Z=aN Tryz.prog E [.tmp 4] (Anr E none 57 ⟨aY undef 4 args,fun _=>undef,4,13,[]⟩ u Z):=by
 rw[Am (body:=Tryz.f57.body.getD .skip) Tryz.func57 rfl E args u Z 4 13 (by kernel_rfl) rfl ⟨hn,by decide⟩,Avp]
 rfl
def WG(_:Unit):List COp:=[⟨fun a Z=>aP [(.int .i64 0),(.int .i64 0),(.string ⟨#[]⟩),(.slice none 0 0)] 24 none Z,some 4,tT⟩]
def AwV:List COp:=WG ()
def WJ(_:Unit):List COp:=[⟨fun a Z=>.val (a.get 1) Z,some 7,tT⟩,
 ⟨fun a Z=>i_lss Tryz.prog 3 (.tmp 7) (.const (.int .i64 2)) (a.get 7) (.int .i64 2) Z,some 8,tT⟩,
 ⟨fun a Z=>.val (a.get 8) Z,some 9,tT⟩,
 ⟨fun a Z=>.val (a.get 0) Z,some 10,fun a=>gd (a.get 9) false⟩,
 ⟨fun a Z=>.enter 54 [(a.get 10),(.int .i64 4)] Z,some 11,fun a=>gd (a.get 9) false⟩,
 ⟨fun a Z=>bG (a.get 9) (.bool true) (a.get 11) Z,some 12,tT⟩]
def AwW:List COp:=WJ ()
def NF(_:Unit):List COp:=[⟨fun a Z=>.val (a.get 0) Z,some 13,tT⟩,
 ⟨fun a Z=>.enter 19 [(a.get 13),(.int .i64 6)] Z,some 14,tT⟩]
def AwX:List COp:=NF ()
def NG(_:Unit):List COp:=[⟨fun a Z=>bJ Tryz.prog 3 (.tmp 14) (.const (.int .i64 0)) (a.get 14) (.int .i64 0) Z,some 16,tT⟩,
 ⟨fun a Z=>.val (a.get 16) Z,some 15,tT⟩]
def AwY:List COp:=NG ()
def AmS(_:Unit):List COp:=[⟨fun a Z=>fbuild (fun i=>nth [(0,1),(1,1),(2,1),(3,1)] i) [(.int .i64 0),(.int .i64 0),(.string ⟨#[]⟩),(.slice none 0 0)] [] Z,some 17,tT⟩,
 ⟨fun a Z=>aK 4 (a.get 4) (a.get 17) Z,none,tT⟩]
def AwZ:List COp:=AmS ()
def PJ(_:Unit):List COp:=[⟨fun a Z=>bJ Tryz.prog 3 (.tmp 14) (.const (.int .i64 1)) (a.get 14) (.int .i64 1) Z,some 19,tT⟩,
 ⟨fun a Z=>.val (a.get 19) Z,some 18,tT⟩]
def Aw0:List COp:=PJ ()
def AmT(_:Unit):List COp:=[⟨fun a Z=>.val (a.get 0) Z,some 20,tT⟩,
 ⟨fun a Z=>.enter 54 [(a.get 20),(.int .i64 2)] Z,some 21,tT⟩,
 ⟨fun a Z=>.enter 55 [(a.get 21)] Z,some 22,tT⟩,
 ⟨fun a Z=>aK 4 (a.get 4) (a.get 22) Z,none,tT⟩]
def Aw1:List COp:=AmT ()
def WK(_:Unit):List COp:=[⟨fun a Z=>bJ Tryz.prog 3 (.tmp 14) (.const (.int .i64 2)) (a.get 14) (.int .i64 2) Z,some 24,tT⟩,
 ⟨fun a Z=>.val (a.get 24) Z,some 23,tT⟩]
def Aw2:List COp:=WK ()
def AmU(_:Unit):List COp:=[⟨fun a Z=>.val (a.get 0) Z,some 25,tT⟩,
 ⟨fun a Z=>aX 9 8 1 [(.string ⟨#[]⟩)] [(0,(.string ⟨#[97]⟩)),(1,(.string ⟨#[98]⟩)),(2,(.string ⟨#[120]⟩)),(3,(.string ⟨#[105,102]⟩)),(4,(.string ⟨#[108,105,115,116]⟩)),(5,(.string ⟨#[97,45,98]⟩)),(6,(.string ⟨#[110,117,108,108,63]⟩)),(7,(.string ⟨#[43]⟩))] Z,some 26,tT⟩,
 ⟨fun a Z=>.enter 57 [(a.get 25),(a.get 26)] Z,some 27,tT⟩,
 ⟨fun a Z=>.enter 56 [(a.get 27)] Z,some 28,tT⟩,
 ⟨fun a Z=>aK 4 (a.get 4) (a.get 28) Z,none,tT⟩]
def Aw3:List COp:=AmU ()
def Acf(_:Unit):List COp:=[⟨fun a Z=>bJ Tryz.prog 3 (.tmp 14) (.const (.int .i64 3)) (a.get 14) (.int .i64 3) Z,some 30,tT⟩,
 ⟨fun a Z=>.val (a.get 30) Z,some 29,tT⟩]
def Aw4:List COp:=Acf ()
def Z5(_:Unit):List COp:=[⟨fun a Z=>.val (a.get 0) Z,some 31,tT⟩,
 ⟨fun a Z=>aX 9 5 1 [(.string ⟨#[]⟩)] [(0,(.string ⟨#[]⟩)),(1,(.string ⟨#[97]⟩)),(2,(.string ⟨#[116,119,111,32,119,111,114,100,115]⟩)),(3,(.string ⟨#[113,34,113]⟩)),(4,(.string ⟨#[98,92]⟩))] Z,some 32,tT⟩,
 ⟨fun a Z=>.enter 57 [(a.get 31),(a.get 32)] Z,some 33,tT⟩,
 ⟨fun a Z=>.enter 52 [(a.get 33)] Z,some 34,tT⟩,
 ⟨fun a Z=>aK 4 (a.get 4) (a.get 34) Z,none,tT⟩]
def AmD:List COp:=Z5 ()
def Z6(_:Unit):List COp:=[⟨fun a Z=>.val (a.get 0) Z,some 35,tT⟩,
 ⟨fun a Z=>.val (a.get 0) Z,some 36,tT⟩,
 ⟨fun a Z=>.enter 60 [(a.get 36),(.int .i64 (-20)),(.int .i64 20)] Z,some 37,tT⟩,
 ⟨fun a Z=>.val (a.get 0) Z,some 38,tT⟩,
 ⟨fun a Z=>.enter 60 [(a.get 38),(.int .i64 (-999)),(.int .i64 999)] Z,some 39,tT⟩,
 ⟨fun a Z=>aX 3 5 1 [(.int .i64 0)] [(0,(.int .i64 0)),(1,(.int .i64 1)),(2,(.int .i64 (-1))),(3,(a.get 37)),(4,(a.get 39))] Z,some 40,tT⟩,
 ⟨fun a Z=>.enter 59 [(a.get 35),(a.get 40)] Z,some 41,tT⟩,
 ⟨fun a Z=>.enter 58 [(a.get 41)] Z,some 42,tT⟩,
 ⟨fun a Z=>aK 4 (a.get 4) (a.get 42) Z,none,tT⟩]
def AmF:List COp:=Z6 ()
def Tn(_:Unit):List COp:=[⟨fun a Z=>.val (a.get 0) Z,some 43,tT⟩,
 ⟨fun a Z=>.enter 54 [(a.get 43),(.int .i64 6)] Z,some 44,tT⟩]
def AmH:List COp:=Tn ()
def Z7(_:Unit):List COp:=[⟨fun a Z=>fbuild (fun i=>nth [(0,1),(1,1),(2,1),(3,1)] i) [(.int .i64 0),(.int .i64 0),(.string ⟨#[]⟩),(.slice none 0 0)] [(0,(.int .i64 6))] Z,some 45,tT⟩,
 ⟨fun a Z=>aP [(.int .i64 0),(.int .i64 0),(.string ⟨#[]⟩),(.slice none 0 0)] 24 none Z,some 5,tT⟩,
 ⟨fun a Z=>aK 4 (a.get 5) (a.get 45) Z,none,tT⟩]
def AmI:List COp:=Z7 ()
def Z8(_:Unit):List COp:=[⟨fun a Z=>.val (a.get 0) Z,some 46,tT⟩,
 ⟨fun a Z=>.enter 19 [(a.get 46),(.int .i64 3)] Z,some 47,tT⟩,
 ⟨fun a Z=>.val (a.get 47) Z,some 6,tT⟩]
def AmK:List COp:=Z8 ()
def Tp(_:Unit):List COp:=[⟨fun a Z=>.val (a.get 6) Z,some 48,tT⟩,
 ⟨fun a Z=>i_gtr Tryz.prog 3 (.tmp 48) (.const (.int .i64 0)) (a.get 48) (.int .i64 0) Z,some 49,tT⟩]
def AuG:List COp:=Tp ()
def Z_(_:Unit):List DOp:=[⟨fun a Z=>.val (a.get 0) Z,some 54,tT,some 0,false⟩,
 ⟨fun a Z=>.val (a.get 1) Z,some 55,tT,some 0,false⟩,
 ⟨fun a Z=>i_sub Tryz.prog 3 (.tmp 55) (.const (.int .i64 1)) (a.get 55) (.int .i64 1) Z,some 56,tT,some 0,false⟩,
 ⟨fun a Z=>.enter 8 [(a.get 54),(a.get 56)] Z,some 57,tT,none,false⟩,
 ⟨fun a Z=>aH 3 (a.get 5) Z,some 52,tT,some 0,false⟩,
 ⟨fun a Z=>aG none (a.get 52) Z,some 53,tT,some 0,false⟩,
 ⟨fun a Z=>aX 24 1 4 [(.int .i64 0),(.int .i64 0),(.string ⟨#[]⟩),(.slice none 0 0)] [(0,(a.get 57))] Z,some 58,tT,some 1,false⟩,
 ⟨fun a Z=>fappend 24 4 56 (a.get 53) (a.get 58) Z,some 59,tT,none,true⟩,
 ⟨fun a Z=>aH 3 (a.get 5) Z,some 60,tT,some 2,false⟩,
 ⟨fun a Z=>aK 1 (a.get 60) (a.get 59) Z,none,tT,none,true⟩]
def AuI:List DOp:=Z_ ()
def Z9(_:Unit):List COp:=[⟨fun a Z=>.val (a.get 6) Z,some 50,tT⟩,
 ⟨fun a Z=>i_sub Tryz.prog 3 (.tmp 50) (.const (.int .i64 1)) (a.get 50) (.int .i64 1) Z,some 51,tT⟩,
 ⟨fun a Z=>.val (a.get 51) Z,some 6,tT⟩]
def AuH:List COp:=Z9 ()
def Age(E:Env)(ro:Option Nat)(fn:FuncId):aZ:=(aF (aF (aD E ro AuG) (aL (fun a=>(a.get 49)) aQ (exitR 1))) (aF (aR 2 (drawR E ro AuI)) (aD E ro AuH)))
def Aaa(_:Unit):List COp:=[⟨fun a Z=>aG (some 4) (a.get 5) Z,some 61,tT⟩,
 ⟨fun a Z=>aK 4 (a.get 4) (a.get 61) Z,none,tT⟩]
def AmO:List COp:=Aaa ()
def Aab(_:Unit):List COp:=[⟨fun a Z=>.val (a.get 0) Z,some 62,tT⟩,
 ⟨fun a Z=>.val (a.get 1) Z,some 63,tT⟩,
 ⟨fun a Z=>i_sub Tryz.prog 3 (.tmp 63) (.const (.int .i64 1)) (a.get 63) (.int .i64 1) Z,some 64,tT⟩,
 ⟨fun a Z=>.enter 8 [(a.get 62),(a.get 64)] Z,some 65,tT⟩,
 ⟨fun a Z=>.val (a.get 0) Z,some 66,tT⟩,
 ⟨fun a Z=>.val (a.get 1) Z,some 67,tT⟩,
 ⟨fun a Z=>i_sub Tryz.prog 3 (.tmp 67) (.const (.int .i64 1)) (a.get 67) (.int .i64 1) Z,some 68,tT⟩,
 ⟨fun a Z=>.enter 8 [(a.get 66),(a.get 68)] Z,some 69,tT⟩,
 ⟨fun a Z=>.enter 61 [(a.get 65),(a.get 69)] Z,some 70,tT⟩,
 ⟨fun a Z=>aK 4 (a.get 4) (a.get 70) Z,none,tT⟩]
def AmQ:List COp:=Aab ()
def Aw9(E:Env)(ro:Option Nat)(fn:FuncId):aZ:=(aF (aD E ro AwV) (aF (aF (aD E ro AwW) (aL (fun a=>(a.get 12)) (aF (aF (aD E ro AwX) (aR 0 (aF (aD E ro AwY) (aL (fun a=>(a.get 15)) (aF (aD E ro AwZ) bO) (aF (aD E ro Aw0) (aL (fun a=>(a.get 18)) (aF (aD E ro Aw1) bO) (aF (aD E ro Aw2) (aL (fun a=>(a.get 23)) (aF (aD E ro Aw3) bO) (aF (aD E ro Aw4) (aL (fun a=>(a.get 29)) (aF (aD E ro AmD) bO) aQ)))))))))) (aF (aD E ro AmF) bO)) aQ)) (aF (aF (aD E ro AmH) (aL (fun a=>(a.get 44)) (aF (aD E ro AmI) (aF (aF (aD E ro AmK) (aR 1 (loopR (bH nls fn) (Age E ro fn)))) (aF (aD E ro AmO) bO))) aQ)) (aF (aD E ro AmQ) bO))))
theorem Tm:aD E ro AwV a u Z=aD E ro (WG ()) a u Z:=rfl
theorem Tq:aD E ro AwW a u Z=aD E ro (WJ ()) a u Z:=rfl
theorem JZ:aD E ro AwX a u Z=aD E ro (NF ()) a u Z:=rfl
theorem J0:aD E ro AwY a u Z=aD E ro (NG ()) a u Z:=rfl
theorem Arn:aD E ro AwZ a u Z=aD E ro (AmS ()) a u Z:=rfl
theorem Mj:aD E ro Aw0 a u Z=aD E ro (PJ ()) a u Z:=rfl
theorem Aro:aD E ro Aw1 a u Z=aD E ro (AmT ()) a u Z:=rfl
theorem Tt:aD E ro Aw2 a u Z=aD E ro (WK ()) a u Z:=rfl
theorem Arp:aD E ro Aw3 a u Z=aD E ro (AmU ()) a u Z:=rfl
theorem Acg:aD E ro Aw4 a u Z=aD E ro (Acf ()) a u Z:=rfl
theorem AmE:aD E ro AmD a u Z=aD E ro (Z5 ()) a u Z:=rfl
theorem AmG:aD E ro AmF a u Z=aD E ro (Z6 ()) a u Z:=rfl
theorem WH:aD E ro AmH a u Z=aD E ro (Tn ()) a u Z:=rfl
theorem AmJ:aD E ro AmI a u Z=aD E ro (Z7 ()) a u Z:=rfl
theorem AmL:aD E ro AmK a u Z=aD E ro (Z8 ()) a u Z:=rfl
theorem WI:aD E ro AuG a u Z=aD E ro (Tp ()) a u Z:=rfl
theorem AmN:bM E ro last AuI cl a u Z=bM E ro last (Z_ ()) cl a u Z:=rfl
theorem AmM:aD E ro AuH a u Z=aD E ro (Z9 ()) a u Z:=rfl
theorem AmP:aD E ro AmO a u Z=aD E ro (Aaa ()) a u Z:=rfl
theorem AmR:aD E ro AmQ a u Z=aD E ro (Aab ()) a u Z:=rfl
theorem Axs(E:Env)(ro:Option Nat)(fn:FuncId):code Tryz.prog nls (Tryz.f8.body.getD .skip) E ro fn=Aw9 E ro fn:=by kernel_rfl
theorem AfX(E:Env)(args:List Value)(u:Option FrameMode)(Z:aC)(hn:args.length<=(7:Nat)):bA Tryz.prog nls E 8 args u Z=aN Tryz.prog E [.cell 4 24] (Aw9 E none 8 ⟨aY undef 7 args,fun _=>undef,7,71,[]⟩ u Z):=by
 rw[Am (body:=Tryz.f8.body.getD .skip) Tryz.func8 rfl E args u Z 7 71 (by kernel_rfl) rfl ⟨hn,by decide⟩,Axs]
 rfl
def Am5(_:Unit):List COp:=[⟨fun a Z=>.val (.pointer none) Z,some 2,tT⟩]
def Ayb:List COp:=Am5 ()
def Am6(_:Unit):List COp:=[⟨fun a Z=>.val (a.get 0) Z,some 3,tT⟩,
 ⟨fun a Z=>fbuild (fun i=>nth [(0,1),(1,1),(2,1)] i) [(.slice none 0 0),(.int .i64 0),(.int .u64 0)] [(0,(a.get 3)),(2,(.int .u64 2611923443488327891))] Z,some 4,tT⟩,
 ⟨fun a Z=>fbox 84 (a.get 4) Z,some 5,tT⟩,
 ⟨fun a Z=>.val (a.get 5) Z,some 2,tT⟩]
def Ayc:List COp:=Am6 ()
def Axa(E:Env)(ro:Option Nat)(fn:FuncId):aZ:=(aF (aD E ro Ayb) (aF (aD E ro Ayc) bO))
theorem Arq:aD E ro Ayb a u Z=aD E ro (Am5 ()) a u Z:=rfl
theorem Arr:aD E ro Ayc a u Z=aD E ro (Am6 ()) a u Z:=rfl
theorem Axt(E:Env)(ro:Option Nat)(fn:FuncId):code Tryz.prog nls (Tryz.f9.body.getD .skip) E ro fn=Axa E ro fn:=by kernel_rfl
theorem AvQ(E:Env)(args:List Value)(u:Option FrameMode)(Z:aC)(hn:args.length<=(2:Nat)):bA Tryz.prog nls E 9 args u Z=aN Tryz.prog E [.tmp 2] (Axa E none 9 ⟨aY undef 2 args,fun _=>undef,2,6,[]⟩ u Z):=by
 rw[Am (body:=Tryz.f9.body.getD .skip) Tryz.func9 rfl E args u Z 2 6 (by kernel_rfl) rfl ⟨hn,by decide⟩,Axt]
 rfl
def Y9(_:Unit):List COp:=[⟨fun a Z=>aP [(.int .i64 0),(.int .i64 0),(.string ⟨#[]⟩),(.slice none 0 0)] 24 none Z,some 2,tT⟩]
def Atc:List COp:=Y9 ()
def Y_(_:Unit):List COp:=[⟨fun a Z=>.val (a.get 0) Z,some 3,tT⟩,
 ⟨fun a Z=>fbuild (fun i=>nth [(0,1),(1,1),(2,1),(3,1)] i) [(.int .i64 0),(.int .i64 0),(.string ⟨#[]⟩),(.slice none 0 0)] [(0,(.int .i64 2)),(1,(a.get 3))] Z,some 4,tT⟩,
 ⟨fun a Z=>aK 4 (a.get 2) (a.get 4) Z,none,tT⟩]
def Atd:List COp:=Y_ ()
def Ans(E:Env)(ro:Option Nat)(fn:FuncId):aZ:=(aF (aD E ro Atc) (aF (aD E ro Atd) bO))
theorem AlD:aD E ro Atc a u Z=aD E ro (Y9 ()) a u Z:=rfl
theorem AlE:aD E ro Atd a u Z=aD E ro (Y_ ()) a u Z:=rfl
theorem Avq(E:Env)(ro:Option Nat)(fn:FuncId):code Tryz.prog nls (Tryz.f58.body.getD .skip) E ro fn=Ans E ro fn:=by kernel_rfl
theorem Api(E:Env)(args:List Value)(u:Option FrameMode)(Z:aC)(hn:args.length<=(2:Nat)):bA Tryz.prog nls E 58 args u Z=aN Tryz.prog E [.cell 2 24] (Ans E none 58 ⟨aY undef 2 args,fun _=>undef,2,5,[]⟩ u Z):=by
 rw[Am (body:=Tryz.f58.body.getD .skip) Tryz.func58 rfl E args u Z 2 5 (by kernel_rfl) rfl ⟨hn,by decide⟩,Avq]
 rfl
def Y5(_:Unit):List COp:=[⟨fun a Z=>aP [(.int .i64 0),(.int .i64 0),(.string ⟨#[]⟩),(.slice none 0 0)] 24 none Z,some 2,tT⟩]
def As8:List COp:=Y5 ()
def Y6(_:Unit):List COp:=[⟨fun a Z=>.val (a.get 0) Z,some 3,tT⟩,
 ⟨fun a Z=>fbuild (fun i=>nth [(0,1),(1,1),(2,1),(3,1)] i) [(.int .i64 0),(.int .i64 0),(.string ⟨#[]⟩),(.slice none 0 0)] [(0,(.int .i64 3)),(2,(a.get 3))] Z,some 4,tT⟩,
 ⟨fun a Z=>aK 4 (a.get 2) (a.get 4) Z,none,tT⟩]
def As9:List COp:=Y6 ()
def Anq(E:Env)(ro:Option Nat)(fn:FuncId):aZ:=(aF (aD E ro As8) (aF (aD E ro As9) bO))
theorem Alz:aD E ro As8 a u Z=aD E ro (Y5 ()) a u Z:=rfl
theorem AlA:aD E ro As9 a u Z=aD E ro (Y6 ()) a u Z:=rfl
theorem Avo(E:Env)(ro:Option Nat)(fn:FuncId):code Tryz.prog nls (Tryz.f56.body.getD .skip) E ro fn=Anq E ro fn:=by kernel_rfl
theorem Apg(E:Env)(args:List Value)(u:Option FrameMode)(Z:aC)(hn:args.length<=(2:Nat)):bA Tryz.prog nls E 56 args u Z=aN Tryz.prog E [.cell 2 24] (Anq E none 56 ⟨aY undef 2 args,fun _=>undef,2,5,[]⟩ u Z):=by
 rw[Am (body:=Tryz.f56.body.getD .skip) Tryz.func56 rfl E args u Z 2 5 (by kernel_rfl) rfl ⟨hn,by decide⟩,Avo]
 rfl
def YZ(_:Unit):List COp:=[⟨fun a Z=>aP [(.int .i64 0),(.int .i64 0),(.string ⟨#[]⟩),(.slice none 0 0)] 24 none Z,some 2,tT⟩]
def As0:List COp:=YZ ()
def Y0(_:Unit):List COp:=[⟨fun a Z=>.val (a.get 0) Z,some 3,tT⟩,
 ⟨fun a Z=>fbuild (fun i=>nth [(0,1),(1,1),(2,1),(3,1)] i) [(.int .i64 0),(.int .i64 0),(.string ⟨#[]⟩),(.slice none 0 0)] [(0,(.int .i64 4)),(2,(a.get 3))] Z,some 4,tT⟩,
 ⟨fun a Z=>aK 4 (a.get 2) (a.get 4) Z,none,tT⟩]
def As1:List COp:=Y0 ()
def Ann(E:Env)(ro:Option Nat)(fn:FuncId):aZ:=(aF (aD E ro As0) (aF (aD E ro As1) bO))
theorem Alt:aD E ro As0 a u Z=aD E ro (YZ ()) a u Z:=rfl
theorem Alu:aD E ro As1 a u Z=aD E ro (Y0 ()) a u Z:=rfl
theorem Avl(E:Env)(ro:Option Nat)(fn:FuncId):code Tryz.prog nls (Tryz.f52.body.getD .skip) E ro fn=Ann E ro fn:=by kernel_rfl
theorem Apd(E:Env)(args:List Value)(u:Option FrameMode)(Z:aC)(hn:args.length<=(2:Nat)):bA Tryz.prog nls E 52 args u Z=aN Tryz.prog E [.cell 2 24] (Ann E none 52 ⟨aY undef 2 args,fun _=>undef,2,5,[]⟩ u Z):=by
 rw[Am (body:=Tryz.f52.body.getD .skip) Tryz.func52 rfl E args u Z 2 5 (by kernel_rfl) rfl ⟨hn,by decide⟩,Avl]
 rfl
def SG(_:Unit):List COp:=[⟨fun a Z=>aP [(.int .i64 0),(.int .i64 0),(.string ⟨#[]⟩),(.slice none 0 0)] 24 none Z,some 2,tT⟩]
def As4:List COp:=SG ()
def SH(_:Unit):List COp:=[⟨fun a Z=>.val (a.get 0) Z,some 3,tT⟩]
def As5:List COp:=SH ()
def Y3(_:Unit):List COp:=[⟨fun a Z=>fbuild (fun i=>nth [(0,1),(1,1),(2,1),(3,1)] i) [(.int .i64 0),(.int .i64 0),(.string ⟨#[]⟩),(.slice none 0 0)] [(0,(.int .i64 1)),(1,(.int .i64 1))] Z,some 4,tT⟩,
 ⟨fun a Z=>aK 4 (a.get 2) (a.get 4) Z,none,tT⟩]
def As6:List COp:=Y3 ()
def Y4(_:Unit):List COp:=[⟨fun a Z=>fbuild (fun i=>nth [(0,1),(1,1),(2,1),(3,1)] i) [(.int .i64 0),(.int .i64 0),(.string ⟨#[]⟩),(.slice none 0 0)] [(0,(.int .i64 1))] Z,some 5,tT⟩,
 ⟨fun a Z=>aK 4 (a.get 2) (a.get 5) Z,none,tT⟩]
def As7:List COp:=Y4 ()
def Anp(E:Env)(ro:Option Nat)(fn:FuncId):aZ:=(aF (aD E ro As4) (aF (aF (aD E ro As5) (aL (fun a=>(a.get 3)) (aF (aD E ro As6) bO) aQ)) (aF (aD E ro As7) bO)))
theorem V5:aD E ro As4 a u Z=aD E ro (SG ()) a u Z:=rfl
theorem V6:aD E ro As5 a u Z=aD E ro (SH ()) a u Z:=rfl
theorem Alx:aD E ro As6 a u Z=aD E ro (Y3 ()) a u Z:=rfl
theorem Aly:aD E ro As7 a u Z=aD E ro (Y4 ()) a u Z:=rfl
theorem Avn(E:Env)(ro:Option Nat)(fn:FuncId):code Tryz.prog nls (Tryz.f55.body.getD .skip) E ro fn=Anp E ro fn:=by kernel_rfl
theorem Apf(E:Env)(args:List Value)(u:Option FrameMode)(Z:aC)(hn:args.length<=(2:Nat)):bA Tryz.prog nls E 55 args u Z=aN Tryz.prog E [.cell 2 24] (Anp E none 55 ⟨aY undef 2 args,fun _=>undef,2,6,[]⟩ u Z):=by
 rw[Am (body:=Tryz.f55.body.getD .skip) Tryz.func55 rfl E args u Z 2 6 (by kernel_rfl) rfl ⟨hn,by decide⟩,Avn]
 rfl
def Ze(_:Unit):List COp:=[⟨fun a Z=>fbox 24 (a.get 0) Z,some 2,tT⟩,
 ⟨fun a Z=>fbox 24 (a.get 1) Z,some 3,tT⟩,
 ⟨fun a Z=>aP [(.int .i64 0),(.int .i64 0),(.string ⟨#[]⟩),(.slice none 0 0)] 24 none Z,some 4,tT⟩]
def Ati:List COp:=Ze ()
def Zf(_:Unit):List COp:=[⟨fun a Z=>aG (some 4) (a.get 2) Z,some 5,tT⟩,
 ⟨fun a Z=>aG (some 4) (a.get 3) Z,some 6,tT⟩,
 ⟨fun a Z=>aX 24 2 4 [(.int .i64 0),(.int .i64 0),(.string ⟨#[]⟩),(.slice none 0 0)] [(0,(a.get 5)),(1,(a.get 6))] Z,some 7,tT⟩,
 ⟨fun a Z=>fbuild (fun i=>nth [(0,1),(1,1),(2,1),(3,1)] i) [(.int .i64 0),(.int .i64 0),(.string ⟨#[]⟩),(.slice none 0 0)] [(0,(.int .i64 5)),(3,(a.get 7))] Z,some 8,tT⟩,
 ⟨fun a Z=>aK 4 (a.get 4) (a.get 8) Z,none,tT⟩]
def Atj:List COp:=Zf ()
def Anv(E:Env)(ro:Option Nat)(fn:FuncId):aZ:=(aF (aD E ro Ati) (aF (aD E ro Atj) bO))
theorem AlJ:aD E ro Ati a u Z=aD E ro (Ze ()) a u Z:=rfl
theorem AlK:aD E ro Atj a u Z=aD E ro (Zf ()) a u Z:=rfl
theorem Avt(E:Env)(ro:Option Nat)(fn:FuncId):code Tryz.prog nls (Tryz.f61.body.getD .skip) E ro fn=Anv E ro fn:=by kernel_rfl
theorem Apl(E:Env)(args:List Value)(u:Option FrameMode)(Z:aC)(hn:args.length<=(4:Nat)):bA Tryz.prog nls E 61 args u Z=aN Tryz.prog E [.cell 4 24] (Anv E none 61 ⟨aY undef 4 args,fun _=>undef,4,9,[]⟩ u Z):=by
 rw[Am (body:=Tryz.f61.body.getD .skip) Tryz.func61 rfl E args u Z 4 9 (by kernel_rfl) rfl ⟨hn,by decide⟩,Avt]
 rfl
end
section
open Go Go.Eng
attribute [local congr] Aa
def Ints(Z:aC)(p:Option Addr)(l:List Int):Prop:=∀(i:Nat) (n:Int),l[i]? = some n->∃b off cs,p=some ⟨b,off,none⟩/\Z.cells b=some cs/\cs[off+i]? = some (.int .i64 n)
def Coil(Z:aC)(x k:Nat):Prop:=∃p l cp m ver,Z.heap.get x=some ⟨.cells [.slice p l.length cp,.int .i64 (.ofNat k),.int .u64 m] 84,false,none,ver⟩/\Ints Z p l/\l.length<9223372036854775808/\∀a,p=some a->a.block<x
theorem ArH(n:Nat)(x k:Nat)(hk:k<1000000000000)(Z:aC)(hw:Wf Z)(hC:Coil Z x k):
  ∃m V,(env (n+1)).call 76 [.pointer (some ⟨x,0,none⟩)] none Z=.ret (.int .u64 m) none V/\0<=m/\m<18446744073709551616/\ExtC x Z V/\Wf V/\Coil V x (k+1):=by
 obtain⟨p,l,cp,m,ver,hc,hl,hll,hp⟩:=hC
 rw[Ai _ 76 _ _ rfl,Apv _ _ _ _ (by simp),Ah]
 unfold AnG
 have hcc:Z.cells x=some [.slice p l.length cp,.int .i64 (.ofNat k),.int .u64 m]:=by rw[Av,hc];rfl
 have hv:=D1 hw (Nat.le_refl _)
 have cv1:∀n Z,fun1 Tryz.prog (convert 3 82) (.int .i64 n) Z=.val (.int .u64 (IntKind.u64.wrap n)) Z:=fun n Z=>by kernel_rfl
 have hx:x<Z.next:=(hw x _ hc).1
 have hwr:wrapI (Int.ofNat k+1)=Int.ofNat (k+1):=by
  rw[DV (by rw[Int.ofNat_eq_natCast];omega)];rfl
 have part1:∀(f g:Nat->Value) (Y:Int),f 0=.pointer (some ⟨x,0,none⟩)->f 3=.int .u64 Y->∃f1 g1 X,
   andThen (bM (env n) none (fun _ a u Z=>.done .normal a u Z) Ams [Z.clock] (Sl 4 83 f g []) none Z) (aL (fun a=>a.get 19) (drawR (env n) none Amt) aQ)=.done .normal (Sl 4 83 f1 g1 []) none Z/\
   f1 0=.pointer (some ⟨x,0,none⟩)/\f1 3=.int .u64 X:=by
  intro f g Y p0 p3
  by_cases hlt:k<l.length
  .have hd:decide (Int.ofNat k<Int.ofNat l.length)=true:=by simp;omega
   obtain⟨b,off,cs,rfl,hcs,hci⟩:=hl k l[k] (List.getElem?_eq_getElem hlt)
   simp -implicitDefEqProofs only[go_sem,WF,Tl,Amu,ZW,p0,p3,hcc,hv,cv1,hd,hlt,hcs,hci]
   exact⟨_,_,_,rfl,by simp -implicitDefEqProofs only[go_sem,reduceCtorEq,p0],by simp -implicitDefEqProofs only[go_sem,reduceCtorEq]<;>rfl⟩
  .have hd:decide (Int.ofNat k<Int.ofNat l.length)=false:=by simp;omega
   simp -implicitDefEqProofs only[go_sem,WF,Tl,p0,p3,hcc,hv,cv1,hd]
   exact⟨_,_,_,rfl,p0,p3⟩
 have put_step:∀(τ:aC) (c:List Value),Wf τ->ExtC x Z τ->Wf (τ.put x (.cells c 84) none)/\ExtC x Z (τ.put x (.cells c 84) none)/\(τ.put x (.cells c 84) none).heap.get x=some ⟨.cells c 84,false,none,τ.clock⟩/\(τ.put x (.cells c 84) none).clock=τ.clock+1:=fun τ c h1 h2=>
  ⟨h1.put _ _ _ (Nat.lt_of_lt_of_le hx h2.next),h2.put _ _,by rw[Ak,if_pos rfl],rfl⟩
 simp -implicitDefEqProofs only[go_sem,Amq,ZU,Amr,ZV,hcc,cv1]
 generalize hf:upd _ _ _=f0
 generalize hg:upd _ _ _=g0
 obtain⟨f1,g1,X,e1,p0,p3⟩:=part1 f0 g0 _ (by rw[<-hf];simp -implicitDefEqProofs only[go_sem,reduceCtorEq]) (by rw[<-hf];simp -implicitDefEqProofs only[go_sem,reduceCtorEq]<;>rfl)
 clear hf hg
 rw[e1]
 simp -implicitDefEqProofs only[go_sem,Amv,ZX,p0,p3,hcc,hc,hwr]
 obtain⟨w1,x1,c1,k1⟩:=put_step Z [.slice p l.length cp,.int .i64 (.ofNat (k+1)),.int .u64 m] hw (ExtC.refl _ _)
 generalize aC.put Z x _ _=bS at w1 x1 c1 k1 ⊢
 have d1:=AB c1
 generalize upd g1 _ _=g2
 simp -implicitDefEqProofs only[go_sem,Amw,ZY,p0,p3,d1,c1]
 obtain⟨w2,x2,c2,k2⟩:=put_step bS [.slice p l.length cp,.int .i64 (.ofNat (k+1)),.int .u64 (IntKind.u64.wrap (IntKind.u64.wrap (m+X)*589684135938649225))] w1 x1
 generalize aC.put bS x _ _=a_ at w2 x2 c2 k2 ⊢
 generalize IntKind.u64.wrap (IntKind.u64.wrap (m+X)*589684135938649225)=m2 at c2 ⊢
 have d2:=AB c2
 have v2:=D1 (lam:=bS.clock+1) w2 (Nat.le_of_eq k2)
 generalize upd _ _ _=g3
 simp -implicitDefEqProofs only[go_sem,Amx,ZZ,p0,p3,d2,c2,v2]
 obtain⟨w3,x3,c3,k3⟩:=put_step a_ [.slice p l.length cp,.int .i64 (.ofNat (k+1)),.int .u64 (xorI m2 (m2.fdiv 4294967296))] w2 x2
 generalize aC.put a_ x _ _=bT at w3 x3 c3 k3 ⊢
 generalize xorI m2 (m2.fdiv 4294967296)=m3 at c3 ⊢
 have d3:=AB c3
 generalize upd _ _ _=g4
 simp -implicitDefEqProofs only[go_sem,Amy,Z0,p0,p3,d3,c3]
 obtain⟨w4,x4,c4,k4⟩:=put_step bT [.slice p l.length cp,.int .i64 (.ofNat (k+1)),.int .u64 (IntKind.u64.wrap (m3*4983270260364809079))] w3 x3
 generalize aC.put bT x _ _=bW at w4 x4 c4 k4 ⊢
 generalize IntKind.u64.wrap (m3*4983270260364809079)=m4 at c4 ⊢
 have d4:=AB c4
 have v4:=D1 (lam:=bT.clock+1) w4 (Nat.le_of_eq k4)
 generalize upd _ _ _=g5
 simp -implicitDefEqProofs only[go_sem,Amz,Z1,p0,p3,d4,c4,v4]
 refine⟨_,_,rfl,?_,?_,x4,w4,p,l,cp,m4,_,c4,?_,hll,hp⟩
 .have:=N_ m4 (m4.fdiv 134217728)
  rw[Int.fdiv_eq_ediv_of_nonneg _ (by omega)]
  omega
 .have:=N_ m4 (m4.fdiv 134217728)
  rw[Int.fdiv_eq_ediv_of_nonneg _ (by omega)]
  omega
 .intro i z hi
  obtain⟨b,off,cs,hb,h1,h2⟩:=hl i z hi
  exact⟨b,off,cs,hb,(x4.cells (hw.cells h1) (Nat.ne_of_lt (hp _ hb))).trans h1,h2⟩
structure Wound (x k k':Nat) (Z V:aC):Prop where
 ext:ExtC x Z V
 wf:Wf V
 coil:Coil V x k'
theorem PZ(n:Nat)(x k:Nat)(m:Int)(hm:m<1000000)(hk:k<1000000000000)(Z:aC)(hw:Wf Z)(hC:Coil Z x k):
  ∃r V,(env (n+2)).call 19 [.pointer (some ⟨x,0,none⟩),.int .i64 m] none Z=.ret (.int .i64 r) none V/\0<=r/\(r<=m\/r=0)/\Wound x k (k+1) Z V:=by
 obtain⟨w,bS,e,h0,h1,hx,hw1,hC1⟩:=ArH n x k hk Z hw hC
 have cv1:∀n Z,fun1 Tryz.prog (convert 3 82) (.int .i64 n) Z=.val (.int .u64 (IntKind.u64.wrap n)) Z:=fun n Z=>by kernel_rfl
 have cv2:∀n Z,fun1 Tryz.prog (convert 82 3) (.int .u64 n) Z=.val (.int .i64 (IntKind.i64.wrap n)) Z:=fun n Z=>by kernel_rfl
 rw[Ai _ 19 _ _ rfl,Apa _ _ _ _ (by simp),Ah]
 unfold Ank
 by_cases hlt:m<1
 .have hd:decide (m<1)=true:=by simpa using hlt
  simp -implicitDefEqProofs only[go_sem,VR,Ss,VS,Su,VT,Sv,AkX,YJ,e,hd]
  exact⟨_,_,rfl,Int.le_refl _,.inr rfl,hx,hw1,hC1⟩
 .have hd:decide (m<1)=false:=by simpa using hlt
  have hwr:wrapI (m+1)=m+1:=DV (by omega)
  have hu:IntKind.u64.wrap (m+1)=m+1:=An6 (by omega)
  have hr:=fun(x y:Operand) (Z:aC)=>Art Tryz.prog 82 x y w (m+1) Z (by omega)
  have ht:w.tmod (m+1)=w % (m+1):=Int.tmod_eq_emod_of_nonneg h0
  have hlo:=Int.emod_nonneg w (show m+1≠0 by omega)
  have hhi:=Int.emod_lt_of_pos w (show 0<m+1 by omega)
  have hs:IntKind.i64.wrap (w % (m+1))=w % (m+1):=An5 (by omega)
  simp -implicitDefEqProofs only[go_sem,VR,Ss,VS,Su,VT,Sv,AkY,YK,e,hd,hwr,cv1,cv2,hu,hr,ht,hs]
  exact⟨_,_,rfl,hlo,.inl (by omega),hx,hw1,hC1⟩
theorem QG(n:Nat)(x k:Nat)(m:Int)(hm:1<=m/\m<1000000)(hk:k<1000000000000)(Z:aC)(hw:Wf Z)(hC:Coil Z x k):
  ∃r V,(env (n+3)).call 54 [.pointer (some ⟨x,0,none⟩),.int .i64 m] none Z=.ret (.bool r) none V/\Wound x k (k+1) Z V:=by
 obtain⟨w,bS,e,h0,h1,hW⟩:=PZ n x k (m-1) (by omega) hk Z hw hC
 rw[Ai _ 54 _ _ rfl,Ape _ _ _ _ (by simp),Ah]
 unfold Ano
 have hwr:wrapI (m-1)=m-1:=DV (by omega)
 simp -implicitDefEqProofs only[go_sem,Alv,Y1,Alw,Y2,hwr,e]
 exact⟨_,_,rfl,hW⟩
theorem Abg(n:Nat)(x k:Nat)(lo hi:Int)(hm : -1000000<lo/\lo<=hi/\hi<1000000/\hi-lo<1000000)(hk:k<1000000000000)(Z:aC)(hw:Wf Z)(hC:Coil Z x k):
  ∃r V,(env (n+3)).call 60 [.pointer (some ⟨x,0,none⟩),.int .i64 lo,.int .i64 hi] none Z=.ret (.int .i64 r) none V/\lo<=r/\r<=hi/\Wound x k (k+1) Z V:=by
 obtain⟨w,bS,e,h0,h1,hW⟩:=PZ n x k (hi-lo) (by omega) hk Z hw hC
 rw[Ai _ 60 _ _ rfl,Apk _ _ _ _ (by simp),Ah]
 unfold Anu
 have hwr:wrapI (hi-lo)=hi-lo:=DV (by omega)
 have hwr2:wrapI (lo+w)=lo+w:=DV (by omega)
 simp -implicitDefEqProofs only[go_sem,AlH,Zc,AlI,Zd,hwr,e,hwr2]
 exact⟨_,_,rfl,by omega,by omega,hW⟩
theorem Av6(n:Nat)(x k:Nat)(b off len c:Nat)(cs:List Value)(hl:1<=len/\len<1000000)(hk:k<1000000000000)(Z:aC)(hw:Wf Z)(hC:Coil Z x k)(hc:Z.cells b=some cs)(hb:b≠x)(hcs:off+len<=cs.length):
  ∃i v V,(env (n+3)).call 59 [.pointer (some ⟨x,0,none⟩),.slice (some ⟨b,off,none⟩) len c] none Z=.ret v none V/\i<len/\cs[off+i]? = some v/\Wound x k (k+1) Z V:=by
 obtain⟨w,bS,e,h0,h1,hW⟩:=PZ n x k (Int.ofNat len-1) (by rw[Int.ofNat_eq_natCast];omega) hk Z hw hC
 obtain⟨i,rfl⟩:∃i:Nat,w=Int.ofNat i:=⟨w.toNat,by rw[Int.ofNat_eq_natCast];omega⟩
 have hi:i<len:=by rw[Int.ofNat_eq_natCast,Int.ofNat_eq_natCast] at h1;omega
 rw[Ai _ 59 _ _ rfl,Apj _ _ _ _ (by simp),Ah]
 unfold Ant
 have hwr:wrapI (Int.ofNat len-1)=Int.ofNat len-1:=DV (by rw[Int.ofNat_eq_natCast];omega)
 have hc1:bS.cells b=some cs:=(hW.ext.cells (hw.cells hc) hb).trans hc
 have hv:cs[off+i]? = some cs[off+i]:=List.getElem?_eq_getElem (by omega)
 simp -implicitDefEqProofs only[go_sem,AlF,Za,AlG,Zb,hwr,e,hi,hc1,hv]
 exact⟨i,_,_,rfl,hi,hv,hW⟩
theorem Acr(n:Nat)(x k:Nat)(b off len c:Nat)(cs:List Value)(hl:1<=len/\len<1000000)(hk:k<1000000000000)(Z:aC)(hw:Wf Z)(hC:Coil Z x k)(hc:Z.cells b=some cs)(hb:b≠x)(hcs:off+len<=cs.length):
  ∃i v V,(env (n+3)).call 57 [.pointer (some ⟨x,0,none⟩),.slice (some ⟨b,off,none⟩) len c] none Z=.ret v none V/\i<len/\cs[off+i]? = some v/\Wound x k (k+1) Z V:=by
 obtain⟨w,bS,e,h0,h1,hW⟩:=PZ n x k (Int.ofNat len-1) (by rw[Int.ofNat_eq_natCast];omega) hk Z hw hC
 obtain⟨i,rfl⟩:∃i:Nat,w=Int.ofNat i:=⟨w.toNat,by rw[Int.ofNat_eq_natCast];omega⟩
 have hi:i<len:=by rw[Int.ofNat_eq_natCast,Int.ofNat_eq_natCast] at h1;omega
 rw[Ai _ 57 _ _ rfl,Aph _ _ _ _ (by simp),Ah]
 unfold Anr
 have hwr:wrapI (Int.ofNat len-1)=Int.ofNat len-1:=DV (by rw[Int.ofNat_eq_natCast];omega)
 have hc1:bS.cells b=some cs:=(hW.ext.cells (hw.cells hc) hb).trans hc
 have hv:cs[off+i]? = some cs[off+i]:=List.getElem?_eq_getElem (by omega)
 simp -implicitDefEqProofs only[go_sem,AlB,Y7,AlC,Y8,hwr,e,hi,hc1,hv]
 exact⟨i,_,_,rfl,hi,hv,hW⟩
end
section
open Go Go.Eng
attribute [local congr] Aa Af Ad Ab Ac
attribute [-go_sem] List.range_succ
theorem Ep:aggSize Tryz.prog 24=some (some 4):=by kernel_rfl
theorem Av5(n:Nat)(z:Int)(Z:aC)(hw:Wf Z):
  Gives ((env (n+1)).call 58 [.int .i64 z] none Z) Z fun v _=>v=.agg #[.int .i64 2,.int .i64 z,.string ⟨#[]⟩,.slice none 0 0]:=by
 rw[Ai _ 58 _ _ rfl,Api _ _ _ _ (by simp),Ah]
 unfold Ans
 simp -implicitDefEqProofs only[go_sem,AP,AlD,Y9,AlE,Y_,Ep]
 exact⟨_,_,rfl,((Ext.refl Z).push _ _).put _ _ _ (Nat.le_refl _),(hw.push _ _).put _ _ _ (Nat.lt_succ_self _),rfl⟩
theorem Axe(n:Nat)(s:ByteArray)(Z:aC)(hw:Wf Z):
  Gives ((env (n+1)).call 56 [.string s] none Z) Z fun v _=>v=.agg #[.int .i64 3,.int .i64 0,.string s,.slice none 0 0]:=by
 rw[Ai _ 56 _ _ rfl,Apg _ _ _ _ (by simp),Ah]
 unfold Anq
 simp -implicitDefEqProofs only[go_sem,AP,Alz,Y5,AlA,Y6,Ep]
 exact⟨_,_,rfl,((Ext.refl Z).push _ _).put _ _ _ (Nat.le_refl _),(hw.push _ _).put _ _ _ (Nat.lt_succ_self _),rfl⟩
theorem Axc(n:Nat)(s:ByteArray)(Z:aC)(hw:Wf Z):
  Gives ((env (n+1)).call 52 [.string s] none Z) Z fun v _=>v=.agg #[.int .i64 4,.int .i64 0,.string s,.slice none 0 0]:=by
 rw[Ai _ 52 _ _ rfl,Apd _ _ _ _ (by simp),Ah]
 unfold Ann
 simp -implicitDefEqProofs only[go_sem,AP,Alt,YZ,Alu,Y0,Ep]
 exact⟨_,_,rfl,((Ext.refl Z).push _ _).put _ _ _ (Nat.le_refl _),(hw.push _ _).put _ _ _ (Nat.lt_succ_self _),rfl⟩
theorem Aoe(n:Nat)(b:Bool)(Z:aC)(hw:Wf Z):
  Gives ((env (n+1)).call 55 [.bool b] none Z) Z fun v _=>v=.agg #[.int .i64 1,.int .i64 (if b=true then 1 else 0),.string ⟨#[]⟩,.slice none 0 0]:=by
 rw[Ai _ 55 _ _ rfl,Apf _ _ _ _ (by simp),Ah]
 unfold Anp
 cases b with
 | true=>
  simp -implicitDefEqProofs only[go_sem,AP,V5,SG,V6,SH,Alx,Y3,Ep]
  exact⟨_,_,rfl,((Ext.refl Z).push _ _).put _ _ _ (Nat.le_refl _),(hw.push _ _).put _ _ _ (Nat.lt_succ_self _),rfl⟩
 | false=>
  simp -implicitDefEqProofs only[go_sem,AP,V5,SG,V6,SH,Aly,Y4,Ep]
  exact⟨_,_,rfl,((Ext.refl Z).push _ _).put _ _ _ (Nat.le_refl _),(hw.push _ _).put _ _ _ (Nat.lt_succ_self _),rfl⟩
def symTexts:List ByteArray:=[⟨#[97]⟩,⟨#[98]⟩,⟨#[120]⟩,⟨#[105,102]⟩,⟨#[108,105,115,116]⟩,⟨#[97,45,98]⟩,⟨#[110,117,108,108,63]⟩,⟨#[43]⟩]
def strTexts:List ByteArray:=[⟨#[]⟩,⟨#[97]⟩,⟨#[116,119,111,32,119,111,114,100,115]⟩,⟨#[113,34,113]⟩,⟨#[98,92]⟩]
inductive Leaf:D->Prop
 | nil:Leaf (.mk 0 0 ⟨#[]⟩ [])
 | bool (b:Bool):Leaf (.mk 1 (if b=true then 1 else 0) ⟨#[]⟩ [])
 | num (z:Int) (h : -999<=z/\z<=999):Leaf (.mk 2 z ⟨#[]⟩ [])
 | sym (t:ByteArray) (h:t∈symTexts):Leaf (.mk 3 0 t [])
 | str (t:ByteArray) (h:t∈strTexts):Leaf (.mk 4 0 t [])
inductive Made:Nat->D->Prop
 | leaf (L:Nat) (d:D) (h:Leaf d):Made L d
 | pair (L:Nat) (a b:D) (ha:Made L a) (hb:Made L b):Made (L+1) (.mk 5 0 ⟨#[]⟩ [a,b])
 | vec (L:Nat) (l:List D) (hl:l.length<=3) (h:∀d,d∈l->Made L d):Made (L+1) (.mk 6 0 ⟨#[]⟩ l)
theorem Coil.cells{Z:aC}{x k:Nat}(h:Coil Z x k):∃c3,Z.cells x=some c3/\c3.length<4:=by
 obtain⟨p,l,cp,m,ver,hc,_⟩:=h
 exact⟨_,AB hc,by simp⟩
theorem Coil.low{Z V:aC}{x k:Nat}(h:Coil Z x k)(hx:∀b,b<=x->V.heap.get b=Z.heap.get b):Coil V x k:=by
 obtain⟨p,l,cp,m,ver,hc,hl,hll,hp⟩:=h
 refine⟨p,l,cp,m,ver,(hx x (Nat.le_refl _)).trans hc,?_,hll,hp⟩
 intro i z hi
 obtain⟨b,off,cs,hb,h1,h2⟩:=hl i z hi
 refine⟨b,off,cs,hb,?_,h2⟩
 rw[Av,hx b (Nat.le_of_lt (hp _ hb)),<-Av]
 exact h1
theorem Coil.put{Z:aC}{x k:Nat}(h:Coil Z x k)(b:Nat)(hb:x<b)(o:FObj)(fz:Option Nat):Coil (Z.put b o fz) x k:=h.low fun c hc=>by
 rw[Ak,if_neg (by omega)]
theorem Coil.ext{Z V:aC}{x k:Nat}(hw:Wf Z)(h:Coil Z x k)(hx:Ext Z V):Coil V x k:=by
 obtain⟨p,l,cp,m,ver,hc,r⟩:=h
 have hlt:=(hw x _ hc).1
 exact Coil.low ⟨p,l,cp,m,ver,hc,r⟩ fun b hb=>hx.get b (by omega)
def LeafIn(x k K bo:Nat)(bU:aC)(r:KRes):Prop:=∃f g V kd n t k',r=.done .ret (Sl 7 71 f g []) none V/\f 4=.pointer (some ⟨bo,0,none⟩)/\
 (∃ver,V.heap.get bo=some ⟨.cells [.int .i64 kd,.int .i64 n,.string t,.slice none 0 0] 24,false,none,ver⟩)/\Leaf (.mk kd n t [])/\ExtC x bU V/\Wf V/\Coil V x k'/\k<=k'/\k'<=K
def leaf8(E:Env)(ro:Option Nat):aZ:=(aF (aF (aD E ro AwX) (aR 0 (aF (aD E ro AwY) (aL (fun a=>(a.get 15)) (aF (aD E ro AwZ) bO) (aF (aD E ro Aw0) (aL (fun a=>(a.get 18)) (aF (aD E ro Aw1) bO) (aF (aD E ro Aw2) (aL (fun a=>(a.get 23)) (aF (aD E ro Aw3) bO) (aF (aD E ro Aw4) (aL (fun a=>(a.get 29)) (aF (aD E ro AmD) bO) aQ)))))))))) (aF (aD E ro AmF) bO))
theorem Vl(n x k bo:Nat)(hk:k<100000000000)(bU Z:aC)(f g:Nat->Value)(h0:f 0=.pointer (some ⟨x,0,none⟩))(h4:f 4=.pointer (some ⟨bo,0,none⟩))(hw:Wf Z)(hC:Coil Z x k)(hX:ExtC x bU Z)(hbo:bU.next<=bo)(hbx:x<bo)(ver:Nat)(z0 z1 z2 z3:Value)(hb:Z.heap.get bo=some ⟨.cells [z0,z1,z2,z3] 24,false,none,ver⟩):
  LeafIn x k (k+4) bo bU (leaf8 (env (n+3)) none (Sl 7 71 f g []) none Z):=by
 obtain⟨w,bS,e,w0,w1,hX1,hw1,hC1⟩:=PZ (n+1) x k 6 (by omega) (by omega) Z hw hC
 have hne:bo≠x:=by omega
 unfold leaf8
 have hb1:bS.heap.get bo=some ⟨.cells [z0,z1,z2,z3] 24,false,none,ver⟩:=(hX1.get bo (hw bo _ hb).1 hne).trans hb
 have fin:∀(τ:aC) (ver' k':Nat) (y:List Value) (kd m:Int) (t:ByteArray),ExtC x bS τ->Wf τ->Coil τ x k'->τ.heap.get bo=some ⟨.cells y 24,false,none,ver'⟩->k<=k'->k'<=k+4->Leaf (.mk kd m t [])->∀g',
   LeafIn x k (k+4) bo bU (.done .ret (Sl 7 71 f g' []) none (τ.put bo (.cells [.int .i64 kd,.int .i64 m,.string t,.slice none 0 0] 24) none)):=fun τ ver' k' y kd m t a1 a2 a3 a4 a5 a6 a7 g'=>
  ⟨f,g',_,kd,m,t,k',rfl,h4,⟨_,by rw[Ak,if_pos rfl]⟩,a7,((hX.trans hX1).trans a1).putNew _ _ _ hbo,a2.put _ _ _ (a2 _ _ a4).1,a3.put _ hbx _ _,a5,a6⟩
 by_cases c0:w=0
 .subst c0
  have d0:((0:Int)==0)=true:=rfl
  simp -implicitDefEqProofs only[go_sem,AP,JZ,NF,J0,NG,Arn,AmS,h0,h4,e,d0,hb1]
  exact fin bS _ (k+1) _ 0 0 _ (ExtC.refl _ _) hw1 hC1 hb1 (by omega) (by omega) .nil _
 .have d0:(w==0)=false:=by simpa using c0
  by_cases c1:w=1
  .subst c1
   have d1:((1:Int)==1)=true:=rfl
   obtain⟨b,a_,e2,hX2,hw2,hC2⟩:=QG n x (k+1) 2 (by omega) (by omega) bS hw1 hC1
   obtain⟨_,bT,e3,hX3,hw3,rfl⟩:=Aoe (n+2) b a_ hw2
   have hb3:bT.heap.get bo=some ⟨.cells [z0,z1,z2,z3] 24,false,none,ver⟩:=(hX3.get bo (hw2 _ _ ((hX2.get bo (hw1 _ _ hb1).1 hne).trans hb1)).1).trans ((hX2.get bo (hw1 _ _ hb1).1 hne).trans hb1)
   simp -implicitDefEqProofs only[go_sem,AP,JZ,NF,J0,NG,Mj,PJ,Aro,AmT,h0,h4,e,d0,d1,hb1,e2,e3,hb3]
   exact fin bT _ (k+2) _ 1 _ _ (hX2.trans (hX3.toC x)) hw3 (hC2.ext hw2 hX3) hb3 (by omega) (by omega) (.bool b) _
  .have d1:(w==1)=false:=by simpa using c1
   have at1:∀(a_:aC),ExtC x bS a_->a_.heap.get bo=some ⟨.cells [z0,z1,z2,z3] 24,false,none,ver⟩:=fun a_ h=>(h.get bo (hw1 _ _ hb1).1 hne).trans hb1
   by_cases c2:w=2
   .subst c2
    have d2:((2:Int)==2)=true:=rfl
    have hX2:Ext bS (bS.push (.cells (symTexts.map Value.string) 9) none):=(Ext.refl _).push _ _
    have hw2:=hw1.push (.cells (symTexts.map Value.string) 9) none
    obtain⟨i,v,bT,e3,hi,hv,hX3,hw3,hC3⟩:=Acr n x (k+1) bS.next 0 8 8 (symTexts.map Value.string) (by omega) (by omega) _ hw2 (hC1.ext hw1 hX2) (by rw[Al,if_pos rfl];rfl)
     (by have:=(hw1 _ _ hb1).1;omega) (by simp[symTexts])
    rw[List.getElem?_map,Option.map_eq_some_iff] at hv
    obtain⟨t,ht,rfl⟩:=hv
    have htm:=List.mem_of_getElem? ht
    obtain⟨_,bW,e4,hX4,hw4,rfl⟩:=Axe (n+2) t bT hw3
    have hx4:ExtC x bS bW:=((hX2.toC x).trans hX3).trans (hX4.toC x)
    have hb4:=at1 bW hx4
    have e3':(env (n+3)).call 57 [.pointer (some ⟨x,0,none⟩),.slice (some ⟨bS.next,0,none⟩) 8 8] none (bS.push (.cells [.string ⟨#[97]⟩,.string ⟨#[98]⟩,.string ⟨#[120]⟩,.string ⟨#[105,102]⟩,.string ⟨#[108,105,115,116]⟩,.string ⟨#[97,45,98]⟩,.string ⟨#[110,117,108,108,63]⟩,.string ⟨#[43]⟩] 9) none)=.ret (.string t) none bT:=e3
    simp -implicitDefEqProofs only[go_sem,AP,JZ,NF,J0,NG,Mj,PJ,Tt,WK,Arp,AmU,h0,h4,e,d0,d1,d2,hb1,e3',e4,hb4]
    exact fin bW _ (k+2) _ 3 0 _ hx4 hw4 (hC3.ext hw3 hX4) hb4 (by omega) (by omega) (.sym t htm) _
   .have d2:(w==2)=false:=by simpa using c2
    by_cases c3:w=3
    .subst c3
     have d3:((3:Int)==3)=true:=rfl
     have hX2:Ext bS (bS.push (.cells (strTexts.map Value.string) 9) none):=(Ext.refl _).push _ _
     have hw2:=hw1.push (.cells (strTexts.map Value.string) 9) none
     obtain⟨i,v,bT,e3,hi,hv,hX3,hw3,hC3⟩:=Acr n x (k+1) bS.next 0 5 5 (strTexts.map Value.string) (by omega) (by omega) _ hw2 (hC1.ext hw1 hX2) (by rw[Al,if_pos rfl];rfl)
      (by have:=(hw1 _ _ hb1).1;omega) (by simp[strTexts])
     rw[List.getElem?_map,Option.map_eq_some_iff] at hv
     obtain⟨t,ht,rfl⟩:=hv
     have htm:=List.mem_of_getElem? ht
     obtain⟨_,bW,e4,hX4,hw4,rfl⟩:=Axc (n+2) t bT hw3
     have hx4:ExtC x bS bW:=((hX2.toC x).trans hX3).trans (hX4.toC x)
     have hb4:=at1 bW hx4
     have e3':(env (n+3)).call 57 [.pointer (some ⟨x,0,none⟩),.slice (some ⟨bS.next,0,none⟩) 5 5] none (bS.push (.cells [.string ⟨#[]⟩,.string ⟨#[97]⟩,.string ⟨#[116,119,111,32,119,111,114,100,115]⟩,.string ⟨#[113,34,113]⟩,.string ⟨#[98,92]⟩] 9) none)=.ret (.string t) none bT:=e3
     simp -implicitDefEqProofs only[go_sem,AP,JZ,NF,J0,NG,Mj,PJ,Tt,WK,Acg,Acf,AmE,Z5,h0,h4,e,d0,d1,d2,d3,hb1,e3',e4,hb4]
     exact fin bW _ (k+2) _ 4 0 _ hx4 hw4 (hC3.ext hw3 hX4) hb4 (by omega) (by omega) (.str t htm) _
    .have d3:(w==3)=false:=by simpa using c3
     obtain⟨a,a_,e2,a0,a1,hX2,hw2,hC2⟩:=Abg n x (k+1) (-20) 20 (by omega) (by omega) bS hw1 hC1
     obtain⟨b,bT,e3,b0,b1,hX3,hw3,hC3⟩:=Abg n x (k+2) (-999) 999 (by omega) (by omega) a_ hw2 hC2
     have hX4:Ext bT (bT.push (.cells [.int .i64 0,.int .i64 1,.int .i64 (-1),.int .i64 a,.int .i64 b] 3) none):=(Ext.refl _).push _ _
     have hw4:=hw3.push (.cells [.int .i64 0,.int .i64 1,.int .i64 (-1),.int .i64 a,.int .i64 b] 3) none
     have hlt:x<bT.next:=by have:=(hw1 _ _ hb1).1;have:=hX2.next;have:=hX3.next;omega
     obtain⟨i,v,bX,e5,hi,hv,hX5,hw5,hC5⟩:=Av6 n x (k+3) bT.next 0 5 5 _ (by omega) (by omega) _ hw4 (hC3.ext hw3 hX4) (by rw[Al,if_pos rfl];rfl) (by omega) (by simp)
     have hz:∃z,v=.int .i64 z /\ -999<=z/\z<=999:=by
      obtain rfl|rfl|rfl|rfl|rfl:i=0\/i=1\/i=2\/i=3\/i=4:=by omega
      all_goals (simp at hv;exact⟨_,hv.symm,by omega,by omega⟩)
     obtain⟨z,rfl,hz0,hz1⟩:=hz
     obtain⟨_,cA,e6,hX6,hw6,rfl⟩:=Av5 (n+2) z bX hw5
     have hx6:ExtC x bS cA:=(((hX2.trans hX3).trans (hX4.toC x)).trans hX5).trans (hX6.toC x)
     have hb6:=at1 cA hx6
     simp -implicitDefEqProofs only[go_sem,AP,JZ,NF,J0,NG,Mj,PJ,Tt,WK,Acg,Acf,AmG,Z6,h0,h4,e,d0,d1,d2,d3,hb1,e2,e3,e5,e6,hb6]
     exact fin cA _ (k+4) _ 2 z _ hx6 hw6 (hC5.ext hw5 hX6) hb6 (by omega) (by omega) (.num z ⟨hz0,hz1⟩) _
theorem Axu:bH nls 8=[61,62,63,64,65,66,67,68,69,70]:=by kernel_rfl
theorem Agt(n:Nat)(R:Nat->Prop)(d1 d2:D)(v1 v2:Value)(Z:aC)(hw:Wf Z)(h1:aU R Z v1 d1)(h2:aU R Z v2 d2):
  ∃v V,(env (n+1)).call 61 [v1,v2] none Z=.ret v none V/\Ext Z V/\Wf V/\aU (fun b=>R b\/New Z V b) V v (.mk 5 0 ⟨#[]⟩ [d1,d2]):=by
 have H1:=h1
 have H2:=h2
 obtain⟨k1,n1,t1,l1⟩:=d1
 obtain⟨k2,n2,t2,l2⟩:=d2
 obtain⟨p1,c1,rfl,e1⟩:=h1
 obtain⟨p2,c2,rfl,e2⟩:=h2
 rw[Ai _ 61 _ _ rfl,Apl _ _ _ _ (by simp),Ah]
 unfold Anv
 simp -implicitDefEqProofs only[go_sem,AP,AlJ,Ze,AlK,Zf,Ep]
 generalize hs:aC.put _ _ _ _=V
 have hx:Ext Z V:=by
  rw[<-hs]
  exact(((((Ext.refl Z).push _ _).push _ _).push _ _).push _ _).put _ _ _ (Nat.le_add_right _ _)
 have hw':Wf V:=by
  rw[<-hs]
  exact((((hw.push _ _).push _ _).push _ _).push _ _).put _ _ _ (by simp only[Ae];omega)
 have hc:V.cells (Z.next+3)=some [.int .i64 k1,.int .i64 n1,.string t1,.slice p1 l1.length c1,.int .i64 k2,.int .i64 n2,.string t2,.slice p2 l2.length c2]:=by
  rw[<-hs]
  simp -implicitDefEqProofs only[go_sem]
 have hN:New Z V (Z.next+3):=⟨by omega,hw'.cells hc⟩
 have kp:∀b cs,R b->Z.cells b=some cs->V.cells b=some cs/\(R b\/New Z V b):=fun b cs hR h=>⟨(hx.cells (hw.cells h)).trans h,.inl hR⟩
 exact⟨_,_,rfl,hx,hw',some ⟨Z.next+3,0,none⟩,2,rfl,⟨_,_,_,rfl,.inr hN,hc,by simp,H1.keep kp⟩,⟨_,_,_,rfl,.inr hN,hc,by simp,H2.keep kp⟩,trivial⟩
def Vec(Z:aC)(lo:Nat)(s:Value)(ds:List D):Prop:=
 (ds=[]/\s=.slice none 0 0)\/(∃b cs ver,s=.slice (some ⟨b,0,none⟩) ds.length ds.length/\Z.heap.get b=some ⟨.cells cs 24,false,some 4,ver⟩/\lo<b/\Row (fun c=>lo<c/\c≠b) Z cs ds)
theorem N0(bS:aC)(lo:Nat)(s:Value)(ds:List D)(d:D)(l:List Value)(hw:Wf bS)(hlo:lo<bS.next)(hl:l.length=4)(ho:l.all oneCell=true)(hlen:ds.length<900)(hV:Vec bS lo s ds)(hd:aU (fun c=>lo<c/\∀b n m,s=.slice (some ⟨b,0,none⟩) n m->c≠b) bS (.agg l.toArray) d):
  ∃s' τ,fappend 24 4 56 s (.slice (some ⟨bS.next,0,none⟩) 1 1) (bS.push (.cells l 24) none)=.val s' τ/\oneCell s'=true/\Vec τ lo s' (ds++[d])/\Wf τ/\bS.next<=τ.next/\bS.clock<=τ.clock/\
   (∀c,c<=lo->τ.heap.get c=bS.heap.get c)/\(∀c,c<bS.next->(∀b n m,s=.slice (some ⟨b,0,none⟩) n m->c≠b)->τ.heap.get c=bS.heap.get c):=by
 have hx:(bS.push (.cells l 24) none).cells bS.next=some l:=by rw[Al,if_pos rfl];rfl
 rcases hV with⟨rfl,rfl⟩|⟨b,cs,ver,rfl,hb,hlb,hR⟩
 .refine⟨_,_,P4 24 4 56 _ 1 l _ hx hl ho (by decide),rfl,.inr ⟨_,_,_,rfl,by rw[Aj,if_pos rfl],by rw[Ae];omega,?_⟩,(hw.push _ _).push _ _,?_,?_,?_,?_⟩
  .have h2:aU (fun c=>lo<c/\c≠(bS.push (.cells l 24) none).next) ((bS.push (.cells l 24) none).push (.cells l 24) (some 4)) (.agg l.toArray) d:=hd.keep fun c cs hc h=>by
    have:=hw.cells h
    refine⟨?_,hc.1,by rw[Ae];omega⟩
    rw[Al,if_neg (by rw[Ae];omega),Al,if_neg (by omega)]
    exact h
   exact(Row.nil _ _).snoc hl ho h2
  .simp only[Ae];omega
  .simp only[Bh];omega
  .intro c hc
   rw[Aj,if_neg (by rw[Ae];omega),Aj,if_neg (by omega)]
  .intro c hc _
   rw[Aj,if_neg (by rw[Ae];omega),Aj,if_neg (by omega)]
 .have hbn:b<bS.next:=(hw b _ hb).1
  have hb1:(bS.push (.cells l 24) none).heap.get b=some ⟨.cells cs 24,false,some 4,ver⟩:=by rw[Aj,if_neg (by omega)];exact hb
  have hw1:=hw.push (.cells l 24) none
  have hw2:=hw1.put b (.defd false) none (by rw[Ae];omega)
  refine⟨_,_,Ub 24 4 56 b _ 1 ds.length ver cs l _ hb1 hx hl ho hR.1 (by decide) (by omega),rfl,.inr ⟨_,_,_,by rw[List.length_append];rfl,by rw[Aj,if_pos rfl],by rw[Ao,Ae];omega,?_⟩,hw2.push _ _,?_,?_,?_,?_⟩
  .have kp:∀(c:Nat) (cs':List Value),(lo<c/\c≠b)->bS.cells c=some cs'->
     (((bS.push (.cells l 24) none).put b (.defd false) none).push (.cells (cs++l) 24) (some 4)).cells c=some cs'/\(lo<c/\c≠((bS.push (.cells l 24) none).put b (.defd false) none).next):=fun c cs' hc h=>by
    have:=hw.cells h
    refine⟨?_,hc.1,by rw[Ao,Ae];omega⟩
    rw[Al,if_neg (by rw[Ao,Ae];omega),Aq,if_neg hc.2,Al,if_neg (by omega)]
    exact h
   exact(hR.keep kp).snoc hl ho ((hd.keep fun c cs' hc h=>kp c cs' ⟨hc.1,hc.2 b _ _ rfl⟩ h))
  .simp only[Ae,Ao];omega
  .simp only[Bh,AX];omega
  .intro c hc
   rw[Aj,if_neg (by rw[Ao,Ae];omega),Ak,if_neg (by omega),Aj,if_neg (by omega)]
  .intro c hc hne
   rw[Aj,if_neg (by rw[Ao,Ae];omega),Ak,if_neg (hne b _ _ rfl),Aj,if_neg (by omega)]
theorem Vec.keep{Z V:aC}{lo:Nat}{s:Value}{ds:List D}(hw:Wf Z)(h:Vec Z lo s ds)(hx:∀c,lo<c->c<Z.next->V.heap.get c=Z.heap.get c):Vec V lo s ds:=by
 rcases h with h|⟨b,cs,ver,hs,hb,hlb,hR⟩
 .exact .inl h
 .refine .inr ⟨b,cs,ver,hs,(hx b hlb (hw b _ hb).1).trans hb,hlb,hR.keep fun c cs' hc h=>⟨?_,hc⟩⟩
  rw[Av,hx c hc.1 (hw.cells h),<-Av]
  exact h
def DatumAt(m x L W:Nat):Prop:=∀k Z,k+W<100000000000->Wf Z->Coil Z x k->∃v d V k',(env m).call 8 [.pointer (some ⟨x,0,none⟩),.int .i64 (.ofNat L)] none Z=.ret v none V/\aU (New Z V) V v d/\Made L d/\
 ExtC x Z V/\Wf V/\Coil V x k'/\k<=k'/\k'<=k+W
structure HeadV (x bo b5 L W K j:Nat) (bU:aC) (ds:List D) (f:Nat->Value) (Z:aC):Prop where
 f0:f 0=.pointer (some ⟨x,0,none⟩)
 f1:f 1=.int .i64 (.ofNat (L+1))
 f4:f 4=.pointer (some ⟨bo,0,none⟩)
 f5:f 5=.pointer (some ⟨b5,0,none⟩)
 f6:f 6=.int .i64 (.ofNat j)
 hbo:∃ver z0 z1 z2 z3,Z.heap.get bo=some ⟨.cells [z0,z1,z2,z3] 24,false,none,ver⟩
 hb5:∃ver s,Z.heap.get b5=some ⟨.cells [.int .i64 6,.int .i64 0,.string ⟨#[]⟩,s] 24,false,none,ver⟩/\Vec Z b5 s ds
 ext:ExtC x bU Z
 wf:Wf Z
 coil:∃k',Coil Z x k'/\k'+j*W<=K
 made:∀d,d∈ds->Made L d
 lt1:x<bU.next
 lt2:bU.next<=bo
 lt3:bo<b5
 len:ds.length+j<=3
theorem Qe(m x bo b5 L W K:Nat)(hK:K<100000000000)(hL:L<1000)(bU:aC)(k0:Nat)(hD:DatumAt m x L W):∀(j fuel:Nat) (ds:List D) (f g:Nat->Value) (Z:aC),j<fuel->HeadV x bo b5 L W K j bU ds f Z->(∃k',Coil Z x k'/\k0<=k'/\k'+j*W<=K)->
  ∃f' g' V ds',floop [61,62,63,64,65,66,67,68,69,70] (Age (env m) none 8) fuel (Sl 7 71 f g []) none Z=.done (.exit 1) (Sl 7 71 f' g' []) none V/\HeadV x bo b5 L W K 0 bU ds' f' V/\(∃k',Coil V x k'/\k0<=k'/\k'<=K):=by
 intro j
 induction j with
 | zero=>
  intro fuel ds f g Z hf hH hk
  obtain⟨fuel,rfl⟩:∃q,fuel=q+1:=⟨fuel-1,by omega⟩
  have hd:decide (Int.ofNat 0>0)=false:=rfl
  rw[Ap]
  unfold Age
  simp -implicitDefEqProofs only[go_sem,WI,Tp,hH.f6,hd]
  exact⟨f,_,Z,ds,rfl,hH,by simpa using hk⟩
 | succ j ih=>
  intro fuel ds f g Z hf hH hk
  obtain⟨k',hC,hk0,hkK⟩:=hk
  obtain⟨fuel,rfl⟩:∃q,fuel=q+1:=⟨fuel-1,by omega⟩
  have hd:decide (Int.ofNat (j+1)>0)=true:=by simp
  have hwr:wrapI (Int.ofNat (L+1)-1)=Int.ofNat L:=by
   rw[DV (by rw[Int.ofNat_eq_natCast];omega),Int.ofNat_eq_natCast,Int.ofNat_eq_natCast];omega
  have hwj:wrapI (Int.ofNat (j+1)-1)=Int.ofNat j:=by
   have:=hH.len
   rw[DV (by rw[Int.ofNat_eq_natCast];omega),Int.ofNat_eq_natCast,Int.ofNat_eq_natCast];omega
  have hjW:(j+1)*W=j*W+W:=Nat.succ_mul j W
  obtain⟨v,d,bS,k1,e,hLd,hMd,hX1,hw1,hC1,hk1,hk2⟩:=hD k' Z (by omega) hH.wf hC
  obtain⟨ver5,s,hb5,hV⟩:=hH.hb5
  have hxb:x<b5:=by have:=hH.lt1;have:=hH.lt2;have:=hH.lt3;omega
  have hb5n:=(hH.wf b5 _ hb5)
  have hb51:bS.heap.get b5=_:=(hX1.get b5 hb5n.1 (by omega)).trans hb5
  have hv5:(view bS Z.clock).cells b5=some [.int .i64 6,.int .i64 0,.string ⟨#[]⟩,s]:=by
   rw[Hh,hb51]
   simp only[Option.bind_some]
   rw[if_pos hb5n.2]
   rfl
  have hV1:Vec bS b5 s ds:=hV.keep hH.wf fun c h1 h2=>hX1.get c h2 (by omega)
  have hs:∀b n m,s=.slice (some ⟨b,0,none⟩) n m->b<Z.next/\b5<b:=by
   intro b n m hs
   rcases hV with⟨_,h⟩|⟨b',cs,ver,h,hb,hlb,_⟩
   .rw[hs] at h;cases h
   .rw[hs] at h;cases h;exact⟨(hH.wf _ _ hb).1,hlb⟩
  obtain⟨kd,nd,td,dd⟩:=d
  have hLd':=hLd
  obtain⟨p,c,rfl,_⟩:=hLd'
  obtain⟨s',τ,ha,ho,hVτ,hwτ,hnτ,hcτ,hg1,hg2⟩:=N0 bS b5 s ds (.mk kd nd td dd) [.int .i64 kd,.int .i64 nd,.string td,.slice p dd.length c] hw1 (by have:=hX1.next;omega) rfl rfl (by have:=hH.len;omega) hV1
   (hLd.keep fun c cs hc h=>⟨h,by have:=hc.1;omega,fun b n m hsb=>by have:=(hs b n m hsb).1;have:=hc.1;omega⟩)
  have hgb5:τ.heap.get b5=_:=(hg1 b5 (Nat.le_refl _)).trans hb51
  have hb5τ:b5<τ.next:=by have:=hX1.next;omega
  obtain⟨vero,z0,z1,z2,z3,hbo⟩:=hH.hbo
  have hlt3:=hH.lt3
  have hlt2:=hH.lt2
  have hlt1:=hH.lt1
  have hCτ:Coil τ x k1:=hC1.low fun c hc=>hg1 c (by omega)
  have hH':HeadV x bo b5 L W K j bU (ds++[.mk kd nd td dd]) (upd f 6 (.int .i64 (.ofNat j))) (τ.put b5 (.cells [.int .i64 6,.int .i64 0,.string ⟨#[]⟩,s'] 24) none):={
   f0:=by simp -implicitDefEqProofs only[go_sem,reduceCtorEq,hH.f0]
   f1:=by simp -implicitDefEqProofs only[go_sem,reduceCtorEq,hH.f1]
   f4:=by simp -implicitDefEqProofs only[go_sem,reduceCtorEq,hH.f4]
   f5:=by simp -implicitDefEqProofs only[go_sem,reduceCtorEq,hH.f5]
   f6:=by simp -implicitDefEqProofs only[go_sem,reduceCtorEq]
   hbo:=⟨vero,z0,z1,z2,z3,by
    rw[Ak,if_neg (by omega),hg1 bo (by omega),hX1.get bo (by have:=hb5n.1;omega) (by omega)]
    exact hbo⟩
   hb5:=⟨_,s',by rw[Ak,if_pos rfl],hVτ.keep hwτ fun c h1 h2=>by rw[Ak,if_neg (by omega)]⟩
   ext:=⟨by rw[Ao];have:=hH.ext.next;have:=hX1.next;omega,by rw[AX];have:=hH.ext.clock;have:=hX1.clock;omega,fun c hc hcx=>by
    have h1:=hH.ext.next
    have h2:=hX1.next
    rw[Ak,if_neg (by omega),hg2 c (by omega) (fun b n m h=>by have:=(hs b n m h).2;omega),hX1.get c (by omega) hcx]
    exact hH.ext.get c hc hcx⟩
   wf:=hwτ.put _ _ _ hb5τ
   coil:=⟨k1,hCτ.put b5 hxb _ _,by omega⟩
   made:=fun e he=>by
    rcases List.mem_append.1 he with h|h
    .exact hH.made e h
    .rw[List.mem_singleton.1 h];exact hMd
   lt1:=hlt1
   lt2:=hlt2
   lt3:=hlt3
   len:=by have:=hH.len;rw[List.length_append,List.length_singleton];omega }
  rw[Ap]
  unfold Age
  simp -implicitDefEqProofs only[go_sem,WI,Tp,AmM,Z9,AmN,Z_,hH.f0,hH.f1,hH.f5,hH.f6,hd,hwr,e,hv5,ha,ho,hgb5,hwj]
  exact ih fuel _ _ _ _ (by omega) hH' ⟨k1,hCτ.put b5 hxb _ _,by omega,by omega⟩
def vec8(E:Env)(ro:Option Nat):aZ:=(aF (aD E ro AmI) (aF (aF (aD E ro AmK) (aR 1 (loopR (bH nls 8) (Age E ro 8)))) (aF (aD E ro AmO) bO)))
def rest8(E:Env)(ro:Option Nat):aZ:=(aF (aF (aD E ro AmH) (aL (fun a=>(a.get 44)) (vec8 E ro) aQ)) (aF (aD E ro AmQ) bO))
theorem Aco(E:Env)(ro:Option Nat):Aw9 E ro 8=aF (aD E ro AwV) (aF (aF (aD E ro AwW) (aL (fun a=>(a.get 12)) (leaf8 E ro) aQ)) (rest8 E ro)):=rfl
theorem Vm{x k K bo L:Nat}{Z:aC}{r:KRes}(E:Env)(hbo:bo=Z.next)(h:LeafIn x k K bo Z r):∃v d V k',aN Tryz.prog E [.cell 4 24] r=.ret v none V/\aU (New Z V) V v d/\Made L d/\ExtC x Z V/\Wf V/\Coil V x k'/\k<=k'/\k'<=K:=by
 obtain⟨f,g,V,kd,n,t,k',rfl,h4,⟨ver,hg⟩,hL,hX,hw,hC,h1,h2⟩:=h
 have hc:=AB hg
 simp -implicitDefEqProofs only[go_sem,Ep,h4,hc]
 exact⟨_,.mk kd n t [],_,k',rfl,⟨none,0,rfl,trivial⟩,.leaf _ _ hL,hX,hw,hC,h1,h2⟩
theorem Jk(M x L W:Nat)(hL:L<2)(hW:4<=W):DatumAt (M+3+1) x L W:=by
 intro k Z hk hw hC
 have hx:=hC.cells
 have hd:decide (Int.ofNat L<2)=true:=by simp;omega
 rw[Ai _ 8 _ _ rfl,AfX _ _ _ _ (by simp),Ah,Aco]
 have hXa:Ext Z (Z.push (.cells [.int .i64 0,.int .i64 0,.string ⟨#[]⟩,.slice none 0 0] 24) none):=(Ext.refl _).push _ _
 have hwa:=hw.push (.cells [.int .i64 0,.int .i64 0,.string ⟨#[]⟩,.slice none 0 0] 24) none
 obtain⟨c3,hc3,_⟩:=hx
 have hxn:=hw.cells hc3
 simp -implicitDefEqProofs only[go_sem,Tm,WG,Tq,WJ,hd]
 generalize hf:upd _ _ _=f1
 generalize hg:upd _ _ _=g1
 have hleaf:=Vl M x k Z.next (by omega) Z _ f1 g1 (by rw[<-hf];simp -implicitDefEqProofs only[go_sem,reduceCtorEq]) (by rw[<-hf];simp -implicitDefEqProofs only[go_sem,reduceCtorEq]) hwa (hC.ext hw hXa) (hXa.toC x) (Nat.le_refl _) hxn _ _ _ _ _ (by rw[Aj,if_pos rfl])
 obtain⟨v,d,V,k',h1,h2⟩:=Vm (L:=L) (env (M+3)) rfl hleaf
 obtain⟨f,g,bZ,kd,nn,t,k'',e1,r1⟩:=hleaf
 rw[e1] at h1 ⊢
 simp -implicitDefEqProofs only[AW]
 obtain⟨r2,r3,r4,r5,r6,r7,r8⟩:=h2
 exact⟨v,d,V,k',h1,r2,r3,r4,r5,r6,r7,by omega⟩
theorem Qf(M x L W:Nat)(hL:1<=L/\L<900)(hW:4<=W/\W<10000000000)(hD:DatumAt (M+3) x L W):DatumAt (M+3+1) x (L+1) (3*W+10):=by
 intro k Z hk hw hC
 have hd:decide (Int.ofNat (L+1)<2)=false:=by simp;omega
 have hwr:wrapI (Int.ofNat (L+1)-1)=Int.ofNat L:=by
  rw[DV (by rw[Int.ofNat_eq_natCast];omega),Int.ofNat_eq_natCast,Int.ofNat_eq_natCast];omega
 rw[Ai _ 8 _ _ rfl,AfX _ _ _ _ (by simp),Ah,Aco]
 have hXa:Ext Z (Z.push (.cells [.int .i64 0,.int .i64 0,.string ⟨#[]⟩,.slice none 0 0] 24) none):=(Ext.refl _).push _ _
 have hwa:=hw.push (.cells [.int .i64 0,.int .i64 0,.string ⟨#[]⟩,.slice none 0 0] 24) none
 have hba:(Z.push (.cells [.int .i64 0,.int .i64 0,.string ⟨#[]⟩,.slice none 0 0] 24) none).heap.get Z.next=some ⟨.cells [.int .i64 0,.int .i64 0,.string ⟨#[]⟩,.slice none 0 0] 24,false,none,Z.clock⟩:=by rw[Aj,if_pos rfl]
 obtain⟨c3,hc3,_⟩:=hC.cells
 have hxn:=hw.cells hc3
 obtain⟨b,bS,e1,hX1,hw1,hC1⟩:=QG M x k 4 (by omega) (by omega) _ hwa (hC.ext hw hXa)
 have hX01:ExtC x Z bS:=(hXa.toC x).trans hX1
 have hb1:=(hX1.get Z.next (by rw[Ae];omega) (by omega)).trans hba
 have hn1:=(hw1 _ _ hb1).1
 cases b with
 | true=>
  simp -implicitDefEqProofs only[go_sem,Tm,WG,Tq,WJ,hd,e1]
  generalize hf:upd _ _ _=f1
  generalize hg:upd _ _ _=g1
  have hleaf:=Vl M x (k+1) Z.next (by omega) Z _ f1 g1 (by rw[<-hf];simp -implicitDefEqProofs only[go_sem,reduceCtorEq]) (by rw[<-hf];simp -implicitDefEqProofs only[go_sem,reduceCtorEq]) hw1 hC1 hX01 (Nat.le_refl _) hxn _ _ _ _ _ hb1
  obtain⟨v,d,V,k',h1,h2⟩:=Vm (L:=L+1) (env (M+3)) rfl hleaf
  obtain⟨f,g,bZ,kd,nn,t,k'',e2,r1⟩:=hleaf
  rw[e2] at h1 ⊢
  simp -implicitDefEqProofs only[AW]
  obtain⟨r2,r3,r4,r5,r6,r7,r8⟩:=h2
  exact⟨v,d,V,k',h1,r2,r3,r4,r5,r6,by omega,by omega⟩
 | false=>
  obtain⟨b,a_,e2,hX2,hw2,hC2⟩:=QG M x (k+1) 6 (by omega) (by omega) _ hw1 hC1
  have hX02:ExtC x Z a_:=hX01.trans hX2
  have hb2:=(hX2.get Z.next hn1 (by omega)).trans hb1
  have hn2:=(hw2 _ _ hb2).1
  simp -implicitDefEqProofs only[go_sem,Tm,WG,Tq,WJ,hd,e1]
  generalize hf:upd _ _ _=f1
  generalize hg:upd _ _ _=g1
  have p0:f1 0=.pointer (some ⟨x,0,none⟩):=by rw[<-hf];simp -implicitDefEqProofs only[go_sem,reduceCtorEq]
  have p1:f1 1=.int .i64 (.ofNat (L+1)):=by rw[<-hf];simp -implicitDefEqProofs only[go_sem,reduceCtorEq]
  have p4:f1 4=.pointer (some ⟨Z.next,0,none⟩):=by rw[<-hf];simp -implicitDefEqProofs only[go_sem,reduceCtorEq]
  clear hf hg
  unfold rest8
  cases b with
  | true=>
   obtain⟨i,bT,e3,i0,i1,hX3,hw3,hC3⟩:=PZ (M+1) x (k+2) 3 (by omega) (by omega) ((a_.push (.cells [.int .i64 0,.int .i64 0,.string ⟨#[]⟩,.slice none 0 0] 24) none).put a_.next (.cells [.int .i64 6,.int .i64 0,.string ⟨#[]⟩,.slice none 0 0] 24) none)
    ((hw2.push _ _).put _ _ _ (Nat.lt_succ_self _)) (hC2.ext hw2 (((Ext.refl _).push _ _).put _ _ _ (Nat.le_refl _)))
   obtain⟨j,rfl⟩:∃j:Nat,i=Int.ofNat j:=⟨i.toNat,by rw[Int.ofNat_eq_natCast];omega⟩
   have hx5:x<a_.next:=by have:=hX02.next;omega
   have hb53:bT.heap.get a_.next=_:=(hX3.get a_.next (Nat.lt_succ_self _) (by omega)).trans (by rw[Ak,if_pos rfl])
   have hb3:bT.heap.get Z.next=_:=(hX3.get Z.next (Nat.lt_succ_of_lt hn2) (by omega)).trans ((by rw[Ak,if_neg (by omega),Aj,if_neg (by omega)]:_=_).trans hb2)
   unfold vec8
   simp -implicitDefEqProofs only[go_sem,AP,WH,Tn,AmJ,Z7,AmL,Z8,p0,p1,p4,e2,e3,Axu]
   generalize hf:upd _ _ _=f2
   generalize hg:upd _ _ _=g2
   generalize hbf:bL=fuel
   have hfu:j<fuel:=by rw[<-hbf];show j<1000000000000;rw[Int.ofNat_eq_natCast] at i1;omega
   have hX03:ExtC x Z bT:=(hX02.trans ((((Ext.refl a_).push _ _).put _ _ _ (Nat.le_refl _)).toC x)).trans hX3
   have hj3:j<=3:=by rw[Int.ofNat_eq_natCast] at i1;omega
   have hjW:j*W<=3*W:=Nat.mul_le_mul_right W hj3
   have hH:HeadV x Z.next a_.next L W (k+(3*W+10)) j Z [] f2 bT:={
    f0:=by rw[<-hf];simp -implicitDefEqProofs only[go_sem,reduceCtorEq,p0]
    f1:=by rw[<-hf];simp -implicitDefEqProofs only[go_sem,reduceCtorEq,p1]
    f4:=by rw[<-hf];simp -implicitDefEqProofs only[go_sem,reduceCtorEq,p4]
    f5:=by rw[<-hf];simp -implicitDefEqProofs only[go_sem,reduceCtorEq]
    f6:=by rw[<-hf];simp -implicitDefEqProofs only[go_sem,reduceCtorEq]
    hbo:=⟨_,_,_,_,_,hb3⟩
    hb5:=⟨_,_,hb53,.inl ⟨rfl,rfl⟩⟩
    ext:=hX03
    wf:=hw3
    coil:=⟨_,hC3,by omega⟩
    made:=fun d hd=>by cases hd
    lt1:=hxn
    lt2:=Nat.le_refl _
    lt3:=hn2
    len:=by simpa using hj3 }
   obtain⟨f3,g3,bW,ds,el,hH4,k',hC4,hk',hK'⟩:=Qe (M+3) x Z.next a_.next L W (k+(3*W+10)) hk (by omega) Z k hD j fuel [] f2 g2 bT hfu hH ⟨_,hC3,by omega,by omega⟩
   rw[el]
   obtain⟨v5,s5,hb5,hV⟩:=hH4.hb5
   obtain⟨vo,z0,z1,z2,z3,hbo⟩:=hH4.hbo
   have hc5:=AB hb5
   have q4:=hH4.f4
   have q5:=hH4.f5
   have hs5:∃p,s5=.slice p ds.length ds.length/\bF (fun c=>a_.next<c) bW p 0 ds:=by
    rcases hV with⟨rfl,rfl⟩|⟨b,cs,ver,rfl,hb,hlb,hR⟩
    .exact⟨none,rfl,trivial⟩
    .have hbn:=(hH4.wf _ _ hb).1
     exact⟨_,rfl,hR.elems (R':=fun c=>a_.next<c) (AB hb) hlb (fun _ h=>h.1) 0 ds fun j e h=>by rwa [Nat.zero_add]⟩
   obtain⟨p,rfl,hE⟩:=hs5
   simp -implicitDefEqProofs only[go_sem,AP,AmP,Aaa,q4,q5,hc5,hbo,Ep]
   have hno:=(hH4.wf _ _ hbo).1
   have hlen:ds.length<=3:=by have:=hH4.len;omega
   refine⟨_,.mk 6 0 ⟨#[]⟩ ds,_,k',rfl,⟨p,_,rfl,hE.keep fun b cs hb h=>?_⟩,.vec L ds hlen hH4.made,hH4.ext.putNew _ _ _ (Nat.le_refl _),hH4.wf.put _ _ _ hno,hC4.put _ hxn _ _,hk',hK'⟩
   have hb':a_.next<b:=hb
   refine⟨?_,by omega,?_⟩
   .rw[Aq,if_neg (by omega)];exact h
   .rw[Ao];exact hH4.wf.cells h
  | false=>
   obtain⟨v1,d1,bT,k3,e3,hL3,hM3,hX3,hw3,hC3,hk3,hk3'⟩:=hD (k+2) a_ (by omega) hw2 hC2
   obtain⟨v2,d2,bW,k4,e4,hL4,hM4,hX4,hw4,hC4,hk4,hk4'⟩:=hD k3 bT (by omega) hw3 hC3
   have kp:∀b cs,New a_ bT b->bT.cells b=some cs->bW.cells b=some cs/\(a_.next<=b/\b<bW.next):=fun b cs hb h=>by
    have h1:=hX4.next
    exact⟨(hX4.cells hb.2 (by have:=hb.1;omega)).trans h,hb.1,by have:=hb.2;omega⟩
   obtain⟨v5,bX,e5,hX5,hw5,hL5⟩:=Agt (M+2) (fun b=>a_.next<=b/\b<bW.next) d1 d2 v1 v2 bW hw4 (hL3.keep kp) (hL4.keep fun b cs hb h=>⟨h,by have:=hb.1;have:=hX3.next;omega,hb.2⟩)
   have hX25:ExtC x a_ bX:=(hX3.trans hX4).trans (hX5.toC x)
   have hb5:=(hX25.get Z.next hn2 (by omega)).trans hb2
   obtain⟨p,c,rfl,hE⟩:=hL5
   simp -implicitDefEqProofs only[go_sem,AP,WH,Tn,AmR,Aab,p0,p1,p4,e2,e3,e4,e5,hwr,hb5,Ep]
   have hnn:=hX02.next
   have hn5:=(hw5 _ _ hb5).1
   refine⟨_,.mk 5 0 ⟨#[]⟩ [d1,d2],_,k4,rfl,⟨p,c,rfl,hE.keep fun b cs hb h=>?_⟩,.pair L _ _ hM3 hM4,(hX02.trans hX25).putNew _ _ _ (Nat.le_refl _),hw5.put _ _ _ hn5,(hC4.ext hw4 hX5).put _ hxn _ _,by omega,by omega⟩
   have hlo:Z.next<b:=by
    rcases hb with hb|hb
    .exact Nat.lt_of_lt_of_le hn2 hb.1
    .have:=hb.1;have:=hX3.next;have:=hX4.next;omega
   refine⟨?_,by omega,?_⟩
   .rw[Aq,if_neg (by omega)];exact h
   .rw[Ao];exact hw5.cells h
def wound:Nat->Nat
 | 0=>10
 | 1=>10
 | L+2=>3*wound (L+1)+10
theorem Mu(n x:Nat):∀L,L<=6->DatumAt (n+L+4) x L (wound L)
 | 0,_=>Jk n x 0 10 (by omega) (by omega)
 | 1,_=>Jk (n+1) x 1 10 (by omega) (by omega)
 | L+2,h=>by
  have ih:=Mu n x (L+1) (by omega)
  have hW:4<=wound (L+1)/\wound (L+1)<10000000000:=by
   obtain rfl|rfl|rfl|rfl|rfl:L=0\/L=1\/L=2\/L=3\/L=4:=by omega
   all_goals (simp[wound])
  exact Qf (n+L+2) x (L+1) (wound (L+1)) (by omega) hW ih
end
end Go.Proofs.YtknnbjmcfibpgaaGreatDoor
end
