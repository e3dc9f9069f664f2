import Derived.Test.YtknnbjmcfibpgaaGreatDoorU8
import Derived.Test.YtknnbjmcfibpgaaGreatDoorU7
import Derived.Test.YtknnbjmcfibpgaaGreatDoorU6
import Derived.Test.YtknnbjmcfibpgaaGreatDoorU4
import Derived.Test.YtknnbjmcfibpgaaGreatDoorZSymTL
import Derived.ChangeArms
import Derived.DataReads
import Derived.ChangeSlices
import Derived.OpenShut
import Derived.Carry
import Derived.Test.YtknnbjmcfibpgaaGreatDoorU3
set_option linter.unusedSimpArgs false
set_option linter.unusedVariables false
noncomputable section
namespace Go.Proofs.YtknnbjmcfibpgaaGreatDoor
section
open Go Go.Eng
attribute [local congr] Aa Af Ad Ab Ac
attribute [-go_sem] List.range_succ
variable [Tb]
theorem Ql(E:Env){pa pb:Option Addr}{ca cb:Nat}{l:List Nat}{Z:aC}(hw:Wf Z)(h8:∀r∈l,r<nT)(hl:l.length<1000)(ha:l≠[]->∃b,pa=some ⟨b,0,none⟩/\Z.cells b=some (strs l))(hb:l≠[]->∃b,pb=some ⟨b,0,none⟩/\Z.cells b=some (strs l))(K:List Nat):
  ∀(j fuel i:Nat) (f g:Nat->Value),i+j=l.length->j<fuel->f 0=.slice pa l.length ca->f 1=.slice pb l.length cb->f 5=.int .i64 (.ofNat i)->
   ∃f' g',floop K (Abk E none 17) fuel (Sl 6 26 f g []) none Z=.done (.exit 0) (Sl 6 26 f' g' []) none Z:=by
 intro j
 induction j with
 | zero=>
  intro fuel i f g hij hf f0 f1 f5
  obtain⟨fuel,rfl⟩:∃q,fuel=q+1:=⟨fuel-1,by omega⟩
  have d1:decide (Int.ofNat i<Int.ofNat l.length)=false:=by simp;omega
  rw[Ap]
  unfold Abk
  simp -implicitDefEqProofs only[go_sem,VQ,R_,f0,f5,d1]
  exact⟨_,_,rfl⟩
 | succ j ih=>
  intro fuel i f g hij hf f0 f1 f5
  obtain⟨fuel,rfl⟩:∃q,fuel=q+1:=⟨fuel-1,by omega⟩
  have hi:i<l.length:=by omega
  have d1:decide (Int.ofNat i<Int.ofNat l.length)=true:=by simp;omega
  obtain⟨r,hr,_⟩:=HM hi
  have hr8:=h8 r (List.mem_of_getElem? hr)
  have hne:l≠[]:=by intro e;rw[e] at hi;simp at hi
  obtain⟨ba,rfl,hca⟩:=ha hne
  obtain⟨bb,rfl,hcb⟩:=hb hne
  have gr:=J8 _ _ _ hr
  have hvw:=D1 hw (lam:=Z.clock) (Nat.le_refl _)
  have e1:=fun X Y Z=>Av4 X Y Z hr8 hr8
  have d2:decide (r≠r)=false:=by simp
  simp only[d2] at e1
  have w1:=FT i (by omega)
  rw[Ap]
  unfold Abk
  simp -implicitDefEqProofs only[go_sem,VQ,R_,Aj9,YD,Aka,YE,f0,f1,f5,d1,hi,hvw,hca,hcb,gr,e1,w1]
  generalize hff:upd _ 5 _=f1'
  exact ih fuel (i+1) f1' _ (by omega) (by omega) (by rw[<-hff];simp -implicitDefEqProofs only[go_sem,reduceCtorEq,f0]) (by rw[<-hff];simp -implicitDefEqProofs only[go_sem,reduceCtorEq,f1]) (by rw[<-hff];simp -implicitDefEqProofs only[go_sem,reduceCtorEq])
theorem Xy(n:Nat){R R':Nat->Prop}{s t:Value}{l:List Nat}(h8:∀r∈l,r<nT)(hl:l.length<1000)(Z:aC)(hw:Wf Z)(hs:TxtR R Z s l)(ht:TxtR R' Z t l):
  (env (n+1)).call 17 [s,t] none Z=.ret (.bool true) none Z:=by
 obtain⟨pa,ca,rfl,ha⟩:=hs.slice
 obtain⟨pb,cb,rfl,hb⟩:=ht.slice
 rw[Ai _ 17 _ _ rfl,Ao8 _ _ _ _ (by simp),Ah]
 unfold Ani
 have d1:(!(Int.ofNat l.length==Int.ofNat l.length))=false:=by simp
 simp -implicitDefEqProofs only[go_sem,Aj6,YA,Aj7,YB,Aj8,YC,d1]
 generalize hff:upd _ 5 _=f1
 generalize hbf:bL=fuel
 generalize upd _ 10 _=gg
 obtain⟨f',g',e⟩:=Ql (env n) (ca:=ca) (cb:=cb) hw h8 hl ha hb (bH nls 17) l.length fuel 0 f1 gg (by omega) (by rw[<-hbf];show l.length<1000000000000;omega) (by rw[<-hff];simp -implicitDefEqProofs only[go_sem,reduceCtorEq]) (by rw[<-hff];simp -implicitDefEqProofs only[go_sem,reduceCtorEq]) (by rw[<-hff];simp -implicitDefEqProofs only[go_sem,reduceCtorEq]<;>rfl)
 rw[e]
 simp -implicitDefEqProofs only[go_sem,Akb,YF]
end
section
open Go Go.Eng
attribute [local congr] Aa Af Ad Ab Ac
attribute [-go_sem] List.range_succ
mutual
def nmD:D->List ByteArray
 | .mk k _ t ds=>(if k=3 then [t] else [])++nmDs ds
def nmDs:List D->List ByteArray
 | []=>[]
 | d::ds=>nmD d++nmDs ds
end
theorem Vs:∀ {ds:List D} {d:D},d∈ds->∀t∈nmD d,t∈nmDs ds
 | x::ds,d,h,t,ht=>by
  rw[nmDs,List.mem_append]
  rcases List.mem_cons.1 h with rfl|h
  .exact .inl ht
  .exact .inr (Vs h t ht)
variable [Tb]
omit [Tb] in
theorem Af9:bH nls 71=[28]:=by kernel_rfl
theorem AcA{P Q:Nat->Bool}(h:∀r,P r=Q r):asc P=asc Q:=by
 have:P=Q:=funext h
 rw[this]
theorem Au2(a b:List Nat):asc (fun r=>decide (r∈a)||decide (r∈b))=asc fun r=>decide (r∈a++b):=AcA fun r=>by
 rw[<-Bool.decide_or,decide_eq_decide,List.mem_append]
theorem Aoc{r:Nat}(h:r<nT):[r]=asc fun x=>decide (x∈[r]):=P6 _ _ (by simp) fun x=>by
 simp only[List.mem_singleton,decide_eq_true_eq]
 exact⟨fun e=>⟨by omega,e⟩,fun e=>e.2⟩
theorem Afw:([]:List Nat)=asc fun x=>decide (x∈([]:List Nat)):=P6 _ _ .nil fun x=>by simp
structure HeadNa (b1:Nat) (k z:Int) (t:ByteArray) (p:Option Addr) (c:Nat) (ds:List D) (own:List Nat) (bU:aC) (i:Nat) (f:Nat->Value) (Z:aC):Prop where
 f1:f 1=.pointer (some ⟨b1,0,none⟩)
 f4:f 4=.int .i64 (.ofNat i)
 txt:TxtR (fun _=>True) Z (f 3) (asc fun r=>decide (r∈own++(ds.take i).flatMap rk))
 wf:Wf Z
 ext:Ext bU Z
theorem Abr(m:Nat)(hm:1<=m){b1:Nat}{k z:Int}{t:ByteArray}{p:Option Addr}{c:Nat}{ds:List D}{own:List Nat}{bU:aC}{R:Nat->Prop}(hlen:ds.length<1000000)(hw0:Wf bU)(hE:bF R bU p 0 ds)(hb:bU.cells b1=some [.int .i64 k,.int .i64 z,.string t,.slice p ds.length c])(hO:∀d∈ds,∀v Z,Wf Z->aU R Z v d->Gives ((env m).call 71 [v] none Z) Z fun w V=>TxtR (fun _=>True) V w (asc fun r=>decide (r∈rk d))):
  ∀(j fuel i:Nat) (f g:Nat->Value) (Z:aC),i+j=ds.length->j<fuel->HeadNa b1 k z t p c ds own bU i f Z->
   ∃f' g' V,floop [28] (Abn (env m) none 71) fuel (Sl 5 29 f g []) none Z=.done (.exit 0) (Sl 5 29 f' g' []) none V/\HeadNa b1 k z t p c ds own bU ds.length f' V:=by
 intro j
 induction j with
 | zero=>
  intro fuel i f g Z hij hf h
  obtain⟨fuel,rfl⟩:∃q,fuel=q+1:=⟨fuel-1,by omega⟩
  obtain rfl:i=ds.length:=by omega
  have d1:decide (Int.ofNat ds.length<Int.ofNat ds.length)=false:=by simp
  have c1:=(h.ext.cells (hw0.cells hb)).trans hb
  rw[Ap,CE]
  unfold Abn
  simp -implicitDefEqProofs only[go_sem,Wt,S5,h.f1,h.f4,c1,d1]
  exact⟨_,_,_,rfl,h⟩
 | succ j ih=>
  intro fuel i f g Z hij hf h
  obtain⟨fuel,rfl⟩:∃q,fuel=q+1:=⟨fuel-1,by omega⟩
  have hi:i<ds.length:=by omega
  have d1:decide (Int.ofNat i<Int.ofNat ds.length)=true:=by simp;omega
  have hd:ds[i]? = some ds[i]:=List.getElem?_eq_getElem hi
  obtain⟨b,off,cs,rfl,hRb,hcs0,hle,hL⟩:=bF.get hE hd
  rw[Nat.zero_add] at hle hL
  have c1:=(h.ext.cells (hw0.cells hb)).trans hb
  have hcs:=(h.ext.cells (hw0.cells hcs0)).trans hcs0
  obtain⟨s,bS,e1,x1,hw1,ht⟩:=hO ds[i] (List.getElem_mem hi) _ Z h.wf (hL.keep fun b cs hb hc=>⟨(h.ext.cells (hw0.cells hc)).trans hc,hb⟩)
  obtain⟨m',rfl⟩:∃m',m=m'+1:=⟨m-1,by omega⟩
  obtain⟨u,a_,e2,x2,hw2,hV⟩:=An1 m' (R:=fun _=>True) (R':=fun _=>True) _ _ bS hw1 (h.txt.keep fun b cs hb hc=>⟨(x1.cells (h.wf.cells hc)).trans hc,trivial⟩) ht
  rw[Au2,List.append_assoc,show (ds.take i).flatMap rk++rk ds[i]=(ds.take (i+1)).flatMap rk by rw[List.take_add_one,hd,List.flatMap_append];simp] at hV
  have a1:=FT i (by omega)
  obtain⟨ps,cps,hs3,_⟩:=h.txt.slice
  have hv:=h.wf
  rw[Ap,CE]
  unfold Abn
  simp -implicitDefEqProofs only[go_sem,Wt,S5,Amg,ZL,Amh,ZM,h.f1,h.f4,c1,d1,hi,hcs,hle,e1,e2,a1,List.mem_cons]
  generalize hff:upd _ 4 _=f1'
  exact ih fuel (i+1) f1' _ a_ (by omega) (by omega) {
   f1:=by rw[<-hff];simp -implicitDefEqProofs only[go_sem,reduceCtorEq,h.f1]
   f4:=by rw[<-hff];simp -implicitDefEqProofs only[go_sem,reduceCtorEq]
   txt:=by rw[<-hff];simp -implicitDefEqProofs only[go_sem,reduceCtorEq];exact(N7 hV).keep fun b cs _ hc=>⟨hc,trivial⟩
   wf:=hw2
   ext:=(h.ext.trans x1).trans x2 }
theorem WR(n:Nat)(R:Nat->Prop):∀(N:Nat) (d:D) (v:Value) (Z:aC),d.deep<=N->d.count<=100000->(∀t∈nmD d,t∈Tb.tab)->Wf Z->aU R Z v d->
  Gives ((env (n+1+N)).call 71 [v] none Z) Z fun w V=>TxtR (fun _=>True) V w (asc fun r=>decide (r∈rk d)):=by
 intro N
 induction N with
 | zero=>
  intro d v Z hN
  obtain⟨k,z,t,ds⟩:=d
  rw[D.deep] at hN
  omega
 | succ N ih=>
  intro d v Z hN hcn hT hw hL
  obtain⟨k,z,t,ds⟩:=d
  rw[D.count] at hcn
  rw[D.deep] at hN
  rw[nmD] at hT
  have hlen:=E1 ds
  obtain⟨p,c,rfl,hE⟩:=hL
  obtain⟨M,hM⟩:∃M,n+1+N=M:=⟨_,rfl⟩
  rw[hM] at ih
  rw[show n+1+(N+1)=M+1 by omega,Ai _ 71 _ _ rfl,Apr _ _ _ _ (by simp),Ah]
  unfold AnC
  have x1:Ext Z (Z.push (.cells [.int .i64 k,.int .i64 z,.string t,.slice p ds.length c] TD) none):=(Ext.refl _).push _ _
  have hw1:=hw.push (.cells [.int .i64 k,.int .i64 z,.string t,.slice p ds.length c] TD) none
  have c1:(Z.push (.cells [.int .i64 k,.int .i64 z,.string t,.slice p ds.length c] TD) none).cells Z.next=some [.int .i64 k,.int .i64 z,.string t,.slice p ds.length c]:=by rw[Al,if_pos rfl];rfl
  have hE1:bF R (Z.push (.cells [.int .i64 k,.int .i64 z,.string t,.slice p ds.length c] TD) none) p 0 ds:=hE.keep fun b cs hb hc=>⟨(x1.cells (hw.cells hc)).trans hc,hb⟩
  have hO:∀d∈ds,∀v Z,Wf Z->aU R Z v d->Gives ((env M).call 71 [v] none Z) Z fun w V=>TxtR (fun _=>True) V w (asc fun r=>decide (r∈rk d)):=fun d hd v Z hw hL=>ih d v Z (by have:=EK hd;omega) (by have:=GM hd;omega) (fun t ht=>hT t (List.mem_append_right _ (Vs hd t ht))) hw hL
  simp -implicitDefEqProofs only[go_sem,Amd,ZI,Ame,ZJ]
  generalize aC.push _ _ _=bS at x1 hw1 c1 hE1 ⊢
  by_cases h3:k=3
  .have k3:(k==3)=true:=by rw[h3];rfl
   have htab:=J1 (hT t (List.mem_append_left _ (by rw[if_pos h3];exact List.mem_singleton.2 rfl)))
   obtain⟨s',τ,ea,hV,ch,hwτ⟩:=GJ (Q:=fun b=>bS.next<=b) (s:=.slice none 0 0) (l:=[]) (.inl ⟨rfl,rfl⟩) hw1 (rank t) (fun b hb=>hb) (by simp)
   rw[htab.1] at ea
   rw[List.nil_append] at hV
   have o:=hV.one
   have xτ:Ext bS τ:=ch.ext fun b hb h=>by omega
   simp -implicitDefEqProofs only[go_sem,Wq,S1,Amf,ZK,Ws,S3,c1,k3,ea,Af9]
   generalize hff:upd _ 4 _=f1
   generalize hgg:upd _ 12 _=g1
   generalize hbf:bL=fuel
   obtain⟨f2,g2,a_,e2,h2⟩:=Abr M (by omega) (b1:=Z.next) (c:=c) (own:=[rank t]) (by omega) hwτ (hE1.keep fun b cs hb hc=>⟨(xτ.cells (hw1.cells hc)).trans hc,hb⟩) ((xτ.cells (hw1.cells c1)).trans c1) hO ds.length fuel 0 f1 g1 τ (by omega) (by rw[<-hbf];show ds.length<1000000000000;omega) {
    f1:=by rw[<-hff];simp -implicitDefEqProofs only[go_sem,reduceCtorEq]
    f4:=by rw[<-hff];simp -implicitDefEqProofs only[go_sem,reduceCtorEq]<;>rfl
    txt:=by
     rw[List.take_zero,List.flatMap_nil,List.append_nil,<-Aoc htab.2,<-hff]
     simp -implicitDefEqProofs only[go_sem,reduceCtorEq]
     exact(N7 hV).keep fun b cs _ hc=>⟨hc,trivial⟩
    wf:=hwτ
    ext:=Ext.refl _ }
   rw[e2]
   have hfin:=h2.txt
   rw[List.take_length] at hfin
   simp -implicitDefEqProofs only[go_sem,Wu,S9,Bb,AH,AL,BD]
   refine⟨_,_,rfl,(x1.trans xτ).trans h2.ext,h2.wf,?_⟩
   rw[AuW]
   have:(symR (.mk k z t ds)).toList=[rank t]:=by rw[symR,if_pos h3];rfl
   rw[this]
   exact hfin
  .have k3:(k==3)=false:=beq_eq_false_iff_ne.2 h3
   simp -implicitDefEqProofs only[go_sem,Wq,S1,Ws,S3,c1,k3,Ag,Af9]
   generalize hff:upd _ 4 _=f1
   generalize hgg:upd _ 7 _=g1
   generalize hbf:bL=fuel
   obtain⟨f2,g2,a_,e2,h2⟩:=Abr M (by omega) (b1:=Z.next) (c:=c) (own:=[]) (by omega) hw1 hE1 c1 hO ds.length fuel 0 f1 g1 bS (by omega) (by rw[<-hbf];show ds.length<1000000000000;omega) {
    f1:=by rw[<-hff];simp -implicitDefEqProofs only[go_sem,reduceCtorEq]
    f4:=by rw[<-hff];simp -implicitDefEqProofs only[go_sem,reduceCtorEq]<;>rfl
    txt:=by
     rw[List.take_zero,List.flatMap_nil,List.append_nil,<-Afw,<-hff]
     simp -implicitDefEqProofs only[go_sem,reduceCtorEq]
     exact .inl ⟨rfl,rfl⟩
    wf:=hw1
    ext:=Ext.refl _ }
   rw[e2]
   have hfin:=h2.txt
   rw[List.take_length] at hfin
   simp -implicitDefEqProofs only[go_sem,Wu,S9,Bb,AH,AL,BD]
   refine⟨_,_,rfl,x1.trans h2.ext,h2.wf,?_⟩
   rw[AuW]
   have:(symR (.mk k z t ds)).toList=[]:=by rw[symR,if_neg h3];rfl
   rw[this]
   exact hfin
section
variable (M n n2:Nat) (hM:M=n+404) (d:D) (hc:d.count<=400) (hT:∀t∈nmD d,t∈Tb.tab) (lv:List Value) (h4:lv.length=4)
include hM hc hT h4
theorem Oy(Z:aC)(hw:Wf Z)(hL:aU (fun b=>b<Z.next) Z (.agg lv.toArray) d):
  Gives ((env (M+3)).call 14 [.agg lv.toArray] none Z) Z fun w V=>SymOk d (fun _=>True) V w:=by
 have dd:=D_ d
 have ht:lv.take 4=lv:=List.take_of_length_le (by omega)
 rw[Ai _ 14 _ _ rfl,Ao5 _ _ _ _ (by simp),Ah]
 unfold Anf SymOk symsR
 have x1:Ext Z (Z.push (.cells lv TD) none):=(Ext.refl _).push _ _
 have hw1:=hw.push (.cells lv TD) none
 have c1:(Z.push (.cells lv TD) none).cells Z.next=some lv:=by rw[Al,if_pos rfl];rfl
 have st:∀ {τ:aC},Ext Z τ->aU (fun b=>b<τ.next) τ (.agg lv.toArray) d:=fun hX=>hL.keep fun b cs hb hc=>⟨(hX.cells hb).trans hc,by have:=hX.next;omega⟩
 simp -implicitDefEqProofs only[go_sem,Ajy,Yv]
 generalize aC.push _ _ _=bS at x1 hw1 c1 ⊢
 obtain⟨_,a_,e2,x2,hw2,rfl⟩:=Hm _ d lv h4 bS hw1 (st x1) M n 400 (by omega) (by omega) (by omega)
 have c2:=(x2.cells (hw1.cells c1)).trans c1
 have X2:=x1.trans x2
 by_cases e0:bC d=0
 .have z0:(((bC d:Nat):Int)==0)=true:=by rw[e0];rfl
  simp only[if_pos e0]
  obtain⟨s,bT,e3,x3,hw3,hV⟩:=WR (n+5) (fun b=>b<a_.next) 400 d (.agg lv.toArray) a_ (by omega) (by omega) hT hw2 (st X2)
  rw[show n+5+1+400=M+2 by omega] at e3
  simp -implicitDefEqProofs only[go_sem,VI,RQ,VJ,RR,AjA,Yx,c1,c2,h4,ht,e2,z0,e3,Ag,Bb,AH,AL,BD,Nat.le_refl]
  exact⟨_,_,rfl,X2.trans x3,hw3,s,by rw[e0];rfl,hV⟩
 .have z0:(((bC d:Nat):Int)==0)=false:=by simp;omega
  simp only[if_neg e0]
  simp -implicitDefEqProofs only[go_sem,VI,RQ,VJ,RR,Ajz,Yw,c1,h4,ht,e2,z0,Ag,Bb,AH,AL,BD,Nat.le_refl]
  exact⟨_,_,rfl,X2,hw2,_,rfl,.inl ⟨rfl,rfl⟩⟩
end
end
section
open Go Go.Eng
attribute [local congr] Aa Af Ad Ab Ac
attribute [-go_sem] List.range_succ
section
variable (M n N:Nat) (hM:M=n+4+N) (d e:D) (hdN:d.deep<=N) (heN:e.deep<=N) (hN:N<10000) (hd:d.count<900) (he:e.count<900) (lv mv:List Value) (h4:lv.length=4) (hm4:mv.length=4) (Z:aC) (hw:Wf Z) (hL:aU (fun b=>b<Z.next) Z (.agg lv.toArray) d) (hLe:aU (fun b=>b<Z.next) Z (.agg mv.toArray) e)
include hM hdN heN hd he h4 hm4 hw hL hLe
end
def bigE(d:D):Nat:=if d.count<=2000 then 0 else 8
section
variable (M n:Nat) (hM:M=n+2001) (R:Nat->Prop) (d:D) (lv:List Value) (h4:lv.length=4) (Z:aC) (hw:Wf Z) (hL:aU R Z (.agg lv.toArray) d)
include hM h4 hw hL
end
section
variable (M m n:Nat) (hm:M=m+22) (hM:M=n+300) (d x:D) (hd:d.count<=150) (hx:x.count<=150) (lv xv:List Value) (h4:lv.length=4) (hx4:xv.length=4)
include hm hM hd hx h4 hx4
def FindOk(d x:D)(base:Nat)(w:Value)(Z:aC):Prop:=if twoE d x=0 then ∃u,w=.tuple #[u,.int .i64 0]/\ResP x (d.pieces []) base u Z else w=.tuple #[.slice none 0 0,.int .i64 (twoE d x:Nat)]
end
section
variable (M n n2:Nat) (hM:M=n+2001) (hM2:M=n2+200) (d x:D) (hd:d.count<=150) (hx:x.count<=150) (lv xv:List Value) (h4:lv.length=4) (hx4:xv.length=4)
include hM hM2 hd hx h4 hx4
end
def FindRef(d x:D)(w:Value)(Z:aC):Prop:=∃u us,w=.tuple #[u,.int .i64 (twoE d x:Nat)]/\Vecs TP (fun _=>True) Z u us/\PathsL (fun _=>True) Z us (if twoE d x=0 then foundIn x (d.pieces []) else [])
end
section
open Go Go.Eng
def insU(x:ByteArray):List ByteArray->List ByteArray
 | []=>[x]
 | y::l=>if x.data.toList<y.data.toList then x::y::l else if x=y then y::l else y::insU x l
def tabOf:List ByteArray->List ByteArray
 | []=>[]
 | x::l=>insU x (tabOf l)
theorem MU(x z:ByteArray):∀l,z∈insU x l↔z=x\/z∈l
 | []=>by simp[insU]
 | y::l=>by
  rw[insU]
  split
  .simp
  .split
   .rename_i h
    subst h
    simp
   .rw[List.mem_cons,MU x z l,List.mem_cons]
    constructor
    .rintro(h|h|h)
     .exact .inr (.inl h)
     .exact .inl h
     .exact .inr (.inr h)
    .rintro(h|h|h)
     .exact .inr (.inl h)
     .exact .inl h
     .exact .inr (.inr h)
theorem Lb(x:ByteArray):∀l:List ByteArray,l.Pairwise (fun a b=>a.data.toList<b.data.toList)->(insU x l).Pairwise fun a b=>a.data.toList<b.data.toList
 | [],_=>by simp[insU]
 | y::l,h=>by
  have h':=List.pairwise_cons.1 h
  rw[insU]
  split
  .rename_i hxy
   exact List.pairwise_cons.2 ⟨fun z hz=>by
    rcases List.mem_cons.1 hz with rfl|hz
    .exact hxy
    .exact List.lt_trans hxy (h'.1 z hz),h⟩
  .rename_i hxy
   split
   .exact h
   .rename_i hne
    refine List.pairwise_cons.2 ⟨fun z hz=>?_,Lb x l h'.2⟩
    rcases (MU x z l).1 hz with rfl|hz
    .have hle:y.data.toList<=z.data.toList:=List.not_lt.1 hxy
     by_cases hlt:y.data.toList<z.data.toList
     .exact hlt
     .have hle':z.data.toList<=y.data.toList:=List.not_lt.1 hlt
      have he:=Array.toList_inj.1 (List.le_antisymm hle hle')
      exact absurd (by cases y;cases z;cases he;rfl) hne
    .exact h'.1 z hz
theorem Vf(x:ByteArray):∀l:List ByteArray,(insU x l).length<=l.length+1
 | []=>by simp[insU]
 | y::l=>by
  rw[insU]
  split
  .simp
  .split
   .simp
   .have:=Vf x l
    simp only[List.length_cons]
    omega
theorem PW(z:ByteArray):∀l,z∈tabOf l↔z∈l
 | []=>by simp[tabOf]
 | x::l=>by rw[tabOf,MU,PW z l,List.mem_cons]
theorem J_:∀l,(tabOf l).Pairwise fun a b=>a.data.toList<b.data.toList
 | []=>.nil
 | x::l=>Lb x _ (J_ l)
theorem PV:∀l,(tabOf l).length<=l.length
 | []=>by simp[tabOf]
 | x::l=>by
  have h1:=Vf x (tabOf l)
  have h2:=PV l
  rw[tabOf,List.length_cons]
  omega
mutual
theorem Abt:∀d:D,(nmD d).length<=d.count
 | .mk k z t ds=>by
  have:=Vr ds
  rw[nmD,D.count,List.length_append]
  have:(if k=3 then [t] else []).length<=1:=by split<;>simp
  omega
theorem Vr:∀ds:List D,(nmDs ds).length<=D.counts ds
 | []=>by simp[nmDs]
 | d::ds=>by
  have:=Abt d
  have:=Vr ds
  rw[nmDs,D.counts,List.length_append]
  omega
end
mutual
theorem O2:∀(d:D) (path:List Nat) (x:List Nat×D),x∈d.pieces path->∀z t ps,x.2=D.mk 3 z t ps->t∈nmD d
 | .mk k z t ds,path,x,hx,z',t',ps,e=>by
  rw[D.pieces,List.mem_cons] at hx
  rw[nmD,List.mem_append]
  rcases hx with rfl|hx
  .cases e
   exact .inl (by rw[if_pos rfl];exact List.mem_singleton.2 rfl)
  .exact .inr (M5 ds path 0 x hx z' t' ps e)
theorem M5:∀(ds:List D) (path:List Nat) (i:Nat) (x:List Nat×D),x∈D.piecesL path i ds->∀z t ps,x.2=D.mk 3 z t ps->t∈nmDs ds
 | [],path,i,x,hx,_,_,_,_=>by simp[D.piecesL] at hx
 | d::ds,path,i,x,hx,z,t,ps,e=>by
  rw[D.piecesL,List.mem_append] at hx
  rw[nmDs,List.mem_append]
  rcases hx with hx|hx
  .exact .inl (O2 d _ x hx z t ps e)
  .exact .inr (M5 ds path (i+1) x hx z t ps e)
end
theorem Axf(d:D)(hc:d.count<=400):∃T:Tb,∀t∈nmD d,t∈T.tab:=
 ⟨⟨tabOf (nmD d),J_ _,Nat.le_trans (PV _) (Nat.le_trans (Abt d) hc)⟩,fun t ht=>(PW t _).2 ht⟩
theorem ArE[Tb]{d:D}(hc:d.count<=400)(hT:∀t∈nmD d,t∈Tb.tab)(h:bC d=0):Syms d where
 good:=fun path k z t ds hx=>by
  have h0:aO k z t ds.length=0:=Aff d [] h (path,.mk k z t ds) hx
  unfold aO at h0
  by_cases hk:0<=k/\k<=6
  .rw[if_pos hk] at h0
   by_cases hf:formB k z t ds.length=true
   .rw[if_pos hf] at h0;cases h0
   .rw[Bool.not_eq_true] at hf
    unfold formB at hf
    simp only[Bool.or_eq_false_iff,Bool.and_eq_false_iff,Bool.not_eq_false',bne_eq_false_iff_eq,decide_eq_false_iff_not,Bool.or_eq_true,beq_iff_eq,ne_eq,Decidable.not_not,beq_eq_false_iff_ne] at hf
    obtain⟨⟨⟨h1,h2⟩,h3⟩,_⟩:=hf
    refine⟨k.toNat,by omega,by omega,fun hk3=>?_⟩
    have hk3':k=3:=by omega
    subst hk3'
    refine⟨hT t (O2 d [] _ hx z t ds rfl),?_,?_⟩
    .rcases h1 with h|h
     .omega
     .exact h
    .refine List.length_eq_zero_iff.1 ?_
     rcases h3 with h|h
     .omega
     .omega
  .rw[if_neg hk] at h0;cases h0
 small:=KZ (by omega)
 few:=by rw[DY];omega
end
section
open Go Go.Eng
attribute [local congr] Aa Af Ad Ab Ac
attribute [-go_sem] List.range_succ
structure ListI (P:Nat->Prop) (l r bt:Nat) (f g:Nat->Value) (cur:D) (Z:aC):Prop where
 wf:Wf Z
 le:bt<r/\r<l/\l<Z.next
 fresh:∀b,l<b->P b
 loop:bR 85 [9,10] Au3 Au4 7 16 f g l r .ready Z
 col:∃ver,Z.heap.get r=some ⟨.defd true,false,none,ver⟩
 cell:∃ver tv,Z.heap.get bt=some ⟨.cells tv TD,false,none,ver⟩/\tv.length=4/\aU (fun b=>P b/\b≠l/\b≠r/\b≠bt) Z (.agg tv.toArray) cur
def pre:Nat->Int
 | 0 => -1
 | k+1=>.ofNat k
theorem AaP(cs l4:List Value)(off j:Nat)(hl:l4.length=4)(ho:off+4<=cs.length)(h:j+4<=off\/off+4<=j):((cs.take off++l4++cs.drop (off+4)).drop j).take 4=(cs.drop j).take 4:=by
 apply List.ext_getElem?
 intro i
 rw[List.getElem?_take,List.getElem?_take]
 split
 .rw[List.getElem?_drop,List.getElem?_drop]
  rcases h with h|h
  .rw[List.append_assoc,List.getElem?_append_left (by rw[List.length_take];omega),List.getElem?_take,if_pos (by omega)]
  .rw[List.getElem?_append_right (by rw[List.length_append,List.length_take];omega),List.getElem?_drop,List.length_append,List.length_take,hl]
   congr 1
   omega
 .rfl
theorem Ae8(cs l4:List Value)(off:Nat)(hl:l4.length=4)(ho:off+4<=cs.length):((cs.take off++l4++cs.drop (off+4)).drop off).take 4=l4:=by
 rw[List.append_assoc,List.drop_append_of_le_length (by rw[List.length_take];omega),List.drop_eq_nil_of_le (by rw[List.length_take];omega),List.nil_append,List.take_append_of_le_length (by omega),List.take_of_length_le (by omega)]
theorem Row.set{R:Nat->Prop}{Z:aC}{cs l4:List Value}{ds:List D}{d:D}(h:Row R Z cs ds)(i:Nat)(hi:i<ds.length)(hl:l4.length=4)(ho:l4.all oneCell=true)(hd:aU R Z (.agg l4.toArray) d):Row R Z (cs.take (i*4)++l4++cs.drop (i*4+4)) (ds.set i d):=by
 obtain⟨h1,h2,h3⟩:=h
 refine⟨by rw[List.length_append,List.length_append,List.length_take,List.length_drop,List.length_set];omega,?_,fun j e he=>?_⟩
 .rw[List.all_append,List.all_append,ho]
  have a1:(cs.take (i*4)).all oneCell=true:=List.all_eq_true.2 fun x hx=>List.all_eq_true.1 h2 x (List.mem_of_mem_take hx)
  have a2:(cs.drop (i*4+4)).all oneCell=true:=List.all_eq_true.2 fun x hx=>List.all_eq_true.1 h2 x (List.mem_of_mem_drop hx)
  rw[a1,a2];rfl
 .by_cases hj:i=j
  .subst hj
   rw[List.getElem?_set_self (by omega)] at he
   cases he
   rw[Ae8 cs l4 _ hl (by omega)]
   exact hd
  .rw[List.getElem?_set_ne hj] at he
   rw[AaP cs l4 _ _ hl (by omega) (by omega)]
   exact h3 j e he
def Turned(ds:List D)(i:Nat)(cur:List D):Prop:=cur.length=ds.length/\∀k,k<ds.length->cur[k]? = if k<i\/ds.length-i<=k then ds[ds.length-1-k]? else ds[k]?
theorem Turned.step{ds cur:List D}{i:Nat}(h:Turned ds i cur)(hi:i+1+i<ds.length):∃x y,cur[i]? = some x/\cur[ds.length-1-i]? = some y/\Turned ds (i+1) ((cur.set i y).set (ds.length-1-i) x):=by
 obtain⟨h1,h2⟩:=h
 have e1:=h2 i (by omega)
 have e2:=h2 (ds.length-1-i) (by omega)
 rw[if_neg (by omega)] at e1
 rw[if_neg (by omega)] at e2
 obtain⟨x,hx⟩:∃x,ds[i]? = some x:=⟨_,List.getElem?_eq_getElem (by omega)⟩
 obtain⟨y,hy⟩:∃y,ds[ds.length-1-i]? = some y:=⟨_,List.getElem?_eq_getElem (by omega)⟩
 refine⟨x,y,by rw[e1,hx],by rw[e2,hy],by rw[List.length_set,List.length_set,h1],fun k hk=>?_⟩
 by_cases k1:ds.length-1-i=k
 .subst k1
  rw[List.getElem?_set_self (by rw[List.length_set];omega),if_pos (by omega),show ds.length-1-(ds.length-1-i)=i by omega,hx]
 .rw[List.getElem?_set_ne k1]
  by_cases k2:i=k
  .subst k2
   rw[List.getElem?_set_self (by omega),if_pos (by omega),hy]
  .rw[List.getElem?_set_ne k2,h2 k hk]
   by_cases c:k<i\/ds.length-i<=k
   .rw[if_pos c,if_pos (by omega)]
   .rw[if_neg c,if_neg (by omega)]
theorem Turned.done{ds cur:List D}{i:Nat}(h:Turned ds i cur)(hi:ds.length<=i+1+i):cur=ds.reverse:=by
 obtain⟨h1,h2⟩:=h
 apply List.ext_getElem?
 intro k
 by_cases hk:k<ds.length
 .rw[List.getElem?_reverse hk,h2 k hk]
  by_cases c:k<i\/ds.length-i<=k
  .rw[if_pos c]
  .rw[if_neg c,show ds.length-1-k=k by omega]
 .rw[List.getElem?_eq_none (by omega),List.getElem?_eq_none (by rw[List.length_reverse];omega)]
theorem Turned.start(ds:List D):Turned ds 0 ds:=⟨rfl,fun k hk=>by rw[if_neg (by omega)]⟩
structure Elems (M:Nat) (es:List D):Prop where
 sane:∀e∈es,Sane M e
 deep:∀e∈es,e.deep<=4
 len:es.length<=12
 few:D.counts es<=1900
theorem Agq:nilD.deep=1:=rfl
theorem Ado:nilD.count=1:=rfl
theorem Elems.count{M:Nat}{es:List D}(h:Elems M es):(listD nilD es).count<=2000:=by rw[Ld,Ado];have:=h.len;have:=h.few;omega
theorem Elems.depth{M:Nat}{es:List D}(h:Elems M es):(listD nilD es).deep<=16:=by
 have:=MZ nilD 4 es h.deep
 rw[Agq] at this
 have:=h.len
 omega
theorem Elems.all{M:Nat}{es:List D}(h:Elems M es):Sane M (listD nilD es):=PP (AnO M) h.sane
theorem Elems.reverse{M:Nat}{es:List D}(h:Elems M es):Elems M es.reverse:=⟨fun e he=>h.sane e (List.mem_reverse.1 he),fun e he=>h.deep e (List.mem_reverse.1 he),by rw[List.length_reverse];exact h.len,by rw[Hn];exact h.few⟩
structure HeadFr (q:Option Addr) (c:Nat) (es:List D) (bU:aC) (i:Nat) (ff:Nat->Value) (f g:Nat->Value) (Z:aC):Prop where
 g5:g 5=.slice q es.length c
 g6:g 6=.int .i64 (.ofNat es.length)
 g7:g 7=.int .i64 (.ofNat i)
 f0:f 0=ff 0
 f1:f 1=ff 1
 f2:f 2=.int .i64 (.ofNat (i+D.counts (es.take i)+1))
 wf:Wf Z
 ext:Ext bU Z
theorem Vec.slice{Z:aC}{lo:Nat}{s:Value}{ds:List D}(h:Vec Z lo s ds):∃p,s=.slice p ds.length ds.length/\bF (fun b=>lo<b) Z p 0 ds:=by
 rcases h with⟨rfl,rfl⟩|⟨b,cs,ver,rfl,hb,hq,hr⟩
 .exact⟨none,rfl,trivial⟩
 .exact⟨_,rfl,hr.elems (AB hb) hq (fun c hc=>hc.1) 0 ds fun j e he=>by rwa [Nat.zero_add]⟩
theorem Vec.spot{Z:aC}{lo:Nat}{s:Value}{ds:List D}(hw:Wf Z)(h:Vec Z lo s ds):∀b n m,s=.slice (some ⟨b,0,none⟩) n m->b<Z.next/\lo<b:=by
 intro b n m hs
 rcases h with⟨_,h⟩|⟨b',cs,ver,h,hb,hlb,_⟩
 .rw[hs] at h;cases h
 .rw[hs] at h;cases h;exact⟨(hw _ _ hb).1,hlb⟩
theorem Vec.ones{Z:aC}{lo:Nat}{s:Value}{ds:List D}(h:Vec Z lo s ds):oneCell s=true/\aM s=true/\aI s=[s]:=by
 rcases h with⟨rfl,rfl⟩|⟨b,cs,ver,rfl,hb,hq,hr⟩<;>exact⟨rfl,rfl,rfl⟩
theorem AvW:bH nls 10=[30]:=by kernel_rfl
def KeepAt(m:Nat)(d:D):Prop:=∀(lv:List Value) (R:Nat->Prop) (Z:aC),Wf Z->aU R Z (.agg lv.toArray) d->(∀b,R b->b<Z.next)->Gives ((env m).call 10 [.agg lv.toArray] none Z) Z fun w V=>aU (fun b=>Z.next<=b) V w d
structure HeadKd (b0:Nat) (R:Nat->Prop) (k z:Int) (t:ByteArray) (q:Option Addr) (c:Nat) (ds:List D) (bU:aC) (i:Nat) (f:Nat->Value) (Z:aC):Prop where
 f1:f 1=.pointer (some ⟨b0,0,none⟩)
 f2:f 2=.pointer (some ⟨b0+1,0,none⟩)
 f3:f 3=.pointer (some ⟨b0+2,0,none⟩)
 f4:f 4=.int .i64 (.ofNat i)
 c1:Z.cells b0=some [.int .i64 k,.int .i64 z,.string t,.slice q ds.length c]
 g2:∃ver,Z.heap.get (b0+1)=some ⟨.cells [.int .i64 0,.int .i64 0,.string ⟨#[]⟩,.slice none 0 0] TD,false,none,ver⟩
 g3:∃ver s,Z.heap.get (b0+2)=some ⟨.cells [.int .i64 k,.int .i64 z,.string t,s] TD,false,none,ver⟩/\Vec Z (b0+2) s (ds.take i)
 lay:bF R Z q 0 ds
 wf:Wf Z
 ext:Ext bU Z
theorem XO(m:Nat){b0:Nat}{R:Nat->Prop}{k z:Int}{t:ByteArray}{q:Option Addr}{c:Nat}{ds:List D}{bU:aC}(hC:∀d∈ds,KeepAt m d)(hb0:bU.next=b0)(hR:∀b,R b->b<b0)(hfew:ds.length<900):
  ∀(j fuel i:Nat) (f g:Nat->Value) (Z:aC),i+j=ds.length->j<fuel->HeadKd b0 R k z t q c ds bU i f Z->
   ∃f' g' V,floop [30] (Abj (env m) none 10) fuel (Sl 5 31 f g []) none Z=.done (.exit 0) (Sl 5 31 f' g' []) none V/\HeadKd b0 R k z t q c ds bU ds.length f' V:=by
 intro j
 induction j with
 | zero=>
  intro fuel i f g Z hij hf h
  obtain⟨fuel,rfl⟩:∃q,fuel=q+1:=⟨fuel-1,by omega⟩
  obtain rfl:i=ds.length:=by omega
  have d1:decide (Int.ofNat ds.length<Int.ofNat ds.length)=false:=by simp
  rw[Ap]
  unfold Abj
  simp -implicitDefEqProofs only[go_sem,VA,QN,h.f1,h.f4,h.c1,d1]
  exact⟨_,_,_,rfl,h⟩
 | succ j ih=>
  intro fuel i f g Z hij hf h
  obtain⟨fuel,rfl⟩:∃q,fuel=q+1:=⟨fuel-1,by omega⟩
  have hi:i<ds.length:=by omega
  have d1:decide (Int.ofNat i<Int.ofNat ds.length)=true:=by simp;omega
  have hd:ds[i]? = some ds[i]:=List.getElem?_eq_getElem hi
  have hmem:=List.getElem_mem hi
  have hw:=h.wf
  obtain⟨b,off,cs,rfl,hRb,hcs,hle,hL⟩:=bF.get h.lay hd
  rw[Nat.zero_add] at hle hL
  obtain⟨vt,ht2⟩:=h.g2
  obtain⟨v3,s,hg3,hV⟩:=h.g3
  have hn3:=(hw _ _ hg3).1
  obtain⟨_,bS,e1,x1,hw1,hL1⟩:=hC _ hmem ((cs.drop (off+i*4)).take 4) R Z hw hL (fun b hb=>by have:=hR b hb;omega)
  obtain⟨l4,rfl,hl4,ho4⟩:=hL1.agg
  have n1:=x1.next
  have hsp:=hV.spot hw
  have hV1:Vec bS (b0+2) s (ds.take i):=hV.keep hw fun c h1 h2=>x1.get c h2
  obtain⟨s',τ,ha,ho,hVτ,hwτ,hnτ,hcτ,hg1,hg2⟩:=N0 bS (b0+2) s (ds.take i) ds[i] l4 hw1 (by omega) hl4 ho4 (by rw[List.length_take];omega) hV1 (hL1.keep fun c cs hc h=>⟨h,by omega,fun b n m hs=>by have:=hsp b n m hs;omega⟩)
  rw[show ds.take i++[ds[i]]=ds.take (i+1) by rw[List.take_add_one,hd];rfl] at hVτ
  have hvw:=D1 hw (lam:=Z.clock) (Nat.le_refl _)
  have hv3:(view bS Z.clock).cells (b0+2)=some [.int .i64 k,.int .i64 z,.string t,s]:=Kd hw (Nat.le_refl _) (x1.get _ hn3) (AB hg3)
  have hg3τ:τ.heap.get (b0+2)=some ⟨.cells [.int .i64 k,.int .i64 z,.string t,s] TD,false,none,v3⟩:=(hg1 _ (Nat.le_refl _)).trans ((x1.get _ hn3).trans hg3)
  have w3:=FT i (by omega)
  have o':=hVτ.ones
  have hc1:=h.c1
  rw[Ap]
  unfold Abj
  simp -implicitDefEqProofs only[go_sem,AP,VA,QN,AgG,Yk,AgH,Yl,h.f1,h.f3,h.f4,hc1,d1,hi,hvw,hcs,hle,e1,hv3,hl4,ho4,ha,o'.1,o'.2.1,o'.2.2,hg3τ,w3]
  generalize hff:upd _ 4 _=f1
  have kR:∀b cs,b<b0->Z.cells b=some cs->(τ.put (b0+2) (.cells [.int .i64 k,.int .i64 z,.string t,s'] TD) none).cells b=some cs:=fun b cs hb hc=>by
   rw[Aq,if_neg (by omega),Av,hg1 b (by omega),<-Av]
   exact(x1.cells (hw.cells hc)).trans hc
  exact ih fuel (i+1) f1 _ _ (by omega) (by omega) {
   f1:=by rw[<-hff];simp -implicitDefEqProofs only[go_sem,reduceCtorEq,h.f1]
   f2:=by rw[<-hff];simp -implicitDefEqProofs only[go_sem,reduceCtorEq,h.f2]
   f3:=by rw[<-hff];simp -implicitDefEqProofs only[go_sem,reduceCtorEq,h.f3]
   f4:=by rw[<-hff];simp -implicitDefEqProofs only[go_sem,reduceCtorEq]
   c1:=by
    have:=hw.cells hc1
    rw[Aq,if_neg (by omega),Av,hg1 b0 (by omega),<-Av]
    exact(x1.cells this).trans hc1
   g2:=⟨vt,by rw[Ak,if_neg (by omega),hg1 _ (by omega),x1.get _ (by omega)];exact ht2⟩
   g3:=⟨_,s',by rw[Ak,if_pos rfl],hVτ.keep hwτ fun c h1 h2=>by rw[Ak,if_neg (by omega)]⟩
   lay:=h.lay.keep fun b cs hb hc=>⟨kR b cs (hR b hb) hc,hb⟩
   wf:=hwτ.put _ _ _ (by omega)
   ext:=⟨by rw[Ao];have:=h.ext.next;omega,by rw[AX];have:=h.ext.clock;have:=x1.clock;omega,fun b hb=>by
    rw[Ak,if_neg (by omega),hg2 b (by have:=h.ext.next;omega) (fun b' n m hs=>by have:=hsp b' n m hs;omega),x1.get b (by have:=h.ext.next;omega)]
    exact h.ext.get b hb⟩ }
theorem XP(m:Nat)(k z:Int)(t:ByteArray)(ds:List D)(hfew:ds.length<900)(hC:∀d∈ds,KeepAt m d):KeepAt (m+1) (.mk k z t ds):=by
 intro lv R Z hw hL hR
 have hL0:=hL
 obtain⟨q,c,hv,hE⟩:=hL
 have hlv:lv=[.int .i64 k,.int .i64 z,.string t,.slice q ds.length c]:=by
  have:=Value.agg.inj hv
  simpa using congrArg Array.toList this
 subst hlv
 rw[Ai _ 10 _ _ rfl,Ao2 _ _ _ _ (by simp),Ah]
 unfold Anb
 have x1:Ext Z ((((Z.push (.cells [.int .i64 k,.int .i64 z,.string t,.slice q ds.length c] TD) none).push (.cells [.int .i64 0,.int .i64 0,.string ⟨#[]⟩,.slice none 0 0] TD) none).push (.cells [.int .i64 0,.int .i64 0,.string ⟨#[]⟩,.slice none 0 0] TD) none).put (Z.next+2) (.cells [.int .i64 k,.int .i64 z,.string t,.slice none 0 0] TD) none):=(((((Ext.refl _).push _ _).push _ _).push _ _).put _ _ _ (by omega))
 have hw1:=((((hw.push (.cells [.int .i64 k,.int .i64 z,.string t,.slice q ds.length c] TD) none).push (.cells [.int .i64 0,.int .i64 0,.string ⟨#[]⟩,.slice none 0 0] TD) none).push (.cells [.int .i64 0,.int .i64 0,.string ⟨#[]⟩,.slice none 0 0] TD) none).put (Z.next+2) (.cells [.int .i64 k,.int .i64 z,.string t,.slice none 0 0] TD) none (by simp only[Ae];omega))
 have c1:((((Z.push (.cells [.int .i64 k,.int .i64 z,.string t,.slice q ds.length c] TD) none).push (.cells [.int .i64 0,.int .i64 0,.string ⟨#[]⟩,.slice none 0 0] TD) none).push (.cells [.int .i64 0,.int .i64 0,.string ⟨#[]⟩,.slice none 0 0] TD) none).put (Z.next+2) (.cells [.int .i64 k,.int .i64 z,.string t,.slice none 0 0] TD) none).cells Z.next=some [.int .i64 k,.int .i64 z,.string t,.slice q ds.length c]:=by
  rw[Aq,if_neg (by omega),Al,if_neg (by simp only[Ae];omega),Al,if_neg (by simp only[Ae];omega),Al,if_pos rfl];rfl
 have g2:((((Z.push (.cells [.int .i64 k,.int .i64 z,.string t,.slice q ds.length c] TD) none).push (.cells [.int .i64 0,.int .i64 0,.string ⟨#[]⟩,.slice none 0 0] TD) none).push (.cells [.int .i64 0,.int .i64 0,.string ⟨#[]⟩,.slice none 0 0] TD) none).put (Z.next+2) (.cells [.int .i64 k,.int .i64 z,.string t,.slice none 0 0] TD) none).heap.get (Z.next+1)=some ⟨.cells [.int .i64 0,.int .i64 0,.string ⟨#[]⟩,.slice none 0 0] TD,false,none,Z.clock+1⟩:=by
  rw[Ak,if_neg (by omega),Aj,if_neg (by simp only[Ae];omega),Aj,if_pos (by rw[Ae])];rfl
 have g3:((((Z.push (.cells [.int .i64 k,.int .i64 z,.string t,.slice q ds.length c] TD) none).push (.cells [.int .i64 0,.int .i64 0,.string ⟨#[]⟩,.slice none 0 0] TD) none).push (.cells [.int .i64 0,.int .i64 0,.string ⟨#[]⟩,.slice none 0 0] TD) none).put (Z.next+2) (.cells [.int .i64 k,.int .i64 z,.string t,.slice none 0 0] TD) none).heap.get (Z.next+2)=some ⟨.cells [.int .i64 k,.int .i64 z,.string t,.slice none 0 0] TD,false,none,Z.clock+3⟩:=by
  rw[Ak,if_pos rfl];rfl
 simp -implicitDefEqProofs only[go_sem,AP,AgD,Yh,AgE,Yi,AgF,Yj,AvW]
 generalize hff:upd _ 4 _=f1
 generalize hbf:bL=fuel
 generalize aC.put _ _ _ _=bS at x1 hw1 c1 g2 g3 ⊢
 obtain⟨f2,g2',a_,e2,h2⟩:=XO m hC rfl hR hfew ds.length fuel 0 f1 _ bS (by omega) (by rw[<-hbf];show ds.length<1000000000000;omega) {
  f1:=by rw[<-hff];simp -implicitDefEqProofs only[go_sem,reduceCtorEq]
  f2:=by rw[<-hff];simp -implicitDefEqProofs only[go_sem,reduceCtorEq]
  f3:=by rw[<-hff];simp -implicitDefEqProofs only[go_sem,reduceCtorEq]
  f4:=by rw[<-hff];simp -implicitDefEqProofs only[go_sem,reduceCtorEq]<;>rfl
  c1:=c1
  g2:=⟨_,g2⟩
  g3:=⟨_,_,g3,.inl ⟨rfl,rfl⟩⟩
  lay:=hE.keep fun b cs hb hc=>⟨(x1.cells (hw.cells hc)).trans hc,hb⟩
  wf:=hw1
  ext:=x1 }
 rw[e2]
 obtain⟨v3,s,hg3,hV⟩:=h2.g3
 obtain⟨v2,hg2⟩:=h2.g2
 have o:=hV.ones
 rw[List.take_length] at hV
 obtain⟨p,rfl,hE2⟩:=hV.slice
 have hc3:=AB hg3
 have m2:=(h2.wf _ _ hg2).1
 simp -implicitDefEqProofs only[go_sem,AP,AgI,Ym,h2.f2,h2.f3,hc3,hg2,Ep,Bb,AH,AL,Dl]
 exact⟨_,_,rfl,h2.ext.put _ _ _ (by omega),h2.wf.put _ _ _ m2,p,_,rfl,hE2.keep fun b cs hb hc=>⟨by rw[Aq,if_neg (by omega)];exact hc,by omega⟩⟩
theorem Vi(n:Nat):∀(N:Nat) (d:D),D.deep d<=N->d.count<900->KeepAt (n+N) d
 | 0,d,h,_=>by cases d;rw[D.deep] at h;omega
 | N+1,.mk k z t ds,h,hc=>by
  rw[D.deep] at h
  rw[D.count] at hc
  have:=Et ds
  exact XP (n+N) k z t ds (by omega) (fun d hd=>Vi n N d (by have:=EK hd;omega) (by have:=Gi hd;omega))
theorem AnQ(d:D):∃a b c:Int,sizeV d=.tuple #[.int .i64 a,.int .i64 b,.int .i64 c]:=by
 unfold sizeV
 split
 .exact⟨_,_,_,rfl⟩
 .exact⟨_,_,_,rfl⟩
theorem Un(q:Nat)(keep:List Nat)(ds:List D)(p1:Option Addr)(c1:Nat)(hds:ds.length<1000)(hD:∀d∈ds,d.count<=400):
  ∀(j fuel i:Nat) (f g:Nat->Value) (Z:aC),ds.length-i=j->j<fuel->i<=ds.length->Wf Z->bF (fun b=>b<Z.next) Z p1 0 ds->
   f 5=.slice p1 ds.length c1->f 6=.int .i64 (.ofNat i)->
   ∃f' g' V,floop keep (Agd (top (q+6000)) none 3) fuel (Sl 18 109 f g []) none Z=.done (.exit 0) (Sl 18 109 f' g' []) none V:=by
 intro j
 induction j with
 | zero=>
  intro fuel i f g Z hj hf hi hw hE f5 f6
  obtain⟨fuel,rfl⟩:∃q,fuel=q+1:=⟨fuel-1,by omega⟩
  obtain rfl:i=ds.length:=by omega
  have d0:decide (Int.ofNat ds.length<Int.ofNat ds.length)=false:=by simp
  rw[Ap]
  unfold Agd
  simp -implicitDefEqProofs only[go_sem,Aca,Ab9,f5,f6,d0,Bool.false_eq_true]
  exact⟨_,_,_,rfl⟩
 | succ j ih=>
  intro fuel i f g Z hj hf hi hw hE f5 f6
  obtain⟨fuel,rfl⟩:∃q,fuel=q+1:=⟨fuel-1,by omega⟩
  have l1:i<ds.length:=by omega
  have d0:decide (Int.ofNat i<Int.ofNat ds.length)=true:=by simp;omega
  obtain⟨b1,o1,s1,rfl,hb1,hs1,hl1,hL⟩:=bF.get hE (List.getElem?_eq_getElem l1)
  rw[Nat.zero_add] at hl1 hL
  have a1:=FT i (by omega)
  have kd:=hD _ (List.getElem_mem l1)
  generalize ds[i]=d at hL kd
  obtain⟨T,hT⟩:=Axf d kd
  have hS:=fun e0=>ArE kd hT e0
  have n1:(List.take 4 (List.drop (o1+i*4) s1)).length=4:=by rw[List.length_take,List.length_drop];omega
  have st:∀ {τ τ':aC},Ext τ τ'->∀ {v:Value} {d:D},aU (fun b=>b<τ.next) τ v d->aU (fun b=>b<τ'.next) τ' v d:=fun hX v d h=>h.keep fun b cs hb hc=>⟨(hX.cells hb).trans hc,by have:=hX.next;omega⟩
  have dd:=D_ d
  have ub1:=hw.cells hs1
  obtain⟨uw,bS,e1,x1,hw1,hLu⟩:=Vi (q+5600) 400 d (by omega) (by omega) _ (fun b=>b<Z.next) Z hw hL (fun b hb=>hb)
  rw[show q+5600+400=q+6000 by omega] at e1
  replace e1:=(Er (q+6000) 10 _ Z rfl).trans e1
  obtain⟨uv,rfl,hu4,huo⟩:=hLu.agg
  have tuv:uv.take 4=uv:=List.take_of_length_le (by omega)
  have x2:Ext bS ((bS.push (.cells [.int .i64 0,.int .i64 0,.string ⟨#[]⟩,.slice none 0 0] TD) none).put bS.next (.cells uv TD) none):=((Ext.refl _).push _ _).put _ _ _ (Nat.le_refl _)
  have hw2:=(hw1.push (.cells [.int .i64 0,.int .i64 0,.string ⟨#[]⟩,.slice none 0 0] TD) none).put bS.next (.cells uv TD) none (Nat.lt_succ_self _)
  have c2':((bS.push (.cells [.int .i64 0,.int .i64 0,.string ⟨#[]⟩,.slice none 0 0] TD) none).put bS.next (.cells uv TD) none).cells bS.next=some uv:=by rw[Aq,if_pos rfl];rfl
  have X2:=x1.trans x2
  have lu2:aU (fun b=>b<((bS.push (.cells [.int .i64 0,.int .i64 0,.string ⟨#[]⟩,.slice none 0 0] TD) none).put bS.next (.cells uv TD) none).next) ((bS.push (.cells [.int .i64 0,.int .i64 0,.string ⟨#[]⟩,.slice none 0 0] TD) none).put bS.next (.cells uv TD) none) (.agg uv.toArray) d:=hLu.keep fun b cs hb hc=>⟨(x2.cells (hw1.cells hc)).trans hc,Nat.lt_of_lt_of_le (hw1.cells hc) x2.next⟩
  rw[Ap]
  unfold Agd
  simp -implicitDefEqProofs only[go_sem,AP,Aca,Ab9,Ark,Alk,f5,f6,d0,l1,hs1,hl1,e1,hu4,huo,Ag,Bool.false_eq_true]
  generalize aC.put _ bS.next _ _=a_ at x2 hw2 c2' X2 lu2 ⊢
  obtain⟨za,zb,zc,hz⟩:=AnQ d
  obtain⟨_,bT,e3,x3,hw3,rfl⟩:=AnR (q+5991) (q+5969) (by omega) d kd uv hu4 a_ hw2 lu2
  replace e3:=(Er (q+6000) 11 _ a_ rfl).trans e3
  have X3:=X2.trans x3
  obtain⟨_,bW,e4,x4,hw4,rfl⟩:=Aan (q+5997) (q+5593) (by omega) d kd _ n1 bT hw3 (st X3 hL)
  replace e4:=(Er (q+6000) 12 _ bT rfl).trans e4
  rw[hz] at e3 e4
  have X4:=X3.trans x4
  have c13:=(X3.cells ub1).trans hs1
  have y24:=x3.trans x4
  have c24:=(y24.cells (hw2.cells c2')).trans c2'
  obtain⟨_,bX,e5,x5,hw5,sa,rfl,hTa⟩:=W7 (q+5991) (q+5969) (by omega) d kd hS uv hu4 bW hw4 (st y24 lu2)
  replace e5:=(Er (q+6000) 13 _ bW rfl).trans e5
  have X5:=X4.trans x5
  obtain⟨_,cA,e6,x6,hw6,sb,rfl,hTb⟩:=Oy (q+5997) (q+5593) (by omega) d kd hT _ n1 bX hw5 (st X5 hL)
  replace e6:=(Er (q+6000) 14 _ bX rfl).trans e6
  have X6:=X5.trans x6
  have c15:=(X5.cells ub1).trans hs1
  simp -implicitDefEqProofs only[go_sem,Arl,Alm,Arm,Aln,Alc,YQ,Ald,YR,f5,f6,l1,c2',hu4,tuv,e3,c13,hl1,e4,c24,e5,c15,e6,Nat.le_refl]
  have y26:=(y24.trans x5).trans x6
  have c26:=(y26.cells (hw2.cells c2')).trans c2'
  obtain⟨_,cB,e7,x7,hw7,rfl⟩:=AcK (q+5991) (q+5969) (by omega) d kd uv hu4 cA hw6 (st y26 lu2)
  replace e7:=(Er (q+6000) 15 _ cA rfl).trans e7
  have X7:=X6.trans x7
  obtain⟨_,cD,e8,x8,hw8,rfl⟩:=Hm (fun b=>b<cB.next) d _ n1 cB hw7 (st X7 hL) (q+5998) (q+5594) 400 (by omega) (by omega) (by omega)
  replace e8:=(Er (q+6000) 16 _ cB rfl).trans e8
  have X8:=X7.trans x8
  have y68:=x7.trans x8
  have e9:=Xy (q+5999) (R:=fun _=>True) (R':=fun _=>True) (l:=symsR d) (fun r hr=>by
   unfold symsR at hr
   split at hr
   .exact((HJ _ r).1 hr).1
   .simp at hr) (by
   unfold symsR
   split
   .have:=P5 (fun r=>decide (r∈rk d));omega
   .simp) cD hw8 (hTa.keep fun b cs hb hc=>⟨((x6.trans y68).cells (hw5.cells hc)).trans hc,trivial⟩) (hTb.keep fun b cs hb hc=>⟨(y68.cells (hw6.cells hc)).trans hc,trivial⟩)
  replace e9:=(Er (q+6000) 17 _ cD rfl).trans e9
  obtain⟨_,cE,e10,x9,hw9,rfl⟩:=ME (q+2000) 2000 d d (.agg uv.toArray) _ cD (by omega) (by omega) hw8 (st (y26.trans y68) lu2).laid (st X8 hL).laid
  rw[IA,show q+2000+2*2000=q+6000 by omega] at e10
  replace e10:=(Er (q+6000) 18 _ cD rfl).trans e10
  have X9:=X8.trans x9
  have v6:=D1 hw6 (Nat.le_refl _)
  have v7:=D1 hw7 (Nat.le_refl _)
  have v8:=D1 hw8 (Nat.le_refl _)
  have c28:=(y68.cells (hw6.cells c26)).trans c26
  have c18:=(X8.cells ub1).trans hs1
  have c17:=(X7.cells ub1).trans hs1
  have c16:=(X6.cells ub1).trans hs1
  have v67:(view cB cA.clock).cells b1=some s1:=Kd hw6 (Nat.le_refl _) (x7.get _ (hw6.cells c16)) c16
  simp -implicitDefEqProofs only[go_sem,Ale,YS,Arj,Alj,f5,f6,l1,v6,v7,v8,v67,c26,c28,c16,c17,c18,hl1,hu4,tuv,e7,e8,e9,e10,a1,Ag,Bool.false_eq_true,Bool.or_false,Bool.or_self,Bool.not_true,beq_self_eq_true,Nat.le_refl]
  generalize hff:upd _ 6 _=f2'
  generalize hgg:upd _ 31 _=g2'
  have stE:bF (fun b=>b<cE.next) cE (some ⟨b1,o1,none⟩) 0 ds:=hE.keep fun b cs hb hc=>⟨(X9.cells hb).trans hc,by have:=X9.next;omega⟩
  have ih':=ih fuel (i+1) f2' g2' cE (by omega) (by omega) (by omega) hw9 stE (by rw[<-hff];simp -implicitDefEqProofs only[go_sem,reduceCtorEq,f5]) (by rw[<-hff];simp -implicitDefEqProofs only[go_sem,reduceCtorEq])
  unfold Agd at ih'
  exact ih'
end
section
open Go Go.Eng
def isCells(W:World)(b:Nat):Bool:=match W.heap[b]? with
 | some (.cells ..)=>true
 | _=>false
def seenV(W:World)(v:Value):Value:=
 match v with
 | .int k n=>.int k n
 | .string s=>.string s
 | .slice none l c=>.slice none l c
 | .slice (some a) l c=>if l=0/\c=0 then .slice (some ⟨0,0,none⟩) 0 0 else if a.spot=none/\isCells W a.block=true then .slice (some ⟨a.block,a.off,none⟩) l c else .tuple #[]
 | _=>.tuple #[]
def seenM(W:World):Mp:=fun b=>if isCells W b=true then some ⟨b,0,true,none⟩ else none
def seenE(W:World)(b:Nat):Option Ent:=match W.heap[b]? with
 | some (.cells c t _)=>some ⟨.cells (c.toList.map (seenV W)) t,true,none,0⟩
 | _=>none
def seenT(W:World):Nat->Tr Ent
 | 0=>.lf
 | n+1=>match seenE W n with
  | some e=>(seenT W n).set n e
  | none=>seenT W n
def seenS(W:World):aC:=⟨seenT W W.heap.size,W.heap.size,1⟩
theorem KX(W:World):∀n b,(seenT W n).get b=if b<n then seenE W b else none
 | 0,b=>by rw[if_neg (Nat.not_lt_zero b)];rfl
 | n+1,b=>by
  rw[seenT]
  cases h:seenE W n with
  | some e=>
   rw[Tr.get_set,KX W n b]
   by_cases hb:b=n
   .subst hb
    rw[if_pos rfl,if_pos (Nat.lt_succ_self b),h]
   .rw[if_neg hb]
    by_cases hl:b<n
    .rw[if_pos hl,if_pos (by omega)]
    .rw[if_neg hl,if_neg (by omega)]
  | none=>
   show (seenT W n).get b=_
   rw[KX W n b]
   by_cases hb:b=n
   .subst hb
    rw[if_neg (Nat.lt_irrefl b),if_pos (Nat.lt_succ_self b),h]
   .by_cases hl:b<n
    .rw[if_pos hl,if_pos (by omega)]
    .rw[if_neg hl,if_neg (by omega)]
theorem KW(W:World)(b:Nat):(seenS W).heap.get b=seenE W b:=by
 show (seenT W W.heap.size).get b=_
 rw[KX]
 by_cases h:b<W.heap.size
 .rw[if_pos h]
 .rw[if_neg h]
  unfold seenE
  rw[Array.getElem?_eq_none (by omega)]
theorem NS{W:World}{b:Nat}{e:Ent}(h:seenE W b=some e):∃c t fr,W.heap[b]? = some (.cells c t fr)/\e=⟨.cells (c.toList.map (seenV W)) t,true,none,0⟩/\b<W.heap.size:=by
 unfold seenE at h
 split at h
 .rename_i c t fr hb
  cases h
  exact⟨c,t,fr,hb,rfl,(Array.getElem?_eq_some_iff.1 hb).1⟩
 .cases h
theorem Acp(W:World):Wf (seenS W):=fun b e h=>by
 rw[KW] at h
 obtain⟨c,t,fr,h1,rfl,h2⟩:=NS h
 exact⟨h2,Nat.lt_succ_self 0⟩
theorem FX{W:World}{b:Nat}:isCells W b=true↔∃c t fr,W.heap[b]? = some (.cells c t fr):=by
 unfold isCells
 split
 .rename_i c t fr h
  exact⟨fun _=>⟨c,t,fr,h⟩,fun _=>rfl⟩
 .rename_i h
  exact⟨fun h'=>(by cases h'),fun ⟨c,t,fr,h'⟩=>absurd h' (h c t fr)⟩
theorem NT{W:World}{b:Nat}{c:Array Value}{t:TypeId}{fr:Nat×Nat}(h:W.heap[b]? = some (.cells c t fr)):(seenS W).cells b=some (c.toList.map (seenV W)):=by
 rw[Av,KW]
 unfold seenE
 rw[h]
 rfl
theorem EZ{W:World}{a:Addr}{v:Value}(h:W.cell? a=some v):a.spot=none/\isCells W a.block=true/\∃c t fr,W.heap[a.block]? = some (.cells c t fr)/\c[a.off]? = some v:=by
 unfold World.cell? at h
 split at h
 .rename_i c t fr hb
  split at h
  .cases h
  .rename_i hs
   exact⟨by simpa using hs,FX.2 ⟨c,t,fr,hb⟩,c,t,fr,hb,h⟩
 .cases h
theorem KY{W:World}(hg:isCells W 0=true)(v:Value):bE (seenM W) (seenV W v) v:=by
 unfold seenV
 split
 .exact .int _ _
 .exact .string _
 .exact .nilSlice _ _
 .rename_i a l c
  by_cases h:l=0/\c=0
  .rw[if_pos h]
   obtain⟨rfl,rfl⟩:=h
   exact .empty (e:=⟨0,0,true,none⟩) (by unfold seenM;rw[if_pos hg])
  .rw[if_neg h]
   by_cases h2:a.spot=none/\isCells W a.block=true
   .rw[if_pos h2]
    have:=bE.slice (m:=seenM W) (b:=a.block) (off:=a.off) (l:=l) (c:=c) (c':=c) (e:=⟨a.block,0,true,none⟩) (by unfold seenM;rw[if_pos h2.2]) (.inl rfl)
    obtain⟨b,off,sp⟩:=a
    obtain⟨rfl,_⟩:=h2
    simpa using this
   .rw[if_neg h2]
    exact .unknown _
 .exact .unknown _
theorem AnP{W:World}(hg:isCells W 0=true):@Rel (varPins W) Top (seenM W) (seenS W) W:=by
 letI:=varPins W
 refine⟨fun b ent e _ hb he=>?_,fun b b' ent ent' e e' hne hb hb' _ _ he he'=>?_,fun b e he=>?_,fun b ent hb=>(Acp W b ent hb).1,fun k o hk=>⟨hk.2,fun b e he hro=>?_⟩⟩
 .rw[KW] at hb
  obtain⟨c,t,fr,h1,rfl,h2⟩:=NS hb
  unfold seenM at he
  rw[if_pos (FX.2 ⟨c,t,fr,h1⟩)] at he
  cases he
  refine⟨rfl,c,t,fr,h1,(fun h=>by cases h),fun i v hv=>?_,trivial⟩
  rw[List.getElem?_map] at hv
  cases hc:c.toList[i]? with
  | none=>rw[hc] at hv;cases hv
  | some v'=>
   rw[hc] at hv
   cases hv
   exact⟨v',by rw[Nat.zero_add];simpa using hc,KY hg v'⟩
 .unfold seenM at he he'
  split at he
  .split at he'
   .cases he
    cases he'
    exact hne
   .cases he'
  .cases he
 .unfold seenM at he
  split at he
  .rename_i h
   cases he
   obtain⟨c,t,fr,h1⟩:=FX.1 h
   have:=(Array.getElem?_eq_some_iff.1 h1).1
   exact⟨this,this⟩
  .cases he
 .unfold seenM at he
  split at he
  .cases he
   cases hro
  .cases he
theorem Arv{W:World}:∀b e,seenM W b=some e->e.ro=true:=fun b e h=>by
 unfold seenM at h
 split at h
 .cases h
  rfl
 .cases h
def seenA(W:World)(v:Value):Value:=match v with
 | .agg cs=>.agg (cs.toList.map (seenV W)).toArray
 | v=>seenV W v
theorem Ae2{W:World}(hg:isCells W 0=true)(v:Value):bE (seenM W) (seenA W v) v:=by
 unfold seenA
 split
 .rename_i cs
  refine .agg (by simp) fun i x x' hx hx'=>?_
  simp only[List.getElem?_toArray,List.getElem?_map,Array.getElem?_toList,hx',Option.map_some,Option.some.injEq] at hx
  subst hx
  exact KY hg x'
 .exact KY hg _
theorem TN{W:World}(hg:isCells W 0=true)(vs:List Value):LRel (seenM W) (vs.map (seenA W)) vs:=by
 refine⟨by simp,fun i v v' h h'=>?_⟩
 rw[List.getElem?_map,h'] at h
 cases h
 exact Ae2 hg v'
theorem Ae3{W:World}{a:Addr}{len cap:Nat}{zs:List Int}(hl:len<=cap)(hz:zs.length=cap)(hc:∀i,i<zs.length->W.cell? (a.add i)=some (.int .i64 (zs.getD i 0))):
  ∃p c,seenV W (.slice (some a) len cap)=.slice p len c/\Ints (seenS W) p (zs.take len)/\(zs.take len).length=len/\∀q,p=some q->q.block=0\/isCells W q.block=true:=by
 have hlen:(zs.take len).length=len:=by rw[List.length_take];omega
 by_cases h0:len=0/\cap=0
 .obtain⟨rfl,rfl⟩:=h0
  refine⟨some ⟨0,0,none⟩,0,rfl,fun i n h=>by simp at h,hlen,fun q hq=>.inl (by cases hq;rfl)⟩
 .have hfirst:=hc 0 (by omega)
  have ha0:a.add 0=a:=by unfold Addr.add;rw[if_pos rfl]
  rw[ha0] at hfirst
  obtain⟨hs,hcl,c,t,fr,hb,_⟩:=EZ hfirst
  refine⟨some ⟨a.block,a.off,none⟩,cap,?_,fun i n h=>?_,hlen,fun q hq=>.inr (by cases hq;exact hcl)⟩
  .unfold seenV
   simp only
   rw[if_neg h0,if_pos ⟨hs,hcl⟩]
  .refine⟨a.block,a.off,_,rfl,NT hb,?_⟩
   have hi:i<len:=by
    have:=(List.getElem?_eq_some_iff.1 h).1
    omega
   have h1:=hc i (by omega)
   have hadd:a.add i=⟨a.block,a.off+i,none⟩:=by
    unfold Addr.add
    by_cases hi0:i=0
    .rw[if_pos hi0]
     subst hi0
     obtain⟨x,y,z⟩:=a
     cases hs
     rfl
    .rw[if_neg hi0]
   rw[hadd] at h1
   obtain⟨_,_,c',t',fr',hb',hcv⟩:=EZ h1
   simp only at hb' hcv
   rw[hb] at hb'
   cases hb'
   rw[List.getElem?_map,Array.getElem?_toList,hcv]
   rw[List.getElem?_take,if_pos hi] at h
   rw[List.getD_eq_getElem?_getD,h]
   rfl
noncomputable def fieldsD:Array Field:=match Tryz.prog.underlying TD with
 | some (.struct fs)=>fs
 | _=>#[]
theorem PY:Tryz.prog.underlying TD=some (.struct fieldsD):=by kernel_rfl
theorem AnZ:Tryz.prog.underlying TL=some (.slice TD):=by kernel_rfl
theorem TU:Tryz.prog.underlying TI=some (.int .i64):=by kernel_rfl
theorem AaS:Tryz.prog.underlying 9=some .string:=by kernel_rfl
theorem Ac0:(fieldsD[0]?).map (fun f=>(f.type,f.offset))=some (TI,0):=by kernel_rfl
theorem Ac1:(fieldsD[1]?).map (fun f=>(f.type,f.offset))=some (TI,1):=by kernel_rfl
theorem Ac2:(fieldsD[2]?).map (fun f=>(f.type,f.offset))=some (9,2):=by kernel_rfl
theorem Ac3:(fieldsD[3]?).map (fun f=>(f.type,f.offset))=some (TL,3):=by kernel_rfl
theorem IE:Tryz.prog.cellsOf TD=4:=by kernel_rfl
theorem Ul:Tryz.prog.cellsOf TI=1:=by kernel_rfl
theorem Ms:Tryz.prog.cellsOf 9=1:=by kernel_rfl
theorem Qa:Tryz.prog.cellsOf TL=1:=by kernel_rfl
theorem K5{α:Type}{P:Nat->α->Prop}:∀(n:Nat),(∀i,i<n->∃d,P i d)->∃ds:List α,ds.length=n/\∀i d,ds[i]? = some d->P i d
 | 0,_=>⟨[],rfl,fun i d h=>by simp at h⟩
 | n+1,h=>by
  obtain⟨ds,h1,h2⟩:=K5 n fun i hi=>h i (by omega)
  obtain⟨d,hd⟩:=h n (by omega)
  refine⟨ds++[d],by simp[h1],fun i e he=>?_⟩
  by_cases hi:i<ds.length
  .rw[List.getElem?_append_left hi] at he
   exact h2 i e he
  .rw[List.getElem?_append_right (by omega)] at he
   have:i-ds.length=0:=by
    have:=(List.getElem?_eq_some_iff.1 he).1
    simp at this
    omega
   rw[this] at he
   cases he
   obtain rfl:i=n:=by omega
   exact hd
theorem MY{R:Nat->Prop}{Z:aC}{b off:Nat}{cs:List Value}(hb:Z.cells b=some cs)(hR:R b):∀(es:List D) (i:Nat),(∀j e,es[j]? = some e->4<=cs.length-(off+(i+j)*4)/\aU R Z (.agg ((cs.drop (off+(i+j)*4)).take 4).toArray) e)->bF R Z (some ⟨b,off,none⟩) i es
 | [],_,_=>trivial
 | e::es,i,h=>by
  have h0:=h 0 e rfl
  refine⟨⟨b,off,cs,rfl,hR,hb,h0.1,h0.2⟩,MY hb hR es (i+1) fun j e' he=>?_⟩
  have:=h (j+1) e' (by simpa using he)
  rwa [show i+(j+1)=i+1+j by omega] at this
theorem TX{a:Addr}(h:a.spot=none)(n:Nat):a.add n=⟨a.block,a.off+n,none⟩:=by
 unfold Addr.add
 by_cases hn:n=0
 .rw[if_pos hn]
  subst hn
  obtain⟨x,y,z⟩:=a
  cases h
  rfl
 .rw[if_neg hn]
theorem Aoj{W:World}{b o:Nat}{c:Array Value}{t:TypeId}{fr:Nat×Nat}(h:W.heap[b]? = some (.cells c t fr)):W.cell? ⟨b,o,none⟩=c[o]?:=by
 unfold World.cell?
 simp only[h]
 rfl
theorem Af1{i t o:Nat}(h:(fieldsD[i]?).map (fun f=>(f.type,f.offset))=some (t,o)):∃f,fieldsD[i]? = some f/\f.type=t/\f.offset=o:=by
 cases hf:fieldsD[i]? with
 | none=>rw[hf] at h;cases h
 | some f=>
  rw[hf] at h
  cases h
  exact⟨f,rfl,rfl,rfl⟩
theorem Adj{α:Type}{l:List α}(h:l.length=4):∃a b c d,l=[a,b,c,d]:=by
 match l,h with
 | [a,b,c,d],_=>exact⟨a,b,c,d,rfl⟩
theorem AaR{H:Type}{enc:TypeId×Value->H}{W:World}{held:Bool}:∀(n:Nat) (cs:List Value) (x:DataW H×List MemPlace),DataW.trod enc Tryz.prog W 0 (fun _=>true) held n TD cs=some x->
  cs.length=4/\∃d:D,aU (fun b=>b<W.heap.size) (seenS W) (.agg (cs.map (seenV W)).toArray) d:=by
 intro n
 induction n with
 | zero=>intro cs x h;simp[DataW.trod] at h
 | succ n ih=>
  intro cs x h
  obtain⟨xs,m,hm,hx,hl,hxl,hf⟩:=DataW.trod_struct PY h
  obtain rfl:m=n:=by omega
  rw[IE] at hl
  refine⟨hl,?_⟩
  have hsz:fieldsD.size=4:=by kernel_rfl
  rw[hsz] at hxl
  obtain⟨c0,c1,c2,c3,rfl⟩:=Adj hl
  have get:∀ {i t o:Nat},(fieldsD[i]?).map (fun f=>(f.type,f.offset))=some (t,o)->∃y,DataW.trod enc Tryz.prog W 0 (fun _=>true) held m t (([c0,c1,c2,c3].drop o).take (Tryz.prog.cellsOf t))=some y:=fun {i t o} hi=>by
   obtain⟨f,h1,h2,h3⟩:=Af1 hi
   have:=hf i f h1
   rw[h2,h3] at this
   have hlt:i<xs.length:=by
    have:=(Array.getElem?_eq_some_iff.1 h1).1
    omega
   exact⟨xs[i],by rw[this,List.getElem?_eq_getElem hlt]⟩
  obtain⟨y0,h0⟩:=get Ac0
  obtain⟨y1,h1⟩:=get Ac1
  obtain⟨y2,h2⟩:=get Ac2
  obtain⟨y3,h3⟩:=get Ac3
  rw[Ul] at h0 h1
  rw[Ms] at h2
  rw[Qa] at h3
  obtain⟨k,e0,_,_⟩:=DataW.trod_int TU h0
  obtain⟨z,e1,_,_⟩:=DataW.trod_int TU h1
  obtain⟨t,e2,_,_⟩:=DataW.trod_string AaS h2
  obtain rfl:c0=.int .i64 k:=by simpa using e0
  obtain rfl:c1=.int .i64 z:=by simpa using e1
  obtain rfl:c2=.string t:=by simpa using e2
  rcases DataW.trod_slice AnZ h3 with⟨e3,_⟩|⟨a,len,cap,elems,rest,m',hm',e3,_,_,hle,hmx,hel,hes,hsp,_⟩
  .obtain rfl:c3=.slice none 0 0:=by simpa using e3
   exact⟨.mk k z t [],none,0,rfl,trivial⟩
  .obtain rfl:c3=.slice (some a) len cap:=by simpa using e3
   obtain⟨hrl,hrs⟩:=hsp rfl
   rw[IE] at hes hrs
   by_cases h00:len=0/\cap=0
   .obtain⟨rfl,rfl⟩:=h00
    exact⟨.mk k z t [],some ⟨0,0,none⟩,0,rfl,trivial⟩
   .have hfirst:∃v,W.cell? a=some v:=by
     have ha0:a.add 0=a:=by unfold Addr.add;rw[if_pos rfl]
     have key:∀ {y:DataW H×List MemPlace},(W.cells? 0 (a.add 0) 4).bind (DataW.trod enc Tryz.prog W 0 (fun _=>true) held m' TD)=some y->∃v,W.cell? a=some v:=fun hb=>by
      rw[Option.bind_eq_some_iff] at hb
      obtain⟨cs',hc',_⟩:=hb
      obtain⟨_,hl',hg⟩:=World.cells?_some hc'
      have:=hg 0 (by omega)
      rw[ha0,ha0,List.getElem?_eq_getElem (by omega)] at this
      exact⟨_,this⟩
     by_cases hl0:0<len
     .have:=hes 0 hl0
      rw[Nat.zero_mul,List.getElem?_eq_getElem (by omega)] at this
      exact key this
     .have:=hrs 0 (by omega)
      obtain rfl:len=0:=by omega
      rw[Nat.add_zero,Nat.zero_mul,List.getElem?_eq_getElem (by omega)] at this
      exact key this
    obtain⟨v0,hv0⟩:=hfirst
    obtain⟨hsn,hic,c,ty,fr,hb,_⟩:=EZ hv0
    have hlt:a.block<W.heap.size:=(Array.getElem?_eq_some_iff.1 hb).1
    have hσ:=NT hb
    have each:∀i,i<len->∃d:D,4<=(c.toList.map (seenV W)).length-(a.off+i*4)/\aU (fun b=>b<W.heap.size) (seenS W) (.agg (((c.toList.map (seenV W)).drop (a.off+i*4)).take 4).toArray) d:=fun i hi=>by
     have hb':=hes i hi
     rw[List.getElem?_eq_getElem (by omega),Option.bind_eq_some_iff] at hb'
     obtain⟨cs',hc',ht'⟩:=hb'
     obtain⟨_,hl',hg⟩:=World.cells?_some hc'
     have hcell:∀j,j<4->c[a.off+i*4+j]? = cs'[j]?:=fun j hj=>by
      have:=hg j hj
      rw[TX hsn,TX rfl,Aoj hb] at this
      exact this
     obtain⟨_,d,hd⟩:=ih cs' _ (by obtain rfl:m'+1=m:=hm'.symm;exact DataW.trod_le (Nat.le_succ _) ht')
     have h3':=hcell 3 (by omega)
     rw[List.getElem?_eq_getElem (by omega)] at h3'
     have hsz':=(Array.getElem?_eq_some_iff.1 h3').1
     refine⟨d,by simp;omega,?_⟩
     have e:((c.toList.map (seenV W)).drop (a.off+i*4)).take 4=cs'.map (seenV W):=by
      apply List.ext_getElem?
      intro j
      rw[List.getElem?_take]
      by_cases hj:j<4
      .rw[if_pos hj,List.getElem?_drop,List.getElem?_map,Array.getElem?_toList,hcell j hj,List.getElem?_map]
      .rw[if_neg hj,List.getElem?_eq_none (by simp;omega)]
     rw[e]
     exact hd
    obtain⟨ds,hds,hD⟩:=K5 len each
    refine⟨.mk k z t ds,some ⟨a.block,a.off,none⟩,cap,?_,?_⟩
    .show Value.agg _=_
     have:seenV W (.slice (some a) len cap)=.slice (some ⟨a.block,a.off,none⟩) len cap:=by
      unfold seenV
      simp only
      rw[if_neg h00,if_pos ⟨hsn,hic⟩]
     rw[hds]
     simp only[List.map_cons,List.map_nil,this]
     rfl
    .refine MY hσ hlt ds 0 fun j e he=>?_
     rw[Nat.zero_add]
     exact hD j e he
end
section
open Go Go.Eng Go.ChangeShapes Go.WideShapes Go.RowKit
abbrev Fine4(W:World)(e:Ending)(W':World):Prop:=e=.returned (.bool true)/\W'.os=W.os/\W'.output=W.output/\W'.tape=W.tape/\W.heap.size<=W'.heap.size/\∀i,i<W.heap.size->W'.heap[i]? = W.heap[i]?
theorem Agf{f:FuncId}{fn:Func}{body:Code}(hf:Tryz.prog.funcs[f]? = some fn)(hb:fn.body=some body)(n:Nat)(W:World)(vs:List Value)(hg:W.cell? ⟨0,0,none⟩=some handle)(h:∃V,bA Tryz.prog nls (top n) f (vs.map (seenA W)) none (seenS W)=.ret (.bool true) none V):Calls Tryz.prog f vs.toArray W (Fine4 W):=
 Adh hf hb n (seenS W) (seenM W) W (vs.map (seenA W)) vs.toArray hg (AnP (EZ hg).2.1) (by simpa using TN (EZ hg).2.1 vs) Arv h
theorem Acs{H:Type}{enc:TypeId×Value->H}{W:World}{v:Value}{d:DataW H}{p:List MemPlace}(h:DataW.Trod enc Tryz.prog W 0 (fun _=>true) true TD v d p)(hv:∃cs,v=.agg cs/\cs.size=Tryz.prog.cellsOf TD):
  ∃(lv:List Value) (x:D),seenA W v=.agg lv.toArray/\lv.length=4/\aU (fun b=>b<(seenS W).next) (seenS W) (.agg lv.toArray) x:=by
 obtain⟨cs,rfl,_⟩:=hv
 obtain⟨fuel,h⟩:=h
 obtain⟨hl,x,hx⟩:=AaR fuel _ _ h
 have hl':cs.toList.length=4:=hl
 exact⟨_,x,rfl,by simpa using hl',hx⟩
theorem Afi{H:Type}{enc:TypeId×Value->H}{W:World}{v:Value}{d:DataW H}{p:List MemPlace}(hg:W.cell? ⟨0,0,none⟩=some handle)(h:DataW.Trod enc Tryz.prog W 0 (fun _=>true) true 25 v d p)(hv:∃a len cap,v=.slice a len cap):
  ∃(q:Option Addr) (l:List Int) (cp:Nat),seenA W v=.slice q l.length cp/\l.length<9223372036854775808/\Ints (seenS W) q l/\∀a,q=some a->a.block<(seenS W).next:=by
 obtain⟨a0,len0,cap0,rfl⟩:=hv
 obtain⟨fuel,h⟩:=h
 have und:Tryz.prog.underlying 25=some (.slice TI):=by kernel_rfl
 rcases open_ints und TU (by kernel_rfl) h with⟨hc,hx⟩|⟨a,len,cap,zs,hc,hb,hl,hm,hz,hx,hcell,hwf⟩
 .have hv:Value.slice a0 len0 cap0=.slice none 0 0:=by simpa [Value.cells] using hc
  rw[hv]
  exact⟨none,[],0,rfl,by simp,fun i n h=>by simp at h,fun a h=>by cases h⟩
 .have hv:Value.slice a0 len0 cap0=.slice (some a) len cap:=by simpa [Value.cells] using hc
  rw[hv]
  rw[if_pos rfl] at hz
  obtain⟨q,c,h1,h2,h3,h4⟩:=Ae3 hl hz hcell
  refine⟨q,zs.take len,c,by rw[h3];exact h1,by unfold maxLen at hm;omega,h2,fun b hb=>?_⟩
  have hgs:isCells W 0=true:=(EZ hg).2.1
  have key:isCells W b.block=true:=by
   rcases h4 b hb with h|h
   .rw[h];exact hgs
   .exact h
  obtain⟨c',t',fr',h5⟩:=FX.1 key
  exact(Array.getElem?_eq_some_iff.1 h5).1
end
section
open Go Go.Eng
attribute [local congr] Aa Af Ad Ab Ac
attribute [-go_sem] List.range_succ
def PsL(Z:aC)(us:List Value)(ls:List (List Int)):Prop:=∀(i:Nat) (l:List Int),ls[i]? = some l->∃p c,us[i]? = some (.slice p l.length c)/\IntsO Z p c l
theorem PsL.ext{Z V:aC}{us:List Value}{ls:List (List Int)}(h:PsL Z us ls)(hw:Wf Z)(hX:Ext Z V):PsL V us ls:=fun i l hl=>by
 obtain⟨p,c,h1,h2⟩:=h i l hl
 exact⟨p,c,h1,h2.ext hw hX⟩
theorem Abp{l:List Value}(h:l.length=4):∃a b c d,l=[a,b,c,d]:=by
 match l,h with
 | [a,b,c,d],_=>exact⟨a,b,c,d,rfl⟩
theorem IntsO.keep{Z V:aC}{p:Option Addr}{c:Nat}{l:List Int}(h:IntsO Z p c l)(hk:∀b off,p=some ⟨b,off,none⟩->b<Z.next->V.heap.get b=Z.heap.get b)(hw:Wf Z):IntsO V p c l:=by
 rcases h with h|⟨b,off,cs,el,ro,fz,ver,rfl,hb,h1⟩
 .exact .inl h
 .exact .inr ⟨b,off,cs,el,ro,fz,ver,rfl,(hk b off rfl (hw _ _ hb).1).trans hb,h1⟩
def Ayd(E:Env)(ro:Option Nat)(fn:FuncId):aZ:=aF (drawR E ro Ayn) (aF (aF (aD E ro Ayo) (aR 0 (loopR (bH nls fn) (Ayg E ro fn)))) (aF (aD E ro AxY) bO))
def Ayr(E:Env)(ro:Option Nat)(fn:FuncId):aZ:=aF (aD E ro Ayi) (aF (aD E ro Ayj) (aF (aD E ro Ayk) (aF (aD E ro Ayl) (aF (drawR E ro Aym) (Ayd E ro fn)))))
end
section
open Go Go.Eng Go.ChangeShapes Go.WideShapes Go.RowKit
attribute [local congr] Aa Af Ad Ab Ac
attribute [-go_sem] List.range_succ
theorem Axv(R:Nat->Prop)(Z:aC)(b:Nat)(l0 l1:List Value)(h0:l0.length=4)(h1:l1.length=4)(d0 d1:D)(hR:R b)(hc:Z.cells b=some (l0++l1))(k0:aU R Z (.agg l0.toArray) d0)(k1:aU R Z (.agg l1.toArray) d1):bF R Z (some ⟨b,0,none⟩) 0 [d0,d1]:=by
 obtain⟨a0,a1,a2,a3,rfl⟩:=Abp h0
 obtain⟨b0,b1,b2,b3,rfl⟩:=Abp h1
 exact⟨⟨b,0,_,rfl,hR,hc,by simp,k0⟩,⟨b,0,_,rfl,hR,hc,by simp,k1⟩,trivial⟩
theorem XW{L:Nat}{d:D}(h:Made L d):d.count<=most L:=by
 have:=(Adl 0 h []).1
 rwa [DY] at this
theorem Uo(q:Nat)(la:List Value)(a:D)(pn:Option Addr)(ln:List Int)(cpn:Nat)(hl:ln.length<9223372036854775808)(Z:aC)(hw:Wf Z)(hI:Ints Z pn ln)(hp:∀a,pn=some a->a.block<Z.next)(ha4:la.length=4)(hA:aU (fun b=>b<Z.next) Z (.agg la.toArray) a):
  ∃V,bA Tryz.prog nls (top (q+6000)) 3 [.agg la.toArray,.slice pn ln.length cpn] none Z=.ret (.bool true) none V:=by
 have hta:la.take 4=la:=List.take_of_length_le (by omega)
 have x1:Ext Z (Z.push (.cells la TD) none):=(Ext.refl _).push _ _
 have hw1:=hw.push (.cells la TD) none
 have c4:(Z.push (.cells la TD) none).cells Z.next=some la:=by rw[Al,if_pos rfl];rfl
 have VAc:∀(d:D) (wv:List Value) (hw4:wv.length=4) (τ:aC),Wf τ->aU (fun b=>b<τ.next) τ (.agg wv.toArray) d->∃τ',(top (q+6000)).call 6 [.agg wv.toArray] none τ=.ret (.bool (vastB d)) none τ'/\Ext τ τ'/\Wf τ':=fun d wv hw4 τ hwt hLd=>by
  obtain⟨_,τ',e,x,w,rfl⟩:=ArG (q+5848) _ d wv hw4 τ hwt hLd
  rw[show q+5848+152=q+6000 by omega] at e
  exact⟨τ',(Er _ _ _ _ rfl).trans e,x,w⟩
 have small:∀ {d:D},vastB d=false->d.count<=150:=fun h=>by
  unfold vastB at h
  rw[Bool.or_eq_false_iff,decide_eq_false_iff_not] at h
  omega
 have step:∀ {τ τ':aC},Ext τ τ'->Wf τ->∀ {v:Value} {d:D},aU (fun b=>b<τ.next) τ v d->aU (fun b=>b<τ'.next) τ' v d:=fun hX hw v d h=>h.keep fun b cs hb hc=>⟨(hX.cells hb).trans hc,by have:=hX.next;omega⟩
 rw[AvO _ _ _ _ (by simp),Ah]
 unfold Aw7
 generalize hS:(Z.push (.cells la TD) none)=bS at x1 hw1 c4
 obtain⟨a_,e2,x2,hw2⟩:=VAc a la ha4 bS hw1 (step x1 hw hA)
 cases hva:vastB a with
 | true=>
  rw[hva] at e2
  simp -implicitDefEqProofs only[go_sem,Ab6,Ab5,Ab8,Ab7,Arf,Alg,hS,c4,ha4,hta,e2,PX,Nat.le_refl]
  exact⟨_,rfl⟩
 | false=>
  rw[hva] at e2
  have ka:=small hva
  have X2:=x1.trans x2
  have c42:=(x2.cells (hw1.cells c4)).trans c4
  have hI2:Ints a_ pn ln:=fun i n h=>by
   obtain⟨b,off,cs,h1,h2,h3⟩:=hI i n h
   exact⟨b,off,cs,h1,(X2.cells (hw.cells h2)).trans h2,h3⟩
  obtain⟨bT,e3,x3,hw3,hC3⟩:=XZ (q+5999) pn ln cpn hl a_ hw2 hI2 (fun a h=>by have:=hp a h;have:=X2.next;omega)
  have hn3:a_.next<bT.next:=by obtain⟨_,_,_,_,_,h,_⟩:=hC3;exact(hw3 _ _ h).1
  replace e3:(top (q+6000)).call 9 [.slice pn ln.length cpn] none a_=.ret (.pointer (some ⟨a_.next,0,none⟩)) none bT:=(Er _ _ _ _ rfl).trans e3
  have hv5:wound 5<=10000:=by simp[wound]
  obtain⟨vx,x,bW,k4,e4,hX,mX,x4,hw4,hC4,_,_⟩:=Mu (q+5991) a_.next 5 (by omega) 0 bT (by omega) hw3 hC3
  replace e4:(top (q+6000)).call 8 [.pointer (some ⟨a_.next,0,none⟩),.int .i64 5] none bT=.ret vx none bW:=(Er _ _ _ _ rfl).trans e4
  have kx:=XW mX
  have km5:most 5=364:=by decide
  have n3:=x3.next
  have n4:=x4.next
  have kA:∀b cs,b<a_.next->a_.cells b=some cs->bW.cells b=some cs:=fun b cs hb hc=>by
   have h2:=(x3.cells hb).trans hc
   exact(x4.cells (by omega) (by omega)).trans h2
  have b4:=hw2.cells c42
  have g24:bW.heap.get Z.next=a_.heap.get Z.next:=by rw[x4.get _ (by omega) (by omega),x3.get _ b4]
  have v4:(view bW a_.clock).cells Z.next=some la:=Kd hw2 (Nat.le_refl _) g24 c42
  obtain⟨xv,rfl,hx4,hxo⟩:=hX.agg
  obtain⟨a0,a1,a2,a3,rfl⟩:=Abp ha4
  obtain⟨y0,y1,y2,y3,rfl⟩:=Abp hx4
  have X:Ext bW (bW.push (.cells [a0,a1,a2,a3,y0,y1,y2,y3] TD) none):=(Ext.refl _).push _ _
  have hw5:=hw4.push (.cells [a0,a1,a2,a3,y0,y1,y2,y3] TD) none
  have g1:(bW.push (.cells [a0,a1,a2,a3,y0,y1,y2,y3] TD) none).cells bW.next=some [a0,a1,a2,a3,y0,y1,y2,y3]:=by rw[Al,if_pos rfl];rfl
  have n5:(bW.push (.cells [a0,a1,a2,a3,y0,y1,y2,y3] TD) none).next=bW.next+1:=rfl
  simp -implicitDefEqProofs only[go_sem,Ab6,Ab5,Ab8,Ab7,Arh,Alh,Ari,Ali,hS,c4,e2,e3,e4,v4,Ag,Nat.le_refl]
  generalize aC.push bW _ _=bX at X hw5 g1 n5 ⊢
  have lp:=fun keep fuel f g hf h5 h6=>Un q keep [a,x] (some ⟨bW.next,0,none⟩) 2 (by simp) (fun d hd=>by simp only[List.mem_cons,List.not_mem_nil,or_false] at hd;rcases hd with rfl|rfl<;>omega)
   2 fuel 0 f g bX rfl hf (by simp) hw5 (Axv _ _ _ _ _ rfl rfl a x (by omega) g1 (hA.keep fun b cs hb hc=>by
    have h2:=(X2.cells hb).trans hc
    have h4:=kA b cs (by have:=X2.next;omega) h2
    exact⟨(X.cells (hw4.cells h4)).trans h4,by have:=hw4.cells h4;omega⟩) (hX.keep fun b cs hb hc=>⟨(X.cells (hw4.cells hc)).trans hc,by have:=hw4.cells hc;omega⟩)) h5 h6
  generalize hbf:bL=fuel
  generalize hff:upd _ 6 _=f1
  generalize hgg:upd _ 25 _=gg
  obtain⟨f',g',V,h⟩:=lp (bH nls 3) fuel f1 gg (by rw[<-hbf];show 2<1000000000000;omega) (by rw[<-hff];simp -implicitDefEqProofs only[go_sem,reduceCtorEq]<;>rfl) (by rw[<-hff];simp -implicitDefEqProofs only[go_sem,reduceCtorEq]<;>rfl)
  rw[h]
  simp -implicitDefEqProofs only[go_sem,Alf,YT,PX]
  exact⟨_,rfl⟩
theorem Qb{H:Type}{enc:TypeId×Value->H}(W:World)(hg:W.cell? ⟨0,0,none⟩=some handle){v0 v1:Value}{d0 d1:DataW H}{p0 p1:List MemPlace}(h0:DataW.Trod enc Tryz.prog W 0 (fun _=>true) true TD v0 d0 p0)(h1:DataW.Trod enc Tryz.prog W 0 (fun _=>true) true 25 v1 d1 p1)(k0:∃cs,v0=.agg cs/\cs.size=Tryz.prog.cellsOf TD)(k1:∃a len cap,v1=.slice a len cap):
  Calls Tryz.prog 3 #[v0,v1] W (Fine4 W):=by
 obtain⟨la,a,ea,ha4,hA⟩:=Acs h0 k0
 obtain⟨q,l,cp,el,hl,hI,hq⟩:=Afi hg h1 k1
 refine Agf Tryz.func3 rfl 6000 W [v0,v1] hg ?_
 have e:[v0,v1].map (seenA W)=[.agg la.toArray,.slice q l.length cp]:=by simp only[List.map_cons,List.map_nil,ea,el]
 rw[e]
 obtain⟨V,h⟩:=Uo 0 la a q l cp hl (seenS W) (Acp W) hI hq ha4 hA
 exact⟨V,by rwa [Nat.zero_add] at h⟩
end
end Go.Proofs.YtknnbjmcfibpgaaGreatDoor
end
