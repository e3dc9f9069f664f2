import Derived.Test.YtknnbjmcfibpgaaGreatDoorU3
import Derived.Test.YtknnbjmcfibpgaaGreatDoorU4
set_option linter.unusedSimpArgs false
set_option linter.unusedVariables false
noncomputable section
namespace Go.Proofs.YtknnbjmcfibpgaaGreatDoor
open Go Go.Eng
attribute [local congr] Aa
theorem Qk(n:Nat)(k1 n1 k2 n2:Int)(t1 t2:ByteArray)(s1 s2:Value)(Z:aC)(B:Bool)(hw:Wf Z)(h:∀V,Ext Z V->Wf V->Gives ((env n).call 26 [s1,s2] none V) V fun v _=>v=.bool B):
  Gives ((env (n+1)).call 18 [.agg #[.int .i64 k1,.int .i64 n1,.string t1,s1],.agg #[.int .i64 k2,.int .i64 n2,.string t2,s2]] none Z) Z
   fun v _=>v=.bool ((k1==k2)&&(n1==n2)&&(t1.toList==t2.toList)&&B):=by
 rw[Ai _ 18 _ _ rfl,Ao9 _ _ _ _ (by simp)]
 generalize ha:(⟨aY undef 4 _,fun _=>undef,4,31,[]⟩:aV)=a
 have hok:a.ok:=by rw[<-ha];exact Vw _ _ _ _
 have hnt:a.nt=31:=by rw[<-ha]
 have hds:a.defers=[]:=by rw[<-ha]
 have hg0:a.get 0=.agg #[.int .i64 k1,.int .i64 n1,.string t1,s1]:=by rw[<-ha,HO];rfl
 have hg1:a.get 1=.agg #[.int .i64 k2,.int .i64 n2,.string t2,s2]:=by rw[<-ha,HO];rfl
 clear ha
 unfold Anj
 have fin:∀(o1 o2:FObj) (f1 f2:Option Nat),Ext Z ((Z.push o1 f1).push o2 f2)/\Wf ((Z.push o1 f1).push o2 f2):=fun o1 o2 f1 f2=>⟨((Ext.refl Z).push _ _).push _ _,(hw.push _ _).push _ _⟩
 cases e1:(k1==k2) with
 | false=>
  simp only[tT,DP,D8,CT,DD,DC,Bz,CP,DN,Ag,CQ,B_,Bu,Be,B6,Ar,AW,AO,DT,Ed,Ec,BJ,CZ,Nat.reduceLT,↓reduceIte,Nat.reduceEqDiff,Nat.reduceAdd,CY,CX,Cb,Bw,Ci,AZ,Cj,Ae,Bh,Ao,AX,D4,Bg,A7,A8,AC,AU,AA,Ay,A_,Ba,AF,AV,AK,Az,Cc,D6,D7,Al,Aq,cells?_cells,DF,CV,DE,CU,DB,DM,DJ,DI,DH,DG,Dz,DQ,DK,Dk,Dp,D9,CR,CS,Nat.add_zero,Nat.zero_add,Nat.add_left_cancel_iff,Nat.add_eq_left,Nat.left_eq_add,List.getElem?_cons_zero,List.getElem?_cons_succ,beq_self_eq_true,Bool.not_true,Bool.not_false,cond_true,cond_false,BA,AR,Ce,BB,BC,Ca,Bool.false_eq_true,CO,AQ,Bv,Bf,CW,Eb,Cd,Cy,Cx,Cw,AY,List.not_mem_nil,or_false,or_true,List.cons_append,List.nil_append,DA,DL,DR,Ch,Cg,C8,A0,Dm,Aj,Ak,List.set_cons_zero,List.set_cons_succ,List.length_cons,List.length_nil,Bc,AJ,A9,Au,AE,JT,KQ,JU,KR,hok,hnt,hg0,hg1,hds,e1]
  exact⟨_,_,rfl,(fin ..).1,(fin ..).2,rfl⟩
 | true=>cases e2:(n1==n2) with
  | false=>
   simp only[tT,DP,D8,CT,DD,DC,Bz,CP,DN,Ag,CQ,B_,Bu,Be,B6,Ar,AW,AO,DT,Ed,Ec,BJ,CZ,Nat.reduceLT,↓reduceIte,Nat.reduceEqDiff,Nat.reduceAdd,CY,CX,Cb,Bw,Ci,AZ,Cj,Ae,Bh,Ao,AX,D4,Bg,A7,A8,AC,AU,AA,Ay,A_,Ba,AF,AV,AK,Az,Cc,D6,D7,Al,Aq,cells?_cells,DF,CV,DE,CU,DB,DM,DJ,DI,DH,DG,Dz,DQ,DK,Dk,Dp,D9,CR,CS,Nat.add_zero,Nat.zero_add,Nat.add_left_cancel_iff,Nat.add_eq_left,Nat.left_eq_add,List.getElem?_cons_zero,List.getElem?_cons_succ,beq_self_eq_true,Bool.not_true,Bool.not_false,cond_true,cond_false,BA,AR,Ce,BB,BC,Ca,Bool.false_eq_true,CO,AQ,Bv,Bf,CW,Eb,Cd,Cy,Cx,Cw,AY,List.not_mem_nil,or_false,or_true,List.cons_append,List.nil_append,DA,DL,DR,Ch,Cg,C8,A0,Dm,Aj,Ak,List.set_cons_zero,List.set_cons_succ,List.length_cons,List.length_nil,Bc,AJ,A9,Au,AE,JT,KQ,JU,KR,hok,hnt,hg0,hg1,hds,e1,e2]
   exact⟨_,_,rfl,(fin ..).1,(fin ..).2,rfl⟩
  | true=>cases e3:(t1.toList==t2.toList) with
   | false=>
    simp only[tT,DP,D8,CT,DD,DC,Bz,CP,DN,Ag,CQ,B_,Bu,Be,B6,Ar,AW,AO,DT,Ed,Ec,BJ,CZ,Nat.reduceLT,↓reduceIte,Nat.reduceEqDiff,Nat.reduceAdd,CY,CX,Cb,Bw,Ci,AZ,Cj,Ae,Bh,Ao,AX,D4,Bg,A7,A8,AC,AU,AA,Ay,A_,Ba,AF,AV,AK,Az,Cc,D6,D7,Al,Aq,cells?_cells,DF,CV,DE,CU,DB,DM,DJ,DI,DH,DG,Dz,DQ,DK,Dk,Dp,D9,CR,CS,Nat.add_zero,Nat.zero_add,Nat.add_left_cancel_iff,Nat.add_eq_left,Nat.left_eq_add,List.getElem?_cons_zero,List.getElem?_cons_succ,beq_self_eq_true,Bool.not_true,Bool.not_false,cond_true,cond_false,BA,AR,Ce,BB,BC,Ca,Bool.false_eq_true,CO,AQ,Bv,Bf,CW,Eb,Cd,Cy,Cx,Cw,AY,List.not_mem_nil,or_false,or_true,List.cons_append,List.nil_append,DA,DL,DR,Ch,Cg,C8,A0,Dm,Aj,Ak,List.set_cons_zero,List.set_cons_succ,List.length_cons,List.length_nil,Bc,AJ,A9,Au,AE,JT,KQ,JU,KR,hok,hnt,hg0,hg1,hds,e1,e2,e3]
    exact⟨_,_,rfl,(fin ..).1,(fin ..).2,rfl⟩
   | true=>
    simp only[tT,DP,D8,CT,DD,DC,Bz,CP,DN,Ag,CQ,B_,Bu,Be,B6,Ar,AW,AO,DT,Ed,Ec,BJ,CZ,Nat.reduceLT,↓reduceIte,Nat.reduceEqDiff,Nat.reduceAdd,CY,CX,Cb,Bw,Ci,AZ,Cj,Ae,Bh,Ao,AX,D4,Bg,A7,A8,AC,AU,AA,Ay,A_,Ba,AF,AV,AK,Az,Cc,D6,D7,Al,Aq,cells?_cells,DF,CV,DE,CU,DB,DM,DJ,DI,DH,DG,Dz,DQ,DK,Dk,Dp,D9,CR,CS,Nat.add_zero,Nat.zero_add,Nat.add_left_cancel_iff,Nat.add_eq_left,Nat.left_eq_add,List.getElem?_cons_zero,List.getElem?_cons_succ,beq_self_eq_true,Bool.not_true,Bool.not_false,cond_true,cond_false,BA,AR,Ce,BB,BC,Ca,Bool.false_eq_true,CO,AQ,Bv,Bf,CW,Eb,Cd,Cy,Cx,Cw,AY,List.not_mem_nil,or_false,or_true,List.cons_append,List.nil_append,DA,DL,DR,Ch,Cg,C8,A0,Dm,Aj,Ak,List.set_cons_zero,List.set_cons_succ,List.length_cons,List.length_nil,Bc,AJ,A9,Au,AE,JT,KQ,JU,KR,hok,hnt,hg0,hg1,hds,e1,e2,e3]
    generalize hr:(env n).call 26 _ none _=r
    obtain⟨v,V,rfl,hx,hw',rfl⟩:=An2 (X:=(env n).call 26 [s1,s2] none) hr h (fin ..).1 (fin ..).2
    simp only[tT,DP,D8,CT,DD,DC,Bz,CP,DN,Ag,CQ,B_,Bu,Be,B6,Ar,AW,AO,DT,Ed,Ec,BJ,CZ,Nat.reduceLT,↓reduceIte,Nat.reduceEqDiff,Nat.reduceAdd,CY,CX,Cb,Bw,Ci,AZ,Cj,Ae,Bh,Ao,AX,D4,Bg,A7,A8,AC,AU,AA,Ay,A_,Ba,AF,AV,AK,Az,Cc,D6,D7,Al,Aq,cells?_cells,DF,CV,DE,CU,DB,DM,DJ,DI,DH,DG,Dz,DQ,DK,Dk,Dp,D9,CR,CS,Nat.add_zero,Nat.zero_add,Nat.add_left_cancel_iff,Nat.add_eq_left,Nat.left_eq_add,List.getElem?_cons_zero,List.getElem?_cons_succ,beq_self_eq_true,Bool.not_true,Bool.not_false,cond_true,cond_false,BA,AR,Ce,BB,BC,Ca,Bool.false_eq_true,CO,AQ,Bv,Bf,CW,Eb,Cd,Cy,Cx,Cw,AY,List.not_mem_nil,or_false,or_true,List.cons_append,List.nil_append,DA,DL,DR,Ch,Cg,C8,A0,Dm,Aj,Ak,List.set_cons_zero,List.set_cons_succ,List.length_cons,List.length_nil,Bc,AJ,A9,Au,AE,hok,hnt,hg0,hg1,hds]
    exact⟨_,_,rfl,(fin ..).1.trans hx,hw',rfl⟩
end Go.Proofs.YtknnbjmcfibpgaaGreatDoor
namespace Go.Proofs.YtknnbjmcfibpgaaGreatDoor
open Go Go.Eng
attribute [local congr] Aa
theorem ApI:bH nls 26=[]:=by kernel_rfl
structure HeadEqC (a:aV) (s s':Value) (k:Nat):Prop where
 ok:a.ok
 nt:a.nt=27
 nl:a.nl=6
 ds:a.defers=[]
 g0:a.get 0=s
 g1:a.get 1=s'
 g5:a.get 5=.int .i64 (.ofNat k)
theorem Qi(n N:Nat)(hE:∀d d' v v' Z,D.deep d<=N->d.count<1000000000->Wf Z->Laid Z v d->Laid Z v' d'->Gives ((env n).call 18 [v,v'] none Z) Z fun w _=>w=.bool (D.same d d'))(p p':Option Addr)(len c c':Nat)(hlen:len<1000000000000):∀(ds ds':List D) (k fuel:Nat) (a:aV) (Z:aC),k+ds.length=len->ds.length=ds'.length->ds.length<fuel->D.deeps ds<=N->D.counts ds<1000000000->
   Wf Z->LaidE Z p k ds->LaidE Z p' k ds'->HeadEqC a (.slice p len c) (.slice p' len c') k->
   ∃e a' V,floop [] (Abl (env n) none 26) fuel a none Z=.done e a' none V/\(if D.sames ds ds'=true then e=.exit 0 else e=.ret/\a'.get 4=.bool false)/\
    a'.ok/\a'.nt=27/\a'.defers=[]/\Ext Z V/\Wf V:=by
 intro ds
 induction ds with
 | nil=>
  intro ds' k fuel a Z hk hl hf _ _ hw h1 h2 ⟨hok,hnt,hnl,hds,hg0,hg1,hg5⟩
  obtain⟨fuel,rfl⟩:∃f,fuel=f+1:=⟨fuel-1,by simp at hf;omega⟩
  have hd:decide ((Int.ofNat k)<(Int.ofNat len))=false:=by simp at hk ⊢;omega
  have fg:=MJ [] a hok
  cases ds' with
  | cons _ _=>simp at hl
  | nil=>
   rw[Ap]
   unfold Abl
   simp only[tT,DP,D8,CT,DD,DC,Bz,CP,DN,Ag,CQ,B_,Bu,Be,B6,Ar,AW,AO,DT,Ed,Ec,BJ,CZ,Nat.reduceLT,↓reduceIte,Nat.reduceEqDiff,Nat.reduceAdd,CY,CX,Cb,Bw,Ci,AZ,Cj,Ae,Bh,Ao,AX,D4,Bg,A7,A8,AC,AU,AA,Ay,A_,Ba,AF,AV,AK,Az,Cc,D6,D7,Al,Aq,cells?_cells,DF,CV,DE,CU,DB,DM,DJ,DI,DH,DG,Dz,DQ,DK,Dk,Dp,D9,CR,CS,Nat.add_zero,Nat.zero_add,Nat.add_left_cancel_iff,Nat.add_eq_left,Nat.left_eq_add,List.getElem?_cons_zero,List.getElem?_cons_succ,beq_self_eq_true,Bool.not_true,Bool.not_false,cond_true,cond_false,BA,AR,Ce,BB,BC,Ca,Bool.false_eq_true,CO,AQ,Bv,Bf,CW,Eb,Cd,Cy,Cx,Cw,AY,List.not_mem_nil,or_false,or_true,List.cons_append,List.nil_append,DA,DL,DR,Ch,Cg,C8,A0,Dm,Aj,Ak,List.set_cons_zero,List.set_cons_succ,List.length_cons,List.length_nil,Bc,AJ,A9,Au,AE,VX,SA,hok,hnt,hnl,hds,hg0,hg1,hg5,fg,hd]
   exact⟨_,_,_,rfl,rfl,by simp only[tT,DP,D8,CT,DD,DC,Bz,CP,DN,Ag,CQ,B_,Bu,Be,B6,Ar,AW,AO,DT,Ed,Ec,BJ,CZ,Nat.reduceLT,↓reduceIte,Nat.reduceEqDiff,Nat.reduceAdd,CY,CX,Cb,Bw,Ci,AZ,Cj,Ae,Bh,Ao,AX,D4,Bg,A7,A8,AC,AU,AA,Ay,A_,Ba,AF,AV,AK,Az,Cc,D6,D7,Al,Aq,cells?_cells,DF,CV,DE,CU,DB,DM,DJ,DI,DH,DG,Dz,DQ,DK,Dk,Dp,D9,CR,CS,Nat.add_zero,Nat.zero_add,Nat.add_left_cancel_iff,Nat.add_eq_left,Nat.left_eq_add,List.getElem?_cons_zero,List.getElem?_cons_succ,beq_self_eq_true,Bool.not_true,Bool.not_false,cond_true,cond_false,BA,AR,Ce,BB,BC,Ca,Bool.false_eq_true,CO,AQ,Bv,Bf,CW,Eb,Cd,Cy,Cx,Cw,AY,List.not_mem_nil,or_false,or_true,List.cons_append,List.nil_append,DA,DL,DR,Ch,Cg,C8,A0,Dm,Aj,Ak,List.set_cons_zero,List.set_cons_succ,List.length_cons,List.length_nil,Bc,AJ,A9,Au,AE,hok],by simp only[tT,DP,D8,CT,DD,DC,Bz,CP,DN,Ag,CQ,B_,Bu,Be,B6,Ar,AW,AO,DT,Ed,Ec,BJ,CZ,Nat.reduceLT,↓reduceIte,Nat.reduceEqDiff,Nat.reduceAdd,CY,CX,Cb,Bw,Ci,AZ,Cj,Ae,Bh,Ao,AX,D4,Bg,A7,A8,AC,AU,AA,Ay,A_,Ba,AF,AV,AK,Az,Cc,D6,D7,Al,Aq,cells?_cells,DF,CV,DE,CU,DB,DM,DJ,DI,DH,DG,Dz,DQ,DK,Dk,Dp,D9,CR,CS,Nat.add_zero,Nat.zero_add,Nat.add_left_cancel_iff,Nat.add_eq_left,Nat.left_eq_add,List.getElem?_cons_zero,List.getElem?_cons_succ,beq_self_eq_true,Bool.not_true,Bool.not_false,cond_true,cond_false,BA,AR,Ce,BB,BC,Ca,Bool.false_eq_true,CO,AQ,Bv,Bf,CW,Eb,Cd,Cy,Cx,Cw,AY,List.not_mem_nil,or_false,or_true,List.cons_append,List.nil_append,DA,DL,DR,Ch,Cg,C8,A0,Dm,Aj,Ak,List.set_cons_zero,List.set_cons_succ,List.length_cons,List.length_nil,Bc,AJ,A9,Au,AE,hnt],by simp only[tT,DP,D8,CT,DD,DC,Bz,CP,DN,Ag,CQ,B_,Bu,Be,B6,Ar,AW,AO,DT,Ed,Ec,BJ,CZ,Nat.reduceLT,↓reduceIte,Nat.reduceEqDiff,Nat.reduceAdd,CY,CX,Cb,Bw,Ci,AZ,Cj,Ae,Bh,Ao,AX,D4,Bg,A7,A8,AC,AU,AA,Ay,A_,Ba,AF,AV,AK,Az,Cc,D6,D7,Al,Aq,cells?_cells,DF,CV,DE,CU,DB,DM,DJ,DI,DH,DG,Dz,DQ,DK,Dk,Dp,D9,CR,CS,Nat.add_zero,Nat.zero_add,Nat.add_left_cancel_iff,Nat.add_eq_left,Nat.left_eq_add,List.getElem?_cons_zero,List.getElem?_cons_succ,beq_self_eq_true,Bool.not_true,Bool.not_false,cond_true,cond_false,BA,AR,Ce,BB,BC,Ca,Bool.false_eq_true,CO,AQ,Bv,Bf,CW,Eb,Cd,Cy,Cx,Cw,AY,List.not_mem_nil,or_false,or_true,List.cons_append,List.nil_append,DA,DL,DR,Ch,Cg,C8,A0,Dm,Aj,Ak,List.set_cons_zero,List.set_cons_succ,List.length_cons,List.length_nil,Bc,AJ,A9,Au,AE,hds],Ext.refl _,hw⟩
 | cons d ds ih=>
  intro ds' k fuel a Z hk hl hf hN hM hw h1 h2 ⟨hok,hnt,hnl,hds,hg0,hg1,hg5⟩
  obtain⟨fuel,rfl⟩:∃f,fuel=f+1:=⟨fuel-1,by simp at hf;omega⟩
  have hd:decide ((Int.ofNat k)<(Int.ofNat len))=true:=by simp at hk ⊢;omega
  have hlt:k<len:=by simp at hk;omega
  have fg:=MJ [] a hok
  cases ds' with
  | nil=>simp at hl
  | cons d' ds'=>
   obtain⟨⟨b,off,cs,rfl,hc,hcl,hL⟩,h1r⟩:=h1
   obtain⟨⟨b',off',cs',rfl,hc',hcl',hL'⟩,h2r⟩:=h2
   have hN':D.deep d<=N/\D.deeps ds<=N:=by simp[D.deeps] at hN;omega
   have hM':d.count<1000000000/\D.counts ds<1000000000:=by rw[D.counts] at hM;omega
   have hv:=D1 hw (Nat.le_refl _)
   rw[Ap]
   unfold Abl
   simp only[tT,DP,D8,CT,DD,DC,Bz,CP,DN,Ag,CQ,B_,Bu,Be,B6,Ar,AW,AO,DT,Ed,Ec,BJ,CZ,Nat.reduceLT,↓reduceIte,Nat.reduceEqDiff,Nat.reduceAdd,CY,CX,Cb,Bw,Ci,AZ,Cj,Ae,Bh,Ao,AX,D4,Bg,A7,A8,AC,AU,AA,Ay,A_,Ba,AF,AV,AK,Az,Cc,D6,D7,Al,Aq,cells?_cells,DF,CV,DE,CU,DB,DM,DJ,DI,DH,DG,Dz,DQ,DK,Dk,Dp,D9,CR,CS,Nat.add_zero,Nat.zero_add,Nat.add_left_cancel_iff,Nat.add_eq_left,Nat.left_eq_add,List.getElem?_cons_zero,List.getElem?_cons_succ,beq_self_eq_true,Bool.not_true,Bool.not_false,cond_true,cond_false,BA,AR,Ce,BB,BC,Ca,Bool.false_eq_true,CO,AQ,Bv,Bf,CW,Eb,Cd,Cy,Cx,Cw,AY,List.not_mem_nil,or_false,or_true,List.cons_append,List.nil_append,DA,DL,DR,Ch,Cg,C8,A0,Dm,Aj,Ak,List.set_cons_zero,List.set_cons_succ,List.length_cons,List.length_nil,Bc,AJ,A9,Au,AE,VX,SA,Ak9,YN,hok,hnt,hnl,hds,hg0,hg1,hg5,fg,hd,hlt,hv,hc,hc',hcl,hcl']
   generalize hr:(env n).call 18 _ none _=r
   obtain⟨v,V,rfl,hx,hw',rfl⟩:=hr ▸ hE d d' _ _ Z hN'.1 hM'.1 hw hL hL'
   have hwr:wrapI (Int.ofNat k+1)=Int.ofNat (k+1):=by
    rw[DV (by rw[Int.ofNat_eq_natCast];omega)];rfl
   cases e:D.same d d' with
   | false=>
    simp only[tT,DP,D8,CT,DD,DC,Bz,CP,DN,Ag,CQ,B_,Bu,Be,B6,Ar,AW,AO,DT,Ed,Ec,BJ,CZ,Nat.reduceLT,↓reduceIte,Nat.reduceEqDiff,Nat.reduceAdd,CY,CX,Cb,Bw,Ci,AZ,Cj,Ae,Bh,Ao,AX,D4,Bg,A7,A8,AC,AU,AA,Ay,A_,Ba,AF,AV,AK,Az,Cc,D6,D7,Al,Aq,cells?_cells,DF,CV,DE,CU,DB,DM,DJ,DI,DH,DG,Dz,DQ,DK,Dk,Dp,D9,CR,CS,Nat.add_zero,Nat.zero_add,Nat.add_left_cancel_iff,Nat.add_eq_left,Nat.left_eq_add,List.getElem?_cons_zero,List.getElem?_cons_succ,beq_self_eq_true,Bool.not_true,Bool.not_false,cond_true,cond_false,BA,AR,Ce,BB,BC,Ca,Bool.false_eq_true,CO,AQ,Bv,Bf,CW,Eb,Cd,Cy,Cx,Cw,AY,List.not_mem_nil,or_false,or_true,List.cons_append,List.nil_append,DA,DL,DR,Ch,Cg,C8,A0,Dm,Aj,Ak,List.set_cons_zero,List.set_cons_succ,List.length_cons,List.length_nil,Bc,AJ,A9,Au,AE,Ala,YO,hok,hnt,hnl,hds,hg0,hg1,hg5,fg,hwr]
    refine⟨_,_,_,rfl,?_,by simp only[tT,DP,D8,CT,DD,DC,Bz,CP,DN,Ag,CQ,B_,Bu,Be,B6,Ar,AW,AO,DT,Ed,Ec,BJ,CZ,Nat.reduceLT,↓reduceIte,Nat.reduceEqDiff,Nat.reduceAdd,CY,CX,Cb,Bw,Ci,AZ,Cj,Ae,Bh,Ao,AX,D4,Bg,A7,A8,AC,AU,AA,Ay,A_,Ba,AF,AV,AK,Az,Cc,D6,D7,Al,Aq,cells?_cells,DF,CV,DE,CU,DB,DM,DJ,DI,DH,DG,Dz,DQ,DK,Dk,Dp,D9,CR,CS,Nat.add_zero,Nat.zero_add,Nat.add_left_cancel_iff,Nat.add_eq_left,Nat.left_eq_add,List.getElem?_cons_zero,List.getElem?_cons_succ,beq_self_eq_true,Bool.not_true,Bool.not_false,cond_true,cond_false,BA,AR,Ce,BB,BC,Ca,Bool.false_eq_true,CO,AQ,Bv,Bf,CW,Eb,Cd,Cy,Cx,Cw,AY,List.not_mem_nil,or_false,or_true,List.cons_append,List.nil_append,DA,DL,DR,Ch,Cg,C8,A0,Dm,Aj,Ak,List.set_cons_zero,List.set_cons_succ,List.length_cons,List.length_nil,Bc,AJ,A9,Au,AE,hok],by simp only[tT,DP,D8,CT,DD,DC,Bz,CP,DN,Ag,CQ,B_,Bu,Be,B6,Ar,AW,AO,DT,Ed,Ec,BJ,CZ,Nat.reduceLT,↓reduceIte,Nat.reduceEqDiff,Nat.reduceAdd,CY,CX,Cb,Bw,Ci,AZ,Cj,Ae,Bh,Ao,AX,D4,Bg,A7,A8,AC,AU,AA,Ay,A_,Ba,AF,AV,AK,Az,Cc,D6,D7,Al,Aq,cells?_cells,DF,CV,DE,CU,DB,DM,DJ,DI,DH,DG,Dz,DQ,DK,Dk,Dp,D9,CR,CS,Nat.add_zero,Nat.zero_add,Nat.add_left_cancel_iff,Nat.add_eq_left,Nat.left_eq_add,List.getElem?_cons_zero,List.getElem?_cons_succ,beq_self_eq_true,Bool.not_true,Bool.not_false,cond_true,cond_false,BA,AR,Ce,BB,BC,Ca,Bool.false_eq_true,CO,AQ,Bv,Bf,CW,Eb,Cd,Cy,Cx,Cw,AY,List.not_mem_nil,or_false,or_true,List.cons_append,List.nil_append,DA,DL,DR,Ch,Cg,C8,A0,Dm,Aj,Ak,List.set_cons_zero,List.set_cons_succ,List.length_cons,List.length_nil,Bc,AJ,A9,Au,AE,hnt],by simp only[tT,DP,D8,CT,DD,DC,Bz,CP,DN,Ag,CQ,B_,Bu,Be,B6,Ar,AW,AO,DT,Ed,Ec,BJ,CZ,Nat.reduceLT,↓reduceIte,Nat.reduceEqDiff,Nat.reduceAdd,CY,CX,Cb,Bw,Ci,AZ,Cj,Ae,Bh,Ao,AX,D4,Bg,A7,A8,AC,AU,AA,Ay,A_,Ba,AF,AV,AK,Az,Cc,D6,D7,Al,Aq,cells?_cells,DF,CV,DE,CU,DB,DM,DJ,DI,DH,DG,Dz,DQ,DK,Dk,Dp,D9,CR,CS,Nat.add_zero,Nat.zero_add,Nat.add_left_cancel_iff,Nat.add_eq_left,Nat.left_eq_add,List.getElem?_cons_zero,List.getElem?_cons_succ,beq_self_eq_true,Bool.not_true,Bool.not_false,cond_true,cond_false,BA,AR,Ce,BB,BC,Ca,Bool.false_eq_true,CO,AQ,Bv,Bf,CW,Eb,Cd,Cy,Cx,Cw,AY,List.not_mem_nil,or_false,or_true,List.cons_append,List.nil_append,DA,DL,DR,Ch,Cg,C8,A0,Dm,Aj,Ak,List.set_cons_zero,List.set_cons_succ,List.length_cons,List.length_nil,Bc,AJ,A9,Au,AE,hds],hx,hw'⟩
    rw[show D.sames (d::ds) (d'::ds')=(D.same d d'&&D.sames ds ds') from rfl,e,if_neg (by simp)]
    exact⟨rfl,by simp only[tT,DP,D8,CT,DD,DC,Bz,CP,DN,Ag,CQ,B_,Bu,Be,B6,Ar,AW,AO,DT,Ed,Ec,BJ,CZ,Nat.reduceLT,↓reduceIte,Nat.reduceEqDiff,Nat.reduceAdd,CY,CX,Cb,Bw,Ci,AZ,Cj,Ae,Bh,Ao,AX,D4,Bg,A7,A8,AC,AU,AA,Ay,A_,Ba,AF,AV,AK,Az,Cc,D6,D7,Al,Aq,cells?_cells,DF,CV,DE,CU,DB,DM,DJ,DI,DH,DG,Dz,DQ,DK,Dk,Dp,D9,CR,CS,Nat.add_zero,Nat.zero_add,Nat.add_left_cancel_iff,Nat.add_eq_left,Nat.left_eq_add,List.getElem?_cons_zero,List.getElem?_cons_succ,beq_self_eq_true,Bool.not_true,Bool.not_false,cond_true,cond_false,BA,AR,Ce,BB,BC,Ca,Bool.false_eq_true,CO,AQ,Bv,Bf,CW,Eb,Cd,Cy,Cx,Cw,AY,List.not_mem_nil,or_false,or_true,List.cons_append,List.nil_append,DA,DL,DR,Ch,Cg,C8,A0,Dm,Aj,Ak,List.set_cons_zero,List.set_cons_succ,List.length_cons,List.length_nil,Bc,AJ,A9,Au,AE,hok,hnt]⟩
   | true=>
    simp only[tT,DP,D8,CT,DD,DC,Bz,CP,DN,Ag,CQ,B_,Bu,Be,B6,Ar,AW,AO,DT,Ed,Ec,BJ,CZ,Nat.reduceLT,↓reduceIte,Nat.reduceEqDiff,Nat.reduceAdd,CY,CX,Cb,Bw,Ci,AZ,Cj,Ae,Bh,Ao,AX,D4,Bg,A7,A8,AC,AU,AA,Ay,A_,Ba,AF,AV,AK,Az,Cc,D6,D7,Al,Aq,cells?_cells,DF,CV,DE,CU,DB,DM,DJ,DI,DH,DG,Dz,DQ,DK,Dk,Dp,D9,CR,CS,Nat.add_zero,Nat.zero_add,Nat.add_left_cancel_iff,Nat.add_eq_left,Nat.left_eq_add,List.getElem?_cons_zero,List.getElem?_cons_succ,beq_self_eq_true,Bool.not_true,Bool.not_false,cond_true,cond_false,BA,AR,Ce,BB,BC,Ca,Bool.false_eq_true,CO,AQ,Bv,Bf,CW,Eb,Cd,Cy,Cx,Cw,AY,List.not_mem_nil,or_false,or_true,List.cons_append,List.nil_append,DA,DL,DR,Ch,Cg,C8,A0,Dm,Aj,Ak,List.set_cons_zero,List.set_cons_succ,List.length_cons,List.length_nil,Bc,AJ,A9,Au,AE,Ak8,YM,hok,hnt,hnl,hds,hg0,hg1,hg5,fg,hwr]
    generalize ha':aV.put _ (some 5) _=a'
    have hH:HeadEqC a' (.slice (some ⟨b,off,none⟩) len c) (.slice (some ⟨b',off',none⟩) len c') (k+1):=by
     rw[<-ha']
     constructor<;>simp only[tT,DP,D8,CT,DD,DC,Bz,CP,DN,Ag,CQ,B_,Bu,Be,B6,Ar,AW,AO,DT,Ed,Ec,BJ,CZ,Nat.reduceLT,↓reduceIte,Nat.reduceEqDiff,Nat.reduceAdd,CY,CX,Cb,Bw,Ci,AZ,Cj,Ae,Bh,Ao,AX,D4,Bg,A7,A8,AC,AU,AA,Ay,A_,Ba,AF,AV,AK,Az,Cc,D6,D7,Al,Aq,cells?_cells,DF,CV,DE,CU,DB,DM,DJ,DI,DH,DG,Dz,DQ,DK,Dk,Dp,D9,CR,CS,Nat.add_zero,Nat.zero_add,Nat.add_left_cancel_iff,Nat.add_eq_left,Nat.left_eq_add,List.getElem?_cons_zero,List.getElem?_cons_succ,beq_self_eq_true,Bool.not_true,Bool.not_false,cond_true,cond_false,BA,AR,Ce,BB,BC,Ca,Bool.false_eq_true,CO,AQ,Bv,Bf,CW,Eb,Cd,Cy,Cx,Cw,AY,List.not_mem_nil,or_false,or_true,List.cons_append,List.nil_append,DA,DL,DR,Ch,Cg,C8,A0,Dm,Aj,Ak,List.set_cons_zero,List.set_cons_succ,List.length_cons,List.length_nil,Bc,AJ,A9,Au,AE,hok,hnt,hnl,hds,hg0,hg1,hg5,fg,true_or]
    obtain⟨e1,a1,bS,g1,g2,g3,g4,g5,g6,g7⟩:=ih ds' (k+1) fuel a' V (by simp at hk;omega) (by simpa using hl) (by simp at hf;omega) hN'.2 hM'.2 hw' (h1r.ext hw hx) (h2r.ext hw hx) hH
    refine⟨e1,a1,bS,g1,?_,g3,g4,g5,hx.trans g6,g7⟩
    rw[show D.sames (d::ds) (d'::ds')=(D.same d d'&&D.sames ds ds') from rfl,e]
    exact g2
theorem Qj(n N:Nat)(hE:∀d d' v v' Z,D.deep d<=N->d.count<1000000000->Wf Z->Laid Z v d->Laid Z v' d'->Gives ((env n).call 18 [v,v'] none Z) Z fun w _=>w=.bool (D.same d d'))(p p':Option Addr)(c c':Nat)(ds ds':List D)(Z:aC)(hN:D.deeps ds<=N)(hM:D.counts ds<1000000000)(hw:Wf Z)(h1:LaidE Z p 0 ds)(h2:LaidE Z p' 0 ds'):
  Gives ((env (n+1)).call 26 [.slice p ds.length c,.slice p' ds'.length c'] none Z) Z fun w _=>w=.bool (D.sames ds ds'):=by
 rw[Ai _ 26 _ _ rfl,Apb _ _ _ _ (by simp)]
 generalize ha:(⟨aY undef 6 _,fun _=>undef,6,27,[]⟩:aV)=a
 have hok:a.ok:=by rw[<-ha];exact Vw _ _ _ _
 have hnt:a.nt=27:=by rw[<-ha]
 have hnl:a.nl=6:=by rw[<-ha]
 have hds:a.defers=[]:=by rw[<-ha]
 have hg0:a.get 0=.slice p ds.length c:=by rw[<-ha,HO];rfl
 have hg1:a.get 1=.slice p' ds'.length c':=by rw[<-ha,HO];rfl
 clear ha
 unfold Anl
 cases e1:((Int.ofNat ds.length)==(Int.ofNat ds'.length)) with
 | false=>
  simp only[tT,DP,D8,CT,DD,DC,Bz,CP,DN,Ag,CQ,B_,Bu,Be,B6,Ar,AW,AO,DT,Ed,Ec,BJ,CZ,Nat.reduceLT,↓reduceIte,Nat.reduceEqDiff,Nat.reduceAdd,CY,CX,Cb,Bw,Ci,AZ,Cj,Ae,Bh,Ao,AX,D4,Bg,A7,A8,AC,AU,AA,Ay,A_,Ba,AF,AV,AK,Az,Cc,D6,D7,Al,Aq,cells?_cells,DF,CV,DE,CU,DB,DM,DJ,DI,DH,DG,Dz,DQ,DK,Dk,Dp,D9,CR,CS,Nat.add_zero,Nat.zero_add,Nat.add_left_cancel_iff,Nat.add_eq_left,Nat.left_eq_add,List.getElem?_cons_zero,List.getElem?_cons_succ,beq_self_eq_true,Bool.not_true,Bool.not_false,cond_true,cond_false,BA,AR,Ce,BB,BC,Ca,Bool.false_eq_true,CO,AQ,Bv,Bf,CW,Eb,Cd,Cy,Cx,Cw,AY,List.not_mem_nil,or_false,or_true,List.cons_append,List.nil_append,DA,DL,DR,Ch,Cg,C8,A0,Dm,Aj,Ak,List.set_cons_zero,List.set_cons_succ,List.length_cons,List.length_nil,Bc,AJ,A9,Au,AE,VU,Sx,VV,Sy,VW,Sz,hok,hnt,hnl,hds,hg0,hg1,e1]
  refine⟨_,_,rfl,Ext.refl _,hw,?_⟩
  have hne:ds.length≠ds'.length:=fun h=>by rw[h] at e1;simp at e1
  cases e:D.sames ds ds' with
  | false=>simp only[tT,DP,D8,CT,DD,DC,Bz,CP,DN,Ag,CQ,B_,Bu,Be,B6,Ar,AW,AO,DT,Ed,Ec,BJ,CZ,Nat.reduceLT,↓reduceIte,Nat.reduceEqDiff,Nat.reduceAdd,CY,CX,Cb,Bw,Ci,AZ,Cj,Ae,Bh,Ao,AX,D4,Bg,A7,A8,AC,AU,AA,Ay,A_,Ba,AF,AV,AK,Az,Cc,D6,D7,Al,Aq,cells?_cells,DF,CV,DE,CU,DB,DM,DJ,DI,DH,DG,Dz,DQ,DK,Dk,Dp,D9,CR,CS,Nat.add_zero,Nat.zero_add,Nat.add_left_cancel_iff,Nat.add_eq_left,Nat.left_eq_add,List.getElem?_cons_zero,List.getElem?_cons_succ,beq_self_eq_true,Bool.not_true,Bool.not_false,cond_true,cond_false,BA,AR,Ce,BB,BC,Ca,Bool.false_eq_true,CO,AQ,Bv,Bf,CW,Eb,Cd,Cy,Cx,Cw,AY,List.not_mem_nil,or_false,or_true,List.cons_append,List.nil_append,DA,DL,DR,Ch,Cg,C8,A0,Dm,Aj,Ak,List.set_cons_zero,List.set_cons_succ,List.length_cons,List.length_nil,Bc,AJ,A9,Au,AE,hok,hnt]
  | true=>exact absurd (J5 e) hne
 | true=>
  have hl:ds.length=ds'.length:=Int.ofNat.inj (eq_of_beq e1)
  simp only[tT,DP,D8,CT,DD,DC,Bz,CP,DN,Ag,CQ,B_,Bu,Be,B6,Ar,AW,AO,DT,Ed,Ec,BJ,CZ,Nat.reduceLT,↓reduceIte,Nat.reduceEqDiff,Nat.reduceAdd,CY,CX,Cb,Bw,Ci,AZ,Cj,Ae,Bh,Ao,AX,D4,Bg,A7,A8,AC,AU,AA,Ay,A_,Ba,AF,AV,AK,Az,Cc,D6,D7,Al,Aq,cells?_cells,DF,CV,DE,CU,DB,DM,DJ,DI,DH,DG,Dz,DQ,DK,Dk,Dp,D9,CR,CS,Nat.add_zero,Nat.zero_add,Nat.add_left_cancel_iff,Nat.add_eq_left,Nat.left_eq_add,List.getElem?_cons_zero,List.getElem?_cons_succ,beq_self_eq_true,Bool.not_true,Bool.not_false,cond_true,cond_false,BA,AR,Ce,BB,BC,Ca,Bool.false_eq_true,CO,AQ,Bv,Bf,CW,Eb,Cd,Cy,Cx,Cw,AY,List.not_mem_nil,or_false,or_true,List.cons_append,List.nil_append,DA,DL,DR,Ch,Cg,C8,A0,Dm,Aj,Ak,List.set_cons_zero,List.set_cons_succ,List.length_cons,List.length_nil,Bc,AJ,A9,Au,AE,VU,Sx,VV,Sy,VW,Sz,Ak7,YL,hok,hnt,hnl,hds,hg0,hg1,e1,ApI]
  generalize ha':aV.put _ (some 5) _=a'
  have hH:HeadEqC a' (.slice p ds.length c) (.slice p' ds.length c') 0:=by
   rw[<-ha']
   constructor<;>simp only[tT,DP,D8,CT,DD,DC,Bz,CP,DN,Ag,CQ,B_,Bu,Be,B6,Ar,AW,AO,DT,Ed,Ec,BJ,CZ,Nat.reduceLT,↓reduceIte,Nat.reduceEqDiff,Nat.reduceAdd,CY,CX,Cb,Bw,Ci,AZ,Cj,Ae,Bh,Ao,AX,D4,Bg,A7,A8,AC,AU,AA,Ay,A_,Ba,AF,AV,AK,Az,Cc,D6,D7,Al,Aq,cells?_cells,DF,CV,DE,CU,DB,DM,DJ,DI,DH,DG,Dz,DQ,DK,Dk,Dp,D9,CR,CS,Nat.add_zero,Nat.zero_add,Nat.add_left_cancel_iff,Nat.add_eq_left,Nat.left_eq_add,List.getElem?_cons_zero,List.getElem?_cons_succ,beq_self_eq_true,Bool.not_true,Bool.not_false,cond_true,cond_false,BA,AR,Ce,BB,BC,Ca,Bool.false_eq_true,CO,AQ,Bv,Bf,CW,Eb,Cd,Cy,Cx,Cw,AY,List.not_mem_nil,or_false,or_true,List.cons_append,List.nil_append,DA,DL,DR,Ch,Cg,C8,A0,Dm,Aj,Ak,List.set_cons_zero,List.set_cons_succ,List.length_cons,List.length_nil,Bc,AJ,A9,Au,AE,hok,hnt,hnl,hds,hg0,hg1,hl]<;>rfl
  generalize hb:bL=fuel
  have hlen:ds.length<1000000000000:=by have:=Et ds;omega
  have hf:ds.length<fuel:=by rw[<-hb];exact hlen
  obtain⟨e1,a1,bS,g1,g2,g3,g4,g5,g6,g7⟩:=Qi n N hE p p' ds.length c c' hlen ds ds' 0 fuel a' Z (by simp) hl hf hN hM hw h1 h2 hH
  rw[g1]
  cases e:D.sames ds ds' with
  | false=>
   rw[e,if_neg (by simp)] at g2
   obtain⟨rfl,g8⟩:=g2
   simp only[tT,DP,D8,CT,DD,DC,Bz,CP,DN,Ag,CQ,B_,Bu,Be,B6,Ar,AW,AO,DT,Ed,Ec,BJ,CZ,Nat.reduceLT,↓reduceIte,Nat.reduceEqDiff,Nat.reduceAdd,CY,CX,Cb,Bw,Ci,AZ,Cj,Ae,Bh,Ao,AX,D4,Bg,A7,A8,AC,AU,AA,Ay,A_,Ba,AF,AV,AK,Az,Cc,D6,D7,Al,Aq,cells?_cells,DF,CV,DE,CU,DB,DM,DJ,DI,DH,DG,Dz,DQ,DK,Dk,Dp,D9,CR,CS,Nat.add_zero,Nat.zero_add,Nat.add_left_cancel_iff,Nat.add_eq_left,Nat.left_eq_add,List.getElem?_cons_zero,List.getElem?_cons_succ,beq_self_eq_true,Bool.not_true,Bool.not_false,cond_true,cond_false,BA,AR,Ce,BB,BC,Ca,Bool.false_eq_true,CO,AQ,Bv,Bf,CW,Eb,Cd,Cy,Cx,Cw,AY,List.not_mem_nil,or_false,or_true,List.cons_append,List.nil_append,DA,DL,DR,Ch,Cg,C8,A0,Dm,Aj,Ak,List.set_cons_zero,List.set_cons_succ,List.length_cons,List.length_nil,Bc,AJ,A9,Au,AE,g3,g4,g5,g8]
   exact⟨_,_,rfl,g6,g7,rfl⟩
  | true=>
   rw[e,if_pos rfl] at g2
   subst g2
   simp only[tT,DP,D8,CT,DD,DC,Bz,CP,DN,Ag,CQ,B_,Bu,Be,B6,Ar,AW,AO,DT,Ed,Ec,BJ,CZ,Nat.reduceLT,↓reduceIte,Nat.reduceEqDiff,Nat.reduceAdd,CY,CX,Cb,Bw,Ci,AZ,Cj,Ae,Bh,Ao,AX,D4,Bg,A7,A8,AC,AU,AA,Ay,A_,Ba,AF,AV,AK,Az,Cc,D6,D7,Al,Aq,cells?_cells,DF,CV,DE,CU,DB,DM,DJ,DI,DH,DG,Dz,DQ,DK,Dk,Dp,D9,CR,CS,Nat.add_zero,Nat.zero_add,Nat.add_left_cancel_iff,Nat.add_eq_left,Nat.left_eq_add,List.getElem?_cons_zero,List.getElem?_cons_succ,beq_self_eq_true,Bool.not_true,Bool.not_false,cond_true,cond_false,BA,AR,Ce,BB,BC,Ca,Bool.false_eq_true,CO,AQ,Bv,Bf,CW,Eb,Cd,Cy,Cx,Cw,AY,List.not_mem_nil,or_false,or_true,List.cons_append,List.nil_append,DA,DL,DR,Ch,Cg,C8,A0,Dm,Aj,Ak,List.set_cons_zero,List.set_cons_succ,List.length_cons,List.length_nil,Bc,AJ,A9,Au,AE,Alb,YP,g3,g4,g5]
   exact⟨_,_,rfl,g6,g7,rfl⟩
theorem ME(n:Nat):∀(N:Nat) (d d':D) (v v':Value) (Z:aC),D.deep d<=N->d.count<1000000000->Wf Z->Laid Z v d->Laid Z v' d'->Gives ((env (n+2*N)).call 18 [v,v'] none Z) Z fun w _=>w=.bool (D.same d d')
 | 0,d,_,_,_,_,h,_,_,_,_=>by cases d;rw[D.deep] at h;omega
 | N+1,.mk k z t ds,.mk k' z' t' ds',v,v',Z,h,hc,hw,⟨p,c,hv,hE⟩,⟨p',c',hv',hE'⟩=>by
  subst hv hv'
  rw[D.deep] at h
  rw[D.count] at hc
  have:=Qk (n+2*N+1) k z k' z' t t' (.slice p ds.length c) (.slice p' ds'.length c') Z (D.sames ds ds') hw fun V hx hw'=>
   Qj (n+2*N) N (fun d d' v v' Z a b c e f=>ME n N d d' v v' Z a b c e f) p p' c c' ds ds' V (by omega) (by omega) hw' (hE.ext hw hx) (hE'.ext hw hx)
  rw[show D.same (.mk k z t ds) (.mk k' z' t' ds')=(decide (k=k')&&decide (z=z')&&(t.toList==t'.toList)&&D.sames ds ds') from rfl,<-AaZ,<-AaZ]
  exact this
end Go.Proofs.YtknnbjmcfibpgaaGreatDoor
namespace Go.Eng
open Go
def Vecs(T:TypeId)(Q:Nat->Prop)(Z:aC)(s:Value)(vs:List Value):Prop:=(s=.slice none 0 0/\vs=[])\/∃b,Ful T Z b s vs/\Q b
section
variable {T:TypeId} {Q Q':Nat->Prop} {Z V:aC} {s:Value} {vs:List Value}
theorem Vecs.one(h:Vecs T Q Z s vs):oneCell s=true/\aM s=true/\aI s=[s]:=by
 rcases h with⟨rfl,_⟩|⟨b,h,_⟩
 .exact⟨Au _ _ _,AA _ _ _,rfl⟩
 .exact h.one
theorem Vecs.keep(h:Vecs T Q Z s vs)(hk:∀b,Q b->b<Z.next->V.heap.get b=Z.heap.get b/\Q' b)(hw:Wf Z):Vecs T Q' V s vs:=by
 rcases h with h|⟨b,h,hq⟩
 .exact .inl h
 .exact .inr ⟨b,h.keep (hk b hq (h.lt hw)).1,(hk b hq (h.lt hw)).2⟩
theorem Vecs.append(h:Vecs T Q Z s vs)(hw:Wf Z)(bx cx:Nat)(v:Value)(bytes:Nat)(hx:Z.cells bx=some [v])(ho:oneCell v=true)(hby:bytes<1000)(hlen:vs.length+1<100000):
  ∃b' s' τ,fappend T 1 bytes s (.slice (some ⟨bx,0,none⟩) 1 cx) Z=.val s' τ/\Ful T τ b' s' (vs++[v])/\(Q b'\/b'=Z.next)/\Chg Q Z τ/\Wf τ:=by
 rcases h with⟨rfl,rfl⟩|⟨b,h,hq⟩
 .refine⟨Z.next,.slice (some ⟨Z.next,0,none⟩) 1 1,Z.push (.cells [v] T) (some 1),?_,⟨some 1,Z.clock,rfl,by rw[Aj,if_pos rfl];rfl,.inr rfl⟩,.inr rfl,(Chg.refl _ _).push _ _,hw.push _ _⟩
  have hn:=Ky bx 1 cx [v] [] hx rfl
  unfold fappend
  simp only[hn]
  rw[show [v].all oneCell=true by simp[ho]]
  show fappend2 T 1 bytes 0 0 none 1 [v] Z=_
  unfold fappend2
  rw[show Nat.ble (0+1) 0=false from rfl,show Nat.ble ((0+1)*(bytes+1)) 1000000000=true by rw[Nat.ble_eq];omega]
  rfl
 .obtain⟨b',s',τ,e,F,hb',hC,hw'⟩:=h.append hw (.slice (some ⟨bx,0,none⟩) 1 cx) [v] bytes (Ky bx 1 cx [v] [] hx rfl) (by simp[ho]) hby (by simpa using hlen)
  refine⟨b',s',τ,e,F,?_,hC.weaken fun x _ hx=>hx ▸ hq,hw'⟩
  rcases hb' with rfl|rfl
  .exact .inl hq
  .exact .inr rfl
end
end Go.Eng
namespace Go.Proofs.YtknnbjmcfibpgaaGreatDoor
open Go Go.Eng
attribute [local congr] Aa Af Ad Ab Ac
attribute [-go_sem] List.range_succ
theorem PathAt.pathV{Z:aC}{v:Value}{path:List Nat}(h:PathAt Z v path):PathV (fun _=>True) Z v path:=by
 obtain⟨p,c,rfl,⟨rfl,rfl,rfl⟩|⟨b,more,rfl,hc⟩⟩:=h
 .exact .inl ⟨rfl,rfl⟩
 .exact .inr ⟨b,c,more,rfl,trivial,hc⟩
end Go.Proofs.YtknnbjmcfibpgaaGreatDoor
namespace Go.Proofs.YtknnbjmcfibpgaaGreatDoor
open Go Go.Eng
attribute [local congr] Aa Af Ad Ab Ac
attribute [-go_sem] List.range_succ
def foundIn(x:D)(l:List (List Nat×D)):List (List Nat):=(l.filter fun y=>D.same y.2 x).map (·.1)
def Paths'(B:Nat->Prop)(l:Nat)(Z:aC)(fv:Value)(ps:List (List Nat)):Prop:=∃us bo,Vecs 25 (fun b=>b=bo/\B b/\l<b) Z fv us/\PathsL (fun b=>B b/\l<b/\b≠bo) Z us ps
def FindI(l r cm bx:Nat)(R X:Nat->Prop)(xv:List Value)(x:D)(bU:aC)(f g:Nat->Value)(done:List (List Nat×D))(B:Nat->Prop)(Z:aC):Prop:=
 (∀b,X b\/b=l\/b=r\/b=cm\/b=bx->B b)/\(∀b,B b->b<Z.next/\(X b\/b=l\/b=r\/b=cm\/b=bx\/l<b))/\bR 99 [10,11] Au5 Au6 8 21 f g l r .ready Z/\(∃ver,Z.heap.get r=some ⟨.defd true,false,none,ver⟩)/\
  (∃fv ver,Z.heap.get cm=some ⟨.cells [fv] 54,false,none,ver⟩/\Paths' B l Z fv (foundIn x done))/\Z.cells bx=some xv/\aU (fun b=>R b\/X b) Z (.agg xv.toArray) x/\∀b,X b->Z.heap.get b=bU.heap.get b
end Go.Proofs.YtknnbjmcfibpgaaGreatDoor
namespace Go.Proofs.YtknnbjmcfibpgaaGreatDoor
open Go Go.Eng
attribute [local congr] Aa Af Ad Ab Ac
attribute [-go_sem] List.range_succ
end Go.Proofs.YtknnbjmcfibpgaaGreatDoor
end
