import Derived.Test.YtokieofohmgjdaaGreatDoorU4
set_option linter.unusedSimpArgs false
set_option linter.unusedVariables false
noncomputable section
namespace Go.Proofs.YtokieofohmgjdaaGreatDoor
open Go Go.Eng
attribute [local congr] Ab
theorem AnE:keepOf nls 36=[]:=by kernel_rfl
structure HeadEqC (a:FAct) (s s':Value) (k:Nat):Prop where
 ok:a.ok
 nt:a.nt=27
 nl:a.nl=6
 ds:a.defers=[]
 g0:a.get 0=s
 g1:a.get 1=s'
 g5:a.get 5=.int .i64 (.ofNat k)
theorem QI(n N:Nat)(hE:∀d d' v v' σ,D.deep d≤N→d.count<1000000000→Wf σ→Laid σ v d→Laid σ v' d'→Gives ((env n).call 21 [v,v'] none σ) σ fun w _=>w=.bool (D.same d d'))(p p':Option Addr)(len c c':Nat)(hlen:len<1000000000000):∀(ds ds':List D) (k fuel:Nat) (a:FAct) (σ:FState),k+ds.length=len→ds.length=ds'.length→ds.length<fuel→D.deeps ds≤N→D.counts ds<1000000000→
   Wf σ→LaidE σ p k ds→LaidE σ p' k ds'→HeadEqC a (.slice p len c) (.slice p' len c') k→
   ∃e a' σ',floop [] (Aao (env n) none 36) fuel a none σ=.done e a' none σ'∧(if D.sames ds ds'=true then e=.exit 0 else e=.ret∧a'.get 4=.bool false)∧
    a'.ok∧a'.nt=27∧a'.defers=[]∧Ext σ σ'∧Wf σ':=by
 intro ds
 induction ds with
 | nil=>
  intro ds' k fuel a σ hk hl hf _ _ hw h1 h2 ⟨hok,hnt,hnl,hds,hg0,hg1,hg5⟩
  obtain⟨fuel,rfl⟩:∃f,fuel=f+1:=⟨fuel-1,by simp at hf;omega⟩
  have hd:decide ((Int.ofNat k)<(Int.ofNat len))=false:=by simp at hk ⊢;omega
  have fg:=MO [] a hok
  cases ds' with
  | cons _ _=>simp at hl
  | nil=>
   rw[Ar]
   unfold Aao
   simp only[DR,Ea,CU,DE,DD,BB,CQ,DQ,Ag,CR,Cb,Bw,Be,Ca,Aq,AV,AL,DX,Ef,Ee,BK,C0,Nat.reduceLT,↓reduceIte,Nat.reduceEqDiff,Nat.reduceAdd,CZ,CY,Cd,BA,Ck,AZ,Cm,Aa,Bd,Ap,Bh,D7,Bg,A8,A9,AC,AR,AA,Ay,Ba,Bb,AF,AU,AK,Az,Ce,D9,D_,Ac,Al,cells?_cells,DG,CW,DF,CV,DB,DN,DK,DJ,DI,DH,Dz,DS,DL,DC,DP,Eb,CS,CT,Nat.add_zero,Nat.zero_add,Nat.add_left_cancel_iff,Nat.add_eq_left,Nat.left_eq_add,List.getElem?_cons_zero,List.getElem?_cons_succ,beq_self_eq_true,Bool.not_true,Bool.not_false,cond_true,cond_false,BC,AQ,Cg,BD,BF,Cc,Bool.false_eq_true,CP,AO,Bz,Bf,CX,Ed,Cf,CA,Cz,Cy,AW,List.not_mem_nil,or_false,or_true,List.cons_append,List.nil_append,DA,DM,DT,Cj,Ci,C9,A7,Dl,Ai,Am,List.set_cons_zero,List.set_cons_succ,List.length_cons,List.length_nil,AY,AJ,A_,Au,AE,VW,Td,hok,hnt,hnl,hds,hg0,hg1,hg5,fg,hd]
   exact⟨_,_,_,rfl,rfl,by simp only[DR,Ea,CU,DE,DD,BB,CQ,DQ,Ag,CR,Cb,Bw,Be,Ca,Aq,AV,AL,DX,Ef,Ee,BK,C0,Nat.reduceLT,↓reduceIte,Nat.reduceEqDiff,Nat.reduceAdd,CZ,CY,Cd,BA,Ck,AZ,Cm,Aa,Bd,Ap,Bh,D7,Bg,A8,A9,AC,AR,AA,Ay,Ba,Bb,AF,AU,AK,Az,Ce,D9,D_,Ac,Al,cells?_cells,DG,CW,DF,CV,DB,DN,DK,DJ,DI,DH,Dz,DS,DL,DC,DP,Eb,CS,CT,Nat.add_zero,Nat.zero_add,Nat.add_left_cancel_iff,Nat.add_eq_left,Nat.left_eq_add,List.getElem?_cons_zero,List.getElem?_cons_succ,beq_self_eq_true,Bool.not_true,Bool.not_false,cond_true,cond_false,BC,AQ,Cg,BD,BF,Cc,Bool.false_eq_true,CP,AO,Bz,Bf,CX,Ed,Cf,CA,Cz,Cy,AW,List.not_mem_nil,or_false,or_true,List.cons_append,List.nil_append,DA,DM,DT,Cj,Ci,C9,A7,Dl,Ai,Am,List.set_cons_zero,List.set_cons_succ,List.length_cons,List.length_nil,AY,AJ,A_,Au,AE,hok],by simp only[DR,Ea,CU,DE,DD,BB,CQ,DQ,Ag,CR,Cb,Bw,Be,Ca,Aq,AV,AL,DX,Ef,Ee,BK,C0,Nat.reduceLT,↓reduceIte,Nat.reduceEqDiff,Nat.reduceAdd,CZ,CY,Cd,BA,Ck,AZ,Cm,Aa,Bd,Ap,Bh,D7,Bg,A8,A9,AC,AR,AA,Ay,Ba,Bb,AF,AU,AK,Az,Ce,D9,D_,Ac,Al,cells?_cells,DG,CW,DF,CV,DB,DN,DK,DJ,DI,DH,Dz,DS,DL,DC,DP,Eb,CS,CT,Nat.add_zero,Nat.zero_add,Nat.add_left_cancel_iff,Nat.add_eq_left,Nat.left_eq_add,List.getElem?_cons_zero,List.getElem?_cons_succ,beq_self_eq_true,Bool.not_true,Bool.not_false,cond_true,cond_false,BC,AQ,Cg,BD,BF,Cc,Bool.false_eq_true,CP,AO,Bz,Bf,CX,Ed,Cf,CA,Cz,Cy,AW,List.not_mem_nil,or_false,or_true,List.cons_append,List.nil_append,DA,DM,DT,Cj,Ci,C9,A7,Dl,Ai,Am,List.set_cons_zero,List.set_cons_succ,List.length_cons,List.length_nil,AY,AJ,A_,Au,AE,hnt],by simp only[DR,Ea,CU,DE,DD,BB,CQ,DQ,Ag,CR,Cb,Bw,Be,Ca,Aq,AV,AL,DX,Ef,Ee,BK,C0,Nat.reduceLT,↓reduceIte,Nat.reduceEqDiff,Nat.reduceAdd,CZ,CY,Cd,BA,Ck,AZ,Cm,Aa,Bd,Ap,Bh,D7,Bg,A8,A9,AC,AR,AA,Ay,Ba,Bb,AF,AU,AK,Az,Ce,D9,D_,Ac,Al,cells?_cells,DG,CW,DF,CV,DB,DN,DK,DJ,DI,DH,Dz,DS,DL,DC,DP,Eb,CS,CT,Nat.add_zero,Nat.zero_add,Nat.add_left_cancel_iff,Nat.add_eq_left,Nat.left_eq_add,List.getElem?_cons_zero,List.getElem?_cons_succ,beq_self_eq_true,Bool.not_true,Bool.not_false,cond_true,cond_false,BC,AQ,Cg,BD,BF,Cc,Bool.false_eq_true,CP,AO,Bz,Bf,CX,Ed,Cf,CA,Cz,Cy,AW,List.not_mem_nil,or_false,or_true,List.cons_append,List.nil_append,DA,DM,DT,Cj,Ci,C9,A7,Dl,Ai,Am,List.set_cons_zero,List.set_cons_succ,List.length_cons,List.length_nil,AY,AJ,A_,Au,AE,hds],Ext.refl _,hw⟩
 | cons d ds ih=>
  intro ds' k fuel a σ hk hl hf hN hM hw h1 h2 ⟨hok,hnt,hnl,hds,hg0,hg1,hg5⟩
  obtain⟨fuel,rfl⟩:∃f,fuel=f+1:=⟨fuel-1,by simp at hf;omega⟩
  have hd:decide ((Int.ofNat k)<(Int.ofNat len))=true:=by simp at hk ⊢;omega
  have hlt:k<len:=by simp at hk;omega
  have fg:=MO [] a hok
  cases ds' with
  | nil=>simp at hl
  | cons d' ds'=>
   obtain⟨⟨b,off,cs,rfl,hc,hcl,hL⟩,h1r⟩:=h1
   obtain⟨⟨b',off',cs',rfl,hc',hcl',hL'⟩,h2r⟩:=h2
   have hN':D.deep d≤N∧D.deeps ds≤N:=by simp[D.deeps] at hN;omega
   have hM':d.count<1000000000∧D.counts ds<1000000000:=by rw[D.counts] at hM;omega
   have hv:=D0 hw (Nat.le_refl _)
   rw[Ar]
   unfold Aao
   simp only[DR,Ea,CU,DE,DD,BB,CQ,DQ,Ag,CR,Cb,Bw,Be,Ca,Aq,AV,AL,DX,Ef,Ee,BK,C0,Nat.reduceLT,↓reduceIte,Nat.reduceEqDiff,Nat.reduceAdd,CZ,CY,Cd,BA,Ck,AZ,Cm,Aa,Bd,Ap,Bh,D7,Bg,A8,A9,AC,AR,AA,Ay,Ba,Bb,AF,AU,AK,Az,Ce,D9,D_,Ac,Al,cells?_cells,DG,CW,DF,CV,DB,DN,DK,DJ,DI,DH,Dz,DS,DL,DC,DP,Eb,CS,CT,Nat.add_zero,Nat.zero_add,Nat.add_left_cancel_iff,Nat.add_eq_left,Nat.left_eq_add,List.getElem?_cons_zero,List.getElem?_cons_succ,beq_self_eq_true,Bool.not_true,Bool.not_false,cond_true,cond_false,BC,AQ,Cg,BD,BF,Cc,Bool.false_eq_true,CP,AO,Bz,Bf,CX,Ed,Cf,CA,Cz,Cy,AW,List.not_mem_nil,or_false,or_true,List.cons_append,List.nil_append,DA,DM,DT,Cj,Ci,C9,A7,Dl,Ai,Am,List.set_cons_zero,List.set_cons_succ,List.length_cons,List.length_nil,AY,AJ,A_,Au,AE,VW,Td,Aj9,Yu,hok,hnt,hnl,hds,hg0,hg1,hg5,fg,hd,hlt,hv,hc,hc',hcl,hcl']
   generalize hr:(env n).call 21 _ none _=r
   obtain⟨v,σ',rfl,hx,hw',rfl⟩:=hr ▸ hE d d' _ _ σ hN'.1 hM'.1 hw hL hL'
   have hwr:wrapI (Int.ofNat k+1)=Int.ofNat (k+1):=by
    rw[Dk (by rw[Int.ofNat_eq_natCast];omega)];rfl
   cases e:D.same d d' with
   | false=>
    simp only[DR,Ea,CU,DE,DD,BB,CQ,DQ,Ag,CR,Cb,Bw,Be,Ca,Aq,AV,AL,DX,Ef,Ee,BK,C0,Nat.reduceLT,↓reduceIte,Nat.reduceEqDiff,Nat.reduceAdd,CZ,CY,Cd,BA,Ck,AZ,Cm,Aa,Bd,Ap,Bh,D7,Bg,A8,A9,AC,AR,AA,Ay,Ba,Bb,AF,AU,AK,Az,Ce,D9,D_,Ac,Al,cells?_cells,DG,CW,DF,CV,DB,DN,DK,DJ,DI,DH,Dz,DS,DL,DC,DP,Eb,CS,CT,Nat.add_zero,Nat.zero_add,Nat.add_left_cancel_iff,Nat.add_eq_left,Nat.left_eq_add,List.getElem?_cons_zero,List.getElem?_cons_succ,beq_self_eq_true,Bool.not_true,Bool.not_false,cond_true,cond_false,BC,AQ,Cg,BD,BF,Cc,Bool.false_eq_true,CP,AO,Bz,Bf,CX,Ed,Cf,CA,Cz,Cy,AW,List.not_mem_nil,or_false,or_true,List.cons_append,List.nil_append,DA,DM,DT,Cj,Ci,C9,A7,Dl,Ai,Am,List.set_cons_zero,List.set_cons_succ,List.length_cons,List.length_nil,AY,AJ,A_,Au,AE,Aka,Yv,hok,hnt,hnl,hds,hg0,hg1,hg5,fg,hwr]
    refine⟨_,_,_,rfl,?_,by simp only[DR,Ea,CU,DE,DD,BB,CQ,DQ,Ag,CR,Cb,Bw,Be,Ca,Aq,AV,AL,DX,Ef,Ee,BK,C0,Nat.reduceLT,↓reduceIte,Nat.reduceEqDiff,Nat.reduceAdd,CZ,CY,Cd,BA,Ck,AZ,Cm,Aa,Bd,Ap,Bh,D7,Bg,A8,A9,AC,AR,AA,Ay,Ba,Bb,AF,AU,AK,Az,Ce,D9,D_,Ac,Al,cells?_cells,DG,CW,DF,CV,DB,DN,DK,DJ,DI,DH,Dz,DS,DL,DC,DP,Eb,CS,CT,Nat.add_zero,Nat.zero_add,Nat.add_left_cancel_iff,Nat.add_eq_left,Nat.left_eq_add,List.getElem?_cons_zero,List.getElem?_cons_succ,beq_self_eq_true,Bool.not_true,Bool.not_false,cond_true,cond_false,BC,AQ,Cg,BD,BF,Cc,Bool.false_eq_true,CP,AO,Bz,Bf,CX,Ed,Cf,CA,Cz,Cy,AW,List.not_mem_nil,or_false,or_true,List.cons_append,List.nil_append,DA,DM,DT,Cj,Ci,C9,A7,Dl,Ai,Am,List.set_cons_zero,List.set_cons_succ,List.length_cons,List.length_nil,AY,AJ,A_,Au,AE,hok],by simp only[DR,Ea,CU,DE,DD,BB,CQ,DQ,Ag,CR,Cb,Bw,Be,Ca,Aq,AV,AL,DX,Ef,Ee,BK,C0,Nat.reduceLT,↓reduceIte,Nat.reduceEqDiff,Nat.reduceAdd,CZ,CY,Cd,BA,Ck,AZ,Cm,Aa,Bd,Ap,Bh,D7,Bg,A8,A9,AC,AR,AA,Ay,Ba,Bb,AF,AU,AK,Az,Ce,D9,D_,Ac,Al,cells?_cells,DG,CW,DF,CV,DB,DN,DK,DJ,DI,DH,Dz,DS,DL,DC,DP,Eb,CS,CT,Nat.add_zero,Nat.zero_add,Nat.add_left_cancel_iff,Nat.add_eq_left,Nat.left_eq_add,List.getElem?_cons_zero,List.getElem?_cons_succ,beq_self_eq_true,Bool.not_true,Bool.not_false,cond_true,cond_false,BC,AQ,Cg,BD,BF,Cc,Bool.false_eq_true,CP,AO,Bz,Bf,CX,Ed,Cf,CA,Cz,Cy,AW,List.not_mem_nil,or_false,or_true,List.cons_append,List.nil_append,DA,DM,DT,Cj,Ci,C9,A7,Dl,Ai,Am,List.set_cons_zero,List.set_cons_succ,List.length_cons,List.length_nil,AY,AJ,A_,Au,AE,hnt],by simp only[DR,Ea,CU,DE,DD,BB,CQ,DQ,Ag,CR,Cb,Bw,Be,Ca,Aq,AV,AL,DX,Ef,Ee,BK,C0,Nat.reduceLT,↓reduceIte,Nat.reduceEqDiff,Nat.reduceAdd,CZ,CY,Cd,BA,Ck,AZ,Cm,Aa,Bd,Ap,Bh,D7,Bg,A8,A9,AC,AR,AA,Ay,Ba,Bb,AF,AU,AK,Az,Ce,D9,D_,Ac,Al,cells?_cells,DG,CW,DF,CV,DB,DN,DK,DJ,DI,DH,Dz,DS,DL,DC,DP,Eb,CS,CT,Nat.add_zero,Nat.zero_add,Nat.add_left_cancel_iff,Nat.add_eq_left,Nat.left_eq_add,List.getElem?_cons_zero,List.getElem?_cons_succ,beq_self_eq_true,Bool.not_true,Bool.not_false,cond_true,cond_false,BC,AQ,Cg,BD,BF,Cc,Bool.false_eq_true,CP,AO,Bz,Bf,CX,Ed,Cf,CA,Cz,Cy,AW,List.not_mem_nil,or_false,or_true,List.cons_append,List.nil_append,DA,DM,DT,Cj,Ci,C9,A7,Dl,Ai,Am,List.set_cons_zero,List.set_cons_succ,List.length_cons,List.length_nil,AY,AJ,A_,Au,AE,hds],hx,hw'⟩
    rw[show D.sames (d::ds) (d'::ds')=(D.same d d'&&D.sames ds ds') from rfl,e,if_neg (by simp)]
    exact⟨rfl,by simp only[DR,Ea,CU,DE,DD,BB,CQ,DQ,Ag,CR,Cb,Bw,Be,Ca,Aq,AV,AL,DX,Ef,Ee,BK,C0,Nat.reduceLT,↓reduceIte,Nat.reduceEqDiff,Nat.reduceAdd,CZ,CY,Cd,BA,Ck,AZ,Cm,Aa,Bd,Ap,Bh,D7,Bg,A8,A9,AC,AR,AA,Ay,Ba,Bb,AF,AU,AK,Az,Ce,D9,D_,Ac,Al,cells?_cells,DG,CW,DF,CV,DB,DN,DK,DJ,DI,DH,Dz,DS,DL,DC,DP,Eb,CS,CT,Nat.add_zero,Nat.zero_add,Nat.add_left_cancel_iff,Nat.add_eq_left,Nat.left_eq_add,List.getElem?_cons_zero,List.getElem?_cons_succ,beq_self_eq_true,Bool.not_true,Bool.not_false,cond_true,cond_false,BC,AQ,Cg,BD,BF,Cc,Bool.false_eq_true,CP,AO,Bz,Bf,CX,Ed,Cf,CA,Cz,Cy,AW,List.not_mem_nil,or_false,or_true,List.cons_append,List.nil_append,DA,DM,DT,Cj,Ci,C9,A7,Dl,Ai,Am,List.set_cons_zero,List.set_cons_succ,List.length_cons,List.length_nil,AY,AJ,A_,Au,AE,hok,hnt]⟩
   | true=>
    simp only[DR,Ea,CU,DE,DD,BB,CQ,DQ,Ag,CR,Cb,Bw,Be,Ca,Aq,AV,AL,DX,Ef,Ee,BK,C0,Nat.reduceLT,↓reduceIte,Nat.reduceEqDiff,Nat.reduceAdd,CZ,CY,Cd,BA,Ck,AZ,Cm,Aa,Bd,Ap,Bh,D7,Bg,A8,A9,AC,AR,AA,Ay,Ba,Bb,AF,AU,AK,Az,Ce,D9,D_,Ac,Al,cells?_cells,DG,CW,DF,CV,DB,DN,DK,DJ,DI,DH,Dz,DS,DL,DC,DP,Eb,CS,CT,Nat.add_zero,Nat.zero_add,Nat.add_left_cancel_iff,Nat.add_eq_left,Nat.left_eq_add,List.getElem?_cons_zero,List.getElem?_cons_succ,beq_self_eq_true,Bool.not_true,Bool.not_false,cond_true,cond_false,BC,AQ,Cg,BD,BF,Cc,Bool.false_eq_true,CP,AO,Bz,Bf,CX,Ed,Cf,CA,Cz,Cy,AW,List.not_mem_nil,or_false,or_true,List.cons_append,List.nil_append,DA,DM,DT,Cj,Ci,C9,A7,Dl,Ai,Am,List.set_cons_zero,List.set_cons_succ,List.length_cons,List.length_nil,AY,AJ,A_,Au,AE,Aj8,Yt,hok,hnt,hnl,hds,hg0,hg1,hg5,fg,hwr]
    generalize ha':FAct.put _ (some 5) _=a'
    have hH:HeadEqC a' (.slice (some ⟨b,off,none⟩) len c) (.slice (some ⟨b',off',none⟩) len c') (k+1):=by
     rw[←ha']
     constructor<;>simp only[DR,Ea,CU,DE,DD,BB,CQ,DQ,Ag,CR,Cb,Bw,Be,Ca,Aq,AV,AL,DX,Ef,Ee,BK,C0,Nat.reduceLT,↓reduceIte,Nat.reduceEqDiff,Nat.reduceAdd,CZ,CY,Cd,BA,Ck,AZ,Cm,Aa,Bd,Ap,Bh,D7,Bg,A8,A9,AC,AR,AA,Ay,Ba,Bb,AF,AU,AK,Az,Ce,D9,D_,Ac,Al,cells?_cells,DG,CW,DF,CV,DB,DN,DK,DJ,DI,DH,Dz,DS,DL,DC,DP,Eb,CS,CT,Nat.add_zero,Nat.zero_add,Nat.add_left_cancel_iff,Nat.add_eq_left,Nat.left_eq_add,List.getElem?_cons_zero,List.getElem?_cons_succ,beq_self_eq_true,Bool.not_true,Bool.not_false,cond_true,cond_false,BC,AQ,Cg,BD,BF,Cc,Bool.false_eq_true,CP,AO,Bz,Bf,CX,Ed,Cf,CA,Cz,Cy,AW,List.not_mem_nil,or_false,or_true,List.cons_append,List.nil_append,DA,DM,DT,Cj,Ci,C9,A7,Dl,Ai,Am,List.set_cons_zero,List.set_cons_succ,List.length_cons,List.length_nil,AY,AJ,A_,Au,AE,hok,hnt,hnl,hds,hg0,hg1,hg5,fg,true_or]
    obtain⟨e1,a1,σ1,g1,g2,g3,g4,g5,g6,g7⟩:=ih ds' (k+1) fuel a' σ' (by simp at hk;omega) (by simpa using hl) (by simp at hf;omega) hN'.2 hM'.2 hw' (h1r.ext hw hx) (h2r.ext hw hx) hH
    refine⟨e1,a1,σ1,g1,?_,g3,g4,g5,hx.trans g6,g7⟩
    rw[show D.sames (d::ds) (d'::ds')=(D.same d d'&&D.sames ds ds') from rfl,e]
    exact g2
theorem QJ(n N:Nat)(hE:∀d d' v v' σ,D.deep d≤N→d.count<1000000000→Wf σ→Laid σ v d→Laid σ v' d'→Gives ((env n).call 21 [v,v'] none σ) σ fun w _=>w=.bool (D.same d d'))(p p':Option Addr)(c c':Nat)(ds ds':List D)(σ:FState)(hN:D.deeps ds≤N)(hM:D.counts ds<1000000000)(hw:Wf σ)(h1:LaidE σ p 0 ds)(h2:LaidE σ p' 0 ds'):
  Gives ((env (n+1)).call 36 [.slice p ds.length c,.slice p' ds'.length c'] none σ) σ fun w _=>w=.bool (D.sames ds ds'):=by
 rw[Ak _ 36 _ _ rfl,Ane _ _ _ _ (by simp)]
 generalize ha:(⟨padTo undef 6 _,fun _=>undef,6,27,[]⟩:FAct)=a
 have hok:a.ok:=by rw[←ha];exact VF _ _ _ _
 have hnt:a.nt=27:=by rw[←ha]
 have hnl:a.nl=6:=by rw[←ha]
 have hds:a.defers=[]:=by rw[←ha]
 have hg0:a.get 0=.slice p ds.length c:=by rw[←ha,HN];rfl
 have hg1:a.get 1=.slice p' ds'.length c':=by rw[←ha,HN];rfl
 clear ha
 unfold Alw
 cases e1:((Int.ofNat ds.length)==(Int.ofNat ds'.length)) with
 | false=>
  simp only[DR,Ea,CU,DE,DD,BB,CQ,DQ,Ag,CR,Cb,Bw,Be,Ca,Aq,AV,AL,DX,Ef,Ee,BK,C0,Nat.reduceLT,↓reduceIte,Nat.reduceEqDiff,Nat.reduceAdd,CZ,CY,Cd,BA,Ck,AZ,Cm,Aa,Bd,Ap,Bh,D7,Bg,A8,A9,AC,AR,AA,Ay,Ba,Bb,AF,AU,AK,Az,Ce,D9,D_,Ac,Al,cells?_cells,DG,CW,DF,CV,DB,DN,DK,DJ,DI,DH,Dz,DS,DL,DC,DP,Eb,CS,CT,Nat.add_zero,Nat.zero_add,Nat.add_left_cancel_iff,Nat.add_eq_left,Nat.left_eq_add,List.getElem?_cons_zero,List.getElem?_cons_succ,beq_self_eq_true,Bool.not_true,Bool.not_false,cond_true,cond_false,BC,AQ,Cg,BD,BF,Cc,Bool.false_eq_true,CP,AO,Bz,Bf,CX,Ed,Cf,CA,Cz,Cy,AW,List.not_mem_nil,or_false,or_true,List.cons_append,List.nil_append,DA,DM,DT,Cj,Ci,C9,A7,Dl,Ai,Am,List.set_cons_zero,List.set_cons_succ,List.length_cons,List.length_nil,AY,AJ,A_,Au,AE,VT,Ta,VU,Tb,VV,Tc,hok,hnt,hnl,hds,hg0,hg1,e1]
  refine⟨_,_,rfl,Ext.refl _,hw,?_⟩
  have hne:ds.length≠ds'.length:=fun h=>by rw[h] at e1;simp at e1
  cases e:D.sames ds ds' with
  | false=>simp only[DR,Ea,CU,DE,DD,BB,CQ,DQ,Ag,CR,Cb,Bw,Be,Ca,Aq,AV,AL,DX,Ef,Ee,BK,C0,Nat.reduceLT,↓reduceIte,Nat.reduceEqDiff,Nat.reduceAdd,CZ,CY,Cd,BA,Ck,AZ,Cm,Aa,Bd,Ap,Bh,D7,Bg,A8,A9,AC,AR,AA,Ay,Ba,Bb,AF,AU,AK,Az,Ce,D9,D_,Ac,Al,cells?_cells,DG,CW,DF,CV,DB,DN,DK,DJ,DI,DH,Dz,DS,DL,DC,DP,Eb,CS,CT,Nat.add_zero,Nat.zero_add,Nat.add_left_cancel_iff,Nat.add_eq_left,Nat.left_eq_add,List.getElem?_cons_zero,List.getElem?_cons_succ,beq_self_eq_true,Bool.not_true,Bool.not_false,cond_true,cond_false,BC,AQ,Cg,BD,BF,Cc,Bool.false_eq_true,CP,AO,Bz,Bf,CX,Ed,Cf,CA,Cz,Cy,AW,List.not_mem_nil,or_false,or_true,List.cons_append,List.nil_append,DA,DM,DT,Cj,Ci,C9,A7,Dl,Ai,Am,List.set_cons_zero,List.set_cons_succ,List.length_cons,List.length_nil,AY,AJ,A_,Au,AE,hok,hnt]
  | true=>exact absurd (Ha e) hne
 | true=>
  have hl:ds.length=ds'.length:=Int.ofNat.inj (eq_of_beq e1)
  simp only[DR,Ea,CU,DE,DD,BB,CQ,DQ,Ag,CR,Cb,Bw,Be,Ca,Aq,AV,AL,DX,Ef,Ee,BK,C0,Nat.reduceLT,↓reduceIte,Nat.reduceEqDiff,Nat.reduceAdd,CZ,CY,Cd,BA,Ck,AZ,Cm,Aa,Bd,Ap,Bh,D7,Bg,A8,A9,AC,AR,AA,Ay,Ba,Bb,AF,AU,AK,Az,Ce,D9,D_,Ac,Al,cells?_cells,DG,CW,DF,CV,DB,DN,DK,DJ,DI,DH,Dz,DS,DL,DC,DP,Eb,CS,CT,Nat.add_zero,Nat.zero_add,Nat.add_left_cancel_iff,Nat.add_eq_left,Nat.left_eq_add,List.getElem?_cons_zero,List.getElem?_cons_succ,beq_self_eq_true,Bool.not_true,Bool.not_false,cond_true,cond_false,BC,AQ,Cg,BD,BF,Cc,Bool.false_eq_true,CP,AO,Bz,Bf,CX,Ed,Cf,CA,Cz,Cy,AW,List.not_mem_nil,or_false,or_true,List.cons_append,List.nil_append,DA,DM,DT,Cj,Ci,C9,A7,Dl,Ai,Am,List.set_cons_zero,List.set_cons_succ,List.length_cons,List.length_nil,AY,AJ,A_,Au,AE,VT,Ta,VU,Tb,VV,Tc,Aj7,Ys,hok,hnt,hnl,hds,hg0,hg1,e1,AnE]
  generalize ha':FAct.put _ (some 5) _=a'
  have hH:HeadEqC a' (.slice p ds.length c) (.slice p' ds.length c') 0:=by
   rw[←ha']
   constructor<;>simp only[DR,Ea,CU,DE,DD,BB,CQ,DQ,Ag,CR,Cb,Bw,Be,Ca,Aq,AV,AL,DX,Ef,Ee,BK,C0,Nat.reduceLT,↓reduceIte,Nat.reduceEqDiff,Nat.reduceAdd,CZ,CY,Cd,BA,Ck,AZ,Cm,Aa,Bd,Ap,Bh,D7,Bg,A8,A9,AC,AR,AA,Ay,Ba,Bb,AF,AU,AK,Az,Ce,D9,D_,Ac,Al,cells?_cells,DG,CW,DF,CV,DB,DN,DK,DJ,DI,DH,Dz,DS,DL,DC,DP,Eb,CS,CT,Nat.add_zero,Nat.zero_add,Nat.add_left_cancel_iff,Nat.add_eq_left,Nat.left_eq_add,List.getElem?_cons_zero,List.getElem?_cons_succ,beq_self_eq_true,Bool.not_true,Bool.not_false,cond_true,cond_false,BC,AQ,Cg,BD,BF,Cc,Bool.false_eq_true,CP,AO,Bz,Bf,CX,Ed,Cf,CA,Cz,Cy,AW,List.not_mem_nil,or_false,or_true,List.cons_append,List.nil_append,DA,DM,DT,Cj,Ci,C9,A7,Dl,Ai,Am,List.set_cons_zero,List.set_cons_succ,List.length_cons,List.length_nil,AY,AJ,A_,Au,AE,hok,hnt,hnl,hds,hg0,hg1,hl]<;>rfl
  generalize hb:bigFuel=fuel
  have hlen:ds.length<1000000000000:=by have:=Eh ds;omega
  have hf:ds.length<fuel:=by rw[←hb];exact hlen
  obtain⟨e1,a1,σ1,g1,g2,g3,g4,g5,g6,g7⟩:=QI n N hE p p' ds.length c c' hlen ds ds' 0 fuel a' σ (by simp) hl hf hN hM hw h1 h2 hH
  rw[g1]
  cases e:D.sames ds ds' with
  | false=>
   rw[e,if_neg (by simp)] at g2
   obtain⟨rfl,g8⟩:=g2
   simp only[DR,Ea,CU,DE,DD,BB,CQ,DQ,Ag,CR,Cb,Bw,Be,Ca,Aq,AV,AL,DX,Ef,Ee,BK,C0,Nat.reduceLT,↓reduceIte,Nat.reduceEqDiff,Nat.reduceAdd,CZ,CY,Cd,BA,Ck,AZ,Cm,Aa,Bd,Ap,Bh,D7,Bg,A8,A9,AC,AR,AA,Ay,Ba,Bb,AF,AU,AK,Az,Ce,D9,D_,Ac,Al,cells?_cells,DG,CW,DF,CV,DB,DN,DK,DJ,DI,DH,Dz,DS,DL,DC,DP,Eb,CS,CT,Nat.add_zero,Nat.zero_add,Nat.add_left_cancel_iff,Nat.add_eq_left,Nat.left_eq_add,List.getElem?_cons_zero,List.getElem?_cons_succ,beq_self_eq_true,Bool.not_true,Bool.not_false,cond_true,cond_false,BC,AQ,Cg,BD,BF,Cc,Bool.false_eq_true,CP,AO,Bz,Bf,CX,Ed,Cf,CA,Cz,Cy,AW,List.not_mem_nil,or_false,or_true,List.cons_append,List.nil_append,DA,DM,DT,Cj,Ci,C9,A7,Dl,Ai,Am,List.set_cons_zero,List.set_cons_succ,List.length_cons,List.length_nil,AY,AJ,A_,Au,AE,g3,g4,g5,g8]
   exact⟨_,_,rfl,g6,g7,rfl⟩
  | true=>
   rw[e,if_pos rfl] at g2
   subst g2
   simp only[DR,Ea,CU,DE,DD,BB,CQ,DQ,Ag,CR,Cb,Bw,Be,Ca,Aq,AV,AL,DX,Ef,Ee,BK,C0,Nat.reduceLT,↓reduceIte,Nat.reduceEqDiff,Nat.reduceAdd,CZ,CY,Cd,BA,Ck,AZ,Cm,Aa,Bd,Ap,Bh,D7,Bg,A8,A9,AC,AR,AA,Ay,Ba,Bb,AF,AU,AK,Az,Ce,D9,D_,Ac,Al,cells?_cells,DG,CW,DF,CV,DB,DN,DK,DJ,DI,DH,Dz,DS,DL,DC,DP,Eb,CS,CT,Nat.add_zero,Nat.zero_add,Nat.add_left_cancel_iff,Nat.add_eq_left,Nat.left_eq_add,List.getElem?_cons_zero,List.getElem?_cons_succ,beq_self_eq_true,Bool.not_true,Bool.not_false,cond_true,cond_false,BC,AQ,Cg,BD,BF,Cc,Bool.false_eq_true,CP,AO,Bz,Bf,CX,Ed,Cf,CA,Cz,Cy,AW,List.not_mem_nil,or_false,or_true,List.cons_append,List.nil_append,DA,DM,DT,Cj,Ci,C9,A7,Dl,Ai,Am,List.set_cons_zero,List.set_cons_succ,List.length_cons,List.length_nil,AY,AJ,A_,Au,AE,Akb,Yw,g3,g4,g5]
   exact⟨_,_,rfl,g6,g7,rfl⟩
theorem GM(n:Nat):∀(N:Nat) (d d':D) (v v':Value) (σ:FState),D.deep d≤N→d.count<1000000000→Wf σ→Laid σ v d→Laid σ v' d'→Gives ((env (n+2*N)).call 21 [v,v'] none σ) σ fun w _=>w=.bool (D.same d d')
 | 0,d,_,_,_,_,h,_,_,_,_=>by cases d;rw[D.deep] at h;omega
 | N+1,.mk k z t ds,.mk k' z' t' ds',v,v',σ,h,hc,hw,⟨p,c,hv,hE⟩,⟨p',c',hv',hE'⟩=>by
  subst hv hv'
  rw[D.deep] at h
  rw[D.count] at hc
  have:=QK (n+2*N+1) k z k' z' t t' (.slice p ds.length c) (.slice p' ds'.length c') σ (D.sames ds ds') hw fun σ' hx hw'=>
   QJ (n+2*N) N (fun d d' v v' σ a b c e f=>GM n N d d' v v' σ a b c e f) p p' c c' ds ds' σ' (by omega) (by omega) hw' (hE.ext hw hx) (hE'.ext hw hx)
  rw[show D.same (.mk k z t ds) (.mk k' z' t' ds')=(decide (k=k')&&decide (z=z')&&(t.toList==t'.toList)&&D.sames ds ds') from rfl,←Lt,←Lt]
  exact this
end Go.Proofs.YtokieofohmgjdaaGreatDoor
namespace Go.Eng
open Go
def Vecs(T:TypeId)(Q:Nat→Prop)(σ:FState)(s:Value)(vs:List Value):Prop:=(s=.slice none 0 0∧vs=[])∨∃b,Ful T σ b s vs∧Q b
section
variable {T:TypeId} {Q Q':Nat→Prop} {σ σ':FState} {s:Value} {vs:List Value}
theorem Vecs.one(h:Vecs T Q σ s vs):oneCell s=true∧notTuple s=true∧valCells s=[s]:=by
 rcases h with⟨rfl,_⟩|⟨b,h,_⟩
 ·exact⟨Au _ _ _,AA _ _ _,rfl⟩
 ·exact h.one
theorem Vecs.keep(h:Vecs T Q σ s vs)(hk:∀b,Q b→b<σ.next→σ'.heap.get b=σ.heap.get b∧Q' b)(hw:Wf σ):Vecs T Q' σ' s vs:=by
 rcases h with h|⟨b,h,hq⟩
 ·exact .inl h
 ·exact .inr ⟨b,h.keep (hk b hq (h.lt hw)).1,(hk b hq (h.lt hw)).2⟩
theorem Vecs.append(h:Vecs T Q σ s vs)(hw:Wf σ)(bx cx:Nat)(v:Value)(bytes:Nat)(hx:σ.cells bx=some [v])(ho:oneCell v=true)(hby:bytes<1000)(hlen:vs.length+1<100000):
  ∃b' s' τ,fappend T 1 bytes s (.slice (some ⟨bx,0,none⟩) 1 cx) σ=.val s' τ∧Ful T τ b' s' (vs++[v])∧(Q b'∨b'=σ.next)∧Chg Q σ τ∧Wf τ:=by
 rcases h with⟨rfl,rfl⟩|⟨b,h,hq⟩
 ·refine⟨σ.next,.slice (some ⟨σ.next,0,none⟩) 1 1,σ.push (.cells [v] T) (some 1),?_,⟨some 1,σ.clock,rfl,by rw[Ai,if_pos rfl];rfl,.inr rfl⟩,.inr rfl,(Chg.refl _ _).push _ _,hw.push _ _⟩
  have hn:=Gh bx 1 cx [v] [] hx rfl
  unfold fappend
  simp only[hn]
  rw[show [v].all oneCell=true by simp[ho]]
  show fappend2 T 1 bytes 0 0 none 1 [v] σ=_
  unfold fappend2
  rw[show Nat.ble (0+1) 0=false from rfl,show Nat.ble ((0+1)*(bytes+1)) 1000000000=true by rw[Nat.ble_eq];omega]
  rfl
 ·obtain⟨b',s',τ,e,F,hb',hC,hw'⟩:=h.append hw (.slice (some ⟨bx,0,none⟩) 1 cx) [v] bytes (Gh bx 1 cx [v] [] hx rfl) (by simp[ho]) hby (by simpa using hlen)
  refine⟨b',s',τ,e,F,?_,hC.weaken fun x _ hx=>hx ▸ hq,hw'⟩
  rcases hb' with rfl|rfl
  ·exact .inl hq
  ·exact .inr rfl
end
end Go.Eng
namespace Go.Proofs.YtokieofohmgjdaaGreatDoor
open Go Go.Eng
attribute [local congr] Ab Ah Af Ad Ae
attribute [-go_sem] List.range_succ
theorem PathAt.pathV{σ:FState}{v:Value}{path:List Nat}(h:PathAt σ v path):PathV (fun _=>True) σ v path:=by
 obtain⟨p,c,rfl,⟨rfl,rfl,rfl⟩|⟨b,more,rfl,hc⟩⟩:=h
 ·exact .inl ⟨rfl,rfl⟩
 ·exact .inr ⟨b,c,more,rfl,trivial,hc⟩
theorem Ae3(x:Nat)(l c:Nat)(σ:FState):i_eql Tryz.prog 25 (.tmp x) (.const (.slice none 0 0)) (.slice none l c) (.slice none 0 0) σ=.val (.bool true) σ:=by kernel_rfl
theorem Aby(x:Nat)(a:Addr)(l c:Nat)(σ:FState):i_eql Tryz.prog 25 (.tmp x) (.const (.slice none 0 0)) (.slice (some a) l c) (.slice none 0 0) σ=.val (.bool false) σ:=by kernel_rfl
theorem Aex(n:Nat){Q:Nat→Prop}{v:Value}{path:List Nat}(σ:FState)(hw:Wf σ)(h:PathV Q σ v path)(hl:path.length<99999):
  Gives ((env (n+1)).call 135 [v] none σ) σ fun w σ'=>PathV (fun b=>σ.next≤b) σ' w path:=by
 rw[Ak _ 135 _ _ rfl,AeK _ _ _ _ (by simp),Aj]
 unfold ZE
 have h0:=h
 rcases h with⟨rfl,rfl⟩|⟨b,cx,rest,rfl,hQ,hc⟩
 ·simp -implicitDefEqProofs only[go_sem,PN,LN,PO,LO,AcN,RW,Ae3]
  exact⟨_,_,rfl,Ext.refl _,hw,.inl ⟨rfl,rfl⟩⟩
 ·have F1:Ful TI (σ.push (.cells [] TI) none) σ.next (.slice (some ⟨σ.next,0,none⟩) 0 0) []:=Ful.push TI σ []
  have hb:=hw.cells hc
  have hw1:=hw.push (.cells [] TI) none
  have a1:PathV Q (σ.push (.cells [] TI) none) (.slice (some ⟨b,0,none⟩) path.length cx) path:=.inr ⟨b,cx,rest,rfl,hQ,by rw[Ac,if_neg (by omega)];exact hc⟩
  obtain⟨b2,s2,σ2,e2,F2,hb2,ch2,hw2⟩:=F1.append hw1 (.slice (some ⟨b,0,none⟩) path.length cx) (intsOf path) 8 a1.fnew (I9 _) (by omega) (by simp[DU];omega)
  simp -implicitDefEqProofs only[go_sem,PN,LN,PO,LO,AcO,RZ,Aby,e2]
  have n2:=ch2.next
  have k2:=ch2.clock
  rw[Aa] at n2
  rw[Bd] at k2
  rw[List.nil_append] at F2
  obtain⟨g1,g2⟩:=F2.cells
  rw[DU] at g1
  refine⟨_,_,rfl,⟨by omega,by omega,fun x hx=>?_⟩,hw2,.inr ⟨b2,_,[],g1,?_,by rw[List.append_nil];exact g2⟩⟩
  ·rw[ch2.get x (by rw[Aa];omega) (by omega),Ai,if_neg (by omega)]
  ·rcases hb2 with rfl|rfl
   ·exact Nat.le_refl _
   ·rw[Aa];omega
end Go.Proofs.YtokieofohmgjdaaGreatDoor
namespace Go.Proofs.YtokieofohmgjdaaGreatDoor
open Go Go.Eng
attribute [local congr] Ab Ah Af Ad Ae
attribute [-go_sem] List.range_succ
def foundIn(x:D)(l:List (List Nat×D)):List (List Nat):=(l.filter fun y=>D.same y.2 x).map (·.1)
theorem JC(x:D)(l:List (List Nat×D))(y:List Nat×D):foundIn x (l++[y])=foundIn x l++(if D.same y.2 x=true then [y.1] else []):=by
 unfold foundIn
 rw[List.filter_append,List.map_append]
 cases h:D.same y.2 x<;>simp[h]
def Paths'(B:Nat→Prop)(l:Nat)(σ:FState)(fv:Value)(ps:List (List Nat)):Prop:=∃us bo,Vecs 25 (fun b=>b=bo∧B b∧l<b) σ fv us∧PathsL (fun b=>B b∧l<b∧b≠bo) σ us ps
def FindI(l r cm bx:Nat)(R X:Nat→Prop)(xv:List Value)(x:D)(σ0:FState)(f g:Nat→Value)(done:List (List Nat×D))(B:Nat→Prop)(σ:FState):Prop:=
 (∀b,X b∨b=l∨b=r∨b=cm∨b=bx→B b)∧(∀b,B b→b<σ.next∧(X b∨b=l∨b=r∨b=cm∨b=bx∨l<b))∧LoopAt 113 [10,11] Et Eu 8 21 f g l r .ready σ∧(∃ver,σ.heap.get r=some ⟨.defd true,false,none,ver⟩)∧
  (∃fv ver,σ.heap.get cm=some ⟨.cells [fv] 42,false,none,ver⟩∧Paths' B l σ fv (foundIn x done))∧σ.cells bx=some xv∧LaidR (fun b=>R b∨X b) σ (.agg xv.toArray) x∧∀b,X b→σ.heap.get b=σ0.heap.get b
theorem AbG(M n N l r cm bx:Nat)(X R:Nat→Prop)(xv:List Value)(x:D)(σ0:FState)(f g:Nat→Value)(all:List (List Nat×D))(hM:M=n+2*N)(hx4:xv.length=4)(hne:bx<cm∧cm<r∧r<l)(h3:f 3=.pointer (some ⟨bx,0,none⟩))(h5:f 5=.pointer (some ⟨cm,0,none⟩))(hR:∀b,R b→b<bx∧¬ X b)(hX:∀b,X b→b<bx)(hall:∀y∈all,y.1.length<80000∧D.deep y.2≤N∧y.2.count<1000000000)(hfew:all.length<90000):
  Body (env (M+3)) l R (.func (.func 153) #[] #[]) (FindI l r cm bx R X xv x σ0 f g) all where
 stays:=fun done B σ σ' ⟨h1,h2,h6,⟨v7,h7⟩,⟨fv,v8,h8,us,bo,h9,h11⟩,h12,h13,h14⟩ hw hC=>by
  have k:∀b,B b→b<σ.next→σ'.heap.get b=σ.heap.get b:=fun b hb hn=>hC.get b hn fun h=>h.1 hb
  have kc:∀b c,B b→σ.cells b=some c→σ'.cells b=some c:=fun b c hb hc=>by
   have:=k b hb (hw.cells hc)
   rw[AG] at hc ⊢
   rw[this];exact hc
  have hn:=hC.next
  have kR:∀b c,R b→σ.cells b=some c→σ'.cells b=some c:=fun b c hb hc=>by
   have:=hC.get b (hw.cells hc) fun h=>h.2 hb
   rw[AG] at hc ⊢
   rw[this];exact hc
  have own:=fun b hb=>(h2 b (h1 b hb)).1
  exact⟨h1,fun b hb=>⟨Nat.lt_of_lt_of_le (h2 b hb).1 hn,(h2 b hb).2⟩,h6.keep (k l (h1 l (by simp)) (own l (by simp))),⟨v7,(k r (h1 r (by simp)) (own r (by simp))).trans h7⟩,⟨fv,v8,(k cm (h1 cm (by simp)) (own cm (by simp))).trans h8,us,bo,h9.keep (fun b hb hn=>⟨k b hb.2.1 hn,hb⟩) hw,h11.keep fun b c hb hc=>⟨kc b c hb.1 hc,hb⟩⟩,kc bx _ (h1 bx (by simp)) h12,h13.keep (fun b c hb hc=>⟨by
   rcases hb with hb|hb
   ·exact kR b c hb hc
   ·exact kc b c (h1 b (by simp[hb])) hc,hb⟩),fun b hb=>(k b (h1 b (by simp[hb])) (own b (by simp[hb]))).trans (h14 b hb)⟩
 own:=fun done B σ ⟨h1,h2,h6,_⟩ b hb=>⟨(h2 b hb).1,fun h=>by
  have:=hR b h
  rcases (h2 b hb).2 with h|h|h|h|h|h
  ·exact this.2 h
  all_goals omega⟩
 inside:=fun done B σ k z t p ln c _ hw=>Kr (M+2) _ 153 #[] rfl k z t (.slice p ln c) (Au _ _ _) σ hw fun σ' _ hw'=>⟨_,σ',Ad9 (M+1) _ σ',Ext.refl _,hw',rfl⟩
 go:=fun done path d rest B σ pv v hall' hw ⟨h1,h2,h6,⟨v7,h7⟩,⟨fv,v8,h8,us,bo,h9,h11⟩,h12,h13,h14⟩ hpath hL=>by
  have hmem:(path,d)∈all:=by rw[hall'];simp
  obtain⟨hp8,hdp,hct⟩:=hall _ hmem
  have hp8:path.length<80000:=hp8
  have hdone:done.length<90000:=by have:=congrArg List.length hall';simp at this;omega
  have hL0:=hL.laid
  obtain⟨k,z,t,ps⟩:=d
  obtain⟨p,c,rfl,hq⟩:=hL
  have own:=fun b hb=>(h2 b (h1 b hb)).1
  have ol:=own l (by simp)
  have or':=own r (by simp)
  have oc:=own cm (by simp)
  have ob:=own bx (by simp)
  rw[Kc _ _ _ _ _ _ _ _ _ (M+2) l r _ h6 rfl,WY]
  simp -implicitDefEqProofs only[go_sem,Aw,Acl,Ru,Acm,Rv,List.zip_cons_cons,List.zip_nil_right,FT,GU]
  have x1:Ext σ ((σ.push (.cells [.int .i64 0,.int .i64 0,.string ⟨#[]⟩,.slice none 0 0] TD) none).put σ.next (.cells [.int .i64 k,.int .i64 z,.string t,.slice p ps.length c] TD) none):=((Ext.refl _).push _ _).put _ _ _ (Nat.le_refl _)
  have hw1:=(hw.push (.cells [.int .i64 0,.int .i64 0,.string ⟨#[]⟩,.slice none 0 0] TD) none).put σ.next (.cells [.int .i64 k,.int .i64 z,.string t,.slice p ps.length c] TD) none (Nat.lt_succ_self _)
  have b1:((σ.push (.cells [.int .i64 0,.int .i64 0,.string ⟨#[]⟩,.slice none 0 0] TD) none).put σ.next (.cells [.int .i64 k,.int .i64 z,.string t,.slice p ps.length c] TD) none).cells σ.next=some [.int .i64 k,.int .i64 z,.string t,.slice p ps.length c]:=by rw[Al,if_pos rfl];rfl
  have n1:((σ.push (.cells [.int .i64 0,.int .i64 0,.string ⟨#[]⟩,.slice none 0 0] TD) none).put σ.next (.cells [.int .i64 k,.int .i64 z,.string t,.slice p ps.length c] TD) none).next=σ.next+1:=rfl
  generalize FState.put _ _ _ _=σ1 at x1 hw1 b1 n1 ⊢
  have l1:=h6.keep (x1.get l ol)
  rw[E2 _ _ _ _ _ _ _ _ _ l r _ l1,WZ]
  have hw2:=hw1.put l (.loop .busy none 113 ((List.range 8).map f) g 8 21 [10,11] Et Eu r) none (by omega)
  have l2:LoopAt 113 [10,11] Et Eu 8 21 f g l r .busy (σ1.put l (.loop .busy none 113 ((List.range 8).map f) g 8 21 [10,11] Et Eu r) none):=LoopAt.put _ _ _ _ _ _ _ _ _ _ _ _
  have n2:(σ1.put l (.loop .busy none 113 ((List.range 8).map f) g 8 21 [10,11] Et Eu r) none).next=σ.next+1:=n1
  have C2:Chg (· = l) σ (σ1.put l (.loop .busy none 113 ((List.range 8).map f) g 8 21 [10,11] Et Eu r) none):=(x1.chg _).put _ _ _ (.inr rfl)
  have b2:(σ1.put l (.loop .busy none 113 ((List.range 8).map f) g 8 21 [10,11] Et Eu r) none).cells σ.next=some [.int .i64 k,.int .i64 z,.string t,.slice p ps.length c]:=by rw[Al,if_neg (by omega)];exact b1
  generalize FState.put _ l _ _=σ2 at hw2 l2 b2 C2 n2 ⊢
  have lk:LoopAt 113 [10,11] Et Eu 8 21 f g l r .ready σ:=h6
  have hlc:∀b cs,σ.cells b=some cs→b≠l:=fun b cs hc hb=>by
   obtain⟨ver,h6⟩:=lk
   rw[hb,AG,h6] at hc
   cases hc
  have k2:∀b cs,σ.cells b=some cs→σ2.cells b=some cs:=fun b cs hc=>(C2.cells (hw.cells hc) (hlc b cs hc)).trans hc
  have cx2:=k2 _ _ h12
  obtain⟨_,σ3,e3,x3,hw3,rfl⟩:=MJ (n+2) N (.mk k z t ps) x (.agg #[.int .i64 k,.int .i64 z,.string t,.slice p ps.length c]) (.agg xv.toArray) σ2 hdp hct hw2 (LaidR.laid (R:=fun _=>True) (LaidR.keep (R:=R) (fun b cs _ hc=>⟨k2 b cs hc,trivial⟩) ⟨p,c,rfl,hq⟩)) (LaidR.laid (R:=fun _=>True) (h13.keep fun b cs _ hc=>⟨k2 b cs hc,trivial⟩))
  have en:M+2=n+2+2*N:=by omega
  rw[←en] at e3
  have ht:xv.take 4=xv:=List.take_of_length_le (by omega)
  have n3:=x3.next
  have l3:=l2.keep (x3.get l (by omega))
  have k3:∀b cs,σ.cells b=some cs→σ3.cells b=some cs:=fun b cs hc=>(x3.cells (hw2.cells (k2 b cs hc))).trans (k2 b cs hc)
  have g3:∀b,b<σ.next→b≠l→σ3.heap.get b=σ.heap.get b:=fun b hb hne=>(x3.get b (by omega)).trans (C2.get b hb hne)
  cases e:D.same (.mk k z t ps) x with
  | false=>
   rw[e] at e3
   simp -implicitDefEqProofs only[go_sem,PA,LA,h3,b2,cx2,hx4,ht,e3,Nat.le_refl]
   rw[FO _ _ _ _ _ _ _ _ _ _ l r _ _ l3]
   have g4:∀(o:FObj) b,b<σ.next→b≠l→(σ3.put l o none).heap.get b=σ.heap.get b:=fun o b hb hne=>by rw[Am,if_neg hne];exact g3 b hb hne
   have k4:∀(o:FObj) b cs,σ.cells b=some cs→(σ3.put l o none).cells b=some cs:=fun o b cs hc=>by rw[Al,if_neg (hlc b cs hc)];exact k3 b cs hc
   refine⟨B,_,rfl,hw3.put _ _ _ (by omega),⟨by rw[Ap];omega,by have:=C2.clock;have:=x3.clock;rw[Bh];omega,fun b hb hB=>g4 _ b hb fun h=>hB (h ▸ h1 l (by simp))⟩,fun b hb=>.inl hb,h1,fun b hb=>⟨by rw[Ap];have:=(h2 b hb).1;omega,(h2 b hb).2⟩,LoopAt.put _ _ _ _ _ _ _ _ _ _ _ _,⟨v7,(g4 _ r or' (by omega)).trans h7⟩,⟨fv,v8,(g4 _ cm oc (by omega)).trans h8,us,bo,h9.keep (fun b hb hn=>⟨g4 _ b hn (by omega),hb⟩) hw,?_⟩,k4 _ _ _ h12,h13.keep (fun b cs hb hc=>⟨k4 _ b cs hc,hb⟩),fun b hb=>(g4 _ b (own b (by simp[hb])) (by have:=hX b hb;omega)).trans (h14 b hb)⟩
   rw[JC,e,if_neg (by simp),List.append_nil]
   exact h11.keep fun b cs hb hc=>⟨k4 _ b cs hc,hb⟩
  | true=>
   rw[e] at e3
   have hus:us.length≤done.length:=by
    rw[h11.length]
    unfold foundIn
    rw[List.length_map]
    exact List.length_filter_le _ _
   obtain⟨w4,σ4,e4,x4,hw4,P4⟩:=Aex (M+1) σ3 hw3 (hpath.pathV.keep (Q':=fun _=>True) fun b cs _ hc=>⟨k3 b cs hc,trivial⟩) (by omega)
   have n4:=x4.next
   have c3:σ3.cells cm=some [fv]:=k3 cm _ (AB h8)
   have vc:(view σ4 σ3.clock).cells cm=some [fv]:=ED hw3 (Nat.le_refl _) (x4.get cm (by omega)) c3
   have g4:∀b,b<σ.next→b≠l→σ4.heap.get b=σ.heap.get b:=fun b hb hne=>(x4.get b (by omega)).trans (g3 b hb hne)
   have k4:∀b cs,σ.cells b=some cs→σ4.cells b=some cs:=fun b cs hc=>(x4.cells (hw3.cells (k3 b cs hc))).trans (k3 b cs hc)
   have hw5:=hw4.push (.cells [w4] 25) none
   have g5:∀b,b<σ.next→b≠l→(σ4.push (.cells [w4] 25) none).heap.get b=σ.heap.get b:=fun b hb hne=>by rw[Ai,if_neg (by omega)];exact g4 b hb hne
   have V5:Vecs 25 (fun b=>b=bo∧B b∧l<b) (σ4.push (.cells [w4] 25) none) fv us:=h9.keep (fun b hb hn=>⟨g5 b hn (by omega),hb⟩) hw
   obtain⟨b6,s6,σ6,e6,F6,hb6,ch6,hw6⟩:=V5.append hw5 σ4.next 1 w4 24 (by rw[Ac,if_pos rfl];rfl) P4.one.1 (by omega) (by omega)
   have n6:=ch6.next
   rw[Aa] at n6
   have hbol:∀b,b=bo∧B b∧l<b→b≠cm∧b≠l∧b≠r∧b≠bx∧¬ X b:=fun b hb=>⟨by omega,by omega,by omega,by omega,fun h=>by have:=hX b h;omega⟩
   have g6:∀b,b<σ.next→b≠l→¬ (b=bo∧B b∧l<b)→σ6.heap.get b=σ.heap.get b:=fun b hb hne hbo=>(ch6.get b (by rw[Aa];omega) hbo).trans (g5 b hb hne)
   have k6:∀b cs,σ.cells b=some cs→¬ (b=bo∧B b∧l<b)→σ6.cells b=some cs:=fun b cs hc hbo=>by
    have:=g6 b (hw.cells hc) (hlc b cs hc) hbo
    rw[AG] at hc ⊢
    rw[this];exact hc
   have gc6:σ6.heap.get cm=some ⟨.cells [fv] 42,false,none,v8⟩:=(g6 cm oc (by omega) (by omega)).trans h8
   simp -implicitDefEqProofs only[go_sem,PA,LA,Acn,Rw,h3,h5,b2,cx2,hx4,ht,e3,e4,vc,P4.one.1,P4.one.2.1,P4.one.2.2,e6,gc6,F6.one.1,Nat.le_refl]
   have l6:LoopAt 113 [10,11] Et Eu 8 21 f g l r .busy σ6:=l3.keep (by rw[ch6.get l (by rw[Aa];omega) (by omega),Ai,if_neg (by omega),x4.get l (by omega)])
   have l7:∀o:FObj,LoopAt 113 [10,11] Et Eu 8 21 f g l r .busy (σ6.put cm o none):=fun o=>l6.keep (by rw[Am,if_neg (by omega)])
   rw[FO _ _ _ _ _ _ _ _ _ _ l r _ _ (l7 _)]
   have hb6l:l<b6∧b6<σ6.next∧(b6=bo∧B bo∨b6=σ4.next+1):=⟨by
    rcases hb6 with h|h
    ·exact h.2.2
    ·rw[Aa] at h;omega,F6.lt hw6,by
    rcases hb6 with h|h
    ·exact .inl ⟨h.1,h.1 ▸ h.2.1⟩
    ·exact .inr h⟩
   have g7:∀(o o':FObj) b,b<σ.next→b≠l→b≠cm→¬ (b=bo∧B b∧l<b)→((σ6.put cm o none).put l o' none).heap.get b=σ.heap.get b:=fun o o' b hb hne hnc hbo=>by
    rw[Am,if_neg hne,Am,if_neg hnc];exact g6 b hb hne hbo
   have k7:∀(o o':FObj) b cs,σ.cells b=some cs→b≠cm→¬ (b=bo∧B b∧l<b)→((σ6.put cm o none).put l o' none).cells b=some cs:=fun o o' b cs hc hnc hbo=>by
    rw[Al,if_neg (hlc b cs hc),Al,if_neg hnc];exact k6 b cs hc hbo
   refine⟨fun b=>B b∨(σ.next≤b∧b<σ6.next),_,rfl,(hw6.put _ _ _ (by omega)).put _ _ _ (by rw[Ap];omega),⟨by rw[Ap,Ap];omega,by have:=C2.clock;have:=x3.clock;have:=x4.clock;have:=ch6.clock;rw[Bd] at this;rw[Bh,Bh];omega,fun b hb hB=>g7 _ _ b hb (fun h=>hB (h ▸ h1 l (by simp))) (fun h=>hB (h ▸ h1 cm (by simp))) fun h=>hB h.2.1⟩,fun b hb=>by
    rcases hb with h|h
    ·exact .inl h
    ·exact .inr h.1,fun b hb=>.inl (h1 b hb),fun b hb=>?_,LoopAt.put _ _ _ _ _ _ _ _ _ _ _ _,⟨v7,(g7 _ _ r or' (by omega) (by omega) (by omega)).trans h7⟩,⟨s6,σ6.clock,by rw[Am,if_neg (by omega),Am,if_pos rfl],us++[w4],b6,.inr ⟨b6,F6.keep (by rw[Am,if_neg (by omega),Am,if_neg (by omega)]),rfl,?_,hb6l.1⟩,?_⟩,k7 _ _ _ _ h12 (by omega) (by omega),h13.keep (fun b cs hb hc=>⟨k7 _ _ b cs hc (by rcases hb with hb|hb;have:=(hR b hb).1;omega;have:=hX b hb;omega) (by rcases hb with hb|hb;have:=(hR b hb).1;omega;have:=hX b hb;omega),hb⟩),fun b hb=>(g7 _ _ b (own b (by simp[hb])) (by have:=hX b hb;omega) (by have:=hX b hb;omega) (by have:=hX b hb;omega)).trans (h14 b hb)⟩
   ·rw[Ap,Ap]
    rcases hb with h|h
    ·exact⟨by have:=(h2 b h).1;omega,(h2 b h).2⟩
    ·exact⟨h.2,.inr (.inr (.inr (.inr (.inr (by omega)))))⟩
   ·rcases hb6l.2.2 with h|h
    ·exact .inl (h.1 ▸ h.2)
    ·exact .inr ⟨by omega,hb6l.2.1⟩
   ·rw[JC,e,if_pos rfl]
    refine(h11.keep fun b cs hb hc=>⟨k7 _ _ b cs hc (by omega) (fun h=>hb.2.2 h.1),.inl hb.1,hb.2.1,?e1⟩).append ⟨P4.keep fun b cs hb hc=>⟨?e2,.inr ⟨by omega,?e3⟩,by omega,?e4⟩,trivial⟩
    case e1=>
     have:=hw.cells hc
     rcases hb6l.2.2 with h|h
     ·rw[h.1];exact hb.2.2
     ·omega
    case e2=>
     have:=hw4.cells hc
     rw[Al,if_neg (by omega),Al,if_neg (by omega)]
     exact(ch6.cells (by rw[Aa];omega) (fun h=>by have:=(h2 b h.2.1).1;omega)).trans (by rw[Ac,if_neg (by omega)];exact hc)
    case e3=>have:=hw4.cells hc;omega
    case e4=>
     have:=hw4.cells hc
     rcases hb6l.2.2 with h|h
     ·have:=(h2 b6 (h.1 ▸ h.2)).1;omega
     ·omega
end Go.Proofs.YtokieofohmgjdaaGreatDoor
namespace Go.Proofs.YtokieofohmgjdaaGreatDoor
open Go Go.Eng
attribute [local congr] Ab Ah Af Ad Ae
attribute [-go_sem] List.range_succ
theorem Aai(M n N:Nat)(hM:M=n+2*N)(d x:D)(lv xv:List Value)(h4:lv.length=4)(hx4:xv.length=4)(R X:Nat→Prop)(σ:FState)(hw:Wf σ)(hL:LaidR R σ (.agg lv.toArray) d)(hLx:LaidR (fun b=>R b∨X b) σ (.agg xv.toArray) x)(hR:∀b,R b→b<σ.next∧¬ X b)(hX:∀b,X b→b<σ.next)(hS:Small (d.pieces []))(hN:(d.pieces []).length<90000)(hall:∀y∈d.pieces [],D.deep y.2≤N∧y.2.count<1000000000):
  Gives ((env (M+5)).call 113 [.agg lv.toArray,.agg xv.toArray] none σ) σ fun w σ'=>∃us,Vecs 25 (fun b=>σ.next≤b) σ' w us∧PathsL (fun b=>σ.next≤b) σ' us (foundIn x (d.pieces [])):=by
 rw[Ak _ 113 _ _ rfl,AeE _ _ _ _ (by simp),Aj]
 unfold Zy
 have x1:Ext σ (((σ.push (.cells lv TD) none).push (.cells xv TD) none).push (.cells [.slice none 0 0] 42) none):=(((Ext.refl _).push _ _).push _ _).push _ _
 have hw1:=((hw.push (.cells lv TD) none).push (.cells xv TD) none).push (.cells [.slice none 0 0] 42) none
 have g1:(((σ.push (.cells lv TD) none).push (.cells xv TD) none).push (.cells [.slice none 0 0] 42) none).heap.get (σ.next+2)=some ⟨.cells [.slice none 0 0] 42,false,none,σ.clock+2⟩:=by rw[Ai,if_pos (by simp only[Aa])];rfl
 have c1:(((σ.push (.cells lv TD) none).push (.cells xv TD) none).push (.cells [.slice none 0 0] 42) none).cells σ.next=some lv:=by rw[Ac,if_neg (by simp only[Aa];omega),Ac,if_neg (by rw[Aa];omega),Ac,if_pos rfl];rfl
 have cx1:(((σ.push (.cells lv TD) none).push (.cells xv TD) none).push (.cells [.slice none 0 0] 42) none).cells (σ.next+1)=some xv:=by rw[Ac,if_neg (by simp only[Aa];omega),Ac,if_pos (by rw[Aa])];rfl
 have n1:(((σ.push (.cells lv TD) none).push (.cells xv TD) none).push (.cells [.slice none 0 0] 42) none).next=σ.next+3:=rfl
 simp -implicitDefEqProofs only[go_sem,Aci,Rq,Acj,Rs]
 generalize hff:upd _ 5 _=f1
 have q2:f1 2=.pointer (some ⟨σ.next,0,none⟩):=by rw[←hff];simp -implicitDefEqProofs only[go_sem,reduceCtorEq]
 have q3:f1 3=.pointer (some ⟨σ.next+1,0,none⟩):=by rw[←hff];simp -implicitDefEqProofs only[go_sem,reduceCtorEq]
 have q5:f1 5=.pointer (some ⟨σ.next+2,0,none⟩):=by rw[←hff];simp -implicitDefEqProofs only[go_sem,reduceCtorEq]
 clear hff
 generalize FState.push _ _ _=σ1 at x1 hw1 g1 c1 cx1 n1 ⊢
 obtain⟨σ2,b1,b2,e2,x2,hw2,hb1,hb2,cb2,cb1⟩:=Al4 (M+2) lv h4 σ1 hw1
 have ht:lv.take 4=lv:=List.take_of_length_le (by omega)
 simp -implicitDefEqProofs only[go_sem,Ack,Rt,q2,c1,h4,ht,e2,Nat.le_refl]
 generalize hgg:upd _ 9 _=gg
 have n2:=x2.next
 have hL2:LaidR R σ2 (.agg lv.toArray) d:=hL.keep fun b cs hb hc=>⟨((x1.trans x2).cells (hw.cells hc)).trans hc,hb⟩
 have hLx2:LaidR (fun b=>R b∨X b) σ2 (.agg xv.toArray) x:=hLx.keep fun b cs hb hc=>⟨((x1.trans x2).cells (hw.cells hc)).trans hc,hb⟩
 have hcm2:σ2.heap.get (σ.next+2)=some ⟨.cells [.slice none 0 0] 42,false,none,σ.clock+2⟩:=(x2.get _ (by omega)).trans g1
 have hcx2:σ2.cells (σ.next+1)=some xv:=(x2.cells (by omega)).trans cx1
 have y2:Ext σ2 ((σ2.push (.defd true) none).push (.loop .ready none 113 ((List.range 8).map f1) gg 8 21 [10,11] Et Eu σ2.next) none):=((Ext.refl _).push _ _).push _ _
 obtain⟨σ3,B3,e3,ch3,n3,hB3,hw3,i3⟩:=NY (M+3) 113 [10,11] Et Eu 8 21 f1 gg [] none 9 b1 b2 σ2 (.func (.func 153) #[] #[]) R d lv (FindI (σ2.next+1) σ2.next (σ.next+2) (σ.next+1) R X xv x σ2 f1 gg) (fun b=>X b∨b=σ2.next+1∨b=σ2.next∨b=σ.next+2∨b=σ.next+1)
  (AbG M n N (σ2.next+1) σ2.next (σ.next+2) (σ.next+1) X R xv x σ2 f1 gg _ hM hx4 ⟨by omega,by omega,by omega⟩ q3 q5 (fun b hb=>⟨by have:=(hR b hb).1;omega,(hR b hb).2⟩) (fun b hb=>by have:=hX b hb;omega) (fun y hy=>⟨(hS y hy).1,hall y hy⟩) hN) hS (by omega)
  (fun done B σ' ⟨_,_,h5,h6,_⟩=>⟨h5,h6⟩)
  ⟨fun b hb=>hb,fun b hb=>⟨by
   simp only[Aa]
   rcases hb with h|h|h|h|h
   ·have:=hX b h;omega
   all_goals omega,by
   rcases hb with h|h|h|h|h
   ·exact .inl h
   ·exact .inr (.inl h)
   ·exact .inr (.inr (.inl h))
   ·exact .inr (.inr (.inr (.inl h)))
   ·exact .inr (.inr (.inr (.inr (.inl h))))⟩,Kv ..,⟨_,by rw[Ai,if_neg (by rw[Aa];omega),Ai,if_pos rfl]⟩,⟨_,_,(y2.get _ (by omega)).trans hcm2,[],0,.inl ⟨rfl,rfl⟩,trivial⟩,(y2.cells (by omega)).trans hcx2,hLx2.keep fun b cs hb hc=>⟨(y2.cells (hw2.cells hc)).trans hc,hb⟩,fun b hb=>y2.get b (by have:=hX b hb;omega)⟩
  (by rw[Qu,←hgg];simp -implicitDefEqProofs only[go_sem,reduceCtorEq]) hw2 cb1 (fun h=>by have:=hw2.cells cb1;rcases h with h|h|h|h|h;have:=hX _ h;all_goals omega) hL2 (fun b hb=>by have:=(hR b hb).1;omega) cb2 (fun h=>by have:=hw2.cells cb2;rcases h with h|h|h|h|h;have:=hX _ h;all_goals omega)
 rw[e3]
 obtain⟨h1,h2,h6,⟨v6,h7⟩,⟨fv,v8,h8,us,bo,h9,h11⟩,h12,h13,h14⟩:=i3
 have hcm:=AB h8
 have hputc:∀(o:FObj),(σ3.put (σ2.next+1) o none).cells (σ.next+2)=some [fv]:=fun o=>by rw[Al,if_neg (by omega)];exact hcm
 have hcol:∀(o:FObj),(σ3.put (σ2.next+1) o none).heap.get σ2.next=some ⟨.defd true,false,none,v6⟩:=fun o=>by rw[Am,if_neg (by omega)];exact h7
 simp -implicitDefEqProofs only[go_sem,Aco,Rx,q5,hputc]
 rw[Gf _ _ _ _ _ _ _ _ _ _ (hcol _)]
 simp -implicitDefEqProofs only[go_sem]
 have x3:Ext σ σ3:=⟨by have:=x1.next;omega,by have:=x1.clock;have:=x2.clock;have:=ch3.clock;omega,fun b hb=>by
  by_cases hx:X b
  ·exact(h14 b hx).trans ((x1.trans x2).get b hb)
  ·exact(ch3.get b (by omega) (fun h=>by rcases h with h|h|h|h|h;exact hx h;all_goals omega)).trans ((x1.trans x2).get b hb)⟩
 have kc:∀(o o':FObj) b cs,σ2.next+1<b→σ3.cells b=some cs→((σ3.put (σ2.next+1) o none).put σ2.next o' none).cells b=some cs:=fun o o' b cs hb hc=>by
  rw[Al,if_neg (by omega),Al,if_neg (by omega)];exact hc
 refine⟨_,_,rfl,(x3.put _ _ _ (by omega)).put _ _ _ (by omega),(hw3.put _ _ _ (by omega)).put _ _ _ (by rw[Ap];omega),us,h9.keep (fun b hb hn=>⟨by rw[Am,if_neg (by omega),Am,if_neg (by omega)],by omega⟩) hw3,h11.keep fun b cs hb hc=>⟨kc _ _ b cs hb.2.1 hc,by omega⟩⟩
end Go.Proofs.YtokieofohmgjdaaGreatDoor
end
