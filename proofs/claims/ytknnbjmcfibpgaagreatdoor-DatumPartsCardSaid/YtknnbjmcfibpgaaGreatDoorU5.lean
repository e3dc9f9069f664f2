import Derived.Test.YtknnbjmcfibpgaaGreatDoorU3
import Derived.Test.YtknnbjmcfibpgaaGreatDoorU4
set_option linter.unusedSimpArgs false
set_option linter.unusedVariables false
noncomputable section
namespace Go.Proofs.YtknnbjmcfibpgaaGreatDoor
open Go Go.Eng
attribute [local congr] Ab
theorem RB(n:Nat)(k1 n1 k2 n2:Int)(t1 t2:ByteArray)(s1 s2:Value)(Z:aC)(B:Bool)(hw:Wf Z)(h:∀V,Ext Z V->Wf V->Gives ((env n).call 26 [s1,s2] none V) V fun v _=>v=.bool B):
  Gives ((env (n+1)).call 18 [.agg #[.int .i64 k1,.int .i64 n1,.string t1,s1],.agg #[.int .i64 k2,.int .i64 n2,.string t2,s2]] none Z) Z
   fun v _=>v=.bool ((k1==k2)&&(n1==n2)&&(t1.toList==t2.toList)&&B):=by
 rw[Ak _ 18 _ _ rfl,ApL _ _ _ _ (by simp)]
 generalize ha:(⟨aX undef 4 _,fun _=>undef,4,31,[]⟩:aV)=a
 have hok:a.ok:=by rw[<-ha];exact WX _ _ _ _
 have hnt:a.nt=31:=by rw[<-ha]
 have hds:a.defers=[]:=by rw[<-ha]
 have hg0:a.get 0=.agg #[.int .i64 k1,.int .i64 n1,.string t1,s1]:=by rw[<-ha,H0];rfl
 have hg1:a.get 1=.agg #[.int .i64 k2,.int .i64 n2,.string t2,s2]:=by rw[<-ha,H0];rfl
 clear ha
 unfold An3
 have fin:∀(o1 o2:FObj) (f1 f2:Option Nat),Ext Z ((Z.push o1 f1).push o2 f2)/\Wf ((Z.push o1 f1).push o2 f2):=fun o1 o2 f1 f2=>⟨((Ext.refl Z).push _ _).push _ _,(hw.push _ _).push _ _⟩
 cases e1:(k1==k2) with
 | false=>
  simp only[tT,DY,Ec,CZ,DL,DK,BG,CV,DX,Ag,CW,Cg,BC,Bh,Cf,Aw,A7,AU,D1,Ei,Eh,BN,Da,Nat.reduceLT,↓reduceIte,Nat.reduceEqDiff,Nat.reduceAdd,C_,C9,Ci,BF,Cp,Ba,Cq,Aa,A0,Aq,Bl,D9,Bk,Bc,Bd,AH,AX,AF,AC,Bf,Bg,AK,AY,AR,AE,Cj,Ea,Eb,Ac,Al,cells?_cells,DN,C6,DM,C0,DI,DV,DS,DR,DQ,DP,DG,DZ,DT,DJ,DW,Ed,CX,CY,Nat.add_zero,Nat.zero_add,Nat.add_left_cancel_iff,Nat.add_eq_left,Nat.left_eq_add,List.getElem?_cons_zero,List.getElem?_cons_succ,beq_self_eq_true,Bool.not_true,Bool.not_false,cond_true,cond_false,BH,AW,Ck,BI,BJ,Ch,Bool.false_eq_true,CU,AV,BD,Bi,C8,Eg,Cd,CE,CD,CC,A9,List.not_mem_nil,or_false,or_true,List.cons_append,List.nil_append,DH,DU,D0,Co,Cn,De,Bb,Dn,Ai,Ao,List.set_cons_zero,List.set_cons_succ,List.length_cons,List.length_nil,A8,AQ,Be,Az,AJ,J8,KU,J9,KV,hok,hnt,hg0,hg1,hds,e1]
  exact⟨_,_,rfl,(fin ..).1,(fin ..).2,rfl⟩
 | true=>cases e2:(n1==n2) with
  | false=>
   simp only[tT,DY,Ec,CZ,DL,DK,BG,CV,DX,Ag,CW,Cg,BC,Bh,Cf,Aw,A7,AU,D1,Ei,Eh,BN,Da,Nat.reduceLT,↓reduceIte,Nat.reduceEqDiff,Nat.reduceAdd,C_,C9,Ci,BF,Cp,Ba,Cq,Aa,A0,Aq,Bl,D9,Bk,Bc,Bd,AH,AX,AF,AC,Bf,Bg,AK,AY,AR,AE,Cj,Ea,Eb,Ac,Al,cells?_cells,DN,C6,DM,C0,DI,DV,DS,DR,DQ,DP,DG,DZ,DT,DJ,DW,Ed,CX,CY,Nat.add_zero,Nat.zero_add,Nat.add_left_cancel_iff,Nat.add_eq_left,Nat.left_eq_add,List.getElem?_cons_zero,List.getElem?_cons_succ,beq_self_eq_true,Bool.not_true,Bool.not_false,cond_true,cond_false,BH,AW,Ck,BI,BJ,Ch,Bool.false_eq_true,CU,AV,BD,Bi,C8,Eg,Cd,CE,CD,CC,A9,List.not_mem_nil,or_false,or_true,List.cons_append,List.nil_append,DH,DU,D0,Co,Cn,De,Bb,Dn,Ai,Ao,List.set_cons_zero,List.set_cons_succ,List.length_cons,List.length_nil,A8,AQ,Be,Az,AJ,J8,KU,J9,KV,hok,hnt,hg0,hg1,hds,e1,e2]
   exact⟨_,_,rfl,(fin ..).1,(fin ..).2,rfl⟩
  | true=>cases e3:(t1.toList==t2.toList) with
   | false=>
    simp only[tT,DY,Ec,CZ,DL,DK,BG,CV,DX,Ag,CW,Cg,BC,Bh,Cf,Aw,A7,AU,D1,Ei,Eh,BN,Da,Nat.reduceLT,↓reduceIte,Nat.reduceEqDiff,Nat.reduceAdd,C_,C9,Ci,BF,Cp,Ba,Cq,Aa,A0,Aq,Bl,D9,Bk,Bc,Bd,AH,AX,AF,AC,Bf,Bg,AK,AY,AR,AE,Cj,Ea,Eb,Ac,Al,cells?_cells,DN,C6,DM,C0,DI,DV,DS,DR,DQ,DP,DG,DZ,DT,DJ,DW,Ed,CX,CY,Nat.add_zero,Nat.zero_add,Nat.add_left_cancel_iff,Nat.add_eq_left,Nat.left_eq_add,List.getElem?_cons_zero,List.getElem?_cons_succ,beq_self_eq_true,Bool.not_true,Bool.not_false,cond_true,cond_false,BH,AW,Ck,BI,BJ,Ch,Bool.false_eq_true,CU,AV,BD,Bi,C8,Eg,Cd,CE,CD,CC,A9,List.not_mem_nil,or_false,or_true,List.cons_append,List.nil_append,DH,DU,D0,Co,Cn,De,Bb,Dn,Ai,Ao,List.set_cons_zero,List.set_cons_succ,List.length_cons,List.length_nil,A8,AQ,Be,Az,AJ,J8,KU,J9,KV,hok,hnt,hg0,hg1,hds,e1,e2,e3]
    exact⟨_,_,rfl,(fin ..).1,(fin ..).2,rfl⟩
   | true=>
    simp only[tT,DY,Ec,CZ,DL,DK,BG,CV,DX,Ag,CW,Cg,BC,Bh,Cf,Aw,A7,AU,D1,Ei,Eh,BN,Da,Nat.reduceLT,↓reduceIte,Nat.reduceEqDiff,Nat.reduceAdd,C_,C9,Ci,BF,Cp,Ba,Cq,Aa,A0,Aq,Bl,D9,Bk,Bc,Bd,AH,AX,AF,AC,Bf,Bg,AK,AY,AR,AE,Cj,Ea,Eb,Ac,Al,cells?_cells,DN,C6,DM,C0,DI,DV,DS,DR,DQ,DP,DG,DZ,DT,DJ,DW,Ed,CX,CY,Nat.add_zero,Nat.zero_add,Nat.add_left_cancel_iff,Nat.add_eq_left,Nat.left_eq_add,List.getElem?_cons_zero,List.getElem?_cons_succ,beq_self_eq_true,Bool.not_true,Bool.not_false,cond_true,cond_false,BH,AW,Ck,BI,BJ,Ch,Bool.false_eq_true,CU,AV,BD,Bi,C8,Eg,Cd,CE,CD,CC,A9,List.not_mem_nil,or_false,or_true,List.cons_append,List.nil_append,DH,DU,D0,Co,Cn,De,Bb,Dn,Ai,Ao,List.set_cons_zero,List.set_cons_succ,List.length_cons,List.length_nil,A8,AQ,Be,Az,AJ,J8,KU,J9,KV,hok,hnt,hg0,hg1,hds,e1,e2,e3]
    generalize hr:(env n).call 26 _ none _=r
    obtain⟨v,V,rfl,hx,hw',rfl⟩:=AoM (X:=(env n).call 26 [s1,s2] none) hr h (fin ..).1 (fin ..).2
    simp only[tT,DY,Ec,CZ,DL,DK,BG,CV,DX,Ag,CW,Cg,BC,Bh,Cf,Aw,A7,AU,D1,Ei,Eh,BN,Da,Nat.reduceLT,↓reduceIte,Nat.reduceEqDiff,Nat.reduceAdd,C_,C9,Ci,BF,Cp,Ba,Cq,Aa,A0,Aq,Bl,D9,Bk,Bc,Bd,AH,AX,AF,AC,Bf,Bg,AK,AY,AR,AE,Cj,Ea,Eb,Ac,Al,cells?_cells,DN,C6,DM,C0,DI,DV,DS,DR,DQ,DP,DG,DZ,DT,DJ,DW,Ed,CX,CY,Nat.add_zero,Nat.zero_add,Nat.add_left_cancel_iff,Nat.add_eq_left,Nat.left_eq_add,List.getElem?_cons_zero,List.getElem?_cons_succ,beq_self_eq_true,Bool.not_true,Bool.not_false,cond_true,cond_false,BH,AW,Ck,BI,BJ,Ch,Bool.false_eq_true,CU,AV,BD,Bi,C8,Eg,Cd,CE,CD,CC,A9,List.not_mem_nil,or_false,or_true,List.cons_append,List.nil_append,DH,DU,D0,Co,Cn,De,Bb,Dn,Ai,Ao,List.set_cons_zero,List.set_cons_succ,List.length_cons,List.length_nil,A8,AQ,Be,Az,AJ,hok,hnt,hg0,hg1,hds]
    exact⟨_,_,rfl,(fin ..).1.trans hx,hw',rfl⟩
end Go.Proofs.YtknnbjmcfibpgaaGreatDoor
namespace Go.Proofs.YtknnbjmcfibpgaaGreatDoor
open Go Go.Eng
attribute [local congr] Ab
theorem Aqm:bI nls 26=[]:=by kernel_rfl
structure HeadEqC (a:aV) (s s':Value) (k:Nat):Prop where
 ok:a.ok
 nt:a.nt=27
 nl:a.nl=6
 ds:a.defers=[]
 g0:a.get 0=s
 g1:a.get 1=s'
 g5:a.get 5=.int .i64 (.ofNat k)
theorem Rz(n N:Nat)(hE:∀d d' v v' Z,D.deep d<=N->d.count<1000000000->Wf Z->Laid Z v d->Laid Z v' d'->Gives ((env n).call 18 [v,v'] none Z) Z fun w _=>w=.bool (D.same d d'))(p p':Option Addr)(len c c':Nat)(hlen:len<1000000000000):∀(ds ds':List D) (k fuel:Nat) (a:aV) (Z:aC),k+ds.length=len->ds.length=ds'.length->ds.length<fuel->D.deeps ds<=N->D.counts ds<1000000000->
   Wf Z->LaidE Z p k ds->LaidE Z p' k ds'->HeadEqC a (.slice p len c) (.slice p' len c') k->
   ∃e a' V,floop [] (AcW (env n) none 26) fuel a none Z=.done e a' none V/\(if D.sames ds ds'=true then e=.exit 0 else e=.ret/\a'.get 4=.bool false)/\
    a'.ok/\a'.nt=27/\a'.defers=[]/\Ext Z V/\Wf V:=by
 intro ds
 induction ds with
 | nil=>
  intro ds' k fuel a Z hk hl hf _ _ hw h1 h2 ⟨hok,hnt,hnl,hds,hg0,hg1,hg5⟩
  obtain⟨fuel,rfl⟩:∃f,fuel=f+1:=⟨fuel-1,by simp at hf;omega⟩
  have hd:decide ((Int.ofNat k)<(Int.ofNat len))=false:=by simp at hk ⊢;omega
  have fg:=Nf [] a hok
  cases ds' with
  | cons _ _=>simp at hl
  | nil=>
   rw[Am]
   unfold AcW
   simp only[tT,DY,Ec,CZ,DL,DK,BG,CV,DX,Ag,CW,Cg,BC,Bh,Cf,Aw,A7,AU,D1,Ei,Eh,BN,Da,Nat.reduceLT,↓reduceIte,Nat.reduceEqDiff,Nat.reduceAdd,C_,C9,Ci,BF,Cp,Ba,Cq,Aa,A0,Aq,Bl,D9,Bk,Bc,Bd,AH,AX,AF,AC,Bf,Bg,AK,AY,AR,AE,Cj,Ea,Eb,Ac,Al,cells?_cells,DN,C6,DM,C0,DI,DV,DS,DR,DQ,DP,DG,DZ,DT,DJ,DW,Ed,CX,CY,Nat.add_zero,Nat.zero_add,Nat.add_left_cancel_iff,Nat.add_eq_left,Nat.left_eq_add,List.getElem?_cons_zero,List.getElem?_cons_succ,beq_self_eq_true,Bool.not_true,Bool.not_false,cond_true,cond_false,BH,AW,Ck,BI,BJ,Ch,Bool.false_eq_true,CU,AV,BD,Bi,C8,Eg,Cd,CE,CD,CC,A9,List.not_mem_nil,or_false,or_true,List.cons_append,List.nil_append,DH,DU,D0,Co,Cn,De,Bb,Dn,Ai,Ao,List.set_cons_zero,List.set_cons_succ,List.length_cons,List.length_nil,A8,AQ,Be,Az,AJ,Xn,TJ,hok,hnt,hnl,hds,hg0,hg1,hg5,fg,hd]
   exact⟨_,_,_,rfl,rfl,by simp only[tT,DY,Ec,CZ,DL,DK,BG,CV,DX,Ag,CW,Cg,BC,Bh,Cf,Aw,A7,AU,D1,Ei,Eh,BN,Da,Nat.reduceLT,↓reduceIte,Nat.reduceEqDiff,Nat.reduceAdd,C_,C9,Ci,BF,Cp,Ba,Cq,Aa,A0,Aq,Bl,D9,Bk,Bc,Bd,AH,AX,AF,AC,Bf,Bg,AK,AY,AR,AE,Cj,Ea,Eb,Ac,Al,cells?_cells,DN,C6,DM,C0,DI,DV,DS,DR,DQ,DP,DG,DZ,DT,DJ,DW,Ed,CX,CY,Nat.add_zero,Nat.zero_add,Nat.add_left_cancel_iff,Nat.add_eq_left,Nat.left_eq_add,List.getElem?_cons_zero,List.getElem?_cons_succ,beq_self_eq_true,Bool.not_true,Bool.not_false,cond_true,cond_false,BH,AW,Ck,BI,BJ,Ch,Bool.false_eq_true,CU,AV,BD,Bi,C8,Eg,Cd,CE,CD,CC,A9,List.not_mem_nil,or_false,or_true,List.cons_append,List.nil_append,DH,DU,D0,Co,Cn,De,Bb,Dn,Ai,Ao,List.set_cons_zero,List.set_cons_succ,List.length_cons,List.length_nil,A8,AQ,Be,Az,AJ,hok],by simp only[tT,DY,Ec,CZ,DL,DK,BG,CV,DX,Ag,CW,Cg,BC,Bh,Cf,Aw,A7,AU,D1,Ei,Eh,BN,Da,Nat.reduceLT,↓reduceIte,Nat.reduceEqDiff,Nat.reduceAdd,C_,C9,Ci,BF,Cp,Ba,Cq,Aa,A0,Aq,Bl,D9,Bk,Bc,Bd,AH,AX,AF,AC,Bf,Bg,AK,AY,AR,AE,Cj,Ea,Eb,Ac,Al,cells?_cells,DN,C6,DM,C0,DI,DV,DS,DR,DQ,DP,DG,DZ,DT,DJ,DW,Ed,CX,CY,Nat.add_zero,Nat.zero_add,Nat.add_left_cancel_iff,Nat.add_eq_left,Nat.left_eq_add,List.getElem?_cons_zero,List.getElem?_cons_succ,beq_self_eq_true,Bool.not_true,Bool.not_false,cond_true,cond_false,BH,AW,Ck,BI,BJ,Ch,Bool.false_eq_true,CU,AV,BD,Bi,C8,Eg,Cd,CE,CD,CC,A9,List.not_mem_nil,or_false,or_true,List.cons_append,List.nil_append,DH,DU,D0,Co,Cn,De,Bb,Dn,Ai,Ao,List.set_cons_zero,List.set_cons_succ,List.length_cons,List.length_nil,A8,AQ,Be,Az,AJ,hnt],by simp only[tT,DY,Ec,CZ,DL,DK,BG,CV,DX,Ag,CW,Cg,BC,Bh,Cf,Aw,A7,AU,D1,Ei,Eh,BN,Da,Nat.reduceLT,↓reduceIte,Nat.reduceEqDiff,Nat.reduceAdd,C_,C9,Ci,BF,Cp,Ba,Cq,Aa,A0,Aq,Bl,D9,Bk,Bc,Bd,AH,AX,AF,AC,Bf,Bg,AK,AY,AR,AE,Cj,Ea,Eb,Ac,Al,cells?_cells,DN,C6,DM,C0,DI,DV,DS,DR,DQ,DP,DG,DZ,DT,DJ,DW,Ed,CX,CY,Nat.add_zero,Nat.zero_add,Nat.add_left_cancel_iff,Nat.add_eq_left,Nat.left_eq_add,List.getElem?_cons_zero,List.getElem?_cons_succ,beq_self_eq_true,Bool.not_true,Bool.not_false,cond_true,cond_false,BH,AW,Ck,BI,BJ,Ch,Bool.false_eq_true,CU,AV,BD,Bi,C8,Eg,Cd,CE,CD,CC,A9,List.not_mem_nil,or_false,or_true,List.cons_append,List.nil_append,DH,DU,D0,Co,Cn,De,Bb,Dn,Ai,Ao,List.set_cons_zero,List.set_cons_succ,List.length_cons,List.length_nil,A8,AQ,Be,Az,AJ,hds],Ext.refl _,hw⟩
 | cons d ds ih=>
  intro ds' k fuel a Z hk hl hf hN hM hw h1 h2 ⟨hok,hnt,hnl,hds,hg0,hg1,hg5⟩
  obtain⟨fuel,rfl⟩:∃f,fuel=f+1:=⟨fuel-1,by simp at hf;omega⟩
  have hd:decide ((Int.ofNat k)<(Int.ofNat len))=true:=by simp at hk ⊢;omega
  have hlt:k<len:=by simp at hk;omega
  have fg:=Nf [] a hok
  cases ds' with
  | nil=>simp at hl
  | cons d' ds'=>
   obtain⟨⟨b,off,cs,rfl,hc,hcl,hL⟩,h1r⟩:=h1
   obtain⟨⟨b',off',cs',rfl,hc',hcl',hL'⟩,h2r⟩:=h2
   have hN':D.deep d<=N/\D.deeps ds<=N:=by simp[D.deeps] at hN;omega
   have hM':d.count<1000000000/\D.counts ds<1000000000:=by rw[D.counts] at hM;omega
   have hv:=Ce hw (Nat.le_refl _)
   rw[Am]
   unfold AcW
   simp only[tT,DY,Ec,CZ,DL,DK,BG,CV,DX,Ag,CW,Cg,BC,Bh,Cf,Aw,A7,AU,D1,Ei,Eh,BN,Da,Nat.reduceLT,↓reduceIte,Nat.reduceEqDiff,Nat.reduceAdd,C_,C9,Ci,BF,Cp,Ba,Cq,Aa,A0,Aq,Bl,D9,Bk,Bc,Bd,AH,AX,AF,AC,Bf,Bg,AK,AY,AR,AE,Cj,Ea,Eb,Ac,Al,cells?_cells,DN,C6,DM,C0,DI,DV,DS,DR,DQ,DP,DG,DZ,DT,DJ,DW,Ed,CX,CY,Nat.add_zero,Nat.zero_add,Nat.add_left_cancel_iff,Nat.add_eq_left,Nat.left_eq_add,List.getElem?_cons_zero,List.getElem?_cons_succ,beq_self_eq_true,Bool.not_true,Bool.not_false,cond_true,cond_false,BH,AW,Ck,BI,BJ,Ch,Bool.false_eq_true,CU,AV,BD,Bi,C8,Eg,Cd,CE,CD,CC,A9,List.not_mem_nil,or_false,or_true,List.cons_append,List.nil_append,DH,DU,D0,Co,Cn,De,Bb,Dn,Ai,Ao,List.set_cons_zero,List.set_cons_succ,List.length_cons,List.length_nil,A8,AQ,Be,Az,AJ,Xn,TJ,AlQ,Aaj,hok,hnt,hnl,hds,hg0,hg1,hg5,fg,hd,hlt,hv,hc,hc',hcl,hcl']
   generalize hr:(env n).call 18 _ none _=r
   obtain⟨v,V,rfl,hx,hw',rfl⟩:=hr ▸ hE d d' _ _ Z hN'.1 hM'.1 hw hL hL'
   have hwr:wrapI (Int.ofNat k+1)=Int.ofNat (k+1):=by
    rw[Dt (by rw[Int.ofNat_eq_natCast];omega)];rfl
   cases e:D.same d d' with
   | false=>
    simp only[tT,DY,Ec,CZ,DL,DK,BG,CV,DX,Ag,CW,Cg,BC,Bh,Cf,Aw,A7,AU,D1,Ei,Eh,BN,Da,Nat.reduceLT,↓reduceIte,Nat.reduceEqDiff,Nat.reduceAdd,C_,C9,Ci,BF,Cp,Ba,Cq,Aa,A0,Aq,Bl,D9,Bk,Bc,Bd,AH,AX,AF,AC,Bf,Bg,AK,AY,AR,AE,Cj,Ea,Eb,Ac,Al,cells?_cells,DN,C6,DM,C0,DI,DV,DS,DR,DQ,DP,DG,DZ,DT,DJ,DW,Ed,CX,CY,Nat.add_zero,Nat.zero_add,Nat.add_left_cancel_iff,Nat.add_eq_left,Nat.left_eq_add,List.getElem?_cons_zero,List.getElem?_cons_succ,beq_self_eq_true,Bool.not_true,Bool.not_false,cond_true,cond_false,BH,AW,Ck,BI,BJ,Ch,Bool.false_eq_true,CU,AV,BD,Bi,C8,Eg,Cd,CE,CD,CC,A9,List.not_mem_nil,or_false,or_true,List.cons_append,List.nil_append,DH,DU,D0,Co,Cn,De,Bb,Dn,Ai,Ao,List.set_cons_zero,List.set_cons_succ,List.length_cons,List.length_nil,A8,AQ,Be,Az,AJ,AlR,Aak,hok,hnt,hnl,hds,hg0,hg1,hg5,fg,hwr]
    refine⟨_,_,_,rfl,?_,by simp only[tT,DY,Ec,CZ,DL,DK,BG,CV,DX,Ag,CW,Cg,BC,Bh,Cf,Aw,A7,AU,D1,Ei,Eh,BN,Da,Nat.reduceLT,↓reduceIte,Nat.reduceEqDiff,Nat.reduceAdd,C_,C9,Ci,BF,Cp,Ba,Cq,Aa,A0,Aq,Bl,D9,Bk,Bc,Bd,AH,AX,AF,AC,Bf,Bg,AK,AY,AR,AE,Cj,Ea,Eb,Ac,Al,cells?_cells,DN,C6,DM,C0,DI,DV,DS,DR,DQ,DP,DG,DZ,DT,DJ,DW,Ed,CX,CY,Nat.add_zero,Nat.zero_add,Nat.add_left_cancel_iff,Nat.add_eq_left,Nat.left_eq_add,List.getElem?_cons_zero,List.getElem?_cons_succ,beq_self_eq_true,Bool.not_true,Bool.not_false,cond_true,cond_false,BH,AW,Ck,BI,BJ,Ch,Bool.false_eq_true,CU,AV,BD,Bi,C8,Eg,Cd,CE,CD,CC,A9,List.not_mem_nil,or_false,or_true,List.cons_append,List.nil_append,DH,DU,D0,Co,Cn,De,Bb,Dn,Ai,Ao,List.set_cons_zero,List.set_cons_succ,List.length_cons,List.length_nil,A8,AQ,Be,Az,AJ,hok],by simp only[tT,DY,Ec,CZ,DL,DK,BG,CV,DX,Ag,CW,Cg,BC,Bh,Cf,Aw,A7,AU,D1,Ei,Eh,BN,Da,Nat.reduceLT,↓reduceIte,Nat.reduceEqDiff,Nat.reduceAdd,C_,C9,Ci,BF,Cp,Ba,Cq,Aa,A0,Aq,Bl,D9,Bk,Bc,Bd,AH,AX,AF,AC,Bf,Bg,AK,AY,AR,AE,Cj,Ea,Eb,Ac,Al,cells?_cells,DN,C6,DM,C0,DI,DV,DS,DR,DQ,DP,DG,DZ,DT,DJ,DW,Ed,CX,CY,Nat.add_zero,Nat.zero_add,Nat.add_left_cancel_iff,Nat.add_eq_left,Nat.left_eq_add,List.getElem?_cons_zero,List.getElem?_cons_succ,beq_self_eq_true,Bool.not_true,Bool.not_false,cond_true,cond_false,BH,AW,Ck,BI,BJ,Ch,Bool.false_eq_true,CU,AV,BD,Bi,C8,Eg,Cd,CE,CD,CC,A9,List.not_mem_nil,or_false,or_true,List.cons_append,List.nil_append,DH,DU,D0,Co,Cn,De,Bb,Dn,Ai,Ao,List.set_cons_zero,List.set_cons_succ,List.length_cons,List.length_nil,A8,AQ,Be,Az,AJ,hnt],by simp only[tT,DY,Ec,CZ,DL,DK,BG,CV,DX,Ag,CW,Cg,BC,Bh,Cf,Aw,A7,AU,D1,Ei,Eh,BN,Da,Nat.reduceLT,↓reduceIte,Nat.reduceEqDiff,Nat.reduceAdd,C_,C9,Ci,BF,Cp,Ba,Cq,Aa,A0,Aq,Bl,D9,Bk,Bc,Bd,AH,AX,AF,AC,Bf,Bg,AK,AY,AR,AE,Cj,Ea,Eb,Ac,Al,cells?_cells,DN,C6,DM,C0,DI,DV,DS,DR,DQ,DP,DG,DZ,DT,DJ,DW,Ed,CX,CY,Nat.add_zero,Nat.zero_add,Nat.add_left_cancel_iff,Nat.add_eq_left,Nat.left_eq_add,List.getElem?_cons_zero,List.getElem?_cons_succ,beq_self_eq_true,Bool.not_true,Bool.not_false,cond_true,cond_false,BH,AW,Ck,BI,BJ,Ch,Bool.false_eq_true,CU,AV,BD,Bi,C8,Eg,Cd,CE,CD,CC,A9,List.not_mem_nil,or_false,or_true,List.cons_append,List.nil_append,DH,DU,D0,Co,Cn,De,Bb,Dn,Ai,Ao,List.set_cons_zero,List.set_cons_succ,List.length_cons,List.length_nil,A8,AQ,Be,Az,AJ,hds],hx,hw'⟩
    rw[show D.sames (d::ds) (d'::ds')=(D.same d d'&&D.sames ds ds') from rfl,e,if_neg (by simp)]
    exact⟨rfl,by simp only[tT,DY,Ec,CZ,DL,DK,BG,CV,DX,Ag,CW,Cg,BC,Bh,Cf,Aw,A7,AU,D1,Ei,Eh,BN,Da,Nat.reduceLT,↓reduceIte,Nat.reduceEqDiff,Nat.reduceAdd,C_,C9,Ci,BF,Cp,Ba,Cq,Aa,A0,Aq,Bl,D9,Bk,Bc,Bd,AH,AX,AF,AC,Bf,Bg,AK,AY,AR,AE,Cj,Ea,Eb,Ac,Al,cells?_cells,DN,C6,DM,C0,DI,DV,DS,DR,DQ,DP,DG,DZ,DT,DJ,DW,Ed,CX,CY,Nat.add_zero,Nat.zero_add,Nat.add_left_cancel_iff,Nat.add_eq_left,Nat.left_eq_add,List.getElem?_cons_zero,List.getElem?_cons_succ,beq_self_eq_true,Bool.not_true,Bool.not_false,cond_true,cond_false,BH,AW,Ck,BI,BJ,Ch,Bool.false_eq_true,CU,AV,BD,Bi,C8,Eg,Cd,CE,CD,CC,A9,List.not_mem_nil,or_false,or_true,List.cons_append,List.nil_append,DH,DU,D0,Co,Cn,De,Bb,Dn,Ai,Ao,List.set_cons_zero,List.set_cons_succ,List.length_cons,List.length_nil,A8,AQ,Be,Az,AJ,hok,hnt]⟩
   | true=>
    simp only[tT,DY,Ec,CZ,DL,DK,BG,CV,DX,Ag,CW,Cg,BC,Bh,Cf,Aw,A7,AU,D1,Ei,Eh,BN,Da,Nat.reduceLT,↓reduceIte,Nat.reduceEqDiff,Nat.reduceAdd,C_,C9,Ci,BF,Cp,Ba,Cq,Aa,A0,Aq,Bl,D9,Bk,Bc,Bd,AH,AX,AF,AC,Bf,Bg,AK,AY,AR,AE,Cj,Ea,Eb,Ac,Al,cells?_cells,DN,C6,DM,C0,DI,DV,DS,DR,DQ,DP,DG,DZ,DT,DJ,DW,Ed,CX,CY,Nat.add_zero,Nat.zero_add,Nat.add_left_cancel_iff,Nat.add_eq_left,Nat.left_eq_add,List.getElem?_cons_zero,List.getElem?_cons_succ,beq_self_eq_true,Bool.not_true,Bool.not_false,cond_true,cond_false,BH,AW,Ck,BI,BJ,Ch,Bool.false_eq_true,CU,AV,BD,Bi,C8,Eg,Cd,CE,CD,CC,A9,List.not_mem_nil,or_false,or_true,List.cons_append,List.nil_append,DH,DU,D0,Co,Cn,De,Bb,Dn,Ai,Ao,List.set_cons_zero,List.set_cons_succ,List.length_cons,List.length_nil,A8,AQ,Be,Az,AJ,AlP,Aai,hok,hnt,hnl,hds,hg0,hg1,hg5,fg,hwr]
    generalize ha':aV.put _ (some 5) _=a'
    have hH:HeadEqC a' (.slice (some ⟨b,off,none⟩) len c) (.slice (some ⟨b',off',none⟩) len c') (k+1):=by
     rw[<-ha']
     constructor<;>simp only[tT,DY,Ec,CZ,DL,DK,BG,CV,DX,Ag,CW,Cg,BC,Bh,Cf,Aw,A7,AU,D1,Ei,Eh,BN,Da,Nat.reduceLT,↓reduceIte,Nat.reduceEqDiff,Nat.reduceAdd,C_,C9,Ci,BF,Cp,Ba,Cq,Aa,A0,Aq,Bl,D9,Bk,Bc,Bd,AH,AX,AF,AC,Bf,Bg,AK,AY,AR,AE,Cj,Ea,Eb,Ac,Al,cells?_cells,DN,C6,DM,C0,DI,DV,DS,DR,DQ,DP,DG,DZ,DT,DJ,DW,Ed,CX,CY,Nat.add_zero,Nat.zero_add,Nat.add_left_cancel_iff,Nat.add_eq_left,Nat.left_eq_add,List.getElem?_cons_zero,List.getElem?_cons_succ,beq_self_eq_true,Bool.not_true,Bool.not_false,cond_true,cond_false,BH,AW,Ck,BI,BJ,Ch,Bool.false_eq_true,CU,AV,BD,Bi,C8,Eg,Cd,CE,CD,CC,A9,List.not_mem_nil,or_false,or_true,List.cons_append,List.nil_append,DH,DU,D0,Co,Cn,De,Bb,Dn,Ai,Ao,List.set_cons_zero,List.set_cons_succ,List.length_cons,List.length_nil,A8,AQ,Be,Az,AJ,hok,hnt,hnl,hds,hg0,hg1,hg5,fg,true_or]
    obtain⟨e1,a1,a_,g1,g2,g3,g4,g5,g6,g7⟩:=ih ds' (k+1) fuel a' V (by simp at hk;omega) (by simpa using hl) (by simp at hf;omega) hN'.2 hM'.2 hw' (h1r.ext hw hx) (h2r.ext hw hx) hH
    refine⟨e1,a1,a_,g1,?_,g3,g4,g5,hx.trans g6,g7⟩
    rw[show D.sames (d::ds) (d'::ds')=(D.same d d'&&D.sames ds ds') from rfl,e]
    exact g2
theorem RA(n N:Nat)(hE:∀d d' v v' Z,D.deep d<=N->d.count<1000000000->Wf Z->Laid Z v d->Laid Z v' d'->Gives ((env n).call 18 [v,v'] none Z) Z fun w _=>w=.bool (D.same d d'))(p p':Option Addr)(c c':Nat)(ds ds':List D)(Z:aC)(hN:D.deeps ds<=N)(hM:D.counts ds<1000000000)(hw:Wf Z)(h1:LaidE Z p 0 ds)(h2:LaidE Z p' 0 ds'):
  Gives ((env (n+1)).call 26 [.slice p ds.length c,.slice p' ds'.length c'] none Z) Z fun w _=>w=.bool (D.sames ds ds'):=by
 rw[Ak _ 26 _ _ rfl,ApN _ _ _ _ (by simp)]
 generalize ha:(⟨aX undef 6 _,fun _=>undef,6,27,[]⟩:aV)=a
 have hok:a.ok:=by rw[<-ha];exact WX _ _ _ _
 have hnt:a.nt=27:=by rw[<-ha]
 have hnl:a.nl=6:=by rw[<-ha]
 have hds:a.defers=[]:=by rw[<-ha]
 have hg0:a.get 0=.slice p ds.length c:=by rw[<-ha,H0];rfl
 have hg1:a.get 1=.slice p' ds'.length c':=by rw[<-ha,H0];rfl
 clear ha
 unfold An5
 cases e1:((Int.ofNat ds.length)==(Int.ofNat ds'.length)) with
 | false=>
  simp only[tT,DY,Ec,CZ,DL,DK,BG,CV,DX,Ag,CW,Cg,BC,Bh,Cf,Aw,A7,AU,D1,Ei,Eh,BN,Da,Nat.reduceLT,↓reduceIte,Nat.reduceEqDiff,Nat.reduceAdd,C_,C9,Ci,BF,Cp,Ba,Cq,Aa,A0,Aq,Bl,D9,Bk,Bc,Bd,AH,AX,AF,AC,Bf,Bg,AK,AY,AR,AE,Cj,Ea,Eb,Ac,Al,cells?_cells,DN,C6,DM,C0,DI,DV,DS,DR,DQ,DP,DG,DZ,DT,DJ,DW,Ed,CX,CY,Nat.add_zero,Nat.zero_add,Nat.add_left_cancel_iff,Nat.add_eq_left,Nat.left_eq_add,List.getElem?_cons_zero,List.getElem?_cons_succ,beq_self_eq_true,Bool.not_true,Bool.not_false,cond_true,cond_false,BH,AW,Ck,BI,BJ,Ch,Bool.false_eq_true,CU,AV,BD,Bi,C8,Eg,Cd,CE,CD,CC,A9,List.not_mem_nil,or_false,or_true,List.cons_append,List.nil_append,DH,DU,D0,Co,Cn,De,Bb,Dn,Ai,Ao,List.set_cons_zero,List.set_cons_succ,List.length_cons,List.length_nil,A8,AQ,Be,Az,AJ,Xk,TF,Xl,TG,Xm,TH,hok,hnt,hnl,hds,hg0,hg1,e1]
  refine⟨_,_,rfl,Ext.refl _,hw,?_⟩
  have hne:ds.length≠ds'.length:=fun h=>by rw[h] at e1;simp at e1
  cases e:D.sames ds ds' with
  | false=>simp only[tT,DY,Ec,CZ,DL,DK,BG,CV,DX,Ag,CW,Cg,BC,Bh,Cf,Aw,A7,AU,D1,Ei,Eh,BN,Da,Nat.reduceLT,↓reduceIte,Nat.reduceEqDiff,Nat.reduceAdd,C_,C9,Ci,BF,Cp,Ba,Cq,Aa,A0,Aq,Bl,D9,Bk,Bc,Bd,AH,AX,AF,AC,Bf,Bg,AK,AY,AR,AE,Cj,Ea,Eb,Ac,Al,cells?_cells,DN,C6,DM,C0,DI,DV,DS,DR,DQ,DP,DG,DZ,DT,DJ,DW,Ed,CX,CY,Nat.add_zero,Nat.zero_add,Nat.add_left_cancel_iff,Nat.add_eq_left,Nat.left_eq_add,List.getElem?_cons_zero,List.getElem?_cons_succ,beq_self_eq_true,Bool.not_true,Bool.not_false,cond_true,cond_false,BH,AW,Ck,BI,BJ,Ch,Bool.false_eq_true,CU,AV,BD,Bi,C8,Eg,Cd,CE,CD,CC,A9,List.not_mem_nil,or_false,or_true,List.cons_append,List.nil_append,DH,DU,D0,Co,Cn,De,Bb,Dn,Ai,Ao,List.set_cons_zero,List.set_cons_succ,List.length_cons,List.length_nil,A8,AQ,Be,Az,AJ,hok,hnt]
  | true=>exact absurd (Hi e) hne
 | true=>
  have hl:ds.length=ds'.length:=Int.ofNat.inj (eq_of_beq e1)
  simp only[tT,DY,Ec,CZ,DL,DK,BG,CV,DX,Ag,CW,Cg,BC,Bh,Cf,Aw,A7,AU,D1,Ei,Eh,BN,Da,Nat.reduceLT,↓reduceIte,Nat.reduceEqDiff,Nat.reduceAdd,C_,C9,Ci,BF,Cp,Ba,Cq,Aa,A0,Aq,Bl,D9,Bk,Bc,Bd,AH,AX,AF,AC,Bf,Bg,AK,AY,AR,AE,Cj,Ea,Eb,Ac,Al,cells?_cells,DN,C6,DM,C0,DI,DV,DS,DR,DQ,DP,DG,DZ,DT,DJ,DW,Ed,CX,CY,Nat.add_zero,Nat.zero_add,Nat.add_left_cancel_iff,Nat.add_eq_left,Nat.left_eq_add,List.getElem?_cons_zero,List.getElem?_cons_succ,beq_self_eq_true,Bool.not_true,Bool.not_false,cond_true,cond_false,BH,AW,Ck,BI,BJ,Ch,Bool.false_eq_true,CU,AV,BD,Bi,C8,Eg,Cd,CE,CD,CC,A9,List.not_mem_nil,or_false,or_true,List.cons_append,List.nil_append,DH,DU,D0,Co,Cn,De,Bb,Dn,Ai,Ao,List.set_cons_zero,List.set_cons_succ,List.length_cons,List.length_nil,A8,AQ,Be,Az,AJ,Xk,TF,Xl,TG,Xm,TH,AlO,Aah,hok,hnt,hnl,hds,hg0,hg1,e1,Aqm]
  generalize ha':aV.put _ (some 5) _=a'
  have hH:HeadEqC a' (.slice p ds.length c) (.slice p' ds.length c') 0:=by
   rw[<-ha']
   constructor<;>simp only[tT,DY,Ec,CZ,DL,DK,BG,CV,DX,Ag,CW,Cg,BC,Bh,Cf,Aw,A7,AU,D1,Ei,Eh,BN,Da,Nat.reduceLT,↓reduceIte,Nat.reduceEqDiff,Nat.reduceAdd,C_,C9,Ci,BF,Cp,Ba,Cq,Aa,A0,Aq,Bl,D9,Bk,Bc,Bd,AH,AX,AF,AC,Bf,Bg,AK,AY,AR,AE,Cj,Ea,Eb,Ac,Al,cells?_cells,DN,C6,DM,C0,DI,DV,DS,DR,DQ,DP,DG,DZ,DT,DJ,DW,Ed,CX,CY,Nat.add_zero,Nat.zero_add,Nat.add_left_cancel_iff,Nat.add_eq_left,Nat.left_eq_add,List.getElem?_cons_zero,List.getElem?_cons_succ,beq_self_eq_true,Bool.not_true,Bool.not_false,cond_true,cond_false,BH,AW,Ck,BI,BJ,Ch,Bool.false_eq_true,CU,AV,BD,Bi,C8,Eg,Cd,CE,CD,CC,A9,List.not_mem_nil,or_false,or_true,List.cons_append,List.nil_append,DH,DU,D0,Co,Cn,De,Bb,Dn,Ai,Ao,List.set_cons_zero,List.set_cons_succ,List.length_cons,List.length_nil,A8,AQ,Be,Az,AJ,hok,hnt,hnl,hds,hg0,hg1,hl]<;>rfl
  generalize hb:bG=fuel
  have hlen:ds.length<1000000000000:=by have:=D3 ds;omega
  have hf:ds.length<fuel:=by rw[<-hb];exact hlen
  obtain⟨e1,a1,a_,g1,g2,g3,g4,g5,g6,g7⟩:=Rz n N hE p p' ds.length c c' hlen ds ds' 0 fuel a' Z (by simp) hl hf hN hM hw h1 h2 hH
  rw[g1]
  cases e:D.sames ds ds' with
  | false=>
   rw[e,if_neg (by simp)] at g2
   obtain⟨rfl,g8⟩:=g2
   simp only[tT,DY,Ec,CZ,DL,DK,BG,CV,DX,Ag,CW,Cg,BC,Bh,Cf,Aw,A7,AU,D1,Ei,Eh,BN,Da,Nat.reduceLT,↓reduceIte,Nat.reduceEqDiff,Nat.reduceAdd,C_,C9,Ci,BF,Cp,Ba,Cq,Aa,A0,Aq,Bl,D9,Bk,Bc,Bd,AH,AX,AF,AC,Bf,Bg,AK,AY,AR,AE,Cj,Ea,Eb,Ac,Al,cells?_cells,DN,C6,DM,C0,DI,DV,DS,DR,DQ,DP,DG,DZ,DT,DJ,DW,Ed,CX,CY,Nat.add_zero,Nat.zero_add,Nat.add_left_cancel_iff,Nat.add_eq_left,Nat.left_eq_add,List.getElem?_cons_zero,List.getElem?_cons_succ,beq_self_eq_true,Bool.not_true,Bool.not_false,cond_true,cond_false,BH,AW,Ck,BI,BJ,Ch,Bool.false_eq_true,CU,AV,BD,Bi,C8,Eg,Cd,CE,CD,CC,A9,List.not_mem_nil,or_false,or_true,List.cons_append,List.nil_append,DH,DU,D0,Co,Cn,De,Bb,Dn,Ai,Ao,List.set_cons_zero,List.set_cons_succ,List.length_cons,List.length_nil,A8,AQ,Be,Az,AJ,g3,g4,g5,g8]
   exact⟨_,_,rfl,g6,g7,rfl⟩
  | true=>
   rw[e,if_pos rfl] at g2
   subst g2
   simp only[tT,DY,Ec,CZ,DL,DK,BG,CV,DX,Ag,CW,Cg,BC,Bh,Cf,Aw,A7,AU,D1,Ei,Eh,BN,Da,Nat.reduceLT,↓reduceIte,Nat.reduceEqDiff,Nat.reduceAdd,C_,C9,Ci,BF,Cp,Ba,Cq,Aa,A0,Aq,Bl,D9,Bk,Bc,Bd,AH,AX,AF,AC,Bf,Bg,AK,AY,AR,AE,Cj,Ea,Eb,Ac,Al,cells?_cells,DN,C6,DM,C0,DI,DV,DS,DR,DQ,DP,DG,DZ,DT,DJ,DW,Ed,CX,CY,Nat.add_zero,Nat.zero_add,Nat.add_left_cancel_iff,Nat.add_eq_left,Nat.left_eq_add,List.getElem?_cons_zero,List.getElem?_cons_succ,beq_self_eq_true,Bool.not_true,Bool.not_false,cond_true,cond_false,BH,AW,Ck,BI,BJ,Ch,Bool.false_eq_true,CU,AV,BD,Bi,C8,Eg,Cd,CE,CD,CC,A9,List.not_mem_nil,or_false,or_true,List.cons_append,List.nil_append,DH,DU,D0,Co,Cn,De,Bb,Dn,Ai,Ao,List.set_cons_zero,List.set_cons_succ,List.length_cons,List.length_nil,A8,AQ,Be,Az,AJ,AlS,Aal,g3,g4,g5]
   exact⟨_,_,rfl,g6,g7,rfl⟩
theorem FW(n:Nat):∀(N:Nat) (d d':D) (v v':Value) (Z:aC),D.deep d<=N->d.count<1000000000->Wf Z->Laid Z v d->Laid Z v' d'->Gives ((env (n+2*N)).call 18 [v,v'] none Z) Z fun w _=>w=.bool (D.same d d')
 | 0,d,_,_,_,_,h,_,_,_,_=>by cases d;rw[D.deep] at h;omega
 | N+1,.mk k z t ds,.mk k' z' t' ds',v,v',Z,h,hc,hw,⟨p,c,hv,hE⟩,⟨p',c',hv',hE'⟩=>by
  subst hv hv'
  rw[D.deep] at h
  rw[D.count] at hc
  have:=RB (n+2*N+1) k z k' z' t t' (.slice p ds.length c) (.slice p' ds'.length c') Z (D.sames ds ds') hw fun V hx hw'=>
   RA (n+2*N) N (fun d d' v v' Z a b c e f=>FW n N d d' v v' Z a b c e f) p p' c c' ds ds' V (by omega) (by omega) hw' (hE.ext hw hx) (hE'.ext hw hx)
  rw[show D.same (.mk k z t ds) (.mk k' z' t' ds')=(decide (k=k')&&decide (z=z')&&(t.toList==t'.toList)&&D.sames ds ds') from rfl,<-LM,<-LM]
  exact this
end Go.Proofs.YtknnbjmcfibpgaaGreatDoor
namespace Go.Eng
open Go
def Vecs(T:TypeId)(Q:Nat->Prop)(Z:aC)(s:Value)(vs:List Value):Prop:=(s=.slice none 0 0/\vs=[])\/∃b,Ful T Z b s vs/\Q b
section
variable {T:TypeId} {Q Q':Nat->Prop} {Z V:aC} {s:Value} {vs:List Value}
theorem Vecs.one(h:Vecs T Q Z s vs):oneCell s=true/\aP s=true/\aJ s=[s]:=by
 rcases h with⟨rfl,_⟩|⟨b,h,_⟩
 .exact⟨Az _ _ _,AF _ _ _,rfl⟩
 .exact h.one
theorem Vecs.keep(h:Vecs T Q Z s vs)(hk:∀b,Q b->b<Z.next->V.heap.get b=Z.heap.get b/\Q' b)(hw:Wf Z):Vecs T Q' V s vs:=by
 rcases h with h|⟨b,h,hq⟩
 .exact .inl h
 .exact .inr ⟨b,h.keep (hk b hq (h.lt hw)).1,(hk b hq (h.lt hw)).2⟩
theorem Vecs.append(h:Vecs T Q Z s vs)(hw:Wf Z)(bx cx:Nat)(v:Value)(bytes:Nat)(hx:Z.cells bx=some [v])(ho:oneCell v=true)(hby:bytes<1000)(hlen:vs.length+1<100000):
  ∃b' s' τ,bO T 1 bytes s (.slice (some ⟨bx,0,none⟩) 1 cx) Z=.val s' τ/\Ful T τ b' s' (vs++[v])/\(Q b'\/b'=Z.next)/\Chg Q Z τ/\Wf τ:=by
 rcases h with⟨rfl,rfl⟩|⟨b,h,hq⟩
 .refine⟨Z.next,.slice (some ⟨Z.next,0,none⟩) 1 1,Z.push (.cells [v] T) (some 1),?_,⟨some 1,Z.clock,rfl,by rw[Ai,if_pos rfl];rfl,.inr rfl⟩,.inr rfl,(Chg.refl _ _).push _ _,hw.push _ _⟩
  have hn:=EH bx 1 cx [v] [] hx rfl
  unfold bO
  simp only[hn]
  rw[show [v].all oneCell=true by simp[ho]]
  show fappend2 T 1 bytes 0 0 none 1 [v] Z=_
  unfold fappend2
  rw[show Nat.ble (0+1) 0=false from rfl,show Nat.ble ((0+1)*(bytes+1)) 1000000000=true by rw[Nat.ble_eq];omega]
  rfl
 .obtain⟨b',s',τ,e,F,hb',hC,hw'⟩:=h.append hw (.slice (some ⟨bx,0,none⟩) 1 cx) [v] bytes (EH bx 1 cx [v] [] hx rfl) (by simp[ho]) hby (by simpa using hlen)
  refine⟨b',s',τ,e,F,?_,hC.weaken fun x _ hx=>hx ▸ hq,hw'⟩
  rcases hb' with rfl|rfl
  .exact .inl hq
  .exact .inr rfl
end
end Go.Eng
namespace Go.Proofs.YtknnbjmcfibpgaaGreatDoor
open Go Go.Eng
attribute [local congr] Ab Ah Af Ad Ae
attribute [-go_sem] List.range_succ
theorem PathAt.pathV{Z:aC}{v:Value}{path:List Nat}(h:PathAt Z v path):PathV (fun _=>True) Z v path:=by
 obtain⟨p,c,rfl,⟨rfl,rfl,rfl⟩|⟨b,more,rfl,hc⟩⟩:=h
 .exact .inl ⟨rfl,rfl⟩
 .exact .inr ⟨b,c,more,rfl,trivial,hc⟩
theorem Ahm(x:Nat)(l c:Nat)(Z:aC):bL Tryz.prog 25 (.tmp x) (.const (.slice none 0 0)) (.slice none l c) (.slice none 0 0) Z=.val (.bool true) Z:=by kernel_rfl
theorem Aem(x:Nat)(a:Addr)(l c:Nat)(Z:aC):bL Tryz.prog 25 (.tmp x) (.const (.slice none 0 0)) (.slice (some a) l c) (.slice none 0 0) Z=.val (.bool false) Z:=by kernel_rfl
theorem AgW(n:Nat){Q:Nat->Prop}{v:Value}{path:List Nat}(Z:aC)(hw:Wf Z)(h:PathV Q Z v path)(hl:path.length<99999):
  Gives ((env (n+1)).call 129 [v] none Z) Z fun w V=>PathV (fun b=>Z.next<=b) V w path:=by
 rw[Ak _ 129 _ _ rfl,Ag5 _ _ _ _ (by simp),Aj]
 unfold Ab5
 have h0:=h
 rcases h with⟨rfl,rfl⟩|⟨b,cx,rest,rfl,hQ,hc⟩
 .simp -implicitDefEqProofs only[go_sem,QJ,Mk,QK,Ml,Afb,Sn,Ahm]
  exact⟨_,_,rfl,Ext.refl _,hw,.inl ⟨rfl,rfl⟩⟩
 .have F1:Ful TI (Z.push (.cells [] TI) none) Z.next (.slice (some ⟨Z.next,0,none⟩) 0 0) []:=Ful.push TI Z []
  have hb:=hw.cells hc
  have hw1:=hw.push (.cells [] TI) none
  have a1:PathV Q (Z.push (.cells [] TI) none) (.slice (some ⟨b,0,none⟩) path.length cx) path:=.inr ⟨b,cx,rest,rfl,hQ,by rw[Ac,if_neg (by omega)];exact hc⟩
  obtain⟨b2,s2,a9,e2,F2,hb2,ch2,hw2⟩:=F1.append hw1 (.slice (some ⟨b,0,none⟩) path.length cx) (intsOf path) 8 a1.fnew (FX _) (by omega) (by simp[Cc];omega)
  simp -implicitDefEqProofs only[go_sem,QJ,Mk,QK,Ml,Afc,Sq,Aem,e2]
  have n2:=ch2.next
  have k2:=ch2.clock
  rw[Aa] at n2
  rw[A0] at k2
  rw[List.nil_append] at F2
  obtain⟨g1,g2⟩:=F2.cells
  rw[Cc] at g1
  refine⟨_,_,rfl,⟨by omega,by omega,fun x hx=>?_⟩,hw2,.inr ⟨b2,_,[],g1,?_,by rw[List.append_nil];exact g2⟩⟩
  .rw[ch2.get x (by rw[Aa];omega) (by omega),Ai,if_neg (by omega)]
  .rcases hb2 with rfl|rfl
   .exact Nat.le_refl _
   .rw[Aa];omega
end Go.Proofs.YtknnbjmcfibpgaaGreatDoor
namespace Go.Proofs.YtknnbjmcfibpgaaGreatDoor
open Go Go.Eng
attribute [local congr] Ab Ah Af Ad Ae
attribute [-go_sem] List.range_succ
def foundIn(x:D)(l:List (List Nat×D)):List (List Nat):=(l.filter fun y=>D.same y.2 x).map (·.1)
theorem GZ(x:D)(l:List (List Nat×D))(y:List Nat×D):foundIn x (l++[y])=foundIn x l++(if D.same y.2 x=true then [y.1] else []):=by
 unfold foundIn
 rw[List.filter_append,List.map_append]
 cases h:D.same y.2 x<;>simp[h]
def Paths'(B:Nat->Prop)(l:Nat)(Z:aC)(fv:Value)(ps:List (List Nat)):Prop:=∃us bo,Vecs 25 (fun b=>b=bo/\B b/\l<b) Z fv us/\PathsL (fun b=>B b/\l<b/\b≠bo) Z us ps
def FindI(l r cm bx:Nat)(R X:Nat->Prop)(xv:List Value)(x:D)(bT:aC)(f g:Nat->Value)(done:List (List Nat×D))(B:Nat->Prop)(Z:aC):Prop:=
 (∀b,X b\/b=l\/b=r\/b=cm\/b=bx->B b)/\(∀b,B b->b<Z.next/\(X b\/b=l\/b=r\/b=cm\/b=bx\/l<b))/\LoopAt 99 [10,11] EP EQ 8 21 f g l r .ready Z/\(∃ver,Z.heap.get r=some ⟨.defd true,false,none,ver⟩)/\
  (∃fv ver,Z.heap.get cm=some ⟨.cells [fv] 54,false,none,ver⟩/\Paths' B l Z fv (foundIn x done))/\Z.cells bx=some xv/\aI (fun b=>R b\/X b) Z (.agg xv.toArray) x/\∀b,X b->Z.heap.get b=bT.heap.get b
theorem Aet(M n N l r cm bx:Nat)(X R:Nat->Prop)(xv:List Value)(x:D)(bT:aC)(f g:Nat->Value)(all:List (List Nat×D))(hM:M=n+2*N)(hx4:xv.length=4)(hne:bx<cm/\cm<r/\r<l)(h3:f 3=.pointer (some ⟨bx,0,none⟩))(h5:f 5=.pointer (some ⟨cm,0,none⟩))(hR:∀b,R b->b<bx/\¬ X b)(hX:∀b,X b->b<bx)(hall:∀y∈all,y.1.length<80000/\D.deep y.2<=N/\y.2.count<1000000000)(hfew:all.length<90000):
  Body (env (M+3)) l R (.func (.func 141) #[] #[]) (FindI l r cm bx R X xv x bT f g) all where
 stays:=fun done B Z V ⟨h1,h2,h6,⟨v7,h7⟩,⟨fv,v8,h8,us,bo,h9,h11⟩,h12,h13,h14⟩ hw hC=>by
  have k:∀b,B b->b<Z.next->V.heap.get b=Z.heap.get b:=fun b hb hn=>hC.get b hn fun h=>h.1 hb
  have kc:∀b c,B b->Z.cells b=some c->V.cells b=some c:=fun b c hb hc=>by
   have:=k b hb (hw.cells hc)
   rw[AG] at hc ⊢
   rw[this];exact hc
  have hn:=hC.next
  have kR:∀b c,R b->Z.cells b=some c->V.cells b=some c:=fun b c hb hc=>by
   have:=hC.get b (hw.cells hc) fun h=>h.2 hb
   rw[AG] at hc ⊢
   rw[this];exact hc
  have own:=fun b hb=>(h2 b (h1 b hb)).1
  exact⟨h1,fun b hb=>⟨Nat.lt_of_lt_of_le (h2 b hb).1 hn,(h2 b hb).2⟩,h6.keep (k l (h1 l (by simp)) (own l (by simp))),⟨v7,(k r (h1 r (by simp)) (own r (by simp))).trans h7⟩,⟨fv,v8,(k cm (h1 cm (by simp)) (own cm (by simp))).trans h8,us,bo,h9.keep (fun b hb hn=>⟨k b hb.2.1 hn,hb⟩) hw,h11.keep fun b c hb hc=>⟨kc b c hb.1 hc,hb⟩⟩,kc bx _ (h1 bx (by simp)) h12,h13.keep (fun b c hb hc=>⟨by
   rcases hb with hb|hb
   .exact kR b c hb hc
   .exact kc b c (h1 b (by simp[hb])) hc,hb⟩),fun b hb=>(k b (h1 b (by simp[hb])) (own b (by simp[hb]))).trans (h14 b hb)⟩
 own:=fun done B Z ⟨h1,h2,h6,_⟩ b hb=>⟨(h2 b hb).1,fun h=>by
  have:=hR b h
  rcases (h2 b hb).2 with h|h|h|h|h|h
  .exact this.2 h
  all_goals omega⟩
 inside:=fun done B Z k z t p ln c _ hw=>KD (M+2) _ 141 #[] rfl k z t (.slice p ln c) (Az _ _ _) Z hw fun V _ hw'=>⟨_,V,Agz (M+1) _ V,Ext.refl _,hw',rfl⟩
 go:=fun done path d rest B Z pv v hall' hw ⟨h1,h2,h6,⟨v7,h7⟩,⟨fv,v8,h8,us,bo,h9,h11⟩,h12,h13,h14⟩ hpath hL=>by
  have hmem:(path,d)∈all:=by rw[hall'];simp
  obtain⟨hp8,hdp,hct⟩:=hall _ hmem
  have hp8:path.length<80000:=hp8
  have hdone:done.length<90000:=by have:=congrArg List.length hall';simp at this;omega
  have hL0:=hL.laid
  obtain⟨k,z,t,ps⟩:=d
  obtain⟨p,c,rfl,hq⟩:=hL
  have own:=fun b hb=>(h2 b (h1 b hb)).1
  have ol:=own l (by simp)
  have or':=own r (by simp)
  have oc:=own cm (by simp)
  have ob:=own bx (by simp)
  rw[Kl _ _ _ _ _ _ _ _ _ (M+2) l r _ h6 rfl,Ad8]
  simp -implicitDefEqProofs only[go_sem,Av,AnO,AbT,AnP,AbU,List.zip_cons_cons,List.zip_nil_right,Gc,G8]
  have x1:Ext Z ((Z.push (.cells [.int .i64 0,.int .i64 0,.string ⟨#[]⟩,.slice none 0 0] TD) none).put Z.next (.cells [.int .i64 k,.int .i64 z,.string t,.slice p ps.length c] TD) none):=((Ext.refl _).push _ _).put _ _ _ (Nat.le_refl _)
  have hw1:=(hw.push (.cells [.int .i64 0,.int .i64 0,.string ⟨#[]⟩,.slice none 0 0] TD) none).put Z.next (.cells [.int .i64 k,.int .i64 z,.string t,.slice p ps.length c] TD) none (Nat.lt_succ_self _)
  have b1:((Z.push (.cells [.int .i64 0,.int .i64 0,.string ⟨#[]⟩,.slice none 0 0] TD) none).put Z.next (.cells [.int .i64 k,.int .i64 z,.string t,.slice p ps.length c] TD) none).cells Z.next=some [.int .i64 k,.int .i64 z,.string t,.slice p ps.length c]:=by rw[Al,if_pos rfl];rfl
  have n1:((Z.push (.cells [.int .i64 0,.int .i64 0,.string ⟨#[]⟩,.slice none 0 0] TD) none).put Z.next (.cells [.int .i64 k,.int .i64 z,.string t,.slice p ps.length c] TD) none).next=Z.next+1:=rfl
  generalize aC.put _ _ _ _=a_ at x1 hw1 b1 n1 ⊢
  have l1:=h6.keep (x1.get l ol)
  rw[E6 _ _ _ _ _ _ _ _ _ l r _ l1,Ad9]
  have hw2:=hw1.put l (.loop .busy none 99 ((List.range 8).map f) g 8 21 [10,11] EP EQ r) none (by omega)
  have l2:LoopAt 99 [10,11] EP EQ 8 21 f g l r .busy (a_.put l (.loop .busy none 99 ((List.range 8).map f) g 8 21 [10,11] EP EQ r) none):=LoopAt.put _ _ _ _ _ _ _ _ _ _ _ _
  have n2:(a_.put l (.loop .busy none 99 ((List.range 8).map f) g 8 21 [10,11] EP EQ r) none).next=Z.next+1:=n1
  have C2:Chg (· = l) Z (a_.put l (.loop .busy none 99 ((List.range 8).map f) g 8 21 [10,11] EP EQ r) none):=(x1.chg _).put _ _ _ (.inr rfl)
  have b2:(a_.put l (.loop .busy none 99 ((List.range 8).map f) g 8 21 [10,11] EP EQ r) none).cells Z.next=some [.int .i64 k,.int .i64 z,.string t,.slice p ps.length c]:=by rw[Al,if_neg (by omega)];exact b1
  generalize aC.put _ l _ _=a9 at hw2 l2 b2 C2 n2 ⊢
  have lk:LoopAt 99 [10,11] EP EQ 8 21 f g l r .ready Z:=h6
  have hlc:∀b cs,Z.cells b=some cs->b≠l:=fun b cs hc hb=>by
   obtain⟨ver,h6⟩:=lk
   rw[hb,AG,h6] at hc
   cases hc
  have k2:∀b cs,Z.cells b=some cs->a9.cells b=some cs:=fun b cs hc=>(C2.cells (hw.cells hc) (hlc b cs hc)).trans hc
  have cx2:=k2 _ _ h12
  obtain⟨_,bS,e3,x3,hw3,rfl⟩:=V7 (n+2) N (.mk k z t ps) x (.agg #[.int .i64 k,.int .i64 z,.string t,.slice p ps.length c]) (.agg xv.toArray) a9 hdp hct hw2 (aI.laid (R:=fun _=>True) (aI.keep (R:=R) (fun b cs _ hc=>⟨k2 b cs hc,trivial⟩) ⟨p,c,rfl,hq⟩)) (aI.laid (R:=fun _=>True) (h13.keep fun b cs _ hc=>⟨k2 b cs hc,trivial⟩))
  have en:M+2=n+2+2*N:=by omega
  rw[<-en] at e3
  have ht:xv.take 4=xv:=List.take_of_length_le (by omega)
  have n3:=x3.next
  have l3:=l2.keep (x3.get l (by omega))
  have k3:∀b cs,Z.cells b=some cs->bS.cells b=some cs:=fun b cs hc=>(x3.cells (hw2.cells (k2 b cs hc))).trans (k2 b cs hc)
  have g3:∀b,b<Z.next->b≠l->bS.heap.get b=Z.heap.get b:=fun b hb hne=>(x3.get b (by omega)).trans (C2.get b hb hne)
  cases e:D.same (.mk k z t ps) x with
  | false=>
   rw[e] at e3
   simp -implicitDefEqProofs only[go_sem,YK,Vc,h3,b2,cx2,hx4,ht,e3,Nat.le_refl]
   rw[F8 _ _ _ _ _ _ _ _ _ _ l r _ _ l3]
   have g4:∀(o:FObj) b,b<Z.next->b≠l->(bS.put l o none).heap.get b=Z.heap.get b:=fun o b hb hne=>by rw[Ao,if_neg hne];exact g3 b hb hne
   have k4:∀(o:FObj) b cs,Z.cells b=some cs->(bS.put l o none).cells b=some cs:=fun o b cs hc=>by rw[Al,if_neg (hlc b cs hc)];exact k3 b cs hc
   refine⟨B,_,rfl,hw3.put _ _ _ (by omega),⟨by rw[Aq];omega,by have:=C2.clock;have:=x3.clock;rw[Bl];omega,fun b hb hB=>g4 _ b hb fun h=>hB (h ▸ h1 l (by simp))⟩,fun b hb=>.inl hb,h1,fun b hb=>⟨by rw[Aq];have:=(h2 b hb).1;omega,(h2 b hb).2⟩,LoopAt.put _ _ _ _ _ _ _ _ _ _ _ _,⟨v7,(g4 _ r or' (by omega)).trans h7⟩,⟨fv,v8,(g4 _ cm oc (by omega)).trans h8,us,bo,h9.keep (fun b hb hn=>⟨g4 _ b hn (by omega),hb⟩) hw,?_⟩,k4 _ _ _ h12,h13.keep (fun b cs hb hc=>⟨k4 _ b cs hc,hb⟩),fun b hb=>(g4 _ b (own b (by simp[hb])) (by have:=hX b hb;omega)).trans (h14 b hb)⟩
   rw[GZ,e,if_neg (by simp),List.append_nil]
   exact h11.keep fun b cs hb hc=>⟨k4 _ b cs hc,hb⟩
  | true=>
   rw[e] at e3
   have hus:us.length<=done.length:=by
    rw[h11.length]
    unfold foundIn
    rw[List.length_map]
    exact List.length_filter_le _ _
   obtain⟨w4,bU,e4,x4,hw4,P4⟩:=AgW (M+1) bS hw3 (hpath.pathV.keep (Q':=fun _=>True) fun b cs _ hc=>⟨k3 b cs hc,trivial⟩) (by omega)
   have n4:=x4.next
   have c3:bS.cells cm=some [fv]:=k3 cm _ (Ar h8)
   have vc:(view bU bS.clock).cells cm=some [fv]:=Eo hw3 (Nat.le_refl _) (x4.get cm (by omega)) c3
   have g4:∀b,b<Z.next->b≠l->bU.heap.get b=Z.heap.get b:=fun b hb hne=>(x4.get b (by omega)).trans (g3 b hb hne)
   have k4:∀b cs,Z.cells b=some cs->bU.cells b=some cs:=fun b cs hc=>(x4.cells (hw3.cells (k3 b cs hc))).trans (k3 b cs hc)
   have hw5:=hw4.push (.cells [w4] 25) none
   have g5:∀b,b<Z.next->b≠l->(bU.push (.cells [w4] 25) none).heap.get b=Z.heap.get b:=fun b hb hne=>by rw[Ai,if_neg (by omega)];exact g4 b hb hne
   have V5:Vecs 25 (fun b=>b=bo/\B b/\l<b) (bU.push (.cells [w4] 25) none) fv us:=h9.keep (fun b hb hn=>⟨g5 b hn (by omega),hb⟩) hw
   obtain⟨b6,s6,bX,e6,F6,hb6,ch6,hw6⟩:=V5.append hw5 bU.next 1 w4 24 (by rw[Ac,if_pos rfl];rfl) P4.one.1 (by omega) (by omega)
   have n6:=ch6.next
   rw[Aa] at n6
   have hbol:∀b,b=bo/\B b/\l<b->b≠cm/\b≠l/\b≠r/\b≠bx/\¬ X b:=fun b hb=>⟨by omega,by omega,by omega,by omega,fun h=>by have:=hX b h;omega⟩
   have g6:∀b,b<Z.next->b≠l->¬ (b=bo/\B b/\l<b)->bX.heap.get b=Z.heap.get b:=fun b hb hne hbo=>(ch6.get b (by rw[Aa];omega) hbo).trans (g5 b hb hne)
   have k6:∀b cs,Z.cells b=some cs->¬ (b=bo/\B b/\l<b)->bX.cells b=some cs:=fun b cs hc hbo=>by
    have:=g6 b (hw.cells hc) (hlc b cs hc) hbo
    rw[AG] at hc ⊢
    rw[this];exact hc
   have gc6:bX.heap.get cm=some ⟨.cells [fv] 54,false,none,v8⟩:=(g6 cm oc (by omega) (by omega)).trans h8
   simp -implicitDefEqProofs only[go_sem,YK,Vc,AnQ,AbV,h3,h5,b2,cx2,hx4,ht,e3,e4,vc,P4.one.1,P4.one.2.1,P4.one.2.2,e6,gc6,F6.one.1,Nat.le_refl]
   have l6:LoopAt 99 [10,11] EP EQ 8 21 f g l r .busy bX:=l3.keep (by rw[ch6.get l (by rw[Aa];omega) (by omega),Ai,if_neg (by omega),x4.get l (by omega)])
   have l7:∀o:FObj,LoopAt 99 [10,11] EP EQ 8 21 f g l r .busy (bX.put cm o none):=fun o=>l6.keep (by rw[Ao,if_neg (by omega)])
   rw[F8 _ _ _ _ _ _ _ _ _ _ l r _ _ (l7 _)]
   have hb6l:l<b6/\b6<bX.next/\(b6=bo/\B bo\/b6=bU.next+1):=⟨by
    rcases hb6 with h|h
    .exact h.2.2
    .rw[Aa] at h;omega,F6.lt hw6,by
    rcases hb6 with h|h
    .exact .inl ⟨h.1,h.1 ▸ h.2.1⟩
    .exact .inr h⟩
   have g7:∀(o o':FObj) b,b<Z.next->b≠l->b≠cm->¬ (b=bo/\B b/\l<b)->((bX.put cm o none).put l o' none).heap.get b=Z.heap.get b:=fun o o' b hb hne hnc hbo=>by
    rw[Ao,if_neg hne,Ao,if_neg hnc];exact g6 b hb hne hbo
   have k7:∀(o o':FObj) b cs,Z.cells b=some cs->b≠cm->¬ (b=bo/\B b/\l<b)->((bX.put cm o none).put l o' none).cells b=some cs:=fun o o' b cs hc hnc hbo=>by
    rw[Al,if_neg (hlc b cs hc),Al,if_neg hnc];exact k6 b cs hc hbo
   refine⟨fun b=>B b\/(Z.next<=b/\b<bX.next),_,rfl,(hw6.put _ _ _ (by omega)).put _ _ _ (by rw[Aq];omega),⟨by rw[Aq,Aq];omega,by have:=C2.clock;have:=x3.clock;have:=x4.clock;have:=ch6.clock;rw[A0] at this;rw[Bl,Bl];omega,fun b hb hB=>g7 _ _ b hb (fun h=>hB (h ▸ h1 l (by simp))) (fun h=>hB (h ▸ h1 cm (by simp))) fun h=>hB h.2.1⟩,fun b hb=>by
    rcases hb with h|h
    .exact .inl h
    .exact .inr h.1,fun b hb=>.inl (h1 b hb),fun b hb=>?_,LoopAt.put _ _ _ _ _ _ _ _ _ _ _ _,⟨v7,(g7 _ _ r or' (by omega) (by omega) (by omega)).trans h7⟩,⟨s6,bX.clock,by rw[Ao,if_neg (by omega),Ao,if_pos rfl],us++[w4],b6,.inr ⟨b6,F6.keep (by rw[Ao,if_neg (by omega),Ao,if_neg (by omega)]),rfl,?_,hb6l.1⟩,?_⟩,k7 _ _ _ _ h12 (by omega) (by omega),h13.keep (fun b cs hb hc=>⟨k7 _ _ b cs hc (by rcases hb with hb|hb;have:=(hR b hb).1;omega;have:=hX b hb;omega) (by rcases hb with hb|hb;have:=(hR b hb).1;omega;have:=hX b hb;omega),hb⟩),fun b hb=>(g7 _ _ b (own b (by simp[hb])) (by have:=hX b hb;omega) (by have:=hX b hb;omega) (by have:=hX b hb;omega)).trans (h14 b hb)⟩
   .rw[Aq,Aq]
    rcases hb with h|h
    .exact⟨by have:=(h2 b h).1;omega,(h2 b h).2⟩
    .exact⟨h.2,.inr (.inr (.inr (.inr (.inr (by omega)))))⟩
   .rcases hb6l.2.2 with h|h
    .exact .inl (h.1 ▸ h.2)
    .exact .inr ⟨by omega,hb6l.2.1⟩
   .rw[GZ,e,if_pos rfl]
    refine(h11.keep fun b cs hb hc=>⟨k7 _ _ b cs hc (by omega) (fun h=>hb.2.2 h.1),.inl hb.1,hb.2.1,?e1⟩).append ⟨P4.keep fun b cs hb hc=>⟨?e2,.inr ⟨by omega,?e3⟩,by omega,?e4⟩,trivial⟩
    case e1=>
     have:=hw.cells hc
     rcases hb6l.2.2 with h|h
     .rw[h.1];exact hb.2.2
     .omega
    case e2=>
     have:=hw4.cells hc
     rw[Al,if_neg (by omega),Al,if_neg (by omega)]
     exact(ch6.cells (by rw[Aa];omega) (fun h=>by have:=(h2 b h.2.1).1;omega)).trans (by rw[Ac,if_neg (by omega)];exact hc)
    case e3=>have:=hw4.cells hc;omega
    case e4=>
     have:=hw4.cells hc
     rcases hb6l.2.2 with h|h
     .have:=(h2 b6 (h.1 ▸ h.2)).1;omega
     .omega
end Go.Proofs.YtknnbjmcfibpgaaGreatDoor
namespace Go.Proofs.YtknnbjmcfibpgaaGreatDoor
open Go Go.Eng
attribute [local congr] Ab Ah Af Ad Ae
attribute [-go_sem] List.range_succ
theorem Aqh(M n N:Nat)(hM:M=n+2*N)(d x:D)(lv xv:List Value)(h4:lv.length=4)(hx4:xv.length=4)(R X:Nat->Prop)(Z:aC)(hw:Wf Z)(hL:aI R Z (.agg lv.toArray) d)(hLx:aI (fun b=>R b\/X b) Z (.agg xv.toArray) x)(hR:∀b,R b->b<Z.next/\¬ X b)(hX:∀b,X b->b<Z.next)(hS:Small (d.pieces []))(hN:(d.pieces []).length<90000)(hall:∀y∈d.pieces [],D.deep y.2<=N/\y.2.count<1000000000):
  Gives ((env (M+5)).call 99 [.agg lv.toArray,.agg xv.toArray] none Z) Z fun w V=>∃us,Vecs 25 (fun b=>Z.next<=b) V w us/\PathsL (fun b=>Z.next<=b) V us (foundIn x (d.pieces [])):=by
 rw[Ak _ 99 _ _ rfl,Aqe _ _ _ _ (by simp),Aj]
 unfold Aow
 have x1:Ext Z (((Z.push (.cells lv TD) none).push (.cells xv TD) none).push (.cells [.slice none 0 0] 54) none):=(((Ext.refl _).push _ _).push _ _).push _ _
 have hw1:=((hw.push (.cells lv TD) none).push (.cells xv TD) none).push (.cells [.slice none 0 0] 54) none
 have g1:(((Z.push (.cells lv TD) none).push (.cells xv TD) none).push (.cells [.slice none 0 0] 54) none).heap.get (Z.next+2)=some ⟨.cells [.slice none 0 0] 54,false,none,Z.clock+2⟩:=by rw[Ai,if_pos (by simp only[Aa])];rfl
 have c1:(((Z.push (.cells lv TD) none).push (.cells xv TD) none).push (.cells [.slice none 0 0] 54) none).cells Z.next=some lv:=by rw[Ac,if_neg (by simp only[Aa];omega),Ac,if_neg (by rw[Aa];omega),Ac,if_pos rfl];rfl
 have cx1:(((Z.push (.cells lv TD) none).push (.cells xv TD) none).push (.cells [.slice none 0 0] 54) none).cells (Z.next+1)=some xv:=by rw[Ac,if_neg (by simp only[Aa];omega),Ac,if_pos (by rw[Aa])];rfl
 have n1:(((Z.push (.cells lv TD) none).push (.cells xv TD) none).push (.cells [.slice none 0 0] 54) none).next=Z.next+3:=rfl
 simp -implicitDefEqProofs only[go_sem,AnL,AbQ,AnM,AbR]
 generalize hff:upd _ 5 _=f1
 have q2:f1 2=.pointer (some ⟨Z.next,0,none⟩):=by rw[<-hff];simp -implicitDefEqProofs only[go_sem,reduceCtorEq]
 have q3:f1 3=.pointer (some ⟨Z.next+1,0,none⟩):=by rw[<-hff];simp -implicitDefEqProofs only[go_sem,reduceCtorEq]
 have q5:f1 5=.pointer (some ⟨Z.next+2,0,none⟩):=by rw[<-hff];simp -implicitDefEqProofs only[go_sem,reduceCtorEq]
 clear hff
 generalize aC.push _ _ _=a_ at x1 hw1 g1 c1 cx1 n1 ⊢
 obtain⟨a9,b1,b2,e2,x2,hw2,hb1,hb2,cb2,cb1⟩:=AoN (M+2) lv h4 a_ hw1
 have ht:lv.take 4=lv:=List.take_of_length_le (by omega)
 simp -implicitDefEqProofs only[go_sem,AnN,AbS,q2,c1,h4,ht,e2,Nat.le_refl]
 generalize hgg:upd _ 9 _=gg
 have n2:=x2.next
 have hL2:aI R a9 (.agg lv.toArray) d:=hL.keep fun b cs hb hc=>⟨((x1.trans x2).cells (hw.cells hc)).trans hc,hb⟩
 have hLx2:aI (fun b=>R b\/X b) a9 (.agg xv.toArray) x:=hLx.keep fun b cs hb hc=>⟨((x1.trans x2).cells (hw.cells hc)).trans hc,hb⟩
 have hcm2:a9.heap.get (Z.next+2)=some ⟨.cells [.slice none 0 0] 54,false,none,Z.clock+2⟩:=(x2.get _ (by omega)).trans g1
 have hcx2:a9.cells (Z.next+1)=some xv:=(x2.cells (by omega)).trans cx1
 have y2:Ext a9 ((a9.push (.defd true) none).push (.loop .ready none 99 ((List.range 8).map f1) gg 8 21 [10,11] EP EQ a9.next) none):=((Ext.refl _).push _ _).push _ _
 obtain⟨bS,B3,e3,ch3,n3,hB3,hw3,i3⟩:=O6 (M+3) 99 [10,11] EP EQ 8 21 f1 gg [] none 9 b1 b2 a9 (.func (.func 141) #[] #[]) R d lv (FindI (a9.next+1) a9.next (Z.next+2) (Z.next+1) R X xv x a9 f1 gg) (fun b=>X b\/b=a9.next+1\/b=a9.next\/b=Z.next+2\/b=Z.next+1)
  (Aet M n N (a9.next+1) a9.next (Z.next+2) (Z.next+1) X R xv x a9 f1 gg _ hM hx4 ⟨by omega,by omega,by omega⟩ q3 q5 (fun b hb=>⟨by have:=(hR b hb).1;omega,(hR b hb).2⟩) (fun b hb=>by have:=hX b hb;omega) (fun y hy=>⟨(hS y hy).1,hall y hy⟩) hN) hS (by omega)
  (fun done B V ⟨_,_,h5,h6,_⟩=>⟨h5,h6⟩)
  ⟨fun b hb=>hb,fun b hb=>⟨by
   simp only[Aa]
   rcases hb with h|h|h|h|h
   .have:=hX b h;omega
   all_goals omega,by
   rcases hb with h|h|h|h|h
   .exact .inl h
   .exact .inr (.inl h)
   .exact .inr (.inr (.inl h))
   .exact .inr (.inr (.inr (.inl h)))
   .exact .inr (.inr (.inr (.inr (.inl h))))⟩,KJ ..,⟨_,by rw[Ai,if_neg (by rw[Aa];omega),Ai,if_pos rfl]⟩,⟨_,_,(y2.get _ (by omega)).trans hcm2,[],0,.inl ⟨rfl,rfl⟩,trivial⟩,(y2.cells (by omega)).trans hcx2,hLx2.keep fun b cs hb hc=>⟨(y2.cells (hw2.cells hc)).trans hc,hb⟩,fun b hb=>y2.get b (by have:=hX b hb;omega)⟩
  (by rw[Rj,<-hgg];simp -implicitDefEqProofs only[go_sem,reduceCtorEq]) hw2 cb1 (fun h=>by have:=hw2.cells cb1;rcases h with h|h|h|h|h;have:=hX _ h;all_goals omega) hL2 (fun b hb=>by have:=(hR b hb).1;omega) cb2 (fun h=>by have:=hw2.cells cb2;rcases h with h|h|h|h|h;have:=hX _ h;all_goals omega)
 rw[e3]
 obtain⟨h1,h2,h6,⟨v6,h7⟩,⟨fv,v8,h8,us,bo,h9,h11⟩,h12,h13,h14⟩:=i3
 have hcm:=Ar h8
 have hputc:∀(o:FObj),(bS.put (a9.next+1) o none).cells (Z.next+2)=some [fv]:=fun o=>by rw[Al,if_neg (by omega)];exact hcm
 have hcol:∀(o:FObj),(bS.put (a9.next+1) o none).heap.get a9.next=some ⟨.defd true,false,none,v6⟩:=fun o=>by rw[Ao,if_neg (by omega)];exact h7
 simp -implicitDefEqProofs only[go_sem,AnR,AbW,q5,hputc]
 rw[Gu _ _ _ _ _ _ _ _ _ _ (hcol _)]
 simp -implicitDefEqProofs only[go_sem]
 have x3:Ext Z bS:=⟨by have:=x1.next;omega,by have:=x1.clock;have:=x2.clock;have:=ch3.clock;omega,fun b hb=>by
  by_cases hx:X b
  .exact(h14 b hx).trans ((x1.trans x2).get b hb)
  .exact(ch3.get b (by omega) (fun h=>by rcases h with h|h|h|h|h;exact hx h;all_goals omega)).trans ((x1.trans x2).get b hb)⟩
 have kc:∀(o o':FObj) b cs,a9.next+1<b->bS.cells b=some cs->((bS.put (a9.next+1) o none).put a9.next o' none).cells b=some cs:=fun o o' b cs hb hc=>by
  rw[Al,if_neg (by omega),Al,if_neg (by omega)];exact hc
 refine⟨_,_,rfl,(x3.put _ _ _ (by omega)).put _ _ _ (by omega),(hw3.put _ _ _ (by omega)).put _ _ _ (by rw[Aq];omega),us,h9.keep (fun b hb hn=>⟨by rw[Ao,if_neg (by omega),Ao,if_neg (by omega)],by omega⟩) hw3,h11.keep fun b cs hb hc=>⟨kc _ _ b cs hb.2.1 hc,by omega⟩⟩
end Go.Proofs.YtknnbjmcfibpgaaGreatDoor
end
