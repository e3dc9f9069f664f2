import Derived.Test.YtokieofohmgjdaaGreatDoorU6
import Derived.Test.YtokieofohmgjdaaGreatDoorU3
import Derived.Test.YtokieofohmgjdaaGreatDoorU4
set_option linter.unusedSimpArgs false
set_option linter.unusedVariables false
noncomputable section
namespace Go.Proofs.YtokieofohmgjdaaGreatDoor
section
open Go Go.Eng
attribute [local congr] Ab Ah Af Ad Ae
attribute [-go_sem] List.range_succ
def plainC(c:Nat):Bool:=decide (32≤c)&&decide (c≤126)
def plainB(t:ByteArray):Bool:=(List.range t.size).all fun i=>plainC (byteAt t i)
def textE(t:ByteArray):Nat:=if 60<t.size then 8 else if plainB t=true then 0 else 13
theorem Am5(n i c:Nat)(t:ByteArray)(f g:Nat→Value)(σ:FState)(hi:i<t.size)(hsz:i<1000000)(hc:byteAt t i=c)(f0:f 0=.string t)(f3:f 3=.int .i64 (.ofNat i)):
  ∃f' g',f' 0=.string t∧((plainC c=true∧Ht (env n) none 159 (Sl 4 23 f g []) none σ=.done .normal (Sl 4 23 f' g' []) none σ∧f' 3=.int .i64 (.ofNat (i+1)))∨
   (plainC c=false∧Ht (env n) none 159 (Sl 4 23 f g []) none σ=.done .ret (Sl 4 23 f' g' []) none σ∧f' 2=.int .i64 13)):=by
 have d0:decide (Int.ofNat i<Int.ofNat t.size)=true:=by simp;omega
 have hb:=EV t i hi σ
 rw[hc] at hb
 have a1:=GH i (by omega)
 unfold Ht
 by_cases h1:c<32
 ·have l1:decide ((c:Int)<32)=true:=by simp;omega
  simp -implicitDefEqProofs only[go_sem,Il,Ik,KH,J1,KI,J2,KJ,J3,f0,f3,d0,hb,a1,l1,XD,Xp,Ag]
  refine⟨_,_,?_,.inr ⟨by unfold plainC;simp;omega,rfl,?_⟩⟩
  ·simp -implicitDefEqProofs only[go_sem,reduceCtorEq,f0]
  ·simp -implicitDefEqProofs only[go_sem,reduceCtorEq]
 ·have l1:decide ((c:Int)<32)=false:=by simp;omega
  by_cases h2:126<c
  ·have l2:decide ((c:Int)>126)=true:=by simp;omega
   simp -implicitDefEqProofs only[go_sem,Il,Ik,KH,J1,KI,J2,KJ,J3,f0,f3,d0,hb,a1,l1,l2,XD,Xp,Ag]
   refine⟨_,_,?_,.inr ⟨by unfold plainC;simp;omega,rfl,?_⟩⟩
   ·simp -implicitDefEqProofs only[go_sem,reduceCtorEq,f0]
   ·simp -implicitDefEqProofs only[go_sem,reduceCtorEq]
  ·have l2:decide ((c:Int)>126)=false:=by simp;omega
   simp -implicitDefEqProofs only[go_sem,Il,Ik,KH,J1,KI,J2,KJ,J3,f0,f3,d0,hb,a1,l1,l2,XD,Xp,Ag]
   refine⟨_,_,?_,.inl ⟨by unfold plainC;simp;omega,rfl,?_⟩⟩
   ·simp -implicitDefEqProofs only[go_sem,reduceCtorEq,f0]
   ·simp -implicitDefEqProofs only[go_sem,reduceCtorEq]
theorem Am4(n:Nat)(t:ByteArray)(hsz:t.size≤60)(σ:FState):∀(j fuel i:Nat) (f g:Nat→Value),t.size-i=j→j<fuel→i≤t.size→f 0=.string t→f 3=.int .i64 (.ofNat i)→
  ∃f' g',((∀k,i≤k→k<t.size→plainC (byteAt t k)=true)∧floop [] (Ht (env n) none 159) fuel (Sl 4 23 f g []) none σ=.done (.exit 0) (Sl 4 23 f' g' []) none σ)∨
   ((∃k,i≤k∧k<t.size∧plainC (byteAt t k)=false)∧floop [] (Ht (env n) none 159) fuel (Sl 4 23 f g []) none σ=.done .ret (Sl 4 23 f' g' []) none σ∧f' 2=.int .i64 13):=by
 intro j
 induction j with
 | zero=>
  intro fuel i f g hj hf hi f0 f3
  obtain⟨fuel,rfl⟩:∃q,fuel=q+1:=⟨fuel-1,by omega⟩
  obtain rfl:i=t.size:=by omega
  have d0:decide (Int.ofNat t.size<Int.ofNat t.size)=false:=by simp
  rw[Ar]
  have h:∃f' g',Ht (env n) none 159 (Sl 4 23 f (kept [] g) []) none σ=.done (.exit 0) (Sl 4 23 f' g' []) none σ:=by
   unfold Ht
   simp -implicitDefEqProofs only[go_sem,Il,Ik,f0,f3,d0]
   exact⟨_,_,rfl⟩
  obtain⟨f',g',e⟩:=h
  refine⟨f',g',.inl ⟨fun k h1 h2=>by omega,?_⟩⟩
  simp -implicitDefEqProofs only[BU,e,AL]
 | succ j ih=>
  intro fuel i f g hj hf hi f0 f3
  obtain⟨fuel,rfl⟩:∃q,fuel=q+1:=⟨fuel-1,by omega⟩
  have hlt:i<t.size:=by omega
  rw[Ar]
  obtain⟨f1,g1,h0,h⟩:=Am5 n i (byteAt t i) t f (kept [] g) σ hlt (by omega) rfl f0 f3
  rcases h with⟨hc,e,h3⟩|⟨hc,e,h2⟩
  ·obtain⟨f2,g2,h⟩:=ih fuel (i+1) f1 g1 (by omega) (by omega) (by omega) h0 h3
   refine⟨f2,g2,?_⟩
   simp -implicitDefEqProofs only[BU,e,Aq]
   rcases h with⟨h4,h5⟩|⟨⟨k,h4,h5,h6⟩,h7,h8⟩
   ·refine .inl ⟨fun k h1 h2=>?_,h5⟩
    by_cases hk:k=i
    ·subst hk;exact hc
    ·exact h4 k (by omega) h2
   ·exact .inr ⟨⟨k,by omega,h5,h6⟩,h7,h8⟩
  ·refine⟨f1,g1,.inr ⟨⟨i,Nat.le_refl _,hlt,hc⟩,?_,h2⟩⟩
   simp -implicitDefEqProofs only[BU,e,AV]
theorem Alh(n:Nat)(t:ByteArray)(σ:FState):(env (n+1)).call 159 [.string t] none σ=.ret (.int .i64 (textE t:Nat)) none σ:=by
 rw[Ak _ 159 _ _ rfl,AeT _ _ _ _ (by simp),Aj]
 unfold ZN
 have hkeep:keepOf nls 159=[]:=by kernel_rfl
 by_cases hs:60<t.size
 ·have d0:decide (Int.ofNat t.size>60)=true:=by simp;omega
  have e:textE t=8:=by unfold textE;rw[if_pos hs]
  simp -implicitDefEqProofs only[go_sem,P6,Ma,P7,Mb,Ac6,Sh,d0,e]
  rfl
 ·have d0:decide (Int.ofNat t.size>60)=false:=by simp;omega
  simp -implicitDefEqProofs only[go_sem,P6,Ma,P7,Mb,Ac7,Si,d0,Ag,hkeep]
  generalize hff:upd _ 3 _=f1
  generalize hgg:upd _ 6 _=g1
  obtain⟨f',g',h⟩:=Am4 n t (by omega) σ t.size bigFuel 0 f1 g1 (by omega) (by show t.size<1000000000000;omega) (by omega) (by rw[←hff];simp -implicitDefEqProofs only[go_sem,reduceCtorEq]) (by rw[←hff];simp -implicitDefEqProofs only[go_sem,reduceCtorEq]<;>rfl)
  rcases h with⟨h1,h2⟩|⟨⟨k,h1,h2,h3⟩,h5,h6⟩
  ·have e:textE t=0:=by
    unfold textE
    rw[if_neg hs,if_pos]
    exact List.all_eq_true.2 fun k hk=>h1 k (Nat.zero_le _) (List.mem_range.1 hk)
   rw[h2];simp -implicitDefEqProofs only[go_sem,Ac8,Sj,e]
   rfl
  ·have e:textE t=13:=by
    unfold textE
    rw[if_neg hs,if_neg]
    intro h
    have:=List.all_eq_true.1 h k (List.mem_range.2 h2)
    rw[h3] at this
    cases this
   rw[h5];simp -implicitDefEqProofs only[go_sem,h6,e]
   rfl
def formB(k z:Int)(t:ByteArray)(l:Nat):Bool:=(!(k==1||k==2)&&z != 0)||(!(k==3||k==4)&&decide (t.size≠0))||(!(k==5||k==6)&&decide (0<l))||(k==5&&decide (l≠2))
def pieceE(k z:Int)(t:ByteArray)(l:Nat):Nat:=
 if 0≤k∧k≤6 then
  if formB k z t l=true then 1
  else if k=1 then (if 0≤z∧z≤1 then 0 else 13)
  else if k=2 then (if -999999999≤z∧z≤999999999 then 0 else 13)
  else if k=3 then (if symB t=true then 0 else 2)
  else if k=4 then textE t
  else 0
 else 4
theorem Eg{t:ByteArray}(h:t.size=0):t=⟨#[]⟩:=by
 apply ByteArray.ext
 exact Array.eq_empty_of_size_eq_zero h
theorem EG{t:ByteArray}(h:t.size≠0):(t.toList==(⟨#[]⟩:ByteArray).toList)=false:=by
 rw[←Bool.not_eq_true,beq_iff_eq]
 intro h'
 have:=toList_inj h'
 subst this
 exact h rfl
theorem Asd(n:Nat)(z:Int)(t:ByteArray)(l:Nat)(p:Option Addr)(c:Nat)(σ:FState)(hw:Wf σ):
  Gives ((env (n+4)).call 130 [.agg #[.int .i64 0,.int .i64 z,.string t,.slice p l c]] none σ) σ fun w _=>w=.int .i64 (pieceE 0 z t l:Nat):=by
 rw[Ak _ 130 _ _ rfl,Fa _ _ _ _ (by simp),Aj]
 unfold Ge
 have fin:Ext σ (σ.push (.cells [.int .i64 0,.int .i64 z,.string t,.slice p l c] TD) none)∧Wf (σ.push (.cells [.int .i64 0,.int .i64 z,.string t,.slice p l c] TD) none):=⟨(Ext.refl _).push _ _,hw.push _ _⟩
 have w0:(decide ((0:Int)≤0)&&decide ((0:Int)≤6))=true:=by decide
 by_cases hz:z=0
 ·have z1:(z==0)=true:=by simpa using hz
  by_cases ht:t.size=0
  ·have t1:(t.toList==(⟨#[]⟩:ByteArray).toList)=true:=by rw[Eg ht];exact beq_self_eq_true _
   by_cases hl:0<l
   ·have l1:decide (Int.ofNat l>0)=true:=by simp;omega
    have hE:pieceE 0 z t l=1:=by unfold pieceE formB;simp[hz,ht,hl]
    simp -implicitDefEqProofs only[go_sem,Int.reduceBEq,BG,C3,BH,C6,BI,C8,BV,C_,BW,Da,BX,Db,BZ,Dc,B0,Dd,B6,De,B_,Df,Bk,Cn,Bl,Co,Bm,Cp,Bn,Cq,Bo,Cr,Bp,Cs,Bq,Ct,Br,Cu,Bs,Cv,Bt,Cw,Bu,Cx,Bv,Bool.or_true,Bool.or_false,Ag,w0,z1,t1,l1,Bool.not_false,Bool.not_true]
    exact⟨_,_,rfl,fin.1,fin.2,by rw[hE]<;>rfl⟩
   ·have l1:decide (Int.ofNat l>0)=false:=by simp;omega
    have hE:pieceE 0 z t l=0:=by unfold pieceE formB;simp[hz,ht,hl]
    simp -implicitDefEqProofs only[go_sem,Int.reduceBEq,BG,C3,BH,C6,BI,C8,BV,C_,BW,Da,BX,Db,BZ,Dc,B0,Dd,B6,De,B_,Df,Bk,Cn,Bl,Co,Bm,Cp,Bn,Cq,Bo,Cr,Bp,Cs,Bq,Ct,Br,Cu,Bs,Cv,Bt,Cw,Bu,Cx,Bv,Bool.or_true,Bool.or_false,Ag,w0,z1,t1,l1,Bool.not_false,Bool.not_true]
    exact⟨_,_,rfl,fin.1,fin.2,by rw[hE]<;>rfl⟩
  ·have t1:=EG ht
   have hE:pieceE 0 z t l=1:=by unfold pieceE formB;simp[hz,ht]
   simp -implicitDefEqProofs only[go_sem,Int.reduceBEq,BG,C3,BH,C6,BI,C8,BV,C_,BW,Da,BX,Db,BZ,Dc,B0,Dd,B6,De,B_,Df,Bk,Cn,Bl,Co,Bm,Cp,Bn,Cq,Bo,Cr,Bp,Cs,Bq,Ct,Br,Cu,Bs,Cv,Bt,Cw,Bu,Cx,Bv,Bool.or_true,Bool.or_false,Ag,w0,z1,t1,Bool.not_false,Bool.not_true]
   exact⟨_,_,rfl,fin.1,fin.2,by rw[hE]<;>rfl⟩
 ·have z1:(z==0)=false:=by simpa using hz
  have hE:pieceE 0 z t l=1:=by unfold pieceE formB;simp[hz]
  simp -implicitDefEqProofs only[go_sem,Int.reduceBEq,BG,C3,BH,C6,BI,C8,BV,C_,BW,Da,BX,Db,BZ,Dc,B0,Dd,B6,De,B_,Df,Bk,Cn,Bl,Co,Bm,Cp,Bn,Cq,Bo,Cr,Bp,Cs,Bq,Ct,Br,Cu,Bs,Cv,Bt,Cw,Bu,Cx,Bv,Bool.or_true,Bool.or_false,Ag,w0,z1,Bool.not_false,Bool.not_true]
  exact⟨_,_,rfl,fin.1,fin.2,by rw[hE]<;>rfl⟩
theorem Ase(n:Nat)(z:Int)(t:ByteArray)(l:Nat)(p:Option Addr)(c:Nat)(σ:FState)(hw:Wf σ):
  Gives ((env (n+4)).call 130 [.agg #[.int .i64 1,.int .i64 z,.string t,.slice p l c]] none σ) σ fun w _=>w=.int .i64 (pieceE 1 z t l:Nat):=by
 rw[Ak _ 130 _ _ rfl,Fa _ _ _ _ (by simp),Aj]
 unfold Ge
 have fin:Ext σ (σ.push (.cells [.int .i64 1,.int .i64 z,.string t,.slice p l c] TD) none)∧Wf (σ.push (.cells [.int .i64 1,.int .i64 z,.string t,.slice p l c] TD) none):=⟨(Ext.refl _).push _ _,hw.push _ _⟩
 have w0:(decide ((0:Int)≤1)&&decide ((1:Int)≤6))=true:=by decide
 by_cases ht:t.size=0
 ·have t1:(t.toList==(⟨#[]⟩:ByteArray).toList)=true:=by rw[Eg ht];exact beq_self_eq_true _
  by_cases hl:0<l
  ·have l1:decide (Int.ofNat l>0)=true:=by simp;omega
   have hE:pieceE 1 z t l=1:=by unfold pieceE formB;simp[ht,hl]
   simp -implicitDefEqProofs only[go_sem,Int.reduceBEq,BG,C3,BH,C6,BI,C8,BV,C_,BW,Da,BX,Db,BZ,Dc,B0,Dd,B6,De,B_,Df,Bk,Cn,Bl,Co,Bm,Cp,Bn,Cq,Bo,Cr,Bp,Cs,Bq,Ct,Br,Cu,Bs,Cv,Bt,Cw,Bu,Cx,Bv,Bool.or_true,Bool.or_false,Ag,w0,t1,l1,Bool.not_false,Bool.not_true]
   exact⟨_,_,rfl,fin.1,fin.2,by rw[hE]<;>rfl⟩
  ·have l1:decide (Int.ofNat l>0)=false:=by simp;omega
   by_cases hr:0≤z∧z≤1
   ·have r1:(decide ((0:Int)≤z)&&decide (z≤1))=true:=by simp;omega
    have hE:pieceE 1 z t l=0:=by unfold pieceE formB;simp[ht,hl,hr]
    simp -implicitDefEqProofs only[go_sem,Int.reduceBEq,BG,C3,BH,C6,BI,C8,BV,C_,BW,Da,BX,Db,BZ,Dc,B0,Dd,B6,De,B_,Df,Bk,Cn,Bl,Co,Bm,Cp,Bn,Cq,Bo,Cr,Bp,Cs,Bq,Ct,Br,Cu,Bs,Cv,Bt,Cw,Bu,Cx,Bv,Bool.or_true,Bool.or_false,Ag,w0,t1,l1,r1,Bool.not_false,Bool.not_true]
    exact⟨_,_,rfl,fin.1,fin.2,by rw[hE]<;>rfl⟩
   ·have r1:(decide ((0:Int)≤z)&&decide (z≤1))=false:=by simp;omega
    have hr1:¬ (0≤z∧z≤1):=hr
    have hE:pieceE 1 z t l=13:=by unfold pieceE formB;simp[ht,hl];omega
    simp -implicitDefEqProofs only[go_sem,Int.reduceBEq,BG,C3,BH,C6,BI,C8,BV,C_,BW,Da,BX,Db,BZ,Dc,B0,Dd,B6,De,B_,Df,Bk,Cn,Bl,Co,Bm,Cp,Bn,Cq,Bo,Cr,Bp,Cs,Bq,Ct,Br,Cu,Bs,Cv,Bt,Cw,Bu,Cx,Bv,Bool.or_true,Bool.or_false,Ag,w0,t1,l1,r1,Bool.not_false,Bool.not_true]
    exact⟨_,_,rfl,fin.1,fin.2,by rw[hE]<;>rfl⟩
 ·have t1:=EG ht
  have hE:pieceE 1 z t l=1:=by unfold pieceE formB;simp[ht]
  simp -implicitDefEqProofs only[go_sem,Int.reduceBEq,BG,C3,BH,C6,BI,C8,BV,C_,BW,Da,BX,Db,BZ,Dc,B0,Dd,B6,De,B_,Df,Bk,Cn,Bl,Co,Bm,Cp,Bn,Cq,Bo,Cr,Bp,Cs,Bq,Ct,Br,Cu,Bs,Cv,Bt,Cw,Bu,Cx,Bv,Bool.or_true,Bool.or_false,Ag,w0,t1,Bool.not_false,Bool.not_true]
  exact⟨_,_,rfl,fin.1,fin.2,by rw[hE]<;>rfl⟩
theorem Asf(n:Nat)(z:Int)(t:ByteArray)(l:Nat)(p:Option Addr)(c:Nat)(σ:FState)(hw:Wf σ):
  Gives ((env (n+4)).call 130 [.agg #[.int .i64 2,.int .i64 z,.string t,.slice p l c]] none σ) σ fun w _=>w=.int .i64 (pieceE 2 z t l:Nat):=by
 rw[Ak _ 130 _ _ rfl,Fa _ _ _ _ (by simp),Aj]
 unfold Ge
 have fin:Ext σ (σ.push (.cells [.int .i64 2,.int .i64 z,.string t,.slice p l c] TD) none)∧Wf (σ.push (.cells [.int .i64 2,.int .i64 z,.string t,.slice p l c] TD) none):=⟨(Ext.refl _).push _ _,hw.push _ _⟩
 have w0:(decide ((0:Int)≤2)&&decide ((2:Int)≤6))=true:=by decide
 by_cases ht:t.size=0
 ·have t1:(t.toList==(⟨#[]⟩:ByteArray).toList)=true:=by rw[Eg ht];exact beq_self_eq_true _
  by_cases hl:0<l
  ·have l1:decide (Int.ofNat l>0)=true:=by simp;omega
   have hE:pieceE 2 z t l=1:=by unfold pieceE formB;simp[ht,hl]
   simp -implicitDefEqProofs only[go_sem,Int.reduceBEq,BG,C3,BH,C6,BI,C8,BV,C_,BW,Da,BX,Db,BZ,Dc,B0,Dd,B6,De,B_,Df,Bk,Cn,Bl,Co,Bm,Cp,Bn,Cq,Bo,Cr,Bp,Cs,Bq,Ct,Br,Cu,Bs,Cv,Bt,Cw,Bu,Cx,Bv,Bool.or_true,Bool.or_false,Ag,w0,t1,l1,Bool.not_false,Bool.not_true]
   exact⟨_,_,rfl,fin.1,fin.2,by rw[hE]<;>rfl⟩
  ·have l1:decide (Int.ofNat l>0)=false:=by simp;omega
   by_cases hr : -999999999≤z∧z≤999999999
   ·have r1:(decide ((-999999999:Int)≤z)&&decide (z≤999999999))=true:=by simp;omega
    have hE:pieceE 2 z t l=0:=by unfold pieceE formB;simp[ht,hl,hr]
    simp -implicitDefEqProofs only[go_sem,Int.reduceBEq,BG,C3,BH,C6,BI,C8,BV,C_,BW,Da,BX,Db,BZ,Dc,B0,Dd,B6,De,B_,Df,Bk,Cn,Bl,Co,Bm,Cp,Bn,Cq,Bo,Cr,Bp,Cs,Bq,Ct,Br,Cu,Bs,Cv,Bt,Cw,Bu,Cx,Bv,Bool.or_true,Bool.or_false,Ag,w0,t1,l1,r1,Bool.not_false,Bool.not_true]
    exact⟨_,_,rfl,fin.1,fin.2,by rw[hE]<;>rfl⟩
   ·have r1:(decide ((-999999999:Int)≤z)&&decide (z≤999999999))=false:=by simp;omega
    have hr1:¬ (-999999999≤z∧z≤999999999):=hr
    have hE:pieceE 2 z t l=13:=by unfold pieceE formB;simp[ht,hl];omega
    simp -implicitDefEqProofs only[go_sem,Int.reduceBEq,BG,C3,BH,C6,BI,C8,BV,C_,BW,Da,BX,Db,BZ,Dc,B0,Dd,B6,De,B_,Df,Bk,Cn,Bl,Co,Bm,Cp,Bn,Cq,Bo,Cr,Bp,Cs,Bq,Ct,Br,Cu,Bs,Cv,Bt,Cw,Bu,Cx,Bv,Bool.or_true,Bool.or_false,Ag,w0,t1,l1,r1,Bool.not_false,Bool.not_true]
    exact⟨_,_,rfl,fin.1,fin.2,by rw[hE]<;>rfl⟩
 ·have t1:=EG ht
  have hE:pieceE 2 z t l=1:=by unfold pieceE formB;simp[ht]
  simp -implicitDefEqProofs only[go_sem,Int.reduceBEq,BG,C3,BH,C6,BI,C8,BV,C_,BW,Da,BX,Db,BZ,Dc,B0,Dd,B6,De,B_,Df,Bk,Cn,Bl,Co,Bm,Cp,Bn,Cq,Bo,Cr,Bp,Cs,Bq,Ct,Br,Cu,Bs,Cv,Bt,Cw,Bu,Cx,Bv,Bool.or_true,Bool.or_false,Ag,w0,t1,Bool.not_false,Bool.not_true]
  exact⟨_,_,rfl,fin.1,fin.2,by rw[hE]<;>rfl⟩
theorem Asg(n:Nat)(z:Int)(t:ByteArray)(l:Nat)(p:Option Addr)(c:Nat)(σ:FState)(hw:Wf σ):
  Gives ((env (n+4)).call 130 [.agg #[.int .i64 3,.int .i64 z,.string t,.slice p l c]] none σ) σ fun w _=>w=.int .i64 (pieceE 3 z t l:Nat):=by
 rw[Ak _ 130 _ _ rfl,Fa _ _ _ _ (by simp),Aj]
 unfold Ge
 have fin:Ext σ (σ.push (.cells [.int .i64 3,.int .i64 z,.string t,.slice p l c] TD) none)∧Wf (σ.push (.cells [.int .i64 3,.int .i64 z,.string t,.slice p l c] TD) none):=⟨(Ext.refl _).push _ _,hw.push _ _⟩
 have w0:(decide ((0:Int)≤3)&&decide ((3:Int)≤6))=true:=by decide
 by_cases hz:z=0
 ·have z1:(z==0)=true:=by simpa using hz
  by_cases hl:0<l
  ·have l1:decide (Int.ofNat l>0)=true:=by simp;omega
   have hE:pieceE 3 z t l=1:=by unfold pieceE formB;simp[hz,hl]
   simp -implicitDefEqProofs only[go_sem,Int.reduceBEq,BG,C3,BH,C6,BI,C8,BV,C_,BW,Da,BX,Db,BZ,Dc,B0,Dd,B6,De,B_,Df,Bk,Cn,Bl,Co,Bm,Cp,Bn,Cq,Bo,Cr,Bp,Cs,Bq,Ct,Br,Cu,Bs,Cv,Bt,Cw,Bu,Cx,Bv,Bool.or_true,Bool.or_false,Ag,w0,z1,l1,Bool.not_false,Bool.not_true]
   exact⟨_,_,rfl,fin.1,fin.2,by rw[hE]<;>rfl⟩
  ·have l1:decide (Int.ofNat l>0)=false:=by simp;omega
   cases hs:symB t with
   | true=>
    have hy:=fun σ=>Qm (n+1) t σ
    rw[hs] at hy
    have hE:pieceE 3 z t l=0:=by unfold pieceE formB;simp[hz,hl,hs]
    simp -implicitDefEqProofs only[go_sem,Int.reduceBEq,BG,C3,BH,C6,BI,C8,BV,C_,BW,Da,BX,Db,BZ,Dc,B0,Dd,B6,De,B_,Df,Bk,Cn,Bl,Co,Bm,Cp,Bn,Cq,Bo,Cr,Bp,Cs,Bq,Ct,Br,Cu,Bs,Cv,Bt,Cw,Bu,Cx,Bv,Bool.or_true,Bool.or_false,Ag,w0,z1,l1,hy,Bool.not_false,Bool.not_true]
    exact⟨_,_,rfl,fin.1,fin.2,by rw[hE]<;>rfl⟩
   | false=>
    have hy:=fun σ=>Qm (n+1) t σ
    rw[hs] at hy
    have hE:pieceE 3 z t l=2:=by unfold pieceE formB;simp[hz,hl,hs]
    simp -implicitDefEqProofs only[go_sem,Int.reduceBEq,BG,C3,BH,C6,BI,C8,BV,C_,BW,Da,BX,Db,BZ,Dc,B0,Dd,B6,De,B_,Df,Bk,Cn,Bl,Co,Bm,Cp,Bn,Cq,Bo,Cr,Bp,Cs,Bq,Ct,Br,Cu,Bs,Cv,Bt,Cw,Bu,Cx,Bv,Bool.or_true,Bool.or_false,Ag,w0,z1,l1,hy,Bool.not_false,Bool.not_true]
    exact⟨_,_,rfl,fin.1,fin.2,by rw[hE]<;>rfl⟩
 ·have z1:(z==0)=false:=by simpa using hz
  have hE:pieceE 3 z t l=1:=by unfold pieceE formB;simp[hz]
  simp -implicitDefEqProofs only[go_sem,Int.reduceBEq,BG,C3,BH,C6,BI,C8,BV,C_,BW,Da,BX,Db,BZ,Dc,B0,Dd,B6,De,B_,Df,Bk,Cn,Bl,Co,Bm,Cp,Bn,Cq,Bo,Cr,Bp,Cs,Bq,Ct,Br,Cu,Bs,Cv,Bt,Cw,Bu,Cx,Bv,Bool.or_true,Bool.or_false,Ag,w0,z1,Bool.not_false,Bool.not_true]
  exact⟨_,_,rfl,fin.1,fin.2,by rw[hE]<;>rfl⟩
theorem Ash(n:Nat)(z:Int)(t:ByteArray)(l:Nat)(p:Option Addr)(c:Nat)(σ:FState)(hw:Wf σ):
  Gives ((env (n+4)).call 130 [.agg #[.int .i64 4,.int .i64 z,.string t,.slice p l c]] none σ) σ fun w _=>w=.int .i64 (pieceE 4 z t l:Nat):=by
 rw[Ak _ 130 _ _ rfl,Fa _ _ _ _ (by simp),Aj]
 unfold Ge
 have fin:Ext σ (σ.push (.cells [.int .i64 4,.int .i64 z,.string t,.slice p l c] TD) none)∧Wf (σ.push (.cells [.int .i64 4,.int .i64 z,.string t,.slice p l c] TD) none):=⟨(Ext.refl _).push _ _,hw.push _ _⟩
 have w0:(decide ((0:Int)≤4)&&decide ((4:Int)≤6))=true:=by decide
 by_cases hz:z=0
 ·have z1:(z==0)=true:=by simpa using hz
  by_cases hl:0<l
  ·have l1:decide (Int.ofNat l>0)=true:=by simp;omega
   have hE:pieceE 4 z t l=1:=by unfold pieceE formB;simp[hz,hl]
   simp -implicitDefEqProofs only[go_sem,Int.reduceBEq,BG,C3,BH,C6,BI,C8,BV,C_,BW,Da,BX,Db,BZ,Dc,B0,Dd,B6,De,B_,Df,Bk,Cn,Bl,Co,Bm,Cp,Bn,Cq,Bo,Cr,Bp,Cs,Bq,Ct,Br,Cu,Bs,Cv,Bt,Cw,Bu,Cx,Bv,Bool.or_true,Bool.or_false,Ag,w0,z1,l1,Bool.not_false,Bool.not_true]
   exact⟨_,_,rfl,fin.1,fin.2,by rw[hE]<;>rfl⟩
  ·have l1:decide (Int.ofNat l>0)=false:=by simp;omega
   have hy:=fun σ=>Alh (n+2) t σ
   have hE:pieceE 4 z t l=textE t:=by unfold pieceE formB;simp[hz,hl]
   simp -implicitDefEqProofs only[go_sem,Int.reduceBEq,BG,C3,BH,C6,BI,C8,BV,C_,BW,Da,BX,Db,BZ,Dc,B0,Dd,B6,De,B_,Df,Bk,Cn,Bl,Co,Bm,Cp,Bn,Cq,Bo,Cr,Bp,Cs,Bq,Ct,Br,Cu,Bs,Cv,Bt,Cw,Bu,Cx,Bv,Bool.or_true,Bool.or_false,Ag,w0,z1,l1,hy,Bool.not_false,Bool.not_true]
   exact⟨_,_,rfl,fin.1,fin.2,by rw[hE]<;>rfl⟩
 ·have z1:(z==0)=false:=by simpa using hz
  have hE:pieceE 4 z t l=1:=by unfold pieceE formB;simp[hz]
  simp -implicitDefEqProofs only[go_sem,Int.reduceBEq,BG,C3,BH,C6,BI,C8,BV,C_,BW,Da,BX,Db,BZ,Dc,B0,Dd,B6,De,B_,Df,Bk,Cn,Bl,Co,Bm,Cp,Bn,Cq,Bo,Cr,Bp,Cs,Bq,Ct,Br,Cu,Bs,Cv,Bt,Cw,Bu,Cx,Bv,Bool.or_true,Bool.or_false,Ag,w0,z1,Bool.not_false,Bool.not_true]
  exact⟨_,_,rfl,fin.1,fin.2,by rw[hE]<;>rfl⟩
theorem Asi(n:Nat)(z:Int)(t:ByteArray)(l:Nat)(p:Option Addr)(c:Nat)(σ:FState)(hw:Wf σ):
  Gives ((env (n+4)).call 130 [.agg #[.int .i64 5,.int .i64 z,.string t,.slice p l c]] none σ) σ fun w _=>w=.int .i64 (pieceE 5 z t l:Nat):=by
 rw[Ak _ 130 _ _ rfl,Fa _ _ _ _ (by simp),Aj]
 unfold Ge
 have fin:Ext σ (σ.push (.cells [.int .i64 5,.int .i64 z,.string t,.slice p l c] TD) none)∧Wf (σ.push (.cells [.int .i64 5,.int .i64 z,.string t,.slice p l c] TD) none):=⟨(Ext.refl _).push _ _,hw.push _ _⟩
 have w0:(decide ((0:Int)≤5)&&decide ((5:Int)≤6))=true:=by decide
 by_cases hz:z=0
 ·have z1:(z==0)=true:=by simpa using hz
  by_cases ht:t.size=0
  ·have t1:(t.toList==(⟨#[]⟩:ByteArray).toList)=true:=by rw[Eg ht];exact beq_self_eq_true _
   by_cases hl:l=2
   ·have l1:(Int.ofNat l==2)=true:=by simp;omega
    have hE:pieceE 5 z t l=0:=by unfold pieceE formB;simp[hz,ht,hl]
    simp -implicitDefEqProofs only[go_sem,Int.reduceBEq,BG,C3,BH,C6,BI,C8,BV,C_,BW,Da,BX,Db,BZ,Dc,B0,Dd,B6,De,B_,Df,Bk,Cn,Bl,Co,Bm,Cp,Bn,Cq,Bo,Cr,Bp,Cs,Bq,Ct,Br,Cu,Bs,Cv,Bt,Cw,Bu,Cx,Bv,Bool.or_true,Bool.or_false,Ag,w0,z1,t1,l1,Bool.not_false,Bool.not_true]
    exact⟨_,_,rfl,fin.1,fin.2,by rw[hE]<;>rfl⟩
   ·have l1:(Int.ofNat l==2)=false:=by simp;omega
    have hE:pieceE 5 z t l=1:=by unfold pieceE formB;simp[hz,ht,hl]
    simp -implicitDefEqProofs only[go_sem,Int.reduceBEq,BG,C3,BH,C6,BI,C8,BV,C_,BW,Da,BX,Db,BZ,Dc,B0,Dd,B6,De,B_,Df,Bk,Cn,Bl,Co,Bm,Cp,Bn,Cq,Bo,Cr,Bp,Cs,Bq,Ct,Br,Cu,Bs,Cv,Bt,Cw,Bu,Cx,Bv,Bool.or_true,Bool.or_false,Ag,w0,z1,t1,l1,Bool.not_false,Bool.not_true]
    exact⟨_,_,rfl,fin.1,fin.2,by rw[hE]<;>rfl⟩
  ·have t1:=EG ht
   have hE:pieceE 5 z t l=1:=by unfold pieceE formB;simp[hz,ht]
   simp -implicitDefEqProofs only[go_sem,Int.reduceBEq,BG,C3,BH,C6,BI,C8,BV,C_,BW,Da,BX,Db,BZ,Dc,B0,Dd,B6,De,B_,Df,Bk,Cn,Bl,Co,Bm,Cp,Bn,Cq,Bo,Cr,Bp,Cs,Bq,Ct,Br,Cu,Bs,Cv,Bt,Cw,Bu,Cx,Bv,Bool.or_true,Bool.or_false,Ag,w0,z1,t1,Bool.not_false,Bool.not_true]
   exact⟨_,_,rfl,fin.1,fin.2,by rw[hE]<;>rfl⟩
 ·have z1:(z==0)=false:=by simpa using hz
  have hE:pieceE 5 z t l=1:=by unfold pieceE formB;simp[hz]
  simp -implicitDefEqProofs only[go_sem,Int.reduceBEq,BG,C3,BH,C6,BI,C8,BV,C_,BW,Da,BX,Db,BZ,Dc,B0,Dd,B6,De,B_,Df,Bk,Cn,Bl,Co,Bm,Cp,Bn,Cq,Bo,Cr,Bp,Cs,Bq,Ct,Br,Cu,Bs,Cv,Bt,Cw,Bu,Cx,Bv,Bool.or_true,Bool.or_false,Ag,w0,z1,Bool.not_false,Bool.not_true]
  exact⟨_,_,rfl,fin.1,fin.2,by rw[hE]<;>rfl⟩
theorem Asj(n:Nat)(z:Int)(t:ByteArray)(l:Nat)(p:Option Addr)(c:Nat)(σ:FState)(hw:Wf σ):
  Gives ((env (n+4)).call 130 [.agg #[.int .i64 6,.int .i64 z,.string t,.slice p l c]] none σ) σ fun w _=>w=.int .i64 (pieceE 6 z t l:Nat):=by
 rw[Ak _ 130 _ _ rfl,Fa _ _ _ _ (by simp),Aj]
 unfold Ge
 have fin:Ext σ (σ.push (.cells [.int .i64 6,.int .i64 z,.string t,.slice p l c] TD) none)∧Wf (σ.push (.cells [.int .i64 6,.int .i64 z,.string t,.slice p l c] TD) none):=⟨(Ext.refl _).push _ _,hw.push _ _⟩
 have w0:(decide ((0:Int)≤6)&&decide ((6:Int)≤6))=true:=by decide
 by_cases hz:z=0
 ·have z1:(z==0)=true:=by simpa using hz
  by_cases ht:t.size=0
  ·have t1:(t.toList==(⟨#[]⟩:ByteArray).toList)=true:=by rw[Eg ht];exact beq_self_eq_true _
   have hE:pieceE 6 z t l=0:=by unfold pieceE formB;simp[hz,ht]
   simp -implicitDefEqProofs only[go_sem,Int.reduceBEq,BG,C3,BH,C6,BI,C8,BV,C_,BW,Da,BX,Db,BZ,Dc,B0,Dd,B6,De,B_,Df,Bk,Cn,Bl,Co,Bm,Cp,Bn,Cq,Bo,Cr,Bp,Cs,Bq,Ct,Br,Cu,Bs,Cv,Bt,Cw,Bu,Cx,Bv,Bool.or_true,Bool.or_false,Ag,w0,z1,t1,Bool.not_false,Bool.not_true]
   exact⟨_,_,rfl,fin.1,fin.2,by rw[hE]<;>rfl⟩
  ·have t1:=EG ht
   have hE:pieceE 6 z t l=1:=by unfold pieceE formB;simp[hz,ht]
   simp -implicitDefEqProofs only[go_sem,Int.reduceBEq,BG,C3,BH,C6,BI,C8,BV,C_,BW,Da,BX,Db,BZ,Dc,B0,Dd,B6,De,B_,Df,Bk,Cn,Bl,Co,Bm,Cp,Bn,Cq,Bo,Cr,Bp,Cs,Bq,Ct,Br,Cu,Bs,Cv,Bt,Cw,Bu,Cx,Bv,Bool.or_true,Bool.or_false,Ag,w0,z1,t1,Bool.not_false,Bool.not_true]
   exact⟨_,_,rfl,fin.1,fin.2,by rw[hE]<;>rfl⟩
 ·have z1:(z==0)=false:=by simpa using hz
  have hE:pieceE 6 z t l=1:=by unfold pieceE formB;simp[hz]
  simp -implicitDefEqProofs only[go_sem,Int.reduceBEq,BG,C3,BH,C6,BI,C8,BV,C_,BW,Da,BX,Db,BZ,Dc,B0,Dd,B6,De,B_,Df,Bk,Cn,Bl,Co,Bm,Cp,Bn,Cq,Bo,Cr,Bp,Cs,Bq,Ct,Br,Cu,Bs,Cv,Bt,Cw,Bu,Cx,Bv,Bool.or_true,Bool.or_false,Ag,w0,z1,Bool.not_false,Bool.not_true]
  exact⟨_,_,rfl,fin.1,fin.2,by rw[hE]<;>rfl⟩
theorem VI(n:Nat)(k z:Int)(t:ByteArray)(l:Nat)(p:Option Addr)(c:Nat)(σ:FState)(hw:Wf σ):
  Gives ((env (n+4)).call 130 [.agg #[.int .i64 k,.int .i64 z,.string t,.slice p l c]] none σ) σ fun w _=>w=.int .i64 (pieceE k z t l:Nat):=by
 by_cases hk:0≤k∧k≤6
 ·have:k=0∨k=1∨k=2∨k=3∨k=4∨k=5∨k=6:=by omega
  rcases this with rfl|rfl|rfl|rfl|rfl|rfl|rfl
  ·exact Asd n z t l p c σ hw
  ·exact Ase n z t l p c σ hw
  ·exact Asf n z t l p c σ hw
  ·exact Asg n z t l p c σ hw
  ·exact Ash n z t l p c σ hw
  ·exact Asi n z t l p c σ hw
  ·exact Asj n z t l p c σ hw
 ·have hE:pieceE k z t l=4:=by unfold pieceE;rw[if_neg hk]
  have w0:(decide ((0:Int)≤k)&&decide (k≤6))=false:=by simp;omega
  rw[Ak _ 130 _ _ rfl,Fa _ _ _ _ (by simp),Aj]
  unfold Ge
  simp -implicitDefEqProofs only[go_sem,BG,C3,BH,C6,BI,C8,Bv,w0,Bool.not_false]
  exact⟨_,_,rfl,(Ext.refl _).push _ _,hw.push _ _,by rw[hE]<;>rfl⟩
end
section
open Go Go.Eng
attribute [local congr] Ab Ah Af Ad Ae
attribute [-go_sem] List.range_succ
structure RefOK (N:Nat) (d:D):Prop where
 deep:d.deep≤N
 whole:∀x∈d.pieces [],x.2.parts.length<1000∧WholeD x.2
 count:d.count≤2000
section
variable (R:Nat→Prop) (d:D) (lv:List Value) (h4:lv.length=4) (σ:FState) (hw:Wf σ) (hL:LaidR R σ (.agg lv.toArray) d)
include h4 hw hL
end
end
section
open Go Go.Eng
attribute [local congr] Ab Ah Af Ad Ae
attribute [-go_sem] List.range_succ
mutual
def firstE:D→Nat
 | .mk k z t ds=>if pieceE k z t ds.length=0 then firstEs ds else pieceE k z t ds.length
def firstEs:List D→Nat
 | []=>0
 | d::ds=>if firstE d=0 then firstEs ds else firstE d
end
mutual
theorem Dh:∀d:D,d.deep≤d.count
 | .mk k z t ds=>by
  rw[D.deep,D.count]
  have:=Hg ds
  omega
theorem Hg:∀ds:List D,D.deeps ds≤D.counts ds
 | []=>by simp[D.deeps]
 | d::ds=>by
  rw[D.deeps,D.counts]
  have:=Dh d
  have:=Hg ds
  omega
end
theorem GK:∀ {ds:List D} {d:D},d∈ds→d.count≤D.counts ds
 | d0::ds,d,h=>by
  rw[D.counts]
  rcases List.mem_cons.1 h with rfl|h
  ·omega
  ·have:=GK h
   omega
theorem Aln(m:Nat)(R:Nat→Prop)(ds:List D)(p:Option Addr)(c bx:Nat)(k z:Int)(t:ByteArray)(hds:ds.length<1000000)(hO:∀(i:Nat) (d:D),ds[i]? = some d→∀v σ',Wf σ'→LaidR R σ' v d→Gives ((env m).call 81 [v] none σ') σ' fun r _=>r=.int .i64 (firstE d:Nat)):
  ∀(j fuel i:Nat) (f g:Nat→Value) (σ:FState),ds.length-i=j→j<fuel→i≤ds.length→Wf σ→LaidRE R σ p 0 ds→σ.cells bx=some [.int .i64 k,.int .i64 z,.string t,.slice p ds.length c]→f 1=.pointer (some ⟨bx,0,none⟩)→f 4=.int .i64 (.ofNat i)→
   ∃f' g' σ',Ext σ σ'∧Wf σ'∧((firstEs (ds.drop i)=0∧floop [] (M5 (env m) none 81) fuel (Sl 6 27 f g []) none σ=.done (.exit 0) (Sl 6 27 f' g' []) none σ')∨
    (firstEs (ds.drop i)≠0∧floop [] (M5 (env m) none 81) fuel (Sl 6 27 f g []) none σ=.done .ret (Sl 6 27 f' g' []) none σ'∧f' 2=.int .i64 (firstEs (ds.drop i):Nat))):=by
 intro j
 induction j with
 | zero=>
  intro fuel i f g σ hj hf hi hw hE hc f1 f4
  obtain⟨fuel,rfl⟩:∃q,fuel=q+1:=⟨fuel-1,by omega⟩
  obtain rfl:i=ds.length:=by omega
  have d0:decide (Int.ofNat ds.length<Int.ofNat ds.length)=false:=by simp
  rw[Ar,List.drop_length]
  unfold M5
  simp -implicitDefEqProofs only[go_sem,NT,NS,f1,f4,hc,d0]
  exact⟨_,_,_,Ext.refl _,hw,.inl ⟨rfl,rfl⟩⟩
 | succ j ih=>
  intro fuel i f g σ hj hf hi hw hE hc f1 f4
  obtain⟨fuel,rfl⟩:∃q,fuel=q+1:=⟨fuel-1,by omega⟩
  have hlt:i<ds.length:=by omega
  have d0:decide (Int.ofNat i<Int.ofNat ds.length)=true:=by simp;omega
  have hd:ds[i]? = some ds[i]:=List.getElem?_eq_getElem hlt
  obtain⟨b,off,cs,rfl,hRb,hcs,hle,hL⟩:=LaidRE.get hE hd
  rw[Nat.zero_add] at hle hL
  obtain⟨_,σ3,e3,x3,hw3,rfl⟩:=hO i ds[i] hd _ σ hw hL
  have a1:=GH i (by omega)
  rw[List.drop_eq_getElem_cons hlt,firstEs]
  by_cases he:firstE ds[i]=0
  ·rw[if_pos he]
   have z0:(((firstE ds[i]:Nat):Int)==0)=true:=by rw[he];rfl
   have ih':=fun f g h1 h4=>ih fuel (i+1) f g σ3 (by omega) (by omega) (by omega) hw3 (hE.keep fun b cs hb hc=>⟨(x3.cells (hw.cells hc)).trans hc,hb⟩) ((x3.cells (hw.cells hc)).trans hc) h1 h4
   unfold M5 at ih'
   rw[Ar]
   unfold M5
   simp -implicitDefEqProofs only[go_sem,NT,NS,Ak0,Zc,Wk,TB,Wl,TC,f1,f4,hc,d0,hlt,hcs,hle,e3,z0,a1,Ag]
   generalize hff:upd _ 4 _=f2
   generalize hgg:upd _ 17 _=g2
   obtain⟨f3,g3,σ4,x4,hw4,h⟩:=ih' f2 g2 (by rw[←hff];simp -implicitDefEqProofs only[go_sem,reduceCtorEq,f1]) (by rw[←hff];simp -implicitDefEqProofs only[go_sem,reduceCtorEq])
   exact⟨f3,g3,σ4,x3.trans x4,hw4,h⟩
  ·rw[if_neg he]
   have z0:(((firstE ds[i]:Nat):Int)==0)=false:=by simp;omega
   rw[Ar]
   unfold M5
   simp -implicitDefEqProofs only[go_sem,NT,NS,Wk,TB,Wl,TC,Ak1,Zd,f1,f4,hc,d0,hlt,hcs,hle,e3,z0,a1,Ag]
   exact⟨_,_,_,x3,hw3,.inr ⟨he,rfl,by simp -implicitDefEqProofs only[go_sem,reduceCtorEq]⟩⟩
theorem AdK(n:Nat)(R:Nat→Prop):∀(N:Nat) (d:D) (v:Value) (σ:FState),d.deep≤N→d.count≤100000→Wf σ→LaidR R σ v d→
  Gives ((env (n+4+N)).call 81 [v] none σ) σ fun r _=>r=.int .i64 (firstE d:Nat):=by
 intro N
 induction N with
 | zero=>
  intro d v σ hN
  obtain⟨k,z,t,ds⟩:=d
  rw[D.deep] at hN
  omega
 | succ N ih=>
  intro d v σ hN hcn hw hL
  obtain⟨k,z,t,ds⟩:=d
  rw[D.count] at hcn
  have hlen:=EU ds
  obtain⟨p,c,rfl,hE⟩:=hL
  obtain⟨M,hM⟩:∃M,n+4+N=M:=⟨_,rfl⟩
  rw[hM] at ih
  rw[show n+4+(N+1)=M+1 by omega,Ak _ 81 _ _ rfl,Ans _ _ _ _ (by simp),Aj]
  unfold AlK
  have x1:Ext σ (σ.push (.cells [.int .i64 k,.int .i64 z,.string t,.slice p ds.length c] TD) none):=(Ext.refl _).push _ _
  have hw1:=hw.push (.cells [.int .i64 k,.int .i64 z,.string t,.slice p ds.length c] TD) none
  have c1:(σ.push (.cells [.int .i64 k,.int .i64 z,.string t,.slice p ds.length c] TD) none).cells σ.next=some [.int .i64 k,.int .i64 z,.string t,.slice p ds.length c]:=by rw[Ac,if_pos rfl];rfl
  obtain⟨_,σ2,e2,x2,hw2,rfl⟩:=VI (n+N) k z t ds.length p c _ hw1
  rw[show n+N+4=M by omega] at e2
  have c2:=(x2.cells (hw1.cells c1)).trans c1
  have hkeep:keepOf nls 81=[]:=by kernel_rfl
  rw[firstE]
  by_cases hp:pieceE k z t ds.length=0
  ·rw[if_pos hp]
   have z0:(((pieceE k z t ds.length:Nat):Int)==0)=true:=by rw[hp];rfl
   have lp:=fun fuel f g hf h1 h4=>Aln M R ds p c σ.next k z t (by omega) (fun i d hdi v σ' hw' hl=>ih d v σ' (by rw[D.deep] at hN;have:=Eo (List.mem_of_getElem? hdi);omega) (by have:=GK (List.mem_of_getElem? hdi);omega) hw' hl)
    ds.length fuel 0 f g σ2 (by omega) hf (by omega) hw2 (hE.keep fun b cs hb hc=>⟨((x1.trans x2).cells (hw.cells hc)).trans hc,hb⟩) c2 h1 h4
   simp -implicitDefEqProofs only[go_sem,Wh,Tx,Wi,Tz,Wj,TA,AkZ,Zb,e2,z0,Ag,hkeep]
   generalize hbf:bigFuel=fuel
   generalize hff:upd _ 4 _=f1
   generalize hgg:upd _ 9 _=g1
   obtain⟨f',g',σ3,x3,hw3,h⟩:=lp fuel f1 g1 (by rw[←hbf];show ds.length<1000000000000;omega) (by rw[←hff];simp -implicitDefEqProofs only[go_sem,reduceCtorEq]) (by rw[←hff];simp -implicitDefEqProofs only[go_sem,reduceCtorEq]<;>rfl)
   rw[List.drop_zero] at h
   rcases h with⟨h1,h2⟩|⟨h1,h2,h3⟩
   ·rw[h2]
    simp -implicitDefEqProofs only[go_sem,AdJ,Ty]
    exact⟨_,_,rfl,(x1.trans x2).trans x3,hw3,by rw[h1];rfl⟩
   ·rw[h2]
    simp -implicitDefEqProofs only[go_sem,h3]
    exact⟨_,_,rfl,(x1.trans x2).trans x3,hw3,rfl⟩
  ·rw[if_neg hp]
   have z0:(((pieceE k z t ds.length:Nat):Int)==0)=false:=by simp;omega
   simp -implicitDefEqProofs only[go_sem,Wh,Tx,Wi,Tz,Wj,TA,AkY,Za,e2,z0,Ag,hkeep]
   exact⟨_,_,rfl,x1.trans x2,hw2,rfl⟩
section
variable (R:Nat→Prop) (d:D) (lv:List Value) (h4:lv.length=4) (σ:FState) (hw:Wf σ) (hL:LaidR R σ (.agg lv.toArray) d)
include h4 hw hL
theorem AbT(M n N:Nat)(hM:M=n+N)(h1:d.deep≤N)(h2:d.count≤2000):Gives ((env (M+1)).call 82 [.agg lv.toArray] none σ) σ fun r _=>r=.int .i64 0:=by
 have ht:lv.take 4=lv:=List.take_of_length_le (by omega)
 rw[Ak _ 82 _ _ rfl,Aaf _ _ _ _ (by simp),Aj]
 unfold Aa8
 have x1:Ext σ (σ.push (.cells lv TD) none):=(Ext.refl _).push _ _
 have hw1:=hw.push (.cells lv TD) none
 have c1:(σ.push (.cells lv TD) none).cells σ.next=some lv:=by rw[Ac,if_pos rfl];rfl
 obtain⟨_,σ2,e2,x2,hw2,rfl⟩:=Q0 n R N d h1 (.agg lv.toArray) 2000 _ hw1 (hL.keep fun b cs hb hc=>⟨(x1.cells (hw.cells hc)).trans hc,hb⟩) h2 (by omega)
 rw[←hM] at e2
 have d0:decide (Int.ofNat d.count>2000)=false:=by
  simp only[Int.ofNat_eq_natCast,decide_eq_false_iff_not]
  omega
 have e2':(env M).call 52 [.agg lv.toArray,.int .i64 2000] none (σ.push (.cells lv TD) none)=_:=e2
 simp -implicitDefEqProofs only[go_sem,NV,NU,NX,NW,Wm,TE,h4,ht,e2',d0,Ag,Nat.le_refl]
 exact⟨_,_,rfl,x1.trans x2,hw2,rfl⟩
theorem Hl(M n N:Nat)(hM:M=n+4+N)(h1:d.deep≤N)(h2:d.count≤2000):Gives ((env (M+2)).call 19 [.agg lv.toArray] none σ) σ fun r _=>r=.int .i64 (firstE d:Nat):=by
 have ht:lv.take 4=lv:=List.take_of_length_le (by omega)
 rw[Ak _ 19 _ _ rfl,Am9 _ _ _ _ (by simp),Aj]
 unfold Als
 have x1:Ext σ (σ.push (.cells lv TD) none):=(Ext.refl _).push _ _
 have hw1:=hw.push (.cells lv TD) none
 have c1:(σ.push (.cells lv TD) none).cells σ.next=some lv:=by rw[Ac,if_pos rfl];rfl
 obtain⟨_,σ2,e2,x2,hw2,rfl⟩:=AdK (n+1) R N d (.agg lv.toArray) _ h1 (by omega) hw1 (hL.keep fun b cs hb hc=>⟨(x1.cells (hw.cells hc)).trans hc,hb⟩)
 rw[show n+1+4+N=M+1 by omega] at e2
 have c2:=(x2.cells (hw1.cells c1)).trans c1
 by_cases he:firstE d=0
 ·have z0:(((firstE d:Nat):Int)==0)=true:=by rw[he];rfl
  obtain⟨_,σ3,e3,x3,hw3,rfl⟩:=AbT R d lv h4 σ2 hw2 (hL.keep fun b cs hb hc=>⟨((x1.trans x2).cells (hw.cells hc)).trans hc,hb⟩) M (n+4) N (by omega) h1 h2
  simp -implicitDefEqProofs only[go_sem,VM,SL,VN,SM,VO,SN,Ai7,Yg,h4,ht,c2,e2,e3,z0,Ag,Nat.le_refl]
  exact⟨_,_,rfl,(x1.trans x2).trans x3,hw3,by rw[he];rfl⟩
 ·have z0:(((firstE d:Nat):Int)==0)=false:=by simp;omega
  simp -implicitDefEqProofs only[go_sem,VM,SL,VN,SM,VO,SN,Ai6,Yf,h4,ht,e2,z0,Ag,Nat.le_refl]
  exact⟨_,_,rfl,x1.trans x2,hw2,rfl⟩
end
end
section
open Go Go.Eng
attribute [local congr] Ab Ah Af Ad Ae
attribute [-go_sem] List.range_succ
mutual
def wordB:D→Bool
 | .mk _ _ t ds=>decide (100<t.size)||wordBs ds
def wordBs:List D→Bool
 | []=>false
 | d::ds=>wordB d||wordBs ds
end
theorem AoX(m:Nat)(R:Nat→Prop)(ds:List D)(p:Option Addr)(c bx:Nat)(k z:Int)(t:ByteArray)(hds:ds.length<1000000)(hO:∀(i:Nat) (d:D),ds[i]? = some d→∀v σ',Wf σ'→LaidR R σ' v d→Gives ((env m).call 53 [v] none σ') σ' fun r _=>r=.bool (wordB d)):
  ∀(j fuel i:Nat) (f g:Nat→Value) (σ:FState),ds.length-i=j→j<fuel→i≤ds.length→Wf σ→LaidRE R σ p 0 ds→σ.cells bx=some [.int .i64 k,.int .i64 z,.string t,.slice p ds.length c]→f 1=.pointer (some ⟨bx,0,none⟩)→f 3=.int .i64 (.ofNat i)→
   ∃f' g' σ',Ext σ σ'∧Wf σ'∧((wordBs (ds.drop i)=false∧floop [] (K9 (env m) none 53) fuel (Sl 4 21 f g []) none σ=.done (.exit 0) (Sl 4 21 f' g' []) none σ')∨
    (wordBs (ds.drop i)=true∧floop [] (K9 (env m) none 53) fuel (Sl 4 21 f g []) none σ=.done .ret (Sl 4 21 f' g' []) none σ'∧f' 2=.bool true)):=by
 intro j
 induction j with
 | zero=>
  intro fuel i f g σ hj hf hi hw hE hc f1 f3
  obtain⟨fuel,rfl⟩:∃q,fuel=q+1:=⟨fuel-1,by omega⟩
  obtain rfl:i=ds.length:=by omega
  have d0:decide (Int.ofNat ds.length<Int.ofNat ds.length)=false:=by simp
  rw[Ar,List.drop_length]
  unfold K9
  simp -implicitDefEqProofs only[go_sem,NM,NL,f1,f3,hc,d0]
  exact⟨_,_,_,Ext.refl _,hw,.inl ⟨rfl,rfl⟩⟩
 | succ j ih=>
  intro fuel i f g σ hj hf hi hw hE hc f1 f3
  obtain⟨fuel,rfl⟩:∃q,fuel=q+1:=⟨fuel-1,by omega⟩
  have hlt:i<ds.length:=by omega
  have d0:decide (Int.ofNat i<Int.ofNat ds.length)=true:=by simp;omega
  have hd:ds[i]? = some ds[i]:=List.getElem?_eq_getElem hlt
  obtain⟨b,off,cs,rfl,hRb,hcs,hle,hL⟩:=LaidRE.get hE hd
  rw[Nat.zero_add] at hle hL
  obtain⟨_,σ3,e3,x3,hw3,rfl⟩:=hO i ds[i] hd _ σ hw hL
  have a1:=GH i (by omega)
  rw[List.drop_eq_getElem_cons hlt,wordBs]
  cases he:wordB ds[i] with
  | false=>
   rw[he] at e3
   rw[Bool.false_or]
   have ih':=fun f g h1 h4=>ih fuel (i+1) f g σ3 (by omega) (by omega) (by omega) hw3 (hE.keep fun b cs hb hc=>⟨(x3.cells (hw.cells hc)).trans hc,hb⟩) ((x3.cells (hw.cells hc)).trans hc) h1 h4
   unfold K9 at ih'
   rw[Ar]
   unfold K9
   simp -implicitDefEqProofs only[go_sem,NM,NL,Akn,YI,V7,Tm,f1,f3,hc,d0,hlt,hcs,hle,e3,a1,Ag]
   generalize hff:upd _ 3 _=f2
   generalize hgg:upd _ 14 _=g2
   obtain⟨f3',g3,σ4,x4,hw4,h⟩:=ih' f2 g2 (by rw[←hff];simp -implicitDefEqProofs only[go_sem,reduceCtorEq,f1]) (by rw[←hff];simp -implicitDefEqProofs only[go_sem,reduceCtorEq])
   exact⟨f3',g3,σ4,x3.trans x4,hw4,h⟩
  | true=>
   rw[he] at e3
   rw[Bool.true_or]
   have hl:∃f' g',floop [] (K9 (env m) none 53) (fuel+1) (Sl 4 21 f g []) none σ=.done .ret (Sl 4 21 f' g' []) none σ3∧f' 2=.bool true:=by
    rw[Ar]
    unfold K9
    simp -implicitDefEqProofs only[go_sem,NM,NL,V7,Tm,Ako,YJ,f1,f3,hc,d0,hlt,hcs,hle,e3,a1,Ag]
    exact⟨_,_,rfl,by simp -implicitDefEqProofs only[go_sem,reduceCtorEq]⟩
   obtain⟨f',g',h1,h2⟩:=hl
   exact⟨f',g',_,x3,hw3,.inr ⟨rfl,h1,h2⟩⟩
theorem Al5(n:Nat)(R:Nat→Prop):∀(N:Nat) (d:D) (v:Value) (σ:FState),d.deep≤N→d.count≤100000→Wf σ→LaidR R σ v d→
  Gives ((env (n+N)).call 53 [v] none σ) σ fun r _=>r=.bool (wordB d):=by
 intro N
 induction N with
 | zero=>
  intro d v σ hN
  obtain⟨k,z,t,ds⟩:=d
  rw[D.deep] at hN
  omega
 | succ N ih=>
  intro d v σ hN hcn hw hL
  obtain⟨k,z,t,ds⟩:=d
  rw[D.count] at hcn
  have hlen:=EU ds
  obtain⟨p,c,rfl,hE⟩:=hL
  obtain⟨M,hM⟩:∃M,n+N=M:=⟨_,rfl⟩
  rw[hM] at ih
  rw[show n+(N+1)=M+1 by omega,Ak _ 53 _ _ rfl,Ani _ _ _ _ (by simp),Aj]
  unfold AlA
  have x1:Ext σ (σ.push (.cells [.int .i64 k,.int .i64 z,.string t,.slice p ds.length c] TD) none):=(Ext.refl _).push _ _
  have hw1:=hw.push (.cells [.int .i64 k,.int .i64 z,.string t,.slice p ds.length c] TD) none
  have c1:(σ.push (.cells [.int .i64 k,.int .i64 z,.string t,.slice p ds.length c] TD) none).cells σ.next=some [.int .i64 k,.int .i64 z,.string t,.slice p ds.length c]:=by rw[Ac,if_pos rfl];rfl
  have hkeep:keepOf nls 53=[]:=by kernel_rfl
  rw[wordB]
  by_cases hp:100<t.size
  ·have d0:decide (Int.ofNat t.size>100)=true:=by simp;omega
   have d1:decide (100<t.size)=true:=decide_eq_true hp
   simp -implicitDefEqProofs only[go_sem,V4,Tk,V6,Tl,Akl,YG,d0,d1,Bool.true_or]
   exact⟨_,_,rfl,x1,hw1,rfl⟩
  ·have d0:decide (Int.ofNat t.size>100)=false:=by simp;omega
   have d1:decide (100<t.size)=false:=decide_eq_false hp
   have lp:=fun fuel f g hf h1 h4=>AoX M R ds p c σ.next k z t (by omega) (fun i d hdi v σ' hw' hl=>ih d v σ' (by rw[D.deep] at hN;have:=Eo (List.mem_of_getElem? hdi);omega) (by have:=GK (List.mem_of_getElem? hdi);omega) hw' hl)
    ds.length fuel 0 f g _ (by omega) hf (by omega) hw1 (hE.keep fun b cs hb hc=>⟨(x1.cells (hw.cells hc)).trans hc,hb⟩) c1 h1 h4
   simp -implicitDefEqProofs only[go_sem,V4,Tk,V6,Tl,Akm,YH,d0,d1,Bool.false_or,Ag,hkeep]
   generalize hbf:bigFuel=fuel
   generalize hff:upd _ 3 _=f1
   generalize hgg:upd _ 7 _=g1
   obtain⟨f',g',σ3,x3,hw3,h⟩:=lp fuel f1 g1 (by rw[←hbf];show ds.length<1000000000000;omega) (by rw[←hff];simp -implicitDefEqProofs only[go_sem,reduceCtorEq]) (by rw[←hff];simp -implicitDefEqProofs only[go_sem,reduceCtorEq]<;>rfl)
   rw[List.drop_zero] at h
   rcases h with⟨h1,h2⟩|⟨h1,h2,h3⟩
   ·rw[h2,h1]
    simp -implicitDefEqProofs only[go_sem,Akp,YK]
    exact⟨_,_,rfl,x1.trans x3,hw3,rfl⟩
   ·rw[h2,h1]
    simp -implicitDefEqProofs only[go_sem,h3]
    exact⟨_,_,rfl,x1.trans x3,hw3,rfl⟩
def vastB(d:D):Bool:=decide (150<d.count)||wordB d
theorem AoV(n:Nat)(R:Nat→Prop)(d:D)(lv:List Value)(h4:lv.length=4)(σ:FState)(hw:Wf σ)(hL:LaidR R σ (.agg lv.toArray) d):
  Gives ((env (n+152)).call 9 [.agg lv.toArray] none σ) σ fun r _=>r=.bool (vastB d):=by
 have ht:lv.take 4=lv:=List.take_of_length_le (by omega)
 rw[show n+152=(n+151)+1 by omega,Ak _ 9 _ _ rfl,ArX _ _ _ _ (by simp),Aj]
 unfold AsR
 have x1:Ext σ (σ.push (.cells lv TD) none):=(Ext.refl _).push _ _
 have hw1:=hw.push (.cells lv TD) none
 have c1:(σ.push (.cells lv TD) none).cells σ.next=some lv:=by rw[Ac,if_pos rfl];rfl
 obtain⟨_,σ2,e2,x2,hw2,rfl⟩:=Afd n R 150 150 d (Nat.le_refl _) (by omega) (.agg lv.toArray) _ hw1 (hL.keep fun b cs hb hc=>⟨(x1.cells (hw.cells hc)).trans hc,hb⟩)
 rw[show n+150+1=n+151 by omega] at e2
 have e2':(env (n+151)).call 52 [.agg lv.toArray,.int .i64 150] none (σ.push (.cells lv TD) none)=_:=e2
 have c2:=(x2.cells (hw1.cells c1)).trans c1
 generalize hM:n+151=M at *
 unfold vastB
 by_cases hv:150<d.count
 ·have d0:decide (Int.ofNat (min d.count (150+1))>150)=true:=by simp only[Int.ofNat_eq_natCast,decide_eq_true_eq];omega
  have d1:decide (150<d.count)=true:=decide_eq_true hv
  generalize min d.count (150+1)=q at *
  simp -implicitDefEqProofs only[go_sem,Aa4,Aa3,Aa6,Aa5,h4,ht,e2',d0,d1,Bool.true_or,Nat.le_refl]
  exact⟨_,_,rfl,x1.trans x2,hw2,rfl⟩
 ·have d0:decide (Int.ofNat (min d.count (150+1))>150)=false:=by simp only[Int.ofNat_eq_natCast,decide_eq_false_iff_not];omega
  have d1:decide (150<d.count)=false:=decide_eq_false hv
  have hdc:=Dh d
  obtain⟨_,σ3,e3,x3,hw3,rfl⟩:=Al5 (n+1) R 150 d (.agg lv.toArray) σ2 (by omega) (by omega) hw2 (hL.keep fun b cs hb hc=>⟨((x1.trans x2).cells (hw.cells hc)).trans hc,hb⟩)
  rw[show n+1+150=M by omega] at e3
  generalize min d.count (150+1)=q at *
  simp -implicitDefEqProofs only[go_sem,Aa4,Aa3,Aa6,Aa5,h4,ht,e2',c2,e3,d0,d1,Bool.false_or,Nat.le_refl]
  exact⟨_,_,rfl,(x1.trans x2).trans x3,hw3,rfl⟩
end
section
open Go Go.Eng
attribute [local congr] Ab Ah Af Ad Ae
attribute [-go_sem] List.range_succ
theorem Ad1:(List.range 123).filter symC=[33,42,43,45,47,48,49,50,51,52,53,54,55,56,57,60,61,62,63,97,98,99,100,101,102,103,104,105,106,107,108,109,110,111,112,113,114,115,116,117,118,119,120,121,122]:=by decide
theorem AlW{c:Nat}(h:symC c=true):c∈(List.range 123).filter symC:=by
 rw[List.mem_filter,List.mem_range]
 refine⟨?_,h⟩
 unfold symC digC signs at h
 simp at h
 omega
def clsN(c:Nat):Int:=if digC c=true then 2 else if 97≤c∧c≤122 then 1 else 3
def symNums:List Nat:=[33,42,43,45,47,48,49,50,51,52,53,54,55,56,57,60,61,62,63,97,98,99,100,101,102,103,104,105,106,107,108,109,110,111,112,113,114,115,116,117,118,119,120,121,122]
theorem W_(n c:Nat)(hm:c∈symNums)(σ:FState):(env (n+20)).call 188 [.int .i32 (c:Int)] none σ=.ret (.int .i64 (clsN c)) none σ:=by
 simp only[symNums,List.mem_cons,List.not_mem_nil,or_false] at hm
 rcases hm with rfl|rfl|rfl|rfl|rfl|rfl|rfl|rfl|rfl|rfl|rfl|rfl|rfl|rfl|rfl|rfl|rfl|rfl|rfl|rfl|rfl|rfl|rfl|rfl|rfl|rfl|rfl|rfl|rfl|rfl|rfl|rfl|rfl|rfl|rfl|rfl|rfl|rfl|rfl|rfl|rfl|rfl|rfl|rfl|rfl<;>kernel_rfl
theorem Abq(c:Nat)(hm:c∈symNums)(σ:FState):fun1 Tryz.prog (convert 5 21) (.int .u8 (c:Int)) σ=.val (.int .i32 (c:Int)) σ:=by
 simp only[symNums,List.mem_cons,List.not_mem_nil,or_false] at hm
 rcases hm with rfl|rfl|rfl|rfl|rfl|rfl|rfl|rfl|rfl|rfl|rfl|rfl|rfl|rfl|rfl|rfl|rfl|rfl|rfl|rfl|rfl|rfl|rfl|rfl|rfl|rfl|rfl|rfl|rfl|rfl|rfl|rfl|rfl|rfl|rfl|rfl|rfl|rfl|rfl|rfl|rfl|rfl|rfl|rfl|rfl<;>kernel_rfl
theorem Qs{c:Nat}(h:symC c=true):c∈symNums:=by
 have hm:=AlW h
 rw[Ad1] at hm
 exact hm
theorem UA(n c:Nat)(h:symC c=true)(σ:FState):(env (n+20)).call 188 [.int .i32 (c:Int)] none σ=.ret (.int .i64 (clsN c)) none σ:=W_ n c (Qs h) σ
theorem Am3(c:Nat)(h:symC c=true)(σ:FState):fun1 Tryz.prog (convert 5 21) (.int .u8 (c:Int)) σ=.val (.int .i32 (c:Int)) σ:=Abq c (Qs h) σ
end
section
open Go Go.Eng
attribute [local congr] Ab Ah Af Ad Ae
attribute [-go_sem] List.range_succ
theorem Aal(n i c:Nat)(t:ByteArray)(f g:Nat→Value)(σ:FState)(hi:i<t.size)(hsz:i<1000000)(hc:byteAt t i=c)(hs:symC c=true)(hd:digC c=true→1<i∨(i=1∧byteAt t 0≠45))(f0:f 0=.string t)(g13:g 13=.int .i64 (.ofNat t.size))(g14:g 14=.int .i64 (.ofNat i)):
  ∃f' g',f' 0=.string t∧g' 13=.int .i64 (.ofNat t.size)∧Fe (env (n+20)) none 170 (Sl 4 38 f g []) none σ=.done .normal (Sl 4 38 f' g' []) none σ∧g' 14=.int .i64 (.ofNat (i+1)):=by
 have d0:decide (Int.ofNat i<Int.ofNat t.size)=true:=by simp;omega
 have hb:=EV t i hi σ
 rw[hc] at hb
 have a1:=GH i (by omega)
 have hcl:=UA n c hs σ
 have hcv:=Am3 c hs σ
 unfold Fe
 cases hdd:digC c with
 | false=>
  have e2:(clsN c==2)=false:=by unfold clsN;rw[hdd];simp;split<;>decide
  have e0:(clsN c==0)=false:=by unfold clsN;rw[hdd];simp;split<;>decide
  generalize clsN c=q at *
  simp -implicitDefEqProofs only[go_sem,EL,E7,FC,FZ,FD,F7,FE,F8,FF,F9,FG,F_,Ji,HG,f0,g13,g14,d0,hb,hcv,hcl,a1,e2,e0,Ag]
  refine⟨_,_,?_,?_,rfl,?_⟩
  ·simp -implicitDefEqProofs only[go_sem,reduceCtorEq,f0]
  ·simp -implicitDefEqProofs only[go_sem,reduceCtorEq,g13]
  ·simp -implicitDefEqProofs only[go_sem,reduceCtorEq]
 | true=>
  have hq:clsN c=2:=by unfold clsN;rw[hdd];rfl
  rw[hq] at hcl
  have e2:((2:Int)==2)=true:=rfl
  by_cases h1:1<i
  ·have d1:decide (Int.ofNat i>1)=true:=by simp;omega
   simp -implicitDefEqProofs only[go_sem,EL,E7,FC,FZ,FD,F7,FE,F8,FF,F9,FG,F_,Ji,HG,f0,g13,g14,d0,hb,hcv,hcl,a1,e2,d1,Ag]
   refine⟨_,_,?_,?_,rfl,?_⟩
   ·simp -implicitDefEqProofs only[go_sem,reduceCtorEq,f0]
   ·simp -implicitDefEqProofs only[go_sem,reduceCtorEq,g13]
   ·simp -implicitDefEqProofs only[go_sem,reduceCtorEq]
  ·obtain⟨h2,h3⟩:i=1∧byteAt t 0≠45:=by
    rcases hd hdd with h|h
    ·omega
    ·exact h
   have d1:decide (Int.ofNat i>1)=false:=by simp;omega
   have d2:(Int.ofNat i==1)=true:=by subst h2;rfl
   have b0:=Kn t (by omega) σ
   have e45:((byteAt t 0:Int)==45)=false:=by simp;omega
   have neq_u8:∀(x y:Operand) (a b:Int) (σ:FState),i_neq Tryz.prog 5 x y (.int .u8 a) (.int .u8 b) σ=.val (.bool (!(a==b))) σ:=fun x y a b σ=>by kernel_rfl
   simp -implicitDefEqProofs only[go_sem,EL,E7,FC,FZ,FD,F7,FE,F8,FF,F9,FG,F_,Ji,HG,f0,g13,g14,d0,hb,hcv,hcl,a1,e2,d1,d2,b0,e45,neq_u8,Bool.not_false,Ag]
   refine⟨_,_,?_,?_,rfl,?_⟩
   ·simp -implicitDefEqProofs only[go_sem,reduceCtorEq,f0]
   ·simp -implicitDefEqProofs only[go_sem,reduceCtorEq,g13]
   ·simp -implicitDefEqProofs only[go_sem,reduceCtorEq]
theorem AnD(n:Nat)(t:ByteArray)(hsz:t.size≤20)(hs:∀i,i<t.size→symC (byteAt t i)=true∧(digC (byteAt t i)=true→1<i∨(i=1∧byteAt t 0≠45)))(keep:List Nat)(hk:13∈keep∧14∈keep)(σ:FState):∀(j fuel i:Nat) (f g:Nat→Value),t.size-i=j→j<fuel→i≤t.size→f 0=.string t→g 13=.int .i64 (.ofNat t.size)→g 14=.int .i64 (.ofNat i)→
  ∃f' g',floop keep (Fe (env (n+20)) none 170) fuel (Sl 4 38 f g []) none σ=.done (.exit 0) (Sl 4 38 f' g' []) none σ:=by
 intro j
 induction j with
 | zero=>
  intro fuel i f g hj hf hi f0 g13 g14
  obtain⟨fuel,rfl⟩:∃q,fuel=q+1:=⟨fuel-1,by omega⟩
  obtain rfl:i=t.size:=by omega
  have d0:decide (Int.ofNat t.size<Int.ofNat t.size)=false:=by simp
  rw[Ar]
  have k13:kept keep g 13=.int .i64 (.ofNat t.size):=by rw[Fj,if_pos hk.1,g13]
  have k14:kept keep g 14=.int .i64 (.ofNat t.size):=by rw[Fj,if_pos hk.2,g14]
  have h:∃f' g',Fe (env (n+20)) none 170 (Sl 4 38 f (kept keep g) []) none σ=.done (.exit 0) (Sl 4 38 f' g' []) none σ:=by
   generalize kept keep g=g1 at *
   unfold Fe
   simp -implicitDefEqProofs only[go_sem,EL,E7,f0,k13,k14,d0]
   exact⟨_,_,rfl⟩
  obtain⟨f',g',e⟩:=h
  refine⟨f',g',?_⟩
  simp -implicitDefEqProofs only[BU,e,AL]
 | succ j ih=>
  intro fuel i f g hj hf hi f0 g13 g14
  obtain⟨fuel,rfl⟩:∃q,fuel=q+1:=⟨fuel-1,by omega⟩
  have hlt:i<t.size:=by omega
  rw[Ar]
  obtain⟨f1,g1,h0,h13,e,h14⟩:=Aal n i (byteAt t i) t f (kept keep g) σ hlt (by omega) rfl (hs i hlt).1 (hs i hlt).2 f0 (by rw[Fj,if_pos hk.1,g13]) (by rw[Fj,if_pos hk.2,g14])
  obtain⟨f2,g2,h⟩:=ih fuel (i+1) f1 g1 (by omega) (by omega) (by omega) h0 h13 h14
  refine⟨f2,g2,?_⟩
  simp -implicitDefEqProofs only[BU,e,Aq]
  exact h
theorem Afb(n:Nat)(t:ByteArray)(h:symB t=true)(σ:FState):(env (n+21)).call 170 [.string t] none σ=.ret (.bool true) none σ:=by
 unfold symB at h
 simp only[Bool.and_eq_true,decide_eq_true_eq,Bool.not_eq_true',List.all_eq_true,List.mem_range] at h
 obtain⟨⟨⟨⟨h1,h2⟩,h3⟩,h4⟩,h5⟩:=h
 have hs:∀i,i<t.size→symC (byteAt t i)=true∧(digC (byteAt t i)=true→1<i∨(i=1∧byteAt t 0≠45)):=fun i hi=>⟨h5 i hi,fun hd=>by
  by_cases hi0:i=0
  ·subst hi0
   rw[h3] at hd
   cases hd
  ·by_cases hi1:i=1
   ·subst hi1
    refine .inr ⟨rfl,fun h45=>?_⟩
    rw[hd,h45] at h4
    simp[hi] at h4
   ·exact .inl (by omega)⟩
 rw[Ak _ 170 _ _ rfl,UN _ _ _ _ (by simp),Aj]
 unfold Uc
 have d0:(Int.ofNat t.size==0)=false:=by rw[beq_eq_false_iff_ne];simp only[Int.ofNat_eq_natCast,ne_eq];omega
 have d1:decide (Int.ofNat t.size>20)=false:=by simp;omega
 have hkeep:∃keep,keepOf nls 170=keep∧13∈keep∧14∈keep:=⟨_,rfl,by decide,by decide⟩
 obtain⟨keep,hkp,hk⟩:=hkeep
 simp -implicitDefEqProofs only[go_sem,Io,Im,Iq,Ip,Qe,Mj,d0,d1,Ag,hkp]
 generalize hff:upd _ 2 _=f1
 generalize hgg:upd _ 14 _=g1
 obtain⟨f',g',e⟩:=AnD n t h2 hs keep hk σ t.size bigFuel 0 f1 g1 (by omega) (by show t.size<1000000000000;omega) (by omega) (by rw[←hff];simp -implicitDefEqProofs only[go_sem,reduceCtorEq]) (by rw[←hgg];simp -implicitDefEqProofs only[go_sem,reduceCtorEq]) (by rw[←hgg];simp -implicitDefEqProofs only[go_sem,reduceCtorEq]<;>rfl)
 rw[e]
 simp -implicitDefEqProofs only[go_sem,Nv,J4]
end
section
open Go Go.Eng
variable (E:Env) (ro:Option Nat) (last:List Nat→RunF) (cl:List Nat) (a:FAct) (u:Option FrameMode) (σ:FState)
def SP(_:Unit):List COp:=[⟨fun a σ=>.val (.int .i64 0) σ,some 4,fun _=>some true⟩]
def Ai8:List COp:=SP ()
def Nw(_:Unit):List COp:=[⟨fun a σ=>.val (a.get 1) σ,some 161,fun _=>some true⟩,
 ⟨fun a σ=>i_leq Tryz.prog 21 (.const (.int .i32 0)) (.tmp 161) (.int .i32 0) (a.get 161) σ,some 162,fun _=>some true⟩,
 ⟨fun a σ=>.val (a.get 162) σ,some 163,fun _=>some true⟩,
 ⟨fun a σ=>.val (a.get 1) σ,some 164,fun a=>gd (a.get 163) true⟩,
 ⟨fun a σ=>i_lss Tryz.prog 21 (.tmp 164) (.const (.int .i32 128)) (a.get 164) (.int .i32 128) σ,some 165,fun a=>gd (a.get 163) true⟩,
 ⟨fun a σ=>fpick (a.get 163) (a.get 165) (.bool false) σ,some 166,fun _=>some true⟩,
 ⟨fun a σ=>.val (a.get 166) σ,some 160,fun _=>some true⟩]
def AaY:List COp:=Nw ()
def AjA(_:Unit):List COp:=[⟨fun a σ=>.val (a.get 0) σ,some 167,fun _=>some true⟩,
 ⟨fun a σ=>.val (a.get 1) σ,some 168,fun _=>some true⟩,
 ⟨fun a σ=>fun1 Tryz.prog (convert 21 5) (a.get 168) σ,some 169,fun _=>some true⟩,
 ⟨fun a σ=>.enter 201 [(a.get 167),(a.get 169)] σ,some 170,fun _=>some true⟩,
 ⟨fun a σ=>.val (a.get 170) σ,some 4,fun _=>some true⟩]
def Aoq:List COp:=AjA ()
def Nx(_:Unit):List COp:=[⟨fun a σ=>.val (a.get 1) σ,some 172,fun _=>some true⟩,
 ⟨fun a σ=>i_eql Tryz.prog 21 (.tmp 172) (.const (.int .i32 65533)) (a.get 172) (.int .i32 65533) σ,some 173,fun _=>some true⟩,
 ⟨fun a σ=>.val (a.get 173) σ,some 171,fun _=>some true⟩]
def AaZ:List COp:=Nx ()
def AjB(_:Unit):List COp:=[⟨fun a σ=>.val (a.get 0) σ,some 174,fun _=>some true⟩,
 ⟨fun a σ=>frangeS (a.get 174) σ,some 175,fun _=>some true⟩]
def Aor:List COp:=AjB ()
def AjC(_:Unit):List COp:=[⟨fun a σ=>fnext (a.get 175) σ,some 176,fun _=>some true⟩,
 ⟨fun a σ=>fextract 0 (a.get 176) σ,some 177,fun _=>some true⟩]
def Aos:List COp:=AjC ()
def AjD(_:Unit):List COp:=[⟨fun a σ=>fextract 1 (a.get 176) σ,some 178,fun _=>some true⟩,
 ⟨fun a σ=>fextract 2 (a.get 176) σ,some 179,fun _=>some true⟩,
 ⟨fun a σ=>.val (a.get 178) σ,some 5,fun _=>some true⟩,
 ⟨fun a σ=>.val (a.get 179) σ,some 6,fun _=>some true⟩]
def Aot:List COp:=AjD ()
def AjF(_:Unit):List COp:=[⟨fun a σ=>.val (a.get 6) σ,some 180,fun _=>some true⟩,
 ⟨fun a σ=>i_eql Tryz.prog 21 (.tmp 180) (.const (.int .i32 65533)) (a.get 180) (.int .i32 65533) σ,some 181,fun _=>some true⟩]
def Aou:List COp:=AjF ()
def AjG(_:Unit):List COp:=[⟨fun a σ=>.val (a.get 5) σ,some 182,fun _=>some true⟩,
 ⟨fun a σ=>.val (a.get 182) σ,some 4,fun _=>some true⟩]
def Aov:List COp:=AjG ()
def Ar6(E:Env)(ro:Option Nat)(fn:FuncId):RunF:=(seqR (fops E ro Aos) (seqR (condR (fun a=>(a.get 177)) skipR (exitR 9)) (blockR 10 (seqR (fops E ro Aot) (seqR (fops E ro Aou) (condR (fun a=>(a.get 181)) (seqR (fops E ro Aov) retR) skipR))))))
def AjH(_:Unit):List COp:=[⟨fun a σ=>.val (.int .i64 (-1)) σ,some 4,fun _=>some true⟩]
def Aow:List COp:=AjH ()
def Ny(_:Unit):List COp:=[⟨fun a σ=>.val (a.get 1) σ,some 184,fun _=>some true⟩,
 ⟨fun a σ=>.enter 202 [(a.get 184)] σ,some 185,fun _=>some true⟩,
 ⟨fun a σ=>fun1 Tryz.prog (Op.unary .not) (a.get 185) σ,some 186,fun _=>some true⟩,
 ⟨fun a σ=>.val (a.get 186) σ,some 183,fun _=>some true⟩]
def Aa0:List COp:=Ny ()
def AjI(_:Unit):List COp:=[⟨fun a σ=>.val (.int .i64 (-1)) σ,some 4,fun _=>some true⟩]
def Aox:List COp:=AjI ()
def SQ(_:Unit):List COp:=[⟨fun a σ=>.val (a.get 1) σ,some 17,fun _=>some true⟩,
 ⟨fun a σ=>fun1 Tryz.prog (convert 21 9) (a.get 17) σ,some 18,fun _=>some true⟩,
 ⟨fun a σ=>.val (a.get 18) σ,some 7,fun _=>some true⟩]
def Ai9:List COp:=SQ ()
def SR(_:Unit):List COp:=[⟨fun a σ=>.val (a.get 7) σ,some 19,fun _=>some true⟩,
 ⟨fun a σ=>flenS (a.get 19) σ,some 20,fun _=>some true⟩,
 ⟨fun a σ=>i_sub Tryz.prog 3 (.tmp 20) (.const (.int .i64 1)) (a.get 20) (.int .i64 1) σ,some 21,fun _=>some true⟩,
 ⟨fun a σ=>.val (a.get 21) σ,some 8,fun _=>some true⟩]
def Ajk:List COp:=SR ()
def SS(_:Unit):List COp:=[⟨fun a σ=>.val (a.get 8) σ,some 22,fun _=>some true⟩,
 ⟨fun a σ=>.val (a.get 22) σ,some 9,fun _=>some true⟩]
def Ajv:List COp:=SS ()
def ST(_:Unit):List COp:=[⟨fun a σ=>.val (.int .i64 0) σ,some 10,fun _=>some true⟩]
def AjE:List COp:=ST ()
def SU(_:Unit):List COp:=[⟨fun a σ=>.val (a.get 9) σ,some 23,fun _=>some true⟩,
 ⟨fun a σ=>.val (a.get 0) σ,some 24,fun _=>some true⟩,
 ⟨fun a σ=>flenS (a.get 24) σ,some 25,fun _=>some true⟩,
 ⟨fun a σ=>i_lss Tryz.prog 3 (.tmp 23) (.tmp 25) (a.get 23) (a.get 25) σ,some 26,fun _=>some true⟩]
def AjJ:List COp:=SU ()
def SV(_:Unit):List DOp:=[⟨fun a σ=>.val (a.get 0) σ,some 27,fun _=>some true,some 0,false⟩,
 ⟨fun a σ=>.val (a.get 9) σ,some 28,fun _=>some true,some 0,false⟩,
 ⟨fun a σ=>findexS (a.get 27) (a.get 28) σ,some 29,fun _=>some true,some 0,false⟩,
 ⟨fun a σ=>.val (a.get 7) σ,some 30,fun _=>some true,some 0,false⟩,
 ⟨fun a σ=>.val (a.get 8) σ,some 31,fun _=>some true,some 0,false⟩,
 ⟨fun a σ=>findexS (a.get 30) (a.get 31) σ,some 32,fun _=>some true,some 0,false⟩,
 ⟨fun a σ=>i_neq Tryz.prog 5 (.tmp 29) (.tmp 32) (a.get 29) (a.get 32) σ,some 33,fun _=>some true,some 0,false⟩]
def AjK:List DOp:=SV ()
def SW(_:Unit):List DOp:=[⟨fun a σ=>.val (a.get 0) σ,some 34,fun _=>some true,some 0,false⟩,
 ⟨fun a σ=>.val (a.get 9) σ,some 35,fun _=>some true,some 0,false⟩,
 ⟨fun a σ=>i_add Tryz.prog 3 (.tmp 35) (.const (.int .i64 1)) (a.get 35) (.int .i64 1) σ,some 36,fun _=>some true,some 0,false⟩,
 ⟨fun a σ=>fslice Tryz.prog 9 (a.get 34) (some (a.get 36)) none none σ,some 37,fun _=>some true,some 0,false⟩,
 ⟨fun a σ=>.val (a.get 7) σ,some 38,fun _=>some true,some 0,false⟩,
 ⟨fun a σ=>.val (a.get 8) σ,some 39,fun _=>some true,some 0,false⟩,
 ⟨fun a σ=>findexS (a.get 38) (a.get 39) σ,some 40,fun _=>some true,some 0,false⟩,
 ⟨fun a σ=>.enter 201 [(a.get 37),(a.get 40)] σ,some 41,fun _=>some true,none,true⟩,
 ⟨fun a σ=>.val (a.get 41) σ,some 11,fun _=>some true,some 1,false⟩]
def AjL:List DOp:=SW ()
def SX(_:Unit):List COp:=[⟨fun a σ=>.val (a.get 11) σ,some 42,fun _=>some true⟩,
 ⟨fun a σ=>i_lss Tryz.prog 3 (.tmp 42) (.const (.int .i64 0)) (a.get 42) (.int .i64 0) σ,some 43,fun _=>some true⟩]
def AjM:List COp:=SX ()
def SY(_:Unit):List COp:=[⟨fun a σ=>.val (.int .i64 (-1)) σ,some 4,fun _=>some true⟩]
def AjN:List COp:=SY ()
def Aja(_:Unit):List COp:=[⟨fun a σ=>.val (a.get 9) σ,some 44,fun _=>some true⟩,
 ⟨fun a σ=>.val (a.get 11) σ,some 45,fun _=>some true⟩,
 ⟨fun a σ=>i_add Tryz.prog 3 (.tmp 45) (.const (.int .i64 1)) (a.get 45) (.int .i64 1) σ,some 46,fun _=>some true⟩,
 ⟨fun a σ=>i_add Tryz.prog 3 (.tmp 44) (.tmp 46) (a.get 44) (a.get 46) σ,some 47,fun _=>some true⟩,
 ⟨fun a σ=>.val (a.get 47) σ,some 9,fun _=>some true⟩]
def An2:List COp:=Aja ()
def Ajb(_:Unit):List COp:=[⟨fun a σ=>.val (.int .i64 1) σ,some 12,fun _=>some true⟩]
def An3:List COp:=Ajb ()
def Ajc(_:Unit):List COp:=[⟨fun a σ=>.val (a.get 12) σ,some 48,fun _=>some true⟩,
 ⟨fun a σ=>.val (a.get 7) σ,some 49,fun _=>some true⟩,
 ⟨fun a σ=>flenS (a.get 49) σ,some 50,fun _=>some true⟩,
 ⟨fun a σ=>i_lss Tryz.prog 3 (.tmp 48) (.tmp 50) (a.get 48) (a.get 50) σ,some 51,fun _=>some true⟩]
def An4:List COp:=Ajc ()
def Aje(_:Unit):List DOp:=[⟨fun a σ=>.val (a.get 0) σ,some 54,fun _=>some true,some 0,false⟩,
 ⟨fun a σ=>.val (a.get 9) σ,some 55,fun _=>some true,some 0,false⟩,
 ⟨fun a σ=>.val (a.get 12) σ,some 56,fun _=>some true,some 0,false⟩,
 ⟨fun a σ=>i_sub Tryz.prog 3 (.tmp 55) (.tmp 56) (a.get 55) (a.get 56) σ,some 57,fun _=>some true,some 0,false⟩,
 ⟨fun a σ=>findexS (a.get 54) (a.get 57) σ,some 58,fun _=>some true,some 0,false⟩,
 ⟨fun a σ=>.val (a.get 7) σ,some 59,fun _=>some true,some 0,false⟩,
 ⟨fun a σ=>.val (a.get 8) σ,some 60,fun _=>some true,some 0,false⟩,
 ⟨fun a σ=>.val (a.get 12) σ,some 61,fun _=>some true,some 0,false⟩,
 ⟨fun a σ=>i_sub Tryz.prog 3 (.tmp 60) (.tmp 61) (a.get 60) (a.get 61) σ,some 62,fun _=>some true,some 0,false⟩,
 ⟨fun a σ=>findexS (a.get 59) (a.get 62) σ,some 63,fun _=>some true,some 0,false⟩,
 ⟨fun a σ=>i_neq Tryz.prog 5 (.tmp 58) (.tmp 63) (a.get 58) (a.get 63) σ,some 64,fun _=>some true,some 0,false⟩]
def An6:List DOp:=Aje ()
def Ajd(_:Unit):List COp:=[⟨fun a σ=>.val (a.get 12) σ,some 52,fun _=>some true⟩,
 ⟨fun a σ=>i_add Tryz.prog 3 (.tmp 52) (.const (.int .i64 1)) (a.get 52) (.int .i64 1) σ,some 53,fun _=>some true⟩,
 ⟨fun a σ=>.val (a.get 53) σ,some 12,fun _=>some true⟩]
def An5:List COp:=Ajd ()
def Ar7(E:Env)(ro:Option Nat)(fn:FuncId):RunF:=(seqR (seqR (fops E ro An4) (condR (fun a=>(a.get 51)) skipR (exitR 3))) (seqR (blockR 4 (seqR (drawR E ro An6) (condR (fun a=>(a.get 64)) (gotoR 0) skipR))) (fops E ro An5)))
def Ajf(_:Unit):List COp:=[⟨fun a σ=>.val (a.get 9) σ,some 65,fun _=>some true⟩,
 ⟨fun a σ=>.val (a.get 8) σ,some 66,fun _=>some true⟩,
 ⟨fun a σ=>i_sub Tryz.prog 3 (.tmp 65) (.tmp 66) (a.get 65) (a.get 66) σ,some 67,fun _=>some true⟩,
 ⟨fun a σ=>.val (a.get 67) σ,some 4,fun _=>some true⟩]
def An7:List COp:=Ajf ()
def Ajg(_:Unit):List COp:=[⟨fun a σ=>.val (a.get 10) σ,some 68,fun _=>some true⟩,
 ⟨fun a σ=>i_add Tryz.prog 3 (.tmp 68) (.const (.int .i64 1)) (a.get 68) (.int .i64 1) σ,some 69,fun _=>some true⟩,
 ⟨fun a σ=>.val (a.get 69) σ,some 10,fun _=>some true⟩]
def An8:List COp:=Ajg ()
def Ajh(_:Unit):List COp:=[⟨fun a σ=>.val (a.get 9) σ,some 70,fun _=>some true⟩,
 ⟨fun a σ=>i_add Tryz.prog 3 (.tmp 70) (.const (.int .i64 1)) (a.get 70) (.int .i64 1) σ,some 71,fun _=>some true⟩,
 ⟨fun a σ=>.val (a.get 71) σ,some 9,fun _=>some true⟩]
def An9:List COp:=Ajh ()
def Aji(_:Unit):List COp:=[⟨fun a σ=>.val (.bool true) σ,some 72,fun _=>some true⟩,
 ⟨fun a σ=>.val (a.get 10) σ,some 73,fun a=>gd (a.get 72) true⟩,
 ⟨fun a σ=>.val (a.get 9) σ,some 74,fun a=>gd (a.get 72) true⟩,
 ⟨fun a σ=>.enter 203 [(a.get 74)] σ,some 75,fun a=>gd (a.get 72) true⟩,
 ⟨fun a σ=>i_gtr Tryz.prog 3 (.tmp 73) (.tmp 75) (a.get 73) (a.get 75) σ,some 76,fun a=>gd (a.get 72) true⟩,
 ⟨fun a σ=>fpick (a.get 72) (a.get 76) (.bool false) σ,some 77,fun _=>some true⟩,
 ⟨fun a σ=>.val (a.get 77) σ,some 78,fun _=>some true⟩,
 ⟨fun a σ=>.val (a.get 9) σ,some 79,fun a=>gd (a.get 78) true⟩,
 ⟨fun a σ=>.val (a.get 0) σ,some 80,fun a=>gd (a.get 78) true⟩,
 ⟨fun a σ=>flenS (a.get 80) σ,some 81,fun a=>gd (a.get 78) true⟩,
 ⟨fun a σ=>i_lss Tryz.prog 3 (.tmp 79) (.tmp 81) (a.get 79) (a.get 81) σ,some 82,fun a=>gd (a.get 78) true⟩,
 ⟨fun a σ=>fpick (a.get 78) (a.get 82) (.bool false) σ,some 83,fun _=>some true⟩,
 ⟨fun a σ=>.val (a.get 83) σ,some 84,fun _=>some true⟩,
 ⟨fun a σ=>.val (.bool false) σ,some 85,fun a=>gd (a.get 84) false⟩,
 ⟨fun a σ=>.val (a.get 10) σ,some 86,fun a=>gd (a.get 85) true⟩,
 ⟨fun a σ=>.val (a.get 9) σ,some 87,fun a=>gd (a.get 85) true⟩,
 ⟨fun a σ=>fbin0 Tryz.prog .shr 3 (.tmp 87) (.const (.int .u64 4)) (a.get 87) (.int .u64 4) σ,some 88,fun a=>gd (a.get 85) true⟩,
 ⟨fun a σ=>i_add Tryz.prog 3 (.const (.int .i64 4)) (.tmp 88) (.int .i64 4) (a.get 88) σ,some 89,fun a=>gd (a.get 85) true⟩,
 ⟨fun a σ=>i_geq Tryz.prog 3 (.tmp 86) (.tmp 89) (a.get 86) (a.get 89) σ,some 90,fun a=>gd (a.get 85) true⟩,
 ⟨fun a σ=>fpick (a.get 85) (a.get 90) (.bool false) σ,some 91,fun a=>gd (a.get 84) false⟩,
 ⟨fun a σ=>.val (a.get 91) σ,some 92,fun a=>gd (a.get 84) false⟩,
 ⟨fun a σ=>.val (a.get 9) σ,some 93,fun a=>gd (a.get 92) true⟩,
 ⟨fun a σ=>.val (a.get 0) σ,some 94,fun a=>gd (a.get 92) true⟩,
 ⟨fun a σ=>flenS (a.get 94) σ,some 95,fun a=>gd (a.get 92) true⟩,
 ⟨fun a σ=>i_lss Tryz.prog 3 (.tmp 93) (.tmp 95) (a.get 93) (a.get 95) σ,some 96,fun a=>gd (a.get 92) true⟩,
 ⟨fun a σ=>fpick (a.get 92) (a.get 96) (.bool false) σ,some 97,fun a=>gd (a.get 84) false⟩,
 ⟨fun a σ=>fpick (a.get 84) (.bool true) (a.get 97) σ,some 98,fun _=>some true⟩]
def Aoa:List COp:=Aji ()
noncomputable def x200_1:Code:=(scopesOf (Tryz.f200.body.getD .skip)).getD 1 .skip
def find200_1(E:Env)(ro:Option Nat)(fn:FuncId):Nat→Option (Bx RunF):=fun l=>match findLabel x200_1 l with|some rest=>some ⟨(ccode Tryz.prog nls 981 rest).un E ro fn⟩|none=>none
def Afe(E:Env)(ro:Option Nat)(fn:FuncId):RunF:=(seqR (seqR (fops E ro AjJ) (condR (fun a=>(a.get 26)) skipR (exitR 1))) (blockR 2 (fscope (find200_1 E ro fn) bigFuel (seqR (seqR (drawR E ro AjK) (condR (fun a=>(a.get 33)) (seqR (drawR E ro AjL) (seqR (seqR (fops E ro AjM) (condR (fun a=>(a.get 43)) (seqR (fops E ro AjN) retR) skipR)) (fops E ro An2))) skipR)) (seqR (seqR (fops E ro An3) (blockR 3 (loopR (keepOf nls fn) (Ar7 E ro fn)))) (seqR (seqR (fops E ro An7) retR) (seqR skipR (seqR (fops E ro An8) (seqR (fops E ro An9) (seqR (fops E ro Aoa) (condR (fun a=>(a.get 98)) (gotoR 1) skipR)))))))))))
def Ajj(_:Unit):List COp:=[⟨fun a σ=>.val (.int .i64 (-1)) σ,some 4,fun _=>some true⟩]
def Aob:List COp:=Ajj ()
def Ajl(_:Unit):List COp:=[⟨fun a σ=>.val (a.get 0) σ,some 99,fun _=>some true⟩,
 ⟨fun a σ=>.val (a.get 9) σ,some 100,fun _=>some true⟩,
 ⟨fun a σ=>.val (a.get 8) σ,some 101,fun _=>some true⟩,
 ⟨fun a σ=>i_sub Tryz.prog 3 (.tmp 100) (.tmp 101) (a.get 100) (a.get 101) σ,some 102,fun _=>some true⟩,
 ⟨fun a σ=>fslice Tryz.prog 9 (a.get 99) (some (a.get 102)) none none σ,some 103,fun _=>some true⟩,
 ⟨fun a σ=>.val (a.get 1) σ,some 104,fun _=>some true⟩,
 ⟨fun a σ=>fun1 Tryz.prog (convert 21 9) (a.get 104) σ,some 105,fun _=>some true⟩,
 ⟨fun a σ=>.enter 204 [(a.get 103),(a.get 105)] σ,some 106,fun _=>some true⟩,
 ⟨fun a σ=>.val (a.get 106) σ,some 13,fun _=>some true⟩]
def Aoc:List COp:=Ajl ()
def Ajm(_:Unit):List COp:=[⟨fun a σ=>.val (a.get 13) σ,some 107,fun _=>some true⟩,
 ⟨fun a σ=>i_geq Tryz.prog 3 (.tmp 107) (.const (.int .i64 0)) (a.get 107) (.int .i64 0) σ,some 108,fun _=>some true⟩]
def Aod:List COp:=Ajm ()
def Ajn(_:Unit):List COp:=[⟨fun a σ=>.val (a.get 9) σ,some 109,fun _=>some true⟩,
 ⟨fun a σ=>.val (a.get 13) σ,some 110,fun _=>some true⟩,
 ⟨fun a σ=>i_add Tryz.prog 3 (.tmp 109) (.tmp 110) (a.get 109) (a.get 110) σ,some 111,fun _=>some true⟩,
 ⟨fun a σ=>.val (a.get 8) σ,some 112,fun _=>some true⟩,
 ⟨fun a σ=>i_sub Tryz.prog 3 (.tmp 111) (.tmp 112) (a.get 111) (a.get 112) σ,some 113,fun _=>some true⟩,
 ⟨fun a σ=>.val (a.get 113) σ,some 4,fun _=>some true⟩]
def Aoe:List COp:=Ajn ()
def Ajo(_:Unit):List COp:=[⟨fun a σ=>.val (a.get 7) σ,some 114,fun _=>some true⟩,
 ⟨fun a σ=>.val (a.get 8) σ,some 115,fun _=>some true⟩,
 ⟨fun a σ=>findexS (a.get 114) (a.get 115) σ,some 116,fun _=>some true⟩,
 ⟨fun a σ=>.val (a.get 116) σ,some 14,fun _=>some true⟩]
def Aof:List COp:=Ajo ()
def Ajp(_:Unit):List COp:=[⟨fun a σ=>.val (a.get 7) σ,some 117,fun _=>some true⟩,
 ⟨fun a σ=>.val (a.get 8) σ,some 118,fun _=>some true⟩,
 ⟨fun a σ=>i_sub Tryz.prog 3 (.tmp 118) (.const (.int .i64 1)) (a.get 118) (.int .i64 1) σ,some 119,fun _=>some true⟩,
 ⟨fun a σ=>findexS (a.get 117) (a.get 119) σ,some 120,fun _=>some true⟩,
 ⟨fun a σ=>.val (a.get 120) σ,some 15,fun _=>some true⟩]
def Aog:List COp:=Ajp ()
def Ajq(_:Unit):List COp:=[⟨fun a σ=>.val (a.get 9) σ,some 121,fun _=>some true⟩,
 ⟨fun a σ=>.val (a.get 0) σ,some 122,fun _=>some true⟩,
 ⟨fun a σ=>flenS (a.get 122) σ,some 123,fun _=>some true⟩,
 ⟨fun a σ=>i_lss Tryz.prog 3 (.tmp 121) (.tmp 123) (a.get 121) (a.get 123) σ,some 124,fun _=>some true⟩]
def Aoh:List COp:=Ajq ()
def Ajs(_:Unit):List COp:=[⟨fun a σ=>.val (a.get 0) σ,some 127,fun _=>some true⟩,
 ⟨fun a σ=>.val (a.get 9) σ,some 128,fun _=>some true⟩,
 ⟨fun a σ=>findexS (a.get 127) (a.get 128) σ,some 129,fun _=>some true⟩,
 ⟨fun a σ=>.val (a.get 14) σ,some 130,fun _=>some true⟩,
 ⟨fun a σ=>i_eql Tryz.prog 5 (.tmp 129) (.tmp 130) (a.get 129) (a.get 130) σ,some 131,fun _=>some true⟩,
 ⟨fun a σ=>.val (a.get 131) σ,some 132,fun _=>some true⟩,
 ⟨fun a σ=>.val (a.get 0) σ,some 133,fun a=>gd (a.get 132) true⟩,
 ⟨fun a σ=>.val (a.get 9) σ,some 134,fun a=>gd (a.get 132) true⟩,
 ⟨fun a σ=>i_sub Tryz.prog 3 (.tmp 134) (.const (.int .i64 1)) (a.get 134) (.int .i64 1) σ,some 135,fun a=>gd (a.get 132) true⟩,
 ⟨fun a σ=>findexS (a.get 133) (a.get 135) σ,some 136,fun a=>gd (a.get 132) true⟩,
 ⟨fun a σ=>.val (a.get 15) σ,some 137,fun a=>gd (a.get 132) true⟩,
 ⟨fun a σ=>i_eql Tryz.prog 5 (.tmp 136) (.tmp 137) (a.get 136) (a.get 137) σ,some 138,fun a=>gd (a.get 132) true⟩,
 ⟨fun a σ=>fpick (a.get 132) (a.get 138) (.bool false) σ,some 139,fun _=>some true⟩]
def Aoj:List COp:=Ajs ()
def Ajt(_:Unit):List COp:=[⟨fun a σ=>.val (.int .i64 2) σ,some 16,fun _=>some true⟩]
def Aok:List COp:=Ajt ()
def Aju(_:Unit):List COp:=[⟨fun a σ=>.val (a.get 16) σ,some 140,fun _=>some true⟩,
 ⟨fun a σ=>.val (a.get 7) σ,some 141,fun _=>some true⟩,
 ⟨fun a σ=>flenS (a.get 141) σ,some 142,fun _=>some true⟩,
 ⟨fun a σ=>i_lss Tryz.prog 3 (.tmp 140) (.tmp 142) (a.get 140) (a.get 142) σ,some 143,fun _=>some true⟩]
def Aol:List COp:=Aju ()
def Ajx(_:Unit):List DOp:=[⟨fun a σ=>.val (a.get 0) σ,some 146,fun _=>some true,some 0,false⟩,
 ⟨fun a σ=>.val (a.get 9) σ,some 147,fun _=>some true,some 0,false⟩,
 ⟨fun a σ=>.val (a.get 16) σ,some 148,fun _=>some true,some 0,false⟩,
 ⟨fun a σ=>i_sub Tryz.prog 3 (.tmp 147) (.tmp 148) (a.get 147) (a.get 148) σ,some 149,fun _=>some true,some 0,false⟩,
 ⟨fun a σ=>findexS (a.get 146) (a.get 149) σ,some 150,fun _=>some true,some 0,false⟩,
 ⟨fun a σ=>.val (a.get 7) σ,some 151,fun _=>some true,some 0,false⟩,
 ⟨fun a σ=>.val (a.get 8) σ,some 152,fun _=>some true,some 0,false⟩,
 ⟨fun a σ=>.val (a.get 16) σ,some 153,fun _=>some true,some 0,false⟩,
 ⟨fun a σ=>i_sub Tryz.prog 3 (.tmp 152) (.tmp 153) (a.get 152) (a.get 153) σ,some 154,fun _=>some true,some 0,false⟩,
 ⟨fun a σ=>findexS (a.get 151) (a.get 154) σ,some 155,fun _=>some true,some 0,false⟩,
 ⟨fun a σ=>i_neq Tryz.prog 5 (.tmp 150) (.tmp 155) (a.get 150) (a.get 155) σ,some 156,fun _=>some true,some 0,false⟩]
def Aon:List DOp:=Ajx ()
def Ajw(_:Unit):List COp:=[⟨fun a σ=>.val (a.get 16) σ,some 144,fun _=>some true⟩,
 ⟨fun a σ=>i_add Tryz.prog 3 (.tmp 144) (.const (.int .i64 1)) (a.get 144) (.int .i64 1) σ,some 145,fun _=>some true⟩,
 ⟨fun a σ=>.val (a.get 145) σ,some 16,fun _=>some true⟩]
def Aom:List COp:=Ajw ()
def Ar8(E:Env)(ro:Option Nat)(fn:FuncId):RunF:=(seqR (seqR (fops E ro Aol) (condR (fun a=>(a.get 143)) skipR (exitR 7))) (seqR (blockR 8 (seqR (drawR E ro Aon) (condR (fun a=>(a.get 156)) (exitR 6) skipR))) (fops E ro Aom)))
def Ajy(_:Unit):List COp:=[⟨fun a σ=>.val (a.get 9) σ,some 157,fun _=>some true⟩,
 ⟨fun a σ=>.val (a.get 8) σ,some 158,fun _=>some true⟩,
 ⟨fun a σ=>i_sub Tryz.prog 3 (.tmp 157) (.tmp 158) (a.get 157) (a.get 158) σ,some 159,fun _=>some true⟩,
 ⟨fun a σ=>.val (a.get 159) σ,some 4,fun _=>some true⟩]
def Aoo:List COp:=Ajy ()
def Ajr(_:Unit):List COp:=[⟨fun a σ=>.val (a.get 9) σ,some 125,fun _=>some true⟩,
 ⟨fun a σ=>i_add Tryz.prog 3 (.tmp 125) (.const (.int .i64 1)) (a.get 125) (.int .i64 1) σ,some 126,fun _=>some true⟩,
 ⟨fun a σ=>.val (a.get 126) σ,some 9,fun _=>some true⟩]
def Aoi:List COp:=Ajr ()
def Ar9(E:Env)(ro:Option Nat)(fn:FuncId):RunF:=(seqR (seqR (fops E ro Aoh) (condR (fun a=>(a.get 124)) skipR (exitR 5))) (seqR (blockR 6 (seqR (fops E ro Aoj) (condR (fun a=>(a.get 139)) (seqR (seqR (fops E ro Aok) (blockR 7 (loopR (keepOf nls fn) (Ar8 E ro fn)))) (seqR (fops E ro Aoo) retR)) skipR))) (fops E ro Aoi)))
noncomputable def x200_2:Code:=(scopesOf (Tryz.f200.body.getD .skip)).getD 2 .skip
def find200_2(E:Env)(ro:Option Nat)(fn:FuncId):Nat→Option (Bx RunF):=fun l=>match findLabel x200_2 l with|some rest=>some ⟨(ccode Tryz.prog nls 981 rest).un E ro fn⟩|none=>none
def Ajz(_:Unit):List COp:=[⟨fun a σ=>.val (.int .i64 (-1)) σ,some 4,fun _=>some true⟩]
def Aop:List COp:=Ajz ()
noncomputable def x200_0:Code:=(scopesOf (Tryz.f200.body.getD .skip)).getD 0 .skip
def find200_0(E:Env)(ro:Option Nat)(fn:FuncId):Nat→Option (Bx RunF):=fun l=>match findLabel x200_0 l with|some rest=>some ⟨(ccode Tryz.prog nls 991 rest).un E ro fn⟩|none=>none
noncomputable def x200_3:Code:=(scopesOf (Tryz.f200.body.getD .skip)).getD 3 .skip
def find200_3(E:Env)(ro:Option Nat)(fn:FuncId):Nat→Option (Bx RunF):=fun l=>match findLabel x200_3 l with|some rest=>some ⟨(ccode Tryz.prog nls 987 rest).un E ro fn⟩|none=>none
def ZU(E:Env)(ro:Option Nat)(fn:FuncId):RunF:=(seqR (fops E ro Ai8) (blockR 0 (seqR (fops E ro AaY) (condR (fun a=>(a.get 160)) (seqR (fops E ro Aoq) retR) (seqR (fops E ro AaZ) (condR (fun a=>(a.get 171)) (seqR (seqR (fops E ro Aor) (blockR 9 (loopR (keepOf nls fn) (Ar6 E ro fn)))) (seqR (fops E ro Aow) retR)) (seqR (fops E ro Aa0) (condR (fun a=>(a.get 183)) (seqR (fops E ro Aox) retR) (fscope (find200_0 E ro fn) bigFuel (seqR (fops E ro Ai9) (seqR (fops E ro Ajk) (seqR (fops E ro Ajv) (seqR (fops E ro AjE) (seqR (blockR 1 (loopR (keepOf nls fn) (Afe E ro fn))) (seqR (seqR (fops E ro Aob) retR) (seqR skipR (seqR (condR (fun a=>(.bool true)) (seqR (fops E ro Aoc) (seqR (fops E ro Aod) (condR (fun a=>(a.get 108)) (seqR (fops E ro Aoe) retR) skipR))) (fscope (find200_2 E ro fn) bigFuel (seqR (fops E ro Aof) (seqR (fops E ro Aog) (seqR skipR (blockR 5 (loopR (keepOf nls fn) (Ar9 E ro fn)))))))) (seqR (fops E ro Aop) retR))))))))))))))))))
theorem Adw:fops E ro Ai8 a u σ=fops E ro (SP ()) a u σ:=rfl
theorem Yh:fops E ro AaY a u σ=fops E ro (Nw ()) a u σ:=rfl
theorem Yi:fops E ro AaZ a u σ=fops E ro (Nx ()) a u σ:=rfl
theorem Yj:fops E ro Aa0 a u σ=fops E ro (Ny ()) a u σ:=rfl
theorem Adx:fops E ro Ai9 a u σ=fops E ro (SQ ()) a u σ:=rfl
theorem Ady:fops E ro Ajk a u σ=fops E ro (SR ()) a u σ:=rfl
theorem Adz:fops E ro Ajv a u σ=fops E ro (SS ()) a u σ:=rfl
theorem AdA:fops E ro AjE a u σ=fops E ro (ST ()) a u σ:=rfl
theorem AdB:fops E ro AjJ a u σ=fops E ro (SU ()) a u σ:=rfl
theorem AdC:fdraw E ro last AjK cl a u σ=fdraw E ro last (SV ()) cl a u σ:=rfl
theorem AdD:fdraw E ro last AjL cl a u σ=fdraw E ro last (SW ()) cl a u σ:=rfl
theorem AdE:fops E ro AjM a u σ=fops E ro (SX ()) a u σ:=rfl
theorem AdF:fops E ro AjN a u σ=fops E ro (SY ()) a u σ:=rfl
theorem AmX(E:Env)(ro:Option Nat)(fn:FuncId):code Tryz.prog nls (Tryz.f200.body.getD .skip) E ro fn=ZU E ro fn:=by kernel_rfl
theorem Ae0(E:Env)(args:List Value)(u:Option FrameMode)(σ:FState)(hn:args.length≤(17:Nat)):fcall Tryz.prog nls E 200 args u σ=leaveR Tryz.prog E [.tmp 4] (ZU E none 200 ⟨padTo undef 17 args,fun _=>undef,17,187,[]⟩ u σ):=by
 rw[Ao (body:=Tryz.f200.body.getD .skip) Tryz.func200 rfl E args u σ 17 187 (by kernel_rfl) rfl ⟨hn,by decide⟩,AmX]
 rfl
def SJ(_:Unit):List COp:=[⟨fun a σ=>.val (.bool false) σ,some 4,fun _=>some true⟩]
def Ai4:List COp:=SJ ()
def SK(_:Unit):List COp:=[⟨fun a σ=>.val (a.get 0) σ,some 5,fun _=>some true⟩,
 ⟨fun a σ=>.val (a.get 1) σ,some 6,fun _=>some true⟩,
 ⟨fun a σ=>.enter 200 [(a.get 5),(a.get 6)] σ,some 7,fun _=>some true⟩,
 ⟨fun a σ=>i_geq Tryz.prog 3 (.tmp 7) (.const (.int .i64 0)) (a.get 7) (.int .i64 0) σ,some 8,fun _=>some true⟩,
 ⟨fun a σ=>.val (a.get 8) σ,some 4,fun _=>some true⟩]
def Ai5:List COp:=SK ()
def ZT(E:Env)(ro:Option Nat)(fn:FuncId):RunF:=(seqR (fops E ro Ai4) (seqR (fops E ro Ai5) retR))
theorem Adu:fops E ro Ai4 a u σ=fops E ro (SJ ()) a u σ:=rfl
theorem Adv:fops E ro Ai5 a u σ=fops E ro (SK ()) a u σ:=rfl
theorem AmW(E:Env)(ro:Option Nat)(fn:FuncId):code Tryz.prog nls (Tryz.f198.body.getD .skip) E ro fn=ZT E ro fn:=by kernel_rfl
theorem AeZ(E:Env)(args:List Value)(u:Option FrameMode)(σ:FState)(hn:args.length≤(4:Nat)):fcall Tryz.prog nls E 198 args u σ=leaveR Tryz.prog E [.tmp 4] (ZT E none 198 ⟨padTo undef 4 args,fun _=>undef,4,9,[]⟩ u σ):=by
 rw[Ao (body:=Tryz.f198.body.getD .skip) Tryz.func198 rfl E args u σ 4 9 (by kernel_rfl) rfl ⟨hn,by decide⟩,AmW]
 rfl
def SZ(_:Unit):List COp:=[⟨fun a σ=>.val (.bool false) σ,some 2,fun _=>some true⟩]
def AjO:List COp:=SZ ()
def S0(_:Unit):List COp:=[⟨fun a σ=>.val (a.get 0) σ,some 4,fun _=>some true⟩,
 ⟨fun a σ=>i_leq Tryz.prog 21 (.const (.int .i32 0)) (.tmp 4) (.int .i32 0) (a.get 4) σ,some 5,fun _=>some true⟩,
 ⟨fun a σ=>.val (a.get 5) σ,some 6,fun _=>some true⟩,
 ⟨fun a σ=>.val (a.get 0) σ,some 7,fun a=>gd (a.get 6) true⟩,
 ⟨fun a σ=>i_lss Tryz.prog 21 (.tmp 7) (.const (.int .i32 55296)) (a.get 7) (.int .i32 55296) σ,some 8,fun a=>gd (a.get 6) true⟩,
 ⟨fun a σ=>fpick (a.get 6) (a.get 8) (.bool false) σ,some 9,fun _=>some true⟩,
 ⟨fun a σ=>.val (a.get 9) σ,some 3,fun _=>some true⟩]
def AjP:List COp:=S0 ()
def S1(_:Unit):List COp:=[⟨fun a σ=>.val (.bool true) σ,some 2,fun _=>some true⟩]
def AjQ:List COp:=S1 ()
def Aoy(_:Unit):List COp:=[⟨fun a σ=>.val (a.get 0) σ,some 11,fun _=>some true⟩,
 ⟨fun a σ=>i_lss Tryz.prog 21 (.const (.int .i32 57343)) (.tmp 11) (.int .i32 57343) (a.get 11) σ,some 12,fun _=>some true⟩,
 ⟨fun a σ=>.val (a.get 12) σ,some 13,fun _=>some true⟩,
 ⟨fun a σ=>.val (a.get 0) σ,some 14,fun a=>gd (a.get 13) true⟩,
 ⟨fun a σ=>i_leq Tryz.prog 21 (.tmp 14) (.const (.int .i32 1114111)) (a.get 14) (.int .i32 1114111) σ,some 15,fun a=>gd (a.get 13) true⟩,
 ⟨fun a σ=>fpick (a.get 13) (a.get 15) (.bool false) σ,some 16,fun _=>some true⟩,
 ⟨fun a σ=>.val (a.get 16) σ,some 10,fun _=>some true⟩]
def Asz:List COp:=Aoy ()
def Aoz(_:Unit):List COp:=[⟨fun a σ=>.val (.bool true) σ,some 2,fun _=>some true⟩]
def AsA:List COp:=Aoz ()
def AoA(_:Unit):List COp:=[⟨fun a σ=>.val (.bool false) σ,some 2,fun _=>some true⟩]
def AsB:List COp:=AoA ()
def ZV(E:Env)(ro:Option Nat)(fn:FuncId):RunF:=(seqR (fops E ro AjO) (seqR (blockR 0 (seqR (fops E ro AjP) (condR (fun a=>(a.get 3)) (seqR (fops E ro AjQ) retR) (seqR (fops E ro Asz) (condR (fun a=>(a.get 10)) (seqR (fops E ro AsA) retR) skipR))))) (seqR (fops E ro AsB) retR)))
theorem AdG:fops E ro AjO a u σ=fops E ro (SZ ()) a u σ:=rfl
theorem AdH:fops E ro AjP a u σ=fops E ro (S0 ()) a u σ:=rfl
theorem AdI:fops E ro AjQ a u σ=fops E ro (S1 ()) a u σ:=rfl
theorem AmY(E:Env)(ro:Option Nat)(fn:FuncId):code Tryz.prog nls (Tryz.f202.body.getD .skip) E ro fn=ZV E ro fn:=by kernel_rfl
theorem Ae1(E:Env)(args:List Value)(u:Option FrameMode)(σ:FState)(hn:args.length≤(2:Nat)):fcall Tryz.prog nls E 202 args u σ=leaveR Tryz.prog E [.tmp 2] (ZV E none 202 ⟨padTo undef 2 args,fun _=>undef,2,17,[]⟩ u σ):=by
 rw[Ao (body:=Tryz.f202.body.getD .skip) Tryz.func202 rfl E args u σ 2 17 (by kernel_rfl) rfl ⟨hn,by decide⟩,AmY]
 rfl
def SE(_:Unit):List COp:=[⟨fun a σ=>.val (.int .i64 0) σ,some 2,fun _=>some true⟩]
def AiZ:List COp:=SE ()
def SF(_:Unit):List COp:=[⟨fun a σ=>.val (a.get 0) σ,some 4,fun _=>some true⟩,
 ⟨fun a σ=>i_geq Tryz.prog 21 (.tmp 4) (.const (.int .i32 97)) (a.get 4) (.int .i32 97) σ,some 5,fun _=>some true⟩,
 ⟨fun a σ=>.val (a.get 5) σ,some 6,fun _=>some true⟩,
 ⟨fun a σ=>.val (a.get 0) σ,some 7,fun a=>gd (a.get 6) true⟩,
 ⟨fun a σ=>i_leq Tryz.prog 21 (.tmp 7) (.const (.int .i32 122)) (a.get 7) (.int .i32 122) σ,some 8,fun a=>gd (a.get 6) true⟩,
 ⟨fun a σ=>fpick (a.get 6) (a.get 8) (.bool false) σ,some 9,fun _=>some true⟩,
 ⟨fun a σ=>.val (a.get 9) σ,some 3,fun _=>some true⟩]
def Ai0:List COp:=SF ()
def AnZ(_:Unit):List COp:=[⟨fun a σ=>.val (.int .i64 1) σ,some 2,fun _=>some true⟩]
def Asw:List COp:=AnZ ()
def SG(_:Unit):List COp:=[⟨fun a σ=>.val (a.get 0) σ,some 11,fun _=>some true⟩,
 ⟨fun a σ=>i_geq Tryz.prog 21 (.tmp 11) (.const (.int .i32 48)) (a.get 11) (.int .i32 48) σ,some 12,fun _=>some true⟩,
 ⟨fun a σ=>.val (a.get 12) σ,some 13,fun _=>some true⟩,
 ⟨fun a σ=>.val (a.get 0) σ,some 14,fun a=>gd (a.get 13) true⟩,
 ⟨fun a σ=>i_leq Tryz.prog 21 (.tmp 14) (.const (.int .i32 57)) (a.get 14) (.int .i32 57) σ,some 15,fun a=>gd (a.get 13) true⟩,
 ⟨fun a σ=>fpick (a.get 13) (a.get 15) (.bool false) σ,some 16,fun _=>some true⟩,
 ⟨fun a σ=>.val (a.get 16) σ,some 10,fun _=>some true⟩]
def Ai1:List COp:=SG ()
def An0(_:Unit):List COp:=[⟨fun a σ=>.val (.int .i64 2) σ,some 2,fun _=>some true⟩]
def Asx:List COp:=An0 ()
def SH(_:Unit):List COp:=[⟨fun a σ=>.val (a.get 0) σ,some 18,fun _=>some true⟩,
 ⟨fun a σ=>.enter 198 [(.string ⟨#[45,43,42,47,60,62,61,63,33]⟩),(a.get 18)] σ,some 19,fun _=>some true⟩,
 ⟨fun a σ=>.val (a.get 19) σ,some 17,fun _=>some true⟩]
def Ai2:List COp:=SH ()
def An1(_:Unit):List COp:=[⟨fun a σ=>.val (.int .i64 3) σ,some 2,fun _=>some true⟩]
def Asy:List COp:=An1 ()
def SI(_:Unit):List COp:=[⟨fun a σ=>.val (.int .i64 0) σ,some 2,fun _=>some true⟩]
def Ai3:List COp:=SI ()
def ZS(E:Env)(ro:Option Nat)(fn:FuncId):RunF:=(seqR (fops E ro AiZ) (seqR (blockR 0 (seqR (fops E ro Ai0) (condR (fun a=>(a.get 3)) (seqR (fops E ro Asw) retR) (seqR (fops E ro Ai1) (condR (fun a=>(a.get 10)) (seqR (fops E ro Asx) retR) (seqR (fops E ro Ai2) (condR (fun a=>(a.get 17)) (seqR (fops E ro Asy) retR) skipR))))))) (seqR (fops E ro Ai3) retR)))
theorem Adp:fops E ro AiZ a u σ=fops E ro (SE ()) a u σ:=rfl
theorem Adq:fops E ro Ai0 a u σ=fops E ro (SF ()) a u σ:=rfl
theorem Adr:fops E ro Ai1 a u σ=fops E ro (SG ()) a u σ:=rfl
theorem Ads:fops E ro Ai2 a u σ=fops E ro (SH ()) a u σ:=rfl
theorem Adt:fops E ro Ai3 a u σ=fops E ro (SI ()) a u σ:=rfl
theorem AmV(E:Env)(ro:Option Nat)(fn:FuncId):code Tryz.prog nls (Tryz.f188.body.getD .skip) E ro fn=ZS E ro fn:=by kernel_rfl
theorem AeY(E:Env)(args:List Value)(u:Option FrameMode)(σ:FState)(hn:args.length≤(2:Nat)):fcall Tryz.prog nls E 188 args u σ=leaveR Tryz.prog E [.tmp 2] (ZS E none 188 ⟨padTo undef 2 args,fun _=>undef,2,20,[]⟩ u σ):=by
 rw[Ao (body:=Tryz.f188.body.getD .skip) Tryz.func188 rfl E args u σ 2 20 (by kernel_rfl) rfl ⟨hn,by decide⟩,AmV]
 rfl
end
section
open Go Go.Eng
attribute [local congr] Ab Ah Af Ad Ae
attribute [-go_sem] List.range_succ
def otherNums:List Nat:=[0,1,2,3,4,5,6,7,8,9,10,11,12,13,14,15,16,17,18,19,20,21,22,23,24,25,26,27,28,29,30,31,32,34,35,36,37,38,39,40,41,44,46,58,59,64,65,66,67,68,69,70,71,72,73,74,75,76,77,78,79,80,81,82,83,84,85,86,87,88,89,90,91,92,93,94,95,96,123,124,125,126,127]
def highNums:List Nat:=[128,129,130,131,132,133,134,135,136,137,138,139,140,141,142,143,144,145,146,147,148,149,150,151,152,153,154,155,156,157,158,159,160,161,162,163,164,165,166,167,168,169,170,171,172,173,174,175,176,177,178,179,180,181,182,183,184,185,186,187,188,189,190,191,192,193,194,195,196,197,198,199,200,201,202,203,204,205,206,207,208,209,210,211,212,213,214,215,216,217,218,219,220,221,222,223,224,225,226,227,228,229,230,231,232,233,234,235,236,237,238,239,240,241,242,243,244,245,246,247,248,249,250,251,252,253,254,255]
def tailNums:List Nat:=[128,129,130,131,132,133,134,135,136,137,138,139,140,141,142,143,144,145,146,147,148,149,150,151,152,153,154,155,156,157,158,159,160,161,162,163,164,165,166,167,168,169,170,171,172,173,174,175,176,177,178,179,180,181,182,183,184,185,186,187,188,189,190,191]
theorem UB(n c:Nat)(hm:c∈otherNums)(σ:FState):(env (n+20)).call 188 [.int .i32 (c:Int)] none σ=.ret (.int .i64 0) none σ:=by
 simp only[otherNums,List.mem_cons,List.not_mem_nil,or_false] at hm
 rcases hm with rfl|rfl|rfl|rfl|rfl|rfl|rfl|rfl|rfl|rfl|rfl|rfl|rfl|rfl|rfl|rfl|rfl|rfl|rfl|rfl|rfl|rfl|rfl|rfl|rfl|rfl|rfl|rfl|rfl|rfl|rfl|rfl|rfl|rfl|rfl|rfl|rfl|rfl|rfl|rfl|rfl|rfl|rfl|rfl|rfl|rfl|rfl|rfl|rfl|rfl|rfl|rfl|rfl|rfl|rfl|rfl|rfl|rfl|rfl|rfl|rfl|rfl|rfl|rfl|rfl|rfl|rfl|rfl|rfl|rfl|rfl|rfl|rfl|rfl|rfl|rfl|rfl|rfl|rfl|rfl|rfl|rfl|rfl<;>kernel_rfl
def rsOf(c:Nat):ByteArray:=⟨#[(192+c / 64).toUInt8,(128+c % 64).toUInt8]⟩
theorem AoM(c:Nat)(hm:c∈highNums)(σ:FState):fun1 Tryz.prog (convert 21 9) (.int .i32 (c:Int)) σ=.val (.string (rsOf c)) σ:=by
 simp only[highNums,List.mem_cons,List.not_mem_nil,or_false] at hm
 rcases hm with rfl|rfl|rfl|rfl|rfl|rfl|rfl|rfl|rfl|rfl|rfl|rfl|rfl|rfl|rfl|rfl|rfl|rfl|rfl|rfl|rfl|rfl|rfl|rfl|rfl|rfl|rfl|rfl|rfl|rfl|rfl|rfl|rfl|rfl|rfl|rfl|rfl|rfl|rfl|rfl|rfl|rfl|rfl|rfl|rfl|rfl|rfl|rfl|rfl|rfl|rfl|rfl|rfl|rfl|rfl|rfl|rfl|rfl|rfl|rfl|rfl|rfl|rfl|rfl|rfl|rfl|rfl|rfl|rfl|rfl|rfl|rfl|rfl|rfl|rfl|rfl|rfl|rfl|rfl|rfl|rfl|rfl|rfl|rfl|rfl|rfl|rfl|rfl|rfl|rfl|rfl|rfl|rfl|rfl|rfl|rfl|rfl|rfl|rfl|rfl|rfl|rfl|rfl|rfl|rfl|rfl|rfl|rfl|rfl|rfl|rfl|rfl|rfl|rfl|rfl|rfl|rfl|rfl|rfl|rfl|rfl|rfl|rfl|rfl|rfl|rfl|rfl|rfl<;>kernel_rfl
theorem Abm(n c:Nat)(hm:c∈tailNums)(σ:FState):(env (n+12)).call 201 [.string ⟨#[42,47,60,62,61,63,33]⟩,.int .u8 (c:Int)] none σ=.ret (.int .i64 (-1)) none σ:=by
 simp only[tailNums,List.mem_cons,List.not_mem_nil,or_false] at hm
 rcases hm with rfl|rfl|rfl|rfl|rfl|rfl|rfl|rfl|rfl|rfl|rfl|rfl|rfl|rfl|rfl|rfl|rfl|rfl|rfl|rfl|rfl|rfl|rfl|rfl|rfl|rfl|rfl|rfl|rfl|rfl|rfl|rfl|rfl|rfl|rfl|rfl|rfl|rfl|rfl|rfl|rfl|rfl|rfl|rfl|rfl|rfl|rfl|rfl|rfl|rfl|rfl|rfl|rfl|rfl|rfl|rfl|rfl|rfl|rfl|rfl|rfl|rfl|rfl|rfl<;>kernel_rfl
end
section
open Go Go.Eng
attribute [local congr] Ab Ah Af Ad Ae
attribute [-go_sem] List.range_succ
theorem Abr(c:Int)(σ:FState):fun1 Tryz.prog (convert 5 21) (.int .u8 c) σ=.val (.int .i32 (IntKind.i32.wrap c)) σ:=by kernel_rfl
theorem Abp(c:Nat)(h:c<256)(σ:FState):fun1 Tryz.prog (convert 5 21) (.int .u8 (c:Int)) σ=.val (.int .i32 (c:Int)) σ:=by
 rw[Abr]
 have:IntKind.i32.wrap (c:Int)=c:=by
  show (if (true&&decide ((c:Int) % 4294967296≥2147483648))=true then (c:Int) % 4294967296-4294967296 else (c:Int) % 4294967296)=c
  have e:(c:Int) % 4294967296=c:=by omega
  rw[e,if_neg (by simp;omega)]
 rw[this]
theorem AnA(x y:Operand)(a b:Int)(σ:FState):i_geq Tryz.prog 21 x y (.int .i32 a) (.int .i32 b) σ=.val (.bool (decide (a≥b))) σ:=by kernel_rfl
theorem Q5(x y:Operand)(a b:Int)(σ:FState):i_leq Tryz.prog 21 x y (.int .i32 a) (.int .i32 b) σ=.val (.bool (decide (a≤b))) σ:=by kernel_rfl
theorem Anw(x y:Operand)(a b:Int)(σ:FState):i_eql Tryz.prog 21 x y (.int .i32 a) (.int .i32 b) σ=.val (.bool (a==b)) σ:=by kernel_rfl
theorem Aaq(x y:Operand)(a b:Int)(σ:FState):i_neq Tryz.prog 5 x y (.int .u8 a) (.int .u8 b) σ=.val (.bool (!(a==b))) σ:=by kernel_rfl
theorem Uk(n c:Nat)(h:c<256)(σ:FState):(env (n+1)).call 202 [.int .i32 (c:Int)] none σ=.ret (.bool true) none σ:=by
 rw[Ak _ 202 _ _ rfl,Ae1 _ _ _ _ (by simp),Aj]
 unfold ZV
 have d0:decide ((0:Int)≤(c:Int))=true:=by simp
 have d1:decide ((c:Int)<55296)=true:=by simp;omega
 simp -implicitDefEqProofs only[go_sem,AdG,SZ,AdH,S0,AdI,S1,Q5,HS,d0,d1]
end
section
open Go Go.Eng
attribute [local congr] Ab Ah Af Ad Ae
attribute [-go_sem] List.range_succ
def signsT:ByteArray:=⟨#[45,43,42,47,60,62,61,63,33]⟩
theorem WK(σ:FState):fslice Tryz.prog 9 (.string signsT) (some (.int .i64 2)) none none σ=.val (.string ⟨#[42,47,60,62,61,63,33]⟩) σ:=by kernel_rfl
theorem Ae9{c:Nat}(h:128≤c∧c<256):c∈highNums:=by
 have e:highNums=(List.range 128).map (· + 128):=by decide
 rw[e,List.mem_map]
 exact⟨c-128,List.mem_range.2 (by omega),by omega⟩
theorem AlX{c:Nat}(h:128≤c∧c<192):c∈tailNums:=by
 have e:tailNums=(List.range 64).map (· + 128):=by decide
 rw[e,List.mem_map]
 exact⟨c-128,List.mem_range.2 (by omega),by omega⟩
theorem MZ(n c:Nat)(h:128≤c∧c<256)(σ:FState):(env (n+13)).call 200 [.string signsT,.int .i32 (c:Int)] none σ=.ret (.int .i64 (-1)) none σ:=by
 rw[Ak _ 200 _ _ rfl,Ae0 _ _ _ _ (by simp),Aj]
 unfold ZU
 have d0:decide ((0:Int)≤(c:Int))=true:=by simp
 have d1:decide ((c:Int)<128)=false:=by simp;omega
 have d2:((c:Int)==65533)=false:=by rw[beq_eq_false_iff_ne];omega
 have vr:=Uk (n+11) c h.2 σ
 have rs:=AoM c (Ae9 h) σ
 have hsz:(rsOf c).size=2:=rfl
 have hby:byteAt (rsOf c) 1=128+c % 64:=by
  show (128+c % 64).toUInt8.toNat=_
  rw[Nat.toUInt8_eq,UInt8.toNat_ofNat']
  omega
 have f1:∀τ,findexS (.string (rsOf c)) (.int .i64 1) τ=.val (.int .u8 ((128+c % 64:Nat):Int)) τ:=fun τ=>by rw[Pj (rsOf c) (by rw[hsz];omega) τ,hby]
 have f2:∀τ,findexS (.string signsT) (.int .i64 1) τ=.val (.int .u8 43) τ:=fun τ=>by kernel_rfl
 have ib:=Abm n (128+c % 64) (AlX (by omega)) σ
 have ne:((43:Int)==((128+c % 64:Nat):Int))=false:=by rw[beq_eq_false_iff_ne];omega
 generalize rsOf c=rr at *
 generalize 128+c % 64=bb at *
 have s1:wrapI (Int.ofNat 2-1)=1:=by decide
 have s2:wrapI ((1:Int)+1)=2:=by decide
 have l9:decide ((1:Int)<Int.ofNat signsT.size)=true:=by decide
 have lo:decide ((-1:Int)<0)=true:=by decide
 simp -implicitDefEqProofs only[go_sem,Adw,SP,Yh,Nw,Yi,Nx,Yj,Ny,Q5,HS,Anw,d0,d1,d2,vr,Bool.not_true,Ag]
 have hfu:∃q,bigFuel=q+1:=⟨999999999999,rfl⟩
 obtain⟨fu,hfu⟩:=hfu
 rw[hfu,K8]
 have hk:keepOf nls 200=keepOf nls 200:=rfl
 generalize hkk:keepOf nls 200=keep
 simp -implicitDefEqProofs only[go_sem,Adx,SQ,Ady,SR,Adz,SS,AdA,ST,rs,hsz,s1,hkk]
 rw[hfu,Ar]
 unfold Afe
 simp -implicitDefEqProofs only[go_sem,AdB,SU,l9,Ag]
 rw[hfu,K8]
 have nb:(!((43:Int)==(bb:Int)))=true:=by rw[ne];rfl
 simp -implicitDefEqProofs only[go_sem,AdC,SV,AdD,SW,AdE,SX,AdF,SY,f1,f2,Aaq,nb,s2,WK,ib,lo,Ag,ZX]
end
section
open Go Go.Eng
attribute [local congr] Ab Ah Af Ad Ae
attribute [-go_sem] List.range_succ
def clsA(c:Nat):Int:=if symC c=true then clsN c else 0
theorem Ab2{c:Nat}(h:symC c=false)(hc:c<128):c∈otherNums:=by
 have e:otherNums=(List.range 128).filter (fun c=>!symC c):=by decide
 rw[e,List.mem_filter,List.mem_range]
 exact⟨hc,by rw[h];rfl⟩
theorem W9(n c:Nat)(h:128≤c∧c<256)(σ:FState):(env (n+15)).call 188 [.int .i32 (c:Int)] none σ=.ret (.int .i64 0) none σ:=by
 have e:(env (n+14)).call 198 [.string ⟨#[45,43,42,47,60,62,61,63,33]⟩,.int .i32 (c:Int)] none σ=.ret (.bool false) none σ:=by
  have hi:(env (n+13)).call 200 [.string ⟨#[45,43,42,47,60,62,61,63,33]⟩,.int .i32 (c:Int)] none σ=_:=MZ n c h σ
  have g:decide ((-1:Int)≥0)=false:=by decide
  rw[Ak _ 198 _ _ rfl,AeZ _ _ _ _ (by simp),Aj]
  unfold ZT
  simp -implicitDefEqProofs only[go_sem,Adu,SJ,Adv,SK,hi,g]
 have d0:decide ((c:Int)≥97)=true:=by simp;omega
 have d1:decide ((c:Int)≤122)=false:=by simp;omega
 have d2:decide ((c:Int)≥48)=true:=by simp;omega
 have d3:decide ((c:Int)≤57)=false:=by simp;omega
 rw[Ak _ 188 _ _ rfl,AeY _ _ _ _ (by simp),Aj]
 unfold ZS
 simp -implicitDefEqProofs only[go_sem,Adp,SE,Adq,SF,Adr,SG,Ads,SH,Adt,SI,AnA,Q5,d0,d1,d2,d3,e,Ag]
theorem Abn(n c:Nat)(h:c<256)(σ:FState):(env (n+20)).call 188 [.int .i32 (c:Int)] none σ=.ret (.int .i64 (clsA c)) none σ:=by
 unfold clsA
 cases hs:symC c with
 | true=>rw[if_pos rfl];exact UA n c hs σ
 | false=>
  rw[if_neg (by decide)]
  by_cases hc:c<128
  ·exact UB n c (Ab2 hs hc) σ
  ·exact W9 (n+5) c ⟨by omega,h⟩ σ
theorem Abl(t:ByteArray)(i:Nat):byteAt t i<256:=UInt8.toNat_lt _
def okAt(t:ByteArray)(i:Nat):Bool:=symC (byteAt t i)&&(!digC (byteAt t i)||decide (1<i)||(decide (i=1)&&!(byteAt t 0==45)))
theorem AnC(n i c:Nat)(t:ByteArray)(f g:Nat→Value)(σ:FState)(hi:i<t.size)(hsz:i<1000000)(hc:byteAt t i=c)(hok:okAt t i=false)(f0:f 0=.string t)(g13:g 13=.int .i64 (.ofNat t.size))(g14:g 14=.int .i64 (.ofNat i)):
  ∃f' g',Fe (env (n+20)) none 170 (Sl 4 38 f g []) none σ=.done .ret (Sl 4 38 f' g' []) none σ∧f' 2=.bool false:=by
 have d0:decide (Int.ofNat i<Int.ofNat t.size)=true:=by simp;omega
 have hb:=EV t i hi σ
 rw[hc] at hb
 have hlt:c<256:=hc ▸ Abl t i
 have hcl:=Abn n c hlt σ
 have hcv:=Abp c hlt σ
 unfold okAt at hok
 rw[hc] at hok
 unfold Fe
 cases hs:symC c with
 | false=>
  have hq:clsA c=0:=by unfold clsA;rw[hs];rfl
  rw[hq] at hcl
  have e2:((0:Int)==2)=false:=rfl
  have e0:((0:Int)==0)=true:=rfl
  simp -implicitDefEqProofs only[go_sem,EL,E7,FC,FZ,FD,F7,FE,F8,FF,F9,FG,F_,Jh,HF,f0,g13,g14,d0,hb,hcv,hcl,e2,e0,Ag]
  exact⟨_,_,rfl,by simp -implicitDefEqProofs only[go_sem,reduceCtorEq]⟩
 | true=>
  rw[hs,Bool.true_and,Bool.or_eq_false_iff,Bool.or_eq_false_iff] at hok
  obtain⟨⟨h1,h2⟩,h3⟩:=hok
  have hd:digC c=true:=by simpa using h1
  have hi1:¬ 1<i:=by simpa using h2
  have hq:clsA c=2:=by unfold clsA clsN;rw[hs,hd];rfl
  rw[hq] at hcl
  have e2:((2:Int)==2)=true:=rfl
  have d1:decide (Int.ofNat i>1)=false:=by simp;omega
  by_cases h0:i=1
  ·have h45:byteAt t 0=45:=by
    rw[h0] at h3
    simpa using h3
   have d2:(Int.ofNat i==1)=true:=by subst h0;rfl
   have b0:=Kn t (by omega) σ
   have e45:((byteAt t 0:Int)==45)=true:=by rw[h45];rfl
   simp -implicitDefEqProofs only[go_sem,EL,E7,FC,FZ,FD,F7,FE,F8,FF,F9,FG,F_,Jh,HF,f0,g13,g14,d0,hb,hcv,hcl,e2,d1,d2,b0,e45,Aaq,Bool.not_true,Ag]
   exact⟨_,_,rfl,by simp -implicitDefEqProofs only[go_sem,reduceCtorEq]⟩
  ·obtain rfl:i=0:=by omega
   have d2:(Int.ofNat 0==1)=false:=rfl
   simp -implicitDefEqProofs only[go_sem,EL,E7,FC,FZ,FD,F7,FE,F8,FF,F9,FG,F_,Jh,HF,f0,g13,g14,d0,hb,hcv,hcl,e2,d1,d2,Ag]
   exact⟨_,_,rfl,by simp -implicitDefEqProofs only[go_sem,reduceCtorEq]⟩
end
section
open Go Go.Eng
attribute [local congr] Ab Ah Af Ad Ae
attribute [-go_sem] List.range_succ
theorem GL{t:ByteArray}{i:Nat}(hi:i<t.size)(h:byteAt t i<128):Utf8.decode t i=(byteAt t i,1):=by
 have e:(t.get! (i+0)).toNat=byteAt t i:=by
  unfold byteAt
  rw[Nat.add_zero,getElem!_pos t i hi]
  obtain⟨a⟩:=t
  show (a[i]!).toNat=_
  rw[getElem!_pos a i hi]
  rfl
 unfold Utf8.decode
 simp only[e]
 rw[if_pos (by omega)]
theorem XI{t:ByteArray}(h:plainB t=true):PlainText t:=fun pos hp=>by
 have:=List.all_eq_true.1 h pos (List.mem_range.2 hp)
 unfold plainC at this
 simp only[Bool.and_eq_true,decide_eq_true_eq] at this
 exact⟨byteAt t pos,GL hp (by omega),this.1,this.2⟩
theorem Lf(m:Nat){k z:Int}{t:ByteArray}{l:Nat}(h:pieceE k z t l=0):∃k':Nat,k=(k':Int)∧Good (m+21) k' z t l:=by
 unfold pieceE at h
 split at h
 ·rename_i hk
  split at h
  ·cases h
  ·rename_i hf
   rw[Bool.not_eq_true] at hf
   have hk':k=0∨k=1∨k=2∨k=3∨k=4∨k=5∨k=6:=by omega
   unfold formB at hf
   rcases hk' with rfl|rfl|rfl|rfl|rfl|rfl|rfl
   ·simp at hf
    obtain⟨⟨rfl,ht⟩,rfl⟩:=hf
    obtain rfl:t=⟨#[]⟩:=ht.trans rfl
    exact⟨0,rfl,.nil⟩
   ·simp at hf h
    obtain⟨ht,rfl⟩:=hf
    obtain rfl:t=⟨#[]⟩:=ht.trans rfl
    exact⟨1,rfl,.bool z h⟩
   ·simp at hf h
    obtain⟨ht,rfl⟩:=hf
    obtain rfl:t=⟨#[]⟩:=ht.trans rfl
    exact⟨2,rfl,.num z h⟩
   ·simp at hf h
    obtain⟨rfl,rfl⟩:=hf
    exact⟨3,rfl,.sym t fun σ' hw=>⟨_,σ',Afb m t h σ',Ext.refl _,hw,rfl⟩⟩
   ·simp at hf h
    obtain⟨rfl,rfl⟩:=hf
    unfold textE at h
    split at h
    ·cases h
    ·split at h
     ·rename_i h1 h2
      exact⟨4,rfl,.str t (by omega) fun σ' hw=>M4 (m+20) t (XI h2) (by omega) σ' hw⟩
     ·cases h
   ·simp at hf
    obtain⟨⟨rfl,ht⟩,rfl⟩:=hf
    obtain rfl:t=⟨#[]⟩:=ht.trans rfl
    exact⟨5,rfl,.pair⟩
   ·simp at hf
    obtain⟨rfl,ht⟩:=hf
    obtain rfl:t=⟨#[]⟩:=ht.trans rfl
    exact⟨6,rfl,.vec l⟩
 ·cases h
mutual
theorem Ari(m:Nat):∀(d:D) (path:List Nat),firstE d=0→d.count≤900→∀x∈d.pieces path,x.2.parts.length≤900∧GoodD (m+21) x.2
 | .mk k z t ds,path,h,hc=>fun x hx=>by
  rw[firstE] at h
  rw[D.count] at hc
  have hl:=EU ds
  split at h
  ·rename_i hp
   rw[D.pieces] at hx
   rcases List.mem_cons.1 hx with rfl|hx
   ·refine⟨by show ds.length≤900;omega,fun k' z' t' ds' e=>?_⟩
    cases e
    exact Lf m hp
   ·exact AlR m ds path 0 h (by omega) x hx
  ·omega
theorem AlR(m:Nat):∀(ds:List D) (path:List Nat) (i:Nat),firstEs ds=0→D.counts ds≤900→∀x∈D.piecesL path i ds,x.2.parts.length≤900∧GoodD (m+21) x.2
 | [],path,i,_,_=>fun x hx=>by simp[D.piecesL] at hx
 | d::ds,path,i,h,hc=>fun x hx=>by
  rw[firstEs] at h
  rw[D.counts] at hc
  rw[D.piecesL] at hx
  split at h
  ·rename_i hp
   rcases List.mem_append.1 hx with hx|hx
   ·exact Ari m d _ hp (by omega) x hx
   ·exact AlR m ds path (i+1) h (by omega) x hx
  ·omega
end
theorem Aea(m:Nat){d:D}(h:firstE d=0)(hc:d.count<900):Apart (m+21) d:=⟨fun path=>Ari m d path h (by omega),hc,by have:=Dh d;omega⟩
end
section
open Go Go.Eng
attribute [local congr] Ab Ah Af Ad Ae
attribute [-go_sem] List.range_succ
theorem JK{t:ByteArray}{i:Nat}(h:okAt t i=true):symC (byteAt t i)=true∧(digC (byteAt t i)=true→1<i∨(i=1∧byteAt t 0≠45)):=by
 unfold okAt at h
 simp only[Bool.and_eq_true,Bool.or_eq_true,Bool.not_eq_true',decide_eq_true_eq,beq_eq_false_iff_ne,ne_eq] at h
 refine⟨h.1,fun hd=>?_⟩
 rcases h.2 with(h2|h2)|h2
 ·rw[hd] at h2;cases h2
 ·exact .inl h2
 ·exact .inr h2
theorem Afa(n:Nat)(t:ByteArray)(hsz:t.size≤20)(keep:List Nat)(hk:13∈keep∧14∈keep)(σ:FState):∀(j fuel i:Nat) (f g:Nat→Value),t.size-i=j→j<fuel→i≤t.size→f 0=.string t→g 13=.int .i64 (.ofNat t.size)→g 14=.int .i64 (.ofNat i)→
  ∃f' g',((∀k,i≤k→k<t.size→okAt t k=true)∧floop keep (Fe (env (n+20)) none 170) fuel (Sl 4 38 f g []) none σ=.done (.exit 0) (Sl 4 38 f' g' []) none σ)∨
   ((∃k,i≤k∧k<t.size∧okAt t k=false)∧floop keep (Fe (env (n+20)) none 170) fuel (Sl 4 38 f g []) none σ=.done .ret (Sl 4 38 f' g' []) none σ∧f' 2=.bool false):=by
 intro j
 induction j with
 | zero=>
  intro fuel i f g hj hf hi f0 g13 g14
  obtain⟨fuel,rfl⟩:∃q,fuel=q+1:=⟨fuel-1,by omega⟩
  obtain rfl:i=t.size:=by omega
  have d0:decide (Int.ofNat t.size<Int.ofNat t.size)=false:=by simp
  rw[Ar]
  have k13:kept keep g 13=.int .i64 (.ofNat t.size):=by rw[Fj,if_pos hk.1,g13]
  have k14:kept keep g 14=.int .i64 (.ofNat t.size):=by rw[Fj,if_pos hk.2,g14]
  have h:∃f' g',Fe (env (n+20)) none 170 (Sl 4 38 f (kept keep g) []) none σ=.done (.exit 0) (Sl 4 38 f' g' []) none σ:=by
   generalize kept keep g=g1 at *
   unfold Fe
   simp -implicitDefEqProofs only[go_sem,EL,E7,f0,k13,k14,d0]
   exact⟨_,_,rfl⟩
  obtain⟨f',g',e⟩:=h
  refine⟨f',g',.inl ⟨fun k h1 h2=>by omega,?_⟩⟩
  simp -implicitDefEqProofs only[BU,e,AL]
 | succ j ih=>
  intro fuel i f g hj hf hi f0 g13 g14
  obtain⟨fuel,rfl⟩:∃q,fuel=q+1:=⟨fuel-1,by omega⟩
  have hlt:i<t.size:=by omega
  rw[Ar]
  have k13:kept keep g 13=.int .i64 (.ofNat t.size):=by rw[Fj,if_pos hk.1,g13]
  have k14:kept keep g 14=.int .i64 (.ofNat i):=by rw[Fj,if_pos hk.2,g14]
  cases hok:okAt t i with
  | true=>
   obtain⟨f1,g1,h0,h13,e,h14⟩:=Aal n i (byteAt t i) t f (kept keep g) σ hlt (by omega) rfl (JK hok).1 (JK hok).2 f0 k13 k14
   obtain⟨f2,g2,h⟩:=ih fuel (i+1) f1 g1 (by omega) (by omega) (by omega) h0 h13 h14
   refine⟨f2,g2,?_⟩
   simp -implicitDefEqProofs only[BU,e,Aq]
   rcases h with⟨h4,h5⟩|⟨⟨k,h4,h5,h6⟩,h7,h8⟩
   ·refine .inl ⟨fun k h1 h2=>?_,h5⟩
    by_cases hk:k=i
    ·subst hk;exact hok
    ·exact h4 k (by omega) h2
   ·exact .inr ⟨⟨k,by omega,h5,h6⟩,h7,h8⟩
  | false=>
   obtain⟨f1,g1,e,h2⟩:=AnC n i (byteAt t i) t f (kept keep g) σ hlt (by omega) rfl hok f0 k13 k14
   refine⟨f1,g1,.inr ⟨⟨i,Nat.le_refl _,hlt,hok⟩,?_,h2⟩⟩
   simp -implicitDefEqProofs only[BU,e,AV]
theorem AoU(t:ByteArray):symB t=(decide (1≤t.size)&&decide (t.size≤20)&&(List.range t.size).all (okAt t)):=by
 by_cases h1:1≤t.size
 ·by_cases h2:t.size≤20
  ·unfold symB
   rw[decide_eq_true h1,decide_eq_true h2,Bool.true_and,Bool.true_and,Bool.eq_iff_iff]
   simp only[Bool.and_eq_true,Bool.not_eq_true',List.all_eq_true,List.mem_range,true_and]
   constructor
   ·rintro⟨⟨h3,h4⟩,h5⟩ i hi
    unfold okAt
    rw[h5 i hi,Bool.true_and]
    by_cases hd:digC (byteAt t i)=true
    ·rw[hd]
     by_cases hi0:i=0
     ·subst hi0;rw[h3] at hd;cases hd
     ·by_cases hi1:i=1
      ·subst hi1
       have h45:byteAt t 0≠45:=fun h45=>by
        rw[hd,h45] at h4
        simp[hi] at h4
       simp[h45]
      ·simp;omega
    ·rw[Bool.not_eq_true] at hd
     rw[hd]
     rfl
   ·intro h
    refine⟨⟨?_,?_⟩,fun i hi=>(JK (h i hi)).1⟩
    ·rw[←Bool.not_eq_true]
     intro hd
     rcases (JK (h 0 h1)).2 hd with h6|h6
     ·omega
     ·omega
    ·rw[←Bool.not_eq_true]
     intro hh
     simp only[Bool.and_eq_true,beq_iff_eq,decide_eq_true_eq] at hh
     rcases (JK (h 1 hh.1.2)).2 hh.2 with h6|h6
     ·omega
     ·exact h6.2 hh.1.1
  ·unfold symB
   rw[decide_eq_false h2,Bool.and_false]
   rfl
 ·unfold symB
  rw[decide_eq_false h1]
  rfl
theorem AbP(n:Nat)(t:ByteArray)(σ:FState):(env (n+21)).call 170 [.string t] none σ=.ret (.bool (symB t)) none σ:=by
 rw[AoU,Ak _ 170 _ _ rfl,UN _ _ _ _ (by simp),Aj]
 unfold Uc
 by_cases h1:1≤t.size
 ·have d0:(Int.ofNat t.size==0)=false:=by rw[beq_eq_false_iff_ne];simp only[Int.ofNat_eq_natCast,ne_eq];omega
  rw[decide_eq_true h1,Bool.true_and]
  by_cases h2:t.size≤20
  ·have d1:decide (Int.ofNat t.size>20)=false:=by simp;omega
   rw[decide_eq_true h2,Bool.true_and]
   have hkeep:∃keep,keepOf nls 170=keep∧13∈keep∧14∈keep:=⟨_,rfl,by decide,by decide⟩
   obtain⟨keep,hkp,hk⟩:=hkeep
   simp -implicitDefEqProofs only[go_sem,Io,Im,Iq,Ip,Qe,Mj,d0,d1,Ag,hkp]
   generalize hff:upd _ 2 _=f1
   generalize hgg:upd _ 14 _=g1
   obtain⟨f',g',h⟩:=Afa n t h2 keep hk σ t.size bigFuel 0 f1 g1 (by omega) (by show t.size<1000000000000;omega) (by omega) (by rw[←hff];simp -implicitDefEqProofs only[go_sem,reduceCtorEq]) (by rw[←hgg];simp -implicitDefEqProofs only[go_sem,reduceCtorEq]) (by rw[←hgg];simp -implicitDefEqProofs only[go_sem,reduceCtorEq]<;>rfl)
   rcases h with⟨h3,h4⟩|⟨⟨k,h3,h4,h5⟩,h6,h7⟩
   ·have e:(List.range t.size).all (okAt t)=true:=List.all_eq_true.2 fun k hk=>h3 k (Nat.zero_le _) (List.mem_range.1 hk)
    rw[h4,e]
    simp -implicitDefEqProofs only[go_sem,Nv,J4]
   ·have e:(List.range t.size).all (okAt t)=false:=by
     rw[←Bool.not_eq_true,List.all_eq_true]
     intro h
     have:=h k (List.mem_range.2 h4)
     rw[h5] at this
     cases this
    rw[h6,e]
    simp -implicitDefEqProofs only[go_sem,h7]
  ·have d1:decide (Int.ofNat t.size>20)=true:=by simp;omega
   rw[decide_eq_false h2,Bool.false_and]
   simp -implicitDefEqProofs only[go_sem,Io,Im,Iq,Ip,Qd,Mi,d0,d1]
 ·have d0:(Int.ofNat t.size==0)=true:=by rw[beq_iff_eq];simp only[Int.ofNat_eq_natCast];omega
  rw[decide_eq_false h1,Bool.false_and,Bool.false_and]
  simp -implicitDefEqProofs only[go_sem,Io,Im,Iq,Ip,Qd,Mi,d0]
end
section
open Go Go.Eng
attribute [local congr] Ab Ah Af Ad Ae
attribute [-go_sem] List.range_succ
theorem Ae7{t:ByteArray}{i:Nat}(hi:i<t.size):(t.get! (i+0)).toNat=byteAt t i:=by
 unfold byteAt
 rw[Nat.add_zero,getElem!_pos t i hi]
 obtain⟨a⟩:=t
 show (a[i]!).toNat=_
 rw[getElem!_pos a i hi]
 rfl
theorem UD{t:ByteArray}{i:Nat}(hi:i<t.size)(h:128≤byteAt t i):126<(Utf8.decode t i).1:=by
 unfold Utf8.decode
 simp only[Ae7 hi]
 rw[if_neg (by omega)]
 split
 ·split
  ·simp only;omega
  ·show 126<Utf8.runeError;decide
 ·split
  ·split
   ·rename_i hh
    simp only[Bool.and_eq_true,decide_eq_true_eq] at hh
    simp only
    omega
   ·show 126<Utf8.runeError;decide
  ·split
   ·split
    ·rename_i hh
     simp only[Bool.and_eq_true,decide_eq_true_eq] at hh
     simp only
     omega
    ·show 126<Utf8.runeError;decide
   ·show 126<Utf8.runeError;decide
theorem OT(n r:Nat)(s:ByteArray)(hs:∃k,k<s.size∧plainC (byteAt s k)=false)(σ0:FState)(hr:σ0.next≤r):∀(m pos fuel:Nat) (f g:Nat→Value) (σ:FState),pos+m=s.size→m<fuel→(∀k,k<pos→plainC (byteAt s k)=true)→g 6=.pointer (some ⟨r,0,none⟩)→Wf σ→Ext σ0 σ→
  (∃ver,σ.heap.get r=some ⟨.siter s pos,false,none,ver⟩)→
  ∃f' g' σ',floop [6] (Hu (env n) none 171) fuel (Sl 5 16 f g []) none σ=.done .ret (Sl 5 16 f' g' []) none σ'∧Wf σ'∧Ext σ0 σ'∧f' 2=.bool false:=by
 intro m
 induction m with
 | zero=>
  intro pos fuel f g σ hp hf hpl h6 hw hX ⟨ver,hg⟩
  obtain⟨k,hk,hk2⟩:=hs
  rw[hpl k (by omega)] at hk2
  cases hk2
 | succ m ih=>
  intro pos fuel f g σ hp hf hpl h6 hw hX ⟨ver,hg⟩
  obtain⟨fuel,rfl⟩:∃q,fuel=q+1:=⟨fuel-1,by omega⟩
  have hlt:pos<s.size:=by omega
  cases hc:plainC (byteAt s pos) with
  | true=>
   have hc':=hc
   unfold plainC at hc'
   simp only[Bool.and_eq_true,decide_eq_true_eq] at hc'
   have hd:=GL hlt (by omega)
   have hn:=I8 hg hlt hd
   generalize hcc:byteAt s pos=c at *
   have d1:decide ((c:Int)<32)=false:=by simp;omega
   have d2:decide ((c:Int)>126)=false:=by simp;omega
   rw[Ar]
   unfold Hu
   simp -implicitDefEqProofs only[go_sem,Gx,G8,Iu,Ir,Iw,Iv,h6,hn,List.mem_cons,List.not_mem_nil,HS,Lu,d1,d2]
   refine ih (pos+1) fuel _ _ _ (by omega) (by omega) (fun k hk=>?_) ?_ (hw.put _ _ _ (hw _ _ hg).1) (hX.put _ _ _ hr) ⟨_,by rw[Am,if_pos rfl]⟩
   ·by_cases hkp:k=pos
    ·subst hkp;rw[hcc];exact hc
    ·exact hpl k (by omega)
   ·simp -implicitDefEqProofs only[go_sem,reduceCtorEq,h6,List.mem_cons,List.not_mem_nil,true_or]
  | false=>
   obtain⟨c,w,hd⟩:∃c w,Utf8.decode s pos=(c,w):=⟨_,_,rfl⟩
   have hn:=I8 hg hlt hd
   have bad:c<32∨126<c:=by
    by_cases hb:byteAt s pos<128
    ·rw[GL hlt hb] at hd
     cases hd
     unfold plainC at hc
     rw[Bool.and_eq_false_iff,decide_eq_false_iff_not,decide_eq_false_iff_not] at hc
     omega
    ·have:=UD hlt (by omega)
     rw[hd] at this
     exact .inr this
   have hfin:∃f' g',floop [6] (Hu (env n) none 171) (fuel+1) (Sl 5 16 f g []) none σ=.done .ret (Sl 5 16 f' g' []) none (σ.put r (.siter s (pos+w)) none)∧f' 2=.bool false:=by
    rw[Ar]
    unfold Hu
    by_cases h1:c<32
    ·have d1:decide ((c:Int)<32)=true:=by simp;omega
     simp -implicitDefEqProofs only[go_sem,Gx,G8,Iu,Ir,Iw,Iv,Qh,Mm,h6,hn,List.mem_cons,List.not_mem_nil,HS,Lu,d1]
     exact⟨_,_,rfl,by simp -implicitDefEqProofs only[go_sem,reduceCtorEq]⟩
    ·have d1:decide ((c:Int)<32)=false:=by simp;omega
     have d2:decide ((c:Int)>126)=true:=by simp;omega
     simp -implicitDefEqProofs only[go_sem,Gx,G8,Iu,Ir,Iw,Iv,Qh,Mm,h6,hn,List.mem_cons,List.not_mem_nil,HS,Lu,d1,d2]
     exact⟨_,_,rfl,by simp -implicitDefEqProofs only[go_sem,reduceCtorEq]⟩
   obtain⟨f',g',h1,h2⟩:=hfin
   exact⟨f',g',_,h1,hw.put _ _ _ (hw _ _ hg).1,hX.put _ _ _ hr,h2⟩
theorem VE(n:Nat)(s:ByteArray)(hs:plainB s=false)(hsz:s.size<1000000)(σ:FState)(hw:Wf σ):Gives ((env (n+1)).call 171 [.string s] none σ) σ fun w _=>w=.bool false:=by
 have hs':∃k,k<s.size∧plainC (byteAt s k)=false:=by
  unfold plainB at hs
  rw[List.all_eq_false] at hs
  obtain⟨k,h1,h2⟩:=hs
  exact⟨k,List.mem_range.1 h1,by simpa using h2⟩
 rw[Ak _ 171 _ _ rfl,UO _ _ _ _ (by simp),Aj]
 unfold Ud
 have hfr:frangeS (.string s) σ=.val (.pointer (some ⟨σ.next,0,none⟩)) (σ.push (.siter s 0) none):=rfl
 simp -implicitDefEqProofs only[go_sem,Qf,Mk,Qg,Ml,hfr,Aam]
 generalize hf:upd (fun _=>_) 2 _=f1
 generalize hbf:bigFuel=fuel
 obtain⟨f',g',σ',e,hw',hX',h2⟩:=OT n σ.next s hs' σ (Nat.le_refl _) s.size 0 fuel f1 (upd (upd (fun _=>undef) 5 (.string s)) 6 (.pointer (some ⟨σ.next,0,none⟩))) (σ.push (.siter s 0) none) (by omega) (by rw[←hbf];show s.size<1000000000000;omega) (fun k hk=>by omega) (by simp -implicitDefEqProofs only[go_sem,reduceCtorEq]) (hw.push _ _) ((Ext.refl _).push _ _) ⟨_,by rw[Ai,if_pos rfl]⟩
 rw[e]
 simp -implicitDefEqProofs only[go_sem,h2]
 exact⟨_,_,rfl,hX',hw',rfl⟩
end
section
open Go Go.Eng
attribute [local congr] Ab Ah Af Ad Ae
attribute [-go_sem] List.range_succ
theorem DW(id:Nat)(ch:List PanicEntry)(a:FAct)(u:Option FrameMode)(σ:FState):blockK id (.done (.panic ch) a u σ)=.done (.panic ch) a u σ:=rfl
section
variable {kk n l bw bo bp base:Nat} {R:Nat→Prop} {g:Value} {I:List (List Nat×D)→(Nat→Prop)→FState→Prop} {all done:List (List Nat×D)} {B:Nat→Prop} {u:Value} {us:List Value} {ds:List D} {i:Nat} {d:D} {r:List (List D×Nat)} {f:Nat→Value} {σ:FState}
def PanAt(E:Env)(l:Nat)(R:Nat→Prop)(I:List (List Nat×D)→(Nat→Prop)→FState→Prop)(J:(Nat→Prop)→FState→Prop)(pre:List (List Nat×D))(path:List Nat)(d:D)(ch:List PanicEntry):Prop:=
 ∀B σ pv v,Wf σ→I pre B σ→PathAt σ pv path→LaidR R σ v d→∃B' σ',E.round l [pv,v] σ=.pan ch none σ'∧Wf σ'∧Chg B σ σ'∧(∀b,B' b→B b∨σ.next≤b)∧J B' σ'
theorem AdQ{J:(Nat→Prop)→FState→Prop}{ch:List PanicEntry}(hB:BodyTo kk (env n) l R g I all)(hst:PanAt (env n) l R I J done (wayOf r++[i]) d ch)(h:WHead l R g I all bw bo bp base B (u::us) ((ds,i)::r) done f σ)(hd:ds[i]? = some d)(hr:r.length<90000)(gg:Nat→Value):
  ∃f' g' σ' B',Gc (env n) none 149 (Sl 8 80 f gg []) none σ=.done (.panic ch) (Sl 8 80 f' g' []) none σ'∧Chg (fun b=>B b∨base≤b) σ σ'∧(∀b,B' b→B b∨base≤b)∧Wf σ'∧J B' σ':=by
 obtain⟨p,c,mo,mp,rfl,hE,hl,h4,co,ho,h5,cp,hp⟩:=h.top
 have hv:=D0 h.wf (Nat.le_refl σ.clock)
 have d0:decide (Int.ofNat (r.length+1)>0)=true:=by simp
 have w1:=AsT r.length (by omega)
 have lt1:r.length<r.length+1:=Nat.lt_succ_self _
 have hi:i<ds.length:=(List.getElem?_eq_some_iff.1 hd).1
 have ne1:(Int.ofNat i==Int.ofNat ds.length)=false:=by simp;omega
 obtain⟨b,off,cs,rfl,hRb,hcs,hle,hL⟩:=LaidRE.get hE hd
 rw[Nat.zero_add] at hle hL
 obtain⟨k,z,t,q,c',hag,hq⟩:=LaidR.shape hL
 have htk:(cs.drop (off+i*4)).take 4=[.int .i64 k,.int .i64 z,.string t,.slice q d.parts.length c']:=by
  have:=congrArg (fun v=>match v with|.agg a=>a.toList|_=>[]) hag
  simpa using this
 rw[htk] at hL
 have hall:=h.all
 rw[FH r hd] at hall
 unfold Gc
 simp -implicitDefEqProofs only[go_sem,Ie,Ic,KA,JV,KC,JW,h4,h5,d0,w1,lt1,hv,co,cp,ho,hp,ne1]
 generalize hg:upd _ 33 _=g1
 clear hg
 have f4:upd f 6 (Value.int IntKind.i64 (Int.ofNat (r.length+1))) 4=f 4:=by simp -implicitDefEqProofs only[go_sem,reduceCtorEq]
 have f5:upd f 6 (Value.int IntKind.i64 (Int.ofNat (r.length+1))) 5=f 5:=by simp -implicitDefEqProofs only[go_sem,reduceCtorEq]
 have f0:upd f 6 (Value.int IntKind.i64 (Int.ofNat (r.length+1))) 0=f 0:=by simp -implicitDefEqProofs only[go_sem,reduceCtorEq]
 have f2:upd f 6 (Value.int IntKind.i64 (Int.ofNat (r.length+1))) 2=f 2:=by simp -implicitDefEqProofs only[go_sem,reduceCtorEq]
 have f6:upd f 6 (Value.int IntKind.i64 (Int.ofNat (r.length+1))) 6=Value.int IntKind.i64 (Int.ofNat (r.length+1)):=by simp -implicitDefEqProofs only[go_sem,reduceCtorEq]
 generalize upd f 6 _=f1 at f4 f5 f0 f2 f6 ⊢
 simp -implicitDefEqProofs only[go_sem,Aw,P5,L_,f4,f5,f6,h4,h5,w1,lt1,hv,co,cp,ho,hp,hi,hcs,hle,htk]
 generalize hg:upd _ 62 _=g2
 clear hg
 have p0:upd f1 7 (Value.pointer (some ⟨σ.next,0,none⟩)) 0=f 0:=by simp -implicitDefEqProofs only[go_sem,reduceCtorEq,f0]
 have p2:upd f1 7 (Value.pointer (some ⟨σ.next,0,none⟩)) 2=f 2:=by simp -implicitDefEqProofs only[go_sem,reduceCtorEq,f2]
 have p4:upd f1 7 (Value.pointer (some ⟨σ.next,0,none⟩)) 4=f 4:=by simp -implicitDefEqProofs only[go_sem,reduceCtorEq,f4]
 have p5:upd f1 7 (Value.pointer (some ⟨σ.next,0,none⟩)) 5=f 5:=by simp -implicitDefEqProofs only[go_sem,reduceCtorEq,f5]
 have p6:upd f1 7 (Value.pointer (some ⟨σ.next,0,none⟩)) 6=Value.int IntKind.i64 (Int.ofNat (r.length+1)):=by simp -implicitDefEqProofs only[go_sem,reduceCtorEq,f6]
 have p7:upd f1 7 (Value.pointer (some ⟨σ.next,0,none⟩)) 7=Value.pointer (some ⟨σ.next,0,none⟩):=by simp -implicitDefEqProofs only[go_sem,reduceCtorEq]
 generalize upd f1 7 _=f2' at p0 p2 p4 p5 p6 p7 ⊢
 have x1:Ext σ ((σ.push (.cells [.int .i64 0,.int .i64 0,.string ⟨#[]⟩,.slice none 0 0] TD) none).put σ.next (.cells [.int .i64 k,.int .i64 z,.string t,.slice q d.parts.length c'] TD) none):=((Ext.refl _).push _ _).put _ _ _ (Nat.le_refl _)
 have hw1:=(h.wf.push (.cells [.int .i64 0,.int .i64 0,.string ⟨#[]⟩,.slice none 0 0] TD) none).put σ.next (.cells [.int .i64 k,.int .i64 z,.string t,.slice q d.parts.length c'] TD) none (Nat.lt_succ_self _)
 have b1:((σ.push (.cells [.int .i64 0,.int .i64 0,.string ⟨#[]⟩,.slice none 0 0] TD) none).put σ.next (.cells [.int .i64 k,.int .i64 z,.string t,.slice q d.parts.length c'] TD) none).cells σ.next=some [.int .i64 k,.int .i64 z,.string t,.slice q d.parts.length c']:=by rw[Al,if_pos rfl];rfl
 have hcl:((σ.push (.cells [.int .i64 0,.int .i64 0,.string ⟨#[]⟩,.slice none 0 0] TD) none).put σ.next (.cells [.int .i64 k,.int .i64 z,.string t,.slice q d.parts.length c'] TD) none).clock=σ.clock+2:=rfl
 have hnx:((σ.push (.cells [.int .i64 0,.int .i64 0,.string ⟨#[]⟩,.slice none 0 0] TD) none).put σ.next (.cells [.int .i64 k,.int .i64 z,.string t,.slice q d.parts.length c'] TD) none).next=σ.next+1:=rfl
 generalize FState.put _ _ _ _=σ1 at x1 hw1 b1 hcl hnx ⊢
 have hv1:=D0 hw1 (Nat.le_of_eq hcl)
 have hlp:r.length+1≤(List.map (fun i=>Value.int IntKind.i64 (Int.ofNat i)) (wayOf r)++Value.int IntKind.i64 (Int.ofNat i)::mp).length:=by simp[Dw]
 have sl3:=Vk Tryz.prog 25 TI 1 bp 0 (r.length+1) _ (r.length+1) (view σ1 (σ.clock+2)) Ou Ui hlp
 have i1:I done B σ1:=hB.stays _ _ _ _ h.inv h.wf (x1.chg _)
 have hbpn:=h.pth.lt h.wf
 have hP:PathAt σ1 (.slice (some ⟨bp,0,none⟩) (r.length+1) (r.length+1)) (wayOf r++[i]):=⟨some ⟨bp,0,none⟩,r.length+1,by simp[Dw],.inr ⟨bp,mp,rfl,by rw[x1.cells hbpn,cp];simp⟩⟩
 have kR:∀b cs,R b→σ.cells b=some cs→σ1.cells b=some cs∧R b:=fun b cs hb hc=>⟨(x1.cells (h.wf.cells hc)).trans hc,hb⟩
 obtain⟨B',σ2,e2,hw2,ch2,hB',j2⟩:=hst B σ1 _ _ hw1 i1 hP (hL.keep kR)
 simp -implicitDefEqProofs only[go_sem,Nr,JU,p0,p5,p6,p7,h.f0,h5,hv1,b1,sl3,EO,E9,e2,Bi,Av]
 have hbase:=h.base
 have n1:=x1.next
 exact⟨_,_,σ2,B',rfl,(x1.chg _).trans (ch2.weaken fun b _ hb=>.inl hb) (fun b _ hb=>hb),fun b hb=>(hB' b hb).imp id fun h'=>by omega,hw2,j2⟩
theorem O3{J:(Nat→Prop)→FState→Prop}{ch:List PanicEntry}{pre rest:List (List Nat×D)}{path:List Nat}(hB:BodyTo pre.length (env n) l R g I all)(hst:PanAt (env n) l R I J pre path d ch)(hS:Small all)(hsplit:all=pre++(path,d)::rest):∀(m fuel:Nat) (st:List (List D×Nat)) (us:List Value) (done:List (List Nat×D)) (B:Nat→Prop) (bo bp:Nat) (f gg:Nat→Value) (σ:FState),
  2*(todo st).length+st.length≤m→m<fuel→st.length≤80000→done.length≤pre.length→WHead l R g I all bw bo bp base B us st done f σ→
  ∃f' g' σ' B',floop [] (Gc (env n) none 149) fuel (Sl 8 80 f gg []) none σ=.done (.panic ch) (Sl 8 80 f' g' []) none σ'∧Chg (fun b=>B b∨base≤b) σ σ'∧(∀b,B' b→B b∨base≤b)∧Wf σ'∧J B' σ':=by
 intro m
 induction m with
 | zero=>
  intro fuel st us done B bo bp f gg σ hm hf hst' hdl h
  obtain rfl:st=[]:=by cases st with|nil=>rfl|cons _ _=>simp at hm
  have hall:=h.all
  rw[show todo ([]:List (List D×Nat))=[] from rfl,List.append_nil,hsplit] at hall
  have:=congrArg List.length hall
  simp at this
  omega
 | succ m ih=>
  intro fuel st us done B bo bp f gg σ hm hf hst' hdl h
  obtain⟨fuel,rfl⟩:∃q,fuel=q+1:=⟨fuel-1,by omega⟩
  cases st with
  | nil=>exact ih (fuel+1) [] us done B bo bp f gg σ (by simp[todo]) (by omega) hst' hdl h
  | cons x r=>
   obtain⟨ds,i⟩:=x
   cases us with
   | nil=>exact absurd h.lev (fun h=>h)
   | cons u us=>
    have hi:i≤ds.length:=h.lev.2.1
    have hr:r.length+1≤80000:=hst'
    rw[Ar,BU]
    by_cases he:i=ds.length
    ·subst he
     obtain⟨f',g',σ',e,hC,hH⟩:=WG hB h (by omega) (kept [] gg)
     rw[e,Aq]
     rw[Ot,IZ] at hm
     have hlb:(bump r).length=r.length:=by cases r<;>rfl
     obtain⟨f2,g2,σ2,B2,e2,hC2,hB2,hw2,hJ2⟩:=ih fuel _ _ _ _ _ _ f' g' σ' (by simp at hm;omega) (by omega) (by omega) hdl hH
     exact⟨f2,g2,σ2,B2,e2,(hC.weaken fun b _ hb=>.inr hb.1).trans hC2 (fun b _ hb=>hb),hB2,hw2,hJ2⟩
    ·have hlt:i<ds.length:=by omega
     have hd:ds[i]? = some ds[i]:=List.getElem?_eq_getElem hlt
     have hall:=h.all
     rw[FH r hd] at hall
     have hx:=hS (wayOf r++[i],ds[i]) (by rw[hall];simp)
     by_cases hk:done.length<pre.length
     ·obtain⟨f',g',σ',B',bo',bp',u',e,hC,hBB,hH⟩:=WF hB hk h hd (by omega) hx.2 (kept [] gg)
      rw[e,Aq]
      rw[FH r hd] at hm
      have hl:(wayOf r++[i]).length=r.length+1:=by simp[Dw]
      have hx1:=hx.1
      simp only[hl] at hx1
      obtain⟨f2,g2,σ2,B2,e2,hC2,hB2,hw2,hJ2⟩:=ih fuel _ _ _ _ _ _ f' g' σ' (by simp at hm ⊢;omega) (by omega) (by simp;omega) (by simp;omega) hH
      refine⟨f2,g2,σ2,B2,e2,hC.trans hC2 fun b _ hb=>?_,fun b hb=>?_,hw2,hJ2⟩
      ·rcases hb with hb|hb
       ·exact hBB b hb
       ·exact .inr hb
      ·rcases hB2 b hb with hb|hb
       ·exact hBB b hb
       ·exact .inr hb
     ·have hle:done.length=pre.length:=by omega
      rw[hsplit] at hall
      obtain⟨h1,h2⟩:=List.append_inj hall hle.symm
      obtain⟨h3,h4⟩:=List.cons.inj h2
      obtain⟨h5,h6⟩:=Prod.mk.inj h3
      subst h1
      rw[h5] at hst
      have hst2:PanAt (env n) l R I J pre (wayOf r++[i]) ds[i] ch:=by rw[←h6];exact hst
      obtain⟨f',g',σ',B',e,hC,hBB,hw',hJ⟩:=AdQ hB hst2 h hd (by omega) (kept [] gg)
      rw[e,Av]
      exact⟨f',g',σ',B',rfl,hC,hBB,hw',hJ⟩
theorem Z7(d:D){J:(Nat→Prop)→FState→Prop}{ch:List PanicEntry}{pre rest:List (List Nat×D)}{path:List Nat}{x:D}(hB:BodyTo pre.length (env n) l R g I (d.pieces []))(hst:PanAt (env n) l R I J pre path x ch)(hsplit:d.pieces []=pre++(path,x)::rest)(hS:Small (d.pieces []))(hN:(d.pieces []).length<100000000000)(b1 b2:Nat)(σ:FState)(v:Value)(lv:List Value)(B:Nat→Prop)(hw:Wf σ)(hi:I [] B σ)(hcv:σ.cells b1=some lv)(hv:v=.agg lv.toArray)(hb1:¬ B b1)(hL:LaidR R σ v d)(hR:∀b,R b→b<σ.next)(hcw:σ.cells b2=some [g])(hb2:¬ B b2):
  ∃σ' B',(env (n+1)).call 149 [.func (.yield l) #[] #[],.pointer (some ⟨b1,0,none⟩),.pointer (some ⟨b2,0,none⟩)] none σ=.pan ch none σ'∧Chg B σ σ'∧(∀b,B' b→B b∨σ.next≤b)∧Wf σ'∧J B' σ':=by
 subst hv
 obtain⟨k,z,t,q,c',hag,hq⟩:=LaidR.shape hL
 have hlv:lv=[.int .i64 k,.int .i64 z,.string t,.slice q d.parts.length c']:=by
  have:=congrArg (fun v=>match v with|.agg a=>a.toList|_=>[]) hag
  simpa using this
 subst hlv
 have hpc:=D.pieces_eq [] d
 by_cases hpre:pre=[]
 ·subst hpre
  rw[hpc] at hsplit
  obtain⟨h3,h4⟩:=List.cons.inj hsplit
  obtain⟨h5,h6⟩:=Prod.mk.inj h3
  subst h5
  subst h6
  obtain⟨B',σ1,e1,hw1,ch1,hB1,j1⟩:=hst B σ (.slice none 0 0) _ hw hi ⟨none,0,rfl,.inl ⟨rfl,rfl,rfl⟩⟩ hL
  rw[Ak _ 149 _ _ rfl,MD _ _ _ _ (by simp),Aj]
  unfold Ob
  have tk:List.take 4 [Value.int .i64 k,.int .i64 z,.string t,.slice q d.parts.length c']=[.int .i64 k,.int .i64 z,.string t,.slice q d.parts.length c']:=rfl
  simp -implicitDefEqProofs only[go_sem,Kz,JT,hcv,EO,E9,e1,Bi,Av,AH,Bc]
  exact⟨_,_,rfl,ch1,hB1,hw1,j1⟩
 have hpos:0<pre.length:=List.length_pos_iff.2 hpre
 obtain⟨B',σ1,e1,hw1,ch1,hB1,i1⟩:=hB.go [] [] d _ B σ (.slice none 0 0) _ hpos (by rw[hpc];rfl) hw hi ⟨none,0,rfl,.inl ⟨rfl,rfl,rfl⟩⟩ hL
 have ownB:=hB.own _ _ _ hi
 have ownB1:=hB.own _ _ _ i1
 have hb1n:=hw.cells hcv
 have hb2n:=hw.cells hcw
 have n1:=ch1.next
 have cv1:σ1.cells b1=some [.int .i64 k,.int .i64 z,.string t,.slice q d.parts.length c']:=(ch1.cells hb1n hb1).trans hcv
 have cw1:σ1.cells b2=some [g]:=(ch1.cells hb2n hb2).trans hcw
 obtain⟨_,σ2,e2,x2,hw2,rfl⟩:=hB.inside _ B' σ1 k z t q d.parts.length c' i1 hw1
 have n2:=x2.next
 have x3:Ext σ2 ((σ2.push (.cells [.slice q d.parts.length c'] TL) none).push (.cells [.int .i64 0] TI) none):=((Ext.refl _).push _ _).push _ _
 have hw3:=(hw2.push (.cells [.slice q d.parts.length c'] TL) none).push (.cells [.int .i64 0] TI) none
 have hlow:∀b,B' b→B b∨σ.next≤b:=hB1
 have nB:∀b,b<σ.next→¬ B b→¬ B' b:=fun b hb h1 h2=>by
  rcases hB1 b h2 with h3|h3
  ·exact h1 h3
  ·omega
 have c03:∀b,b<σ.next→¬ B b→((σ2.push (.cells [.slice q d.parts.length c'] TL) none).push (.cells [.int .i64 0] TI) none).heap.get b=σ.heap.get b:=fun b hb h0=>
  (x3.get b (by omega)).trans ((x2.get b (by omega)).trans (ch1.get b hb h0))
 have kR:∀b cs,R b→σ.cells b=some cs→((σ2.push (.cells [.slice q d.parts.length c'] TL) none).push (.cells [.int .i64 0] TI) none).cells b=some cs:=fun b cs hb hc=>by
  rw[AG,c03 b (hR b hb) (fun hB0=>(ownB b hB0).2 hb),←AG]
  exact hc
 rw[Ak _ 149 _ _ rfl,MD _ _ _ _ (by simp),Aj]
 unfold Ob
 have tk:List.take 4 [Value.int .i64 k,.int .i64 z,.string t,.slice q d.parts.length c']=[.int .i64 k,.int .i64 z,.string t,.slice q d.parts.length c']:=rfl
 simp -implicitDefEqProofs only[go_sem,Kz,JT,P0,L7,P1,L8,hcv,EO,E9,e1,cw1,cv1,e2,Ao1,EQ]
 generalize hff:upd _ 5 _=f1
 generalize hgg:upd _ 16 _=g1
 generalize hbf:bigFuel=fuel
 have hH:WHead l R g I (d.pieces []) b2 σ2.next (σ2.next+1) σ.next B' [.slice q d.parts.length c'] [(d.parts,0)] ([]++[([],d)]) f1 ((σ2.push (.cells [.slice q d.parts.length c'] TL) none).push (.cells [.int .i64 0] TI) none):={
  f0:=by rw[←hff];simp -implicitDefEqProofs only[go_sem,reduceCtorEq]
  f2:=by rw[←hff];simp -implicitDefEqProofs only[go_sem,reduceCtorEq]
  cw:=by rw[AG,c03 b2 hb2n hb2,←AG];exact hcw
  hbw:=⟨hb2n,nB b2 hb2n hb2⟩
  opn:=⟨_,none,σ2.clock,by rw[←hff];simp -implicitDefEqProofs only[go_sem,reduceCtorEq]<;>rfl,by rw[Ai,if_neg (by rw[Aa];omega),Ai,if_pos rfl];rfl,.inl rfl,[],rfl⟩
  hbo:=⟨by omega,fun h=>by have:=(ownB1 _ h).1;omega⟩
  lev:=⟨⟨q,c',rfl,hq.keep fun b cs hb hc=>⟨kR b cs hb hc,hb⟩⟩,Nat.zero_le _,(hS ([],d) (by rw[hpc];exact List.mem_cons_self)).2,trivial⟩
  low:=hR
  pth:=⟨_,none,σ2.clock+1,by rw[←hff];simp -implicitDefEqProofs only[go_sem,reduceCtorEq]<;>rfl,by rw[Ai,if_pos (by rw[Aa])];rfl,.inl rfl,[],rfl⟩
  hbp:=⟨by omega,fun h=>by have:=(ownB1 _ h).1;omega⟩
  ne:=by omega
  inv:=hB.stays _ _ _ _ i1 hw1 (by
   have:=x2.clock
   have:=x3.clock
   have:=x3.next
   exact⟨by omega,by omega,fun b hb _=>(x3.get b (by omega)).trans (x2.get b hb)⟩)
  all:=by rw[hpc];show _=[]++[([],d)]++(D.piecesL [] 0 (d.parts.drop 0)++[]);simp
  wf:=hw3
  base:=by rw[Aa,Aa];omega }
 obtain⟨f2,g2,σ4,B4,e4,ch4,hB4,hw4,i4⟩:=O3 hB hst hS hsplit _ fuel _ _ _ _ _ _ f1 g1 _ (Nat.le_refl _) (by
  rw[←hbf]
  show _<1000000000000
  have h1:(todo [(d.parts,0)]).length=(D.piecesL [] 0 d.parts).length:=by simp[todo,below,wayOf]
  have h2:=congrArg List.length hpc
  rw[List.length_cons] at h2
  rw[h1,List.length_singleton]
  omega) (by simp) (by simp;omega) hH
 rw[e4]
 simp -implicitDefEqProofs only[go_sem,DW,Av,AH,Bc]
 refine⟨_,B4,rfl,⟨?_,?_,?_⟩,?_,hw4,i4⟩
 ·have:=x3.next;have:=ch4.next;omega
 ·have:=ch1.clock;have:=x2.clock;have:=x3.clock;have:=ch4.clock;omega
 ·intro b hb h0
  have:=x3.next
  rw[ch4.get b (by omega) (fun h=>by
   rcases h with h|h
   ·exact nB b hb h0 h
   ·omega)]
  exact c03 b hb h0
 ·intro b hb
  rcases hB4 b hb with h|h
  ·exact hB1 b h
  ·exact .inr h
end
end
section
open Go Go.Eng
attribute [local congr] Ab Ah Af Ad Ae
attribute [-go_sem] List.range_succ
theorem OO(l:Nat)(mark:List Deferred)(nl nt:Nat)(f g:Nat→Value)(ds:List Deferred)(u:Option FrameMode)(ch:List PanicEntry)(u':Option FrameMode)(σ:FState):
  leaveLoop l mark (Sl nl nt f g ds) u (.pan ch u' σ)=.done (.panic ch) (Sl nl nt f g (mark++ds)) u σ:=rfl
theorem QG(l:Nat)(ch:List PanicEntry)(nl nt:Nat)(f g:Nat→Value)(u:Option FrameMode)(σ:FState):endRound true l (.done (.panic ch) (Sl nl nt f g []) u σ)=.pan ch none σ:=rfl
theorem NZ{J:(Nat→Prop)→FState→Prop}{ch:List PanicEntry}{pre rest:List (List Nat×D)}{path:List Nat}{x:D}(m:Nat)(fn:FuncId)(params:List Tmp)(assign body:Code)(nl nt:Nat)(f g:Nat→Value)(ds:List Deferred)(u:Option FrameMode)(t b1 b2:Nat)(σ:FState)(w:Value)(R:Nat→Prop)(d:D)(lv:List Value)(I:List (List Nat×D)→(Nat→Prop)→FState→Prop)(B:Nat→Prop)(hB:BodyTo pre.length (env m) (σ.next+1) R w I (d.pieces []))(hst:PanAt (env m) (σ.next+1) R I J pre path x ch)(hsplit:d.pieces []=pre++(path,x)::rest)(hS:Small (d.pieces []))(hN:(d.pieces []).length<100000000000)(hi:I [] B ((σ.push (.defd true) none).push (.loop .ready none fn ((List.range nl).map f) g nl nt params assign body σ.next) none))(ht:(Sl nl nt f g ds).get t=.func (.func 149) #[] #[.pointer (some ⟨b1,0,none⟩),.pointer (some ⟨b2,0,none⟩)])(hw:Wf σ)(hcv:σ.cells b1=some lv)(hb1:¬ B b1)(hL:LaidR R σ (.agg lv.toArray) d)(hR:∀b,R b→b<σ.next)(hcw:σ.cells b2=some [w])(hb2:¬ B b2):
  ∃σ' B',frange (env (m+1)) none fn (.tmp t) params assign body (Sl nl nt f g ds) u σ=
    .done (.panic ch) (Sl nl nt f g ({ target:=.collected σ.next,args:=#[] }::ds)) u σ'∧
   Chg B σ σ'∧σ.next+2≤σ'.next∧(∀b,B' b→B b∨σ.next≤b)∧Wf σ'∧J B' σ':=by
 rw[Pn _ _ _ _ _ _ _ _ _ _ _ _ t _ _ _ ht]
 have x1:Ext σ ((σ.push (.defd true) none).push (.loop .ready none fn ((List.range nl).map f) g nl nt params assign body σ.next) none):=((Ext.refl _).push _ _).push _ _
 have hw1:=(hw.push (.defd true) none).push (.loop .ready none fn ((List.range nl).map f) g nl nt params assign body σ.next) none
 have hn1:((σ.push (.defd true) none).push (.loop .ready none fn ((List.range nl).map f) g nl nt params assign body σ.next) none).next=σ.next+2:=rfl
 generalize FState.push _ (.loop .ready none fn ((List.range nl).map f) g nl nt params assign body σ.next) none=σ1 at hi x1 hw1 hn1 ⊢
 have hb1n:=hw.cells hcv
 have hb2n:=hw.cells hcw
 obtain⟨σ2,B2,e2,ch2,hB2,hw2,i2⟩:=Z7 d hB hst hsplit hS hN b1 b2 σ1 _ lv B hw1 hi ((x1.cells hb1n).trans hcv) rfl hb1 (hL.keep fun b cs hb hc=>⟨(x1.cells (hw.cells hc)).trans hc,hb⟩) (fun b hb=>by have:=hR b hb;omega) ((x1.cells hb2n).trans hcw) hb2
 have hargs:(#[]:Array Value).toList++[Value.func (.yield (σ.next+1)) #[] #[]]++(#[.pointer (some ⟨b1,0,none⟩),.pointer (some ⟨b2,0,none⟩)]:Array Value).toList=[.func (.yield (σ.next+1)) #[] #[],.pointer (some ⟨b1,0,none⟩),.pointer (some ⟨b2,0,none⟩)]:=rfl
 rw[hargs,e2,OO]
 have n2:=ch2.next
 refine⟨σ2,B2,rfl,⟨by omega,Nat.le_trans x1.clock ch2.clock,fun b hb h0=>(ch2.get b (by omega) h0).trans (x1.get b hb)⟩,by omega,fun b hb=>?_,hw2,i2⟩
 rcases hB2 b hb with h|h
 ·exact .inl h
 ·exact .inr (by omega)
end
section
open Go Go.Eng
attribute [local congr] Ab Ah Af Ad Ae
attribute [-go_sem] List.range_succ
theorem AnK(n:Nat)(k z:Int)(t:ByteArray)(l:Nat)(p:Option Addr)(c:Nat)(σ:FState)(hw:Wf σ)(h:z≠0∨t.size≠0∨l≠0):
  Gives ((env (n+1)).call 233 [.agg #[.int .i64 k,.int .i64 z,.string t,.slice p l c]] none σ) σ fun w _=>w=.bool false:=by
 rw[Ak _ 233 _ _ rfl,US _ _ _ _ (by simp),Aj]
 unfold Ug
 by_cases hz:z=0
 ·have z1:(z==0)=true:=by simpa using hz
  by_cases ht:t.size=0
  ·have t1:(t.toList==(⟨#[]⟩:ByteArray).toList)=true:=by rw[Eg ht];exact beq_self_eq_true _
   by_cases hl:l=0
   ·have l1:(Int.ofNat l==0)=true:=by rw[hl];rfl
    exfalso
    omega
   ·have l1:(Int.ofNat l==0)=false:=by rw[beq_eq_false_iff_ne];simp only[Int.ofNat_eq_natCast,ne_eq];omega
    simp -implicitDefEqProofs only[go_sem,Iz,Iy,IB,IA,z1,t1,l1]
    exact⟨_,_,rfl,(Ext.refl _).push _ _,hw.push _ _,rfl⟩
  ·have t1:=EG ht
   simp -implicitDefEqProofs only[go_sem,Iz,Iy,IB,IA,z1,t1]
   exact⟨_,_,rfl,(Ext.refl _).push _ _,hw.push _ _,rfl⟩
 ·have z1:(z==0)=false:=by simpa using hz
  simp -implicitDefEqProofs only[go_sem,Iz,Iy,IB,IA,z1]
  exact⟨_,_,rfl,(Ext.refl _).push _ _,hw.push _ _,rfl⟩
theorem VD(n:Nat)(k z:Int)(t:ByteArray)(l:Nat)(p:Option Addr)(c:Nat)(σ:FState)(hw:Wf σ)(h:t.size≠0∨l≠0):
  Gives ((env (n+1)).call 231 [.agg #[.int .i64 k,.int .i64 z,.string t,.slice p l c]] none σ) σ fun w _=>w=.bool false:=by
 rw[Ak _ 231 _ _ rfl,UR _ _ _ _ (by simp),Aj]
 unfold Uf
 by_cases ht:t.size=0
 ·have t1:(t.toList==(⟨#[]⟩:ByteArray).toList)=true:=by rw[Eg ht];exact beq_self_eq_true _
  by_cases hl:l=0
  ·have l1:(Int.ofNat l==0)=true:=by rw[hl];rfl
   exfalso
   omega
  ·have l1:(Int.ofNat l==0)=false:=by rw[beq_eq_false_iff_ne];simp only[Int.ofNat_eq_natCast,ne_eq];omega
   simp -implicitDefEqProofs only[go_sem,KO,J9,KP,J_,t1,l1]
   exact⟨_,_,rfl,(Ext.refl _).push _ _,hw.push _ _,rfl⟩
 ·have t1:=EG ht
  simp -implicitDefEqProofs only[go_sem,KO,J9,KP,J_,t1]
  exact⟨_,_,rfl,(Ext.refl _).push _ _,hw.push _ _,rfl⟩
theorem Afm(n:Nat)(k z:Int)(t:ByteArray)(l:Nat)(p:Option Addr)(c:Nat)(σ:FState)(hw:Wf σ)(h:z≠0∨l≠0):
  Gives ((env (n+1)).call 225 [.agg #[.int .i64 k,.int .i64 z,.string t,.slice p l c]] none σ) σ fun w _=>w=.bool false:=by
 rw[Ak _ 225 _ _ rfl,UQ _ _ _ _ (by simp),Aj]
 unfold Ue
 by_cases hz:z=0
 ·have z1:(z==0)=true:=by simpa using hz
  by_cases hl:l=0
  ·have l1:(Int.ofNat l==0)=true:=by rw[hl];rfl
   exfalso
   omega
  ·have l1:(Int.ofNat l==0)=false:=by rw[beq_eq_false_iff_ne];simp only[Int.ofNat_eq_natCast,ne_eq];omega
   simp -implicitDefEqProofs only[go_sem,KM,J7,KN,J8,z1,l1]
   exact⟨_,_,rfl,(Ext.refl _).push _ _,hw.push _ _,rfl⟩
 ·have z1:(z==0)=false:=by simpa using hz
  simp -implicitDefEqProofs only[go_sem,KM,J7,KN,J8,z1]
  exact⟨_,_,rfl,(Ext.refl _).push _ _,hw.push _ _,rfl⟩
theorem VC(n:Nat)(k z:Int)(t:ByteArray)(l:Nat)(p:Option Addr)(c:Nat)(σ:FState)(hw:Wf σ)(h:z≠0∨t.size≠0∨(k≠6∧l≠2)):
  Gives ((env (n+1)).call 235 [.agg #[.int .i64 k,.int .i64 z,.string t,.slice p l c]] none σ) σ fun w _=>w=.bool false:=by
 rw[Ak _ 235 _ _ rfl,MG _ _ _ _ (by simp),Aj]
 unfold Oe
 by_cases hz:z=0
 ·have z1:(z==0)=true:=by simpa using hz
  by_cases ht:t.size=0
  ·have t1:(t.toList==(⟨#[]⟩:ByteArray).toList)=true:=by rw[Eg ht];exact beq_self_eq_true _
   by_cases hb:k≠6∧l≠2
   ·have b1:(k==6)=false:=by rw[beq_eq_false_iff_ne];exact hb.1
    have b2:(Int.ofNat l==2)=false:=by rw[beq_eq_false_iff_ne];simp only[Int.ofNat_eq_natCast,ne_eq];omega
    simp -implicitDefEqProofs only[go_sem,Gy,G9,Gz,G_,z1,t1,b1,b2]
    exact⟨_,_,rfl,(Ext.refl _).push _ _,hw.push _ _,rfl⟩
   ·exfalso
    omega
  ·have t1:=EG ht
   simp -implicitDefEqProofs only[go_sem,Gy,G9,Gz,G_,z1,t1]
   exact⟨_,_,rfl,(Ext.refl _).push _ _,hw.push _ _,rfl⟩
 ·have z1:(z==0)=false:=by simpa using hz
  simp -implicitDefEqProofs only[go_sem,Gy,G9,Gz,G_,z1]
  exact⟨_,_,rfl,(Ext.refl _).push _ _,hw.push _ _,rfl⟩
theorem Uw(n:Nat)(k z:Int)(t:ByteArray)(l:Nat)(p:Option Addr)(c:Nat)(σ:FState)(hw:Wf σ)(h:¬ (0≤k∧k≤6)):
  Fails ((env (n+3)).call 127 [.agg #[.int .i64 k,.int .i64 z,.string t,.slice p l c]] none σ) σ 4 0:=by
 rw[Ak _ 127 _ _ rfl,UJ _ _ _ _ (by simp),Aj]
 unfold T9
 have e0:(k==0)=false:=by rw[beq_eq_false_iff_ne];omega
 have e1:(k==1)=false:=by rw[beq_eq_false_iff_ne];omega
 have e2:(k==2)=false:=by rw[beq_eq_false_iff_ne];omega
 have e3:(k==3)=false:=by rw[beq_eq_false_iff_ne];omega
 have e4:(k==4)=false:=by rw[beq_eq_false_iff_ne];omega
 have e5:(k==5)=false:=by rw[beq_eq_false_iff_ne];omega
 have e6:(k==6)=false:=by rw[beq_eq_false_iff_ne];omega
 have hf:=fun τ=>Hi n 4 τ
 simp -implicitDefEqProofs only[go_sem,EI,E4,EJ,E5,EK,E6,EY,Fp,Fx,FU,Gr,GZ,H6,H5,Jf,HC,Nm,JR,XW,Nq,e0,e1,e2,e3,e4,e5,e6,hf,Ag,Bi,Av,AH,Bc]
 exact⟨_,rfl,(Ext.refl _).push _ _,hw.push _ _⟩
theorem Ks(n:Nat)(z:Int)(t:ByteArray)(q:Value)(hq:oneCell q=true)(σ:FState)(hw:Wf σ)(h:¬ (0≤z∧z≤1)):
  Fails ((env (n+3)).call 151 [.agg #[.int .i64 1,.int .i64 z,.string t,q]] none σ) σ 13 0:=by
 rw[Ak _ 151 _ _ rfl,ME _ _ _ _ (by simp),Aj]
 unfold Oc
 have hf:=fun τ=>Hi n 13 τ
 by_cases h1:z<0
 ·have d1:decide (z<0)=true:=by simp;omega
  simp -implicitDefEqProofs only[go_sem,Int.reduceBEq,Fy,FV,Fz,FW,FA,FX,Gs,G0,FB,FY,Ih,Ig,hq,d1,hf,Ag,Bi,Av,AH,Bc]
  exact⟨_,rfl,(Ext.refl _).push _ _,hw.push _ _⟩
 ·have d1:decide (z<0)=false:=by simp;omega
  have d2:decide (z>1)=true:=by simp;omega
  simp -implicitDefEqProofs only[go_sem,Int.reduceBEq,Fy,FV,Fz,FW,FA,FX,Gs,G0,FB,FY,Ih,Ig,hq,d1,d2,hf,Ag,Bi,Av,AH,Bc]
  exact⟨_,rfl,(Ext.refl _).push _ _,hw.push _ _⟩
theorem Kt(n:Nat)(z:Int)(t:ByteArray)(q:Value)(hq:oneCell q=true)(σ:FState)(hw:Wf σ)(h:¬ ((-999999999)≤z∧z≤999999999)):
  Fails ((env (n+3)).call 151 [.agg #[.int .i64 2,.int .i64 z,.string t,q]] none σ) σ 13 0:=by
 rw[Ak _ 151 _ _ rfl,ME _ _ _ _ (by simp),Aj]
 unfold Oc
 have hf:=fun τ=>Hi n 13 τ
 by_cases h1:z<(-999999999)
 ·have d1:decide (z<(-999999999))=true:=by simp;omega
  simp -implicitDefEqProofs only[go_sem,Int.reduceBEq,Fy,FV,Fz,FW,FA,FX,Gs,G0,FB,FY,Ih,Ig,hq,d1,hf,Ag,Bi,Av,AH,Bc]
  exact⟨_,rfl,(Ext.refl _).push _ _,hw.push _ _⟩
 ·have d1:decide (z<(-999999999))=false:=by simp;omega
  have d2:decide (z>999999999)=true:=by simp;omega
  simp -implicitDefEqProofs only[go_sem,Int.reduceBEq,Fy,FV,Fz,FW,FA,FX,Gs,G0,FB,FY,Ih,Ig,hq,d1,d2,hf,Ag,Bi,Av,AH,Bc]
  exact⟨_,rfl,(Ext.refl _).push _ _,hw.push _ _⟩
theorem Lo(n:Nat)(z:Int)(t:ByteArray)(q:Value)(hq:oneCell q=true)(σ:FState)(hw:Wf σ)(h:symB t=false):
  Fails ((env (n+22)).call 152 [.agg #[.int .i64 3,.int .i64 z,.string t,q]] none σ) σ 2 0:=by
 rw[Ak _ 152 _ _ rfl,MF _ _ _ _ (by simp),Aj]
 unfold Od
 have hf:=fun τ=>Hi (n+19) 2 τ
 have hy:=fun τ=>AbP n t τ
 rw[h] at hy
 simp -implicitDefEqProofs only[go_sem,Int.reduceBEq,Gt,G1,Gu,G3,KD,JX,Gv,G6,KE,JY,Gw,G7,KF,JZ,hq,hy,Bool.not_false,hf,Ag,Bi,Av,DW,AH,Bc]
 exact⟨_,rfl,(Ext.refl _).push _ _,hw.push _ _⟩
theorem Ln(n:Nat)(z:Int)(t:ByteArray)(q:Value)(hq:oneCell q=true)(σ:FState)(hw:Wf σ)(h:textE t≠0):
  Fails ((env (n+22)).call 152 [.agg #[.int .i64 4,.int .i64 z,.string t,q]] none σ) σ (textE t:Nat) 0:=by
 rw[Ak _ 152 _ _ rfl,MF _ _ _ _ (by simp),Aj]
 unfold Od
 have x1:Ext σ (σ.push (.cells [.int .i64 4,.int .i64 z,.string t,q] 151) none):=(Ext.refl _).push _ _
 have hw1:=hw.push (.cells [.int .i64 4,.int .i64 z,.string t,q] 151) none
 by_cases h1:60<t.size
 ·have e:textE t=8:=by unfold textE;rw[if_pos h1]
  have d1:decide (Int.ofNat t.size>60)=true:=by simp;omega
  have hf:=fun τ=>Hi (n+19) 8 τ
  simp -implicitDefEqProofs only[go_sem,Int.reduceBEq,Gt,G1,Gu,G3,KD,JX,Gv,G6,KE,JY,Gw,G7,KF,JZ,hq,d1,hf,Ag,Bi,Av,DW,AH,Bc]
  exact⟨_,by rw[e];rfl,x1,hw1⟩
 ·have hp:plainB t=false:=by
   rw[←Bool.not_eq_true]
   intro hp
   apply h
   unfold textE
   rw[if_neg h1,if_pos hp]
  have e:textE t=13:=by unfold textE;rw[if_neg h1,hp];rfl
  have d1:decide (Int.ofNat t.size>60)=false:=by simp;omega
  have hf:=fun τ=>Hi (n+19) 13 τ
  obtain⟨_,σ2,e2,x2,hw2,rfl⟩:=VE (n+20) t hp (by omega) _ hw1
  simp -implicitDefEqProofs only[go_sem,Int.reduceBEq,Gt,G1,Gu,G3,KD,JX,Gv,G6,KE,JY,Gw,G7,KF,JZ,hq,d1,e2,Bool.not_false,hf,Ag,Bi,Av,DW,AH,Bc]
  exact⟨_,by rw[e];rfl,x1.trans x2,hw2⟩
end
section
open Go Go.Eng
attribute [local congr] Ab Ah Af Ad Ae
attribute [-go_sem] List.range_succ
theorem Q_{k z:Int}{t:ByteArray}{l:Nat}(h:pieceE k z t l≠0):(¬ (0≤k∧k≤6)∧pieceE k z t l=4)∨
  (0≤k∧k≤6∧formB k z t l=true∧pieceE k z t l=1)∨
  (formB k z t l=false∧((k=1∧¬ (0≤z∧z≤1)∧pieceE k z t l=13)∨(k=2∧¬ (-999999999≤z∧z≤999999999)∧pieceE k z t l=13)∨(k=3∧symB t=false∧pieceE k z t l=2)∨(k=4∧textE t≠0∧pieceE k z t l=textE t))):=by
 unfold pieceE at h ⊢
 by_cases hk:0≤k∧k≤6
 ·rw[if_pos hk] at h ⊢
  cases hf:formB k z t l with
  | true=>exact .inr (.inl ⟨hk.1,hk.2,rfl,by rw[if_pos rfl]⟩)
  | false=>
   refine .inr (.inr ⟨rfl,?_⟩)
   rw[hf,if_neg (by decide)] at h
   rw[if_neg (by decide)]
   by_cases h1:k=1
   ·rw[if_pos h1] at h ⊢
    split at h
    ·exact absurd rfl h
    ·rename_i hr
     rw[if_neg hr]
     exact .inl ⟨h1,hr,rfl⟩
   ·rw[if_neg h1] at h ⊢
    by_cases h2:k=2
    ·rw[if_pos h2] at h ⊢
     split at h
     ·exact absurd rfl h
     ·rename_i hr
      rw[if_neg hr]
      exact .inr (.inl ⟨h2,hr,rfl⟩)
    ·rw[if_neg h2] at h ⊢
     by_cases h3:k=3
     ·rw[if_pos h3] at h ⊢
      split at h
      ·exact absurd rfl h
      ·rename_i hr
       rw[if_neg hr]
       exact .inr (.inr (.inl ⟨h3,by simpa using hr,rfl⟩))
     ·rw[if_neg h3] at h ⊢
      by_cases h4:k=4
      ·rw[if_pos h4] at h ⊢
       exact .inr (.inr (.inr ⟨h4,h,rfl⟩))
      ·rw[if_neg h4] at h
       exact absurd rfl h
 ·rw[if_neg hk]
  exact .inl ⟨hk,rfl⟩
theorem Anz{k z:Int}{t:ByteArray}{l:Nat}(h:formB k z t l=true):((k≠1∧k≠2)∧z≠0)∨((k≠3∧k≠4)∧t.size≠0)∨((k≠5∧k≠6)∧l≠0)∨(k=5∧l≠2):=by
 unfold formB at h
 simp only[Bool.or_eq_true,Bool.and_eq_true,Bool.not_eq_true',Bool.or_eq_false_iff,beq_eq_false_iff_ne,bne_iff_ne,decide_eq_true_eq,beq_iff_eq,ne_eq] at h
 omega
theorem Ae5{k z:Int}{t:ByteArray}{l:Nat}(h:formB k z t l=false):((k=1∨k=2)∨z=0)∧((k=3∨k=4)∨t.size=0)∧((k=5∨k=6)∨l=0):=by
 unfold formB at h
 simp only[Bool.or_eq_false_iff,Bool.and_eq_false_iff,Bool.not_eq_false',Bool.or_eq_true,beq_iff_eq,bne_eq_false_iff_eq,decide_eq_false_iff_not,ne_eq,Decidable.not_not] at h
 omega
theorem QX(n:Nat)(k z:Int)(t:ByteArray)(l:Nat)(p:Option Addr)(c:Nat)(σ:FState)(hw:Wf σ)(h:pieceE k z t l≠0):
  Fails ((env (n+24)).call 122 [.agg #[.int .i64 k,.int .i64 z,.string t,.slice p l c]] none σ) σ (pieceE k z t l:Nat) 0:=by
 have hX1:=(Ext.refl σ).push (.cells [.int .i64 k,.int .i64 z,.string t,.slice p l c] 24) none
 have hw1:=hw.push (.cells [.int .i64 k,.int .i64 z,.string t,.slice p l c] 24) none
 rw[Ak _ 122 _ _ rfl,UI _ _ _ _ (by simp),Aj]
 unfold TZ
 rcases Q_ h with⟨hk,he⟩|⟨hk1,hk2,hf,he⟩|⟨hf,hc⟩
 ·obtain⟨σ2,e2,hX2,hw2⟩:=Uw (n+20) k z t l p c _ hw1 hk
  simp -implicitDefEqProofs only[go_sem,Di,D2,Dj,D3,e2,Bi,Av,AH,Bc]
  exact⟨_,by rw[he];rfl,hX1.trans hX2,hw2⟩
 ·have hfa:=Anz hf
  have hfl:=fun τ=>Hi (n+21) 1 τ
  obtain⟨k,rfl⟩:∃k':Nat,k=(k':Int):=⟨k.toNat,by omega⟩
  obtain⟨_,σ2,e2,hX2,hw2,rfl⟩:=Ft (n+22) k (by omega) z t (.slice p l c) rfl _ hw1
  have hX:=hX1.trans hX2
  obtain rfl|rfl|rfl|rfl|rfl|rfl|rfl:k=0∨k=1∨k=2∨k=3∨k=4∨k=5∨k=6:=by omega
  ·obtain⟨_,σ3,e3,hX3,hw3,rfl⟩:=AnK (n+22) ((0:Nat):Int) z t l p c σ2 hw2 (by omega)
   have wt:workType 0=187:=rfl
   simp -implicitDefEqProofs only[go_sem,Di,D2,Dj,D3,Dn,D4,EW,Fl,e2,wt,Vm,e3,Bool.not_false,hfl,Bi,Av,AH,Bc]
   exact⟨_,by rw[he];rfl,hX.trans hX3,hw3⟩
  ·obtain⟨_,σ3,e3,hX3,hw3,rfl⟩:=VD (n+22) ((1:Nat):Int) z t l p c σ2 hw2 (by omega)
   have wt:workType 1=184:=rfl
   simp -implicitDefEqProofs only[go_sem,Di,D2,Dj,D3,Dn,D4,EW,Fl,e2,wt,Fw,e3,Bool.not_false,hfl,Bi,Av,AH,Bc]
   exact⟨_,by rw[he];rfl,hX.trans hX3,hw3⟩
  ·obtain⟨_,σ3,e3,hX3,hw3,rfl⟩:=VD (n+22) ((2:Nat):Int) z t l p c σ2 hw2 (by omega)
   have wt:workType 2=184:=rfl
   simp -implicitDefEqProofs only[go_sem,Di,D2,Dj,D3,Dn,D4,EW,Fl,e2,wt,Fw,e3,Bool.not_false,hfl,Bi,Av,AH,Bc]
   exact⟨_,by rw[he];rfl,hX.trans hX3,hw3⟩
  ·obtain⟨_,σ3,e3,hX3,hw3,rfl⟩:=Afm (n+22) ((3:Nat):Int) z t l p c σ2 hw2 (by omega)
   have wt:workType 3=151:=rfl
   simp -implicitDefEqProofs only[go_sem,Di,D2,Dj,D3,Dn,D4,EW,Fl,e2,wt,HP,e3,Bool.not_false,hfl,Bi,Av,AH,Bc]
   exact⟨_,by rw[he];rfl,hX.trans hX3,hw3⟩
  ·obtain⟨_,σ3,e3,hX3,hw3,rfl⟩:=Afm (n+22) ((4:Nat):Int) z t l p c σ2 hw2 (by omega)
   have wt:workType 4=151:=rfl
   simp -implicitDefEqProofs only[go_sem,Di,D2,Dj,D3,Dn,D4,EW,Fl,e2,wt,HP,e3,Bool.not_false,hfl,Bi,Av,AH,Bc]
   exact⟨_,by rw[he];rfl,hX.trans hX3,hw3⟩
  ·obtain⟨_,σ3,e3,hX3,hw3,rfl⟩:=VC (n+22) ((5:Nat):Int) z t l p c σ2 hw2 (by omega)
   have wt:workType 5=188:=rfl
   simp -implicitDefEqProofs only[go_sem,Di,D2,Dj,D3,Dn,D4,EW,Fl,e2,wt,HO,e3,Bool.not_false,hfl,Bi,Av,AH,Bc]
   exact⟨_,by rw[he];rfl,hX.trans hX3,hw3⟩
  ·obtain⟨_,σ3,e3,hX3,hw3,rfl⟩:=VC (n+22) ((6:Nat):Int) z t l p c σ2 hw2 (by omega)
   have wt:workType 6=188:=rfl
   simp -implicitDefEqProofs only[go_sem,Di,D2,Dj,D3,Dn,D4,EW,Fl,e2,wt,HO,e3,Bool.not_false,hfl,Bi,Av,AH,Bc]
   exact⟨_,by rw[he];rfl,hX.trans hX3,hw3⟩
 ·have hfn:=Ae5 hf
  rcases hc with⟨rfl,hr,he⟩|⟨rfl,hr,he⟩|⟨rfl,hr,he⟩|⟨rfl,hr,he⟩
  ·obtain⟨_,σ2,e2,hX2,hw2,rfl⟩:=Ft (n+22) 1 (by omega) z t (.slice p l c) rfl _ hw1
   have hX:=hX1.trans hX2
   obtain rfl:l=0:=by omega
   obtain rfl:t=⟨#[]⟩:=Eg (by omega)
   obtain⟨_,σ3,e3,hX3,hw3,rfl⟩:=E3 (n+22) ((1:Nat):Int) z p c σ2 hw2
   obtain⟨σ5,e5,hX5,hw5⟩:=Ks (n+20) z ⟨#[]⟩ (.slice p 0 c) rfl ((σ3.push (.cells [.int .i64 0,.int .i64 0,.string ⟨#[]⟩,.slice none 0 0] 184) none).put σ3.next (.cells [.int .i64 ((1:Nat):Int),.int .i64 z,.string ⟨#[]⟩,.slice p 0 c] 184) none) ((hw3.push _ _).put _ _ _ (Nat.lt_succ_self _)) hr
   have hX4:=(((hX.trans hX3).push (.cells [.int .i64 0,.int .i64 0,.string ⟨#[]⟩,.slice none 0 0] 184) none).put σ3.next (.cells [.int .i64 ((1:Nat):Int),.int .i64 z,.string ⟨#[]⟩,.slice p 0 c] 184) none (hX.trans hX3).next).trans hX5
   have wt:workType 1=184:=rfl
   have e5':(env (n+23)).call 151 [.agg #[.int .i64 ((1:Nat):Int),.int .i64 z,.string ⟨#[]⟩,.slice p 0 c]] none _=_:=e5
   have e2':(env (n+23)).call 127 [.agg #[.int .i64 1,.int .i64 z,.string ⟨#[]⟩,.slice p 0 c]] none _=_:=e2
   simp -implicitDefEqProofs only[go_sem,Aw,Di,D2,Dj,D3,Dn,D4,Ej,Ey,Ek,Ez,HY,HX,H0,HZ,e2',wt,Fw,e3,Jn,e5',Bool.not_true,Bi,Av,DW,AH,Bc,Ag]
   exact⟨_,by rw[he]<;>rfl,hX4,hw5⟩
  ·obtain⟨_,σ2,e2,hX2,hw2,rfl⟩:=Ft (n+22) 2 (by omega) z t (.slice p l c) rfl _ hw1
   have hX:=hX1.trans hX2
   obtain rfl:l=0:=by omega
   obtain rfl:t=⟨#[]⟩:=Eg (by omega)
   obtain⟨_,σ3,e3,hX3,hw3,rfl⟩:=E3 (n+22) ((2:Nat):Int) z p c σ2 hw2
   obtain⟨σ5,e5,hX5,hw5⟩:=Kt (n+20) z ⟨#[]⟩ (.slice p 0 c) rfl ((σ3.push (.cells [.int .i64 0,.int .i64 0,.string ⟨#[]⟩,.slice none 0 0] 184) none).put σ3.next (.cells [.int .i64 ((2:Nat):Int),.int .i64 z,.string ⟨#[]⟩,.slice p 0 c] 184) none) ((hw3.push _ _).put _ _ _ (Nat.lt_succ_self _)) hr
   have hX4:=(((hX.trans hX3).push (.cells [.int .i64 0,.int .i64 0,.string ⟨#[]⟩,.slice none 0 0] 184) none).put σ3.next (.cells [.int .i64 ((2:Nat):Int),.int .i64 z,.string ⟨#[]⟩,.slice p 0 c] 184) none (hX.trans hX3).next).trans hX5
   have wt:workType 2=184:=rfl
   have e5':(env (n+23)).call 151 [.agg #[.int .i64 ((2:Nat):Int),.int .i64 z,.string ⟨#[]⟩,.slice p 0 c]] none _=_:=e5
   have e2':(env (n+23)).call 127 [.agg #[.int .i64 2,.int .i64 z,.string ⟨#[]⟩,.slice p 0 c]] none _=_:=e2
   simp -implicitDefEqProofs only[go_sem,Aw,Di,D2,Dj,D3,Dn,D4,Ej,Ey,Ek,Ez,HY,HX,H0,HZ,e2',wt,Fw,e3,Jn,e5',Bool.not_true,Bi,Av,DW,AH,Bc,Ag]
   exact⟨_,by rw[he]<;>rfl,hX4,hw5⟩
  ·obtain⟨_,σ2,e2,hX2,hw2,rfl⟩:=Ft (n+22) 3 (by omega) z t (.slice p l c) rfl _ hw1
   have hX:=hX1.trans hX2
   obtain rfl:l=0:=by omega
   obtain rfl:z=0:=by omega
   obtain⟨_,σ3,e3,hX3,hw3,rfl⟩:=FP (n+22) ((3:Nat):Int) t p c σ2 hw2
   obtain⟨σ5,e5,hX5,hw5⟩:=Lo (n+1) 0 t (.slice p 0 c) rfl ((σ3.push (.cells [.int .i64 0,.int .i64 0,.string ⟨#[]⟩,.slice none 0 0] 151) none).put σ3.next (.cells [.int .i64 ((3:Nat):Int),.int .i64 0,.string t,.slice p 0 c] 151) none) ((hw3.push _ _).put _ _ _ (Nat.lt_succ_self _)) hr
   have hX4:=(((hX.trans hX3).push (.cells [.int .i64 0,.int .i64 0,.string ⟨#[]⟩,.slice none 0 0] 151) none).put σ3.next (.cells [.int .i64 ((3:Nat):Int),.int .i64 0,.string t,.slice p 0 c] 151) none (hX.trans hX3).next).trans hX5
   have wt:workType 3=151:=rfl
   have e5':(env (n+23)).call 152 [.agg #[.int .i64 ((3:Nat):Int),.int .i64 0,.string t,.slice p 0 c]] none _=_:=e5
   have e2':(env (n+23)).call 127 [.agg #[.int .i64 3,.int .i64 0,.string t,.slice p 0 c]] none _=_:=e2
   simp -implicitDefEqProofs only[go_sem,Aw,Di,D2,Dj,D3,Dn,D4,Ej,Ey,Ek,Ez,EX,Fm,H4,H3,GY,Gq,e2',wt,HP,e3,Qz,Ls,e5',Bool.not_true,Bi,Av,DW,AH,Bc,Ag]
   exact⟨_,by rw[he]<;>rfl,hX4,hw5⟩
  ·obtain⟨_,σ2,e2,hX2,hw2,rfl⟩:=Ft (n+22) 4 (by omega) z t (.slice p l c) rfl _ hw1
   have hX:=hX1.trans hX2
   obtain rfl:l=0:=by omega
   obtain rfl:z=0:=by omega
   obtain⟨_,σ3,e3,hX3,hw3,rfl⟩:=FP (n+22) ((4:Nat):Int) t p c σ2 hw2
   obtain⟨σ5,e5,hX5,hw5⟩:=Ln (n+1) 0 t (.slice p 0 c) rfl ((σ3.push (.cells [.int .i64 0,.int .i64 0,.string ⟨#[]⟩,.slice none 0 0] 151) none).put σ3.next (.cells [.int .i64 ((4:Nat):Int),.int .i64 0,.string t,.slice p 0 c] 151) none) ((hw3.push _ _).put _ _ _ (Nat.lt_succ_self _)) hr
   have hX4:=(((hX.trans hX3).push (.cells [.int .i64 0,.int .i64 0,.string ⟨#[]⟩,.slice none 0 0] 151) none).put σ3.next (.cells [.int .i64 ((4:Nat):Int),.int .i64 0,.string t,.slice p 0 c] 151) none (hX.trans hX3).next).trans hX5
   have wt:workType 4=151:=rfl
   have e5':(env (n+23)).call 152 [.agg #[.int .i64 ((4:Nat):Int),.int .i64 0,.string t,.slice p 0 c]] none _=_:=e5
   have e2':(env (n+23)).call 127 [.agg #[.int .i64 4,.int .i64 0,.string t,.slice p 0 c]] none _=_:=e2
   simp -implicitDefEqProofs only[go_sem,Aw,Di,D2,Dj,D3,Dn,D4,Ej,Ey,Ek,Ez,EX,Fm,H4,H3,GY,Gq,e2',wt,HP,e3,Qz,Ls,e5',Bool.not_true,Bi,Av,DW,AH,Bc,Ag]
   exact⟨_,by rw[he]<;>rfl,hX4,hw5⟩
end
section
open Go Go.Eng
attribute [local congr] Ab Ah Af Ad Ae
attribute [-go_sem] List.range_succ
theorem Ul(kk m l r cb mp:Nat)(R:Nat→Prop)(f g:Nat→Value)(all:List (List Nat×D))(hne:cb<r∧r<l)(h3:f 3=.pointer (some ⟨cb,0,none⟩))(hR:∀b,R b→b<cb)(hG:∀(i:Nat) path k z t ds,i<kk→all[i]? = some (path,D.mk k z t ds)→∃k':Nat,k=(k':Int)∧Good m k' z t ds.length)(hN:all.length≤2000):
  BodyTo kk (env (m+3)) l R (.func (.func 120) #[.pointer (some ⟨cb,0,none⟩)] #[]) (ValidI l r cb mp f g) all where
 stays:=fun done B σ σ' ⟨h1,h2,h3,h4,h5,⟨v6,h6⟩,⟨v7,h7⟩,h8⟩ hw hC=>by
  have k:∀b,B b→b<σ.next→σ'.heap.get b=σ.heap.get b:=fun b hb hn=>hC.get b hn fun h=>h.1 hb
  have hn:=hC.next
  exact⟨h1,by omega,by omega,by omega,h5.keep (k l ((h1 l).2 (.inl rfl)) h2),⟨v6,(k r ((h1 r).2 (.inr (.inl rfl))) h3).trans h6⟩,⟨v7,(k cb ((h1 cb).2 (.inr (.inr rfl))) h4).trans h7⟩,h8⟩
 own:=fun done B σ ⟨h1,h2,h3,h4,_⟩ b hb=>by
  rcases (h1 b).1 hb with rfl|rfl|rfl
  ·exact⟨h2,fun h=>by have:=hR _ h;omega⟩
  ·exact⟨h3,fun h=>by have:=hR _ h;omega⟩
  ·exact⟨h4,fun h=>by have:=hR _ h;omega⟩
 inside:=fun done B σ k z t p ln c ⟨h1,h2,h3,h4,h5,h6,⟨v7,h7⟩,h8⟩ hw=>by
  refine Kr (m+2) _ 120 #[.pointer (some ⟨cb,0,none⟩)] rfl k z t (.slice p ln c) (Au _ _ _) σ hw fun σ' hx hw'=>?_
  have hc:=AB ((hx.get cb h4).trans h7)
  exact⟨_,σ',UT (m+1) cb (Int.ofNat done.length) (by rw[Int.ofNat_eq_natCast];omega) p ln c σ' _ hc,Ext.refl _,hw',rfl⟩
 go:=fun done path d rest B σ pv v hkk hall hw ⟨h1,h2,h4,h5,h6,⟨v6,h7⟩,⟨v7,h8⟩,h9⟩ _ hL=>by
  have hlen:done.length+1≤2000:=by have:=congrArg List.length hall;simp at this;omega
  obtain⟨k,z,t,ps⟩:=d
  obtain⟨k',rfl,hGd⟩:=hG done.length path k z t ps hkk (by rw[hall];simp)
  obtain⟨p,c,rfl,hq⟩:=hL
  rw[Kc _ _ _ _ _ _ _ _ _ (m+2) l r _ h6 rfl,Kj]
  simp -implicitDefEqProofs only[go_sem,Aw,NP,NN,List.zip_cons_cons,List.zip_nil_right,FT,GU]
  have x1:Ext σ ((σ.push (.cells [.int .i64 0,.int .i64 0,.string ⟨#[]⟩,.slice none 0 0] TD) none).put σ.next (.cells [.int .i64 (k':Int),.int .i64 z,.string t,.slice p ps.length c] TD) none):=((Ext.refl _).push _ _).put _ _ _ (Nat.le_refl _)
  have hw1:=(hw.push (.cells [.int .i64 0,.int .i64 0,.string ⟨#[]⟩,.slice none 0 0] TD) none).put σ.next (.cells [.int .i64 (k':Int),.int .i64 z,.string t,.slice p ps.length c] TD) none (Nat.lt_succ_self _)
  have b1:((σ.push (.cells [.int .i64 0,.int .i64 0,.string ⟨#[]⟩,.slice none 0 0] TD) none).put σ.next (.cells [.int .i64 (k':Int),.int .i64 z,.string t,.slice p ps.length c] TD) none).cells σ.next=some [.int .i64 (k':Int),.int .i64 z,.string t,.slice p ps.length c]:=by rw[Al,if_pos rfl];rfl
  have n1:((σ.push (.cells [.int .i64 0,.int .i64 0,.string ⟨#[]⟩,.slice none 0 0] TD) none).put σ.next (.cells [.int .i64 (k':Int),.int .i64 z,.string t,.slice p ps.length c] TD) none).next=σ.next+1:=rfl
  generalize FState.put _ _ _ _=σ1 at x1 hw1 b1 n1 ⊢
  have l1:=h6.keep (x1.get l h2)
  rw[E2 _ _ _ _ _ _ _ _ _ l r _ l1,Kk]
  have hw2:=hw1.put l (.loop .busy none 71 ((List.range 6).map f) g 6 25 [12,13] Dx Dy r) none (by omega)
  have l2:LoopAt 71 [12,13] Dx Dy 6 25 f g l r .busy (σ1.put l (.loop .busy none 71 ((List.range 6).map f) g 6 25 [12,13] Dx Dy r) none):=LoopAt.put _ _ _ _ _ _ _ _ _ _ _ _
  have b2:(σ1.put l (.loop .busy none 71 ((List.range 6).map f) g 6 25 [12,13] Dx Dy r) none).cells σ.next=some [.int .i64 (k':Int),.int .i64 z,.string t,.slice p ps.length c]:=by rw[Al,if_neg (by omega)];exact b1
  have g2:(σ1.put l (.loop .busy none 71 ((List.range 6).map f) g 6 25 [12,13] Dx Dy r) none).heap.get cb=some ⟨.cells [.int .i64 (.ofNat done.length),.map (some mp)] 136,false,none,v7⟩:=by rw[Am,if_neg (by omega)];exact(x1.get cb h5).trans h8
  have r2:(σ1.put l (.loop .busy none 71 ((List.range 6).map f) g 6 25 [12,13] Dx Dy r) none).heap.get r=some ⟨.defd true,false,none,v6⟩:=by rw[Am,if_neg (by omega)];exact(x1.get r h4).trans h7
  have hC2:Chg B σ (σ1.put l (.loop .busy none 71 ((List.range 6).map f) g 6 25 [12,13] Dx Dy r) none):=(x1.chg B).put _ _ _ (.inr ((h1 l).2 (.inl rfl)))
  have n2:(σ1.put l (.loop .busy none 71 ((List.range 6).map f) g 6 25 [12,13] Dx Dy r) none).next=σ.next+1:=n1
  generalize FState.put _ l _ _=σ2 at hw2 l2 b2 g2 r2 hC2 n2 ⊢
  obtain⟨_,σ3,e3,x3,hw3,rfl⟩:=M0 m k' z t p ps.length c hGd σ2 hw2
  have n3:=x3.next
  have g3:σ3.heap.get cb=some ⟨.cells [.int .i64 (.ofNat done.length),.map (some mp)] 136,false,none,v7⟩:=(x3.get cb (by omega)).trans g2
  have c3:=AB g3
  have w1:=GH done.length (by omega)
  simp -implicitDefEqProofs only[go_sem,NR,NQ,We,Tv,h3,b2,e3,c3,g3,w1,Nat.le_refl]
  have l3:=(l2.keep (x3.get l (by omega)))
  have l4:∀o:FObj,LoopAt 71 [12,13] Dx Dy 6 25 f g l r .busy (σ3.put cb o none):=fun o=>l3.keep (by rw[Am,if_neg (by omega)])
  rw[FO _ _ _ _ _ _ _ _ _ _ l r _ _ (l4 _)]
  refine⟨B,_,rfl,(hw3.put _ _ _ (by omega)).put _ _ _ (by rw[Ap];omega),((hC2.trans (x3.chg B) (fun b _ h=>h)).put _ _ _ (.inr ((h1 cb).2 (.inr (.inr rfl))))).put _ _ _ (.inr ((h1 l).2 (.inl rfl))),fun b hb=>.inl hb,h1,?_,?_,?_,LoopAt.put _ _ _ _ _ _ _ _ _ _ _ _,⟨v6,?_⟩,⟨σ3.clock,?_⟩,by simp;omega⟩
  ·rw[Ap,Ap];omega
  ·rw[Ap,Ap];omega
  ·rw[Ap,Ap];omega
  ·rw[Am,if_neg (by omega),Am,if_neg (by omega),x3.get r (by omega)];exact r2
  ·rw[Am,if_neg (by omega),Am,if_pos rfl,List.length_append,List.length_singleton]
def LeftAt(r:Nat)(B:Nat→Prop)(σ:FState):Prop:=r<σ.next∧∃ver,σ.heap.get r=some ⟨.defd true,false,none,ver⟩
theorem WP(m l r cb mp:Nat)(R:Nat→Prop)(f g:Nat→Value)(hne:cb<r∧r<l)(h3:f 3=.pointer (some ⟨cb,0,none⟩))(done:List (List Nat×D))(path:List Nat)(k' z:Int)(t:ByteArray)(ps:List D)(he:pieceE k' z t ps.length≠0):
  PanAt (env (m+25)) l R (ValidI l r cb mp f g) (LeftAt r) done path (.mk k' z t ps) [failing (pieceE k' z t ps.length:Nat) 0]:=fun B σ pv v hw ⟨h1,h2,h4,h5,h6,⟨v6,h7⟩,⟨v7,h8⟩,h9⟩ _ hL=>by
  obtain⟨p,c,rfl,hq⟩:=hL
  rw[Kc _ _ _ _ _ _ _ _ _ (m+24) l r _ h6 rfl,Kj]
  simp -implicitDefEqProofs only[go_sem,Aw,NP,NN,List.zip_cons_cons,List.zip_nil_right,FT,GU]
  have x1:Ext σ ((σ.push (.cells [.int .i64 0,.int .i64 0,.string ⟨#[]⟩,.slice none 0 0] TD) none).put σ.next (.cells [.int .i64 k',.int .i64 z,.string t,.slice p ps.length c] TD) none):=((Ext.refl _).push _ _).put _ _ _ (Nat.le_refl _)
  have hw1:=(hw.push (.cells [.int .i64 0,.int .i64 0,.string ⟨#[]⟩,.slice none 0 0] TD) none).put σ.next (.cells [.int .i64 k',.int .i64 z,.string t,.slice p ps.length c] TD) none (Nat.lt_succ_self _)
  have b1:((σ.push (.cells [.int .i64 0,.int .i64 0,.string ⟨#[]⟩,.slice none 0 0] TD) none).put σ.next (.cells [.int .i64 k',.int .i64 z,.string t,.slice p ps.length c] TD) none).cells σ.next=some [.int .i64 k',.int .i64 z,.string t,.slice p ps.length c]:=by rw[Al,if_pos rfl];rfl
  have n1:((σ.push (.cells [.int .i64 0,.int .i64 0,.string ⟨#[]⟩,.slice none 0 0] TD) none).put σ.next (.cells [.int .i64 k',.int .i64 z,.string t,.slice p ps.length c] TD) none).next=σ.next+1:=rfl
  generalize FState.put _ _ _ _=σ1 at x1 hw1 b1 n1 ⊢
  have l1:=h6.keep (x1.get l h2)
  rw[E2 _ _ _ _ _ _ _ _ _ l r _ l1,Kk]
  have hw2:=hw1.put l (.loop .busy none 71 ((List.range 6).map f) g 6 25 [12,13] Dx Dy r) none (by omega)
  have l2:LoopAt 71 [12,13] Dx Dy 6 25 f g l r .busy (σ1.put l (.loop .busy none 71 ((List.range 6).map f) g 6 25 [12,13] Dx Dy r) none):=LoopAt.put _ _ _ _ _ _ _ _ _ _ _ _
  have b2:(σ1.put l (.loop .busy none 71 ((List.range 6).map f) g 6 25 [12,13] Dx Dy r) none).cells σ.next=some [.int .i64 k',.int .i64 z,.string t,.slice p ps.length c]:=by rw[Al,if_neg (by omega)];exact b1
  have g2:(σ1.put l (.loop .busy none 71 ((List.range 6).map f) g 6 25 [12,13] Dx Dy r) none).heap.get cb=some ⟨.cells [.int .i64 (.ofNat done.length),.map (some mp)] 136,false,none,v7⟩:=by rw[Am,if_neg (by omega)];exact(x1.get cb h5).trans h8
  have r2:(σ1.put l (.loop .busy none 71 ((List.range 6).map f) g 6 25 [12,13] Dx Dy r) none).heap.get r=some ⟨.defd true,false,none,v6⟩:=by rw[Am,if_neg (by omega)];exact(x1.get r h4).trans h7
  have hC2:Chg B σ (σ1.put l (.loop .busy none 71 ((List.range 6).map f) g 6 25 [12,13] Dx Dy r) none):=(x1.chg B).put _ _ _ (.inr ((h1 l).2 (.inl rfl)))
  have n2:(σ1.put l (.loop .busy none 71 ((List.range 6).map f) g 6 25 [12,13] Dx Dy r) none).next=σ.next+1:=n1
  generalize FState.put _ l _ _=σ2 at hw2 l2 b2 g2 r2 hC2 n2 ⊢
  obtain⟨σ3,e3,x3,hw3⟩:=QX m k' z t ps.length p c σ2 hw2 he
  have n3:=x3.next
  simp -implicitDefEqProofs only[go_sem,NR,NQ,h3,b2,e3,Nat.le_refl,Bi,Av]
  have hkn:(Tryz.prog.funcs[71]?).isSome=true:=by rw[Tryz.func71];rfl
  rw[DW,hkn,QG]
  exact⟨B,_,rfl,hw3,hC2.trans (x3.chg B) (fun b _ h=>h),fun b hb=>.inl hb,by omega,v6,(x3.get r (by omega)).trans r2⟩
theorem WN(m:Nat)(d:D)(lv:List Value)(h4:lv.length=4)(R:Nat→Prop)(σ:FState)(hw:Wf σ)(hL:LaidR R σ (.agg lv.toArray) d)(hR:∀b,R b→b<σ.next)(hS:Small (d.pieces []))(hN:(d.pieces []).length≤2000)(pre rest:List (List Nat×D))(path:List Nat)(k' z:Int)(t:ByteArray)(ps:List D)(hsplit:d.pieces []=pre++(path,.mk k' z t ps)::rest)(hG:∀(i:Nat) path k z t ds,i<pre.length→(d.pieces [])[i]? = some (path,D.mk k z t ds)→∃k':Nat,k=(k':Int)∧Good (m+22) k' z t ds.length)(he:pieceE k' z t ps.length≠0):
  Fails ((env (m+27)).call 71 [.agg lv.toArray] none σ) σ (pieceE k' z t ps.length:Nat) 0:=by
 rw[Ak _ 71 _ _ rfl,Aae _ _ _ _ (by simp),Aj]
 unfold Aa7
 have ht:lv.take 4=lv:=List.take_of_length_le (by omega)
 simp -implicitDefEqProofs only[go_sem,Aw,V_,Tq,Wc,Tt,JJ,Ke,Lb]
 generalize hff:upd _ 3 _=f1
 generalize hg0:upd _ 7 _=g0
 have q1:f1 1=.pointer (some ⟨σ.next,0,none⟩):=by rw[←hff];simp -implicitDefEqProofs only[go_sem,reduceCtorEq]
 have q3:f1 3=.pointer (some ⟨σ.next+2,0,none⟩):=by rw[←hff];simp -implicitDefEqProofs only[go_sem,reduceCtorEq]
 clear hff hg0
 have x1:Ext σ ((((σ.push (.cells lv TD) none).push (.map [] 0) none).push (.cells [.int .i64 0,.map none] 136) none).put (σ.next+2) (.cells [.int .i64 0,.map (some (σ.next+1))] 136) none):=((((Ext.refl _).push _ _).push _ _).push _ _).put _ _ _ (by omega)
 have hw1:=(((hw.push (.cells lv TD) none).push (.map [] 0) none).push (.cells [.int .i64 0,.map none] 136) none).put (σ.next+2) (.cells [.int .i64 0,.map (some (σ.next+1))] 136) none (Nat.lt_succ_self _)
 have g1:((((σ.push (.cells lv TD) none).push (.map [] 0) none).push (.cells [.int .i64 0,.map none] 136) none).put (σ.next+2) (.cells [.int .i64 0,.map (some (σ.next+1))] 136) none).heap.get (σ.next+2)=some ⟨.cells [.int .i64 0,.map (some (σ.next+1))] 136,false,none,σ.clock+3⟩:=by rw[Am,if_pos rfl];rfl
 have c1:((((σ.push (.cells lv TD) none).push (.map [] 0) none).push (.cells [.int .i64 0,.map none] 136) none).put (σ.next+2) (.cells [.int .i64 0,.map (some (σ.next+1))] 136) none).cells σ.next=some lv:=by
  rw[Al,if_neg (by omega),Ac,if_neg (by simp only[Aa];omega),Ac,if_neg (by simp only[Aa];omega),Ac,if_pos rfl];rfl
 have n1:((((σ.push (.cells lv TD) none).push (.map [] 0) none).push (.cells [.int .i64 0,.map none] 136) none).put (σ.next+2) (.cells [.int .i64 0,.map (some (σ.next+1))] 136) none).next=σ.next+3:=rfl
 generalize FState.put _ _ _ _=σ1 at x1 hw1 g1 c1 n1 ⊢
 obtain⟨σ2,e2,x2,hw2,n2,cb2,cb1⟩:=Oy (m+25) (.func (.func 120) #[.pointer (some ⟨σ.next+2,0,none⟩)] #[]) lv σ1 hw1 (D1 _ _ _)
 simp -implicitDefEqProofs only[go_sem,Wd,Tu,q1,q3,c1,h4,ht,e2,Nat.le_refl,D1,Es]
 generalize hgg:upd _ 11 _=gg
 have hL2:LaidR R σ2 (.agg lv.toArray) d:=hL.keep fun b cs hb hc=>⟨((x1.trans x2).cells (hw.cells hc)).trans hc,hb⟩
 have hcm2:σ2.heap.get (σ.next+2)=some ⟨.cells [.int .i64 0,.map (some (σ.next+1))] 136,false,none,σ.clock+3⟩:=(x2.get _ (by omega)).trans g1
 obtain⟨σ3,B3,e3,ch3,n3,hB3,hw3,i3⟩:=NZ (m+25) 71 [12,13] Dx Dy 6 25 f1 gg [] none 11 (σ1.next+1) σ1.next σ2 (.func (.func 120) #[.pointer (some ⟨σ.next+2,0,none⟩)] #[]) R d lv (ValidI (σ2.next+1) σ2.next (σ.next+2) (σ.next+1) f1 gg) (fun b=>b=σ2.next+1∨b=σ2.next∨b=σ.next+2)
  (Ul pre.length (m+22) (σ2.next+1) σ2.next (σ.next+2) (σ.next+1) R f1 gg _ ⟨by omega,by omega⟩ q3 (fun b hb=>by have:=hR b hb;omega) hG hN) (WP m (σ2.next+1) σ2.next (σ.next+2) (σ.next+1) R f1 gg ⟨by omega,by omega⟩ q3 pre path k' z t ps he) hsplit hS (by omega)
  ⟨fun b=>Iff.rfl,by rw[Aa,Aa];omega,by rw[Aa,Aa];omega,by rw[Aa,Aa];omega,Kv ..,⟨_,by rw[Ai,if_neg (by rw[Aa];omega),Ai,if_pos rfl]⟩,⟨_,by rw[Ai,if_neg (by rw[Aa];omega),Ai,if_neg (by omega)];exact hcm2⟩,by simp⟩
  (by rw[Qu,←hgg];simp -implicitDefEqProofs only[go_sem,reduceCtorEq]) hw2 cb1 (fun h=>by rcases h with h|h|h<;>omega) hL2 (fun b hb=>by have:=hR b hb;omega) cb2 (fun h=>by rcases h with h|h|h<;>omega)
 rw[e3]
 obtain⟨h2,v6,h7⟩:=i3
 rw[DW,Av,AH,O4]
 rw[JA _ _ _ _ _ _ _ _ _ _ _ h7]
 have x3:Ext σ σ3:=⟨by omega,by have:=x1.clock;have:=x2.clock;have:=ch3.clock;omega,fun b hb=>(ch3.get b (by omega) (fun h=>by rcases h with h|h|h<;>omega)).trans ((x1.trans x2).get b hb)⟩
 rw[Bc]
 exact⟨_,rfl,x3.put _ _ _ (by omega),hw3.put _ _ _ (by omega)⟩
end
section
open Go Go.Eng
attribute [local congr] Ab Ah Af Ad Ae
attribute [-go_sem] List.range_succ
def pE:D→Nat
 | .mk k z t ds=>pieceE k z t ds.length
mutual
theorem AoY:∀(d:D) (path:List Nat),firstE d=0→∀y∈d.pieces path,pE y.2=0
 | .mk k z t ds,path,h=>fun y hy=>by
  rw[firstE] at h
  split at h
  ·rename_i hp
   rw[D.pieces] at hy
   rcases List.mem_cons.1 hy with rfl|hy
   ·exact hp
   ·exact Ad8 ds path 0 h y hy
  ·omega
theorem Ad8:∀(ds:List D) (path:List Nat) (i:Nat),firstEs ds=0→∀y∈D.piecesL path i ds,pE y.2=0
 | [],path,i,_=>fun y hy=>by simp[D.piecesL] at hy
 | d::ds,path,i,h=>fun y hy=>by
  rw[firstEs] at h
  rw[D.piecesL] at hy
  split at h
  ·rename_i hp
   rcases List.mem_append.1 hy with hy|hy
   ·exact AoY d _ hp y hy
   ·exact Ad8 ds path (i+1) h y hy
  ·omega
end
def SplitE(A:List (List Nat×D))(e:Nat):Prop:=∃pre path x rest,A=pre++(path,x)::rest∧(∀y∈pre,pE y.2=0)∧pE x=e
mutual
theorem Abb:∀(d:D) (path:List Nat),firstE d≠0→SplitE (d.pieces path) (firstE d)
 | .mk k z t ds,path,h=>by
  rw[firstE] at h ⊢
  by_cases hp:pieceE k z t ds.length=0
  ·rw[if_pos hp] at h ⊢
   obtain⟨pre,p,x,rest,h1,h2,h3⟩:=WM ds path 0 h
   rw[D.pieces,h1]
   refine⟨(path,.mk k z t ds)::pre,p,x,rest,rfl,fun y hy=>?_,h3⟩
   rcases List.mem_cons.1 hy with rfl|hy
   ·exact hp
   ·exact h2 y hy
  ·rw[if_neg hp]
   exact⟨[],path,.mk k z t ds,D.piecesL path 0 ds,by rw[D.pieces];rfl,fun y hy=>(by cases hy),rfl⟩
theorem WM:∀(ds:List D) (path:List Nat) (i:Nat),firstEs ds≠0→SplitE (D.piecesL path i ds) (firstEs ds)
 | [],path,i,h=>absurd rfl h
 | d::ds,path,i,h=>by
  rw[firstEs] at h ⊢
  rw[D.piecesL]
  by_cases hp:firstE d=0
  ·rw[if_pos hp] at h ⊢
   obtain⟨pre,p,x,rest,h1,h2,h3⟩:=WM ds path (i+1) h
   rw[h1]
   refine⟨d.pieces (path++[i])++pre,p,x,rest,by rw[List.append_assoc],fun y hy=>?_,h3⟩
   rcases List.mem_append.1 hy with hy|hy
   ·exact AoY d _ hp y hy
   ·exact h2 y hy
  ·rw[if_neg hp]
   obtain⟨pre,p,x,rest,h1,h2,h3⟩:=Abb d (path++[i]) hp
   rw[h1]
   exact⟨pre,p,x,rest++D.piecesL path (i+1) ds,by rw[List.append_assoc];rfl,h2,h3⟩
end
mutual
theorem JN:∀(d:D) (path:List Nat),∀y∈d.pieces path,y.2.count≤d.count
 | .mk k z t ds,path=>fun y hy=>by
  rw[D.pieces] at hy
  rcases List.mem_cons.1 hy with rfl|hy
  ·exact Nat.le_refl _
  ·rw[D.count]
   have:=IV ds path 0 y hy
   omega
theorem IV:∀(ds:List D) (path:List Nat) (i:Nat),∀y∈D.piecesL path i ds,y.2.count≤D.counts ds
 | [],path,i=>fun y hy=>by simp[D.piecesL] at hy
 | d::ds,path,i=>fun y hy=>by
  rw[D.piecesL] at hy
  rw[D.counts]
  rcases List.mem_append.1 hy with hy|hy
  ·have:=JN d _ y hy
   omega
  ·have:=IV ds path (i+1) y hy
   omega
end
theorem KV{d:D}(hc:d.count<900):Small (d.pieces []):=fun x hx=>by
 have h1:=Lg d (by have:=Dh d;omega) x hx
 have h2:=JN d [] x hx
 refine⟨by omega,?_⟩
 obtain⟨p,k,z,t,ds⟩:=x
 rw[D.count] at h2
 have:=EU ds
 show ds.length<_
 omega
theorem KY(m:Nat)(d:D)(he:firstE d≠0)(hc:d.count<900)(lv:List Value)(h4:lv.length=4)(R:Nat→Prop)(σ:FState)(hw:Wf σ)(hL:LaidR R σ (.agg lv.toArray) d)(hR:∀b,R b→b<σ.next):
  Fails ((env (m+27)).call 71 [.agg lv.toArray] none σ) σ (firstE d:Nat) 0:=by
 obtain⟨pre,path,x,rest,h1,h2,h3⟩:=Abb d [] he
 obtain⟨k',z,t,ps⟩:=x
 have h3':pieceE k' z t ps.length=firstE d:=h3
 rw[←h3'] at he ⊢
 refine WN m d lv h4 R σ hw hL hR (KV hc) (by rw[DV];omega) pre rest path k' z t ps h1 (fun i path k z t ds hi hx=>?_) he
 rw[h1,List.getElem?_append_left hi] at hx
 exact Lf (m+1) (h2 _ (List.mem_of_getElem? hx))
theorem FI(m:Nat)(d:D)(he:firstE d=0)(hc:d.count<900)(lv:List Value)(h4:lv.length=4)(R:Nat→Prop)(σ:FState)(hw:Wf σ)(hL:LaidR R σ (.agg lv.toArray) d)(hR:∀b,R b→b<σ.next):
  Gives ((env (m+27)).call 71 [.agg lv.toArray] none σ) σ fun w _=>w=.int .i64 (.ofNat d.count):=
 Ad4 (m+22) d (Aea (m+1) he hc).sane (by omega) (Aea (m+1) he hc).deep lv h4 R σ hw hL hR
end
section
open Go Go.Eng
variable (E:Env) (ro:Option Nat) (last:List Nat→RunF) (cl:List Nat) (a:FAct) (u:Option FrameMode) (σ:FState)
def R5(_:Unit):List COp:=[⟨fun a σ=>fbox 174 (a.get 0) σ,some 2,fun _=>some true⟩,
 ⟨fun a σ=>fbox 24 (a.get 1) σ,some 3,fun _=>some true⟩,
 ⟨fun a σ=>newCells [(.int .i64 0),(.int .i64 0),(.string ⟨#[]⟩),(.slice none 0 0)] 24 none σ,some 4,fun _=>some true⟩]
def Ahv:List COp:=R5 ()
def R6(_:Unit):List DOp:=[⟨fun a σ=>ffield 3 (a.get 3) σ,some 11,fun _=>some true,some 0,false⟩,
 ⟨fun a σ=>fload none (a.get 11) σ,some 12,fun _=>some true,some 0,false⟩,
 ⟨fun a σ=>ffield 0 (a.get 2) σ,some 13,fun _=>some true,some 0,false⟩,
 ⟨fun a σ=>fload none (a.get 13) σ,some 14,fun _=>some true,some 0,false⟩,
 ⟨fun a σ=>.enter 139 [(a.get 12),(a.get 14)] σ,some 15,fun _=>some true,none,false⟩,
 ⟨fun a σ=>ffield 0 (a.get 3) σ,some 5,fun _=>some true,some 0,false⟩,
 ⟨fun a σ=>fload none (a.get 5) σ,some 6,fun _=>some true,some 0,false⟩,
 ⟨fun a σ=>ffield 1 (a.get 3) σ,some 7,fun _=>some true,some 0,false⟩,
 ⟨fun a σ=>fload none (a.get 7) σ,some 8,fun _=>some true,some 0,false⟩,
 ⟨fun a σ=>ffield 2 (a.get 3) σ,some 9,fun _=>some true,some 0,false⟩,
 ⟨fun a σ=>fload none (a.get 9) σ,some 10,fun _=>some true,some 0,false⟩,
 ⟨fun a σ=>fbuild (fun i=>nth [(0,1),(1,1),(2,1),(3,1)] i) [(.int .i64 0),(.int .i64 0),(.string ⟨#[]⟩),(.slice none 0 0)] [(0,(a.get 6)),(1,(a.get 8)),(2,(a.get 10)),(3,(a.get 15))] σ,some 16,fun _=>some true,some 1,false⟩,
 ⟨fun a σ=>fstore 4 (a.get 4) (a.get 16) σ,none,fun _=>some true,none,true⟩]
def Ahw:List DOp:=R6 ()
def ZI(E:Env)(ro:Option Nat)(fn:FuncId):RunF:=(seqR (fops E ro Ahv) (seqR (drawR E ro Ahw) retR))
theorem AcT:fops E ro Ahv a u σ=fops E ro (R5 ()) a u σ:=rfl
theorem AcU:fdraw E ro last Ahw cl a u σ=fdraw E ro last (R6 ()) cl a u σ:=rfl
theorem AmF(E:Env)(ro:Option Nat)(fn:FuncId):code Tryz.prog nls (Tryz.f146.body.getD .skip) E ro fn=ZI E ro fn:=by kernel_rfl
theorem AeO(E:Env)(args:List Value)(u:Option FrameMode)(σ:FState)(hn:args.length≤(4:Nat)):fcall Tryz.prog nls E 146 args u σ=leaveR Tryz.prog E [.cell 4 24] (ZI E none 146 ⟨padTo undef 4 args,fun _=>undef,4,17,[]⟩ u σ):=by
 rw[Ao (body:=Tryz.f146.body.getD .skip) Tryz.func146 rfl E args u σ 4 17 (by kernel_rfl) rfl ⟨hn,by decide⟩,AmF]
 rfl
def R3(_:Unit):List COp:=[⟨fun a σ=>fbox 24 (a.get 0) σ,some 2,fun _=>some true⟩,
 ⟨fun a σ=>fbox 24 (a.get 1) σ,some 3,fun _=>some true⟩,
 ⟨fun a σ=>.val (.bool false) σ,some 4,fun _=>some true⟩]
def Aht:List COp:=R3 ()
def R4(_:Unit):List COp:=[⟨fun a σ=>fload (some 4) (a.get 2) σ,some 5,fun _=>some true⟩,
 ⟨fun a σ=>fload (some 4) (a.get 3) σ,some 6,fun _=>some true⟩,
 ⟨fun a σ=>.enter 21 [(a.get 5),(a.get 6)] σ,some 7,fun _=>some true⟩,
 ⟨fun a σ=>.val (a.get 7) σ,some 4,fun _=>some true⟩]
def Ahu:List COp:=R4 ()
def ZH(E:Env)(ro:Option Nat)(fn:FuncId):RunF:=(seqR (fops E ro Aht) (seqR (fops E ro Ahu) retR))
theorem AcR:fops E ro Aht a u σ=fops E ro (R3 ()) a u σ:=rfl
theorem AcS:fops E ro Ahu a u σ=fops E ro (R4 ()) a u σ:=rfl
theorem AmE(E:Env)(ro:Option Nat)(fn:FuncId):code Tryz.prog nls (Tryz.f145.body.getD .skip) E ro fn=ZH E ro fn:=by kernel_rfl
theorem AeN(E:Env)(args:List Value)(u:Option FrameMode)(σ:FState)(hn:args.length≤(4:Nat)):fcall Tryz.prog nls E 145 args u σ=leaveR Tryz.prog E [.tmp 4] (ZH E none 145 ⟨padTo undef 4 args,fun _=>undef,4,8,[]⟩ u σ):=by
 rw[Ao (body:=Tryz.f145.body.getD .skip) Tryz.func145 rfl E args u σ 4 8 (by kernel_rfl) rfl ⟨hn,by decide⟩,AmE]
 rfl
def Ry(_:Unit):List COp:=[⟨fun a σ=>fbox 130 (a.get 0) σ,some 2,fun _=>some true⟩,
 ⟨fun a σ=>fbox 24 (a.get 1) σ,some 3,fun _=>some true⟩,
 ⟨fun a σ=>newCells [(.int .i64 0),(.int .i64 0),(.string ⟨#[]⟩),(.slice none 0 0)] 24 none σ,some 4,fun _=>some true⟩]
def AfW:List COp:=Ry ()
def LC(_:Unit):List COp:=[⟨fun a σ=>fload (some 4) (a.get 3) σ,some 5,fun _=>some true⟩,
 ⟨fun a σ=>ffield 0 (a.get 2) σ,some 6,fun _=>some true⟩,
 ⟨fun a σ=>fload (some 4) (a.get 6) σ,some 7,fun _=>some true⟩,
 ⟨fun a σ=>.enter 144 [(a.get 5),(a.get 7)] σ,some 8,fun _=>some true⟩]
def AfX:List COp:=LC ()
def Rz(_:Unit):List COp:=[⟨fun a σ=>ffield 4 (a.get 2) σ,some 9,fun _=>some true⟩,
 ⟨fun a σ=>fload (some 4) (a.get 9) σ,some 10,fun _=>some true⟩,
 ⟨fun a σ=>.enter 104 [(a.get 10)] σ,some 11,fun _=>some true⟩,
 ⟨fun a σ=>fstore 4 (a.get 4) (a.get 11) σ,none,fun _=>some true⟩]
def AfY:List COp:=Rz ()
def RA(_:Unit):List COp:=[⟨fun a σ=>fload (some 8) (a.get 2) σ,some 12,fun _=>some true⟩,
 ⟨fun a σ=>.val (.func (.func 116) #[(a.get 12)] #[]) σ,some 13,fun _=>some true⟩,
 ⟨fun a σ=>fbuild (fun i=>nth [(0,1)] i) [.nilFunc] [(0,(a.get 13))] σ,some 14,fun _=>some true⟩,
 ⟨fun a σ=>fload (some 4) (a.get 3) σ,some 15,fun _=>some true⟩,
 ⟨fun a σ=>.enter 146 [(a.get 14),(a.get 15)] σ,some 16,fun _=>some true⟩,
 ⟨fun a σ=>fstore 4 (a.get 4) (a.get 16) σ,none,fun _=>some true⟩]
def AfZ:List COp:=RA ()
def Zz(E:Env)(ro:Option Nat)(fn:FuncId):RunF:=(seqR (fops E ro AfW) (seqR (seqR (fops E ro AfX) (condR (fun a=>(a.get 8)) (seqR (fops E ro AfY) retR) skipR)) (seqR (fops E ro AfZ) retR)))
theorem Acp:fops E ro AfW a u σ=fops E ro (Ry ()) a u σ:=rfl
theorem PD:fops E ro AfX a u σ=fops E ro (LC ()) a u σ:=rfl
theorem Acq:fops E ro AfY a u σ=fops E ro (Rz ()) a u σ:=rfl
theorem Acr:fops E ro AfZ a u σ=fops E ro (RA ()) a u σ:=rfl
theorem Amr(E:Env)(ro:Option Nat)(fn:FuncId):code Tryz.prog nls (Tryz.f116.body.getD .skip) E ro fn=Zz E ro fn:=by kernel_rfl
theorem AeF(E:Env)(args:List Value)(u:Option FrameMode)(σ:FState)(hn:args.length≤(4:Nat)):fcall Tryz.prog nls E 116 args u σ=leaveR Tryz.prog E [.cell 4 24] (Zz E none 116 ⟨padTo undef 4 args,fun _=>undef,4,17,[]⟩ u σ):=by
 rw[Ao (body:=Tryz.f116.body.getD .skip) Tryz.func116 rfl E args u σ 4 17 (by kernel_rfl) rfl ⟨hn,by decide⟩,Amr]
 rfl
def Tf(_:Unit):List COp:=[⟨fun a σ=>fbox 24 (a.get 0) σ,some 3,fun _=>some true⟩,
 ⟨fun a σ=>fbox 24 (a.get 1) σ,some 4,fun _=>some true⟩,
 ⟨fun a σ=>fbox 24 (a.get 2) σ,some 5,fun _=>some true⟩,
 ⟨fun a σ=>newCells [(.int .i64 0),(.int .i64 0),(.string ⟨#[]⟩),(.slice none 0 0)] 24 none σ,some 6,fun _=>some true⟩,
 ⟨fun a σ=>.val (.int .i64 0) σ,some 7,fun _=>some true⟩]
def ApL:List COp:=Tf ()
def Tg(_:Unit):List COp:=[⟨fun a σ=>.val (.func (.func 115) #[] #[(a.get 3),(a.get 4),(a.get 5)]) σ,some 8,fun _=>some true⟩,
 ⟨fun a σ=>.enter 99 [(a.get 8)] σ,some 9,fun _=>some true⟩,
 ⟨fun a σ=>fextract 0 (a.get 9) σ,some 10,fun _=>some true⟩,
 ⟨fun a σ=>fextract 1 (a.get 9) σ,some 11,fun _=>some true⟩,
 ⟨fun a σ=>fstore 4 (a.get 6) (a.get 10) σ,none,fun _=>some true⟩,
 ⟨fun a σ=>.val (a.get 11) σ,some 7,fun _=>some true⟩]
def ApM:List COp:=Tg ()
def Aly(E:Env)(ro:Option Nat)(fn:FuncId):RunF:=(seqR (fops E ro ApL) (seqR (fops E ro ApM) retR))
theorem VY:fops E ro ApL a u σ=fops E ro (Tf ()) a u σ:=rfl
theorem VZ:fops E ro ApM a u σ=fops E ro (Tg ()) a u σ:=rfl
theorem ArC(E:Env)(ro:Option Nat)(fn:FuncId):code Tryz.prog nls (Tryz.f49.body.getD .skip) E ro fn=Aly E ro fn:=by kernel_rfl
theorem Ang(E:Env)(args:List Value)(u:Option FrameMode)(σ:FState)(hn:args.length≤(6:Nat)):fcall Tryz.prog nls E 49 args u σ=leaveR Tryz.prog E [.cell 6 24,.tmp 7] (Aly E none 49 ⟨padTo undef 6 args,fun _=>undef,6,12,[]⟩ u σ):=by
 rw[Ao (body:=Tryz.f49.body.getD .skip) Tryz.func49 rfl E args u σ 6 12 (by kernel_rfl) rfl ⟨hn,by decide⟩,ArC]
 rfl
def GV(_:Unit):List COp:=[⟨fun a σ=>newCells [(.int .i64 0),(.int .i64 0),(.string ⟨#[]⟩),(.slice none 0 0)] 24 none σ,some 3,fun _=>some true⟩]
def AfQ:List COp:=GV ()
def GW(_:Unit):List COp:=[⟨fun a σ=>fload (some 4) (a.get 0) σ,some 7,fun _=>some true⟩,
 ⟨fun a σ=>.enter 71 [(a.get 7)] σ,some 8,fun _=>some true⟩,
 ⟨fun a σ=>.val (a.get 8) σ,some 4,fun _=>some true⟩]
def AfR:List COp:=GW ()
def GX(_:Unit):List COp:=[⟨fun a σ=>fload (some 4) (a.get 1) σ,some 9,fun _=>some true⟩,
 ⟨fun a σ=>.enter 71 [(a.get 9)] σ,some 10,fun _=>some true⟩,
 ⟨fun a σ=>.val (a.get 10) σ,some 5,fun _=>some true⟩]
def AfS:List COp:=GX ()
def HV(_:Unit):List COp:=[⟨fun a σ=>fload (some 4) (a.get 2) σ,some 11,fun _=>some true⟩,
 ⟨fun a σ=>.enter 71 [(a.get 11)] σ,some 12,fun _=>some true⟩,
 ⟨fun a σ=>.val (a.get 12) σ,some 6,fun _=>some true⟩]
def AfT:List COp:=HV ()
def JP(_:Unit):List COp:=[⟨fun a σ=>.val (a.get 4) σ,some 13,fun _=>some true⟩,
 ⟨fun a σ=>fload (some 4) (a.get 0) σ,some 14,fun _=>some true⟩,
 ⟨fun a σ=>fload (some 4) (a.get 1) σ,some 15,fun _=>some true⟩,
 ⟨fun a σ=>.enter 113 [(a.get 14),(a.get 15)] σ,some 16,fun _=>some true⟩,
 ⟨fun a σ=>flenL (a.get 16) σ,some 17,fun _=>some true⟩,
 ⟨fun a σ=>.val (a.get 6) σ,some 18,fun _=>some true⟩,
 ⟨fun a σ=>.val (a.get 5) σ,some 19,fun _=>some true⟩,
 ⟨fun a σ=>i_sub Tryz.prog 3 (.tmp 18) (.tmp 19) (a.get 18) (a.get 19) σ,some 20,fun _=>some true⟩,
 ⟨fun a σ=>i_mul Tryz.prog 3 (.tmp 17) (.tmp 20) (a.get 17) (a.get 20) σ,some 21,fun _=>some true⟩,
 ⟨fun a σ=>i_add Tryz.prog 3 (.tmp 13) (.tmp 21) (a.get 13) (a.get 21) σ,some 22,fun _=>some true⟩,
 ⟨fun a σ=>.enter 101 [(a.get 22)] σ,some 23,fun _=>some true⟩]
def AfU:List COp:=JP ()
def LB(_:Unit):List COp:=[⟨fun a σ=>fload (some 4) (a.get 1) σ,some 24,fun _=>some true⟩,
 ⟨fun a σ=>fload (some 4) (a.get 2) σ,some 25,fun _=>some true⟩,
 ⟨fun a σ=>fbuild (fun i=>nth [(0,4),(4,4)] i) [(.int .i64 0),(.int .i64 0),(.string ⟨#[]⟩),(.slice none 0 0),(.int .i64 0),(.int .i64 0),(.string ⟨#[]⟩),(.slice none 0 0)] [(0,(a.get 24)),(1,(a.get 25))] σ,some 26,fun _=>some true⟩,
 ⟨fun a σ=>fload (some 4) (a.get 0) σ,some 27,fun _=>some true⟩,
 ⟨fun a σ=>.enter 116 [(a.get 26),(a.get 27)] σ,some 28,fun _=>some true⟩,
 ⟨fun a σ=>fstore 4 (a.get 3) (a.get 28) σ,none,fun _=>some true⟩]
def AfV:List COp:=LB ()
def TY(E:Env)(ro:Option Nat)(fn:FuncId):RunF:=(seqR (fops E ro AfQ) (seqR (fops E ro AfR) (seqR (fops E ro AfS) (seqR (fops E ro AfT) (seqR (fops E ro AfU) (seqR (fops E ro AfV) retR))))))
theorem Gm:fops E ro AfQ a u σ=fops E ro (GV ()) a u σ:=rfl
theorem Gn:fops E ro AfR a u σ=fops E ro (GW ()) a u σ:=rfl
theorem Gp:fops E ro AfS a u σ=fops E ro (GX ()) a u σ:=rfl
theorem HW:fops E ro AfT a u σ=fops E ro (HV ()) a u σ:=rfl
theorem Kx:fops E ro AfU a u σ=fops E ro (JP ()) a u σ:=rfl
theorem PB:fops E ro AfV a u σ=fops E ro (LB ()) a u σ:=rfl
theorem Amq(E:Env)(ro:Option Nat)(fn:FuncId):code Tryz.prog nls (Tryz.f115.body.getD .skip) E ro fn=TY E ro fn:=by kernel_rfl
theorem UH(E:Env)(args:List Value)(u:Option FrameMode)(σ:FState)(hn:args.length≤(7:Nat)):fcall Tryz.prog nls E 115 args u σ=leaveR Tryz.prog E [.cell 3 24] (TY E none 115 ⟨padTo undef 7 args,fun _=>undef,7,29,[]⟩ u σ):=by
 rw[Ao (body:=Tryz.f115.body.getD .skip) Tryz.func115 rfl E args u σ 7 29 (by kernel_rfl) rfl ⟨hn,by decide⟩,Amq]
 rfl
end
section
open Go Go.Eng
attribute [local congr] Ab Ah Af Ad Ae
attribute [-go_sem] List.range_succ
mutual
theorem Aez:∀d:D,d.deep≤d.count
 | .mk k z t ds=>by rw[D.deep,D.count];have:=Pf ds;omega
theorem Pf:∀ds:List D,D.deeps ds≤D.counts ds
 | []=>Nat.le_refl _
 | d::ds=>by rw[D.deeps,D.counts];have:=Aez d;have:=Pf ds;omega
end
def CountAt(m:Nat)(d:D):Prop:=∀(lv:List Value) (R:Nat→Prop) (σ:FState),Wf σ→LaidR R σ (.agg lv.toArray) d→d.count<1000000→Gives ((env m).call 73 [.agg lv.toArray] none σ) σ fun w _=>w=.tuple #[.int .i64 (.ofNat d.count),.int .i64 (.ofNat d.deep)]
structure HeadCt (b1:Nat) (lv:List Value) (R:Nat→Prop) (q:Option Addr) (ds:List D) (σ0:FState) (i:Nat) (f:Nat→Value) (σ:FState):Prop where
 f1:f 1=.pointer (some ⟨b1,0,none⟩)
 f4:f 4=.int .i64 (.ofNat (D.counts (ds.take i)+1))
 f5:f 5=.int .i64 (.ofNat (D.deeps (ds.take i)))
 f6:f 6=.int .i64 (.ofNat i)
 cd:σ.cells b1=some lv
 lay:LaidRE R σ q 0 ds
 wf:Wf σ
 ext:Ext σ0 σ
 le:i≤ds.length
theorem AlP(n N:Nat)(d d':D)(lv lv':List Value)(h4:lv.length=4)(h4':lv'.length=4)(σ:FState)(hd:D.deep d≤N)(hc:d.count<1000000000)(hw:Wf σ)(hL:Laid σ (.agg lv.toArray) d)(hL':Laid σ (.agg lv'.toArray) d'):
  Gives ((env (n+2*N+1)).call 145 [.agg lv.toArray,.agg lv'.toArray] none σ) σ fun w _=>w=.bool (D.same d d'):=by
 rw[Ak _ 145 _ _ rfl,AeN _ _ _ _ (by simp),Aj]
 unfold ZH
 have x1:Ext σ ((σ.push (.cells lv TD) none).push (.cells lv' TD) none):=((Ext.refl _).push _ _).push _ _
 have hw1:=(hw.push (.cells lv TD) none).push (.cells lv' TD) none
 obtain⟨_,σ2,e2,x2,hw2,rfl⟩:=GM n N d d' _ _ _ hd hc hw1 (hL.ext hw x1) (hL'.ext hw x1)
 have ht:lv.take 4=lv:=List.take_of_length_le (by omega)
 have ht':lv'.take 4=lv':=List.take_of_length_le (by omega)
 generalize hM:n+2*N=M at e2 ⊢
 simp -implicitDefEqProofs only[go_sem,AcR,R3,AcS,R4,h4,h4',ht,ht',e2,Nat.le_refl]
 exact⟨_,_,rfl,x1.trans x2,hw2,rfl⟩
end
section
open Go Go.Eng
attribute [local congr] Ab Ah Af Ad Ae
attribute [-go_sem] List.range_succ
structure FactsFd (N:Nat) (b2 b3 ba:Nat) (R RX:Nat→Prop) (d x:D) (lv xv us:List Value) (σ:FState):Prop where
 xdeep:x.deep≤N
 xcount:x.count<100000
 dcount:d.count<10000
 ddeep:d.deep<1000
 h4:lv.length=4
 hx4:xv.length=4
 c2:σ.cells b2=some lv
 c3:σ.cells b3=some xv
 ca:σ.cells ba=some us
 pl:PathsL (fun _=>True) σ us ((d.pieces []).map (·.1))
 ld:LaidR R σ (.agg lv.toArray) d
 lx:LaidR RX σ (.agg xv.toArray) x
 wf:Wf σ
structure HeadFd (b2 b3 ba:Nat) (d x:D) (us:List Value) (σ0:FState) (i:Nat) (f:Nat→Value) (σ:FState):Prop where
 f2:f 2=.pointer (some ⟨b2,0,none⟩)
 f3:f 3=.pointer (some ⟨b3,0,none⟩)
 f6:f 6=.slice (some ⟨ba,0,none⟩) us.length us.length
 f7:f 7=.int .i64 (.ofNat i)
 vec:∃ws,Vecs TP (fun b=>σ0.next≤b) σ (f 5) ws∧ws.length=(foundIn x ((d.pieces []).take i)).length
 ext:Ext σ0 σ
 wf:Wf σ
 le:i≤(d.pieces []).length
end
section
open Go Go.Eng
attribute [local congr] Ab Ah Af Ad Ae
attribute [-go_sem] List.range_succ
def DoAt(m:Nat)(fg:FuncId)(fv:Value)(σ0:FState)(h:D→D)(d:D):Prop:=∀(lv:List Value) (R:Nat→Prop) (σ:FState),Ext σ0 σ→Wf σ→LaidR R σ (.agg lv.toArray) d→Gives ((env m).call fg [fv,.agg lv.toArray] none σ) σ fun w σ'=>LaidR (fun b=>σ.next≤b) σ' w (h d)
structure HeadEb (fg:FuncId) (fv:Value) (h:D→D) (bo base:Nat) (R:Nat→Prop) (q:Option Addr) (c:Nat) (ds:List D) (σ0:FState) (i:Nat) (f g:Nat→Value) (σ:FState):Prop where
 f0:f 0=.slice q ds.length c
 f1:f 1=.func (.func fg) #[fv] #[]
 f5:f 5=.slice (some ⟨bo,0,none⟩) ds.length ds.length
 g14:g 14=.int .i64 (.ofNat ds.length)
 g15:g 15=.int .i64 (.ofNat i)
 cs:∃done rest ver,σ.heap.get bo=some ⟨.cells (done++rest) TD,false,none,ver⟩∧Row (fun b=>base≤b∧b≠bo) σ done ((ds.take i).map h)∧rest.length=(ds.length-i)*4
 hbo:base≤bo
 lay:LaidRE R σ q 0 ds
 low:∀b,R b→b<base
 wf:Wf σ
 ext:Ext σ0 σ
 le:i≤ds.length
theorem Xc(m:Nat){fg:FuncId}{fv:Value}{h:D→D}{bo base:Nat}{R:Nat→Prop}{q:Option Addr}{c:Nat}{ds:List D}{σ0:FState}(hC:∀d∈ds,DoAt m fg fv σ0 h d)(hb0:σ0.next=base)(hfew:ds.length<1000000):
  ∀(j fuel i:Nat) (f g:Nat→Value) (σ:FState),i+j=ds.length→j<fuel→HeadEb fg fv h bo base R q c ds σ0 i f g σ→
  ∃f' g' σ',floop [14,15,28] (I_ (env m) none 139) fuel (Sl 7 29 f g []) none σ=.done (.exit 0) (Sl 7 29 f' g' []) none σ'∧HeadEb fg fv h bo base R q c ds σ0 ds.length f' g' σ':=by
 intro j
 induction j with
 | zero=>
  intro fuel i f g σ hij hf h
  obtain⟨fuel,rfl⟩:∃q,fuel=q+1:=⟨fuel-1,by omega⟩
  obtain rfl:i=ds.length:=by omega
  have d1:decide (Int.ofNat ds.length<Int.ofNat ds.length)=false:=by simp
  rw[Ar,BU]
  unfold I_
  simp -implicitDefEqProofs only[go_sem,Ib,Ia,h.g14,h.g15,d1,List.mem_cons]
  refine⟨_,_,_,rfl,{ h with g14:=?_,g15:=?_ }⟩
  ·simp -implicitDefEqProofs only[go_sem,reduceCtorEq,h.g14,List.mem_cons,true_or,or_true]
  ·simp -implicitDefEqProofs only[go_sem,reduceCtorEq,h.g15,List.mem_cons,true_or,or_true]
 | succ j ih=>
  intro fuel i f g σ hij hf h
  obtain⟨fuel,rfl⟩:∃q,fuel=q+1:=⟨fuel-1,by omega⟩
  have hi:i<ds.length:=by omega
  have d1:decide (Int.ofNat i<Int.ofNat ds.length)=true:=by simp;omega
  have hd:ds[i]? = some ds[i]:=List.getElem?_eq_getElem hi
  obtain⟨b,off,cs,rfl,hRb,hcs,hle,hL⟩:=LaidRE.get h.lay hd
  rw[Nat.zero_add] at hle hL
  obtain⟨done,rest,ver,hg,hr,hrl⟩:=h.cs
  obtain⟨w,σ1,e1,x1,hw1,hL1⟩:=hC _ (List.getElem_mem hi) ((cs.drop (off+i*4)).take 4) R σ h.ext h.wf hL
  obtain⟨l4,rfl,hl4,hone⟩:=hL1.agg
  have hbn:=(h.wf _ _ hg).1
  have hg1:=(x1.get bo hbn).trans hg
  have hdl:done.length=i*4:=by rw[hr.1,List.length_map,List.length_take];omega
  have w1:=GH i (by omega)
  have hr4:4≤rest.length:=by rw[hrl];omega
  have e4:((done++rest).take (i*4)++l4++(done++rest).drop (i*4+4))=(done++l4)++rest.drop 4:=by
   rw[←hdl,List.take_left',List.drop_append]
   ·simp[List.drop_eq_nil_of_le]
   ·rfl
  have hlen:i*4+4≤(done++rest).length:=by rw[List.length_append,hdl];omega
  rw[Ar,BU]
  unfold I_
  simp -implicitDefEqProofs only[go_sem,Aw,Ib,Ia,PS,LS,PT,LU,PU,LV,h.f0,h.f1,h.f5,h.g14,h.g15,d1,hi,hcs,hle,e1,hg1,hl4,hone,hlen,e4,w1,List.mem_cons]
  generalize hff:upd _ 6 _=f1
  generalize hgg:upd _ 15 _=g1
  have n1:=x1.next
  have hbase:base≤σ.next:=by have:=h.ext.next;omega
  have hbo:=h.hbo
  have kc:∀(o:FObj) b cs,σ1.cells b=some cs→b≠bo→(σ1.put bo o none).cells b=some cs:=fun o b cs hc hb=>by rw[Al,if_neg hb];exact hc
  exact ih fuel (i+1) f1 g1 _ (by omega) (by omega) {
   f0:=by rw[←hff];simp -implicitDefEqProofs only[go_sem,reduceCtorEq,h.f0]
   f1:=by rw[←hff];simp -implicitDefEqProofs only[go_sem,reduceCtorEq,h.f1]
   f5:=by rw[←hff];simp -implicitDefEqProofs only[go_sem,reduceCtorEq,h.f5]
   g14:=by rw[←hgg];simp -implicitDefEqProofs only[go_sem,reduceCtorEq,h.g14,List.mem_cons,true_or,or_true]
   g15:=by rw[←hgg];simp -implicitDefEqProofs only[go_sem,reduceCtorEq]
   cs:=⟨done++l4,rest.drop 4,_,by rw[Am,if_pos rfl],by
    rw[List.take_add_one,hd,List.map_append]
    exact(hr.keep fun b cs hb hc=>⟨kc _ b cs ((x1.cells (h.wf.cells hc)).trans hc) hb.2,hb⟩).snoc hl4 hone (hL1.keep fun b cs hb hc=>⟨kc _ b cs hc (by omega),by omega,by omega⟩),by rw[List.length_drop,hrl];omega⟩
   hbo:=h.hbo
   lay:=h.lay.keep fun b cs hb hc=>⟨kc _ b cs ((x1.cells (h.wf.cells hc)).trans hc) (by have:=h.low b hb;omega),hb⟩
   low:=h.low
   wf:=hw1.put _ _ _ (by omega)
   ext:=(h.ext.trans x1).put _ _ _ (by omega)
   le:=hi }
theorem Xd(m:Nat)(fg:FuncId)(fv:Value)(h:D→D)(ds:List D)(hfew:ds.length<1000000)(q:Option Addr)(c:Nat)(R:Nat→Prop)(σ:FState)(hC:∀d∈ds,DoAt m fg fv σ h d)(hw:Wf σ)(hE:LaidRE R σ q 0 ds):
  Gives ((env (m+1)).call 139 [.slice q ds.length c,.func (.func fg) #[fv] #[]] none σ) σ fun w σ'=>∃q' c',w=.slice q' (ds.map h).length c'∧LaidRE (fun b=>σ.next≤b) σ' q' 0 (ds.map h):=by
 rw[Ak _ 139 _ _ rfl,UK _ _ _ _ (by simp),Aj]
 unfold T_
 cases hz:(Int.ofNat ds.length==(0:Int)) with
 | true=>
  have h0:ds=[]:=by
   have:=Int.ofNat.inj (eq_of_beq hz)
   exact List.length_eq_zero_iff.1 this
  subst h0
  simp -implicitDefEqProofs only[go_sem,H8,H7,H_,H9,PP,LP,hz]
  exact⟨_,_,rfl,Ext.refl _,hw,none,0,rfl,trivial⟩
 | false=>
  have hmk:=fun σ=>JG 24 56 [.int .i64 0,.int .i64 0,.string ⟨#[]⟩,.slice none 0 0] ds.length σ (by omega)
  simp -implicitDefEqProofs only[go_sem,H8,H7,H_,H9,PQ,LQ,PR,LR,hz,hmk,Vp]
  generalize hff:upd _ 5 _=f1
  generalize hgg:upd _ 15 _=g1
  generalize hbf:bigFuel=fuel
  obtain⟨f2,g2,σ2,e2,h2⟩:=Xc m (fg:=fg) (fv:=fv) (h:=h) (bo:=σ.next) (base:=σ.next) (R:=fun b=>R b∧b<σ.next) (q:=q) (c:=c) (σ0:=σ) hC rfl hfew ds.length fuel 0 f1 g1 (σ.push (.cells (reps ds.length [.int .i64 0,.int .i64 0,.string ⟨#[]⟩,.slice none 0 0]) TD) none) (by omega) (by rw[←hbf];show ds.length<1000000000000;omega) {
   f0:=by rw[←hff];simp -implicitDefEqProofs only[go_sem,reduceCtorEq]
   f1:=by rw[←hff];simp -implicitDefEqProofs only[go_sem,reduceCtorEq]
   f5:=by rw[←hff];simp -implicitDefEqProofs only[go_sem,reduceCtorEq]
   g14:=by rw[←hgg];simp -implicitDefEqProofs only[go_sem,reduceCtorEq]
   g15:=by rw[←hgg];simp -implicitDefEqProofs only[go_sem,reduceCtorEq]<;>rfl
   cs:=⟨[],reps ds.length [.int .i64 0,.int .i64 0,.string ⟨#[]⟩,.slice none 0 0],σ.clock,by rw[Ai,if_pos rfl];rfl,Row.nil _ _,by rw[Fc];rfl⟩
   hbo:=Nat.le_refl _
   lay:=hE.keep fun b cs hb hc=>⟨by rw[Ac,if_neg (by have:=hw.cells hc;omega)];exact hc,hb,hw.cells hc⟩
   low:=fun b hb=>hb.2
   wf:=hw.push _ _
   ext:=(Ext.refl _).push _ _
   le:=Nat.zero_le _ }
  rw[e2]
  simp -implicitDefEqProofs only[go_sem,PV,LW,h2.f5]
  obtain⟨done,rest,ver,hg,hr,hrl⟩:=h2.cs
  rw[List.take_length] at hr
  have hrest:rest=[]:=List.length_eq_zero_iff.1 (by rw[hrl];omega)
  subst hrest
  rw[List.append_nil] at hg
  exact⟨_,_,rfl,h2.ext,h2.wf,_,_,by rw[List.length_map],hr.elems (AB hg) (Nat.le_refl _) (fun c hc=>hc.1) 0 (ds.map h) fun j e he=>by rwa [Nat.zero_add]⟩
theorem Aes(m:Nat)(fg:FuncId)(fv:Value)(h:D→D)(k z:Int)(t:ByteArray)(ds:List D)(hfew:ds.length<1000000)(lv:List Value)(R:Nat→Prop)(σ:FState)(hC:∀d∈ds,DoAt m fg fv σ h d)(hw:Wf σ)(hL:LaidR R σ (.agg lv.toArray) (.mk k z t ds)):
  Gives ((env (m+2)).call 146 [.agg #[.func (.func fg) #[fv] #[]],.agg lv.toArray] none σ) σ fun w σ'=>LaidR (fun b=>σ.next≤b) σ' w (.mk k z t (ds.map h)):=by
 obtain⟨q,c,hv,hE⟩:=hL
 have hlv:lv=[.int .i64 k,.int .i64 z,.string t,.slice q ds.length c]:=by
  have:=Value.agg.inj hv
  simpa using congrArg Array.toList this
 subst hlv
 rw[Ak _ 146 _ _ rfl,AeO _ _ _ _ (by simp),Aj]
 unfold ZI
 have x1:Ext σ (((σ.push (.cells [.func (.func fg) #[fv] #[]] 174) none).push (.cells [.int .i64 k,.int .i64 z,.string t,.slice q ds.length c] TD) none).push (.cells [.int .i64 0,.int .i64 0,.string ⟨#[]⟩,.slice none 0 0] TD) none):=(((Ext.refl _).push _ _).push _ _).push _ _
 have hw1:=((hw.push (.cells [.func (.func fg) #[fv] #[]] 174) none).push (.cells [.int .i64 k,.int .i64 z,.string t,.slice q ds.length c] TD) none).push (.cells [.int .i64 0,.int .i64 0,.string ⟨#[]⟩,.slice none 0 0] TD) none
 have c0:(((σ.push (.cells [.func (.func fg) #[fv] #[]] 174) none).push (.cells [.int .i64 k,.int .i64 z,.string t,.slice q ds.length c] TD) none).push (.cells [.int .i64 0,.int .i64 0,.string ⟨#[]⟩,.slice none 0 0] TD) none).cells σ.next=some [.func (.func fg) #[fv] #[]]:=by rw[Ac,if_neg (by simp only[Aa];omega),Ac,if_neg (by rw[Aa];omega),Ac,if_pos rfl];rfl
 have c1:(((σ.push (.cells [.func (.func fg) #[fv] #[]] 174) none).push (.cells [.int .i64 k,.int .i64 z,.string t,.slice q ds.length c] TD) none).push (.cells [.int .i64 0,.int .i64 0,.string ⟨#[]⟩,.slice none 0 0] TD) none).cells (σ.next+1)=some [.int .i64 k,.int .i64 z,.string t,.slice q ds.length c]:=by rw[Ac,if_neg (by simp only[Aa];omega),Ac,if_pos (by rw[Aa])];rfl
 have g2:(((σ.push (.cells [.func (.func fg) #[fv] #[]] 174) none).push (.cells [.int .i64 k,.int .i64 z,.string t,.slice q ds.length c] TD) none).push (.cells [.int .i64 0,.int .i64 0,.string ⟨#[]⟩,.slice none 0 0] TD) none).heap.get (σ.next+2)=some ⟨.cells [.int .i64 0,.int .i64 0,.string ⟨#[]⟩,.slice none 0 0] TD,false,none,σ.clock+2⟩:=by rw[Ai,if_pos (by simp only[Aa])];rfl
 have kc:(((σ.push (.cells [.func (.func fg) #[fv] #[]] 174) none).push (.cells [.int .i64 k,.int .i64 z,.string t,.slice q ds.length c] TD) none).push (.cells [.int .i64 0,.int .i64 0,.string ⟨#[]⟩,.slice none 0 0] TD) none).clock=σ.clock+3:=rfl
 have kn:(((σ.push (.cells [.func (.func fg) #[fv] #[]] 174) none).push (.cells [.int .i64 k,.int .i64 z,.string t,.slice q ds.length c] TD) none).push (.cells [.int .i64 0,.int .i64 0,.string ⟨#[]⟩,.slice none 0 0] TD) none).next=σ.next+3:=rfl
 simp -implicitDefEqProofs only[go_sem,AcT,R5,D1,Es,EQ]
 generalize FState.push (FState.push (FState.push σ _ _) _ _) _ _=σ1 at x1 hw1 c0 c1 g2 kc kn ⊢
 have hv1:=D0 hw1 (lam:=σ.clock+3) (by omega)
 obtain⟨_,σ2,e2,x2,hw2,q',c',rfl,hE'⟩:=Xd m fg fv h ds hfew q c R σ1 (fun d hd lv R σ' hx=>hC d hd lv R σ' (x1.trans hx)) hw1 (hE.keep fun b cs hb hc=>⟨(x1.cells (hw.cells hc)).trans hc,hb⟩)
 have c2:(view σ2 (σ.clock+3)).cells (σ.next+1)=some [.int .i64 k,.int .i64 z,.string t,.slice q ds.length c]:=ED hw1 (by omega) (x2.get _ (hw1.cells c1)) c1
 have g2':=(x2.get _ (hw1 _ _ g2).1).trans g2
 rw[List.length_map] at e2
 simp -implicitDefEqProofs only[go_sem,Aw,AcU,R6,hv1,c0,c1,e2,c2,g2',Bj,AX,AP,A0,BJ]
 have n2:=x2.next
 exact⟨_,_,rfl,(x1.trans x2).put _ _ _ (by omega),hw2.put _ _ _ (by omega),q',c',by rw[List.length_map],hE'.keep fun b cs hb hc=>⟨by rw[Al,if_neg (by omega)];exact hc,by omega⟩⟩
end
section
open Go Go.Eng
attribute [local congr] Ab Ah Af Ad Ae
attribute [-go_sem] List.range_succ
theorem AnB(M n N0:Nat)(hM:M=n+2*N0)(v8 xv yv:List Value)(h8:v8.length=8)(hxo:v8.take 4=xv)(hyo:(v8.drop 4).take 4=yv)(x y:D)(RX RY:Nat→Prop)(σ0:FState)(hw0:Wf σ0)(hLx:LaidR RX σ0 (.agg xv.toArray) x)(hLy:LaidR RY σ0 (.agg yv.toArray) y)(hyd:y.deep≤N0)(hyc:y.count<1000000)(k z:Int)(t:ByteArray)(ds:List D)(hdd:(D.mk k z t ds).deep≤N0)(hdc:(D.mk k z t ds).count<1000000)(hC:∀d∈ds,DoAt M 116 (.agg v8.toArray) σ0 (repl x y) d):DoAt (M+3) 116 (.agg v8.toArray) σ0 (repl x y) (.mk k z t ds):=by
 intro lv R σ hx0 hw hL
 have hL0:=hL
 obtain⟨lv4,hlv4⟩:∃n,lv.length=n:=⟨_,rfl⟩
 have h4:lv.length=4:=by
  obtain⟨q,c,hv,_⟩:=hL
  have:=congrArg Array.size (Value.agg.inj hv)
  simpa using this
 have ht:lv.take 4=lv:=List.take_of_length_le (by omega)
 have ht8:v8.take 8=v8:=List.take_of_length_le (by omega)
 have hxl:xv.length=4:=by rw[←hxo,List.length_take];omega
 have hyl:yv.length=4:=by rw[←hyo,List.length_take,List.length_drop];omega
 have hl48:4≤v8.length-4:=by omega
 rw[Ak _ 116 _ _ rfl,AeF _ _ _ _ (by simp),Aj]
 unfold Zz
 have x1:Ext σ (((σ.push (.cells v8 130) none).push (.cells lv TD) none).push (.cells [.int .i64 0,.int .i64 0,.string ⟨#[]⟩,.slice none 0 0] TD) none):=(((Ext.refl _).push _ _).push _ _).push _ _
 have hw1:=((hw.push (.cells v8 130) none).push (.cells lv TD) none).push (.cells [.int .i64 0,.int .i64 0,.string ⟨#[]⟩,.slice none 0 0] TD) none
 have c0:(((σ.push (.cells v8 130) none).push (.cells lv TD) none).push (.cells [.int .i64 0,.int .i64 0,.string ⟨#[]⟩,.slice none 0 0] TD) none).cells σ.next=some v8:=by rw[Ac,if_neg (by simp only[Aa];omega),Ac,if_neg (by rw[Aa];omega),Ac,if_pos rfl];rfl
 have c1:(((σ.push (.cells v8 130) none).push (.cells lv TD) none).push (.cells [.int .i64 0,.int .i64 0,.string ⟨#[]⟩,.slice none 0 0] TD) none).cells (σ.next+1)=some lv:=by rw[Ac,if_neg (by simp only[Aa];omega),Ac,if_pos (by rw[Aa])];rfl
 have g2:(((σ.push (.cells v8 130) none).push (.cells lv TD) none).push (.cells [.int .i64 0,.int .i64 0,.string ⟨#[]⟩,.slice none 0 0] TD) none).heap.get (σ.next+2)=some ⟨.cells [.int .i64 0,.int .i64 0,.string ⟨#[]⟩,.slice none 0 0] TD,false,none,σ.clock+2⟩:=by rw[Ai,if_pos (by simp only[Aa])];rfl
 have kn:(((σ.push (.cells v8 130) none).push (.cells lv TD) none).push (.cells [.int .i64 0,.int .i64 0,.string ⟨#[]⟩,.slice none 0 0] TD) none).next=σ.next+3:=rfl
 simp -implicitDefEqProofs only[go_sem,Acp,Ry]
 generalize hgg:upd _ 4 _=g1
 generalize hff:upd _ 3 _=f1
 have q2:f1 2=.pointer (some ⟨σ.next,0,none⟩):=by rw[←hff];simp -implicitDefEqProofs only[go_sem,reduceCtorEq]
 have q3:f1 3=.pointer (some ⟨σ.next+1,0,none⟩):=by rw[←hff];simp -implicitDefEqProofs only[go_sem,reduceCtorEq]
 have q4:g1 4=.pointer (some ⟨σ.next+2,0,none⟩):=by rw[←hgg];simp -implicitDefEqProofs only[go_sem,reduceCtorEq]
 clear hff hgg
 generalize FState.push (FState.push (FState.push σ _ _) _ _) _ _=σ1 at x1 hw1 c0 c1 g2 kn ⊢
 have x01:=hx0.trans x1
 have kl:∀ {R:Nat→Prop} {v:Value} {e:D} (σ':FState),Ext σ0 σ'→LaidR R σ0 v e→LaidR R σ' v e:=fun σ' hx h=>h.keep fun b cs hb hc=>⟨(hx.cells (hw0.cells hc)).trans hc,hb⟩
 have kd:∀(σ':FState),Ext σ σ'→LaidR R σ' (.agg lv.toArray) (.mk k z t ds):=fun σ' hx=>hL0.keep fun b cs hb hc=>⟨(hx.cells (hw.cells hc)).trans hc,hb⟩
 obtain⟨_,σ2,e2,x2,hw2,rfl⟩:=MJ (n+2) N0 (.mk k z t ds) x (.agg lv.toArray) (.agg xv.toArray) σ1 hdd (by omega) hw1 (kd σ1 x1).laid (kl σ1 x01 hLx).laid
 rw[show n+2+2*N0=M+2 by omega] at e2
 have n2:=x2.next
 have c02:=(x2.cells (hw1.cells c0)).trans c0
 have c12:=(x2.cells (hw1.cells c1)).trans c1
 have g22:=(x2.get _ (hw1 _ _ g2).1).trans g2
 have x12:=x1.trans x2
 cases e:D.same (.mk k z t ds) x with
 | true=>
  rw[e] at e2
  have hcp:=QD (n+2) N0 y hyd hyc
  rw[show n+2+2*N0=M+2 by omega] at hcp
  obtain⟨_,σ3,e3,x3,hw3,hq⟩:=hcp yv RY σ2 hw2 (kl σ2 (hx0.trans x12) hLy)
  obtain⟨l4,rfl,hl4,hone⟩:=hq.agg
  have g23:=(x3.get _ (by omega)).trans g22
  simp -implicitDefEqProofs only[go_sem,Aw,PD,LC,Acq,Rz,q2,q3,q4,c0,c1,h4,h8,ht,hxo,hyo,hl48,e2,c02,e3,g23,hl4,hone,Bj,AX,AP,A0,BJ,Nat.le_refl]
  have ht4:l4.take 4=l4:=List.take_of_length_le (by omega)
  refine⟨_,_,rfl,(x12.trans x3).put _ _ _ (by omega),hw3.put _ _ _ (by have:=x3.next;omega),?_⟩
  rw[repl,if_pos e]
  rw[ht4]
  exact hq.keep fun b cs hb hc=>⟨by rw[Al,if_neg (by omega)];exact hc,by omega⟩
 | false=>
  rw[e] at e2
  obtain⟨_,σ3,e3,x3,hw3,hq⟩:=Aes M 116 (.agg v8.toArray) (repl x y) k z t ds (by have:=Eh ds;rw[D.count] at hdc;omega) lv R σ2 (fun d hd lv R σ' hx=>hC d hd lv R σ' ((hx0.trans x12).trans hx)) hw2 (kd σ2 x12)
  obtain⟨l4,rfl,hl4,hone⟩:=hq.agg
  have g23:=(x3.get _ (by omega)).trans g22
  simp -implicitDefEqProofs only[go_sem,Aw,PD,LC,Acr,RA,q2,q3,q4,c0,c1,h4,h8,ht,ht8,hxo,e2,c02,c12,e3,g23,hl4,hone,D1,Es,EQ,Bj,AX,AP,A0,BJ,Nat.le_refl]
  have ht4:l4.take 4=l4:=List.take_of_length_le (by omega)
  refine⟨_,_,rfl,(x12.trans x3).put _ _ _ (by omega),hw3.put _ _ _ (by have:=x3.next;omega),?_⟩
  rw[repl,if_neg (by rw[e];simp),IC,ht4]
  exact hq.keep fun b cs hb hc=>⟨by rw[Al,if_neg (by omega)];exact hc,by omega⟩
end
end Go.Proofs.YtokieofohmgjdaaGreatDoor
end
