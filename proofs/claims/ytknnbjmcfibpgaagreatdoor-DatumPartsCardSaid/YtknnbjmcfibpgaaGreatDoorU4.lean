import Derived.Test.YtknnbjmcfibpgaaGreatDoorU3
import Derived.Laws.StructEq
set_option linter.unusedSimpArgs false
set_option linter.unusedVariables false
noncomputable section
namespace Go.Proofs.YtknnbjmcfibpgaaGreatDoor
open Go Go.Eng
attribute [local congr] Ab Ah Af Ad Ae
attribute [-go_sem] List.range_succ
theorem WQ(n:Nat)(p:Int)(hp:p<=2000)(Z:aC):(env (n+1)).call 84 [.int .i64 p] none Z=.ret (.tuple #[]) none Z:=by
 have hd:decide (p>2000)=false:=by simp;omega
 rw[Ak _ 84 _ _ rfl,Ap8 _ _ _ _ (by simp),Aj]
 unfold Aoq
 simp -implicitDefEqProofs only[go_sem,Anb,Abt,hd]
theorem E7(n:Nat)(k z:Int)(p:Option Addr)(c:Nat)(Z:aC)(hw:Wf Z):
  Gives ((env (n+1)).call 219 [.agg #[.int .i64 k,.int .i64 z,.string ⟨#[]⟩,.slice p 0 c]] none Z) Z fun w _=>w=.bool true:=by
 have h0:(Int.ofNat 0==0)=true:=rfl
 rw[Ak _ 219 _ _ rfl,VY _ _ _ _ (by simp),Aj]
 unfold Vo
 simp -implicitDefEqProofs only[go_sem,KY,Kb,KZ,Kc,h0]
 exact⟨_,_,rfl,(Ext.refl _).push _ _,hw.push _ _,rfl⟩
theorem F_(n:Nat)(k:Int)(t:ByteArray)(p:Option Addr)(c:Nat)(Z:aC)(hw:Wf Z):
  Gives ((env (n+1)).call 213 [.agg #[.int .i64 k,.int .i64 0,.string t,.slice p 0 c]] none Z) Z fun w _=>w=.bool true:=by
 have h0:(Int.ofNat 0==0)=true:=rfl
 rw[Ak _ 213 _ _ rfl,VX _ _ _ _ (by simp),Aj]
 unfold Vn
 simp -implicitDefEqProofs only[go_sem,KW,J_,KX,Ka,h0]
 exact⟨_,_,rfl,(Ext.refl _).push _ _,hw.push _ _,rfl⟩
theorem RJ(n:Nat)(k:Int)(p:Option Addr)(c:Nat)(Z:aC)(hw:Wf Z):
  Gives ((env (n+1)).call 221 [.agg #[.int .i64 k,.int .i64 0,.string ⟨#[]⟩,.slice p 0 c]] none Z) Z fun w _=>w=.bool true:=by
 have h0:(Int.ofNat 0==0)=true:=rfl
 rw[Ak _ 221 _ _ rfl,VZ _ _ _ _ (by simp),Aj]
 unfold Vp
 simp -implicitDefEqProofs only[go_sem,IP,IM,IR,IQ,h0]
 exact⟨_,_,rfl,(Ext.refl _).push _ _,hw.push _ _,rfl⟩
theorem Zt(n:Nat)(p:Option Addr)(l c:Nat)(Z:aC)(hw:Wf Z):
  Gives ((env (n+1)).call 223 [.agg #[.int .i64 6,.int .i64 0,.string ⟨#[]⟩,.slice p l c]] none Z) Z fun w _=>w=.bool true:=by
 rw[Ak _ 223 _ _ rfl,M6 _ _ _ _ (by simp),Aj]
 unfold Pd
 simp -implicitDefEqProofs only[go_sem,GL,Hg,GM,Hh]
 exact⟨_,_,rfl,(Ext.refl _).push _ _,hw.push _ _,rfl⟩
theorem Ww(n:Nat)(p:Option Addr)(c:Nat)(Z:aC)(hw:Wf Z):
  Gives ((env (n+1)).call 223 [.agg #[.int .i64 5,.int .i64 0,.string ⟨#[]⟩,.slice p 2 c]] none Z) Z fun w _=>w=.bool true:=by
 have h0:(Int.ofNat 2==2)=true:=rfl
 have h1:((5:Int)==6)=false:=rfl
 rw[Ak _ 223 _ _ rfl,M6 _ _ _ _ (by simp),Aj]
 unfold Pd
 simp -implicitDefEqProofs only[go_sem,GL,Hg,GM,Hh,h0,h1]
 exact⟨_,_,rfl,(Ext.refl _).push _ _,hw.push _ _,rfl⟩
def workType(k:Nat):Nat:=if k=0 then 180 else if k<=2 then 177 else if k<=4 then 145 else 181
theorem FC(n k:Nat)(hk:k<=6)(z:Int)(t:ByteArray)(q:Value)(hq:oneCell q=true)(Z:aC)(hw:Wf Z):
  Gives ((env (n+1)).call 117 [.agg #[.int .i64 (k:Int),.int .i64 z,.string t,q]] none Z) Z fun w _=>w=.iface (workType k) (.agg #[.int .i64 (k:Int),.int .i64 z,.string t,q]):=by
 rw[Ak _ 117 _ _ rfl,VP _ _ _ _ (by simp),Aj]
 unfold Vf
 have fin:∀(o:FObj) (f:Option Nat),Ext Z (Z.push o f)/\Wf (Z.push o f):=fun o f=>⟨(Ext.refl _).push _ _,hw.push _ _⟩
 obtain rfl|rfl|rfl|rfl|rfl|rfl|rfl:k=0\/k=1\/k=2\/k=3\/k=4\/k=5\/k=6:=by omega
 .have e0:(((0:Nat):Int)==0)=true:=rfl
  simp -implicitDefEqProofs only[go_sem,EK,E8,EL,E9,EM,E_,Ae8,Sj,e0]
  exact⟨_,_,rfl,(fin ..).1,(fin ..).2,rfl⟩
 .have e0:(((1:Nat):Int)==0)=false:=rfl
  have e1:(((1:Nat):Int)==1)=true:=rfl
  simp -implicitDefEqProofs only[go_sem,EK,E8,EL,E9,EM,E_,E2,Fz,Qt,LX,e0,e1]
  exact⟨_,_,rfl,(fin ..).1,(fin ..).2,rfl⟩
 .have e0:(((2:Nat):Int)==0)=false:=rfl
  have e1:(((2:Nat):Int)==1)=false:=rfl
  have e2:(((2:Nat):Int)==2)=true:=rfl
  simp -implicitDefEqProofs only[go_sem,EK,E8,EL,E9,EM,E_,E2,Fz,FG,Gd,Qt,LX,e0,e1,e2]
  exact⟨_,_,rfl,(fin ..).1,(fin ..).2,rfl⟩
 .have e0:(((3:Nat):Int)==0)=false:=rfl
  have e1:(((3:Nat):Int)==1)=false:=rfl
  have e2:(((3:Nat):Int)==2)=false:=rfl
  have e3:(((3:Nat):Int)==3)=true:=rfl
  simp -implicitDefEqProofs only[go_sem,EK,E8,EL,E9,EM,E_,E2,Fz,FG,Gd,GD,G_,Qu,LY,e0,e1,e2,e3]
  exact⟨_,_,rfl,(fin ..).1,(fin ..).2,rfl⟩
 .have e0:(((4:Nat):Int)==0)=false:=rfl
  have e1:(((4:Nat):Int)==1)=false:=rfl
  have e2:(((4:Nat):Int)==2)=false:=rfl
  have e3:(((4:Nat):Int)==3)=false:=rfl
  have e4:(((4:Nat):Int)==4)=true:=rfl
  simp -implicitDefEqProofs only[go_sem,EK,E8,EL,E9,EM,E_,E2,Fz,FG,Gd,GD,G_,Ij,Ii,Qu,LY,e0,e1,e2,e3,e4]
  exact⟨_,_,rfl,(fin ..).1,(fin ..).2,rfl⟩
 .have e0:(((5:Nat):Int)==0)=false:=rfl
  have e1:(((5:Nat):Int)==1)=false:=rfl
  have e2:(((5:Nat):Int)==2)=false:=rfl
  have e3:(((5:Nat):Int)==3)=false:=rfl
  have e4:(((5:Nat):Int)==4)=false:=rfl
  have e5:(((5:Nat):Int)==5)=true:=rfl
  simp -implicitDefEqProofs only[go_sem,EK,E8,EL,E9,EM,E_,E2,Fz,FG,Gd,GD,G_,Ij,Ii,Jf,HJ,NK,JV,e0,e1,e2,e3,e4,e5]
  exact⟨_,_,rfl,(fin ..).1,(fin ..).2,rfl⟩
 .have e0:(((6:Nat):Int)==0)=false:=rfl
  have e1:(((6:Nat):Int)==1)=false:=rfl
  have e2:(((6:Nat):Int)==2)=false:=rfl
  have e3:(((6:Nat):Int)==3)=false:=rfl
  have e4:(((6:Nat):Int)==4)=false:=rfl
  have e5:(((6:Nat):Int)==5)=false:=rfl
  have e6:(((6:Nat):Int)==6)=true:=rfl
  simp -implicitDefEqProofs only[go_sem,EK,E8,EL,E9,EM,E_,E2,Fz,FG,Gd,GD,G_,Ij,Ii,Jf,HJ,NJ,JU,NK,JV,e0,e1,e2,e3,e4,e5,e6]
  exact⟨_,_,rfl,(fin ..).1,(fin ..).2,rfl⟩
theorem I0(n k:Nat)(z:Int)(hk:k=1/\0<=z/\z<=1\/k=2 /\ -999999999<=z/\z<=999999999)(t:ByteArray)(q:Value)(hq:oneCell q=true)(Z:aC)(hw:Wf Z):
  Gives ((env (n+1)).call 139 [.agg #[.int .i64 (k:Int),.int .i64 z,.string t,q]] none Z) Z fun w _=>w=.tuple #[]:=by
 rw[Ak _ 139 _ _ rfl,M4 _ _ _ _ (by simp),Aj]
 unfold Pb
 rcases hk with⟨rfl,h1,h2⟩|⟨rfl,h1,h2⟩
 .have e1:(((1:Nat):Int)==1)=true:=rfl
  have d1:decide (z<0)=false:=by simpa using h1
  have d2:decide (z>1)=false:=by simpa using h2
  simp -implicitDefEqProofs only[go_sem,FH,Ge,FI,Gf,FJ,Gg,GF,Ha,FK,Gh,e1,d1,d2]
  exact⟨_,_,rfl,(Ext.refl _).push _ _,hw.push _ _,rfl⟩
 .have e1:(((2:Nat):Int)==1)=false:=rfl
  have d1:decide (z < -999999999)=false:=by simp;omega
  have d2:decide (z>999999999)=false:=by simp;omega
  simp -implicitDefEqProofs only[go_sem,FH,Ge,FI,Gf,FJ,Gg,FK,Gh,e1,d1,d2]
  exact⟨_,_,rfl,(Ext.refl _).push _ _,hw.push _ _,rfl⟩
theorem HB(n k:Nat)(z:Int)(t:ByteArray)(q:Value)(hq:oneCell q=true)(Z:aC)(hw:Wf Z)(hk:k=3/\(∀V,Ext Z V->Wf V->Gives ((env n).call 158 [.string t] none V) V fun w _=>w=.bool true)\/
   k=4/\t.size<=60/\(∀V,Ext Z V->Wf V->Gives ((env n).call 159 [.string t] none V) V fun w _=>w=.bool true)):
  Gives ((env (n+1)).call 140 [.agg #[.int .i64 (k:Int),.int .i64 z,.string t,q]] none Z) Z fun w _=>w=.tuple #[]:=by
 have hX:=(Ext.refl Z).push (.cells [.int .i64 (k:Int),.int .i64 z,.string t,q] 145) none
 have hw1:=hw.push (.cells [.int .i64 (k:Int),.int .i64 z,.string t,q] 145) none
 have hc:(Z.push (.cells [.int .i64 (k:Int),.int .i64 z,.string t,q] 145) none).cells Z.next=some [.int .i64 (k:Int),.int .i64 z,.string t,q]:=by rw[Ac,if_pos rfl];rfl
 rw[Ak _ 140 _ _ rfl,M5 _ _ _ _ (by simp),Aj]
 unfold Pc
 rcases hk with⟨rfl,h⟩|⟨rfl,hs,h⟩
 .have e3:(((3:Nat):Int)==3)=true:=rfl
  have e4:(((3:Nat):Int)==4)=false:=rfl
  obtain⟨_,a9,e,hX2,hw2,rfl⟩:=h _ hX hw1
  have hc2:=(hX2.cells (Nat.lt_succ_self _)).trans hc
  simp -implicitDefEqProofs only[go_sem,GG,Hb,GH,Hc,GI,Hd,GJ,He,e3,e4,e,hc2]
  exact⟨_,_,rfl,hX.trans hX2,hw2,rfl⟩
 .have e3:(((4:Nat):Int)==3)=false:=rfl
  have e4:(((4:Nat):Int)==4)=true:=rfl
  have d1:decide ((Int.ofNat t.size)>60)=false:=by simp;omega
  obtain⟨_,a9,e,hX2,hw2,rfl⟩:=h _ hX hw1
  have hc2:=(hX2.cells (Nat.lt_succ_self _)).trans hc
  simp -implicitDefEqProofs only[go_sem,GG,Hb,GH,Hc,GI,Hd,GJ,He,e3,e4,e,hc2,d1]
  exact⟨_,_,rfl,hX.trans hX2,hw2,rfl⟩
theorem WE(v:Value)(Z:aC):finvoke Tryz.prog (.iface 180 v) "caracole/datum.formed" [] Z=.enter 221 [v] Z:=by kernel_rfl
theorem FF(v:Value)(Z:aC):finvoke Tryz.prog (.iface 177 v) "caracole/datum.formed" [] Z=.enter 219 [v] Z:=by kernel_rfl
theorem H4(v:Value)(Z:aC):finvoke Tryz.prog (.iface 145 v) "caracole/datum.formed" [] Z=.enter 213 [v] Z:=by kernel_rfl
theorem H3(v:Value)(Z:aC):finvoke Tryz.prog (.iface 181 v) "caracole/datum.formed" [] Z=.enter 223 [v] Z:=by kernel_rfl
theorem Jr(v:Value)(Z:aC):fassert Tryz.prog (.iface 177 v) 177 true Z=.val (.tuple #[v,.bool true]) Z:=by kernel_rfl
theorem Ro(v:Value)(Z:aC):fassert Tryz.prog (.iface 145 v) 145 true Z=.val (.tuple #[v,.bool true]) Z:=by kernel_rfl
theorem AgC(v:Value)(Z:aC):fassert Tryz.prog (.iface 180 v) 177 true Z=.val (.tuple #[.agg #[.int .i64 0,.int .i64 0,.string ⟨#[]⟩,.slice none 0 0],.bool false]) Z:=by kernel_rfl
theorem AgD(v:Value)(Z:aC):fassert Tryz.prog (.iface 180 v) 145 true Z=.val (.tuple #[.agg #[.int .i64 0,.int .i64 0,.string ⟨#[]⟩,.slice none 0 0],.bool false]) Z:=by kernel_rfl
theorem LK(v:Value)(Z:aC):fassert Tryz.prog (.iface 145 v) 177 true Z=.val (.tuple #[.agg #[.int .i64 0,.int .i64 0,.string ⟨#[]⟩,.slice none 0 0],.bool false]) Z:=by kernel_rfl
theorem PT(v:Value)(Z:aC):fassert Tryz.prog (.iface 181 v) 177 true Z=.val (.tuple #[.agg #[.int .i64 0,.int .i64 0,.string ⟨#[]⟩,.slice none 0 0],.bool false]) Z:=by kernel_rfl
theorem PU(v:Value)(Z:aC):fassert Tryz.prog (.iface 181 v) 145 true Z=.val (.tuple #[.agg #[.int .i64 0,.int .i64 0,.string ⟨#[]⟩,.slice none 0 0],.bool false]) Z:=by kernel_rfl
inductive Good (m:Nat):Nat->Int->ByteArray->Nat->Prop
 | nil:Good m 0 0 ⟨#[]⟩ 0
 | bool (z:Int) (h:0<=z/\z<=1):Good m 1 z ⟨#[]⟩ 0
 | num (z:Int) (h : -999999999<=z/\z<=999999999):Good m 2 z ⟨#[]⟩ 0
 | sym (t:ByteArray) (h:∀V,Wf V->Gives ((env m).call 158 [.string t] none V) V fun w _=>w=.bool true):Good m 3 0 t 0
 | str (t:ByteArray) (hs:t.size<=60) (h:∀V,Wf V->Gives ((env m).call 159 [.string t] none V) V fun w _=>w=.bool true):Good m 4 0 t 0
 | pair:Good m 5 0 ⟨#[]⟩ 2
 | vec (l:Nat):Good m 6 0 ⟨#[]⟩ l
theorem Nt(n k:Nat)(z:Int)(t:ByteArray)(p:Option Addr)(l c:Nat)(hG:Good n k z t l)(Z:aC)(hw:Wf Z):
  Gives ((env (n+2)).call 112 [.agg #[.int .i64 (k:Int),.int .i64 z,.string t,.slice p l c]] none Z) Z fun w _=>w=.tuple #[]:=by
 have hk:k<=6:=by cases hG<;>decide
 have hX1:=(Ext.refl Z).push (.cells [.int .i64 (k:Int),.int .i64 z,.string t,.slice p l c] 24) none
 have hw1:=hw.push (.cells [.int .i64 (k:Int),.int .i64 z,.string t,.slice p l c] 24) none
 obtain⟨_,a9,e2,hX2,hw2,rfl⟩:=FC n k hk z t (.slice p l c) rfl _ hw1
 have hX:=hX1.trans hX2
 rw[Ak _ 112 _ _ rfl,VO _ _ _ _ (by simp),Aj]
 unfold Ve
 cases hG with
 | nil=>
  obtain⟨_,bS,e3,hX3,hw3,rfl⟩:=RJ n ((0:Nat):Int) p c a9 hw2
  have wt:workType 0=180:=rfl
  simp -implicitDefEqProofs only[go_sem,Dp,D4,Dq,D5,Dv,D6,Em,Ez,En,EA,E1,Fy,e2,wt,WE,e3,AgC,AgD]
  exact⟨_,_,rfl,hX.trans hX3,hw3,rfl⟩
 | bool z h=>
  obtain⟨_,bS,e3,hX3,hw3,rfl⟩:=E7 n ((1:Nat):Int) z p c a9 hw2
  obtain⟨_,bV,e5,hX5,hw5,rfl⟩:=I0 n 1 z (.inl ⟨rfl,h⟩) ⟨#[]⟩ (.slice p 0 c) rfl ((bS.push (.cells [.int .i64 0,.int .i64 0,.string ⟨#[]⟩,.slice none 0 0] 177) none).put bS.next (.cells [.int .i64 ((1:Nat):Int),.int .i64 z,.string ⟨#[]⟩,.slice p 0 c] 177) none) ((hw3.push _ _).put _ _ _ (Nat.lt_succ_self _))
  have hX4:=(((hX.trans hX3).push (.cells [.int .i64 0,.int .i64 0,.string ⟨#[]⟩,.slice none 0 0] 177) none).put bS.next (.cells [.int .i64 ((1:Nat):Int),.int .i64 z,.string ⟨#[]⟩,.slice p 0 c] 177) none (hX.trans hX3).next).trans hX5
  have wt:workType 1=177:=rfl
  simp -implicitDefEqProofs only[go_sem,Av,Dp,D4,Dq,D5,Dv,D6,Em,Ez,En,EA,Ib,Ia,Ie,Ic,e2,wt,FF,e3,Jr,e5]
  exact⟨_,_,rfl,hX4,hw5,rfl⟩
 | num z h=>
  obtain⟨_,bS,e3,hX3,hw3,rfl⟩:=E7 n ((2:Nat):Int) z p c a9 hw2
  obtain⟨_,bV,e5,hX5,hw5,rfl⟩:=I0 n 2 z (.inr ⟨rfl,h⟩) ⟨#[]⟩ (.slice p 0 c) rfl ((bS.push (.cells [.int .i64 0,.int .i64 0,.string ⟨#[]⟩,.slice none 0 0] 177) none).put bS.next (.cells [.int .i64 ((2:Nat):Int),.int .i64 z,.string ⟨#[]⟩,.slice p 0 c] 177) none) ((hw3.push _ _).put _ _ _ (Nat.lt_succ_self _))
  have hX4:=(((hX.trans hX3).push (.cells [.int .i64 0,.int .i64 0,.string ⟨#[]⟩,.slice none 0 0] 177) none).put bS.next (.cells [.int .i64 ((2:Nat):Int),.int .i64 z,.string ⟨#[]⟩,.slice p 0 c] 177) none (hX.trans hX3).next).trans hX5
  have wt:workType 2=177:=rfl
  simp -implicitDefEqProofs only[go_sem,Av,Dp,D4,Dq,D5,Dv,D6,Em,Ez,En,EA,Ib,Ia,Ie,Ic,e2,wt,FF,e3,Jr,e5]
  exact⟨_,_,rfl,hX4,hw5,rfl⟩
 | sym t h=>
  obtain⟨_,bS,e3,hX3,hw3,rfl⟩:=F_ n ((3:Nat):Int) t p c a9 hw2
  obtain⟨_,bV,e5,hX5,hw5,rfl⟩:=HB n 3 0 t (.slice p 0 c) rfl ((bS.push (.cells [.int .i64 0,.int .i64 0,.string ⟨#[]⟩,.slice none 0 0] 145) none).put bS.next (.cells [.int .i64 ((3:Nat):Int),.int .i64 0,.string t,.slice p 0 c] 145) none) ((hw3.push _ _).put _ _ _ (Nat.lt_succ_self _)) (.inl ⟨rfl,fun V _=>h V⟩)
  have hX4:=(((hX.trans hX3).push (.cells [.int .i64 0,.int .i64 0,.string ⟨#[]⟩,.slice none 0 0] 145) none).put bS.next (.cells [.int .i64 ((3:Nat):Int),.int .i64 0,.string t,.slice p 0 c] 145) none (hX.trans hX3).next).trans hX5
  have wt:workType 3=145:=rfl
  simp -implicitDefEqProofs only[go_sem,Av,Dp,D4,Dq,D5,Dv,D6,Em,Ez,En,EA,E1,Fy,Ih,Ig,G9,GA,e2,wt,H4,e3,Ro,LK,e5]
  exact⟨_,_,rfl,hX4,hw5,rfl⟩
 | str t hs h=>
  obtain⟨_,bS,e3,hX3,hw3,rfl⟩:=F_ n ((4:Nat):Int) t p c a9 hw2
  obtain⟨_,bV,e5,hX5,hw5,rfl⟩:=HB n 4 0 t (.slice p 0 c) rfl ((bS.push (.cells [.int .i64 0,.int .i64 0,.string ⟨#[]⟩,.slice none 0 0] 145) none).put bS.next (.cells [.int .i64 ((4:Nat):Int),.int .i64 0,.string t,.slice p 0 c] 145) none) ((hw3.push _ _).put _ _ _ (Nat.lt_succ_self _)) (.inr ⟨rfl,hs,fun V _=>h V⟩)
  have hX4:=(((hX.trans hX3).push (.cells [.int .i64 0,.int .i64 0,.string ⟨#[]⟩,.slice none 0 0] 145) none).put bS.next (.cells [.int .i64 ((4:Nat):Int),.int .i64 0,.string t,.slice p 0 c] 145) none (hX.trans hX3).next).trans hX5
  have wt:workType 4=145:=rfl
  simp -implicitDefEqProofs only[go_sem,Av,Dp,D4,Dq,D5,Dv,D6,Em,Ez,En,EA,E1,Fy,Ih,Ig,G9,GA,e2,wt,H4,e3,Ro,LK,e5]
  exact⟨_,_,rfl,hX4,hw5,rfl⟩
 | pair=>
  obtain⟨_,bS,e3,hX3,hw3,rfl⟩:=Ww n p c a9 hw2
  have e3':(env (n+1)).call 223 [.agg #[.int .i64 ((5:Nat):Int),.int .i64 0,.string ⟨#[]⟩,.slice p 2 c]] none a9=.ret (.bool true) none bS:=e3
  have wt:workType 5=181:=rfl
  simp -implicitDefEqProofs only[go_sem,Dp,D4,Dq,D5,Dv,D6,Em,Ez,En,EA,E1,Fy,e2,wt,H3,e3',PT,PU]
  exact⟨_,_,rfl,hX.trans hX3,hw3,rfl⟩
 | vec l=>
  obtain⟨_,bS,e3,hX3,hw3,rfl⟩:=Zt n p l c a9 hw2
  have e3':(env (n+1)).call 223 [.agg #[.int .i64 ((6:Nat):Int),.int .i64 0,.string ⟨#[]⟩,.slice p l c]] none a9=.ret (.bool true) none bS:=e3
  have wt:workType 6=181:=rfl
  simp -implicitDefEqProofs only[go_sem,Dp,D4,Dq,D5,Dv,D6,Em,Ez,En,EA,E1,Fy,e2,wt,H3,e3',PT,PU]
  exact⟨_,_,rfl,hX.trans hX3,hw3,rfl⟩
end Go.Proofs.YtknnbjmcfibpgaaGreatDoor
namespace Go.Proofs.YtknnbjmcfibpgaaGreatDoor
open Go Go.Eng
attribute [local congr] Ab Ah Af Ad Ae
attribute [-go_sem] List.range_succ
theorem Agt(n:Nat)(t:ByteArray)(ht:t∈symTexts)(Z:aC):(env (n+20)).call 158 [.string t] none Z=.ret (.bool true) none Z:=by
 simp only[symTexts,List.mem_cons,List.not_mem_nil,or_false] at ht
 rcases ht with rfl|rfl|rfl|rfl|rfl|rfl|rfl|rfl<;>kernel_rfl
theorem H6(x y:Operand)(a b:Int)(Z:aC):i_lss Tryz.prog 21 x y (.int .i32 a) (.int .i32 b) Z=.val (.bool (decide (a<b))) Z:=by kernel_rfl
theorem LO(x y:Operand)(a b:Int)(Z:aC):i_gtr Tryz.prog 21 x y (.int .i32 a) (.int .i32 b) Z=.val (.bool (decide (a>b))) Z:=by kernel_rfl
theorem Jb{r:Nat}{Z:aC}{s:ByteArray}{pos w ver c:Nat}(hg:Z.heap.get r=some ⟨.siter s pos,false,none,ver⟩)(h:pos<s.size)(hd:Utf8.decode s pos=(c,w)):
  fnext (.pointer (some ⟨r,0,none⟩)) Z=.val (.tuple #[.bool true,goInt pos,.int .i32 (c:Int)]) (Z.put r (.siter s (pos+w)) none):=by
 unfold fnext
 simp only[hg,hd]
 rw[show Nat.blt pos s.size=true by simpa [Nat.blt_eq] using h]
 rfl
theorem Aex{r:Nat}{Z:aC}{s:ByteArray}{pos ver:Nat}(hg:Z.heap.get r=some ⟨.siter s pos,false,none,ver⟩)(h:¬ pos<s.size):
  fnext (.pointer (some ⟨r,0,none⟩)) Z=.val (.tuple #[.bool false]) Z:=by
 unfold fnext
 simp only[hg]
 rw[show Nat.blt pos s.size=false by rw[<-Bool.not_eq_true,Nat.blt_eq];exact h]
 rfl
def PlainText(s:ByteArray):Prop:=∀pos,pos<s.size->∃c:Nat,Utf8.decode s pos=(c,1)/\32<=c/\c<=126
theorem AcT:bI nls 159=[6]:=by kernel_rfl
theorem RS(n r:Nat)(s:ByteArray)(hs:PlainText s)(bT:aC)(hr:bT.next<=r):∀(m pos fuel:Nat) (f g:Nat->Value) (Z:aC),pos+m=s.size->m<fuel->g 6=.pointer (some ⟨r,0,none⟩)->Wf Z->Ext bT Z->
  (∃ver,Z.heap.get r=some ⟨.siter s pos,false,none,ver⟩)->
  ∃f' g' V,floop [6] (HE (env n) none 159) fuel (Sl 5 16 f g []) none Z=.done (.exit 0) (Sl 5 16 f' g' []) none V/\Wf V/\Ext bT V:=by
 intro m
 induction m with
 | zero=>
  intro pos fuel f g Z hp hf h6 hw hX ⟨ver,hg⟩
  obtain⟨fuel,rfl⟩:∃q,fuel=q+1:=⟨fuel-1,by omega⟩
  have hn:=Aex hg (by omega)
  rw[Am]
  unfold HE
  simp -implicitDefEqProofs only[go_sem,GK,Hf,h6,hn,List.mem_cons,List.not_mem_nil]
  exact⟨_,_,_,rfl,hw,hX⟩
 | succ m ih=>
  intro pos fuel f g Z hp hf h6 hw hX ⟨ver,hg⟩
  obtain⟨fuel,rfl⟩:∃q,fuel=q+1:=⟨fuel-1,by omega⟩
  obtain⟨c,hd,h1,h2⟩:=hs pos (by omega)
  have hn:=Jb hg (by omega) hd
  have d1:decide ((c:Int)<32)=false:=by simp;omega
  have d2:decide ((c:Int)>126)=false:=by simp;omega
  rw[Am]
  unfold HE
  simp -implicitDefEqProofs only[go_sem,GK,Hf,IJ,II,IL,IK,h6,hn,List.mem_cons,List.not_mem_nil,H6,LO,d1,d2]
  refine ih (pos+1) fuel _ _ _ (by omega) (by omega) ?_ (hw.put _ _ _ (hw _ _ hg).1) (hX.put _ _ _ hr) ⟨_,by rw[Ao,if_pos rfl]⟩
  simp -implicitDefEqProofs only[go_sem,reduceCtorEq,h6,List.mem_cons,List.not_mem_nil,true_or]
theorem Nu(n:Nat)(s:ByteArray)(hs:PlainText s)(hsz:s.size<1000000)(Z:aC)(hw:Wf Z):Gives ((env (n+1)).call 159 [.string s] none Z) Z fun w _=>w=.bool true:=by
 rw[Ak _ 159 _ _ rfl,VW _ _ _ _ (by simp),Aj]
 unfold Vm
 have hfr:frangeS (.string s) Z=.val (.pointer (some ⟨Z.next,0,none⟩)) (Z.push (.siter s 0) none):=rfl
 simp -implicitDefEqProofs only[go_sem,Q1,MD,Q2,ME,hfr,AcT]
 generalize hf:upd (fun _=>_) 2 _=f1
 generalize hbf:bG=fuel
 obtain⟨f',g',V,e,hw',hX'⟩:=RS n Z.next s hs Z (Nat.le_refl _) s.size 0 fuel f1 (upd (upd (fun _=>undef) 5 (.string s)) 6 (.pointer (some ⟨Z.next,0,none⟩))) (Z.push (.siter s 0) none) (by omega) (by rw[<-hbf];show s.size<1000000000000;omega) (by simp -implicitDefEqProofs only[go_sem,reduceCtorEq]) (hw.push _ _) ((Ext.refl _).push _ _) ⟨_,by rw[Ai,if_pos rfl]⟩
 rw[e]
 simp -implicitDefEqProofs only[go_sem,AfM,S5]
 exact⟨_,_,rfl,hX',hw',rfl⟩
theorem AhO(s:ByteArray)(h:((List.range s.size).all fun p=>(Utf8.decode s p).2==1&&decide (32<=(Utf8.decode s p).1)&&decide ((Utf8.decode s p).1<=126))=true):PlainText s:=by
 intro pos hp
 have:=List.all_eq_true.1 h pos (List.mem_range.2 hp)
 simp only[Bool.and_eq_true,beq_iff_eq,decide_eq_true_eq] at this
 exact⟨(Utf8.decode s pos).1,by rw[<-this.1.1],this.1.2,this.2⟩
theorem Agr(n:Nat)(t:ByteArray)(ht:t∈strTexts)(Z:aC)(hw:Wf Z):Gives ((env (n+1)).call 159 [.string t] none Z) Z fun w _=>w=.bool true:=by
 simp only[strTexts,List.mem_cons,List.not_mem_nil,or_false] at ht
 rcases ht with rfl|rfl|rfl|rfl|rfl<;>exact Nu n _ (AhO _ (by kernel_rfl)) (by decide) Z hw
theorem AeJ(n:Nat){k:Int}{z:Int}{t:ByteArray}{l:List D}(h:Leaf (.mk k z t l)):∃k':Nat,k=(k':Int)/\Good (n+20) k' z t 0/\l=[]:=by
 cases h with
 | nil=>exact⟨0,rfl,.nil,rfl⟩
 | bool b=>exact⟨1,rfl,.bool _ (by cases b<;>simp),rfl⟩
 | num z h=>exact⟨2,rfl,.num _ (by omega),rfl⟩
 | sym t ht=>exact⟨3,rfl,.sym _ fun V hw=>⟨_,V,Agt n t ht V,Ext.refl _,hw,rfl⟩,rfl⟩
 | str t ht=>exact⟨4,rfl,.str _ (by
   simp only[strTexts,List.mem_cons,List.not_mem_nil,or_false] at ht
   rcases ht with rfl|rfl|rfl|rfl|rfl<;>decide) fun V hw=>Agr (n+19) t ht V hw,rfl⟩
end Go.Proofs.YtknnbjmcfibpgaaGreatDoor
namespace Go.Proofs.YtknnbjmcfibpgaaGreatDoor
open Go Go.Eng
attribute [local congr] Ab Ah Af Ad Ae
attribute [-go_sem] List.range_succ
theorem ZL(n:Nat)(p:Option Addr)(l:List Int)(cp:Nat)(hl:l.length<9223372036854775808)(Z:aC)(hw:Wf Z)(hI:Ints Z p l)(hp:∀a,p=some a->a.block<Z.next):
  ∃V,(env (n+1)).call 9 [.slice p l.length cp] none Z=.ret (.pointer (some ⟨Z.next,0,none⟩)) none V/\Ext Z V/\Wf V/\Coil V Z.next 0:=by
 rw[Ak _ 9 _ _ rfl,AwC _ _ _ _ (by simp),Aj]
 unfold AxB
 simp -implicitDefEqProofs only[go_sem,Av,Arz,AnS,ArA,AnT]
 refine⟨_,rfl,(Ext.refl _).push _ _,hw.push _ _,p,l,cp,_,_,by rw[Ai,if_pos rfl];rfl,?_,hl,hp⟩
 intro i z hi
 obtain⟨b,off,cs,hb,h1,h2⟩:=hI i z hi
 exact⟨b,off,cs,hb,by rw[Ac,if_neg (Nat.ne_of_lt (hp _ hb))];exact h1,h2⟩
theorem V0(n x:Nat)(k:Int)(hk:k<=2000)(p:Option Addr)(l c:Nat)(Z:aC)(m:Value)(hc:Z.cells x=some [.int .i64 k,m]):
  (env (n+1)).call 110 [.pointer (some ⟨x,0,none⟩),.slice p l c] none Z=.ret (.bool true) none Z:=by
 have d1:decide (k<=2000)=true:=by simpa using hk
 rw[Ak _ 110 _ _ rfl,Ag0 _ _ _ _ (by simp),Aj]
 unfold Ab0
 cases e:(Int.ofNat l==0) with
 | true=>simp -implicitDefEqProofs only[go_sem,Qq,LU,Qr,LV,Qs,LW,e]
 | false=>simp -implicitDefEqProofs only[go_sem,Qq,LU,Qr,LV,Qs,LW,e,hc,d1]
theorem KD(n:Nat)(g:Value)(w:Nat)(first:Array Value)(hg:g=.func (.func w) first #[])(k z:Int)(t:ByteArray)(s:Value)(hs:oneCell s=true)(Z:aC)(hw:Wf Z)(h:∀V,Ext Z V->Wf V->Gives ((env n).call w (first.toList++[s]) none V) V fun v _=>v=.bool true):
  Gives ((env (n+1)).call 138 [.agg #[g],.agg #[.int .i64 k,.int .i64 z,.string t,s]] none Z) Z fun v _=>v=s:=by
 subst hg
 have hX1:=((Ext.refl Z).push (.cells [.func (.func w) first #[]] 135) none).push (.cells [.int .i64 k,.int .i64 z,.string t,s] 24) none
 have hw1:=(hw.push (.cells [.func (.func w) first #[]] 135) none).push (.cells [.int .i64 k,.int .i64 z,.string t,s] 24) none
 obtain⟨_,a9,e2,hX2,hw2,rfl⟩:=h _ hX1 hw1
 have c2:a9.cells (Z.next+1)=some [.int .i64 k,.int .i64 z,.string t,s]:=(hX2.cells (Nat.lt_succ_self _)).trans (by rw[Ac,if_pos (by rw[Aa])];rfl)
 rw[Ak _ 138 _ _ rfl,Ag8 _ _ _ _ (by simp),Aj]
 unfold Ab8
 simp -implicitDefEqProofs only[go_sem,Afl,SB,Afm,SC,Afn,SD,e2,c2,Ej,Fc]
 exact⟨_,_,rfl,hX1.trans hX2,hw2,rfl⟩
end Go.Proofs.YtknnbjmcfibpgaaGreatDoor
namespace Go.Eng
open Go
def D.parts:D->List D
 | .mk _ _ _ ds=>ds
mutual
def D.pieces(path:List Nat):D->List (List Nat×D)
 | .mk k n t ds=>(path,.mk k n t ds)::D.piecesL path 0 ds
def D.piecesL(path:List Nat)(i:Nat):List D->List (List Nat×D)
 | []=>[]
 | d::ds=>D.pieces (path++[i]) d++D.piecesL path (i+1) ds
end
theorem D.pieces_eq(path:List Nat)(d:D):d.pieces path=(path,d)::D.piecesL path 0 d.parts:=by
 cases d
 simp[D.pieces,D.parts]
def wayOf(st:List (List D×Nat)):List Nat:=(st.map (·.2)).reverse
theorem E5(ds:List D)(i:Nat)(r:List (List D×Nat)):wayOf ((ds,i)::r)=wayOf r++[i]:=by simp[wayOf]
theorem DD(st:List (List D×Nat)):(wayOf st).length=st.length:=by simp[wayOf]
def below:List (List D×Nat)->List (List Nat×D)
 | []=>[]
 | (ds,i)::r=>D.piecesL (wayOf r) (i+1) (ds.drop (i+1))++below r
def todo:List (List D×Nat)->List (List Nat×D)
 | []=>[]
 | (ds,i)::r=>D.piecesL (wayOf r) i (ds.drop i)++below r
theorem FR{ds:List D}{i:Nat}{d:D}(r:List (List D×Nat))(h:ds[i]? = some d):todo ((ds,i)::r)=(wayOf r++[i],d)::todo ((d.parts,0)::(ds,i)::r):=by
 have hd:ds.drop i=d::ds.drop (i+1):=by
  obtain⟨hi,rfl⟩:=List.getElem?_eq_some_iff.1 h
  rw[List.drop_eq_getElem_cons hi]
 show D.piecesL (wayOf r) i (ds.drop i)++below r=_
 rw[hd,D.piecesL,D.pieces_eq]
 show _=(wayOf r++[i],d)::(D.piecesL (wayOf ((ds,i)::r)) 0 (d.parts.drop 0)++below ((ds,i)::r))
 rw[E5,below,List.drop_zero]
 simp
theorem Pn{ds:List D}(r:List (List D×Nat)):todo ((ds,ds.length)::r)=below r:=by
 show D.piecesL (wayOf r) ds.length (ds.drop ds.length)++below r=_
 rw[List.drop_length,D.piecesL,List.nil_append]
def bump:List (List D×Nat)->List (List D×Nat)
 | []=>[]
 | (ds,i)::r=>(ds,i+1)::r
theorem I6(r:List (List D×Nat)):below r=todo (bump r):=by cases r<;>rfl
structure Chg (F:Nat->Prop) (Z V:aC):Prop where
 next:Z.next<=V.next
 clock:Z.clock<=V.clock
 get:∀b,b<Z.next->¬ F b->V.heap.get b=Z.heap.get b
theorem Chg.refl(F:Nat->Prop)(Z:aC):Chg F Z Z:=⟨Nat.le_refl _,Nat.le_refl _,fun _ _ _=>rfl⟩
theorem Chg.trans{F G:Nat->Prop}{Z bW cE:aC}(h:Chg F Z bW)(k:Chg G bW cE)(hG:∀b,b<Z.next->G b->F b):Chg F Z cE:=
 ⟨Nat.le_trans h.next k.next,Nat.le_trans h.clock k.clock,fun b hb hF=>(k.get b (Nat.lt_of_lt_of_le hb h.next) fun hg=>hF (hG b hb hg)).trans (h.get b hb hF)⟩
theorem Chg.weaken{F G:Nat->Prop}{Z V:aC}(h:Chg F Z V)(hG:∀b,b<Z.next->F b->G b):Chg G Z V:=⟨h.next,h.clock,fun b hb hg=>h.get b hb fun hf=>hg (hG b hb hf)⟩
theorem Ext.chg{Z V:aC}(h:Ext Z V)(F:Nat->Prop):Chg F Z V:=⟨h.next,h.clock,fun b hb _=>h.get b hb⟩
theorem Chg.push{F:Nat->Prop}{Z bW:aC}(h:Chg F Z bW)(o:FObj)(fz:Option Nat):Chg F Z (bW.push o fz):=
 ⟨Nat.le_succ_of_le h.next,Nat.le_succ_of_le h.clock,fun b hb hF=>by
  rw[Ai,if_neg (by have:=h.next;omega)]
  exact h.get b hb hF⟩
theorem Chg.put{F:Nat->Prop}{Z bW:aC}(h:Chg F Z bW)(c:Nat)(o:FObj)(fz:Option Nat)(hc:Z.next<=c\/F c):Chg F Z (bW.put c o fz):=
 ⟨h.next,Nat.le_succ_of_le h.clock,fun b hb hF=>by
  rw[Ao,if_neg (by
   intro he
   subst he
   rcases hc with hc|hc
   .omega
   .exact hF hc)]
  exact h.get b hb hF⟩
theorem Chg.cells{F:Nat->Prop}{Z V:aC}(h:Chg F Z V){b:Nat}(hb:b<Z.next)(hF:¬ F b):V.cells b=Z.cells b:=by
 rw[AG,AG,h.get b hb hF]
theorem Chg.ext{F:Nat->Prop}{Z V:aC}(h:Chg F Z V)(hF:∀b,b<Z.next->¬ F b):Ext Z V:=⟨h.next,h.clock,fun b hb=>h.get b hb (hF b hb)⟩
def Stk(T:TypeId)(Z:aC)(b:Nat)(s:Value)(vs:List Value):Prop:=
 ∃c fz ver,s=.slice (some ⟨b,0,none⟩) vs.length c.length/\Z.heap.get b=some ⟨.cells c T,false,fz,ver⟩/\(fz=none\/fz=some 1)/\∃more,c=vs++more
section
variable {T:TypeId} {Z V:aC} {b:Nat} {s:Value} {vs:List Value}
theorem Stk.keep(h:Stk T Z b s vs)(hb:V.heap.get b=Z.heap.get b):Stk T V b s vs:=by
 obtain⟨c,fz,ver,h1,h2,h3⟩:=h
 exact⟨c,fz,ver,h1,hb.trans h2,h3⟩
theorem Stk.lt(h:Stk T Z b s vs)(hw:Wf Z):b<Z.next:=by
 obtain⟨c,fz,ver,h1,h2,h3⟩:=h
 exact(hw _ _ h2).1
theorem Stk.cells(h:Stk T Z b s vs):∃more,s=.slice (some ⟨b,0,none⟩) vs.length (vs++more).length/\Z.cells b=some (vs++more):=by
 obtain⟨c,fz,ver,h1,h2,h3,more,rfl⟩:=h
 exact⟨more,h1,Ar h2⟩
theorem Stk.pop{v:Value}(h:Stk T Z b s (vs++[v])):∃n,s=.slice (some ⟨b,0,none⟩) (vs.length+1) n/\vs.length<=n/\Stk T Z b (.slice (some ⟨b,0,none⟩) vs.length n) vs:=by
 obtain⟨c,fz,ver,h1,h2,h3,more,rfl⟩:=h
 exact⟨_,by rw[h1];simp,by simp,_,fz,ver,rfl,h2,h3,v::more,by simp⟩
theorem Stk.set{v v':Value}(h:Stk T Z b s (vs++[v])):∃more fz,Z.heap.get b=some ⟨.cells (vs++v::more) T,false,fz,((Z.heap.get b).map (·.ver)).getD 0⟩/\Stk T (Z.put b (.cells (vs++v'::more) T) fz) b s (vs++[v']):=by
 obtain⟨c,fz,ver,h1,h2,h3,more,rfl⟩:=h
 refine⟨more,fz,by rw[h2];simp,vs++v'::more,fz,Z.clock,?_,by rw[Ao,if_pos rfl],h3,more,by simp⟩
 rw[h1]
 simp
theorem Stk.last{v:Value}(h:Stk T Z b s (vs++[v])):∃c,Z.cells b=some c/\c[vs.length]? = some v:=by
 obtain⟨c,fz,ver,h1,h2,h3,more,rfl⟩:=h
 exact⟨_,Ar h2,by simp⟩
theorem Stk.store{v v':Value}(h:Stk T Z b s (vs++[v]))(hw:Wf Z)(ho:oneCell v'=true):
  ∃τ,aK 1 (.pointer (some ⟨b,vs.length,none⟩)) v' Z=.skip τ/\Stk T τ b s (vs++[v'])/\Chg (· = b) Z τ/\Wf τ:=by
 have hb:=h.lt hw
 obtain⟨c,fz,ver,h1,h2,h3,more,rfl⟩:=h
 have hs:(vs++[v]++more).set vs.length v'=vs++v'::more:=by simp
 have hl:vs.length<(vs++[v]++more).length:=by simp
 refine⟨Z.put b (.cells (vs++v'::more) T) fz,?_,⟨vs++v'::more,fz,Z.clock,?_,by rw[Ao,if_pos rfl],h3,more,by simp⟩,(Chg.refl (· = b) _).put _ _ _ (.inr rfl),hw.put _ _ _ hb⟩
 .rw[Dn _ _ _ _ ho,h2]
  simp only[]
  rw[if_pos hl,hs]
 .rw[h1]
  simp
theorem Stk.append(h:Stk T Z b s vs)(hw:Wf Z)(v:Value)(bytes bx cx:Nat)(hx:Z.cells bx=some [v])(ho:oneCell v=true)(hby:bytes<1000)(hlen:vs.length<100000):
  ∃b' s' τ,bO T 1 bytes s (.slice (some ⟨bx,0,none⟩) 1 cx) Z=.val s' τ/\Stk T τ b' s' (vs++[v])/\(b'=b\/b'=Z.next)/\Chg (· = b) Z τ/\Wf τ:=by
 have hb:=h.lt hw
 obtain⟨c,fz,ver,rfl,h2,h3,more,rfl⟩:=h
 cases more with
 | nil=>
  rw[List.append_nil] at h2
  obtain⟨τ,e,hτ⟩:=Rm T bytes b bx cx vs.length ver fz vs v Z h2 h3 hx ho rfl hby hlen
  rw[List.append_nil]
  refine⟨Z.next,_,τ,e,?_,.inr rfl,?_,?_⟩
  .rcases hτ with rfl|rfl
   .exact⟨vs++[v],some 1,_,by simp,by rw[Ai,if_pos rfl],.inr rfl,[],by simp⟩
   .exact⟨vs++[v],some 1,_,by simp,by rw[Ai,if_pos (by rw[Aq])],.inr rfl,[],by simp⟩
  .rcases hτ with rfl|rfl
   .exact(Chg.refl (· = b) _).push _ _
   .exact((Chg.refl (· = b) _).put _ _ _ (.inr rfl)).push _ _
  .rcases hτ with rfl|rfl
   .exact hw.push _ _
   .exact(hw.put _ _ _ hb).push _ _
 | cons y more=>
  have hlt:vs.length<(vs++y::more).length:=by simp
  refine⟨b,_,_,Rn T bytes b bx cx vs.length (vs++y::more).length ver fz T _ v Z h2 hx ho hlt (Nat.le_refl _),?_,.inl rfl,(Chg.refl (· = b) _).put _ _ _ (.inr rfl),hw.put _ _ _ hb⟩
  have hs:(vs++y::more).set vs.length v=vs++v::more:=by
   rw[List.set_append_right _ _ (Nat.le_refl _),Nat.sub_self]
   rfl
  rw[hs]
  exact⟨vs++v::more,fz,_,by simp,by rw[Ao,if_pos rfl],h3,more,by simp⟩
end
end Go.Eng
namespace Go.Proofs.YtknnbjmcfibpgaaGreatDoor
open Go Go.Eng
section
variable (E:Env) (fn:FuncId) (params:List Tmp) (assign body:Code) (nl nt:Nat) (f g:Nat->Value) (ds:List Deferred) (u:Option FrameMode) (Z:aC)
def LoopAt(l r:Nat)(st:LoopState)(Z:aC):Prop:=∃ver,Z.heap.get l=some ⟨.loop st none fn ((List.range nl).map f) g nl nt params assign body r,false,none,ver⟩
theorem Qc(t:Nat)(fx:FuncId)(first cap:Array Value)(h:(Sl nl nt f g ds).get t=.func (.func fx) first cap):
  frange E none fn (.tmp t) params assign body (Sl nl nt f g ds) u Z=leaveLoop (Z.next+1) [{ target:=.collected Z.next,args:=#[] }] (Sl nl nt f g ds) u
   (E.call fx (first.toList++[.func (.yield (Z.next+1)) #[] #[]]++cap.toList) none ((Z.push (.defd true) none).push (.loop .ready none fn ((List.range nl).map f) g nl nt params assign body Z.next) none)):=by
 show enterLoop E fn (.tmp t) params assign body Z.next _ _ u _=_
 unfold enterLoop
 rw[AgV,h]
 rfl
theorem RY(l r:Nat)(mark:List Deferred)(v:Value)(u':Option FrameMode)(h:LoopAt fn params assign body nl nt f g l r .ready Z):
  leaveLoop l mark (Sl nl nt f g ds) u (.ret v u' Z)=.done .normal (Sl nl nt f g (mark++ds)) u (Z.put l (.loop .exhausted none fn ((List.range nl).map f) g nl nt params assign body r) none):=by
 obtain⟨ver,h⟩:=h
 unfold leaveLoop
 simp only[h]
 rfl
theorem KJ:LoopAt fn params assign body nl nt f g (Z.next+1) Z.next .ready ((Z.push (.defd true) none).push (.loop .ready none fn ((List.range nl).map f) g nl nt params assign body Z.next) none):=
 ⟨_,by rw[Ai,if_pos (by rw[Aa])]⟩
end
section
variable (fn:FuncId) (params:List Tmp) (assign body:Code) (nl nt:Nat) (f g:Nat->Value) (Z:aC)
theorem Kl(n l r:Nat)(args:List Value)(h:LoopAt fn params assign body nl nt f g l r .ready Z)(hn:args.length=params.length):
  (env (n+1)).round l args Z=(match code Tryz.prog nls assign (env n) (some l) fn (putAll (Sl nl nt f g []) (params.zip args)) none Z with
     | .done .normal a _ Z=>beginRound l (fun Z=>endRound (Tryz.prog.funcs[fn]?).isSome l (code Tryz.prog nls body (env n) (some l) fn a none Z)) Z
     | _=>.no):=by
 obtain⟨ver,h⟩:=h
 rw[Aek]
 unfold fround
 simp only[h]
 rw[show Nat.beq (len args) (len params)=true by rw[Nat.beq_eq,EB,EB];exact hn]
 rfl
theorem E6(l r:Nat)(k:aC->CRes)(h:LoopAt fn params assign body nl nt f g l r .ready Z):
  beginRound l k Z=k (Z.put l (.loop .busy none fn ((List.range nl).map f) g nl nt params assign body r) none):=by
 obtain⟨ver,h⟩:=h
 unfold beginRound
 simp only[h]
 rfl
theorem F8(known:Bool)(l r:Nat)(a:aV)(u:Option FrameMode)(h:LoopAt fn params assign body nl nt f g l r .busy Z):
  endRound known l (.done .normal a u Z)=.ret (.bool true) none (Z.put l (.loop .ready none fn ((List.range nl).map f) g nl nt params assign body r) none):=by
 obtain⟨ver,h⟩:=h
 show endJump l .ready none true Z=_
 unfold endJump setJump
 simp only[h]
 rfl
theorem LoopAt.put(l r:Nat)(st:LoopState)(Z:aC):LoopAt fn params assign body nl nt f g l r st (Z.put l (.loop st none fn ((List.range nl).map f) g nl nt params assign body r) none):=⟨_,by rw[Ao,if_pos rfl]⟩
theorem G8(a:aV):putAll a []=a:=rfl
theorem Gc(a:aV)(t:Tmp)(v:Value)(l:List (Tmp×Value)):putAll a ((t,v)::l)=putAll (a.put (some t) v) l:=rfl
end
section
variable (P:Program) (E:Env) (rs:List ResultVar) (a:aV) (u:Option FrameMode) (Z:aC)
theorem Gu(r:Nat)(args:Array Value)(ds:List Deferred)(ver:Nat)(h:Z.heap.get r=some ⟨.defd true,false,none,ver⟩):
  fleave P E rs a u ({ target:=.collected r,args:=args }::ds) .returning Z=fleave P E rs a u ds .returning (Z.put r (.defd false) none):=by
 show (cond (isRun .returning) CRes.no (match Z.heap.get r with
    | some e=>(match e.obj with
     | .defd true=>cond e.ro CRes.no (fleave P E rs a u ds .returning (Z.put r (.defd false) none))
     | _=>CRes.no)
    | none=>CRes.no))=_
 rw[h]
 rfl
theorem Fe(dst:Option Tmp)(k:aZ)(ro:Option Nat)(l:Nat)(args:List Value)(s:aC):afterOp E ro dst a u k (.yield l args s)=afterCall a dst u k (E.round l args s):=rfl
theorem ES(l:Nat)(args:List Value):fcallV (.func (.yield l) #[] #[]) args Z=.yield l args Z:=rfl
end
theorem LoopAt.keep{fn:FuncId}{params:List Tmp}{assign body:Code}{nl nt:Nat}{f g:Nat->Value}{l r:Nat}{st:LoopState}{Z V:aC}(h:LoopAt fn params assign body nl nt f g l r st Z)(hb:V.heap.get l=Z.heap.get l):LoopAt fn params assign body nl nt f g l r st V:=by
 obtain⟨ver,h⟩:=h
 exact⟨ver,hb.trans h⟩
theorem Agv{Z:aC}(hw:Wf Z){lam:Nat}(hl:Z.clock<=lam)(b:Nat):(view Z lam).heap.get b=Z.heap.get b:=by
 rw[HU]
 cases hg:Z.heap.get b with
 | none=>rfl
 | some e=>simp only;rw[if_pos (by have:=(hw b e hg).2;omega)]
end Go.Proofs.YtknnbjmcfibpgaaGreatDoor
namespace Go.Proofs.YtknnbjmcfibpgaaGreatDoor
open Go Go.Eng
attribute [local congr] Ab Ah Af Ad Ae
attribute [-go_sem] List.range_succ
abbrev TD:TypeId:=24
abbrev TL:TypeId:=22
abbrev TI:TypeId:=3
def PathAt(Z:aC)(v:Value)(path:List Nat):Prop:=
 ∃p c,v=.slice p path.length c/\((path=[]/\p=none/\c=0)\/∃b more,p=some ⟨b,0,none⟩/\Z.cells b=some ((path.map fun i=>Value.int .i64 (.ofNat i))++more))
structure Body (E:Env) (l:Nat) (R:Nat->Prop) (g:Value) (I:List (List Nat×D)->(Nat->Prop)->aC->Prop) (all:List (List Nat×D)):Prop where
 stays:∀done B Z V,I done B Z->Wf Z->Chg (fun b=>¬ B b/\¬ R b) Z V->I done B V
 own:∀done B Z,I done B Z->∀b,B b->b<Z.next/\¬ R b
 inside:∀done B Z k z t p ln c,I done B Z->Wf Z->Gives (E.call 138 [.agg #[g],.agg #[.int .i64 k,.int .i64 z,.string t,.slice p ln c]] none Z) Z fun v _=>v=.slice p ln c
 go:∀done path d rest B Z pv v,all=done++(path,d)::rest->Wf Z->I done B Z->PathAt Z pv path->aI R Z v d->
  ∃B' V,E.round l [pv,v] Z=.ret (.bool true) none V/\Wf V/\Chg B Z V/\(∀b,B' b->B b\/Z.next<=b)/\I (done++[(path,d)]) B' V
structure BodyTo (kk:Nat) (E:Env) (l:Nat) (R:Nat->Prop) (g:Value) (I:List (List Nat×D)->(Nat->Prop)->aC->Prop) (all:List (List Nat×D)):Prop where
 stays:∀done B Z V,I done B Z->Wf Z->Chg (fun b=>¬ B b/\¬ R b) Z V->I done B V
 own:∀done B Z,I done B Z->∀b,B b->b<Z.next/\¬ R b
 inside:∀done B Z k z t p ln c,I done B Z->Wf Z->Gives (E.call 138 [.agg #[g],.agg #[.int .i64 k,.int .i64 z,.string t,.slice p ln c]] none Z) Z fun v _=>v=.slice p ln c
 go:∀done path d rest B Z pv v,done.length<kk->all=done++(path,d)::rest->Wf Z->I done B Z->PathAt Z pv path->aI R Z v d->
  ∃B' V,E.round l [pv,v] Z=.ret (.bool true) none V/\Wf V/\Chg B Z V/\(∀b,B' b->B b\/Z.next<=b)/\I (done++[(path,d)]) B' V
theorem Body.to{E:Env}{l:Nat}{R:Nat->Prop}{g:Value}{I:List (List Nat×D)->(Nat->Prop)->aC->Prop}{all:List (List Nat×D)}(h:Body E l R g I all):BodyTo all.length E l R g I all:=⟨h.stays,h.own,h.inside,fun done path d rest B Z pv v _=>h.go done path d rest B Z pv v⟩
def Levels(R:Nat->Prop)(Z:aC):Nat->List Value->List (List D×Nat)->Prop
 | _,[],[]=>True
 | m,u::us,(ds,i)::r=>(∃p c,u=.slice p ds.length c/\bC R Z p 0 ds)/\i+m<=ds.length/\ds.length<1000000000/\Levels R Z 1 us r
 | _,_,_=>False
theorem Levels.keep{R:Nat->Prop}{Z V:aC}(h:∀b cs,R b->Z.cells b=some cs->V.cells b=some cs):∀ {m:Nat} {us:List Value} {st:List (List D×Nat)},Levels R Z m us st->Levels R V m us st
 | _,[],[],_=>trivial
 | _,_::_,(_,_)::_,⟨⟨p,c,h1,h2⟩,h3,h4,h5⟩=>⟨⟨p,c,h1,h2.keep fun b cs hb hc=>⟨h b cs hb hc,hb⟩⟩,h3,h4,h5.keep h⟩
theorem Levels.length{R:Nat->Prop}{Z:aC}:∀ {m:Nat} {us:List Value} {st:List (List D×Nat)},Levels R Z m us st->us.length=st.length
 | _,[],[],_=>rfl
 | _,_::_,(_,_)::_,⟨_,_,_,h⟩=>congrArg (· + 1) h.length
theorem Levels.bump{R:Nat->Prop}{Z:aC}:∀ {us:List Value} {st:List (List D×Nat)},Levels R Z 1 us st->Levels R Z 0 us (bump st)
 | [],[],_=>trivial
 | _::_,(_,_)::_,⟨h1,h3,h4,h5⟩=>⟨h1,h3,h4,h5⟩
structure WHead (l:Nat) (R:Nat->Prop) (g:Value) (I:List (List Nat×D)->(Nat->Prop)->aC->Prop) (all:List (List Nat×D)) (bw bo bp base:Nat) (B:Nat->Prop) (us:List Value) (st:List (List D×Nat)) (done:List (List Nat×D)) (f:Nat->Value) (Z:aC):Prop where
 f0:f 0=.func (.yield l) #[] #[]
 f2:f 2=.pointer (some ⟨bw,0,none⟩)
 cw:Z.cells bw=some [g]
 hbw:bw<base/\¬ B bw
 opn:Stk TL Z bo (f 4) us.reverse
 hbo:base<=bo/\¬ B bo
 lev:Levels R Z 0 us st
 low:∀b,R b->b<base
 pth:Stk TI Z bp (f 5) ((wayOf st).map fun i=>.int .i64 (.ofNat i))
 hbp:base<=bp/\¬ B bp
 ne:bo≠bp
 inv:I done B Z
 all:all=done++todo st
 wf:Wf Z
 base:base<=Z.next
theorem aI.shape{R:Nat->Prop}{Z:aC}{v:Value}{d:D}(h:aI R Z v d):∃k z t p c,v=.agg #[.int .i64 k,.int .i64 z,.string t,.slice p d.parts.length c]/\bC R Z p 0 d.parts:=by
 obtain⟨k,z,t,ds⟩:=d
 obtain⟨p,c,h1,h2⟩:=h
 exact⟨k,z,t,p,c,h1,h2⟩
theorem bC.get{R:Nat->Prop}{Z:aC}{p:Option Addr}:∀ {i:Nat} {ds:List D} {k:Nat} {d:D},bC R Z p i ds->ds[k]? = some d->
  ∃b off cs,p=some ⟨b,off,none⟩/\R b/\Z.cells b=some cs/\4<=cs.length-(off+(i+k)*4)/\aI R Z (.agg ((cs.drop (off+(i+k)*4)).take 4).toArray) d
 | i,d::ds,0,_,h,hk=>by
  cases hk
  exact h.1
 | i,d::ds,k+1,_,h,hk=>by
  have:=bC.get (i:=i+1) h.2 (k:=k) (by simpa using hk)
  rwa [show i+1+k=i+(k+1) by omega] at this
 | _,[],_,_,_,hk=>by simp at hk
theorem AoL:under Tryz.prog 44=some (.slice TL):=by kernel_rfl
theorem ArF:bP Tryz.prog TL=some 1:=by kernel_rfl
theorem Kn:under Tryz.prog 25=some (.slice TI):=by kernel_rfl
theorem ML:bP Tryz.prog TI=some 1:=by kernel_rfl
theorem Rf{T t:TypeId}{Z:aC}{b:Nat}{s:Value}{vs:List Value}{v:Value}(h:Stk T Z b s (vs++[v]))(hw:Wf Z)(hu:under Tryz.prog t=some (.slice T))(hs:bP Tryz.prog T=some 1):
  ∃n,s=.slice (some ⟨b,0,none⟩) (vs.length+1) n/\Stk T Z b (.slice (some ⟨b,0,none⟩) vs.length n) vs/\
   fslice Tryz.prog t s none (some (.int .i64 (.ofNat vs.length))) none (view Z Z.clock)=.val (.slice (some ⟨b,0,none⟩) vs.length n) (view Z Z.clock):=by
 obtain⟨n,h1,h2,h3⟩:=h.pop
 obtain⟨c,fz,ver,k1,k2,k3,more,k4⟩:=h3
 refine⟨n,h1,⟨c,fz,ver,k1,k2,k3,more,k4⟩,?_⟩
 rw[h1]
 exact AeC Tryz.prog t T 1 b 0 (vs.length+1) n vs.length _ hu hs h2 c T false fz ver ((Agv hw (Nat.le_refl _) b).trans k2) k3
theorem WHead.top{l:Nat}{R:Nat->Prop}{g:Value}{I:List (List Nat×D)->(Nat->Prop)->aC->Prop}{all:List (List Nat×D)}{bw bo bp base:Nat}{B:Nat->Prop}{u:Value}{us:List Value}{ds:List D}{i:Nat}{r:List (List D×Nat)}{done:List (List Nat×D)}{f:Nat->Value}{Z:aC}(h:WHead l R g I all bw bo bp base B (u::us) ((ds,i)::r) done f Z):
  ∃p c mo mp,u=.slice p ds.length c/\bC R Z p 0 ds/\us.length=r.length/\
   f 4=.slice (some ⟨bo,0,none⟩) (r.length+1) (us.reverse++u::mo).length/\Z.cells bo=some (us.reverse++u::mo)/\(us.reverse++u::mo)[r.length]? = some u/\
   f 5=.slice (some ⟨bp,0,none⟩) (r.length+1) (((wayOf r).map fun i=>Value.int .i64 (.ofNat i))++.int .i64 (.ofNat i)::mp).length/\Z.cells bp=some (((wayOf r).map fun i=>Value.int .i64 (.ofNat i))++.int .i64 (.ofNat i)::mp)/\
   (((wayOf r).map fun i=>Value.int .i64 (.ofNat i))++.int .i64 (.ofNat i)::mp)[r.length]? = some (.int .i64 (.ofNat i)):=by
 obtain⟨⟨p,c,h1,h2⟩,h3,h4,h5⟩:=h.lev
 have hl:=h5.length
 obtain⟨mo,e1,e2⟩:=h.opn.cells
 obtain⟨mp,e3,e4⟩:=h.pth.cells
 rw[List.reverse_cons,List.append_assoc,List.singleton_append] at e1 e2
 rw[E5,List.map_append,List.append_assoc,List.map_singleton,List.singleton_append] at e3 e4
 refine⟨p,c,mo,mp,h1,h2,hl,?_,e2,?_,?_,e4,?_⟩
 .rw[e1]
  simp[hl]
 .rw[List.getElem?_append_right (by simp[hl])]
  simp[hl]
 .rw[e3]
  simp[DD]
 .rw[List.getElem?_append_right (by simp[DD])]
  simp[DD]
end Go.Proofs.YtknnbjmcfibpgaaGreatDoor
namespace Go.Proofs.YtknnbjmcfibpgaaGreatDoor
open Go Go.Eng
attribute [local congr] Ab Ah Af Ad Ae
attribute [-go_sem] List.range_succ
section
variable {kk n l bw bo bp base:Nat} {R:Nat->Prop} {g:Value} {I:List (List Nat×D)->(Nat->Prop)->aC->Prop} {all done:List (List Nat×D)} {B:Nat->Prop} {u:Value} {us:List Value} {ds:List D} {i:Nat} {r:List (List D×Nat)} {f:Nat->Value} {Z:aC}
theorem AxD(k:Nat)(hk:k<1000000000000):wrapI (Int.ofNat (k+1)-1)=Int.ofNat k:=by
 rw[Dt (by rw[Int.ofNat_eq_natCast];omega),Int.ofNat_eq_natCast,Int.ofNat_eq_natCast];omega
theorem Ax4(k:Nat)(hk:k<1000000000000):wrapI (Int.ofNat (k+1+1)-2)=Int.ofNat k:=by
 rw[Dt (by rw[Int.ofNat_eq_natCast];omega),Int.ofNat_eq_natCast,Int.ofNat_eq_natCast];omega
theorem EY(k:Nat)(hk:k<1000000000000):wrapI (Int.ofNat k+1)=Int.ofNat (k+1):=by
 rw[Dt (by rw[Int.ofNat_eq_natCast];omega),Int.ofNat_eq_natCast,Int.ofNat_eq_natCast];omega
theorem YQ(hB:BodyTo kk (env n) l R g I all)(h:WHead l R g I all bw bo bp base B (u::us) ((ds,ds.length)::r) done f Z)(hr:r.length<100000)(gg:Nat->Value):
  ∃f' g' V,Gq (env n) none 137 (Sl 8 80 f gg []) none Z=.done .normal (Sl 8 80 f' g' []) none V/\Chg (fun b=>base<=b/\¬ B b) Z V/\
   WHead l R g I all bw bo bp base B us (bump r) done f' V:=by
 obtain⟨p,c,mo,mp,rfl,hE,hl,h4,co,ho,h5,cp,hp⟩:=h.top
 have hv:=Ce h.wf (Nat.le_refl Z.clock)
 have d0:decide (Int.ofNat (r.length+1)>0)=true:=by simp
 have w1:=AxD r.length (by omega)
 have lt1:r.length<r.length+1:=Nat.lt_succ_self _
 have hopn:=h.opn
 have hpth:=h.pth
 rw[List.reverse_cons] at hopn
 rw[E5,List.map_append,List.map_singleton] at hpth
 obtain⟨no,so1,so2,so3⟩:=Rf hopn h.wf AoL ArF
 obtain⟨np,sp1,sp2,sp3⟩:=Rf hpth h.wf Kn ML
 rw[List.length_reverse,hl] at so1 so2 so3
 rw[List.length_map,DD] at sp1 sp2 sp3
 rw[h4] at so1 so3
 rw[h5] at sp1 sp3
 unfold Gq
 simp -implicitDefEqProofs only[go_sem,Iu,Ir,KL,JY,KM,JZ,h4,h5,d0,w1,lt1,hv,co,cp,ho,hp]
 generalize hg:upd _ 33 _=g1
 clear hg
 have f4:upd f 6 (Value.int IntKind.i64 (Int.ofNat (r.length+1))) 4=f 4:=by simp -implicitDefEqProofs only[go_sem,reduceCtorEq]
 have f5:upd f 6 (Value.int IntKind.i64 (Int.ofNat (r.length+1))) 5=f 5:=by simp -implicitDefEqProofs only[go_sem,reduceCtorEq]
 have f0:upd f 6 (Value.int IntKind.i64 (Int.ofNat (r.length+1))) 0=f 0:=by simp -implicitDefEqProofs only[go_sem,reduceCtorEq]
 have f2:upd f 6 (Value.int IntKind.i64 (Int.ofNat (r.length+1))) 2=f 2:=by simp -implicitDefEqProofs only[go_sem,reduceCtorEq]
 have f6:upd f 6 (Value.int IntKind.i64 (Int.ofNat (r.length+1))) 6=Value.int IntKind.i64 (Int.ofNat (r.length+1)):=by simp -implicitDefEqProofs only[go_sem,reduceCtorEq]
 generalize upd f 6 _=f1 at f4 f5 f0 f2 f6 ⊢
 simp -implicitDefEqProofs only[go_sem,Afj,Sz,f4,f5,f6,h4,h5,w1,so3,sp3]
 generalize hg:upd g1 _ _=g2
 clear hg
 have q4:upd (upd f1 4 (Value.slice (some ⟨bo,0,none⟩) r.length no)) 5 (Value.slice (some ⟨bp,0,none⟩) r.length np) 4=(Value.slice (some ⟨bo,0,none⟩) r.length no):=by simp -implicitDefEqProofs only[go_sem,reduceCtorEq]
 have q5:upd (upd f1 4 (Value.slice (some ⟨bo,0,none⟩) r.length no)) 5 (Value.slice (some ⟨bp,0,none⟩) r.length np) 5=(Value.slice (some ⟨bp,0,none⟩) r.length np):=by simp -implicitDefEqProofs only[go_sem,reduceCtorEq]
 have q0:upd (upd f1 4 (Value.slice (some ⟨bo,0,none⟩) r.length no)) 5 (Value.slice (some ⟨bp,0,none⟩) r.length np) 0=f 0:=by simp -implicitDefEqProofs only[go_sem,reduceCtorEq,f0]
 have q2:upd (upd f1 4 (Value.slice (some ⟨bo,0,none⟩) r.length no)) 5 (Value.slice (some ⟨bp,0,none⟩) r.length np) 2=f 2:=by simp -implicitDefEqProofs only[go_sem,reduceCtorEq,f2]
 have q6:upd (upd f1 4 (Value.slice (some ⟨bo,0,none⟩) r.length no)) 5 (Value.slice (some ⟨bp,0,none⟩) r.length np) 6=Value.int IntKind.i64 (Int.ofNat (r.length+1)):=by simp -implicitDefEqProofs only[go_sem,reduceCtorEq,f6]
 generalize upd (upd f1 4 _) 5 _=f2' at q4 q5 q0 q2 q6 ⊢
 obtain⟨_,hi,hds,hlev⟩:=h.lev
 have hall:=h.all
 rw[Pn,I6] at hall
 cases r with
 | nil=>
  have d1:decide (Int.ofNat (([]:List (List D×Nat)).length+1)>1)=false:=by decide
  simp -implicitDefEqProofs only[go_sem,QN,Mo,q6,d1]
  refine⟨_,_,_,rfl,Chg.refl _ _,?_⟩
  exact { f0:=q0.trans h.f0,f2:=q2.trans h.f2,cw:=h.cw,hbw:=h.hbw,opn:=by rw[q4];exact so2,hbo:=h.hbo,lev:=hlev.bump,low:=h.low,pth:=by rw[q5];exact sp2,hbp:=h.hbp,ne:=h.ne,inv:=h.inv,all:=hall,wf:=h.wf,base:=h.base }
 | cons x r'=>
  obtain⟨e,j⟩:=x
  have d1:decide (Int.ofNat ((((e,j)::r'):List (List D×Nat)).length+1)>1)=true:=by simp;omega
  have w2:=Ax4 r'.length (by simp at hr;omega)
  have hlen:(((e,j)::r'):List (List D×Nat)).length=r'.length+1:=rfl
  cases us with
  | nil=>exact absurd hlev (fun h=>h)
  | cons u' us'=>
   have hlevs:=hlev
   obtain⟨hu,hj,hje,hlev'⟩:=hlev
   have w3:=EY j (by omega)
   have sp2':=sp2
   rw[E5,List.map_append,List.map_singleton] at sp2'
   obtain⟨cc,k1,k2⟩:=sp2'.last
   obtain⟨τ,k3,k4,k5,k6⟩:=sp2'.store (v':=.int .i64 (.ofNat (j+1))) h.wf (A8 _ _)
   rw[List.length_map,DD] at k2 k3
   rw[hlen] at q5 q6 d1
   have lt2:r'.length<r'.length+1:=Nat.lt_succ_self _
   simp -implicitDefEqProofs only[go_sem,QN,Mo,Afk,SA,q6,d1,q5,w2,lt2,k1,k2,w3,k3]
   refine⟨_,_,_,rfl,k5.weaken fun b _ hb=>by subst hb;exact h.hbp,?_⟩
   have hne:bw≠bp:=by have:=h.hbw.1;have:=h.hbp.1;omega
   exact {
       f0:=q0.trans h.f0,f2:=q2.trans h.f2,cw:=(k5.cells (h.wf.cells h.cw) hne).trans h.cw,hbw:=h.hbw,opn:=by rw[q4];exact so2.keep (k5.get bo (so2.lt h.wf) h.ne),hbo:=h.hbo,
       lev:=(Levels.bump hlevs).keep fun b cs hb hc=>(k5.cells (h.wf.cells hc) (by have:=h.low b hb;have:=h.hbp.1;omega)).trans hc,low:=h.low,
       pth:=by rw[q5];show Stk TI τ bp _ ((wayOf ((e,j+1)::r')).map _);rw[E5,List.map_append,List.map_singleton];exact k4,
       hbp:=h.hbp,ne:=h.ne,inv:=hB.stays _ _ _ _ h.inv h.wf (k5.weaken fun b _ hb=>by subst hb;exact⟨h.hbp.2,fun hr=>by have:=h.low _ hr;have:=h.hbp.1;omega⟩),all:=hall,wf:=k6,base:=Nat.le_trans h.base k5.next }
end
end Go.Proofs.YtknnbjmcfibpgaaGreatDoor
namespace Go.Proofs.YtknnbjmcfibpgaaGreatDoor
open Go Go.Eng
attribute [local congr] Ab Ah Af Ad Ae
attribute [-go_sem] List.range_succ
section
variable {kk n l bw bo bp base:Nat} {R:Nat->Prop} {g:Value} {I:List (List Nat×D)->(Nat->Prop)->aC->Prop} {all done:List (List Nat×D)} {B:Nat->Prop} {u:Value} {us:List Value} {ds:List D} {i:Nat} {d:D} {r:List (List D×Nat)} {f:Nat->Value} {Z:aC}
theorem YP(hB:BodyTo kk (env n) l R g I all)(hk:done.length<kk)(h:WHead l R g I all bw bo bp base B (u::us) ((ds,i)::r) done f Z)(hd:ds[i]? = some d)(hr:r.length<90000)(hps:d.parts.length<1000000000)(gg:Nat->Value):
  ∃f' g' V B' bo' bp' u',Gq (env n) none 137 (Sl 8 80 f gg []) none Z=.done .normal (Sl 8 80 f' g' []) none V/\Chg (fun b=>B b\/base<=b) Z V/\(∀b,B' b->B b\/base<=b)/\
   WHead l R g I all bw bo' bp' base B' (u'::u::us) ((d.parts,0)::(ds,i)::r) (done++[(wayOf r++[i],d)]) f' V:=by
 obtain⟨p,c,mo,mp,rfl,hE,hl,h4,co,ho,h5,cp,hp⟩:=h.top
 have hv:=Ce h.wf (Nat.le_refl Z.clock)
 have d0:decide (Int.ofNat (r.length+1)>0)=true:=by simp
 have w1:=AxD r.length (by omega)
 have lt1:r.length<r.length+1:=Nat.lt_succ_self _
 have hi:i<ds.length:=(List.getElem?_eq_some_iff.1 hd).1
 have ne1:(Int.ofNat i==Int.ofNat ds.length)=false:=by simp;omega
 obtain⟨b,off,cs,rfl,hRb,hcs,hle,hL⟩:=bC.get hE hd
 rw[Nat.zero_add] at hle hL
 obtain⟨k,z,t,q,c',hag,hq⟩:=aI.shape hL
 have htk:(cs.drop (off+i*4)).take 4=[.int .i64 k,.int .i64 z,.string t,.slice q d.parts.length c']:=by
  have:=congrArg (fun v=>match v with|.agg a=>a.toList|_=>[]) hag
  simpa using this
 rw[htk] at hL
 have hall:=h.all
 rw[FR r hd] at hall
 unfold Gq
 simp -implicitDefEqProofs only[go_sem,Iu,Ir,KL,JY,KM,JZ,h4,h5,d0,w1,lt1,hv,co,cp,ho,hp,ne1]
 generalize hg:upd _ 33 _=g1
 clear hg
 have f4:upd f 6 (Value.int IntKind.i64 (Int.ofNat (r.length+1))) 4=f 4:=by simp -implicitDefEqProofs only[go_sem,reduceCtorEq]
 have f5:upd f 6 (Value.int IntKind.i64 (Int.ofNat (r.length+1))) 5=f 5:=by simp -implicitDefEqProofs only[go_sem,reduceCtorEq]
 have f0:upd f 6 (Value.int IntKind.i64 (Int.ofNat (r.length+1))) 0=f 0:=by simp -implicitDefEqProofs only[go_sem,reduceCtorEq]
 have f2:upd f 6 (Value.int IntKind.i64 (Int.ofNat (r.length+1))) 2=f 2:=by simp -implicitDefEqProofs only[go_sem,reduceCtorEq]
 have f6:upd f 6 (Value.int IntKind.i64 (Int.ofNat (r.length+1))) 6=Value.int IntKind.i64 (Int.ofNat (r.length+1)):=by simp -implicitDefEqProofs only[go_sem,reduceCtorEq]
 generalize upd f 6 _=f1 at f4 f5 f0 f2 f6 ⊢
 simp -implicitDefEqProofs only[go_sem,Av,QO,Mq,f4,f5,f6,h4,h5,w1,lt1,hv,co,cp,ho,hp,hi,hcs,hle,htk]
 generalize hg:upd _ 62 _=g2
 clear hg
 have p0:upd f1 7 (Value.pointer (some ⟨Z.next,0,none⟩)) 0=f 0:=by simp -implicitDefEqProofs only[go_sem,reduceCtorEq,f0]
 have p2:upd f1 7 (Value.pointer (some ⟨Z.next,0,none⟩)) 2=f 2:=by simp -implicitDefEqProofs only[go_sem,reduceCtorEq,f2]
 have p4:upd f1 7 (Value.pointer (some ⟨Z.next,0,none⟩)) 4=f 4:=by simp -implicitDefEqProofs only[go_sem,reduceCtorEq,f4]
 have p5:upd f1 7 (Value.pointer (some ⟨Z.next,0,none⟩)) 5=f 5:=by simp -implicitDefEqProofs only[go_sem,reduceCtorEq,f5]
 have p6:upd f1 7 (Value.pointer (some ⟨Z.next,0,none⟩)) 6=Value.int IntKind.i64 (Int.ofNat (r.length+1)):=by simp -implicitDefEqProofs only[go_sem,reduceCtorEq,f6]
 have p7:upd f1 7 (Value.pointer (some ⟨Z.next,0,none⟩)) 7=Value.pointer (some ⟨Z.next,0,none⟩):=by simp -implicitDefEqProofs only[go_sem,reduceCtorEq]
 generalize upd f1 7 _=f2' at p0 p2 p4 p5 p6 p7 ⊢
 have x1:Ext Z ((Z.push (.cells [.int .i64 0,.int .i64 0,.string ⟨#[]⟩,.slice none 0 0] TD) none).put Z.next (.cells [.int .i64 k,.int .i64 z,.string t,.slice q d.parts.length c'] TD) none):=((Ext.refl _).push _ _).put _ _ _ (Nat.le_refl _)
 have hw1:=(h.wf.push (.cells [.int .i64 0,.int .i64 0,.string ⟨#[]⟩,.slice none 0 0] TD) none).put Z.next (.cells [.int .i64 k,.int .i64 z,.string t,.slice q d.parts.length c'] TD) none (Nat.lt_succ_self _)
 have b1:((Z.push (.cells [.int .i64 0,.int .i64 0,.string ⟨#[]⟩,.slice none 0 0] TD) none).put Z.next (.cells [.int .i64 k,.int .i64 z,.string t,.slice q d.parts.length c'] TD) none).cells Z.next=some [.int .i64 k,.int .i64 z,.string t,.slice q d.parts.length c']:=by rw[Al,if_pos rfl];rfl
 have hcl:((Z.push (.cells [.int .i64 0,.int .i64 0,.string ⟨#[]⟩,.slice none 0 0] TD) none).put Z.next (.cells [.int .i64 k,.int .i64 z,.string t,.slice q d.parts.length c'] TD) none).clock=Z.clock+2:=rfl
 have hnx:((Z.push (.cells [.int .i64 0,.int .i64 0,.string ⟨#[]⟩,.slice none 0 0] TD) none).put Z.next (.cells [.int .i64 k,.int .i64 z,.string t,.slice q d.parts.length c'] TD) none).next=Z.next+1:=rfl
 generalize aC.put _ _ _ _=a_ at x1 hw1 b1 hcl hnx ⊢
 have hv1:=Ce hw1 (Nat.le_of_eq hcl)
 have hlp:r.length+1<=(List.map (fun i=>Value.int IntKind.i64 (Int.ofNat i)) (wayOf r)++Value.int IntKind.i64 (Int.ofNat i)::mp).length:=by simp[DD]
 have sl3:=WC Tryz.prog 25 TI 1 bp 0 (r.length+1) _ (r.length+1) (view a_ (Z.clock+2)) Kn ML hlp
 have i1:I done B a_:=hB.stays _ _ _ _ h.inv h.wf (x1.chg _)
 have hbpn:=h.pth.lt h.wf
 have hbon:=h.opn.lt h.wf
 have hP:PathAt a_ (.slice (some ⟨bp,0,none⟩) (r.length+1) (r.length+1)) (wayOf r++[i]):=⟨some ⟨bp,0,none⟩,r.length+1,by simp[DD],.inr ⟨bp,mp,rfl,by rw[x1.cells hbpn,cp];simp⟩⟩
 have kR:∀b cs,R b->Z.cells b=some cs->a_.cells b=some cs/\R b:=fun b cs hb hc=>⟨(x1.cells (h.wf.cells hc)).trans hc,hb⟩
 obtain⟨B',a9,e2,hw2,ch2,hB',i2⟩:=hB.go done (wayOf r++[i]) d _ B a_ _ _ hk hall hw1 i1 hP (hL.keep kR)
 have ownB:=hB.own _ _ _ h.inv
 have nB:∀b,Z.next<=b->¬ B b:=fun b hb hh=>by have:=(ownB b hh).1;omega
 have b2:a9.cells Z.next=some [.int .i64 k,.int .i64 z,.string t,.slice q d.parts.length c']:=(ch2.cells (by omega) (nB _ (Nat.le_refl _))).trans b1
 have hbwn:=h.wf.cells h.cw
 have cw2:a9.cells bw=some [g]:=(ch2.cells (by omega) h.hbw.2).trans ((x1.cells hbwn).trans h.cw)
 obtain⟨_,bS,e3,x3,hw3,rfl⟩:=hB.inside _ B' a9 k z t q d.parts.length c' i2 hw2
 simp -implicitDefEqProofs only[go_sem,NM,JX,p0,p5,p6,p7,h.f0,h5,hv1,b1,sl3,ES,Fe,e2]
 generalize hg:upd _ 70 _=g3
 clear hg
 have nB':∀b,b<a_.next->¬ B b->¬ B' b:=fun b hb h1 h2=>by
  rcases hB' b h2 with h3|h3
  .exact h1 h3
  .omega
 have opn2:Stk TL a9 bo (f 4) (.slice (some ⟨b,off,none⟩) ds.length c::us).reverse:=h.opn.keep ((ch2.get bo (by omega) h.hbo.2).trans (x1.get bo hbon))
 have opn3:Stk TL bS bo (f 4) (.slice (some ⟨b,off,none⟩) ds.length c::us).reverse:=opn2.keep (x3.get bo (opn2.lt hw2))
 have pth2:Stk TI a9 bp (f 5) ((wayOf ((ds,i)::r)).map fun i=>.int .i64 (.ofNat i)):=h.pth.keep ((ch2.get bp (by omega) h.hbp.2).trans (x1.get bp hbpn))
 have pth3:Stk TI bS bp (f 5) ((wayOf ((ds,i)::r)).map fun i=>.int .i64 (.ofNat i)):=pth2.keep (x3.get bp (pth2.lt hw2))
 have x4:Ext bS (bS.push (.cells [.slice q d.parts.length c'] TL) none):=(Ext.refl _).push _ _
 have hw4:=hw3.push (.cells [.slice q d.parts.length c'] TL) none
 have b4:(bS.push (.cells [.slice q d.parts.length c'] TL) none).cells bS.next=some [.slice q d.parts.length c']:=by rw[Ac,if_pos rfl];rfl
 rw[h4] at opn3
 obtain⟨bo',s5,bV,e5,opn5,hbo',ch5,hw5⟩:=(opn3.keep (x4.get bo (opn3.lt hw3))).append hw4 (.slice q d.parts.length c') 24 bS.next 1 b4 (Az _ _ _) (by omega) (by simp[hl];omega)
 have b5:(bV.push (.cells [.int .i64 0] TI) none).cells bV.next=some [.int .i64 0]:=by rw[Ac,if_pos rfl];rfl
 have x6:Ext bV (bV.push (.cells [.int .i64 0] TI) none):=(Ext.refl _).push _ _
 have hw6:=hw5.push (.cells [.int .i64 0] TI) none
 have hne45:bp≠bo:=fun h'=>h.ne h'.symm
 have pth4:=pth3.keep (x4.get bp (pth3.lt hw3))
 have pth5:Stk TI bV bp (f 5) ((wayOf ((ds,i)::r)).map fun i=>.int .i64 (.ofNat i)):=pth4.keep (ch5.get bp (pth4.lt hw4) hne45)
 obtain⟨bp',s7,bZ,e7,pth7,hbp',ch7,hw7⟩:=(pth5.keep (x6.get bp (pth5.lt hw5))).append hw6 (.int .i64 0) 8 bV.next 1 b5 (A8 _ _) (by omega) (by simp[DD];omega)
 simp -implicitDefEqProofs only[go_sem,Z8,NN,p0,p2,p4,p7,h.f2,cw2,b2,e3,h4,G1,e5]
 generalize hg:upd _ 76 _=g4
 clear hg
 have t0:upd f2' 4 s5 0=f 0:=by simp -implicitDefEqProofs only[go_sem,reduceCtorEq,p0]
 have t2:upd f2' 4 s5 2=f 2:=by simp -implicitDefEqProofs only[go_sem,reduceCtorEq,p2]
 have t4:upd f2' 4 s5 4=s5:=by simp -implicitDefEqProofs only[go_sem,reduceCtorEq]
 have t5:upd f2' 4 s5 5=f 5:=by simp -implicitDefEqProofs only[go_sem,reduceCtorEq,p5]
 generalize upd f2' 4 s5=f3 at t0 t2 t4 t5 ⊢
 simp -implicitDefEqProofs only[go_sem,Z9,NP,t5,e7]
 have v0:upd f3 5 s7 0=f 0:=by simp -implicitDefEqProofs only[go_sem,reduceCtorEq,t0]
 have v2:upd f3 5 s7 2=f 2:=by simp -implicitDefEqProofs only[go_sem,reduceCtorEq,t2]
 have v4:upd f3 5 s7 4=s5:=by simp -implicitDefEqProofs only[go_sem,reduceCtorEq,t4]
 have v5:upd f3 5 s7 5=s7:=by simp -implicitDefEqProofs only[go_sem,reduceCtorEq]
 have hbo4:bo<(bS.push (.cells [.slice q d.parts.length c'] TL) none).next:=(opn3.keep (x4.get bo (opn3.lt hw3))).lt hw4
 have n12:=x1.next
 have n23:=ch2.next
 have n34:=x3.next
 have n45:=x4.next
 have n56:=ch5.next
 have n67:=x6.next
 have n78:=ch7.next
 have hbase:=h.base
 have lowB':∀b,B' b->B b\/base<=b:=fun b hb=>by
  rcases hB' b hb with h3|h3
  .exact .inl h3
  .exact .inr (by omega)
 have ownB':=hB.own _ _ _ i2
 have hboB':¬ B' bo:=nB' bo (by omega) h.hbo.2
 have hbpB':¬ B' bp:=nB' bp (by omega) h.hbp.2
 have c27:∀b,b<a9.next->b≠bo->b≠bp->bZ.heap.get b=a9.heap.get b:=fun b hb h1 h2=>
  ((ch7.get b (by omega) h2).trans (x6.get b (by omega))).trans ((ch5.get b (by omega) h1).trans ((x4.get b (by omega)).trans (x3.get b hb)))
 have c17:∀b,b<Z.next->¬ B b->b≠bo->b≠bp->bZ.heap.get b=Z.heap.get b:=fun b hb h0 h1 h2=>
  (c27 b (by omega) h1 h2).trans ((ch2.get b (by omega) h0).trans (x1.get b hb))
 have nbo:base<=bo'/\¬ B' bo'/\bo'<bV.next:=by
  rcases hbo' with rfl|rfl
  .exact⟨h.hbo.1,hboB',by omega⟩
  .exact⟨by omega,fun hb=>by have:=(ownB' _ hb).1;omega,opn5.lt hw5⟩
 have nbp:base<=bp'/\¬ B' bp'/\bo'≠bp':=by
  rcases hbp' with rfl|rfl
  .refine⟨h.hbp.1,hbpB',?_⟩
   rcases hbo' with rfl|rfl
   .exact h.ne
   .omega
  .have:=nbo.2.2
   rw[Aa] at n67 ⊢
   exact⟨by omega,fun hb=>by have:=(ownB' _ hb).1;omega,by omega⟩
 have hcw7:bZ.cells bw=some [g]:=by
  rw[AG,c17 bw hbwn h.hbw.2 (by have:=h.hbw.1;have:=h.hbo.1;omega) (by have:=h.hbw.1;have:=h.hbp.1;omega),<-AG]
  exact h.cw
 have kR7:∀b cs,R b->Z.cells b=some cs->bZ.cells b=some cs:=fun b cs hb hc=>by
  have hlb:=h.low b hb
  rw[AG,c17 b (by omega) (fun hB0=>(ownB b hB0).2 hb) (by have:=h.hbo.1;omega) (by have:=h.hbp.1;omega),<-AG]
  exact hc
 refine⟨_,_,bZ,B',bo',bp',.slice q d.parts.length c',rfl,⟨by omega,by have:=x1.clock;have:=ch2.clock;have:=x3.clock;have:=x4.clock;have:=ch5.clock;have:=x6.clock;have:=ch7.clock;omega,fun b hb hF=>?_⟩,lowB',?_⟩
 .exact c17 b hb (fun h'=>hF (.inl h')) (fun h'=>hF (.inr (by have:=h.hbo.1;omega))) (fun h'=>hF (.inr (by have:=h.hbp.1;omega)))
 .obtain⟨hu,hi0,hds,hlev⟩:=h.lev
  exact {
      f0:=v0.trans h.f0,f2:=v2.trans h.f2,cw:=hcw7,hbw:=⟨h.hbw.1,nB' bw (by omega) h.hbw.2⟩,
      opn:=by
       rw[v4,List.reverse_cons]
       exact opn5.keep ((ch7.get bo' (by omega) (fun h'=>by
        rcases hbp' with h''|h''
        .exact nbp.2.2 (h'.trans h''.symm)
        .have:=nbo.2.2;rw[Aa] at n67;exact absurd h' (by
          intro h3
          rcases hbo' with rfl|rfl
          .exact h.ne h3
          .have:=pth4.lt hw4;omega))).trans (x6.get bo' nbo.2.2)),
      hbo:=⟨nbo.1,nbo.2.1⟩,
      lev:=⟨⟨q,c',rfl,hq.keep fun b cs hb hc=>⟨kR7 b cs hb hc,hb⟩⟩,by omega,hps,⟨(hu.elim fun p' h'=>h'.elim fun c'' h''=>⟨p',c'',h''.1,h''.2.keep fun b cs hb hc=>⟨kR7 b cs hb hc,hb⟩⟩),by omega,hds,hlev.keep kR7⟩⟩,
      low:=h.low,
      pth:=by rw[v5,E5,List.map_append];exact pth7,
      hbp:=⟨nbp.1,nbp.2.1⟩,ne:=nbp.2.2,
      inv:=hB.stays _ _ _ _ i2 hw2 ⟨by omega,by have:=x3.clock;have:=x4.clock;have:=ch5.clock;have:=x6.clock;have:=ch7.clock;omega,fun b hb hn=>c27 b hb (fun h'=>hn ⟨fun hb'=>hboB' (h' ▸ hb'),fun hr=>by have:=h.low b hr;have:=nbo.1;have:=h.hbo.1;omega⟩) (fun h'=>hn ⟨fun hb'=>hbpB' (h' ▸ hb'),fun hr=>by have:=h.low b hr;have:=nbp.1;have:=h.hbp.1;omega⟩)⟩,
      all:=by rw[hall,List.append_assoc,List.singleton_append],wf:=hw7,base:=by omega }
end
end Go.Proofs.YtknnbjmcfibpgaaGreatDoor
namespace Go.Proofs.YtknnbjmcfibpgaaGreatDoor
open Go Go.Eng
attribute [local congr] Ab Ah Af Ad Ae
attribute [-go_sem] List.range_succ
section
variable {n l bw base:Nat} {R:Nat->Prop} {g:Value} {I:List (List Nat×D)->(Nat->Prop)->aC->Prop} {all:List (List Nat×D)}
theorem ArR:bI nls 137=[]:=by kernel_rfl
def Small(all:List (List Nat×D)):Prop:=∀x∈all,x.1.length<80000/\x.2.parts.length<1000000000
theorem Agw(hB:Body (env n) l R g I all)(hS:Small all):∀(m fuel:Nat) (st:List (List D×Nat)) (us:List Value) (done:List (List Nat×D)) (B:Nat->Prop) (bo bp:Nat) (f gg:Nat->Value) (Z:aC),
  2*(todo st).length+st.length<=m->m<fuel->st.length<=80000->WHead l R g I all bw bo bp base B us st done f Z->
  ∃f' g' V B',floop [] (Gq (env n) none 137) fuel (Sl 8 80 f gg []) none Z=.done (.exit 0) (Sl 8 80 f' g' []) none V/\Chg (fun b=>B b\/base<=b) Z V/\(∀b,B' b->B b\/base<=b)/\Wf V/\I all B' V:=by
 intro m
 induction m with
 | zero=>
  intro fuel st us done B bo bp f gg Z hm hf hst h
  obtain⟨fuel,rfl⟩:∃q,fuel=q+1:=⟨fuel-1,by omega⟩
  obtain rfl:st=[]:=by cases st with|nil=>rfl|cons _ _=>simp at hm
  obtain rfl:us=[]:=List.length_eq_zero_iff.1 h.lev.length
  obtain⟨mo,h4,_⟩:=h.opn.cells
  have hall:=h.all
  have d0:decide (Int.ofNat 0>0)=false:=by decide
  rw[show todo ([]:List (List D×Nat))=[] from rfl,List.append_nil] at hall
  simp only[List.reverse_nil,List.length_nil] at h4
  rw[Am]
  unfold Gq
  simp -implicitDefEqProofs only[go_sem,Iu,Ir,h4,d0]
  exact⟨_,_,_,B,rfl,Chg.refl _ _,fun _ hb=>.inl hb,h.wf,hall ▸ h.inv⟩
 | succ m ih=>
  intro fuel st us done B bo bp f gg Z hm hf hst h
  obtain⟨fuel,rfl⟩:∃q,fuel=q+1:=⟨fuel-1,by omega⟩
  cases st with
  | nil=>exact ih (fuel+1) [] us done B bo bp f gg Z (by simp[todo]) (by omega) hst h
  | cons x r=>
   obtain⟨ds,i⟩:=x
   cases us with
   | nil=>exact absurd h.lev (fun h=>h)
   | cons u us=>
    have hi:i<=ds.length:=h.lev.2.1
    have hr:r.length+1<=80000:=hst
    rw[Am,AL]
    by_cases he:i=ds.length
    .subst he
     obtain⟨f',g',V,e,hC,hH⟩:=YQ hB.to h (by omega) (kept [] gg)
     rw[e,Aw]
     rw[Pn,I6] at hm
     have hlb:(bump r).length=r.length:=by cases r<;>rfl
     obtain⟨f2,g2,a9,B2,e2,hC2,hB2,hw2,hI2⟩:=ih fuel _ _ _ _ _ _ f' g' V (by simp at hm;omega) (by omega) (by omega) hH
     exact⟨f2,g2,a9,B2,e2,(hC.weaken fun b _ hb=>.inr hb.1).trans hC2 (fun b _ hb=>hb),hB2,hw2,hI2⟩
    .have hlt:i<ds.length:=by omega
     have hd:ds[i]? = some ds[i]:=List.getElem?_eq_getElem hlt
     have hall:=h.all
     rw[FR r hd] at hall
     have hx:=hS (wayOf r++[i],ds[i]) (by rw[hall];simp)
     obtain⟨f',g',V,B',bo',bp',u',e,hC,hBB,hH⟩:=YP hB.to (by rw[hall];simp) h hd (by omega) hx.2 (kept [] gg)
     rw[e,Aw]
     rw[FR r hd] at hm
     have hl:(wayOf r++[i]).length=r.length+1:=by simp[DD]
     have hx1:=hx.1
     simp only[hl] at hx1
     obtain⟨f2,g2,a9,B2,e2,hC2,hB2,hw2,hI2⟩:=ih fuel _ _ _ _ _ _ f' g' V (by simp at hm ⊢;omega) (by omega) (by simp;omega) hH
     refine⟨f2,g2,a9,B2,e2,hC.trans hC2 fun b _ hb=>?_,fun b hb=>?_,hw2,hI2⟩
     .rcases hb with hb|hb
      .exact hBB b hb
      .exact .inr hb
     .rcases hB2 b hb with hb|hb
      .exact hBB b hb
      .exact .inr hb
theorem AxH(d:D)(hB:Body (env n) l R g I (d.pieces []))(hS:Small (d.pieces []))(hN:(d.pieces []).length<100000000000)(b1 b2:Nat)(Z:aC)(v:Value)(lv:List Value)(B:Nat->Prop)(hw:Wf Z)(hi:I [] B Z)(hcv:Z.cells b1=some lv)(hv:v=.agg lv.toArray)(hb1:¬ B b1)(hL:aI R Z v d)(hR:∀b,R b->b<Z.next)(hcw:Z.cells b2=some [g])(hb2:¬ B b2):
  ∃V B',(env (n+1)).call 137 [.func (.yield l) #[] #[],.pointer (some ⟨b1,0,none⟩),.pointer (some ⟨b2,0,none⟩)] none Z=.ret (.tuple #[]) none V/\Chg B Z V/\(∀b,B' b->B b\/Z.next<=b)/\Wf V/\I (d.pieces []) B' V:=by
 subst hv
 obtain⟨k,z,t,q,c',hag,hq⟩:=aI.shape hL
 have hlv:lv=[.int .i64 k,.int .i64 z,.string t,.slice q d.parts.length c']:=by
  have:=congrArg (fun v=>match v with|.agg a=>a.toList|_=>[]) hag
  simpa using this
 subst hlv
 have hpc:=D.pieces_eq [] d
 obtain⟨B',a_,e1,hw1,ch1,hB1,i1⟩:=hB.go [] [] d _ B Z (.slice none 0 0) _ (by rw[hpc];rfl) hw hi ⟨none,0,rfl,.inl ⟨rfl,rfl,rfl⟩⟩ hL
 have ownB:=hB.own _ _ _ hi
 have ownB1:=hB.own _ _ _ i1
 have hb1n:=hw.cells hcv
 have hb2n:=hw.cells hcw
 have n1:=ch1.next
 have cv1:a_.cells b1=some [.int .i64 k,.int .i64 z,.string t,.slice q d.parts.length c']:=(ch1.cells hb1n hb1).trans hcv
 have cw1:a_.cells b2=some [g]:=(ch1.cells hb2n hb2).trans hcw
 obtain⟨_,a9,e2,x2,hw2,rfl⟩:=hB.inside _ B' a_ k z t q d.parts.length c' i1 hw1
 have n2:=x2.next
 have x3:Ext a9 ((a9.push (.cells [.slice q d.parts.length c'] TL) none).push (.cells [.int .i64 0] TI) none):=((Ext.refl _).push _ _).push _ _
 have hw3:=(hw2.push (.cells [.slice q d.parts.length c'] TL) none).push (.cells [.int .i64 0] TI) none
 have hlow:∀b,B' b->B b\/Z.next<=b:=hB1
 have nB:∀b,b<Z.next->¬ B b->¬ B' b:=fun b hb h1 h2=>by
  rcases hB1 b h2 with h3|h3
  .exact h1 h3
  .omega
 have c03:∀b,b<Z.next->¬ B b->((a9.push (.cells [.slice q d.parts.length c'] TL) none).push (.cells [.int .i64 0] TI) none).heap.get b=Z.heap.get b:=fun b hb h0=>
  (x3.get b (by omega)).trans ((x2.get b (by omega)).trans (ch1.get b hb h0))
 have kR:∀b cs,R b->Z.cells b=some cs->((a9.push (.cells [.slice q d.parts.length c'] TL) none).push (.cells [.int .i64 0] TI) none).cells b=some cs:=fun b cs hb hc=>by
  rw[AG,c03 b (hR b hb) (fun hB0=>(ownB b hB0).2 hb),<-AG]
  exact hc
 rw[Ak _ 137 _ _ rfl,M3 _ _ _ _ (by simp),Aj]
 unfold Pa
 have tk:List.take 4 [Value.int .i64 k,.int .i64 z,.string t,.slice q d.parts.length c']=[.int .i64 k,.int .i64 z,.string t,.slice q d.parts.length c']:=rfl
 simp -implicitDefEqProofs only[go_sem,KK,JW,QL,Mm,QM,Mn,hcv,ES,Fe,e1,cw1,cv1,e2,ArR,G1]
 generalize hff:upd _ 5 _=f1
 generalize hgg:upd _ 16 _=g1
 generalize hbf:bG=fuel
 have hH:WHead l R g I (d.pieces []) b2 a9.next (a9.next+1) Z.next B' [.slice q d.parts.length c'] [(d.parts,0)] ([]++[([],d)]) f1 ((a9.push (.cells [.slice q d.parts.length c'] TL) none).push (.cells [.int .i64 0] TI) none):={
  f0:=by rw[<-hff];simp -implicitDefEqProofs only[go_sem,reduceCtorEq]
  f2:=by rw[<-hff];simp -implicitDefEqProofs only[go_sem,reduceCtorEq]
  cw:=by rw[AG,c03 b2 hb2n hb2,<-AG];exact hcw
  hbw:=⟨hb2n,nB b2 hb2n hb2⟩
  opn:=⟨_,none,a9.clock,by rw[<-hff];simp -implicitDefEqProofs only[go_sem,reduceCtorEq]<;>rfl,by rw[Ai,if_neg (by rw[Aa];omega),Ai,if_pos rfl];rfl,.inl rfl,[],rfl⟩
  hbo:=⟨by omega,fun h=>by have:=(ownB1 _ h).1;omega⟩
  lev:=⟨⟨q,c',rfl,hq.keep fun b cs hb hc=>⟨kR b cs hb hc,hb⟩⟩,Nat.zero_le _,(hS ([],d) (by rw[hpc];exact List.mem_cons_self)).2,trivial⟩
  low:=hR
  pth:=⟨_,none,a9.clock+1,by rw[<-hff];simp -implicitDefEqProofs only[go_sem,reduceCtorEq]<;>rfl,by rw[Ai,if_pos (by rw[Aa])];rfl,.inl rfl,[],rfl⟩
  hbp:=⟨by omega,fun h=>by have:=(ownB1 _ h).1;omega⟩
  ne:=by omega
  inv:=hB.stays _ _ _ _ i1 hw1 (by
   have:=x2.clock
   have:=x3.clock
   have:=x3.next
   exact⟨by omega,by omega,fun b hb _=>(x3.get b (by omega)).trans (x2.get b hb)⟩)
  all:=by rw[hpc];show _=[]++[([],d)]++(D.piecesL [] 0 (d.parts.drop 0)++[]);simp
  wf:=hw3
  base:=by rw[Aa,Aa];omega }
 obtain⟨f2,g2,bU,B4,e4,ch4,hB4,hw4,i4⟩:=Agw hB hS _ fuel _ _ _ _ _ _ f1 g1 _ (Nat.le_refl _) (by
  rw[<-hbf]
  show _<1000000000000
  have h1:(todo [(d.parts,0)]).length=(D.piecesL [] 0 d.parts).length:=by simp[todo,below,wayOf]
  have h2:=congrArg List.length hpc
  rw[List.length_cons] at h2
  rw[h1,List.length_singleton]
  omega) (by simp) hH
 rw[e4]
 simp -implicitDefEqProofs only[go_sem]
 refine⟨_,B4,rfl,⟨?_,?_,?_⟩,?_,hw4,i4⟩
 .have:=x3.next;have:=ch4.next;omega
 .have:=ch1.clock;have:=x2.clock;have:=x3.clock;have:=ch4.clock;omega
 .intro b hb h0
  have:=x3.next
  rw[ch4.get b (by omega) (fun h=>by
   rcases h with h|h
   .exact nB b hb h0 h
   .omega)]
  exact c03 b hb h0
 .intro b hb
  rcases hB4 b hb with h|h
  .exact hB1 b h
  .exact .inr h
end
end Go.Proofs.YtknnbjmcfibpgaaGreatDoor
namespace Go.Eng
open Go
def Ful(T:TypeId)(Z:aC)(b:Nat)(s:Value)(vs:List Value):Prop:=
 ∃fz ver,s=.slice (some ⟨b,0,none⟩) vs.length vs.length/\Z.heap.get b=some ⟨.cells vs T,false,fz,ver⟩/\(fz=none\/fz=some 1)
section
variable {T:TypeId} {Z V:aC} {b:Nat} {s:Value} {vs:List Value}
theorem Ful.keep(h:Ful T Z b s vs)(hb:V.heap.get b=Z.heap.get b):Ful T V b s vs:=by
 obtain⟨fz,ver,h1,h2,h3⟩:=h
 exact⟨fz,ver,h1,hb.trans h2,h3⟩
theorem Ful.lt(h:Ful T Z b s vs)(hw:Wf Z):b<Z.next:=by
 obtain⟨fz,ver,h1,h2,h3⟩:=h
 exact(hw _ _ h2).1
theorem Ful.cells(h:Ful T Z b s vs):s=.slice (some ⟨b,0,none⟩) vs.length vs.length/\Z.cells b=some vs:=by
 obtain⟨fz,ver,h1,h2,h3⟩:=h
 exact⟨h1,Ar h2⟩
theorem Ful.one(h:Ful T Z b s vs):oneCell s=true/\aP s=true/\aJ s=[s]:=by
 obtain⟨fz,ver,rfl,_⟩:=h
 exact⟨Az _ _ _,AF _ _ _,rfl⟩
theorem Ful.push(T:TypeId)(Z:aC)(vs:List Value):Ful T (Z.push (.cells vs T) none) Z.next (.slice (some ⟨Z.next,0,none⟩) vs.length vs.length) vs:=⟨none,Z.clock,rfl,by rw[Ai,if_pos rfl],.inl rfl⟩
theorem EH(bx n cx:Nat)(new rest:List Value)(hx:Z.cells bx=some (new++rest))(hn:new.length=n):fnew 1 (.slice (some ⟨bx,0,none⟩) n cx) Z=some (n,new):=by
 unfold fnew
 simp only[Et,hx,Nat.mul_one,List.drop_zero,Nat.sub_zero,List.length_append]
 rw[if_pos (by omega),List.take_left' hn]
theorem Ful.append(h:Ful T Z b s vs)(hw:Wf Z)(src:Value)(new:List Value)(bytes:Nat)(hx:fnew 1 src Z=some (new.length,new))(ho:new.all oneCell=true)(hby:bytes<1000)(hlen:vs.length+new.length<100000):
  ∃b' s' τ,bO T 1 bytes s src Z=.val s' τ/\Ful T τ b' s' (vs++new)/\(b'=b\/b'=Z.next)/\Chg (· = b) Z τ/\Wf τ:=by
 have hb:=h.lt hw
 obtain⟨fz,ver,rfl,h2,h3⟩:=h
 have e0:bO T 1 bytes (.slice (some ⟨b,0,none⟩) vs.length vs.length) src Z=fappend2 T 1 bytes vs.length vs.length (some ⟨b,0,none⟩) new.length new Z:=by
  unfold bO
  simp only[hx,ho]
  rfl
 rw[e0]
 unfold fappend2
 by_cases hz:new.length=0
 .obtain rfl:new=[]:=List.length_eq_zero_iff.1 hz
  rw[show Nat.ble (vs.length+([]:List Value).length) vs.length=true by rw[Nat.ble_eq];simp]
  show ∃b' s' τ,fappendRoom 1 vs.length vs.length (some ⟨b,0,none⟩) 0 [] Z=.val s' τ/\_
  unfold fappendRoom
  simp only[h2,D8,Nat.mul_one,Nat.zero_add,List.length_nil,Nat.add_zero,Nat.le_refl,if_true,List.append_nil]
  refine⟨b,_,_,rfl,⟨fz,Z.clock,rfl,?_,h3⟩,.inl rfl,(Chg.refl (· = b) _).put _ _ _ (.inr rfl),hw.put _ _ _ hb⟩
  rw[Ao,if_pos rfl]
  simp
 .have hm:(vs.length+new.length)*(bytes+1)<=100000*1000:=Nat.mul_le_mul (by omega) (by omega)
  rw[show Nat.ble (vs.length+new.length) vs.length=false by rw[<-Bool.not_eq_true,Nat.ble_eq];omega,show Nat.ble ((vs.length+new.length)*(bytes+1)) 1000000000=true by rw[Nat.ble_eq];omega]
  show ∃b' s' τ,fappendGrow T 1 vs.length vs.length (some ⟨b,0,none⟩) new.length new Z=.val s' τ/\_
  unfold fappendGrow
  have hc:=Ar h2
  simp only[Et,hc,h2,List.drop_zero,Nat.sub_zero,Nat.mul_one,Nat.le_refl,if_true]
  rw[List.take_of_length_le (Nat.le_refl _)]
  have hl:vs.length+new.length=(vs++new).length:=by simp
  rcases h3 with rfl|rfl
  .refine⟨Z.next,.slice (some ⟨Z.next,0,none⟩) (vs.length+new.length) (vs.length+new.length),Z.push (.cells (vs++new) T) (some 1),rfl,⟨some 1,Z.clock,by rw[hl],by rw[Ai,if_pos rfl],.inr rfl⟩,.inr rfl,(Chg.refl _ _).push _ _,hw.push _ _⟩
  .rw[show Nat.beq vs.length vs.length=true by rw[Nat.beq_eq]]
   refine⟨Z.next,.slice (some ⟨Z.next,0,none⟩) (vs.length+new.length) (vs.length+new.length),(Z.put b (.defd false) none).push (.cells (vs++new) T) (some 1),rfl,⟨some 1,(Z.put b (.defd false) none).clock,by rw[hl],by rw[Ai,if_pos (by rw[Aq])],.inr rfl⟩,.inr rfl,((Chg.refl (· = b) _).put _ _ _ (.inr rfl)).push _ _,(hw.put _ _ _ hb).push _ _⟩
theorem Eo{Z V:aC}(hw:Wf Z){lam:Nat}(hl:Z.clock<=lam){b:Nat}{c:List Value}(hb:V.heap.get b=Z.heap.get b)(hc:Z.cells b=some c):(view V lam).cells b=some c:=by
 rw[AG,HU,hb]
 rw[AG] at hc
 cases hg:Z.heap.get b with
 | none=>rw[hg] at hc;cases hc
 | some e=>
  rw[hg] at hc
  simp only
  rw[if_pos (by have:=(hw b e hg).2;omega)]
  exact hc
def intsOf(path:List Nat):List Value:=path.map fun i=>.int .i64 (.ofNat i)
theorem FX(path:List Nat):(intsOf path).all oneCell=true:=by
 induction path with
 | nil=>rfl
 | cons x l ih=>rw[intsOf,List.map_cons,List.all_cons,A8,Bool.true_and];exact ih
theorem Cc(path:List Nat):(intsOf path).length=path.length:=by simp[intsOf]
def PathV(Q:Nat->Prop)(Z:aC)(v:Value)(path:List Nat):Prop:=
 (v=.slice none 0 0/\path=[])\/∃b cx rest,v=.slice (some ⟨b,0,none⟩) path.length cx/\Q b/\Z.cells b=some (intsOf path++rest)
theorem PathV.keep{Q Q':Nat->Prop}{Z V:aC}{v:Value}{path:List Nat}(h:PathV Q Z v path)(hk:∀b c,Q b->Z.cells b=some c->V.cells b=some c/\Q' b):PathV Q' V v path:=by
 rcases h with h|⟨b,cx,rest,h1,h2,h3⟩
 .exact .inl h
 .exact .inr ⟨b,cx,rest,h1,(hk b _ h2 h3).2,(hk b _ h2 h3).1⟩
theorem PathV.fnew{Q:Nat->Prop}{Z:aC}{v:Value}{path:List Nat}(h:PathV Q Z v path):Eng.fnew 1 v Z=some ((intsOf path).length,intsOf path):=by
 rcases h with⟨rfl,rfl⟩|⟨b,cx,rest,rfl,h2,h3⟩
 .rfl
 .rw[Cc]
  exact EH b path.length cx _ rest h3 (Cc _)
theorem PathV.one{Q:Nat->Prop}{Z:aC}{v:Value}{path:List Nat}(h:PathV Q Z v path):oneCell v=true/\aP v=true/\aJ v=[v]:=by
 rcases h with⟨rfl,rfl⟩|⟨b,cx,rest,rfl,h2,h3⟩
 .exact⟨Az _ _ _,AF _ _ _,rfl⟩
 .exact⟨Az _ _ _,AF _ _ _,rfl⟩
def PathsL(Q:Nat->Prop)(Z:aC):List Value->List (List Nat)->Prop
 | [],[]=>True
 | u::us,p::ps=>PathV Q Z u p/\PathsL Q Z us ps
 | _,_=>False
theorem PathsL.keep{Q Q':Nat->Prop}{Z V:aC}(hk:∀b c,Q b->Z.cells b=some c->V.cells b=some c/\Q' b):∀ {us:List Value} {ps:List (List Nat)},PathsL Q Z us ps->PathsL Q' V us ps
 | [],[],_=>trivial
 | _::_,_::_,⟨h1,h2⟩=>⟨h1.keep hk,h2.keep hk⟩
theorem PathsL.length{Q:Nat->Prop}{Z:aC}:∀ {us:List Value} {ps:List (List Nat)},PathsL Q Z us ps->us.length=ps.length
 | [],[],_=>rfl
 | _::_,_::_,⟨_,h2⟩=>congrArg (· + 1) h2.length
theorem PathsL.append{Q:Nat->Prop}{Z:aC}:∀ {us us':List Value} {ps ps':List (List Nat)},PathsL Q Z us ps->PathsL Q Z us' ps'->PathsL Q Z (us++us') (ps++ps')
 | [],_,[],_,_,h=>h
 | _::_,_,_::_,_,⟨h1,h2⟩,h=>⟨h1,h2.append h⟩
theorem PathsL.all{Q:Nat->Prop}{Z:aC}:∀ {us:List Value} {ps:List (List Nat)},PathsL Q Z us ps->us.all oneCell=true
 | [],[],_=>rfl
 | _::_,_::_,⟨h1,h2⟩=>by rw[List.all_cons,h1.one.1,Bool.true_and];exact h2.all
theorem PathsL.get{Q:Nat->Prop}{Z:aC}:∀ {us:List Value} {ps:List (List Nat)} {i:Nat} {p:List Nat},PathsL Q Z us ps->ps[i]? = some p->∃u,us[i]? = some u/\PathV Q Z u p
 | u::_,_::_,0,_,⟨h1,_⟩,h=>by cases h;exact⟨u,rfl,h1⟩
 | _::us,_::ps,i+1,p,⟨_,h2⟩,h=>by
  obtain⟨u,h3,h4⟩:=PathsL.get (i:=i) h2 (by simpa using h)
  exact⟨u,by simpa using h3,h4⟩
 | [],[],_,_,_,h=>by simp at h
end
end Go.Eng
namespace Go.Proofs.YtknnbjmcfibpgaaGreatDoor
open Go Go.Eng
variable (E:Env) (ro:Option Nat) (last:List Nat->aZ) (cl:List Nat) (a:aV) (u:Option FrameMode) (Z:aC)
def TK(_:Unit):List COp:=[⟨fun a Z=>fbox 24 (a.get 0) Z,some 2,tT⟩,
 ⟨fun a Z=>.val (.slice none 0 0) Z,some 4,tT⟩]
def Asn:List COp:=TK ()
def TM(_:Unit):List COp:=[⟨fun a Z=>aR 3 0 1 [(.int .i64 0)] [] Z,some 7,tT⟩,
 ⟨fun a Z=>.val (a.get 1) Z,some 8,tT⟩,
 ⟨fun a Z=>bO 3 1 8 (a.get 7) (a.get 8) Z,some 9,tT⟩,
 ⟨fun a Z=>aR 25 1 1 [(.slice none 0 0)] [(0,(a.get 9))] Z,some 10,tT⟩,
 ⟨fun a Z=>.val (a.get 10) Z,some 5,tT⟩]
def Aso:List COp:=TM ()
def TN(_:Unit):List COp:=[⟨fun a Z=>.val (.int .i64 0) Z,some 6,tT⟩]
def Asp:List COp:=TN ()
def K0(_:Unit):List COp:=[⟨fun a Z=>.val (a.get 6) Z,some 11,tT⟩,
 ⟨fun a Z=>aH 3 (a.get 2) Z,some 12,tT⟩,
 ⟨fun a Z=>aG none (a.get 12) Z,some 13,tT⟩,
 ⟨fun a Z=>flenL (a.get 13) Z,some 14,tT⟩,
 ⟨fun a Z=>i_lss Tryz.prog 3 (.tmp 11) (.tmp 14) (a.get 11) (a.get 14) Z,some 15,tT⟩]
def Asq:List COp:=K0 ()
def TR(_:Unit):List DOp:=[⟨fun a Z=>aR 3 0 1 [(.int .i64 0)] [] Z,some 24,tT,some 0,false⟩,
 ⟨fun a Z=>.val (a.get 1) Z,some 25,tT,some 0,false⟩,
 ⟨fun a Z=>bO 3 1 8 (a.get 24) (a.get 25) Z,some 26,tT,none,false⟩,
 ⟨fun a Z=>.val (a.get 6) Z,some 27,tT,some 0,false⟩,
 ⟨fun a Z=>aR 3 1 1 [(.int .i64 0)] [(0,(a.get 27))] Z,some 28,tT,some 0,false⟩,
 ⟨fun a Z=>bO 3 1 8 (a.get 26) (a.get 28) Z,some 29,tT,none,false⟩,
 ⟨fun a Z=>aH 3 (a.get 2) Z,some 19,tT,some 0,false⟩,
 ⟨fun a Z=>aG none (a.get 19) Z,some 20,tT,some 0,false⟩,
 ⟨fun a Z=>.val (a.get 6) Z,some 21,tT,some 0,false⟩,
 ⟨fun a Z=>bH (none,4) (a.get 20) (a.get 21) Z,some 22,tT,some 0,false⟩,
 ⟨fun a Z=>aG (some 4) (a.get 22) Z,some 23,tT,some 0,false⟩,
 ⟨fun a Z=>.enter 31 [(a.get 23),(a.get 29)] Z,some 30,tT,none,false⟩,
 ⟨fun a Z=>.val (a.get 5) Z,some 18,tT,some 0,false⟩,
 ⟨fun a Z=>bO 25 1 24 (a.get 18) (a.get 30) Z,some 31,tT,none,true⟩,
 ⟨fun a Z=>.val (a.get 31) Z,some 5,tT,some 4,false⟩]
def Ass:List DOp:=TR ()
def TQ(_:Unit):List COp:=[⟨fun a Z=>.val (a.get 6) Z,some 16,tT⟩,
 ⟨fun a Z=>i_add Tryz.prog 3 (.tmp 16) (.const (.int .i64 1)) (a.get 16) (.int .i64 1) Z,some 17,tT⟩,
 ⟨fun a Z=>.val (a.get 17) Z,some 6,tT⟩]
def Asr:List COp:=TQ ()
def JJ(E:Env)(ro:Option Nat)(fn:FuncId):aZ:=(aF (aF (aD E ro Asq) (aL (fun a=>(a.get 15)) aU (exitR 0))) (aF (aW 1 (drawR E ro Ass)) (aD E ro Asr)))
def TT(_:Unit):List COp:=[⟨fun a Z=>.val (a.get 5) Z,some 32,tT⟩,
 ⟨fun a Z=>.val (a.get 32) Z,some 4,tT⟩]
def Asu:List COp:=TT ()
def AdH(E:Env)(ro:Option Nat)(fn:FuncId):aZ:=(aF (aD E ro Asn) (aF (aD E ro Aso) (aF (aF (aD E ro Asp) (aW 0 (loopR (bI nls fn) (JJ E ro fn)))) (aF (aD E ro Asu) bM))))
theorem Xo:aD E ro Asn a u Z=aD E ro (TK ()) a u Z:=rfl
theorem Xp:aD E ro Aso a u Z=aD E ro (TM ()) a u Z:=rfl
theorem Xq:aD E ro Asp a u Z=aD E ro (TN ()) a u Z:=rfl
theorem Kd:aD E ro Asq a u Z=aD E ro (K0 ()) a u Z:=rfl
theorem Xs:bB E ro last Ass cl a u Z=bB E ro last (TR ()) cl a u Z:=rfl
theorem Xr:aD E ro Asr a u Z=aD E ro (TQ ()) a u Z:=rfl
theorem Xt:aD E ro Asu a u Z=aD E ro (TT ()) a u Z:=rfl
theorem AvX(E:Env)(ro:Option Nat)(fn:FuncId):code Tryz.prog nls (Tryz.f31.body.getD .skip) E ro fn=AdH E ro fn:=by kernel_rfl
theorem AcF(E:Env)(args:List Value)(u:Option FrameMode)(Z:aC)(hn:args.length<=(7:Nat)):bA Tryz.prog nls E 31 args u Z=aN Tryz.prog E [.tmp 4] (AdH E none 31 ⟨aX undef 7 args,fun _=>undef,7,33,[]⟩ u Z):=by
 rw[Ap (body:=Tryz.f31.body.getD .skip) Tryz.func31 rfl E args u Z 7 33 (by kernel_rfl) rfl ⟨hn,by decide⟩,AvX]
 rfl
def TU(_:Unit):List COp:=[⟨fun a Z=>fbox 24 (a.get 0) Z,some 2,tT⟩,
 ⟨fun a Z=>aM [(.int .i64 0),(.int .i64 0),(.string ⟨#[]⟩),(.slice none 0 0)] 24 none Z,some 4,tT⟩,
 ⟨fun a Z=>.val (.bool false) Z,some 5,tT⟩]
def Asv:List COp:=TU ()
def TV(_:Unit):List COp:=[⟨fun a Z=>.val (.int .i64 0) Z,some 6,tT⟩]
def Asw:List COp:=TV ()
def Jj(_:Unit):List COp:=[⟨fun a Z=>.val (a.get 6) Z,some 7,tT⟩,
 ⟨fun a Z=>.val (a.get 1) Z,some 8,tT⟩,
 ⟨fun a Z=>flenL (a.get 8) Z,some 9,tT⟩,
 ⟨fun a Z=>i_lss Tryz.prog 3 (.tmp 7) (.tmp 9) (a.get 7) (a.get 9) Z,some 10,tT⟩]
def Asx:List COp:=Jj ()
def NV(_:Unit):List DOp:=[⟨fun a Z=>.val (a.get 1) Z,some 13,tT,some 0,false⟩,
 ⟨fun a Z=>.val (a.get 6) Z,some 14,tT,some 0,false⟩,
 ⟨fun a Z=>bH (none,1) (a.get 13) (a.get 14) Z,some 15,tT,some 0,false⟩,
 ⟨fun a Z=>aG none (a.get 15) Z,some 16,tT,some 0,false⟩,
 ⟨fun a Z=>aH 3 (a.get 2) Z,some 17,tT,some 0,false⟩,
 ⟨fun a Z=>aG none (a.get 17) Z,some 18,tT,some 0,false⟩,
 ⟨fun a Z=>flenL (a.get 18) Z,some 19,tT,some 0,false⟩,
 ⟨fun a Z=>i_sub Tryz.prog 3 (.tmp 19) (.const (.int .i64 1)) (a.get 19) (.int .i64 1) Z,some 20,tT,some 0,false⟩,
 ⟨fun a Z=>.enter 92 [(a.get 16),(.int .i64 0),(a.get 20)] Z,some 21,tT,none,true⟩,
 ⟨fun a Z=>fun1 Tryz.prog (Op.unary .not) (a.get 21) Z,some 22,tT,some 1,false⟩]
def Asz:List DOp:=NV ()
def Aam(_:Unit):List COp:=[⟨fun a Z=>fbuild (fun i=>nth [(0,1),(1,1),(2,1),(3,1)] i) [(.int .i64 0),(.int .i64 0),(.string ⟨#[]⟩),(.slice none 0 0)] [] Z,some 23,tT⟩,
 ⟨fun a Z=>aK 4 (a.get 4) (a.get 23) Z,none,tT⟩,
 ⟨fun a Z=>.val (.bool false) Z,some 5,tT⟩]
def AsA:List COp:=Aam ()
def TX(_:Unit):List DOp:=[⟨fun a Z=>aH 3 (a.get 2) Z,some 24,tT,some 0,false⟩,
 ⟨fun a Z=>aG none (a.get 24) Z,some 25,tT,some 0,false⟩,
 ⟨fun a Z=>.val (a.get 1) Z,some 26,tT,some 0,false⟩,
 ⟨fun a Z=>.val (a.get 6) Z,some 27,tT,some 0,false⟩,
 ⟨fun a Z=>bH (none,1) (a.get 26) (a.get 27) Z,some 28,tT,some 0,false⟩,
 ⟨fun a Z=>aG none (a.get 28) Z,some 29,tT,some 0,false⟩,
 ⟨fun a Z=>bH (none,4) (a.get 25) (a.get 29) Z,some 30,tT,some 0,false⟩,
 ⟨fun a Z=>aG (some 4) (a.get 30) Z,some 31,tT,some 0,false⟩,
 ⟨fun a Z=>aK 4 (a.get 2) (a.get 31) Z,none,tT,none,true⟩]
def AsB:List DOp:=TX ()
def TW(_:Unit):List COp:=[⟨fun a Z=>.val (a.get 6) Z,some 11,tT⟩,
 ⟨fun a Z=>i_add Tryz.prog 3 (.tmp 11) (.const (.int .i64 1)) (a.get 11) (.int .i64 1) Z,some 12,tT⟩,
 ⟨fun a Z=>.val (a.get 12) Z,some 6,tT⟩]
def Asy:List COp:=TW ()
def I1(E:Env)(ro:Option Nat)(fn:FuncId):aZ:=(aF (aF (aD E ro Asx) (aL (fun a=>(a.get 10)) aU (exitR 0))) (aF (aW 1 (aF (aF (drawR E ro Asz) (aL (fun a=>(a.get 22)) (aF (aD E ro AsA) bM) aU)) (drawR E ro AsB))) (aD E ro Asy)))
def TY(_:Unit):List COp:=[⟨fun a Z=>aG (some 4) (a.get 2) Z,some 32,tT⟩,
 ⟨fun a Z=>aK 4 (a.get 4) (a.get 32) Z,none,tT⟩,
 ⟨fun a Z=>.val (.bool true) Z,some 5,tT⟩]
def AsC:List COp:=TY ()
def AdI(E:Env)(ro:Option Nat)(fn:FuncId):aZ:=(aF (aD E ro Asv) (aF (aF (aD E ro Asw) (aW 0 (loopR (bI nls fn) (I1 E ro fn)))) (aF (aD E ro AsC) bM)))
theorem Xu:aD E ro Asv a u Z=aD E ro (TU ()) a u Z:=rfl
theorem Xv:aD E ro Asw a u Z=aD E ro (TV ()) a u Z:=rfl
theorem HN:aD E ro Asx a u Z=aD E ro (Jj ()) a u Z:=rfl
theorem NW:bB E ro last Asz cl a u Z=bB E ro last (NV ()) cl a u Z:=rfl
theorem AlT:aD E ro AsA a u Z=aD E ro (Aam ()) a u Z:=rfl
theorem Xx:bB E ro last AsB cl a u Z=bB E ro last (TX ()) cl a u Z:=rfl
theorem Xw:aD E ro Asy a u Z=aD E ro (TW ()) a u Z:=rfl
theorem Xy:aD E ro AsC a u Z=aD E ro (TY ()) a u Z:=rfl
theorem AvY(E:Env)(ro:Option Nat)(fn:FuncId):code Tryz.prog nls (Tryz.f32.body.getD .skip) E ro fn=AdI E ro fn:=by kernel_rfl
theorem AcG(E:Env)(args:List Value)(u:Option FrameMode)(Z:aC)(hn:args.length<=(7:Nat)):bA Tryz.prog nls E 32 args u Z=aN Tryz.prog E [.cell 4 24,.tmp 5] (AdI E none 32 ⟨aX undef 7 args,fun _=>undef,7,33,[]⟩ u Z):=by
 rw[Ap (body:=Tryz.f32.body.getD .skip) Tryz.func32 rfl E args u Z 7 33 (by kernel_rfl) rfl ⟨hn,by decide⟩,AvY]
 rfl
def U0(_:Unit):List COp:=[⟨fun a Z=>.val (.bool false) Z,some 6,tT⟩]
def AuT:List COp:=U0 ()
def U1(_:Unit):List COp:=[⟨fun a Z=>.val (a.get 1) Z,some 7,tT⟩,
 ⟨fun a Z=>.val (a.get 0) Z,some 8,tT⟩,
 ⟨fun a Z=>i_leq Tryz.prog 3 (.tmp 7) (.tmp 8) (a.get 7) (a.get 8) Z,some 9,tT⟩,
 ⟨fun a Z=>.val (a.get 9) Z,some 10,tT⟩,
 ⟨fun a Z=>.val (a.get 0) Z,some 11,fun a=>gd (a.get 10) true⟩,
 ⟨fun a Z=>.val (a.get 2) Z,some 12,fun a=>gd (a.get 10) true⟩,
 ⟨fun a Z=>i_leq Tryz.prog 3 (.tmp 11) (.tmp 12) (a.get 11) (a.get 12) Z,some 13,fun a=>gd (a.get 10) true⟩,
 ⟨fun a Z=>bQ (a.get 10) (a.get 13) (.bool false) Z,some 14,tT⟩,
 ⟨fun a Z=>.val (a.get 14) Z,some 6,tT⟩]
def AuU:List COp:=U1 ()
def Aot(E:Env)(ro:Option Nat)(fn:FuncId):aZ:=(aF (aD E ro AuT) (aF (aD E ro AuU) bM))
theorem Yy:aD E ro AuT a u Z=aD E ro (U0 ()) a u Z:=rfl
theorem Yz:aD E ro AuU a u Z=aD E ro (U1 ()) a u Z:=rfl
theorem Aws(E:Env)(ro:Option Nat)(fn:FuncId):code Tryz.prog nls (Tryz.f92.body.getD .skip) E ro fn=Aot E ro fn:=by kernel_rfl
theorem Aqb(E:Env)(args:List Value)(u:Option FrameMode)(Z:aC)(hn:args.length<=(6:Nat)):bA Tryz.prog nls E 92 args u Z=aN Tryz.prog E [.tmp 6] (Aot E none 92 ⟨aX undef 6 args,fun _=>undef,6,15,[]⟩ u Z):=by
 rw[Ap (body:=Tryz.f92.body.getD .skip) Tryz.func92 rfl E args u Z 6 15 (by kernel_rfl) rfl ⟨hn,by decide⟩,Aws]
 rfl
def Oa(_:Unit):List COp:=[⟨fun a Z=>.val (.bool false) Z,some 4,tT⟩]
def Atd:List COp:=Oa ()
def Oc(_:Unit):List COp:=[⟨fun a Z=>.val (a.get 0) Z,some 6,tT⟩,
 ⟨fun a Z=>flenL (a.get 6) Z,some 7,tT⟩,
 ⟨fun a Z=>.val (a.get 1) Z,some 8,tT⟩,
 ⟨fun a Z=>flenL (a.get 8) Z,some 9,tT⟩,
 ⟨fun a Z=>i_neq Tryz.prog 3 (.tmp 7) (.tmp 9) (a.get 7) (a.get 9) Z,some 10,tT⟩]
def Ate:List COp:=Oc ()
def AaF(_:Unit):List COp:=[⟨fun a Z=>.val (.bool false) Z,some 4,tT⟩]
def Atf:List COp:=AaF ()
def Ul(_:Unit):List COp:=[⟨fun a Z=>.val (.int .i64 0) Z,some 5,tT⟩]
def Atg:List COp:=Ul ()
def Jk(_:Unit):List COp:=[⟨fun a Z=>.val (a.get 5) Z,some 11,tT⟩,
 ⟨fun a Z=>.val (a.get 0) Z,some 12,tT⟩,
 ⟨fun a Z=>flenL (a.get 12) Z,some 13,tT⟩,
 ⟨fun a Z=>i_lss Tryz.prog 3 (.tmp 11) (.tmp 13) (a.get 11) (a.get 13) Z,some 14,tT⟩]
def Ath:List COp:=Jk ()
def Oe(_:Unit):List DOp:=[⟨fun a Z=>.val (a.get 0) Z,some 17,tT,some 0,false⟩,
 ⟨fun a Z=>.val (a.get 5) Z,some 18,tT,some 0,false⟩,
 ⟨fun a Z=>bH (none,1) (a.get 17) (a.get 18) Z,some 19,tT,some 0,false⟩,
 ⟨fun a Z=>aG none (a.get 19) Z,some 20,tT,some 0,false⟩,
 ⟨fun a Z=>.val (a.get 1) Z,some 21,tT,some 0,false⟩,
 ⟨fun a Z=>.val (a.get 5) Z,some 22,tT,some 0,false⟩,
 ⟨fun a Z=>bH (none,1) (a.get 21) (a.get 22) Z,some 23,tT,some 0,false⟩,
 ⟨fun a Z=>aG none (a.get 23) Z,some 24,tT,some 0,false⟩,
 ⟨fun a Z=>i_neq Tryz.prog 3 (.tmp 20) (.tmp 24) (a.get 20) (a.get 24) Z,some 25,tT,some 0,false⟩]
def Atj:List DOp:=Oe ()
def AaG(_:Unit):List COp:=[⟨fun a Z=>.val (.bool false) Z,some 4,tT⟩]
def Atk:List COp:=AaG ()
def Um(_:Unit):List COp:=[⟨fun a Z=>.val (a.get 5) Z,some 15,tT⟩,
 ⟨fun a Z=>i_add Tryz.prog 3 (.tmp 15) (.const (.int .i64 1)) (a.get 15) (.int .i64 1) Z,some 16,tT⟩,
 ⟨fun a Z=>.val (a.get 16) Z,some 5,tT⟩]
def Ati:List COp:=Um ()
def Nv(E:Env)(ro:Option Nat)(fn:FuncId):aZ:=(aF (aF (aD E ro Ath) (aL (fun a=>(a.get 14)) aU (exitR 0))) (aF (aW 1 (aF (drawR E ro Atj) (aL (fun a=>(a.get 25)) (aF (aD E ro Atk) bM) aU))) (aD E ro Ati)))
def Un(_:Unit):List COp:=[⟨fun a Z=>.val (.bool true) Z,some 4,tT⟩]
def Atl:List COp:=Un ()
def AdJ(E:Env)(ro:Option Nat)(fn:FuncId):aZ:=(aF (aD E ro Atd) (aF (aF (aD E ro Ate) (aL (fun a=>(a.get 10)) (aF (aD E ro Atf) bM) aU)) (aF (aF (aD E ro Atg) (aW 0 (loopR (bI nls fn) (Nv E ro fn)))) (aF (aD E ro Atl) bM))))
theorem Ob:aD E ro Atd a u Z=aD E ro (Oa ()) a u Z:=rfl
theorem Od:aD E ro Ate a u Z=aD E ro (Oc ()) a u Z:=rfl
theorem Amc:aD E ro Atf a u Z=aD E ro (AaF ()) a u Z:=rfl
theorem XN:aD E ro Atg a u Z=aD E ro (Ul ()) a u Z:=rfl
theorem HO:aD E ro Ath a u Z=aD E ro (Jk ()) a u Z:=rfl
theorem Og:bB E ro last Atj cl a u Z=bB E ro last (Oe ()) cl a u Z:=rfl
theorem Amd:aD E ro Atk a u Z=aD E ro (AaG ()) a u Z:=rfl
theorem XO:aD E ro Ati a u Z=aD E ro (Um ()) a u Z:=rfl
theorem XP:aD E ro Atl a u Z=aD E ro (Un ()) a u Z:=rfl
theorem Av7(E:Env)(ro:Option Nat)(fn:FuncId):code Tryz.prog nls (Tryz.f41.body.getD .skip) E ro fn=AdJ E ro fn:=by kernel_rfl
theorem AcH(E:Env)(args:List Value)(u:Option FrameMode)(Z:aC)(hn:args.length<=(6:Nat)):bA Tryz.prog nls E 41 args u Z=aN Tryz.prog E [.tmp 4] (AdJ E none 41 ⟨aX undef 6 args,fun _=>undef,6,26,[]⟩ u Z):=by
 rw[Ap (body:=Tryz.f41.body.getD .skip) Tryz.func41 rfl E args u Z 6 26 (by kernel_rfl) rfl ⟨hn,by decide⟩,Av7]
 rfl
end Go.Proofs.YtknnbjmcfibpgaaGreatDoor
namespace Go.Proofs.YtknnbjmcfibpgaaGreatDoor
open Go Go.Eng
attribute [local congr] Ab Ah Af Ad Ae
attribute [-go_sem] List.range_succ
abbrev TP:TypeId:=25
theorem Qe:bI nls 31=[32]:=by kernel_rfl
structure HeadPa (bd bo base:Nat) (R:Nat->Prop) (k z:Int) (t:ByteArray) (q:Option Addr) (c:Nat) (ds:List D) (at':List Nat) (atv:Value) (us:List Value) (ps:List (List Nat)) (bT:aC) (i:Nat) (f:Nat->Value) (Z:aC):Prop where
 f1:f 1=atv
 f2:f 2=.pointer (some ⟨bd,0,none⟩)
 f5:Ful TP Z bo (f 5) us
 f6:f 6=.int .i64 (.ofNat i)
 cd:Z.cells bd=some [.int .i64 k,.int .i64 z,.string t,.slice q ds.length c]
 lay:bC R Z q 0 ds
 low:∀b,R b->b<base
 atp:PathV (· < base) Z atv at'
 hbd:base<=bd/\bd≠bo
 hbo:base<=bo
 lst:PathsL (fun b=>base<=b/\b≠bo) Z us ps
 wf:Wf Z
 ext:Ext bT Z
 le:i<=ds.length
 few:ds.length<10000
def PathsAt(m:Nat)(d:D):Prop:=∀(at':List Nat) (v atv:Value) (R Q:Nat->Prop) (Z:aC),Wf Z->aI R Z v d->PathV Q Z atv at'->at'.length+d.deep<1000->(d.pieces at').length<10000->
 Gives ((env m).call 31 [v,atv] none Z) Z fun w V=>∃b us,Z.next<=b/\Ful TP V b w us/\PathsL (fun b=>Z.next<=b) V us ((d.pieces at').map (·.1))
theorem W9(m:Nat){bd bo base:Nat}{R:Nat->Prop}{k z:Int}{t:ByteArray}{q:Option Addr}{c:Nat}{ds:List D}{at':List Nat}{atv:Value}{us:List Value}{ps:List (List Nat)}{bT:aC}{i:Nat}{f:Nat->Value}{Z:aC}(d:D)(hP:PathsAt m d)(h:HeadPa bd bo base R k z t q c ds at' atv us ps bT i f Z)(hb0:bT.next=base)(hd:ds[i]? = some d)(hlen:at'.length+1+d.deep<1000)(hcount:us.length+(d.pieces (at'++[i])).length<10000)(g:Nat->Value):
  ∃f' g' V bo' us',JJ (env m) none 31 (Sl 7 33 f g []) none Z=.done .normal (Sl 7 33 f' g' []) none V/\HeadPa bd bo' base R k z t q c ds at' atv us' (ps++(d.pieces (at'++[i])).map (·.1)) bT (i+1) f' V:=by
 have hi:i<ds.length:=(List.getElem?_eq_some_iff.1 hd).1
 have d1:decide (Int.ofNat i<Int.ofNat ds.length)=true:=by simp;omega
 obtain⟨b,off,cs,rfl,hRb,hcs,hle,hL⟩:=bC.get h.lay hd
 rw[Nat.zero_add] at hle hL
 have w3:=EY i (by have:=h.few;omega)
 have l4:((cs.drop (off+i*4)).take 4).length=4:=by rw[List.length_take,List.length_drop];omega
 have hbase:base<=Z.next:=by have:=h.ext.next;omega
 have F1:Ful TI (Z.push (.cells [] TI) none) Z.next (.slice (some ⟨Z.next,0,none⟩) 0 0) []:=Ful.push TI Z []
 have hw1:=h.wf.push (.cells [] TI) none
 have a1:PathV (· < base) (Z.push (.cells [] TI) none) atv at':=h.atp.keep fun b c hb hc=>⟨by rw[Ac,if_neg (by omega)];exact hc,hb⟩
 obtain⟨b2,s2,a9,e2,F2,hb2,ch2,hw2⟩:=F1.append hw1 atv (intsOf at') 8 a1.fnew (FX _) (by omega) (by simp[Cc];omega)
 have F3:=F2.keep (V:=a9.push (.cells [.int .i64 (.ofNat i)] TI) none) (by rw[Ai,if_neg (by have:=F2.lt hw2;omega)])
 have hw3:=hw2.push (.cells [.int .i64 (.ofNat i)] TI) none
 have c3:(a9.push (.cells [.int .i64 (.ofNat i)] TI) none).cells a9.next=some ([.int .i64 (.ofNat i)]++[]):=by rw[Ac,if_pos rfl];rfl
 obtain⟨b4,s4,bU,e4,F4,hb4,ch4,hw4⟩:=F3.append hw3 (.slice (some ⟨a9.next,0,none⟩) 1 1) [.int .i64 (.ofNat i)] 8 (EH a9.next 1 1 _ [] c3 rfl) rfl (by omega) (by simp[Cc];omega)
 have hb2':Z.next<=b2:=by
  rcases hb2 with rfl|rfl
  .exact Nat.le_refl _
  .rw[Aa];omega
 have hb4':Z.next<=b4:=by
  have:=ch2.next
  rw[Aa] at this
  rcases hb4 with rfl|rfl
  .exact hb2'
  .rw[Aa];omega
 have x4:Ext Z bU:=by
  have c1:=ch2.next
  have c2:=ch4.next
  have k1:=ch2.clock
  have k2:=ch4.clock
  rw[Aa] at c1 c2
  rw[A0] at k1 k2
  refine⟨by omega,by omega,fun x hx=>?_⟩
  rw[ch4.get x (by rw[Aa];omega) (by omega),Ai,if_neg (by omega),ch2.get x (by rw[Aa];omega) (by omega),Ai,if_neg (by omega)]
 have hpath:intsOf at'++[.int .i64 (.ofNat i)]=intsOf (at'++[i]):=by simp[intsOf]
 rw[List.nil_append,hpath] at F4
 have P4:PathV (fun _=>True) bU s4 (at'++[i]):=by
  obtain⟨h1,h2⟩:=F4.cells
  rw[Cc] at h1
  exact .inr ⟨b4,_,[],h1,trivial,by rw[List.append_nil];exact h2⟩
 obtain⟨w5,bV,e5,x5,hw5,b5,us5,_,F5,L5⟩:=hP (at'++[i]) (.agg ((cs.drop (off+i*4)).take 4).toArray) s4 R (fun _=>True) bU hw4 (hL.keep fun b c hb hc=>⟨(x4.cells (h.wf.cells hc)).trans hc,hb⟩) P4 (by rw[List.length_append,List.length_singleton];exact hlen) (by omega)
 have x15:=x4.trans x5
 have n4:=x4.next
 have n5:=x5.next
 have hbon:=h.f5.lt h.wf
 have G5:Ful TP bV bo (f 5) us:=h.f5.keep (x15.get bo hbon)
 obtain⟨hw5v,hc5⟩:=F5.cells
 have l5:=L5.length
 rw[List.length_map] at l5
 obtain⟨b6,s6,bX,e6,F6,hb6,ch6,hw6⟩:=G5.append hw5 w5 us5 24 (by rw[hw5v];exact EH b5 us5.length us5.length us5 [] (by rw[List.append_nil];exact hc5) rfl) L5.all (by omega) (by rw[l5];omega)
 have vd:(view bU Z.clock).cells bd=some [.int .i64 k,.int .i64 z,.string t,.slice (some ⟨b,off,none⟩) ds.length c]:=Eo h.wf (Nat.le_refl _) (x4.get bd (h.wf.cells h.cd)) h.cd
 have vb:(view bU Z.clock).cells b=some cs:=Eo h.wf (Nat.le_refl _) (x4.get b (h.wf.cells hcs)) hcs
 unfold JJ
 simp -implicitDefEqProofs only[go_sem,Kd,K0,Xs,TR,h.f1,h.f2,h.f6,h.cd,d1,e2,e4,vd,vb,hi,hle,e5,e6]
 generalize hg:upd _ 31 _=g1
 clear hg
 simp -implicitDefEqProofs only[go_sem,Xr,TQ,h.f6,w3]
 have c56:∀b c,b≠bo->bV.cells b=some c->bX.cells b=some c:=fun b c hb hc=>(ch6.cells (hw5.cells hc) hb).trans hc
 have c06:∀b c,b≠bo->Z.cells b=some c->bX.cells b=some c:=fun b c hb hc=>c56 b c hb ((x15.cells (h.wf.cells hc)).trans hc)
 have n6:=ch6.next
 have hbo:=h.hbo
 have hb6':base<=b6:=by rcases hb6 with rfl|rfl<;>omega
 have xx:=h.ext.trans x15
 refine⟨_,_,bX,b6,us++us5,rfl,{
  f1:=by simp -implicitDefEqProofs only[go_sem,reduceCtorEq,h.f1]
  f2:=by simp -implicitDefEqProofs only[go_sem,reduceCtorEq,h.f2]
  f5:=by rw[show upd (upd f 5 s6) 6 (Value.int .i64 (.ofNat (i+1))) 5=s6 by simp -implicitDefEqProofs only[go_sem,reduceCtorEq]];exact F6
  f6:=by simp -implicitDefEqProofs only[go_sem,reduceCtorEq]
  cd:=c06 bd _ h.hbd.2 h.cd
  lay:=h.lay.keep fun b c hb hc=>⟨c06 b c (by have:=h.low b hb;omega) hc,hb⟩
  low:=h.low
  atp:=h.atp.keep fun b c hb hc=>⟨c06 b c (by omega) hc,hb⟩
  hbd:=⟨h.hbd.1,by
   have:=h.wf.cells h.cd
   rcases hb6 with rfl|rfl
   .exact h.hbd.2
   .omega⟩
  hbo:=hb6'
  lst:=(h.lst.keep fun b c hb hc=>⟨c06 b c hb.2 hc,hb.1,by
   have:=h.wf.cells hc
   rcases hb6 with rfl|rfl
   .exact hb.2
   .omega⟩).append (L5.keep fun b c hb hc=>⟨c56 b c (by omega) hc,by omega,by
   have:=hw5.cells hc
   rcases hb6 with rfl|rfl
   .omega
   .omega⟩)
  wf:=hw6
  ext:=⟨by have:=xx.next;omega,by have:=xx.clock;have:=ch6.clock;omega,fun x hx=>(ch6.get x (by have:=xx.next;omega) (by omega)).trans (xx.get x hx)⟩
  le:=hi
  few:=h.few }⟩
theorem ZT(m:Nat){bd base:Nat}{R:Nat->Prop}{k z:Int}{t:ByteArray}{q:Option Addr}{c:Nat}{ds:List D}{at':List Nat}{atv:Value}{bT:aC}(total:List (List Nat))(hP:∀d∈ds,PathsAt m d)(hb0:bT.next=base)(hdeep:∀d∈ds,at'.length+1+d.deep<1000)(hcount:total.length<10000):
  ∀(j fuel i:Nat) (bo:Nat) (us:List Value) (ps:List (List Nat)) (f g:Nat->Value) (Z:aC),i+j=ds.length->j<fuel->ps++(D.piecesL at' i (ds.drop i)).map (·.1)=total->HeadPa bd bo base R k z t q c ds at' atv us ps bT i f Z->
  ∃f' g' V bo' us',floop [32] (JJ (env m) none 31) fuel (Sl 7 33 f g []) none Z=.done (.exit 0) (Sl 7 33 f' g' []) none V/\HeadPa bd bo' base R k z t q c ds at' atv us' total bT ds.length f' V:=by
 intro j
 induction j with
 | zero=>
  intro fuel i bo us ps f g Z hij hf ht h
  obtain⟨fuel,rfl⟩:∃q,fuel=q+1:=⟨fuel-1,by omega⟩
  obtain rfl:i=ds.length:=by omega
  rw[List.drop_length,D.piecesL,List.map_nil,List.append_nil] at ht
  subst ht
  have d1:decide (Int.ofNat ds.length<Int.ofNat ds.length)=false:=by simp
  rw[Am,AL]
  unfold JJ
  simp -implicitDefEqProofs only[go_sem,Kd,K0,h.f2,h.f6,h.cd,d1]
  exact⟨_,_,_,bo,us,rfl,h⟩
 | succ j ih=>
  intro fuel i bo us ps f g Z hij hf ht h
  obtain⟨fuel,rfl⟩:∃q,fuel=q+1:=⟨fuel-1,by omega⟩
  have hi:i<ds.length:=by omega
  have hd:ds[i]? = some ds[i]:=List.getElem?_eq_getElem hi
  have hdr:ds.drop i=ds[i]::ds.drop (i+1):=List.drop_eq_getElem_cons hi
  rw[hdr,D.piecesL,List.map_append] at ht
  have hcl:us.length+(ds[i].pieces (at'++[i])).length<10000:=by
   have:=congrArg List.length ht
   simp only[List.length_append,List.length_map] at this
   have:=h.lst.length
   omega
  obtain⟨f1,g1,a_,bo1,us1,e1,h1⟩:=W9 m ds[i] (hP _ (List.getElem_mem _)) h hb0 hd (hdeep _ (List.getElem_mem _)) hcl (kept [32] g)
  rw[Am,AL,e1,Aw]
  exact ih fuel (i+1) bo1 us1 _ f1 g1 a_ (by omega) (by omega) (by rw[List.append_assoc];exact ht) h1
theorem Ek:∀ {ds:List D} {d:D},d∈ds->d.deep<=D.deeps ds
 | x::ds,d,h=>by
  rw[D.deeps]
  rcases List.mem_cons.1 h with rfl|h
  .omega
  .have:=Ek h;omega
theorem Gb:∀(ds:List D) (at':List Nat) (i:Nat),ds.length<=(D.piecesL at' i ds).length
 | [],_,_=>Nat.zero_le _
 | d::ds,at',i=>by
  rw[D.piecesL,List.length_append,D.pieces_eq,List.length_cons,List.length_cons]
  have:=Gb ds at' (i+1)
  omega
theorem ZU(m:Nat)(d:D)(hP:∀d'∈d.parts,PathsAt m d'):PathsAt (m+1) d:=by
 intro at' v atv R Q Z hw hL hA hdeep hcount
 obtain⟨k,z,t,ds⟩:=d
 obtain⟨q,c,rfl,hE⟩:=hL
 have hpc:=D.pieces_eq at' (.mk k z t ds)
 rw[Ak _ 31 _ _ rfl,AcF _ _ _ _ (by simp),Aj]
 unfold AdH
 have x1:Ext Z ((Z.push (.cells [.int .i64 k,.int .i64 z,.string t,.slice q ds.length c] TD) none).push (.cells [] TI) none):=((Ext.refl _).push _ _).push _ _
 have hw1:=(hw.push (.cells [.int .i64 k,.int .i64 z,.string t,.slice q ds.length c] TD) none).push (.cells [] TI) none
 have F1:Ful TI ((Z.push (.cells [.int .i64 k,.int .i64 z,.string t,.slice q ds.length c] TD) none).push (.cells [] TI) none) (Z.next+1) (.slice (some ⟨Z.next+1,0,none⟩) 0 0) []:=Ful.push TI _ []
 have c1:((Z.push (.cells [.int .i64 k,.int .i64 z,.string t,.slice q ds.length c] TD) none).push (.cells [] TI) none).cells Z.next=some [.int .i64 k,.int .i64 z,.string t,.slice q ds.length c]:=by rw[Ac,if_neg (by rw[Aa];omega),Ac,if_pos rfl];rfl
 have n1:((Z.push (.cells [.int .i64 k,.int .i64 z,.string t,.slice q ds.length c] TD) none).push (.cells [] TI) none).next=Z.next+2:=rfl
 have a1:PathV (fun _=>True) ((Z.push (.cells [.int .i64 k,.int .i64 z,.string t,.slice q ds.length c] TD) none).push (.cells [] TI) none) atv at':=hA.keep fun b c hb hc=>⟨(x1.cells (hw.cells hc)).trans hc,trivial⟩
 have lenat:at'.length<1000:=by omega
 obtain⟨b2,s2,a9,e2,F2,hb2,ch2,hw2⟩:=F1.append hw1 atv (intsOf at') 8 a1.fnew (FX _) (by omega) (by simp[Cc];omega)
 simp -implicitDefEqProofs only[go_sem,Xo,TK,Xp,TM,Xq,TN,e2,F2.one.2.1,F2.one.2.2,Qe]
 generalize hff:upd _ 6 _=f1
 generalize hgg:upd _ 10 _=g1
 generalize hbf:bG=fuel
 have hb2':Z.next<=b2:=by
  rcases hb2 with rfl|rfl
  .omega
  .rw[n1];omega
 rw[List.nil_append] at F2
 have F3:Ful TP (a9.push (.cells [s2] TP) none) a9.next (.slice (some ⟨a9.next,0,none⟩) 1 1) [s2]:=Ful.push TP a9 [s2]
 have hw3:=hw2.push (.cells [s2] TP) none
 have x2:Ext Z a9:=⟨by have:=ch2.next;omega,by have:=ch2.clock;have:=x1.clock;omega,fun x hx=>(ch2.get x (by omega) (by omega)).trans (x1.get x hx)⟩
 have x3:Ext Z (a9.push (.cells [s2] TP) none):=x2.push _ _
 have n2:=ch2.next
 have c3:(a9.push (.cells [s2] TP) none).cells Z.next=some [.int .i64 k,.int .i64 z,.string t,.slice q ds.length c]:=by
  rw[Ac,if_neg (by omega)]
  exact(ch2.cells (by omega) (by omega)).trans c1
 have P2:PathV (fun b=>Z.next<=b/\b≠a9.next) (a9.push (.cells [s2] TP) none) s2 at':=by
  obtain⟨h1,h2⟩:=F2.cells
  have:=F2.lt hw2
  rw[Cc] at h1
  exact .inr ⟨b2,_,[],h1,⟨hb2',by omega⟩,by rw[Ac,if_neg (by omega),List.append_nil];exact h2⟩
 have hfew:ds.length<10000:=by
  have h1:=congrArg List.length hpc
  have h2:=Gb ds at' 0
  rw[List.length_cons] at h1
  simp only[D.parts] at h1
  omega
 have hdp:(D.mk k z t ds).deep=D.deeps ds+1:=by rw[D.deep]
 obtain⟨f2,g2,bU,bo,us,e4,h4⟩:=ZT m (ds:=ds) (bd:=Z.next) (base:=Z.next) (R:=fun b=>R b/\b<Z.next) (atv:=atv) (bT:=Z) (((D.mk k z t ds).pieces at').map (·.1)) (fun d' hd=>hP d' hd) rfl (fun d hd=>by have:=Ek hd;omega) (by rw[List.length_map];exact hcount) ds.length fuel 0 a9.next [s2] [at'] f1 g1 (a9.push (.cells [s2] TP) none) (by omega) (by rw[<-hbf];show ds.length<1000000000000;omega) (by rw[hpc];rfl) {
  f1:=by rw[<-hff];simp -implicitDefEqProofs only[go_sem,reduceCtorEq]
  f2:=by rw[<-hff];simp -implicitDefEqProofs only[go_sem,reduceCtorEq]
  f5:=by rw[show f1 5=.slice (some ⟨a9.next,0,none⟩) 1 1 by rw[<-hff];simp -implicitDefEqProofs only[go_sem,reduceCtorEq]];exact F3
  f6:=by rw[<-hff];simp -implicitDefEqProofs only[go_sem,reduceCtorEq]<;>rfl
  cd:=c3
  lay:=hE.keep fun b c hb hc=>⟨(x3.cells (hw.cells hc)).trans hc,hb,hw.cells hc⟩
  low:=fun b hb=>hb.2
  atp:=hA.keep fun b c hb hc=>⟨(x3.cells (hw.cells hc)).trans hc,hw.cells hc⟩
  hbd:=⟨Nat.le_refl _,by omega⟩
  hbo:=by omega
  lst:=⟨P2,trivial⟩
  wf:=hw3
  ext:=x3
  le:=Nat.zero_le _
  few:=hfew }
 rw[e4]
 simp -implicitDefEqProofs only[go_sem,Xt,TT]
 exact⟨_,_,rfl,h4.ext,h4.wf,bo,us,h4.hbo,h4.f5,h4.lst.keep fun b c hb hc=>⟨hc,hb.1⟩⟩
theorem W8(n:Nat):∀(L:Nat) (d:D),d.deep<=L->PathsAt (n+L) d
 | 0,d,h=>by cases d;rw[D.deep] at h;omega
 | L+1,d,h=>ZU (n+L) d fun d' hd=>W8 n L d' (by
  obtain⟨k,z,t,ds⟩:=d
  rw[D.deep] at h
  have:=Ek hd
  simp only[D.parts] at this
  omega)
end Go.Proofs.YtknnbjmcfibpgaaGreatDoor
namespace Go.Proofs.YtknnbjmcfibpgaaGreatDoor
open Go Go.Eng
attribute [local congr] Ab Ah Af Ad Ae
attribute [-go_sem] List.range_succ
theorem Pq(n:Nat)(g:Value)(lv:List Value)(Z:aC)(hw:Wf Z)(hg:aP g=true):
  ∃V,(env (n+1)).call 111 [.agg #[g],.agg lv.toArray] none Z=.ret (.func (.func 137) #[] #[.pointer (some ⟨Z.next+1,0,none⟩),.pointer (some ⟨Z.next,0,none⟩)]) none V/\Ext Z V/\Wf V/\V.next=Z.next+2/\V.cells Z.next=some [g]/\V.cells (Z.next+1)=some lv:=by
 rw[Ak _ 111 _ _ rfl,Ag1 _ _ _ _ (by simp),Aj]
 unfold Ab1
 simp -implicitDefEqProofs only[go_sem,Ae4,Sf,Ae5,Sg]
 exact⟨_,rfl,((Ext.refl _).push _ _).push _ _,(hw.push _ _).push _ _,rfl,by rw[Ac,if_neg (by rw[Aa];omega),Ac,if_pos rfl];rfl,by rw[Ac,if_pos (by rw[Aa])];rfl⟩
theorem Agz(n:Nat)(s:Value)(Z:aC):(env (n+1)).call 141 [s] none Z=.ret (.bool true) none Z:=by
 rw[Ak _ 141 _ _ rfl,Ag9 _ _ _ _ (by simp),Aj]
 unfold Ab9
 simp -implicitDefEqProofs only[go_sem,Afo,SE,Afp,SF]
theorem AoN(n:Nat)(lv:List Value)(h4:lv.length=4)(Z:aC)(hw:Wf Z):
  ∃V b1 b2,(env (n+2)).call 113 [.agg lv.toArray] none Z=.ret (.func (.func 137) #[] #[.pointer (some ⟨b1,0,none⟩),.pointer (some ⟨b2,0,none⟩)]) none V/\Ext Z V/\Wf V/\Z.next<=b1/\Z.next<=b2/\V.cells b2=some [.func (.func 141) #[] #[]]/\V.cells b1=some lv:=by
 have hw1:=hw.push (.cells lv TD) none
 obtain⟨a9,e2,x2,hw2,_,c1,c2⟩:=Pq n (.func (.func 141) #[] #[]) lv (Z.push (.cells lv TD) none) hw1 (Ej _ _ _)
 rw[Ak _ 113 _ _ rfl,Ag2 _ _ _ _ (by simp),Aj]
 unfold Ab2
 have ht:lv.take 4=lv:=List.take_of_length_le (by omega)
 simp -implicitDefEqProofs only[go_sem,Ae6,Sh,Ae7,Si,Ej,Fc,h4,ht,e2,Nat.le_refl]
 exact⟨_,_,_,rfl,((Ext.refl _).push _ _).trans x2,hw2,by omega,by omega,c1,c2⟩
theorem O6(m:Nat)(fn:FuncId)(params:List Tmp)(assign body:Code)(nl nt:Nat)(f g:Nat->Value)(ds:List Deferred)(u:Option FrameMode)(t b1 b2:Nat)(Z:aC)(w:Value)(R:Nat->Prop)(d:D)(lv:List Value)(I:List (List Nat×D)->(Nat->Prop)->aC->Prop)(B:Nat->Prop)(hB:Body (env m) (Z.next+1) R w I (d.pieces []))(hS:Small (d.pieces []))(hN:(d.pieces []).length<100000000000)(hl:∀done B V,I done B V->LoopAt fn params assign body nl nt f g (Z.next+1) Z.next .ready V/\∃ver,V.heap.get Z.next=some ⟨.defd true,false,none,ver⟩)(hi:I [] B ((Z.push (.defd true) none).push (.loop .ready none fn ((List.range nl).map f) g nl nt params assign body Z.next) none))(ht:(Sl nl nt f g ds).get t=.func (.func 137) #[] #[.pointer (some ⟨b1,0,none⟩),.pointer (some ⟨b2,0,none⟩)])(hw:Wf Z)(hcv:Z.cells b1=some lv)(hb1:¬ B b1)(hL:aI R Z (.agg lv.toArray) d)(hR:∀b,R b->b<Z.next)(hcw:Z.cells b2=some [w])(hb2:¬ B b2):
  ∃V B',frange (env (m+1)) none fn (.tmp t) params assign body (Sl nl nt f g ds) u Z=
    .done .normal (Sl nl nt f g ({ target:=.collected Z.next,args:=#[] }::ds)) u (V.put (Z.next+1) (.loop .exhausted none fn ((List.range nl).map f) g nl nt params assign body Z.next) none)/\
   Chg B Z V/\Z.next+2<=V.next/\(∀b,B' b->B b\/Z.next<=b)/\Wf V/\I (d.pieces []) B' V:=by
 rw[Qc _ _ _ _ _ _ _ _ _ _ _ _ t _ _ _ ht]
 have x1:Ext Z ((Z.push (.defd true) none).push (.loop .ready none fn ((List.range nl).map f) g nl nt params assign body Z.next) none):=((Ext.refl _).push _ _).push _ _
 have hw1:=(hw.push (.defd true) none).push (.loop .ready none fn ((List.range nl).map f) g nl nt params assign body Z.next) none
 have hn1:((Z.push (.defd true) none).push (.loop .ready none fn ((List.range nl).map f) g nl nt params assign body Z.next) none).next=Z.next+2:=rfl
 generalize aC.push _ (.loop .ready none fn ((List.range nl).map f) g nl nt params assign body Z.next) none=a_ at hi x1 hw1 hn1 ⊢
 have hb1n:=hw.cells hcv
 have hb2n:=hw.cells hcw
 obtain⟨a9,B2,e2,ch2,hB2,hw2,i2⟩:=AxH d hB hS hN b1 b2 a_ _ lv B hw1 hi ((x1.cells hb1n).trans hcv) rfl hb1 (hL.keep fun b cs hb hc=>⟨(x1.cells (hw.cells hc)).trans hc,hb⟩) (fun b hb=>by have:=hR b hb;omega) ((x1.cells hb2n).trans hcw) hb2
 have hargs:(#[]:Array Value).toList++[Value.func (.yield (Z.next+1)) #[] #[]]++(#[.pointer (some ⟨b1,0,none⟩),.pointer (some ⟨b2,0,none⟩)]:Array Value).toList=[.func (.yield (Z.next+1)) #[] #[],.pointer (some ⟨b1,0,none⟩),.pointer (some ⟨b2,0,none⟩)]:=rfl
 rw[hargs,e2,RY _ _ _ _ _ _ _ _ _ _ _ _ _ _ _ _ (hl _ _ _ i2).1]
 have n2:=ch2.next
 refine⟨a9,B2,rfl,⟨by omega,Nat.le_trans x1.clock ch2.clock,fun b hb h0=>(ch2.get b (by omega) h0).trans (x1.get b hb)⟩,by omega,fun b hb=>?_,hw2,i2⟩
 rcases hB2 b hb with h|h
 .exact .inl h
 .exact .inr (by omega)
def longest(l:List (List Nat×D)):Nat:=l.foldl (fun m x=>max m (x.1.length+1)) 0
def DeepI(l r cm:Nat)(f g:Nat->Value)(done:List (List Nat×D))(B:Nat->Prop)(Z:aC):Prop:=
 (∀b,B b↔b=l\/b=r\/b=cm)/\l<Z.next/\r<Z.next/\cm<Z.next/\LoopAt 65 [7,8] AvM AvN 5 15 f g l r .ready Z/\(∃ver,Z.heap.get r=some ⟨.defd true,false,none,ver⟩)/\
  ∃ver,Z.heap.get cm=some ⟨.cells [.int .i64 (.ofNat (longest done))] TI,false,none,ver⟩
end Go.Proofs.YtknnbjmcfibpgaaGreatDoor
namespace Go.Proofs.YtknnbjmcfibpgaaGreatDoor
open Go Go.Eng
attribute [local congr] Ab Ah Af Ad Ae
attribute [-go_sem] List.range_succ
def AllGood(m:Nat)(all:List (List Nat×D)):Prop:=∀path k z t ds,(path,D.mk k z t ds)∈all->∃k':Nat,k=(k':Int)/\Good m k' z t ds.length
def ValidI(l r cb mp:Nat)(f g:Nat->Value)(done:List (List Nat×D))(B:Nat->Prop)(Z:aC):Prop:=
 (∀b,B b↔b=l\/b=r\/b=cb)/\l<Z.next/\r<Z.next/\cb<Z.next/\LoopAt 64 [12,13] DE DF 6 25 f g l r .ready Z/\(∃ver,Z.heap.get r=some ⟨.defd true,false,none,ver⟩)/\
  (∃ver,Z.heap.get cb=some ⟨.cells [.int .i64 (.ofNat done.length),.map (some mp)] 130,false,none,ver⟩)/\done.length<=2000
theorem Acu(m l r cb mp:Nat)(R:Nat->Prop)(f g:Nat->Value)(all:List (List Nat×D))(hne:cb<r/\r<l)(h3:f 3=.pointer (some ⟨cb,0,none⟩))(hR:∀b,R b->b<cb)(hG:AllGood m all)(hN:all.length<=2000):
  Body (env (m+3)) l R (.func (.func 110) #[.pointer (some ⟨cb,0,none⟩)] #[]) (ValidI l r cb mp f g) all where
 stays:=fun done B Z V ⟨h1,h2,h3,h4,h5,⟨v6,h6⟩,⟨v7,h7⟩,h8⟩ hw hC=>by
  have k:∀b,B b->b<Z.next->V.heap.get b=Z.heap.get b:=fun b hb hn=>hC.get b hn fun h=>h.1 hb
  have hn:=hC.next
  exact⟨h1,by omega,by omega,by omega,h5.keep (k l ((h1 l).2 (.inl rfl)) h2),⟨v6,(k r ((h1 r).2 (.inr (.inl rfl))) h3).trans h6⟩,⟨v7,(k cb ((h1 cb).2 (.inr (.inr rfl))) h4).trans h7⟩,h8⟩
 own:=fun done B Z ⟨h1,h2,h3,h4,_⟩ b hb=>by
  rcases (h1 b).1 hb with rfl|rfl|rfl
  .exact⟨h2,fun h=>by have:=hR _ h;omega⟩
  .exact⟨h3,fun h=>by have:=hR _ h;omega⟩
  .exact⟨h4,fun h=>by have:=hR _ h;omega⟩
 inside:=fun done B Z k z t p ln c ⟨h1,h2,h3,h4,h5,h6,⟨v7,h7⟩,h8⟩ hw=>by
  refine KD (m+2) _ 110 #[.pointer (some ⟨cb,0,none⟩)] rfl k z t (.slice p ln c) (Az _ _ _) Z hw fun V hx hw'=>?_
  have hc:=Ar ((hx.get cb h4).trans h7)
  exact⟨_,V,V0 (m+1) cb (Int.ofNat done.length) (by rw[Int.ofNat_eq_natCast];omega) p ln c V _ hc,Ext.refl _,hw',rfl⟩
 go:=fun done path d rest B Z pv v hall hw ⟨h1,h2,h4,h5,h6,⟨v6,h7⟩,⟨v7,h8⟩,h9⟩ _ hL=>by
  have hlen:done.length+1<=2000:=by have:=congrArg List.length hall;simp at this;omega
  obtain⟨k,z,t,ps⟩:=d
  obtain⟨k',rfl,hGd⟩:=hG path k z t ps (by rw[hall];simp)
  obtain⟨p,c,rfl,hq⟩:=hL
  rw[Kl _ _ _ _ _ _ _ _ _ (m+2) l r _ h6 rfl,Kt]
  simp -implicitDefEqProofs only[go_sem,Av,Ox,Ow,List.zip_cons_cons,List.zip_nil_right,Gc,G8]
  have x1:Ext Z ((Z.push (.cells [.int .i64 0,.int .i64 0,.string ⟨#[]⟩,.slice none 0 0] TD) none).put Z.next (.cells [.int .i64 (k':Int),.int .i64 z,.string t,.slice p ps.length c] TD) none):=((Ext.refl _).push _ _).put _ _ _ (Nat.le_refl _)
  have hw1:=(hw.push (.cells [.int .i64 0,.int .i64 0,.string ⟨#[]⟩,.slice none 0 0] TD) none).put Z.next (.cells [.int .i64 (k':Int),.int .i64 z,.string t,.slice p ps.length c] TD) none (Nat.lt_succ_self _)
  have b1:((Z.push (.cells [.int .i64 0,.int .i64 0,.string ⟨#[]⟩,.slice none 0 0] TD) none).put Z.next (.cells [.int .i64 (k':Int),.int .i64 z,.string t,.slice p ps.length c] TD) none).cells Z.next=some [.int .i64 (k':Int),.int .i64 z,.string t,.slice p ps.length c]:=by rw[Al,if_pos rfl];rfl
  have n1:((Z.push (.cells [.int .i64 0,.int .i64 0,.string ⟨#[]⟩,.slice none 0 0] TD) none).put Z.next (.cells [.int .i64 (k':Int),.int .i64 z,.string t,.slice p ps.length c] TD) none).next=Z.next+1:=rfl
  generalize aC.put _ _ _ _=a_ at x1 hw1 b1 n1 ⊢
  have l1:=h6.keep (x1.get l h2)
  rw[E6 _ _ _ _ _ _ _ _ _ l r _ l1,Ku]
  have hw2:=hw1.put l (.loop .busy none 64 ((List.range 6).map f) g 6 25 [12,13] DE DF r) none (by omega)
  have l2:LoopAt 64 [12,13] DE DF 6 25 f g l r .busy (a_.put l (.loop .busy none 64 ((List.range 6).map f) g 6 25 [12,13] DE DF r) none):=LoopAt.put _ _ _ _ _ _ _ _ _ _ _ _
  have b2:(a_.put l (.loop .busy none 64 ((List.range 6).map f) g 6 25 [12,13] DE DF r) none).cells Z.next=some [.int .i64 (k':Int),.int .i64 z,.string t,.slice p ps.length c]:=by rw[Al,if_neg (by omega)];exact b1
  have g2:(a_.put l (.loop .busy none 64 ((List.range 6).map f) g 6 25 [12,13] DE DF r) none).heap.get cb=some ⟨.cells [.int .i64 (.ofNat done.length),.map (some mp)] 130,false,none,v7⟩:=by rw[Ao,if_neg (by omega)];exact(x1.get cb h5).trans h8
  have r2:(a_.put l (.loop .busy none 64 ((List.range 6).map f) g 6 25 [12,13] DE DF r) none).heap.get r=some ⟨.defd true,false,none,v6⟩:=by rw[Ao,if_neg (by omega)];exact(x1.get r h4).trans h7
  have hC2:Chg B Z (a_.put l (.loop .busy none 64 ((List.range 6).map f) g 6 25 [12,13] DE DF r) none):=(x1.chg B).put _ _ _ (.inr ((h1 l).2 (.inl rfl)))
  have n2:(a_.put l (.loop .busy none 64 ((List.range 6).map f) g 6 25 [12,13] DE DF r) none).next=Z.next+1:=n1
  generalize aC.put _ l _ _=a9 at hw2 l2 b2 g2 r2 hC2 n2 ⊢
  obtain⟨_,bS,e3,x3,hw3,rfl⟩:=Nt m k' z t p ps.length c hGd a9 hw2
  have n3:=x3.next
  have g3:bS.heap.get cb=some ⟨.cells [.int .i64 (.ofNat done.length),.map (some mp)] 130,false,none,v7⟩:=(x3.get cb (by omega)).trans g2
  have c3:=Ar g3
  have w1:=EY done.length (by omega)
  simp -implicitDefEqProofs only[go_sem,Oz,Oy,Ya,UA,h3,b2,e3,c3,g3,w1,Nat.le_refl]
  have l3:=(l2.keep (x3.get l (by omega)))
  have l4:∀o:FObj,LoopAt 64 [12,13] DE DF 6 25 f g l r .busy (bS.put cb o none):=fun o=>l3.keep (by rw[Ao,if_neg (by omega)])
  rw[F8 _ _ _ _ _ _ _ _ _ _ l r _ _ (l4 _)]
  refine⟨B,_,rfl,(hw3.put _ _ _ (by omega)).put _ _ _ (by rw[Aq];omega),((hC2.trans (x3.chg B) (fun b _ h=>h)).put _ _ _ (.inr ((h1 cb).2 (.inr (.inr rfl))))).put _ _ _ (.inr ((h1 l).2 (.inl rfl))),fun b hb=>.inl hb,h1,?_,?_,?_,LoopAt.put _ _ _ _ _ _ _ _ _ _ _ _,⟨v6,?_⟩,⟨bS.clock,?_⟩,by simp;omega⟩
  .rw[Aq,Aq];omega
  .rw[Aq,Aq];omega
  .rw[Aq,Aq];omega
  .rw[Ao,if_neg (by omega),Ao,if_neg (by omega),x3.get r (by omega)];exact r2
  .rw[Ao,if_neg (by omega),Ao,if_pos rfl,List.length_append,List.length_singleton]
theorem YZ(m:Nat)(d:D)(lv:List Value)(h4:lv.length=4)(R:Nat->Prop)(Z:aC)(hw:Wf Z)(hL:aI R Z (.agg lv.toArray) d)(hR:∀b,R b->b<Z.next)(hS:Small (d.pieces []))(hN:(d.pieces []).length<=2000)(hG:AllGood m (d.pieces [])):
  Gives ((env (m+5)).call 64 [.agg lv.toArray] none Z) Z fun w _=>w=.int .i64 (.ofNat (d.pieces []).length):=by
 rw[Ak _ 64 _ _ rfl,AcI _ _ _ _ (by simp),Aj]
 unfold AdK
 have ht:lv.take 4=lv:=List.take_of_length_le (by omega)
 simp -implicitDefEqProofs only[go_sem,Av,XZ,Ux,X0,Uy,JO,Kq,Ls]
 generalize hff:upd _ 3 _=f1
 generalize hg0:upd _ 7 _=g0
 have q1:f1 1=.pointer (some ⟨Z.next,0,none⟩):=by rw[<-hff];simp -implicitDefEqProofs only[go_sem,reduceCtorEq]
 have q3:f1 3=.pointer (some ⟨Z.next+2,0,none⟩):=by rw[<-hff];simp -implicitDefEqProofs only[go_sem,reduceCtorEq]
 clear hff hg0
 have x1:Ext Z ((((Z.push (.cells lv TD) none).push (.map [] 0) none).push (.cells [.int .i64 0,.map none] 130) none).put (Z.next+2) (.cells [.int .i64 0,.map (some (Z.next+1))] 130) none):=((((Ext.refl _).push _ _).push _ _).push _ _).put _ _ _ (by omega)
 have hw1:=(((hw.push (.cells lv TD) none).push (.map [] 0) none).push (.cells [.int .i64 0,.map none] 130) none).put (Z.next+2) (.cells [.int .i64 0,.map (some (Z.next+1))] 130) none (Nat.lt_succ_self _)
 have g1:((((Z.push (.cells lv TD) none).push (.map [] 0) none).push (.cells [.int .i64 0,.map none] 130) none).put (Z.next+2) (.cells [.int .i64 0,.map (some (Z.next+1))] 130) none).heap.get (Z.next+2)=some ⟨.cells [.int .i64 0,.map (some (Z.next+1))] 130,false,none,Z.clock+3⟩:=by rw[Ao,if_pos rfl];rfl
 have c1:((((Z.push (.cells lv TD) none).push (.map [] 0) none).push (.cells [.int .i64 0,.map none] 130) none).put (Z.next+2) (.cells [.int .i64 0,.map (some (Z.next+1))] 130) none).cells Z.next=some lv:=by
  rw[Al,if_neg (by omega),Ac,if_neg (by simp only[Aa];omega),Ac,if_neg (by simp only[Aa];omega),Ac,if_pos rfl];rfl
 have n1:((((Z.push (.cells lv TD) none).push (.map [] 0) none).push (.cells [.int .i64 0,.map none] 130) none).put (Z.next+2) (.cells [.int .i64 0,.map (some (Z.next+1))] 130) none).next=Z.next+3:=rfl
 generalize aC.put _ _ _ _=a_ at x1 hw1 g1 c1 n1 ⊢
 obtain⟨a9,e2,x2,hw2,n2,cb2,cb1⟩:=Pq (m+3) (.func (.func 110) #[.pointer (some ⟨Z.next+2,0,none⟩)] #[]) lv a_ hw1 (Ej _ _ _)
 simp -implicitDefEqProofs only[go_sem,X_,Uz,q1,q3,c1,h4,ht,e2,Nat.le_refl,Ej,Fc]
 generalize hgg:upd _ 11 _=gg
 have hL2:aI R a9 (.agg lv.toArray) d:=hL.keep fun b cs hb hc=>⟨((x1.trans x2).cells (hw.cells hc)).trans hc,hb⟩
 have hcm2:a9.heap.get (Z.next+2)=some ⟨.cells [.int .i64 0,.map (some (Z.next+1))] 130,false,none,Z.clock+3⟩:=(x2.get _ (by omega)).trans g1
 obtain⟨bS,B3,e3,ch3,n3,hB3,hw3,i3⟩:=O6 (m+3) 64 [12,13] DE DF 6 25 f1 gg [] none 11 (a_.next+1) a_.next a9 (.func (.func 110) #[.pointer (some ⟨Z.next+2,0,none⟩)] #[]) R d lv (ValidI (a9.next+1) a9.next (Z.next+2) (Z.next+1) f1 gg) (fun b=>b=a9.next+1\/b=a9.next\/b=Z.next+2)
  (Acu m (a9.next+1) a9.next (Z.next+2) (Z.next+1) R f1 gg _ ⟨by omega,by omega⟩ q3 (fun b hb=>by have:=hR b hb;omega) hG hN) hS (by omega)
  (fun done B V ⟨_,_,_,_,h5,h6,_⟩=>⟨h5,h6⟩)
  ⟨fun b=>Iff.rfl,by rw[Aa,Aa];omega,by rw[Aa,Aa];omega,by rw[Aa,Aa];omega,KJ ..,⟨_,by rw[Ai,if_neg (by rw[Aa];omega),Ai,if_pos rfl]⟩,⟨_,by rw[Ai,if_neg (by rw[Aa];omega),Ai,if_neg (by omega)];exact hcm2⟩,by simp⟩
  (by rw[Rj,<-hgg];simp -implicitDefEqProofs only[go_sem,reduceCtorEq]) hw2 cb1 (fun h=>by rcases h with h|h|h<;>omega) hL2 (fun b hb=>by have:=hR b hb;omega) cb2 (fun h=>by rcases h with h|h|h<;>omega)
 rw[e3]
 obtain⟨h1,h2,h4',h5,h6,⟨v6,h7⟩,⟨v7,h8⟩,h9⟩:=i3
 have hcm:=Ar h8
 have hputc:∀(o:FObj),(bS.put (a9.next+1) o none).cells (Z.next+2)=some [.int .i64 (.ofNat (d.pieces []).length),.map (some (Z.next+1))]:=fun o=>by rw[Al,if_neg (by omega)];exact hcm
 have hcol:∀(o:FObj),(bS.put (a9.next+1) o none).heap.get a9.next=some ⟨.defd true,false,none,v6⟩:=fun o=>by rw[Ao,if_neg (by omega)];exact h7
 have hlim:=fun τ=>WQ (m+3) (.ofNat (d.pieces []).length) (by rw[Int.ofNat_eq_natCast];omega) τ
 simp -implicitDefEqProofs only[go_sem,AmT,Abe,AmU,Abf,q3,hputc,hlim]
 rw[Gu _ _ _ _ _ _ _ _ _ _ (hcol _)]
 simp -implicitDefEqProofs only[go_sem]
 have x3:Ext Z bS:=⟨by omega,by have:=x1.clock;have:=x2.clock;have:=ch3.clock;omega,fun b hb=>(ch3.get b (by omega) (fun h=>by rcases h with h|h|h<;>omega)).trans ((x1.trans x2).get b hb)⟩
 exact⟨_,_,rfl,(x3.put _ _ _ (by omega)).put _ _ _ (by omega),(hw3.put _ _ _ (by omega)).put _ _ _ (by rw[Aq];omega),rfl⟩
end Go.Proofs.YtknnbjmcfibpgaaGreatDoor
namespace Go.Eng
mutual
def D.count:D->Nat
 | .mk _ _ _ ds=>D.counts ds+1
def D.counts:List D->Nat
 | []=>0
 | d::ds=>D.count d+D.counts ds
end
end Go.Eng
namespace Go.Proofs.YtknnbjmcfibpgaaGreatDoor
open Go Go.Eng
mutual
theorem Dw:∀(d:D) (path:List Nat),(d.pieces path).length=d.count
 | .mk k z t ds,path=>by rw[D.pieces,List.length_cons,FZ ds path 0,D.count]
theorem FZ:∀(ds:List D) (path:List Nat) (i:Nat),(D.piecesL path i ds).length=D.counts ds
 | [],path,i=>rfl
 | d::ds,path,i=>by rw[D.piecesL,List.length_append,Dw d (path++[i]),FZ ds path (i+1),D.counts]
end
theorem Aey(f:List Nat×D->Nat)(l:List (List Nat×D)):∀m,l.foldl (fun m x=>max m (f x)) m=max m (l.foldl (fun m x=>max m (f x)) 0):=by
 induction l with
 | nil=>intro m;simp
 | cons x l ih=>intro m;simp only[List.foldl_cons];rw[ih (max m (f x)),ih (max 0 (f x))];omega
theorem ET(a b:List (List Nat×D)):longest (a++b)=max (longest a) (longest b):=by
 unfold longest
 rw[List.foldl_append,Aey (fun x=>x.1.length+1)]
theorem Fv(x:List Nat×D)(l:List (List Nat×D)):longest (x::l)=max (x.1.length+1) (longest l):=by
 have:=ET [x] l
 rw[List.singleton_append] at this
 rw[this]
 simp[longest]
mutual
theorem EU:∀(d:D) (path:List Nat),longest (d.pieces path)=path.length+d.deep
 | .mk k z t ds,path=>by
  rw[D.pieces,Fv,D.deep]
  have:=Hr ds path 0
  simp only
  omega
theorem Hr:∀(ds:List D) (path:List Nat) (i:Nat),max (path.length+1) (longest (D.piecesL path i ds))=path.length+1+D.deeps ds
 | [],path,i=>by simp[D.piecesL,longest,D.deeps]
 | d::ds,path,i=>by
  rw[D.piecesL,ET,D.deeps]
  have h1:=EU d (path++[i])
  have h2:=Hr ds path (i+1)
  rw[List.length_append,List.length_singleton] at h1
  have h3:1<=d.deep:=by cases d;rw[D.deep];omega
  omega
end
def GoodD(m:Nat)(d:D):Prop:=∀k z t ds,d=D.mk k z t ds->∃k':Nat,k=(k':Int)/\Good m k' z t ds.length
def most:Nat->Nat
 | 0=>1
 | L+1=>3*most L+1
theorem AhG(L:Nat):1<=most L:=by cases L<;>simp[most]
def Fine(m L:Nat)(d:D):Prop:=∀path,(d.pieces path).length<=most L/\∀x∈d.pieces path,x.1.length<=path.length+L/\x.2.parts.length<=3/\GoodD m x.2
theorem ArQ{m L:Nat}(path:List Nat):∀(ds:List D) (i:Nat),(∀d∈ds,Fine m L d)->(D.piecesL path i ds).length<=ds.length*most L/\∀x∈D.piecesL path i ds,x.1.length<=path.length+(L+1)/\x.2.parts.length<=3/\GoodD m x.2
 | [],i,_=>⟨by simp[D.piecesL],fun x hx=>by simp[D.piecesL] at hx⟩
 | d::ds,i,h=>by
  obtain⟨h1,h2⟩:=h d List.mem_cons_self (path++[i])
  obtain⟨h3,h4⟩:=ArQ path ds (i+1) fun d' hd=>h d' (List.mem_cons_of_mem _ hd)
  refine⟨?_,fun x hx=>?_⟩
  .rw[D.piecesL,List.length_append,List.length_cons,Nat.add_mul]
   omega
  .rw[D.piecesL,List.mem_append] at hx
   rcases hx with hx|hx
   .have:=h2 x hx
    rw[List.length_append,List.length_singleton] at this
    exact⟨by omega,this.2⟩
   .exact h4 x hx
theorem AcQ{m L:Nat}{k z:Int}{t:ByteArray}{ds:List D}(hl:ds.length<=3)(hg:GoodD m (.mk k z t ds))(h:∀d∈ds,Fine m L d):Fine m (L+1) (.mk k z t ds):=fun path=>by
 obtain⟨h1,h2⟩:=ArQ path ds 0 h
 rw[D.pieces]
 refine⟨?_,fun x hx=>?_⟩
 .rw[List.length_cons,most]
  have:=Nat.mul_le_mul_right (most L) hl
  omega
 .rcases List.mem_cons.1 hx with rfl|hx
  .exact⟨by simp,hl,hg⟩
  .exact h2 x hx
theorem Aeu{m L:Nat}{k z:Int}{t:ByteArray}(hg:GoodD m (.mk k z t [])):Fine m L (.mk k z t []):=fun path=>by
 rw[D.pieces,D.piecesL]
 refine⟨by have:=AhG L;simp;omega,fun x hx=>?_⟩
 rcases List.mem_cons.1 hx with rfl|hx
 .exact⟨by simp,by simp[D.parts],hg⟩
 .simp at hx
theorem AeL(n:Nat){L:Nat}{d:D}(h:Made L d):Fine (n+20) L d:=by
 induction h with
 | leaf L d h=>
  obtain⟨k,z,t,l⟩:=d
  obtain⟨k',rfl,hg,rfl⟩:=AeJ n h
  exact Aeu fun k z t ds e=>by cases e;exact⟨k',rfl,hg⟩
 | pair L a b ha hb iha ihb=>
  refine AcQ (by simp) (fun k z t ds e=>?_) fun d hd=>?_
  .cases e
   exact⟨5,rfl,.pair⟩
  .simp only[List.mem_cons,List.not_mem_nil,or_false] at hd
   rcases hd with rfl|rfl
   .exact iha
   .exact ihb
 | vec L l hl h ih=>
  refine AcQ hl (fun k z t ds e=>?_) fun d hd=>ih d hd
  cases e
  exact⟨6,rfl,.vec _⟩
theorem Fine.small{m L:Nat}{d:D}(h:Fine m L d)(hL:L<=6):Small (d.pieces []):=fun x hx=>by
 have:=(h []).2 x hx
 rw[List.length_nil] at this
 exact⟨by omega,by omega⟩
theorem Fine.good{m L:Nat}{d:D}(h:Fine m L d):AllGood m (d.pieces []):=fun path k z t ds hx=>((h []).2 _ hx).2.2 k z t ds rfl
theorem Aqr{L:Nat}(h:L<=6):most L<=1093:=by
 obtain rfl|rfl|rfl|rfl|rfl|rfl|rfl:L=0\/L=1\/L=2\/L=3\/L=4\/L=5\/L=6:=by omega
 all_goals decide
theorem Fine.few{m L:Nat}{d:D}(h:Fine m L d)(hL:L<=6):(d.pieces []).length<=1093:=Nat.le_trans (h []).1 (Aqr hL)
theorem Fine.part{m L:Nat}{k z:Int}{t:ByteArray}{ds:List D}{d:D}(h:Made L (.mk k z t ds))(hd:d∈ds):Made (L-1) d:=by
 cases h with
 | leaf L d h=>cases h<;>simp at hd
 | pair L a b ha hb=>
  simp only[List.mem_cons,List.not_mem_nil,or_false] at hd
  rcases hd with rfl|rfl
  .exact ha
  .exact hb
 | vec L l hl h=>exact h d hd
end Go.Proofs.YtknnbjmcfibpgaaGreatDoor
namespace Go.Proofs.YtknnbjmcfibpgaaGreatDoor
open Go Go.Eng
attribute [local congr] Ab Ah Af Ad Ae
attribute [-go_sem] List.range_succ
theorem AcU:bI nls 41=[]:=by kernel_rfl
theorem Fk{Q:Nat->Prop}{Z:aC}{v:Value}{p:List Nat}(h:PathV Q Z v p):∃a cx,v=.slice a p.length cx/\(p≠[]->∃b rest,a=some ⟨b,0,none⟩/\Q b/\Z.cells b=some (intsOf p++rest)):=by
 rcases h with⟨rfl,rfl⟩|⟨b,cx,rest,rfl,hQ,hc⟩
 .exact⟨none,0,rfl,fun h=>absurd rfl h⟩
 .exact⟨_,cx,rfl,fun _=>⟨b,rest,rfl,hQ,hc⟩⟩
theorem FY{p:List Nat}{i:Nat}(rest:List Value)(h:i<p.length):(intsOf p++rest)[i]? = some (.int .i64 (.ofNat p[i])):=by
 rw[List.getElem?_append_left (by rw[Cc];exact h),intsOf,List.getElem?_map,List.getElem?_eq_getElem h];rfl
structure HeadEi (v w:Value) (i:Nat) (f:Nat->Value):Prop where
 f0:f 0=v
 f1:f 1=w
 f5:f 5=.int .i64 (.ofNat i)
theorem V4(E:Env){p p':List Nat}(hlen:p.length=p'.length){a a':Option Addr}{cx cx':Nat}{Z:aC}(hw:Wf Z)(hs:p.length<100000)(h1:p≠[]->∃b rest,a=some ⟨b,0,none⟩/\Z.cells b=some (intsOf p++rest))(h2:p'≠[]->∃b rest,a'=some ⟨b,0,none⟩/\Z.cells b=some (intsOf p'++rest)):
  ∀(j fuel i:Nat) (f g:Nat->Value),i+j=p.length->j<fuel->HeadEi (.slice a p.length cx) (.slice a' p'.length cx') i f->
  ∃e f' g',floop [] (Nv E none 41) fuel (Sl 6 26 f g []) none Z=.done e (Sl 6 26 f' g' []) none Z/\(if p.drop i=p'.drop i then e=.exit 0 else e=.ret/\f' 4=.bool false):=by
 intro j
 induction j with
 | zero=>
  intro fuel i f g hij hf h
  obtain⟨fuel,rfl⟩:∃q,fuel=q+1:=⟨fuel-1,by omega⟩
  obtain rfl:i=p.length:=by omega
  have d1:decide (Int.ofNat p.length<Int.ofNat p.length)=false:=by simp
  rw[Am,AL]
  unfold Nv
  simp -implicitDefEqProofs only[go_sem,HO,Jk,h.f0,h.f5,d1]
  refine⟨_,_,_,rfl,?_⟩
  rw[List.drop_length,hlen,List.drop_length,if_pos rfl]
 | succ j ih=>
  intro fuel i f g hij hf h
  obtain⟨fuel,rfl⟩:∃q,fuel=q+1:=⟨fuel-1,by omega⟩
  have hi:i<p.length:=by omega
  have hi':i<p'.length:=by omega
  have d1:decide (Int.ofNat i<Int.ofNat p.length)=true:=by simp;omega
  obtain⟨b,rest,rfl,hc⟩:=h1 (fun h=>by rw[h] at hi;simp at hi)
  obtain⟨b',rest',rfl,hc'⟩:=h2 (fun h=>by rw[h] at hi';simp at hi')
  have hv:=Ce hw (Nat.le_refl _)
  have g1:=FY rest hi
  have g2:=FY rest' hi'
  have w3:=EY i (by omega)
  have hdr:p.drop i=p[i]::p.drop (i+1):=List.drop_eq_getElem_cons hi
  have hdr':p'.drop i=p'[i]::p'.drop (i+1):=List.drop_eq_getElem_cons hi'
  rw[Am,AL]
  unfold Nv
  cases e:(Int.ofNat p[i]==Int.ofNat p'[i]) with
  | false=>
   simp -implicitDefEqProofs only[go_sem,HO,Jk,Og,Oe,Amd,AaG,h.f0,h.f1,h.f5,d1,hi,hi',hv,hc,hc',g1,g2,e]
   refine⟨_,_,_,rfl,?_⟩
   rw[hdr,hdr',if_neg (fun h=>by
    have:=(List.cons.inj h).1
    rw[this] at e
    simp at e)]
   exact⟨rfl,by simp -implicitDefEqProofs only[go_sem,reduceCtorEq]⟩
  | true=>
   simp -implicitDefEqProofs only[go_sem,HO,Jk,Og,Oe,XO,Um,h.f0,h.f1,h.f5,d1,hi,hi',hv,hc,hc',g1,g2,e,w3]
   obtain⟨e',f',g',e1,h3⟩:=ih fuel (i+1) (upd f 5 (.int .i64 (.ofNat (i+1)))) _ (by omega) (by omega) {
    f0:=by simp -implicitDefEqProofs only[go_sem,reduceCtorEq,h.f0]
    f1:=by simp -implicitDefEqProofs only[go_sem,reduceCtorEq,h.f1]
    f5:=by simp -implicitDefEqProofs only[go_sem,reduceCtorEq] }
   refine⟨e',f',g',e1,?_⟩
   have hpe:p[i]=p'[i]:=Int.ofNat.inj (eq_of_beq e)
   rw[hdr,hdr',hpe]
   by_cases hh:p.drop (i+1)=p'.drop (i+1)
   .rw[if_pos hh] at h3
    rw[hh,if_pos rfl];exact h3
   .rw[if_neg hh] at h3
    rw[if_neg (fun h=>hh (List.cons.inj h).2)];exact h3
theorem Ael(n:Nat){Q Q':Nat->Prop}{v w:Value}{p p':List Nat}{Z:aC}(hw:Wf Z)(hs:p.length<100000)(h1:PathV Q Z v p)(h2:PathV Q' Z w p'):
  (env (n+1)).call 41 [v,w] none Z=.ret (.bool (decide (p=p'))) none Z:=by
 obtain⟨a,cx,rfl,k1⟩:=Fk h1
 obtain⟨a',cx',rfl,k2⟩:=Fk h2
 rw[Ak _ 41 _ _ rfl,AcH _ _ _ _ (by simp),Aj]
 unfold AdJ
 cases e:(Int.ofNat p.length==Int.ofNat p'.length) with
 | false=>
  simp -implicitDefEqProofs only[go_sem,Ob,Oa,Od,Oc,Amc,AaF,e]
  rw[decide_eq_false (fun h=>by rw[h] at e;simp at e)]
 | true=>
  have hl:p.length=p'.length:=Int.ofNat.inj (eq_of_beq e)
  simp -implicitDefEqProofs only[go_sem,Ob,Oa,Od,Oc,XN,Ul,e,AcU]
  generalize hff:upd _ 5 _=f1
  generalize hgg:upd _ 10 _=g1
  generalize hbf:bG=fuel
  obtain⟨e',f',g',e1,h3⟩:=V4 (env n) hl hw hs (fun h=>by obtain⟨b,r,x,_,y⟩:=k1 h;exact⟨b,r,x,y⟩) (fun h=>by obtain⟨b,r,x,_,y⟩:=k2 h;exact⟨b,r,x,y⟩) (cx:=cx) (cx':=cx') p.length fuel 0 f1 g1 (by omega) (by rw[<-hbf];show p.length<1000000000000;omega) {
   f0:=by rw[<-hff];simp -implicitDefEqProofs only[go_sem,reduceCtorEq]
   f1:=by rw[<-hff];simp -implicitDefEqProofs only[go_sem,reduceCtorEq]
   f5:=by rw[<-hff];simp -implicitDefEqProofs only[go_sem,reduceCtorEq]<;>rfl }
  rw[e1]
  rw[List.drop_zero,List.drop_zero] at h3
  by_cases hp:p=p'
  .rw[if_pos hp] at h3
   subst h3
   simp -implicitDefEqProofs only[go_sem,XP,Un]
   rw[decide_eq_true hp]
  .rw[if_neg hp] at h3
   obtain⟨rfl,h4⟩:=h3
   simp -implicitDefEqProofs only[go_sem,h4]
   rw[decide_eq_false hp]
theorem Bn(n:Nat)(x y z:Int)(Z:aC):(env (n+1)).call 92 [.int .i64 x,.int .i64 y,.int .i64 z] none Z=.ret (.bool (decide (y<=x)&&decide (x<=z))) none Z:=by
 rw[Ak _ 92 _ _ rfl,Aqb _ _ _ _ (by simp),Aj]
 unfold Aot
 cases e:decide (y<=x) with
 | false=>simp -implicitDefEqProofs only[go_sem,Yy,U0,Yz,U1,e,Bool.false_and]
 | true=>simp -implicitDefEqProofs only[go_sem,Yy,U0,Yz,U1,e,Bool.true_and]
theorem WI:bI nls 32=[32]:=by kernel_rfl
def atP:List Nat->D->Option D
 | [],d=>some d
 | i::p,d=>match d.parts[i]? with
  | some d'=>atP p d'
  | none=>none
theorem AvG(n:Nat)(h:1<=n)(h2:n<1000000000):wrapI (Int.ofNat n-1)=Int.ofNat (n-1):=by
 rw[Dt (by simp only[Int.ofNat_eq_natCast];omega)]
 simp only[Int.ofNat_eq_natCast]
 omega
theorem D3:∀ds:List D,ds.length<=D.counts ds
 | []=>Nat.zero_le _
 | .mk _ _ _ l::ds=>by rw[List.length_cons,D.counts,D.count];have:=D3 ds;omega
theorem Ev:∀ {ds:List D} {d:D},d∈ds->d.count<=D.counts ds
 | x::ds,d,h=>by
  rw[D.counts]
  rcases List.mem_cons.1 h with rfl|h
  .omega
  .have:=Ev h;omega
structure HeadPt (b2 b4:Nat) (pv:Value) (R:Nat->Prop) (k z:Int) (t:ByteArray) (q:Option Addr) (c:Nat) (ds:List D) (i:Nat) (f:Nat->Value) (Z:aC):Prop where
 f1:f 1=pv
 f2:f 2=.pointer (some ⟨b2,0,none⟩)
 f4:f 4=.pointer (some ⟨b4,0,none⟩)
 f6:f 6=.int .i64 (.ofNat i)
 cd:∃fz ver,Z.heap.get b2=some ⟨.cells [.int .i64 k,.int .i64 z,.string t,.slice q ds.length c] TD,false,fz,ver⟩
 lay:bC R Z q 0 ds
 wf:Wf Z
theorem AeT(m:Nat){b2 b4:Nat}{a:Option Addr}{cx:Nat}{path:List Nat}{R:Nat->Prop}(hs:path.length<100000)(hR:∀b,R b->b≠b2)(x:D):
  ∀(j fuel i:Nat) (f g:Nat->Value) (Z:aC) (k z:Int) (t:ByteArray) (q:Option Addr) (c:Nat) (ds:List D),i+j=path.length->j<fuel->atP (path.drop i) (.mk k z t ds)=some x->(D.mk k z t ds).count<100000->
   (path≠[]->∃b rest,a=some ⟨b,0,none⟩/\b≠b2/\Z.cells b=some (intsOf path++rest))->HeadPt b2 b4 (.slice a path.length cx) R k z t q c ds i f Z->
  ∃f' g' V k z t q c ds,floop [32] (I1 (env (m+1)) none 32) fuel (Sl 7 33 f g []) none Z=.done (.exit 0) (Sl 7 33 f' g' []) none V/\HeadPt b2 b4 (.slice a path.length cx) R k z t q c ds path.length f' V/\x=.mk k z t ds/\Chg (· = b2) Z V:=by
 intro j
 induction j with
 | zero=>
  intro fuel i f g Z k z t q c ds hij hf hx _ hp h
  obtain⟨fuel,rfl⟩:∃q,fuel=q+1:=⟨fuel-1,by omega⟩
  obtain rfl:i=path.length:=by omega
  rw[List.drop_length,atP] at hx
  have d1:decide (Int.ofNat path.length<Int.ofNat path.length)=false:=by simp
  rw[Am,AL]
  unfold I1
  simp -implicitDefEqProofs only[go_sem,HN,Jj,h.f1,h.f6,d1]
  exact⟨_,_,_,k,z,t,q,c,ds,rfl,h,(Option.some.inj hx).symm,Chg.refl _ _⟩
 | succ j ih=>
  intro fuel i f g Z k z t q c ds hij hf hx hN hp h
  obtain⟨fuel,rfl⟩:∃q,fuel=q+1:=⟨fuel-1,by omega⟩
  have hi:i<path.length:=by omega
  have d1:decide (Int.ofNat i<Int.ofNat path.length)=true:=by simp;omega
  obtain⟨b,rest,rfl,hb,hc⟩:=hp (fun h=>by rw[h] at hi;simp at hi)
  have hv:=Ce h.wf (Nat.le_refl _)
  have g1:=FY rest hi
  have w3:=EY i (by omega)
  have hdr:path.drop i=path[i]::path.drop (i+1):=List.drop_eq_getElem_cons hi
  rw[hdr,atP] at hx
  simp only[D.parts] at hx
  cases hd:ds[path[i]]? with
  | none=>rw[hd] at hx;cases hx
  | some d=>
   rw[hd] at hx
   simp only at hx
   have hpi:=(List.getElem?_eq_some_iff.1 hd).1
   obtain⟨b',off,cs,rfl,hRb,hcs,hle,hL⟩:=bC.get h.lay hd
   rw[Nat.zero_add] at hle hL
   obtain⟨fz,ver,hg2⟩:=h.cd
   have c2:=Ar hg2
   have l4:((cs.drop (off+path[i]*4)).take 4).length=4:=by rw[List.length_take,List.length_drop];omega
   have hL':=hL
   obtain⟨k',z',t',ds'⟩:=d
   obtain⟨q',c',hv4,hE'⟩:=hL
   have hv4':(cs.drop (off+path[i]*4)).take 4=[.int .i64 k',.int .i64 z',.string t',.slice q' ds'.length c']:=by
    have:=Value.agg.inj hv4
    simpa using congrArg Array.toList this
   have hfew:ds.length<100000:=by have:=D3 ds;rw[D.count] at hN;omega
   have e0:decide ((0:Int)<=Int.ofNat path[i])=true:=by simp
   have e1:decide (Int.ofNat path[i]<=Int.ofNat (ds.length-1))=true:=by simp;omega
   have w4:=AvG ds.length (by omega) (by omega)
   have hb2:=h.wf.cells c2
   rw[Am,AL]
   unfold I1
   simp -implicitDefEqProofs only[go_sem,Av,HN,Jj,NW,NV,Xx,TX,Xw,TW,h.f1,h.f2,h.f6,d1,hi,hv,hc,c2,g1,hg2,Bn,w3,w4,e0,e1,hpi,hcs,hle,hv4']
   have hC:Chg (· = b2) Z (Z.put b2 (.cells [.int .i64 k',.int .i64 z',.string t',.slice q' ds'.length c'] TD) fz):=(Chg.refl (· = b2) Z).put _ _ _ (.inr rfl)
   obtain⟨f',g',V,k1,z1,t1,q1,c1,ds1,e2,h2,h3,h4⟩:=ih fuel (i+1) (upd f 6 (.int .i64 (.ofNat (i+1)))) _ (Z.put b2 (.cells [.int .i64 k',.int .i64 z',.string t',.slice q' ds'.length c'] TD) fz) k' z' t' q' c' ds' (by omega) (by omega) hx (by have:=Ev (List.mem_of_getElem? hd);rw[D.count] at hN;omega) (fun hne=>⟨b,rest,rfl,hb,by rw[Al,if_neg hb];exact hc⟩) {
    f1:=by simp -implicitDefEqProofs only[go_sem,reduceCtorEq,h.f1]
    f2:=by simp -implicitDefEqProofs only[go_sem,reduceCtorEq,h.f2]
    f4:=by simp -implicitDefEqProofs only[go_sem,reduceCtorEq,h.f4]
    f6:=by simp -implicitDefEqProofs only[go_sem,reduceCtorEq]
    cd:=⟨fz,_,by rw[Ao,if_pos rfl]⟩
    lay:=hE'.keep fun b cs hb hc=>⟨by rw[Al,if_neg (hR b hb)];exact hc,hb⟩
    wf:=h.wf.put _ _ _ hb2 }
   exact⟨f',g',V,k1,z1,t1,q1,c1,ds1,e2,h2,h3,hC.trans h4 fun _ _ h=>h⟩
theorem AcZ(m:Nat){d x:D}{path:List Nat}{lv:List Value}{pv:Value}{R Q:Nat->Prop}{Z:aC}(hw:Wf Z)(hL:aI R Z (.agg lv.toArray) d)(hP:PathV Q Z pv path)(hs:path.length<100000)(hN:d.count<100000)(hx:atP path d=some x):
  Gives ((env (m+2)).call 32 [.agg lv.toArray,pv] none Z) Z fun w V=>∃u,w=.tuple #[u,.bool true]/\aI (fun b=>R b/\b<Z.next) V u x:=by
 obtain⟨a,cx,rfl,k1⟩:=Fk hP
 obtain⟨k,z,t,ds⟩:=d
 obtain⟨q,c,hv,hE⟩:=hL
 have hlv:lv=[.int .i64 k,.int .i64 z,.string t,.slice q ds.length c]:=by
  have:=Value.agg.inj hv
  simpa using congrArg Array.toList this
 subst hlv
 rw[Ak _ 32 _ _ rfl,AcG _ _ _ _ (by simp),Aj]
 unfold AdI
 have x1:Ext Z ((Z.push (.cells [.int .i64 k,.int .i64 z,.string t,.slice q ds.length c] TD) none).push (.cells [.int .i64 0,.int .i64 0,.string ⟨#[]⟩,.slice none 0 0] TD) none):=((Ext.refl _).push _ _).push _ _
 have hw1:=(hw.push (.cells [.int .i64 k,.int .i64 z,.string t,.slice q ds.length c] TD) none).push (.cells [.int .i64 0,.int .i64 0,.string ⟨#[]⟩,.slice none 0 0] TD) none
 have c1:((Z.push (.cells [.int .i64 k,.int .i64 z,.string t,.slice q ds.length c] TD) none).push (.cells [.int .i64 0,.int .i64 0,.string ⟨#[]⟩,.slice none 0 0] TD) none).heap.get Z.next=some ⟨.cells [.int .i64 k,.int .i64 z,.string t,.slice q ds.length c] TD,false,none,Z.clock⟩:=by rw[Ai,if_neg (by rw[Aa];omega),Ai,if_pos rfl]
 have g4:((Z.push (.cells [.int .i64 k,.int .i64 z,.string t,.slice q ds.length c] TD) none).push (.cells [.int .i64 0,.int .i64 0,.string ⟨#[]⟩,.slice none 0 0] TD) none).heap.get (Z.next+1)=some ⟨.cells [.int .i64 0,.int .i64 0,.string ⟨#[]⟩,.slice none 0 0] TD,false,none,Z.clock+1⟩:=by rw[Ai,if_pos (by rw[Aa])];rfl
 simp -implicitDefEqProofs only[go_sem,Xu,TU,Xv,TV,WI]
 generalize hff:upd _ 6 _=f1
 generalize hbf:bG=fuel
 generalize aC.push (aC.push Z _ _) _ _=a_ at x1 hw1 c1 g4 ⊢
 obtain⟨f2,g2,a9,k2,z2,t2,q2,c2,ds2,e2,h2,rfl,h4⟩:=AeT m (b2:=Z.next) (b4:=Z.next+1) (R:=fun b=>R b/\b<Z.next) (path:=path) (cx:=cx) (a:=a) hs (fun b hb=>by omega) x path.length fuel 0 f1 (fun _=>undef) a_ k z t q c ds (by omega) (by rw[<-hbf];show path.length<1000000000000;omega) hx hN (fun hne=>by
   obtain⟨b,rest,h1,_,h3⟩:=k1 hne
   have:=hw.cells h3
   exact⟨b,rest,h1,by omega,(x1.cells this).trans h3⟩) {
  f1:=by rw[<-hff];simp -implicitDefEqProofs only[go_sem,reduceCtorEq]
  f2:=by rw[<-hff];simp -implicitDefEqProofs only[go_sem,reduceCtorEq]
  f4:=by rw[<-hff];simp -implicitDefEqProofs only[go_sem,reduceCtorEq]
  f6:=by rw[<-hff];simp -implicitDefEqProofs only[go_sem,reduceCtorEq]<;>rfl
  cd:=⟨_,_,c1⟩
  lay:=hE.keep fun b c hb hc=>⟨(x1.cells (hw.cells hc)).trans hc,hb,hw.cells hc⟩
  wf:=hw1 }
 have n1:=x1.next
 have hn1:Z.next+1<a_.next:=(hw1 _ _ g4).1
 have g4':a9.heap.get (Z.next+1)=_:=(h4.get (Z.next+1) hn1 (by omega)).trans g4
 obtain⟨fz,ver,hg2⟩:=h2.cd
 have cc:=Ar hg2
 rw[e2]
 simp -implicitDefEqProofs only[go_sem,Av,Xy,TY,h2.f2,h2.f4,cc,g4',AP,AA,Ay,AO,Bj,Bm]
 have x2:Ext Z a9:=⟨by have:=h4.next;omega,by have:=x1.clock;have:=h4.clock;omega,fun b hb=>(h4.get b (by omega) (by omega)).trans (x1.get b hb)⟩
 exact⟨_,_,rfl,x2.put _ _ _ (by omega),h2.wf.put _ _ _ (by have:=h4.next;omega),_,rfl,q2,c2,rfl,h2.lay.keep fun b c hb hc=>⟨by rw[Al,if_neg (by omega)];exact hc,hb⟩⟩
end Go.Proofs.YtknnbjmcfibpgaaGreatDoor
namespace Go.Eng
open Go
theorem Ew{α β:Type}{P:Program}(s:Sem α)(f:α->Sem β):prun P (s >>= f)=(match prun P s with|some (.ok v)=>prun P (f v)|some (.error e)=>some (.error e)|none=>none):=by
 induction s with
 | pure a=>rfl
 | program k ih=>exact ih P
 | mark m k ih=>exact ih
 | halt x=>cases x<;>rfl
 | _=>rfl
theorem H9{α:Type}{P:Program}(a:α):prun P (pure a:Sem α)=some (.ok a):=rfl
theorem JT{P:Program}:prun P program=some (.ok P):=rfl
theorem Fq{P:Program}{t:TypeId}{d:TypeDesc}(h:P.underlying t=some d):prun P (underlying t)=some (.ok d):=by
 unfold underlying
 simp only[Ew,JT,h]
 rfl
theorem Gy{P:Program}(d:Nat)(t:TypeId)(k k':IntKind)(a b:Int)(h:P.underlying t=some (.int k')):prun P (Op.equalIn (d+1) t (.int k a) (.int k b))=some (.ok (a==b)):=by
 simp only[Op.equalIn,Ew,Fq h,if_true,H9]
theorem Ft{P:Program}(d:Nat)(t:TypeId)(a b:ByteArray)(h:P.underlying t=some .string):prun P (Op.equalIn (d+1) t (.string a) (.string b))=some (.ok (a.toList==b.toList)):=by
 simp only[Op.equalIn,Ew,Fq h,H9,beq_toListBytes]
theorem IX{P:Program}(d:Nat)(t:TypeId)(xs ys:Array Value)(ht:P.underlying t=some (.struct (P.fieldsOf t)))(hp:P.stoodInHeld t=false):
  prun P (Op.equalIn (d+1) t (.agg xs) (.agg ys))=prun P (Op.eqFields d xs ys (P.fieldsOf t).toList):=by
 simp only[Op.equalIn,Ew,Fq ht,JT,hp,Bool.false_eq_true,if_false]
 rw[<-Array.forIn_toList]
 generalize (P.fieldsOf t).toList=fs
 clear ht
 induction fs with
 | nil=>rfl
 | cons f fs ih=>
  simp only[List.forIn_cons,Op.eqFields,Ew]
  by_cases hn:f.name ≠ "_"
  .rw[if_pos hn,if_pos hn]
   simp only[Ew]
   cases prun P (part f.type xs f.offset) with
   | none=>rfl
   | some r1=>
    cases r1 with
    | error e=>rfl
    | ok a=>
     simp only
     cases prun P (part f.type ys f.offset) with
     | none=>rfl
     | some r2=>
      cases r2 with
      | error e=>rfl
      | ok b=>
       simp only
       cases prun P (Op.equalIn d f.type a b) with
       | none=>rfl
       | some r3=>
        cases r3 with
        | error e=>rfl
        | ok r=>
         cases r
         .rfl
         .exact ih
  .rw[if_neg hn,if_neg hn]
   exact ih
end Go.Eng
namespace Go.Proofs.YtknnbjmcfibpgaaGreatDoor
open Go Go.Eng
variable (E:Env) (ro:Option Nat) (last:List Nat->aZ) (cl:List Nat) (a:aV) (u:Option FrameMode) (Z:aC)
def Uf(_:Unit):List COp:=[⟨fun a Z=>fbox 24 (a.get 0) Z,some 2,tT⟩,
 ⟨fun a Z=>fbox 24 (a.get 1) Z,some 3,tT⟩,
 ⟨fun a Z=>.val (.slice none 0 0) Z,some 4,tT⟩,
 ⟨fun a Z=>.val (.int .i64 0) Z,some 5,tT⟩]
def AsZ:List COp:=Uf ()
def Ug(_:Unit):List COp:=[⟨fun a Z=>.val (.func (.func 98) #[] #[(a.get 2),(a.get 3)]) Z,some 6,tT⟩,
 ⟨fun a Z=>.enter 97 [(a.get 6)] Z,some 7,tT⟩,
 ⟨fun a Z=>aO 0 (a.get 7) Z,some 8,tT⟩,
 ⟨fun a Z=>aO 1 (a.get 7) Z,some 9,tT⟩,
 ⟨fun a Z=>.val (a.get 8) Z,some 4,tT⟩,
 ⟨fun a Z=>.val (a.get 9) Z,some 5,tT⟩]
def As0:List COp:=Ug ()
def Aob(E:Env)(ro:Option Nat)(fn:FuncId):aZ:=(aF (aD E ro AsZ) (aF (aD E ro As0) bM))
theorem XH:aD E ro AsZ a u Z=aD E ro (Uf ()) a u Z:=rfl
theorem XI:aD E ro As0 a u Z=aD E ro (Ug ()) a u Z:=rfl
theorem Av4(E:Env)(ro:Option Nat)(fn:FuncId):code Tryz.prog nls (Tryz.f38.body.getD .skip) E ro fn=Aob E ro fn:=by kernel_rfl
theorem ApT(E:Env)(args:List Value)(u:Option FrameMode)(Z:aC)(hn:args.length<=(4:Nat)):bA Tryz.prog nls E 38 args u Z=aN Tryz.prog E [.tmp 4,.tmp 5] (Aob E none 38 ⟨aX undef 4 args,fun _=>undef,4,10,[]⟩ u Z):=by
 rw[Ap (body:=Tryz.f38.body.getD .skip) Tryz.func38 rfl E args u Z 4 10 (by kernel_rfl) rfl ⟨hn,by decide⟩,Av4]
 rfl
def O0(_:Unit):List COp:=[⟨fun a Z=>.val (.slice none 0 0) Z,some 2,tT⟩]
def Avt:List COp:=O0 ()
def O2(_:Unit):List COp:=[⟨fun a Z=>aG (some 4) (a.get 0) Z,some 3,tT⟩,
 ⟨fun a Z=>.enter 64 [(a.get 3)] Z,some 4,tT⟩]
def Avu:List COp:=O2 ()
def O4(_:Unit):List COp:=[⟨fun a Z=>aG (some 4) (a.get 1) Z,some 5,tT⟩,
 ⟨fun a Z=>.enter 64 [(a.get 5)] Z,some 6,tT⟩]
def Avv:List COp:=O4 ()
def Vb(_:Unit):List COp:=[⟨fun a Z=>aG (some 4) (a.get 0) Z,some 7,tT⟩,
 ⟨fun a Z=>aG (some 4) (a.get 1) Z,some 8,tT⟩,
 ⟨fun a Z=>.enter 99 [(a.get 7),(a.get 8)] Z,some 9,tT⟩,
 ⟨fun a Z=>.val (a.get 9) Z,some 2,tT⟩]
def Avw:List COp:=Vb ()
def Aov(E:Env)(ro:Option Nat)(fn:FuncId):aZ:=(aF (aD E ro Avt) (aF (aD E ro Avu) (aF (aD E ro Avv) (aF (aD E ro Avw) bM))))
theorem O1:aD E ro Avt a u Z=aD E ro (O0 ()) a u Z:=rfl
theorem O3:aD E ro Avu a u Z=aD E ro (O2 ()) a u Z:=rfl
theorem O5:aD E ro Avv a u Z=aD E ro (O4 ()) a u Z:=rfl
theorem YJ:aD E ro Avw a u Z=aD E ro (Vb ()) a u Z:=rfl
theorem Awy(E:Env)(ro:Option Nat)(fn:FuncId):code Tryz.prog nls (Tryz.f98.body.getD .skip) E ro fn=Aov E ro fn:=by kernel_rfl
theorem Aqd(E:Env)(args:List Value)(u:Option FrameMode)(Z:aC)(hn:args.length<=(2:Nat)):bA Tryz.prog nls E 98 args u Z=aN Tryz.prog E [.tmp 2] (Aov E none 98 ⟨aX undef 2 args,fun _=>undef,2,10,[]⟩ u Z):=by
 rw[Ap (body:=Tryz.f98.body.getD .skip) Tryz.func98 rfl E args u Z 2 10 (by kernel_rfl) rfl ⟨hn,by decide⟩,Awy]
 rfl
def AbQ(_:Unit):List COp:=[⟨fun a Z=>fbox 24 (a.get 0) Z,some 2,tT⟩,
 ⟨fun a Z=>fbox 24 (a.get 1) Z,some 3,tT⟩,
 ⟨fun a Z=>.val (.slice none 0 0) Z,some 4,tT⟩]
def Avx:List COp:=AbQ ()
def AbR(_:Unit):List COp:=[⟨fun a Z=>aM [(.slice none 0 0)] 54 none Z,some 5,tT⟩]
def Avy:List COp:=AbR ()
def AbS(_:Unit):List COp:=[⟨fun a Z=>aG (some 4) (a.get 2) Z,some 8,tT⟩,
 ⟨fun a Z=>.enter 113 [(a.get 8)] Z,some 9,tT⟩]
def Avz:List COp:=AbS ()
def AbT(_:Unit):List COp:=[⟨fun a Z=>.val (a.get 10) Z,some 6,tT⟩]
def AvA:List COp:=AbT ()
def AbU(_:Unit):List COp:=[⟨fun a Z=>aM [(.int .i64 0),(.int .i64 0),(.string ⟨#[]⟩),(.slice none 0 0)] 24 none Z,some 7,tT⟩,
 ⟨fun a Z=>aK 4 (a.get 7) (a.get 11) Z,none,tT⟩]
def AvB:List COp:=AbU ()
def Vc(_:Unit):List COp:=[⟨fun a Z=>aG (some 4) (a.get 7) Z,some 12,tT⟩,
 ⟨fun a Z=>aG (some 4) (a.get 3) Z,some 13,tT⟩,
 ⟨fun a Z=>.enter 128 [(a.get 12),(a.get 13)] Z,some 14,tT⟩]
def AvC:List COp:=Vc ()
def AbV(_:Unit):List DOp:=[⟨fun a Z=>.val (a.get 6) Z,some 16,tT,some 0,false⟩,
 ⟨fun a Z=>.enter 129 [(a.get 16)] Z,some 17,tT,none,false⟩,
 ⟨fun a Z=>aG none (a.get 5) Z,some 15,tT,some 0,false⟩,
 ⟨fun a Z=>aR 25 1 1 [(.slice none 0 0)] [(0,(a.get 17))] Z,some 18,tT,some 1,false⟩,
 ⟨fun a Z=>bO 25 1 24 (a.get 15) (a.get 18) Z,some 19,tT,none,true⟩,
 ⟨fun a Z=>aK 1 (a.get 5) (a.get 19) Z,none,tT,none,true⟩]
def AvD:List DOp:=AbV ()
noncomputable def EP:Code:=((rangesOf (Tryz.f99.body.getD .skip)).getD 0 (.skip,.skip)).1
noncomputable def EQ:Code:=((rangesOf (Tryz.f99.body.getD .skip)).getD 0 (.skip,.skip)).2
def AbW(_:Unit):List COp:=[⟨fun a Z=>aG none (a.get 5) Z,some 20,tT⟩,
 ⟨fun a Z=>.val (a.get 20) Z,some 4,tT⟩]
def AvE:List COp:=AbW ()
def Aow(E:Env)(ro:Option Nat)(fn:FuncId):aZ:=(aF (aD E ro Avx) (aF (aD E ro Avy) (aF (aF (aD E ro Avz) (aW 0 (frange E ro fn (.tmp 9) [10,11] EP EQ))) (aF (aD E ro AvE) bM))))
theorem AnL:aD E ro Avx a u Z=aD E ro (AbQ ()) a u Z:=rfl
theorem AnM:aD E ro Avy a u Z=aD E ro (AbR ()) a u Z:=rfl
theorem AnN:aD E ro Avz a u Z=aD E ro (AbS ()) a u Z:=rfl
theorem AnO:aD E ro AvA a u Z=aD E ro (AbT ()) a u Z:=rfl
theorem AnP:aD E ro AvB a u Z=aD E ro (AbU ()) a u Z:=rfl
theorem YK:aD E ro AvC a u Z=aD E ro (Vc ()) a u Z:=rfl
theorem AnQ:bB E ro last AvD cl a u Z=bB E ro last (AbV ()) cl a u Z:=rfl
theorem Ad8(E:Env)(ro:Option Nat)(fn:FuncId):code Tryz.prog nls EP E ro fn=(aF (aD E ro AvA) (aD E ro AvB)):=by kernel_rfl
theorem Ad9(E:Env)(ro:Option Nat)(fn:FuncId):code Tryz.prog nls EQ E ro fn=(aW 1 (aF (aD E ro AvC) (aL (fun a=>(a.get 14)) (drawR E ro AvD) aU))):=by kernel_rfl
theorem AnR:aD E ro AvE a u Z=aD E ro (AbW ()) a u Z:=rfl
theorem Awz(E:Env)(ro:Option Nat)(fn:FuncId):code Tryz.prog nls (Tryz.f99.body.getD .skip) E ro fn=Aow E ro fn:=by kernel_rfl
theorem Aqe(E:Env)(args:List Value)(u:Option FrameMode)(Z:aC)(hn:args.length<=(8:Nat)):bA Tryz.prog nls E 99 args u Z=aN Tryz.prog E [.tmp 4] (Aow E none 99 ⟨aX undef 8 args,fun _=>undef,8,21,[]⟩ u Z):=by
 rw[Ap (body:=Tryz.f99.body.getD .skip) Tryz.func99 rfl E args u Z 8 21 (by kernel_rfl) rfl ⟨hn,by decide⟩,Awz]
 rfl
def U9(_:Unit):List COp:=[⟨fun a Z=>.val (.slice none 0 0) Z,some 2,tT⟩,
 ⟨fun a Z=>.val (.int .i64 0) Z,some 3,tT⟩]
def Avq:List COp:=U9 ()
def U_(_:Unit):List COp:=[⟨fun a Z=>.val (a.get 0) Z,some 8,tT⟩,
 ⟨fun a Z=>.enter 127 [(a.get 8)] Z,some 9,tT⟩,
 ⟨fun a Z=>.val (a.get 9) Z,some 7,tT⟩,
 ⟨fun a Z=>aO 0 (a.get 7) Z,some 10,tT⟩,
 ⟨fun a Z=>aO 1 (a.get 7) Z,some 11,tT⟩,
 ⟨fun a Z=>aO 2 (a.get 7) Z,some 12,tT⟩,
 ⟨fun a Z=>.val (a.get 10) Z,some 4,tT⟩,
 ⟨fun a Z=>.val (a.get 11) Z,some 5,tT⟩,
 ⟨fun a Z=>.val (a.get 12) Z,some 6,tT⟩]
def Avr:List COp:=U_ ()
def Va(_:Unit):List COp:=[⟨fun a Z=>.val (a.get 4) Z,some 13,tT⟩,
 ⟨fun a Z=>.val (a.get 6) Z,some 14,tT⟩,
 ⟨fun a Z=>.val (a.get 13) Z,some 2,tT⟩,
 ⟨fun a Z=>.val (a.get 14) Z,some 3,tT⟩]
def Avs:List COp:=Va ()
def AdR(E:Env)(ro:Option Nat)(fn:FuncId):aZ:=(aF (aD E ro Avq) (aF (aD E ro Avr) (aF (aD E ro Avs) bM)))
theorem YG:aD E ro Avq a u Z=aD E ro (U9 ()) a u Z:=rfl
theorem YH:aD E ro Avr a u Z=aD E ro (U_ ()) a u Z:=rfl
theorem YI:aD E ro Avs a u Z=aD E ro (Va ()) a u Z:=rfl
theorem Awx(E:Env)(ro:Option Nat)(fn:FuncId):code Tryz.prog nls (Tryz.f97.body.getD .skip) E ro fn=AdR E ro fn:=by kernel_rfl
theorem AcO(E:Env)(args:List Value)(u:Option FrameMode)(Z:aC)(hn:args.length<=(7:Nat)):bA Tryz.prog nls E 97 args u Z=aN Tryz.prog E [.tmp 2,.tmp 3] (AdR E none 97 ⟨aX undef 7 args,fun _=>undef,7,15,[]⟩ u Z):=by
 rw[Ap (body:=Tryz.f97.body.getD .skip) Tryz.func97 rfl E args u Z 7 15 (by kernel_rfl) rfl ⟨hn,by decide⟩,Awx]
 rfl
def Mg(_:Unit):List COp:=[⟨fun a Z=>.val (.slice none 0 0) Z,some 2,tT⟩,
 ⟨fun a Z=>aM [(.int .i64 0)] 3 none Z,some 3,tT⟩,
 ⟨fun a Z=>aM [(.int .i64 0)] 32 none Z,some 4,tT⟩]
def AiY:List COp:=Mg ()
def Mh(_:Unit):List COp:=[⟨fun a Z=>.val (.func (.func 152) #[] #[(a.get 3),(a.get 4)]) Z,some 5,tT⟩,
 ⟨fun a Z=>fdefer (a.get 5) [] Z,none,tT⟩]
def AiZ:List COp:=Mh ()
def Mi(_:Unit):List COp:=[⟨fun a Z=>.val (a.get 0) Z,some 6,tT⟩,
 ⟨fun a Z=>fcallV (a.get 6) [] Z,some 7,tT⟩,
 ⟨fun a Z=>.val (a.get 7) Z,some 2,tT⟩,
 ⟨fun a Z=>aK 1 (a.get 3) (.int .i64 0) Z,none,tT⟩,
 ⟨fun a Z=>aK 1 (a.get 4) (.int .i64 0) Z,none,tT⟩]
def Ai0:List COp:=Mi ()
def Vi(E:Env)(ro:Option Nat)(fn:FuncId):aZ:=(aF (aD E ro AiY) (aF (aD E ro AiZ) (aF (aD E ro Ai0) bM)))
theorem QF:aD E ro AiY a u Z=aD E ro (Mg ()) a u Z:=rfl
theorem QG:aD E ro AiZ a u Z=aD E ro (Mh ()) a u Z:=rfl
theorem QH:aD E ro Ai0 a u Z=aD E ro (Mi ()) a u Z:=rfl
theorem Apd(E:Env)(ro:Option Nat)(fn:FuncId):code Tryz.prog nls (Tryz.f127.body.getD .skip) E ro fn=Vi E ro fn:=by kernel_rfl
theorem VS(E:Env)(args:List Value)(u:Option FrameMode)(Z:aC)(hn:args.length<=(5:Nat)):bA Tryz.prog nls E 127 args u Z=aN Tryz.prog E [.tmp 2,.cell 3 3,.cell 4 32] (Vi E none 127 ⟨aX undef 5 args,fun _=>undef,5,8,[]⟩ u Z):=by
 rw[Ap (body:=Tryz.f127.body.getD .skip) Tryz.func127 rfl E args u Z 5 8 (by kernel_rfl) rfl ⟨hn,by decide⟩,Apd]
 rfl
def Mv(_:Unit):List COp:=[⟨fun a Z=>.recover Z,some 6,tT⟩]
def Aj6:List COp:=Mv ()
def Mw(_:Unit):List COp:=[⟨fun a Z=>bL Tryz.prog 20 (.tmp 6) (.const .nilIface) (a.get 6) .nilIface Z,some 7,tT⟩]
def Aj7:List COp:=Mw ()
def SQ(_:Unit):List COp:=[⟨fun a Z=>.val (a.get 6) Z,some 2,tT⟩]
def Aj8:List COp:=SQ ()
def SR(_:Unit):List COp:=[⟨fun a Z=>fassert Tryz.prog (a.get 6) 169 true Z,some 8,tT⟩,
 ⟨fun a Z=>aO 1 (a.get 8) Z,some 9,tT⟩,
 ⟨fun a Z=>aO 0 (a.get 8) Z,some 10,tT⟩]
def Aj9:List COp:=SR ()
def SS(_:Unit):List COp:=[⟨fun a Z=>.val (a.get 10) Z,some 3,tT⟩]
def Aka:List COp:=SS ()
def ST(_:Unit):List COp:=[⟨fun a Z=>.val (a.get 3) Z,some 11,tT⟩,
 ⟨fun a Z=>.enter 136 [(a.get 11)] Z,some 12,tT⟩,
 ⟨fun a Z=>aM [(.int .i64 0),(.int .i64 0)] 171 none Z,some 4,tT⟩,
 ⟨fun a Z=>aK 2 (a.get 4) (a.get 12) Z,none,tT⟩]
def Akb:List COp:=ST ()
def SU(_:Unit):List DOp:=[⟨fun a Z=>aH 1 (a.get 4) Z,some 13,tT,some 0,false⟩,
 ⟨fun a Z=>aG none (a.get 13) Z,some 14,tT,some 0,false⟩,
 ⟨fun a Z=>aK 1 (a.get 0) (a.get 14) Z,none,tT,none,false⟩,
 ⟨fun a Z=>aH 0 (a.get 4) Z,some 15,tT,some 0,false⟩,
 ⟨fun a Z=>aG none (a.get 15) Z,some 16,tT,some 0,false⟩,
 ⟨fun a Z=>aK 1 (a.get 1) (a.get 16) Z,none,tT,none,true⟩]
def Akc:List DOp:=SU ()
def AqM(_:Unit):List COp:=[⟨fun a Z=>.val (a.get 6) Z,some 5,tT⟩]
def Aw5:List COp:=AqM ()
def AqN(_:Unit):List COp:=[⟨fun a Z=>aK 1 (a.get 1) (.int .i64 1) Z,none,tT⟩]
def Aw6:List COp:=AqN ()
def Vk(E:Env)(ro:Option Nat)(fn:FuncId):aZ:=(aF (aD E ro Aj6) (aW 0 (aF (aD E ro Aj7) (aL (fun a=>(a.get 7)) (aD E ro Aj8) (aF (aD E ro Aj9) (aL (fun a=>(a.get 9)) (aF (aD E ro Aka) (aF (aD E ro Akb) (drawR E ro Akc))) (aF (aD E ro Aw5) (aD E ro Aw6))))))))
theorem QT:aD E ro Aj6 a u Z=aD E ro (Mv ()) a u Z:=rfl
theorem QU:aD E ro Aj7 a u Z=aD E ro (Mw ()) a u Z:=rfl
theorem Afz:aD E ro Aj8 a u Z=aD E ro (SQ ()) a u Z:=rfl
theorem AfA:aD E ro Aj9 a u Z=aD E ro (SR ()) a u Z:=rfl
theorem AfB:aD E ro Aka a u Z=aD E ro (SS ()) a u Z:=rfl
theorem AfC:aD E ro Akb a u Z=aD E ro (ST ()) a u Z:=rfl
theorem AfD:bB E ro last Akc cl a u Z=bB E ro last (SU ()) cl a u Z:=rfl
theorem Apr(E:Env)(ro:Option Nat)(fn:FuncId):code Tryz.prog nls (Tryz.f152.body.getD .skip) E ro fn=Vk E ro fn:=by kernel_rfl
theorem VU(E:Env)(args:List Value)(u:Option FrameMode)(Z:aC)(hn:args.length<=(6:Nat)):bA Tryz.prog nls E 152 args u Z=aN Tryz.prog E [] (Vk E none 152 ⟨aX undef 6 args,fun _=>undef,6,17,[]⟩ u Z):=by
 rw[Ap (body:=Tryz.f152.body.getD .skip) Tryz.func152 rfl E args u Z 6 17 (by kernel_rfl) rfl ⟨hn,by decide⟩,Apr]
 rfl
def Sm(_:Unit):List COp:=[⟨fun a Z=>fbox 24 (a.get 0) Z,some 2,tT⟩,
 ⟨fun a Z=>fbox 24 (a.get 1) Z,some 3,tT⟩,
 ⟨fun a Z=>.val (.bool false) Z,some 4,tT⟩]
def Ai1:List COp:=Sm ()
def Mj(_:Unit):List DOp:=[⟨fun a Z=>aG (some 4) (a.get 2) Z,some 5,tT,some 0,false⟩,
 ⟨fun a Z=>.enter 153 [(a.get 5)] Z,some 6,tT,none,false⟩,
 ⟨fun a Z=>aG (some 4) (a.get 3) Z,some 7,tT,some 0,false⟩,
 ⟨fun a Z=>.enter 153 [(a.get 7)] Z,some 8,tT,none,true⟩,
 ⟨fun a Z=>bL Tryz.prog 186 (.tmp 6) (.tmp 8) (a.get 6) (a.get 8) Z,some 9,tT,some 2,false⟩,
 ⟨fun a Z=>.val (a.get 9) Z,some 10,tT,some 2,false⟩,
 ⟨fun a Z=>aH 3 (a.get 2) Z,some 11,fun a=>gd (a.get 10) true,some 2,false⟩,
 ⟨fun a Z=>aG none (a.get 11) Z,some 12,fun a=>gd (a.get 10) true,some 2,false⟩,
 ⟨fun a Z=>aH 3 (a.get 3) Z,some 13,fun a=>gd (a.get 10) true,some 2,false⟩,
 ⟨fun a Z=>aG none (a.get 13) Z,some 14,fun a=>gd (a.get 10) true,some 2,false⟩,
 ⟨fun a Z=>.enter 154 [(a.get 12),(a.get 14),(.func (.func 128) #[] #[])] Z,some 15,fun a=>gd (a.get 10) true,none,true⟩,
 ⟨fun a Z=>bQ (a.get 10) (a.get 15) (.bool false) Z,some 16,tT,some 3,false⟩,
 ⟨fun a Z=>.val (a.get 16) Z,some 4,tT,some 3,false⟩]
def Ai2:List DOp:=Mj ()
def Ab4(E:Env)(ro:Option Nat)(fn:FuncId):aZ:=(aF (aD E ro Ai1) (aF (drawR E ro Ai2) bM))
theorem Afa:aD E ro Ai1 a u Z=aD E ro (Sm ()) a u Z:=rfl
theorem QI:bB E ro last Ai2 cl a u Z=bB E ro last (Mj ()) cl a u Z:=rfl
theorem Ape(E:Env)(ro:Option Nat)(fn:FuncId):code Tryz.prog nls (Tryz.f128.body.getD .skip) E ro fn=Ab4 E ro fn:=by kernel_rfl
theorem Ag4(E:Env)(args:List Value)(u:Option FrameMode)(Z:aC)(hn:args.length<=(4:Nat)):bA Tryz.prog nls E 128 args u Z=aN Tryz.prog E [.tmp 4] (Ab4 E none 128 ⟨aX undef 4 args,fun _=>undef,4,17,[]⟩ u Z):=by
 rw[Ap (body:=Tryz.f128.body.getD .skip) Tryz.func128 rfl E args u Z 4 17 (by kernel_rfl) rfl ⟨hn,by decide⟩,Ape]
 rfl
def SV(_:Unit):List COp:=[⟨fun a Z=>fbox 24 (a.get 0) Z,some 1,tT⟩,
 ⟨fun a Z=>aM [(.int .i64 0),(.int .i64 0),(.string ⟨#[]⟩)] 186 none Z,some 2,tT⟩]
def Akd:List COp:=SV ()
def SW(_:Unit):List COp:=[⟨fun a Z=>aH 0 (a.get 1) Z,some 3,tT⟩,
 ⟨fun a Z=>aG none (a.get 3) Z,some 4,tT⟩,
 ⟨fun a Z=>aH 1 (a.get 1) Z,some 5,tT⟩,
 ⟨fun a Z=>aG none (a.get 5) Z,some 6,tT⟩,
 ⟨fun a Z=>aH 2 (a.get 1) Z,some 7,tT⟩,
 ⟨fun a Z=>aG none (a.get 7) Z,some 8,tT⟩,
 ⟨fun a Z=>fbuild (fun i=>nth [(0,1),(1,1),(2,1)] i) [(.int .i64 0),(.int .i64 0),(.string ⟨#[]⟩)] [(0,(a.get 4)),(1,(a.get 6)),(2,(a.get 8))] Z,some 9,tT⟩,
 ⟨fun a Z=>aK 3 (a.get 2) (a.get 9) Z,none,tT⟩]
def Ake:List COp:=SW ()
def Acd(E:Env)(ro:Option Nat)(fn:FuncId):aZ:=(aF (aD E ro Akd) (aF (aD E ro Ake) bM))
theorem AfE:aD E ro Akd a u Z=aD E ro (SV ()) a u Z:=rfl
theorem AfF:aD E ro Ake a u Z=aD E ro (SW ()) a u Z:=rfl
theorem Aps(E:Env)(ro:Option Nat)(fn:FuncId):code Tryz.prog nls (Tryz.f153.body.getD .skip) E ro fn=Acd E ro fn:=by kernel_rfl
theorem Ahd(E:Env)(args:List Value)(u:Option FrameMode)(Z:aC)(hn:args.length<=(2:Nat)):bA Tryz.prog nls E 153 args u Z=aN Tryz.prog E [.cell 2 186] (Acd E none 153 ⟨aX undef 2 args,fun _=>undef,2,10,[]⟩ u Z):=by
 rw[Ap (body:=Tryz.f153.body.getD .skip) Tryz.func153 rfl E args u Z 2 10 (by kernel_rfl) rfl ⟨hn,by decide⟩,Aps]
 rfl
def Mk(_:Unit):List COp:=[⟨fun a Z=>.val (.slice none 0 0) Z,some 2,tT⟩]
def Ai3:List COp:=Mk ()
def Ml(_:Unit):List COp:=[⟨fun a Z=>.val (a.get 0) Z,some 3,tT⟩,
 ⟨fun a Z=>bL Tryz.prog 25 (.tmp 3) (.const (.slice none 0 0)) (a.get 3) (.slice none 0 0) Z,some 4,tT⟩]
def Ai4:List COp:=Ml ()
def Sn(_:Unit):List COp:=[⟨fun a Z=>.val (.slice none 0 0) Z,some 2,tT⟩]
def Ai5:List COp:=Sn ()
def Sq(_:Unit):List COp:=[⟨fun a Z=>aR 3 0 1 [(.int .i64 0)] [] Z,some 5,tT⟩,
 ⟨fun a Z=>.val (a.get 0) Z,some 6,tT⟩,
 ⟨fun a Z=>bO 3 1 8 (a.get 5) (a.get 6) Z,some 7,tT⟩,
 ⟨fun a Z=>.val (a.get 7) Z,some 2,tT⟩]
def Ai6:List COp:=Sq ()
def Ab5(E:Env)(ro:Option Nat)(fn:FuncId):aZ:=(aF (aD E ro Ai3) (aF (aF (aD E ro Ai4) (aL (fun a=>(a.get 4)) (aF (aD E ro Ai5) bM) aU)) (aF (aD E ro Ai6) bM)))
theorem QJ:aD E ro Ai3 a u Z=aD E ro (Mk ()) a u Z:=rfl
theorem QK:aD E ro Ai4 a u Z=aD E ro (Ml ()) a u Z:=rfl
theorem Afb:aD E ro Ai5 a u Z=aD E ro (Sn ()) a u Z:=rfl
theorem Afc:aD E ro Ai6 a u Z=aD E ro (Sq ()) a u Z:=rfl
theorem Apf(E:Env)(ro:Option Nat)(fn:FuncId):code Tryz.prog nls (Tryz.f129.body.getD .skip) E ro fn=Ab5 E ro fn:=by kernel_rfl
theorem Ag5(E:Env)(args:List Value)(u:Option FrameMode)(Z:aC)(hn:args.length<=(2:Nat)):bA Tryz.prog nls E 129 args u Z=aN Tryz.prog E [.tmp 2] (Ab5 E none 129 ⟨aX undef 2 args,fun _=>undef,2,8,[]⟩ u Z):=by
 rw[Ap (body:=Tryz.f129.body.getD .skip) Tryz.func129 rfl E args u Z 2 8 (by kernel_rfl) rfl ⟨hn,by decide⟩,Apf]
 rfl
def Mx(_:Unit):List COp:=[⟨fun a Z=>.val (.bool false) Z,some 6,tT⟩]
def Akf:List COp:=Mx ()
def My(_:Unit):List COp:=[⟨fun a Z=>.val (a.get 0) Z,some 10,tT⟩,
 ⟨fun a Z=>flenL (a.get 10) Z,some 11,tT⟩,
 ⟨fun a Z=>.val (a.get 1) Z,some 12,tT⟩,
 ⟨fun a Z=>flenL (a.get 12) Z,some 13,tT⟩,
 ⟨fun a Z=>i_neq Tryz.prog 3 (.tmp 11) (.tmp 13) (a.get 11) (a.get 13) Z,some 14,tT⟩]
def Akg:List COp:=My ()
def SX(_:Unit):List COp:=[⟨fun a Z=>.val (.bool false) Z,some 6,tT⟩]
def Akh:List COp:=SX ()
def SY(_:Unit):List COp:=[⟨fun a Z=>.val (a.get 0) Z,some 15,tT⟩,
 ⟨fun a Z=>flenL (a.get 15) Z,some 16,tT⟩,
 ⟨fun a Z=>.val (.int .i64 0) Z,some 17,tT⟩]
def Aki:List COp:=SY ()
def Mz(_:Unit):List COp:=[⟨fun a Z=>i_lss Tryz.prog 3 (.tmp 17) (.tmp 16) (a.get 17) (a.get 16) Z,some 18,tT⟩]
def Akj:List COp:=Mz ()
def SZ(_:Unit):List COp:=[⟨fun a Z=>.val (a.get 17) Z,some 19,tT⟩,
 ⟨fun a Z=>bH (none,4) (a.get 15) (a.get 17) Z,some 20,tT⟩,
 ⟨fun a Z=>aG (some 4) (a.get 20) Z,some 21,tT⟩,
 ⟨fun a Z=>aM [(.int .i64 0),(.int .i64 0),(.string ⟨#[]⟩),(.slice none 0 0)] 24 none Z,some 8,tT⟩,
 ⟨fun a Z=>.val (a.get 19) Z,some 7,tT⟩,
 ⟨fun a Z=>aK 4 (a.get 8) (a.get 21) Z,none,tT⟩]
def Akk:List COp:=SZ ()
def S0(_:Unit):List COp:=[⟨fun a Z=>.val (a.get 1) Z,some 22,tT⟩,
 ⟨fun a Z=>.val (a.get 7) Z,some 23,tT⟩,
 ⟨fun a Z=>bH (none,4) (a.get 22) (a.get 23) Z,some 24,tT⟩,
 ⟨fun a Z=>aG (some 4) (a.get 24) Z,some 25,tT⟩,
 ⟨fun a Z=>aM [(.int .i64 0),(.int .i64 0),(.string ⟨#[]⟩),(.slice none 0 0)] 24 none Z,some 9,tT⟩,
 ⟨fun a Z=>aK 4 (a.get 9) (a.get 25) Z,none,tT⟩]
def Akl:List COp:=S0 ()
def MA(_:Unit):List COp:=[⟨fun a Z=>.val (a.get 2) Z,some 26,tT⟩,
 ⟨fun a Z=>aG (some 4) (a.get 8) Z,some 27,tT⟩,
 ⟨fun a Z=>aG (some 4) (a.get 9) Z,some 28,tT⟩,
 ⟨fun a Z=>fcallV (a.get 26) [(a.get 27),(a.get 28)] Z,some 29,tT⟩,
 ⟨fun a Z=>fun1 Tryz.prog (Op.unary .not) (a.get 29) Z,some 30,tT⟩]
def Akm:List COp:=MA ()
def S1(_:Unit):List COp:=[⟨fun a Z=>.val (.bool false) Z,some 6,tT⟩]
def Akn:List COp:=S1 ()
def S3(_:Unit):List COp:=[⟨fun a Z=>i_add Tryz.prog 3 (.tmp 17) (.const (.int .i64 1)) (a.get 17) (.int .i64 1) Z,some 31,tT⟩,
 ⟨fun a Z=>.val (a.get 31) Z,some 17,tT⟩]
def Ako:List COp:=S3 ()
def RW(E:Env)(ro:Option Nat)(fn:FuncId):aZ:=(aF (aD E ro Akj) (aF (aL (fun a=>(a.get 18)) aU (exitR 0)) (aF (aW 1 (aF (aD E ro Akk) (aF (aD E ro Akl) (aF (aD E ro Akm) (aL (fun a=>(a.get 30)) (aF (aD E ro Akn) bM) aU))))) (aD E ro Ako))))
def NQ(_:Unit):List COp:=[⟨fun a Z=>.val (.bool true) Z,some 6,tT⟩]
def Adu:List COp:=NQ ()
def Ace(E:Env)(ro:Option Nat)(fn:FuncId):aZ:=(aF (aD E ro Akf) (aF (aF (aD E ro Akg) (aL (fun a=>(a.get 14)) (aF (aD E ro Akh) bM) aU)) (aF (aF (aD E ro Aki) (aW 0 (loopR (bI nls fn) (RW E ro fn)))) (aF (aD E ro Adu) bM))))
theorem QV:aD E ro Akf a u Z=aD E ro (Mx ()) a u Z:=rfl
theorem QW:aD E ro Akg a u Z=aD E ro (My ()) a u Z:=rfl
theorem AfG:aD E ro Akh a u Z=aD E ro (SX ()) a u Z:=rfl
theorem AfH:aD E ro Aki a u Z=aD E ro (SY ()) a u Z:=rfl
theorem QX:aD E ro Akj a u Z=aD E ro (Mz ()) a u Z:=rfl
theorem AfI:aD E ro Akk a u Z=aD E ro (SZ ()) a u Z:=rfl
theorem AfJ:aD E ro Akl a u Z=aD E ro (S0 ()) a u Z:=rfl
theorem QY:aD E ro Akm a u Z=aD E ro (MA ()) a u Z:=rfl
theorem AfK:aD E ro Akn a u Z=aD E ro (S1 ()) a u Z:=rfl
theorem AfL:aD E ro Ako a u Z=aD E ro (S3 ()) a u Z:=rfl
theorem Z_:aD E ro Adu a u Z=aD E ro (NQ ()) a u Z:=rfl
theorem Apt(E:Env)(ro:Option Nat)(fn:FuncId):code Tryz.prog nls (Tryz.f154.body.getD .skip) E ro fn=Ace E ro fn:=by kernel_rfl
theorem Ahe(E:Env)(args:List Value)(u:Option FrameMode)(Z:aC)(hn:args.length<=(10:Nat)):bA Tryz.prog nls E 154 args u Z=aN Tryz.prog E [.tmp 6] (Ace E none 154 ⟨aX undef 10 args,fun _=>undef,10,32,[]⟩ u Z):=by
 rw[Ap (body:=Tryz.f154.body.getD .skip) Tryz.func154 rfl E args u Z 10 32 (by kernel_rfl) rfl ⟨hn,by decide⟩,Apt]
 rfl
def TZ(_:Unit):List COp:=[⟨fun a Z=>fbox 24 (a.get 0) Z,some 2,tT⟩,
 ⟨fun a Z=>fbox 25 (a.get 1) Z,some 3,tT⟩,
 ⟨fun a Z=>aM [(.int .i64 0),(.int .i64 0),(.string ⟨#[]⟩),(.slice none 0 0)] 24 none Z,some 4,tT⟩,
 ⟨fun a Z=>.val (.int .i64 0) Z,some 5,tT⟩]
def AsF:List COp:=TZ ()
def T9(_:Unit):List COp:=[⟨fun a Z=>.val (.func (.func 93) #[] #[(a.get 2),(a.get 3)]) Z,some 6,tT⟩,
 ⟨fun a Z=>.enter 82 [(a.get 6)] Z,some 7,tT⟩,
 ⟨fun a Z=>aO 0 (a.get 7) Z,some 8,tT⟩,
 ⟨fun a Z=>aO 1 (a.get 7) Z,some 9,tT⟩,
 ⟨fun a Z=>aK 4 (a.get 4) (a.get 8) Z,none,tT⟩,
 ⟨fun a Z=>.val (a.get 9) Z,some 5,tT⟩]
def AsG:List COp:=T9 ()
def An7(E:Env)(ro:Option Nat)(fn:FuncId):aZ:=(aF (aD E ro AsF) (aF (aD E ro AsG) bM))
theorem Xz:aD E ro AsF a u Z=aD E ro (TZ ()) a u Z:=rfl
theorem XA:aD E ro AsG a u Z=aD E ro (T9 ()) a u Z:=rfl
theorem Av0(E:Env)(ro:Option Nat)(fn:FuncId):code Tryz.prog nls (Tryz.f34.body.getD .skip) E ro fn=An7 E ro fn:=by kernel_rfl
theorem ApP(E:Env)(args:List Value)(u:Option FrameMode)(Z:aC)(hn:args.length<=(4:Nat)):bA Tryz.prog nls E 34 args u Z=aN Tryz.prog E [.cell 4 24,.tmp 5] (An7 E none 34 ⟨aX undef 4 args,fun _=>undef,4,10,[]⟩ u Z):=by
 rw[Ap (body:=Tryz.f34.body.getD .skip) Tryz.func34 rfl E args u Z 4 10 (by kernel_rfl) rfl ⟨hn,by decide⟩,Av0]
 rfl
def K1(_:Unit):List COp:=[⟨fun a Z=>aM [(.int .i64 0),(.int .i64 0),(.string ⟨#[]⟩),(.slice none 0 0)] 24 none Z,some 2,tT⟩]
def AuV:List COp:=K1 ()
def K4(_:Unit):List COp:=[⟨fun a Z=>aG (some 4) (a.get 0) Z,some 3,tT⟩,
 ⟨fun a Z=>.enter 64 [(a.get 3)] Z,some 4,tT⟩]
def AuW:List COp:=K4 ()
def K5(_:Unit):List COp:=[⟨fun a Z=>aG none (a.get 1) Z,some 5,tT⟩,
 ⟨fun a Z=>.enter 94 [(a.get 0),(a.get 5)] Z,some 6,tT⟩,
 ⟨fun a Z=>bJ (a.get 6) Z,some 7,tT⟩,
 ⟨fun a Z=>aG (some 4) (a.get 7) Z,some 8,tT⟩,
 ⟨fun a Z=>.enter 88 [(a.get 8)] Z,some 9,tT⟩,
 ⟨fun a Z=>aK 4 (a.get 2) (a.get 9) Z,none,tT⟩]
def AuX:List COp:=K5 ()
def AdP(E:Env)(ro:Option Nat)(fn:FuncId):aZ:=(aF (aD E ro AuV) (aF (aD E ro AuW) (aF (aD E ro AuX) bM)))
theorem Kg:aD E ro AuV a u Z=aD E ro (K1 ()) a u Z:=rfl
theorem Kh:aD E ro AuW a u Z=aD E ro (K4 ()) a u Z:=rfl
theorem Ki:aD E ro AuX a u Z=aD E ro (K5 ()) a u Z:=rfl
theorem Awt(E:Env)(ro:Option Nat)(fn:FuncId):code Tryz.prog nls (Tryz.f93.body.getD .skip) E ro fn=AdP E ro fn:=by kernel_rfl
theorem AcM(E:Env)(args:List Value)(u:Option FrameMode)(Z:aC)(hn:args.length<=(2:Nat)):bA Tryz.prog nls E 93 args u Z=aN Tryz.prog E [.cell 2 24] (AdP E none 93 ⟨aX undef 2 args,fun _=>undef,2,10,[]⟩ u Z):=by
 rw[Ap (body:=Tryz.f93.body.getD .skip) Tryz.func93 rfl E args u Z 2 10 (by kernel_rfl) rfl ⟨hn,by decide⟩,Awt]
 rfl
def OJ(_:Unit):List COp:=[⟨fun a Z=>.val (.pointer none) Z,some 4,tT⟩]
def AuY:List COp:=OJ ()
def OL(_:Unit):List COp:=[⟨fun a Z=>.val (a.get 1) Z,some 7,tT⟩,
 ⟨fun a Z=>flenL (a.get 7) Z,some 8,tT⟩,
 ⟨fun a Z=>.val (.int .i64 0) Z,some 9,tT⟩]
def AuZ:List COp:=OL ()
def Gs(_:Unit):List COp:=[⟨fun a Z=>i_lss Tryz.prog 3 (.tmp 9) (.tmp 8) (a.get 9) (a.get 8) Z,some 10,tT⟩]
def Au0:List COp:=Gs ()
def Jl(_:Unit):List COp:=[⟨fun a Z=>bH (none,1) (a.get 7) (a.get 9) Z,some 11,tT⟩,
 ⟨fun a Z=>aG none (a.get 11) Z,some 12,tT⟩,
 ⟨fun a Z=>.val (a.get 12) Z,some 6,tT⟩]
def Au1:List COp:=Jl ()
def Jm(_:Unit):List COp:=[⟨fun a Z=>.val (a.get 6) Z,some 13,tT⟩,
 ⟨fun a Z=>i_lss Tryz.prog 3 (.tmp 13) (.const (.int .i64 0)) (a.get 13) (.int .i64 0) Z,some 14,tT⟩,
 ⟨fun a Z=>.val (a.get 14) Z,some 15,tT⟩,
 ⟨fun a Z=>.val (a.get 6) Z,some 16,fun a=>gd (a.get 15) false⟩,
 ⟨fun a Z=>.val (a.get 0) Z,some 17,fun a=>gd (a.get 15) false⟩,
 ⟨fun a Z=>bJ (a.get 17) Z,some 18,fun a=>gd (a.get 15) false⟩,
 ⟨fun a Z=>aH 3 (a.get 18) Z,some 19,fun a=>gd (a.get 15) false⟩,
 ⟨fun a Z=>aG none (a.get 19) Z,some 20,fun a=>gd (a.get 15) false⟩,
 ⟨fun a Z=>flenL (a.get 20) Z,some 21,fun a=>gd (a.get 15) false⟩,
 ⟨fun a Z=>i_geq Tryz.prog 3 (.tmp 16) (.tmp 21) (a.get 16) (a.get 21) Z,some 22,fun a=>gd (a.get 15) false⟩,
 ⟨fun a Z=>bQ (a.get 15) (.bool true) (a.get 22) Z,some 23,tT⟩]
def Au2:List COp:=Jm ()
def U2(_:Unit):List COp:=[⟨fun a Z=>.enter 124 [(.int .i64 9)] Z,some 24,tT⟩]
def Au3:List COp:=U2 ()
def OO(_:Unit):List COp:=[⟨fun a Z=>.val (a.get 0) Z,some 25,tT⟩,
 ⟨fun a Z=>bJ (a.get 25) Z,some 26,tT⟩,
 ⟨fun a Z=>aH 3 (a.get 26) Z,some 27,tT⟩,
 ⟨fun a Z=>aG none (a.get 27) Z,some 28,tT⟩,
 ⟨fun a Z=>.val (a.get 6) Z,some 29,tT⟩,
 ⟨fun a Z=>bH (none,4) (a.get 28) (a.get 29) Z,some 30,tT⟩,
 ⟨fun a Z=>.val (a.get 30) Z,some 0,tT⟩]
def Au4:List COp:=OO ()
def OQ(_:Unit):List COp:=[⟨fun a Z=>i_add Tryz.prog 3 (.tmp 9) (.const (.int .i64 1)) (a.get 9) (.int .i64 1) Z,some 31,tT⟩,
 ⟨fun a Z=>.val (a.get 31) Z,some 9,tT⟩]
def Au5:List COp:=OQ ()
def Gw(E:Env)(ro:Option Nat)(fn:FuncId):aZ:=(aF (aD E ro Au0) (aF (aL (fun a=>(a.get 10)) aU (exitR 0)) (aF (aW 1 (aF (aD E ro Au1) (aF (aF (aD E ro Au2) (aL (fun a=>(a.get 23)) (aD E ro Au3) aU)) (aD E ro Au4)))) (aD E ro Au5))))
def OU(_:Unit):List COp:=[⟨fun a Z=>.val (a.get 0) Z,some 32,tT⟩,
 ⟨fun a Z=>.val (a.get 32) Z,some 4,tT⟩]
def Au6:List COp:=OU ()
def YS(E:Env)(ro:Option Nat)(fn:FuncId):aZ:=(aF (aD E ro AuY) (aF (aF (aD E ro AuZ) (aW 0 (loopR (bI nls fn) (Gw E ro fn)))) (aF (aD E ro Au6) bM)))
theorem OK:aD E ro AuY a u Z=aD E ro (OJ ()) a u Z:=rfl
theorem OM:aD E ro AuZ a u Z=aD E ro (OL ()) a u Z:=rfl
theorem Fl:aD E ro Au0 a u Z=aD E ro (Gs ()) a u Z:=rfl
theorem HQ:aD E ro Au1 a u Z=aD E ro (Jl ()) a u Z:=rfl
theorem HR:aD E ro Au2 a u Z=aD E ro (Jm ()) a u Z:=rfl
theorem YA:aD E ro Au3 a u Z=aD E ro (U2 ()) a u Z:=rfl
theorem OP:aD E ro Au4 a u Z=aD E ro (OO ()) a u Z:=rfl
theorem OT:aD E ro Au5 a u Z=aD E ro (OQ ()) a u Z:=rfl
theorem OV:aD E ro Au6 a u Z=aD E ro (OU ()) a u Z:=rfl
theorem Awu(E:Env)(ro:Option Nat)(fn:FuncId):code Tryz.prog nls (Tryz.f94.body.getD .skip) E ro fn=YS E ro fn:=by kernel_rfl
theorem Ry(E:Env)(args:List Value)(u:Option FrameMode)(Z:aC)(hn:args.length<=(7:Nat)):bA Tryz.prog nls E 94 args u Z=aN Tryz.prog E [.tmp 4] (YS E none 94 ⟨aX undef 7 args,fun _=>undef,7,33,[]⟩ u Z):=by
 rw[Ap (body:=Tryz.f94.body.getD .skip) Tryz.func94 rfl E args u Z 7 33 (by kernel_rfl) rfl ⟨hn,by decide⟩,Awu]
 rfl
def UJ(_:Unit):List COp:=[⟨fun a Z=>aM [(.int .i64 0),(.int .i64 0),(.string ⟨#[]⟩),(.slice none 0 0)] 24 none Z,some 2,tT⟩,
 ⟨fun a Z=>.val (.int .i64 0) Z,some 3,tT⟩]
def AuA:List COp:=UJ ()
def UK(_:Unit):List COp:=[⟨fun a Z=>.val (a.get 0) Z,some 8,tT⟩,
 ⟨fun a Z=>.enter 125 [(a.get 8)] Z,some 9,tT⟩,
 ⟨fun a Z=>.val (a.get 9) Z,some 7,tT⟩,
 ⟨fun a Z=>aO 0 (a.get 7) Z,some 10,tT⟩,
 ⟨fun a Z=>aO 1 (a.get 7) Z,some 11,tT⟩,
 ⟨fun a Z=>aO 2 (a.get 7) Z,some 12,tT⟩,
 ⟨fun a Z=>aM [(.int .i64 0),(.int .i64 0),(.string ⟨#[]⟩),(.slice none 0 0)] 24 none Z,some 4,tT⟩,
 ⟨fun a Z=>aK 4 (a.get 4) (a.get 10) Z,none,tT⟩,
 ⟨fun a Z=>.val (a.get 11) Z,some 5,tT⟩,
 ⟨fun a Z=>.val (a.get 12) Z,some 6,tT⟩]
def AuB:List COp:=UK ()
def UL(_:Unit):List COp:=[⟨fun a Z=>aG (some 4) (a.get 4) Z,some 13,tT⟩,
 ⟨fun a Z=>.val (a.get 6) Z,some 14,tT⟩,
 ⟨fun a Z=>aK 4 (a.get 2) (a.get 13) Z,none,tT⟩,
 ⟨fun a Z=>.val (a.get 14) Z,some 3,tT⟩]
def AuC:List COp:=UL ()
def AdM(E:Env)(ro:Option Nat)(fn:FuncId):aZ:=(aF (aD E ro AuA) (aF (aD E ro AuB) (aF (aD E ro AuC) bM)))
theorem Yi:aD E ro AuA a u Z=aD E ro (UJ ()) a u Z:=rfl
theorem Yj:aD E ro AuB a u Z=aD E ro (UK ()) a u Z:=rfl
theorem Yk:aD E ro AuC a u Z=aD E ro (UL ()) a u Z:=rfl
theorem Awn(E:Env)(ro:Option Nat)(fn:FuncId):code Tryz.prog nls (Tryz.f82.body.getD .skip) E ro fn=AdM E ro fn:=by kernel_rfl
theorem AcK(E:Env)(args:List Value)(u:Option FrameMode)(Z:aC)(hn:args.length<=(7:Nat)):bA Tryz.prog nls E 82 args u Z=aN Tryz.prog E [.cell 2 24,.tmp 3] (AdM E none 82 ⟨aX undef 7 args,fun _=>undef,7,15,[]⟩ u Z):=by
 rw[Ap (body:=Tryz.f82.body.getD .skip) Tryz.func82 rfl E args u Z 7 15 (by kernel_rfl) rfl ⟨hn,by decide⟩,Awn]
 rfl
def Md(_:Unit):List COp:=[⟨fun a Z=>aM [(.int .i64 0),(.int .i64 0),(.string ⟨#[]⟩),(.slice none 0 0)] 24 none Z,some 2,tT⟩,
 ⟨fun a Z=>aM [(.int .i64 0)] 3 none Z,some 3,tT⟩,
 ⟨fun a Z=>aM [(.int .i64 0)] 32 none Z,some 4,tT⟩]
def AiV:List COp:=Md ()
def Me(_:Unit):List COp:=[⟨fun a Z=>.val (.func (.func 150) #[] #[(a.get 3),(a.get 4)]) Z,some 5,tT⟩,
 ⟨fun a Z=>fdefer (a.get 5) [] Z,none,tT⟩]
def AiW:List COp:=Me ()
def Mf(_:Unit):List COp:=[⟨fun a Z=>.val (a.get 0) Z,some 6,tT⟩,
 ⟨fun a Z=>fcallV (a.get 6) [] Z,some 7,tT⟩,
 ⟨fun a Z=>aK 4 (a.get 2) (a.get 7) Z,none,tT⟩,
 ⟨fun a Z=>aK 1 (a.get 3) (.int .i64 0) Z,none,tT⟩,
 ⟨fun a Z=>aK 1 (a.get 4) (.int .i64 0) Z,none,tT⟩]
def AiX:List COp:=Mf ()
def Vh(E:Env)(ro:Option Nat)(fn:FuncId):aZ:=(aF (aD E ro AiV) (aF (aD E ro AiW) (aF (aD E ro AiX) bM)))
theorem QC:aD E ro AiV a u Z=aD E ro (Md ()) a u Z:=rfl
theorem QD:aD E ro AiW a u Z=aD E ro (Me ()) a u Z:=rfl
theorem QE:aD E ro AiX a u Z=aD E ro (Mf ()) a u Z:=rfl
theorem Apc(E:Env)(ro:Option Nat)(fn:FuncId):code Tryz.prog nls (Tryz.f125.body.getD .skip) E ro fn=Vh E ro fn:=by kernel_rfl
theorem VR(E:Env)(args:List Value)(u:Option FrameMode)(Z:aC)(hn:args.length<=(5:Nat)):bA Tryz.prog nls E 125 args u Z=aN Tryz.prog E [.cell 2 24,.cell 3 3,.cell 4 32] (Vh E none 125 ⟨aX undef 5 args,fun _=>undef,5,8,[]⟩ u Z):=by
 rw[Ap (body:=Tryz.f125.body.getD .skip) Tryz.func125 rfl E args u Z 5 8 (by kernel_rfl) rfl ⟨hn,by decide⟩,Apc]
 rfl
def Mt(_:Unit):List COp:=[⟨fun a Z=>.recover Z,some 6,tT⟩]
def AjZ:List COp:=Mt ()
def Mu(_:Unit):List COp:=[⟨fun a Z=>bL Tryz.prog 20 (.tmp 6) (.const .nilIface) (a.get 6) .nilIface Z,some 7,tT⟩]
def Aj0:List COp:=Mu ()
def SK(_:Unit):List COp:=[⟨fun a Z=>.val (a.get 6) Z,some 2,tT⟩]
def Aj1:List COp:=SK ()
def SL(_:Unit):List COp:=[⟨fun a Z=>fassert Tryz.prog (a.get 6) 169 true Z,some 8,tT⟩,
 ⟨fun a Z=>aO 1 (a.get 8) Z,some 9,tT⟩,
 ⟨fun a Z=>aO 0 (a.get 8) Z,some 10,tT⟩]
def Aj2:List COp:=SL ()
def SM(_:Unit):List COp:=[⟨fun a Z=>.val (a.get 10) Z,some 3,tT⟩]
def Aj3:List COp:=SM ()
def SN(_:Unit):List COp:=[⟨fun a Z=>.val (a.get 3) Z,some 11,tT⟩,
 ⟨fun a Z=>.enter 136 [(a.get 11)] Z,some 12,tT⟩,
 ⟨fun a Z=>aM [(.int .i64 0),(.int .i64 0)] 171 none Z,some 4,tT⟩,
 ⟨fun a Z=>aK 2 (a.get 4) (a.get 12) Z,none,tT⟩]
def Aj4:List COp:=SN ()
def SP(_:Unit):List DOp:=[⟨fun a Z=>aH 1 (a.get 4) Z,some 13,tT,some 0,false⟩,
 ⟨fun a Z=>aG none (a.get 13) Z,some 14,tT,some 0,false⟩,
 ⟨fun a Z=>aK 1 (a.get 0) (a.get 14) Z,none,tT,none,false⟩,
 ⟨fun a Z=>aH 0 (a.get 4) Z,some 15,tT,some 0,false⟩,
 ⟨fun a Z=>aG none (a.get 15) Z,some 16,tT,some 0,false⟩,
 ⟨fun a Z=>aK 1 (a.get 1) (a.get 16) Z,none,tT,none,true⟩]
def Aj5:List DOp:=SP ()
def AqK(_:Unit):List COp:=[⟨fun a Z=>.val (a.get 6) Z,some 5,tT⟩]
def Aw3:List COp:=AqK ()
def AqL(_:Unit):List COp:=[⟨fun a Z=>aK 1 (a.get 1) (.int .i64 1) Z,none,tT⟩]
def Aw4:List COp:=AqL ()
def Vj(E:Env)(ro:Option Nat)(fn:FuncId):aZ:=(aF (aD E ro AjZ) (aW 0 (aF (aD E ro Aj0) (aL (fun a=>(a.get 7)) (aD E ro Aj1) (aF (aD E ro Aj2) (aL (fun a=>(a.get 9)) (aF (aD E ro Aj3) (aF (aD E ro Aj4) (drawR E ro Aj5))) (aF (aD E ro Aw3) (aD E ro Aw4))))))))
theorem QR:aD E ro AjZ a u Z=aD E ro (Mt ()) a u Z:=rfl
theorem QS:aD E ro Aj0 a u Z=aD E ro (Mu ()) a u Z:=rfl
theorem Afu:aD E ro Aj1 a u Z=aD E ro (SK ()) a u Z:=rfl
theorem Afv:aD E ro Aj2 a u Z=aD E ro (SL ()) a u Z:=rfl
theorem Afw:aD E ro Aj3 a u Z=aD E ro (SM ()) a u Z:=rfl
theorem Afx:aD E ro Aj4 a u Z=aD E ro (SN ()) a u Z:=rfl
theorem Afy:bB E ro last Aj5 cl a u Z=bB E ro last (SP ()) cl a u Z:=rfl
theorem Apq(E:Env)(ro:Option Nat)(fn:FuncId):code Tryz.prog nls (Tryz.f150.body.getD .skip) E ro fn=Vj E ro fn:=by kernel_rfl
theorem VT(E:Env)(args:List Value)(u:Option FrameMode)(Z:aC)(hn:args.length<=(6:Nat)):bA Tryz.prog nls E 150 args u Z=aN Tryz.prog E [] (Vj E none 150 ⟨aX undef 6 args,fun _=>undef,6,17,[]⟩ u Z):=by
 rw[Ap (body:=Tryz.f150.body.getD .skip) Tryz.func150 rfl E args u Z 6 17 (by kernel_rfl) rfl ⟨hn,by decide⟩,Apq]
 rfl
def UQ(_:Unit):List COp:=[⟨fun a Z=>fbox 24 (a.get 0) Z,some 1,tT⟩,
 ⟨fun a Z=>aM [(.int .i64 0),(.int .i64 0),(.string ⟨#[]⟩),(.slice none 0 0)] 24 none Z,some 2,tT⟩]
def AuJ:List COp:=UQ ()
def UR(_:Unit):List DOp:=[⟨fun a Z=>aH 3 (a.get 1) Z,some 9,tT,some 0,false⟩,
 ⟨fun a Z=>aG none (a.get 9) Z,some 10,tT,some 0,false⟩,
 ⟨fun a Z=>.enter 122 [(a.get 10),(.func (.func 88) #[] #[])] Z,some 11,tT,none,false⟩,
 ⟨fun a Z=>aH 0 (a.get 1) Z,some 3,tT,some 0,false⟩,
 ⟨fun a Z=>aG none (a.get 3) Z,some 4,tT,some 0,false⟩,
 ⟨fun a Z=>aH 1 (a.get 1) Z,some 5,tT,some 0,false⟩,
 ⟨fun a Z=>aG none (a.get 5) Z,some 6,tT,some 0,false⟩,
 ⟨fun a Z=>aH 2 (a.get 1) Z,some 7,tT,some 0,false⟩,
 ⟨fun a Z=>aG none (a.get 7) Z,some 8,tT,some 0,false⟩,
 ⟨fun a Z=>fbuild (fun i=>nth [(0,1),(1,1),(2,1),(3,1)] i) [(.int .i64 0),(.int .i64 0),(.string ⟨#[]⟩),(.slice none 0 0)] [(0,(a.get 4)),(1,(a.get 6)),(2,(a.get 8)),(3,(a.get 11))] Z,some 12,tT,some 1,false⟩,
 ⟨fun a Z=>aK 4 (a.get 2) (a.get 12) Z,none,tT,none,true⟩]
def AuK:List DOp:=UR ()
def AdN(E:Env)(ro:Option Nat)(fn:FuncId):aZ:=(aF (aD E ro AuJ) (aF (drawR E ro AuK) bM))
theorem Yo:aD E ro AuJ a u Z=aD E ro (UQ ()) a u Z:=rfl
theorem Yp:bB E ro last AuK cl a u Z=bB E ro last (UR ()) cl a u Z:=rfl
theorem Awq(E:Env)(ro:Option Nat)(fn:FuncId):code Tryz.prog nls (Tryz.f88.body.getD .skip) E ro fn=AdN E ro fn:=by kernel_rfl
theorem AcL(E:Env)(args:List Value)(u:Option FrameMode)(Z:aC)(hn:args.length<=(2:Nat)):bA Tryz.prog nls E 88 args u Z=aN Tryz.prog E [.cell 2 24] (AdN E none 88 ⟨aX undef 2 args,fun _=>undef,2,13,[]⟩ u Z):=by
 rw[Ap (body:=Tryz.f88.body.getD .skip) Tryz.func88 rfl E args u Z 2 13 (by kernel_rfl) rfl ⟨hn,by decide⟩,Awq]
 rfl
def Ik(_:Unit):List COp:=[⟨fun a Z=>.val (.slice none 0 0) Z,some 4,tT⟩]
def AiK:List COp:=Ik ()
def Im(_:Unit):List COp:=[⟨fun a Z=>.val (a.get 0) Z,some 7,tT⟩,
 ⟨fun a Z=>flenL (a.get 7) Z,some 8,tT⟩,
 ⟨fun a Z=>bL Tryz.prog 3 (.tmp 8) (.const (.int .i64 0)) (a.get 8) (.int .i64 0) Z,some 9,tT⟩]
def AiL:List COp:=Im ()
def LZ(_:Unit):List COp:=[⟨fun a Z=>.val (.slice none 0 0) Z,some 4,tT⟩]
def AiM:List COp:=LZ ()
def L7(_:Unit):List COp:=[⟨fun a Z=>.val (a.get 0) Z,some 10,tT⟩,
 ⟨fun a Z=>flenL (a.get 10) Z,some 11,tT⟩,
 ⟨fun a Z=>fmakeSlice 24 56 [(.int .i64 0),(.int .i64 0),(.string ⟨#[]⟩),(.slice none 0 0)] (a.get 11) (a.get 11) Z,some 12,tT⟩,
 ⟨fun a Z=>.val (a.get 12) Z,some 5,tT⟩]
def AiN:List COp:=L7 ()
def L9(_:Unit):List COp:=[⟨fun a Z=>.val (a.get 0) Z,some 13,tT⟩,
 ⟨fun a Z=>flenL (a.get 13) Z,some 14,tT⟩,
 ⟨fun a Z=>.val (.int .i64 0) Z,some 15,tT⟩]
def AiO:List COp:=L9 ()
def Ip(_:Unit):List COp:=[⟨fun a Z=>i_lss Tryz.prog 3 (.tmp 15) (.tmp 14) (a.get 15) (a.get 14) Z,some 16,tT⟩]
def AiP:List COp:=Ip ()
def L_(_:Unit):List COp:=[⟨fun a Z=>.val (a.get 15) Z,some 17,tT⟩,
 ⟨fun a Z=>.val (a.get 17) Z,some 6,tT⟩]
def AiQ:List COp:=L_ ()
def Ma(_:Unit):List COp:=[⟨fun a Z=>.val (a.get 5) Z,some 18,tT⟩,
 ⟨fun a Z=>.val (a.get 6) Z,some 19,tT⟩,
 ⟨fun a Z=>.val (a.get 1) Z,some 20,tT⟩,
 ⟨fun a Z=>.val (a.get 0) Z,some 21,tT⟩,
 ⟨fun a Z=>.val (a.get 6) Z,some 22,tT⟩,
 ⟨fun a Z=>bH (none,4) (a.get 21) (a.get 22) Z,some 23,tT⟩,
 ⟨fun a Z=>aG (some 4) (a.get 23) Z,some 24,tT⟩,
 ⟨fun a Z=>fcallV (a.get 20) [(a.get 24)] Z,some 25,tT⟩,
 ⟨fun a Z=>bH (none,4) (a.get 18) (a.get 19) Z,some 26,tT⟩,
 ⟨fun a Z=>aK 4 (a.get 26) (a.get 25) Z,none,tT⟩]
def AiR:List COp:=Ma ()
def Mb(_:Unit):List COp:=[⟨fun a Z=>i_add Tryz.prog 3 (.tmp 15) (.const (.int .i64 1)) (a.get 15) (.int .i64 1) Z,some 27,tT⟩,
 ⟨fun a Z=>.val (a.get 27) Z,some 15,tT⟩]
def AiS:List COp:=Mb ()
def Jc(E:Env)(ro:Option Nat)(fn:FuncId):aZ:=(aF (aD E ro AiP) (aF (aL (fun a=>(a.get 16)) aU (exitR 0)) (aF (aW 1 (aF (aD E ro AiQ) (aD E ro AiR))) (aD E ro AiS))))
def Mc(_:Unit):List COp:=[⟨fun a Z=>.val (a.get 5) Z,some 28,tT⟩,
 ⟨fun a Z=>.val (a.get 28) Z,some 4,tT⟩]
def AiT:List COp:=Mc ()
def Vg(E:Env)(ro:Option Nat)(fn:FuncId):aZ:=(aF (aD E ro AiK) (aF (aF (aD E ro AiL) (aL (fun a=>(a.get 9)) (aF (aD E ro AiM) bM) aU)) (aF (aD E ro AiN) (aF (aF (aD E ro AiO) (aW 0 (loopR (bI nls fn) (Jc E ro fn)))) (aF (aD E ro AiT) bM)))))
theorem Il:aD E ro AiK a u Z=aD E ro (Ik ()) a u Z:=rfl
theorem Io:aD E ro AiL a u Z=aD E ro (Im ()) a u Z:=rfl
theorem Qv:aD E ro AiM a u Z=aD E ro (LZ ()) a u Z:=rfl
theorem Qw:aD E ro AiN a u Z=aD E ro (L7 ()) a u Z:=rfl
theorem Qx:aD E ro AiO a u Z=aD E ro (L9 ()) a u Z:=rfl
theorem Iq:aD E ro AiP a u Z=aD E ro (Ip ()) a u Z:=rfl
theorem Qy:aD E ro AiQ a u Z=aD E ro (L_ ()) a u Z:=rfl
theorem Qz:aD E ro AiR a u Z=aD E ro (Ma ()) a u Z:=rfl
theorem QA:aD E ro AiS a u Z=aD E ro (Mb ()) a u Z:=rfl
theorem QB:aD E ro AiT a u Z=aD E ro (Mc ()) a u Z:=rfl
theorem Apa(E:Env)(ro:Option Nat)(fn:FuncId):code Tryz.prog nls (Tryz.f122.body.getD .skip) E ro fn=Vg E ro fn:=by kernel_rfl
theorem VQ(E:Env)(args:List Value)(u:Option FrameMode)(Z:aC)(hn:args.length<=(7:Nat)):bA Tryz.prog nls E 122 args u Z=aN Tryz.prog E [.tmp 4] (Vg E none 122 ⟨aX undef 7 args,fun _=>undef,7,29,[]⟩ u Z):=by
 rw[Ap (body:=Tryz.f122.body.getD .skip) Tryz.func122 rfl E args u Z 7 29 (by kernel_rfl) rfl ⟨hn,by decide⟩,Apa]
 rfl
end Go.Proofs.YtknnbjmcfibpgaaGreatDoor
namespace Go.Proofs.YtknnbjmcfibpgaaGreatDoor
open Go Go.Eng
attribute [local congr] Ab Ah Af Ad Ae
attribute [-go_sem] List.range_succ
theorem Wh:(match (Tryz.prog.fieldsOf 186).toList with
  | [a,b,c]=>a.name != "_" && b.name != "_" && c.name != "_" && a.type==3&&b.type==3&&c.type==9&&a.offset==0&&b.offset==1&&c.offset==2
  | _=>false)=true:=by kernel_rfl
theorem Aox(k n k' n':Int)(t t':ByteArray):prun Tryz.prog (Op.equalIn 10000 186 (.agg #[.int .i64 k,.int .i64 n,.string t]) (.agg #[.int .i64 k',.int .i64 n',.string t']))=some (.ok ((k==k')&&(n==n')&&(t.toList==t'.toList))):=by
 have hS:Tryz.prog.underlying 186=some (.struct (Tryz.prog.fieldsOf 186)):=by kernel_rfl
 have hp:Tryz.prog.stoodInHeld 186=false:=by kernel_rfl
 have u3:Tryz.prog.underlying 3=some (.int .i64):=by kernel_rfl
 have us:Tryz.prog.underlying 9=some .string:=by kernel_rfl
 have p0:∀a b c:Value,prun Tryz.prog (part 3 #[a,b,c] 0)=some (.ok a):=fun a b c=>by kernel_rfl
 have p1:∀a b c:Value,prun Tryz.prog (part 3 #[a,b,c] 1)=some (.ok b):=fun a b c=>by kernel_rfl
 have p2:∀a b c:Value,prun Tryz.prog (part 9 #[a,b,c] 2)=some (.ok c):=fun a b c=>by kernel_rfl
 rw[show (10000:Nat)=9999+1 from rfl,IX 9999 _ _ _ hS hp]
 have hf:=Wh
 generalize (Tryz.prog.fieldsOf 186).toList=fs at hf ⊢
 match fs,hf with
 | [a,b,c],hf=>
  simp only[Bool.and_eq_true,bne_iff_ne,beq_iff_eq] at hf
  obtain⟨⟨⟨⟨⟨⟨⟨⟨n1,n2⟩,n3⟩,t1⟩,t2⟩,t3⟩,o1⟩,o2⟩,o3⟩:=hf
  simp only[Op.eqFields,n1,n2,n3,t1,t2,t3,o1,o2,o3,ne_eq,not_false_eq_true,if_true,Ew,p0,p1,p2,Gy 9998 _ _ _ _ _ u3,Ft 9998 _ _ _ us]
  cases h1:k==k'<;>cases h2:n==n'<;>cases h3:t.toList==t'.toList<;>simp only[h1,h2,h3,Bool.not_true,Bool.not_false,Bool.false_eq_true,if_true,if_false,reduceIte,H9,Ew,Bool.and_true,Bool.and_false,Bool.true_and,Bool.false_and,Bool.and_self,p0,p1,p2,Gy 9998 _ _ _ _ _ u3,Ft 9998 _ _ _ us]
set_option maxRecDepth 100000 in
theorem V6(x y:Operand)(k n k' n':Int)(t t':ByteArray)(Z:aC):bL Tryz.prog 186 x y (.agg #[.int .i64 k,.int .i64 n,.string t]) (.agg #[.int .i64 k',.int .i64 n',.string t']) Z=.val (.bool ((k==k')&&(n==n')&&(t.toList==t'.toList))) Z:=by
 rw[show bL Tryz.prog 186 x y (.agg #[.int .i64 k,.int .i64 n,.string t]) (.agg #[.int .i64 k',.int .i64 n',.string t']) Z=fbin0 Tryz.prog .eql 186 x y (.agg #[.int .i64 k,.int .i64 n,.string t]) (.agg #[.int .i64 k',.int .i64 n',.string t']) Z by kernel_rfl]
 unfold fbin0 orPure
 have h1:plain2 (.agg #[.int .i64 k,.int .i64 n,.string t]) (.agg #[.int .i64 k',.int .i64 n',.string t'])=true:=by kernel_rfl
 have h2:prun Tryz.prog (eqGuard .eql 186 x y (.agg #[.int .i64 k,.int .i64 n,.string t]) (.agg #[.int .i64 k',.int .i64 n',.string t']))=some (.ok ()):=by kernel_rfl
 rw[h1,Ew,h2]
 simp only[binOp,Op.equal,Op.maxDepth,Ew,Aox,H9]
 rfl
theorem AoT:aggSize Tryz.prog 186=some (some 3):=by kernel_rfl
theorem PX(n:Nat)(k z:Int)(t:ByteArray)(s:Value)(hs:oneCell s=true)(Z:aC)(hw:Wf Z):
  Gives ((env (n+1)).call 153 [.agg #[.int .i64 k,.int .i64 z,.string t,s]] none Z) Z fun w _=>w=.agg #[.int .i64 k,.int .i64 z,.string t]:=by
 rw[Ak _ 153 _ _ rfl,Ahd _ _ _ _ (by simp),Aj]
 unfold Acd
 simp -implicitDefEqProofs only[go_sem,Av,AfE,SV,AfF,SW,AoT,AP,AA,Ay,AO]
 exact⟨_,_,rfl,(((Ext.refl _).push _ _).push _ _).put _ _ _ (by omega),((hw.push _ _).push _ _).put _ _ _ (Nat.lt_succ_self _),rfl⟩
theorem Zk(n:Nat)(k1 n1 k2 n2:Int)(t1 t2:ByteArray)(s1 s2:Value)(h1:oneCell s1=true)(h2:oneCell s2=true)(Z:aC)(B:Bool)(hw:Wf Z)(h:∀V,Ext Z V->Wf V->Gives ((env (n+1)).call 154 [s1,s2,.func (.func 128) #[] #[]] none V) V fun v _=>v=.bool B):
  Gives ((env (n+2)).call 128 [.agg #[.int .i64 k1,.int .i64 n1,.string t1,s1],.agg #[.int .i64 k2,.int .i64 n2,.string t2,s2]] none Z) Z
   fun v _=>v=.bool ((k1==k2)&&(n1==n2)&&(t1.toList==t2.toList)&&B):=by
 rw[Ak _ 128 _ _ rfl,Ag4 _ _ _ _ (by simp),Aj]
 unfold Ab4
 have x1:Ext Z ((Z.push (.cells [.int .i64 k1,.int .i64 n1,.string t1,s1] TD) none).push (.cells [.int .i64 k2,.int .i64 n2,.string t2,s2] TD) none):=((Ext.refl _).push _ _).push _ _
 have hw1:=(hw.push (.cells [.int .i64 k1,.int .i64 n1,.string t1,s1] TD) none).push (.cells [.int .i64 k2,.int .i64 n2,.string t2,s2] TD) none
 have c1:((Z.push (.cells [.int .i64 k1,.int .i64 n1,.string t1,s1] TD) none).push (.cells [.int .i64 k2,.int .i64 n2,.string t2,s2] TD) none).cells Z.next=some [.int .i64 k1,.int .i64 n1,.string t1,s1]:=by rw[Ac,if_neg (by rw[Aa];omega),Ac,if_pos rfl];rfl
 have c2:((Z.push (.cells [.int .i64 k1,.int .i64 n1,.string t1,s1] TD) none).push (.cells [.int .i64 k2,.int .i64 n2,.string t2,s2] TD) none).cells (Z.next+1)=some [.int .i64 k2,.int .i64 n2,.string t2,s2]:=by rw[Ac,if_pos (by rw[Aa])];rfl
 have kc:((Z.push (.cells [.int .i64 k1,.int .i64 n1,.string t1,s1] TD) none).push (.cells [.int .i64 k2,.int .i64 n2,.string t2,s2] TD) none).clock=Z.clock+2:=rfl
 simp -implicitDefEqProofs only[go_sem,Afa,Sm]
 generalize aC.push (aC.push Z _ _) _ _=a_ at x1 hw1 c1 c2 kc ⊢
 have hv1:=Ce hw1 (lam:=Z.clock+2) (by omega)
 obtain⟨_,a9,e2,x2,hw2,rfl⟩:=PX n k1 n1 t1 s1 h1 a_ hw1
 obtain⟨_,bS,e3,x3,hw3,rfl⟩:=PX n k2 n2 t2 s2 h2 a9 hw2
 have hv3:=Ce hw3 (Nat.le_refl _)
 have c2':(view a9 (Z.clock+2)).cells (Z.next+1)=some [.int .i64 k2,.int .i64 n2,.string t2,s2]:=Eo hw1 (by omega) (x2.get _ (hw1.cells c2)) c2
 have c13:=(x3.cells (hw2.cells ((x2.cells (hw1.cells c1)).trans c1))).trans ((x2.cells (hw1.cells c1)).trans c1)
 have c23:=(x3.cells (hw2.cells ((x2.cells (hw1.cells c2)).trans c2))).trans ((x2.cells (hw1.cells c2)).trans c2)
 cases e:((k1==k2)&&(n1==n2)&&(t1.toList==t2.toList)) with
 | false=>
  simp -implicitDefEqProofs only[go_sem,QI,Mj,hv1,c1,e2,c2',e3,V6,e,hv3,c13,c23,h1,h2]
  exact⟨_,_,rfl,(x1.trans x2).trans x3,hw3,rfl⟩
 | true=>
  obtain⟨_,bU,e4,x4,hw4,rfl⟩:=h bS ((x1.trans x2).trans x3) hw3
  simp -implicitDefEqProofs only[go_sem,QI,Mj,hv1,c1,e2,c2',e3,V6,e,hv3,c13,c23,h1,h2,e4]
  exact⟨_,_,rfl,((x1.trans x2).trans x3).trans x4,hw4,rfl⟩
end Go.Proofs.YtknnbjmcfibpgaaGreatDoor
namespace Go.Proofs.YtknnbjmcfibpgaaGreatDoor
open Go Go.Eng
attribute [local congr] Ab Ah Af Ad Ae
attribute [-go_sem] List.range_succ
theorem AwF:bI nls 154=[15,16,17]:=by kernel_rfl
structure HeadEf (p p':Option Addr) (len c c':Nat) (k:Nat) (f g:Nat->Value):Prop where
 f1:f 1=.slice p' len c'
 f2:f 2=.func (.func 128) #[] #[]
 g15:g 15=.slice p len c
 g16:g 16=.int .i64 (.ofNat len)
 g17:g 17=.int .i64 (.ofNat k)
theorem Qf{Z:aC}{lv:List Value}{d:D}(h:Laid Z (.agg lv.toArray) d):∃k z t p c ds,d=.mk k z t ds/\lv=[.int .i64 k,.int .i64 z,.string t,.slice p ds.length c]:=by
 obtain⟨k,z,t,ds⟩:=d
 obtain⟨p,c,hv,_⟩:=h
 refine⟨k,z,t,p,c,ds,rfl,?_⟩
 have:=Value.agg.inj hv
 simpa using congrArg Array.toList this
theorem M7(n N:Nat)(hE:∀d d' v v' Z,D.deep d<=N->d.count<1000000000->Wf Z->Laid Z v d->Laid Z v' d'->Gives ((env n).call 128 [v,v'] none Z) Z fun w _=>w=.bool (D.same d d'))(p p':Option Addr)(len c c':Nat)(hlen:len<1000000000000):∀(ds ds':List D) (k fuel:Nat) (f g:Nat->Value) (Z:aC),k+ds.length=len->ds.length=ds'.length->ds.length<fuel->D.deeps ds<=N->D.counts ds<1000000000->
   Wf Z->LaidE Z p k ds->LaidE Z p' k ds'->HeadEf p p' len c c' k f g->
   ∃e f' g' V,floop [15,16,17] (RW (env n) none 154) fuel (Sl 10 32 f g []) none Z=.done e (Sl 10 32 f' g' []) none V/\(if D.sames ds ds'=true then e=.exit 0 else e=.ret/\f' 6=.bool false)/\Ext Z V/\Wf V:=by
 intro ds
 induction ds with
 | nil=>
  intro ds' k fuel f g Z hk hl hf _ _ hw h1 h2 h
  obtain⟨fuel,rfl⟩:∃f,fuel=f+1:=⟨fuel-1,by simp at hf;omega⟩
  have hd:decide ((Int.ofNat k)<(Int.ofNat len))=false:=by simp at hk ⊢;omega
  cases ds' with
  | cons _ _=>simp at hl
  | nil=>
   rw[Am,AL]
   unfold RW
   simp -implicitDefEqProofs only[go_sem,QX,Mz,h.g16,h.g17,hd,List.mem_cons]
   exact⟨_,_,_,_,rfl,rfl,Ext.refl _,hw⟩
 | cons d ds ih=>
  intro ds' k fuel f g Z hk hl hf hN hM hw h1 h2 h
  obtain⟨fuel,rfl⟩:∃f,fuel=f+1:=⟨fuel-1,by simp at hf;omega⟩
  have hd:decide ((Int.ofNat k)<(Int.ofNat len))=true:=by simp at hk ⊢;omega
  have hlt:k<len:=by simp at hk;omega
  cases ds' with
  | nil=>simp at hl
  | cons d' ds'=>
   obtain⟨⟨b,off,cs,rfl,hc,hcl,hL⟩,h1r⟩:=h1
   obtain⟨⟨b',off',cs',rfl,hc',hcl',hL'⟩,h2r⟩:=h2
   have hN':D.deep d<=N/\D.deeps ds<=N:=by simp[D.deeps] at hN;omega
   have hM':d.count<1000000000/\D.counts ds<1000000000:=by rw[D.counts] at hM;omega
   obtain⟨k1,z1,t1,q1,c1,l1,rfl,e1⟩:=Qf hL
   obtain⟨k2,z2,t2,q2,c2,l2,rfl,e2⟩:=Qf hL'
   have hb:=hw.cells hc
   have hb':=hw.cells hc'
   have ne1:(b=Z.next)=False:=by simp;omega
   have ne2:(b'=Z.next)=False:=by simp;omega
   rw[e1] at hL
   rw[e2] at hL'
   rw[Am,AL]
   unfold RW
   simp -implicitDefEqProofs only[go_sem,Av,QX,Mz,AfI,SZ,AfJ,S0,h.f1,h.g15,h.g16,h.g17,hd,hlt,hc,hc',hcl,hcl',e1,e2,ne1,ne2,List.mem_cons]
   generalize hff:upd _ 9 _=f1
   generalize hgg:upd _ 25 _=g1
   have x1:Ext Z ((((Z.push (.cells [.int .i64 0,.int .i64 0,.string ⟨#[]⟩,.slice none 0 0] TD) none).put Z.next (.cells [.int .i64 k1,.int .i64 z1,.string t1,.slice q1 l1.length c1] TD) none).push (.cells [.int .i64 0,.int .i64 0,.string ⟨#[]⟩,.slice none 0 0] TD) none).put (Z.next+1) (.cells [.int .i64 k2,.int .i64 z2,.string t2,.slice q2 l2.length c2] TD) none):=((((Ext.refl _).push _ _).put _ _ _ (Nat.le_refl _)).push _ _).put _ _ _ (by omega)
   have hw1:=(((hw.push (.cells [.int .i64 0,.int .i64 0,.string ⟨#[]⟩,.slice none 0 0] TD) none).put Z.next (.cells [.int .i64 k1,.int .i64 z1,.string t1,.slice q1 l1.length c1] TD) none (Nat.lt_succ_self _)).push (.cells [.int .i64 0,.int .i64 0,.string ⟨#[]⟩,.slice none 0 0] TD) none).put (Z.next+1) (.cells [.int .i64 k2,.int .i64 z2,.string t2,.slice q2 l2.length c2] TD) none (Nat.lt_succ_self _)
   have ca:((((Z.push (.cells [.int .i64 0,.int .i64 0,.string ⟨#[]⟩,.slice none 0 0] TD) none).put Z.next (.cells [.int .i64 k1,.int .i64 z1,.string t1,.slice q1 l1.length c1] TD) none).push (.cells [.int .i64 0,.int .i64 0,.string ⟨#[]⟩,.slice none 0 0] TD) none).put (Z.next+1) (.cells [.int .i64 k2,.int .i64 z2,.string t2,.slice q2 l2.length c2] TD) none).cells Z.next=some [.int .i64 k1,.int .i64 z1,.string t1,.slice q1 l1.length c1]:=by rw[Al,if_neg (by omega),Ac,if_neg (by rw[Aq,Aa];omega),Al,if_pos rfl];rfl
   have cb:((((Z.push (.cells [.int .i64 0,.int .i64 0,.string ⟨#[]⟩,.slice none 0 0] TD) none).put Z.next (.cells [.int .i64 k1,.int .i64 z1,.string t1,.slice q1 l1.length c1] TD) none).push (.cells [.int .i64 0,.int .i64 0,.string ⟨#[]⟩,.slice none 0 0] TD) none).put (Z.next+1) (.cells [.int .i64 k2,.int .i64 z2,.string t2,.slice q2 l2.length c2] TD) none).cells (Z.next+1)=some [.int .i64 k2,.int .i64 z2,.string t2,.slice q2 l2.length c2]:=by rw[Al,if_pos rfl];rfl
   generalize aC.put _ _ _ _=a_ at x1 hw1 ca cb ⊢
   have k2':f1 2=.func (.func 128) #[] #[]:=by rw[<-hff];simp -implicitDefEqProofs only[go_sem,reduceCtorEq,h.f2]
   have k8:f1 8=.pointer (some ⟨Z.next,0,none⟩):=by rw[<-hff];simp -implicitDefEqProofs only[go_sem,reduceCtorEq]
   have k9:f1 9=.pointer (some ⟨Z.next+1,0,none⟩):=by rw[<-hff];simp -implicitDefEqProofs only[go_sem,reduceCtorEq]
   obtain⟨_,a9,e3,x2,hw2,rfl⟩:=hE _ _ _ _ a_ hN'.1 hM'.1 hw1 (hL.ext hw x1) (hL'.ext hw x1)
   have m17:g1 17=.int .i64 (.ofNat k):=by rw[<-hgg];simp -implicitDefEqProofs only[go_sem,reduceCtorEq,h.g17,List.mem_cons,true_or,or_true]
   have w1:=EY k (by omega)
   cases e:D.same (.mk k1 z1 t1 l1) (.mk k2 z2 t2 l2) with
   | false=>
    rw[e] at e3
    simp -implicitDefEqProofs only[go_sem,QY,MA,AfK,S1,k2',k8,k9,ca,cb,e3]
    refine⟨_,_,_,_,rfl,?_,x1.trans x2,hw2⟩
    rw[show D.sames (.mk k1 z1 t1 l1::ds) (.mk k2 z2 t2 l2::ds')=(D.same (.mk k1 z1 t1 l1) (.mk k2 z2 t2 l2)&&D.sames ds ds') from rfl,e,if_neg (by simp)]
    exact⟨rfl,by simp -implicitDefEqProofs only[go_sem,reduceCtorEq]⟩
   | true=>
    rw[e] at e3
    simp -implicitDefEqProofs only[go_sem,QY,MA,AfL,S3,k2',k8,k9,ca,cb,e3,m17,w1]
    generalize hg2:upd _ 17 _=g2
    obtain⟨e',f',g',V,a1,a2,a3,a4⟩:=ih ds' (k+1) fuel f1 g2 a9 (by simp at hk;omega) (by simpa using hl) (by simp at hf;omega) hN'.2 hM'.2 hw2 (h1r.ext hw (x1.trans x2)) (h2r.ext hw (x1.trans x2)) {
     f1:=by rw[<-hff];simp -implicitDefEqProofs only[go_sem,reduceCtorEq,h.f1]
     f2:=k2'
     g15:=by rw[<-hg2,<-hgg];simp -implicitDefEqProofs only[go_sem,reduceCtorEq,h.g15,List.mem_cons,true_or,or_true]
     g16:=by rw[<-hg2,<-hgg];simp -implicitDefEqProofs only[go_sem,reduceCtorEq,h.g16,List.mem_cons,true_or,or_true]
     g17:=by rw[<-hg2];simp -implicitDefEqProofs only[go_sem,reduceCtorEq] }
    refine⟨e',f',g',V,a1,?_,(x1.trans x2).trans a3,a4⟩
    rw[show D.sames (.mk k1 z1 t1 l1::ds) (.mk k2 z2 t2 l2::ds')=(D.same (.mk k1 z1 t1 l1) (.mk k2 z2 t2 l2)&&D.sames ds ds') from rfl,e]
    exact a2
theorem M8(n N:Nat)(hE:∀d d' v v' Z,D.deep d<=N->d.count<1000000000->Wf Z->Laid Z v d->Laid Z v' d'->Gives ((env n).call 128 [v,v'] none Z) Z fun w _=>w=.bool (D.same d d'))(p p':Option Addr)(c c':Nat)(ds ds':List D)(Z:aC)(hN:D.deeps ds<=N)(hM:D.counts ds<1000000000)(hw:Wf Z)(h1:LaidE Z p 0 ds)(h2:LaidE Z p' 0 ds'):
  Gives ((env (n+1)).call 154 [.slice p ds.length c,.slice p' ds'.length c',.func (.func 128) #[] #[]] none Z) Z fun w _=>w=.bool (D.sames ds ds'):=by
 rw[Ak _ 154 _ _ rfl,Ahe _ _ _ _ (by simp),Aj]
 unfold Ace
 cases e1:((Int.ofNat ds.length)==(Int.ofNat ds'.length)) with
 | false=>
  simp -implicitDefEqProofs only[go_sem,QV,Mx,QW,My,AfG,SX,e1]
  refine⟨_,_,rfl,Ext.refl _,hw,?_⟩
  have hne:ds.length≠ds'.length:=fun h=>by rw[h] at e1;simp at e1
  cases e:D.sames ds ds' with
  | false=>rfl
  | true=>exact absurd (Hi e) hne
 | true=>
  have hl:ds.length=ds'.length:=Int.ofNat.inj (eq_of_beq e1)
  simp -implicitDefEqProofs only[go_sem,QV,Mx,QW,My,AfH,SY,e1,AwF]
  generalize hff:upd _ 6 _=f1
  generalize hgg:upd _ 17 _=g1
  generalize hb:bG=fuel
  have hlen:ds.length<1000000000000:=by have:=D3 ds;omega
  have hf:ds.length<fuel:=by rw[<-hb];exact hlen
  obtain⟨e',f',g',V,a1,a2,a3,a4⟩:=M7 n N hE p p' ds.length c c' hlen ds ds' 0 fuel f1 g1 Z (by simp) hl hf hN hM hw h1 h2 {
   f1:=by rw[<-hff];simp -implicitDefEqProofs only[go_sem,reduceCtorEq,hl]
   f2:=by rw[<-hff];simp -implicitDefEqProofs only[go_sem,reduceCtorEq]
   g15:=by rw[<-hgg];simp -implicitDefEqProofs only[go_sem,reduceCtorEq]
   g16:=by rw[<-hgg];simp -implicitDefEqProofs only[go_sem,reduceCtorEq]
   g17:=by rw[<-hgg];simp -implicitDefEqProofs only[go_sem,reduceCtorEq]<;>rfl }
  rw[a1]
  cases e:D.sames ds ds' with
  | false=>
   rw[e,if_neg (by simp)] at a2
   obtain⟨rfl,g8⟩:=a2
   simp -implicitDefEqProofs only[go_sem,g8]
   exact⟨_,_,rfl,a3,a4,rfl⟩
  | true=>
   rw[e,if_pos rfl] at a2
   subst a2
   simp -implicitDefEqProofs only[go_sem,Z_,NQ]
   exact⟨_,_,rfl,a3,a4,rfl⟩
theorem LM(a b:Int):(a==b)=decide (a=b):=by
 by_cases h:a=b
 .rw[decide_eq_true h];simp[h]
 .rw[decide_eq_false h];simp[h]
theorem V7(n:Nat):∀(N:Nat) (d d':D) (v v':Value) (Z:aC),D.deep d<=N->d.count<1000000000->Wf Z->Laid Z v d->Laid Z v' d'->Gives ((env (n+2*N)).call 128 [v,v'] none Z) Z fun w _=>w=.bool (D.same d d')
 | 0,d,_,_,_,_,h,_,_,_,_=>by cases d;rw[D.deep] at h;omega
 | N+1,.mk k z t ds,.mk k' z' t' ds',v,v',Z,h,hc,hw,⟨p,c,hv,hE⟩,⟨p',c',hv',hE'⟩=>by
  subst hv hv'
  rw[D.deep] at h
  rw[D.count] at hc
  have:=Zk (n+2*N) k z k' z' t t' (.slice p ds.length c) (.slice p' ds'.length c') (Az _ _ _) (Az _ _ _) Z (D.sames ds ds') hw fun V hx hw'=>
   M8 (n+2*N) N (fun d d' v v' Z a b c e f=>V7 n N d d' v v' Z a b c e f) p p' c c' ds ds' V (by omega) (by omega) hw' (hE.ext hw hx) (hE'.ext hw hx)
  rw[show D.same (.mk k z t ds) (.mk k' z' t' ds')=(decide (k=k')&&decide (z=z')&&(t.toList==t'.toList)&&D.sames ds ds') from rfl,<-LM,<-LM]
  exact this
end Go.Proofs.YtknnbjmcfibpgaaGreatDoor
end
