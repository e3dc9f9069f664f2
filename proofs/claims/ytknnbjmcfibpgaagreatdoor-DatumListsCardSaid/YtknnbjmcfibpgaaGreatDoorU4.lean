import Derived.Test.YtknnbjmcfibpgaaGreatDoorU3
import Derived.Laws.StructEq
set_option linter.unusedSimpArgs false
set_option linter.unusedVariables false
noncomputable section
namespace Go.Proofs.YtknnbjmcfibpgaaGreatDoor
open Go Go.Eng
attribute [local congr] Aa Af Ae Ab Ad
attribute [-go_sem] List.range_succ
theorem UT(n:Nat)(p:Int)(hp:p<=2000)(Z:aC):(env (n+1)).call 84 [.int .i64 p] none Z=.ret (.tuple #[]) none Z:=by
 have hd:decide (p>2000)=false:=by simp;omega
 rw[Al _ 84 _ _ rfl,AoF _ _ _ _ (by simp),Aj]
 unfold AmR
 simp -implicitDefEqProofs only[go_sem,Als,ZO,hd]
theorem E0(n:Nat)(k z:Int)(p:Option Addr)(c:Nat)(Z:aC)(hw:Wf Z):
  Gives ((env (n+1)).call 219 [.agg #[.int .i64 k,.int .i64 z,.string ⟨#[]⟩,.slice p 0 c]] none Z) Z fun w _=>w=.bool true:=by
 have h0:(Int.ofNat 0==0)=true:=rfl
 rw[Al _ 219 _ _ rfl,Uf _ _ _ _ (by simp),Aj]
 unfold Tk
 simp -implicitDefEqProofs only[go_sem,Kl,JE,Km,JF,h0]
 exact⟨_,_,rfl,(Ext.refl _).push _ _,hw.push _ _,rfl⟩
theorem FM(n:Nat)(k:Int)(t:ByteArray)(p:Option Addr)(c:Nat)(Z:aC)(hw:Wf Z):
  Gives ((env (n+1)).call 213 [.agg #[.int .i64 k,.int .i64 0,.string t,.slice p 0 c]] none Z) Z fun w _=>w=.bool true:=by
 have h0:(Int.ofNat 0==0)=true:=rfl
 rw[Al _ 213 _ _ rfl,Ue _ _ _ _ (by simp),Aj]
 unfold Tj
 simp -implicitDefEqProofs only[go_sem,Kj,JC,Kk,JD,h0]
 exact⟨_,_,rfl,(Ext.refl _).push _ _,hw.push _ _,rfl⟩
theorem Qa(n:Nat)(k:Int)(p:Option Addr)(c:Nat)(Z:aC)(hw:Wf Z):
  Gives ((env (n+1)).call 221 [.agg #[.int .i64 k,.int .i64 0,.string ⟨#[]⟩,.slice p 0 c]] none Z) Z fun w _=>w=.bool true:=by
 have h0:(Int.ofNat 0==0)=true:=rfl
 rw[Al _ 221 _ _ rfl,Ug _ _ _ _ (by simp),Aj]
 unfold Tl
 simp -implicitDefEqProofs only[go_sem,H9,H8,Ia,H_,h0]
 exact⟨_,_,rfl,(Ext.refl _).push _ _,hw.push _ _,rfl⟩
theorem Xc(n:Nat)(p:Option Addr)(l c:Nat)(Z:aC)(hw:Wf Z):
  Gives ((env (n+1)).call 223 [.agg #[.int .i64 6,.int .i64 0,.string ⟨#[]⟩,.slice p l c]] none Z) Z fun w _=>w=.bool true:=by
 rw[Al _ 223 _ _ rfl,LS _ _ _ _ (by simp),Aj]
 unfold NC
 simp -implicitDefEqProofs only[go_sem,Gp,GW,Gq,GX]
 exact⟨_,_,rfl,(Ext.refl _).push _ _,hw.push _ _,rfl⟩
theorem UD(n:Nat)(p:Option Addr)(c:Nat)(Z:aC)(hw:Wf Z):
  Gives ((env (n+1)).call 223 [.agg #[.int .i64 5,.int .i64 0,.string ⟨#[]⟩,.slice p 2 c]] none Z) Z fun w _=>w=.bool true:=by
 have h0:(Int.ofNat 2==2)=true:=rfl
 have h1:((5:Int)==6)=false:=rfl
 rw[Al _ 223 _ _ rfl,LS _ _ _ _ (by simp),Aj]
 unfold NC
 simp -implicitDefEqProofs only[go_sem,Gp,GW,Gq,GX,h0,h1]
 exact⟨_,_,rfl,(Ext.refl _).push _ _,hw.push _ _,rfl⟩
def workType(k:Nat):Nat:=if k=0 then 180 else if k<=2 then 177 else if k<=4 then 145 else 181
theorem Fp(n k:Nat)(hk:k<=6)(z:Int)(t:ByteArray)(q:Value)(hq:oneCell q=true)(Z:aC)(hw:Wf Z):
  Gives ((env (n+1)).call 117 [.agg #[.int .i64 (k:Int),.int .i64 z,.string t,q]] none Z) Z fun w _=>w=.iface (workType k) (.agg #[.int .i64 (k:Int),.int .i64 z,.string t,q]):=by
 rw[Al _ 117 _ _ rfl,TZ _ _ _ _ (by simp),Aj]
 unfold Tc
 have fin:∀(o:FObj) (f:Option Nat),Ext Z (Z.push o f)/\Wf (Z.push o f):=fun o f=>⟨(Ext.refl _).push _ _,hw.push _ _⟩
 obtain rfl|rfl|rfl|rfl|rfl|rfl|rfl:k=0\/k=1\/k=2\/k=3\/k=4\/k=5\/k=6:=by omega
 .have e0:(((0:Nat):Int)==0)=true:=rfl
  simp -implicitDefEqProofs only[go_sem,EE,E2,EF,E3,EG,E4,Adc,QA,e0]
  exact⟨_,_,rfl,(fin ..).1,(fin ..).2,rfl⟩
 .have e0:(((1:Nat):Int)==0)=false:=rfl
  have e1:(((1:Nat):Int)==1)=true:=rfl
  simp -implicitDefEqProofs only[go_sem,EE,E2,EF,E3,EG,E4,EU,Fk,O7,K6,e0,e1]
  exact⟨_,_,rfl,(fin ..).1,(fin ..).2,rfl⟩
 .have e0:(((2:Nat):Int)==0)=false:=rfl
  have e1:(((2:Nat):Int)==1)=false:=rfl
  have e2:(((2:Nat):Int)==2)=true:=rfl
  simp -implicitDefEqProofs only[go_sem,EE,E2,EF,E3,EG,E4,EU,Fk,Fv,FR,O7,K6,e0,e1,e2]
  exact⟨_,_,rfl,(fin ..).1,(fin ..).2,rfl⟩
 .have e0:(((3:Nat):Int)==0)=false:=rfl
  have e1:(((3:Nat):Int)==1)=false:=rfl
  have e2:(((3:Nat):Int)==2)=false:=rfl
  have e3:(((3:Nat):Int)==3)=true:=rfl
  simp -implicitDefEqProofs only[go_sem,EE,E2,EF,E3,EG,E4,EU,Fk,Fv,FR,Gh,GN,O8,K7,e0,e1,e2,e3]
  exact⟨_,_,rfl,(fin ..).1,(fin ..).2,rfl⟩
 .have e0:(((4:Nat):Int)==0)=false:=rfl
  have e1:(((4:Nat):Int)==1)=false:=rfl
  have e2:(((4:Nat):Int)==2)=false:=rfl
  have e3:(((4:Nat):Int)==3)=false:=rfl
  have e4:(((4:Nat):Int)==4)=true:=rfl
  simp -implicitDefEqProofs only[go_sem,EE,E2,EF,E3,EG,E4,EU,Fk,Fv,FR,Gh,GN,HP,HO,O8,K7,e0,e1,e2,e3,e4]
  exact⟨_,_,rfl,(fin ..).1,(fin ..).2,rfl⟩
 .have e0:(((5:Nat):Int)==0)=false:=rfl
  have e1:(((5:Nat):Int)==1)=false:=rfl
  have e2:(((5:Nat):Int)==2)=false:=rfl
  have e3:(((5:Nat):Int)==3)=false:=rfl
  have e4:(((5:Nat):Int)==4)=false:=rfl
  have e5:(((5:Nat):Int)==5)=true:=rfl
  simp -implicitDefEqProofs only[go_sem,EE,E2,EF,E3,EG,E4,EU,Fk,Fv,FR,Gh,GN,HP,HO,IC,Hp,Mx,Jm,e0,e1,e2,e3,e4,e5]
  exact⟨_,_,rfl,(fin ..).1,(fin ..).2,rfl⟩
 .have e0:(((6:Nat):Int)==0)=false:=rfl
  have e1:(((6:Nat):Int)==1)=false:=rfl
  have e2:(((6:Nat):Int)==2)=false:=rfl
  have e3:(((6:Nat):Int)==3)=false:=rfl
  have e4:(((6:Nat):Int)==4)=false:=rfl
  have e5:(((6:Nat):Int)==5)=false:=rfl
  have e6:(((6:Nat):Int)==6)=true:=rfl
  simp -implicitDefEqProofs only[go_sem,EE,E2,EF,E3,EG,E4,EU,Fk,Fv,FR,Gh,GN,HP,HO,IC,Hp,Mw,Jl,Mx,Jm,e0,e1,e2,e3,e4,e5,e6]
  exact⟨_,_,rfl,(fin ..).1,(fin ..).2,rfl⟩
theorem Ie(n k:Nat)(z:Int)(hk:k=1/\0<=z/\z<=1\/k=2 /\ -999999999<=z/\z<=999999999)(t:ByteArray)(q:Value)(hq:oneCell q=true)(Z:aC)(hw:Wf Z):
  Gives ((env (n+1)).call 139 [.agg #[.int .i64 (k:Int),.int .i64 z,.string t,q]] none Z) Z fun w _=>w=.tuple #[]:=by
 rw[Al _ 139 _ _ rfl,LQ _ _ _ _ (by simp),Aj]
 unfold NA
 rcases hk with⟨rfl,h1,h2⟩|⟨rfl,h1,h2⟩
 .have e1:(((1:Nat):Int)==1)=true:=rfl
  have d1:decide (z<0)=false:=by simpa using h1
  have d2:decide (z>1)=false:=by simpa using h2
  simp -implicitDefEqProofs only[go_sem,Fw,FT,Fx,FU,Fy,FV,Gi,GP,Fz,FW,e1,d1,d2]
  exact⟨_,_,rfl,(Ext.refl _).push _ _,hw.push _ _,rfl⟩
 .have e1:(((2:Nat):Int)==1)=false:=rfl
  have d1:decide (z < -999999999)=false:=by simp;omega
  have d2:decide (z>999999999)=false:=by simp;omega
  simp -implicitDefEqProofs only[go_sem,Fw,FT,Fx,FU,Fy,FV,Fz,FW,e1,d1,d2]
  exact⟨_,_,rfl,(Ext.refl _).push _ _,hw.push _ _,rfl⟩
theorem Hh(n k:Nat)(z:Int)(t:ByteArray)(q:Value)(hq:oneCell q=true)(Z:aC)(hw:Wf Z)(hk:k=3/\(∀V,Ext Z V->Wf V->Gives ((env n).call 158 [.string t] none V) V fun w _=>w=.bool true)\/
   k=4/\t.size<=60/\(∀V,Ext Z V->Wf V->Gives ((env n).call 159 [.string t] none V) V fun w _=>w=.bool true)):
  Gives ((env (n+1)).call 140 [.agg #[.int .i64 (k:Int),.int .i64 z,.string t,q]] none Z) Z fun w _=>w=.tuple #[]:=by
 have hX:=(Ext.refl Z).push (.cells [.int .i64 (k:Int),.int .i64 z,.string t,q] 145) none
 have hw1:=hw.push (.cells [.int .i64 (k:Int),.int .i64 z,.string t,q] 145) none
 have hc:(Z.push (.cells [.int .i64 (k:Int),.int .i64 z,.string t,q] 145) none).cells Z.next=some [.int .i64 (k:Int),.int .i64 z,.string t,q]:=by rw[Ah,if_pos rfl];rfl
 rw[Al _ 140 _ _ rfl,LR _ _ _ _ (by simp),Aj]
 unfold NB
 rcases hk with⟨rfl,h⟩|⟨rfl,hs,h⟩
 .have e3:(((3:Nat):Int)==3)=true:=rfl
  have e4:(((3:Nat):Int)==4)=false:=rfl
  obtain⟨_,a9,e,hX2,hw2,rfl⟩:=h _ hX hw1
  have hc2:=(hX2.cells (Nat.lt_succ_self _)).trans hc
  simp -implicitDefEqProofs only[go_sem,Gj,GQ,Gk,GR,Gl,GS,Gm,GU,e3,e4,e,hc2]
  exact⟨_,_,rfl,hX.trans hX2,hw2,rfl⟩
 .have e3:(((4:Nat):Int)==3)=false:=rfl
  have e4:(((4:Nat):Int)==4)=true:=rfl
  have d1:decide ((Int.ofNat t.size)>60)=false:=by simp;omega
  obtain⟨_,a9,e,hX2,hw2,rfl⟩:=h _ hX hw1
  have hc2:=(hX2.cells (Nat.lt_succ_self _)).trans hc
  simp -implicitDefEqProofs only[go_sem,Gj,GQ,Gk,GR,Gl,GS,Gm,GU,e3,e4,e,hc2,d1]
  exact⟨_,_,rfl,hX.trans hX2,hw2,rfl⟩
theorem UJ(v:Value)(Z:aC):finvoke Tryz.prog (.iface 180 v) "caracole/datum.formed" [] Z=.enter 221 [v] Z:=by kernel_rfl
theorem Fu(v:Value)(Z:aC):finvoke Tryz.prog (.iface 177 v) "caracole/datum.formed" [] Z=.enter 219 [v] Z:=by kernel_rfl
theorem HE(v:Value)(Z:aC):finvoke Tryz.prog (.iface 145 v) "caracole/datum.formed" [] Z=.enter 213 [v] Z:=by kernel_rfl
theorem HC(v:Value)(Z:aC):finvoke Tryz.prog (.iface 181 v) "caracole/datum.formed" [] Z=.enter 223 [v] Z:=by kernel_rfl
theorem IU(v:Value)(Z:aC):fassert Tryz.prog (.iface 177 v) 177 true Z=.val (.tuple #[v,.bool true]) Z:=by kernel_rfl
theorem PT(v:Value)(Z:aC):fassert Tryz.prog (.iface 145 v) 145 true Z=.val (.tuple #[v,.bool true]) Z:=by kernel_rfl
theorem AeL(v:Value)(Z:aC):fassert Tryz.prog (.iface 180 v) 177 true Z=.val (.tuple #[.agg #[.int .i64 0,.int .i64 0,.string ⟨#[]⟩,.slice none 0 0],.bool false]) Z:=by kernel_rfl
theorem AeM(v:Value)(Z:aC):fassert Tryz.prog (.iface 180 v) 145 true Z=.val (.tuple #[.agg #[.int .i64 0,.int .i64 0,.string ⟨#[]⟩,.slice none 0 0],.bool false]) Z:=by kernel_rfl
theorem KZ(v:Value)(Z:aC):fassert Tryz.prog (.iface 145 v) 177 true Z=.val (.tuple #[.agg #[.int .i64 0,.int .i64 0,.string ⟨#[]⟩,.slice none 0 0],.bool false]) Z:=by kernel_rfl
theorem Ot(v:Value)(Z:aC):fassert Tryz.prog (.iface 181 v) 177 true Z=.val (.tuple #[.agg #[.int .i64 0,.int .i64 0,.string ⟨#[]⟩,.slice none 0 0],.bool false]) Z:=by kernel_rfl
theorem Ou(v:Value)(Z:aC):fassert Tryz.prog (.iface 181 v) 145 true Z=.val (.tuple #[.agg #[.int .i64 0,.int .i64 0,.string ⟨#[]⟩,.slice none 0 0],.bool false]) Z:=by kernel_rfl
inductive Good (m:Nat):Nat->Int->ByteArray->Nat->Prop
 | nil:Good m 0 0 ⟨#[]⟩ 0
 | bool (z:Int) (h:0<=z/\z<=1):Good m 1 z ⟨#[]⟩ 0
 | num (z:Int) (h : -999999999<=z/\z<=999999999):Good m 2 z ⟨#[]⟩ 0
 | sym (t:ByteArray) (h:∀V,Wf V->Gives ((env m).call 158 [.string t] none V) V fun w _=>w=.bool true):Good m 3 0 t 0
 | str (t:ByteArray) (hs:t.size<=60) (h:∀V,Wf V->Gives ((env m).call 159 [.string t] none V) V fun w _=>w=.bool true):Good m 4 0 t 0
 | pair:Good m 5 0 ⟨#[]⟩ 2
 | vec (l:Nat):Good m 6 0 ⟨#[]⟩ l
theorem Mf(n k:Nat)(z:Int)(t:ByteArray)(p:Option Addr)(l c:Nat)(hG:Good n k z t l)(Z:aC)(hw:Wf Z):
  Gives ((env (n+2)).call 112 [.agg #[.int .i64 (k:Int),.int .i64 z,.string t,.slice p l c]] none Z) Z fun w _=>w=.tuple #[]:=by
 have hk:k<=6:=by cases hG<;>decide
 have hX1:=(Ext.refl Z).push (.cells [.int .i64 (k:Int),.int .i64 z,.string t,.slice p l c] 24) none
 have hw1:=hw.push (.cells [.int .i64 (k:Int),.int .i64 z,.string t,.slice p l c] 24) none
 obtain⟨_,a9,e2,hX2,hw2,rfl⟩:=Fp n k hk z t (.slice p l c) rfl _ hw1
 have hX:=hX1.trans hX2
 rw[Al _ 112 _ _ rfl,TY _ _ _ _ (by simp),Aj]
 unfold Tb
 cases hG with
 | nil=>
  obtain⟨_,bT,e3,hX3,hw3,rfl⟩:=Qa n ((0:Nat):Int) p c a9 hw2
  have wt:workType 0=180:=rfl
  simp -implicitDefEqProofs only[go_sem,Dh,DX,Di,DY,Dl,DZ,Ef,Ep,Eg,Er,ET,Fj,e2,wt,UJ,e3,AeL,AeM]
  exact⟨_,_,rfl,hX.trans hX3,hw3,rfl⟩
 | bool z h=>
  obtain⟨_,bT,e3,hX3,hw3,rfl⟩:=E0 n ((1:Nat):Int) z p c a9 hw2
  obtain⟨_,bV,e5,hX5,hw5,rfl⟩:=Ie n 1 z (.inl ⟨rfl,h⟩) ⟨#[]⟩ (.slice p 0 c) rfl ((bT.push (.cells [.int .i64 0,.int .i64 0,.string ⟨#[]⟩,.slice none 0 0] 177) none).put bT.next (.cells [.int .i64 ((1:Nat):Int),.int .i64 z,.string ⟨#[]⟩,.slice p 0 c] 177) none) ((hw3.push _ _).put _ _ _ (Nat.lt_succ_self _))
  have hX4:=(((hX.trans hX3).push (.cells [.int .i64 0,.int .i64 0,.string ⟨#[]⟩,.slice none 0 0] 177) none).put bT.next (.cells [.int .i64 ((1:Nat):Int),.int .i64 z,.string ⟨#[]⟩,.slice p 0 c] 177) none (hX.trans hX3).next).trans hX5
  have wt:workType 1=177:=rfl
  simp -implicitDefEqProofs only[go_sem,Ar,Dh,DX,Di,DY,Dl,DZ,Ef,Ep,Eg,Er,HJ,HI,HL,HK,e2,wt,Fu,e3,IU,e5]
  exact⟨_,_,rfl,hX4,hw5,rfl⟩
 | num z h=>
  obtain⟨_,bT,e3,hX3,hw3,rfl⟩:=E0 n ((2:Nat):Int) z p c a9 hw2
  obtain⟨_,bV,e5,hX5,hw5,rfl⟩:=Ie n 2 z (.inr ⟨rfl,h⟩) ⟨#[]⟩ (.slice p 0 c) rfl ((bT.push (.cells [.int .i64 0,.int .i64 0,.string ⟨#[]⟩,.slice none 0 0] 177) none).put bT.next (.cells [.int .i64 ((2:Nat):Int),.int .i64 z,.string ⟨#[]⟩,.slice p 0 c] 177) none) ((hw3.push _ _).put _ _ _ (Nat.lt_succ_self _))
  have hX4:=(((hX.trans hX3).push (.cells [.int .i64 0,.int .i64 0,.string ⟨#[]⟩,.slice none 0 0] 177) none).put bT.next (.cells [.int .i64 ((2:Nat):Int),.int .i64 z,.string ⟨#[]⟩,.slice p 0 c] 177) none (hX.trans hX3).next).trans hX5
  have wt:workType 2=177:=rfl
  simp -implicitDefEqProofs only[go_sem,Ar,Dh,DX,Di,DY,Dl,DZ,Ef,Ep,Eg,Er,HJ,HI,HL,HK,e2,wt,Fu,e3,IU,e5]
  exact⟨_,_,rfl,hX4,hw5,rfl⟩
 | sym t h=>
  obtain⟨_,bT,e3,hX3,hw3,rfl⟩:=FM n ((3:Nat):Int) t p c a9 hw2
  obtain⟨_,bV,e5,hX5,hw5,rfl⟩:=Hh n 3 0 t (.slice p 0 c) rfl ((bT.push (.cells [.int .i64 0,.int .i64 0,.string ⟨#[]⟩,.slice none 0 0] 145) none).put bT.next (.cells [.int .i64 ((3:Nat):Int),.int .i64 0,.string t,.slice p 0 c] 145) none) ((hw3.push _ _).put _ _ _ (Nat.lt_succ_self _)) (.inl ⟨rfl,fun V _=>h V⟩)
  have hX4:=(((hX.trans hX3).push (.cells [.int .i64 0,.int .i64 0,.string ⟨#[]⟩,.slice none 0 0] 145) none).put bT.next (.cells [.int .i64 ((3:Nat):Int),.int .i64 0,.string t,.slice p 0 c] 145) none (hX.trans hX3).next).trans hX5
  have wt:workType 3=145:=rfl
  simp -implicitDefEqProofs only[go_sem,Ar,Dh,DX,Di,DY,Dl,DZ,Ef,Ep,Eg,Er,ET,Fj,HN,HM,GM,Gg,e2,wt,HE,e3,PT,KZ,e5]
  exact⟨_,_,rfl,hX4,hw5,rfl⟩
 | str t hs h=>
  obtain⟨_,bT,e3,hX3,hw3,rfl⟩:=FM n ((4:Nat):Int) t p c a9 hw2
  obtain⟨_,bV,e5,hX5,hw5,rfl⟩:=Hh n 4 0 t (.slice p 0 c) rfl ((bT.push (.cells [.int .i64 0,.int .i64 0,.string ⟨#[]⟩,.slice none 0 0] 145) none).put bT.next (.cells [.int .i64 ((4:Nat):Int),.int .i64 0,.string t,.slice p 0 c] 145) none) ((hw3.push _ _).put _ _ _ (Nat.lt_succ_self _)) (.inr ⟨rfl,hs,fun V _=>h V⟩)
  have hX4:=(((hX.trans hX3).push (.cells [.int .i64 0,.int .i64 0,.string ⟨#[]⟩,.slice none 0 0] 145) none).put bT.next (.cells [.int .i64 ((4:Nat):Int),.int .i64 0,.string t,.slice p 0 c] 145) none (hX.trans hX3).next).trans hX5
  have wt:workType 4=145:=rfl
  simp -implicitDefEqProofs only[go_sem,Ar,Dh,DX,Di,DY,Dl,DZ,Ef,Ep,Eg,Er,ET,Fj,HN,HM,GM,Gg,e2,wt,HE,e3,PT,KZ,e5]
  exact⟨_,_,rfl,hX4,hw5,rfl⟩
 | pair=>
  obtain⟨_,bT,e3,hX3,hw3,rfl⟩:=UD n p c a9 hw2
  have e3':(env (n+1)).call 223 [.agg #[.int .i64 ((5:Nat):Int),.int .i64 0,.string ⟨#[]⟩,.slice p 2 c]] none a9=.ret (.bool true) none bT:=e3
  have wt:workType 5=181:=rfl
  simp -implicitDefEqProofs only[go_sem,Dh,DX,Di,DY,Dl,DZ,Ef,Ep,Eg,Er,ET,Fj,e2,wt,HC,e3',Ot,Ou]
  exact⟨_,_,rfl,hX.trans hX3,hw3,rfl⟩
 | vec l=>
  obtain⟨_,bT,e3,hX3,hw3,rfl⟩:=Xc n p l c a9 hw2
  have e3':(env (n+1)).call 223 [.agg #[.int .i64 ((6:Nat):Int),.int .i64 0,.string ⟨#[]⟩,.slice p l c]] none a9=.ret (.bool true) none bT:=e3
  have wt:workType 6=181:=rfl
  simp -implicitDefEqProofs only[go_sem,Dh,DX,Di,DY,Dl,DZ,Ef,Ep,Eg,Er,ET,Fj,e2,wt,HC,e3',Ot,Ou]
  exact⟨_,_,rfl,hX.trans hX3,hw3,rfl⟩
end Go.Proofs.YtknnbjmcfibpgaaGreatDoor
namespace Go.Proofs.YtknnbjmcfibpgaaGreatDoor
open Go Go.Eng
attribute [local congr] Aa Af Ae Ab Ad
attribute [-go_sem] List.range_succ
theorem AeC(n:Nat)(t:ByteArray)(ht:t∈symTexts)(Z:aC):(env (n+20)).call 158 [.string t] none Z=.ret (.bool true) none Z:=by
 simp only[symTexts,List.mem_cons,List.not_mem_nil,or_false] at ht
 rcases ht with rfl|rfl|rfl|rfl|rfl|rfl|rfl|rfl<;>kernel_rfl
theorem HH(x y:Operand)(a b:Int)(Z:aC):i_lss Tryz.prog 21 x y (.int .i32 a) (.int .i32 b) Z=.val (.bool (decide (a<b))) Z:=by kernel_rfl
theorem K0(x y:Operand)(a b:Int)(Z:aC):i_gtr Tryz.prog 21 x y (.int .i32 a) (.int .i32 b) Z=.val (.bool (decide (a>b))) Z:=by kernel_rfl
theorem Iw{r:Nat}{Z:aC}{s:ByteArray}{pos w ver c:Nat}(hg:Z.heap.get r=some ⟨.siter s pos,false,none,ver⟩)(h:pos<s.size)(hd:Utf8.decode s pos=(c,w)):
  fnext (.pointer (some ⟨r,0,none⟩)) Z=.val (.tuple #[.bool true,goInt pos,.int .i32 (c:Int)]) (Z.put r (.siter s (pos+w)) none):=by
 unfold fnext
 simp only[hg,hd]
 rw[show Nat.blt pos s.size=true by simpa [Nat.blt_eq] using h]
 rfl
theorem AcO{r:Nat}{Z:aC}{s:ByteArray}{pos ver:Nat}(hg:Z.heap.get r=some ⟨.siter s pos,false,none,ver⟩)(h:¬ pos<s.size):
  fnext (.pointer (some ⟨r,0,none⟩)) Z=.val (.tuple #[.bool false]) Z:=by
 unfold fnext
 simp only[hg]
 rw[show Nat.blt pos s.size=false by rw[<-Bool.not_eq_true,Nat.blt_eq];exact h]
 rfl
def PlainText(s:ByteArray):Prop:=∀pos,pos<s.size->∃c:Nat,Utf8.decode s pos=(c,1)/\32<=c/\c<=126
theorem Abj:bE nls 159=[6]:=by kernel_rfl
theorem Qi(n r:Nat)(s:ByteArray)(hs:PlainText s)(bU:aC)(hr:bU.next<=r):∀(m pos fuel:Nat) (f g:Nat->Value) (Z:aC),pos+m=s.size->m<fuel->g 6=.pointer (some ⟨r,0,none⟩)->Wf Z->Ext bU Z->
  (∃ver,Z.heap.get r=some ⟨.siter s pos,false,none,ver⟩)->
  ∃f' g' V,floop [6] (Hj (env n) none 159) fuel (Sl 5 16 f g []) none Z=.done (.exit 0) (Sl 5 16 f' g' []) none V/\Wf V/\Ext bU V:=by
 intro m
 induction m with
 | zero=>
  intro pos fuel f g Z hp hf h6 hw hX ⟨ver,hg⟩
  obtain⟨fuel,rfl⟩:∃q,fuel=q+1:=⟨fuel-1,by omega⟩
  have hn:=AcO hg (by omega)
  rw[Ao]
  unfold Hj
  simp -implicitDefEqProofs only[go_sem,Gn,GV,h6,hn,List.mem_cons,List.not_mem_nil]
  exact⟨_,_,_,rfl,hw,hX⟩
 | succ m ih=>
  intro pos fuel f g Z hp hf h6 hw hX ⟨ver,hg⟩
  obtain⟨fuel,rfl⟩:∃q,fuel=q+1:=⟨fuel-1,by omega⟩
  obtain⟨c,hd,h1,h2⟩:=hs pos (by omega)
  have hn:=Iw hg (by omega) hd
  have d1:decide ((c:Int)<32)=false:=by simp;omega
  have d2:decide ((c:Int)>126)=false:=by simp;omega
  rw[Ao]
  unfold Hj
  simp -implicitDefEqProofs only[go_sem,Gn,GV,H5,H4,H7,H6,h6,hn,List.mem_cons,List.not_mem_nil,HH,K0,d1,d2]
  refine ih (pos+1) fuel _ _ _ (by omega) (by omega) ?_ (hw.put _ _ _ (hw _ _ hg).1) (hX.put _ _ _ hr) ⟨_,by rw[Am,if_pos rfl]⟩
  simp -implicitDefEqProofs only[go_sem,reduceCtorEq,h6,List.mem_cons,List.not_mem_nil,true_or]
theorem Mg(n:Nat)(s:ByteArray)(hs:PlainText s)(hsz:s.size<1000000)(Z:aC)(hw:Wf Z):Gives ((env (n+1)).call 159 [.string s] none Z) Z fun w _=>w=.bool true:=by
 rw[Al _ 159 _ _ rfl,Ud _ _ _ _ (by simp),Aj]
 unfold Ti
 have hfr:frangeS (.string s) Z=.val (.pointer (some ⟨Z.next,0,none⟩)) (Z.push (.siter s 0) none):=rfl
 simp -implicitDefEqProofs only[go_sem,Pw,Lw,Px,Lx,hfr,Abj]
 generalize hf:upd (fun _=>_) 2 _=f1
 generalize hbf:bF=fuel
 obtain⟨f',g',V,e,hw',hX'⟩:=Qi n Z.next s hs Z (Nat.le_refl _) s.size 0 fuel f1 (upd (upd (fun _=>undef) 5 (.string s)) 6 (.pointer (some ⟨Z.next,0,none⟩))) (Z.push (.siter s 0) none) (by omega) (by rw[<-hbf];show s.size<1000000000000;omega) (by simp -implicitDefEqProofs only[go_sem,reduceCtorEq]) (hw.push _ _) ((Ext.refl _).push _ _) ⟨_,by rw[Ai,if_pos rfl]⟩
 rw[e]
 simp -implicitDefEqProofs only[go_sem,AdS,Re]
 exact⟨_,_,rfl,hX',hw',rfl⟩
theorem AfV(s:ByteArray)(h:((List.range s.size).all fun p=>(Utf8.decode s p).2==1&&decide (32<=(Utf8.decode s p).1)&&decide ((Utf8.decode s p).1<=126))=true):PlainText s:=by
 intro pos hp
 have:=List.all_eq_true.1 h pos (List.mem_range.2 hp)
 simp only[Bool.and_eq_true,beq_iff_eq,decide_eq_true_eq] at this
 exact⟨(Utf8.decode s pos).1,by rw[<-this.1.1],this.1.2,this.2⟩
theorem AeA(n:Nat)(t:ByteArray)(ht:t∈strTexts)(Z:aC)(hw:Wf Z):Gives ((env (n+1)).call 159 [.string t] none Z) Z fun w _=>w=.bool true:=by
 simp only[strTexts,List.mem_cons,List.not_mem_nil,or_false] at ht
 rcases ht with rfl|rfl|rfl|rfl|rfl<;>exact Mg n _ (AfV _ (by kernel_rfl)) (by decide) Z hw
theorem AcZ(n:Nat){k:Int}{z:Int}{t:ByteArray}{l:List D}(h:Leaf (.mk k z t l)):∃k':Nat,k=(k':Int)/\Good (n+20) k' z t 0/\l=[]:=by
 cases h with
 | nil=>exact⟨0,rfl,.nil,rfl⟩
 | bool b=>exact⟨1,rfl,.bool _ (by cases b<;>simp),rfl⟩
 | num z h=>exact⟨2,rfl,.num _ (by omega),rfl⟩
 | sym t ht=>exact⟨3,rfl,.sym _ fun V hw=>⟨_,V,AeC n t ht V,Ext.refl _,hw,rfl⟩,rfl⟩
 | str t ht=>exact⟨4,rfl,.str _ (by
   simp only[strTexts,List.mem_cons,List.not_mem_nil,or_false] at ht
   rcases ht with rfl|rfl|rfl|rfl|rfl<;>decide) fun V hw=>AeA (n+19) t ht V hw,rfl⟩
end Go.Proofs.YtknnbjmcfibpgaaGreatDoor
namespace Go.Proofs.YtknnbjmcfibpgaaGreatDoor
open Go Go.Eng
attribute [local congr] Aa Af Ae Ab Ad
attribute [-go_sem] List.range_succ
theorem Xx(n:Nat)(p:Option Addr)(l:List Int)(cp:Nat)(hl:l.length<9223372036854775808)(Z:aC)(hw:Wf Z)(hI:Ints Z p l)(hp:∀a,p=some a->a.block<Z.next):
  ∃V,(env (n+1)).call 9 [.slice p l.length cp] none Z=.ret (.pointer (some ⟨Z.next,0,none⟩)) none V/\Ext Z V/\Wf V/\Coil V Z.next 0:=by
 rw[Al _ 9 _ _ rfl,Avq _ _ _ _ (by simp),Aj]
 unfold AwD
 simp -implicitDefEqProofs only[go_sem,Ar,Ap5,Ame,Ap6,Amf]
 refine⟨_,rfl,(Ext.refl _).push _ _,hw.push _ _,p,l,cp,_,_,by rw[Ai,if_pos rfl];rfl,?_,hl,hp⟩
 intro i z hi
 obtain⟨b,off,cs,hb,h1,h2⟩:=hI i z hi
 exact⟨b,off,cs,hb,by rw[Ah,if_neg (Nat.ne_of_lt (hp _ hb))];exact h1,h2⟩
theorem Uh(n x:Nat)(k:Int)(hk:k<=2000)(p:Option Addr)(l c:Nat)(Z:aC)(m:Value)(hc:Z.cells x=some [.int .i64 k,m]):
  (env (n+1)).call 110 [.pointer (some ⟨x,0,none⟩),.slice p l c] none Z=.ret (.bool true) none Z:=by
 have d1:decide (k<=2000)=true:=by simpa using hk
 rw[Al _ 110 _ _ rfl,Ae6 _ _ _ _ (by simp),Aj]
 unfold Aax
 cases e:(Int.ofNat l==0) with
 | true=>simp -implicitDefEqProofs only[go_sem,O4,K3,O5,K4,O6,K5,e]
 | false=>simp -implicitDefEqProofs only[go_sem,O4,K3,O5,K4,O6,K5,e,hc,d1]
theorem OQ(n:Nat)(g:Value)(w:Nat)(first:Array Value)(hg:g=.func (.func w) first #[])(k z:Int)(t:ByteArray)(s:Value)(hs:oneCell s=true)(Z:aC)(hw:Wf Z)(h:∀V,Ext Z V->Wf V->Gives ((env n).call w (first.toList++[s]) none V) V fun v _=>v=.bool true):
  Gives ((env (n+1)).call 138 [.agg #[g],.agg #[.int .i64 k,.int .i64 z,.string t,s]] none Z) Z fun v _=>v=s:=by
 subst hg
 have hX1:=((Ext.refl Z).push (.cells [.func (.func w) first #[]] 135) none).push (.cells [.int .i64 k,.int .i64 z,.string t,s] 24) none
 have hw1:=(hw.push (.cells [.func (.func w) first #[]] 135) none).push (.cells [.int .i64 k,.int .i64 z,.string t,s] 24) none
 obtain⟨_,a9,e2,hX2,hw2,rfl⟩:=h _ hX1 hw1
 have c2:a9.cells (Z.next+1)=some [.int .i64 k,.int .i64 z,.string t,s]:=(hX2.cells (Nat.lt_succ_self _)).trans (by rw[Ah,if_pos (by rw[Ac])];rfl)
 rw[Al _ 138 _ _ rfl,Afd _ _ _ _ (by simp),Aj]
 unfold AaE
 simp -implicitDefEqProofs only[go_sem,Ady,QV,Adz,QW,AdA,QX,e2,c2,Ek,E7]
 exact⟨_,_,rfl,hX1.trans hX2,hw2,rfl⟩
end Go.Proofs.YtknnbjmcfibpgaaGreatDoor
namespace Go.Eng
open Go
def D.parts:D->List D
 | .mk _ _ _ ds=>ds
mutual
def D.pieces(path:List Nat):D->List (List Nat×D)
 | .mk k n t ds=>(path,.mk k n t ds)::D.piecesL path 0 ds
def D.piecesL(path:List Nat)(i:Nat):List D->List (List Nat×D)
 | []=>[]
 | d::ds=>D.pieces (path++[i]) d++D.piecesL path (i+1) ds
end
theorem D.pieces_eq(path:List Nat)(d:D):d.pieces path=(path,d)::D.piecesL path 0 d.parts:=by
 cases d
 simp[D.pieces,D.parts]
def wayOf(st:List (List D×Nat)):List Nat:=(st.map (·.2)).reverse
theorem EY(ds:List D)(i:Nat)(r:List (List D×Nat)):wayOf ((ds,i)::r)=wayOf r++[i]:=by simp[wayOf]
theorem Dx(st:List (List D×Nat)):(wayOf st).length=st.length:=by simp[wayOf]
def below:List (List D×Nat)->List (List Nat×D)
 | []=>[]
 | (ds,i)::r=>D.piecesL (wayOf r) (i+1) (ds.drop (i+1))++below r
def todo:List (List D×Nat)->List (List Nat×D)
 | []=>[]
 | (ds,i)::r=>D.piecesL (wayOf r) i (ds.drop i)++below r
theorem FF{ds:List D}{i:Nat}{d:D}(r:List (List D×Nat))(h:ds[i]? = some d):todo ((ds,i)::r)=(wayOf r++[i],d)::todo ((d.parts,0)::(ds,i)::r):=by
 have hd:ds.drop i=d::ds.drop (i+1):=by
  obtain⟨hi,rfl⟩:=List.getElem?_eq_some_iff.1 h
  rw[List.drop_eq_getElem_cons hi]
 show D.piecesL (wayOf r) i (ds.drop i)++below r=_
 rw[hd,D.piecesL,D.pieces_eq]
 show _=(wayOf r++[i],d)::(D.piecesL (wayOf ((ds,i)::r)) 0 (d.parts.drop 0)++below ((ds,i)::r))
 rw[EY,below,List.drop_zero]
 simp
theorem NK{ds:List D}(r:List (List D×Nat)):todo ((ds,ds.length)::r)=below r:=by
 show D.piecesL (wayOf r) ds.length (ds.drop ds.length)++below r=_
 rw[List.drop_length,D.piecesL,List.nil_append]
def bump:List (List D×Nat)->List (List D×Nat)
 | []=>[]
 | (ds,i)::r=>(ds,i+1)::r
theorem Ik(r:List (List D×Nat)):below r=todo (bump r):=by cases r<;>rfl
structure Chg (F:Nat->Prop) (Z V:aC):Prop where
 next:Z.next<=V.next
 clock:Z.clock<=V.clock
 get:∀b,b<Z.next->¬ F b->V.heap.get b=Z.heap.get b
theorem Chg.refl(F:Nat->Prop)(Z:aC):Chg F Z Z:=⟨Nat.le_refl _,Nat.le_refl _,fun _ _ _=>rfl⟩
theorem Chg.trans{F G:Nat->Prop}{Z bW cD:aC}(h:Chg F Z bW)(k:Chg G bW cD)(hG:∀b,b<Z.next->G b->F b):Chg F Z cD:=
 ⟨Nat.le_trans h.next k.next,Nat.le_trans h.clock k.clock,fun b hb hF=>(k.get b (Nat.lt_of_lt_of_le hb h.next) fun hg=>hF (hG b hb hg)).trans (h.get b hb hF)⟩
theorem Chg.weaken{F G:Nat->Prop}{Z V:aC}(h:Chg F Z V)(hG:∀b,b<Z.next->F b->G b):Chg G Z V:=⟨h.next,h.clock,fun b hb hg=>h.get b hb fun hf=>hg (hG b hb hf)⟩
theorem Ext.chg{Z V:aC}(h:Ext Z V)(F:Nat->Prop):Chg F Z V:=⟨h.next,h.clock,fun b hb _=>h.get b hb⟩
theorem Chg.push{F:Nat->Prop}{Z bW:aC}(h:Chg F Z bW)(o:FObj)(fz:Option Nat):Chg F Z (bW.push o fz):=
 ⟨Nat.le_succ_of_le h.next,Nat.le_succ_of_le h.clock,fun b hb hF=>by
  rw[Ai,if_neg (by have:=h.next;omega)]
  exact h.get b hb hF⟩
theorem Chg.put{F:Nat->Prop}{Z bW:aC}(h:Chg F Z bW)(c:Nat)(o:FObj)(fz:Option Nat)(hc:Z.next<=c\/F c):Chg F Z (bW.put c o fz):=
 ⟨h.next,Nat.le_succ_of_le h.clock,fun b hb hF=>by
  rw[Am,if_neg (by
   intro he
   subst he
   rcases hc with hc|hc
   .omega
   .exact hF hc)]
  exact h.get b hb hF⟩
theorem Chg.cells{F:Nat->Prop}{Z V:aC}(h:Chg F Z V){b:Nat}(hb:b<Z.next)(hF:¬ F b):V.cells b=Z.cells b:=by
 rw[AO,AO,h.get b hb hF]
theorem Chg.ext{F:Nat->Prop}{Z V:aC}(h:Chg F Z V)(hF:∀b,b<Z.next->¬ F b):Ext Z V:=⟨h.next,h.clock,fun b hb=>h.get b hb (hF b hb)⟩
def Stk(T:TypeId)(Z:aC)(b:Nat)(s:Value)(vs:List Value):Prop:=
 ∃c fz ver,s=.slice (some ⟨b,0,none⟩) vs.length c.length/\Z.heap.get b=some ⟨.cells c T,false,fz,ver⟩/\(fz=none\/fz=some 1)/\∃more,c=vs++more
section
variable {T:TypeId} {Z V:aC} {b:Nat} {s:Value} {vs:List Value}
theorem Stk.keep(h:Stk T Z b s vs)(hb:V.heap.get b=Z.heap.get b):Stk T V b s vs:=by
 obtain⟨c,fz,ver,h1,h2,h3⟩:=h
 exact⟨c,fz,ver,h1,hb.trans h2,h3⟩
theorem Stk.lt(h:Stk T Z b s vs)(hw:Wf Z):b<Z.next:=by
 obtain⟨c,fz,ver,h1,h2,h3⟩:=h
 exact(hw _ _ h2).1
theorem Stk.cells(h:Stk T Z b s vs):∃more,s=.slice (some ⟨b,0,none⟩) vs.length (vs++more).length/\Z.cells b=some (vs++more):=by
 obtain⟨c,fz,ver,h1,h2,h3,more,rfl⟩:=h
 exact⟨more,h1,Aq h2⟩
theorem Stk.pop{v:Value}(h:Stk T Z b s (vs++[v])):∃n,s=.slice (some ⟨b,0,none⟩) (vs.length+1) n/\vs.length<=n/\Stk T Z b (.slice (some ⟨b,0,none⟩) vs.length n) vs:=by
 obtain⟨c,fz,ver,h1,h2,h3,more,rfl⟩:=h
 exact⟨_,by rw[h1];simp,by simp,_,fz,ver,rfl,h2,h3,v::more,by simp⟩
theorem Stk.set{v v':Value}(h:Stk T Z b s (vs++[v])):∃more fz,Z.heap.get b=some ⟨.cells (vs++v::more) T,false,fz,((Z.heap.get b).map (·.ver)).getD 0⟩/\Stk T (Z.put b (.cells (vs++v'::more) T) fz) b s (vs++[v']):=by
 obtain⟨c,fz,ver,h1,h2,h3,more,rfl⟩:=h
 refine⟨more,fz,by rw[h2];simp,vs++v'::more,fz,Z.clock,?_,by rw[Am,if_pos rfl],h3,more,by simp⟩
 rw[h1]
 simp
theorem Stk.last{v:Value}(h:Stk T Z b s (vs++[v])):∃c,Z.cells b=some c/\c[vs.length]? = some v:=by
 obtain⟨c,fz,ver,h1,h2,h3,more,rfl⟩:=h
 exact⟨_,Aq h2,by simp⟩
theorem Stk.store{v v':Value}(h:Stk T Z b s (vs++[v]))(hw:Wf Z)(ho:oneCell v'=true):
  ∃τ,aK 1 (.pointer (some ⟨b,vs.length,none⟩)) v' Z=.skip τ/\Stk T τ b s (vs++[v'])/\Chg (· = b) Z τ/\Wf τ:=by
 have hb:=h.lt hw
 obtain⟨c,fz,ver,h1,h2,h3,more,rfl⟩:=h
 have hs:(vs++[v]++more).set vs.length v'=vs++v'::more:=by simp
 have hl:vs.length<(vs++[v]++more).length:=by simp
 refine⟨Z.put b (.cells (vs++v'::more) T) fz,?_,⟨vs++v'::more,fz,Z.clock,?_,by rw[Am,if_pos rfl],h3,more,by simp⟩,(Chg.refl (· = b) _).put _ _ _ (.inr rfl),hw.put _ _ _ hb⟩
 .rw[Dn _ _ _ _ ho,h2]
  simp only[]
  rw[if_pos hl,hs]
 .rw[h1]
  simp
theorem Stk.append(h:Stk T Z b s vs)(hw:Wf Z)(v:Value)(bytes bx cx:Nat)(hx:Z.cells bx=some [v])(ho:oneCell v=true)(hby:bytes<1000)(hlen:vs.length<100000):
  ∃b' s' τ,fappend T 1 bytes s (.slice (some ⟨bx,0,none⟩) 1 cx) Z=.val s' τ/\Stk T τ b' s' (vs++[v])/\(b'=b\/b'=Z.next)/\Chg (· = b) Z τ/\Wf τ:=by
 have hb:=h.lt hw
 obtain⟨c,fz,ver,rfl,h2,h3,more,rfl⟩:=h
 cases more with
 | nil=>
  rw[List.append_nil] at h2
  obtain⟨τ,e,hτ⟩:=PR T bytes b bx cx vs.length ver fz vs v Z h2 h3 hx ho rfl hby hlen
  rw[List.append_nil]
  refine⟨Z.next,_,τ,e,?_,.inr rfl,?_,?_⟩
  .rcases hτ with rfl|rfl
   .exact⟨vs++[v],some 1,_,by simp,by rw[Ai,if_pos rfl],.inr rfl,[],by simp⟩
   .exact⟨vs++[v],some 1,_,by simp,by rw[Ai,if_pos (by rw[Aw])],.inr rfl,[],by simp⟩
  .rcases hτ with rfl|rfl
   .exact(Chg.refl (· = b) _).push _ _
   .exact((Chg.refl (· = b) _).put _ _ _ (.inr rfl)).push _ _
  .rcases hτ with rfl|rfl
   .exact hw.push _ _
   .exact(hw.put _ _ _ hb).push _ _
 | cons y more=>
  have hlt:vs.length<(vs++y::more).length:=by simp
  refine⟨b,_,_,PS T bytes b bx cx vs.length (vs++y::more).length ver fz T _ v Z h2 hx ho hlt (Nat.le_refl _),?_,.inl rfl,(Chg.refl (· = b) _).put _ _ _ (.inr rfl),hw.put _ _ _ hb⟩
  have hs:(vs++y::more).set vs.length v=vs++v::more:=by
   rw[List.set_append_right _ _ (Nat.le_refl _),Nat.sub_self]
   rfl
  rw[hs]
  exact⟨vs++v::more,fz,_,by simp,by rw[Am,if_pos rfl],h3,more,by simp⟩
end
end Go.Eng
namespace Go.Proofs.YtknnbjmcfibpgaaGreatDoor
open Go Go.Eng
section
variable (E:Env) (fn:FuncId) (params:List Tmp) (assign body:Code) (nl nt:Nat) (f g:Nat->Value) (ds:List Deferred) (u:Option FrameMode) (Z:aC)
def LoopAt(l r:Nat)(st:LoopState)(Z:aC):Prop:=∃ver,Z.heap.get l=some ⟨.loop st none fn ((List.range nl).map f) g nl nt params assign body r,false,none,ver⟩
theorem J3(t:Nat)(fx:FuncId)(first cap:Array Value)(h:(Sl nl nt f g ds).get t=.func (.func fx) first cap):
  frange E none fn (.tmp t) params assign body (Sl nl nt f g ds) u Z=leaveLoop (Z.next+1) [{ target:=.collected Z.next,args:=#[] }] (Sl nl nt f g ds) u
   (E.call fx (first.toList++[.func (.yield (Z.next+1)) #[] #[]]++cap.toList) none ((Z.push (.defd true) none).push (.loop .ready none fn ((List.range nl).map f) g nl nt params assign body Z.next) none)):=by
 show enterLoop E fn (.tmp t) params assign body Z.next _ _ u _=_
 unfold enterLoop
 rw[Ae3,h]
 rfl
theorem Jb(l r:Nat)(mark:List Deferred)(v:Value)(u':Option FrameMode)(h:LoopAt fn params assign body nl nt f g l r .ready Z):
  leaveLoop l mark (Sl nl nt f g ds) u (.ret v u' Z)=.done .normal (Sl nl nt f g (mark++ds)) u (Z.put l (.loop .exhausted none fn ((List.range nl).map f) g nl nt params assign body r) none):=by
 obtain⟨ver,h⟩:=h
 unfold leaveLoop
 simp only[h]
 rfl
theorem J7:LoopAt fn params assign body nl nt f g (Z.next+1) Z.next .ready ((Z.push (.defd true) none).push (.loop .ready none fn ((List.range nl).map f) g nl nt params assign body Z.next) none):=
 ⟨_,by rw[Ai,if_pos (by rw[Ac])]⟩
end
section
variable (fn:FuncId) (params:List Tmp) (assign body:Code) (nl nt:Nat) (f g:Nat->Value) (Z:aC)
theorem JK(n l r:Nat)(args:List Value)(h:LoopAt fn params assign body nl nt f g l r .ready Z)(hn:args.length=params.length):
  (env (n+1)).round l args Z=(match code Tryz.prog nls assign (env n) (some l) fn (putAll (Sl nl nt f g []) (params.zip args)) none Z with
     | .done .normal a _ Z=>beginRound l (fun Z=>endRound (Tryz.prog.funcs[fn]?).isSome l (code Tryz.prog nls body (env n) (some l) fn a none Z)) Z
     | _=>.no):=by
 obtain⟨ver,h⟩:=h
 rw[AcF]
 unfold fround
 simp only[h]
 rw[show Nat.beq (len args) (len params)=true by rw[Nat.beq_eq,Es,Es];exact hn]
 rfl
theorem EZ(l r:Nat)(k:aC->CRes)(h:LoopAt fn params assign body nl nt f g l r .ready Z):
  beginRound l k Z=k (Z.put l (.loop .busy none fn ((List.range nl).map f) g nl nt params assign body r) none):=by
 obtain⟨ver,h⟩:=h
 unfold beginRound
 simp only[h]
 rfl
theorem Hc(known:Bool)(l r:Nat)(a:aY)(u:Option FrameMode)(h:LoopAt fn params assign body nl nt f g l r .busy Z):
  endRound known l (.done .normal a u Z)=.ret (.bool true) none (Z.put l (.loop .ready none fn ((List.range nl).map f) g nl nt params assign body r) none):=by
 obtain⟨ver,h⟩:=h
 show endJump l .ready none true Z=_
 unfold endJump setJump
 simp only[h]
 rfl
theorem LoopAt.put(l r:Nat)(st:LoopState)(Z:aC):LoopAt fn params assign body nl nt f g l r st (Z.put l (.loop st none fn ((List.range nl).map f) g nl nt params assign body r) none):=⟨_,by rw[Am,if_pos rfl]⟩
theorem GL(a:aY):putAll a []=a:=rfl
theorem FQ(a:aY)(t:Tmp)(v:Value)(l:List (Tmp×Value)):putAll a ((t,v)::l)=putAll (a.put (some t) v) l:=rfl
end
section
variable (P:Program) (E:Env) (rs:List ResultVar) (a:aY) (u:Option FrameMode) (Z:aC)
theorem Gb(r:Nat)(args:Array Value)(ds:List Deferred)(ver:Nat)(h:Z.heap.get r=some ⟨.defd true,false,none,ver⟩):
  fleave P E rs a u ({ target:=.collected r,args:=args }::ds) .returning Z=fleave P E rs a u ds .returning (Z.put r (.defd false) none):=by
 show (cond (isRun .returning) CRes.no (match Z.heap.get r with
    | some e=>(match e.obj with
     | .defd true=>cond e.ro CRes.no (fleave P E rs a u ds .returning (Z.put r (.defd false) none))
     | _=>CRes.no)
    | none=>CRes.no))=_
 rw[h]
 rfl
theorem EB(dst:Option Tmp)(k:aZ)(ro:Option Nat)(l:Nat)(args:List Value)(s:aC):afterOp E ro dst a u k (.yield l args s)=afterCall a dst u k (E.round l args s):=rfl
theorem Eo(l:Nat)(args:List Value):fcallV (.func (.yield l) #[] #[]) args Z=.yield l args Z:=rfl
end
theorem LoopAt.keep{fn:FuncId}{params:List Tmp}{assign body:Code}{nl nt:Nat}{f g:Nat->Value}{l r:Nat}{st:LoopState}{Z V:aC}(h:LoopAt fn params assign body nl nt f g l r st Z)(hb:V.heap.get l=Z.heap.get l):LoopAt fn params assign body nl nt f g l r st V:=by
 obtain⟨ver,h⟩:=h
 exact⟨ver,hb.trans h⟩
theorem AeF{Z:aC}(hw:Wf Z){lam:Nat}(hl:Z.clock<=lam)(b:Nat):(view Z lam).heap.get b=Z.heap.get b:=by
 rw[JO]
 cases hg:Z.heap.get b with
 | none=>rfl
 | some e=>simp only;rw[if_pos (by have:=(hw b e hg).2;omega)]
end Go.Proofs.YtknnbjmcfibpgaaGreatDoor
namespace Go.Proofs.YtknnbjmcfibpgaaGreatDoor
open Go Go.Eng
attribute [local congr] Aa Af Ae Ab Ad
attribute [-go_sem] List.range_succ
abbrev TD:TypeId:=24
abbrev TL:TypeId:=22
abbrev TI:TypeId:=3
def PathAt(Z:aC)(v:Value)(path:List Nat):Prop:=
 ∃p c,v=.slice p path.length c/\((path=[]/\p=none/\c=0)\/∃b more,p=some ⟨b,0,none⟩/\Z.cells b=some ((path.map fun i=>Value.int .i64 (.ofNat i))++more))
structure Body (E:Env) (l:Nat) (R:Nat->Prop) (g:Value) (I:List (List Nat×D)->(Nat->Prop)->aC->Prop) (all:List (List Nat×D)):Prop where
 stays:∀done B Z V,I done B Z->Wf Z->Chg (fun b=>¬ B b/\¬ R b) Z V->I done B V
 own:∀done B Z,I done B Z->∀b,B b->b<Z.next/\¬ R b
 inside:∀done B Z k z t p ln c,I done B Z->Wf Z->Gives (E.call 138 [.agg #[g],.agg #[.int .i64 k,.int .i64 z,.string t,.slice p ln c]] none Z) Z fun v _=>v=.slice p ln c
 go:∀done path d rest B Z pv v,all=done++(path,d)::rest->Wf Z->I done B Z->PathAt Z pv path->aL R Z v d->
  ∃B' V,E.round l [pv,v] Z=.ret (.bool true) none V/\Wf V/\Chg B Z V/\(∀b,B' b->B b\/Z.next<=b)/\I (done++[(path,d)]) B' V
structure BodyTo (kk:Nat) (E:Env) (l:Nat) (R:Nat->Prop) (g:Value) (I:List (List Nat×D)->(Nat->Prop)->aC->Prop) (all:List (List Nat×D)):Prop where
 stays:∀done B Z V,I done B Z->Wf Z->Chg (fun b=>¬ B b/\¬ R b) Z V->I done B V
 own:∀done B Z,I done B Z->∀b,B b->b<Z.next/\¬ R b
 inside:∀done B Z k z t p ln c,I done B Z->Wf Z->Gives (E.call 138 [.agg #[g],.agg #[.int .i64 k,.int .i64 z,.string t,.slice p ln c]] none Z) Z fun v _=>v=.slice p ln c
 go:∀done path d rest B Z pv v,done.length<kk->all=done++(path,d)::rest->Wf Z->I done B Z->PathAt Z pv path->aL R Z v d->
  ∃B' V,E.round l [pv,v] Z=.ret (.bool true) none V/\Wf V/\Chg B Z V/\(∀b,B' b->B b\/Z.next<=b)/\I (done++[(path,d)]) B' V
theorem Body.to{E:Env}{l:Nat}{R:Nat->Prop}{g:Value}{I:List (List Nat×D)->(Nat->Prop)->aC->Prop}{all:List (List Nat×D)}(h:Body E l R g I all):BodyTo all.length E l R g I all:=⟨h.stays,h.own,h.inside,fun done path d rest B Z pv v _=>h.go done path d rest B Z pv v⟩
def Levels(R:Nat->Prop)(Z:aC):Nat->List Value->List (List D×Nat)->Prop
 | _,[],[]=>True
 | m,u::us,(ds,i)::r=>(∃p c,u=.slice p ds.length c/\aO R Z p 0 ds)/\i+m<=ds.length/\ds.length<1000000000/\Levels R Z 1 us r
 | _,_,_=>False
theorem Levels.keep{R:Nat->Prop}{Z V:aC}(h:∀b cs,R b->Z.cells b=some cs->V.cells b=some cs):∀ {m:Nat} {us:List Value} {st:List (List D×Nat)},Levels R Z m us st->Levels R V m us st
 | _,[],[],_=>trivial
 | _,_::_,(_,_)::_,⟨⟨p,c,h1,h2⟩,h3,h4,h5⟩=>⟨⟨p,c,h1,h2.keep fun b cs hb hc=>⟨h b cs hb hc,hb⟩⟩,h3,h4,h5.keep h⟩
theorem Levels.length{R:Nat->Prop}{Z:aC}:∀ {m:Nat} {us:List Value} {st:List (List D×Nat)},Levels R Z m us st->us.length=st.length
 | _,[],[],_=>rfl
 | _,_::_,(_,_)::_,⟨_,_,_,h⟩=>congrArg (· + 1) h.length
theorem Levels.bump{R:Nat->Prop}{Z:aC}:∀ {us:List Value} {st:List (List D×Nat)},Levels R Z 1 us st->Levels R Z 0 us (bump st)
 | [],[],_=>trivial
 | _::_,(_,_)::_,⟨h1,h3,h4,h5⟩=>⟨h1,h3,h4,h5⟩
structure WHead (l:Nat) (R:Nat->Prop) (g:Value) (I:List (List Nat×D)->(Nat->Prop)->aC->Prop) (all:List (List Nat×D)) (bw bo bp base:Nat) (B:Nat->Prop) (us:List Value) (st:List (List D×Nat)) (done:List (List Nat×D)) (f:Nat->Value) (Z:aC):Prop where
 f0:f 0=.func (.yield l) #[] #[]
 f2:f 2=.pointer (some ⟨bw,0,none⟩)
 cw:Z.cells bw=some [g]
 hbw:bw<base/\¬ B bw
 opn:Stk TL Z bo (f 4) us.reverse
 hbo:base<=bo/\¬ B bo
 lev:Levels R Z 0 us st
 low:∀b,R b->b<base
 pth:Stk TI Z bp (f 5) ((wayOf st).map fun i=>.int .i64 (.ofNat i))
 hbp:base<=bp/\¬ B bp
 ne:bo≠bp
 inv:I done B Z
 all:all=done++todo st
 wf:Wf Z
 base:base<=Z.next
theorem aL.shape{R:Nat->Prop}{Z:aC}{v:Value}{d:D}(h:aL R Z v d):∃k z t p c,v=.agg #[.int .i64 k,.int .i64 z,.string t,.slice p d.parts.length c]/\aO R Z p 0 d.parts:=by
 obtain⟨k,z,t,ds⟩:=d
 obtain⟨p,c,h1,h2⟩:=h
 exact⟨k,z,t,p,c,h1,h2⟩
theorem aO.get{R:Nat->Prop}{Z:aC}{p:Option Addr}:∀ {i:Nat} {ds:List D} {k:Nat} {d:D},aO R Z p i ds->ds[k]? = some d->
  ∃b off cs,p=some ⟨b,off,none⟩/\R b/\Z.cells b=some cs/\4<=cs.length-(off+(i+k)*4)/\aL R Z (.agg ((cs.drop (off+(i+k)*4)).take 4).toArray) d
 | i,d::ds,0,_,h,hk=>by
  cases hk
  exact h.1
 | i,d::ds,k+1,_,h,hk=>by
  have:=aO.get (i:=i+1) h.2 (k:=k) (by simpa using hk)
  rwa [show i+1+k=i+(k+1) by omega] at this
 | _,[],_,_,_,hk=>by simp at hk
theorem Anh:under Tryz.prog 44=some (.slice TL):=by kernel_rfl
theorem Aqa:bN Tryz.prog TL=some 1:=by kernel_rfl
theorem NM:under Tryz.prog 25=some (.slice TI):=by kernel_rfl
theorem Tn:bN Tryz.prog TI=some 1:=by kernel_rfl
theorem PK{T t:TypeId}{Z:aC}{b:Nat}{s:Value}{vs:List Value}{v:Value}(h:Stk T Z b s (vs++[v]))(hw:Wf Z)(hu:under Tryz.prog t=some (.slice T))(hs:bN Tryz.prog T=some 1):
  ∃n,s=.slice (some ⟨b,0,none⟩) (vs.length+1) n/\Stk T Z b (.slice (some ⟨b,0,none⟩) vs.length n) vs/\
   fslice Tryz.prog t s none (some (.int .i64 (.ofNat vs.length))) none (view Z Z.clock)=.val (.slice (some ⟨b,0,none⟩) vs.length n) (view Z Z.clock):=by
 obtain⟨n,h1,h2,h3⟩:=h.pop
 obtain⟨c,fz,ver,k1,k2,k3,more,k4⟩:=h3
 refine⟨n,h1,⟨c,fz,ver,k1,k2,k3,more,k4⟩,?_⟩
 rw[h1]
 exact AcS Tryz.prog t T 1 b 0 (vs.length+1) n vs.length _ hu hs h2 c T false fz ver ((AeF hw (Nat.le_refl _) b).trans k2) k3
theorem WHead.top{l:Nat}{R:Nat->Prop}{g:Value}{I:List (List Nat×D)->(Nat->Prop)->aC->Prop}{all:List (List Nat×D)}{bw bo bp base:Nat}{B:Nat->Prop}{u:Value}{us:List Value}{ds:List D}{i:Nat}{r:List (List D×Nat)}{done:List (List Nat×D)}{f:Nat->Value}{Z:aC}(h:WHead l R g I all bw bo bp base B (u::us) ((ds,i)::r) done f Z):
  ∃p c mo mp,u=.slice p ds.length c/\aO R Z p 0 ds/\us.length=r.length/\
   f 4=.slice (some ⟨bo,0,none⟩) (r.length+1) (us.reverse++u::mo).length/\Z.cells bo=some (us.reverse++u::mo)/\(us.reverse++u::mo)[r.length]? = some u/\
   f 5=.slice (some ⟨bp,0,none⟩) (r.length+1) (((wayOf r).map fun i=>Value.int .i64 (.ofNat i))++.int .i64 (.ofNat i)::mp).length/\Z.cells bp=some (((wayOf r).map fun i=>Value.int .i64 (.ofNat i))++.int .i64 (.ofNat i)::mp)/\
   (((wayOf r).map fun i=>Value.int .i64 (.ofNat i))++.int .i64 (.ofNat i)::mp)[r.length]? = some (.int .i64 (.ofNat i)):=by
 obtain⟨⟨p,c,h1,h2⟩,h3,h4,h5⟩:=h.lev
 have hl:=h5.length
 obtain⟨mo,e1,e2⟩:=h.opn.cells
 obtain⟨mp,e3,e4⟩:=h.pth.cells
 rw[List.reverse_cons,List.append_assoc,List.singleton_append] at e1 e2
 rw[EY,List.map_append,List.append_assoc,List.map_singleton,List.singleton_append] at e3 e4
 refine⟨p,c,mo,mp,h1,h2,hl,?_,e2,?_,?_,e4,?_⟩
 .rw[e1]
  simp[hl]
 .rw[List.getElem?_append_right (by simp[hl])]
  simp[hl]
 .rw[e3]
  simp[Dx]
 .rw[List.getElem?_append_right (by simp[Dx])]
  simp[Dx]
end Go.Proofs.YtknnbjmcfibpgaaGreatDoor
namespace Go.Proofs.YtknnbjmcfibpgaaGreatDoor
open Go Go.Eng
attribute [local congr] Aa Af Ae Ab Ad
attribute [-go_sem] List.range_succ
section
variable {kk n l bw bo bp base:Nat} {R:Nat->Prop} {g:Value} {I:List (List Nat×D)->(Nat->Prop)->aC->Prop} {all done:List (List Nat×D)} {B:Nat->Prop} {u:Value} {us:List Value} {ds:List D} {i:Nat} {r:List (List D×Nat)} {f:Nat->Value} {Z:aC}
theorem AaV(k:Nat)(hk:k<1000000000000):wrapI (Int.ofNat (k+1)-1)=Int.ofNat k:=by
 rw[Dj (by rw[Int.ofNat_eq_natCast];omega),Int.ofNat_eq_natCast,Int.ofNat_eq_natCast];omega
theorem AxC(k:Nat)(hk:k<1000000000000):wrapI (Int.ofNat (k+1+1)-2)=Int.ofNat k:=by
 rw[Dj (by rw[Int.ofNat_eq_natCast];omega),Int.ofNat_eq_natCast,Int.ofNat_eq_natCast];omega
theorem Ga(k:Nat)(hk:k<1000000000000):wrapI (Int.ofNat k+1)=Int.ofNat (k+1):=by
 rw[Dj (by rw[Int.ofNat_eq_natCast];omega),Int.ofNat_eq_natCast,Int.ofNat_eq_natCast];omega
theorem Ww(hB:BodyTo kk (env n) l R g I all)(h:WHead l R g I all bw bo bp base B (u::us) ((ds,ds.length)::r) done f Z)(hr:r.length<100000)(gg:Nat->Value):
  ∃f' g' V,F8 (env n) none 137 (Sl 8 80 f gg []) none Z=.done .normal (Sl 8 80 f' g' []) none V/\Chg (fun b=>base<=b/\¬ B b) Z V/\
   WHead l R g I all bw bo bp base B us (bump r) done f' V:=by
 obtain⟨p,c,mo,mp,rfl,hE,hl,h4,co,ho,h5,cp,hp⟩:=h.top
 have hv:=Dw h.wf (Nat.le_refl Z.clock)
 have d0:decide (Int.ofNat (r.length+1)>0)=true:=by simp
 have w1:=AaV r.length (by omega)
 have lt1:r.length<r.length+1:=Nat.lt_succ_self _
 have hopn:=h.opn
 have hpth:=h.pth
 rw[List.reverse_cons] at hopn
 rw[EY,List.map_append,List.map_singleton] at hpth
 obtain⟨no,so1,so2,so3⟩:=PK hopn h.wf Anh Aqa
 obtain⟨np,sp1,sp2,sp3⟩:=PK hpth h.wf NM Tn
 rw[List.length_reverse,hl] at so1 so2 so3
 rw[List.length_map,Dx] at sp1 sp2 sp3
 rw[h4] at so1 so3
 rw[h5] at sp1 sp3
 unfold F8
 simp -implicitDefEqProofs only[go_sem,HR,HQ,J9,Jp,J_,Jq,h4,h5,d0,w1,lt1,hv,co,cp,ho,hp]
 generalize hg:upd _ 33 _=g1
 clear hg
 have f4:upd f 6 (Value.int IntKind.i64 (Int.ofNat (r.length+1))) 4=f 4:=by simp -implicitDefEqProofs only[go_sem,reduceCtorEq]
 have f5:upd f 6 (Value.int IntKind.i64 (Int.ofNat (r.length+1))) 5=f 5:=by simp -implicitDefEqProofs only[go_sem,reduceCtorEq]
 have f0:upd f 6 (Value.int IntKind.i64 (Int.ofNat (r.length+1))) 0=f 0:=by simp -implicitDefEqProofs only[go_sem,reduceCtorEq]
 have f2:upd f 6 (Value.int IntKind.i64 (Int.ofNat (r.length+1))) 2=f 2:=by simp -implicitDefEqProofs only[go_sem,reduceCtorEq]
 have f6:upd f 6 (Value.int IntKind.i64 (Int.ofNat (r.length+1))) 6=Value.int IntKind.i64 (Int.ofNat (r.length+1)):=by simp -implicitDefEqProofs only[go_sem,reduceCtorEq]
 generalize upd f 6 _=f1 at f4 f5 f0 f2 f6 ⊢
 simp -implicitDefEqProofs only[go_sem,Adw,QT,f4,f5,f6,h4,h5,w1,so3,sp3]
 generalize hg:upd g1 _ _=g2
 clear hg
 have q4:upd (upd f1 4 (Value.slice (some ⟨bo,0,none⟩) r.length no)) 5 (Value.slice (some ⟨bp,0,none⟩) r.length np) 4=(Value.slice (some ⟨bo,0,none⟩) r.length no):=by simp -implicitDefEqProofs only[go_sem,reduceCtorEq]
 have q5:upd (upd f1 4 (Value.slice (some ⟨bo,0,none⟩) r.length no)) 5 (Value.slice (some ⟨bp,0,none⟩) r.length np) 5=(Value.slice (some ⟨bp,0,none⟩) r.length np):=by simp -implicitDefEqProofs only[go_sem,reduceCtorEq]
 have q0:upd (upd f1 4 (Value.slice (some ⟨bo,0,none⟩) r.length no)) 5 (Value.slice (some ⟨bp,0,none⟩) r.length np) 0=f 0:=by simp -implicitDefEqProofs only[go_sem,reduceCtorEq,f0]
 have q2:upd (upd f1 4 (Value.slice (some ⟨bo,0,none⟩) r.length no)) 5 (Value.slice (some ⟨bp,0,none⟩) r.length np) 2=f 2:=by simp -implicitDefEqProofs only[go_sem,reduceCtorEq,f2]
 have q6:upd (upd f1 4 (Value.slice (some ⟨bo,0,none⟩) r.length no)) 5 (Value.slice (some ⟨bp,0,none⟩) r.length np) 6=Value.int IntKind.i64 (Int.ofNat (r.length+1)):=by simp -implicitDefEqProofs only[go_sem,reduceCtorEq,f6]
 generalize upd (upd f1 4 _) 5 _=f2' at q4 q5 q0 q2 q6 ⊢
 obtain⟨_,hi,hds,hlev⟩:=h.lev
 have hall:=h.all
 rw[NK,Ik] at hall
 cases r with
 | nil=>
  have d1:decide (Int.ofNat (([]:List (List D×Nat)).length+1)>1)=false:=by decide
  simp -implicitDefEqProofs only[go_sem,Pk,Lj,q6,d1]
  refine⟨_,_,_,rfl,Chg.refl _ _,?_⟩
  exact { f0:=q0.trans h.f0,f2:=q2.trans h.f2,cw:=h.cw,hbw:=h.hbw,opn:=by rw[q4];exact so2,hbo:=h.hbo,lev:=hlev.bump,low:=h.low,pth:=by rw[q5];exact sp2,hbp:=h.hbp,ne:=h.ne,inv:=h.inv,all:=hall,wf:=h.wf,base:=h.base }
 | cons x r'=>
  obtain⟨e,j⟩:=x
  have d1:decide (Int.ofNat ((((e,j)::r'):List (List D×Nat)).length+1)>1)=true:=by simp;omega
  have w2:=AxC r'.length (by simp at hr;omega)
  have hlen:(((e,j)::r'):List (List D×Nat)).length=r'.length+1:=rfl
  cases us with
  | nil=>exact absurd hlev (fun h=>h)
  | cons u' us'=>
   have hlevs:=hlev
   obtain⟨hu,hj,hje,hlev'⟩:=hlev
   have w3:=Ga j (by omega)
   have sp2':=sp2
   rw[EY,List.map_append,List.map_singleton] at sp2'
   obtain⟨cc,k1,k2⟩:=sp2'.last
   obtain⟨τ,k3,k4,k5,k6⟩:=sp2'.store (v':=.int .i64 (.ofNat (j+1))) h.wf (Bf _ _)
   rw[List.length_map,Dx] at k2 k3
   rw[hlen] at q5 q6 d1
   have lt2:r'.length<r'.length+1:=Nat.lt_succ_self _
   simp -implicitDefEqProofs only[go_sem,Pk,Lj,Adx,QU,q6,d1,q5,w2,lt2,k1,k2,w3,k3]
   refine⟨_,_,_,rfl,k5.weaken fun b _ hb=>by subst hb;exact h.hbp,?_⟩
   have hne:bw≠bp:=by have:=h.hbw.1;have:=h.hbp.1;omega
   exact {
       f0:=q0.trans h.f0,f2:=q2.trans h.f2,cw:=(k5.cells (h.wf.cells h.cw) hne).trans h.cw,hbw:=h.hbw,opn:=by rw[q4];exact so2.keep (k5.get bo (so2.lt h.wf) h.ne),hbo:=h.hbo,
       lev:=(Levels.bump hlevs).keep fun b cs hb hc=>(k5.cells (h.wf.cells hc) (by have:=h.low b hb;have:=h.hbp.1;omega)).trans hc,low:=h.low,
       pth:=by rw[q5];show Stk TI τ bp _ ((wayOf ((e,j+1)::r')).map _);rw[EY,List.map_append,List.map_singleton];exact k4,
       hbp:=h.hbp,ne:=h.ne,inv:=hB.stays _ _ _ _ h.inv h.wf (k5.weaken fun b _ hb=>by subst hb;exact⟨h.hbp.2,fun hr=>by have:=h.low _ hr;have:=h.hbp.1;omega⟩),all:=hall,wf:=k6,base:=Nat.le_trans h.base k5.next }
end
end Go.Proofs.YtknnbjmcfibpgaaGreatDoor
namespace Go.Proofs.YtknnbjmcfibpgaaGreatDoor
open Go Go.Eng
attribute [local congr] Aa Af Ae Ab Ad
attribute [-go_sem] List.range_succ
section
variable {kk n l bw bo bp base:Nat} {R:Nat->Prop} {g:Value} {I:List (List Nat×D)->(Nat->Prop)->aC->Prop} {all done:List (List Nat×D)} {B:Nat->Prop} {u:Value} {us:List Value} {ds:List D} {i:Nat} {d:D} {r:List (List D×Nat)} {f:Nat->Value} {Z:aC}
theorem Wv(hB:BodyTo kk (env n) l R g I all)(hk:done.length<kk)(h:WHead l R g I all bw bo bp base B (u::us) ((ds,i)::r) done f Z)(hd:ds[i]? = some d)(hr:r.length<90000)(hps:d.parts.length<1000000000)(gg:Nat->Value):
  ∃f' g' V B' bo' bp' u',F8 (env n) none 137 (Sl 8 80 f gg []) none Z=.done .normal (Sl 8 80 f' g' []) none V/\Chg (fun b=>B b\/base<=b) Z V/\(∀b,B' b->B b\/base<=b)/\
   WHead l R g I all bw bo' bp' base B' (u'::u::us) ((d.parts,0)::(ds,i)::r) (done++[(wayOf r++[i],d)]) f' V:=by
 obtain⟨p,c,mo,mp,rfl,hE,hl,h4,co,ho,h5,cp,hp⟩:=h.top
 have hv:=Dw h.wf (Nat.le_refl Z.clock)
 have d0:decide (Int.ofNat (r.length+1)>0)=true:=by simp
 have w1:=AaV r.length (by omega)
 have lt1:r.length<r.length+1:=Nat.lt_succ_self _
 have hi:i<ds.length:=(List.getElem?_eq_some_iff.1 hd).1
 have ne1:(Int.ofNat i==Int.ofNat ds.length)=false:=by simp;omega
 obtain⟨b,off,cs,rfl,hRb,hcs,hle,hL⟩:=aO.get hE hd
 rw[Nat.zero_add] at hle hL
 obtain⟨k,z,t,q,c',hag,hq⟩:=aL.shape hL
 have htk:(cs.drop (off+i*4)).take 4=[.int .i64 k,.int .i64 z,.string t,.slice q d.parts.length c']:=by
  have:=congrArg (fun v=>match v with|.agg a=>a.toList|_=>[]) hag
  simpa using this
 rw[htk] at hL
 have hall:=h.all
 rw[FF r hd] at hall
 unfold F8
 simp -implicitDefEqProofs only[go_sem,HR,HQ,J9,Jp,J_,Jq,h4,h5,d0,w1,lt1,hv,co,cp,ho,hp,ne1]
 generalize hg:upd _ 33 _=g1
 clear hg
 have f4:upd f 6 (Value.int IntKind.i64 (Int.ofNat (r.length+1))) 4=f 4:=by simp -implicitDefEqProofs only[go_sem,reduceCtorEq]
 have f5:upd f 6 (Value.int IntKind.i64 (Int.ofNat (r.length+1))) 5=f 5:=by simp -implicitDefEqProofs only[go_sem,reduceCtorEq]
 have f0:upd f 6 (Value.int IntKind.i64 (Int.ofNat (r.length+1))) 0=f 0:=by simp -implicitDefEqProofs only[go_sem,reduceCtorEq]
 have f2:upd f 6 (Value.int IntKind.i64 (Int.ofNat (r.length+1))) 2=f 2:=by simp -implicitDefEqProofs only[go_sem,reduceCtorEq]
 have f6:upd f 6 (Value.int IntKind.i64 (Int.ofNat (r.length+1))) 6=Value.int IntKind.i64 (Int.ofNat (r.length+1)):=by simp -implicitDefEqProofs only[go_sem,reduceCtorEq]
 generalize upd f 6 _=f1 at f4 f5 f0 f2 f6 ⊢
 simp -implicitDefEqProofs only[go_sem,Ar,Pm,Ll,f4,f5,f6,h4,h5,w1,lt1,hv,co,cp,ho,hp,hi,hcs,hle,htk]
 generalize hg:upd _ 62 _=g2
 clear hg
 have p0:upd f1 7 (Value.pointer (some ⟨Z.next,0,none⟩)) 0=f 0:=by simp -implicitDefEqProofs only[go_sem,reduceCtorEq,f0]
 have p2:upd f1 7 (Value.pointer (some ⟨Z.next,0,none⟩)) 2=f 2:=by simp -implicitDefEqProofs only[go_sem,reduceCtorEq,f2]
 have p4:upd f1 7 (Value.pointer (some ⟨Z.next,0,none⟩)) 4=f 4:=by simp -implicitDefEqProofs only[go_sem,reduceCtorEq,f4]
 have p5:upd f1 7 (Value.pointer (some ⟨Z.next,0,none⟩)) 5=f 5:=by simp -implicitDefEqProofs only[go_sem,reduceCtorEq,f5]
 have p6:upd f1 7 (Value.pointer (some ⟨Z.next,0,none⟩)) 6=Value.int IntKind.i64 (Int.ofNat (r.length+1)):=by simp -implicitDefEqProofs only[go_sem,reduceCtorEq,f6]
 have p7:upd f1 7 (Value.pointer (some ⟨Z.next,0,none⟩)) 7=Value.pointer (some ⟨Z.next,0,none⟩):=by simp -implicitDefEqProofs only[go_sem,reduceCtorEq]
 generalize upd f1 7 _=f2' at p0 p2 p4 p5 p6 p7 ⊢
 have x1:Ext Z ((Z.push (.cells [.int .i64 0,.int .i64 0,.string ⟨#[]⟩,.slice none 0 0] TD) none).put Z.next (.cells [.int .i64 k,.int .i64 z,.string t,.slice q d.parts.length c'] TD) none):=((Ext.refl _).push _ _).put _ _ _ (Nat.le_refl _)
 have hw1:=(h.wf.push (.cells [.int .i64 0,.int .i64 0,.string ⟨#[]⟩,.slice none 0 0] TD) none).put Z.next (.cells [.int .i64 k,.int .i64 z,.string t,.slice q d.parts.length c'] TD) none (Nat.lt_succ_self _)
 have b1:((Z.push (.cells [.int .i64 0,.int .i64 0,.string ⟨#[]⟩,.slice none 0 0] TD) none).put Z.next (.cells [.int .i64 k,.int .i64 z,.string t,.slice q d.parts.length c'] TD) none).cells Z.next=some [.int .i64 k,.int .i64 z,.string t,.slice q d.parts.length c']:=by rw[Ak,if_pos rfl];rfl
 have hcl:((Z.push (.cells [.int .i64 0,.int .i64 0,.string ⟨#[]⟩,.slice none 0 0] TD) none).put Z.next (.cells [.int .i64 k,.int .i64 z,.string t,.slice q d.parts.length c'] TD) none).clock=Z.clock+2:=rfl
 have hnx:((Z.push (.cells [.int .i64 0,.int .i64 0,.string ⟨#[]⟩,.slice none 0 0] TD) none).put Z.next (.cells [.int .i64 k,.int .i64 z,.string t,.slice q d.parts.length c'] TD) none).next=Z.next+1:=rfl
 generalize aC.put _ _ _ _=a_ at x1 hw1 b1 hcl hnx ⊢
 have hv1:=Dw hw1 (Nat.le_of_eq hcl)
 have hlp:r.length+1<=(List.map (fun i=>Value.int IntKind.i64 (Int.ofNat i)) (wayOf r)++Value.int IntKind.i64 (Int.ofNat i)::mp).length:=by simp[Dx]
 have sl3:=UH Tryz.prog 25 TI 1 bp 0 (r.length+1) _ (r.length+1) (view a_ (Z.clock+2)) NM Tn hlp
 have i1:I done B a_:=hB.stays _ _ _ _ h.inv h.wf (x1.chg _)
 have hbpn:=h.pth.lt h.wf
 have hbon:=h.opn.lt h.wf
 have hP:PathAt a_ (.slice (some ⟨bp,0,none⟩) (r.length+1) (r.length+1)) (wayOf r++[i]):=⟨some ⟨bp,0,none⟩,r.length+1,by simp[Dx],.inr ⟨bp,mp,rfl,by rw[x1.cells hbpn,cp];simp⟩⟩
 have kR:∀b cs,R b->Z.cells b=some cs->a_.cells b=some cs/\R b:=fun b cs hb hc=>⟨(x1.cells (h.wf.cells hc)).trans hc,hb⟩
 obtain⟨B',a9,e2,hw2,ch2,hB',i2⟩:=hB.go done (wayOf r++[i]) d _ B a_ _ _ hk hall hw1 i1 hP (hL.keep kR)
 have ownB:=hB.own _ _ _ h.inv
 have nB:∀b,Z.next<=b->¬ B b:=fun b hb hh=>by have:=(ownB b hh).1;omega
 have b2:a9.cells Z.next=some [.int .i64 k,.int .i64 z,.string t,.slice q d.parts.length c']:=(ch2.cells (by omega) (nB _ (Nat.le_refl _))).trans b1
 have hbwn:=h.wf.cells h.cw
 have cw2:a9.cells bw=some [g]:=(ch2.cells (by omega) h.hbw.2).trans ((x1.cells hbwn).trans h.cw)
 obtain⟨_,bT,e3,x3,hw3,rfl⟩:=hB.inside _ B' a9 k z t q d.parts.length c' i2 hw2
 simp -implicitDefEqProofs only[go_sem,Mz,Jo,p0,p5,p6,p7,h.f0,h5,hv1,b1,sl3,Eo,EB,e2]
 generalize hg:upd _ 70 _=g3
 clear hg
 have nB':∀b,b<a_.next->¬ B b->¬ B' b:=fun b hb h1 h2=>by
  rcases hB' b h2 with h3|h3
  .exact h1 h3
  .omega
 have opn2:Stk TL a9 bo (f 4) (.slice (some ⟨b,off,none⟩) ds.length c::us).reverse:=h.opn.keep ((ch2.get bo (by omega) h.hbo.2).trans (x1.get bo hbon))
 have opn3:Stk TL bT bo (f 4) (.slice (some ⟨b,off,none⟩) ds.length c::us).reverse:=opn2.keep (x3.get bo (opn2.lt hw2))
 have pth2:Stk TI a9 bp (f 5) ((wayOf ((ds,i)::r)).map fun i=>.int .i64 (.ofNat i)):=h.pth.keep ((ch2.get bp (by omega) h.hbp.2).trans (x1.get bp hbpn))
 have pth3:Stk TI bT bp (f 5) ((wayOf ((ds,i)::r)).map fun i=>.int .i64 (.ofNat i)):=pth2.keep (x3.get bp (pth2.lt hw2))
 have x4:Ext bT (bT.push (.cells [.slice q d.parts.length c'] TL) none):=(Ext.refl _).push _ _
 have hw4:=hw3.push (.cells [.slice q d.parts.length c'] TL) none
 have b4:(bT.push (.cells [.slice q d.parts.length c'] TL) none).cells bT.next=some [.slice q d.parts.length c']:=by rw[Ah,if_pos rfl];rfl
 rw[h4] at opn3
 obtain⟨bo',s5,bV,e5,opn5,hbo',ch5,hw5⟩:=(opn3.keep (x4.get bo (opn3.lt hw3))).append hw4 (.slice q d.parts.length c') 24 bT.next 1 b4 (AC _ _ _) (by omega) (by simp[hl];omega)
 have b5:(bV.push (.cells [.int .i64 0] TI) none).cells bV.next=some [.int .i64 0]:=by rw[Ah,if_pos rfl];rfl
 have x6:Ext bV (bV.push (.cells [.int .i64 0] TI) none):=(Ext.refl _).push _ _
 have hw6:=hw5.push (.cells [.int .i64 0] TI) none
 have hne45:bp≠bo:=fun h'=>h.ne h'.symm
 have pth4:=pth3.keep (x4.get bp (pth3.lt hw3))
 have pth5:Stk TI bV bp (f 5) ((wayOf ((ds,i)::r)).map fun i=>.int .i64 (.ofNat i)):=pth4.keep (ch5.get bp (pth4.lt hw4) hne45)
 obtain⟨bp',s7,bZ,e7,pth7,hbp',ch7,hw7⟩:=(pth5.keep (x6.get bp (pth5.lt hw5))).append hw6 (.int .i64 0) 8 bV.next 1 b5 (Bf _ _) (by omega) (by simp[Dx];omega)
 simp -implicitDefEqProofs only[go_sem,XR,MA,p0,p2,p4,p7,h.f2,cw2,b2,e3,h4,Fg,e5]
 generalize hg:upd _ 76 _=g4
 clear hg
 have t0:upd f2' 4 s5 0=f 0:=by simp -implicitDefEqProofs only[go_sem,reduceCtorEq,p0]
 have t2:upd f2' 4 s5 2=f 2:=by simp -implicitDefEqProofs only[go_sem,reduceCtorEq,p2]
 have t4:upd f2' 4 s5 4=s5:=by simp -implicitDefEqProofs only[go_sem,reduceCtorEq]
 have t5:upd f2' 4 s5 5=f 5:=by simp -implicitDefEqProofs only[go_sem,reduceCtorEq,p5]
 generalize upd f2' 4 s5=f3 at t0 t2 t4 t5 ⊢
 simp -implicitDefEqProofs only[go_sem,XS,MB,t5,e7]
 have v0:upd f3 5 s7 0=f 0:=by simp -implicitDefEqProofs only[go_sem,reduceCtorEq,t0]
 have v2:upd f3 5 s7 2=f 2:=by simp -implicitDefEqProofs only[go_sem,reduceCtorEq,t2]
 have v4:upd f3 5 s7 4=s5:=by simp -implicitDefEqProofs only[go_sem,reduceCtorEq,t4]
 have v5:upd f3 5 s7 5=s7:=by simp -implicitDefEqProofs only[go_sem,reduceCtorEq]
 have hbo4:bo<(bT.push (.cells [.slice q d.parts.length c'] TL) none).next:=(opn3.keep (x4.get bo (opn3.lt hw3))).lt hw4
 have n12:=x1.next
 have n23:=ch2.next
 have n34:=x3.next
 have n45:=x4.next
 have n56:=ch5.next
 have n67:=x6.next
 have n78:=ch7.next
 have hbase:=h.base
 have lowB':∀b,B' b->B b\/base<=b:=fun b hb=>by
  rcases hB' b hb with h3|h3
  .exact .inl h3
  .exact .inr (by omega)
 have ownB':=hB.own _ _ _ i2
 have hboB':¬ B' bo:=nB' bo (by omega) h.hbo.2
 have hbpB':¬ B' bp:=nB' bp (by omega) h.hbp.2
 have c27:∀b,b<a9.next->b≠bo->b≠bp->bZ.heap.get b=a9.heap.get b:=fun b hb h1 h2=>
  ((ch7.get b (by omega) h2).trans (x6.get b (by omega))).trans ((ch5.get b (by omega) h1).trans ((x4.get b (by omega)).trans (x3.get b hb)))
 have c17:∀b,b<Z.next->¬ B b->b≠bo->b≠bp->bZ.heap.get b=Z.heap.get b:=fun b hb h0 h1 h2=>
  (c27 b (by omega) h1 h2).trans ((ch2.get b (by omega) h0).trans (x1.get b hb))
 have nbo:base<=bo'/\¬ B' bo'/\bo'<bV.next:=by
  rcases hbo' with rfl|rfl
  .exact⟨h.hbo.1,hboB',by omega⟩
  .exact⟨by omega,fun hb=>by have:=(ownB' _ hb).1;omega,opn5.lt hw5⟩
 have nbp:base<=bp'/\¬ B' bp'/\bo'≠bp':=by
  rcases hbp' with rfl|rfl
  .refine⟨h.hbp.1,hbpB',?_⟩
   rcases hbo' with rfl|rfl
   .exact h.ne
   .omega
  .have:=nbo.2.2
   rw[Ac] at n67 ⊢
   exact⟨by omega,fun hb=>by have:=(ownB' _ hb).1;omega,by omega⟩
 have hcw7:bZ.cells bw=some [g]:=by
  rw[AO,c17 bw hbwn h.hbw.2 (by have:=h.hbw.1;have:=h.hbo.1;omega) (by have:=h.hbw.1;have:=h.hbp.1;omega),<-AO]
  exact h.cw
 have kR7:∀b cs,R b->Z.cells b=some cs->bZ.cells b=some cs:=fun b cs hb hc=>by
  have hlb:=h.low b hb
  rw[AO,c17 b (by omega) (fun hB0=>(ownB b hB0).2 hb) (by have:=h.hbo.1;omega) (by have:=h.hbp.1;omega),<-AO]
  exact hc
 refine⟨_,_,bZ,B',bo',bp',.slice q d.parts.length c',rfl,⟨by omega,by have:=x1.clock;have:=ch2.clock;have:=x3.clock;have:=x4.clock;have:=ch5.clock;have:=x6.clock;have:=ch7.clock;omega,fun b hb hF=>?_⟩,lowB',?_⟩
 .exact c17 b hb (fun h'=>hF (.inl h')) (fun h'=>hF (.inr (by have:=h.hbo.1;omega))) (fun h'=>hF (.inr (by have:=h.hbp.1;omega)))
 .obtain⟨hu,hi0,hds,hlev⟩:=h.lev
  exact {
      f0:=v0.trans h.f0,f2:=v2.trans h.f2,cw:=hcw7,hbw:=⟨h.hbw.1,nB' bw (by omega) h.hbw.2⟩,
      opn:=by
       rw[v4,List.reverse_cons]
       exact opn5.keep ((ch7.get bo' (by omega) (fun h'=>by
        rcases hbp' with h''|h''
        .exact nbp.2.2 (h'.trans h''.symm)
        .have:=nbo.2.2;rw[Ac] at n67;exact absurd h' (by
          intro h3
          rcases hbo' with rfl|rfl
          .exact h.ne h3
          .have:=pth4.lt hw4;omega))).trans (x6.get bo' nbo.2.2)),
      hbo:=⟨nbo.1,nbo.2.1⟩,
      lev:=⟨⟨q,c',rfl,hq.keep fun b cs hb hc=>⟨kR7 b cs hb hc,hb⟩⟩,by omega,hps,⟨(hu.elim fun p' h'=>h'.elim fun c'' h''=>⟨p',c'',h''.1,h''.2.keep fun b cs hb hc=>⟨kR7 b cs hb hc,hb⟩⟩),by omega,hds,hlev.keep kR7⟩⟩,
      low:=h.low,
      pth:=by rw[v5,EY,List.map_append];exact pth7,
      hbp:=⟨nbp.1,nbp.2.1⟩,ne:=nbp.2.2,
      inv:=hB.stays _ _ _ _ i2 hw2 ⟨by omega,by have:=x3.clock;have:=x4.clock;have:=ch5.clock;have:=x6.clock;have:=ch7.clock;omega,fun b hb hn=>c27 b hb (fun h'=>hn ⟨fun hb'=>hboB' (h' ▸ hb'),fun hr=>by have:=h.low b hr;have:=nbo.1;have:=h.hbo.1;omega⟩) (fun h'=>hn ⟨fun hb'=>hbpB' (h' ▸ hb'),fun hr=>by have:=h.low b hr;have:=nbp.1;have:=h.hbp.1;omega⟩)⟩,
      all:=by rw[hall,List.append_assoc,List.singleton_append],wf:=hw7,base:=by omega }
end
end Go.Proofs.YtknnbjmcfibpgaaGreatDoor
namespace Go.Proofs.YtknnbjmcfibpgaaGreatDoor
open Go Go.Eng
attribute [local congr] Aa Af Ae Ab Ad
attribute [-go_sem] List.range_succ
section
variable {n l bw base:Nat} {R:Nat->Prop} {g:Value} {I:List (List Nat×D)->(Nat->Prop)->aC->Prop} {all:List (List Nat×D)}
theorem Aqn:bE nls 137=[]:=by kernel_rfl
def Small(all:List (List Nat×D)):Prop:=∀x∈all,x.1.length<80000/\x.2.parts.length<1000000000
theorem AeG(hB:Body (env n) l R g I all)(hS:Small all):∀(m fuel:Nat) (st:List (List D×Nat)) (us:List Value) (done:List (List Nat×D)) (B:Nat->Prop) (bo bp:Nat) (f gg:Nat->Value) (Z:aC),
  2*(todo st).length+st.length<=m->m<fuel->st.length<=80000->WHead l R g I all bw bo bp base B us st done f Z->
  ∃f' g' V B',floop [] (F8 (env n) none 137) fuel (Sl 8 80 f gg []) none Z=.done (.exit 0) (Sl 8 80 f' g' []) none V/\Chg (fun b=>B b\/base<=b) Z V/\(∀b,B' b->B b\/base<=b)/\Wf V/\I all B' V:=by
 intro m
 induction m with
 | zero=>
  intro fuel st us done B bo bp f gg Z hm hf hst h
  obtain⟨fuel,rfl⟩:∃q,fuel=q+1:=⟨fuel-1,by omega⟩
  obtain rfl:st=[]:=by cases st with|nil=>rfl|cons _ _=>simp at hm
  obtain rfl:us=[]:=List.length_eq_zero_iff.1 h.lev.length
  obtain⟨mo,h4,_⟩:=h.opn.cells
  have hall:=h.all
  have d0:decide (Int.ofNat 0>0)=false:=by decide
  rw[show todo ([]:List (List D×Nat))=[] from rfl,List.append_nil] at hall
  simp only[List.reverse_nil,List.length_nil] at h4
  rw[Ao]
  unfold F8
  simp -implicitDefEqProofs only[go_sem,HR,HQ,h4,d0]
  exact⟨_,_,_,B,rfl,Chg.refl _ _,fun _ hb=>.inl hb,h.wf,hall ▸ h.inv⟩
 | succ m ih=>
  intro fuel st us done B bo bp f gg Z hm hf hst h
  obtain⟨fuel,rfl⟩:∃q,fuel=q+1:=⟨fuel-1,by omega⟩
  cases st with
  | nil=>exact ih (fuel+1) [] us done B bo bp f gg Z (by simp[todo]) (by omega) hst h
  | cons x r=>
   obtain⟨ds,i⟩:=x
   cases us with
   | nil=>exact absurd h.lev (fun h=>h)
   | cons u us=>
    have hi:i<=ds.length:=h.lev.2.1
    have hr:r.length+1<=80000:=hst
    rw[Ao,Bl]
    by_cases he:i=ds.length
    .subst he
     obtain⟨f',g',V,e,hC,hH⟩:=Ww hB.to h (by omega) (kept [] gg)
     rw[e,Az]
     rw[NK,Ik] at hm
     have hlb:(bump r).length=r.length:=by cases r<;>rfl
     obtain⟨f2,g2,a9,B2,e2,hC2,hB2,hw2,hI2⟩:=ih fuel _ _ _ _ _ _ f' g' V (by simp at hm;omega) (by omega) (by omega) hH
     exact⟨f2,g2,a9,B2,e2,(hC.weaken fun b _ hb=>.inr hb.1).trans hC2 (fun b _ hb=>hb),hB2,hw2,hI2⟩
    .have hlt:i<ds.length:=by omega
     have hd:ds[i]? = some ds[i]:=List.getElem?_eq_getElem hlt
     have hall:=h.all
     rw[FF r hd] at hall
     have hx:=hS (wayOf r++[i],ds[i]) (by rw[hall];simp)
     obtain⟨f',g',V,B',bo',bp',u',e,hC,hBB,hH⟩:=Wv hB.to (by rw[hall];simp) h hd (by omega) hx.2 (kept [] gg)
     rw[e,Az]
     rw[FF r hd] at hm
     have hl:(wayOf r++[i]).length=r.length+1:=by simp[Dx]
     have hx1:=hx.1
     simp only[hl] at hx1
     obtain⟨f2,g2,a9,B2,e2,hC2,hB2,hw2,hI2⟩:=ih fuel _ _ _ _ _ _ f' g' V (by simp at hm ⊢;omega) (by omega) (by simp;omega) hH
     refine⟨f2,g2,a9,B2,e2,hC.trans hC2 fun b _ hb=>?_,fun b hb=>?_,hw2,hI2⟩
     .rcases hb with hb|hb
      .exact hBB b hb
      .exact .inr hb
     .rcases hB2 b hb with hb|hb
      .exact hBB b hb
      .exact .inr hb
theorem AwI(d:D)(hB:Body (env n) l R g I (d.pieces []))(hS:Small (d.pieces []))(hN:(d.pieces []).length<100000000000)(b1 b2:Nat)(Z:aC)(v:Value)(lv:List Value)(B:Nat->Prop)(hw:Wf Z)(hi:I [] B Z)(hcv:Z.cells b1=some lv)(hv:v=.agg lv.toArray)(hb1:¬ B b1)(hL:aL R Z v d)(hR:∀b,R b->b<Z.next)(hcw:Z.cells b2=some [g])(hb2:¬ B b2):
  ∃V B',(env (n+1)).call 137 [.func (.yield l) #[] #[],.pointer (some ⟨b1,0,none⟩),.pointer (some ⟨b2,0,none⟩)] none Z=.ret (.tuple #[]) none V/\Chg B Z V/\(∀b,B' b->B b\/Z.next<=b)/\Wf V/\I (d.pieces []) B' V:=by
 subst hv
 obtain⟨k,z,t,q,c',hag,hq⟩:=aL.shape hL
 have hlv:lv=[.int .i64 k,.int .i64 z,.string t,.slice q d.parts.length c']:=by
  have:=congrArg (fun v=>match v with|.agg a=>a.toList|_=>[]) hag
  simpa using this
 subst hlv
 have hpc:=D.pieces_eq [] d
 obtain⟨B',a_,e1,hw1,ch1,hB1,i1⟩:=hB.go [] [] d _ B Z (.slice none 0 0) _ (by rw[hpc];rfl) hw hi ⟨none,0,rfl,.inl ⟨rfl,rfl,rfl⟩⟩ hL
 have ownB:=hB.own _ _ _ hi
 have ownB1:=hB.own _ _ _ i1
 have hb1n:=hw.cells hcv
 have hb2n:=hw.cells hcw
 have n1:=ch1.next
 have cv1:a_.cells b1=some [.int .i64 k,.int .i64 z,.string t,.slice q d.parts.length c']:=(ch1.cells hb1n hb1).trans hcv
 have cw1:a_.cells b2=some [g]:=(ch1.cells hb2n hb2).trans hcw
 obtain⟨_,a9,e2,x2,hw2,rfl⟩:=hB.inside _ B' a_ k z t q d.parts.length c' i1 hw1
 have n2:=x2.next
 have x3:Ext a9 ((a9.push (.cells [.slice q d.parts.length c'] TL) none).push (.cells [.int .i64 0] TI) none):=((Ext.refl _).push _ _).push _ _
 have hw3:=(hw2.push (.cells [.slice q d.parts.length c'] TL) none).push (.cells [.int .i64 0] TI) none
 have hlow:∀b,B' b->B b\/Z.next<=b:=hB1
 have nB:∀b,b<Z.next->¬ B b->¬ B' b:=fun b hb h1 h2=>by
  rcases hB1 b h2 with h3|h3
  .exact h1 h3
  .omega
 have c03:∀b,b<Z.next->¬ B b->((a9.push (.cells [.slice q d.parts.length c'] TL) none).push (.cells [.int .i64 0] TI) none).heap.get b=Z.heap.get b:=fun b hb h0=>
  (x3.get b (by omega)).trans ((x2.get b (by omega)).trans (ch1.get b hb h0))
 have kR:∀b cs,R b->Z.cells b=some cs->((a9.push (.cells [.slice q d.parts.length c'] TL) none).push (.cells [.int .i64 0] TI) none).cells b=some cs:=fun b cs hb hc=>by
  rw[AO,c03 b (hR b hb) (fun hB0=>(ownB b hB0).2 hb),<-AO]
  exact hc
 rw[Al _ 137 _ _ rfl,LP _ _ _ _ (by simp),Aj]
 unfold Nz
 have tk:List.take 4 [Value.int .i64 k,.int .i64 z,.string t,.slice q d.parts.length c']=[.int .i64 k,.int .i64 z,.string t,.slice q d.parts.length c']:=rfl
 simp -implicitDefEqProofs only[go_sem,J8,Jn,Pi,Lh,Pj,Li,hcv,Eo,EB,e1,cw1,cv1,e2,Aqn,Fg]
 generalize hff:upd _ 5 _=f1
 generalize hgg:upd _ 16 _=g1
 generalize hbf:bF=fuel
 have hH:WHead l R g I (d.pieces []) b2 a9.next (a9.next+1) Z.next B' [.slice q d.parts.length c'] [(d.parts,0)] ([]++[([],d)]) f1 ((a9.push (.cells [.slice q d.parts.length c'] TL) none).push (.cells [.int .i64 0] TI) none):={
  f0:=by rw[<-hff];simp -implicitDefEqProofs only[go_sem,reduceCtorEq]
  f2:=by rw[<-hff];simp -implicitDefEqProofs only[go_sem,reduceCtorEq]
  cw:=by rw[AO,c03 b2 hb2n hb2,<-AO];exact hcw
  hbw:=⟨hb2n,nB b2 hb2n hb2⟩
  opn:=⟨_,none,a9.clock,by rw[<-hff];simp -implicitDefEqProofs only[go_sem,reduceCtorEq]<;>rfl,by rw[Ai,if_neg (by rw[Ac];omega),Ai,if_pos rfl];rfl,.inl rfl,[],rfl⟩
  hbo:=⟨by omega,fun h=>by have:=(ownB1 _ h).1;omega⟩
  lev:=⟨⟨q,c',rfl,hq.keep fun b cs hb hc=>⟨kR b cs hb hc,hb⟩⟩,Nat.zero_le _,(hS ([],d) (by rw[hpc];exact List.mem_cons_self)).2,trivial⟩
  low:=hR
  pth:=⟨_,none,a9.clock+1,by rw[<-hff];simp -implicitDefEqProofs only[go_sem,reduceCtorEq]<;>rfl,by rw[Ai,if_pos (by rw[Ac])];rfl,.inl rfl,[],rfl⟩
  hbp:=⟨by omega,fun h=>by have:=(ownB1 _ h).1;omega⟩
  ne:=by omega
  inv:=hB.stays _ _ _ _ i1 hw1 (by
   have:=x2.clock
   have:=x3.clock
   have:=x3.next
   exact⟨by omega,by omega,fun b hb _=>(x3.get b (by omega)).trans (x2.get b hb)⟩)
  all:=by rw[hpc];show _=[]++[([],d)]++(D.piecesL [] 0 (d.parts.drop 0)++[]);simp
  wf:=hw3
  base:=by rw[Ac,Ac];omega }
 obtain⟨f2,g2,bX,B4,e4,ch4,hB4,hw4,i4⟩:=AeG hB hS _ fuel _ _ _ _ _ _ f1 g1 _ (Nat.le_refl _) (by
  rw[<-hbf]
  show _<1000000000000
  have h1:(todo [(d.parts,0)]).length=(D.piecesL [] 0 d.parts).length:=by simp[todo,below,wayOf]
  have h2:=congrArg List.length hpc
  rw[List.length_cons] at h2
  rw[h1,List.length_singleton]
  omega) (by simp) hH
 rw[e4]
 simp -implicitDefEqProofs only[go_sem]
 refine⟨_,B4,rfl,⟨?_,?_,?_⟩,?_,hw4,i4⟩
 .have:=x3.next;have:=ch4.next;omega
 .have:=ch1.clock;have:=x2.clock;have:=x3.clock;have:=ch4.clock;omega
 .intro b hb h0
  have:=x3.next
  rw[ch4.get b (by omega) (fun h=>by
   rcases h with h|h
   .exact nB b hb h0 h
   .omega)]
  exact c03 b hb h0
 .intro b hb
  rcases hB4 b hb with h|h
  .exact hB1 b h
  .exact .inr h
end
end Go.Proofs.YtknnbjmcfibpgaaGreatDoor
namespace Go.Eng
open Go
def Ful(T:TypeId)(Z:aC)(b:Nat)(s:Value)(vs:List Value):Prop:=
 ∃fz ver,s=.slice (some ⟨b,0,none⟩) vs.length vs.length/\Z.heap.get b=some ⟨.cells vs T,false,fz,ver⟩/\(fz=none\/fz=some 1)
section
variable {T:TypeId} {Z V:aC} {b:Nat} {s:Value} {vs:List Value}
theorem Ful.keep(h:Ful T Z b s vs)(hb:V.heap.get b=Z.heap.get b):Ful T V b s vs:=by
 obtain⟨fz,ver,h1,h2,h3⟩:=h
 exact⟨fz,ver,h1,hb.trans h2,h3⟩
theorem Ful.lt(h:Ful T Z b s vs)(hw:Wf Z):b<Z.next:=by
 obtain⟨fz,ver,h1,h2,h3⟩:=h
 exact(hw _ _ h2).1
theorem Ful.cells(h:Ful T Z b s vs):s=.slice (some ⟨b,0,none⟩) vs.length vs.length/\Z.cells b=some vs:=by
 obtain⟨fz,ver,h1,h2,h3⟩:=h
 exact⟨h1,Aq h2⟩
theorem Ful.one(h:Ful T Z b s vs):oneCell s=true/\aU s=true/\aI s=[s]:=by
 obtain⟨fz,ver,rfl,_⟩:=h
 exact⟨AC _ _ _,AG _ _ _,rfl⟩
theorem Ful.push(T:TypeId)(Z:aC)(vs:List Value):Ful T (Z.push (.cells vs T) none) Z.next (.slice (some ⟨Z.next,0,none⟩) vs.length vs.length) vs:=⟨none,Z.clock,rfl,by rw[Ai,if_pos rfl],.inl rfl⟩
theorem J2(bx n cx:Nat)(new rest:List Value)(hx:Z.cells bx=some (new++rest))(hn:new.length=n):fnew 1 (.slice (some ⟨bx,0,none⟩) n cx) Z=some (n,new):=by
 unfold fnew
 simp only[Ei,hx,Nat.mul_one,List.drop_zero,Nat.sub_zero,List.length_append]
 rw[if_pos (by omega),List.take_left' hn]
theorem Ful.append(h:Ful T Z b s vs)(hw:Wf Z)(src:Value)(new:List Value)(bytes:Nat)(hx:fnew 1 src Z=some (new.length,new))(ho:new.all oneCell=true)(hby:bytes<1000)(hlen:vs.length+new.length<100000):
  ∃b' s' τ,fappend T 1 bytes s src Z=.val s' τ/\Ful T τ b' s' (vs++new)/\(b'=b\/b'=Z.next)/\Chg (· = b) Z τ/\Wf τ:=by
 have hb:=h.lt hw
 obtain⟨fz,ver,rfl,h2,h3⟩:=h
 have e0:fappend T 1 bytes (.slice (some ⟨b,0,none⟩) vs.length vs.length) src Z=fappend2 T 1 bytes vs.length vs.length (some ⟨b,0,none⟩) new.length new Z:=by
  unfold fappend
  simp only[hx,ho]
  rfl
 rw[e0]
 unfold fappend2
 by_cases hz:new.length=0
 .obtain rfl:new=[]:=List.length_eq_zero_iff.1 hz
  rw[show Nat.ble (vs.length+([]:List Value).length) vs.length=true by rw[Nat.ble_eq];simp]
  show ∃b' s' τ,fappendRoom 1 vs.length vs.length (some ⟨b,0,none⟩) 0 [] Z=.val s' τ/\_
  unfold fappendRoom
  simp only[h2,D2,Nat.mul_one,Nat.zero_add,List.length_nil,Nat.add_zero,Nat.le_refl,if_true,List.append_nil]
  refine⟨b,_,_,rfl,⟨fz,Z.clock,rfl,?_,h3⟩,.inl rfl,(Chg.refl (· = b) _).put _ _ _ (.inr rfl),hw.put _ _ _ hb⟩
  rw[Am,if_pos rfl]
  simp
 .have hm:(vs.length+new.length)*(bytes+1)<=100000*1000:=Nat.mul_le_mul (by omega) (by omega)
  rw[show Nat.ble (vs.length+new.length) vs.length=false by rw[<-Bool.not_eq_true,Nat.ble_eq];omega,show Nat.ble ((vs.length+new.length)*(bytes+1)) 1000000000=true by rw[Nat.ble_eq];omega]
  show ∃b' s' τ,fappendGrow T 1 vs.length vs.length (some ⟨b,0,none⟩) new.length new Z=.val s' τ/\_
  unfold fappendGrow
  have hc:=Aq h2
  simp only[Ei,hc,h2,List.drop_zero,Nat.sub_zero,Nat.mul_one,Nat.le_refl,if_true]
  rw[List.take_of_length_le (Nat.le_refl _)]
  have hl:vs.length+new.length=(vs++new).length:=by simp
  rcases h3 with rfl|rfl
  .refine⟨Z.next,.slice (some ⟨Z.next,0,none⟩) (vs.length+new.length) (vs.length+new.length),Z.push (.cells (vs++new) T) (some 1),rfl,⟨some 1,Z.clock,by rw[hl],by rw[Ai,if_pos rfl],.inr rfl⟩,.inr rfl,(Chg.refl _ _).push _ _,hw.push _ _⟩
  .rw[show Nat.beq vs.length vs.length=true by rw[Nat.beq_eq]]
   refine⟨Z.next,.slice (some ⟨Z.next,0,none⟩) (vs.length+new.length) (vs.length+new.length),(Z.put b (.defd false) none).push (.cells (vs++new) T) (some 1),rfl,⟨some 1,(Z.put b (.defd false) none).clock,by rw[hl],by rw[Ai,if_pos (by rw[Aw])],.inr rfl⟩,.inr rfl,((Chg.refl (· = b) _).put _ _ _ (.inr rfl)).push _ _,(hw.put _ _ _ hb).push _ _⟩
theorem JP{Z V:aC}(hw:Wf Z){lam:Nat}(hl:Z.clock<=lam){b:Nat}{c:List Value}(hb:V.heap.get b=Z.heap.get b)(hc:Z.cells b=some c):(view V lam).cells b=some c:=by
 rw[AO,JO,hb]
 rw[AO] at hc
 cases hg:Z.heap.get b with
 | none=>rw[hg] at hc;cases hc
 | some e=>
  rw[hg] at hc
  simp only
  rw[if_pos (by have:=(hw b e hg).2;omega)]
  exact hc
def intsOf(path:List Nat):List Value:=path.map fun i=>.int .i64 (.ofNat i)
theorem F7(path:List Nat):(intsOf path).length=path.length:=by simp[intsOf]
def PathV(Q:Nat->Prop)(Z:aC)(v:Value)(path:List Nat):Prop:=
 (v=.slice none 0 0/\path=[])\/∃b cx rest,v=.slice (some ⟨b,0,none⟩) path.length cx/\Q b/\Z.cells b=some (intsOf path++rest)
theorem PathV.keep{Q Q':Nat->Prop}{Z V:aC}{v:Value}{path:List Nat}(h:PathV Q Z v path)(hk:∀b c,Q b->Z.cells b=some c->V.cells b=some c/\Q' b):PathV Q' V v path:=by
 rcases h with h|⟨b,cx,rest,h1,h2,h3⟩
 .exact .inl h
 .exact .inr ⟨b,cx,rest,h1,(hk b _ h2 h3).2,(hk b _ h2 h3).1⟩
theorem PathV.fnew{Q:Nat->Prop}{Z:aC}{v:Value}{path:List Nat}(h:PathV Q Z v path):Eng.fnew 1 v Z=some ((intsOf path).length,intsOf path):=by
 rcases h with⟨rfl,rfl⟩|⟨b,cx,rest,rfl,h2,h3⟩
 .rfl
 .rw[F7]
  exact J2 b path.length cx _ rest h3 (F7 _)
theorem PathV.one{Q:Nat->Prop}{Z:aC}{v:Value}{path:List Nat}(h:PathV Q Z v path):oneCell v=true/\aU v=true/\aI v=[v]:=by
 rcases h with⟨rfl,rfl⟩|⟨b,cx,rest,rfl,h2,h3⟩
 .exact⟨AC _ _ _,AG _ _ _,rfl⟩
 .exact⟨AC _ _ _,AG _ _ _,rfl⟩
def PathsL(Q:Nat->Prop)(Z:aC):List Value->List (List Nat)->Prop
 | [],[]=>True
 | u::us,p::ps=>PathV Q Z u p/\PathsL Q Z us ps
 | _,_=>False
theorem PathsL.keep{Q Q':Nat->Prop}{Z V:aC}(hk:∀b c,Q b->Z.cells b=some c->V.cells b=some c/\Q' b):∀ {us:List Value} {ps:List (List Nat)},PathsL Q Z us ps->PathsL Q' V us ps
 | [],[],_=>trivial
 | _::_,_::_,⟨h1,h2⟩=>⟨h1.keep hk,h2.keep hk⟩
theorem PathsL.length{Q:Nat->Prop}{Z:aC}:∀ {us:List Value} {ps:List (List Nat)},PathsL Q Z us ps->us.length=ps.length
 | [],[],_=>rfl
 | _::_,_::_,⟨_,h2⟩=>congrArg (· + 1) h2.length
theorem PathsL.append{Q:Nat->Prop}{Z:aC}:∀ {us us':List Value} {ps ps':List (List Nat)},PathsL Q Z us ps->PathsL Q Z us' ps'->PathsL Q Z (us++us') (ps++ps')
 | [],_,[],_,_,h=>h
 | _::_,_,_::_,_,⟨h1,h2⟩,h=>⟨h1,h2.append h⟩
theorem PathsL.all{Q:Nat->Prop}{Z:aC}:∀ {us:List Value} {ps:List (List Nat)},PathsL Q Z us ps->us.all oneCell=true
 | [],[],_=>rfl
 | _::_,_::_,⟨h1,h2⟩=>by rw[List.all_cons,h1.one.1,Bool.true_and];exact h2.all
theorem PathsL.get{Q:Nat->Prop}{Z:aC}:∀ {us:List Value} {ps:List (List Nat)} {i:Nat} {p:List Nat},PathsL Q Z us ps->ps[i]? = some p->∃u,us[i]? = some u/\PathV Q Z u p
 | u::_,_::_,0,_,⟨h1,_⟩,h=>by cases h;exact⟨u,rfl,h1⟩
 | _::us,_::ps,i+1,p,⟨_,h2⟩,h=>by
  obtain⟨u,h3,h4⟩:=PathsL.get (i:=i) h2 (by simpa using h)
  exact⟨u,by simpa using h3,h4⟩
 | [],[],_,_,_,h=>by simp at h
end
end Go.Eng
namespace Go.Proofs.YtknnbjmcfibpgaaGreatDoor
open Go Go.Eng
variable (E:Env) (ro:Option Nat) (last:List Nat->aZ) (cl:List Nat) (a:aY) (u:Option FrameMode) (Z:aC)
def S1(_:Unit):List COp:=[⟨fun a Z=>.val (.bool false) Z,some 6,tT⟩]
def Auf:List COp:=S1 ()
def S3(_:Unit):List COp:=[⟨fun a Z=>.val (a.get 1) Z,some 7,tT⟩,
 ⟨fun a Z=>.val (a.get 0) Z,some 8,tT⟩,
 ⟨fun a Z=>i_leq Tryz.prog 3 (.tmp 7) (.tmp 8) (a.get 7) (a.get 8) Z,some 9,tT⟩,
 ⟨fun a Z=>.val (a.get 9) Z,some 10,tT⟩,
 ⟨fun a Z=>.val (a.get 0) Z,some 11,fun a=>gd (a.get 10) true⟩,
 ⟨fun a Z=>.val (a.get 2) Z,some 12,fun a=>gd (a.get 10) true⟩,
 ⟨fun a Z=>i_leq Tryz.prog 3 (.tmp 11) (.tmp 12) (a.get 11) (a.get 12) Z,some 13,fun a=>gd (a.get 10) true⟩,
 ⟨fun a Z=>bM (a.get 10) (a.get 13) (.bool false) Z,some 14,tT⟩,
 ⟨fun a Z=>.val (a.get 14) Z,some 6,tT⟩]
def Aug:List COp:=S3 ()
def AmZ(E:Env)(ro:Option Nat)(fn:FuncId):aZ:=(aF (aD E ro Auf) (aF (aD E ro Aug) bL))
theorem Wn:aD E ro Auf a u Z=aD E ro (S1 ()) a u Z:=rfl
theorem Wo:aD E ro Aug a u Z=aD E ro (S3 ()) a u Z:=rfl
theorem Avl(E:Env)(ro:Option Nat)(fn:FuncId):code Tryz.prog nls (Tryz.f92.body.getD .skip) E ro fn=AmZ E ro fn:=by kernel_rfl
theorem AoN(E:Env)(args:List Value)(u:Option FrameMode)(Z:aC)(hn:args.length<=(6:Nat)):bD Tryz.prog nls E 92 args u Z=aP Tryz.prog E [.tmp 6] (AmZ E none 92 ⟨bB undef 6 args,fun _=>undef,6,15,[]⟩ u Z):=by
 rw[Ap (body:=Tryz.f92.body.getD .skip) Tryz.func92 rfl E args u Z 6 15 (by kernel_rfl) rfl ⟨hn,by decide⟩,Avl]
 rfl
end Go.Proofs.YtknnbjmcfibpgaaGreatDoor
namespace Go.Proofs.YtknnbjmcfibpgaaGreatDoor
open Go Go.Eng
attribute [local congr] Aa Af Ae Ab Ad
attribute [-go_sem] List.range_succ
abbrev TP:TypeId:=25
structure HeadPa (bd bo base:Nat) (R:Nat->Prop) (k z:Int) (t:ByteArray) (q:Option Addr) (c:Nat) (ds:List D) (at':List Nat) (atv:Value) (us:List Value) (ps:List (List Nat)) (bU:aC) (i:Nat) (f:Nat->Value) (Z:aC):Prop where
 f1:f 1=atv
 f2:f 2=.pointer (some ⟨bd,0,none⟩)
 f5:Ful TP Z bo (f 5) us
 f6:f 6=.int .i64 (.ofNat i)
 cd:Z.cells bd=some [.int .i64 k,.int .i64 z,.string t,.slice q ds.length c]
 lay:aO R Z q 0 ds
 low:∀b,R b->b<base
 atp:PathV (· < base) Z atv at'
 hbd:base<=bd/\bd≠bo
 hbo:base<=bo
 lst:PathsL (fun b=>base<=b/\b≠bo) Z us ps
 wf:Wf Z
 ext:Ext bU Z
 le:i<=ds.length
 few:ds.length<10000
def PathsAt(m:Nat)(d:D):Prop:=∀(at':List Nat) (v atv:Value) (R Q:Nat->Prop) (Z:aC),Wf Z->aL R Z v d->PathV Q Z atv at'->at'.length+d.deep<1000->(d.pieces at').length<10000->
 Gives ((env m).call 31 [v,atv] none Z) Z fun w V=>∃b us,Z.next<=b/\Ful TP V b w us/\PathsL (fun b=>Z.next<=b) V us ((d.pieces at').map (·.1))
theorem Ft:∀ {ds:List D} {d:D},d∈ds->d.deep<=D.deeps ds
 | x::ds,d,h=>by
  rw[D.deeps]
  rcases List.mem_cons.1 h with rfl|h
  .omega
  .have:=Ft h;omega
theorem KK:∀(ds:List D) (at':List Nat) (i:Nat),ds.length<=(D.piecesL at' i ds).length
 | [],_,_=>Nat.zero_le _
 | d::ds,at',i=>by
  rw[D.piecesL,List.length_append,D.pieces_eq,List.length_cons,List.length_cons]
  have:=KK ds at' (i+1)
  omega
end Go.Proofs.YtknnbjmcfibpgaaGreatDoor
namespace Go.Proofs.YtknnbjmcfibpgaaGreatDoor
open Go Go.Eng
attribute [local congr] Aa Af Ae Ab Ad
attribute [-go_sem] List.range_succ
theorem WM(n:Nat)(g:Value)(lv:List Value)(Z:aC)(hw:Wf Z)(hg:aU g=true):
  ∃V,(env (n+1)).call 111 [.agg #[g],.agg lv.toArray] none Z=.ret (.func (.func 137) #[] #[.pointer (some ⟨Z.next+1,0,none⟩),.pointer (some ⟨Z.next,0,none⟩)]) none V/\Ext Z V/\Wf V/\V.next=Z.next+2/\V.cells Z.next=some [g]/\V.cells (Z.next+1)=some lv:=by
 rw[Al _ 111 _ _ rfl,Ae7 _ _ _ _ (by simp),Aj]
 unfold Aay
 simp -implicitDefEqProofs only[go_sem,Ada,Qy,Adb,Qz]
 exact⟨_,rfl,((Ext.refl _).push _ _).push _ _,(hw.push _ _).push _ _,rfl,by rw[Ah,if_neg (by rw[Ac];omega),Ah,if_pos rfl];rfl,by rw[Ah,if_pos (by rw[Ac])];rfl⟩
theorem Aaq(m:Nat)(fn:FuncId)(params:List Tmp)(assign body:Code)(nl nt:Nat)(f g:Nat->Value)(ds:List Deferred)(u:Option FrameMode)(t b1 b2:Nat)(Z:aC)(w:Value)(R:Nat->Prop)(d:D)(lv:List Value)(I:List (List Nat×D)->(Nat->Prop)->aC->Prop)(B:Nat->Prop)(hB:Body (env m) (Z.next+1) R w I (d.pieces []))(hS:Small (d.pieces []))(hN:(d.pieces []).length<100000000000)(hl:∀done B V,I done B V->LoopAt fn params assign body nl nt f g (Z.next+1) Z.next .ready V/\∃ver,V.heap.get Z.next=some ⟨.defd true,false,none,ver⟩)(hi:I [] B ((Z.push (.defd true) none).push (.loop .ready none fn ((List.range nl).map f) g nl nt params assign body Z.next) none))(ht:(Sl nl nt f g ds).get t=.func (.func 137) #[] #[.pointer (some ⟨b1,0,none⟩),.pointer (some ⟨b2,0,none⟩)])(hw:Wf Z)(hcv:Z.cells b1=some lv)(hb1:¬ B b1)(hL:aL R Z (.agg lv.toArray) d)(hR:∀b,R b->b<Z.next)(hcw:Z.cells b2=some [w])(hb2:¬ B b2):
  ∃V B',frange (env (m+1)) none fn (.tmp t) params assign body (Sl nl nt f g ds) u Z=
    .done .normal (Sl nl nt f g ({ target:=.collected Z.next,args:=#[] }::ds)) u (V.put (Z.next+1) (.loop .exhausted none fn ((List.range nl).map f) g nl nt params assign body Z.next) none)/\
   Chg B Z V/\Z.next+2<=V.next/\(∀b,B' b->B b\/Z.next<=b)/\Wf V/\I (d.pieces []) B' V:=by
 rw[J3 _ _ _ _ _ _ _ _ _ _ _ _ t _ _ _ ht]
 have x1:Ext Z ((Z.push (.defd true) none).push (.loop .ready none fn ((List.range nl).map f) g nl nt params assign body Z.next) none):=((Ext.refl _).push _ _).push _ _
 have hw1:=(hw.push (.defd true) none).push (.loop .ready none fn ((List.range nl).map f) g nl nt params assign body Z.next) none
 have hn1:((Z.push (.defd true) none).push (.loop .ready none fn ((List.range nl).map f) g nl nt params assign body Z.next) none).next=Z.next+2:=rfl
 generalize aC.push _ (.loop .ready none fn ((List.range nl).map f) g nl nt params assign body Z.next) none=a_ at hi x1 hw1 hn1 ⊢
 have hb1n:=hw.cells hcv
 have hb2n:=hw.cells hcw
 obtain⟨a9,B2,e2,ch2,hB2,hw2,i2⟩:=AwI d hB hS hN b1 b2 a_ _ lv B hw1 hi ((x1.cells hb1n).trans hcv) rfl hb1 (hL.keep fun b cs hb hc=>⟨(x1.cells (hw.cells hc)).trans hc,hb⟩) (fun b hb=>by have:=hR b hb;omega) ((x1.cells hb2n).trans hcw) hb2
 have hargs:(#[]:Array Value).toList++[Value.func (.yield (Z.next+1)) #[] #[]]++(#[.pointer (some ⟨b1,0,none⟩),.pointer (some ⟨b2,0,none⟩)]:Array Value).toList=[.func (.yield (Z.next+1)) #[] #[],.pointer (some ⟨b1,0,none⟩),.pointer (some ⟨b2,0,none⟩)]:=rfl
 rw[hargs,e2,Jb _ _ _ _ _ _ _ _ _ _ _ _ _ _ _ _ (hl _ _ _ i2).1]
 have n2:=ch2.next
 refine⟨a9,B2,rfl,⟨by omega,Nat.le_trans x1.clock ch2.clock,fun b hb h0=>(ch2.get b (by omega) h0).trans (x1.get b hb)⟩,by omega,fun b hb=>?_,hw2,i2⟩
 rcases hB2 b hb with h|h
 .exact .inl h
 .exact .inr (by omega)
def longest(l:List (List Nat×D)):Nat:=l.foldl (fun m x=>max m (x.1.length+1)) 0
def DeepI(l r cm:Nat)(f g:Nat->Value)(done:List (List Nat×D))(B:Nat->Prop)(Z:aC):Prop:=
 (∀b,B b↔b=l\/b=r\/b=cm)/\l<Z.next/\r<Z.next/\cm<Z.next/\LoopAt 65 [7,8] Aux Auy 5 15 f g l r .ready Z/\(∃ver,Z.heap.get r=some ⟨.defd true,false,none,ver⟩)/\
  ∃ver,Z.heap.get cm=some ⟨.cells [.int .i64 (.ofNat (longest done))] TI,false,none,ver⟩
end Go.Proofs.YtknnbjmcfibpgaaGreatDoor
namespace Go.Proofs.YtknnbjmcfibpgaaGreatDoor
open Go Go.Eng
attribute [local congr] Aa Af Ae Ab Ad
attribute [-go_sem] List.range_succ
def AllGood(m:Nat)(all:List (List Nat×D)):Prop:=∀path k z t ds,(path,D.mk k z t ds)∈all->∃k':Nat,k=(k':Int)/\Good m k' z t ds.length
def ValidI(l r cb mp:Nat)(f g:Nat->Value)(done:List (List Nat×D))(B:Nat->Prop)(Z:aC):Prop:=
 (∀b,B b↔b=l\/b=r\/b=cb)/\l<Z.next/\r<Z.next/\cb<Z.next/\LoopAt 64 [12,13] Dy Dz 6 25 f g l r .ready Z/\(∃ver,Z.heap.get r=some ⟨.defd true,false,none,ver⟩)/\
  (∃ver,Z.heap.get cb=some ⟨.cells [.int .i64 (.ofNat done.length),.map (some mp)] 130,false,none,ver⟩)/\done.length<=2000
theorem AaY(m l r cb mp:Nat)(R:Nat->Prop)(f g:Nat->Value)(all:List (List Nat×D))(hne:cb<r/\r<l)(h3:f 3=.pointer (some ⟨cb,0,none⟩))(hR:∀b,R b->b<cb)(hG:AllGood m all)(hN:all.length<=2000):
  Body (env (m+3)) l R (.func (.func 110) #[.pointer (some ⟨cb,0,none⟩)] #[]) (ValidI l r cb mp f g) all where
 stays:=fun done B Z V ⟨h1,h2,h3,h4,h5,⟨v6,h6⟩,⟨v7,h7⟩,h8⟩ hw hC=>by
  have k:∀b,B b->b<Z.next->V.heap.get b=Z.heap.get b:=fun b hb hn=>hC.get b hn fun h=>h.1 hb
  have hn:=hC.next
  exact⟨h1,by omega,by omega,by omega,h5.keep (k l ((h1 l).2 (.inl rfl)) h2),⟨v6,(k r ((h1 r).2 (.inr (.inl rfl))) h3).trans h6⟩,⟨v7,(k cb ((h1 cb).2 (.inr (.inr rfl))) h4).trans h7⟩,h8⟩
 own:=fun done B Z ⟨h1,h2,h3,h4,_⟩ b hb=>by
  rcases (h1 b).1 hb with rfl|rfl|rfl
  .exact⟨h2,fun h=>by have:=hR _ h;omega⟩
  .exact⟨h3,fun h=>by have:=hR _ h;omega⟩
  .exact⟨h4,fun h=>by have:=hR _ h;omega⟩
 inside:=fun done B Z k z t p ln c ⟨h1,h2,h3,h4,h5,h6,⟨v7,h7⟩,h8⟩ hw=>by
  refine OQ (m+2) _ 110 #[.pointer (some ⟨cb,0,none⟩)] rfl k z t (.slice p ln c) (AC _ _ _) Z hw fun V hx hw'=>?_
  have hc:=Aq ((hx.get cb h4).trans h7)
  exact⟨_,V,Uh (m+1) cb (Int.ofNat done.length) (by rw[Int.ofNat_eq_natCast];omega) p ln c V _ hc,Ext.refl _,hw',rfl⟩
 go:=fun done path d rest B Z pv v hall hw ⟨h1,h2,h4,h5,h6,⟨v6,h7⟩,⟨v7,h8⟩,h9⟩ _ hL=>by
  have hlen:done.length+1<=2000:=by have:=congrArg List.length hall;simp at this;omega
  obtain⟨k,z,t,ps⟩:=d
  obtain⟨k',rfl,hGd⟩:=hG path k z t ps (by rw[hall];simp)
  obtain⟨p,c,rfl,hq⟩:=hL
  rw[JK _ _ _ _ _ _ _ _ _ (m+2) l r _ h6 rfl,JS]
  simp -implicitDefEqProofs only[go_sem,Ar,M7,M6,List.zip_cons_cons,List.zip_nil_right,FQ,GL]
  have x1:Ext Z ((Z.push (.cells [.int .i64 0,.int .i64 0,.string ⟨#[]⟩,.slice none 0 0] TD) none).put Z.next (.cells [.int .i64 (k':Int),.int .i64 z,.string t,.slice p ps.length c] TD) none):=((Ext.refl _).push _ _).put _ _ _ (Nat.le_refl _)
  have hw1:=(hw.push (.cells [.int .i64 0,.int .i64 0,.string ⟨#[]⟩,.slice none 0 0] TD) none).put Z.next (.cells [.int .i64 (k':Int),.int .i64 z,.string t,.slice p ps.length c] TD) none (Nat.lt_succ_self _)
  have b1:((Z.push (.cells [.int .i64 0,.int .i64 0,.string ⟨#[]⟩,.slice none 0 0] TD) none).put Z.next (.cells [.int .i64 (k':Int),.int .i64 z,.string t,.slice p ps.length c] TD) none).cells Z.next=some [.int .i64 (k':Int),.int .i64 z,.string t,.slice p ps.length c]:=by rw[Ak,if_pos rfl];rfl
  have n1:((Z.push (.cells [.int .i64 0,.int .i64 0,.string ⟨#[]⟩,.slice none 0 0] TD) none).put Z.next (.cells [.int .i64 (k':Int),.int .i64 z,.string t,.slice p ps.length c] TD) none).next=Z.next+1:=rfl
  generalize aC.put _ _ _ _=a_ at x1 hw1 b1 n1 ⊢
  have l1:=h6.keep (x1.get l h2)
  rw[EZ _ _ _ _ _ _ _ _ _ l r _ l1,JT]
  have hw2:=hw1.put l (.loop .busy none 64 ((List.range 6).map f) g 6 25 [12,13] Dy Dz r) none (by omega)
  have l2:LoopAt 64 [12,13] Dy Dz 6 25 f g l r .busy (a_.put l (.loop .busy none 64 ((List.range 6).map f) g 6 25 [12,13] Dy Dz r) none):=LoopAt.put _ _ _ _ _ _ _ _ _ _ _ _
  have b2:(a_.put l (.loop .busy none 64 ((List.range 6).map f) g 6 25 [12,13] Dy Dz r) none).cells Z.next=some [.int .i64 (k':Int),.int .i64 z,.string t,.slice p ps.length c]:=by rw[Ak,if_neg (by omega)];exact b1
  have g2:(a_.put l (.loop .busy none 64 ((List.range 6).map f) g 6 25 [12,13] Dy Dz r) none).heap.get cb=some ⟨.cells [.int .i64 (.ofNat done.length),.map (some mp)] 130,false,none,v7⟩:=by rw[Am,if_neg (by omega)];exact(x1.get cb h5).trans h8
  have r2:(a_.put l (.loop .busy none 64 ((List.range 6).map f) g 6 25 [12,13] Dy Dz r) none).heap.get r=some ⟨.defd true,false,none,v6⟩:=by rw[Am,if_neg (by omega)];exact(x1.get r h4).trans h7
  have hC2:Chg B Z (a_.put l (.loop .busy none 64 ((List.range 6).map f) g 6 25 [12,13] Dy Dz r) none):=(x1.chg B).put _ _ _ (.inr ((h1 l).2 (.inl rfl)))
  have n2:(a_.put l (.loop .busy none 64 ((List.range 6).map f) g 6 25 [12,13] Dy Dz r) none).next=Z.next+1:=n1
  generalize aC.put _ l _ _=a9 at hw2 l2 b2 g2 r2 hC2 n2 ⊢
  obtain⟨_,bT,e3,x3,hw3,rfl⟩:=Mf m k' z t p ps.length c hGd a9 hw2
  have n3:=x3.next
  have g3:bT.heap.get cb=some ⟨.cells [.int .i64 (.ofNat done.length),.map (some mp)] 130,false,none,v7⟩:=(x3.get cb (by omega)).trans g2
  have c3:=Aq g3
  have w1:=Ga done.length (by omega)
  simp -implicitDefEqProofs only[go_sem,M9,M8,VO,Sq,h3,b2,e3,c3,g3,w1,Nat.le_refl]
  have l3:=(l2.keep (x3.get l (by omega)))
  have l4:∀o:FObj,LoopAt 64 [12,13] Dy Dz 6 25 f g l r .busy (bT.put cb o none):=fun o=>l3.keep (by rw[Am,if_neg (by omega)])
  rw[Hc _ _ _ _ _ _ _ _ _ _ l r _ _ (l4 _)]
  refine⟨B,_,rfl,(hw3.put _ _ _ (by omega)).put _ _ _ (by rw[Aw];omega),((hC2.trans (x3.chg B) (fun b _ h=>h)).put _ _ _ (.inr ((h1 cb).2 (.inr (.inr rfl))))).put _ _ _ (.inr ((h1 l).2 (.inl rfl))),fun b hb=>.inl hb,h1,?_,?_,?_,LoopAt.put _ _ _ _ _ _ _ _ _ _ _ _,⟨v6,?_⟩,⟨bT.clock,?_⟩,by simp;omega⟩
  .rw[Aw,Aw];omega
  .rw[Aw,Aw];omega
  .rw[Aw,Aw];omega
  .rw[Am,if_neg (by omega),Am,if_neg (by omega),x3.get r (by omega)];exact r2
  .rw[Am,if_neg (by omega),Am,if_pos rfl,List.length_append,List.length_singleton]
theorem WI(m:Nat)(d:D)(lv:List Value)(h4:lv.length=4)(R:Nat->Prop)(Z:aC)(hw:Wf Z)(hL:aL R Z (.agg lv.toArray) d)(hR:∀b,R b->b<Z.next)(hS:Small (d.pieces []))(hN:(d.pieces []).length<=2000)(hG:AllGood m (d.pieces [])):
  Gives ((env (m+5)).call 64 [.agg lv.toArray] none Z) Z fun w _=>w=.int .i64 (.ofNat (d.pieces []).length):=by
 rw[Al _ 64 _ _ rfl,Abb _ _ _ _ (by simp),Aj]
 unfold Ab9
 have ht:lv.take 4=lv:=List.take_of_length_le (by omega)
 simp -implicitDefEqProofs only[go_sem,Ar,VL,Sk,VM,Sm,Jg,JN,KG]
 generalize hff:upd _ 3 _=f1
 generalize hg0:upd _ 7 _=g0
 have q1:f1 1=.pointer (some ⟨Z.next,0,none⟩):=by rw[<-hff];simp -implicitDefEqProofs only[go_sem,reduceCtorEq]
 have q3:f1 3=.pointer (some ⟨Z.next+2,0,none⟩):=by rw[<-hff];simp -implicitDefEqProofs only[go_sem,reduceCtorEq]
 clear hff hg0
 have x1:Ext Z ((((Z.push (.cells lv TD) none).push (.map [] 0) none).push (.cells [.int .i64 0,.map none] 130) none).put (Z.next+2) (.cells [.int .i64 0,.map (some (Z.next+1))] 130) none):=((((Ext.refl _).push _ _).push _ _).push _ _).put _ _ _ (by omega)
 have hw1:=(((hw.push (.cells lv TD) none).push (.map [] 0) none).push (.cells [.int .i64 0,.map none] 130) none).put (Z.next+2) (.cells [.int .i64 0,.map (some (Z.next+1))] 130) none (Nat.lt_succ_self _)
 have g1:((((Z.push (.cells lv TD) none).push (.map [] 0) none).push (.cells [.int .i64 0,.map none] 130) none).put (Z.next+2) (.cells [.int .i64 0,.map (some (Z.next+1))] 130) none).heap.get (Z.next+2)=some ⟨.cells [.int .i64 0,.map (some (Z.next+1))] 130,false,none,Z.clock+3⟩:=by rw[Am,if_pos rfl];rfl
 have c1:((((Z.push (.cells lv TD) none).push (.map [] 0) none).push (.cells [.int .i64 0,.map none] 130) none).put (Z.next+2) (.cells [.int .i64 0,.map (some (Z.next+1))] 130) none).cells Z.next=some lv:=by
  rw[Ak,if_neg (by omega),Ah,if_neg (by simp only[Ac];omega),Ah,if_neg (by simp only[Ac];omega),Ah,if_pos rfl];rfl
 have n1:((((Z.push (.cells lv TD) none).push (.map [] 0) none).push (.cells [.int .i64 0,.map none] 130) none).put (Z.next+2) (.cells [.int .i64 0,.map (some (Z.next+1))] 130) none).next=Z.next+3:=rfl
 generalize aC.put _ _ _ _=a_ at x1 hw1 g1 c1 n1 ⊢
 obtain⟨a9,e2,x2,hw2,n2,cb2,cb1⟩:=WM (m+3) (.func (.func 110) #[.pointer (some ⟨Z.next+2,0,none⟩)] #[]) lv a_ hw1 (Ek _ _ _)
 simp -implicitDefEqProofs only[go_sem,VN,Sn,q1,q3,c1,h4,ht,e2,Nat.le_refl,Ek,E7]
 generalize hgg:upd _ 11 _=gg
 have hL2:aL R a9 (.agg lv.toArray) d:=hL.keep fun b cs hb hc=>⟨((x1.trans x2).cells (hw.cells hc)).trans hc,hb⟩
 have hcm2:a9.heap.get (Z.next+2)=some ⟨.cells [.int .i64 0,.map (some (Z.next+1))] 130,false,none,Z.clock+3⟩:=(x2.get _ (by omega)).trans g1
 obtain⟨bT,B3,e3,ch3,n3,hB3,hw3,i3⟩:=Aaq (m+3) 64 [12,13] Dy Dz 6 25 f1 gg [] none 11 (a_.next+1) a_.next a9 (.func (.func 110) #[.pointer (some ⟨Z.next+2,0,none⟩)] #[]) R d lv (ValidI (a9.next+1) a9.next (Z.next+2) (Z.next+1) f1 gg) (fun b=>b=a9.next+1\/b=a9.next\/b=Z.next+2)
  (AaY m (a9.next+1) a9.next (Z.next+2) (Z.next+1) R f1 gg _ ⟨by omega,by omega⟩ q3 (fun b hb=>by have:=hR b hb;omega) hG hN) hS (by omega)
  (fun done B V ⟨_,_,_,_,h5,h6,_⟩=>⟨h5,h6⟩)
  ⟨fun b=>Iff.rfl,by rw[Ac,Ac];omega,by rw[Ac,Ac];omega,by rw[Ac,Ac];omega,J7 ..,⟨_,by rw[Ai,if_neg (by rw[Ac];omega),Ai,if_pos rfl]⟩,⟨_,by rw[Ai,if_neg (by rw[Ac];omega),Ai,if_neg (by omega)];exact hcm2⟩,by simp⟩
  (by rw[PN,<-hgg];simp -implicitDefEqProofs only[go_sem,reduceCtorEq]) hw2 cb1 (fun h=>by rcases h with h|h|h<;>omega) hL2 (fun b hb=>by have:=hR b hb;omega) cb2 (fun h=>by rcases h with h|h|h<;>omega)
 rw[e3]
 obtain⟨h1,h2,h4',h5,h6,⟨v6,h7⟩,⟨v7,h8⟩,h9⟩:=i3
 have hcm:=Aq h8
 have hputc:∀(o:FObj),(bT.put (a9.next+1) o none).cells (Z.next+2)=some [.int .i64 (.ofNat (d.pieces []).length),.map (some (Z.next+1))]:=fun o=>by rw[Ak,if_neg (by omega)];exact hcm
 have hcol:∀(o:FObj),(bT.put (a9.next+1) o none).heap.get a9.next=some ⟨.defd true,false,none,v6⟩:=fun o=>by rw[Am,if_neg (by omega)];exact h7
 have hlim:=fun τ=>UT (m+3) (.ofNat (d.pieces []).length) (by rw[Int.ofNat_eq_natCast];omega) τ
 simp -implicitDefEqProofs only[go_sem,AkT,Zi,AkU,Zj,q3,hputc,hlim]
 rw[Gb _ _ _ _ _ _ _ _ _ _ (hcol _)]
 simp -implicitDefEqProofs only[go_sem]
 have x3:Ext Z bT:=⟨by omega,by have:=x1.clock;have:=x2.clock;have:=ch3.clock;omega,fun b hb=>(ch3.get b (by omega) (fun h=>by rcases h with h|h|h<;>omega)).trans ((x1.trans x2).get b hb)⟩
 exact⟨_,_,rfl,(x3.put _ _ _ (by omega)).put _ _ _ (by omega),(hw3.put _ _ _ (by omega)).put _ _ _ (by rw[Aw];omega),rfl⟩
end Go.Proofs.YtknnbjmcfibpgaaGreatDoor
namespace Go.Eng
mutual
def D.count:D->Nat
 | .mk _ _ _ ds=>D.counts ds+1
def D.counts:List D->Nat
 | []=>0
 | d::ds=>D.count d+D.counts ds
end
end Go.Eng
namespace Go.Proofs.YtknnbjmcfibpgaaGreatDoor
open Go Go.Eng
mutual
theorem Ed:∀(d:D) (path:List Nat),(d.pieces path).length=d.count
 | .mk k z t ds,path=>by rw[D.pieces,List.length_cons,FI ds path 0,D.count]
theorem FI:∀(ds:List D) (path:List Nat) (i:Nat),(D.piecesL path i ds).length=D.counts ds
 | [],path,i=>rfl
 | d::ds,path,i=>by rw[D.piecesL,List.length_append,Ed d (path++[i]),FI ds path (i+1),D.counts]
end
theorem AcP(f:List Nat×D->Nat)(l:List (List Nat×D)):∀m,l.foldl (fun m x=>max m (f x)) m=max m (l.foldl (fun m x=>max m (f x)) 0):=by
 induction l with
 | nil=>intro m;simp
 | cons x l ih=>intro m;simp only[List.foldl_cons];rw[ih (max m (f x)),ih (max 0 (f x))];omega
theorem FH(a b:List (List Nat×D)):longest (a++b)=max (longest a) (longest b):=by
 unfold longest
 rw[List.foldl_append,AcP (fun x=>x.1.length+1)]
theorem Jd(x:List Nat×D)(l:List (List Nat×D)):longest (x::l)=max (x.1.length+1) (longest l):=by
 have:=FH [x] l
 rw[List.singleton_append] at this
 rw[this]
 simp[longest]
mutual
theorem Hm:∀(d:D) (path:List Nat),longest (d.pieces path)=path.length+d.deep
 | .mk k z t ds,path=>by
  rw[D.pieces,Jd,D.deep]
  have:=G8 ds path 0
  simp only
  omega
theorem G8:∀(ds:List D) (path:List Nat) (i:Nat),max (path.length+1) (longest (D.piecesL path i ds))=path.length+1+D.deeps ds
 | [],path,i=>by simp[D.piecesL,longest,D.deeps]
 | d::ds,path,i=>by
  rw[D.piecesL,FH,D.deeps]
  have h1:=Hm d (path++[i])
  have h2:=G8 ds path (i+1)
  rw[List.length_append,List.length_singleton] at h1
  have h3:1<=d.deep:=by cases d;rw[D.deep];omega
  omega
end
def GoodD(m:Nat)(d:D):Prop:=∀k z t ds,d=D.mk k z t ds->∃k':Nat,k=(k':Int)/\Good m k' z t ds.length
def most:Nat->Nat
 | 0=>1
 | L+1=>3*most L+1
theorem AfO(L:Nat):1<=most L:=by cases L<;>simp[most]
def Fine(m L:Nat)(d:D):Prop:=∀path,(d.pieces path).length<=most L/\∀x∈d.pieces path,x.1.length<=path.length+L/\x.2.parts.length<=3/\GoodD m x.2
theorem Aqm{m L:Nat}(path:List Nat):∀(ds:List D) (i:Nat),(∀d∈ds,Fine m L d)->(D.piecesL path i ds).length<=ds.length*most L/\∀x∈D.piecesL path i ds,x.1.length<=path.length+(L+1)/\x.2.parts.length<=3/\GoodD m x.2
 | [],i,_=>⟨by simp[D.piecesL],fun x hx=>by simp[D.piecesL] at hx⟩
 | d::ds,i,h=>by
  obtain⟨h1,h2⟩:=h d List.mem_cons_self (path++[i])
  obtain⟨h3,h4⟩:=Aqm path ds (i+1) fun d' hd=>h d' (List.mem_cons_of_mem _ hd)
  refine⟨?_,fun x hx=>?_⟩
  .rw[D.piecesL,List.length_append,List.length_cons,Nat.add_mul]
   omega
  .rw[D.piecesL,List.mem_append] at hx
   rcases hx with hx|hx
   .have:=h2 x hx
    rw[List.length_append,List.length_singleton] at this
    exact⟨by omega,this.2⟩
   .exact h4 x hx
theorem Abg{m L:Nat}{k z:Int}{t:ByteArray}{ds:List D}(hl:ds.length<=3)(hg:GoodD m (.mk k z t ds))(h:∀d∈ds,Fine m L d):Fine m (L+1) (.mk k z t ds):=fun path=>by
 obtain⟨h1,h2⟩:=Aqm path ds 0 h
 rw[D.pieces]
 refine⟨?_,fun x hx=>?_⟩
 .rw[List.length_cons,most]
  have:=Nat.mul_le_mul_right (most L) hl
  omega
 .rcases List.mem_cons.1 hx with rfl|hx
  .exact⟨by simp,hl,hg⟩
  .exact h2 x hx
theorem AcL{m L:Nat}{k z:Int}{t:ByteArray}(hg:GoodD m (.mk k z t [])):Fine m L (.mk k z t []):=fun path=>by
 rw[D.pieces,D.piecesL]
 refine⟨by have:=AfO L;simp;omega,fun x hx=>?_⟩
 rcases List.mem_cons.1 hx with rfl|hx
 .exact⟨by simp,by simp[D.parts],hg⟩
 .simp at hx
theorem Ac2(n:Nat){L:Nat}{d:D}(h:Made L d):Fine (n+20) L d:=by
 induction h with
 | leaf L d h=>
  obtain⟨k,z,t,l⟩:=d
  obtain⟨k',rfl,hg,rfl⟩:=AcZ n h
  exact AcL fun k z t ds e=>by cases e;exact⟨k',rfl,hg⟩
 | pair L a b ha hb iha ihb=>
  refine Abg (by simp) (fun k z t ds e=>?_) fun d hd=>?_
  .cases e
   exact⟨5,rfl,.pair⟩
  .simp only[List.mem_cons,List.not_mem_nil,or_false] at hd
   rcases hd with rfl|rfl
   .exact iha
   .exact ihb
 | vec L l hl h ih=>
  refine Abg hl (fun k z t ds e=>?_) fun d hd=>ih d hd
  cases e
  exact⟨6,rfl,.vec _⟩
theorem Fine.small{m L:Nat}{d:D}(h:Fine m L d)(hL:L<=6):Small (d.pieces []):=fun x hx=>by
 have:=(h []).2 x hx
 rw[List.length_nil] at this
 exact⟨by omega,by omega⟩
theorem Fine.good{m L:Nat}{d:D}(h:Fine m L d):AllGood m (d.pieces []):=fun path k z t ds hx=>((h []).2 _ hx).2.2 k z t ds rfl
theorem Ao4{L:Nat}(h:L<=6):most L<=1093:=by
 obtain rfl|rfl|rfl|rfl|rfl|rfl|rfl:L=0\/L=1\/L=2\/L=3\/L=4\/L=5\/L=6:=by omega
 all_goals decide
theorem Fine.few{m L:Nat}{d:D}(h:Fine m L d)(hL:L<=6):(d.pieces []).length<=1093:=Nat.le_trans (h []).1 (Ao4 hL)
theorem Fine.part{m L:Nat}{k z:Int}{t:ByteArray}{ds:List D}{d:D}(h:Made L (.mk k z t ds))(hd:d∈ds):Made (L-1) d:=by
 cases h with
 | leaf L d h=>cases h<;>simp at hd
 | pair L a b ha hb=>
  simp only[List.mem_cons,List.not_mem_nil,or_false] at hd
  rcases hd with rfl|rfl
  .exact ha
  .exact hb
 | vec L l hl h=>exact h d hd
end Go.Proofs.YtknnbjmcfibpgaaGreatDoor
namespace Go.Proofs.YtknnbjmcfibpgaaGreatDoor
open Go Go.Eng
attribute [local congr] Aa Af Ae Ab Ad
attribute [-go_sem] List.range_succ
theorem U4{Q:Nat->Prop}{Z:aC}{v:Value}{p:List Nat}(h:PathV Q Z v p):∃a cx,v=.slice a p.length cx/\(p≠[]->∃b rest,a=some ⟨b,0,none⟩/\Q b/\Z.cells b=some (intsOf p++rest)):=by
 rcases h with⟨rfl,rfl⟩|⟨b,cx,rest,rfl,hQ,hc⟩
 .exact⟨none,0,rfl,fun h=>absurd rfl h⟩
 .exact⟨_,cx,rfl,fun _=>⟨b,rest,rfl,hQ,hc⟩⟩
theorem Xg{p:List Nat}{i:Nat}(rest:List Value)(h:i<p.length):(intsOf p++rest)[i]? = some (.int .i64 (.ofNat p[i])):=by
 rw[List.getElem?_append_left (by rw[F7];exact h),intsOf,List.getElem?_map,List.getElem?_eq_getElem h];rfl
structure HeadEi (v w:Value) (i:Nat) (f:Nat->Value):Prop where
 f0:f 0=v
 f1:f 1=w
 f5:f 5=.int .i64 (.ofNat i)
theorem BM(n:Nat)(x y z:Int)(Z:aC):(env (n+1)).call 92 [.int .i64 x,.int .i64 y,.int .i64 z] none Z=.ret (.bool (decide (y<=x)&&decide (x<=z))) none Z:=by
 rw[Al _ 92 _ _ rfl,AoN _ _ _ _ (by simp),Aj]
 unfold AmZ
 cases e:decide (y<=x) with
 | false=>simp -implicitDefEqProofs only[go_sem,Wn,S1,Wo,S3,e,Bool.false_and]
 | true=>simp -implicitDefEqProofs only[go_sem,Wn,S1,Wo,S3,e,Bool.true_and]
def atP:List Nat->D->Option D
 | [],d=>some d
 | i::p,d=>match d.parts[i]? with
  | some d'=>atP p d'
  | none=>none
theorem E1:∀ds:List D,ds.length<=D.counts ds
 | []=>Nat.zero_le _
 | .mk _ _ _ l::ds=>by rw[List.length_cons,D.counts,D.count];have:=E1 ds;omega
theorem Fs:∀ {ds:List D} {d:D},d∈ds->d.count<=D.counts ds
 | x::ds,d,h=>by
  rw[D.counts]
  rcases List.mem_cons.1 h with rfl|h
  .omega
  .have:=Fs h;omega
structure HeadPt (b2 b4:Nat) (pv:Value) (R:Nat->Prop) (k z:Int) (t:ByteArray) (q:Option Addr) (c:Nat) (ds:List D) (i:Nat) (f:Nat->Value) (Z:aC):Prop where
 f1:f 1=pv
 f2:f 2=.pointer (some ⟨b2,0,none⟩)
 f4:f 4=.pointer (some ⟨b4,0,none⟩)
 f6:f 6=.int .i64 (.ofNat i)
 cd:∃fz ver,Z.heap.get b2=some ⟨.cells [.int .i64 k,.int .i64 z,.string t,.slice q ds.length c] TD,false,fz,ver⟩
 lay:aO R Z q 0 ds
 wf:Wf Z
end Go.Proofs.YtknnbjmcfibpgaaGreatDoor
namespace Go.Eng
open Go
end Go.Eng
namespace Go.Proofs.YtknnbjmcfibpgaaGreatDoor
open Go Go.Eng
variable (E:Env) (ro:Option Nat) (last:List Nat->aZ) (cl:List Nat) (a:aY) (u:Option FrameMode) (Z:aC)
noncomputable def Auz:Code:=((rangesOf (Tryz.f99.body.getD .skip)).getD 0 (.skip,.skip)).1
noncomputable def AuA:Code:=((rangesOf (Tryz.f99.body.getD .skip)).getD 0 (.skip,.skip)).2
def Aaf(_:Unit):List COp:=[⟨fun a Z=>aM [(.int .i64 0),(.int .i64 0),(.string ⟨#[]⟩),(.slice none 0 0)] 24 none Z,some 2,tT⟩]
def Auh:List COp:=Aaf ()
def Aag(_:Unit):List COp:=[⟨fun a Z=>aG (some 4) (a.get 0) Z,some 3,tT⟩,
 ⟨fun a Z=>.enter 64 [(a.get 3)] Z,some 4,tT⟩]
def Aui:List COp:=Aag ()
def Aah(_:Unit):List COp:=[⟨fun a Z=>aG none (a.get 1) Z,some 5,tT⟩,
 ⟨fun a Z=>.enter 94 [(a.get 0),(a.get 5)] Z,some 6,tT⟩,
 ⟨fun a Z=>bJ (a.get 6) Z,some 7,tT⟩,
 ⟨fun a Z=>aG (some 4) (a.get 7) Z,some 8,tT⟩,
 ⟨fun a Z=>.enter 88 [(a.get 8)] Z,some 9,tT⟩,
 ⟨fun a Z=>aK 4 (a.get 2) (a.get 9) Z,none,tT⟩]
def Auj:List COp:=Aah ()
def Am0(E:Env)(ro:Option Nat)(fn:FuncId):aZ:=(aF (aD E ro Auh) (aF (aD E ro Aui) (aF (aD E ro Auj) bL)))
theorem Al4:aD E ro Auh a u Z=aD E ro (Aaf ()) a u Z:=rfl
theorem Al5:aD E ro Aui a u Z=aD E ro (Aag ()) a u Z:=rfl
theorem Al6:aD E ro Auj a u Z=aD E ro (Aah ()) a u Z:=rfl
theorem Avm(E:Env)(ro:Option Nat)(fn:FuncId):code Tryz.prog nls (Tryz.f93.body.getD .skip) E ro fn=Am0 E ro fn:=by kernel_rfl
theorem AoO(E:Env)(args:List Value)(u:Option FrameMode)(Z:aC)(hn:args.length<=(2:Nat)):bD Tryz.prog nls E 93 args u Z=aP Tryz.prog E [.cell 2 24] (Am0 E none 93 ⟨bB undef 2 args,fun _=>undef,2,10,[]⟩ u Z):=by
 rw[Ap (body:=Tryz.f93.body.getD .skip) Tryz.func93 rfl E args u Z 2 10 (by kernel_rfl) rfl ⟨hn,by decide⟩,Avm]
 rfl
def Aai(_:Unit):List COp:=[⟨fun a Z=>.val (.pointer none) Z,some 4,tT⟩]
def Auk:List COp:=Aai ()
def Aaj(_:Unit):List COp:=[⟨fun a Z=>.val (a.get 1) Z,some 7,tT⟩,
 ⟨fun a Z=>flenL (a.get 7) Z,some 8,tT⟩,
 ⟨fun a Z=>.val (.int .i64 0) Z,some 9,tT⟩]
def Aul:List COp:=Aaj ()
def S5(_:Unit):List COp:=[⟨fun a Z=>i_lss Tryz.prog 3 (.tmp 9) (.tmp 8) (a.get 9) (a.get 8) Z,some 10,tT⟩]
def Aum:List COp:=S5 ()
def Aak(_:Unit):List COp:=[⟨fun a Z=>bC (none,1) (a.get 7) (a.get 9) Z,some 11,tT⟩,
 ⟨fun a Z=>aG none (a.get 11) Z,some 12,tT⟩,
 ⟨fun a Z=>.val (a.get 12) Z,some 6,tT⟩]
def Aun:List COp:=Aak ()
def Aal(_:Unit):List COp:=[⟨fun a Z=>.val (a.get 6) Z,some 13,tT⟩,
 ⟨fun a Z=>i_lss Tryz.prog 3 (.tmp 13) (.const (.int .i64 0)) (a.get 13) (.int .i64 0) Z,some 14,tT⟩,
 ⟨fun a Z=>.val (a.get 14) Z,some 15,tT⟩,
 ⟨fun a Z=>.val (a.get 6) Z,some 16,fun a=>gd (a.get 15) false⟩,
 ⟨fun a Z=>.val (a.get 0) Z,some 17,fun a=>gd (a.get 15) false⟩,
 ⟨fun a Z=>bJ (a.get 17) Z,some 18,fun a=>gd (a.get 15) false⟩,
 ⟨fun a Z=>aH 3 (a.get 18) Z,some 19,fun a=>gd (a.get 15) false⟩,
 ⟨fun a Z=>aG none (a.get 19) Z,some 20,fun a=>gd (a.get 15) false⟩,
 ⟨fun a Z=>flenL (a.get 20) Z,some 21,fun a=>gd (a.get 15) false⟩,
 ⟨fun a Z=>i_geq Tryz.prog 3 (.tmp 16) (.tmp 21) (a.get 16) (a.get 21) Z,some 22,fun a=>gd (a.get 15) false⟩,
 ⟨fun a Z=>bM (a.get 15) (.bool true) (a.get 22) Z,some 23,tT⟩]
def Auo:List COp:=Aal ()
def Awz(_:Unit):List COp:=[⟨fun a Z=>.enter 124 [(.int .i64 9)] Z,some 24,tT⟩]
def Axo:List COp:=Awz ()
def Aam(_:Unit):List COp:=[⟨fun a Z=>.val (a.get 0) Z,some 25,tT⟩,
 ⟨fun a Z=>bJ (a.get 25) Z,some 26,tT⟩,
 ⟨fun a Z=>aH 3 (a.get 26) Z,some 27,tT⟩,
 ⟨fun a Z=>aG none (a.get 27) Z,some 28,tT⟩,
 ⟨fun a Z=>.val (a.get 6) Z,some 29,tT⟩,
 ⟨fun a Z=>bC (none,4) (a.get 28) (a.get 29) Z,some 30,tT⟩,
 ⟨fun a Z=>.val (a.get 30) Z,some 0,tT⟩]
def Aup:List COp:=Aam ()
def Aan(_:Unit):List COp:=[⟨fun a Z=>i_add Tryz.prog 3 (.tmp 9) (.const (.int .i64 1)) (a.get 9) (.int .i64 1) Z,some 31,tT⟩,
 ⟨fun a Z=>.val (a.get 31) Z,some 9,tT⟩]
def Auq:List COp:=Aan ()
def Abq(E:Env)(ro:Option Nat)(fn:FuncId):aZ:=(aF (aD E ro Aum) (aF (aN (fun a=>(a.get 10)) aV (exitR 0)) (aF (aW 1 (aF (aD E ro Aun) (aF (aF (aD E ro Auo) (aN (fun a=>(a.get 23)) (aD E ro Axo) aV)) (aD E ro Aup)))) (aD E ro Auq))))
def Aao(_:Unit):List COp:=[⟨fun a Z=>.val (a.get 0) Z,some 32,tT⟩,
 ⟨fun a Z=>.val (a.get 32) Z,some 4,tT⟩]
def Aur:List COp:=Aao ()
def Am1(E:Env)(ro:Option Nat)(fn:FuncId):aZ:=(aF (aD E ro Auk) (aF (aF (aD E ro Aul) (aW 0 (loopR (bE nls fn) (Abq E ro fn)))) (aF (aD E ro Aur) bL)))
theorem Al7:aD E ro Auk a u Z=aD E ro (Aai ()) a u Z:=rfl
theorem Al8:aD E ro Aul a u Z=aD E ro (Aaj ()) a u Z:=rfl
theorem Wp:aD E ro Aum a u Z=aD E ro (S5 ()) a u Z:=rfl
theorem Al9:aD E ro Aun a u Z=aD E ro (Aak ()) a u Z:=rfl
theorem Ama:aD E ro Auo a u Z=aD E ro (Aal ()) a u Z:=rfl
theorem Amb:aD E ro Aup a u Z=aD E ro (Aam ()) a u Z:=rfl
theorem Amc:aD E ro Auq a u Z=aD E ro (Aan ()) a u Z:=rfl
theorem Amd:aD E ro Aur a u Z=aD E ro (Aao ()) a u Z:=rfl
theorem Avn(E:Env)(ro:Option Nat)(fn:FuncId):code Tryz.prog nls (Tryz.f94.body.getD .skip) E ro fn=Am1 E ro fn:=by kernel_rfl
theorem AoP(E:Env)(args:List Value)(u:Option FrameMode)(Z:aC)(hn:args.length<=(7:Nat)):bD Tryz.prog nls E 94 args u Z=aP Tryz.prog E [.tmp 4] (Am1 E none 94 ⟨bB undef 7 args,fun _=>undef,7,33,[]⟩ u Z):=by
 rw[Ap (body:=Tryz.f94.body.getD .skip) Tryz.func94 rfl E args u Z 7 33 (by kernel_rfl) rfl ⟨hn,by decide⟩,Avn]
 rfl
def SI(_:Unit):List COp:=[⟨fun a Z=>aM [(.int .i64 0),(.int .i64 0),(.string ⟨#[]⟩),(.slice none 0 0)] 24 none Z,some 2,tT⟩,
 ⟨fun a Z=>.val (.int .i64 0) Z,some 3,tT⟩]
def Ats:List COp:=SI ()
def SJ(_:Unit):List COp:=[⟨fun a Z=>.val (a.get 0) Z,some 8,tT⟩,
 ⟨fun a Z=>.enter 125 [(a.get 8)] Z,some 9,tT⟩,
 ⟨fun a Z=>.val (a.get 9) Z,some 7,tT⟩,
 ⟨fun a Z=>aJ 0 (a.get 7) Z,some 10,tT⟩,
 ⟨fun a Z=>aJ 1 (a.get 7) Z,some 11,tT⟩,
 ⟨fun a Z=>aJ 2 (a.get 7) Z,some 12,tT⟩,
 ⟨fun a Z=>aM [(.int .i64 0),(.int .i64 0),(.string ⟨#[]⟩),(.slice none 0 0)] 24 none Z,some 4,tT⟩,
 ⟨fun a Z=>aK 4 (a.get 4) (a.get 10) Z,none,tT⟩,
 ⟨fun a Z=>.val (a.get 11) Z,some 5,tT⟩,
 ⟨fun a Z=>.val (a.get 12) Z,some 6,tT⟩]
def Att:List COp:=SJ ()
def SK(_:Unit):List COp:=[⟨fun a Z=>aG (some 4) (a.get 4) Z,some 13,tT⟩,
 ⟨fun a Z=>.val (a.get 6) Z,some 14,tT⟩,
 ⟨fun a Z=>aK 4 (a.get 2) (a.get 13) Z,none,tT⟩,
 ⟨fun a Z=>.val (a.get 14) Z,some 3,tT⟩]
def Atu:List COp:=SK ()
def Acc(E:Env)(ro:Option Nat)(fn:FuncId):aZ:=(aF (aD E ro Ats) (aF (aD E ro Att) (aF (aD E ro Atu) bL)))
theorem V3:aD E ro Ats a u Z=aD E ro (SI ()) a u Z:=rfl
theorem V4:aD E ro Att a u Z=aD E ro (SJ ()) a u Z:=rfl
theorem V5:aD E ro Atu a u Z=aD E ro (SK ()) a u Z:=rfl
theorem Avb(E:Env)(ro:Option Nat)(fn:FuncId):code Tryz.prog nls (Tryz.f82.body.getD .skip) E ro fn=Acc E ro fn:=by kernel_rfl
theorem Abe(E:Env)(args:List Value)(u:Option FrameMode)(Z:aC)(hn:args.length<=(7:Nat)):bD Tryz.prog nls E 82 args u Z=aP Tryz.prog E [.cell 2 24,.tmp 3] (Acc E none 82 ⟨bB undef 7 args,fun _=>undef,7,15,[]⟩ u Z):=by
 rw[Ap (body:=Tryz.f82.body.getD .skip) Tryz.func82 rfl E args u Z 7 15 (by kernel_rfl) rfl ⟨hn,by decide⟩,Avb]
 rfl
def Le(_:Unit):List COp:=[⟨fun a Z=>aM [(.int .i64 0),(.int .i64 0),(.string ⟨#[]⟩),(.slice none 0 0)] 24 none Z,some 2,tT⟩,
 ⟨fun a Z=>aM [(.int .i64 0)] 3 none Z,some 3,tT⟩,
 ⟨fun a Z=>aM [(.int .i64 0)] 32 none Z,some 4,tT⟩]
def AgU:List COp:=Le ()
def Lf(_:Unit):List COp:=[⟨fun a Z=>.val (.func (.func 150) #[] #[(a.get 3),(a.get 4)]) Z,some 5,tT⟩,
 ⟨fun a Z=>fdefer (a.get 5) [] Z,none,tT⟩]
def AgV:List COp:=Lf ()
def Lg(_:Unit):List COp:=[⟨fun a Z=>.val (a.get 0) Z,some 6,tT⟩,
 ⟨fun a Z=>fcallV (a.get 6) [] Z,some 7,tT⟩,
 ⟨fun a Z=>aK 4 (a.get 2) (a.get 7) Z,none,tT⟩,
 ⟨fun a Z=>aK 1 (a.get 3) (.int .i64 0) Z,none,tT⟩,
 ⟨fun a Z=>aK 1 (a.get 4) (.int .i64 0) Z,none,tT⟩]
def AgW:List COp:=Lg ()
def Te(E:Env)(ro:Option Nat)(fn:FuncId):aZ:=(aF (aD E ro AgU) (aF (aD E ro AgV) (aF (aD E ro AgW) bL)))
theorem Pf:aD E ro AgU a u Z=aD E ro (Le ()) a u Z:=rfl
theorem Pg:aD E ro AgV a u Z=aD E ro (Lf ()) a u Z:=rfl
theorem Ph:aD E ro AgW a u Z=aD E ro (Lg ()) a u Z:=rfl
theorem AnH(E:Env)(ro:Option Nat)(fn:FuncId):code Tryz.prog nls (Tryz.f125.body.getD .skip) E ro fn=Te E ro fn:=by kernel_rfl
theorem T_(E:Env)(args:List Value)(u:Option FrameMode)(Z:aC)(hn:args.length<=(5:Nat)):bD Tryz.prog nls E 125 args u Z=aP Tryz.prog E [.cell 2 24,.cell 3 3,.cell 4 32] (Te E none 125 ⟨bB undef 5 args,fun _=>undef,5,8,[]⟩ u Z):=by
 rw[Ap (body:=Tryz.f125.body.getD .skip) Tryz.func125 rfl E args u Z 5 8 (by kernel_rfl) rfl ⟨hn,by decide⟩,AnH]
 rfl
def Lr(_:Unit):List COp:=[⟨fun a Z=>.recover Z,some 6,tT⟩]
def AhU:List COp:=Lr ()
def Ls(_:Unit):List COp:=[⟨fun a Z=>bO Tryz.prog 20 (.tmp 6) (.const .nilIface) (a.get 6) .nilIface Z,some 7,tT⟩]
def AhV:List COp:=Ls ()
def Q7(_:Unit):List COp:=[⟨fun a Z=>.val (a.get 6) Z,some 2,tT⟩]
def AhW:List COp:=Q7 ()
def Q8(_:Unit):List COp:=[⟨fun a Z=>fassert Tryz.prog (a.get 6) 169 true Z,some 8,tT⟩,
 ⟨fun a Z=>aJ 1 (a.get 8) Z,some 9,tT⟩,
 ⟨fun a Z=>aJ 0 (a.get 8) Z,some 10,tT⟩]
def AhX:List COp:=Q8 ()
def Q9(_:Unit):List COp:=[⟨fun a Z=>.val (a.get 10) Z,some 3,tT⟩]
def AhY:List COp:=Q9 ()
def Q_(_:Unit):List COp:=[⟨fun a Z=>.val (a.get 3) Z,some 11,tT⟩,
 ⟨fun a Z=>.enter 136 [(a.get 11)] Z,some 12,tT⟩,
 ⟨fun a Z=>aM [(.int .i64 0),(.int .i64 0)] 171 none Z,some 4,tT⟩,
 ⟨fun a Z=>aK 2 (a.get 4) (a.get 12) Z,none,tT⟩]
def AhZ:List COp:=Q_ ()
def Ra(_:Unit):List DOp:=[⟨fun a Z=>aH 1 (a.get 4) Z,some 13,tT,some 0,false⟩,
 ⟨fun a Z=>aG none (a.get 13) Z,some 14,tT,some 0,false⟩,
 ⟨fun a Z=>aK 1 (a.get 0) (a.get 14) Z,none,tT,none,false⟩,
 ⟨fun a Z=>aH 0 (a.get 4) Z,some 15,tT,some 0,false⟩,
 ⟨fun a Z=>aG none (a.get 15) Z,some 16,tT,some 0,false⟩,
 ⟨fun a Z=>aK 1 (a.get 1) (a.get 16) Z,none,tT,none,true⟩]
def Ah0:List DOp:=Ra ()
def Apm(_:Unit):List COp:=[⟨fun a Z=>.val (a.get 6) Z,some 5,tT⟩]
def AvZ:List COp:=Apm ()
def Apn(_:Unit):List COp:=[⟨fun a Z=>aK 1 (a.get 1) (.int .i64 1) Z,none,tT⟩]
def Av0:List COp:=Apn ()
def Tg(E:Env)(ro:Option Nat)(fn:FuncId):aZ:=(aF (aD E ro AhU) (aW 0 (aF (aD E ro AhV) (aN (fun a=>(a.get 7)) (aD E ro AhW) (aF (aD E ro AhX) (aN (fun a=>(a.get 9)) (aF (aD E ro AhY) (aF (aD E ro AhZ) (drawR E ro Ah0))) (aF (aD E ro AvZ) (aD E ro Av0))))))))
theorem Pr:aD E ro AhU a u Z=aD E ro (Lr ()) a u Z:=rfl
theorem Ps:aD E ro AhV a u Z=aD E ro (Ls ()) a u Z:=rfl
theorem AdK:aD E ro AhW a u Z=aD E ro (Q7 ()) a u Z:=rfl
theorem AdL:aD E ro AhX a u Z=aD E ro (Q8 ()) a u Z:=rfl
theorem AdM:aD E ro AhY a u Z=aD E ro (Q9 ()) a u Z:=rfl
theorem AdN:aD E ro AhZ a u Z=aD E ro (Q_ ()) a u Z:=rfl
theorem AdO:bI E ro last Ah0 cl a u Z=bI E ro last (Ra ()) cl a u Z:=rfl
theorem AnS(E:Env)(ro:Option Nat)(fn:FuncId):code Tryz.prog nls (Tryz.f150.body.getD .skip) E ro fn=Tg E ro fn:=by kernel_rfl
theorem Ub(E:Env)(args:List Value)(u:Option FrameMode)(Z:aC)(hn:args.length<=(6:Nat)):bD Tryz.prog nls E 150 args u Z=aP Tryz.prog E [] (Tg E none 150 ⟨bB undef 6 args,fun _=>undef,6,17,[]⟩ u Z):=by
 rw[Ap (body:=Tryz.f150.body.getD .skip) Tryz.func150 rfl E args u Z 6 17 (by kernel_rfl) rfl ⟨hn,by decide⟩,AnS]
 rfl
def ZZ(_:Unit):List COp:=[⟨fun a Z=>fbox 24 (a.get 0) Z,some 1,tT⟩,
 ⟨fun a Z=>aM [(.int .i64 0),(.int .i64 0),(.string ⟨#[]⟩),(.slice none 0 0)] 24 none Z,some 2,tT⟩]
def AtW:List COp:=ZZ ()
def Z0(_:Unit):List DOp:=[⟨fun a Z=>aH 3 (a.get 1) Z,some 9,tT,some 0,false⟩,
 ⟨fun a Z=>aG none (a.get 9) Z,some 10,tT,some 0,false⟩,
 ⟨fun a Z=>.enter 122 [(a.get 10),(.func (.func 88) #[] #[])] Z,some 11,tT,none,false⟩,
 ⟨fun a Z=>aH 0 (a.get 1) Z,some 3,tT,some 0,false⟩,
 ⟨fun a Z=>aG none (a.get 3) Z,some 4,tT,some 0,false⟩,
 ⟨fun a Z=>aH 1 (a.get 1) Z,some 5,tT,some 0,false⟩,
 ⟨fun a Z=>aG none (a.get 5) Z,some 6,tT,some 0,false⟩,
 ⟨fun a Z=>aH 2 (a.get 1) Z,some 7,tT,some 0,false⟩,
 ⟨fun a Z=>aG none (a.get 7) Z,some 8,tT,some 0,false⟩,
 ⟨fun a Z=>bP (fun i=>nth [(0,1),(1,1),(2,1),(3,1)] i) [(.int .i64 0),(.int .i64 0),(.string ⟨#[]⟩),(.slice none 0 0)] [(0,(a.get 4)),(1,(a.get 6)),(2,(a.get 8)),(3,(a.get 11))] Z,some 12,tT,some 1,false⟩,
 ⟨fun a Z=>aK 4 (a.get 2) (a.get 12) Z,none,tT,none,true⟩]
def AtX:List DOp:=Z0 ()
def AmV(E:Env)(ro:Option Nat)(fn:FuncId):aZ:=(aF (aD E ro AtW) (aF (drawR E ro AtX) bL))
theorem AlD:aD E ro AtW a u Z=aD E ro (ZZ ()) a u Z:=rfl
theorem AlE:bI E ro last AtX cl a u Z=bI E ro last (Z0 ()) cl a u Z:=rfl
theorem Avh(E:Env)(ro:Option Nat)(fn:FuncId):code Tryz.prog nls (Tryz.f88.body.getD .skip) E ro fn=AmV E ro fn:=by kernel_rfl
theorem AoJ(E:Env)(args:List Value)(u:Option FrameMode)(Z:aC)(hn:args.length<=(2:Nat)):bD Tryz.prog nls E 88 args u Z=aP Tryz.prog E [.cell 2 24] (AmV E none 88 ⟨bB undef 2 args,fun _=>undef,2,13,[]⟩ u Z):=by
 rw[Ap (body:=Tryz.f88.body.getD .skip) Tryz.func88 rfl E args u Z 2 13 (by kernel_rfl) rfl ⟨hn,by decide⟩,Avh]
 rfl
def La(_:Unit):List COp:=[⟨fun a Z=>.val (.slice none 0 0) Z,some 4,tT⟩]
def AgI:List COp:=La ()
def Lb(_:Unit):List COp:=[⟨fun a Z=>.val (a.get 0) Z,some 7,tT⟩,
 ⟨fun a Z=>flenL (a.get 7) Z,some 8,tT⟩,
 ⟨fun a Z=>bO Tryz.prog 3 (.tmp 8) (.const (.int .i64 0)) (a.get 8) (.int .i64 0) Z,some 9,tT⟩]
def AgJ:List COp:=Lb ()
def QB(_:Unit):List COp:=[⟨fun a Z=>.val (.slice none 0 0) Z,some 4,tT⟩]
def AgK:List COp:=QB ()
def QC(_:Unit):List COp:=[⟨fun a Z=>.val (a.get 0) Z,some 10,tT⟩,
 ⟨fun a Z=>flenL (a.get 10) Z,some 11,tT⟩,
 ⟨fun a Z=>fmakeSlice 24 56 [(.int .i64 0),(.int .i64 0),(.string ⟨#[]⟩),(.slice none 0 0)] (a.get 11) (a.get 11) Z,some 12,tT⟩,
 ⟨fun a Z=>.val (a.get 12) Z,some 5,tT⟩]
def AgL:List COp:=QC ()
def QD(_:Unit):List COp:=[⟨fun a Z=>.val (a.get 0) Z,some 13,tT⟩,
 ⟨fun a Z=>flenL (a.get 13) Z,some 14,tT⟩,
 ⟨fun a Z=>.val (.int .i64 0) Z,some 15,tT⟩]
def AgM:List COp:=QD ()
def Lc(_:Unit):List COp:=[⟨fun a Z=>i_lss Tryz.prog 3 (.tmp 15) (.tmp 14) (a.get 15) (a.get 14) Z,some 16,tT⟩]
def AgN:List COp:=Lc ()
def QE(_:Unit):List COp:=[⟨fun a Z=>.val (a.get 15) Z,some 17,tT⟩,
 ⟨fun a Z=>.val (a.get 17) Z,some 6,tT⟩]
def AgO:List COp:=QE ()
def QF(_:Unit):List COp:=[⟨fun a Z=>.val (a.get 5) Z,some 18,tT⟩,
 ⟨fun a Z=>.val (a.get 6) Z,some 19,tT⟩,
 ⟨fun a Z=>.val (a.get 1) Z,some 20,tT⟩,
 ⟨fun a Z=>.val (a.get 0) Z,some 21,tT⟩,
 ⟨fun a Z=>.val (a.get 6) Z,some 22,tT⟩,
 ⟨fun a Z=>bC (none,4) (a.get 21) (a.get 22) Z,some 23,tT⟩,
 ⟨fun a Z=>aG (some 4) (a.get 23) Z,some 24,tT⟩,
 ⟨fun a Z=>fcallV (a.get 20) [(a.get 24)] Z,some 25,tT⟩,
 ⟨fun a Z=>bC (none,4) (a.get 18) (a.get 19) Z,some 26,tT⟩,
 ⟨fun a Z=>aK 4 (a.get 26) (a.get 25) Z,none,tT⟩]
def AgP:List COp:=QF ()
def QG(_:Unit):List COp:=[⟨fun a Z=>i_add Tryz.prog 3 (.tmp 15) (.const (.int .i64 1)) (a.get 15) (.int .i64 1) Z,some 27,tT⟩,
 ⟨fun a Z=>.val (a.get 27) Z,some 15,tT⟩]
def AgQ:List COp:=QG ()
def Ql(E:Env)(ro:Option Nat)(fn:FuncId):aZ:=(aF (aD E ro AgN) (aF (aN (fun a=>(a.get 16)) aV (exitR 0)) (aF (aW 1 (aF (aD E ro AgO) (aD E ro AgP))) (aD E ro AgQ))))
def QH(_:Unit):List COp:=[⟨fun a Z=>.val (a.get 5) Z,some 28,tT⟩,
 ⟨fun a Z=>.val (a.get 28) Z,some 4,tT⟩]
def AgR:List COp:=QH ()
def Aaz(E:Env)(ro:Option Nat)(fn:FuncId):aZ:=(aF (aD E ro AgI) (aF (aF (aD E ro AgJ) (aN (fun a=>(a.get 9)) (aF (aD E ro AgK) bL) aV)) (aF (aD E ro AgL) (aF (aF (aD E ro AgM) (aW 0 (loopR (bE nls fn) (Ql E ro fn)))) (aF (aD E ro AgR) bL)))))
theorem Pb:aD E ro AgI a u Z=aD E ro (La ()) a u Z:=rfl
theorem Pc:aD E ro AgJ a u Z=aD E ro (Lb ()) a u Z:=rfl
theorem Ade:aD E ro AgK a u Z=aD E ro (QB ()) a u Z:=rfl
theorem Adf:aD E ro AgL a u Z=aD E ro (QC ()) a u Z:=rfl
theorem Adg:aD E ro AgM a u Z=aD E ro (QD ()) a u Z:=rfl
theorem Pd:aD E ro AgN a u Z=aD E ro (Lc ()) a u Z:=rfl
theorem Adh:aD E ro AgO a u Z=aD E ro (QE ()) a u Z:=rfl
theorem Adi:aD E ro AgP a u Z=aD E ro (QF ()) a u Z:=rfl
theorem Adj:aD E ro AgQ a u Z=aD E ro (QG ()) a u Z:=rfl
theorem Adk:aD E ro AgR a u Z=aD E ro (QH ()) a u Z:=rfl
theorem AnE(E:Env)(ro:Option Nat)(fn:FuncId):code Tryz.prog nls (Tryz.f122.body.getD .skip) E ro fn=Aaz E ro fn:=by kernel_rfl
theorem Ae8(E:Env)(args:List Value)(u:Option FrameMode)(Z:aC)(hn:args.length<=(7:Nat)):bD Tryz.prog nls E 122 args u Z=aP Tryz.prog E [.tmp 4] (Aaz E none 122 ⟨bB undef 7 args,fun _=>undef,7,29,[]⟩ u Z):=by
 rw[Ap (body:=Tryz.f122.body.getD .skip) Tryz.func122 rfl E args u Z 7 29 (by kernel_rfl) rfl ⟨hn,by decide⟩,AnE]
 rfl
end Go.Proofs.YtknnbjmcfibpgaaGreatDoor
namespace Go.Proofs.YtknnbjmcfibpgaaGreatDoor
open Go Go.Eng
attribute [local congr] Aa Af Ae Ab Ad
attribute [-go_sem] List.range_succ
end Go.Proofs.YtknnbjmcfibpgaaGreatDoor
namespace Go.Proofs.YtknnbjmcfibpgaaGreatDoor
open Go Go.Eng
attribute [local congr] Aa Af Ae Ab Ad
attribute [-go_sem] List.range_succ
structure HeadEf (p p':Option Addr) (len c c':Nat) (k:Nat) (f g:Nat->Value):Prop where
 f1:f 1=.slice p' len c'
 f2:f 2=.func (.func 128) #[] #[]
 g15:g 15=.slice p len c
 g16:g 16=.int .i64 (.ofNat len)
 g17:g 17=.int .i64 (.ofNat k)
theorem Aa2(a b:Int):(a==b)=decide (a=b):=by
 by_cases h:a=b
 .rw[decide_eq_true h];simp[h]
 .rw[decide_eq_false h];simp[h]
end Go.Proofs.YtknnbjmcfibpgaaGreatDoor
namespace Go.Proofs.YtknnbjmcfibpgaaGreatDoor
open Go Go.Eng
attribute [local congr] Aa
theorem P4(n:Nat)(k1 n1 k2 n2:Int)(t1 t2:ByteArray)(s1 s2:Value)(Z:aC)(B:Bool)(hw:Wf Z)(h:∀V,Ext Z V->Wf V->Gives ((env n).call 26 [s1,s2] none V) V fun v _=>v=.bool B):
  Gives ((env (n+1)).call 18 [.agg #[.int .i64 k1,.int .i64 n1,.string t1,s1],.agg #[.int .i64 k2,.int .i64 n2,.string t2,s2]] none Z) Z
   fun v _=>v=.bool ((k1==k2)&&(n1==n2)&&(t1.toList==t2.toList)&&B):=by
 rw[Al _ 18 _ _ rfl,Aob _ _ _ _ (by simp)]
 generalize ha:(⟨bB undef 4 _,fun _=>undef,4,31,[]⟩:aY)=a
 have hok:a.ok:=by rw[<-ha];exact U3 _ _ _ _
 have hnt:a.nt=31:=by rw[<-ha]
 have hds:a.defers=[]:=by rw[<-ha]
 have hg0:a.get 0=.agg #[.int .i64 k1,.int .i64 n1,.string t1,s1]:=by rw[<-ha,HB];rfl
 have hg1:a.get 1=.agg #[.int .i64 k2,.int .i64 n2,.string t2,s2]:=by rw[<-ha,HB];rfl
 clear ha
 unfold Amn
 have fin:∀(o1 o2:FObj) (f1 f2:Option Nat),Ext Z ((Z.push o1 f1).push o2 f2)/\Wf ((Z.push o1 f1).push o2 f2):=fun o1 o2 f1 f2=>⟨((Ext.refl Z).push _ _).push _ _,(hw.push _ _).push _ _⟩
 cases e1:(k1==k2) with
 | false=>
  simp only[tT,DS,D7,CW,DF,DE,BF,CS,DR,Ag,CT,Ce,BB,Bh,Cd,Az,A0,AR,DV,Eb,Ea,BN,C3,Nat.reduceLT,↓reduceIte,Nat.reduceEqDiff,Nat.reduceAdd,C2,C0,Cg,BD,Cn,A9,Co,Ac,Bk,Aw,BA,D3,Bj,Ba,Bb,AJ,AY,AG,AE,Bd,Be,AL,AZ,AQ,AF,Ch,D5,D6,Ah,Ak,cells?_cells,DH,CY,DG,CX,DC,DP,DL,DK,DJ,DI,DA,DT,DM,DD,DQ,D8,CU,CV,Nat.add_zero,Nat.zero_add,Nat.add_left_cancel_iff,Nat.add_eq_left,Nat.left_eq_add,List.getElem?_cons_zero,List.getElem?_cons_succ,beq_self_eq_true,Bool.not_true,Bool.not_false,cond_true,cond_false,BG,AX,Ci,BH,BI,Cf,Bool.false_eq_true,CR,AW,BC,Bi,CZ,D_,BX,CC,CB,CA,A7,List.not_mem_nil,or_false,or_true,List.cons_append,List.nil_append,DB,DN,DU,Cm,Ck,C8,A_,Dn,Ai,Am,List.set_cons_zero,List.set_cons_succ,List.length_cons,List.length_nil,Bf,AP,Bc,AC,AK,JA,Kh,JB,Ki,hok,hnt,hg0,hg1,hds,e1]
  exact⟨_,_,rfl,(fin ..).1,(fin ..).2,rfl⟩
 | true=>cases e2:(n1==n2) with
  | false=>
   simp only[tT,DS,D7,CW,DF,DE,BF,CS,DR,Ag,CT,Ce,BB,Bh,Cd,Az,A0,AR,DV,Eb,Ea,BN,C3,Nat.reduceLT,↓reduceIte,Nat.reduceEqDiff,Nat.reduceAdd,C2,C0,Cg,BD,Cn,A9,Co,Ac,Bk,Aw,BA,D3,Bj,Ba,Bb,AJ,AY,AG,AE,Bd,Be,AL,AZ,AQ,AF,Ch,D5,D6,Ah,Ak,cells?_cells,DH,CY,DG,CX,DC,DP,DL,DK,DJ,DI,DA,DT,DM,DD,DQ,D8,CU,CV,Nat.add_zero,Nat.zero_add,Nat.add_left_cancel_iff,Nat.add_eq_left,Nat.left_eq_add,List.getElem?_cons_zero,List.getElem?_cons_succ,beq_self_eq_true,Bool.not_true,Bool.not_false,cond_true,cond_false,BG,AX,Ci,BH,BI,Cf,Bool.false_eq_true,CR,AW,BC,Bi,CZ,D_,BX,CC,CB,CA,A7,List.not_mem_nil,or_false,or_true,List.cons_append,List.nil_append,DB,DN,DU,Cm,Ck,C8,A_,Dn,Ai,Am,List.set_cons_zero,List.set_cons_succ,List.length_cons,List.length_nil,Bf,AP,Bc,AC,AK,JA,Kh,JB,Ki,hok,hnt,hg0,hg1,hds,e1,e2]
   exact⟨_,_,rfl,(fin ..).1,(fin ..).2,rfl⟩
  | true=>cases e3:(t1.toList==t2.toList) with
   | false=>
    simp only[tT,DS,D7,CW,DF,DE,BF,CS,DR,Ag,CT,Ce,BB,Bh,Cd,Az,A0,AR,DV,Eb,Ea,BN,C3,Nat.reduceLT,↓reduceIte,Nat.reduceEqDiff,Nat.reduceAdd,C2,C0,Cg,BD,Cn,A9,Co,Ac,Bk,Aw,BA,D3,Bj,Ba,Bb,AJ,AY,AG,AE,Bd,Be,AL,AZ,AQ,AF,Ch,D5,D6,Ah,Ak,cells?_cells,DH,CY,DG,CX,DC,DP,DL,DK,DJ,DI,DA,DT,DM,DD,DQ,D8,CU,CV,Nat.add_zero,Nat.zero_add,Nat.add_left_cancel_iff,Nat.add_eq_left,Nat.left_eq_add,List.getElem?_cons_zero,List.getElem?_cons_succ,beq_self_eq_true,Bool.not_true,Bool.not_false,cond_true,cond_false,BG,AX,Ci,BH,BI,Cf,Bool.false_eq_true,CR,AW,BC,Bi,CZ,D_,BX,CC,CB,CA,A7,List.not_mem_nil,or_false,or_true,List.cons_append,List.nil_append,DB,DN,DU,Cm,Ck,C8,A_,Dn,Ai,Am,List.set_cons_zero,List.set_cons_succ,List.length_cons,List.length_nil,Bf,AP,Bc,AC,AK,JA,Kh,JB,Ki,hok,hnt,hg0,hg1,hds,e1,e2,e3]
    exact⟨_,_,rfl,(fin ..).1,(fin ..).2,rfl⟩
   | true=>
    simp only[tT,DS,D7,CW,DF,DE,BF,CS,DR,Ag,CT,Ce,BB,Bh,Cd,Az,A0,AR,DV,Eb,Ea,BN,C3,Nat.reduceLT,↓reduceIte,Nat.reduceEqDiff,Nat.reduceAdd,C2,C0,Cg,BD,Cn,A9,Co,Ac,Bk,Aw,BA,D3,Bj,Ba,Bb,AJ,AY,AG,AE,Bd,Be,AL,AZ,AQ,AF,Ch,D5,D6,Ah,Ak,cells?_cells,DH,CY,DG,CX,DC,DP,DL,DK,DJ,DI,DA,DT,DM,DD,DQ,D8,CU,CV,Nat.add_zero,Nat.zero_add,Nat.add_left_cancel_iff,Nat.add_eq_left,Nat.left_eq_add,List.getElem?_cons_zero,List.getElem?_cons_succ,beq_self_eq_true,Bool.not_true,Bool.not_false,cond_true,cond_false,BG,AX,Ci,BH,BI,Cf,Bool.false_eq_true,CR,AW,BC,Bi,CZ,D_,BX,CC,CB,CA,A7,List.not_mem_nil,or_false,or_true,List.cons_append,List.nil_append,DB,DN,DU,Cm,Ck,C8,A_,Dn,Ai,Am,List.set_cons_zero,List.set_cons_succ,List.length_cons,List.length_nil,Bf,AP,Bc,AC,AK,JA,Kh,JB,Ki,hok,hnt,hg0,hg1,hds,e1,e2,e3]
    generalize hr:(env n).call 26 _ none _=r
    obtain⟨v,V,rfl,hx,hw',rfl⟩:=Ani (X:=(env n).call 26 [s1,s2] none) hr h (fin ..).1 (fin ..).2
    simp only[tT,DS,D7,CW,DF,DE,BF,CS,DR,Ag,CT,Ce,BB,Bh,Cd,Az,A0,AR,DV,Eb,Ea,BN,C3,Nat.reduceLT,↓reduceIte,Nat.reduceEqDiff,Nat.reduceAdd,C2,C0,Cg,BD,Cn,A9,Co,Ac,Bk,Aw,BA,D3,Bj,Ba,Bb,AJ,AY,AG,AE,Bd,Be,AL,AZ,AQ,AF,Ch,D5,D6,Ah,Ak,cells?_cells,DH,CY,DG,CX,DC,DP,DL,DK,DJ,DI,DA,DT,DM,DD,DQ,D8,CU,CV,Nat.add_zero,Nat.zero_add,Nat.add_left_cancel_iff,Nat.add_eq_left,Nat.left_eq_add,List.getElem?_cons_zero,List.getElem?_cons_succ,beq_self_eq_true,Bool.not_true,Bool.not_false,cond_true,cond_false,BG,AX,Ci,BH,BI,Cf,Bool.false_eq_true,CR,AW,BC,Bi,CZ,D_,BX,CC,CB,CA,A7,List.not_mem_nil,or_false,or_true,List.cons_append,List.nil_append,DB,DN,DU,Cm,Ck,C8,A_,Dn,Ai,Am,List.set_cons_zero,List.set_cons_succ,List.length_cons,List.length_nil,Bf,AP,Bc,AC,AK,hok,hnt,hg0,hg1,hds]
    exact⟨_,_,rfl,(fin ..).1.trans hx,hw',rfl⟩
end Go.Proofs.YtknnbjmcfibpgaaGreatDoor
namespace Go.Proofs.YtknnbjmcfibpgaaGreatDoor
open Go Go.Eng
attribute [local congr] Aa
theorem AoX:bE nls 26=[]:=by kernel_rfl
structure HeadEqC (a:aY) (s s':Value) (k:Nat):Prop where
 ok:a.ok
 nt:a.nt=27
 nl:a.nl=6
 ds:a.defers=[]
 g0:a.get 0=s
 g1:a.get 1=s'
 g5:a.get 5=.int .i64 (.ofNat k)
theorem P3(n N:Nat)(hE:∀d d' v v' Z,D.deep d<=N->d.count<1000000000->Wf Z->Laid Z v d->Laid Z v' d'->Gives ((env n).call 18 [v,v'] none Z) Z fun w _=>w=.bool (D.same d d'))(p p':Option Addr)(len c c':Nat)(hlen:len<1000000000000):∀(ds ds':List D) (k fuel:Nat) (a:aY) (Z:aC),k+ds.length=len->ds.length=ds'.length->ds.length<fuel->D.deeps ds<=N->D.counts ds<1000000000->
   Wf Z->LaidE Z p k ds->LaidE Z p' k ds'->HeadEqC a (.slice p len c) (.slice p' len c') k->
   ∃e a' V,floop [] (Abn (env n) none 26) fuel a none Z=.done e a' none V/\(if D.sames ds ds'=true then e=.exit 0 else e=.ret/\a'.get 4=.bool false)/\
    a'.ok/\a'.nt=27/\a'.defers=[]/\Ext Z V/\Wf V:=by
 intro ds
 induction ds with
 | nil=>
  intro ds' k fuel a Z hk hl hf _ _ hw h1 h2 ⟨hok,hnt,hnl,hds,hg0,hg1,hg5⟩
  obtain⟨fuel,rfl⟩:∃f,fuel=f+1:=⟨fuel-1,by simp at hf;omega⟩
  have hd:decide ((Int.ofNat k)<(Int.ofNat len))=false:=by simp at hk ⊢;omega
  have fg:=L5 [] a hok
  cases ds' with
  | cons _ _=>simp at hl
  | nil=>
   rw[Ao]
   unfold Abn
   simp only[tT,DS,D7,CW,DF,DE,BF,CS,DR,Ag,CT,Ce,BB,Bh,Cd,Az,A0,AR,DV,Eb,Ea,BN,C3,Nat.reduceLT,↓reduceIte,Nat.reduceEqDiff,Nat.reduceAdd,C2,C0,Cg,BD,Cn,A9,Co,Ac,Bk,Aw,BA,D3,Bj,Ba,Bb,AJ,AY,AG,AE,Bd,Be,AL,AZ,AQ,AF,Ch,D5,D6,Ah,Ak,cells?_cells,DH,CY,DG,CX,DC,DP,DL,DK,DJ,DI,DA,DT,DM,DD,DQ,D8,CU,CV,Nat.add_zero,Nat.zero_add,Nat.add_left_cancel_iff,Nat.add_eq_left,Nat.left_eq_add,List.getElem?_cons_zero,List.getElem?_cons_succ,beq_self_eq_true,Bool.not_true,Bool.not_false,cond_true,cond_false,BG,AX,Ci,BH,BI,Cf,Bool.false_eq_true,CR,AW,BC,Bi,CZ,D_,BX,CC,CB,CA,A7,List.not_mem_nil,or_false,or_true,List.cons_append,List.nil_append,DB,DN,DU,Cm,Ck,C8,A_,Dn,Ai,Am,List.set_cons_zero,List.set_cons_succ,List.length_cons,List.length_nil,Bf,AP,Bc,AC,AK,Vq,RW,hok,hnt,hnl,hds,hg0,hg1,hg5,fg,hd]
   exact⟨_,_,_,rfl,rfl,by simp only[tT,DS,D7,CW,DF,DE,BF,CS,DR,Ag,CT,Ce,BB,Bh,Cd,Az,A0,AR,DV,Eb,Ea,BN,C3,Nat.reduceLT,↓reduceIte,Nat.reduceEqDiff,Nat.reduceAdd,C2,C0,Cg,BD,Cn,A9,Co,Ac,Bk,Aw,BA,D3,Bj,Ba,Bb,AJ,AY,AG,AE,Bd,Be,AL,AZ,AQ,AF,Ch,D5,D6,Ah,Ak,cells?_cells,DH,CY,DG,CX,DC,DP,DL,DK,DJ,DI,DA,DT,DM,DD,DQ,D8,CU,CV,Nat.add_zero,Nat.zero_add,Nat.add_left_cancel_iff,Nat.add_eq_left,Nat.left_eq_add,List.getElem?_cons_zero,List.getElem?_cons_succ,beq_self_eq_true,Bool.not_true,Bool.not_false,cond_true,cond_false,BG,AX,Ci,BH,BI,Cf,Bool.false_eq_true,CR,AW,BC,Bi,CZ,D_,BX,CC,CB,CA,A7,List.not_mem_nil,or_false,or_true,List.cons_append,List.nil_append,DB,DN,DU,Cm,Ck,C8,A_,Dn,Ai,Am,List.set_cons_zero,List.set_cons_succ,List.length_cons,List.length_nil,Bf,AP,Bc,AC,AK,hok],by simp only[tT,DS,D7,CW,DF,DE,BF,CS,DR,Ag,CT,Ce,BB,Bh,Cd,Az,A0,AR,DV,Eb,Ea,BN,C3,Nat.reduceLT,↓reduceIte,Nat.reduceEqDiff,Nat.reduceAdd,C2,C0,Cg,BD,Cn,A9,Co,Ac,Bk,Aw,BA,D3,Bj,Ba,Bb,AJ,AY,AG,AE,Bd,Be,AL,AZ,AQ,AF,Ch,D5,D6,Ah,Ak,cells?_cells,DH,CY,DG,CX,DC,DP,DL,DK,DJ,DI,DA,DT,DM,DD,DQ,D8,CU,CV,Nat.add_zero,Nat.zero_add,Nat.add_left_cancel_iff,Nat.add_eq_left,Nat.left_eq_add,List.getElem?_cons_zero,List.getElem?_cons_succ,beq_self_eq_true,Bool.not_true,Bool.not_false,cond_true,cond_false,BG,AX,Ci,BH,BI,Cf,Bool.false_eq_true,CR,AW,BC,Bi,CZ,D_,BX,CC,CB,CA,A7,List.not_mem_nil,or_false,or_true,List.cons_append,List.nil_append,DB,DN,DU,Cm,Ck,C8,A_,Dn,Ai,Am,List.set_cons_zero,List.set_cons_succ,List.length_cons,List.length_nil,Bf,AP,Bc,AC,AK,hnt],by simp only[tT,DS,D7,CW,DF,DE,BF,CS,DR,Ag,CT,Ce,BB,Bh,Cd,Az,A0,AR,DV,Eb,Ea,BN,C3,Nat.reduceLT,↓reduceIte,Nat.reduceEqDiff,Nat.reduceAdd,C2,C0,Cg,BD,Cn,A9,Co,Ac,Bk,Aw,BA,D3,Bj,Ba,Bb,AJ,AY,AG,AE,Bd,Be,AL,AZ,AQ,AF,Ch,D5,D6,Ah,Ak,cells?_cells,DH,CY,DG,CX,DC,DP,DL,DK,DJ,DI,DA,DT,DM,DD,DQ,D8,CU,CV,Nat.add_zero,Nat.zero_add,Nat.add_left_cancel_iff,Nat.add_eq_left,Nat.left_eq_add,List.getElem?_cons_zero,List.getElem?_cons_succ,beq_self_eq_true,Bool.not_true,Bool.not_false,cond_true,cond_false,BG,AX,Ci,BH,BI,Cf,Bool.false_eq_true,CR,AW,BC,Bi,CZ,D_,BX,CC,CB,CA,A7,List.not_mem_nil,or_false,or_true,List.cons_append,List.nil_append,DB,DN,DU,Cm,Ck,C8,A_,Dn,Ai,Am,List.set_cons_zero,List.set_cons_succ,List.length_cons,List.length_nil,Bf,AP,Bc,AC,AK,hds],Ext.refl _,hw⟩
 | cons d ds ih=>
  intro ds' k fuel a Z hk hl hf hN hM hw h1 h2 ⟨hok,hnt,hnl,hds,hg0,hg1,hg5⟩
  obtain⟨fuel,rfl⟩:∃f,fuel=f+1:=⟨fuel-1,by simp at hf;omega⟩
  have hd:decide ((Int.ofNat k)<(Int.ofNat len))=true:=by simp at hk ⊢;omega
  have hlt:k<len:=by simp at hk;omega
  have fg:=L5 [] a hok
  cases ds' with
  | nil=>simp at hl
  | cons d' ds'=>
   obtain⟨⟨b,off,cs,rfl,hc,hcl,hL⟩,h1r⟩:=h1
   obtain⟨⟨b',off',cs',rfl,hc',hcl',hL'⟩,h2r⟩:=h2
   have hN':D.deep d<=N/\D.deeps ds<=N:=by simp[D.deeps] at hN;omega
   have hM':d.count<1000000000/\D.counts ds<1000000000:=by rw[D.counts] at hM;omega
   have hv:=Dw hw (Nat.le_refl _)
   rw[Ao]
   unfold Abn
   simp only[tT,DS,D7,CW,DF,DE,BF,CS,DR,Ag,CT,Ce,BB,Bh,Cd,Az,A0,AR,DV,Eb,Ea,BN,C3,Nat.reduceLT,↓reduceIte,Nat.reduceEqDiff,Nat.reduceAdd,C2,C0,Cg,BD,Cn,A9,Co,Ac,Bk,Aw,BA,D3,Bj,Ba,Bb,AJ,AY,AG,AE,Bd,Be,AL,AZ,AQ,AF,Ch,D5,D6,Ah,Ak,cells?_cells,DH,CY,DG,CX,DC,DP,DL,DK,DJ,DI,DA,DT,DM,DD,DQ,D8,CU,CV,Nat.add_zero,Nat.zero_add,Nat.add_left_cancel_iff,Nat.add_eq_left,Nat.left_eq_add,List.getElem?_cons_zero,List.getElem?_cons_succ,beq_self_eq_true,Bool.not_true,Bool.not_false,cond_true,cond_false,BG,AX,Ci,BH,BI,Cf,Bool.false_eq_true,CR,AW,BC,Bi,CZ,D_,BX,CC,CB,CA,A7,List.not_mem_nil,or_false,or_true,List.cons_append,List.nil_append,DB,DN,DU,Cm,Ck,C8,A_,Dn,Ai,Am,List.set_cons_zero,List.set_cons_succ,List.length_cons,List.length_nil,Bf,AP,Bc,AC,AK,Vq,RW,AjQ,Ys,hok,hnt,hnl,hds,hg0,hg1,hg5,fg,hd,hlt,hv,hc,hc',hcl,hcl']
   generalize hr:(env n).call 18 _ none _=r
   obtain⟨v,V,rfl,hx,hw',rfl⟩:=hr ▸ hE d d' _ _ Z hN'.1 hM'.1 hw hL hL'
   have hwr:wrapI (Int.ofNat k+1)=Int.ofNat (k+1):=by
    rw[Dj (by rw[Int.ofNat_eq_natCast];omega)];rfl
   cases e:D.same d d' with
   | false=>
    simp only[tT,DS,D7,CW,DF,DE,BF,CS,DR,Ag,CT,Ce,BB,Bh,Cd,Az,A0,AR,DV,Eb,Ea,BN,C3,Nat.reduceLT,↓reduceIte,Nat.reduceEqDiff,Nat.reduceAdd,C2,C0,Cg,BD,Cn,A9,Co,Ac,Bk,Aw,BA,D3,Bj,Ba,Bb,AJ,AY,AG,AE,Bd,Be,AL,AZ,AQ,AF,Ch,D5,D6,Ah,Ak,cells?_cells,DH,CY,DG,CX,DC,DP,DL,DK,DJ,DI,DA,DT,DM,DD,DQ,D8,CU,CV,Nat.add_zero,Nat.zero_add,Nat.add_left_cancel_iff,Nat.add_eq_left,Nat.left_eq_add,List.getElem?_cons_zero,List.getElem?_cons_succ,beq_self_eq_true,Bool.not_true,Bool.not_false,cond_true,cond_false,BG,AX,Ci,BH,BI,Cf,Bool.false_eq_true,CR,AW,BC,Bi,CZ,D_,BX,CC,CB,CA,A7,List.not_mem_nil,or_false,or_true,List.cons_append,List.nil_append,DB,DN,DU,Cm,Ck,C8,A_,Dn,Ai,Am,List.set_cons_zero,List.set_cons_succ,List.length_cons,List.length_nil,Bf,AP,Bc,AC,AK,AjR,Yt,hok,hnt,hnl,hds,hg0,hg1,hg5,fg,hwr]
    refine⟨_,_,_,rfl,?_,by simp only[tT,DS,D7,CW,DF,DE,BF,CS,DR,Ag,CT,Ce,BB,Bh,Cd,Az,A0,AR,DV,Eb,Ea,BN,C3,Nat.reduceLT,↓reduceIte,Nat.reduceEqDiff,Nat.reduceAdd,C2,C0,Cg,BD,Cn,A9,Co,Ac,Bk,Aw,BA,D3,Bj,Ba,Bb,AJ,AY,AG,AE,Bd,Be,AL,AZ,AQ,AF,Ch,D5,D6,Ah,Ak,cells?_cells,DH,CY,DG,CX,DC,DP,DL,DK,DJ,DI,DA,DT,DM,DD,DQ,D8,CU,CV,Nat.add_zero,Nat.zero_add,Nat.add_left_cancel_iff,Nat.add_eq_left,Nat.left_eq_add,List.getElem?_cons_zero,List.getElem?_cons_succ,beq_self_eq_true,Bool.not_true,Bool.not_false,cond_true,cond_false,BG,AX,Ci,BH,BI,Cf,Bool.false_eq_true,CR,AW,BC,Bi,CZ,D_,BX,CC,CB,CA,A7,List.not_mem_nil,or_false,or_true,List.cons_append,List.nil_append,DB,DN,DU,Cm,Ck,C8,A_,Dn,Ai,Am,List.set_cons_zero,List.set_cons_succ,List.length_cons,List.length_nil,Bf,AP,Bc,AC,AK,hok],by simp only[tT,DS,D7,CW,DF,DE,BF,CS,DR,Ag,CT,Ce,BB,Bh,Cd,Az,A0,AR,DV,Eb,Ea,BN,C3,Nat.reduceLT,↓reduceIte,Nat.reduceEqDiff,Nat.reduceAdd,C2,C0,Cg,BD,Cn,A9,Co,Ac,Bk,Aw,BA,D3,Bj,Ba,Bb,AJ,AY,AG,AE,Bd,Be,AL,AZ,AQ,AF,Ch,D5,D6,Ah,Ak,cells?_cells,DH,CY,DG,CX,DC,DP,DL,DK,DJ,DI,DA,DT,DM,DD,DQ,D8,CU,CV,Nat.add_zero,Nat.zero_add,Nat.add_left_cancel_iff,Nat.add_eq_left,Nat.left_eq_add,List.getElem?_cons_zero,List.getElem?_cons_succ,beq_self_eq_true,Bool.not_true,Bool.not_false,cond_true,cond_false,BG,AX,Ci,BH,BI,Cf,Bool.false_eq_true,CR,AW,BC,Bi,CZ,D_,BX,CC,CB,CA,A7,List.not_mem_nil,or_false,or_true,List.cons_append,List.nil_append,DB,DN,DU,Cm,Ck,C8,A_,Dn,Ai,Am,List.set_cons_zero,List.set_cons_succ,List.length_cons,List.length_nil,Bf,AP,Bc,AC,AK,hnt],by simp only[tT,DS,D7,CW,DF,DE,BF,CS,DR,Ag,CT,Ce,BB,Bh,Cd,Az,A0,AR,DV,Eb,Ea,BN,C3,Nat.reduceLT,↓reduceIte,Nat.reduceEqDiff,Nat.reduceAdd,C2,C0,Cg,BD,Cn,A9,Co,Ac,Bk,Aw,BA,D3,Bj,Ba,Bb,AJ,AY,AG,AE,Bd,Be,AL,AZ,AQ,AF,Ch,D5,D6,Ah,Ak,cells?_cells,DH,CY,DG,CX,DC,DP,DL,DK,DJ,DI,DA,DT,DM,DD,DQ,D8,CU,CV,Nat.add_zero,Nat.zero_add,Nat.add_left_cancel_iff,Nat.add_eq_left,Nat.left_eq_add,List.getElem?_cons_zero,List.getElem?_cons_succ,beq_self_eq_true,Bool.not_true,Bool.not_false,cond_true,cond_false,BG,AX,Ci,BH,BI,Cf,Bool.false_eq_true,CR,AW,BC,Bi,CZ,D_,BX,CC,CB,CA,A7,List.not_mem_nil,or_false,or_true,List.cons_append,List.nil_append,DB,DN,DU,Cm,Ck,C8,A_,Dn,Ai,Am,List.set_cons_zero,List.set_cons_succ,List.length_cons,List.length_nil,Bf,AP,Bc,AC,AK,hds],hx,hw'⟩
    rw[show D.sames (d::ds) (d'::ds')=(D.same d d'&&D.sames ds ds') from rfl,e,if_neg (by simp)]
    exact⟨rfl,by simp only[tT,DS,D7,CW,DF,DE,BF,CS,DR,Ag,CT,Ce,BB,Bh,Cd,Az,A0,AR,DV,Eb,Ea,BN,C3,Nat.reduceLT,↓reduceIte,Nat.reduceEqDiff,Nat.reduceAdd,C2,C0,Cg,BD,Cn,A9,Co,Ac,Bk,Aw,BA,D3,Bj,Ba,Bb,AJ,AY,AG,AE,Bd,Be,AL,AZ,AQ,AF,Ch,D5,D6,Ah,Ak,cells?_cells,DH,CY,DG,CX,DC,DP,DL,DK,DJ,DI,DA,DT,DM,DD,DQ,D8,CU,CV,Nat.add_zero,Nat.zero_add,Nat.add_left_cancel_iff,Nat.add_eq_left,Nat.left_eq_add,List.getElem?_cons_zero,List.getElem?_cons_succ,beq_self_eq_true,Bool.not_true,Bool.not_false,cond_true,cond_false,BG,AX,Ci,BH,BI,Cf,Bool.false_eq_true,CR,AW,BC,Bi,CZ,D_,BX,CC,CB,CA,A7,List.not_mem_nil,or_false,or_true,List.cons_append,List.nil_append,DB,DN,DU,Cm,Ck,C8,A_,Dn,Ai,Am,List.set_cons_zero,List.set_cons_succ,List.length_cons,List.length_nil,Bf,AP,Bc,AC,AK,hok,hnt]⟩
   | true=>
    simp only[tT,DS,D7,CW,DF,DE,BF,CS,DR,Ag,CT,Ce,BB,Bh,Cd,Az,A0,AR,DV,Eb,Ea,BN,C3,Nat.reduceLT,↓reduceIte,Nat.reduceEqDiff,Nat.reduceAdd,C2,C0,Cg,BD,Cn,A9,Co,Ac,Bk,Aw,BA,D3,Bj,Ba,Bb,AJ,AY,AG,AE,Bd,Be,AL,AZ,AQ,AF,Ch,D5,D6,Ah,Ak,cells?_cells,DH,CY,DG,CX,DC,DP,DL,DK,DJ,DI,DA,DT,DM,DD,DQ,D8,CU,CV,Nat.add_zero,Nat.zero_add,Nat.add_left_cancel_iff,Nat.add_eq_left,Nat.left_eq_add,List.getElem?_cons_zero,List.getElem?_cons_succ,beq_self_eq_true,Bool.not_true,Bool.not_false,cond_true,cond_false,BG,AX,Ci,BH,BI,Cf,Bool.false_eq_true,CR,AW,BC,Bi,CZ,D_,BX,CC,CB,CA,A7,List.not_mem_nil,or_false,or_true,List.cons_append,List.nil_append,DB,DN,DU,Cm,Ck,C8,A_,Dn,Ai,Am,List.set_cons_zero,List.set_cons_succ,List.length_cons,List.length_nil,Bf,AP,Bc,AC,AK,AjP,Yr,hok,hnt,hnl,hds,hg0,hg1,hg5,fg,hwr]
    generalize ha':aY.put _ (some 5) _=a'
    have hH:HeadEqC a' (.slice (some ⟨b,off,none⟩) len c) (.slice (some ⟨b',off',none⟩) len c') (k+1):=by
     rw[<-ha']
     constructor<;>simp only[tT,DS,D7,CW,DF,DE,BF,CS,DR,Ag,CT,Ce,BB,Bh,Cd,Az,A0,AR,DV,Eb,Ea,BN,C3,Nat.reduceLT,↓reduceIte,Nat.reduceEqDiff,Nat.reduceAdd,C2,C0,Cg,BD,Cn,A9,Co,Ac,Bk,Aw,BA,D3,Bj,Ba,Bb,AJ,AY,AG,AE,Bd,Be,AL,AZ,AQ,AF,Ch,D5,D6,Ah,Ak,cells?_cells,DH,CY,DG,CX,DC,DP,DL,DK,DJ,DI,DA,DT,DM,DD,DQ,D8,CU,CV,Nat.add_zero,Nat.zero_add,Nat.add_left_cancel_iff,Nat.add_eq_left,Nat.left_eq_add,List.getElem?_cons_zero,List.getElem?_cons_succ,beq_self_eq_true,Bool.not_true,Bool.not_false,cond_true,cond_false,BG,AX,Ci,BH,BI,Cf,Bool.false_eq_true,CR,AW,BC,Bi,CZ,D_,BX,CC,CB,CA,A7,List.not_mem_nil,or_false,or_true,List.cons_append,List.nil_append,DB,DN,DU,Cm,Ck,C8,A_,Dn,Ai,Am,List.set_cons_zero,List.set_cons_succ,List.length_cons,List.length_nil,Bf,AP,Bc,AC,AK,hok,hnt,hnl,hds,hg0,hg1,hg5,fg,true_or]
    obtain⟨e1,a1,a_,g1,g2,g3,g4,g5,g6,g7⟩:=ih ds' (k+1) fuel a' V (by simp at hk;omega) (by simpa using hl) (by simp at hf;omega) hN'.2 hM'.2 hw' (h1r.ext hw hx) (h2r.ext hw hx) hH
    refine⟨e1,a1,a_,g1,?_,g3,g4,g5,hx.trans g6,g7⟩
    rw[show D.sames (d::ds) (d'::ds')=(D.same d d'&&D.sames ds ds') from rfl,e]
    exact g2
theorem I3(n N:Nat)(hE:∀d d' v v' Z,D.deep d<=N->d.count<1000000000->Wf Z->Laid Z v d->Laid Z v' d'->Gives ((env n).call 18 [v,v'] none Z) Z fun w _=>w=.bool (D.same d d'))(p p':Option Addr)(c c':Nat)(ds ds':List D)(Z:aC)(hN:D.deeps ds<=N)(hM:D.counts ds<1000000000)(hw:Wf Z)(h1:LaidE Z p 0 ds)(h2:LaidE Z p' 0 ds'):
  Gives ((env (n+1)).call 26 [.slice p ds.length c,.slice p' ds'.length c'] none Z) Z fun w _=>w=.bool (D.sames ds ds'):=by
 rw[Al _ 26 _ _ rfl,Aoj _ _ _ _ (by simp)]
 generalize ha:(⟨bB undef 6 _,fun _=>undef,6,27,[]⟩:aY)=a
 have hok:a.ok:=by rw[<-ha];exact U3 _ _ _ _
 have hnt:a.nt=27:=by rw[<-ha]
 have hnl:a.nl=6:=by rw[<-ha]
 have hds:a.defers=[]:=by rw[<-ha]
 have hg0:a.get 0=.slice p ds.length c:=by rw[<-ha,HB];rfl
 have hg1:a.get 1=.slice p' ds'.length c':=by rw[<-ha,HB];rfl
 clear ha
 unfold Amv
 cases e1:((Int.ofNat ds.length)==(Int.ofNat ds'.length)) with
 | false=>
  simp only[tT,DS,D7,CW,DF,DE,BF,CS,DR,Ag,CT,Ce,BB,Bh,Cd,Az,A0,AR,DV,Eb,Ea,BN,C3,Nat.reduceLT,↓reduceIte,Nat.reduceEqDiff,Nat.reduceAdd,C2,C0,Cg,BD,Cn,A9,Co,Ac,Bk,Aw,BA,D3,Bj,Ba,Bb,AJ,AY,AG,AE,Bd,Be,AL,AZ,AQ,AF,Ch,D5,D6,Ah,Ak,cells?_cells,DH,CY,DG,CX,DC,DP,DL,DK,DJ,DI,DA,DT,DM,DD,DQ,D8,CU,CV,Nat.add_zero,Nat.zero_add,Nat.add_left_cancel_iff,Nat.add_eq_left,Nat.left_eq_add,List.getElem?_cons_zero,List.getElem?_cons_succ,beq_self_eq_true,Bool.not_true,Bool.not_false,cond_true,cond_false,BG,AX,Ci,BH,BI,Cf,Bool.false_eq_true,CR,AW,BC,Bi,CZ,D_,BX,CC,CB,CA,A7,List.not_mem_nil,or_false,or_true,List.cons_append,List.nil_append,DB,DN,DU,Cm,Ck,C8,A_,Dn,Ai,Am,List.set_cons_zero,List.set_cons_succ,List.length_cons,List.length_nil,Bf,AP,Bc,AC,AK,Vn,RT,Vo,RU,Vp,RV,hok,hnt,hnl,hds,hg0,hg1,e1]
  refine⟨_,_,rfl,Ext.refl _,hw,?_⟩
  have hne:ds.length≠ds'.length:=fun h=>by rw[h] at e1;simp at e1
  cases e:D.sames ds ds' with
  | false=>simp only[tT,DS,D7,CW,DF,DE,BF,CS,DR,Ag,CT,Ce,BB,Bh,Cd,Az,A0,AR,DV,Eb,Ea,BN,C3,Nat.reduceLT,↓reduceIte,Nat.reduceEqDiff,Nat.reduceAdd,C2,C0,Cg,BD,Cn,A9,Co,Ac,Bk,Aw,BA,D3,Bj,Ba,Bb,AJ,AY,AG,AE,Bd,Be,AL,AZ,AQ,AF,Ch,D5,D6,Ah,Ak,cells?_cells,DH,CY,DG,CX,DC,DP,DL,DK,DJ,DI,DA,DT,DM,DD,DQ,D8,CU,CV,Nat.add_zero,Nat.zero_add,Nat.add_left_cancel_iff,Nat.add_eq_left,Nat.left_eq_add,List.getElem?_cons_zero,List.getElem?_cons_succ,beq_self_eq_true,Bool.not_true,Bool.not_false,cond_true,cond_false,BG,AX,Ci,BH,BI,Cf,Bool.false_eq_true,CR,AW,BC,Bi,CZ,D_,BX,CC,CB,CA,A7,List.not_mem_nil,or_false,or_true,List.cons_append,List.nil_append,DB,DN,DU,Cm,Ck,C8,A_,Dn,Ai,Am,List.set_cons_zero,List.set_cons_succ,List.length_cons,List.length_nil,Bf,AP,Bc,AC,AK,hok,hnt]
  | true=>exact absurd (JL e) hne
 | true=>
  have hl:ds.length=ds'.length:=Int.ofNat.inj (eq_of_beq e1)
  simp only[tT,DS,D7,CW,DF,DE,BF,CS,DR,Ag,CT,Ce,BB,Bh,Cd,Az,A0,AR,DV,Eb,Ea,BN,C3,Nat.reduceLT,↓reduceIte,Nat.reduceEqDiff,Nat.reduceAdd,C2,C0,Cg,BD,Cn,A9,Co,Ac,Bk,Aw,BA,D3,Bj,Ba,Bb,AJ,AY,AG,AE,Bd,Be,AL,AZ,AQ,AF,Ch,D5,D6,Ah,Ak,cells?_cells,DH,CY,DG,CX,DC,DP,DL,DK,DJ,DI,DA,DT,DM,DD,DQ,D8,CU,CV,Nat.add_zero,Nat.zero_add,Nat.add_left_cancel_iff,Nat.add_eq_left,Nat.left_eq_add,List.getElem?_cons_zero,List.getElem?_cons_succ,beq_self_eq_true,Bool.not_true,Bool.not_false,cond_true,cond_false,BG,AX,Ci,BH,BI,Cf,Bool.false_eq_true,CR,AW,BC,Bi,CZ,D_,BX,CC,CB,CA,A7,List.not_mem_nil,or_false,or_true,List.cons_append,List.nil_append,DB,DN,DU,Cm,Ck,C8,A_,Dn,Ai,Am,List.set_cons_zero,List.set_cons_succ,List.length_cons,List.length_nil,Bf,AP,Bc,AC,AK,Vn,RT,Vo,RU,Vp,RV,AjO,Yq,hok,hnt,hnl,hds,hg0,hg1,e1,AoX]
  generalize ha':aY.put _ (some 5) _=a'
  have hH:HeadEqC a' (.slice p ds.length c) (.slice p' ds.length c') 0:=by
   rw[<-ha']
   constructor<;>simp only[tT,DS,D7,CW,DF,DE,BF,CS,DR,Ag,CT,Ce,BB,Bh,Cd,Az,A0,AR,DV,Eb,Ea,BN,C3,Nat.reduceLT,↓reduceIte,Nat.reduceEqDiff,Nat.reduceAdd,C2,C0,Cg,BD,Cn,A9,Co,Ac,Bk,Aw,BA,D3,Bj,Ba,Bb,AJ,AY,AG,AE,Bd,Be,AL,AZ,AQ,AF,Ch,D5,D6,Ah,Ak,cells?_cells,DH,CY,DG,CX,DC,DP,DL,DK,DJ,DI,DA,DT,DM,DD,DQ,D8,CU,CV,Nat.add_zero,Nat.zero_add,Nat.add_left_cancel_iff,Nat.add_eq_left,Nat.left_eq_add,List.getElem?_cons_zero,List.getElem?_cons_succ,beq_self_eq_true,Bool.not_true,Bool.not_false,cond_true,cond_false,BG,AX,Ci,BH,BI,Cf,Bool.false_eq_true,CR,AW,BC,Bi,CZ,D_,BX,CC,CB,CA,A7,List.not_mem_nil,or_false,or_true,List.cons_append,List.nil_append,DB,DN,DU,Cm,Ck,C8,A_,Dn,Ai,Am,List.set_cons_zero,List.set_cons_succ,List.length_cons,List.length_nil,Bf,AP,Bc,AC,AK,hok,hnt,hnl,hds,hg0,hg1,hl]<;>rfl
  generalize hb:bF=fuel
  have hlen:ds.length<1000000000000:=by have:=E1 ds;omega
  have hf:ds.length<fuel:=by rw[<-hb];exact hlen
  obtain⟨e1,a1,a_,g1,g2,g3,g4,g5,g6,g7⟩:=P3 n N hE p p' ds.length c c' hlen ds ds' 0 fuel a' Z (by simp) hl hf hN hM hw h1 h2 hH
  rw[g1]
  cases e:D.sames ds ds' with
  | false=>
   rw[e,if_neg (by simp)] at g2
   obtain⟨rfl,g8⟩:=g2
   simp only[tT,DS,D7,CW,DF,DE,BF,CS,DR,Ag,CT,Ce,BB,Bh,Cd,Az,A0,AR,DV,Eb,Ea,BN,C3,Nat.reduceLT,↓reduceIte,Nat.reduceEqDiff,Nat.reduceAdd,C2,C0,Cg,BD,Cn,A9,Co,Ac,Bk,Aw,BA,D3,Bj,Ba,Bb,AJ,AY,AG,AE,Bd,Be,AL,AZ,AQ,AF,Ch,D5,D6,Ah,Ak,cells?_cells,DH,CY,DG,CX,DC,DP,DL,DK,DJ,DI,DA,DT,DM,DD,DQ,D8,CU,CV,Nat.add_zero,Nat.zero_add,Nat.add_left_cancel_iff,Nat.add_eq_left,Nat.left_eq_add,List.getElem?_cons_zero,List.getElem?_cons_succ,beq_self_eq_true,Bool.not_true,Bool.not_false,cond_true,cond_false,BG,AX,Ci,BH,BI,Cf,Bool.false_eq_true,CR,AW,BC,Bi,CZ,D_,BX,CC,CB,CA,A7,List.not_mem_nil,or_false,or_true,List.cons_append,List.nil_append,DB,DN,DU,Cm,Ck,C8,A_,Dn,Ai,Am,List.set_cons_zero,List.set_cons_succ,List.length_cons,List.length_nil,Bf,AP,Bc,AC,AK,g3,g4,g5,g8]
   exact⟨_,_,rfl,g6,g7,rfl⟩
  | true=>
   rw[e,if_pos rfl] at g2
   subst g2
   simp only[tT,DS,D7,CW,DF,DE,BF,CS,DR,Ag,CT,Ce,BB,Bh,Cd,Az,A0,AR,DV,Eb,Ea,BN,C3,Nat.reduceLT,↓reduceIte,Nat.reduceEqDiff,Nat.reduceAdd,C2,C0,Cg,BD,Cn,A9,Co,Ac,Bk,Aw,BA,D3,Bj,Ba,Bb,AJ,AY,AG,AE,Bd,Be,AL,AZ,AQ,AF,Ch,D5,D6,Ah,Ak,cells?_cells,DH,CY,DG,CX,DC,DP,DL,DK,DJ,DI,DA,DT,DM,DD,DQ,D8,CU,CV,Nat.add_zero,Nat.zero_add,Nat.add_left_cancel_iff,Nat.add_eq_left,Nat.left_eq_add,List.getElem?_cons_zero,List.getElem?_cons_succ,beq_self_eq_true,Bool.not_true,Bool.not_false,cond_true,cond_false,BG,AX,Ci,BH,BI,Cf,Bool.false_eq_true,CR,AW,BC,Bi,CZ,D_,BX,CC,CB,CA,A7,List.not_mem_nil,or_false,or_true,List.cons_append,List.nil_append,DB,DN,DU,Cm,Ck,C8,A_,Dn,Ai,Am,List.set_cons_zero,List.set_cons_succ,List.length_cons,List.length_nil,Bf,AP,Bc,AC,AK,AjS,Yu,g3,g4,g5]
   exact⟨_,_,rfl,g6,g7,rfl⟩
theorem ER(n:Nat):∀(N:Nat) (d d':D) (v v':Value) (Z:aC),D.deep d<=N->d.count<1000000000->Wf Z->Laid Z v d->Laid Z v' d'->Gives ((env (n+2*N)).call 18 [v,v'] none Z) Z fun w _=>w=.bool (D.same d d')
 | 0,d,_,_,_,_,h,_,_,_,_=>by cases d;rw[D.deep] at h;omega
 | N+1,.mk k z t ds,.mk k' z' t' ds',v,v',Z,h,hc,hw,⟨p,c,hv,hE⟩,⟨p',c',hv',hE'⟩=>by
  subst hv hv'
  rw[D.deep] at h
  rw[D.count] at hc
  have:=P4 (n+2*N+1) k z k' z' t t' (.slice p ds.length c) (.slice p' ds'.length c') Z (D.sames ds ds') hw fun V hx hw'=>
   I3 (n+2*N) N (fun d d' v v' Z a b c e f=>ER n N d d' v v' Z a b c e f) p p' c c' ds ds' V (by omega) (by omega) hw' (hE.ext hw hx) (hE'.ext hw hx)
  rw[show D.same (.mk k z t ds) (.mk k' z' t' ds')=(decide (k=k')&&decide (z=z')&&(t.toList==t'.toList)&&D.sames ds ds') from rfl,<-Aa2,<-Aa2]
  exact this
end Go.Proofs.YtknnbjmcfibpgaaGreatDoor
namespace Go.Eng
open Go
def Vecs(T:TypeId)(Q:Nat->Prop)(Z:aC)(s:Value)(vs:List Value):Prop:=(s=.slice none 0 0/\vs=[])\/∃b,Ful T Z b s vs/\Q b
section
variable {T:TypeId} {Q Q':Nat->Prop} {Z V:aC} {s:Value} {vs:List Value}
theorem Vecs.one(h:Vecs T Q Z s vs):oneCell s=true/\aU s=true/\aI s=[s]:=by
 rcases h with⟨rfl,_⟩|⟨b,h,_⟩
 .exact⟨AC _ _ _,AG _ _ _,rfl⟩
 .exact h.one
theorem Vecs.keep(h:Vecs T Q Z s vs)(hk:∀b,Q b->b<Z.next->V.heap.get b=Z.heap.get b/\Q' b)(hw:Wf Z):Vecs T Q' V s vs:=by
 rcases h with h|⟨b,h,hq⟩
 .exact .inl h
 .exact .inr ⟨b,h.keep (hk b hq (h.lt hw)).1,(hk b hq (h.lt hw)).2⟩
theorem Vecs.append(h:Vecs T Q Z s vs)(hw:Wf Z)(bx cx:Nat)(v:Value)(bytes:Nat)(hx:Z.cells bx=some [v])(ho:oneCell v=true)(hby:bytes<1000)(hlen:vs.length+1<100000):
  ∃b' s' τ,fappend T 1 bytes s (.slice (some ⟨bx,0,none⟩) 1 cx) Z=.val s' τ/\Ful T τ b' s' (vs++[v])/\(Q b'\/b'=Z.next)/\Chg Q Z τ/\Wf τ:=by
 rcases h with⟨rfl,rfl⟩|⟨b,h,hq⟩
 .refine⟨Z.next,.slice (some ⟨Z.next,0,none⟩) 1 1,Z.push (.cells [v] T) (some 1),?_,⟨some 1,Z.clock,rfl,by rw[Ai,if_pos rfl];rfl,.inr rfl⟩,.inr rfl,(Chg.refl _ _).push _ _,hw.push _ _⟩
  have hn:=J2 bx 1 cx [v] [] hx rfl
  unfold fappend
  simp only[hn]
  rw[show [v].all oneCell=true by simp[ho]]
  show fappend2 T 1 bytes 0 0 none 1 [v] Z=_
  unfold fappend2
  rw[show Nat.ble (0+1) 0=false from rfl,show Nat.ble ((0+1)*(bytes+1)) 1000000000=true by rw[Nat.ble_eq];omega]
  rfl
 .obtain⟨b',s',τ,e,F,hb',hC,hw'⟩:=h.append hw (.slice (some ⟨bx,0,none⟩) 1 cx) [v] bytes (J2 bx 1 cx [v] [] hx rfl) (by simp[ho]) hby (by simpa using hlen)
  refine⟨b',s',τ,e,F,?_,hC.weaken fun x _ hx=>hx ▸ hq,hw'⟩
  rcases hb' with rfl|rfl
  .exact .inl hq
  .exact .inr rfl
end
end Go.Eng
namespace Go.Proofs.YtknnbjmcfibpgaaGreatDoor
open Go Go.Eng
attribute [local congr] Aa Af Ae Ab Ad
attribute [-go_sem] List.range_succ
theorem PathAt.pathV{Z:aC}{v:Value}{path:List Nat}(h:PathAt Z v path):PathV (fun _=>True) Z v path:=by
 obtain⟨p,c,rfl,⟨rfl,rfl,rfl⟩|⟨b,more,rfl,hc⟩⟩:=h
 .exact .inl ⟨rfl,rfl⟩
 .exact .inr ⟨b,c,more,rfl,trivial,hc⟩
end Go.Proofs.YtknnbjmcfibpgaaGreatDoor
namespace Go.Proofs.YtknnbjmcfibpgaaGreatDoor
open Go Go.Eng
attribute [local congr] Aa Af Ae Ab Ad
attribute [-go_sem] List.range_succ
def foundIn(x:D)(l:List (List Nat×D)):List (List Nat):=(l.filter fun y=>D.same y.2 x).map (·.1)
def Paths'(B:Nat->Prop)(l:Nat)(Z:aC)(fv:Value)(ps:List (List Nat)):Prop:=∃us bo,Vecs 25 (fun b=>b=bo/\B b/\l<b) Z fv us/\PathsL (fun b=>B b/\l<b/\b≠bo) Z us ps
def FindI(l r cm bx:Nat)(R X:Nat->Prop)(xv:List Value)(x:D)(bU:aC)(f g:Nat->Value)(done:List (List Nat×D))(B:Nat->Prop)(Z:aC):Prop:=
 (∀b,X b\/b=l\/b=r\/b=cm\/b=bx->B b)/\(∀b,B b->b<Z.next/\(X b\/b=l\/b=r\/b=cm\/b=bx\/l<b))/\LoopAt 99 [10,11] Auz AuA 8 21 f g l r .ready Z/\(∃ver,Z.heap.get r=some ⟨.defd true,false,none,ver⟩)/\
  (∃fv ver,Z.heap.get cm=some ⟨.cells [fv] 54,false,none,ver⟩/\Paths' B l Z fv (foundIn x done))/\Z.cells bx=some xv/\aL (fun b=>R b\/X b) Z (.agg xv.toArray) x/\∀b,X b->Z.heap.get b=bU.heap.get b
end Go.Proofs.YtknnbjmcfibpgaaGreatDoor
namespace Go.Proofs.YtknnbjmcfibpgaaGreatDoor
open Go Go.Eng
attribute [local congr] Aa Af Ae Ab Ad
attribute [-go_sem] List.range_succ
end Go.Proofs.YtknnbjmcfibpgaaGreatDoor
end
