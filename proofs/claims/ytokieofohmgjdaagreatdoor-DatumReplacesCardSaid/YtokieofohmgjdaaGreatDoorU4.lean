import Derived.Test.YtokieofohmgjdaaGreatDoorU3
import Derived.Laws.StructEq
set_option linter.unusedSimpArgs false
set_option linter.unusedVariables false
noncomputable section
namespace Go.Proofs.YtokieofohmgjdaaGreatDoor
open Go Go.Eng
attribute [local congr] Ab Ah Af Ad Ae
attribute [-go_sem] List.range_succ
theorem Vy(n:Nat)(p:Int)(hp:p≤2000)(σ:FState):(env (n+1)).call 101 [.int .i64 p] none σ=.ret (.tuple #[]) none σ:=by
 have hd:decide (p>2000)=false:=by simp;omega
 rw[Ak _ 101 _ _ rfl,UG _ _ _ _ (by simp),Aj]
 unfold TX
 simp -implicitDefEqProofs only[go_sem,Pw,Lw,hd]
theorem E3(n:Nat)(k z:Int)(p:Option Addr)(c:Nat)(σ:FState)(hw:Wf σ):
  Gives ((env (n+1)).call 231 [.agg #[.int .i64 k,.int .i64 z,.string ⟨#[]⟩,.slice p 0 c]] none σ) σ fun w _=>w=.bool true:=by
 have h0:(Int.ofNat 0==0)=true:=rfl
 rw[Ak _ 231 _ _ rfl,UR _ _ _ _ (by simp),Aj]
 unfold Uf
 simp -implicitDefEqProofs only[go_sem,KO,J9,KP,J_,h0]
 exact⟨_,_,rfl,(Ext.refl _).push _ _,hw.push _ _,rfl⟩
theorem FP(n:Nat)(k:Int)(t:ByteArray)(p:Option Addr)(c:Nat)(σ:FState)(hw:Wf σ):
  Gives ((env (n+1)).call 225 [.agg #[.int .i64 k,.int .i64 0,.string t,.slice p 0 c]] none σ) σ fun w _=>w=.bool true:=by
 have h0:(Int.ofNat 0==0)=true:=rfl
 rw[Ak _ 225 _ _ rfl,UQ _ _ _ _ (by simp),Aj]
 unfold Ue
 simp -implicitDefEqProofs only[go_sem,KM,J7,KN,J8,h0]
 exact⟨_,_,rfl,(Ext.refl _).push _ _,hw.push _ _,rfl⟩
theorem QR(n:Nat)(k:Int)(p:Option Addr)(c:Nat)(σ:FState)(hw:Wf σ):
  Gives ((env (n+1)).call 233 [.agg #[.int .i64 k,.int .i64 0,.string ⟨#[]⟩,.slice p 0 c]] none σ) σ fun w _=>w=.bool true:=by
 have h0:(Int.ofNat 0==0)=true:=rfl
 rw[Ak _ 233 _ _ rfl,US _ _ _ _ (by simp),Aj]
 unfold Ug
 simp -implicitDefEqProofs only[go_sem,Iz,Iy,IB,IA,h0]
 exact⟨_,_,rfl,(Ext.refl _).push _ _,hw.push _ _,rfl⟩
theorem Xn(n:Nat)(p:Option Addr)(l c:Nat)(σ:FState)(hw:Wf σ):
  Gives ((env (n+1)).call 235 [.agg #[.int .i64 6,.int .i64 0,.string ⟨#[]⟩,.slice p l c]] none σ) σ fun w _=>w=.bool true:=by
 rw[Ak _ 235 _ _ rfl,MG _ _ _ _ (by simp),Aj]
 unfold Oe
 simp -implicitDefEqProofs only[go_sem,Gy,G9,Gz,G_]
 exact⟨_,_,rfl,(Ext.refl _).push _ _,hw.push _ _,rfl⟩
theorem Vg(n:Nat)(p:Option Addr)(c:Nat)(σ:FState)(hw:Wf σ):
  Gives ((env (n+1)).call 235 [.agg #[.int .i64 5,.int .i64 0,.string ⟨#[]⟩,.slice p 2 c]] none σ) σ fun w _=>w=.bool true:=by
 have h0:(Int.ofNat 2==2)=true:=rfl
 have h1:((5:Int)==6)=false:=rfl
 rw[Ak _ 235 _ _ rfl,MG _ _ _ _ (by simp),Aj]
 unfold Oe
 simp -implicitDefEqProofs only[go_sem,Gy,G9,Gz,G_,h0,h1]
 exact⟨_,_,rfl,(Ext.refl _).push _ _,hw.push _ _,rfl⟩
def workType(k:Nat):Nat:=if k=0 then 187 else if k≤2 then 184 else if k≤4 then 151 else 188
theorem Ft(n k:Nat)(hk:k≤6)(z:Int)(t:ByteArray)(q:Value)(hq:oneCell q=true)(σ:FState)(hw:Wf σ):
  Gives ((env (n+1)).call 127 [.agg #[.int .i64 (k:Int),.int .i64 z,.string t,q]] none σ) σ fun w _=>w=.iface (workType k) (.agg #[.int .i64 (k:Int),.int .i64 z,.string t,q]):=by
 rw[Ak _ 127 _ _ rfl,UJ _ _ _ _ (by simp),Aj]
 unfold T9
 have fin:∀(o:FObj) (f:Option Nat),Ext σ (σ.push o f)∧Wf (σ.push o f):=fun o f=>⟨(Ext.refl _).push _ _,hw.push _ _⟩
 obtain rfl|rfl|rfl|rfl|rfl|rfl|rfl:k=0∨k=1∨k=2∨k=3∨k=4∨k=5∨k=6:=by omega
 ·have e0:(((0:Nat):Int)==0)=true:=rfl
  simp -implicitDefEqProofs only[go_sem,EI,E4,EJ,E5,EK,E6,AcM,RV,e0]
  exact⟨_,_,rfl,(fin ..).1,(fin ..).2,rfl⟩
 ·have e0:(((1:Nat):Int)==0)=false:=rfl
  have e1:(((1:Nat):Int)==1)=true:=rfl
  simp -implicitDefEqProofs only[go_sem,EI,E4,EJ,E5,EK,E6,EY,Fp,PL,LL,e0,e1]
  exact⟨_,_,rfl,(fin ..).1,(fin ..).2,rfl⟩
 ·have e0:(((2:Nat):Int)==0)=false:=rfl
  have e1:(((2:Nat):Int)==1)=false:=rfl
  have e2:(((2:Nat):Int)==2)=true:=rfl
  simp -implicitDefEqProofs only[go_sem,EI,E4,EJ,E5,EK,E6,EY,Fp,Fx,FU,PL,LL,e0,e1,e2]
  exact⟨_,_,rfl,(fin ..).1,(fin ..).2,rfl⟩
 ·have e0:(((3:Nat):Int)==0)=false:=rfl
  have e1:(((3:Nat):Int)==1)=false:=rfl
  have e2:(((3:Nat):Int)==2)=false:=rfl
  have e3:(((3:Nat):Int)==3)=true:=rfl
  simp -implicitDefEqProofs only[go_sem,EI,E4,EJ,E5,EK,E6,EY,Fp,Fx,FU,Gr,GZ,PM,LM,e0,e1,e2,e3]
  exact⟨_,_,rfl,(fin ..).1,(fin ..).2,rfl⟩
 ·have e0:(((4:Nat):Int)==0)=false:=rfl
  have e1:(((4:Nat):Int)==1)=false:=rfl
  have e2:(((4:Nat):Int)==2)=false:=rfl
  have e3:(((4:Nat):Int)==3)=false:=rfl
  have e4:(((4:Nat):Int)==4)=true:=rfl
  simp -implicitDefEqProofs only[go_sem,EI,E4,EJ,E5,EK,E6,EY,Fp,Fx,FU,Gr,GZ,H6,H5,PM,LM,e0,e1,e2,e3,e4]
  exact⟨_,_,rfl,(fin ..).1,(fin ..).2,rfl⟩
 ·have e0:(((5:Nat):Int)==0)=false:=rfl
  have e1:(((5:Nat):Int)==1)=false:=rfl
  have e2:(((5:Nat):Int)==2)=false:=rfl
  have e3:(((5:Nat):Int)==3)=false:=rfl
  have e4:(((5:Nat):Int)==4)=false:=rfl
  have e5:(((5:Nat):Int)==5)=true:=rfl
  simp -implicitDefEqProofs only[go_sem,EI,E4,EJ,E5,EK,E6,EY,Fp,Fx,FU,Gr,GZ,H6,H5,Jf,HC,Nn,JS,e0,e1,e2,e3,e4,e5]
  exact⟨_,_,rfl,(fin ..).1,(fin ..).2,rfl⟩
 ·have e0:(((6:Nat):Int)==0)=false:=rfl
  have e1:(((6:Nat):Int)==1)=false:=rfl
  have e2:(((6:Nat):Int)==2)=false:=rfl
  have e3:(((6:Nat):Int)==3)=false:=rfl
  have e4:(((6:Nat):Int)==4)=false:=rfl
  have e5:(((6:Nat):Int)==5)=false:=rfl
  have e6:(((6:Nat):Int)==6)=true:=rfl
  simp -implicitDefEqProofs only[go_sem,EI,E4,EJ,E5,EK,E6,EY,Fp,Fx,FU,Gr,GZ,H6,H5,Jf,HC,Nm,JR,Nn,JS,e0,e1,e2,e3,e4,e5,e6]
  exact⟨_,_,rfl,(fin ..).1,(fin ..).2,rfl⟩
theorem IU(n k:Nat)(z:Int)(hk:k=1∧0≤z∧z≤1∨k=2 ∧ -999999999≤z∧z≤999999999)(t:ByteArray)(q:Value)(hq:oneCell q=true)(σ:FState)(hw:Wf σ):
  Gives ((env (n+1)).call 151 [.agg #[.int .i64 (k:Int),.int .i64 z,.string t,q]] none σ) σ fun w _=>w=.tuple #[]:=by
 rw[Ak _ 151 _ _ rfl,ME _ _ _ _ (by simp),Aj]
 unfold Oc
 rcases hk with⟨rfl,h1,h2⟩|⟨rfl,h1,h2⟩
 ·have e1:(((1:Nat):Int)==1)=true:=rfl
  have d1:decide (z<0)=false:=by simpa using h1
  have d2:decide (z>1)=false:=by simpa using h2
  simp -implicitDefEqProofs only[go_sem,Fy,FV,Fz,FW,FA,FX,Gs,G0,FB,FY,e1,d1,d2]
  exact⟨_,_,rfl,(Ext.refl _).push _ _,hw.push _ _,rfl⟩
 ·have e1:(((2:Nat):Int)==1)=false:=rfl
  have d1:decide (z < -999999999)=false:=by simp;omega
  have d2:decide (z>999999999)=false:=by simp;omega
  simp -implicitDefEqProofs only[go_sem,Fy,FV,Fz,FW,FA,FX,FB,FY,e1,d1,d2]
  exact⟨_,_,rfl,(Ext.refl _).push _ _,hw.push _ _,rfl⟩
theorem Hs(n k:Nat)(z:Int)(t:ByteArray)(q:Value)(hq:oneCell q=true)(σ:FState)(hw:Wf σ)(hk:k=3∧(∀σ',Ext σ σ'→Wf σ'→Gives ((env n).call 170 [.string t] none σ') σ' fun w _=>w=.bool true)∨
   k=4∧t.size≤60∧(∀σ',Ext σ σ'→Wf σ'→Gives ((env n).call 171 [.string t] none σ') σ' fun w _=>w=.bool true)):
  Gives ((env (n+1)).call 152 [.agg #[.int .i64 (k:Int),.int .i64 z,.string t,q]] none σ) σ fun w _=>w=.tuple #[]:=by
 have hX:=(Ext.refl σ).push (.cells [.int .i64 (k:Int),.int .i64 z,.string t,q] 151) none
 have hw1:=hw.push (.cells [.int .i64 (k:Int),.int .i64 z,.string t,q] 151) none
 have hc:(σ.push (.cells [.int .i64 (k:Int),.int .i64 z,.string t,q] 151) none).cells σ.next=some [.int .i64 (k:Int),.int .i64 z,.string t,q]:=by rw[Ac,if_pos rfl];rfl
 rw[Ak _ 152 _ _ rfl,MF _ _ _ _ (by simp),Aj]
 unfold Od
 rcases hk with⟨rfl,h⟩|⟨rfl,hs,h⟩
 ·have e3:(((3:Nat):Int)==3)=true:=rfl
  have e4:(((3:Nat):Int)==4)=false:=rfl
  obtain⟨_,σ2,e,hX2,hw2,rfl⟩:=h _ hX hw1
  have hc2:=(hX2.cells (Nat.lt_succ_self _)).trans hc
  simp -implicitDefEqProofs only[go_sem,Gt,G1,Gu,G3,Gv,G6,Gw,G7,e3,e4,e,hc2]
  exact⟨_,_,rfl,hX.trans hX2,hw2,rfl⟩
 ·have e3:(((4:Nat):Int)==3)=false:=rfl
  have e4:(((4:Nat):Int)==4)=true:=rfl
  have d1:decide ((Int.ofNat t.size)>60)=false:=by simp;omega
  obtain⟨_,σ2,e,hX2,hw2,rfl⟩:=h _ hX hw1
  have hc2:=(hX2.cells (Nat.lt_succ_self _)).trans hc
  simp -implicitDefEqProofs only[go_sem,Gt,G1,Gu,G3,Gv,G6,Gw,G7,e3,e4,e,hc2,d1]
  exact⟨_,_,rfl,hX.trans hX2,hw2,rfl⟩
theorem Vm(v:Value)(σ:FState):finvoke Tryz.prog (.iface 187 v) "caracole/datum.formed" [] σ=.enter 233 [v] σ:=by kernel_rfl
theorem Fw(v:Value)(σ:FState):finvoke Tryz.prog (.iface 184 v) "caracole/datum.formed" [] σ=.enter 231 [v] σ:=by kernel_rfl
theorem HP(v:Value)(σ:FState):finvoke Tryz.prog (.iface 151 v) "caracole/datum.formed" [] σ=.enter 225 [v] σ:=by kernel_rfl
theorem HO(v:Value)(σ:FState):finvoke Tryz.prog (.iface 188 v) "caracole/datum.formed" [] σ=.enter 235 [v] σ:=by kernel_rfl
theorem Jn(v:Value)(σ:FState):fassert Tryz.prog (.iface 184 v) 184 true σ=.val (.tuple #[v,.bool true]) σ:=by kernel_rfl
theorem Qz(v:Value)(σ:FState):fassert Tryz.prog (.iface 151 v) 151 true σ=.val (.tuple #[v,.bool true]) σ:=by kernel_rfl
theorem Aec(v:Value)(σ:FState):fassert Tryz.prog (.iface 187 v) 184 true σ=.val (.tuple #[.agg #[.int .i64 0,.int .i64 0,.string ⟨#[]⟩,.slice none 0 0],.bool false]) σ:=by kernel_rfl
theorem Aed(v:Value)(σ:FState):fassert Tryz.prog (.iface 187 v) 151 true σ=.val (.tuple #[.agg #[.int .i64 0,.int .i64 0,.string ⟨#[]⟩,.slice none 0 0],.bool false]) σ:=by kernel_rfl
theorem Ls(v:Value)(σ:FState):fassert Tryz.prog (.iface 151 v) 184 true σ=.val (.tuple #[.agg #[.int .i64 0,.int .i64 0,.string ⟨#[]⟩,.slice none 0 0],.bool false]) σ:=by kernel_rfl
theorem O6(v:Value)(σ:FState):fassert Tryz.prog (.iface 188 v) 184 true σ=.val (.tuple #[.agg #[.int .i64 0,.int .i64 0,.string ⟨#[]⟩,.slice none 0 0],.bool false]) σ:=by kernel_rfl
theorem O7(v:Value)(σ:FState):fassert Tryz.prog (.iface 188 v) 151 true σ=.val (.tuple #[.agg #[.int .i64 0,.int .i64 0,.string ⟨#[]⟩,.slice none 0 0],.bool false]) σ:=by kernel_rfl
inductive Good (m:Nat):Nat→Int→ByteArray→Nat→Prop
 | nil:Good m 0 0 ⟨#[]⟩ 0
 | bool (z:Int) (h:0≤z∧z≤1):Good m 1 z ⟨#[]⟩ 0
 | num (z:Int) (h : -999999999≤z∧z≤999999999):Good m 2 z ⟨#[]⟩ 0
 | sym (t:ByteArray) (h:∀σ',Wf σ'→Gives ((env m).call 170 [.string t] none σ') σ' fun w _=>w=.bool true):Good m 3 0 t 0
 | str (t:ByteArray) (hs:t.size≤60) (h:∀σ',Wf σ'→Gives ((env m).call 171 [.string t] none σ') σ' fun w _=>w=.bool true):Good m 4 0 t 0
 | pair:Good m 5 0 ⟨#[]⟩ 2
 | vec (l:Nat):Good m 6 0 ⟨#[]⟩ l
theorem M0(n k:Nat)(z:Int)(t:ByteArray)(p:Option Addr)(l c:Nat)(hG:Good n k z t l)(σ:FState)(hw:Wf σ):
  Gives ((env (n+2)).call 122 [.agg #[.int .i64 (k:Int),.int .i64 z,.string t,.slice p l c]] none σ) σ fun w _=>w=.tuple #[]:=by
 have hk:k≤6:=by cases hG<;>decide
 have hX1:=(Ext.refl σ).push (.cells [.int .i64 (k:Int),.int .i64 z,.string t,.slice p l c] 24) none
 have hw1:=hw.push (.cells [.int .i64 (k:Int),.int .i64 z,.string t,.slice p l c] 24) none
 obtain⟨_,σ2,e2,hX2,hw2,rfl⟩:=Ft n k hk z t (.slice p l c) rfl _ hw1
 have hX:=hX1.trans hX2
 rw[Ak _ 122 _ _ rfl,UI _ _ _ _ (by simp),Aj]
 unfold TZ
 cases hG with
 | nil=>
  obtain⟨_,σ3,e3,hX3,hw3,rfl⟩:=QR n ((0:Nat):Int) p c σ2 hw2
  have wt:workType 0=187:=rfl
  simp -implicitDefEqProofs only[go_sem,Di,D2,Dj,D3,Dn,D4,Ej,Ey,Ek,Ez,EX,Fm,e2,wt,Vm,e3,Aec,Aed]
  exact⟨_,_,rfl,hX.trans hX3,hw3,rfl⟩
 | bool z h=>
  obtain⟨_,σ3,e3,hX3,hw3,rfl⟩:=E3 n ((1:Nat):Int) z p c σ2 hw2
  obtain⟨_,σ5,e5,hX5,hw5,rfl⟩:=IU n 1 z (.inl ⟨rfl,h⟩) ⟨#[]⟩ (.slice p 0 c) rfl ((σ3.push (.cells [.int .i64 0,.int .i64 0,.string ⟨#[]⟩,.slice none 0 0] 184) none).put σ3.next (.cells [.int .i64 ((1:Nat):Int),.int .i64 z,.string ⟨#[]⟩,.slice p 0 c] 184) none) ((hw3.push _ _).put _ _ _ (Nat.lt_succ_self _))
  have hX4:=(((hX.trans hX3).push (.cells [.int .i64 0,.int .i64 0,.string ⟨#[]⟩,.slice none 0 0] 184) none).put σ3.next (.cells [.int .i64 ((1:Nat):Int),.int .i64 z,.string ⟨#[]⟩,.slice p 0 c] 184) none (hX.trans hX3).next).trans hX5
  have wt:workType 1=184:=rfl
  simp -implicitDefEqProofs only[go_sem,Aw,Di,D2,Dj,D3,Dn,D4,Ej,Ey,Ek,Ez,HY,HX,H0,HZ,e2,wt,Fw,e3,Jn,e5]
  exact⟨_,_,rfl,hX4,hw5,rfl⟩
 | num z h=>
  obtain⟨_,σ3,e3,hX3,hw3,rfl⟩:=E3 n ((2:Nat):Int) z p c σ2 hw2
  obtain⟨_,σ5,e5,hX5,hw5,rfl⟩:=IU n 2 z (.inr ⟨rfl,h⟩) ⟨#[]⟩ (.slice p 0 c) rfl ((σ3.push (.cells [.int .i64 0,.int .i64 0,.string ⟨#[]⟩,.slice none 0 0] 184) none).put σ3.next (.cells [.int .i64 ((2:Nat):Int),.int .i64 z,.string ⟨#[]⟩,.slice p 0 c] 184) none) ((hw3.push _ _).put _ _ _ (Nat.lt_succ_self _))
  have hX4:=(((hX.trans hX3).push (.cells [.int .i64 0,.int .i64 0,.string ⟨#[]⟩,.slice none 0 0] 184) none).put σ3.next (.cells [.int .i64 ((2:Nat):Int),.int .i64 z,.string ⟨#[]⟩,.slice p 0 c] 184) none (hX.trans hX3).next).trans hX5
  have wt:workType 2=184:=rfl
  simp -implicitDefEqProofs only[go_sem,Aw,Di,D2,Dj,D3,Dn,D4,Ej,Ey,Ek,Ez,HY,HX,H0,HZ,e2,wt,Fw,e3,Jn,e5]
  exact⟨_,_,rfl,hX4,hw5,rfl⟩
 | sym t h=>
  obtain⟨_,σ3,e3,hX3,hw3,rfl⟩:=FP n ((3:Nat):Int) t p c σ2 hw2
  obtain⟨_,σ5,e5,hX5,hw5,rfl⟩:=Hs n 3 0 t (.slice p 0 c) rfl ((σ3.push (.cells [.int .i64 0,.int .i64 0,.string ⟨#[]⟩,.slice none 0 0] 151) none).put σ3.next (.cells [.int .i64 ((3:Nat):Int),.int .i64 0,.string t,.slice p 0 c] 151) none) ((hw3.push _ _).put _ _ _ (Nat.lt_succ_self _)) (.inl ⟨rfl,fun σ' _=>h σ'⟩)
  have hX4:=(((hX.trans hX3).push (.cells [.int .i64 0,.int .i64 0,.string ⟨#[]⟩,.slice none 0 0] 151) none).put σ3.next (.cells [.int .i64 ((3:Nat):Int),.int .i64 0,.string t,.slice p 0 c] 151) none (hX.trans hX3).next).trans hX5
  have wt:workType 3=151:=rfl
  simp -implicitDefEqProofs only[go_sem,Aw,Di,D2,Dj,D3,Dn,D4,Ej,Ey,Ek,Ez,EX,Fm,H4,H3,GY,Gq,e2,wt,HP,e3,Qz,Ls,e5]
  exact⟨_,_,rfl,hX4,hw5,rfl⟩
 | str t hs h=>
  obtain⟨_,σ3,e3,hX3,hw3,rfl⟩:=FP n ((4:Nat):Int) t p c σ2 hw2
  obtain⟨_,σ5,e5,hX5,hw5,rfl⟩:=Hs n 4 0 t (.slice p 0 c) rfl ((σ3.push (.cells [.int .i64 0,.int .i64 0,.string ⟨#[]⟩,.slice none 0 0] 151) none).put σ3.next (.cells [.int .i64 ((4:Nat):Int),.int .i64 0,.string t,.slice p 0 c] 151) none) ((hw3.push _ _).put _ _ _ (Nat.lt_succ_self _)) (.inr ⟨rfl,hs,fun σ' _=>h σ'⟩)
  have hX4:=(((hX.trans hX3).push (.cells [.int .i64 0,.int .i64 0,.string ⟨#[]⟩,.slice none 0 0] 151) none).put σ3.next (.cells [.int .i64 ((4:Nat):Int),.int .i64 0,.string t,.slice p 0 c] 151) none (hX.trans hX3).next).trans hX5
  have wt:workType 4=151:=rfl
  simp -implicitDefEqProofs only[go_sem,Aw,Di,D2,Dj,D3,Dn,D4,Ej,Ey,Ek,Ez,EX,Fm,H4,H3,GY,Gq,e2,wt,HP,e3,Qz,Ls,e5]
  exact⟨_,_,rfl,hX4,hw5,rfl⟩
 | pair=>
  obtain⟨_,σ3,e3,hX3,hw3,rfl⟩:=Vg n p c σ2 hw2
  have e3':(env (n+1)).call 235 [.agg #[.int .i64 ((5:Nat):Int),.int .i64 0,.string ⟨#[]⟩,.slice p 2 c]] none σ2=.ret (.bool true) none σ3:=e3
  have wt:workType 5=188:=rfl
  simp -implicitDefEqProofs only[go_sem,Di,D2,Dj,D3,Dn,D4,Ej,Ey,Ek,Ez,EX,Fm,e2,wt,HO,e3',O6,O7]
  exact⟨_,_,rfl,hX.trans hX3,hw3,rfl⟩
 | vec l=>
  obtain⟨_,σ3,e3,hX3,hw3,rfl⟩:=Xn n p l c σ2 hw2
  have e3':(env (n+1)).call 235 [.agg #[.int .i64 ((6:Nat):Int),.int .i64 0,.string ⟨#[]⟩,.slice p l c]] none σ2=.ret (.bool true) none σ3:=e3
  have wt:workType 6=188:=rfl
  simp -implicitDefEqProofs only[go_sem,Di,D2,Dj,D3,Dn,D4,Ej,Ey,Ek,Ez,EX,Fm,e2,wt,HO,e3',O6,O7]
  exact⟨_,_,rfl,hX.trans hX3,hw3,rfl⟩
end Go.Proofs.YtokieofohmgjdaaGreatDoor
namespace Go.Proofs.YtokieofohmgjdaaGreatDoor
open Go Go.Eng
attribute [local congr] Ab Ah Af Ad Ae
attribute [-go_sem] List.range_succ
theorem Ad2(n:Nat)(t:ByteArray)(ht:t∈symTexts)(σ:FState):(env (n+20)).call 170 [.string t] none σ=.ret (.bool true) none σ:=by
 simp only[symTexts,List.mem_cons,List.not_mem_nil,or_false] at ht
 rcases ht with rfl|rfl|rfl|rfl|rfl|rfl|rfl|rfl<;>kernel_rfl
theorem HS(x y:Operand)(a b:Int)(σ:FState):i_lss Tryz.prog 21 x y (.int .i32 a) (.int .i32 b) σ=.val (.bool (decide (a<b))) σ:=by kernel_rfl
theorem Lu(x y:Operand)(a b:Int)(σ:FState):i_gtr Tryz.prog 21 x y (.int .i32 a) (.int .i32 b) σ=.val (.bool (decide (a>b))) σ:=by kernel_rfl
theorem I8{r:Nat}{σ:FState}{s:ByteArray}{pos w ver c:Nat}(hg:σ.heap.get r=some ⟨.siter s pos,false,none,ver⟩)(h:pos<s.size)(hd:Utf8.decode s pos=(c,w)):
  fnext (.pointer (some ⟨r,0,none⟩)) σ=.val (.tuple #[.bool true,goInt pos,.int .i32 (c:Int)]) (σ.put r (.siter s (pos+w)) none):=by
 unfold fnext
 simp only[hg,hd]
 rw[show Nat.blt pos s.size=true by simpa [Nat.blt_eq] using h]
 rfl
theorem AbK{r:Nat}{σ:FState}{s:ByteArray}{pos ver:Nat}(hg:σ.heap.get r=some ⟨.siter s pos,false,none,ver⟩)(h:¬ pos<s.size):
  fnext (.pointer (some ⟨r,0,none⟩)) σ=.val (.tuple #[.bool false]) σ:=by
 unfold fnext
 simp only[hg]
 rw[show Nat.blt pos s.size=false by rw[←Bool.not_eq_true,Nat.blt_eq];exact h]
 rfl
def PlainText(s:ByteArray):Prop:=∀pos,pos<s.size→∃c:Nat,Utf8.decode s pos=(c,1)∧32≤c∧c≤126
theorem Aam:keepOf nls 171=[6]:=by kernel_rfl
theorem QY(n r:Nat)(s:ByteArray)(hs:PlainText s)(σ0:FState)(hr:σ0.next≤r):∀(m pos fuel:Nat) (f g:Nat→Value) (σ:FState),pos+m=s.size→m<fuel→g 6=.pointer (some ⟨r,0,none⟩)→Wf σ→Ext σ0 σ→
  (∃ver,σ.heap.get r=some ⟨.siter s pos,false,none,ver⟩)→
  ∃f' g' σ',floop [6] (Hu (env n) none 171) fuel (Sl 5 16 f g []) none σ=.done (.exit 0) (Sl 5 16 f' g' []) none σ'∧Wf σ'∧Ext σ0 σ':=by
 intro m
 induction m with
 | zero=>
  intro pos fuel f g σ hp hf h6 hw hX ⟨ver,hg⟩
  obtain⟨fuel,rfl⟩:∃q,fuel=q+1:=⟨fuel-1,by omega⟩
  have hn:=AbK hg (by omega)
  rw[Ar]
  unfold Hu
  simp -implicitDefEqProofs only[go_sem,Gx,G8,h6,hn,List.mem_cons,List.not_mem_nil]
  exact⟨_,_,_,rfl,hw,hX⟩
 | succ m ih=>
  intro pos fuel f g σ hp hf h6 hw hX ⟨ver,hg⟩
  obtain⟨fuel,rfl⟩:∃q,fuel=q+1:=⟨fuel-1,by omega⟩
  obtain⟨c,hd,h1,h2⟩:=hs pos (by omega)
  have hn:=I8 hg (by omega) hd
  have d1:decide ((c:Int)<32)=false:=by simp;omega
  have d2:decide ((c:Int)>126)=false:=by simp;omega
  rw[Ar]
  unfold Hu
  simp -implicitDefEqProofs only[go_sem,Gx,G8,Iu,Ir,Iw,Iv,h6,hn,List.mem_cons,List.not_mem_nil,HS,Lu,d1,d2]
  refine ih (pos+1) fuel _ _ _ (by omega) (by omega) ?_ (hw.put _ _ _ (hw _ _ hg).1) (hX.put _ _ _ hr) ⟨_,by rw[Am,if_pos rfl]⟩
  simp -implicitDefEqProofs only[go_sem,reduceCtorEq,h6,List.mem_cons,List.not_mem_nil,true_or]
theorem M4(n:Nat)(s:ByteArray)(hs:PlainText s)(hsz:s.size<1000000)(σ:FState)(hw:Wf σ):Gives ((env (n+1)).call 171 [.string s] none σ) σ fun w _=>w=.bool true:=by
 rw[Ak _ 171 _ _ rfl,UO _ _ _ _ (by simp),Aj]
 unfold Ud
 have hfr:frangeS (.string s) σ=.val (.pointer (some ⟨σ.next,0,none⟩)) (σ.push (.siter s 0) none):=rfl
 simp -implicitDefEqProofs only[go_sem,Qf,Mk,Qg,Ml,hfr,Aam]
 generalize hf:upd (fun _=>_) 2 _=f1
 generalize hbf:bigFuel=fuel
 obtain⟨f',g',σ',e,hw',hX'⟩:=QY n σ.next s hs σ (Nat.le_refl _) s.size 0 fuel f1 (upd (upd (fun _=>undef) 5 (.string s)) 6 (.pointer (some ⟨σ.next,0,none⟩))) (σ.push (.siter s 0) none) (by omega) (by rw[←hbf];show s.size<1000000000000;omega) (by simp -implicitDefEqProofs only[go_sem,reduceCtorEq]) (hw.push _ _) ((Ext.refl _).push _ _) ⟨_,by rw[Ai,if_pos rfl]⟩
 rw[e]
 simp -implicitDefEqProofs only[go_sem,Ado,SD]
 exact⟨_,_,rfl,hX',hw',rfl⟩
theorem Afq(s:ByteArray)(h:((List.range s.size).all fun p=>(Utf8.decode s p).2==1&&decide (32≤(Utf8.decode s p).1)&&decide ((Utf8.decode s p).1≤126))=true):PlainText s:=by
 intro pos hp
 have:=List.all_eq_true.1 h pos (List.mem_range.2 hp)
 simp only[Bool.and_eq_true,beq_iff_eq,decide_eq_true_eq] at this
 exact⟨(Utf8.decode s pos).1,by rw[←this.1.1],this.1.2,this.2⟩
theorem Ad0(n:Nat)(t:ByteArray)(ht:t∈strTexts)(σ:FState)(hw:Wf σ):Gives ((env (n+1)).call 171 [.string t] none σ) σ fun w _=>w=.bool true:=by
 simp only[strTexts,List.mem_cons,List.not_mem_nil,or_false] at ht
 rcases ht with rfl|rfl|rfl|rfl|rfl<;>exact M4 n _ (Afq _ (by kernel_rfl)) (by decide) σ hw
theorem AbV(n:Nat){k:Int}{z:Int}{t:ByteArray}{l:List D}(h:Leaf (.mk k z t l)):∃k':Nat,k=(k':Int)∧Good (n+20) k' z t 0∧l=[]:=by
 cases h with
 | nil=>exact⟨0,rfl,.nil,rfl⟩
 | bool b=>exact⟨1,rfl,.bool _ (by cases b<;>simp),rfl⟩
 | num z h=>exact⟨2,rfl,.num _ (by omega),rfl⟩
 | sym t ht=>exact⟨3,rfl,.sym _ fun σ' hw=>⟨_,σ',Ad2 n t ht σ',Ext.refl _,hw,rfl⟩,rfl⟩
 | str t ht=>exact⟨4,rfl,.str _ (by
   simp only[strTexts,List.mem_cons,List.not_mem_nil,or_false] at ht
   rcases ht with rfl|rfl|rfl|rfl|rfl<;>decide) fun σ' hw=>Ad0 (n+19) t ht σ' hw,rfl⟩
end Go.Proofs.YtokieofohmgjdaaGreatDoor
namespace Go.Proofs.YtokieofohmgjdaaGreatDoor
open Go Go.Eng
attribute [local congr] Ab Ah Af Ad Ae
attribute [-go_sem] List.range_succ
theorem XE(n:Nat)(p:Option Addr)(l:List Int)(cp:Nat)(hl:l.length<9223372036854775808)(σ:FState)(hw:Wf σ)(hI:Ints σ p l)(hp:∀a,p=some a→a.block<σ.next):
  ∃σ',(env (n+1)).call 12 [.slice p l.length cp] none σ=.ret (.pointer (some ⟨σ.next,0,none⟩)) none σ'∧Ext σ σ'∧Wf σ'∧Coil σ' σ.next 0:=by
 rw[Ak _ 12 _ _ rfl,Am7 _ _ _ _ (by simp),Aj]
 unfold Alq
 simp -implicitDefEqProofs only[go_sem,Aw,AgR,XX,AgS,XY]
 refine⟨_,rfl,(Ext.refl _).push _ _,hw.push _ _,p,l,cp,_,_,by rw[Ai,if_pos rfl];rfl,?_,hl,hp⟩
 intro i z hi
 obtain⟨b,off,cs,hb,h1,h2⟩:=hI i z hi
 exact⟨b,off,cs,hb,by rw[Ac,if_neg (Nat.ne_of_lt (hp _ hb))];exact h1,h2⟩
theorem UT(n x:Nat)(k:Int)(hk:k≤2000)(p:Option Addr)(l c:Nat)(σ:FState)(m:Value)(hc:σ.cells x=some [.int .i64 k,m]):
  (env (n+1)).call 120 [.pointer (some ⟨x,0,none⟩),.slice p l c] none σ=.ret (.bool true) none σ:=by
 have d1:decide (k≤2000)=true:=by simpa using hk
 rw[Ak _ 120 _ _ rfl,AeH _ _ _ _ (by simp),Aj]
 unfold ZB
 cases e:(Int.ofNat l==0) with
 | true=>simp -implicitDefEqProofs only[go_sem,PI,LI,PJ,LJ,PK,LK,e]
 | false=>simp -implicitDefEqProofs only[go_sem,PI,LI,PJ,LJ,PK,LK,e,hc,d1]
theorem Kr(n:Nat)(g:Value)(w:Nat)(first:Array Value)(hg:g=.func (.func w) first #[])(k z:Int)(t:ByteArray)(s:Value)(hs:oneCell s=true)(σ:FState)(hw:Wf σ)(h:∀σ',Ext σ σ'→Wf σ'→Gives ((env n).call w (first.toList++[s]) none σ') σ' fun v _=>v=.bool true):
  Gives ((env (n+1)).call 150 [.agg #[g],.agg #[.int .i64 k,.int .i64 z,.string t,s]] none σ) σ fun v _=>v=s:=by
 subst hg
 have hX1:=((Ext.refl σ).push (.cells [.func (.func w) first #[]] 141) none).push (.cells [.int .i64 k,.int .i64 z,.string t,s] 24) none
 have hw1:=(hw.push (.cells [.func (.func w) first #[]] 141) none).push (.cells [.int .i64 k,.int .i64 z,.string t,s] 24) none
 obtain⟨_,σ2,e2,hX2,hw2,rfl⟩:=h _ hX1 hw1
 have c2:σ2.cells (σ.next+1)=some [.int .i64 k,.int .i64 z,.string t,s]:=(hX2.cells (Nat.lt_succ_self _)).trans (by rw[Ac,if_pos (by rw[Aa])];rfl)
 rw[Ak _ 150 _ _ rfl,AeQ _ _ _ _ (by simp),Aj]
 unfold ZK
 simp -implicitDefEqProofs only[go_sem,Ac1,Sc,Ac2,Sd,Ac3,Se,e2,c2,D1,Es]
 exact⟨_,_,rfl,hX1.trans hX2,hw2,rfl⟩
end Go.Proofs.YtokieofohmgjdaaGreatDoor
namespace Go.Eng
open Go
def D.parts:D→List D
 | .mk _ _ _ ds=>ds
mutual
def D.pieces(path:List Nat):D→List (List Nat×D)
 | .mk k n t ds=>(path,.mk k n t ds)::D.piecesL path 0 ds
def D.piecesL(path:List Nat)(i:Nat):List D→List (List Nat×D)
 | []=>[]
 | d::ds=>D.pieces (path++[i]) d++D.piecesL path (i+1) ds
end
theorem D.pieces_eq(path:List Nat)(d:D):d.pieces path=(path,d)::D.piecesL path 0 d.parts:=by
 cases d
 simp[D.pieces,D.parts]
def wayOf(st:List (List D×Nat)):List Nat:=(st.map (·.2)).reverse
theorem E1(ds:List D)(i:Nat)(r:List (List D×Nat)):wayOf ((ds,i)::r)=wayOf r++[i]:=by simp[wayOf]
theorem Dw(st:List (List D×Nat)):(wayOf st).length=st.length:=by simp[wayOf]
def below:List (List D×Nat)→List (List Nat×D)
 | []=>[]
 | (ds,i)::r=>D.piecesL (wayOf r) (i+1) (ds.drop (i+1))++below r
def todo:List (List D×Nat)→List (List Nat×D)
 | []=>[]
 | (ds,i)::r=>D.piecesL (wayOf r) i (ds.drop i)++below r
theorem FH{ds:List D}{i:Nat}{d:D}(r:List (List D×Nat))(h:ds[i]? = some d):todo ((ds,i)::r)=(wayOf r++[i],d)::todo ((d.parts,0)::(ds,i)::r):=by
 have hd:ds.drop i=d::ds.drop (i+1):=by
  obtain⟨hi,rfl⟩:=List.getElem?_eq_some_iff.1 h
  rw[List.drop_eq_getElem_cons hi]
 show D.piecesL (wayOf r) i (ds.drop i)++below r=_
 rw[hd,D.piecesL,D.pieces_eq]
 show _=(wayOf r++[i],d)::(D.piecesL (wayOf ((ds,i)::r)) 0 (d.parts.drop 0)++below ((ds,i)::r))
 rw[E1,below,List.drop_zero]
 simp
theorem Ot{ds:List D}(r:List (List D×Nat)):todo ((ds,ds.length)::r)=below r:=by
 show D.piecesL (wayOf r) ds.length (ds.drop ds.length)++below r=_
 rw[List.drop_length,D.piecesL,List.nil_append]
def bump:List (List D×Nat)→List (List D×Nat)
 | []=>[]
 | (ds,i)::r=>(ds,i+1)::r
theorem IZ(r:List (List D×Nat)):below r=todo (bump r):=by cases r<;>rfl
structure Chg (F:Nat→Prop) (σ σ':FState):Prop where
 next:σ.next≤σ'.next
 clock:σ.clock≤σ'.clock
 get:∀b,b<σ.next→¬ F b→σ'.heap.get b=σ.heap.get b
theorem Chg.refl(F:Nat→Prop)(σ:FState):Chg F σ σ:=⟨Nat.le_refl _,Nat.le_refl _,fun _ _ _=>rfl⟩
theorem Chg.trans{F G:Nat→Prop}{σ σ₁ σ₂:FState}(h:Chg F σ σ₁)(k:Chg G σ₁ σ₂)(hG:∀b,b<σ.next→G b→F b):Chg F σ σ₂:=
 ⟨Nat.le_trans h.next k.next,Nat.le_trans h.clock k.clock,fun b hb hF=>(k.get b (Nat.lt_of_lt_of_le hb h.next) fun hg=>hF (hG b hb hg)).trans (h.get b hb hF)⟩
theorem Chg.weaken{F G:Nat→Prop}{σ σ':FState}(h:Chg F σ σ')(hG:∀b,b<σ.next→F b→G b):Chg G σ σ':=⟨h.next,h.clock,fun b hb hg=>h.get b hb fun hf=>hg (hG b hb hf)⟩
theorem Ext.chg{σ σ':FState}(h:Ext σ σ')(F:Nat→Prop):Chg F σ σ':=⟨h.next,h.clock,fun b hb _=>h.get b hb⟩
theorem Chg.push{F:Nat→Prop}{σ σ₁:FState}(h:Chg F σ σ₁)(o:FObj)(fz:Option Nat):Chg F σ (σ₁.push o fz):=
 ⟨Nat.le_succ_of_le h.next,Nat.le_succ_of_le h.clock,fun b hb hF=>by
  rw[Ai,if_neg (by have:=h.next;omega)]
  exact h.get b hb hF⟩
theorem Chg.put{F:Nat→Prop}{σ σ₁:FState}(h:Chg F σ σ₁)(c:Nat)(o:FObj)(fz:Option Nat)(hc:σ.next≤c∨F c):Chg F σ (σ₁.put c o fz):=
 ⟨h.next,Nat.le_succ_of_le h.clock,fun b hb hF=>by
  rw[Am,if_neg (by
   intro he
   subst he
   rcases hc with hc|hc
   ·omega
   ·exact hF hc)]
  exact h.get b hb hF⟩
theorem Chg.cells{F:Nat→Prop}{σ σ':FState}(h:Chg F σ σ'){b:Nat}(hb:b<σ.next)(hF:¬ F b):σ'.cells b=σ.cells b:=by
 rw[AG,AG,h.get b hb hF]
theorem Chg.ext{F:Nat→Prop}{σ σ':FState}(h:Chg F σ σ')(hF:∀b,b<σ.next→¬ F b):Ext σ σ':=⟨h.next,h.clock,fun b hb=>h.get b hb (hF b hb)⟩
def Stk(T:TypeId)(σ:FState)(b:Nat)(s:Value)(vs:List Value):Prop:=
 ∃c fz ver,s=.slice (some ⟨b,0,none⟩) vs.length c.length∧σ.heap.get b=some ⟨.cells c T,false,fz,ver⟩∧(fz=none∨fz=some 1)∧∃more,c=vs++more
section
variable {T:TypeId} {σ σ':FState} {b:Nat} {s:Value} {vs:List Value}
theorem Stk.keep(h:Stk T σ b s vs)(hb:σ'.heap.get b=σ.heap.get b):Stk T σ' b s vs:=by
 obtain⟨c,fz,ver,h1,h2,h3⟩:=h
 exact⟨c,fz,ver,h1,hb.trans h2,h3⟩
theorem Stk.lt(h:Stk T σ b s vs)(hw:Wf σ):b<σ.next:=by
 obtain⟨c,fz,ver,h1,h2,h3⟩:=h
 exact(hw _ _ h2).1
theorem Stk.cells(h:Stk T σ b s vs):∃more,s=.slice (some ⟨b,0,none⟩) vs.length (vs++more).length∧σ.cells b=some (vs++more):=by
 obtain⟨c,fz,ver,h1,h2,h3,more,rfl⟩:=h
 exact⟨more,h1,AB h2⟩
theorem Stk.pop{v:Value}(h:Stk T σ b s (vs++[v])):∃n,s=.slice (some ⟨b,0,none⟩) (vs.length+1) n∧vs.length≤n∧Stk T σ b (.slice (some ⟨b,0,none⟩) vs.length n) vs:=by
 obtain⟨c,fz,ver,h1,h2,h3,more,rfl⟩:=h
 exact⟨_,by rw[h1];simp,by simp,_,fz,ver,rfl,h2,h3,v::more,by simp⟩
theorem Stk.set{v v':Value}(h:Stk T σ b s (vs++[v])):∃more fz,σ.heap.get b=some ⟨.cells (vs++v::more) T,false,fz,((σ.heap.get b).map (·.ver)).getD 0⟩∧Stk T (σ.put b (.cells (vs++v'::more) T) fz) b s (vs++[v']):=by
 obtain⟨c,fz,ver,h1,h2,h3,more,rfl⟩:=h
 refine⟨more,fz,by rw[h2];simp,vs++v'::more,fz,σ.clock,?_,by rw[Am,if_pos rfl],h3,more,by simp⟩
 rw[h1]
 simp
theorem Stk.last{v:Value}(h:Stk T σ b s (vs++[v])):∃c,σ.cells b=some c∧c[vs.length]? = some v:=by
 obtain⟨c,fz,ver,h1,h2,h3,more,rfl⟩:=h
 exact⟨_,AB h2,by simp⟩
theorem Stk.store{v v':Value}(h:Stk T σ b s (vs++[v]))(hw:Wf σ)(ho:oneCell v'=true):
  ∃τ,fstore 1 (.pointer (some ⟨b,vs.length,none⟩)) v' σ=.skip τ∧Stk T τ b s (vs++[v'])∧Chg (· = b) σ τ∧Wf τ:=by
 have hb:=h.lt hw
 obtain⟨c,fz,ver,h1,h2,h3,more,rfl⟩:=h
 have hs:(vs++[v]++more).set vs.length v'=vs++v'::more:=by simp
 have hl:vs.length<(vs++[v]++more).length:=by simp
 refine⟨σ.put b (.cells (vs++v'::more) T) fz,?_,⟨vs++v'::more,fz,σ.clock,?_,by rw[Am,if_pos rfl],h3,more,by simp⟩,(Chg.refl (· = b) _).put _ _ _ (.inr rfl),hw.put _ _ _ hb⟩
 ·rw[Dl _ _ _ _ ho,h2]
  simp only[]
  rw[if_pos hl,hs]
 ·rw[h1]
  simp
theorem Stk.append(h:Stk T σ b s vs)(hw:Wf σ)(v:Value)(bytes bx cx:Nat)(hx:σ.cells bx=some [v])(ho:oneCell v=true)(hby:bytes<1000)(hlen:vs.length<100000):
  ∃b' s' τ,fappend T 1 bytes s (.slice (some ⟨bx,0,none⟩) 1 cx) σ=.val s' τ∧Stk T τ b' s' (vs++[v])∧(b'=b∨b'=σ.next)∧Chg (· = b) σ τ∧Wf τ:=by
 have hb:=h.lt hw
 obtain⟨c,fz,ver,rfl,h2,h3,more,rfl⟩:=h
 cases more with
 | nil=>
  rw[List.append_nil] at h2
  obtain⟨τ,e,hτ⟩:=Qx T bytes b bx cx vs.length ver fz vs v σ h2 h3 hx ho rfl hby hlen
  rw[List.append_nil]
  refine⟨σ.next,_,τ,e,?_,.inr rfl,?_,?_⟩
  ·rcases hτ with rfl|rfl
   ·exact⟨vs++[v],some 1,_,by simp,by rw[Ai,if_pos rfl],.inr rfl,[],by simp⟩
   ·exact⟨vs++[v],some 1,_,by simp,by rw[Ai,if_pos (by rw[Ap])],.inr rfl,[],by simp⟩
  ·rcases hτ with rfl|rfl
   ·exact(Chg.refl (· = b) _).push _ _
   ·exact((Chg.refl (· = b) _).put _ _ _ (.inr rfl)).push _ _
  ·rcases hτ with rfl|rfl
   ·exact hw.push _ _
   ·exact(hw.put _ _ _ hb).push _ _
 | cons y more=>
  have hlt:vs.length<(vs++y::more).length:=by simp
  refine⟨b,_,_,Qy T bytes b bx cx vs.length (vs++y::more).length ver fz T _ v σ h2 hx ho hlt (Nat.le_refl _),?_,.inl rfl,(Chg.refl (· = b) _).put _ _ _ (.inr rfl),hw.put _ _ _ hb⟩
  have hs:(vs++y::more).set vs.length v=vs++v::more:=by
   rw[List.set_append_right _ _ (Nat.le_refl _),Nat.sub_self]
   rfl
  rw[hs]
  exact⟨vs++v::more,fz,_,by simp,by rw[Am,if_pos rfl],h3,more,by simp⟩
end
end Go.Eng
namespace Go.Proofs.YtokieofohmgjdaaGreatDoor
open Go Go.Eng
section
variable (E:Env) (fn:FuncId) (params:List Tmp) (assign body:Code) (nl nt:Nat) (f g:Nat→Value) (ds:List Deferred) (u:Option FrameMode) (σ:FState)
def LoopAt(l r:Nat)(st:LoopState)(σ:FState):Prop:=∃ver,σ.heap.get l=some ⟨.loop st none fn ((List.range nl).map f) g nl nt params assign body r,false,none,ver⟩
theorem Pn(t:Nat)(fx:FuncId)(first cap:Array Value)(h:(Sl nl nt f g ds).get t=.func (.func fx) first cap):
  frange E none fn (.tmp t) params assign body (Sl nl nt f g ds) u σ=leaveLoop (σ.next+1) [{ target:=.collected σ.next,args:=#[] }] (Sl nl nt f g ds) u
   (E.call fx (first.toList++[.func (.yield (σ.next+1)) #[] #[]]++cap.toList) none ((σ.push (.defd true) none).push (.loop .ready none fn ((List.range nl).map f) g nl nt params assign body σ.next) none)):=by
 show enterLoop E fn (.tmp t) params assign body σ.next _ _ u _=_
 unfold enterLoop
 rw[Aew,h]
 rfl
theorem Q4(l r:Nat)(mark:List Deferred)(v:Value)(u':Option FrameMode)(h:LoopAt fn params assign body nl nt f g l r .ready σ):
  leaveLoop l mark (Sl nl nt f g ds) u (.ret v u' σ)=.done .normal (Sl nl nt f g (mark++ds)) u (σ.put l (.loop .exhausted none fn ((List.range nl).map f) g nl nt params assign body r) none):=by
 obtain⟨ver,h⟩:=h
 unfold leaveLoop
 simp only[h]
 rfl
theorem Kv:LoopAt fn params assign body nl nt f g (σ.next+1) σ.next .ready ((σ.push (.defd true) none).push (.loop .ready none fn ((List.range nl).map f) g nl nt params assign body σ.next) none):=
 ⟨_,by rw[Ai,if_pos (by rw[Aa])]⟩
end
section
variable (fn:FuncId) (params:List Tmp) (assign body:Code) (nl nt:Nat) (f g:Nat→Value) (σ:FState)
theorem Kc(n l r:Nat)(args:List Value)(h:LoopAt fn params assign body nl nt f g l r .ready σ)(hn:args.length=params.length):
  (env (n+1)).round l args σ=(match code Tryz.prog nls assign (env n) (some l) fn (putAll (Sl nl nt f g []) (params.zip args)) none σ with
     | .done .normal a _ σ=>beginRound l (fun σ=>endRound (Tryz.prog.funcs[fn]?).isSome l (code Tryz.prog nls body (env n) (some l) fn a none σ)) σ
     | _=>.no):=by
 obtain⟨ver,h⟩:=h
 rw[Abx]
 unfold fround
 simp only[h]
 rw[show Nat.beq (len args) (len params)=true by rw[Nat.beq_eq,EA,EA];exact hn]
 rfl
theorem E2(l r:Nat)(k:FState→CRes)(h:LoopAt fn params assign body nl nt f g l r .ready σ):
  beginRound l k σ=k (σ.put l (.loop .busy none fn ((List.range nl).map f) g nl nt params assign body r) none):=by
 obtain⟨ver,h⟩:=h
 unfold beginRound
 simp only[h]
 rfl
theorem FO(known:Bool)(l r:Nat)(a:FAct)(u:Option FrameMode)(h:LoopAt fn params assign body nl nt f g l r .busy σ):
  endRound known l (.done .normal a u σ)=.ret (.bool true) none (σ.put l (.loop .ready none fn ((List.range nl).map f) g nl nt params assign body r) none):=by
 obtain⟨ver,h⟩:=h
 show endJump l .ready none true σ=_
 unfold endJump setJump
 simp only[h]
 rfl
theorem LoopAt.put(l r:Nat)(st:LoopState)(σ:FState):LoopAt fn params assign body nl nt f g l r st (σ.put l (.loop st none fn ((List.range nl).map f) g nl nt params assign body r) none):=⟨_,by rw[Am,if_pos rfl]⟩
theorem GU(a:FAct):putAll a []=a:=rfl
theorem FT(a:FAct)(t:Tmp)(v:Value)(l:List (Tmp×Value)):putAll a ((t,v)::l)=putAll (a.put (some t) v) l:=rfl
end
section
variable (P:Program) (E:Env) (rs:List ResultVar) (a:FAct) (u:Option FrameMode) (σ:FState)
theorem Gf(r:Nat)(args:Array Value)(ds:List Deferred)(ver:Nat)(h:σ.heap.get r=some ⟨.defd true,false,none,ver⟩):
  fleave P E rs a u ({ target:=.collected r,args:=args }::ds) .returning σ=fleave P E rs a u ds .returning (σ.put r (.defd false) none):=by
 show (cond (isRun .returning) CRes.no (match σ.heap.get r with
    | some e=>(match e.obj with
     | .defd true=>cond e.ro CRes.no (fleave P E rs a u ds .returning (σ.put r (.defd false) none))
     | _=>CRes.no)
    | none=>CRes.no))=_
 rw[h]
 rfl
theorem E9(dst:Option Tmp)(k:RunF)(ro:Option Nat)(l:Nat)(args:List Value)(s:FState):afterOp E ro dst a u k (.yield l args s)=afterCall a dst u k (E.round l args s):=rfl
theorem EO(l:Nat)(args:List Value):fcallV (.func (.yield l) #[] #[]) args σ=.yield l args σ:=rfl
end
theorem LoopAt.keep{fn:FuncId}{params:List Tmp}{assign body:Code}{nl nt:Nat}{f g:Nat→Value}{l r:Nat}{st:LoopState}{σ σ':FState}(h:LoopAt fn params assign body nl nt f g l r st σ)(hb:σ'.heap.get l=σ.heap.get l):LoopAt fn params assign body nl nt f g l r st σ':=by
 obtain⟨ver,h⟩:=h
 exact⟨ver,hb.trans h⟩
theorem Ad5{σ:FState}(hw:Wf σ){lam:Nat}(hl:σ.clock≤lam)(b:Nat):(view σ lam).heap.get b=σ.heap.get b:=by
 rw[Kf]
 cases hg:σ.heap.get b with
 | none=>rfl
 | some e=>simp only;rw[if_pos (by have:=(hw b e hg).2;omega)]
end Go.Proofs.YtokieofohmgjdaaGreatDoor
namespace Go.Proofs.YtokieofohmgjdaaGreatDoor
open Go Go.Eng
attribute [local congr] Ab Ah Af Ad Ae
attribute [-go_sem] List.range_succ
abbrev TD:TypeId:=24
abbrev TL:TypeId:=22
abbrev TI:TypeId:=3
def PathAt(σ:FState)(v:Value)(path:List Nat):Prop:=
 ∃p c,v=.slice p path.length c∧((path=[]∧p=none∧c=0)∨∃b more,p=some ⟨b,0,none⟩∧σ.cells b=some ((path.map fun i=>Value.int .i64 (.ofNat i))++more))
structure Body (E:Env) (l:Nat) (R:Nat→Prop) (g:Value) (I:List (List Nat×D)→(Nat→Prop)→FState→Prop) (all:List (List Nat×D)):Prop where
 stays:∀done B σ σ',I done B σ→Wf σ→Chg (fun b=>¬ B b∧¬ R b) σ σ'→I done B σ'
 own:∀done B σ,I done B σ→∀b,B b→b<σ.next∧¬ R b
 inside:∀done B σ k z t p ln c,I done B σ→Wf σ→Gives (E.call 150 [.agg #[g],.agg #[.int .i64 k,.int .i64 z,.string t,.slice p ln c]] none σ) σ fun v _=>v=.slice p ln c
 go:∀done path d rest B σ pv v,all=done++(path,d)::rest→Wf σ→I done B σ→PathAt σ pv path→LaidR R σ v d→
  ∃B' σ',E.round l [pv,v] σ=.ret (.bool true) none σ'∧Wf σ'∧Chg B σ σ'∧(∀b,B' b→B b∨σ.next≤b)∧I (done++[(path,d)]) B' σ'
structure BodyTo (kk:Nat) (E:Env) (l:Nat) (R:Nat→Prop) (g:Value) (I:List (List Nat×D)→(Nat→Prop)→FState→Prop) (all:List (List Nat×D)):Prop where
 stays:∀done B σ σ',I done B σ→Wf σ→Chg (fun b=>¬ B b∧¬ R b) σ σ'→I done B σ'
 own:∀done B σ,I done B σ→∀b,B b→b<σ.next∧¬ R b
 inside:∀done B σ k z t p ln c,I done B σ→Wf σ→Gives (E.call 150 [.agg #[g],.agg #[.int .i64 k,.int .i64 z,.string t,.slice p ln c]] none σ) σ fun v _=>v=.slice p ln c
 go:∀done path d rest B σ pv v,done.length<kk→all=done++(path,d)::rest→Wf σ→I done B σ→PathAt σ pv path→LaidR R σ v d→
  ∃B' σ',E.round l [pv,v] σ=.ret (.bool true) none σ'∧Wf σ'∧Chg B σ σ'∧(∀b,B' b→B b∨σ.next≤b)∧I (done++[(path,d)]) B' σ'
theorem Body.to{E:Env}{l:Nat}{R:Nat→Prop}{g:Value}{I:List (List Nat×D)→(Nat→Prop)→FState→Prop}{all:List (List Nat×D)}(h:Body E l R g I all):BodyTo all.length E l R g I all:=⟨h.stays,h.own,h.inside,fun done path d rest B σ pv v _=>h.go done path d rest B σ pv v⟩
def Levels(R:Nat→Prop)(σ:FState):Nat→List Value→List (List D×Nat)→Prop
 | _,[],[]=>True
 | m,u::us,(ds,i)::r=>(∃p c,u=.slice p ds.length c∧LaidRE R σ p 0 ds)∧i+m≤ds.length∧ds.length<1000000000∧Levels R σ 1 us r
 | _,_,_=>False
theorem Levels.keep{R:Nat→Prop}{σ σ':FState}(h:∀b cs,R b→σ.cells b=some cs→σ'.cells b=some cs):∀ {m:Nat} {us:List Value} {st:List (List D×Nat)},Levels R σ m us st→Levels R σ' m us st
 | _,[],[],_=>trivial
 | _,_::_,(_,_)::_,⟨⟨p,c,h1,h2⟩,h3,h4,h5⟩=>⟨⟨p,c,h1,h2.keep fun b cs hb hc=>⟨h b cs hb hc,hb⟩⟩,h3,h4,h5.keep h⟩
theorem Levels.length{R:Nat→Prop}{σ:FState}:∀ {m:Nat} {us:List Value} {st:List (List D×Nat)},Levels R σ m us st→us.length=st.length
 | _,[],[],_=>rfl
 | _,_::_,(_,_)::_,⟨_,_,_,h⟩=>congrArg (· + 1) h.length
theorem Levels.bump{R:Nat→Prop}{σ:FState}:∀ {us:List Value} {st:List (List D×Nat)},Levels R σ 1 us st→Levels R σ 0 us (bump st)
 | [],[],_=>trivial
 | _::_,(_,_)::_,⟨h1,h3,h4,h5⟩=>⟨h1,h3,h4,h5⟩
structure WHead (l:Nat) (R:Nat→Prop) (g:Value) (I:List (List Nat×D)→(Nat→Prop)→FState→Prop) (all:List (List Nat×D)) (bw bo bp base:Nat) (B:Nat→Prop) (us:List Value) (st:List (List D×Nat)) (done:List (List Nat×D)) (f:Nat→Value) (σ:FState):Prop where
 f0:f 0=.func (.yield l) #[] #[]
 f2:f 2=.pointer (some ⟨bw,0,none⟩)
 cw:σ.cells bw=some [g]
 hbw:bw<base∧¬ B bw
 opn:Stk TL σ bo (f 4) us.reverse
 hbo:base≤bo∧¬ B bo
 lev:Levels R σ 0 us st
 low:∀b,R b→b<base
 pth:Stk TI σ bp (f 5) ((wayOf st).map fun i=>.int .i64 (.ofNat i))
 hbp:base≤bp∧¬ B bp
 ne:bo≠bp
 inv:I done B σ
 all:all=done++todo st
 wf:Wf σ
 base:base≤σ.next
theorem LaidR.shape{R:Nat→Prop}{σ:FState}{v:Value}{d:D}(h:LaidR R σ v d):∃k z t p c,v=.agg #[.int .i64 k,.int .i64 z,.string t,.slice p d.parts.length c]∧LaidRE R σ p 0 d.parts:=by
 obtain⟨k,z,t,ds⟩:=d
 obtain⟨p,c,h1,h2⟩:=h
 exact⟨k,z,t,p,c,h1,h2⟩
theorem LaidRE.get{R:Nat→Prop}{σ:FState}{p:Option Addr}:∀ {i:Nat} {ds:List D} {k:Nat} {d:D},LaidRE R σ p i ds→ds[k]? = some d→
  ∃b off cs,p=some ⟨b,off,none⟩∧R b∧σ.cells b=some cs∧4≤cs.length-(off+(i+k)*4)∧LaidR R σ (.agg ((cs.drop (off+(i+k)*4)).take 4).toArray) d
 | i,d::ds,0,_,h,hk=>by
  cases hk
  exact h.1
 | i,d::ds,k+1,_,h,hk=>by
  have:=LaidRE.get (i:=i+1) h.2 (k:=k) (by simpa using hk)
  rwa [show i+1+k=i+(k+1) by omega] at this
 | _,[],_,_,_,hk=>by simp at hk
theorem Al1:under Tryz.prog 54=some (.slice TL):=by kernel_rfl
theorem AoO:sizeOfT Tryz.prog TL=some 1:=by kernel_rfl
theorem Ou:under Tryz.prog 25=some (.slice TI):=by kernel_rfl
theorem Ui:sizeOfT Tryz.prog TI=some 1:=by kernel_rfl
theorem Qr{T t:TypeId}{σ:FState}{b:Nat}{s:Value}{vs:List Value}{v:Value}(h:Stk T σ b s (vs++[v]))(hw:Wf σ)(hu:under Tryz.prog t=some (.slice T))(hs:sizeOfT Tryz.prog T=some 1):
  ∃n,s=.slice (some ⟨b,0,none⟩) (vs.length+1) n∧Stk T σ b (.slice (some ⟨b,0,none⟩) vs.length n) vs∧
   fslice Tryz.prog t s none (some (.int .i64 (.ofNat vs.length))) none (view σ σ.clock)=.val (.slice (some ⟨b,0,none⟩) vs.length n) (view σ σ.clock):=by
 obtain⟨n,h1,h2,h3⟩:=h.pop
 obtain⟨c,fz,ver,k1,k2,k3,more,k4⟩:=h3
 refine⟨n,h1,⟨c,fz,ver,k1,k2,k3,more,k4⟩,?_⟩
 rw[h1]
 exact AbN Tryz.prog t T 1 b 0 (vs.length+1) n vs.length _ hu hs h2 c T false fz ver ((Ad5 hw (Nat.le_refl _) b).trans k2) k3
theorem WHead.top{l:Nat}{R:Nat→Prop}{g:Value}{I:List (List Nat×D)→(Nat→Prop)→FState→Prop}{all:List (List Nat×D)}{bw bo bp base:Nat}{B:Nat→Prop}{u:Value}{us:List Value}{ds:List D}{i:Nat}{r:List (List D×Nat)}{done:List (List Nat×D)}{f:Nat→Value}{σ:FState}(h:WHead l R g I all bw bo bp base B (u::us) ((ds,i)::r) done f σ):
  ∃p c mo mp,u=.slice p ds.length c∧LaidRE R σ p 0 ds∧us.length=r.length∧
   f 4=.slice (some ⟨bo,0,none⟩) (r.length+1) (us.reverse++u::mo).length∧σ.cells bo=some (us.reverse++u::mo)∧(us.reverse++u::mo)[r.length]? = some u∧
   f 5=.slice (some ⟨bp,0,none⟩) (r.length+1) (((wayOf r).map fun i=>Value.int .i64 (.ofNat i))++.int .i64 (.ofNat i)::mp).length∧σ.cells bp=some (((wayOf r).map fun i=>Value.int .i64 (.ofNat i))++.int .i64 (.ofNat i)::mp)∧
   (((wayOf r).map fun i=>Value.int .i64 (.ofNat i))++.int .i64 (.ofNat i)::mp)[r.length]? = some (.int .i64 (.ofNat i)):=by
 obtain⟨⟨p,c,h1,h2⟩,h3,h4,h5⟩:=h.lev
 have hl:=h5.length
 obtain⟨mo,e1,e2⟩:=h.opn.cells
 obtain⟨mp,e3,e4⟩:=h.pth.cells
 rw[List.reverse_cons,List.append_assoc,List.singleton_append] at e1 e2
 rw[E1,List.map_append,List.append_assoc,List.map_singleton,List.singleton_append] at e3 e4
 refine⟨p,c,mo,mp,h1,h2,hl,?_,e2,?_,?_,e4,?_⟩
 ·rw[e1]
  simp[hl]
 ·rw[List.getElem?_append_right (by simp[hl])]
  simp[hl]
 ·rw[e3]
  simp[Dw]
 ·rw[List.getElem?_append_right (by simp[Dw])]
  simp[Dw]
end Go.Proofs.YtokieofohmgjdaaGreatDoor
namespace Go.Proofs.YtokieofohmgjdaaGreatDoor
open Go Go.Eng
attribute [local congr] Ab Ah Af Ad Ae
attribute [-go_sem] List.range_succ
section
variable {kk n l bw bo bp base:Nat} {R:Nat→Prop} {g:Value} {I:List (List Nat×D)→(Nat→Prop)→FState→Prop} {all done:List (List Nat×D)} {B:Nat→Prop} {u:Value} {us:List Value} {ds:List D} {i:Nat} {r:List (List D×Nat)} {f:Nat→Value} {σ:FState}
theorem AsT(k:Nat)(hk:k<1000000000000):wrapI (Int.ofNat (k+1)-1)=Int.ofNat k:=by
 rw[Dk (by rw[Int.ofNat_eq_natCast];omega),Int.ofNat_eq_natCast,Int.ofNat_eq_natCast];omega
theorem Ate(k:Nat)(hk:k<1000000000000):wrapI (Int.ofNat (k+1+1)-2)=Int.ofNat k:=by
 rw[Dk (by rw[Int.ofNat_eq_natCast];omega),Int.ofNat_eq_natCast,Int.ofNat_eq_natCast];omega
theorem GH(k:Nat)(hk:k<1000000000000):wrapI (Int.ofNat k+1)=Int.ofNat (k+1):=by
 rw[Dk (by rw[Int.ofNat_eq_natCast];omega),Int.ofNat_eq_natCast,Int.ofNat_eq_natCast];omega
theorem WG(hB:BodyTo kk (env n) l R g I all)(h:WHead l R g I all bw bo bp base B (u::us) ((ds,ds.length)::r) done f σ)(hr:r.length<100000)(gg:Nat→Value):
  ∃f' g' σ',Gc (env n) none 149 (Sl 8 80 f gg []) none σ=.done .normal (Sl 8 80 f' g' []) none σ'∧Chg (fun b=>base≤b∧¬ B b) σ σ'∧
   WHead l R g I all bw bo bp base B us (bump r) done f' σ':=by
 obtain⟨p,c,mo,mp,rfl,hE,hl,h4,co,ho,h5,cp,hp⟩:=h.top
 have hv:=D0 h.wf (Nat.le_refl σ.clock)
 have d0:decide (Int.ofNat (r.length+1)>0)=true:=by simp
 have w1:=AsT r.length (by omega)
 have lt1:r.length<r.length+1:=Nat.lt_succ_self _
 have hopn:=h.opn
 have hpth:=h.pth
 rw[List.reverse_cons] at hopn
 rw[E1,List.map_append,List.map_singleton] at hpth
 obtain⟨no,so1,so2,so3⟩:=Qr hopn h.wf Al1 AoO
 obtain⟨np,sp1,sp2,sp3⟩:=Qr hpth h.wf Ou Ui
 rw[List.length_reverse,hl] at so1 so2 so3
 rw[List.length_map,Dw] at sp1 sp2 sp3
 rw[h4] at so1 so3
 rw[h5] at sp1 sp3
 unfold Gc
 simp -implicitDefEqProofs only[go_sem,Ie,Ic,KA,JV,KC,JW,h4,h5,d0,w1,lt1,hv,co,cp,ho,hp]
 generalize hg:upd _ 33 _=g1
 clear hg
 have f4:upd f 6 (Value.int IntKind.i64 (Int.ofNat (r.length+1))) 4=f 4:=by simp -implicitDefEqProofs only[go_sem,reduceCtorEq]
 have f5:upd f 6 (Value.int IntKind.i64 (Int.ofNat (r.length+1))) 5=f 5:=by simp -implicitDefEqProofs only[go_sem,reduceCtorEq]
 have f0:upd f 6 (Value.int IntKind.i64 (Int.ofNat (r.length+1))) 0=f 0:=by simp -implicitDefEqProofs only[go_sem,reduceCtorEq]
 have f2:upd f 6 (Value.int IntKind.i64 (Int.ofNat (r.length+1))) 2=f 2:=by simp -implicitDefEqProofs only[go_sem,reduceCtorEq]
 have f6:upd f 6 (Value.int IntKind.i64 (Int.ofNat (r.length+1))) 6=Value.int IntKind.i64 (Int.ofNat (r.length+1)):=by simp -implicitDefEqProofs only[go_sem,reduceCtorEq]
 generalize upd f 6 _=f1 at f4 f5 f0 f2 f6 ⊢
 simp -implicitDefEqProofs only[go_sem,AcZ,Sa,f4,f5,f6,h4,h5,w1,so3,sp3]
 generalize hg:upd g1 _ _=g2
 clear hg
 have q4:upd (upd f1 4 (Value.slice (some ⟨bo,0,none⟩) r.length no)) 5 (Value.slice (some ⟨bp,0,none⟩) r.length np) 4=(Value.slice (some ⟨bo,0,none⟩) r.length no):=by simp -implicitDefEqProofs only[go_sem,reduceCtorEq]
 have q5:upd (upd f1 4 (Value.slice (some ⟨bo,0,none⟩) r.length no)) 5 (Value.slice (some ⟨bp,0,none⟩) r.length np) 5=(Value.slice (some ⟨bp,0,none⟩) r.length np):=by simp -implicitDefEqProofs only[go_sem,reduceCtorEq]
 have q0:upd (upd f1 4 (Value.slice (some ⟨bo,0,none⟩) r.length no)) 5 (Value.slice (some ⟨bp,0,none⟩) r.length np) 0=f 0:=by simp -implicitDefEqProofs only[go_sem,reduceCtorEq,f0]
 have q2:upd (upd f1 4 (Value.slice (some ⟨bo,0,none⟩) r.length no)) 5 (Value.slice (some ⟨bp,0,none⟩) r.length np) 2=f 2:=by simp -implicitDefEqProofs only[go_sem,reduceCtorEq,f2]
 have q6:upd (upd f1 4 (Value.slice (some ⟨bo,0,none⟩) r.length no)) 5 (Value.slice (some ⟨bp,0,none⟩) r.length np) 6=Value.int IntKind.i64 (Int.ofNat (r.length+1)):=by simp -implicitDefEqProofs only[go_sem,reduceCtorEq,f6]
 generalize upd (upd f1 4 _) 5 _=f2' at q4 q5 q0 q2 q6 ⊢
 obtain⟨_,hi,hds,hlev⟩:=h.lev
 have hall:=h.all
 rw[Ot,IZ] at hall
 cases r with
 | nil=>
  have d1:decide (Int.ofNat (([]:List (List D×Nat)).length+1)>1)=false:=by decide
  simp -implicitDefEqProofs only[go_sem,P3,L9,q6,d1]
  refine⟨_,_,_,rfl,Chg.refl _ _,?_⟩
  exact { f0:=q0.trans h.f0,f2:=q2.trans h.f2,cw:=h.cw,hbw:=h.hbw,opn:=by rw[q4];exact so2,hbo:=h.hbo,lev:=hlev.bump,low:=h.low,pth:=by rw[q5];exact sp2,hbp:=h.hbp,ne:=h.ne,inv:=h.inv,all:=hall,wf:=h.wf,base:=h.base }
 | cons x r'=>
  obtain⟨e,j⟩:=x
  have d1:decide (Int.ofNat ((((e,j)::r'):List (List D×Nat)).length+1)>1)=true:=by simp;omega
  have w2:=Ate r'.length (by simp at hr;omega)
  have hlen:(((e,j)::r'):List (List D×Nat)).length=r'.length+1:=rfl
  cases us with
  | nil=>exact absurd hlev (fun h=>h)
  | cons u' us'=>
   have hlevs:=hlev
   obtain⟨hu,hj,hje,hlev'⟩:=hlev
   have w3:=GH j (by omega)
   have sp2':=sp2
   rw[E1,List.map_append,List.map_singleton] at sp2'
   obtain⟨cc,k1,k2⟩:=sp2'.last
   obtain⟨τ,k3,k4,k5,k6⟩:=sp2'.store (v':=.int .i64 (.ofNat (j+1))) h.wf (AY _ _)
   rw[List.length_map,Dw] at k2 k3
   rw[hlen] at q5 q6 d1
   have lt2:r'.length<r'.length+1:=Nat.lt_succ_self _
   simp -implicitDefEqProofs only[go_sem,P3,L9,Ac0,Sb,q6,d1,q5,w2,lt2,k1,k2,w3,k3]
   refine⟨_,_,_,rfl,k5.weaken fun b _ hb=>by subst hb;exact h.hbp,?_⟩
   have hne:bw≠bp:=by have:=h.hbw.1;have:=h.hbp.1;omega
   exact {
       f0:=q0.trans h.f0,f2:=q2.trans h.f2,cw:=(k5.cells (h.wf.cells h.cw) hne).trans h.cw,hbw:=h.hbw,opn:=by rw[q4];exact so2.keep (k5.get bo (so2.lt h.wf) h.ne),hbo:=h.hbo,
       lev:=(Levels.bump hlevs).keep fun b cs hb hc=>(k5.cells (h.wf.cells hc) (by have:=h.low b hb;have:=h.hbp.1;omega)).trans hc,low:=h.low,
       pth:=by rw[q5];show Stk TI τ bp _ ((wayOf ((e,j+1)::r')).map _);rw[E1,List.map_append,List.map_singleton];exact k4,
       hbp:=h.hbp,ne:=h.ne,inv:=hB.stays _ _ _ _ h.inv h.wf (k5.weaken fun b _ hb=>by subst hb;exact⟨h.hbp.2,fun hr=>by have:=h.low _ hr;have:=h.hbp.1;omega⟩),all:=hall,wf:=k6,base:=Nat.le_trans h.base k5.next }
end
end Go.Proofs.YtokieofohmgjdaaGreatDoor
namespace Go.Proofs.YtokieofohmgjdaaGreatDoor
open Go Go.Eng
attribute [local congr] Ab Ah Af Ad Ae
attribute [-go_sem] List.range_succ
section
variable {kk n l bw bo bp base:Nat} {R:Nat→Prop} {g:Value} {I:List (List Nat×D)→(Nat→Prop)→FState→Prop} {all done:List (List Nat×D)} {B:Nat→Prop} {u:Value} {us:List Value} {ds:List D} {i:Nat} {d:D} {r:List (List D×Nat)} {f:Nat→Value} {σ:FState}
theorem WF(hB:BodyTo kk (env n) l R g I all)(hk:done.length<kk)(h:WHead l R g I all bw bo bp base B (u::us) ((ds,i)::r) done f σ)(hd:ds[i]? = some d)(hr:r.length<90000)(hps:d.parts.length<1000000000)(gg:Nat→Value):
  ∃f' g' σ' B' bo' bp' u',Gc (env n) none 149 (Sl 8 80 f gg []) none σ=.done .normal (Sl 8 80 f' g' []) none σ'∧Chg (fun b=>B b∨base≤b) σ σ'∧(∀b,B' b→B b∨base≤b)∧
   WHead l R g I all bw bo' bp' base B' (u'::u::us) ((d.parts,0)::(ds,i)::r) (done++[(wayOf r++[i],d)]) f' σ':=by
 obtain⟨p,c,mo,mp,rfl,hE,hl,h4,co,ho,h5,cp,hp⟩:=h.top
 have hv:=D0 h.wf (Nat.le_refl σ.clock)
 have d0:decide (Int.ofNat (r.length+1)>0)=true:=by simp
 have w1:=AsT r.length (by omega)
 have lt1:r.length<r.length+1:=Nat.lt_succ_self _
 have hi:i<ds.length:=(List.getElem?_eq_some_iff.1 hd).1
 have ne1:(Int.ofNat i==Int.ofNat ds.length)=false:=by simp;omega
 obtain⟨b,off,cs,rfl,hRb,hcs,hle,hL⟩:=LaidRE.get hE hd
 rw[Nat.zero_add] at hle hL
 obtain⟨k,z,t,q,c',hag,hq⟩:=LaidR.shape hL
 have htk:(cs.drop (off+i*4)).take 4=[.int .i64 k,.int .i64 z,.string t,.slice q d.parts.length c']:=by
  have:=congrArg (fun v=>match v with|.agg a=>a.toList|_=>[]) hag
  simpa using this
 rw[htk] at hL
 have hall:=h.all
 rw[FH r hd] at hall
 unfold Gc
 simp -implicitDefEqProofs only[go_sem,Ie,Ic,KA,JV,KC,JW,h4,h5,d0,w1,lt1,hv,co,cp,ho,hp,ne1]
 generalize hg:upd _ 33 _=g1
 clear hg
 have f4:upd f 6 (Value.int IntKind.i64 (Int.ofNat (r.length+1))) 4=f 4:=by simp -implicitDefEqProofs only[go_sem,reduceCtorEq]
 have f5:upd f 6 (Value.int IntKind.i64 (Int.ofNat (r.length+1))) 5=f 5:=by simp -implicitDefEqProofs only[go_sem,reduceCtorEq]
 have f0:upd f 6 (Value.int IntKind.i64 (Int.ofNat (r.length+1))) 0=f 0:=by simp -implicitDefEqProofs only[go_sem,reduceCtorEq]
 have f2:upd f 6 (Value.int IntKind.i64 (Int.ofNat (r.length+1))) 2=f 2:=by simp -implicitDefEqProofs only[go_sem,reduceCtorEq]
 have f6:upd f 6 (Value.int IntKind.i64 (Int.ofNat (r.length+1))) 6=Value.int IntKind.i64 (Int.ofNat (r.length+1)):=by simp -implicitDefEqProofs only[go_sem,reduceCtorEq]
 generalize upd f 6 _=f1 at f4 f5 f0 f2 f6 ⊢
 simp -implicitDefEqProofs only[go_sem,Aw,P5,L_,f4,f5,f6,h4,h5,w1,lt1,hv,co,cp,ho,hp,hi,hcs,hle,htk]
 generalize hg:upd _ 62 _=g2
 clear hg
 have p0:upd f1 7 (Value.pointer (some ⟨σ.next,0,none⟩)) 0=f 0:=by simp -implicitDefEqProofs only[go_sem,reduceCtorEq,f0]
 have p2:upd f1 7 (Value.pointer (some ⟨σ.next,0,none⟩)) 2=f 2:=by simp -implicitDefEqProofs only[go_sem,reduceCtorEq,f2]
 have p4:upd f1 7 (Value.pointer (some ⟨σ.next,0,none⟩)) 4=f 4:=by simp -implicitDefEqProofs only[go_sem,reduceCtorEq,f4]
 have p5:upd f1 7 (Value.pointer (some ⟨σ.next,0,none⟩)) 5=f 5:=by simp -implicitDefEqProofs only[go_sem,reduceCtorEq,f5]
 have p6:upd f1 7 (Value.pointer (some ⟨σ.next,0,none⟩)) 6=Value.int IntKind.i64 (Int.ofNat (r.length+1)):=by simp -implicitDefEqProofs only[go_sem,reduceCtorEq,f6]
 have p7:upd f1 7 (Value.pointer (some ⟨σ.next,0,none⟩)) 7=Value.pointer (some ⟨σ.next,0,none⟩):=by simp -implicitDefEqProofs only[go_sem,reduceCtorEq]
 generalize upd f1 7 _=f2' at p0 p2 p4 p5 p6 p7 ⊢
 have x1:Ext σ ((σ.push (.cells [.int .i64 0,.int .i64 0,.string ⟨#[]⟩,.slice none 0 0] TD) none).put σ.next (.cells [.int .i64 k,.int .i64 z,.string t,.slice q d.parts.length c'] TD) none):=((Ext.refl _).push _ _).put _ _ _ (Nat.le_refl _)
 have hw1:=(h.wf.push (.cells [.int .i64 0,.int .i64 0,.string ⟨#[]⟩,.slice none 0 0] TD) none).put σ.next (.cells [.int .i64 k,.int .i64 z,.string t,.slice q d.parts.length c'] TD) none (Nat.lt_succ_self _)
 have b1:((σ.push (.cells [.int .i64 0,.int .i64 0,.string ⟨#[]⟩,.slice none 0 0] TD) none).put σ.next (.cells [.int .i64 k,.int .i64 z,.string t,.slice q d.parts.length c'] TD) none).cells σ.next=some [.int .i64 k,.int .i64 z,.string t,.slice q d.parts.length c']:=by rw[Al,if_pos rfl];rfl
 have hcl:((σ.push (.cells [.int .i64 0,.int .i64 0,.string ⟨#[]⟩,.slice none 0 0] TD) none).put σ.next (.cells [.int .i64 k,.int .i64 z,.string t,.slice q d.parts.length c'] TD) none).clock=σ.clock+2:=rfl
 have hnx:((σ.push (.cells [.int .i64 0,.int .i64 0,.string ⟨#[]⟩,.slice none 0 0] TD) none).put σ.next (.cells [.int .i64 k,.int .i64 z,.string t,.slice q d.parts.length c'] TD) none).next=σ.next+1:=rfl
 generalize FState.put _ _ _ _=σ1 at x1 hw1 b1 hcl hnx ⊢
 have hv1:=D0 hw1 (Nat.le_of_eq hcl)
 have hlp:r.length+1≤(List.map (fun i=>Value.int IntKind.i64 (Int.ofNat i)) (wayOf r)++Value.int IntKind.i64 (Int.ofNat i)::mp).length:=by simp[Dw]
 have sl3:=Vk Tryz.prog 25 TI 1 bp 0 (r.length+1) _ (r.length+1) (view σ1 (σ.clock+2)) Ou Ui hlp
 have i1:I done B σ1:=hB.stays _ _ _ _ h.inv h.wf (x1.chg _)
 have hbpn:=h.pth.lt h.wf
 have hbon:=h.opn.lt h.wf
 have hP:PathAt σ1 (.slice (some ⟨bp,0,none⟩) (r.length+1) (r.length+1)) (wayOf r++[i]):=⟨some ⟨bp,0,none⟩,r.length+1,by simp[Dw],.inr ⟨bp,mp,rfl,by rw[x1.cells hbpn,cp];simp⟩⟩
 have kR:∀b cs,R b→σ.cells b=some cs→σ1.cells b=some cs∧R b:=fun b cs hb hc=>⟨(x1.cells (h.wf.cells hc)).trans hc,hb⟩
 obtain⟨B',σ2,e2,hw2,ch2,hB',i2⟩:=hB.go done (wayOf r++[i]) d _ B σ1 _ _ hk hall hw1 i1 hP (hL.keep kR)
 have ownB:=hB.own _ _ _ h.inv
 have nB:∀b,σ.next≤b→¬ B b:=fun b hb hh=>by have:=(ownB b hh).1;omega
 have b2:σ2.cells σ.next=some [.int .i64 k,.int .i64 z,.string t,.slice q d.parts.length c']:=(ch2.cells (by omega) (nB _ (Nat.le_refl _))).trans b1
 have hbwn:=h.wf.cells h.cw
 have cw2:σ2.cells bw=some [g]:=(ch2.cells (by omega) h.hbw.2).trans ((x1.cells hbwn).trans h.cw)
 obtain⟨_,σ3,e3,x3,hw3,rfl⟩:=hB.inside _ B' σ2 k z t q d.parts.length c' i2 hw2
 simp -implicitDefEqProofs only[go_sem,Nr,JU,p0,p5,p6,p7,h.f0,h5,hv1,b1,sl3,EO,E9,e2]
 generalize hg:upd _ 70 _=g3
 clear hg
 have nB':∀b,b<σ1.next→¬ B b→¬ B' b:=fun b hb h1 h2=>by
  rcases hB' b h2 with h3|h3
  ·exact h1 h3
  ·omega
 have opn2:Stk TL σ2 bo (f 4) (.slice (some ⟨b,off,none⟩) ds.length c::us).reverse:=h.opn.keep ((ch2.get bo (by omega) h.hbo.2).trans (x1.get bo hbon))
 have opn3:Stk TL σ3 bo (f 4) (.slice (some ⟨b,off,none⟩) ds.length c::us).reverse:=opn2.keep (x3.get bo (opn2.lt hw2))
 have pth2:Stk TI σ2 bp (f 5) ((wayOf ((ds,i)::r)).map fun i=>.int .i64 (.ofNat i)):=h.pth.keep ((ch2.get bp (by omega) h.hbp.2).trans (x1.get bp hbpn))
 have pth3:Stk TI σ3 bp (f 5) ((wayOf ((ds,i)::r)).map fun i=>.int .i64 (.ofNat i)):=pth2.keep (x3.get bp (pth2.lt hw2))
 have x4:Ext σ3 (σ3.push (.cells [.slice q d.parts.length c'] TL) none):=(Ext.refl _).push _ _
 have hw4:=hw3.push (.cells [.slice q d.parts.length c'] TL) none
 have b4:(σ3.push (.cells [.slice q d.parts.length c'] TL) none).cells σ3.next=some [.slice q d.parts.length c']:=by rw[Ac,if_pos rfl];rfl
 rw[h4] at opn3
 obtain⟨bo',s5,σ5,e5,opn5,hbo',ch5,hw5⟩:=(opn3.keep (x4.get bo (opn3.lt hw3))).append hw4 (.slice q d.parts.length c') 24 σ3.next 1 b4 (Au _ _ _) (by omega) (by simp[hl];omega)
 have b5:(σ5.push (.cells [.int .i64 0] TI) none).cells σ5.next=some [.int .i64 0]:=by rw[Ac,if_pos rfl];rfl
 have x6:Ext σ5 (σ5.push (.cells [.int .i64 0] TI) none):=(Ext.refl _).push _ _
 have hw6:=hw5.push (.cells [.int .i64 0] TI) none
 have hne45:bp≠bo:=fun h'=>h.ne h'.symm
 have pth4:=pth3.keep (x4.get bp (pth3.lt hw3))
 have pth5:Stk TI σ5 bp (f 5) ((wayOf ((ds,i)::r)).map fun i=>.int .i64 (.ofNat i)):=pth4.keep (ch5.get bp (pth4.lt hw4) hne45)
 obtain⟨bp',s7,σ7,e7,pth7,hbp',ch7,hw7⟩:=(pth5.keep (x6.get bp (pth5.lt hw5))).append hw6 (.int .i64 0) 8 σ5.next 1 b5 (AY _ _) (by omega) (by simp[Dw];omega)
 simp -implicitDefEqProofs only[go_sem,Yc,Ns,p0,p2,p4,p7,h.f2,cw2,b2,e3,h4,EQ,e5]
 generalize hg:upd _ 76 _=g4
 clear hg
 have t0:upd f2' 4 s5 0=f 0:=by simp -implicitDefEqProofs only[go_sem,reduceCtorEq,p0]
 have t2:upd f2' 4 s5 2=f 2:=by simp -implicitDefEqProofs only[go_sem,reduceCtorEq,p2]
 have t4:upd f2' 4 s5 4=s5:=by simp -implicitDefEqProofs only[go_sem,reduceCtorEq]
 have t5:upd f2' 4 s5 5=f 5:=by simp -implicitDefEqProofs only[go_sem,reduceCtorEq,p5]
 generalize upd f2' 4 s5=f3 at t0 t2 t4 t5 ⊢
 simp -implicitDefEqProofs only[go_sem,Yd,Nt,t5,e7]
 have v0:upd f3 5 s7 0=f 0:=by simp -implicitDefEqProofs only[go_sem,reduceCtorEq,t0]
 have v2:upd f3 5 s7 2=f 2:=by simp -implicitDefEqProofs only[go_sem,reduceCtorEq,t2]
 have v4:upd f3 5 s7 4=s5:=by simp -implicitDefEqProofs only[go_sem,reduceCtorEq,t4]
 have v5:upd f3 5 s7 5=s7:=by simp -implicitDefEqProofs only[go_sem,reduceCtorEq]
 have hbo4:bo<(σ3.push (.cells [.slice q d.parts.length c'] TL) none).next:=(opn3.keep (x4.get bo (opn3.lt hw3))).lt hw4
 have n12:=x1.next
 have n23:=ch2.next
 have n34:=x3.next
 have n45:=x4.next
 have n56:=ch5.next
 have n67:=x6.next
 have n78:=ch7.next
 have hbase:=h.base
 have lowB':∀b,B' b→B b∨base≤b:=fun b hb=>by
  rcases hB' b hb with h3|h3
  ·exact .inl h3
  ·exact .inr (by omega)
 have ownB':=hB.own _ _ _ i2
 have hboB':¬ B' bo:=nB' bo (by omega) h.hbo.2
 have hbpB':¬ B' bp:=nB' bp (by omega) h.hbp.2
 have c27:∀b,b<σ2.next→b≠bo→b≠bp→σ7.heap.get b=σ2.heap.get b:=fun b hb h1 h2=>
  ((ch7.get b (by omega) h2).trans (x6.get b (by omega))).trans ((ch5.get b (by omega) h1).trans ((x4.get b (by omega)).trans (x3.get b hb)))
 have c17:∀b,b<σ.next→¬ B b→b≠bo→b≠bp→σ7.heap.get b=σ.heap.get b:=fun b hb h0 h1 h2=>
  (c27 b (by omega) h1 h2).trans ((ch2.get b (by omega) h0).trans (x1.get b hb))
 have nbo:base≤bo'∧¬ B' bo'∧bo'<σ5.next:=by
  rcases hbo' with rfl|rfl
  ·exact⟨h.hbo.1,hboB',by omega⟩
  ·exact⟨by omega,fun hb=>by have:=(ownB' _ hb).1;omega,opn5.lt hw5⟩
 have nbp:base≤bp'∧¬ B' bp'∧bo'≠bp':=by
  rcases hbp' with rfl|rfl
  ·refine⟨h.hbp.1,hbpB',?_⟩
   rcases hbo' with rfl|rfl
   ·exact h.ne
   ·omega
  ·have:=nbo.2.2
   rw[Aa] at n67 ⊢
   exact⟨by omega,fun hb=>by have:=(ownB' _ hb).1;omega,by omega⟩
 have hcw7:σ7.cells bw=some [g]:=by
  rw[AG,c17 bw hbwn h.hbw.2 (by have:=h.hbw.1;have:=h.hbo.1;omega) (by have:=h.hbw.1;have:=h.hbp.1;omega),←AG]
  exact h.cw
 have kR7:∀b cs,R b→σ.cells b=some cs→σ7.cells b=some cs:=fun b cs hb hc=>by
  have hlb:=h.low b hb
  rw[AG,c17 b (by omega) (fun hB0=>(ownB b hB0).2 hb) (by have:=h.hbo.1;omega) (by have:=h.hbp.1;omega),←AG]
  exact hc
 refine⟨_,_,σ7,B',bo',bp',.slice q d.parts.length c',rfl,⟨by omega,by have:=x1.clock;have:=ch2.clock;have:=x3.clock;have:=x4.clock;have:=ch5.clock;have:=x6.clock;have:=ch7.clock;omega,fun b hb hF=>?_⟩,lowB',?_⟩
 ·exact c17 b hb (fun h'=>hF (.inl h')) (fun h'=>hF (.inr (by have:=h.hbo.1;omega))) (fun h'=>hF (.inr (by have:=h.hbp.1;omega)))
 ·obtain⟨hu,hi0,hds,hlev⟩:=h.lev
  exact {
      f0:=v0.trans h.f0,f2:=v2.trans h.f2,cw:=hcw7,hbw:=⟨h.hbw.1,nB' bw (by omega) h.hbw.2⟩,
      opn:=by
       rw[v4,List.reverse_cons]
       exact opn5.keep ((ch7.get bo' (by omega) (fun h'=>by
        rcases hbp' with h''|h''
        ·exact nbp.2.2 (h'.trans h''.symm)
        ·have:=nbo.2.2;rw[Aa] at n67;exact absurd h' (by
          intro h3
          rcases hbo' with rfl|rfl
          ·exact h.ne h3
          ·have:=pth4.lt hw4;omega))).trans (x6.get bo' nbo.2.2)),
      hbo:=⟨nbo.1,nbo.2.1⟩,
      lev:=⟨⟨q,c',rfl,hq.keep fun b cs hb hc=>⟨kR7 b cs hb hc,hb⟩⟩,by omega,hps,⟨(hu.elim fun p' h'=>h'.elim fun c'' h''=>⟨p',c'',h''.1,h''.2.keep fun b cs hb hc=>⟨kR7 b cs hb hc,hb⟩⟩),by omega,hds,hlev.keep kR7⟩⟩,
      low:=h.low,
      pth:=by rw[v5,E1,List.map_append];exact pth7,
      hbp:=⟨nbp.1,nbp.2.1⟩,ne:=nbp.2.2,
      inv:=hB.stays _ _ _ _ i2 hw2 ⟨by omega,by have:=x3.clock;have:=x4.clock;have:=ch5.clock;have:=x6.clock;have:=ch7.clock;omega,fun b hb hn=>c27 b hb (fun h'=>hn ⟨fun hb'=>hboB' (h' ▸ hb'),fun hr=>by have:=h.low b hr;have:=nbo.1;have:=h.hbo.1;omega⟩) (fun h'=>hn ⟨fun hb'=>hbpB' (h' ▸ hb'),fun hr=>by have:=h.low b hr;have:=nbp.1;have:=h.hbp.1;omega⟩)⟩,
      all:=by rw[hall,List.append_assoc,List.singleton_append],wf:=hw7,base:=by omega }
end
end Go.Proofs.YtokieofohmgjdaaGreatDoor
namespace Go.Proofs.YtokieofohmgjdaaGreatDoor
open Go Go.Eng
attribute [local congr] Ab Ah Af Ad Ae
attribute [-go_sem] List.range_succ
section
variable {n l bw base:Nat} {R:Nat→Prop} {g:Value} {I:List (List Nat×D)→(Nat→Prop)→FState→Prop} {all:List (List Nat×D)}
theorem Ao1:keepOf nls 149=[]:=by kernel_rfl
def Small(all:List (List Nat×D)):Prop:=∀x∈all,x.1.length<80000∧x.2.parts.length<1000000000
theorem Ad6(hB:Body (env n) l R g I all)(hS:Small all):∀(m fuel:Nat) (st:List (List D×Nat)) (us:List Value) (done:List (List Nat×D)) (B:Nat→Prop) (bo bp:Nat) (f gg:Nat→Value) (σ:FState),
  2*(todo st).length+st.length≤m→m<fuel→st.length≤80000→WHead l R g I all bw bo bp base B us st done f σ→
  ∃f' g' σ' B',floop [] (Gc (env n) none 149) fuel (Sl 8 80 f gg []) none σ=.done (.exit 0) (Sl 8 80 f' g' []) none σ'∧Chg (fun b=>B b∨base≤b) σ σ'∧(∀b,B' b→B b∨base≤b)∧Wf σ'∧I all B' σ':=by
 intro m
 induction m with
 | zero=>
  intro fuel st us done B bo bp f gg σ hm hf hst h
  obtain⟨fuel,rfl⟩:∃q,fuel=q+1:=⟨fuel-1,by omega⟩
  obtain rfl:st=[]:=by cases st with|nil=>rfl|cons _ _=>simp at hm
  obtain rfl:us=[]:=List.length_eq_zero_iff.1 h.lev.length
  obtain⟨mo,h4,_⟩:=h.opn.cells
  have hall:=h.all
  have d0:decide (Int.ofNat 0>0)=false:=by decide
  rw[show todo ([]:List (List D×Nat))=[] from rfl,List.append_nil] at hall
  simp only[List.reverse_nil,List.length_nil] at h4
  rw[Ar]
  unfold Gc
  simp -implicitDefEqProofs only[go_sem,Ie,Ic,h4,d0]
  exact⟨_,_,_,B,rfl,Chg.refl _ _,fun _ hb=>.inl hb,h.wf,hall ▸ h.inv⟩
 | succ m ih=>
  intro fuel st us done B bo bp f gg σ hm hf hst h
  obtain⟨fuel,rfl⟩:∃q,fuel=q+1:=⟨fuel-1,by omega⟩
  cases st with
  | nil=>exact ih (fuel+1) [] us done B bo bp f gg σ (by simp[todo]) (by omega) hst h
  | cons x r=>
   obtain⟨ds,i⟩:=x
   cases us with
   | nil=>exact absurd h.lev (fun h=>h)
   | cons u us=>
    have hi:i≤ds.length:=h.lev.2.1
    have hr:r.length+1≤80000:=hst
    rw[Ar,BU]
    by_cases he:i=ds.length
    ·subst he
     obtain⟨f',g',σ',e,hC,hH⟩:=WG hB.to h (by omega) (kept [] gg)
     rw[e,Aq]
     rw[Ot,IZ] at hm
     have hlb:(bump r).length=r.length:=by cases r<;>rfl
     obtain⟨f2,g2,σ2,B2,e2,hC2,hB2,hw2,hI2⟩:=ih fuel _ _ _ _ _ _ f' g' σ' (by simp at hm;omega) (by omega) (by omega) hH
     exact⟨f2,g2,σ2,B2,e2,(hC.weaken fun b _ hb=>.inr hb.1).trans hC2 (fun b _ hb=>hb),hB2,hw2,hI2⟩
    ·have hlt:i<ds.length:=by omega
     have hd:ds[i]? = some ds[i]:=List.getElem?_eq_getElem hlt
     have hall:=h.all
     rw[FH r hd] at hall
     have hx:=hS (wayOf r++[i],ds[i]) (by rw[hall];simp)
     obtain⟨f',g',σ',B',bo',bp',u',e,hC,hBB,hH⟩:=WF hB.to (by rw[hall];simp) h hd (by omega) hx.2 (kept [] gg)
     rw[e,Aq]
     rw[FH r hd] at hm
     have hl:(wayOf r++[i]).length=r.length+1:=by simp[Dw]
     have hx1:=hx.1
     simp only[hl] at hx1
     obtain⟨f2,g2,σ2,B2,e2,hC2,hB2,hw2,hI2⟩:=ih fuel _ _ _ _ _ _ f' g' σ' (by simp at hm ⊢;omega) (by omega) (by simp;omega) hH
     refine⟨f2,g2,σ2,B2,e2,hC.trans hC2 fun b _ hb=>?_,fun b hb=>?_,hw2,hI2⟩
     ·rcases hb with hb|hb
      ·exact hBB b hb
      ·exact .inr hb
     ·rcases hB2 b hb with hb|hb
      ·exact hBB b hb
      ·exact .inr hb
theorem AsX(d:D)(hB:Body (env n) l R g I (d.pieces []))(hS:Small (d.pieces []))(hN:(d.pieces []).length<100000000000)(b1 b2:Nat)(σ:FState)(v:Value)(lv:List Value)(B:Nat→Prop)(hw:Wf σ)(hi:I [] B σ)(hcv:σ.cells b1=some lv)(hv:v=.agg lv.toArray)(hb1:¬ B b1)(hL:LaidR R σ v d)(hR:∀b,R b→b<σ.next)(hcw:σ.cells b2=some [g])(hb2:¬ B b2):
  ∃σ' B',(env (n+1)).call 149 [.func (.yield l) #[] #[],.pointer (some ⟨b1,0,none⟩),.pointer (some ⟨b2,0,none⟩)] none σ=.ret (.tuple #[]) none σ'∧Chg B σ σ'∧(∀b,B' b→B b∨σ.next≤b)∧Wf σ'∧I (d.pieces []) B' σ':=by
 subst hv
 obtain⟨k,z,t,q,c',hag,hq⟩:=LaidR.shape hL
 have hlv:lv=[.int .i64 k,.int .i64 z,.string t,.slice q d.parts.length c']:=by
  have:=congrArg (fun v=>match v with|.agg a=>a.toList|_=>[]) hag
  simpa using this
 subst hlv
 have hpc:=D.pieces_eq [] d
 obtain⟨B',σ1,e1,hw1,ch1,hB1,i1⟩:=hB.go [] [] d _ B σ (.slice none 0 0) _ (by rw[hpc];rfl) hw hi ⟨none,0,rfl,.inl ⟨rfl,rfl,rfl⟩⟩ hL
 have ownB:=hB.own _ _ _ hi
 have ownB1:=hB.own _ _ _ i1
 have hb1n:=hw.cells hcv
 have hb2n:=hw.cells hcw
 have n1:=ch1.next
 have cv1:σ1.cells b1=some [.int .i64 k,.int .i64 z,.string t,.slice q d.parts.length c']:=(ch1.cells hb1n hb1).trans hcv
 have cw1:σ1.cells b2=some [g]:=(ch1.cells hb2n hb2).trans hcw
 obtain⟨_,σ2,e2,x2,hw2,rfl⟩:=hB.inside _ B' σ1 k z t q d.parts.length c' i1 hw1
 have n2:=x2.next
 have x3:Ext σ2 ((σ2.push (.cells [.slice q d.parts.length c'] TL) none).push (.cells [.int .i64 0] TI) none):=((Ext.refl _).push _ _).push _ _
 have hw3:=(hw2.push (.cells [.slice q d.parts.length c'] TL) none).push (.cells [.int .i64 0] TI) none
 have hlow:∀b,B' b→B b∨σ.next≤b:=hB1
 have nB:∀b,b<σ.next→¬ B b→¬ B' b:=fun b hb h1 h2=>by
  rcases hB1 b h2 with h3|h3
  ·exact h1 h3
  ·omega
 have c03:∀b,b<σ.next→¬ B b→((σ2.push (.cells [.slice q d.parts.length c'] TL) none).push (.cells [.int .i64 0] TI) none).heap.get b=σ.heap.get b:=fun b hb h0=>
  (x3.get b (by omega)).trans ((x2.get b (by omega)).trans (ch1.get b hb h0))
 have kR:∀b cs,R b→σ.cells b=some cs→((σ2.push (.cells [.slice q d.parts.length c'] TL) none).push (.cells [.int .i64 0] TI) none).cells b=some cs:=fun b cs hb hc=>by
  rw[AG,c03 b (hR b hb) (fun hB0=>(ownB b hB0).2 hb),←AG]
  exact hc
 rw[Ak _ 149 _ _ rfl,MD _ _ _ _ (by simp),Aj]
 unfold Ob
 have tk:List.take 4 [Value.int .i64 k,.int .i64 z,.string t,.slice q d.parts.length c']=[.int .i64 k,.int .i64 z,.string t,.slice q d.parts.length c']:=rfl
 simp -implicitDefEqProofs only[go_sem,Kz,JT,P0,L7,P1,L8,hcv,EO,E9,e1,cw1,cv1,e2,Ao1,EQ]
 generalize hff:upd _ 5 _=f1
 generalize hgg:upd _ 16 _=g1
 generalize hbf:bigFuel=fuel
 have hH:WHead l R g I (d.pieces []) b2 σ2.next (σ2.next+1) σ.next B' [.slice q d.parts.length c'] [(d.parts,0)] ([]++[([],d)]) f1 ((σ2.push (.cells [.slice q d.parts.length c'] TL) none).push (.cells [.int .i64 0] TI) none):={
  f0:=by rw[←hff];simp -implicitDefEqProofs only[go_sem,reduceCtorEq]
  f2:=by rw[←hff];simp -implicitDefEqProofs only[go_sem,reduceCtorEq]
  cw:=by rw[AG,c03 b2 hb2n hb2,←AG];exact hcw
  hbw:=⟨hb2n,nB b2 hb2n hb2⟩
  opn:=⟨_,none,σ2.clock,by rw[←hff];simp -implicitDefEqProofs only[go_sem,reduceCtorEq]<;>rfl,by rw[Ai,if_neg (by rw[Aa];omega),Ai,if_pos rfl];rfl,.inl rfl,[],rfl⟩
  hbo:=⟨by omega,fun h=>by have:=(ownB1 _ h).1;omega⟩
  lev:=⟨⟨q,c',rfl,hq.keep fun b cs hb hc=>⟨kR b cs hb hc,hb⟩⟩,Nat.zero_le _,(hS ([],d) (by rw[hpc];exact List.mem_cons_self)).2,trivial⟩
  low:=hR
  pth:=⟨_,none,σ2.clock+1,by rw[←hff];simp -implicitDefEqProofs only[go_sem,reduceCtorEq]<;>rfl,by rw[Ai,if_pos (by rw[Aa])];rfl,.inl rfl,[],rfl⟩
  hbp:=⟨by omega,fun h=>by have:=(ownB1 _ h).1;omega⟩
  ne:=by omega
  inv:=hB.stays _ _ _ _ i1 hw1 (by
   have:=x2.clock
   have:=x3.clock
   have:=x3.next
   exact⟨by omega,by omega,fun b hb _=>(x3.get b (by omega)).trans (x2.get b hb)⟩)
  all:=by rw[hpc];show _=[]++[([],d)]++(D.piecesL [] 0 (d.parts.drop 0)++[]);simp
  wf:=hw3
  base:=by rw[Aa,Aa];omega }
 obtain⟨f2,g2,σ4,B4,e4,ch4,hB4,hw4,i4⟩:=Ad6 hB hS _ fuel _ _ _ _ _ _ f1 g1 _ (Nat.le_refl _) (by
  rw[←hbf]
  show _<1000000000000
  have h1:(todo [(d.parts,0)]).length=(D.piecesL [] 0 d.parts).length:=by simp[todo,below,wayOf]
  have h2:=congrArg List.length hpc
  rw[List.length_cons] at h2
  rw[h1,List.length_singleton]
  omega) (by simp) hH
 rw[e4]
 simp -implicitDefEqProofs only[go_sem]
 refine⟨_,B4,rfl,⟨?_,?_,?_⟩,?_,hw4,i4⟩
 ·have:=x3.next;have:=ch4.next;omega
 ·have:=ch1.clock;have:=x2.clock;have:=x3.clock;have:=ch4.clock;omega
 ·intro b hb h0
  have:=x3.next
  rw[ch4.get b (by omega) (fun h=>by
   rcases h with h|h
   ·exact nB b hb h0 h
   ·omega)]
  exact c03 b hb h0
 ·intro b hb
  rcases hB4 b hb with h|h
  ·exact hB1 b h
  ·exact .inr h
end
end Go.Proofs.YtokieofohmgjdaaGreatDoor
namespace Go.Eng
open Go
def Ful(T:TypeId)(σ:FState)(b:Nat)(s:Value)(vs:List Value):Prop:=
 ∃fz ver,s=.slice (some ⟨b,0,none⟩) vs.length vs.length∧σ.heap.get b=some ⟨.cells vs T,false,fz,ver⟩∧(fz=none∨fz=some 1)
section
variable {T:TypeId} {σ σ':FState} {b:Nat} {s:Value} {vs:List Value}
theorem Ful.keep(h:Ful T σ b s vs)(hb:σ'.heap.get b=σ.heap.get b):Ful T σ' b s vs:=by
 obtain⟨fz,ver,h1,h2,h3⟩:=h
 exact⟨fz,ver,h1,hb.trans h2,h3⟩
theorem Ful.lt(h:Ful T σ b s vs)(hw:Wf σ):b<σ.next:=by
 obtain⟨fz,ver,h1,h2,h3⟩:=h
 exact(hw _ _ h2).1
theorem Ful.cells(h:Ful T σ b s vs):s=.slice (some ⟨b,0,none⟩) vs.length vs.length∧σ.cells b=some vs:=by
 obtain⟨fz,ver,h1,h2,h3⟩:=h
 exact⟨h1,AB h2⟩
theorem Ful.one(h:Ful T σ b s vs):oneCell s=true∧notTuple s=true∧valCells s=[s]:=by
 obtain⟨fz,ver,rfl,_⟩:=h
 exact⟨Au _ _ _,AA _ _ _,rfl⟩
theorem Ful.push(T:TypeId)(σ:FState)(vs:List Value):Ful T (σ.push (.cells vs T) none) σ.next (.slice (some ⟨σ.next,0,none⟩) vs.length vs.length) vs:=⟨none,σ.clock,rfl,by rw[Ai,if_pos rfl],.inl rfl⟩
theorem Gh(bx n cx:Nat)(new rest:List Value)(hx:σ.cells bx=some (new++rest))(hn:new.length=n):fnew 1 (.slice (some ⟨bx,0,none⟩) n cx) σ=some (n,new):=by
 unfold fnew
 simp only[Ew,hx,Nat.mul_one,List.drop_zero,Nat.sub_zero,List.length_append]
 rw[if_pos (by omega),List.take_left' hn]
theorem Ful.append(h:Ful T σ b s vs)(hw:Wf σ)(src:Value)(new:List Value)(bytes:Nat)(hx:fnew 1 src σ=some (new.length,new))(ho:new.all oneCell=true)(hby:bytes<1000)(hlen:vs.length+new.length<100000):
  ∃b' s' τ,fappend T 1 bytes s src σ=.val s' τ∧Ful T τ b' s' (vs++new)∧(b'=b∨b'=σ.next)∧Chg (· = b) σ τ∧Wf τ:=by
 have hb:=h.lt hw
 obtain⟨fz,ver,rfl,h2,h3⟩:=h
 have e0:fappend T 1 bytes (.slice (some ⟨b,0,none⟩) vs.length vs.length) src σ=fappend2 T 1 bytes vs.length vs.length (some ⟨b,0,none⟩) new.length new σ:=by
  unfold fappend
  simp only[hx,ho]
  rfl
 rw[e0]
 unfold fappend2
 by_cases hz:new.length=0
 ·obtain rfl:new=[]:=List.length_eq_zero_iff.1 hz
  rw[show Nat.ble (vs.length+([]:List Value).length) vs.length=true by rw[Nat.ble_eq];simp]
  show ∃b' s' τ,fappendRoom 1 vs.length vs.length (some ⟨b,0,none⟩) 0 [] σ=.val s' τ∧_
  unfold fappendRoom
  simp only[h2,D6,Nat.mul_one,Nat.zero_add,List.length_nil,Nat.add_zero,Nat.le_refl,if_true,List.append_nil]
  refine⟨b,_,_,rfl,⟨fz,σ.clock,rfl,?_,h3⟩,.inl rfl,(Chg.refl (· = b) _).put _ _ _ (.inr rfl),hw.put _ _ _ hb⟩
  rw[Am,if_pos rfl]
  simp
 ·have hm:(vs.length+new.length)*(bytes+1)≤100000*1000:=Nat.mul_le_mul (by omega) (by omega)
  rw[show Nat.ble (vs.length+new.length) vs.length=false by rw[←Bool.not_eq_true,Nat.ble_eq];omega,show Nat.ble ((vs.length+new.length)*(bytes+1)) 1000000000=true by rw[Nat.ble_eq];omega]
  show ∃b' s' τ,fappendGrow T 1 vs.length vs.length (some ⟨b,0,none⟩) new.length new σ=.val s' τ∧_
  unfold fappendGrow
  have hc:=AB h2
  simp only[Ew,hc,h2,List.drop_zero,Nat.sub_zero,Nat.mul_one,Nat.le_refl,if_true]
  rw[List.take_of_length_le (Nat.le_refl _)]
  have hl:vs.length+new.length=(vs++new).length:=by simp
  rcases h3 with rfl|rfl
  ·refine⟨σ.next,.slice (some ⟨σ.next,0,none⟩) (vs.length+new.length) (vs.length+new.length),σ.push (.cells (vs++new) T) (some 1),rfl,⟨some 1,σ.clock,by rw[hl],by rw[Ai,if_pos rfl],.inr rfl⟩,.inr rfl,(Chg.refl _ _).push _ _,hw.push _ _⟩
  ·rw[show Nat.beq vs.length vs.length=true by rw[Nat.beq_eq]]
   refine⟨σ.next,.slice (some ⟨σ.next,0,none⟩) (vs.length+new.length) (vs.length+new.length),(σ.put b (.defd false) none).push (.cells (vs++new) T) (some 1),rfl,⟨some 1,(σ.put b (.defd false) none).clock,by rw[hl],by rw[Ai,if_pos (by rw[Ap])],.inr rfl⟩,.inr rfl,((Chg.refl (· = b) _).put _ _ _ (.inr rfl)).push _ _,(hw.put _ _ _ hb).push _ _⟩
theorem ED{σ σ':FState}(hw:Wf σ){lam:Nat}(hl:σ.clock≤lam){b:Nat}{c:List Value}(hb:σ'.heap.get b=σ.heap.get b)(hc:σ.cells b=some c):(view σ' lam).cells b=some c:=by
 rw[AG,Kf,hb]
 rw[AG] at hc
 cases hg:σ.heap.get b with
 | none=>rw[hg] at hc;cases hc
 | some e=>
  rw[hg] at hc
  simp only
  rw[if_pos (by have:=(hw b e hg).2;omega)]
  exact hc
def intsOf(path:List Nat):List Value:=path.map fun i=>.int .i64 (.ofNat i)
theorem I9(path:List Nat):(intsOf path).all oneCell=true:=by
 induction path with
 | nil=>rfl
 | cons x l ih=>rw[intsOf,List.map_cons,List.all_cons,AY,Bool.true_and];exact ih
theorem DU(path:List Nat):(intsOf path).length=path.length:=by simp[intsOf]
def PathV(Q:Nat→Prop)(σ:FState)(v:Value)(path:List Nat):Prop:=
 (v=.slice none 0 0∧path=[])∨∃b cx rest,v=.slice (some ⟨b,0,none⟩) path.length cx∧Q b∧σ.cells b=some (intsOf path++rest)
theorem PathV.keep{Q Q':Nat→Prop}{σ σ':FState}{v:Value}{path:List Nat}(h:PathV Q σ v path)(hk:∀b c,Q b→σ.cells b=some c→σ'.cells b=some c∧Q' b):PathV Q' σ' v path:=by
 rcases h with h|⟨b,cx,rest,h1,h2,h3⟩
 ·exact .inl h
 ·exact .inr ⟨b,cx,rest,h1,(hk b _ h2 h3).2,(hk b _ h2 h3).1⟩
theorem PathV.fnew{Q:Nat→Prop}{σ:FState}{v:Value}{path:List Nat}(h:PathV Q σ v path):Eng.fnew 1 v σ=some ((intsOf path).length,intsOf path):=by
 rcases h with⟨rfl,rfl⟩|⟨b,cx,rest,rfl,h2,h3⟩
 ·rfl
 ·rw[DU]
  exact Gh b path.length cx _ rest h3 (DU _)
theorem PathV.one{Q:Nat→Prop}{σ:FState}{v:Value}{path:List Nat}(h:PathV Q σ v path):oneCell v=true∧notTuple v=true∧valCells v=[v]:=by
 rcases h with⟨rfl,rfl⟩|⟨b,cx,rest,rfl,h2,h3⟩
 ·exact⟨Au _ _ _,AA _ _ _,rfl⟩
 ·exact⟨Au _ _ _,AA _ _ _,rfl⟩
def PathsL(Q:Nat→Prop)(σ:FState):List Value→List (List Nat)→Prop
 | [],[]=>True
 | u::us,p::ps=>PathV Q σ u p∧PathsL Q σ us ps
 | _,_=>False
theorem PathsL.keep{Q Q':Nat→Prop}{σ σ':FState}(hk:∀b c,Q b→σ.cells b=some c→σ'.cells b=some c∧Q' b):∀ {us:List Value} {ps:List (List Nat)},PathsL Q σ us ps→PathsL Q' σ' us ps
 | [],[],_=>trivial
 | _::_,_::_,⟨h1,h2⟩=>⟨h1.keep hk,h2.keep hk⟩
theorem PathsL.length{Q:Nat→Prop}{σ:FState}:∀ {us:List Value} {ps:List (List Nat)},PathsL Q σ us ps→us.length=ps.length
 | [],[],_=>rfl
 | _::_,_::_,⟨_,h2⟩=>congrArg (· + 1) h2.length
theorem PathsL.append{Q:Nat→Prop}{σ:FState}:∀ {us us':List Value} {ps ps':List (List Nat)},PathsL Q σ us ps→PathsL Q σ us' ps'→PathsL Q σ (us++us') (ps++ps')
 | [],_,[],_,_,h=>h
 | _::_,_,_::_,_,⟨h1,h2⟩,h=>⟨h1,h2.append h⟩
theorem PathsL.all{Q:Nat→Prop}{σ:FState}:∀ {us:List Value} {ps:List (List Nat)},PathsL Q σ us ps→us.all oneCell=true
 | [],[],_=>rfl
 | _::_,_::_,⟨h1,h2⟩=>by rw[List.all_cons,h1.one.1,Bool.true_and];exact h2.all
theorem PathsL.get{Q:Nat→Prop}{σ:FState}:∀ {us:List Value} {ps:List (List Nat)} {i:Nat} {p:List Nat},PathsL Q σ us ps→ps[i]? = some p→∃u,us[i]? = some u∧PathV Q σ u p
 | u::_,_::_,0,_,⟨h1,_⟩,h=>by cases h;exact⟨u,rfl,h1⟩
 | _::us,_::ps,i+1,p,⟨_,h2⟩,h=>by
  obtain⟨u,h3,h4⟩:=PathsL.get (i:=i) h2 (by simpa using h)
  exact⟨u,by simpa using h3,h4⟩
 | [],[],_,_,_,h=>by simp at h
end
end Go.Eng
namespace Go.Proofs.YtokieofohmgjdaaGreatDoor
open Go Go.Eng
variable (E:Env) (ro:Option Nat) (last:List Nat→RunF) (cl:List Nat) (a:FAct) (u:Option FrameMode) (σ:FState)
def Yk(_:Unit):List COp:=[⟨fun a σ=>fbox 24 (a.get 0) σ,some 2,fun _=>some true⟩,
 ⟨fun a σ=>.val (.slice none 0 0) σ,some 4,fun _=>some true⟩]
def Apj:List COp:=Yk ()
def Yl(_:Unit):List COp:=[⟨fun a σ=>fbuildSlice 3 0 1 [(.int .i64 0)] [] σ,some 7,fun _=>some true⟩,
 ⟨fun a σ=>.val (a.get 1) σ,some 8,fun _=>some true⟩,
 ⟨fun a σ=>fappend 3 1 8 (a.get 7) (a.get 8) σ,some 9,fun _=>some true⟩,
 ⟨fun a σ=>fbuildSlice 25 1 1 [(.slice none 0 0)] [(0,(a.get 9))] σ,some 10,fun _=>some true⟩,
 ⟨fun a σ=>.val (a.get 10) σ,some 5,fun _=>some true⟩]
def Apk:List COp:=Yl ()
def Ym(_:Unit):List COp:=[⟨fun a σ=>.val (.int .i64 0) σ,some 6,fun _=>some true⟩]
def Apl:List COp:=Ym ()
def S3(_:Unit):List COp:=[⟨fun a σ=>.val (a.get 6) σ,some 11,fun _=>some true⟩,
 ⟨fun a σ=>ffield 3 (a.get 2) σ,some 12,fun _=>some true⟩,
 ⟨fun a σ=>fload none (a.get 12) σ,some 13,fun _=>some true⟩,
 ⟨fun a σ=>flenL (a.get 13) σ,some 14,fun _=>some true⟩,
 ⟨fun a σ=>i_lss Tryz.prog 3 (.tmp 11) (.tmp 14) (a.get 11) (a.get 14) σ,some 15,fun _=>some true⟩]
def Apm:List COp:=S3 ()
def Yo(_:Unit):List DOp:=[⟨fun a σ=>fbuildSlice 3 0 1 [(.int .i64 0)] [] σ,some 24,fun _=>some true,some 0,false⟩,
 ⟨fun a σ=>.val (a.get 1) σ,some 25,fun _=>some true,some 0,false⟩,
 ⟨fun a σ=>fappend 3 1 8 (a.get 24) (a.get 25) σ,some 26,fun _=>some true,none,false⟩,
 ⟨fun a σ=>.val (a.get 6) σ,some 27,fun _=>some true,some 0,false⟩,
 ⟨fun a σ=>fbuildSlice 3 1 1 [(.int .i64 0)] [(0,(a.get 27))] σ,some 28,fun _=>some true,some 0,false⟩,
 ⟨fun a σ=>fappend 3 1 8 (a.get 26) (a.get 28) σ,some 29,fun _=>some true,none,false⟩,
 ⟨fun a σ=>ffield 3 (a.get 2) σ,some 19,fun _=>some true,some 0,false⟩,
 ⟨fun a σ=>fload none (a.get 19) σ,some 20,fun _=>some true,some 0,false⟩,
 ⟨fun a σ=>.val (a.get 6) σ,some 21,fun _=>some true,some 0,false⟩,
 ⟨fun a σ=>findex (none,4) (a.get 20) (a.get 21) σ,some 22,fun _=>some true,some 0,false⟩,
 ⟨fun a σ=>fload (some 4) (a.get 22) σ,some 23,fun _=>some true,some 0,false⟩,
 ⟨fun a σ=>.enter 22 [(a.get 23),(a.get 29)] σ,some 30,fun _=>some true,none,false⟩,
 ⟨fun a σ=>.val (a.get 5) σ,some 18,fun _=>some true,some 0,false⟩,
 ⟨fun a σ=>fappend 25 1 24 (a.get 18) (a.get 30) σ,some 31,fun _=>some true,none,true⟩,
 ⟨fun a σ=>.val (a.get 31) σ,some 5,fun _=>some true,some 4,false⟩]
def Apo:List DOp:=Yo ()
def Yn(_:Unit):List COp:=[⟨fun a σ=>.val (a.get 6) σ,some 16,fun _=>some true⟩,
 ⟨fun a σ=>i_add Tryz.prog 3 (.tmp 16) (.const (.int .i64 1)) (a.get 16) (.int .i64 1) σ,some 17,fun _=>some true⟩,
 ⟨fun a σ=>.val (a.get 17) σ,some 6,fun _=>some true⟩]
def Apn:List COp:=Yn ()
def Vt(E:Env)(ro:Option Nat)(fn:FuncId):RunF:=(seqR (seqR (fops E ro Apm) (condR (fun a=>(a.get 15)) skipR (exitR 0))) (seqR (blockR 1 (drawR E ro Apo)) (fops E ro Apn)))
def Yp(_:Unit):List COp:=[⟨fun a σ=>.val (a.get 5) σ,some 32,fun _=>some true⟩,
 ⟨fun a σ=>.val (a.get 32) σ,some 4,fun _=>some true⟩]
def App:List COp:=Yp ()
def Alu(E:Env)(ro:Option Nat)(fn:FuncId):RunF:=(seqR (fops E ro Apj) (seqR (fops E ro Apk) (seqR (seqR (fops E ro Apl) (blockR 0 (loopR (keepOf nls fn) (Vt E ro fn)))) (seqR (fops E ro App) retR))))
theorem AjT:fops E ro Apj a u σ=fops E ro (Yk ()) a u σ:=rfl
theorem AjU:fops E ro Apk a u σ=fops E ro (Yl ()) a u σ:=rfl
theorem AjV:fops E ro Apl a u σ=fops E ro (Ym ()) a u σ:=rfl
theorem VP:fops E ro Apm a u σ=fops E ro (S3 ()) a u σ:=rfl
theorem AjX:fdraw E ro last Apo cl a u σ=fdraw E ro last (Yo ()) cl a u σ:=rfl
theorem AjW:fops E ro Apn a u σ=fops E ro (Yn ()) a u σ:=rfl
theorem AjY:fops E ro App a u σ=fops E ro (Yp ()) a u σ:=rfl
theorem Ary(E:Env)(ro:Option Nat)(fn:FuncId):code Tryz.prog nls (Tryz.f22.body.getD .skip) E ro fn=Alu E ro fn:=by kernel_rfl
theorem Anb(E:Env)(args:List Value)(u:Option FrameMode)(σ:FState)(hn:args.length≤(7:Nat)):fcall Tryz.prog nls E 22 args u σ=leaveR Tryz.prog E [.tmp 4] (Alu E none 22 ⟨padTo undef 7 args,fun _=>undef,7,33,[]⟩ u σ):=by
 rw[Ao (body:=Tryz.f22.body.getD .skip) Tryz.func22 rfl E args u σ 7 33 (by kernel_rfl) rfl ⟨hn,by decide⟩,Ary]
 rfl
def Yx(_:Unit):List COp:=[⟨fun a σ=>fbox 24 (a.get 0) σ,some 2,fun _=>some true⟩,
 ⟨fun a σ=>newCells [(.int .i64 0),(.int .i64 0),(.string ⟨#[]⟩),(.slice none 0 0)] 24 none σ,some 4,fun _=>some true⟩,
 ⟨fun a σ=>.val (.bool false) σ,some 5,fun _=>some true⟩]
def ApE:List COp:=Yx ()
def Yy(_:Unit):List COp:=[⟨fun a σ=>.val (.int .i64 0) σ,some 6,fun _=>some true⟩]
def ApF:List COp:=Yy ()
def Te(_:Unit):List COp:=[⟨fun a σ=>.val (a.get 6) σ,some 7,fun _=>some true⟩,
 ⟨fun a σ=>.val (a.get 1) σ,some 8,fun _=>some true⟩,
 ⟨fun a σ=>flenL (a.get 8) σ,some 9,fun _=>some true⟩,
 ⟨fun a σ=>i_lss Tryz.prog 3 (.tmp 7) (.tmp 9) (a.get 7) (a.get 9) σ,some 10,fun _=>some true⟩]
def ApG:List COp:=Te ()
def YA(_:Unit):List DOp:=[⟨fun a σ=>.val (a.get 1) σ,some 13,fun _=>some true,some 0,false⟩,
 ⟨fun a σ=>.val (a.get 6) σ,some 14,fun _=>some true,some 0,false⟩,
 ⟨fun a σ=>findex (none,1) (a.get 13) (a.get 14) σ,some 15,fun _=>some true,some 0,false⟩,
 ⟨fun a σ=>fload none (a.get 15) σ,some 16,fun _=>some true,some 0,false⟩,
 ⟨fun a σ=>ffield 3 (a.get 2) σ,some 17,fun _=>some true,some 0,false⟩,
 ⟨fun a σ=>fload none (a.get 17) σ,some 18,fun _=>some true,some 0,false⟩,
 ⟨fun a σ=>flenL (a.get 18) σ,some 19,fun _=>some true,some 0,false⟩,
 ⟨fun a σ=>i_sub Tryz.prog 3 (.tmp 19) (.const (.int .i64 1)) (a.get 19) (.int .i64 1) σ,some 20,fun _=>some true,some 0,false⟩,
 ⟨fun a σ=>.enter 107 [(a.get 16),(.int .i64 0),(a.get 20)] σ,some 21,fun _=>some true,none,true⟩,
 ⟨fun a σ=>fun1 Tryz.prog (Op.unary .not) (a.get 21) σ,some 22,fun _=>some true,some 1,false⟩]
def ApI:List DOp:=YA ()
def AsC(_:Unit):List COp:=[⟨fun a σ=>fbuild (fun i=>nth [(0,1),(1,1),(2,1),(3,1)] i) [(.int .i64 0),(.int .i64 0),(.string ⟨#[]⟩),(.slice none 0 0)] [] σ,some 23,fun _=>some true⟩,
 ⟨fun a σ=>fstore 4 (a.get 4) (a.get 23) σ,none,fun _=>some true⟩,
 ⟨fun a σ=>.val (.bool false) σ,some 5,fun _=>some true⟩]
def As7:List COp:=AsC ()
def YB(_:Unit):List DOp:=[⟨fun a σ=>ffield 3 (a.get 2) σ,some 24,fun _=>some true,some 0,false⟩,
 ⟨fun a σ=>fload none (a.get 24) σ,some 25,fun _=>some true,some 0,false⟩,
 ⟨fun a σ=>.val (a.get 1) σ,some 26,fun _=>some true,some 0,false⟩,
 ⟨fun a σ=>.val (a.get 6) σ,some 27,fun _=>some true,some 0,false⟩,
 ⟨fun a σ=>findex (none,1) (a.get 26) (a.get 27) σ,some 28,fun _=>some true,some 0,false⟩,
 ⟨fun a σ=>fload none (a.get 28) σ,some 29,fun _=>some true,some 0,false⟩,
 ⟨fun a σ=>findex (none,4) (a.get 25) (a.get 29) σ,some 30,fun _=>some true,some 0,false⟩,
 ⟨fun a σ=>fload (some 4) (a.get 30) σ,some 31,fun _=>some true,some 0,false⟩,
 ⟨fun a σ=>fstore 4 (a.get 2) (a.get 31) σ,none,fun _=>some true,none,true⟩]
def ApJ:List DOp:=YB ()
def Yz(_:Unit):List COp:=[⟨fun a σ=>.val (a.get 6) σ,some 11,fun _=>some true⟩,
 ⟨fun a σ=>i_add Tryz.prog 3 (.tmp 11) (.const (.int .i64 1)) (a.get 11) (.int .i64 1) σ,some 12,fun _=>some true⟩,
 ⟨fun a σ=>.val (a.get 12) σ,some 6,fun _=>some true⟩]
def ApH:List COp:=Yz ()
def Aap(E:Env)(ro:Option Nat)(fn:FuncId):RunF:=(seqR (seqR (fops E ro ApG) (condR (fun a=>(a.get 10)) skipR (exitR 0))) (seqR (blockR 1 (seqR (seqR (drawR E ro ApI) (condR (fun a=>(a.get 22)) (seqR (fops E ro As7) retR) skipR)) (drawR E ro ApJ))) (fops E ro ApH)))
def YC(_:Unit):List COp:=[⟨fun a σ=>fload (some 4) (a.get 2) σ,some 32,fun _=>some true⟩,
 ⟨fun a σ=>fstore 4 (a.get 4) (a.get 32) σ,none,fun _=>some true⟩,
 ⟨fun a σ=>.val (.bool true) σ,some 5,fun _=>some true⟩]
def ApK:List COp:=YC ()
def Alx(E:Env)(ro:Option Nat)(fn:FuncId):RunF:=(seqR (fops E ro ApE) (seqR (seqR (fops E ro ApF) (blockR 0 (loopR (keepOf nls fn) (Aap E ro fn)))) (seqR (fops E ro ApK) retR)))
theorem Akc:fops E ro ApE a u σ=fops E ro (Yx ()) a u σ:=rfl
theorem Akd:fops E ro ApF a u σ=fops E ro (Yy ()) a u σ:=rfl
theorem VX:fops E ro ApG a u σ=fops E ro (Te ()) a u σ:=rfl
theorem Akf:fdraw E ro last ApI cl a u σ=fdraw E ro last (YA ()) cl a u σ:=rfl
theorem Akg:fdraw E ro last ApJ cl a u σ=fdraw E ro last (YB ()) cl a u σ:=rfl
theorem Ake:fops E ro ApH a u σ=fops E ro (Yz ()) a u σ:=rfl
theorem Akh:fops E ro ApK a u σ=fops E ro (YC ()) a u σ:=rfl
theorem ArB(E:Env)(ro:Option Nat)(fn:FuncId):code Tryz.prog nls (Tryz.f41.body.getD .skip) E ro fn=Alx E ro fn:=by kernel_rfl
theorem Anf(E:Env)(args:List Value)(u:Option FrameMode)(σ:FState)(hn:args.length≤(7:Nat)):fcall Tryz.prog nls E 41 args u σ=leaveR Tryz.prog E [.cell 4 24,.tmp 5] (Alx E none 41 ⟨padTo undef 7 args,fun _=>undef,7,33,[]⟩ u σ):=by
 rw[Ao (body:=Tryz.f41.body.getD .skip) Tryz.func41 rfl E args u σ 7 33 (by kernel_rfl) rfl ⟨hn,by decide⟩,ArB]
 rfl
def Lx(_:Unit):List COp:=[⟨fun a σ=>.val (.bool false) σ,some 6,fun _=>some true⟩]
def Afv:List COp:=Lx ()
def Ly(_:Unit):List COp:=[⟨fun a σ=>.val (a.get 1) σ,some 7,fun _=>some true⟩,
 ⟨fun a σ=>.val (a.get 0) σ,some 8,fun _=>some true⟩,
 ⟨fun a σ=>i_leq Tryz.prog 3 (.tmp 7) (.tmp 8) (a.get 7) (a.get 8) σ,some 9,fun _=>some true⟩,
 ⟨fun a σ=>.val (a.get 9) σ,some 10,fun _=>some true⟩,
 ⟨fun a σ=>.val (a.get 0) σ,some 11,fun a=>gd (a.get 10) true⟩,
 ⟨fun a σ=>.val (a.get 2) σ,some 12,fun a=>gd (a.get 10) true⟩,
 ⟨fun a σ=>i_leq Tryz.prog 3 (.tmp 11) (.tmp 12) (a.get 11) (a.get 12) σ,some 13,fun a=>gd (a.get 10) true⟩,
 ⟨fun a σ=>fpick (a.get 10) (a.get 13) (.bool false) σ,some 14,fun _=>some true⟩,
 ⟨fun a σ=>.val (a.get 14) σ,some 6,fun _=>some true⟩]
def Afw:List COp:=Ly ()
def Zv(E:Env)(ro:Option Nat)(fn:FuncId):RunF:=(seqR (fops E ro Afv) (seqR (fops E ro Afw) retR))
theorem Px:fops E ro Afv a u σ=fops E ro (Lx ()) a u σ:=rfl
theorem Py:fops E ro Afw a u σ=fops E ro (Ly ()) a u σ:=rfl
theorem Amm(E:Env)(ro:Option Nat)(fn:FuncId):code Tryz.prog nls (Tryz.f107.body.getD .skip) E ro fn=Zv E ro fn:=by kernel_rfl
theorem AeB(E:Env)(args:List Value)(u:Option FrameMode)(σ:FState)(hn:args.length≤(6:Nat)):fcall Tryz.prog nls E 107 args u σ=leaveR Tryz.prog E [.tmp 6] (Zv E none 107 ⟨padTo undef 6 args,fun _=>undef,6,15,[]⟩ u σ):=by
 rw[Ao (body:=Tryz.f107.body.getD .skip) Tryz.func107 rfl E args u σ 6 15 (by kernel_rfl) rfl ⟨hn,by decide⟩,Amm]
 rfl
end Go.Proofs.YtokieofohmgjdaaGreatDoor
namespace Go.Proofs.YtokieofohmgjdaaGreatDoor
open Go Go.Eng
attribute [local congr] Ab Ah Af Ad Ae
attribute [-go_sem] List.range_succ
abbrev TP:TypeId:=25
theorem AbQ:keepOf nls 22=[32]:=by kernel_rfl
structure HeadPa (bd bo base:Nat) (R:Nat→Prop) (k z:Int) (t:ByteArray) (q:Option Addr) (c:Nat) (ds:List D) (at':List Nat) (atv:Value) (us:List Value) (ps:List (List Nat)) (σ0:FState) (i:Nat) (f:Nat→Value) (σ:FState):Prop where
 f1:f 1=atv
 f2:f 2=.pointer (some ⟨bd,0,none⟩)
 f5:Ful TP σ bo (f 5) us
 f6:f 6=.int .i64 (.ofNat i)
 cd:σ.cells bd=some [.int .i64 k,.int .i64 z,.string t,.slice q ds.length c]
 lay:LaidRE R σ q 0 ds
 low:∀b,R b→b<base
 atp:PathV (· < base) σ atv at'
 hbd:base≤bd∧bd≠bo
 hbo:base≤bo
 lst:PathsL (fun b=>base≤b∧b≠bo) σ us ps
 wf:Wf σ
 ext:Ext σ0 σ
 le:i≤ds.length
 few:ds.length<10000
def PathsAt(m:Nat)(d:D):Prop:=∀(at':List Nat) (v atv:Value) (R Q:Nat→Prop) (σ:FState),Wf σ→LaidR R σ v d→PathV Q σ atv at'→at'.length+d.deep<1000→(d.pieces at').length<10000→
 Gives ((env m).call 22 [v,atv] none σ) σ fun w σ'=>∃b us,σ.next≤b∧Ful TP σ' b w us∧PathsL (fun b=>σ.next≤b) σ' us ((d.pieces at').map (·.1))
theorem Eo:∀ {ds:List D} {d:D},d∈ds→d.deep≤D.deeps ds
 | x::ds,d,h=>by
  rw[D.deeps]
  rcases List.mem_cons.1 h with rfl|h
  ·omega
  ·have:=Eo h;omega
theorem Hz:∀(ds:List D) (at':List Nat) (i:Nat),ds.length≤(D.piecesL at' i ds).length
 | [],_,_=>Nat.zero_le _
 | d::ds,at',i=>by
  rw[D.piecesL,List.length_append,D.pieces_eq,List.length_cons,List.length_cons]
  have:=Hz ds at' (i+1)
  omega
end Go.Proofs.YtokieofohmgjdaaGreatDoor
namespace Go.Proofs.YtokieofohmgjdaaGreatDoor
open Go Go.Eng
attribute [local congr] Ab Ah Af Ad Ae
attribute [-go_sem] List.range_succ
theorem Oy(n:Nat)(g:Value)(lv:List Value)(σ:FState)(hw:Wf σ)(hg:notTuple g=true):
  ∃σ',(env (n+1)).call 121 [.agg #[g],.agg lv.toArray] none σ=.ret (.func (.func 149) #[] #[.pointer (some ⟨σ.next+1,0,none⟩),.pointer (some ⟨σ.next,0,none⟩)]) none σ'∧Ext σ σ'∧Wf σ'∧σ'.next=σ.next+2∧σ'.cells σ.next=some [g]∧σ'.cells (σ.next+1)=some lv:=by
 rw[Ak _ 121 _ _ rfl,AeI _ _ _ _ (by simp),Aj]
 unfold ZC
 simp -implicitDefEqProofs only[go_sem,AcI,RR,AcJ,RS]
 exact⟨_,rfl,((Ext.refl _).push _ _).push _ _,(hw.push _ _).push _ _,rfl,by rw[Ac,if_neg (by rw[Aa];omega),Ac,if_pos rfl];rfl,by rw[Ac,if_pos (by rw[Aa])];rfl⟩
theorem Ad9(n:Nat)(s:Value)(σ:FState):(env (n+1)).call 153 [s] none σ=.ret (.bool true) none σ:=by
 rw[Ak _ 153 _ _ rfl,AeR _ _ _ _ (by simp),Aj]
 unfold ZL
 simp -implicitDefEqProofs only[go_sem,Ac4,Sf,Ac5,Sg]
theorem Al4(n:Nat)(lv:List Value)(h4:lv.length=4)(σ:FState)(hw:Wf σ):
  ∃σ' b1 b2,(env (n+2)).call 123 [.agg lv.toArray] none σ=.ret (.func (.func 149) #[] #[.pointer (some ⟨b1,0,none⟩),.pointer (some ⟨b2,0,none⟩)]) none σ'∧Ext σ σ'∧Wf σ'∧σ.next≤b1∧σ.next≤b2∧σ'.cells b2=some [.func (.func 153) #[] #[]]∧σ'.cells b1=some lv:=by
 have hw1:=hw.push (.cells lv TD) none
 obtain⟨σ2,e2,x2,hw2,_,c1,c2⟩:=Oy n (.func (.func 153) #[] #[]) lv (σ.push (.cells lv TD) none) hw1 (D1 _ _ _)
 rw[Ak _ 123 _ _ rfl,AeJ _ _ _ _ (by simp),Aj]
 unfold ZD
 have ht:lv.take 4=lv:=List.take_of_length_le (by omega)
 simp -implicitDefEqProofs only[go_sem,AcK,RT,AcL,RU,D1,Es,h4,ht,e2,Nat.le_refl]
 exact⟨_,_,_,rfl,((Ext.refl _).push _ _).trans x2,hw2,by omega,by omega,c1,c2⟩
theorem NY(m:Nat)(fn:FuncId)(params:List Tmp)(assign body:Code)(nl nt:Nat)(f g:Nat→Value)(ds:List Deferred)(u:Option FrameMode)(t b1 b2:Nat)(σ:FState)(w:Value)(R:Nat→Prop)(d:D)(lv:List Value)(I:List (List Nat×D)→(Nat→Prop)→FState→Prop)(B:Nat→Prop)(hB:Body (env m) (σ.next+1) R w I (d.pieces []))(hS:Small (d.pieces []))(hN:(d.pieces []).length<100000000000)(hl:∀done B σ',I done B σ'→LoopAt fn params assign body nl nt f g (σ.next+1) σ.next .ready σ'∧∃ver,σ'.heap.get σ.next=some ⟨.defd true,false,none,ver⟩)(hi:I [] B ((σ.push (.defd true) none).push (.loop .ready none fn ((List.range nl).map f) g nl nt params assign body σ.next) none))(ht:(Sl nl nt f g ds).get t=.func (.func 149) #[] #[.pointer (some ⟨b1,0,none⟩),.pointer (some ⟨b2,0,none⟩)])(hw:Wf σ)(hcv:σ.cells b1=some lv)(hb1:¬ B b1)(hL:LaidR R σ (.agg lv.toArray) d)(hR:∀b,R b→b<σ.next)(hcw:σ.cells b2=some [w])(hb2:¬ B b2):
  ∃σ' B',frange (env (m+1)) none fn (.tmp t) params assign body (Sl nl nt f g ds) u σ=
    .done .normal (Sl nl nt f g ({ target:=.collected σ.next,args:=#[] }::ds)) u (σ'.put (σ.next+1) (.loop .exhausted none fn ((List.range nl).map f) g nl nt params assign body σ.next) none)∧
   Chg B σ σ'∧σ.next+2≤σ'.next∧(∀b,B' b→B b∨σ.next≤b)∧Wf σ'∧I (d.pieces []) B' σ':=by
 rw[Pn _ _ _ _ _ _ _ _ _ _ _ _ t _ _ _ ht]
 have x1:Ext σ ((σ.push (.defd true) none).push (.loop .ready none fn ((List.range nl).map f) g nl nt params assign body σ.next) none):=((Ext.refl _).push _ _).push _ _
 have hw1:=(hw.push (.defd true) none).push (.loop .ready none fn ((List.range nl).map f) g nl nt params assign body σ.next) none
 have hn1:((σ.push (.defd true) none).push (.loop .ready none fn ((List.range nl).map f) g nl nt params assign body σ.next) none).next=σ.next+2:=rfl
 generalize FState.push _ (.loop .ready none fn ((List.range nl).map f) g nl nt params assign body σ.next) none=σ1 at hi x1 hw1 hn1 ⊢
 have hb1n:=hw.cells hcv
 have hb2n:=hw.cells hcw
 obtain⟨σ2,B2,e2,ch2,hB2,hw2,i2⟩:=AsX d hB hS hN b1 b2 σ1 _ lv B hw1 hi ((x1.cells hb1n).trans hcv) rfl hb1 (hL.keep fun b cs hb hc=>⟨(x1.cells (hw.cells hc)).trans hc,hb⟩) (fun b hb=>by have:=hR b hb;omega) ((x1.cells hb2n).trans hcw) hb2
 have hargs:(#[]:Array Value).toList++[Value.func (.yield (σ.next+1)) #[] #[]]++(#[.pointer (some ⟨b1,0,none⟩),.pointer (some ⟨b2,0,none⟩)]:Array Value).toList=[.func (.yield (σ.next+1)) #[] #[],.pointer (some ⟨b1,0,none⟩),.pointer (some ⟨b2,0,none⟩)]:=rfl
 rw[hargs,e2,Q4 _ _ _ _ _ _ _ _ _ _ _ _ _ _ _ _ (hl _ _ _ i2).1]
 have n2:=ch2.next
 refine⟨σ2,B2,rfl,⟨by omega,Nat.le_trans x1.clock ch2.clock,fun b hb h0=>(ch2.get b (by omega) h0).trans (x1.get b hb)⟩,by omega,fun b hb=>?_,hw2,i2⟩
 rcases hB2 b hb with h|h
 ·exact .inl h
 ·exact .inr (by omega)
def longest(l:List (List Nat×D)):Nat:=l.foldl (fun m x=>max m (x.1.length+1)) 0
def DeepI(l r cm:Nat)(f g:Nat→Value)(done:List (List Nat×D))(B:Nat→Prop)(σ:FState):Prop:=
 (∀b,B b↔b=l∨b=r∨b=cm)∧l<σ.next∧r<σ.next∧cm<σ.next∧LoopAt 72 [7,8] Aro Arp 5 15 f g l r .ready σ∧(∃ver,σ.heap.get r=some ⟨.defd true,false,none,ver⟩)∧
  ∃ver,σ.heap.get cm=some ⟨.cells [.int .i64 (.ofNat (longest done))] TI,false,none,ver⟩
end Go.Proofs.YtokieofohmgjdaaGreatDoor
namespace Go.Proofs.YtokieofohmgjdaaGreatDoor
open Go Go.Eng
attribute [local congr] Ab Ah Af Ad Ae
attribute [-go_sem] List.range_succ
def AllGood(m:Nat)(all:List (List Nat×D)):Prop:=∀path k z t ds,(path,D.mk k z t ds)∈all→∃k':Nat,k=(k':Int)∧Good m k' z t ds.length
def ValidI(l r cb mp:Nat)(f g:Nat→Value)(done:List (List Nat×D))(B:Nat→Prop)(σ:FState):Prop:=
 (∀b,B b↔b=l∨b=r∨b=cb)∧l<σ.next∧r<σ.next∧cb<σ.next∧LoopAt 71 [12,13] Dx Dy 6 25 f g l r .ready σ∧(∃ver,σ.heap.get r=some ⟨.defd true,false,none,ver⟩)∧
  (∃ver,σ.heap.get cb=some ⟨.cells [.int .i64 (.ofNat done.length),.map (some mp)] 136,false,none,ver⟩)∧done.length≤2000
theorem Z5(m l r cb mp:Nat)(R:Nat→Prop)(f g:Nat→Value)(all:List (List Nat×D))(hne:cb<r∧r<l)(h3:f 3=.pointer (some ⟨cb,0,none⟩))(hR:∀b,R b→b<cb)(hG:AllGood m all)(hN:all.length≤2000):
  Body (env (m+3)) l R (.func (.func 120) #[.pointer (some ⟨cb,0,none⟩)] #[]) (ValidI l r cb mp f g) all where
 stays:=fun done B σ σ' ⟨h1,h2,h3,h4,h5,⟨v6,h6⟩,⟨v7,h7⟩,h8⟩ hw hC=>by
  have k:∀b,B b→b<σ.next→σ'.heap.get b=σ.heap.get b:=fun b hb hn=>hC.get b hn fun h=>h.1 hb
  have hn:=hC.next
  exact⟨h1,by omega,by omega,by omega,h5.keep (k l ((h1 l).2 (.inl rfl)) h2),⟨v6,(k r ((h1 r).2 (.inr (.inl rfl))) h3).trans h6⟩,⟨v7,(k cb ((h1 cb).2 (.inr (.inr rfl))) h4).trans h7⟩,h8⟩
 own:=fun done B σ ⟨h1,h2,h3,h4,_⟩ b hb=>by
  rcases (h1 b).1 hb with rfl|rfl|rfl
  ·exact⟨h2,fun h=>by have:=hR _ h;omega⟩
  ·exact⟨h3,fun h=>by have:=hR _ h;omega⟩
  ·exact⟨h4,fun h=>by have:=hR _ h;omega⟩
 inside:=fun done B σ k z t p ln c ⟨h1,h2,h3,h4,h5,h6,⟨v7,h7⟩,h8⟩ hw=>by
  refine Kr (m+2) _ 120 #[.pointer (some ⟨cb,0,none⟩)] rfl k z t (.slice p ln c) (Au _ _ _) σ hw fun σ' hx hw'=>?_
  have hc:=AB ((hx.get cb h4).trans h7)
  exact⟨_,σ',UT (m+1) cb (Int.ofNat done.length) (by rw[Int.ofNat_eq_natCast];omega) p ln c σ' _ hc,Ext.refl _,hw',rfl⟩
 go:=fun done path d rest B σ pv v hall hw ⟨h1,h2,h4,h5,h6,⟨v6,h7⟩,⟨v7,h8⟩,h9⟩ _ hL=>by
  have hlen:done.length+1≤2000:=by have:=congrArg List.length hall;simp at this;omega
  obtain⟨k,z,t,ps⟩:=d
  obtain⟨k',rfl,hGd⟩:=hG path k z t ps (by rw[hall];simp)
  obtain⟨p,c,rfl,hq⟩:=hL
  rw[Kc _ _ _ _ _ _ _ _ _ (m+2) l r _ h6 rfl,Kj]
  simp -implicitDefEqProofs only[go_sem,Aw,NP,NN,List.zip_cons_cons,List.zip_nil_right,FT,GU]
  have x1:Ext σ ((σ.push (.cells [.int .i64 0,.int .i64 0,.string ⟨#[]⟩,.slice none 0 0] TD) none).put σ.next (.cells [.int .i64 (k':Int),.int .i64 z,.string t,.slice p ps.length c] TD) none):=((Ext.refl _).push _ _).put _ _ _ (Nat.le_refl _)
  have hw1:=(hw.push (.cells [.int .i64 0,.int .i64 0,.string ⟨#[]⟩,.slice none 0 0] TD) none).put σ.next (.cells [.int .i64 (k':Int),.int .i64 z,.string t,.slice p ps.length c] TD) none (Nat.lt_succ_self _)
  have b1:((σ.push (.cells [.int .i64 0,.int .i64 0,.string ⟨#[]⟩,.slice none 0 0] TD) none).put σ.next (.cells [.int .i64 (k':Int),.int .i64 z,.string t,.slice p ps.length c] TD) none).cells σ.next=some [.int .i64 (k':Int),.int .i64 z,.string t,.slice p ps.length c]:=by rw[Al,if_pos rfl];rfl
  have n1:((σ.push (.cells [.int .i64 0,.int .i64 0,.string ⟨#[]⟩,.slice none 0 0] TD) none).put σ.next (.cells [.int .i64 (k':Int),.int .i64 z,.string t,.slice p ps.length c] TD) none).next=σ.next+1:=rfl
  generalize FState.put _ _ _ _=σ1 at x1 hw1 b1 n1 ⊢
  have l1:=h6.keep (x1.get l h2)
  rw[E2 _ _ _ _ _ _ _ _ _ l r _ l1,Kk]
  have hw2:=hw1.put l (.loop .busy none 71 ((List.range 6).map f) g 6 25 [12,13] Dx Dy r) none (by omega)
  have l2:LoopAt 71 [12,13] Dx Dy 6 25 f g l r .busy (σ1.put l (.loop .busy none 71 ((List.range 6).map f) g 6 25 [12,13] Dx Dy r) none):=LoopAt.put _ _ _ _ _ _ _ _ _ _ _ _
  have b2:(σ1.put l (.loop .busy none 71 ((List.range 6).map f) g 6 25 [12,13] Dx Dy r) none).cells σ.next=some [.int .i64 (k':Int),.int .i64 z,.string t,.slice p ps.length c]:=by rw[Al,if_neg (by omega)];exact b1
  have g2:(σ1.put l (.loop .busy none 71 ((List.range 6).map f) g 6 25 [12,13] Dx Dy r) none).heap.get cb=some ⟨.cells [.int .i64 (.ofNat done.length),.map (some mp)] 136,false,none,v7⟩:=by rw[Am,if_neg (by omega)];exact(x1.get cb h5).trans h8
  have r2:(σ1.put l (.loop .busy none 71 ((List.range 6).map f) g 6 25 [12,13] Dx Dy r) none).heap.get r=some ⟨.defd true,false,none,v6⟩:=by rw[Am,if_neg (by omega)];exact(x1.get r h4).trans h7
  have hC2:Chg B σ (σ1.put l (.loop .busy none 71 ((List.range 6).map f) g 6 25 [12,13] Dx Dy r) none):=(x1.chg B).put _ _ _ (.inr ((h1 l).2 (.inl rfl)))
  have n2:(σ1.put l (.loop .busy none 71 ((List.range 6).map f) g 6 25 [12,13] Dx Dy r) none).next=σ.next+1:=n1
  generalize FState.put _ l _ _=σ2 at hw2 l2 b2 g2 r2 hC2 n2 ⊢
  obtain⟨_,σ3,e3,x3,hw3,rfl⟩:=M0 m k' z t p ps.length c hGd σ2 hw2
  have n3:=x3.next
  have g3:σ3.heap.get cb=some ⟨.cells [.int .i64 (.ofNat done.length),.map (some mp)] 136,false,none,v7⟩:=(x3.get cb (by omega)).trans g2
  have c3:=AB g3
  have w1:=GH done.length (by omega)
  simp -implicitDefEqProofs only[go_sem,NR,NQ,We,Tv,h3,b2,e3,c3,g3,w1,Nat.le_refl]
  have l3:=(l2.keep (x3.get l (by omega)))
  have l4:∀o:FObj,LoopAt 71 [12,13] Dx Dy 6 25 f g l r .busy (σ3.put cb o none):=fun o=>l3.keep (by rw[Am,if_neg (by omega)])
  rw[FO _ _ _ _ _ _ _ _ _ _ l r _ _ (l4 _)]
  refine⟨B,_,rfl,(hw3.put _ _ _ (by omega)).put _ _ _ (by rw[Ap];omega),((hC2.trans (x3.chg B) (fun b _ h=>h)).put _ _ _ (.inr ((h1 cb).2 (.inr (.inr rfl))))).put _ _ _ (.inr ((h1 l).2 (.inl rfl))),fun b hb=>.inl hb,h1,?_,?_,?_,LoopAt.put _ _ _ _ _ _ _ _ _ _ _ _,⟨v6,?_⟩,⟨σ3.clock,?_⟩,by simp;omega⟩
  ·rw[Ap,Ap];omega
  ·rw[Ap,Ap];omega
  ·rw[Ap,Ap];omega
  ·rw[Am,if_neg (by omega),Am,if_neg (by omega),x3.get r (by omega)];exact r2
  ·rw[Am,if_neg (by omega),Am,if_pos rfl,List.length_append,List.length_singleton]
theorem WO(m:Nat)(d:D)(lv:List Value)(h4:lv.length=4)(R:Nat→Prop)(σ:FState)(hw:Wf σ)(hL:LaidR R σ (.agg lv.toArray) d)(hR:∀b,R b→b<σ.next)(hS:Small (d.pieces []))(hN:(d.pieces []).length≤2000)(hG:AllGood m (d.pieces [])):
  Gives ((env (m+5)).call 71 [.agg lv.toArray] none σ) σ fun w _=>w=.int .i64 (.ofNat (d.pieces []).length):=by
 rw[Ak _ 71 _ _ rfl,Aae _ _ _ _ (by simp),Aj]
 unfold Aa7
 have ht:lv.take 4=lv:=List.take_of_length_le (by omega)
 simp -implicitDefEqProofs only[go_sem,Aw,V_,Tq,Wc,Tt,JJ,Ke,Lb]
 generalize hff:upd _ 3 _=f1
 generalize hg0:upd _ 7 _=g0
 have q1:f1 1=.pointer (some ⟨σ.next,0,none⟩):=by rw[←hff];simp -implicitDefEqProofs only[go_sem,reduceCtorEq]
 have q3:f1 3=.pointer (some ⟨σ.next+2,0,none⟩):=by rw[←hff];simp -implicitDefEqProofs only[go_sem,reduceCtorEq]
 clear hff hg0
 have x1:Ext σ ((((σ.push (.cells lv TD) none).push (.map [] 0) none).push (.cells [.int .i64 0,.map none] 136) none).put (σ.next+2) (.cells [.int .i64 0,.map (some (σ.next+1))] 136) none):=((((Ext.refl _).push _ _).push _ _).push _ _).put _ _ _ (by omega)
 have hw1:=(((hw.push (.cells lv TD) none).push (.map [] 0) none).push (.cells [.int .i64 0,.map none] 136) none).put (σ.next+2) (.cells [.int .i64 0,.map (some (σ.next+1))] 136) none (Nat.lt_succ_self _)
 have g1:((((σ.push (.cells lv TD) none).push (.map [] 0) none).push (.cells [.int .i64 0,.map none] 136) none).put (σ.next+2) (.cells [.int .i64 0,.map (some (σ.next+1))] 136) none).heap.get (σ.next+2)=some ⟨.cells [.int .i64 0,.map (some (σ.next+1))] 136,false,none,σ.clock+3⟩:=by rw[Am,if_pos rfl];rfl
 have c1:((((σ.push (.cells lv TD) none).push (.map [] 0) none).push (.cells [.int .i64 0,.map none] 136) none).put (σ.next+2) (.cells [.int .i64 0,.map (some (σ.next+1))] 136) none).cells σ.next=some lv:=by
  rw[Al,if_neg (by omega),Ac,if_neg (by simp only[Aa];omega),Ac,if_neg (by simp only[Aa];omega),Ac,if_pos rfl];rfl
 have n1:((((σ.push (.cells lv TD) none).push (.map [] 0) none).push (.cells [.int .i64 0,.map none] 136) none).put (σ.next+2) (.cells [.int .i64 0,.map (some (σ.next+1))] 136) none).next=σ.next+3:=rfl
 generalize FState.put _ _ _ _=σ1 at x1 hw1 g1 c1 n1 ⊢
 obtain⟨σ2,e2,x2,hw2,n2,cb2,cb1⟩:=Oy (m+3) (.func (.func 120) #[.pointer (some ⟨σ.next+2,0,none⟩)] #[]) lv σ1 hw1 (D1 _ _ _)
 simp -implicitDefEqProofs only[go_sem,Wd,Tu,q1,q3,c1,h4,ht,e2,Nat.le_refl,D1,Es]
 generalize hgg:upd _ 11 _=gg
 have hL2:LaidR R σ2 (.agg lv.toArray) d:=hL.keep fun b cs hb hc=>⟨((x1.trans x2).cells (hw.cells hc)).trans hc,hb⟩
 have hcm2:σ2.heap.get (σ.next+2)=some ⟨.cells [.int .i64 0,.map (some (σ.next+1))] 136,false,none,σ.clock+3⟩:=(x2.get _ (by omega)).trans g1
 obtain⟨σ3,B3,e3,ch3,n3,hB3,hw3,i3⟩:=NY (m+3) 71 [12,13] Dx Dy 6 25 f1 gg [] none 11 (σ1.next+1) σ1.next σ2 (.func (.func 120) #[.pointer (some ⟨σ.next+2,0,none⟩)] #[]) R d lv (ValidI (σ2.next+1) σ2.next (σ.next+2) (σ.next+1) f1 gg) (fun b=>b=σ2.next+1∨b=σ2.next∨b=σ.next+2)
  (Z5 m (σ2.next+1) σ2.next (σ.next+2) (σ.next+1) R f1 gg _ ⟨by omega,by omega⟩ q3 (fun b hb=>by have:=hR b hb;omega) hG hN) hS (by omega)
  (fun done B σ' ⟨_,_,_,_,h5,h6,_⟩=>⟨h5,h6⟩)
  ⟨fun b=>Iff.rfl,by rw[Aa,Aa];omega,by rw[Aa,Aa];omega,by rw[Aa,Aa];omega,Kv ..,⟨_,by rw[Ai,if_neg (by rw[Aa];omega),Ai,if_pos rfl]⟩,⟨_,by rw[Ai,if_neg (by rw[Aa];omega),Ai,if_neg (by omega)];exact hcm2⟩,by simp⟩
  (by rw[Qu,←hgg];simp -implicitDefEqProofs only[go_sem,reduceCtorEq]) hw2 cb1 (fun h=>by rcases h with h|h|h<;>omega) hL2 (fun b hb=>by have:=hR b hb;omega) cb2 (fun h=>by rcases h with h|h|h<;>omega)
 rw[e3]
 obtain⟨h1,h2,h4',h5,h6,⟨v6,h7⟩,⟨v7,h8⟩,h9⟩:=i3
 have hcm:=AB h8
 have hputc:∀(o:FObj),(σ3.put (σ2.next+1) o none).cells (σ.next+2)=some [.int .i64 (.ofNat (d.pieces []).length),.map (some (σ.next+1))]:=fun o=>by rw[Al,if_neg (by omega)];exact hcm
 have hcol:∀(o:FObj),(σ3.put (σ2.next+1) o none).heap.get σ2.next=some ⟨.defd true,false,none,v6⟩:=fun o=>by rw[Am,if_neg (by omega)];exact h7
 have hlim:=fun τ=>Vy (m+3) (.ofNat (d.pieces []).length) (by rw[Int.ofNat_eq_natCast];omega) τ
 simp -implicitDefEqProofs only[go_sem,AkI,Y3,AkJ,Y4,q3,hputc,hlim]
 rw[Gf _ _ _ _ _ _ _ _ _ _ (hcol _)]
 simp -implicitDefEqProofs only[go_sem]
 have x3:Ext σ σ3:=⟨by omega,by have:=x1.clock;have:=x2.clock;have:=ch3.clock;omega,fun b hb=>(ch3.get b (by omega) (fun h=>by rcases h with h|h|h<;>omega)).trans ((x1.trans x2).get b hb)⟩
 exact⟨_,_,rfl,(x3.put _ _ _ (by omega)).put _ _ _ (by omega),(hw3.put _ _ _ (by omega)).put _ _ _ (by rw[Ap];omega),rfl⟩
end Go.Proofs.YtokieofohmgjdaaGreatDoor
namespace Go.Eng
mutual
def D.count:D→Nat
 | .mk _ _ _ ds=>D.counts ds+1
def D.counts:List D→Nat
 | []=>0
 | d::ds=>D.count d+D.counts ds
end
end Go.Eng
namespace Go.Proofs.YtokieofohmgjdaaGreatDoor
open Go Go.Eng
mutual
theorem DV:∀(d:D) (path:List Nat),(d.pieces path).length=d.count
 | .mk k z t ds,path=>by rw[D.pieces,List.length_cons,FM ds path 0,D.count]
theorem FM:∀(ds:List D) (path:List Nat) (i:Nat),(D.piecesL path i ds).length=D.counts ds
 | [],path,i=>rfl
 | d::ds,path,i=>by rw[D.piecesL,List.length_append,DV d (path++[i]),FM ds path (i+1),D.counts]
end
theorem AbL(f:List Nat×D→Nat)(l:List (List Nat×D)):∀m,l.foldl (fun m x=>max m (f x)) m=max m (l.foldl (fun m x=>max m (f x)) 0):=by
 induction l with
 | nil=>intro m;simp
 | cons x l ih=>intro m;simp only[List.foldl_cons];rw[ih (max m (f x)),ih (max 0 (f x))];omega
theorem FK(a b:List (List Nat×D)):longest (a++b)=max (longest a) (longest b):=by
 unfold longest
 rw[List.foldl_append,AbL (fun x=>x.1.length+1)]
theorem GQ(x:List Nat×D)(l:List (List Nat×D)):longest (x::l)=max (x.1.length+1) (longest l):=by
 have:=FK [x] l
 rw[List.singleton_append] at this
 rw[this]
 simp[longest]
mutual
theorem FL:∀(d:D) (path:List Nat),longest (d.pieces path)=path.length+d.deep
 | .mk k z t ds,path=>by
  rw[D.pieces,GQ,D.deep]
  have:=Hj ds path 0
  simp only
  omega
theorem Hj:∀(ds:List D) (path:List Nat) (i:Nat),max (path.length+1) (longest (D.piecesL path i ds))=path.length+1+D.deeps ds
 | [],path,i=>by simp[D.piecesL,longest,D.deeps]
 | d::ds,path,i=>by
  rw[D.piecesL,FK,D.deeps]
  have h1:=FL d (path++[i])
  have h2:=Hj ds path (i+1)
  rw[List.length_append,List.length_singleton] at h1
  have h3:1≤d.deep:=by cases d;rw[D.deep];omega
  omega
end
def GoodD(m:Nat)(d:D):Prop:=∀k z t ds,d=D.mk k z t ds→∃k':Nat,k=(k':Int)∧Good m k' z t ds.length
def most:Nat→Nat
 | 0=>1
 | L+1=>3*most L+1
theorem Afk(L:Nat):1≤most L:=by cases L<;>simp[most]
def Fine(m L:Nat)(d:D):Prop:=∀path,(d.pieces path).length≤most L∧∀x∈d.pieces path,x.1.length≤path.length+L∧x.2.parts.length≤3∧GoodD m x.2
theorem AoZ{m L:Nat}(path:List Nat):∀(ds:List D) (i:Nat),(∀d∈ds,Fine m L d)→(D.piecesL path i ds).length≤ds.length*most L∧∀x∈D.piecesL path i ds,x.1.length≤path.length+(L+1)∧x.2.parts.length≤3∧GoodD m x.2
 | [],i,_=>⟨by simp[D.piecesL],fun x hx=>by simp[D.piecesL] at hx⟩
 | d::ds,i,h=>by
  obtain⟨h1,h2⟩:=h d List.mem_cons_self (path++[i])
  obtain⟨h3,h4⟩:=AoZ path ds (i+1) fun d' hd=>h d' (List.mem_cons_of_mem _ hd)
  refine⟨?_,fun x hx=>?_⟩
  ·rw[D.piecesL,List.length_append,List.length_cons,Nat.add_mul]
   omega
  ·rw[D.piecesL,List.mem_append] at hx
   rcases hx with hx|hx
   ·have:=h2 x hx
    rw[List.length_append,List.length_singleton] at this
    exact⟨by omega,this.2⟩
   ·exact h4 x hx
theorem Aaj{m L:Nat}{k z:Int}{t:ByteArray}{ds:List D}(hl:ds.length≤3)(hg:GoodD m (.mk k z t ds))(h:∀d∈ds,Fine m L d):Fine m (L+1) (.mk k z t ds):=fun path=>by
 obtain⟨h1,h2⟩:=AoZ path ds 0 h
 rw[D.pieces]
 refine⟨?_,fun x hx=>?_⟩
 ·rw[List.length_cons,most]
  have:=Nat.mul_le_mul_right (most L) hl
  omega
 ·rcases List.mem_cons.1 hx with rfl|hx
  ·exact⟨by simp,hl,hg⟩
  ·exact h2 x hx
theorem AbH{m L:Nat}{k z:Int}{t:ByteArray}(hg:GoodD m (.mk k z t [])):Fine m L (.mk k z t []):=fun path=>by
 rw[D.pieces,D.piecesL]
 refine⟨by have:=Afk L;simp;omega,fun x hx=>?_⟩
 rcases List.mem_cons.1 hx with rfl|hx
 ·exact⟨by simp,by simp[D.parts],hg⟩
 ·simp at hx
theorem Pq(n:Nat){L:Nat}{d:D}(h:Made L d):Fine (n+20) L d:=by
 induction h with
 | leaf L d h=>
  obtain⟨k,z,t,l⟩:=d
  obtain⟨k',rfl,hg,rfl⟩:=AbV n h
  exact AbH fun k z t ds e=>by cases e;exact⟨k',rfl,hg⟩
 | pair L a b ha hb iha ihb=>
  refine Aaj (by simp) (fun k z t ds e=>?_) fun d hd=>?_
  ·cases e
   exact⟨5,rfl,.pair⟩
  ·simp only[List.mem_cons,List.not_mem_nil,or_false] at hd
   rcases hd with rfl|rfl
   ·exact iha
   ·exact ihb
 | vec L l hl h ih=>
  refine Aaj hl (fun k z t ds e=>?_) fun d hd=>ih d hd
  cases e
  exact⟨6,rfl,.vec _⟩
theorem Fine.small{m L:Nat}{d:D}(h:Fine m L d)(hL:L≤6):Small (d.pieces []):=fun x hx=>by
 have:=(h []).2 x hx
 rw[List.length_nil] at this
 exact⟨by omega,by omega⟩
theorem Fine.good{m L:Nat}{d:D}(h:Fine m L d):AllGood m (d.pieces []):=fun path k z t ds hx=>((h []).2 _ hx).2.2 k z t ds rfl
theorem AnJ{L:Nat}(h:L≤6):most L≤1093:=by
 obtain rfl|rfl|rfl|rfl|rfl|rfl|rfl:L=0∨L=1∨L=2∨L=3∨L=4∨L=5∨L=6:=by omega
 all_goals decide
theorem Fine.few{m L:Nat}{d:D}(h:Fine m L d)(hL:L≤6):(d.pieces []).length≤1093:=Nat.le_trans (h []).1 (AnJ hL)
theorem Fine.part{m L:Nat}{k z:Int}{t:ByteArray}{ds:List D}{d:D}(h:Made L (.mk k z t ds))(hd:d∈ds):Made (L-1) d:=by
 cases h with
 | leaf L d h=>cases h<;>simp at hd
 | pair L a b ha hb=>
  simp only[List.mem_cons,List.not_mem_nil,or_false] at hd
  rcases hd with rfl|rfl
  ·exact ha
  ·exact hb
 | vec L l hl h=>exact h d hd
end Go.Proofs.YtokieofohmgjdaaGreatDoor
namespace Go.Proofs.YtokieofohmgjdaaGreatDoor
open Go Go.Eng
attribute [local congr] Ab Ah Af Ad Ae
attribute [-go_sem] List.range_succ
theorem Le{Q:Nat→Prop}{σ:FState}{v:Value}{p:List Nat}(h:PathV Q σ v p):∃a cx,v=.slice a p.length cx∧(p≠[]→∃b rest,a=some ⟨b,0,none⟩∧Q b∧σ.cells b=some (intsOf p++rest)):=by
 rcases h with⟨rfl,rfl⟩|⟨b,cx,rest,rfl,hQ,hc⟩
 ·exact⟨none,0,rfl,fun h=>absurd rfl h⟩
 ·exact⟨_,cx,rfl,fun _=>⟨b,rest,rfl,hQ,hc⟩⟩
theorem M3{p:List Nat}{i:Nat}(rest:List Value)(h:i<p.length):(intsOf p++rest)[i]? = some (.int .i64 (.ofNat p[i])):=by
 rw[List.getElem?_append_left (by rw[DU];exact h),intsOf,List.getElem?_map,List.getElem?_eq_getElem h];rfl
structure HeadEi (v w:Value) (i:Nat) (f:Nat→Value):Prop where
 f0:f 0=v
 f1:f 1=w
 f5:f 5=.int .i64 (.ofNat i)
theorem Bv(n:Nat)(x y z:Int)(σ:FState):(env (n+1)).call 107 [.int .i64 x,.int .i64 y,.int .i64 z] none σ=.ret (.bool (decide (y≤x)&&decide (x≤z))) none σ:=by
 rw[Ak _ 107 _ _ rfl,AeB _ _ _ _ (by simp),Aj]
 unfold Zv
 cases e:decide (y≤x) with
 | false=>simp -implicitDefEqProofs only[go_sem,Px,Lx,Py,Ly,e,Bool.false_and]
 | true=>simp -implicitDefEqProofs only[go_sem,Px,Lx,Py,Ly,e,Bool.true_and]
theorem Afc:keepOf nls 41=[32]:=by kernel_rfl
def atP:List Nat→D→Option D
 | [],d=>some d
 | i::p,d=>match d.parts[i]? with
  | some d'=>atP p d'
  | none=>none
theorem Arj(n:Nat)(h:1≤n)(h2:n<1000000000):wrapI (Int.ofNat n-1)=Int.ofNat (n-1):=by
 rw[Dk (by simp only[Int.ofNat_eq_natCast];omega)]
 simp only[Int.ofNat_eq_natCast]
 omega
theorem Eh:∀ds:List D,ds.length≤D.counts ds
 | []=>Nat.zero_le _
 | .mk _ _ _ l::ds=>by rw[List.length_cons,D.counts,D.count];have:=Eh ds;omega
theorem Fv:∀ {ds:List D} {d:D},d∈ds→d.count≤D.counts ds
 | x::ds,d,h=>by
  rw[D.counts]
  rcases List.mem_cons.1 h with rfl|h
  ·omega
  ·have:=Fv h;omega
structure HeadPt (b2 b4:Nat) (pv:Value) (R:Nat→Prop) (k z:Int) (t:ByteArray) (q:Option Addr) (c:Nat) (ds:List D) (i:Nat) (f:Nat→Value) (σ:FState):Prop where
 f1:f 1=pv
 f2:f 2=.pointer (some ⟨b2,0,none⟩)
 f4:f 4=.pointer (some ⟨b4,0,none⟩)
 f6:f 6=.int .i64 (.ofNat i)
 cd:∃fz ver,σ.heap.get b2=some ⟨.cells [.int .i64 k,.int .i64 z,.string t,.slice q ds.length c] TD,false,fz,ver⟩
 lay:LaidRE R σ q 0 ds
 wf:Wf σ
theorem Ab4(m:Nat){b2 b4:Nat}{a:Option Addr}{cx:Nat}{path:List Nat}{R:Nat→Prop}(hs:path.length<100000)(hR:∀b,R b→b≠b2)(x:D):
  ∀(j fuel i:Nat) (f g:Nat→Value) (σ:FState) (k z:Int) (t:ByteArray) (q:Option Addr) (c:Nat) (ds:List D),i+j=path.length→j<fuel→atP (path.drop i) (.mk k z t ds)=some x→(D.mk k z t ds).count<100000→
   (path≠[]→∃b rest,a=some ⟨b,0,none⟩∧b≠b2∧σ.cells b=some (intsOf path++rest))→HeadPt b2 b4 (.slice a path.length cx) R k z t q c ds i f σ→
  ∃f' g' σ' k z t q c ds,floop [32] (Aap (env (m+1)) none 41) fuel (Sl 7 33 f g []) none σ=.done (.exit 0) (Sl 7 33 f' g' []) none σ'∧HeadPt b2 b4 (.slice a path.length cx) R k z t q c ds path.length f' σ'∧x=.mk k z t ds∧Chg (· = b2) σ σ':=by
 intro j
 induction j with
 | zero=>
  intro fuel i f g σ k z t q c ds hij hf hx _ hp h
  obtain⟨fuel,rfl⟩:∃q,fuel=q+1:=⟨fuel-1,by omega⟩
  obtain rfl:i=path.length:=by omega
  rw[List.drop_length,atP] at hx
  have d1:decide (Int.ofNat path.length<Int.ofNat path.length)=false:=by simp
  rw[Ar,BU]
  unfold Aap
  simp -implicitDefEqProofs only[go_sem,VX,Te,h.f1,h.f6,d1]
  exact⟨_,_,_,k,z,t,q,c,ds,rfl,h,(Option.some.inj hx).symm,Chg.refl _ _⟩
 | succ j ih=>
  intro fuel i f g σ k z t q c ds hij hf hx hN hp h
  obtain⟨fuel,rfl⟩:∃q,fuel=q+1:=⟨fuel-1,by omega⟩
  have hi:i<path.length:=by omega
  have d1:decide (Int.ofNat i<Int.ofNat path.length)=true:=by simp;omega
  obtain⟨b,rest,rfl,hb,hc⟩:=hp (fun h=>by rw[h] at hi;simp at hi)
  have hv:=D0 h.wf (Nat.le_refl _)
  have g1:=M3 rest hi
  have w3:=GH i (by omega)
  have hdr:path.drop i=path[i]::path.drop (i+1):=List.drop_eq_getElem_cons hi
  rw[hdr,atP] at hx
  simp only[D.parts] at hx
  cases hd:ds[path[i]]? with
  | none=>rw[hd] at hx;cases hx
  | some d=>
   rw[hd] at hx
   simp only at hx
   have hpi:=(List.getElem?_eq_some_iff.1 hd).1
   obtain⟨b',off,cs,rfl,hRb,hcs,hle,hL⟩:=LaidRE.get h.lay hd
   rw[Nat.zero_add] at hle hL
   obtain⟨fz,ver,hg2⟩:=h.cd
   have c2:=AB hg2
   have l4:((cs.drop (off+path[i]*4)).take 4).length=4:=by rw[List.length_take,List.length_drop];omega
   have hL':=hL
   obtain⟨k',z',t',ds'⟩:=d
   obtain⟨q',c',hv4,hE'⟩:=hL
   have hv4':(cs.drop (off+path[i]*4)).take 4=[.int .i64 k',.int .i64 z',.string t',.slice q' ds'.length c']:=by
    have:=Value.agg.inj hv4
    simpa using congrArg Array.toList this
   have hfew:ds.length<100000:=by have:=Eh ds;rw[D.count] at hN;omega
   have e0:decide ((0:Int)≤Int.ofNat path[i])=true:=by simp
   have e1:decide (Int.ofNat path[i]≤Int.ofNat (ds.length-1))=true:=by simp;omega
   have w4:=Arj ds.length (by omega) (by omega)
   have hb2:=h.wf.cells c2
   rw[Ar,BU]
   unfold Aap
   simp -implicitDefEqProofs only[go_sem,Aw,VX,Te,Akf,YA,Akg,YB,Ake,Yz,h.f1,h.f2,h.f6,d1,hi,hv,hc,c2,g1,hg2,Bv,w3,w4,e0,e1,hpi,hcs,hle,hv4']
   have hC:Chg (· = b2) σ (σ.put b2 (.cells [.int .i64 k',.int .i64 z',.string t',.slice q' ds'.length c'] TD) fz):=(Chg.refl (· = b2) σ).put _ _ _ (.inr rfl)
   obtain⟨f',g',σ',k1,z1,t1,q1,c1,ds1,e2,h2,h3,h4⟩:=ih fuel (i+1) (upd f 6 (.int .i64 (.ofNat (i+1)))) _ (σ.put b2 (.cells [.int .i64 k',.int .i64 z',.string t',.slice q' ds'.length c'] TD) fz) k' z' t' q' c' ds' (by omega) (by omega) hx (by have:=Fv (List.mem_of_getElem? hd);rw[D.count] at hN;omega) (fun hne=>⟨b,rest,rfl,hb,by rw[Al,if_neg hb];exact hc⟩) {
    f1:=by simp -implicitDefEqProofs only[go_sem,reduceCtorEq,h.f1]
    f2:=by simp -implicitDefEqProofs only[go_sem,reduceCtorEq,h.f2]
    f4:=by simp -implicitDefEqProofs only[go_sem,reduceCtorEq,h.f4]
    f6:=by simp -implicitDefEqProofs only[go_sem,reduceCtorEq]
    cd:=⟨fz,_,by rw[Am,if_pos rfl]⟩
    lay:=hE'.keep fun b cs hb hc=>⟨by rw[Al,if_neg (hR b hb)];exact hc,hb⟩
    wf:=h.wf.put _ _ _ hb2 }
   exact⟨f',g',σ',k1,z1,t1,q1,c1,ds1,e2,h2,h3,hC.trans h4 fun _ _ h=>h⟩
theorem AnM(m:Nat){d x:D}{path:List Nat}{lv:List Value}{pv:Value}{R Q:Nat→Prop}{σ:FState}(hw:Wf σ)(hL:LaidR R σ (.agg lv.toArray) d)(hP:PathV Q σ pv path)(hs:path.length<100000)(hN:d.count<100000)(hx:atP path d=some x):
  Gives ((env (m+2)).call 41 [.agg lv.toArray,pv] none σ) σ fun w σ'=>∃u,w=.tuple #[u,.bool true]∧LaidR (fun b=>R b∧b<σ.next) σ' u x:=by
 obtain⟨a,cx,rfl,k1⟩:=Le hP
 obtain⟨k,z,t,ds⟩:=d
 obtain⟨q,c,hv,hE⟩:=hL
 have hlv:lv=[.int .i64 k,.int .i64 z,.string t,.slice q ds.length c]:=by
  have:=Value.agg.inj hv
  simpa using congrArg Array.toList this
 subst hlv
 rw[Ak _ 41 _ _ rfl,Anf _ _ _ _ (by simp),Aj]
 unfold Alx
 have x1:Ext σ ((σ.push (.cells [.int .i64 k,.int .i64 z,.string t,.slice q ds.length c] TD) none).push (.cells [.int .i64 0,.int .i64 0,.string ⟨#[]⟩,.slice none 0 0] TD) none):=((Ext.refl _).push _ _).push _ _
 have hw1:=(hw.push (.cells [.int .i64 k,.int .i64 z,.string t,.slice q ds.length c] TD) none).push (.cells [.int .i64 0,.int .i64 0,.string ⟨#[]⟩,.slice none 0 0] TD) none
 have c1:((σ.push (.cells [.int .i64 k,.int .i64 z,.string t,.slice q ds.length c] TD) none).push (.cells [.int .i64 0,.int .i64 0,.string ⟨#[]⟩,.slice none 0 0] TD) none).heap.get σ.next=some ⟨.cells [.int .i64 k,.int .i64 z,.string t,.slice q ds.length c] TD,false,none,σ.clock⟩:=by rw[Ai,if_neg (by rw[Aa];omega),Ai,if_pos rfl]
 have g4:((σ.push (.cells [.int .i64 k,.int .i64 z,.string t,.slice q ds.length c] TD) none).push (.cells [.int .i64 0,.int .i64 0,.string ⟨#[]⟩,.slice none 0 0] TD) none).heap.get (σ.next+1)=some ⟨.cells [.int .i64 0,.int .i64 0,.string ⟨#[]⟩,.slice none 0 0] TD,false,none,σ.clock+1⟩:=by rw[Ai,if_pos (by rw[Aa])];rfl
 simp -implicitDefEqProofs only[go_sem,Akc,Yx,Akd,Yy,Afc]
 generalize hff:upd _ 6 _=f1
 generalize hbf:bigFuel=fuel
 generalize FState.push (FState.push σ _ _) _ _=σ1 at x1 hw1 c1 g4 ⊢
 obtain⟨f2,g2,σ2,k2,z2,t2,q2,c2,ds2,e2,h2,rfl,h4⟩:=Ab4 m (b2:=σ.next) (b4:=σ.next+1) (R:=fun b=>R b∧b<σ.next) (path:=path) (cx:=cx) (a:=a) hs (fun b hb=>by omega) x path.length fuel 0 f1 (fun _=>undef) σ1 k z t q c ds (by omega) (by rw[←hbf];show path.length<1000000000000;omega) hx hN (fun hne=>by
   obtain⟨b,rest,h1,_,h3⟩:=k1 hne
   have:=hw.cells h3
   exact⟨b,rest,h1,by omega,(x1.cells this).trans h3⟩) {
  f1:=by rw[←hff];simp -implicitDefEqProofs only[go_sem,reduceCtorEq]
  f2:=by rw[←hff];simp -implicitDefEqProofs only[go_sem,reduceCtorEq]
  f4:=by rw[←hff];simp -implicitDefEqProofs only[go_sem,reduceCtorEq]
  f6:=by rw[←hff];simp -implicitDefEqProofs only[go_sem,reduceCtorEq]<;>rfl
  cd:=⟨_,_,c1⟩
  lay:=hE.keep fun b c hb hc=>⟨(x1.cells (hw.cells hc)).trans hc,hb,hw.cells hc⟩
  wf:=hw1 }
 have n1:=x1.next
 have hn1:σ.next+1<σ1.next:=(hw1 _ _ g4).1
 have g4':σ2.heap.get (σ.next+1)=_:=(h4.get (σ.next+1) hn1 (by omega)).trans g4
 obtain⟨fz,ver,hg2⟩:=h2.cd
 have cc:=AB hg2
 rw[e2]
 simp -implicitDefEqProofs only[go_sem,Aw,Akh,YC,h2.f2,h2.f4,cc,g4',Bj,AX,AP,A0,DZ,BJ]
 have x2:Ext σ σ2:=⟨by have:=h4.next;omega,by have:=x1.clock;have:=h4.clock;omega,fun b hb=>(h4.get b (by omega) (by omega)).trans (x1.get b hb)⟩
 exact⟨_,_,rfl,x2.put _ _ _ (by omega),h2.wf.put _ _ _ (by have:=h4.next;omega),_,rfl,q2,c2,rfl,h2.lay.keep fun b c hb hc=>⟨by rw[Al,if_neg (by omega)];exact hc,hb⟩⟩
end Go.Proofs.YtokieofohmgjdaaGreatDoor
namespace Go.Eng
open Go
theorem Er{α β:Type}{P:Program}(s:Sem α)(f:α→Sem β):prun P (s >>= f)=(match prun P s with|some (.ok v)=>prun P (f v)|some (.error e)=>some (.error e)|none=>none):=by
 induction s with
 | pure a=>rfl
 | program k ih=>exact ih P
 | mark m k ih=>exact ih
 | halt x=>cases x<;>rfl
 | _=>rfl
theorem HU{α:Type}{P:Program}(a:α):prun P (pure a:Sem α)=some (.ok a):=rfl
theorem JO{P:Program}:prun P program=some (.ok P):=rfl
theorem Ff{P:Program}{t:TypeId}{d:TypeDesc}(h:P.underlying t=some d):prun P (underlying t)=some (.ok d):=by
 unfold underlying
 simp only[Er,JO,h]
 rfl
theorem Gk{P:Program}(d:Nat)(t:TypeId)(k k':IntKind)(a b:Int)(h:P.underlying t=some (.int k')):prun P (Op.equalIn (d+1) t (.int k a) (.int k b))=some (.ok (a==b)):=by
 simp only[Op.equalIn,Er,Ff h,if_true,HU]
theorem Fh{P:Program}(d:Nat)(t:TypeId)(a b:ByteArray)(h:P.underlying t=some .string):prun P (Op.equalIn (d+1) t (.string a) (.string b))=some (.ok (a.toList==b.toList)):=by
 simp only[Op.equalIn,Er,Ff h,HU,beq_toListBytes]
theorem IM{P:Program}(d:Nat)(t:TypeId)(xs ys:Array Value)(ht:P.underlying t=some (.struct (P.fieldsOf t)))(hp:P.stoodInHeld t=false):
  prun P (Op.equalIn (d+1) t (.agg xs) (.agg ys))=prun P (Op.eqFields d xs ys (P.fieldsOf t).toList):=by
 simp only[Op.equalIn,Er,Ff ht,JO,hp,Bool.false_eq_true,if_false]
 rw[←Array.forIn_toList]
 generalize (P.fieldsOf t).toList=fs
 clear ht
 induction fs with
 | nil=>rfl
 | cons f fs ih=>
  simp only[List.forIn_cons,Op.eqFields,Er]
  by_cases hn:f.name ≠ "_"
  ·rw[if_pos hn,if_pos hn]
   simp only[Er]
   cases prun P (part f.type xs f.offset) with
   | none=>rfl
   | some r1=>
    cases r1 with
    | error e=>rfl
    | ok a=>
     simp only
     cases prun P (part f.type ys f.offset) with
     | none=>rfl
     | some r2=>
      cases r2 with
      | error e=>rfl
      | ok b=>
       simp only
       cases prun P (Op.equalIn d f.type a b) with
       | none=>rfl
       | some r3=>
        cases r3 with
        | error e=>rfl
        | ok r=>
         cases r
         ·rfl
         ·exact ih
  ·rw[if_neg hn,if_neg hn]
   exact ih
end Go.Eng
namespace Go.Proofs.YtokieofohmgjdaaGreatDoor
open Go Go.Eng
variable (E:Env) (ro:Option Nat) (last:List Nat→RunF) (cl:List Nat) (a:FAct) (u:Option FrameMode) (σ:FState)
def Rq(_:Unit):List COp:=[⟨fun a σ=>fbox 24 (a.get 0) σ,some 2,fun _=>some true⟩,
 ⟨fun a σ=>fbox 24 (a.get 1) σ,some 3,fun _=>some true⟩,
 ⟨fun a σ=>.val (.slice none 0 0) σ,some 4,fun _=>some true⟩]
def AfI:List COp:=Rq ()
def Rs(_:Unit):List COp:=[⟨fun a σ=>newCells [(.slice none 0 0)] 42 none σ,some 5,fun _=>some true⟩]
def AfJ:List COp:=Rs ()
def Rt(_:Unit):List COp:=[⟨fun a σ=>fload (some 4) (a.get 2) σ,some 8,fun _=>some true⟩,
 ⟨fun a σ=>.enter 123 [(a.get 8)] σ,some 9,fun _=>some true⟩]
def AfK:List COp:=Rt ()
def Ru(_:Unit):List COp:=[⟨fun a σ=>.val (a.get 10) σ,some 6,fun _=>some true⟩]
def AfL:List COp:=Ru ()
def Rv(_:Unit):List COp:=[⟨fun a σ=>newCells [(.int .i64 0),(.int .i64 0),(.string ⟨#[]⟩),(.slice none 0 0)] 24 none σ,some 7,fun _=>some true⟩,
 ⟨fun a σ=>fstore 4 (a.get 7) (a.get 11) σ,none,fun _=>some true⟩]
def AfM:List COp:=Rv ()
def LA(_:Unit):List COp:=[⟨fun a σ=>fload (some 4) (a.get 7) σ,some 12,fun _=>some true⟩,
 ⟨fun a σ=>fload (some 4) (a.get 3) σ,some 13,fun _=>some true⟩,
 ⟨fun a σ=>.enter 144 [(a.get 12),(a.get 13)] σ,some 14,fun _=>some true⟩]
def AfN:List COp:=LA ()
def Rw(_:Unit):List DOp:=[⟨fun a σ=>.val (a.get 6) σ,some 16,fun _=>some true,some 0,false⟩,
 ⟨fun a σ=>.enter 135 [(a.get 16)] σ,some 17,fun _=>some true,none,false⟩,
 ⟨fun a σ=>fload none (a.get 5) σ,some 15,fun _=>some true,some 0,false⟩,
 ⟨fun a σ=>fbuildSlice 25 1 1 [(.slice none 0 0)] [(0,(a.get 17))] σ,some 18,fun _=>some true,some 1,false⟩,
 ⟨fun a σ=>fappend 25 1 24 (a.get 15) (a.get 18) σ,some 19,fun _=>some true,none,true⟩,
 ⟨fun a σ=>fstore 1 (a.get 5) (a.get 19) σ,none,fun _=>some true,none,true⟩]
def AfO:List DOp:=Rw ()
noncomputable def Et:Code:=((rangesOf (Tryz.f113.body.getD .skip)).getD 0 (.skip,.skip)).1
noncomputable def Eu:Code:=((rangesOf (Tryz.f113.body.getD .skip)).getD 0 (.skip,.skip)).2
def Rx(_:Unit):List COp:=[⟨fun a σ=>fload none (a.get 5) σ,some 20,fun _=>some true⟩,
 ⟨fun a σ=>.val (a.get 20) σ,some 4,fun _=>some true⟩]
def AfP:List COp:=Rx ()
def Zy(E:Env)(ro:Option Nat)(fn:FuncId):RunF:=(seqR (fops E ro AfI) (seqR (fops E ro AfJ) (seqR (seqR (fops E ro AfK) (blockR 0 (frange E ro fn (.tmp 9) [10,11] Et Eu))) (seqR (fops E ro AfP) retR))))
theorem Aci:fops E ro AfI a u σ=fops E ro (Rq ()) a u σ:=rfl
theorem Acj:fops E ro AfJ a u σ=fops E ro (Rs ()) a u σ:=rfl
theorem Ack:fops E ro AfK a u σ=fops E ro (Rt ()) a u σ:=rfl
theorem Acl:fops E ro AfL a u σ=fops E ro (Ru ()) a u σ:=rfl
theorem Acm:fops E ro AfM a u σ=fops E ro (Rv ()) a u σ:=rfl
theorem PA:fops E ro AfN a u σ=fops E ro (LA ()) a u σ:=rfl
theorem Acn:fdraw E ro last AfO cl a u σ=fdraw E ro last (Rw ()) cl a u σ:=rfl
theorem WY(E:Env)(ro:Option Nat)(fn:FuncId):code Tryz.prog nls Et E ro fn=(seqR (fops E ro AfL) (fops E ro AfM)):=by kernel_rfl
theorem WZ(E:Env)(ro:Option Nat)(fn:FuncId):code Tryz.prog nls Eu E ro fn=(blockR 1 (seqR (fops E ro AfN) (condR (fun a=>(a.get 14)) (drawR E ro AfO) skipR))):=by kernel_rfl
theorem Aco:fops E ro AfP a u σ=fops E ro (Rx ()) a u σ:=rfl
theorem Amp(E:Env)(ro:Option Nat)(fn:FuncId):code Tryz.prog nls (Tryz.f113.body.getD .skip) E ro fn=Zy E ro fn:=by kernel_rfl
theorem AeE(E:Env)(args:List Value)(u:Option FrameMode)(σ:FState)(hn:args.length≤(8:Nat)):fcall Tryz.prog nls E 113 args u σ=leaveR Tryz.prog E [.tmp 4] (Zy E none 113 ⟨padTo undef 8 args,fun _=>undef,8,21,[]⟩ u σ):=by
 rw[Ao (body:=Tryz.f113.body.getD .skip) Tryz.func113 rfl E args u σ 8 21 (by kernel_rfl) rfl ⟨hn,by decide⟩,Amp]
 rfl
def R2(_:Unit):List COp:=[⟨fun a σ=>fbox 24 (a.get 0) σ,some 2,fun _=>some true⟩,
 ⟨fun a σ=>fbox 24 (a.get 1) σ,some 3,fun _=>some true⟩,
 ⟨fun a σ=>.val (.bool false) σ,some 4,fun _=>some true⟩]
def Ahr:List COp:=R2 ()
def L6(_:Unit):List DOp:=[⟨fun a σ=>fload (some 4) (a.get 2) σ,some 5,fun _=>some true,some 0,false⟩,
 ⟨fun a σ=>.enter 167 [(a.get 5)] σ,some 6,fun _=>some true,none,false⟩,
 ⟨fun a σ=>fload (some 4) (a.get 3) σ,some 7,fun _=>some true,some 0,false⟩,
 ⟨fun a σ=>.enter 167 [(a.get 7)] σ,some 8,fun _=>some true,none,true⟩,
 ⟨fun a σ=>i_eql Tryz.prog 193 (.tmp 6) (.tmp 8) (a.get 6) (a.get 8) σ,some 9,fun _=>some true,some 2,false⟩,
 ⟨fun a σ=>.val (a.get 9) σ,some 10,fun _=>some true,some 2,false⟩,
 ⟨fun a σ=>ffield 3 (a.get 2) σ,some 11,fun a=>gd (a.get 10) true,some 2,false⟩,
 ⟨fun a σ=>fload none (a.get 11) σ,some 12,fun a=>gd (a.get 10) true,some 2,false⟩,
 ⟨fun a σ=>ffield 3 (a.get 3) σ,some 13,fun a=>gd (a.get 10) true,some 2,false⟩,
 ⟨fun a σ=>fload none (a.get 13) σ,some 14,fun a=>gd (a.get 10) true,some 2,false⟩,
 ⟨fun a σ=>.enter 168 [(a.get 12),(a.get 14),(.func (.func 144) #[] #[])] σ,some 15,fun a=>gd (a.get 10) true,none,true⟩,
 ⟨fun a σ=>fpick (a.get 10) (a.get 15) (.bool false) σ,some 16,fun _=>some true,some 3,false⟩,
 ⟨fun a σ=>.val (a.get 16) σ,some 4,fun _=>some true,some 3,false⟩]
def Ahs:List DOp:=L6 ()
def ZG(E:Env)(ro:Option Nat)(fn:FuncId):RunF:=(seqR (fops E ro Ahr) (seqR (drawR E ro Ahs) retR))
theorem AcQ:fops E ro Ahr a u σ=fops E ro (R2 ()) a u σ:=rfl
theorem PZ:fdraw E ro last Ahs cl a u σ=fdraw E ro last (L6 ()) cl a u σ:=rfl
theorem AmD(E:Env)(ro:Option Nat)(fn:FuncId):code Tryz.prog nls (Tryz.f144.body.getD .skip) E ro fn=ZG E ro fn:=by kernel_rfl
theorem AeM(E:Env)(args:List Value)(u:Option FrameMode)(σ:FState)(hn:args.length≤(4:Nat)):fcall Tryz.prog nls E 144 args u σ=leaveR Tryz.prog E [.tmp 4] (ZG E none 144 ⟨padTo undef 4 args,fun _=>undef,4,17,[]⟩ u σ):=by
 rw[Ao (body:=Tryz.f144.body.getD .skip) Tryz.func144 rfl E args u σ 4 17 (by kernel_rfl) rfl ⟨hn,by decide⟩,AmD]
 rfl
def Su(_:Unit):List COp:=[⟨fun a σ=>fbox 24 (a.get 0) σ,some 1,fun _=>some true⟩,
 ⟨fun a σ=>newCells [(.int .i64 0),(.int .i64 0),(.string ⟨#[]⟩)] 193 none σ,some 2,fun _=>some true⟩]
def Aiu:List COp:=Su ()
def Sv(_:Unit):List COp:=[⟨fun a σ=>ffield 0 (a.get 1) σ,some 3,fun _=>some true⟩,
 ⟨fun a σ=>fload none (a.get 3) σ,some 4,fun _=>some true⟩,
 ⟨fun a σ=>ffield 1 (a.get 1) σ,some 5,fun _=>some true⟩,
 ⟨fun a σ=>fload none (a.get 5) σ,some 6,fun _=>some true⟩,
 ⟨fun a σ=>ffield 2 (a.get 1) σ,some 7,fun _=>some true⟩,
 ⟨fun a σ=>fload none (a.get 7) σ,some 8,fun _=>some true⟩,
 ⟨fun a σ=>fbuild (fun i=>nth [(0,1),(1,1),(2,1)] i) [(.int .i64 0),(.int .i64 0),(.string ⟨#[]⟩)] [(0,(a.get 4)),(1,(a.get 6)),(2,(a.get 8))] σ,some 9,fun _=>some true⟩,
 ⟨fun a σ=>fstore 3 (a.get 2) (a.get 9) σ,none,fun _=>some true⟩]
def Aiv:List COp:=Sv ()
def ZP(E:Env)(ro:Option Nat)(fn:FuncId):RunF:=(seqR (fops E ro Aiu) (seqR (fops E ro Aiv) retR))
theorem Adg:fops E ro Aiu a u σ=fops E ro (Su ()) a u σ:=rfl
theorem Adh:fops E ro Aiv a u σ=fops E ro (Sv ()) a u σ:=rfl
theorem AmQ(E:Env)(ro:Option Nat)(fn:FuncId):code Tryz.prog nls (Tryz.f167.body.getD .skip) E ro fn=ZP E ro fn:=by kernel_rfl
theorem AeV(E:Env)(args:List Value)(u:Option FrameMode)(σ:FState)(hn:args.length≤(2:Nat)):fcall Tryz.prog nls E 167 args u σ=leaveR Tryz.prog E [.cell 2 193] (ZP E none 167 ⟨padTo undef 2 args,fun _=>undef,2,10,[]⟩ u σ):=by
 rw[Ao (body:=Tryz.f167.body.getD .skip) Tryz.func167 rfl E args u σ 2 10 (by kernel_rfl) rfl ⟨hn,by decide⟩,AmQ]
 rfl
def LN(_:Unit):List COp:=[⟨fun a σ=>.val (.slice none 0 0) σ,some 2,fun _=>some true⟩]
def Ag3:List COp:=LN ()
def LO(_:Unit):List COp:=[⟨fun a σ=>.val (a.get 0) σ,some 3,fun _=>some true⟩,
 ⟨fun a σ=>i_eql Tryz.prog 25 (.tmp 3) (.const (.slice none 0 0)) (a.get 3) (.slice none 0 0) σ,some 4,fun _=>some true⟩]
def Ag4:List COp:=LO ()
def RW(_:Unit):List COp:=[⟨fun a σ=>.val (.slice none 0 0) σ,some 2,fun _=>some true⟩]
def Ag5:List COp:=RW ()
def RZ(_:Unit):List COp:=[⟨fun a σ=>fbuildSlice 3 0 1 [(.int .i64 0)] [] σ,some 5,fun _=>some true⟩,
 ⟨fun a σ=>.val (a.get 0) σ,some 6,fun _=>some true⟩,
 ⟨fun a σ=>fappend 3 1 8 (a.get 5) (a.get 6) σ,some 7,fun _=>some true⟩,
 ⟨fun a σ=>.val (a.get 7) σ,some 2,fun _=>some true⟩]
def Ag6:List COp:=RZ ()
def ZE(E:Env)(ro:Option Nat)(fn:FuncId):RunF:=(seqR (fops E ro Ag3) (seqR (seqR (fops E ro Ag4) (condR (fun a=>(a.get 4)) (seqR (fops E ro Ag5) retR) skipR)) (seqR (fops E ro Ag6) retR)))
theorem PN:fops E ro Ag3 a u σ=fops E ro (LN ()) a u σ:=rfl
theorem PO:fops E ro Ag4 a u σ=fops E ro (LO ()) a u σ:=rfl
theorem AcN:fops E ro Ag5 a u σ=fops E ro (RW ()) a u σ:=rfl
theorem AcO:fops E ro Ag6 a u σ=fops E ro (RZ ()) a u σ:=rfl
theorem Amz(E:Env)(ro:Option Nat)(fn:FuncId):code Tryz.prog nls (Tryz.f135.body.getD .skip) E ro fn=ZE E ro fn:=by kernel_rfl
theorem AeK(E:Env)(args:List Value)(u:Option FrameMode)(σ:FState)(hn:args.length≤(2:Nat)):fcall Tryz.prog nls E 135 args u σ=leaveR Tryz.prog E [.tmp 2] (ZE E none 135 ⟨padTo undef 2 args,fun _=>undef,2,8,[]⟩ u σ):=by
 rw[Ao (body:=Tryz.f135.body.getD .skip) Tryz.func135 rfl E args u σ 2 8 (by kernel_rfl) rfl ⟨hn,by decide⟩,Amz]
 rfl
def Me(_:Unit):List COp:=[⟨fun a σ=>.val (.bool false) σ,some 6,fun _=>some true⟩]
def Aiw:List COp:=Me ()
def Mf(_:Unit):List COp:=[⟨fun a σ=>.val (a.get 0) σ,some 10,fun _=>some true⟩,
 ⟨fun a σ=>flenL (a.get 10) σ,some 11,fun _=>some true⟩,
 ⟨fun a σ=>.val (a.get 1) σ,some 12,fun _=>some true⟩,
 ⟨fun a σ=>flenL (a.get 12) σ,some 13,fun _=>some true⟩,
 ⟨fun a σ=>i_neq Tryz.prog 3 (.tmp 11) (.tmp 13) (a.get 11) (a.get 13) σ,some 14,fun _=>some true⟩]
def Aix:List COp:=Mf ()
def Sx(_:Unit):List COp:=[⟨fun a σ=>.val (.bool false) σ,some 6,fun _=>some true⟩]
def Aiy:List COp:=Sx ()
def Sy(_:Unit):List COp:=[⟨fun a σ=>.val (a.get 0) σ,some 15,fun _=>some true⟩,
 ⟨fun a σ=>flenL (a.get 15) σ,some 16,fun _=>some true⟩,
 ⟨fun a σ=>.val (.int .i64 0) σ,some 17,fun _=>some true⟩]
def Aiz:List COp:=Sy ()
def Mg(_:Unit):List COp:=[⟨fun a σ=>i_lss Tryz.prog 3 (.tmp 17) (.tmp 16) (a.get 17) (a.get 16) σ,some 18,fun _=>some true⟩]
def AiA:List COp:=Mg ()
def Sz(_:Unit):List COp:=[⟨fun a σ=>.val (a.get 17) σ,some 19,fun _=>some true⟩,
 ⟨fun a σ=>findex (none,4) (a.get 15) (a.get 17) σ,some 20,fun _=>some true⟩,
 ⟨fun a σ=>fload (some 4) (a.get 20) σ,some 21,fun _=>some true⟩,
 ⟨fun a σ=>newCells [(.int .i64 0),(.int .i64 0),(.string ⟨#[]⟩),(.slice none 0 0)] 24 none σ,some 8,fun _=>some true⟩,
 ⟨fun a σ=>.val (a.get 19) σ,some 7,fun _=>some true⟩,
 ⟨fun a σ=>fstore 4 (a.get 8) (a.get 21) σ,none,fun _=>some true⟩]
def AiB:List COp:=Sz ()
def SA(_:Unit):List COp:=[⟨fun a σ=>.val (a.get 1) σ,some 22,fun _=>some true⟩,
 ⟨fun a σ=>.val (a.get 7) σ,some 23,fun _=>some true⟩,
 ⟨fun a σ=>findex (none,4) (a.get 22) (a.get 23) σ,some 24,fun _=>some true⟩,
 ⟨fun a σ=>fload (some 4) (a.get 24) σ,some 25,fun _=>some true⟩,
 ⟨fun a σ=>newCells [(.int .i64 0),(.int .i64 0),(.string ⟨#[]⟩),(.slice none 0 0)] 24 none σ,some 9,fun _=>some true⟩,
 ⟨fun a σ=>fstore 4 (a.get 9) (a.get 25) σ,none,fun _=>some true⟩]
def AiC:List COp:=SA ()
def Mh(_:Unit):List COp:=[⟨fun a σ=>.val (a.get 2) σ,some 26,fun _=>some true⟩,
 ⟨fun a σ=>fload (some 4) (a.get 8) σ,some 27,fun _=>some true⟩,
 ⟨fun a σ=>fload (some 4) (a.get 9) σ,some 28,fun _=>some true⟩,
 ⟨fun a σ=>fcallV (a.get 26) [(a.get 27),(a.get 28)] σ,some 29,fun _=>some true⟩,
 ⟨fun a σ=>fun1 Tryz.prog (Op.unary .not) (a.get 29) σ,some 30,fun _=>some true⟩]
def AiD:List COp:=Mh ()
def SB(_:Unit):List COp:=[⟨fun a σ=>.val (.bool false) σ,some 6,fun _=>some true⟩]
def AiE:List COp:=SB ()
def SC(_:Unit):List COp:=[⟨fun a σ=>i_add Tryz.prog 3 (.tmp 17) (.const (.int .i64 1)) (a.get 17) (.int .i64 1) σ,some 31,fun _=>some true⟩,
 ⟨fun a σ=>.val (a.get 31) σ,some 17,fun _=>some true⟩]
def AiF:List COp:=SC ()
def Q3(E:Env)(ro:Option Nat)(fn:FuncId):RunF:=(seqR (fops E ro AiA) (seqR (condR (fun a=>(a.get 18)) skipR (exitR 0)) (seqR (blockR 1 (seqR (fops E ro AiB) (seqR (fops E ro AiC) (seqR (fops E ro AiD) (condR (fun a=>(a.get 30)) (seqR (fops E ro AiE) retR) skipR))))) (fops E ro AiF))))
def Nu(_:Unit):List COp:=[⟨fun a σ=>.val (.bool true) σ,some 6,fun _=>some true⟩]
def AaU:List COp:=Nu ()
def ZQ(E:Env)(ro:Option Nat)(fn:FuncId):RunF:=(seqR (fops E ro Aiw) (seqR (seqR (fops E ro Aix) (condR (fun a=>(a.get 14)) (seqR (fops E ro Aiy) retR) skipR)) (seqR (seqR (fops E ro Aiz) (blockR 0 (loopR (keepOf nls fn) (Q3 E ro fn)))) (seqR (fops E ro AaU) retR))))
theorem P_:fops E ro Aiw a u σ=fops E ro (Me ()) a u σ:=rfl
theorem Qa:fops E ro Aix a u σ=fops E ro (Mf ()) a u σ:=rfl
theorem Adi:fops E ro Aiy a u σ=fops E ro (Sx ()) a u σ:=rfl
theorem Adj:fops E ro Aiz a u σ=fops E ro (Sy ()) a u σ:=rfl
theorem Qb:fops E ro AiA a u σ=fops E ro (Mg ()) a u σ:=rfl
theorem Adk:fops E ro AiB a u σ=fops E ro (Sz ()) a u σ:=rfl
theorem Adl:fops E ro AiC a u σ=fops E ro (SA ()) a u σ:=rfl
theorem Qc:fops E ro AiD a u σ=fops E ro (Mh ()) a u σ:=rfl
theorem Adm:fops E ro AiE a u σ=fops E ro (SB ()) a u σ:=rfl
theorem Adn:fops E ro AiF a u σ=fops E ro (SC ()) a u σ:=rfl
theorem Ye:fops E ro AaU a u σ=fops E ro (Nu ()) a u σ:=rfl
theorem AmR(E:Env)(ro:Option Nat)(fn:FuncId):code Tryz.prog nls (Tryz.f168.body.getD .skip) E ro fn=ZQ E ro fn:=by kernel_rfl
theorem AeW(E:Env)(args:List Value)(u:Option FrameMode)(σ:FState)(hn:args.length≤(10:Nat)):fcall Tryz.prog nls E 168 args u σ=leaveR Tryz.prog E [.tmp 6] (ZQ E none 168 ⟨padTo undef 10 args,fun _=>undef,10,32,[]⟩ u σ):=by
 rw[Ao (body:=Tryz.f168.body.getD .skip) Tryz.func168 rfl E args u σ 10 32 (by kernel_rfl) rfl ⟨hn,by decide⟩,AmR]
 rfl
def Rg(_:Unit):List COp:=[⟨fun a σ=>newCells [(.int .i64 0),(.int .i64 0),(.string ⟨#[]⟩),(.slice none 0 0)] 24 none σ,some 2,fun _=>some true⟩]
def Afx:List COp:=Rg ()
def Rh(_:Unit):List COp:=[⟨fun a σ=>fload (some 4) (a.get 0) σ,some 3,fun _=>some true⟩,
 ⟨fun a σ=>.enter 71 [(a.get 3)] σ,some 4,fun _=>some true⟩]
def Afy:List COp:=Rh ()
def Ri(_:Unit):List COp:=[⟨fun a σ=>fload none (a.get 1) σ,some 5,fun _=>some true⟩,
 ⟨fun a σ=>.enter 109 [(a.get 0),(a.get 5)] σ,some 6,fun _=>some true⟩,
 ⟨fun a σ=>fnilCheck (a.get 6) σ,some 7,fun _=>some true⟩,
 ⟨fun a σ=>fload (some 4) (a.get 7) σ,some 8,fun _=>some true⟩,
 ⟨fun a σ=>.enter 104 [(a.get 8)] σ,some 9,fun _=>some true⟩,
 ⟨fun a σ=>fstore 4 (a.get 2) (a.get 9) σ,none,fun _=>some true⟩]
def Afz:List COp:=Ri ()
def Zw(E:Env)(ro:Option Nat)(fn:FuncId):RunF:=(seqR (fops E ro Afx) (seqR (fops E ro Afy) (seqR (fops E ro Afz) retR)))
theorem Ab8:fops E ro Afx a u σ=fops E ro (Rg ()) a u σ:=rfl
theorem Ab9:fops E ro Afy a u σ=fops E ro (Rh ()) a u σ:=rfl
theorem Aca:fops E ro Afz a u σ=fops E ro (Ri ()) a u σ:=rfl
theorem Amn(E:Env)(ro:Option Nat)(fn:FuncId):code Tryz.prog nls (Tryz.f108.body.getD .skip) E ro fn=Zw E ro fn:=by kernel_rfl
theorem AeC(E:Env)(args:List Value)(u:Option FrameMode)(σ:FState)(hn:args.length≤(2:Nat)):fcall Tryz.prog nls E 108 args u σ=leaveR Tryz.prog E [.cell 2 24] (Zw E none 108 ⟨padTo undef 2 args,fun _=>undef,2,10,[]⟩ u σ):=by
 rw[Ao (body:=Tryz.f108.body.getD .skip) Tryz.func108 rfl E args u σ 2 10 (by kernel_rfl) rfl ⟨hn,by decide⟩,Amn]
 rfl
def Rj(_:Unit):List COp:=[⟨fun a σ=>.val (.pointer none) σ,some 4,fun _=>some true⟩]
def AfA:List COp:=Rj ()
def Rk(_:Unit):List COp:=[⟨fun a σ=>.val (a.get 1) σ,some 7,fun _=>some true⟩,
 ⟨fun a σ=>flenL (a.get 7) σ,some 8,fun _=>some true⟩,
 ⟨fun a σ=>.val (.int .i64 0) σ,some 9,fun _=>some true⟩]
def AfB:List COp:=Rk ()
def Lz(_:Unit):List COp:=[⟨fun a σ=>i_lss Tryz.prog 3 (.tmp 9) (.tmp 8) (a.get 9) (a.get 8) σ,some 10,fun _=>some true⟩]
def AfC:List COp:=Lz ()
def Rl(_:Unit):List COp:=[⟨fun a σ=>findex (none,1) (a.get 7) (a.get 9) σ,some 11,fun _=>some true⟩,
 ⟨fun a σ=>fload none (a.get 11) σ,some 12,fun _=>some true⟩,
 ⟨fun a σ=>.val (a.get 12) σ,some 6,fun _=>some true⟩]
def AfD:List COp:=Rl ()
def Rm(_:Unit):List COp:=[⟨fun a σ=>.val (a.get 6) σ,some 13,fun _=>some true⟩,
 ⟨fun a σ=>i_lss Tryz.prog 3 (.tmp 13) (.const (.int .i64 0)) (a.get 13) (.int .i64 0) σ,some 14,fun _=>some true⟩,
 ⟨fun a σ=>.val (a.get 14) σ,some 15,fun _=>some true⟩,
 ⟨fun a σ=>.val (a.get 6) σ,some 16,fun a=>gd (a.get 15) false⟩,
 ⟨fun a σ=>.val (a.get 0) σ,some 17,fun a=>gd (a.get 15) false⟩,
 ⟨fun a σ=>fnilCheck (a.get 17) σ,some 18,fun a=>gd (a.get 15) false⟩,
 ⟨fun a σ=>ffield 3 (a.get 18) σ,some 19,fun a=>gd (a.get 15) false⟩,
 ⟨fun a σ=>fload none (a.get 19) σ,some 20,fun a=>gd (a.get 15) false⟩,
 ⟨fun a σ=>flenL (a.get 20) σ,some 21,fun a=>gd (a.get 15) false⟩,
 ⟨fun a σ=>i_geq Tryz.prog 3 (.tmp 16) (.tmp 21) (a.get 16) (a.get 21) σ,some 22,fun a=>gd (a.get 15) false⟩,
 ⟨fun a σ=>fpick (a.get 15) (.bool true) (a.get 22) σ,some 23,fun _=>some true⟩]
def AfE:List COp:=Rm ()
def AnO(_:Unit):List COp:=[⟨fun a σ=>.enter 136 [(.int .i64 9)] σ,some 24,fun _=>some true⟩]
def Asl:List COp:=AnO ()
def Rn(_:Unit):List COp:=[⟨fun a σ=>.val (a.get 0) σ,some 25,fun _=>some true⟩,
 ⟨fun a σ=>fnilCheck (a.get 25) σ,some 26,fun _=>some true⟩,
 ⟨fun a σ=>ffield 3 (a.get 26) σ,some 27,fun _=>some true⟩,
 ⟨fun a σ=>fload none (a.get 27) σ,some 28,fun _=>some true⟩,
 ⟨fun a σ=>.val (a.get 6) σ,some 29,fun _=>some true⟩,
 ⟨fun a σ=>findex (none,4) (a.get 28) (a.get 29) σ,some 30,fun _=>some true⟩,
 ⟨fun a σ=>.val (a.get 30) σ,some 0,fun _=>some true⟩]
def AfF:List COp:=Rn ()
def Ro(_:Unit):List COp:=[⟨fun a σ=>i_add Tryz.prog 3 (.tmp 9) (.const (.int .i64 1)) (a.get 9) (.int .i64 1) σ,some 31,fun _=>some true⟩,
 ⟨fun a σ=>.val (a.get 31) σ,some 9,fun _=>some true⟩]
def AfG:List COp:=Ro ()
def Q1(E:Env)(ro:Option Nat)(fn:FuncId):RunF:=(seqR (fops E ro AfC) (seqR (condR (fun a=>(a.get 10)) skipR (exitR 0)) (seqR (blockR 1 (seqR (fops E ro AfD) (seqR (seqR (fops E ro AfE) (condR (fun a=>(a.get 23)) (fops E ro Asl) skipR)) (fops E ro AfF)))) (fops E ro AfG))))
def Rp(_:Unit):List COp:=[⟨fun a σ=>.val (a.get 0) σ,some 32,fun _=>some true⟩,
 ⟨fun a σ=>.val (a.get 32) σ,some 4,fun _=>some true⟩]
def AfH:List COp:=Rp ()
def Zx(E:Env)(ro:Option Nat)(fn:FuncId):RunF:=(seqR (fops E ro AfA) (seqR (seqR (fops E ro AfB) (blockR 0 (loopR (keepOf nls fn) (Q1 E ro fn)))) (seqR (fops E ro AfH) retR)))
theorem Acb:fops E ro AfA a u σ=fops E ro (Rj ()) a u σ:=rfl
theorem Acc:fops E ro AfB a u σ=fops E ro (Rk ()) a u σ:=rfl
theorem Pz:fops E ro AfC a u σ=fops E ro (Lz ()) a u σ:=rfl
theorem Acd:fops E ro AfD a u σ=fops E ro (Rl ()) a u σ:=rfl
theorem Ace:fops E ro AfE a u σ=fops E ro (Rm ()) a u σ:=rfl
theorem Acf:fops E ro AfF a u σ=fops E ro (Rn ()) a u σ:=rfl
theorem Acg:fops E ro AfG a u σ=fops E ro (Ro ()) a u σ:=rfl
theorem Ach:fops E ro AfH a u σ=fops E ro (Rp ()) a u σ:=rfl
theorem Amo(E:Env)(ro:Option Nat)(fn:FuncId):code Tryz.prog nls (Tryz.f109.body.getD .skip) E ro fn=Zx E ro fn:=by kernel_rfl
theorem AeD(E:Env)(args:List Value)(u:Option FrameMode)(σ:FState)(hn:args.length≤(7:Nat)):fcall Tryz.prog nls E 109 args u σ=leaveR Tryz.prog E [.tmp 4] (Zx E none 109 ⟨padTo undef 7 args,fun _=>undef,7,33,[]⟩ u σ):=by
 rw[Ao (body:=Tryz.f109.body.getD .skip) Tryz.func109 rfl E args u σ 7 33 (by kernel_rfl) rfl ⟨hn,by decide⟩,Amo]
 rfl
def TQ(_:Unit):List COp:=[⟨fun a σ=>newCells [(.int .i64 0),(.int .i64 0),(.string ⟨#[]⟩),(.slice none 0 0)] 24 none σ,some 2,fun _=>some true⟩,
 ⟨fun a σ=>.val (.int .i64 0) σ,some 3,fun _=>some true⟩]
def Ard:List COp:=TQ ()
def TR(_:Unit):List COp:=[⟨fun a σ=>.val (a.get 0) σ,some 8,fun _=>some true⟩,
 ⟨fun a σ=>.enter 141 [(a.get 8)] σ,some 9,fun _=>some true⟩,
 ⟨fun a σ=>.val (a.get 9) σ,some 7,fun _=>some true⟩,
 ⟨fun a σ=>fextract 0 (a.get 7) σ,some 10,fun _=>some true⟩,
 ⟨fun a σ=>fextract 1 (a.get 7) σ,some 11,fun _=>some true⟩,
 ⟨fun a σ=>fextract 2 (a.get 7) σ,some 12,fun _=>some true⟩,
 ⟨fun a σ=>newCells [(.int .i64 0),(.int .i64 0),(.string ⟨#[]⟩),(.slice none 0 0)] 24 none σ,some 4,fun _=>some true⟩,
 ⟨fun a σ=>fstore 4 (a.get 4) (a.get 10) σ,none,fun _=>some true⟩,
 ⟨fun a σ=>.val (a.get 11) σ,some 5,fun _=>some true⟩,
 ⟨fun a σ=>.val (a.get 12) σ,some 6,fun _=>some true⟩]
def Arf:List COp:=TR ()
def TT(_:Unit):List COp:=[⟨fun a σ=>fload (some 4) (a.get 4) σ,some 13,fun _=>some true⟩,
 ⟨fun a σ=>.val (a.get 6) σ,some 14,fun _=>some true⟩,
 ⟨fun a σ=>fstore 4 (a.get 2) (a.get 13) σ,none,fun _=>some true⟩,
 ⟨fun a σ=>.val (a.get 14) σ,some 3,fun _=>some true⟩]
def Arh:List COp:=TT ()
def Aa9(E:Env)(ro:Option Nat)(fn:FuncId):RunF:=(seqR (fops E ro Ard) (seqR (fops E ro Arf) (seqR (fops E ro Arh) retR)))
theorem Wv:fops E ro Ard a u σ=fops E ro (TQ ()) a u σ:=rfl
theorem Ww:fops E ro Arf a u σ=fops E ro (TR ()) a u σ:=rfl
theorem Wx:fops E ro Arh a u σ=fops E ro (TT ()) a u σ:=rfl
theorem ArV(E:Env)(ro:Option Nat)(fn:FuncId):code Tryz.prog nls (Tryz.f99.body.getD .skip) E ro fn=Aa9 E ro fn:=by kernel_rfl
theorem Aag(E:Env)(args:List Value)(u:Option FrameMode)(σ:FState)(hn:args.length≤(7:Nat)):fcall Tryz.prog nls E 99 args u σ=leaveR Tryz.prog E [.cell 2 24,.tmp 3] (Aa9 E none 99 ⟨padTo undef 7 args,fun _=>undef,7,15,[]⟩ u σ):=by
 rw[Ao (body:=Tryz.f99.body.getD .skip) Tryz.func99 rfl E args u σ 7 15 (by kernel_rfl) rfl ⟨hn,by decide⟩,ArV]
 rfl
def LX(_:Unit):List COp:=[⟨fun a σ=>newCells [(.int .i64 0),(.int .i64 0),(.string ⟨#[]⟩),(.slice none 0 0)] 24 none σ,some 2,fun _=>some true⟩,
 ⟨fun a σ=>newCells [(.int .i64 0)] 3 none σ,some 3,fun _=>some true⟩,
 ⟨fun a σ=>newCells [(.int .i64 0)] 32 none σ,some 4,fun _=>some true⟩]
def Aho:List COp:=LX ()
def LY(_:Unit):List COp:=[⟨fun a σ=>.val (.func (.func 164) #[] #[(a.get 3),(a.get 4)]) σ,some 5,fun _=>some true⟩,
 ⟨fun a σ=>fdefer (a.get 5) [] σ,none,fun _=>some true⟩]
def Ahp:List COp:=LY ()
def LZ(_:Unit):List COp:=[⟨fun a σ=>.val (a.get 0) σ,some 6,fun _=>some true⟩,
 ⟨fun a σ=>fcallV (a.get 6) [] σ,some 7,fun _=>some true⟩,
 ⟨fun a σ=>fstore 4 (a.get 2) (a.get 7) σ,none,fun _=>some true⟩,
 ⟨fun a σ=>fstore 1 (a.get 3) (.int .i64 0) σ,none,fun _=>some true⟩,
 ⟨fun a σ=>fstore 1 (a.get 4) (.int .i64 0) σ,none,fun _=>some true⟩]
def Ahq:List COp:=LZ ()
def Ua(E:Env)(ro:Option Nat)(fn:FuncId):RunF:=(seqR (fops E ro Aho) (seqR (fops E ro Ahp) (seqR (fops E ro Ahq) retR)))
theorem PW:fops E ro Aho a u σ=fops E ro (LX ()) a u σ:=rfl
theorem PX:fops E ro Ahp a u σ=fops E ro (LY ()) a u σ:=rfl
theorem PY:fops E ro Ahq a u σ=fops E ro (LZ ()) a u σ:=rfl
theorem AmC(E:Env)(ro:Option Nat)(fn:FuncId):code Tryz.prog nls (Tryz.f141.body.getD .skip) E ro fn=Ua E ro fn:=by kernel_rfl
theorem UL(E:Env)(args:List Value)(u:Option FrameMode)(σ:FState)(hn:args.length≤(5:Nat)):fcall Tryz.prog nls E 141 args u σ=leaveR Tryz.prog E [.cell 2 24,.cell 3 3,.cell 4 32] (Ua E none 141 ⟨padTo undef 5 args,fun _=>undef,5,8,[]⟩ u σ):=by
 rw[Ao (body:=Tryz.f141.body.getD .skip) Tryz.func141 rfl E args u σ 5 8 (by kernel_rfl) rfl ⟨hn,by decide⟩,AmC]
 rfl
def Mc(_:Unit):List COp:=[⟨fun a σ=>.recover σ,some 6,fun _=>some true⟩]
def Ain:List COp:=Mc ()
def Md(_:Unit):List COp:=[⟨fun a σ=>i_eql Tryz.prog 20 (.tmp 6) (.const .nilIface) (a.get 6) .nilIface σ,some 7,fun _=>some true⟩]
def Aio:List COp:=Md ()
def Sm(_:Unit):List COp:=[⟨fun a σ=>.val (a.get 6) σ,some 2,fun _=>some true⟩]
def Aip:List COp:=Sm ()
def Sn(_:Unit):List COp:=[⟨fun a σ=>fassert Tryz.prog (a.get 6) 176 true σ,some 8,fun _=>some true⟩,
 ⟨fun a σ=>fextract 1 (a.get 8) σ,some 9,fun _=>some true⟩,
 ⟨fun a σ=>fextract 0 (a.get 8) σ,some 10,fun _=>some true⟩]
def Aiq:List COp:=Sn ()
def Sq(_:Unit):List COp:=[⟨fun a σ=>.val (a.get 10) σ,some 3,fun _=>some true⟩]
def Air:List COp:=Sq ()
def Sr(_:Unit):List COp:=[⟨fun a σ=>.val (a.get 3) σ,some 11,fun _=>some true⟩,
 ⟨fun a σ=>.enter 148 [(a.get 11)] σ,some 12,fun _=>some true⟩,
 ⟨fun a σ=>newCells [(.int .i64 0),(.int .i64 0)] 178 none σ,some 4,fun _=>some true⟩,
 ⟨fun a σ=>fstore 2 (a.get 4) (a.get 12) σ,none,fun _=>some true⟩]
def Ais:List COp:=Sr ()
def Ss(_:Unit):List DOp:=[⟨fun a σ=>ffield 1 (a.get 4) σ,some 13,fun _=>some true,some 0,false⟩,
 ⟨fun a σ=>fload none (a.get 13) σ,some 14,fun _=>some true,some 0,false⟩,
 ⟨fun a σ=>fstore 1 (a.get 0) (a.get 14) σ,none,fun _=>some true,none,false⟩,
 ⟨fun a σ=>ffield 0 (a.get 4) σ,some 15,fun _=>some true,some 0,false⟩,
 ⟨fun a σ=>fload none (a.get 15) σ,some 16,fun _=>some true,some 0,false⟩,
 ⟨fun a σ=>fstore 1 (a.get 1) (a.get 16) σ,none,fun _=>some true,none,true⟩]
def Ait:List DOp:=Ss ()
def AnX(_:Unit):List COp:=[⟨fun a σ=>.val (a.get 6) σ,some 5,fun _=>some true⟩]
def Asu:List COp:=AnX ()
def AnY(_:Unit):List COp:=[⟨fun a σ=>fstore 1 (a.get 1) (.int .i64 1) σ,none,fun _=>some true⟩]
def Asv:List COp:=AnY ()
def Ub(E:Env)(ro:Option Nat)(fn:FuncId):RunF:=(seqR (fops E ro Ain) (blockR 0 (seqR (fops E ro Aio) (condR (fun a=>(a.get 7)) (fops E ro Aip) (seqR (fops E ro Aiq) (condR (fun a=>(a.get 9)) (seqR (fops E ro Air) (seqR (fops E ro Ais) (drawR E ro Ait))) (seqR (fops E ro Asu) (fops E ro Asv))))))))
theorem P8:fops E ro Ain a u σ=fops E ro (Mc ()) a u σ:=rfl
theorem P9:fops E ro Aio a u σ=fops E ro (Md ()) a u σ:=rfl
theorem Ada:fops E ro Aip a u σ=fops E ro (Sm ()) a u σ:=rfl
theorem Adb:fops E ro Aiq a u σ=fops E ro (Sn ()) a u σ:=rfl
theorem Adc:fops E ro Air a u σ=fops E ro (Sq ()) a u σ:=rfl
theorem Ade:fops E ro Ais a u σ=fops E ro (Sr ()) a u σ:=rfl
theorem Adf:fdraw E ro last Ait cl a u σ=fdraw E ro last (Ss ()) cl a u σ:=rfl
theorem AmP(E:Env)(ro:Option Nat)(fn:FuncId):code Tryz.prog nls (Tryz.f164.body.getD .skip) E ro fn=Ub E ro fn:=by kernel_rfl
theorem UM(E:Env)(args:List Value)(u:Option FrameMode)(σ:FState)(hn:args.length≤(6:Nat)):fcall Tryz.prog nls E 164 args u σ=leaveR Tryz.prog E [] (Ub E none 164 ⟨padTo undef 6 args,fun _=>undef,6,17,[]⟩ u σ):=by
 rw[Ao (body:=Tryz.f164.body.getD .skip) Tryz.func164 rfl E args u σ 6 17 (by kernel_rfl) rfl ⟨hn,by decide⟩,AmP]
 rfl
def Re(_:Unit):List COp:=[⟨fun a σ=>fbox 24 (a.get 0) σ,some 1,fun _=>some true⟩,
 ⟨fun a σ=>newCells [(.int .i64 0),(.int .i64 0),(.string ⟨#[]⟩),(.slice none 0 0)] 24 none σ,some 2,fun _=>some true⟩]
def Aft:List COp:=Re ()
def Rf(_:Unit):List DOp:=[⟨fun a σ=>ffield 3 (a.get 1) σ,some 9,fun _=>some true,some 0,false⟩,
 ⟨fun a σ=>fload none (a.get 9) σ,some 10,fun _=>some true,some 0,false⟩,
 ⟨fun a σ=>.enter 139 [(a.get 10),(.func (.func 104) #[] #[])] σ,some 11,fun _=>some true,none,false⟩,
 ⟨fun a σ=>ffield 0 (a.get 1) σ,some 3,fun _=>some true,some 0,false⟩,
 ⟨fun a σ=>fload none (a.get 3) σ,some 4,fun _=>some true,some 0,false⟩,
 ⟨fun a σ=>ffield 1 (a.get 1) σ,some 5,fun _=>some true,some 0,false⟩,
 ⟨fun a σ=>fload none (a.get 5) σ,some 6,fun _=>some true,some 0,false⟩,
 ⟨fun a σ=>ffield 2 (a.get 1) σ,some 7,fun _=>some true,some 0,false⟩,
 ⟨fun a σ=>fload none (a.get 7) σ,some 8,fun _=>some true,some 0,false⟩,
 ⟨fun a σ=>fbuild (fun i=>nth [(0,1),(1,1),(2,1),(3,1)] i) [(.int .i64 0),(.int .i64 0),(.string ⟨#[]⟩),(.slice none 0 0)] [(0,(a.get 4)),(1,(a.get 6)),(2,(a.get 8)),(3,(a.get 11))] σ,some 12,fun _=>some true,some 1,false⟩,
 ⟨fun a σ=>fstore 4 (a.get 2) (a.get 12) σ,none,fun _=>some true,none,true⟩]
def Afu:List DOp:=Rf ()
def Zu(E:Env)(ro:Option Nat)(fn:FuncId):RunF:=(seqR (fops E ro Aft) (seqR (drawR E ro Afu) retR))
theorem Ab6:fops E ro Aft a u σ=fops E ro (Re ()) a u σ:=rfl
theorem Ab7:fdraw E ro last Afu cl a u σ=fdraw E ro last (Rf ()) cl a u σ:=rfl
theorem Aml(E:Env)(ro:Option Nat)(fn:FuncId):code Tryz.prog nls (Tryz.f104.body.getD .skip) E ro fn=Zu E ro fn:=by kernel_rfl
theorem AeA(E:Env)(args:List Value)(u:Option FrameMode)(σ:FState)(hn:args.length≤(2:Nat)):fcall Tryz.prog nls E 104 args u σ=leaveR Tryz.prog E [.cell 2 24] (Zu E none 104 ⟨padTo undef 2 args,fun _=>undef,2,13,[]⟩ u σ):=by
 rw[Ao (body:=Tryz.f104.body.getD .skip) Tryz.func104 rfl E args u σ 2 13 (by kernel_rfl) rfl ⟨hn,by decide⟩,Aml]
 rfl
def H7(_:Unit):List COp:=[⟨fun a σ=>.val (.slice none 0 0) σ,some 4,fun _=>some true⟩]
def Ag8:List COp:=H7 ()
def H9(_:Unit):List COp:=[⟨fun a σ=>.val (a.get 0) σ,some 7,fun _=>some true⟩,
 ⟨fun a σ=>flenL (a.get 7) σ,some 8,fun _=>some true⟩,
 ⟨fun a σ=>i_eql Tryz.prog 3 (.tmp 8) (.const (.int .i64 0)) (a.get 8) (.int .i64 0) σ,some 9,fun _=>some true⟩]
def Ag9:List COp:=H9 ()
def LP(_:Unit):List COp:=[⟨fun a σ=>.val (.slice none 0 0) σ,some 4,fun _=>some true⟩]
def Aha:List COp:=LP ()
def LQ(_:Unit):List COp:=[⟨fun a σ=>.val (a.get 0) σ,some 10,fun _=>some true⟩,
 ⟨fun a σ=>flenL (a.get 10) σ,some 11,fun _=>some true⟩,
 ⟨fun a σ=>fmakeSlice 24 56 [(.int .i64 0),(.int .i64 0),(.string ⟨#[]⟩),(.slice none 0 0)] (a.get 11) (a.get 11) σ,some 12,fun _=>some true⟩,
 ⟨fun a σ=>.val (a.get 12) σ,some 5,fun _=>some true⟩]
def Ahb:List COp:=LQ ()
def LR(_:Unit):List COp:=[⟨fun a σ=>.val (a.get 0) σ,some 13,fun _=>some true⟩,
 ⟨fun a σ=>flenL (a.get 13) σ,some 14,fun _=>some true⟩,
 ⟨fun a σ=>.val (.int .i64 0) σ,some 15,fun _=>some true⟩]
def Ahc:List COp:=LR ()
def Ia(_:Unit):List COp:=[⟨fun a σ=>i_lss Tryz.prog 3 (.tmp 15) (.tmp 14) (a.get 15) (a.get 14) σ,some 16,fun _=>some true⟩]
def Ahd:List COp:=Ia ()
def LS(_:Unit):List COp:=[⟨fun a σ=>.val (a.get 15) σ,some 17,fun _=>some true⟩,
 ⟨fun a σ=>.val (a.get 17) σ,some 6,fun _=>some true⟩]
def Ahe:List COp:=LS ()
def LU(_:Unit):List COp:=[⟨fun a σ=>.val (a.get 5) σ,some 18,fun _=>some true⟩,
 ⟨fun a σ=>.val (a.get 6) σ,some 19,fun _=>some true⟩,
 ⟨fun a σ=>.val (a.get 1) σ,some 20,fun _=>some true⟩,
 ⟨fun a σ=>.val (a.get 0) σ,some 21,fun _=>some true⟩,
 ⟨fun a σ=>.val (a.get 6) σ,some 22,fun _=>some true⟩,
 ⟨fun a σ=>findex (none,4) (a.get 21) (a.get 22) σ,some 23,fun _=>some true⟩,
 ⟨fun a σ=>fload (some 4) (a.get 23) σ,some 24,fun _=>some true⟩,
 ⟨fun a σ=>fcallV (a.get 20) [(a.get 24)] σ,some 25,fun _=>some true⟩,
 ⟨fun a σ=>findex (none,4) (a.get 18) (a.get 19) σ,some 26,fun _=>some true⟩,
 ⟨fun a σ=>fstore 4 (a.get 26) (a.get 25) σ,none,fun _=>some true⟩]
def Ahf:List COp:=LU ()
def LV(_:Unit):List COp:=[⟨fun a σ=>i_add Tryz.prog 3 (.tmp 15) (.const (.int .i64 1)) (a.get 15) (.int .i64 1) σ,some 27,fun _=>some true⟩,
 ⟨fun a σ=>.val (a.get 27) σ,some 15,fun _=>some true⟩]
def Ahg:List COp:=LV ()
def I_(E:Env)(ro:Option Nat)(fn:FuncId):RunF:=(seqR (fops E ro Ahd) (seqR (condR (fun a=>(a.get 16)) skipR (exitR 0)) (seqR (blockR 1 (seqR (fops E ro Ahe) (fops E ro Ahf))) (fops E ro Ahg))))
def LW(_:Unit):List COp:=[⟨fun a σ=>.val (a.get 5) σ,some 28,fun _=>some true⟩,
 ⟨fun a σ=>.val (a.get 28) σ,some 4,fun _=>some true⟩]
def Ahh:List COp:=LW ()
def T_(E:Env)(ro:Option Nat)(fn:FuncId):RunF:=(seqR (fops E ro Ag8) (seqR (seqR (fops E ro Ag9) (condR (fun a=>(a.get 9)) (seqR (fops E ro Aha) retR) skipR)) (seqR (fops E ro Ahb) (seqR (seqR (fops E ro Ahc) (blockR 0 (loopR (keepOf nls fn) (I_ E ro fn)))) (seqR (fops E ro Ahh) retR)))))
theorem H8:fops E ro Ag8 a u σ=fops E ro (H7 ()) a u σ:=rfl
theorem H_:fops E ro Ag9 a u σ=fops E ro (H9 ()) a u σ:=rfl
theorem PP:fops E ro Aha a u σ=fops E ro (LP ()) a u σ:=rfl
theorem PQ:fops E ro Ahb a u σ=fops E ro (LQ ()) a u σ:=rfl
theorem PR:fops E ro Ahc a u σ=fops E ro (LR ()) a u σ:=rfl
theorem Ib:fops E ro Ahd a u σ=fops E ro (Ia ()) a u σ:=rfl
theorem PS:fops E ro Ahe a u σ=fops E ro (LS ()) a u σ:=rfl
theorem PT:fops E ro Ahf a u σ=fops E ro (LU ()) a u σ:=rfl
theorem PU:fops E ro Ahg a u σ=fops E ro (LV ()) a u σ:=rfl
theorem PV:fops E ro Ahh a u σ=fops E ro (LW ()) a u σ:=rfl
theorem AmB(E:Env)(ro:Option Nat)(fn:FuncId):code Tryz.prog nls (Tryz.f139.body.getD .skip) E ro fn=T_ E ro fn:=by kernel_rfl
theorem UK(E:Env)(args:List Value)(u:Option FrameMode)(σ:FState)(hn:args.length≤(7:Nat)):fcall Tryz.prog nls E 139 args u σ=leaveR Tryz.prog E [.tmp 4] (T_ E none 139 ⟨padTo undef 7 args,fun _=>undef,7,29,[]⟩ u σ):=by
 rw[Ao (body:=Tryz.f139.body.getD .skip) Tryz.func139 rfl E args u σ 7 29 (by kernel_rfl) rfl ⟨hn,by decide⟩,AmB]
 rfl
end Go.Proofs.YtokieofohmgjdaaGreatDoor
namespace Go.Proofs.YtokieofohmgjdaaGreatDoor
open Go Go.Eng
attribute [local congr] Ab Ah Af Ad Ae
attribute [-go_sem] List.range_succ
theorem U4:(match (Tryz.prog.fieldsOf 193).toList with
  | [a,b,c]=>a.name != "_" && b.name != "_" && c.name != "_" && a.type==3&&b.type==3&&c.type==9&&a.offset==0&&b.offset==1&&c.offset==2
  | _=>false)=true:=by kernel_rfl
theorem AlO(k n k' n':Int)(t t':ByteArray):prun Tryz.prog (Op.equalIn 10000 193 (.agg #[.int .i64 k,.int .i64 n,.string t]) (.agg #[.int .i64 k',.int .i64 n',.string t']))=some (.ok ((k==k')&&(n==n')&&(t.toList==t'.toList))):=by
 have hS:Tryz.prog.underlying 193=some (.struct (Tryz.prog.fieldsOf 193)):=by kernel_rfl
 have hp:Tryz.prog.stoodInHeld 193=false:=by kernel_rfl
 have u3:Tryz.prog.underlying 3=some (.int .i64):=by kernel_rfl
 have us:Tryz.prog.underlying 9=some .string:=by kernel_rfl
 have p0:∀a b c:Value,prun Tryz.prog (part 3 #[a,b,c] 0)=some (.ok a):=fun a b c=>by kernel_rfl
 have p1:∀a b c:Value,prun Tryz.prog (part 3 #[a,b,c] 1)=some (.ok b):=fun a b c=>by kernel_rfl
 have p2:∀a b c:Value,prun Tryz.prog (part 9 #[a,b,c] 2)=some (.ok c):=fun a b c=>by kernel_rfl
 rw[show (10000:Nat)=9999+1 from rfl,IM 9999 _ _ _ hS hp]
 have hf:=U4
 generalize (Tryz.prog.fieldsOf 193).toList=fs at hf ⊢
 match fs,hf with
 | [a,b,c],hf=>
  simp only[Bool.and_eq_true,bne_iff_ne,beq_iff_eq] at hf
  obtain⟨⟨⟨⟨⟨⟨⟨⟨n1,n2⟩,n3⟩,t1⟩,t2⟩,t3⟩,o1⟩,o2⟩,o3⟩:=hf
  simp only[Op.eqFields,n1,n2,n3,t1,t2,t3,o1,o2,o3,ne_eq,not_false_eq_true,if_true,Er,p0,p1,p2,Gk 9998 _ _ _ _ _ u3,Fh 9998 _ _ _ us]
  cases h1:k==k'<;>cases h2:n==n'<;>cases h3:t.toList==t'.toList<;>simp only[h1,h2,h3,Bool.not_true,Bool.not_false,Bool.false_eq_true,if_true,if_false,reduceIte,HU,Er,Bool.and_true,Bool.and_false,Bool.true_and,Bool.false_and,Bool.and_self,p0,p1,p2,Gk 9998 _ _ _ _ _ u3,Fh 9998 _ _ _ us]
set_option maxRecDepth 100000 in
theorem UW(x y:Operand)(k n k' n':Int)(t t':ByteArray)(σ:FState):i_eql Tryz.prog 193 x y (.agg #[.int .i64 k,.int .i64 n,.string t]) (.agg #[.int .i64 k',.int .i64 n',.string t']) σ=.val (.bool ((k==k')&&(n==n')&&(t.toList==t'.toList))) σ:=by
 rw[show i_eql Tryz.prog 193 x y (.agg #[.int .i64 k,.int .i64 n,.string t]) (.agg #[.int .i64 k',.int .i64 n',.string t']) σ=fbin0 Tryz.prog .eql 193 x y (.agg #[.int .i64 k,.int .i64 n,.string t]) (.agg #[.int .i64 k',.int .i64 n',.string t']) σ by kernel_rfl]
 unfold fbin0 orPure
 have h1:plain2 (.agg #[.int .i64 k,.int .i64 n,.string t]) (.agg #[.int .i64 k',.int .i64 n',.string t'])=true:=by kernel_rfl
 have h2:prun Tryz.prog (eqGuard .eql 193 x y (.agg #[.int .i64 k,.int .i64 n,.string t]) (.agg #[.int .i64 k',.int .i64 n',.string t']))=some (.ok ()):=by kernel_rfl
 rw[h1,Er,h2]
 simp only[binOp,Op.equal,Op.maxDepth,Er,AlO,HU]
 rfl
theorem Ama:aggSize Tryz.prog 193=some (some 3):=by kernel_rfl
theorem O_(n:Nat)(k z:Int)(t:ByteArray)(s:Value)(hs:oneCell s=true)(σ:FState)(hw:Wf σ):
  Gives ((env (n+1)).call 167 [.agg #[.int .i64 k,.int .i64 z,.string t,s]] none σ) σ fun w _=>w=.agg #[.int .i64 k,.int .i64 z,.string t]:=by
 rw[Ak _ 167 _ _ rfl,AeV _ _ _ _ (by simp),Aj]
 unfold ZP
 simp -implicitDefEqProofs only[go_sem,Aw,Adg,Su,Adh,Sv,Ama,Bj,AX,AP,A0]
 exact⟨_,_,rfl,(((Ext.refl _).push _ _).push _ _).put _ _ _ (by omega),((hw.push _ _).push _ _).put _ _ _ (Nat.lt_succ_self _),rfl⟩
theorem Xe(n:Nat)(k1 n1 k2 n2:Int)(t1 t2:ByteArray)(s1 s2:Value)(h1:oneCell s1=true)(h2:oneCell s2=true)(σ:FState)(B:Bool)(hw:Wf σ)(h:∀σ',Ext σ σ'→Wf σ'→Gives ((env (n+1)).call 168 [s1,s2,.func (.func 144) #[] #[]] none σ') σ' fun v _=>v=.bool B):
  Gives ((env (n+2)).call 144 [.agg #[.int .i64 k1,.int .i64 n1,.string t1,s1],.agg #[.int .i64 k2,.int .i64 n2,.string t2,s2]] none σ) σ
   fun v _=>v=.bool ((k1==k2)&&(n1==n2)&&(t1.toList==t2.toList)&&B):=by
 rw[Ak _ 144 _ _ rfl,AeM _ _ _ _ (by simp),Aj]
 unfold ZG
 have x1:Ext σ ((σ.push (.cells [.int .i64 k1,.int .i64 n1,.string t1,s1] TD) none).push (.cells [.int .i64 k2,.int .i64 n2,.string t2,s2] TD) none):=((Ext.refl _).push _ _).push _ _
 have hw1:=(hw.push (.cells [.int .i64 k1,.int .i64 n1,.string t1,s1] TD) none).push (.cells [.int .i64 k2,.int .i64 n2,.string t2,s2] TD) none
 have c1:((σ.push (.cells [.int .i64 k1,.int .i64 n1,.string t1,s1] TD) none).push (.cells [.int .i64 k2,.int .i64 n2,.string t2,s2] TD) none).cells σ.next=some [.int .i64 k1,.int .i64 n1,.string t1,s1]:=by rw[Ac,if_neg (by rw[Aa];omega),Ac,if_pos rfl];rfl
 have c2:((σ.push (.cells [.int .i64 k1,.int .i64 n1,.string t1,s1] TD) none).push (.cells [.int .i64 k2,.int .i64 n2,.string t2,s2] TD) none).cells (σ.next+1)=some [.int .i64 k2,.int .i64 n2,.string t2,s2]:=by rw[Ac,if_pos (by rw[Aa])];rfl
 have kc:((σ.push (.cells [.int .i64 k1,.int .i64 n1,.string t1,s1] TD) none).push (.cells [.int .i64 k2,.int .i64 n2,.string t2,s2] TD) none).clock=σ.clock+2:=rfl
 simp -implicitDefEqProofs only[go_sem,AcQ,R2]
 generalize FState.push (FState.push σ _ _) _ _=σ1 at x1 hw1 c1 c2 kc ⊢
 have hv1:=D0 hw1 (lam:=σ.clock+2) (by omega)
 obtain⟨_,σ2,e2,x2,hw2,rfl⟩:=O_ n k1 n1 t1 s1 h1 σ1 hw1
 obtain⟨_,σ3,e3,x3,hw3,rfl⟩:=O_ n k2 n2 t2 s2 h2 σ2 hw2
 have hv3:=D0 hw3 (Nat.le_refl _)
 have c2':(view σ2 (σ.clock+2)).cells (σ.next+1)=some [.int .i64 k2,.int .i64 n2,.string t2,s2]:=ED hw1 (by omega) (x2.get _ (hw1.cells c2)) c2
 have c13:=(x3.cells (hw2.cells ((x2.cells (hw1.cells c1)).trans c1))).trans ((x2.cells (hw1.cells c1)).trans c1)
 have c23:=(x3.cells (hw2.cells ((x2.cells (hw1.cells c2)).trans c2))).trans ((x2.cells (hw1.cells c2)).trans c2)
 cases e:((k1==k2)&&(n1==n2)&&(t1.toList==t2.toList)) with
 | false=>
  simp -implicitDefEqProofs only[go_sem,PZ,L6,hv1,c1,e2,c2',e3,UW,e,hv3,c13,c23,h1,h2]
  exact⟨_,_,rfl,(x1.trans x2).trans x3,hw3,rfl⟩
 | true=>
  obtain⟨_,σ4,e4,x4,hw4,rfl⟩:=h σ3 ((x1.trans x2).trans x3) hw3
  simp -implicitDefEqProofs only[go_sem,PZ,L6,hv1,c1,e2,c2',e3,UW,e,hv3,c13,c23,h1,h2,e4]
  exact⟨_,_,rfl,((x1.trans x2).trans x3).trans x4,hw4,rfl⟩
end Go.Proofs.YtokieofohmgjdaaGreatDoor
namespace Go.Proofs.YtokieofohmgjdaaGreatDoor
open Go Go.Eng
attribute [local congr] Ab Ah Af Ad Ae
attribute [-go_sem] List.range_succ
theorem Ar3:keepOf nls 168=[15,16,17]:=by kernel_rfl
structure HeadEf (p p':Option Addr) (len c c':Nat) (k:Nat) (f g:Nat→Value):Prop where
 f1:f 1=.slice p' len c'
 f2:f 2=.func (.func 144) #[] #[]
 g15:g 15=.slice p len c
 g16:g 16=.int .i64 (.ofNat len)
 g17:g 17=.int .i64 (.ofNat k)
theorem HQ{σ:FState}{lv:List Value}{d:D}(h:Laid σ (.agg lv.toArray) d):∃k z t p c ds,d=.mk k z t ds∧lv=[.int .i64 k,.int .i64 z,.string t,.slice p ds.length c]:=by
 obtain⟨k,z,t,ds⟩:=d
 obtain⟨p,c,hv,_⟩:=h
 refine⟨k,z,t,p,c,ds,rfl,?_⟩
 have:=Value.agg.inj hv
 simpa using congrArg Array.toList this
theorem MH(n N:Nat)(hE:∀d d' v v' σ,D.deep d≤N→d.count<1000000000→Wf σ→Laid σ v d→Laid σ v' d'→Gives ((env n).call 144 [v,v'] none σ) σ fun w _=>w=.bool (D.same d d'))(p p':Option Addr)(len c c':Nat)(hlen:len<1000000000000):∀(ds ds':List D) (k fuel:Nat) (f g:Nat→Value) (σ:FState),k+ds.length=len→ds.length=ds'.length→ds.length<fuel→D.deeps ds≤N→D.counts ds<1000000000→
   Wf σ→LaidE σ p k ds→LaidE σ p' k ds'→HeadEf p p' len c c' k f g→
   ∃e f' g' σ',floop [15,16,17] (Q3 (env n) none 168) fuel (Sl 10 32 f g []) none σ=.done e (Sl 10 32 f' g' []) none σ'∧(if D.sames ds ds'=true then e=.exit 0 else e=.ret∧f' 6=.bool false)∧Ext σ σ'∧Wf σ':=by
 intro ds
 induction ds with
 | nil=>
  intro ds' k fuel f g σ hk hl hf _ _ hw h1 h2 h
  obtain⟨fuel,rfl⟩:∃f,fuel=f+1:=⟨fuel-1,by simp at hf;omega⟩
  have hd:decide ((Int.ofNat k)<(Int.ofNat len))=false:=by simp at hk ⊢;omega
  cases ds' with
  | cons _ _=>simp at hl
  | nil=>
   rw[Ar,BU]
   unfold Q3
   simp -implicitDefEqProofs only[go_sem,Qb,Mg,h.g16,h.g17,hd,List.mem_cons]
   exact⟨_,_,_,_,rfl,rfl,Ext.refl _,hw⟩
 | cons d ds ih=>
  intro ds' k fuel f g σ hk hl hf hN hM hw h1 h2 h
  obtain⟨fuel,rfl⟩:∃f,fuel=f+1:=⟨fuel-1,by simp at hf;omega⟩
  have hd:decide ((Int.ofNat k)<(Int.ofNat len))=true:=by simp at hk ⊢;omega
  have hlt:k<len:=by simp at hk;omega
  cases ds' with
  | nil=>simp at hl
  | cons d' ds'=>
   obtain⟨⟨b,off,cs,rfl,hc,hcl,hL⟩,h1r⟩:=h1
   obtain⟨⟨b',off',cs',rfl,hc',hcl',hL'⟩,h2r⟩:=h2
   have hN':D.deep d≤N∧D.deeps ds≤N:=by simp[D.deeps] at hN;omega
   have hM':d.count<1000000000∧D.counts ds<1000000000:=by rw[D.counts] at hM;omega
   obtain⟨k1,z1,t1,q1,c1,l1,rfl,e1⟩:=HQ hL
   obtain⟨k2,z2,t2,q2,c2,l2,rfl,e2⟩:=HQ hL'
   have hb:=hw.cells hc
   have hb':=hw.cells hc'
   have ne1:(b=σ.next)=False:=by simp;omega
   have ne2:(b'=σ.next)=False:=by simp;omega
   rw[e1] at hL
   rw[e2] at hL'
   rw[Ar,BU]
   unfold Q3
   simp -implicitDefEqProofs only[go_sem,Aw,Qb,Mg,Adk,Sz,Adl,SA,h.f1,h.g15,h.g16,h.g17,hd,hlt,hc,hc',hcl,hcl',e1,e2,ne1,ne2,List.mem_cons]
   generalize hff:upd _ 9 _=f1
   generalize hgg:upd _ 25 _=g1
   have x1:Ext σ ((((σ.push (.cells [.int .i64 0,.int .i64 0,.string ⟨#[]⟩,.slice none 0 0] TD) none).put σ.next (.cells [.int .i64 k1,.int .i64 z1,.string t1,.slice q1 l1.length c1] TD) none).push (.cells [.int .i64 0,.int .i64 0,.string ⟨#[]⟩,.slice none 0 0] TD) none).put (σ.next+1) (.cells [.int .i64 k2,.int .i64 z2,.string t2,.slice q2 l2.length c2] TD) none):=((((Ext.refl _).push _ _).put _ _ _ (Nat.le_refl _)).push _ _).put _ _ _ (by omega)
   have hw1:=(((hw.push (.cells [.int .i64 0,.int .i64 0,.string ⟨#[]⟩,.slice none 0 0] TD) none).put σ.next (.cells [.int .i64 k1,.int .i64 z1,.string t1,.slice q1 l1.length c1] TD) none (Nat.lt_succ_self _)).push (.cells [.int .i64 0,.int .i64 0,.string ⟨#[]⟩,.slice none 0 0] TD) none).put (σ.next+1) (.cells [.int .i64 k2,.int .i64 z2,.string t2,.slice q2 l2.length c2] TD) none (Nat.lt_succ_self _)
   have ca:((((σ.push (.cells [.int .i64 0,.int .i64 0,.string ⟨#[]⟩,.slice none 0 0] TD) none).put σ.next (.cells [.int .i64 k1,.int .i64 z1,.string t1,.slice q1 l1.length c1] TD) none).push (.cells [.int .i64 0,.int .i64 0,.string ⟨#[]⟩,.slice none 0 0] TD) none).put (σ.next+1) (.cells [.int .i64 k2,.int .i64 z2,.string t2,.slice q2 l2.length c2] TD) none).cells σ.next=some [.int .i64 k1,.int .i64 z1,.string t1,.slice q1 l1.length c1]:=by rw[Al,if_neg (by omega),Ac,if_neg (by rw[Ap,Aa];omega),Al,if_pos rfl];rfl
   have cb:((((σ.push (.cells [.int .i64 0,.int .i64 0,.string ⟨#[]⟩,.slice none 0 0] TD) none).put σ.next (.cells [.int .i64 k1,.int .i64 z1,.string t1,.slice q1 l1.length c1] TD) none).push (.cells [.int .i64 0,.int .i64 0,.string ⟨#[]⟩,.slice none 0 0] TD) none).put (σ.next+1) (.cells [.int .i64 k2,.int .i64 z2,.string t2,.slice q2 l2.length c2] TD) none).cells (σ.next+1)=some [.int .i64 k2,.int .i64 z2,.string t2,.slice q2 l2.length c2]:=by rw[Al,if_pos rfl];rfl
   generalize FState.put _ _ _ _=σ1 at x1 hw1 ca cb ⊢
   have k2':f1 2=.func (.func 144) #[] #[]:=by rw[←hff];simp -implicitDefEqProofs only[go_sem,reduceCtorEq,h.f2]
   have k8:f1 8=.pointer (some ⟨σ.next,0,none⟩):=by rw[←hff];simp -implicitDefEqProofs only[go_sem,reduceCtorEq]
   have k9:f1 9=.pointer (some ⟨σ.next+1,0,none⟩):=by rw[←hff];simp -implicitDefEqProofs only[go_sem,reduceCtorEq]
   obtain⟨_,σ2,e3,x2,hw2,rfl⟩:=hE _ _ _ _ σ1 hN'.1 hM'.1 hw1 (hL.ext hw x1) (hL'.ext hw x1)
   have m17:g1 17=.int .i64 (.ofNat k):=by rw[←hgg];simp -implicitDefEqProofs only[go_sem,reduceCtorEq,h.g17,List.mem_cons,true_or,or_true]
   have w1:=GH k (by omega)
   cases e:D.same (.mk k1 z1 t1 l1) (.mk k2 z2 t2 l2) with
   | false=>
    rw[e] at e3
    simp -implicitDefEqProofs only[go_sem,Qc,Mh,Adm,SB,k2',k8,k9,ca,cb,e3]
    refine⟨_,_,_,_,rfl,?_,x1.trans x2,hw2⟩
    rw[show D.sames (.mk k1 z1 t1 l1::ds) (.mk k2 z2 t2 l2::ds')=(D.same (.mk k1 z1 t1 l1) (.mk k2 z2 t2 l2)&&D.sames ds ds') from rfl,e,if_neg (by simp)]
    exact⟨rfl,by simp -implicitDefEqProofs only[go_sem,reduceCtorEq]⟩
   | true=>
    rw[e] at e3
    simp -implicitDefEqProofs only[go_sem,Qc,Mh,Adn,SC,k2',k8,k9,ca,cb,e3,m17,w1]
    generalize hg2:upd _ 17 _=g2
    obtain⟨e',f',g',σ',a1,a2,a3,a4⟩:=ih ds' (k+1) fuel f1 g2 σ2 (by simp at hk;omega) (by simpa using hl) (by simp at hf;omega) hN'.2 hM'.2 hw2 (h1r.ext hw (x1.trans x2)) (h2r.ext hw (x1.trans x2)) {
     f1:=by rw[←hff];simp -implicitDefEqProofs only[go_sem,reduceCtorEq,h.f1]
     f2:=k2'
     g15:=by rw[←hg2,←hgg];simp -implicitDefEqProofs only[go_sem,reduceCtorEq,h.g15,List.mem_cons,true_or,or_true]
     g16:=by rw[←hg2,←hgg];simp -implicitDefEqProofs only[go_sem,reduceCtorEq,h.g16,List.mem_cons,true_or,or_true]
     g17:=by rw[←hg2];simp -implicitDefEqProofs only[go_sem,reduceCtorEq] }
    refine⟨e',f',g',σ',a1,?_,(x1.trans x2).trans a3,a4⟩
    rw[show D.sames (.mk k1 z1 t1 l1::ds) (.mk k2 z2 t2 l2::ds')=(D.same (.mk k1 z1 t1 l1) (.mk k2 z2 t2 l2)&&D.sames ds ds') from rfl,e]
    exact a2
theorem MI(n N:Nat)(hE:∀d d' v v' σ,D.deep d≤N→d.count<1000000000→Wf σ→Laid σ v d→Laid σ v' d'→Gives ((env n).call 144 [v,v'] none σ) σ fun w _=>w=.bool (D.same d d'))(p p':Option Addr)(c c':Nat)(ds ds':List D)(σ:FState)(hN:D.deeps ds≤N)(hM:D.counts ds<1000000000)(hw:Wf σ)(h1:LaidE σ p 0 ds)(h2:LaidE σ p' 0 ds'):
  Gives ((env (n+1)).call 168 [.slice p ds.length c,.slice p' ds'.length c',.func (.func 144) #[] #[]] none σ) σ fun w _=>w=.bool (D.sames ds ds'):=by
 rw[Ak _ 168 _ _ rfl,AeW _ _ _ _ (by simp),Aj]
 unfold ZQ
 cases e1:((Int.ofNat ds.length)==(Int.ofNat ds'.length)) with
 | false=>
  simp -implicitDefEqProofs only[go_sem,P_,Me,Qa,Mf,Adi,Sx,e1]
  refine⟨_,_,rfl,Ext.refl _,hw,?_⟩
  have hne:ds.length≠ds'.length:=fun h=>by rw[h] at e1;simp at e1
  cases e:D.sames ds ds' with
  | false=>rfl
  | true=>exact absurd (Ha e) hne
 | true=>
  have hl:ds.length=ds'.length:=Int.ofNat.inj (eq_of_beq e1)
  simp -implicitDefEqProofs only[go_sem,P_,Me,Qa,Mf,Adj,Sy,e1,Ar3]
  generalize hff:upd _ 6 _=f1
  generalize hgg:upd _ 17 _=g1
  generalize hb:bigFuel=fuel
  have hlen:ds.length<1000000000000:=by have:=Eh ds;omega
  have hf:ds.length<fuel:=by rw[←hb];exact hlen
  obtain⟨e',f',g',σ',a1,a2,a3,a4⟩:=MH n N hE p p' ds.length c c' hlen ds ds' 0 fuel f1 g1 σ (by simp) hl hf hN hM hw h1 h2 {
   f1:=by rw[←hff];simp -implicitDefEqProofs only[go_sem,reduceCtorEq,hl]
   f2:=by rw[←hff];simp -implicitDefEqProofs only[go_sem,reduceCtorEq]
   g15:=by rw[←hgg];simp -implicitDefEqProofs only[go_sem,reduceCtorEq]
   g16:=by rw[←hgg];simp -implicitDefEqProofs only[go_sem,reduceCtorEq]
   g17:=by rw[←hgg];simp -implicitDefEqProofs only[go_sem,reduceCtorEq]<;>rfl }
  rw[a1]
  cases e:D.sames ds ds' with
  | false=>
   rw[e,if_neg (by simp)] at a2
   obtain⟨rfl,g8⟩:=a2
   simp -implicitDefEqProofs only[go_sem,g8]
   exact⟨_,_,rfl,a3,a4,rfl⟩
  | true=>
   rw[e,if_pos rfl] at a2
   subst a2
   simp -implicitDefEqProofs only[go_sem,Ye,Nu]
   exact⟨_,_,rfl,a3,a4,rfl⟩
theorem Lt(a b:Int):(a==b)=decide (a=b):=by
 by_cases h:a=b
 ·rw[decide_eq_true h];simp[h]
 ·rw[decide_eq_false h];simp[h]
theorem MJ(n:Nat):∀(N:Nat) (d d':D) (v v':Value) (σ:FState),D.deep d≤N→d.count<1000000000→Wf σ→Laid σ v d→Laid σ v' d'→Gives ((env (n+2*N)).call 144 [v,v'] none σ) σ fun w _=>w=.bool (D.same d d')
 | 0,d,_,_,_,_,h,_,_,_,_=>by cases d;rw[D.deep] at h;omega
 | N+1,.mk k z t ds,.mk k' z' t' ds',v,v',σ,h,hc,hw,⟨p,c,hv,hE⟩,⟨p',c',hv',hE'⟩=>by
  subst hv hv'
  rw[D.deep] at h
  rw[D.count] at hc
  have:=Xe (n+2*N) k z k' z' t t' (.slice p ds.length c) (.slice p' ds'.length c') (Au _ _ _) (Au _ _ _) σ (D.sames ds ds') hw fun σ' hx hw'=>
   MI (n+2*N) N (fun d d' v v' σ a b c e f=>MJ n N d d' v v' σ a b c e f) p p' c c' ds ds' σ' (by omega) (by omega) hw' (hE.ext hw hx) (hE'.ext hw hx)
  rw[show D.same (.mk k z t ds) (.mk k' z' t' ds')=(decide (k=k')&&decide (z=z')&&(t.toList==t'.toList)&&D.sames ds ds') from rfl,←Lt,←Lt]
  exact this
end Go.Proofs.YtokieofohmgjdaaGreatDoor
namespace Go.Proofs.YtokieofohmgjdaaGreatDoor
open Go Go.Eng
attribute [local congr] Ab
theorem QK(n:Nat)(k1 n1 k2 n2:Int)(t1 t2:ByteArray)(s1 s2:Value)(σ:FState)(B:Bool)(hw:Wf σ)(h:∀σ',Ext σ σ'→Wf σ'→Gives ((env n).call 36 [s1,s2] none σ') σ' fun v _=>v=.bool B):
  Gives ((env (n+1)).call 21 [.agg #[.int .i64 k1,.int .i64 n1,.string t1,s1],.agg #[.int .i64 k2,.int .i64 n2,.string t2,s2]] none σ) σ
   fun v _=>v=.bool ((k1==k2)&&(n1==n2)&&(t1.toList==t2.toList)&&B):=by
 rw[Ak _ 21 _ _ rfl,Ana _ _ _ _ (by simp)]
 generalize ha:(⟨padTo undef 4 _,fun _=>undef,4,31,[]⟩:FAct)=a
 have hok:a.ok:=by rw[←ha];exact VF _ _ _ _
 have hnt:a.nt=31:=by rw[←ha]
 have hds:a.defers=[]:=by rw[←ha]
 have hg0:a.get 0=.agg #[.int .i64 k1,.int .i64 n1,.string t1,s1]:=by rw[←ha,HN];rfl
 have hg1:a.get 1=.agg #[.int .i64 k2,.int .i64 n2,.string t2,s2]:=by rw[←ha,HN];rfl
 clear ha
 unfold Alt
 have fin:∀(o1 o2:FObj) (f1 f2:Option Nat),Ext σ ((σ.push o1 f1).push o2 f2)∧Wf ((σ.push o1 f1).push o2 f2):=fun o1 o2 f1 f2=>⟨((Ext.refl σ).push _ _).push _ _,(hw.push _ _).push _ _⟩
 cases e1:(k1==k2) with
 | false=>
  simp only[DR,Ea,CU,DE,DD,BB,CQ,DQ,Ag,CR,Cb,Bw,Be,Ca,Aq,AV,AL,DX,Ef,Ee,BK,C0,Nat.reduceLT,↓reduceIte,Nat.reduceEqDiff,Nat.reduceAdd,CZ,CY,Cd,BA,Ck,AZ,Cm,Aa,Bd,Ap,Bh,D7,Bg,A8,A9,AC,AR,AA,Ay,Ba,Bb,AF,AU,AK,Az,Ce,D9,D_,Ac,Al,cells?_cells,DG,CW,DF,CV,DB,DN,DK,DJ,DI,DH,Dz,DS,DL,DC,DP,Eb,CS,CT,Nat.add_zero,Nat.zero_add,Nat.add_left_cancel_iff,Nat.add_eq_left,Nat.left_eq_add,List.getElem?_cons_zero,List.getElem?_cons_succ,beq_self_eq_true,Bool.not_true,Bool.not_false,cond_true,cond_false,BC,AQ,Cg,BD,BF,Cc,Bool.false_eq_true,CP,AO,Bz,Bf,CX,Ed,Cf,CA,Cz,Cy,AW,List.not_mem_nil,or_false,or_true,List.cons_append,List.nil_append,DA,DM,DT,Cj,Ci,C9,A7,Dl,Ai,Am,List.set_cons_zero,List.set_cons_succ,List.length_cons,List.length_nil,AY,AJ,A_,Au,AE,J5,KK,J6,KL,hok,hnt,hg0,hg1,hds,e1]
  exact⟨_,_,rfl,(fin ..).1,(fin ..).2,rfl⟩
 | true=>cases e2:(n1==n2) with
  | false=>
   simp only[DR,Ea,CU,DE,DD,BB,CQ,DQ,Ag,CR,Cb,Bw,Be,Ca,Aq,AV,AL,DX,Ef,Ee,BK,C0,Nat.reduceLT,↓reduceIte,Nat.reduceEqDiff,Nat.reduceAdd,CZ,CY,Cd,BA,Ck,AZ,Cm,Aa,Bd,Ap,Bh,D7,Bg,A8,A9,AC,AR,AA,Ay,Ba,Bb,AF,AU,AK,Az,Ce,D9,D_,Ac,Al,cells?_cells,DG,CW,DF,CV,DB,DN,DK,DJ,DI,DH,Dz,DS,DL,DC,DP,Eb,CS,CT,Nat.add_zero,Nat.zero_add,Nat.add_left_cancel_iff,Nat.add_eq_left,Nat.left_eq_add,List.getElem?_cons_zero,List.getElem?_cons_succ,beq_self_eq_true,Bool.not_true,Bool.not_false,cond_true,cond_false,BC,AQ,Cg,BD,BF,Cc,Bool.false_eq_true,CP,AO,Bz,Bf,CX,Ed,Cf,CA,Cz,Cy,AW,List.not_mem_nil,or_false,or_true,List.cons_append,List.nil_append,DA,DM,DT,Cj,Ci,C9,A7,Dl,Ai,Am,List.set_cons_zero,List.set_cons_succ,List.length_cons,List.length_nil,AY,AJ,A_,Au,AE,J5,KK,J6,KL,hok,hnt,hg0,hg1,hds,e1,e2]
   exact⟨_,_,rfl,(fin ..).1,(fin ..).2,rfl⟩
  | true=>cases e3:(t1.toList==t2.toList) with
   | false=>
    simp only[DR,Ea,CU,DE,DD,BB,CQ,DQ,Ag,CR,Cb,Bw,Be,Ca,Aq,AV,AL,DX,Ef,Ee,BK,C0,Nat.reduceLT,↓reduceIte,Nat.reduceEqDiff,Nat.reduceAdd,CZ,CY,Cd,BA,Ck,AZ,Cm,Aa,Bd,Ap,Bh,D7,Bg,A8,A9,AC,AR,AA,Ay,Ba,Bb,AF,AU,AK,Az,Ce,D9,D_,Ac,Al,cells?_cells,DG,CW,DF,CV,DB,DN,DK,DJ,DI,DH,Dz,DS,DL,DC,DP,Eb,CS,CT,Nat.add_zero,Nat.zero_add,Nat.add_left_cancel_iff,Nat.add_eq_left,Nat.left_eq_add,List.getElem?_cons_zero,List.getElem?_cons_succ,beq_self_eq_true,Bool.not_true,Bool.not_false,cond_true,cond_false,BC,AQ,Cg,BD,BF,Cc,Bool.false_eq_true,CP,AO,Bz,Bf,CX,Ed,Cf,CA,Cz,Cy,AW,List.not_mem_nil,or_false,or_true,List.cons_append,List.nil_append,DA,DM,DT,Cj,Ci,C9,A7,Dl,Ai,Am,List.set_cons_zero,List.set_cons_succ,List.length_cons,List.length_nil,AY,AJ,A_,Au,AE,J5,KK,J6,KL,hok,hnt,hg0,hg1,hds,e1,e2,e3]
    exact⟨_,_,rfl,(fin ..).1,(fin ..).2,rfl⟩
   | true=>
    simp only[DR,Ea,CU,DE,DD,BB,CQ,DQ,Ag,CR,Cb,Bw,Be,Ca,Aq,AV,AL,DX,Ef,Ee,BK,C0,Nat.reduceLT,↓reduceIte,Nat.reduceEqDiff,Nat.reduceAdd,CZ,CY,Cd,BA,Ck,AZ,Cm,Aa,Bd,Ap,Bh,D7,Bg,A8,A9,AC,AR,AA,Ay,Ba,Bb,AF,AU,AK,Az,Ce,D9,D_,Ac,Al,cells?_cells,DG,CW,DF,CV,DB,DN,DK,DJ,DI,DH,Dz,DS,DL,DC,DP,Eb,CS,CT,Nat.add_zero,Nat.zero_add,Nat.add_left_cancel_iff,Nat.add_eq_left,Nat.left_eq_add,List.getElem?_cons_zero,List.getElem?_cons_succ,beq_self_eq_true,Bool.not_true,Bool.not_false,cond_true,cond_false,BC,AQ,Cg,BD,BF,Cc,Bool.false_eq_true,CP,AO,Bz,Bf,CX,Ed,Cf,CA,Cz,Cy,AW,List.not_mem_nil,or_false,or_true,List.cons_append,List.nil_append,DA,DM,DT,Cj,Ci,C9,A7,Dl,Ai,Am,List.set_cons_zero,List.set_cons_succ,List.length_cons,List.length_nil,AY,AJ,A_,Au,AE,J5,KK,J6,KL,hok,hnt,hg0,hg1,hds,e1,e2,e3]
    generalize hr:(env n).call 36 _ none _=r
    obtain⟨v,σ',rfl,hx,hw',rfl⟩:=Al2 (X:=(env n).call 36 [s1,s2] none) hr h (fin ..).1 (fin ..).2
    simp only[DR,Ea,CU,DE,DD,BB,CQ,DQ,Ag,CR,Cb,Bw,Be,Ca,Aq,AV,AL,DX,Ef,Ee,BK,C0,Nat.reduceLT,↓reduceIte,Nat.reduceEqDiff,Nat.reduceAdd,CZ,CY,Cd,BA,Ck,AZ,Cm,Aa,Bd,Ap,Bh,D7,Bg,A8,A9,AC,AR,AA,Ay,Ba,Bb,AF,AU,AK,Az,Ce,D9,D_,Ac,Al,cells?_cells,DG,CW,DF,CV,DB,DN,DK,DJ,DI,DH,Dz,DS,DL,DC,DP,Eb,CS,CT,Nat.add_zero,Nat.zero_add,Nat.add_left_cancel_iff,Nat.add_eq_left,Nat.left_eq_add,List.getElem?_cons_zero,List.getElem?_cons_succ,beq_self_eq_true,Bool.not_true,Bool.not_false,cond_true,cond_false,BC,AQ,Cg,BD,BF,Cc,Bool.false_eq_true,CP,AO,Bz,Bf,CX,Ed,Cf,CA,Cz,Cy,AW,List.not_mem_nil,or_false,or_true,List.cons_append,List.nil_append,DA,DM,DT,Cj,Ci,C9,A7,Dl,Ai,Am,List.set_cons_zero,List.set_cons_succ,List.length_cons,List.length_nil,AY,AJ,A_,Au,AE,hok,hnt,hg0,hg1,hds]
    exact⟨_,_,rfl,(fin ..).1.trans hx,hw',rfl⟩
end Go.Proofs.YtokieofohmgjdaaGreatDoor
end
