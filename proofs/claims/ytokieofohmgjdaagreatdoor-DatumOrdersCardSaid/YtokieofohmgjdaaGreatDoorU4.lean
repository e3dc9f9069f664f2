import Derived.Test.YtokieofohmgjdaaGreatDoorU3
set_option linter.unusedSimpArgs false
set_option linter.unusedVariables false
noncomputable section
namespace Go.Proofs.YtokieofohmgjdaaGreatDoor
open Go Go.Eng
attribute [local congr] Ac Aj Ai Ad Ah
attribute [-go_sem] List.range_succ
theorem Agg(n:Nat)(p:Int)(hp:p≤2000)(σ:FState):(env (n+1)).call 101 [.int .i64 p] none σ=.ret (.tuple #[]) none σ:=by
 have hd:decide (p>2000)=false:=by simp;omega
 rw[Ag _ 101 _ _ rfl,Afi _ _ _ _ (by simp),Af]
 unfold Zg
 simp -implicitDefEqProofs only[go_sem,AcE,P5,hd]
theorem Dq(n:Nat)(k z:Int)(p:Option Addr)(c:Nat)(σ:FState)(hw:Wf σ):
  Gives ((env (n+1)).call 231 [.agg #[.int .i64 k,.int .i64 z,.string ⟨#[]⟩,.slice p 0 c]] none σ) σ fun w _=>w=.bool true:=by
 have h0:(Int.ofNat 0==0)=true:=rfl
 rw[Ag _ 231 _ _ rfl,TN _ _ _ _ (by simp),Af]
 unfold SY
 simp -implicitDefEqProofs only[go_sem,I7,H7,I8,H8,h0]
 exact⟨_,_,rfl,(Ext.refl _).push _ _,hw.push _ _,rfl⟩
theorem D8(n:Nat)(k:Int)(t:ByteArray)(p:Option Addr)(c:Nat)(σ:FState)(hw:Wf σ):
  Gives ((env (n+1)).call 225 [.agg #[.int .i64 k,.int .i64 0,.string t,.slice p 0 c]] none σ) σ fun w _=>w=.bool true:=by
 have h0:(Int.ofNat 0==0)=true:=rfl
 rw[Ag _ 225 _ _ rfl,TM _ _ _ _ (by simp),Af]
 unfold SX
 simp -implicitDefEqProofs only[go_sem,I5,H5,I6,H6,h0]
 exact⟨_,_,rfl,(Ext.refl _).push _ _,hw.push _ _,rfl⟩
theorem PB(n:Nat)(k:Int)(p:Option Addr)(c:Nat)(σ:FState)(hw:Wf σ):
  Gives ((env (n+1)).call 233 [.agg #[.int .i64 k,.int .i64 0,.string ⟨#[]⟩,.slice p 0 c]] none σ) σ fun w _=>w=.bool true:=by
 have h0:(Int.ofNat 0==0)=true:=rfl
 rw[Ag _ 233 _ _ rfl,TO _ _ _ _ (by simp),Af]
 unfold SZ
 simp -implicitDefEqProofs only[go_sem,GB,GA,GD,GC,h0]
 exact⟨_,_,rfl,(Ext.refl _).push _ _,hw.push _ _,rfl⟩
theorem Wx(n:Nat)(p:Option Addr)(l c:Nat)(σ:FState)(hw:Wf σ):
  Gives ((env (n+1)).call 235 [.agg #[.int .i64 6,.int .i64 0,.string ⟨#[]⟩,.slice p l c]] none σ) σ fun w _=>w=.bool true:=by
 rw[Ag _ 235 _ _ rfl,KW _ _ _ _ (by simp),Af]
 unfold MX
 simp -implicitDefEqProofs only[go_sem,EI,Fc,EJ,Fd]
 exact⟨_,_,rfl,(Ext.refl _).push _ _,hw.push _ _,rfl⟩
theorem Ug(n:Nat)(p:Option Addr)(c:Nat)(σ:FState)(hw:Wf σ):
  Gives ((env (n+1)).call 235 [.agg #[.int .i64 5,.int .i64 0,.string ⟨#[]⟩,.slice p 2 c]] none σ) σ fun w _=>w=.bool true:=by
 have h0:(Int.ofNat 2==2)=true:=rfl
 have h1:((5:Int)==6)=false:=rfl
 rw[Ag _ 235 _ _ rfl,KW _ _ _ _ (by simp),Af]
 unfold MX
 simp -implicitDefEqProofs only[go_sem,EI,Fc,EJ,Fd,h0,h1]
 exact⟨_,_,rfl,(Ext.refl _).push _ _,hw.push _ _,rfl⟩
def workType(k:Nat):Nat:=if k=0 then 187 else if k≤2 then 184 else if k≤4 then 151 else 188
theorem Da(n k:Nat)(hk:k≤6)(z:Int)(t:ByteArray)(q:Value)(hq:oneCell q=true)(σ:FState)(hw:Wf σ):
  Gives ((env (n+1)).call 127 [.agg #[.int .i64 (k:Int),.int .i64 z,.string t,q]] none σ) σ fun w _=>w=.iface (workType k) (.agg #[.int .i64 (k:Int),.int .i64 z,.string t,q]):=by
 rw[Ag _ 127 _ _ rfl,TC _ _ _ _ (by simp),Af]
 unfold SQ
 have fin:∀(o:FObj) (f:Option Nat),Ext σ (σ.push o f)∧Wf (σ.push o f):=fun o f=>⟨(Ext.refl _).push _ _,hw.push _ _⟩
 obtain rfl|rfl|rfl|rfl|rfl|rfl|rfl:k=0∨k=1∨k=2∨k=3∨k=4∨k=5∨k=6:=by omega
 ·have e0:(((0:Nat):Int)==0)=true:=rfl
  simp -implicitDefEqProofs only[go_sem,CW,Dr,CX,Ds,CY,Dt,Ac3,Qu,e0]
  exact⟨_,_,rfl,(fin ..).1,(fin ..).2,rfl⟩
 ·have e0:(((1:Nat):Int)==0)=false:=rfl
  have e1:(((1:Nat):Int)==1)=true:=rfl
  simp -implicitDefEqProofs only[go_sem,CW,Dr,CX,Ds,CY,Dt,Dk,DI,Oq,J_,e0,e1]
  exact⟨_,_,rfl,(fin ..).1,(fin ..).2,rfl⟩
 ·have e0:(((2:Nat):Int)==0)=false:=rfl
  have e1:(((2:Nat):Int)==1)=false:=rfl
  have e2:(((2:Nat):Int)==2)=true:=rfl
  simp -implicitDefEqProofs only[go_sem,CW,Dr,CX,Ds,CY,Dt,Dk,DI,DO,Ec,Oq,J_,e0,e1,e2]
  exact⟨_,_,rfl,(fin ..).1,(fin ..).2,rfl⟩
 ·have e0:(((3:Nat):Int)==0)=false:=rfl
  have e1:(((3:Nat):Int)==1)=false:=rfl
  have e2:(((3:Nat):Int)==2)=false:=rfl
  have e3:(((3:Nat):Int)==3)=true:=rfl
  simp -implicitDefEqProofs only[go_sem,CW,Dr,CX,Ds,CY,Dt,Dk,DI,DO,Ec,Ez,E4,Ot,Ka,e0,e1,e2,e3]
  exact⟨_,_,rfl,(fin ..).1,(fin ..).2,rfl⟩
 ·have e0:(((4:Nat):Int)==0)=false:=rfl
  have e1:(((4:Nat):Int)==1)=false:=rfl
  have e2:(((4:Nat):Int)==2)=false:=rfl
  have e3:(((4:Nat):Int)==3)=false:=rfl
  have e4:(((4:Nat):Int)==4)=true:=rfl
  simp -implicitDefEqProofs only[go_sem,CW,Dr,CX,Ds,CY,Dt,Dk,DI,DO,Ec,Ez,E4,Gg,Gf,Ot,Ka,e0,e1,e2,e3,e4]
  exact⟨_,_,rfl,(fin ..).1,(fin ..).2,rfl⟩
 ·have e0:(((5:Nat):Int)==0)=false:=rfl
  have e1:(((5:Nat):Int)==1)=false:=rfl
  have e2:(((5:Nat):Int)==2)=false:=rfl
  have e3:(((5:Nat):Int)==3)=false:=rfl
  have e4:(((5:Nat):Int)==4)=false:=rfl
  have e5:(((5:Nat):Int)==5)=true:=rfl
  simp -implicitDefEqProofs only[go_sem,CW,Dr,CX,Ds,CY,Dt,Dk,DI,DO,Ec,Ez,E4,Gg,Gf,G6,FI,LB,HK,e0,e1,e2,e3,e4,e5]
  exact⟨_,_,rfl,(fin ..).1,(fin ..).2,rfl⟩
 ·have e0:(((6:Nat):Int)==0)=false:=rfl
  have e1:(((6:Nat):Int)==1)=false:=rfl
  have e2:(((6:Nat):Int)==2)=false:=rfl
  have e3:(((6:Nat):Int)==3)=false:=rfl
  have e4:(((6:Nat):Int)==4)=false:=rfl
  have e5:(((6:Nat):Int)==5)=false:=rfl
  have e6:(((6:Nat):Int)==6)=true:=rfl
  simp -implicitDefEqProofs only[go_sem,CW,Dr,CX,Ds,CY,Dt,Dk,DI,DO,Ec,Ez,E4,Gg,Gf,G6,FI,LA,HJ,LB,HK,e0,e1,e2,e3,e4,e5,e6]
  exact⟨_,_,rfl,(fin ..).1,(fin ..).2,rfl⟩
theorem GO(n k:Nat)(z:Int)(hk:k=1∧0≤z∧z≤1∨k=2 ∧ -999999999≤z∧z≤999999999)(t:ByteArray)(q:Value)(hq:oneCell q=true)(σ:FState)(hw:Wf σ):
  Gives ((env (n+1)).call 151 [.agg #[.int .i64 (k:Int),.int .i64 z,.string t,q]] none σ) σ fun w _=>w=.tuple #[]:=by
 rw[Ag _ 151 _ _ rfl,KU _ _ _ _ (by simp),Af]
 unfold MV
 rcases hk with⟨rfl,h1,h2⟩|⟨rfl,h1,h2⟩
 ·have e1:(((1:Nat):Int)==1)=true:=rfl
  have d1:decide (z<0)=false:=by simpa using h1
  have d2:decide (z>1)=false:=by simpa using h2
  simp -implicitDefEqProofs only[go_sem,DP,Ed,DQ,Ee,DR,Ef,EC,E7,DS,Eg,e1,d1,d2]
  exact⟨_,_,rfl,(Ext.refl _).push _ _,hw.push _ _,rfl⟩
 ·have e1:(((2:Nat):Int)==1)=false:=rfl
  have d1:decide (z < -999999999)=false:=by simp;omega
  have d2:decide (z>999999999)=false:=by simp;omega
  simp -implicitDefEqProofs only[go_sem,DP,Ed,DQ,Ee,DR,Ef,DS,Eg,e1,d1,d2]
  exact⟨_,_,rfl,(Ext.refl _).push _ _,hw.push _ _,rfl⟩
theorem Fx(n k:Nat)(z:Int)(t:ByteArray)(q:Value)(hq:oneCell q=true)(σ:FState)(hw:Wf σ)(hk:k=3∧(∀σ',Ext σ σ'→Wf σ'→Gives ((env n).call 170 [.string t] none σ') σ' fun w _=>w=.bool true)∨
   k=4∧t.size≤60∧(∀σ',Ext σ σ'→Wf σ'→Gives ((env n).call 171 [.string t] none σ') σ' fun w _=>w=.bool true)):
  Gives ((env (n+1)).call 152 [.agg #[.int .i64 (k:Int),.int .i64 z,.string t,q]] none σ) σ fun w _=>w=.tuple #[]:=by
 have hX:=(Ext.refl σ).push (.cells [.int .i64 (k:Int),.int .i64 z,.string t,q] 151) none
 have hw1:=hw.push (.cells [.int .i64 (k:Int),.int .i64 z,.string t,q] 151) none
 have hc:(σ.push (.cells [.int .i64 (k:Int),.int .i64 z,.string t,q] 151) none).cells σ.next=some [.int .i64 (k:Int),.int .i64 z,.string t,q]:=by rw[Ab,if_pos rfl];rfl
 rw[Ag _ 152 _ _ rfl,KV _ _ _ _ (by simp),Af]
 unfold MW
 rcases hk with⟨rfl,h⟩|⟨rfl,hs,h⟩
 ·have e3:(((3:Nat):Int)==3)=true:=rfl
  have e4:(((3:Nat):Int)==4)=false:=rfl
  obtain⟨_,σ2,e,hX2,hw2,rfl⟩:=h _ hX hw1
  have hc2:=(hX2.cells (Nat.lt_succ_self _)).trans hc
  simp -implicitDefEqProofs only[go_sem,ED,E8,EE,E9,EF,E_,EG,Fa,e3,e4,e,hc2]
  exact⟨_,_,rfl,hX.trans hX2,hw2,rfl⟩
 ·have e3:(((4:Nat):Int)==3)=false:=rfl
  have e4:(((4:Nat):Int)==4)=true:=rfl
  have d1:decide ((Int.ofNat t.size)>60)=false:=by simp;omega
  obtain⟨_,σ2,e,hX2,hw2,rfl⟩:=h _ hX hw1
  have hc2:=(hX2.cells (Nat.lt_succ_self _)).trans hc
  simp -implicitDefEqProofs only[go_sem,ED,E8,EE,E9,EF,E_,EG,Fa,e3,e4,e,hc2,d1]
  exact⟨_,_,rfl,hX.trans hX2,hw2,rfl⟩
theorem Um(v:Value)(σ:FState):finvoke Tryz.prog (.iface 187 v) "caracole/datum.formed" [] σ=.enter 233 [v] σ:=by kernel_rfl
theorem DM(v:Value)(σ:FState):finvoke Tryz.prog (.iface 184 v) "caracole/datum.formed" [] σ=.enter 231 [v] σ:=by kernel_rfl
theorem F0(v:Value)(σ:FState):finvoke Tryz.prog (.iface 151 v) "caracole/datum.formed" [] σ=.enter 225 [v] σ:=by kernel_rfl
theorem FZ(v:Value)(σ:FState):finvoke Tryz.prog (.iface 188 v) "caracole/datum.formed" [] σ=.enter 235 [v] σ:=by kernel_rfl
theorem Hj(v:Value)(σ:FState):fassert Tryz.prog (.iface 184 v) 184 true σ=.val (.tuple #[v,.bool true]) σ:=by kernel_rfl
theorem Pe(v:Value)(σ:FState):fassert Tryz.prog (.iface 151 v) 151 true σ=.val (.tuple #[v,.bool true]) σ:=by kernel_rfl
theorem AeV(v:Value)(σ:FState):fassert Tryz.prog (.iface 187 v) 184 true σ=.val (.tuple #[.agg #[.int .i64 0,.int .i64 0,.string ⟨#[]⟩,.slice none 0 0],.bool false]) σ:=by kernel_rfl
theorem AeW(v:Value)(σ:FState):fassert Tryz.prog (.iface 187 v) 151 true σ=.val (.tuple #[.agg #[.int .i64 0,.int .i64 0,.string ⟨#[]⟩,.slice none 0 0],.bool false]) σ:=by kernel_rfl
theorem JX(v:Value)(σ:FState):fassert Tryz.prog (.iface 151 v) 184 true σ=.val (.tuple #[.agg #[.int .i64 0,.int .i64 0,.string ⟨#[]⟩,.slice none 0 0],.bool false]) σ:=by kernel_rfl
theorem NL(v:Value)(σ:FState):fassert Tryz.prog (.iface 188 v) 184 true σ=.val (.tuple #[.agg #[.int .i64 0,.int .i64 0,.string ⟨#[]⟩,.slice none 0 0],.bool false]) σ:=by kernel_rfl
theorem NM(v:Value)(σ:FState):fassert Tryz.prog (.iface 188 v) 151 true σ=.val (.tuple #[.agg #[.int .i64 0,.int .i64 0,.string ⟨#[]⟩,.slice none 0 0],.bool false]) σ:=by kernel_rfl
inductive Good (m:Nat):Nat→Int→ByteArray→Nat→Prop
 | nil:Good m 0 0 ⟨#[]⟩ 0
 | bool (z:Int) (h:0≤z∧z≤1):Good m 1 z ⟨#[]⟩ 0
 | num (z:Int) (h : -999999999≤z∧z≤999999999):Good m 2 z ⟨#[]⟩ 0
 | sym (t:ByteArray) (h:∀σ',Wf σ'→Gives ((env m).call 170 [.string t] none σ') σ' fun w _=>w=.bool true):Good m 3 0 t 0
 | str (t:ByteArray) (hs:t.size≤60) (h:∀σ',Wf σ'→Gives ((env m).call 171 [.string t] none σ') σ' fun w _=>w=.bool true):Good m 4 0 t 0
 | pair:Good m 5 0 ⟨#[]⟩ 2
 | vec (l:Nat):Good m 6 0 ⟨#[]⟩ l
theorem Ld(n k:Nat)(z:Int)(t:ByteArray)(p:Option Addr)(l c:Nat)(hG:Good n k z t l)(σ:FState)(hw:Wf σ):
  Gives ((env (n+2)).call 122 [.agg #[.int .i64 (k:Int),.int .i64 z,.string t,.slice p l c]] none σ) σ fun w _=>w=.tuple #[]:=by
 have hk:k≤6:=by cases hG<;>decide
 have hX1:=(Ext.refl σ).push (.cells [.int .i64 (k:Int),.int .i64 z,.string t,.slice p l c] 24) none
 have hw1:=hw.push (.cells [.int .i64 (k:Int),.int .i64 z,.string t,.slice p l c] 24) none
 obtain⟨_,σ2,e2,hX2,hw2,rfl⟩:=Da n k hk z t (.slice p l c) rfl _ hw1
 have hX:=hX1.trans hX2
 rw[Ag _ 122 _ _ rfl,TB _ _ _ _ (by simp),Af]
 unfold SP
 cases hG with
 | nil=>
  obtain⟨_,σ3,e3,hX3,hw3,rfl⟩:=PB n ((0:Nat):Int) p c σ2 hw2
  have wt:workType 0=187:=rfl
  simp -implicitDefEqProofs only[go_sem,BO,Ca,BP,Cb,BT,Cc,Cp,CL,Cq,CM,Dj,DH,e2,wt,Um,e3,AeV,AeW]
  exact⟨_,_,rfl,hX.trans hX3,hw3,rfl⟩
 | bool z h=>
  obtain⟨_,σ3,e3,hX3,hw3,rfl⟩:=Dq n ((1:Nat):Int) z p c σ2 hw2
  obtain⟨_,σ5,e5,hX5,hw5,rfl⟩:=GO n 1 z (.inl ⟨rfl,h⟩) ⟨#[]⟩ (.slice p 0 c) rfl ((σ3.push (.cells [.int .i64 0,.int .i64 0,.string ⟨#[]⟩,.slice none 0 0] 184) none).put σ3.next (.cells [.int .i64 ((1:Nat):Int),.int .i64 z,.string ⟨#[]⟩,.slice p 0 c] 184) none) ((hw3.push _ _).put _ _ _ (Nat.lt_succ_self _))
  have hX4:=(((hX.trans hX3).push (.cells [.int .i64 0,.int .i64 0,.string ⟨#[]⟩,.slice none 0 0] 184) none).put σ3.next (.cells [.int .i64 ((1:Nat):Int),.int .i64 z,.string ⟨#[]⟩,.slice p 0 c] 184) none (hX.trans hX3).next).trans hX5
  have wt:workType 1=184:=rfl
  simp -implicitDefEqProofs only[go_sem,Aw,BO,Ca,BP,Cb,BT,Cc,Cp,CL,Cq,CM,Ga,F_,Gc,Gb,e2,wt,DM,e3,Hj,e5]
  exact⟨_,_,rfl,hX4,hw5,rfl⟩
 | num z h=>
  obtain⟨_,σ3,e3,hX3,hw3,rfl⟩:=Dq n ((2:Nat):Int) z p c σ2 hw2
  obtain⟨_,σ5,e5,hX5,hw5,rfl⟩:=GO n 2 z (.inr ⟨rfl,h⟩) ⟨#[]⟩ (.slice p 0 c) rfl ((σ3.push (.cells [.int .i64 0,.int .i64 0,.string ⟨#[]⟩,.slice none 0 0] 184) none).put σ3.next (.cells [.int .i64 ((2:Nat):Int),.int .i64 z,.string ⟨#[]⟩,.slice p 0 c] 184) none) ((hw3.push _ _).put _ _ _ (Nat.lt_succ_self _))
  have hX4:=(((hX.trans hX3).push (.cells [.int .i64 0,.int .i64 0,.string ⟨#[]⟩,.slice none 0 0] 184) none).put σ3.next (.cells [.int .i64 ((2:Nat):Int),.int .i64 z,.string ⟨#[]⟩,.slice p 0 c] 184) none (hX.trans hX3).next).trans hX5
  have wt:workType 2=184:=rfl
  simp -implicitDefEqProofs only[go_sem,Aw,BO,Ca,BP,Cb,BT,Cc,Cp,CL,Cq,CM,Ga,F_,Gc,Gb,e2,wt,DM,e3,Hj,e5]
  exact⟨_,_,rfl,hX4,hw5,rfl⟩
 | sym t h=>
  obtain⟨_,σ3,e3,hX3,hw3,rfl⟩:=D8 n ((3:Nat):Int) t p c σ2 hw2
  obtain⟨_,σ5,e5,hX5,hw5,rfl⟩:=Fx n 3 0 t (.slice p 0 c) rfl ((σ3.push (.cells [.int .i64 0,.int .i64 0,.string ⟨#[]⟩,.slice none 0 0] 151) none).put σ3.next (.cells [.int .i64 ((3:Nat):Int),.int .i64 0,.string t,.slice p 0 c] 151) none) ((hw3.push _ _).put _ _ _ (Nat.lt_succ_self _)) (.inl ⟨rfl,fun σ' _=>h σ'⟩)
  have hX4:=(((hX.trans hX3).push (.cells [.int .i64 0,.int .i64 0,.string ⟨#[]⟩,.slice none 0 0] 151) none).put σ3.next (.cells [.int .i64 ((3:Nat):Int),.int .i64 0,.string t,.slice p 0 c] 151) none (hX.trans hX3).next).trans hX5
  have wt:workType 3=151:=rfl
  simp -implicitDefEqProofs only[go_sem,Aw,BO,Ca,BP,Cb,BT,Cc,Cp,CL,Cq,CM,Dj,DH,Ge,Gd,E3,Ey,e2,wt,F0,e3,Pe,JX,e5]
  exact⟨_,_,rfl,hX4,hw5,rfl⟩
 | str t hs h=>
  obtain⟨_,σ3,e3,hX3,hw3,rfl⟩:=D8 n ((4:Nat):Int) t p c σ2 hw2
  obtain⟨_,σ5,e5,hX5,hw5,rfl⟩:=Fx n 4 0 t (.slice p 0 c) rfl ((σ3.push (.cells [.int .i64 0,.int .i64 0,.string ⟨#[]⟩,.slice none 0 0] 151) none).put σ3.next (.cells [.int .i64 ((4:Nat):Int),.int .i64 0,.string t,.slice p 0 c] 151) none) ((hw3.push _ _).put _ _ _ (Nat.lt_succ_self _)) (.inr ⟨rfl,hs,fun σ' _=>h σ'⟩)
  have hX4:=(((hX.trans hX3).push (.cells [.int .i64 0,.int .i64 0,.string ⟨#[]⟩,.slice none 0 0] 151) none).put σ3.next (.cells [.int .i64 ((4:Nat):Int),.int .i64 0,.string t,.slice p 0 c] 151) none (hX.trans hX3).next).trans hX5
  have wt:workType 4=151:=rfl
  simp -implicitDefEqProofs only[go_sem,Aw,BO,Ca,BP,Cb,BT,Cc,Cp,CL,Cq,CM,Dj,DH,Ge,Gd,E3,Ey,e2,wt,F0,e3,Pe,JX,e5]
  exact⟨_,_,rfl,hX4,hw5,rfl⟩
 | pair=>
  obtain⟨_,σ3,e3,hX3,hw3,rfl⟩:=Ug n p c σ2 hw2
  have e3':(env (n+1)).call 235 [.agg #[.int .i64 ((5:Nat):Int),.int .i64 0,.string ⟨#[]⟩,.slice p 2 c]] none σ2=.ret (.bool true) none σ3:=e3
  have wt:workType 5=188:=rfl
  simp -implicitDefEqProofs only[go_sem,BO,Ca,BP,Cb,BT,Cc,Cp,CL,Cq,CM,Dj,DH,e2,wt,FZ,e3',NL,NM]
  exact⟨_,_,rfl,hX.trans hX3,hw3,rfl⟩
 | vec l=>
  obtain⟨_,σ3,e3,hX3,hw3,rfl⟩:=Wx n p l c σ2 hw2
  have e3':(env (n+1)).call 235 [.agg #[.int .i64 ((6:Nat):Int),.int .i64 0,.string ⟨#[]⟩,.slice p l c]] none σ2=.ret (.bool true) none σ3:=e3
  have wt:workType 6=188:=rfl
  simp -implicitDefEqProofs only[go_sem,BO,Ca,BP,Cb,BT,Cc,Cp,CL,Cq,CM,Dj,DH,e2,wt,FZ,e3',NL,NM]
  exact⟨_,_,rfl,hX.trans hX3,hw3,rfl⟩
end Go.Proofs.YtokieofohmgjdaaGreatDoor
namespace Go.Proofs.YtokieofohmgjdaaGreatDoor
open Go Go.Eng
attribute [local congr] Ac Aj Ai Ad Ah
attribute [-go_sem] List.range_succ
theorem AeO(n:Nat)(t:ByteArray)(ht:t∈symTexts)(σ:FState):(env (n+20)).call 170 [.string t] none σ=.ret (.bool true) none σ:=by
 simp only[symTexts,List.mem_cons,List.not_mem_nil,or_false] at ht
 rcases ht with rfl|rfl|rfl|rfl|rfl|rfl|rfl|rfl<;>kernel_rfl
theorem F9(x y:Operand)(a b:Int)(σ:FState):i_lss Tryz.prog 21 x y (.int .i32 a) (.int .i32 b) σ=.val (.bool (decide (a<b))) σ:=by kernel_rfl
theorem J0(x y:Operand)(a b:Int)(σ:FState):i_gtr Tryz.prog 21 x y (.int .i32 a) (.int .i32 b) σ=.val (.bool (decide (a>b))) σ:=by kernel_rfl
theorem G0{r:Nat}{σ:FState}{s:ByteArray}{pos w ver c:Nat}(hg:σ.heap.get r=some ⟨.siter s pos,false,none,ver⟩)(h:pos<s.size)(hd:Utf8.decode s pos=(c,w)):
  fnext (.pointer (some ⟨r,0,none⟩)) σ=.val (.tuple #[.bool true,goInt pos,.int .i32 (c:Int)]) (σ.put r (.siter s (pos+w)) none):=by
 unfold fnext
 simp only[hg,hd]
 rw[show Nat.blt pos s.size=true by simpa [Nat.blt_eq] using h]
 rfl
theorem Ab9{r:Nat}{σ:FState}{s:ByteArray}{pos ver:Nat}(hg:σ.heap.get r=some ⟨.siter s pos,false,none,ver⟩)(h:¬ pos<s.size):
  fnext (.pointer (some ⟨r,0,none⟩)) σ=.val (.tuple #[.bool false]) σ:=by
 unfold fnext
 simp only[hg]
 rw[show Nat.blt pos s.size=false by rw[←Bool.not_eq_true,Nat.blt_eq];exact h]
 rfl
def PlainText(s:ByteArray):Prop:=∀pos,pos<s.size→∃c:Nat,Utf8.decode s pos=(c,1)∧32≤c∧c≤126
theorem Aai:keepOf nls 171=[6]:=by kernel_rfl
theorem PI(n r:Nat)(s:ByteArray)(hs:PlainText s)(σ0:FState)(hr:σ0.next≤r):∀(m pos fuel:Nat) (f g:Nat→Value) (σ:FState),pos+m=s.size→m<fuel→g 6=.pointer (some ⟨r,0,none⟩)→Wf σ→Ext σ0 σ→
  (∃ver,σ.heap.get r=some ⟨.siter s pos,false,none,ver⟩)→
  ∃f' g' σ',floop [6] (Fz (env n) none 171) fuel (Sl 5 16 f g []) none σ=.done (.exit 0) (Sl 5 16 f' g' []) none σ'∧Wf σ'∧Ext σ0 σ':=by
 intro m
 induction m with
 | zero=>
  intro pos fuel f g σ hp hf h6 hw hX ⟨ver,hg⟩
  obtain⟨fuel,rfl⟩:∃q,fuel=q+1:=⟨fuel-1,by omega⟩
  have hn:=Ab9 hg (by omega)
  rw[Am]
  unfold Fz
  simp -implicitDefEqProofs only[go_sem,EH,Fb,h6,hn,List.mem_cons,List.not_mem_nil]
  exact⟨_,_,_,rfl,hw,hX⟩
 | succ m ih=>
  intro pos fuel f g σ hp hf h6 hw hX ⟨ver,hg⟩
  obtain⟨fuel,rfl⟩:∃q,fuel=q+1:=⟨fuel-1,by omega⟩
  obtain⟨c,hd,h1,h2⟩:=hs pos (by omega)
  have hn:=G0 hg (by omega) hd
  have d1:decide ((c:Int)<32)=false:=by simp;omega
  have d2:decide ((c:Int)>126)=false:=by simp;omega
  rw[Am]
  unfold Fz
  simp -implicitDefEqProofs only[go_sem,EH,Fb,Gx,Gw,Gz,Gy,h6,hn,List.mem_cons,List.not_mem_nil,F9,J0,d1,d2]
  refine ih (pos+1) fuel _ _ _ (by omega) (by omega) ?_ (hw.put _ _ _ (hw _ _ hg).1) (hX.put _ _ _ hr) ⟨_,by rw[An,if_pos rfl]⟩
  simp -implicitDefEqProofs only[go_sem,reduceCtorEq,h6,List.mem_cons,List.not_mem_nil,true_or]
theorem Lf(n:Nat)(s:ByteArray)(hs:PlainText s)(hsz:s.size<1000000)(σ:FState)(hw:Wf σ):Gives ((env (n+1)).call 171 [.string s] none σ) σ fun w _=>w=.bool true:=by
 rw[Ag _ 171 _ _ rfl,TK _ _ _ _ (by simp),Af]
 unfold SW
 have hfr:frangeS (.string s) σ=.val (.pointer (some ⟨σ.next,0,none⟩)) (σ.push (.siter s 0) none):=rfl
 simp -implicitDefEqProofs only[go_sem,OO,Kv,OP,Kw,hfr,Aai]
 generalize hf:upd (fun _=>_) 2 _=f1
 generalize hbf:bigFuel=fuel
 obtain⟨f',g',σ',e,hw',hX'⟩:=PI n σ.next s hs σ (Nat.le_refl _) s.size 0 fuel f1 (upd (upd (fun _=>undef) 5 (.string s)) 6 (.pointer (some ⟨σ.next,0,none⟩))) (σ.push (.siter s 0) none) (by omega) (by rw[←hbf];show s.size<1000000000000;omega) (by simp -implicitDefEqProofs only[go_sem,reduceCtorEq]) (hw.push _ _) ((Ext.refl _).push _ _) ⟨_,by rw[Ak,if_pos rfl]⟩
 rw[e]
 simp -implicitDefEqProofs only[go_sem,AdJ,Q_]
 exact⟨_,_,rfl,hX',hw',rfl⟩
theorem Agw(s:ByteArray)(h:((List.range s.size).all fun p=>(Utf8.decode s p).2==1&&decide (32≤(Utf8.decode s p).1)&&decide ((Utf8.decode s p).1≤126))=true):PlainText s:=by
 intro pos hp
 have:=List.all_eq_true.1 h pos (List.mem_range.2 hp)
 simp only[Bool.and_eq_true,beq_iff_eq,decide_eq_true_eq] at this
 exact⟨(Utf8.decode s pos).1,by rw[←this.1.1],this.1.2,this.2⟩
theorem AeM(n:Nat)(t:ByteArray)(ht:t∈strTexts)(σ:FState)(hw:Wf σ):Gives ((env (n+1)).call 171 [.string t] none σ) σ fun w _=>w=.bool true:=by
 simp only[strTexts,List.mem_cons,List.not_mem_nil,or_false] at ht
 rcases ht with rfl|rfl|rfl|rfl|rfl<;>exact Lf n _ (Agw _ (by kernel_rfl)) (by decide) σ hw
theorem Acm(n:Nat){k:Int}{z:Int}{t:ByteArray}{l:List D}(h:Leaf (.mk k z t l)):∃k':Nat,k=(k':Int)∧Good (n+20) k' z t 0∧l=[]:=by
 cases h with
 | nil=>exact⟨0,rfl,.nil,rfl⟩
 | bool b=>exact⟨1,rfl,.bool _ (by cases b<;>simp),rfl⟩
 | num z h=>exact⟨2,rfl,.num _ (by omega),rfl⟩
 | sym t ht=>exact⟨3,rfl,.sym _ fun σ' hw=>⟨_,σ',AeO n t ht σ',Ext.refl _,hw,rfl⟩,rfl⟩
 | str t ht=>exact⟨4,rfl,.str _ (by
   simp only[strTexts,List.mem_cons,List.not_mem_nil,or_false] at ht
   rcases ht with rfl|rfl|rfl|rfl|rfl<;>decide) fun σ' hw=>AeM (n+19) t ht σ' hw,rfl⟩
end Go.Proofs.YtokieofohmgjdaaGreatDoor
namespace Go.Proofs.YtokieofohmgjdaaGreatDoor
open Go Go.Eng
attribute [local congr] Ac Aj Ai Ad Ah
attribute [-go_sem] List.range_succ
theorem WN(n:Nat)(p:Option Addr)(l:List Int)(cp:Nat)(hl:l.length<9223372036854775808)(σ:FState)(hw:Wf σ)(hI:Ints σ p l)(hp:∀a,p=some a→a.block<σ.next):
  ∃σ',(env (n+1)).call 12 [.slice p l.length cp] none σ=.ret (.pointer (some ⟨σ.next,0,none⟩)) none σ'∧Ext σ σ'∧Wf σ'∧Coil σ' σ.next 0:=by
 rw[Ag _ 12 _ _ rfl,AoK _ _ _ _ (by simp),Af]
 unfold Am2
 simp -implicitDefEqProofs only[go_sem,Aw,Ahz,Xa,AhA,Xb]
 refine⟨_,rfl,(Ext.refl _).push _ _,hw.push _ _,p,l,cp,_,_,by rw[Ak,if_pos rfl];rfl,?_,hl,hp⟩
 intro i z hi
 obtain⟨b,off,cs,hb,h1,h2⟩:=hI i z hi
 exact⟨b,off,cs,hb,by rw[Ab,if_neg (Nat.ne_of_lt (hp _ hb))];exact h1,h2⟩
theorem TQ(n x:Nat)(k:Int)(hk:k≤2000)(p:Option Addr)(l c:Nat)(σ:FState)(m:Value)(hc:σ.cells x=some [.int .i64 k,m]):
  (env (n+1)).call 120 [.pointer (some ⟨x,0,none⟩),.slice p l c] none σ=.ret (.bool true) none σ:=by
 have d1:decide (k≤2000)=true:=by simpa using hk
 rw[Ag _ 120 _ _ rfl,Afn _ _ _ _ (by simp),Af]
 unfold Zl
 cases e:(Int.ofNat l==0) with
 | true=>simp -implicitDefEqProofs only[go_sem,Ol,J7,Om,J8,Oo,J9,e]
 | false=>simp -implicitDefEqProofs only[go_sem,Ol,J7,Om,J8,Oo,J9,e,hc,d1]
theorem FY(n:Nat)(g:Value)(w:Nat)(first:Array Value)(hg:g=.func (.func w) first #[])(k z:Int)(t:ByteArray)(s:Value)(hs:oneCell s=true)(σ:FState)(hw:Wf σ)(h:∀σ',Ext σ σ'→Wf σ'→Gives ((env n).call w (first.toList++[s]) none σ') σ' fun v _=>v=.bool true):
  Gives ((env (n+1)).call 150 [.agg #[g],.agg #[.int .i64 k,.int .i64 z,.string t,s]] none σ) σ fun v _=>v=s:=by
 subst hg
 have hX1:=((Ext.refl σ).push (.cells [.func (.func w) first #[]] 141) none).push (.cells [.int .i64 k,.int .i64 z,.string t,s] 24) none
 have hw1:=(hw.push (.cells [.func (.func w) first #[]] 141) none).push (.cells [.int .i64 k,.int .i64 z,.string t,s] 24) none
 obtain⟨_,σ2,e2,hX2,hw2,rfl⟩:=h _ hX1 hw1
 have c2:σ2.cells (σ.next+1)=some [.int .i64 k,.int .i64 z,.string t,s]:=(hX2.cells (Nat.lt_succ_self _)).trans (by rw[Ab,if_pos (by rw[Aa])];rfl)
 rw[Ag _ 150 _ _ rfl,Afx _ _ _ _ (by simp),Af]
 unfold Zv
 simp -implicitDefEqProofs only[go_sem,Ado,QP,Adp,QQ,Adq,QR,e2,c2,Cm,Dw]
 exact⟨_,_,rfl,hX1.trans hX2,hw2,rfl⟩
end Go.Proofs.YtokieofohmgjdaaGreatDoor
namespace Go.Eng
open Go
def D.parts:D→List D
 | .mk _ _ _ ds=>ds
mutual
def D.pieces(path:List Nat):D→List (List Nat×D)
 | .mk k n t ds=>(path,.mk k n t ds)::D.piecesL path 0 ds
def D.piecesL(path:List Nat)(i:Nat):List D→List (List Nat×D)
 | []=>[]
 | d::ds=>D.pieces (path++[i]) d++D.piecesL path (i+1) ds
end
theorem D.pieces_eq(path:List Nat)(d:D):d.pieces path=(path,d)::D.piecesL path 0 d.parts:=by
 cases d
 simp[D.pieces,D.parts]
def wayOf(st:List (List D×Nat)):List Nat:=(st.map (·.2)).reverse
theorem Dp(ds:List D)(i:Nat)(r:List (List D×Nat)):wayOf ((ds,i)::r)=wayOf r++[i]:=by simp[wayOf]
theorem BB(st:List (List D×Nat)):(wayOf st).length=st.length:=by simp[wayOf]
def below:List (List D×Nat)→List (List Nat×D)
 | []=>[]
 | (ds,i)::r=>D.piecesL (wayOf r) (i+1) (ds.drop (i+1))++below r
def todo:List (List D×Nat)→List (List Nat×D)
 | []=>[]
 | (ds,i)::r=>D.piecesL (wayOf r) i (ds.drop i)++below r
theorem CN{ds:List D}{i:Nat}{d:D}(r:List (List D×Nat))(h:ds[i]? = some d):todo ((ds,i)::r)=(wayOf r++[i],d)::todo ((d.parts,0)::(ds,i)::r):=by
 have hd:ds.drop i=d::ds.drop (i+1):=by
  obtain⟨hi,rfl⟩:=List.getElem?_eq_some_iff.1 h
  rw[List.drop_eq_getElem_cons hi]
 show D.piecesL (wayOf r) i (ds.drop i)++below r=_
 rw[hd,D.piecesL,D.pieces_eq]
 show _=(wayOf r++[i],d)::(D.piecesL (wayOf ((ds,i)::r)) 0 (d.parts.drop 0)++below ((ds,i)::r))
 rw[Dp,below,List.drop_zero]
 simp
theorem Im{ds:List D}(r:List (List D×Nat)):todo ((ds,ds.length)::r)=below r:=by
 show D.piecesL (wayOf r) ds.length (ds.drop ds.length)++below r=_
 rw[List.drop_length,D.piecesL,List.nil_append]
def bump:List (List D×Nat)→List (List D×Nat)
 | []=>[]
 | (ds,i)::r=>(ds,i+1)::r
theorem EP(r:List (List D×Nat)):below r=todo (bump r):=by cases r<;>rfl
structure Chg (F:Nat→Prop) (σ σ':FState):Prop where
 next:σ.next≤σ'.next
 clock:σ.clock≤σ'.clock
 get:∀b,b<σ.next→¬ F b→σ'.heap.get b=σ.heap.get b
theorem Chg.refl(F:Nat→Prop)(σ:FState):Chg F σ σ:=⟨Nat.le_refl _,Nat.le_refl _,fun _ _ _=>rfl⟩
theorem Chg.trans{F G:Nat→Prop}{σ σ₁ σ₂:FState}(h:Chg F σ σ₁)(k:Chg G σ₁ σ₂)(hG:∀b,b<σ.next→G b→F b):Chg F σ σ₂:=
 ⟨Nat.le_trans h.next k.next,Nat.le_trans h.clock k.clock,fun b hb hF=>(k.get b (Nat.lt_of_lt_of_le hb h.next) fun hg=>hF (hG b hb hg)).trans (h.get b hb hF)⟩
theorem Chg.weaken{F G:Nat→Prop}{σ σ':FState}(h:Chg F σ σ')(hG:∀b,b<σ.next→F b→G b):Chg G σ σ':=⟨h.next,h.clock,fun b hb hg=>h.get b hb fun hf=>hg (hG b hb hf)⟩
theorem Ext.chg{σ σ':FState}(h:Ext σ σ')(F:Nat→Prop):Chg F σ σ':=⟨h.next,h.clock,fun b hb _=>h.get b hb⟩
theorem Chg.push{F:Nat→Prop}{σ σ₁:FState}(h:Chg F σ σ₁)(o:FObj)(fz:Option Nat):Chg F σ (σ₁.push o fz):=
 ⟨Nat.le_succ_of_le h.next,Nat.le_succ_of_le h.clock,fun b hb hF=>by
  rw[Ak,if_neg (by have:=h.next;omega)]
  exact h.get b hb hF⟩
theorem Chg.put{F:Nat→Prop}{σ σ₁:FState}(h:Chg F σ σ₁)(c:Nat)(o:FObj)(fz:Option Nat)(hc:σ.next≤c∨F c):Chg F σ (σ₁.put c o fz):=
 ⟨h.next,Nat.le_succ_of_le h.clock,fun b hb hF=>by
  rw[An,if_neg (by
   intro he
   subst he
   rcases hc with hc|hc
   ·omega
   ·exact hF hc)]
  exact h.get b hb hF⟩
theorem Chg.cells{F:Nat→Prop}{σ σ':FState}(h:Chg F σ σ'){b:Nat}(hb:b<σ.next)(hF:¬ F b):σ'.cells b=σ.cells b:=by
 rw[Ap,Ap,h.get b hb hF]
theorem Chg.ext{F:Nat→Prop}{σ σ':FState}(h:Chg F σ σ')(hF:∀b,b<σ.next→¬ F b):Ext σ σ':=⟨h.next,h.clock,fun b hb=>h.get b hb (hF b hb)⟩
def Stk(T:TypeId)(σ:FState)(b:Nat)(s:Value)(vs:List Value):Prop:=
 ∃c fz ver,s=.slice (some ⟨b,0,none⟩) vs.length c.length∧σ.heap.get b=some ⟨.cells c T,false,fz,ver⟩∧(fz=none∨fz=some 1)∧∃more,c=vs++more
section
variable {T:TypeId} {σ σ':FState} {b:Nat} {s:Value} {vs:List Value}
theorem Stk.keep(h:Stk T σ b s vs)(hb:σ'.heap.get b=σ.heap.get b):Stk T σ' b s vs:=by
 obtain⟨c,fz,ver,h1,h2,h3⟩:=h
 exact⟨c,fz,ver,h1,hb.trans h2,h3⟩
theorem Stk.lt(h:Stk T σ b s vs)(hw:Wf σ):b<σ.next:=by
 obtain⟨c,fz,ver,h1,h2,h3⟩:=h
 exact(hw _ _ h2).1
theorem Stk.cells(h:Stk T σ b s vs):∃more,s=.slice (some ⟨b,0,none⟩) vs.length (vs++more).length∧σ.cells b=some (vs++more):=by
 obtain⟨c,fz,ver,h1,h2,h3,more,rfl⟩:=h
 exact⟨more,h1,Au h2⟩
theorem Stk.pop{v:Value}(h:Stk T σ b s (vs++[v])):∃n,s=.slice (some ⟨b,0,none⟩) (vs.length+1) n∧vs.length≤n∧Stk T σ b (.slice (some ⟨b,0,none⟩) vs.length n) vs:=by
 obtain⟨c,fz,ver,h1,h2,h3,more,rfl⟩:=h
 exact⟨_,by rw[h1];simp,by simp,_,fz,ver,rfl,h2,h3,v::more,by simp⟩
theorem Stk.set{v v':Value}(h:Stk T σ b s (vs++[v])):∃more fz,σ.heap.get b=some ⟨.cells (vs++v::more) T,false,fz,((σ.heap.get b).map (·.ver)).getD 0⟩∧Stk T (σ.put b (.cells (vs++v'::more) T) fz) b s (vs++[v']):=by
 obtain⟨c,fz,ver,h1,h2,h3,more,rfl⟩:=h
 refine⟨more,fz,by rw[h2];simp,vs++v'::more,fz,σ.clock,?_,by rw[An,if_pos rfl],h3,more,by simp⟩
 rw[h1]
 simp
theorem Stk.last{v:Value}(h:Stk T σ b s (vs++[v])):∃c,σ.cells b=some c∧c[vs.length]? = some v:=by
 obtain⟨c,fz,ver,h1,h2,h3,more,rfl⟩:=h
 exact⟨_,Au h2,by simp⟩
theorem Stk.store{v v':Value}(h:Stk T σ b s (vs++[v]))(hw:Wf σ)(ho:oneCell v'=true):
  ∃τ,fstore 1 (.pointer (some ⟨b,vs.length,none⟩)) v' σ=.skip τ∧Stk T τ b s (vs++[v'])∧Chg (· = b) σ τ∧Wf τ:=by
 have hb:=h.lt hw
 obtain⟨c,fz,ver,h1,h2,h3,more,rfl⟩:=h
 have hs:(vs++[v]++more).set vs.length v'=vs++v'::more:=by simp
 have hl:vs.length<(vs++[v]++more).length:=by simp
 refine⟨σ.put b (.cells (vs++v'::more) T) fz,?_,⟨vs++v'::more,fz,σ.clock,?_,by rw[An,if_pos rfl],h3,more,by simp⟩,(Chg.refl (· = b) _).put _ _ _ (.inr rfl),hw.put _ _ _ hb⟩
 ·rw[ET _ _ _ _ ho,h2]
  simp only[]
  rw[if_pos hl,hs]
 ·rw[h1]
  simp
theorem Stk.append(h:Stk T σ b s vs)(hw:Wf σ)(v:Value)(bytes bx cx:Nat)(hx:σ.cells bx=some [v])(ho:oneCell v=true)(hby:bytes<1000)(hlen:vs.length<100000):
  ∃b' s' τ,fappend T 1 bytes s (.slice (some ⟨bx,0,none⟩) 1 cx) σ=.val s' τ∧Stk T τ b' s' (vs++[v])∧(b'=b∨b'=σ.next)∧Chg (· = b) σ τ∧Wf τ:=by
 have hb:=h.lt hw
 obtain⟨c,fz,ver,rfl,h2,h3,more,rfl⟩:=h
 cases more with
 | nil=>
  rw[List.append_nil] at h2
  obtain⟨τ,e,hτ⟩:=Pc T bytes b bx cx vs.length ver fz vs v σ h2 h3 hx ho rfl hby hlen
  rw[List.append_nil]
  refine⟨σ.next,_,τ,e,?_,.inr rfl,?_,?_⟩
  ·rcases hτ with rfl|rfl
   ·exact⟨vs++[v],some 1,_,by simp,by rw[Ak,if_pos rfl],.inr rfl,[],by simp⟩
   ·exact⟨vs++[v],some 1,_,by simp,by rw[Ak,if_pos (by rw[Ao])],.inr rfl,[],by simp⟩
  ·rcases hτ with rfl|rfl
   ·exact(Chg.refl (· = b) _).push _ _
   ·exact((Chg.refl (· = b) _).put _ _ _ (.inr rfl)).push _ _
  ·rcases hτ with rfl|rfl
   ·exact hw.push _ _
   ·exact(hw.put _ _ _ hb).push _ _
 | cons y more=>
  have hlt:vs.length<(vs++y::more).length:=by simp
  refine⟨b,_,_,Pd T bytes b bx cx vs.length (vs++y::more).length ver fz T _ v σ h2 hx ho hlt (Nat.le_refl _),?_,.inl rfl,(Chg.refl (· = b) _).put _ _ _ (.inr rfl),hw.put _ _ _ hb⟩
  have hs:(vs++y::more).set vs.length v=vs++v::more:=by
   rw[List.set_append_right _ _ (Nat.le_refl _),Nat.sub_self]
   rfl
  rw[hs]
  exact⟨vs++v::more,fz,_,by simp,by rw[An,if_pos rfl],h3,more,by simp⟩
end
end Go.Eng
namespace Go.Proofs.YtokieofohmgjdaaGreatDoor
open Go Go.Eng
section
variable (E:Env) (fn:FuncId) (params:List Tmp) (assign body:Code) (nl nt:Nat) (f g:Nat→Value) (ds:List Deferred) (u:Option FrameMode) (σ:FState)
def LoopAt(l r:Nat)(st:LoopState)(σ:FState):Prop:=∃ver,σ.heap.get l=some ⟨.loop st none fn ((List.range nl).map f) g nl nt params assign body r,false,none,ver⟩
theorem IH(t:Nat)(fx:FuncId)(first cap:Array Value)(h:(Sl nl nt f g ds).get t=.func (.func fx) first cap):
  frange E none fn (.tmp t) params assign body (Sl nl nt f g ds) u σ=leaveLoop (σ.next+1) [{ target:=.collected σ.next,args:=#[] }] (Sl nl nt f g ds) u
   (E.call fx (first.toList++[.func (.yield (σ.next+1)) #[] #[]]++cap.toList) none ((σ.push (.defd true) none).push (.loop .ready none fn ((List.range nl).map f) g nl nt params assign body σ.next) none)):=by
 show enterLoop E fn (.tmp t) params assign body σ.next _ _ u _=_
 unfold enterLoop
 rw[Afe,h]
 rfl
theorem PN(l r:Nat)(mark:List Deferred)(v:Value)(u':Option FrameMode)(h:LoopAt fn params assign body nl nt f g l r .ready σ):
  leaveLoop l mark (Sl nl nt f g ds) u (.ret v u' σ)=.done .normal (Sl nl nt f g (mark++ds)) u (σ.put l (.loop .exhausted none fn ((List.range nl).map f) g nl nt params assign body r) none):=by
 obtain⟨ver,h⟩:=h
 unfold leaveLoop
 simp only[h]
 rfl
theorem Eu:LoopAt fn params assign body nl nt f g (σ.next+1) σ.next .ready ((σ.push (.defd true) none).push (.loop .ready none fn ((List.range nl).map f) g nl nt params assign body σ.next) none):=
 ⟨_,by rw[Ak,if_pos (by rw[Aa])]⟩
end
section
variable (fn:FuncId) (params:List Tmp) (assign body:Code) (nl nt:Nat) (f g:Nat→Value) (σ:FState)
theorem FP(n l r:Nat)(args:List Value)(h:LoopAt fn params assign body nl nt f g l r .ready σ)(hn:args.length=params.length):
  (env (n+1)).round l args σ=(match code Tryz.prog nls assign (env n) (some l) fn (putAll (Sl nl nt f g []) (params.zip args)) none σ with
     | .done .normal a _ σ=>beginRound l (fun σ=>endRound (Tryz.prog.funcs[fn]?).isSome l (code Tryz.prog nls body (env n) (some l) fn a none σ)) σ
     | _=>.no):=by
 obtain⟨ver,h⟩:=h
 rw[AbW]
 unfold fround
 simp only[h]
 rw[show Nat.beq (len args) (len params)=true by rw[Nat.beq_eq,CO,CO];exact hn]
 rfl
theorem CP(l r:Nat)(k:FState→CRes)(h:LoopAt fn params assign body nl nt f g l r .ready σ):
  beginRound l k σ=k (σ.put l (.loop .busy none fn ((List.range nl).map f) g nl nt params assign body r) none):=by
 obtain⟨ver,h⟩:=h
 unfold beginRound
 simp only[h]
 rfl
theorem D6(known:Bool)(l r:Nat)(a:FAct)(u:Option FrameMode)(h:LoopAt fn params assign body nl nt f g l r .busy σ):
  endRound known l (.done .normal a u σ)=.ret (.bool true) none (σ.put l (.loop .ready none fn ((List.range nl).map f) g nl nt params assign body r) none):=by
 obtain⟨ver,h⟩:=h
 show endJump l .ready none true σ=_
 unfold endJump setJump
 simp only[h]
 rfl
theorem LoopAt.put(l r:Nat)(st:LoopState)(σ:FState):LoopAt fn params assign body nl nt f g l r st (σ.put l (.loop st none fn ((List.range nl).map f) g nl nt params assign body r) none):=⟨_,by rw[An,if_pos rfl]⟩
theorem D2(a:FAct):putAll a []=a:=rfl
theorem Dz(a:FAct)(t:Tmp)(v:Value)(l:List (Tmp×Value)):putAll a ((t,v)::l)=putAll (a.put (some t) v) l:=rfl
end
section
variable (P:Program) (E:Env) (rs:List ResultVar) (a:FAct) (u:Option FrameMode) (σ:FState)
theorem Df(r:Nat)(args:Array Value)(ds:List Deferred)(ver:Nat)(h:σ.heap.get r=some ⟨.defd true,false,none,ver⟩):
  fleave P E rs a u ({ target:=.collected r,args:=args }::ds) .returning σ=fleave P E rs a u ds .returning (σ.put r (.defd false) none):=by
 show (cond (isRun .returning) CRes.no (match σ.heap.get r with
    | some e=>(match e.obj with
     | .defd true=>cond e.ro CRes.no (fleave P E rs a u ds .returning (σ.put r (.defd false) none))
     | _=>CRes.no)
    | none=>CRes.no))=_
 rw[h]
 rfl
theorem Cs(dst:Option Tmp)(k:RunF)(ro:Option Nat)(l:Nat)(args:List Value)(s:FState):afterOp E ro dst a u k (.yield l args s)=afterCall a dst u k (E.round l args s):=rfl
theorem Cj(l:Nat)(args:List Value):fcallV (.func (.yield l) #[] #[]) args σ=.yield l args σ:=rfl
end
theorem LoopAt.keep{fn:FuncId}{params:List Tmp}{assign body:Code}{nl nt:Nat}{f g:Nat→Value}{l r:Nat}{st:LoopState}{σ σ':FState}(h:LoopAt fn params assign body nl nt f g l r st σ)(hb:σ'.heap.get l=σ.heap.get l):LoopAt fn params assign body nl nt f g l r st σ':=by
 obtain⟨ver,h⟩:=h
 exact⟨ver,hb.trans h⟩
theorem AeQ{σ:FState}(hw:Wf σ){lam:Nat}(hl:σ.clock≤lam)(b:Nat):(view σ lam).heap.get b=σ.heap.get b:=by
 rw[FT]
 cases hg:σ.heap.get b with
 | none=>rfl
 | some e=>simp only;rw[if_pos (by have:=(hw b e hg).2;omega)]
end Go.Proofs.YtokieofohmgjdaaGreatDoor
namespace Go.Proofs.YtokieofohmgjdaaGreatDoor
open Go Go.Eng
attribute [local congr] Ac Aj Ai Ad Ah
attribute [-go_sem] List.range_succ
abbrev TD:TypeId:=24
abbrev TL:TypeId:=22
abbrev TI:TypeId:=3
def PathAt(σ:FState)(v:Value)(path:List Nat):Prop:=
 ∃p c,v=.slice p path.length c∧((path=[]∧p=none∧c=0)∨∃b more,p=some ⟨b,0,none⟩∧σ.cells b=some ((path.map fun i=>Value.int .i64 (.ofNat i))++more))
structure Body (E:Env) (l:Nat) (R:Nat→Prop) (g:Value) (I:List (List Nat×D)→(Nat→Prop)→FState→Prop) (all:List (List Nat×D)):Prop where
 stays:∀done B σ σ',I done B σ→Wf σ→Chg (fun b=>¬ B b∧¬ R b) σ σ'→I done B σ'
 own:∀done B σ,I done B σ→∀b,B b→b<σ.next∧¬ R b
 inside:∀done B σ k z t p ln c,I done B σ→Wf σ→Gives (E.call 150 [.agg #[g],.agg #[.int .i64 k,.int .i64 z,.string t,.slice p ln c]] none σ) σ fun v _=>v=.slice p ln c
 go:∀done path d rest B σ pv v,all=done++(path,d)::rest→Wf σ→I done B σ→PathAt σ pv path→LaidR R σ v d→
  ∃B' σ',E.round l [pv,v] σ=.ret (.bool true) none σ'∧Wf σ'∧Chg B σ σ'∧(∀b,B' b→B b∨σ.next≤b)∧I (done++[(path,d)]) B' σ'
structure BodyTo (kk:Nat) (E:Env) (l:Nat) (R:Nat→Prop) (g:Value) (I:List (List Nat×D)→(Nat→Prop)→FState→Prop) (all:List (List Nat×D)):Prop where
 stays:∀done B σ σ',I done B σ→Wf σ→Chg (fun b=>¬ B b∧¬ R b) σ σ'→I done B σ'
 own:∀done B σ,I done B σ→∀b,B b→b<σ.next∧¬ R b
 inside:∀done B σ k z t p ln c,I done B σ→Wf σ→Gives (E.call 150 [.agg #[g],.agg #[.int .i64 k,.int .i64 z,.string t,.slice p ln c]] none σ) σ fun v _=>v=.slice p ln c
 go:∀done path d rest B σ pv v,done.length<kk→all=done++(path,d)::rest→Wf σ→I done B σ→PathAt σ pv path→LaidR R σ v d→
  ∃B' σ',E.round l [pv,v] σ=.ret (.bool true) none σ'∧Wf σ'∧Chg B σ σ'∧(∀b,B' b→B b∨σ.next≤b)∧I (done++[(path,d)]) B' σ'
theorem Body.to{E:Env}{l:Nat}{R:Nat→Prop}{g:Value}{I:List (List Nat×D)→(Nat→Prop)→FState→Prop}{all:List (List Nat×D)}(h:Body E l R g I all):BodyTo all.length E l R g I all:=⟨h.stays,h.own,h.inside,fun done path d rest B σ pv v _=>h.go done path d rest B σ pv v⟩
def Levels(R:Nat→Prop)(σ:FState):Nat→List Value→List (List D×Nat)→Prop
 | _,[],[]=>True
 | m,u::us,(ds,i)::r=>(∃p c,u=.slice p ds.length c∧LaidRE R σ p 0 ds)∧i+m≤ds.length∧ds.length<1000000000∧Levels R σ 1 us r
 | _,_,_=>False
theorem Levels.keep{R:Nat→Prop}{σ σ':FState}(h:∀b cs,R b→σ.cells b=some cs→σ'.cells b=some cs):∀ {m:Nat} {us:List Value} {st:List (List D×Nat)},Levels R σ m us st→Levels R σ' m us st
 | _,[],[],_=>trivial
 | _,_::_,(_,_)::_,⟨⟨p,c,h1,h2⟩,h3,h4,h5⟩=>⟨⟨p,c,h1,h2.keep fun b cs hb hc=>⟨h b cs hb hc,hb⟩⟩,h3,h4,h5.keep h⟩
theorem Levels.length{R:Nat→Prop}{σ:FState}:∀ {m:Nat} {us:List Value} {st:List (List D×Nat)},Levels R σ m us st→us.length=st.length
 | _,[],[],_=>rfl
 | _,_::_,(_,_)::_,⟨_,_,_,h⟩=>congrArg (· + 1) h.length
theorem Levels.bump{R:Nat→Prop}{σ:FState}:∀ {us:List Value} {st:List (List D×Nat)},Levels R σ 1 us st→Levels R σ 0 us (bump st)
 | [],[],_=>trivial
 | _::_,(_,_)::_,⟨h1,h3,h4,h5⟩=>⟨h1,h3,h4,h5⟩
structure WHead (l:Nat) (R:Nat→Prop) (g:Value) (I:List (List Nat×D)→(Nat→Prop)→FState→Prop) (all:List (List Nat×D)) (bw bo bp base:Nat) (B:Nat→Prop) (us:List Value) (st:List (List D×Nat)) (done:List (List Nat×D)) (f:Nat→Value) (σ:FState):Prop where
 f0:f 0=.func (.yield l) #[] #[]
 f2:f 2=.pointer (some ⟨bw,0,none⟩)
 cw:σ.cells bw=some [g]
 hbw:bw<base∧¬ B bw
 opn:Stk TL σ bo (f 4) us.reverse
 hbo:base≤bo∧¬ B bo
 lev:Levels R σ 0 us st
 low:∀b,R b→b<base
 pth:Stk TI σ bp (f 5) ((wayOf st).map fun i=>.int .i64 (.ofNat i))
 hbp:base≤bp∧¬ B bp
 ne:bo≠bp
 inv:I done B σ
 all:all=done++todo st
 wf:Wf σ
 base:base≤σ.next
theorem LaidR.shape{R:Nat→Prop}{σ:FState}{v:Value}{d:D}(h:LaidR R σ v d):∃k z t p c,v=.agg #[.int .i64 k,.int .i64 z,.string t,.slice p d.parts.length c]∧LaidRE R σ p 0 d.parts:=by
 obtain⟨k,z,t,ds⟩:=d
 obtain⟨p,c,h1,h2⟩:=h
 exact⟨k,z,t,p,c,h1,h2⟩
theorem LaidRE.get{R:Nat→Prop}{σ:FState}{p:Option Addr}:∀ {i:Nat} {ds:List D} {k:Nat} {d:D},LaidRE R σ p i ds→ds[k]? = some d→
  ∃b off cs,p=some ⟨b,off,none⟩∧R b∧σ.cells b=some cs∧4≤cs.length-(off+(i+k)*4)∧LaidR R σ (.agg ((cs.drop (off+(i+k)*4)).take 4).toArray) d
 | i,d::ds,0,_,h,hk=>by
  cases hk
  exact h.1
 | i,d::ds,k+1,_,h,hk=>by
  have:=LaidRE.get (i:=i+1) h.2 (k:=k) (by simpa using hk)
  rwa [show i+1+k=i+(k+1) by omega] at this
 | _,[],_,_,_,hk=>by simp at hk
theorem AnA:under Tryz.prog 54=some (.slice TL):=by kernel_rfl
theorem AqS:sizeOfT Tryz.prog TL=some 1:=by kernel_rfl
theorem FS:under Tryz.prog 25=some (.slice TI):=by kernel_rfl
theorem Ik:sizeOfT Tryz.prog TI=some 1:=by kernel_rfl
theorem O6{T t:TypeId}{σ:FState}{b:Nat}{s:Value}{vs:List Value}{v:Value}(h:Stk T σ b s (vs++[v]))(hw:Wf σ)(hu:under Tryz.prog t=some (.slice T))(hs:sizeOfT Tryz.prog T=some 1):
  ∃n,s=.slice (some ⟨b,0,none⟩) (vs.length+1) n∧Stk T σ b (.slice (some ⟨b,0,none⟩) vs.length n) vs∧
   fslice Tryz.prog t s none (some (.int .i64 (.ofNat vs.length))) none (view σ σ.clock)=.val (.slice (some ⟨b,0,none⟩) vs.length n) (view σ σ.clock):=by
 obtain⟨n,h1,h2,h3⟩:=h.pop
 obtain⟨c,fz,ver,k1,k2,k3,more,k4⟩:=h3
 refine⟨n,h1,⟨c,fz,ver,k1,k2,k3,more,k4⟩,?_⟩
 rw[h1]
 exact Acd Tryz.prog t T 1 b 0 (vs.length+1) n vs.length _ hu hs h2 c T false fz ver ((AeQ hw (Nat.le_refl _) b).trans k2) k3
theorem WHead.top{l:Nat}{R:Nat→Prop}{g:Value}{I:List (List Nat×D)→(Nat→Prop)→FState→Prop}{all:List (List Nat×D)}{bw bo bp base:Nat}{B:Nat→Prop}{u:Value}{us:List Value}{ds:List D}{i:Nat}{r:List (List D×Nat)}{done:List (List Nat×D)}{f:Nat→Value}{σ:FState}(h:WHead l R g I all bw bo bp base B (u::us) ((ds,i)::r) done f σ):
  ∃p c mo mp,u=.slice p ds.length c∧LaidRE R σ p 0 ds∧us.length=r.length∧
   f 4=.slice (some ⟨bo,0,none⟩) (r.length+1) (us.reverse++u::mo).length∧σ.cells bo=some (us.reverse++u::mo)∧(us.reverse++u::mo)[r.length]? = some u∧
   f 5=.slice (some ⟨bp,0,none⟩) (r.length+1) (((wayOf r).map fun i=>Value.int .i64 (.ofNat i))++.int .i64 (.ofNat i)::mp).length∧σ.cells bp=some (((wayOf r).map fun i=>Value.int .i64 (.ofNat i))++.int .i64 (.ofNat i)::mp)∧
   (((wayOf r).map fun i=>Value.int .i64 (.ofNat i))++.int .i64 (.ofNat i)::mp)[r.length]? = some (.int .i64 (.ofNat i)):=by
 obtain⟨⟨p,c,h1,h2⟩,h3,h4,h5⟩:=h.lev
 have hl:=h5.length
 obtain⟨mo,e1,e2⟩:=h.opn.cells
 obtain⟨mp,e3,e4⟩:=h.pth.cells
 rw[List.reverse_cons,List.append_assoc,List.singleton_append] at e1 e2
 rw[Dp,List.map_append,List.append_assoc,List.map_singleton,List.singleton_append] at e3 e4
 refine⟨p,c,mo,mp,h1,h2,hl,?_,e2,?_,?_,e4,?_⟩
 ·rw[e1]
  simp[hl]
 ·rw[List.getElem?_append_right (by simp[hl])]
  simp[hl]
 ·rw[e3]
  simp[BB]
 ·rw[List.getElem?_append_right (by simp[BB])]
  simp[BB]
end Go.Proofs.YtokieofohmgjdaaGreatDoor
namespace Go.Proofs.YtokieofohmgjdaaGreatDoor
open Go Go.Eng
attribute [local congr] Ac Aj Ai Ad Ah
attribute [-go_sem] List.range_succ
section
variable {kk n l bw bo bp base:Nat} {R:Nat→Prop} {g:Value} {I:List (List Nat×D)→(Nat→Prop)→FState→Prop} {all done:List (List Nat×D)} {B:Nat→Prop} {u:Value} {us:List Value} {ds:List D} {i:Nat} {r:List (List D×Nat)} {f:Nat→Value} {σ:FState}
theorem AqV(k:Nat)(hk:k<1000000000000):wrapI (Int.ofNat (k+1)-1)=Int.ofNat k:=by
 rw[B_ (by rw[Int.ofNat_eq_natCast];omega),Int.ofNat_eq_natCast,Int.ofNat_eq_natCast];omega
theorem Awx(k:Nat)(hk:k<1000000000000):wrapI (Int.ofNat (k+1+1)-2)=Int.ofNat k:=by
 rw[B_ (by rw[Int.ofNat_eq_natCast];omega),Int.ofNat_eq_natCast,Int.ofNat_eq_natCast];omega
theorem D4(k:Nat)(hk:k<1000000000000):wrapI (Int.ofNat k+1)=Int.ofNat (k+1):=by
 rw[B_ (by rw[Int.ofNat_eq_natCast];omega),Int.ofNat_eq_natCast,Int.ofNat_eq_natCast];omega
theorem MU(hB:BodyTo kk (env n) l R g I all)(h:WHead l R g I all bw bo bp base B (u::us) ((ds,ds.length)::r) done f σ)(hr:r.length<100000)(gg:Nat→Value):
  ∃f' g' σ',Dg (env n) none 149 (Sl 8 80 f gg []) none σ=.done .normal (Sl 8 80 f' g' []) none σ'∧Chg (fun b=>base≤b∧¬ B b) σ σ'∧
   WHead l R g I all bw bo bp base B us (bump r) done f' σ':=by
 obtain⟨p,c,mo,mp,rfl,hE,hl,h4,co,ho,h5,cp,hp⟩:=h.top
 have hv:=BQ h.wf (Nat.le_refl σ.clock)
 have d0:decide (Int.ofNat (r.length+1)>0)=true:=by simp
 have w1:=AqV r.length (by omega)
 have lt1:r.length<r.length+1:=Nat.lt_succ_self _
 have hopn:=h.opn
 have hpth:=h.pth
 rw[List.reverse_cons] at hopn
 rw[Dp,List.map_append,List.map_singleton] at hpth
 obtain⟨no,so1,so2,so3⟩:=O6 hopn h.wf AnA AqS
 obtain⟨np,sp1,sp2,sp3⟩:=O6 hpth h.wf FS Ik
 rw[List.length_reverse,hl] at so1 so2 so3
 rw[List.length_map,BB] at sp1 sp2 sp3
 rw[h4] at so1 so3
 rw[h5] at sp1 sp3
 unfold Dg
 simp -implicitDefEqProofs only[go_sem,EB,E6,Gi,Gh,Gk,Gj,h4,h5,d0,w1,lt1,hv,co,cp,ho,hp]
 generalize hg:upd _ 33 _=g1
 clear hg
 have f4:upd f 6 (Value.int IntKind.i64 (Int.ofNat (r.length+1))) 4=f 4:=by simp -implicitDefEqProofs only[go_sem,reduceCtorEq]
 have f5:upd f 6 (Value.int IntKind.i64 (Int.ofNat (r.length+1))) 5=f 5:=by simp -implicitDefEqProofs only[go_sem,reduceCtorEq]
 have f0:upd f 6 (Value.int IntKind.i64 (Int.ofNat (r.length+1))) 0=f 0:=by simp -implicitDefEqProofs only[go_sem,reduceCtorEq]
 have f2:upd f 6 (Value.int IntKind.i64 (Int.ofNat (r.length+1))) 2=f 2:=by simp -implicitDefEqProofs only[go_sem,reduceCtorEq]
 have f6:upd f 6 (Value.int IntKind.i64 (Int.ofNat (r.length+1))) 6=Value.int IntKind.i64 (Int.ofNat (r.length+1)):=by simp -implicitDefEqProofs only[go_sem,reduceCtorEq]
 generalize upd f 6 _=f1 at f4 f5 f0 f2 f6 ⊢
 simp -implicitDefEqProofs only[go_sem,Adm,QN,f4,f5,f6,h4,h5,w1,so3,sp3]
 generalize hg:upd g1 _ _=g2
 clear hg
 have q4:upd (upd f1 4 (Value.slice (some ⟨bo,0,none⟩) r.length no)) 5 (Value.slice (some ⟨bp,0,none⟩) r.length np) 4=(Value.slice (some ⟨bo,0,none⟩) r.length no):=by simp -implicitDefEqProofs only[go_sem,reduceCtorEq]
 have q5:upd (upd f1 4 (Value.slice (some ⟨bo,0,none⟩) r.length no)) 5 (Value.slice (some ⟨bp,0,none⟩) r.length np) 5=(Value.slice (some ⟨bp,0,none⟩) r.length np):=by simp -implicitDefEqProofs only[go_sem,reduceCtorEq]
 have q0:upd (upd f1 4 (Value.slice (some ⟨bo,0,none⟩) r.length no)) 5 (Value.slice (some ⟨bp,0,none⟩) r.length np) 0=f 0:=by simp -implicitDefEqProofs only[go_sem,reduceCtorEq,f0]
 have q2:upd (upd f1 4 (Value.slice (some ⟨bo,0,none⟩) r.length no)) 5 (Value.slice (some ⟨bp,0,none⟩) r.length np) 2=f 2:=by simp -implicitDefEqProofs only[go_sem,reduceCtorEq,f2]
 have q6:upd (upd f1 4 (Value.slice (some ⟨bo,0,none⟩) r.length no)) 5 (Value.slice (some ⟨bp,0,none⟩) r.length np) 6=Value.int IntKind.i64 (Int.ofNat (r.length+1)):=by simp -implicitDefEqProofs only[go_sem,reduceCtorEq,f6]
 generalize upd (upd f1 4 _) 5 _=f2' at q4 q5 q0 q2 q6 ⊢
 obtain⟨_,hi,hds,hlev⟩:=h.lev
 have hall:=h.all
 rw[Im,EP] at hall
 cases r with
 | nil=>
  have d1:decide (Int.ofNat (([]:List (List D×Nat)).length+1)>1)=false:=by decide
  simp -implicitDefEqProofs only[go_sem,OF,Km,q6,d1]
  refine⟨_,_,_,rfl,Chg.refl _ _,?_⟩
  exact { f0:=q0.trans h.f0,f2:=q2.trans h.f2,cw:=h.cw,hbw:=h.hbw,opn:=by rw[q4];exact so2,hbo:=h.hbo,lev:=hlev.bump,low:=h.low,pth:=by rw[q5];exact sp2,hbp:=h.hbp,ne:=h.ne,inv:=h.inv,all:=hall,wf:=h.wf,base:=h.base }
 | cons x r'=>
  obtain⟨e,j⟩:=x
  have d1:decide (Int.ofNat ((((e,j)::r'):List (List D×Nat)).length+1)>1)=true:=by simp;omega
  have w2:=Awx r'.length (by simp at hr;omega)
  have hlen:(((e,j)::r'):List (List D×Nat)).length=r'.length+1:=rfl
  cases us with
  | nil=>exact absurd hlev (fun h=>h)
  | cons u' us'=>
   have hlevs:=hlev
   obtain⟨hu,hj,hje,hlev'⟩:=hlev
   have w3:=D4 j (by omega)
   have sp2':=sp2
   rw[Dp,List.map_append,List.map_singleton] at sp2'
   obtain⟨cc,k1,k2⟩:=sp2'.last
   obtain⟨τ,k3,k4,k5,k6⟩:=sp2'.store (v':=.int .i64 (.ofNat (j+1))) h.wf (Ea _ _)
   rw[List.length_map,BB] at k2 k3
   rw[hlen] at q5 q6 d1
   have lt2:r'.length<r'.length+1:=Nat.lt_succ_self _
   simp -implicitDefEqProofs only[go_sem,OF,Km,Adn,QO,q6,d1,q5,w2,lt2,k1,k2,w3,k3]
   refine⟨_,_,_,rfl,k5.weaken fun b _ hb=>by subst hb;exact h.hbp,?_⟩
   have hne:bw≠bp:=by have:=h.hbw.1;have:=h.hbp.1;omega
   exact {
       f0:=q0.trans h.f0,f2:=q2.trans h.f2,cw:=(k5.cells (h.wf.cells h.cw) hne).trans h.cw,hbw:=h.hbw,opn:=by rw[q4];exact so2.keep (k5.get bo (so2.lt h.wf) h.ne),hbo:=h.hbo,
       lev:=(Levels.bump hlevs).keep fun b cs hb hc=>(k5.cells (h.wf.cells hc) (by have:=h.low b hb;have:=h.hbp.1;omega)).trans hc,low:=h.low,
       pth:=by rw[q5];show Stk TI τ bp _ ((wayOf ((e,j+1)::r')).map _);rw[Dp,List.map_append,List.map_singleton];exact k4,
       hbp:=h.hbp,ne:=h.ne,inv:=hB.stays _ _ _ _ h.inv h.wf (k5.weaken fun b _ hb=>by subst hb;exact⟨h.hbp.2,fun hr=>by have:=h.low _ hr;have:=h.hbp.1;omega⟩),all:=hall,wf:=k6,base:=Nat.le_trans h.base k5.next }
end
end Go.Proofs.YtokieofohmgjdaaGreatDoor
namespace Go.Proofs.YtokieofohmgjdaaGreatDoor
open Go Go.Eng
attribute [local congr] Ac Aj Ai Ad Ah
attribute [-go_sem] List.range_succ
section
variable {kk n l bw bo bp base:Nat} {R:Nat→Prop} {g:Value} {I:List (List Nat×D)→(Nat→Prop)→FState→Prop} {all done:List (List Nat×D)} {B:Nat→Prop} {u:Value} {us:List Value} {ds:List D} {i:Nat} {d:D} {r:List (List D×Nat)} {f:Nat→Value} {σ:FState}
theorem MT(hB:BodyTo kk (env n) l R g I all)(hk:done.length<kk)(h:WHead l R g I all bw bo bp base B (u::us) ((ds,i)::r) done f σ)(hd:ds[i]? = some d)(hr:r.length<90000)(hps:d.parts.length<1000000000)(gg:Nat→Value):
  ∃f' g' σ' B' bo' bp' u',Dg (env n) none 149 (Sl 8 80 f gg []) none σ=.done .normal (Sl 8 80 f' g' []) none σ'∧Chg (fun b=>B b∨base≤b) σ σ'∧(∀b,B' b→B b∨base≤b)∧
   WHead l R g I all bw bo' bp' base B' (u'::u::us) ((d.parts,0)::(ds,i)::r) (done++[(wayOf r++[i],d)]) f' σ':=by
 obtain⟨p,c,mo,mp,rfl,hE,hl,h4,co,ho,h5,cp,hp⟩:=h.top
 have hv:=BQ h.wf (Nat.le_refl σ.clock)
 have d0:decide (Int.ofNat (r.length+1)>0)=true:=by simp
 have w1:=AqV r.length (by omega)
 have lt1:r.length<r.length+1:=Nat.lt_succ_self _
 have hi:i<ds.length:=(List.getElem?_eq_some_iff.1 hd).1
 have ne1:(Int.ofNat i==Int.ofNat ds.length)=false:=by simp;omega
 obtain⟨b,off,cs,rfl,hRb,hcs,hle,hL⟩:=LaidRE.get hE hd
 rw[Nat.zero_add] at hle hL
 obtain⟨k,z,t,q,c',hag,hq⟩:=LaidR.shape hL
 have htk:(cs.drop (off+i*4)).take 4=[.int .i64 k,.int .i64 z,.string t,.slice q d.parts.length c']:=by
  have:=congrArg (fun v=>match v with|.agg a=>a.toList|_=>[]) hag
  simpa using this
 rw[htk] at hL
 have hall:=h.all
 rw[CN r hd] at hall
 unfold Dg
 simp -implicitDefEqProofs only[go_sem,EB,E6,Gi,Gh,Gk,Gj,h4,h5,d0,w1,lt1,hv,co,cp,ho,hp,ne1]
 generalize hg:upd _ 33 _=g1
 clear hg
 have f4:upd f 6 (Value.int IntKind.i64 (Int.ofNat (r.length+1))) 4=f 4:=by simp -implicitDefEqProofs only[go_sem,reduceCtorEq]
 have f5:upd f 6 (Value.int IntKind.i64 (Int.ofNat (r.length+1))) 5=f 5:=by simp -implicitDefEqProofs only[go_sem,reduceCtorEq]
 have f0:upd f 6 (Value.int IntKind.i64 (Int.ofNat (r.length+1))) 0=f 0:=by simp -implicitDefEqProofs only[go_sem,reduceCtorEq]
 have f2:upd f 6 (Value.int IntKind.i64 (Int.ofNat (r.length+1))) 2=f 2:=by simp -implicitDefEqProofs only[go_sem,reduceCtorEq]
 have f6:upd f 6 (Value.int IntKind.i64 (Int.ofNat (r.length+1))) 6=Value.int IntKind.i64 (Int.ofNat (r.length+1)):=by simp -implicitDefEqProofs only[go_sem,reduceCtorEq]
 generalize upd f 6 _=f1 at f4 f5 f0 f2 f6 ⊢
 simp -implicitDefEqProofs only[go_sem,Aw,IX,HU,f4,f5,f6,h4,h5,w1,lt1,hv,co,cp,ho,hp,hi,hcs,hle,htk]
 generalize hg:upd _ 62 _=g2
 clear hg
 have p0:upd f1 7 (Value.pointer (some ⟨σ.next,0,none⟩)) 0=f 0:=by simp -implicitDefEqProofs only[go_sem,reduceCtorEq,f0]
 have p2:upd f1 7 (Value.pointer (some ⟨σ.next,0,none⟩)) 2=f 2:=by simp -implicitDefEqProofs only[go_sem,reduceCtorEq,f2]
 have p4:upd f1 7 (Value.pointer (some ⟨σ.next,0,none⟩)) 4=f 4:=by simp -implicitDefEqProofs only[go_sem,reduceCtorEq,f4]
 have p5:upd f1 7 (Value.pointer (some ⟨σ.next,0,none⟩)) 5=f 5:=by simp -implicitDefEqProofs only[go_sem,reduceCtorEq,f5]
 have p6:upd f1 7 (Value.pointer (some ⟨σ.next,0,none⟩)) 6=Value.int IntKind.i64 (Int.ofNat (r.length+1)):=by simp -implicitDefEqProofs only[go_sem,reduceCtorEq,f6]
 have p7:upd f1 7 (Value.pointer (some ⟨σ.next,0,none⟩)) 7=Value.pointer (some ⟨σ.next,0,none⟩):=by simp -implicitDefEqProofs only[go_sem,reduceCtorEq]
 generalize upd f1 7 _=f2' at p0 p2 p4 p5 p6 p7 ⊢
 have x1:Ext σ ((σ.push (.cells [.int .i64 0,.int .i64 0,.string ⟨#[]⟩,.slice none 0 0] TD) none).put σ.next (.cells [.int .i64 k,.int .i64 z,.string t,.slice q d.parts.length c'] TD) none):=((Ext.refl _).push _ _).put _ _ _ (Nat.le_refl _)
 have hw1:=(h.wf.push (.cells [.int .i64 0,.int .i64 0,.string ⟨#[]⟩,.slice none 0 0] TD) none).put σ.next (.cells [.int .i64 k,.int .i64 z,.string t,.slice q d.parts.length c'] TD) none (Nat.lt_succ_self _)
 have b1:((σ.push (.cells [.int .i64 0,.int .i64 0,.string ⟨#[]⟩,.slice none 0 0] TD) none).put σ.next (.cells [.int .i64 k,.int .i64 z,.string t,.slice q d.parts.length c'] TD) none).cells σ.next=some [.int .i64 k,.int .i64 z,.string t,.slice q d.parts.length c']:=by rw[Ar,if_pos rfl];rfl
 have hcl:((σ.push (.cells [.int .i64 0,.int .i64 0,.string ⟨#[]⟩,.slice none 0 0] TD) none).put σ.next (.cells [.int .i64 k,.int .i64 z,.string t,.slice q d.parts.length c'] TD) none).clock=σ.clock+2:=rfl
 have hnx:((σ.push (.cells [.int .i64 0,.int .i64 0,.string ⟨#[]⟩,.slice none 0 0] TD) none).put σ.next (.cells [.int .i64 k,.int .i64 z,.string t,.slice q d.parts.length c'] TD) none).next=σ.next+1:=rfl
 generalize FState.put _ _ _ _=σ1 at x1 hw1 b1 hcl hnx ⊢
 have hv1:=BQ hw1 (Nat.le_of_eq hcl)
 have hlp:r.length+1≤(List.map (fun i=>Value.int IntKind.i64 (Int.ofNat i)) (wayOf r)++Value.int IntKind.i64 (Int.ofNat i)::mp).length:=by simp[BB]
 have sl3:=K5 Tryz.prog 25 TI 1 bp 0 (r.length+1) _ (r.length+1) (view σ1 (σ.clock+2)) FS Ik hlp
 have i1:I done B σ1:=hB.stays _ _ _ _ h.inv h.wf (x1.chg _)
 have hbpn:=h.pth.lt h.wf
 have hbon:=h.opn.lt h.wf
 have hP:PathAt σ1 (.slice (some ⟨bp,0,none⟩) (r.length+1) (r.length+1)) (wayOf r++[i]):=⟨some ⟨bp,0,none⟩,r.length+1,by simp[BB],.inr ⟨bp,mp,rfl,by rw[x1.cells hbpn,cp];simp⟩⟩
 have kR:∀b cs,R b→σ.cells b=some cs→σ1.cells b=some cs∧R b:=fun b cs hb hc=>⟨(x1.cells (h.wf.cells hc)).trans hc,hb⟩
 obtain⟨B',σ2,e2,hw2,ch2,hB',i2⟩:=hB.go done (wayOf r++[i]) d _ B σ1 _ _ hk hall hw1 i1 hP (hL.keep kR)
 have ownB:=hB.own _ _ _ h.inv
 have nB:∀b,σ.next≤b→¬ B b:=fun b hb hh=>by have:=(ownB b hh).1;omega
 have b2:σ2.cells σ.next=some [.int .i64 k,.int .i64 z,.string t,.slice q d.parts.length c']:=(ch2.cells (by omega) (nB _ (Nat.le_refl _))).trans b1
 have hbwn:=h.wf.cells h.cw
 have cw2:σ2.cells bw=some [g]:=(ch2.cells (by omega) h.hbw.2).trans ((x1.cells hbwn).trans h.cw)
 obtain⟨_,σ3,e3,x3,hw3,rfl⟩:=hB.inside _ B' σ2 k z t q d.parts.length c' i2 hw2
 simp -implicitDefEqProofs only[go_sem,G7,FJ,p0,p5,p6,p7,h.f0,h5,hv1,b1,sl3,Cj,Cs,e2]
 generalize hg:upd _ 70 _=g3
 clear hg
 have nB':∀b,b<σ1.next→¬ B b→¬ B' b:=fun b hb h1 h2=>by
  rcases hB' b h2 with h3|h3
  ·exact h1 h3
  ·omega
 have opn2:Stk TL σ2 bo (f 4) (.slice (some ⟨b,off,none⟩) ds.length c::us).reverse:=h.opn.keep ((ch2.get bo (by omega) h.hbo.2).trans (x1.get bo hbon))
 have opn3:Stk TL σ3 bo (f 4) (.slice (some ⟨b,off,none⟩) ds.length c::us).reverse:=opn2.keep (x3.get bo (opn2.lt hw2))
 have pth2:Stk TI σ2 bp (f 5) ((wayOf ((ds,i)::r)).map fun i=>.int .i64 (.ofNat i)):=h.pth.keep ((ch2.get bp (by omega) h.hbp.2).trans (x1.get bp hbpn))
 have pth3:Stk TI σ3 bp (f 5) ((wayOf ((ds,i)::r)).map fun i=>.int .i64 (.ofNat i)):=pth2.keep (x3.get bp (pth2.lt hw2))
 have x4:Ext σ3 (σ3.push (.cells [.slice q d.parts.length c'] TL) none):=(Ext.refl _).push _ _
 have hw4:=hw3.push (.cells [.slice q d.parts.length c'] TL) none
 have b4:(σ3.push (.cells [.slice q d.parts.length c'] TL) none).cells σ3.next=some [.slice q d.parts.length c']:=by rw[Ab,if_pos rfl];rfl
 rw[h4] at opn3
 obtain⟨bo',s5,σ5,e5,opn5,hbo',ch5,hw5⟩:=(opn3.keep (x4.get bo (opn3.lt hw3))).append hw4 (.slice q d.parts.length c') 24 σ3.next 1 b4 (B6 _ _ _) (by omega) (by simp[hl];omega)
 have b5:(σ5.push (.cells [.int .i64 0] TI) none).cells σ5.next=some [.int .i64 0]:=by rw[Ab,if_pos rfl];rfl
 have x6:Ext σ5 (σ5.push (.cells [.int .i64 0] TI) none):=(Ext.refl _).push _ _
 have hw6:=hw5.push (.cells [.int .i64 0] TI) none
 have hne45:bp≠bo:=fun h'=>h.ne h'.symm
 have pth4:=pth3.keep (x4.get bp (pth3.lt hw3))
 have pth5:Stk TI σ5 bp (f 5) ((wayOf ((ds,i)::r)).map fun i=>.int .i64 (.ofNat i)):=pth4.keep (ch5.get bp (pth4.lt hw4) hne45)
 obtain⟨bp',s7,σ7,e7,pth7,hbp',ch7,hw7⟩:=(pth5.keep (x6.get bp (pth5.lt hw5))).append hw6 (.int .i64 0) 8 σ5.next 1 b5 (Ea _ _) (by omega) (by simp[BB];omega)
 simp -implicitDefEqProofs only[go_sem,Xf,LH,p0,p2,p4,p7,h.f2,cw2,b2,e3,h4,DF,e5]
 generalize hg:upd _ 76 _=g4
 clear hg
 have t0:upd f2' 4 s5 0=f 0:=by simp -implicitDefEqProofs only[go_sem,reduceCtorEq,p0]
 have t2:upd f2' 4 s5 2=f 2:=by simp -implicitDefEqProofs only[go_sem,reduceCtorEq,p2]
 have t4:upd f2' 4 s5 4=s5:=by simp -implicitDefEqProofs only[go_sem,reduceCtorEq]
 have t5:upd f2' 4 s5 5=f 5:=by simp -implicitDefEqProofs only[go_sem,reduceCtorEq,p5]
 generalize upd f2' 4 s5=f3 at t0 t2 t4 t5 ⊢
 simp -implicitDefEqProofs only[go_sem,Xg,LI,t5,e7]
 have v0:upd f3 5 s7 0=f 0:=by simp -implicitDefEqProofs only[go_sem,reduceCtorEq,t0]
 have v2:upd f3 5 s7 2=f 2:=by simp -implicitDefEqProofs only[go_sem,reduceCtorEq,t2]
 have v4:upd f3 5 s7 4=s5:=by simp -implicitDefEqProofs only[go_sem,reduceCtorEq,t4]
 have v5:upd f3 5 s7 5=s7:=by simp -implicitDefEqProofs only[go_sem,reduceCtorEq]
 have hbo4:bo<(σ3.push (.cells [.slice q d.parts.length c'] TL) none).next:=(opn3.keep (x4.get bo (opn3.lt hw3))).lt hw4
 have n12:=x1.next
 have n23:=ch2.next
 have n34:=x3.next
 have n45:=x4.next
 have n56:=ch5.next
 have n67:=x6.next
 have n78:=ch7.next
 have hbase:=h.base
 have lowB':∀b,B' b→B b∨base≤b:=fun b hb=>by
  rcases hB' b hb with h3|h3
  ·exact .inl h3
  ·exact .inr (by omega)
 have ownB':=hB.own _ _ _ i2
 have hboB':¬ B' bo:=nB' bo (by omega) h.hbo.2
 have hbpB':¬ B' bp:=nB' bp (by omega) h.hbp.2
 have c27:∀b,b<σ2.next→b≠bo→b≠bp→σ7.heap.get b=σ2.heap.get b:=fun b hb h1 h2=>
  ((ch7.get b (by omega) h2).trans (x6.get b (by omega))).trans ((ch5.get b (by omega) h1).trans ((x4.get b (by omega)).trans (x3.get b hb)))
 have c17:∀b,b<σ.next→¬ B b→b≠bo→b≠bp→σ7.heap.get b=σ.heap.get b:=fun b hb h0 h1 h2=>
  (c27 b (by omega) h1 h2).trans ((ch2.get b (by omega) h0).trans (x1.get b hb))
 have nbo:base≤bo'∧¬ B' bo'∧bo'<σ5.next:=by
  rcases hbo' with rfl|rfl
  ·exact⟨h.hbo.1,hboB',by omega⟩
  ·exact⟨by omega,fun hb=>by have:=(ownB' _ hb).1;omega,opn5.lt hw5⟩
 have nbp:base≤bp'∧¬ B' bp'∧bo'≠bp':=by
  rcases hbp' with rfl|rfl
  ·refine⟨h.hbp.1,hbpB',?_⟩
   rcases hbo' with rfl|rfl
   ·exact h.ne
   ·omega
  ·have:=nbo.2.2
   rw[Aa] at n67 ⊢
   exact⟨by omega,fun hb=>by have:=(ownB' _ hb).1;omega,by omega⟩
 have hcw7:σ7.cells bw=some [g]:=by
  rw[Ap,c17 bw hbwn h.hbw.2 (by have:=h.hbw.1;have:=h.hbo.1;omega) (by have:=h.hbw.1;have:=h.hbp.1;omega),←Ap]
  exact h.cw
 have kR7:∀b cs,R b→σ.cells b=some cs→σ7.cells b=some cs:=fun b cs hb hc=>by
  have hlb:=h.low b hb
  rw[Ap,c17 b (by omega) (fun hB0=>(ownB b hB0).2 hb) (by have:=h.hbo.1;omega) (by have:=h.hbp.1;omega),←Ap]
  exact hc
 refine⟨_,_,σ7,B',bo',bp',.slice q d.parts.length c',rfl,⟨by omega,by have:=x1.clock;have:=ch2.clock;have:=x3.clock;have:=x4.clock;have:=ch5.clock;have:=x6.clock;have:=ch7.clock;omega,fun b hb hF=>?_⟩,lowB',?_⟩
 ·exact c17 b hb (fun h'=>hF (.inl h')) (fun h'=>hF (.inr (by have:=h.hbo.1;omega))) (fun h'=>hF (.inr (by have:=h.hbp.1;omega)))
 ·obtain⟨hu,hi0,hds,hlev⟩:=h.lev
  exact {
      f0:=v0.trans h.f0,f2:=v2.trans h.f2,cw:=hcw7,hbw:=⟨h.hbw.1,nB' bw (by omega) h.hbw.2⟩,
      opn:=by
       rw[v4,List.reverse_cons]
       exact opn5.keep ((ch7.get bo' (by omega) (fun h'=>by
        rcases hbp' with h''|h''
        ·exact nbp.2.2 (h'.trans h''.symm)
        ·have:=nbo.2.2;rw[Aa] at n67;exact absurd h' (by
          intro h3
          rcases hbo' with rfl|rfl
          ·exact h.ne h3
          ·have:=pth4.lt hw4;omega))).trans (x6.get bo' nbo.2.2)),
      hbo:=⟨nbo.1,nbo.2.1⟩,
      lev:=⟨⟨q,c',rfl,hq.keep fun b cs hb hc=>⟨kR7 b cs hb hc,hb⟩⟩,by omega,hps,⟨(hu.elim fun p' h'=>h'.elim fun c'' h''=>⟨p',c'',h''.1,h''.2.keep fun b cs hb hc=>⟨kR7 b cs hb hc,hb⟩⟩),by omega,hds,hlev.keep kR7⟩⟩,
      low:=h.low,
      pth:=by rw[v5,Dp,List.map_append];exact pth7,
      hbp:=⟨nbp.1,nbp.2.1⟩,ne:=nbp.2.2,
      inv:=hB.stays _ _ _ _ i2 hw2 ⟨by omega,by have:=x3.clock;have:=x4.clock;have:=ch5.clock;have:=x6.clock;have:=ch7.clock;omega,fun b hb hn=>c27 b hb (fun h'=>hn ⟨fun hb'=>hboB' (h' ▸ hb'),fun hr=>by have:=h.low b hr;have:=nbo.1;have:=h.hbo.1;omega⟩) (fun h'=>hn ⟨fun hb'=>hbpB' (h' ▸ hb'),fun hr=>by have:=h.low b hr;have:=nbp.1;have:=h.hbp.1;omega⟩)⟩,
      all:=by rw[hall,List.append_assoc,List.singleton_append],wf:=hw7,base:=by omega }
end
end Go.Proofs.YtokieofohmgjdaaGreatDoor
namespace Go.Proofs.YtokieofohmgjdaaGreatDoor
open Go Go.Eng
attribute [local congr] Ac Aj Ai Ad Ah
attribute [-go_sem] List.range_succ
section
variable {n l bw base:Nat} {R:Nat→Prop} {g:Value} {I:List (List Nat×D)→(Nat→Prop)→FState→Prop} {all:List (List Nat×D)}
theorem Af8:keepOf nls 149=[]:=by kernel_rfl
def Small(all:List (List Nat×D)):Prop:=∀x∈all,x.1.length<80000∧x.2.parts.length<1000000000
theorem AeS(hB:Body (env n) l R g I all)(hS:Small all):∀(m fuel:Nat) (st:List (List D×Nat)) (us:List Value) (done:List (List Nat×D)) (B:Nat→Prop) (bo bp:Nat) (f gg:Nat→Value) (σ:FState),
  2*(todo st).length+st.length≤m→m<fuel→st.length≤80000→WHead l R g I all bw bo bp base B us st done f σ→
  ∃f' g' σ' B',floop [] (Dg (env n) none 149) fuel (Sl 8 80 f gg []) none σ=.done (.exit 0) (Sl 8 80 f' g' []) none σ'∧Chg (fun b=>B b∨base≤b) σ σ'∧(∀b,B' b→B b∨base≤b)∧Wf σ'∧I all B' σ':=by
 intro m
 induction m with
 | zero=>
  intro fuel st us done B bo bp f gg σ hm hf hst h
  obtain⟨fuel,rfl⟩:∃q,fuel=q+1:=⟨fuel-1,by omega⟩
  obtain rfl:st=[]:=by cases st with|nil=>rfl|cons _ _=>simp at hm
  obtain rfl:us=[]:=List.length_eq_zero_iff.1 h.lev.length
  obtain⟨mo,h4,_⟩:=h.opn.cells
  have hall:=h.all
  have d0:decide (Int.ofNat 0>0)=false:=by decide
  rw[show todo ([]:List (List D×Nat))=[] from rfl,List.append_nil] at hall
  simp only[List.reverse_nil,List.length_nil] at h4
  rw[Am]
  unfold Dg
  simp -implicitDefEqProofs only[go_sem,EB,E6,h4,d0]
  exact⟨_,_,_,B,rfl,Chg.refl _ _,fun _ hb=>.inl hb,h.wf,hall ▸ h.inv⟩
 | succ m ih=>
  intro fuel st us done B bo bp f gg σ hm hf hst h
  obtain⟨fuel,rfl⟩:∃q,fuel=q+1:=⟨fuel-1,by omega⟩
  cases st with
  | nil=>exact ih (fuel+1) [] us done B bo bp f gg σ (by simp[todo]) (by omega) hst h
  | cons x r=>
   obtain⟨ds,i⟩:=x
   cases us with
   | nil=>exact absurd h.lev (fun h=>h)
   | cons u us=>
    have hi:i≤ds.length:=h.lev.2.1
    have hr:r.length+1≤80000:=hst
    rw[Am,Bk]
    by_cases he:i=ds.length
    ·subst he
     obtain⟨f',g',σ',e,hC,hH⟩:=MU hB.to h (by omega) (kept [] gg)
     rw[e,BC]
     rw[Im,EP] at hm
     have hlb:(bump r).length=r.length:=by cases r<;>rfl
     obtain⟨f2,g2,σ2,B2,e2,hC2,hB2,hw2,hI2⟩:=ih fuel _ _ _ _ _ _ f' g' σ' (by simp at hm;omega) (by omega) (by omega) hH
     exact⟨f2,g2,σ2,B2,e2,(hC.weaken fun b _ hb=>.inr hb.1).trans hC2 (fun b _ hb=>hb),hB2,hw2,hI2⟩
    ·have hlt:i<ds.length:=by omega
     have hd:ds[i]? = some ds[i]:=List.getElem?_eq_getElem hlt
     have hall:=h.all
     rw[CN r hd] at hall
     have hx:=hS (wayOf r++[i],ds[i]) (by rw[hall];simp)
     obtain⟨f',g',σ',B',bo',bp',u',e,hC,hBB,hH⟩:=MT hB.to (by rw[hall];simp) h hd (by omega) hx.2 (kept [] gg)
     rw[e,BC]
     rw[CN r hd] at hm
     have hl:(wayOf r++[i]).length=r.length+1:=by simp[BB]
     have hx1:=hx.1
     simp only[hl] at hx1
     obtain⟨f2,g2,σ2,B2,e2,hC2,hB2,hw2,hI2⟩:=ih fuel _ _ _ _ _ _ f' g' σ' (by simp at hm ⊢;omega) (by omega) (by simp;omega) hH
     refine⟨f2,g2,σ2,B2,e2,hC.trans hC2 fun b _ hb=>?_,fun b hb=>?_,hw2,hI2⟩
     ·rcases hb with hb|hb
      ·exact hBB b hb
      ·exact .inr hb
     ·rcases hB2 b hb with hb|hb
      ·exact hBB b hb
      ·exact .inr hb
theorem Awb(d:D)(hB:Body (env n) l R g I (d.pieces []))(hS:Small (d.pieces []))(hN:(d.pieces []).length<100000000000)(b1 b2:Nat)(σ:FState)(v:Value)(lv:List Value)(B:Nat→Prop)(hw:Wf σ)(hi:I [] B σ)(hcv:σ.cells b1=some lv)(hv:v=.agg lv.toArray)(hb1:¬ B b1)(hL:LaidR R σ v d)(hR:∀b,R b→b<σ.next)(hcw:σ.cells b2=some [g])(hb2:¬ B b2):
  ∃σ' B',(env (n+1)).call 149 [.func (.yield l) #[] #[],.pointer (some ⟨b1,0,none⟩),.pointer (some ⟨b2,0,none⟩)] none σ=.ret (.tuple #[]) none σ'∧Chg B σ σ'∧(∀b,B' b→B b∨σ.next≤b)∧Wf σ'∧I (d.pieces []) B' σ':=by
 subst hv
 obtain⟨k,z,t,q,c',hag,hq⟩:=LaidR.shape hL
 have hlv:lv=[.int .i64 k,.int .i64 z,.string t,.slice q d.parts.length c']:=by
  have:=congrArg (fun v=>match v with|.agg a=>a.toList|_=>[]) hag
  simpa using this
 subst hlv
 have hpc:=D.pieces_eq [] d
 obtain⟨B',σ1,e1,hw1,ch1,hB1,i1⟩:=hB.go [] [] d _ B σ (.slice none 0 0) _ (by rw[hpc];rfl) hw hi ⟨none,0,rfl,.inl ⟨rfl,rfl,rfl⟩⟩ hL
 have ownB:=hB.own _ _ _ hi
 have ownB1:=hB.own _ _ _ i1
 have hb1n:=hw.cells hcv
 have hb2n:=hw.cells hcw
 have n1:=ch1.next
 have cv1:σ1.cells b1=some [.int .i64 k,.int .i64 z,.string t,.slice q d.parts.length c']:=(ch1.cells hb1n hb1).trans hcv
 have cw1:σ1.cells b2=some [g]:=(ch1.cells hb2n hb2).trans hcw
 obtain⟨_,σ2,e2,x2,hw2,rfl⟩:=hB.inside _ B' σ1 k z t q d.parts.length c' i1 hw1
 have n2:=x2.next
 have x3:Ext σ2 ((σ2.push (.cells [.slice q d.parts.length c'] TL) none).push (.cells [.int .i64 0] TI) none):=((Ext.refl _).push _ _).push _ _
 have hw3:=(hw2.push (.cells [.slice q d.parts.length c'] TL) none).push (.cells [.int .i64 0] TI) none
 have hlow:∀b,B' b→B b∨σ.next≤b:=hB1
 have nB:∀b,b<σ.next→¬ B b→¬ B' b:=fun b hb h1 h2=>by
  rcases hB1 b h2 with h3|h3
  ·exact h1 h3
  ·omega
 have c03:∀b,b<σ.next→¬ B b→((σ2.push (.cells [.slice q d.parts.length c'] TL) none).push (.cells [.int .i64 0] TI) none).heap.get b=σ.heap.get b:=fun b hb h0=>
  (x3.get b (by omega)).trans ((x2.get b (by omega)).trans (ch1.get b hb h0))
 have kR:∀b cs,R b→σ.cells b=some cs→((σ2.push (.cells [.slice q d.parts.length c'] TL) none).push (.cells [.int .i64 0] TI) none).cells b=some cs:=fun b cs hb hc=>by
  rw[Ap,c03 b (hR b hb) (fun hB0=>(ownB b hB0).2 hb),←Ap]
  exact hc
 rw[Ag _ 149 _ _ rfl,Fs _ _ _ _ (by simp),Af]
 unfold Hd
 have tk:List.take 4 [Value.int .i64 k,.int .i64 z,.string t,.slice q d.parts.length c']=[.int .i64 k,.int .i64 z,.string t,.slice q d.parts.length c']:=rfl
 simp -implicitDefEqProofs only[go_sem,EA,E5,IV,HS,IW,HT,hcv,Cj,Cs,e1,cw1,cv1,e2,Af8,DF]
 generalize hff:upd _ 5 _=f1
 generalize hgg:upd _ 16 _=g1
 generalize hbf:bigFuel=fuel
 have hH:WHead l R g I (d.pieces []) b2 σ2.next (σ2.next+1) σ.next B' [.slice q d.parts.length c'] [(d.parts,0)] ([]++[([],d)]) f1 ((σ2.push (.cells [.slice q d.parts.length c'] TL) none).push (.cells [.int .i64 0] TI) none):={
  f0:=by rw[←hff];simp -implicitDefEqProofs only[go_sem,reduceCtorEq]
  f2:=by rw[←hff];simp -implicitDefEqProofs only[go_sem,reduceCtorEq]
  cw:=by rw[Ap,c03 b2 hb2n hb2,←Ap];exact hcw
  hbw:=⟨hb2n,nB b2 hb2n hb2⟩
  opn:=⟨_,none,σ2.clock,by rw[←hff];simp -implicitDefEqProofs only[go_sem,reduceCtorEq]<;>rfl,by rw[Ak,if_neg (by rw[Aa];omega),Ak,if_pos rfl];rfl,.inl rfl,[],rfl⟩
  hbo:=⟨by omega,fun h=>by have:=(ownB1 _ h).1;omega⟩
  lev:=⟨⟨q,c',rfl,hq.keep fun b cs hb hc=>⟨kR b cs hb hc,hb⟩⟩,Nat.zero_le _,(hS ([],d) (by rw[hpc];exact List.mem_cons_self)).2,trivial⟩
  low:=hR
  pth:=⟨_,none,σ2.clock+1,by rw[←hff];simp -implicitDefEqProofs only[go_sem,reduceCtorEq]<;>rfl,by rw[Ak,if_pos (by rw[Aa])];rfl,.inl rfl,[],rfl⟩
  hbp:=⟨by omega,fun h=>by have:=(ownB1 _ h).1;omega⟩
  ne:=by omega
  inv:=hB.stays _ _ _ _ i1 hw1 (by
   have:=x2.clock
   have:=x3.clock
   have:=x3.next
   exact⟨by omega,by omega,fun b hb _=>(x3.get b (by omega)).trans (x2.get b hb)⟩)
  all:=by rw[hpc];show _=[]++[([],d)]++(D.piecesL [] 0 (d.parts.drop 0)++[]);simp
  wf:=hw3
  base:=by rw[Aa,Aa];omega }
 obtain⟨f2,g2,σ4,B4,e4,ch4,hB4,hw4,i4⟩:=AeS hB hS _ fuel _ _ _ _ _ _ f1 g1 _ (Nat.le_refl _) (by
  rw[←hbf]
  show _<1000000000000
  have h1:(todo [(d.parts,0)]).length=(D.piecesL [] 0 d.parts).length:=by simp[todo,below,wayOf]
  have h2:=congrArg List.length hpc
  rw[List.length_cons] at h2
  rw[h1,List.length_singleton]
  omega) (by simp) hH
 rw[e4]
 simp -implicitDefEqProofs only[go_sem]
 refine⟨_,B4,rfl,⟨?_,?_,?_⟩,?_,hw4,i4⟩
 ·have:=x3.next;have:=ch4.next;omega
 ·have:=ch1.clock;have:=x2.clock;have:=x3.clock;have:=ch4.clock;omega
 ·intro b hb h0
  have:=x3.next
  rw[ch4.get b (by omega) (fun h=>by
   rcases h with h|h
   ·exact nB b hb h0 h
   ·omega)]
  exact c03 b hb h0
 ·intro b hb
  rcases hB4 b hb with h|h
  ·exact hB1 b h
  ·exact .inr h
end
end Go.Proofs.YtokieofohmgjdaaGreatDoor
namespace Go.Proofs.YtokieofohmgjdaaGreatDoor
open Go Go.Eng
attribute [local congr] Ac Aj Ai Ad Ah
attribute [-go_sem] List.range_succ
theorem M8(n:Nat)(g:Value)(lv:List Value)(σ:FState)(hw:Wf σ)(hg:notTuple g=true):
  ∃σ',(env (n+1)).call 121 [.agg #[g],.agg lv.toArray] none σ=.ret (.func (.func 149) #[] #[.pointer (some ⟨σ.next+1,0,none⟩),.pointer (some ⟨σ.next,0,none⟩)]) none σ'∧Ext σ σ'∧Wf σ'∧σ'.next=σ.next+2∧σ'.cells σ.next=some [g]∧σ'.cells (σ.next+1)=some lv:=by
 rw[Ag _ 121 _ _ rfl,Afo _ _ _ _ (by simp),Af]
 unfold Zm
 simp -implicitDefEqProofs only[go_sem,AcZ,Qq,Ac0,Qr]
 exact⟨_,rfl,((Ext.refl _).push _ _).push _ _,(hw.push _ _).push _ _,rfl,by rw[Ab,if_neg (by rw[Aa];omega),Ab,if_pos rfl];rfl,by rw[Ab,if_pos (by rw[Aa])];rfl⟩
theorem Ta(n:Nat)(s:Value)(σ:FState):(env (n+1)).call 153 [s] none σ=.ret (.bool true) none σ:=by
 rw[Ag _ 153 _ _ rfl,Afy _ _ _ _ (by simp),Af]
 unfold Zw
 simp -implicitDefEqProofs only[go_sem,Adr,QS,Ads,QT]
theorem VZ(n:Nat)(lv:List Value)(h4:lv.length=4)(σ:FState)(hw:Wf σ):
  ∃σ' b1 b2,(env (n+2)).call 123 [.agg lv.toArray] none σ=.ret (.func (.func 149) #[] #[.pointer (some ⟨b1,0,none⟩),.pointer (some ⟨b2,0,none⟩)]) none σ'∧Ext σ σ'∧Wf σ'∧σ.next≤b1∧σ.next≤b2∧σ'.cells b2=some [.func (.func 153) #[] #[]]∧σ'.cells b1=some lv:=by
 have hw1:=hw.push (.cells lv TD) none
 obtain⟨σ2,e2,x2,hw2,_,c1,c2⟩:=M8 n (.func (.func 153) #[] #[]) lv (σ.push (.cells lv TD) none) hw1 (Cm _ _ _)
 rw[Ag _ 123 _ _ rfl,Afp _ _ _ _ (by simp),Af]
 unfold Zn
 have ht:lv.take 4=lv:=List.take_of_length_le (by omega)
 simp -implicitDefEqProofs only[go_sem,Ac1,Qs,Ac2,Qt,Cm,Dw,h4,ht,e2,Nat.le_refl]
 exact⟨_,_,_,rfl,((Ext.refl _).push _ _).trans x2,hw2,by omega,by omega,c1,c2⟩
theorem Hb(m:Nat)(fn:FuncId)(params:List Tmp)(assign body:Code)(nl nt:Nat)(f g:Nat→Value)(ds:List Deferred)(u:Option FrameMode)(t b1 b2:Nat)(σ:FState)(w:Value)(R:Nat→Prop)(d:D)(lv:List Value)(I:List (List Nat×D)→(Nat→Prop)→FState→Prop)(B:Nat→Prop)(hB:Body (env m) (σ.next+1) R w I (d.pieces []))(hS:Small (d.pieces []))(hN:(d.pieces []).length<100000000000)(hl:∀done B σ',I done B σ'→LoopAt fn params assign body nl nt f g (σ.next+1) σ.next .ready σ'∧∃ver,σ'.heap.get σ.next=some ⟨.defd true,false,none,ver⟩)(hi:I [] B ((σ.push (.defd true) none).push (.loop .ready none fn ((List.range nl).map f) g nl nt params assign body σ.next) none))(ht:(Sl nl nt f g ds).get t=.func (.func 149) #[] #[.pointer (some ⟨b1,0,none⟩),.pointer (some ⟨b2,0,none⟩)])(hw:Wf σ)(hcv:σ.cells b1=some lv)(hb1:¬ B b1)(hL:LaidR R σ (.agg lv.toArray) d)(hR:∀b,R b→b<σ.next)(hcw:σ.cells b2=some [w])(hb2:¬ B b2):
  ∃σ' B',frange (env (m+1)) none fn (.tmp t) params assign body (Sl nl nt f g ds) u σ=
    .done .normal (Sl nl nt f g ({ target:=.collected σ.next,args:=#[] }::ds)) u (σ'.put (σ.next+1) (.loop .exhausted none fn ((List.range nl).map f) g nl nt params assign body σ.next) none)∧
   Chg B σ σ'∧σ.next+2≤σ'.next∧(∀b,B' b→B b∨σ.next≤b)∧Wf σ'∧I (d.pieces []) B' σ':=by
 rw[IH _ _ _ _ _ _ _ _ _ _ _ _ t _ _ _ ht]
 have x1:Ext σ ((σ.push (.defd true) none).push (.loop .ready none fn ((List.range nl).map f) g nl nt params assign body σ.next) none):=((Ext.refl _).push _ _).push _ _
 have hw1:=(hw.push (.defd true) none).push (.loop .ready none fn ((List.range nl).map f) g nl nt params assign body σ.next) none
 have hn1:((σ.push (.defd true) none).push (.loop .ready none fn ((List.range nl).map f) g nl nt params assign body σ.next) none).next=σ.next+2:=rfl
 generalize FState.push _ (.loop .ready none fn ((List.range nl).map f) g nl nt params assign body σ.next) none=σ1 at hi x1 hw1 hn1 ⊢
 have hb1n:=hw.cells hcv
 have hb2n:=hw.cells hcw
 obtain⟨σ2,B2,e2,ch2,hB2,hw2,i2⟩:=Awb d hB hS hN b1 b2 σ1 _ lv B hw1 hi ((x1.cells hb1n).trans hcv) rfl hb1 (hL.keep fun b cs hb hc=>⟨(x1.cells (hw.cells hc)).trans hc,hb⟩) (fun b hb=>by have:=hR b hb;omega) ((x1.cells hb2n).trans hcw) hb2
 have hargs:(#[]:Array Value).toList++[Value.func (.yield (σ.next+1)) #[] #[]]++(#[.pointer (some ⟨b1,0,none⟩),.pointer (some ⟨b2,0,none⟩)]:Array Value).toList=[.func (.yield (σ.next+1)) #[] #[],.pointer (some ⟨b1,0,none⟩),.pointer (some ⟨b2,0,none⟩)]:=rfl
 rw[hargs,e2,PN _ _ _ _ _ _ _ _ _ _ _ _ _ _ _ _ (hl _ _ _ i2).1]
 have n2:=ch2.next
 refine⟨σ2,B2,rfl,⟨by omega,Nat.le_trans x1.clock ch2.clock,fun b hb h0=>(ch2.get b (by omega) h0).trans (x1.get b hb)⟩,by omega,fun b hb=>?_,hw2,i2⟩
 rcases hB2 b hb with h|h
 ·exact .inl h
 ·exact .inr (by omega)
def longest(l:List (List Nat×D)):Nat:=l.foldl (fun m x=>max m (x.1.length+1)) 0
def DeepI(l r cm:Nat)(f g:Nat→Value)(done:List (List Nat×D))(B:Nat→Prop)(σ:FState):Prop:=
 (∀b,B b↔b=l∨b=r∨b=cm)∧l<σ.next∧r<σ.next∧cm<σ.next∧LoopAt 72 [7,8] Aup Auq 5 15 f g l r .ready σ∧(∃ver,σ.heap.get r=some ⟨.defd true,false,none,ver⟩)∧
  ∃ver,σ.heap.get cm=some ⟨.cells [.int .i64 (.ofNat (longest done))] TI,false,none,ver⟩
end Go.Proofs.YtokieofohmgjdaaGreatDoor
namespace Go.Proofs.YtokieofohmgjdaaGreatDoor
open Go Go.Eng
attribute [local congr] Ac Aj Ai Ad Ah
attribute [-go_sem] List.range_succ
def AllGood(m:Nat)(all:List (List Nat×D)):Prop:=∀path k z t ds,(path,D.mk k z t ds)∈all→∃k':Nat,k=(k':Int)∧Good m k' z t ds.length
def ValidI(l r cb mp:Nat)(f g:Nat→Value)(done:List (List Nat×D))(B:Nat→Prop)(σ:FState):Prop:=
 (∀b,B b↔b=l∨b=r∨b=cb)∧l<σ.next∧r<σ.next∧cb<σ.next∧LoopAt 71 [12,13] B1 B5 6 25 f g l r .ready σ∧(∃ver,σ.heap.get r=some ⟨.defd true,false,none,ver⟩)∧
  (∃ver,σ.heap.get cb=some ⟨.cells [.int .i64 (.ofNat done.length),.map (some mp)] 136,false,none,ver⟩)∧done.length≤2000
theorem ZV(m l r cb mp:Nat)(R:Nat→Prop)(f g:Nat→Value)(all:List (List Nat×D))(hne:cb<r∧r<l)(h3:f 3=.pointer (some ⟨cb,0,none⟩))(hR:∀b,R b→b<cb)(hG:AllGood m all)(hN:all.length≤2000):
  Body (env (m+3)) l R (.func (.func 120) #[.pointer (some ⟨cb,0,none⟩)] #[]) (ValidI l r cb mp f g) all where
 stays:=fun done B σ σ' ⟨h1,h2,h3,h4,h5,⟨v6,h6⟩,⟨v7,h7⟩,h8⟩ hw hC=>by
  have k:∀b,B b→b<σ.next→σ'.heap.get b=σ.heap.get b:=fun b hb hn=>hC.get b hn fun h=>h.1 hb
  have hn:=hC.next
  exact⟨h1,by omega,by omega,by omega,h5.keep (k l ((h1 l).2 (.inl rfl)) h2),⟨v6,(k r ((h1 r).2 (.inr (.inl rfl))) h3).trans h6⟩,⟨v7,(k cb ((h1 cb).2 (.inr (.inr rfl))) h4).trans h7⟩,h8⟩
 own:=fun done B σ ⟨h1,h2,h3,h4,_⟩ b hb=>by
  rcases (h1 b).1 hb with rfl|rfl|rfl
  ·exact⟨h2,fun h=>by have:=hR _ h;omega⟩
  ·exact⟨h3,fun h=>by have:=hR _ h;omega⟩
  ·exact⟨h4,fun h=>by have:=hR _ h;omega⟩
 inside:=fun done B σ k z t p ln c ⟨h1,h2,h3,h4,h5,h6,⟨v7,h7⟩,h8⟩ hw=>by
  refine FY (m+2) _ 120 #[.pointer (some ⟨cb,0,none⟩)] rfl k z t (.slice p ln c) (B6 _ _ _) σ hw fun σ' hx hw'=>?_
  have hc:=Au ((hx.get cb h4).trans h7)
  exact⟨_,σ',TQ (m+1) cb (Int.ofNat done.length) (by rw[Int.ofNat_eq_natCast];omega) p ln c σ' _ hc,Ext.refl _,hw',rfl⟩
 go:=fun done path d rest B σ pv v hall hw ⟨h1,h2,h4,h5,h6,⟨v6,h7⟩,⟨v7,h8⟩,h9⟩ _ hL=>by
  have hlen:done.length+1≤2000:=by have:=congrArg List.length hall;simp at this;omega
  obtain⟨k,z,t,ps⟩:=d
  obtain⟨k',rfl,hGd⟩:=hG path k z t ps (by rw[hall];simp)
  obtain⟨p,c,rfl,hq⟩:=hL
  rw[FP _ _ _ _ _ _ _ _ _ (m+2) l r _ h6 rfl,Iv]
  simp -implicitDefEqProofs only[go_sem,Aw,Mk,Mj,List.zip_cons_cons,List.zip_nil_right,Dz,D2]
  have x1:Ext σ ((σ.push (.cells [.int .i64 0,.int .i64 0,.string ⟨#[]⟩,.slice none 0 0] TD) none).put σ.next (.cells [.int .i64 (k':Int),.int .i64 z,.string t,.slice p ps.length c] TD) none):=((Ext.refl _).push _ _).put _ _ _ (Nat.le_refl _)
  have hw1:=(hw.push (.cells [.int .i64 0,.int .i64 0,.string ⟨#[]⟩,.slice none 0 0] TD) none).put σ.next (.cells [.int .i64 (k':Int),.int .i64 z,.string t,.slice p ps.length c] TD) none (Nat.lt_succ_self _)
  have b1:((σ.push (.cells [.int .i64 0,.int .i64 0,.string ⟨#[]⟩,.slice none 0 0] TD) none).put σ.next (.cells [.int .i64 (k':Int),.int .i64 z,.string t,.slice p ps.length c] TD) none).cells σ.next=some [.int .i64 (k':Int),.int .i64 z,.string t,.slice p ps.length c]:=by rw[Ar,if_pos rfl];rfl
  have n1:((σ.push (.cells [.int .i64 0,.int .i64 0,.string ⟨#[]⟩,.slice none 0 0] TD) none).put σ.next (.cells [.int .i64 (k':Int),.int .i64 z,.string t,.slice p ps.length c] TD) none).next=σ.next+1:=rfl
  generalize FState.put _ _ _ _=σ1 at x1 hw1 b1 n1 ⊢
  have l1:=h6.keep (x1.get l h2)
  rw[CP _ _ _ _ _ _ _ _ _ l r _ l1,Iw]
  have hw2:=hw1.put l (.loop .busy none 71 ((List.range 6).map f) g 6 25 [12,13] B1 B5 r) none (by omega)
  have l2:LoopAt 71 [12,13] B1 B5 6 25 f g l r .busy (σ1.put l (.loop .busy none 71 ((List.range 6).map f) g 6 25 [12,13] B1 B5 r) none):=LoopAt.put _ _ _ _ _ _ _ _ _ _ _ _
  have b2:(σ1.put l (.loop .busy none 71 ((List.range 6).map f) g 6 25 [12,13] B1 B5 r) none).cells σ.next=some [.int .i64 (k':Int),.int .i64 z,.string t,.slice p ps.length c]:=by rw[Ar,if_neg (by omega)];exact b1
  have g2:(σ1.put l (.loop .busy none 71 ((List.range 6).map f) g 6 25 [12,13] B1 B5 r) none).heap.get cb=some ⟨.cells [.int .i64 (.ofNat done.length),.map (some mp)] 136,false,none,v7⟩:=by rw[An,if_neg (by omega)];exact(x1.get cb h5).trans h8
  have r2:(σ1.put l (.loop .busy none 71 ((List.range 6).map f) g 6 25 [12,13] B1 B5 r) none).heap.get r=some ⟨.defd true,false,none,v6⟩:=by rw[An,if_neg (by omega)];exact(x1.get r h4).trans h7
  have hC2:Chg B σ (σ1.put l (.loop .busy none 71 ((List.range 6).map f) g 6 25 [12,13] B1 B5 r) none):=(x1.chg B).put _ _ _ (.inr ((h1 l).2 (.inl rfl)))
  have n2:(σ1.put l (.loop .busy none 71 ((List.range 6).map f) g 6 25 [12,13] B1 B5 r) none).next=σ.next+1:=n1
  generalize FState.put _ l _ _=σ2 at hw2 l2 b2 g2 r2 hC2 n2 ⊢
  obtain⟨_,σ3,e3,x3,hw3,rfl⟩:=Ld m k' z t p ps.length c hGd σ2 hw2
  have n3:=x3.next
  have g3:σ3.heap.get cb=some ⟨.cells [.int .i64 (.ofNat done.length),.map (some mp)] 136,false,none,v7⟩:=(x3.get cb (by omega)).trans g2
  have c3:=Au g3
  have w1:=D4 done.length (by omega)
  simp -implicitDefEqProofs only[go_sem,Mm,Ml,Ve,R_,h3,b2,e3,c3,g3,w1,Nat.le_refl]
  have l3:=(l2.keep (x3.get l (by omega)))
  have l4:∀o:FObj,LoopAt 71 [12,13] B1 B5 6 25 f g l r .busy (σ3.put cb o none):=fun o=>l3.keep (by rw[An,if_neg (by omega)])
  rw[D6 _ _ _ _ _ _ _ _ _ _ l r _ _ (l4 _)]
  refine⟨B,_,rfl,(hw3.put _ _ _ (by omega)).put _ _ _ (by rw[Ao];omega),((hC2.trans (x3.chg B) (fun b _ h=>h)).put _ _ _ (.inr ((h1 cb).2 (.inr (.inr rfl))))).put _ _ _ (.inr ((h1 l).2 (.inl rfl))),fun b hb=>.inl hb,h1,?_,?_,?_,LoopAt.put _ _ _ _ _ _ _ _ _ _ _ _,⟨v6,?_⟩,⟨σ3.clock,?_⟩,by simp;omega⟩
  ·rw[Ao,Ao];omega
  ·rw[Ao,Ao];omega
  ·rw[Ao,Ao];omega
  ·rw[An,if_neg (by omega),An,if_neg (by omega),x3.get r (by omega)];exact r2
  ·rw[An,if_neg (by omega),An,if_pos rfl,List.length_append,List.length_singleton]
theorem VV(m:Nat)(d:D)(lv:List Value)(h4:lv.length=4)(R:Nat→Prop)(σ:FState)(hw:Wf σ)(hL:LaidR R σ (.agg lv.toArray) d)(hR:∀b,R b→b<σ.next)(hS:Small (d.pieces []))(hN:(d.pieces []).length≤2000)(hG:AllGood m (d.pieces [])):
  Gives ((env (m+5)).call 71 [.agg lv.toArray] none σ) σ fun w _=>w=.int .i64 (.ofNat (d.pieces []).length):=by
 rw[Ag _ 71 _ _ rfl,Z8 _ _ _ _ (by simp),Af]
 unfold Abc
 have ht:lv.take 4=lv:=List.take_of_length_le (by omega)
 simp -implicitDefEqProofs only[go_sem,Aw,Vb,R7,Vc,R8,HE,Ip,JC]
 generalize hff:upd _ 3 _=f1
 generalize hg0:upd _ 7 _=g0
 have q1:f1 1=.pointer (some ⟨σ.next,0,none⟩):=by rw[←hff];simp -implicitDefEqProofs only[go_sem,reduceCtorEq]
 have q3:f1 3=.pointer (some ⟨σ.next+2,0,none⟩):=by rw[←hff];simp -implicitDefEqProofs only[go_sem,reduceCtorEq]
 clear hff hg0
 have x1:Ext σ ((((σ.push (.cells lv TD) none).push (.map [] 0) none).push (.cells [.int .i64 0,.map none] 136) none).put (σ.next+2) (.cells [.int .i64 0,.map (some (σ.next+1))] 136) none):=((((Ext.refl _).push _ _).push _ _).push _ _).put _ _ _ (by omega)
 have hw1:=(((hw.push (.cells lv TD) none).push (.map [] 0) none).push (.cells [.int .i64 0,.map none] 136) none).put (σ.next+2) (.cells [.int .i64 0,.map (some (σ.next+1))] 136) none (Nat.lt_succ_self _)
 have g1:((((σ.push (.cells lv TD) none).push (.map [] 0) none).push (.cells [.int .i64 0,.map none] 136) none).put (σ.next+2) (.cells [.int .i64 0,.map (some (σ.next+1))] 136) none).heap.get (σ.next+2)=some ⟨.cells [.int .i64 0,.map (some (σ.next+1))] 136,false,none,σ.clock+3⟩:=by rw[An,if_pos rfl];rfl
 have c1:((((σ.push (.cells lv TD) none).push (.map [] 0) none).push (.cells [.int .i64 0,.map none] 136) none).put (σ.next+2) (.cells [.int .i64 0,.map (some (σ.next+1))] 136) none).cells σ.next=some lv:=by
  rw[Ar,if_neg (by omega),Ab,if_neg (by simp only[Aa];omega),Ab,if_neg (by simp only[Aa];omega),Ab,if_pos rfl];rfl
 have n1:((((σ.push (.cells lv TD) none).push (.map [] 0) none).push (.cells [.int .i64 0,.map none] 136) none).put (σ.next+2) (.cells [.int .i64 0,.map (some (σ.next+1))] 136) none).next=σ.next+3:=rfl
 generalize FState.put _ _ _ _=σ1 at x1 hw1 g1 c1 n1 ⊢
 obtain⟨σ2,e2,x2,hw2,n2,cb2,cb1⟩:=M8 (m+3) (.func (.func 120) #[.pointer (some ⟨σ.next+2,0,none⟩)] #[]) lv σ1 hw1 (Cm _ _ _)
 simp -implicitDefEqProofs only[go_sem,Vd,R9,q1,q3,c1,h4,ht,e2,Nat.le_refl,Cm,Dw]
 generalize hgg:upd _ 11 _=gg
 have hL2:LaidR R σ2 (.agg lv.toArray) d:=hL.keep fun b cs hb hc=>⟨((x1.trans x2).cells (hw.cells hc)).trans hc,hb⟩
 have hcm2:σ2.heap.get (σ.next+2)=some ⟨.cells [.int .i64 0,.map (some (σ.next+1))] 136,false,none,σ.clock+3⟩:=(x2.get _ (by omega)).trans g1
 obtain⟨σ3,B3,e3,ch3,n3,hB3,hw3,i3⟩:=Hb (m+3) 71 [12,13] B1 B5 6 25 f1 gg [] none 11 (σ1.next+1) σ1.next σ2 (.func (.func 120) #[.pointer (some ⟨σ.next+2,0,none⟩)] #[]) R d lv (ValidI (σ2.next+1) σ2.next (σ.next+2) (σ.next+1) f1 gg) (fun b=>b=σ2.next+1∨b=σ2.next∨b=σ.next+2)
  (ZV m (σ2.next+1) σ2.next (σ.next+2) (σ.next+1) R f1 gg _ ⟨by omega,by omega⟩ q3 (fun b hb=>by have:=hR b hb;omega) hG hN) hS (by omega)
  (fun done B σ' ⟨_,_,_,_,h5,h6,_⟩=>⟨h5,h6⟩)
  ⟨fun b=>Iff.rfl,by rw[Aa,Aa];omega,by rw[Aa,Aa];omega,by rw[Aa,Aa];omega,Eu ..,⟨_,by rw[Ak,if_neg (by rw[Aa];omega),Ak,if_pos rfl]⟩,⟨_,by rw[Ak,if_neg (by rw[Aa];omega),Ak,if_neg (by omega)];exact hcm2⟩,by simp⟩
  (by rw[Ir,←hgg];simp -implicitDefEqProofs only[go_sem,reduceCtorEq]) hw2 cb1 (fun h=>by rcases h with h|h|h<;>omega) hL2 (fun b hb=>by have:=hR b hb;omega) cb2 (fun h=>by rcases h with h|h|h<;>omega)
 rw[e3]
 obtain⟨h1,h2,h4',h5,h6,⟨v6,h7⟩,⟨v7,h8⟩,h9⟩:=i3
 have hcm:=Au h8
 have hputc:∀(o:FObj),(σ3.put (σ2.next+1) o none).cells (σ.next+2)=some [.int .i64 (.ofNat (d.pieces []).length),.map (some (σ.next+1))]:=fun o=>by rw[Ar,if_neg (by omega)];exact hcm
 have hcol:∀(o:FObj),(σ3.put (σ2.next+1) o none).heap.get σ2.next=some ⟨.defd true,false,none,v6⟩:=fun o=>by rw[An,if_neg (by omega)];exact h7
 have hlim:=fun τ=>Agg (m+3) (.ofNat (d.pieces []).length) (by rw[Int.ofNat_eq_natCast];omega) τ
 simp -implicitDefEqProofs only[go_sem,Al2,Yo,Al3,Yp,q3,hputc,hlim]
 rw[Df _ _ _ _ _ _ _ _ _ _ (hcol _)]
 simp -implicitDefEqProofs only[go_sem]
 have x3:Ext σ σ3:=⟨by omega,by have:=x1.clock;have:=x2.clock;have:=ch3.clock;omega,fun b hb=>(ch3.get b (by omega) (fun h=>by rcases h with h|h|h<;>omega)).trans ((x1.trans x2).get b hb)⟩
 exact⟨_,_,rfl,(x3.put _ _ _ (by omega)).put _ _ _ (by omega),(hw3.put _ _ _ (by omega)).put _ _ _ (by rw[Ao];omega),rfl⟩
end Go.Proofs.YtokieofohmgjdaaGreatDoor
namespace Go.Eng
mutual
def D.count:D→Nat
 | .mk _ _ _ ds=>D.counts ds+1
def D.counts:List D→Nat
 | []=>0
 | d::ds=>D.count d+D.counts ds
end
end Go.Eng
namespace Go.Proofs.YtokieofohmgjdaaGreatDoor
open Go Go.Eng
mutual
theorem Cn:∀(d:D) (path:List Nat),(d.pieces path).length=d.count
 | .mk k z t ds,path=>by rw[D.pieces,List.length_cons,D1 ds path 0,D.count]
theorem D1:∀(ds:List D) (path:List Nat) (i:Nat),(D.piecesL path i ds).length=D.counts ds
 | [],path,i=>rfl
 | d::ds,path,i=>by rw[D.piecesL,List.length_append,Cn d (path++[i]),D1 ds path (i+1),D.counts]
end
theorem Aca(f:List Nat×D→Nat)(l:List (List Nat×D)):∀m,l.foldl (fun m x=>max m (f x)) m=max m (l.foldl (fun m x=>max m (f x)) 0):=by
 induction l with
 | nil=>intro m;simp
 | cons x l ih=>intro m;simp only[List.foldl_cons];rw[ih (max m (f x)),ih (max 0 (f x))];omega
theorem DZ(a b:List (List Nat×D)):longest (a++b)=max (longest a) (longest b):=by
 unfold longest
 rw[List.foldl_append,Aca (fun x=>x.1.length+1)]
theorem EX(x:List Nat×D)(l:List (List Nat×D)):longest (x::l)=max (x.1.length+1) (longest l):=by
 have:=DZ [x] l
 rw[List.singleton_append] at this
 rw[this]
 simp[longest]
mutual
theorem D0:∀(d:D) (path:List Nat),longest (d.pieces path)=path.length+d.deep
 | .mk k z t ds,path=>by
  rw[D.pieces,EX,D.deep]
  have:=Fm ds path 0
  simp only
  omega
theorem Fm:∀(ds:List D) (path:List Nat) (i:Nat),max (path.length+1) (longest (D.piecesL path i ds))=path.length+1+D.deeps ds
 | [],path,i=>by simp[D.piecesL,longest,D.deeps]
 | d::ds,path,i=>by
  rw[D.piecesL,DZ,D.deeps]
  have h1:=D0 d (path++[i])
  have h2:=Fm ds path (i+1)
  rw[List.length_append,List.length_singleton] at h1
  have h3:1≤d.deep:=by cases d;rw[D.deep];omega
  omega
end
def GoodD(m:Nat)(d:D):Prop:=∀k z t ds,d=D.mk k z t ds→∃k':Nat,k=(k':Int)∧Good m k' z t ds.length
def most:Nat→Nat
 | 0=>1
 | L+1=>3*most L+1
theorem Uz(L:Nat):1≤most L:=by cases L<;>simp[most]
def Fine(m L:Nat)(d:D):Prop:=∀path,(d.pieces path).length≤most L∧∀x∈d.pieces path,x.1.length≤path.length+L∧x.2.parts.length≤3∧GoodD m x.2
theorem Aq6{m L:Nat}(path:List Nat):∀(ds:List D) (i:Nat),(∀d∈ds,Fine m L d)→(D.piecesL path i ds).length≤ds.length*most L∧∀x∈D.piecesL path i ds,x.1.length≤path.length+(L+1)∧x.2.parts.length≤3∧GoodD m x.2
 | [],i,_=>⟨by simp[D.piecesL],fun x hx=>by simp[D.piecesL] at hx⟩
 | d::ds,i,h=>by
  obtain⟨h1,h2⟩:=h d List.mem_cons_self (path++[i])
  obtain⟨h3,h4⟩:=Aq6 path ds (i+1) fun d' hd=>h d' (List.mem_cons_of_mem _ hd)
  refine⟨?_,fun x hx=>?_⟩
  ·rw[D.piecesL,List.length_append,List.length_cons,Nat.add_mul]
   omega
  ·rw[D.piecesL,List.mem_append] at hx
   rcases hx with hx|hx
   ·have:=h2 x hx
    rw[List.length_append,List.length_singleton] at this
    exact⟨by omega,this.2⟩
   ·exact h4 x hx
theorem PA{m L:Nat}{k z:Int}{t:ByteArray}{ds:List D}(hl:ds.length≤3)(hg:GoodD m (.mk k z t ds))(h:∀d∈ds,Fine m L d):Fine m (L+1) (.mk k z t ds):=fun path=>by
 obtain⟨h1,h2⟩:=Aq6 path ds 0 h
 rw[D.pieces]
 refine⟨?_,fun x hx=>?_⟩
 ·rw[List.length_cons,most]
  have:=Nat.mul_le_mul_right (most L) hl
  omega
 ·rcases List.mem_cons.1 hx with rfl|hx
  ·exact⟨by simp,hl,hg⟩
  ·exact h2 x hx
theorem Ab6{m L:Nat}{k z:Int}{t:ByteArray}(hg:GoodD m (.mk k z t [])):Fine m L (.mk k z t []):=fun path=>by
 rw[D.pieces,D.piecesL]
 refine⟨by have:=Uz L;simp;omega,fun x hx=>?_⟩
 rcases List.mem_cons.1 hx with rfl|hx
 ·exact⟨by simp,by simp[D.parts],hg⟩
 ·simp at hx
theorem Ev(n:Nat){L:Nat}{d:D}(h:Made L d):Fine (n+20) L d:=by
 induction h with
 | leaf L d h=>
  obtain⟨k,z,t,l⟩:=d
  obtain⟨k',rfl,hg,rfl⟩:=Acm n h
  exact Ab6 fun k z t ds e=>by cases e;exact⟨k',rfl,hg⟩
 | pair L a b ha hb iha ihb=>
  refine PA (by simp) (fun k z t ds e=>?_) fun d hd=>?_
  ·cases e
   exact⟨5,rfl,.pair⟩
  ·simp only[List.mem_cons,List.not_mem_nil,or_false] at hd
   rcases hd with rfl|rfl
   ·exact iha
   ·exact ihb
 | vec L l hl h ih=>
  refine PA hl (fun k z t ds e=>?_) fun d hd=>ih d hd
  cases e
  exact⟨6,rfl,.vec _⟩
theorem Fine.small{m L:Nat}{d:D}(h:Fine m L d)(hL:L≤6):Small (d.pieces []):=fun x hx=>by
 have:=(h []).2 x hx
 rw[List.length_nil] at this
 exact⟨by omega,by omega⟩
theorem Fine.good{m L:Nat}{d:D}(h:Fine m L d):AllGood m (d.pieces []):=fun path k z t ds hx=>((h []).2 _ hx).2.2 k z t ds rfl
theorem Apt{L:Nat}(h:L≤6):most L≤1093:=by
 obtain rfl|rfl|rfl|rfl|rfl|rfl|rfl:L=0∨L=1∨L=2∨L=3∨L=4∨L=5∨L=6:=by omega
 all_goals decide
theorem Fine.few{m L:Nat}{d:D}(h:Fine m L d)(hL:L≤6):(d.pieces []).length≤1093:=Nat.le_trans (h []).1 (Apt hL)
theorem Fine.part{m L:Nat}{k z:Int}{t:ByteArray}{ds:List D}{d:D}(h:Made L (.mk k z t ds))(hd:d∈ds):Made (L-1) d:=by
 cases h with
 | leaf L d h=>cases h<;>simp at hd
 | pair L a b ha hb=>
  simp only[List.mem_cons,List.not_mem_nil,or_false] at hd
  rcases hd with rfl|rfl
  ·exact ha
  ·exact hb
 | vec L l hl h=>exact h d hd
end Go.Proofs.YtokieofohmgjdaaGreatDoor
end
