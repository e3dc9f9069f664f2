import Derived.Test.YtokieofohmgjdaaGreatDoorU7
import Derived.Test.YtokieofohmgjdaaGreatDoorU6
import Derived.Test.YtokieofohmgjdaaGreatDoorU3
import Derived.Test.YtokieofohmgjdaaGreatDoorU4
import Derived.ChangeArms
import Derived.DataReads
import Derived.ChangeSlices
import Derived.OpenShut
import Derived.Carry
set_option linter.unusedSimpArgs false
set_option linter.unusedVariables false
noncomputable section
namespace Go.Proofs.YtokieofohmgjdaaGreatDoor
section
open Go Go.Eng
attribute [local congr] Ab Ah Af Ad Ae
attribute [-go_sem] List.range_succ
theorem Ao0(n N0:Nat)(v8 xv yv:List Value)(h8:v8.length=8)(hxo:v8.take 4=xv)(hyo:(v8.drop 4).take 4=yv)(x y:D)(RX RY:Nat→Prop)(σ0:FState)(hw0:Wf σ0)(hLx:LaidR RX σ0 (.agg xv.toArray) x)(hLy:LaidR RY σ0 (.agg yv.toArray) y)(hyd:y.deep≤N0)(hyc:y.count<1000000):
  ∀(L:Nat) (d:D),d.deep≤L→L≤N0→d.count<1000000→DoAt (n+2*N0+3*L) 116 (.agg v8.toArray) σ0 (repl x y) d
 | 0,d,h,_,_=>by cases d;rw[D.deep] at h;omega
 | L+1,.mk k z t ds,h,hL,hc=>by
  have hd':(D.mk k z t ds).deep≤N0:=by omega
  have hc':=hc
  rw[D.deep] at h
  rw[D.count] at hc
  exact AnB (n+2*N0+3*L) (n+3*L) N0 (by omega) v8 xv yv h8 hxo hyo x y RX RY σ0 hw0 hLx hLy hyd hyc k z t ds hd' hc' fun d hd=>Ao0 n N0 v8 xv yv h8 hxo hyo x y RX RY σ0 hw0 hLx hLy hyd hyc L d (by have:=Eo hd;omega) (by omega) (by have:=Fv hd;omega)
theorem WB(x y d:D)(h1:d.count≤2000)(h2:x.count≤2000)(h3:y.count≤2000)(ho:occN x d≤2000):
  wrapI (Int.ofNat y.count-Int.ofNat x.count)=(y.count:Int)-x.count∧wrapI (Int.ofNat (occN x d)*((y.count:Int)-x.count))=(occN x d:Int)*((y.count:Int)-x.count)∧wrapI (Int.ofNat d.count+(occN x d:Int)*((y.count:Int)-x.count))=Int.ofNat (repl x y d).count:=by
 have hs:=N8 x y d
 have b1:occN x d*y.count≤2000*2000:=Nat.mul_le_mul ho h3
 have b2:occN x d*x.count≤2000*2000:=Nat.mul_le_mul ho h2
 have e:(occN x d:Int)*((y.count:Int)-x.count)=((occN x d*y.count:Nat):Int)-((occN x d*x.count:Nat):Int):=by rw[Int.mul_sub,Int.natCast_mul,Int.natCast_mul]
 rw[e]
 refine⟨?_,?_,?_⟩
 ·rw[Dk (by simp only[Int.ofNat_eq_natCast];omega)];simp only[Int.ofNat_eq_natCast]
 ·rw[Int.ofNat_eq_natCast,e,Dk (by omega)]
 ·rw[Dk (by simp only[Int.ofNat_eq_natCast];omega)]
  simp only[Int.ofNat_eq_natCast]
  omega
end
section
open Go Go.Eng
attribute [local congr] Ab Ah Af Ad Ae
attribute [-go_sem] List.range_succ
theorem Vx(n:Nat)(p:Int)(hp:2000<p)(σ:FState):(env (n+3)).call 101 [.int .i64 p] none σ=.pan [failing 8 0] none σ:=by
 rw[Ak _ 101 _ _ rfl,UG _ _ _ _ (by simp),Aj]
 unfold TX
 have e1:=Hi n 8 σ
 have d0:decide (p>2000)=true:=by simp;omega
 simp -implicitDefEqProofs only[go_sem,Pw,Lw,Ab5,Rd,d0,e1,Bi,Av,AH,Bc]
theorem MB(n b1 b2:Nat)(c z x1 x2:Int)(v1 v2:Nat)(σ:FState)(hw:Wf σ)(hne:b1≠b2)(g1:σ.heap.get b1=some ⟨.cells [.int .i64 x1] 3,false,none,v1⟩)(g2:σ.heap.get b2=some ⟨.cells [.int .i64 x2] 32,false,none,v2⟩):
  ∃σ1,Ext σ σ1∧Wf σ1∧(env (n+3)).call 164 [.pointer (some ⟨b1,0,none⟩),.pointer (some ⟨b2,0,none⟩)] (some (.panicking [failing c z])) σ=
   .ret (.tuple #[]) (some (.panicking [failed c z])) ((σ1.put b1 (.cells [.int .i64 z] 3) none).put b2 (.cells [.int .i64 c] 32) none):=by
 rw[Ph,UM _ _ _ _ (by simp),Aj]
 unfold Ub
 obtain⟨_,σ2,e2,hX2,hw2,rfl⟩:=Jv n c z σ hw
 have m1:=(hw _ _ g1).1
 have m2:=(hw _ _ g2).1
 have k1:σ2.heap.get b1=_:=(hX2.get b1 m1).trans g1
 have k2:σ2.heap.get b2=_:=(hX2.get b2 m2).trans g2
 have l1:σ2.next≠b1:=by have:=hX2.next;omega
 have l2:σ2.next≠b2:=by have:=hX2.next;omega
 have w4:Wf ((σ2.push (.cells [.int .i64 0,.int .i64 0] 178) none).put σ2.next (.cells [.int .i64 c,.int .i64 z] 178) none):=(hw2.push (.cells [.int .i64 0,.int .i64 0] 178) none).put _ _ _ (by simp only[Aa];omega)
 have hv4:=D0 (lam:=σ2.clock+2) w4 (Nat.le_refl _)
 simp -implicitDefEqProofs only[go_sem,Al3,hv4,Aw,P8,Mc,P9,Md,Adb,Sn,Adc,Sq,Ade,Sr,Adf,Ss,Ms,ArZ,Abz,e2,k1,k2,l1,l2,l1.symm,l2.symm,hne,hne.symm,Bj,AX]
 refine⟨_,(hX2.push _ _).put _ _ _ hX2.next,w4,rfl⟩
theorem QA(n w:Nat)(cap:Array Value)(c z:Int)(σ:FState)(hw:Wf σ)(h:∀σ',Ext σ σ'→Wf σ'→Fails ((env (n+3)).call w cap.toList none σ') σ' c z):
  Gives ((env (n+4)).call 141 [.func (.func w) #[] cap] none σ) σ fun v _=>v=.tuple #[.agg #[.int .i64 0,.int .i64 0,.string ⟨#[]⟩,.slice none 0 0],.int .i64 z,.int .i64 c]:=by
 rw[Ak _ 141 _ _ rfl,UL _ _ _ _ (by simp),Aj]
 unfold Ua
 have hX1:Ext σ (((σ.push (.cells [.int .i64 0,.int .i64 0,.string ⟨#[]⟩,.slice none 0 0] TD) none).push (.cells [.int .i64 0] 3) none).push (.cells [.int .i64 0] 32) none):=(((Ext.refl _).push _ _).push _ _).push _ _
 have hw1:=((hw.push (.cells [.int .i64 0,.int .i64 0,.string ⟨#[]⟩,.slice none 0 0] TD) none).push (.cells [.int .i64 0] 3) none).push (.cells [.int .i64 0] 32) none
 obtain⟨σ2,e2,hX2,hw2⟩:=h _ hX1 hw1
 have g0:σ2.heap.get σ.next=_:=(hX2.get σ.next (by simp only[Aa];omega)).trans (by simp -implicitDefEqProofs only[Ai,Aa,Nat.add_assoc,Nat.reduceAdd,Nat.left_eq_add,reduceCtorEq,↓reduceIte,Nat.reduceEqDiff]<;>rfl)
 have g1:σ2.heap.get (σ.next+1)=_:=(hX2.get (σ.next+1) (by simp only[Aa];omega)).trans (by simp -implicitDefEqProofs only[Ai,Aa,Nat.add_assoc,Nat.reduceAdd,Nat.add_left_cancel_iff,reduceCtorEq,↓reduceIte,Nat.reduceEqDiff]<;>rfl)
 have g2:σ2.heap.get (σ.next+2)=_:=(hX2.get (σ.next+2) (by simp only[Aa];omega)).trans (by simp -implicitDefEqProofs only[Ai,Aa,Nat.add_assoc,Nat.reduceAdd,Nat.add_left_cancel_iff,reduceCtorEq,↓reduceIte,Nat.reduceEqDiff]<;>rfl)
 obtain⟨σ3,hX3,hw3,e3⟩:=MB n (σ.next+1) (σ.next+2) c z 0 0 _ _ σ2 hw2 (by omega) g1 g2
 have m0:=(hw2 _ _ g0).1
 have m1:=(hw2 _ _ g1).1
 have m2:=(hw2 _ _ g2).1
 have hn3:=hX3.next
 have h0:σ3.cells σ.next=some [.int .i64 0,.int .i64 0,.string ⟨#[]⟩,.slice none 0 0]:=AB ((hX3.get _ m0).trans g0)
 simp -implicitDefEqProofs only[go_sem,Aw,PW,LX,PX,LY,PY,LZ,e2,Bi,Av,AH,Xi,e3,h0,Nat.le_refl,KX,BJ,Ad7,Up,Bj,AX,AP,A0,DZ]
 refine⟨_,_,rfl,?_,?_,rfl⟩
 ·exact(((hX1.trans hX2).trans hX3).put (σ.next+1) _ _ (Nat.le_add_right _ _)).put (σ.next+2) _ _ (Nat.le_add_right _ _)
 ·exact(hw3.put (σ.next+1) _ _ (by omega)).put (σ.next+2) _ _ (by simp only[Ap];omega)
theorem W4(n w:Nat)(cap:Array Value)(c z:Int)(σ:FState)(hw:Wf σ)(h:∀σ',Ext σ σ'→Wf σ'→Fails ((env (n+3)).call w cap.toList none σ') σ' c z):
  Gives ((env (n+5)).call 99 [.func (.func w) #[] cap] none σ) σ fun v _=>v=.tuple #[.agg #[.int .i64 0,.int .i64 0,.string ⟨#[]⟩,.slice none 0 0],.int .i64 c]:=by
 rw[Ak _ 99 _ _ rfl,Aag _ _ _ _ (by simp),Aj]
 unfold Aa9
 have hX1:Ext σ (σ.push (.cells [.int .i64 0,.int .i64 0,.string ⟨#[]⟩,.slice none 0 0] TD) none):=(Ext.refl _).push _ _
 obtain⟨_,σ2,e2,hX2,hw2,rfl⟩:=QA n w cap c z _ (hw.push (.cells [.int .i64 0,.int .i64 0,.string ⟨#[]⟩,.slice none 0 0] TD) none) fun σ' hx hw'=>h σ' (hX1.trans hx) hw'
 have g0:σ2.heap.get σ.next=_:=(hX2.get σ.next (Nat.lt_succ_self _)).trans (by rw[Ai,if_pos rfl])
 have m0:=(hw2 _ _ g0).1
 have hne:(σ.next=σ2.next)=False:=by simp;omega
 have hne':(σ2.next=σ.next)=False:=by simp;omega
 simp -implicitDefEqProofs only[go_sem,Aw,Wv,TQ,Ww,TR,Wx,TT,e2,g0,BJ,Bj,AX,AP,A0,DZ,hne,hne']
 exact⟨_,_,rfl,(((hX1.trans hX2).push _ _).put _ _ _ (by have:=(hX1.trans hX2).next;omega)).put _ _ _ (Nat.le_refl _),((hw2.push _ _).put _ _ _ (Nat.lt_succ_self _)).put _ _ _ (by rw[Ap,Aa];omega),rfl⟩
def threeE(d x y:D):Nat:=if firstE d=0 then (if firstE x=0 then (if firstE y=0 then (if (repl x y d).count≤2000 then 0 else 8) else firstE y) else firstE x) else firstE d
section
variable (M m:Nat) (hm:M=m+22) (d x y:D) (hc:d.count<900) (hcx:x.count<900) (hcy:y.count<900) (lv xv yv:List Value) (h4:lv.length=4) (hx4:xv.length=4) (hy4:yv.length=4) (b1 b2 b3:Nat) (σ:FState) (hw:Wf σ) (hb1:σ.cells b1=some lv) (hb2:σ.cells b2=some xv) (hb3:σ.cells b3=some yv) (hL:LaidR (fun b=>b<σ.next) σ (.agg lv.toArray) d) (hLx:LaidR (fun b=>b<σ.next) σ (.agg xv.toArray) x) (hLy:LaidR (fun b=>b<σ.next) σ (.agg yv.toArray) y)
include hm hc hcx hcy h4 hx4 hy4 hw hb1 hb2 hb3 hL hLx hLy
theorem TU(he:threeE d x y≠0)(n:Nat)(hM:M=n+10+2*900):
  Fails ((env (M+6)).call 115 [.pointer (some ⟨b1,0,none⟩),.pointer (some ⟨b2,0,none⟩),.pointer (some ⟨b3,0,none⟩)] none σ) σ (threeE d x y:Nat) 0:=by
 have ht:lv.take 4=lv:=List.take_of_length_le (by omega)
 have htx:xv.take 4=xv:=List.take_of_length_le (by omega)
 have hty:yv.take 4=yv:=List.take_of_length_le (by omega)
 have x0:Ext σ (σ.push (.cells [.int .i64 0,.int .i64 0,.string ⟨#[]⟩,.slice none 0 0] TD) none):=(Ext.refl _).push _ _
 have hw0:=hw.push (.cells [.int .i64 0,.int .i64 0,.string ⟨#[]⟩,.slice none 0 0] TD) none
 have ne1:(b1=σ.next)=False:=by have:=hw.cells hb1;simp;omega
 have st:∀ {τ:FState},Ext σ τ→∀ {v:Value} {d:D},LaidR (fun b=>b<σ.next) σ v d→LaidR (fun b=>b<τ.next) τ v d:=fun hX v d h=>h.keep fun b cs hb hc=>⟨(hX.cells hb).trans hc,by have:=hX.next;omega⟩
 have kc:∀ {b:Nat} {cs:List Value} (σ':FState),Ext σ σ'→σ.cells b=some cs→σ'.cells b=some cs:=fun σ' hx hc=>(hx.cells (hw.cells hc)).trans hc
 rw[Ak _ 115 _ _ rfl,UH _ _ _ _ (by simp),Aj]
 unfold TY
 unfold threeE at he ⊢
 by_cases e0:firstE d=0
 ·rw[if_pos e0] at he ⊢
  obtain⟨_,σ1,e1,x1,hw1,rfl⟩:=FI m d e0 hc lv h4 _ _ hw0 (st x0 hL) (fun b hb=>hb)
  have X1:=x0.trans x1
  have c2a:=kc _ X1 hb2
  rw[show m+27=M+5 by omega] at e1
  by_cases ex:firstE x=0
  ·rw[if_pos ex] at he ⊢
   obtain⟨_,σ2,e2,x2,hw2,rfl⟩:=FI m x ex hcx xv hx4 _ σ1 hw1 (st X1 hLx) (fun b hb=>hb)
   have X2:=X1.trans x2
   have c3a:=kc _ X2 hb3
   rw[show m+27=M+5 by omega] at e2
   by_cases ey:firstE y=0
   ·rw[if_pos ey] at he ⊢
    obtain⟨_,σ3,e3,x3,hw3,rfl⟩:=FI m y ey hcy yv hy4 _ σ2 hw2 (st X2 hLy) (fun b hb=>hb)
    have X3:=X2.trans x3
    have c1b:=kc _ X3 hb1
    have c2b:=kc _ X3 hb2
    rw[show m+27=M+5 by omega] at e3
    have hz:¬ (repl x y d).count≤2000:=fun h=>by rw[if_pos h] at he;exact he rfl
    rw[if_neg hz]
    have pd:=DV d []
    obtain⟨w4,σ4,e4,x4,hw4,us,hv4,hp4⟩:=Aai M (n+10) 900 (by omega) d x lv xv h4 hx4 (fun b=>b<σ3.next) (fun _=>False) σ3 hw3 (st X3 hL) ((st X3 hLx).keep fun b cs hb hc=>⟨hc,.inl hb⟩) (fun b hb=>⟨hb,fun h=>h⟩) (fun b hb=>hb.elim) (KV hc) (by omega) (fun y hy=>by have:=HT d [] y hy;have:=Dh d;omega)
    have hul:us.length=occN x d:=by rw[hp4.length,Gi]
    have ho:occN x d≤2000:=by rw[←Gi x d []];have:=MR x (d.pieces []);omega
    obtain⟨s1,s2,s3⟩:=WB x y d (by omega) (by omega) (by omega) ho
    obtain⟨aw,cw,hw4e,_⟩:=Ox hv4
    rw[hul] at hw4e
    subst hw4e
    have hlim:=Vx (M+2) (.ofNat (repl x y d).count) (by rw[Int.ofNat_eq_natCast];omega) σ4
    simp -implicitDefEqProofs only[go_sem,Gm,GV,Gn,GW,Gp,GX,HW,HV,Kx,JP,PB,LB,hb1,ne1,c2a,c3a,c1b,c2b,h4,hx4,hy4,ht,htx,hty,e1,e2,e3,e4,s1,s2,s3,hlim,Nat.le_refl,Bi,Av,AH,Bc]
    exact⟨_,rfl,X3.trans x4,hw4⟩
   ·rw[if_neg ey] at he ⊢
    obtain⟨σ3,e3,x3,hw3⟩:=KY m y ey hcy yv hy4 _ σ2 hw2 (st X2 hLy) (fun b hb=>hb)
    rw[show m+27=M+5 by omega] at e3
    simp -implicitDefEqProofs only[go_sem,Gm,GV,Gn,GW,Gp,GX,HW,HV,Kx,JP,hb1,ne1,c2a,c3a,h4,hx4,hy4,ht,htx,hty,e1,e2,e3,Nat.le_refl,Bi,Av,AH,Bc]
    exact⟨_,rfl,X2.trans x3,hw3⟩
  ·rw[if_neg ex] at he ⊢
   obtain⟨σ2,e2,x2,hw2⟩:=KY m x ex hcx xv hx4 _ σ1 hw1 (st X1 hLx) (fun b hb=>hb)
   rw[show m+27=M+5 by omega] at e2
   simp -implicitDefEqProofs only[go_sem,Gm,GV,Gn,GW,Gp,GX,HW,HV,hb1,ne1,c2a,h4,hx4,ht,htx,e1,e2,Nat.le_refl,Bi,Av,AH,Bc]
   exact⟨_,rfl,X1.trans x2,hw2⟩
 ·rw[if_neg e0] at he ⊢
  obtain⟨σ1,e1,x1,hw1⟩:=KY m d e0 hc lv h4 _ _ hw0 (st x0 hL) (fun b hb=>hb)
  rw[show m+27=M+5 by omega] at e1
  simp -implicitDefEqProofs only[go_sem,Gm,GV,Gn,GW,Gp,GX,hb1,ne1,h4,ht,e1,Nat.le_refl,Bi,Av,AH,Bc]
  exact⟨_,rfl,x0.trans x1,hw1⟩
end
end
section
open Go Go.Eng
attribute [local congr] Ab Ah Af Ad Ae
attribute [-go_sem] List.range_succ
def zeroD:D:=.mk 0 0 ⟨#[]⟩ []
def resT(d x y:D):D:=if threeE d x y=0 then repl x y d else zeroD
def ReplOk(d x y:D)(S:Nat→Prop)(σ:FState)(w:Value):Prop:=∃u,w=.tuple #[u,.int .i64 (threeE d x y:Nat)]∧LaidR S σ u (resT d x y)
theorem II(S:Nat→Prop)(σ:FState):LaidR S σ (.agg #[.int .i64 0,.int .i64 0,.string ⟨#[]⟩,.slice none 0 0]) zeroD:=⟨none,0,rfl,trivial⟩
theorem Oq{d x y:D}(h:threeE d x y=0):firstE d=0∧firstE x=0∧firstE y=0∧(repl x y d).count≤2000:=by
 unfold threeE at h
 by_cases h1:firstE d=0
 ·rw[if_pos h1] at h
  by_cases h2:firstE x=0
  ·rw[if_pos h2] at h
   by_cases h3:firstE y=0
   ·rw[if_pos h3] at h
    by_cases h4:(repl x y d).count≤2000
    ·exact⟨h1,h2,h3,h4⟩
    ·rw[if_neg h4] at h;cases h
   ·rw[if_neg h3] at h;exact absurd h h3
  ·rw[if_neg h2] at h;exact absurd h h2
 ·rw[if_neg h1] at h;exact absurd h h1
theorem WC(M m n:Nat)(hm:M=m+22)(hM:M=n+745)(d x y:D)(hc:d.count≤150)(hcx:x.count≤150)(hcy:y.count≤150)(lv xv yv:List Value)(h4:lv.length=4)(hxl:xv.length=4)(hyl:yv.length=4)(b1 b2 b3:Nat)(σ:FState)(hw:Wf σ)(hb1:σ.cells b1=some lv)(hb2:σ.cells b2=some xv)(hb3:σ.cells b3=some yv)(hL:LaidR (fun b=>b<σ.next) σ (.agg lv.toArray) d)(hLx:LaidR (fun b=>b<σ.next) σ (.agg xv.toArray) x)(hLy:LaidR (fun b=>b<σ.next) σ (.agg yv.toArray) y)(he:threeE d x y=0):
  Gives ((env (M+6)).call 115 [.pointer (some ⟨b1,0,none⟩),.pointer (some ⟨b2,0,none⟩),.pointer (some ⟨b3,0,none⟩)] none σ) σ fun w σ'=>LaidR (fun b=>σ.next≤b) σ' w (repl x y d):=by
 obtain⟨e0,ex,ey,hz⟩:=Oq he
 have ht:lv.take 4=lv:=List.take_of_length_le (by omega)
 have x0:Ext σ (σ.push (.cells [.int .i64 0,.int .i64 0,.string ⟨#[]⟩,.slice none 0 0] TD) none):=(Ext.refl _).push _ _
 have hw0:=hw.push (.cells [.int .i64 0,.int .i64 0,.string ⟨#[]⟩,.slice none 0 0] TD) none
 have g0:(σ.push (.cells [.int .i64 0,.int .i64 0,.string ⟨#[]⟩,.slice none 0 0] TD) none).heap.get σ.next=some ⟨.cells [.int .i64 0,.int .i64 0,.string ⟨#[]⟩,.slice none 0 0] TD,false,none,σ.clock⟩:=by rw[Ai,if_pos rfl]
 have ne1:(b1=σ.next)=False:=by have:=hw.cells hb1;simp;omega
 have st:∀ {τ:FState},Ext σ τ→∀ {v:Value} {d:D},LaidR (fun b=>b<σ.next) σ v d→LaidR (fun b=>b<τ.next) τ v d:=fun hX v d h=>h.keep fun b cs hb hc=>⟨(hX.cells hb).trans hc,by have:=hX.next;omega⟩
 have kc:∀ {b:Nat} {cs:List Value} (σ':FState),Ext σ σ'→σ.cells b=some cs→σ'.cells b=some cs:=fun σ' hx hc=>(hx.cells (hw.cells hc)).trans hc
 rw[Ak _ 115 _ _ rfl,UH _ _ _ _ (by simp),Aj]
 unfold TY
 obtain⟨_,σ1,e1,x1,hw1,rfl⟩:=FI m d e0 (by omega) lv h4 _ _ hw0 (st x0 hL) (fun b hb=>hb)
 have X1:=x0.trans x1
 obtain⟨_,σ2,e2,x2,hw2,rfl⟩:=FI m x ex (by omega) xv hxl _ σ1 hw1 (st X1 hLx) (fun b hb=>hb)
 have X2:=X1.trans x2
 obtain⟨_,σ3,e3,x3,hw3,rfl⟩:=FI m y ey (by omega) yv hyl _ σ2 hw2 (st X2 hLy) (fun b hb=>hb)
 have X3:=X2.trans x3
 rw[show m+27=M+5 by omega] at e1 e2 e3
 have pd:=DV d []
 have dd:=Dh d
 have dy:=Dh y
 obtain⟨w4,σ4,e4,x4,hw4,us,hv4,hp4⟩:=Aai M (n+445) 150 (by omega) d x lv xv h4 hxl (fun b=>b<σ3.next) (fun _=>False) σ3 hw3 (st X3 hL) ((st X3 hLx).keep fun b cs hb hc=>⟨hc,.inl hb⟩) (fun b hb=>⟨hb,fun h=>h⟩) (fun b hb=>hb.elim) (KV (by omega)) (by omega) (fun y hy=>by have:=HT d [] y hy;omega)
 have X4:=X3.trans x4
 have hul:us.length=occN x d:=by rw[hp4.length,Gi]
 have ho:occN x d≤2000:=by rw[←Gi x d []];have:=MR x (d.pieces []);omega
 obtain⟨s1,s2,s3⟩:=WB x y d (by omega) (by omega) (by omega) ho
 obtain⟨aw,cw,hw4e,_⟩:=Ox hv4
 rw[hul] at hw4e
 subst hw4e
 have hlim:=fun τ=>Vy (M+4) (.ofNat (repl x y d).count) (by rw[Int.ofNat_eq_natCast];omega) τ
 have hin:=Ao0 n 150 (xv++yv) xv yv (by rw[List.length_append];omega) (by rw[List.take_left' hxl]) (by rw[List.drop_left' hxl,List.take_of_length_le (by omega)]) x y (fun b=>b<σ4.next) (fun b=>b<σ4.next) σ4 hw4 (st X4 hLx) (st X4 hLy) (by omega) (by omega) 150 d (by omega) (by omega) (by omega)
 rw[show n+2*150+3*150=M+5 by omega] at hin
 obtain⟨_,σ5,e5,x5,hw5,hq⟩:=hin lv (fun b=>b<σ4.next) σ4 (Ext.refl _) hw4 (st X4 hL)
 obtain⟨l4,rfl,hl4,hone⟩:=hq.agg
 have g05:σ5.heap.get σ.next=_:=(x5.get _ (by have:=(x1.trans (x2.trans (x3.trans x4))).next;rw[Aa] at this;omega)).trans (((x1.trans (x2.trans (x3.trans x4))).get σ.next (by rw[Aa];omega)).trans g0)
 have m0:=(hw5 _ _ g05).1
 have ht4:l4.take 4=l4:=List.take_of_length_le (by omega)
 obtain⟨kx,zx,tx,qx,cx,dx,hxe,hxv⟩:=HQ hLx.laid
 obtain⟨ky,zy,ty,qy,cy,dy',hye,hyv⟩:=HQ hLy.laid
 rw[hxv,hyv] at e5
 simp only[List.cons_append,List.nil_append] at e5
 rw[hxv] at hb2 e2 e4
 rw[hyv] at hb3 e3
 have c2a:=kc _ X1 hb2
 have c3a:=kc _ X2 hb3
 have c1b:=kc _ X3 hb1
 have c2b:=kc _ X3 hb2
 have c1c:=kc _ X4 hb1
 have c2c:=kc _ X4 hb2
 have c3c:=kc _ X4 hb3
 simp -implicitDefEqProofs only[go_sem,Aw,Gm,GV,Gn,GW,Gp,GX,HW,HV,Kx,JP,PB,LB,hb1,ne1,c2a,c3a,c1b,c2b,c1c,c2c,c3c,h4,ht,e1,e2,e3,e4,s1,s2,s3,hlim,e5,g05,hl4,hone,BJ,Bj,AX,AP,A0,Nat.le_refl]
 rw[ht4]
 exact⟨_,_,rfl,(X4.trans x5).put _ _ _ (Nat.le_refl _),hw5.put _ _ _ m0,hq.keep fun b cs hb hc=>⟨by rw[Al,if_neg (by have:=(x1.trans (x2.trans (x3.trans x4))).next;rw[Aa] at this;omega)];exact hc,by have:=X4.next;omega⟩⟩
theorem WD(M m n n':Nat)(hm:M=m+22)(hM:M=n+745)(hM':M=n'+10+2*900)(d x y:D)(hc:d.count≤150)(hcx:x.count≤150)(hcy:y.count≤150)(lv xv yv:List Value)(h4:lv.length=4)(hxl:xv.length=4)(hyl:yv.length=4)(σ:FState)(hw:Wf σ)(hL:LaidR (fun b=>b<σ.next) σ (.agg lv.toArray) d)(hLx:LaidR (fun b=>b<σ.next) σ (.agg xv.toArray) x)(hLy:LaidR (fun b=>b<σ.next) σ (.agg yv.toArray) y):
  Gives ((env (M+9)).call 49 [.agg lv.toArray,.agg xv.toArray,.agg yv.toArray] none σ) σ fun w σ'=>ReplOk d x y (fun b=>σ.next≤b) σ' w:=by
 rw[Ak _ 49 _ _ rfl,Ang _ _ _ _ (by simp),Aj]
 unfold Aly
 have x1:Ext σ ((((σ.push (.cells lv TD) none).push (.cells xv TD) none).push (.cells yv TD) none).push (.cells [.int .i64 0,.int .i64 0,.string ⟨#[]⟩,.slice none 0 0] TD) none):=((((Ext.refl _).push _ _).push _ _).push _ _).push _ _
 have hw1:=(((hw.push (.cells lv TD) none).push (.cells xv TD) none).push (.cells yv TD) none).push (.cells [.int .i64 0,.int .i64 0,.string ⟨#[]⟩,.slice none 0 0] TD) none
 have c1:((((σ.push (.cells lv TD) none).push (.cells xv TD) none).push (.cells yv TD) none).push (.cells [.int .i64 0,.int .i64 0,.string ⟨#[]⟩,.slice none 0 0] TD) none).cells σ.next=some lv:=by rw[Ac,if_neg (by simp only[Aa];omega),Ac,if_neg (by simp only[Aa];omega),Ac,if_neg (by rw[Aa];omega),Ac,if_pos rfl];rfl
 have c2:((((σ.push (.cells lv TD) none).push (.cells xv TD) none).push (.cells yv TD) none).push (.cells [.int .i64 0,.int .i64 0,.string ⟨#[]⟩,.slice none 0 0] TD) none).cells (σ.next+1)=some xv:=by rw[Ac,if_neg (by simp only[Aa];omega),Ac,if_neg (by simp only[Aa];omega),Ac,if_pos (by rw[Aa])];rfl
 have c3:((((σ.push (.cells lv TD) none).push (.cells xv TD) none).push (.cells yv TD) none).push (.cells [.int .i64 0,.int .i64 0,.string ⟨#[]⟩,.slice none 0 0] TD) none).cells (σ.next+2)=some yv:=by rw[Ac,if_neg (by simp only[Aa];omega),Ac,if_pos (by simp only[Aa])];rfl
 have g4:((((σ.push (.cells lv TD) none).push (.cells xv TD) none).push (.cells yv TD) none).push (.cells [.int .i64 0,.int .i64 0,.string ⟨#[]⟩,.slice none 0 0] TD) none).heap.get (σ.next+3)=some ⟨.cells [.int .i64 0,.int .i64 0,.string ⟨#[]⟩,.slice none 0 0] TD,false,none,σ.clock+3⟩:=by rw[Ai,if_pos (by simp only[Aa])];rfl
 have st:∀ {τ:FState},Ext σ τ→∀ {v:Value} {d:D},LaidR (fun b=>b<σ.next) σ v d→LaidR (fun b=>b<τ.next) τ v d:=fun hX v d h=>h.keep fun b cs hb hc=>⟨(hX.cells hb).trans hc,by have:=hX.next;omega⟩
 by_cases he:threeE d x y=0
 ·obtain⟨_,σ2,e2,x2,hw2,u,rfl,hq⟩:=As0 (M+5) 115 #[.pointer (some ⟨σ.next,0,none⟩),.pointer (some ⟨σ.next+1,0,none⟩),.pointer (some ⟨σ.next+2,0,none⟩)] (repl x y d) _ hw1 fun σ' hx' hw'=>
   WC M m n hm hM d x y hc hcx hcy lv xv yv h4 hxl hyl σ.next (σ.next+1) (σ.next+2) σ' hw' ((hx'.cells (hw1.cells c1)).trans c1) ((hx'.cells (hw1.cells c2)).trans c2) ((hx'.cells (hw1.cells c3)).trans c3) (st (x1.trans hx') hL) (st (x1.trans hx') hLx) (st (x1.trans hx') hLy) he
  have hq0:=hq
  obtain⟨l4,rfl,hl4,hone⟩:=hq.agg
  have ht4:l4.take 4=l4:=List.take_of_length_le (by omega)
  have g4':=(x2.get _ (hw1 _ _ g4).1).trans g4
  have m4:=(hw2 _ _ g4').1
  simp -implicitDefEqProofs only[go_sem,Aw,VY,Tf,VZ,Tg,e2,g4',hl4,hone,ht4,BJ,Bj,AX,AP,A0,DZ]
  refine⟨_,_,rfl,(x1.trans x2).put _ _ _ (by omega),hw2.put _ _ _ m4,_,by rw[he];rfl,?_⟩
  unfold resT
  rw[if_pos he]
  exact hq0.keep fun b cs hb hc=>by
   simp only[Aa] at hb
   exact⟨by rw[Al,if_neg (by omega)];exact hc,by omega⟩
 ·obtain⟨_,σ2,e2,x2,hw2,rfl⟩:=W4 (M+3) 115 #[.pointer (some ⟨σ.next,0,none⟩),.pointer (some ⟨σ.next+1,0,none⟩),.pointer (some ⟨σ.next+2,0,none⟩)] (threeE d x y:Nat) 0 _ hw1 fun σ' hx' hw'=>
   TU M m hm d x y (by omega) (by omega) (by omega) lv xv yv h4 hxl hyl σ.next (σ.next+1) (σ.next+2) σ' hw' ((hx'.cells (hw1.cells c1)).trans c1) ((hx'.cells (hw1.cells c2)).trans c2) ((hx'.cells (hw1.cells c3)).trans c3) (st (x1.trans hx') hL) (st (x1.trans hx') hLx) (st (x1.trans hx') hLy) he n' hM'
  have g4':=(x2.get _ (hw1 _ _ g4).1).trans g4
  have m4:=(hw2 _ _ g4').1
  simp -implicitDefEqProofs only[go_sem,Aw,VY,Tf,VZ,Tg,e2,g4',BJ,Bj,AX,AP,A0,DZ]
  refine⟨_,_,rfl,(x1.trans x2).put _ _ _ (by omega),hw2.put _ _ _ m4,_,rfl,?_⟩
  unfold resT
  rw[if_neg he]
  exact II _ _
end
section
open Go Go.Eng
def PathO(σ:FState)(v:Value)(path:List Nat):Prop:=
 ∃q c,v=.slice q path.length c∧(path=[]∨∃b off cs fz ver,q=some ⟨b,off,none⟩∧σ.heap.get b=some ⟨.cells cs TI,false,fz,ver⟩∧(fz=none∨fz=some 1)∧path.length≤c∧∀(i j:Nat),path[i]? = some j→cs[off+i]? = some (.int .i64 (.ofNat j)))
theorem PathO.keep{σ σ':FState}{v:Value}{path:List Nat}(h:PathO σ v path)(hw:Wf σ)(hk:∀b,b<σ.next→σ'.heap.get b=σ.heap.get b∨∀cs fz ver,σ.heap.get b≠some ⟨.cells cs TI,false,fz,ver⟩):PathO σ' v path:=by
 obtain⟨q,c,rfl,h|⟨b,off,cs,fz,ver,rfl,hb,hf,hl,hc⟩⟩:=h
 ·exact⟨q,c,rfl,.inl h⟩
 ·rcases hk b (hw _ _ hb).1 with h|h
  ·exact⟨_,c,rfl,.inr ⟨b,off,cs,fz,ver,rfl,h.trans hb,hf,hl,hc⟩⟩
  ·exact absurd hb (h _ _ _)
theorem PathO.ext{σ σ':FState}{v:Value}{path:List Nat}(h:PathO σ v path)(hw:Wf σ)(hx:Ext σ σ'):PathO σ' v path:=h.keep hw fun b hb=>.inl (hx.get b hb)
theorem PathO.tail{σ:FState}{q:Option Addr}{c i:Nat}{path:List Nat}(h:PathO σ (.slice q (i::path).length c) (i::path)):∃b off cs fz ver,q=some ⟨b,off,none⟩∧σ.heap.get b=some ⟨.cells cs TI,false,fz,ver⟩∧(fz=none∨fz=some 1)∧path.length+1≤c∧cs[off]? = some (.int .i64 (.ofNat i))∧PathO σ (.slice (some ⟨b,off+1*1,none⟩) path.length (c-1)) path:=by
 obtain⟨q',c',e,h|⟨b,off,cs,fz,ver,rfl,hb,hf,hl,hc⟩⟩:=h
 ·cases h
 ·cases e
  refine⟨b,off,cs,fz,ver,rfl,hb,hf,by simpa using hl,by simpa using hc 0 i rfl,_,_,rfl,.inr ⟨b,off+1*1,cs,fz,ver,rfl,hb,hf,by simp at hl;omega,fun j k hj=>?_⟩⟩
  have:=hc (j+1) k (by simpa using hj)
  rw[show off+1*1+j=off+(j+1) by omega]
  exact this
end
section
open Go Go.Eng
def putP:List Nat→D→D→D
 | [],x,_=>x
 | i::p,x,.mk k z t ds=>match ds[i]? with
  | some d'=>.mk k z t (ds.set i (putP p x d'))
  | none=>.mk k z t ds
structure Okay (m:Nat) (d:D):Prop where
 good:AllGood m (d.pieces [])
 few:d.count≤2000
 small:Small (d.pieces [])
 deep:d.deep≤8
end
section
open Go Go.Eng
attribute [local congr] Ab Ah Af Ad Ae
attribute [-go_sem] List.range_succ
structure PlI (Rin:Nat→Prop) (base bd bx bo bv i:Nat) (k z:Int) (t:ByteArray) (p:Option Addr) (c:Nat) (ds:List D) (x y:D) (xv:List Value) (path:List Nat) (q:Nat) (f:Nat→Value) (σ:FState):Prop where
 f1:PathO σ (f 1) (i::path)
 f3:f 3=.pointer (some ⟨bd,0,none⟩)
 f5:f 5=.pointer (some ⟨bx,0,none⟩)
 f7:f 7=.pointer (some ⟨bo,0,none⟩)
 f8:f 8=.int .i64 (.ofNat q)
 cd:σ.cells bd=some [.int .i64 k,.int .i64 z,.string t,.slice p ds.length c]
 cx:σ.cells bx=some xv
 hE:LaidRE Rin σ p 0 ds
 hx:LaidR Rin σ (.agg xv.toArray) x
 out:∃s ver,σ.heap.get bo=some ⟨.cells [.int .i64 k,.int .i64 0,.string ⟨#[]⟩,s] TD,false,none,ver⟩∧VecG (· = bv) (fun b=>(Rin b∨base≤b)∧b<σ.next∧b≠bo∧b≠bv) σ s ((ds.set i y).take q)
 lo:True∧True∧base≤bo∧bd≠bo∧bx≠bo∧(∀b,Rin b→b≠bv)∧bv≠bo∧bv≠bd∧bv≠bx
 bvT:∃cs ro fz ver,σ.heap.get bv=some ⟨.cells cs TD,ro,fz,ver⟩
 wf:Wf σ
end
section
open Go Go.Eng
attribute [local congr] Ab Ah Af Ad Ae
attribute [-go_sem] List.range_succ
def PlR(Rin:Nat→Prop)(base:Nat)(y:D)(w:Value)(σ:FState):Prop:=∃ws:List Value,w=.agg ws.toArray∧ws.length=4∧ws.all oneCell=true∧LaidR (fun b=>Rin b∨base≤b) σ w y
end
section
open Go Go.Eng
variable (E:Env) (ro:Option Nat) (last:List Nat→RunF) (cl:List Nat) (a:FAct) (u:Option FrameMode) (σ:FState)
def Qk(_:Unit):List COp:=[⟨fun a σ=>fbox 24 (a.get 0) σ,some 4,fun _=>some true⟩,
 ⟨fun a σ=>fbox 24 (a.get 1) σ,some 5,fun _=>some true⟩,
 ⟨fun a σ=>fbox 24 (a.get 2) σ,some 6,fun _=>some true⟩,
 ⟨fun a σ=>.val (.bool false) σ,some 8,fun _=>some true⟩]
def AsD:List COp:=Qk ()
def Ql(_:Unit):List COp:=[⟨fun a σ=>fload (some 4) (a.get 4) σ,some 23,fun _=>some true⟩,
 ⟨fun a σ=>.enter 9 [(a.get 23)] σ,some 24,fun _=>some true⟩,
 ⟨fun a σ=>.val (a.get 24) σ,some 25,fun _=>some true⟩,
 ⟨fun a σ=>fload (some 4) (a.get 5) σ,some 26,fun a=>gd (a.get 25) false⟩,
 ⟨fun a σ=>.enter 9 [(a.get 26)] σ,some 27,fun a=>gd (a.get 25) false⟩,
 ⟨fun a σ=>fpick (a.get 25) (.bool true) (a.get 27) σ,some 28,fun _=>some true⟩,
 ⟨fun a σ=>.val (a.get 28) σ,some 29,fun _=>some true⟩,
 ⟨fun a σ=>fload (some 4) (a.get 6) σ,some 30,fun a=>gd (a.get 29) false⟩,
 ⟨fun a σ=>.enter 9 [(a.get 30)] σ,some 31,fun a=>gd (a.get 29) false⟩,
 ⟨fun a σ=>fpick (a.get 29) (.bool true) (a.get 31) σ,some 32,fun _=>some true⟩]
def AsE:List COp:=Ql ()
def Wg(_:Unit):List COp:=[⟨fun a σ=>.enter 10 [] σ,some 33,fun _=>some true⟩,
 ⟨fun a σ=>.val (a.get 33) σ,some 8,fun _=>some true⟩]
def AsG:List COp:=Wg ()
def AkR(_:Unit):List COp:=[⟨fun a σ=>.val (a.get 3) σ,some 34,fun _=>some true⟩,
 ⟨fun a σ=>.enter 12 [(a.get 34)] σ,some 35,fun _=>some true⟩,
 ⟨fun a σ=>.val (a.get 35) σ,some 9,fun _=>some true⟩]
def AsH:List COp:=AkR ()
def AkS(_:Unit):List COp:=[⟨fun a σ=>.val (a.get 9) σ,some 36,fun _=>some true⟩,
 ⟨fun a σ=>.enter 11 [(a.get 36),(.int .i64 4)] σ,some 37,fun _=>some true⟩,
 ⟨fun a σ=>newCells [(.int .i64 0),(.int .i64 0),(.string ⟨#[]⟩),(.slice none 0 0)] 24 none σ,some 10,fun _=>some true⟩,
 ⟨fun a σ=>fstore 4 (a.get 10) (a.get 37) σ,none,fun _=>some true⟩]
def AsI:List COp:=AkS ()
def AkT(_:Unit):List COp:=[⟨fun a σ=>fload (some 4) (a.get 10) σ,some 38,fun _=>some true⟩,
 ⟨fun a σ=>.enter 22 [(a.get 38),(.slice none 0 0)] σ,some 39,fun _=>some true⟩,
 ⟨fun a σ=>.val (a.get 39) σ,some 11,fun _=>some true⟩]
def AsJ:List COp:=AkT ()
def AkU(_:Unit):List DOp:=[⟨fun a σ=>.val (a.get 9) σ,some 43,fun _=>some true,some 0,false⟩,
 ⟨fun a σ=>.val (a.get 11) σ,some 44,fun _=>some true,some 0,false⟩,
 ⟨fun a σ=>flenL (a.get 44) σ,some 45,fun _=>some true,some 0,false⟩,
 ⟨fun a σ=>i_sub Tryz.prog 3 (.tmp 45) (.const (.int .i64 1)) (a.get 45) (.int .i64 1) σ,some 46,fun _=>some true,some 0,false⟩,
 ⟨fun a σ=>.enter 24 [(a.get 43),(a.get 46)] σ,some 47,fun _=>some true,none,false⟩,
 ⟨fun a σ=>fload (some 4) (a.get 10) σ,some 41,fun _=>some true,some 0,false⟩,
 ⟨fun a σ=>.val (a.get 11) σ,some 42,fun _=>some true,some 0,false⟩,
 ⟨fun a σ=>findex (none,1) (a.get 42) (a.get 47) σ,some 48,fun _=>some true,some 1,false⟩,
 ⟨fun a σ=>fload none (a.get 48) σ,some 49,fun _=>some true,some 1,false⟩,
 ⟨fun a σ=>.enter 41 [(a.get 41),(a.get 49)] σ,some 50,fun _=>some true,none,false⟩,
 ⟨fun a σ=>.val (a.get 50) σ,some 40,fun _=>some true,some 2,false⟩,
 ⟨fun a σ=>fextract 0 (a.get 40) σ,some 51,fun _=>some true,some 2,false⟩,
 ⟨fun a σ=>newCells [(.int .i64 0),(.int .i64 0),(.string ⟨#[]⟩),(.slice none 0 0)] 24 none σ,some 12,fun _=>some true,some 0,false⟩,
 ⟨fun a σ=>fstore 4 (a.get 12) (a.get 51) σ,none,fun _=>some true,none,false⟩,
 ⟨fun a σ=>fextract 1 (a.get 40) σ,some 52,fun _=>some true,some 2,false⟩,
 ⟨fun a σ=>.val (a.get 52) σ,some 13,fun _=>some true,some 3,false⟩]
def AsK:List DOp:=AkU ()
def AkV(_:Unit):List DOp:=[⟨fun a σ=>.val (a.get 9) σ,some 62,fun _=>some true,some 0,false⟩,
 ⟨fun a σ=>.enter 11 [(a.get 62),(.int .i64 3)] σ,some 63,fun _=>some true,none,false⟩,
 ⟨fun a σ=>fload (some 4) (a.get 4) σ,some 53,fun _=>some true,some 0,false⟩,
 ⟨fun a σ=>fload (some 4) (a.get 10) σ,some 54,fun _=>some true,some 0,false⟩,
 ⟨fun a σ=>fload (some 4) (a.get 10) σ,some 55,fun _=>some true,some 0,false⟩,
 ⟨fun a σ=>fbuildSlice 24 3 4 [(.int .i64 0),(.int .i64 0),(.string ⟨#[]⟩),(.slice none 0 0)] [(0,(a.get 53)),(1,(a.get 54)),(2,(a.get 55))] σ,some 56,fun _=>some true,some 0,false⟩,
 ⟨fun a σ=>fload (some 4) (a.get 5) σ,some 57,fun _=>some true,some 0,false⟩,
 ⟨fun a σ=>fload (some 4) (a.get 12) σ,some 58,fun _=>some true,some 0,false⟩,
 ⟨fun a σ=>fload (some 4) (a.get 5) σ,some 59,fun _=>some true,some 0,false⟩,
 ⟨fun a σ=>fbuildSlice 24 3 4 [(.int .i64 0),(.int .i64 0),(.string ⟨#[]⟩),(.slice none 0 0)] [(0,(a.get 57)),(1,(a.get 58)),(2,(a.get 59))] σ,some 60,fun _=>some true,some 0,false⟩,
 ⟨fun a σ=>fload (some 4) (a.get 6) σ,some 61,fun _=>some true,some 0,false⟩,
 ⟨fun a σ=>fload (some 4) (a.get 6) σ,some 64,fun _=>some true,some 0,false⟩,
 ⟨fun a σ=>fbuildSlice 24 3 4 [(.int .i64 0),(.int .i64 0),(.string ⟨#[]⟩),(.slice none 0 0)] [(0,(a.get 61)),(1,(a.get 63)),(2,(a.get 64))] σ,some 65,fun _=>some true,some 1,false⟩,
 ⟨fun a σ=>.val (a.get 56) σ,some 14,fun _=>some true,some 1,false⟩,
 ⟨fun a σ=>.val (a.get 60) σ,some 15,fun _=>some true,some 1,false⟩,
 ⟨fun a σ=>.val (a.get 65) σ,some 16,fun _=>some true,some 1,false⟩]
def AsL:List DOp:=AkV ()
def AkW(_:Unit):List COp:=[⟨fun a σ=>.val (.int .i64 0) σ,some 17,fun _=>some true⟩]
def AsM:List COp:=AkW ()
def Aa1(_:Unit):List COp:=[⟨fun a σ=>.val (a.get 17) σ,some 66,fun _=>some true⟩,
 ⟨fun a σ=>.val (a.get 14) σ,some 67,fun _=>some true⟩,
 ⟨fun a σ=>flenL (a.get 67) σ,some 68,fun _=>some true⟩,
 ⟨fun a σ=>i_lss Tryz.prog 3 (.tmp 66) (.tmp 68) (a.get 66) (a.get 68) σ,some 69,fun _=>some true⟩]
def As9:List COp:=Aa1 ()
def Y6(_:Unit):List COp:=[⟨fun a σ=>.val (a.get 14) σ,some 72,fun _=>some true⟩,
 ⟨fun a σ=>.val (a.get 17) σ,some 73,fun _=>some true⟩,
 ⟨fun a σ=>findex (none,4) (a.get 72) (a.get 73) σ,some 74,fun _=>some true⟩,
 ⟨fun a σ=>fload (some 4) (a.get 74) σ,some 75,fun _=>some true⟩,
 ⟨fun a σ=>.enter 13 [(a.get 75)] σ,some 76,fun _=>some true⟩,
 ⟨fun a σ=>newCells [(.int .i64 0),(.int .i64 0),(.string ⟨#[]⟩),(.slice none 0 0)] 24 none σ,some 18,fun _=>some true⟩,
 ⟨fun a σ=>fstore 4 (a.get 18) (a.get 76) σ,none,fun _=>some true⟩]
def AqE:List COp:=Y6 ()
def Y7(_:Unit):List DOp:=[⟨fun a σ=>fload (some 4) (a.get 18) σ,some 78,fun _=>some true,some 0,false⟩,
 ⟨fun a σ=>.val (a.get 15) σ,some 79,fun _=>some true,some 0,false⟩,
 ⟨fun a σ=>.val (a.get 17) σ,some 80,fun _=>some true,some 0,false⟩,
 ⟨fun a σ=>findex (none,4) (a.get 79) (a.get 80) σ,some 81,fun _=>some true,some 0,false⟩,
 ⟨fun a σ=>fload (some 4) (a.get 81) σ,some 82,fun _=>some true,some 0,false⟩,
 ⟨fun a σ=>.val (a.get 16) σ,some 83,fun _=>some true,some 0,false⟩,
 ⟨fun a σ=>.val (a.get 17) σ,some 84,fun _=>some true,some 0,false⟩,
 ⟨fun a σ=>findex (none,4) (a.get 83) (a.get 84) σ,some 85,fun _=>some true,some 0,false⟩,
 ⟨fun a σ=>fload (some 4) (a.get 85) σ,some 86,fun _=>some true,some 0,false⟩,
 ⟨fun a σ=>.enter 49 [(a.get 78),(a.get 82),(a.get 86)] σ,some 87,fun _=>some true,none,false⟩,
 ⟨fun a σ=>.val (a.get 87) σ,some 77,fun _=>some true,some 1,false⟩,
 ⟨fun a σ=>fextract 0 (a.get 77) σ,some 88,fun _=>some true,some 1,false⟩,
 ⟨fun a σ=>newCells [(.int .i64 0),(.int .i64 0),(.string ⟨#[]⟩),(.slice none 0 0)] 24 none σ,some 19,fun _=>some true,some 0,false⟩,
 ⟨fun a σ=>fstore 4 (a.get 19) (a.get 88) σ,none,fun _=>some true,none,false⟩,
 ⟨fun a σ=>fextract 1 (a.get 77) σ,some 89,fun _=>some true,some 1,false⟩,
 ⟨fun a σ=>.val (a.get 89) σ,some 20,fun _=>some true,some 2,false⟩]
def AqF:List DOp:=Y7 ()
def Y8(_:Unit):List DOp:=[⟨fun a σ=>.val (a.get 14) σ,some 91,fun _=>some true,some 0,false⟩,
 ⟨fun a σ=>.val (a.get 17) σ,some 92,fun _=>some true,some 0,false⟩,
 ⟨fun a σ=>findex (none,4) (a.get 91) (a.get 92) σ,some 93,fun _=>some true,some 0,false⟩,
 ⟨fun a σ=>fload (some 4) (a.get 93) σ,some 94,fun _=>some true,some 0,false⟩,
 ⟨fun a σ=>.val (a.get 15) σ,some 95,fun _=>some true,some 0,false⟩,
 ⟨fun a σ=>.val (a.get 17) σ,some 96,fun _=>some true,some 0,false⟩,
 ⟨fun a σ=>findex (none,4) (a.get 95) (a.get 96) σ,some 97,fun _=>some true,some 0,false⟩,
 ⟨fun a σ=>fload (some 4) (a.get 97) σ,some 98,fun _=>some true,some 0,false⟩,
 ⟨fun a σ=>.val (a.get 16) σ,some 99,fun _=>some true,some 0,false⟩,
 ⟨fun a σ=>.val (a.get 17) σ,some 100,fun _=>some true,some 0,false⟩,
 ⟨fun a σ=>findex (none,4) (a.get 99) (a.get 100) σ,some 101,fun _=>some true,some 0,false⟩,
 ⟨fun a σ=>fload (some 4) (a.get 101) σ,some 102,fun _=>some true,some 0,false⟩,
 ⟨fun a σ=>.enter 50 [(a.get 94),(a.get 98),(a.get 102)] σ,some 103,fun _=>some true,none,false⟩,
 ⟨fun a σ=>.val (a.get 103) σ,some 90,fun _=>some true,some 1,false⟩,
 ⟨fun a σ=>fextract 0 (a.get 90) σ,some 104,fun _=>some true,some 1,false⟩,
 ⟨fun a σ=>newCells [(.int .i64 0),(.int .i64 0),(.string ⟨#[]⟩),(.slice none 0 0)] 24 none σ,some 21,fun _=>some true,some 0,false⟩,
 ⟨fun a σ=>fstore 4 (a.get 21) (a.get 104) σ,none,fun _=>some true,none,false⟩,
 ⟨fun a σ=>fextract 1 (a.get 90) σ,some 105,fun _=>some true,some 1,false⟩,
 ⟨fun a σ=>.val (a.get 105) σ,some 22,fun _=>some true,some 2,false⟩]
def AqG:List DOp:=Y8 ()
def Y9(_:Unit):List DOp:=[⟨fun a σ=>.val (a.get 20) σ,some 106,fun _=>some true,some 0,false⟩,
 ⟨fun a σ=>.val (a.get 22) σ,some 107,fun _=>some true,some 0,false⟩,
 ⟨fun a σ=>i_neq Tryz.prog 32 (.tmp 106) (.tmp 107) (a.get 106) (a.get 107) σ,some 108,fun _=>some true,some 0,false⟩,
 ⟨fun a σ=>.val (a.get 108) σ,some 109,fun _=>some true,some 0,false⟩,
 ⟨fun a σ=>fload (some 4) (a.get 19) σ,some 110,fun a=>gd (a.get 109) false,some 0,false⟩,
 ⟨fun a σ=>fload (some 4) (a.get 21) σ,some 111,fun a=>gd (a.get 109) false,some 0,false⟩,
 ⟨fun a σ=>.enter 21 [(a.get 110),(a.get 111)] σ,some 112,fun a=>gd (a.get 109) false,none,true⟩,
 ⟨fun a σ=>fun1 Tryz.prog (Op.unary .not) (a.get 112) σ,some 113,fun a=>gd (a.get 109) false,some 1,false⟩,
 ⟨fun a σ=>fpick (a.get 109) (.bool true) (a.get 113) σ,some 114,fun _=>some true,some 1,false⟩,
 ⟨fun a σ=>.val (a.get 114) σ,some 115,fun _=>some true,some 1,false⟩,
 ⟨fun a σ=>fload (some 4) (a.get 18) σ,some 116,fun a=>gd (a.get 115) false,some 1,false⟩,
 ⟨fun a σ=>.val (a.get 14) σ,some 117,fun a=>gd (a.get 115) false,some 1,false⟩,
 ⟨fun a σ=>.val (a.get 17) σ,some 118,fun a=>gd (a.get 115) false,some 1,false⟩,
 ⟨fun a σ=>findex (none,4) (a.get 117) (a.get 118) σ,some 119,fun a=>gd (a.get 115) false,some 1,false⟩,
 ⟨fun a σ=>fload (some 4) (a.get 119) σ,some 120,fun a=>gd (a.get 115) false,some 1,false⟩,
 ⟨fun a σ=>.enter 21 [(a.get 116),(a.get 120)] σ,some 121,fun a=>gd (a.get 115) false,none,true⟩,
 ⟨fun a σ=>fun1 Tryz.prog (Op.unary .not) (a.get 121) σ,some 122,fun a=>gd (a.get 115) false,some 2,false⟩,
 ⟨fun a σ=>fpick (a.get 115) (.bool true) (a.get 122) σ,some 123,fun _=>some true,some 2,false⟩]
def AqH:List DOp:=Y9 ()
def AsF(_:Unit):List COp:=[⟨fun a σ=>.val (.bool false) σ,some 8,fun _=>some true⟩]
def As8:List COp:=AsF ()
def Y5(_:Unit):List COp:=[⟨fun a σ=>.val (a.get 17) σ,some 70,fun _=>some true⟩,
 ⟨fun a σ=>i_add Tryz.prog 3 (.tmp 70) (.const (.int .i64 1)) (a.get 70) (.int .i64 1) σ,some 71,fun _=>some true⟩,
 ⟨fun a σ=>.val (a.get 71) σ,some 17,fun _=>some true⟩]
def AqD:List COp:=Y5 ()
def AbS(E:Env)(ro:Option Nat)(fn:FuncId):RunF:=(seqR (seqR (fops E ro As9) (condR (fun a=>(a.get 69)) skipR (exitR 0))) (seqR (blockR 1 (seqR (fops E ro AqE) (seqR (drawR E ro AqF) (seqR (drawR E ro AqG) (seqR (drawR E ro AqH) (condR (fun a=>(a.get 123)) (seqR (fops E ro As8) retR) skipR)))))) (fops E ro AqD)))
def Y_(_:Unit):List COp:=[⟨fun a σ=>.enter 10 [] σ,some 124,fun _=>some true⟩,
 ⟨fun a σ=>.val (a.get 124) σ,some 8,fun _=>some true⟩]
def AkP:List COp:=Y_ ()
def AsQ(E:Env)(ro:Option Nat)(fn:FuncId):RunF:=(seqR (fops E ro AsD) (seqR (seqR (fops E ro AsE) (condR (fun a=>(a.get 32)) (seqR (fops E ro AsG) retR) skipR)) (seqR (fops E ro AsH) (seqR (fops E ro AsI) (seqR (fops E ro AsJ) (seqR (drawR E ro AsK) (seqR (drawR E ro AsL) (seqR (seqR (fops E ro AsM) (blockR 0 (loopR (keepOf nls fn) (AbS E ro fn)))) (seqR (fops E ro AkP) retR)))))))))
theorem Mq:fops E ro AsD a u σ=fops E ro (Qk ()) a u σ:=rfl
theorem Mr:fops E ro AsE a u σ=fops E ro (Ql ()) a u σ:=rfl
theorem Tw:fops E ro AsG a u σ=fops E ro (Wg ()) a u σ:=rfl
theorem AoB:fops E ro AsH a u σ=fops E ro (AkR ()) a u σ:=rfl
theorem AoC:fops E ro AsI a u σ=fops E ro (AkS ()) a u σ:=rfl
theorem AoD:fops E ro AsJ a u σ=fops E ro (AkT ()) a u σ:=rfl
theorem AoE:fdraw E ro last AsK cl a u σ=fdraw E ro last (AkU ()) cl a u σ:=rfl
theorem AoF:fdraw E ro last AsL cl a u σ=fdraw E ro last (AkV ()) cl a u σ:=rfl
theorem AoG:fops E ro AsM a u σ=fops E ro (AkW ()) a u σ:=rfl
theorem Aa2:fops E ro As9 a u σ=fops E ro (Aa1 ()) a u σ:=rfl
theorem AkL:fops E ro AqE a u σ=fops E ro (Y6 ()) a u σ:=rfl
theorem AkM:fdraw E ro last AqF cl a u σ=fdraw E ro last (Y7 ()) cl a u σ:=rfl
theorem AkN:fdraw E ro last AqG cl a u σ=fdraw E ro last (Y8 ()) cl a u σ:=rfl
theorem AkO:fdraw E ro last AqH cl a u σ=fdraw E ro last (Y9 ()) cl a u σ:=rfl
theorem AkK:fops E ro AqD a u σ=fops E ro (Y5 ()) a u σ:=rfl
theorem AkQ:fops E ro AkP a u σ=fops E ro (Y_ ()) a u σ:=rfl
theorem As2(E:Env)(ro:Option Nat)(fn:FuncId):code Tryz.prog nls (Tryz.f7.body.getD .skip) E ro fn=AsQ E ro fn:=by kernel_rfl
theorem ArW(E:Env)(args:List Value)(u:Option FrameMode)(σ:FState)(hn:args.length≤(23:Nat)):fcall Tryz.prog nls E 7 args u σ=leaveR Tryz.prog E [.tmp 8] (AsQ E none 7 ⟨padTo undef 23 args,fun _=>undef,23,125,[]⟩ u σ):=by
 rw[Ao (body:=Tryz.f7.body.getD .skip) Tryz.func7 rfl E args u σ 23 125 (by kernel_rfl) rfl ⟨hn,by decide⟩,As2]
 rfl
def YD(_:Unit):List COp:=[⟨fun a σ=>fbox 24 (a.get 0) σ,some 3,fun _=>some true⟩,
 ⟨fun a σ=>fbox 24 (a.get 1) σ,some 4,fun _=>some true⟩,
 ⟨fun a σ=>fbox 24 (a.get 2) σ,some 5,fun _=>some true⟩,
 ⟨fun a σ=>newCells [(.int .i64 0),(.int .i64 0),(.string ⟨#[]⟩),(.slice none 0 0)] 24 none σ,some 6,fun _=>some true⟩,
 ⟨fun a σ=>.val (.int .i64 0) σ,some 7,fun _=>some true⟩]
def ApN:List COp:=YD ()
def KQ(_:Unit):List COp:=[⟨fun a σ=>fload (some 4) (a.get 3) σ,some 10,fun _=>some true⟩,
 ⟨fun a σ=>fload (some 4) (a.get 4) σ,some 11,fun _=>some true⟩,
 ⟨fun a σ=>.enter 83 [(a.get 10),(a.get 11)] σ,some 12,fun _=>some true⟩,
 ⟨fun a σ=>.val (a.get 12) σ,some 8,fun _=>some true⟩]
def ApO:List COp:=KQ ()
def KR(_:Unit):List COp:=[⟨fun a σ=>.val (a.get 8) σ,some 13,fun _=>some true⟩,
 ⟨fun a σ=>i_neq Tryz.prog 32 (.tmp 13) (.const (.int .i64 0)) (a.get 13) (.int .i64 0) σ,some 14,fun _=>some true⟩]
def ApP:List COp:=KR ()
def YE(_:Unit):List COp:=[⟨fun a σ=>fbuild (fun i=>nth [(0,1),(1,1),(2,1),(3,1)] i) [(.int .i64 0),(.int .i64 0),(.string ⟨#[]⟩),(.slice none 0 0)] [] σ,some 15,fun _=>some true⟩,
 ⟨fun a σ=>.val (a.get 8) σ,some 16,fun _=>some true⟩,
 ⟨fun a σ=>fstore 4 (a.get 6) (a.get 15) σ,none,fun _=>some true⟩,
 ⟨fun a σ=>.val (a.get 16) σ,some 7,fun _=>some true⟩]
def ApQ:List COp:=YE ()
def Nz(_:Unit):List COp:=[⟨fun a σ=>fload (some 4) (a.get 5) σ,some 17,fun _=>some true⟩,
 ⟨fun a σ=>.enter 19 [(a.get 17)] σ,some 18,fun _=>some true⟩,
 ⟨fun a σ=>.val (a.get 18) σ,some 9,fun _=>some true⟩]
def ApR:List COp:=Nz ()
def NB(_:Unit):List COp:=[⟨fun a σ=>.val (a.get 9) σ,some 19,fun _=>some true⟩,
 ⟨fun a σ=>i_neq Tryz.prog 32 (.tmp 19) (.const (.int .i64 0)) (a.get 19) (.int .i64 0) σ,some 20,fun _=>some true⟩]
def ApS:List COp:=NB ()
def YF(_:Unit):List COp:=[⟨fun a σ=>fbuild (fun i=>nth [(0,1),(1,1),(2,1),(3,1)] i) [(.int .i64 0),(.int .i64 0),(.string ⟨#[]⟩),(.slice none 0 0)] [] σ,some 21,fun _=>some true⟩,
 ⟨fun a σ=>.val (a.get 9) σ,some 22,fun _=>some true⟩,
 ⟨fun a σ=>fstore 4 (a.get 6) (a.get 21) σ,none,fun _=>some true⟩,
 ⟨fun a σ=>.val (a.get 22) σ,some 7,fun _=>some true⟩]
def ApT:List COp:=YF ()
def Th(_:Unit):List COp:=[⟨fun a σ=>fload (some 4) (a.get 3) σ,some 23,fun _=>some true⟩,
 ⟨fun a σ=>fload (some 4) (a.get 4) σ,some 24,fun _=>some true⟩,
 ⟨fun a σ=>fload (some 4) (a.get 5) σ,some 25,fun _=>some true⟩,
 ⟨fun a σ=>.enter 117 [(a.get 23),(a.get 24),(a.get 25)] σ,some 26,fun _=>some true⟩,
 ⟨fun a σ=>.enter 84 [(a.get 26)] σ,some 27,fun _=>some true⟩,
 ⟨fun a σ=>fextract 0 (a.get 27) σ,some 28,fun _=>some true⟩,
 ⟨fun a σ=>fextract 1 (a.get 27) σ,some 29,fun _=>some true⟩,
 ⟨fun a σ=>fstore 4 (a.get 6) (a.get 28) σ,none,fun _=>some true⟩,
 ⟨fun a σ=>.val (a.get 29) σ,some 7,fun _=>some true⟩]
def ApU:List COp:=Th ()
def Alz(E:Env)(ro:Option Nat)(fn:FuncId):RunF:=(seqR (fops E ro ApN) (seqR (seqR (fops E ro ApO) (seqR (fops E ro ApP) (condR (fun a=>(a.get 14)) (seqR (fops E ro ApQ) retR) skipR))) (seqR (seqR (fops E ro ApR) (seqR (fops E ro ApS) (condR (fun a=>(a.get 20)) (seqR (fops E ro ApT) retR) skipR))) (seqR (fops E ro ApU) retR))))
theorem Aki:fops E ro ApN a u σ=fops E ro (YD ()) a u σ:=rfl
theorem Ka:fops E ro ApO a u σ=fops E ro (KQ ()) a u σ:=rfl
theorem Kb:fops E ro ApP a u σ=fops E ro (KR ()) a u σ:=rfl
theorem Akj:fops E ro ApQ a u σ=fops E ro (YE ()) a u σ:=rfl
theorem NA:fops E ro ApR a u σ=fops E ro (Nz ()) a u σ:=rfl
theorem NC:fops E ro ApS a u σ=fops E ro (NB ()) a u σ:=rfl
theorem Akk:fops E ro ApT a u σ=fops E ro (YF ()) a u σ:=rfl
theorem V0:fops E ro ApU a u σ=fops E ro (Th ()) a u σ:=rfl
theorem ArD(E:Env)(ro:Option Nat)(fn:FuncId):code Tryz.prog nls (Tryz.f50.body.getD .skip) E ro fn=Alz E ro fn:=by kernel_rfl
theorem Anh(E:Env)(args:List Value)(u:Option FrameMode)(σ:FState)(hn:args.length≤(10:Nat)):fcall Tryz.prog nls E 50 args u σ=leaveR Tryz.prog E [.cell 6 24,.tmp 7] (Alz E none 50 ⟨padTo undef 10 args,fun _=>undef,10,30,[]⟩ u σ):=by
 rw[Ao (body:=Tryz.f50.body.getD .skip) Tryz.func50 rfl E args u σ 10 30 (by kernel_rfl) rfl ⟨hn,by decide⟩,ArD]
 rfl
def RB(_:Unit):List COp:=[⟨fun a σ=>fbox 24 (a.get 0) σ,some 3,fun _=>some true⟩,
 ⟨fun a σ=>fbox 24 (a.get 1) σ,some 4,fun _=>some true⟩,
 ⟨fun a σ=>fbox 24 (a.get 2) σ,some 5,fun _=>some true⟩,
 ⟨fun a σ=>newCells [(.int .i64 0),(.int .i64 0),(.string ⟨#[]⟩),(.slice none 0 0)] 24 none σ,some 6,fun _=>some true⟩]
def Af0:List COp:=RB ()
def LD(_:Unit):List COp:=[⟨fun a σ=>fload (some 4) (a.get 3) σ,some 9,fun _=>some true⟩,
 ⟨fun a σ=>fload (some 4) (a.get 4) σ,some 10,fun _=>some true⟩,
 ⟨fun a σ=>.enter 145 [(a.get 9),(a.get 10)] σ,some 11,fun _=>some true⟩]
def Af1:List COp:=LD ()
def RC(_:Unit):List COp:=[⟨fun a σ=>fload (some 4) (a.get 5) σ,some 12,fun _=>some true⟩,
 ⟨fun a σ=>fstore 4 (a.get 6) (a.get 12) σ,none,fun _=>some true⟩]
def Af2:List COp:=RC ()
def RD(_:Unit):List COp:=[⟨fun a σ=>ffield 0 (a.get 3) σ,some 13,fun _=>some true⟩,
 ⟨fun a σ=>fload none (a.get 13) σ,some 14,fun _=>some true⟩,
 ⟨fun a σ=>ffield 1 (a.get 3) σ,some 15,fun _=>some true⟩,
 ⟨fun a σ=>fload none (a.get 15) σ,some 16,fun _=>some true⟩,
 ⟨fun a σ=>ffield 2 (a.get 3) σ,some 17,fun _=>some true⟩,
 ⟨fun a σ=>fload none (a.get 17) σ,some 18,fun _=>some true⟩,
 ⟨fun a σ=>fbuild (fun i=>nth [(0,1),(1,1),(2,1),(3,1)] i) [(.int .i64 0),(.int .i64 0),(.string ⟨#[]⟩),(.slice none 0 0)] [(0,(a.get 14)),(1,(a.get 16)),(2,(a.get 18))] σ,some 19,fun _=>some true⟩,
 ⟨fun a σ=>newCells [(.int .i64 0),(.int .i64 0),(.string ⟨#[]⟩),(.slice none 0 0)] 24 none σ,some 7,fun _=>some true⟩,
 ⟨fun a σ=>fstore 4 (a.get 7) (a.get 19) σ,none,fun _=>some true⟩]
def Af3:List COp:=RD ()
def RE(_:Unit):List COp:=[⟨fun a σ=>.val (.int .i64 0) σ,some 8,fun _=>some true⟩]
def Af4:List COp:=RE ()
def LF(_:Unit):List COp:=[⟨fun a σ=>.val (a.get 8) σ,some 20,fun _=>some true⟩,
 ⟨fun a σ=>ffield 3 (a.get 3) σ,some 21,fun _=>some true⟩,
 ⟨fun a σ=>fload none (a.get 21) σ,some 22,fun _=>some true⟩,
 ⟨fun a σ=>flenL (a.get 22) σ,some 23,fun _=>some true⟩,
 ⟨fun a σ=>i_lss Tryz.prog 3 (.tmp 20) (.tmp 23) (a.get 20) (a.get 23) σ,some 24,fun _=>some true⟩]
def Af5:List COp:=LF ()
def RG(_:Unit):List DOp:=[⟨fun a σ=>ffield 3 (a.get 3) σ,some 29,fun _=>some true,some 0,false⟩,
 ⟨fun a σ=>fload none (a.get 29) σ,some 30,fun _=>some true,some 0,false⟩,
 ⟨fun a σ=>.val (a.get 8) σ,some 31,fun _=>some true,some 0,false⟩,
 ⟨fun a σ=>findex (none,4) (a.get 30) (a.get 31) σ,some 32,fun _=>some true,some 0,false⟩,
 ⟨fun a σ=>fload (some 4) (a.get 32) σ,some 33,fun _=>some true,some 0,false⟩,
 ⟨fun a σ=>fload (some 4) (a.get 4) σ,some 34,fun _=>some true,some 0,false⟩,
 ⟨fun a σ=>fload (some 4) (a.get 5) σ,some 35,fun _=>some true,some 0,false⟩,
 ⟨fun a σ=>.enter 117 [(a.get 33),(a.get 34),(a.get 35)] σ,some 36,fun _=>some true,none,false⟩,
 ⟨fun a σ=>ffield 3 (a.get 7) σ,some 27,fun _=>some true,some 0,false⟩,
 ⟨fun a σ=>fload none (a.get 27) σ,some 28,fun _=>some true,some 0,false⟩,
 ⟨fun a σ=>fbuildSlice 24 1 4 [(.int .i64 0),(.int .i64 0),(.string ⟨#[]⟩),(.slice none 0 0)] [(0,(a.get 36))] σ,some 37,fun _=>some true,some 1,false⟩,
 ⟨fun a σ=>fappend 24 4 56 (a.get 28) (a.get 37) σ,some 38,fun _=>some true,none,true⟩,
 ⟨fun a σ=>ffield 3 (a.get 7) σ,some 39,fun _=>some true,some 2,false⟩,
 ⟨fun a σ=>fstore 1 (a.get 39) (a.get 38) σ,none,fun _=>some true,none,true⟩]
def Af7:List DOp:=RG ()
def RF(_:Unit):List COp:=[⟨fun a σ=>.val (a.get 8) σ,some 25,fun _=>some true⟩,
 ⟨fun a σ=>i_add Tryz.prog 3 (.tmp 25) (.const (.int .i64 1)) (a.get 25) (.int .i64 1) σ,some 26,fun _=>some true⟩,
 ⟨fun a σ=>.val (a.get 26) σ,some 8,fun _=>some true⟩]
def Af6:List COp:=RF ()
def Q2(E:Env)(ro:Option Nat)(fn:FuncId):RunF:=(seqR (seqR (fops E ro Af5) (condR (fun a=>(a.get 24)) skipR (exitR 0))) (seqR (blockR 1 (drawR E ro Af7)) (fops E ro Af6)))
def RH(_:Unit):List COp:=[⟨fun a σ=>fload (some 4) (a.get 7) σ,some 40,fun _=>some true⟩,
 ⟨fun a σ=>fstore 4 (a.get 6) (a.get 40) σ,none,fun _=>some true⟩]
def Af8:List COp:=RH ()
def ZA(E:Env)(ro:Option Nat)(fn:FuncId):RunF:=(seqR (fops E ro Af0) (seqR (seqR (fops E ro Af1) (condR (fun a=>(a.get 11)) (seqR (fops E ro Af2) retR) skipR)) (seqR (fops E ro Af3) (seqR (seqR (fops E ro Af4) (blockR 0 (loopR (keepOf nls fn) (Q2 E ro fn)))) (seqR (fops E ro Af8) retR)))))
theorem Acs:fops E ro Af0 a u σ=fops E ro (RB ()) a u σ:=rfl
theorem PE:fops E ro Af1 a u σ=fops E ro (LD ()) a u σ:=rfl
theorem Acu:fops E ro Af2 a u σ=fops E ro (RC ()) a u σ:=rfl
theorem Acv:fops E ro Af3 a u σ=fops E ro (RD ()) a u σ:=rfl
theorem Acw:fops E ro Af4 a u σ=fops E ro (RE ()) a u σ:=rfl
theorem PF:fops E ro Af5 a u σ=fops E ro (LF ()) a u σ:=rfl
theorem Acy:fdraw E ro last Af7 cl a u σ=fdraw E ro last (RG ()) cl a u σ:=rfl
theorem Acx:fops E ro Af6 a u σ=fops E ro (RF ()) a u σ:=rfl
theorem Acz:fops E ro Af8 a u σ=fops E ro (RH ()) a u σ:=rfl
theorem Ams(E:Env)(ro:Option Nat)(fn:FuncId):code Tryz.prog nls (Tryz.f117.body.getD .skip) E ro fn=ZA E ro fn:=by kernel_rfl
theorem AeG(E:Env)(args:List Value)(u:Option FrameMode)(σ:FState)(hn:args.length≤(9:Nat)):fcall Tryz.prog nls E 117 args u σ=leaveR Tryz.prog E [.cell 6 24] (ZA E none 117 ⟨padTo undef 9 args,fun _=>undef,9,41,[]⟩ u σ):=by
 rw[Ao (body:=Tryz.f117.body.getD .skip) Tryz.func117 rfl E args u σ 9 41 (by kernel_rfl) rfl ⟨hn,by decide⟩,Ams]
 rfl
end
section
open Go Go.Eng
attribute [local congr] Ab Ah Af Ad Ae
attribute [-go_sem] List.range_succ
structure RpI (Rin:Nat→Prop) (base bd bx bw bo bv:Nat) (k z:Int) (t:ByteArray) (p:Option Addr) (c:Nat) (ds es:List D) (x y:D) (xv yv:List Value) (q:Nat) (f:Nat→Value) (σ:FState):Prop where
 f3:f 3=.pointer (some ⟨bd,0,none⟩)
 f4:f 4=.pointer (some ⟨bx,0,none⟩)
 f5:f 5=.pointer (some ⟨bw,0,none⟩)
 f7:f 7=.pointer (some ⟨bo,0,none⟩)
 f8:f 8=.int .i64 (.ofNat q)
 cd:σ.cells bd=some [.int .i64 k,.int .i64 z,.string t,.slice p ds.length c]
 cx:σ.cells bx=some xv
 cy:σ.cells bw=some yv
 hE:LaidRE Rin σ p 0 ds
 hx:LaidR Rin σ (.agg xv.toArray) x
 hy:LaidR Rin σ (.agg yv.toArray) y
 out:∃s ver,σ.heap.get bo=some ⟨.cells [.int .i64 k,.int .i64 z,.string t,s] TD,false,none,ver⟩∧VecG (· = bv) (fun b=>(Rin b∨base≤b)∧b<σ.next∧b≠bo∧b≠bv) σ s (es.take q)
 lo:base≤bo∧bd≠bo∧bx≠bo∧bw≠bo∧(∀b,Rin b→b≠bv)∧bv≠bo∧bv≠bd∧bv≠bx∧bv≠bw
 bvT:bv<σ.next
 wf:Wf σ
theorem AoL{Rin:Nat→Prop}{base bd bx bw bo bv:Nat}{k z:Int}{t:ByteArray}{p:Option Addr}{c:Nat}{ds es:List D}{x y:D}{xv yv:List Value}{q:Nat}{f:Nat→Value}{σ σ1:FState}(hR:∀b,Rin b→b<base)(h:RpI Rin base bd bx bw bo bv k z t p c ds es x y xv yv q f σ)(hes:es.length<900)(hX:Ext σ σ1)(hw1:Wf σ1)(l:List Value)(hl:l.length=4)(ho:l.all oneCell=true)(e:D)(he:es[q]? = some e)(hL:LaidR (fun b=>Rin b∨σ.next≤b) σ1 (.agg l.toArray) e)(hb:base≤σ.next):
  ∃s s' ver τ bv',σ1.heap.get bo=some ⟨.cells [.int .i64 k,.int .i64 z,.string t,s] TD,false,none,ver⟩∧oneCell s=true∧fappend TD 4 56 s (.slice (some ⟨σ1.next,0,none⟩) 1 1) (σ1.push (.cells l TD) none)=.val s' τ∧oneCell s'=true∧notTuple s'=true∧valCells s'=[s']∧
   τ.heap.get bo=some ⟨.cells [.int .i64 k,.int .i64 z,.string t,s] TD,false,none,ver⟩∧Chg (fun b=>b=bv∧s≠.slice none 0 0) σ1 τ∧σ1.next≤bv'∧
   ∀f':Nat→Value,f' 3=f 3→f' 4=f 4→f' 5=f 5→f' 7=f 7→f' 8=.int .i64 (.ofNat (q+1))→RpI Rin base bd bx bw bo bv' k z t p c ds es x y xv yv (q+1) f' (τ.put bo (.cells [.int .i64 k,.int .i64 z,.string t,s'] TD) none):=by
 obtain⟨s,ver,hbo,hV⟩:=h.out
 obtain⟨l3,l4,l5,l0,l6,l7,l8,l9,l10⟩:=h.lo
 have hbon:=(h.wf _ _ hbo).1
 have n1:=hX.next
 have hbo1:σ1.heap.get bo=_:=(hX.get bo hbon).trans hbo
 have hV1:VecG (· = bv) (fun b=>(Rin b∨base≤b)∧b<σ1.next∧b≠bo∧b≠bv) σ1 s (es.take q):=hV.keep (fun b e hb he=>⟨(hX.get b (h.wf _ _ he).1).trans he,hb⟩) fun b cs hb hc=>⟨(hX.cells hb.2.1).trans hc,hb.1,by omega,hb.2.2⟩
 have hbvn:=h.bvT
 have hV2:VecG (fun b=>b=bv∧s≠.slice none 0 0) (fun b=>(Rin b∨base≤b)∧b<σ1.next∧b≠bo∧b≠bv) σ1 s (es.take q):=by
  rcases hV1 with h|⟨b,cs,ver,h1,h2,h3,h4⟩
  ·exact .inl h
  ·exact .inr ⟨b,cs,ver,h1,h2,⟨h3,by rw[h1];simp⟩,h4⟩
 obtain⟨s',τ,ha,V3,hw3,ch3⟩:=WQ (fun b=>b=bv∧s≠.slice none 0 0) (fun b=>(Rin b∨base≤b)∧b<σ1.next∧b≠bo∧b≠bv) (fun b=>σ1.next≤b) σ1 s (es.take q) e l hw1 hl ho (by rw[List.length_take];omega) hV2 (hL.keep fun b cs hb hc=>⟨hc,by
  have:=hw1.cells hc
  rcases hb with hb|hb
  ·have:=hR b hb
   exact⟨.inl hb,by omega,by omega,l6 b hb⟩
  ·exact⟨.inr (by omega),by omega,by omega,by omega⟩⟩) (fun b hb h=>h.2.2.2 hb.1) (fun b hb=>hb)
 have n3:=ch3.next
 have hboτ:τ.heap.get bo=_:=(ch3.get bo (by omega) (fun h=>l7 h.1.symm)).trans hbo1
 rcases V3 with⟨h0,_⟩|⟨bv',cs,ver',hs',hb',hq',hRow⟩
 ·simp at h0
 have V3:VecG (fun b=>σ1.next≤b) (fun b=>(Rin b∨base≤b)∧b<σ1.next∧b≠bo∧b≠bv) τ s' (es.take q++[e]):=.inr ⟨bv',cs,ver',hs',hb',hq',hRow⟩
 have hone:=V3.one
 have hbv'n:=(hw3 _ _ hb').1
 have hgo:∀b,b<σ.next→b≠bv→b≠bo→(τ.put bo (.cells [.int .i64 k,.int .i64 z,.string t,s'] TD) none).heap.get b=σ.heap.get b:=fun b hb h1 h2=>by
  rw[Am,if_neg h2,ch3.get b (by omega) (fun h=>h1 h.1),hX.get b hb]
 have kc:∀b cs,σ.cells b=some cs→b≠bv→b≠bo→(τ.put bo (.cells [.int .i64 k,.int .i64 z,.string t,s'] TD) none).cells b=some cs:=fun b cs hc h1 h2=>by
  have:=hgo b (h.wf.cells hc) h1 h2
  rw[AG] at hc ⊢
  rw[this];exact hc
 refine⟨s,s',ver,τ,bv',hbo1,hV.one.1,ha,hone.1,hone.2.1,hone.2.2,hboτ,ch3,hq',fun f' e3 e4 e5 e7 e8=>?_⟩
 exact {
     f3:=by rw[e3];exact h.f3
     f4:=by rw[e4];exact h.f4
     f5:=by rw[e5];exact h.f5
     f7:=by rw[e7];exact h.f7
     f8:=e8
     cd:=kc _ _ h.cd (Ne.symm l8) l4
     cx:=kc _ _ h.cx (Ne.symm l9) l5
     cy:=kc _ _ h.cy (Ne.symm l10) l0
     hE:=h.hE.keep fun b cs hb hc=>⟨kc b cs hc (l6 b hb) (by have:=hR b hb;omega),hb⟩
     hx:=h.hx.keep fun b cs hb hc=>⟨kc b cs hc (l6 b hb) (by have:=hR b hb;omega),hb⟩
     hy:=h.hy.keep fun b cs hb hc=>⟨kc b cs hc (l6 b hb) (by have:=hR b hb;omega),hb⟩
     out:=⟨s',τ.clock,by rw[Am,if_pos rfl],by
      have:es.take (q+1)=es.take q++[e]:=by rw[List.take_add_one,he];rfl
      rw[this]
      exact .inr ⟨bv',cs,ver',hs',by rw[Am,if_neg (by omega)];exact hb',rfl,hRow.keep fun b c hb hc=>⟨by rw[Al,if_neg hb.2.2.1];exact hc,hb.1,by rw[Ap];omega,hb.2.2.1,by omega⟩⟩⟩
     lo:=⟨l3,l4,l5,l0,fun b hb=>by have:=hR b hb;omega,by omega,by have:=h.wf.cells h.cd;omega,by have:=h.wf.cells h.cx;omega,by have:=h.wf.cells h.cy;omega⟩
     bvT:=by rw[Ap];omega
     wf:=hw3.put _ _ _ (by omega) }
theorem Alo(m:Nat){Rin:Nat→Prop}{base bd bx bw bo:Nat}{k z:Int}{t:ByteArray}{p:Option Addr}{c:Nat}{ds es:List D}{x y:D}{xv yv:List Value}(hR:∀b,Rin b→b<base)(hds:ds.length<900)(hes:es.length=ds.length)(hx4:xv.length=4)(hy4:yv.length=4)(hO:∀(i:Nat) (d e:D),ds[i]? = some d→es[i]? = some e→∀(lv:List Value) (σ':FState),lv.length=4→Wf σ'→base≤σ'.next→LaidR Rin σ' (.agg lv.toArray) d→LaidR Rin σ' (.agg xv.toArray) x→LaidR Rin σ' (.agg yv.toArray) y→
   Gives ((env m).call 117 [.agg lv.toArray,.agg xv.toArray,.agg yv.toArray] none σ') σ' fun w σ''=>PlR Rin σ'.next e w σ''):
  ∀(j fuel q bv:Nat) (f g:Nat→Value) (σ:FState),ds.length-q=j→j<fuel→q≤ds.length→base≤σ.next→(base≤bv∨∀s ver,σ.heap.get bo=some ⟨.cells [.int .i64 k,.int .i64 z,.string t,s] TD,false,none,ver⟩→s=.slice none 0 0)→RpI Rin base bd bx bw bo bv k z t p c ds es x y xv yv q f σ→
   ∃f' g' σ' bv',floop [40] (Q2 (env m) none 117) fuel (Sl 9 41 f g []) none σ=.done (.exit 0) (Sl 9 41 f' g' []) none σ'∧RpI Rin base bd bx bw bo bv' k z t p c ds es x y xv yv ds.length f' σ'∧f' 6=f 6∧Chg (fun b=>b=bo∨base≤b∧b≠bd∧b≠bx∧b≠bw) σ σ'∧(base≤bv'∨∀s ver,σ'.heap.get bo=some ⟨.cells [.int .i64 k,.int .i64 z,.string t,s] TD,false,none,ver⟩→s=.slice none 0 0):=by
 intro j
 induction j with
 | zero=>
  intro fuel q bv f g σ hj hf hq hb hnil h
  obtain⟨fuel,rfl⟩:∃q,fuel=q+1:=⟨fuel-1,by omega⟩
  obtain rfl:q=ds.length:=by omega
  have d0:decide (Int.ofNat ds.length<Int.ofNat ds.length)=false:=by simp
  rw[Ar]
  unfold Q2
  simp -implicitDefEqProofs only[go_sem,PF,LF,h.f3,h.f8,h.cd,d0]
  exact⟨_,_,_,bv,rfl,h,rfl,Chg.refl _ _,hnil⟩
 | succ j ih=>
  intro fuel q bv f g σ hj hf hq hb hnil h
  obtain⟨fuel,rfl⟩:∃q,fuel=q+1:=⟨fuel-1,by omega⟩
  have hlt:q<ds.length:=by omega
  have d0:decide (Int.ofNat q<Int.ofNat ds.length)=true:=by simp;omega
  have hd:ds[q]? = some ds[q]:=List.getElem?_eq_getElem hlt
  have hlt':q<es.length:=by omega
  have he:es[q]? = some es[q]:=List.getElem?_eq_getElem hlt'
  obtain⟨b,off,cs,rfl,hRb,hcs,hle,hL⟩:=LaidRE.get h.hE hd
  rw[Nat.zero_add] at hle hL
  obtain⟨l4,e4,hl4,ho4⟩:=hL.agg
  have e4':(cs.drop (off+q*4)).take 4=l4:=by
   have:=Value.agg.inj e4
   simpa using congrArg Array.toList this
  rw[e4'] at hL
  have a1:=GH q (by omega)
  have hv:=D0 h.wf (Nat.le_refl σ.clock)
  rw[Ar]
  obtain⟨_,σ2,e2,x2,hw2,ws,rfl,hws,hwo,hLw⟩:=hO q ds[q] es[q] hd he l4 σ hl4 h.wf hb hL h.hx h.hy
  obtain⟨s,s',ver,τ,bv',g1,o1,ha,o2,o3,o4,g2,ch,hbv',hfin⟩:=AoL hR h (by omega) x2 hw2 ws hws hwo es[q] he hLw hb
  have tws:ws.take 4=ws:=List.take_of_length_le (by omega)
  have txv:xv.take 4=xv:=List.take_of_length_le (by omega)
  have tyv:yv.take 4=yv:=List.take_of_length_le (by omega)
  have hvo:(view σ2 σ.clock).cells bo=some [.int .i64 k,.int .i64 z,.string t,s]:=by
   obtain⟨s0,ver0,hbo,_⟩:=h.out
   have h1:=(x2.get bo (h.wf _ _ hbo).1).trans hbo
   rw[g1] at h1
   have h2:=ED h.wf (Nat.le_refl σ.clock) (x2.get bo (h.wf _ _ hbo).1) (AB hbo)
   rw[h2]
   have h3:=congrArg (fun e:Option Ent=>match e with|some ⟨.cells c _,_,_,_⟩=>c|_=>[]) h1
   exact congrArg some h3.symm
  unfold Q2 at ih ⊢
  simp -implicitDefEqProofs only[go_sem,Dl,PF,LF,Acx,RF,Acy,RG,h.f3,h.f4,h.f5,h.f7,h.f8,h.cd,h.cx,h.cy,d0,hv,hlt,hcs,hle,e4',hx4,hy4,txv,tyv,e2,hvo,hws,hwo,tws,ha,o2,g2,a1,Ag,Nat.le_refl]
  generalize hff:upd _ 8 _=f2
  generalize hgg:upd _ 26 _=g2'
  obtain⟨l3,l4',l5,l0,l6,l7,l8,l9,l10⟩:=h.lo
  have n3:=ch.next
  obtain⟨f3,g3,σ4,bv4,e4,h4,h6,C4,hn4⟩:=ih fuel (q+1) bv' f2 g2' (τ.put bo (.cells [.int .i64 k,.int .i64 z,.string t,s'] TD) none) (by omega) (by omega) (by omega) (by rw[Ap];have:=x2.next;omega) (.inl (by have:=x2.next;omega)) (hfin f2 (by rw[←hff];simp -implicitDefEqProofs only[go_sem,reduceCtorEq]) (by rw[←hff];simp -implicitDefEqProofs only[go_sem,reduceCtorEq]) (by rw[←hff];simp -implicitDefEqProofs only[go_sem,reduceCtorEq]) (by rw[←hff];simp -implicitDefEqProofs only[go_sem,reduceCtorEq]) (by rw[←hff];simp -implicitDefEqProofs only[go_sem,reduceCtorEq]))
  refine⟨f3,g3,σ4,bv4,e4,h4,h6.trans (by rw[←hff];simp -implicitDefEqProofs only[go_sem,reduceCtorEq]),(((x2.chg (fun b=>b=bo∨base≤b∧b≠bd∧b≠bx∧b≠bw)).trans ch fun b _ hb=>by
   obtain⟨rfl,hs⟩:=hb
   rcases hnil with h0|h0
   ·exact .inr ⟨h0,l8,l9,l10⟩
   ·exact absurd (h0 s ver ((x2.get bo (h.wf _ _ h.out.choose_spec.choose_spec.1).1).symm.trans g1)) hs).put bo _ _ (.inr (.inl rfl))).trans C4 fun b _ hb=>hb,hn4⟩
end
section
open Go Go.Eng
attribute [local congr] Ab Ah Af Ad Ae
attribute [-go_sem] List.range_succ
theorem Ar5:keepOf nls 117=[40]:=by kernel_rfl
theorem OW(M n N0:Nat)(hM:M=n+2*N0+1)(Rin:Nat→Prop)(x y:D)(xv yv:List Value)(hx4:xv.length=4)(hy4:yv.length=4)(hyo:yv.all oneCell=true)(k z:Int)(t:ByteArray)(ds:List D)(hdd:(D.mk k z t ds).deep≤N0)(hdc:(D.mk k z t ds).count<900)(hO:∀(i:Nat) (d e:D),ds[i]? = some d→(repls x y ds)[i]? = some e→∀(lv:List Value) (base:Nat) (σ':FState),lv.length=4→Wf σ'→(∀b,Rin b→b<base)→base≤σ'.next→LaidR Rin σ' (.agg lv.toArray) d→LaidR Rin σ' (.agg xv.toArray) x→LaidR Rin σ' (.agg yv.toArray) y→
   Gives ((env M).call 117 [.agg lv.toArray,.agg xv.toArray,.agg yv.toArray] none σ') σ' fun w σ''=>PlR Rin σ'.next e w σ'')(lv:List Value)(h4:lv.length=4)(σ:FState)(base:Nat)(hw:Wf σ)(hR:∀b,Rin b→b<base)(hb:base≤σ.next)(hL:LaidR Rin σ (.agg lv.toArray) (.mk k z t ds))(hLx:LaidR Rin σ (.agg xv.toArray) x)(hLy:LaidR Rin σ (.agg yv.toArray) y):
  Gives ((env (M+1)).call 117 [.agg lv.toArray,.agg xv.toArray,.agg yv.toArray] none σ) σ fun w σ'=>PlR Rin σ.next (repl x y (.mk k z t ds)) w σ':=by
 have hL0:=hL
 obtain⟨p,c,hlv,hE⟩:=hL
 have hlv':lv=[.int .i64 k,.int .i64 z,.string t,.slice p ds.length c]:=by
  have:=Value.agg.inj hlv
  simpa using congrArg Array.toList this
 have hds:ds.length<900:=by rw[D.count] at hdc;have:=EU ds;omega
 have txv:xv.take 4=xv:=List.take_of_length_le (by omega)
 have tyv:yv.take 4=yv:=List.take_of_length_le (by omega)
 have tlv:lv.take 4=lv:=List.take_of_length_le (by omega)
 rw[Ak _ 117 _ _ rfl,AeG _ _ _ _ (by simp),Aj]
 unfold ZA
 have x0:Ext σ ((((σ.push (.cells lv TD) none).push (.cells xv TD) none).push (.cells yv TD) none).push (.cells [.int .i64 0,.int .i64 0,.string ⟨#[]⟩,.slice none 0 0] TD) none):=((((Ext.refl _).push _ _).push _ _).push _ _).push _ _
 have hw0:=(((hw.push (.cells lv TD) none).push (.cells xv TD) none).push (.cells yv TD) none).push (.cells [.int .i64 0,.int .i64 0,.string ⟨#[]⟩,.slice none 0 0] TD) none
 have c0:((((σ.push (.cells lv TD) none).push (.cells xv TD) none).push (.cells yv TD) none).push (.cells [.int .i64 0,.int .i64 0,.string ⟨#[]⟩,.slice none 0 0] TD) none).cells σ.next=some lv:=by rw[Ac,if_neg (by simp only[Aa];omega),Ac,if_neg (by simp only[Aa];omega),Ac,if_neg (by rw[Aa];omega),Ac,if_pos rfl];rfl
 have c1:((((σ.push (.cells lv TD) none).push (.cells xv TD) none).push (.cells yv TD) none).push (.cells [.int .i64 0,.int .i64 0,.string ⟨#[]⟩,.slice none 0 0] TD) none).cells (σ.next+1)=some xv:=by rw[Ac,if_neg (by simp only[Aa];omega),Ac,if_neg (by simp only[Aa];omega),Ac,if_pos (by rw[Aa])];rfl
 have c2:((((σ.push (.cells lv TD) none).push (.cells xv TD) none).push (.cells yv TD) none).push (.cells [.int .i64 0,.int .i64 0,.string ⟨#[]⟩,.slice none 0 0] TD) none).cells (σ.next+2)=some yv:=by rw[Ac,if_neg (by simp only[Aa];omega),Ac,if_pos (by simp only[Aa])];rfl
 have g3:((((σ.push (.cells lv TD) none).push (.cells xv TD) none).push (.cells yv TD) none).push (.cells [.int .i64 0,.int .i64 0,.string ⟨#[]⟩,.slice none 0 0] TD) none).heap.get (σ.next+3)=some ⟨.cells [.int .i64 0,.int .i64 0,.string ⟨#[]⟩,.slice none 0 0] TD,false,none,σ.clock+3⟩:=by rw[Ai,if_pos (by simp only[Aa])];rfl
 have n0:((((σ.push (.cells lv TD) none).push (.cells xv TD) none).push (.cells yv TD) none).push (.cells [.int .i64 0,.int .i64 0,.string ⟨#[]⟩,.slice none 0 0] TD) none).next=σ.next+4:=rfl
 simp -implicitDefEqProofs only[go_sem,Acs,RB]
 generalize hff:upd _ 6 _=f1
 have q3:f1 3=.pointer (some ⟨σ.next,0,none⟩):=by rw[←hff];simp -implicitDefEqProofs only[go_sem,reduceCtorEq]
 have q4:f1 4=.pointer (some ⟨σ.next+1,0,none⟩):=by rw[←hff];simp -implicitDefEqProofs only[go_sem,reduceCtorEq]
 have q5:f1 5=.pointer (some ⟨σ.next+2,0,none⟩):=by rw[←hff];simp -implicitDefEqProofs only[go_sem,reduceCtorEq]
 have q6:f1 6=.pointer (some ⟨σ.next+3,0,none⟩):=by rw[←hff];simp -implicitDefEqProofs only[go_sem,reduceCtorEq]
 clear hff
 generalize FState.push _ _ _=σ0 at x0 hw0 c0 c1 c2 g3 n0 ⊢
 obtain⟨_,σ1,e1,x1,hw1,rfl⟩:=AlP n N0 (.mk k z t ds) x lv xv h4 hx4 σ0 hdd (by omega) hw0 (hL0.keep fun b cs hb hc=>⟨(x0.cells (hw.cells hc)).trans hc,hb⟩).laid (hLx.keep fun b cs hb hc=>⟨(x0.cells (hw.cells hc)).trans hc,hb⟩).laid
 have d0:=(x1.cells (hw0.cells c0)).trans c0
 have d1:=(x1.cells (hw0.cells c1)).trans c1
 have d2:=(x1.cells (hw0.cells c2)).trans c2
 have g3':=(x1.get _ (hw0 _ _ g3).1).trans g3
 have m3:=(hw1 _ _ g3').1
 have X1:=x0.trans x1
 have n1:=x1.next
 cases hs:D.same (.mk k z t ds) x with
 | true=>
  rw[hs] at e1
  rw[repl,if_pos hs]
  rw[←hM] at e1
  simp -implicitDefEqProofs only[go_sem,Aw,PE,LD,Acu,RC,q3,q4,q5,q6,c0,c1,d2,h4,hx4,hy4,tlv,txv,tyv,hyo,e1,g3',BJ,Bj,AX,AP,A0,Nat.le_refl]
  exact⟨_,_,rfl,X1.put _ _ _ (by omega),hw1.put _ _ _ m3,yv,rfl,hy4,hyo,hLy.keep fun b cs hb' hc=>⟨by rw[Al,if_neg (by have:=hR b hb';omega)];exact(X1.cells (hw.cells hc)).trans hc,.inl hb'⟩⟩
 | false=>
  rw[hs] at e1
  rw[repl,if_neg (by rw[hs];simp)]
  rw[←hM] at e1
  subst hlv'
  have hes:(repls x y ds).length=ds.length:=TW x y ds
  simp -implicitDefEqProofs only[go_sem,Aw,PE,LD,Acv,RD,Acw,RE,q3,q4,c0,c1,d0,hx4,txv,e1,Ar5,Ag,Bool.false_eq_true]
  generalize hff:upd _ 8 _=f2
  generalize hgg:upd _ 19 _=gg
  generalize hbf:bigFuel=fuel
  have x3:Ext σ1 ((σ1.push (.cells [.int .i64 0,.int .i64 0,.string ⟨#[]⟩,.slice none 0 0] TD) none).put σ1.next (.cells [.int .i64 k,.int .i64 z,.string t,.slice none 0 0] TD) none):=((Ext.refl _).push _ _).put _ _ _ (Nat.le_refl _)
  have hw3:=(hw1.push (.cells [.int .i64 0,.int .i64 0,.string ⟨#[]⟩,.slice none 0 0] TD) none).put σ1.next (.cells [.int .i64 k,.int .i64 z,.string t,.slice none 0 0] TD) none (Nat.lt_succ_self _)
  have go:∃ver,((σ1.push (.cells [.int .i64 0,.int .i64 0,.string ⟨#[]⟩,.slice none 0 0] TD) none).put σ1.next (.cells [.int .i64 k,.int .i64 z,.string t,.slice none 0 0] TD) none).heap.get σ1.next=some ⟨.cells [.int .i64 k,.int .i64 z,.string t,.slice none 0 0] TD,false,none,ver⟩:=⟨_,by rw[Am,if_pos rfl]⟩
  have n3:((σ1.push (.cells [.int .i64 0,.int .i64 0,.string ⟨#[]⟩,.slice none 0 0] TD) none).put σ1.next (.cells [.int .i64 k,.int .i64 z,.string t,.slice none 0 0] TD) none).next=σ1.next+1:=rfl
  generalize FState.put _ σ1.next _ _=σ3 at x3 hw3 go n3 ⊢
  obtain⟨vo,go⟩:=go
  have X3:=X1.trans x3
  obtain⟨f3,g3x,σ4,bv4,e4,H,h6,C4,hnil⟩:=Alo M (Rin:=Rin) (base:=σ1.next) (bd:=σ.next) (bx:=σ.next+1) (bw:=σ.next+2) (bo:=σ1.next) (k:=k) (z:=z) (t:=t) (p:=p) (c:=c) (ds:=ds) (es:=repls x y ds) (x:=x) (y:=y) (xv:=xv) (yv:=yv) (fun b hb'=>by have:=hR b hb';omega) hds hes hx4 hy4
   (fun i d e hd he lv σ' h4 hw' hb' hL' hLx' hLy'=>hO i d e hd he lv σ1.next σ' h4 hw' (fun b hb''=>by have:=hR b hb'';omega) hb' hL' hLx' hLy')
   ds.length fuel 0 (σ.next+3) f2 gg σ3 (by omega) (by rw[←hbf];show ds.length<1000000000000;omega) (by omega) (by omega) (.inr fun s ver hs=>by
    rw[go] at hs
    have:=congrArg (fun e:Option Ent=>match e with|some ⟨.cells [_,_,_,s] _,_,_,_⟩=>s|_=>.nilIface) hs
    exact this.symm)
   {f3:=by rw[←hff];simp -implicitDefEqProofs only[go_sem,reduceCtorEq,q3]
    f4:=by rw[←hff];simp -implicitDefEqProofs only[go_sem,reduceCtorEq,q4]
    f5:=by rw[←hff];simp -implicitDefEqProofs only[go_sem,reduceCtorEq,q5]
    f7:=by rw[←hff];simp -implicitDefEqProofs only[go_sem,reduceCtorEq]
    f8:=by rw[←hff];simp -implicitDefEqProofs only[go_sem,reduceCtorEq]<;>rfl
    cd:=(x3.cells (hw1.cells d0)).trans d0
    cx:=(x3.cells (hw1.cells d1)).trans d1
    cy:=(x3.cells (hw1.cells d2)).trans d2
    hE:=hE.keep fun b cs hb' hc=>⟨(X3.cells (hw.cells hc)).trans hc,hb'⟩
    hx:=hLx.keep fun b cs hb' hc=>⟨(X3.cells (hw.cells hc)).trans hc,hb'⟩
    hy:=hLy.keep fun b cs hb' hc=>⟨(X3.cells (hw.cells hc)).trans hc,hb'⟩
    out:=⟨_,vo,go,.inl ⟨by simp,rfl⟩⟩
    lo:=⟨Nat.le_refl _,by omega,by omega,by omega,fun b hb'=>by have:=hR b hb';omega,by omega,by omega,by omega,by omega⟩
    bvT:=by omega
    wf:=hw3 }
  rw[e4]
  obtain⟨s,ver,hbo,hV⟩:=H.out
  rw[List.take_of_length_le (by omega)] at hV
  obtain⟨p2,hs2,hE2⟩:=hV.slice
  rw[hes] at hs2
  subst hs2
  have cbo:=AB hbo
  have gbr:=(C4.get (σ.next+3) (by omega) (by omega)).trans ((x3.get _ (by omega)).trans g3')
  have n4:=C4.next
  have q6':f2 6=.pointer (some ⟨σ.next+3,0,none⟩):=by rw[←hff];simp -implicitDefEqProofs only[go_sem,reduceCtorEq,q6]
  simp -implicitDefEqProofs only[go_sem,Aw,Acz,RH,h6,q6',H.f7,cbo,gbr,BJ,Bj,AX,AP,A0]
  have x4:Ext σ σ4:=((X3.chg (fun b=>σ.next≤b)).trans C4 fun b hb' h=>by omega).ext fun b hb' h=>by omega
  refine⟨_,_,rfl,x4.put _ _ _ (by omega),H.wf.put _ _ _ (by omega),[.int .i64 k,.int .i64 z,.string t,.slice p2 ds.length ds.length],rfl,rfl,rfl,?_⟩
  by_cases hz:ds.length=0
  ·have hd0:ds=[]:=List.length_eq_zero_iff.1 hz
   subst hd0
   exact⟨p2,0,by rw[repls];rfl,by rw[repls];trivial⟩
  have hbv:σ1.next≤bv4:=by
   rcases hnil with h|h
   ·exact h
   ·have:=h _ _ hbo
    simp only[Value.slice.injEq] at this
    omega
  refine⟨p2,ds.length,by rw[hes],hE2.keep fun b cs hb' hc=>⟨?_,?_⟩⟩
  ·rw[Al,if_neg (fun hh=>by
    rcases hb' with h|h
    ·omega
    ·rcases h.1 with h|h
     ·have:=hR b h
      omega
     ·omega)];exact hc
  ·rcases hb' with h|h
   ·exact .inr (by omega)
   ·rcases h.1 with h|h
    ·exact .inl h
    ·exact .inr (by omega)
theorem AdO(x y:D){ds:List D}{i:Nat}{d e:D}(hd:ds[i]? = some d)(he:(repls x y ds)[i]? = some e):e=repl x y d:=by
 rw[IC,List.getElem?_map,hd] at he
 exact(Option.some.inj he).symm
theorem N7(n N0:Nat)(Rin:Nat→Prop)(x y:D)(xv yv:List Value)(hx4:xv.length=4)(hy4:yv.length=4)(hyo:yv.all oneCell=true):∀(N:Nat) (d:D),d.deep≤N→N≤N0→d.count<900→∀(lv:List Value) (base:Nat) (σ:FState),lv.length=4→Wf σ→(∀b,Rin b→b<base)→base≤σ.next→LaidR Rin σ (.agg lv.toArray) d→LaidR Rin σ (.agg xv.toArray) x→LaidR Rin σ (.agg yv.toArray) y→
  Gives ((env (n+2*N0+1+N)).call 117 [.agg lv.toArray,.agg xv.toArray,.agg yv.toArray] none σ) σ fun w σ'=>PlR Rin σ.next (repl x y d) w σ':=by
 intro N
 induction N with
 | zero=>
  intro d hN
  obtain⟨k,z,t,ds⟩:=d
  rw[D.deep] at hN
  omega
 | succ N ih=>
  intro d hN hN0 hc lv base σ h4 hw hR hb hL hLx hLy
  obtain⟨k,z,t,ds⟩:=d
  have hdc:=hc
  have hdN:(D.mk k z t ds).deep≤N0:=by omega
  rw[D.count] at hc
  rw[D.deep] at hN
  exact OW (n+2*N0+1+N) (n+N) N0 (by omega) Rin x y xv yv hx4 hy4 hyo k z t ds hdN hdc (fun i d e hdi hei lv base σ' h4 hw' hR hb hL hLx hLy=>by
   rw[AdO x y hdi hei]
   exact ih d (by have:=Eo (List.mem_of_getElem? hdi);omega) (by omega) (by have:=GK (List.mem_of_getElem? hdi);omega) lv base σ' h4 hw' hR hb hL hLx hLy) lv h4 σ base hw hR hb hL hLx hLy
end
section
open Go Go.Eng
attribute [local congr] Ab Ah Af Ad Ae
attribute [-go_sem] List.range_succ
def twoE(d e:D):Nat:=if firstE d=0 then firstE e else firstE d
def cmpR(d e:D):Value:=if twoE d e=0 then .tuple #[.int .i64 (ordU d e),.int .i64 0] else .tuple #[.int .i64 0,.int .i64 (twoE d e:Nat)]
end
section
open Go Go.Eng
attribute [local congr] Ab Ah Af Ad Ae
attribute [-go_sem] List.range_succ
mutual
def apartP:D→D→Option (List Nat)
 | .mk k z t ds,.mk k' z' t' es=>if likeD (.mk k z t ds) (.mk k' z' t' es) then apartPs 0 ds es else some []
def apartPs(i:Nat):List D→List D→Option (List Nat)
 | d::ds,e::es=>match apartP d e with
  | some p=>some (i::p)
  | none=>apartPs (i+1) ds es
 | [],_=>none
 | _::_,[]=>none
end
def SplitAt(P:List Nat)(A B:List (List Nat×D)):Prop:=∃pre pre' x y ra rb,A=pre++(P,x)::ra∧B=pre'++(P,y)::rb∧Agree pre pre'∧likeD x y=false
mutual
theorem Qw(p:List Nat):∀d e:D,(apartP d e=none∧d=e)∨∃q,apartP d e=some q∧SplitAt (p++q) (d.pieces p) (e.pieces p)
 | .mk k z t ds,.mk k' z' t' es=>by
  rw[apartP]
  cases h:likeD (.mk k z t ds) (.mk k' z' t' es) with
  | false=>exact .inr ⟨[],by simp,[],[],_,_,_,_,by rw[D.pieces,List.append_nil];rfl,by rw[D.pieces,List.append_nil];rfl,.nil,h⟩
  | true=>
   rw[if_pos rfl]
   have h':=h
   simp only[likeD,Bool.and_eq_true,beq_iff_eq] at h'
   obtain⟨⟨⟨h1,h2⟩,h3⟩,h4⟩:=h'
   have h5:=toList_inj h3
   subst h1 h2 h5
   rcases IP p ds es 0 (Int.ofNat.inj h4) with⟨e0,rfl⟩|⟨q,e0,pre,pre',x,y,ra,rb,e1,e2,e3,e4⟩
   ·exact .inl ⟨e0,rfl⟩
   ·exact .inr ⟨q,e0,(p,.mk k z t ds)::pre,(p,.mk k z t es)::pre',x,y,ra,rb,by rw[D.pieces,e1];rfl,by rw[D.pieces,e2];rfl,.cons rfl h e3,e4⟩
theorem IP(p:List Nat):∀(ds es:List D) (i:Nat),ds.length=es.length→(apartPs i ds es=none∧ds=es)∨∃q,apartPs i ds es=some q∧SplitAt (p++q) (D.piecesL p i ds) (D.piecesL p i es)
 | [],[],_,_=>.inl ⟨by rw[apartPs],rfl⟩
 | [],_::_,_,h=>by simp at h
 | _::_,[],_,h=>by simp at h
 | d::ds,e::es,i,h=>by
  rw[apartPs]
  rcases Qw (p++[i]) d e with⟨e0,rfl⟩|⟨q,e0,pre,pre',x,y,ra,rb,e1,e2,e3,e4⟩
  ·rw[e0]
   rcases IP p ds es (i+1) (by simpa using h) with⟨e0,rfl⟩|⟨q,e0,pre,pre',x,y,ra,rb,e1,e2,e3,e4⟩
   ·exact .inl ⟨e0,rfl⟩
   ·exact .inr ⟨q,e0,d.pieces (p++[i])++pre,d.pieces (p++[i])++pre',x,y,ra,rb,by rw[D.piecesL,e1,List.append_assoc],by rw[D.piecesL,e2,List.append_assoc],(Agree.refl _).append e3,e4⟩
  ·rw[e0]
   rw[List.append_assoc,List.singleton_append] at e1 e2
   exact .inr ⟨i::q,rfl,pre,pre',x,y,ra++D.piecesL p (i+1) ds,rb++D.piecesL p (i+1) es,by rw[D.piecesL,e1,List.append_assoc,List.cons_append],by rw[D.piecesL,e2,List.append_assoc,List.cons_append],e3,e4⟩
end
def DifOk(d e:D)(S:Nat→Prop)(σ:FState)(w:Value):Prop:=
 if twoE d e=0 then match apartP d e with
  | some p=>∃u,w=.tuple #[u,.int .i64 0]∧PathV S σ u p
  | none=>w=.tuple #[.slice none 0 0,.int .i64 10]
 else w=.tuple #[.slice none 0 0,.int .i64 (twoE d e:Nat)]
end
section
open Go Go.Eng
variable (E:Env) (ro:Option Nat) (last:List Nat→RunF) (cl:List Nat) (a:FAct) (u:Option FrameMode) (σ:FState)
end
section
open Go Go.Eng
attribute [local congr] Ab Ah Af Ad Ae
attribute [-go_sem] List.range_succ
def signV(lt eq:Bool):Int:=if eq then 0 else if lt then -1 else 1
end
section
open Go Go.Eng
attribute [local congr] Ab Ah Af Ad Ae
attribute [-go_sem] List.range_succ
end
section
open Go Go.Eng
attribute [local congr] Ab Ah Af Ad Ae
attribute [-go_sem] List.range_succ
mutual
theorem WW:∀(d e:D) (q:List Nat),apartP d e=some q→q.length<d.deep
 | .mk k z t ds,.mk k' z' t' es,q,h=>by
  rw[apartP] at h
  rw[D.deep]
  cases hl:likeD (.mk k z t ds) (.mk k' z' t' es) with
  | false=>
   rw[hl] at h
   cases h
   simp
  | true=>
   rw[hl,if_pos rfl] at h
   have:=K0 ds es 0 q h
   omega
theorem K0:∀(ds es:List D) (i:Nat) (q:List Nat),apartPs i ds es=some q→q.length<D.deeps ds+1
 | [],es,i,q,h=>by cases es<;>simp[apartPs] at h
 | d::ds,[],i,q,h=>by simp[apartPs] at h
 | d::ds,e::es,i,q,h=>by
  rw[apartPs] at h
  rw[D.deeps]
  cases ha:apartP d e with
  | none=>
   rw[ha] at h
   have:=K0 ds es (i+1) q h
   omega
  | some p=>
   rw[ha] at h
   cases h
   have:=WW d e p ha
   simp
   omega
end
def ApOk(d e:D)(S:Nat→Prop)(σ:FState)(w:Value):Prop:=
 match apartP d e with
 | some p=>∃u,w=.tuple #[u,.bool true]∧PathV S σ u p
 | none=>w=.tuple #[.slice none 0 0,.bool false]
end
section
open Go Go.Eng
attribute [local congr] Ab Ah Af Ad Ae
attribute [-go_sem] List.range_succ
section
variable (M n N:Nat) (hM:M=n+4+N) (d e:D) (hdN:d.deep≤N) (heN:e.deep≤N) (hN:N<10000) (hd:d.count<900) (he:e.count<900) (lv mv:List Value) (h4:lv.length=4) (hm4:mv.length=4) (σ:FState) (hw:Wf σ) (hL:LaidR (fun b=>b<σ.next) σ (.agg lv.toArray) d) (hLe:LaidR (fun b=>b<σ.next) σ (.agg mv.toArray) e)
include hM hdN heN hd he h4 hm4 hw hL hLe
theorem Ad3:Gives ((env (M+3)).call 83 [.agg lv.toArray,.agg mv.toArray] none σ) σ fun r _=>r=.int .i64 (twoE d e:Nat):=by
 have ht:lv.take 4=lv:=List.take_of_length_le (by omega)
 have htm:mv.take 4=mv:=List.take_of_length_le (by omega)
 rw[Ak _ 83 _ _ rfl,Ant _ _ _ _ (by simp),Aj]
 unfold AlL
 have x1:Ext σ ((σ.push (.cells lv TD) none).push (.cells mv TD) none):=((Ext.refl _).push _ _).push _ _
 have hw1:=(hw.push (.cells lv TD) none).push (.cells mv TD) none
 have c1:((σ.push (.cells lv TD) none).push (.cells mv TD) none).cells σ.next=some lv:=by rw[Ac,if_neg (by rw[Aa];omega),Ac,if_pos rfl];rfl
 have c2:((σ.push (.cells lv TD) none).push (.cells mv TD) none).cells (σ.next+1)=some mv:=by rw[Ac,if_pos (by rw[Aa])];rfl
 obtain⟨_,σ2,e2,x2,hw2,rfl⟩:=Hl (fun b=>b<σ.next) d lv h4 _ hw1 (hL.keep fun b cs hb hc=>⟨(x1.cells hb).trans hc,hb⟩) M n N hM hdN (by omega)
 have d2:=(x2.cells (hw1.cells c2)).trans c2
 have X2:=x1.trans x2
 unfold twoE
 by_cases h1:firstE d=0
 ·obtain⟨_,σ3,e3,x3,hw3,rfl⟩:=Hl (fun b=>b<σ.next) e mv hm4 σ2 hw2 (hLe.keep fun b cs hb hc=>⟨(X2.cells hb).trans hc,hb⟩) M n N hM heN (by omega)
  have z0:(((firstE d:Nat):Int)==0)=true:=by rw[h1];rfl
  simp -implicitDefEqProofs only[go_sem,Wn,TF,Wo,TG,Wp,TH,Ak4,Zg,c1,h4,hm4,ht,htm,e2,z0,d2,e3,Ag,Nat.le_refl]
  exact⟨_,_,rfl,X2.trans x3,hw3,by simp[h1]⟩
 ·have z0:(((firstE d:Nat):Int)==0)=false:=by simp;omega
  simp -implicitDefEqProofs only[go_sem,Wn,TF,Wo,TG,Wp,TH,Ak3,Zf,c1,h4,hm4,ht,htm,e2,z0,Ag,Nat.le_refl]
  exact⟨_,_,rfl,X2,hw2,by simp[h1]⟩
include hN
end
end
section
open Go Go.Eng
attribute [local congr] Ab Ah Af Ad Ae
attribute [-go_sem] List.range_succ
def bigE(d:D):Nat:=if d.count≤2000 then 0 else 8
section
variable (M n:Nat) (hM:M=n+2001) (R:Nat→Prop) (d:D) (lv:List Value) (h4:lv.length=4) (σ:FState) (hw:Wf σ) (hL:LaidR R σ (.agg lv.toArray) d)
include hM h4 hw hL
theorem Vu:Gives ((env (M+1)).call 82 [.agg lv.toArray] none σ) σ fun r _=>r=.int .i64 (bigE d:Nat):=by
 have ht:lv.take 4=lv:=List.take_of_length_le (by omega)
 rw[Ak _ 82 _ _ rfl,Aaf _ _ _ _ (by simp),Aj]
 unfold Aa8
 have x1:Ext σ (σ.push (.cells lv TD) none):=(Ext.refl _).push _ _
 have hw1:=hw.push (.cells lv TD) none
 have c1:(σ.push (.cells lv TD) none).cells σ.next=some lv:=by rw[Ac,if_pos rfl];rfl
 obtain⟨_,σ2,e2,x2,hw2,rfl⟩:=Afd n R 2000 2000 d (Nat.le_refl _) (by omega) (.agg lv.toArray) _ hw1 (hL.keep fun b cs hb hc=>⟨(x1.cells (hw.cells hc)).trans hc,hb⟩)
 rw[show n+2000+1=M by omega] at e2
 have e2':(env M).call 52 [.agg lv.toArray,.int .i64 2000] none (σ.push (.cells lv TD) none)=_:=e2
 unfold bigE
 by_cases h:d.count≤2000
 ·have d0:decide (Int.ofNat (min d.count (2000+1))>2000)=false:=by
   simp only[Int.ofNat_eq_natCast,decide_eq_false_iff_not]
   omega
  generalize hq:min d.count (2000+1)=qq at *
  simp -implicitDefEqProofs only[go_sem,NV,NU,NX,NW,Wm,TE,h4,ht,e2',d0,Ag,Nat.le_refl]
  exact⟨_,_,rfl,x1.trans x2,hw2,by simp[h]⟩
 ·have d0:decide (Int.ofNat (min d.count (2000+1))>2000)=true:=by
   simp only[Int.ofNat_eq_natCast,decide_eq_true_eq]
   omega
  generalize hq:min d.count (2000+1)=qq at *
  simp -implicitDefEqProofs only[go_sem,NV,NU,NX,NW,Ak2,Ze,h4,ht,e2',d0,Ag,Nat.le_refl]
  exact⟨_,_,rfl,x1.trans x2,hw2,by simp[h]⟩
theorem Xw(ho:lv.all oneCell=true):Gives ((env (M+2)).call 84 [.agg lv.toArray] none σ) σ fun r σ'=>r=.tuple #[if d.count≤2000 then .agg lv.toArray else .agg #[.int .i64 0,.int .i64 0,.string ⟨#[]⟩,.slice none 0 0],.int .i64 (bigE d:Nat)]:=by
 have ht:lv.take 4=lv:=List.take_of_length_le (by omega)
 rw[Ak _ 84 _ _ rfl,Anu _ _ _ _ (by simp),Aj]
 unfold AlM
 have x1:Ext σ ((σ.push (.cells lv TD) none).push (.cells [.int .i64 0,.int .i64 0,.string ⟨#[]⟩,.slice none 0 0] TD) none):=((Ext.refl _).push _ _).push _ _
 have hw1:=(hw.push (.cells lv TD) none).push (.cells [.int .i64 0,.int .i64 0,.string ⟨#[]⟩,.slice none 0 0] TD) none
 have c1:((σ.push (.cells lv TD) none).push (.cells [.int .i64 0,.int .i64 0,.string ⟨#[]⟩,.slice none 0 0] TD) none).cells σ.next=some lv:=by rw[Ac,if_neg (by rw[Aa];omega),Ac,if_pos rfl];rfl
 have g2:((σ.push (.cells lv TD) none).push (.cells [.int .i64 0,.int .i64 0,.string ⟨#[]⟩,.slice none 0 0] TD) none).heap.get (σ.next+1)=some ⟨.cells [.int .i64 0,.int .i64 0,.string ⟨#[]⟩,.slice none 0 0] TD,false,none,σ.clock+1⟩:=by rw[Ai,if_pos (by rw[Aa])];rfl
 obtain⟨_,σ2,e2,x2,hw2,rfl⟩:=Vu M n hM R d lv h4 _ hw1 (hL.keep fun b cs hb hc=>⟨(x1.cells (hw.cells hc)).trans hc,hb⟩)
 have c2:=(x2.cells (hw1.cells c1)).trans c1
 have g3:=(x2.get (σ.next+1) (hw1 _ _ g2).1).trans g2
 have m3:=(hw2 _ _ g3).1
 by_cases h:d.count≤2000
 ·have z0:(((bigE d:Nat):Int)==0)=true:=by unfold bigE;rw[if_pos h];rfl
  have b0:bigE d=0:=by unfold bigE;rw[if_pos h]
  rw[if_pos h]
  simp -implicitDefEqProofs only[go_sem,Aw,Wq,TJ,Ws,TK,Wt,TM,Ak6,Zi,h4,ht,e2,z0,c2,g3,ho,BJ,Ag,Bj,AX,AP,A0,DZ,Nat.le_refl]
  exact⟨_,_,rfl,(x1.trans x2).put _ _ _ (by omega),hw2.put _ _ _ m3,by rw[b0];rfl⟩
 ·have z0:(((bigE d:Nat):Int)==0)=false:=by unfold bigE;rw[if_neg h];rfl
  rw[if_neg h]
  simp -implicitDefEqProofs only[go_sem,Aw,Wq,TJ,Ws,TK,Wt,TM,Ak5,Zh,h4,ht,e2,z0,c2,g3,BJ,Ag,Bj,AX,AP,A0,DZ,Nat.le_refl]
  exact⟨_,_,rfl,(x1.trans x2).put _ _ _ (by omega),hw2.put _ _ _ m3,rfl⟩
end
theorem OV(M n n2 n3:Nat)(hM:M+2=n+2001)(hM2:M+1=n2+4+150)(hM3:M+4=n3+2*150+1+150)(d x y:D)(hc:d.count≤150)(hcx:x.count≤150)(hcy:y.count≤150)(lv xv yv:List Value)(h4:lv.length=4)(hx4:xv.length=4)(hy4:yv.length=4)(σ:FState)(hw:Wf σ)(hL:LaidR (fun b=>b<σ.next) σ (.agg lv.toArray) d)(hLx:LaidR (fun b=>b<σ.next) σ (.agg xv.toArray) x)(hLy:LaidR (fun b=>b<σ.next) σ (.agg yv.toArray) y):
  Gives ((env (M+5)).call 50 [.agg lv.toArray,.agg xv.toArray,.agg yv.toArray] none σ) σ fun w σ'=>ReplOk d x y (fun b=>b<σ'.next) σ' w:=by
 have ht:lv.take 4=lv:=List.take_of_length_le (by omega)
 have htx:xv.take 4=xv:=List.take_of_length_le (by omega)
 have hty:yv.take 4=yv:=List.take_of_length_le (by omega)
 have dd:=Dh d
 have dx:=Dh x
 have dy:=Dh y
 rw[Ak _ 50 _ _ rfl,Anh _ _ _ _ (by simp),Aj]
 unfold Alz
 have x1:Ext σ ((((σ.push (.cells lv TD) none).push (.cells xv TD) none).push (.cells yv TD) none).push (.cells [.int .i64 0,.int .i64 0,.string ⟨#[]⟩,.slice none 0 0] TD) none):=((((Ext.refl _).push _ _).push _ _).push _ _).push _ _
 have hw1:=(((hw.push (.cells lv TD) none).push (.cells xv TD) none).push (.cells yv TD) none).push (.cells [.int .i64 0,.int .i64 0,.string ⟨#[]⟩,.slice none 0 0] TD) none
 have c1:((((σ.push (.cells lv TD) none).push (.cells xv TD) none).push (.cells yv TD) none).push (.cells [.int .i64 0,.int .i64 0,.string ⟨#[]⟩,.slice none 0 0] TD) none).cells σ.next=some lv:=by rw[Ac,if_neg (by simp only[Aa];omega),Ac,if_neg (by simp only[Aa];omega),Ac,if_neg (by rw[Aa];omega),Ac,if_pos rfl];rfl
 have c2:((((σ.push (.cells lv TD) none).push (.cells xv TD) none).push (.cells yv TD) none).push (.cells [.int .i64 0,.int .i64 0,.string ⟨#[]⟩,.slice none 0 0] TD) none).cells (σ.next+1)=some xv:=by rw[Ac,if_neg (by simp only[Aa];omega),Ac,if_neg (by simp only[Aa];omega),Ac,if_pos (by rw[Aa])];rfl
 have c3:((((σ.push (.cells lv TD) none).push (.cells xv TD) none).push (.cells yv TD) none).push (.cells [.int .i64 0,.int .i64 0,.string ⟨#[]⟩,.slice none 0 0] TD) none).cells (σ.next+2)=some yv:=by rw[Ac,if_neg (by simp only[Aa];omega),Ac,if_pos (by simp only[Aa])];rfl
 have g4:((((σ.push (.cells lv TD) none).push (.cells xv TD) none).push (.cells yv TD) none).push (.cells [.int .i64 0,.int .i64 0,.string ⟨#[]⟩,.slice none 0 0] TD) none).heap.get (σ.next+3)=some ⟨.cells [.int .i64 0,.int .i64 0,.string ⟨#[]⟩,.slice none 0 0] TD,false,none,σ.clock+3⟩:=by rw[Ai,if_pos (by simp only[Aa])];rfl
 simp -implicitDefEqProofs only[go_sem,Aki,YD]
 generalize hff:upd _ 7 _=f1
 have q3:f1 3=.pointer (some ⟨σ.next,0,none⟩):=by rw[←hff];simp -implicitDefEqProofs only[go_sem,reduceCtorEq]
 have q4:f1 4=.pointer (some ⟨σ.next+1,0,none⟩):=by rw[←hff];simp -implicitDefEqProofs only[go_sem,reduceCtorEq]
 have q5:f1 5=.pointer (some ⟨σ.next+2,0,none⟩):=by rw[←hff];simp -implicitDefEqProofs only[go_sem,reduceCtorEq]
 have q6:f1 6=.pointer (some ⟨σ.next+3,0,none⟩):=by rw[←hff];simp -implicitDefEqProofs only[go_sem,reduceCtorEq]
 clear hff
 generalize FState.push _ _ _=σ0 at x1 hw1 c1 c2 c3 g4 ⊢
 have st:∀ {τ:FState},Ext σ τ→∀ {v:Value} {d:D},LaidR (fun b=>b<σ.next) σ v d→LaidR (fun b=>b<τ.next) τ v d:=fun hX v d h=>h.keep fun b cs hb hc=>⟨(hX.cells hb).trans hc,by have:=hX.next;omega⟩
 obtain⟨_,σ2,e2,x2,hw2,rfl⟩:=Ad3 (M+1) n2 150 hM2 d x (by omega) (by omega) (by omega) (by omega) lv xv h4 hx4 σ0 hw1 (st x1 hL) (st x1 hLx)
 have X2:=x1.trans x2
 have d1:=(x2.cells (hw1.cells c1)).trans c1
 have d2:=(x2.cells (hw1.cells c2)).trans c2
 have d3:=(x2.cells (hw1.cells c3)).trans c3
 have g42:=(x2.get _ (hw1 _ _ g4).1).trans g4
 have m2:=(hw2 _ _ g42).1
 by_cases h1:twoE d x=0
 ·have z0:(((twoE d x:Nat):Int)==0)=true:=by rw[h1];rfl
  have e0:firstE d=0∧firstE x=0:=by
   unfold twoE at h1
   by_cases h:firstE d=0
   ·rw[if_pos h] at h1;exact⟨h,h1⟩
   ·rw[if_neg h] at h1;exact absurd h1 h
  obtain⟨_,σ3,e3,x3,hw3,rfl⟩:=Hl _ y yv hy4 σ2 hw2 (st X2 hLy) (M+2) (n2+1) 150 (by omega) (by omega) (by omega)
  have X3:=X2.trans x3
  have k1:=(x3.cells (hw2.cells d1)).trans d1
  have k2:=(x3.cells (hw2.cells d2)).trans d2
  have k3:=(x3.cells (hw2.cells d3)).trans d3
  have g43:=(x3.get _ m2).trans g42
  have m3:=(hw3 _ _ g43).1
  by_cases hy:firstE y=0
  ·have z1:(((firstE y:Nat):Int)==0)=true:=by rw[hy];rfl
   obtain⟨ly,rl1,hly4,hlyo⟩:=hLy.agg
   have hyo:yv.all oneCell=true:=by
    have:=congrArg (fun v=>match v with|Value.agg a=>a.toList|_=>[]) rl1
    simp at this
    rw[this];exact hlyo
   obtain⟨_,σ4,e4,x4,hw4,ws,rfl,hws,hwo,hLw⟩:=N7 n3 150 (fun b=>b<σ.next) x y xv yv hx4 hy4 hyo 150 d (by omega) (by omega) (by omega) lv σ.next σ3 h4 hw3 (fun b hb=>hb) X3.next (hL.keep fun b cs hb hc=>⟨(X3.cells hb).trans hc,hb⟩) (hLx.keep fun b cs hb hc=>⟨(X3.cells hb).trans hc,hb⟩) (hLy.keep fun b cs hb hc=>⟨(X3.cells hb).trans hc,hb⟩)
   rw[←hM3] at e4
   have X4:=X3.trans x4
   have tws:ws.take 4=ws:=List.take_of_length_le (by omega)
   have hLw':LaidR (fun b=>b<σ4.next) σ4 (.agg ws.toArray) (repl x y d):=hLw.keep fun b cs hb hc=>⟨hc,hw4.cells hc⟩
   obtain⟨_,σ5,e5,x5,hw5,rfl⟩:=Xw (M+2) n hM _ (repl x y d) ws hws σ4 hw4 hLw' hwo
   have g45:=(x5.get _ (by have:=x4.next;omega)).trans ((x4.get _ m3).trans g43)
   have m5:=(hw5 _ _ g45).1
   have t0:threeE d x y=bigE (repl x y d):=by unfold threeE bigE;rw[if_pos e0.1,if_pos e0.2,if_pos hy]
   by_cases hz:(repl x y d).count≤2000
   ·rw[if_pos hz] at e5
    have b0:bigE (repl x y d)=0:=by unfold bigE;rw[if_pos hz]
    simp -implicitDefEqProofs only[go_sem,Aw,Ka,KQ,Kb,KR,NA,Nz,NC,NB,V0,Th,q3,q4,q5,q6,c1,c2,h4,hx4,hy4,ht,htx,hty,e2,z0,d3,e3,z1,k1,k2,k3,e4,e5,g45,hws,hwo,tws,BJ,Ag,Bj,AX,AP,A0,DZ,Nat.le_refl]
    refine⟨_,_,rfl,(X4.trans x5).put _ _ _ (by omega),hw5.put _ _ _ m5,_,by rw[t0],?_⟩
    unfold resT
    rw[t0,b0,if_pos rfl]
    exact hLw.keep fun b cs hb hc=>⟨by rw[Al,if_neg (by omega)];exact(x5.cells (hw4.cells hc)).trans hc,by rw[Ap];have:=x5.next;have:=hw4.cells hc;omega⟩
   ·rw[if_neg hz] at e5
    have b0:bigE (repl x y d)≠0:=by unfold bigE;rw[if_neg hz];omega
    simp -implicitDefEqProofs only[go_sem,Aw,Ka,KQ,Kb,KR,NA,Nz,NC,NB,V0,Th,q3,q4,q5,q6,c1,c2,h4,hx4,hy4,ht,htx,hty,e2,z0,d3,e3,z1,k1,k2,k3,e4,e5,g45,hws,hwo,tws,BJ,Ag,Bj,AX,AP,A0,DZ,Nat.le_refl]
    exact⟨_,_,rfl,(X4.trans x5).put _ _ _ (by omega),hw5.put _ _ _ m5,_,by rw[t0],by unfold resT;rw[t0,if_neg b0];exact II _ _⟩
  ·have z1:(((firstE y:Nat):Int)==0)=false:=by simp;omega
   simp -implicitDefEqProofs only[go_sem,Aw,Ka,KQ,Kb,KR,NA,Nz,NC,NB,Akk,YF,q3,q4,q5,q6,c1,c2,h4,hx4,hy4,ht,htx,hty,e2,z0,d3,e3,z1,g43,BJ,Ag,Bj,AX,AP,A0,DZ,Nat.le_refl]
   have t0:threeE d x y=firstE y:=by unfold threeE;rw[if_pos e0.1,if_pos e0.2,if_neg hy]
   exact⟨_,_,rfl,X3.put _ _ _ (by omega),hw3.put _ _ _ m3,_,by rw[t0],by unfold resT;rw[t0,if_neg hy];exact II _ _⟩
 ·have z0:(((twoE d x:Nat):Int)==0)=false:=by simp;omega
  simp -implicitDefEqProofs only[go_sem,Aw,Ka,KQ,Kb,KR,Akj,YE,q3,q4,q5,q6,c1,c2,h4,hx4,ht,htx,e2,z0,g42,BJ,Ag,Bj,AX,AP,A0,DZ,Nat.le_refl]
  have t0:threeE d x y=twoE d x:=by
   unfold threeE twoE at *
   by_cases h:firstE d=0
   ·rw[if_pos h] at h1 ⊢
    rw[if_neg h1,if_pos h]
   ·rw[if_neg h] at h1 ⊢
    rw[if_neg h]
  exact⟨_,_,rfl,X2.put _ _ _ (by omega),hw2.put _ _ _ m2,_,by rw[t0],by unfold resT;rw[t0,if_neg h1];exact II _ _⟩
end
section
open Go Go.Eng
attribute [local congr] Ab Ah Af Ad Ae
attribute [-go_sem] List.range_succ
end
section
open Go Go.Eng
attribute [local congr] Ab Ah Af Ad Ae
attribute [-go_sem] List.range_succ
structure ListI (P:Nat→Prop) (l r bt:Nat) (f g:Nat→Value) (cur:D) (σ:FState):Prop where
 wf:Wf σ
 le:bt<r∧r<l∧l<σ.next
 fresh:∀b,l<b→P b
 loop:LoopAt 102 [9,10] Amg Amh 7 16 f g l r .ready σ
 col:∃ver,σ.heap.get r=some ⟨.defd true,false,none,ver⟩
 cell:∃ver tv,σ.heap.get bt=some ⟨.cells tv TD,false,none,ver⟩∧tv.length=4∧LaidR (fun b=>P b∧b≠l∧b≠r∧b≠bt) σ (.agg tv.toArray) cur
def pre:Nat→Int
 | 0 => -1
 | k+1=>.ofNat k
end
section
open Go Go.Eng
attribute [local congr] Ab Ah Af Ad Ae
attribute [-go_sem] List.range_succ
end
section
open Go Go.Eng
attribute [local congr] Ab Ah Af Ad Ae
attribute [-go_sem] List.range_succ
theorem Z1(cs l4:List Value)(off j:Nat)(hl:l4.length=4)(ho:off+4≤cs.length)(h:j+4≤off∨off+4≤j):((cs.take off++l4++cs.drop (off+4)).drop j).take 4=(cs.drop j).take 4:=by
 apply List.ext_getElem?
 intro i
 rw[List.getElem?_take,List.getElem?_take]
 split
 ·rw[List.getElem?_drop,List.getElem?_drop]
  rcases h with h|h
  ·rw[List.append_assoc,List.getElem?_append_left (by rw[List.length_take];omega),List.getElem?_take,if_pos (by omega)]
  ·rw[List.getElem?_append_right (by rw[List.length_append,List.length_take];omega),List.getElem?_drop,List.length_append,List.length_take,hl]
   congr 1
   omega
 ·rfl
theorem AdZ(cs l4:List Value)(off:Nat)(hl:l4.length=4)(ho:off+4≤cs.length):((cs.take off++l4++cs.drop (off+4)).drop off).take 4=l4:=by
 rw[List.append_assoc,List.drop_append_of_le_length (by rw[List.length_take];omega),List.drop_eq_nil_of_le (by rw[List.length_take];omega),List.nil_append,List.take_append_of_le_length (by omega),List.take_of_length_le (by omega)]
theorem Row.set{R:Nat→Prop}{σ:FState}{cs l4:List Value}{ds:List D}{d:D}(h:Row R σ cs ds)(i:Nat)(hi:i<ds.length)(hl:l4.length=4)(ho:l4.all oneCell=true)(hd:LaidR R σ (.agg l4.toArray) d):Row R σ (cs.take (i*4)++l4++cs.drop (i*4+4)) (ds.set i d):=by
 obtain⟨h1,h2,h3⟩:=h
 refine⟨by rw[List.length_append,List.length_append,List.length_take,List.length_drop,List.length_set];omega,?_,fun j e he=>?_⟩
 ·rw[List.all_append,List.all_append,ho]
  have a1:(cs.take (i*4)).all oneCell=true:=List.all_eq_true.2 fun x hx=>List.all_eq_true.1 h2 x (List.mem_of_mem_take hx)
  have a2:(cs.drop (i*4+4)).all oneCell=true:=List.all_eq_true.2 fun x hx=>List.all_eq_true.1 h2 x (List.mem_of_mem_drop hx)
  rw[a1,a2];rfl
 ·by_cases hj:i=j
  ·subst hj
   rw[List.getElem?_set_self (by omega)] at he
   cases he
   rw[AdZ cs l4 _ hl (by omega)]
   exact hd
  ·rw[List.getElem?_set_ne hj] at he
   rw[Z1 cs l4 _ _ hl (by omega) (by omega)]
   exact h3 j e he
def Turned(ds:List D)(i:Nat)(cur:List D):Prop:=cur.length=ds.length∧∀k,k<ds.length→cur[k]? = if k<i∨ds.length-i≤k then ds[ds.length-1-k]? else ds[k]?
theorem Turned.step{ds cur:List D}{i:Nat}(h:Turned ds i cur)(hi:i+1+i<ds.length):∃x y,cur[i]? = some x∧cur[ds.length-1-i]? = some y∧Turned ds (i+1) ((cur.set i y).set (ds.length-1-i) x):=by
 obtain⟨h1,h2⟩:=h
 have e1:=h2 i (by omega)
 have e2:=h2 (ds.length-1-i) (by omega)
 rw[if_neg (by omega)] at e1
 rw[if_neg (by omega)] at e2
 obtain⟨x,hx⟩:∃x,ds[i]? = some x:=⟨_,List.getElem?_eq_getElem (by omega)⟩
 obtain⟨y,hy⟩:∃y,ds[ds.length-1-i]? = some y:=⟨_,List.getElem?_eq_getElem (by omega)⟩
 refine⟨x,y,by rw[e1,hx],by rw[e2,hy],by rw[List.length_set,List.length_set,h1],fun k hk=>?_⟩
 by_cases k1:ds.length-1-i=k
 ·subst k1
  rw[List.getElem?_set_self (by rw[List.length_set];omega),if_pos (by omega),show ds.length-1-(ds.length-1-i)=i by omega,hx]
 ·rw[List.getElem?_set_ne k1]
  by_cases k2:i=k
  ·subst k2
   rw[List.getElem?_set_self (by omega),if_pos (by omega),hy]
  ·rw[List.getElem?_set_ne k2,h2 k hk]
   by_cases c:k<i∨ds.length-i≤k
   ·rw[if_pos c,if_pos (by omega)]
   ·rw[if_neg c,if_neg (by omega)]
theorem Turned.done{ds cur:List D}{i:Nat}(h:Turned ds i cur)(hi:ds.length≤i+1+i):cur=ds.reverse:=by
 obtain⟨h1,h2⟩:=h
 apply List.ext_getElem?
 intro k
 by_cases hk:k<ds.length
 ·rw[List.getElem?_reverse hk,h2 k hk]
  by_cases c:k<i∨ds.length-i≤k
  ·rw[if_pos c]
  ·rw[if_neg c,show ds.length-1-k=k by omega]
 ·rw[List.getElem?_eq_none (by omega),List.getElem?_eq_none (by rw[List.length_reverse];omega)]
theorem Turned.start(ds:List D):Turned ds 0 ds:=⟨rfl,fun k hk=>by rw[if_neg (by omega)]⟩
end
section
open Go Go.Eng
attribute [local congr] Ab Ah Af Ad Ae
attribute [-go_sem] List.range_succ
end
section
open Go Go.Eng
attribute [local congr] Ab Ah Af Ad Ae
attribute [-go_sem] List.range_succ
structure Elems (M:Nat) (es:List D):Prop where
 sane:∀e∈es,Sane M e
 deep:∀e∈es,e.deep≤4
 len:es.length≤12
 few:D.counts es≤1900
theorem Afl:nilD.deep=1:=rfl
theorem AbX:nilD.count=1:=rfl
theorem Elems.count{M:Nat}{es:List D}(h:Elems M es):(listD nilD es).count≤2000:=by rw[K_,AbX];have:=h.len;have:=h.few;omega
theorem Elems.depth{M:Nat}{es:List D}(h:Elems M es):(listD nilD es).deep≤16:=by
 have:=M7 nilD 4 es h.deep
 rw[Afl] at this
 have:=h.len
 omega
theorem Elems.all{M:Nat}{es:List D}(h:Elems M es):Sane M (listD nilD es):=Qp (AlS M) h.sane
theorem Elems.reverse{M:Nat}{es:List D}(h:Elems M es):Elems M es.reverse:=⟨fun e he=>h.sane e (List.mem_reverse.1 he),fun e he=>h.deep e (List.mem_reverse.1 he),by rw[List.length_reverse];exact h.len,by rw[Hm];exact h.few⟩
end
section
open Go Go.Eng
attribute [local congr] Ab Ah Af Ad Ae
attribute [-go_sem] List.range_succ
end
section
open Go Go.Eng
attribute [local congr] Ab Ah Af Ad Ae
attribute [-go_sem] List.range_succ
structure HeadFr (q:Option Addr) (c:Nat) (es:List D) (σ0:FState) (i:Nat) (ff:Nat→Value) (f g:Nat→Value) (σ:FState):Prop where
 g5:g 5=.slice q es.length c
 g6:g 6=.int .i64 (.ofNat es.length)
 g7:g 7=.int .i64 (.ofNat i)
 f0:f 0=ff 0
 f1:f 1=ff 1
 f2:f 2=.int .i64 (.ofNat (i+D.counts (es.take i)+1))
 wf:Wf σ
 ext:Ext σ0 σ
end
section
open Go Go.Eng
attribute [local congr] Ab Ah Af Ad Ae
attribute [-go_sem] List.range_succ
theorem Vec.slice{σ:FState}{lo:Nat}{s:Value}{ds:List D}(h:Vec σ lo s ds):∃p,s=.slice p ds.length ds.length∧LaidRE (fun b=>lo<b) σ p 0 ds:=by
 rcases h with⟨rfl,rfl⟩|⟨b,cs,ver,rfl,hb,hq,hr⟩
 ·exact⟨none,rfl,trivial⟩
 ·exact⟨_,rfl,hr.elems (AB hb) hq (fun c hc=>hc.1) 0 ds fun j e he=>by rwa [Nat.zero_add]⟩
theorem Vec.spot{σ:FState}{lo:Nat}{s:Value}{ds:List D}(hw:Wf σ)(h:Vec σ lo s ds):∀b n m,s=.slice (some ⟨b,0,none⟩) n m→b<σ.next∧lo<b:=by
 intro b n m hs
 rcases h with⟨_,h⟩|⟨b',cs,ver,h,hb,hlb,_⟩
 ·rw[hs] at h;cases h
 ·rw[hs] at h;cases h;exact⟨(hw _ _ hb).1,hlb⟩
theorem Vec.ones{σ:FState}{lo:Nat}{s:Value}{ds:List D}(h:Vec σ lo s ds):oneCell s=true∧notTuple s=true∧valCells s=[s]:=by
 rcases h with⟨rfl,rfl⟩|⟨b,cs,ver,rfl,hb,hq,hr⟩<;>exact⟨rfl,rfl,rfl⟩
theorem Ar4:keepOf nls 13=[30]:=by kernel_rfl
def KeepAt(m:Nat)(d:D):Prop:=∀(lv:List Value) (R:Nat→Prop) (σ:FState),Wf σ→LaidR R σ (.agg lv.toArray) d→(∀b,R b→b<σ.next)→Gives ((env m).call 13 [.agg lv.toArray] none σ) σ fun w σ'=>LaidR (fun b=>σ.next≤b) σ' w d
structure HeadKd (b0:Nat) (R:Nat→Prop) (k z:Int) (t:ByteArray) (q:Option Addr) (c:Nat) (ds:List D) (σ0:FState) (i:Nat) (f:Nat→Value) (σ:FState):Prop where
 f1:f 1=.pointer (some ⟨b0,0,none⟩)
 f2:f 2=.pointer (some ⟨b0+1,0,none⟩)
 f3:f 3=.pointer (some ⟨b0+2,0,none⟩)
 f4:f 4=.int .i64 (.ofNat i)
 c1:σ.cells b0=some [.int .i64 k,.int .i64 z,.string t,.slice q ds.length c]
 g2:∃ver,σ.heap.get (b0+1)=some ⟨.cells [.int .i64 0,.int .i64 0,.string ⟨#[]⟩,.slice none 0 0] TD,false,none,ver⟩
 g3:∃ver s,σ.heap.get (b0+2)=some ⟨.cells [.int .i64 k,.int .i64 z,.string t,s] TD,false,none,ver⟩∧Vec σ (b0+2) s (ds.take i)
 lay:LaidRE R σ q 0 ds
 wf:Wf σ
 ext:Ext σ0 σ
theorem Xt(m:Nat){b0:Nat}{R:Nat→Prop}{k z:Int}{t:ByteArray}{q:Option Addr}{c:Nat}{ds:List D}{σ0:FState}(hC:∀d∈ds,KeepAt m d)(hb0:σ0.next=b0)(hR:∀b,R b→b<b0)(hfew:ds.length<900):
  ∀(j fuel i:Nat) (f g:Nat→Value) (σ:FState),i+j=ds.length→j<fuel→HeadKd b0 R k z t q c ds σ0 i f σ→
   ∃f' g' σ',floop [30] (Aan (env m) none 13) fuel (Sl 5 31 f g []) none σ=.done (.exit 0) (Sl 5 31 f' g' []) none σ'∧HeadKd b0 R k z t q c ds σ0 ds.length f' σ':=by
 intro j
 induction j with
 | zero=>
  intro fuel i f g σ hij hf h
  obtain⟨fuel,rfl⟩:∃q,fuel=q+1:=⟨fuel-1,by omega⟩
  obtain rfl:i=ds.length:=by omega
  have d1:decide (Int.ofNat ds.length<Int.ofNat ds.length)=false:=by simp
  rw[Ar]
  unfold Aan
  simp -implicitDefEqProofs only[go_sem,VL,R1,h.f1,h.f4,h.c1,d1]
  exact⟨_,_,_,rfl,h⟩
 | succ j ih=>
  intro fuel i f g σ hij hf h
  obtain⟨fuel,rfl⟩:∃q,fuel=q+1:=⟨fuel-1,by omega⟩
  have hi:i<ds.length:=by omega
  have d1:decide (Int.ofNat i<Int.ofNat ds.length)=true:=by simp;omega
  have hd:ds[i]? = some ds[i]:=List.getElem?_eq_getElem hi
  have hmem:=List.getElem_mem hi
  have hw:=h.wf
  obtain⟨b,off,cs,rfl,hRb,hcs,hle,hL⟩:=LaidRE.get h.lay hd
  rw[Nat.zero_add] at hle hL
  obtain⟨vt,ht2⟩:=h.g2
  obtain⟨v3,s,hg3,hV⟩:=h.g3
  have hn3:=(hw _ _ hg3).1
  obtain⟨_,σ1,e1,x1,hw1,hL1⟩:=hC _ hmem ((cs.drop (off+i*4)).take 4) R σ hw hL (fun b hb=>by have:=hR b hb;omega)
  obtain⟨l4,rfl,hl4,ho4⟩:=hL1.agg
  have n1:=x1.next
  have hsp:=hV.spot hw
  have hV1:Vec σ1 (b0+2) s (ds.take i):=hV.keep hw fun c h1 h2=>x1.get c h2
  obtain⟨s',τ,ha,ho,hVτ,hwτ,hnτ,hcτ,hg1,hg2⟩:=Ow σ1 (b0+2) s (ds.take i) ds[i] l4 hw1 (by omega) hl4 ho4 (by rw[List.length_take];omega) hV1 (hL1.keep fun c cs hc h=>⟨h,by omega,fun b n m hs=>by have:=hsp b n m hs;omega⟩)
  rw[show ds.take i++[ds[i]]=ds.take (i+1) by rw[List.take_add_one,hd];rfl] at hVτ
  have hvw:=D0 hw (lam:=σ.clock) (Nat.le_refl _)
  have hv3:(view σ1 σ.clock).cells (b0+2)=some [.int .i64 k,.int .i64 z,.string t,s]:=ED hw (Nat.le_refl _) (x1.get _ hn3) (AB hg3)
  have hg3τ:τ.heap.get (b0+2)=some ⟨.cells [.int .i64 k,.int .i64 z,.string t,s] TD,false,none,v3⟩:=(hg1 _ (Nat.le_refl _)).trans ((x1.get _ hn3).trans hg3)
  have w3:=GH i (by omega)
  have o':=hVτ.ones
  have hc1:=h.c1
  rw[Ar]
  unfold Aan
  simp -implicitDefEqProofs only[go_sem,Aw,VL,R1,Ahl,X_,Ahm,Ya,h.f1,h.f3,h.f4,hc1,d1,hi,hvw,hcs,hle,e1,hv3,hl4,ho4,ha,o'.1,o'.2.1,o'.2.2,hg3τ,w3]
  generalize hff:upd _ 4 _=f1
  have kR:∀b cs,b<b0→σ.cells b=some cs→(τ.put (b0+2) (.cells [.int .i64 k,.int .i64 z,.string t,s'] TD) none).cells b=some cs:=fun b cs hb hc=>by
   rw[Al,if_neg (by omega),AG,hg1 b (by omega),←AG]
   exact(x1.cells (hw.cells hc)).trans hc
  exact ih fuel (i+1) f1 _ _ (by omega) (by omega) {
   f1:=by rw[←hff];simp -implicitDefEqProofs only[go_sem,reduceCtorEq,h.f1]
   f2:=by rw[←hff];simp -implicitDefEqProofs only[go_sem,reduceCtorEq,h.f2]
   f3:=by rw[←hff];simp -implicitDefEqProofs only[go_sem,reduceCtorEq,h.f3]
   f4:=by rw[←hff];simp -implicitDefEqProofs only[go_sem,reduceCtorEq]
   c1:=by
    have:=hw.cells hc1
    rw[Al,if_neg (by omega),AG,hg1 b0 (by omega),←AG]
    exact(x1.cells this).trans hc1
   g2:=⟨vt,by rw[Am,if_neg (by omega),hg1 _ (by omega),x1.get _ (by omega)];exact ht2⟩
   g3:=⟨_,s',by rw[Am,if_pos rfl],hVτ.keep hwτ fun c h1 h2=>by rw[Am,if_neg (by omega)]⟩
   lay:=h.lay.keep fun b cs hb hc=>⟨kR b cs (hR b hb) hc,hb⟩
   wf:=hwτ.put _ _ _ (by omega)
   ext:=⟨by rw[Ap];have:=h.ext.next;omega,by rw[Bh];have:=h.ext.clock;have:=x1.clock;omega,fun b hb=>by
    rw[Am,if_neg (by omega),hg2 b (by have:=h.ext.next;omega) (fun b' n m hs=>by have:=hsp b' n m hs;omega),x1.get b (by have:=h.ext.next;omega)]
    exact h.ext.get b hb⟩ }
theorem Xu(m:Nat)(k z:Int)(t:ByteArray)(ds:List D)(hfew:ds.length<900)(hC:∀d∈ds,KeepAt m d):KeepAt (m+1) (.mk k z t ds):=by
 intro lv R σ hw hL hR
 have hL0:=hL
 obtain⟨q,c,hv,hE⟩:=hL
 have hlv:lv=[.int .i64 k,.int .i64 z,.string t,.slice q ds.length c]:=by
  have:=Value.agg.inj hv
  simpa using congrArg Array.toList this
 subst hlv
 rw[Ak _ 13 _ _ rfl,Am8 _ _ _ _ (by simp),Aj]
 unfold Alr
 have x1:Ext σ ((((σ.push (.cells [.int .i64 k,.int .i64 z,.string t,.slice q ds.length c] TD) none).push (.cells [.int .i64 0,.int .i64 0,.string ⟨#[]⟩,.slice none 0 0] TD) none).push (.cells [.int .i64 0,.int .i64 0,.string ⟨#[]⟩,.slice none 0 0] TD) none).put (σ.next+2) (.cells [.int .i64 k,.int .i64 z,.string t,.slice none 0 0] TD) none):=(((((Ext.refl _).push _ _).push _ _).push _ _).put _ _ _ (by omega))
 have hw1:=((((hw.push (.cells [.int .i64 k,.int .i64 z,.string t,.slice q ds.length c] TD) none).push (.cells [.int .i64 0,.int .i64 0,.string ⟨#[]⟩,.slice none 0 0] TD) none).push (.cells [.int .i64 0,.int .i64 0,.string ⟨#[]⟩,.slice none 0 0] TD) none).put (σ.next+2) (.cells [.int .i64 k,.int .i64 z,.string t,.slice none 0 0] TD) none (by simp only[Aa];omega))
 have c1:((((σ.push (.cells [.int .i64 k,.int .i64 z,.string t,.slice q ds.length c] TD) none).push (.cells [.int .i64 0,.int .i64 0,.string ⟨#[]⟩,.slice none 0 0] TD) none).push (.cells [.int .i64 0,.int .i64 0,.string ⟨#[]⟩,.slice none 0 0] TD) none).put (σ.next+2) (.cells [.int .i64 k,.int .i64 z,.string t,.slice none 0 0] TD) none).cells σ.next=some [.int .i64 k,.int .i64 z,.string t,.slice q ds.length c]:=by
  rw[Al,if_neg (by omega),Ac,if_neg (by simp only[Aa];omega),Ac,if_neg (by simp only[Aa];omega),Ac,if_pos rfl];rfl
 have g2:((((σ.push (.cells [.int .i64 k,.int .i64 z,.string t,.slice q ds.length c] TD) none).push (.cells [.int .i64 0,.int .i64 0,.string ⟨#[]⟩,.slice none 0 0] TD) none).push (.cells [.int .i64 0,.int .i64 0,.string ⟨#[]⟩,.slice none 0 0] TD) none).put (σ.next+2) (.cells [.int .i64 k,.int .i64 z,.string t,.slice none 0 0] TD) none).heap.get (σ.next+1)=some ⟨.cells [.int .i64 0,.int .i64 0,.string ⟨#[]⟩,.slice none 0 0] TD,false,none,σ.clock+1⟩:=by
  rw[Am,if_neg (by omega),Ai,if_neg (by simp only[Aa];omega),Ai,if_pos (by rw[Aa])];rfl
 have g3:((((σ.push (.cells [.int .i64 k,.int .i64 z,.string t,.slice q ds.length c] TD) none).push (.cells [.int .i64 0,.int .i64 0,.string ⟨#[]⟩,.slice none 0 0] TD) none).push (.cells [.int .i64 0,.int .i64 0,.string ⟨#[]⟩,.slice none 0 0] TD) none).put (σ.next+2) (.cells [.int .i64 k,.int .i64 z,.string t,.slice none 0 0] TD) none).heap.get (σ.next+2)=some ⟨.cells [.int .i64 k,.int .i64 z,.string t,.slice none 0 0] TD,false,none,σ.clock+3⟩:=by
  rw[Am,if_pos rfl];rfl
 simp -implicitDefEqProofs only[go_sem,Aw,Ahi,XZ,Ahj,X0,Ahk,X9,Ar4]
 generalize hff:upd _ 4 _=f1
 generalize hbf:bigFuel=fuel
 generalize FState.put _ _ _ _=σ1 at x1 hw1 c1 g2 g3 ⊢
 obtain⟨f2,g2',σ2,e2,h2⟩:=Xt m hC rfl hR hfew ds.length fuel 0 f1 _ σ1 (by omega) (by rw[←hbf];show ds.length<1000000000000;omega) {
  f1:=by rw[←hff];simp -implicitDefEqProofs only[go_sem,reduceCtorEq]
  f2:=by rw[←hff];simp -implicitDefEqProofs only[go_sem,reduceCtorEq]
  f3:=by rw[←hff];simp -implicitDefEqProofs only[go_sem,reduceCtorEq]
  f4:=by rw[←hff];simp -implicitDefEqProofs only[go_sem,reduceCtorEq]<;>rfl
  c1:=c1
  g2:=⟨_,g2⟩
  g3:=⟨_,_,g3,.inl ⟨rfl,rfl⟩⟩
  lay:=hE.keep fun b cs hb hc=>⟨(x1.cells (hw.cells hc)).trans hc,hb⟩
  wf:=hw1
  ext:=x1 }
 rw[e2]
 obtain⟨v3,s,hg3,hV⟩:=h2.g3
 obtain⟨v2,hg2⟩:=h2.g2
 have o:=hV.ones
 rw[List.take_length] at hV
 obtain⟨p,rfl,hE2⟩:=hV.slice
 have hc3:=AB hg3
 have m2:=(h2.wf _ _ hg2).1
 simp -implicitDefEqProofs only[go_sem,Aw,Ahn,Yb,h2.f2,h2.f3,hc3,hg2,BJ,Bj,AX,AP,A0]
 exact⟨_,_,rfl,h2.ext.put _ _ _ (by omega),h2.wf.put _ _ _ m2,p,_,rfl,hE2.keep fun b cs hb hc=>⟨by rw[Al,if_neg (by omega)];exact hc,by omega⟩⟩
theorem Vo(n:Nat):∀(N:Nat) (d:D),D.deep d≤N→d.count<900→KeepAt (n+N) d
 | 0,d,h,_=>by cases d;rw[D.deep] at h;omega
 | N+1,.mk k z t ds,h,hc=>by
  rw[D.deep] at h
  rw[D.count] at hc
  have:=Eh ds
  exact Xu (n+N) k z t ds (by omega) (fun d hd=>Vo n N d (by have:=Eo hd;omega) (by have:=Fv hd;omega))
end
section
open Go Go.Eng
attribute [local congr] Ab Ah Af Ad Ae
attribute [-go_sem] List.range_succ
theorem Zt{d x y:D}:(resT d x y).count≤2000:=by
 unfold resT
 by_cases h:threeE d x y=0
 ·rw[if_pos h];exact(Oq h).2.2.2
 ·rw[if_neg h];decide
theorem Xv:keepOf nls 7=[124]:=by kernel_rfl
theorem OX(q:Nat)(ds xs ys:List D)(p1 p2 p3:Option Addr)(c1 c2 c3:Nat)(hx:xs.length=ds.length)(hy:ys.length=ds.length)(hds:ds.length<1000)(hD:∀d∈ds,d.count≤150)(hX:∀d∈xs,d.count≤150)(hY:∀d∈ys,d.count≤150):
  ∀(j fuel i:Nat) (f g:Nat→Value) (σ:FState),ds.length-i=j→j<fuel→i≤ds.length→Wf σ→LaidRE (fun b=>b<σ.next) σ p1 0 ds→LaidRE (fun b=>b<σ.next) σ p2 0 xs→LaidRE (fun b=>b<σ.next) σ p3 0 ys→
   f 14=.slice p1 ds.length c1→f 15=.slice p2 xs.length c2→f 16=.slice p3 ys.length c3→f 17=.int .i64 (.ofNat i)→
   ∃f' g' σ',floop (keepOf nls 7) (AbS (top (q+6000)) none 7) fuel (Sl 23 125 f g []) none σ=.done (.exit 0) (Sl 23 125 f' g' []) none σ':=by
 intro j
 induction j with
 | zero=>
  intro fuel i f g σ hj hf hi hw hE hEx hEy f14 f15 f16 f17
  obtain⟨fuel,rfl⟩:∃q,fuel=q+1:=⟨fuel-1,by omega⟩
  obtain rfl:i=ds.length:=by omega
  have d0:decide (Int.ofNat ds.length<Int.ofNat ds.length)=false:=by simp
  rw[Ar,Xv]
  unfold AbS
  simp -implicitDefEqProofs only[go_sem,Aa2,Aa1,f14,f17,d0,Bool.false_eq_true]
  exact⟨_,_,_,rfl⟩
 | succ j ih=>
  intro fuel i f g σ hj hf hi hw hE hEx hEy f14 f15 f16 f17
  obtain⟨fuel,rfl⟩:∃q,fuel=q+1:=⟨fuel-1,by omega⟩
  have l1:i<ds.length:=by omega
  have l2:i<xs.length:=by omega
  have l3:i<ys.length:=by omega
  have d0:decide (Int.ofNat i<Int.ofNat ds.length)=true:=by simp;omega
  obtain⟨b1,o1,s1,rfl,hb1,hs1,hl1,hL⟩:=LaidRE.get hE (List.getElem?_eq_getElem l1)
  obtain⟨b2,o2,s2,rfl,hb2,hs2,hl2,hLx⟩:=LaidRE.get hEx (List.getElem?_eq_getElem l2)
  obtain⟨b3,o3,s3,rfl,hb3,hs3,hl3,hLy⟩:=LaidRE.get hEy (List.getElem?_eq_getElem l3)
  rw[Nat.zero_add] at hl1 hl2 hl3 hL hLx hLy
  have a1:=GH i (by omega)
  have kd:=hD _ (List.getElem_mem l1)
  have kx:=hX _ (List.getElem_mem l2)
  have ky:=hY _ (List.getElem_mem l3)
  generalize ds[i]=d at hL kd
  generalize xs[i]=x at hLx kx
  generalize ys[i]=y at hLy ky
  have n1:(List.take 4 (List.drop (o1+i*4) s1)).length=4:=by rw[List.length_take,List.length_drop];omega
  have n2:(List.take 4 (List.drop (o2+i*4) s2)).length=4:=by rw[List.length_take,List.length_drop];omega
  have n3:(List.take 4 (List.drop (o3+i*4) s3)).length=4:=by rw[List.length_take,List.length_drop];omega
  have st:∀ {τ τ':FState},Ext τ τ'→∀ {v:Value} {d:D},LaidR (fun b=>b<τ.next) τ v d→LaidR (fun b=>b<τ'.next) τ' v d:=fun hX v d h=>h.keep fun b cs hb hc=>⟨(hX.cells hb).trans hc,by have:=hX.next;omega⟩
  have dd:=Dh d
  obtain⟨uw,σ1,e1,x1,hw1,hLu⟩:=Vo (q+5850) 150 d (by omega) (by omega) _ (fun b=>b<σ.next) σ hw hL (fun b hb=>hb)
  rw[show q+5850+150=q+6000 by omega] at e1
  replace e1:=(En (q+6000) 13 _ σ rfl).trans e1
  obtain⟨uv,rfl,hu4,huo⟩:=hLu.agg
  have tuv:uv.take 4=uv:=List.take_of_length_le (by omega)
  have x2:Ext σ1 ((σ1.push (.cells [.int .i64 0,.int .i64 0,.string ⟨#[]⟩,.slice none 0 0] TD) none).put σ1.next (.cells uv TD) none):=((Ext.refl _).push _ _).put _ _ _ (Nat.le_refl _)
  have hw2:=(hw1.push (.cells [.int .i64 0,.int .i64 0,.string ⟨#[]⟩,.slice none 0 0] TD) none).put σ1.next (.cells uv TD) none (Nat.lt_succ_self _)
  have c2:((σ1.push (.cells [.int .i64 0,.int .i64 0,.string ⟨#[]⟩,.slice none 0 0] TD) none).put σ1.next (.cells uv TD) none).cells σ1.next=some uv:=by rw[Al,if_pos rfl];rfl
  have kc2:((σ1.push (.cells [.int .i64 0,.int .i64 0,.string ⟨#[]⟩,.slice none 0 0] TD) none).put σ1.next (.cells uv TD) none).clock=σ1.clock+2:=rfl
  have X2:=x1.trans x2
  have lu2:LaidR (fun b=>b<((σ1.push (.cells [.int .i64 0,.int .i64 0,.string ⟨#[]⟩,.slice none 0 0] TD) none).put σ1.next (.cells uv TD) none).next) ((σ1.push (.cells [.int .i64 0,.int .i64 0,.string ⟨#[]⟩,.slice none 0 0] TD) none).put σ1.next (.cells uv TD) none) (.agg uv.toArray) d:=hLu.keep fun b cs hb hc=>⟨(x2.cells (hw1.cells hc)).trans hc,by have:=hw1.cells hc;have:=x2.next;omega⟩
  rw[Ar,Xv]
  unfold AbS
  simp -implicitDefEqProofs only[go_sem,Aw,Aa2,Aa1,AkL,Y6,f14,f15,f16,f17,d0,l1,hs1,hl1,e1,hu4,huo,Ag,Bool.false_eq_true]
  generalize FState.put _ σ1.next _ _=σ2 at x2 hw2 c2 X2 kc2 lu2 ⊢
  rw[←kc2]
  obtain⟨_,σ3,e3,x3,hw3,av,rfl,hLa⟩:=WD (q+5991) (q+5969) (q+5246) (q+4181) (by omega) (by omega) (by omega) d x y kd kx ky uv _ _ hu4 n2 n3 σ2 hw2 lu2 (st X2 hLx) (st X2 hLy)
  replace e3:=(En (q+6000) 49 _ σ2 rfl).trans e3
  obtain⟨lav,rfl,ha4,hao⟩:=hLa.agg
  have tav:lav.take 4=lav:=List.take_of_length_le (by omega)
  have X3:=X2.trans x3
  have x4:Ext σ3 ((σ3.push (.cells [.int .i64 0,.int .i64 0,.string ⟨#[]⟩,.slice none 0 0] TD) none).put σ3.next (.cells lav TD) none):=((Ext.refl _).push _ _).put _ _ _ (Nat.le_refl _)
  have hw4:=(hw3.push (.cells [.int .i64 0,.int .i64 0,.string ⟨#[]⟩,.slice none 0 0] TD) none).put σ3.next (.cells lav TD) none (Nat.lt_succ_self _)
  have c4:((σ3.push (.cells [.int .i64 0,.int .i64 0,.string ⟨#[]⟩,.slice none 0 0] TD) none).put σ3.next (.cells lav TD) none).cells σ3.next=some lav:=by rw[Al,if_pos rfl];rfl
  have kc4:((σ3.push (.cells [.int .i64 0,.int .i64 0,.string ⟨#[]⟩,.slice none 0 0] TD) none).put σ3.next (.cells lav TD) none).clock=σ3.clock+2:=rfl
  have X4:=X3.trans x4
  have v2:=D0 hw2 (Nat.le_refl _)
  have k2:∀b cs,σ.cells b=some cs→σ2.cells b=some cs:=fun b cs hc=>(X2.cells (hw.cells hc)).trans hc
  simp -implicitDefEqProofs only[go_sem,Aw,AkM,Y7,f14,f15,f16,f17,l2,l3,v2,c2,k2 _ _ hs2,k2 _ _ hs3,hl2,hl3,hu4,tuv,e3,ha4,hao,Nat.le_refl]
  have la4:LaidR (fun b=>b<((σ3.push (.cells [.int .i64 0,.int .i64 0,.string ⟨#[]⟩,.slice none 0 0] TD) none).put σ3.next (.cells lav TD) none).next) ((σ3.push (.cells [.int .i64 0,.int .i64 0,.string ⟨#[]⟩,.slice none 0 0] TD) none).put σ3.next (.cells lav TD) none) (.agg lav.toArray) (resT d x y):=hLa.keep fun b cs hb hc=>⟨(x4.cells (hw3.cells hc)).trans hc,by have:=hw3.cells hc;have:=x4.next;omega⟩
  generalize FState.put _ σ3.next _ _=σ4 at x4 hw4 c4 X4 kc4 la4 ⊢
  rw[←kc4]
  obtain⟨_,σ5,e5,x5,hw5,bv,rfl,hLb⟩:=OV (q+5995) (q+3996) (q+5842) (q+5548) (by omega) (by omega) (by omega) d x y kd kx ky _ _ _ n1 n2 n3 σ4 hw4 (st X4 hL) (st X4 hLx) (st X4 hLy)
  replace e5:=(En (q+6000) 50 _ σ4 rfl).trans e5
  obtain⟨lbv,rfl,hb4,hbo⟩:=hLb.agg
  have tbv:lbv.take 4=lbv:=List.take_of_length_le (by omega)
  have X5:=X4.trans x5
  have x6:Ext σ5 ((σ5.push (.cells [.int .i64 0,.int .i64 0,.string ⟨#[]⟩,.slice none 0 0] TD) none).put σ5.next (.cells lbv TD) none):=((Ext.refl _).push _ _).put _ _ _ (Nat.le_refl _)
  have hw6:=(hw5.push (.cells [.int .i64 0,.int .i64 0,.string ⟨#[]⟩,.slice none 0 0] TD) none).put σ5.next (.cells lbv TD) none (Nat.lt_succ_self _)
  have c6:((σ5.push (.cells [.int .i64 0,.int .i64 0,.string ⟨#[]⟩,.slice none 0 0] TD) none).put σ5.next (.cells lbv TD) none).cells σ5.next=some lbv:=by rw[Al,if_pos rfl];rfl
  have kc6:((σ5.push (.cells [.int .i64 0,.int .i64 0,.string ⟨#[]⟩,.slice none 0 0] TD) none).put σ5.next (.cells lbv TD) none).clock=σ5.clock+2:=rfl
  have X6:=X5.trans x6
  have v4:=D0 hw4 (Nat.le_refl _)
  have k4:∀b cs,σ.cells b=some cs→σ4.cells b=some cs:=fun b cs hc=>(X4.cells (hw.cells hc)).trans hc
  simp -implicitDefEqProofs only[go_sem,Aw,AkN,Y8,f14,f15,f16,f17,l1,l2,l3,v4,k4 _ _ hs1,k4 _ _ hs2,k4 _ _ hs3,hl1,hl2,hl3,e5,hb4,hbo,Nat.le_refl]
  have lb6:LaidR (fun b=>b<((σ5.push (.cells [.int .i64 0,.int .i64 0,.string ⟨#[]⟩,.slice none 0 0] TD) none).put σ5.next (.cells lbv TD) none).next) ((σ5.push (.cells [.int .i64 0,.int .i64 0,.string ⟨#[]⟩,.slice none 0 0] TD) none).put σ5.next (.cells lbv TD) none) (.agg lbv.toArray) (resT d x y):=hLb.keep fun b cs hb hc=>⟨(x6.cells (hw5.cells hc)).trans hc,by have:=hw5.cells hc;have:=x6.next;omega⟩
  generalize FState.put _ σ5.next _ _=σ6 at x6 hw6 c6 X6 kc6 lb6 ⊢
  rw[←kc6]
  have x46:=x5.trans x6
  have x26:=(x3.trans x4).trans x46
  have c46:=(x46.cells (hw4.cells c4)).trans c4
  have c26:=(x26.cells (hw2.cells c2)).trans c2
  have rs:=@Zt d x y
  have rd:=Dh (resT d x y)
  obtain⟨_,σ7,e7,x7,hw7,rfl⟩:=GM (q+2000) 2000 (resT d x y) (resT d x y) (.agg lav.toArray) (.agg lbv.toArray) σ6 (by omega) (by omega) hw6 (st x46 la4).laid lb6.laid
  rw[GD,show q+2000+2*2000=q+6000 by omega] at e7
  replace e7:=(En (q+6000) 21 _ σ6 rfl).trans e7
  have X7:=X6.trans x7
  obtain⟨_,σ8,e8,x8,hw8,rfl⟩:=GM (q+2000) 2000 d d (.agg uv.toArray) _ σ7 (by omega) (by omega) hw7 (st (x26.trans x7) lu2).laid (st X7 hL).laid
  rw[GD,show q+2000+2*2000=q+6000 by omega] at e8
  replace e8:=(En (q+6000) 21 _ σ7 rfl).trans e8
  have v6:=D0 hw6 (Nat.le_refl _)
  have v7:=D0 hw7 (Nat.le_refl _)
  have c27:=(x7.cells (hw6.cells c26)).trans c26
  have k7:σ7.cells b1=some s1:=(X7.cells (hw.cells hs1)).trans hs1
  simp -implicitDefEqProofs only[go_sem,Aw,AkK,Y5,AkO,Y9,f14,f17,l1,v6,v7,c46,c6,c27,k7,hl1,ha4,hb4,hu4,tav,tbv,tuv,e7,e8,a1,Ag,Bool.false_eq_true,Bool.or_false,Bool.or_self,Nat.le_refl]
  generalize hff:upd _ 17 _=f2'
  generalize hgg:upd _ 71 _=g2'
  have X8:=X7.trans x8
  have sE:∀ {p:Option Addr} {l:List D},LaidRE (fun b=>b<σ.next) σ p 0 l→LaidRE (fun b=>b<σ8.next) σ8 p 0 l:=fun h=>h.keep fun b cs hb hc=>⟨(X8.cells hb).trans hc,by have:=X8.next;omega⟩
  have ih':=ih fuel (i+1) f2' g2' σ8 (by omega) (by omega) (by omega) hw8 (sE hE) (sE hEx) (sE hEy) (by rw[←hff];simp -implicitDefEqProofs only[go_sem,reduceCtorEq,f14]) (by rw[←hff];simp -implicitDefEqProofs only[go_sem,reduceCtorEq,f15]) (by rw[←hff];simp -implicitDefEqProofs only[go_sem,reduceCtorEq,f16]) (by rw[←hff];simp -implicitDefEqProofs only[go_sem,reduceCtorEq])
  rw[Xv] at ih'
  unfold AbS at ih'
  exact ih'
end
section
open Go Go.Eng
def isCells(W:World)(b:Nat):Bool:=match W.heap[b]? with
 | some (.cells ..)=>true
 | _=>false
def seenV(W:World)(v:Value):Value:=
 match v with
 | .int k n=>.int k n
 | .string s=>.string s
 | .slice none l c=>.slice none l c
 | .slice (some a) l c=>if l=0∧c=0 then .slice (some ⟨0,0,none⟩) 0 0 else if a.spot=none∧isCells W a.block=true then .slice (some ⟨a.block,a.off,none⟩) l c else .tuple #[]
 | _=>.tuple #[]
def seenM(W:World):Mp:=fun b=>if isCells W b=true then some ⟨b,0,true,none⟩ else none
def seenE(W:World)(b:Nat):Option Ent:=match W.heap[b]? with
 | some (.cells c t _)=>some ⟨.cells (c.toList.map (seenV W)) t,true,none,0⟩
 | _=>none
def seenT(W:World):Nat→Tr Ent
 | 0=>.lf
 | n+1=>match seenE W n with
  | some e=>(seenT W n).set n e
  | none=>seenT W n
def seenS(W:World):FState:=⟨seenT W W.heap.size,W.heap.size,1⟩
theorem KT(W:World):∀n b,(seenT W n).get b=if b<n then seenE W b else none
 | 0,b=>by rw[if_neg (Nat.not_lt_zero b)];rfl
 | n+1,b=>by
  rw[seenT]
  cases h:seenE W n with
  | some e=>
   rw[Tr.get_set,KT W n b]
   by_cases hb:b=n
   ·subst hb
    rw[if_pos rfl,if_pos (Nat.lt_succ_self b),h]
   ·rw[if_neg hb]
    by_cases hl:b<n
    ·rw[if_pos hl,if_pos (by omega)]
    ·rw[if_neg hl,if_neg (by omega)]
  | none=>
   show (seenT W n).get b=_
   rw[KT W n b]
   by_cases hb:b=n
   ·subst hb
    rw[if_neg (Nat.lt_irrefl b),if_pos (Nat.lt_succ_self b),h]
   ·by_cases hl:b<n
    ·rw[if_pos hl,if_pos (by omega)]
    ·rw[if_neg hl,if_neg (by omega)]
theorem KS(W:World)(b:Nat):(seenS W).heap.get b=seenE W b:=by
 show (seenT W W.heap.size).get b=_
 rw[KT]
 by_cases h:b<W.heap.size
 ·rw[if_pos h]
 ·rw[if_neg h]
  unfold seenE
  rw[Array.getElem?_eq_none (by omega)]
theorem Oi{W:World}{b:Nat}{e:Ent}(h:seenE W b=some e):∃c t fr,W.heap[b]? = some (.cells c t fr)∧e=⟨.cells (c.toList.map (seenV W)) t,true,none,0⟩∧b<W.heap.size:=by
 unfold seenE at h
 split at h
 ·rename_i c t fr hb
  cases h
  exact⟨c,t,fr,hb,rfl,(Array.getElem?_eq_some_iff.1 hb).1⟩
 ·cases h
theorem Aba(W:World):Wf (seenS W):=fun b e h=>by
 rw[KS] at h
 obtain⟨c,t,fr,h1,rfl,h2⟩:=Oi h
 exact⟨h2,Nat.lt_succ_self 0⟩
theorem FR{W:World}{b:Nat}:isCells W b=true↔∃c t fr,W.heap[b]? = some (.cells c t fr):=by
 unfold isCells
 split
 ·rename_i c t fr h
  exact⟨fun _=>⟨c,t,fr,h⟩,fun _=>rfl⟩
 ·rename_i h
  exact⟨fun h'=>(by cases h'),fun ⟨c,t,fr,h'⟩=>absurd h' (h c t fr)⟩
theorem Oj{W:World}{b:Nat}{c:Array Value}{t:TypeId}{fr:Nat×Nat}(h:W.heap[b]? = some (.cells c t fr)):(seenS W).cells b=some (c.toList.map (seenV W)):=by
 rw[AG,KS]
 unfold seenE
 rw[h]
 rfl
theorem ES{W:World}{a:Addr}{v:Value}(h:W.cell? a=some v):a.spot=none∧isCells W a.block=true∧∃c t fr,W.heap[a.block]? = some (.cells c t fr)∧c[a.off]? = some v:=by
 unfold World.cell? at h
 split at h
 ·rename_i c t fr hb
  split at h
  ·cases h
  ·rename_i hs
   exact⟨by simpa using hs,FR.2 ⟨c,t,fr,hb⟩,c,t,fr,hb,h⟩
 ·cases h
theorem KU{W:World}(hg:isCells W 0=true)(v:Value):VRel (seenM W) (seenV W v) v:=by
 unfold seenV
 split
 ·exact .int _ _
 ·exact .string _
 ·exact .nilSlice _ _
 ·rename_i a l c
  by_cases h:l=0∧c=0
  ·rw[if_pos h]
   obtain⟨rfl,rfl⟩:=h
   exact .empty (e:=⟨0,0,true,none⟩) (by unfold seenM;rw[if_pos hg])
  ·rw[if_neg h]
   by_cases h2:a.spot=none∧isCells W a.block=true
   ·rw[if_pos h2]
    have:=VRel.slice (m:=seenM W) (b:=a.block) (off:=a.off) (l:=l) (c:=c) (c':=c) (e:=⟨a.block,0,true,none⟩) (by unfold seenM;rw[if_pos h2.2]) (.inl rfl)
    obtain⟨b,off,sp⟩:=a
    obtain⟨rfl,_⟩:=h2
    simpa using this
   ·rw[if_neg h2]
    exact .unknown _
 ·exact .unknown _
theorem AlT{W:World}(hg:isCells W 0=true):@Rel (varPins W) Top (seenM W) (seenS W) W:=by
 letI:=varPins W
 refine⟨fun b ent e _ hb he=>?_,fun b b' ent ent' e e' hne hb hb' _ _ he he'=>?_,fun b e he=>?_,fun b ent hb=>(Aba W b ent hb).1,fun k o hk=>⟨hk.2,fun b e he hro=>?_⟩⟩
 ·rw[KS] at hb
  obtain⟨c,t,fr,h1,rfl,h2⟩:=Oi hb
  unfold seenM at he
  rw[if_pos (FR.2 ⟨c,t,fr,h1⟩)] at he
  cases he
  refine⟨rfl,c,t,fr,h1,(fun h=>by cases h),fun i v hv=>?_,trivial⟩
  rw[List.getElem?_map] at hv
  cases hc:c.toList[i]? with
  | none=>rw[hc] at hv;cases hv
  | some v'=>
   rw[hc] at hv
   cases hv
   exact⟨v',by rw[Nat.zero_add];simpa using hc,KU hg v'⟩
 ·unfold seenM at he he'
  split at he
  ·split at he'
   ·cases he
    cases he'
    exact hne
   ·cases he'
  ·cases he
 ·unfold seenM at he
  split at he
  ·rename_i h
   cases he
   obtain⟨c,t,fr,h1⟩:=FR.1 h
   have:=(Array.getElem?_eq_some_iff.1 h1).1
   exact⟨this,this⟩
  ·cases he
 ·unfold seenM at he
  split at he
  ·cases he
   cases hro
  ·cases he
theorem AoN{W:World}:∀b e,seenM W b=some e→e.ro=true:=fun b e h=>by
 unfold seenM at h
 split at h
 ·cases h
  rfl
 ·cases h
def seenA(W:World)(v:Value):Value:=match v with
 | .agg cs=>.agg (cs.toList.map (seenV W)).toArray
 | v=>seenV W v
theorem AdV{W:World}(hg:isCells W 0=true)(v:Value):VRel (seenM W) (seenA W v) v:=by
 unfold seenA
 split
 ·rename_i cs
  refine .agg (by simp) fun i x x' hx hx'=>?_
  simp only[List.getElem?_toArray,List.getElem?_map,Array.getElem?_toList,hx',Option.map_some,Option.some.injEq] at hx
  subst hx
  exact KU hg x'
 ·exact KU hg _
theorem Uh{W:World}(hg:isCells W 0=true)(vs:List Value):LRel (seenM W) (vs.map (seenA W)) vs:=by
 refine⟨by simp,fun i v v' h h'=>?_⟩
 rw[List.getElem?_map,h'] at h
 cases h
 exact AdV hg v'
theorem AdW{W:World}{a:Addr}{len cap:Nat}{zs:List Int}(hl:len≤cap)(hz:zs.length=cap)(hc:∀i,i<zs.length→W.cell? (a.add i)=some (.int .i64 (zs.getD i 0))):
  ∃p c,seenV W (.slice (some a) len cap)=.slice p len c∧Ints (seenS W) p (zs.take len)∧(zs.take len).length=len∧∀q,p=some q→q.block=0∨isCells W q.block=true:=by
 have hlen:(zs.take len).length=len:=by rw[List.length_take];omega
 by_cases h0:len=0∧cap=0
 ·obtain⟨rfl,rfl⟩:=h0
  refine⟨some ⟨0,0,none⟩,0,rfl,fun i n h=>by simp at h,hlen,fun q hq=>.inl (by cases hq;rfl)⟩
 ·have hfirst:=hc 0 (by omega)
  have ha0:a.add 0=a:=by unfold Addr.add;rw[if_pos rfl]
  rw[ha0] at hfirst
  obtain⟨hs,hcl,c,t,fr,hb,_⟩:=ES hfirst
  refine⟨some ⟨a.block,a.off,none⟩,cap,?_,fun i n h=>?_,hlen,fun q hq=>.inr (by cases hq;exact hcl)⟩
  ·unfold seenV
   simp only
   rw[if_neg h0,if_pos ⟨hs,hcl⟩]
  ·refine⟨a.block,a.off,_,rfl,Oj hb,?_⟩
   have hi:i<len:=by
    have:=(List.getElem?_eq_some_iff.1 h).1
    omega
   have h1:=hc i (by omega)
   have hadd:a.add i=⟨a.block,a.off+i,none⟩:=by
    unfold Addr.add
    by_cases hi0:i=0
    ·rw[if_pos hi0]
     subst hi0
     obtain⟨x,y,z⟩:=a
     cases hs
     rfl
    ·rw[if_neg hi0]
   rw[hadd] at h1
   obtain⟨_,_,c',t',fr',hb',hcv⟩:=ES h1
   simp only at hb' hcv
   rw[hb] at hb'
   cases hb'
   rw[List.getElem?_map,Array.getElem?_toList,hcv]
   rw[List.getElem?_take,if_pos hi] at h
   rw[List.getD_eq_getElem?_getD,h]
   rfl
end
section
open Go Go.Eng
noncomputable def fieldsD:Array Field:=match Tryz.prog.underlying TD with
 | some (.struct fs)=>fs
 | _=>#[]
theorem IG:Tryz.prog.underlying TD=some (.struct fieldsD):=by kernel_rfl
theorem Al0:Tryz.prog.underlying TL=some (.slice TD):=by kernel_rfl
theorem Uj:Tryz.prog.underlying TI=some (.int .i64):=by kernel_rfl
theorem Z4:Tryz.prog.underlying 9=some .string:=by kernel_rfl
theorem AbC:(fieldsD[0]?).map (fun f=>(f.type,f.offset))=some (TI,0):=by kernel_rfl
theorem AbD:(fieldsD[1]?).map (fun f=>(f.type,f.offset))=some (TI,1):=by kernel_rfl
theorem AbE:(fieldsD[2]?).map (fun f=>(f.type,f.offset))=some (9,2):=by kernel_rfl
theorem AbF:(fieldsD[3]?).map (fun f=>(f.type,f.offset))=some (TL,3):=by kernel_rfl
theorem IR:Tryz.prog.cellsOf TD=4:=by kernel_rfl
theorem Uy:Tryz.prog.cellsOf TI=1:=by kernel_rfl
theorem MA:Tryz.prog.cellsOf 9=1:=by kernel_rfl
theorem QB:Tryz.prog.cellsOf TL=1:=by kernel_rfl
theorem K3{α:Type}{P:Nat→α→Prop}:∀(n:Nat),(∀i,i<n→∃d,P i d)→∃ds:List α,ds.length=n∧∀i d,ds[i]? = some d→P i d
 | 0,_=>⟨[],rfl,fun i d h=>by simp at h⟩
 | n+1,h=>by
  obtain⟨ds,h1,h2⟩:=K3 n fun i hi=>h i (by omega)
  obtain⟨d,hd⟩:=h n (by omega)
  refine⟨ds++[d],by simp[h1],fun i e he=>?_⟩
  by_cases hi:i<ds.length
  ·rw[List.getElem?_append_left hi] at he
   exact h2 i e he
  ·rw[List.getElem?_append_right (by omega)] at he
   have:i-ds.length=0:=by
    have:=(List.getElem?_eq_some_iff.1 he).1
    simp at this
    omega
   rw[this] at he
   cases he
   obtain rfl:i=n:=by omega
   exact hd
theorem M6{R:Nat→Prop}{σ:FState}{b off:Nat}{cs:List Value}(hb:σ.cells b=some cs)(hR:R b):∀(es:List D) (i:Nat),(∀j e,es[j]? = some e→4≤cs.length-(off+(i+j)*4)∧LaidR R σ (.agg ((cs.drop (off+(i+j)*4)).take 4).toArray) e)→LaidRE R σ (some ⟨b,off,none⟩) i es
 | [],_,_=>trivial
 | e::es,i,h=>by
  have h0:=h 0 e rfl
  refine⟨⟨b,off,cs,rfl,hR,hb,h0.1,h0.2⟩,M6 hb hR es (i+1) fun j e' he=>?_⟩
  have:=h (j+1) e' (by simpa using he)
  rwa [show i+(j+1)=i+1+j by omega] at this
theorem Um{a:Addr}(h:a.spot=none)(n:Nat):a.add n=⟨a.block,a.off+n,none⟩:=by
 unfold Addr.add
 by_cases hn:n=0
 ·rw[if_pos hn]
  subst hn
  obtain⟨x,y,z⟩:=a
  cases h
  rfl
 ·rw[if_neg hn]
theorem Amj{W:World}{b o:Nat}{c:Array Value}{t:TypeId}{fr:Nat×Nat}(h:W.heap[b]? = some (.cells c t fr)):W.cell? ⟨b,o,none⟩=c[o]?:=by
 unfold World.cell?
 simp only[h]
 rfl
theorem Ae4{i t o:Nat}(h:(fieldsD[i]?).map (fun f=>(f.type,f.offset))=some (t,o)):∃f,fieldsD[i]? = some f∧f.type=t∧f.offset=o:=by
 cases hf:fieldsD[i]? with
 | none=>rw[hf] at h;cases h
 | some f=>
  rw[hf] at h
  cases h
  exact⟨f,rfl,rfl,rfl⟩
theorem Ep{α:Type}{l:List α}(h:l.length=4):∃a b c d,l=[a,b,c,d]:=by
 match l,h with
 | [a,b,c,d],_=>exact⟨a,b,c,d,rfl⟩
theorem Z3{H:Type}{enc:TypeId×Value→H}{W:World}{held:Bool}:∀(n:Nat) (cs:List Value) (x:DataW H×List MemPlace),DataW.trod enc Tryz.prog W 0 (fun _=>true) held n TD cs=some x→
  cs.length=4∧∃d:D,LaidR (fun b=>b<W.heap.size) (seenS W) (.agg (cs.map (seenV W)).toArray) d:=by
 intro n
 induction n with
 | zero=>intro cs x h;simp[DataW.trod] at h
 | succ n ih=>
  intro cs x h
  obtain⟨xs,m,hm,hx,hl,hxl,hf⟩:=DataW.trod_struct IG h
  obtain rfl:m=n:=by omega
  rw[IR] at hl
  refine⟨hl,?_⟩
  have hsz:fieldsD.size=4:=by kernel_rfl
  rw[hsz] at hxl
  obtain⟨c0,c1,c2,c3,rfl⟩:=Ep hl
  have get:∀ {i t o:Nat},(fieldsD[i]?).map (fun f=>(f.type,f.offset))=some (t,o)→∃y,DataW.trod enc Tryz.prog W 0 (fun _=>true) held m t (([c0,c1,c2,c3].drop o).take (Tryz.prog.cellsOf t))=some y:=fun {i t o} hi=>by
   obtain⟨f,h1,h2,h3⟩:=Ae4 hi
   have:=hf i f h1
   rw[h2,h3] at this
   have hlt:i<xs.length:=by
    have:=(Array.getElem?_eq_some_iff.1 h1).1
    omega
   exact⟨xs[i],by rw[this,List.getElem?_eq_getElem hlt]⟩
  obtain⟨y0,h0⟩:=get AbC
  obtain⟨y1,h1⟩:=get AbD
  obtain⟨y2,h2⟩:=get AbE
  obtain⟨y3,h3⟩:=get AbF
  rw[Uy] at h0 h1
  rw[MA] at h2
  rw[QB] at h3
  obtain⟨k,e0,_,_⟩:=DataW.trod_int Uj h0
  obtain⟨z,e1,_,_⟩:=DataW.trod_int Uj h1
  obtain⟨t,e2,_,_⟩:=DataW.trod_string Z4 h2
  obtain rfl:c0=.int .i64 k:=by simpa using e0
  obtain rfl:c1=.int .i64 z:=by simpa using e1
  obtain rfl:c2=.string t:=by simpa using e2
  rcases DataW.trod_slice Al0 h3 with⟨e3,_⟩|⟨a,len,cap,elems,rest,m',hm',e3,_,_,hle,hmx,hel,hes,hsp,_⟩
  ·obtain rfl:c3=.slice none 0 0:=by simpa using e3
   exact⟨.mk k z t [],none,0,rfl,trivial⟩
  ·obtain rfl:c3=.slice (some a) len cap:=by simpa using e3
   obtain⟨hrl,hrs⟩:=hsp rfl
   rw[IR] at hes hrs
   by_cases h00:len=0∧cap=0
   ·obtain⟨rfl,rfl⟩:=h00
    exact⟨.mk k z t [],some ⟨0,0,none⟩,0,rfl,trivial⟩
   ·have hfirst:∃v,W.cell? a=some v:=by
     have ha0:a.add 0=a:=by unfold Addr.add;rw[if_pos rfl]
     have key:∀ {y:DataW H×List MemPlace},(W.cells? 0 (a.add 0) 4).bind (DataW.trod enc Tryz.prog W 0 (fun _=>true) held m' TD)=some y→∃v,W.cell? a=some v:=fun hb=>by
      rw[Option.bind_eq_some_iff] at hb
      obtain⟨cs',hc',_⟩:=hb
      obtain⟨_,hl',hg⟩:=World.cells?_some hc'
      have:=hg 0 (by omega)
      rw[ha0,ha0,List.getElem?_eq_getElem (by omega)] at this
      exact⟨_,this⟩
     by_cases hl0:0<len
     ·have:=hes 0 hl0
      rw[Nat.zero_mul,List.getElem?_eq_getElem (by omega)] at this
      exact key this
     ·have:=hrs 0 (by omega)
      obtain rfl:len=0:=by omega
      rw[Nat.add_zero,Nat.zero_mul,List.getElem?_eq_getElem (by omega)] at this
      exact key this
    obtain⟨v0,hv0⟩:=hfirst
    obtain⟨hsn,hic,c,ty,fr,hb,_⟩:=ES hv0
    have hlt:a.block<W.heap.size:=(Array.getElem?_eq_some_iff.1 hb).1
    have hσ:=Oj hb
    have each:∀i,i<len→∃d:D,4≤(c.toList.map (seenV W)).length-(a.off+i*4)∧LaidR (fun b=>b<W.heap.size) (seenS W) (.agg (((c.toList.map (seenV W)).drop (a.off+i*4)).take 4).toArray) d:=fun i hi=>by
     have hb':=hes i hi
     rw[List.getElem?_eq_getElem (by omega),Option.bind_eq_some_iff] at hb'
     obtain⟨cs',hc',ht'⟩:=hb'
     obtain⟨_,hl',hg⟩:=World.cells?_some hc'
     have hcell:∀j,j<4→c[a.off+i*4+j]? = cs'[j]?:=fun j hj=>by
      have:=hg j hj
      rw[Um hsn,Um rfl,Amj hb] at this
      exact this
     obtain⟨_,d,hd⟩:=ih cs' _ (by obtain rfl:m'+1=m:=hm'.symm;exact DataW.trod_le (Nat.le_succ _) ht')
     have h3':=hcell 3 (by omega)
     rw[List.getElem?_eq_getElem (by omega)] at h3'
     have hsz':=(Array.getElem?_eq_some_iff.1 h3').1
     refine⟨d,by simp;omega,?_⟩
     have e:((c.toList.map (seenV W)).drop (a.off+i*4)).take 4=cs'.map (seenV W):=by
      apply List.ext_getElem?
      intro j
      rw[List.getElem?_take]
      by_cases hj:j<4
      ·rw[if_pos hj,List.getElem?_drop,List.getElem?_map,Array.getElem?_toList,hcell j hj,List.getElem?_map]
      ·rw[if_neg hj,List.getElem?_eq_none (by simp;omega)]
     rw[e]
     exact hd
    obtain⟨ds,hds,hD⟩:=K3 len each
    refine⟨.mk k z t ds,some ⟨a.block,a.off,none⟩,cap,?_,?_⟩
    ·show Value.agg _=_
     have:seenV W (.slice (some a) len cap)=.slice (some ⟨a.block,a.off,none⟩) len cap:=by
      unfold seenV
      simp only
      rw[if_neg h00,if_pos ⟨hsn,hic⟩]
     rw[hds]
     simp only[List.map_cons,List.map_nil,this]
     rfl
    ·refine M6 hσ hlt ds 0 fun j e he=>?_
     rw[Nat.zero_add]
     exact hD j e he
end
section
open Go Go.Eng
attribute [local congr] Ab Ah Af Ad Ae
attribute [-go_sem] List.range_succ
end
section
open Go Go.Eng
attribute [local congr] Ab Ah Af Ad Ae
attribute [-go_sem] List.range_succ
theorem Ja(R:Nat→Prop)(σ:FState)(b:Nat)(l0 l1 l2:List Value)(h0:l0.length=4)(h1:l1.length=4)(h2:l2.length=4)(d0 d1 d2:D)(hR:R b)(hc:σ.cells b=some (l0++l1++l2))(k0:LaidR R σ (.agg l0.toArray) d0)(k1:LaidR R σ (.agg l1.toArray) d1)(k2:LaidR R σ (.agg l2.toArray) d2):LaidRE R σ (some ⟨b,0,none⟩) 0 [d0,d1,d2]:=by
 obtain⟨a0,a1,a2,a3,rfl⟩:=Ep h0
 obtain⟨b0,b1,b2,b3,rfl⟩:=Ep h1
 obtain⟨c0,c1,c2,c3,rfl⟩:=Ep h2
 exact⟨⟨b,0,_,rfl,hR,hc,by simp,k0⟩,⟨b,0,_,rfl,hR,hc,by simp,k1⟩,⟨b,0,_,rfl,hR,hc,by simp,k2⟩,trivial⟩
def Alk(E:Env)(ro:Option Nat)(fn:FuncId):RunF:=seqR (drawR E ro AsL) (seqR (seqR (fops E ro AsM) (blockR 0 (loopR (keepOf nls fn) (AbS E ro fn)))) (seqR (fops E ro AkP) retR))
def Alj(E:Env)(ro:Option Nat)(fn:FuncId):RunF:=seqR (fops E ro AsH) (seqR (fops E ro AsI) (seqR (fops E ro AsJ) (seqR (drawR E ro AsK) (Alk E ro fn))))
theorem AdR(E:Env)(ro:Option Nat)(fn:FuncId):AsQ E ro fn=seqR (fops E ro AsD) (seqR (seqR (fops E ro AsE) (condR (fun a=>a.get 32) (seqR (fops E ro AsG) retR) skipR)) (Alj E ro fn)):=rfl
theorem OZ(q b4 b5 b6 b10 b12 cn kk:Nat)(a b c x t:D)(la lb lc lx lt:List Value)(ha4:la.length=4)(hb4:lb.length=4)(hc4:lc.length=4)(hx4:lx.length=4)(ht4:lt.length=4)(f g:Nat→Value)(σ:FState)(hw:Wf σ)(hC:Coil σ cn kk)(hkk:kk+1000<100000000)(c4:σ.cells b4=some la)(c5:σ.cells b5=some lb)(c6:σ.cells b6=some lc)(c10:σ.cells b10=some lx)(c12:σ.cells b12=some lt)(m4:b4≠cn)(m5:b5≠cn)(m6:b6≠cn)(m10:b10≠cn)(m12:b12≠cn)(hA:LaidR (fun b=>b<σ.next∧b≠cn) σ (.agg la.toArray) a)(hB:LaidR (fun b=>b<σ.next∧b≠cn) σ (.agg lb.toArray) b)(hCC:LaidR (fun b=>b<σ.next∧b≠cn) σ (.agg lc.toArray) c)(hX:LaidR (fun b=>b<σ.next∧b≠cn) σ (.agg lx.toArray) x)(hT:LaidR (fun b=>b<σ.next∧b≠cn) σ (.agg lt.toArray) t)(ka:a.count≤150)(kb:b.count≤150)(kc:c.count≤150)(kx:x.count≤150)(kt:t.count≤150)(f4:f 4=.pointer (some ⟨b4,0,none⟩))(f5:f 5=.pointer (some ⟨b5,0,none⟩))(f6:f 6=.pointer (some ⟨b6,0,none⟩))(f9:f 9=.pointer (some ⟨cn,0,none⟩))(f10:f 10=.pointer (some ⟨b10,0,none⟩))(f12:f 12=.pointer (some ⟨b12,0,none⟩)):
  ∃σ',leaveR Tryz.prog (top (q+6000)) [.tmp 8] (Alk (top (q+6000)) none 7 (Sl 23 125 f g []) none σ)=.ret (.bool true) none σ':=by
 have hv3:wound 3≤1000:=by simp[wound]
 obtain⟨vy,y,σ1,k1,e1,hY,mY,x1,hw1,_,_,_⟩:=I4 (q+5993) cn 3 (by omega) kk σ (by omega) hw hC
 replace e1:(top (q+6000)).call 11 [.pointer (some ⟨cn,0,none⟩),.int .i64 3] none σ=.ret vy none σ1:=(En _ _ _ _ rfl).trans e1
 have ym:=((Pq 0 mY) []).1
 rw[DV] at ym
 have hm3:most 3=40:=by decide
 rw[hm3] at ym
 obtain⟨ly,rfl,hy4,hyo⟩:=hY.agg
 obtain⟨a0,a1,a2,a3,rfl⟩:=Ep ha4
 obtain⟨i0,i1,i2,i3,rfl⟩:=Ep hb4
 obtain⟨j0,j1,j2,j3,rfl⟩:=Ep hc4
 obtain⟨x0,y1,x2,x3,rfl⟩:=Ep hx4
 obtain⟨t0,t1,t2,t3,rfl⟩:=Ep ht4
 obtain⟨y0,y2,y3,y4,rfl⟩:=Ep hy4
 have n1:=x1.next
 have h1:∀b cs,b≠cn→σ.cells b=some cs→σ1.cells b=some cs:=fun b cs hb hc=>(x1.cells (hw.cells hc) hb).trans hc
 have vo:∀ {τ:FState} {b:Nat} {cs:List Value},σ.cells b=some cs→b≠cn→(∀b,b<σ1.next→τ.heap.get b=σ1.heap.get b)→(view τ σ.clock).cells b=some cs:=fun hc hb hk=>ED hw (Nat.le_refl _) ((hk _ (by have:=hw.cells hc;omega)).trans (x1.get _ (hw.cells hc) hb)) hc
 have p1:∀b,b<σ1.next→(σ1.push (.cells [a0,a1,a2,a3,x0,y1,x2,x3,x0,y1,x2,x3] TD) none).heap.get b=σ1.heap.get b:=fun b hb=>by rw[Ai,if_neg (by omega)]
 have p2:∀b,b<σ1.next→((σ1.push (.cells [a0,a1,a2,a3,x0,y1,x2,x3,x0,y1,x2,x3] TD) none).push (.cells [i0,i1,i2,i3,t0,t1,t2,t3,i0,i1,i2,i3] TD) none).heap.get b=σ1.heap.get b:=fun b hb=>by rw[Ai,if_neg (by rw[Aa];omega),p1 b hb]
 have v4:=vo c4 m4 (τ:=σ1) fun b hb=>rfl
 have v10:=vo c10 m10 (τ:=σ1) fun b hb=>rfl
 have v5:=vo c5 m5 p1
 have v12:=vo c12 m12 p1
 have v6:=vo c6 m6 p2
 have X:Ext σ1 (((σ1.push (.cells [a0,a1,a2,a3,x0,y1,x2,x3,x0,y1,x2,x3] TD) none).push (.cells [i0,i1,i2,i3,t0,t1,t2,t3,i0,i1,i2,i3] TD) none).push (.cells [j0,j1,j2,j3,y0,y2,y3,y4,j0,j1,j2,j3] TD) none):=(((Ext.refl _).push _ _).push _ _).push _ _
 have hw2:=((hw1.push (.cells [a0,a1,a2,a3,x0,y1,x2,x3,x0,y1,x2,x3] TD) none).push (.cells [i0,i1,i2,i3,t0,t1,t2,t3,i0,i1,i2,i3] TD) none).push (.cells [j0,j1,j2,j3,y0,y2,y3,y4,j0,j1,j2,j3] TD) none
 have g1:(((σ1.push (.cells [a0,a1,a2,a3,x0,y1,x2,x3,x0,y1,x2,x3] TD) none).push (.cells [i0,i1,i2,i3,t0,t1,t2,t3,i0,i1,i2,i3] TD) none).push (.cells [j0,j1,j2,j3,y0,y2,y3,y4,j0,j1,j2,j3] TD) none).cells σ1.next=some [a0,a1,a2,a3,x0,y1,x2,x3,x0,y1,x2,x3]:=by rw[Ac,if_neg (by simp only[Aa];omega),Ac,if_neg (by rw[Aa];omega),Ac,if_pos rfl];rfl
 have g2:(((σ1.push (.cells [a0,a1,a2,a3,x0,y1,x2,x3,x0,y1,x2,x3] TD) none).push (.cells [i0,i1,i2,i3,t0,t1,t2,t3,i0,i1,i2,i3] TD) none).push (.cells [j0,j1,j2,j3,y0,y2,y3,y4,j0,j1,j2,j3] TD) none).cells (σ1.next+1)=some [i0,i1,i2,i3,t0,t1,t2,t3,i0,i1,i2,i3]:=by rw[Ac,if_neg (by simp only[Aa];omega),Ac,if_pos (by rw[Aa])];rfl
 have g3:(((σ1.push (.cells [a0,a1,a2,a3,x0,y1,x2,x3,x0,y1,x2,x3] TD) none).push (.cells [i0,i1,i2,i3,t0,t1,t2,t3,i0,i1,i2,i3] TD) none).push (.cells [j0,j1,j2,j3,y0,y2,y3,y4,j0,j1,j2,j3] TD) none).cells (σ1.next+2)=some [j0,j1,j2,j3,y0,y2,y3,y4,j0,j1,j2,j3]:=by rw[Ac,if_pos (by simp only[Aa])];rfl
 have n2:(((σ1.push (.cells [a0,a1,a2,a3,x0,y1,x2,x3,x0,y1,x2,x3] TD) none).push (.cells [i0,i1,i2,i3,t0,t1,t2,t3,i0,i1,i2,i3] TD) none).push (.cells [j0,j1,j2,j3,y0,y2,y3,y4,j0,j1,j2,j3] TD) none).next=σ1.next+3:=rfl
 unfold Alk
 simp -implicitDefEqProofs only[go_sem,AoF,AkV,AoG,AkW,f4,f5,f6,f9,f10,f12,e1,v4,v5,v6,v10,v12,Nat.le_refl]
 generalize (((σ1.push (.cells [a0,a1,a2,a3,x0,y1,x2,x3,x0,y1,x2,x3] TD) none).push (.cells [i0,i1,i2,i3,t0,t1,t2,t3,i0,i1,i2,i3] TD) none).push (.cells [j0,j1,j2,j3,y0,y2,y3,y4,j0,j1,j2,j3] TD) none)=σ2 at X hw2 g1 g2 g3 n2 ⊢
 have st:∀ {v:Value} {d:D},LaidR (fun b=>b<σ.next∧b≠cn) σ v d→LaidR (fun b=>b<σ2.next) σ2 v d:=fun h=>h.keep fun b cs hb hc=>⟨(X.cells (by have:=hb.1;omega)).trans (h1 b cs hb.2 hc),by have:=hb.1;omega⟩
 have sY:LaidR (fun b=>b<σ2.next) σ2 (.agg [y0,y2,y3,y4].toArray) y:=hY.keep fun b cs hb hc=>⟨(X.cells (hw1.cells hc)).trans hc,by have:=hw1.cells hc;omega⟩
 have lp:=fun fuel f g hf h14 h15 h16 h17=>OX q [a,x,x] [b,t,b] [c,y,c] (some ⟨σ1.next,0,none⟩) (some ⟨σ1.next+1,0,none⟩) (some ⟨σ1.next+2,0,none⟩) 3 3 3 rfl rfl (by simp) (fun d hd=>by simp at hd;rcases hd with rfl|rfl|rfl<;>omega) (fun d hd=>by simp at hd;rcases hd with rfl|rfl|rfl<;>omega) (fun d hd=>by simp at hd;rcases hd with rfl|rfl|rfl<;>omega)
  3 fuel 0 f g σ2 rfl hf (by simp) hw2 (Ja _ _ _ _ _ _ rfl rfl rfl a x x (by omega) g1 (st hA) (st hX) (st hX)) (Ja _ _ _ _ _ _ rfl rfl rfl b t b (by omega) g2 (st hB) (st hT) (st hB)) (Ja _ _ _ _ _ _ rfl rfl rfl c y c (by omega) g3 (st hCC) sY (st hCC)) h14 h15 h16 h17
 generalize hbf:bigFuel=fuel
 generalize hff:upd _ 17 _=f1
 generalize hgg:upd _ 65 _=gg
 obtain⟨f',g',σ',h⟩:=lp fuel f1 gg (by rw[←hbf];show 3<1000000000000;omega) (by rw[←hff];simp -implicitDefEqProofs only[go_sem,reduceCtorEq]<;>rfl) (by rw[←hff];simp -implicitDefEqProofs only[go_sem,reduceCtorEq]<;>rfl) (by rw[←hff];simp -implicitDefEqProofs only[go_sem,reduceCtorEq]<;>rfl) (by rw[←hff];simp -implicitDefEqProofs only[go_sem,reduceCtorEq]<;>rfl)
 rw[h]
 simp -implicitDefEqProofs only[go_sem,AkQ,Y_,IE]
 exact⟨_,rfl⟩
end
section
open Go Go.Eng
attribute [local congr] Ab Ah Af Ad Ae
attribute [-go_sem] List.range_succ
end
section
open Go Go.Eng
def AllWhole(d:D):Prop:=∀p,∀y∈d.pieces p,y.2.parts.length≤3∧WholeD y.2
theorem AllWhole.head{k z:Int}{t:ByteArray}{ds:List D}(h:AllWhole (.mk k z t ds)):ds.length≤3∧Whole k z t ds.length:=by
 have h1:=h [] ([],.mk k z t ds) (by rw[D.pieces_eq];exact List.mem_cons_self)
 exact h1
theorem AllWhole.part{k z:Int}{t:ByteArray}{ds:List D}(h:AllWhole (.mk k z t ds)){i:Nat}{d:D}(hd:ds[i]? = some d):∀y∈d.pieces ([]++[0+i]),y.2.parts.length≤3∧WholeD y.2:=fun y hy=>
 h [] y (by rw[D.pieces_eq];exact List.mem_cons_of_mem _ (JM [] ds 0 i d hd y hy))
end
section
open Go Go.Eng
attribute [local congr] Ab Ah Af Ad Ae
attribute [-go_sem] List.range_succ
def CapV(v:Value):Prop:=∃a n c,v=.slice a n c∧n≤c
def FulB(σ:FState)(b:Nat):Prop:=∃vs fz ver,σ.heap.get b=some ⟨.cells vs TI,false,fz,ver⟩∧(fz=none∨fz=some 1)
theorem FulB.keep{σ σ':FState}{b:Nat}(h:FulB σ b)(hb:σ'.heap.get b=σ.heap.get b):FulB σ' b:=by
 obtain⟨vs,fz,ver,h1,h2⟩:=h
 exact⟨vs,fz,ver,hb.trans h1,h2⟩
theorem Ae6{σ:FState}{b:Nat}{s:Value}{vs:List Value}(h:Ful TI σ b s vs):FulB σ b:=by
 obtain⟨fz,ver,h1,h2,h3⟩:=h
 exact⟨vs,fz,ver,h2,h3⟩
structure HeadPb (bd bo base:Nat) (R:Nat→Prop) (k z:Int) (t:ByteArray) (q:Option Addr) (c:Nat) (ds:List D) (at':List Nat) (atv:Value) (us:List Value) (ps:List (List Nat)) (σ0:FState) (i:Nat) (f:Nat→Value) (σ:FState):Prop where
 f1:f 1=atv
 f2:f 2=.pointer (some ⟨bd,0,none⟩)
 f5:Ful TP σ bo (f 5) us
 f6:f 6=.int .i64 (.ofNat i)
 cd:σ.cells bd=some [.int .i64 k,.int .i64 z,.string t,.slice q ds.length c]
 lay:LaidRE R σ q 0 ds
 low:∀b,R b→b<base
 atp:PathV (· < base) σ atv at'
 hbd:base≤bd∧bd≠bo
 hbo:base≤bo
 lst:PathsL (fun b=>base≤b∧b≠bo∧FulB σ b) σ us ps
 caps:∀u,u∈us→CapV u
 wf:Wf σ
 ext:Ext σ0 σ
 le:i≤ds.length
 few:ds.length<10000
def PathsBt(m:Nat)(d:D):Prop:=∀(at':List Nat) (v atv:Value) (R Q:Nat→Prop) (σ:FState),Wf σ→LaidR R σ v d→PathV Q σ atv at'→at'.length+d.deep<1000→(d.pieces at').length<10000→
 Gives ((env m).call 22 [v,atv] none σ) σ fun w σ'=>∃b us,σ.next≤b∧Ful TP σ' b w us∧PathsL (fun b=>σ.next≤b∧FulB σ' b) σ' us ((d.pieces at').map (·.1))∧∀u,u∈us→CapV u
theorem Q9(m:Nat){bd bo base:Nat}{R:Nat→Prop}{k z:Int}{t:ByteArray}{q:Option Addr}{c:Nat}{ds:List D}{at':List Nat}{atv:Value}{us:List Value}{ps:List (List Nat)}{σ0:FState}{i:Nat}{f:Nat→Value}{σ:FState}(d:D)(hP:PathsBt m d)(h:HeadPb bd bo base R k z t q c ds at' atv us ps σ0 i f σ)(hb0:σ0.next=base)(hd:ds[i]? = some d)(hlen:at'.length+1+d.deep<1000)(hcount:us.length+(d.pieces (at'++[i])).length<10000)(g:Nat→Value):
  ∃f' g' σ' bo' us',Vt (env m) none 22 (Sl 7 33 f g []) none σ=.done .normal (Sl 7 33 f' g' []) none σ'∧HeadPb bd bo' base R k z t q c ds at' atv us' (ps++(d.pieces (at'++[i])).map (·.1)) σ0 (i+1) f' σ':=by
 have hi:i<ds.length:=(List.getElem?_eq_some_iff.1 hd).1
 have d1:decide (Int.ofNat i<Int.ofNat ds.length)=true:=by simp;omega
 obtain⟨b,off,cs,rfl,hRb,hcs,hle,hL⟩:=LaidRE.get h.lay hd
 rw[Nat.zero_add] at hle hL
 have w3:=GH i (by have:=h.few;omega)
 have l4:((cs.drop (off+i*4)).take 4).length=4:=by rw[List.length_take,List.length_drop];omega
 have hbase:base≤σ.next:=by have:=h.ext.next;omega
 have F1:Ful TI (σ.push (.cells [] TI) none) σ.next (.slice (some ⟨σ.next,0,none⟩) 0 0) []:=Ful.push TI σ []
 have hw1:=h.wf.push (.cells [] TI) none
 have a1:PathV (· < base) (σ.push (.cells [] TI) none) atv at':=h.atp.keep fun b c hb hc=>⟨by rw[Ac,if_neg (by omega)];exact hc,hb⟩
 obtain⟨b2,s2,σ2,e2,F2,hb2,ch2,hw2⟩:=F1.append hw1 atv (intsOf at') 8 a1.fnew (I9 _) (by omega) (by simp[DU];omega)
 have F3:=F2.keep (σ':=σ2.push (.cells [.int .i64 (.ofNat i)] TI) none) (by rw[Ai,if_neg (by have:=F2.lt hw2;omega)])
 have hw3:=hw2.push (.cells [.int .i64 (.ofNat i)] TI) none
 have c3:(σ2.push (.cells [.int .i64 (.ofNat i)] TI) none).cells σ2.next=some ([.int .i64 (.ofNat i)]++[]):=by rw[Ac,if_pos rfl];rfl
 obtain⟨b4,s4,σ4,e4,F4,hb4,ch4,hw4⟩:=F3.append hw3 (.slice (some ⟨σ2.next,0,none⟩) 1 1) [.int .i64 (.ofNat i)] 8 (Gh σ2.next 1 1 _ [] c3 rfl) rfl (by omega) (by simp[DU];omega)
 have hb2':σ.next≤b2:=by
  rcases hb2 with rfl|rfl
  ·exact Nat.le_refl _
  ·rw[Aa];omega
 have hb4':σ.next≤b4:=by
  have:=ch2.next
  rw[Aa] at this
  rcases hb4 with rfl|rfl
  ·exact hb2'
  ·rw[Aa];omega
 have x4:Ext σ σ4:=by
  have c1:=ch2.next
  have c2:=ch4.next
  have k1:=ch2.clock
  have k2:=ch4.clock
  rw[Aa] at c1 c2
  rw[Bd] at k1 k2
  refine⟨by omega,by omega,fun x hx=>?_⟩
  rw[ch4.get x (by rw[Aa];omega) (by omega),Ai,if_neg (by omega),ch2.get x (by rw[Aa];omega) (by omega),Ai,if_neg (by omega)]
 have hpath:intsOf at'++[.int .i64 (.ofNat i)]=intsOf (at'++[i]):=by simp[intsOf]
 rw[List.nil_append,hpath] at F4
 have P4:PathV (fun _=>True) σ4 s4 (at'++[i]):=by
  obtain⟨h1,h2⟩:=F4.cells
  rw[DU] at h1
  exact .inr ⟨b4,_,[],h1,trivial,by rw[List.append_nil];exact h2⟩
 obtain⟨w5,σ5,e5,x5,hw5,b5,us5,_,F5,L5,C5⟩:=hP (at'++[i]) (.agg ((cs.drop (off+i*4)).take 4).toArray) s4 R (fun _=>True) σ4 hw4 (hL.keep fun b c hb hc=>⟨(x4.cells (h.wf.cells hc)).trans hc,hb⟩) P4 (by rw[List.length_append,List.length_singleton];exact hlen) (by omega)
 have x15:=x4.trans x5
 have n4:=x4.next
 have n5:=x5.next
 have hbon:=h.f5.lt h.wf
 have G5:Ful TP σ5 bo (f 5) us:=h.f5.keep (x15.get bo hbon)
 obtain⟨hw5v,hc5⟩:=F5.cells
 have l5:=L5.length
 rw[List.length_map] at l5
 obtain⟨b6,s6,σ6,e6,F6,hb6,ch6,hw6⟩:=G5.append hw5 w5 us5 24 (by rw[hw5v];exact Gh b5 us5.length us5.length us5 [] (by rw[List.append_nil];exact hc5) rfl) L5.all (by omega) (by rw[l5];omega)
 have vd:(view σ4 σ.clock).cells bd=some [.int .i64 k,.int .i64 z,.string t,.slice (some ⟨b,off,none⟩) ds.length c]:=ED h.wf (Nat.le_refl _) (x4.get bd (h.wf.cells h.cd)) h.cd
 have vb:(view σ4 σ.clock).cells b=some cs:=ED h.wf (Nat.le_refl _) (x4.get b (h.wf.cells hcs)) hcs
 unfold Vt
 simp -implicitDefEqProofs only[go_sem,VP,S3,AjX,Yo,h.f1,h.f2,h.f6,h.cd,d1,e2,e4,vd,vb,hi,hle,e5,e6]
 generalize hg:upd _ 31 _=g1
 clear hg
 simp -implicitDefEqProofs only[go_sem,AjW,Yn,h.f6,w3]
 have c56:∀b c,b≠bo→σ5.cells b=some c→σ6.cells b=some c:=fun b c hb hc=>(ch6.cells (hw5.cells hc) hb).trans hc
 have c06:∀b c,b≠bo→σ.cells b=some c→σ6.cells b=some c:=fun b c hb hc=>c56 b c hb ((x15.cells (h.wf.cells hc)).trans hc)
 have n6:=ch6.next
 have hbo:=h.hbo
 have hb6':base≤b6:=by rcases hb6 with rfl|rfl<;>omega
 have xx:=h.ext.trans x15
 refine⟨_,_,σ6,b6,us++us5,rfl,{
  f1:=by simp -implicitDefEqProofs only[go_sem,reduceCtorEq,h.f1]
  f2:=by simp -implicitDefEqProofs only[go_sem,reduceCtorEq,h.f2]
  f5:=by rw[show upd (upd f 5 s6) 6 (Value.int .i64 (.ofNat (i+1))) 5=s6 by simp -implicitDefEqProofs only[go_sem,reduceCtorEq]];exact F6
  f6:=by simp -implicitDefEqProofs only[go_sem,reduceCtorEq]
  cd:=c06 bd _ h.hbd.2 h.cd
  lay:=h.lay.keep fun b c hb hc=>⟨c06 b c (by have:=h.low b hb;omega) hc,hb⟩
  low:=h.low
  atp:=h.atp.keep fun b c hb hc=>⟨c06 b c (by omega) hc,hb⟩
  hbd:=⟨h.hbd.1,by
   have:=h.wf.cells h.cd
   rcases hb6 with rfl|rfl
   ·exact h.hbd.2
   ·omega⟩
  hbo:=hb6'
  lst:=(h.lst.keep fun b c hb hc=>⟨c06 b c hb.2.1 hc,hb.1,by
   have:=h.wf.cells hc
   rcases hb6 with rfl|rfl
   ·exact hb.2.1
   ·omega,hb.2.2.keep ((ch6.get b (by have:=h.wf.cells hc;omega) hb.2.1).trans (x15.get b (h.wf.cells hc)))⟩).append (L5.keep fun b c hb hc=>⟨c56 b c (by have:=hb.1;omega) hc,by have:=hb.1;omega,by
   have:=hw5.cells hc
   have:=hb.1
   rcases hb6 with rfl|rfl
   ·omega
   ·omega,hb.2.keep (ch6.get b (hw5.cells hc) (by have:=hb.1;omega))⟩)
  caps:=fun u hu=>by
   rcases List.mem_append.1 hu with hu|hu
   ·exact h.caps u hu
   ·exact C5 u hu
  wf:=hw6
  ext:=⟨by have:=xx.next;omega,by have:=xx.clock;have:=ch6.clock;omega,fun x hx=>(ch6.get x (by have:=xx.next;omega) (by omega)).trans (xx.get x hx)⟩
  le:=hi
  few:=h.few }⟩
theorem VG(m:Nat){bd base:Nat}{R:Nat→Prop}{k z:Int}{t:ByteArray}{q:Option Addr}{c:Nat}{ds:List D}{at':List Nat}{atv:Value}{σ0:FState}(total:List (List Nat))(hP:∀d∈ds,PathsBt m d)(hb0:σ0.next=base)(hdeep:∀d∈ds,at'.length+1+d.deep<1000)(hcount:total.length<10000):
  ∀(j fuel i:Nat) (bo:Nat) (us:List Value) (ps:List (List Nat)) (f g:Nat→Value) (σ:FState),i+j=ds.length→j<fuel→ps++(D.piecesL at' i (ds.drop i)).map (·.1)=total→HeadPb bd bo base R k z t q c ds at' atv us ps σ0 i f σ→
  ∃f' g' σ' bo' us',floop [32] (Vt (env m) none 22) fuel (Sl 7 33 f g []) none σ=.done (.exit 0) (Sl 7 33 f' g' []) none σ'∧HeadPb bd bo' base R k z t q c ds at' atv us' total σ0 ds.length f' σ':=by
 intro j
 induction j with
 | zero=>
  intro fuel i bo us ps f g σ hij hf ht h
  obtain⟨fuel,rfl⟩:∃q,fuel=q+1:=⟨fuel-1,by omega⟩
  obtain rfl:i=ds.length:=by omega
  rw[List.drop_length,D.piecesL,List.map_nil,List.append_nil] at ht
  subst ht
  have d1:decide (Int.ofNat ds.length<Int.ofNat ds.length)=false:=by simp
  rw[Ar,BU]
  unfold Vt
  simp -implicitDefEqProofs only[go_sem,VP,S3,h.f2,h.f6,h.cd,d1]
  exact⟨_,_,_,bo,us,rfl,h⟩
 | succ j ih=>
  intro fuel i bo us ps f g σ hij hf ht h
  obtain⟨fuel,rfl⟩:∃q,fuel=q+1:=⟨fuel-1,by omega⟩
  have hi:i<ds.length:=by omega
  have hd:ds[i]? = some ds[i]:=List.getElem?_eq_getElem hi
  have hdr:ds.drop i=ds[i]::ds.drop (i+1):=List.drop_eq_getElem_cons hi
  rw[hdr,D.piecesL,List.map_append] at ht
  have hcl:us.length+(ds[i].pieces (at'++[i])).length<10000:=by
   have:=congrArg List.length ht
   simp only[List.length_append,List.length_map] at this
   have:=h.lst.length
   omega
  obtain⟨f1,g1,σ1,bo1,us1,e1,h1⟩:=Q9 m ds[i] (hP _ (List.getElem_mem _)) h hb0 hd (hdeep _ (List.getElem_mem _)) hcl (kept [32] g)
  rw[Ar,BU,e1,Aq]
  exact ih fuel (i+1) bo1 us1 _ f1 g1 σ1 (by omega) (by omega) (by rw[List.append_assoc];exact ht) h1
theorem VH(m:Nat)(d:D)(hP:∀d'∈d.parts,PathsBt m d'):PathsBt (m+1) d:=by
 intro at' v atv R Q σ hw hL hA hdeep hcount
 obtain⟨k,z,t,ds⟩:=d
 obtain⟨q,c,rfl,hE⟩:=hL
 have hpc:=D.pieces_eq at' (.mk k z t ds)
 rw[Ak _ 22 _ _ rfl,Anb _ _ _ _ (by simp),Aj]
 unfold Alu
 have x1:Ext σ ((σ.push (.cells [.int .i64 k,.int .i64 z,.string t,.slice q ds.length c] TD) none).push (.cells [] TI) none):=((Ext.refl _).push _ _).push _ _
 have hw1:=(hw.push (.cells [.int .i64 k,.int .i64 z,.string t,.slice q ds.length c] TD) none).push (.cells [] TI) none
 have F1:Ful TI ((σ.push (.cells [.int .i64 k,.int .i64 z,.string t,.slice q ds.length c] TD) none).push (.cells [] TI) none) (σ.next+1) (.slice (some ⟨σ.next+1,0,none⟩) 0 0) []:=Ful.push TI _ []
 have c1:((σ.push (.cells [.int .i64 k,.int .i64 z,.string t,.slice q ds.length c] TD) none).push (.cells [] TI) none).cells σ.next=some [.int .i64 k,.int .i64 z,.string t,.slice q ds.length c]:=by rw[Ac,if_neg (by rw[Aa];omega),Ac,if_pos rfl];rfl
 have n1:((σ.push (.cells [.int .i64 k,.int .i64 z,.string t,.slice q ds.length c] TD) none).push (.cells [] TI) none).next=σ.next+2:=rfl
 have a1:PathV (fun _=>True) ((σ.push (.cells [.int .i64 k,.int .i64 z,.string t,.slice q ds.length c] TD) none).push (.cells [] TI) none) atv at':=hA.keep fun b c hb hc=>⟨(x1.cells (hw.cells hc)).trans hc,trivial⟩
 have lenat:at'.length<1000:=by omega
 obtain⟨b2,s2,σ2,e2,F2,hb2,ch2,hw2⟩:=F1.append hw1 atv (intsOf at') 8 a1.fnew (I9 _) (by omega) (by simp[DU];omega)
 simp -implicitDefEqProofs only[go_sem,AjT,Yk,AjU,Yl,AjV,Ym,e2,F2.one.2.1,F2.one.2.2,AbQ]
 generalize hff:upd _ 6 _=f1
 generalize hgg:upd _ 10 _=g1
 generalize hbf:bigFuel=fuel
 have hb2':σ.next≤b2:=by
  rcases hb2 with rfl|rfl
  ·omega
  ·rw[n1];omega
 rw[List.nil_append] at F2
 have F3:Ful TP (σ2.push (.cells [s2] TP) none) σ2.next (.slice (some ⟨σ2.next,0,none⟩) 1 1) [s2]:=Ful.push TP σ2 [s2]
 have hw3:=hw2.push (.cells [s2] TP) none
 have x2:Ext σ σ2:=⟨by have:=ch2.next;omega,by have:=ch2.clock;have:=x1.clock;omega,fun x hx=>(ch2.get x (by omega) (by omega)).trans (x1.get x hx)⟩
 have x3:Ext σ (σ2.push (.cells [s2] TP) none):=x2.push _ _
 have n2:=ch2.next
 have c3:(σ2.push (.cells [s2] TP) none).cells σ.next=some [.int .i64 k,.int .i64 z,.string t,.slice q ds.length c]:=by
  rw[Ac,if_neg (by omega)]
  exact(ch2.cells (by omega) (by omega)).trans c1
 have P2:PathV (fun b=>σ.next≤b∧b≠σ2.next∧FulB (σ2.push (.cells [s2] TP) none) b) (σ2.push (.cells [s2] TP) none) s2 at':=by
  obtain⟨h1,h2⟩:=F2.cells
  have:=F2.lt hw2
  have hfb:=(Ae6 F2).keep (σ':=σ2.push (.cells [s2] TP) none) (by rw[Ai,if_neg (by omega)])
  rw[DU] at h1
  exact .inr ⟨b2,_,[],h1,⟨hb2',by omega,hfb⟩,by rw[Ac,if_neg (by omega),List.append_nil];exact h2⟩
 have hfew:ds.length<10000:=by
  have h1:=congrArg List.length hpc
  have h2:=Hz ds at' 0
  rw[List.length_cons] at h1
  simp only[D.parts] at h1
  omega
 have hdp:(D.mk k z t ds).deep=D.deeps ds+1:=by rw[D.deep]
 obtain⟨f2,g2,σ4,bo,us,e4,h4⟩:=VG m (ds:=ds) (bd:=σ.next) (base:=σ.next) (R:=fun b=>R b∧b<σ.next) (atv:=atv) (σ0:=σ) (((D.mk k z t ds).pieces at').map (·.1)) (fun d' hd=>hP d' hd) rfl (fun d hd=>by have:=Eo hd;omega) (by rw[List.length_map];exact hcount) ds.length fuel 0 σ2.next [s2] [at'] f1 g1 (σ2.push (.cells [s2] TP) none) (by omega) (by rw[←hbf];show ds.length<1000000000000;omega) (by rw[hpc];rfl) {
  f1:=by rw[←hff];simp -implicitDefEqProofs only[go_sem,reduceCtorEq]
  f2:=by rw[←hff];simp -implicitDefEqProofs only[go_sem,reduceCtorEq]
  f5:=by rw[show f1 5=.slice (some ⟨σ2.next,0,none⟩) 1 1 by rw[←hff];simp -implicitDefEqProofs only[go_sem,reduceCtorEq]];exact F3
  f6:=by rw[←hff];simp -implicitDefEqProofs only[go_sem,reduceCtorEq]<;>rfl
  cd:=c3
  lay:=hE.keep fun b c hb hc=>⟨(x3.cells (hw.cells hc)).trans hc,hb,hw.cells hc⟩
  low:=fun b hb=>hb.2
  atp:=hA.keep fun b c hb hc=>⟨(x3.cells (hw.cells hc)).trans hc,hw.cells hc⟩
  hbd:=⟨Nat.le_refl _,by omega⟩
  hbo:=by omega
  lst:=⟨P2,trivial⟩
  caps:=fun u hu=>by
   rw[List.mem_singleton] at hu
   subst hu
   exact⟨_,_,_,F2.cells.1,Nat.le_refl _⟩
  wf:=hw3
  ext:=x3
  le:=Nat.zero_le _
  few:=hfew }
 rw[e4]
 simp -implicitDefEqProofs only[go_sem,AjY,Yp]
 exact⟨_,_,rfl,h4.ext,h4.wf,bo,us,h4.hbo,h4.f5,h4.lst.keep (fun b c hb hc=>⟨hc,hb.1,hb.2.2⟩),h4.caps⟩
theorem Pv(n:Nat):∀(L:Nat) (d:D),d.deep≤L→PathsBt (n+L) d
 | 0,d,h=>by cases d;rw[D.deep] at h;omega
 | L+1,d,h=>VH (n+L) d fun d' hd=>Pv n L d' (by
  obtain⟨k,z,t,ds⟩:=d
  rw[D.deep] at h
  have:=Eo hd
  simp only[D.parts] at this
  omega)
end
section
open Go Go.Eng
end
section
open Go Go.Eng Go.ChangeShapes Go.WideShapes Go.RowKit
abbrev Fine4(W:World)(e:Ending)(W':World):Prop:=e=.returned (.bool true)∧W'.os=W.os∧W'.output=W.output∧W'.tape=W.tape∧W.heap.size≤W'.heap.size∧∀i,i<W.heap.size→W'.heap[i]? = W.heap[i]?
theorem Aff{f:FuncId}{fn:Func}{body:Code}(hf:Tryz.prog.funcs[f]? = some fn)(hb:fn.body=some body)(n:Nat)(W:World)(vs:List Value)(hg:W.cell? ⟨0,0,none⟩=some handle)(h:∃σ',fcall Tryz.prog nls (top n) f (vs.map (seenA W)) none (seenS W)=.ret (.bool true) none σ'):Calls Tryz.prog f vs.toArray W (Fine4 W):=
 AbU hf hb n (seenS W) (seenM W) W (vs.map (seenA W)) vs.toArray hg (AlT (ES hg).2.1) (by simpa using Uh (ES hg).2.1 vs) AoN h
theorem Kh{H:Type}{enc:TypeId×Value→H}{W:World}{v:Value}{d:DataW H}{p:List MemPlace}(h:DataW.Trod enc Tryz.prog W 0 (fun _=>true) true TD v d p)(hv:∃cs,v=.agg cs∧cs.size=Tryz.prog.cellsOf TD):
  ∃(lv:List Value) (x:D),seenA W v=.agg lv.toArray∧lv.length=4∧LaidR (fun b=>b<(seenS W).next) (seenS W) (.agg lv.toArray) x:=by
 obtain⟨cs,rfl,_⟩:=hv
 obtain⟨fuel,h⟩:=h
 obtain⟨hl,x,hx⟩:=Z3 fuel _ _ h
 have hl':cs.toList.length=4:=hl
 exact⟨_,x,rfl,by simpa using hl',hx⟩
theorem Aeb{H:Type}{enc:TypeId×Value→H}{W:World}{v:Value}{d:DataW H}{p:List MemPlace}(hg:W.cell? ⟨0,0,none⟩=some handle)(h:DataW.Trod enc Tryz.prog W 0 (fun _=>true) true 25 v d p)(hv:∃a len cap,v=.slice a len cap):
  ∃(q:Option Addr) (l:List Int) (cp:Nat),seenA W v=.slice q l.length cp∧l.length<9223372036854775808∧Ints (seenS W) q l∧∀a,q=some a→a.block<(seenS W).next:=by
 obtain⟨a0,len0,cap0,rfl⟩:=hv
 obtain⟨fuel,h⟩:=h
 have und:Tryz.prog.underlying 25=some (.slice TI):=by kernel_rfl
 rcases open_ints und Uj (by kernel_rfl) h with⟨hc,hx⟩|⟨a,len,cap,zs,hc,hb,hl,hm,hz,hx,hcell,hwf⟩
 ·have hv:Value.slice a0 len0 cap0=.slice none 0 0:=by simpa [Value.cells] using hc
  rw[hv]
  exact⟨none,[],0,rfl,by simp,fun i n h=>by simp at h,fun a h=>by cases h⟩
 ·have hv:Value.slice a0 len0 cap0=.slice (some a) len cap:=by simpa [Value.cells] using hc
  rw[hv]
  rw[if_pos rfl] at hz
  obtain⟨q,c,h1,h2,h3,h4⟩:=AdW hl hz hcell
  refine⟨q,zs.take len,c,by rw[h3];exact h1,by unfold maxLen at hm;omega,h2,fun b hb=>?_⟩
  have hgs:isCells W 0=true:=(ES hg).2.1
  have key:isCells W b.block=true:=by
   rcases h4 b hb with h|h
   ·rw[h];exact hgs
   ·exact h
  obtain⟨c',t',fr',h5⟩:=FR.1 key
  exact(Array.getElem?_eq_some_iff.1 h5).1
end
section
open Go Go.Eng
attribute [local congr] Ab Ah Af Ad Ae
attribute [-go_sem] List.range_succ
theorem TV(q b4 b5 b6:Nat)(a b c:D)(la lb lc:List Value)(ha4:la.length=4)(hb4:lb.length=4)(hc4:lc.length=4)(p:Option Addr)(l:List Int)(cp:Nat)(hl:l.length<9223372036854775808)(f g:Nat→Value)(σ:FState)(hw:Wf σ)(hI:Ints σ p l)(hp:∀a,p=some a→a.block<σ.next)(c4:σ.cells b4=some la)(c5:σ.cells b5=some lb)(c6:σ.cells b6=some lc)(hA:LaidR (fun b=>b<σ.next) σ (.agg la.toArray) a)(hB:LaidR (fun b=>b<σ.next) σ (.agg lb.toArray) b)(hCC:LaidR (fun b=>b<σ.next) σ (.agg lc.toArray) c)(ka:a.count≤150)(kb:b.count≤150)(kc:c.count≤150)(f3:f 3=.slice p l.length cp)(f4:f 4=.pointer (some ⟨b4,0,none⟩))(f5:f 5=.pointer (some ⟨b5,0,none⟩))(f6:f 6=.pointer (some ⟨b6,0,none⟩)):
  ∃σ',leaveR Tryz.prog (top (q+6000)) [.tmp 8] (Alj (top (q+6000)) none 7 (Sl 23 125 f g []) none σ)=.ret (.bool true) none σ':=by
 obtain⟨σ2,e2,x2,hw2,hC2⟩:=XE (q+5999) p l cp hl σ hw hI hp
 have hn2:σ.next<σ2.next:=by obtain⟨_,_,_,_,_,h,_⟩:=hC2;exact(hw2 _ _ h).1
 have hv4:wound 4≤1000:=by simp[wound]
 obtain⟨vx,x,σ3,k3,e3,hX,mX,x3,hw3,hC3,_,hk3⟩:=I4 (q+5992) σ.next 4 (by omega) 0 σ2 (by omega) hw2 hC2
 have n2:=x2.next
 have n3:=x3.next
 replace e2:(top (q+6000)).call 12 [.slice p l.length cp] none σ=.ret (.pointer (some ⟨σ.next,0,none⟩)) none σ2:=(En _ _ _ _ rfl).trans e2
 replace e3:(top (q+6000)).call 11 [.pointer (some ⟨σ.next,0,none⟩),.int .i64 4] none σ2=.ret vx none σ3:=(En _ _ _ _ rfl).trans e3
 have kA:∀b cs,b<σ.next→σ.cells b=some cs→σ3.cells b=some cs:=fun b cs hb hc=>by
  have h2:=(x2.cells hb).trans hc
  exact(x3.cells (by omega) (by omega)).trans h2
 obtain⟨xv,rfl,hx4,hox⟩:=hX.agg
 have htx:xv.take 4=xv:=List.take_of_length_le (by omega)
 have hFx:=Pq (q+5971) mX
 unfold Alj
 simp -implicitDefEqProofs only[go_sem,Aw,AoB,AkR,AoC,AkS,f3,e2,e3,hx4,hox,Nat.le_refl]
 have x4:Ext σ3 ((σ3.push (.cells [.int .i64 0,.int .i64 0,.string ⟨#[]⟩,.slice none 0 0] TD) none).put σ3.next (.cells xv TD) none):=((Ext.refl _).push _ _).put _ _ _ (Nat.le_refl _)
 have hw4:Wf ((σ3.push (.cells [.int .i64 0,.int .i64 0,.string ⟨#[]⟩,.slice none 0 0] TD) none).put σ3.next (.cells xv TD) none):=(hw3.push _ _).put _ _ _ (by simp only[Aa];omega)
 have g10:((σ3.push (.cells [.int .i64 0,.int .i64 0,.string ⟨#[]⟩,.slice none 0 0] TD) none).put σ3.next (.cells xv TD) none).cells σ3.next=some xv:=by rw[Al,if_pos rfl];rfl
 have n4:((σ3.push (.cells [.int .i64 0,.int .i64 0,.string ⟨#[]⟩,.slice none 0 0] TD) none).put σ3.next (.cells xv TD) none).next=σ3.next+1:=rfl
 generalize hff:upd _ 10 _=f1
 generalize hgg:upd _ 37 _=g1
 have q4:f1 4=.pointer (some ⟨b4,0,none⟩):=by rw[←hff];simp -implicitDefEqProofs only[go_sem,reduceCtorEq,f4]
 have q5:f1 5=.pointer (some ⟨b5,0,none⟩):=by rw[←hff];simp -implicitDefEqProofs only[go_sem,reduceCtorEq,f5]
 have q6:f1 6=.pointer (some ⟨b6,0,none⟩):=by rw[←hff];simp -implicitDefEqProofs only[go_sem,reduceCtorEq,f6]
 have q9:f1 9=.pointer (some ⟨σ.next,0,none⟩):=by rw[←hff];simp -implicitDefEqProofs only[go_sem,reduceCtorEq]
 have q10:f1 10=.pointer (some ⟨σ3.next,0,none⟩):=by rw[←hff];simp -implicitDefEqProofs only[go_sem,reduceCtorEq]
 clear hff hgg
 generalize FState.put _ _ _ _=σ4 at x4 hw4 g10 n4 ⊢
 have K34:∀b cs,σ3.cells b=some cs→σ4.cells b=some cs:=fun b cs hc=>(x4.cells (hw3.cells hc)).trans hc
 have hfew:=hFx.few (by omega)
 have hdx:=hFx.deep_le
 obtain⟨w5,σ5,e5,x5,hw5,ba,us,hba,F5,pl5,caps5⟩:=Pv (q+5995) 5 x hdx [] (.agg xv.toArray) (.slice none 0 0) (New σ2 σ3) (fun _=>True) σ4 hw4 (hX.keep fun b cs hb hc=>⟨K34 b cs hc,hb⟩) (.inl ⟨rfl,rfl⟩) (by simp;omega) (by omega)
 replace e5:(top (q+6000)).call 22 [.agg xv.toArray,.slice none 0 0] none σ4=.ret w5 none σ5:=(En _ _ _ _ rfl).trans e5
 obtain⟨hw5v,ca5⟩:=F5.cells
 have n5:=x5.next
 have hC5:Coil σ5 σ.next k3:=(hC3.ext hw3 x4).ext hw4 x5
 have ba5:ba<σ5.next:=F5.lt hw5
 have hus:us.length=(x.pieces []).length:=by rw[pl5.length,List.length_map]
 rw[hw5v] at e5
 have hne:1≤us.length:=by rw[hus,D.pieces_eq];simp
 obtain⟨r7,σ7,e7,h70,h71,W7⟩:=Ov (q+5998) σ.next k3 (.ofNat (us.length-1)) (by simp only[Int.ofNat_eq_natCast];omega) (by omega) σ5 hw5 hC5
 obtain⟨i,rfl⟩:∃i:Nat,r7=Int.ofNat i:=⟨r7.toNat,by simp only[Int.ofNat_eq_natCast];omega⟩
 have hi:i<us.length:=by simp only[Int.ofNat_eq_natCast] at h71;omega
 replace e7:(top (q+6000)).call 24 [.pointer (some ⟨σ.next,0,none⟩),.int .i64 (.ofNat (us.length-1))] none σ5=.ret (.int .i64 (.ofNat i)) none σ7:=(En _ _ _ _ rfl).trans e7
 have w7:=Arj us.length hne (by omega)
 obtain⟨t,ht⟩:∃t,(x.pieces [])[i]? = some t:=⟨_,List.getElem?_eq_getElem (by omega)⟩
 have hmem:=List.mem_of_getElem? ht
 obtain⟨r,hr,hat⟩:=Kw x [] t hmem
 rw[List.nil_append] at hr
 subst hr
 have htl:=((hFx []).2 t hmem).1
 have hxm:=(hFx []).1
 rw[DV] at hxm
 have hm4:most 4=121:=by decide
 rw[hm4] at hxm
 have htc:=HT x [] t hmem
 obtain⟨u,hu,hP⟩:=pl5.get (i:=i) (p:=t.1) (by rw[List.getElem?_map,ht];rfl)
 have n7:=W7.ext.next
 have k57:∀b cs,b≠σ.next→σ5.cells b=some cs→σ7.cells b=some cs:=fun b cs hb hc=>(W7.ext.cells (hw5.cells hc) hb).trans hc
 have k37:∀b cs,b≠σ.next→σ3.cells b=some cs→σ7.cells b=some cs:=fun b cs hb hc=>by
  have h1:=K34 b cs hc
  exact k57 b cs hb ((x5.cells (hw4.cells h1)).trans h1)
 have lx7:LaidR (New σ2 σ3) σ7 (.agg xv.toArray) x:=hX.keep fun b cs hb hc=>⟨k37 b cs (by have:=hb.1;omega) hc,hb⟩
 obtain⟨_,σ8,e8,x8,hw8,u8,rfl,hL8⟩:=AnM (q+5998) (Q:=fun _=>True) W7.wf lx7 (hP.keep fun b cs hb hc=>⟨k57 b cs (by omega) hc,trivial⟩) (by simp at htl;omega) (by omega) hat
 replace e8:(top (q+6000)).call 41 [.agg xv.toArray,u] none σ7=.ret (.tuple #[u8,.bool true]) none σ8:=(En _ _ _ _ rfl).trans e8
 obtain⟨tv,rfl,ht4,hot⟩:=hL8.agg
 have n8:=x8.next
 have c105:=(x5.cells (hw4.cells g10)).trans g10
 have v10:(view σ7 σ5.clock).cells σ3.next=some xv:=ED hw5 (Nat.le_refl _) (W7.ext.get _ (by omega) (by omega)) c105
 have ca7:=k57 _ _ (by omega) ca5
 have hv7:=D0 W7.wf (Nat.le_refl _)
 have c107:=k57 _ _ (by omega) c105
 simp -implicitDefEqProofs only[go_sem,Aw,AoD,AkT,AoE,AkU,q9,q10,g10,hx4,htx,e5,w7,e7,v10,hv7,ca7,hi,hu,e8,ht4,hot,Nat.le_refl]
 generalize hff:upd _ 13 _=f2
 generalize hgg:upd _ 52 _=g2
 have x9:Ext σ8 ((σ8.push (.cells [.int .i64 0,.int .i64 0,.string ⟨#[]⟩,.slice none 0 0] TD) none).put σ8.next (.cells tv TD) none):=((Ext.refl _).push _ _).put _ _ _ (Nat.le_refl _)
 have hw9:=(hw8.push (.cells [.int .i64 0,.int .i64 0,.string ⟨#[]⟩,.slice none 0 0] TD) none).put σ8.next (.cells tv TD) none (Nat.lt_succ_self _)
 have g12:((σ8.push (.cells [.int .i64 0,.int .i64 0,.string ⟨#[]⟩,.slice none 0 0] TD) none).put σ8.next (.cells tv TD) none).cells σ8.next=some tv:=by rw[Al,if_pos rfl];rfl
 have k79:∀b cs,σ7.cells b=some cs→((σ8.push (.cells [.int .i64 0,.int .i64 0,.string ⟨#[]⟩,.slice none 0 0] TD) none).put σ8.next (.cells tv TD) none).cells b=some cs:=fun b cs hc=>by
  have h1:=(x8.cells (W7.wf.cells hc)).trans hc
  exact(x9.cells (hw8.cells h1)).trans h1
 have n9:((σ8.push (.cells [.int .i64 0,.int .i64 0,.string ⟨#[]⟩,.slice none 0 0] TD) none).put σ8.next (.cells tv TD) none).next=σ8.next+1:=rfl
 have hC9:=(W7.coil.ext W7.wf x8).ext hw8 x9
 generalize FState.put _ σ8.next _ _=σ9 at x9 hw9 g12 k79 n9 hC9 ⊢
 have kk9:∀b cs,b≠σ.next→σ3.cells b=some cs→σ9.cells b=some cs:=fun b cs hb hc=>k79 b cs (k37 b cs hb hc)
 have old:∀ {v:Value} {d:D},LaidR (fun b=>b<σ.next) σ v d→LaidR (fun b=>b<σ9.next∧b≠σ.next) σ9 v d:=fun h=>h.keep fun b cs hb hc=>⟨kk9 b cs (by omega) (kA b cs hb hc),by omega,by omega⟩
 exact OZ q b4 b5 b6 σ3.next σ8.next σ.next (k3+1) a b c x t.2 la lb lc xv tv ha4 hb4 hc4 hx4 ht4 f2 g2 σ9 hw9 hC9 (by omega)
  (kk9 _ _ (by have:=hw.cells c4;omega) (kA _ _ (hw.cells c4) c4)) (kk9 _ _ (by have:=hw.cells c5;omega) (kA _ _ (hw.cells c5) c5)) (kk9 _ _ (by have:=hw.cells c6;omega) (kA _ _ (hw.cells c6) c6)) (k79 _ _ c107) g12
  (by have:=hw.cells c4;omega) (by have:=hw.cells c5;omega) (by have:=hw.cells c6;omega) (by omega) (by omega)
  (old hA) (old hB) (old hCC) (hX.keep fun b cs hb hc=>⟨kk9 b cs (by have:=hb.1;omega) hc,by have:=hb.2;omega,by have:=hb.1;omega⟩) (hL8.keep fun b cs hb hc=>⟨(x9.cells (hw8.cells hc)).trans hc,by have:=hb.2;omega,by have:=hb.1.1;omega⟩) ka kb kc (by omega) (by omega)
  (by rw[←hff];simp -implicitDefEqProofs only[go_sem,reduceCtorEq,q4]) (by rw[←hff];simp -implicitDefEqProofs only[go_sem,reduceCtorEq,q5]) (by rw[←hff];simp -implicitDefEqProofs only[go_sem,reduceCtorEq,q6]) (by rw[←hff];simp -implicitDefEqProofs only[go_sem,reduceCtorEq,q9]) (by rw[←hff];simp -implicitDefEqProofs only[go_sem,reduceCtorEq,q10]) (by rw[←hff];simp -implicitDefEqProofs only[go_sem,reduceCtorEq])
end
section
open Go Go.Eng Go.ChangeShapes Go.WideShapes Go.RowKit
attribute [local congr] Ab Ah Af Ad Ae
attribute [-go_sem] List.range_succ
theorem OY(q:Nat)(la lb lc:List Value)(a b c:D)(p:Option Addr)(l:List Int)(cp:Nat)(hl:l.length<9223372036854775808)(σ:FState)(hw:Wf σ)(hI:Ints σ p l)(hp:∀a,p=some a→a.block<σ.next)(ha4:la.length=4)(hb4:lb.length=4)(hc4:lc.length=4)(hA:LaidR (fun b=>b<σ.next) σ (.agg la.toArray) a)(hB:LaidR (fun b=>b<σ.next) σ (.agg lb.toArray) b)(hC:LaidR (fun b=>b<σ.next) σ (.agg lc.toArray) c):
  ∃σ',fcall Tryz.prog nls (top (q+6000)) 7 [.agg la.toArray,.agg lb.toArray,.agg lc.toArray,.slice p l.length cp] none σ=.ret (.bool true) none σ':=by
 have hta:la.take 4=la:=List.take_of_length_le (by omega)
 have htb:lb.take 4=lb:=List.take_of_length_le (by omega)
 have htc:lc.take 4=lc:=List.take_of_length_le (by omega)
 have x1:Ext σ (((σ.push (.cells la TD) none).push (.cells lb TD) none).push (.cells lc TD) none):=(((Ext.refl _).push _ _).push _ _).push _ _
 have hw1:=((hw.push (.cells la TD) none).push (.cells lb TD) none).push (.cells lc TD) none
 have c4:(((σ.push (.cells la TD) none).push (.cells lb TD) none).push (.cells lc TD) none).cells σ.next=some la:=by rw[Ac,if_neg (by simp only[Aa];omega),Ac,if_neg (by rw[Aa];omega),Ac,if_pos rfl];rfl
 have c5:(((σ.push (.cells la TD) none).push (.cells lb TD) none).push (.cells lc TD) none).cells (σ.next+1)=some lb:=by rw[Ac,if_neg (by simp only[Aa];omega),Ac,if_pos (by rw[Aa])];rfl
 have c6:(((σ.push (.cells la TD) none).push (.cells lb TD) none).push (.cells lc TD) none).cells (σ.next+2)=some lc:=by rw[Ac,if_pos (by simp only[Aa])];rfl
 have VAc:∀(d:D) (wv:List Value) (hw4:wv.length=4) (τ:FState),Wf τ→LaidR (fun b=>b<τ.next) τ (.agg wv.toArray) d→∃τ',(top (q+6000)).call 9 [.agg wv.toArray] none τ=.ret (.bool (vastB d)) none τ'∧Ext τ τ'∧Wf τ':=fun d wv hw4 τ hwt hLd=>by
  obtain⟨_,τ',e,x,w,rfl⟩:=AoV (q+5848) _ d wv hw4 τ hwt hLd
  rw[show q+5848+152=q+6000 by omega] at e
  exact⟨τ',(En _ _ _ _ rfl).trans e,x,w⟩
 have small:∀ {d:D},vastB d=false→d.count≤150:=fun h=>by
  unfold vastB at h
  rw[Bool.or_eq_false_iff,decide_eq_false_iff_not] at h
  omega
 have step:∀ {τ τ':FState},Ext τ τ'→Wf τ→∀ {v:Value} {d:D},LaidR (fun b=>b<τ.next) τ v d→LaidR (fun b=>b<τ'.next) τ' v d:=fun hX hw v d h=>h.keep fun b cs hb hc=>⟨(hX.cells hb).trans hc,by have:=hX.next;omega⟩
 rw[ArW _ _ _ _ (by simp),Aj,AdR]
 generalize hS:(((σ.push (.cells la TD) none).push (.cells lb TD) none).push (.cells lc TD) none)=σ1 at x1 hw1 c4 c5 c6
 obtain⟨σ2,e2,x2,hw2⟩:=VAc a la ha4 σ1 hw1 (step x1 hw hA)
 have d5:=(x2.cells (hw1.cells c5)).trans c5
 cases hva:vastB a with
 | true=>
  rw[hva] at e2
  simp -implicitDefEqProofs only[go_sem,Mq,Qk,Mr,Ql,Tw,Wg,hS,c4,ha4,hta,e2,IE,Nat.le_refl]
  exact⟨_,rfl⟩
 | false=>
  rw[hva] at e2
  have X2:=x1.trans x2
  obtain⟨σ3,e3,x3,hw3⟩:=VAc b lb hb4 σ2 hw2 (step X2 hw hB)
  have X3:=X2.trans x3
  have X23:=x2.trans x3
  have d6:=(X23.cells (hw1.cells c6)).trans c6
  cases hvb:vastB b with
  | true=>
   rw[hvb] at e3
   simp -implicitDefEqProofs only[go_sem,Mq,Qk,Mr,Ql,Tw,Wg,hS,c4,d5,ha4,hb4,hta,htb,e2,e3,IE,Nat.le_refl]
   exact⟨_,rfl⟩
  | false=>
   rw[hvb] at e3
   obtain⟨σ4,e4,x4,hw4⟩:=VAc c lc hc4 σ3 hw3 (step X3 hw hC)
   have X4:=X3.trans x4
   cases hvc:vastB c with
   | true=>
    rw[hvc] at e4
    simp -implicitDefEqProofs only[go_sem,Mq,Qk,Mr,Ql,Tw,Wg,hS,c4,d5,d6,ha4,hb4,hc4,hta,htb,htc,e2,e3,e4,IE,Nat.le_refl]
    exact⟨_,rfl⟩
   | false=>
    rw[hvc] at e4
    have hI4:Ints σ4 p l:=fun i n h=>by
     obtain⟨b,off,cs,h1,h2,h3⟩:=hI i n h
     exact⟨b,off,cs,h1,(X4.cells (hw.cells h2)).trans h2,h3⟩
    simp -implicitDefEqProofs only[go_sem,Mq,Qk,Mr,Ql,hS,c4,d5,d6,ha4,hb4,hc4,hta,htb,htc,e2,e3,e4,Ag,Nat.le_refl]
    generalize hff:upd _ 8 _=f1
    generalize hgg:upd _ 32 _=g1
    have X24:=X23.trans x4
    exact TV q σ.next (σ.next+1) (σ.next+2) a b c la lb lc ha4 hb4 hc4 p l cp hl f1 g1 σ4 hw4 hI4 (fun a h=>by have:=hp a h;have:=X4.next;omega) ((X24.cells (hw1.cells c4)).trans c4) ((X24.cells (hw1.cells c5)).trans c5) ((X24.cells (hw1.cells c6)).trans c6) (step X4 hw hA) (step X4 hw hB) (step X4 hw hC) (small hva) (small hvb) (small hvc)
     (by rw[←hff];simp -implicitDefEqProofs only[go_sem,reduceCtorEq]<;>rfl) (by rw[←hff];simp -implicitDefEqProofs only[go_sem,reduceCtorEq]) (by rw[←hff];simp -implicitDefEqProofs only[go_sem,reduceCtorEq]) (by rw[←hff];simp -implicitDefEqProofs only[go_sem,reduceCtorEq])
theorem N9{H:Type}{enc:TypeId×Value→H}(W:World)(hg:W.cell? ⟨0,0,none⟩=some handle){v0 v1 v2 v3:Value}{d0 d1 d2 d3:DataW H}{p0 p1 p2 p3:List MemPlace}(h0:DataW.Trod enc Tryz.prog W 0 (fun _=>true) true TD v0 d0 p0)(h1:DataW.Trod enc Tryz.prog W 0 (fun _=>true) true TD v1 d1 p1)(h2:DataW.Trod enc Tryz.prog W 0 (fun _=>true) true TD v2 d2 p2)(h3:DataW.Trod enc Tryz.prog W 0 (fun _=>true) true 25 v3 d3 p3)(k0:∃cs,v0=.agg cs∧cs.size=Tryz.prog.cellsOf TD)(k1:∃cs,v1=.agg cs∧cs.size=Tryz.prog.cellsOf TD)(k2:∃cs,v2=.agg cs∧cs.size=Tryz.prog.cellsOf TD)(k3:∃a len cap,v3=.slice a len cap):
  Calls Tryz.prog 7 #[v0,v1,v2,v3] W (Fine4 W):=by
 obtain⟨la,a,ea,ha4,hA⟩:=Kh h0 k0
 obtain⟨lb,b,eb,hb4,hB⟩:=Kh h1 k1
 obtain⟨lc,c,ec,hc4,hC⟩:=Kh h2 k2
 obtain⟨q,l,cp,el,hl,hI,hq⟩:=Aeb hg h3 k3
 refine Aff Tryz.func7 rfl 6000 W [v0,v1,v2,v3] hg ?_
 have e:[v0,v1,v2,v3].map (seenA W)=[.agg la.toArray,.agg lb.toArray,.agg lc.toArray,.slice q l.length cp]:=by simp only[List.map_cons,List.map_nil,ea,eb,ec,el]
 rw[e]
 obtain⟨σ',h⟩:=OY 0 la lb lc a b c q l cp hl (seenS W) (Aba W) hI hq ha4 hb4 hc4 hA hB hC
 exact⟨σ',by rwa [Nat.zero_add] at h⟩
end
end Go.Proofs.YtokieofohmgjdaaGreatDoor
end
