import Derived.Test.YtknnbjmcfibpgaaGreatDoorU7
import Derived.Test.YtknnbjmcfibpgaaGreatDoorU6
import Derived.Test.YtknnbjmcfibpgaaGreatDoorU3
import Derived.Test.YtknnbjmcfibpgaaGreatDoorU4
set_option linter.unusedSimpArgs false
set_option linter.unusedVariables false
noncomputable section
namespace Go.Proofs.YtknnbjmcfibpgaaGreatDoor
section
open Go Go.Eng
attribute [local congr] Ab Ah Af Ad Ae
attribute [-go_sem] List.range_succ
def atZ:List Int->D->Option D
 | [],d=>some d
 | z::p,d=>if 0<=z then (match d.parts[z.toNat]? with|some d'=>atZ p d'|none=>none) else none
structure HeadPz (p:Option Addr) (plen cx i b off:Nat) (f g:Nat->Value):Prop where
 f0:f 0=.pointer (some ⟨b,off,none⟩)
 g7:g 7=.slice p plen cx
 g8:g 8=.int .i64 (.ofNat plen)
 g9:g 9=.int .i64 (.ofNat i)
theorem Xb(n:Nat){p:Option Addr}{cx:Nat}{l:List Int}{R:Nat->Prop}{Z:aC}(hs:l.length<100000)(hI:Ints Z p l):
  ∀(j fuel i:Nat) (f g:Nat->Value) (d:D) (b off:Nat) (cs:List Value),i+j=l.length->j<fuel->d.count<100000->Z.cells b=some cs->4<=cs.length-off->aI R Z (.agg ((cs.drop off).take 4).toArray) d->HeadPz p l.length cx i b off f g->
  (∃x f' g' b off cs,atZ (l.drop i) d=some x/\floop [7,8,9,32] (Gw (env (n+2)) none 94) fuel (Sl 7 33 f g []) none Z=.done (.exit 0) (Sl 7 33 f' g' []) none Z/\f' 0=.pointer (some ⟨b,off,none⟩)/\Z.cells b=some cs/\4<=cs.length-off/\aI R Z (.agg ((cs.drop off).take 4).toArray) x)\/
  (∃f' g',atZ (l.drop i) d=none/\floop [7,8,9,32] (Gw (env (n+2)) none 94) fuel (Sl 7 33 f g []) none Z=.done (.panic [failing 9 0]) (Sl 7 33 f' g' []) none Z):=by
 intro j
 induction j with
 | zero=>
  intro fuel i f g d b off cs hij hf _ hc hle hL h
  obtain⟨fuel,rfl⟩:∃q,fuel=q+1:=⟨fuel-1,by omega⟩
  obtain rfl:i=l.length:=by omega
  have d1:decide (Int.ofNat l.length<Int.ofNat l.length)=false:=by simp
  rw[Am,AL]
  unfold Gw
  simp -implicitDefEqProofs only[go_sem,Fl,Gs,h.g8,h.g9,d1,List.mem_cons]
  exact .inl ⟨d,_,_,b,off,cs,by rw[List.drop_length,atZ],rfl,h.f0,hc,hle,hL⟩
 | succ j ih=>
  intro fuel i f g d b off cs hij hf hN hc hle hL h
  obtain⟨fuel,rfl⟩:∃q,fuel=q+1:=⟨fuel-1,by omega⟩
  have hi:i<l.length:=by omega
  have d1:decide (Int.ofNat i<Int.ofNat l.length)=true:=by simp;omega
  obtain⟨bp,op,pcs,rfl,hcp,g1⟩:=hI i l[i] (List.getElem?_eq_getElem hi)
  have w3:=EY i (by omega)
  have hdr:l.drop i=l[i]::l.drop (i+1):=List.drop_eq_getElem_cons hi
  generalize l[i]=z0 at g1 hdr
  obtain⟨k,z,t,ds⟩:=d
  obtain⟨q,c,hv,hE⟩:=hL
  have hv':(cs.drop off).take 4=[.int .i64 k,.int .i64 z,.string t,.slice q ds.length c]:=by
   have:=Value.agg.inj hv
   simpa using congrArg Array.toList this
  have hf3:=Nb hv'
  rw[hdr,atZ]
  have e9:=Hq n 9 Z
  by_cases hz:0<=z0
  .rw[if_pos hz]
   obtain⟨m,rfl⟩:∃m:Nat,z0=Int.ofNat m:=⟨z0.toNat,by simp only[Int.ofNat_eq_natCast];omega⟩
   have e0:decide (Int.ofNat m<0)=false:=by simp
   rw[show (Int.ofNat m).toNat=m from rfl]
   simp only[D.parts]
   cases hd:ds[m]? with
   | none=>
    have hm:=List.getElem?_eq_none_iff.1 hd
    have e1:decide (Int.ofNat m≥Int.ofNat ds.length)=true:=by simp;omega
    rw[Am,AL]
    unfold Gw
    simp -implicitDefEqProofs only[go_sem,Fl,Gs,HQ,Jl,HR,Jm,YA,U2,h.f0,h.g7,h.g8,h.g9,d1,hi,hcp,g1,hc,hf3,e0,e1,e9,A_,Au,CT,List.mem_cons]
    exact .inr ⟨_,_,rfl⟩
   | some d'=>
    have hpi:=(List.getElem?_eq_some_iff.1 hd).1
    obtain⟨b',off',cs',rfl,hRb,hcs',hle',hL'⟩:=bC.get hE hd
    rw[Nat.zero_add] at hle' hL'
    have e1:decide (Int.ofNat m≥Int.ofNat ds.length)=false:=by simp;omega
    rw[Am,AL]
    unfold Gw
    simp -implicitDefEqProofs only[go_sem,Fl,Gs,HQ,Jl,HR,Jm,OP,OO,OT,OQ,h.f0,h.g7,h.g8,h.g9,d1,hi,hcp,g1,hc,hf3,e0,e1,hpi,w3,List.mem_cons]
    generalize hff:upd _ 0 _=f1
    generalize hgg:upd _ 9 _=gg
    exact ih fuel (i+1) f1 gg d' b' (off'+m*4) cs' (by omega) (by omega) (by have:=Ev (List.mem_of_getElem? hd);rw[D.count] at hN;omega) hcs' (by omega) hL' {
     f0:=by rw[<-hff];simp -implicitDefEqProofs only[go_sem,reduceCtorEq]
     g7:=by rw[<-hgg];simp -implicitDefEqProofs only[go_sem,reduceCtorEq,h.g7,List.mem_cons,true_or,or_true]
     g8:=by rw[<-hgg];simp -implicitDefEqProofs only[go_sem,reduceCtorEq,h.g8,List.mem_cons,true_or,or_true]
     g9:=by rw[<-hgg];simp -implicitDefEqProofs only[go_sem,reduceCtorEq] }
  .rw[if_neg hz]
   have e0:decide (z0<0)=true:=by simp;omega
   rw[Am,AL]
   unfold Gw
   simp -implicitDefEqProofs only[go_sem,Fl,Gs,HQ,Jl,HR,Jm,YA,U2,h.f0,h.g7,h.g8,h.g9,d1,hi,hcp,g1,hc,hf3,e0,e9,A_,Au,CT,List.mem_cons]
   exact .inr ⟨_,_,rfl⟩
theorem Qm(n:Nat){p:Option Addr}{cx:Nat}{l:List Int}{R:Nat->Prop}{Z:aC}(hs:l.length<100000)(hI:Ints Z p l){d:D}{b off:Nat}{cs:List Value}(hN:d.count<100000)(hc:Z.cells b=some cs)(hle:4<=cs.length-off)(hL:aI R Z (.agg ((cs.drop off).take 4).toArray) d):
  (∃x b' off' cs',atZ l d=some x/\(env (n+3)).call 94 [.pointer (some ⟨b,off,none⟩),.slice p l.length cx] none Z=.ret (.pointer (some ⟨b',off',none⟩)) none Z/\Z.cells b'=some cs'/\4<=cs'.length-off'/\aI R Z (.agg ((cs'.drop off').take 4).toArray) x)\/
  (atZ l d=none/\(env (n+3)).call 94 [.pointer (some ⟨b,off,none⟩),.slice p l.length cx] none Z=.pan [failing 9 0] none Z):=by
 rw[Ak _ 94 _ _ rfl,Ry _ _ _ _ (by simp),Aj]
 unfold YS
 simp -implicitDefEqProofs only[go_sem,OK,OJ,OM,OL,KH]
 generalize hff:upd _ 4 _=f1
 generalize hgg:upd _ 9 _=g1
 generalize hbf:bG=fuel
 rcases Xb n (cx:=cx) hs hI l.length fuel 0 f1 g1 d b off cs (by omega) (by rw[<-hbf];show l.length<1000000000000;omega) hN hc hle hL {
  f0:=by rw[<-hff];simp -implicitDefEqProofs only[go_sem,reduceCtorEq]
  g7:=by rw[<-hgg];simp -implicitDefEqProofs only[go_sem,reduceCtorEq]
  g8:=by rw[<-hgg];simp -implicitDefEqProofs only[go_sem,reduceCtorEq]
  g9:=by rw[<-hgg];simp -implicitDefEqProofs only[go_sem,reduceCtorEq]<;>rfl } with⟨x,f2,g2,b',off',cs',h0,e2,h1,h2,h3,h4⟩|⟨f2,g2,h0,e2⟩
 .rw[List.drop_zero] at h0
  rw[e2]
  simp -implicitDefEqProofs only[go_sem,OV,OU,h1]
  exact .inl ⟨x,b',off',cs',h0,rfl,h2,h3,h4⟩
 .rw[List.drop_zero] at h0
  rw[e2]
  simp -implicitDefEqProofs only[go_sem,CT,Au,AB,AZ]
  exact .inr ⟨h0,trivial⟩
def zeroD:D:=.mk 0 0 ⟨#[]⟩ []
def resT(d x y:D):D:=if threeE d x y=0 then repl x y d else zeroD
def ReplOk(d x y:D)(S:Nat->Prop)(Z:aC)(w:Value):Prop:=∃u,w=.tuple #[u,.int .i64 (threeE d x y:Nat)]/\aI S Z u (resT d x y)
theorem FU(S:Nat->Prop)(Z:aC):aI S Z (.agg #[.int .i64 0,.int .i64 0,.string ⟨#[]⟩,.slice none 0 0]) zeroD:=⟨none,0,rfl,trivial⟩
def atE(d:D)(l:List Int):Nat:=if bD d=0 then (match atZ l d with|some _=>0|none=>9) else bD d
def atR(d:D)(l:List Int):D:=if bD d=0 then (match atZ l d with|some x=>x|none=>zeroD) else zeroD
def AtOk(d:D)(l:List Int)(S:Nat->Prop)(Z:aC)(w:Value):Prop:=∃u,w=.tuple #[u,.int .i64 (atE d l:Nat)]/\aI S Z u (atR d l)
theorem HV:∀(l:List Int) (d x:D),atZ l d=some x->x.count<=d.count
 | [],d,x,h=>by rw[atZ] at h;cases h;exact Nat.le_refl _
 | z::l,.mk k z0 t ds,x,h=>by
  rw[atZ] at h
  by_cases hz:0<=z
  .rw[if_pos hz] at h
   simp only[D.parts] at h
   cases hd:ds[z.toNat]? with
   | none=>rw[hd] at h;cases h
   | some d'=>
    rw[hd] at h
    have h1:=HV l d' x h
    have h2:=GW (List.mem_of_getElem? hd)
    rw[D.count]
    omega
  .rw[if_neg hz] at h;cases h
theorem JH{Z V:aC}{p:Option Addr}{l:List Int}(h:Ints Z p l)(hw:Wf Z)(hX:Ext Z V):Ints V p l:=fun i n hi=>by
 obtain⟨b,off,cs,h1,h2,h3⟩:=h i n hi
 exact⟨b,off,cs,h1,(hX.cells (hw.cells h2)).trans h2,h3⟩
section
variable (M m n:Nat) (hm:M=m+22) (hM:M=n+295) (d:D) (hd:d.count<=150) (lv:List Value) (h4:lv.length=4) (p:Option Addr) (cx:Nat) (l:List Int) (hs:l.length<100000) (bd bp:Nat) (Z:aC) (hw:Wf Z) (hb1:Z.cells bd=some lv) (hb2:Z.cells bp=some [.slice p l.length cx]) (hL:aI (fun b=>b<Z.next) Z (.agg lv.toArray) d) (hI:Ints Z p l)
include hm hM hd h4 hs hw hb1 hb2 hL hI
theorem AgR:(atE d l=0->Gives ((env (M+6)).call 93 [.pointer (some ⟨bd,0,none⟩),.pointer (some ⟨bp,0,none⟩)] none Z) Z fun v V=>aI (fun b=>Z.next<=b) V v (atR d l))/\
  (atE d l≠0->Fails ((env (M+6)).call 93 [.pointer (some ⟨bd,0,none⟩),.pointer (some ⟨bp,0,none⟩)] none Z) Z (atE d l:Nat) 0):=by
 have x0:Ext Z (Z.push (.cells [.int .i64 0,.int .i64 0,.string ⟨#[]⟩,.slice none 0 0] TD) none):=(Ext.refl _).push _ _
 have hw0:=hw.push (.cells [.int .i64 0,.int .i64 0,.string ⟨#[]⟩,.slice none 0 0] TD) none
 have ne1:(bd=Z.next)=False:=by have:=hw.cells hb1;simp;omega
 have ne2:(bp=Z.next)=False:=by have:=hw.cells hb2;simp;omega
 have ht:lv.take 4=lv:=List.take_of_length_le (by omega)
 have st:∀ {τ:aC},Ext Z τ->∀ {v:Value} {d:D},aI (fun b=>b<Z.next) Z v d->aI (fun b=>b<τ.next) τ v d:=fun hX v d h=>h.keep fun b cs hb hc=>⟨(hX.cells hb).trans hc,by have:=hX.next;omega⟩
 rw[Ak _ 93 _ _ rfl,AcM _ _ _ _ (by simp),Aj]
 unfold AdP atE atR
 by_cases e0:bD d=0
 .rw[if_pos e0,if_pos e0]
  obtain⟨_,a_,e1,x1,hw1,rfl⟩:=FT m d e0 (by omega) lv h4 _ _ hw0 (st x0 hL) (fun b hb=>hb)
  rw[show m+27=M+5 by omega] at e1
  have x01:=x0.trans x1
  have c1:=(x01.cells (hw.cells hb1)).trans hb1
  have c2:=(x01.cells (hw.cells hb2)).trans hb2
  have hL1:aI (fun b=>b<a_.next) a_ (.agg ((lv.drop 0).take 4).toArray) d:=by
   rw[List.drop_zero,ht]
   exact st x01 hL
  rcases Qm (M+2) (cx:=cx) (Z:=a_) hs (JH hI hw x01) (by omega) c1 (by omega) hL1 with⟨x,b',off',cs',hx,e2,hc',hle',hL'⟩|⟨hx,e2⟩
  .refine⟨fun _=>?_,fun h=>by rw[hx] at h;exact absurd rfl h⟩
   rw[hx]
   have hxc:=HV l d x hx
   have hxd:=BB x
   have hcp:=LN n 150 x (by omega) (by omega)
   rw[show n+2*150=M+5 by omega] at hcp
   obtain⟨_,a9,e3,x2,hw2,hq⟩:=hcp ((cs'.drop off').take 4) _ a_ hw1 hL'
   obtain⟨k,z,t,ds⟩:=x
   obtain⟨q,c,rfl,hE⟩:=hq
   have g0:a9.heap.get Z.next=_:=((x1.trans x2).get Z.next (Nat.lt_succ_self _)).trans (by rw[Ai,if_pos rfl])
   have m0:=(hw2 _ _ g0).1
   simp -implicitDefEqProofs only[go_sem,Av,Kg,K1,Kh,K4,Ki,K5,hb1,hb2,ne1,ne2,c1,c2,h4,ht,e1,e2,e3,hc',hle',g0,Bm,AP,AA,Ay,AO,Nat.le_refl]
   have n1:=x1.next
   rw[Aa] at n1
   exact⟨_,_,rfl,(x01.trans x2).put _ _ _ (Nat.le_refl _),hw2.put _ _ _ m0,q,c,rfl,hE.keep fun b cs hb hc=>⟨by rw[Al,if_neg (by omega)];exact hc,by omega⟩⟩
  .refine⟨fun h=>(by rw[hx] at h;cases h),fun _=>?_⟩
   rw[hx]
   simp -implicitDefEqProofs only[go_sem,Kg,K1,Kh,K4,Ki,K5,hb1,hb2,ne1,ne2,c1,c2,h4,ht,e1,e2,Nat.le_refl,A_,Au,AB,AZ]
   exact⟨_,rfl,x01,hw1⟩
 .rw[if_neg e0,if_neg e0]
  refine⟨fun h=>absurd h e0,fun _=>?_⟩
  obtain⟨a_,e1,x1,hw1⟩:=GS m d e0 (by omega) lv h4 _ _ hw0 (st x0 hL) (fun b hb=>hb)
  rw[show m+27=M+5 by omega] at e1
  simp -implicitDefEqProofs only[go_sem,Kg,K1,Kh,K4,Ki,K5,hb1,ne1,h4,ht,e1,Nat.le_refl,A_,Au,AB,AZ]
  exact⟨_,rfl,x0.trans x1,hw1⟩
end
end
section
open Go Go.Eng
variable (E:Env) (ro:Option Nat) (last:List Nat->aZ) (cl:List Nat) (a:aV) (u:Option FrameMode) (Z:aC)
def Q6(_:Unit):List COp:=[⟨fun a Z=>fbox 24 (a.get 0) Z,some 4,tT⟩,
 ⟨fun a Z=>fbox 24 (a.get 1) Z,some 5,tT⟩,
 ⟨fun a Z=>.val (.bool false) Z,some 8,tT⟩]
def Axc:List COp:=Q6 ()
def Q7(_:Unit):List COp:=[⟨fun a Z=>aG (some 4) (a.get 4) Z,some 33,tT⟩,
 ⟨fun a Z=>.enter 6 [(a.get 33)] Z,some 34,tT⟩,
 ⟨fun a Z=>.val (a.get 34) Z,some 35,tT⟩,
 ⟨fun a Z=>aG (some 4) (a.get 5) Z,some 36,fun a=>gd (a.get 35) false⟩,
 ⟨fun a Z=>.enter 6 [(a.get 36)] Z,some 37,fun a=>gd (a.get 35) false⟩,
 ⟨fun a Z=>bQ (a.get 35) (.bool true) (a.get 37) Z,some 38,tT⟩,
 ⟨fun a Z=>.val (a.get 38) Z,some 39,tT⟩,
 ⟨fun a Z=>.val (a.get 2) Z,some 40,fun a=>gd (a.get 39) false⟩,
 ⟨fun a Z=>flenL (a.get 40) Z,some 41,fun a=>gd (a.get 39) false⟩,
 ⟨fun a Z=>i_gtr Tryz.prog 3 (.tmp 41) (.const (.int .i64 50)) (a.get 41) (.int .i64 50) Z,some 42,fun a=>gd (a.get 39) false⟩,
 ⟨fun a Z=>bQ (a.get 39) (.bool true) (a.get 42) Z,some 43,tT⟩]
def Axd:List COp:=Q7 ()
def XY(_:Unit):List COp:=[⟨fun a Z=>.enter 7 [] Z,some 44,tT⟩,
 ⟨fun a Z=>.val (a.get 44) Z,some 8,tT⟩]
def Axe:List COp:=XY ()
def AmI(_:Unit):List COp:=[⟨fun a Z=>.val (a.get 3) Z,some 45,tT⟩,
 ⟨fun a Z=>.enter 9 [(a.get 45)] Z,some 46,tT⟩,
 ⟨fun a Z=>.val (a.get 46) Z,some 9,tT⟩]
def Axg:List COp:=AmI ()
def AmJ(_:Unit):List COp:=[⟨fun a Z=>.val (a.get 9) Z,some 47,tT⟩,
 ⟨fun a Z=>.enter 8 [(a.get 47),(.int .i64 4)] Z,some 48,tT⟩,
 ⟨fun a Z=>aM [(.int .i64 0),(.int .i64 0),(.string ⟨#[]⟩),(.slice none 0 0)] 24 none Z,some 10,tT⟩,
 ⟨fun a Z=>aK 4 (a.get 10) (a.get 48) Z,none,tT⟩]
def Axh:List COp:=AmJ ()
def AmK(_:Unit):List COp:=[⟨fun a Z=>aG (some 4) (a.get 10) Z,some 49,tT⟩,
 ⟨fun a Z=>.enter 31 [(a.get 49),(.slice none 0 0)] Z,some 50,tT⟩,
 ⟨fun a Z=>.val (a.get 50) Z,some 11,tT⟩]
def Axi:List COp:=AmK ()
def AmL(_:Unit):List COp:=[⟨fun a Z=>.val (a.get 11) Z,some 51,tT⟩,
 ⟨fun a Z=>.val (a.get 9) Z,some 52,tT⟩,
 ⟨fun a Z=>.val (a.get 11) Z,some 53,tT⟩,
 ⟨fun a Z=>flenL (a.get 53) Z,some 54,tT⟩,
 ⟨fun a Z=>i_sub Tryz.prog 3 (.tmp 54) (.const (.int .i64 1)) (a.get 54) (.int .i64 1) Z,some 55,tT⟩,
 ⟨fun a Z=>.enter 19 [(a.get 52),(a.get 55)] Z,some 56,tT⟩,
 ⟨fun a Z=>bH (none,1) (a.get 51) (a.get 56) Z,some 57,tT⟩,
 ⟨fun a Z=>aG none (a.get 57) Z,some 58,tT⟩,
 ⟨fun a Z=>.val (a.get 58) Z,some 12,tT⟩]
def Axj:List COp:=AmL ()
def AmM(_:Unit):List DOp:=[⟨fun a Z=>.val (a.get 9) Z,some 62,tT,some 0,false⟩,
 ⟨fun a Z=>.val (a.get 11) Z,some 63,tT,some 0,false⟩,
 ⟨fun a Z=>flenL (a.get 63) Z,some 64,tT,some 0,false⟩,
 ⟨fun a Z=>i_sub Tryz.prog 3 (.tmp 64) (.const (.int .i64 1)) (a.get 64) (.int .i64 1) Z,some 65,tT,some 0,false⟩,
 ⟨fun a Z=>.enter 19 [(a.get 62),(a.get 65)] Z,some 66,tT,none,false⟩,
 ⟨fun a Z=>aG (some 4) (a.get 10) Z,some 60,tT,some 0,false⟩,
 ⟨fun a Z=>.val (a.get 11) Z,some 61,tT,some 0,false⟩,
 ⟨fun a Z=>bH (none,1) (a.get 61) (a.get 66) Z,some 67,tT,some 1,false⟩,
 ⟨fun a Z=>aG none (a.get 67) Z,some 68,tT,some 1,false⟩,
 ⟨fun a Z=>.enter 32 [(a.get 60),(a.get 68)] Z,some 69,tT,none,false⟩,
 ⟨fun a Z=>.val (a.get 69) Z,some 59,tT,some 2,false⟩,
 ⟨fun a Z=>aO 0 (a.get 59) Z,some 70,tT,some 2,false⟩,
 ⟨fun a Z=>aM [(.int .i64 0),(.int .i64 0),(.string ⟨#[]⟩),(.slice none 0 0)] 24 none Z,some 13,tT,some 0,false⟩,
 ⟨fun a Z=>aK 4 (a.get 13) (a.get 70) Z,none,tT,none,false⟩,
 ⟨fun a Z=>aO 1 (a.get 59) Z,some 71,tT,some 2,false⟩,
 ⟨fun a Z=>.val (a.get 71) Z,some 14,tT,some 3,false⟩]
def Axk:List DOp:=AmM ()
def AmN(_:Unit):List DOp:=[⟨fun a Z=>.val (a.get 12) Z,some 82,tT,some 0,false⟩,
 ⟨fun a Z=>.enter 33 [(a.get 82)] Z,some 83,tT,none,false⟩,
 ⟨fun a Z=>.val (a.get 9) Z,some 84,tT,some 0,false⟩,
 ⟨fun a Z=>.enter 19 [(a.get 84),(.int .i64 2)] Z,some 85,tT,none,false⟩,
 ⟨fun a Z=>aR 3 1 1 [(.int .i64 0)] [(0,(a.get 85))] Z,some 86,tT,some 2,false⟩,
 ⟨fun a Z=>bO 3 1 8 (a.get 83) (a.get 86) Z,some 87,tT,none,false⟩,
 ⟨fun a Z=>aG (some 4) (a.get 4) Z,some 72,tT,some 0,false⟩,
 ⟨fun a Z=>aG (some 4) (a.get 10) Z,some 73,tT,some 0,false⟩,
 ⟨fun a Z=>aG (some 4) (a.get 10) Z,some 74,tT,some 0,false⟩,
 ⟨fun a Z=>aR 24 3 4 [(.int .i64 0),(.int .i64 0),(.string ⟨#[]⟩),(.slice none 0 0)] [(0,(a.get 72)),(1,(a.get 73)),(2,(a.get 74))] Z,some 75,tT,some 0,false⟩,
 ⟨fun a Z=>aG (some 4) (a.get 5) Z,some 76,tT,some 0,false⟩,
 ⟨fun a Z=>aG (some 4) (a.get 13) Z,some 77,tT,some 0,false⟩,
 ⟨fun a Z=>aG (some 4) (a.get 5) Z,some 78,tT,some 0,false⟩,
 ⟨fun a Z=>aR 24 3 4 [(.int .i64 0),(.int .i64 0),(.string ⟨#[]⟩),(.slice none 0 0)] [(0,(a.get 76)),(1,(a.get 77)),(2,(a.get 78))] Z,some 79,tT,some 0,false⟩,
 ⟨fun a Z=>.val (a.get 2) Z,some 80,tT,some 0,false⟩,
 ⟨fun a Z=>.val (a.get 12) Z,some 81,tT,some 0,false⟩,
 ⟨fun a Z=>aR 25 3 1 [(.slice none 0 0)] [(0,(a.get 80)),(1,(a.get 81)),(2,(a.get 87))] Z,some 88,tT,some 3,false⟩,
 ⟨fun a Z=>.val (a.get 75) Z,some 15,tT,some 3,false⟩,
 ⟨fun a Z=>.val (a.get 79) Z,some 16,tT,some 3,false⟩,
 ⟨fun a Z=>.val (a.get 88) Z,some 17,tT,some 3,false⟩]
def Axl:List DOp:=AmN ()
def AmO(_:Unit):List COp:=[⟨fun a Z=>.val (.int .i64 0) Z,some 18,tT⟩]
def Axm:List COp:=AmO ()
def Uv(_:Unit):List COp:=[⟨fun a Z=>.val (a.get 18) Z,some 89,tT⟩,
 ⟨fun a Z=>.val (a.get 15) Z,some 90,tT⟩,
 ⟨fun a Z=>flenL (a.get 90) Z,some 91,tT⟩,
 ⟨fun a Z=>i_lss Tryz.prog 3 (.tmp 89) (.tmp 91) (a.get 89) (a.get 91) Z,some 92,tT⟩]
def AtT:List COp:=Uv ()
def Aa1(_:Unit):List DOp:=[⟨fun a Z=>.val (a.get 15) Z,some 95,tT,some 0,false⟩,
 ⟨fun a Z=>.val (a.get 18) Z,some 96,tT,some 0,false⟩,
 ⟨fun a Z=>bH (none,4) (a.get 95) (a.get 96) Z,some 97,tT,some 0,false⟩,
 ⟨fun a Z=>aG (some 4) (a.get 97) Z,some 98,tT,some 0,false⟩,
 ⟨fun a Z=>.enter 10 [(a.get 98)] Z,some 99,tT,none,false⟩,
 ⟨fun a Z=>.val (a.get 17) Z,some 100,tT,some 0,false⟩,
 ⟨fun a Z=>.val (a.get 18) Z,some 101,tT,some 0,false⟩,
 ⟨fun a Z=>bH (none,1) (a.get 100) (a.get 101) Z,some 102,tT,some 0,false⟩,
 ⟨fun a Z=>aG none (a.get 102) Z,some 103,tT,some 0,false⟩,
 ⟨fun a Z=>.enter 33 [(a.get 103)] Z,some 104,tT,none,false⟩,
 ⟨fun a Z=>aM [(.int .i64 0),(.int .i64 0),(.string ⟨#[]⟩),(.slice none 0 0)] 24 none Z,some 19,tT,some 0,false⟩,
 ⟨fun a Z=>aK 4 (a.get 19) (a.get 99) Z,none,tT,none,true⟩,
 ⟨fun a Z=>.val (a.get 104) Z,some 20,tT,some 3,false⟩]
def AtV:List DOp:=Aa1 ()
def Aa2(_:Unit):List COp:=[⟨fun a Z=>aG (some 4) (a.get 19) Z,some 106,tT⟩,
 ⟨fun a Z=>.val (a.get 20) Z,some 107,tT⟩,
 ⟨fun a Z=>.enter 34 [(a.get 106),(a.get 107)] Z,some 108,tT⟩,
 ⟨fun a Z=>.val (a.get 108) Z,some 105,tT⟩,
 ⟨fun a Z=>aO 0 (a.get 105) Z,some 109,tT⟩,
 ⟨fun a Z=>aO 1 (a.get 105) Z,some 110,tT⟩,
 ⟨fun a Z=>aM [(.int .i64 0),(.int .i64 0),(.string ⟨#[]⟩),(.slice none 0 0)] 24 none Z,some 21,tT⟩,
 ⟨fun a Z=>aK 4 (a.get 21) (a.get 109) Z,none,tT⟩,
 ⟨fun a Z=>.val (a.get 110) Z,some 22,tT⟩]
def AtW:List COp:=Aa2 ()
def Aa3(_:Unit):List DOp:=[⟨fun a Z=>.val (a.get 15) Z,some 112,tT,some 0,false⟩,
 ⟨fun a Z=>.val (a.get 18) Z,some 113,tT,some 0,false⟩,
 ⟨fun a Z=>bH (none,4) (a.get 112) (a.get 113) Z,some 114,tT,some 0,false⟩,
 ⟨fun a Z=>aG (some 4) (a.get 114) Z,some 115,tT,some 0,false⟩,
 ⟨fun a Z=>.val (a.get 17) Z,some 116,tT,some 0,false⟩,
 ⟨fun a Z=>.val (a.get 18) Z,some 117,tT,some 0,false⟩,
 ⟨fun a Z=>bH (none,1) (a.get 116) (a.get 117) Z,some 118,tT,some 0,false⟩,
 ⟨fun a Z=>aG none (a.get 118) Z,some 119,tT,some 0,false⟩,
 ⟨fun a Z=>.enter 35 [(a.get 115),(a.get 119)] Z,some 120,tT,none,false⟩,
 ⟨fun a Z=>.val (a.get 120) Z,some 111,tT,some 1,false⟩,
 ⟨fun a Z=>aO 0 (a.get 111) Z,some 121,tT,some 1,false⟩,
 ⟨fun a Z=>aM [(.int .i64 0),(.int .i64 0),(.string ⟨#[]⟩),(.slice none 0 0)] 24 none Z,some 23,tT,some 0,false⟩,
 ⟨fun a Z=>aK 4 (a.get 23) (a.get 121) Z,none,tT,none,false⟩,
 ⟨fun a Z=>aO 1 (a.get 111) Z,some 122,tT,some 1,false⟩,
 ⟨fun a Z=>.val (a.get 122) Z,some 24,tT,some 2,false⟩]
def AtX:List DOp:=Aa3 ()
def Aa4(_:Unit):List DOp:=[⟨fun a Z=>aG (some 4) (a.get 19) Z,some 124,tT,some 0,false⟩,
 ⟨fun a Z=>.val (a.get 20) Z,some 125,tT,some 0,false⟩,
 ⟨fun a Z=>.val (a.get 16) Z,some 126,tT,some 0,false⟩,
 ⟨fun a Z=>.val (a.get 18) Z,some 127,tT,some 0,false⟩,
 ⟨fun a Z=>bH (none,4) (a.get 126) (a.get 127) Z,some 128,tT,some 0,false⟩,
 ⟨fun a Z=>aG (some 4) (a.get 128) Z,some 129,tT,some 0,false⟩,
 ⟨fun a Z=>.enter 36 [(a.get 124),(a.get 125),(a.get 129)] Z,some 130,tT,none,false⟩,
 ⟨fun a Z=>.val (a.get 130) Z,some 123,tT,some 1,false⟩,
 ⟨fun a Z=>aO 0 (a.get 123) Z,some 131,tT,some 1,false⟩,
 ⟨fun a Z=>aM [(.int .i64 0),(.int .i64 0),(.string ⟨#[]⟩),(.slice none 0 0)] 24 none Z,some 25,tT,some 0,false⟩,
 ⟨fun a Z=>aK 4 (a.get 25) (a.get 131) Z,none,tT,none,false⟩,
 ⟨fun a Z=>aO 1 (a.get 123) Z,some 132,tT,some 1,false⟩,
 ⟨fun a Z=>.val (a.get 132) Z,some 26,tT,some 2,false⟩]
def AtY:List DOp:=Aa4 ()
def Aa5(_:Unit):List DOp:=[⟨fun a Z=>.val (a.get 15) Z,some 134,tT,some 0,false⟩,
 ⟨fun a Z=>.val (a.get 18) Z,some 135,tT,some 0,false⟩,
 ⟨fun a Z=>bH (none,4) (a.get 134) (a.get 135) Z,some 136,tT,some 0,false⟩,
 ⟨fun a Z=>aG (some 4) (a.get 136) Z,some 137,tT,some 0,false⟩,
 ⟨fun a Z=>.val (a.get 17) Z,some 138,tT,some 0,false⟩,
 ⟨fun a Z=>.val (a.get 18) Z,some 139,tT,some 0,false⟩,
 ⟨fun a Z=>bH (none,1) (a.get 138) (a.get 139) Z,some 140,tT,some 0,false⟩,
 ⟨fun a Z=>aG none (a.get 140) Z,some 141,tT,some 0,false⟩,
 ⟨fun a Z=>.val (a.get 16) Z,some 142,tT,some 0,false⟩,
 ⟨fun a Z=>.val (a.get 18) Z,some 143,tT,some 0,false⟩,
 ⟨fun a Z=>bH (none,4) (a.get 142) (a.get 143) Z,some 144,tT,some 0,false⟩,
 ⟨fun a Z=>aG (some 4) (a.get 144) Z,some 145,tT,some 0,false⟩,
 ⟨fun a Z=>.enter 37 [(a.get 137),(a.get 141),(a.get 145)] Z,some 146,tT,none,false⟩,
 ⟨fun a Z=>.val (a.get 146) Z,some 133,tT,some 1,false⟩,
 ⟨fun a Z=>aO 0 (a.get 133) Z,some 147,tT,some 1,false⟩,
 ⟨fun a Z=>aM [(.int .i64 0),(.int .i64 0),(.string ⟨#[]⟩),(.slice none 0 0)] 24 none Z,some 27,tT,some 0,false⟩,
 ⟨fun a Z=>aK 4 (a.get 27) (a.get 147) Z,none,tT,none,false⟩,
 ⟨fun a Z=>aO 1 (a.get 133) Z,some 148,tT,some 1,false⟩,
 ⟨fun a Z=>.val (a.get 148) Z,some 28,tT,some 2,false⟩]
def AtZ:List DOp:=Aa5 ()
def Aa6(_:Unit):List DOp:=[⟨fun a Z=>aG (some 4) (a.get 19) Z,some 150,tT,some 0,false⟩,
 ⟨fun a Z=>.val (a.get 16) Z,some 151,tT,some 0,false⟩,
 ⟨fun a Z=>.val (a.get 18) Z,some 152,tT,some 0,false⟩,
 ⟨fun a Z=>bH (none,4) (a.get 151) (a.get 152) Z,some 153,tT,some 0,false⟩,
 ⟨fun a Z=>aG (some 4) (a.get 153) Z,some 154,tT,some 0,false⟩,
 ⟨fun a Z=>.enter 38 [(a.get 150),(a.get 154)] Z,some 155,tT,none,true⟩,
 ⟨fun a Z=>.val (a.get 155) Z,some 149,tT,some 1,false⟩,
 ⟨fun a Z=>aO 0 (a.get 149) Z,some 156,tT,some 1,false⟩,
 ⟨fun a Z=>aO 1 (a.get 149) Z,some 157,tT,some 1,false⟩,
 ⟨fun a Z=>.val (a.get 156) Z,some 29,tT,some 1,false⟩,
 ⟨fun a Z=>.val (a.get 157) Z,some 30,tT,some 1,false⟩]
def At0:List DOp:=Aa6 ()
def Aa7(_:Unit):List DOp:=[⟨fun a Z=>.val (a.get 15) Z,some 159,tT,some 0,false⟩,
 ⟨fun a Z=>.val (a.get 18) Z,some 160,tT,some 0,false⟩,
 ⟨fun a Z=>bH (none,4) (a.get 159) (a.get 160) Z,some 161,tT,some 0,false⟩,
 ⟨fun a Z=>aG (some 4) (a.get 161) Z,some 162,tT,some 0,false⟩,
 ⟨fun a Z=>.val (a.get 16) Z,some 163,tT,some 0,false⟩,
 ⟨fun a Z=>.val (a.get 18) Z,some 164,tT,some 0,false⟩,
 ⟨fun a Z=>bH (none,4) (a.get 163) (a.get 164) Z,some 165,tT,some 0,false⟩,
 ⟨fun a Z=>aG (some 4) (a.get 165) Z,some 166,tT,some 0,false⟩,
 ⟨fun a Z=>.enter 39 [(a.get 162),(a.get 166)] Z,some 167,tT,none,true⟩,
 ⟨fun a Z=>.val (a.get 167) Z,some 158,tT,some 1,false⟩,
 ⟨fun a Z=>aO 0 (a.get 158) Z,some 168,tT,some 1,false⟩,
 ⟨fun a Z=>aO 1 (a.get 158) Z,some 169,tT,some 1,false⟩,
 ⟨fun a Z=>.val (a.get 168) Z,some 31,tT,some 1,false⟩,
 ⟨fun a Z=>.val (a.get 169) Z,some 32,tT,some 1,false⟩]
def At1:List DOp:=Aa7 ()
def Aa8(_:Unit):List DOp:=[⟨fun a Z=>.val (a.get 22) Z,some 170,tT,some 0,false⟩,
 ⟨fun a Z=>.val (a.get 24) Z,some 171,tT,some 0,false⟩,
 ⟨fun a Z=>i_neq Tryz.prog 32 (.tmp 170) (.tmp 171) (a.get 170) (a.get 171) Z,some 172,tT,some 0,false⟩,
 ⟨fun a Z=>.val (a.get 172) Z,some 173,tT,some 0,false⟩,
 ⟨fun a Z=>aG (some 4) (a.get 21) Z,some 174,fun a=>gd (a.get 173) false,some 0,false⟩,
 ⟨fun a Z=>aG (some 4) (a.get 23) Z,some 175,fun a=>gd (a.get 173) false,some 0,false⟩,
 ⟨fun a Z=>.enter 18 [(a.get 174),(a.get 175)] Z,some 176,fun a=>gd (a.get 173) false,none,true⟩,
 ⟨fun a Z=>fun1 Tryz.prog (Op.unary .not) (a.get 176) Z,some 177,fun a=>gd (a.get 173) false,some 1,false⟩,
 ⟨fun a Z=>bQ (a.get 173) (.bool true) (a.get 177) Z,some 178,tT,some 1,false⟩,
 ⟨fun a Z=>.val (a.get 178) Z,some 179,tT,some 1,false⟩,
 ⟨fun a Z=>.val (a.get 26) Z,some 180,fun a=>gd (a.get 179) false,some 1,false⟩,
 ⟨fun a Z=>.val (a.get 28) Z,some 181,fun a=>gd (a.get 179) false,some 1,false⟩,
 ⟨fun a Z=>i_neq Tryz.prog 32 (.tmp 180) (.tmp 181) (a.get 180) (a.get 181) Z,some 182,fun a=>gd (a.get 179) false,some 1,false⟩,
 ⟨fun a Z=>bQ (a.get 179) (.bool true) (a.get 182) Z,some 183,tT,some 1,false⟩,
 ⟨fun a Z=>.val (a.get 183) Z,some 184,tT,some 1,false⟩,
 ⟨fun a Z=>aG (some 4) (a.get 25) Z,some 185,fun a=>gd (a.get 184) false,some 1,false⟩,
 ⟨fun a Z=>aG (some 4) (a.get 27) Z,some 186,fun a=>gd (a.get 184) false,some 1,false⟩,
 ⟨fun a Z=>.enter 18 [(a.get 185),(a.get 186)] Z,some 187,fun a=>gd (a.get 184) false,none,true⟩,
 ⟨fun a Z=>fun1 Tryz.prog (Op.unary .not) (a.get 187) Z,some 188,fun a=>gd (a.get 184) false,some 2,false⟩,
 ⟨fun a Z=>bQ (a.get 184) (.bool true) (a.get 188) Z,some 189,tT,some 2,false⟩,
 ⟨fun a Z=>.val (a.get 189) Z,some 190,tT,some 2,false⟩,
 ⟨fun a Z=>.val (a.get 30) Z,some 191,fun a=>gd (a.get 190) false,some 2,false⟩,
 ⟨fun a Z=>.val (a.get 32) Z,some 192,fun a=>gd (a.get 190) false,some 2,false⟩,
 ⟨fun a Z=>i_neq Tryz.prog 32 (.tmp 191) (.tmp 192) (a.get 191) (a.get 192) Z,some 193,fun a=>gd (a.get 190) false,some 2,false⟩,
 ⟨fun a Z=>bQ (a.get 190) (.bool true) (a.get 193) Z,some 194,tT,some 2,false⟩,
 ⟨fun a Z=>.val (a.get 194) Z,some 195,tT,some 2,false⟩,
 ⟨fun a Z=>.val (a.get 29) Z,some 196,fun a=>gd (a.get 195) false,some 2,false⟩,
 ⟨fun a Z=>.val (a.get 31) Z,some 197,fun a=>gd (a.get 195) false,some 2,false⟩,
 ⟨fun a Z=>.enter 40 [(a.get 196),(a.get 197)] Z,some 198,fun a=>gd (a.get 195) false,none,true⟩,
 ⟨fun a Z=>fun1 Tryz.prog (Op.unary .not) (a.get 198) Z,some 199,fun a=>gd (a.get 195) false,some 3,false⟩,
 ⟨fun a Z=>bQ (a.get 195) (.bool true) (a.get 199) Z,some 200,tT,some 3,false⟩,
 ⟨fun a Z=>.val (a.get 200) Z,some 201,tT,some 3,false⟩,
 ⟨fun a Z=>aG (some 4) (a.get 19) Z,some 202,fun a=>gd (a.get 201) false,some 3,false⟩,
 ⟨fun a Z=>.val (a.get 15) Z,some 203,fun a=>gd (a.get 201) false,some 3,false⟩,
 ⟨fun a Z=>.val (a.get 18) Z,some 204,fun a=>gd (a.get 201) false,some 3,false⟩,
 ⟨fun a Z=>bH (none,4) (a.get 203) (a.get 204) Z,some 205,fun a=>gd (a.get 201) false,some 3,false⟩,
 ⟨fun a Z=>aG (some 4) (a.get 205) Z,some 206,fun a=>gd (a.get 201) false,some 3,false⟩,
 ⟨fun a Z=>.enter 18 [(a.get 202),(a.get 206)] Z,some 207,fun a=>gd (a.get 201) false,none,true⟩,
 ⟨fun a Z=>fun1 Tryz.prog (Op.unary .not) (a.get 207) Z,some 208,fun a=>gd (a.get 201) false,some 4,false⟩,
 ⟨fun a Z=>bQ (a.get 201) (.bool true) (a.get 208) Z,some 209,tT,some 4,false⟩,
 ⟨fun a Z=>.val (a.get 209) Z,some 210,tT,some 4,false⟩,
 ⟨fun a Z=>.val (a.get 20) Z,some 211,fun a=>gd (a.get 210) false,some 4,false⟩,
 ⟨fun a Z=>.val (a.get 17) Z,some 212,fun a=>gd (a.get 210) false,some 4,false⟩,
 ⟨fun a Z=>.val (a.get 18) Z,some 213,fun a=>gd (a.get 210) false,some 4,false⟩,
 ⟨fun a Z=>bH (none,1) (a.get 212) (a.get 213) Z,some 214,fun a=>gd (a.get 210) false,some 4,false⟩,
 ⟨fun a Z=>aG none (a.get 214) Z,some 215,fun a=>gd (a.get 210) false,some 4,false⟩,
 ⟨fun a Z=>.enter 41 [(a.get 211),(a.get 215)] Z,some 216,fun a=>gd (a.get 210) false,none,true⟩,
 ⟨fun a Z=>fun1 Tryz.prog (Op.unary .not) (a.get 216) Z,some 217,fun a=>gd (a.get 210) false,some 5,false⟩,
 ⟨fun a Z=>bQ (a.get 210) (.bool true) (a.get 217) Z,some 218,tT,some 5,false⟩]
def At2:List DOp:=Aa8 ()
def Axf(_:Unit):List COp:=[⟨fun a Z=>.val (.bool false) Z,some 8,tT⟩]
def AxW:List COp:=Axf ()
def Aa0(_:Unit):List COp:=[⟨fun a Z=>.val (a.get 18) Z,some 93,tT⟩,
 ⟨fun a Z=>i_add Tryz.prog 3 (.tmp 93) (.const (.int .i64 1)) (a.get 93) (.int .i64 1) Z,some 94,tT⟩,
 ⟨fun a Z=>.val (a.get 94) Z,some 18,tT⟩]
def AtU:List COp:=Aa0 ()
def AeG(E:Env)(ro:Option Nat)(fn:FuncId):aZ:=(aF (aF (aD E ro AtT) (aL (fun a=>(a.get 92)) aU (exitR 0))) (aF (aW 1 (aF (drawR E ro AtV) (aF (aD E ro AtW) (aF (drawR E ro AtX) (aF (drawR E ro AtY) (aF (drawR E ro AtZ) (aF (drawR E ro At0) (aF (drawR E ro At1) (aF (drawR E ro At2) (aL (fun a=>(a.get 218)) (aF (aD E ro AxW) bM) aU)))))))))) (aD E ro AtU)))
def Aa9(_:Unit):List COp:=[⟨fun a Z=>.enter 7 [] Z,some 219,tT⟩,
 ⟨fun a Z=>.val (a.get 219) Z,some 8,tT⟩]
def AmG:List COp:=Aa9 ()
def Axy(E:Env)(ro:Option Nat)(fn:FuncId):aZ:=(aF (aD E ro Axc) (aF (aF (aD E ro Axd) (aL (fun a=>(a.get 43)) (aF (aD E ro Axe) bM) aU)) (aF (aD E ro Axg) (aF (aD E ro Axh) (aF (aD E ro Axi) (aF (aD E ro Axj) (aF (drawR E ro Axk) (aF (drawR E ro Axl) (aF (aF (aD E ro Axm) (aW 0 (loopR (bI nls fn) (AeG E ro fn)))) (aF (aD E ro AmG) bM))))))))))
theorem MI:aD E ro Axc a u Z=aD E ro (Q6 ()) a u Z:=rfl
theorem MJ:aD E ro Axd a u Z=aD E ro (Q7 ()) a u Z:=rfl
theorem Uw:aD E ro Axe a u Z=aD E ro (XY ()) a u Z:=rfl
theorem Arp:aD E ro Axg a u Z=aD E ro (AmI ()) a u Z:=rfl
theorem Arq:aD E ro Axh a u Z=aD E ro (AmJ ()) a u Z:=rfl
theorem Arr:aD E ro Axi a u Z=aD E ro (AmK ()) a u Z:=rfl
theorem Ars:aD E ro Axj a u Z=aD E ro (AmL ()) a u Z:=rfl
theorem Art:bB E ro last Axk cl a u Z=bB E ro last (AmM ()) cl a u Z:=rfl
theorem Aru:bB E ro last Axl cl a u Z=bB E ro last (AmN ()) cl a u Z:=rfl
theorem Arv:aD E ro Axm a u Z=aD E ro (AmO ()) a u Z:=rfl
theorem XX:aD E ro AtT a u Z=aD E ro (Uv ()) a u Z:=rfl
theorem Amy:bB E ro last AtV cl a u Z=bB E ro last (Aa1 ()) cl a u Z:=rfl
theorem Amz:aD E ro AtW a u Z=aD E ro (Aa2 ()) a u Z:=rfl
theorem AmA:bB E ro last AtX cl a u Z=bB E ro last (Aa3 ()) cl a u Z:=rfl
theorem AmB:bB E ro last AtY cl a u Z=bB E ro last (Aa4 ()) cl a u Z:=rfl
theorem AmC:bB E ro last AtZ cl a u Z=bB E ro last (Aa5 ()) cl a u Z:=rfl
theorem AmD:bB E ro last At0 cl a u Z=bB E ro last (Aa6 ()) cl a u Z:=rfl
theorem AmE:bB E ro last At1 cl a u Z=bB E ro last (Aa7 ()) cl a u Z:=rfl
theorem AmF:bB E ro last At2 cl a u Z=bB E ro last (Aa8 ()) cl a u Z:=rfl
theorem Amx:aD E ro AtU a u Z=aD E ro (Aa0 ()) a u Z:=rfl
theorem AmH:aD E ro AmG a u Z=aD E ro (Aa9 ()) a u Z:=rfl
theorem AxL(E:Env)(ro:Option Nat)(fn:FuncId):code Tryz.prog nls (Tryz.f5.body.getD .skip) E ro fn=Axy E ro fn:=by kernel_rfl
theorem AwA(E:Env)(args:List Value)(u:Option FrameMode)(Z:aC)(hn:args.length<=(33:Nat)):bA Tryz.prog nls E 5 args u Z=aN Tryz.prog E [.tmp 8] (Axy E none 5 ⟨aX undef 33 args,fun _=>undef,33,220,[]⟩ u Z):=by
 rw[Ap (body:=Tryz.f5.body.getD .skip) Tryz.func5 rfl E args u Z 33 220 (by kernel_rfl) rfl ⟨hn,by decide⟩,AxL]
 rfl
def Aap(_:Unit):List COp:=[⟨fun a Z=>fbox 24 (a.get 0) Z,some 2,tT⟩,
 ⟨fun a Z=>aM [(.int .i64 0),(.int .i64 0),(.string ⟨#[]⟩),(.slice none 0 0)] 24 none Z,some 4,tT⟩,
 ⟨fun a Z=>.val (.int .i64 0) Z,some 5,tT⟩]
def AsH:List COp:=Aap ()
def NX(_:Unit):List COp:=[⟨fun a Z=>aG (some 4) (a.get 2) Z,some 9,tT⟩,
 ⟨fun a Z=>.enter 16 [(a.get 9)] Z,some 10,tT⟩,
 ⟨fun a Z=>.val (a.get 10) Z,some 6,tT⟩]
def AsI:List COp:=NX ()
def NZ(_:Unit):List COp:=[⟨fun a Z=>.val (a.get 6) Z,some 11,tT⟩,
 ⟨fun a Z=>i_neq Tryz.prog 32 (.tmp 11) (.const (.int .i64 0)) (a.get 11) (.int .i64 0) Z,some 12,tT⟩]
def AsJ:List COp:=NZ ()
def Aaq(_:Unit):List COp:=[⟨fun a Z=>fbuild (fun i=>nth [(0,1),(1,1),(2,1),(3,1)] i) [(.int .i64 0),(.int .i64 0),(.string ⟨#[]⟩),(.slice none 0 0)] [] Z,some 13,tT⟩,
 ⟨fun a Z=>.val (a.get 6) Z,some 14,tT⟩,
 ⟨fun a Z=>aK 4 (a.get 4) (a.get 13) Z,none,tT⟩,
 ⟨fun a Z=>.val (a.get 14) Z,some 5,tT⟩]
def AsK:List COp:=Aaq ()
def T_(_:Unit):List COp:=[⟨fun a Z=>aG (some 4) (a.get 2) Z,some 16,tT⟩,
 ⟨fun a Z=>.val (a.get 1) Z,some 17,tT⟩,
 ⟨fun a Z=>.enter 32 [(a.get 16),(a.get 17)] Z,some 18,tT⟩,
 ⟨fun a Z=>.val (a.get 18) Z,some 15,tT⟩,
 ⟨fun a Z=>aO 0 (a.get 15) Z,some 19,tT⟩,
 ⟨fun a Z=>aO 1 (a.get 15) Z,some 20,tT⟩,
 ⟨fun a Z=>aM [(.int .i64 0),(.int .i64 0),(.string ⟨#[]⟩),(.slice none 0 0)] 24 none Z,some 7,tT⟩,
 ⟨fun a Z=>aK 4 (a.get 7) (a.get 19) Z,none,tT⟩,
 ⟨fun a Z=>.val (a.get 20) Z,some 8,tT⟩]
def AsL:List COp:=T_ ()
def Ua(_:Unit):List COp:=[⟨fun a Z=>.val (a.get 8) Z,some 21,tT⟩,
 ⟨fun a Z=>fun1 Tryz.prog (Op.unary .not) (a.get 21) Z,some 22,tT⟩]
def AsM:List COp:=Ua ()
def Aar(_:Unit):List COp:=[⟨fun a Z=>fbuild (fun i=>nth [(0,1),(1,1),(2,1),(3,1)] i) [(.int .i64 0),(.int .i64 0),(.string ⟨#[]⟩),(.slice none 0 0)] [] Z,some 23,tT⟩,
 ⟨fun a Z=>aK 4 (a.get 4) (a.get 23) Z,none,tT⟩,
 ⟨fun a Z=>.val (.int .i64 9) Z,some 5,tT⟩]
def AsN:List COp:=Aar ()
def Aas(_:Unit):List COp:=[⟨fun a Z=>aG (some 4) (a.get 7) Z,some 24,tT⟩,
 ⟨fun a Z=>aK 4 (a.get 4) (a.get 24) Z,none,tT⟩,
 ⟨fun a Z=>.val (.int .i64 0) Z,some 5,tT⟩]
def AsO:List COp:=Aas ()
def An8(E:Env)(ro:Option Nat)(fn:FuncId):aZ:=(aF (aD E ro AsH) (aF (aF (aD E ro AsI) (aF (aD E ro AsJ) (aL (fun a=>(a.get 12)) (aF (aD E ro AsK) bM) aU))) (aF (aD E ro AsL) (aF (aF (aD E ro AsM) (aL (fun a=>(a.get 22)) (aF (aD E ro AsN) bM) aU)) (aF (aD E ro AsO) bM)))))
theorem AlW:aD E ro AsH a u Z=aD E ro (Aap ()) a u Z:=rfl
theorem NY:aD E ro AsI a u Z=aD E ro (NX ()) a u Z:=rfl
theorem N0:aD E ro AsJ a u Z=aD E ro (NZ ()) a u Z:=rfl
theorem AlX:aD E ro AsK a u Z=aD E ro (Aaq ()) a u Z:=rfl
theorem XB:aD E ro AsL a u Z=aD E ro (T_ ()) a u Z:=rfl
theorem XC:aD E ro AsM a u Z=aD E ro (Ua ()) a u Z:=rfl
theorem AlY:aD E ro AsN a u Z=aD E ro (Aar ()) a u Z:=rfl
theorem AlZ:aD E ro AsO a u Z=aD E ro (Aas ()) a u Z:=rfl
theorem Av1(E:Env)(ro:Option Nat)(fn:FuncId):code Tryz.prog nls (Tryz.f35.body.getD .skip) E ro fn=An8 E ro fn:=by kernel_rfl
theorem ApQ(E:Env)(args:List Value)(u:Option FrameMode)(Z:aC)(hn:args.length<=(9:Nat)):bA Tryz.prog nls E 35 args u Z=aN Tryz.prog E [.cell 4 24,.tmp 5] (An8 E none 35 ⟨aX undef 9 args,fun _=>undef,9,25,[]⟩ u Z):=by
 rw[Ap (body:=Tryz.f35.body.getD .skip) Tryz.func35 rfl E args u Z 9 25 (by kernel_rfl) rfl ⟨hn,by decide⟩,Av1]
 rfl
def Uh(_:Unit):List COp:=[⟨fun a Z=>fbox 24 (a.get 0) Z,some 2,tT⟩,
 ⟨fun a Z=>fbox 24 (a.get 1) Z,some 3,tT⟩,
 ⟨fun a Z=>.val (.slice none 0 0) Z,some 4,tT⟩,
 ⟨fun a Z=>.val (.int .i64 0) Z,some 5,tT⟩]
def As1:List COp:=Uh ()
def Ui(_:Unit):List COp:=[⟨fun a Z=>aG (some 4) (a.get 2) Z,some 7,tT⟩,
 ⟨fun a Z=>aG (some 4) (a.get 3) Z,some 8,tT⟩,
 ⟨fun a Z=>.enter 89 [(a.get 7),(a.get 8)] Z,some 9,tT⟩,
 ⟨fun a Z=>.val (a.get 9) Z,some 6,tT⟩]
def As2:List COp:=Ui ()
def Uj(_:Unit):List COp:=[⟨fun a Z=>.val (a.get 6) Z,some 10,tT⟩,
 ⟨fun a Z=>i_neq Tryz.prog 32 (.tmp 10) (.const (.int .i64 0)) (a.get 10) (.int .i64 0) Z,some 11,tT⟩]
def As3:List COp:=Uj ()
def Aax(_:Unit):List COp:=[⟨fun a Z=>.val (a.get 6) Z,some 12,tT⟩,
 ⟨fun a Z=>.val (.slice none 0 0) Z,some 4,tT⟩,
 ⟨fun a Z=>.val (a.get 12) Z,some 5,tT⟩]
def As4:List COp:=Aax ()
def Aay(_:Unit):List COp:=[⟨fun a Z=>aG (some 4) (a.get 2) Z,some 13,tT⟩,
 ⟨fun a Z=>aG (some 4) (a.get 3) Z,some 14,tT⟩,
 ⟨fun a Z=>.enter 100 [(a.get 13),(a.get 14)] Z,some 15,tT⟩,
 ⟨fun a Z=>.val (a.get 15) Z,some 4,tT⟩,
 ⟨fun a Z=>.val (.int .i64 0) Z,some 5,tT⟩]
def As5:List COp:=Aay ()
def Aoc(E:Env)(ro:Option Nat)(fn:FuncId):aZ:=(aF (aD E ro As1) (aF (aF (aD E ro As2) (aF (aD E ro As3) (aL (fun a=>(a.get 11)) (aF (aD E ro As4) bM) aU))) (aF (aD E ro As5) bM)))
theorem XJ:aD E ro As1 a u Z=aD E ro (Uh ()) a u Z:=rfl
theorem XK:aD E ro As2 a u Z=aD E ro (Ui ()) a u Z:=rfl
theorem XL:aD E ro As3 a u Z=aD E ro (Uj ()) a u Z:=rfl
theorem Al4:aD E ro As4 a u Z=aD E ro (Aax ()) a u Z:=rfl
theorem Al5:aD E ro As5 a u Z=aD E ro (Aay ()) a u Z:=rfl
theorem Av5(E:Env)(ro:Option Nat)(fn:FuncId):code Tryz.prog nls (Tryz.f39.body.getD .skip) E ro fn=Aoc E ro fn:=by kernel_rfl
theorem ApU(E:Env)(args:List Value)(u:Option FrameMode)(Z:aC)(hn:args.length<=(7:Nat)):bA Tryz.prog nls E 39 args u Z=aN Tryz.prog E [.tmp 4,.tmp 5] (Aoc E none 39 ⟨aX undef 7 args,fun _=>undef,7,16,[]⟩ u Z):=by
 rw[Ap (body:=Tryz.f39.body.getD .skip) Tryz.func39 rfl E args u Z 7 16 (by kernel_rfl) rfl ⟨hn,by decide⟩,Av5]
 rfl
def Aaz(_:Unit):List COp:=[⟨fun a Z=>.val (.bool false) Z,some 4,tT⟩]
def As6:List COp:=Aaz ()
def AaA(_:Unit):List COp:=[⟨fun a Z=>.val (a.get 0) Z,some 6,tT⟩,
 ⟨fun a Z=>flenL (a.get 6) Z,some 7,tT⟩,
 ⟨fun a Z=>.val (a.get 1) Z,some 8,tT⟩,
 ⟨fun a Z=>flenL (a.get 8) Z,some 9,tT⟩,
 ⟨fun a Z=>i_neq Tryz.prog 3 (.tmp 7) (.tmp 9) (a.get 7) (a.get 9) Z,some 10,tT⟩]
def As7:List COp:=AaA ()
def Axa(_:Unit):List COp:=[⟨fun a Z=>.val (.bool false) Z,some 4,tT⟩]
def AxU:List COp:=Axa ()
def AaB(_:Unit):List COp:=[⟨fun a Z=>.val (.int .i64 0) Z,some 5,tT⟩]
def As8:List COp:=AaB ()
def Uk(_:Unit):List COp:=[⟨fun a Z=>.val (a.get 5) Z,some 11,tT⟩,
 ⟨fun a Z=>.val (a.get 0) Z,some 12,tT⟩,
 ⟨fun a Z=>flenL (a.get 12) Z,some 13,tT⟩,
 ⟨fun a Z=>i_lss Tryz.prog 3 (.tmp 11) (.tmp 13) (a.get 11) (a.get 13) Z,some 14,tT⟩]
def As9:List COp:=Uk ()
def AaD(_:Unit):List DOp:=[⟨fun a Z=>.val (a.get 0) Z,some 17,tT,some 0,false⟩,
 ⟨fun a Z=>.val (a.get 5) Z,some 18,tT,some 0,false⟩,
 ⟨fun a Z=>bH (none,1) (a.get 17) (a.get 18) Z,some 19,tT,some 0,false⟩,
 ⟨fun a Z=>aG none (a.get 19) Z,some 20,tT,some 0,false⟩,
 ⟨fun a Z=>.val (a.get 1) Z,some 21,tT,some 0,false⟩,
 ⟨fun a Z=>.val (a.get 5) Z,some 22,tT,some 0,false⟩,
 ⟨fun a Z=>bH (none,1) (a.get 21) (a.get 22) Z,some 23,tT,some 0,false⟩,
 ⟨fun a Z=>aG none (a.get 23) Z,some 24,tT,some 0,false⟩,
 ⟨fun a Z=>.enter 41 [(a.get 20),(a.get 24)] Z,some 25,tT,none,true⟩,
 ⟨fun a Z=>fun1 Tryz.prog (Op.unary .not) (a.get 25) Z,some 26,tT,some 1,false⟩]
def Atb:List DOp:=AaD ()
def Axb(_:Unit):List COp:=[⟨fun a Z=>.val (.bool false) Z,some 4,tT⟩]
def AxV:List COp:=Axb ()
def AaC(_:Unit):List COp:=[⟨fun a Z=>.val (a.get 5) Z,some 15,tT⟩,
 ⟨fun a Z=>i_add Tryz.prog 3 (.tmp 15) (.const (.int .i64 1)) (a.get 15) (.int .i64 1) Z,some 16,tT⟩,
 ⟨fun a Z=>.val (a.get 16) Z,some 5,tT⟩]
def Ata:List COp:=AaC ()
def AcX(E:Env)(ro:Option Nat)(fn:FuncId):aZ:=(aF (aF (aD E ro As9) (aL (fun a=>(a.get 14)) aU (exitR 0))) (aF (aW 1 (aF (drawR E ro Atb) (aL (fun a=>(a.get 26)) (aF (aD E ro AxV) bM) aU))) (aD E ro Ata)))
def AaE(_:Unit):List COp:=[⟨fun a Z=>.val (.bool true) Z,some 4,tT⟩]
def Atc:List COp:=AaE ()
def Aod(E:Env)(ro:Option Nat)(fn:FuncId):aZ:=(aF (aD E ro As6) (aF (aF (aD E ro As7) (aL (fun a=>(a.get 10)) (aF (aD E ro AxU) bM) aU)) (aF (aF (aD E ro As8) (aW 0 (loopR (bI nls fn) (AcX E ro fn)))) (aF (aD E ro Atc) bM))))
theorem Al6:aD E ro As6 a u Z=aD E ro (Aaz ()) a u Z:=rfl
theorem Al7:aD E ro As7 a u Z=aD E ro (AaA ()) a u Z:=rfl
theorem Al8:aD E ro As8 a u Z=aD E ro (AaB ()) a u Z:=rfl
theorem XM:aD E ro As9 a u Z=aD E ro (Uk ()) a u Z:=rfl
theorem Ama:bB E ro last Atb cl a u Z=bB E ro last (AaD ()) cl a u Z:=rfl
theorem Al9:aD E ro Ata a u Z=aD E ro (AaC ()) a u Z:=rfl
theorem Amb:aD E ro Atc a u Z=aD E ro (AaE ()) a u Z:=rfl
theorem Av6(E:Env)(ro:Option Nat)(fn:FuncId):code Tryz.prog nls (Tryz.f40.body.getD .skip) E ro fn=Aod E ro fn:=by kernel_rfl
theorem ApV(E:Env)(args:List Value)(u:Option FrameMode)(Z:aC)(hn:args.length<=(6:Nat)):bA Tryz.prog nls E 40 args u Z=aN Tryz.prog E [.tmp 4] (Aod E none 40 ⟨aX undef 6 args,fun _=>undef,6,27,[]⟩ u Z):=by
 rw[Ap (body:=Tryz.f40.body.getD .skip) Tryz.func40 rfl E args u Z 6 27 (by kernel_rfl) rfl ⟨hn,by decide⟩,Av6]
 rfl
def Aan(_:Unit):List COp:=[⟨fun a Z=>.val (.slice none 0 0) Z,some 2,tT⟩]
def AsD:List COp:=Aan ()
def Aao(_:Unit):List COp:=[⟨fun a Z=>aR 3 0 1 [(.int .i64 0)] [] Z,some 3,tT⟩,
 ⟨fun a Z=>.val (a.get 0) Z,some 4,tT⟩,
 ⟨fun a Z=>bO 3 1 8 (a.get 3) (a.get 4) Z,some 5,tT⟩,
 ⟨fun a Z=>.val (a.get 5) Z,some 2,tT⟩]
def AsE:List COp:=Aao ()
def An6(E:Env)(ro:Option Nat)(fn:FuncId):aZ:=(aF (aD E ro AsD) (aF (aD E ro AsE) bM))
theorem AlU:aD E ro AsD a u Z=aD E ro (Aan ()) a u Z:=rfl
theorem AlV:aD E ro AsE a u Z=aD E ro (Aao ()) a u Z:=rfl
theorem AvZ(E:Env)(ro:Option Nat)(fn:FuncId):code Tryz.prog nls (Tryz.f33.body.getD .skip) E ro fn=An6 E ro fn:=by kernel_rfl
theorem ApO(E:Env)(args:List Value)(u:Option FrameMode)(Z:aC)(hn:args.length<=(2:Nat)):bA Tryz.prog nls E 33 args u Z=aN Tryz.prog E [.tmp 2] (An6 E none 33 ⟨aX undef 2 args,fun _=>undef,2,6,[]⟩ u Z):=by
 rw[Ap (body:=Tryz.f33.body.getD .skip) Tryz.func33 rfl E args u Z 2 6 (by kernel_rfl) rfl ⟨hn,by decide⟩,AvZ]
 rfl
end
section
open Go Go.Eng
attribute [local congr] Ab Ah Af Ad Ae
attribute [-go_sem] List.range_succ
theorem AvL(M m n:Nat)(hm:M=m+22)(hM:M=n+295)(d:D)(hd:d.count<=150)(lv:List Value)(h4:lv.length=4)(p:Option Addr)(cx:Nat)(l:List Int)(hs:l.length<100000)(Z:aC)(hw:Wf Z)(hL:aI (fun b=>b<Z.next) Z (.agg lv.toArray) d)(hI:Ints Z p l):
  Gives ((env (M+9)).call 34 [.agg lv.toArray,.slice p l.length cx] none Z) Z fun w V=>AtOk d l (fun b=>Z.next<=b) V w:=by
 rw[Ak _ 34 _ _ rfl,ApP _ _ _ _ (by simp),Aj]
 unfold An7
 have x1:Ext Z (((Z.push (.cells lv TD) none).push (.cells [.slice p l.length cx] 25) none).push (.cells [.int .i64 0,.int .i64 0,.string ⟨#[]⟩,.slice none 0 0] TD) none):=(((Ext.refl _).push _ _).push _ _).push _ _
 have hw1:=((hw.push (.cells lv TD) none).push (.cells [.slice p l.length cx] 25) none).push (.cells [.int .i64 0,.int .i64 0,.string ⟨#[]⟩,.slice none 0 0] TD) none
 have c1:(((Z.push (.cells lv TD) none).push (.cells [.slice p l.length cx] 25) none).push (.cells [.int .i64 0,.int .i64 0,.string ⟨#[]⟩,.slice none 0 0] TD) none).cells Z.next=some lv:=by rw[Ac,if_neg (by simp only[Aa];omega),Ac,if_neg (by rw[Aa];omega),Ac,if_pos rfl];rfl
 have c2:(((Z.push (.cells lv TD) none).push (.cells [.slice p l.length cx] 25) none).push (.cells [.int .i64 0,.int .i64 0,.string ⟨#[]⟩,.slice none 0 0] TD) none).cells (Z.next+1)=some [.slice p l.length cx]:=by rw[Ac,if_neg (by simp only[Aa];omega),Ac,if_pos (by rw[Aa])];rfl
 have g4:(((Z.push (.cells lv TD) none).push (.cells [.slice p l.length cx] 25) none).push (.cells [.int .i64 0,.int .i64 0,.string ⟨#[]⟩,.slice none 0 0] TD) none).heap.get (Z.next+2)=some ⟨.cells [.int .i64 0,.int .i64 0,.string ⟨#[]⟩,.slice none 0 0] TD,false,none,Z.clock+2⟩:=by rw[Ai,if_pos (by simp only[Aa])];rfl
 have st:∀ {τ:aC},Ext Z τ->∀ {v:Value} {d:D},aI (fun b=>b<Z.next) Z v d->aI (fun b=>b<τ.next) τ v d:=fun hX v d h=>h.keep fun b cs hb hc=>⟨(hX.cells hb).trans hc,by have:=hX.next;omega⟩
 by_cases he:atE d l=0
 .obtain⟨_,a9,e2,x2,hw2,u,rfl,hq⟩:=ArP (M+5) 93 #[.pointer (some ⟨Z.next,0,none⟩),.pointer (some ⟨Z.next+1,0,none⟩)] (atR d l) _ hw1 fun V hx' hw'=>
   (AgR M m n hm hM d hd lv h4 p cx l hs Z.next (Z.next+1) V hw' ((hx'.cells (hw1.cells c1)).trans c1) ((hx'.cells (hw1.cells c2)).trans c2) (st (x1.trans hx') hL) (JH hI hw (x1.trans hx'))).1 he
  have hq0:=hq
  obtain⟨l4,rfl,hl4,hone⟩:=hq.agg
  have ht4:l4.take 4=l4:=List.take_of_length_le (by omega)
  have g4':=(x2.get _ (hw1 _ _ g4).1).trans g4
  have m4:=(hw2 _ _ g4').1
  simp -implicitDefEqProofs only[go_sem,Av,Xz,TZ,XA,T9,e2,g4',hl4,hone,ht4,Bm,AP,AA,Ay,AO,Bj]
  exact⟨_,_,rfl,(x1.trans x2).put _ _ _ (by omega),hw2.put _ _ _ m4,_,by rw[he];rfl,hq0.keep fun b cs hb hc=>by
   simp only[Aa] at hb
   exact⟨by rw[Al,if_neg (by omega)];exact hc,by omega⟩⟩
 .obtain⟨_,a9,e2,x2,hw2,rfl⟩:=MS (M+3) 93 #[.pointer (some ⟨Z.next,0,none⟩),.pointer (some ⟨Z.next+1,0,none⟩)] (atE d l:Nat) 0 _ hw1 fun V hx' hw'=>
   (AgR M m n hm hM d hd lv h4 p cx l hs Z.next (Z.next+1) V hw' ((hx'.cells (hw1.cells c1)).trans c1) ((hx'.cells (hw1.cells c2)).trans c2) (st (x1.trans hx') hL) (JH hI hw (x1.trans hx'))).2 he
  have g4':=(x2.get _ (hw1 _ _ g4).1).trans g4
  have m4:=(hw2 _ _ g4').1
  have hr:atR d l=zeroD:=by
   unfold atE at he
   unfold atR
   by_cases e0:bD d=0
   .rw[if_pos e0] at he ⊢
    cases hx:atZ l d with
    | some x=>rw[hx] at he;exact absurd rfl he
    | none=>rfl
   .rw[if_neg e0]
  simp -implicitDefEqProofs only[go_sem,Av,Xz,TZ,XA,T9,e2,g4',Bm,AP,AA,Ay,AO,Bj]
  exact⟨_,_,rfl,(x1.trans x2).put _ _ _ (by omega),hw2.put _ _ _ m4,_,rfl,by rw[hr];exact FU _ _⟩
theorem ZP(m:Nat){b2 b4:Nat}{a:Option Addr}{cx:Nat}{l:List Int}{R:Nat->Prop}(hs:l.length<100000)(hR:∀b,R b->b≠b2)(hne:b2≠b4):
  ∀(j fuel i:Nat) (f g:Nat->Value) (Z:aC) (k z:Int) (t:ByteArray) (q:Option Addr) (c:Nat) (ds:List D),i+j=l.length->j<fuel->(D.mk k z t ds).count<100000->
   (∀(i:Nat) (n:Int),l[i]? = some n->∃b off cs,a=some ⟨b,off,none⟩/\b≠b2/\Z.cells b=some cs/\cs[off+i]? = some (.int .i64 n))->(∃ver,Z.heap.get b4=some ⟨.cells [.int .i64 0,.int .i64 0,.string ⟨#[]⟩,.slice none 0 0] TD,false,none,ver⟩)->HeadPt b2 b4 (.slice a l.length cx) R k z t q c ds i f Z->
  (∃x f' g' V k' z' t' q' c' ds',atZ (l.drop i) (.mk k z t ds)=some x/\floop [32] (I1 (env (m+1)) none 32) fuel (Sl 7 33 f g []) none Z=.done (.exit 0) (Sl 7 33 f' g' []) none V/\HeadPt b2 b4 (.slice a l.length cx) R k' z' t' q' c' ds' l.length f' V/\x=.mk k' z' t' ds'/\Chg (· = b2) Z V)\/
  (∃f' g' V,atZ (l.drop i) (.mk k z t ds)=none/\floop [32] (I1 (env (m+1)) none 32) fuel (Sl 7 33 f g []) none Z=.done .ret (Sl 7 33 f' g' []) none V/\f' 5=.bool false/\f' 4=.pointer (some ⟨b4,0,none⟩)/\(∃ver,V.heap.get b4=some ⟨.cells [.int .i64 0,.int .i64 0,.string ⟨#[]⟩,.slice none 0 0] TD,false,none,ver⟩)/\Wf V/\Chg (fun b=>b=b2\/b=b4) Z V):=by
 intro j
 induction j with
 | zero=>
  intro fuel i f g Z k z t q c ds hij hf _ hp h4 h
  obtain⟨fuel,rfl⟩:∃q,fuel=q+1:=⟨fuel-1,by omega⟩
  obtain rfl:i=l.length:=by omega
  have d1:decide (Int.ofNat l.length<Int.ofNat l.length)=false:=by simp
  rw[Am,AL]
  unfold I1
  simp -implicitDefEqProofs only[go_sem,HN,Jj,h.f1,h.f6,d1]
  exact .inl ⟨_,_,_,_,k,z,t,q,c,ds,by rw[List.drop_length,atZ],rfl,h,rfl,Chg.refl _ _⟩
 | succ j ih=>
  intro fuel i f g Z k z t q c ds hij hf hN hp h4 h
  obtain⟨fuel,rfl⟩:∃q,fuel=q+1:=⟨fuel-1,by omega⟩
  have hi:i<l.length:=by omega
  have d1:decide (Int.ofNat i<Int.ofNat l.length)=true:=by simp;omega
  obtain⟨b,off0,pcs,rfl,hb,hc,g1⟩:=hp i l[i] (List.getElem?_eq_getElem hi)
  have hv:=Ce h.wf (Nat.le_refl _)
  have w3:=EY i (by omega)
  have hdr:l.drop i=l[i]::l.drop (i+1):=List.drop_eq_getElem_cons hi
  generalize l[i]=z0 at g1 hdr
  rw[hdr,atZ]
  simp only[D.parts]
  have hfew:ds.length<100000:=by have:=D3 ds;rw[D.count] at hN;omega
  obtain⟨fz,ver,hg2⟩:=h.cd
  have c2:=Ar hg2
  have w4:wrapI (Int.ofNat ds.length-1)=(ds.length:Int)-1:=by rw[Dt (by simp only[Int.ofNat_eq_natCast];omega)];rfl
  obtain⟨v4,h4'⟩:=h4
  have m4:=(h.wf _ _ h4').1
  have bad:(decide ((0:Int)<=z0)&&decide (z0<=(ds.length:Int)-1))=false->
    ∃f' g' V,floop [32] (I1 (env (m+1)) none 32) (fuel+1) (Sl 7 33 f g []) none Z=.done .ret (Sl 7 33 f' g' []) none V/\f' 5=.bool false/\f' 4=.pointer (some ⟨b4,0,none⟩)/\(∃ver,V.heap.get b4=some ⟨.cells [.int .i64 0,.int .i64 0,.string ⟨#[]⟩,.slice none 0 0] TD,false,none,ver⟩)/\Wf V/\Chg (fun b=>b=b2\/b=b4) Z V:=fun hw=>by
   rw[Am,AL]
   unfold I1
   simp -implicitDefEqProofs only[go_sem,Av,HN,Jj,NW,NV,AlT,Aam,h.f1,h.f2,h.f4,h.f6,d1,hi,hv,hc,c2,g1,Bn,w4,hw,h4',Ag]
   exact⟨_,_,_,rfl,by simp -implicitDefEqProofs only[go_sem,reduceCtorEq],by simp -implicitDefEqProofs only[go_sem,reduceCtorEq,h.f4],⟨_,by rw[Ao,if_pos rfl]⟩,h.wf.put _ _ _ m4,(Chg.refl _ _).put _ _ _ (.inr (.inr rfl))⟩
  by_cases hz:0<=z0
  .rw[if_pos hz]
   obtain⟨mm,rfl⟩:∃mm:Nat,z0=Int.ofNat mm:=⟨z0.toNat,by simp only[Int.ofNat_eq_natCast];omega⟩
   rw[show (Int.ofNat mm).toNat=mm from rfl]
   cases hd:ds[mm]? with
   | none=>
    have hm:=List.getElem?_eq_none_iff.1 hd
    obtain⟨f',g',V,h1,h2⟩:=bad (by simp;omega)
    exact .inr ⟨f',g',V,rfl,h1,h2⟩
   | some d=>
    have hpi:=(List.getElem?_eq_some_iff.1 hd).1
    obtain⟨b',off,cs,rfl,hRb,hcs,hle,hL⟩:=bC.get h.lay hd
    rw[Nat.zero_add] at hle hL
    have l4:((cs.drop (off+mm*4)).take 4).length=4:=by rw[List.length_take,List.length_drop];omega
    obtain⟨k',z',t',ds'⟩:=d
    obtain⟨q',c',hv4,hE'⟩:=hL
    have hv4':(cs.drop (off+mm*4)).take 4=[.int .i64 k',.int .i64 z',.string t',.slice q' ds'.length c']:=by
     have:=Value.agg.inj hv4
     simpa using congrArg Array.toList this
    have e0:decide ((0:Int)<=Int.ofNat mm)=true:=by simp
    have e1:decide (Int.ofNat mm<=(ds.length:Int)-1)=true:=by simp;omega
    have hb2:=h.wf.cells c2
    rw[Am,AL]
    unfold I1
    simp -implicitDefEqProofs only[go_sem,Av,HN,Jj,NW,NV,Xx,TX,Xw,TW,h.f1,h.f2,h.f6,d1,hi,hv,hc,c2,g1,hg2,Bn,w3,w4,e0,e1,hpi,hcs,hle,hv4',Ag]
    have hC:Chg (· = b2) Z (Z.put b2 (.cells [.int .i64 k',.int .i64 z',.string t',.slice q' ds'.length c'] TD) fz):=(Chg.refl (· = b2) Z).put _ _ _ (.inr rfl)
    rcases ih fuel (i+1) (upd f 6 (.int .i64 (.ofNat (i+1)))) _ (Z.put b2 (.cells [.int .i64 k',.int .i64 z',.string t',.slice q' ds'.length c'] TD) fz) k' z' t' q' c' ds' (by omega) (by omega) (by have:=Ev (List.mem_of_getElem? hd);rw[D.count] at hN;omega) (fun i n hn=>by
      obtain⟨b,off,cs,h1,h2,h3,h4⟩:=hp i n hn
      exact⟨b,off,cs,h1,h2,by rw[Al,if_neg h2];exact h3,h4⟩) ⟨v4,by rw[Ao,if_neg (Ne.symm hne)];exact h4'⟩ {
     f1:=by simp -implicitDefEqProofs only[go_sem,reduceCtorEq,h.f1]
     f2:=by simp -implicitDefEqProofs only[go_sem,reduceCtorEq,h.f2]
     f4:=by simp -implicitDefEqProofs only[go_sem,reduceCtorEq,h.f4]
     f6:=by simp -implicitDefEqProofs only[go_sem,reduceCtorEq]
     cd:=⟨fz,_,by rw[Ao,if_pos rfl]⟩
     lay:=hE'.keep fun b cs hb hc=>⟨by rw[Al,if_neg (hR b hb)];exact hc,hb⟩
     wf:=h.wf.put _ _ _ hb2 } with⟨x,f',g',V,k1,z1,t1,q1,c1,ds1,e3,e2,h2,h3,h5⟩|⟨f',g',V,e3,e2,h2,h3,h5,h6,h7⟩
    .exact .inl ⟨x,f',g',V,k1,z1,t1,q1,c1,ds1,e3,e2,h2,h3,hC.trans h5 fun _ _ h=>h⟩
    .exact .inr ⟨f',g',V,e3,e2,h2,h3,h5,h6,(hC.weaken fun _ _ h=>.inl h).trans h7 fun _ _ h=>h⟩
  .rw[if_neg hz]
   obtain⟨f',g',V,h1,h2⟩:=bad (by simp;omega)
   exact .inr ⟨f',g',V,rfl,h1,h2⟩
theorem WY(m:Nat){d:D}{lv:List Value}{a:Option Addr}{cx:Nat}{l:List Int}{R:Nat->Prop}{Z:aC}(hw:Wf Z)(hL:aI R Z (.agg lv.toArray) d)(hI:Ints Z a l)(hs:l.length<100000)(hN:d.count<100000):
  Gives ((env (m+2)).call 32 [.agg lv.toArray,.slice a l.length cx] none Z) Z fun w V=>(∃x u,atZ l d=some x/\w=.tuple #[u,.bool true]/\aI (fun b=>R b/\b<Z.next) V u x)\/(atZ l d=none/\w=.tuple #[.agg #[.int .i64 0,.int .i64 0,.string ⟨#[]⟩,.slice none 0 0],.bool false]):=by
 obtain⟨k,z,t,ds⟩:=d
 obtain⟨q,c,hv,hE⟩:=hL
 have hlv:lv=[.int .i64 k,.int .i64 z,.string t,.slice q ds.length c]:=by
  have:=Value.agg.inj hv
  simpa using congrArg Array.toList this
 subst hlv
 rw[Ak _ 32 _ _ rfl,AcG _ _ _ _ (by simp),Aj]
 unfold AdI
 have x1:Ext Z ((Z.push (.cells [.int .i64 k,.int .i64 z,.string t,.slice q ds.length c] TD) none).push (.cells [.int .i64 0,.int .i64 0,.string ⟨#[]⟩,.slice none 0 0] TD) none):=((Ext.refl _).push _ _).push _ _
 have hw1:=(hw.push (.cells [.int .i64 k,.int .i64 z,.string t,.slice q ds.length c] TD) none).push (.cells [.int .i64 0,.int .i64 0,.string ⟨#[]⟩,.slice none 0 0] TD) none
 have c1:((Z.push (.cells [.int .i64 k,.int .i64 z,.string t,.slice q ds.length c] TD) none).push (.cells [.int .i64 0,.int .i64 0,.string ⟨#[]⟩,.slice none 0 0] TD) none).heap.get Z.next=some ⟨.cells [.int .i64 k,.int .i64 z,.string t,.slice q ds.length c] TD,false,none,Z.clock⟩:=by rw[Ai,if_neg (by rw[Aa];omega),Ai,if_pos rfl]
 have g4:((Z.push (.cells [.int .i64 k,.int .i64 z,.string t,.slice q ds.length c] TD) none).push (.cells [.int .i64 0,.int .i64 0,.string ⟨#[]⟩,.slice none 0 0] TD) none).heap.get (Z.next+1)=some ⟨.cells [.int .i64 0,.int .i64 0,.string ⟨#[]⟩,.slice none 0 0] TD,false,none,Z.clock+1⟩:=by rw[Ai,if_pos (by rw[Aa])];rfl
 simp -implicitDefEqProofs only[go_sem,Xu,TU,Xv,TV,WI]
 generalize hff:upd _ 6 _=f1
 generalize hbf:bG=fuel
 generalize aC.push (aC.push Z _ _) _ _=a_ at x1 hw1 c1 g4 ⊢
 have n1:=x1.next
 have hn1:Z.next+1<a_.next:=(hw1 _ _ g4).1
 rcases ZP m (b2:=Z.next) (b4:=Z.next+1) (R:=fun b=>R b/\b<Z.next) (l:=l) (cx:=cx) (a:=a) hs (fun b hb=>by omega) (by omega) l.length fuel 0 f1 (fun _=>undef) a_ k z t q c ds (by omega) (by rw[<-hbf];show l.length<1000000000000;omega) hN (fun i n hn=>by
   obtain⟨b,off,cs,h1,h2,h3⟩:=hI i n hn
   have:=hw.cells h2
   exact⟨b,off,cs,h1,by omega,(x1.cells this).trans h2,h3⟩) ⟨_,g4⟩ {
  f1:=by rw[<-hff];simp -implicitDefEqProofs only[go_sem,reduceCtorEq]
  f2:=by rw[<-hff];simp -implicitDefEqProofs only[go_sem,reduceCtorEq]
  f4:=by rw[<-hff];simp -implicitDefEqProofs only[go_sem,reduceCtorEq]
  f6:=by rw[<-hff];simp -implicitDefEqProofs only[go_sem,reduceCtorEq]<;>rfl
  cd:=⟨_,_,c1⟩
  lay:=hE.keep fun b c hb hc=>⟨(x1.cells (hw.cells hc)).trans hc,hb,hw.cells hc⟩
  wf:=hw1 } with⟨x,f2,g2,a9,k2,z2,t2,q2,c2,ds2,e0,e2,h2,rfl,h4⟩|⟨f2,g2,a9,e0,e2,h5,h6,⟨v7,h7⟩,hw2,h4⟩
 .rw[List.drop_zero] at e0
  have g4':a9.heap.get (Z.next+1)=_:=(h4.get (Z.next+1) hn1 (by omega)).trans g4
  obtain⟨fz,ver,hg2⟩:=h2.cd
  have cc:=Ar hg2
  rw[e2]
  simp -implicitDefEqProofs only[go_sem,Av,Xy,TY,h2.f2,h2.f4,cc,g4',AP,AA,Ay,AO,Bj,Bm]
  have x2:Ext Z a9:=⟨by have:=h4.next;omega,by have:=x1.clock;have:=h4.clock;omega,fun b hb=>(h4.get b (by omega) (by omega)).trans (x1.get b hb)⟩
  exact⟨_,_,rfl,x2.put _ _ _ (by omega),h2.wf.put _ _ _ (by have:=h4.next;omega),.inl ⟨_,_,e0,rfl,q2,c2,rfl,h2.lay.keep fun b c hb hc=>⟨by rw[Al,if_neg (by omega)];exact hc,hb⟩⟩⟩
 .rw[List.drop_zero] at e0
  have cc:=Ar h7
  rw[e2]
  simp -implicitDefEqProofs only[go_sem,h5,h6,cc,AP,AA,Ay,AO,Bj,Bm]
  have x2:Ext Z a9:=⟨by have:=h4.next;omega,by have:=x1.clock;have:=h4.clock;omega,fun b hb=>(h4.get b (by omega) (by omega)).trans (x1.get b hb)⟩
  exact⟨_,_,rfl,x2,hw2,.inr ⟨e0,rfl⟩⟩
theorem AnU(M n:Nat)(hM:M=n+154)(d:D)(hd:d.count<=150)(lv:List Value)(h4:lv.length=4)(p:Option Addr)(cx:Nat)(l:List Int)(hs:l.length<100000)(Z:aC)(hw:Wf Z)(hL:aI (fun b=>b<Z.next) Z (.agg lv.toArray) d)(hI:Ints Z p l):
  Gives ((env (M+3)).call 35 [.agg lv.toArray,.slice p l.length cx] none Z) Z fun w V=>AtOk d l (fun b=>b<V.next) V w:=by
 have ht:lv.take 4=lv:=List.take_of_length_le (by omega)
 have dd:=BB d
 rw[Ak _ 35 _ _ rfl,ApQ _ _ _ _ (by simp),Aj]
 unfold An8
 have x1:Ext Z ((Z.push (.cells lv TD) none).push (.cells [.int .i64 0,.int .i64 0,.string ⟨#[]⟩,.slice none 0 0] TD) none):=((Ext.refl _).push _ _).push _ _
 have hw1:=(hw.push (.cells lv TD) none).push (.cells [.int .i64 0,.int .i64 0,.string ⟨#[]⟩,.slice none 0 0] TD) none
 have c1:((Z.push (.cells lv TD) none).push (.cells [.int .i64 0,.int .i64 0,.string ⟨#[]⟩,.slice none 0 0] TD) none).cells Z.next=some lv:=by rw[Ac,if_neg (by rw[Aa];omega),Ac,if_pos rfl];rfl
 have g2:((Z.push (.cells lv TD) none).push (.cells [.int .i64 0,.int .i64 0,.string ⟨#[]⟩,.slice none 0 0] TD) none).heap.get (Z.next+1)=some ⟨.cells [.int .i64 0,.int .i64 0,.string ⟨#[]⟩,.slice none 0 0] TD,false,none,Z.clock+1⟩:=by rw[Ai,if_pos (by rw[Aa])];rfl
 simp -implicitDefEqProofs only[go_sem,AlW,Aap]
 generalize hff:upd _ 5 _=f1
 have q1:f1 1=.slice p l.length cx:=by rw[<-hff];simp -implicitDefEqProofs only[go_sem,reduceCtorEq]<;>rfl
 have q2:f1 2=.pointer (some ⟨Z.next,0,none⟩):=by rw[<-hff];simp -implicitDefEqProofs only[go_sem,reduceCtorEq]
 have q4:f1 4=.pointer (some ⟨Z.next+1,0,none⟩):=by rw[<-hff];simp -implicitDefEqProofs only[go_sem,reduceCtorEq]
 clear hff
 generalize aC.push (aC.push Z _ _) _ _=bT at x1 hw1 c1 g2 ⊢
 have st:∀ {τ:aC},Ext Z τ->∀ {v:Value} {d:D},aI (fun b=>b<Z.next) Z v d->aI (fun b=>b<τ.next) τ v d:=fun hX v d h=>h.keep fun b cs hb hc=>⟨(hX.cells hb).trans hc,by have:=hX.next;omega⟩
 obtain⟨_,a9,e2,x2,hw2,rfl⟩:=Hv _ d lv h4 bT hw1 (st x1 hL) M n 150 (by omega) (by omega) (by omega)
 have X2:=x1.trans x2
 have c2:=(x2.cells (hw1.cells c1)).trans c1
 have g3:=(x2.get _ (hw1 _ _ g2).1).trans g2
 have m3:=(hw2 _ _ g3).1
 unfold AtOk atE atR
 by_cases e0:bD d=0
 .rw[if_pos e0,if_pos e0]
  have z0:(((bD d:Nat):Int)==0)=true:=by rw[e0];rfl
  obtain⟨w,bS,e3,x3,hw3,h3⟩:=WY M (cx:=cx) (R:=fun b=>b<Z.next) hw2 (hL.keep fun b cs hb hc=>⟨(X2.cells hb).trans hc,hb⟩) (JH hI hw X2) hs (by omega)
  have X3:=X2.trans x3
  have g4:=(x3.get _ m3).trans g3
  have m4:=(hw3 _ _ g4).1
  have n3:=x3.next
  have n13:=X3.next
  have l1:(Z.next+1=bS.next)=False:=by simp;omega
  have l2:(bS.next=Z.next+1)=False:=by simp;omega
  rcases h3 with⟨x,u,hx,rfl,hu⟩|⟨hx,rfl⟩
  .obtain⟨uv,rfl,hu4,huo⟩:=hu.agg
   have tu:uv.take 4=uv:=List.take_of_length_le (by omega)
   rw[hx]
   simp -implicitDefEqProofs only[go_sem,Av,NY,NX,N0,NZ,XB,T_,XC,Ua,AlZ,Aas,q1,q2,q4,c1,c2,h4,ht,e2,z0,e3,hu4,huo,tu,g4,l1,l2,Bm,Ag,AP,AA,Ay,AO,Bj,Nat.le_refl]
   have hw4:=((hw3.push (.cells [.int .i64 0,.int .i64 0,.string ⟨#[]⟩,.slice none 0 0] TD) none).put bS.next (.cells uv TD) none (Nat.lt_succ_self _)).put (Z.next+1) (.cells uv TD) none (by rw[Aq,Aa];omega)
   have x4:Ext Z (((bS.push (.cells [.int .i64 0,.int .i64 0,.string ⟨#[]⟩,.slice none 0 0] TD) none).put bS.next (.cells uv TD) none).put (Z.next+1) (.cells uv TD) none):=((X3.push _ _).put _ _ _ n13).put _ _ _ (by omega)
   exact⟨_,_,rfl,x4,hw4,_,rfl,hu.keep fun b cs hb hc=>⟨by rw[Al,if_neg (by have:=hb.1;omega),Al,if_neg (by have:=hb.1;omega),Ac,if_neg (by have:=hb.1;omega)];exact hc,by rw[Aq,Aq,Aa];have:=hb.1;omega⟩⟩
  .rw[hx]
   simp -implicitDefEqProofs only[go_sem,Av,NY,NX,N0,NZ,XB,T_,XC,Ua,AlY,Aar,q1,q2,q4,c1,c2,h4,ht,e2,z0,e3,g4,l1,l2,Bm,Ag,AP,AA,Ay,AO,Bj,Nat.le_refl]
   have hw4:=((hw3.push (.cells [.int .i64 0,.int .i64 0,.string ⟨#[]⟩,.slice none 0 0] TD) none).put bS.next (.cells [.int .i64 0,.int .i64 0,.string ⟨#[]⟩,.slice none 0 0] TD) none (Nat.lt_succ_self _)).put (Z.next+1) (.cells [.int .i64 0,.int .i64 0,.string ⟨#[]⟩,.slice none 0 0] TD) none (by rw[Aq,Aa];omega)
   have x4:Ext Z (((bS.push (.cells [.int .i64 0,.int .i64 0,.string ⟨#[]⟩,.slice none 0 0] TD) none).put bS.next (.cells [.int .i64 0,.int .i64 0,.string ⟨#[]⟩,.slice none 0 0] TD) none).put (Z.next+1) (.cells [.int .i64 0,.int .i64 0,.string ⟨#[]⟩,.slice none 0 0] TD) none):=((X3.push _ _).put _ _ _ n13).put _ _ _ (by omega)
   exact⟨_,_,rfl,x4,hw4,_,rfl,FU _ _⟩
 .rw[if_neg e0,if_neg e0]
  have z0:(((bD d:Nat):Int)==0)=false:=by simp;omega
  simp -implicitDefEqProofs only[go_sem,Av,NY,NX,N0,NZ,AlX,Aaq,q2,q4,c1,h4,ht,e2,z0,g3,Bm,Ag,AP,AA,Ay,AO,Bj,Nat.le_refl]
  exact⟨_,_,rfl,X2.put _ _ _ (by omega),hw2.put _ _ _ m3,_,rfl,FU _ _⟩
end
section
open Go Go.Eng
theorem Y9{Z:aC}{b size lam:Nat}{cs:List Value}{el:TypeId}{fz:Option Nat}{ver:Nat}{ro:Bool}(hb:Z.heap.get b=some ⟨.cells cs el,ro,fz,ver⟩)(hv:ver<lam)(hf:fz=none\/fz=some size):capOk size none b (view Z lam)=true:=by
 unfold capOk
 simp only[HU,hb]
 rw[if_pos (by simpa using hv)]
 rcases hf with rfl|rfl
 .rfl
 .show Nat.beq size size=true
  rw[Nat.beq_eq]
theorem Zu(P:Program)(t e size b off ln cap:Nat)(Z:aC)(hu:under P t=some (.slice e))(hs:bP P e=some size)(h1:1<=ln)(hlc:ln<=cap)(hc:capOk size none b Z=true):
  fslice P t (.slice (some ⟨b,off,none⟩) ln cap) (some (.int .i64 1)) none none Z=.val (.slice (some ⟨b,off+1*size,none⟩) (ln-1) (cap-1)) Z:=by
 have hbd:bounds3 ln cap (some (.int .i64 1)) none none=some (1,ln,cap):=by
  show (match (cond (Nat.ble ln cap) (some ln) none) with|none=>none|some h=>(match cond (Nat.ble 1 h) (some 1) none with|none=>none|some l=>some (l,h,cap)))=_
  rw[show Nat.ble ln cap=true by rw[Nat.ble_eq];exact hlc]
  simp only[cond_true]
  rw[show Nat.ble 1 ln=true by rw[Nat.ble_eq];exact h1]
  rfl
 unfold fslice
 simp only[hu,hs]
 unfold fsliceL
 simp only[hbd,hc,cond_true]
def PathO(Z:aC)(v:Value)(path:List Nat):Prop:=
 ∃q c,v=.slice q path.length c/\(path=[]\/∃b off cs el ro fz ver,q=some ⟨b,off,none⟩/\Z.heap.get b=some ⟨.cells cs el,ro,fz,ver⟩/\(el=TI\/ro=true)/\(fz=none\/fz=some 1)/\path.length<=c/\∀(i j:Nat),path[i]? = some j->cs[off+i]? = some (.int .i64 (.ofNat j)))
theorem PathO.keep{Z V:aC}{v:Value}{path:List Nat}(h:PathO Z v path)(hw:Wf Z)(hk:∀b,b<Z.next->V.heap.get b=Z.heap.get b\/∃cs el fz ver,Z.heap.get b=some ⟨.cells cs el,false,fz,ver⟩/\el≠TI):PathO V v path:=by
 obtain⟨q,c,rfl,h|⟨b,off,cs,el,ro,fz,ver,rfl,hb,hr,hf,hl,hc⟩⟩:=h
 .exact⟨q,c,rfl,.inl h⟩
 .rcases hk b (hw _ _ hb).1 with h|⟨cs',el',fz',ver',h,hne⟩
  .exact⟨_,c,rfl,.inr ⟨b,off,cs,el,ro,fz,ver,rfl,h.trans hb,hr,hf,hl,hc⟩⟩
  .rw[hb] at h
   have h1:=congrArg (fun e:Option Ent=>match e with|some ⟨.cells _ el,ro,_,_⟩=>(el,ro)|_=>(0,true)) h
   simp only[Prod.mk.injEq] at h1
   rcases hr with hr|hr
   .exact absurd (h1.1.symm.trans hr) hne
   .rw[hr] at h1
    exact absurd h1.2 (by decide)
theorem PathO.ext{Z V:aC}{v:Value}{path:List Nat}(h:PathO Z v path)(hw:Wf Z)(hx:Ext Z V):PathO V v path:=h.keep hw fun b hb=>.inl (hx.get b hb)
theorem PathO.tail{Z:aC}{q:Option Addr}{c i:Nat}{path:List Nat}(h:PathO Z (.slice q (i::path).length c) (i::path)):∃b off cs el ro fz ver,q=some ⟨b,off,none⟩/\Z.heap.get b=some ⟨.cells cs el,ro,fz,ver⟩/\(fz=none\/fz=some 1)/\path.length+1<=c/\cs[off]? = some (.int .i64 (.ofNat i))/\PathO Z (.slice (some ⟨b,off+1*1,none⟩) path.length (c-1)) path:=by
 obtain⟨q',c',e,h|⟨b,off,cs,el,ro,fz,ver,rfl,hb,hr,hf,hl,hc⟩⟩:=h
 .cases h
 .cases e
  refine⟨b,off,cs,el,ro,fz,ver,rfl,hb,hf,by simpa using hl,by simpa using hc 0 i rfl,_,_,rfl,.inr ⟨b,off+1*1,cs,el,ro,fz,ver,rfl,hb,hr,hf,by simp at hl;omega,fun j k hj=>?_⟩⟩
  have:=hc (j+1) k (by simpa using hj)
  rw[show off+1*1+j=off+(j+1) by omega]
  exact this
def putP:List Nat->D->D->D
 | [],x,_=>x
 | i::p,x,.mk k z t ds=>match ds[i]? with
  | some d'=>.mk k z t (ds.set i (putP p x d'))
  | none=>.mk k z t ds
theorem MX:∀(ds:List D) (i:Nat) (d e:D),ds[i]? = some d->D.counts (ds.set i e)+d.count=D.counts ds+e.count
 | [],i,d,e,h=>by simp at h
 | a::ds,0,d,e,h=>by
  simp at h
  subst h
  simp only[List.set_cons_zero,D.counts]
  omega
 | a::ds,i+1,d,e,h=>by
  simp at h
  simp only[List.set_cons_succ,D.counts]
  have:=MX ds i d e h
  omega
theorem H_:∀(p:List Nat) (x d w:D),atP p d=some w->(putP p x d).count+w.count=d.count+x.count
 | [],x,d,w,h=>by rw[atP] at h;cases h;rw[putP];omega
 | i::p,x,.mk k z t ds,w,h=>by
  rw[atP] at h
  simp only[D.parts] at h
  cases hd:ds[i]? with
  | none=>rw[hd] at h;cases h
  | some d'=>
   rw[hd] at h
   rw[putP,hd]
   simp only
   rw[D.count,D.count]
   have:=MX ds i d' (putP p x d') hd
   have:=H_ p x d' w h
   omega
structure Okay (m:Nat) (d:D):Prop where
 good:AllGood m (d.pieces [])
 few:d.count<=2000
 small:Small (d.pieces [])
 deep:d.deep<=8
end
section
open Go Go.Eng
attribute [local congr] Ab Ah Af Ad Ae
attribute [-go_sem] List.range_succ
structure PlI (Rin:Nat->Prop) (base bd bx bo bv i:Nat) (k z:Int) (t:ByteArray) (p:Option Addr) (c:Nat) (ds:List D) (x y:D) (xv:List Value) (path:List Nat) (q:Nat) (f:Nat->Value) (Z:aC):Prop where
 f1:PathO Z (f 1) (i::path)
 f3:f 3=.pointer (some ⟨bd,0,none⟩)
 f5:f 5=.pointer (some ⟨bx,0,none⟩)
 f7:f 7=.pointer (some ⟨bo,0,none⟩)
 f8:f 8=.int .i64 (.ofNat q)
 cd:Z.cells bd=some [.int .i64 k,.int .i64 z,.string t,.slice p ds.length c]
 cx:Z.cells bx=some xv
 hE:bC Rin Z p 0 ds
 hx:aI Rin Z (.agg xv.toArray) x
 out:∃s ver,Z.heap.get bo=some ⟨.cells [.int .i64 k,.int .i64 0,.string ⟨#[]⟩,s] TD,false,none,ver⟩/\VecG (· = bv) (fun b=>(Rin b\/base<=b)/\b<Z.next/\b≠bo/\b≠bv) Z s ((ds.set i y).take q)
 lo:True/\True/\base<=bo/\bd≠bo/\bx≠bo/\(∀b,Rin b->b≠bv)/\bv≠bo/\bv≠bd/\bv≠bx
 bvT:∃cs fz ver,Z.heap.get bv=some ⟨.cells cs TD,false,fz,ver⟩
 wf:Wf Z
theorem NG{Rin:Nat->Prop}{base bd bx bo bv i:Nat}{k z:Int}{t:ByteArray}{p:Option Addr}{c:Nat}{ds:List D}{x y:D}{xv:List Value}{path:List Nat}{q:Nat}{f:Nat->Value}{Z a_:aC}(hR:∀b,Rin b->b<base)(h:PlI Rin base bd bx bo bv i k z t p c ds x y xv path q f Z)(hq:q<ds.length)(hds:ds.length<900)(hX:Ext Z a_)(hw1:Wf a_)(l:List Value)(hl:l.length=4)(ho:l.all oneCell=true)(e:D)(he:(ds.set i y)[q]? = some e)(hL:aI (fun b=>Rin b\/Z.next<=b) a_ (.agg l.toArray) e)(hb:base<=Z.next):
  ∃s s' ver τ bv',a_.heap.get bo=some ⟨.cells [.int .i64 k,.int .i64 0,.string ⟨#[]⟩,s] TD,false,none,ver⟩/\oneCell s=true/\bO TD 4 56 s (.slice (some ⟨a_.next,0,none⟩) 1 1) (a_.push (.cells l TD) none)=.val s' τ/\oneCell s'=true/\aP s'=true/\aJ s'=[s']/\
   τ.heap.get bo=some ⟨.cells [.int .i64 k,.int .i64 0,.string ⟨#[]⟩,s] TD,false,none,ver⟩/\Chg (fun b=>b=bv/\s≠.slice none 0 0) a_ τ/\a_.next<=bv'/\
   ∀f':Nat->Value,f' 1=f 1->f' 3=f 3->f' 5=f 5->f' 7=f 7->f' 8=.int .i64 (.ofNat (q+1))->PlI Rin base bd bx bo bv' i k z t p c ds x y xv path (q+1) f' (τ.put bo (.cells [.int .i64 k,.int .i64 0,.string ⟨#[]⟩,s'] TD) none):=by
 obtain⟨s,ver,hbo,hV⟩:=h.out
 obtain⟨l1,l2,l3,l4,l5,l6,l7,l8,l9⟩:=h.lo
 have hbon:=(h.wf _ _ hbo).1
 have n1:=hX.next
 have hbo1:a_.heap.get bo=_:=(hX.get bo hbon).trans hbo
 have hV1:VecG (· = bv) (fun b=>(Rin b\/base<=b)/\b<a_.next/\b≠bo/\b≠bv) a_ s ((ds.set i y).take q):=hV.keep (fun b e hb he=>⟨(hX.get b (h.wf _ _ he).1).trans he,hb⟩) fun b cs hb hc=>⟨(hX.cells hb.2.1).trans hc,hb.1,by omega,hb.2.2⟩
 obtain⟨cb,fzb,verb,hbv⟩:=h.bvT
 have hbvn:=(h.wf _ _ hbv).1
 have hV2:VecG (fun b=>b=bv/\s≠.slice none 0 0) (fun b=>(Rin b\/base<=b)/\b<a_.next/\b≠bo/\b≠bv) a_ s ((ds.set i y).take q):=by
  rcases hV1 with h|⟨b,cs,ver,h1,h2,h3,h4⟩
  .exact .inl h
  .exact .inr ⟨b,cs,ver,h1,h2,⟨h3,by rw[h1];simp⟩,h4⟩
 obtain⟨s',τ,ha,V3,hw3,ch3⟩:=Y1 (fun b=>b=bv/\s≠.slice none 0 0) (fun b=>(Rin b\/base<=b)/\b<a_.next/\b≠bo/\b≠bv) (fun b=>a_.next<=b) a_ s ((ds.set i y).take q) e l hw1 hl ho (by rw[List.length_take];omega) hV2 (hL.keep fun b cs hb hc=>⟨hc,by
  have:=hw1.cells hc
  rcases hb with hb|hb
  .have:=hR b hb
   exact⟨.inl hb,by omega,by omega,l6 b hb⟩
  .exact⟨.inr (by omega),by omega,by omega,by omega⟩⟩) (fun b hb h=>h.2.2.2 hb.1) (fun b hb=>hb)
 have n3:=ch3.next
 have hboτ:τ.heap.get bo=_:=(ch3.get bo (by omega) (fun h=>l7 h.1.symm)).trans hbo1
 rcases V3 with⟨h0,_⟩|⟨bv',cs,ver',hs',hb',hq',hRow⟩
 .simp at h0
 have V3:VecG (fun b=>a_.next<=b) (fun b=>(Rin b\/base<=b)/\b<a_.next/\b≠bo/\b≠bv) τ s' ((ds.set i y).take q++[e]):=.inr ⟨bv',cs,ver',hs',hb',hq',hRow⟩
 have hone:=V3.one
 have hbv'n:=(hw3 _ _ hb').1
 have hgo:∀b,b<Z.next->b≠bv->b≠bo->(τ.put bo (.cells [.int .i64 k,.int .i64 0,.string ⟨#[]⟩,s'] TD) none).heap.get b=Z.heap.get b:=fun b hb h1 h2=>by
  rw[Ao,if_neg h2,ch3.get b (by omega) (fun h=>h1 h.1),hX.get b hb]
 have kc:∀b cs,Z.cells b=some cs->b≠bv->b≠bo->(τ.put bo (.cells [.int .i64 k,.int .i64 0,.string ⟨#[]⟩,s'] TD) none).cells b=some cs:=fun b cs hc h1 h2=>by
  have:=hgo b (h.wf.cells hc) h1 h2
  rw[AG] at hc ⊢
  rw[this];exact hc
 refine⟨s,s',ver,τ,bv',hbo1,hV.one.1,ha,hone.1,hone.2.1,hone.2.2,hboτ,ch3,hq',fun f' e1 e3 e5 e7 e8=>?_⟩
 exact {
     f1:=by
      rw[e1]
      exact h.f1.keep h.wf fun b hb=>by
       by_cases h1:b=bv
       .exact .inr ⟨_,_,_,_,by rw[h1];exact hbv,by decide⟩
       .by_cases h2:b=bo
        .exact .inr ⟨_,_,_,_,by rw[h2];exact hbo,by decide⟩
        .exact .inl (hgo b hb h1 h2)
     f3:=by rw[e3];exact h.f3
     f5:=by rw[e5];exact h.f5
     f7:=by rw[e7];exact h.f7
     f8:=e8
     cd:=kc _ _ h.cd (Ne.symm l8) l4
     cx:=kc _ _ h.cx (Ne.symm l9) l5
     hE:=h.hE.keep fun b cs hb hc=>⟨kc b cs hc (l6 b hb) (by have:=hR b hb;omega),hb⟩
     hx:=h.hx.keep fun b cs hb hc=>⟨kc b cs hc (l6 b hb) (by have:=hR b hb;omega),hb⟩
     out:=⟨s',τ.clock,by rw[Ao,if_pos rfl],by
      have:(ds.set i y).take (q+1)=(ds.set i y).take q++[e]:=by rw[List.take_add_one,he];rfl
      rw[this]
      exact .inr ⟨bv',cs,ver',hs',by rw[Ao,if_neg (by omega)];exact hb',rfl,hRow.keep fun b c hb hc=>⟨by rw[Al,if_neg hb.2.2.1];exact hc,hb.1,by rw[Aq];omega,hb.2.2.1,by omega⟩⟩⟩
     lo:=⟨trivial,trivial,l3,l4,l5,fun b hb=>by have:=hR b hb;omega,by omega,by have:=h.wf.cells h.cd;omega,by have:=h.wf.cells h.cx;omega⟩
     bvT:=⟨cs,some 4,ver',by rw[Ao,if_neg (by omega)];exact hb'⟩
     wf:=hw3.put _ _ _ (by omega) }
theorem Aqv(m:Nat){Rin:Nat->Prop}{base bd bx bo br i:Nat}{k z:Int}{t:ByteArray}{p:Option Addr}{c:Nat}{ds:List D}{x d':D}{xv:List Value}{path:List Nat}(hR:∀b,Rin b->b<base)(hds:ds.length<900)(hx4:xv.length=4)(hi:ds[i]? = some d')(hi2:i<100000)(hO:∀(lv:List Value) (pv:Value) (V:aC),lv.length=4->Wf V->base<=V.next->aI Rin V (.agg lv.toArray) d'->PathO V pv path->aI Rin V (.agg xv.toArray) x->
   Gives ((env m).call 96 [.agg lv.toArray,pv,.agg xv.toArray] none V) V fun w cB=>∃ws:List Value,w=.agg ws.toArray/\ws.length=4/\ws.all oneCell=true/\aI (fun b=>Rin b\/V.next<=b) cB w (putP path x d')):
  ∀(j fuel q bv:Nat) (f g:Nat->Value) (Z:aC),ds.length-q=j->j<fuel->q<=ds.length->base<=Z.next->br<Z.next->(base<=bv\/∀s ver,Z.heap.get bo=some ⟨.cells [.int .i64 k,.int .i64 0,.string ⟨#[]⟩,s] TD,false,none,ver⟩->s=.slice none 0 0)->PlI Rin base bd bx bo bv i k z t p c ds x (putP path x d') xv path q f Z->
   ∃f' g' V bv',floop [52] (WL (env m) none 96) fuel (Sl 9 53 f g []) none Z=.done (.exit 0) (Sl 9 53 f' g' []) none V/\PlI Rin base bd bx bo bv' i k z t p c ds x (putP path x d') xv path ds.length f' V/\f' 6=f 6/\Chg (fun b=>b=bo\/base<=b/\b≠bd/\b≠bx) Z V/\(base<=bv'\/∀s ver,V.heap.get bo=some ⟨.cells [.int .i64 k,.int .i64 0,.string ⟨#[]⟩,s] TD,false,none,ver⟩->s=.slice none 0 0):=by
 intro j
 induction j with
 | zero=>
  intro fuel q bv f g Z hj hf hq hb hbr hnil h
  obtain⟨fuel,rfl⟩:∃q,fuel=q+1:=⟨fuel-1,by omega⟩
  obtain rfl:q=ds.length:=by omega
  have d0:decide (Int.ofNat ds.length<Int.ofNat ds.length)=false:=by simp
  rw[Am]
  unfold WL
  simp -implicitDefEqProofs only[go_sem,OZ,OY,h.f3,h.f8,h.cd,d0]
  exact⟨_,_,_,bv,rfl,h,rfl,Chg.refl _ _,hnil⟩
 | succ j ih=>
  intro fuel q bv f g Z hj hf hq hb hbr hnil h
  obtain⟨fuel,rfl⟩:∃q,fuel=q+1:=⟨fuel-1,by omega⟩
  have hlt:q<ds.length:=by omega
  have d0:decide (Int.ofNat q<Int.ofNat ds.length)=true:=by simp;omega
  have hd:ds[q]? = some ds[q]:=List.getElem?_eq_getElem hlt
  obtain⟨b,off,cs,rfl,hRb,hcs,hle,hL⟩:=bC.get h.hE hd
  rw[Nat.zero_add] at hle hL
  obtain⟨l4,e4,hl4,ho4⟩:=hL.agg
  have e4':(cs.drop (off+q*4)).take 4=l4:=by
   have:=Value.agg.inj e4
   simpa using congrArg Array.toList this
  rw[e4'] at hL
  have tl4:l4.take 4=l4:=List.take_of_length_le (by omega)
  have hp:=h.f1
  obtain⟨qp,cp,ep,hpp⟩:=hp
  have hp:=h.f1
  rw[ep] at hp
  obtain⟨pb,po,pcs,pel,pro,pfz,pver,rfl,hpb,hpf,hpl,hp0,hpt⟩:=hp.tail
  have a1:=EY q (by omega)
  have hpn:0<(i::path).length:=by simp
  have hpc:=Ar hpb
  have hv:=Ce h.wf (Nat.le_refl Z.clock)
  have hle1:path.length+1<=cp:=hpl
  have fs:fslice Tryz.prog 25 (.slice (some ⟨pb,po,none⟩) (path.length+1) cp) (some (.int .i64 1)) none none (view Z Z.clock)=.val (.slice (some ⟨pb,po+1*1,none⟩) path.length (cp-1)) (view Z Z.clock):=Zu Tryz.prog 25 TI 1 pb po (path.length+1) cp (view Z Z.clock) Kn ML (by omega) hle1 (Y9 hpb (h.wf _ _ hpb).2 hpf)
  have fi0:bH (none,1) (.slice (some ⟨pb,po,none⟩) (path.length+1) cp) (.int .i64 0) Z=.val (.pointer (some ⟨pb,po,none⟩)) Z:=(Cd pb po (path.length+1) cp 0 1 .i64 Z).trans (by rw[if_pos (by omega)];simp)
  have ep1:f 1=.slice (some ⟨pb,po,none⟩) (path.length+1) cp:=ep
  rw[Am]
  have keepP:kept [52] g=kept [52] g:=rfl
  by_cases hqi:q=i
  .subst hqi
   have hdd:ds[q]=d':=by rw[hd] at hi;exact Option.some.inj hi
   rw[hdd] at hL
   have eq0:(Int.ofNat q==Int.ofNat q)=true:=by simp
   obtain⟨_,a9,e2,x2,hw2,ws,rfl,hws,hwo,hLw⟩:=hO l4 _ Z hl4 h.wf hb hL hpt h.hx
   obtain⟨s,s',ver,τ,bv',g1,o1,ha,o2,o3,o4,g2,ch,hbv',hfin⟩:=NG hR h hlt hds x2 hw2 ws hws hwo (putP path x d') (by rw[List.getElem?_set_self hlt]) hLw hb
   have tws:ws.take 4=ws:=List.take_of_length_le (by omega)
   have txv:xv.take 4=xv:=List.take_of_length_le (by omega)
   have hvo:(view a9 Z.clock).cells bo=some [.int .i64 k,.int .i64 0,.string ⟨#[]⟩,s]:=by
    obtain⟨s0,ver0,hbo,_⟩:=h.out
    have h1:=(x2.get bo (h.wf _ _ hbo).1).trans hbo
    rw[g1] at h1
    have h2:=Eo h.wf (Nat.le_refl Z.clock) (x2.get bo (h.wf _ _ hbo).1) (Ar hbo)
    rw[h2]
    have h3:=congrArg (fun e:Option Ent=>match e with|some ⟨.cells c _,_,_,_⟩=>c|_=>[]) h1
    exact congrArg some h3.symm
   unfold WL at ih ⊢
   simp -implicitDefEqProofs only[go_sem,Dn,OZ,OY,YE,U7,YF,U8,AnJ,AbO,ep1,h.f3,h.f5,h.f7,h.f8,h.cd,h.cx,d0,fi0,hpc,hp0,eq0,hv,hlt,hcs,hle,e4',fs,hx4,txv,e2,hvo,hws,hwo,tws,ha,o2,g2,a1,Ag,Nat.le_refl]
   generalize hff:upd _ 8 _=f2
   generalize hgg:upd _ 22 _=g2'
   obtain⟨l1,l2,l3,l4',l5,l6,l7,l8,l9⟩:=h.lo
   have n3:=ch.next
   obtain⟨f3,g3,bU,bv4,e4,h4,h6,C4,hn4⟩:=ih fuel (q+1) bv' f2 g2' (τ.put bo (.cells [.int .i64 k,.int .i64 0,.string ⟨#[]⟩,s'] TD) none) (by omega) (by omega) (by omega) (by rw[Aq];have:=x2.next;omega) (by rw[Aq];have:=x2.next;omega) (.inl (by have:=x2.next;omega)) (hfin f2 (by rw[<-hff];simp -implicitDefEqProofs only[go_sem,reduceCtorEq]) (by rw[<-hff];simp -implicitDefEqProofs only[go_sem,reduceCtorEq]) (by rw[<-hff];simp -implicitDefEqProofs only[go_sem,reduceCtorEq]) (by rw[<-hff];simp -implicitDefEqProofs only[go_sem,reduceCtorEq]) (by rw[<-hff];simp -implicitDefEqProofs only[go_sem,reduceCtorEq]))
   refine⟨f3,g3,bU,bv4,e4,h4,h6.trans (by rw[<-hff];simp -implicitDefEqProofs only[go_sem,reduceCtorEq]),(((x2.chg (fun b=>b=bo\/base<=b/\b≠bd/\b≠bx)).trans ch fun b _ hb=>by
    obtain⟨rfl,hs⟩:=hb
    rcases hnil with h0|h0
    .exact .inr ⟨h0,l8,l9⟩
    .exact absurd (h0 s ver ((x2.get bo (h.wf _ _ h.out.choose_spec.choose_spec.1).1).symm.trans g1)) hs).put bo _ _ (.inr (.inl rfl))).trans C4 fun b _ hb=>hb,hn4⟩
  .have eq0:(Int.ofNat q==Int.ofNat i)=false:=by simp;omega
   obtain⟨s,s',ver,τ,bv',g1,o1,ha,o2,o3,o4,g2,ch,hbv',hfin⟩:=NG hR h hlt hds (Ext.refl Z) h.wf l4 hl4 ho4 ds[q] (by rw[List.getElem?_set_ne (Ne.symm hqi)];exact hd) (hL.keep fun b cs hb hc=>⟨hc,.inl hb⟩) hb
   have cbo:=Ar g1
   unfold WL at ih ⊢
   simp -implicitDefEqProofs only[go_sem,Dn,OZ,OY,YE,U7,YF,U8,AnK,AbP,ep1,h.f3,h.f5,h.f7,h.f8,h.cd,d0,fi0,hpc,hp0,eq0,hv,hlt,hcs,hle,e4',cbo,hl4,ho4,tl4,ha,o2,g2,a1,Ag,Nat.le_refl]
   generalize hff:upd _ 8 _=f2
   generalize hgg:upd _ 22 _=g2'
   obtain⟨l1,l2,l3,l4',l5,l6,l7,l8,l9⟩:=h.lo
   have n3:=ch.next
   obtain⟨f3,g3,bU,bv4,e4,h4,h6,C4,hn4⟩:=ih fuel (q+1) bv' f2 g2' (τ.put bo (.cells [.int .i64 k,.int .i64 0,.string ⟨#[]⟩,s'] TD) none) (by omega) (by omega) (by omega) (by rw[Aq];exact Nat.le_trans hb n3) (by rw[Aq];omega) (.inl (by omega)) (hfin f2 (by rw[<-hff];simp -implicitDefEqProofs only[go_sem,reduceCtorEq]) (by rw[<-hff];simp -implicitDefEqProofs only[go_sem,reduceCtorEq]) (by rw[<-hff];simp -implicitDefEqProofs only[go_sem,reduceCtorEq]) (by rw[<-hff];simp -implicitDefEqProofs only[go_sem,reduceCtorEq]) (by rw[<-hff];simp -implicitDefEqProofs only[go_sem,reduceCtorEq]))
   refine⟨f3,g3,bU,bv4,e4,h4,h6.trans (by rw[<-hff];simp -implicitDefEqProofs only[go_sem,reduceCtorEq]),((ch.weaken (G:=fun b=>b=bo\/base<=b/\b≠bd/\b≠bx) fun b _ hb=>by
    obtain⟨rfl,hs⟩:=hb
    rcases hnil with h0|h0
    .exact .inr ⟨h0,l8,l9⟩
    .exact absurd (h0 s ver g1) hs).put bo _ _ (.inr (.inl rfl))).trans C4 fun b _ hb=>hb,hn4⟩
def BareD:D->Prop
 | .mk _ z t ds=>0<ds.length->z=0/\t=⟨#[]⟩
def PlR(Rin:Nat->Prop)(base:Nat)(y:D)(w:Value)(Z:aC):Prop:=∃ws:List Value,w=.agg ws.toArray/\ws.length=4/\ws.all oneCell=true/\aI (fun b=>Rin b\/base<=b) Z w y
theorem AeW(n:Nat)(Rin:Nat->Prop)(x:D)(xv:List Value)(hx4:xv.length=4)(hxo:xv.all oneCell=true):∀(path:List Nat) (d w0:D) (pd:List Nat) (lv:List Value) (pv:Value) (Z:aC) (base:Nat),lv.length=4->Wf Z->(∀b,Rin b->b<base)->base<=Z.next->aI Rin Z (.agg lv.toArray) d->PathO Z pv path->aI Rin Z (.agg xv.toArray) x->
  atP path d=some w0->(∀y∈d.pieces pd,y.2.parts.length<900/\BareD y.2)->
  Gives ((env (n+1+path.length)).call 96 [.agg lv.toArray,pv,.agg xv.toArray] none Z) Z fun w V=>PlR Rin Z.next (putP path x d) w V:=by
 intro path
 induction path with
 | nil=>
  intro d w0 pd lv pv Z base h4 hw hR hb hL hP hLx hat hd
  obtain⟨q,c,rfl,_⟩:=hP
  rw[show n+1+([]:List Nat).length=n+1 from rfl,Ak _ 96 _ _ rfl,AcN _ _ _ _ (by simp),Aj]
  unfold AdQ
  have x1:Ext Z (((Z.push (.cells lv TD) none).push (.cells xv TD) none).push (.cells [.int .i64 0,.int .i64 0,.string ⟨#[]⟩,.slice none 0 0] TD) none):=(((Ext.refl _).push _ _).push _ _).push _ _
  have hw1:=((hw.push (.cells lv TD) none).push (.cells xv TD) none).push (.cells [.int .i64 0,.int .i64 0,.string ⟨#[]⟩,.slice none 0 0] TD) none
  have z0:(Int.ofNat 0==0)=true:=rfl
  have txv:xv.take 4=xv:=List.take_of_length_le (by omega)
  simp -implicitDefEqProofs only[go_sem,Av,YC,U4,YD,U6,AnG,AbL,z0,hx4,hxo,txv,Bm,AP,AA,Ay,AO,Nat.le_refl]
  refine⟨_,_,rfl,x1.put _ _ _ (by omega),hw1.put _ _ _ (by simp only[Aa];omega),xv,by simp[txv],hx4,hxo,?_⟩
  show aI _ _ _ x
  exact hLx.keep fun b cs hb' hc=>⟨(((x1.put (Z.next+2) (.cells xv TD) none (by omega)).cells (hw.cells hc))).trans hc,.inl hb'⟩
 | cons i path ih=>
  intro d w0 pd lv pv Z base h4 hw hR hb hL hP hLx hat hd
  obtain⟨k,z,t,ds⟩:=d
  have hd0:=hd _ (by rw[D.pieces_eq];exact List.mem_cons_self)
  have hds:ds.length<900:=hd0.1
  rw[atP] at hat
  simp only[D.parts] at hat
  cases hdi:ds[i]? with
  | none=>rw[hdi] at hat;cases hat
  | some d'=>
  rw[hdi] at hat
  have hil:=(List.getElem?_eq_some_iff.1 hdi).1
  have hzt:z=0/\t=⟨#[]⟩:=hd0.2 (by omega)
  obtain⟨rfl,rfl⟩:=hzt
  have hput:putP (i::path) x (.mk k 0 ⟨#[]⟩ ds)=.mk k 0 ⟨#[]⟩ (ds.set i (putP path x d')):=by rw[putP,hdi]
  have hL0:=hL
  obtain⟨p,c,hlv,hE⟩:=hL
  have hlv':lv=[.int .i64 k,.int .i64 0,.string ⟨#[]⟩,.slice p ds.length c]:=by
   have:=Value.agg.inj hlv
   simpa using congrArg Array.toList this
  subst hlv'
  obtain⟨qp,cp,rfl,hpo⟩:=id hP
  obtain⟨M,hM⟩:∃M,n+1+path.length=M:=⟨_,rfl⟩
  rw[hM] at ih
  rw[show n+1+(i::path).length=M+1 by rw[List.length_cons];omega,Ak _ 96 _ _ rfl,AcN _ _ _ _ (by simp),Aj]
  unfold AdQ
  have z0:(Int.ofNat (path.length+1)==0)=false:=by simp;omega
  have x1:Ext Z (((((Z.push (.cells [.int .i64 k,.int .i64 0,.string ⟨#[]⟩,.slice p ds.length c] TD) none).push (.cells xv TD) none).push (.cells [.int .i64 0,.int .i64 0,.string ⟨#[]⟩,.slice none 0 0] TD) none).push (.cells [.int .i64 0,.int .i64 0,.string ⟨#[]⟩,.slice none 0 0] TD) none).put (Z.next+3) (.cells [.int .i64 k,.int .i64 0,.string ⟨#[]⟩,.slice none 0 0] TD) none):=(((((Ext.refl _).push _ _).push _ _).push _ _).push _ _).put _ _ _ (by omega)
  have hw1:=((((hw.push (.cells [.int .i64 k,.int .i64 0,.string ⟨#[]⟩,.slice p ds.length c] TD) none).push (.cells xv TD) none).push (.cells [.int .i64 0,.int .i64 0,.string ⟨#[]⟩,.slice none 0 0] TD) none).push (.cells [.int .i64 0,.int .i64 0,.string ⟨#[]⟩,.slice none 0 0] TD) none).put (Z.next+3) (.cells [.int .i64 k,.int .i64 0,.string ⟨#[]⟩,.slice none 0 0] TD) none (by simp only[Aa];omega)
  have hkeep:bI nls 96=[52]:=by kernel_rfl
  simp -implicitDefEqProofs only[go_sem,Av,YC,U4,YD,U6,AnH,AbM,AnI,AbN,z0,Ag,hkeep]
  have g0:(((((Z.push (.cells [.int .i64 k,.int .i64 0,.string ⟨#[]⟩,.slice p ds.length c] TD) none).push (.cells xv TD) none).push (.cells [.int .i64 0,.int .i64 0,.string ⟨#[]⟩,.slice none 0 0] TD) none).push (.cells [.int .i64 0,.int .i64 0,.string ⟨#[]⟩,.slice none 0 0] TD) none).put (Z.next+3) (.cells [.int .i64 k,.int .i64 0,.string ⟨#[]⟩,.slice none 0 0] TD) none).cells Z.next=some [.int .i64 k,.int .i64 0,.string ⟨#[]⟩,.slice p ds.length c]:=by
   rw[Al,if_neg (by omega),Ac,if_neg (by simp only[Aa];omega),Ac,if_neg (by simp only[Aa];omega),Ac,if_neg (by rw[Aa];omega),Ac,if_pos rfl];rfl
  have g1:(((((Z.push (.cells [.int .i64 k,.int .i64 0,.string ⟨#[]⟩,.slice p ds.length c] TD) none).push (.cells xv TD) none).push (.cells [.int .i64 0,.int .i64 0,.string ⟨#[]⟩,.slice none 0 0] TD) none).push (.cells [.int .i64 0,.int .i64 0,.string ⟨#[]⟩,.slice none 0 0] TD) none).put (Z.next+3) (.cells [.int .i64 k,.int .i64 0,.string ⟨#[]⟩,.slice none 0 0] TD) none).cells (Z.next+1)=some xv:=by
   rw[Al,if_neg (by omega),Ac,if_neg (by simp only[Aa];omega),Ac,if_neg (by simp only[Aa];omega),Ac,if_pos (by rw[Aa])];rfl
  have g2:∃ver,(((((Z.push (.cells [.int .i64 k,.int .i64 0,.string ⟨#[]⟩,.slice p ds.length c] TD) none).push (.cells xv TD) none).push (.cells [.int .i64 0,.int .i64 0,.string ⟨#[]⟩,.slice none 0 0] TD) none).push (.cells [.int .i64 0,.int .i64 0,.string ⟨#[]⟩,.slice none 0 0] TD) none).put (Z.next+3) (.cells [.int .i64 k,.int .i64 0,.string ⟨#[]⟩,.slice none 0 0] TD) none).heap.get (Z.next+2)=some ⟨.cells [.int .i64 0,.int .i64 0,.string ⟨#[]⟩,.slice none 0 0] TD,false,none,ver⟩:=
   ⟨_,by rw[Ao,if_neg (by omega),Ai,if_neg (by simp only[Aa];omega),Ai,if_pos (by simp only[Aa])]⟩
  have g3:∃ver,(((((Z.push (.cells [.int .i64 k,.int .i64 0,.string ⟨#[]⟩,.slice p ds.length c] TD) none).push (.cells xv TD) none).push (.cells [.int .i64 0,.int .i64 0,.string ⟨#[]⟩,.slice none 0 0] TD) none).push (.cells [.int .i64 0,.int .i64 0,.string ⟨#[]⟩,.slice none 0 0] TD) none).put (Z.next+3) (.cells [.int .i64 k,.int .i64 0,.string ⟨#[]⟩,.slice none 0 0] TD) none).heap.get (Z.next+3)=some ⟨.cells [.int .i64 k,.int .i64 0,.string ⟨#[]⟩,.slice none 0 0] TD,false,none,ver⟩:=
   ⟨_,by rw[Ao,if_pos rfl]⟩
  have n1:(((((Z.push (.cells [.int .i64 k,.int .i64 0,.string ⟨#[]⟩,.slice p ds.length c] TD) none).push (.cells xv TD) none).push (.cells [.int .i64 0,.int .i64 0,.string ⟨#[]⟩,.slice none 0 0] TD) none).push (.cells [.int .i64 0,.int .i64 0,.string ⟨#[]⟩,.slice none 0 0] TD) none).put (Z.next+3) (.cells [.int .i64 k,.int .i64 0,.string ⟨#[]⟩,.slice none 0 0] TD) none).next=Z.next+4:=rfl
  generalize aC.put _ (Z.next+3) _ _=a_ at x1 hw1 g0 g1 g2 g3 n1 ⊢
  obtain⟨v2,g2⟩:=g2
  obtain⟨v3,g3⟩:=g3
  generalize hbf:bG=fuel
  generalize hff:upd _ 8 _=f1
  generalize hgg:upd _ 15 _=gg
  have q6:f1 6=.pointer (some ⟨Z.next+2,0,none⟩):=by rw[<-hff];simp -implicitDefEqProofs only[go_sem,reduceCtorEq]
  obtain⟨f2,g2',a9,bv2,e2,H,h6,C2,hnil⟩:=Aqv M (Rin:=Rin) (base:=Z.next+3) (bd:=Z.next) (bx:=Z.next+1) (bo:=Z.next+3) (br:=Z.next+2) (i:=i) (k:=k) (z:=0) (t:=⟨#[]⟩) (p:=p) (c:=c) (ds:=ds) (x:=x) (d':=d') (xv:=xv) (path:=path) (fun b hb'=>by have:=hR b hb';omega) hds hx4 hdi (by omega)
   (fun lv pv V h4 hw' hb' hL' hP' hLx'=>ih d' w0 (pd++[0+i]) lv pv V (Z.next+3) h4 hw' (fun b hb''=>by have:=hR b hb'';omega) hb' hL' hP' hLx' hat (fun y hy=>hd y (by rw[D.pieces_eq];exact List.mem_cons_of_mem _ (G7 pd ds 0 i d' hdi y hy))))
   ds.length fuel 0 (Z.next+2) f1 gg a_ (by omega) (by rw[<-hbf];show ds.length<1000000000000;omega) (by omega) (by omega) (by omega) (.inr fun s ver hs=>by
    rw[g3] at hs
    have:=congrArg (fun e:Option Ent=>match e with|some ⟨.cells [_,_,_,s] _,_,_,_⟩=>s|_=>.nilIface) hs
    exact this.symm)
   {f1:=by
     have:f1 1=.slice qp (path.length+1) cp:=by rw[<-hff];simp -implicitDefEqProofs only[go_sem,reduceCtorEq]
     rw[this]
     exact hP.ext hw x1
    f3:=by rw[<-hff];simp -implicitDefEqProofs only[go_sem,reduceCtorEq]
    f5:=by rw[<-hff];simp -implicitDefEqProofs only[go_sem,reduceCtorEq]
    f7:=by rw[<-hff];simp -implicitDefEqProofs only[go_sem,reduceCtorEq]
    f8:=by rw[<-hff];simp -implicitDefEqProofs only[go_sem,reduceCtorEq]<;>rfl
    cd:=g0
    cx:=g1
    hE:=hE.keep fun b cs hb' hc=>⟨(x1.cells (hw.cells hc)).trans hc,hb'⟩
    hx:=hLx.keep fun b cs hb' hc=>⟨(x1.cells (hw.cells hc)).trans hc,hb'⟩
    out:=⟨_,v3,g3,.inl ⟨by simp,rfl⟩⟩
    lo:=⟨trivial,trivial,by omega,by omega,by omega,fun b hb'=>by have:=hR b hb';omega,by omega,by omega,by omega⟩
    bvT:=⟨_,_,_,g2⟩
    wf:=hw1 }
  rw[e2]
  obtain⟨s,ver,hbo,hV⟩:=H.out
  have hlen:(ds.set i (putP path x d')).length=ds.length:=List.length_set
  rw[List.take_of_length_le (by omega)] at hV
  obtain⟨p2,hs2,hE2⟩:=hV.slice
  rw[hlen] at hs2
  subst hs2
  have cbo:=Ar hbo
  have gbr:a9.heap.get (Z.next+2)=some ⟨.cells [.int .i64 0,.int .i64 0,.string ⟨#[]⟩,.slice none 0 0] TD,false,none,v2⟩:=(C2.get _ (by omega) (by omega)).trans g2
  have n2:=C2.next
  simp -implicitDefEqProofs only[go_sem,Av,Agb,U5,h6,q6,H.f7,cbo,gbr,Bm,AP,AA,Ay,AO]
  have x2:Ext Z a9:=((x1.chg (fun b=>Z.next<=b)).trans C2 fun b hb' h=>by omega).ext fun b hb' h=>by omega
  refine⟨_,_,rfl,x2.put _ _ _ (by omega),H.wf.put _ _ _ (by omega),[.int .i64 k,.int .i64 0,.string ⟨#[]⟩,.slice p2 ds.length ds.length],rfl,rfl,rfl,?_⟩
  rw[hput]
  have hbv:Z.next+3<=bv2:=by
   rcases hnil with h|h
   .exact h
   .have:=h _ _ hbo
    simp only[Value.slice.injEq] at this
    omega
  refine⟨p2,ds.length,by rw[hlen],hE2.keep fun b cs hb' hc=>⟨?_,?_⟩⟩
  .rw[Al,if_neg (fun hh=>by
    rcases hb' with h|h
    .omega
    .rcases h.1 with h|h
     .have:=hR b h
      omega
     .omega)];exact hc
  .rcases hb' with h|h
   .exact .inr (by omega)
   .rcases h.1 with h|h
    .exact .inl h
    .exact .inr (by omega)
end
section
open Go Go.Eng
def AllWhole(d:D):Prop:=∀p,∀y∈d.pieces p,y.2.parts.length<=3/\WholeD y.2
theorem AllWhole.head{k z:Int}{t:ByteArray}{ds:List D}(h:AllWhole (.mk k z t ds)):ds.length<=3/\Whole k z t ds.length:=by
 have h1:=h [] ([],.mk k z t ds) (by rw[D.pieces_eq];exact List.mem_cons_self)
 exact h1
theorem AllWhole.part{k z:Int}{t:ByteArray}{ds:List D}(h:AllWhole (.mk k z t ds)){i:Nat}{d:D}(hd:ds[i]? = some d):∀y∈d.pieces ([]++[0+i]),y.2.parts.length<=3/\WholeD y.2:=fun y hy=>
 h [] y (by rw[D.pieces_eq];exact List.mem_cons_of_mem _ (G7 [] ds 0 i d hd y hy))
end
section
open Go Go.Eng
attribute [local congr] Ab Ah Af Ad Ae
attribute [-go_sem] List.range_succ
def CapV(v:Value):Prop:=∃a n c,v=.slice a n c/\n<=c
def FulB(Z:aC)(b:Nat):Prop:=∃vs fz ver,Z.heap.get b=some ⟨.cells vs TI,false,fz,ver⟩/\(fz=none\/fz=some 1)
theorem FulB.keep{Z V:aC}{b:Nat}(h:FulB Z b)(hb:V.heap.get b=Z.heap.get b):FulB V b:=by
 obtain⟨vs,fz,ver,h1,h2⟩:=h
 exact⟨vs,fz,ver,hb.trans h1,h2⟩
theorem Ahr{Z:aC}{b:Nat}{s:Value}{vs:List Value}(h:Ful TI Z b s vs):FulB Z b:=by
 obtain⟨fz,ver,h1,h2,h3⟩:=h
 exact⟨vs,fz,ver,h2,h3⟩
structure HeadPb (bd bo base:Nat) (R:Nat->Prop) (k z:Int) (t:ByteArray) (q:Option Addr) (c:Nat) (ds:List D) (at':List Nat) (atv:Value) (us:List Value) (ps:List (List Nat)) (bT:aC) (i:Nat) (f:Nat->Value) (Z:aC):Prop where
 f1:f 1=atv
 f2:f 2=.pointer (some ⟨bd,0,none⟩)
 f5:Ful TP Z bo (f 5) us
 f6:f 6=.int .i64 (.ofNat i)
 cd:Z.cells bd=some [.int .i64 k,.int .i64 z,.string t,.slice q ds.length c]
 lay:bC R Z q 0 ds
 low:∀b,R b->b<base
 atp:PathV (· < base) Z atv at'
 hbd:base<=bd/\bd≠bo
 hbo:base<=bo
 lst:PathsL (fun b=>base<=b/\b≠bo/\FulB Z b) Z us ps
 caps:∀u,u∈us->CapV u
 wf:Wf Z
 ext:Ext bT Z
 le:i<=ds.length
 few:ds.length<10000
def PathsBt(m:Nat)(d:D):Prop:=∀(at':List Nat) (v atv:Value) (R Q:Nat->Prop) (Z:aC),Wf Z->aI R Z v d->PathV Q Z atv at'->at'.length+d.deep<1000->(d.pieces at').length<10000->
 Gives ((env m).call 31 [v,atv] none Z) Z fun w V=>∃b us,Z.next<=b/\Ful TP V b w us/\PathsL (fun b=>Z.next<=b/\FulB V b) V us ((d.pieces at').map (·.1))/\∀u,u∈us->CapV u
theorem R3(m:Nat){bd bo base:Nat}{R:Nat->Prop}{k z:Int}{t:ByteArray}{q:Option Addr}{c:Nat}{ds:List D}{at':List Nat}{atv:Value}{us:List Value}{ps:List (List Nat)}{bT:aC}{i:Nat}{f:Nat->Value}{Z:aC}(d:D)(hP:PathsBt m d)(h:HeadPb bd bo base R k z t q c ds at' atv us ps bT i f Z)(hb0:bT.next=base)(hd:ds[i]? = some d)(hlen:at'.length+1+d.deep<1000)(hcount:us.length+(d.pieces (at'++[i])).length<10000)(g:Nat->Value):
  ∃f' g' V bo' us',JJ (env m) none 31 (Sl 7 33 f g []) none Z=.done .normal (Sl 7 33 f' g' []) none V/\HeadPb bd bo' base R k z t q c ds at' atv us' (ps++(d.pieces (at'++[i])).map (·.1)) bT (i+1) f' V:=by
 have hi:i<ds.length:=(List.getElem?_eq_some_iff.1 hd).1
 have d1:decide (Int.ofNat i<Int.ofNat ds.length)=true:=by simp;omega
 obtain⟨b,off,cs,rfl,hRb,hcs,hle,hL⟩:=bC.get h.lay hd
 rw[Nat.zero_add] at hle hL
 have w3:=EY i (by have:=h.few;omega)
 have l4:((cs.drop (off+i*4)).take 4).length=4:=by rw[List.length_take,List.length_drop];omega
 have hbase:base<=Z.next:=by have:=h.ext.next;omega
 have F1:Ful TI (Z.push (.cells [] TI) none) Z.next (.slice (some ⟨Z.next,0,none⟩) 0 0) []:=Ful.push TI Z []
 have hw1:=h.wf.push (.cells [] TI) none
 have a1:PathV (· < base) (Z.push (.cells [] TI) none) atv at':=h.atp.keep fun b c hb hc=>⟨by rw[Ac,if_neg (by omega)];exact hc,hb⟩
 obtain⟨b2,s2,a9,e2,F2,hb2,ch2,hw2⟩:=F1.append hw1 atv (intsOf at') 8 a1.fnew (FX _) (by omega) (by simp[Cc];omega)
 have F3:=F2.keep (V:=a9.push (.cells [.int .i64 (.ofNat i)] TI) none) (by rw[Ai,if_neg (by have:=F2.lt hw2;omega)])
 have hw3:=hw2.push (.cells [.int .i64 (.ofNat i)] TI) none
 have c3:(a9.push (.cells [.int .i64 (.ofNat i)] TI) none).cells a9.next=some ([.int .i64 (.ofNat i)]++[]):=by rw[Ac,if_pos rfl];rfl
 obtain⟨b4,s4,bU,e4,F4,hb4,ch4,hw4⟩:=F3.append hw3 (.slice (some ⟨a9.next,0,none⟩) 1 1) [.int .i64 (.ofNat i)] 8 (EH a9.next 1 1 _ [] c3 rfl) rfl (by omega) (by simp[Cc];omega)
 have hb2':Z.next<=b2:=by
  rcases hb2 with rfl|rfl
  .exact Nat.le_refl _
  .rw[Aa];omega
 have hb4':Z.next<=b4:=by
  have:=ch2.next
  rw[Aa] at this
  rcases hb4 with rfl|rfl
  .exact hb2'
  .rw[Aa];omega
 have x4:Ext Z bU:=by
  have c1:=ch2.next
  have c2:=ch4.next
  have k1:=ch2.clock
  have k2:=ch4.clock
  rw[Aa] at c1 c2
  rw[A0] at k1 k2
  refine⟨by omega,by omega,fun x hx=>?_⟩
  rw[ch4.get x (by rw[Aa];omega) (by omega),Ai,if_neg (by omega),ch2.get x (by rw[Aa];omega) (by omega),Ai,if_neg (by omega)]
 have hpath:intsOf at'++[.int .i64 (.ofNat i)]=intsOf (at'++[i]):=by simp[intsOf]
 rw[List.nil_append,hpath] at F4
 have P4:PathV (fun _=>True) bU s4 (at'++[i]):=by
  obtain⟨h1,h2⟩:=F4.cells
  rw[Cc] at h1
  exact .inr ⟨b4,_,[],h1,trivial,by rw[List.append_nil];exact h2⟩
 obtain⟨w5,bV,e5,x5,hw5,b5,us5,_,F5,L5,C5⟩:=hP (at'++[i]) (.agg ((cs.drop (off+i*4)).take 4).toArray) s4 R (fun _=>True) bU hw4 (hL.keep fun b c hb hc=>⟨(x4.cells (h.wf.cells hc)).trans hc,hb⟩) P4 (by rw[List.length_append,List.length_singleton];exact hlen) (by omega)
 have x15:=x4.trans x5
 have n4:=x4.next
 have n5:=x5.next
 have hbon:=h.f5.lt h.wf
 have G5:Ful TP bV bo (f 5) us:=h.f5.keep (x15.get bo hbon)
 obtain⟨hw5v,hc5⟩:=F5.cells
 have l5:=L5.length
 rw[List.length_map] at l5
 obtain⟨b6,s6,bX,e6,F6,hb6,ch6,hw6⟩:=G5.append hw5 w5 us5 24 (by rw[hw5v];exact EH b5 us5.length us5.length us5 [] (by rw[List.append_nil];exact hc5) rfl) L5.all (by omega) (by rw[l5];omega)
 have vd:(view bU Z.clock).cells bd=some [.int .i64 k,.int .i64 z,.string t,.slice (some ⟨b,off,none⟩) ds.length c]:=Eo h.wf (Nat.le_refl _) (x4.get bd (h.wf.cells h.cd)) h.cd
 have vb:(view bU Z.clock).cells b=some cs:=Eo h.wf (Nat.le_refl _) (x4.get b (h.wf.cells hcs)) hcs
 unfold JJ
 simp -implicitDefEqProofs only[go_sem,Kd,K0,Xs,TR,h.f1,h.f2,h.f6,h.cd,d1,e2,e4,vd,vb,hi,hle,e5,e6]
 generalize hg:upd _ 31 _=g1
 clear hg
 simp -implicitDefEqProofs only[go_sem,Xr,TQ,h.f6,w3]
 have c56:∀b c,b≠bo->bV.cells b=some c->bX.cells b=some c:=fun b c hb hc=>(ch6.cells (hw5.cells hc) hb).trans hc
 have c06:∀b c,b≠bo->Z.cells b=some c->bX.cells b=some c:=fun b c hb hc=>c56 b c hb ((x15.cells (h.wf.cells hc)).trans hc)
 have n6:=ch6.next
 have hbo:=h.hbo
 have hb6':base<=b6:=by rcases hb6 with rfl|rfl<;>omega
 have xx:=h.ext.trans x15
 refine⟨_,_,bX,b6,us++us5,rfl,{
  f1:=by simp -implicitDefEqProofs only[go_sem,reduceCtorEq,h.f1]
  f2:=by simp -implicitDefEqProofs only[go_sem,reduceCtorEq,h.f2]
  f5:=by rw[show upd (upd f 5 s6) 6 (Value.int .i64 (.ofNat (i+1))) 5=s6 by simp -implicitDefEqProofs only[go_sem,reduceCtorEq]];exact F6
  f6:=by simp -implicitDefEqProofs only[go_sem,reduceCtorEq]
  cd:=c06 bd _ h.hbd.2 h.cd
  lay:=h.lay.keep fun b c hb hc=>⟨c06 b c (by have:=h.low b hb;omega) hc,hb⟩
  low:=h.low
  atp:=h.atp.keep fun b c hb hc=>⟨c06 b c (by omega) hc,hb⟩
  hbd:=⟨h.hbd.1,by
   have:=h.wf.cells h.cd
   rcases hb6 with rfl|rfl
   .exact h.hbd.2
   .omega⟩
  hbo:=hb6'
  lst:=(h.lst.keep fun b c hb hc=>⟨c06 b c hb.2.1 hc,hb.1,by
   have:=h.wf.cells hc
   rcases hb6 with rfl|rfl
   .exact hb.2.1
   .omega,hb.2.2.keep ((ch6.get b (by have:=h.wf.cells hc;omega) hb.2.1).trans (x15.get b (h.wf.cells hc)))⟩).append (L5.keep fun b c hb hc=>⟨c56 b c (by have:=hb.1;omega) hc,by have:=hb.1;omega,by
   have:=hw5.cells hc
   have:=hb.1
   rcases hb6 with rfl|rfl
   .omega
   .omega,hb.2.keep (ch6.get b (hw5.cells hc) (by have:=hb.1;omega))⟩)
  caps:=fun u hu=>by
   rcases List.mem_append.1 hu with hu|hu
   .exact h.caps u hu
   .exact C5 u hu
  wf:=hw6
  ext:=⟨by have:=xx.next;omega,by have:=xx.clock;have:=ch6.clock;omega,fun x hx=>(ch6.get x (by have:=xx.next;omega) (by omega)).trans (xx.get x hx)⟩
  le:=hi
  few:=h.few }⟩
theorem W4(m:Nat){bd base:Nat}{R:Nat->Prop}{k z:Int}{t:ByteArray}{q:Option Addr}{c:Nat}{ds:List D}{at':List Nat}{atv:Value}{bT:aC}(total:List (List Nat))(hP:∀d∈ds,PathsBt m d)(hb0:bT.next=base)(hdeep:∀d∈ds,at'.length+1+d.deep<1000)(hcount:total.length<10000):
  ∀(j fuel i:Nat) (bo:Nat) (us:List Value) (ps:List (List Nat)) (f g:Nat->Value) (Z:aC),i+j=ds.length->j<fuel->ps++(D.piecesL at' i (ds.drop i)).map (·.1)=total->HeadPb bd bo base R k z t q c ds at' atv us ps bT i f Z->
  ∃f' g' V bo' us',floop [32] (JJ (env m) none 31) fuel (Sl 7 33 f g []) none Z=.done (.exit 0) (Sl 7 33 f' g' []) none V/\HeadPb bd bo' base R k z t q c ds at' atv us' total bT ds.length f' V:=by
 intro j
 induction j with
 | zero=>
  intro fuel i bo us ps f g Z hij hf ht h
  obtain⟨fuel,rfl⟩:∃q,fuel=q+1:=⟨fuel-1,by omega⟩
  obtain rfl:i=ds.length:=by omega
  rw[List.drop_length,D.piecesL,List.map_nil,List.append_nil] at ht
  subst ht
  have d1:decide (Int.ofNat ds.length<Int.ofNat ds.length)=false:=by simp
  rw[Am,AL]
  unfold JJ
  simp -implicitDefEqProofs only[go_sem,Kd,K0,h.f2,h.f6,h.cd,d1]
  exact⟨_,_,_,bo,us,rfl,h⟩
 | succ j ih=>
  intro fuel i bo us ps f g Z hij hf ht h
  obtain⟨fuel,rfl⟩:∃q,fuel=q+1:=⟨fuel-1,by omega⟩
  have hi:i<ds.length:=by omega
  have hd:ds[i]? = some ds[i]:=List.getElem?_eq_getElem hi
  have hdr:ds.drop i=ds[i]::ds.drop (i+1):=List.drop_eq_getElem_cons hi
  rw[hdr,D.piecesL,List.map_append] at ht
  have hcl:us.length+(ds[i].pieces (at'++[i])).length<10000:=by
   have:=congrArg List.length ht
   simp only[List.length_append,List.length_map] at this
   have:=h.lst.length
   omega
  obtain⟨f1,g1,a_,bo1,us1,e1,h1⟩:=R3 m ds[i] (hP _ (List.getElem_mem _)) h hb0 hd (hdeep _ (List.getElem_mem _)) hcl (kept [32] g)
  rw[Am,AL,e1,Aw]
  exact ih fuel (i+1) bo1 us1 _ f1 g1 a_ (by omega) (by omega) (by rw[List.append_assoc];exact ht) h1
theorem W5(m:Nat)(d:D)(hP:∀d'∈d.parts,PathsBt m d'):PathsBt (m+1) d:=by
 intro at' v atv R Q Z hw hL hA hdeep hcount
 obtain⟨k,z,t,ds⟩:=d
 obtain⟨q,c,rfl,hE⟩:=hL
 have hpc:=D.pieces_eq at' (.mk k z t ds)
 rw[Ak _ 31 _ _ rfl,AcF _ _ _ _ (by simp),Aj]
 unfold AdH
 have x1:Ext Z ((Z.push (.cells [.int .i64 k,.int .i64 z,.string t,.slice q ds.length c] TD) none).push (.cells [] TI) none):=((Ext.refl _).push _ _).push _ _
 have hw1:=(hw.push (.cells [.int .i64 k,.int .i64 z,.string t,.slice q ds.length c] TD) none).push (.cells [] TI) none
 have F1:Ful TI ((Z.push (.cells [.int .i64 k,.int .i64 z,.string t,.slice q ds.length c] TD) none).push (.cells [] TI) none) (Z.next+1) (.slice (some ⟨Z.next+1,0,none⟩) 0 0) []:=Ful.push TI _ []
 have c1:((Z.push (.cells [.int .i64 k,.int .i64 z,.string t,.slice q ds.length c] TD) none).push (.cells [] TI) none).cells Z.next=some [.int .i64 k,.int .i64 z,.string t,.slice q ds.length c]:=by rw[Ac,if_neg (by rw[Aa];omega),Ac,if_pos rfl];rfl
 have n1:((Z.push (.cells [.int .i64 k,.int .i64 z,.string t,.slice q ds.length c] TD) none).push (.cells [] TI) none).next=Z.next+2:=rfl
 have a1:PathV (fun _=>True) ((Z.push (.cells [.int .i64 k,.int .i64 z,.string t,.slice q ds.length c] TD) none).push (.cells [] TI) none) atv at':=hA.keep fun b c hb hc=>⟨(x1.cells (hw.cells hc)).trans hc,trivial⟩
 have lenat:at'.length<1000:=by omega
 obtain⟨b2,s2,a9,e2,F2,hb2,ch2,hw2⟩:=F1.append hw1 atv (intsOf at') 8 a1.fnew (FX _) (by omega) (by simp[Cc];omega)
 simp -implicitDefEqProofs only[go_sem,Xo,TK,Xp,TM,Xq,TN,e2,F2.one.2.1,F2.one.2.2,Qe]
 generalize hff:upd _ 6 _=f1
 generalize hgg:upd _ 10 _=g1
 generalize hbf:bG=fuel
 have hb2':Z.next<=b2:=by
  rcases hb2 with rfl|rfl
  .omega
  .rw[n1];omega
 rw[List.nil_append] at F2
 have F3:Ful TP (a9.push (.cells [s2] TP) none) a9.next (.slice (some ⟨a9.next,0,none⟩) 1 1) [s2]:=Ful.push TP a9 [s2]
 have hw3:=hw2.push (.cells [s2] TP) none
 have x2:Ext Z a9:=⟨by have:=ch2.next;omega,by have:=ch2.clock;have:=x1.clock;omega,fun x hx=>(ch2.get x (by omega) (by omega)).trans (x1.get x hx)⟩
 have x3:Ext Z (a9.push (.cells [s2] TP) none):=x2.push _ _
 have n2:=ch2.next
 have c3:(a9.push (.cells [s2] TP) none).cells Z.next=some [.int .i64 k,.int .i64 z,.string t,.slice q ds.length c]:=by
  rw[Ac,if_neg (by omega)]
  exact(ch2.cells (by omega) (by omega)).trans c1
 have P2:PathV (fun b=>Z.next<=b/\b≠a9.next/\FulB (a9.push (.cells [s2] TP) none) b) (a9.push (.cells [s2] TP) none) s2 at':=by
  obtain⟨h1,h2⟩:=F2.cells
  have:=F2.lt hw2
  have hfb:=(Ahr F2).keep (V:=a9.push (.cells [s2] TP) none) (by rw[Ai,if_neg (by omega)])
  rw[Cc] at h1
  exact .inr ⟨b2,_,[],h1,⟨hb2',by omega,hfb⟩,by rw[Ac,if_neg (by omega),List.append_nil];exact h2⟩
 have hfew:ds.length<10000:=by
  have h1:=congrArg List.length hpc
  have h2:=Gb ds at' 0
  rw[List.length_cons] at h1
  simp only[D.parts] at h1
  omega
 have hdp:(D.mk k z t ds).deep=D.deeps ds+1:=by rw[D.deep]
 obtain⟨f2,g2,bU,bo,us,e4,h4⟩:=W4 m (ds:=ds) (bd:=Z.next) (base:=Z.next) (R:=fun b=>R b/\b<Z.next) (atv:=atv) (bT:=Z) (((D.mk k z t ds).pieces at').map (·.1)) (fun d' hd=>hP d' hd) rfl (fun d hd=>by have:=Ek hd;omega) (by rw[List.length_map];exact hcount) ds.length fuel 0 a9.next [s2] [at'] f1 g1 (a9.push (.cells [s2] TP) none) (by omega) (by rw[<-hbf];show ds.length<1000000000000;omega) (by rw[hpc];rfl) {
  f1:=by rw[<-hff];simp -implicitDefEqProofs only[go_sem,reduceCtorEq]
  f2:=by rw[<-hff];simp -implicitDefEqProofs only[go_sem,reduceCtorEq]
  f5:=by rw[show f1 5=.slice (some ⟨a9.next,0,none⟩) 1 1 by rw[<-hff];simp -implicitDefEqProofs only[go_sem,reduceCtorEq]];exact F3
  f6:=by rw[<-hff];simp -implicitDefEqProofs only[go_sem,reduceCtorEq]<;>rfl
  cd:=c3
  lay:=hE.keep fun b c hb hc=>⟨(x3.cells (hw.cells hc)).trans hc,hb,hw.cells hc⟩
  low:=fun b hb=>hb.2
  atp:=hA.keep fun b c hb hc=>⟨(x3.cells (hw.cells hc)).trans hc,hw.cells hc⟩
  hbd:=⟨Nat.le_refl _,by omega⟩
  hbo:=by omega
  lst:=⟨P2,trivial⟩
  caps:=fun u hu=>by
   rw[List.mem_singleton] at hu
   subst hu
   exact⟨_,_,_,F2.cells.1,Nat.le_refl _⟩
  wf:=hw3
  ext:=x3
  le:=Nat.zero_le _
  few:=hfew }
 rw[e4]
 simp -implicitDefEqProofs only[go_sem,Xt,TT]
 exact⟨_,_,rfl,h4.ext,h4.wf,bo,us,h4.hbo,h4.f5,h4.lst.keep (fun b c hb hc=>⟨hc,hb.1,hb.2.2⟩),h4.caps⟩
theorem Ql(n:Nat):∀(L:Nat) (d:D),d.deep<=L->PathsBt (n+L) d
 | 0,d,h=>by cases d;rw[D.deep] at h;omega
 | L+1,d,h=>W5 (n+L) d fun d' hd=>Ql n L d' (by
  obtain⟨k,z,t,ds⟩:=d
  rw[D.deep] at h
  have:=Ek hd
  simp only[D.parts] at this
  omega)
end
section
open Go Go.Eng
end
section
open Go Go.Eng
attribute [local congr] Ab Ah Af Ad Ae
attribute [-go_sem] List.range_succ
structure HeadFp (b2 b3 ba:Nat) (d x:D) (us:List Value) (bT:aC) (i:Nat) (f:Nat->Value) (Z:aC):Prop where
 f2:f 2=.pointer (some ⟨b2,0,none⟩)
 f3:f 3=.pointer (some ⟨b3,0,none⟩)
 f6:f 6=.slice (some ⟨ba,0,none⟩) us.length us.length
 f7:f 7=.int .i64 (.ofNat i)
 vec:∃ws,Vecs TP (fun b=>bT.next<=b) Z (f 5) ws/\PathsL (fun b=>b<bT.next) Z ws (foundIn x ((d.pieces []).take i))
 ext:Ext bT Z
 wf:Wf Z
 le:i<=(d.pieces []).length
theorem Wx(M n N:Nat)(hM:M=n+2*N){b2 b3 ba:Nat}{R RX:Nat->Prop}{d x:D}{lv xv us:List Value}{bT:aC}(F:FactsFd N b2 b3 ba R RX d x lv xv us bT):
  ∀(j fuel i:Nat) (f g:Nat->Value) (Z:aC),i+j=(d.pieces []).length->j<fuel->HeadFp b2 b3 ba d x us bT i f Z->
  ∃f' g' V,floop [37] (RV (env (M+2)) none 100) fuel (Sl 10 38 f g []) none Z=.done (.exit 0) (Sl 10 38 f' g' []) none V/\HeadFp b2 b3 ba d x us bT (d.pieces []).length f' V:=by
 have hus:us.length=(d.pieces []).length:=by rw[F.pl.length,List.length_map]
 have hpl:=Dw d []
 have hdc:=F.dcount
 intro j
 induction j with
 | zero=>
  intro fuel i f g Z hij hf h
  obtain⟨fuel,rfl⟩:∃q,fuel=q+1:=⟨fuel-1,by omega⟩
  obtain rfl:i=(d.pieces []).length:=by omega
  have d1:decide (Int.ofNat (d.pieces []).length<Int.ofNat us.length)=false:=by rw[hus];simp
  rw[Am,AL]
  unfold RV
  simp -implicitDefEqProofs only[go_sem,Qn,LQ,h.f6,h.f7,d1]
  exact⟨_,_,_,rfl,h⟩
 | succ j ih=>
  intro fuel i f g Z hij hf h
  obtain⟨fuel,rfl⟩:∃q,fuel=q+1:=⟨fuel-1,by omega⟩
  have hi:i<(d.pieces []).length:=by omega
  have hiu:i<us.length:=by omega
  have d1:decide (Int.ofNat i<Int.ofNat us.length)=true:=by simp;omega
  obtain⟨y,hy⟩:∃y,(d.pieces [])[i]? = some y:=⟨_,List.getElem?_eq_getElem hi⟩
  have hmem:=List.mem_of_getElem? hy
  obtain⟨r,hr,hat⟩:=H7 d [] y hmem
  rw[List.nil_append] at hr
  subst hr
  have hys:=JS d F.ddeep y hmem
  obtain⟨u,hu,hP⟩:=F.pl.get (i:=i) (p:=y.1) (by rw[List.getElem?_map,hy];rfl)
  have K:∀b cs,bT.cells b=some cs->Z.cells b=some cs:=fun b cs hc=>(h.ext.cells (F.wf.cells hc)).trans hc
  have hv:=Ce h.wf (Nat.le_refl _)
  obtain⟨_,a_,e1,x1,hw1,v1,rfl,hL1⟩:=AcZ M (Q:=fun _=>True) h.wf (F.ld.keep (R':=R) fun b cs hb hc=>⟨K b cs hc,hb⟩) (hP.keep fun b cs _ hc=>⟨K b cs hc,trivial⟩) (by omega) (by omega) hat
  have hL0:=hL1
  obtain⟨ya,yd⟩:=y
  obtain⟨k,z,t,ds⟩:=yd
  obtain⟨qq,c,rfl,hE⟩:=hL1
  have x2:Ext a_ ((a_.push (.cells [.int .i64 0,.int .i64 0,.string ⟨#[]⟩,.slice none 0 0] TD) none).put a_.next (.cells [.int .i64 k,.int .i64 z,.string t,.slice qq ds.length c] TD) none):=((Ext.refl _).push _ _).put _ _ _ (Nat.le_refl _)
  have hw2:=(hw1.push (.cells [.int .i64 0,.int .i64 0,.string ⟨#[]⟩,.slice none 0 0] TD) none).put a_.next (.cells [.int .i64 k,.int .i64 z,.string t,.slice qq ds.length c] TD) none (Nat.lt_succ_self _)
  have b2':((a_.push (.cells [.int .i64 0,.int .i64 0,.string ⟨#[]⟩,.slice none 0 0] TD) none).put a_.next (.cells [.int .i64 k,.int .i64 z,.string t,.slice qq ds.length c] TD) none).cells a_.next=some [.int .i64 k,.int .i64 z,.string t,.slice qq ds.length c]:=by rw[Al,if_pos rfl];rfl
  have c2:=K _ _ F.c2
  have ca:=K _ _ F.ca
  have h4:=F.h4
  have hx4:=F.hx4
  have ht:lv.take 4=lv:=List.take_of_length_le (by omega)
  have htx:xv.take 4=xv:=List.take_of_length_le (by omega)
  rw[Am,AL]
  unfold RV
  simp -implicitDefEqProofs only[go_sem,Av,Qn,LQ,Ae1,Sb,h.f2,h.f6,h.f7,d1,hiu,hv,c2,ca,hu,h4,ht,e1,Nat.le_refl]
  generalize hff:upd _ 9 _=f1
  generalize hgg:upd _ 26 _=g1
  have q2:f1 2=.pointer (some ⟨b2,0,none⟩):=by rw[<-hff];simp -implicitDefEqProofs only[go_sem,reduceCtorEq,h.f2]
  have q3:f1 3=.pointer (some ⟨b3,0,none⟩):=by rw[<-hff];simp -implicitDefEqProofs only[go_sem,reduceCtorEq,h.f3]
  have q5:f1 5=f 5:=by rw[<-hff];simp -implicitDefEqProofs only[go_sem,reduceCtorEq]
  have q6:f1 6=.slice (some ⟨ba,0,none⟩) us.length us.length:=by rw[<-hff];simp -implicitDefEqProofs only[go_sem,reduceCtorEq,h.f6]
  have q7:f1 7=.int .i64 (.ofNat i):=by rw[<-hff];simp -implicitDefEqProofs only[go_sem,reduceCtorEq,h.f7]
  have q8:f1 8=.pointer (some ⟨a_.next,0,none⟩):=by rw[<-hff];simp -implicitDefEqProofs only[go_sem,reduceCtorEq]
  clear hff hgg
  have hL2:=hL0.keep (R':=fun _=>True) fun b cs _ hc=>⟨(x2.cells (hw1.cells hc)).trans hc,trivial⟩
  generalize aC.put _ _ _ _=a9 at x2 hw2 b2' hL2 ⊢
  have X2:=(h.ext.trans x1).trans x2
  have K2:∀b cs,bT.cells b=some cs->a9.cells b=some cs:=fun b cs hc=>(X2.cells (F.wf.cells hc)).trans hc
  obtain⟨_,bS,e3,x3,hw3,rfl⟩:=Aoy (n+1) N x (.mk k z t ds) xv [.int .i64 k,.int .i64 z,.string t,.slice qq ds.length c] hx4 rfl a9 F.xdeep (by have:=F.xcount;omega) hw2 (aI.laid (F.lx.keep (R':=fun _=>True) fun b cs _ hc=>⟨K2 b cs hc,trivial⟩)) hL2.laid
  rw[show n+1+2*N+1=M+2 by omega,Rb] at e3
  have c3:=K2 _ _ F.c3
  have X3:=X2.trans x3
  have K3:∀b cs,bT.cells b=some cs->bS.cells b=some cs:=fun b cs hc=>(X3.cells (F.wf.cells hc)).trans hc
  have w3:=EY i (by omega)
  have hft:=RK x (d.pieces []) i _ hy
  obtain⟨ws,hvec,hwl⟩:=h.vec
  have hwn:=hwl.length
  have x13:=(x1.trans x2).trans x3
  have hwl3:PathsL (fun b=>b<bT.next) bS ws (foundIn x ((d.pieces []).take i)):=hwl.keep fun b c hb hc=>⟨(x13.cells (h.wf.cells hc)).trans hc,hb⟩
  have hvec3:Vecs TP (fun b=>bT.next<=b) bS (f 5) ws:=hvec.keep (fun b hb hn=>⟨x13.get b hn,hb⟩) h.wf
  cases e:D.same (.mk k z t ds) x with
  | false=>
   rw[e] at e3
   simp -implicitDefEqProofs only[go_sem,Qp,LS,Qo,LR,q3,q8,c3,b2',hx4,htx,e3,q7,w3,Nat.le_refl]
   generalize hg2:upd _ 17 _=g2
   exact ih fuel (i+1) (upd f1 7 (.int .i64 (.ofNat (i+1)))) g2 bS (by omega) (by omega) {
    f2:=by simp -implicitDefEqProofs only[go_sem,reduceCtorEq,q2]
    f3:=by simp -implicitDefEqProofs only[go_sem,reduceCtorEq,q3]
    f6:=by simp -implicitDefEqProofs only[go_sem,reduceCtorEq,q6]
    f7:=by simp -implicitDefEqProofs only[go_sem,reduceCtorEq]
    vec:=⟨ws,by rw[show upd f1 7 (.int .i64 (.ofNat (i+1))) 5=f 5 by simp -implicitDefEqProofs only[go_sem,reduceCtorEq,q5]];exact hvec3,by rw[hft,e,if_neg (by simp),List.append_nil];exact hwl3⟩
    ext:=X3
    wf:=hw3
    le:=hi }
  | true=>
   rw[e] at e3
   have ca3:=K3 _ _ F.ca
   have hw4:=hw3.push (.cells [u] TP) none
   have hvec4:Vecs TP (fun b=>bT.next<=b) (bS.push (.cells [u] TP) none) (f 5) ws:=hvec3.keep (fun b hb hn=>⟨by rw[Ai,if_neg (by omega)],hb⟩) hw3
   obtain⟨o1,o2,o3⟩:=hP.one
   have hfl:=Ni x ((d.pieces []).take i)
   rw[List.length_take] at hfl
   obtain⟨b6,s6,bX,e6,F6,hb6,ch6,hw6⟩:=hvec4.append hw4 bS.next 1 u 24 (by rw[Ac,if_pos rfl];rfl) o1 (by omega) (by omega)
   have n6:=ch6.next
   have X3n:=X3.next
   rw[Aa] at n6 hb6
   have kk:∀b c,b<bT.next->bS.cells b=some c->bX.cells b=some c:=fun b c hb hc=>by
    have h1:=(ch6.get b (by rw[Aa];omega) (by omega)).trans (by rw[Ai,if_neg (by omega)]:(bS.push (.cells [u] TP) none).heap.get b=bS.heap.get b)
    rw[AG] at hc ⊢
    rw[h1];exact hc
   simp -implicitDefEqProofs only[go_sem,Qp,LS,Ae2,Sc,Qo,LR,q3,q5,q6,q8,c3,b2',hx4,htx,e3,q7,w3,ca3,hu,hiu,o1,o2,o3,e6,Nat.le_refl]
   generalize hff2:upd _ 7 _=f2
   generalize hg2:upd _ 17 _=g2
   exact ih fuel (i+1) f2 g2 bX (by omega) (by omega) {
    f2:=by rw[<-hff2];simp -implicitDefEqProofs only[go_sem,reduceCtorEq,q2]
    f3:=by rw[<-hff2];simp -implicitDefEqProofs only[go_sem,reduceCtorEq,q3]
    f6:=by rw[<-hff2];simp -implicitDefEqProofs only[go_sem,reduceCtorEq,q6]
    f7:=by rw[<-hff2];simp -implicitDefEqProofs only[go_sem,reduceCtorEq]
    vec:=⟨ws++[u],by
     rw[show f2 5=s6 by rw[<-hff2];simp -implicitDefEqProofs only[go_sem,reduceCtorEq]]
     exact .inr ⟨b6,F6,by omega⟩,by rw[hft,e,if_pos rfl];exact(hwl3.keep fun b c hb hc=>⟨kk b c hb hc,hb⟩).append ⟨hP.keep fun b c _ hc=>⟨kk b c (F.wf.cells hc) (K3 _ _ hc),F.wf.cells hc⟩,trivial⟩⟩
    ext:=⟨by omega,by have:=X3.clock;have:=ch6.clock;rw[A0] at this;omega,fun b hb=>(ch6.get b (by rw[Aa];omega) (by omega)).trans ((by rw[Ai,if_neg (by omega)]:(bS.push (.cells [u] TP) none).heap.get b=bS.heap.get b).trans (X3.get b hb))⟩
    wf:=hw6
    le:=hi }
theorem AeA(M n N:Nat)(hM:M=n+2*N)(d x:D)(lv xv:List Value)(h4:lv.length=4)(hx4:xv.length=4)(R RX:Nat->Prop)(Z:aC)(hxd:x.deep<=N)(hxc:x.count<100000)(hdc:d.count<10000)(hdd:d.deep<1000)(hdM:d.deep<=M+2)(hw:Wf Z)(hL:aI R Z (.agg lv.toArray) d)(hLx:aI RX Z (.agg xv.toArray) x):
  Gives ((env (M+3)).call 100 [.agg lv.toArray,.agg xv.toArray] none Z) Z fun w V=>∃us,Vecs TP (fun b=>Z.next<=b) V w us/\PathsL (fun b=>b<V.next) V us (foundIn x (d.pieces [])):=by
 have ht:lv.take 4=lv:=List.take_of_length_le (by omega)
 have hpl:=Dw d []
 have x1:Ext Z ((Z.push (.cells lv TD) none).push (.cells xv TD) none):=((Ext.refl _).push _ _).push _ _
 have hw1:=(hw.push (.cells lv TD) none).push (.cells xv TD) none
 have c1:((Z.push (.cells lv TD) none).push (.cells xv TD) none).cells Z.next=some lv:=by rw[Ac,if_neg (by rw[Aa];omega),Ac,if_pos rfl];rfl
 have c2:((Z.push (.cells lv TD) none).push (.cells xv TD) none).cells (Z.next+1)=some xv:=by rw[Ac,if_pos (by rw[Aa])];rfl
 have hpa:=W8 (M+2-d.deep) d.deep d (Nat.le_refl _)
 rw[Nat.sub_add_cancel hdM] at hpa
 rw[Ak _ 100 _ _ rfl,AgZ _ _ _ _ (by simp),Aj]
 unfold AbZ
 simp -implicitDefEqProofs only[go_sem,AeX,R8,AeY,R9]
 generalize hff:upd _ 5 _=f1
 have q2:f1 2=.pointer (some ⟨Z.next,0,none⟩):=by rw[<-hff];simp -implicitDefEqProofs only[go_sem,reduceCtorEq]
 have q3:f1 3=.pointer (some ⟨Z.next+1,0,none⟩):=by rw[<-hff];simp -implicitDefEqProofs only[go_sem,reduceCtorEq]
 have q5:f1 5=.slice none 0 0:=by rw[<-hff];simp -implicitDefEqProofs only[go_sem,reduceCtorEq]
 clear hff
 generalize aC.push (aC.push Z _ _) _ _=a_ at x1 hw1 c1 c2 ⊢
 obtain⟨w,a9,e2,x2,hw2,ba,us,hba,F2,pl2⟩:=hpa [] (.agg lv.toArray) (.slice none 0 0) R (fun _=>True) a_ hw1 (hL.keep fun b cs hb hc=>⟨(x1.cells (hw.cells hc)).trans hc,hb⟩) (.inl ⟨rfl,rfl⟩) (by simp;omega) (by omega)
 obtain⟨rfl,ca⟩:=F2.cells
 have x12:=x1.trans x2
 simp -implicitDefEqProofs only[go_sem,AeZ,R_,Ae0,Sa,q2,c1,h4,ht,e2,AwG,Nat.le_refl]
 generalize hff:upd _ 7 _=f2
 generalize hgg:upd _ 11 _=g2
 generalize hbf:bG=fuel
 obtain⟨f3,g3,bS,e3,h3⟩:=Wx M n N hM (b2:=Z.next) (b3:=Z.next+1) (ba:=ba) (R:=R) (RX:=RX) (d:=d) (x:=x) (lv:=lv) (xv:=xv) (us:=us) (bT:=a9) {
  xdeep:=hxd
  xcount:=hxc
  dcount:=hdc
  ddeep:=hdd
  h4:=h4
  hx4:=hx4
  c2:=(x2.cells (hw1.cells c1)).trans c1
  c3:=(x2.cells (hw1.cells c2)).trans c2
  ca:=ca
  pl:=pl2.keep fun b cs _ hc=>⟨hc,trivial⟩
  ld:=hL.keep fun b cs hb hc=>⟨(x12.cells (hw.cells hc)).trans hc,hb⟩
  lx:=hLx.keep fun b cs hb hc=>⟨(x12.cells (hw.cells hc)).trans hc,hb⟩
  wf:=hw2 } (d.pieces []).length fuel 0 f2 g2 a9 (by omega) (by rw[<-hbf];show (d.pieces []).length<1000000000000;omega) {
  f2:=by rw[<-hff];simp -implicitDefEqProofs only[go_sem,reduceCtorEq,q2]
  f3:=by rw[<-hff];simp -implicitDefEqProofs only[go_sem,reduceCtorEq,q3]
  f6:=by rw[<-hff];simp -implicitDefEqProofs only[go_sem,reduceCtorEq]
  f7:=by rw[<-hff];simp -implicitDefEqProofs only[go_sem,reduceCtorEq]<;>rfl
  vec:=⟨[],by rw[show f2 5=.slice none 0 0 by rw[<-hff];simp -implicitDefEqProofs only[go_sem,reduceCtorEq,q5]];exact .inl ⟨rfl,rfl⟩,trivial⟩
  ext:=Ext.refl _
  wf:=hw2
  le:=Nat.zero_le _ }
 obtain⟨ws,hv,hl⟩:=h3.vec
 rw[List.take_length] at hl
 rw[e3]
 simp -implicitDefEqProofs only[go_sem,Ae3,Sd]
 exact⟨_,_,rfl,x12.trans h3.ext,h3.wf,ws,hv.keep (fun b hb hn=>⟨rfl,by have:=x12.next;omega⟩) h3.wf,hl.keep fun b c hb hc=>⟨hc,by have:=h3.ext.next;omega⟩⟩
def intsZ(l:List Int):List Value:=l.map fun z=>.int .i64 z
theorem Es(l:List Int):(intsZ l).length=l.length:=List.length_map ..
theorem Qd{l:List Int}{i:Nat}{z:Int}(h:l[i]? = some z):(intsZ l)[i]? = some (.int .i64 z):=by rw[intsZ,List.getElem?_map,h];rfl
theorem AeE(l:List Int):(intsZ l).all oneCell=true:=by
 induction l with
 | nil=>rfl
 | cons x l ih=>rw[intsZ,List.map_cons,List.all_cons,A8,Bool.true_and];exact ih
def IntsO(Z:aC)(p:Option Addr)(c:Nat)(l:List Int):Prop:=
 (p=none/\l=[])\/∃b off cs el ro fz ver,p=some ⟨b,off,none⟩/\Z.heap.get b=some ⟨.cells cs el,ro,fz,ver⟩/\(el=TI\/ro=true)/\(fz=none\/fz=some 1)/\l.length<=c/\off+l.length<=cs.length/\∀(i:Nat) (z:Int),l[i]? = some z->cs[off+i]? = some (.int .i64 z)
theorem IntsO.ints{Z:aC}{p:Option Addr}{c:Nat}{l:List Int}(h:IntsO Z p c l):Ints Z p l:=fun i n hi=>by
 rcases h with⟨_,rfl⟩|⟨b,off,cs,el,ro,fz,ver,rfl,hb,_,_,_,_,hc⟩
 .simp at hi
 .exact⟨b,off,cs,rfl,Ar hb,hc i n hi⟩
theorem IntsO.ext{Z V:aC}{p:Option Addr}{c:Nat}{l:List Int}(h:IntsO Z p c l)(hw:Wf Z)(hX:Ext Z V):IntsO V p c l:=by
 rcases h with h|⟨b,off,cs,el,ro,fz,ver,rfl,hb,h1⟩
 .exact .inl h
 .exact .inr ⟨b,off,cs,el,ro,fz,ver,rfl,(hX.get b (hw _ _ hb).1).trans hb,h1⟩
theorem AhH{l:List Int}(h:∀z∈l,0<=z){i j:Nat}(hj:(l.map Int.toNat)[i]? = some j):l[i]? = some (.ofNat j):=by
 rw[List.getElem?_map] at hj
 cases hz:l[i]? with
 | none=>rw[hz] at hj;cases hj
 | some z=>
  rw[hz] at hj
  have h0:=h z (List.mem_of_getElem? hz)
  have:z.toNat=j:=Option.some.inj hj
  rw[<-this]
  congr 1
  simp only[Int.ofNat_eq_natCast]
  omega
theorem IntsO.path{Z:aC}{p:Option Addr}{c:Nat}{l:List Int}(h:IntsO Z p c l)(h0:∀z∈l,0<=z):PathO Z (.slice p l.length c) (l.map Int.toNat):=by
 refine⟨p,c,by rw[List.length_map],?_⟩
 rcases h with⟨_,rfl⟩|⟨b,off,cs,el,ro,fz,ver,rfl,hb,hr,hf,hl,_,hc⟩
 .exact .inl rfl
 .exact .inr ⟨b,off,cs,el,ro,fz,ver,rfl,hb,hr,hf,by rw[List.length_map];exact hl,fun i j hj=>hc i _ (AhH h0 hj)⟩
theorem IntsO.fnew{Z:aC}{p:Option Addr}{c:Nat}{l:List Int}(h:IntsO Z p c l):Eng.fnew 1 (.slice p l.length c) Z=some ((intsZ l).length,intsZ l):=by
 rcases h with⟨rfl,rfl⟩|⟨b,off,cs,el,ro,fz,ver,rfl,hb,hr,hf,hl,hle,hc⟩
 .rfl
 .have hcs:=Ar hb
  have e:(cs.drop off).take l.length=intsZ l:=by
   apply List.ext_getElem?
   intro i
   by_cases hi:i<l.length
   .rw[List.getElem?_take_of_lt hi,List.getElem?_drop,hc i l[i] (List.getElem?_eq_getElem hi),Qd (List.getElem?_eq_getElem hi)]
   .rw[List.getElem?_eq_none (by rw[List.length_take];omega),List.getElem?_eq_none (by rw[Es];omega)]
  unfold Eng.fnew
  simp only[Et,hcs,Nat.mul_one]
  rw[if_pos (by omega),e,Es]
abbrev FulZ(Z:aC)(b:Nat)(l:List Int):Prop:=Ful TI Z b (.slice (some ⟨b,0,none⟩) l.length l.length) (intsZ l)
theorem FulZ.o{Z:aC}{b:Nat}{l:List Int}(h:FulZ Z b l):IntsO Z (some ⟨b,0,none⟩) l.length l:=by
 obtain⟨fz,ver,_,hb,hf⟩:=h
 exact .inr ⟨b,0,_,TI,false,fz,ver,rfl,hb,.inl rfl,hf,Nat.le_refl _,by rw[Es];omega,fun i z hz=>by rw[Nat.zero_add];exact Qd hz⟩
theorem FulZ.pathV{Z:aC}{b:Nat}{l:List Int}(h:FulZ Z b l)(h0:∀z∈l,0<=z)(Q:Nat->Prop)(hQ:Q b):PathV Q Z (.slice (some ⟨b,0,none⟩) l.length l.length) (l.map Int.toNat):=by
 refine .inr ⟨b,l.length,[],by rw[List.length_map],hQ,?_⟩
 rw[h.cells.2,List.append_nil,intsZ,intsOf,List.map_map]
 refine congrArg some (List.map_congr_left fun z hz=>?_)
 have:=h0 z hz
 simp only[Function.comp,Int.ofNat_eq_natCast]
 congr 1
 omega
theorem Ln(n:Nat){p:Option Addr}{c:Nat}{l:List Int}(hl:l.length<50000)(Z:aC)(hw:Wf Z)(h:IntsO Z p c l):
  Gives ((env (n+1)).call 33 [.slice p l.length c] none Z) Z fun w V=>∃b,w=.slice (some ⟨b,0,none⟩) l.length l.length/\Z.next<=b/\FulZ V b l:=by
 rw[Ak _ 33 _ _ rfl,ApO _ _ _ _ (by simp),Aj]
 unfold An6
 have x1:Ext Z (Z.push (.cells [] TI) none):=(Ext.refl _).push _ _
 have hw1:=hw.push (.cells [] TI) none
 have hF:=Ful.push TI Z []
 obtain⟨b',s',τ,e1,F1,hb,C1,hw2⟩:=hF.append hw1 (.slice p l.length c) (intsZ l) 8 (h.ext hw x1).fnew (AeE l) (by omega) (by rw[Es];simp;omega)
 rw[List.nil_append] at F1
 have e1':bO TI 1 8 (.slice (some ⟨Z.next,0,none⟩) 0 0) (.slice p l.length c) (Z.push (.cells [] TI) none)=.val s' τ:=e1
 obtain⟨o1,o2,o3⟩:=F1.one
 have hs:=F1.cells.1
 rw[Es] at hs
 subst hs
 have e2:bO 3 1 8 (.slice (some ⟨Z.next,0,none⟩) 0 0) (.slice p l.length c) (Z.push (.cells [] 3) none)=_:=e1'
 simp -implicitDefEqProofs only[go_sem,AlU,Aan,AlV,Aao,e2]
 have n1:=C1.next
 rw[Aa] at n1 hb
 refine⟨_,_,rfl,⟨by omega,by have:=C1.clock;rw[A0] at this;omega,fun b hb'=>(C1.get b (by rw[Aa];omega) (by omega)).trans (by rw[Ai,if_neg (by omega)])⟩,hw2,b',rfl,by omega,F1⟩
theorem RC(E:Env){l:List Int}{a a':Option Addr}{cx cx':Nat}{Z:aC}(hw:Wf Z)(hs:l.length<100000)(h1:Ints Z a l)(h2:Ints Z a' l):
  ∀(j fuel i:Nat) (f g:Nat->Value),i+j=l.length->j<fuel->HeadEi (.slice a l.length cx) (.slice a' l.length cx') i f->
  ∃f' g',floop [] (Nv E none 41) fuel (Sl 6 26 f g []) none Z=.done (.exit 0) (Sl 6 26 f' g' []) none Z:=by
 intro j
 induction j with
 | zero=>
  intro fuel i f g hij hf h
  obtain⟨fuel,rfl⟩:∃q,fuel=q+1:=⟨fuel-1,by omega⟩
  obtain rfl:i=l.length:=by omega
  have d1:decide (Int.ofNat l.length<Int.ofNat l.length)=false:=by simp
  rw[Am,AL]
  unfold Nv
  simp -implicitDefEqProofs only[go_sem,HO,Jk,h.f0,h.f5,d1]
  exact⟨_,_,rfl⟩
 | succ j ih=>
  intro fuel i f g hij hf h
  obtain⟨fuel,rfl⟩:∃q,fuel=q+1:=⟨fuel-1,by omega⟩
  have hi:i<l.length:=by omega
  have d1:decide (Int.ofNat i<Int.ofNat l.length)=true:=by simp;omega
  obtain⟨b,o,cs,rfl,hc,g1⟩:=h1 i l[i] (List.getElem?_eq_getElem hi)
  obtain⟨b',o',cs',rfl,hc',g2⟩:=h2 i l[i] (List.getElem?_eq_getElem hi)
  have hv:=Ce hw (Nat.le_refl _)
  have w3:=EY i (by omega)
  generalize l[i]=z at g1 g2
  have e:(z==z)=true:=by simp
  rw[Am,AL]
  unfold Nv
  simp -implicitDefEqProofs only[go_sem,HO,Jk,Og,Oe,XO,Um,h.f0,h.f1,h.f5,d1,hi,hv,hc,hc',g1,g2,e,w3]
  exact ih fuel (i+1) (upd f 5 (.int .i64 (.ofNat (i+1)))) _ (by omega) (by omega) {
   f0:=by simp -implicitDefEqProofs only[go_sem,reduceCtorEq,h.f0]
   f1:=by simp -implicitDefEqProofs only[go_sem,reduceCtorEq,h.f1]
   f5:=by simp -implicitDefEqProofs only[go_sem,reduceCtorEq] }
theorem Zj(n:Nat){l:List Int}{a a':Option Addr}{cx cx':Nat}{Z:aC}(hw:Wf Z)(hs:l.length<100000)(h1:Ints Z a l)(h2:Ints Z a' l):
  (env (n+1)).call 41 [.slice a l.length cx,.slice a' l.length cx'] none Z=.ret (.bool true) none Z:=by
 rw[Ak _ 41 _ _ rfl,AcH _ _ _ _ (by simp),Aj]
 unfold AdJ
 have e:(Int.ofNat l.length==Int.ofNat l.length)=true:=by simp
 simp -implicitDefEqProofs only[go_sem,Ob,Oa,Od,Oc,XN,Ul,e,AcU]
 generalize hff:upd _ 5 _=f1
 generalize hgg:upd _ 10 _=g1
 generalize hbf:bG=fuel
 obtain⟨f',g',e1⟩:=RC (env n) hw hs h1 h2 (cx:=cx) (cx':=cx') l.length fuel 0 f1 g1 (by omega) (by rw[<-hbf];show l.length<1000000000000;omega) {
  f0:=by rw[<-hff];simp -implicitDefEqProofs only[go_sem,reduceCtorEq]
  f1:=by rw[<-hff];simp -implicitDefEqProofs only[go_sem,reduceCtorEq]
  f5:=by rw[<-hff];simp -implicitDefEqProofs only[go_sem,reduceCtorEq]<;>rfl }
 rw[e1]
 simp -implicitDefEqProofs only[go_sem,XP,Un]
theorem AwI:bI nls 40=[]:=by kernel_rfl
theorem Agj(n:Nat){Q Q':Nat->Prop}{us vs:List Value}{ps:List (List Nat)}{a a':Option Addr}{cx cx':Nat}{Z:aC}(hw:Wf Z)(hs:us.length<100000)(hp:∀p∈ps,p.length<100000)(hl:vs.length=us.length)(h1:PathsL Q Z us ps)(h2:PathsL Q' Z vs ps)(k1:us≠[]->∃b,a=some ⟨b,0,none⟩/\Z.cells b=some us)(k2:vs≠[]->∃b,a'=some ⟨b,0,none⟩/\Z.cells b=some vs):
  ∀(j fuel i:Nat) (f g:Nat->Value),i+j=us.length->j<fuel->HeadEi (.slice a us.length cx) (.slice a' vs.length cx') i f->
  ∃f' g',floop [] (AcX (env (n+1)) none 40) fuel (Sl 6 27 f g []) none Z=.done (.exit 0) (Sl 6 27 f' g' []) none Z:=by
 intro j
 induction j with
 | zero=>
  intro fuel i f g hij hf h
  obtain⟨fuel,rfl⟩:∃q,fuel=q+1:=⟨fuel-1,by omega⟩
  obtain rfl:i=us.length:=by omega
  have d1:decide (Int.ofNat us.length<Int.ofNat us.length)=false:=by simp
  rw[Am,AL]
  unfold AcX
  simp -implicitDefEqProofs only[go_sem,XM,Uk,h.f0,h.f5,d1]
  exact⟨_,_,rfl⟩
 | succ j ih=>
  intro fuel i f g hij hf h
  obtain⟨fuel,rfl⟩:∃q,fuel=q+1:=⟨fuel-1,by omega⟩
  have hi:i<us.length:=by omega
  have hi':i<vs.length:=by omega
  have d1:decide (Int.ofNat i<Int.ofNat us.length)=true:=by simp;omega
  have hpl:=h1.length
  obtain⟨p,hpp⟩:∃p,ps[i]? = some p:=⟨_,List.getElem?_eq_getElem (by omega)⟩
  obtain⟨u,hu,hP⟩:=h1.get hpp
  obtain⟨v,hv',hP'⟩:=h2.get hpp
  obtain⟨b,rfl,hc⟩:=k1 (fun h=>by rw[h] at hi;simp at hi)
  obtain⟨b',rfl,hc'⟩:=k2 (fun h=>by rw[h] at hi';simp at hi')
  have hv:=Ce hw (Nat.le_refl _)
  have w3:=EY i (by omega)
  have e1:=Ael n hw (hp p (List.mem_of_getElem? hpp)) hP hP'
  rw[decide_eq_true rfl] at e1
  rw[Am,AL]
  unfold AcX
  simp -implicitDefEqProofs only[go_sem,XM,Uk,Ama,AaD,Al9,AaC,h.f0,h.f1,h.f5,d1,hi,hi',hv,hc,hc',hu,hv',e1,w3,Bool.not_true]
  exact ih fuel (i+1) (upd f 5 (.int .i64 (.ofNat (i+1)))) _ (by omega) (by omega) {
   f0:=by simp -implicitDefEqProofs only[go_sem,reduceCtorEq,h.f0]
   f1:=by simp -implicitDefEqProofs only[go_sem,reduceCtorEq,h.f1]
   f5:=by simp -implicitDefEqProofs only[go_sem,reduceCtorEq] }
theorem ArD(n:Nat){T T':TypeId}{Q Q' R R':Nat->Prop}{s t:Value}{us vs:List Value}{ps:List (List Nat)}{Z:aC}(hw:Wf Z)(hs:ps.length<100000)(hp:∀p∈ps,p.length<100000)(v1:Vecs T R Z s us)(v2:Vecs T' R' Z t vs)(h1:PathsL Q Z us ps)(h2:PathsL Q' Z vs ps):
  (env (n+2)).call 40 [s,t] none Z=.ret (.bool true) none Z:=by
 have l1:=h1.length
 have l2:=h2.length
 obtain⟨a,cx,rfl,k1⟩:=Pp v1
 obtain⟨a',cx',rfl,k2⟩:=Pp v2
 have e:(Int.ofNat us.length==Int.ofNat vs.length)=true:=by rw[l1,l2];simp
 rw[Ak _ 40 _ _ rfl,ApV _ _ _ _ (by simp),Aj]
 unfold Aod
 simp -implicitDefEqProofs only[go_sem,Al6,Aaz,Al7,AaA,Al8,AaB,e,AwI]
 generalize hff:upd _ 5 _=f1
 generalize hgg:upd _ 10 _=g1
 generalize hbf:bG=fuel
 obtain⟨f',g',e1⟩:=Agj n hw (by omega) hp (by omega) h1 h2 k1 k2 (cx:=cx) (cx':=cx') us.length fuel 0 f1 g1 (by omega) (by rw[<-hbf];show us.length<1000000000000;omega) {
  f0:=by rw[<-hff];simp -implicitDefEqProofs only[go_sem,reduceCtorEq]
  f1:=by rw[<-hff];simp -implicitDefEqProofs only[go_sem,reduceCtorEq]
  f5:=by rw[<-hff];simp -implicitDefEqProofs only[go_sem,reduceCtorEq]<;>rfl }
 rw[e1]
 simp -implicitDefEqProofs only[go_sem,Amb,AaE]
end
section
open Go Go.Eng
inductive LaidI (Z:aC):Nat->Nat->Value->D->Prop
 | leaf (lo hi:Nat) (k n:Int) (t:ByteArray) (p:Option Addr) (c:Nat):LaidI Z lo hi (.agg #[.int .i64 k,.int .i64 n,.string t,.slice p 0 c]) (.mk k n t [])
 | node (lo hi:Nat) (k n:Int) (t:ByteArray) (b c:Nat) (cs:List Value) (ds:List D) (mid:Nat->Nat) (ver:Nat) (h1:lo<=b) (h2:b<mid 0) (h3:mid ds.length<=hi) (h4:∀i,i<ds.length->mid i<=mid (i+1)) (h5:Z.heap.get b=some ⟨.cells cs TD,false,none,ver⟩) (h6:cs.length=ds.length*4) (h7:∀i d,ds[i]? = some d->LaidI Z (mid i) (mid (i+1)) (.agg ((cs.drop (i*4)).take 4).toArray) d):LaidI Z lo hi (.agg #[.int .i64 k,.int .i64 n,.string t,.slice (some ⟨b,0,none⟩) ds.length c]) (.mk k n t ds)
theorem EV{mid:Nat->Nat}{n:Nat}(h4:∀i,i<n->mid i<=mid (i+1)):∀(j i:Nat),i+j<=n->mid i<=mid (i+j)
 | 0,i,_=>Nat.le_refl _
 | j+1,i,h=>Nat.le_trans (EV h4 j i (by omega)) (h4 (i+j) (by omega))
theorem KI{R:Nat->Prop}{Z:aC}{b:Nat}{cs:List Value}(hb:Z.cells b=some cs)(hR:R b):∀(es:List D) (i:Nat),(i+es.length)*4<=cs.length->(∀j e,es[j]? = some e->aI R Z (.agg ((cs.drop ((i+j)*4)).take 4).toArray) e)->bC R Z (some ⟨b,0,none⟩) i es
 | [],_,_,_=>trivial
 | e::es,i,hl,h=>⟨⟨b,0,cs,rfl,hR,hb,by rw[List.length_cons] at hl;omega,by have:=h 0 e rfl;rwa [Nat.add_zero,<-Nat.zero_add (i*4)] at this⟩,KI hb hR es (i+1) (by rw[List.length_cons] at hl;omega) fun j e' he=>by
  have:=h (j+1) e' (by simpa using he)
  rwa [show i+(j+1)=i+1+j by omega] at this⟩
theorem LaidI.laid{Z:aC}{lo hi:Nat}{v:Value}{d:D}(h:LaidI Z lo hi v d):aI (fun b=>lo<=b/\b<hi) Z v d:=by
 induction h with
 | leaf lo hi k n t p c=>exact⟨p,c,rfl,trivial⟩
 | node lo hi k n t b c cs ds mid ver h1 h2 h3 h4 h5 h6 h7 ih=>
  have m0:=EV h4 ds.length 0 (by omega)
  rw[Nat.zero_add] at m0
  refine⟨_,c,rfl,KI (Ar h5) ⟨h1,by omega⟩ ds 0 (by omega) fun j e he=>?_⟩
  have hj:=(List.getElem?_eq_some_iff.1 he).1
  rw[Nat.zero_add]
  have a1:=EV h4 j 0 (by omega)
  have a2:=EV h4 (ds.length-(j+1)) (j+1) (by omega)
  rw[show j+1+(ds.length-(j+1))=ds.length by omega] at a2
  rw[Nat.zero_add] at a1
  exact(ih j e he).keep fun c cs hc hcs=>⟨hcs,by omega,by omega⟩
theorem LaidI.keep{Z V:aC}{lo hi:Nat}{v:Value}{d:D}(h:LaidI Z lo hi v d):(∀b e,lo<=b->b<hi->Z.heap.get b=some e->V.heap.get b=some e)->LaidI V lo hi v d:=by
 induction h with
 | leaf lo hi k n t p c=>exact fun _=>.leaf lo hi k n t p c
 | node lo hi k n t b c cs ds mid ver h1 h2 h3 h4 h5 h6 h7 ih=>
  intro hk
  have m0:=EV h4 ds.length 0 (by omega)
  rw[Nat.zero_add] at m0
  refine .node lo hi k n t b c cs ds mid ver h1 h2 h3 h4 (hk b _ h1 (by omega) h5) h6 fun i d hd=>ih i d hd fun x xs hx hx' hc=>?_
  have hi':=(List.getElem?_eq_some_iff.1 hd).1
  have a1:=EV h4 i 0 (by omega)
  have a2:=EV h4 (ds.length-(i+1)) (i+1) (by omega)
  rw[show i+1+(ds.length-(i+1))=ds.length by omega] at a2
  rw[Nat.zero_add] at a1
  exact hk x xs (by omega) (by omega) hc
theorem LaidI.wide{Z:aC}{lo hi lo' hi':Nat}{v:Value}{d:D}(h:LaidI Z lo hi v d)(hl:lo'<=lo)(hh:hi<=hi'):LaidI Z lo' hi' v d:=by
 cases h with
 | leaf _ _ k n t p c=>exact .leaf lo' hi' k n t p c
 | node _ _ k n t b c cs ds mid ver h1 h2 h3 h4 h5 h6 h7=>exact .node lo' hi' k n t b c cs ds mid ver (by omega) h2 (by omega) h4 h5 h6 h7
inductive SpotAt (Z:aC):List Nat->Nat->Nat->Nat->Nat->Prop
 | nil (b off:Nat):SpotAt Z [] b off b off
 | cons (i:Nat) (p:List Nat) (b off bb o l c b' off':Nat) (cs:List Value) (h1:Z.cells b=some cs) (h2:cs[off+3]? = some (.slice (some ⟨bb,o,none⟩) l c)) (h3:SpotAt Z p bb (o+i*4) b' off'):SpotAt Z (i::p) b off b' off'
theorem Vr(cs l4:List Value)(off j:Nat)(hl:l4.length=4)(ho:off+4<=cs.length)(h:j+4<=off\/off+4<=j):((cs.take off++l4++cs.drop (off+4)).drop j).take 4=(cs.drop j).take 4:=by
 apply List.ext_getElem?
 intro i
 rw[List.getElem?_take,List.getElem?_take]
 split
 .rw[List.getElem?_drop,List.getElem?_drop]
  rcases h with h|h
  .rw[List.append_assoc,List.getElem?_append_left (by rw[List.length_take];omega),List.getElem?_take,if_pos (by omega)]
  .rw[List.getElem?_append_right (by rw[List.length_append,List.length_take];omega),List.getElem?_drop,List.length_append,List.length_take,hl]
   congr 1
   omega
 .rfl
theorem YW(cs l4:List Value)(off:Nat)(hl:l4.length=4)(ho:off+4<=cs.length):((cs.take off++l4++cs.drop (off+4)).drop off).take 4=l4:=by
 rw[List.append_assoc,List.drop_append_of_le_length (by rw[List.length_take];omega),List.drop_eq_nil_of_le (by rw[List.length_take];omega),List.nil_append,List.take_append_of_le_length (by omega),List.take_of_length_le (by omega)]
theorem Pi(Z V:aC)(x:D)(l4:List Value)(X:Nat->Prop)(hl4:l4.length=4)(hX:aI X V (.agg l4.toArray) x)(b' off':Nat):∀(p:List Nat) (d w:D) (lo hi b off ver:Nat) (cs:List Value),Z.heap.get b=some ⟨.cells cs TD,false,none,ver⟩->off+4<=cs.length->(b<lo\/hi<=b)->LaidI Z lo hi (.agg ((cs.drop off).take 4).toArray) d->atP p d=some w->SpotAt Z p b off b' off'->
  ∃cs' ver',Z.heap.get b'=some ⟨.cells cs' TD,false,none,ver'⟩/\off'+4<=cs'.length/\((b'=b/\off'=off/\p=[])\/(lo<=b'/\b'<hi))/\
   (V.cells b'=some (cs'.take off'++l4++cs'.drop (off'+4))->(∀c e,c≠b'->((lo<=c/\c<hi)\/c=b)->Z.heap.get c=some e->V.heap.get c=some e)->
    ∃csb,V.cells b=some csb/\csb.length=cs.length/\(∀j,(j+4<=off\/off+4<=j)->(csb.drop j).take 4=(cs.drop j).take 4)/\aI (fun c=>(lo<=c/\c<hi)\/X c) V (.agg ((csb.drop off).take 4).toArray) (putP p x d))
 | [],d,w,lo,hi,b,off,ver,cs,hc,hle,hblo,hI,hat,hS=>by
  cases hS
  refine⟨cs,ver,hc,hle,.inl ⟨rfl,rfl,rfl⟩,fun h1 _=>⟨_,h1,by simp only[List.length_append,List.length_take,List.length_drop,hl4];omega,fun j hj=>Vr cs l4 off' j hl4 hle hj,?_⟩⟩
  rw[YW cs l4 off' hl4 hle,putP]
  exact hX.keep fun c cc h hcc=>⟨hcc,.inr h⟩
 | i::p,.mk k z t ds,w,lo,hi,b,off,ver,cs,hc,hle,hblo,hI,hat,hS=>by
  rw[atP] at hat
  simp only[D.parts] at hat
  cases hd:ds[i]? with
  | none=>rw[hd] at hat;cases hat
  | some d'=>
   rw[hd] at hat
   simp only at hat
   have hil:=(List.getElem?_eq_some_iff.1 hd).1
   generalize hv:Value.agg ((cs.drop off).take 4).toArray=v at hI
   cases hI with
   | leaf=>simp at hil
   | node _ _ _ _ _ bb c csb _ mid ver2 h1 h2 h3 h4 h5 h6 h7=>
    have hv':(cs.drop off).take 4=[.int .i64 k,.int .i64 z,.string t,.slice (some ⟨bb,0,none⟩) ds.length c]:=by
     have:=Value.agg.inj hv
     simpa using congrArg Array.toList this
    have hf3:=Nb hv'
    cases hS with
    | cons _ _ _ _ bb2 o l2 c2 _ _ cs2 g1 g2 g3=>
     rw[Ar hc] at g1
     obtain rfl:=Option.some.inj g1
     rw[hf3] at g2
     injection g2 with g2
     injection g2 with ga gb gc
     injection ga with ga
     injection ga with gd ge
     subst gd
     subst ge
     rw[Nat.zero_add] at g3
     have a1:=EV h4 i 0 (by omega)
     have a2:=EV h4 (ds.length-(i+1)) (i+1) (by omega)
     rw[show i+1+(ds.length-(i+1))=ds.length by omega] at a2
     rw[Nat.zero_add] at a1
     have a3:=h4 i hil
     obtain⟨cs',ver',e1,e2,e3,e4⟩:=Pi Z V x l4 X hl4 hX b' off' p d' w (mid i) (mid (i+1)) bb (i*4) ver2 csb h5 (by omega) (by omega) (h7 i d' hd) hat g3
     have hin:lo<=b'/\b'<hi:=by rcases e3 with h|h<;>omega
     refine⟨cs',ver',e1,e2,.inr hin,fun k1 k2=>?_⟩
     obtain⟨csb',m1,m2,m3,m4⟩:=e4 k1 fun c cc hne hcc hcs=>k2 c cc hne (.inl (by rcases hcc with h|h<;>omega)) hcs
     refine⟨cs,Ar (k2 b _ (by omega) (.inr rfl) hc),rfl,fun j hj=>rfl,?_⟩
     rw[hv',putP,hd]
     simp only
     refine⟨some ⟨bb,0,none⟩,c,by rw[List.length_set],KI m1 (.inl ⟨h1,by omega⟩) _ 0 (by rw[List.length_set];omega) fun j e he=>?_⟩
     rw[Nat.zero_add]
     by_cases hij:i=j
     .subst hij
      rw[List.getElem?_set_self hil] at he
      cases he
      exact m4.keep fun c cc hcc hcs=>⟨hcs,by
       rcases hcc with hcc|hcc
       .exact .inl ⟨by omega,by omega⟩
       .exact .inr hcc⟩
     .rw[List.getElem?_set_ne hij] at he
      have hj:=(List.getElem?_eq_some_iff.1 he).1
      have b1:=EV h4 j 0 (by omega)
      have b2:=EV h4 (ds.length-(j+1)) (j+1) (by omega)
      rw[show j+1+(ds.length-(j+1))=ds.length by omega] at b2
      rw[Nat.zero_add] at b1
      rw[m3 (j*4) (by omega)]
      have hdis:∀c,mid j<=c->c<mid (j+1)->c≠b':=fun c hc1 hc2 hcb=>by
       subst hcb
       rcases e3 with h|h
       .omega
       .rcases Nat.lt_or_gt_of_ne hij with hlt|hgt
        .have:=EV h4 (j-(i+1)) (i+1) (by omega)
         rw[show i+1+(j-(i+1))=j by omega] at this
         omega
        .have:=EV h4 (i-(j+1)) (j+1) (by omega)
         rw[show j+1+(i-(j+1))=i by omega] at this
         omega
      exact((h7 j e he).keep fun c cc hc1 hc2 hcs=>k2 c cc (hdis c hc1 hc2) (.inl (by omega)) hcs).laid.keep fun c cc hcc hcs=>⟨hcs,.inl ⟨by omega,by omega⟩⟩
end
section
open Go Go.Eng
attribute [local congr] Ab Ah Af Ad Ae
attribute [-go_sem] List.range_succ
def CopyI(m:Nat)(d:D):Prop:=∀(lv:List Value) (R:Nat->Prop) (Z:aC),Wf Z->aI R Z (.agg lv.toArray) d->Gives ((env m).call 88 [.agg lv.toArray] none Z) Z fun w V=>LaidI V Z.next V.next w d
structure HeadEi' (bo base:Nat) (R:Nat->Prop) (q:Option Addr) (c:Nat) (ds:List D) (bT:aC) (i:Nat) (f g:Nat->Value) (Z:aC):Prop where
 f0:f 0=.slice q ds.length c
 f1:f 1=.func (.func 88) #[] #[]
 f5:f 5=.slice (some ⟨bo,0,none⟩) ds.length ds.length
 g14:g 14=.int .i64 (.ofNat ds.length)
 g15:g 15=.int .i64 (.ofNat i)
 cs:∃(done rest:List Value) (ver:Nat) (mid:Nat->Nat),Z.heap.get bo=some ⟨.cells (done++rest) TD,false,none,ver⟩/\done.length=i*4/\rest.length=(ds.length-i)*4/\bo<mid 0/\mid i<=Z.next/\(∀j,j<i->mid j<=mid (j+1))/\∀j e,j<i->ds[j]? = some e->LaidI Z (mid j) (mid (j+1)) (.agg ((done.drop (j*4)).take 4).toArray) e
 hbo:base<=bo
 lay:bC R Z q 0 ds
 low:∀b,R b->b<base
 wf:Wf Z
 ext:Ext bT Z
 le:i<=ds.length
theorem Zh(m:Nat){bo base:Nat}{R:Nat->Prop}{q:Option Addr}{c:Nat}{ds:List D}{bT:aC}(hC:∀d∈ds,CopyI m d)(hb0:bT.next=base)(hfew:ds.length<1000000):
  ∀(j fuel i:Nat) (f g:Nat->Value) (Z:aC),i+j=ds.length->j<fuel->HeadEi' bo base R q c ds bT i f g Z->
  ∃f' g' V,floop [14,15,28] (Jc (env m) none 122) fuel (Sl 7 29 f g []) none Z=.done (.exit 0) (Sl 7 29 f' g' []) none V/\HeadEi' bo base R q c ds bT ds.length f' g' V:=by
 intro j
 induction j with
 | zero=>
  intro fuel i f g Z hij hf h
  obtain⟨fuel,rfl⟩:∃q,fuel=q+1:=⟨fuel-1,by omega⟩
  obtain rfl:i=ds.length:=by omega
  have d1:decide (Int.ofNat ds.length<Int.ofNat ds.length)=false:=by simp
  rw[Am,AL]
  unfold Jc
  simp -implicitDefEqProofs only[go_sem,Iq,Ip,h.g14,h.g15,d1,List.mem_cons]
  refine⟨_,_,_,rfl,{ h with g14:=?_,g15:=?_ }⟩
  .simp -implicitDefEqProofs only[go_sem,reduceCtorEq,h.g14,List.mem_cons,true_or,or_true]
  .simp -implicitDefEqProofs only[go_sem,reduceCtorEq,h.g15,List.mem_cons,true_or,or_true]
 | succ j ih=>
  intro fuel i f g Z hij hf h
  obtain⟨fuel,rfl⟩:∃q,fuel=q+1:=⟨fuel-1,by omega⟩
  have hi:i<ds.length:=by omega
  have d1:decide (Int.ofNat i<Int.ofNat ds.length)=true:=by simp;omega
  have hd:ds[i]? = some ds[i]:=List.getElem?_eq_getElem hi
  obtain⟨b,off,cs,rfl,hRb,hcs,hle,hL⟩:=bC.get h.lay hd
  rw[Nat.zero_add] at hle hL
  obtain⟨done,rest,ver,mid,hg,hdl,hrl,hm0,hmi,hmm,hmL⟩:=h.cs
  obtain⟨w,a_,e1,x1,hw1,hL1⟩:=hC _ (List.getElem_mem hi) ((cs.drop (off+i*4)).take 4) R Z h.wf hL
  obtain⟨l4,rfl,hl4,hone⟩:=hL1.laid.agg
  have hbn:=(h.wf _ _ hg).1
  have hg1:=(x1.get bo hbn).trans hg
  have w1:=EY i (by omega)
  have hr4:4<=rest.length:=by rw[hrl];omega
  have e4:((done++rest).take (i*4)++l4++(done++rest).drop (i*4+4))=(done++l4)++rest.drop 4:=by
   rw[<-hdl,List.take_left',List.drop_append]
   .simp[List.drop_eq_nil_of_le]
   .rfl
  have hlen:i*4+4<=(done++rest).length:=by rw[List.length_append,hdl];omega
  rw[Am,AL]
  unfold Jc
  simp -implicitDefEqProofs only[go_sem,Av,Iq,Ip,Qy,L_,Qz,Ma,QA,Mb,h.f0,h.f1,h.f5,h.g14,h.g15,d1,hi,hcs,hle,e1,hg1,hl4,hone,hlen,e4,w1,List.mem_cons]
  generalize hff:upd _ 6 _=f1
  generalize hgg:upd _ 15 _=g1
  have n1:=x1.next
  have hbase:base<=Z.next:=by have:=h.ext.next;omega
  have hbo:=h.hbo
  have kc:∀(o:FObj) b cs,a_.cells b=some cs->b≠bo->(a_.put bo o none).cells b=some cs:=fun o b cs hc hb=>by rw[Al,if_neg hb];exact hc
  exact ih fuel (i+1) f1 g1 _ (by omega) (by omega) {
   f0:=by rw[<-hff];simp -implicitDefEqProofs only[go_sem,reduceCtorEq,h.f0]
   f1:=by rw[<-hff];simp -implicitDefEqProofs only[go_sem,reduceCtorEq,h.f1]
   f5:=by rw[<-hff];simp -implicitDefEqProofs only[go_sem,reduceCtorEq,h.f5]
   g14:=by rw[<-hgg];simp -implicitDefEqProofs only[go_sem,reduceCtorEq,h.g14,List.mem_cons,true_or,or_true]
   g15:=by rw[<-hgg];simp -implicitDefEqProofs only[go_sem,reduceCtorEq]
   cs:=⟨done++l4,rest.drop 4,_,fun j=>if j<=i then mid j else a_.next,by rw[Ao,if_pos rfl],by rw[List.length_append];omega,by rw[List.length_drop,hrl];omega,by simp only[Nat.zero_le,if_true];exact hm0,by rw[Aq];dsimp only;rw[if_neg (by omega)];exact Nat.le_refl _,fun j hj=>by
    dsimp only
    by_cases hji:j<i
    .rw[if_pos (by omega),if_pos (by omega)];exact hmm j hji
    .rw[if_pos (by omega),if_neg (by omega),show j=i by omega];omega,fun j e hj he=>by
    dsimp only
    have hbm:=EV (n:=i) hmm
    by_cases hji:j<i
    .rw[if_pos (by omega),if_pos (by omega),List.drop_append_of_le_length (by omega),List.take_append_of_le_length (by rw[List.length_drop];omega)]
     have b1:=hbm j 0 (by omega)
     have b2:=hbm (i-(j+1)) (j+1) (by omega)
     rw[Nat.zero_add] at b1
     rw[show j+1+(i-(j+1))=i by omega] at b2
     exact(hmL j e hji he).keep fun c cc hc1 hc2 hcs=>by rw[Ao,if_neg (by omega),x1.get c (by omega)];exact hcs
    .obtain rfl:j=i:=by omega
     rw[hd] at he
     cases he
     have b1:=hbm j 0 (by omega)
     rw[Nat.zero_add] at b1
     rw[if_pos (Nat.le_refl _),if_neg (by omega),<-hdl,List.drop_left,List.take_of_length_le (by omega)]
     exact(hL1.keep fun c cc hc1 hc2 hcs=>by rw[Ao,if_neg (by omega)];exact hcs).wide hmi (Nat.le_refl _)⟩
   hbo:=h.hbo
   lay:=h.lay.keep fun b cs hb hc=>⟨kc _ b cs ((x1.cells (h.wf.cells hc)).trans hc) (by have:=h.low b hb;omega),hb⟩
   low:=h.low
   wf:=hw1.put _ _ _ (by omega)
   ext:=(h.ext.trans x1).put _ _ _ (by omega)
   le:=hi }
theorem Zi(m:Nat)(ds:List D)(hC:∀d∈ds,CopyI m d)(hfew:ds.length<1000000)(q:Option Addr)(c:Nat)(R:Nat->Prop)(Z:aC)(hw:Wf Z)(hE:bC R Z q 0 ds):
  Gives ((env (m+1)).call 122 [.slice q ds.length c,.func (.func 88) #[] #[]] none Z) Z fun w V=>∃q' c',w=.slice q' ds.length c'/\∀(k n:Int) (t:ByteArray),LaidI V Z.next V.next (.agg #[.int .i64 k,.int .i64 n,.string t,.slice q' ds.length c']) (.mk k n t ds):=by
 rw[Ak _ 122 _ _ rfl,VQ _ _ _ _ (by simp),Aj]
 unfold Vg
 cases hz:(Int.ofNat ds.length==(0:Int)) with
 | true=>
  have h0:ds=[]:=by
   have:=Int.ofNat.inj (eq_of_beq hz)
   exact List.length_eq_zero_iff.1 this
  subst h0
  simp -implicitDefEqProofs only[go_sem,Il,Ik,Io,Im,Qv,LZ,hz]
  exact⟨_,_,rfl,Ext.refl _,hw,none,0,rfl,fun k n t=>.leaf _ _ k n t none 0⟩
 | false=>
  have hmk:=fun Z=>JL 24 56 [.int .i64 0,.int .i64 0,.string ⟨#[]⟩,.slice none 0 0] ds.length Z (by omega)
  simp -implicitDefEqProofs only[go_sem,Il,Ik,Io,Im,Qw,L7,Qx,L9,hz,hmk,WH]
  generalize hff:upd _ 5 _=f1
  generalize hgg:upd _ 15 _=g1
  generalize hbf:bG=fuel
  obtain⟨f2,g2,a9,e2,h2⟩:=Zh m (bo:=Z.next) (base:=Z.next) (R:=fun b=>R b/\b<Z.next) (q:=q) (c:=c) (bT:=Z) hC rfl hfew ds.length fuel 0 f1 g1 (Z.push (.cells (reps ds.length [.int .i64 0,.int .i64 0,.string ⟨#[]⟩,.slice none 0 0]) TD) none) (by omega) (by rw[<-hbf];show ds.length<1000000000000;omega) {
   f0:=by rw[<-hff];simp -implicitDefEqProofs only[go_sem,reduceCtorEq]
   f1:=by rw[<-hff];simp -implicitDefEqProofs only[go_sem,reduceCtorEq]
   f5:=by rw[<-hff];simp -implicitDefEqProofs only[go_sem,reduceCtorEq]
   g14:=by rw[<-hgg];simp -implicitDefEqProofs only[go_sem,reduceCtorEq]
   g15:=by rw[<-hgg];simp -implicitDefEqProofs only[go_sem,reduceCtorEq]<;>rfl
   cs:=⟨[],reps ds.length [.int .i64 0,.int .i64 0,.string ⟨#[]⟩,.slice none 0 0],Z.clock,fun _=>Z.next+1,by rw[Ai,if_pos rfl];rfl,rfl,by rw[Fm];rfl,Nat.lt_succ_self _,Nat.le_refl _,fun j hj=>by omega,fun j e hj he=>by omega⟩
   hbo:=Nat.le_refl _
   lay:=hE.keep fun b cs hb hc=>⟨by rw[Ac,if_neg (by have:=hw.cells hc;omega)];exact hc,hb,hw.cells hc⟩
   low:=fun b hb=>hb.2
   wf:=hw.push _ _
   ext:=(Ext.refl _).push _ _
   le:=Nat.zero_le _ }
  rw[e2]
  simp -implicitDefEqProofs only[go_sem,QB,Mc,h2.f5]
  obtain⟨done,rest,ver,mid,hg,hdl,hrl,hm0,hmi,hmm,hmL⟩:=h2.cs
  have hrest:rest=[]:=List.length_eq_zero_iff.1 (by rw[hrl];omega)
  subst hrest
  rw[List.append_nil] at hg
  exact⟨_,_,rfl,h2.ext,h2.wf,_,_,rfl,fun k n t=>.node _ _ k n t Z.next _ done ds mid ver (Nat.le_refl _) hm0 hmi hmm hg hdl fun i e he=>hmL i e (List.getElem?_eq_some_iff.1 he).1 he⟩
theorem Zg(m:Nat)(k z:Int)(t:ByteArray)(ds:List D)(hC:∀d∈ds,CopyI m d)(hfew:ds.length<1000000):CopyI (m+2) (.mk k z t ds):=by
 intro lv R Z hw hL
 obtain⟨q,c,hv,hE⟩:=hL
 have hlv:lv=[.int .i64 k,.int .i64 z,.string t,.slice q ds.length c]:=by
  have:=Value.agg.inj hv
  simpa using congrArg Array.toList this
 subst hlv
 rw[Ak _ 88 _ _ rfl,AcL _ _ _ _ (by simp),Aj]
 unfold AdN
 have x1:Ext Z ((Z.push (.cells [.int .i64 k,.int .i64 z,.string t,.slice q ds.length c] TD) none).push (.cells [.int .i64 0,.int .i64 0,.string ⟨#[]⟩,.slice none 0 0] TD) none):=((Ext.refl _).push _ _).push _ _
 have hw1:=(hw.push (.cells [.int .i64 k,.int .i64 z,.string t,.slice q ds.length c] TD) none).push (.cells [.int .i64 0,.int .i64 0,.string ⟨#[]⟩,.slice none 0 0] TD) none
 have c1:((Z.push (.cells [.int .i64 k,.int .i64 z,.string t,.slice q ds.length c] TD) none).push (.cells [.int .i64 0,.int .i64 0,.string ⟨#[]⟩,.slice none 0 0] TD) none).cells Z.next=some [.int .i64 k,.int .i64 z,.string t,.slice q ds.length c]:=by rw[Ac,if_neg (by rw[Aa];omega),Ac,if_pos rfl];rfl
 have g2:((Z.push (.cells [.int .i64 k,.int .i64 z,.string t,.slice q ds.length c] TD) none).push (.cells [.int .i64 0,.int .i64 0,.string ⟨#[]⟩,.slice none 0 0] TD) none).heap.get (Z.next+1)=some ⟨.cells [.int .i64 0,.int .i64 0,.string ⟨#[]⟩,.slice none 0 0] TD,false,none,Z.clock+1⟩:=by rw[Ai,if_pos (by rw[Aa])];rfl
 have kc:((Z.push (.cells [.int .i64 k,.int .i64 z,.string t,.slice q ds.length c] TD) none).push (.cells [.int .i64 0,.int .i64 0,.string ⟨#[]⟩,.slice none 0 0] TD) none).clock=Z.clock+2:=rfl
 have kn:((Z.push (.cells [.int .i64 k,.int .i64 z,.string t,.slice q ds.length c] TD) none).push (.cells [.int .i64 0,.int .i64 0,.string ⟨#[]⟩,.slice none 0 0] TD) none).next=Z.next+2:=rfl
 simp -implicitDefEqProofs only[go_sem,Yo,UQ]
 generalize aC.push (aC.push Z _ _) _ _=a_ at x1 hw1 c1 g2 kc kn ⊢
 have hv1:=Ce hw1 (lam:=Z.clock+2) (by omega)
 obtain⟨_,a9,e2,x2,hw2,q',c',rfl,hI⟩:=Zi m ds hC hfew q c R a_ hw1 (hE.keep fun b cs hb hc=>⟨(x1.cells (hw.cells hc)).trans hc,hb⟩)
 have c2:(view a9 (Z.clock+2)).cells Z.next=some [.int .i64 k,.int .i64 z,.string t,.slice q ds.length c]:=Eo hw1 (by omega) (x2.get _ (hw1.cells c1)) c1
 have g2':=(x2.get _ (hw1 _ _ g2).1).trans g2
 simp -implicitDefEqProofs only[go_sem,Av,Yp,UR,hv1,c1,e2,c2,g2',AP,AA,Ay,AO,Bm]
 have n2:=x2.next
 exact⟨_,_,rfl,(x1.trans x2).put _ _ _ (by omega),hw2.put _ _ _ (by omega),((hI k z t).keep fun b cs hb1 hb2 hc=>by rw[Ao,if_neg (by omega)];exact hc).wide (by omega) (Nat.le_refl _)⟩
theorem MW(n:Nat):∀(N:Nat) (d:D),D.deep d<=N->d.count<1000000->CopyI (n+2*N) d
 | 0,d,h,_=>by cases d;rw[D.deep] at h;omega
 | N+1,.mk k z t ds,h,hc=>by
  rw[D.deep] at h
  rw[D.count] at hc
  have:=D3 ds
  exact Zg (n+2*N) k z t ds (fun d hd=>MW n N d (by have:=Ek hd;omega) (by have:=Ev hd;omega)) (by omega)
end
section
open Go Go.Eng
variable (E:Env) (ro:Option Nat) (last:List Nat->aZ) (cl:List Nat) (a:aV) (u:Option FrameMode) (Z:aC)
def Ub(_:Unit):List COp:=[⟨fun a Z=>fbox 24 (a.get 0) Z,some 3,tT⟩,
 ⟨fun a Z=>fbox 25 (a.get 1) Z,some 4,tT⟩,
 ⟨fun a Z=>fbox 24 (a.get 2) Z,some 5,tT⟩,
 ⟨fun a Z=>aM [(.int .i64 0),(.int .i64 0),(.string ⟨#[]⟩),(.slice none 0 0)] 24 none Z,some 6,tT⟩,
 ⟨fun a Z=>.val (.int .i64 0) Z,some 7,tT⟩]
def AsP:List COp:=Ub ()
def Uc(_:Unit):List COp:=[⟨fun a Z=>.val (.func (.func 95) #[] #[(a.get 3),(a.get 5),(a.get 4)]) Z,some 8,tT⟩,
 ⟨fun a Z=>.enter 82 [(a.get 8)] Z,some 9,tT⟩,
 ⟨fun a Z=>aO 0 (a.get 9) Z,some 10,tT⟩,
 ⟨fun a Z=>aO 1 (a.get 9) Z,some 11,tT⟩,
 ⟨fun a Z=>aK 4 (a.get 6) (a.get 10) Z,none,tT⟩,
 ⟨fun a Z=>.val (a.get 11) Z,some 7,tT⟩]
def AsQ:List COp:=Uc ()
def An9(E:Env)(ro:Option Nat)(fn:FuncId):aZ:=(aF (aD E ro AsP) (aF (aD E ro AsQ) bM))
theorem XD:aD E ro AsP a u Z=aD E ro (Ub ()) a u Z:=rfl
theorem XE:aD E ro AsQ a u Z=aD E ro (Uc ()) a u Z:=rfl
theorem Av2(E:Env)(ro:Option Nat)(fn:FuncId):code Tryz.prog nls (Tryz.f36.body.getD .skip) E ro fn=An9 E ro fn:=by kernel_rfl
theorem ApR(E:Env)(args:List Value)(u:Option FrameMode)(Z:aC)(hn:args.length<=(6:Nat)):bA Tryz.prog nls E 36 args u Z=aN Tryz.prog E [.cell 6 24,.tmp 7] (An9 E none 36 ⟨aX undef 6 args,fun _=>undef,6,12,[]⟩ u Z):=by
 rw[Ap (body:=Tryz.f36.body.getD .skip) Tryz.func36 rfl E args u Z 6 12 (by kernel_rfl) rfl ⟨hn,by decide⟩,Av2]
 rfl
def K6(_:Unit):List COp:=[⟨fun a Z=>aM [(.int .i64 0),(.int .i64 0),(.string ⟨#[]⟩),(.slice none 0 0)] 24 none Z,some 3,tT⟩]
def Au7:List COp:=K6 ()
def K7(_:Unit):List COp:=[⟨fun a Z=>aG (some 4) (a.get 0) Z,some 9,tT⟩,
 ⟨fun a Z=>.enter 64 [(a.get 9)] Z,some 10,tT⟩,
 ⟨fun a Z=>.val (a.get 10) Z,some 4,tT⟩]
def Au8:List COp:=K7 ()
def OW(_:Unit):List COp:=[⟨fun a Z=>aG (some 4) (a.get 1) Z,some 11,tT⟩,
 ⟨fun a Z=>.enter 64 [(a.get 11)] Z,some 12,tT⟩,
 ⟨fun a Z=>.val (a.get 12) Z,some 5,tT⟩]
def Au9:List COp:=OW ()
def U3(_:Unit):List COp:=[⟨fun a Z=>aG none (a.get 2) Z,some 13,tT⟩,
 ⟨fun a Z=>.enter 94 [(a.get 0),(a.get 13)] Z,some 14,tT⟩,
 ⟨fun a Z=>bJ (a.get 14) Z,some 15,tT⟩,
 ⟨fun a Z=>aG (some 4) (a.get 15) Z,some 16,tT⟩,
 ⟨fun a Z=>.enter 64 [(a.get 16)] Z,some 17,tT⟩,
 ⟨fun a Z=>.val (a.get 17) Z,some 6,tT⟩]
def Ava:List COp:=U3 ()
def AbG(_:Unit):List COp:=[⟨fun a Z=>.val (a.get 4) Z,some 18,tT⟩,
 ⟨fun a Z=>.val (a.get 6) Z,some 19,tT⟩,
 ⟨fun a Z=>i_sub Tryz.prog 3 (.tmp 18) (.tmp 19) (a.get 18) (a.get 19) Z,some 20,tT⟩,
 ⟨fun a Z=>.val (a.get 5) Z,some 21,tT⟩,
 ⟨fun a Z=>i_add Tryz.prog 3 (.tmp 20) (.tmp 21) (a.get 20) (a.get 21) Z,some 22,tT⟩,
 ⟨fun a Z=>.enter 84 [(a.get 22)] Z,some 23,tT⟩]
def Avb:List COp:=AbG ()
def AbH(_:Unit):List COp:=[⟨fun a Z=>aG (some 4) (a.get 0) Z,some 24,tT⟩,
 ⟨fun a Z=>.enter 88 [(a.get 24)] Z,some 25,tT⟩,
 ⟨fun a Z=>aM [(.int .i64 0),(.int .i64 0),(.string ⟨#[]⟩),(.slice none 0 0)] 24 none Z,some 7,tT⟩,
 ⟨fun a Z=>aK 4 (a.get 7) (a.get 25) Z,none,tT⟩]
def Avc:List COp:=AbH ()
def AbI(_:Unit):List COp:=[⟨fun a Z=>aG none (a.get 2) Z,some 26,tT⟩,
 ⟨fun a Z=>.enter 94 [(a.get 7),(a.get 26)] Z,some 27,tT⟩,
 ⟨fun a Z=>.val (a.get 27) Z,some 8,tT⟩]
def Avd:List COp:=AbI ()
def AbJ(_:Unit):List COp:=[⟨fun a Z=>.val (a.get 8) Z,some 28,tT⟩,
 ⟨fun a Z=>aG (some 4) (a.get 1) Z,some 29,tT⟩,
 ⟨fun a Z=>.enter 88 [(a.get 29)] Z,some 30,tT⟩,
 ⟨fun a Z=>bJ (a.get 28) Z,some 31,tT⟩,
 ⟨fun a Z=>aK 4 (a.get 31) (a.get 30) Z,none,tT⟩]
def Ave:List COp:=AbJ ()
def AbK(_:Unit):List COp:=[⟨fun a Z=>aG (some 4) (a.get 7) Z,some 32,tT⟩,
 ⟨fun a Z=>aK 4 (a.get 3) (a.get 32) Z,none,tT⟩]
def Avf:List COp:=AbK ()
def Aou(E:Env)(ro:Option Nat)(fn:FuncId):aZ:=(aF (aD E ro Au7) (aF (aD E ro Au8) (aF (aD E ro Au9) (aF (aD E ro Ava) (aF (aD E ro Avb) (aF (aD E ro Avc) (aF (aD E ro Avd) (aF (aD E ro Ave) (aF (aD E ro Avf) bM)))))))))
theorem Kj:aD E ro Au7 a u Z=aD E ro (K6 ()) a u Z:=rfl
theorem Kk:aD E ro Au8 a u Z=aD E ro (K7 ()) a u Z:=rfl
theorem OX:aD E ro Au9 a u Z=aD E ro (OW ()) a u Z:=rfl
theorem YB:aD E ro Ava a u Z=aD E ro (U3 ()) a u Z:=rfl
theorem AnA:aD E ro Avb a u Z=aD E ro (AbG ()) a u Z:=rfl
theorem AnB:aD E ro Avc a u Z=aD E ro (AbH ()) a u Z:=rfl
theorem AnC:aD E ro Avd a u Z=aD E ro (AbI ()) a u Z:=rfl
theorem AnD:aD E ro Ave a u Z=aD E ro (AbJ ()) a u Z:=rfl
theorem AnE:aD E ro Avf a u Z=aD E ro (AbK ()) a u Z:=rfl
theorem Awv(E:Env)(ro:Option Nat)(fn:FuncId):code Tryz.prog nls (Tryz.f95.body.getD .skip) E ro fn=Aou E ro fn:=by kernel_rfl
theorem Aqc(E:Env)(args:List Value)(u:Option FrameMode)(Z:aC)(hn:args.length<=(9:Nat)):bA Tryz.prog nls E 95 args u Z=aN Tryz.prog E [.cell 3 24] (Aou E none 95 ⟨aX undef 9 args,fun _=>undef,9,33,[]⟩ u Z):=by
 rw[Ap (body:=Tryz.f95.body.getD .skip) Tryz.func95 rfl E args u Z 9 33 (by kernel_rfl) rfl ⟨hn,by decide⟩,Awv]
 rfl
end
section
open Go Go.Eng
attribute [local congr] Ab Ah Af Ad Ae
attribute [-go_sem] List.range_succ
theorem Xa(E:Env){a:Option Addr}{cx:Nat}{path:List Nat}{R:Nat->Prop}{Z:aC}(hs:path.length<100000)(x:D)(bF oF:Nat)(hp:path≠[]->∃b rest,a=some ⟨b,0,none⟩/\Z.cells b=some (intsOf path++rest)):
  ∀(j fuel i:Nat) (f g:Nat->Value) (d:D) (b off:Nat) (cs:List Value),i+j=path.length->j<fuel->atP (path.drop i) d=some x->d.count<100000->Z.cells b=some cs->4<=cs.length-off->aI R Z (.agg ((cs.drop off).take 4).toArray) d->HeadPl a path.length cx i b off f g->SpotAt Z (path.drop i) b off bF oF->
  ∃f' g',floop [7,8,9,32] (Gw E none 94) fuel (Sl 7 33 f g []) none Z=.done (.exit 0) (Sl 7 33 f' g' []) none Z/\f' 0=.pointer (some ⟨bF,oF,none⟩):=by
 intro j
 induction j with
 | zero=>
  intro fuel i f g d b off cs hij hf hx _ hc hle hL h hS
  obtain⟨fuel,rfl⟩:∃q,fuel=q+1:=⟨fuel-1,by omega⟩
  obtain rfl:i=path.length:=by omega
  rw[List.drop_length,atP] at hx
  obtain rfl:=Option.some.inj hx
  have d1:decide (Int.ofNat path.length<Int.ofNat path.length)=false:=by simp
  rw[Am,AL]
  unfold Gw
  simp -implicitDefEqProofs only[go_sem,Fl,Gs,h.g8,h.g9,d1,List.mem_cons]
  rw[List.drop_length] at hS
  cases hS
  exact⟨_,_,rfl,h.f0⟩
 | succ j ih=>
  intro fuel i f g d b off cs hij hf hx hN hc hle hL h hS
  obtain⟨fuel,rfl⟩:∃q,fuel=q+1:=⟨fuel-1,by omega⟩
  have hi:i<path.length:=by omega
  have d1:decide (Int.ofNat i<Int.ofNat path.length)=true:=by simp;omega
  obtain⟨bp,rest,rfl,hcp⟩:=hp (fun h=>by rw[h] at hi;simp at hi)
  have g1:=FY rest hi
  have w3:=EY i (by omega)
  have hdr:path.drop i=path[i]::path.drop (i+1):=List.drop_eq_getElem_cons hi
  obtain⟨k,z,t,ds⟩:=d
  obtain⟨q,c,hv,hE⟩:=hL
  have hv':(cs.drop off).take 4=[.int .i64 k,.int .i64 z,.string t,.slice q ds.length c]:=by
   have:=Value.agg.inj hv
   simpa using congrArg Array.toList this
  have hf3:=Nb hv'
  rw[hdr] at hS
  rw[hdr,atP] at hx
  simp only[D.parts] at hx
  cases hd:ds[path[i]]? with
  | none=>rw[hd] at hx;cases hx
  | some d'=>
   rw[hd] at hx
   simp only at hx
   have hpi:=(List.getElem?_eq_some_iff.1 hd).1
   obtain⟨b',off',cs',rfl,hRb,hcs',hle',hL'⟩:=bC.get hE hd
   rw[Nat.zero_add] at hle' hL'
   have hS2:SpotAt Z (path.drop (i+1)) b' (off'+path[i]*4) bF oF:=by
    cases hS with
    | cons _ _ _ _ bb2 o l2 c2 _ _ cs2 g1' g2' g3'=>
     rw[hc] at g1'
     obtain rfl:=Option.some.inj g1'
     rw[hf3] at g2'
     injection g2' with g2'
     injection g2' with ga gb gc
     injection ga with ga
     injection ga with gd ge
     subst gd
     subst ge
     exact g3'
   have e0:decide (Int.ofNat path[i]<0)=false:=by simp
   have e1:decide (Int.ofNat path[i]≥Int.ofNat ds.length)=false:=by simp;omega
   rw[Am,AL]
   unfold Gw
   simp -implicitDefEqProofs only[go_sem,Fl,Gs,HQ,Jl,HR,Jm,OP,OO,OT,OQ,h.f0,h.g7,h.g8,h.g9,d1,hi,hcp,g1,hc,hf3,e0,e1,hpi,w3,List.mem_cons]
   generalize hff:upd _ 0 _=f1
   generalize hgg:upd _ 9 _=gg
   exact ih fuel (i+1) f1 gg d' b' (off'+path[i]*4) cs' (by omega) (by omega) hx (by have:=Ev (List.mem_of_getElem? hd);rw[D.count] at hN;omega) hcs' (by omega) hL' {
    f0:=by rw[<-hff];simp -implicitDefEqProofs only[go_sem,reduceCtorEq]
    g7:=by rw[<-hgg];simp -implicitDefEqProofs only[go_sem,reduceCtorEq,h.g7,List.mem_cons,true_or,or_true]
    g8:=by rw[<-hgg];simp -implicitDefEqProofs only[go_sem,reduceCtorEq,h.g8,List.mem_cons,true_or,or_true]
    g9:=by rw[<-hgg];simp -implicitDefEqProofs only[go_sem,reduceCtorEq] } hS2
theorem AeV(n:Nat){path:List Nat}{pv:Value}{R Q:Nat->Prop}{Z:aC}(hs:path.length<100000){d x:D}(hP:PathV Q Z pv path){b off:Nat}{cs:List Value}(hx:atP path d=some x)(hN:d.count<100000)(hc:Z.cells b=some cs)(hle:4<=cs.length-off)(hL:aI R Z (.agg ((cs.drop off).take 4).toArray) d){bF oF:Nat}(hS:SpotAt Z path b off bF oF):
  (env (n+1)).call 94 [.pointer (some ⟨b,off,none⟩),pv] none Z=.ret (.pointer (some ⟨bF,oF,none⟩)) none Z:=by
 obtain⟨a,cx,rfl,k1⟩:=Fk hP
 rw[Ak _ 94 _ _ rfl,Ry _ _ _ _ (by simp),Aj]
 unfold YS
 simp -implicitDefEqProofs only[go_sem,OK,OJ,OM,OL,KH]
 generalize hff:upd _ 4 _=f1
 generalize hgg:upd _ 9 _=g1
 generalize hbf:bG=fuel
 obtain⟨f2,g2,e2,h1⟩:=Xa (env n) (a:=a) (cx:=cx) (Z:=Z) hs x bF oF (fun h=>by obtain⟨b,r,x,_,y⟩:=k1 h;exact⟨b,r,x,y⟩) path.length fuel 0 f1 g1 d b off cs (by omega) (by rw[<-hbf];show path.length<1000000000000;omega) hx hN hc hle hL {
  f0:=by rw[<-hff];simp -implicitDefEqProofs only[go_sem,reduceCtorEq]
  g7:=by rw[<-hgg];simp -implicitDefEqProofs only[go_sem,reduceCtorEq]
  g8:=by rw[<-hgg];simp -implicitDefEqProofs only[go_sem,reduceCtorEq]
  g9:=by rw[<-hgg];simp -implicitDefEqProofs only[go_sem,reduceCtorEq]<;>rfl } hS
 rw[e2]
 simp -implicitDefEqProofs only[go_sem,OV,OU,h1]
theorem AdU{R:Nat->Prop}{Z:aC}:∀(p:List Nat) (d w:D) (b off:Nat) (cs:List Value),Z.cells b=some cs->4<=cs.length-off->aI R Z (.agg ((cs.drop off).take 4).toArray) d->atP p d=some w->
  ∃b' off' cs',SpotAt Z p b off b' off'/\Z.cells b'=some cs'/\4<=cs'.length-off'/\aI R Z (.agg ((cs'.drop off').take 4).toArray) w
 | [],d,w,b,off,cs,hc,hle,hL,h=>by rw[atP] at h;cases h;exact⟨b,off,cs,.nil b off,hc,hle,hL⟩
 | i::p,.mk k z t ds,w,b,off,cs,hc,hle,hL,h=>by
  rw[atP] at h
  simp only[D.parts] at h
  cases hd:ds[i]? with
  | none=>rw[hd] at h;cases h
  | some d'=>
   rw[hd] at h
   obtain⟨q,c,hv,hE⟩:=hL
   have hv':(cs.drop off).take 4=[.int .i64 k,.int .i64 z,.string t,.slice q ds.length c]:=by
    have:=Value.agg.inj hv
    simpa using congrArg Array.toList this
   have hf3:=Nb hv'
   obtain⟨b',off',cs',rfl,hRb,hcs',hle',hL'⟩:=bC.get hE hd
   rw[Nat.zero_add] at hle' hL'
   obtain⟨b2,o2,cs2,h1,h2⟩:=AdU p d' w b' (off'+i*4) cs' hcs' (by omega) hL' h
   exact⟨b2,o2,cs2,.cons i p b off b' off' _ _ b2 o2 cs hc hf3 h1,h2⟩
theorem SpotAt.keep{Z V:aC}{p:List Nat}{b off b' off':Nat}(h:SpotAt Z p b off b' off')(hk:∀b cs,Z.cells b=some cs->V.cells b=some cs):SpotAt V p b off b' off':=by
 induction h with
 | nil b off=>exact .nil b off
 | cons i p b off bb o l c b' off' cs h1 h2 h3 ih=>exact .cons i p b off bb o l c b' off' cs (hk _ _ h1) h2 ih
def twoE(d e:D):Nat:=if bD d=0 then bD e else bD d
def cmpR(d e:D):Value:=if twoE d e=0 then .tuple #[.int .i64 (ordU d e),.int .i64 0] else .tuple #[.int .i64 0,.int .i64 (twoE d e:Nat)]
def putE(d x:D)(l:List Int):Nat:=if twoE d x=0 then (match atZ l d with|some _=>0|none=>9) else twoE d x
def putR(d x:D)(l:List Int):D:=if twoE d x=0 then (match atZ l d with|some _=>putP (l.map Int.toNat) x d|none=>zeroD) else zeroD
def PutOk(d x:D)(l:List Int)(S:Nat->Prop)(Z:aC)(w:Value):Prop:=∃u,w=.tuple #[u,.int .i64 (putE d x l:Nat)]/\aI S Z u (putR d x l)
theorem LL:∀(l:List Int) (d w:D),atZ l d=some w->atP (l.map Int.toNat) d=some w/\∀z∈l,0<=z
 | [],d,w,h=>⟨by rw[atZ] at h;cases h;rfl,fun z hz=>by simp at hz⟩
 | z::l,d,w,h=>by
  rw[atZ] at h
  by_cases hz:0<=z
  .rw[if_pos hz] at h
   rw[List.map_cons,atP]
   cases hd:d.parts[z.toNat]? with
   | none=>rw[hd] at h;cases h
   | some d'=>
    rw[hd] at h
    obtain⟨h1,h2⟩:=LL l d' w h
    exact⟨h1,fun y hy=>by
     rcases List.mem_cons.1 hy with rfl|hy
     .exact hz
     .exact h2 y hy⟩
  .rw[if_neg hz] at h;cases h
theorem Li:∀ {ds:List D} {d:D},firstEs ds=0->d∈ds->bD d=0
 | x::ds,d,h,hd=>by
  rw[firstEs] at h
  by_cases hx:bD x=0
  .rw[if_pos hx] at h
   rcases List.mem_cons.1 hd with rfl|hd
   .exact hx
   .exact Li h hd
  .rw[if_neg hx] at h;exact absurd h hx
theorem Lh:∀(l:List Int) (d w:D),bD d=0->atZ l d=some w->bD w=0
 | [],d,w,h,ha=>by rw[atZ] at ha;cases ha;exact h
 | z::l,.mk k z0 t ds,w,h,ha=>by
  rw[atZ] at ha
  rw[bD] at h
  by_cases hp:aQ k z0 t ds.length=0
  .rw[if_pos hp] at h
   by_cases hz:0<=z
   .rw[if_pos hz] at ha
    simp only[D.parts] at ha
    cases hd:ds[z.toNat]? with
    | none=>rw[hd] at ha;cases ha
    | some d'=>rw[hd] at ha;exact Lh l d' w (Li h (List.mem_of_getElem? hd)) ha
   .rw[if_neg hz] at ha;cases ha
  .rw[if_neg hp] at h;exact absurd h hp
theorem AoJ{d x:D}(h:twoE d x=0):bD d=0/\bD x=0:=by
 unfold twoE at h
 by_cases h1:bD d=0
 .rw[if_pos h1] at h;exact⟨h1,h⟩
 .rw[if_neg h1] at h;exact absurd h h1
section
variable (M m n:Nat) (hm:M=m+22) (hM:M=n+295) (d x:D) (hd:d.count<=150) (hx:x.count<=150) (lv xv:List Value) (h4:lv.length=4) (hx4:xv.length=4) (l:List Int) (hs:l.length<50000) (bv:Nat)
include hm hM hd hx h4 hx4 hs
theorem Aqx(bd bx bp:Nat)(Z:aC)(hw:Wf Z)(hb1:Z.cells bd=some lv)(hb2:Z.cells bx=some xv)(hb3:Z.cells bp=some [.slice (some ⟨bv,0,none⟩) l.length l.length])(hL:aI (fun b=>b<Z.next) Z (.agg lv.toArray) d)(hLx:aI (fun b=>b<Z.next) Z (.agg xv.toArray) x)(hF:FulZ Z bv l):
  (putE d x l=0->Gives ((env (M+6)).call 95 [.pointer (some ⟨bd,0,none⟩),.pointer (some ⟨bx,0,none⟩),.pointer (some ⟨bp,0,none⟩)] none Z) Z fun v V=>aI (fun b=>Z.next<=b) V v (putR d x l))/\
  (putE d x l≠0->Fails ((env (M+6)).call 95 [.pointer (some ⟨bd,0,none⟩),.pointer (some ⟨bx,0,none⟩),.pointer (some ⟨bp,0,none⟩)] none Z) Z (putE d x l:Nat) 0):=by
 have dd:=BB d
 have dx:=BB x
 have ht:lv.take 4=lv:=List.take_of_length_le (by omega)
 have htx:xv.take 4=xv:=List.take_of_length_le (by omega)
 have st:∀ {τ:aC},Ext Z τ->∀ {v:Value} {d:D},aI (fun b=>b<Z.next) Z v d->aI (fun b=>b<τ.next) τ v d:=fun hX v d h=>h.keep fun b cs hb hc=>⟨(hX.cells hb).trans hc,by have:=hX.next;omega⟩
 have kl:∀ {R:Nat->Prop} {v:Value} {e:D} (V:aC),Ext Z V->aI R Z v e->aI R V v e:=fun V hx h=>h.keep fun b cs hb hc=>⟨(hx.cells (hw.cells hc)).trans hc,hb⟩
 have kc:∀ {b:Nat} {cs:List Value} (V:aC),Ext Z V->Z.cells b=some cs->V.cells b=some cs:=fun V hx hc=>(hx.cells (hw.cells hc)).trans hc
 have bvn:=Ful.lt hF hw
 have kF:∀(V:aC),Ext Z V->FulZ V bv l:=fun V hx=>Ful.keep hF (hx.get _ bvn)
 have x0:Ext Z (Z.push (.cells [.int .i64 0,.int .i64 0,.string ⟨#[]⟩,.slice none 0 0] TD) none):=(Ext.refl _).push _ _
 have hw0:=hw.push (.cells [.int .i64 0,.int .i64 0,.string ⟨#[]⟩,.slice none 0 0] TD) none
 have g0:(Z.push (.cells [.int .i64 0,.int .i64 0,.string ⟨#[]⟩,.slice none 0 0] TD) none).heap.get Z.next=some ⟨(.cells [.int .i64 0,.int .i64 0,.string ⟨#[]⟩,.slice none 0 0] TD),false,none,Z.clock⟩:=by rw[Ai,if_pos rfl]
 have ne1:(bd=Z.next)=False:=by have:=hw.cells hb1;simp;omega
 rw[Ak _ 95 _ _ rfl,Aqc _ _ _ _ (by simp),Aj]
 unfold Aou putE putR
 by_cases e0:bD d=0
 .obtain⟨_,a_,e1,x1,hw1,rfl⟩:=FT m d e0 (by omega) lv h4 _ _ hw0 (st x0 hL) (fun b hb=>hb)
  rw[show m+27=M+5 by omega] at e1
  have X1:=x0.trans x1
  have c1a:=kc _ X1 hb2
  by_cases ex:bD x=0
  .have e2z:twoE d x=0:=by unfold twoE;rw[if_pos e0];exact ex
   rw[if_pos e2z,if_pos e2z]
   obtain⟨_,a9,e2,x2,hw2,rfl⟩:=FT m x ex (by omega) xv hx4 _ a_ hw1 (st X1 hLx) (fun b hb=>hb)
   rw[show m+27=M+5 by omega] at e2
   have X2:=X1.trans x2
   have n2:=X2.next
   have cd2:=kc _ X2 hb1
   have c2b:=kc _ X2 hb3
   have hLd2:aI (fun b=>b<Z.next) a9 (.agg ((lv.drop 0).take 4).toArray) d:=by rw[List.drop_zero,ht];exact kl _ X2 hL
   rcases Qm (M+2) (cx:=l.length) (Z:=a9) (by omega:l.length<100000) (FulZ.o (kF _ X2)).ints (by omega) cd2 (by omega) hLd2 with⟨w,bw,ow,csw,hat,e3,hcw,hlew,hLw⟩|⟨hat,e3⟩
   .refine⟨fun _=>?_,fun h=>by rw[hat] at h;exact absurd rfl h⟩
    rw[hat]
    show Gives _ Z fun v V=>aI (fun b=>Z.next<=b) V v (putP (l.map Int.toNat) x d)
    have ew:=Lh l d w e0 hat
    have hwc:=HV l d w hat
    obtain⟨hatP,h0⟩:=LL l d w hat
    have hpc:=H_ (l.map Int.toNat) x d w hatP
    have kp:∀(V:aC),Ext Z V->PathV (fun _=>True) V (.slice (some ⟨bv,0,none⟩) l.length l.length) (l.map Int.toNat):=fun V hx=>FulZ.pathV (kF V hx) h0 _ trivial
    have hs':(l.map Int.toNat).length<100000:=by rw[List.length_map];omega
    have lw4:((csw.drop ow).take 4).length=4:=by rw[List.length_take,List.length_drop];omega
    obtain⟨_,bS,e4,x3,hw3,rfl⟩:=FT m w ew (by omega) ((csw.drop ow).take 4) lw4 (fun b=>b<Z.next) a9 hw2 hLw (fun b hb=>by have hb':b<Z.next:=hb;omega)
    rw[show m+27=M+5 by omega] at e4
    have X3:=X2.trans x3
    have n3:=X3.next
    generalize hpq:putP (l.map Int.toNat) x d=pd at hpc ⊢
    have hlim:=fun τ=>WQ (M+4) (.ofNat pd.count) (by rw[Int.ofNat_eq_natCast];omega) τ
    have s1:wrapI (Int.ofNat d.count-Int.ofNat w.count)=(d.count:Int)-w.count:=by rw[Dt (by simp only[Int.ofNat_eq_natCast];omega)];simp only[Int.ofNat_eq_natCast]
    have s2:wrapI ((d.count:Int)-w.count+Int.ofNat x.count)=Int.ofNat pd.count:=by
     rw[Dt (by simp only[Int.ofNat_eq_natCast];omega)]
     simp only[Int.ofNat_eq_natCast]
     omega
    have hcp:=MW n 150 d (by omega) (by omega)
    rw[show n+2*150=M+5 by omega] at hcp
    obtain⟨_,bU,e5,x4,hw4,hI⟩:=hcp lv (fun b=>b<Z.next) bS hw3 (kl _ X3 hL)
    obtain⟨ov,rfl,ho4,hoo⟩:=hI.laid.agg
    have X4:=X3.trans x4
    have n4:=x4.next
    have hto:ov.take 4=ov:=List.take_of_length_le (by omega)
    have x5:Ext bU ((bU.push (.cells [.int .i64 0,.int .i64 0,.string ⟨#[]⟩,.slice none 0 0] TD) none).put bU.next (.cells ov TD) none):=((Ext.refl _).push _ _).put _ _ _ (Nat.le_refl _)
    have hw5:=(hw4.push (.cells [.int .i64 0,.int .i64 0,.string ⟨#[]⟩,.slice none 0 0] TD) none).put bU.next (.cells ov TD) none (Nat.lt_succ_self _)
    have g5:((bU.push (.cells [.int .i64 0,.int .i64 0,.string ⟨#[]⟩,.slice none 0 0] TD) none).put bU.next (.cells ov TD) none).heap.get bU.next=some ⟨.cells ov TD,false,none,bU.clock+1⟩:=by rw[Ao,if_pos rfl];rfl
    have k5:((bU.push (.cells [.int .i64 0,.int .i64 0,.string ⟨#[]⟩,.slice none 0 0] TD) none).put bU.next (.cells ov TD) none).next=bU.next+1:=rfl
    have c3a:=kc _ X3 hb1
    simp -implicitDefEqProofs only[go_sem,Av,Kj,K6,Kk,K7,OX,OW,YB,U3,AnA,AbG,AnB,AbH,hb1,ne1,c1a,c2b,c3a,h4,hx4,ht,htx,e1,e2,e3,e4,hcw,hlew,s1,s2,hlim,e5,ho4,hoo,Nat.le_refl]
    generalize hff:upd _ 7 _=f1
    generalize hgg:upd _ 25 _=g1
    have q1:f1 1=.pointer (some ⟨bx,0,none⟩):=by rw[<-hff];simp -implicitDefEqProofs only[go_sem,reduceCtorEq]
    have q2:f1 2=.pointer (some ⟨bp,0,none⟩):=by rw[<-hff];simp -implicitDefEqProofs only[go_sem,reduceCtorEq]
    have q3:f1 3=.pointer (some ⟨Z.next,0,none⟩):=by rw[<-hff];simp -implicitDefEqProofs only[go_sem,reduceCtorEq]
    have q7:f1 7=.pointer (some ⟨bU.next,0,none⟩):=by rw[<-hff];simp -implicitDefEqProofs only[go_sem,reduceCtorEq]
    clear hff hgg
    generalize aC.put _ _ _ _=bV at x5 hw5 g5 k5 ⊢
    have X5:=X4.trans x5
    have hI5:LaidI bV bS.next bU.next (.agg ov.toArray) d:=hI.keep fun b e _ hb he=>(x5.get b hb).trans he
    have hI5':LaidI bV bS.next bU.next (.agg ((ov.drop 0).take 4).toArray) d:=by rw[List.drop_zero,hto];exact hI5
    have c5:=Ar g5
    obtain⟨b',off',_,hS5,_,_,_⟩:=AdU (l.map Int.toNat) d w bU.next 0 ov c5 (by omega) hI5'.laid hatP
    have e6:=AeV (M+4) hs' (kp bV X5) hatP (by omega) c5 (by omega) hI5'.laid hS5
    have hcx:=MW n 150 x (by omega) (by omega)
    rw[show n+2*150=M+5 by omega] at hcx
    obtain⟨_,bX,e7,x6,hw6,hIx⟩:=hcx xv (fun b=>b<Z.next) bV hw5 (kl _ X5 hLx)
    obtain⟨nv,rfl,hn4,hno⟩:=hIx.laid.agg
    have n6:=x6.next
    have n5:=X5.next
    have hI6:LaidI bX bS.next bU.next (.agg ((ov.drop 0).take 4).toArray) d:=hI5'.keep fun b e _ hb he=>(x6.get b (by omega)).trans he
    have g6:=(x6.get _ (by omega)).trans g5
    have hS6:SpotAt bX (l.map Int.toNat) bU.next 0 b' off':=hS5.keep fun b cs hc=>(x6.cells (hw5.cells hc)).trans hc
    have hnX:aI (fun b=>bV.next<=b/\b<bX.next) bX (.agg nv.toArray) x:=hIx.laid
    have htn:nv.take 4=nv:=List.take_of_length_le (by omega)
    obtain⟨cs',ver',p1,p2,p3,_⟩:=Pi bX bX x nv _ hn4 hnX b' off' (l.map Int.toNat) d w bS.next bU.next bU.next 0 _ ov g6 (by omega) (.inr (Nat.le_refl _)) hI6 hatP hS6
    have hbb:b'<bV.next:=by rcases p3 with h|h<;>omega
    have hbl:bS.next<=b':=by rcases p3 with h|h<;>omega
    have hb6:=(hw6 _ _ p1).1
    have hX7:aI (fun b=>bV.next<=b/\b<bX.next) (bX.put b' (.cells (cs'.take off'++nv++cs'.drop (off'+4)) TD) none) (.agg nv.toArray) x:=hnX.keep fun b cs hb hc=>⟨by rw[Al,if_neg (by omega)];exact hc,hb⟩
    obtain⟨cs2,ver2,p1',_,_,p4⟩:=Pi bX (bX.put b' (.cells (cs'.take off'++nv++cs'.drop (off'+4)) TD) none) x nv _ hn4 hX7 b' off' (l.map Int.toNat) d w bS.next bU.next bU.next 0 _ ov g6 (by omega) (.inr (Nat.le_refl _)) hI6 hatP hS6
    have hcs:cs2=cs':=by
     have h1:=Ar p1'
     rw[Ar p1] at h1
     exact(Option.some.inj h1).symm
    subst hcs
    obtain⟨csb,r1,r2,_,r4⟩:=p4 (by rw[Al,if_pos rfl];rfl) (fun c e hc _ he=>by rw[Ao,if_neg hc];exact he)
    have hb4:csb.length=4:=r2.trans ho4
    have htb:csb.take 4=csb:=List.take_of_length_le (by omega)
    rw[List.drop_zero,htb] at r4
    have hcb:csb.all oneCell=true:=by
     obtain⟨l,hl,_,h2⟩:=r4.agg
     have:=congrArg Array.toList (Value.agg.inj hl)
     simp at this
     rw[this];exact h2
    have g07:(bX.put b' (.cells (cs2.take off'++nv++cs2.drop (off'+4)) TD) none).heap.get Z.next=some ⟨(.cells [.int .i64 0,.int .i64 0,.string ⟨#[]⟩,.slice none 0 0] TD),false,none,Z.clock⟩:=by
     have h01:Z.next<a_.next:=by have:=x1.next;rw[Aa] at this;omega
     have h02:=x2.next
     have h03:=x3.next
     rw[Ao,if_neg (by omega),x6.get Z.next (by omega),x5.get Z.next (by omega),x4.get Z.next (by omega),x3.get Z.next (by omega),x2.get Z.next (by omega),x1.get Z.next (by rw[Aa];omega)]
     exact g0
    have c5p:=kc _ X5 hb3
    have c6x:=kc _ X5 hb2
    rw[hpq] at r4
    simp -implicitDefEqProofs only[go_sem,Av,AnC,AbI,AnD,AbJ,AnE,AbK,q1,q2,q3,q7,c5p,c6x,hx4,htx,e6,e7,p1,p2,hn4,hno,r1,hb4,hcb,htb,g07,Bm,AP,AA,Ay,AO,Nat.le_refl]
    have X6:=X5.trans x6
    have hsn:Z.next<bS.next:=by have:=x1.next;have:=x2.next;have:=x3.next;rw[Aa] at *;omega
    exact⟨_,_,rfl,(X6.put _ _ _ (by omega)).put _ _ _ (Nat.le_refl _),(hw6.put _ _ _ hb6).put _ _ _ (by rw[Aq];omega),r4.keep fun c cc hc hcc=>⟨by rw[Al,if_neg (by omega)];exact hcc,by omega⟩⟩
   .refine⟨fun h=>(by rw[hat] at h;cases h),fun _=>?_⟩
    rw[hat]
    simp -implicitDefEqProofs only[go_sem,Kj,K6,Kk,K7,OX,OW,YB,U3,hb1,ne1,c1a,c2b,h4,hx4,ht,htx,e1,e2,e3,Nat.le_refl,A_,Au,AB,AZ]
    exact⟨_,rfl,X2,hw2⟩
  .have e2z:twoE d x≠0:=by unfold twoE;rw[if_pos e0];exact ex
   have e2e:twoE d x=bD x:=by unfold twoE;rw[if_pos e0]
   rw[if_neg e2z,if_neg e2z]
   refine⟨fun h=>absurd h e2z,fun _=>?_⟩
   rw[e2e]
   obtain⟨a9,e2,x2,hw2⟩:=GS m x ex (by omega) xv hx4 _ a_ hw1 (st X1 hLx) (fun b hb=>hb)
   rw[show m+27=M+5 by omega] at e2
   simp -implicitDefEqProofs only[go_sem,Kj,K6,Kk,K7,OX,OW,hb1,ne1,c1a,h4,hx4,ht,htx,e1,e2,Nat.le_refl,A_,Au,AB,AZ]
   exact⟨_,rfl,X1.trans x2,hw2⟩
 .have e2e:twoE d x=bD d:=by unfold twoE;rw[if_neg e0]
  have e2z:twoE d x≠0:=by rw[e2e];exact e0
  rw[if_neg e2z,if_neg e2z]
  refine⟨fun h=>absurd h e2z,fun _=>?_⟩
  rw[e2e]
  obtain⟨a_,e1,x1,hw1⟩:=GS m d e0 (by omega) lv h4 _ _ hw0 (st x0 hL) (fun b hb=>hb)
  rw[show m+27=M+5 by omega] at e1
  simp -implicitDefEqProofs only[go_sem,Kj,K6,Kk,K7,hb1,ne1,h4,ht,e1,Nat.le_refl,A_,Au,AB,AZ]
  exact⟨_,rfl,x0.trans x1,hw1⟩
theorem Aqy(Z:aC)(hw:Wf Z)(hL:aI (fun b=>b<Z.next) Z (.agg lv.toArray) d)(hLx:aI (fun b=>b<Z.next) Z (.agg xv.toArray) x)(hF:FulZ Z bv l):
  Gives ((env (M+9)).call 36 [.agg lv.toArray,.slice (some ⟨bv,0,none⟩) l.length l.length,.agg xv.toArray] none Z) Z fun w V=>PutOk d x l (fun b=>Z.next<=b) V w:=by
 rw[Ak _ 36 _ _ rfl,ApR _ _ _ _ (by simp),Aj]
 unfold An9
 have bvn:=Ful.lt hF hw
 have x1:Ext Z ((((Z.push (.cells lv TD) none).push (.cells [.slice (some ⟨bv,0,none⟩) l.length l.length] 25) none).push (.cells xv TD) none).push (.cells [.int .i64 0,.int .i64 0,.string ⟨#[]⟩,.slice none 0 0] TD) none):=((((Ext.refl _).push _ _).push _ _).push _ _).push _ _
 have hw1:=(((hw.push (.cells lv TD) none).push (.cells [.slice (some ⟨bv,0,none⟩) l.length l.length] 25) none).push (.cells xv TD) none).push (.cells [.int .i64 0,.int .i64 0,.string ⟨#[]⟩,.slice none 0 0] TD) none
 have c1:((((Z.push (.cells lv TD) none).push (.cells [.slice (some ⟨bv,0,none⟩) l.length l.length] 25) none).push (.cells xv TD) none).push (.cells [.int .i64 0,.int .i64 0,.string ⟨#[]⟩,.slice none 0 0] TD) none).cells Z.next=some lv:=by rw[Ac,if_neg (by simp only[Aa];omega),Ac,if_neg (by simp only[Aa];omega),Ac,if_neg (by rw[Aa];omega),Ac,if_pos rfl];rfl
 have c2:((((Z.push (.cells lv TD) none).push (.cells [.slice (some ⟨bv,0,none⟩) l.length l.length] 25) none).push (.cells xv TD) none).push (.cells [.int .i64 0,.int .i64 0,.string ⟨#[]⟩,.slice none 0 0] TD) none).cells (Z.next+1)=some [.slice (some ⟨bv,0,none⟩) l.length l.length]:=by rw[Ac,if_neg (by simp only[Aa];omega),Ac,if_neg (by simp only[Aa];omega),Ac,if_pos (by rw[Aa])];rfl
 have c3:((((Z.push (.cells lv TD) none).push (.cells [.slice (some ⟨bv,0,none⟩) l.length l.length] 25) none).push (.cells xv TD) none).push (.cells [.int .i64 0,.int .i64 0,.string ⟨#[]⟩,.slice none 0 0] TD) none).cells (Z.next+2)=some xv:=by rw[Ac,if_neg (by simp only[Aa];omega),Ac,if_pos (by simp only[Aa])];rfl
 have g4:((((Z.push (.cells lv TD) none).push (.cells [.slice (some ⟨bv,0,none⟩) l.length l.length] 25) none).push (.cells xv TD) none).push (.cells [.int .i64 0,.int .i64 0,.string ⟨#[]⟩,.slice none 0 0] TD) none).heap.get (Z.next+3)=some ⟨.cells [.int .i64 0,.int .i64 0,.string ⟨#[]⟩,.slice none 0 0] TD,false,none,Z.clock+3⟩:=by rw[Ai,if_pos (by simp only[Aa])];rfl
 have st:∀ {τ:aC},Ext Z τ->∀ {v:Value} {d:D},aI (fun b=>b<Z.next) Z v d->aI (fun b=>b<τ.next) τ v d:=fun hX v d h=>h.keep fun b cs hb hc=>⟨(hX.cells hb).trans hc,by have:=hX.next;omega⟩
 have one:=fun(V:aC) (hx':Ext ((((Z.push (.cells lv TD) none).push (.cells [.slice (some ⟨bv,0,none⟩) l.length l.length] 25) none).push (.cells xv TD) none).push (.cells [.int .i64 0,.int .i64 0,.string ⟨#[]⟩,.slice none 0 0] TD) none) V) (hw':Wf V)=>
  Aqx M m n hm hM d x hd hx lv xv h4 hx4 l hs bv Z.next (Z.next+2) (Z.next+1) V hw' ((hx'.cells (hw1.cells c1)).trans c1) ((hx'.cells (hw1.cells c3)).trans c3) ((hx'.cells (hw1.cells c2)).trans c2) (st (x1.trans hx') hL) (st (x1.trans hx') hLx) (Ful.keep hF ((x1.trans hx').get _ bvn))
 by_cases he:putE d x l=0
 .obtain⟨_,a9,e2,x2,hw2,u,rfl,hq⟩:=ArP (M+5) 95 #[.pointer (some ⟨Z.next,0,none⟩),.pointer (some ⟨Z.next+2,0,none⟩),.pointer (some ⟨Z.next+1,0,none⟩)] (putR d x l) _ hw1 fun V hx' hw'=>(one V hx' hw').1 he
  have hq0:=hq
  obtain⟨l4,rfl,hl4,hone⟩:=hq.agg
  have ht4:l4.take 4=l4:=List.take_of_length_le (by omega)
  have g4':=(x2.get _ (hw1 _ _ g4).1).trans g4
  have m4:=(hw2 _ _ g4').1
  simp -implicitDefEqProofs only[go_sem,Av,XD,Ub,XE,Uc,e2,g4',hl4,hone,ht4,Bm,AP,AA,Ay,AO,Bj]
  exact⟨_,_,rfl,(x1.trans x2).put _ _ _ (by omega),hw2.put _ _ _ m4,_,by rw[he];rfl,hq0.keep fun b cs hb hc=>by
   simp only[Aa] at hb
   exact⟨by rw[Al,if_neg (by omega)];exact hc,by omega⟩⟩
 .obtain⟨_,a9,e2,x2,hw2,rfl⟩:=MS (M+3) 95 #[.pointer (some ⟨Z.next,0,none⟩),.pointer (some ⟨Z.next+2,0,none⟩),.pointer (some ⟨Z.next+1,0,none⟩)] (putE d x l:Nat) 0 _ hw1 fun V hx' hw'=>(one V hx' hw').2 he
  have g4':=(x2.get _ (hw1 _ _ g4).1).trans g4
  have m4:=(hw2 _ _ g4').1
  have hr:putR d x l=zeroD:=by
   unfold putE at he
   unfold putR
   by_cases e0:twoE d x=0
   .rw[if_pos e0] at he ⊢
    cases hx:atZ l d with
    | some x=>rw[hx] at he;exact absurd rfl he
    | none=>rfl
   .rw[if_neg e0]
  simp -implicitDefEqProofs only[go_sem,Av,XD,Ub,XE,Uc,e2,g4',Bm,AP,AA,Ay,AO,Bj]
  exact⟨_,_,rfl,(x1.trans x2).put _ _ _ (by omega),hw2.put _ _ _ m4,_,rfl,by rw[hr];exact FU _ _⟩
end
section
variable (M n N:Nat) (hM:M=n+4+N) (d e:D) (hdN:d.deep<=N) (heN:e.deep<=N) (hN:N<10000) (hd:d.count<900) (he:e.count<900) (lv mv:List Value) (h4:lv.length=4) (hm4:mv.length=4) (Z:aC) (hw:Wf Z) (hL:aI (fun b=>b<Z.next) Z (.agg lv.toArray) d) (hLe:aI (fun b=>b<Z.next) Z (.agg mv.toArray) e)
include hM hdN heN hd he h4 hm4 hw hL hLe
theorem Ri:Gives ((env (M+3)).call 89 [.agg lv.toArray,.agg mv.toArray] none Z) Z fun r _=>r=.int .i64 (twoE d e:Nat):=by
 have ht:lv.take 4=lv:=List.take_of_length_le (by omega)
 have htm:mv.take 4=mv:=List.take_of_length_le (by omega)
 rw[Ak _ 89 _ _ rfl,Aqa _ _ _ _ (by simp),Aj]
 unfold Aos
 have x1:Ext Z ((Z.push (.cells lv TD) none).push (.cells mv TD) none):=((Ext.refl _).push _ _).push _ _
 have hw1:=(hw.push (.cells lv TD) none).push (.cells mv TD) none
 have c1:((Z.push (.cells lv TD) none).push (.cells mv TD) none).cells Z.next=some lv:=by rw[Ac,if_neg (by rw[Aa];omega),Ac,if_pos rfl];rfl
 have c2:((Z.push (.cells lv TD) none).push (.cells mv TD) none).cells (Z.next+1)=some mv:=by rw[Ac,if_pos (by rw[Aa])];rfl
 obtain⟨_,a9,e2,x2,hw2,rfl⟩:=Hv (fun b=>b<Z.next) d lv h4 _ hw1 (hL.keep fun b cs hb hc=>⟨(x1.cells hb).trans hc,hb⟩) M n N hM hdN (by omega)
 have d2:=(x2.cells (hw1.cells c2)).trans c2
 have X2:=x1.trans x2
 unfold twoE
 by_cases h1:bD d=0
 .obtain⟨_,bS,e3,x3,hw3,rfl⟩:=Hv (fun b=>b<Z.next) e mv hm4 a9 hw2 (hLe.keep fun b cs hb hc=>⟨(X2.cells hb).trans hc,hb⟩) M n N hM heN (by omega)
  have z0:(((bD d:Nat):Int)==0)=true:=by rw[h1];rfl
  simp -implicitDefEqProofs only[go_sem,Yq,US,Yr,UT,Ys,UU,Ang,Abx,c1,h4,hm4,ht,htm,e2,z0,d2,e3,Ag,Nat.le_refl]
  exact⟨_,_,rfl,X2.trans x3,hw3,by simp[h1]⟩
 .have z0:(((bD d:Nat):Int)==0)=false:=by simp;omega
  simp -implicitDefEqProofs only[go_sem,Yq,US,Yr,UT,Ys,UU,Anf,Abw,c1,h4,hm4,ht,htm,e2,z0,Ag,Nat.le_refl]
  exact⟨_,_,rfl,X2,hw2,by simp[h1]⟩
end
def bigE(d:D):Nat:=if d.count<=2000 then 0 else 8
section
variable (M n:Nat) (hM:M=n+2001) (R:Nat->Prop) (d:D) (lv:List Value) (h4:lv.length=4) (Z:aC) (hw:Wf Z) (hL:aI R Z (.agg lv.toArray) d)
include hM h4 hw hL
theorem WM:Gives ((env (M+1)).call 75 [.agg lv.toArray] none Z) Z fun r _=>r=.int .i64 (bigE d:Nat):=by
 have ht:lv.take 4=lv:=List.take_of_length_le (by omega)
 rw[Ak _ 75 _ _ rfl,AcJ _ _ _ _ (by simp),Aj]
 unfold AdL
 have x1:Ext Z (Z.push (.cells lv TD) none):=(Ext.refl _).push _ _
 have hw1:=hw.push (.cells lv TD) none
 have c1:(Z.push (.cells lv TD) none).cells Z.next=some lv:=by rw[Ac,if_pos rfl];rfl
 obtain⟨_,a9,e2,x2,hw2,rfl⟩:=Ahy n R 2000 2000 d (Nat.le_refl _) (by omega) (.agg lv.toArray) _ hw1 (hL.keep fun b cs hb hc=>⟨(x1.cells (hw.cells hc)).trans hc,hb⟩)
 rw[show n+2000+1=M by omega] at e2
 have e2':(env M).call 42 [.agg lv.toArray,.int .i64 2000] none (Z.push (.cells lv TD) none)=_:=e2
 unfold bigE
 by_cases h:d.count<=2000
 .have d0:decide (Int.ofNat (min d.count (2000+1))>2000)=false:=by
   simp only[Int.ofNat_eq_natCast,decide_eq_false_iff_not]
   omega
  generalize hq:min d.count (2000+1)=qq at *
  simp -implicitDefEqProofs only[go_sem,OD,OC,OG,OE,Yg,UH,h4,ht,e2',d0,Ag,Nat.le_refl]
  exact⟨_,_,rfl,x1.trans x2,hw2,by simp[h]⟩
 .have d0:decide (Int.ofNat (min d.count (2000+1))>2000)=true:=by
   simp only[Int.ofNat_eq_natCast,decide_eq_true_eq]
   omega
  generalize hq:min d.count (2000+1)=qq at *
  simp -implicitDefEqProofs only[go_sem,OD,OC,OG,OE,Am0,Abk,h4,ht,e2',d0,Ag,Nat.le_refl]
  exact⟨_,_,rfl,x1.trans x2,hw2,by simp[h]⟩
theorem ZD(ho:lv.all oneCell=true):Gives ((env (M+2)).call 86 [.agg lv.toArray] none Z) Z fun r V=>r=.tuple #[if d.count<=2000 then .agg lv.toArray else .agg #[.int .i64 0,.int .i64 0,.string ⟨#[]⟩,.slice none 0 0],.int .i64 (bigE d:Nat)]:=by
 have ht:lv.take 4=lv:=List.take_of_length_le (by omega)
 rw[Ak _ 86 _ _ rfl,Ap9 _ _ _ _ (by simp),Aj]
 unfold Aor
 have x1:Ext Z ((Z.push (.cells lv TD) none).push (.cells [.int .i64 0,.int .i64 0,.string ⟨#[]⟩,.slice none 0 0] TD) none):=((Ext.refl _).push _ _).push _ _
 have hw1:=(hw.push (.cells lv TD) none).push (.cells [.int .i64 0,.int .i64 0,.string ⟨#[]⟩,.slice none 0 0] TD) none
 have c1:((Z.push (.cells lv TD) none).push (.cells [.int .i64 0,.int .i64 0,.string ⟨#[]⟩,.slice none 0 0] TD) none).cells Z.next=some lv:=by rw[Ac,if_neg (by rw[Aa];omega),Ac,if_pos rfl];rfl
 have g2:((Z.push (.cells lv TD) none).push (.cells [.int .i64 0,.int .i64 0,.string ⟨#[]⟩,.slice none 0 0] TD) none).heap.get (Z.next+1)=some ⟨.cells [.int .i64 0,.int .i64 0,.string ⟨#[]⟩,.slice none 0 0] TD,false,none,Z.clock+1⟩:=by rw[Ai,if_pos (by rw[Aa])];rfl
 obtain⟨_,a9,e2,x2,hw2,rfl⟩:=WM M n hM R d lv h4 _ hw1 (hL.keep fun b cs hb hc=>⟨(x1.cells (hw.cells hc)).trans hc,hb⟩)
 have c2:=(x2.cells (hw1.cells c1)).trans c1
 have g3:=(x2.get (Z.next+1) (hw1 _ _ g2).1).trans g2
 have m3:=(hw2 _ _ g3).1
 by_cases h:d.count<=2000
 .have z0:(((bigE d:Nat):Int)==0)=true:=by unfold bigE;rw[if_pos h];rfl
  have b0:bigE d=0:=by unfold bigE;rw[if_pos h]
  rw[if_pos h]
  simp -implicitDefEqProofs only[go_sem,Av,Yl,UM,Ym,UN,Yn,UO,Ane,Abv,h4,ht,e2,z0,c2,g3,ho,Bm,Ag,AP,AA,Ay,AO,Bj,Nat.le_refl]
  exact⟨_,_,rfl,(x1.trans x2).put _ _ _ (by omega),hw2.put _ _ _ m3,by rw[b0];rfl⟩
 .have z0:(((bigE d:Nat):Int)==0)=false:=by unfold bigE;rw[if_neg h];rfl
  rw[if_neg h]
  simp -implicitDefEqProofs only[go_sem,Av,Yl,UM,Ym,UN,Yn,UO,Anc,Abu,h4,ht,e2,z0,c2,g3,Bm,Ag,AP,AA,Ay,AO,Bj,Nat.le_refl]
  exact⟨_,_,rfl,(x1.trans x2).put _ _ _ (by omega),hw2.put _ _ _ m3,rfl⟩
end
theorem LD(n b1 b2:Nat)(c z x1 x2:Int)(v1 v2:Nat)(Z:aC)(hw:Wf Z)(hne:b1≠b2)(g1:Z.heap.get b1=some ⟨.cells [.int .i64 x1] 3,false,none,v1⟩)(g2:Z.heap.get b2=some ⟨.cells [.int .i64 x2] 32,false,none,v2⟩):
  ∃a_,Ext Z a_/\Wf a_/\(env (n+3)).call 152 [.pointer (some ⟨b1,0,none⟩),.pointer (some ⟨b2,0,none⟩)] (some (.panicking [failing c z])) Z=
   .ret (.tuple #[]) (some (.panicking [failed c z])) ((a_.put b1 (.cells [.int .i64 z] 3) none).put b2 (.cells [.int .i64 c] 32) none):=by
 rw[HY,VU _ _ _ _ (by simp),Aj]
 unfold Vk
 obtain⟨_,a9,e2,hX2,hw2,rfl⟩:=F9 n c z Z hw
 have m1:=(hw _ _ g1).1
 have m2:=(hw _ _ g2).1
 have k1:a9.heap.get b1=_:=(hX2.get b1 m1).trans g1
 have k2:a9.heap.get b2=_:=(hX2.get b2 m2).trans g2
 have l1:a9.next≠b1:=by have:=hX2.next;omega
 have l2:a9.next≠b2:=by have:=hX2.next;omega
 have w4:Wf ((a9.push (.cells [.int .i64 0,.int .i64 0] 171) none).put a9.next (.cells [.int .i64 c,.int .i64 z] 171) none):=(hw2.push (.cells [.int .i64 0,.int .i64 0] 171) none).put _ _ _ (by simp only[Aa];omega)
 have hv4:=Ce (lam:=a9.clock+2) w4 (Nat.le_refl _)
 simp -implicitDefEqProofs only[go_sem,Y2,hv4,Av,QT,Mv,QU,Mw,AfA,SR,AfB,SS,AfC,ST,AfD,SU,Ht,Ahn,P7,e2,k1,k2,l1,l2,l1.symm,l2.symm,hne,hne.symm,AP,AA]
 refine⟨_,(hX2.push _ _).put _ _ _ hX2.next,w4,rfl⟩
theorem Pu(n w:Nat)(cap:Array Value)(c z:Int)(Z:aC)(hw:Wf Z)(h:∀V,Ext Z V->Wf V->Fails ((env (n+3)).call w cap.toList none V) V c z):
  Gives ((env (n+4)).call 127 [.func (.func w) #[] cap] none Z) Z fun v _=>v=.tuple #[.slice none 0 0,.int .i64 z,.int .i64 c]:=by
 rw[Ak _ 127 _ _ rfl,VS _ _ _ _ (by simp),Aj]
 unfold Vi
 have hX1:Ext Z ((Z.push (.cells [.int .i64 0] 3) none).push (.cells [.int .i64 0] 32) none):=((Ext.refl _).push _ _).push _ _
 have hw1:=(hw.push (.cells [.int .i64 0] 3) none).push (.cells [.int .i64 0] 32) none
 obtain⟨a9,e2,hX2,hw2⟩:=h _ hX1 hw1
 have g1:a9.heap.get Z.next=_:=(hX2.get Z.next (by simp only[Aa];omega)).trans (by simp -implicitDefEqProofs only[Ai,Aa,Nat.add_assoc,Nat.reduceAdd,Nat.left_eq_add,reduceCtorEq,↓reduceIte,Nat.reduceEqDiff]<;>rfl)
 have g2:a9.heap.get (Z.next+1)=_:=(hX2.get (Z.next+1) (by simp only[Aa];omega)).trans (by simp -implicitDefEqProofs only[Ai,Aa,Nat.add_assoc,Nat.reduceAdd,Nat.add_left_cancel_iff,reduceCtorEq,↓reduceIte,Nat.reduceEqDiff]<;>rfl)
 obtain⟨bS,hX3,hw3,e3⟩:=LD n Z.next (Z.next+1) c z 0 0 _ _ a9 hw2 (by omega) g1 g2
 have m1:=(hw2 _ _ g1).1
 have m2:=(hw2 _ _ g2).1
 simp -implicitDefEqProofs only[go_sem,Av,QF,Mg,QG,Mh,QH,Mi,e2,A_,Au,AB,Nc,e3,GQ,Rk,Hu,AP,AA,Ay,AO,Bj]
 have hn3:=hX3.next
 refine⟨_,_,rfl,?_,?_,rfl⟩
 .exact(((hX1.trans hX2).trans hX3).put Z.next _ _ (Nat.le_refl _)).put (Z.next+1) _ _ (Nat.le_add_right _ _)
 .exact(hw3.put Z.next _ _ (by omega)).put (Z.next+1) _ _ (by simp only[Aq];omega)
theorem VE(n w:Nat)(cap:Array Value)(c z:Int)(Z:aC)(hw:Wf Z)(h:∀V,Ext Z V->Wf V->Fails ((env (n+3)).call w cap.toList none V) V c z):
  Gives ((env (n+5)).call 97 [.func (.func w) #[] cap] none Z) Z fun v _=>v=.tuple #[.slice none 0 0,.int .i64 c]:=by
 rw[Ak _ 97 _ _ rfl,AcO _ _ _ _ (by simp),Aj]
 unfold AdR
 obtain⟨_,a9,e2,hX2,hw2,rfl⟩:=Pu n w cap c z Z hw h
 simp -implicitDefEqProofs only[go_sem,YG,U9,YH,U_,YI,Va,e2,AP,AA,Ay,Bj]
 exact⟨_,_,rfl,hX2,hw2,rfl⟩
section
variable (M m n:Nat) (hm:M=m+22) (hM:M=n+300) (d x:D) (hd:d.count<=150) (hx:x.count<=150) (lv xv:List Value) (h4:lv.length=4) (hx4:xv.length=4)
include hm hM hd hx h4 hx4
theorem Wi(b1 b2:Nat)(Z:aC)(hw:Wf Z)(hb1:Z.cells b1=some lv)(hb2:Z.cells b2=some xv)(hL:aI (fun b=>b<Z.next) Z (.agg lv.toArray) d)(hLx:aI (fun b=>b<Z.next) Z (.agg xv.toArray) x):
  (twoE d x=0->Gives ((env (M+6)).call 98 [.pointer (some ⟨b1,0,none⟩),.pointer (some ⟨b2,0,none⟩)] none Z) Z (ResP x (d.pieces []) Z.next))/\
  (twoE d x≠0->Fails ((env (M+6)).call 98 [.pointer (some ⟨b1,0,none⟩),.pointer (some ⟨b2,0,none⟩)] none Z) Z (twoE d x:Nat) 0):=by
 have ht:lv.take 4=lv:=List.take_of_length_le (by omega)
 have htx:xv.take 4=xv:=List.take_of_length_le (by omega)
 have st:∀ {τ:aC},Ext Z τ->∀ {v:Value} {d:D},aI (fun b=>b<Z.next) Z v d->aI (fun b=>b<τ.next) τ v d:=fun hX v d h=>h.keep fun b cs hb hc=>⟨(hX.cells hb).trans hc,by have:=hX.next;omega⟩
 rw[Ak _ 98 _ _ rfl,Aqd _ _ _ _ (by simp),Aj]
 unfold Aov twoE
 by_cases e0:bD d=0
 .rw[if_pos e0]
  obtain⟨_,a_,e1,x1,hw1,rfl⟩:=FT m d e0 (by omega) lv h4 _ Z hw hL (fun b hb=>hb)
  rw[show m+27=M+5 by omega] at e1
  have c1:=(x1.cells (hw.cells hb2)).trans hb2
  by_cases ex:bD x=0
  .refine⟨fun _=>?_,fun h=>absurd ex h⟩
   obtain⟨_,a9,e2,x2,hw2,rfl⟩:=FT m x ex (by omega) xv hx4 _ a_ hw1 (st x1 hLx) (fun b hb=>hb)
   rw[show m+27=M+5 by omega] at e2
   have x12:=x1.trans x2
   have c2:=(x12.cells (hw.cells hb1)).trans hb1
   have c3:=(x12.cells (hw.cells hb2)).trans hb2
   have pd:=Dw d []
   have dd:=BB d
   obtain⟨w,bS,e3,x3,hw3,us,h1,h2⟩:=Aqh M n 150 (by omega) d x lv xv h4 hx4 (fun b=>b<a9.next) (fun _=>False) a9 hw2 (st x12 hL) ((st x12 hLx).keep fun b cs hb hc=>⟨hc,.inl hb⟩) (fun b hb=>⟨hb,fun h=>h⟩) (fun b hb=>hb.elim) (Re (by omega)) (by omega) (fun y hy=>by have:=H8 d [] y hy;omega)
   have n12:=x12.next
   simp -implicitDefEqProofs only[go_sem,O1,O0,O3,O2,O5,O4,YJ,Vb,hb1,hb2,c1,c2,c3,h4,hx4,ht,htx,e1,e2,e3,Nat.le_refl]
   exact⟨_,_,rfl,x12.trans x3,hw3,us,h1.keep (fun b hb hn=>⟨rfl,by omega⟩) hw3,h2.keep fun b c hb hc=>⟨hc,by omega⟩⟩
  .refine⟨fun h=>absurd h ex,fun _=>?_⟩
   obtain⟨a9,e2,x2,hw2⟩:=GS m x ex (by omega) xv hx4 _ a_ hw1 (st x1 hLx) (fun b hb=>hb)
   rw[show m+27=M+5 by omega] at e2
   simp -implicitDefEqProofs only[go_sem,O1,O0,O3,O2,O5,O4,YJ,Vb,hb1,hb2,c1,h4,hx4,ht,htx,e1,e2,Nat.le_refl,A_,Au,AB,AZ]
   exact⟨_,rfl,x1.trans x2,hw2⟩
 .rw[if_neg e0]
  refine⟨fun h=>absurd h e0,fun _=>?_⟩
  obtain⟨a_,e1,x1,hw1⟩:=GS m d e0 (by omega) lv h4 _ Z hw hL (fun b hb=>hb)
  rw[show m+27=M+5 by omega] at e1
  simp -implicitDefEqProofs only[go_sem,O1,O0,O3,O2,O5,O4,hb1,h4,ht,e1,Nat.le_refl,A_,Au,AB,AZ]
  exact⟨_,rfl,x1,hw1⟩
def FindOk(d x:D)(base:Nat)(w:Value)(Z:aC):Prop:=if twoE d x=0 then ∃u,w=.tuple #[u,.int .i64 0]/\ResP x (d.pieces []) base u Z else w=.tuple #[.slice none 0 0,.int .i64 (twoE d x:Nat)]
theorem Ahp(Z:aC)(hw:Wf Z)(hL:aI (fun b=>b<Z.next) Z (.agg lv.toArray) d)(hLx:aI (fun b=>b<Z.next) Z (.agg xv.toArray) x):
  Gives ((env (M+9)).call 38 [.agg lv.toArray,.agg xv.toArray] none Z) Z fun w V=>FindOk d x Z.next w V:=by
 rw[Ak _ 38 _ _ rfl,ApT _ _ _ _ (by simp),Aj]
 unfold Aob FindOk
 have x1:Ext Z ((Z.push (.cells lv TD) none).push (.cells xv TD) none):=((Ext.refl _).push _ _).push _ _
 have hw1:=(hw.push (.cells lv TD) none).push (.cells xv TD) none
 have c1:((Z.push (.cells lv TD) none).push (.cells xv TD) none).cells Z.next=some lv:=by rw[Ac,if_neg (by rw[Aa];omega),Ac,if_pos rfl];rfl
 have c2:((Z.push (.cells lv TD) none).push (.cells xv TD) none).cells (Z.next+1)=some xv:=by rw[Ac,if_pos (by rw[Aa])];rfl
 have st:∀ {τ:aC},Ext Z τ->∀ {v:Value} {d:D},aI (fun b=>b<Z.next) Z v d->aI (fun b=>b<τ.next) τ v d:=fun hX v d h=>h.keep fun b cs hb hc=>⟨(hX.cells hb).trans hc,by have:=hX.next;omega⟩
 by_cases he:twoE d x=0
 .simp only[if_pos he]
  obtain⟨_,a9,e2,x2,hw2,u,rfl,hq⟩:=AvQ (M+5) 98 #[.pointer (some ⟨Z.next,0,none⟩),.pointer (some ⟨Z.next+1,0,none⟩)] (O_ x (d.pieces [])) (fun base v Z ⟨us,h,_⟩=>h.one) _ hw1 fun V hX hw'=>
   (Wi M m n hm hM d x hd hx lv xv h4 hx4 Z.next (Z.next+1) V hw' ((hX.cells (hw1.cells c1)).trans c1) ((hX.cells (hw1.cells c2)).trans c2) (st (x1.trans hX) hL) (st (x1.trans hX) hLx)).1 he
  simp -implicitDefEqProofs only[go_sem,XH,Uf,XI,Ug,e2]
  exact⟨_,_,rfl,x1.trans x2,hw2,u,rfl,(O_ x (d.pieces [])).keep _ _ _ _ _ hq hw2 (by simp only[Aa];omega) fun b _ _=>rfl⟩
 .simp only[if_neg he]
  obtain⟨_,a9,e2,x2,hw2,rfl⟩:=VE (M+3) 98 #[.pointer (some ⟨Z.next,0,none⟩),.pointer (some ⟨Z.next+1,0,none⟩)] (twoE d x:Nat) 0 _ hw1 fun V hX hw'=>
   (Wi M m n hm hM d x hd hx lv xv h4 hx4 Z.next (Z.next+1) V hw' ((hX.cells (hw1.cells c1)).trans c1) ((hX.cells (hw1.cells c2)).trans c2) (st (x1.trans hX) hL) (st (x1.trans hX) hLx)).2 he
  simp -implicitDefEqProofs only[go_sem,XH,Uf,XI,Ug,e2]
  exact⟨_,_,rfl,x1.trans x2,hw2,rfl⟩
end
end
end Go.Proofs.YtknnbjmcfibpgaaGreatDoor
end
