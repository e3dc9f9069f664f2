import Derived.Test.YtknnbjmcfibpgaaGreatDoorU8
import Derived.Test.YtknnbjmcfibpgaaGreatDoorU6
import Derived.Test.YtknnbjmcfibpgaaGreatDoorZSymTL
import Derived.Test.YtknnbjmcfibpgaaGreatDoorU3
import Derived.Test.YtknnbjmcfibpgaaGreatDoorU4
import Derived.ChangeArms
import Derived.DataReads
import Derived.ChangeSlices
import Derived.OpenShut
import Derived.Carry
set_option linter.unusedSimpArgs false
set_option linter.unusedVariables false
noncomputable section
namespace Go.Proofs.YtknnbjmcfibpgaaGreatDoor
section
open Go Go.Eng
attribute [local congr] Ab Ah Af Ad Ae
attribute [-go_sem] List.range_succ
theorem Aqu:∀ {d:D},pE d=0->BareD d
 | .mk k z t ds,h=>fun hl=>by
  have h':aQ k z t ds.length=0:=h
  unfold aQ at h'
  by_cases hk:0<=k/\k<=6
  .rw[if_pos hk] at h'
   by_cases hf:formB k z t ds.length=true
   .rw[if_pos hf] at h';cases h'
   .rw[Bool.not_eq_true] at hf
    unfold formB at hf
    simp only[Bool.or_eq_false_iff,Bool.and_eq_false_iff,Bool.not_eq_false',bne_eq_false_iff_eq,decide_eq_false_iff_not,Bool.or_eq_true,beq_iff_eq,ne_eq,Decidable.not_not,beq_eq_false_iff_ne] at hf
    obtain⟨⟨⟨h1,h2⟩,h3⟩,_⟩:=hf
    have hk5:k=5\/k=6:=by
     rcases h3 with h|h
     .exact h
     .omega
    refine⟨?_,Ef ?_⟩
    .rcases h1 with h|h
     .omega
     .exact h
    .rcases h2 with h|h
     .omega
     .exact h
  .rw[if_neg hk] at h';cases h'
section
variable (M n n2:Nat) (hM:M=n+2001) (hM2:M=n2+200) (d x:D) (hd:d.count<=150) (hx:x.count<=150) (lv xv:List Value) (h4:lv.length=4) (hx4:xv.length=4)
include hM hM2 hd hx h4 hx4
theorem Vd(p:Option Addr)(c:Nat)(l:List Int)(hs:l.length<=51)(Z:aC)(hw:Wf Z)(hL:aI (fun b=>b<Z.next) Z (.agg lv.toArray) d)(hLx:aI (fun b=>b<Z.next) Z (.agg xv.toArray) x)(hI:IntsO Z p c l):
  Gives ((env (M+5)).call 37 [.agg lv.toArray,.slice p l.length c,.agg xv.toArray] none Z) Z fun w V=>PutOk d x l (fun b=>b<V.next) V w:=by
 have dd:=BB d
 have dx:=BB x
 have ht:lv.take 4=lv:=List.take_of_length_le (by omega)
 have htx:xv.take 4=xv:=List.take_of_length_le (by omega)
 obtain⟨lx,rlx,_,hxo⟩:=hLx.agg
 have hxo:xv.all oneCell=true:=by
  have:=congrArg (fun v=>match v with|Value.agg a=>a.toList|_=>[]) rlx
  simp at this
  rw[this];exact hxo
 rw[Ak _ 37 _ _ rfl,ApS _ _ _ _ (by simp),Aj]
 unfold Aoa
 have x1:Ext Z (((Z.push (.cells lv TD) none).push (.cells xv TD) none).push (.cells [.int .i64 0,.int .i64 0,.string ⟨#[]⟩,.slice none 0 0] TD) none):=(((Ext.refl _).push _ _).push _ _).push _ _
 have hw1:=((hw.push (.cells lv TD) none).push (.cells xv TD) none).push (.cells [.int .i64 0,.int .i64 0,.string ⟨#[]⟩,.slice none 0 0] TD) none
 have c1:(((Z.push (.cells lv TD) none).push (.cells xv TD) none).push (.cells [.int .i64 0,.int .i64 0,.string ⟨#[]⟩,.slice none 0 0] TD) none).cells Z.next=some lv:=by rw[Ac,if_neg (by simp only[Aa];omega),Ac,if_neg (by rw[Aa];omega),Ac,if_pos rfl];rfl
 have c2:(((Z.push (.cells lv TD) none).push (.cells xv TD) none).push (.cells [.int .i64 0,.int .i64 0,.string ⟨#[]⟩,.slice none 0 0] TD) none).cells (Z.next+1)=some xv:=by rw[Ac,if_neg (by simp only[Aa];omega),Ac,if_pos (by rw[Aa])];rfl
 have g3:(((Z.push (.cells lv TD) none).push (.cells xv TD) none).push (.cells [.int .i64 0,.int .i64 0,.string ⟨#[]⟩,.slice none 0 0] TD) none).heap.get (Z.next+2)=some ⟨.cells [.int .i64 0,.int .i64 0,.string ⟨#[]⟩,.slice none 0 0] TD,false,none,Z.clock+2⟩:=by rw[Ai,if_pos (by simp only[Aa])];rfl
 have n1':(((Z.push (.cells lv TD) none).push (.cells xv TD) none).push (.cells [.int .i64 0,.int .i64 0,.string ⟨#[]⟩,.slice none 0 0] TD) none).next=Z.next+3:=rfl
 simp -implicitDefEqProofs only[go_sem,Al0,Aat]
 generalize hff:upd _ 7 _=f1
 generalize aC.push _ _ _=a_ at x1 hw1 c1 c2 g3 n1' ⊢
 have q1:f1 1=.slice p l.length c:=by rw[<-hff];simp -implicitDefEqProofs only[go_sem,reduceCtorEq]
 have q3:f1 3=.pointer (some ⟨Z.next,0,none⟩):=by rw[<-hff];simp -implicitDefEqProofs only[go_sem,reduceCtorEq]
 have q5:f1 5=.pointer (some ⟨Z.next+1,0,none⟩):=by rw[<-hff];simp -implicitDefEqProofs only[go_sem,reduceCtorEq]
 have q6:f1 6=.pointer (some ⟨Z.next+2,0,none⟩):=by rw[<-hff];simp -implicitDefEqProofs only[go_sem,reduceCtorEq]
 clear hff
 have st:∀ {τ:aC},Ext Z τ->∀ {v:Value} {d:D},aI (fun b=>b<Z.next) Z v d->aI (fun b=>b<τ.next) τ v d:=fun hX v d h=>h.keep fun b cs hb hc=>⟨(hX.cells hb).trans hc,by have:=hX.next;omega⟩
 have kl:∀ {τ:aC},Ext Z τ->∀ {v:Value} {d:D},aI (fun b=>b<Z.next) Z v d->aI (fun b=>b<Z.next) τ v d:=fun hX v d h=>h.keep fun b cs hb hc=>⟨(hX.cells hb).trans hc,hb⟩
 obtain⟨_,a9,e2,x2,hw2,rfl⟩:=Ri (M+1) (n2+47) 150 (by omega) d x (by omega) (by omega) (by omega) (by omega) lv xv h4 hx4 a_ hw1 (st x1 hL) (st x1 hLx)
 have X2:=x1.trans x2
 have c3:=(x2.cells (hw1.cells c1)).trans c1
 have g32:=(x2.get _ (hw1 _ _ g3).1).trans g3
 have m2:=(hw2 _ _ g32).1
 unfold PutOk putE putR
 by_cases h1:twoE d x=0
 .rw[if_pos h1,if_pos h1]
  obtain⟨e0,ex⟩:=AoJ h1
  have z0:(((twoE d x:Nat):Int)==0)=true:=by rw[h1];rfl
  obtain⟨w3,bS,e3,x3,hw3,h3⟩:=WY (M+2) (cx:=c) hw2 (kl X2 hL) (hI.ext hw X2).ints (by omega) (by omega)
  have X3:=X2.trans x3
  have n3:=X3.next
  have n13:=(x2.trans x3).next
  have g33:=(x3.get _ m2).trans g32
  have m3:=(hw3 _ _ g33).1
  rcases h3 with⟨w,u,hat,rfl,hLu⟩|⟨hat,rfl⟩
  .rw[hat]
   show Gives _ Z fun w V=>∃u,w=Value.tuple #[u,.int .i64 0]/\aI (fun b=>b<V.next) V u (putP (l.map Int.toNat) x d)
   obtain⟨hatP,h0⟩:=LL l d w hat
   obtain⟨u4,rfl,hu4,huo⟩:=hLu.agg
   have tu:u4.take 4=u4:=List.take_of_length_le (by omega)
   simp -implicitDefEqProofs only[go_sem,Av,N8,N7,N_,N9,XF,Ud,XG,Ue,q1,q3,q5,c1,c2,h4,hx4,ht,htx,e2,z0,c3,e3,hu4,huo,tu,Ag,Nat.le_refl]
   generalize hff:upd _ 10 _=f2
   generalize hgg:upd _ 25 _=g2
   have r1:f2 1=.slice p l.length c:=by rw[<-hff];simp -implicitDefEqProofs only[go_sem,reduceCtorEq,q1]
   have r3:f2 3=.pointer (some ⟨Z.next,0,none⟩):=by rw[<-hff];simp -implicitDefEqProofs only[go_sem,reduceCtorEq,q3]
   have r5:f2 5=.pointer (some ⟨Z.next+1,0,none⟩):=by rw[<-hff];simp -implicitDefEqProofs only[go_sem,reduceCtorEq,q5]
   have r6:f2 6=.pointer (some ⟨Z.next+2,0,none⟩):=by rw[<-hff];simp -implicitDefEqProofs only[go_sem,reduceCtorEq,q6]
   clear hff hgg
   have x4:Ext bS ((bS.push (.cells [.int .i64 0,.int .i64 0,.string ⟨#[]⟩,.slice none 0 0] TD) none).put bS.next (.cells u4 TD) none):=((Ext.refl _).push _ _).put _ _ _ (Nat.le_refl _)
   have hw4:=(hw3.push (.cells [.int .i64 0,.int .i64 0,.string ⟨#[]⟩,.slice none 0 0] TD) none).put bS.next (.cells u4 TD) none (Nat.lt_succ_self _)
   generalize aC.put _ bS.next _ _=bU at x4 hw4 ⊢
   have X4:=X3.trans x4
   have y4:=(x2.trans x3).trans x4
   have d1:=(y4.cells (hw1.cells c1)).trans c1
   have d2:=(y4.cells (hw1.cells c2)).trans c2
   have d3:=(y4.get _ (hw1 _ _ g3).1).trans g3
   have hpl:(l.map Int.toNat).length=l.length:=List.length_map ..
   obtain⟨n4,hn4⟩:∃n4,M+4=n4+1+(l.map Int.toNat).length:=⟨M+3-l.length,by omega⟩
   obtain⟨_,bV,e5,x5,hw5,ws,rfl,hws,hwo,hLw⟩:=AeW n4 (fun b=>b<Z.next) x xv hx4 hxo (l.map Int.toNat) d w [] lv (.slice p l.length c) bU Z.next h4 hw4 (fun b hb=>hb) (by have:=X4.next;omega) (kl X4 hL) ((hI.ext hw X4).path h0) (kl X4 hLx) hatP (fun y hy=>⟨by
    have h6:=H8 d [] y hy
    have h7:=D3 y.2.parts
    obtain⟨ya,k,z,t,ds⟩:=y
    simp only[D.parts] at h7 ⊢
    rw[D.count] at h6
    omega,Aqu (Agx d [] e0 y hy)⟩)
   rw[<-hn4] at e5
   have hLw':aI (fun b=>b<bV.next) bV (.agg ws.toArray) (putP (l.map Int.toNat) x d):=hLw.keep fun b cs hb hc=>⟨hc,hw5.cells hc⟩
   have hpc:=H_ (l.map Int.toNat) x d w hatP
   obtain⟨_,bX,e6,x6,hw6,rfl⟩:=ZD (M+2) (n+2) (by omega) _ (putP (l.map Int.toNat) x d) ws hws bV hw5 hLw' hwo
   have hz:(putP (l.map Int.toNat) x d).count<=2000:=by omega
   have b0:bigE (putP (l.map Int.toNat) x d)=0:=by unfold bigE;rw[if_pos hz]
   rw[if_pos hz,b0] at e6
   have tws:ws.take 4=ws:=List.take_of_length_le (by omega)
   have d6:=((x5.trans x6).get _ (hw4 _ _ d3).1).trans d3
   have l6:=(hw6 _ _ d6).1
   simp -implicitDefEqProofs only[go_sem,Av,Al3,Aaw,r1,r3,r5,r6,d1,d2,h4,hx4,ht,htx,e5,e6,d6,hws,hwo,tws,Bm,Hu,AP,AA,Ay,AO,Bj,Nat.le_refl]
   have n4':=x4.next
   have n34:=X4.next
   have n12':=y4.next
   exact⟨_,_,rfl,((X4.trans x5).trans x6).put _ _ _ (by omega),hw6.put _ _ _ l6,_,rfl,hLw.keep fun b cs hb hc=>⟨by
    rw[Al,if_neg (by rcases hb with h|h<;>omega)]
    exact(x6.cells (hw5.cells hc)).trans hc,by rw[Aq];have:=hw5.cells hc;have:=x6.next;omega⟩⟩
  .rw[hat]
   show Gives _ Z fun w V=>∃u,w=Value.tuple #[u,.int .i64 9]/\aI (fun b=>b<V.next) V u zeroD
   have l1:(Z.next+2=bS.next)=False:=by simp;omega
   have l2:(bS.next=Z.next+2)=False:=by simp;omega
   simp -implicitDefEqProofs only[go_sem,Av,N8,N7,N_,N9,XF,Ud,XG,Ue,Al2,Aav,q1,q3,q5,q6,c1,c2,h4,hx4,ht,htx,e2,z0,c3,e3,g33,l1,l2,Bm,Ag,AP,AA,Ay,AO,Bj,Nat.le_refl]
   have hw4:=((hw3.push (.cells [.int .i64 0,.int .i64 0,.string ⟨#[]⟩,.slice none 0 0] TD) none).put bS.next (.cells [.int .i64 0,.int .i64 0,.string ⟨#[]⟩,.slice none 0 0] TD) none (Nat.lt_succ_self _)).put (Z.next+2) (.cells [.int .i64 0,.int .i64 0,.string ⟨#[]⟩,.slice none 0 0] TD) none (by rw[Aq,Aa];omega)
   have x4:Ext Z (((bS.push (.cells [.int .i64 0,.int .i64 0,.string ⟨#[]⟩,.slice none 0 0] TD) none).put bS.next (.cells [.int .i64 0,.int .i64 0,.string ⟨#[]⟩,.slice none 0 0] TD) none).put (Z.next+2) (.cells [.int .i64 0,.int .i64 0,.string ⟨#[]⟩,.slice none 0 0] TD) none):=((X3.push _ _).put _ _ _ (by omega)).put _ _ _ (by omega)
   exact⟨_,_,rfl,x4,hw4,_,rfl,FU _ _⟩
 .rw[if_neg h1,if_neg h1]
  have z0:(((twoE d x:Nat):Int)==0)=false:=by simp;omega
  simp -implicitDefEqProofs only[go_sem,Av,N8,N7,N_,N9,Al1,Aau,q3,q5,q6,c1,c2,h4,hx4,ht,htx,e2,z0,g32,Bm,Ag,AP,AA,Ay,AO,Bj,Nat.le_refl]
  exact⟨_,_,rfl,X2.put _ _ _ (by omega),hw2.put _ _ _ m2,_,rfl,FU _ _⟩
end
def FindRef(d x:D)(w:Value)(Z:aC):Prop:=∃u us,w=.tuple #[u,.int .i64 (twoE d x:Nat)]/\Vecs TP (fun _=>True) Z u us/\PathsL (fun _=>True) Z us (if twoE d x=0 then foundIn x (d.pieces []) else [])
theorem PL(M n2:Nat)(hM3:M=n2+2*150)(d x:D)(hd:d.count<=150)(hx:x.count<=150)(lv xv:List Value)(h4:lv.length=4)(hx4:xv.length=4)(Z:aC)(hw:Wf Z)(hL:aI (fun b=>b<Z.next) Z (.agg lv.toArray) d)(hLx:aI (fun b=>b<Z.next) Z (.agg xv.toArray) x):
  Gives ((env (M+4)).call 39 [.agg lv.toArray,.agg xv.toArray] none Z) Z fun w V=>FindRef d x w V:=by
 have dd:=BB d
 have dx:=BB x
 have ht:lv.take 4=lv:=List.take_of_length_le (by omega)
 have htx:xv.take 4=xv:=List.take_of_length_le (by omega)
 rw[Ak _ 39 _ _ rfl,ApU _ _ _ _ (by simp),Aj]
 unfold Aoc
 have x1:Ext Z ((Z.push (.cells lv TD) none).push (.cells xv TD) none):=((Ext.refl _).push _ _).push _ _
 have hw1:=(hw.push (.cells lv TD) none).push (.cells xv TD) none
 have c1:((Z.push (.cells lv TD) none).push (.cells xv TD) none).cells Z.next=some lv:=by rw[Ac,if_neg (by rw[Aa];omega),Ac,if_pos rfl];rfl
 have c2:((Z.push (.cells lv TD) none).push (.cells xv TD) none).cells (Z.next+1)=some xv:=by rw[Ac,if_pos (by rw[Aa])];rfl
 have st:∀ {τ:aC},Ext Z τ->∀ {v:Value} {d:D},aI (fun b=>b<Z.next) Z v d->aI (fun b=>b<τ.next) τ v d:=fun hX v d h=>h.keep fun b cs hb hc=>⟨(hX.cells hb).trans hc,by have:=hX.next;omega⟩
 obtain⟨_,a9,e2,x2,hw2,rfl⟩:=Ri M (n2+146) 150 (by omega) d x (by omega) (by omega) (by omega) (by omega) lv xv h4 hx4 _ hw1 (st x1 hL) (st x1 hLx)
 have X2:=x1.trans x2
 have d1:=(x2.cells (hw1.cells c1)).trans c1
 have d2:=(x2.cells (hw1.cells c2)).trans c2
 unfold FindRef
 by_cases h1:twoE d x=0
 .rw[if_pos h1]
  have z0:(((twoE d x:Nat):Int)==0)=true:=by rw[h1];rfl
  obtain⟨w3,bS,e3,x3,hw3,us,hv,hp⟩:=AeA M n2 150 hM3 d x lv xv h4 hx4 _ _ a9 (by omega) (by omega) (by omega) (by omega) (by omega) hw2 (st X2 hL) (st X2 hLx)
  simp -implicitDefEqProofs only[go_sem,XJ,Uh,XK,Ui,XL,Uj,Al5,Aay,c1,c2,d1,d2,h4,hx4,ht,htx,e2,z0,e3,Ag,AP,AA,Ay,Bj,Nat.le_refl]
  exact⟨_,_,rfl,X2.trans x3,hw3,w3,us,by rw[h1];rfl,hv.keep (fun b _ _=>⟨rfl,trivial⟩) hw3,hp.keep fun b c _ hc=>⟨hc,trivial⟩⟩
 .rw[if_neg h1]
  have z0:(((twoE d x:Nat):Int)==0)=false:=by simp;omega
  simp -implicitDefEqProofs only[go_sem,XJ,Uh,XK,Ui,XL,Uj,Al4,Aax,c1,c2,h4,hx4,ht,htx,e2,z0,Ag,AP,AA,Ay,Bj,Nat.le_refl]
  exact⟨_,_,rfl,X2,hw2,_,[],rfl,.inl ⟨rfl,rfl⟩,trivial⟩
structure ListI (P:Nat->Prop) (l r bt:Nat) (f g:Nat->Value) (cur:D) (Z:aC):Prop where
 wf:Wf Z
 le:bt<r/\r<l/\l<Z.next
 fresh:∀b,l<b->P b
 loop:LoopAt 85 [9,10] AvO AvP 7 16 f g l r .ready Z
 col:∃ver,Z.heap.get r=some ⟨.defd true,false,none,ver⟩
 cell:∃ver tv,Z.heap.get bt=some ⟨.cells tv TD,false,none,ver⟩/\tv.length=4/\aI (fun b=>P b/\b≠l/\b≠r/\b≠bt) Z (.agg tv.toArray) cur
def pre:Nat->Int
 | 0 => -1
 | k+1=>.ofNat k
theorem Acp(cs l4:List Value)(off j:Nat)(hl:l4.length=4)(ho:off+4<=cs.length)(h:j+4<=off\/off+4<=j):((cs.take off++l4++cs.drop (off+4)).drop j).take 4=(cs.drop j).take 4:=by
 apply List.ext_getElem?
 intro i
 rw[List.getElem?_take,List.getElem?_take]
 split
 .rw[List.getElem?_drop,List.getElem?_drop]
  rcases h with h|h
  .rw[List.append_assoc,List.getElem?_append_left (by rw[List.length_take];omega),List.getElem?_take,if_pos (by omega)]
  .rw[List.getElem?_append_right (by rw[List.length_append,List.length_take];omega),List.getElem?_drop,List.length_append,List.length_take,hl]
   congr 1
   omega
 .rfl
theorem Agq(cs l4:List Value)(off:Nat)(hl:l4.length=4)(ho:off+4<=cs.length):((cs.take off++l4++cs.drop (off+4)).drop off).take 4=l4:=by
 rw[List.append_assoc,List.drop_append_of_le_length (by rw[List.length_take];omega),List.drop_eq_nil_of_le (by rw[List.length_take];omega),List.nil_append,List.take_append_of_le_length (by omega),List.take_of_length_le (by omega)]
theorem Row.set{R:Nat->Prop}{Z:aC}{cs l4:List Value}{ds:List D}{d:D}(h:Row R Z cs ds)(i:Nat)(hi:i<ds.length)(hl:l4.length=4)(ho:l4.all oneCell=true)(hd:aI R Z (.agg l4.toArray) d):Row R Z (cs.take (i*4)++l4++cs.drop (i*4+4)) (ds.set i d):=by
 obtain⟨h1,h2,h3⟩:=h
 refine⟨by rw[List.length_append,List.length_append,List.length_take,List.length_drop,List.length_set];omega,?_,fun j e he=>?_⟩
 .rw[List.all_append,List.all_append,ho]
  have a1:(cs.take (i*4)).all oneCell=true:=List.all_eq_true.2 fun x hx=>List.all_eq_true.1 h2 x (List.mem_of_mem_take hx)
  have a2:(cs.drop (i*4+4)).all oneCell=true:=List.all_eq_true.2 fun x hx=>List.all_eq_true.1 h2 x (List.mem_of_mem_drop hx)
  rw[a1,a2];rfl
 .by_cases hj:i=j
  .subst hj
   rw[List.getElem?_set_self (by omega)] at he
   cases he
   rw[Agq cs l4 _ hl (by omega)]
   exact hd
  .rw[List.getElem?_set_ne hj] at he
   rw[Acp cs l4 _ _ hl (by omega) (by omega)]
   exact h3 j e he
def Turned(ds:List D)(i:Nat)(cur:List D):Prop:=cur.length=ds.length/\∀k,k<ds.length->cur[k]? = if k<i\/ds.length-i<=k then ds[ds.length-1-k]? else ds[k]?
theorem Turned.step{ds cur:List D}{i:Nat}(h:Turned ds i cur)(hi:i+1+i<ds.length):∃x y,cur[i]? = some x/\cur[ds.length-1-i]? = some y/\Turned ds (i+1) ((cur.set i y).set (ds.length-1-i) x):=by
 obtain⟨h1,h2⟩:=h
 have e1:=h2 i (by omega)
 have e2:=h2 (ds.length-1-i) (by omega)
 rw[if_neg (by omega)] at e1
 rw[if_neg (by omega)] at e2
 obtain⟨x,hx⟩:∃x,ds[i]? = some x:=⟨_,List.getElem?_eq_getElem (by omega)⟩
 obtain⟨y,hy⟩:∃y,ds[ds.length-1-i]? = some y:=⟨_,List.getElem?_eq_getElem (by omega)⟩
 refine⟨x,y,by rw[e1,hx],by rw[e2,hy],by rw[List.length_set,List.length_set,h1],fun k hk=>?_⟩
 by_cases k1:ds.length-1-i=k
 .subst k1
  rw[List.getElem?_set_self (by rw[List.length_set];omega),if_pos (by omega),show ds.length-1-(ds.length-1-i)=i by omega,hx]
 .rw[List.getElem?_set_ne k1]
  by_cases k2:i=k
  .subst k2
   rw[List.getElem?_set_self (by omega),if_pos (by omega),hy]
  .rw[List.getElem?_set_ne k2,h2 k hk]
   by_cases c:k<i\/ds.length-i<=k
   .rw[if_pos c,if_pos (by omega)]
   .rw[if_neg c,if_neg (by omega)]
theorem Turned.done{ds cur:List D}{i:Nat}(h:Turned ds i cur)(hi:ds.length<=i+1+i):cur=ds.reverse:=by
 obtain⟨h1,h2⟩:=h
 apply List.ext_getElem?
 intro k
 by_cases hk:k<ds.length
 .rw[List.getElem?_reverse hk,h2 k hk]
  by_cases c:k<i\/ds.length-i<=k
  .rw[if_pos c]
  .rw[if_neg c,show ds.length-1-k=k by omega]
 .rw[List.getElem?_eq_none (by omega),List.getElem?_eq_none (by rw[List.length_reverse];omega)]
theorem Turned.start(ds:List D):Turned ds 0 ds:=⟨rfl,fun k hk=>by rw[if_neg (by omega)]⟩
structure Elems (M:Nat) (es:List D):Prop where
 sane:∀e∈es,Sane M e
 deep:∀e∈es,e.deep<=4
 len:es.length<=12
 few:D.counts es<=1900
theorem AhJ:nilD.deep=1:=rfl
theorem AeN:nilD.count=1:=rfl
theorem Elems.count{M:Nat}{es:List D}(h:Elems M es):(listD nilD es).count<=2000:=by rw[Lp,AeN];have:=h.len;have:=h.few;omega
theorem Elems.depth{M:Nat}{es:List D}(h:Elems M es):(listD nilD es).deep<=16:=by
 have:=Nz nilD 4 es h.deep
 rw[AhJ] at this
 have:=h.len
 omega
theorem Elems.all{M:Nat}{es:List D}(h:Elems M es):Sane M (listD nilD es):=Rc (AoB M) h.sane
theorem AxP(M n:Nat)(hM:M=n+30)(d:D)(hd:d.deep<=16)(hc:d.count<=2000):CopyAt (M+3) d:=by
 have:=LN (n+1) 16 d hd (by omega)
 rwa [show n+1+2*16=M+3 by omega] at this
theorem Elems.copies{M:Nat}{es:List D}(h:Elems M es)(n:Nat)(hM:M=n+30):∀d∈es,CopyAt (M+3) d:=fun d hd=>AxP M n hM d (by have:=h.deep d hd;omega) (by have:=Ev hd;have:=h.few;omega)
theorem Elems.reverse{M:Nat}{es:List D}(h:Elems M es):Elems M es.reverse:=⟨fun e he=>h.sane e (List.mem_reverse.1 he),fun e he=>h.deep e (List.mem_reverse.1 he),by rw[List.length_reverse];exact h.len,by rw[Hw];exact h.few⟩
structure HeadFr (q:Option Addr) (c:Nat) (es:List D) (bT:aC) (i:Nat) (ff:Nat->Value) (f g:Nat->Value) (Z:aC):Prop where
 g5:g 5=.slice q es.length c
 g6:g 6=.int .i64 (.ofNat es.length)
 g7:g 7=.int .i64 (.ofNat i)
 f0:f 0=ff 0
 f1:f 1=ff 1
 f2:f 2=.int .i64 (.ofNat (i+D.counts (es.take i)+1))
 wf:Wf Z
 ext:Ext bT Z
theorem Vec.slice{Z:aC}{lo:Nat}{s:Value}{ds:List D}(h:Vec Z lo s ds):∃p,s=.slice p ds.length ds.length/\bC (fun b=>lo<b) Z p 0 ds:=by
 rcases h with⟨rfl,rfl⟩|⟨b,cs,ver,rfl,hb,hq,hr⟩
 .exact⟨none,rfl,trivial⟩
 .exact⟨_,rfl,hr.elems (Ar hb) hq (fun c hc=>hc.1) 0 ds fun j e he=>by rwa [Nat.zero_add]⟩
theorem Vec.spot{Z:aC}{lo:Nat}{s:Value}{ds:List D}(hw:Wf Z)(h:Vec Z lo s ds):∀b n m,s=.slice (some ⟨b,0,none⟩) n m->b<Z.next/\lo<b:=by
 intro b n m hs
 rcases h with⟨_,h⟩|⟨b',cs,ver,h,hb,hlb,_⟩
 .rw[hs] at h;cases h
 .rw[hs] at h;cases h;exact⟨(hw _ _ hb).1,hlb⟩
theorem Vec.ones{Z:aC}{lo:Nat}{s:Value}{ds:List D}(h:Vec Z lo s ds):oneCell s=true/\aP s=true/\aJ s=[s]:=by
 rcases h with⟨rfl,rfl⟩|⟨b,cs,ver,rfl,hb,hq,hr⟩<;>exact⟨rfl,rfl,rfl⟩
theorem AwH:bI nls 10=[30]:=by kernel_rfl
def KeepAt(m:Nat)(d:D):Prop:=∀(lv:List Value) (R:Nat->Prop) (Z:aC),Wf Z->aI R Z (.agg lv.toArray) d->(∀b,R b->b<Z.next)->Gives ((env m).call 10 [.agg lv.toArray] none Z) Z fun w V=>aI (fun b=>Z.next<=b) V w d
structure HeadKd (b0:Nat) (R:Nat->Prop) (k z:Int) (t:ByteArray) (q:Option Addr) (c:Nat) (ds:List D) (bT:aC) (i:Nat) (f:Nat->Value) (Z:aC):Prop where
 f1:f 1=.pointer (some ⟨b0,0,none⟩)
 f2:f 2=.pointer (some ⟨b0+1,0,none⟩)
 f3:f 3=.pointer (some ⟨b0+2,0,none⟩)
 f4:f 4=.int .i64 (.ofNat i)
 c1:Z.cells b0=some [.int .i64 k,.int .i64 z,.string t,.slice q ds.length c]
 g2:∃ver,Z.heap.get (b0+1)=some ⟨.cells [.int .i64 0,.int .i64 0,.string ⟨#[]⟩,.slice none 0 0] TD,false,none,ver⟩
 g3:∃ver s,Z.heap.get (b0+2)=some ⟨.cells [.int .i64 k,.int .i64 z,.string t,s] TD,false,none,ver⟩/\Vec Z (b0+2) s (ds.take i)
 lay:bC R Z q 0 ds
 wf:Wf Z
 ext:Ext bT Z
theorem ZA(m:Nat){b0:Nat}{R:Nat->Prop}{k z:Int}{t:ByteArray}{q:Option Addr}{c:Nat}{ds:List D}{bT:aC}(hC:∀d∈ds,KeepAt m d)(hb0:bT.next=b0)(hR:∀b,R b->b<b0)(hfew:ds.length<900):
  ∀(j fuel i:Nat) (f g:Nat->Value) (Z:aC),i+j=ds.length->j<fuel->HeadKd b0 R k z t q c ds bT i f Z->
   ∃f' g' V,floop [30] (AcV (env m) none 10) fuel (Sl 5 31 f g []) none Z=.done (.exit 0) (Sl 5 31 f' g' []) none V/\HeadKd b0 R k z t q c ds bT ds.length f' V:=by
 intro j
 induction j with
 | zero=>
  intro fuel i f g Z hij hf h
  obtain⟨fuel,rfl⟩:∃q,fuel=q+1:=⟨fuel-1,by omega⟩
  obtain rfl:i=ds.length:=by omega
  have d1:decide (Int.ofNat ds.length<Int.ofNat ds.length)=false:=by simp
  rw[Am]
  unfold AcV
  simp -implicitDefEqProofs only[go_sem,Xd,Se,h.f1,h.f4,h.c1,d1]
  exact⟨_,_,_,rfl,h⟩
 | succ j ih=>
  intro fuel i f g Z hij hf h
  obtain⟨fuel,rfl⟩:∃q,fuel=q+1:=⟨fuel-1,by omega⟩
  have hi:i<ds.length:=by omega
  have d1:decide (Int.ofNat i<Int.ofNat ds.length)=true:=by simp;omega
  have hd:ds[i]? = some ds[i]:=List.getElem?_eq_getElem hi
  have hmem:=List.getElem_mem hi
  have hw:=h.wf
  obtain⟨b,off,cs,rfl,hRb,hcs,hle,hL⟩:=bC.get h.lay hd
  rw[Nat.zero_add] at hle hL
  obtain⟨vt,ht2⟩:=h.g2
  obtain⟨v3,s,hg3,hV⟩:=h.g3
  have hn3:=(hw _ _ hg3).1
  obtain⟨_,a_,e1,x1,hw1,hL1⟩:=hC _ hmem ((cs.drop (off+i*4)).take 4) R Z hw hL (fun b hb=>by have:=hR b hb;omega)
  obtain⟨l4,rfl,hl4,ho4⟩:=hL1.agg
  have n1:=x1.next
  have hsp:=hV.spot hw
  have hV1:Vec a_ (b0+2) s (ds.take i):=hV.keep hw fun c h1 h2=>x1.get c h2
  obtain⟨s',τ,ha,ho,hVτ,hwτ,hnτ,hcτ,hg1,hg2⟩:=Po a_ (b0+2) s (ds.take i) ds[i] l4 hw1 (by omega) hl4 ho4 (by rw[List.length_take];omega) hV1 (hL1.keep fun c cs hc h=>⟨h,by omega,fun b n m hs=>by have:=hsp b n m hs;omega⟩)
  rw[show ds.take i++[ds[i]]=ds.take (i+1) by rw[List.take_add_one,hd];rfl] at hVτ
  have hvw:=Ce hw (lam:=Z.clock) (Nat.le_refl _)
  have hv3:(view a_ Z.clock).cells (b0+2)=some [.int .i64 k,.int .i64 z,.string t,s]:=Eo hw (Nat.le_refl _) (x1.get _ hn3) (Ar hg3)
  have hg3τ:τ.heap.get (b0+2)=some ⟨.cells [.int .i64 k,.int .i64 z,.string t,s] TD,false,none,v3⟩:=(hg1 _ (Nat.le_refl _)).trans ((x1.get _ hn3).trans hg3)
  have w3:=EY i (by omega)
  have o':=hVτ.ones
  have hc1:=h.c1
  rw[Am]
  unfold AcV
  simp -implicitDefEqProofs only[go_sem,Av,Xd,Se,Ah5,Z4,Ah6,Z5,h.f1,h.f3,h.f4,hc1,d1,hi,hvw,hcs,hle,e1,hv3,hl4,ho4,ha,o'.1,o'.2.1,o'.2.2,hg3τ,w3]
  generalize hff:upd _ 4 _=f1
  have kR:∀b cs,b<b0->Z.cells b=some cs->(τ.put (b0+2) (.cells [.int .i64 k,.int .i64 z,.string t,s'] TD) none).cells b=some cs:=fun b cs hb hc=>by
   rw[Al,if_neg (by omega),AG,hg1 b (by omega),<-AG]
   exact(x1.cells (hw.cells hc)).trans hc
  exact ih fuel (i+1) f1 _ _ (by omega) (by omega) {
   f1:=by rw[<-hff];simp -implicitDefEqProofs only[go_sem,reduceCtorEq,h.f1]
   f2:=by rw[<-hff];simp -implicitDefEqProofs only[go_sem,reduceCtorEq,h.f2]
   f3:=by rw[<-hff];simp -implicitDefEqProofs only[go_sem,reduceCtorEq,h.f3]
   f4:=by rw[<-hff];simp -implicitDefEqProofs only[go_sem,reduceCtorEq]
   c1:=by
    have:=hw.cells hc1
    rw[Al,if_neg (by omega),AG,hg1 b0 (by omega),<-AG]
    exact(x1.cells this).trans hc1
   g2:=⟨vt,by rw[Ao,if_neg (by omega),hg1 _ (by omega),x1.get _ (by omega)];exact ht2⟩
   g3:=⟨_,s',by rw[Ao,if_pos rfl],hVτ.keep hwτ fun c h1 h2=>by rw[Ao,if_neg (by omega)]⟩
   lay:=h.lay.keep fun b cs hb hc=>⟨kR b cs (hR b hb) hc,hb⟩
   wf:=hwτ.put _ _ _ (by omega)
   ext:=⟨by rw[Aq];have:=h.ext.next;omega,by rw[Bl];have:=h.ext.clock;have:=x1.clock;omega,fun b hb=>by
    rw[Ao,if_neg (by omega),hg2 b (by have:=h.ext.next;omega) (fun b' n m hs=>by have:=hsp b' n m hs;omega),x1.get b (by have:=h.ext.next;omega)]
    exact h.ext.get b hb⟩ }
theorem ZB(m:Nat)(k z:Int)(t:ByteArray)(ds:List D)(hfew:ds.length<900)(hC:∀d∈ds,KeepAt m d):KeepAt (m+1) (.mk k z t ds):=by
 intro lv R Z hw hL hR
 have hL0:=hL
 obtain⟨q,c,hv,hE⟩:=hL
 have hlv:lv=[.int .i64 k,.int .i64 z,.string t,.slice q ds.length c]:=by
  have:=Value.agg.inj hv
  simpa using congrArg Array.toList this
 subst hlv
 rw[Ak _ 10 _ _ rfl,ApJ _ _ _ _ (by simp),Aj]
 unfold An1
 have x1:Ext Z ((((Z.push (.cells [.int .i64 k,.int .i64 z,.string t,.slice q ds.length c] TD) none).push (.cells [.int .i64 0,.int .i64 0,.string ⟨#[]⟩,.slice none 0 0] TD) none).push (.cells [.int .i64 0,.int .i64 0,.string ⟨#[]⟩,.slice none 0 0] TD) none).put (Z.next+2) (.cells [.int .i64 k,.int .i64 z,.string t,.slice none 0 0] TD) none):=(((((Ext.refl _).push _ _).push _ _).push _ _).put _ _ _ (by omega))
 have hw1:=((((hw.push (.cells [.int .i64 k,.int .i64 z,.string t,.slice q ds.length c] TD) none).push (.cells [.int .i64 0,.int .i64 0,.string ⟨#[]⟩,.slice none 0 0] TD) none).push (.cells [.int .i64 0,.int .i64 0,.string ⟨#[]⟩,.slice none 0 0] TD) none).put (Z.next+2) (.cells [.int .i64 k,.int .i64 z,.string t,.slice none 0 0] TD) none (by simp only[Aa];omega))
 have c1:((((Z.push (.cells [.int .i64 k,.int .i64 z,.string t,.slice q ds.length c] TD) none).push (.cells [.int .i64 0,.int .i64 0,.string ⟨#[]⟩,.slice none 0 0] TD) none).push (.cells [.int .i64 0,.int .i64 0,.string ⟨#[]⟩,.slice none 0 0] TD) none).put (Z.next+2) (.cells [.int .i64 k,.int .i64 z,.string t,.slice none 0 0] TD) none).cells Z.next=some [.int .i64 k,.int .i64 z,.string t,.slice q ds.length c]:=by
  rw[Al,if_neg (by omega),Ac,if_neg (by simp only[Aa];omega),Ac,if_neg (by simp only[Aa];omega),Ac,if_pos rfl];rfl
 have g2:((((Z.push (.cells [.int .i64 k,.int .i64 z,.string t,.slice q ds.length c] TD) none).push (.cells [.int .i64 0,.int .i64 0,.string ⟨#[]⟩,.slice none 0 0] TD) none).push (.cells [.int .i64 0,.int .i64 0,.string ⟨#[]⟩,.slice none 0 0] TD) none).put (Z.next+2) (.cells [.int .i64 k,.int .i64 z,.string t,.slice none 0 0] TD) none).heap.get (Z.next+1)=some ⟨.cells [.int .i64 0,.int .i64 0,.string ⟨#[]⟩,.slice none 0 0] TD,false,none,Z.clock+1⟩:=by
  rw[Ao,if_neg (by omega),Ai,if_neg (by simp only[Aa];omega),Ai,if_pos (by rw[Aa])];rfl
 have g3:((((Z.push (.cells [.int .i64 k,.int .i64 z,.string t,.slice q ds.length c] TD) none).push (.cells [.int .i64 0,.int .i64 0,.string ⟨#[]⟩,.slice none 0 0] TD) none).push (.cells [.int .i64 0,.int .i64 0,.string ⟨#[]⟩,.slice none 0 0] TD) none).put (Z.next+2) (.cells [.int .i64 k,.int .i64 z,.string t,.slice none 0 0] TD) none).heap.get (Z.next+2)=some ⟨.cells [.int .i64 k,.int .i64 z,.string t,.slice none 0 0] TD,false,none,Z.clock+3⟩:=by
  rw[Ao,if_pos rfl];rfl
 simp -implicitDefEqProofs only[go_sem,Av,Ah2,Z1,Ah3,Z2,Ah4,Z3,AwH]
 generalize hff:upd _ 4 _=f1
 generalize hbf:bG=fuel
 generalize aC.put _ _ _ _=a_ at x1 hw1 c1 g2 g3 ⊢
 obtain⟨f2,g2',a9,e2,h2⟩:=ZA m hC rfl hR hfew ds.length fuel 0 f1 _ a_ (by omega) (by rw[<-hbf];show ds.length<1000000000000;omega) {
  f1:=by rw[<-hff];simp -implicitDefEqProofs only[go_sem,reduceCtorEq]
  f2:=by rw[<-hff];simp -implicitDefEqProofs only[go_sem,reduceCtorEq]
  f3:=by rw[<-hff];simp -implicitDefEqProofs only[go_sem,reduceCtorEq]
  f4:=by rw[<-hff];simp -implicitDefEqProofs only[go_sem,reduceCtorEq]<;>rfl
  c1:=c1
  g2:=⟨_,g2⟩
  g3:=⟨_,_,g3,.inl ⟨rfl,rfl⟩⟩
  lay:=hE.keep fun b cs hb hc=>⟨(x1.cells (hw.cells hc)).trans hc,hb⟩
  wf:=hw1
  ext:=x1 }
 rw[e2]
 obtain⟨v3,s,hg3,hV⟩:=h2.g3
 obtain⟨v2,hg2⟩:=h2.g2
 have o:=hV.ones
 rw[List.take_length] at hV
 obtain⟨p,rfl,hE2⟩:=hV.slice
 have hc3:=Ar hg3
 have m2:=(h2.wf _ _ hg2).1
 simp -implicitDefEqProofs only[go_sem,Av,Ah7,Z6,h2.f2,h2.f3,hc3,hg2,Bm,AP,AA,Ay,AO]
 exact⟨_,_,rfl,h2.ext.put _ _ _ (by omega),h2.wf.put _ _ _ m2,p,_,rfl,hE2.keep fun b cs hb hc=>⟨by rw[Al,if_neg (by omega)];exact hc,by omega⟩⟩
theorem WG(n:Nat):∀(N:Nat) (d:D),D.deep d<=N->d.count<900->KeepAt (n+N) d
 | 0,d,h,_=>by cases d;rw[D.deep] at h;omega
 | N+1,.mk k z t ds,h,hc=>by
  rw[D.deep] at h
  rw[D.count] at hc
  have:=D3 ds
  exact ZB (n+N) k z t ds (by omega) (fun d hd=>WG n N d (by have:=Ek hd;omega) (by have:=Ev hd;omega))
theorem Ad3{d:D}{l:List Int}(hd:d.count<=150):(atR d l).count<=150:=by
 unfold atR
 by_cases h:bD d=0
 .rw[if_pos h]
  cases hx:atZ l d with
  | some x=>have:=HV l d x hx;show x.count<=150;omega
  | none=>show zeroD.count<=150;decide
 .rw[if_neg h];decide
theorem ZZ{d x:D}{l:List Int}(hd:d.count<=150)(hx:x.count<=150):(putR d x l).count<=300:=by
 unfold putR
 by_cases h:twoE d x=0
 .rw[if_pos h]
  cases hw:atZ l d with
  | some w=>
   have:=H_ (l.map Int.toNat) x d w (LL l d w hw).1
   show (putP (l.map Int.toNat) x d).count<=300
   omega
  | none=>show zeroD.count<=300;decide
 .rw[if_neg h];decide
def PsL(Z:aC)(us:List Value)(ls:List (List Int)):Prop:=∀(i:Nat) (l:List Int),ls[i]? = some l->∃p c,us[i]? = some (.slice p l.length c)/\IntsO Z p c l
theorem PsL.ext{Z V:aC}{us:List Value}{ls:List (List Int)}(h:PsL Z us ls)(hw:Wf Z)(hX:Ext Z V):PsL V us ls:=fun i l hl=>by
 obtain⟨p,c,h1,h2⟩:=h i l hl
 exact⟨p,c,h1,h2.ext hw hX⟩
theorem Wy{d x:D}(hd:d.count<=150):(foundIn x (d.pieces [])).length<100000/\∀p∈foundIn x (d.pieces []),p.length<100000:=by
 have h1:=Ni x (d.pieces [])
 have h2:=Dw d []
 have h3:=BB d
 refine⟨by omega,fun p hp=>?_⟩
 unfold foundIn at hp
 obtain⟨y,hy,rfl⟩:=List.mem_map.1 hp
 have:=JS d (by omega) y (List.mem_filter.1 hy).1
 omega
theorem ZC:bI nls 5=[219]:=by kernel_rfl
theorem ZQ(q:Nat)(ds xs:List D)(ls:List (List Int))(p1 p2:Option Addr)(b3 c1 c2 c3:Nat)(us:List Value)(hx:xs.length=ds.length)(hy:ls.length=ds.length)(hu:us.length=ds.length)(hds:ds.length<1000)(hD:∀d∈ds,d.count<=150)(hX:∀d∈xs,d.count<=150)(hY:∀l∈ls,l.length<=51):
  ∀(j fuel i:Nat) (f g:Nat->Value) (Z:aC),ds.length-i=j->j<fuel->i<=ds.length->Wf Z->bC (fun b=>b<Z.next) Z p1 0 ds->bC (fun b=>b<Z.next) Z p2 0 xs->Z.cells b3=some us->PsL Z us ls->
   f 15=.slice p1 ds.length c1->f 16=.slice p2 xs.length c2->f 17=.slice (some ⟨b3,0,none⟩) us.length c3->f 18=.int .i64 (.ofNat i)->
   ∃f' g' V,floop (bI nls 5) (AeG (top (q+6000)) none 5) fuel (Sl 33 220 f g []) none Z=.done (.exit 0) (Sl 33 220 f' g' []) none V:=by
 intro j
 induction j with
 | zero=>
  intro fuel i f g Z hj hf hi hw hE hEx h3 hP f15 f16 f17 f18
  obtain⟨fuel,rfl⟩:∃q,fuel=q+1:=⟨fuel-1,by omega⟩
  obtain rfl:i=ds.length:=by omega
  have d0:decide (Int.ofNat ds.length<Int.ofNat ds.length)=false:=by simp
  rw[Am,ZC]
  unfold AeG
  simp -implicitDefEqProofs only[go_sem,XX,Uv,f15,f18,d0,Bool.false_eq_true]
  exact⟨_,_,_,rfl⟩
 | succ j ih=>
  intro fuel i f g Z hj hf hi hw hE hEx h3 hP f15 f16 f17 f18
  obtain⟨fuel,rfl⟩:∃q,fuel=q+1:=⟨fuel-1,by omega⟩
  have l1:i<ds.length:=by omega
  have l2:i<xs.length:=by omega
  have l3:i<us.length:=by omega
  have l4:i<ls.length:=by omega
  have d0:decide (Int.ofNat i<Int.ofNat ds.length)=true:=by simp;omega
  obtain⟨b1,o1,s1,rfl,hb1,hs1,hl1,hL⟩:=bC.get hE (List.getElem?_eq_getElem l1)
  obtain⟨b2,o2,s2,rfl,hb2,hs2,hl2,hLx⟩:=bC.get hEx (List.getElem?_eq_getElem l2)
  obtain⟨pp,pc,hup,hIO⟩:=hP i _ (List.getElem?_eq_getElem l4)
  rw[Nat.zero_add] at hl1 hl2 hL hLx
  have a1:=EY i (by omega)
  have kd:=hD _ (List.getElem_mem l1)
  have kx:=hX _ (List.getElem_mem l2)
  have kl:=hY _ (List.getElem_mem l4)
  generalize ds[i]=d at hL kd
  generalize xs[i]=x at hLx kx
  generalize ls[i]=l at hup hIO kl
  have n1:(List.take 4 (List.drop (o1+i*4) s1)).length=4:=by rw[List.length_take,List.length_drop];omega
  have n2:(List.take 4 (List.drop (o2+i*4) s2)).length=4:=by rw[List.length_take,List.length_drop];omega
  have st:∀ {τ τ':aC},Ext τ τ'->∀ {v:Value} {d:D},aI (fun b=>b<τ.next) τ v d->aI (fun b=>b<τ'.next) τ' v d:=fun hX v d h=>h.keep fun b cs hb hc=>⟨(hX.cells hb).trans hc,by have:=hX.next;omega⟩
  have dd:=BB d
  have dx:=BB x
  obtain⟨uw,a_,e1,x1,hw1,hLu⟩:=WG (q+5850) 150 d (by omega) (by omega) _ (fun b=>b<Z.next) Z hw hL (fun b hb=>hb)
  rw[show q+5850+150=q+6000 by omega] at e1
  replace e1:=(Dr (q+6000) 10 _ Z rfl).trans e1
  obtain⟨uv,rfl,hu4,huo⟩:=hLu.agg
  have tuv:uv.take 4=uv:=List.take_of_length_le (by omega)
  obtain⟨_,cD,eb,xb,hwb,bv,rfl,hbv,hFb⟩:=Ln (q+5999) (p:=pp) (c:=pc) (l:=l) (by omega) a_ hw1 (hIO.ext hw x1)
  replace eb:=(Dr (q+6000) 33 _ a_ rfl).trans eb
  have v0:=Ce hw (Nat.le_refl _)
  have v01:(view a_ Z.clock).cells b3=some us:=Eo hw (Nat.le_refl _) (x1.get _ (hw.cells h3)) h3
  have x2:Ext cD ((cD.push (.cells [.int .i64 0,.int .i64 0,.string ⟨#[]⟩,.slice none 0 0] TD) none).put cD.next (.cells uv TD) none):=((Ext.refl _).push _ _).put _ _ _ (Nat.le_refl _)
  have hw2:=(hwb.push (.cells [.int .i64 0,.int .i64 0,.string ⟨#[]⟩,.slice none 0 0] TD) none).put cD.next (.cells uv TD) none (Nat.lt_succ_self _)
  have c2:((cD.push (.cells [.int .i64 0,.int .i64 0,.string ⟨#[]⟩,.slice none 0 0] TD) none).put cD.next (.cells uv TD) none).cells cD.next=some uv:=by rw[Al,if_pos rfl];rfl
  have kc2:((cD.push (.cells [.int .i64 0,.int .i64 0,.string ⟨#[]⟩,.slice none 0 0] TD) none).put cD.next (.cells uv TD) none).clock=cD.clock+2:=rfl
  have X2:=(x1.trans xb).trans x2
  rw[Am,ZC]
  unfold AeG
  simp -implicitDefEqProofs only[go_sem,Av,XX,Uv,Amy,Aa1,f15,f16,f17,f18,d0,l1,l3,v0,v01,hs1,hl1,hup,h3,e1,eb,hu4,huo,Ag,Bool.false_eq_true]
  have lu2:aI (fun b=>b<((cD.push (.cells [.int .i64 0,.int .i64 0,.string ⟨#[]⟩,.slice none 0 0] TD) none).put cD.next (.cells uv TD) none).next) ((cD.push (.cells [.int .i64 0,.int .i64 0,.string ⟨#[]⟩,.slice none 0 0] TD) none).put cD.next (.cells uv TD) none) (.agg uv.toArray) d:=hLu.keep fun b cs hb hc=>⟨((xb.trans x2).cells (hw1.cells hc)).trans hc,by have:=hw1.cells hc;have:=(xb.trans x2).next;omega⟩
  have hF2:FulZ ((cD.push (.cells [.int .i64 0,.int .i64 0,.string ⟨#[]⟩,.slice none 0 0] TD) none).put cD.next (.cells uv TD) none) bv l:=Ful.keep hFb (x2.get _ (Ful.lt hFb hwb))
  generalize aC.put _ cD.next _ _=a9 at x2 hw2 c2 X2 kc2 lu2 hF2 ⊢
  have bv2:=Ful.lt hF2 hw2
  obtain⟨_,bS,e3,x3,hw3,av,rfl,hLa⟩:=AvL (q+5991) (q+5969) (q+5696) (by omega) (by omega) d kd uv hu4 (some ⟨bv,0,none⟩) l.length l (by omega) a9 hw2 lu2 (FulZ.o hF2).ints
  replace e3:=(Dr (q+6000) 34 _ a9 rfl).trans e3
  obtain⟨lav,rfl,ha4,hao⟩:=hLa.agg
  have tav:lav.take 4=lav:=List.take_of_length_le (by omega)
  have X3:=X2.trans x3
  have x4:Ext bS ((bS.push (.cells [.int .i64 0,.int .i64 0,.string ⟨#[]⟩,.slice none 0 0] TD) none).put bS.next (.cells lav TD) none):=((Ext.refl _).push _ _).put _ _ _ (Nat.le_refl _)
  have hw4:=(hw3.push (.cells [.int .i64 0,.int .i64 0,.string ⟨#[]⟩,.slice none 0 0] TD) none).put bS.next (.cells lav TD) none (Nat.lt_succ_self _)
  have c4:((bS.push (.cells [.int .i64 0,.int .i64 0,.string ⟨#[]⟩,.slice none 0 0] TD) none).put bS.next (.cells lav TD) none).cells bS.next=some lav:=by rw[Al,if_pos rfl];rfl
  have kc4:((bS.push (.cells [.int .i64 0,.int .i64 0,.string ⟨#[]⟩,.slice none 0 0] TD) none).put bS.next (.cells lav TD) none).clock=bS.clock+2:=rfl
  have X4:=X3.trans x4
  have v2:=Ce hw2 (Nat.le_refl _)
  have k2:∀b cs,Z.cells b=some cs->a9.cells b=some cs:=fun b cs hc=>(X2.cells (hw.cells hc)).trans hc
  simp -implicitDefEqProofs only[go_sem,Av,Amz,Aa2,f15,f16,f17,f18,l1,l2,l3,c2,hu4,tuv,e3,ha4,hao,Nat.le_refl]
  have L4:aI (fun b=>b<((bS.push (.cells [.int .i64 0,.int .i64 0,.string ⟨#[]⟩,.slice none 0 0] TD) none).put bS.next (.cells lav TD) none).next) ((bS.push (.cells [.int .i64 0,.int .i64 0,.string ⟨#[]⟩,.slice none 0 0] TD) none).put bS.next (.cells lav TD) none) (.agg lav.toArray) (atR d l):=hLa.keep fun b cs hb hc=>⟨(x4.cells (hw3.cells hc)).trans hc,by have:=hw3.cells hc;have:=x4.next;omega⟩
  generalize aC.put _ bS.next _ _=bU at x4 hw4 c4 X4 kc4 L4 ⊢
  try rw[<-kc4]
  obtain⟨_,bV,e5,x5,hw5,bw,rfl,hLb⟩:=AnU (q+5997) (q+5843) (by omega) d kd _ n1 pp pc l (by omega) bU hw4 (st X4 hL) (hIO.ext hw X4).ints
  replace e5:=(Dr (q+6000) 35 _ bU rfl).trans e5
  obtain⟨lbv,rfl,hb4,hbo⟩:=hLb.agg
  have tbv:lbv.take 4=lbv:=List.take_of_length_le (by omega)
  have X5:=X4.trans x5
  have x6:Ext bV ((bV.push (.cells [.int .i64 0,.int .i64 0,.string ⟨#[]⟩,.slice none 0 0] TD) none).put bV.next (.cells lbv TD) none):=((Ext.refl _).push _ _).put _ _ _ (Nat.le_refl _)
  have hw6:=(hw5.push (.cells [.int .i64 0,.int .i64 0,.string ⟨#[]⟩,.slice none 0 0] TD) none).put bV.next (.cells lbv TD) none (Nat.lt_succ_self _)
  have c6:((bV.push (.cells [.int .i64 0,.int .i64 0,.string ⟨#[]⟩,.slice none 0 0] TD) none).put bV.next (.cells lbv TD) none).cells bV.next=some lbv:=by rw[Al,if_pos rfl];rfl
  have kc6:((bV.push (.cells [.int .i64 0,.int .i64 0,.string ⟨#[]⟩,.slice none 0 0] TD) none).put bV.next (.cells lbv TD) none).clock=bV.clock+2:=rfl
  have X6:=X5.trans x6
  have v4:=Ce hw4 (Nat.le_refl _)
  have k4:∀b cs,Z.cells b=some cs->bU.cells b=some cs:=fun b cs hc=>(X4.cells (hw.cells hc)).trans hc
  simp -implicitDefEqProofs only[go_sem,Av,AmA,Aa3,f15,f16,f17,f18,l1,l2,l3,v4,k4 _ _ hs1,hl1,k4 _ _ h3,hup,e5,hb4,hbo,Nat.le_refl]
  have L6:aI (fun b=>b<((bV.push (.cells [.int .i64 0,.int .i64 0,.string ⟨#[]⟩,.slice none 0 0] TD) none).put bV.next (.cells lbv TD) none).next) ((bV.push (.cells [.int .i64 0,.int .i64 0,.string ⟨#[]⟩,.slice none 0 0] TD) none).put bV.next (.cells lbv TD) none) (.agg lbv.toArray) (atR d l):=hLb.keep fun b cs hb hc=>⟨(x6.cells (hw5.cells hc)).trans hc,by have:=hw5.cells hc;have:=x6.next;omega⟩
  generalize aC.put _ bV.next _ _=bX at x6 hw6 c6 X6 kc6 L6 ⊢
  rw[<-kc6]
  have x26:=((x3.trans x4).trans x5).trans x6
  have c26:=(x26.cells (hw2.cells c2)).trans c2
  obtain⟨_,bZ,e7,x7,hw7,cv,rfl,hLc⟩:=Aqy (q+5991) (q+5969) (q+5696) (by omega) (by omega) d x kd kx uv _ hu4 n2 l (by omega) bv bX hw6 (st x26 lu2) (st X6 hLx) (Ful.keep hF2 (x26.get _ bv2))
  replace e7:=(Dr (q+6000) 36 _ bX rfl).trans e7
  obtain⟨lcv,rfl,hc4,hco⟩:=hLc.agg
  have tcv:lcv.take 4=lcv:=List.take_of_length_le (by omega)
  have X7:=X6.trans x7
  have x8:Ext bZ ((bZ.push (.cells [.int .i64 0,.int .i64 0,.string ⟨#[]⟩,.slice none 0 0] TD) none).put bZ.next (.cells lcv TD) none):=((Ext.refl _).push _ _).put _ _ _ (Nat.le_refl _)
  have hw8:=(hw7.push (.cells [.int .i64 0,.int .i64 0,.string ⟨#[]⟩,.slice none 0 0] TD) none).put bZ.next (.cells lcv TD) none (Nat.lt_succ_self _)
  have c8:((bZ.push (.cells [.int .i64 0,.int .i64 0,.string ⟨#[]⟩,.slice none 0 0] TD) none).put bZ.next (.cells lcv TD) none).cells bZ.next=some lcv:=by rw[Al,if_pos rfl];rfl
  have kc8:((bZ.push (.cells [.int .i64 0,.int .i64 0,.string ⟨#[]⟩,.slice none 0 0] TD) none).put bZ.next (.cells lcv TD) none).clock=bZ.clock+2:=rfl
  have X8:=X7.trans x8
  have v6:=Ce hw6 (Nat.le_refl _)
  have k6:∀b cs,Z.cells b=some cs->bX.cells b=some cs:=fun b cs hc=>(X6.cells (hw.cells hc)).trans hc
  simp -implicitDefEqProofs only[go_sem,Av,AmB,Aa4,f15,f16,f17,f18,l1,l2,l3,v6,c26,hu4,tuv,k6 _ _ hs2,hl2,e7,hc4,hco,Nat.le_refl]
  have L8:aI (fun b=>b<((bZ.push (.cells [.int .i64 0,.int .i64 0,.string ⟨#[]⟩,.slice none 0 0] TD) none).put bZ.next (.cells lcv TD) none).next) ((bZ.push (.cells [.int .i64 0,.int .i64 0,.string ⟨#[]⟩,.slice none 0 0] TD) none).put bZ.next (.cells lcv TD) none) (.agg lcv.toArray) (putR d x l):=hLc.keep fun b cs hb hc=>⟨(x8.cells (hw7.cells hc)).trans hc,by have:=hw7.cells hc;have:=x8.next;omega⟩
  generalize aC.put _ bZ.next _ _=cA at x8 hw8 c8 X8 kc8 L8 ⊢
  rw[<-kc8]
  obtain⟨_,b_,e9,x9,hw9,dv,rfl,hLd⟩:=Vd (q+5995) (q+3994) (q+5795) (by omega) (by omega) d x kd kx _ _ n1 n2 pp pc l kl cA hw8 (st X8 hL) (st X8 hLx) (hIO.ext hw X8)
  replace e9:=(Dr (q+6000) 37 _ cA rfl).trans e9
  obtain⟨ldv,rfl,hd4,hdo⟩:=hLd.agg
  have tdv:ldv.take 4=ldv:=List.take_of_length_le (by omega)
  have X9:=X8.trans x9
  have x10:Ext b_ ((b_.push (.cells [.int .i64 0,.int .i64 0,.string ⟨#[]⟩,.slice none 0 0] TD) none).put b_.next (.cells ldv TD) none):=((Ext.refl _).push _ _).put _ _ _ (Nat.le_refl _)
  have hw10:=(hw9.push (.cells [.int .i64 0,.int .i64 0,.string ⟨#[]⟩,.slice none 0 0] TD) none).put b_.next (.cells ldv TD) none (Nat.lt_succ_self _)
  have c10:((b_.push (.cells [.int .i64 0,.int .i64 0,.string ⟨#[]⟩,.slice none 0 0] TD) none).put b_.next (.cells ldv TD) none).cells b_.next=some ldv:=by rw[Al,if_pos rfl];rfl
  have kc10:((b_.push (.cells [.int .i64 0,.int .i64 0,.string ⟨#[]⟩,.slice none 0 0] TD) none).put b_.next (.cells ldv TD) none).clock=b_.clock+2:=rfl
  have X10:=X9.trans x10
  have v8:=Ce hw8 (Nat.le_refl _)
  have k8:∀b cs,Z.cells b=some cs->cA.cells b=some cs:=fun b cs hc=>(X8.cells (hw.cells hc)).trans hc
  simp -implicitDefEqProofs only[go_sem,Av,AmC,Aa5,f15,f16,f17,f18,l1,l2,l3,v8,k8 _ _ hs1,hl1,k8 _ _ h3,hup,k8 _ _ hs2,hl2,e9,hd4,hdo,Nat.le_refl]
  have L10:aI (fun b=>b<((b_.push (.cells [.int .i64 0,.int .i64 0,.string ⟨#[]⟩,.slice none 0 0] TD) none).put b_.next (.cells ldv TD) none).next) ((b_.push (.cells [.int .i64 0,.int .i64 0,.string ⟨#[]⟩,.slice none 0 0] TD) none).put b_.next (.cells ldv TD) none) (.agg ldv.toArray) (putR d x l):=hLd.keep fun b cs hb hc=>⟨(x10.cells (hw9.cells hc)).trans hc,by have:=hw9.cells hc;have:=x10.next;omega⟩
  generalize aC.put _ b_.next _ _=cI at x10 hw10 c10 X10 kc10 L10 ⊢
  rw[<-kc10]
  have x210:=(((x26.trans x7).trans x8).trans x9).trans x10
  have c210:=(x210.cells (hw2.cells c2)).trans c2
  obtain⟨w11,cF,e11,x11,hw11,hq11⟩:=Ahp (q+5991) (q+5969) (q+5691) (by omega) (by omega) d x kd kx uv _ hu4 n2 cI hw10 (st x210 lu2) (st X10 hLx)
  replace e11:=(Dr (q+6000) 38 _ cI rfl).trans e11
  obtain⟨u11,us11,rfl,hv11,hp11⟩:∃u us,w11=Value.tuple #[u,.int .i64 (twoE d x:Nat)]/\Vecs 25 (fun _=>True) cF u us/\PathsL (fun _=>True) cF us (if twoE d x=0 then foundIn x (d.pieces []) else []):=by
   unfold FindOk at hq11
   by_cases h:twoE d x=0
   .rw[if_pos h] at hq11 ⊢
    obtain⟨u,rfl,us,h1,h2⟩:=hq11
    exact⟨u,us,by rw[h];rfl,h1.keep (fun b _ _=>⟨rfl,trivial⟩) hw11,h2.keep fun b c _ hc=>⟨hc,trivial⟩⟩
   .rw[if_neg h] at hq11 ⊢
    exact⟨_,[],hq11,.inl ⟨rfl,rfl⟩,trivial⟩
  have X11:=X10.trans x11
  have v10:=Ce hw10 (Nat.le_refl _)
  have k10:∀b cs,Z.cells b=some cs->cI.cells b=some cs:=fun b cs hc=>(X10.cells (hw.cells hc)).trans hc
  obtain⟨_,cK,e12,x12,hw12,u12,us12,rfl,hv12,hp12⟩:=PL (q+5996) (q+5696) (by omega) d x kd kx _ _ n1 n2 cF hw11 (st X11 hL) (st X11 hLx)
  replace e12:=(Dr (q+6000) 39 _ cF rfl).trans e12
  have X12:=X11.trans x12
  have v11:=Ce hw11 (Nat.le_refl _)
  have k11:∀b cs,Z.cells b=some cs->cF.cells b=some cs:=fun b cs hc=>(X11.cells (hw.cells hc)).trans hc
  simp -implicitDefEqProofs only[go_sem,Av,AmD,Aa6,AmE,Aa7,f15,f16,f17,f18,l1,l2,l3,v10,v11,c210,hu4,tuv,k10 _ _ hs2,hl2,e11,k11 _ _ hs1,k11 _ _ hs2,hl1,e12,Nat.le_refl]
  have x412:=(((((((x5.trans x6).trans x7).trans x8).trans x9).trans x10).trans x11).trans x12)
  have x612:=(((((x7.trans x8).trans x9).trans x10).trans x11).trans x12)
  have x812:=(((x9.trans x10).trans x11).trans x12)
  have x1012:=x11.trans x12
  have c412:=(x412.cells (hw4.cells c4)).trans c4
  have c612:=(x612.cells (hw6.cells c6)).trans c6
  have c812:=(x812.cells (hw8.cells c8)).trans c8
  have c1012:=(x1012.cells (hw10.cells c10)).trans c10
  have c212:=(x1012.cells (hw10.cells c210)).trans c210
  have rs1:=@Ad3 d l kd
  have rd1:=BB (atR d l)
  have rs2:=@ZZ d x l kd kx
  have rd2:=BB (putR d x l)
  obtain⟨_,cL,e13,x13,hw13,rfl⟩:=FW (q+2000) 2000 (atR d l) (atR d l) (.agg lav.toArray) (.agg lbv.toArray) cK (by omega) (by omega) hw12 (st x412 L4).laid (st x612 L6).laid
  rw[FQ,show q+2000+2*2000=q+6000 by omega] at e13
  replace e13:=(Dr (q+6000) 18 _ cK rfl).trans e13
  obtain⟨_,cH,e14,x14,hw14,rfl⟩:=FW (q+2000) 2000 (putR d x l) (putR d x l) (.agg lcv.toArray) (.agg ldv.toArray) cL (by omega) (by omega) hw13 (st (x812.trans x13) L8).laid (st (x1012.trans x13) L10).laid
  rw[FQ,show q+2000+2*2000=q+6000 by omega] at e14
  replace e14:=(Dr (q+6000) 18 _ cL rfl).trans e14
  have x1214:=x13.trans x14
  have x1114:=x12.trans x1214
  obtain⟨fl1,fl2⟩:(if twoE d x=0 then foundIn x (d.pieces []) else []).length<100000/\∀p∈(if twoE d x=0 then foundIn x (d.pieces []) else []),p.length<100000:=by
   by_cases h:twoE d x=0
   .rw[if_pos h];exact Wy kd
   .rw[if_neg h];exact⟨by simp,fun p hp=>by simp at hp⟩
  have e15:=ArD (q+5998) (Q:=fun _=>True) (Q':=fun _=>True) (R:=fun _=>True) (R':=fun _=>True) hw14 fl1 fl2 (hv11.keep (fun b _ hb=>⟨x1114.get b hb,trivial⟩) hw11) (hv12.keep (fun b _ hb=>⟨x1214.get b hb,trivial⟩) hw12) (hp11.keep fun b c _ hc=>⟨(x1114.cells (hw11.cells hc)).trans hc,trivial⟩) (hp12.keep fun b c _ hc=>⟨(x1214.cells (hw12.cells hc)).trans hc,trivial⟩)
  replace e15:=(Dr (q+6000) 40 _ cH rfl).trans e15
  have X14:=X12.trans x1214
  obtain⟨_,cG,e16,x15,hw15,rfl⟩:=FW (q+2000) 2000 d d (.agg uv.toArray) _ cH (by omega) (by omega) hw14 (st ((x210.trans x1012).trans x1214) lu2).laid (st X14 hL).laid
  rw[FQ,show q+2000+2*2000=q+6000 by omega] at e16
  replace e16:=(Dr (q+6000) 18 _ cH rfl).trans e16
  have X15:=X14.trans x15
  have e17:=Zj (q+5999) (l:=l) (a:=some ⟨bv,0,none⟩) (a':=pp) (cx:=l.length) (cx':=pc) hw15 (by omega) (FulZ.o (Ful.keep hF2 ((((x210.trans x1012).trans x1214).trans x15).get _ bv2))).ints (hIO.ext hw X15).ints
  replace e17:=(Dr (q+6000) 41 _ cG rfl).trans e17
  have v12:=Ce hw12 (Nat.le_refl _)
  have v13:=Ce hw13 (Nat.le_refl _)
  have v14:=Ce hw14 (Nat.le_refl _)
  have v15:=Ce hw15 (Nat.le_refl _)
  have c813:=(x13.cells (hw12.cells c812)).trans c812
  have c1013:=(x13.cells (hw12.cells c1012)).trans c1012
  have c214:=(x1214.cells (hw12.cells c212)).trans c212
  have k14:cH.cells b1=some s1:=(X14.cells (hw.cells hs1)).trans hs1
  have k15:cG.cells b3=some us:=(X15.cells (hw.cells h3)).trans h3
  simp -implicitDefEqProofs only[go_sem,Av,AmF,Aa8,Amx,Aa0,f15,f16,f17,f18,l1,l3,v12,v13,v14,v15,c412,c612,c813,c1013,c214,k14,k15,hl1,hup,ha4,hb4,hc4,hd4,hu4,tav,tbv,tcv,tdv,tuv,e13,e14,e15,e16,e17,a1,Ag,Bool.false_eq_true,Bool.or_false,Bool.or_self,Bool.not_true,beq_self_eq_true,Nat.le_refl]
  generalize hff:upd _ 18 _=f2'
  generalize hgg:upd _ 94 _=g2'
  have sE:∀ {p:Option Addr} {l:List D},bC (fun b=>b<Z.next) Z p 0 l->bC (fun b=>b<cG.next) cG p 0 l:=fun h=>h.keep fun b cs hb hc=>⟨(X15.cells hb).trans hc,by have:=X15.next;omega⟩
  have ih':=ih fuel (i+1) f2' g2' cG (by omega) (by omega) (by omega) hw15 (sE hE) (sE hEx) k15 (hP.ext hw X15) (by rw[<-hff];simp -implicitDefEqProofs only[go_sem,reduceCtorEq,f15]) (by rw[<-hff];simp -implicitDefEqProofs only[go_sem,reduceCtorEq,f16]) (by rw[<-hff];simp -implicitDefEqProofs only[go_sem,reduceCtorEq,f17]) (by rw[<-hff];simp -implicitDefEqProofs only[go_sem,reduceCtorEq])
  rw[ZC] at ih'
  unfold AeG at ih'
  exact ih'
theorem Ny{l:List Value}(h:l.length=4):∃a b c d,l=[a,b,c,d]:=by
 match l,h with
 | [a,b,c,d],_=>exact⟨a,b,c,d,rfl⟩
theorem ArS(R:Nat->Prop)(Z:aC)(b:Nat)(l0 l1 l2:List Value)(h0:l0.length=4)(h1:l1.length=4)(h2:l2.length=4)(d0 d1 d2:D)(hR:R b)(hc:Z.cells b=some (l0++l1++l2))(k0:aI R Z (.agg l0.toArray) d0)(k1:aI R Z (.agg l1.toArray) d1)(k2:aI R Z (.agg l2.toArray) d2):bC R Z (some ⟨b,0,none⟩) 0 [d0,d1,d2]:=by
 obtain⟨a0,a1,a2,a3,rfl⟩:=Ny h0
 obtain⟨b0,b1,b2,b3,rfl⟩:=Ny h1
 obtain⟨c0,c1,c2,c3,rfl⟩:=Ny h2
 exact⟨⟨b,0,_,rfl,hR,hc,by simp,k0⟩,⟨b,0,_,rfl,hR,hc,by simp,k1⟩,⟨b,0,_,rfl,hR,hc,by simp,k2⟩,trivial⟩
theorem IntsO.keep{Z V:aC}{p:Option Addr}{c:Nat}{l:List Int}(h:IntsO Z p c l)(hk:∀b off,p=some ⟨b,off,none⟩->b<Z.next->V.heap.get b=Z.heap.get b)(hw:Wf Z):IntsO V p c l:=by
 rcases h with h|⟨b,off,cs,el,ro,fz,ver,rfl,hb,h1⟩
 .exact .inl h
 .exact .inr ⟨b,off,cs,el,ro,fz,ver,rfl,(hk b off rfl (hw _ _ hb).1).trans hb,h1⟩
theorem RR(l m:List Int):intsZ (l++m)=intsZ l++intsZ m:=List.map_append
def AnY(E:Env)(ro:Option Nat)(fn:FuncId):aZ:=aF (drawR E ro Axl) (aF (aF (aD E ro Axm) (aW 0 (loopR (bI nls fn) (AeG E ro fn)))) (aF (aD E ro AmG) bM))
def AnX(E:Env)(ro:Option Nat)(fn:FuncId):aZ:=aF (aD E ro Axg) (aF (aD E ro Axh) (aF (aD E ro Axi) (aF (aD E ro Axj) (aF (drawR E ro Axk) (AnY E ro fn)))))
theorem Agi(E:Env)(ro:Option Nat)(fn:FuncId):Axy E ro fn=aF (aD E ro Axc) (aF (aF (aD E ro Axd) (aL (fun a=>a.get 43) (aF (aD E ro Axe) bM) aU)) (AnX E ro fn)):=rfl
theorem ZS(q b4 b5 b10 b13 cn kk:Nat)(a b x t:D)(la lb lx lt:List Value)(ha4:la.length=4)(hb4:lb.length=4)(hx4:lx.length=4)(ht4:lt.length=4)(p pu:Option Addr)(cp cu:Nat)(l lu:List Int)(hl:l.length<=50)(hlu:lu.length<=50)(f g:Nat->Value)(Z:aC)(hw:Wf Z)(hC:Coil Z cn kk)(hkk:kk+1000<100000000)(c4:Z.cells b4=some la)(c5:Z.cells b5=some lb)(c10:Z.cells b10=some lx)(c13:Z.cells b13=some lt)(m4:b4≠cn)(m5:b5≠cn)(m10:b10≠cn)(m13:b13≠cn)(hcn:cn<Z.next)(hA:aI (fun b=>b<Z.next/\b≠cn) Z (.agg la.toArray) a)(hB:aI (fun b=>b<Z.next/\b≠cn) Z (.agg lb.toArray) b)(hX:aI (fun b=>b<Z.next/\b≠cn) Z (.agg lx.toArray) x)(hT:aI (fun b=>b<Z.next/\b≠cn) Z (.agg lt.toArray) t)(hI:IntsO Z p cp l)(hIn:∀b off,p=some ⟨b,off,none⟩->b≠cn)(hU:IntsO Z pu cu lu)(hUn:∀b off,pu=some ⟨b,off,none⟩->b≠cn)(ka:a.count<=150)(kb:b.count<=150)(kx:x.count<=150)(kt:t.count<=150)(f2:f 2=.slice p l.length cp)(f4:f 4=.pointer (some ⟨b4,0,none⟩))(f5:f 5=.pointer (some ⟨b5,0,none⟩))(f9:f 9=.pointer (some ⟨cn,0,none⟩))(f10:f 10=.pointer (some ⟨b10,0,none⟩))(f12:f 12=.slice pu lu.length cu)(f13:f 13=.pointer (some ⟨b13,0,none⟩)):
  ∃V,aN Tryz.prog (top (q+6000)) [.tmp 8] (AnY (top (q+6000)) none 5 (Sl 33 220 f g []) none Z)=.ret (.bool true) none V:=by
 obtain⟨_,a_,e1,x1,hw1,bk,rfl,hbk,hF1⟩:=Ln (q+5999) (p:=pu) (c:=cu) (l:=lu) (by omega) Z hw hU
 replace e1:=(Dr (q+6000) 33 _ Z rfl).trans e1
 obtain⟨r,a9,e2,_,_,W2⟩:=Ko (q+5998) cn kk 2 (by omega) (by omega) a_ hw1 (hC.ext hw x1)
 replace e2:(top (q+6000)).call 19 [.pointer (some ⟨cn,0,none⟩),.int .i64 2] none a_=.ret (.int .i64 r) none a9:=(Dr _ _ _ _ rfl).trans e2
 have n1:=x1.next
 have n2:=W2.ext.next
 have bkn:=Ful.lt hF1 hw1
 have hF2:FulZ (a9.push (.cells [.int .i64 r] TI) none) bk lu:=Ful.keep hF1 (by rw[Ai,if_neg (by omega),W2.ext.get _ (by omega) (by omega)])
 have hw2':=W2.wf.push (.cells [.int .i64 r] TI) none
 obtain⟨bn,sn,τ,e3,hF3,hbn,C3,hw3⟩:=Ful.append hF2 hw2' (.slice (some ⟨a9.next,0,none⟩) 1 1) [.int .i64 r] 8 (EH a9.next 1 1 [.int .i64 r] [] (by rw[Ac,if_pos rfl];rfl) rfl) (by rw[List.all_cons,A8];rfl) (by omega) (by rw[Es];simp;omega)
 rw[show intsZ lu++[.int .i64 r]=intsZ (lu++[r]) by rw[RR];rfl] at hF3
 have hsn:=hF3.cells.1
 rw[Es] at hsn
 subst hsn
 have hF3':FulZ τ bn (lu++[r]):=hF3
 have n3:=C3.next
 rw[Aa] at n3 hbn
 have e3':bO 3 1 8 (.slice (some ⟨bk,0,none⟩) lu.length lu.length) (.slice (some ⟨a9.next,0,none⟩) 1 1) (a9.push (.cells [.int .i64 r] 3) none)=_:=e3
 have gt:∀b,b<Z.next->b≠cn->τ.heap.get b=Z.heap.get b:=fun b hb hne=>by
  rw[C3.get b (by rw[Aa];omega) (by omega),Ai,if_neg (by omega),W2.ext.get b (by omega) hne,x1.get b hb]
 have kt':∀b cs,Z.cells b=some cs->b≠cn->τ.cells b=some cs:=fun b cs hc hne=>by
  have h1:=gt b (hw.cells hc) hne
  rw[AG] at hc ⊢
  rw[h1];exact hc
 obtain⟨a0,a1,a2,a3,rfl⟩:=Ny ha4
 obtain⟨i0,i1,i2,i3,rfl⟩:=Ny hb4
 obtain⟨x0,y1,x2,x3,rfl⟩:=Ny hx4
 obtain⟨t0,t1,t2,t3,rfl⟩:=Ny ht4
 have vo:∀ {υ:aC} {b:Nat} {cs:List Value},Z.cells b=some cs->b≠cn->(∀b,b<τ.next->υ.heap.get b=τ.heap.get b)->(view υ Z.clock).cells b=some cs:=fun hc hb hk=>Eo hw (Nat.le_refl _) ((hk _ (by have:=hw.cells hc;omega)).trans (gt _ (hw.cells hc) hb)) hc
 have p1:∀b,b<τ.next->(τ.push (.cells [a0,a1,a2,a3,x0,y1,x2,x3,x0,y1,x2,x3] TD) none).heap.get b=τ.heap.get b:=fun b hb=>by rw[Ai,if_neg (by omega)]
 have v4:=vo c4 m4 (υ:=τ) fun b hb=>rfl
 have v10:=vo c10 m10 (υ:=τ) fun b hb=>rfl
 have v5:=vo c5 m5 p1
 have v13:=vo c13 m13 p1
 have X:Ext τ (((τ.push (.cells [a0,a1,a2,a3,x0,y1,x2,x3,x0,y1,x2,x3] TD) none).push (.cells [i0,i1,i2,i3,t0,t1,t2,t3,i0,i1,i2,i3] TD) none).push (.cells [.slice p l.length cp,.slice pu lu.length cu,.slice (some ⟨bn,0,none⟩) (lu++[r]).length (lu++[r]).length] 25) none):=(((Ext.refl _).push _ _).push _ _).push _ _
 have hw4:=((hw3.push (.cells [a0,a1,a2,a3,x0,y1,x2,x3,x0,y1,x2,x3] TD) none).push (.cells [i0,i1,i2,i3,t0,t1,t2,t3,i0,i1,i2,i3] TD) none).push (.cells [.slice p l.length cp,.slice pu lu.length cu,.slice (some ⟨bn,0,none⟩) (lu++[r]).length (lu++[r]).length] 25) none
 have g1:(((τ.push (.cells [a0,a1,a2,a3,x0,y1,x2,x3,x0,y1,x2,x3] TD) none).push (.cells [i0,i1,i2,i3,t0,t1,t2,t3,i0,i1,i2,i3] TD) none).push (.cells [.slice p l.length cp,.slice pu lu.length cu,.slice (some ⟨bn,0,none⟩) (lu++[r]).length (lu++[r]).length] 25) none).cells τ.next=some [a0,a1,a2,a3,x0,y1,x2,x3,x0,y1,x2,x3]:=by rw[Ac,if_neg (by simp only[Aa];omega),Ac,if_neg (by rw[Aa];omega),Ac,if_pos rfl];rfl
 have g2:(((τ.push (.cells [a0,a1,a2,a3,x0,y1,x2,x3,x0,y1,x2,x3] TD) none).push (.cells [i0,i1,i2,i3,t0,t1,t2,t3,i0,i1,i2,i3] TD) none).push (.cells [.slice p l.length cp,.slice pu lu.length cu,.slice (some ⟨bn,0,none⟩) (lu++[r]).length (lu++[r]).length] 25) none).cells (τ.next+1)=some [i0,i1,i2,i3,t0,t1,t2,t3,i0,i1,i2,i3]:=by rw[Ac,if_neg (by simp only[Aa];omega),Ac,if_pos (by rw[Aa])];rfl
 have g3:(((τ.push (.cells [a0,a1,a2,a3,x0,y1,x2,x3,x0,y1,x2,x3] TD) none).push (.cells [i0,i1,i2,i3,t0,t1,t2,t3,i0,i1,i2,i3] TD) none).push (.cells [.slice p l.length cp,.slice pu lu.length cu,.slice (some ⟨bn,0,none⟩) (lu++[r]).length (lu++[r]).length] 25) none).cells (τ.next+2)=some [.slice p l.length cp,.slice pu lu.length cu,.slice (some ⟨bn,0,none⟩) (lu++[r]).length (lu++[r]).length]:=by rw[Ac,if_pos (by simp only[Aa])];rfl
 have n4:(((τ.push (.cells [a0,a1,a2,a3,x0,y1,x2,x3,x0,y1,x2,x3] TD) none).push (.cells [i0,i1,i2,i3,t0,t1,t2,t3,i0,i1,i2,i3] TD) none).push (.cells [.slice p l.length cp,.slice pu lu.length cu,.slice (some ⟨bn,0,none⟩) (lu++[r]).length (lu++[r]).length] 25) none).next=τ.next+3:=rfl
 unfold AnY
 simp -implicitDefEqProofs only[go_sem,Aru,AmN,Arv,AmO,f2,f4,f5,f9,f10,f12,f13,e1,e2,e3',v4,v5,v10,v13,Nat.le_refl]
 have kTau:∀b cs,Z.cells b=some cs->b≠cn->(((τ.push (.cells [a0,a1,a2,a3,x0,y1,x2,x3,x0,y1,x2,x3] TD) none).push (.cells [i0,i1,i2,i3,t0,t1,t2,t3,i0,i1,i2,i3] TD) none).push (.cells [.slice p l.length cp,.slice pu lu.length cu,.slice (some ⟨bn,0,none⟩) (lu++[r]).length (lu++[r]).length] 25) none).cells b=some cs:=fun b cs hc hne=>(X.cells (hw3.cells (kt' b cs hc hne))).trans (kt' b cs hc hne)
 have hIs:PsL (((τ.push (.cells [a0,a1,a2,a3,x0,y1,x2,x3,x0,y1,x2,x3] TD) none).push (.cells [i0,i1,i2,i3,t0,t1,t2,t3,i0,i1,i2,i3] TD) none).push (.cells [.slice p l.length cp,.slice pu lu.length cu,.slice (some ⟨bn,0,none⟩) (lu++[r]).length (lu++[r]).length] 25) none) [.slice p l.length cp,.slice pu lu.length cu,.slice (some ⟨bn,0,none⟩) (lu++[r]).length (lu++[r]).length] [l,lu,lu++[r]]:=fun i m hm=>by
  match i,hm with
  | 0,hm=>cases hm;exact⟨p,cp,rfl,(hI.keep (fun b off e hb=>gt b hb (hIn b off e)) hw).ext hw3 X⟩
  | 1,hm=>cases hm;exact⟨pu,cu,rfl,(hU.keep (fun b off e hb=>gt b hb (hUn b off e)) hw).ext hw3 X⟩
  | 2,hm=>cases hm;exact⟨_,_,rfl,(FulZ.o hF3').ext hw3 X⟩
  | i+3,hm=>simp at hm
 generalize hPS:([.slice p l.length cp,.slice pu lu.length cu,.slice (some ⟨bn,0,none⟩) (lu++[r]).length (lu++[r]).length]:List Value)=us at g3 hIs X hw4 g1 g2 n4 kTau ⊢
 have hus:us.length=3:=by rw[<-hPS];rfl
 generalize (((τ.push (.cells [a0,a1,a2,a3,x0,y1,x2,x3,x0,y1,x2,x3] TD) none).push (.cells [i0,i1,i2,i3,t0,t1,t2,t3,i0,i1,i2,i3] TD) none).push (.cells us 25) none)=bV at X hw4 g1 g2 g3 n4 hIs kTau ⊢
 have st:∀ {v:Value} {d:D},aI (fun b=>b<Z.next/\b≠cn) Z v d->aI (fun b=>b<bV.next) bV v d:=fun h=>h.keep fun b cs hb hc=>⟨kTau b cs hc hb.2,by have:=hb.1;omega⟩
 have lp:=fun fuel f g hf h15 h16 h17 h18=>ZQ q [a,x,x] [b,t,b] [l,lu,lu++[r]] (some ⟨τ.next,0,none⟩) (some ⟨τ.next+1,0,none⟩) (τ.next+2) 3 3 3 us rfl rfl hus (by simp) (fun d hd=>by simp at hd;rcases hd with rfl|rfl|rfl<;>omega) (fun d hd=>by simp at hd;rcases hd with rfl|rfl|rfl<;>omega) (fun d hd=>by simp only[List.mem_cons,List.not_mem_nil,or_false] at hd;rcases hd with rfl|rfl|rfl<;>(try rw[List.length_append,List.length_singleton])<;>omega)
  3 fuel 0 f g bV rfl hf (by simp) hw4 (ArS _ _ _ _ _ _ rfl rfl rfl a x x (by omega) g1 (st hA) (st hX) (st hX)) (ArS _ _ _ _ _ _ rfl rfl rfl b t b (by omega) g2 (st hB) (st hT) (st hB)) g3 hIs h15 h16 h17 h18
 generalize hbf:bG=fuel
 generalize hff:upd _ 18 _=f1
 generalize hgg:upd _ 88 _=gg
 obtain⟨f',g',V,h⟩:=lp fuel f1 gg (by rw[<-hbf];show 3<1000000000000;omega) (by rw[<-hff];simp -implicitDefEqProofs only[go_sem,reduceCtorEq]<;>rfl) (by rw[<-hff];simp -implicitDefEqProofs only[go_sem,reduceCtorEq]<;>rfl) (by rw[<-hff,hus];simp -implicitDefEqProofs only[go_sem,reduceCtorEq]<;>rfl) (by rw[<-hff];simp -implicitDefEqProofs only[go_sem,reduceCtorEq]<;>rfl)
 rw[h]
 simp -implicitDefEqProofs only[go_sem,AmH,Aa9,IW]
 exact⟨_,rfl⟩
end
section
open Go Go.Eng
def isCells(W:World)(b:Nat):Bool:=match W.heap[b]? with
 | some (.cells ..)=>true
 | _=>false
def seenV(W:World)(v:Value):Value:=
 match v with
 | .int k n=>.int k n
 | .string s=>.string s
 | .slice none l c=>.slice none l c
 | .slice (some a) l c=>if l=0/\c=0 then .slice (some ⟨0,0,none⟩) 0 0 else if a.spot=none/\isCells W a.block=true then .slice (some ⟨a.block,a.off,none⟩) l c else .tuple #[]
 | _=>.tuple #[]
def seenM(W:World):Mp:=fun b=>if isCells W b=true then some ⟨b,0,true,none⟩ else none
def seenE(W:World)(b:Nat):Option Ent:=match W.heap[b]? with
 | some (.cells c t _)=>some ⟨.cells (c.toList.map (seenV W)) t,true,none,0⟩
 | _=>none
def seenT(W:World):Nat->Tr Ent
 | 0=>.lf
 | n+1=>match seenE W n with
  | some e=>(seenT W n).set n e
  | none=>seenT W n
def seenS(W:World):aC:=⟨seenT W W.heap.size,W.heap.size,1⟩
theorem K8(W:World):∀n b,(seenT W n).get b=if b<n then seenE W b else none
 | 0,b=>by rw[if_neg (Nat.not_lt_zero b)];rfl
 | n+1,b=>by
  rw[seenT]
  cases h:seenE W n with
  | some e=>
   rw[Tr.get_set,K8 W n b]
   by_cases hb:b=n
   .subst hb
    rw[if_pos rfl,if_pos (Nat.lt_succ_self b),h]
   .rw[if_neg hb]
    by_cases hl:b<n
    .rw[if_pos hl,if_pos (by omega)]
    .rw[if_neg hl,if_neg (by omega)]
  | none=>
   show (seenT W n).get b=_
   rw[K8 W n b]
   by_cases hb:b=n
   .subst hb
    rw[if_neg (Nat.lt_irrefl b),if_pos (Nat.lt_succ_self b),h]
   .by_cases hl:b<n
    .rw[if_pos hl,if_pos (by omega)]
    .rw[if_neg hl,if_neg (by omega)]
theorem IV(W:World)(b:Nat):(seenS W).heap.get b=seenE W b:=by
 show (seenT W W.heap.size).get b=_
 rw[K8]
 by_cases h:b<W.heap.size
 .rw[if_pos h]
 .rw[if_neg h]
  unfold seenE
  rw[Array.getElem?_eq_none (by omega)]
theorem Pg{W:World}{b:Nat}{e:Ent}(h:seenE W b=some e):∃c t fr,W.heap[b]? = some (.cells c t fr)/\e=⟨.cells (c.toList.map (seenV W)) t,true,none,0⟩/\b<W.heap.size:=by
 unfold seenE at h
 split at h
 .rename_i c t fr hb
  cases h
  exact⟨c,t,fr,hb,rfl,(Array.getElem?_eq_some_iff.1 hb).1⟩
 .cases h
theorem AdS(W:World):Wf (seenS W):=fun b e h=>by
 rw[IV] at h
 obtain⟨c,t,fr,h1,rfl,h2⟩:=Pg h
 exact⟨h2,Nat.lt_succ_self 0⟩
theorem Fj{W:World}{b:Nat}:isCells W b=true↔∃c t fr,W.heap[b]? = some (.cells c t fr):=by
 unfold isCells
 split
 .rename_i c t fr h
  exact⟨fun _=>⟨c,t,fr,h⟩,fun _=>rfl⟩
 .rename_i h
  exact⟨fun h'=>(by cases h'),fun ⟨c,t,fr,h'⟩=>absurd h' (h c t fr)⟩
theorem Ph{W:World}{b:Nat}{c:Array Value}{t:TypeId}{fr:Nat×Nat}(h:W.heap[b]? = some (.cells c t fr)):(seenS W).cells b=some (c.toList.map (seenV W)):=by
 rw[AG,IV]
 unfold seenE
 rw[h]
 rfl
theorem Er{W:World}{a:Addr}{v:Value}(h:W.cell? a=some v):a.spot=none/\isCells W a.block=true/\∃c t fr,W.heap[a.block]? = some (.cells c t fr)/\c[a.off]? = some v:=by
 unfold World.cell? at h
 split at h
 .rename_i c t fr hb
  split at h
  .cases h
  .rename_i hs
   exact⟨by simpa using hs,Fj.2 ⟨c,t,fr,hb⟩,c,t,fr,hb,h⟩
 .cases h
theorem K9{W:World}(hg:isCells W 0=true)(v:Value):bK (seenM W) (seenV W v) v:=by
 unfold seenV
 split
 .exact .int _ _
 .exact .string _
 .exact .nilSlice _ _
 .rename_i a l c
  by_cases h:l=0/\c=0
  .rw[if_pos h]
   obtain⟨rfl,rfl⟩:=h
   exact .empty (e:=⟨0,0,true,none⟩) (by unfold seenM;rw[if_pos hg])
  .rw[if_neg h]
   by_cases h2:a.spot=none/\isCells W a.block=true
   .rw[if_pos h2]
    have:=bK.slice (m:=seenM W) (b:=a.block) (off:=a.off) (l:=l) (c:=c) (c':=c) (e:=⟨a.block,0,true,none⟩) (by unfold seenM;rw[if_pos h2.2]) (.inl rfl)
    obtain⟨b,off,sp⟩:=a
    obtain⟨rfl,_⟩:=h2
    simpa using this
   .rw[if_neg h2]
    exact .unknown _
 .exact .unknown _
theorem AoC{W:World}(hg:isCells W 0=true):@Rel (varPins W) Top (seenM W) (seenS W) W:=by
 letI:=varPins W
 refine⟨fun b ent e _ hb he=>?_,fun b b' ent ent' e e' hne hb hb' _ _ he he'=>?_,fun b e he=>?_,fun b ent hb=>(AdS W b ent hb).1,fun k o hk=>⟨hk.2,fun b e he hro=>?_⟩⟩
 .rw[IV] at hb
  obtain⟨c,t,fr,h1,rfl,h2⟩:=Pg hb
  unfold seenM at he
  rw[if_pos (Fj.2 ⟨c,t,fr,h1⟩)] at he
  cases he
  refine⟨rfl,c,t,fr,h1,(fun h=>by cases h),fun i v hv=>?_,trivial⟩
  rw[List.getElem?_map] at hv
  cases hc:c.toList[i]? with
  | none=>rw[hc] at hv;cases hv
  | some v'=>
   rw[hc] at hv
   cases hv
   exact⟨v',by rw[Nat.zero_add];simpa using hc,K9 hg v'⟩
 .unfold seenM at he he'
  split at he
  .split at he'
   .cases he
    cases he'
    exact hne
   .cases he'
  .cases he
 .unfold seenM at he
  split at he
  .rename_i h
   cases he
   obtain⟨c,t,fr,h1⟩:=Fj.1 h
   have:=(Array.getElem?_eq_some_iff.1 h1).1
   exact⟨this,this⟩
  .cases he
 .unfold seenM at he
  split at he
  .cases he
   cases hro
  .cases he
theorem ArE{W:World}:∀b e,seenM W b=some e->e.ro=true:=fun b e h=>by
 unfold seenM at h
 split at h
 .cases h
  rfl
 .cases h
def seenA(W:World)(v:Value):Value:=match v with
 | .agg cs=>.agg (cs.toList.map (seenV W)).toArray
 | v=>seenV W v
theorem Agm{W:World}(hg:isCells W 0=true)(v:Value):bK (seenM W) (seenA W v) v:=by
 unfold seenA
 split
 .rename_i cs
  refine .agg (by simp) fun i x x' hx hx'=>?_
  simp only[List.getElem?_toArray,List.getElem?_map,Array.getElem?_toList,hx',Option.map_some,Option.some.injEq] at hx
  subst hx
  exact K9 hg x'
 .exact K9 hg _
theorem Vq{W:World}(hg:isCells W 0=true)(vs:List Value):LRel (seenM W) (vs.map (seenA W)) vs:=by
 refine⟨by simp,fun i v v' h h'=>?_⟩
 rw[List.getElem?_map,h'] at h
 cases h
 exact Agm hg v'
theorem Agn{W:World}{a:Addr}{len cap:Nat}{zs:List Int}(hl:len<=cap)(hz:zs.length=cap)(hc:∀i,i<zs.length->W.cell? (a.add i)=some (.int .i64 (zs.getD i 0))):
  ∃p c,seenV W (.slice (some a) len cap)=.slice p len c/\Ints (seenS W) p (zs.take len)/\(zs.take len).length=len/\∀q,p=some q->q.block=0\/isCells W q.block=true:=by
 have hlen:(zs.take len).length=len:=by rw[List.length_take];omega
 by_cases h0:len=0/\cap=0
 .obtain⟨rfl,rfl⟩:=h0
  refine⟨some ⟨0,0,none⟩,0,rfl,fun i n h=>by simp at h,hlen,fun q hq=>.inl (by cases hq;rfl)⟩
 .have hfirst:=hc 0 (by omega)
  have ha0:a.add 0=a:=by unfold Addr.add;rw[if_pos rfl]
  rw[ha0] at hfirst
  obtain⟨hs,hcl,c,t,fr,hb,_⟩:=Er hfirst
  refine⟨some ⟨a.block,a.off,none⟩,cap,?_,fun i n h=>?_,hlen,fun q hq=>.inr (by cases hq;exact hcl)⟩
  .unfold seenV
   simp only
   rw[if_neg h0,if_pos ⟨hs,hcl⟩]
  .refine⟨a.block,a.off,_,rfl,Ph hb,?_⟩
   have hi:i<len:=by
    have:=(List.getElem?_eq_some_iff.1 h).1
    omega
   have h1:=hc i (by omega)
   have hadd:a.add i=⟨a.block,a.off+i,none⟩:=by
    unfold Addr.add
    by_cases hi0:i=0
    .rw[if_pos hi0]
     subst hi0
     obtain⟨x,y,z⟩:=a
     cases hs
     rfl
    .rw[if_neg hi0]
   rw[hadd] at h1
   obtain⟨_,_,c',t',fr',hb',hcv⟩:=Er h1
   simp only at hb' hcv
   rw[hb] at hb'
   cases hb'
   rw[List.getElem?_map,Array.getElem?_toList,hcv]
   rw[List.getElem?_take,if_pos hi] at h
   rw[List.getD_eq_getElem?_getD,h]
   rfl
noncomputable def fieldsD:Array Field:=match Tryz.prog.underlying TD with
 | some (.struct fs)=>fs
 | _=>#[]
theorem La:Tryz.prog.underlying TD=some (.struct fieldsD):=by kernel_rfl
theorem AoK:Tryz.prog.underlying TL=some (.slice TD):=by kernel_rfl
theorem MM:Tryz.prog.underlying TI=some (.int .i64):=by kernel_rfl
theorem Acs:Tryz.prog.underlying 9=some .string:=by kernel_rfl
theorem Aep:(fieldsD[0]?).map (fun f=>(f.type,f.offset))=some (TI,0):=by kernel_rfl
theorem Aeq:(fieldsD[1]?).map (fun f=>(f.type,f.offset))=some (TI,1):=by kernel_rfl
theorem Aer:(fieldsD[2]?).map (fun f=>(f.type,f.offset))=some (9,2):=by kernel_rfl
theorem Aes:(fieldsD[3]?).map (fun f=>(f.type,f.offset))=some (TL,3):=by kernel_rfl
theorem IZ:Tryz.prog.cellsOf TD=4:=by kernel_rfl
theorem VG:Tryz.prog.cellsOf TI=1:=by kernel_rfl
theorem MV:Tryz.prog.cellsOf 9=1:=by kernel_rfl
theorem Rq:Tryz.prog.cellsOf TL=1:=by kernel_rfl
theorem Le{α:Type}{P:Nat->α->Prop}:∀(n:Nat),(∀i,i<n->∃d,P i d)->∃ds:List α,ds.length=n/\∀i d,ds[i]? = some d->P i d
 | 0,_=>⟨[],rfl,fun i d h=>by simp at h⟩
 | n+1,h=>by
  obtain⟨ds,h1,h2⟩:=Le n fun i hi=>h i (by omega)
  obtain⟨d,hd⟩:=h n (by omega)
  refine⟨ds++[d],by simp[h1],fun i e he=>?_⟩
  by_cases hi:i<ds.length
  .rw[List.getElem?_append_left hi] at he
   exact h2 i e he
  .rw[List.getElem?_append_right (by omega)] at he
   have:i-ds.length=0:=by
    have:=(List.getElem?_eq_some_iff.1 he).1
    simp at this
    omega
   rw[this] at he
   cases he
   obtain rfl:i=n:=by omega
   exact hd
theorem Nx{R:Nat->Prop}{Z:aC}{b off:Nat}{cs:List Value}(hb:Z.cells b=some cs)(hR:R b):∀(es:List D) (i:Nat),(∀j e,es[j]? = some e->4<=cs.length-(off+(i+j)*4)/\aI R Z (.agg ((cs.drop (off+(i+j)*4)).take 4).toArray) e)->bC R Z (some ⟨b,off,none⟩) i es
 | [],_,_=>trivial
 | e::es,i,h=>by
  have h0:=h 0 e rfl
  refine⟨⟨b,off,cs,rfl,hR,hb,h0.1,h0.2⟩,Nx hb hR es (i+1) fun j e' he=>?_⟩
  have:=h (j+1) e' (by simpa using he)
  rwa [show i+(j+1)=i+1+j by omega] at this
theorem Vu{a:Addr}(h:a.spot=none)(n:Nat):a.add n=⟨a.block,a.off+n,none⟩:=by
 unfold Addr.add
 by_cases hn:n=0
 .rw[if_pos hn]
  subst hn
  obtain⟨x,y,z⟩:=a
  cases h
  rfl
 .rw[if_neg hn]
theorem Ao2{W:World}{b o:Nat}{c:Array Value}{t:TypeId}{fr:Nat×Nat}(h:W.heap[b]? = some (.cells c t fr)):W.cell? ⟨b,o,none⟩=c[o]?:=by
 unfold World.cell?
 simp only[h]
 rfl
theorem Aho{i t o:Nat}(h:(fieldsD[i]?).map (fun f=>(f.type,f.offset))=some (t,o)):∃f,fieldsD[i]? = some f/\f.type=t/\f.offset=o:=by
 cases hf:fieldsD[i]? with
 | none=>rw[hf] at h;cases h
 | some f=>
  rw[hf] at h
  cases h
  exact⟨f,rfl,rfl,rfl⟩
theorem AeK{α:Type}{l:List α}(h:l.length=4):∃a b c d,l=[a,b,c,d]:=by
 match l,h with
 | [a,b,c,d],_=>exact⟨a,b,c,d,rfl⟩
theorem Acr{H:Type}{enc:TypeId×Value->H}{W:World}{held:Bool}:∀(n:Nat) (cs:List Value) (x:DataW H×List MemPlace),DataW.trod enc Tryz.prog W 0 (fun _=>true) held n TD cs=some x->
  cs.length=4/\∃d:D,aI (fun b=>b<W.heap.size) (seenS W) (.agg (cs.map (seenV W)).toArray) d:=by
 intro n
 induction n with
 | zero=>intro cs x h;simp[DataW.trod] at h
 | succ n ih=>
  intro cs x h
  obtain⟨xs,m,hm,hx,hl,hxl,hf⟩:=DataW.trod_struct La h
  obtain rfl:m=n:=by omega
  rw[IZ] at hl
  refine⟨hl,?_⟩
  have hsz:fieldsD.size=4:=by kernel_rfl
  rw[hsz] at hxl
  obtain⟨c0,c1,c2,c3,rfl⟩:=AeK hl
  have get:∀ {i t o:Nat},(fieldsD[i]?).map (fun f=>(f.type,f.offset))=some (t,o)->∃y,DataW.trod enc Tryz.prog W 0 (fun _=>true) held m t (([c0,c1,c2,c3].drop o).take (Tryz.prog.cellsOf t))=some y:=fun {i t o} hi=>by
   obtain⟨f,h1,h2,h3⟩:=Aho hi
   have:=hf i f h1
   rw[h2,h3] at this
   have hlt:i<xs.length:=by
    have:=(Array.getElem?_eq_some_iff.1 h1).1
    omega
   exact⟨xs[i],by rw[this,List.getElem?_eq_getElem hlt]⟩
  obtain⟨y0,h0⟩:=get Aep
  obtain⟨y1,h1⟩:=get Aeq
  obtain⟨y2,h2⟩:=get Aer
  obtain⟨y3,h3⟩:=get Aes
  rw[VG] at h0 h1
  rw[MV] at h2
  rw[Rq] at h3
  obtain⟨k,e0,_,_⟩:=DataW.trod_int MM h0
  obtain⟨z,e1,_,_⟩:=DataW.trod_int MM h1
  obtain⟨t,e2,_,_⟩:=DataW.trod_string Acs h2
  obtain rfl:c0=.int .i64 k:=by simpa using e0
  obtain rfl:c1=.int .i64 z:=by simpa using e1
  obtain rfl:c2=.string t:=by simpa using e2
  rcases DataW.trod_slice AoK h3 with⟨e3,_⟩|⟨a,len,cap,elems,rest,m',hm',e3,_,_,hle,hmx,hel,hes,hsp,_⟩
  .obtain rfl:c3=.slice none 0 0:=by simpa using e3
   exact⟨.mk k z t [],none,0,rfl,trivial⟩
  .obtain rfl:c3=.slice (some a) len cap:=by simpa using e3
   obtain⟨hrl,hrs⟩:=hsp rfl
   rw[IZ] at hes hrs
   by_cases h00:len=0/\cap=0
   .obtain⟨rfl,rfl⟩:=h00
    exact⟨.mk k z t [],some ⟨0,0,none⟩,0,rfl,trivial⟩
   .have hfirst:∃v,W.cell? a=some v:=by
     have ha0:a.add 0=a:=by unfold Addr.add;rw[if_pos rfl]
     have key:∀ {y:DataW H×List MemPlace},(W.cells? 0 (a.add 0) 4).bind (DataW.trod enc Tryz.prog W 0 (fun _=>true) held m' TD)=some y->∃v,W.cell? a=some v:=fun hb=>by
      rw[Option.bind_eq_some_iff] at hb
      obtain⟨cs',hc',_⟩:=hb
      obtain⟨_,hl',hg⟩:=World.cells?_some hc'
      have:=hg 0 (by omega)
      rw[ha0,ha0,List.getElem?_eq_getElem (by omega)] at this
      exact⟨_,this⟩
     by_cases hl0:0<len
     .have:=hes 0 hl0
      rw[Nat.zero_mul,List.getElem?_eq_getElem (by omega)] at this
      exact key this
     .have:=hrs 0 (by omega)
      obtain rfl:len=0:=by omega
      rw[Nat.add_zero,Nat.zero_mul,List.getElem?_eq_getElem (by omega)] at this
      exact key this
    obtain⟨v0,hv0⟩:=hfirst
    obtain⟨hsn,hic,c,ty,fr,hb,_⟩:=Er hv0
    have hlt:a.block<W.heap.size:=(Array.getElem?_eq_some_iff.1 hb).1
    have hσ:=Ph hb
    have each:∀i,i<len->∃d:D,4<=(c.toList.map (seenV W)).length-(a.off+i*4)/\aI (fun b=>b<W.heap.size) (seenS W) (.agg (((c.toList.map (seenV W)).drop (a.off+i*4)).take 4).toArray) d:=fun i hi=>by
     have hb':=hes i hi
     rw[List.getElem?_eq_getElem (by omega),Option.bind_eq_some_iff] at hb'
     obtain⟨cs',hc',ht'⟩:=hb'
     obtain⟨_,hl',hg⟩:=World.cells?_some hc'
     have hcell:∀j,j<4->c[a.off+i*4+j]? = cs'[j]?:=fun j hj=>by
      have:=hg j hj
      rw[Vu hsn,Vu rfl,Ao2 hb] at this
      exact this
     obtain⟨_,d,hd⟩:=ih cs' _ (by obtain rfl:m'+1=m:=hm'.symm;exact DataW.trod_le (Nat.le_succ _) ht')
     have h3':=hcell 3 (by omega)
     rw[List.getElem?_eq_getElem (by omega)] at h3'
     have hsz':=(Array.getElem?_eq_some_iff.1 h3').1
     refine⟨d,by simp;omega,?_⟩
     have e:((c.toList.map (seenV W)).drop (a.off+i*4)).take 4=cs'.map (seenV W):=by
      apply List.ext_getElem?
      intro j
      rw[List.getElem?_take]
      by_cases hj:j<4
      .rw[if_pos hj,List.getElem?_drop,List.getElem?_map,Array.getElem?_toList,hcell j hj,List.getElem?_map]
      .rw[if_neg hj,List.getElem?_eq_none (by simp;omega)]
     rw[e]
     exact hd
    obtain⟨ds,hds,hD⟩:=Le len each
    refine⟨.mk k z t ds,some ⟨a.block,a.off,none⟩,cap,?_,?_⟩
    .show Value.agg _=_
     have:seenV W (.slice (some a) len cap)=.slice (some ⟨a.block,a.off,none⟩) len cap:=by
      unfold seenV
      simp only
      rw[if_neg h00,if_pos ⟨hsn,hic⟩]
     rw[hds]
     simp only[List.map_cons,List.map_nil,this]
     rfl
    .refine Nx hσ hlt ds 0 fun j e he=>?_
     rw[Nat.zero_add]
     exact hD j e he
end
section
open Go Go.Eng Go.ChangeShapes Go.WideShapes Go.RowKit
abbrev Fine4(W:World)(e:Ending)(W':World):Prop:=e=.returned (.bool true)/\W'.os=W.os/\W'.output=W.output/\W'.tape=W.tape/\W.heap.size<=W'.heap.size/\∀i,i<W.heap.size->W'.heap[i]? = W.heap[i]?
theorem AhB{f:FuncId}{fn:Func}{body:Code}(hf:Tryz.prog.funcs[f]? = some fn)(hb:fn.body=some body)(n:Nat)(W:World)(vs:List Value)(hg:W.cell? ⟨0,0,none⟩=some handle)(h:∃V,bA Tryz.prog nls (top n) f (vs.map (seenA W)) none (seenS W)=.ret (.bool true) none V):Calls Tryz.prog f vs.toArray W (Fine4 W):=
 AeI hf hb n (seenS W) (seenM W) W (vs.map (seenA W)) vs.toArray hg (AoC (Er hg).2.1) (by simpa using Vq (Er hg).2.1 vs) ArE h
theorem PS{H:Type}{enc:TypeId×Value->H}{W:World}{v:Value}{d:DataW H}{p:List MemPlace}(h:DataW.Trod enc Tryz.prog W 0 (fun _=>true) true TD v d p)(hv:∃cs,v=.agg cs/\cs.size=Tryz.prog.cellsOf TD):
  ∃(lv:List Value) (x:D),seenA W v=.agg lv.toArray/\lv.length=4/\aI (fun b=>b<(seenS W).next) (seenS W) (.agg lv.toArray) x:=by
 obtain⟨cs,rfl,_⟩:=hv
 obtain⟨fuel,h⟩:=h
 obtain⟨hl,x,hx⟩:=Acr fuel _ _ h
 have hl':cs.toList.length=4:=hl
 exact⟨_,x,rfl,by simpa using hl',hx⟩
theorem AgB{H:Type}{enc:TypeId×Value->H}{W:World}{v:Value}{d:DataW H}{p:List MemPlace}(hg:W.cell? ⟨0,0,none⟩=some handle)(h:DataW.Trod enc Tryz.prog W 0 (fun _=>true) true 25 v d p)(hv:∃a len cap,v=.slice a len cap):
  ∃(q:Option Addr) (l:List Int) (cp:Nat),seenA W v=.slice q l.length cp/\l.length<9223372036854775808/\Ints (seenS W) q l/\∀a,q=some a->a.block<(seenS W).next:=by
 obtain⟨a0,len0,cap0,rfl⟩:=hv
 obtain⟨fuel,h⟩:=h
 have und:Tryz.prog.underlying 25=some (.slice TI):=by kernel_rfl
 rcases open_ints und MM (by kernel_rfl) h with⟨hc,hx⟩|⟨a,len,cap,zs,hc,hb,hl,hm,hz,hx,hcell,hwf⟩
 .have hv:Value.slice a0 len0 cap0=.slice none 0 0:=by simpa [Value.cells] using hc
  rw[hv]
  exact⟨none,[],0,rfl,by simp,fun i n h=>by simp at h,fun a h=>by cases h⟩
 .have hv:Value.slice a0 len0 cap0=.slice (some a) len cap:=by simpa [Value.cells] using hc
  rw[hv]
  rw[if_pos rfl] at hz
  obtain⟨q,c,h1,h2,h3,h4⟩:=Agn hl hz hcell
  refine⟨q,zs.take len,c,by rw[h3];exact h1,by unfold maxLen at hm;omega,h2,fun b hb=>?_⟩
  have hgs:isCells W 0=true:=(Er hg).2.1
  have key:isCells W b.block=true:=by
   rcases h4 b hb with h|h
   .rw[h];exact hgs
   .exact h
  obtain⟨c',t',fr',h5⟩:=Fj.1 key
  exact(Array.getElem?_eq_some_iff.1 h5).1
end
section
open Go Go.Eng
attribute [local congr] Ab Ah Af Ad Ae
attribute [-go_sem] List.range_succ
theorem Ahv{Z:aC}{u:Value}{p:List Nat}(h:PathV (fun b=>FulB Z b) Z u p)(hc:CapV u):∃q c,u=.slice q (p.map Int.ofNat).length c/\IntsO Z q c (p.map Int.ofNat)/\∀b off,q=some ⟨b,off,none⟩->FulB Z b:=by
 rcases h with⟨rfl,rfl⟩|⟨b,cx,rest,rfl,hB,hcs⟩
 .exact⟨none,0,rfl,.inl ⟨rfl,rfl⟩,fun b off e=>by cases e⟩
 .obtain⟨a,n,c,e,hn⟩:=hc
  obtain⟨vs,fz,ver,hb,hf⟩:=hB
  injection e with e1 e2 e3
  subst e2 e3
  rw[Ar hb] at hcs
  have hvs:=Option.some.inj hcs
  refine⟨_,cx,by rw[List.length_map],.inr ⟨b,0,vs,_,_,fz,ver,rfl,hb,.inl rfl,hf,by rw[List.length_map];exact hn,by rw[hvs,List.length_append,Cc,List.length_map];omega,fun i z hz=>?_⟩,fun b' off e=>by cases e;exact⟨vs,fz,ver,hb,hf⟩⟩
  rw[List.getElem?_map] at hz
  obtain⟨j,hj,rfl⟩:=Option.map_eq_some_iff.1 hz
  have hi:=(List.getElem?_eq_some_iff.1 hj).1
  rw[hvs,Nat.zero_add,List.getElem?_append_left (by simp[intsOf];exact hi)]
  simp[intsOf,hj]
theorem AeU(q b4 b5:Nat)(a b:D)(la lb:List Value)(ha4:la.length=4)(hb4:lb.length=4)(p pn:Option Addr)(l ln:List Int)(cp cpn:Nat)(hl:l.length<=50)(hln:ln.length<9223372036854775808)(f g:Nat->Value)(Z:aC)(hw:Wf Z)(hIO:IntsO Z p cp l)(hI:Ints Z pn ln)(hp:∀a,pn=some a->a.block<Z.next)(c4:Z.cells b4=some la)(c5:Z.cells b5=some lb)(hA:aI (fun b=>b<Z.next) Z (.agg la.toArray) a)(hB:aI (fun b=>b<Z.next) Z (.agg lb.toArray) b)(ka:a.count<=150)(kb:b.count<=150)(f2:f 2=.slice p l.length cp)(f3:f 3=.slice pn ln.length cpn)(f4:f 4=.pointer (some ⟨b4,0,none⟩))(f5:f 5=.pointer (some ⟨b5,0,none⟩)):
  ∃V,aN Tryz.prog (top (q+6000)) [.tmp 8] (AnX (top (q+6000)) none 5 (Sl 33 220 f g []) none Z)=.ret (.bool true) none V:=by
 obtain⟨a9,e2,x2,hw2,hC2⟩:=ZL (q+5999) pn ln cpn hln Z hw hI hp
 have hn2:Z.next<a9.next:=by obtain⟨_,_,_,_,_,h,_⟩:=hC2;exact(hw2 _ _ h).1
 have hv4:wound 4<=1000:=by simp[wound]
 obtain⟨vx,x,bS,k3,e3,hX,mX,x3,hw3,hC3,_,hk3⟩:=MY (q+5992) Z.next 4 (by omega) 0 a9 (by omega) hw2 hC2
 have n2:=x2.next
 have n3:=x3.next
 replace e2:(top (q+6000)).call 9 [.slice pn ln.length cpn] none Z=.ret (.pointer (some ⟨Z.next,0,none⟩)) none a9:=(Dr _ _ _ _ rfl).trans e2
 replace e3:(top (q+6000)).call 8 [.pointer (some ⟨Z.next,0,none⟩),.int .i64 4] none a9=.ret vx none bS:=(Dr _ _ _ _ rfl).trans e3
 have kA:∀b cs,b<Z.next->Z.cells b=some cs->bS.cells b=some cs:=fun b cs hb hc=>by
  have h2:=(x2.cells hb).trans hc
  exact(x3.cells (by omega) (by omega)).trans h2
 have gA:∀b,b<Z.next->bS.heap.get b=Z.heap.get b:=fun b hb=>by rw[x3.get b (by omega) (by omega),x2.get b hb]
 obtain⟨xv,rfl,hx4,hox⟩:=hX.agg
 have htx:xv.take 4=xv:=List.take_of_length_le (by omega)
 have hFx:=AeL (q+5971) mX
 unfold AnX
 simp -implicitDefEqProofs only[go_sem,Av,Arp,AmI,Arq,AmJ,f3,e2,e3,hx4,hox,Nat.le_refl]
 have x4:Ext bS ((bS.push (.cells [.int .i64 0,.int .i64 0,.string ⟨#[]⟩,.slice none 0 0] TD) none).put bS.next (.cells xv TD) none):=((Ext.refl _).push _ _).put _ _ _ (Nat.le_refl _)
 have hw4:Wf ((bS.push (.cells [.int .i64 0,.int .i64 0,.string ⟨#[]⟩,.slice none 0 0] TD) none).put bS.next (.cells xv TD) none):=(hw3.push _ _).put _ _ _ (by simp only[Aa];omega)
 have g10:((bS.push (.cells [.int .i64 0,.int .i64 0,.string ⟨#[]⟩,.slice none 0 0] TD) none).put bS.next (.cells xv TD) none).cells bS.next=some xv:=by rw[Al,if_pos rfl];rfl
 have n4:((bS.push (.cells [.int .i64 0,.int .i64 0,.string ⟨#[]⟩,.slice none 0 0] TD) none).put bS.next (.cells xv TD) none).next=bS.next+1:=rfl
 generalize hff:upd _ 10 _=f1
 generalize hgg:upd _ 48 _=g1
 have q2:f1 2=.slice p l.length cp:=by rw[<-hff];simp -implicitDefEqProofs only[go_sem,reduceCtorEq,f2]
 have q4:f1 4=.pointer (some ⟨b4,0,none⟩):=by rw[<-hff];simp -implicitDefEqProofs only[go_sem,reduceCtorEq,f4]
 have q5:f1 5=.pointer (some ⟨b5,0,none⟩):=by rw[<-hff];simp -implicitDefEqProofs only[go_sem,reduceCtorEq,f5]
 have q9:f1 9=.pointer (some ⟨Z.next,0,none⟩):=by rw[<-hff];simp -implicitDefEqProofs only[go_sem,reduceCtorEq]
 have q10:f1 10=.pointer (some ⟨bS.next,0,none⟩):=by rw[<-hff];simp -implicitDefEqProofs only[go_sem,reduceCtorEq]
 clear hff hgg
 generalize aC.put _ _ _ _=bU at x4 hw4 g10 n4 ⊢
 have K34:∀b cs,bS.cells b=some cs->bU.cells b=some cs:=fun b cs hc=>(x4.cells (hw3.cells hc)).trans hc
 have hfew:=hFx.few (by omega)
 have hdx:=hFx.deep_le
 obtain⟨w5,bV,e5,x5,hw5,ba,us,hba,F5,pl5,caps5⟩:=Ql (q+5995) 5 x hdx [] (.agg xv.toArray) (.slice none 0 0) (New a9 bS) (fun _=>True) bU hw4 (hX.keep fun b cs hb hc=>⟨K34 b cs hc,hb⟩) (.inl ⟨rfl,rfl⟩) (by simp;omega) (by omega)
 replace e5:(top (q+6000)).call 31 [.agg xv.toArray,.slice none 0 0] none bU=.ret w5 none bV:=(Dr _ _ _ _ rfl).trans e5
 obtain⟨hw5v,ca5⟩:=F5.cells
 have n5:=x5.next
 have hC5:Coil bV Z.next k3:=(hC3.ext hw3 x4).ext hw4 x5
 have ba5:ba<bV.next:=F5.lt hw5
 have hus:us.length=(x.pieces []).length:=by rw[pl5.length,List.length_map]
 rw[hw5v] at e5
 have hne:1<=us.length:=by rw[hus,D.pieces_eq];simp
 obtain⟨r6,bX,e6,h60,h61,W6⟩:=Ko (q+5998) Z.next k3 (.ofNat (us.length-1)) (by simp only[Int.ofNat_eq_natCast];omega) (by omega) bV hw5 hC5
 obtain⟨i6,rfl⟩:∃i:Nat,r6=Int.ofNat i:=⟨r6.toNat,by simp only[Int.ofNat_eq_natCast];omega⟩
 have hi6:i6<us.length:=by simp only[Int.ofNat_eq_natCast] at h61;omega
 replace e6:(top (q+6000)).call 19 [.pointer (some ⟨Z.next,0,none⟩),.int .i64 (.ofNat (us.length-1))] none bV=.ret (.int .i64 (.ofNat i6)) none bX:=(Dr _ _ _ _ rfl).trans e6
 have n6:=W6.ext.next
 have k56:∀b cs,b≠Z.next->bV.cells b=some cs->bX.cells b=some cs:=fun b cs hb hc=>(W6.ext.cells (hw5.cells hc) hb).trans hc
 have ca6:=k56 _ _ (by omega) ca5
 have w7:=AvG us.length hne (by omega)
 obtain⟨y6,hy6⟩:∃t,(x.pieces [])[i6]? = some t:=⟨_,List.getElem?_eq_getElem (by omega)⟩
 have hmem6:=List.mem_of_getElem? hy6
 obtain⟨u6,hu6,hP6⟩:=pl5.get (i:=i6) (p:=y6.1) (by rw[List.getElem?_map,hy6];rfl)
 have hcap6:=caps5 u6 (List.mem_of_getElem? hu6)
 have hyl6:=((hFx []).2 y6 hmem6).1
 obtain⟨r7,bZ,e7,h70,h71,W7⟩:=Ko (q+5998) Z.next (k3+1) (.ofNat (us.length-1)) (by simp only[Int.ofNat_eq_natCast];omega) (by omega) bX W6.wf W6.coil
 obtain⟨i,rfl⟩:∃i:Nat,r7=Int.ofNat i:=⟨r7.toNat,by simp only[Int.ofNat_eq_natCast];omega⟩
 have hi:i<us.length:=by simp only[Int.ofNat_eq_natCast] at h71;omega
 replace e7:(top (q+6000)).call 19 [.pointer (some ⟨Z.next,0,none⟩),.int .i64 (.ofNat (us.length-1))] none bX=.ret (.int .i64 (.ofNat i)) none bZ:=(Dr _ _ _ _ rfl).trans e7
 obtain⟨t,ht⟩:∃t,(x.pieces [])[i]? = some t:=⟨_,List.getElem?_eq_getElem (by omega)⟩
 have hmem:=List.mem_of_getElem? ht
 obtain⟨r,hr,hat⟩:=H7 x [] t hmem
 rw[List.nil_append] at hr
 subst hr
 have htl:=((hFx []).2 t hmem).1
 have hxm:=(hFx []).1
 rw[Dw] at hxm
 have hm4:most 4=121:=by decide
 rw[hm4] at hxm
 have htc:=H8 x [] t hmem
 obtain⟨u,hu,hP⟩:=pl5.get (i:=i) (p:=t.1) (by rw[List.getElem?_map,ht];rfl)
 have n7:=W7.ext.next
 have k57:∀b cs,b≠Z.next->bV.cells b=some cs->bZ.cells b=some cs:=fun b cs hb hc=>(W7.ext.cells (W6.wf.cells (k56 b cs hb hc)) hb).trans (k56 b cs hb hc)
 have g57:∀b,b<bV.next->b≠Z.next->bZ.heap.get b=bV.heap.get b:=fun b hb hne=>by rw[W7.ext.get b (by omega) hne,W6.ext.get b hb hne]
 have k37:∀b cs,b≠Z.next->bS.cells b=some cs->bZ.cells b=some cs:=fun b cs hb hc=>by
  have h1:=K34 b cs hc
  exact k57 b cs hb ((x5.cells (hw4.cells h1)).trans h1)
 have lx7:aI (New a9 bS) bZ (.agg xv.toArray) x:=hX.keep fun b cs hb hc=>⟨k37 b cs (by have:=hb.1;omega) hc,hb⟩
 obtain⟨_,cA,e8,x8,hw8,u8,rfl,hL8⟩:=AcZ (q+5998) (Q:=fun _=>True) W7.wf lx7 (hP.keep fun b cs hb hc=>⟨k57 b cs (by have:=hb.1;omega) hc,trivial⟩) (by simp at htl;omega) (by omega) hat
 replace e8:(top (q+6000)).call 32 [.agg xv.toArray,u] none bZ=.ret (.tuple #[u8,.bool true]) none cA:=(Dr _ _ _ _ rfl).trans e8
 obtain⟨tv,rfl,ht4,hot⟩:=hL8.agg
 have n8:=x8.next
 have c105:=(x5.cells (hw4.cells g10)).trans g10
 have c106:=k56 _ _ (by omega) c105
 have v10:(view bZ bX.clock).cells bS.next=some xv:=Eo W6.wf (Nat.le_refl _) (W7.ext.get _ (by omega) (by omega)) c106
 have ca7:=k57 _ _ (by omega) ca5
 have hv7:=Ce W7.wf (Nat.le_refl _)
 have c107:=k57 _ _ (by omega) c105
 simp -implicitDefEqProofs only[go_sem,Av,Arr,AmK,Ars,AmL,Art,AmM,q9,q10,g10,hx4,htx,e5,w7,e6,ca6,hi6,hu6,e7,v10,hv7,ca7,hi,hu,e8,ht4,hot,Nat.le_refl]
 generalize hff:upd _ 14 _=f2'
 generalize hgg:upd _ 71 _=g2
 have x9:Ext cA ((cA.push (.cells [.int .i64 0,.int .i64 0,.string ⟨#[]⟩,.slice none 0 0] TD) none).put cA.next (.cells tv TD) none):=((Ext.refl _).push _ _).put _ _ _ (Nat.le_refl _)
 have hw9:=(hw8.push (.cells [.int .i64 0,.int .i64 0,.string ⟨#[]⟩,.slice none 0 0] TD) none).put cA.next (.cells tv TD) none (Nat.lt_succ_self _)
 have g12:((cA.push (.cells [.int .i64 0,.int .i64 0,.string ⟨#[]⟩,.slice none 0 0] TD) none).put cA.next (.cells tv TD) none).cells cA.next=some tv:=by rw[Al,if_pos rfl];rfl
 have k79:∀b cs,bZ.cells b=some cs->((cA.push (.cells [.int .i64 0,.int .i64 0,.string ⟨#[]⟩,.slice none 0 0] TD) none).put cA.next (.cells tv TD) none).cells b=some cs:=fun b cs hc=>by
  have h1:=(x8.cells (W7.wf.cells hc)).trans hc
  exact(x9.cells (hw8.cells h1)).trans h1
 have n9:((cA.push (.cells [.int .i64 0,.int .i64 0,.string ⟨#[]⟩,.slice none 0 0] TD) none).put cA.next (.cells tv TD) none).next=cA.next+1:=rfl
 have hC9:=(W7.coil.ext W7.wf x8).ext hw8 x9
 generalize aC.put _ cA.next _ _=b_ at x9 hw9 g12 k79 n9 hC9 ⊢
 have kk9:∀b cs,b≠Z.next->bS.cells b=some cs->b_.cells b=some cs:=fun b cs hb hc=>k79 b cs (k37 b cs hb hc)
 have g59:∀b,b<bV.next->b≠Z.next->b_.heap.get b=bV.heap.get b:=fun b hb hne=>by rw[x9.get b (by omega),x8.get b (by omega),g57 b hb hne]
 have g09:∀b,b<Z.next->b_.heap.get b=Z.heap.get b:=fun b hb=>by rw[g59 b (by omega) (by omega),x5.get b (by omega),x4.get b (by omega),gA b hb]
 have old:∀ {v:Value} {d:D},aI (fun b=>b<Z.next) Z v d->aI (fun b=>b<b_.next/\b≠Z.next) b_ v d:=fun h=>h.keep fun b cs hb hc=>⟨kk9 b cs (by omega) (kA b cs hb hc),by omega,by omega⟩
 have hP9:PathV (fun b=>FulB b_ b) b_ u6 y6.1:=hP6.keep fun b c hb hc=>⟨k79 b c (k57 b c (by have:=hb.1;omega) hc),hb.2.keep (g59 b (hw5.cells hc) (by have:=hb.1;omega))⟩
 have hQ9:∀b off n c,u6=.slice (some ⟨b,off,none⟩) n c->b≠Z.next:=fun b off n c e=>by
  rcases hP6 with⟨h,_⟩|⟨b',cx,rest,h,hb,_⟩
  .rw[e] at h;cases h
  .rw[e] at h
   cases h
   have:=hb.1
   omega
 obtain⟨qu,cu,hue,hIu,_⟩:=Ahv hP9 hcap6
 have hlu:(y6.1.map Int.ofNat).length<=50:=by rw[List.length_map];simp at hyl6;omega
 exact ZS q b4 b5 bS.next cA.next Z.next (k3+1+1) a b x t.2 la lb xv tv ha4 hb4 hx4 ht4 p qu cp cu l (y6.1.map Int.ofNat) hl hlu f2' g2 b_ hw9 hC9 (by omega)
  (kk9 _ _ (by have:=hw.cells c4;omega) (kA _ _ (hw.cells c4) c4)) (kk9 _ _ (by have:=hw.cells c5;omega) (kA _ _ (hw.cells c5) c5)) (k79 _ _ c107) g12
  (by have:=hw.cells c4;omega) (by have:=hw.cells c5;omega) (by omega) (by omega) (by omega)
  (old hA) (old hB) (hX.keep fun b cs hb hc=>⟨kk9 b cs (by have:=hb.1;omega) hc,by have:=hb.2;omega,by have:=hb.1;omega⟩) (hL8.keep fun b cs hb hc=>⟨(x9.cells (hw8.cells hc)).trans hc,by have:=hb.2;omega,by have:=hb.1.1;omega⟩)
  (hIO.keep (fun b off e hb=>g09 b hb) hw) (fun b off e=>by
   rcases hIO with⟨h,_⟩|⟨b',_,_,_,_,_,_,h,hb,_⟩
   .rw[h] at e;cases e
   .rw[h] at e
    cases e
    have:=(hw _ _ hb).1
    omega) hIu (fun b off e=>hQ9 b off _ _ (by rw[hue,e])) ka kb (by omega) (by omega)
  (by rw[<-hff];simp -implicitDefEqProofs only[go_sem,reduceCtorEq,q2]) (by rw[<-hff];simp -implicitDefEqProofs only[go_sem,reduceCtorEq,q4]) (by rw[<-hff];simp -implicitDefEqProofs only[go_sem,reduceCtorEq,q5]) (by rw[<-hff];simp -implicitDefEqProofs only[go_sem,reduceCtorEq,q9]) (by rw[<-hff];simp -implicitDefEqProofs only[go_sem,reduceCtorEq,q10]) (by rw[<-hff];simp -implicitDefEqProofs only[go_sem,reduceCtorEq,hue]) (by rw[<-hff];simp -implicitDefEqProofs only[go_sem,reduceCtorEq])
end
section
open Go Go.Eng Go.ChangeShapes Go.WideShapes Go.RowKit
attribute [local congr] Ab Ah Af Ad Ae
attribute [-go_sem] List.range_succ
theorem AdW{H:Type}{enc:TypeId×Value->H}{W:World}{v:Value}{d:DataW H}{p:List MemPlace}(hg:W.cell? ⟨0,0,none⟩=some handle)(h:DataW.Trod enc Tryz.prog W 0 (fun _=>true) true 25 v d p)(hv:∃a len cap,v=.slice a len cap):
  ∃(q:Option Addr) (l:List Int) (cp:Nat),seenA W v=.slice q l.length cp/\IntsO (seenS W) q cp l:=by
 obtain⟨a0,len0,cap0,rfl⟩:=hv
 obtain⟨fuel,h⟩:=h
 have und:Tryz.prog.underlying 25=some (.slice TI):=by kernel_rfl
 have seenG:∀ {b:Nat} {c:Array Value} {t:TypeId} {fr:Nat×Nat},W.heap[b]? = some (.cells c t fr)->(seenS W).heap.get b=some ⟨.cells (c.toList.map (seenV W)) t,true,none,0⟩:=fun h=>by
  rw[IV]
  unfold seenE
  rw[h]
 rcases open_ints und MM (by kernel_rfl) h with⟨hc,hx⟩|⟨a,len,cap,zs,hc,hb,hl,hm,hz,hx,hcell,hwf⟩
 .have hv:Value.slice a0 len0 cap0=.slice none 0 0:=by simpa [Value.cells] using hc
  rw[hv]
  exact⟨none,[],0,rfl,.inl ⟨rfl,rfl⟩⟩
 .have hv:Value.slice a0 len0 cap0=.slice (some a) len cap:=by simpa [Value.cells] using hc
  rw[hv]
  rw[if_pos rfl] at hz
  by_cases h0:len=0/\cap=0
  .obtain⟨rfl,rfl⟩:=h0
   obtain⟨c,t,fr,hG⟩:=Fj.1 (Er hg).2.1
   exact⟨some ⟨0,0,none⟩,[],0,rfl,.inr ⟨0,0,_,t,true,none,0,rfl,seenG hG,.inr rfl,.inl rfl,Nat.le_refl _,Nat.zero_le _,fun i z hz=>by simp at hz⟩⟩
  .have hlen:(zs.take len).length=len:=by rw[List.length_take];omega
   have hadd:a.spot=none->∀i,a.add i=⟨a.block,a.off+i,none⟩:=fun hs i=>by
    unfold Addr.add
    by_cases hi0:i=0
    .rw[if_pos hi0]
     subst hi0
     obtain⟨x,y,z⟩:=a
     cases hs
     rfl
    .rw[if_neg hi0]
   have hfirst:=hcell 0 (by omega)
   have ha0:a.add 0=a:=by unfold Addr.add;rw[if_pos rfl]
   rw[ha0] at hfirst
   obtain⟨hs,hcl,c,t,fr,hb0,hc0⟩:=Er hfirst
   have each:∀i,i<zs.length->(c.toList.map (seenV W))[a.off+i]? = some (.int .i64 (zs.getD i 0)):=fun i hi=>by
    have h1:=hcell i hi
    rw[hadd hs i] at h1
    obtain⟨_,_,c',t',fr',hb',hcv⟩:=Er h1
    simp only at hb' hcv
    rw[hb0] at hb'
    cases hb'
    rw[List.getElem?_map,Array.getElem?_toList,hcv]
    rfl
   refine⟨some ⟨a.block,a.off,none⟩,zs.take len,cap,?_,.inr ⟨a.block,a.off,_,t,true,none,0,rfl,seenG hb0,.inr rfl,.inl rfl,by omega,?_,fun i z hi=>?_⟩⟩
   .rw[hlen]
    show seenV W (.slice (some a) len cap)=_
    unfold seenV
    simp only
    rw[if_neg h0,if_pos ⟨hs,hcl⟩]
   .have h1:=each (zs.length-1) (by omega)
    have:=(List.getElem?_eq_some_iff.1 h1).1
    omega
   .have hi':=(List.getElem?_eq_some_iff.1 hi).1
    rw[hlen] at hi'
    rw[each i (by omega)]
    rw[List.getElem?_take,if_pos hi'] at hi
    rw[List.getD_eq_getElem?_getD,hi]
    rfl
theorem ZR(q:Nat)(la lb:List Value)(a b:D)(p pn:Option Addr)(l ln:List Int)(cp cpn:Nat)(hl:ln.length<9223372036854775808)(Z:aC)(hw:Wf Z)(hIO:IntsO Z p cp l)(hI:Ints Z pn ln)(hp:∀a,pn=some a->a.block<Z.next)(ha4:la.length=4)(hb4:lb.length=4)(hA:aI (fun b=>b<Z.next) Z (.agg la.toArray) a)(hB:aI (fun b=>b<Z.next) Z (.agg lb.toArray) b):
  ∃V,bA Tryz.prog nls (top (q+6000)) 5 [.agg la.toArray,.agg lb.toArray,.slice p l.length cp,.slice pn ln.length cpn] none Z=.ret (.bool true) none V:=by
 have hta:la.take 4=la:=List.take_of_length_le (by omega)
 have htb:lb.take 4=lb:=List.take_of_length_le (by omega)
 have x1:Ext Z ((Z.push (.cells la TD) none).push (.cells lb TD) none):=((Ext.refl _).push _ _).push _ _
 have hw1:=(hw.push (.cells la TD) none).push (.cells lb TD) none
 have c4:((Z.push (.cells la TD) none).push (.cells lb TD) none).cells Z.next=some la:=by rw[Ac,if_neg (by rw[Aa];omega),Ac,if_pos rfl];rfl
 have c5:((Z.push (.cells la TD) none).push (.cells lb TD) none).cells (Z.next+1)=some lb:=by rw[Ac,if_pos (by rw[Aa])];rfl
 have VAc:∀(d:D) (wv:List Value) (hw4:wv.length=4) (τ:aC),Wf τ->aI (fun b=>b<τ.next) τ (.agg wv.toArray) d->∃τ',(top (q+6000)).call 6 [.agg wv.toArray] none τ=.ret (.bool (vastB d)) none τ'/\Ext τ τ'/\Wf τ':=fun d wv hw4 τ hwt hLd=>by
  obtain⟨_,τ',e,x,w,rfl⟩:=ArM (q+5848) _ d wv hw4 τ hwt hLd
  rw[show q+5848+152=q+6000 by omega] at e
  exact⟨τ',(Dr _ _ _ _ rfl).trans e,x,w⟩
 have small:∀ {d:D},vastB d=false->d.count<=150:=fun h=>by
  unfold vastB at h
  rw[Bool.or_eq_false_iff,decide_eq_false_iff_not] at h
  omega
 have step:∀ {τ τ':aC},Ext τ τ'->Wf τ->∀ {v:Value} {d:D},aI (fun b=>b<τ.next) τ v d->aI (fun b=>b<τ'.next) τ' v d:=fun hX hw v d h=>h.keep fun b cs hb hc=>⟨(hX.cells hb).trans hc,by have:=hX.next;omega⟩
 rw[AwA _ _ _ _ (by simp),Aj,Agi]
 generalize hS:((Z.push (.cells la TD) none).push (.cells lb TD) none)=a_ at x1 hw1 c4 c5
 obtain⟨a9,e2,x2,hw2⟩:=VAc a la ha4 a_ hw1 (step x1 hw hA)
 have d5:=(x2.cells (hw1.cells c5)).trans c5
 cases hva:vastB a with
 | true=>
  rw[hva] at e2
  simp -implicitDefEqProofs only[go_sem,MI,Q6,MJ,Q7,Uw,XY,hS,c4,ha4,hta,e2,IW,Nat.le_refl]
  exact⟨_,rfl⟩
 | false=>
  rw[hva] at e2
  have X2:=x1.trans x2
  obtain⟨bS,e3,x3,hw3⟩:=VAc b lb hb4 a9 hw2 (step X2 hw hB)
  have X3:=X2.trans x3
  have X23:=x2.trans x3
  cases hvb:vastB b with
  | true=>
   rw[hvb] at e3
   simp -implicitDefEqProofs only[go_sem,MI,Q6,MJ,Q7,Uw,XY,hS,c4,d5,ha4,hb4,hta,htb,e2,e3,IW,Nat.le_refl]
   exact⟨_,rfl⟩
  | false=>
   rw[hvb] at e3
   by_cases h50:l.length<=50
   .have d0:decide (Int.ofNat l.length>50)=false:=by simp only[Int.ofNat_eq_natCast,decide_eq_false_iff_not];omega
    have hI3:Ints bS pn ln:=fun i n h=>by
     obtain⟨b,off,cs,h1,h2,h3⟩:=hI i n h
     exact⟨b,off,cs,h1,(X3.cells (hw.cells h2)).trans h2,h3⟩
    simp -implicitDefEqProofs only[go_sem,MI,Q6,MJ,Q7,hS,c4,d5,ha4,hb4,hta,htb,e2,e3,d0,Ag,Nat.le_refl]
    generalize hff:upd _ 8 _=f1
    generalize hgg:upd _ 43 _=g1
    exact AeU q Z.next (Z.next+1) a b la lb ha4 hb4 p pn l ln cp cpn h50 hl f1 g1 bS hw3 (hIO.ext hw X3) hI3 (fun a h=>by have:=hp a h;have:=X3.next;omega) ((X23.cells (hw1.cells c4)).trans c4) ((X23.cells (hw1.cells c5)).trans c5) (step X3 hw hA) (step X3 hw hB) (small hva) (small hvb)
     (by rw[<-hff];simp -implicitDefEqProofs only[go_sem,reduceCtorEq]<;>rfl) (by rw[<-hff];simp -implicitDefEqProofs only[go_sem,reduceCtorEq]<;>rfl) (by rw[<-hff];simp -implicitDefEqProofs only[go_sem,reduceCtorEq]) (by rw[<-hff];simp -implicitDefEqProofs only[go_sem,reduceCtorEq])
   .have d0:decide (Int.ofNat l.length>50)=true:=by simp only[Int.ofNat_eq_natCast,decide_eq_true_eq];omega
    simp -implicitDefEqProofs only[go_sem,MI,Q6,MJ,Q7,Uw,XY,hS,c4,d5,ha4,hb4,hta,htb,e2,e3,d0,IW,Nat.le_refl]
    exact⟨_,rfl⟩
theorem WZ{H:Type}{enc:TypeId×Value->H}(W:World)(hg:W.cell? ⟨0,0,none⟩=some handle){v0 v1 v2 v3:Value}{d0 d1 d2 d3:DataW H}{p0 p1 p2 p3:List MemPlace}(h0:DataW.Trod enc Tryz.prog W 0 (fun _=>true) true TD v0 d0 p0)(h1:DataW.Trod enc Tryz.prog W 0 (fun _=>true) true TD v1 d1 p1)(h2:DataW.Trod enc Tryz.prog W 0 (fun _=>true) true 25 v2 d2 p2)(h3:DataW.Trod enc Tryz.prog W 0 (fun _=>true) true 25 v3 d3 p3)(k0:∃cs,v0=.agg cs/\cs.size=Tryz.prog.cellsOf TD)(k1:∃cs,v1=.agg cs/\cs.size=Tryz.prog.cellsOf TD)(k2:∃a len cap,v2=.slice a len cap)(k3:∃a len cap,v3=.slice a len cap):
  Calls Tryz.prog 5 #[v0,v1,v2,v3] W (Fine4 W):=by
 obtain⟨la,a,ea,ha4,hA⟩:=PS h0 k0
 obtain⟨lb,b,eb,hb4,hB⟩:=PS h1 k1
 obtain⟨qo,lo,cpo,ec,hIO⟩:=AdW hg h2 k2
 obtain⟨q,l,cp,el,hl,hI,hq⟩:=AgB hg h3 k3
 refine AhB Tryz.func5 rfl 6000 W [v0,v1,v2,v3] hg ?_
 have e:[v0,v1,v2,v3].map (seenA W)=[.agg la.toArray,.agg lb.toArray,.slice qo lo.length cpo,.slice q l.length cp]:=by simp only[List.map_cons,List.map_nil,ea,eb,ec,el]
 rw[e]
 obtain⟨V,h⟩:=ZR 0 la lb a b qo q lo l cpo cp hl (seenS W) (AdS W) hIO hI hq ha4 hb4 hA hB
 exact⟨V,by rwa [Nat.zero_add] at h⟩
end
end Go.Proofs.YtknnbjmcfibpgaaGreatDoor
end
