import Derived.Test.YtokieofohmgjdaaGreatDoorU7
import Derived.Test.YtokieofohmgjdaaGreatDoorU6
import Derived.Test.YtokieofohmgjdaaGreatDoorU3
import Derived.Test.YtokieofohmgjdaaGreatDoorU5
set_option linter.unusedSimpArgs false
set_option linter.unusedVariables false
noncomputable section
namespace Go.Proofs.YtokieofohmgjdaaGreatDoor
section
open Go Go.Eng
attribute [local congr] Ac Aj Ai Ad Ah
attribute [-go_sem] List.range_succ
theorem S5(kk m l r cb mp:Nat)(R:Nat→Prop)(f g:Nat→Value)(all:List (List Nat×D))(hne:cb<r∧r<l)(h3:f 3=.pointer (some ⟨cb,0,none⟩))(hR:∀b,R b→b<cb)(hG:∀(i:Nat) path k z t ds,i<kk→all[i]? = some (path,D.mk k z t ds)→∃k':Nat,k=(k':Int)∧Good m k' z t ds.length)(hN:all.length≤2000):
  BodyTo kk (env (m+3)) l R (.func (.func 120) #[.pointer (some ⟨cb,0,none⟩)] #[]) (ValidI l r cb mp f g) all where
 stays:=fun done B σ σ' ⟨h1,h2,h3,h4,h5,⟨v6,h6⟩,⟨v7,h7⟩,h8⟩ hw hC=>by
  have k:∀b,B b→b<σ.next→σ'.heap.get b=σ.heap.get b:=fun b hb hn=>hC.get b hn fun h=>h.1 hb
  have hn:=hC.next
  exact⟨h1,by omega,by omega,by omega,h5.keep (k l ((h1 l).2 (.inl rfl)) h2),⟨v6,(k r ((h1 r).2 (.inr (.inl rfl))) h3).trans h6⟩,⟨v7,(k cb ((h1 cb).2 (.inr (.inr rfl))) h4).trans h7⟩,h8⟩
 own:=fun done B σ ⟨h1,h2,h3,h4,_⟩ b hb=>by
  rcases (h1 b).1 hb with rfl|rfl|rfl
  ·exact⟨h2,fun h=>by have:=hR _ h;omega⟩
  ·exact⟨h3,fun h=>by have:=hR _ h;omega⟩
  ·exact⟨h4,fun h=>by have:=hR _ h;omega⟩
 inside:=fun done B σ k z t p ln c ⟨h1,h2,h3,h4,h5,h6,⟨v7,h7⟩,h8⟩ hw=>by
  refine FY (m+2) _ 120 #[.pointer (some ⟨cb,0,none⟩)] rfl k z t (.slice p ln c) (B6 _ _ _) σ hw fun σ' hx hw'=>?_
  have hc:=Au ((hx.get cb h4).trans h7)
  exact⟨_,σ',TQ (m+1) cb (Int.ofNat done.length) (by rw[Int.ofNat_eq_natCast];omega) p ln c σ' _ hc,Ext.refl _,hw',rfl⟩
 go:=fun done path d rest B σ pv v hkk hall hw ⟨h1,h2,h4,h5,h6,⟨v6,h7⟩,⟨v7,h8⟩,h9⟩ _ hL=>by
  have hlen:done.length+1≤2000:=by have:=congrArg List.length hall;simp at this;omega
  obtain⟨k,z,t,ps⟩:=d
  obtain⟨k',rfl,hGd⟩:=hG done.length path k z t ps hkk (by rw[hall];simp)
  obtain⟨p,c,rfl,hq⟩:=hL
  rw[FP _ _ _ _ _ _ _ _ _ (m+2) l r _ h6 rfl,Iv]
  simp -implicitDefEqProofs only[go_sem,Aw,Mk,Mj,List.zip_cons_cons,List.zip_nil_right,Dz,D2]
  have x1:Ext σ ((σ.push (.cells [.int .i64 0,.int .i64 0,.string ⟨#[]⟩,.slice none 0 0] TD) none).put σ.next (.cells [.int .i64 (k':Int),.int .i64 z,.string t,.slice p ps.length c] TD) none):=((Ext.refl _).push _ _).put _ _ _ (Nat.le_refl _)
  have hw1:=(hw.push (.cells [.int .i64 0,.int .i64 0,.string ⟨#[]⟩,.slice none 0 0] TD) none).put σ.next (.cells [.int .i64 (k':Int),.int .i64 z,.string t,.slice p ps.length c] TD) none (Nat.lt_succ_self _)
  have b1:((σ.push (.cells [.int .i64 0,.int .i64 0,.string ⟨#[]⟩,.slice none 0 0] TD) none).put σ.next (.cells [.int .i64 (k':Int),.int .i64 z,.string t,.slice p ps.length c] TD) none).cells σ.next=some [.int .i64 (k':Int),.int .i64 z,.string t,.slice p ps.length c]:=by rw[Ar,if_pos rfl];rfl
  have n1:((σ.push (.cells [.int .i64 0,.int .i64 0,.string ⟨#[]⟩,.slice none 0 0] TD) none).put σ.next (.cells [.int .i64 (k':Int),.int .i64 z,.string t,.slice p ps.length c] TD) none).next=σ.next+1:=rfl
  generalize FState.put _ _ _ _=σ1 at x1 hw1 b1 n1 ⊢
  have l1:=h6.keep (x1.get l h2)
  rw[CP _ _ _ _ _ _ _ _ _ l r _ l1,Iw]
  have hw2:=hw1.put l (.loop .busy none 71 ((List.range 6).map f) g 6 25 [12,13] B1 B5 r) none (by omega)
  have l2:LoopAt 71 [12,13] B1 B5 6 25 f g l r .busy (σ1.put l (.loop .busy none 71 ((List.range 6).map f) g 6 25 [12,13] B1 B5 r) none):=LoopAt.put _ _ _ _ _ _ _ _ _ _ _ _
  have b2:(σ1.put l (.loop .busy none 71 ((List.range 6).map f) g 6 25 [12,13] B1 B5 r) none).cells σ.next=some [.int .i64 (k':Int),.int .i64 z,.string t,.slice p ps.length c]:=by rw[Ar,if_neg (by omega)];exact b1
  have g2:(σ1.put l (.loop .busy none 71 ((List.range 6).map f) g 6 25 [12,13] B1 B5 r) none).heap.get cb=some ⟨.cells [.int .i64 (.ofNat done.length),.map (some mp)] 136,false,none,v7⟩:=by rw[An,if_neg (by omega)];exact(x1.get cb h5).trans h8
  have r2:(σ1.put l (.loop .busy none 71 ((List.range 6).map f) g 6 25 [12,13] B1 B5 r) none).heap.get r=some ⟨.defd true,false,none,v6⟩:=by rw[An,if_neg (by omega)];exact(x1.get r h4).trans h7
  have hC2:Chg B σ (σ1.put l (.loop .busy none 71 ((List.range 6).map f) g 6 25 [12,13] B1 B5 r) none):=(x1.chg B).put _ _ _ (.inr ((h1 l).2 (.inl rfl)))
  have n2:(σ1.put l (.loop .busy none 71 ((List.range 6).map f) g 6 25 [12,13] B1 B5 r) none).next=σ.next+1:=n1
  generalize FState.put _ l _ _=σ2 at hw2 l2 b2 g2 r2 hC2 n2 ⊢
  obtain⟨_,σ3,e3,x3,hw3,rfl⟩:=Ld m k' z t p ps.length c hGd σ2 hw2
  have n3:=x3.next
  have g3:σ3.heap.get cb=some ⟨.cells [.int .i64 (.ofNat done.length),.map (some mp)] 136,false,none,v7⟩:=(x3.get cb (by omega)).trans g2
  have c3:=Au g3
  have w1:=D4 done.length (by omega)
  simp -implicitDefEqProofs only[go_sem,Mm,Ml,Ve,R_,h3,b2,e3,c3,g3,w1,Nat.le_refl]
  have l3:=(l2.keep (x3.get l (by omega)))
  have l4:∀o:FObj,LoopAt 71 [12,13] B1 B5 6 25 f g l r .busy (σ3.put cb o none):=fun o=>l3.keep (by rw[An,if_neg (by omega)])
  rw[D6 _ _ _ _ _ _ _ _ _ _ l r _ _ (l4 _)]
  refine⟨B,_,rfl,(hw3.put _ _ _ (by omega)).put _ _ _ (by rw[Ao];omega),((hC2.trans (x3.chg B) (fun b _ h=>h)).put _ _ _ (.inr ((h1 cb).2 (.inr (.inr rfl))))).put _ _ _ (.inr ((h1 l).2 (.inl rfl))),fun b hb=>.inl hb,h1,?_,?_,?_,LoopAt.put _ _ _ _ _ _ _ _ _ _ _ _,⟨v6,?_⟩,⟨σ3.clock,?_⟩,by simp;omega⟩
  ·rw[Ao,Ao];omega
  ·rw[Ao,Ao];omega
  ·rw[Ao,Ao];omega
  ·rw[An,if_neg (by omega),An,if_neg (by omega),x3.get r (by omega)];exact r2
  ·rw[An,if_neg (by omega),An,if_pos rfl,List.length_append,List.length_singleton]
def LeftAt(r:Nat)(B:Nat→Prop)(σ:FState):Prop:=r<σ.next∧∃ver,σ.heap.get r=some ⟨.defd true,false,none,ver⟩
theorem VW(m l r cb mp:Nat)(R:Nat→Prop)(f g:Nat→Value)(hne:cb<r∧r<l)(h3:f 3=.pointer (some ⟨cb,0,none⟩))(done:List (List Nat×D))(path:List Nat)(k' z:Int)(t:ByteArray)(ps:List D)(he:pieceE k' z t ps.length≠0):
  PanAt (env (m+25)) l R (ValidI l r cb mp f g) (LeftAt r) done path (.mk k' z t ps) [failing (pieceE k' z t ps.length:Nat) 0]:=fun B σ pv v hw ⟨h1,h2,h4,h5,h6,⟨v6,h7⟩,⟨v7,h8⟩,h9⟩ _ hL=>by
  obtain⟨p,c,rfl,hq⟩:=hL
  rw[FP _ _ _ _ _ _ _ _ _ (m+24) l r _ h6 rfl,Iv]
  simp -implicitDefEqProofs only[go_sem,Aw,Mk,Mj,List.zip_cons_cons,List.zip_nil_right,Dz,D2]
  have x1:Ext σ ((σ.push (.cells [.int .i64 0,.int .i64 0,.string ⟨#[]⟩,.slice none 0 0] TD) none).put σ.next (.cells [.int .i64 k',.int .i64 z,.string t,.slice p ps.length c] TD) none):=((Ext.refl _).push _ _).put _ _ _ (Nat.le_refl _)
  have hw1:=(hw.push (.cells [.int .i64 0,.int .i64 0,.string ⟨#[]⟩,.slice none 0 0] TD) none).put σ.next (.cells [.int .i64 k',.int .i64 z,.string t,.slice p ps.length c] TD) none (Nat.lt_succ_self _)
  have b1:((σ.push (.cells [.int .i64 0,.int .i64 0,.string ⟨#[]⟩,.slice none 0 0] TD) none).put σ.next (.cells [.int .i64 k',.int .i64 z,.string t,.slice p ps.length c] TD) none).cells σ.next=some [.int .i64 k',.int .i64 z,.string t,.slice p ps.length c]:=by rw[Ar,if_pos rfl];rfl
  have n1:((σ.push (.cells [.int .i64 0,.int .i64 0,.string ⟨#[]⟩,.slice none 0 0] TD) none).put σ.next (.cells [.int .i64 k',.int .i64 z,.string t,.slice p ps.length c] TD) none).next=σ.next+1:=rfl
  generalize FState.put _ _ _ _=σ1 at x1 hw1 b1 n1 ⊢
  have l1:=h6.keep (x1.get l h2)
  rw[CP _ _ _ _ _ _ _ _ _ l r _ l1,Iw]
  have hw2:=hw1.put l (.loop .busy none 71 ((List.range 6).map f) g 6 25 [12,13] B1 B5 r) none (by omega)
  have l2:LoopAt 71 [12,13] B1 B5 6 25 f g l r .busy (σ1.put l (.loop .busy none 71 ((List.range 6).map f) g 6 25 [12,13] B1 B5 r) none):=LoopAt.put _ _ _ _ _ _ _ _ _ _ _ _
  have b2:(σ1.put l (.loop .busy none 71 ((List.range 6).map f) g 6 25 [12,13] B1 B5 r) none).cells σ.next=some [.int .i64 k',.int .i64 z,.string t,.slice p ps.length c]:=by rw[Ar,if_neg (by omega)];exact b1
  have g2:(σ1.put l (.loop .busy none 71 ((List.range 6).map f) g 6 25 [12,13] B1 B5 r) none).heap.get cb=some ⟨.cells [.int .i64 (.ofNat done.length),.map (some mp)] 136,false,none,v7⟩:=by rw[An,if_neg (by omega)];exact(x1.get cb h5).trans h8
  have r2:(σ1.put l (.loop .busy none 71 ((List.range 6).map f) g 6 25 [12,13] B1 B5 r) none).heap.get r=some ⟨.defd true,false,none,v6⟩:=by rw[An,if_neg (by omega)];exact(x1.get r h4).trans h7
  have hC2:Chg B σ (σ1.put l (.loop .busy none 71 ((List.range 6).map f) g 6 25 [12,13] B1 B5 r) none):=(x1.chg B).put _ _ _ (.inr ((h1 l).2 (.inl rfl)))
  have n2:(σ1.put l (.loop .busy none 71 ((List.range 6).map f) g 6 25 [12,13] B1 B5 r) none).next=σ.next+1:=n1
  generalize FState.put _ l _ _=σ2 at hw2 l2 b2 g2 r2 hC2 n2 ⊢
  obtain⟨σ3,e3,x3,hw3⟩:=PH m k' z t ps.length p c σ2 hw2 he
  have n3:=x3.next
  simp -implicitDefEqProofs only[go_sem,Mm,Ml,h3,b2,e3,Nat.le_refl,AW,Aq]
  have hkn:(Tryz.prog.funcs[71]?).isSome=true:=by rw[Tryz.func71];rfl
  rw[B8,hkn,Pq]
  exact⟨B,_,rfl,hw3,hC2.trans (x3.chg B) (fun b _ h=>h),fun b hb=>.inl hb,by omega,v6,(x3.get r (by omega)).trans r2⟩
theorem VU(m:Nat)(d:D)(lv:List Value)(h4:lv.length=4)(R:Nat→Prop)(σ:FState)(hw:Wf σ)(hL:LaidR R σ (.agg lv.toArray) d)(hR:∀b,R b→b<σ.next)(hS:Small (d.pieces []))(hN:(d.pieces []).length≤2000)(pre rest:List (List Nat×D))(path:List Nat)(k' z:Int)(t:ByteArray)(ps:List D)(hsplit:d.pieces []=pre++(path,.mk k' z t ps)::rest)(hG:∀(i:Nat) path k z t ds,i<pre.length→(d.pieces [])[i]? = some (path,D.mk k z t ds)→∃k':Nat,k=(k':Int)∧Good (m+22) k' z t ds.length)(he:pieceE k' z t ps.length≠0):
  Fails ((env (m+27)).call 71 [.agg lv.toArray] none σ) σ (pieceE k' z t ps.length:Nat) 0:=by
 rw[Ag _ 71 _ _ rfl,Z8 _ _ _ _ (by simp),Af]
 unfold Abc
 have ht:lv.take 4=lv:=List.take_of_length_le (by omega)
 simp -implicitDefEqProofs only[go_sem,Aw,Vb,R7,Vc,R8,HE,Ip,JC]
 generalize hff:upd _ 3 _=f1
 generalize hg0:upd _ 7 _=g0
 have q1:f1 1=.pointer (some ⟨σ.next,0,none⟩):=by rw[←hff];simp -implicitDefEqProofs only[go_sem,reduceCtorEq]
 have q3:f1 3=.pointer (some ⟨σ.next+2,0,none⟩):=by rw[←hff];simp -implicitDefEqProofs only[go_sem,reduceCtorEq]
 clear hff hg0
 have x1:Ext σ ((((σ.push (.cells lv TD) none).push (.map [] 0) none).push (.cells [.int .i64 0,.map none] 136) none).put (σ.next+2) (.cells [.int .i64 0,.map (some (σ.next+1))] 136) none):=((((Ext.refl _).push _ _).push _ _).push _ _).put _ _ _ (by omega)
 have hw1:=(((hw.push (.cells lv TD) none).push (.map [] 0) none).push (.cells [.int .i64 0,.map none] 136) none).put (σ.next+2) (.cells [.int .i64 0,.map (some (σ.next+1))] 136) none (Nat.lt_succ_self _)
 have g1:((((σ.push (.cells lv TD) none).push (.map [] 0) none).push (.cells [.int .i64 0,.map none] 136) none).put (σ.next+2) (.cells [.int .i64 0,.map (some (σ.next+1))] 136) none).heap.get (σ.next+2)=some ⟨.cells [.int .i64 0,.map (some (σ.next+1))] 136,false,none,σ.clock+3⟩:=by rw[An,if_pos rfl];rfl
 have c1:((((σ.push (.cells lv TD) none).push (.map [] 0) none).push (.cells [.int .i64 0,.map none] 136) none).put (σ.next+2) (.cells [.int .i64 0,.map (some (σ.next+1))] 136) none).cells σ.next=some lv:=by
  rw[Ar,if_neg (by omega),Ab,if_neg (by simp only[Aa];omega),Ab,if_neg (by simp only[Aa];omega),Ab,if_pos rfl];rfl
 have n1:((((σ.push (.cells lv TD) none).push (.map [] 0) none).push (.cells [.int .i64 0,.map none] 136) none).put (σ.next+2) (.cells [.int .i64 0,.map (some (σ.next+1))] 136) none).next=σ.next+3:=rfl
 generalize FState.put _ _ _ _=σ1 at x1 hw1 g1 c1 n1 ⊢
 obtain⟨σ2,e2,x2,hw2,n2,cb2,cb1⟩:=M8 (m+25) (.func (.func 120) #[.pointer (some ⟨σ.next+2,0,none⟩)] #[]) lv σ1 hw1 (Cm _ _ _)
 simp -implicitDefEqProofs only[go_sem,Vd,R9,q1,q3,c1,h4,ht,e2,Nat.le_refl,Cm,Dw]
 generalize hgg:upd _ 11 _=gg
 have hL2:LaidR R σ2 (.agg lv.toArray) d:=hL.keep fun b cs hb hc=>⟨((x1.trans x2).cells (hw.cells hc)).trans hc,hb⟩
 have hcm2:σ2.heap.get (σ.next+2)=some ⟨.cells [.int .i64 0,.map (some (σ.next+1))] 136,false,none,σ.clock+3⟩:=(x2.get _ (by omega)).trans g1
 obtain⟨σ3,B3,e3,ch3,n3,hB3,hw3,i3⟩:=MQ (m+25) 71 [12,13] B1 B5 6 25 f1 gg [] none 11 (σ1.next+1) σ1.next σ2 (.func (.func 120) #[.pointer (some ⟨σ.next+2,0,none⟩)] #[]) R d lv (ValidI (σ2.next+1) σ2.next (σ.next+2) (σ.next+1) f1 gg) (fun b=>b=σ2.next+1∨b=σ2.next∨b=σ.next+2)
  (S5 pre.length (m+22) (σ2.next+1) σ2.next (σ.next+2) (σ.next+1) R f1 gg _ ⟨by omega,by omega⟩ q3 (fun b hb=>by have:=hR b hb;omega) hG hN) (VW m (σ2.next+1) σ2.next (σ.next+2) (σ.next+1) R f1 gg ⟨by omega,by omega⟩ q3 pre path k' z t ps he) hsplit hS (by omega)
  ⟨fun b=>Iff.rfl,by rw[Aa,Aa];omega,by rw[Aa,Aa];omega,by rw[Aa,Aa];omega,Eu ..,⟨_,by rw[Ak,if_neg (by rw[Aa];omega),Ak,if_pos rfl]⟩,⟨_,by rw[Ak,if_neg (by rw[Aa];omega),Ak,if_neg (by omega)];exact hcm2⟩,by simp⟩
  (by rw[Ir,←hgg];simp -implicitDefEqProofs only[go_sem,reduceCtorEq]) hw2 cb1 (fun h=>by rcases h with h|h|h<;>omega) hL2 (fun b hb=>by have:=hR b hb;omega) cb2 (fun h=>by rcases h with h|h|h<;>omega)
 rw[e3]
 obtain⟨h2,v6,h7⟩:=i3
 rw[B8,Aq,Av,NI]
 rw[C8 _ _ _ _ _ _ _ _ _ _ _ h7]
 have x3:Ext σ σ3:=⟨by omega,by have:=x1.clock;have:=x2.clock;have:=ch3.clock;omega,fun b hb=>(ch3.get b (by omega) (fun h=>by rcases h with h|h|h<;>omega)).trans ((x1.trans x2).get b hb)⟩
 rw[AK]
 exact⟨_,rfl,x3.put _ _ _ (by omega),hw3.put _ _ _ (by omega)⟩
end
section
open Go Go.Eng
attribute [local congr] Ac Aj Ai Ad Ah
attribute [-go_sem] List.range_succ
def pE:D→Nat
 | .mk k z t ds=>pieceE k z t ds.length
mutual
theorem Aq5:∀(d:D) (path:List Nat),firstE d=0→∀y∈d.pieces path,pE y.2=0
 | .mk k z t ds,path,h=>fun y hy=>by
  rw[firstE] at h
  split at h
  ·rename_i hp
   rw[D.pieces] at hy
   rcases List.mem_cons.1 hy with rfl|hy
   ·exact hp
   ·exact AeT ds path 0 h y hy
  ·omega
theorem AeT:∀(ds:List D) (path:List Nat) (i:Nat),firstEs ds=0→∀y∈D.piecesL path i ds,pE y.2=0
 | [],path,i,_=>fun y hy=>by simp[D.piecesL] at hy
 | d::ds,path,i,h=>fun y hy=>by
  rw[firstEs] at h
  rw[D.piecesL] at hy
  split at h
  ·rename_i hp
   rcases List.mem_append.1 hy with hy|hy
   ·exact Aq5 d _ hp y hy
   ·exact AeT ds path (i+1) h y hy
  ·omega
end
def SplitE(A:List (List Nat×D))(e:Nat):Prop:=∃pre path x rest,A=pre++(path,x)::rest∧(∀y∈pre,pE y.2=0)∧pE x=e
mutual
theorem Abm:∀(d:D) (path:List Nat),firstE d≠0→SplitE (d.pieces path) (firstE d)
 | .mk k z t ds,path,h=>by
  rw[firstE] at h ⊢
  by_cases hp:pieceE k z t ds.length=0
  ·rw[if_pos hp] at h ⊢
   obtain⟨pre,p,x,rest,h1,h2,h3⟩:=VS ds path 0 h
   rw[D.pieces,h1]
   refine⟨(path,.mk k z t ds)::pre,p,x,rest,rfl,fun y hy=>?_,h3⟩
   rcases List.mem_cons.1 hy with rfl|hy
   ·exact hp
   ·exact h2 y hy
  ·rw[if_neg hp]
   exact⟨[],path,.mk k z t ds,D.piecesL path 0 ds,by rw[D.pieces];rfl,fun y hy=>(by cases hy),rfl⟩
theorem VS:∀(ds:List D) (path:List Nat) (i:Nat),firstEs ds≠0→SplitE (D.piecesL path i ds) (firstEs ds)
 | [],path,i,h=>absurd rfl h
 | d::ds,path,i,h=>by
  rw[firstEs] at h ⊢
  rw[D.piecesL]
  by_cases hp:firstE d=0
  ·rw[if_pos hp] at h ⊢
   obtain⟨pre,p,x,rest,h1,h2,h3⟩:=VS ds path (i+1) h
   rw[h1]
   refine⟨d.pieces (path++[i])++pre,p,x,rest,by rw[List.append_assoc],fun y hy=>?_,h3⟩
   rcases List.mem_append.1 hy with hy|hy
   ·exact Aq5 d _ hp y hy
   ·exact h2 y hy
  ·rw[if_neg hp]
   obtain⟨pre,p,x,rest,h1,h2,h3⟩:=Abm d (path++[i]) hp
   rw[h1]
   exact⟨pre,p,x,rest++D.piecesL path (i+1) ds,by rw[List.append_assoc];rfl,h2,h3⟩
end
mutual
theorem HH:∀(d:D) (path:List Nat),∀y∈d.pieces path,y.2.count≤d.count
 | .mk k z t ds,path=>fun y hy=>by
  rw[D.pieces] at hy
  rcases List.mem_cons.1 hy with rfl|hy
  ·exact Nat.le_refl _
  ·rw[D.count]
   have:=GP ds path 0 y hy
   omega
theorem GP:∀(ds:List D) (path:List Nat) (i:Nat),∀y∈D.piecesL path i ds,y.2.count≤D.counts ds
 | [],path,i=>fun y hy=>by simp[D.piecesL] at hy
 | d::ds,path,i=>fun y hy=>by
  rw[D.piecesL] at hy
  rw[D.counts]
  rcases List.mem_append.1 hy with hy|hy
  ·have:=HH d _ y hy
   omega
  ·have:=GP ds path (i+1) y hy
   omega
end
theorem AeK{d:D}(hc:d.count<900):Small (d.pieces []):=fun x hx=>by
 have h1:=JH d (by have:=Cw d;omega) x hx
 have h2:=HH d [] x hx
 refine⟨by omega,?_⟩
 obtain⟨p,k,z,t,ds⟩:=x
 rw[D.count] at h2
 have:=CJ ds
 show ds.length<_
 omega
theorem GI(m:Nat)(d:D)(he:firstE d≠0)(hc:d.count<900)(lv:List Value)(h4:lv.length=4)(R:Nat→Prop)(σ:FState)(hw:Wf σ)(hL:LaidR R σ (.agg lv.toArray) d)(hR:∀b,R b→b<σ.next):
  Fails ((env (m+27)).call 71 [.agg lv.toArray] none σ) σ (firstE d:Nat) 0:=by
 obtain⟨pre,path,x,rest,h1,h2,h3⟩:=Abm d [] he
 obtain⟨k',z,t,ps⟩:=x
 have h3':pieceE k' z t ps.length=firstE d:=h3
 rw[←h3'] at he ⊢
 refine VU m d lv h4 R σ hw hL hR (AeK hc) (by rw[Cn];omega) pre rest path k' z t ps h1 (fun i path k z t ds hi hx=>?_) he
 rw[h1,List.getElem?_append_left hi] at hx
 exact JG (m+1) (h2 _ (List.mem_of_getElem? hx))
theorem O_(m:Nat)(d:D)(he:firstE d=0)(hc:d.count<900)(lv:List Value)(h4:lv.length=4)(R:Nat→Prop)(σ:FState)(hw:Wf σ)(hL:LaidR R σ (.agg lv.toArray) d)(hR:∀b,R b→b<σ.next):
  Gives ((env (m+27)).call 71 [.agg lv.toArray] none σ) σ fun w _=>w=.int .i64 (.ofNat d.count):=
 Dn (m+22) d (It (m+1) he hc).sane (by omega) (It (m+1) he hc).deep lv h4 R σ hw hL hR
end
section
open Go Go.Eng
attribute [local congr] Ac Aj Ai Ad Ah
attribute [-go_sem] List.range_succ
theorem KS(n b1 b2:Nat)(c z x1 x2:Int)(v1 v2:Nat)(σ:FState)(hw:Wf σ)(hne:b1≠b2)(g1:σ.heap.get b1=some ⟨.cells [.int .i64 x1] 3,false,none,v1⟩)(g2:σ.heap.get b2=some ⟨.cells [.int .i64 x2] 32,false,none,v2⟩):
  ∃σ1,Ext σ σ1∧Wf σ1∧(env (n+3)).call 157 [.pointer (some ⟨b1,0,none⟩),.pointer (some ⟨b2,0,none⟩)] (some (.panicking [failing c z])) σ=
   .ret (.tuple #[]) (some (.panicking [failed c z])) ((σ1.put b1 (.cells [.int .i64 z] 3) none).put b2 (.cells [.int .i64 c] 32) none):=by
 rw[FW,TG _ _ _ _ (by simp),Af]
 unfold ST
 obtain⟨_,σ2,e2,hX2,hw2,rfl⟩:=D7 n c z σ hw
 have m1:=(hw _ _ g1).1
 have m2:=(hw _ _ g2).1
 have k1:σ2.heap.get b1=_:=(hX2.get b1 m1).trans g1
 have k2:σ2.heap.get b2=_:=(hX2.get b2 m2).trans g2
 have l1:σ2.next≠b1:=by have:=hX2.next;omega
 have l2:σ2.next≠b2:=by have:=hX2.next;omega
 have w4:Wf ((σ2.push (.cells [.int .i64 0,.int .i64 0] 178) none).put σ2.next (.cells [.int .i64 c,.int .i64 z] 178) none):=(hw2.push (.cells [.int .i64 0,.int .i64 0] 178) none).put _ _ _ (by simp only[Aa];omega)
 have hv4:=BQ (lam:=σ2.clock+2) w4 (Nat.le_refl _)
 simp -implicitDefEqProofs only[go_sem,VX,hv4,Aw,OG,Kn,OH,Ko,Adu,QV,Adv,QW,Adw,QX,Adx,QY,Fp,AfR,NW,e2,k1,k2,l1,l2,l1.symm,l2.symm,hne,hne.symm,AX,AJ]
 refine⟨_,(hX2.push _ _).put _ _ _ hX2.next,w4,rfl⟩
theorem Pf(n w:Nat)(cap:Array Value)(c z:Int)(σ:FState)(hw:Wf σ)(h:∀σ',Ext σ σ'→Wf σ'→Fails ((env (n+3)).call w cap.toList none σ') σ' c z):
  Gives ((env (n+4)).call 129 [.func (.func w) #[] cap] none σ) σ fun v _=>v=.tuple #[.int .i64 0,.int .i64 z,.int .i64 c]:=by
 rw[Ag _ 129 _ _ rfl,TE _ _ _ _ (by simp),Af]
 unfold SR
 have hX1:Ext σ ((σ.push (.cells [.int .i64 0] 3) none).push (.cells [.int .i64 0] 32) none):=((Ext.refl _).push _ _).push _ _
 have hw1:=(hw.push (.cells [.int .i64 0] 3) none).push (.cells [.int .i64 0] 32) none
 obtain⟨σ2,e2,hX2,hw2⟩:=h _ hX1 hw1
 have g1:σ2.heap.get σ.next=_:=(hX2.get σ.next (by simp only[Aa];omega)).trans (by simp -implicitDefEqProofs only[Ak,Aa,Nat.add_assoc,Nat.reduceAdd,Nat.left_eq_add,reduceCtorEq,↓reduceIte,Nat.reduceEqDiff]<;>rfl)
 have g2:σ2.heap.get (σ.next+1)=_:=(hX2.get (σ.next+1) (by simp only[Aa];omega)).trans (by simp -implicitDefEqProofs only[Ak,Aa,Nat.add_assoc,Nat.reduceAdd,Nat.add_left_cancel_iff,reduceCtorEq,↓reduceIte,Nat.reduceEqDiff]<;>rfl)
 obtain⟨σ3,hX3,hw3,e3⟩:=KS n σ.next (σ.next+1) c z 0 0 _ _ σ2 hw2 (by omega) g1 g2
 have m1:=(hw2 _ _ g1).1
 have m2:=(hw2 _ _ g2).1
 simp -implicitDefEqProofs only[go_sem,Aw,Ou,Kb,Ov,Kc,Ow,Kd,e2,AW,Aq,Av,K1,e3,EL,Pa,Fq,AX,AJ,AI,BU,Bt]
 have hn3:=hX3.next
 refine⟨_,_,rfl,?_,?_,rfl⟩
 ·exact(((hX1.trans hX2).trans hX3).put σ.next _ _ (Nat.le_refl _)).put (σ.next+1) _ _ (Nat.le_add_right _ _)
 ·exact(hw3.put σ.next _ _ (by omega)).put (σ.next+1) _ _ (by simp only[Ao];omega)
theorem KM(n w:Nat)(cap:Array Value)(c z:Int)(σ:FState)(hw:Wf σ)(h:∀σ',Ext σ σ'→Wf σ'→Fails ((env (n+3)).call w cap.toList none σ') σ' c z):
  Gives ((env (n+5)).call 79 [.func (.func w) #[] cap] none σ) σ fun v _=>v=.tuple #[.int .i64 0,.int .i64 c]:=by
 rw[Ag _ 79 _ _ rfl,Z9 _ _ _ _ (by simp),Af]
 unfold Abd
 obtain⟨_,σ2,e2,hX2,hw2,rfl⟩:=Pf n w cap c z σ hw h
 simp -implicitDefEqProofs only[go_sem,Vf,Sa,Vg,Sb,Vh,Sc,e2,AX,AJ,AI,Bt]
 exact⟨_,_,rfl,hX2,hw2,rfl⟩
theorem Nd(M m:Nat)(hm:M=m+22)(d:D)(hd:firstE d≠0)(hc:d.count<900)(lv mv:List Value)(h4:lv.length=4)(b1 b2:Nat)(σ:FState)(hw:Wf σ)(c1:σ.cells b1=some lv)(hL:LaidR (fun b=>b<σ.next) σ (.agg lv.toArray) d):
  Fails ((env (M+6)).call 87 [.pointer (some ⟨b1,0,none⟩),.pointer (some ⟨b2,0,none⟩)] none σ) σ (firstE d:Nat) 0:=by
 rw[Ag _ 87 _ _ rfl,Pt _ _ _ _ (by simp),Af]
 unfold VO
 have ht:lv.take 4=lv:=List.take_of_length_le (by omega)
 obtain⟨σ2,e2,x2,hw2⟩:=GI m d hd hc lv h4 (fun b=>b<σ.next) σ hw hL (fun b hb=>hb)
 rw[show m+27=M+5 by omega] at e2
 simp -implicitDefEqProofs only[go_sem,MH,MG,MJ,MI,c1,h4,ht,e2,Nat.le_refl,AW,Aq,Av,AK]
 exact⟨_,rfl,x2,hw2⟩
theorem Nf(M m:Nat)(hm:M=m+22)(d e:D)(hd:firstE d=0)(he:firstE e≠0)(hc:d.count<900)(hc':e.count<900)(lv mv:List Value)(h4:lv.length=4)(hm4:mv.length=4)(b1 b2:Nat)(σ:FState)(hw:Wf σ)(c1:σ.cells b1=some lv)(c2:σ.cells b2=some mv)(hL:LaidR (fun b=>b<σ.next) σ (.agg lv.toArray) d)(hLe:LaidR (fun b=>b<σ.next) σ (.agg mv.toArray) e):
  Fails ((env (M+6)).call 87 [.pointer (some ⟨b1,0,none⟩),.pointer (some ⟨b2,0,none⟩)] none σ) σ (firstE e:Nat) 0:=by
 rw[Ag _ 87 _ _ rfl,Pt _ _ _ _ (by simp),Af]
 unfold VO
 have ht:lv.take 4=lv:=List.take_of_length_le (by omega)
 have htm:mv.take 4=mv:=List.take_of_length_le (by omega)
 obtain⟨_,σ2,e2,x2,hw2,rfl⟩:=O_ m d hd hc lv h4 (fun b=>b<σ.next) σ hw hL (fun b hb=>hb)
 have n2:=x2.next
 obtain⟨σ3,e3,x3,hw3⟩:=GI m e he hc' mv hm4 (fun b=>b<σ.next) σ2 hw2 (hLe.keep fun b cs hb hc=>⟨(x2.cells hb).trans hc,hb⟩) (fun b hb=>by omega)
 rw[show m+27=M+5 by omega] at e2 e3
 have d1:=(x2.cells (hw.cells c2)).trans c2
 simp -implicitDefEqProofs only[go_sem,MH,MG,MJ,MI,Vt,Sq,c1,h4,hm4,ht,htm,e2,d1,e3,Nat.le_refl,AW,Aq,Av,AK]
 exact⟨_,rfl,x2.trans x3,hw3⟩
def twoE(d e:D):Nat:=if firstE d=0 then firstE e else firstE d
def cmpR(d e:D):Value:=if twoE d e=0 then .tuple #[.int .i64 (ordU d e),.int .i64 0] else .tuple #[.int .i64 0,.int .i64 (twoE d e:Nat)]
theorem Tu(M m n N:Nat)(hM:M=n+1+3*N)(hm:M=m+22)(d e:D)(hd:d.count<900)(he:e.count<900)(hN:d.deep≤N)(lv mv:List Value)(h4:lv.length=4)(hm4:mv.length=4)(σ:FState)(hw:Wf σ)(hL:LaidR (fun b=>b<σ.next) σ (.agg lv.toArray) d)(hLe:LaidR (fun b=>b<σ.next) σ (.agg mv.toArray) e):
  Gives ((env (M+9)).call 25 [.agg lv.toArray,.agg mv.toArray] none σ) σ fun w _=>w=cmpR d e:=by
 unfold cmpR twoE
 by_cases h1:firstE d=0
 ·rw[if_pos h1]
  by_cases h2:firstE e=0
  ·rw[if_pos h2]
   exact Wk M n N hM d e (by have:=It (m+1) h1 hd;rwa [show m+1+21=M by omega] at this) (by have:=It (m+1) h2 he;rwa [show m+1+21=M by omega] at this) hN lv mv h4 hm4 σ hw hL hLe
  ·rw[if_neg h2]
   rw[Ag _ 25 _ _ rfl,Pr _ _ _ _ (by simp),Af]
   unfold VM
   have x1:Ext σ ((σ.push (.cells lv TD) none).push (.cells mv TD) none):=((Ext.refl _).push _ _).push _ _
   have hw1:=(hw.push (.cells lv TD) none).push (.cells mv TD) none
   have c1:((σ.push (.cells lv TD) none).push (.cells mv TD) none).cells σ.next=some lv:=by rw[Ab,if_neg (by rw[Aa];omega),Ab,if_pos rfl];rfl
   have c2:((σ.push (.cells lv TD) none).push (.cells mv TD) none).cells (σ.next+1)=some mv:=by rw[Ab,if_pos (by rw[Aa])];rfl
   obtain⟨_,σ2,e2,x2,hw2,rfl⟩:=KM (M+3) 87 #[.pointer (some ⟨σ.next,0,none⟩),.pointer (some ⟨σ.next+1,0,none⟩)] (firstE e:Nat) 0 _ hw1 fun σ' hX hw'=>Nf M m hm d e h1 h2 hd he lv mv h4 hm4 σ.next (σ.next+1) σ' hw' ((hX.cells (hw1.cells c1)).trans c1) ((hX.cells (hw1.cells c2)).trans c2)
    (hL.keep fun b cs hb hc=>⟨((x1.trans hX).cells hb).trans hc,by have:=(x1.trans hX).next;omega⟩) (hLe.keep fun b cs hb hc=>⟨((x1.trans hX).cells hb).trans hc,by have:=(x1.trans hX).next;omega⟩)
   simp -implicitDefEqProofs only[go_sem,LY,LX,L0,LZ,e2,AX,AJ,AI,Bt]
   exact⟨_,_,rfl,x1.trans x2,hw2,rfl⟩
 ·rw[if_neg h1,if_neg h1]
  rw[Ag _ 25 _ _ rfl,Pr _ _ _ _ (by simp),Af]
  unfold VM
  have x1:Ext σ ((σ.push (.cells lv TD) none).push (.cells mv TD) none):=((Ext.refl _).push _ _).push _ _
  have hw1:=(hw.push (.cells lv TD) none).push (.cells mv TD) none
  have c1:((σ.push (.cells lv TD) none).push (.cells mv TD) none).cells σ.next=some lv:=by rw[Ab,if_neg (by rw[Aa];omega),Ab,if_pos rfl];rfl
  obtain⟨_,σ2,e2,x2,hw2,rfl⟩:=KM (M+3) 87 #[.pointer (some ⟨σ.next,0,none⟩),.pointer (some ⟨σ.next+1,0,none⟩)] (firstE d:Nat) 0 _ hw1 fun σ' hX hw'=>Nd M m hm d h1 hd lv mv h4 σ.next (σ.next+1) σ' hw' ((hX.cells (hw1.cells c1)).trans c1)
   (hL.keep fun b cs hb hc=>⟨((x1.trans hX).cells hb).trans hc,by have:=(x1.trans hX).next;omega⟩)
  simp -implicitDefEqProofs only[go_sem,LY,LX,L0,LZ,e2,AX,AJ,AI,Bt]
  exact⟨_,_,rfl,x1.trans x2,hw2,rfl⟩
end
section
open Go Go.Eng
attribute [local congr] Ac Aj Ai Ad Ah
attribute [-go_sem] List.range_succ
mutual
def apartP:D→D→Option (List Nat)
 | .mk k z t ds,.mk k' z' t' es=>if likeD (.mk k z t ds) (.mk k' z' t' es) then apartPs 0 ds es else some []
def apartPs(i:Nat):List D→List D→Option (List Nat)
 | d::ds,e::es=>match apartP d e with
  | some p=>some (i::p)
  | none=>apartPs (i+1) ds es
 | [],_=>none
 | _::_,[]=>none
end
def SplitAt(P:List Nat)(A B:List (List Nat×D)):Prop:=∃pre pre' x y ra rb,A=pre++(P,x)::ra∧B=pre'++(P,y)::rb∧Agree pre pre'∧likeD x y=false
mutual
theorem Hh(p:List Nat):∀d e:D,(apartP d e=none∧d=e)∨∃q,apartP d e=some q∧SplitAt (p++q) (d.pieces p) (e.pieces p)
 | .mk k z t ds,.mk k' z' t' es=>by
  rw[apartP]
  cases h:likeD (.mk k z t ds) (.mk k' z' t' es) with
  | false=>exact .inr ⟨[],by simp,[],[],_,_,_,_,by rw[D.pieces,List.append_nil];rfl,by rw[D.pieces,List.append_nil];rfl,.nil,h⟩
  | true=>
   rw[if_pos rfl]
   have h':=h
   simp only[likeD,Bool.and_eq_true,beq_iff_eq] at h'
   obtain⟨⟨⟨h1,h2⟩,h3⟩,h4⟩:=h'
   have h5:=toList_inj h3
   subst h1 h2 h5
   rcases GJ p ds es 0 (Int.ofNat.inj h4) with⟨e0,rfl⟩|⟨q,e0,pre,pre',x,y,ra,rb,e1,e2,e3,e4⟩
   ·exact .inl ⟨e0,rfl⟩
   ·exact .inr ⟨q,e0,(p,.mk k z t ds)::pre,(p,.mk k z t es)::pre',x,y,ra,rb,by rw[D.pieces,e1];rfl,by rw[D.pieces,e2];rfl,.cons rfl h e3,e4⟩
theorem GJ(p:List Nat):∀(ds es:List D) (i:Nat),ds.length=es.length→(apartPs i ds es=none∧ds=es)∨∃q,apartPs i ds es=some q∧SplitAt (p++q) (D.piecesL p i ds) (D.piecesL p i es)
 | [],[],_,_=>.inl ⟨by rw[apartPs],rfl⟩
 | [],_::_,_,h=>by simp at h
 | _::_,[],_,h=>by simp at h
 | d::ds,e::es,i,h=>by
  rw[apartPs]
  rcases Hh (p++[i]) d e with⟨e0,rfl⟩|⟨q,e0,pre,pre',x,y,ra,rb,e1,e2,e3,e4⟩
  ·rw[e0]
   rcases GJ p ds es (i+1) (by simpa using h) with⟨e0,rfl⟩|⟨q,e0,pre,pre',x,y,ra,rb,e1,e2,e3,e4⟩
   ·exact .inl ⟨e0,rfl⟩
   ·exact .inr ⟨q,e0,d.pieces (p++[i])++pre,d.pieces (p++[i])++pre',x,y,ra,rb,by rw[D.piecesL,e1,List.append_assoc],by rw[D.piecesL,e2,List.append_assoc],(Agree.refl _).append e3,e4⟩
  ·rw[e0]
   rw[List.append_assoc,List.singleton_append] at e1 e2
   exact .inr ⟨i::q,rfl,pre,pre',x,y,ra++D.piecesL p (i+1) ds,rb++D.piecesL p (i+1) es,by rw[D.piecesL,e1,List.append_assoc,List.cons_append],by rw[D.piecesL,e2,List.append_assoc,List.cons_append],e3,e4⟩
end
def DifOk(d e:D)(S:Nat→Prop)(σ:FState)(w:Value):Prop:=
 if twoE d e=0 then match apartP d e with
  | some p=>∃u,w=.tuple #[u,.int .i64 0]∧PathV S σ u p
  | none=>w=.tuple #[.slice none 0 0,.int .i64 10]
 else w=.tuple #[.slice none 0 0,.int .i64 (twoE d e:Nat)]
theorem Pk(M m:Nat)(hm:M=m+22)(d:D)(hd:firstE d≠0)(hc:d.count<900)(lv:List Value)(h4:lv.length=4)(b1 b2:Nat)(σ:FState)(hw:Wf σ)(c1:σ.cells b1=some lv)(hL:LaidR (fun b=>b<σ.next) σ (.agg lv.toArray) d):
  Fails ((env (M+6)).call 91 [.pointer (some ⟨b1,0,none⟩),.pointer (some ⟨b2,0,none⟩)] none σ) σ (firstE d:Nat) 0:=by
 rw[Ag _ 91 _ _ rfl,JZ _ _ _ _ (by simp),Af]
 unfold O4
 have ht:lv.take 4=lv:=List.take_of_length_le (by omega)
 obtain⟨σ2,e2,x2,hw2⟩:=GI m d hd hc lv h4 (fun b=>b<σ.next) σ hw hL (fun b hb=>hb)
 rw[show m+27=M+5 by omega] at e2
 simp -implicitDefEqProofs only[go_sem,Ii,Jf,Ij,Jg,c1,h4,ht,e2,Nat.le_refl,AW,Aq,Av,AK]
 exact⟨_,rfl,x2,hw2⟩
theorem Pm(M m:Nat)(hm:M=m+22)(d e:D)(hd:firstE d=0)(he:firstE e≠0)(hc:d.count<900)(hc':e.count<900)(lv mv:List Value)(h4:lv.length=4)(hm4:mv.length=4)(b1 b2:Nat)(σ:FState)(hw:Wf σ)(c1:σ.cells b1=some lv)(c2:σ.cells b2=some mv)(hL:LaidR (fun b=>b<σ.next) σ (.agg lv.toArray) d)(hLe:LaidR (fun b=>b<σ.next) σ (.agg mv.toArray) e):
  Fails ((env (M+6)).call 91 [.pointer (some ⟨b1,0,none⟩),.pointer (some ⟨b2,0,none⟩)] none σ) σ (firstE e:Nat) 0:=by
 rw[Ag _ 91 _ _ rfl,JZ _ _ _ _ (by simp),Af]
 unfold O4
 have ht:lv.take 4=lv:=List.take_of_length_le (by omega)
 have htm:mv.take 4=mv:=List.take_of_length_le (by omega)
 obtain⟨_,σ2,e2,x2,hw2,rfl⟩:=O_ m d hd hc lv h4 (fun b=>b<σ.next) σ hw hL (fun b hb=>hb)
 have n2:=x2.next
 obtain⟨σ3,e3,x3,hw3⟩:=GI m e he hc' mv hm4 (fun b=>b<σ.next) σ2 hw2 (hLe.keep fun b cs hb hc=>⟨(x2.cells hb).trans hc,hb⟩) (fun b hb=>by omega)
 rw[show m+27=M+5 by omega] at e2 e3
 have d1:=(x2.cells (hw.cells c2)).trans c2
 simp -implicitDefEqProofs only[go_sem,Ii,Jf,Ij,Jg,MN,MM,c1,h4,hm4,ht,htm,e2,d1,e3,Nat.le_refl,AW,Aq,Av,AK]
 exact⟨_,rfl,x2.trans x3,hw3⟩
theorem Wm(M m:Nat)(hm:M=m+22)(d e:D)(hd:d.count<900)(he:e.count<900)(lv mv:List Value)(h4:lv.length=4)(hm4:mv.length=4)(σ:FState)(hw:Wf σ)(hL:LaidR (fun b=>b<σ.next) σ (.agg lv.toArray) d)(hLe:LaidR (fun b=>b<σ.next) σ (.agg mv.toArray) e):
  Gives ((env (M+9)).call 27 [.agg lv.toArray,.agg mv.toArray] none σ) σ fun w σ'=>DifOk d e (fun b=>σ.next≤b) σ' w:=by
 unfold DifOk twoE
 by_cases h1:firstE d=0
 ·simp only[if_pos h1]
  by_cases h2:firstE e=0
  ·simp only[if_pos h2]
   have ad:Apart M d:=by have:=It (m+1) h1 hd;rwa [show m+1+21=M by omega] at this
   have ae:Apart M e:=by have:=It (m+1) h2 he;rwa [show m+1+21=M by omega] at this
   rcases Hh [] d e with⟨e0,rfl⟩|⟨q,e0,pre,pre',x,y,ra,rb,hA,hB,hag,hxy⟩
   ·simp only[e0]
    exact TA M d d ad ae lv mv h4 hm4 σ hw hL hLe rfl (fun i x hx=>⟨x.2,by rw[List.getElem?_map,hx];rfl,Lk _⟩)
   ·simp only[e0]
    have hyi:((e.pieces []).map (·.2))[pre.length]? = some y:=by rw[List.getElem?_map,hB,hag.1,List.getElem?_append_right (Nat.le_refl _),Nat.sub_self];rfl
    have hlike:∀(i:Nat) (x:List Nat×D),i<pre.length→(d.pieces [])[i]? = some x→∃y,((e.pieces []).map (·.2))[i]? = some y∧likeD x.2 y=true:=fun i x hi hx=>by
     rw[hA,List.getElem?_append_left hi] at hx
     obtain⟨b,hb1,hb2,hb3⟩:=hag.2 i x hx
     exact⟨b.2,by rw[List.getElem?_map,hB,List.getElem?_append_left (by rw[←hag.1];exact hi),hb1];rfl,hb3⟩
    exact Po M d e ad ae lv mv h4 hm4 σ hw hL hLe pre ra q x y hA hyi hxy hlike
  ·simp only[if_neg h2]
   rw[Ag _ 27 _ _ rfl,JY _ _ _ _ (by simp),Af]
   unfold O3
   have x1:Ext σ ((σ.push (.cells lv TD) none).push (.cells mv TD) none):=((Ext.refl _).push _ _).push _ _
   have hw1:=(hw.push (.cells lv TD) none).push (.cells mv TD) none
   have c1:((σ.push (.cells lv TD) none).push (.cells mv TD) none).cells σ.next=some lv:=by rw[Ab,if_neg (by rw[Aa];omega),Ab,if_pos rfl];rfl
   have c2:((σ.push (.cells lv TD) none).push (.cells mv TD) none).cells (σ.next+1)=some mv:=by rw[Ab,if_pos (by rw[Aa])];rfl
   obtain⟨_,σ2,e2,x2,hw2,rfl⟩:=Ix (M+3) 91 #[.pointer (some ⟨σ.next,0,none⟩),.pointer (some ⟨σ.next+1,0,none⟩)] (firstE e:Nat) 0 _ hw1 fun σ' hX hw'=>Pm M m hm d e h1 h2 hd he lv mv h4 hm4 σ.next (σ.next+1) σ' hw' ((hX.cells (hw1.cells c1)).trans c1) ((hX.cells (hw1.cells c2)).trans c2)
    (hL.keep fun b cs hb hc=>⟨((x1.trans hX).cells hb).trans hc,by have:=(x1.trans hX).next;omega⟩) (hLe.keep fun b cs hb hc=>⟨((x1.trans hX).cells hb).trans hc,by have:=(x1.trans hX).next;omega⟩)
   simp -implicitDefEqProofs only[go_sem,Ib,Ja,Ic,Jb,e2,AX,AJ,AI,Bt]
   exact⟨_,_,rfl,x1.trans x2,hw2,rfl⟩
 ·simp only[if_neg h1]
  rw[Ag _ 27 _ _ rfl,JY _ _ _ _ (by simp),Af]
  unfold O3
  have x1:Ext σ ((σ.push (.cells lv TD) none).push (.cells mv TD) none):=((Ext.refl _).push _ _).push _ _
  have hw1:=(hw.push (.cells lv TD) none).push (.cells mv TD) none
  have c1:((σ.push (.cells lv TD) none).push (.cells mv TD) none).cells σ.next=some lv:=by rw[Ab,if_neg (by rw[Aa];omega),Ab,if_pos rfl];rfl
  obtain⟨_,σ2,e2,x2,hw2,rfl⟩:=Ix (M+3) 91 #[.pointer (some ⟨σ.next,0,none⟩),.pointer (some ⟨σ.next+1,0,none⟩)] (firstE d:Nat) 0 _ hw1 fun σ' hX hw'=>Pk M m hm d h1 hd lv h4 σ.next (σ.next+1) σ' hw' ((hX.cells (hw1.cells c1)).trans c1)
   (hL.keep fun b cs hb hc=>⟨((x1.trans hX).cells hb).trans hc,by have:=(x1.trans hX).next;omega⟩)
  simp -implicitDefEqProofs only[go_sem,Ib,Ja,Ic,Jb,e2,AX,AJ,AI,Bt]
  exact⟨_,_,rfl,x1.trans x2,hw2,rfl⟩
end
section
open Go Go.Eng
variable (E:Env) (ro:Option Nat) (last:List Nat→RunF) (cl:List Nat) (a:FAct) (u:Option FrameMode) (σ:FState)
def U3(_:Unit):List COp:=[⟨fun a σ=>fbox 24 (a.get 0) σ,some 3,fun _=>some true⟩,
 ⟨fun a σ=>fbox 24 (a.get 1) σ,some 4,fun _=>some true⟩,
 ⟨fun a σ=>.val (.bool false) σ,some 6,fun _=>some true⟩]
def AvS:List COp:=U3 ()
def U4(_:Unit):List COp:=[⟨fun a σ=>fload (some 4) (a.get 3) σ,some 24,fun _=>some true⟩,
 ⟨fun a σ=>.enter 9 [(a.get 24)] σ,some 25,fun _=>some true⟩,
 ⟨fun a σ=>.val (a.get 25) σ,some 26,fun _=>some true⟩,
 ⟨fun a σ=>fload (some 4) (a.get 4) σ,some 27,fun a=>gd (a.get 26) false⟩,
 ⟨fun a σ=>.enter 9 [(a.get 27)] σ,some 28,fun a=>gd (a.get 26) false⟩,
 ⟨fun a σ=>fpick (a.get 26) (.bool true) (a.get 28) σ,some 29,fun _=>some true⟩]
def AvT:List COp:=U4 ()
def Aa3(_:Unit):List COp:=[⟨fun a σ=>.enter 10 [] σ,some 30,fun _=>some true⟩,
 ⟨fun a σ=>.val (a.get 30) σ,some 6,fun _=>some true⟩]
def AvV:List COp:=Aa3 ()
def Alz(_:Unit):List COp:=[⟨fun a σ=>.val (a.get 2) σ,some 31,fun _=>some true⟩,
 ⟨fun a σ=>.enter 12 [(a.get 31)] σ,some 32,fun _=>some true⟩,
 ⟨fun a σ=>.val (a.get 32) σ,some 7,fun _=>some true⟩]
def AvW:List COp:=Alz ()
def AlA(_:Unit):List COp:=[⟨fun a σ=>.val (a.get 7) σ,some 33,fun _=>some true⟩,
 ⟨fun a σ=>.enter 11 [(a.get 33),(.int .i64 4)] σ,some 34,fun _=>some true⟩,
 ⟨fun a σ=>.val (a.get 7) σ,some 35,fun _=>some true⟩,
 ⟨fun a σ=>.enter 11 [(a.get 35),(.int .i64 4)] σ,some 36,fun _=>some true⟩,
 ⟨fun a σ=>newCells [(.int .i64 0),(.int .i64 0),(.string ⟨#[]⟩),(.slice none 0 0)] 24 none σ,some 8,fun _=>some true⟩,
 ⟨fun a σ=>newCells [(.int .i64 0),(.int .i64 0),(.string ⟨#[]⟩),(.slice none 0 0)] 24 none σ,some 9,fun _=>some true⟩,
 ⟨fun a σ=>fstore 4 (a.get 8) (a.get 34) σ,none,fun _=>some true⟩,
 ⟨fun a σ=>fstore 4 (a.get 9) (a.get 36) σ,none,fun _=>some true⟩]
def AvX:List COp:=AlA ()
def AlB(_:Unit):List COp:=[⟨fun a σ=>fload (some 4) (a.get 8) σ,some 37,fun _=>some true⟩,
 ⟨fun a σ=>.enter 22 [(a.get 37),(.slice none 0 0)] σ,some 38,fun _=>some true⟩,
 ⟨fun a σ=>.val (a.get 38) σ,some 10,fun _=>some true⟩]
def AvY:List COp:=AlB ()
def AlC(_:Unit):List DOp:=[⟨fun a σ=>.val (a.get 7) σ,some 42,fun _=>some true,some 0,false⟩,
 ⟨fun a σ=>.val (a.get 10) σ,some 43,fun _=>some true,some 0,false⟩,
 ⟨fun a σ=>flenL (a.get 43) σ,some 44,fun _=>some true,some 0,false⟩,
 ⟨fun a σ=>i_sub Tryz.prog 3 (.tmp 44) (.const (.int .i64 1)) (a.get 44) (.int .i64 1) σ,some 45,fun _=>some true,some 0,false⟩,
 ⟨fun a σ=>.enter 24 [(a.get 42),(a.get 45)] σ,some 46,fun _=>some true,none,false⟩,
 ⟨fun a σ=>.val (a.get 7) σ,some 49,fun _=>some true,some 0,false⟩,
 ⟨fun a σ=>.enter 11 [(a.get 49),(.int .i64 2)] σ,some 50,fun _=>some true,none,false⟩,
 ⟨fun a σ=>fload (some 4) (a.get 8) σ,some 40,fun _=>some true,some 0,false⟩,
 ⟨fun a σ=>.val (a.get 10) σ,some 41,fun _=>some true,some 0,false⟩,
 ⟨fun a σ=>findex (none,1) (a.get 41) (a.get 46) σ,some 47,fun _=>some true,some 1,false⟩,
 ⟨fun a σ=>fload none (a.get 47) σ,some 48,fun _=>some true,some 1,false⟩,
 ⟨fun a σ=>.enter 23 [(a.get 40),(a.get 48),(a.get 50)] σ,some 51,fun _=>some true,none,false⟩,
 ⟨fun a σ=>.val (a.get 51) σ,some 39,fun _=>some true,some 3,false⟩,
 ⟨fun a σ=>fextract 0 (a.get 39) σ,some 52,fun _=>some true,some 3,false⟩,
 ⟨fun a σ=>newCells [(.int .i64 0),(.int .i64 0),(.string ⟨#[]⟩),(.slice none 0 0)] 24 none σ,some 11,fun _=>some true,some 0,false⟩,
 ⟨fun a σ=>fstore 4 (a.get 11) (a.get 52) σ,none,fun _=>some true,none,false⟩,
 ⟨fun a σ=>fextract 1 (a.get 39) σ,some 53,fun _=>some true,some 3,false⟩,
 ⟨fun a σ=>.val (a.get 53) σ,some 12,fun _=>some true,some 4,false⟩]
def AvZ:List DOp:=AlC ()
def AlD(_:Unit):List DOp:=[⟨fun a σ=>fload (some 4) (a.get 3) σ,some 54,fun _=>some true,some 0,false⟩,
 ⟨fun a σ=>fload (some 4) (a.get 8) σ,some 55,fun _=>some true,some 0,false⟩,
 ⟨fun a σ=>fload (some 4) (a.get 8) σ,some 56,fun _=>some true,some 0,false⟩,
 ⟨fun a σ=>fload (some 4) (a.get 4) σ,some 57,fun _=>some true,some 0,false⟩,
 ⟨fun a σ=>fbuildSlice 24 4 4 [(.int .i64 0),(.int .i64 0),(.string ⟨#[]⟩),(.slice none 0 0)] [(0,(a.get 54)),(1,(a.get 55)),(2,(a.get 56)),(3,(a.get 57))] σ,some 58,fun _=>some true,some 0,false⟩,
 ⟨fun a σ=>fload (some 4) (a.get 4) σ,some 59,fun _=>some true,some 0,false⟩,
 ⟨fun a σ=>fload (some 4) (a.get 9) σ,some 60,fun _=>some true,some 0,false⟩,
 ⟨fun a σ=>fload (some 4) (a.get 11) σ,some 61,fun _=>some true,some 0,false⟩,
 ⟨fun a σ=>fload (some 4) (a.get 8) σ,some 62,fun _=>some true,some 0,false⟩,
 ⟨fun a σ=>fbuildSlice 24 4 4 [(.int .i64 0),(.int .i64 0),(.string ⟨#[]⟩),(.slice none 0 0)] [(0,(a.get 59)),(1,(a.get 60)),(2,(a.get 61)),(3,(a.get 62))] σ,some 63,fun _=>some true,some 0,false⟩,
 ⟨fun a σ=>.val (a.get 58) σ,some 13,fun _=>some true,some 0,false⟩,
 ⟨fun a σ=>.val (a.get 63) σ,some 14,fun _=>some true,some 0,false⟩]
def Av0:List DOp:=AlD ()
def AlE(_:Unit):List COp:=[⟨fun a σ=>.val (.int .i64 0) σ,some 15,fun _=>some true⟩]
def Av1:List COp:=AlE ()
def Aa5(_:Unit):List COp:=[⟨fun a σ=>.val (a.get 15) σ,some 64,fun _=>some true⟩,
 ⟨fun a σ=>.val (a.get 13) σ,some 65,fun _=>some true⟩,
 ⟨fun a σ=>flenL (a.get 65) σ,some 66,fun _=>some true⟩,
 ⟨fun a σ=>i_lss Tryz.prog 3 (.tmp 64) (.tmp 66) (a.get 64) (a.get 66) σ,some 67,fun _=>some true⟩]
def Awr:List COp:=Aa5 ()
def XT(_:Unit):List DOp:=[⟨fun a σ=>.val (a.get 13) σ,some 71,fun _=>some true,some 0,false⟩,
 ⟨fun a σ=>.val (a.get 15) σ,some 72,fun _=>some true,some 0,false⟩,
 ⟨fun a σ=>findex (none,4) (a.get 71) (a.get 72) σ,some 73,fun _=>some true,some 0,false⟩,
 ⟨fun a σ=>fload (some 4) (a.get 73) σ,some 74,fun _=>some true,some 0,false⟩,
 ⟨fun a σ=>.val (a.get 14) σ,some 75,fun _=>some true,some 0,false⟩,
 ⟨fun a σ=>.val (a.get 15) σ,some 76,fun _=>some true,some 0,false⟩,
 ⟨fun a σ=>findex (none,4) (a.get 75) (a.get 76) σ,some 77,fun _=>some true,some 0,false⟩,
 ⟨fun a σ=>fload (some 4) (a.get 77) σ,some 78,fun _=>some true,some 0,false⟩,
 ⟨fun a σ=>.enter 25 [(a.get 74),(a.get 78)] σ,some 79,fun _=>some true,none,true⟩,
 ⟨fun a σ=>.val (a.get 79) σ,some 70,fun _=>some true,some 1,false⟩,
 ⟨fun a σ=>fextract 0 (a.get 70) σ,some 80,fun _=>some true,some 1,false⟩,
 ⟨fun a σ=>fextract 1 (a.get 70) σ,some 81,fun _=>some true,some 1,false⟩,
 ⟨fun a σ=>.val (a.get 80) σ,some 16,fun _=>some true,some 1,false⟩,
 ⟨fun a σ=>.val (a.get 81) σ,some 17,fun _=>some true,some 1,false⟩]
def Ar5:List DOp:=XT ()
def XU(_:Unit):List DOp:=[⟨fun a σ=>.val (a.get 13) σ,some 83,fun _=>some true,some 0,false⟩,
 ⟨fun a σ=>.val (a.get 15) σ,some 84,fun _=>some true,some 0,false⟩,
 ⟨fun a σ=>findex (none,4) (a.get 83) (a.get 84) σ,some 85,fun _=>some true,some 0,false⟩,
 ⟨fun a σ=>fload (some 4) (a.get 85) σ,some 86,fun _=>some true,some 0,false⟩,
 ⟨fun a σ=>.val (a.get 14) σ,some 87,fun _=>some true,some 0,false⟩,
 ⟨fun a σ=>.val (a.get 15) σ,some 88,fun _=>some true,some 0,false⟩,
 ⟨fun a σ=>findex (none,4) (a.get 87) (a.get 88) σ,some 89,fun _=>some true,some 0,false⟩,
 ⟨fun a σ=>fload (some 4) (a.get 89) σ,some 90,fun _=>some true,some 0,false⟩,
 ⟨fun a σ=>.enter 26 [(a.get 86),(a.get 90)] σ,some 91,fun _=>some true,none,true⟩,
 ⟨fun a σ=>.val (a.get 91) σ,some 82,fun _=>some true,some 1,false⟩,
 ⟨fun a σ=>fextract 0 (a.get 82) σ,some 92,fun _=>some true,some 1,false⟩,
 ⟨fun a σ=>fextract 1 (a.get 82) σ,some 93,fun _=>some true,some 1,false⟩,
 ⟨fun a σ=>.val (a.get 92) σ,some 18,fun _=>some true,some 1,false⟩,
 ⟨fun a σ=>.val (a.get 93) σ,some 19,fun _=>some true,some 1,false⟩]
def Ar6:List DOp:=XU ()
def XV(_:Unit):List DOp:=[⟨fun a σ=>.val (a.get 13) σ,some 95,fun _=>some true,some 0,false⟩,
 ⟨fun a σ=>.val (a.get 15) σ,some 96,fun _=>some true,some 0,false⟩,
 ⟨fun a σ=>findex (none,4) (a.get 95) (a.get 96) σ,some 97,fun _=>some true,some 0,false⟩,
 ⟨fun a σ=>fload (some 4) (a.get 97) σ,some 98,fun _=>some true,some 0,false⟩,
 ⟨fun a σ=>.val (a.get 14) σ,some 99,fun _=>some true,some 0,false⟩,
 ⟨fun a σ=>.val (a.get 15) σ,some 100,fun _=>some true,some 0,false⟩,
 ⟨fun a σ=>findex (none,4) (a.get 99) (a.get 100) σ,some 101,fun _=>some true,some 0,false⟩,
 ⟨fun a σ=>fload (some 4) (a.get 101) σ,some 102,fun _=>some true,some 0,false⟩,
 ⟨fun a σ=>.enter 27 [(a.get 98),(a.get 102)] σ,some 103,fun _=>some true,none,true⟩,
 ⟨fun a σ=>.val (a.get 103) σ,some 94,fun _=>some true,some 1,false⟩,
 ⟨fun a σ=>fextract 0 (a.get 94) σ,some 104,fun _=>some true,some 1,false⟩,
 ⟨fun a σ=>fextract 1 (a.get 94) σ,some 105,fun _=>some true,some 1,false⟩,
 ⟨fun a σ=>.val (a.get 104) σ,some 20,fun _=>some true,some 1,false⟩,
 ⟨fun a σ=>.val (a.get 105) σ,some 21,fun _=>some true,some 1,false⟩]
def Ar7:List DOp:=XV ()
def XW(_:Unit):List DOp:=[⟨fun a σ=>.val (a.get 13) σ,some 107,fun _=>some true,some 0,false⟩,
 ⟨fun a σ=>.val (a.get 15) σ,some 108,fun _=>some true,some 0,false⟩,
 ⟨fun a σ=>findex (none,4) (a.get 107) (a.get 108) σ,some 109,fun _=>some true,some 0,false⟩,
 ⟨fun a σ=>fload (some 4) (a.get 109) σ,some 110,fun _=>some true,some 0,false⟩,
 ⟨fun a σ=>.val (a.get 14) σ,some 111,fun _=>some true,some 0,false⟩,
 ⟨fun a σ=>.val (a.get 15) σ,some 112,fun _=>some true,some 0,false⟩,
 ⟨fun a σ=>findex (none,4) (a.get 111) (a.get 112) σ,some 113,fun _=>some true,some 0,false⟩,
 ⟨fun a σ=>fload (some 4) (a.get 113) σ,some 114,fun _=>some true,some 0,false⟩,
 ⟨fun a σ=>.enter 28 [(a.get 110),(a.get 114)] σ,some 115,fun _=>some true,none,true⟩,
 ⟨fun a σ=>.val (a.get 115) σ,some 106,fun _=>some true,some 1,false⟩,
 ⟨fun a σ=>fextract 0 (a.get 106) σ,some 116,fun _=>some true,some 1,false⟩,
 ⟨fun a σ=>fextract 1 (a.get 106) σ,some 117,fun _=>some true,some 1,false⟩,
 ⟨fun a σ=>.val (a.get 116) σ,some 22,fun _=>some true,some 1,false⟩,
 ⟨fun a σ=>.val (a.get 117) σ,some 23,fun _=>some true,some 1,false⟩]
def Ar8:List DOp:=XW ()
def XX(_:Unit):List COp:=[⟨fun a σ=>.val (a.get 16) σ,some 118,fun _=>some true⟩,
 ⟨fun a σ=>.val (a.get 18) σ,some 119,fun _=>some true⟩,
 ⟨fun a σ=>i_neq Tryz.prog 3 (.tmp 118) (.tmp 119) (a.get 118) (a.get 119) σ,some 120,fun _=>some true⟩,
 ⟨fun a σ=>.val (a.get 120) σ,some 121,fun _=>some true⟩,
 ⟨fun a σ=>.val (a.get 17) σ,some 122,fun a=>gd (a.get 121) false⟩,
 ⟨fun a σ=>.val (a.get 19) σ,some 123,fun a=>gd (a.get 121) false⟩,
 ⟨fun a σ=>i_neq Tryz.prog 32 (.tmp 122) (.tmp 123) (a.get 122) (a.get 123) σ,some 124,fun a=>gd (a.get 121) false⟩,
 ⟨fun a σ=>fpick (a.get 121) (.bool true) (a.get 124) σ,some 125,fun _=>some true⟩,
 ⟨fun a σ=>.val (a.get 125) σ,some 126,fun _=>some true⟩,
 ⟨fun a σ=>.val (a.get 21) σ,some 127,fun a=>gd (a.get 126) false⟩,
 ⟨fun a σ=>.val (a.get 23) σ,some 128,fun a=>gd (a.get 126) false⟩,
 ⟨fun a σ=>i_neq Tryz.prog 32 (.tmp 127) (.tmp 128) (a.get 127) (a.get 128) σ,some 129,fun a=>gd (a.get 126) false⟩,
 ⟨fun a σ=>fpick (a.get 126) (.bool true) (a.get 129) σ,some 130,fun _=>some true⟩,
 ⟨fun a σ=>.val (a.get 130) σ,some 131,fun _=>some true⟩,
 ⟨fun a σ=>.val (a.get 20) σ,some 132,fun a=>gd (a.get 131) false⟩,
 ⟨fun a σ=>.val (a.get 22) σ,some 133,fun a=>gd (a.get 131) false⟩,
 ⟨fun a σ=>.enter 29 [(a.get 132),(a.get 133)] σ,some 134,fun a=>gd (a.get 131) false⟩,
 ⟨fun a σ=>fun1 Tryz.prog (Op.unary .not) (a.get 134) σ,some 135,fun a=>gd (a.get 131) false⟩,
 ⟨fun a σ=>fpick (a.get 131) (.bool true) (a.get 135) σ,some 136,fun _=>some true⟩]
def Ar9:List COp:=XX ()
def AvU(_:Unit):List COp:=[⟨fun a σ=>.val (.bool false) σ,some 6,fun _=>some true⟩]
def Awq:List COp:=AvU ()
def XS(_:Unit):List COp:=[⟨fun a σ=>.val (a.get 15) σ,some 68,fun _=>some true⟩,
 ⟨fun a σ=>i_add Tryz.prog 3 (.tmp 68) (.const (.int .i64 1)) (a.get 68) (.int .i64 1) σ,some 69,fun _=>some true⟩,
 ⟨fun a σ=>.val (a.get 69) σ,some 15,fun _=>some true⟩]
def Ar4:List COp:=XS ()
def Acj(E:Env)(ro:Option Nat)(fn:FuncId):RunF:=(seqR (seqR (fops E ro Awr) (condR (fun a=>(a.get 67)) skipR (exitR 0))) (seqR (blockR 1 (seqR (drawR E ro Ar5) (seqR (drawR E ro Ar6) (seqR (drawR E ro Ar7) (seqR (drawR E ro Ar8) (seqR (fops E ro Ar9) (condR (fun a=>(a.get 136)) (seqR (fops E ro Awq) retR) skipR))))))) (fops E ro Ar4)))
def XY(_:Unit):List COp:=[⟨fun a σ=>.enter 10 [] σ,some 137,fun _=>some true⟩,
 ⟨fun a σ=>.val (a.get 137) σ,some 6,fun _=>some true⟩]
def Alx:List COp:=XY ()
def Av4(E:Env)(ro:Option Nat)(fn:FuncId):RunF:=(seqR (fops E ro AvS) (seqR (seqR (fops E ro AvT) (condR (fun a=>(a.get 29)) (seqR (fops E ro AvV) retR) skipR)) (seqR (fops E ro AvW) (seqR (fops E ro AvX) (seqR (fops E ro AvY) (seqR (drawR E ro AvZ) (seqR (drawR E ro Av0) (seqR (seqR (fops E ro Av1) (blockR 0 (loopR (keepOf nls fn) (Acj E ro fn)))) (seqR (fops E ro Alx) retR)))))))))
theorem RY:fops E ro AvS a u σ=fops E ro (U3 ()) a u σ:=rfl
theorem RZ:fops E ro AvT a u σ=fops E ro (U4 ()) a u σ:=rfl
theorem Aa4:fops E ro AvV a u σ=fops E ro (Aa3 ()) a u σ:=rfl
theorem AqC:fops E ro AvW a u σ=fops E ro (Alz ()) a u σ:=rfl
theorem AqD:fops E ro AvX a u σ=fops E ro (AlA ()) a u σ:=rfl
theorem AqE:fops E ro AvY a u σ=fops E ro (AlB ()) a u σ:=rfl
theorem AqF:fdraw E ro last AvZ cl a u σ=fdraw E ro last (AlC ()) cl a u σ:=rfl
theorem AqG:fdraw E ro last Av0 cl a u σ=fdraw E ro last (AlD ()) cl a u σ:=rfl
theorem AqH:fops E ro Av1 a u σ=fops E ro (AlE ()) a u σ:=rfl
theorem Aa6:fops E ro Awr a u σ=fops E ro (Aa5 ()) a u σ:=rfl
theorem Als:fdraw E ro last Ar5 cl a u σ=fdraw E ro last (XT ()) cl a u σ:=rfl
theorem Alt:fdraw E ro last Ar6 cl a u σ=fdraw E ro last (XU ()) cl a u σ:=rfl
theorem Alu:fdraw E ro last Ar7 cl a u σ=fdraw E ro last (XV ()) cl a u σ:=rfl
theorem Alv:fdraw E ro last Ar8 cl a u σ=fdraw E ro last (XW ()) cl a u σ:=rfl
theorem Alw:fops E ro Ar9 a u σ=fops E ro (XX ()) a u σ:=rfl
theorem Alr:fops E ro Ar4 a u σ=fops E ro (XS ()) a u σ:=rfl
theorem Aly:fops E ro Alx a u σ=fops E ro (XY ()) a u σ:=rfl
theorem Awi(E:Env)(ro:Option Nat)(fn:FuncId):code Tryz.prog nls (Tryz.f4.body.getD .skip) E ro fn=Av4 E ro fn:=by kernel_rfl
theorem Au4(E:Env)(args:List Value)(u:Option FrameMode)(σ:FState)(hn:args.length≤(24:Nat)):fcall Tryz.prog nls E 4 args u σ=leaveR Tryz.prog E [.tmp 6] (Av4 E none 4 ⟨padTo undef 24 args,fun _=>undef,24,138,[]⟩ u σ):=by
 rw[Al (body:=Tryz.f4.body.getD .skip) Tryz.func4 rfl E args u σ 24 138 (by kernel_rfl) rfl ⟨hn,by decide⟩,Awi]
 rfl
def Jc(_:Unit):List COp:=[⟨fun a σ=>fbox 24 (a.get 0) σ,some 2,fun _=>some true⟩,
 ⟨fun a σ=>fbox 24 (a.get 1) σ,some 3,fun _=>some true⟩,
 ⟨fun a σ=>.val (.int .i64 0) σ,some 4,fun _=>some true⟩]
def AtH:List COp:=Jc ()
def Jd(_:Unit):List COp:=[⟨fun a σ=>ffield 0 (a.get 2) σ,some 7,fun _=>some true⟩,
 ⟨fun a σ=>fload none (a.get 7) σ,some 8,fun _=>some true⟩,
 ⟨fun a σ=>ffield 0 (a.get 3) σ,some 9,fun _=>some true⟩,
 ⟨fun a σ=>fload none (a.get 9) σ,some 10,fun _=>some true⟩,
 ⟨fun a σ=>i_neq Tryz.prog 3 (.tmp 8) (.tmp 10) (a.get 8) (a.get 10) σ,some 11,fun _=>some true⟩]
def AtI:List COp:=Jd ()
def YN(_:Unit):List COp:=[⟨fun a σ=>ffield 0 (a.get 2) σ,some 12,fun _=>some true⟩,
 ⟨fun a σ=>fload none (a.get 12) σ,some 13,fun _=>some true⟩,
 ⟨fun a σ=>ffield 0 (a.get 3) σ,some 14,fun _=>some true⟩,
 ⟨fun a σ=>fload none (a.get 14) σ,some 15,fun _=>some true⟩,
 ⟨fun a σ=>i_lss Tryz.prog 3 (.tmp 13) (.tmp 15) (a.get 13) (a.get 15) σ,some 16,fun _=>some true⟩,
 ⟨fun a σ=>.enter 132 [(a.get 16),(.bool false)] σ,some 17,fun _=>some true⟩,
 ⟨fun a σ=>.val (a.get 17) σ,some 4,fun _=>some true⟩]
def AtJ:List COp:=YN ()
def MK(_:Unit):List COp:=[⟨fun a σ=>ffield 1 (a.get 2) σ,some 18,fun _=>some true⟩,
 ⟨fun a σ=>fload none (a.get 18) σ,some 19,fun _=>some true⟩,
 ⟨fun a σ=>ffield 1 (a.get 3) σ,some 20,fun _=>some true⟩,
 ⟨fun a σ=>fload none (a.get 20) σ,some 21,fun _=>some true⟩,
 ⟨fun a σ=>i_neq Tryz.prog 3 (.tmp 19) (.tmp 21) (a.get 19) (a.get 21) σ,some 22,fun _=>some true⟩]
def AtK:List COp:=MK ()
def YO(_:Unit):List COp:=[⟨fun a σ=>ffield 1 (a.get 2) σ,some 23,fun _=>some true⟩,
 ⟨fun a σ=>fload none (a.get 23) σ,some 24,fun _=>some true⟩,
 ⟨fun a σ=>ffield 1 (a.get 3) σ,some 25,fun _=>some true⟩,
 ⟨fun a σ=>fload none (a.get 25) σ,some 26,fun _=>some true⟩,
 ⟨fun a σ=>i_lss Tryz.prog 3 (.tmp 24) (.tmp 26) (a.get 24) (a.get 26) σ,some 27,fun _=>some true⟩,
 ⟨fun a σ=>.enter 132 [(a.get 27),(.bool false)] σ,some 28,fun _=>some true⟩,
 ⟨fun a σ=>.val (a.get 28) σ,some 4,fun _=>some true⟩]
def AtL:List COp:=YO ()
def Sy(_:Unit):List COp:=[⟨fun a σ=>ffield 2 (a.get 2) σ,some 29,fun _=>some true⟩,
 ⟨fun a σ=>fload none (a.get 29) σ,some 30,fun _=>some true⟩,
 ⟨fun a σ=>ffield 2 (a.get 3) σ,some 31,fun _=>some true⟩,
 ⟨fun a σ=>fload none (a.get 31) σ,some 32,fun _=>some true⟩,
 ⟨fun a σ=>i_neq Tryz.prog 9 (.tmp 30) (.tmp 32) (a.get 30) (a.get 32) σ,some 33,fun _=>some true⟩]
def AtM:List COp:=Sy ()
def YP(_:Unit):List COp:=[⟨fun a σ=>ffield 2 (a.get 2) σ,some 34,fun _=>some true⟩,
 ⟨fun a σ=>fload none (a.get 34) σ,some 35,fun _=>some true⟩,
 ⟨fun a σ=>ffield 2 (a.get 3) σ,some 36,fun _=>some true⟩,
 ⟨fun a σ=>fload none (a.get 36) σ,some 37,fun _=>some true⟩,
 ⟨fun a σ=>i_lss Tryz.prog 9 (.tmp 35) (.tmp 37) (a.get 35) (a.get 37) σ,some 38,fun _=>some true⟩,
 ⟨fun a σ=>.enter 132 [(a.get 38),(.bool false)] σ,some 39,fun _=>some true⟩,
 ⟨fun a σ=>.val (a.get 39) σ,some 4,fun _=>some true⟩]
def AtN:List COp:=YP ()
def YQ(_:Unit):List COp:=[⟨fun a σ=>.val (.int .i64 0) σ,some 5,fun _=>some true⟩]
def AtO:List COp:=YQ ()
def Je(_:Unit):List COp:=[⟨fun a σ=>.val (a.get 5) σ,some 40,fun _=>some true⟩,
 ⟨fun a σ=>ffield 3 (a.get 2) σ,some 41,fun _=>some true⟩,
 ⟨fun a σ=>fload none (a.get 41) σ,some 42,fun _=>some true⟩,
 ⟨fun a σ=>flenL (a.get 42) σ,some 43,fun _=>some true⟩,
 ⟨fun a σ=>i_lss Tryz.prog 3 (.tmp 40) (.tmp 43) (a.get 40) (a.get 43) σ,some 44,fun _=>some true⟩,
 ⟨fun a σ=>.val (a.get 44) σ,some 45,fun _=>some true⟩,
 ⟨fun a σ=>.val (a.get 5) σ,some 46,fun a=>gd (a.get 45) true⟩,
 ⟨fun a σ=>ffield 3 (a.get 3) σ,some 47,fun a=>gd (a.get 45) true⟩,
 ⟨fun a σ=>fload none (a.get 47) σ,some 48,fun a=>gd (a.get 45) true⟩,
 ⟨fun a σ=>flenL (a.get 48) σ,some 49,fun a=>gd (a.get 45) true⟩,
 ⟨fun a σ=>i_lss Tryz.prog 3 (.tmp 46) (.tmp 49) (a.get 46) (a.get 49) σ,some 50,fun a=>gd (a.get 45) true⟩,
 ⟨fun a σ=>fpick (a.get 45) (a.get 50) (.bool false) σ,some 51,fun _=>some true⟩]
def AtP:List COp:=Je ()
def KE(_:Unit):List DOp:=[⟨fun a σ=>ffield 3 (a.get 2) σ,some 54,fun _=>some true,some 0,false⟩,
 ⟨fun a σ=>fload none (a.get 54) σ,some 55,fun _=>some true,some 0,false⟩,
 ⟨fun a σ=>.val (a.get 5) σ,some 56,fun _=>some true,some 0,false⟩,
 ⟨fun a σ=>findex (none,4) (a.get 55) (a.get 56) σ,some 57,fun _=>some true,some 0,false⟩,
 ⟨fun a σ=>fload (some 4) (a.get 57) σ,some 58,fun _=>some true,some 0,false⟩,
 ⟨fun a σ=>ffield 3 (a.get 3) σ,some 59,fun _=>some true,some 0,false⟩,
 ⟨fun a σ=>fload none (a.get 59) σ,some 60,fun _=>some true,some 0,false⟩,
 ⟨fun a σ=>.val (a.get 5) σ,some 61,fun _=>some true,some 0,false⟩,
 ⟨fun a σ=>findex (none,4) (a.get 60) (a.get 61) σ,some 62,fun _=>some true,some 0,false⟩,
 ⟨fun a σ=>fload (some 4) (a.get 62) σ,some 63,fun _=>some true,some 0,false⟩,
 ⟨fun a σ=>.enter 89 [(a.get 58),(a.get 63)] σ,some 64,fun _=>some true,none,true⟩,
 ⟨fun a σ=>.val (a.get 64) σ,some 6,fun _=>some true,some 1,false⟩]
def Amv:List DOp:=KE ()
def KF(_:Unit):List COp:=[⟨fun a σ=>.val (a.get 6) σ,some 65,fun _=>some true⟩,
 ⟨fun a σ=>i_neq Tryz.prog 3 (.tmp 65) (.const (.int .i64 0)) (a.get 65) (.int .i64 0) σ,some 66,fun _=>some true⟩]
def Amw:List COp:=KF ()
def Sv(_:Unit):List COp:=[⟨fun a σ=>.val (a.get 6) σ,some 67,fun _=>some true⟩,
 ⟨fun a σ=>.val (a.get 67) σ,some 4,fun _=>some true⟩]
def Amx:List COp:=Sv ()
def YR(_:Unit):List COp:=[⟨fun a σ=>.val (a.get 5) σ,some 52,fun _=>some true⟩,
 ⟨fun a σ=>i_add Tryz.prog 3 (.tmp 52) (.const (.int .i64 1)) (a.get 52) (.int .i64 1) σ,some 53,fun _=>some true⟩,
 ⟨fun a σ=>.val (a.get 53) σ,some 5,fun _=>some true⟩]
def AtQ:List COp:=YR ()
def Lh(E:Env)(ro:Option Nat)(fn:FuncId):RunF:=(seqR (seqR (fops E ro AtP) (condR (fun a=>(a.get 51)) skipR (exitR 0))) (seqR (blockR 1 (seqR (drawR E ro Amv) (seqR (fops E ro Amw) (condR (fun a=>(a.get 66)) (seqR (fops E ro Amx) retR) skipR)))) (fops E ro AtQ)))
def Sx(_:Unit):List COp:=[⟨fun a σ=>ffield 3 (a.get 2) σ,some 68,fun _=>some true⟩,
 ⟨fun a σ=>fload none (a.get 68) σ,some 69,fun _=>some true⟩,
 ⟨fun a σ=>flenL (a.get 69) σ,some 70,fun _=>some true⟩,
 ⟨fun a σ=>ffield 3 (a.get 3) σ,some 71,fun _=>some true⟩,
 ⟨fun a σ=>fload none (a.get 71) σ,some 72,fun _=>some true⟩,
 ⟨fun a σ=>flenL (a.get 72) σ,some 73,fun _=>some true⟩,
 ⟨fun a σ=>i_lss Tryz.prog 3 (.tmp 70) (.tmp 73) (a.get 70) (a.get 73) σ,some 74,fun _=>some true⟩,
 ⟨fun a σ=>ffield 3 (a.get 2) σ,some 75,fun _=>some true⟩,
 ⟨fun a σ=>fload none (a.get 75) σ,some 76,fun _=>some true⟩,
 ⟨fun a σ=>flenL (a.get 76) σ,some 77,fun _=>some true⟩,
 ⟨fun a σ=>ffield 3 (a.get 3) σ,some 78,fun _=>some true⟩,
 ⟨fun a σ=>fload none (a.get 78) σ,some 79,fun _=>some true⟩,
 ⟨fun a σ=>flenL (a.get 79) σ,some 80,fun _=>some true⟩,
 ⟨fun a σ=>i_eql Tryz.prog 3 (.tmp 77) (.tmp 80) (a.get 77) (a.get 80) σ,some 81,fun _=>some true⟩,
 ⟨fun a σ=>.enter 132 [(a.get 74),(a.get 81)] σ,some 82,fun _=>some true⟩,
 ⟨fun a σ=>.val (a.get 82) σ,some 4,fun _=>some true⟩]
def Amy:List COp:=Sx ()
def Anm(E:Env)(ro:Option Nat)(fn:FuncId):RunF:=(seqR (fops E ro AtH) (seqR (seqR (fops E ro AtI) (condR (fun a=>(a.get 11)) (seqR (fops E ro AtJ) retR) skipR)) (seqR (seqR (fops E ro AtK) (condR (fun a=>(a.get 22)) (seqR (fops E ro AtL) retR) skipR)) (seqR (seqR (fops E ro AtM) (condR (fun a=>(a.get 33)) (seqR (fops E ro AtN) retR) skipR)) (seqR (seqR (fops E ro AtO) (blockR 0 (loopR (keepOf nls fn) (Lh E ro fn)))) (seqR (fops E ro Amy) retR))))))
theorem Ie:fops E ro AtH a u σ=fops E ro (Jc ()) a u σ:=rfl
theorem Ig:fops E ro AtI a u σ=fops E ro (Jd ()) a u σ:=rfl
theorem Amz:fops E ro AtJ a u σ=fops E ro (YN ()) a u σ:=rfl
theorem ML:fops E ro AtK a u σ=fops E ro (MK ()) a u σ:=rfl
theorem AmA:fops E ro AtL a u σ=fops E ro (YO ()) a u σ:=rfl
theorem Vx:fops E ro AtM a u σ=fops E ro (Sy ()) a u σ:=rfl
theorem AmB:fops E ro AtN a u σ=fops E ro (YP ()) a u σ:=rfl
theorem AmC:fops E ro AtO a u σ=fops E ro (YQ ()) a u σ:=rfl
theorem Ih:fops E ro AtP a u σ=fops E ro (Je ()) a u σ:=rfl
theorem OX:fdraw E ro last Amv cl a u σ=fdraw E ro last (KE ()) cl a u σ:=rfl
theorem OY:fops E ro Amw a u σ=fops E ro (KF ()) a u σ:=rfl
theorem Ael:fops E ro Amx a u σ=fops E ro (Sv ()) a u σ:=rfl
theorem AmD:fops E ro AtQ a u σ=fops E ro (YR ()) a u σ:=rfl
theorem Aem:fops E ro Amy a u σ=fops E ro (Sx ()) a u σ:=rfl
theorem AuZ(E:Env)(ro:Option Nat)(fn:FuncId):code Tryz.prog nls (Tryz.f89.body.getD .skip) E ro fn=Anm E ro fn:=by kernel_rfl
theorem Ao4(E:Env)(args:List Value)(u:Option FrameMode)(σ:FState)(hn:args.length≤(7:Nat)):fcall Tryz.prog nls E 89 args u σ=leaveR Tryz.prog E [.tmp 4] (Anm E none 89 ⟨padTo undef 7 args,fun _=>undef,7,83,[]⟩ u σ):=by
 rw[Al (body:=Tryz.f89.body.getD .skip) Tryz.func89 rfl E args u σ 7 83 (by kernel_rfl) rfl ⟨hn,by decide⟩,AuZ]
 rfl
def SI(_:Unit):List COp:=[⟨fun a σ=>fbox 24 (a.get 0) σ,some 2,fun _=>some true⟩,
 ⟨fun a σ=>fbox 24 (a.get 1) σ,some 3,fun _=>some true⟩,
 ⟨fun a σ=>.val (.slice none 0 0) σ,some 4,fun _=>some true⟩,
 ⟨fun a σ=>.val (.bool false) σ,some 5,fun _=>some true⟩]
def At8:List COp:=SI ()
def SJ(_:Unit):List COp:=[⟨fun a σ=>fload (some 4) (a.get 2) σ,some 9,fun _=>some true⟩,
 ⟨fun a σ=>fload (some 4) (a.get 3) σ,some 10,fun _=>some true⟩,
 ⟨fun a σ=>.enter 137 [(a.get 9),(a.get 10)] σ,some 11,fun _=>some true⟩,
 ⟨fun a σ=>fun1 Tryz.prog (Op.unary .not) (a.get 11) σ,some 12,fun _=>some true⟩]
def At9:List COp:=SJ ()
def Y7(_:Unit):List COp:=[⟨fun a σ=>.val (.slice none 0 0) σ,some 4,fun _=>some true⟩,
 ⟨fun a σ=>.val (.bool true) σ,some 5,fun _=>some true⟩]
def Aua:List COp:=Y7 ()
def Y8(_:Unit):List COp:=[⟨fun a σ=>.val (.int .i64 0) σ,some 6,fun _=>some true⟩]
def Aub:List COp:=Y8 ()
def MO(_:Unit):List COp:=[⟨fun a σ=>.val (a.get 6) σ,some 13,fun _=>some true⟩,
 ⟨fun a σ=>ffield 3 (a.get 2) σ,some 14,fun _=>some true⟩,
 ⟨fun a σ=>fload none (a.get 14) σ,some 15,fun _=>some true⟩,
 ⟨fun a σ=>flenL (a.get 15) σ,some 16,fun _=>some true⟩,
 ⟨fun a σ=>i_lss Tryz.prog 3 (.tmp 13) (.tmp 16) (a.get 13) (a.get 16) σ,some 17,fun _=>some true⟩]
def Auc:List COp:=MO ()
def SK(_:Unit):List DOp:=[⟨fun a σ=>ffield 3 (a.get 2) σ,some 21,fun _=>some true,some 0,false⟩,
 ⟨fun a σ=>fload none (a.get 21) σ,some 22,fun _=>some true,some 0,false⟩,
 ⟨fun a σ=>.val (a.get 6) σ,some 23,fun _=>some true,some 0,false⟩,
 ⟨fun a σ=>findex (none,4) (a.get 22) (a.get 23) σ,some 24,fun _=>some true,some 0,false⟩,
 ⟨fun a σ=>fload (some 4) (a.get 24) σ,some 25,fun _=>some true,some 0,false⟩,
 ⟨fun a σ=>ffield 3 (a.get 3) σ,some 26,fun _=>some true,some 0,false⟩,
 ⟨fun a σ=>fload none (a.get 26) σ,some 27,fun _=>some true,some 0,false⟩,
 ⟨fun a σ=>.val (a.get 6) σ,some 28,fun _=>some true,some 0,false⟩,
 ⟨fun a σ=>findex (none,4) (a.get 27) (a.get 28) σ,some 29,fun _=>some true,some 0,false⟩,
 ⟨fun a σ=>fload (some 4) (a.get 29) σ,some 30,fun _=>some true,some 0,false⟩,
 ⟨fun a σ=>.enter 93 [(a.get 25),(a.get 30)] σ,some 31,fun _=>some true,none,true⟩,
 ⟨fun a σ=>.val (a.get 31) σ,some 20,fun _=>some true,some 1,false⟩,
 ⟨fun a σ=>fextract 0 (a.get 20) σ,some 32,fun _=>some true,some 1,false⟩,
 ⟨fun a σ=>fextract 1 (a.get 20) σ,some 33,fun _=>some true,some 1,false⟩,
 ⟨fun a σ=>.val (a.get 32) σ,some 7,fun _=>some true,some 1,false⟩,
 ⟨fun a σ=>.val (a.get 33) σ,some 8,fun _=>some true,some 1,false⟩]
def Aue:List DOp:=SK ()
def SL(_:Unit):List COp:=[⟨fun a σ=>.val (a.get 8) σ,some 34,fun _=>some true⟩]
def Auf:List COp:=SL ()
def Y_(_:Unit):List COp:=[⟨fun a σ=>.val (a.get 6) σ,some 35,fun _=>some true⟩,
 ⟨fun a σ=>fbuildSlice 3 1 1 [(.int .i64 0)] [(0,(a.get 35))] σ,some 36,fun _=>some true⟩,
 ⟨fun a σ=>.val (a.get 7) σ,some 37,fun _=>some true⟩,
 ⟨fun a σ=>fappend 3 1 8 (a.get 36) (a.get 37) σ,some 38,fun _=>some true⟩,
 ⟨fun a σ=>.val (a.get 38) σ,some 4,fun _=>some true⟩,
 ⟨fun a σ=>.val (.bool true) σ,some 5,fun _=>some true⟩]
def Aug:List COp:=Y_ ()
def Y9(_:Unit):List COp:=[⟨fun a σ=>.val (a.get 6) σ,some 18,fun _=>some true⟩,
 ⟨fun a σ=>i_add Tryz.prog 3 (.tmp 18) (.const (.int .i64 1)) (a.get 18) (.int .i64 1) σ,some 19,fun _=>some true⟩,
 ⟨fun a σ=>.val (a.get 19) σ,some 6,fun _=>some true⟩]
def Aud:List COp:=Y9 ()
def N5(E:Env)(ro:Option Nat)(fn:FuncId):RunF:=(seqR (seqR (fops E ro Auc) (condR (fun a=>(a.get 17)) skipR (exitR 0))) (seqR (blockR 1 (seqR (drawR E ro Aue) (seqR (fops E ro Auf) (condR (fun a=>(a.get 34)) (seqR (fops E ro Aug) retR) skipR)))) (fops E ro Aud)))
def Za(_:Unit):List COp:=[⟨fun a σ=>.val (.slice none 0 0) σ,some 4,fun _=>some true⟩,
 ⟨fun a σ=>.val (.bool false) σ,some 5,fun _=>some true⟩]
def Auh:List COp:=Za ()
def Ano(E:Env)(ro:Option Nat)(fn:FuncId):RunF:=(seqR (fops E ro At8) (seqR (seqR (fops E ro At9) (condR (fun a=>(a.get 12)) (seqR (fops E ro Aua) retR) skipR)) (seqR (seqR (fops E ro Aub) (blockR 0 (loopR (keepOf nls fn) (N5 E ro fn)))) (seqR (fops E ro Auh) retR))))
theorem VC:fops E ro At8 a u σ=fops E ro (SI ()) a u σ:=rfl
theorem VD:fops E ro At9 a u σ=fops E ro (SJ ()) a u σ:=rfl
theorem AmQ:fops E ro Aua a u σ=fops E ro (Y7 ()) a u σ:=rfl
theorem AmR:fops E ro Aub a u σ=fops E ro (Y8 ()) a u σ:=rfl
theorem MP:fops E ro Auc a u σ=fops E ro (MO ()) a u σ:=rfl
theorem VE:fdraw E ro last Aue cl a u σ=fdraw E ro last (SK ()) cl a u σ:=rfl
theorem VF:fops E ro Auf a u σ=fops E ro (SL ()) a u σ:=rfl
theorem AmT:fops E ro Aug a u σ=fops E ro (Y_ ()) a u σ:=rfl
theorem AmS:fops E ro Aud a u σ=fops E ro (Y9 ()) a u σ:=rfl
theorem AmU:fops E ro Auh a u σ=fops E ro (Za ()) a u σ:=rfl
theorem Au3(E:Env)(ro:Option Nat)(fn:FuncId):code Tryz.prog nls (Tryz.f93.body.getD .skip) E ro fn=Ano E ro fn:=by kernel_rfl
theorem Ao6(E:Env)(args:List Value)(u:Option FrameMode)(σ:FState)(hn:args.length≤(9:Nat)):fcall Tryz.prog nls E 93 args u σ=leaveR Tryz.prog E [.tmp 4,.tmp 5] (Ano E none 93 ⟨padTo undef 9 args,fun _=>undef,9,39,[]⟩ u σ):=by
 rw[Al (body:=Tryz.f93.body.getD .skip) Tryz.func93 rfl E args u σ 9 39 (by kernel_rfl) rfl ⟨hn,by decide⟩,Au3]
 rfl
def L1(_:Unit):List COp:=[⟨fun a σ=>fbox 24 (a.get 0) σ,some 2,fun _=>some true⟩,
 ⟨fun a σ=>fbox 24 (a.get 1) σ,some 3,fun _=>some true⟩,
 ⟨fun a σ=>.val (.slice none 0 0) σ,some 4,fun _=>some true⟩,
 ⟨fun a σ=>.val (.int .i64 0) σ,some 5,fun _=>some true⟩]
def ArG:List COp:=L1 ()
def L3(_:Unit):List COp:=[⟨fun a σ=>fload (some 4) (a.get 2) σ,some 9,fun _=>some true⟩,
 ⟨fun a σ=>fload (some 4) (a.get 3) σ,some 10,fun _=>some true⟩,
 ⟨fun a σ=>.enter 83 [(a.get 9),(a.get 10)] σ,some 11,fun _=>some true⟩,
 ⟨fun a σ=>.val (a.get 11) σ,some 6,fun _=>some true⟩]
def ArH:List COp:=L3 ()
def L6(_:Unit):List COp:=[⟨fun a σ=>.val (a.get 6) σ,some 12,fun _=>some true⟩,
 ⟨fun a σ=>i_neq Tryz.prog 32 (.tmp 12) (.const (.int .i64 0)) (a.get 12) (.int .i64 0) σ,some 13,fun _=>some true⟩]
def ArI:List COp:=L6 ()
def XE(_:Unit):List COp:=[⟨fun a σ=>.val (a.get 6) σ,some 14,fun _=>some true⟩,
 ⟨fun a σ=>.val (.slice none 0 0) σ,some 4,fun _=>some true⟩,
 ⟨fun a σ=>.val (a.get 14) σ,some 5,fun _=>some true⟩]
def ArJ:List COp:=XE ()
def RS(_:Unit):List COp:=[⟨fun a σ=>fload (some 4) (a.get 2) σ,some 16,fun _=>some true⟩,
 ⟨fun a σ=>fload (some 4) (a.get 3) σ,some 17,fun _=>some true⟩,
 ⟨fun a σ=>.enter 93 [(a.get 16),(a.get 17)] σ,some 18,fun _=>some true⟩,
 ⟨fun a σ=>.val (a.get 18) σ,some 15,fun _=>some true⟩,
 ⟨fun a σ=>fextract 0 (a.get 15) σ,some 19,fun _=>some true⟩,
 ⟨fun a σ=>fextract 1 (a.get 15) σ,some 20,fun _=>some true⟩,
 ⟨fun a σ=>.val (a.get 19) σ,some 7,fun _=>some true⟩,
 ⟨fun a σ=>.val (a.get 20) σ,some 8,fun _=>some true⟩]
def ArK:List COp:=RS ()
def RT(_:Unit):List COp:=[⟨fun a σ=>.val (a.get 8) σ,some 21,fun _=>some true⟩,
 ⟨fun a σ=>fun1 Tryz.prog (Op.unary .not) (a.get 21) σ,some 22,fun _=>some true⟩]
def ArL:List COp:=RT ()
def XF(_:Unit):List COp:=[⟨fun a σ=>.val (.slice none 0 0) σ,some 4,fun _=>some true⟩,
 ⟨fun a σ=>.val (.int .i64 10) σ,some 5,fun _=>some true⟩]
def ArM:List COp:=XF ()
def XG(_:Unit):List COp:=[⟨fun a σ=>.val (a.get 7) σ,some 23,fun _=>some true⟩,
 ⟨fun a σ=>.val (a.get 23) σ,some 4,fun _=>some true⟩,
 ⟨fun a σ=>.val (.int .i64 0) σ,some 5,fun _=>some true⟩]
def ArN:List COp:=XG ()
def Am7(E:Env)(ro:Option Nat)(fn:FuncId):RunF:=(seqR (fops E ro ArG) (seqR (seqR (fops E ro ArH) (seqR (fops E ro ArI) (condR (fun a=>(a.get 13)) (seqR (fops E ro ArJ) retR) skipR))) (seqR (fops E ro ArK) (seqR (seqR (fops E ro ArL) (condR (fun a=>(a.get 22)) (seqR (fops E ro ArM) retR) skipR)) (seqR (fops E ro ArN) retR)))))
theorem L2:fops E ro ArG a u σ=fops E ro (L1 ()) a u σ:=rfl
theorem L4:fops E ro ArH a u σ=fops E ro (L3 ()) a u σ:=rfl
theorem L7:fops E ro ArI a u σ=fops E ro (L6 ()) a u σ:=rfl
theorem Ald:fops E ro ArJ a u σ=fops E ro (XE ()) a u σ:=rfl
theorem UX:fops E ro ArK a u σ=fops E ro (RS ()) a u σ:=rfl
theorem UY:fops E ro ArL a u σ=fops E ro (RT ()) a u σ:=rfl
theorem Ale:fops E ro ArM a u σ=fops E ro (XF ()) a u σ:=rfl
theorem Alf:fops E ro ArN a u σ=fops E ro (XG ()) a u σ:=rfl
theorem AuB(E:Env)(ro:Option Nat)(fn:FuncId):code Tryz.prog nls (Tryz.f28.body.getD .skip) E ro fn=Am7 E ro fn:=by kernel_rfl
theorem AoP(E:Env)(args:List Value)(u:Option FrameMode)(σ:FState)(hn:args.length≤(9:Nat)):fcall Tryz.prog nls E 28 args u σ=leaveR Tryz.prog E [.tmp 4,.tmp 5] (Am7 E none 28 ⟨padTo undef 9 args,fun _=>undef,9,24,[]⟩ u σ):=by
 rw[Al (body:=Tryz.f28.body.getD .skip) Tryz.func28 rfl E args u σ 9 24 (by kernel_rfl) rfl ⟨hn,by decide⟩,AuB]
 rfl
def RP(_:Unit):List COp:=[⟨fun a σ=>fbox 24 (a.get 0) σ,some 2,fun _=>some true⟩,
 ⟨fun a σ=>fbox 24 (a.get 1) σ,some 3,fun _=>some true⟩,
 ⟨fun a σ=>.val (.int .i64 0) σ,some 4,fun _=>some true⟩,
 ⟨fun a σ=>.val (.int .i64 0) σ,some 5,fun _=>some true⟩]
def Arz:List COp:=RP ()
def RQ(_:Unit):List COp:=[⟨fun a σ=>fload (some 4) (a.get 2) σ,some 7,fun _=>some true⟩,
 ⟨fun a σ=>fload (some 4) (a.get 3) σ,some 8,fun _=>some true⟩,
 ⟨fun a σ=>.enter 83 [(a.get 7),(a.get 8)] σ,some 9,fun _=>some true⟩,
 ⟨fun a σ=>.val (a.get 9) σ,some 6,fun _=>some true⟩]
def ArA:List COp:=RQ ()
def RR(_:Unit):List COp:=[⟨fun a σ=>.val (a.get 6) σ,some 10,fun _=>some true⟩,
 ⟨fun a σ=>i_neq Tryz.prog 32 (.tmp 10) (.const (.int .i64 0)) (a.get 10) (.int .i64 0) σ,some 11,fun _=>some true⟩]
def ArB:List COp:=RR ()
def XC(_:Unit):List COp:=[⟨fun a σ=>.val (a.get 6) σ,some 12,fun _=>some true⟩,
 ⟨fun a σ=>.val (.int .i64 0) σ,some 4,fun _=>some true⟩,
 ⟨fun a σ=>.val (a.get 12) σ,some 5,fun _=>some true⟩]
def ArC:List COp:=XC ()
def XD(_:Unit):List COp:=[⟨fun a σ=>fload (some 4) (a.get 2) σ,some 13,fun _=>some true⟩,
 ⟨fun a σ=>fload (some 4) (a.get 3) σ,some 14,fun _=>some true⟩,
 ⟨fun a σ=>.enter 89 [(a.get 13),(a.get 14)] σ,some 15,fun _=>some true⟩,
 ⟨fun a σ=>.val (a.get 15) σ,some 4,fun _=>some true⟩,
 ⟨fun a σ=>.val (.int .i64 0) σ,some 5,fun _=>some true⟩]
def ArD:List COp:=XD ()
def Am6(E:Env)(ro:Option Nat)(fn:FuncId):RunF:=(seqR (fops E ro Arz) (seqR (seqR (fops E ro ArA) (seqR (fops E ro ArB) (condR (fun a=>(a.get 11)) (seqR (fops E ro ArC) retR) skipR))) (seqR (fops E ro ArD) retR)))
theorem UU:fops E ro Arz a u σ=fops E ro (RP ()) a u σ:=rfl
theorem UV:fops E ro ArA a u σ=fops E ro (RQ ()) a u σ:=rfl
theorem UW:fops E ro ArB a u σ=fops E ro (RR ()) a u σ:=rfl
theorem Alb:fops E ro ArC a u σ=fops E ro (XC ()) a u σ:=rfl
theorem Alc:fops E ro ArD a u σ=fops E ro (XD ()) a u σ:=rfl
theorem Auz(E:Env)(ro:Option Nat)(fn:FuncId):code Tryz.prog nls (Tryz.f26.body.getD .skip) E ro fn=Am6 E ro fn:=by kernel_rfl
theorem AoO(E:Env)(args:List Value)(u:Option FrameMode)(σ:FState)(hn:args.length≤(7:Nat)):fcall Tryz.prog nls E 26 args u σ=leaveR Tryz.prog E [.tmp 4,.tmp 5] (Am6 E none 26 ⟨padTo undef 7 args,fun _=>undef,7,16,[]⟩ u σ):=by
 rw[Al (body:=Tryz.f26.body.getD .skip) Tryz.func26 rfl E args u σ 7 16 (by kernel_rfl) rfl ⟨hn,by decide⟩,Auz]
 rfl
end
section
open Go Go.Eng
attribute [local congr] Ac Aj Ai Ad Ah
attribute [-go_sem] List.range_succ
theorem GL:∀x y:List UInt8,Op.bytesLess x y=true↔∃i,(∀j,j<i→x[j]! = y[j]!)∧i≤x.length∧i<y.length∧(i=x.length∨x[i]! < y[i]!)
 | x,[]=>by cases x<;>simp[Op.bytesLess]
 | [],b::y=>by
  simp only[Op.bytesLess,true_iff]
  exact⟨0,fun j h=>by omega,Nat.le_refl _,by simp,.inl rfl⟩
 | a::x,b::y=>by
  rw[Op.bytesLess,Bool.or_eq_true,Bool.and_eq_true,beq_iff_eq,decide_eq_true_eq,GL x y]
  constructor
  ·rintro(h|⟨rfl,i,h1,h2,h3,h4⟩)
   ·exact⟨0,fun j h=>by omega,by simp,by simp,.inr h⟩
   ·refine⟨i+1,fun j hj=>?_,by simp;omega,by simp;omega,?_⟩
    ·cases j with
     | zero=>rfl
     | succ j=>simpa using h1 j (by omega)
    ·rcases h4 with h4|h4
     ·exact .inl (by simp[h4])
     ·exact .inr (by simpa using h4)
  ·rintro⟨i,h1,h2,h3,h4⟩
   cases i with
   | zero=>
    rcases h4 with h4|h4
    ·simp at h4
    ·exact .inl (by simpa using h4)
   | succ i=>
    refine .inr ⟨by simpa using h1 0 (by omega),i,fun j hj=>by simpa using h1 (j+1) (by omega),by simpa using h2,by simpa using h3,?_⟩
    rcases h4 with h4|h4
    ·exact .inl (by simpa using h4)
    ·exact .inr (by simpa using h4)
theorem VT(a:ByteArray):a.toList.length=a.size:=by
 rw[ByteArray.toList_eq]
 rfl
theorem ZS(a:ByteArray)(i:Nat):a.toList[i]! = a[i]!:=by
 rw[ByteArray.toList_eq]
 by_cases h:i<a.size
 ·rw[getElem!_pos a i h,getElem!_pos a.data.toList i (by simpa using h)]
  simp
  rfl
 ·rw[getElem!_neg a i h,getElem!_neg a.data.toList i (by simpa using h)]
theorem Agf(a b:ByteArray):Op.bytesLess a.toList b.toList=decide (cmpT a b<0):=by
 rw[Bool.eq_iff_iff,decide_eq_true_eq,Tq,GL]
 unfold LtT
 simp only[VT,ZS]
theorem Apr(P:Program)(t:TypeId)(x y:Operand)(s r:ByteArray)(σ:FState):i_lss P t x y (.string s) (.string r) σ=.val (.bool (decide (cmpT s r<0))) σ:=by
 rw[←Agf]
 show fbin0 P .lss t x y (.string s) (.string r) σ=_
 unfold fbin0 orPure
 simp[eqGuard,binOp,flat,Op.stringOp]
 rfl
def signV(lt eq:Bool):Int:=if eq then 0 else if lt then -1 else 1
theorem AqQ(n:Nat)(lt eq:Bool)(σ:FState):(env (n+1)).call 132 [.bool lt,.bool eq] none σ=.ret (.int .i64 (signV lt eq)) none σ:=by
 cases lt<;>cases eq<;>kernel_rfl
end
section
open Go Go.Eng
attribute [local congr] Ac Aj Ai Ad Ah
attribute [-go_sem] List.range_succ
theorem Lg:keepOf nls 89=[68,69,70,71,72,73,74,75,76,77,78,79,80,81,82]:=by kernel_rfl
theorem AqJ(m:Nat)(R:Nat→Prop)(ds es:List D)(p p':Option Addr)(c c' b2 b3:Nat)(k z k' z':Int)(t t':ByteArray)(hds:ds.length<1000000)(hes:es.length<1000000)(hO:∀(i:Nat) (d e:D),ds[i]? = some d→es[i]? = some e→∀v w σ',Wf σ'→LaidR R σ' v d→LaidR R σ' w e→Gives ((env m).call 89 [v,w] none σ') σ' fun r _=>r=.int .i64 (ordU d e)):
  ∀(j fuel i:Nat) (f g:Nat→Value) (σ:FState),ds.length-i=j→j<fuel→i≤ds.length→i≤es.length→ds.take i=es.take i→Wf σ→LaidRE R σ p 0 ds→LaidRE R σ p' 0 es→
   σ.cells b2=some [.int .i64 k,.int .i64 z,.string t,.slice p ds.length c]→σ.cells b3=some [.int .i64 k',.int .i64 z',.string t',.slice p' es.length c']→f 2=.pointer (some ⟨b2,0,none⟩)→f 3=.pointer (some ⟨b3,0,none⟩)→f 5=.int .i64 (.ofNat i)→
   ∃e f' g' σ',floop (keepOf nls 89) (Lh (env m) none 89) fuel (Sl 7 83 f g []) none σ=.done e (Sl 7 83 f' g' []) none σ'∧Ext σ σ'∧Wf σ'∧
    ((e=.exit 0∧f' 2=.pointer (some ⟨b2,0,none⟩)∧f' 3=.pointer (some ⟨b3,0,none⟩)∧ordUs ds es=signV (decide (Int.ofNat ds.length<Int.ofNat es.length)) (Int.ofNat ds.length==Int.ofNat es.length))∨(e=.ret∧f' 4=.int .i64 (ordUs ds es))):=by
 intro j
 induction j with
 | zero=>
  intro fuel i f g σ hj hf hi hi' htk hw hE hE' hc hc' f2 f3 f5
  obtain⟨fuel,rfl⟩:∃q,fuel=q+1:=⟨fuel-1,by omega⟩
  obtain rfl:i=ds.length:=by omega
  have d0:decide (Int.ofNat ds.length<Int.ofNat ds.length)=false:=by simp
  rw[Am,Lg]
  unfold Lh
  simp -implicitDefEqProofs only[go_sem,Ih,Je,f2,f3,f5,hc,hc',d0,Bool.false_eq_true]
  refine⟨_,_,_,_,rfl,Ext.refl _,hw,.inl ⟨rfl,?_,?_,?_⟩⟩
  ·exact f2
  ·exact f3
  ·rw[List.take_length] at htk
   by_cases hl:ds.length<es.length
   ·rw[JE htk hl]
    have a1:decide (Int.ofNat ds.length<Int.ofNat es.length)=true:=by simp;omega
    have a2:(Int.ofNat ds.length==Int.ofNat es.length)=false:=by simp;omega
    rw[a1,a2]
    rfl
   ·have hl':ds.length=es.length:=by omega
    have:ds=es:=by rw[hl',List.take_length] at htk;exact htk
    subst this
    rw[(Dh ds ds).2 rfl]
    simp[signV]
 | succ j ih=>
  intro fuel i f g σ hj hf hi hi' htk hw hE hE' hc hc' f2 f3 f5
  obtain⟨fuel,rfl⟩:∃q,fuel=q+1:=⟨fuel-1,by omega⟩
  have hlt:i<ds.length:=by omega
  have d0:decide (Int.ofNat i<Int.ofNat ds.length)=true:=by simp;omega
  have hd:ds[i]? = some ds[i]:=List.getElem?_eq_getElem hlt
  by_cases hie:i=es.length
  ·subst hie
   have d1:decide (Int.ofNat es.length<Int.ofNat es.length)=false:=by simp
   rw[Am,Lg]
   unfold Lh
   simp -implicitDefEqProofs only[go_sem,Ih,Je,f2,f3,f5,hc,hc',d0,d1,Bool.false_eq_true]
   refine⟨_,_,_,_,rfl,Ext.refl _,hw,.inl ⟨rfl,?_,?_,?_⟩⟩
   ·exact f2
   ·exact f3
   ·rw[Lo htk hlt]
    have a1:decide (Int.ofNat ds.length<Int.ofNat es.length)=false:=by simp;omega
    have a2:(Int.ofNat ds.length==Int.ofNat es.length)=false:=by simp;omega
    rw[a1,a2]
    rfl
  ·have hlt':i<es.length:=by omega
   have d1:decide (Int.ofNat i<Int.ofNat es.length)=true:=by simp;omega
   have hd':es[i]? = some es[i]:=List.getElem?_eq_getElem hlt'
   obtain⟨b,off,cs,rfl,hRb,hcs,hle,hL⟩:=LaidRE.get hE hd
   obtain⟨b',off',cs',rfl,hRb',hcs',hle',hL'⟩:=LaidRE.get hE' hd'
   rw[Nat.zero_add] at hle hL hle' hL'
   obtain⟨_,σ3,e3,x3,hw3,rfl⟩:=hO i ds[i] es[i] hd hd' _ _ σ hw hL hL'
   have a1:=D4 i (by omega)
   have hv:=BQ hw (Nat.le_refl _)
   obtain⟨r,hr⟩:∃r,ordU ds[i] es[i]=r:=⟨_,rfl⟩
   rw[hr] at e3
   by_cases hz:r=0
   ·subst hz
    have heq:=(DN _ _).1 hr
    have z0:((0:Int)==0)=true:=rfl
    have ih':=fun f g h2 h3 h5=>ih fuel (i+1) f g σ3 (by omega) (by omega) (by omega) (by omega) (by rw[List.take_add_one,List.take_add_one,htk,hd,hd',heq]) hw3 (hE.keep fun b cs hb hc=>⟨(x3.cells (hw.cells hc)).trans hc,hb⟩) (hE'.keep fun b cs hb hc=>⟨(x3.cells (hw.cells hc)).trans hc,hb⟩) ((x3.cells (hw.cells hc)).trans hc) ((x3.cells (hw.cells hc')).trans hc') h2 h3 h5
    rw[Lg] at ih'
    unfold Lh at ih'
    rw[Am,Lg]
    unfold Lh
    simp -implicitDefEqProofs only[go_sem,Ih,Je,AmD,YR,OX,KE,OY,KF,f2,f3,f5,hc,hc',d0,d1,hlt,hlt',hv,hcs,hcs',hle,hle',e3,z0,a1,Ae,Bool.false_eq_true]
    generalize hff:upd _ 5 _=f2'
    generalize hgg:upd _ 53 _=g2'
    obtain⟨e,f4,g4,σ4,h,x4,hw4,h4⟩:=ih' f2' g2' (by rw[←hff];simp -implicitDefEqProofs only[go_sem,reduceCtorEq,f2]) (by rw[←hff];simp -implicitDefEqProofs only[go_sem,reduceCtorEq,f3]) (by rw[←hff];simp -implicitDefEqProofs only[go_sem,reduceCtorEq])
    exact⟨e,f4,g4,σ4,h,x3.trans x4,hw4,h4⟩
   ·have z0:(r==0)=false:=by simpa using hz
    rw[Am,Lg]
    unfold Lh
    simp -implicitDefEqProofs only[go_sem,Ih,Je,OX,KE,OY,KF,Ael,Sv,f2,f3,f5,hc,hc',d0,d1,hlt,hlt',hv,hcs,hcs',hle,hle',e3,z0,a1,Ae,Bool.false_eq_true]
    refine⟨_,_,_,_,rfl,x3,hw3,.inr ⟨rfl,?_⟩⟩
    rw[UE htk hlt hlt' (by rw[hr];exact hz),hr]
    simp -implicitDefEqProofs only[go_sem,reduceCtorEq]
theorem Abl{a b:Int}(h:(a==b)=false):signV (decide (a<b)) false=ordZ a b:=by
 have h':a≠b:=by simpa using h
 unfold signV ordZ
 by_cases hl:a<b
 ·simp[hl]
 ·have:a>b:=by omega
  simp[hl,this]
theorem AqR{a b:ByteArray}(h:(a.toList==b.toList)=false):signV (decide (cmpT a b<0)) false=cmpT a b:=by
 have h':a≠b:=fun e=>by subst e;simp at h
 have h1:=KQ a b
 have h2:cmpT a b≠0:=fun e=>h' (CI.1 e)
 unfold signV
 by_cases hl:cmpT a b<0
 ·simp[hl];omega
 ·simp[hl];omega
theorem Aeu(n:Nat)(R:Nat→Prop):∀(N:Nat) (d e:D) (v w:Value) (σ:FState),d.deep≤N→d.count<1000000→e.count<1000000→Wf σ→LaidR R σ v d→LaidR R σ w e→
  Gives ((env (n+1+N)).call 89 [v,w] none σ) σ fun r _=>r=.int .i64 (ordU d e):=by
 intro N
 induction N with
 | zero=>
  intro d e v w σ hN
  obtain⟨k,z,t,ds⟩:=d
  rw[D.deep] at hN
  omega
 | succ N ih=>
  intro d e v w σ hN hcd hce hw hL hL'
  obtain⟨k,z,t,ds⟩:=d
  obtain⟨k',z',t',es⟩:=e
  rw[D.count] at hcd hce
  have hlen:=CJ ds
  have hlen':=CJ es
  obtain⟨p,c,rfl,hE⟩:=hL
  obtain⟨p',c',rfl,hE'⟩:=hL'
  obtain⟨M,hM⟩:∃M,n+1+N=M:=⟨_,rfl⟩
  obtain⟨M',hM'⟩:∃M',M=M'+1:=⟨n+N,by omega⟩
  rw[hM] at ih
  rw[show n+1+(N+1)=M+1 by omega,Ag _ 89 _ _ rfl,Ao4 _ _ _ _ (by simp),Af]
  unfold Anm
  have x1:Ext σ ((σ.push (.cells [.int .i64 k,.int .i64 z,.string t,.slice p ds.length c] TD) none).push (.cells [.int .i64 k',.int .i64 z',.string t',.slice p' es.length c'] TD) none):=((Ext.refl _).push _ _).push _ _
  have hw1:=(hw.push (.cells [.int .i64 k,.int .i64 z,.string t,.slice p ds.length c] TD) none).push (.cells [.int .i64 k',.int .i64 z',.string t',.slice p' es.length c'] TD) none
  have c1:((σ.push (.cells [.int .i64 k,.int .i64 z,.string t,.slice p ds.length c] TD) none).push (.cells [.int .i64 k',.int .i64 z',.string t',.slice p' es.length c'] TD) none).cells σ.next=some [.int .i64 k,.int .i64 z,.string t,.slice p ds.length c]:=by rw[Ab,if_neg (by rw[Aa];omega),Ab,if_pos rfl];rfl
  have c2:((σ.push (.cells [.int .i64 k,.int .i64 z,.string t,.slice p ds.length c] TD) none).push (.cells [.int .i64 k',.int .i64 z',.string t',.slice p' es.length c'] TD) none).cells (σ.next+1)=some [.int .i64 k',.int .i64 z',.string t',.slice p' es.length c']:=by rw[Ab,if_pos (by rw[Aa])];rfl
  have sg:∀(lt eq:Bool) (τ:FState),(env M).call 132 [.bool lt,.bool eq] none τ=.ret (.int .i64 (signV lt eq)) none τ:=fun lt eq τ=>by rw[hM'];exact AqQ M' lt eq τ
  rw[ordU]
  cases h1:(k==k') with
  | false=>
   have s1:=Abl h1
   simp -implicitDefEqProofs only[go_sem,Ie,Jc,Ig,Jd,Amz,YN,c1,c2,h1,sg,s1]
   refine⟨_,_,rfl,x1,hw1,?_⟩
   rw[thenI,if_neg (fun h=>by simp[BS.1 h] at h1)]
  | true=>
   have k0:k=k':=by simpa using h1
   have o0:ordZ k k'=0:=BS.2 k0
   rw[o0,thenI,if_pos rfl]
   cases h2:(z==z') with
   | false=>
    have s1:=Abl h2
    simp -implicitDefEqProofs only[go_sem,Ie,Jc,Ig,Jd,ML,MK,AmA,YO,c1,c2,h1,h2,sg,s1,Ae]
    refine⟨_,_,rfl,x1,hw1,?_⟩
    rw[thenI,if_neg (fun h=>by simp[BS.1 h] at h2)]
   | true=>
    have z0:z=z':=by simpa using h2
    have o1:ordZ z z'=0:=BS.2 z0
    rw[o1,thenI,if_pos rfl]
    cases h3:(t.toList==t'.toList) with
    | false=>
     have s1:=AqR h3
     simp -implicitDefEqProofs only[go_sem,Ie,Jc,Ig,Jd,ML,MK,Vx,Sy,AmB,YP,c1,c2,h1,h2,h3,Apr,sg,s1,Ae]
     refine⟨_,_,rfl,x1,hw1,?_⟩
     rw[thenI,if_neg (fun h=>by simp[CI.1 h] at h3)]
    | true=>
     have t0:t=t':=toList_inj (by simpa using h3)
     have o2:cmpT t t'=0:=CI.2 t0
     rw[o2,thenI,if_pos rfl]
     have lp:=fun fuel f g hf h2 h3 h5=>AqJ M R ds es p p' c c' σ.next (σ.next+1) k z k' z' t t' (by omega) (by omega) (fun i d e hdi hei v w σ' hw' hl hl'=>ih d e v w σ' (by rw[D.deep] at hN;have:=Ci (List.mem_of_getElem? hdi);omega) (by have:=Dd (List.mem_of_getElem? hdi);omega) (by have:=Dd (List.mem_of_getElem? hei);omega) hw' hl hl')
      ds.length fuel 0 f g _ (by omega) hf (by omega) (by omega) rfl hw1 (hE.keep fun b cs hb hc=>⟨(x1.cells (hw.cells hc)).trans hc,hb⟩) (hE'.keep fun b cs hb hc=>⟨(x1.cells (hw.cells hc)).trans hc,hb⟩) c1 c2 h2 h3 h5
     simp -implicitDefEqProofs only[go_sem,Ie,Jc,Ig,Jd,ML,MK,Vx,Sy,AmC,YQ,c1,c2,h1,h2,h3,Ae]
     generalize hbf:bigFuel=fuel
     generalize hff:upd _ 5 _=f1
     generalize hgg:upd _ 33 _=g1
     obtain⟨e,f',g',σ3,h,x3,hw3,⟨rfl,f2',f3',ho⟩|⟨rfl,f4'⟩⟩:=lp fuel f1 g1 (by rw[←hbf];show ds.length<1000000000000;omega) (by rw[←hff];simp -implicitDefEqProofs only[go_sem,reduceCtorEq]) (by rw[←hff];simp -implicitDefEqProofs only[go_sem,reduceCtorEq]) (by rw[←hff];simp -implicitDefEqProofs only[go_sem,reduceCtorEq]<;>rfl)
     ·rw[h]
      have d1:=(x3.cells (hw1.cells c1)).trans c1
      have d2:=(x3.cells (hw1.cells c2)).trans c2
      simp -implicitDefEqProofs only[go_sem,Aem,Sx,f2',f3',d1,d2,sg]
      exact⟨_,_,rfl,x1.trans x3,hw3,by rw[ho]⟩
     ·rw[h]
      simp -implicitDefEqProofs only[go_sem,f4']
      exact⟨_,_,rfl,x1.trans x3,hw3,rfl⟩
end
section
open Go Go.Eng
attribute [local congr] Ac Aj Ai Ad Ah
attribute [-go_sem] List.range_succ
mutual
theorem GT:∀(d e:D) (q:List Nat),apartP d e=some q→q.length<d.deep
 | .mk k z t ds,.mk k' z' t' es,q,h=>by
  rw[apartP] at h
  rw[D.deep]
  cases hl:likeD (.mk k z t ds) (.mk k' z' t' es) with
  | false=>
   rw[hl] at h
   cases h
   simp
  | true=>
   rw[hl,if_pos rfl] at h
   have:=Jq ds es 0 q h
   omega
theorem Jq:∀(ds es:List D) (i:Nat) (q:List Nat),apartPs i ds es=some q→q.length<D.deeps ds+1
 | [],es,i,q,h=>by cases es<;>simp[apartPs] at h
 | d::ds,[],i,q,h=>by simp[apartPs] at h
 | d::ds,e::es,i,q,h=>by
  rw[apartPs] at h
  rw[D.deeps]
  cases ha:apartP d e with
  | none=>
   rw[ha] at h
   have:=Jq ds es (i+1) q h
   omega
  | some p=>
   rw[ha] at h
   cases h
   have:=GT d e p ha
   simp
   omega
end
def ApOk(d e:D)(S:Nat→Prop)(σ:FState)(w:Value):Prop:=
 match apartP d e with
 | some p=>∃u,w=.tuple #[u,.bool true]∧PathV S σ u p
 | none=>w=.tuple #[.slice none 0 0,.bool false]
theorem AqI(m:Nat)(R:Nat→Prop)(ds es:List D)(p p':Option Addr)(c c' b2 b3:Nat)(k z k' z':Int)(t t':ByteArray)(hds:ds.length<1000000)(hes:es.length=ds.length)(hdp:D.deeps ds<10000)(hO:∀(i:Nat) (d e:D),ds[i]? = some d→es[i]? = some e→∀v w σ',Wf σ'→LaidR R σ' v d→LaidR R σ' w e→Gives ((env m).call 93 [v,w] none σ') σ' fun r σ''=>ApOk d e (fun b=>σ'.next≤b) σ'' r):
  ∀(j fuel i:Nat) (f g:Nat→Value) (σ:FState),ds.length-i=j→j<fuel→i≤ds.length→Wf σ→LaidRE R σ p 0 ds→LaidRE R σ p' 0 es→
   σ.cells b2=some [.int .i64 k,.int .i64 z,.string t,.slice p ds.length c]→σ.cells b3=some [.int .i64 k',.int .i64 z',.string t',.slice p' es.length c']→f 2=.pointer (some ⟨b2,0,none⟩)→f 3=.pointer (some ⟨b3,0,none⟩)→f 6=.int .i64 (.ofNat i)→
   ∃e f' g' σ',floop [] (N5 (env m) none 93) fuel (Sl 9 39 f g []) none σ=.done e (Sl 9 39 f' g' []) none σ'∧Ext σ σ'∧Wf σ'∧
    ((e=.exit 0∧apartPs i (ds.drop i) (es.drop i)=none)∨∃q u,e=.ret∧apartPs i (ds.drop i) (es.drop i)=some q∧f' 4=u∧f' 5=.bool true∧PathV (fun b=>σ.next≤b) σ' u q):=by
 intro j
 induction j with
 | zero=>
  intro fuel i f g σ hj hf hi hw hE hE' hc hc' f2 f3 f6
  obtain⟨fuel,rfl⟩:∃q,fuel=q+1:=⟨fuel-1,by omega⟩
  obtain rfl:i=ds.length:=by omega
  have d0:decide (Int.ofNat ds.length<Int.ofNat ds.length)=false:=by simp
  rw[Am]
  unfold N5
  simp -implicitDefEqProofs only[go_sem,MP,MO,f2,f3,f6,hc,hc',d0,Bool.false_eq_true]
  refine⟨_,_,_,_,rfl,Ext.refl _,hw,.inl ⟨rfl,?_⟩⟩
  rw[List.drop_length]
  cases List.drop ds.length es<;>rw[apartPs]
 | succ j ih=>
  intro fuel i f g σ hj hf hi hw hE hE' hc hc' f2 f3 f6
  obtain⟨fuel,rfl⟩:∃q,fuel=q+1:=⟨fuel-1,by omega⟩
  have hlt:i<ds.length:=by omega
  have hlt':i<es.length:=by omega
  have d0:decide (Int.ofNat i<Int.ofNat ds.length)=true:=by simp;omega
  have hd:ds[i]? = some ds[i]:=List.getElem?_eq_getElem hlt
  have hd':es[i]? = some es[i]:=List.getElem?_eq_getElem hlt'
  obtain⟨b,off,cs,rfl,hRb,hcs,hle,hL⟩:=LaidRE.get hE hd
  obtain⟨b',off',cs',rfl,hRb',hcs',hle',hL'⟩:=LaidRE.get hE' hd'
  rw[Nat.zero_add] at hle hL hle' hL'
  obtain⟨r,σ3,e3,x3,hw3,hr⟩:=hO i ds[i] es[i] hd hd' _ _ σ hw hL hL'
  have a1:=D4 i (by omega)
  have hv:=BQ hw (Nat.le_refl _)
  rw[List.drop_eq_getElem_cons hlt,List.drop_eq_getElem_cons hlt',apartPs]
  unfold ApOk at hr
  cases ha:apartP ds[i] es[i] with
  | none=>
   simp only[ha] at hr
   subst hr
   have ih':=fun f g h2 h3 h6=>ih fuel (i+1) f g σ3 (by omega) (by omega) (by omega) hw3 (hE.keep fun b cs hb hc=>⟨(x3.cells (hw.cells hc)).trans hc,hb⟩) (hE'.keep fun b cs hb hc=>⟨(x3.cells (hw.cells hc)).trans hc,hb⟩) ((x3.cells (hw.cells hc)).trans hc) ((x3.cells (hw.cells hc')).trans hc') h2 h3 h6
   unfold N5 at ih'
   rw[Am]
   unfold N5
   simp -implicitDefEqProofs only[go_sem,MP,MO,AmS,Y9,VE,SK,VF,SL,f2,f3,f6,hc,hc',d0,hlt,hlt',hv,hcs,hcs',hle,hle',e3,a1,Ae,Bool.false_eq_true]
   generalize hff:upd _ 6 _=f2'
   generalize hgg:upd _ 19 _=g2'
   obtain⟨e,f4,g4,σ4,h,x4,hw4,h4⟩:=ih' f2' g2' (by rw[←hff];simp -implicitDefEqProofs only[go_sem,reduceCtorEq,f2]) (by rw[←hff];simp -implicitDefEqProofs only[go_sem,reduceCtorEq,f3]) (by rw[←hff];simp -implicitDefEqProofs only[go_sem,reduceCtorEq])
   refine⟨e,f4,g4,σ4,h,x3.trans x4,hw4,?_⟩
   rcases h4 with h4|⟨q,u,h5,h6,h7,h8,h9⟩
   ·exact .inl h4
   ·exact .inr ⟨q,u,h5,h6,h7,h8,h9.keep fun b c hb hc=>⟨hc,by have:=x3.next;omega⟩⟩
  | some q=>
   simp only[ha] at hr
   obtain⟨u,rfl,hP⟩:=hr
   have hq:=GT _ _ _ ha
   have hq2:=Ci (List.mem_of_getElem? hd)
   obtain⟨b5,s5,σ5,e5,F5,hb5,x5,hw5⟩:=(Ful.push 3 σ3 (intsOf [i])).append (hw3.push _ _) u (intsOf q) 8 (hP.keep (Q':=fun _=>True) fun b c hb hc=>⟨by rw[Ab,if_neg (by have:=hw3.cells hc;omega)];exact hc,trivial⟩).fnew (EV _) (by omega) (by rw[BN,BN];simp;omega)
   have e5':fappend 3 1 8 (.slice (some ⟨σ3.next,0,none⟩) 1 1) u (σ3.push (.cells [.int .i64 (.ofNat i)] 3) none)=.val s5 σ5:=e5
   have hX:Ext σ3 σ5:=⟨by have:=x5.next;simp only[Aa] at this;omega,by have:=x5.clock;simp only[CU] at this;omega,fun b hb=>(x5.get b (by rw[Aa];omega) (by omega)).trans (by rw[Ak,if_neg (by omega)])⟩
   rw[Am]
   unfold N5
   obtain⟨fu1,fu2,fu3⟩:=F5.one
   simp -implicitDefEqProofs only[go_sem,MP,MO,VE,SK,VF,SL,AmT,Y_,f2,f3,f6,hc,hc',d0,hlt,hlt',hv,hcs,hcs',hle,hle',e3,a1,Ae,Bool.false_eq_true,e5',fu2]
   refine⟨_,_,_,_,rfl,x3.trans hX,hw5,.inr ⟨i::q,s5,rfl,rfl,by simp -implicitDefEqProofs only[go_sem,reduceCtorEq],by simp -implicitDefEqProofs only[go_sem,reduceCtorEq],?_⟩⟩
   obtain⟨h1,h2⟩:=F5.cells
   have hl5:(intsOf [i]++intsOf q).length=(i::q).length:=by simp[intsOf]
   rw[hl5] at h1
   have hn3:=x3.next
   exact .inr ⟨b5,(i::q).length,[],h1,by rcases hb5 with h|h<;>(try rw[Aa] at h)<;>show σ.next≤b5<;>omega,by rw[h2];simp[intsOf]⟩
theorem VJ(n:Nat)(R:Nat→Prop):∀(N:Nat) (d e:D) (v w:Value) (σ:FState),d.deep≤N→N<10000→d.count<1000000→Wf σ→LaidR R σ v d→LaidR R σ w e→
  Gives ((env (n+1+N)).call 93 [v,w] none σ) σ fun r σ'=>ApOk d e (fun b=>σ.next≤b) σ' r:=by
 intro N
 induction N with
 | zero=>
  intro d e v w σ hN
  obtain⟨k,z,t,ds⟩:=d
  rw[D.deep] at hN
  omega
 | succ N ih=>
  intro d e v w σ hN hNN hcd hw hL hL'
  obtain⟨k,z,t,ds⟩:=d
  obtain⟨k',z',t',es⟩:=e
  rw[D.count] at hcd
  have hlen:=CJ ds
  obtain⟨p,c,rfl,hE⟩:=hL
  obtain⟨p',c',rfl,hE'⟩:=hL'
  obtain⟨M,hM⟩:∃M,n+1+N=M:=⟨_,rfl⟩
  obtain⟨M',hM'⟩:∃M',M=M'+1:=⟨n+N,by omega⟩
  rw[hM] at ih
  rw[show n+1+(N+1)=M+1 by omega,Ag _ 93 _ _ rfl,Ao6 _ _ _ _ (by simp),Af]
  unfold Ano
  have x1:Ext σ ((σ.push (.cells [.int .i64 k,.int .i64 z,.string t,.slice p ds.length c] TD) none).push (.cells [.int .i64 k',.int .i64 z',.string t',.slice p' es.length c'] TD) none):=((Ext.refl _).push _ _).push _ _
  have hw1:=(hw.push (.cells [.int .i64 k,.int .i64 z,.string t,.slice p ds.length c] TD) none).push (.cells [.int .i64 k',.int .i64 z',.string t',.slice p' es.length c'] TD) none
  have c1:((σ.push (.cells [.int .i64 k,.int .i64 z,.string t,.slice p ds.length c] TD) none).push (.cells [.int .i64 k',.int .i64 z',.string t',.slice p' es.length c'] TD) none).cells σ.next=some [.int .i64 k,.int .i64 z,.string t,.slice p ds.length c]:=by rw[Ab,if_neg (by rw[Aa];omega),Ab,if_pos rfl];rfl
  have c2:((σ.push (.cells [.int .i64 k,.int .i64 z,.string t,.slice p ds.length c] TD) none).push (.cells [.int .i64 k',.int .i64 z',.string t',.slice p' es.length c'] TD) none).cells (σ.next+1)=some [.int .i64 k',.int .i64 z',.string t',.slice p' es.length c']:=by rw[Ab,if_pos (by rw[Aa])];rfl
  have hkeep:keepOf nls 93=[]:=by kernel_rfl
  obtain⟨_,σ2,e2,x2,hw2,rfl⟩:=Abr M' k z k' z' t t' p p' ds.length es.length c c' _ hw1
  rw[←hM'] at e2
  have d1:=(x2.cells (hw1.cells c1)).trans c1
  have d2:=(x2.cells (hw1.cells c2)).trans c2
  have X2:=x1.trans x2
  unfold ApOk
  rw[apartP,likeD]
  cases hl:((k==k')&&(z==z')&&(t.toList==t'.toList)&&(Int.ofNat ds.length==Int.ofNat es.length)) with
  | false=>
   rw[hl] at e2
   simp -implicitDefEqProofs only[go_sem,VC,SI,VD,SJ,AmQ,Y7,c1,c2,e2]
   exact⟨_,_,rfl,X2,hw2,_,rfl,.inl ⟨rfl,rfl⟩⟩
  | true=>
   rw[hl] at e2
   have hle:es.length=ds.length:=by
    simp only[Bool.and_eq_true,beq_iff_eq] at hl
    exact(Int.ofNat.inj hl.2).symm
   rw[if_pos rfl]
   rw[D.deep] at hN
   have lp:=fun fuel f g hf h2 h3 h6=>AqI M R ds es p p' c c' σ.next (σ.next+1) k z k' z' t t' (by omega) hle (by omega) (fun i d e hdi hei v w σ' hw' hl hl'=>ih d e v w σ' (by have:=Ci (List.mem_of_getElem? hdi);omega) (by omega) (by have:=Dd (List.mem_of_getElem? hdi);omega) hw' hl hl')
    ds.length fuel 0 f g σ2 (by omega) hf (by omega) hw2 (hE.keep fun b cs hb hc=>⟨(X2.cells (hw.cells hc)).trans hc,hb⟩) (hE'.keep fun b cs hb hc=>⟨(X2.cells (hw.cells hc)).trans hc,hb⟩) d1 d2 h2 h3 h6
   simp -implicitDefEqProofs only[go_sem,VC,SI,VD,SJ,AmR,Y8,c1,c2,e2,Ae,hkeep]
   generalize hbf:bigFuel=fuel
   generalize hff:upd _ 6 _=f1
   generalize hgg:upd _ 12 _=g1
   obtain⟨e,f',g',σ3,h,x3,hw3,⟨rfl,ho⟩|⟨q,u,rfl,ho,f4,f5,hP⟩⟩:=lp fuel f1 g1 (by rw[←hbf];show ds.length<1000000000000;omega) (by rw[←hff];simp -implicitDefEqProofs only[go_sem,reduceCtorEq]) (by rw[←hff];simp -implicitDefEqProofs only[go_sem,reduceCtorEq]) (by rw[←hff];simp -implicitDefEqProofs only[go_sem,reduceCtorEq]<;>rfl)
   ·rw[List.drop_zero,List.drop_zero] at ho
    rw[h,ho]
    simp -implicitDefEqProofs only[go_sem,AmU,Za]
    exact⟨_,_,rfl,X2.trans x3,hw3,rfl⟩
   ·rw[List.drop_zero,List.drop_zero] at ho
    rw[h,ho]
    simp -implicitDefEqProofs only[go_sem,f4,f5]
    exact⟨_,_,rfl,X2.trans x3,hw3,u,rfl,hP.keep fun b c hb hc=>⟨hc,by have:=X2.next;omega⟩⟩
end
section
open Go Go.Eng
attribute [local congr] Ac Aj Ai Ad Ah
attribute [-go_sem] List.range_succ
section
variable (M n N:Nat) (hM:M=n+4+N) (d e:D) (hdN:d.deep≤N) (heN:e.deep≤N) (hN:N<10000) (hd:d.count<900) (he:e.count<900) (lv mv:List Value) (h4:lv.length=4) (hm4:mv.length=4) (σ:FState) (hw:Wf σ) (hL:LaidR (fun b=>b<σ.next) σ (.agg lv.toArray) d) (hLe:LaidR (fun b=>b<σ.next) σ (.agg mv.toArray) e)
include hM hdN heN hd he h4 hm4 hw hL hLe
theorem O9:Gives ((env (M+3)).call 83 [.agg lv.toArray,.agg mv.toArray] none σ) σ fun r _=>r=.int .i64 (twoE d e:Nat):=by
 have ht:lv.take 4=lv:=List.take_of_length_le (by omega)
 have htm:mv.take 4=mv:=List.take_of_length_le (by omega)
 rw[Ag _ 83 _ _ rfl,Aab _ _ _ _ (by simp),Af]
 unfold Abg
 have x1:Ext σ ((σ.push (.cells lv TD) none).push (.cells mv TD) none):=((Ext.refl _).push _ _).push _ _
 have hw1:=(hw.push (.cells lv TD) none).push (.cells mv TD) none
 have c1:((σ.push (.cells lv TD) none).push (.cells mv TD) none).cells σ.next=some lv:=by rw[Ab,if_neg (by rw[Aa];omega),Ab,if_pos rfl];rfl
 have c2:((σ.push (.cells lv TD) none).push (.cells mv TD) none).cells (σ.next+1)=some mv:=by rw[Ab,if_pos (by rw[Aa])];rfl
 obtain⟨_,σ2,e2,x2,hw2,rfl⟩:=Jt (fun b=>b<σ.next) d lv h4 _ hw1 (hL.keep fun b cs hb hc=>⟨(x1.cells hb).trans hc,hb⟩) M n N hM hdN (by omega)
 have d2:=(x2.cells (hw1.cells c2)).trans c2
 have X2:=x1.trans x2
 unfold twoE
 by_cases h1:firstE d=0
 ·obtain⟨_,σ3,e3,x3,hw3,rfl⟩:=Jt (fun b=>b<σ.next) e mv hm4 σ2 hw2 (hLe.keep fun b cs hb hc=>⟨(X2.cells hb).trans hc,hb⟩) M n N hM heN (by omega)
  have z0:(((firstE d:Nat):Int)==0)=true:=by rw[h1];rfl
  simp -implicitDefEqProofs only[go_sem,Mz,My,MB,MA,MD,MC,Vn,Si,c1,h4,hm4,ht,htm,e2,z0,d2,e3,Ae,Nat.le_refl]
  exact⟨_,_,rfl,X2.trans x3,hw3,by simp[h1]⟩
 ·have z0:(((firstE d:Nat):Int)==0)=false:=by simp;omega
  simp -implicitDefEqProofs only[go_sem,Mz,My,MB,MA,MD,MC,Al7,Ys,c1,h4,hm4,ht,htm,e2,z0,Ae,Nat.le_refl]
  exact⟨_,_,rfl,X2,hw2,by simp[h1]⟩
theorem NC:Gives ((env (M+4)).call 26 [.agg lv.toArray,.agg mv.toArray] none σ) σ fun r _=>r=cmpR d e:=by
 have ht:lv.take 4=lv:=List.take_of_length_le (by omega)
 have htm:mv.take 4=mv:=List.take_of_length_le (by omega)
 rw[Ag _ 26 _ _ rfl,AoO _ _ _ _ (by simp),Af]
 unfold Am6
 have x1:Ext σ ((σ.push (.cells lv TD) none).push (.cells mv TD) none):=((Ext.refl _).push _ _).push _ _
 have hw1:=(hw.push (.cells lv TD) none).push (.cells mv TD) none
 have c1:((σ.push (.cells lv TD) none).push (.cells mv TD) none).cells σ.next=some lv:=by rw[Ab,if_neg (by rw[Aa];omega),Ab,if_pos rfl];rfl
 have c2:((σ.push (.cells lv TD) none).push (.cells mv TD) none).cells (σ.next+1)=some mv:=by rw[Ab,if_pos (by rw[Aa])];rfl
 have st:∀ {τ:FState},Ext σ τ→∀ {v:Value} {d:D},LaidR (fun b=>b<σ.next) σ v d→LaidR (fun b=>b<τ.next) τ v d:=fun hX v d h=>h.keep fun b cs hb hc=>⟨(hX.cells hb).trans hc,by have:=hX.next;omega⟩
 obtain⟨_,σ2,e2,x2,hw2,rfl⟩:=O9 M n N hM d e hdN heN hd he lv mv h4 hm4 _ hw1 (st x1 hL) (st x1 hLe)
 have d1:=(x2.cells (hw1.cells c1)).trans c1
 have d2:=(x2.cells (hw1.cells c2)).trans c2
 have X2:=x1.trans x2
 unfold cmpR
 by_cases h1:twoE d e=0
 ·obtain⟨_,σ3,e3,x3,hw3,rfl⟩:=Aeu (n+6) _ N d e _ _ σ2 hdN (by omega) (by omega) hw2 (st X2 hL) (st X2 hLe)
  rw[show n+6+1+N=M+3 by omega] at e3
  have z0:(((twoE d e:Nat):Int)==0)=true:=by rw[h1];rfl
  simp -implicitDefEqProofs only[go_sem,UU,RP,UV,RQ,UW,RR,Alc,XD,c1,c2,h4,hm4,ht,htm,e2,z0,d1,d2,e3,Ae,Nat.le_refl]
  exact⟨_,_,rfl,X2.trans x3,hw3,by simp[h1]⟩
 ·have z0:(((twoE d e:Nat):Int)==0)=false:=by simp;omega
  simp -implicitDefEqProofs only[go_sem,UU,RP,UV,RQ,UW,RR,Alb,XC,c1,c2,h4,hm4,ht,htm,e2,z0,Ae,Nat.le_refl]
  exact⟨_,_,rfl,X2,hw2,by simp[h1]⟩
include hN
theorem SM:Gives ((env (M+4)).call 28 [.agg lv.toArray,.agg mv.toArray] none σ) σ fun r σ'=>DifOk d e (fun b=>σ.next≤b) σ' r:=by
 have ht:lv.take 4=lv:=List.take_of_length_le (by omega)
 have htm:mv.take 4=mv:=List.take_of_length_le (by omega)
 rw[Ag _ 28 _ _ rfl,AoP _ _ _ _ (by simp),Af]
 unfold Am7
 have x1:Ext σ ((σ.push (.cells lv TD) none).push (.cells mv TD) none):=((Ext.refl _).push _ _).push _ _
 have hw1:=(hw.push (.cells lv TD) none).push (.cells mv TD) none
 have c1:((σ.push (.cells lv TD) none).push (.cells mv TD) none).cells σ.next=some lv:=by rw[Ab,if_neg (by rw[Aa];omega),Ab,if_pos rfl];rfl
 have c2:((σ.push (.cells lv TD) none).push (.cells mv TD) none).cells (σ.next+1)=some mv:=by rw[Ab,if_pos (by rw[Aa])];rfl
 have st:∀ {τ:FState},Ext σ τ→∀ {v:Value} {d:D},LaidR (fun b=>b<σ.next) σ v d→LaidR (fun b=>b<τ.next) τ v d:=fun hX v d h=>h.keep fun b cs hb hc=>⟨(hX.cells hb).trans hc,by have:=hX.next;omega⟩
 obtain⟨_,σ2,e2,x2,hw2,rfl⟩:=O9 M n N hM d e hdN heN hd he lv mv h4 hm4 _ hw1 (st x1 hL) (st x1 hLe)
 have d1:=(x2.cells (hw1.cells c1)).trans c1
 have d2:=(x2.cells (hw1.cells c2)).trans c2
 have X2:=x1.trans x2
 unfold DifOk
 by_cases h1:twoE d e=0
 ·simp only[if_pos h1]
  obtain⟨r,σ3,e3,x3,hw3,hr⟩:=VJ (n+6) _ N d e _ _ σ2 hdN hN (by omega) hw2 (st X2 hL) (st X2 hLe)
  rw[show n+6+1+N=M+3 by omega] at e3
  have z0:(((twoE d e:Nat):Int)==0)=true:=by rw[h1];rfl
  unfold ApOk at hr
  cases ha:apartP d e with
  | none=>
   simp only[ha] at hr
   subst hr
   simp -implicitDefEqProofs only[go_sem,L2,L1,L4,L3,L7,L6,UX,RS,UY,RT,Ale,XF,c1,c2,h4,hm4,ht,htm,e2,z0,d1,d2,e3,Ae,Nat.le_refl]
   exact⟨_,_,rfl,X2.trans x3,hw3,rfl⟩
  | some q=>
   simp only[ha] at hr
   obtain⟨u,rfl,hP⟩:=hr
   simp -implicitDefEqProofs only[go_sem,L2,L1,L4,L3,L7,L6,UX,RS,UY,RT,Alf,XG,c1,c2,h4,hm4,ht,htm,e2,z0,d1,d2,e3,Ae,Nat.le_refl]
   exact⟨_,_,rfl,X2.trans x3,hw3,u,rfl,hP.keep fun b c hb hc=>⟨hc,by have:=X2.next;omega⟩⟩
 ·simp only[if_neg h1]
  have z0:(((twoE d e:Nat):Int)==0)=false:=by simp;omega
  simp -implicitDefEqProofs only[go_sem,L2,L1,L4,L3,L7,L6,Ald,XE,c1,c2,h4,hm4,ht,htm,e2,z0,Ae,Nat.le_refl]
  exact⟨_,_,rfl,X2,hw2,rfl⟩
end
end
section
open Go Go.Eng
attribute [local congr] Ac Aj Ai Ad Ah
attribute [-go_sem] List.range_succ
theorem N6(R:Nat→Prop)(σ:FState)(b:Nat)(l0 l1 l2 l3:List Value)(h0:l0.length=4)(h1:l1.length=4)(h2:l2.length=4)(h3:l3.length=4)(d0 d1 d2 d3:D)(hR:R b)(hc:σ.cells b=some (l0++l1++l2++l3))(k0:LaidR R σ (.agg l0.toArray) d0)(k1:LaidR R σ (.agg l1.toArray) d1)(k2:LaidR R σ (.agg l2.toArray) d2)(k3:LaidR R σ (.agg l3.toArray) d3):LaidRE R σ (some ⟨b,0,none⟩) 0 [d0,d1,d2,d3]:=by
 obtain⟨a0,a1,a2,a3,rfl⟩:=Cx h0
 obtain⟨b0,b1,b2,b3,rfl⟩:=Cx h1
 obtain⟨c0,c1,c2,c3,rfl⟩:=Cx h2
 obtain⟨e0,e1,e2,e3,rfl⟩:=Cx h3
 exact⟨⟨b,0,_,rfl,hR,hc,by simp,k0⟩,⟨b,0,_,rfl,hR,hc,by simp,k1⟩,⟨b,0,_,rfl,hR,hc,by simp,k2⟩,⟨b,0,_,rfl,hR,hc,by simp,k3⟩,trivial⟩
theorem AbI(d e:D):∃a b:Int,cmpR d e=.tuple #[.int .i64 a,.int .i64 b]:=by
 unfold cmpR
 split<;>exact⟨_,_,rfl⟩
theorem Wl(d e:D)(hd:d.deep<10000):∃(p:List Nat) (c:Int),p.length<100000∧∀S σ w,DifOk d e S σ w→∃u,w=.tuple #[u,.int .i64 c]∧PathV S σ u p:=by
 unfold DifOk
 by_cases h:twoE d e=0
 ·simp only[if_pos h]
  cases ha:apartP d e with
  | none=>exact⟨[],_,by simp,fun S σ w h=>⟨_,h,.inl ⟨rfl,rfl⟩⟩⟩
  | some p=>exact⟨p,_,by have:=GT d e p ha;omega,fun S σ w h=>h⟩
 ·simp only[if_neg h]
  exact⟨[],_,by simp,fun S σ w h=>⟨_,h,.inl ⟨rfl,rfl⟩⟩⟩
theorem PJ:keepOf nls 4=[137]:=by kernel_rfl
theorem UG(q:Nat)(ds es:List D)(p p':Option Addr)(c c':Nat)(hl:es.length=ds.length)(hds:ds.length<1000)(hD:∀d∈ds,d.count<900∧d.deep≤150)(hE0:∀d∈es,d.count<900∧d.deep≤150):
  ∀(j fuel i:Nat) (f g:Nat→Value) (σ:FState),ds.length-i=j→j<fuel→i≤ds.length→Wf σ→LaidRE (fun b=>b<σ.next) σ p 0 ds→LaidRE (fun b=>b<σ.next) σ p' 0 es→
   f 13=.slice p ds.length c→f 14=.slice p' es.length c'→f 15=.int .i64 (.ofNat i)→
   ∃f' g' σ',floop (keepOf nls 4) (Acj (top (q+500)) none 4) fuel (Sl 24 138 f g []) none σ=.done (.exit 0) (Sl 24 138 f' g' []) none σ':=by
 intro j
 induction j with
 | zero=>
  intro fuel i f g σ hj hf hi hw hE hE' f13 f14 f15
  obtain⟨fuel,rfl⟩:∃q,fuel=q+1:=⟨fuel-1,by omega⟩
  obtain rfl:i=ds.length:=by omega
  have d0:decide (Int.ofNat ds.length<Int.ofNat ds.length)=false:=by simp
  rw[Am,PJ]
  unfold Acj
  simp -implicitDefEqProofs only[go_sem,Aa6,Aa5,f13,f14,f15,d0,Bool.false_eq_true]
  exact⟨_,_,_,rfl⟩
 | succ j ih=>
  intro fuel i f g σ hj hf hi hw hE hE' f13 f14 f15
  obtain⟨fuel,rfl⟩:∃q,fuel=q+1:=⟨fuel-1,by omega⟩
  have hlt:i<ds.length:=by omega
  have hlt':i<es.length:=by omega
  have d0:decide (Int.ofNat i<Int.ofNat ds.length)=true:=by simp;omega
  have hd:ds[i]? = some ds[i]:=List.getElem?_eq_getElem hlt
  have hd':es[i]? = some es[i]:=List.getElem?_eq_getElem hlt'
  obtain⟨b,off,cs,rfl,hRb,hcs,hle,hL⟩:=LaidRE.get hE hd
  obtain⟨b',off',cs',rfl,hRb',hcs',hle',hL'⟩:=LaidRE.get hE' hd'
  rw[Nat.zero_add] at hle hL hle' hL'
  have a1:=D4 i (by omega)
  have hdD:=hD _ (List.getElem_mem hlt)
  have heD:=hE0 _ (List.getElem_mem hlt')
  generalize ds[i]=d at hd hL hdD
  generalize es[i]=e at hd' hL' heD
  have hlv:(List.take 4 (List.drop (off+i*4) cs)).length=4:=by rw[List.length_take,List.length_drop];omega
  have hmv:(List.take 4 (List.drop (off'+i*4) cs')).length=4:=by rw[List.length_take,List.length_drop];omega
  have step:∀ {τ τ':FState},Ext τ τ'→Wf τ→∀ {v:Value} {d:D},LaidR (fun b=>b<τ.next) τ v d→LaidR (fun b=>b<τ'.next) τ' v d:=fun hX hw v d h=>h.keep fun b cs hb hc=>⟨(hX.cells hb).trans hc,by have:=hX.next;omega⟩
  obtain⟨ca,cb,hcmp⟩:=AbI d e
  obtain⟨pp,cc,hpl,hdf⟩:=Wl d e (by omega)
  obtain⟨_,σ1,e1,x1,hw1,rfl⟩:=Tu (q+491) (q+469) (q+40) 150 (by omega) (by omega) d e hdD.1 heD.1 hdD.2 _ _ hlv hmv σ hw hL hL'
  obtain⟨_,σ2,e2,x2,hw2,rfl⟩:=NC (q+496) (q+342) 150 (by omega) d e hdD.2 heD.2 hdD.1 heD.1 _ _ hlv hmv σ1 hw1 (step x1 hw hL) (step x1 hw hL')
  have X2:=x1.trans x2
  obtain⟨w3,σ3,e3,x3,hw3,h3⟩:=Wm (q+491) (q+469) (by omega) d e hdD.1 heD.1 _ _ hlv hmv σ2 hw2 (step X2 hw hL) (step X2 hw hL')
  have X3:=X2.trans x3
  obtain⟨w4,σ4,e4,x4,hw4,h4⟩:=SM (q+496) (q+342) 150 (by omega) d e hdD.2 heD.2 (by omega) hdD.1 heD.1 _ _ hlv hmv σ3 hw3 (step X3 hw hL) (step X3 hw hL')
  have X4:=X3.trans x4
  obtain⟨u3,rfl,P3⟩:=hdf _ _ _ h3
  obtain⟨u4,rfl,P4⟩:=hdf _ _ _ h4
  have P34:PathV (fun _=>True) σ4 u3 pp:=P3.keep fun b c hb hc=>⟨(x4.cells (hw3.cells hc)).trans hc,trivial⟩
  have e5:=AbX (q+499) hw4 hpl P34 P4
  rw[decide_eq_true rfl] at e5
  rw[hcmp] at e1 e2
  replace e1:=(Cr (q+500) 25 _ σ rfl).trans e1
  replace e2:=(Cr (q+500) 26 _ σ1 rfl).trans e2
  replace e3:=(Cr (q+500) 27 _ σ2 rfl).trans e3
  replace e4:=(Cr (q+500) 28 _ σ3 rfl).trans e4
  replace e5:=(Cr (q+500) 29 _ σ4 rfl).trans e5
  have q1:σ1.cells b=some cs:=(x1.cells (hw.cells hcs)).trans hcs
  have q2:σ2.cells b=some cs:=(X2.cells (hw.cells hcs)).trans hcs
  have q3:σ3.cells b=some cs:=(X3.cells (hw.cells hcs)).trans hcs
  have s1:σ1.cells b'=some cs':=(x1.cells (hw.cells hcs')).trans hcs'
  have s2:σ2.cells b'=some cs':=(X2.cells (hw.cells hcs')).trans hcs'
  have s3:σ3.cells b'=some cs':=(X3.cells (hw.cells hcs')).trans hcs'
  have v0:=BQ hw (Nat.le_refl _)
  have v1:=BQ hw1 (Nat.le_refl _)
  have v2:=BQ hw2 (Nat.le_refl _)
  have v3:=BQ hw3 (Nat.le_refl _)
  obtain⟨_,nt3,_⟩:=P3.one
  obtain⟨_,nt4,_⟩:=P4.one
  rw[Am,PJ]
  unfold Acj
  simp -implicitDefEqProofs only[go_sem,Aa6,Aa5,Als,XT,f13,f14,f15,d0,hlt,hlt',v0,hcs,hcs',hle,hle',e1,Ae,Bool.false_eq_true]
  simp -implicitDefEqProofs only[go_sem,Alt,XU,f13,f14,f15,hlt,hlt',v1,q1,s1,hle,hle',e2]
  simp -implicitDefEqProofs only[go_sem,Alu,XV,f13,f14,f15,hlt,hlt',v2,q2,s2,hle,hle',e3,nt3]
  simp -implicitDefEqProofs only[go_sem,Alv,XW,f13,f14,f15,hlt,hlt',v3,q3,s3,hle,hle',e4,nt4]
  simp -implicitDefEqProofs only[go_sem,Alr,XS,Alw,XX,f13,f14,f15,e5,a1,Ae,Bool.false_eq_true,Bool.or_false,Bool.or_self]
  generalize hff:upd _ 15 _=f2'
  generalize hgg:upd _ 69 _=g2'
  have st4:∀ {p:Option Addr} {l:List D},LaidRE (fun b=>b<σ.next) σ p 0 l→LaidRE (fun b=>b<σ4.next) σ4 p 0 l:=fun h=>h.keep fun b cs hb hc=>⟨(X4.cells hb).trans hc,by have:=X4.next;omega⟩
  have ih':=ih fuel (i+1) f2' g2' σ4 (by omega) (by omega) (by omega) hw4 (st4 hE) (st4 hE') (by rw[←hff];simp -implicitDefEqProofs only[go_sem,reduceCtorEq,f13]) (by rw[←hff];simp -implicitDefEqProofs only[go_sem,reduceCtorEq,f14]) (by rw[←hff];simp -implicitDefEqProofs only[go_sem,reduceCtorEq])
  rw[PJ] at ih'
  unfold Acj at ih'
  exact ih'
end
section
open Go Go.Eng
attribute [local congr] Ac Aj Ai Ad Ah
attribute [-go_sem] List.range_succ
def AmY(E:Env)(ro:Option Nat)(fn:FuncId):RunF:=seqR (drawR E ro Av0) (seqR (seqR (fops E ro Av1) (blockR 0 (loopR (keepOf nls fn) (Acj E ro fn)))) (seqR (fops E ro Alx) retR))
theorem UI(q b3 b4 b8 b9 b11:Nat)(a b x y z:D)(la lb lx ly lz:List Value)(ha4:la.length=4)(hb4:lb.length=4)(hx4:lx.length=4)(hy4:ly.length=4)(hz4:lz.length=4)(f g:Nat→Value)(σ:FState)(hw:Wf σ)(c3:σ.cells b3=some la)(c4:σ.cells b4=some lb)(c8:σ.cells b8=some lx)(c9:σ.cells b9=some ly)(c11:σ.cells b11=some lz)(hA:LaidR (fun b=>b<σ.next) σ (.agg la.toArray) a)(hB:LaidR (fun b=>b<σ.next) σ (.agg lb.toArray) b)(hX:LaidR (fun b=>b<σ.next) σ (.agg lx.toArray) x)(hY:LaidR (fun b=>b<σ.next) σ (.agg ly.toArray) y)(hZ:LaidR (fun b=>b<σ.next) σ (.agg lz.toArray) z)(ka:a.count<900∧a.deep≤150)(kb:b.count<900∧b.deep≤150)(kx:x.count<900∧x.deep≤150)(ky:y.count<900∧y.deep≤150)(kz:z.count<900∧z.deep≤150)(f3:f 3=.pointer (some ⟨b3,0,none⟩))(f4:f 4=.pointer (some ⟨b4,0,none⟩))(f8:f 8=.pointer (some ⟨b8,0,none⟩))(f9:f 9=.pointer (some ⟨b9,0,none⟩))(f11:f 11=.pointer (some ⟨b11,0,none⟩)):
  ∃σ',leaveR Tryz.prog (top (q+500)) [.tmp 6] (AmY (top (q+500)) none 4 (Sl 24 138 f g []) none σ)=.ret (.bool true) none σ':=by
 obtain⟨a0,a1,a2,a3,rfl⟩:=Cx ha4
 obtain⟨i0,i1,i2,i3,rfl⟩:=Cx hb4
 obtain⟨x0,x1,x2,x3,rfl⟩:=Cx hx4
 obtain⟨y0,y1,y2,y3,rfl⟩:=Cx hy4
 obtain⟨z0,z1,z2,z3,rfl⟩:=Cx hz4
 have hv:=BQ hw (Nat.le_refl _)
 have X:Ext σ ((σ.push (.cells [a0,a1,a2,a3,x0,x1,x2,x3,x0,x1,x2,x3,i0,i1,i2,i3] TD) none).push (.cells [i0,i1,i2,i3,y0,y1,y2,y3,z0,z1,z2,z3,x0,x1,x2,x3] TD) none):=((Ext.refl _).push _ _).push _ _
 have hw1:=(hw.push (.cells [a0,a1,a2,a3,x0,x1,x2,x3,x0,x1,x2,x3,i0,i1,i2,i3] TD) none).push (.cells [i0,i1,i2,i3,y0,y1,y2,y3,z0,z1,z2,z3,x0,x1,x2,x3] TD) none
 have g1:((σ.push (.cells [a0,a1,a2,a3,x0,x1,x2,x3,x0,x1,x2,x3,i0,i1,i2,i3] TD) none).push (.cells [i0,i1,i2,i3,y0,y1,y2,y3,z0,z1,z2,z3,x0,x1,x2,x3] TD) none).cells σ.next=some [a0,a1,a2,a3,x0,x1,x2,x3,x0,x1,x2,x3,i0,i1,i2,i3]:=by rw[Ab,if_neg (by rw[Aa];omega),Ab,if_pos rfl];rfl
 have g2:((σ.push (.cells [a0,a1,a2,a3,x0,x1,x2,x3,x0,x1,x2,x3,i0,i1,i2,i3] TD) none).push (.cells [i0,i1,i2,i3,y0,y1,y2,y3,z0,z1,z2,z3,x0,x1,x2,x3] TD) none).cells (σ.next+1)=some [i0,i1,i2,i3,y0,y1,y2,y3,z0,z1,z2,z3,x0,x1,x2,x3]:=by rw[Ab,if_pos (by rw[Aa])];rfl
 have st:∀ {v:Value} {d:D},LaidR (fun b=>b<σ.next) σ v d→LaidR (fun b=>b<((σ.push (.cells [a0,a1,a2,a3,x0,x1,x2,x3,x0,x1,x2,x3,i0,i1,i2,i3] TD) none).push (.cells [i0,i1,i2,i3,y0,y1,y2,y3,z0,z1,z2,z3,x0,x1,x2,x3] TD) none).next) ((σ.push (.cells [a0,a1,a2,a3,x0,x1,x2,x3,x0,x1,x2,x3,i0,i1,i2,i3] TD) none).push (.cells [i0,i1,i2,i3,y0,y1,y2,y3,z0,z1,z2,z3,x0,x1,x2,x3] TD) none) v d:=fun h=>h.keep fun b cs hb hc=>⟨(X.cells hb).trans hc,by simp only[Aa];omega⟩
 have lp:=fun fuel f g hf h13 h14 h15=>UG q [a,x,x,b] [b,y,z,x] (some ⟨σ.next,0,none⟩) (some ⟨σ.next+1,0,none⟩) 4 4 rfl (by simp) (fun d hd=>by simp at hd;rcases hd with rfl|rfl|rfl|rfl<;>assumption) (fun d hd=>by simp at hd;rcases hd with rfl|rfl|rfl|rfl<;>assumption)
  4 fuel 0 f g _ rfl hf (by simp) hw1 (N6 _ _ _ _ _ _ _ rfl rfl rfl rfl a x x b (by simp only[Aa];omega) g1 (st hA) (st hX) (st hX) (st hB)) (N6 _ _ _ _ _ _ _ rfl rfl rfl rfl b y z x (by simp only[Aa];omega) g2 (st hB) (st hY) (st hZ) (st hX)) h13 h14 h15
 have vp:∀ {b:Nat} {cs:List Value},σ.cells b=some cs→(view (σ.push (.cells [a0,a1,a2,a3,x0,x1,x2,x3,x0,x1,x2,x3,i0,i1,i2,i3] TD) none) σ.clock).cells b=some cs:=fun h=>DA hw (Nat.le_refl _) (by rw[Ak,if_neg (by have:=hw.cells h;omega)]) h
 have v4:=vp c4
 have v8:=vp c8
 have v9:=vp c9
 have v11:=vp c11
 unfold AmY
 simp -implicitDefEqProofs only[go_sem,AqG,AlD,AqH,AlE,f3,f4,f8,f9,f11,hv,c3,c4,c8,c9,c11,v4,v8,v9,v11,Nat.le_refl]
 generalize hbf:bigFuel=fuel
 generalize hff:upd _ 15 _=f1
 generalize hgg:upd _ 63 _=g1
 obtain⟨f',g',σ',h⟩:=lp fuel f1 g1 (by rw[←hbf];show 4<1000000000000;omega) (by rw[←hff];simp -implicitDefEqProofs only[go_sem,reduceCtorEq]<;>rfl) (by rw[←hff];simp -implicitDefEqProofs only[go_sem,reduceCtorEq]<;>rfl) (by rw[←hff];simp -implicitDefEqProofs only[go_sem,reduceCtorEq]<;>rfl)
 rw[h]
 simp -implicitDefEqProofs only[go_sem,Aly,XY,Jm]
 exact⟨_,rfl⟩
end
section
open Go Go.Eng
theorem Wb{σ:FState}{b size lam:Nat}{cs:List Value}{el:TypeId}{fz:Option Nat}{ver:Nat}{ro:Bool}(hb:σ.heap.get b=some ⟨.cells cs el,ro,fz,ver⟩)(hv:ver<lam)(hf:fz=none∨fz=some size):capOk size none b (view σ lam)=true:=by
 unfold capOk
 simp only[FT,hb]
 rw[if_pos (by simpa using hv)]
 rcases hf with rfl|rfl
 ·rfl
 ·show Nat.beq size size=true
  rw[Nat.beq_eq]
theorem Wy(P:Program)(t e size b off ln cap:Nat)(σ:FState)(hu:under P t=some (.slice e))(hs:sizeOfT P e=some size)(h1:1≤ln)(hlc:ln≤cap)(hc:capOk size none b σ=true):
  fslice P t (.slice (some ⟨b,off,none⟩) ln cap) (some (.int .i64 1)) none none σ=.val (.slice (some ⟨b,off+1*size,none⟩) (ln-1) (cap-1)) σ:=by
 have hbd:bounds3 ln cap (some (.int .i64 1)) none none=some (1,ln,cap):=by
  show (match (cond (Nat.ble ln cap) (some ln) none) with|none=>none|some h=>(match cond (Nat.ble 1 h) (some 1) none with|none=>none|some l=>some (l,h,cap)))=_
  rw[show Nat.ble ln cap=true by rw[Nat.ble_eq];exact hlc]
  simp only[cond_true]
  rw[show Nat.ble 1 ln=true by rw[Nat.ble_eq];exact h1]
  rfl
 unfold fslice
 simp only[hu,hs]
 unfold fsliceL
 simp only[hbd,hc,cond_true]
def PathO(σ:FState)(v:Value)(path:List Nat):Prop:=
 ∃q c,v=.slice q path.length c∧(path=[]∨∃b off cs fz ver,q=some ⟨b,off,none⟩∧σ.heap.get b=some ⟨.cells cs TI,false,fz,ver⟩∧(fz=none∨fz=some 1)∧path.length≤c∧∀(i j:Nat),path[i]? = some j→cs[off+i]? = some (.int .i64 (.ofNat j)))
theorem PathO.keep{σ σ':FState}{v:Value}{path:List Nat}(h:PathO σ v path)(hw:Wf σ)(hk:∀b,b<σ.next→σ'.heap.get b=σ.heap.get b∨∀cs fz ver,σ.heap.get b≠some ⟨.cells cs TI,false,fz,ver⟩):PathO σ' v path:=by
 obtain⟨q,c,rfl,h|⟨b,off,cs,fz,ver,rfl,hb,hf,hl,hc⟩⟩:=h
 ·exact⟨q,c,rfl,.inl h⟩
 ·rcases hk b (hw _ _ hb).1 with h|h
  ·exact⟨_,c,rfl,.inr ⟨b,off,cs,fz,ver,rfl,h.trans hb,hf,hl,hc⟩⟩
  ·exact absurd hb (h _ _ _)
theorem PathO.ext{σ σ':FState}{v:Value}{path:List Nat}(h:PathO σ v path)(hw:Wf σ)(hx:Ext σ σ'):PathO σ' v path:=h.keep hw fun b hb=>.inl (hx.get b hb)
theorem PathO.tail{σ:FState}{q:Option Addr}{c i:Nat}{path:List Nat}(h:PathO σ (.slice q (i::path).length c) (i::path)):∃b off cs fz ver,q=some ⟨b,off,none⟩∧σ.heap.get b=some ⟨.cells cs TI,false,fz,ver⟩∧(fz=none∨fz=some 1)∧path.length+1≤c∧cs[off]? = some (.int .i64 (.ofNat i))∧PathO σ (.slice (some ⟨b,off+1*1,none⟩) path.length (c-1)) path:=by
 obtain⟨q',c',e,h|⟨b,off,cs,fz,ver,rfl,hb,hf,hl,hc⟩⟩:=h
 ·cases h
 ·cases e
  refine⟨b,off,cs,fz,ver,rfl,hb,hf,by simpa using hl,by simpa using hc 0 i rfl,_,_,rfl,.inr ⟨b,off+1*1,cs,fz,ver,rfl,hb,hf,by simp at hl;omega,fun j k hj=>?_⟩⟩
  have:=hc (j+1) k (by simpa using hj)
  rw[show off+1*1+j=off+(j+1) by omega]
  exact this
end
section
open Go Go.Eng
def putP:List Nat→D→D→D
 | [],x,_=>x
 | i::p,x,.mk k z t ds=>match ds[i]? with
  | some d'=>.mk k z t (ds.set i (putP p x d'))
  | none=>.mk k z t ds
theorem KR:∀(ds:List D) (i:Nat) (d e:D),ds[i]? = some d→D.counts (ds.set i e)+d.count=D.counts ds+e.count
 | [],i,d,e,h=>by simp at h
 | a::ds,0,d,e,h=>by
  simp at h
  subst h
  simp only[List.set_cons_zero,D.counts]
  omega
 | a::ds,i+1,d,e,h=>by
  simp at h
  simp only[List.set_cons_succ,D.counts]
  have:=KR ds i d e h
  omega
theorem Od:∀(p:List Nat) (x d w:D),atP p d=some w→(putP p x d).count+w.count=d.count+x.count
 | [],x,d,w,h=>by rw[atP] at h;cases h;rw[putP];omega
 | i::p,x,.mk k z t ds,w,h=>by
  rw[atP] at h
  simp only[D.parts] at h
  cases hd:ds[i]? with
  | none=>rw[hd] at h;cases h
  | some d'=>
   rw[hd] at h
   rw[putP,hd]
   simp only
   rw[D.count,D.count]
   have:=KR ds i d' (putP p x d') hd
   have:=Od p x d' w h
   omega
structure Okay (m:Nat) (d:D):Prop where
 good:AllGood m (d.pieces [])
 few:d.count≤2000
 small:Small (d.pieces [])
 deep:d.deep≤8
theorem T4(n:Nat){L':Nat}{x:D}(hx:Fine (n+20) L' x):∀(p:List Nat) (L:Nat) (d w:D),Made L d→atP p d=some w→Fine (n+20) (L+L') (putP p x d)
 | [],L,d,w,_,_=>N0 (by omega) hx
 | i::p,L,.mk k z t ds,w,hm,h=>by
  rw[atP] at h
  simp only[D.parts] at h
  cases hd:ds[i]? with
  | none=>rw[hd] at h;cases h
  | some d'=>
   rw[hd] at h
   have hi:=(List.getElem?_eq_some_iff.1 hd).1
   have hmem:=List.mem_of_getElem? hd
   have hm':=Fine.part (m:=0) hm hmem
   have ih:=T4 n hx p (L-1) d' w hm' h
   have hF:=Ev n hm
   rw[putP,hd]
   simp only
   have hL1:1≤L:=by
    cases hm with
    | leaf L d h=>cases h<;>simp at hi
    | pair=>omega
    | vec=>omega
   rw[show L+L'=(L-1+L')+1 by omega]
   refine PA (by rw[List.length_set];exact((hF []).2 ([],.mk k z t ds) (by rw[D.pieces];exact List.mem_cons_self)).2.1) (fun k1 z1 t1 ds1 e=>?_) fun e he=>?_
   ·cases e
    obtain⟨k',hk,hg⟩:=((hF []).2 ([],.mk k z t ds) (by rw[D.pieces];exact List.mem_cons_self)).2.2 k z t ds rfl
    exact⟨k',hk,by rw[List.length_set];exact hg⟩
   ·rcases List.mem_or_eq_of_mem_set he with he|rfl
    ·exact N0 (by omega) (Ev n (Fine.part (m:=0) hm he))
    ·exact ih
end
section
open Go Go.Eng
attribute [local congr] Ac Aj Ai Ad Ah
attribute [-go_sem] List.range_succ
structure PlI (Rin:Nat→Prop) (base bd bx bo bv i:Nat) (k z:Int) (t:ByteArray) (p:Option Addr) (c:Nat) (ds:List D) (x y:D) (xv:List Value) (path:List Nat) (q:Nat) (f:Nat→Value) (σ:FState):Prop where
 f1:PathO σ (f 1) (i::path)
 f3:f 3=.pointer (some ⟨bd,0,none⟩)
 f5:f 5=.pointer (some ⟨bx,0,none⟩)
 f7:f 7=.pointer (some ⟨bo,0,none⟩)
 f8:f 8=.int .i64 (.ofNat q)
 cd:σ.cells bd=some [.int .i64 k,.int .i64 z,.string t,.slice p ds.length c]
 cx:σ.cells bx=some xv
 hE:LaidRE Rin σ p 0 ds
 hx:LaidR Rin σ (.agg xv.toArray) x
 out:∃s ver,σ.heap.get bo=some ⟨.cells [.int .i64 k,.int .i64 0,.string ⟨#[]⟩,s] TD,false,none,ver⟩∧VecG (· = bv) (fun b=>(Rin b∨base≤b)∧b<σ.next∧b≠bo∧b≠bv) σ s ((ds.set i y).take q)
 lo:True∧True∧base≤bo∧bd≠bo∧bx≠bo∧(∀b,Rin b→b≠bv)∧bv≠bo∧bv≠bd∧bv≠bx
 bvT:∃cs ro fz ver,σ.heap.get bv=some ⟨.cells cs TD,ro,fz,ver⟩
 wf:Wf σ
theorem Ls{Rin:Nat→Prop}{base bd bx bo bv i:Nat}{k z:Int}{t:ByteArray}{p:Option Addr}{c:Nat}{ds:List D}{x y:D}{xv:List Value}{path:List Nat}{q:Nat}{f:Nat→Value}{σ σ1:FState}(hR:∀b,Rin b→b<base)(h:PlI Rin base bd bx bo bv i k z t p c ds x y xv path q f σ)(hq:q<ds.length)(hds:ds.length<900)(hX:Ext σ σ1)(hw1:Wf σ1)(l:List Value)(hl:l.length=4)(ho:l.all oneCell=true)(e:D)(he:(ds.set i y)[q]? = some e)(hL:LaidR (fun b=>Rin b∨σ.next≤b) σ1 (.agg l.toArray) e)(hb:base≤σ.next):
  ∃s s' ver τ bv',σ1.heap.get bo=some ⟨.cells [.int .i64 k,.int .i64 0,.string ⟨#[]⟩,s] TD,false,none,ver⟩∧oneCell s=true∧fappend TD 4 56 s (.slice (some ⟨σ1.next,0,none⟩) 1 1) (σ1.push (.cells l TD) none)=.val s' τ∧oneCell s'=true∧notTuple s'=true∧valCells s'=[s']∧
   τ.heap.get bo=some ⟨.cells [.int .i64 k,.int .i64 0,.string ⟨#[]⟩,s] TD,false,none,ver⟩∧Chg (fun b=>b=bv∧s≠.slice none 0 0) σ1 τ∧σ1.next≤bv'∧
   ∀f':Nat→Value,f' 1=f 1→f' 3=f 3→f' 5=f 5→f' 7=f 7→f' 8=.int .i64 (.ofNat (q+1))→PlI Rin base bd bx bo bv' i k z t p c ds x y xv path (q+1) f' (τ.put bo (.cells [.int .i64 k,.int .i64 0,.string ⟨#[]⟩,s'] TD) none):=by
 obtain⟨s,ver,hbo,hV⟩:=h.out
 obtain⟨l1,l2,l3,l4,l5,l6,l7,l8,l9⟩:=h.lo
 have hbon:=(h.wf _ _ hbo).1
 have n1:=hX.next
 have hbo1:σ1.heap.get bo=_:=(hX.get bo hbon).trans hbo
 have hV1:VecG (· = bv) (fun b=>(Rin b∨base≤b)∧b<σ1.next∧b≠bo∧b≠bv) σ1 s ((ds.set i y).take q):=hV.keep (fun b e hb he=>⟨(hX.get b (h.wf _ _ he).1).trans he,hb⟩) fun b cs hb hc=>⟨(hX.cells hb.2.1).trans hc,hb.1,by omega,hb.2.2⟩
 obtain⟨cb,rob,fzb,verb,hbv⟩:=h.bvT
 have hbvn:=(h.wf _ _ hbv).1
 have hV2:VecG (fun b=>b=bv∧s≠.slice none 0 0) (fun b=>(Rin b∨base≤b)∧b<σ1.next∧b≠bo∧b≠bv) σ1 s ((ds.set i y).take q):=by
  rcases hV1 with h|⟨b,cs,ver,h1,h2,h3,h4⟩
  ·exact .inl h
  ·exact .inr ⟨b,cs,ver,h1,h2,⟨h3,by rw[h1];simp⟩,h4⟩
 obtain⟨s',τ,ha,V3,hw3,ch3⟩:=JL (fun b=>b=bv∧s≠.slice none 0 0) (fun b=>(Rin b∨base≤b)∧b<σ1.next∧b≠bo∧b≠bv) (fun b=>σ1.next≤b) σ1 s ((ds.set i y).take q) e l hw1 hl ho (by rw[List.length_take];omega) hV2 (hL.keep fun b cs hb hc=>⟨hc,by
  have:=hw1.cells hc
  rcases hb with hb|hb
  ·have:=hR b hb
   exact⟨.inl hb,by omega,by omega,l6 b hb⟩
  ·exact⟨.inr (by omega),by omega,by omega,by omega⟩⟩) (fun b hb h=>h.2.2.2 hb.1) (fun b hb=>hb)
 have n3:=ch3.next
 have hboτ:τ.heap.get bo=_:=(ch3.get bo (by omega) (fun h=>l7 h.1.symm)).trans hbo1
 rcases V3 with⟨h0,_⟩|⟨bv',cs,ver',hs',hb',hq',hRow⟩
 ·simp at h0
 have V3:VecG (fun b=>σ1.next≤b) (fun b=>(Rin b∨base≤b)∧b<σ1.next∧b≠bo∧b≠bv) τ s' ((ds.set i y).take q++[e]):=.inr ⟨bv',cs,ver',hs',hb',hq',hRow⟩
 have hone:=V3.one
 have hbv'n:=(hw3 _ _ hb').1
 have hgo:∀b,b<σ.next→b≠bv→b≠bo→(τ.put bo (.cells [.int .i64 k,.int .i64 0,.string ⟨#[]⟩,s'] TD) none).heap.get b=σ.heap.get b:=fun b hb h1 h2=>by
  rw[An,if_neg h2,ch3.get b (by omega) (fun h=>h1 h.1),hX.get b hb]
 have kc:∀b cs,σ.cells b=some cs→b≠bv→b≠bo→(τ.put bo (.cells [.int .i64 k,.int .i64 0,.string ⟨#[]⟩,s'] TD) none).cells b=some cs:=fun b cs hc h1 h2=>by
  have:=hgo b (h.wf.cells hc) h1 h2
  rw[Ap] at hc ⊢
  rw[this];exact hc
 refine⟨s,s',ver,τ,bv',hbo1,hV.one.1,ha,hone.1,hone.2.1,hone.2.2,hboτ,ch3,hq',fun f' e1 e3 e5 e7 e8=>?_⟩
 exact {
     f1:=by
      rw[e1]
      exact h.f1.keep h.wf fun b hb=>by
       by_cases h1:b=bv
       ·exact .inr fun cs fz ver hh=>by rw[h1,hbv] at hh;exact absurd (show TD=TI from congrArg (fun e:Option Ent=>match e with|some ⟨.cells _ el,_,_,_⟩=>el|_=>0) hh) (by decide)
       ·by_cases h2:b=bo
        ·exact .inr fun cs fz ver hh=>by rw[h2,hbo] at hh;exact absurd (show TD=TI from congrArg (fun e:Option Ent=>match e with|some ⟨.cells _ el,_,_,_⟩=>el|_=>0) hh) (by decide)
        ·exact .inl (hgo b hb h1 h2)
     f3:=by rw[e3];exact h.f3
     f5:=by rw[e5];exact h.f5
     f7:=by rw[e7];exact h.f7
     f8:=e8
     cd:=kc _ _ h.cd (Ne.symm l8) l4
     cx:=kc _ _ h.cx (Ne.symm l9) l5
     hE:=h.hE.keep fun b cs hb hc=>⟨kc b cs hc (l6 b hb) (by have:=hR b hb;omega),hb⟩
     hx:=h.hx.keep fun b cs hb hc=>⟨kc b cs hc (l6 b hb) (by have:=hR b hb;omega),hb⟩
     out:=⟨s',τ.clock,by rw[An,if_pos rfl],by
      have:(ds.set i y).take (q+1)=(ds.set i y).take q++[e]:=by rw[List.take_add_one,he];rfl
      rw[this]
      exact .inr ⟨bv',cs,ver',hs',by rw[An,if_neg (by omega)];exact hb',rfl,hRow.keep fun b c hb hc=>⟨by rw[Ar,if_neg hb.2.2.1];exact hc,hb.1,by rw[Ao];omega,hb.2.2.1,by omega⟩⟩⟩
     lo:=⟨trivial,trivial,l3,l4,l5,fun b hb=>by have:=hR b hb;omega,by omega,by have:=h.wf.cells h.cd;omega,by have:=h.wf.cells h.cx;omega⟩
     bvT:=⟨cs,false,some 4,ver',by rw[An,if_neg (by omega)];exact hb'⟩
     wf:=hw3.put _ _ _ (by omega) }
theorem ApG(m:Nat){Rin:Nat→Prop}{base bd bx bo br i:Nat}{k z:Int}{t:ByteArray}{p:Option Addr}{c:Nat}{ds:List D}{x d':D}{xv:List Value}{path:List Nat}(hR:∀b,Rin b→b<base)(hds:ds.length<900)(hx4:xv.length=4)(hi:ds[i]? = some d')(hi2:i<100000)(hO:∀(lv:List Value) (pv:Value) (σ':FState),lv.length=4→Wf σ'→base≤σ'.next→LaidR Rin σ' (.agg lv.toArray) d'→PathO σ' pv path→LaidR Rin σ' (.agg xv.toArray) x→
   Gives ((env m).call 85 [.agg lv.toArray,pv,.agg xv.toArray] none σ') σ' fun w σ''=>∃ws:List Value,w=.agg ws.toArray∧ws.length=4∧ws.all oneCell=true∧LaidR (fun b=>Rin b∨σ'.next≤b) σ'' w (putP path x d')):
  ∀(j fuel q bv:Nat) (f g:Nat→Value) (σ:FState),ds.length-q=j→j<fuel→q≤ds.length→base≤σ.next→br<σ.next→(base≤bv∨∀s ver,σ.heap.get bo=some ⟨.cells [.int .i64 k,.int .i64 0,.string ⟨#[]⟩,s] TD,false,none,ver⟩→s=.slice none 0 0)→PlI Rin base bd bx bo bv i k z t p c ds x (putP path x d') xv path q f σ→
   ∃f' g' σ' bv',floop [52] (Us (env m) none 85) fuel (Sl 9 53 f g []) none σ=.done (.exit 0) (Sl 9 53 f' g' []) none σ'∧PlI Rin base bd bx bo bv' i k z t p c ds x (putP path x d') xv path ds.length f' σ'∧f' 6=f 6∧Chg (fun b=>b=bo∨base≤b∧b≠bd∧b≠bx) σ σ'∧(base≤bv'∨∀s ver,σ'.heap.get bo=some ⟨.cells [.int .i64 k,.int .i64 0,.string ⟨#[]⟩,s] TD,false,none,ver⟩→s=.slice none 0 0):=by
 intro j
 induction j with
 | zero=>
  intro fuel q bv f g σ hj hf hq hb hbr hnil h
  obtain⟨fuel,rfl⟩:∃q,fuel=q+1:=⟨fuel-1,by omega⟩
  obtain rfl:q=ds.length:=by omega
  have d0:decide (Int.ofNat ds.length<Int.ofNat ds.length)=false:=by simp
  rw[Am]
  unfold Us
  simp -implicitDefEqProofs only[go_sem,MF,ME,h.f3,h.f8,h.cd,d0]
  exact⟨_,_,_,bv,rfl,h,rfl,Chg.refl _ _,hnil⟩
 | succ j ih=>
  intro fuel q bv f g σ hj hf hq hb hbr hnil h
  obtain⟨fuel,rfl⟩:∃q,fuel=q+1:=⟨fuel-1,by omega⟩
  have hlt:q<ds.length:=by omega
  have d0:decide (Int.ofNat q<Int.ofNat ds.length)=true:=by simp;omega
  have hd:ds[q]? = some ds[q]:=List.getElem?_eq_getElem hlt
  obtain⟨b,off,cs,rfl,hRb,hcs,hle,hL⟩:=LaidRE.get h.hE hd
  rw[Nat.zero_add] at hle hL
  obtain⟨l4,e4,hl4,ho4⟩:=hL.agg
  have e4':(cs.drop (off+q*4)).take 4=l4:=by
   have:=Value.agg.inj e4
   simpa using congrArg Array.toList this
  rw[e4'] at hL
  have tl4:l4.take 4=l4:=List.take_of_length_le (by omega)
  have hp:=h.f1
  obtain⟨qp,cp,ep,hpp⟩:=hp
  have hp:=h.f1
  rw[ep] at hp
  obtain⟨pb,po,pcs,pfz,pver,rfl,hpb,hpf,hpl,hp0,hpt⟩:=hp.tail
  have a1:=D4 q (by omega)
  have hpn:0<(i::path).length:=by simp
  have hpc:=Au hpb
  have hv:=BQ h.wf (Nat.le_refl σ.clock)
  have hle1:path.length+1≤cp:=hpl
  have fs:fslice Tryz.prog 25 (.slice (some ⟨pb,po,none⟩) (path.length+1) cp) (some (.int .i64 1)) none none (view σ σ.clock)=.val (.slice (some ⟨pb,po+1*1,none⟩) path.length (cp-1)) (view σ σ.clock):=Wy Tryz.prog 25 TI 1 pb po (path.length+1) cp (view σ σ.clock) FS Ik (by omega) hle1 (Wb hpb (h.wf _ _ hpb).2 hpf)
  have fi0:findex (none,1) (.slice (some ⟨pb,po,none⟩) (path.length+1) cp) (.int .i64 0) σ=.val (.pointer (some ⟨pb,po,none⟩)) σ:=(NZ pb po (path.length+1) cp 0 1 .i64 σ).trans (by rw[if_pos (by omega)];simp)
  have ep1:f 1=.slice (some ⟨pb,po,none⟩) (path.length+1) cp:=ep
  rw[Am]
  have keepP:kept [52] g=kept [52] g:=rfl
  by_cases hqi:q=i
  ·subst hqi
   have hdd:ds[q]=d':=by rw[hd] at hi;exact Option.some.inj hi
   rw[hdd] at hL
   have eq0:(Int.ofNat q==Int.ofNat q)=true:=by simp
   obtain⟨_,σ2,e2,x2,hw2,ws,rfl,hws,hwo,hLw⟩:=hO l4 _ σ hl4 h.wf hb hL hpt h.hx
   obtain⟨s,s',ver,τ,bv',g1,o1,ha,o2,o3,o4,g2,ch,hbv',hfin⟩:=Ls hR h hlt hds x2 hw2 ws hws hwo (putP path x d') (by rw[List.getElem?_set_self hlt]) hLw hb
   have tws:ws.take 4=ws:=List.take_of_length_le (by omega)
   have txv:xv.take 4=xv:=List.take_of_length_le (by omega)
   have hvo:(view σ2 σ.clock).cells bo=some [.int .i64 k,.int .i64 0,.string ⟨#[]⟩,s]:=by
    obtain⟨s0,ver0,hbo,_⟩:=h.out
    have h1:=(x2.get bo (h.wf _ _ hbo).1).trans hbo
    rw[g1] at h1
    have h2:=DA h.wf (Nat.le_refl σ.clock) (x2.get bo (h.wf _ _ hbo).1) (Au hbo)
    rw[h2]
    have h3:=congrArg (fun e:Option Ent=>match e with|some ⟨.cells c _,_,_,_⟩=>c|_=>[]) h1
    exact congrArg some h3.symm
   unfold Us at ih ⊢
   simp -implicitDefEqProofs only[go_sem,ET,MF,ME,Vq,Sn,Vr,So,Amg,YA,ep1,h.f3,h.f5,h.f7,h.f8,h.cd,h.cx,d0,fi0,hpc,hp0,eq0,hv,hlt,hcs,hle,e4',fs,hx4,txv,e2,hvo,hws,hwo,tws,ha,o2,g2,a1,Ae,Nat.le_refl]
   generalize hff:upd _ 8 _=f2
   generalize hgg:upd _ 22 _=g2'
   obtain⟨l1,l2,l3,l4',l5,l6,l7,l8,l9⟩:=h.lo
   have n3:=ch.next
   obtain⟨f3,g3,σ4,bv4,e4,h4,h6,C4,hn4⟩:=ih fuel (q+1) bv' f2 g2' (τ.put bo (.cells [.int .i64 k,.int .i64 0,.string ⟨#[]⟩,s'] TD) none) (by omega) (by omega) (by omega) (by rw[Ao];have:=x2.next;omega) (by rw[Ao];have:=x2.next;omega) (.inl (by have:=x2.next;omega)) (hfin f2 (by rw[←hff];simp -implicitDefEqProofs only[go_sem,reduceCtorEq]) (by rw[←hff];simp -implicitDefEqProofs only[go_sem,reduceCtorEq]) (by rw[←hff];simp -implicitDefEqProofs only[go_sem,reduceCtorEq]) (by rw[←hff];simp -implicitDefEqProofs only[go_sem,reduceCtorEq]) (by rw[←hff];simp -implicitDefEqProofs only[go_sem,reduceCtorEq]))
   refine⟨f3,g3,σ4,bv4,e4,h4,h6.trans (by rw[←hff];simp -implicitDefEqProofs only[go_sem,reduceCtorEq]),(((x2.chg (fun b=>b=bo∨base≤b∧b≠bd∧b≠bx)).trans ch fun b _ hb=>by
    obtain⟨rfl,hs⟩:=hb
    rcases hnil with h0|h0
    ·exact .inr ⟨h0,l8,l9⟩
    ·exact absurd (h0 s ver ((x2.get bo (h.wf _ _ h.out.choose_spec.choose_spec.1).1).symm.trans g1)) hs).put bo _ _ (.inr (.inl rfl))).trans C4 fun b _ hb=>hb,hn4⟩
  ·have eq0:(Int.ofNat q==Int.ofNat i)=false:=by simp;omega
   obtain⟨s,s',ver,τ,bv',g1,o1,ha,o2,o3,o4,g2,ch,hbv',hfin⟩:=Ls hR h hlt hds (Ext.refl σ) h.wf l4 hl4 ho4 ds[q] (by rw[List.getElem?_set_ne (Ne.symm hqi)];exact hd) (hL.keep fun b cs hb hc=>⟨hc,.inl hb⟩) hb
   have cbo:=Au g1
   unfold Us at ih ⊢
   simp -implicitDefEqProofs only[go_sem,ET,MF,ME,Vq,Sn,Vr,So,Amh,YB,ep1,h.f3,h.f5,h.f7,h.f8,h.cd,d0,fi0,hpc,hp0,eq0,hv,hlt,hcs,hle,e4',cbo,hl4,ho4,tl4,ha,o2,g2,a1,Ae,Nat.le_refl]
   generalize hff:upd _ 8 _=f2
   generalize hgg:upd _ 22 _=g2'
   obtain⟨l1,l2,l3,l4',l5,l6,l7,l8,l9⟩:=h.lo
   have n3:=ch.next
   obtain⟨f3,g3,σ4,bv4,e4,h4,h6,C4,hn4⟩:=ih fuel (q+1) bv' f2 g2' (τ.put bo (.cells [.int .i64 k,.int .i64 0,.string ⟨#[]⟩,s'] TD) none) (by omega) (by omega) (by omega) (by rw[Ao];exact Nat.le_trans hb n3) (by rw[Ao];omega) (.inl (by omega)) (hfin f2 (by rw[←hff];simp -implicitDefEqProofs only[go_sem,reduceCtorEq]) (by rw[←hff];simp -implicitDefEqProofs only[go_sem,reduceCtorEq]) (by rw[←hff];simp -implicitDefEqProofs only[go_sem,reduceCtorEq]) (by rw[←hff];simp -implicitDefEqProofs only[go_sem,reduceCtorEq]) (by rw[←hff];simp -implicitDefEqProofs only[go_sem,reduceCtorEq]))
   refine⟨f3,g3,σ4,bv4,e4,h4,h6.trans (by rw[←hff];simp -implicitDefEqProofs only[go_sem,reduceCtorEq]),((ch.weaken (G:=fun b=>b=bo∨base≤b∧b≠bd∧b≠bx) fun b _ hb=>by
    obtain⟨rfl,hs⟩:=hb
    rcases hnil with h0|h0
    ·exact .inr ⟨h0,l8,l9⟩
    ·exact absurd (h0 s ver g1) hs).put bo _ _ (.inr (.inl rfl))).trans C4 fun b _ hb=>hb,hn4⟩
end
section
open Go Go.Eng
attribute [local congr] Ac Aj Ai Ad Ah
attribute [-go_sem] List.range_succ
def PlR(Rin:Nat→Prop)(base:Nat)(y:D)(w:Value)(σ:FState):Prop:=∃ws:List Value,w=.agg ws.toArray∧ws.length=4∧ws.all oneCell=true∧LaidR (fun b=>Rin b∨base≤b) σ w y
theorem AcD(n:Nat)(Rin:Nat→Prop)(x:D)(xv:List Value)(hx4:xv.length=4)(hxo:xv.all oneCell=true):∀(path:List Nat) (d w0:D) (pd:List Nat) (lv:List Value) (pv:Value) (σ:FState) (base:Nat),lv.length=4→Wf σ→(∀b,Rin b→b<base)→base≤σ.next→LaidR Rin σ (.agg lv.toArray) d→PathO σ pv path→LaidR Rin σ (.agg xv.toArray) x→
  atP path d=some w0→(∀y∈d.pieces pd,y.2.parts.length<900∧WholeD y.2)→
  Gives ((env (n+1+path.length)).call 85 [.agg lv.toArray,pv,.agg xv.toArray] none σ) σ fun w σ'=>PlR Rin σ.next (putP path x d) w σ':=by
 intro path
 induction path with
 | nil=>
  intro d w0 pd lv pv σ base h4 hw hR hb hL hP hLx hat hd
  obtain⟨q,c,rfl,_⟩:=hP
  rw[show n+1+([]:List Nat).length=n+1 from rfl,Ag _ 85 _ _ rfl,Aac _ _ _ _ (by simp),Af]
  unfold Abh
  have x1:Ext σ (((σ.push (.cells lv TD) none).push (.cells xv TD) none).push (.cells [.int .i64 0,.int .i64 0,.string ⟨#[]⟩,.slice none 0 0] TD) none):=(((Ext.refl _).push _ _).push _ _).push _ _
  have hw1:=((hw.push (.cells lv TD) none).push (.cells xv TD) none).push (.cells [.int .i64 0,.int .i64 0,.string ⟨#[]⟩,.slice none 0 0] TD) none
  have z0:(Int.ofNat 0==0)=true:=rfl
  have txv:xv.take 4=xv:=List.take_of_length_le (by omega)
  simp -implicitDefEqProofs only[go_sem,Aw,Vo,Sj,Vp,Sm,Amd,Yx,z0,hx4,hxo,txv,Cf,AX,AJ,AI,BU,Nat.le_refl]
  refine⟨_,_,rfl,x1.put _ _ _ (by omega),hw1.put _ _ _ (by simp only[Aa];omega),xv,by simp[txv],hx4,hxo,?_⟩
  show LaidR _ _ _ x
  exact hLx.keep fun b cs hb' hc=>⟨(((x1.put (σ.next+2) (.cells xv TD) none (by omega)).cells (hw.cells hc))).trans hc,.inl hb'⟩
 | cons i path ih=>
  intro d w0 pd lv pv σ base h4 hw hR hb hL hP hLx hat hd
  obtain⟨k,z,t,ds⟩:=d
  have hd0:=hd _ (by rw[D.pieces_eq];exact List.mem_cons_self)
  have hds:ds.length<900:=hd0.1
  rw[atP] at hat
  simp only[D.parts] at hat
  cases hdi:ds[i]? with
  | none=>rw[hdi] at hat;cases hat
  | some d'=>
  rw[hdi] at hat
  have hil:=(List.getElem?_eq_some_iff.1 hdi).1
  have hzt:z=0∧t=⟨#[]⟩:=by
   have h:=hd0.2
   show z=0∧t=⟨#[]⟩
   have h':Whole k z t ds.length:=h
   generalize hln:ds.length=ln at h'
   cases h' with
   | nil=>omega
   | bool z h=>omega
   | num z h=>omega
   | sym t h=>omega
   | str t h=>omega
   | pair=>exact⟨rfl,rfl⟩
   | vec l=>exact⟨rfl,rfl⟩
  obtain⟨rfl,rfl⟩:=hzt
  have hput:putP (i::path) x (.mk k 0 ⟨#[]⟩ ds)=.mk k 0 ⟨#[]⟩ (ds.set i (putP path x d')):=by rw[putP,hdi]
  have hL0:=hL
  obtain⟨p,c,hlv,hE⟩:=hL
  have hlv':lv=[.int .i64 k,.int .i64 0,.string ⟨#[]⟩,.slice p ds.length c]:=by
   have:=Value.agg.inj hlv
   simpa using congrArg Array.toList this
  subst hlv'
  obtain⟨qp,cp,rfl,hpo⟩:=id hP
  obtain⟨M,hM⟩:∃M,n+1+path.length=M:=⟨_,rfl⟩
  rw[hM] at ih
  rw[show n+1+(i::path).length=M+1 by rw[List.length_cons];omega,Ag _ 85 _ _ rfl,Aac _ _ _ _ (by simp),Af]
  unfold Abh
  have z0:(Int.ofNat (path.length+1)==0)=false:=by simp;omega
  have x1:Ext σ (((((σ.push (.cells [.int .i64 k,.int .i64 0,.string ⟨#[]⟩,.slice p ds.length c] TD) none).push (.cells xv TD) none).push (.cells [.int .i64 0,.int .i64 0,.string ⟨#[]⟩,.slice none 0 0] TD) none).push (.cells [.int .i64 0,.int .i64 0,.string ⟨#[]⟩,.slice none 0 0] TD) none).put (σ.next+3) (.cells [.int .i64 k,.int .i64 0,.string ⟨#[]⟩,.slice none 0 0] TD) none):=(((((Ext.refl _).push _ _).push _ _).push _ _).push _ _).put _ _ _ (by omega)
  have hw1:=((((hw.push (.cells [.int .i64 k,.int .i64 0,.string ⟨#[]⟩,.slice p ds.length c] TD) none).push (.cells xv TD) none).push (.cells [.int .i64 0,.int .i64 0,.string ⟨#[]⟩,.slice none 0 0] TD) none).push (.cells [.int .i64 0,.int .i64 0,.string ⟨#[]⟩,.slice none 0 0] TD) none).put (σ.next+3) (.cells [.int .i64 k,.int .i64 0,.string ⟨#[]⟩,.slice none 0 0] TD) none (by simp only[Aa];omega)
  have hkeep:keepOf nls 85=[52]:=by kernel_rfl
  simp -implicitDefEqProofs only[go_sem,Aw,Vo,Sj,Vp,Sm,Ame,Yy,Amf,Yz,z0,Ae,hkeep]
  have g0:(((((σ.push (.cells [.int .i64 k,.int .i64 0,.string ⟨#[]⟩,.slice p ds.length c] TD) none).push (.cells xv TD) none).push (.cells [.int .i64 0,.int .i64 0,.string ⟨#[]⟩,.slice none 0 0] TD) none).push (.cells [.int .i64 0,.int .i64 0,.string ⟨#[]⟩,.slice none 0 0] TD) none).put (σ.next+3) (.cells [.int .i64 k,.int .i64 0,.string ⟨#[]⟩,.slice none 0 0] TD) none).cells σ.next=some [.int .i64 k,.int .i64 0,.string ⟨#[]⟩,.slice p ds.length c]:=by
   rw[Ar,if_neg (by omega),Ab,if_neg (by simp only[Aa];omega),Ab,if_neg (by simp only[Aa];omega),Ab,if_neg (by rw[Aa];omega),Ab,if_pos rfl];rfl
  have g1:(((((σ.push (.cells [.int .i64 k,.int .i64 0,.string ⟨#[]⟩,.slice p ds.length c] TD) none).push (.cells xv TD) none).push (.cells [.int .i64 0,.int .i64 0,.string ⟨#[]⟩,.slice none 0 0] TD) none).push (.cells [.int .i64 0,.int .i64 0,.string ⟨#[]⟩,.slice none 0 0] TD) none).put (σ.next+3) (.cells [.int .i64 k,.int .i64 0,.string ⟨#[]⟩,.slice none 0 0] TD) none).cells (σ.next+1)=some xv:=by
   rw[Ar,if_neg (by omega),Ab,if_neg (by simp only[Aa];omega),Ab,if_neg (by simp only[Aa];omega),Ab,if_pos (by rw[Aa])];rfl
  have g2:∃ver,(((((σ.push (.cells [.int .i64 k,.int .i64 0,.string ⟨#[]⟩,.slice p ds.length c] TD) none).push (.cells xv TD) none).push (.cells [.int .i64 0,.int .i64 0,.string ⟨#[]⟩,.slice none 0 0] TD) none).push (.cells [.int .i64 0,.int .i64 0,.string ⟨#[]⟩,.slice none 0 0] TD) none).put (σ.next+3) (.cells [.int .i64 k,.int .i64 0,.string ⟨#[]⟩,.slice none 0 0] TD) none).heap.get (σ.next+2)=some ⟨.cells [.int .i64 0,.int .i64 0,.string ⟨#[]⟩,.slice none 0 0] TD,false,none,ver⟩:=
   ⟨_,by rw[An,if_neg (by omega),Ak,if_neg (by simp only[Aa];omega),Ak,if_pos (by simp only[Aa])]⟩
  have g3:∃ver,(((((σ.push (.cells [.int .i64 k,.int .i64 0,.string ⟨#[]⟩,.slice p ds.length c] TD) none).push (.cells xv TD) none).push (.cells [.int .i64 0,.int .i64 0,.string ⟨#[]⟩,.slice none 0 0] TD) none).push (.cells [.int .i64 0,.int .i64 0,.string ⟨#[]⟩,.slice none 0 0] TD) none).put (σ.next+3) (.cells [.int .i64 k,.int .i64 0,.string ⟨#[]⟩,.slice none 0 0] TD) none).heap.get (σ.next+3)=some ⟨.cells [.int .i64 k,.int .i64 0,.string ⟨#[]⟩,.slice none 0 0] TD,false,none,ver⟩:=
   ⟨_,by rw[An,if_pos rfl]⟩
  have n1:(((((σ.push (.cells [.int .i64 k,.int .i64 0,.string ⟨#[]⟩,.slice p ds.length c] TD) none).push (.cells xv TD) none).push (.cells [.int .i64 0,.int .i64 0,.string ⟨#[]⟩,.slice none 0 0] TD) none).push (.cells [.int .i64 0,.int .i64 0,.string ⟨#[]⟩,.slice none 0 0] TD) none).put (σ.next+3) (.cells [.int .i64 k,.int .i64 0,.string ⟨#[]⟩,.slice none 0 0] TD) none).next=σ.next+4:=rfl
  generalize FState.put _ (σ.next+3) _ _=σ1 at x1 hw1 g0 g1 g2 g3 n1 ⊢
  obtain⟨v2,g2⟩:=g2
  obtain⟨v3,g3⟩:=g3
  generalize hbf:bigFuel=fuel
  generalize hff:upd _ 8 _=f1
  generalize hgg:upd _ 15 _=gg
  have q6:f1 6=.pointer (some ⟨σ.next+2,0,none⟩):=by rw[←hff];simp -implicitDefEqProofs only[go_sem,reduceCtorEq]
  obtain⟨f2,g2',σ2,bv2,e2,H,h6,C2,hnil⟩:=ApG M (Rin:=Rin) (base:=σ.next+3) (bd:=σ.next) (bx:=σ.next+1) (bo:=σ.next+3) (br:=σ.next+2) (i:=i) (k:=k) (z:=0) (t:=⟨#[]⟩) (p:=p) (c:=c) (ds:=ds) (x:=x) (d':=d') (xv:=xv) (path:=path) (fun b hb'=>by have:=hR b hb';omega) hds hx4 hdi (by omega)
   (fun lv pv σ' h4 hw' hb' hL' hP' hLx'=>ih d' w0 (pd++[0+i]) lv pv σ' (σ.next+3) h4 hw' (fun b hb''=>by have:=hR b hb'';omega) hb' hL' hP' hLx' hat (fun y hy=>hd y (by rw[D.pieces_eq];exact List.mem_cons_of_mem _ (CK pd ds 0 i d' hdi y hy))))
   ds.length fuel 0 (σ.next+2) f1 gg σ1 (by omega) (by rw[←hbf];show ds.length<1000000000000;omega) (by omega) (by omega) (by omega) (.inr fun s ver hs=>by
    rw[g3] at hs
    have:=congrArg (fun e:Option Ent=>match e with|some ⟨.cells [_,_,_,s] _,_,_,_⟩=>s|_=>.nilIface) hs
    exact this.symm)
   {f1:=by
     have:f1 1=.slice qp (path.length+1) cp:=by rw[←hff];simp -implicitDefEqProofs only[go_sem,reduceCtorEq]
     rw[this]
     exact hP.ext hw x1
    f3:=by rw[←hff];simp -implicitDefEqProofs only[go_sem,reduceCtorEq]
    f5:=by rw[←hff];simp -implicitDefEqProofs only[go_sem,reduceCtorEq]
    f7:=by rw[←hff];simp -implicitDefEqProofs only[go_sem,reduceCtorEq]
    f8:=by rw[←hff];simp -implicitDefEqProofs only[go_sem,reduceCtorEq]<;>rfl
    cd:=g0
    cx:=g1
    hE:=hE.keep fun b cs hb' hc=>⟨(x1.cells (hw.cells hc)).trans hc,hb'⟩
    hx:=hLx.keep fun b cs hb' hc=>⟨(x1.cells (hw.cells hc)).trans hc,hb'⟩
    out:=⟨_,v3,g3,.inl ⟨by simp,rfl⟩⟩
    lo:=⟨trivial,trivial,by omega,by omega,by omega,fun b hb'=>by have:=hR b hb';omega,by omega,by omega,by omega⟩
    bvT:=⟨_,_,_,_,g2⟩
    wf:=hw1 }
  rw[e2]
  obtain⟨s,ver,hbo,hV⟩:=H.out
  have hlen:(ds.set i (putP path x d')).length=ds.length:=List.length_set
  rw[List.take_of_length_le (by omega)] at hV
  obtain⟨p2,hs2,hE2⟩:=hV.slice
  rw[hlen] at hs2
  subst hs2
  have cbo:=Au hbo
  have gbr:σ2.heap.get (σ.next+2)=some ⟨.cells [.int .i64 0,.int .i64 0,.string ⟨#[]⟩,.slice none 0 0] TD,false,none,v2⟩:=(C2.get _ (by omega) (by omega)).trans g2
  have n2:=C2.next
  simp -implicitDefEqProofs only[go_sem,Aw,Aek,Sk,h6,q6,H.f7,cbo,gbr,Cf,AX,AJ,AI,BU]
  have x2:Ext σ σ2:=((x1.chg (fun b=>σ.next≤b)).trans C2 fun b hb' h=>by omega).ext fun b hb' h=>by omega
  refine⟨_,_,rfl,x2.put _ _ _ (by omega),H.wf.put _ _ _ (by omega),[.int .i64 k,.int .i64 0,.string ⟨#[]⟩,.slice p2 ds.length ds.length],rfl,rfl,rfl,?_⟩
  rw[hput]
  have hbv:σ.next+3≤bv2:=by
   rcases hnil with h|h
   ·exact h
   ·have:=h _ _ hbo
    simp only[Value.slice.injEq] at this
    omega
  refine⟨p2,ds.length,by rw[hlen],hE2.keep fun b cs hb' hc=>⟨?_,?_⟩⟩
  ·rw[Ar,if_neg (fun hh=>by
    rcases hb' with h|h
    ·omega
    ·rcases h.1 with h|h
     ·have:=hR b h
      omega
     ·omega)];exact hc
  ·rcases hb' with h|h
   ·exact .inr (by omega)
   ·rcases h.1 with h|h
    ·exact .inl h
    ·exact .inr (by omega)
end
section
open Go Go.Eng
attribute [local congr] Ac Aj Ai Ad Ah
attribute [-go_sem] List.range_succ
theorem Aev(P N n1:Nat)(hP:P=n1+25+N)(d x w0:D)(path:List Nat)(hpl:path.length+1≤P)(hpl2:path.length<100000)(lv xv:List Value)(pv:Value)(h4:lv.length=4)(hx4:xv.length=4)(hxo:xv.all oneCell=true)(Q:Nat→Prop)(σ:FState)(hw:Wf σ)(hL:LaidR (fun b=>b<σ.next) σ (.agg lv.toArray) d)(hLx:LaidR (fun b=>b<σ.next) σ (.agg xv.toArray) x)(hpo:PathO σ pv path)(hpv:PathV Q σ pv path)(hat:atP path d=some w0)(hd:RefOK N d)(hx:RefOK N x)(hu:RefOK N (putP path x d))(hwh:∀y∈d.pieces [],y.2.parts.length<900∧WholeD y.2):
  Gives ((env (P+1)).call 23 [.agg lv.toArray,pv,.agg xv.toArray] none σ) σ fun r σ'=>∃ws:List Value,r=.tuple #[.agg ws.toArray,.int .i64 0]∧ws.length=4∧ws.all oneCell=true∧LaidR (fun b=>b<σ'.next) σ' (.agg ws.toArray) (putP path x d):=by
 have ht:lv.take 4=lv:=List.take_of_length_le (by omega)
 have htx:xv.take 4=xv:=List.take_of_length_le (by omega)
 rw[Ag _ 23 _ _ rfl,AoM _ _ _ _ (by simp),Af]
 unfold Am4
 have x1:Ext σ (((σ.push (.cells lv TD) none).push (.cells xv TD) none).push (.cells [.int .i64 0,.int .i64 0,.string ⟨#[]⟩,.slice none 0 0] TD) none):=(((Ext.refl _).push _ _).push _ _).push _ _
 have hw1:=((hw.push (.cells lv TD) none).push (.cells xv TD) none).push (.cells [.int .i64 0,.int .i64 0,.string ⟨#[]⟩,.slice none 0 0] TD) none
 have c1:(((σ.push (.cells lv TD) none).push (.cells xv TD) none).push (.cells [.int .i64 0,.int .i64 0,.string ⟨#[]⟩,.slice none 0 0] TD) none).cells σ.next=some lv:=by rw[Ab,if_neg (by simp only[Aa];omega),Ab,if_neg (by rw[Aa];omega),Ab,if_pos rfl];rfl
 have c2:(((σ.push (.cells lv TD) none).push (.cells xv TD) none).push (.cells [.int .i64 0,.int .i64 0,.string ⟨#[]⟩,.slice none 0 0] TD) none).cells (σ.next+1)=some xv:=by rw[Ab,if_neg (by simp only[Aa];omega),Ab,if_pos (by rw[Aa])];rfl
 have g3:(((σ.push (.cells lv TD) none).push (.cells xv TD) none).push (.cells [.int .i64 0,.int .i64 0,.string ⟨#[]⟩,.slice none 0 0] TD) none).heap.get (σ.next+2)=some ⟨.cells [.int .i64 0,.int .i64 0,.string ⟨#[]⟩,.slice none 0 0] TD,false,none,σ.clock+2⟩:=by rw[Ak,if_pos (by simp only[Aa])];rfl
 have n1':(((σ.push (.cells lv TD) none).push (.cells xv TD) none).push (.cells [.int .i64 0,.int .i64 0,.string ⟨#[]⟩,.slice none 0 0] TD) none).next=σ.next+3:=rfl
 simp -implicitDefEqProofs only[go_sem,Ak3,Xu]
 generalize hff:upd _ 7 _=f1
 generalize FState.push _ _ _=σ1 at x1 hw1 c1 c2 g3 n1' ⊢
 have q1:f1 1=pv:=by rw[←hff];simp -implicitDefEqProofs only[go_sem,reduceCtorEq]
 have q3:f1 3=.pointer (some ⟨σ.next,0,none⟩):=by rw[←hff];simp -implicitDefEqProofs only[go_sem,reduceCtorEq]
 have q5:f1 5=.pointer (some ⟨σ.next+1,0,none⟩):=by rw[←hff];simp -implicitDefEqProofs only[go_sem,reduceCtorEq]
 have q6:f1 6=.pointer (some ⟨σ.next+2,0,none⟩):=by rw[←hff];simp -implicitDefEqProofs only[go_sem,reduceCtorEq]
 clear hff
 have kL:∀ {τ:FState},Ext σ τ→LaidR (fun b=>b<σ.next) τ (.agg lv.toArray) d:=fun hX=>hL.keep fun b cs hb hc=>⟨(hX.cells (hw.cells hc)).trans hc,hb⟩
 have kX:∀ {τ:FState},Ext σ τ→LaidR (fun b=>b<σ.next) τ (.agg xv.toArray) x:=fun hX=>hLx.keep fun b cs hb hc=>⟨(hX.cells (hw.cells hc)).trans hc,hb⟩
 obtain⟨_,σ2,e2,x2,hw2,rfl⟩:=Av9 (n1+22+N) n1 N rfl (fun b=>b<σ.next) d x lv xv h4 hx4 σ1 hw1 (kL x1) (kX x1) hd hx
 rw[show n1+22+N+3=P by omega] at e2
 have X2:=x1.trans x2
 have c3:=(x2.cells (hw1.cells c1)).trans c1
 have z0:((0:Int)==0)=true:=rfl
 obtain⟨m,hm⟩:∃m,P=m+2:=⟨P-2,by omega⟩
 obtain⟨_,σ3,e3,x3,hw3,u,rfl,hLu⟩:=ApF m hw2 (kL X2) (hpv.keep (Q':=fun _=>True) fun b c _ hc=>⟨(X2.cells (hw.cells hc)).trans hc,trivial⟩) hpl2 (by have:=hd.count;omega) hat
 rw[←hm] at e3
 obtain⟨u4,rfl,hu4,huo⟩:=hLu.agg
 have X3:=X2.trans x3
 have tu:u4.take 4=u4:=List.take_of_length_le (by omega)
 have n3:=X3.next
 have n12:=(x2.trans x3).next
 simp -implicitDefEqProofs only[go_sem,Aw,Ak4,Xv,Ak5,Xw,Ak6,Xx,Ak7,Xy,q1,q3,q5,c1,c2,h4,hx4,ht,htx,e2,z0,c3,e3,hu4,huo,tu,Ae,Nat.le_refl]
 generalize hff:upd _ 10 _=f2
 generalize hgg:upd _ 25 _=g2
 have r1:f2 1=pv:=by rw[←hff];simp -implicitDefEqProofs only[go_sem,reduceCtorEq,q1]
 have r3:f2 3=.pointer (some ⟨σ.next,0,none⟩):=by rw[←hff];simp -implicitDefEqProofs only[go_sem,reduceCtorEq,q3]
 have r5:f2 5=.pointer (some ⟨σ.next+1,0,none⟩):=by rw[←hff];simp -implicitDefEqProofs only[go_sem,reduceCtorEq,q5]
 have r6:f2 6=.pointer (some ⟨σ.next+2,0,none⟩):=by rw[←hff];simp -implicitDefEqProofs only[go_sem,reduceCtorEq,q6]
 clear hff hgg
 have x4:Ext σ3 ((σ3.push (.cells [.int .i64 0,.int .i64 0,.string ⟨#[]⟩,.slice none 0 0] TD) none).put σ3.next (.cells u4 TD) none):=((Ext.refl _).push _ _).put _ _ _ (Nat.le_refl _)
 have hw4:=(hw3.push (.cells [.int .i64 0,.int .i64 0,.string ⟨#[]⟩,.slice none 0 0] TD) none).put σ3.next (.cells u4 TD) none (Nat.lt_succ_self _)
 generalize FState.put _ σ3.next _ _=σ4 at x4 hw4 ⊢
 have X4:=X3.trans x4
 have y4:=(x2.trans x3).trans x4
 have d1:=(y4.cells (hw1.cells c1)).trans c1
 have d2:=(y4.cells (hw1.cells c2)).trans c2
 have d3:=(y4.get _ (hw1 _ _ g3).1).trans g3
 obtain⟨n2,hn2⟩:∃n2,P=n2+1+path.length:=⟨P-1-path.length,by omega⟩
 obtain⟨_,σ5,e5,x5,hw5,ws,rfl,hws,hwo,hLw⟩:=AcD n2 (fun b=>b<σ.next) x xv hx4 hxo path d w0 [] lv pv σ4 σ.next h4 hw4 (fun b hb=>hb) (by have:=X4.next;omega) (kL X4) (hpo.ext hw X4) (kX X4) hat hwh
 rw[←hn2] at e5
 obtain⟨M',hM'⟩:∃M',P=M'+2:=⟨P-2,by omega⟩
 have hLw':LaidR (fun b=>b<σ5.next) σ5 (.agg ws.toArray) (putP path x d):=hLw.keep fun b cs hb hc=>⟨hc,hw5.cells hc⟩
 obtain⟨_,σ6,e6,x6,hw6,rfl⟩:=Aga _ (putP path x d) ws hws σ5 hw5 hLw' M' (M'-N) N (by omega) hu hwo
 rw[←hM'] at e6
 have tws:ws.take 4=ws:=List.take_of_length_le (by omega)
 have d6:=((x5.trans x6).get _ (hw4 _ _ d3).1).trans d3
 have l6:=(hw6 _ _ d6).1
 simp -implicitDefEqProofs only[go_sem,Aw,Ak8,Xz,r1,r3,r5,r6,d1,d2,h4,hx4,ht,htx,e5,e6,d6,hws,hwo,tws,Cf,Fq,AX,AJ,AI,BU,Bt,Nat.le_refl]
 refine⟨_,_,rfl,((X4.trans x5).trans x6).put _ _ _ (by omega),hw6.put _ _ _ l6,ws,rfl,hws,hwo,?_⟩
 have n4:=x4.next
 have n34:=X4.next
 have n12':=y4.next
 exact hLw.keep fun b cs hb hc=>⟨by
  rw[Ar,if_neg (by rcases hb with h|h<;>omega)]
  exact(x6.cells (hw5.cells hc)).trans hc,by rw[Ao];have:=hw5.cells hc;have:=x6.next;omega⟩
end
section
open Go Go.Eng
def AllWhole(d:D):Prop:=∀p,∀y∈d.pieces p,y.2.parts.length≤3∧WholeD y.2
theorem JB(p:List Nat):∀(ds:List D) (i:Nat) (y:List Nat×D),y∈D.piecesL p i ds→∃(j:Nat) (d':D),ds[j]? = some d'∧y∈d'.pieces (p++[i+j])
 | [],i,y,h=>by simp[D.piecesL] at h
 | d::ds,i,y,h=>by
  rw[D.piecesL,List.mem_append] at h
  rcases h with h|h
  ·exact⟨0,d,rfl,h⟩
  ·obtain⟨j,d',h1,h2⟩:=JB p ds (i+1) y h
   exact⟨j+1,d',h1,by rw[show i+(j+1)=i+1+j by omega];exact h2⟩
theorem Ct{k z:Int}{t:ByteArray}{ds:List D}(h1:ds.length≤3)(h2:Whole k z t ds.length)(h:∀d∈ds,AllWhole d):AllWhole (.mk k z t ds):=fun p y hy=>by
 rw[D.pieces_eq] at hy
 rcases List.mem_cons.1 hy with rfl|hy
 ·exact⟨h1,h2⟩
 ·obtain⟨j,d',hj,hm⟩:=JB p ds 0 y hy
  exact h d' (List.mem_of_getElem? hj) _ y hm
theorem AllWhole.head{k z:Int}{t:ByteArray}{ds:List D}(h:AllWhole (.mk k z t ds)):ds.length≤3∧Whole k z t ds.length:=by
 have h1:=h [] ([],.mk k z t ds) (by rw[D.pieces_eq];exact List.mem_cons_self)
 exact h1
theorem EY{L:Nat}{d:D}(h:Made L d):AllWhole d:=by
 induction h with
 | leaf L d h=>
  cases h with
  | nil=>exact Ct (by simp) .nil (by simp)
  | bool b=>exact Ct (by simp) (.bool _ (by cases b<;>simp)) (by simp)
  | num z h=>exact Ct (by simp) (.num _ (by omega)) (by simp)
  | sym t h=>exact Ct (by simp) (.sym _ h) (by simp)
  | str t h=>exact Ct (by simp) (.str _ h) (by simp)
 | pair L a b ha hb iha ihb=>exact Ct (by simp) .pair (fun d hd=>by
   simp only[List.mem_cons,List.not_mem_nil,or_false] at hd
   rcases hd with rfl|rfl
   ·exact iha
   ·exact ihb)
 | vec L l hl h ih=>exact Ct hl (.vec _) ih
theorem AllWhole.part{k z:Int}{t:ByteArray}{ds:List D}(h:AllWhole (.mk k z t ds)){i:Nat}{d:D}(hd:ds[i]? = some d):∀y∈d.pieces ([]++[0+i]),y.2.parts.length≤3∧WholeD y.2:=fun y hy=>
 h [] y (by rw[D.pieces_eq];exact List.mem_cons_of_mem _ (CK [] ds 0 i d hd y hy))
theorem Oe{x:D}(hx:AllWhole x):∀(p:List Nat) (L:Nat) (d w:D),Made L d→atP p d=some w→AllWhole (putP p x d)
 | [],L,d,w,_,_=>hx
 | i::p,L,.mk k z t ds,w,hm,h=>by
  rw[atP] at h
  simp only[D.parts] at h
  cases hd:ds[i]? with
  | none=>rw[hd] at h;cases h
  | some d'=>
   rw[hd] at h
   have hmem:=List.mem_of_getElem? hd
   have ih:=Oe hx p (L-1) d' w (Fine.part (m:=0) hm hmem) h
   have hW:=(EY hm).head
   rw[putP,hd]
   simp only
   refine Ct (by rw[List.length_set];exact hW.1) (by rw[List.length_set];exact hW.2) fun e he=>?_
   rcases List.mem_or_eq_of_mem_set he with he|rfl
   ·exact EY (Fine.part (m:=0) hm he)
   ·exact ih
theorem AllWhole.ref{N:Nat}{d:D}(h:AllWhole d)(h1:d.deep≤N)(h2:d.count≤2000):RefOK N d:=⟨h1,fun x hx=>⟨by have:=(h [] x hx).1;omega,(h [] x hx).2⟩,h2⟩
end
section
open Go Go.Eng
attribute [local congr] Ac Aj Ai Ad Ah
attribute [-go_sem] List.range_succ
def CapV(v:Value):Prop:=∃a n c,v=.slice a n c∧n≤c
def FulB(σ:FState)(b:Nat):Prop:=∃vs fz ver,σ.heap.get b=some ⟨.cells vs TI,false,fz,ver⟩∧(fz=none∨fz=some 1)
theorem FulB.keep{σ σ':FState}{b:Nat}(h:FulB σ b)(hb:σ'.heap.get b=σ.heap.get b):FulB σ' b:=by
 obtain⟨vs,fz,ver,h1,h2⟩:=h
 exact⟨vs,fz,ver,hb.trans h1,h2⟩
theorem Af0{σ:FState}{b:Nat}{s:Value}{vs:List Value}(h:Ful TI σ b s vs):FulB σ b:=by
 obtain⟨fz,ver,h1,h2,h3⟩:=h
 exact⟨vs,fz,ver,h2,h3⟩
structure HeadPb (bd bo base:Nat) (R:Nat→Prop) (k z:Int) (t:ByteArray) (q:Option Addr) (c:Nat) (ds:List D) (at':List Nat) (atv:Value) (us:List Value) (ps:List (List Nat)) (σ0:FState) (i:Nat) (f:Nat→Value) (σ:FState):Prop where
 f1:f 1=atv
 f2:f 2=.pointer (some ⟨bd,0,none⟩)
 f5:Ful TP σ bo (f 5) us
 f6:f 6=.int .i64 (.ofNat i)
 cd:σ.cells bd=some [.int .i64 k,.int .i64 z,.string t,.slice q ds.length c]
 lay:LaidRE R σ q 0 ds
 low:∀b,R b→b<base
 atp:PathV (· < base) σ atv at'
 hbd:base≤bd∧bd≠bo
 hbo:base≤bo
 lst:PathsL (fun b=>base≤b∧b≠bo∧FulB σ b) σ us ps
 caps:∀u,u∈us→CapV u
 wf:Wf σ
 ext:Ext σ0 σ
 le:i≤ds.length
 few:ds.length<10000
def PathsBt(m:Nat)(d:D):Prop:=∀(at':List Nat) (v atv:Value) (R Q:Nat→Prop) (σ:FState),Wf σ→LaidR R σ v d→PathV Q σ atv at'→at'.length+d.deep<1000→(d.pieces at').length<10000→
 Gives ((env m).call 22 [v,atv] none σ) σ fun w σ'=>∃b us,σ.next≤b∧Ful TP σ' b w us∧PathsL (fun b=>σ.next≤b∧FulB σ' b) σ' us ((d.pieces at').map (·.1))∧∀u,u∈us→CapV u
theorem PX(m:Nat){bd bo base:Nat}{R:Nat→Prop}{k z:Int}{t:ByteArray}{q:Option Addr}{c:Nat}{ds:List D}{at':List Nat}{atv:Value}{us:List Value}{ps:List (List Nat)}{σ0:FState}{i:Nat}{f:Nat→Value}{σ:FState}(d:D)(hP:PathsBt m d)(h:HeadPb bd bo base R k z t q c ds at' atv us ps σ0 i f σ)(hb0:σ0.next=base)(hd:ds[i]? = some d)(hlen:at'.length+1+d.deep<1000)(hcount:us.length+(d.pieces (at'++[i])).length<10000)(g:Nat→Value):
  ∃f' g' σ' bo' us',Ur (env m) none 22 (Sl 7 33 f g []) none σ=.done .normal (Sl 7 33 f' g' []) none σ'∧HeadPb bd bo' base R k z t q c ds at' atv us' (ps++(d.pieces (at'++[i])).map (·.1)) σ0 (i+1) f' σ':=by
 have hi:i<ds.length:=(List.getElem?_eq_some_iff.1 hd).1
 have d1:decide (Int.ofNat i<Int.ofNat ds.length)=true:=by simp;omega
 obtain⟨b,off,cs,rfl,hRb,hcs,hle,hL⟩:=LaidRE.get h.lay hd
 rw[Nat.zero_add] at hle hL
 have w3:=D4 i (by have:=h.few;omega)
 have l4:((cs.drop (off+i*4)).take 4).length=4:=by rw[List.length_take,List.length_drop];omega
 have hbase:base≤σ.next:=by have:=h.ext.next;omega
 have F1:Ful TI (σ.push (.cells [] TI) none) σ.next (.slice (some ⟨σ.next,0,none⟩) 0 0) []:=Ful.push TI σ []
 have hw1:=h.wf.push (.cells [] TI) none
 have a1:PathV (· < base) (σ.push (.cells [] TI) none) atv at':=h.atp.keep fun b c hb hc=>⟨by rw[Ab,if_neg (by omega)];exact hc,hb⟩
 obtain⟨b2,s2,σ2,e2,F2,hb2,ch2,hw2⟩:=F1.append hw1 atv (intsOf at') 8 a1.fnew (EV _) (by omega) (by simp[BN];omega)
 have F3:=F2.keep (σ':=σ2.push (.cells [.int .i64 (.ofNat i)] TI) none) (by rw[Ak,if_neg (by have:=F2.lt hw2;omega)])
 have hw3:=hw2.push (.cells [.int .i64 (.ofNat i)] TI) none
 have c3:(σ2.push (.cells [.int .i64 (.ofNat i)] TI) none).cells σ2.next=some ([.int .i64 (.ofNat i)]++[]):=by rw[Ab,if_pos rfl];rfl
 obtain⟨b4,s4,σ4,e4,F4,hb4,ch4,hw4⟩:=F3.append hw3 (.slice (some ⟨σ2.next,0,none⟩) 1 1) [.int .i64 (.ofNat i)] 8 (Et σ2.next 1 1 _ [] c3 rfl) rfl (by omega) (by simp[BN];omega)
 have hb2':σ.next≤b2:=by
  rcases hb2 with rfl|rfl
  ·exact Nat.le_refl _
  ·rw[Aa];omega
 have hb4':σ.next≤b4:=by
  have:=ch2.next
  rw[Aa] at this
  rcases hb4 with rfl|rfl
  ·exact hb2'
  ·rw[Aa];omega
 have x4:Ext σ σ4:=by
  have c1:=ch2.next
  have c2:=ch4.next
  have k1:=ch2.clock
  have k2:=ch4.clock
  rw[Aa] at c1 c2
  rw[CU] at k1 k2
  refine⟨by omega,by omega,fun x hx=>?_⟩
  rw[ch4.get x (by rw[Aa];omega) (by omega),Ak,if_neg (by omega),ch2.get x (by rw[Aa];omega) (by omega),Ak,if_neg (by omega)]
 have hpath:intsOf at'++[.int .i64 (.ofNat i)]=intsOf (at'++[i]):=by simp[intsOf]
 rw[List.nil_append,hpath] at F4
 have P4:PathV (fun _=>True) σ4 s4 (at'++[i]):=by
  obtain⟨h1,h2⟩:=F4.cells
  rw[BN] at h1
  exact .inr ⟨b4,_,[],h1,trivial,by rw[List.append_nil];exact h2⟩
 obtain⟨w5,σ5,e5,x5,hw5,b5,us5,_,F5,L5,C5⟩:=hP (at'++[i]) (.agg ((cs.drop (off+i*4)).take 4).toArray) s4 R (fun _=>True) σ4 hw4 (hL.keep fun b c hb hc=>⟨(x4.cells (h.wf.cells hc)).trans hc,hb⟩) P4 (by rw[List.length_append,List.length_singleton];exact hlen) (by omega)
 have x15:=x4.trans x5
 have n4:=x4.next
 have n5:=x5.next
 have hbon:=h.f5.lt h.wf
 have G5:Ful TP σ5 bo (f 5) us:=h.f5.keep (x15.get bo hbon)
 obtain⟨hw5v,hc5⟩:=F5.cells
 have l5:=L5.length
 rw[List.length_map] at l5
 obtain⟨b6,s6,σ6,e6,F6,hb6,ch6,hw6⟩:=G5.append hw5 w5 us5 24 (by rw[hw5v];exact Et b5 us5.length us5.length us5 [] (by rw[List.append_nil];exact hc5) rfl) L5.all (by omega) (by rw[l5];omega)
 have vd:(view σ4 σ.clock).cells bd=some [.int .i64 k,.int .i64 z,.string t,.slice (some ⟨b,off,none⟩) ds.length c]:=DA h.wf (Nat.le_refl _) (x4.get bd (h.wf.cells h.cd)) h.cd
 have vb:(view σ4 σ.clock).cells b=some cs:=DA h.wf (Nat.le_refl _) (x4.get b (h.wf.cells hcs)) hcs
 unfold Ur
 simp -implicitDefEqProofs only[go_sem,UQ,RB,AkF,Xp,h.f1,h.f2,h.f6,h.cd,d1,e2,e4,vd,vb,hi,hle,e5,e6]
 generalize hg:upd _ 31 _=g1
 clear hg
 simp -implicitDefEqProofs only[go_sem,AkE,Xo,h.f6,w3]
 have c56:∀b c,b≠bo→σ5.cells b=some c→σ6.cells b=some c:=fun b c hb hc=>(ch6.cells (hw5.cells hc) hb).trans hc
 have c06:∀b c,b≠bo→σ.cells b=some c→σ6.cells b=some c:=fun b c hb hc=>c56 b c hb ((x15.cells (h.wf.cells hc)).trans hc)
 have n6:=ch6.next
 have hbo:=h.hbo
 have hb6':base≤b6:=by rcases hb6 with rfl|rfl<;>omega
 have xx:=h.ext.trans x15
 refine⟨_,_,σ6,b6,us++us5,rfl,{
  f1:=by simp -implicitDefEqProofs only[go_sem,reduceCtorEq,h.f1]
  f2:=by simp -implicitDefEqProofs only[go_sem,reduceCtorEq,h.f2]
  f5:=by rw[show upd (upd f 5 s6) 6 (Value.int .i64 (.ofNat (i+1))) 5=s6 by simp -implicitDefEqProofs only[go_sem,reduceCtorEq]];exact F6
  f6:=by simp -implicitDefEqProofs only[go_sem,reduceCtorEq]
  cd:=c06 bd _ h.hbd.2 h.cd
  lay:=h.lay.keep fun b c hb hc=>⟨c06 b c (by have:=h.low b hb;omega) hc,hb⟩
  low:=h.low
  atp:=h.atp.keep fun b c hb hc=>⟨c06 b c (by omega) hc,hb⟩
  hbd:=⟨h.hbd.1,by
   have:=h.wf.cells h.cd
   rcases hb6 with rfl|rfl
   ·exact h.hbd.2
   ·omega⟩
  hbo:=hb6'
  lst:=(h.lst.keep fun b c hb hc=>⟨c06 b c hb.2.1 hc,hb.1,by
   have:=h.wf.cells hc
   rcases hb6 with rfl|rfl
   ·exact hb.2.1
   ·omega,hb.2.2.keep ((ch6.get b (by have:=h.wf.cells hc;omega) hb.2.1).trans (x15.get b (h.wf.cells hc)))⟩).append (L5.keep fun b c hb hc=>⟨c56 b c (by have:=hb.1;omega) hc,by have:=hb.1;omega,by
   have:=hw5.cells hc
   have:=hb.1
   rcases hb6 with rfl|rfl
   ·omega
   ·omega,hb.2.keep (ch6.get b (hw5.cells hc) (by have:=hb.1;omega))⟩)
  caps:=fun u hu=>by
   rcases List.mem_append.1 hu with hu|hu
   ·exact h.caps u hu
   ·exact C5 u hu
  wf:=hw6
  ext:=⟨by have:=xx.next;omega,by have:=xx.clock;have:=ch6.clock;omega,fun x hx=>(ch6.get x (by have:=xx.next;omega) (by omega)).trans (xx.get x hx)⟩
  le:=hi
  few:=h.few }⟩
theorem UK(m:Nat){bd base:Nat}{R:Nat→Prop}{k z:Int}{t:ByteArray}{q:Option Addr}{c:Nat}{ds:List D}{at':List Nat}{atv:Value}{σ0:FState}(total:List (List Nat))(hP:∀d∈ds,PathsBt m d)(hb0:σ0.next=base)(hdeep:∀d∈ds,at'.length+1+d.deep<1000)(hcount:total.length<10000):
  ∀(j fuel i:Nat) (bo:Nat) (us:List Value) (ps:List (List Nat)) (f g:Nat→Value) (σ:FState),i+j=ds.length→j<fuel→ps++(D.piecesL at' i (ds.drop i)).map (·.1)=total→HeadPb bd bo base R k z t q c ds at' atv us ps σ0 i f σ→
  ∃f' g' σ' bo' us',floop [32] (Ur (env m) none 22) fuel (Sl 7 33 f g []) none σ=.done (.exit 0) (Sl 7 33 f' g' []) none σ'∧HeadPb bd bo' base R k z t q c ds at' atv us' total σ0 ds.length f' σ':=by
 intro j
 induction j with
 | zero=>
  intro fuel i bo us ps f g σ hij hf ht h
  obtain⟨fuel,rfl⟩:∃q,fuel=q+1:=⟨fuel-1,by omega⟩
  obtain rfl:i=ds.length:=by omega
  rw[List.drop_length,D.piecesL,List.map_nil,List.append_nil] at ht
  subst ht
  have d1:decide (Int.ofNat ds.length<Int.ofNat ds.length)=false:=by simp
  rw[Am,Bk]
  unfold Ur
  simp -implicitDefEqProofs only[go_sem,UQ,RB,h.f2,h.f6,h.cd,d1]
  exact⟨_,_,_,bo,us,rfl,h⟩
 | succ j ih=>
  intro fuel i bo us ps f g σ hij hf ht h
  obtain⟨fuel,rfl⟩:∃q,fuel=q+1:=⟨fuel-1,by omega⟩
  have hi:i<ds.length:=by omega
  have hd:ds[i]? = some ds[i]:=List.getElem?_eq_getElem hi
  have hdr:ds.drop i=ds[i]::ds.drop (i+1):=List.drop_eq_getElem_cons hi
  rw[hdr,D.piecesL,List.map_append] at ht
  have hcl:us.length+(ds[i].pieces (at'++[i])).length<10000:=by
   have:=congrArg List.length ht
   simp only[List.length_append,List.length_map] at this
   have:=h.lst.length
   omega
  obtain⟨f1,g1,σ1,bo1,us1,e1,h1⟩:=PX m ds[i] (hP _ (List.getElem_mem _)) h hb0 hd (hdeep _ (List.getElem_mem _)) hcl (kept [32] g)
  rw[Am,Bk,e1,BC]
  exact ih fuel (i+1) bo1 us1 _ f1 g1 σ1 (by omega) (by omega) (by rw[List.append_assoc];exact ht) h1
theorem UL(m:Nat)(d:D)(hP:∀d'∈d.parts,PathsBt m d'):PathsBt (m+1) d:=by
 intro at' v atv R Q σ hw hL hA hdeep hcount
 obtain⟨k,z,t,ds⟩:=d
 obtain⟨q,c,rfl,hE⟩:=hL
 have hpc:=D.pieces_eq at' (.mk k z t ds)
 rw[Ag _ 22 _ _ rfl,AoL _ _ _ _ (by simp),Af]
 unfold Am3
 have x1:Ext σ ((σ.push (.cells [.int .i64 k,.int .i64 z,.string t,.slice q ds.length c] TD) none).push (.cells [] TI) none):=((Ext.refl _).push _ _).push _ _
 have hw1:=(hw.push (.cells [.int .i64 k,.int .i64 z,.string t,.slice q ds.length c] TD) none).push (.cells [] TI) none
 have F1:Ful TI ((σ.push (.cells [.int .i64 k,.int .i64 z,.string t,.slice q ds.length c] TD) none).push (.cells [] TI) none) (σ.next+1) (.slice (some ⟨σ.next+1,0,none⟩) 0 0) []:=Ful.push TI _ []
 have c1:((σ.push (.cells [.int .i64 k,.int .i64 z,.string t,.slice q ds.length c] TD) none).push (.cells [] TI) none).cells σ.next=some [.int .i64 k,.int .i64 z,.string t,.slice q ds.length c]:=by rw[Ab,if_neg (by rw[Aa];omega),Ab,if_pos rfl];rfl
 have n1:((σ.push (.cells [.int .i64 k,.int .i64 z,.string t,.slice q ds.length c] TD) none).push (.cells [] TI) none).next=σ.next+2:=rfl
 have a1:PathV (fun _=>True) ((σ.push (.cells [.int .i64 k,.int .i64 z,.string t,.slice q ds.length c] TD) none).push (.cells [] TI) none) atv at':=hA.keep fun b c hb hc=>⟨(x1.cells (hw.cells hc)).trans hc,trivial⟩
 have lenat:at'.length<1000:=by omega
 obtain⟨b2,s2,σ2,e2,F2,hb2,ch2,hw2⟩:=F1.append hw1 atv (intsOf at') 8 a1.fnew (EV _) (by omega) (by simp[BN];omega)
 simp -implicitDefEqProofs only[go_sem,AkB,Xl,AkC,Xm,AkD,Xn,e2,F2.one.2.1,F2.one.2.2,Ach]
 generalize hff:upd _ 6 _=f1
 generalize hgg:upd _ 10 _=g1
 generalize hbf:bigFuel=fuel
 have hb2':σ.next≤b2:=by
  rcases hb2 with rfl|rfl
  ·omega
  ·rw[n1];omega
 rw[List.nil_append] at F2
 have F3:Ful TP (σ2.push (.cells [s2] TP) none) σ2.next (.slice (some ⟨σ2.next,0,none⟩) 1 1) [s2]:=Ful.push TP σ2 [s2]
 have hw3:=hw2.push (.cells [s2] TP) none
 have x2:Ext σ σ2:=⟨by have:=ch2.next;omega,by have:=ch2.clock;have:=x1.clock;omega,fun x hx=>(ch2.get x (by omega) (by omega)).trans (x1.get x hx)⟩
 have x3:Ext σ (σ2.push (.cells [s2] TP) none):=x2.push _ _
 have n2:=ch2.next
 have c3:(σ2.push (.cells [s2] TP) none).cells σ.next=some [.int .i64 k,.int .i64 z,.string t,.slice q ds.length c]:=by
  rw[Ab,if_neg (by omega)]
  exact(ch2.cells (by omega) (by omega)).trans c1
 have P2:PathV (fun b=>σ.next≤b∧b≠σ2.next∧FulB (σ2.push (.cells [s2] TP) none) b) (σ2.push (.cells [s2] TP) none) s2 at':=by
  obtain⟨h1,h2⟩:=F2.cells
  have:=F2.lt hw2
  have hfb:=(Af0 F2).keep (σ':=σ2.push (.cells [s2] TP) none) (by rw[Ak,if_neg (by omega)])
  rw[BN] at h1
  exact .inr ⟨b2,_,[],h1,⟨hb2',by omega,hfb⟩,by rw[Ab,if_neg (by omega),List.append_nil];exact h2⟩
 have hfew:ds.length<10000:=by
  have h1:=congrArg List.length hpc
  have h2:=FF ds at' 0
  rw[List.length_cons] at h1
  simp only[D.parts] at h1
  omega
 have hdp:(D.mk k z t ds).deep=D.deeps ds+1:=by rw[D.deep]
 obtain⟨f2,g2,σ4,bo,us,e4,h4⟩:=UK m (ds:=ds) (bd:=σ.next) (base:=σ.next) (R:=fun b=>R b∧b<σ.next) (atv:=atv) (σ0:=σ) (((D.mk k z t ds).pieces at').map (·.1)) (fun d' hd=>hP d' hd) rfl (fun d hd=>by have:=Ci hd;omega) (by rw[List.length_map];exact hcount) ds.length fuel 0 σ2.next [s2] [at'] f1 g1 (σ2.push (.cells [s2] TP) none) (by omega) (by rw[←hbf];show ds.length<1000000000000;omega) (by rw[hpc];rfl) {
  f1:=by rw[←hff];simp -implicitDefEqProofs only[go_sem,reduceCtorEq]
  f2:=by rw[←hff];simp -implicitDefEqProofs only[go_sem,reduceCtorEq]
  f5:=by rw[show f1 5=.slice (some ⟨σ2.next,0,none⟩) 1 1 by rw[←hff];simp -implicitDefEqProofs only[go_sem,reduceCtorEq]];exact F3
  f6:=by rw[←hff];simp -implicitDefEqProofs only[go_sem,reduceCtorEq]<;>rfl
  cd:=c3
  lay:=hE.keep fun b c hb hc=>⟨(x3.cells (hw.cells hc)).trans hc,hb,hw.cells hc⟩
  low:=fun b hb=>hb.2
  atp:=hA.keep fun b c hb hc=>⟨(x3.cells (hw.cells hc)).trans hc,hw.cells hc⟩
  hbd:=⟨Nat.le_refl _,by omega⟩
  hbo:=by omega
  lst:=⟨P2,trivial⟩
  caps:=fun u hu=>by
   rw[List.mem_singleton] at hu
   subst hu
   exact⟨_,_,_,F2.cells.1,Nat.le_refl _⟩
  wf:=hw3
  ext:=x3
  le:=Nat.zero_le _
  few:=hfew }
 rw[e4]
 simp -implicitDefEqProofs only[go_sem,AkG,Xq]
 exact⟨_,_,rfl,h4.ext,h4.wf,bo,us,h4.hbo,h4.f5,h4.lst.keep (fun b c hb hc=>⟨hc,hb.1,hb.2.2⟩),h4.caps⟩
theorem Oc(n:Nat):∀(L:Nat) (d:D),d.deep≤L→PathsBt (n+L) d
 | 0,d,h=>by cases d;rw[D.deep] at h;omega
 | L+1,d,h=>UL (n+L) d fun d' hd=>Oc n L d' (by
  obtain⟨k,z,t,ds⟩:=d
  rw[D.deep] at h
  have:=Ci hd
  simp only[D.parts] at this
  omega)
end
section
open Go Go.Eng
theorem Agt{σ:FState}{u:Value}{p:List Nat}(h:PathV (fun b=>FulB σ b) σ u p)(hc:CapV u):PathO σ u p:=by
 rcases h with⟨rfl,rfl⟩|⟨b,cx,rest,rfl,⟨vs,fz,ver,hb,hf⟩,hcs⟩
 ·exact⟨none,0,rfl,.inl rfl⟩
 ·obtain⟨a,n,c,e,hn⟩:=hc
  injection e with e1 e2 e3
  subst e2 e3
  rw[Au hb] at hcs
  have hvs:=Option.some.inj hcs
  refine⟨_,cx,rfl,.inr ⟨b,0,vs,fz,ver,rfl,hb,hf,hn,fun i j hj=>?_⟩⟩
  have hi:=(List.getElem?_eq_some_iff.1 hj).1
  rw[hvs,Nat.zero_add,List.getElem?_append_left (by simp[intsOf];exact hi)]
  simp[intsOf,hj]
end
section
open Go Go.Eng
attribute [local congr] Ac Aj Ai Ad Ah
attribute [-go_sem] List.range_succ
def AmX(E:Env)(ro:Option Nat)(fn:FuncId):RunF:=seqR (fops E ro AvW) (seqR (fops E ro AvX) (seqR (fops E ro AvY) (seqR (drawR E ro AvZ) (AmY E ro fn))))
theorem AeB(E:Env)(ro:Option Nat)(fn:FuncId):Av4 E ro fn=seqR (fops E ro AvS) (seqR (seqR (fops E ro AvT) (condR (fun a=>a.get 29) (seqR (fops E ro AvV) retR) skipR)) (AmX E ro fn)):=rfl
theorem WR(q b3 b4:Nat)(a b:D)(la lb:List Value)(ha4:la.length=4)(hb4:lb.length=4)(p:Option Addr)(l:List Int)(cp:Nat)(hl:l.length<9223372036854775808)(f g:Nat→Value)(σ:FState)(hw:Wf σ)(hI:Ints σ p l)(hp:∀a,p=some a→a.block<σ.next)(c3:σ.cells b3=some la)(c4:σ.cells b4=some lb)(hA:LaidR (fun b=>b<σ.next) σ (.agg la.toArray) a)(hB:LaidR (fun b=>b<σ.next) σ (.agg lb.toArray) b)(ka:a.count≤150)(kb:b.count≤150)(f2:f 2=.slice p l.length cp)(f3:f 3=.pointer (some ⟨b3,0,none⟩))(f4:f 4=.pointer (some ⟨b4,0,none⟩)):
  ∃σ',leaveR Tryz.prog (top (q+500)) [.tmp 6] (AmX (top (q+500)) none 4 (Sl 24 138 f g []) none σ)=.ret (.bool true) none σ':=by
 obtain⟨σ2,e2,x2,hw2,hC2⟩:=WN (q+499) p l cp hl σ hw hI hp
 have hn2:σ.next<σ2.next:=by obtain⟨_,_,_,_,_,h,_⟩:=hC2;exact(hw2 _ _ h).1
 have hv4:wound 4≤1000:=by simp[wound]
 have hv2:wound 2≤1000:=by simp[wound]
 obtain⟨vx,x,σ3,k3,e3,hX,mX,x3,hw3,hC3,_,hk3⟩:=EQ (q+492) σ.next 4 (by omega) 0 σ2 (by omega) hw2 hC2
 obtain⟨vy,y,σ4,k4,e4,hY,mY,x4,hw4,hC4,_,hk4⟩:=EQ (q+492) σ.next 4 (by omega) k3 σ3 (by omega) hw3 hC3
 have n2:=x2.next
 have n3:=x3.next
 have n4:=x4.next
 replace e2:(top (q+500)).call 12 [.slice p l.length cp] none σ=.ret (.pointer (some ⟨σ.next,0,none⟩)) none σ2:=(Cr _ _ _ _ rfl).trans e2
 replace e3:(top (q+500)).call 11 [.pointer (some ⟨σ.next,0,none⟩),.int .i64 4] none σ2=.ret vx none σ3:=(Cr _ _ _ _ rfl).trans e3
 replace e4:(top (q+500)).call 11 [.pointer (some ⟨σ.next,0,none⟩),.int .i64 4] none σ3=.ret vy none σ4:=(Cr _ _ _ _ rfl).trans e4
 have kA:∀b cs,b<σ.next→σ.cells b=some cs→σ4.cells b=some cs:=fun b cs hb hc=>by
  have h2:=(x2.cells hb).trans hc
  have h3:=(x3.cells (by omega) (by omega)).trans h2
  exact(x4.cells (by omega) (by omega)).trans h3
 have kX:∀b cs,New σ2 σ3 b→σ3.cells b=some cs→σ4.cells b=some cs:=fun b cs hb hc=>(x4.cells hb.2 (by have:=hb.1;omega)).trans hc
 have LX4:LaidR (New σ2 σ3) σ4 vx x:=hX.keep fun b cs hb hc=>⟨kX b cs hb hc,hb⟩
 obtain⟨xv,rfl,hx4,hox⟩:=hX.agg
 obtain⟨yv,rfl,hy4,hoy⟩:=hY.agg
 have htx:xv.take 4=xv:=List.take_of_length_le (by omega)
 have hFx:=Ev (q+471) mX
 have hFy:=Ev (q+471) mY
 unfold AmX
 simp -implicitDefEqProofs only[go_sem,Aw,AqC,Alz,AqD,AlA,f2,f3,f4,e2,e3,e4,hx4,hy4,hox,hoy,Nat.le_refl]
 have x6:Ext σ4 ((((σ4.push (.cells [.int .i64 0,.int .i64 0,.string ⟨#[]⟩,.slice none 0 0] TD) none).push (.cells [.int .i64 0,.int .i64 0,.string ⟨#[]⟩,.slice none 0 0] TD) none).put σ4.next (.cells xv TD) none).put (σ4.next+1) (.cells yv TD) none):=((((Ext.refl _).push _ _).push _ _).put _ _ _ (Nat.le_refl _)).put _ _ _ (by omega)
 have hw6:Wf ((((σ4.push (.cells [.int .i64 0,.int .i64 0,.string ⟨#[]⟩,.slice none 0 0] TD) none).push (.cells [.int .i64 0,.int .i64 0,.string ⟨#[]⟩,.slice none 0 0] TD) none).put σ4.next (.cells xv TD) none).put (σ4.next+1) (.cells yv TD) none):=(((hw4.push _ _).push _ _).put _ _ _ (by simp only[Aa];omega)).put _ _ _ (by simp only[Aa,Ao];omega)
 have g8:((((σ4.push (.cells [.int .i64 0,.int .i64 0,.string ⟨#[]⟩,.slice none 0 0] TD) none).push (.cells [.int .i64 0,.int .i64 0,.string ⟨#[]⟩,.slice none 0 0] TD) none).put σ4.next (.cells xv TD) none).put (σ4.next+1) (.cells yv TD) none).cells σ4.next=some xv:=by rw[Ar,if_neg (by omega),Ar,if_pos rfl];rfl
 have g9:((((σ4.push (.cells [.int .i64 0,.int .i64 0,.string ⟨#[]⟩,.slice none 0 0] TD) none).push (.cells [.int .i64 0,.int .i64 0,.string ⟨#[]⟩,.slice none 0 0] TD) none).put σ4.next (.cells xv TD) none).put (σ4.next+1) (.cells yv TD) none).cells (σ4.next+1)=some yv:=by rw[Ar,if_pos rfl];rfl
 have n6:((((σ4.push (.cells [.int .i64 0,.int .i64 0,.string ⟨#[]⟩,.slice none 0 0] TD) none).push (.cells [.int .i64 0,.int .i64 0,.string ⟨#[]⟩,.slice none 0 0] TD) none).put σ4.next (.cells xv TD) none).put (σ4.next+1) (.cells yv TD) none).next=σ4.next+2:=rfl
 generalize hff:upd _ 9 _=f1
 generalize hgg:upd _ 36 _=g1
 have q3:f1 3=.pointer (some ⟨b3,0,none⟩):=by rw[←hff];simp -implicitDefEqProofs only[go_sem,reduceCtorEq,f3]
 have q4:f1 4=.pointer (some ⟨b4,0,none⟩):=by rw[←hff];simp -implicitDefEqProofs only[go_sem,reduceCtorEq,f4]
 have q7:f1 7=.pointer (some ⟨σ.next,0,none⟩):=by rw[←hff];simp -implicitDefEqProofs only[go_sem,reduceCtorEq]
 have q8:f1 8=.pointer (some ⟨σ4.next,0,none⟩):=by rw[←hff];simp -implicitDefEqProofs only[go_sem,reduceCtorEq]
 have q9:f1 9=.pointer (some ⟨σ4.next+1,0,none⟩):=by rw[←hff];simp -implicitDefEqProofs only[go_sem,reduceCtorEq]
 clear hff hgg
 generalize FState.put _ _ _ _=σ6 at x6 hw6 g8 g9 n6 ⊢
 have K46:∀b cs,σ4.cells b=some cs→σ6.cells b=some cs:=fun b cs hc=>(x6.cells (hw4.cells hc)).trans hc
 have hfew:=hFx.few (by omega)
 have hdx:=hFx.deep_le
 have hdy:=hFy.deep_le
 obtain⟨w7,σ7,e7,x7,hw7,ba,us,hba,F7,pl7,caps7⟩:=Oc (q+495) 5 x hdx [] (.agg xv.toArray) (.slice none 0 0) (New σ2 σ3) (fun _=>True) σ6 hw6 (LX4.keep fun b cs hb hc=>⟨K46 b cs hc,hb⟩) (.inl ⟨rfl,rfl⟩) (by simp;omega) (by omega)
 replace e7:(top (q+500)).call 22 [.agg xv.toArray,.slice none 0 0] none σ6=.ret w7 none σ7:=(Cr _ _ _ _ rfl).trans e7
 obtain⟨hw7v,ca7⟩:=F7.cells
 have n7:=x7.next
 have hC7:Coil σ7 σ.next k4:=(hC4.ext hw4 x6).ext hw6 x7
 have ba7:ba<σ7.next:=F7.lt hw7
 have hus:us.length=(x.pieces []).length:=by rw[pl7.length,List.length_map]
 rw[hw7v] at e7
 have hne:1≤us.length:=by rw[hus,D.pieces_eq];simp
 obtain⟨r8,σ8,e8,h80,h81,W8⟩:=M6 (q+498) σ.next k4 (.ofNat (us.length-1)) (by simp only[Int.ofNat_eq_natCast];omega) (by omega) σ7 hw7 hC7
 obtain⟨i,rfl⟩:∃i:Nat,r8=Int.ofNat i:=⟨r8.toNat,by simp only[Int.ofNat_eq_natCast];omega⟩
 have hi:i<us.length:=by simp only[Int.ofNat_eq_natCast] at h81;omega
 replace e8:(top (q+500)).call 24 [.pointer (some ⟨σ.next,0,none⟩),.int .i64 (.ofNat (us.length-1))] none σ7=.ret (.int .i64 (.ofNat i)) none σ8:=(Cr _ _ _ _ rfl).trans e8
 have w7:=Auj us.length hne (by omega)
 obtain⟨v',z,σ9,k9,e9,hLz,mZ,x9,hw9,hC9,_,hk9⟩:=EQ (q+494) σ.next 2 (by omega) (k4+1) σ8 (by omega) W8.wf W8.coil
 have hFz:=Ev (q+471) mZ
 replace e9:(top (q+500)).call 11 [.pointer (some ⟨σ.next,0,none⟩),.int .i64 2] none σ8=.ret v' none σ9:=(Cr _ _ _ _ rfl).trans e9
 obtain⟨zv,rfl,hz4,hoz⟩:=hLz.agg
 obtain⟨t,ht⟩:∃t,(x.pieces [])[i]? = some t:=⟨_,List.getElem?_eq_getElem (by omega)⟩
 have hmem:=List.mem_of_getElem? ht
 obtain⟨r,hr,hat⟩:=IN x [] t hmem
 rw[List.nil_append] at hr
 subst hr
 have htl:=((hFx []).2 t hmem).1
 have hFu:=T4 (q+471) hFz t.1 4 x t.2 mX hat
 have hxm:=(hFx []).1
 have hym:=(hFy []).1
 have hzm:=(hFz []).1
 rw[Cn] at hxm hym hzm
 have hm4:most 4=121:=by decide
 have hm2:most 2=13:=by decide
 rw[hm4] at hxm hym
 rw[hm2] at hzm
 have hpc:=Od t.1 z x t.2 hat
 have hzd:=hFz.deep_le
 have hud:=hFu.deep_le
 obtain⟨u,hu,hP⟩:=pl7.get (i:=i) (p:=t.1) (by rw[List.getElem?_map,ht];rfl)
 have hcu:=caps7 u (List.mem_of_getElem? hu)
 have n8:=W8.ext.next
 have n9:=x9.next
 have g79:∀b,b<σ7.next→b≠σ.next→σ9.heap.get b=σ7.heap.get b:=fun b hb hne=>(x9.get b (by omega) hne).trans (W8.ext.get b hb hne)
 have k79:∀b cs,b≠σ.next→σ7.cells b=some cs→σ9.cells b=some cs:=fun b cs hb hc=>(x9.cells (by have:=hw7.cells hc;omega) hb).trans ((W8.ext.cells (hw7.cells hc) hb).trans hc)
 have k47:∀b cs,σ4.cells b=some cs→σ7.cells b=some cs:=fun b cs hc=>(x7.cells (hw6.cells (K46 b cs hc))).trans (K46 b cs hc)
 have k49:∀b cs,b≠σ.next→σ4.cells b=some cs→σ9.cells b=some cs:=fun b cs hb hc=>k79 b cs hb (k47 b cs hc)
 have lx9:LaidR (fun b=>b<σ9.next) σ9 (.agg xv.toArray) x:=LX4.keep fun b cs hb hc=>⟨k49 b cs (by have:=hb.1;omega) hc,by have:=hw4.cells hc;omega⟩
 have ly9:LaidR (fun b=>b<σ9.next) σ9 (.agg yv.toArray) y:=hY.keep fun b cs hb hc=>⟨k49 b cs (by have:=hb.1;omega) hc,by have:=hw4.cells hc;omega⟩
 have lz9:LaidR (fun b=>b<σ9.next) σ9 (.agg zv.toArray) z:=hLz.keep fun b cs hb hc=>⟨hc,hw9.cells hc⟩
 have la9:∀ {v:Value} {d:D},LaidR (fun b=>b<σ.next) σ v d→LaidR (fun b=>b<σ9.next) σ9 v d:=fun h=>h.keep fun b cs hb hc=>⟨k49 b cs (by omega) (kA b cs hb hc),by omega⟩
 have hP9:PathV (fun b=>FulB σ9 b) σ9 u t.1:=hP.keep fun b c hb hc=>⟨k79 b c (by have:=hb.1;omega) hc,hb.2.keep (g79 b (hw7.cells hc) (by have:=hb.1;omega))⟩
 have c87:=(x7.cells (hw6.cells g8)).trans g8
 have c97:=(x7.cells (hw6.cells g9)).trans g9
 have c89:=k79 _ _ (by omega) c87
 have c99:=k79 _ _ (by omega) c97
 have ca8:σ8.cells ba=some us:=(W8.ext.cells (hw7.cells ca7) (by omega)).trans ca7
 have v1:(view σ9 σ8.clock).cells ba=some us:=DA W8.wf (Nat.le_refl _) (x9.get _ (by omega) (by omega)) ca8
 have ca9:=k79 _ _ (by omega) ca7
 have hv9:=BQ hw9 (Nat.le_refl _)
 have v5:(view σ9 σ7.clock).cells σ4.next=some xv:=DA hw7 (Nat.le_refl _) (g79 _ (by omega) (by omega)) c87
 have hWx:=EY mX
 have hWz:=EY mZ
 obtain⟨_,σ10,e10,x10,hw10,ws,rfl,hws,hwo,hLw⟩:=Aev (q+499) 10 (q+464) (by omega) x z t.2 t.1 (by simp at htl;omega) (by simp at htl;omega) xv zv u hx4 hz4 hoz _ σ9 hw9 lx9 lz9 (Agt hP9 hcu) hP9 hat (hWx.ref (by omega) (by omega)) (hWz.ref (by omega) (by omega)) ((Oe hWz t.1 4 x t.2 mX hat).ref (by omega) (by omega)) (fun z hz=>⟨by have:=(hWx [] z hz).1;omega,(hWx [] z hz).2⟩)
 replace e10:(top (q+500)).call 23 [.agg xv.toArray,u,.agg zv.toArray] none σ9=_:=(Cr _ _ _ _ rfl).trans e10
 have tws:ws.take 4=ws:=List.take_of_length_le (by omega)
 simp -implicitDefEqProofs only[go_sem,Aw,AqE,AlB,AqF,AlC,q7,q8,g8,hx4,htx,e7,w7,e8,e9,v1,v5,hv9,ca9,hi,hu,e10,hws,hwo,Nat.le_refl]
 generalize hff:upd _ 12 _=f2
 generalize hgg:upd _ 53 _=g2
 have x11:Ext σ10 ((σ10.push (.cells [.int .i64 0,.int .i64 0,.string ⟨#[]⟩,.slice none 0 0] TD) none).put σ10.next (.cells ws TD) none):=((Ext.refl _).push _ _).put _ _ _ (Nat.le_refl _)
 have hw11:=(hw10.push (.cells [.int .i64 0,.int .i64 0,.string ⟨#[]⟩,.slice none 0 0] TD) none).put σ10.next (.cells ws TD) none (Nat.lt_succ_self _)
 have b11:((σ10.push (.cells [.int .i64 0,.int .i64 0,.string ⟨#[]⟩,.slice none 0 0] TD) none).put σ10.next (.cells ws TD) none).cells σ10.next=some ws:=by rw[Ar,if_pos rfl];rfl
 have X11:=x10.trans x11
 have k11:∀b cs,σ9.cells b=some cs→((σ10.push (.cells [.int .i64 0,.int .i64 0,.string ⟨#[]⟩,.slice none 0 0] TD) none).put σ10.next (.cells ws TD) none).cells b=some cs:=fun b cs hc=>(X11.cells (hw9.cells hc)).trans hc
 have n11:=X11.next
 have st:∀ {v:Value} {d:D},LaidR (fun b=>b<σ9.next) σ9 v d→LaidR (fun b=>b<((σ10.push (.cells [.int .i64 0,.int .i64 0,.string ⟨#[]⟩,.slice none 0 0] TD) none).put σ10.next (.cells ws TD) none).next) ((σ10.push (.cells [.int .i64 0,.int .i64 0,.string ⟨#[]⟩,.slice none 0 0] TD) none).put σ10.next (.cells ws TD) none) v d:=fun h=>h.keep fun b cs hb hc=>⟨k11 b cs hc,Nat.lt_of_lt_of_le hb n11⟩
 have da:=Cw a
 have db:=Cw b
 exact UI q b3 b4 σ4.next (σ4.next+1) σ10.next a b x y (putP t.1 z x) la lb xv yv ws ha4 hb4 hx4 hy4 hws f2 g2 _ hw11 (k11 _ _ (k49 _ _ (by have:=hw.cells c3;omega) (kA _ _ (hw.cells c3) c3))) (k11 _ _ (k49 _ _ (by have:=hw.cells c4;omega) (kA _ _ (hw.cells c4) c4))) (k11 _ _ c89) (k11 _ _ c99) b11
  (st (la9 hA)) (st (la9 hB)) (st lx9) (st ly9) (hLw.keep fun b cs hb hc=>⟨(x11.cells hb).trans hc,Nat.lt_of_lt_of_le hb x11.next⟩) ⟨by omega,by omega⟩ ⟨by omega,by omega⟩ ⟨by omega,by omega⟩ ⟨by omega,by omega⟩ ⟨by omega,by omega⟩
  (by rw[←hff];simp -implicitDefEqProofs only[go_sem,reduceCtorEq,q3]) (by rw[←hff];simp -implicitDefEqProofs only[go_sem,reduceCtorEq,q4]) (by rw[←hff];simp -implicitDefEqProofs only[go_sem,reduceCtorEq,q8]) (by rw[←hff];simp -implicitDefEqProofs only[go_sem,reduceCtorEq,q9]) (by rw[←hff];simp -implicitDefEqProofs only[go_sem,reduceCtorEq])
theorem UH(q:Nat)(la lb:List Value)(a b:D)(p:Option Addr)(l:List Int)(cp:Nat)(hl:l.length<9223372036854775808)(σ:FState)(hw:Wf σ)(hI:Ints σ p l)(hp:∀a,p=some a→a.block<σ.next)(ha4:la.length=4)(hb4:lb.length=4)(hA:LaidR (fun b=>b<σ.next) σ (.agg la.toArray) a)(hB:LaidR (fun b=>b<σ.next) σ (.agg lb.toArray) b):
  ∃σ',fcall Tryz.prog nls (top (q+500)) 4 [.agg la.toArray,.agg lb.toArray,.slice p l.length cp] none σ=.ret (.bool true) none σ':=by
 have hta:la.take 4=la:=List.take_of_length_le (by omega)
 have htb:lb.take 4=lb:=List.take_of_length_le (by omega)
 have x1:Ext σ ((σ.push (.cells la TD) none).push (.cells lb TD) none):=((Ext.refl _).push _ _).push _ _
 have hw1:=(hw.push (.cells la TD) none).push (.cells lb TD) none
 have c3:((σ.push (.cells la TD) none).push (.cells lb TD) none).cells σ.next=some la:=by rw[Ab,if_neg (by rw[Aa];omega),Ab,if_pos rfl];rfl
 have c4:((σ.push (.cells la TD) none).push (.cells lb TD) none).cells (σ.next+1)=some lb:=by rw[Ab,if_pos (by rw[Aa])];rfl
 have VAc:∀(d:D) (wv:List Value) (hw4:wv.length=4) (τ:FState),Wf τ→LaidR (fun b=>b<τ.next) τ (.agg wv.toArray) d→∃τ',(top (q+500)).call 9 [.agg wv.toArray] none τ=.ret (.bool (vastB d)) none τ'∧Ext τ τ'∧Wf τ':=fun d wv hw4 τ hwt hLd=>by
  obtain⟨_,τ',e,x,w,rfl⟩:=Aq1 (q+348) _ d wv hw4 τ hwt hLd
  rw[show q+348+152=q+500 by omega] at e
  exact⟨τ',(Cr _ _ _ _ rfl).trans e,x,w⟩
 have small:∀ {d:D},vastB d=false→d.count≤150:=fun h=>by
  unfold vastB at h
  rw[Bool.or_eq_false_iff,decide_eq_false_iff_not] at h
  omega
 have step:∀ {τ τ':FState},Ext τ τ'→Wf τ→∀ {v:Value} {d:D},LaidR (fun b=>b<τ.next) τ v d→LaidR (fun b=>b<τ'.next) τ' v d:=fun hX hw v d h=>h.keep fun b cs hb hc=>⟨(hX.cells hb).trans hc,by have:=hX.next;omega⟩
 rw[Au4 _ _ _ _ (by simp),Af,AeB]
 generalize hS:((σ.push (.cells la TD) none).push (.cells lb TD) none)=σ1 at x1 hw1 c3 c4
 obtain⟨σ2,e2,x2,hw2⟩:=VAc a la ha4 σ1 hw1 (step x1 hw hA)
 have d4:=(x2.cells (hw1.cells c4)).trans c4
 cases hva:vastB a with
 | true=>
  rw[hva] at e2
  simp -implicitDefEqProofs only[go_sem,RY,U3,RZ,U4,Aa4,Aa3,hS,c3,ha4,hta,e2,Jm,Nat.le_refl]
  exact⟨_,rfl⟩
 | false=>
  rw[hva] at e2
  have X2:=x1.trans x2
  obtain⟨σ3,e3,x3,hw3⟩:=VAc b lb hb4 σ2 hw2 (step X2 hw hB)
  have X3:=X2.trans x3
  cases hvb:vastB b with
  | true=>
   rw[hvb] at e3
   simp -implicitDefEqProofs only[go_sem,RY,U3,RZ,U4,Aa4,Aa3,hS,c3,d4,ha4,hb4,hta,htb,e2,e3,Jm,Nat.le_refl]
   exact⟨_,rfl⟩
  | false=>
   rw[hvb] at e3
   have hI3:Ints σ3 p l:=fun i n h=>by
    obtain⟨b,off,cs,h1,h2,h3⟩:=hI i n h
    exact⟨b,off,cs,h1,(X3.cells (hw.cells h2)).trans h2,h3⟩
   simp -implicitDefEqProofs only[go_sem,RY,U3,RZ,U4,hS,c3,d4,ha4,hb4,hta,htb,e2,e3,Ae,Nat.le_refl]
   generalize hff:upd _ 6 _=f1
   generalize hgg:upd _ 29 _=g1
   have X23:=x2.trans x3
   exact WR q σ.next (σ.next+1) a b la lb ha4 hb4 p l cp hl f1 g1 σ3 hw3 hI3 (fun a h=>by have:=hp a h;have:=X3.next;omega) ((X23.cells (hw1.cells c3)).trans c3) ((X23.cells (hw1.cells c4)).trans c4) (step X3 hw hA) (step X3 hw hB) (small hva) (small hvb)
    (by rw[←hff];simp -implicitDefEqProofs only[go_sem,reduceCtorEq]<;>rfl) (by rw[←hff];simp -implicitDefEqProofs only[go_sem,reduceCtorEq]) (by rw[←hff];simp -implicitDefEqProofs only[go_sem,reduceCtorEq])
end
section
open Go Go.Eng Go.ChangeShapes Go.WideShapes Go.RowKit
theorem PW{H:Type}{enc:TypeId×Value→H}(W:World)(hg:W.cell? ⟨0,0,none⟩=some handle){v0 v1 v2:Value}{d0 d1 d2:DataW H}{p0 p1 p2:List MemPlace}(h0:DataW.Trod enc Tryz.prog W 0 (fun _=>true) true TD v0 d0 p0)(h1:DataW.Trod enc Tryz.prog W 0 (fun _=>true) true TD v1 d1 p1)(h2:DataW.Trod enc Tryz.prog W 0 (fun _=>true) true 25 v2 d2 p2)(k0:∃cs,v0=.agg cs∧cs.size=Tryz.prog.cellsOf TD)(k1:∃cs,v1=.agg cs∧cs.size=Tryz.prog.cellsOf TD)(k2:∃a len cap,v2=.slice a len cap):
  Calls Tryz.prog 4 #[v0,v1,v2] W (Fine4 W):=by
 obtain⟨la,a,ea,ha4,hA⟩:=NK h0 k0
 obtain⟨lb,b,eb,hb4,hB⟩:=NK h1 k1
 obtain⟨q,l,cp,el,hl,hI,hq⟩:=AeU hg h2 k2
 refine Agc Tryz.func4 rfl 500 W [v0,v1,v2] hg ?_
 have e:[v0,v1,v2].map (seenA W)=[.agg la.toArray,.agg lb.toArray,.slice q l.length cp]:=by simp only[List.map_cons,List.map_nil,ea,eb,el]
 rw[e]
 obtain⟨σ',h⟩:=UH 0 la lb a b q l cp hl (seenS W) (Abk W) hI hq ha4 hb4 hA hB
 exact⟨σ',by rwa [Nat.zero_add] at h⟩
end
end Go.Proofs.YtokieofohmgjdaaGreatDoor
end
