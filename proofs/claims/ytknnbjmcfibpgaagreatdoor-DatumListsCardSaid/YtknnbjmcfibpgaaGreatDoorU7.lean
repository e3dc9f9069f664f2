import Derived.Test.YtknnbjmcfibpgaaGreatDoorU6
import Derived.Test.YtknnbjmcfibpgaaGreatDoorU5
import Derived.Test.YtknnbjmcfibpgaaGreatDoorU4
import Derived.Test.YtknnbjmcfibpgaaGreatDoorU3
set_option linter.unusedSimpArgs false
set_option linter.unusedVariables false
noncomputable section
namespace Go.Proofs.YtknnbjmcfibpgaaGreatDoor
section
open Go Go.Eng
attribute [local congr] Aa Af Ae Ab Ad
attribute [-go_sem] List.range_succ
theorem Jh{t:ByteArray}{i:Nat}(h:okAt t i=true):symC (bA t i)=true/\(digC (bA t i)=true->1<i\/(i=1/\bA t 0≠45)):=by
 unfold okAt at h
 simp only[Bool.and_eq_true,Bool.or_eq_true,Bool.not_eq_true',decide_eq_true_eq,beq_eq_false_iff_ne,ne_eq] at h
 refine⟨h.1,fun hd=>?_⟩
 rcases h.2 with(h2|h2)|h2
 .rw[hd] at h2;cases h2
 .exact .inl h2
 .exact .inr h2
theorem AfA(n:Nat)(t:ByteArray)(hsz:t.size<=20)(keep:List Nat)(hk:13∈keep/\14∈keep)(Z:aC):∀(j fuel i:Nat) (f g:Nat->Value),t.size-i=j->j<fuel->i<=t.size->f 0=.string t->g 13=.int .i64 (.ofNat t.size)->g 14=.int .i64 (.ofNat i)->
  ∃f' g',((∀k,i<=k->k<t.size->okAt t k=true)/\floop keep (Fb (env (n+20)) none 158) fuel (Sl 4 38 f g []) none Z=.done (.exit 0) (Sl 4 38 f' g' []) none Z)\/
   ((∃k,i<=k/\k<t.size/\okAt t k=false)/\floop keep (Fb (env (n+20)) none 158) fuel (Sl 4 38 f g []) none Z=.done .ret (Sl 4 38 f' g' []) none Z/\f' 2=.bool false):=by
 intro j
 induction j with
 | zero=>
  intro fuel i f g hj hf hi f0 g13 g14
  obtain⟨fuel,rfl⟩:∃q,fuel=q+1:=⟨fuel-1,by omega⟩
  obtain rfl:i=t.size:=by omega
  have d0:decide (Int.ofNat t.size<Int.ofNat t.size)=false:=by simp
  rw[Ao]
  have k13:kept keep g 13=.int .i64 (.ofNat t.size):=by rw[Fe,if_pos hk.1,g13]
  have k14:kept keep g 14=.int .i64 (.ofNat t.size):=by rw[Fe,if_pos hk.2,g14]
  have h:∃f' g',Fb (env (n+20)) none 158 (Sl 4 38 f (kept keep g) []) none Z=.done (.exit 0) (Sl 4 38 f' g' []) none Z:=by
   generalize kept keep g=g1 at *
   unfold Fb
   simp -implicitDefEqProofs only[go_sem,EH,E5,f0,k13,k14,d0]
   exact⟨_,_,rfl⟩
  obtain⟨f',g',e⟩:=h
  refine⟨f',g',.inl ⟨fun k h1 h2=>by omega,?_⟩⟩
  simp -implicitDefEqProofs only[Bl,e,AR]
 | succ j ih=>
  intro fuel i f g hj hf hi f0 g13 g14
  obtain⟨fuel,rfl⟩:∃q,fuel=q+1:=⟨fuel-1,by omega⟩
  have hlt:i<t.size:=by omega
  rw[Ao]
  have k13:kept keep g 13=.int .i64 (.ofNat t.size):=by rw[Fe,if_pos hk.1,g13]
  have k14:kept keep g 14=.int .i64 (.ofNat i):=by rw[Fe,if_pos hk.2,g14]
  cases hok:okAt t i with
  | true=>
   obtain⟨f1,g1,h0,h13,e,h14⟩:=Abi n i (bA t i) t f (kept keep g) Z hlt (by omega) rfl (Jh hok).1 (Jh hok).2 f0 k13 k14
   obtain⟨f2,g2,h⟩:=ih fuel (i+1) f1 g1 (by omega) (by omega) (by omega) h0 h13 h14
   refine⟨f2,g2,?_⟩
   simp -implicitDefEqProofs only[Bl,e,Az]
   rcases h with⟨h4,h5⟩|⟨⟨k,h4,h5,h6⟩,h7,h8⟩
   .refine .inl ⟨fun k h1 h2=>?_,h5⟩
    by_cases hk:k=i
    .subst hk;exact hok
    .exact h4 k (by omega) h2
   .exact .inr ⟨⟨k,by omega,h5,h6⟩,h7,h8⟩
  | false=>
   obtain⟨f1,g1,e,h2⟩:=AoV n i (bA t i) t f (kept keep g) Z hlt (by omega) rfl hok f0 k13 k14
   refine⟨f1,g1,.inr ⟨⟨i,Nat.le_refl _,hlt,hok⟩,?_,h2⟩⟩
   simp -implicitDefEqProofs only[Bl,e,A0]
theorem Aqg(t:ByteArray):symB t=(decide (1<=t.size)&&decide (t.size<=20)&&(List.range t.size).all (okAt t)):=by
 by_cases h1:1<=t.size
 .by_cases h2:t.size<=20
  .unfold symB
   rw[decide_eq_true h1,decide_eq_true h2,Bool.true_and,Bool.true_and,Bool.eq_iff_iff]
   simp only[Bool.and_eq_true,Bool.not_eq_true',List.all_eq_true,List.mem_range,true_and]
   constructor
   .rintro⟨⟨h3,h4⟩,h5⟩ i hi
    unfold okAt
    rw[h5 i hi,Bool.true_and]
    by_cases hd:digC (bA t i)=true
    .rw[hd]
     by_cases hi0:i=0
     .subst hi0;rw[h3] at hd;cases hd
     .by_cases hi1:i=1
      .subst hi1
       have h45:bA t 0≠45:=fun h45=>by
        rw[hd,h45] at h4
        simp[hi] at h4
       simp[h45]
      .simp;omega
    .rw[Bool.not_eq_true] at hd
     rw[hd]
     rfl
   .intro h
    refine⟨⟨?_,?_⟩,fun i hi=>(Jh (h i hi)).1⟩
    .rw[<-Bool.not_eq_true]
     intro hd
     rcases (Jh (h 0 h1)).2 hd with h6|h6
     .omega
     .omega
    .rw[<-Bool.not_eq_true]
     intro hh
     simp only[Bool.and_eq_true,beq_iff_eq,decide_eq_true_eq] at hh
     rcases (Jh (h 1 hh.1.2)).2 hh.2 with h6|h6
     .omega
     .exact h6.2 hh.1.1
  .unfold symB
   rw[decide_eq_false h2,Bool.and_false]
   rfl
 .unfold symB
  rw[decide_eq_false h1]
  rfl
theorem AcU(n:Nat)(t:ByteArray)(Z:aC):(env (n+21)).call 158 [.string t] none Z=.ret (.bool (symB t)) none Z:=by
 rw[Aqg,Al _ 158 _ _ rfl,Uc _ _ _ _ (by simp),Aj]
 unfold Th
 by_cases h1:1<=t.size
 .have d0:(Int.ofNat t.size==0)=false:=by rw[beq_eq_false_iff_ne];simp only[Int.ofNat_eq_natCast,ne_eq];omega
  rw[decide_eq_true h1,Bool.true_and]
  by_cases h2:t.size<=20
  .have d1:decide (Int.ofNat t.size>20)=false:=by simp;omega
   rw[decide_eq_true h2,Bool.true_and]
   have hkeep:∃keep,bE nls 158=keep/\13∈keep/\14∈keep:=⟨_,rfl,by decide,by decide⟩
   obtain⟨keep,hkp,hk⟩:=hkeep
   simp -implicitDefEqProofs only[go_sem,HZ,HY,H3,H0,Pv,Lv,d0,d1,Ag,hkp]
   generalize hff:upd _ 2 _=f1
   generalize hgg:upd _ 14 _=g1
   obtain⟨f',g',h⟩:=AfA n t h2 keep hk Z t.size bF 0 f1 g1 (by omega) (by show t.size<1000000000000;omega) (by omega) (by rw[<-hff];simp -implicitDefEqProofs only[go_sem,reduceCtorEq]) (by rw[<-hgg];simp -implicitDefEqProofs only[go_sem,reduceCtorEq]) (by rw[<-hgg];simp -implicitDefEqProofs only[go_sem,reduceCtorEq]<;>rfl)
   rcases h with⟨h3,h4⟩|⟨⟨k,h3,h4,h5⟩,h6,h7⟩
   .have e:(List.range t.size).all (okAt t)=true:=List.all_eq_true.2 fun k hk=>h3 k (Nat.zero_le _) (List.mem_range.1 hk)
    rw[h4,e]
    simp -implicitDefEqProofs only[go_sem,MC,Jz]
   .have e:(List.range t.size).all (okAt t)=false:=by
     rw[<-Bool.not_eq_true,List.all_eq_true]
     intro h
     have:=h k (List.mem_range.2 h4)
     rw[h5] at this
     cases this
    rw[h6,e]
    simp -implicitDefEqProofs only[go_sem,h7]
  .have d1:decide (Int.ofNat t.size>20)=true:=by simp;omega
   rw[decide_eq_false h2,Bool.false_and]
   simp -implicitDefEqProofs only[go_sem,HZ,HY,H3,H0,Pu,Lu,d0,d1]
 .have d0:(Int.ofNat t.size==0)=true:=by rw[beq_iff_eq];simp only[Int.ofNat_eq_natCast];omega
  rw[decide_eq_false h1,Bool.false_and,Bool.false_and]
  simp -implicitDefEqProofs only[go_sem,HZ,HY,H3,H0,Pu,Lu,d0]
theorem Afw{t:ByteArray}{i:Nat}(hi:i<t.size):(t.get! (i+0)).toNat=bA t i:=by
 unfold bA
 rw[Nat.add_zero,getElem!_pos t i hi]
 obtain⟨a⟩:=t
 show (a[i]!).toNat=_
 rw[getElem!_pos a i hi]
 rfl
theorem TT{t:ByteArray}{i:Nat}(hi:i<t.size)(h:128<=bA t i):126<(Utf8.decode t i).1:=by
 unfold Utf8.decode
 simp only[Afw hi]
 rw[if_neg (by omega)]
 split
 .split
  .simp only;omega
  .show 126<Utf8.runeError;decide
 .split
  .split
   .rename_i hh
    simp only[Bool.and_eq_true,decide_eq_true_eq] at hh
    simp only
    omega
   .show 126<Utf8.runeError;decide
  .split
   .split
    .rename_i hh
     simp only[Bool.and_eq_true,decide_eq_true_eq] at hh
     simp only
     omega
    .show 126<Utf8.runeError;decide
   .show 126<Utf8.runeError;decide
theorem Oe(n r:Nat)(s:ByteArray)(hs:∃k,k<s.size/\plainC (bA s k)=false)(bU:aC)(hr:bU.next<=r):∀(m pos fuel:Nat) (f g:Nat->Value) (Z:aC),pos+m=s.size->m<fuel->(∀k,k<pos->plainC (bA s k)=true)->g 6=.pointer (some ⟨r,0,none⟩)->Wf Z->Ext bU Z->
  (∃ver,Z.heap.get r=some ⟨.siter s pos,false,none,ver⟩)->
  ∃f' g' V,floop [6] (Hj (env n) none 159) fuel (Sl 5 16 f g []) none Z=.done .ret (Sl 5 16 f' g' []) none V/\Wf V/\Ext bU V/\f' 2=.bool false:=by
 intro m
 induction m with
 | zero=>
  intro pos fuel f g Z hp hf hpl h6 hw hX ⟨ver,hg⟩
  obtain⟨k,hk,hk2⟩:=hs
  rw[hpl k (by omega)] at hk2
  cases hk2
 | succ m ih=>
  intro pos fuel f g Z hp hf hpl h6 hw hX ⟨ver,hg⟩
  obtain⟨fuel,rfl⟩:∃q,fuel=q+1:=⟨fuel-1,by omega⟩
  have hlt:pos<s.size:=by omega
  cases hc:plainC (bA s pos) with
  | true=>
   have hc':=hc
   unfold plainC at hc'
   simp only[Bool.and_eq_true,decide_eq_true_eq] at hc'
   have hd:=GD hlt (by omega)
   have hn:=Iw hg hlt hd
   generalize hcc:bA s pos=c at *
   have d1:decide ((c:Int)<32)=false:=by simp;omega
   have d2:decide ((c:Int)>126)=false:=by simp;omega
   rw[Ao]
   unfold Hj
   simp -implicitDefEqProofs only[go_sem,Gn,GV,H5,H4,H7,H6,h6,hn,List.mem_cons,List.not_mem_nil,HH,K0,d1,d2]
   refine ih (pos+1) fuel _ _ _ (by omega) (by omega) (fun k hk=>?_) ?_ (hw.put _ _ _ (hw _ _ hg).1) (hX.put _ _ _ hr) ⟨_,by rw[Am,if_pos rfl]⟩
   .by_cases hkp:k=pos
    .subst hkp;rw[hcc];exact hc
    .exact hpl k (by omega)
   .simp -implicitDefEqProofs only[go_sem,reduceCtorEq,h6,List.mem_cons,List.not_mem_nil,true_or]
  | false=>
   obtain⟨c,w,hd⟩:∃c w,Utf8.decode s pos=(c,w):=⟨_,_,rfl⟩
   have hn:=Iw hg hlt hd
   have bad:c<32\/126<c:=by
    by_cases hb:bA s pos<128
    .rw[GD hlt hb] at hd
     cases hd
     unfold plainC at hc
     rw[Bool.and_eq_false_iff,decide_eq_false_iff_not,decide_eq_false_iff_not] at hc
     omega
    .have:=TT hlt (by omega)
     rw[hd] at this
     exact .inr this
   have hfin:∃f' g',floop [6] (Hj (env n) none 159) (fuel+1) (Sl 5 16 f g []) none Z=.done .ret (Sl 5 16 f' g' []) none (Z.put r (.siter s (pos+w)) none)/\f' 2=.bool false:=by
    rw[Ao]
    unfold Hj
    by_cases h1:c<32
    .have d1:decide ((c:Int)<32)=true:=by simp;omega
     simp -implicitDefEqProofs only[go_sem,Gn,GV,H5,H4,H7,H6,Py,Ly,h6,hn,List.mem_cons,List.not_mem_nil,HH,K0,d1]
     exact⟨_,_,rfl,by simp -implicitDefEqProofs only[go_sem,reduceCtorEq]⟩
    .have d1:decide ((c:Int)<32)=false:=by simp;omega
     have d2:decide ((c:Int)>126)=true:=by simp;omega
     simp -implicitDefEqProofs only[go_sem,Gn,GV,H5,H4,H7,H6,Py,Ly,h6,hn,List.mem_cons,List.not_mem_nil,HH,K0,d1,d2]
     exact⟨_,_,rfl,by simp -implicitDefEqProofs only[go_sem,reduceCtorEq]⟩
   obtain⟨f',g',h1,h2⟩:=hfin
   exact⟨f',g',_,h1,hw.put _ _ _ (hw _ _ hg).1,hX.put _ _ _ hr,h2⟩
theorem U2(n:Nat)(s:ByteArray)(hs:plainB s=false)(hsz:s.size<1000000)(Z:aC)(hw:Wf Z):Gives ((env (n+1)).call 159 [.string s] none Z) Z fun w _=>w=.bool false:=by
 have hs':∃k,k<s.size/\plainC (bA s k)=false:=by
  unfold plainB at hs
  rw[List.all_eq_false] at hs
  obtain⟨k,h1,h2⟩:=hs
  exact⟨k,List.mem_range.1 h1,by simpa using h2⟩
 rw[Al _ 159 _ _ rfl,Ud _ _ _ _ (by simp),Aj]
 unfold Ti
 have hfr:frangeS (.string s) Z=.val (.pointer (some ⟨Z.next,0,none⟩)) (Z.push (.siter s 0) none):=rfl
 simp -implicitDefEqProofs only[go_sem,Pw,Lw,Px,Lx,hfr,Abj]
 generalize hf:upd (fun _=>_) 2 _=f1
 generalize hbf:bF=fuel
 obtain⟨f',g',V,e,hw',hX',h2⟩:=Oe n Z.next s hs' Z (Nat.le_refl _) s.size 0 fuel f1 (upd (upd (fun _=>undef) 5 (.string s)) 6 (.pointer (some ⟨Z.next,0,none⟩))) (Z.push (.siter s 0) none) (by omega) (by rw[<-hbf];show s.size<1000000000000;omega) (fun k hk=>by omega) (by simp -implicitDefEqProofs only[go_sem,reduceCtorEq]) (hw.push _ _) ((Ext.refl _).push _ _) ⟨_,by rw[Ai,if_pos rfl]⟩
 rw[e]
 simp -implicitDefEqProofs only[go_sem,h2]
 exact⟨_,_,rfl,hX',hw',rfl⟩
theorem Dm(id:Nat)(ch:List PanicEntry)(a:aY)(u:Option FrameMode)(Z:aC):blockK id (.done (.panic ch) a u Z)=.done (.panic ch) a u Z:=rfl
section
variable {kk n l bw bo bp base:Nat} {R:Nat->Prop} {g:Value} {I:List (List Nat×D)->(Nat->Prop)->aC->Prop} {all done:List (List Nat×D)} {B:Nat->Prop} {u:Value} {us:List Value} {ds:List D} {i:Nat} {d:D} {r:List (List D×Nat)} {f:Nat->Value} {Z:aC}
def PanAt(E:Env)(l:Nat)(R:Nat->Prop)(I:List (List Nat×D)->(Nat->Prop)->aC->Prop)(J:(Nat->Prop)->aC->Prop)(pre:List (List Nat×D))(path:List Nat)(d:D)(ch:List PanicEntry):Prop:=
 ∀B Z pv v,Wf Z->I pre B Z->PathAt Z pv path->aL R Z v d->∃B' V,E.round l [pv,v] Z=.pan ch none V/\Wf V/\Chg B Z V/\(∀b,B' b->B b\/Z.next<=b)/\J B' V
theorem Aep{J:(Nat->Prop)->aC->Prop}{ch:List PanicEntry}(hB:BodyTo kk (env n) l R g I all)(hst:PanAt (env n) l R I J done (wayOf r++[i]) d ch)(h:WHead l R g I all bw bo bp base B (u::us) ((ds,i)::r) done f Z)(hd:ds[i]? = some d)(hr:r.length<90000)(gg:Nat->Value):
  ∃f' g' V B',F8 (env n) none 137 (Sl 8 80 f gg []) none Z=.done (.panic ch) (Sl 8 80 f' g' []) none V/\Chg (fun b=>B b\/base<=b) Z V/\(∀b,B' b->B b\/base<=b)/\Wf V/\J B' V:=by
 obtain⟨p,c,mo,mp,rfl,hE,hl,h4,co,ho,h5,cp,hp⟩:=h.top
 have hv:=Dw h.wf (Nat.le_refl Z.clock)
 have d0:decide (Int.ofNat (r.length+1)>0)=true:=by simp
 have w1:=AaV r.length (by omega)
 have lt1:r.length<r.length+1:=Nat.lt_succ_self _
 have hi:i<ds.length:=(List.getElem?_eq_some_iff.1 hd).1
 have ne1:(Int.ofNat i==Int.ofNat ds.length)=false:=by simp;omega
 obtain⟨b,off,cs,rfl,hRb,hcs,hle,hL⟩:=aO.get hE hd
 rw[Nat.zero_add] at hle hL
 obtain⟨k,z,t,q,c',hag,hq⟩:=aL.shape hL
 have htk:(cs.drop (off+i*4)).take 4=[.int .i64 k,.int .i64 z,.string t,.slice q d.parts.length c']:=by
  have:=congrArg (fun v=>match v with|.agg a=>a.toList|_=>[]) hag
  simpa using this
 rw[htk] at hL
 have hall:=h.all
 rw[FF r hd] at hall
 unfold F8
 simp -implicitDefEqProofs only[go_sem,HR,HQ,J9,Jp,J_,Jq,h4,h5,d0,w1,lt1,hv,co,cp,ho,hp,ne1]
 generalize hg:upd _ 33 _=g1
 clear hg
 have f4:upd f 6 (Value.int IntKind.i64 (Int.ofNat (r.length+1))) 4=f 4:=by simp -implicitDefEqProofs only[go_sem,reduceCtorEq]
 have f5:upd f 6 (Value.int IntKind.i64 (Int.ofNat (r.length+1))) 5=f 5:=by simp -implicitDefEqProofs only[go_sem,reduceCtorEq]
 have f0:upd f 6 (Value.int IntKind.i64 (Int.ofNat (r.length+1))) 0=f 0:=by simp -implicitDefEqProofs only[go_sem,reduceCtorEq]
 have f2:upd f 6 (Value.int IntKind.i64 (Int.ofNat (r.length+1))) 2=f 2:=by simp -implicitDefEqProofs only[go_sem,reduceCtorEq]
 have f6:upd f 6 (Value.int IntKind.i64 (Int.ofNat (r.length+1))) 6=Value.int IntKind.i64 (Int.ofNat (r.length+1)):=by simp -implicitDefEqProofs only[go_sem,reduceCtorEq]
 generalize upd f 6 _=f1 at f4 f5 f0 f2 f6 ⊢
 simp -implicitDefEqProofs only[go_sem,Ar,Pm,Ll,f4,f5,f6,h4,h5,w1,lt1,hv,co,cp,ho,hp,hi,hcs,hle,htk]
 generalize hg:upd _ 62 _=g2
 clear hg
 have p0:upd f1 7 (Value.pointer (some ⟨Z.next,0,none⟩)) 0=f 0:=by simp -implicitDefEqProofs only[go_sem,reduceCtorEq,f0]
 have p2:upd f1 7 (Value.pointer (some ⟨Z.next,0,none⟩)) 2=f 2:=by simp -implicitDefEqProofs only[go_sem,reduceCtorEq,f2]
 have p4:upd f1 7 (Value.pointer (some ⟨Z.next,0,none⟩)) 4=f 4:=by simp -implicitDefEqProofs only[go_sem,reduceCtorEq,f4]
 have p5:upd f1 7 (Value.pointer (some ⟨Z.next,0,none⟩)) 5=f 5:=by simp -implicitDefEqProofs only[go_sem,reduceCtorEq,f5]
 have p6:upd f1 7 (Value.pointer (some ⟨Z.next,0,none⟩)) 6=Value.int IntKind.i64 (Int.ofNat (r.length+1)):=by simp -implicitDefEqProofs only[go_sem,reduceCtorEq,f6]
 have p7:upd f1 7 (Value.pointer (some ⟨Z.next,0,none⟩)) 7=Value.pointer (some ⟨Z.next,0,none⟩):=by simp -implicitDefEqProofs only[go_sem,reduceCtorEq]
 generalize upd f1 7 _=f2' at p0 p2 p4 p5 p6 p7 ⊢
 have x1:Ext Z ((Z.push (.cells [.int .i64 0,.int .i64 0,.string ⟨#[]⟩,.slice none 0 0] TD) none).put Z.next (.cells [.int .i64 k,.int .i64 z,.string t,.slice q d.parts.length c'] TD) none):=((Ext.refl _).push _ _).put _ _ _ (Nat.le_refl _)
 have hw1:=(h.wf.push (.cells [.int .i64 0,.int .i64 0,.string ⟨#[]⟩,.slice none 0 0] TD) none).put Z.next (.cells [.int .i64 k,.int .i64 z,.string t,.slice q d.parts.length c'] TD) none (Nat.lt_succ_self _)
 have b1:((Z.push (.cells [.int .i64 0,.int .i64 0,.string ⟨#[]⟩,.slice none 0 0] TD) none).put Z.next (.cells [.int .i64 k,.int .i64 z,.string t,.slice q d.parts.length c'] TD) none).cells Z.next=some [.int .i64 k,.int .i64 z,.string t,.slice q d.parts.length c']:=by rw[Ak,if_pos rfl];rfl
 have hcl:((Z.push (.cells [.int .i64 0,.int .i64 0,.string ⟨#[]⟩,.slice none 0 0] TD) none).put Z.next (.cells [.int .i64 k,.int .i64 z,.string t,.slice q d.parts.length c'] TD) none).clock=Z.clock+2:=rfl
 have hnx:((Z.push (.cells [.int .i64 0,.int .i64 0,.string ⟨#[]⟩,.slice none 0 0] TD) none).put Z.next (.cells [.int .i64 k,.int .i64 z,.string t,.slice q d.parts.length c'] TD) none).next=Z.next+1:=rfl
 generalize aC.put _ _ _ _=a_ at x1 hw1 b1 hcl hnx ⊢
 have hv1:=Dw hw1 (Nat.le_of_eq hcl)
 have hlp:r.length+1<=(List.map (fun i=>Value.int IntKind.i64 (Int.ofNat i)) (wayOf r)++Value.int IntKind.i64 (Int.ofNat i)::mp).length:=by simp[Dx]
 have sl3:=UH Tryz.prog 25 TI 1 bp 0 (r.length+1) _ (r.length+1) (view a_ (Z.clock+2)) NM Tn hlp
 have i1:I done B a_:=hB.stays _ _ _ _ h.inv h.wf (x1.chg _)
 have hbpn:=h.pth.lt h.wf
 have hP:PathAt a_ (.slice (some ⟨bp,0,none⟩) (r.length+1) (r.length+1)) (wayOf r++[i]):=⟨some ⟨bp,0,none⟩,r.length+1,by simp[Dx],.inr ⟨bp,mp,rfl,by rw[x1.cells hbpn,cp];simp⟩⟩
 have kR:∀b cs,R b->Z.cells b=some cs->a_.cells b=some cs/\R b:=fun b cs hb hc=>⟨(x1.cells (h.wf.cells hc)).trans hc,hb⟩
 obtain⟨B',a9,e2,hw2,ch2,hB',j2⟩:=hst B a_ _ _ hw1 i1 hP (hL.keep kR)
 simp -implicitDefEqProofs only[go_sem,Mz,Jo,p0,p5,p6,p7,h.f0,h5,hv1,b1,sl3,Eo,EB,e2,A8,Ay]
 have hbase:=h.base
 have n1:=x1.next
 exact⟨_,_,a9,B',rfl,(x1.chg _).trans (ch2.weaken fun b _ hb=>.inl hb) (fun b _ hb=>hb),fun b hb=>(hB' b hb).imp id fun h'=>by omega,hw2,j2⟩
theorem Ol{J:(Nat->Prop)->aC->Prop}{ch:List PanicEntry}{pre rest:List (List Nat×D)}{path:List Nat}(hB:BodyTo pre.length (env n) l R g I all)(hst:PanAt (env n) l R I J pre path d ch)(hS:Small all)(hsplit:all=pre++(path,d)::rest):∀(m fuel:Nat) (st:List (List D×Nat)) (us:List Value) (done:List (List Nat×D)) (B:Nat->Prop) (bo bp:Nat) (f gg:Nat->Value) (Z:aC),
  2*(todo st).length+st.length<=m->m<fuel->st.length<=80000->done.length<=pre.length->WHead l R g I all bw bo bp base B us st done f Z->
  ∃f' g' V B',floop [] (F8 (env n) none 137) fuel (Sl 8 80 f gg []) none Z=.done (.panic ch) (Sl 8 80 f' g' []) none V/\Chg (fun b=>B b\/base<=b) Z V/\(∀b,B' b->B b\/base<=b)/\Wf V/\J B' V:=by
 intro m
 induction m with
 | zero=>
  intro fuel st us done B bo bp f gg Z hm hf hst' hdl h
  obtain rfl:st=[]:=by cases st with|nil=>rfl|cons _ _=>simp at hm
  have hall:=h.all
  rw[show todo ([]:List (List D×Nat))=[] from rfl,List.append_nil,hsplit] at hall
  have:=congrArg List.length hall
  simp at this
  omega
 | succ m ih=>
  intro fuel st us done B bo bp f gg Z hm hf hst' hdl h
  obtain⟨fuel,rfl⟩:∃q,fuel=q+1:=⟨fuel-1,by omega⟩
  cases st with
  | nil=>exact ih (fuel+1) [] us done B bo bp f gg Z (by simp[todo]) (by omega) hst' hdl h
  | cons x r=>
   obtain⟨ds,i⟩:=x
   cases us with
   | nil=>exact absurd h.lev (fun h=>h)
   | cons u us=>
    have hi:i<=ds.length:=h.lev.2.1
    have hr:r.length+1<=80000:=hst'
    rw[Ao,Bl]
    by_cases he:i=ds.length
    .subst he
     obtain⟨f',g',V,e,hC,hH⟩:=Ww hB h (by omega) (kept [] gg)
     rw[e,Az]
     rw[NK,Ik] at hm
     have hlb:(bump r).length=r.length:=by cases r<;>rfl
     obtain⟨f2,g2,a9,B2,e2,hC2,hB2,hw2,hJ2⟩:=ih fuel _ _ _ _ _ _ f' g' V (by simp at hm;omega) (by omega) (by omega) hdl hH
     exact⟨f2,g2,a9,B2,e2,(hC.weaken fun b _ hb=>.inr hb.1).trans hC2 (fun b _ hb=>hb),hB2,hw2,hJ2⟩
    .have hlt:i<ds.length:=by omega
     have hd:ds[i]? = some ds[i]:=List.getElem?_eq_getElem hlt
     have hall:=h.all
     rw[FF r hd] at hall
     have hx:=hS (wayOf r++[i],ds[i]) (by rw[hall];simp)
     by_cases hk:done.length<pre.length
     .obtain⟨f',g',V,B',bo',bp',u',e,hC,hBB,hH⟩:=Wv hB hk h hd (by omega) hx.2 (kept [] gg)
      rw[e,Az]
      rw[FF r hd] at hm
      have hl:(wayOf r++[i]).length=r.length+1:=by simp[Dx]
      have hx1:=hx.1
      simp only[hl] at hx1
      obtain⟨f2,g2,a9,B2,e2,hC2,hB2,hw2,hJ2⟩:=ih fuel _ _ _ _ _ _ f' g' V (by simp at hm ⊢;omega) (by omega) (by simp;omega) (by simp;omega) hH
      refine⟨f2,g2,a9,B2,e2,hC.trans hC2 fun b _ hb=>?_,fun b hb=>?_,hw2,hJ2⟩
      .rcases hb with hb|hb
       .exact hBB b hb
       .exact .inr hb
      .rcases hB2 b hb with hb|hb
       .exact hBB b hb
       .exact .inr hb
     .have hle:done.length=pre.length:=by omega
      rw[hsplit] at hall
      obtain⟨h1,h2⟩:=List.append_inj hall hle.symm
      obtain⟨h3,h4⟩:=List.cons.inj h2
      obtain⟨h5,h6⟩:=Prod.mk.inj h3
      subst h1
      rw[h5] at hst
      have hst2:PanAt (env n) l R I J pre (wayOf r++[i]) ds[i] ch:=by rw[<-h6];exact hst
      obtain⟨f',g',V,B',e,hC,hBB,hw',hJ⟩:=Aep hB hst2 h hd (by omega) (kept [] gg)
      rw[e,Ay]
      exact⟨f',g',V,B',rfl,hC,hBB,hw',hJ⟩
theorem Aa0(d:D){J:(Nat->Prop)->aC->Prop}{ch:List PanicEntry}{pre rest:List (List Nat×D)}{path:List Nat}{x:D}(hB:BodyTo pre.length (env n) l R g I (d.pieces []))(hst:PanAt (env n) l R I J pre path x ch)(hsplit:d.pieces []=pre++(path,x)::rest)(hS:Small (d.pieces []))(hN:(d.pieces []).length<100000000000)(b1 b2:Nat)(Z:aC)(v:Value)(lv:List Value)(B:Nat->Prop)(hw:Wf Z)(hi:I [] B Z)(hcv:Z.cells b1=some lv)(hv:v=.agg lv.toArray)(hb1:¬ B b1)(hL:aL R Z v d)(hR:∀b,R b->b<Z.next)(hcw:Z.cells b2=some [g])(hb2:¬ B b2):
  ∃V B',(env (n+1)).call 137 [.func (.yield l) #[] #[],.pointer (some ⟨b1,0,none⟩),.pointer (some ⟨b2,0,none⟩)] none Z=.pan ch none V/\Chg B Z V/\(∀b,B' b->B b\/Z.next<=b)/\Wf V/\J B' V:=by
 subst hv
 obtain⟨k,z,t,q,c',hag,hq⟩:=aL.shape hL
 have hlv:lv=[.int .i64 k,.int .i64 z,.string t,.slice q d.parts.length c']:=by
  have:=congrArg (fun v=>match v with|.agg a=>a.toList|_=>[]) hag
  simpa using this
 subst hlv
 have hpc:=D.pieces_eq [] d
 by_cases hpre:pre=[]
 .subst hpre
  rw[hpc] at hsplit
  obtain⟨h3,h4⟩:=List.cons.inj hsplit
  obtain⟨h5,h6⟩:=Prod.mk.inj h3
  subst h5
  subst h6
  obtain⟨B',a_,e1,hw1,ch1,hB1,j1⟩:=hst B Z (.slice none 0 0) _ hw hi ⟨none,0,rfl,.inl ⟨rfl,rfl,rfl⟩⟩ hL
  rw[Al _ 137 _ _ rfl,LP _ _ _ _ (by simp),Aj]
  unfold Nz
  have tk:List.take 4 [Value.int .i64 k,.int .i64 z,.string t,.slice q d.parts.length c']=[.int .i64 k,.int .i64 z,.string t,.slice q d.parts.length c']:=rfl
  simp -implicitDefEqProofs only[go_sem,J8,Jn,hcv,Eo,EB,e1,A8,Ay,AA,AV]
  exact⟨_,_,rfl,ch1,hB1,hw1,j1⟩
 have hpos:0<pre.length:=List.length_pos_iff.2 hpre
 obtain⟨B',a_,e1,hw1,ch1,hB1,i1⟩:=hB.go [] [] d _ B Z (.slice none 0 0) _ hpos (by rw[hpc];rfl) hw hi ⟨none,0,rfl,.inl ⟨rfl,rfl,rfl⟩⟩ hL
 have ownB:=hB.own _ _ _ hi
 have ownB1:=hB.own _ _ _ i1
 have hb1n:=hw.cells hcv
 have hb2n:=hw.cells hcw
 have n1:=ch1.next
 have cv1:a_.cells b1=some [.int .i64 k,.int .i64 z,.string t,.slice q d.parts.length c']:=(ch1.cells hb1n hb1).trans hcv
 have cw1:a_.cells b2=some [g]:=(ch1.cells hb2n hb2).trans hcw
 obtain⟨_,a9,e2,x2,hw2,rfl⟩:=hB.inside _ B' a_ k z t q d.parts.length c' i1 hw1
 have n2:=x2.next
 have x3:Ext a9 ((a9.push (.cells [.slice q d.parts.length c'] TL) none).push (.cells [.int .i64 0] TI) none):=((Ext.refl _).push _ _).push _ _
 have hw3:=(hw2.push (.cells [.slice q d.parts.length c'] TL) none).push (.cells [.int .i64 0] TI) none
 have hlow:∀b,B' b->B b\/Z.next<=b:=hB1
 have nB:∀b,b<Z.next->¬ B b->¬ B' b:=fun b hb h1 h2=>by
  rcases hB1 b h2 with h3|h3
  .exact h1 h3
  .omega
 have c03:∀b,b<Z.next->¬ B b->((a9.push (.cells [.slice q d.parts.length c'] TL) none).push (.cells [.int .i64 0] TI) none).heap.get b=Z.heap.get b:=fun b hb h0=>
  (x3.get b (by omega)).trans ((x2.get b (by omega)).trans (ch1.get b hb h0))
 have kR:∀b cs,R b->Z.cells b=some cs->((a9.push (.cells [.slice q d.parts.length c'] TL) none).push (.cells [.int .i64 0] TI) none).cells b=some cs:=fun b cs hb hc=>by
  rw[AO,c03 b (hR b hb) (fun hB0=>(ownB b hB0).2 hb),<-AO]
  exact hc
 rw[Al _ 137 _ _ rfl,LP _ _ _ _ (by simp),Aj]
 unfold Nz
 have tk:List.take 4 [Value.int .i64 k,.int .i64 z,.string t,.slice q d.parts.length c']=[.int .i64 k,.int .i64 z,.string t,.slice q d.parts.length c']:=rfl
 simp -implicitDefEqProofs only[go_sem,J8,Jn,Pi,Lh,Pj,Li,hcv,Eo,EB,e1,cw1,cv1,e2,Aqn,Fg]
 generalize hff:upd _ 5 _=f1
 generalize hgg:upd _ 16 _=g1
 generalize hbf:bF=fuel
 have hH:WHead l R g I (d.pieces []) b2 a9.next (a9.next+1) Z.next B' [.slice q d.parts.length c'] [(d.parts,0)] ([]++[([],d)]) f1 ((a9.push (.cells [.slice q d.parts.length c'] TL) none).push (.cells [.int .i64 0] TI) none):={
  f0:=by rw[<-hff];simp -implicitDefEqProofs only[go_sem,reduceCtorEq]
  f2:=by rw[<-hff];simp -implicitDefEqProofs only[go_sem,reduceCtorEq]
  cw:=by rw[AO,c03 b2 hb2n hb2,<-AO];exact hcw
  hbw:=⟨hb2n,nB b2 hb2n hb2⟩
  opn:=⟨_,none,a9.clock,by rw[<-hff];simp -implicitDefEqProofs only[go_sem,reduceCtorEq]<;>rfl,by rw[Ai,if_neg (by rw[Ac];omega),Ai,if_pos rfl];rfl,.inl rfl,[],rfl⟩
  hbo:=⟨by omega,fun h=>by have:=(ownB1 _ h).1;omega⟩
  lev:=⟨⟨q,c',rfl,hq.keep fun b cs hb hc=>⟨kR b cs hb hc,hb⟩⟩,Nat.zero_le _,(hS ([],d) (by rw[hpc];exact List.mem_cons_self)).2,trivial⟩
  low:=hR
  pth:=⟨_,none,a9.clock+1,by rw[<-hff];simp -implicitDefEqProofs only[go_sem,reduceCtorEq]<;>rfl,by rw[Ai,if_pos (by rw[Ac])];rfl,.inl rfl,[],rfl⟩
  hbp:=⟨by omega,fun h=>by have:=(ownB1 _ h).1;omega⟩
  ne:=by omega
  inv:=hB.stays _ _ _ _ i1 hw1 (by
   have:=x2.clock
   have:=x3.clock
   have:=x3.next
   exact⟨by omega,by omega,fun b hb _=>(x3.get b (by omega)).trans (x2.get b hb)⟩)
  all:=by rw[hpc];show _=[]++[([],d)]++(D.piecesL [] 0 (d.parts.drop 0)++[]);simp
  wf:=hw3
  base:=by rw[Ac,Ac];omega }
 obtain⟨f2,g2,bX,B4,e4,ch4,hB4,hw4,i4⟩:=Ol hB hst hS hsplit _ fuel _ _ _ _ _ _ f1 g1 _ (Nat.le_refl _) (by
  rw[<-hbf]
  show _<1000000000000
  have h1:(todo [(d.parts,0)]).length=(D.piecesL [] 0 d.parts).length:=by simp[todo,below,wayOf]
  have h2:=congrArg List.length hpc
  rw[List.length_cons] at h2
  rw[h1,List.length_singleton]
  omega) (by simp) (by simp;omega) hH
 rw[e4]
 simp -implicitDefEqProofs only[go_sem,Dm,Ay,AA,AV]
 refine⟨_,B4,rfl,⟨?_,?_,?_⟩,?_,hw4,i4⟩
 .have:=x3.next;have:=ch4.next;omega
 .have:=ch1.clock;have:=x2.clock;have:=x3.clock;have:=ch4.clock;omega
 .intro b hb h0
  have:=x3.next
  rw[ch4.get b (by omega) (fun h=>by
   rcases h with h|h
   .exact nB b hb h0 h
   .omega)]
  exact c03 b hb h0
 .intro b hb
  rcases hB4 b hb with h|h
  .exact hB1 b h
  .exact .inr h
end
theorem Ob(l:Nat)(mark:List Deferred)(nl nt:Nat)(f g:Nat->Value)(ds:List Deferred)(u:Option FrameMode)(ch:List PanicEntry)(u':Option FrameMode)(Z:aC):
  leaveLoop l mark (Sl nl nt f g ds) u (.pan ch u' Z)=.done (.panic ch) (Sl nl nt f g (mark++ds)) u Z:=rfl
theorem P0(l:Nat)(ch:List PanicEntry)(nl nt:Nat)(f g:Nat->Value)(u:Option FrameMode)(Z:aC):endRound true l (.done (.panic ch) (Sl nl nt f g []) u Z)=.pan ch none Z:=rfl
theorem Nw{J:(Nat->Prop)->aC->Prop}{ch:List PanicEntry}{pre rest:List (List Nat×D)}{path:List Nat}{x:D}(m:Nat)(fn:FuncId)(params:List Tmp)(assign body:Code)(nl nt:Nat)(f g:Nat->Value)(ds:List Deferred)(u:Option FrameMode)(t b1 b2:Nat)(Z:aC)(w:Value)(R:Nat->Prop)(d:D)(lv:List Value)(I:List (List Nat×D)->(Nat->Prop)->aC->Prop)(B:Nat->Prop)(hB:BodyTo pre.length (env m) (Z.next+1) R w I (d.pieces []))(hst:PanAt (env m) (Z.next+1) R I J pre path x ch)(hsplit:d.pieces []=pre++(path,x)::rest)(hS:Small (d.pieces []))(hN:(d.pieces []).length<100000000000)(hi:I [] B ((Z.push (.defd true) none).push (.loop .ready none fn ((List.range nl).map f) g nl nt params assign body Z.next) none))(ht:(Sl nl nt f g ds).get t=.func (.func 137) #[] #[.pointer (some ⟨b1,0,none⟩),.pointer (some ⟨b2,0,none⟩)])(hw:Wf Z)(hcv:Z.cells b1=some lv)(hb1:¬ B b1)(hL:aL R Z (.agg lv.toArray) d)(hR:∀b,R b->b<Z.next)(hcw:Z.cells b2=some [w])(hb2:¬ B b2):
  ∃V B',frange (env (m+1)) none fn (.tmp t) params assign body (Sl nl nt f g ds) u Z=
    .done (.panic ch) (Sl nl nt f g ({ target:=.collected Z.next,args:=#[] }::ds)) u V/\
   Chg B Z V/\Z.next+2<=V.next/\(∀b,B' b->B b\/Z.next<=b)/\Wf V/\J B' V:=by
 rw[J3 _ _ _ _ _ _ _ _ _ _ _ _ t _ _ _ ht]
 have x1:Ext Z ((Z.push (.defd true) none).push (.loop .ready none fn ((List.range nl).map f) g nl nt params assign body Z.next) none):=((Ext.refl _).push _ _).push _ _
 have hw1:=(hw.push (.defd true) none).push (.loop .ready none fn ((List.range nl).map f) g nl nt params assign body Z.next) none
 have hn1:((Z.push (.defd true) none).push (.loop .ready none fn ((List.range nl).map f) g nl nt params assign body Z.next) none).next=Z.next+2:=rfl
 generalize aC.push _ (.loop .ready none fn ((List.range nl).map f) g nl nt params assign body Z.next) none=a_ at hi x1 hw1 hn1 ⊢
 have hb1n:=hw.cells hcv
 have hb2n:=hw.cells hcw
 obtain⟨a9,B2,e2,ch2,hB2,hw2,i2⟩:=Aa0 d hB hst hsplit hS hN b1 b2 a_ _ lv B hw1 hi ((x1.cells hb1n).trans hcv) rfl hb1 (hL.keep fun b cs hb hc=>⟨(x1.cells (hw.cells hc)).trans hc,hb⟩) (fun b hb=>by have:=hR b hb;omega) ((x1.cells hb2n).trans hcw) hb2
 have hargs:(#[]:Array Value).toList++[Value.func (.yield (Z.next+1)) #[] #[]]++(#[.pointer (some ⟨b1,0,none⟩),.pointer (some ⟨b2,0,none⟩)]:Array Value).toList=[.func (.yield (Z.next+1)) #[] #[],.pointer (some ⟨b1,0,none⟩),.pointer (some ⟨b2,0,none⟩)]:=rfl
 rw[hargs,e2,Ob]
 have n2:=ch2.next
 refine⟨a9,B2,rfl,⟨by omega,Nat.le_trans x1.clock ch2.clock,fun b hb h0=>(ch2.get b (by omega) h0).trans (x1.get b hb)⟩,by omega,fun b hb=>?_,hw2,i2⟩
 rcases hB2 b hb with h|h
 .exact .inl h
 .exact .inr (by omega)
theorem Ao5(n:Nat)(k z:Int)(t:ByteArray)(l:Nat)(p:Option Addr)(c:Nat)(Z:aC)(hw:Wf Z)(h:z≠0\/t.size≠0\/l≠0):
  Gives ((env (n+1)).call 221 [.agg #[.int .i64 k,.int .i64 z,.string t,.slice p l c]] none Z) Z fun w _=>w=.bool false:=by
 rw[Al _ 221 _ _ rfl,Ug _ _ _ _ (by simp),Aj]
 unfold Tl
 by_cases hz:z=0
 .have z1:(z==0)=true:=by simpa using hz
  by_cases ht:t.size=0
  .have t1:(t.toList==(⟨#[]⟩:ByteArray).toList)=true:=by rw[D0 ht];exact beq_self_eq_true _
   by_cases hl:l=0
   .have l1:(Int.ofNat l==0)=true:=by rw[hl];rfl
    exfalso
    omega
   .have l1:(Int.ofNat l==0)=false:=by rw[beq_eq_false_iff_ne];simp only[Int.ofNat_eq_natCast,ne_eq];omega
    simp -implicitDefEqProofs only[go_sem,H9,H8,Ia,H_,z1,t1,l1]
    exact⟨_,_,rfl,(Ext.refl _).push _ _,hw.push _ _,rfl⟩
  .have t1:=EC ht
   simp -implicitDefEqProofs only[go_sem,H9,H8,Ia,H_,z1,t1]
   exact⟨_,_,rfl,(Ext.refl _).push _ _,hw.push _ _,rfl⟩
 .have z1:(z==0)=false:=by simpa using hz
  simp -implicitDefEqProofs only[go_sem,H9,H8,Ia,H_,z1]
  exact⟨_,_,rfl,(Ext.refl _).push _ _,hw.push _ _,rfl⟩
theorem U1(n:Nat)(k z:Int)(t:ByteArray)(l:Nat)(p:Option Addr)(c:Nat)(Z:aC)(hw:Wf Z)(h:t.size≠0\/l≠0):
  Gives ((env (n+1)).call 219 [.agg #[.int .i64 k,.int .i64 z,.string t,.slice p l c]] none Z) Z fun w _=>w=.bool false:=by
 rw[Al _ 219 _ _ rfl,Uf _ _ _ _ (by simp),Aj]
 unfold Tk
 by_cases ht:t.size=0
 .have t1:(t.toList==(⟨#[]⟩:ByteArray).toList)=true:=by rw[D0 ht];exact beq_self_eq_true _
  by_cases hl:l=0
  .have l1:(Int.ofNat l==0)=true:=by rw[hl];rfl
   exfalso
   omega
  .have l1:(Int.ofNat l==0)=false:=by rw[beq_eq_false_iff_ne];simp only[Int.ofNat_eq_natCast,ne_eq];omega
   simp -implicitDefEqProofs only[go_sem,Kl,JE,Km,JF,t1,l1]
   exact⟨_,_,rfl,(Ext.refl _).push _ _,hw.push _ _,rfl⟩
 .have t1:=EC ht
  simp -implicitDefEqProofs only[go_sem,Kl,JE,Km,JF,t1]
  exact⟨_,_,rfl,(Ext.refl _).push _ _,hw.push _ _,rfl⟩
theorem AfS(n:Nat)(k z:Int)(t:ByteArray)(l:Nat)(p:Option Addr)(c:Nat)(Z:aC)(hw:Wf Z)(h:z≠0\/l≠0):
  Gives ((env (n+1)).call 213 [.agg #[.int .i64 k,.int .i64 z,.string t,.slice p l c]] none Z) Z fun w _=>w=.bool false:=by
 rw[Al _ 213 _ _ rfl,Ue _ _ _ _ (by simp),Aj]
 unfold Tj
 by_cases hz:z=0
 .have z1:(z==0)=true:=by simpa using hz
  by_cases hl:l=0
  .have l1:(Int.ofNat l==0)=true:=by rw[hl];rfl
   exfalso
   omega
  .have l1:(Int.ofNat l==0)=false:=by rw[beq_eq_false_iff_ne];simp only[Int.ofNat_eq_natCast,ne_eq];omega
   simp -implicitDefEqProofs only[go_sem,Kj,JC,Kk,JD,z1,l1]
   exact⟨_,_,rfl,(Ext.refl _).push _ _,hw.push _ _,rfl⟩
 .have z1:(z==0)=false:=by simpa using hz
  simp -implicitDefEqProofs only[go_sem,Kj,JC,Kk,JD,z1]
  exact⟨_,_,rfl,(Ext.refl _).push _ _,hw.push _ _,rfl⟩
theorem U0(n:Nat)(k z:Int)(t:ByteArray)(l:Nat)(p:Option Addr)(c:Nat)(Z:aC)(hw:Wf Z)(h:z≠0\/t.size≠0\/(k≠6/\l≠2)):
  Gives ((env (n+1)).call 223 [.agg #[.int .i64 k,.int .i64 z,.string t,.slice p l c]] none Z) Z fun w _=>w=.bool false:=by
 rw[Al _ 223 _ _ rfl,LS _ _ _ _ (by simp),Aj]
 unfold NC
 by_cases hz:z=0
 .have z1:(z==0)=true:=by simpa using hz
  by_cases ht:t.size=0
  .have t1:(t.toList==(⟨#[]⟩:ByteArray).toList)=true:=by rw[D0 ht];exact beq_self_eq_true _
   by_cases hb:k≠6/\l≠2
   .have b1:(k==6)=false:=by rw[beq_eq_false_iff_ne];exact hb.1
    have b2:(Int.ofNat l==2)=false:=by rw[beq_eq_false_iff_ne];simp only[Int.ofNat_eq_natCast,ne_eq];omega
    simp -implicitDefEqProofs only[go_sem,Gp,GW,Gq,GX,z1,t1,b1,b2]
    exact⟨_,_,rfl,(Ext.refl _).push _ _,hw.push _ _,rfl⟩
   .exfalso
    omega
  .have t1:=EC ht
   simp -implicitDefEqProofs only[go_sem,Gp,GW,Gq,GX,z1,t1]
   exact⟨_,_,rfl,(Ext.refl _).push _ _,hw.push _ _,rfl⟩
 .have z1:(z==0)=false:=by simpa using hz
  simp -implicitDefEqProofs only[go_sem,Gp,GW,Gq,GX,z1]
  exact⟨_,_,rfl,(Ext.refl _).push _ _,hw.push _ _,rfl⟩
theorem TE(n:Nat)(k z:Int)(t:ByteArray)(l:Nat)(p:Option Addr)(c:Nat)(Z:aC)(hw:Wf Z)(h:¬ (0<=k/\k<=6)):
  Fails ((env (n+3)).call 117 [.agg #[.int .i64 k,.int .i64 z,.string t,.slice p l c]] none Z) Z 4 0:=by
 rw[Al _ 117 _ _ rfl,TZ _ _ _ _ (by simp),Aj]
 unfold Tc
 have e0:(k==0)=false:=by rw[beq_eq_false_iff_ne];omega
 have e1:(k==1)=false:=by rw[beq_eq_false_iff_ne];omega
 have e2:(k==2)=false:=by rw[beq_eq_false_iff_ne];omega
 have e3:(k==3)=false:=by rw[beq_eq_false_iff_ne];omega
 have e4:(k==4)=false:=by rw[beq_eq_false_iff_ne];omega
 have e5:(k==5)=false:=by rw[beq_eq_false_iff_ne];omega
 have e6:(k==6)=false:=by rw[beq_eq_false_iff_ne];omega
 have hf:=fun τ=>G7 n 4 τ
 simp -implicitDefEqProofs only[go_sem,EE,E2,EF,E3,EG,E4,EU,Fk,Fv,FR,Gh,GN,HP,HO,IC,Hp,Mw,Jl,XM,My,e0,e1,e2,e3,e4,e5,e6,hf,Ag,A8,Ay,AA,AV]
 exact⟨_,rfl,(Ext.refl _).push _ _,hw.push _ _⟩
theorem J4(n:Nat)(z:Int)(t:ByteArray)(q:Value)(hq:oneCell q=true)(Z:aC)(hw:Wf Z)(h:¬ (0<=z/\z<=1)):
  Fails ((env (n+3)).call 139 [.agg #[.int .i64 1,.int .i64 z,.string t,q]] none Z) Z 13 0:=by
 rw[Al _ 139 _ _ rfl,LQ _ _ _ _ (by simp),Aj]
 unfold NA
 have hf:=fun τ=>G7 n 13 τ
 by_cases h1:z<0
 .have d1:decide (z<0)=true:=by simp;omega
  simp -implicitDefEqProofs only[go_sem,Int.reduceBEq,Fw,FT,Fx,FU,Fy,FV,Gi,GP,Fz,FW,HT,HS,hq,d1,hf,Ag,A8,Ay,AA,AV]
  exact⟨_,rfl,(Ext.refl _).push _ _,hw.push _ _⟩
 .have d1:decide (z<0)=false:=by simp;omega
  have d2:decide (z>1)=true:=by simp;omega
  simp -implicitDefEqProofs only[go_sem,Int.reduceBEq,Fw,FT,Fx,FU,Fy,FV,Gi,GP,Fz,FW,HT,HS,hq,d1,d2,hf,Ag,A8,Ay,AA,AV]
  exact⟨_,rfl,(Ext.refl _).push _ _,hw.push _ _⟩
theorem J5(n:Nat)(z:Int)(t:ByteArray)(q:Value)(hq:oneCell q=true)(Z:aC)(hw:Wf Z)(h:¬ ((-999999999)<=z/\z<=999999999)):
  Fails ((env (n+3)).call 139 [.agg #[.int .i64 2,.int .i64 z,.string t,q]] none Z) Z 13 0:=by
 rw[Al _ 139 _ _ rfl,LQ _ _ _ _ (by simp),Aj]
 unfold NA
 have hf:=fun τ=>G7 n 13 τ
 by_cases h1:z<(-999999999)
 .have d1:decide (z<(-999999999))=true:=by simp;omega
  simp -implicitDefEqProofs only[go_sem,Int.reduceBEq,Fw,FT,Fx,FU,Fy,FV,Gi,GP,Fz,FW,HT,HS,hq,d1,hf,Ag,A8,Ay,AA,AV]
  exact⟨_,rfl,(Ext.refl _).push _ _,hw.push _ _⟩
 .have d1:decide (z<(-999999999))=false:=by simp;omega
  have d2:decide (z>999999999)=true:=by simp;omega
  simp -implicitDefEqProofs only[go_sem,Int.reduceBEq,Fw,FT,Fx,FU,Fy,FV,Gi,GP,Fz,FW,HT,HS,hq,d1,d2,hf,Ag,A8,Ay,AA,AV]
  exact⟨_,rfl,(Ext.refl _).push _ _,hw.push _ _⟩
theorem KW(n:Nat)(z:Int)(t:ByteArray)(q:Value)(hq:oneCell q=true)(Z:aC)(hw:Wf Z)(h:symB t=false):
  Fails ((env (n+22)).call 140 [.agg #[.int .i64 3,.int .i64 z,.string t,q]] none Z) Z 2 0:=by
 rw[Al _ 140 _ _ rfl,LR _ _ _ _ (by simp),Aj]
 unfold NB
 have hf:=fun τ=>G7 (n+19) 2 τ
 have hy:=fun τ=>AcU n t τ
 rw[h] at hy
 simp -implicitDefEqProofs only[go_sem,Int.reduceBEq,Gj,GQ,Gk,GR,Ka,Jr,Gl,GS,Kb,Js,Gm,GU,Kc,Jt,hq,hy,Bool.not_false,hf,Ag,A8,Ay,Dm,AA,AV]
 exact⟨_,rfl,(Ext.refl _).push _ _,hw.push _ _⟩
theorem KV(n:Nat)(z:Int)(t:ByteArray)(q:Value)(hq:oneCell q=true)(Z:aC)(hw:Wf Z)(h:textE t≠0):
  Fails ((env (n+22)).call 140 [.agg #[.int .i64 4,.int .i64 z,.string t,q]] none Z) Z (textE t:Nat) 0:=by
 rw[Al _ 140 _ _ rfl,LR _ _ _ _ (by simp),Aj]
 unfold NB
 have x1:Ext Z (Z.push (.cells [.int .i64 4,.int .i64 z,.string t,q] 145) none):=(Ext.refl _).push _ _
 have hw1:=hw.push (.cells [.int .i64 4,.int .i64 z,.string t,q] 145) none
 by_cases h1:60<t.size
 .have e:textE t=8:=by unfold textE;rw[if_pos h1]
  have d1:decide (Int.ofNat t.size>60)=true:=by simp;omega
  have hf:=fun τ=>G7 (n+19) 8 τ
  simp -implicitDefEqProofs only[go_sem,Int.reduceBEq,Gj,GQ,Gk,GR,Ka,Jr,Gl,GS,Kb,Js,Gm,GU,Kc,Jt,hq,d1,hf,Ag,A8,Ay,Dm,AA,AV]
  exact⟨_,by rw[e];rfl,x1,hw1⟩
 .have hp:plainB t=false:=by
   rw[<-Bool.not_eq_true]
   intro hp
   apply h
   unfold textE
   rw[if_neg h1,if_pos hp]
  have e:textE t=13:=by unfold textE;rw[if_neg h1,hp];rfl
  have d1:decide (Int.ofNat t.size>60)=false:=by simp;omega
  have hf:=fun τ=>G7 (n+19) 13 τ
  obtain⟨_,a9,e2,x2,hw2,rfl⟩:=U2 (n+20) t hp (by omega) _ hw1
  simp -implicitDefEqProofs only[go_sem,Int.reduceBEq,Gj,GQ,Gk,GR,Ka,Jr,Gl,GS,Kb,Js,Gm,GU,Kc,Jt,hq,d1,e2,Bool.not_false,hf,Ag,A8,Ay,Dm,AA,AV]
  exact⟨_,by rw[e];rfl,x1.trans x2,hw2⟩
theorem Qt{k z:Int}{t:ByteArray}{l:Nat}(h:aQ k z t l≠0):(¬ (0<=k/\k<=6)/\aQ k z t l=4)\/
  (0<=k/\k<=6/\formB k z t l=true/\aQ k z t l=1)\/
  (formB k z t l=false/\((k=1/\¬ (0<=z/\z<=1)/\aQ k z t l=13)\/(k=2/\¬ (-999999999<=z/\z<=999999999)/\aQ k z t l=13)\/(k=3/\symB t=false/\aQ k z t l=2)\/(k=4/\textE t≠0/\aQ k z t l=textE t))):=by
 unfold aQ at h ⊢
 by_cases hk:0<=k/\k<=6
 .rw[if_pos hk] at h ⊢
  cases hf:formB k z t l with
  | true=>exact .inr (.inl ⟨hk.1,hk.2,rfl,by rw[if_pos rfl]⟩)
  | false=>
   refine .inr (.inr ⟨rfl,?_⟩)
   rw[hf,if_neg (by decide)] at h
   rw[if_neg (by decide)]
   by_cases h1:k=1
   .rw[if_pos h1] at h ⊢
    split at h
    .exact absurd rfl h
    .rename_i hr
     rw[if_neg hr]
     exact .inl ⟨h1,hr,rfl⟩
   .rw[if_neg h1] at h ⊢
    by_cases h2:k=2
    .rw[if_pos h2] at h ⊢
     split at h
     .exact absurd rfl h
     .rename_i hr
      rw[if_neg hr]
      exact .inr (.inl ⟨h2,hr,rfl⟩)
    .rw[if_neg h2] at h ⊢
     by_cases h3:k=3
     .rw[if_pos h3] at h ⊢
      split at h
      .exact absurd rfl h
      .rename_i hr
       rw[if_neg hr]
       exact .inr (.inr (.inl ⟨h3,by simpa using hr,rfl⟩))
     .rw[if_neg h3] at h ⊢
      by_cases h4:k=4
      .rw[if_pos h4] at h ⊢
       exact .inr (.inr (.inr ⟨h4,h,rfl⟩))
      .rw[if_neg h4] at h
       exact absurd rfl h
 .rw[if_neg hk]
  exact .inl ⟨hk,rfl⟩
theorem AoT{k z:Int}{t:ByteArray}{l:Nat}(h:formB k z t l=true):((k≠1/\k≠2)/\z≠0)\/((k≠3/\k≠4)/\t.size≠0)\/((k≠5/\k≠6)/\l≠0)\/(k=5/\l≠2):=by
 unfold formB at h
 simp only[Bool.or_eq_true,Bool.and_eq_true,Bool.not_eq_true',Bool.or_eq_false_iff,beq_eq_false_iff_ne,bne_iff_ne,decide_eq_true_eq,beq_iff_eq,ne_eq] at h
 omega
theorem Afs{k z:Int}{t:ByteArray}{l:Nat}(h:formB k z t l=false):((k=1\/k=2)\/z=0)/\((k=3\/k=4)\/t.size=0)/\((k=5\/k=6)\/l=0):=by
 unfold formB at h
 simp only[Bool.or_eq_false_iff,Bool.and_eq_false_iff,Bool.not_eq_false',Bool.or_eq_true,beq_iff_eq,bne_eq_false_iff_eq,decide_eq_false_iff_not,ne_eq,Decidable.not_not] at h
 omega
theorem Qh(n:Nat)(k z:Int)(t:ByteArray)(l:Nat)(p:Option Addr)(c:Nat)(Z:aC)(hw:Wf Z)(h:aQ k z t l≠0):
  Fails ((env (n+24)).call 112 [.agg #[.int .i64 k,.int .i64 z,.string t,.slice p l c]] none Z) Z (aQ k z t l:Nat) 0:=by
 have hX1:=(Ext.refl Z).push (.cells [.int .i64 k,.int .i64 z,.string t,.slice p l c] 24) none
 have hw1:=hw.push (.cells [.int .i64 k,.int .i64 z,.string t,.slice p l c] 24) none
 rw[Al _ 112 _ _ rfl,TY _ _ _ _ (by simp),Aj]
 unfold Tb
 rcases Qt h with⟨hk,he⟩|⟨hk1,hk2,hf,he⟩|⟨hf,hc⟩
 .obtain⟨a9,e2,hX2,hw2⟩:=TE (n+20) k z t l p c _ hw1 hk
  simp -implicitDefEqProofs only[go_sem,Dh,DX,Di,DY,e2,A8,Ay,AA,AV]
  exact⟨_,by rw[he];rfl,hX1.trans hX2,hw2⟩
 .have hfa:=AoT hf
  have hfl:=fun τ=>G7 (n+21) 1 τ
  obtain⟨k,rfl⟩:∃k':Nat,k=(k':Int):=⟨k.toNat,by omega⟩
  obtain⟨_,a9,e2,hX2,hw2,rfl⟩:=Fp (n+22) k (by omega) z t (.slice p l c) rfl _ hw1
  have hX:=hX1.trans hX2
  obtain rfl|rfl|rfl|rfl|rfl|rfl|rfl:k=0\/k=1\/k=2\/k=3\/k=4\/k=5\/k=6:=by omega
  .obtain⟨_,bT,e3,hX3,hw3,rfl⟩:=Ao5 (n+22) ((0:Nat):Int) z t l p c a9 hw2 (by omega)
   have wt:workType 0=180:=rfl
   simp -implicitDefEqProofs only[go_sem,Dh,DX,Di,DY,Dl,DZ,ES,Fh,e2,wt,UJ,e3,Bool.not_false,hfl,A8,Ay,AA,AV]
   exact⟨_,by rw[he];rfl,hX.trans hX3,hw3⟩
  .obtain⟨_,bT,e3,hX3,hw3,rfl⟩:=U1 (n+22) ((1:Nat):Int) z t l p c a9 hw2 (by omega)
   have wt:workType 1=177:=rfl
   simp -implicitDefEqProofs only[go_sem,Dh,DX,Di,DY,Dl,DZ,ES,Fh,e2,wt,Fu,e3,Bool.not_false,hfl,A8,Ay,AA,AV]
   exact⟨_,by rw[he];rfl,hX.trans hX3,hw3⟩
  .obtain⟨_,bT,e3,hX3,hw3,rfl⟩:=U1 (n+22) ((2:Nat):Int) z t l p c a9 hw2 (by omega)
   have wt:workType 2=177:=rfl
   simp -implicitDefEqProofs only[go_sem,Dh,DX,Di,DY,Dl,DZ,ES,Fh,e2,wt,Fu,e3,Bool.not_false,hfl,A8,Ay,AA,AV]
   exact⟨_,by rw[he];rfl,hX.trans hX3,hw3⟩
  .obtain⟨_,bT,e3,hX3,hw3,rfl⟩:=AfS (n+22) ((3:Nat):Int) z t l p c a9 hw2 (by omega)
   have wt:workType 3=145:=rfl
   simp -implicitDefEqProofs only[go_sem,Dh,DX,Di,DY,Dl,DZ,ES,Fh,e2,wt,HE,e3,Bool.not_false,hfl,A8,Ay,AA,AV]
   exact⟨_,by rw[he];rfl,hX.trans hX3,hw3⟩
  .obtain⟨_,bT,e3,hX3,hw3,rfl⟩:=AfS (n+22) ((4:Nat):Int) z t l p c a9 hw2 (by omega)
   have wt:workType 4=145:=rfl
   simp -implicitDefEqProofs only[go_sem,Dh,DX,Di,DY,Dl,DZ,ES,Fh,e2,wt,HE,e3,Bool.not_false,hfl,A8,Ay,AA,AV]
   exact⟨_,by rw[he];rfl,hX.trans hX3,hw3⟩
  .obtain⟨_,bT,e3,hX3,hw3,rfl⟩:=U0 (n+22) ((5:Nat):Int) z t l p c a9 hw2 (by omega)
   have wt:workType 5=181:=rfl
   simp -implicitDefEqProofs only[go_sem,Dh,DX,Di,DY,Dl,DZ,ES,Fh,e2,wt,HC,e3,Bool.not_false,hfl,A8,Ay,AA,AV]
   exact⟨_,by rw[he];rfl,hX.trans hX3,hw3⟩
  .obtain⟨_,bT,e3,hX3,hw3,rfl⟩:=U0 (n+22) ((6:Nat):Int) z t l p c a9 hw2 (by omega)
   have wt:workType 6=181:=rfl
   simp -implicitDefEqProofs only[go_sem,Dh,DX,Di,DY,Dl,DZ,ES,Fh,e2,wt,HC,e3,Bool.not_false,hfl,A8,Ay,AA,AV]
   exact⟨_,by rw[he];rfl,hX.trans hX3,hw3⟩
 .have hfn:=Afs hf
  rcases hc with⟨rfl,hr,he⟩|⟨rfl,hr,he⟩|⟨rfl,hr,he⟩|⟨rfl,hr,he⟩
  .obtain⟨_,a9,e2,hX2,hw2,rfl⟩:=Fp (n+22) 1 (by omega) z t (.slice p l c) rfl _ hw1
   have hX:=hX1.trans hX2
   obtain rfl:l=0:=by omega
   obtain rfl:t=⟨#[]⟩:=D0 (by omega)
   obtain⟨_,bT,e3,hX3,hw3,rfl⟩:=E0 (n+22) ((1:Nat):Int) z p c a9 hw2
   obtain⟨bV,e5,hX5,hw5⟩:=J4 (n+20) z ⟨#[]⟩ (.slice p 0 c) rfl ((bT.push (.cells [.int .i64 0,.int .i64 0,.string ⟨#[]⟩,.slice none 0 0] 177) none).put bT.next (.cells [.int .i64 ((1:Nat):Int),.int .i64 z,.string ⟨#[]⟩,.slice p 0 c] 177) none) ((hw3.push _ _).put _ _ _ (Nat.lt_succ_self _)) hr
   have hX4:=(((hX.trans hX3).push (.cells [.int .i64 0,.int .i64 0,.string ⟨#[]⟩,.slice none 0 0] 177) none).put bT.next (.cells [.int .i64 ((1:Nat):Int),.int .i64 z,.string ⟨#[]⟩,.slice p 0 c] 177) none (hX.trans hX3).next).trans hX5
   have wt:workType 1=177:=rfl
   have e5':(env (n+23)).call 139 [.agg #[.int .i64 ((1:Nat):Int),.int .i64 z,.string ⟨#[]⟩,.slice p 0 c]] none _=_:=e5
   have e2':(env (n+23)).call 117 [.agg #[.int .i64 1,.int .i64 z,.string ⟨#[]⟩,.slice p 0 c]] none _=_:=e2
   simp -implicitDefEqProofs only[go_sem,Ar,Dh,DX,Di,DY,Dl,DZ,Ef,Ep,Eg,Er,HJ,HI,HL,HK,e2',wt,Fu,e3,IU,e5',Bool.not_true,A8,Ay,Dm,AA,AV,Ag]
   exact⟨_,by rw[he]<;>rfl,hX4,hw5⟩
  .obtain⟨_,a9,e2,hX2,hw2,rfl⟩:=Fp (n+22) 2 (by omega) z t (.slice p l c) rfl _ hw1
   have hX:=hX1.trans hX2
   obtain rfl:l=0:=by omega
   obtain rfl:t=⟨#[]⟩:=D0 (by omega)
   obtain⟨_,bT,e3,hX3,hw3,rfl⟩:=E0 (n+22) ((2:Nat):Int) z p c a9 hw2
   obtain⟨bV,e5,hX5,hw5⟩:=J5 (n+20) z ⟨#[]⟩ (.slice p 0 c) rfl ((bT.push (.cells [.int .i64 0,.int .i64 0,.string ⟨#[]⟩,.slice none 0 0] 177) none).put bT.next (.cells [.int .i64 ((2:Nat):Int),.int .i64 z,.string ⟨#[]⟩,.slice p 0 c] 177) none) ((hw3.push _ _).put _ _ _ (Nat.lt_succ_self _)) hr
   have hX4:=(((hX.trans hX3).push (.cells [.int .i64 0,.int .i64 0,.string ⟨#[]⟩,.slice none 0 0] 177) none).put bT.next (.cells [.int .i64 ((2:Nat):Int),.int .i64 z,.string ⟨#[]⟩,.slice p 0 c] 177) none (hX.trans hX3).next).trans hX5
   have wt:workType 2=177:=rfl
   have e5':(env (n+23)).call 139 [.agg #[.int .i64 ((2:Nat):Int),.int .i64 z,.string ⟨#[]⟩,.slice p 0 c]] none _=_:=e5
   have e2':(env (n+23)).call 117 [.agg #[.int .i64 2,.int .i64 z,.string ⟨#[]⟩,.slice p 0 c]] none _=_:=e2
   simp -implicitDefEqProofs only[go_sem,Ar,Dh,DX,Di,DY,Dl,DZ,Ef,Ep,Eg,Er,HJ,HI,HL,HK,e2',wt,Fu,e3,IU,e5',Bool.not_true,A8,Ay,Dm,AA,AV,Ag]
   exact⟨_,by rw[he]<;>rfl,hX4,hw5⟩
  .obtain⟨_,a9,e2,hX2,hw2,rfl⟩:=Fp (n+22) 3 (by omega) z t (.slice p l c) rfl _ hw1
   have hX:=hX1.trans hX2
   obtain rfl:l=0:=by omega
   obtain rfl:z=0:=by omega
   obtain⟨_,bT,e3,hX3,hw3,rfl⟩:=FM (n+22) ((3:Nat):Int) t p c a9 hw2
   obtain⟨bV,e5,hX5,hw5⟩:=KW (n+1) 0 t (.slice p 0 c) rfl ((bT.push (.cells [.int .i64 0,.int .i64 0,.string ⟨#[]⟩,.slice none 0 0] 145) none).put bT.next (.cells [.int .i64 ((3:Nat):Int),.int .i64 0,.string t,.slice p 0 c] 145) none) ((hw3.push _ _).put _ _ _ (Nat.lt_succ_self _)) hr
   have hX4:=(((hX.trans hX3).push (.cells [.int .i64 0,.int .i64 0,.string ⟨#[]⟩,.slice none 0 0] 145) none).put bT.next (.cells [.int .i64 ((3:Nat):Int),.int .i64 0,.string t,.slice p 0 c] 145) none (hX.trans hX3).next).trans hX5
   have wt:workType 3=145:=rfl
   have e5':(env (n+23)).call 140 [.agg #[.int .i64 ((3:Nat):Int),.int .i64 0,.string t,.slice p 0 c]] none _=_:=e5
   have e2':(env (n+23)).call 117 [.agg #[.int .i64 3,.int .i64 0,.string t,.slice p 0 c]] none _=_:=e2
   simp -implicitDefEqProofs only[go_sem,Ar,Dh,DX,Di,DY,Dl,DZ,Ef,Ep,Eg,Er,ET,Fj,HN,HM,GM,Gg,e2',wt,HE,e3,PT,KZ,e5',Bool.not_true,A8,Ay,Dm,AA,AV,Ag]
   exact⟨_,by rw[he]<;>rfl,hX4,hw5⟩
  .obtain⟨_,a9,e2,hX2,hw2,rfl⟩:=Fp (n+22) 4 (by omega) z t (.slice p l c) rfl _ hw1
   have hX:=hX1.trans hX2
   obtain rfl:l=0:=by omega
   obtain rfl:z=0:=by omega
   obtain⟨_,bT,e3,hX3,hw3,rfl⟩:=FM (n+22) ((4:Nat):Int) t p c a9 hw2
   obtain⟨bV,e5,hX5,hw5⟩:=KV (n+1) 0 t (.slice p 0 c) rfl ((bT.push (.cells [.int .i64 0,.int .i64 0,.string ⟨#[]⟩,.slice none 0 0] 145) none).put bT.next (.cells [.int .i64 ((4:Nat):Int),.int .i64 0,.string t,.slice p 0 c] 145) none) ((hw3.push _ _).put _ _ _ (Nat.lt_succ_self _)) hr
   have hX4:=(((hX.trans hX3).push (.cells [.int .i64 0,.int .i64 0,.string ⟨#[]⟩,.slice none 0 0] 145) none).put bT.next (.cells [.int .i64 ((4:Nat):Int),.int .i64 0,.string t,.slice p 0 c] 145) none (hX.trans hX3).next).trans hX5
   have wt:workType 4=145:=rfl
   have e5':(env (n+23)).call 140 [.agg #[.int .i64 ((4:Nat):Int),.int .i64 0,.string t,.slice p 0 c]] none _=_:=e5
   have e2':(env (n+23)).call 117 [.agg #[.int .i64 4,.int .i64 0,.string t,.slice p 0 c]] none _=_:=e2
   simp -implicitDefEqProofs only[go_sem,Ar,Dh,DX,Di,DY,Dl,DZ,Ef,Ep,Eg,Er,ET,Fj,HN,HM,GM,Gg,e2',wt,HE,e3,PT,KZ,e5',Bool.not_true,A8,Ay,Dm,AA,AV,Ag]
   exact⟨_,by rw[he]<;>rfl,hX4,hw5⟩
theorem Tt(kk m l r cb mp:Nat)(R:Nat->Prop)(f g:Nat->Value)(all:List (List Nat×D))(hne:cb<r/\r<l)(h3:f 3=.pointer (some ⟨cb,0,none⟩))(hR:∀b,R b->b<cb)(hG:∀(i:Nat) path k z t ds,i<kk->all[i]? = some (path,D.mk k z t ds)->∃k':Nat,k=(k':Int)/\Good m k' z t ds.length)(hN:all.length<=2000):
  BodyTo kk (env (m+3)) l R (.func (.func 110) #[.pointer (some ⟨cb,0,none⟩)] #[]) (ValidI l r cb mp f g) all where
 stays:=fun done B Z V ⟨h1,h2,h3,h4,h5,⟨v6,h6⟩,⟨v7,h7⟩,h8⟩ hw hC=>by
  have k:∀b,B b->b<Z.next->V.heap.get b=Z.heap.get b:=fun b hb hn=>hC.get b hn fun h=>h.1 hb
  have hn:=hC.next
  exact⟨h1,by omega,by omega,by omega,h5.keep (k l ((h1 l).2 (.inl rfl)) h2),⟨v6,(k r ((h1 r).2 (.inr (.inl rfl))) h3).trans h6⟩,⟨v7,(k cb ((h1 cb).2 (.inr (.inr rfl))) h4).trans h7⟩,h8⟩
 own:=fun done B Z ⟨h1,h2,h3,h4,_⟩ b hb=>by
  rcases (h1 b).1 hb with rfl|rfl|rfl
  .exact⟨h2,fun h=>by have:=hR _ h;omega⟩
  .exact⟨h3,fun h=>by have:=hR _ h;omega⟩
  .exact⟨h4,fun h=>by have:=hR _ h;omega⟩
 inside:=fun done B Z k z t p ln c ⟨h1,h2,h3,h4,h5,h6,⟨v7,h7⟩,h8⟩ hw=>by
  refine OQ (m+2) _ 110 #[.pointer (some ⟨cb,0,none⟩)] rfl k z t (.slice p ln c) (AC _ _ _) Z hw fun V hx hw'=>?_
  have hc:=Aq ((hx.get cb h4).trans h7)
  exact⟨_,V,Uh (m+1) cb (Int.ofNat done.length) (by rw[Int.ofNat_eq_natCast];omega) p ln c V _ hc,Ext.refl _,hw',rfl⟩
 go:=fun done path d rest B Z pv v hkk hall hw ⟨h1,h2,h4,h5,h6,⟨v6,h7⟩,⟨v7,h8⟩,h9⟩ _ hL=>by
  have hlen:done.length+1<=2000:=by have:=congrArg List.length hall;simp at this;omega
  obtain⟨k,z,t,ps⟩:=d
  obtain⟨k',rfl,hGd⟩:=hG done.length path k z t ps hkk (by rw[hall];simp)
  obtain⟨p,c,rfl,hq⟩:=hL
  rw[JK _ _ _ _ _ _ _ _ _ (m+2) l r _ h6 rfl,JS]
  simp -implicitDefEqProofs only[go_sem,Ar,M7,M6,List.zip_cons_cons,List.zip_nil_right,FQ,GL]
  have x1:Ext Z ((Z.push (.cells [.int .i64 0,.int .i64 0,.string ⟨#[]⟩,.slice none 0 0] TD) none).put Z.next (.cells [.int .i64 (k':Int),.int .i64 z,.string t,.slice p ps.length c] TD) none):=((Ext.refl _).push _ _).put _ _ _ (Nat.le_refl _)
  have hw1:=(hw.push (.cells [.int .i64 0,.int .i64 0,.string ⟨#[]⟩,.slice none 0 0] TD) none).put Z.next (.cells [.int .i64 (k':Int),.int .i64 z,.string t,.slice p ps.length c] TD) none (Nat.lt_succ_self _)
  have b1:((Z.push (.cells [.int .i64 0,.int .i64 0,.string ⟨#[]⟩,.slice none 0 0] TD) none).put Z.next (.cells [.int .i64 (k':Int),.int .i64 z,.string t,.slice p ps.length c] TD) none).cells Z.next=some [.int .i64 (k':Int),.int .i64 z,.string t,.slice p ps.length c]:=by rw[Ak,if_pos rfl];rfl
  have n1:((Z.push (.cells [.int .i64 0,.int .i64 0,.string ⟨#[]⟩,.slice none 0 0] TD) none).put Z.next (.cells [.int .i64 (k':Int),.int .i64 z,.string t,.slice p ps.length c] TD) none).next=Z.next+1:=rfl
  generalize aC.put _ _ _ _=a_ at x1 hw1 b1 n1 ⊢
  have l1:=h6.keep (x1.get l h2)
  rw[EZ _ _ _ _ _ _ _ _ _ l r _ l1,JT]
  have hw2:=hw1.put l (.loop .busy none 64 ((List.range 6).map f) g 6 25 [12,13] Dy Dz r) none (by omega)
  have l2:LoopAt 64 [12,13] Dy Dz 6 25 f g l r .busy (a_.put l (.loop .busy none 64 ((List.range 6).map f) g 6 25 [12,13] Dy Dz r) none):=LoopAt.put _ _ _ _ _ _ _ _ _ _ _ _
  have b2:(a_.put l (.loop .busy none 64 ((List.range 6).map f) g 6 25 [12,13] Dy Dz r) none).cells Z.next=some [.int .i64 (k':Int),.int .i64 z,.string t,.slice p ps.length c]:=by rw[Ak,if_neg (by omega)];exact b1
  have g2:(a_.put l (.loop .busy none 64 ((List.range 6).map f) g 6 25 [12,13] Dy Dz r) none).heap.get cb=some ⟨.cells [.int .i64 (.ofNat done.length),.map (some mp)] 130,false,none,v7⟩:=by rw[Am,if_neg (by omega)];exact(x1.get cb h5).trans h8
  have r2:(a_.put l (.loop .busy none 64 ((List.range 6).map f) g 6 25 [12,13] Dy Dz r) none).heap.get r=some ⟨.defd true,false,none,v6⟩:=by rw[Am,if_neg (by omega)];exact(x1.get r h4).trans h7
  have hC2:Chg B Z (a_.put l (.loop .busy none 64 ((List.range 6).map f) g 6 25 [12,13] Dy Dz r) none):=(x1.chg B).put _ _ _ (.inr ((h1 l).2 (.inl rfl)))
  have n2:(a_.put l (.loop .busy none 64 ((List.range 6).map f) g 6 25 [12,13] Dy Dz r) none).next=Z.next+1:=n1
  generalize aC.put _ l _ _=a9 at hw2 l2 b2 g2 r2 hC2 n2 ⊢
  obtain⟨_,bT,e3,x3,hw3,rfl⟩:=Mf m k' z t p ps.length c hGd a9 hw2
  have n3:=x3.next
  have g3:bT.heap.get cb=some ⟨.cells [.int .i64 (.ofNat done.length),.map (some mp)] 130,false,none,v7⟩:=(x3.get cb (by omega)).trans g2
  have c3:=Aq g3
  have w1:=Ga done.length (by omega)
  simp -implicitDefEqProofs only[go_sem,M9,M8,VO,Sq,h3,b2,e3,c3,g3,w1,Nat.le_refl]
  have l3:=(l2.keep (x3.get l (by omega)))
  have l4:∀o:FObj,LoopAt 64 [12,13] Dy Dz 6 25 f g l r .busy (bT.put cb o none):=fun o=>l3.keep (by rw[Am,if_neg (by omega)])
  rw[Hc _ _ _ _ _ _ _ _ _ _ l r _ _ (l4 _)]
  refine⟨B,_,rfl,(hw3.put _ _ _ (by omega)).put _ _ _ (by rw[Aw];omega),((hC2.trans (x3.chg B) (fun b _ h=>h)).put _ _ _ (.inr ((h1 cb).2 (.inr (.inr rfl))))).put _ _ _ (.inr ((h1 l).2 (.inl rfl))),fun b hb=>.inl hb,h1,?_,?_,?_,LoopAt.put _ _ _ _ _ _ _ _ _ _ _ _,⟨v6,?_⟩,⟨bT.clock,?_⟩,by simp;omega⟩
  .rw[Aw,Aw];omega
  .rw[Aw,Aw];omega
  .rw[Aw,Aw];omega
  .rw[Am,if_neg (by omega),Am,if_neg (by omega),x3.get r (by omega)];exact r2
  .rw[Am,if_neg (by omega),Am,if_pos rfl,List.length_append,List.length_singleton]
def LeftAt(r:Nat)(B:Nat->Prop)(Z:aC):Prop:=r<Z.next/\∃ver,Z.heap.get r=some ⟨.defd true,false,none,ver⟩
theorem WJ(m l r cb mp:Nat)(R:Nat->Prop)(f g:Nat->Value)(hne:cb<r/\r<l)(h3:f 3=.pointer (some ⟨cb,0,none⟩))(done:List (List Nat×D))(path:List Nat)(k' z:Int)(t:ByteArray)(ps:List D)(he:aQ k' z t ps.length≠0):
  PanAt (env (m+25)) l R (ValidI l r cb mp f g) (LeftAt r) done path (.mk k' z t ps) [failing (aQ k' z t ps.length:Nat) 0]:=fun B Z pv v hw ⟨h1,h2,h4,h5,h6,⟨v6,h7⟩,⟨v7,h8⟩,h9⟩ _ hL=>by
  obtain⟨p,c,rfl,hq⟩:=hL
  rw[JK _ _ _ _ _ _ _ _ _ (m+24) l r _ h6 rfl,JS]
  simp -implicitDefEqProofs only[go_sem,Ar,M7,M6,List.zip_cons_cons,List.zip_nil_right,FQ,GL]
  have x1:Ext Z ((Z.push (.cells [.int .i64 0,.int .i64 0,.string ⟨#[]⟩,.slice none 0 0] TD) none).put Z.next (.cells [.int .i64 k',.int .i64 z,.string t,.slice p ps.length c] TD) none):=((Ext.refl _).push _ _).put _ _ _ (Nat.le_refl _)
  have hw1:=(hw.push (.cells [.int .i64 0,.int .i64 0,.string ⟨#[]⟩,.slice none 0 0] TD) none).put Z.next (.cells [.int .i64 k',.int .i64 z,.string t,.slice p ps.length c] TD) none (Nat.lt_succ_self _)
  have b1:((Z.push (.cells [.int .i64 0,.int .i64 0,.string ⟨#[]⟩,.slice none 0 0] TD) none).put Z.next (.cells [.int .i64 k',.int .i64 z,.string t,.slice p ps.length c] TD) none).cells Z.next=some [.int .i64 k',.int .i64 z,.string t,.slice p ps.length c]:=by rw[Ak,if_pos rfl];rfl
  have n1:((Z.push (.cells [.int .i64 0,.int .i64 0,.string ⟨#[]⟩,.slice none 0 0] TD) none).put Z.next (.cells [.int .i64 k',.int .i64 z,.string t,.slice p ps.length c] TD) none).next=Z.next+1:=rfl
  generalize aC.put _ _ _ _=a_ at x1 hw1 b1 n1 ⊢
  have l1:=h6.keep (x1.get l h2)
  rw[EZ _ _ _ _ _ _ _ _ _ l r _ l1,JT]
  have hw2:=hw1.put l (.loop .busy none 64 ((List.range 6).map f) g 6 25 [12,13] Dy Dz r) none (by omega)
  have l2:LoopAt 64 [12,13] Dy Dz 6 25 f g l r .busy (a_.put l (.loop .busy none 64 ((List.range 6).map f) g 6 25 [12,13] Dy Dz r) none):=LoopAt.put _ _ _ _ _ _ _ _ _ _ _ _
  have b2:(a_.put l (.loop .busy none 64 ((List.range 6).map f) g 6 25 [12,13] Dy Dz r) none).cells Z.next=some [.int .i64 k',.int .i64 z,.string t,.slice p ps.length c]:=by rw[Ak,if_neg (by omega)];exact b1
  have g2:(a_.put l (.loop .busy none 64 ((List.range 6).map f) g 6 25 [12,13] Dy Dz r) none).heap.get cb=some ⟨.cells [.int .i64 (.ofNat done.length),.map (some mp)] 130,false,none,v7⟩:=by rw[Am,if_neg (by omega)];exact(x1.get cb h5).trans h8
  have r2:(a_.put l (.loop .busy none 64 ((List.range 6).map f) g 6 25 [12,13] Dy Dz r) none).heap.get r=some ⟨.defd true,false,none,v6⟩:=by rw[Am,if_neg (by omega)];exact(x1.get r h4).trans h7
  have hC2:Chg B Z (a_.put l (.loop .busy none 64 ((List.range 6).map f) g 6 25 [12,13] Dy Dz r) none):=(x1.chg B).put _ _ _ (.inr ((h1 l).2 (.inl rfl)))
  have n2:(a_.put l (.loop .busy none 64 ((List.range 6).map f) g 6 25 [12,13] Dy Dz r) none).next=Z.next+1:=n1
  generalize aC.put _ l _ _=a9 at hw2 l2 b2 g2 r2 hC2 n2 ⊢
  obtain⟨bT,e3,x3,hw3⟩:=Qh m k' z t ps.length p c a9 hw2 he
  have n3:=x3.next
  simp -implicitDefEqProofs only[go_sem,M9,M8,h3,b2,e3,Nat.le_refl,A8,Ay]
  have hkn:(Tryz.prog.funcs[64]?).isSome=true:=by rw[Tryz.func64];rfl
  rw[Dm,hkn,P0]
  exact⟨B,_,rfl,hw3,hC2.trans (x3.chg B) (fun b _ h=>h),fun b hb=>.inl hb,by omega,v6,(x3.get r (by omega)).trans r2⟩
theorem WH(m:Nat)(d:D)(lv:List Value)(h4:lv.length=4)(R:Nat->Prop)(Z:aC)(hw:Wf Z)(hL:aL R Z (.agg lv.toArray) d)(hR:∀b,R b->b<Z.next)(hS:Small (d.pieces []))(hN:(d.pieces []).length<=2000)(pre rest:List (List Nat×D))(path:List Nat)(k' z:Int)(t:ByteArray)(ps:List D)(hsplit:d.pieces []=pre++(path,.mk k' z t ps)::rest)(hG:∀(i:Nat) path k z t ds,i<pre.length->(d.pieces [])[i]? = some (path,D.mk k z t ds)->∃k':Nat,k=(k':Int)/\Good (m+22) k' z t ds.length)(he:aQ k' z t ps.length≠0):
  Fails ((env (m+27)).call 64 [.agg lv.toArray] none Z) Z (aQ k' z t ps.length:Nat) 0:=by
 rw[Al _ 64 _ _ rfl,Abb _ _ _ _ (by simp),Aj]
 unfold Ab9
 have ht:lv.take 4=lv:=List.take_of_length_le (by omega)
 simp -implicitDefEqProofs only[go_sem,Ar,VL,Sk,VM,Sm,Jg,JN,KG]
 generalize hff:upd _ 3 _=f1
 generalize hg0:upd _ 7 _=g0
 have q1:f1 1=.pointer (some ⟨Z.next,0,none⟩):=by rw[<-hff];simp -implicitDefEqProofs only[go_sem,reduceCtorEq]
 have q3:f1 3=.pointer (some ⟨Z.next+2,0,none⟩):=by rw[<-hff];simp -implicitDefEqProofs only[go_sem,reduceCtorEq]
 clear hff hg0
 have x1:Ext Z ((((Z.push (.cells lv TD) none).push (.map [] 0) none).push (.cells [.int .i64 0,.map none] 130) none).put (Z.next+2) (.cells [.int .i64 0,.map (some (Z.next+1))] 130) none):=((((Ext.refl _).push _ _).push _ _).push _ _).put _ _ _ (by omega)
 have hw1:=(((hw.push (.cells lv TD) none).push (.map [] 0) none).push (.cells [.int .i64 0,.map none] 130) none).put (Z.next+2) (.cells [.int .i64 0,.map (some (Z.next+1))] 130) none (Nat.lt_succ_self _)
 have g1:((((Z.push (.cells lv TD) none).push (.map [] 0) none).push (.cells [.int .i64 0,.map none] 130) none).put (Z.next+2) (.cells [.int .i64 0,.map (some (Z.next+1))] 130) none).heap.get (Z.next+2)=some ⟨.cells [.int .i64 0,.map (some (Z.next+1))] 130,false,none,Z.clock+3⟩:=by rw[Am,if_pos rfl];rfl
 have c1:((((Z.push (.cells lv TD) none).push (.map [] 0) none).push (.cells [.int .i64 0,.map none] 130) none).put (Z.next+2) (.cells [.int .i64 0,.map (some (Z.next+1))] 130) none).cells Z.next=some lv:=by
  rw[Ak,if_neg (by omega),Ah,if_neg (by simp only[Ac];omega),Ah,if_neg (by simp only[Ac];omega),Ah,if_pos rfl];rfl
 have n1:((((Z.push (.cells lv TD) none).push (.map [] 0) none).push (.cells [.int .i64 0,.map none] 130) none).put (Z.next+2) (.cells [.int .i64 0,.map (some (Z.next+1))] 130) none).next=Z.next+3:=rfl
 generalize aC.put _ _ _ _=a_ at x1 hw1 g1 c1 n1 ⊢
 obtain⟨a9,e2,x2,hw2,n2,cb2,cb1⟩:=WM (m+25) (.func (.func 110) #[.pointer (some ⟨Z.next+2,0,none⟩)] #[]) lv a_ hw1 (Ek _ _ _)
 simp -implicitDefEqProofs only[go_sem,VN,Sn,q1,q3,c1,h4,ht,e2,Nat.le_refl,Ek,E7]
 generalize hgg:upd _ 11 _=gg
 have hL2:aL R a9 (.agg lv.toArray) d:=hL.keep fun b cs hb hc=>⟨((x1.trans x2).cells (hw.cells hc)).trans hc,hb⟩
 have hcm2:a9.heap.get (Z.next+2)=some ⟨.cells [.int .i64 0,.map (some (Z.next+1))] 130,false,none,Z.clock+3⟩:=(x2.get _ (by omega)).trans g1
 obtain⟨bT,B3,e3,ch3,n3,hB3,hw3,i3⟩:=Nw (m+25) 64 [12,13] Dy Dz 6 25 f1 gg [] none 11 (a_.next+1) a_.next a9 (.func (.func 110) #[.pointer (some ⟨Z.next+2,0,none⟩)] #[]) R d lv (ValidI (a9.next+1) a9.next (Z.next+2) (Z.next+1) f1 gg) (fun b=>b=a9.next+1\/b=a9.next\/b=Z.next+2)
  (Tt pre.length (m+22) (a9.next+1) a9.next (Z.next+2) (Z.next+1) R f1 gg _ ⟨by omega,by omega⟩ q3 (fun b hb=>by have:=hR b hb;omega) hG hN) (WJ m (a9.next+1) a9.next (Z.next+2) (Z.next+1) R f1 gg ⟨by omega,by omega⟩ q3 pre path k' z t ps he) hsplit hS (by omega)
  ⟨fun b=>Iff.rfl,by rw[Ac,Ac];omega,by rw[Ac,Ac];omega,by rw[Ac,Ac];omega,J7 ..,⟨_,by rw[Ai,if_neg (by rw[Ac];omega),Ai,if_pos rfl]⟩,⟨_,by rw[Ai,if_neg (by rw[Ac];omega),Ai,if_neg (by omega)];exact hcm2⟩,by simp⟩
  (by rw[PN,<-hgg];simp -implicitDefEqProofs only[go_sem,reduceCtorEq]) hw2 cb1 (fun h=>by rcases h with h|h|h<;>omega) hL2 (fun b hb=>by have:=hR b hb;omega) cb2 (fun h=>by rcases h with h|h|h<;>omega)
 rw[e3]
 obtain⟨h2,v6,h7⟩:=i3
 rw[Dm,Ay,AA,Om]
 rw[I7 _ _ _ _ _ _ _ _ _ _ _ h7]
 have x3:Ext Z bT:=⟨by omega,by have:=x1.clock;have:=x2.clock;have:=ch3.clock;omega,fun b hb=>(ch3.get b (by omega) (fun h=>by rcases h with h|h|h<;>omega)).trans ((x1.trans x2).get b hb)⟩
 rw[AV]
 exact⟨_,rfl,x3.put _ _ _ (by omega),hw3.put _ _ _ (by omega)⟩
def pE:D->Nat
 | .mk k z t ds=>aQ k z t ds.length
mutual
theorem Aql:∀(d:D) (path:List Nat),aR d=0->∀y∈d.pieces path,pE y.2=0
 | .mk k z t ds,path,h=>fun y hy=>by
  rw[aR] at h
  split at h
  .rename_i hp
   rw[D.pieces] at hy
   rcases List.mem_cons.1 hy with rfl|hy
   .exact hp
   .exact AeH ds path 0 h y hy
  .omega
theorem AeH:∀(ds:List D) (path:List Nat) (i:Nat),bR ds=0->∀y∈D.piecesL path i ds,pE y.2=0
 | [],path,i,_=>fun y hy=>by simp[D.piecesL] at hy
 | d::ds,path,i,h=>fun y hy=>by
  rw[bR] at h
  rw[D.piecesL] at hy
  split at h
  .rename_i hp
   rcases List.mem_append.1 hy with hy|hy
   .exact Aql d _ hp y hy
   .exact AeH ds path (i+1) h y hy
  .omega
end
def SplitE(A:List (List Nat×D))(e:Nat):Prop:=∃pre path x rest,A=pre++(path,x)::rest/\(∀y∈pre,pE y.2=0)/\pE x=e
mutual
theorem Acf:∀(d:D) (path:List Nat),aR d≠0->SplitE (d.pieces path) (aR d)
 | .mk k z t ds,path,h=>by
  rw[aR] at h ⊢
  by_cases hp:aQ k z t ds.length=0
  .rw[if_pos hp] at h ⊢
   obtain⟨pre,p,x,rest,h1,h2,h3⟩:=WC ds path 0 h
   rw[D.pieces,h1]
   refine⟨(path,.mk k z t ds)::pre,p,x,rest,rfl,fun y hy=>?_,h3⟩
   rcases List.mem_cons.1 hy with rfl|hy
   .exact hp
   .exact h2 y hy
  .rw[if_neg hp]
   exact⟨[],path,.mk k z t ds,D.piecesL path 0 ds,by rw[D.pieces];rfl,fun y hy=>(by cases hy),rfl⟩
theorem WC:∀(ds:List D) (path:List Nat) (i:Nat),bR ds≠0->SplitE (D.piecesL path i ds) (bR ds)
 | [],path,i,h=>absurd rfl h
 | d::ds,path,i,h=>by
  rw[bR] at h ⊢
  rw[D.piecesL]
  by_cases hp:aR d=0
  .rw[if_pos hp] at h ⊢
   obtain⟨pre,p,x,rest,h1,h2,h3⟩:=WC ds path (i+1) h
   rw[h1]
   refine⟨d.pieces (path++[i])++pre,p,x,rest,by rw[List.append_assoc],fun y hy=>?_,h3⟩
   rcases List.mem_append.1 hy with hy|hy
   .exact Aql d _ hp y hy
   .exact h2 y hy
  .rw[if_neg hp]
   obtain⟨pre,p,x,rest,h1,h2,h3⟩:=Acf d (path++[i]) hp
   rw[h1]
   exact⟨pre,p,x,rest++D.piecesL path (i+1) ds,by rw[List.append_assoc];rfl,h2,h3⟩
end
mutual
theorem Jk:∀(d:D) (path:List Nat),∀y∈d.pieces path,y.2.count<=d.count
 | .mk k z t ds,path=>fun y hy=>by
  rw[D.pieces] at hy
  rcases List.mem_cons.1 hy with rfl|hy
  .exact Nat.le_refl _
  .rw[D.count]
   have:=Ig ds path 0 y hy
   omega
theorem Ig:∀(ds:List D) (path:List Nat) (i:Nat),∀y∈D.piecesL path i ds,y.2.count<=D.counts ds
 | [],path,i=>fun y hy=>by simp[D.piecesL] at hy
 | d::ds,path,i=>fun y hy=>by
  rw[D.piecesL] at hy
  rw[D.counts]
  rcases List.mem_append.1 hy with hy|hy
  .have:=Jk d _ y hy
   omega
  .have:=Ig ds path (i+1) y hy
   omega
end
theorem Aey{d:D}(hc:d.count<900):Small (d.pieces []):=fun x hx=>by
 have h1:=KL d (by have:=Bz d;omega) x hx
 have h2:=Jk d [] x hx
 refine⟨by omega,?_⟩
 obtain⟨p,k,z,t,ds⟩:=x
 rw[D.count] at h2
 have:=En ds
 show ds.length<_
 omega
theorem Gx(m:Nat)(d:D)(he:aR d≠0)(hc:d.count<900)(lv:List Value)(h4:lv.length=4)(R:Nat->Prop)(Z:aC)(hw:Wf Z)(hL:aL R Z (.agg lv.toArray) d)(hR:∀b,R b->b<Z.next):
  Fails ((env (m+27)).call 64 [.agg lv.toArray] none Z) Z (aR d:Nat) 0:=by
 obtain⟨pre,path,x,rest,h1,h2,h3⟩:=Acf d [] he
 obtain⟨k',z,t,ps⟩:=x
 have h3':aQ k' z t ps.length=aR d:=h3
 rw[<-h3'] at he ⊢
 refine WH m d lv h4 R Z hw hL hR (Aey hc) (by rw[Ed];omega) pre rest path k' z t ps h1 (fun i path k z t ds hi hx=>?_) he
 rw[h1,List.getElem?_append_left hi] at hx
 exact KJ (m+1) (h2 _ (List.mem_of_getElem? hx))
theorem Gw(m:Nat)(d:D)(he:aR d=0)(hc:d.count<900)(lv:List Value)(h4:lv.length=4)(R:Nat->Prop)(Z:aC)(hw:Wf Z)(hL:aL R Z (.agg lv.toArray) d)(hR:∀b,R b->b<Z.next):
  Gives ((env (m+27)).call 64 [.agg lv.toArray] none Z) Z fun w _=>w=.int .i64 (.ofNat d.count):=
 AeE (m+22) d (AeI (m+1) he hc).sane (by omega) (AeI (m+1) he hc).deep lv h4 R Z hw hL hR
end
section
open Go Go.Eng
variable (E:Env) (ro:Option Nat) (last:List Nat->aZ) (cl:List Nat) (a:aY) (u:Option FrameMode) (Z:aC)
end
section
open Go Go.Eng
attribute [local congr] Aa Af Ae Ab Ad
attribute [-go_sem] List.range_succ
mutual
theorem Ae5:∀d:D,d.deep<=d.count
 | .mk k z t ds=>by rw[D.deep,D.count];have:=OC ds;omega
theorem OC:∀ds:List D,D.deeps ds<=D.counts ds
 | []=>Nat.le_refl _
 | d::ds=>by rw[D.deeps,D.counts];have:=Ae5 d;have:=OC ds;omega
end
def CountAt(m:Nat)(d:D):Prop:=∀(lv:List Value) (R:Nat->Prop) (Z:aC),Wf Z->aL R Z (.agg lv.toArray) d->d.count<1000000->Gives ((env m).call 66 [.agg lv.toArray] none Z) Z fun w _=>w=.tuple #[.int .i64 (.ofNat d.count),.int .i64 (.ofNat d.deep)]
structure HeadCt (b1:Nat) (lv:List Value) (R:Nat->Prop) (q:Option Addr) (ds:List D) (bU:aC) (i:Nat) (f:Nat->Value) (Z:aC):Prop where
 f1:f 1=.pointer (some ⟨b1,0,none⟩)
 f4:f 4=.int .i64 (.ofNat (D.counts (ds.take i)+1))
 f5:f 5=.int .i64 (.ofNat (D.deeps (ds.take i)))
 f6:f 6=.int .i64 (.ofNat i)
 cd:Z.cells b1=some lv
 lay:aO R Z q 0 ds
 wf:Wf Z
 ext:Ext bU Z
 le:i<=ds.length
end
section
open Go Go.Eng
attribute [local congr] Aa Af Ae Ab Ad
attribute [-go_sem] List.range_succ
structure FactsFd (N:Nat) (b2 b3 ba:Nat) (R RX:Nat->Prop) (d x:D) (lv xv us:List Value) (Z:aC):Prop where
 xdeep:x.deep<=N
 xcount:x.count<100000
 dcount:d.count<10000
 ddeep:d.deep<1000
 h4:lv.length=4
 hx4:xv.length=4
 c2:Z.cells b2=some lv
 c3:Z.cells b3=some xv
 ca:Z.cells ba=some us
 pl:PathsL (fun _=>True) Z us ((d.pieces []).map (·.1))
 ld:aL R Z (.agg lv.toArray) d
 lx:aL RX Z (.agg xv.toArray) x
 wf:Wf Z
structure HeadFd (b2 b3 ba:Nat) (d x:D) (us:List Value) (bU:aC) (i:Nat) (f:Nat->Value) (Z:aC):Prop where
 f2:f 2=.pointer (some ⟨b2,0,none⟩)
 f3:f 3=.pointer (some ⟨b3,0,none⟩)
 f6:f 6=.slice (some ⟨ba,0,none⟩) us.length us.length
 f7:f 7=.int .i64 (.ofNat i)
 vec:∃ws,Vecs TP (fun b=>bU.next<=b) Z (f 5) ws/\ws.length=(foundIn x ((d.pieces []).take i)).length
 ext:Ext bU Z
 wf:Wf Z
 le:i<=(d.pieces []).length
def DoAt(m:Nat)(fg:FuncId)(fv:Value)(bU:aC)(h:D->D)(d:D):Prop:=∀(lv:List Value) (R:Nat->Prop) (Z:aC),Ext bU Z->Wf Z->aL R Z (.agg lv.toArray) d->Gives ((env m).call fg [fv,.agg lv.toArray] none Z) Z fun w V=>aL (fun b=>Z.next<=b) V w (h d)
structure HeadEb (fg:FuncId) (fv:Value) (h:D->D) (bo base:Nat) (R:Nat->Prop) (q:Option Addr) (c:Nat) (ds:List D) (bU:aC) (i:Nat) (f g:Nat->Value) (Z:aC):Prop where
 f0:f 0=.slice q ds.length c
 f1:f 1=.func (.func fg) #[fv] #[]
 f5:f 5=.slice (some ⟨bo,0,none⟩) ds.length ds.length
 g14:g 14=.int .i64 (.ofNat ds.length)
 g15:g 15=.int .i64 (.ofNat i)
 cs:∃done rest ver,Z.heap.get bo=some ⟨.cells (done++rest) TD,false,none,ver⟩/\Row (fun b=>base<=b/\b≠bo) Z done ((ds.take i).map h)/\rest.length=(ds.length-i)*4
 hbo:base<=bo
 lay:aO R Z q 0 ds
 low:∀b,R b->b<base
 wf:Wf Z
 ext:Ext bU Z
 le:i<=ds.length
theorem LN(n b1 b2:Nat)(c z x1 x2:Int)(v1 v2:Nat)(Z:aC)(hw:Wf Z)(hne:b1≠b2)(g1:Z.heap.get b1=some ⟨.cells [.int .i64 x1] 3,false,none,v1⟩)(g2:Z.heap.get b2=some ⟨.cells [.int .i64 x2] 32,false,none,v2⟩):
  ∃a_,Ext Z a_/\Wf a_/\(env (n+3)).call 150 [.pointer (some ⟨b1,0,none⟩),.pointer (some ⟨b2,0,none⟩)] (some (.panicking [failing c z])) Z=
   .ret (.tuple #[]) (some (.panicking [failed c z])) ((a_.put b1 (.cells [.int .i64 z] 3) none).put b2 (.cells [.int .i64 c] 32) none):=by
 rw[Hz,Ub _ _ _ _ (by simp),Aj]
 unfold Tg
 obtain⟨_,a9,e2,hX2,hw2,rfl⟩:=FL n c z Z hw
 have m1:=(hw _ _ g1).1
 have m2:=(hw _ _ g2).1
 have k1:a9.heap.get b1=_:=(hX2.get b1 m1).trans g1
 have k2:a9.heap.get b2=_:=(hX2.get b2 m2).trans g2
 have l1:a9.next≠b1:=by have:=hX2.next;omega
 have l2:a9.next≠b2:=by have:=hX2.next;omega
 have w4:Wf ((a9.push (.cells [.int .i64 0,.int .i64 0] 171) none).put a9.next (.cells [.int .i64 c,.int .i64 z] 171) none):=(hw2.push (.cells [.int .i64 0,.int .i64 0] 171) none).put _ _ _ (by simp only[Ac];omega)
 have hv4:=Dw (lam:=a9.clock+2) w4 (Nat.le_refl _)
 simp -implicitDefEqProofs only[go_sem,WK,hv4,Ar,Pr,Lr,Ps,Ls,AdL,Q8,AdM,Q9,AdN,Q_,AdO,Ra,G_,Afq,OG,e2,k1,k2,l1,l2,l1.symm,l2.symm,hne,hne.symm,AB,Av]
 refine⟨_,(hX2.push _ _).put _ _ _ hX2.next,w4,rfl⟩
theorem PV(n w:Nat)(cap:Array Value)(c z:Int)(Z:aC)(hw:Wf Z)(h:∀V,Ext Z V->Wf V->Fails ((env (n+3)).call w cap.toList none V) V c z):
  Gives ((env (n+4)).call 125 [.func (.func w) #[] cap] none Z) Z fun v _=>v=.tuple #[.agg #[.int .i64 0,.int .i64 0,.string ⟨#[]⟩,.slice none 0 0],.int .i64 z,.int .i64 c]:=by
 rw[Al _ 125 _ _ rfl,T_ _ _ _ _ (by simp),Aj]
 unfold Te
 have hX1:Ext Z (((Z.push (.cells [.int .i64 0,.int .i64 0,.string ⟨#[]⟩,.slice none 0 0] TD) none).push (.cells [.int .i64 0] 3) none).push (.cells [.int .i64 0] 32) none):=(((Ext.refl _).push _ _).push _ _).push _ _
 have hw1:=((hw.push (.cells [.int .i64 0,.int .i64 0,.string ⟨#[]⟩,.slice none 0 0] TD) none).push (.cells [.int .i64 0] 3) none).push (.cells [.int .i64 0] 32) none
 obtain⟨a9,e2,hX2,hw2⟩:=h _ hX1 hw1
 have g0:a9.heap.get Z.next=_:=(hX2.get Z.next (by simp only[Ac];omega)).trans (by simp -implicitDefEqProofs only[Ai,Ac,Nat.add_assoc,Nat.reduceAdd,Nat.left_eq_add,reduceCtorEq,↓reduceIte,Nat.reduceEqDiff]<;>rfl)
 have g1:a9.heap.get (Z.next+1)=_:=(hX2.get (Z.next+1) (by simp only[Ac];omega)).trans (by simp -implicitDefEqProofs only[Ai,Ac,Nat.add_assoc,Nat.reduceAdd,Nat.add_left_cancel_iff,reduceCtorEq,↓reduceIte,Nat.reduceEqDiff]<;>rfl)
 have g2:a9.heap.get (Z.next+2)=_:=(hX2.get (Z.next+2) (by simp only[Ac];omega)).trans (by simp -implicitDefEqProofs only[Ai,Ac,Nat.add_assoc,Nat.reduceAdd,Nat.add_left_cancel_iff,reduceCtorEq,↓reduceIte,Nat.reduceEqDiff]<;>rfl)
 obtain⟨bT,hX3,hw3,e3⟩:=LN n (Z.next+1) (Z.next+2) c z 0 0 _ _ a9 hw2 (by omega) g1 g2
 have m0:=(hw2 _ _ g0).1
 have m1:=(hw2 _ _ g1).1
 have m2:=(hw2 _ _ g2).1
 have hn3:=hX3.next
 have h0:bT.cells Z.next=some [.int .i64 0,.int .i64 0,.string ⟨#[]⟩,.slice none 0 0]:=Aq ((hX3.get _ m0).trans g0)
 simp -implicitDefEqProofs only[go_sem,Ar,Pf,Le,Pg,Lf,Ph,Lg,e2,A8,Ay,AA,LY,e3,h0,Nat.le_refl,Gu,Bg,PO,IQ,AB,Av,Au,AH,AU]
 refine⟨_,_,rfl,?_,?_,rfl⟩
 .exact(((hX1.trans hX2).trans hX3).put (Z.next+1) _ _ (Nat.le_add_right _ _)).put (Z.next+2) _ _ (Nat.le_add_right _ _)
 .exact(hw3.put (Z.next+1) _ _ (by omega)).put (Z.next+2) _ _ (by simp only[Aw];omega)
theorem Im(n w:Nat)(cap:Array Value)(c z:Int)(Z:aC)(hw:Wf Z)(h:∀V,Ext Z V->Wf V->Fails ((env (n+3)).call w cap.toList none V) V c z):
  Gives ((env (n+5)).call 82 [.func (.func w) #[] cap] none Z) Z fun v _=>v=.tuple #[.agg #[.int .i64 0,.int .i64 0,.string ⟨#[]⟩,.slice none 0 0],.int .i64 c]:=by
 rw[Al _ 82 _ _ rfl,Abe _ _ _ _ (by simp),Aj]
 unfold Acc
 have hX1:Ext Z (Z.push (.cells [.int .i64 0,.int .i64 0,.string ⟨#[]⟩,.slice none 0 0] TD) none):=(Ext.refl _).push _ _
 obtain⟨_,a9,e2,hX2,hw2,rfl⟩:=PV n w cap c z _ (hw.push (.cells [.int .i64 0,.int .i64 0,.string ⟨#[]⟩,.slice none 0 0] TD) none) fun V hx hw'=>h V (hX1.trans hx) hw'
 have g0:a9.heap.get Z.next=_:=(hX2.get Z.next (Nat.lt_succ_self _)).trans (by rw[Ai,if_pos rfl])
 have m0:=(hw2 _ _ g0).1
 have hne:(Z.next=a9.next)=False:=by simp;omega
 have hne':(a9.next=Z.next)=False:=by simp;omega
 simp -implicitDefEqProofs only[go_sem,Ar,V3,SI,V4,SJ,V5,SK,e2,g0,Bg,AB,Av,Au,AH,AU,hne,hne']
 exact⟨_,_,rfl,(((hX1.trans hX2).push _ _).put _ _ _ (by have:=(hX1.trans hX2).next;omega)).put _ _ _ (Nat.le_refl _),((hw2.push _ _).put _ _ _ (Nat.lt_succ_self _)).put _ _ _ (by rw[Aw,Ac];omega),rfl⟩
def threeE(d x y:D):Nat:=if aR d=0 then (if aR x=0 then (if aR y=0 then (if (repl x y d).count<=2000 then 0 else 8) else aR y) else aR x) else aR d
section
variable (M m:Nat) (hm:M=m+22) (d x y:D) (hc:d.count<900) (hcx:x.count<900) (hcy:y.count<900) (lv xv yv:List Value) (h4:lv.length=4) (hx4:xv.length=4) (hy4:yv.length=4) (b1 b2 b3:Nat) (Z:aC) (hw:Wf Z) (hb1:Z.cells b1=some lv) (hb2:Z.cells b2=some xv) (hb3:Z.cells b3=some yv) (hL:aL (fun b=>b<Z.next) Z (.agg lv.toArray) d) (hLx:aL (fun b=>b<Z.next) Z (.agg xv.toArray) x) (hLy:aL (fun b=>b<Z.next) Z (.agg yv.toArray) y)
include hm hc hcx hcy h4 hx4 hy4 hw hb1 hb2 hb3 hL hLx hLy
end
def atZ:List Int->D->Option D
 | [],d=>some d
 | z::p,d=>if 0<=z then (match d.parts[z.toNat]? with|some d'=>atZ p d'|none=>none) else none
structure HeadPz (p:Option Addr) (plen cx i b off:Nat) (f g:Nat->Value):Prop where
 f0:f 0=.pointer (some ⟨b,off,none⟩)
 g7:g 7=.slice p plen cx
 g8:g 8=.int .i64 (.ofNat plen)
 g9:g 9=.int .i64 (.ofNat i)
def zeroD:D:=.mk 0 0 ⟨#[]⟩ []
def resT(d x y:D):D:=if threeE d x y=0 then repl x y d else zeroD
def ReplOk(d x y:D)(S:Nat->Prop)(Z:aC)(w:Value):Prop:=∃u,w=.tuple #[u,.int .i64 (threeE d x y:Nat)]/\aL S Z u (resT d x y)
theorem EI(S:Nat->Prop)(Z:aC):aL S Z (.agg #[.int .i64 0,.int .i64 0,.string ⟨#[]⟩,.slice none 0 0]) zeroD:=⟨none,0,rfl,trivial⟩
def atE(d:D)(l:List Int):Nat:=if aR d=0 then (match atZ l d with|some _=>0|none=>9) else aR d
def atR(d:D)(l:List Int):D:=if aR d=0 then (match atZ l d with|some x=>x|none=>zeroD) else zeroD
def AtOk(d:D)(l:List Int)(S:Nat->Prop)(Z:aC)(w:Value):Prop:=∃u,w=.tuple #[u,.int .i64 (atE d l:Nat)]/\aL S Z u (atR d l)
section
variable (M m n:Nat) (hm:M=m+22) (hM:M=n+295) (d:D) (hd:d.count<=150) (lv:List Value) (h4:lv.length=4) (p:Option Addr) (cx:Nat) (l:List Int) (hs:l.length<100000) (bd bp:Nat) (Z:aC) (hw:Wf Z) (hb1:Z.cells bd=some lv) (hb2:Z.cells bp=some [.slice p l.length cx]) (hL:aL (fun b=>b<Z.next) Z (.agg lv.toArray) d) (hI:Ints Z p l)
include hm hM hd h4 hs hw hb1 hb2 hL hI
end
end
section
open Go Go.Eng
variable (E:Env) (ro:Option Nat) (last:List Nat->aZ) (cl:List Nat) (a:aY) (u:Option FrameMode) (Z:aC)
def Axe(_:Unit):List COp:=[⟨fun a Z=>.val (a.get 3) Z,some 45,tT⟩,
 ⟨fun a Z=>.enter 9 [(a.get 45)] Z,some 46,tT⟩,
 ⟨fun a Z=>.val (a.get 46) Z,some 9,tT⟩]
def Axu:List COp:=Axe ()
def Axf(_:Unit):List COp:=[⟨fun a Z=>.val (a.get 9) Z,some 47,tT⟩,
 ⟨fun a Z=>.enter 8 [(a.get 47),(.int .i64 4)] Z,some 48,tT⟩,
 ⟨fun a Z=>aM [(.int .i64 0),(.int .i64 0),(.string ⟨#[]⟩),(.slice none 0 0)] 24 none Z,some 10,tT⟩,
 ⟨fun a Z=>aK 4 (a.get 10) (a.get 48) Z,none,tT⟩]
def Axv:List COp:=Axf ()
def Axg(_:Unit):List COp:=[⟨fun a Z=>aG (some 4) (a.get 10) Z,some 49,tT⟩,
 ⟨fun a Z=>.enter 31 [(a.get 49),(.slice none 0 0)] Z,some 50,tT⟩,
 ⟨fun a Z=>.val (a.get 50) Z,some 11,tT⟩]
def Axw:List COp:=Axg ()
def Axh(_:Unit):List COp:=[⟨fun a Z=>.val (a.get 11) Z,some 51,tT⟩,
 ⟨fun a Z=>.val (a.get 9) Z,some 52,tT⟩,
 ⟨fun a Z=>.val (a.get 11) Z,some 53,tT⟩,
 ⟨fun a Z=>flenL (a.get 53) Z,some 54,tT⟩,
 ⟨fun a Z=>i_sub Tryz.prog 3 (.tmp 54) (.const (.int .i64 1)) (a.get 54) (.int .i64 1) Z,some 55,tT⟩,
 ⟨fun a Z=>.enter 19 [(a.get 52),(a.get 55)] Z,some 56,tT⟩,
 ⟨fun a Z=>bC (none,1) (a.get 51) (a.get 56) Z,some 57,tT⟩,
 ⟨fun a Z=>aG none (a.get 57) Z,some 58,tT⟩,
 ⟨fun a Z=>.val (a.get 58) Z,some 12,tT⟩]
def Axx:List COp:=Axh ()
def Axi(_:Unit):List DOp:=[⟨fun a Z=>.val (a.get 9) Z,some 62,tT,some 0,false⟩,
 ⟨fun a Z=>.val (a.get 11) Z,some 63,tT,some 0,false⟩,
 ⟨fun a Z=>flenL (a.get 63) Z,some 64,tT,some 0,false⟩,
 ⟨fun a Z=>i_sub Tryz.prog 3 (.tmp 64) (.const (.int .i64 1)) (a.get 64) (.int .i64 1) Z,some 65,tT,some 0,false⟩,
 ⟨fun a Z=>.enter 19 [(a.get 62),(a.get 65)] Z,some 66,tT,none,false⟩,
 ⟨fun a Z=>aG (some 4) (a.get 10) Z,some 60,tT,some 0,false⟩,
 ⟨fun a Z=>.val (a.get 11) Z,some 61,tT,some 0,false⟩,
 ⟨fun a Z=>bC (none,1) (a.get 61) (a.get 66) Z,some 67,tT,some 1,false⟩,
 ⟨fun a Z=>aG none (a.get 67) Z,some 68,tT,some 1,false⟩,
 ⟨fun a Z=>.enter 32 [(a.get 60),(a.get 68)] Z,some 69,tT,none,false⟩,
 ⟨fun a Z=>.val (a.get 69) Z,some 59,tT,some 2,false⟩,
 ⟨fun a Z=>aJ 0 (a.get 59) Z,some 70,tT,some 2,false⟩,
 ⟨fun a Z=>aM [(.int .i64 0),(.int .i64 0),(.string ⟨#[]⟩),(.slice none 0 0)] 24 none Z,some 13,tT,some 0,false⟩,
 ⟨fun a Z=>aK 4 (a.get 13) (a.get 70) Z,none,tT,none,false⟩,
 ⟨fun a Z=>aJ 1 (a.get 59) Z,some 71,tT,some 2,false⟩,
 ⟨fun a Z=>.val (a.get 71) Z,some 14,tT,some 3,false⟩]
def Axy:List DOp:=Axi ()
def Axj(_:Unit):List DOp:=[⟨fun a Z=>.val (a.get 12) Z,some 82,tT,some 0,false⟩,
 ⟨fun a Z=>.enter 33 [(a.get 82)] Z,some 83,tT,none,false⟩,
 ⟨fun a Z=>.val (a.get 9) Z,some 84,tT,some 0,false⟩,
 ⟨fun a Z=>.enter 19 [(a.get 84),(.int .i64 2)] Z,some 85,tT,none,false⟩,
 ⟨fun a Z=>aX 3 1 1 [(.int .i64 0)] [(0,(a.get 85))] Z,some 86,tT,some 2,false⟩,
 ⟨fun a Z=>fappend 3 1 8 (a.get 83) (a.get 86) Z,some 87,tT,none,false⟩,
 ⟨fun a Z=>aG (some 4) (a.get 4) Z,some 72,tT,some 0,false⟩,
 ⟨fun a Z=>aG (some 4) (a.get 10) Z,some 73,tT,some 0,false⟩,
 ⟨fun a Z=>aG (some 4) (a.get 10) Z,some 74,tT,some 0,false⟩,
 ⟨fun a Z=>aX 24 3 4 [(.int .i64 0),(.int .i64 0),(.string ⟨#[]⟩),(.slice none 0 0)] [(0,(a.get 72)),(1,(a.get 73)),(2,(a.get 74))] Z,some 75,tT,some 0,false⟩,
 ⟨fun a Z=>aG (some 4) (a.get 5) Z,some 76,tT,some 0,false⟩,
 ⟨fun a Z=>aG (some 4) (a.get 13) Z,some 77,tT,some 0,false⟩,
 ⟨fun a Z=>aG (some 4) (a.get 5) Z,some 78,tT,some 0,false⟩,
 ⟨fun a Z=>aX 24 3 4 [(.int .i64 0),(.int .i64 0),(.string ⟨#[]⟩),(.slice none 0 0)] [(0,(a.get 76)),(1,(a.get 77)),(2,(a.get 78))] Z,some 79,tT,some 0,false⟩,
 ⟨fun a Z=>.val (a.get 2) Z,some 80,tT,some 0,false⟩,
 ⟨fun a Z=>.val (a.get 12) Z,some 81,tT,some 0,false⟩,
 ⟨fun a Z=>aX 25 3 1 [(.slice none 0 0)] [(0,(a.get 80)),(1,(a.get 81)),(2,(a.get 87))] Z,some 88,tT,some 3,false⟩,
 ⟨fun a Z=>.val (a.get 75) Z,some 15,tT,some 3,false⟩,
 ⟨fun a Z=>.val (a.get 79) Z,some 16,tT,some 3,false⟩,
 ⟨fun a Z=>.val (a.get 88) Z,some 17,tT,some 3,false⟩]
def Axz:List DOp:=Axj ()
def Axk(_:Unit):List COp:=[⟨fun a Z=>.val (.int .i64 0) Z,some 18,tT⟩]
def AxA:List COp:=Axk ()
def Awc(_:Unit):List COp:=[⟨fun a Z=>.val (a.get 18) Z,some 89,tT⟩,
 ⟨fun a Z=>.val (a.get 15) Z,some 90,tT⟩,
 ⟨fun a Z=>flenL (a.get 90) Z,some 91,tT⟩,
 ⟨fun a Z=>i_lss Tryz.prog 3 (.tmp 89) (.tmp 91) (a.get 89) (a.get 91) Z,some 92,tT⟩]
def Aw2:List COp:=Awc ()
def Awe(_:Unit):List DOp:=[⟨fun a Z=>.val (a.get 15) Z,some 95,tT,some 0,false⟩,
 ⟨fun a Z=>.val (a.get 18) Z,some 96,tT,some 0,false⟩,
 ⟨fun a Z=>bC (none,4) (a.get 95) (a.get 96) Z,some 97,tT,some 0,false⟩,
 ⟨fun a Z=>aG (some 4) (a.get 97) Z,some 98,tT,some 0,false⟩,
 ⟨fun a Z=>.enter 10 [(a.get 98)] Z,some 99,tT,none,false⟩,
 ⟨fun a Z=>.val (a.get 17) Z,some 100,tT,some 0,false⟩,
 ⟨fun a Z=>.val (a.get 18) Z,some 101,tT,some 0,false⟩,
 ⟨fun a Z=>bC (none,1) (a.get 100) (a.get 101) Z,some 102,tT,some 0,false⟩,
 ⟨fun a Z=>aG none (a.get 102) Z,some 103,tT,some 0,false⟩,
 ⟨fun a Z=>.enter 33 [(a.get 103)] Z,some 104,tT,none,false⟩,
 ⟨fun a Z=>aM [(.int .i64 0),(.int .i64 0),(.string ⟨#[]⟩),(.slice none 0 0)] 24 none Z,some 19,tT,some 0,false⟩,
 ⟨fun a Z=>aK 4 (a.get 19) (a.get 99) Z,none,tT,none,true⟩,
 ⟨fun a Z=>.val (a.get 104) Z,some 20,tT,some 3,false⟩]
def Aw4:List DOp:=Awe ()
def Awf(_:Unit):List COp:=[⟨fun a Z=>aG (some 4) (a.get 19) Z,some 106,tT⟩,
 ⟨fun a Z=>.val (a.get 20) Z,some 107,tT⟩,
 ⟨fun a Z=>.enter 34 [(a.get 106),(a.get 107)] Z,some 108,tT⟩,
 ⟨fun a Z=>.val (a.get 108) Z,some 105,tT⟩,
 ⟨fun a Z=>aJ 0 (a.get 105) Z,some 109,tT⟩,
 ⟨fun a Z=>aJ 1 (a.get 105) Z,some 110,tT⟩,
 ⟨fun a Z=>aM [(.int .i64 0),(.int .i64 0),(.string ⟨#[]⟩),(.slice none 0 0)] 24 none Z,some 21,tT⟩,
 ⟨fun a Z=>aK 4 (a.get 21) (a.get 109) Z,none,tT⟩,
 ⟨fun a Z=>.val (a.get 110) Z,some 22,tT⟩]
def Aw5:List COp:=Awf ()
def Awg(_:Unit):List DOp:=[⟨fun a Z=>.val (a.get 15) Z,some 112,tT,some 0,false⟩,
 ⟨fun a Z=>.val (a.get 18) Z,some 113,tT,some 0,false⟩,
 ⟨fun a Z=>bC (none,4) (a.get 112) (a.get 113) Z,some 114,tT,some 0,false⟩,
 ⟨fun a Z=>aG (some 4) (a.get 114) Z,some 115,tT,some 0,false⟩,
 ⟨fun a Z=>.val (a.get 17) Z,some 116,tT,some 0,false⟩,
 ⟨fun a Z=>.val (a.get 18) Z,some 117,tT,some 0,false⟩,
 ⟨fun a Z=>bC (none,1) (a.get 116) (a.get 117) Z,some 118,tT,some 0,false⟩,
 ⟨fun a Z=>aG none (a.get 118) Z,some 119,tT,some 0,false⟩,
 ⟨fun a Z=>.enter 35 [(a.get 115),(a.get 119)] Z,some 120,tT,none,false⟩,
 ⟨fun a Z=>.val (a.get 120) Z,some 111,tT,some 1,false⟩,
 ⟨fun a Z=>aJ 0 (a.get 111) Z,some 121,tT,some 1,false⟩,
 ⟨fun a Z=>aM [(.int .i64 0),(.int .i64 0),(.string ⟨#[]⟩),(.slice none 0 0)] 24 none Z,some 23,tT,some 0,false⟩,
 ⟨fun a Z=>aK 4 (a.get 23) (a.get 121) Z,none,tT,none,false⟩,
 ⟨fun a Z=>aJ 1 (a.get 111) Z,some 122,tT,some 1,false⟩,
 ⟨fun a Z=>.val (a.get 122) Z,some 24,tT,some 2,false⟩]
def Aw6:List DOp:=Awg ()
def Awh(_:Unit):List DOp:=[⟨fun a Z=>aG (some 4) (a.get 19) Z,some 124,tT,some 0,false⟩,
 ⟨fun a Z=>.val (a.get 20) Z,some 125,tT,some 0,false⟩,
 ⟨fun a Z=>.val (a.get 16) Z,some 126,tT,some 0,false⟩,
 ⟨fun a Z=>.val (a.get 18) Z,some 127,tT,some 0,false⟩,
 ⟨fun a Z=>bC (none,4) (a.get 126) (a.get 127) Z,some 128,tT,some 0,false⟩,
 ⟨fun a Z=>aG (some 4) (a.get 128) Z,some 129,tT,some 0,false⟩,
 ⟨fun a Z=>.enter 36 [(a.get 124),(a.get 125),(a.get 129)] Z,some 130,tT,none,false⟩,
 ⟨fun a Z=>.val (a.get 130) Z,some 123,tT,some 1,false⟩,
 ⟨fun a Z=>aJ 0 (a.get 123) Z,some 131,tT,some 1,false⟩,
 ⟨fun a Z=>aM [(.int .i64 0),(.int .i64 0),(.string ⟨#[]⟩),(.slice none 0 0)] 24 none Z,some 25,tT,some 0,false⟩,
 ⟨fun a Z=>aK 4 (a.get 25) (a.get 131) Z,none,tT,none,false⟩,
 ⟨fun a Z=>aJ 1 (a.get 123) Z,some 132,tT,some 1,false⟩,
 ⟨fun a Z=>.val (a.get 132) Z,some 26,tT,some 2,false⟩]
def Aw7:List DOp:=Awh ()
def Awi(_:Unit):List DOp:=[⟨fun a Z=>.val (a.get 15) Z,some 134,tT,some 0,false⟩,
 ⟨fun a Z=>.val (a.get 18) Z,some 135,tT,some 0,false⟩,
 ⟨fun a Z=>bC (none,4) (a.get 134) (a.get 135) Z,some 136,tT,some 0,false⟩,
 ⟨fun a Z=>aG (some 4) (a.get 136) Z,some 137,tT,some 0,false⟩,
 ⟨fun a Z=>.val (a.get 17) Z,some 138,tT,some 0,false⟩,
 ⟨fun a Z=>.val (a.get 18) Z,some 139,tT,some 0,false⟩,
 ⟨fun a Z=>bC (none,1) (a.get 138) (a.get 139) Z,some 140,tT,some 0,false⟩,
 ⟨fun a Z=>aG none (a.get 140) Z,some 141,tT,some 0,false⟩,
 ⟨fun a Z=>.val (a.get 16) Z,some 142,tT,some 0,false⟩,
 ⟨fun a Z=>.val (a.get 18) Z,some 143,tT,some 0,false⟩,
 ⟨fun a Z=>bC (none,4) (a.get 142) (a.get 143) Z,some 144,tT,some 0,false⟩,
 ⟨fun a Z=>aG (some 4) (a.get 144) Z,some 145,tT,some 0,false⟩,
 ⟨fun a Z=>.enter 37 [(a.get 137),(a.get 141),(a.get 145)] Z,some 146,tT,none,false⟩,
 ⟨fun a Z=>.val (a.get 146) Z,some 133,tT,some 1,false⟩,
 ⟨fun a Z=>aJ 0 (a.get 133) Z,some 147,tT,some 1,false⟩,
 ⟨fun a Z=>aM [(.int .i64 0),(.int .i64 0),(.string ⟨#[]⟩),(.slice none 0 0)] 24 none Z,some 27,tT,some 0,false⟩,
 ⟨fun a Z=>aK 4 (a.get 27) (a.get 147) Z,none,tT,none,false⟩,
 ⟨fun a Z=>aJ 1 (a.get 133) Z,some 148,tT,some 1,false⟩,
 ⟨fun a Z=>.val (a.get 148) Z,some 28,tT,some 2,false⟩]
def Aw8:List DOp:=Awi ()
def Awj(_:Unit):List DOp:=[⟨fun a Z=>aG (some 4) (a.get 19) Z,some 150,tT,some 0,false⟩,
 ⟨fun a Z=>.val (a.get 16) Z,some 151,tT,some 0,false⟩,
 ⟨fun a Z=>.val (a.get 18) Z,some 152,tT,some 0,false⟩,
 ⟨fun a Z=>bC (none,4) (a.get 151) (a.get 152) Z,some 153,tT,some 0,false⟩,
 ⟨fun a Z=>aG (some 4) (a.get 153) Z,some 154,tT,some 0,false⟩,
 ⟨fun a Z=>.enter 38 [(a.get 150),(a.get 154)] Z,some 155,tT,none,true⟩,
 ⟨fun a Z=>.val (a.get 155) Z,some 149,tT,some 1,false⟩,
 ⟨fun a Z=>aJ 0 (a.get 149) Z,some 156,tT,some 1,false⟩,
 ⟨fun a Z=>aJ 1 (a.get 149) Z,some 157,tT,some 1,false⟩,
 ⟨fun a Z=>.val (a.get 156) Z,some 29,tT,some 1,false⟩,
 ⟨fun a Z=>.val (a.get 157) Z,some 30,tT,some 1,false⟩]
def Aw9:List DOp:=Awj ()
def Awk(_:Unit):List DOp:=[⟨fun a Z=>.val (a.get 15) Z,some 159,tT,some 0,false⟩,
 ⟨fun a Z=>.val (a.get 18) Z,some 160,tT,some 0,false⟩,
 ⟨fun a Z=>bC (none,4) (a.get 159) (a.get 160) Z,some 161,tT,some 0,false⟩,
 ⟨fun a Z=>aG (some 4) (a.get 161) Z,some 162,tT,some 0,false⟩,
 ⟨fun a Z=>.val (a.get 16) Z,some 163,tT,some 0,false⟩,
 ⟨fun a Z=>.val (a.get 18) Z,some 164,tT,some 0,false⟩,
 ⟨fun a Z=>bC (none,4) (a.get 163) (a.get 164) Z,some 165,tT,some 0,false⟩,
 ⟨fun a Z=>aG (some 4) (a.get 165) Z,some 166,tT,some 0,false⟩,
 ⟨fun a Z=>.enter 39 [(a.get 162),(a.get 166)] Z,some 167,tT,none,true⟩,
 ⟨fun a Z=>.val (a.get 167) Z,some 158,tT,some 1,false⟩,
 ⟨fun a Z=>aJ 0 (a.get 158) Z,some 168,tT,some 1,false⟩,
 ⟨fun a Z=>aJ 1 (a.get 158) Z,some 169,tT,some 1,false⟩,
 ⟨fun a Z=>.val (a.get 168) Z,some 31,tT,some 1,false⟩,
 ⟨fun a Z=>.val (a.get 169) Z,some 32,tT,some 1,false⟩]
def Axa:List DOp:=Awk ()
def Awl(_:Unit):List DOp:=[⟨fun a Z=>.val (a.get 22) Z,some 170,tT,some 0,false⟩,
 ⟨fun a Z=>.val (a.get 24) Z,some 171,tT,some 0,false⟩,
 ⟨fun a Z=>i_neq Tryz.prog 32 (.tmp 170) (.tmp 171) (a.get 170) (a.get 171) Z,some 172,tT,some 0,false⟩,
 ⟨fun a Z=>.val (a.get 172) Z,some 173,tT,some 0,false⟩,
 ⟨fun a Z=>aG (some 4) (a.get 21) Z,some 174,fun a=>gd (a.get 173) false,some 0,false⟩,
 ⟨fun a Z=>aG (some 4) (a.get 23) Z,some 175,fun a=>gd (a.get 173) false,some 0,false⟩,
 ⟨fun a Z=>.enter 18 [(a.get 174),(a.get 175)] Z,some 176,fun a=>gd (a.get 173) false,none,true⟩,
 ⟨fun a Z=>fun1 Tryz.prog (Op.unary .not) (a.get 176) Z,some 177,fun a=>gd (a.get 173) false,some 1,false⟩,
 ⟨fun a Z=>bM (a.get 173) (.bool true) (a.get 177) Z,some 178,tT,some 1,false⟩,
 ⟨fun a Z=>.val (a.get 178) Z,some 179,tT,some 1,false⟩,
 ⟨fun a Z=>.val (a.get 26) Z,some 180,fun a=>gd (a.get 179) false,some 1,false⟩,
 ⟨fun a Z=>.val (a.get 28) Z,some 181,fun a=>gd (a.get 179) false,some 1,false⟩,
 ⟨fun a Z=>i_neq Tryz.prog 32 (.tmp 180) (.tmp 181) (a.get 180) (a.get 181) Z,some 182,fun a=>gd (a.get 179) false,some 1,false⟩,
 ⟨fun a Z=>bM (a.get 179) (.bool true) (a.get 182) Z,some 183,tT,some 1,false⟩,
 ⟨fun a Z=>.val (a.get 183) Z,some 184,tT,some 1,false⟩,
 ⟨fun a Z=>aG (some 4) (a.get 25) Z,some 185,fun a=>gd (a.get 184) false,some 1,false⟩,
 ⟨fun a Z=>aG (some 4) (a.get 27) Z,some 186,fun a=>gd (a.get 184) false,some 1,false⟩,
 ⟨fun a Z=>.enter 18 [(a.get 185),(a.get 186)] Z,some 187,fun a=>gd (a.get 184) false,none,true⟩,
 ⟨fun a Z=>fun1 Tryz.prog (Op.unary .not) (a.get 187) Z,some 188,fun a=>gd (a.get 184) false,some 2,false⟩,
 ⟨fun a Z=>bM (a.get 184) (.bool true) (a.get 188) Z,some 189,tT,some 2,false⟩,
 ⟨fun a Z=>.val (a.get 189) Z,some 190,tT,some 2,false⟩,
 ⟨fun a Z=>.val (a.get 30) Z,some 191,fun a=>gd (a.get 190) false,some 2,false⟩,
 ⟨fun a Z=>.val (a.get 32) Z,some 192,fun a=>gd (a.get 190) false,some 2,false⟩,
 ⟨fun a Z=>i_neq Tryz.prog 32 (.tmp 191) (.tmp 192) (a.get 191) (a.get 192) Z,some 193,fun a=>gd (a.get 190) false,some 2,false⟩,
 ⟨fun a Z=>bM (a.get 190) (.bool true) (a.get 193) Z,some 194,tT,some 2,false⟩,
 ⟨fun a Z=>.val (a.get 194) Z,some 195,tT,some 2,false⟩,
 ⟨fun a Z=>.val (a.get 29) Z,some 196,fun a=>gd (a.get 195) false,some 2,false⟩,
 ⟨fun a Z=>.val (a.get 31) Z,some 197,fun a=>gd (a.get 195) false,some 2,false⟩,
 ⟨fun a Z=>.enter 40 [(a.get 196),(a.get 197)] Z,some 198,fun a=>gd (a.get 195) false,none,true⟩,
 ⟨fun a Z=>fun1 Tryz.prog (Op.unary .not) (a.get 198) Z,some 199,fun a=>gd (a.get 195) false,some 3,false⟩,
 ⟨fun a Z=>bM (a.get 195) (.bool true) (a.get 199) Z,some 200,tT,some 3,false⟩,
 ⟨fun a Z=>.val (a.get 200) Z,some 201,tT,some 3,false⟩,
 ⟨fun a Z=>aG (some 4) (a.get 19) Z,some 202,fun a=>gd (a.get 201) false,some 3,false⟩,
 ⟨fun a Z=>.val (a.get 15) Z,some 203,fun a=>gd (a.get 201) false,some 3,false⟩,
 ⟨fun a Z=>.val (a.get 18) Z,some 204,fun a=>gd (a.get 201) false,some 3,false⟩,
 ⟨fun a Z=>bC (none,4) (a.get 203) (a.get 204) Z,some 205,fun a=>gd (a.get 201) false,some 3,false⟩,
 ⟨fun a Z=>aG (some 4) (a.get 205) Z,some 206,fun a=>gd (a.get 201) false,some 3,false⟩,
 ⟨fun a Z=>.enter 18 [(a.get 202),(a.get 206)] Z,some 207,fun a=>gd (a.get 201) false,none,true⟩,
 ⟨fun a Z=>fun1 Tryz.prog (Op.unary .not) (a.get 207) Z,some 208,fun a=>gd (a.get 201) false,some 4,false⟩,
 ⟨fun a Z=>bM (a.get 201) (.bool true) (a.get 208) Z,some 209,tT,some 4,false⟩,
 ⟨fun a Z=>.val (a.get 209) Z,some 210,tT,some 4,false⟩,
 ⟨fun a Z=>.val (a.get 20) Z,some 211,fun a=>gd (a.get 210) false,some 4,false⟩,
 ⟨fun a Z=>.val (a.get 17) Z,some 212,fun a=>gd (a.get 210) false,some 4,false⟩,
 ⟨fun a Z=>.val (a.get 18) Z,some 213,fun a=>gd (a.get 210) false,some 4,false⟩,
 ⟨fun a Z=>bC (none,1) (a.get 212) (a.get 213) Z,some 214,fun a=>gd (a.get 210) false,some 4,false⟩,
 ⟨fun a Z=>aG none (a.get 214) Z,some 215,fun a=>gd (a.get 210) false,some 4,false⟩,
 ⟨fun a Z=>.enter 41 [(a.get 211),(a.get 215)] Z,some 216,fun a=>gd (a.get 210) false,none,true⟩,
 ⟨fun a Z=>fun1 Tryz.prog (Op.unary .not) (a.get 216) Z,some 217,fun a=>gd (a.get 210) false,some 5,false⟩,
 ⟨fun a Z=>bM (a.get 210) (.bool true) (a.get 217) Z,some 218,tT,some 5,false⟩]
def Axb:List DOp:=Awl ()
def Awm(_:Unit):List COp:=[⟨fun a Z=>.val (.bool false) Z,some 8,tT⟩]
def Axc:List COp:=Awm ()
def Awd(_:Unit):List COp:=[⟨fun a Z=>.val (a.get 18) Z,some 93,tT⟩,
 ⟨fun a Z=>i_add Tryz.prog 3 (.tmp 93) (.const (.int .i64 1)) (a.get 93) (.int .i64 1) Z,some 94,tT⟩,
 ⟨fun a Z=>.val (a.get 94) Z,some 18,tT⟩]
def Aw3:List COp:=Awd ()
def Axs(E:Env)(ro:Option Nat)(fn:FuncId):aZ:=(aF (aF (aD E ro Aw2) (aN (fun a=>(a.get 92)) aV (exitR 0))) (aF (aW 1 (aF (drawR E ro Aw4) (aF (aD E ro Aw5) (aF (drawR E ro Aw6) (aF (drawR E ro Aw7) (aF (drawR E ro Aw8) (aF (drawR E ro Aw9) (aF (drawR E ro Axa) (aF (drawR E ro Axb) (aN (fun a=>(a.get 218)) (aF (aD E ro Axc) bL) aV)))))))))) (aD E ro Aw3)))
def Awn(_:Unit):List COp:=[⟨fun a Z=>.enter 7 [] Z,some 219,tT⟩,
 ⟨fun a Z=>.val (a.get 219) Z,some 8,tT⟩]
def Axd:List COp:=Awn ()
end
section
open Go Go.Eng
attribute [local congr] Aa Af Ae Ab Ad
attribute [-go_sem] List.range_succ
end
section
open Go Go.Eng
def PathO(Z:aC)(v:Value)(path:List Nat):Prop:=
 ∃q c,v=.slice q path.length c/\(path=[]\/∃b off cs el ro fz ver,q=some ⟨b,off,none⟩/\Z.heap.get b=some ⟨.cells cs el,ro,fz,ver⟩/\(el=TI\/ro=true)/\(fz=none\/fz=some 1)/\path.length<=c/\∀(i j:Nat),path[i]? = some j->cs[off+i]? = some (.int .i64 (.ofNat j)))
theorem PathO.keep{Z V:aC}{v:Value}{path:List Nat}(h:PathO Z v path)(hw:Wf Z)(hk:∀b,b<Z.next->V.heap.get b=Z.heap.get b\/∃cs el fz ver,Z.heap.get b=some ⟨.cells cs el,false,fz,ver⟩/\el≠TI):PathO V v path:=by
 obtain⟨q,c,rfl,h|⟨b,off,cs,el,ro,fz,ver,rfl,hb,hr,hf,hl,hc⟩⟩:=h
 .exact⟨q,c,rfl,.inl h⟩
 .rcases hk b (hw _ _ hb).1 with h|⟨cs',el',fz',ver',h,hne⟩
  .exact⟨_,c,rfl,.inr ⟨b,off,cs,el,ro,fz,ver,rfl,h.trans hb,hr,hf,hl,hc⟩⟩
  .rw[hb] at h
   have h1:=congrArg (fun e:Option Ent=>match e with|some ⟨.cells _ el,ro,_,_⟩=>(el,ro)|_=>(0,true)) h
   simp only[Prod.mk.injEq] at h1
   rcases hr with hr|hr
   .exact absurd (h1.1.symm.trans hr) hne
   .rw[hr] at h1
    exact absurd h1.2 (by decide)
theorem PathO.ext{Z V:aC}{v:Value}{path:List Nat}(h:PathO Z v path)(hw:Wf Z)(hx:Ext Z V):PathO V v path:=h.keep hw fun b hb=>.inl (hx.get b hb)
theorem PathO.tail{Z:aC}{q:Option Addr}{c i:Nat}{path:List Nat}(h:PathO Z (.slice q (i::path).length c) (i::path)):∃b off cs el ro fz ver,q=some ⟨b,off,none⟩/\Z.heap.get b=some ⟨.cells cs el,ro,fz,ver⟩/\(fz=none\/fz=some 1)/\path.length+1<=c/\cs[off]? = some (.int .i64 (.ofNat i))/\PathO Z (.slice (some ⟨b,off+1*1,none⟩) path.length (c-1)) path:=by
 obtain⟨q',c',e,h|⟨b,off,cs,el,ro,fz,ver,rfl,hb,hr,hf,hl,hc⟩⟩:=h
 .cases h
 .cases e
  refine⟨b,off,cs,el,ro,fz,ver,rfl,hb,hf,by simpa using hl,by simpa using hc 0 i rfl,_,_,rfl,.inr ⟨b,off+1*1,cs,el,ro,fz,ver,rfl,hb,hr,hf,by simp at hl;omega,fun j k hj=>?_⟩⟩
  have:=hc (j+1) k (by simpa using hj)
  rw[show off+1*1+j=off+(j+1) by omega]
  exact this
def putP:List Nat->D->D->D
 | [],x,_=>x
 | i::p,x,.mk k z t ds=>match ds[i]? with
  | some d'=>.mk k z t (ds.set i (putP p x d'))
  | none=>.mk k z t ds
structure Okay (m:Nat) (d:D):Prop where
 good:AllGood m (d.pieces [])
 few:d.count<=2000
 small:Small (d.pieces [])
 deep:d.deep<=8
end
section
open Go Go.Eng
attribute [local congr] Aa Af Ae Ab Ad
attribute [-go_sem] List.range_succ
structure PlI (Rin:Nat->Prop) (base bd bx bo bv i:Nat) (k z:Int) (t:ByteArray) (p:Option Addr) (c:Nat) (ds:List D) (x y:D) (xv:List Value) (path:List Nat) (q:Nat) (f:Nat->Value) (Z:aC):Prop where
 f1:PathO Z (f 1) (i::path)
 f3:f 3=.pointer (some ⟨bd,0,none⟩)
 f5:f 5=.pointer (some ⟨bx,0,none⟩)
 f7:f 7=.pointer (some ⟨bo,0,none⟩)
 f8:f 8=.int .i64 (.ofNat q)
 cd:Z.cells bd=some [.int .i64 k,.int .i64 z,.string t,.slice p ds.length c]
 cx:Z.cells bx=some xv
 hE:aO Rin Z p 0 ds
 hx:aL Rin Z (.agg xv.toArray) x
 out:∃s ver,Z.heap.get bo=some ⟨.cells [.int .i64 k,.int .i64 0,.string ⟨#[]⟩,s] TD,false,none,ver⟩/\VecG (· = bv) (fun b=>(Rin b\/base<=b)/\b<Z.next/\b≠bo/\b≠bv) Z s ((ds.set i y).take q)
 lo:True/\True/\base<=bo/\bd≠bo/\bx≠bo/\(∀b,Rin b->b≠bv)/\bv≠bo/\bv≠bd/\bv≠bx
 bvT:∃cs fz ver,Z.heap.get bv=some ⟨.cells cs TD,false,fz,ver⟩
 wf:Wf Z
def BareD:D->Prop
 | .mk _ z t ds=>0<ds.length->z=0/\t=⟨#[]⟩
def PlR(Rin:Nat->Prop)(base:Nat)(y:D)(w:Value)(Z:aC):Prop:=∃ws:List Value,w=.agg ws.toArray/\ws.length=4/\ws.all oneCell=true/\aL (fun b=>Rin b\/base<=b) Z w y
end
section
open Go Go.Eng
def AllWhole(d:D):Prop:=∀p,∀y∈d.pieces p,y.2.parts.length<=3/\WholeD y.2
theorem AllWhole.head{k z:Int}{t:ByteArray}{ds:List D}(h:AllWhole (.mk k z t ds)):ds.length<=3/\Whole k z t ds.length:=by
 have h1:=h [] ([],.mk k z t ds) (by rw[D.pieces_eq];exact List.mem_cons_self)
 exact h1
theorem AllWhole.part{k z:Int}{t:ByteArray}{ds:List D}(h:AllWhole (.mk k z t ds)){i:Nat}{d:D}(hd:ds[i]? = some d):∀y∈d.pieces ([]++[0+i]),y.2.parts.length<=3/\WholeD y.2:=fun y hy=>
 h [] y (by rw[D.pieces_eq];exact List.mem_cons_of_mem _ (Jj [] ds 0 i d hd y hy))
end
section
open Go Go.Eng
attribute [local congr] Aa Af Ae Ab Ad
attribute [-go_sem] List.range_succ
def CapV(v:Value):Prop:=∃a n c,v=.slice a n c/\n<=c
def FulB(Z:aC)(b:Nat):Prop:=∃vs fz ver,Z.heap.get b=some ⟨.cells vs TI,false,fz,ver⟩/\(fz=none\/fz=some 1)
theorem FulB.keep{Z V:aC}{b:Nat}(h:FulB Z b)(hb:V.heap.get b=Z.heap.get b):FulB V b:=by
 obtain⟨vs,fz,ver,h1,h2⟩:=h
 exact⟨vs,fz,ver,hb.trans h1,h2⟩
structure HeadPb (bd bo base:Nat) (R:Nat->Prop) (k z:Int) (t:ByteArray) (q:Option Addr) (c:Nat) (ds:List D) (at':List Nat) (atv:Value) (us:List Value) (ps:List (List Nat)) (bU:aC) (i:Nat) (f:Nat->Value) (Z:aC):Prop where
 f1:f 1=atv
 f2:f 2=.pointer (some ⟨bd,0,none⟩)
 f5:Ful TP Z bo (f 5) us
 f6:f 6=.int .i64 (.ofNat i)
 cd:Z.cells bd=some [.int .i64 k,.int .i64 z,.string t,.slice q ds.length c]
 lay:aO R Z q 0 ds
 low:∀b,R b->b<base
 atp:PathV (· < base) Z atv at'
 hbd:base<=bd/\bd≠bo
 hbo:base<=bo
 lst:PathsL (fun b=>base<=b/\b≠bo/\FulB Z b) Z us ps
 caps:∀u,u∈us->CapV u
 wf:Wf Z
 ext:Ext bU Z
 le:i<=ds.length
 few:ds.length<10000
def PathsBt(m:Nat)(d:D):Prop:=∀(at':List Nat) (v atv:Value) (R Q:Nat->Prop) (Z:aC),Wf Z->aL R Z v d->PathV Q Z atv at'->at'.length+d.deep<1000->(d.pieces at').length<10000->
 Gives ((env m).call 31 [v,atv] none Z) Z fun w V=>∃b us,Z.next<=b/\Ful TP V b w us/\PathsL (fun b=>Z.next<=b/\FulB V b) V us ((d.pieces at').map (·.1))/\∀u,u∈us->CapV u
end
section
open Go Go.Eng
end
section
open Go Go.Eng
attribute [local congr] Aa Af Ae Ab Ad
attribute [-go_sem] List.range_succ
structure HeadFp (b2 b3 ba:Nat) (d x:D) (us:List Value) (bU:aC) (i:Nat) (f:Nat->Value) (Z:aC):Prop where
 f2:f 2=.pointer (some ⟨b2,0,none⟩)
 f3:f 3=.pointer (some ⟨b3,0,none⟩)
 f6:f 6=.slice (some ⟨ba,0,none⟩) us.length us.length
 f7:f 7=.int .i64 (.ofNat i)
 vec:∃ws,Vecs TP (fun b=>bU.next<=b) Z (f 5) ws/\PathsL (fun b=>b<bU.next) Z ws (foundIn x ((d.pieces []).take i))
 ext:Ext bU Z
 wf:Wf Z
 le:i<=(d.pieces []).length
def intsZ(l:List Int):List Value:=l.map fun z=>.int .i64 z
theorem GI(l:List Int):(intsZ l).length=l.length:=List.length_map ..
theorem OT{l:List Int}{i:Nat}{z:Int}(h:l[i]? = some z):(intsZ l)[i]? = some (.int .i64 z):=by rw[intsZ,List.getElem?_map,h];rfl
def IntsO(Z:aC)(p:Option Addr)(c:Nat)(l:List Int):Prop:=
 (p=none/\l=[])\/∃b off cs el ro fz ver,p=some ⟨b,off,none⟩/\Z.heap.get b=some ⟨.cells cs el,ro,fz,ver⟩/\(el=TI\/ro=true)/\(fz=none\/fz=some 1)/\l.length<=c/\off+l.length<=cs.length/\∀(i:Nat) (z:Int),l[i]? = some z->cs[off+i]? = some (.int .i64 z)
theorem IntsO.ext{Z V:aC}{p:Option Addr}{c:Nat}{l:List Int}(h:IntsO Z p c l)(hw:Wf Z)(hX:Ext Z V):IntsO V p c l:=by
 rcases h with h|⟨b,off,cs,el,ro,fz,ver,rfl,hb,h1⟩
 .exact .inl h
 .exact .inr ⟨b,off,cs,el,ro,fz,ver,rfl,(hX.get b (hw _ _ hb).1).trans hb,h1⟩
theorem AfP{l:List Int}(h:∀z∈l,0<=z){i j:Nat}(hj:(l.map Int.toNat)[i]? = some j):l[i]? = some (.ofNat j):=by
 rw[List.getElem?_map] at hj
 cases hz:l[i]? with
 | none=>rw[hz] at hj;cases hj
 | some z=>
  rw[hz] at hj
  have h0:=h z (List.mem_of_getElem? hz)
  have:z.toNat=j:=Option.some.inj hj
  rw[<-this]
  congr 1
  simp only[Int.ofNat_eq_natCast]
  omega
theorem IntsO.path{Z:aC}{p:Option Addr}{c:Nat}{l:List Int}(h:IntsO Z p c l)(h0:∀z∈l,0<=z):PathO Z (.slice p l.length c) (l.map Int.toNat):=by
 refine⟨p,c,by rw[List.length_map],?_⟩
 rcases h with⟨_,rfl⟩|⟨b,off,cs,el,ro,fz,ver,rfl,hb,hr,hf,hl,_,hc⟩
 .exact .inl rfl
 .exact .inr ⟨b,off,cs,el,ro,fz,ver,rfl,hb,hr,hf,by rw[List.length_map];exact hl,fun i j hj=>hc i _ (AfP h0 hj)⟩
theorem IntsO.fnew{Z:aC}{p:Option Addr}{c:Nat}{l:List Int}(h:IntsO Z p c l):Eng.fnew 1 (.slice p l.length c) Z=some ((intsZ l).length,intsZ l):=by
 rcases h with⟨rfl,rfl⟩|⟨b,off,cs,el,ro,fz,ver,rfl,hb,hr,hf,hl,hle,hc⟩
 .rfl
 .have hcs:=Aq hb
  have e:(cs.drop off).take l.length=intsZ l:=by
   apply List.ext_getElem?
   intro i
   by_cases hi:i<l.length
   .rw[List.getElem?_take_of_lt hi,List.getElem?_drop,hc i l[i] (List.getElem?_eq_getElem hi),OT (List.getElem?_eq_getElem hi)]
   .rw[List.getElem?_eq_none (by rw[List.length_take];omega),List.getElem?_eq_none (by rw[GI];omega)]
  unfold Eng.fnew
  simp only[Ei,hcs,Nat.mul_one]
  rw[if_pos (by omega),e,GI]
abbrev FulZ(Z:aC)(b:Nat)(l:List Int):Prop:=Ful TI Z b (.slice (some ⟨b,0,none⟩) l.length l.length) (intsZ l)
theorem FulZ.o{Z:aC}{b:Nat}{l:List Int}(h:FulZ Z b l):IntsO Z (some ⟨b,0,none⟩) l.length l:=by
 obtain⟨fz,ver,_,hb,hf⟩:=h
 exact .inr ⟨b,0,_,TI,false,fz,ver,rfl,hb,.inl rfl,hf,Nat.le_refl _,by rw[GI];omega,fun i z hz=>by rw[Nat.zero_add];exact OT hz⟩
theorem FulZ.pathV{Z:aC}{b:Nat}{l:List Int}(h:FulZ Z b l)(h0:∀z∈l,0<=z)(Q:Nat->Prop)(hQ:Q b):PathV Q Z (.slice (some ⟨b,0,none⟩) l.length l.length) (l.map Int.toNat):=by
 refine .inr ⟨b,l.length,[],by rw[List.length_map],hQ,?_⟩
 rw[h.cells.2,List.append_nil,intsZ,intsOf,List.map_map]
 refine congrArg some (List.map_congr_left fun z hz=>?_)
 have:=h0 z hz
 simp only[Function.comp,Int.ofNat_eq_natCast]
 congr 1
 omega
end
section
open Go Go.Eng
inductive LaidI (Z:aC):Nat->Nat->Value->D->Prop
 | leaf (lo hi:Nat) (k n:Int) (t:ByteArray) (p:Option Addr) (c:Nat):LaidI Z lo hi (.agg #[.int .i64 k,.int .i64 n,.string t,.slice p 0 c]) (.mk k n t [])
 | node (lo hi:Nat) (k n:Int) (t:ByteArray) (b c:Nat) (cs:List Value) (ds:List D) (mid:Nat->Nat) (ver:Nat) (h1:lo<=b) (h2:b<mid 0) (h3:mid ds.length<=hi) (h4:∀i,i<ds.length->mid i<=mid (i+1)) (h5:Z.heap.get b=some ⟨.cells cs TD,false,none,ver⟩) (h6:cs.length=ds.length*4) (h7:∀i d,ds[i]? = some d->LaidI Z (mid i) (mid (i+1)) (.agg ((cs.drop (i*4)).take 4).toArray) d):LaidI Z lo hi (.agg #[.int .i64 k,.int .i64 n,.string t,.slice (some ⟨b,0,none⟩) ds.length c]) (.mk k n t ds)
theorem Iz{mid:Nat->Nat}{n:Nat}(h4:∀i,i<n->mid i<=mid (i+1)):∀(j i:Nat),i+j<=n->mid i<=mid (i+j)
 | 0,i,_=>Nat.le_refl _
 | j+1,i,h=>Nat.le_trans (Iz h4 j i (by omega)) (h4 (i+j) (by omega))
theorem OX{R:Nat->Prop}{Z:aC}{b:Nat}{cs:List Value}(hb:Z.cells b=some cs)(hR:R b):∀(es:List D) (i:Nat),(i+es.length)*4<=cs.length->(∀j e,es[j]? = some e->aL R Z (.agg ((cs.drop ((i+j)*4)).take 4).toArray) e)->aO R Z (some ⟨b,0,none⟩) i es
 | [],_,_,_=>trivial
 | e::es,i,hl,h=>⟨⟨b,0,cs,rfl,hR,hb,by rw[List.length_cons] at hl;omega,by have:=h 0 e rfl;rwa [Nat.add_zero,<-Nat.zero_add (i*4)] at this⟩,OX hb hR es (i+1) (by rw[List.length_cons] at hl;omega) fun j e' he=>by
  have:=h (j+1) e' (by simpa using he)
  rwa [show i+(j+1)=i+1+j by omega] at this⟩
theorem LaidI.laid{Z:aC}{lo hi:Nat}{v:Value}{d:D}(h:LaidI Z lo hi v d):aL (fun b=>lo<=b/\b<hi) Z v d:=by
 induction h with
 | leaf lo hi k n t p c=>exact⟨p,c,rfl,trivial⟩
 | node lo hi k n t b c cs ds mid ver h1 h2 h3 h4 h5 h6 h7 ih=>
  have m0:=Iz h4 ds.length 0 (by omega)
  rw[Nat.zero_add] at m0
  refine⟨_,c,rfl,OX (Aq h5) ⟨h1,by omega⟩ ds 0 (by omega) fun j e he=>?_⟩
  have hj:=(List.getElem?_eq_some_iff.1 he).1
  rw[Nat.zero_add]
  have a1:=Iz h4 j 0 (by omega)
  have a2:=Iz h4 (ds.length-(j+1)) (j+1) (by omega)
  rw[show j+1+(ds.length-(j+1))=ds.length by omega] at a2
  rw[Nat.zero_add] at a1
  exact(ih j e he).keep fun c cs hc hcs=>⟨hcs,by omega,by omega⟩
theorem LaidI.keep{Z V:aC}{lo hi:Nat}{v:Value}{d:D}(h:LaidI Z lo hi v d):(∀b e,lo<=b->b<hi->Z.heap.get b=some e->V.heap.get b=some e)->LaidI V lo hi v d:=by
 induction h with
 | leaf lo hi k n t p c=>exact fun _=>.leaf lo hi k n t p c
 | node lo hi k n t b c cs ds mid ver h1 h2 h3 h4 h5 h6 h7 ih=>
  intro hk
  have m0:=Iz h4 ds.length 0 (by omega)
  rw[Nat.zero_add] at m0
  refine .node lo hi k n t b c cs ds mid ver h1 h2 h3 h4 (hk b _ h1 (by omega) h5) h6 fun i d hd=>ih i d hd fun x xs hx hx' hc=>?_
  have hi':=(List.getElem?_eq_some_iff.1 hd).1
  have a1:=Iz h4 i 0 (by omega)
  have a2:=Iz h4 (ds.length-(i+1)) (i+1) (by omega)
  rw[show i+1+(ds.length-(i+1))=ds.length by omega] at a2
  rw[Nat.zero_add] at a1
  exact hk x xs (by omega) (by omega) hc
inductive SpotAt (Z:aC):List Nat->Nat->Nat->Nat->Nat->Prop
 | nil (b off:Nat):SpotAt Z [] b off b off
 | cons (i:Nat) (p:List Nat) (b off bb o l c b' off':Nat) (cs:List Value) (h1:Z.cells b=some cs) (h2:cs[off+3]? = some (.slice (some ⟨bb,o,none⟩) l c)) (h3:SpotAt Z p bb (o+i*4) b' off'):SpotAt Z (i::p) b off b' off'
end
section
open Go Go.Eng
attribute [local congr] Aa Af Ae Ab Ad
attribute [-go_sem] List.range_succ
def CopyI(m:Nat)(d:D):Prop:=∀(lv:List Value) (R:Nat->Prop) (Z:aC),Wf Z->aL R Z (.agg lv.toArray) d->Gives ((env m).call 88 [.agg lv.toArray] none Z) Z fun w V=>LaidI V Z.next V.next w d
structure HeadEi' (bo base:Nat) (R:Nat->Prop) (q:Option Addr) (c:Nat) (ds:List D) (bU:aC) (i:Nat) (f g:Nat->Value) (Z:aC):Prop where
 f0:f 0=.slice q ds.length c
 f1:f 1=.func (.func 88) #[] #[]
 f5:f 5=.slice (some ⟨bo,0,none⟩) ds.length ds.length
 g14:g 14=.int .i64 (.ofNat ds.length)
 g15:g 15=.int .i64 (.ofNat i)
 cs:∃(done rest:List Value) (ver:Nat) (mid:Nat->Nat),Z.heap.get bo=some ⟨.cells (done++rest) TD,false,none,ver⟩/\done.length=i*4/\rest.length=(ds.length-i)*4/\bo<mid 0/\mid i<=Z.next/\(∀j,j<i->mid j<=mid (j+1))/\∀j e,j<i->ds[j]? = some e->LaidI Z (mid j) (mid (j+1)) (.agg ((done.drop (j*4)).take 4).toArray) e
 hbo:base<=bo
 lay:aO R Z q 0 ds
 low:∀b,R b->b<base
 wf:Wf Z
 ext:Ext bU Z
 le:i<=ds.length
end
section
open Go Go.Eng
variable (E:Env) (ro:Option Nat) (last:List Nat->aZ) (cl:List Nat) (a:aY) (u:Option FrameMode) (Z:aC)
end
section
open Go Go.Eng
attribute [local congr] Aa Af Ae Ab Ad
attribute [-go_sem] List.range_succ
theorem SpotAt.keep{Z V:aC}{p:List Nat}{b off b' off':Nat}(h:SpotAt Z p b off b' off')(hk:∀b cs,Z.cells b=some cs->V.cells b=some cs):SpotAt V p b off b' off':=by
 induction h with
 | nil b off=>exact .nil b off
 | cons i p b off bb o l c b' off' cs h1 h2 h3 ih=>exact .cons i p b off bb o l c b' off' cs (hk _ _ h1) h2 ih
def twoE(d e:D):Nat:=if aR d=0 then aR e else aR d
def cmpR(d e:D):Value:=if twoE d e=0 then .tuple #[.int .i64 (ordU d e),.int .i64 0] else .tuple #[.int .i64 0,.int .i64 (twoE d e:Nat)]
def putE(d x:D)(l:List Int):Nat:=if twoE d x=0 then (match atZ l d with|some _=>0|none=>9) else twoE d x
def putR(d x:D)(l:List Int):D:=if twoE d x=0 then (match atZ l d with|some _=>putP (l.map Int.toNat) x d|none=>zeroD) else zeroD
def PutOk(d x:D)(l:List Int)(S:Nat->Prop)(Z:aC)(w:Value):Prop:=∃u,w=.tuple #[u,.int .i64 (putE d x l:Nat)]/\aL S Z u (putR d x l)
theorem WF{d x:D}(h:twoE d x=0):aR d=0/\aR x=0:=by
 unfold twoE at h
 by_cases h1:aR d=0
 .rw[if_pos h1] at h;exact⟨h1,h⟩
 .rw[if_neg h1] at h;exact absurd h h1
section
variable (M m n:Nat) (hm:M=m+22) (hM:M=n+295) (d x:D) (hd:d.count<=150) (hx:x.count<=150) (lv xv:List Value) (h4:lv.length=4) (hx4:xv.length=4) (l:List Int) (hs:l.length<50000) (bv:Nat)
include hm hM hd hx h4 hx4 hs
end
def kindD:D->Int
 | .mk k _ _ _=>k
theorem Ao7{k z:Int}{t:ByteArray}{ds:List D}(h:aR (.mk k z t ds)=0)(hk:k=5):z=0/\t=⟨#[]⟩/\∃a b,ds=[a,b]/\aR a=0/\aR b=0:=by
 rw[aR] at h
 by_cases hp:aQ k z t ds.length=0
 .rw[if_pos hp] at h
  unfold aQ at hp
  rw[if_pos (by omega)] at hp
  by_cases hf:formB k z t ds.length=true
  .rw[if_pos hf] at hp;cases hp
  .rw[Bool.not_eq_true] at hf
   unfold formB at hf
   simp only[Bool.or_eq_false_iff,Bool.and_eq_false_iff,Bool.not_eq_false',bne_eq_false_iff_eq,decide_eq_false_iff_not,Bool.or_eq_true,beq_iff_eq,ne_eq,Decidable.not_not,beq_eq_false_iff_ne] at hf
   obtain⟨⟨⟨h1,h2⟩,h3⟩,h5⟩:=hf
   have hz:z=0:=by
    rcases h1 with h|h
    .omega
    .exact h
   have ht:t.size=0:=by
    rcases h2 with h|h
    .omega
    .exact h
   have hl:ds.length=2:=by
    rcases h5 with h|h
    .exact absurd hk h
    .exact h
   match ds,hl,h with
   | [a,b],_,h=>
    rw[bR] at h
    by_cases ha:aR a=0
    .rw[if_pos ha,bR] at h
     by_cases hb:aR b=0
     .exact⟨hz,D0 ht,a,b,rfl,ha,hb⟩
     .rw[if_neg hb] at h;exact absurd h hb
    .rw[if_neg ha] at h;exact absurd h ha
 .rw[if_neg hp] at h;exact absurd h hp
theorem WD:∀(n:Nat) (d:D),d.count<=n->aR d=0->∃es t,d=bS t es/\kindD t≠5/\aR t=0/\∀e∈es,aR e=0
 | 0,.mk k z t ds,hn,_=>by rw[D.count] at hn;omega
 | n+1,.mk k z t ds,hn,h=>by
  by_cases hk:k=5
  .obtain⟨rfl,rfl,a,b,rfl,ha,hb⟩:=Ao7 h hk
   subst hk
   rw[D.count,D.counts,D.counts,D.counts] at hn
   obtain⟨es,t,h1,h2,h3,h4⟩:=WD n b (by omega) hb
   exact⟨a::es,t,by rw[bS,pairD,<-h1],h2,h3,fun e he=>by
    rcases List.mem_cons.1 he with rfl|he
    .exact ha
    .exact h4 e he⟩
  .exact⟨[],.mk k z t ds,rfl,hk,h,fun e he=>by simp at he⟩
theorem AvG:∀ {t:D},aR t=0->kindD t=0->t=nilD
 | .mk k z t ds,h,hk=>by
  have hk':k=0:=hk
  subst hk'
  rw[aR] at h
  by_cases hp:aQ 0 z t ds.length=0
  .unfold aQ at hp
   rw[if_pos (by omega)] at hp
   by_cases hf:formB 0 z t ds.length=true
   .rw[if_pos hf] at hp;cases hp
   .rw[Bool.not_eq_true] at hf
    unfold formB at hf
    simp only[Bool.or_eq_false_iff,Bool.and_eq_false_iff,Bool.not_eq_false',bne_eq_false_iff_eq,decide_eq_false_iff_not,Bool.or_eq_true,beq_iff_eq,ne_eq,Decidable.not_not,beq_eq_false_iff_ne] at hf
    obtain⟨⟨⟨h1,h2⟩,h3⟩,_⟩:=hf
    have hz:z=0:=by
     rcases h1 with h|h
     .omega
     .exact h
    have ht:t.size=0:=by
     rcases h2 with h|h
     .omega
     .exact h
    have hd:ds=[]:=List.length_eq_zero_iff.1 (by
     rcases h3 with h|h
     .omega
     .omega)
    subst hz hd
    rw[D0 ht]
    rfl
  .rw[if_neg hp] at h;exact absurd h hp
structure LSplit (d t:D) (es:List D):Prop where
 eq:d=bS t es
 knd:kindD t≠5
 endE:aR t=0
 all:∀e∈es,aR e=0
def listE(d t:D):Nat:=if aR d=0 then (if kindD t=0 then 0 else 4) else aR d
theorem LSplit.few{d t:D}{es:List D}(h:LSplit d t es):es.length+D.counts es+t.count=d.count:=by rw[h.eq,Ec]
theorem LSplit.nil{d t:D}{es:List D}(h:LSplit d t es)(hk:kindD t=0):t=nilD:=AvG h.endE hk
theorem GF(n:Nat){R:Nat->Prop}{d t:D}{es:List D}(hS:LSplit d t es)(hc:d.count<=800)(lv:List Value)(h4:lv.length=4)(Z:aC)(hw:Wf Z)(hL:aL R Z (.agg lv.toArray) d)(hR:∀b,R b->b<Z.next):
  (kindD t=0->Gives ((env (n+3)).call 80 [.agg lv.toArray] none Z) Z fun w V=>VecG (fun b=>Z.next<=b) R V w es)/\
  (kindD t≠0->Fails ((env (n+3)).call 80 [.agg lv.toArray] none Z) Z 4 0):=by
 have hfew:=hS.few
 have hkn:=hS.knd
 obtain⟨rfl,_,_,_⟩:=hS
 obtain⟨k,z,tt,td⟩:=t
 have ht:lv.take 4=lv:=List.take_of_length_le (by omega)
 have hk5:(k==5)=false:=by rw[beq_eq_false_iff_ne];exact hkn
 rw[Al _ 80 _ _ rfl,AoC _ _ _ _ (by simp),Aj]
 unfold AmO
 have x1:Ext Z (Z.push (.cells lv TD) none):=(Ext.refl _).push _ _
 have hw1:=hw.push (.cells lv TD) none
 have c1:(Z.push (.cells lv TD) none).cells Z.next=some lv:=by rw[Ah,if_pos rfl];rfl
 have n1:(Z.push (.cells lv TD) none).next=Z.next+1:=rfl
 simp -implicitDefEqProofs only[go_sem,Ald,ZA]
 generalize aC.push Z _ _=a_ at x1 hw1 c1 n1 ⊢
 obtain⟨_,a9,e2,x2,hw2,s,tv,rfl,htv,hV,hT⟩:=TX (n+1) k z tt td hk5 es (by omega) lv h4 a_ hw1 (hL.keep fun b cs hb hc=>⟨(x1.cells (hw.cells hc)).trans hc,hb⟩) (fun b hb=>by have:=hR b hb;omega)
 obtain⟨q,c,hv,_⟩:=hT
 have hlv:tv=[.int .i64 k,.int .i64 z,.string tt,.slice q td.length c]:=by
  have:=Value.agg.inj hv
  simpa using congrArg Array.toList this
 subst hlv
 have o:=hV.one
 have n2:=x2.next
 have x3:Ext Z ((a9.push (.cells [.int .i64 0,.int .i64 0,.string ⟨#[]⟩,.slice none 0 0] TD) none).put a9.next (.cells [.int .i64 k,.int .i64 z,.string tt,.slice q td.length c] TD) none):=(((x1.trans x2).push _ _).put _ _ _ (by omega))
 have hw3:=(hw2.push (.cells [.int .i64 0,.int .i64 0,.string ⟨#[]⟩,.slice none 0 0] TD) none).put a9.next (.cells [.int .i64 k,.int .i64 z,.string tt,.slice q td.length c] TD) none (Nat.lt_succ_self _)
 refine⟨fun hk=>?_,fun hk=>?_⟩
 .have y1:(!(k==0))=false:=by
   have hk':k=0:=hk
   rw[hk'];decide
  simp -implicitDefEqProofs only[go_sem,Ar,V0,SF,V1,SG,Alf,ZC,c1,h4,ht,e2,o.1,o.2.1,o.2.2,y1,AB,Av,Au,AU,Nat.le_refl]
  refine⟨_,_,rfl,x3,hw3,hV.keep (fun b e hb hc=>?_) fun b cs hb hc=>?_⟩
  .have:=(hw2 _ _ hc).1
   exact⟨by rw[Am,if_neg (by omega),Ai,if_neg (by omega)];exact hc,by omega⟩
  .have:=hw2.cells hc
   exact⟨by rw[Ak,if_neg (by omega),Ah,if_neg (by omega)];exact hc,hb⟩
 .have y1:(!(k==0))=true:=by
   have hk':k≠0:=hk
   rw[beq_eq_false_iff_ne.2 hk'];rfl
  have e9:=fun τ=>G7 n 4 τ
  simp -implicitDefEqProofs only[go_sem,Ar,V0,SF,V1,SG,Ale,ZB,c1,h4,ht,e2,o.1,o.2.1,o.2.2,y1,e9,Nat.le_refl,A8,Ay,AA,AV]
  exact⟨_,rfl,x3,hw3⟩
theorem KT(n b1 b2:Nat)(c z x1 x2:Int)(v1 v2:Nat)(Z:aC)(hw:Wf Z)(hne:b1≠b2)(g1:Z.heap.get b1=some ⟨.cells [.int .i64 x1] 3,false,none,v1⟩)(g2:Z.heap.get b2=some ⟨.cells [.int .i64 x2] 32,false,none,v2⟩):
  ∃a_,Ext Z a_/\Wf a_/\(env (n+3)).call 148 [.pointer (some ⟨b1,0,none⟩),.pointer (some ⟨b2,0,none⟩)] (some (.panicking [failing c z])) Z=
   .ret (.tuple #[]) (some (.panicking [failed c z])) ((a_.put b1 (.cells [.int .i64 z] 3) none).put b2 (.cells [.int .i64 c] 32) none):=by
 rw[Hz,Ua _ _ _ _ (by simp),Aj]
 unfold Tf
 obtain⟨_,a9,e2,hX2,hw2,rfl⟩:=FL n c z Z hw
 have m1:=(hw _ _ g1).1
 have m2:=(hw _ _ g2).1
 have k1:a9.heap.get b1=_:=(hX2.get b1 m1).trans g1
 have k2:a9.heap.get b2=_:=(hX2.get b2 m2).trans g2
 have l1:a9.next≠b1:=by have:=hX2.next;omega
 have l2:a9.next≠b2:=by have:=hX2.next;omega
 have w4:Wf ((a9.push (.cells [.int .i64 0,.int .i64 0] 171) none).put a9.next (.cells [.int .i64 c,.int .i64 z] 171) none):=(hw2.push (.cells [.int .i64 0,.int .i64 0] 171) none).put _ _ _ (by simp only[Ac];omega)
 have hv4:=Dw (lam:=a9.clock+2) w4 (Nat.le_refl _)
 simp -implicitDefEqProofs only[go_sem,WK,hv4,Ar,Pp,Lo,Pq,Lp,AdF,Q2,AdG,Q3,AdH,Q4,AdI,Q5,G_,Afq,OG,e2,k1,k2,l1,l2,l1.symm,l2.symm,hne,hne.symm,AB,Av]
 refine⟨_,(hX2.push _ _).put _ _ _ hX2.next,w4,rfl⟩
theorem NT(n w:Nat)(cap:Array Value)(c z:Int)(Z:aC)(hw:Wf Z)(h:∀V,Ext Z V->Wf V->Fails ((env (n+3)).call w cap.toList none V) V c z):
  Gives ((env (n+4)).call 121 [.func (.func w) #[] cap] none Z) Z fun v _=>v=.tuple #[.slice none 0 0,.int .i64 z,.int .i64 c]:=by
 rw[Al _ 121 _ _ rfl,T9 _ _ _ _ (by simp),Aj]
 unfold Td
 have hX1:Ext Z ((Z.push (.cells [.int .i64 0] 3) none).push (.cells [.int .i64 0] 32) none):=((Ext.refl _).push _ _).push _ _
 have hw1:=(hw.push (.cells [.int .i64 0] 3) none).push (.cells [.int .i64 0] 32) none
 obtain⟨a9,e2,hX2,hw2⟩:=h _ hX1 hw1
 have g1:a9.heap.get Z.next=_:=(hX2.get Z.next (by simp only[Ac];omega)).trans (by simp -implicitDefEqProofs only[Ai,Ac,Nat.add_assoc,Nat.reduceAdd,Nat.left_eq_add,reduceCtorEq,↓reduceIte,Nat.reduceEqDiff]<;>rfl)
 have g2:a9.heap.get (Z.next+1)=_:=(hX2.get (Z.next+1) (by simp only[Ac];omega)).trans (by simp -implicitDefEqProofs only[Ai,Ac,Nat.add_assoc,Nat.reduceAdd,Nat.add_left_cancel_iff,reduceCtorEq,↓reduceIte,Nat.reduceEqDiff]<;>rfl)
 obtain⟨bT,hX3,hw3,e3⟩:=KT n Z.next (Z.next+1) c z 0 0 _ _ a9 hw2 (by omega) g1 g2
 have m1:=(hw2 _ _ g1).1
 have m2:=(hw2 _ _ g2).1
 simp -implicitDefEqProofs only[go_sem,Ar,O9,K8,O_,K9,Pa,K_,e2,A8,Ay,AA,LY,e3,Gu,PO,IQ,AB,Av,Au,AH,AU]
 have hn3:=hX3.next
 refine⟨_,_,rfl,?_,?_,rfl⟩
 .exact(((hX1.trans hX2).trans hX3).put Z.next _ _ (Nat.le_refl _)).put (Z.next+1) _ _ (Nat.le_add_right _ _)
 .exact(hw3.put Z.next _ _ (by omega)).put (Z.next+1) _ _ (by simp only[Aw];omega)
theorem TG(n w:Nat)(cap:Array Value)(c z:Int)(Z:aC)(hw:Wf Z)(h:∀V,Ext Z V->Wf V->Fails ((env (n+3)).call w cap.toList none V) V c z):
  Gives ((env (n+5)).call 77 [.func (.func w) #[] cap] none Z) Z fun v _=>v=.tuple #[.slice none 0 0,.int .i64 c]:=by
 rw[Al _ 77 _ _ rfl,Abd _ _ _ _ (by simp),Aj]
 unfold Acb
 obtain⟨_,a9,e2,hX2,hw2,rfl⟩:=NT n w cap c z Z hw h
 simp -implicitDefEqProofs only[go_sem,VW,SB,VX,SC,VY,SD,e2,AB,Av,Au,AU]
 exact⟨_,_,rfl,hX2,hw2,rfl⟩
theorem UV{d t:D}{es:List D}(h0:aR d=0):listE d t=if kindD t=0 then 0 else 4:=by unfold listE;rw[if_pos h0]
theorem Ml{d t:D}(h:listE d t=0):aR d=0/\kindD t=0:=by
 unfold listE at h
 by_cases h0:aR d=0
 .rw[if_pos h0] at h
  by_cases hk:kindD t=0
  .exact⟨h0,hk⟩
  .rw[if_neg hk] at h;cases h
 .rw[if_neg h0] at h;exact absurd h h0
theorem JV{n M:Nat}(hM:M=n+337){es:List D}(hc:D.counts es<=800)(hd:∀e∈es,e.count<=170):∀e∈es,CopyAt (M+3) e:=fun e he=>by
 have h1:=Bz e
 have h2:=hd e he
 have:=Hx n 170 e (by omega) (by omega)
 rwa [show n+2*170=M+3 by omega] at this
theorem LSplit.small{d t:D}{es:List D}(h:LSplit d t es)(hc:d.count<=170):∀e∈es,e.count<=170:=fun e he=>by
 have:=h.few
 have:=Fs he
 omega
section
variable (M m n:Nat) (hm:M=m+22) (hM:M=n+337) (d t:D) (es:List D) (hd:d.count<=170) (hS:aR d=0->LSplit d t es) (lv:List Value) (h4:lv.length=4)
include hm hM hd hS h4
theorem WE(bd:Nat)(Z:aC)(hw:Wf Z)(hb:Z.cells bd=some lv)(hL:aL (fun b=>b<Z.next) Z (.agg lv.toArray) d):
  (listE d t=0->Gives ((env (M+6)).call 78 [.pointer (some ⟨bd,0,none⟩)] none Z) Z fun v V=>∃q c,v=.slice q es.length c/\aO (fun b=>Z.next<=b) V q 0 es)/\
  (listE d t≠0->Fails ((env (M+6)).call 78 [.pointer (some ⟨bd,0,none⟩)] none Z) Z (listE d t:Nat) 0):=by
 rw[Al _ 78 _ _ rfl,AoA _ _ _ _ (by simp),Aj]
 unfold AmM
 have ht:lv.take 4=lv:=List.take_of_length_le (by omega)
 have st:∀ {τ:aC},Ext Z τ->∀ {v:Value} {d:D},aL (fun b=>b<Z.next) Z v d->aL (fun b=>b<τ.next) τ v d:=fun hX v d h=>h.keep fun b cs hb hc=>⟨(hX.cells hb).trans hc,by have:=hX.next;omega⟩
 unfold listE
 by_cases e0:aR d=0
 .rw[if_pos e0]
  have hs:=hS e0
  have hfew:=hs.few
  obtain⟨_,a_,e1,x1,hw1,rfl⟩:=Gw m d e0 (by omega) lv h4 _ Z hw hL (fun b hb=>hb)
  rw[show m+27=M+5 by omega] at e1
  have c1:=(x1.cells (hw.cells hb)).trans hb
  have n1:=x1.next
  obtain⟨hA,hB⟩:=GF (M+2) hs (by omega) lv h4 a_ hw1 (st x1 hL) (fun b hb=>hb)
  by_cases hk:kindD t=0
  .rw[if_pos hk]
   refine⟨fun _=>?_,fun h=>absurd rfl h⟩
   obtain⟨s,a9,e2,x2,hw2,hV⟩:=hA hk
   obtain⟨p,rfl,hE⟩:=hV.slice
   have n2:=x2.next
   obtain⟨_,bT,e3,x3,hw3,q,c,rfl,hE'⟩:=GA (M+3) es (JV hM (by omega) (hs.small hd)) (by omega) p es.length _ a9 hw2 hE
   simp -implicitDefEqProofs only[go_sem,Nh,Ng,Nj,Ni,VZ,SE,hb,c1,h4,ht,e1,e2,e3,Nat.le_refl]
   exact⟨_,_,rfl,(x1.trans x2).trans x3,hw3,q,c,rfl,hE'.keep fun b cs hb hc=>⟨hc,by omega⟩⟩
  .rw[if_neg hk]
   refine⟨fun h=>(by cases h),fun _=>?_⟩
   obtain⟨a9,e2,x2,hw2⟩:=hB hk
   simp -implicitDefEqProofs only[go_sem,Nh,Ng,Nj,Ni,VZ,SE,hb,c1,h4,ht,e1,e2,Nat.le_refl,A8,Ay,AA,AV]
   exact⟨_,rfl,x1.trans x2,hw2⟩
 .rw[if_neg e0]
  refine⟨fun h=>absurd h e0,fun _=>?_⟩
  obtain⟨a_,e1,x1,hw1⟩:=Gx m d e0 (by omega) lv h4 _ Z hw hL (fun b hb=>hb)
  rw[show m+27=M+5 by omega] at e1
  simp -implicitDefEqProofs only[go_sem,Nh,Ng,Nj,Ni,hb,h4,ht,e1,Nat.le_refl,A8,Ay,AA,AV]
  exact⟨_,rfl,x1,hw1⟩
def TolOk(d t:D)(es:List D)(S:Nat->Prop)(Z:aC)(w:Value):Prop:=∃q c,w=.tuple #[.slice q (if listE d t=0 then es else []).length c,.int .i64 (listE d t:Nat)]/\aO S Z q 0 (if listE d t=0 then es else [])
theorem AaW(Z:aC)(hw:Wf Z)(hL:aL (fun b=>b<Z.next) Z (.agg lv.toArray) d):
  Gives ((env (M+9)).call 22 [.agg lv.toArray] none Z) Z fun w V=>TolOk d t es (fun b=>Z.next<=b) V w:=by
 rw[Al _ 22 _ _ rfl,Aof _ _ _ _ (by simp),Aj]
 unfold Amr TolOk
 have x1:Ext Z (Z.push (.cells lv TD) none):=(Ext.refl _).push _ _
 have hw1:=hw.push (.cells lv TD) none
 have c1:(Z.push (.cells lv TD) none).cells Z.next=some lv:=by rw[Ah,if_pos rfl];rfl
 have st:∀ {τ:aC},Ext Z τ->∀ {v:Value} {d:D},aL (fun b=>b<Z.next) Z v d->aL (fun b=>b<τ.next) τ v d:=fun hX v d h=>h.keep fun b cs hb hc=>⟨(hX.cells hb).trans hc,by have:=hX.next;omega⟩
 by_cases he:listE d t=0
 .simp only[if_pos he]
  obtain⟨_,a9,e2,x2,hw2,q,c,rfl,hE⟩:=AwL (M+5) 78 #[.pointer (some ⟨Z.next,0,none⟩)] es _ hw1 fun V hx' hw'=>
   (WE M m n hm hM d t es hd hS lv h4 Z.next V hw' ((hx'.cells (hw1.cells c1)).trans c1) (st (x1.trans hx') hL)).1 he
  simp -implicitDefEqProofs only[go_sem,Vf,RL,Vg,RM,e2,h4,AB,Av,Au,AU]
  exact⟨_,_,rfl,x1.trans x2,hw2,q,c,by rw[he];rfl,hE.keep fun b cs hb hc=>⟨hc,by rw[Ac] at hb;omega⟩⟩
 .simp only[if_neg he]
  obtain⟨_,a9,e2,x2,hw2,rfl⟩:=TG (M+3) 78 #[.pointer (some ⟨Z.next,0,none⟩)] (listE d t:Nat) 0 _ hw1 fun V hx' hw'=>
   (WE M m n hm hM d t es hd hS lv h4 Z.next V hw' ((hx'.cells (hw1.cells c1)).trans c1) (st (x1.trans hx') hL)).2 he
  simp -implicitDefEqProofs only[go_sem,Vf,RL,Vg,RM,e2,h4,AB,Av,Au,AU]
  exact⟨_,_,rfl,x1.trans x2,hw2,none,0,rfl,trivial⟩
theorem Ane(bd:Nat)(Z:aC)(hw:Wf Z)(hb:Z.cells bd=some lv)(hL:aL (fun b=>b<Z.next) Z (.agg lv.toArray) d):
  (listE d t=0->Gives ((env (M+6)).call 90 [.pointer (some ⟨bd,0,none⟩)] none Z) Z fun v V=>aL (fun b=>Z.next<=b) V v (bS nilD es.reverse))/\
  (listE d t≠0->Fails ((env (M+6)).call 90 [.pointer (some ⟨bd,0,none⟩)] none Z) Z (listE d t:Nat) 0):=by
 rw[Al _ 90 _ _ rfl,AoL _ _ _ _ (by simp),Aj]
 unfold AmX
 have ht:lv.take 4=lv:=List.take_of_length_le (by omega)
 have st:∀ {τ:aC},Ext Z τ->∀ {v:Value} {d:D},aL (fun b=>b<Z.next) Z v d->aL (fun b=>b<τ.next) τ v d:=fun hX v d h=>h.keep fun b cs hb hc=>⟨(hX.cells hb).trans hc,by have:=hX.next;omega⟩
 have x0:Ext Z (Z.push (.cells [.int .i64 0,.int .i64 0,.string ⟨#[]⟩,.slice none 0 0] TD) none):=(Ext.refl _).push _ _
 have hw0:=hw.push (.cells [.int .i64 0,.int .i64 0,.string ⟨#[]⟩,.slice none 0 0] TD) none
 have g0:(Z.push (.cells [.int .i64 0,.int .i64 0,.string ⟨#[]⟩,.slice none 0 0] TD) none).heap.get Z.next=some ⟨.cells [.int .i64 0,.int .i64 0,.string ⟨#[]⟩,.slice none 0 0] TD,false,none,Z.clock⟩:=by rw[Ai,if_pos rfl]
 have n0:(Z.push (.cells [.int .i64 0,.int .i64 0,.string ⟨#[]⟩,.slice none 0 0] TD) none).next=Z.next+1:=rfl
 simp -implicitDefEqProofs only[go_sem,AlZ,Aaa]
 have c0:=(x0.cells (hw.cells hb)).trans hb
 generalize aC.push Z _ _=bU at x0 hw0 g0 n0 c0 ⊢
 unfold listE
 by_cases e0:aR d=0
 .rw[if_pos e0]
  have hs:=hS e0
  have hfew:=hs.few
  obtain⟨_,a_,e1,x1,hw1,rfl⟩:=Gw m d e0 (by omega) lv h4 _ bU hw0 (st x0 hL) (fun b hb=>hb)
  rw[show m+27=M+5 by omega] at e1
  have x01:=x0.trans x1
  have n1:=x1.next
  have c1:=(x1.cells (hw0.cells c0)).trans c0
  obtain⟨hA,hB⟩:=GF (M+2) hs (by omega) lv h4 a_ hw1 (st x01 hL) (fun b hb=>hb)
  by_cases hk:kindD t=0
  .rw[if_pos hk]
   refine⟨fun _=>?_,fun h=>absurd rfl h⟩
   obtain⟨s,a9,e2,x2,hw2,hV⟩:=hA hk
   obtain⟨bT,e3,ch3,hw3,hV3⟩:=Aaw (M+4) (fun b hb hr=>by omega) (by omega) a9 hw2 hV
   have o:=hV.one
   have n2:=x2.next
   have n3:=ch3.next
   obtain⟨p,hs',hE⟩:=hV3.slice
   have hcr:=EM es
   obtain⟨_,bX,e4,x4,hw4,q,c,rfl,hE'⟩:=GA (M+3) es.reverse (JV hM (by omega) (fun e he=>hs.small hd e (List.mem_reverse.1 he))) (by rw[List.length_reverse];omega) p es.reverse.length _ bT hw3 hE
   rw[<-hs'] at e4
   have n4:=x4.next
   obtain⟨_,bV,e5,x5,hw5,hL5⟩:=Qo (M+2) (Z.next+1) nilD es.reverse (by rw[List.length_reverse];omega) [.int .i64 0,.int .i64 0,.string ⟨#[]⟩,.slice none 0 0] rfl q c bX hw4 (by omega) (Ja _ _) (hE'.keep fun b cs hb hc=>⟨hc,by omega⟩)
   obtain⟨l4,rfl,hl4,ho4⟩:=hL5.agg
   have n5:=x5.next
   have g5:bV.heap.get Z.next=_:=(x5.get _ (by omega)).trans ((x4.get _ (by omega)).trans ((ch3.get _ (by omega) (by omega)).trans ((x2.get _ (by omega)).trans ((x1.get _ (by omega)).trans g0))))
   have tl4:l4.take 4=l4:=List.take_of_length_le (by omega)
   simp -implicitDefEqProofs only[go_sem,Ar,Nt,Ns,Wm,S0,Al0,Aab,Al1,Aac,c0,c1,h4,ht,e1,e2,o.1,o.2.1,o.2.2,e3,e4,e5,g5,hl4,ho4,tl4,Bg,AB,Av,Au,AH,Nat.le_refl]
   have x05:Ext Z bV:=((((x01.trans x2).chg _).trans ch3 fun b _ h=>h).ext fun b hb h=>by omega).trans (x4.trans x5)
   exact⟨_,_,rfl,x05.put _ _ _ (Nat.le_refl _),hw5.put _ _ _ (by omega),hL5.keep fun b cs hb hc=>⟨by rw[Ak,if_neg (by omega)];exact hc,by omega⟩⟩
  .rw[if_neg hk]
   refine⟨fun h=>(by cases h),fun _=>?_⟩
   obtain⟨a9,e2,x2,hw2⟩:=hB hk
   simp -implicitDefEqProofs only[go_sem,Nt,Ns,Wm,S0,c0,c1,h4,ht,e1,e2,Nat.le_refl,A8,Ay,AA,AV]
   exact⟨_,rfl,x01.trans x2,hw2⟩
 .rw[if_neg e0]
  refine⟨fun h=>absurd h e0,fun _=>?_⟩
  obtain⟨a_,e1,x1,hw1⟩:=Gx m d e0 (by omega) lv h4 _ bU hw0 (st x0 hL) (fun b hb=>hb)
  rw[show m+27=M+5 by omega] at e1
  simp -implicitDefEqProofs only[go_sem,Nt,Ns,c0,h4,ht,e1,Nat.le_refl,A8,Ay,AA,AV]
  exact⟨_,rfl,x0.trans x1,hw1⟩
def TurnR(d t:D)(es:List D):D:=if listE d t=0 then bS nilD es.reverse else zeroD
def TurnOk(d t:D)(es:List D)(S:Nat->Prop)(Z:aC)(w:Value):Prop:=∃u,w=.tuple #[u,.int .i64 (listE d t:Nat)]/\aL S Z u (TurnR d t es)
theorem Anf(Z:aC)(hw:Wf Z)(hL:aL (fun b=>b<Z.next) Z (.agg lv.toArray) d):
  Gives ((env (M+9)).call 29 [.agg lv.toArray] none Z) Z fun w V=>TurnOk d t es (fun b=>Z.next<=b) V w:=by
 rw[Al _ 29 _ _ rfl,Aom _ _ _ _ (by simp),Aj]
 unfold Amy TurnOk TurnR
 have x1:Ext Z ((Z.push (.cells lv TD) none).push (.cells [.int .i64 0,.int .i64 0,.string ⟨#[]⟩,.slice none 0 0] TD) none):=((Ext.refl _).push _ _).push _ _
 have hw1:=(hw.push (.cells lv TD) none).push (.cells [.int .i64 0,.int .i64 0,.string ⟨#[]⟩,.slice none 0 0] TD) none
 have c1:((Z.push (.cells lv TD) none).push (.cells [.int .i64 0,.int .i64 0,.string ⟨#[]⟩,.slice none 0 0] TD) none).cells Z.next=some lv:=by rw[Ah,if_neg (by rw[Ac];omega),Ah,if_pos rfl];rfl
 have g2:((Z.push (.cells lv TD) none).push (.cells [.int .i64 0,.int .i64 0,.string ⟨#[]⟩,.slice none 0 0] TD) none).heap.get (Z.next+1)=some ⟨.cells [.int .i64 0,.int .i64 0,.string ⟨#[]⟩,.slice none 0 0] TD,false,none,Z.clock+1⟩:=by rw[Ai,if_pos (by rw[Ac])];rfl
 have st:∀ {τ:aC},Ext Z τ->∀ {v:Value} {d:D},aL (fun b=>b<Z.next) Z v d->aL (fun b=>b<τ.next) τ v d:=fun hX v d h=>h.keep fun b cs hb hc=>⟨(hX.cells hb).trans hc,by have:=hX.next;omega⟩
 by_cases he:listE d t=0
 .simp only[if_pos he]
  obtain⟨_,a9,e2,x2,hw2,u,rfl,hq⟩:=Ae1 (M+5) 90 #[.pointer (some ⟨Z.next,0,none⟩)] (bS nilD es.reverse) _ hw1 fun V hx' hw'=>
   (Ane M m n hm hM d t es hd hS lv h4 Z.next V hw' ((hx'.cells (hw1.cells c1)).trans c1) (st (x1.trans hx') hL)).1 he
  obtain⟨l4,rfl,hl4,ho4⟩:=hq.agg
  have g2':=(x2.get _ (hw1 _ _ g2).1).trans g2
  have m2:=(hw2 _ _ g2').1
  have tl4:l4.take 4=l4:=List.take_of_length_le (by omega)
  simp -implicitDefEqProofs only[go_sem,Ar,Vv,R2,Vw,R3,h4,e2,g2',hl4,ho4,tl4,Bg,AB,Av,Au,AH,AU]
  exact⟨_,_,rfl,(x1.trans x2).put _ _ _ (by omega),hw2.put _ _ _ m2,_,by rw[he];rfl,hq.keep fun b cs hb hc=>by
   simp only[Ac] at hb
   exact⟨by rw[Ak,if_neg (by omega)];exact hc,by omega⟩⟩
 .simp only[if_neg he]
  obtain⟨_,a9,e2,x2,hw2,rfl⟩:=Im (M+3) 90 #[.pointer (some ⟨Z.next,0,none⟩)] (listE d t:Nat) 0 _ hw1 fun V hx' hw'=>
   (Ane M m n hm hM d t es hd hS lv h4 Z.next V hw' ((hx'.cells (hw1.cells c1)).trans c1) (st (x1.trans hx') hL)).2 he
  have g2':=(x2.get _ (hw1 _ _ g2).1).trans g2
  have m2:=(hw2 _ _ g2').1
  simp -implicitDefEqProofs only[go_sem,Ar,Vv,R2,Vw,R3,e2,g2',Bg,AB,Av,Au,AH,AU]
  exact⟨_,_,rfl,(x1.trans x2).put _ _ _ (by omega),hw2.put _ _ _ m2,_,rfl,EI _ _⟩
end
def appE(d x t:D):Nat:=if twoE d x=0 then (if kindD t=0 then 0 else 4) else twoE d x
def appR(d x t:D)(es:List D):D:=if appE d x t=0 then bS x es else zeroD
def AppOk(d x t:D)(es:List D)(S:Nat->Prop)(Z:aC)(w:Value):Prop:=∃u,w=.tuple #[u,.int .i64 (appE d x t:Nat)]/\aL S Z u (appR d x t es)
section
variable (M m n:Nat) (hm:M=m+22) (hM:M=n+337) (d x t:D) (es:List D) (hd:d.count<=170) (hx:x.count<=170) (hS:aR d=0->LSplit d t es) (lv xv:List Value) (h4:lv.length=4) (hx4:xv.length=4)
include hm hM hd hx hS h4 hx4
theorem Tx(ba bb:Nat)(Z:aC)(hw:Wf Z)(hb:Z.cells ba=some lv)(hb':Z.cells bb=some xv)(hL:aL (fun b=>b<Z.next) Z (.agg lv.toArray) d)(hLx:aL (fun b=>b<Z.next) Z (.agg xv.toArray) x):
  (appE d x t=0->Gives ((env (M+6)).call 87 [.pointer (some ⟨ba,0,none⟩),.pointer (some ⟨bb,0,none⟩)] none Z) Z fun v V=>aL (fun b=>Z.next<=b) V v (bS x es))/\
  (appE d x t≠0->Fails ((env (M+6)).call 87 [.pointer (some ⟨ba,0,none⟩),.pointer (some ⟨bb,0,none⟩)] none Z) Z (appE d x t:Nat) 0):=by
 rw[Al _ 87 _ _ rfl,AoI _ _ _ _ (by simp),Aj]
 unfold AmU
 have ht:lv.take 4=lv:=List.take_of_length_le (by omega)
 have htx:xv.take 4=xv:=List.take_of_length_le (by omega)
 have st:∀ {τ:aC},Ext Z τ->∀ {v:Value} {d:D},aL (fun b=>b<Z.next) Z v d->aL (fun b=>b<τ.next) τ v d:=fun hX v d h=>h.keep fun b cs hb hc=>⟨(hX.cells hb).trans hc,by have:=hX.next;omega⟩
 have x0:Ext Z (Z.push (.cells [.int .i64 0,.int .i64 0,.string ⟨#[]⟩,.slice none 0 0] TD) none):=(Ext.refl _).push _ _
 have hw0:=hw.push (.cells [.int .i64 0,.int .i64 0,.string ⟨#[]⟩,.slice none 0 0] TD) none
 have g0:(Z.push (.cells [.int .i64 0,.int .i64 0,.string ⟨#[]⟩,.slice none 0 0] TD) none).heap.get Z.next=some ⟨.cells [.int .i64 0,.int .i64 0,.string ⟨#[]⟩,.slice none 0 0] TD,false,none,Z.clock⟩:=by rw[Ai,if_pos rfl]
 have n0:(Z.push (.cells [.int .i64 0,.int .i64 0,.string ⟨#[]⟩,.slice none 0 0] TD) none).next=Z.next+1:=rfl
 simp -implicitDefEqProofs only[go_sem,AlA,ZW]
 have c0:=(x0.cells (hw.cells hb)).trans hb
 have c0':=(x0.cells (hw.cells hb')).trans hb'
 generalize aC.push Z _ _=bU at x0 hw0 g0 n0 c0 c0' ⊢
 unfold appE
 by_cases e0:aR d=0
 .obtain⟨_,a_,e1,x1,hw1,rfl⟩:=Gw m d e0 (by omega) lv h4 _ bU hw0 (st x0 hL) (fun b hb=>hb)
  rw[show m+27=M+5 by omega] at e1
  have x01:=x0.trans x1
  have n1:=x1.next
  have c1':=(x1.cells (hw0.cells c0')).trans c0'
  have c1:=(x1.cells (hw0.cells c0)).trans c0
  by_cases ex:aR x=0
  .have e2z:twoE d x=0:=by unfold twoE;rw[if_pos e0];exact ex
   rw[if_pos e2z]
   have hs:=hS e0
   have hfew:=hs.few
   obtain⟨_,a9,e2,x2,hw2,rfl⟩:=Gw m x ex (by omega) xv hx4 _ a_ hw1 (st x01 hLx) (fun b hb=>hb)
   rw[show m+27=M+5 by omega] at e2
   have x02:=x01.trans x2
   have n2:=x2.next
   have c2:=(x2.cells (hw1.cells c1)).trans c1
   have c2':=(x2.cells (hw1.cells c1')).trans c1'
   obtain⟨hA,hB⟩:=GF (M+2) hs (by omega) lv h4 a9 hw2 (st x02 hL) (fun b hb=>hb)
   by_cases hk:kindD t=0
   .rw[if_pos hk]
    refine⟨fun _=>?_,fun h=>absurd rfl h⟩
    obtain⟨s,bT,e3,x3,hw3,hV⟩:=hA hk
    have x03:=x02.trans x3
    have n3:=x3.next
    have c3':=(x3.cells (hw2.cells c2')).trans c2'
    have dx:=Bz x
    have hcx:=Hx (n+2) 170 x (by omega) (by omega)
    rw[show n+2+2*170=M+5 by omega] at hcx
    obtain⟨_,bX,e4,x4,hw4,hU⟩:=hcx xv _ bT hw3 (st x03 hLx)
    obtain⟨u4,rfl,hu4,huo⟩:=hU.agg
    have n4:=x4.next
    have o:=hV.one
    have hV4:VecG (fun b=>a9.next<=b) (fun b=>b<a9.next) bX s es:=hV.keep (fun b e hb hc=>⟨(x4.get _ (hw3 _ _ hc).1).trans hc,hb⟩) (fun b cs hb hc=>⟨(x4.cells (hw3.cells hc)).trans hc,hb⟩)
    obtain⟨p,hs',hE⟩:=hV4.slice
    obtain⟨_,bV,e5,x5,hw5,q,c,rfl,hE'⟩:=GA (M+3) es (JV hM (by omega) (hs.small hd)) (by omega) p es.length _ bX hw4 hE
    rw[<-hs'] at e5
    have n5:=x5.next
    obtain⟨_,cB,e6,x6,hw6,hL6⟩:=Qo (M+2) (Z.next+1) x es (by omega) u4 hu4 q c bV hw5 (by omega) (hU.keep fun b cs hb hc=>⟨(x5.cells (hw4.cells hc)).trans hc,by omega⟩) (hE'.keep fun b cs hb hc=>⟨hc,by omega⟩)
    obtain⟨l4,rfl,hl4,ho4⟩:=hL6.agg
    have n6:=x6.next
    have x26:=(((x1.trans x2).trans x3).trans x4).trans (x5.trans x6)
    have g6:cB.heap.get Z.next=_:=(x26.get _ (by omega)).trans g0
    have tl4:l4.take 4=l4:=List.take_of_length_le (by omega)
    have hdc:1<=d.count:=by obtain⟨_,_,_,_⟩:=d;rw[D.count];omega
    have w1:wrapI (Int.ofNat d.count-1)=Int.ofNat (d.count-1):=by
     rw[Dj (by simp only[Int.ofNat_eq_natCast];omega)]
     simp only[Int.ofNat_eq_natCast]
     omega
    have w2:wrapI (Int.ofNat (d.count-1)+Int.ofNat x.count)=Int.ofNat (d.count-1+x.count):=by
     rw[Dj (by simp only[Int.ofNat_eq_natCast];omega)]
     simp only[Int.ofNat_eq_natCast]
     omega
    have e7:=AfL (M+4) (d.count-1+x.count) (by omega) bT
    simp -implicitDefEqProofs only[go_sem,Ar,JG,Kn,Nn,Nm,Wc,SR,AlB,ZX,AlC,ZY,c0,c1',c2,c3',h4,ht,hx4,htx,e1,e2,e3,e4,e5,e6,e7,w1,w2,o.1,o.2.1,o.2.2,g6,hl4,ho4,tl4,Bg,AB,Av,Au,AH,Nat.le_refl]
    exact⟨_,_,rfl,(x0.trans x26).put _ _ _ (Nat.le_refl _),hw6.put _ _ _ (by omega),hL6.keep fun b cs hb hc=>⟨by rw[Ak,if_neg (by omega)];exact hc,by omega⟩⟩
   .rw[if_neg hk]
    refine⟨fun h=>(by cases h),fun _=>?_⟩
    obtain⟨bT,e3,x3,hw3⟩:=hB hk
    simp -implicitDefEqProofs only[go_sem,JG,Kn,Nn,Nm,Wc,SR,c0,c1',c2,h4,ht,hx4,htx,e1,e2,e3,Nat.le_refl,A8,Ay,AA,AV]
    exact⟨_,rfl,x02.trans x3,hw3⟩
  .have e2e:twoE d x=aR x:=by unfold twoE;rw[if_pos e0]
   have e2z:twoE d x≠0:=by rw[e2e];exact ex
   rw[if_neg e2z]
   refine⟨fun h=>absurd h e2z,fun _=>?_⟩
   rw[e2e]
   obtain⟨a9,e2,x2,hw2⟩:=Gx m x ex (by omega) xv hx4 _ a_ hw1 (st x01 hLx) (fun b hb=>hb)
   rw[show m+27=M+5 by omega] at e2
   simp -implicitDefEqProofs only[go_sem,JG,Kn,Nn,Nm,c0,c1',h4,ht,hx4,htx,e1,e2,Nat.le_refl,A8,Ay,AA,AV]
   exact⟨_,rfl,x01.trans x2,hw2⟩
 .have e2e:twoE d x=aR d:=by unfold twoE;rw[if_neg e0]
  have e2z:twoE d x≠0:=by rw[e2e];exact e0
  rw[if_neg e2z]
  refine⟨fun h=>absurd h e2z,fun _=>?_⟩
  rw[e2e]
  obtain⟨a_,e1,x1,hw1⟩:=Gx m d e0 (by omega) lv h4 _ bU hw0 (st x0 hL) (fun b hb=>hb)
  rw[show m+27=M+5 by omega] at e1
  simp -implicitDefEqProofs only[go_sem,JG,Kn,c0,h4,ht,e1,Nat.le_refl,A8,Ay,AA,AV]
  exact⟨_,rfl,x0.trans x1,hw1⟩
theorem WR(Z:aC)(hw:Wf Z)(hL:aL (fun b=>b<Z.next) Z (.agg lv.toArray) d)(hLx:aL (fun b=>b<Z.next) Z (.agg xv.toArray) x):
  Gives ((env (M+9)).call 27 [.agg lv.toArray,.agg xv.toArray] none Z) Z fun w V=>AppOk d x t es (fun b=>Z.next<=b) V w:=by
 rw[Al _ 27 _ _ rfl,Aok _ _ _ _ (by simp),Aj]
 unfold Amw AppOk appR
 have x1:Ext Z (((Z.push (.cells lv TD) none).push (.cells xv TD) none).push (.cells [.int .i64 0,.int .i64 0,.string ⟨#[]⟩,.slice none 0 0] TD) none):=(((Ext.refl _).push _ _).push _ _).push _ _
 have hw1:=((hw.push (.cells lv TD) none).push (.cells xv TD) none).push (.cells [.int .i64 0,.int .i64 0,.string ⟨#[]⟩,.slice none 0 0] TD) none
 have c1:(((Z.push (.cells lv TD) none).push (.cells xv TD) none).push (.cells [.int .i64 0,.int .i64 0,.string ⟨#[]⟩,.slice none 0 0] TD) none).cells Z.next=some lv:=by rw[Ah,if_neg (by simp only[Ac];omega),Ah,if_neg (by rw[Ac];omega),Ah,if_pos rfl];rfl
 have c2:(((Z.push (.cells lv TD) none).push (.cells xv TD) none).push (.cells [.int .i64 0,.int .i64 0,.string ⟨#[]⟩,.slice none 0 0] TD) none).cells (Z.next+1)=some xv:=by rw[Ah,if_neg (by simp only[Ac];omega),Ah,if_pos (by rw[Ac])];rfl
 have g3:(((Z.push (.cells lv TD) none).push (.cells xv TD) none).push (.cells [.int .i64 0,.int .i64 0,.string ⟨#[]⟩,.slice none 0 0] TD) none).heap.get (Z.next+2)=some ⟨.cells [.int .i64 0,.int .i64 0,.string ⟨#[]⟩,.slice none 0 0] TD,false,none,Z.clock+2⟩:=by rw[Ai,if_pos (by simp only[Ac])];rfl
 have st:∀ {τ:aC},Ext Z τ->∀ {v:Value} {d:D},aL (fun b=>b<Z.next) Z v d->aL (fun b=>b<τ.next) τ v d:=fun hX v d h=>h.keep fun b cs hb hc=>⟨(hX.cells hb).trans hc,by have:=hX.next;omega⟩
 by_cases he:appE d x t=0
 .simp only[if_pos he]
  obtain⟨_,a9,e2,x2,hw2,u,rfl,hq⟩:=Ae1 (M+5) 87 #[.pointer (some ⟨Z.next,0,none⟩),.pointer (some ⟨Z.next+1,0,none⟩)] (bS x es) _ hw1 fun V hx' hw'=>
   (Tx M m n hm hM d x t es hd hx hS lv xv h4 hx4 Z.next (Z.next+1) V hw' ((hx'.cells (hw1.cells c1)).trans c1) ((hx'.cells (hw1.cells c2)).trans c2) (st (x1.trans hx') hL) (st (x1.trans hx') hLx)).1 he
  obtain⟨l4,rfl,hl4,ho4⟩:=hq.agg
  have g3':=(x2.get _ (hw1 _ _ g3).1).trans g3
  have m3:=(hw2 _ _ g3').1
  have tl4:l4.take 4=l4:=List.take_of_length_le (by omega)
  simp -implicitDefEqProofs only[go_sem,Ar,Vr,RY,Vs,RZ,e2,g3',hl4,ho4,tl4,Bg,AB,Av,Au,AH,AU]
  exact⟨_,_,rfl,(x1.trans x2).put _ _ _ (by omega),hw2.put _ _ _ m3,_,by rw[he];rfl,hq.keep fun b cs hb hc=>by
   simp only[Ac] at hb
   exact⟨by rw[Ak,if_neg (by omega)];exact hc,by omega⟩⟩
 .simp only[if_neg he]
  obtain⟨_,a9,e2,x2,hw2,rfl⟩:=Im (M+3) 87 #[.pointer (some ⟨Z.next,0,none⟩),.pointer (some ⟨Z.next+1,0,none⟩)] (appE d x t:Nat) 0 _ hw1 fun V hx' hw'=>
   (Tx M m n hm hM d x t es hd hx hS lv xv h4 hx4 Z.next (Z.next+1) V hw' ((hx'.cells (hw1.cells c1)).trans c1) ((hx'.cells (hw1.cells c2)).trans c2) (st (x1.trans hx') hL) (st (x1.trans hx') hLx)).2 he
  have g3':=(x2.get _ (hw1 _ _ g3).1).trans g3
  have m3:=(hw2 _ _ g3').1
  simp -implicitDefEqProofs only[go_sem,Ar,Vr,RY,Vs,RZ,e2,g3',Bg,AB,Av,Au,AH,AU]
  exact⟨_,_,rfl,(x1.trans x2).put _ _ _ (by omega),hw2.put _ _ _ m3,_,rfl,EI _ _⟩
end
theorem Qc(m M:Nat)(hm:M=m+22){q:Option Addr}{c:Nat}{es:List D}{bU:aC}{R:Nat->Prop}(hlen:es.length<=12)(hfew:D.counts es<=1900)(hsm:∀e∈es,e.count<=170)(hw0:Wf bU)(hE:aO R bU q 0 es)(hR:∀b,R b->b<bU.next)(ff:Nat->Value):
  ∀(j fuel i:Nat) (f g:Nat->Value) (Z:aC),i+j=es.length->j<fuel->HeadFr q c es bU i ff f g Z->
   (bR (es.drop i)=0/\∃f' g' V,floop [5,6,7,17,19,20,21,22] (OV (env (M+5)) none 83) fuel (Sl 5 23 f g []) none Z=.done (.exit 0) (Sl 5 23 f' g' []) none V/\HeadFr q c es bU es.length ff f' g' V)\/
   (bR (es.drop i)≠0/\∃f' g' V,floop [5,6,7,17,19,20,21,22] (OV (env (M+5)) none 83) fuel (Sl 5 23 f g []) none Z=.done (.panic [failing (bR (es.drop i):Nat) 0]) (Sl 5 23 f' g' []) none V/\Ext bU V/\Wf V):=by
 intro j
 induction j with
 | zero=>
  intro fuel i f g Z hij hf hh
  obtain⟨fuel,rfl⟩:∃q,fuel=q+1:=⟨fuel-1,by omega⟩
  obtain rfl:i=es.length:=by omega
  have d1:decide (Int.ofNat es.length<Int.ofNat es.length)=false:=by simp
  refine .inl ⟨by rw[List.drop_length];rfl,?_⟩
  rw[Ao,Bl]
  unfold OV
  simp -implicitDefEqProofs only[go_sem,Nl,Nk,hh.g6,hh.g7,d1,List.mem_cons]
  refine⟨_,_,_,rfl,{ hh with g5:=?_,g6:=?_,g7:=?_ }⟩
  .simp -implicitDefEqProofs only[go_sem,reduceCtorEq,hh.g5,List.mem_cons,true_or,or_true]
  .simp -implicitDefEqProofs only[go_sem,reduceCtorEq,hh.g6,List.mem_cons,true_or,or_true]
  .simp -implicitDefEqProofs only[go_sem,reduceCtorEq,hh.g7,List.mem_cons,true_or,or_true]
 | succ j ih=>
  intro fuel i f g Z hij hf hh
  obtain⟨fuel,rfl⟩:∃q,fuel=q+1:=⟨fuel-1,by omega⟩
  have hi:i<es.length:=by omega
  have d1:decide (Int.ofNat i<Int.ofNat es.length)=true:=by simp;omega
  have hd:es[i]? = some es[i]:=List.getElem?_eq_getElem hi
  have hmem:=List.getElem_mem hi
  have hone:=hsm _ hmem
  obtain⟨b,off,cs,rfl,hRb,hcs,hle,hL⟩:=aO.get hE hd
  rw[Nat.zero_add] at hle hL
  have kc:∀ {b:Nat} {cs:List Value} (V:aC),Ext bU V->bU.cells b=some cs->V.cells b=some cs:=fun V hx hc=>(hx.cells (hw0.cells hc)).trans hc
  obtain⟨l4,e4,hl4,ho4⟩:=hL.agg
  have e4':(cs.drop (off+i*4)).take 4=l4:=by
   have:=Value.agg.inj e4
   simpa using congrArg Array.toList this
  rw[e4'] at hL
  have hcσ:=kc Z hh.ext hcs
  have tl4:l4.take 4=l4:=List.take_of_length_le (by omega)
  have x1:Ext Z ((Z.push (.cells [.int .i64 0,.int .i64 0,.string ⟨#[]⟩,.slice none 0 0] TD) none).put Z.next (.cells l4 TD) none):=((Ext.refl _).push _ _).put _ _ _ (Nat.le_refl _)
  have hw1:=(hh.wf.push (.cells [.int .i64 0,.int .i64 0,.string ⟨#[]⟩,.slice none 0 0] TD) none).put Z.next (.cells l4 TD) none (Nat.lt_succ_self _)
  have hL1:=hL.keep (R':=R) (fun b cs hb hc=>⟨kc _ (hh.ext.trans x1) hc,hb⟩)
  rw[List.drop_eq_getElem_cons hi,bR]
  by_cases he:aR es[i]=0
  .rw[if_pos he]
   obtain⟨_,a9,e2,x2,hw2,rfl⟩:=Gw m es[i] he (by omega) l4 hl4 R _ hw1 hL1 (fun b hb=>by have:=hR b hb;have:=(hh.ext.trans x1).next;omega)
   rw[show m+27=M+5 by omega] at e2
   have hsum:=TR es i _ hd
   have hin:=NU es (i+1)
   obtain⟨K,hK⟩:∃K,K=i+D.counts (es.take i):=⟨_,rfl⟩
   obtain⟨B,hB⟩:∃B,B=es[i].count:=⟨_,rfl⟩
   have h2:f 2=.int .i64 (.ofNat (K+1)):=by rw[hK];exact hh.f2
   rw[<-hB] at e2
   have w1:wrapI (1+Int.ofNat B)=Int.ofNat (B+1):=by
    rw[Dj (by simp only[Int.ofNat_eq_natCast];omega)]
    simp only[Int.ofNat_eq_natCast]
    omega
   have w2:wrapI (Int.ofNat (K+1)+Int.ofNat (B+1))=Int.ofNat (K+B+2):=by
    rw[Dj (by simp only[Int.ofNat_eq_natCast];omega)]
    simp only[Int.ofNat_eq_natCast]
    omega
   have w3:=Ga i (by omega)
   rw[Ao,Bl]
   unfold OV
   simp -implicitDefEqProofs only[go_sem,Ar,Nl,Nk,V6,SL,V7,SM,Alp,ZL,hh.g5,hh.g6,hh.g7,h2,d1,hi,hcσ,hle,e4',hl4,ho4,tl4,e2,w1,w2,w3,List.mem_cons]
   generalize hff:upd _ 2 _=f1
   generalize hgg:upd _ 7 _=g1
   exact ih fuel (i+1) f1 g1 a9 (by omega) (by omega) {
    g5:=by rw[<-hgg];simp -implicitDefEqProofs only[go_sem,reduceCtorEq,hh.g5,List.mem_cons,true_or,or_true]
    g6:=by rw[<-hgg];simp -implicitDefEqProofs only[go_sem,reduceCtorEq,hh.g6,List.mem_cons,true_or,or_true]
    g7:=by rw[<-hgg];simp -implicitDefEqProofs only[go_sem,reduceCtorEq]
    f0:=by rw[<-hff];simp -implicitDefEqProofs only[go_sem,reduceCtorEq,hh.f0]
    f1:=by rw[<-hff];simp -implicitDefEqProofs only[go_sem,reduceCtorEq,hh.f1]
    f2:=by rw[<-hff,hsum,show i+1+(D.counts (es.take i)+es[i].count)+1=K+(B+2) by omega];simp -implicitDefEqProofs only[go_sem,reduceCtorEq]
    wf:=hw2
    ext:=(hh.ext.trans x1).trans x2 }
  .rw[if_neg he]
   refine .inr ⟨he,?_⟩
   obtain⟨a9,e2,x2,hw2⟩:=Gx m es[i] he (by omega) l4 hl4 R _ hw1 hL1 (fun b hb=>by have:=hR b hb;have:=(hh.ext.trans x1).next;omega)
   rw[show m+27=M+5 by omega] at e2
   rw[Ao,Bl]
   unfold OV
   simp -implicitDefEqProofs only[go_sem,Ar,Nl,Nk,V6,SL,V7,SM,hh.g5,hh.g6,hh.g7,hh.f2,d1,hi,hcσ,hle,e4',hl4,ho4,tl4,e2,List.mem_cons,A8,Ay]
   exact⟨_,_,_,rfl,(hh.ext.trans x1).trans x2,hw2⟩
theorem W5{n M:Nat}(hM:M=n+337){es:List D}(hd:∀e∈es,e.count<=170):∀e∈es,CopyAt (M+3) e:=fun e he=>by
 have h1:=Bz e
 have h2:=hd e he
 have:=Hx n 170 e (by omega) (by omega)
 rwa [show n+2*170=M+3 by omega] at this
def fromR(es:List D):D:=if bR es=0 then bS nilD es else zeroD
def FromOk(es:List D)(S:Nat->Prop)(Z:aC)(w:Value):Prop:=∃u,w=.tuple #[u,.int .i64 (bR es:Nat)]/\aL S Z u (fromR es)
section
variable (M m n:Nat) (hm:M=m+22) (hM:M=n+337) (es:List D) (hlen:es.length<=12) (hfew:D.counts es<=1900) (hsm:∀e∈es,e.count<=170) (q:Option Addr) (c:Nat)
include hm hM hlen hfew hsm
theorem Aft(bl:Nat)(Z:aC)(hw:Wf Z)(hb:Z.cells bl=some [.slice q es.length c])(hE:aO (fun b=>b<Z.next) Z q 0 es):
  (bR es=0->Gives ((env (M+6)).call 83 [.pointer (some ⟨bl,0,none⟩)] none Z) Z fun v V=>aL (fun b=>Z.next<=b) V v (bS nilD es))/\
  (bR es≠0->Fails ((env (M+6)).call 83 [.pointer (some ⟨bl,0,none⟩)] none Z) Z (bR es:Nat) 0):=by
 rw[Al _ 83 _ _ rfl,AoE _ _ _ _ (by simp),Aj]
 unfold AmQ
 have x0:Ext Z (Z.push (.cells [.int .i64 0,.int .i64 0,.string ⟨#[]⟩,.slice none 0 0] TD) none):=(Ext.refl _).push _ _
 have hw0:=hw.push (.cells [.int .i64 0,.int .i64 0,.string ⟨#[]⟩,.slice none 0 0] TD) none
 have g0:(Z.push (.cells [.int .i64 0,.int .i64 0,.string ⟨#[]⟩,.slice none 0 0] TD) none).heap.get Z.next=some ⟨.cells [.int .i64 0,.int .i64 0,.string ⟨#[]⟩,.slice none 0 0] TD,false,none,Z.clock⟩:=by rw[Ai,if_pos rfl]
 have n0:(Z.push (.cells [.int .i64 0,.int .i64 0,.string ⟨#[]⟩,.slice none 0 0] TD) none).next=Z.next+1:=rfl
 have c0:=(x0.cells (hw.cells hb)).trans hb
 have hE0:aO (fun b=>b<Z.next) (Z.push (.cells [.int .i64 0,.int .i64 0,.string ⟨#[]⟩,.slice none 0 0] TD) none) q 0 es:=hE.keep fun b cs hb hc=>⟨(x0.cells (hw.cells hc)).trans hc,hb⟩
 have ne1:(bl=Z.next)=False:=by have:=hw.cells hb;simp;omega
 simp -implicitDefEqProofs only[go_sem,Alm,ZI,Aln,ZJ,Alo,ZK,hb,ne1,Avv]
 generalize aC.push Z _ _=bU at x0 hw0 g0 n0 c0 hE0 ⊢
 generalize hff:upd _ 2 _=f1
 generalize hgg:upd _ 7 _=g1
 generalize hbf:bF=fuel
 have hloop:=Qc m M hm (c:=c) hlen hfew hsm hw0 hE0 (fun b hb=>by omega) f1 es.length fuel 0 f1 g1 bU (by omega) (by rw[<-hbf];show es.length<1000000000000;omega) {
  g5:=by rw[<-hgg];simp -implicitDefEqProofs only[go_sem,reduceCtorEq]
  g6:=by rw[<-hgg];simp -implicitDefEqProofs only[go_sem,reduceCtorEq]
  g7:=by rw[<-hgg];simp -implicitDefEqProofs only[go_sem,reduceCtorEq]<;>rfl
  f0:=rfl
  f1:=rfl
  f2:=by rw[<-hff];simp -implicitDefEqProofs only[go_sem,reduceCtorEq]<;>rfl
  wf:=hw0
  ext:=Ext.refl _ }
 rw[List.drop_zero] at hloop
 rcases hloop with⟨hz,f2,g2,a9,e2,h2⟩|⟨hz,f2,g2,a9,e2,hx2,hw2⟩
 .refine⟨fun _=>?_,fun h=>absurd hz h⟩
  rw[e2]
  have q0:f2 0=.pointer (some ⟨bl,0,none⟩):=by rw[h2.f0,<-hff];simp -implicitDefEqProofs only[go_sem,reduceCtorEq]
  have q1:f2 1=.pointer (some ⟨Z.next,0,none⟩):=by rw[h2.f1,<-hff];simp -implicitDefEqProofs only[go_sem,reduceCtorEq]
  have hf2:=h2.f2
  rw[List.take_length] at hf2
  obtain⟨K,hK⟩:∃K,K=es.length+D.counts es+1:=⟨_,rfl⟩
  rw[<-hK] at hf2
  have e3:=AfL (M+4) K (by omega) a9
  have x2:=h2.ext
  have hw2:=h2.wf
  have n2:=x2.next
  have c2:=(x2.cells (hw0.cells c0)).trans c0
  obtain⟨_,bX,e4,x4,hw4,q',c',rfl,hE'⟩:=GA (M+3) es (W5 hM hsm) (by omega) q c _ a9 hw2 (hE0.keep fun b cs hb hc=>⟨(x2.cells (hw0.cells hc)).trans hc,hb⟩)
  have n4:=x4.next
  obtain⟨_,bV,e5,x5,hw5,hL5⟩:=Qo (M+2) (Z.next+1) nilD es (by omega) [.int .i64 0,.int .i64 0,.string ⟨#[]⟩,.slice none 0 0] rfl q' c' bX hw4 (by omega) (Ja _ _) (hE'.keep fun b cs hb hc=>⟨hc,by omega⟩)
  obtain⟨l4,rfl,hl4,ho4⟩:=hL5.agg
  have n5:=x5.next
  have g5:bV.heap.get Z.next=_:=((x2.trans (x4.trans x5)).get _ (by omega)).trans g0
  have tl4:l4.take 4=l4:=List.take_of_length_le (by omega)
  simp -implicitDefEqProofs only[go_sem,Ar,Alq,ZM,Alr,ZN,q0,q1,hf2,e3,c2,e4,e5,g5,hl4,ho4,tl4,Bg,AB,Av,Au,AH]
  exact⟨_,_,rfl,(x0.trans (x2.trans (x4.trans x5))).put _ _ _ (Nat.le_refl _),hw5.put _ _ _ (by omega),hL5.keep fun b cs hb hc=>⟨by rw[Ak,if_neg (by omega)];exact hc,by omega⟩⟩
 .refine⟨fun h=>absurd h hz,fun _=>?_⟩
  rw[e2]
  simp -implicitDefEqProofs only[go_sem,Dm,Ay,AA,AV]
  exact⟨_,rfl,x0.trans hx2,hw2⟩
theorem Afu(Z:aC)(hw:Wf Z)(hE:aO (fun b=>b<Z.next) Z q 0 es):
  Gives ((env (M+9)).call 24 [.slice q es.length c] none Z) Z fun w V=>FromOk es (fun b=>Z.next<=b) V w:=by
 rw[Al _ 24 _ _ rfl,Aoh _ _ _ _ (by simp),Aj]
 unfold Amt FromOk fromR
 have x1:Ext Z ((Z.push (.cells [.slice q es.length c] 22) none).push (.cells [.int .i64 0,.int .i64 0,.string ⟨#[]⟩,.slice none 0 0] TD) none):=((Ext.refl _).push _ _).push _ _
 have hw1:=(hw.push (.cells [.slice q es.length c] 22) none).push (.cells [.int .i64 0,.int .i64 0,.string ⟨#[]⟩,.slice none 0 0] TD) none
 have c1:((Z.push (.cells [.slice q es.length c] 22) none).push (.cells [.int .i64 0,.int .i64 0,.string ⟨#[]⟩,.slice none 0 0] TD) none).cells Z.next=some [.slice q es.length c]:=by rw[Ah,if_neg (by rw[Ac];omega),Ah,if_pos rfl];rfl
 have g2:((Z.push (.cells [.slice q es.length c] 22) none).push (.cells [.int .i64 0,.int .i64 0,.string ⟨#[]⟩,.slice none 0 0] TD) none).heap.get (Z.next+1)=some ⟨.cells [.int .i64 0,.int .i64 0,.string ⟨#[]⟩,.slice none 0 0] TD,false,none,Z.clock+1⟩:=by rw[Ai,if_pos (by rw[Ac])];rfl
 have st:∀ {τ:aC},Ext Z τ->aO (fun b=>b<τ.next) τ q 0 es:=fun hX=>hE.keep fun b cs hb hc=>⟨(hX.cells hb).trans hc,by have:=hX.next;omega⟩
 by_cases he:bR es=0
 .simp only[if_pos he]
  obtain⟨_,a9,e2,x2,hw2,u,rfl,hq⟩:=Ae1 (M+5) 83 #[.pointer (some ⟨Z.next,0,none⟩)] (bS nilD es) _ hw1 fun V hx' hw'=>
   (Aft M m n hm hM es hlen hfew hsm q c Z.next V hw' ((hx'.cells (hw1.cells c1)).trans c1) (st (x1.trans hx'))).1 he
  obtain⟨l4,rfl,hl4,ho4⟩:=hq.agg
  have g2':=(x2.get _ (hw1 _ _ g2).1).trans g2
  have m2:=(hw2 _ _ g2').1
  have tl4:l4.take 4=l4:=List.take_of_length_le (by omega)
  simp -implicitDefEqProofs only[go_sem,Ar,Vj,RP,Vk,RQ,e2,g2',hl4,ho4,tl4,Bg,AB,Av,Au,AH,AU]
  exact⟨_,_,rfl,(x1.trans x2).put _ _ _ (by omega),hw2.put _ _ _ m2,_,by rw[he];rfl,hq.keep fun b cs hb hc=>by
   simp only[Ac] at hb
   exact⟨by rw[Ak,if_neg (by omega)];exact hc,by omega⟩⟩
 .simp only[if_neg he]
  obtain⟨_,a9,e2,x2,hw2,rfl⟩:=Im (M+3) 83 #[.pointer (some ⟨Z.next,0,none⟩)] (bR es:Nat) 0 _ hw1 fun V hx' hw'=>
   (Aft M m n hm hM es hlen hfew hsm q c Z.next V hw' ((hx'.cells (hw1.cells c1)).trans c1) (st (x1.trans hx'))).2 he
  have g2':=(x2.get _ (hw1 _ _ g2).1).trans g2
  have m2:=(hw2 _ _ g2').1
  simp -implicitDefEqProofs only[go_sem,Ar,Vj,RP,Vk,RQ,e2,g2',Bg,AB,Av,Au,AH,AU]
  exact⟨_,_,rfl,(x1.trans x2).put _ _ _ (by omega),hw2.put _ _ _ m2,_,rfl,EI _ _⟩
end
end
end Go.Proofs.YtknnbjmcfibpgaaGreatDoor
end
