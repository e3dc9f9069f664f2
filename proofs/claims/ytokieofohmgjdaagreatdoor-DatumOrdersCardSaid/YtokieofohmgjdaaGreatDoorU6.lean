import Derived.Test.YtokieofohmgjdaaGreatDoorU5
import Derived.Test.YtokieofohmgjdaaGreatDoorU3
set_option linter.unusedSimpArgs false
set_option linter.unusedVariables false
noncomputable section
namespace Go.Proofs.YtokieofohmgjdaaGreatDoor
open Go Go.Eng
attribute [local congr] Ac Aj Ai Ad Ah
attribute [-go_sem] List.range_succ
def scopeK(find:Nat→Option (Bx RunF))(again:RunF→RunF)(r:KRes):KRes:=match r with
 | .done (.goto l) a u σ=>(match find l with|some rest=>again rest.un a u σ|none=>.done (.goto l) a u σ)
 | r=>r
theorem Fw(find:Nat→Option (Bx RunF))(n:Nat)(run:RunF)(a:FAct)(u:Option FrameMode)(σ:FState):fscope find (n+1) run a u σ=scopeK find (fscope find n) (run a u σ):=by
 show (match run a u σ with|.done (.goto l) a u σ=>(match find l with|some rest=>fscope find n rest.un a u σ|none=>.done (.goto l) a u σ)|r=>r)=_
 unfold scopeK
 rfl
theorem M0(find:Nat→Option (Bx RunF))(again:RunF→RunF)(a:FAct)(u:Option FrameMode)(σ:FState):scopeK find again (.done .ret a u σ)=.done .ret a u σ:=rfl
structure HeadEl (R:Nat→Prop) (σ0:FState) (bd bt:Nat) (rest:D) (done:List D) (f:Nat→Value) (σ:FState):Prop where
 f1:f 1=.pointer (some ⟨bd,0,none⟩)
 f3:f 3=.pointer (some ⟨bt,0,none⟩)
 vec:VecG (fun b=>σ0.next≤b∧b≠bd∧b≠bt) R σ (f 2) done
 hd:∃ver lv,σ.heap.get bd=some ⟨.cells lv TD,false,none,ver⟩∧lv.length=4∧LaidR R σ (.agg lv.toArray) rest
 ht:∃ver,σ.heap.get bt=some ⟨.cells [.int .i64 0,.int .i64 0,.string ⟨#[]⟩,.slice none 0 0] TD,false,none,ver⟩
 ne:bd≠bt
 lo:σ0.next≤bd∧σ0.next≤bt
 wf:Wf σ
 ext:Ext σ0 σ
end Go.Proofs.YtokieofohmgjdaaGreatDoor
namespace Go.Proofs.YtokieofohmgjdaaGreatDoor
open Go Go.Eng
attribute [local congr] Ac Aj Ai Ad Ah
attribute [-go_sem] List.range_succ
def Ze(E:Env):RunF:=seqR (seqR (fops E none YV) (condR (fun a=>a.get 40) (fops E none YW) skipR)) (seqR (fops E none YX) retR)
theorem S0(find:Nat→Option (Bx RunF))(again:RunF→RunF)(ch:List PanicEntry)(a:FAct)(u:Option FrameMode)(σ:FState):scopeK find again (.done (.panic ch) a u σ)=.done (.panic ch) a u σ:=rfl
theorem Er(M:Nat)(d e:D)(lv mv:List Value)(h4:lv.length=4)(hm4:mv.length=4)(σ:FState)(hw:Wf σ)(hL:LaidR (fun b=>b<σ.next) σ (.agg lv.toArray) d)(hLe:LaidR (fun b=>b<σ.next) σ (.agg mv.toArray) e)(hS:Small (e.pieces []))(hN:(e.pieces []).length<900):
  ∃find again f g r1 σ6 b1 b2 bv mb fb s,(env (M+5)).call 92 [.agg lv.toArray,.agg mv.toArray] none σ=
    leaveR Tryz.prog (env (M+4)) [.tmp 4] (scopeK find again (andThen (blockK 2 (frange (env (M+4)) none 92 (.tmp 23) [24,25] CB CC (Sl 12 43 f g [{ target:=.collected r1,args:=#[] }]) none σ6)) (Ze (env (M+4)))))∧
   f 5=.pointer (some ⟨σ.next+2,0,none⟩)∧f 8=.pointer (some ⟨mb,0,none⟩)∧f 9=.pointer (some ⟨fb,0,none⟩)∧g 23=.func (.func 149) #[] #[.pointer (some ⟨b1,0,none⟩),.pointer (some ⟨b2,0,none⟩)]∧
   Ext σ σ6∧Wf σ6∧σ6.cells b2=some [.func (.func 153) #[] #[]]∧σ6.cells b1=some lv∧(∃ver,σ6.heap.get r1=some ⟨.defd true,false,none,ver⟩)∧σ.next+2<r1∧r1<bv∧bv<mb∧mb<fb∧fb<σ6.next∧fb<b1∧fb<b2∧
   (∃ver,σ6.heap.get mb=some ⟨.cells [.int .i64 (.ofNat 0)] TI,false,none,ver⟩)∧(∃ver,σ6.heap.get fb=some ⟨.cells [.slice none 0 0] 25,false,none,ver⟩)∧σ6.cells (σ.next+2)=some [s]∧VecG (· = bv) (fun b=>b<σ.next) σ6 s ((e.pieces []).map (·.2)):=by
 rw[Ag _ 92 _ _ rfl,Ao5 _ _ _ _ (by simp),Af]
 unfold Ann
 generalize hbf:bigFuel=fuel
 obtain⟨fuel,rfl⟩:∃q,fuel=q+1:=⟨fuel-1,by rw[←hbf];show 1000000000000=1000000000000-1+1;omega⟩
 have ht:lv.take 4=lv:=List.take_of_length_le (by omega)
 have htm:mv.take 4=mv:=List.take_of_length_le (by omega)
 have x1:Ext σ (((σ.push (.cells lv TD) none).push (.cells mv TD) none).push (.cells [.slice none 0 0] TL) none):=(((Ext.refl _).push _ _).push _ _).push _ _
 have hw1:=((hw.push (.cells lv TD) none).push (.cells mv TD) none).push (.cells [.slice none 0 0] TL) none
 have g1:(((σ.push (.cells lv TD) none).push (.cells mv TD) none).push (.cells [.slice none 0 0] TL) none).heap.get (σ.next+2)=some ⟨.cells [.slice none 0 0] TL,false,none,σ.clock+2⟩:=by rw[Ak,if_pos (by simp only[Aa])];rfl
 have c1:(((σ.push (.cells lv TD) none).push (.cells mv TD) none).push (.cells [.slice none 0 0] TL) none).cells σ.next=some lv:=by rw[Ab,if_neg (by simp only[Aa];omega),Ab,if_neg (by rw[Aa];omega),Ab,if_pos rfl];rfl
 have cx1:(((σ.push (.cells lv TD) none).push (.cells mv TD) none).push (.cells [.slice none 0 0] TL) none).cells (σ.next+1)=some mv:=by rw[Ab,if_neg (by simp only[Aa];omega),Ab,if_pos (by rw[Aa])];rfl
 have n1:(((σ.push (.cells lv TD) none).push (.cells mv TD) none).push (.cells [.slice none 0 0] TL) none).next=σ.next+3:=rfl
 simp -implicitDefEqProofs only[go_sem,Fw,AmE,YS,AmG,YY]
 generalize hff:upd _ 5 _=f1
 have q2:f1 2=.pointer (some ⟨σ.next,0,none⟩):=by rw[←hff];simp -implicitDefEqProofs only[go_sem,reduceCtorEq]
 have q3:f1 3=.pointer (some ⟨σ.next+1,0,none⟩):=by rw[←hff];simp -implicitDefEqProofs only[go_sem,reduceCtorEq]
 have q5:f1 5=.pointer (some ⟨σ.next+2,0,none⟩):=by rw[←hff];simp -implicitDefEqProofs only[go_sem,reduceCtorEq]
 clear hff
 generalize FState.push _ _ _=σ1 at x1 hw1 g1 c1 cx1 n1 ⊢
 obtain⟨σ2,b1,b2,e2,x2,hw2,hb1,hb2,cb2,cb1⟩:=VZ (M+2) mv hm4 σ1 hw1
 simp -implicitDefEqProofs only[go_sem,AmH,YZ,q3,cx1,hm4,htm,e2,Nat.le_refl]
 generalize hgg:upd _ 13 _=gg
 have n2:=x2.next
 have hL2:LaidR (fun b=>b<σ.next) σ2 (.agg mv.toArray) e:=hLe.keep fun b cs hb hc=>⟨((x1.trans x2).cells (hw.cells hc)).trans hc,hb⟩
 have hcm2:σ2.heap.get (σ.next+2)=some ⟨.cells [.slice none 0 0] TL,false,none,σ.clock+2⟩:=(x2.get _ (by omega)).trans g1
 have y2:Ext σ2 ((σ2.push (.defd true) none).push (.loop .ready none 92 ((List.range 12).map f1) gg 12 43 [14,15] Cz CA σ2.next) none):=((Ext.refl _).push _ _).push _ _
 obtain⟨σ3,B3,e3,ch3,n3,hB3,hw3,i3⟩:=Hb (M+3) 92 [14,15] Cz CA 12 43 f1 gg [] none 13 b1 b2 σ2 (.func (.func 153) #[] #[]) (fun b=>b<σ.next) e mv (GatherI (σ2.next+1) σ2.next (σ.next+2) (fun b=>b<σ.next) f1 gg) (fun b=>b=σ2.next+1∨b=σ2.next∨b=σ.next+2)
  (Ul M (σ2.next+1) σ2.next (σ.next+2) (fun b=>b<σ.next) f1 gg _ ⟨by omega,by omega⟩ q5 (fun b hb=>by omega) hN) hS (by omega)
  (fun done B σ' ⟨_,_,h5,h6,_⟩=>⟨h5,h6⟩)
  ⟨fun b hb=>hb,fun b hb=>⟨by simp only[Aa];omega,by omega⟩,Eu ..,⟨_,by rw[Ak,if_neg (by rw[Aa];omega),Ak,if_pos rfl]⟩,_,_,(y2.get _ (by omega)).trans hcm2,.inl ⟨rfl,rfl⟩⟩
  (by rw[Ir,←hgg];simp -implicitDefEqProofs only[go_sem,reduceCtorEq]) hw2 cb1 (fun h=>by have:=hw2.cells cb1;omega) hL2 (fun b hb=>by omega) cb2 (fun h=>by have:=hw2.cells cb2;omega)
 rw[e3]
 obtain⟨h1,h2,h6,⟨v6,h7⟩,s,v8,h8,h9⟩:=i3
 have hn2:=ch3.next
 have hcm:=Au h8
 have ha3:σ3.cells σ.next=some lv:=(ch3.cells (by omega) (by omega)).trans ((x2.cells (by omega)).trans c1)
 rcases h9 with⟨h,_⟩|⟨bv,cs,ver,rfl,hbv,hq,hRow⟩
 ·exact absurd (congrArg List.length h) (by rw[D.pieces_eq];simp)
 have hbvn:=(hw3 _ _ hbv).1
 have hw4:=((hw3.put (σ2.next+1) (.loop .exhausted none 92 ((List.range 12).map f1) gg 12 43 [14,15] Cz CA σ2.next) none (by omega)).push (.cells [.int .i64 0] TI) none).put σ3.next (.cells [.int .i64 0] TI) none (by rw[Aa,Ao];omega)
 simp -implicitDefEqProofs only[go_sem,ET,AmL,Y2,AmM,Y3,Ae]
 have x3:Ext σ σ3:=(((x1.trans x2).chg (fun b=>σ.next≤b)).trans ch3 fun b hb h=>by omega).ext fun b hb h=>by omega
 have hw5:=hw4.push (.cells [.slice none 0 0] 25) none
 have x5:Ext σ ((((σ3.put (σ2.next+1) (.loop .exhausted none 92 ((List.range 12).map f1) gg 12 43 [14,15] Cz CA σ2.next) none).push (.cells [.int .i64 0] TI) none).put σ3.next (.cells [.int .i64 0] TI) none).push (.cells [.slice none 0 0] 25) none):=(((x3.put _ _ _ (by omega)).push _ _).put _ _ _ (by have:=x3.next;omega)).push _ _
 have g5:∀b,b<σ3.next→b≠σ2.next+1→((((σ3.put (σ2.next+1) (.loop .exhausted none 92 ((List.range 12).map f1) gg 12 43 [14,15] Cz CA σ2.next) none).push (.cells [.int .i64 0] TI) none).put σ3.next (.cells [.int .i64 0] TI) none).push (.cells [.slice none 0 0] 25) none).heap.get b=σ3.heap.get b:=fun b hb hne=>by
  rw[Ak,if_neg (by simp only[Ao,Aa];omega),An,if_neg (by omega),Ak,if_neg (by rw[Ao];omega),An,if_neg hne]
 have gm5:∃ver,((((σ3.put (σ2.next+1) (.loop .exhausted none 92 ((List.range 12).map f1) gg 12 43 [14,15] Cz CA σ2.next) none).push (.cells [.int .i64 0] TI) none).put σ3.next (.cells [.int .i64 0] TI) none).push (.cells [.slice none 0 0] 25) none).heap.get σ3.next=some ⟨.cells [.int .i64 (.ofNat 0)] TI,false,none,ver⟩:=⟨_,by rw[Ak,if_neg (by simp only[Ao,Aa];omega),An,if_pos rfl];rfl⟩
 have gf5:∃ver,((((σ3.put (σ2.next+1) (.loop .exhausted none 92 ((List.range 12).map f1) gg 12 43 [14,15] Cz CA σ2.next) none).push (.cells [.int .i64 0] TI) none).put σ3.next (.cells [.int .i64 0] TI) none).push (.cells [.slice none 0 0] 25) none).heap.get (σ3.next+1)=some ⟨.cells [.slice none 0 0] 25,false,none,ver⟩:=⟨_,by rw[Ak,if_pos (by simp only[Ao,Aa])]⟩
 have n5:((((σ3.put (σ2.next+1) (.loop .exhausted none 92 ((List.range 12).map f1) gg 12 43 [14,15] Cz CA σ2.next) none).push (.cells [.int .i64 0] TI) none).put σ3.next (.cells [.int .i64 0] TI) none).push (.cells [.slice none 0 0] 25) none).next=σ3.next+2:=rfl
 generalize FState.push (FState.put _ _ _ _) _ _=σ5 at hw5 x5 g5 gm5 gf5 n5 ⊢
 generalize hff:upd _ 9 _=f2
 have r2:f2 2=.pointer (some ⟨σ.next,0,none⟩):=by rw[←hff];simp -implicitDefEqProofs only[go_sem,reduceCtorEq,q2]
 have r5:f2 5=.pointer (some ⟨σ.next+2,0,none⟩):=by rw[←hff];simp -implicitDefEqProofs only[go_sem,reduceCtorEq,q5]
 have r8:f2 8=.pointer (some ⟨σ3.next,0,none⟩):=by rw[←hff];simp -implicitDefEqProofs only[go_sem,reduceCtorEq]
 have r9:f2 9=.pointer (some ⟨σ3.next+1,0,none⟩):=by rw[←hff];simp -implicitDefEqProofs only[go_sem,reduceCtorEq]
 clear hff
 have k5:∀b cs,b<σ3.next→b≠σ2.next+1→σ3.cells b=some cs→σ5.cells b=some cs:=fun b cs hb hne hc=>by
  rw[Ap,g5 b hb hne,←Ap];exact hc
 have ca5:σ5.cells σ.next=some lv:=k5 _ _ (by omega) (by omega) ha3
 obtain⟨σ6,d1,d2,e6,x6,hw6,hd1,hd2,cd2,cd1⟩:=VZ (M+2) lv h4 σ5 hw5
 have n6:=x6.next
 have k6:∀b cs,b<σ3.next→b≠σ2.next+1→σ3.cells b=some cs→σ6.cells b=some cs:=fun b cs hb hne hc=>(x6.cells (by omega)).trans (k5 b cs hb hne hc)
 obtain⟨vm,gm5⟩:=gm5
 obtain⟨vf,gf5⟩:=gf5
 simp -implicitDefEqProofs only[go_sem,AmN,Y4,r2,ca5,h4,ht,e6,Nat.le_refl]
 refine⟨_,_,f2,_,σ2.next,σ6,d1,d2,bv,σ3.next,σ3.next+1,_,rfl,r5,r8,r9,by simp -implicitDefEqProofs only[go_sem,reduceCtorEq],x5.trans x6,hw6,cd2,cd1,⟨v6,((x6.get _ (by omega)).trans (g5 _ (by omega) (by omega))).trans h7⟩,by omega,by omega,hbvn,by omega,by omega,by omega,by omega,⟨vm,(x6.get _ (by omega)).trans gm5⟩,⟨vf,(x6.get _ (by omega)).trans gf5⟩,k6 _ _ (by omega) (by omega) hcm,.inr ⟨bv,cs,ver,rfl,((x6.get _ (by omega)).trans (g5 _ (by omega) (by omega))).trans hbv,rfl,hRow.keep fun b c hb hc=>⟨k6 b c (by omega) (by omega) hc,hb⟩⟩⟩
end Go.Proofs.YtokieofohmgjdaaGreatDoor
namespace Go.Eng
open Go
section
variable (P:Program) (E:Env) (ro:Option Nat) (rs:List ResultVar) (dst:Option Tmp) (k:RunF) (a:FAct) (u:Option FrameMode) (σ s:FState) (ch:List PanicEntry)
theorem PC(t:TypeId)(v:Value):fpanic (.iface t v) σ=.panic (.iface t v) σ:=rfl
theorem S9(v:Value):afterOp E ro dst a u k (.panic v s)=.done (.panic [{ v,recovered:=false }]) a u s:=rfl
theorem AW(u':Option FrameMode):afterCall a dst u k (.pan ch u' s)=.done (.panic ch) a u s:=rfl
theorem Av:leaveR P E rs (.done (.panic ch) a u σ)=fleave P E rs a u a.defers (.panicking ch) σ:=rfl
theorem K1(f:FuncId)(cap args:Array Value)(ds:List Deferred):fleave P E rs a u ({ target:=.fn (.func f) cap,args:=args }::ds) (.panicking ch) σ=
  (match E.call f (args.toList++cap.toList) (some (.panicking ch)) σ with
   | .ret _ (some md') σ=>fleave P E rs a u ds (unrecovered md') σ
   | .pan ch (some md') σ=>fleave P E rs a u ds (raised md' ch) σ
   | _=>.no):=rfl
theorem Fp(v:Value):afterOp E none dst a (some (.panicking [{ v,recovered:=false }])) k (.recover σ)=k (a.put dst v) (some (.panicking [{ v,recovered:=true }])) σ:=rfl
theorem EL(v:Value):unrecovered (.panicking [{ v,recovered:=true }])=.returning:=rfl
end
end Go.Eng
namespace Go.Proofs.YtokieofohmgjdaaGreatDoor
open Go Go.Eng
attribute [local congr] Ac Aj Ai Ad Ah
attribute [-go_sem] List.range_succ
abbrev failing(c z:Int):PanicEntry:={ v:=.iface 178 (.agg #[.int .i64 c,.int .i64 z]),recovered:=false }
abbrev failed(c z:Int):PanicEntry:={ v:=.iface 178 (.agg #[.int .i64 c,.int .i64 z]),recovered:=true }
theorem Au7(n:Nat)(c z:Int)(σ:FState):(env (n+1)).call 162 [.int .i64 c,.int .i64 z] none σ=.pan [failing c z] none σ:=by
 rw[Ag _ 162 _ _ rfl,AfC _ _ _ _ (by simp),Af]
 unfold ZA
 simp -implicitDefEqProofs only[go_sem,AdI,Q9,PC,S9,Av,AK]
theorem Fl(n:Nat)(c:Int)(σ:FState):(env (n+2)).call 136 [.int .i64 c] none σ=.pan [failing c 0] none σ:=by
 rw[Ag _ 136 _ _ rfl,Aft _ _ _ _ (by simp),Af]
 unfold Zr
 simp -implicitDefEqProofs only[go_sem,Ac8,Qz,Au7,AW,Av,AK]
end Go.Proofs.YtokieofohmgjdaaGreatDoor
namespace Go.Proofs.YtokieofohmgjdaaGreatDoor
open Go Go.Eng
attribute [local congr] Ac Aj Ai Ad Ah
attribute [-go_sem] List.range_succ
theorem V8:aggSize Tryz.prog 178=some (some 2):=by kernel_rfl
theorem D7(n:Nat)(c z:Int)(σ:FState)(hw:Wf σ):
  Gives ((env (n+2)).call 148 [.iface 178 (.agg #[.int .i64 c,.int .i64 z])] none σ) σ fun v _=>v=.agg #[.int .i64 c,.int .i64 z]:=by
 rw[Ag _ 148 _ _ rfl,Afw _ _ _ _ (by simp),Af]
 unfold Zu
 have hw1:=(hw.push (.cells [.int .i64 0,.int .i64 0] 178) none).push (.cells [.int .i64 0,.int .i64 0] 178) none
 have hX1:Ext σ ((σ.push (.cells [.int .i64 0,.int .i64 0] 178) none).push (.cells [.int .i64 0,.int .i64 0] 178) none):=((Ext.refl _).push _ _).push _ _
 have e1:=Au6 n (.int .i64 c) (.int .i64 z) (.pointer (some ⟨σ.next+1,0,none⟩)) ((σ.push (.cells [.int .i64 0,.int .i64 0] 178) none).push (.cells [.int .i64 0,.int .i64 0] 178) none)
  (((σ.push (.cells [.int .i64 0,.int .i64 0] 178) none).push (.cells [.int .i64 0,.int .i64 0] 178) none).put (σ.next+1) (.cells [.int .i64 c,.int .i64 z] 178) none) (by
   simp -implicitDefEqProofs only[go_sem,Aw])
 simp -implicitDefEqProofs only[go_sem,Aw,Adi,QJ,Adj,QK,Adk,QL,Adl,QM,e1,V8,Ae,AX,AJ,AI,BU]
 refine⟨_,_,rfl,(hX1.put _ _ _ (Nat.le_add_right _ _)).put _ _ _ (Nat.le_refl _),?_,rfl⟩
 exact(hw1.put _ _ _ (by simp only[Aa];omega)).put _ _ _ (by simp only[Ao,Aa];omega)
theorem AfR(v:Value)(x:Nat)(σ:FState):i_eql Tryz.prog 20 (.tmp x) (.const .nilIface) (.iface 178 v) .nilIface σ=.val (.bool false) σ:=by kernel_rfl
theorem NW(v:Value)(σ:FState):fassert Tryz.prog (.iface 178 v) 176 true σ=.val (.tuple #[.iface 178 v,.bool true]) σ:=by kernel_rfl
theorem Ng(n b1 b2:Nat)(c z x1 x2:Int)(v1 v2:Nat)(σ:FState)(hw:Wf σ)(hne:b1≠b2)(g1:σ.heap.get b1=some ⟨.cells [.int .i64 x1] 3,false,none,v1⟩)(g2:σ.heap.get b2=some ⟨.cells [.int .i64 x2] 32,false,none,v2⟩):
  ∃σ1,Ext σ σ1∧Wf σ1∧(env (n+3)).call 161 [.pointer (some ⟨b1,0,none⟩),.pointer (some ⟨b2,0,none⟩)] (some (.panicking [failing c z])) σ=
   .ret (.tuple #[]) (some (.panicking [failed c z])) ((σ1.put b1 (.cells [.int .i64 z] 3) none).put b2 (.cells [.int .i64 c] 32) none):=by
 rw[FW,TH _ _ _ _ (by simp),Af]
 unfold SU
 obtain⟨_,σ2,e2,hX2,hw2,rfl⟩:=D7 n c z σ hw
 have m1:=(hw _ _ g1).1
 have m2:=(hw _ _ g2).1
 have k1:σ2.heap.get b1=_:=(hX2.get b1 m1).trans g1
 have k2:σ2.heap.get b2=_:=(hX2.get b2 m2).trans g2
 have l1:σ2.next≠b1:=by have:=hX2.next;omega
 have l2:σ2.next≠b2:=by have:=hX2.next;omega
 have w4:Wf ((σ2.push (.cells [.int .i64 0,.int .i64 0] 178) none).put σ2.next (.cells [.int .i64 c,.int .i64 z] 178) none):=(hw2.push (.cells [.int .i64 0,.int .i64 0] 178) none).put _ _ _ (by simp only[Aa];omega)
 have hv4:=BQ (lam:=σ2.clock+2) w4 (Nat.le_refl _)
 simp -implicitDefEqProofs only[go_sem,VX,hv4,Aw,OK,Kr,OL,Ks,AdE,Q5,AdF,Q6,AdG,Q7,AdH,Q8,Fp,AfR,NW,e2,k1,k2,l1,l2,l1.symm,l2.symm,hne,hne.symm,AX,AJ]
 refine⟨_,(hX2.push _ _).put _ _ _ hX2.next,w4,rfl⟩
def Fails(r:CRes)(σ:FState)(c z:Int):Prop:=∃σ',r=.pan [failing c z] none σ'∧Ext σ σ'∧Wf σ'
theorem Ti(n w:Nat)(cap:Array Value)(c z:Int)(σ:FState)(hw:Wf σ)(h:∀σ',Ext σ σ'→Wf σ'→Fails ((env (n+3)).call w cap.toList none σ') σ' c z):
  Gives ((env (n+4)).call 133 [.func (.func w) #[] cap] none σ) σ fun v _=>v=.tuple #[.slice none 0 0,.int .i64 z,.int .i64 c]:=by
 rw[Ag _ 133 _ _ rfl,TF _ _ _ _ (by simp),Af]
 unfold SS
 have hX1:Ext σ ((σ.push (.cells [.int .i64 0] 3) none).push (.cells [.int .i64 0] 32) none):=((Ext.refl _).push _ _).push _ _
 have hw1:=(hw.push (.cells [.int .i64 0] 3) none).push (.cells [.int .i64 0] 32) none
 obtain⟨σ2,e2,hX2,hw2⟩:=h _ hX1 hw1
 have g1:σ2.heap.get σ.next=_:=(hX2.get σ.next (by simp only[Aa];omega)).trans (by simp -implicitDefEqProofs only[Ak,Aa,Nat.add_assoc,Nat.reduceAdd,Nat.left_eq_add,reduceCtorEq,↓reduceIte,Nat.reduceEqDiff]<;>rfl)
 have g2:σ2.heap.get (σ.next+1)=_:=(hX2.get (σ.next+1) (by simp only[Aa];omega)).trans (by simp -implicitDefEqProofs only[Ak,Aa,Nat.add_assoc,Nat.reduceAdd,Nat.add_left_cancel_iff,reduceCtorEq,↓reduceIte,Nat.reduceEqDiff]<;>rfl)
 obtain⟨σ3,hX3,hw3,e3⟩:=Ng n σ.next (σ.next+1) c z 0 0 _ _ σ2 hw2 (by omega) g1 g2
 have m1:=(hw2 _ _ g1).1
 have m2:=(hw2 _ _ g2).1
 simp -implicitDefEqProofs only[go_sem,Aw,Ox,Ke,Oy,Kf,Oz,Kg,e2,AW,Aq,Av,K1,e3,EL,Pa,Fq,AX,AJ,AI,BU,Bt]
 have hn3:=hX3.next
 refine⟨_,_,rfl,?_,?_,rfl⟩
 ·exact(((hX1.trans hX2).trans hX3).put σ.next _ _ (Nat.le_refl _)).put (σ.next+1) _ _ (Nat.le_add_right _ _)
 ·exact(hw3.put σ.next _ _ (by omega)).put (σ.next+1) _ _ (by simp only[Ao];omega)
theorem Ix(n w:Nat)(cap:Array Value)(c z:Int)(σ:FState)(hw:Wf σ)(h:∀σ',Ext σ σ'→Wf σ'→Fails ((env (n+3)).call w cap.toList none σ') σ' c z):
  Gives ((env (n+5)).call 90 [.func (.func w) #[] cap] none σ) σ fun v _=>v=.tuple #[.slice none 0 0,.int .i64 c]:=by
 rw[Ag _ 90 _ _ rfl,Aae _ _ _ _ (by simp),Af]
 unfold Abj
 obtain⟨_,σ2,e2,hX2,hw2,rfl⟩:=Ti n w cap c z σ hw h
 simp -implicitDefEqProofs only[go_sem,Vy,Sz,Vz,SA,VA,SB,e2,AX,AJ,AI,Bt]
 exact⟨_,_,rfl,hX2,hw2,rfl⟩
end Go.Proofs.YtokieofohmgjdaaGreatDoor
namespace Go.Proofs.YtokieofohmgjdaaGreatDoor
open Go Go.Eng
attribute [local congr] Ac Aj Ai Ad Ah
attribute [-go_sem] List.range_succ
theorem C8(P:Program)(E:Env)(rs:List ResultVar)(a:FAct)(u:Option FrameMode)(σ:FState)(ch:List PanicEntry)(r:Nat)(args:Array Value)(ds:List Deferred)(ver:Nat)(h:σ.heap.get r=some ⟨.defd true,false,none,ver⟩):
  fleave P E rs a u ({ target:=.collected r,args:=args }::ds) (.panicking ch) σ=fleave P E rs a u ds (.panicking ch) (σ.put r (.defd false) none):=by
 show (cond (isRun (.panicking ch)) CRes.no (match σ.heap.get r with|some e=>(match e.obj with|.defd true=>cond e.ro CRes.no (fleave P E rs a u ds (.panicking ch) (σ.put r (.defd false) none))|_=>.no)|none=>.no))=_
 rw[h]
 rfl
theorem JN(M:Nat)(d e:D)(lv mv:List Value)(h4:lv.length=4)(hm4:mv.length=4)(σ:FState)(hw:Wf σ)(hL:LaidR (fun b=>b<σ.next) σ (.agg lv.toArray) d)(hLe:LaidR (fun b=>b<σ.next) σ (.agg mv.toArray) e)(hS:Small (e.pieces []))(hN:(e.pieces []).length<900)(hS':Small (d.pieces []))(hlen:(d.pieces []).length=(e.pieces []).length)(hlike:∀(i:Nat) (x:List Nat×D),(d.pieces [])[i]? = some x→∃y,((e.pieces []).map (·.2))[i]? = some y∧likeD x.2 y=true):
  Fails ((env (M+5)).call 92 [.agg lv.toArray,.agg mv.toArray] none σ) σ 10 0:=by
 obtain⟨find,again,f,g,r1,σ6,b1,b2,bv,mb,fb,s,ecall,h5,h8,h9,h23,x6,hw6,cb2,cb1,⟨vr,hr1⟩,o1,o2,o3,o4,o5,o6,o7,⟨vm,gm⟩,⟨vf,gf⟩,hcm,hV⟩:=Er M d e lv mv h4 hm4 σ hw hL hLe hS hN
 rw[ecall]
 have hL6:LaidR (fun b=>b<σ.next) σ6 (.agg lv.toArray) d:=hL.keep fun b cs hb hc=>⟨(x6.cells (hw.cells hc)).trans hc,hb⟩
 have n6:=x6.next
 have hes:((e.pieces []).map (·.2)).length<1000:=by rw[List.length_map];omega
 have y6:Ext σ6 ((σ6.push (.defd true) none).push (.loop .ready none 92 ((List.range 12).map f) g 12 43 [24,25] CB CC σ6.next) none):=((Ext.refl _).push _ _).push _ _
 have hB:=Ts M (σ6.next+1) σ6.next mb fb (σ.next+2) bv (fun b=>b<σ.next) ((e.pieces []).map (·.2)) f g (d.pieces []) (d.pieces []).length ⟨by omega,by omega,by omega,by omega,by omega⟩ h5 h8 (fun b hb=>by omega) hes (fun(i:Nat) (x:List Nat×D) _ hx=>hlike i x hx)
 have hbv6:bv<σ6.next:=by omega
 obtain⟨σ7,B7,e7,ch7,n7,hB7,hw7,i7⟩:=Hb (M+3) 92 [24,25] CB CC 12 43 f g [{ target:=.collected r1,args:=#[] }] none 23 b1 b2 σ6 (.func (.func 153) #[] #[]) (fun b=>b<σ.next) d lv (CmpI (σ6.next+1) σ6.next mb fb (σ.next+2) bv (fun b=>b<σ.next) ((e.pieces []).map (·.2)) f g) (fun b=>b=σ6.next+1∨b=σ6.next∨b=mb∨b=fb∨b=σ.next+2∨b=bv)
  ⟨hB.stays,hB.own,hB.inside,fun done path d rest B σ pv v hall=>hB.go done path d rest B σ pv v (by rw[hall];simp) hall⟩ hS' (by omega)
  (fun done B σ' ⟨h6,_,_,h7,_⟩=>⟨h6,h7⟩)
  ⟨Eu ..,fun b hb=>hb,fun b hb=>⟨by simp only[Aa];omega,by omega⟩,⟨_,by rw[Ak,if_neg (by rw[Aa];omega),Ak,if_pos rfl]⟩,⟨vm,(y6.get _ (by omega)).trans gm⟩,⟨_,vf,(y6.get _ (by omega)).trans gf,rfl⟩,s,(y6.cells (by omega)).trans hcm,hV.keep (fun b e hb he=>⟨(y6.get _ (by omega)).trans he,hb⟩) fun b c hb hc=>⟨(y6.cells (by omega)).trans hc,hb⟩⟩
  (by rw[Ir];exact h23) hw6 cb1 (fun h=>by have:=hw6.cells cb1;omega) hL6 (fun b hb=>by omega) cb2 (fun h=>by have:=hw6.cells cb2;omega)
 rw[e7]
 obtain⟨h6',h1,h2,⟨v3,h3⟩,⟨v4,h4'⟩,⟨w,v5,h5',rfl⟩,s',hs',hV'⟩:=i7
 obtain⟨p0,hs0,_⟩:=hV'.slice
 subst hs0
 have n7':=ch7.next
 unfold Ze
 have cmb:∀o:FObj,(σ7.put (σ6.next+1) o none).cells mb=some [.int .i64 (.ofNat (d.pieces []).length)]:=fun o=>by rw[Ar,if_neg (by omega)];exact Au h4'
 have ccm:∀o:FObj,(σ7.put (σ6.next+1) o none).cells (σ.next+2)=some [.slice p0 (e.pieces []).length (e.pieces []).length]:=fun o=>by rw[Ar,if_neg (by omega),hs',List.length_map]
 have heq:(Int.ofNat (e.pieces []).length==Int.ofNat (e.pieces []).length)=true:=by simp
 rw[hlen] at cmb
 have ef:=fun σ=>Fl (M+2) 10 σ
 have hr2:∀o:FObj,(σ7.put (σ6.next+1) o none).heap.get σ6.next=some ⟨.defd true,false,none,v3⟩:=fun o=>by rw[An,if_neg (by omega)];exact h3
 have hr1':∀o o':FObj,((σ7.put (σ6.next+1) o none).put σ6.next o' none).heap.get r1=some ⟨.defd true,false,none,vr⟩:=fun o o'=>by
  rw[An,if_neg (by omega),An,if_neg (by omega),ch7.get r1 (by omega) (by omega)];exact hr1
 simp -implicitDefEqProofs only[go_sem,OZ,KG,Aeq,SG,h5,h8,cmb,ccm,heq,ef,AW,Aq,S0,Av]
 rw[C8 _ _ _ _ _ _ _ _ _ _ _ (hr2 _),C8 _ _ _ _ _ _ _ _ _ _ _ (hr1' _ _),AK]
 have x7:Ext σ σ7:=((x6.chg (fun b=>σ.next≤b)).trans ch7 fun b hb h=>by omega).ext fun b hb h=>by omega
 exact⟨_,rfl,((x7.put _ _ _ (by omega)).put _ _ _ (by omega)).put _ _ _ (by omega),((hw7.put _ _ _ (by omega)).put _ _ _ (by rw[Ao];omega)).put _ _ _ (by rw[Ao,Ao];omega)⟩
theorem IC(M:Nat)(d e:D)(lv mv:List Value)(h4:lv.length=4)(hm4:mv.length=4)(σ:FState)(hw:Wf σ)(hL:LaidR (fun b=>b<σ.next) σ (.agg lv.toArray) d)(hLe:LaidR (fun b=>b<σ.next) σ (.agg mv.toArray) e)(hS:Small (e.pieces []))(hN:(e.pieces []).length<900)(hS':Small (d.pieces []))(hN':(d.pieces []).length<900)(pre rest:List (List Nat×D))(path:List Nat)(x y:D)(hsplit:d.pieces []=pre++(path,x)::rest)(hy:((e.pieces []).map (·.2))[pre.length]? = some y)(hxy:likeD x y=false)(hlike:∀(i:Nat) (x:List Nat×D),i<pre.length→(d.pieces [])[i]? = some x→∃y,((e.pieces []).map (·.2))[i]? = some y∧likeD x.2 y=true):
  Gives ((env (M+5)).call 92 [.agg lv.toArray,.agg mv.toArray] none σ) σ fun w σ'=>PathV (fun b=>σ.next≤b) σ' w path:=by
 obtain⟨find,again,f,g,r1,σ6,b1,b2,bv,mb,fb,s,ecall,h5,h8,h9,h23,x6,hw6,cb2,cb1,⟨vr,hr1⟩,o1,o2,o3,o4,o5,o6,o7,⟨vm,gm⟩,⟨vf,gf⟩,hcm,hV⟩:=Er M d e lv mv h4 hm4 σ hw hL hLe hS hN
 rw[ecall]
 have hL6:LaidR (fun b=>b<σ.next) σ6 (.agg lv.toArray) d:=hL.keep fun b cs hb hc=>⟨(x6.cells (hw.cells hc)).trans hc,hb⟩
 have n6:=x6.next
 have hes:((e.pieces []).map (·.2)).length<1000:=by rw[List.length_map];omega
 have hpl:pre.length<(e.pieces []).length:=by have:=(List.getElem?_eq_some_iff.1 hy).1;rwa [List.length_map] at this
 have y6:Ext σ6 ((σ6.push (.defd true) none).push (.loop .ready none 92 ((List.range 12).map f) g 12 43 [24,25] CB CC σ6.next) none):=((Ext.refl _).push _ _).push _ _
 have hB:=Ts M (σ6.next+1) σ6.next mb fb (σ.next+2) bv (fun b=>b<σ.next) ((e.pieces []).map (·.2)) f g (d.pieces []) pre.length ⟨by omega,by omega,by omega,by omega,by omega⟩ h5 h8 (fun b hb=>by omega) hes hlike
 have hst:=Afg M (σ6.next+1) σ6.next mb fb (σ.next+2) bv (fun b=>b<σ.next) ((e.pieces []).map (·.2)) f g pre path x y ⟨by omega,by omega,by omega,by omega,by omega⟩ h5 h8 h9 (fun b hb=>by omega) hes (by have:=(hS' (path,x) (by rw[hsplit];simp)).1;simp at this;omega) hy hxy
 obtain⟨σ7,B7,e7,ch7,n7,hB7,hw7,i7⟩:=JV 2 (M+3) 92 [24,25] CB CC 12 43 f g [{ target:=.collected r1,args:=#[] }] none 23 b1 b2 σ6 (.func (.func 153) #[] #[]) (fun b=>b<σ.next) d lv (CmpI (σ6.next+1) σ6.next mb fb (σ.next+2) bv (fun b=>b<σ.next) ((e.pieces []).map (·.2)) f g) (fun b=>b=σ6.next+1∨b=σ6.next∨b=mb∨b=fb∨b=σ.next+2∨b=bv)
  hB hst hsplit hS' (by omega)
  (fun B σ' h=>h.1)
  ⟨Eu ..,fun b hb=>hb,fun b hb=>⟨by simp only[Aa];omega,by omega⟩,⟨_,by rw[Ak,if_neg (by rw[Aa];omega),Ak,if_pos rfl]⟩,⟨vm,(y6.get _ (by omega)).trans gm⟩,⟨_,vf,(y6.get _ (by omega)).trans gf,rfl⟩,s,(y6.cells (by omega)).trans hcm,hV.keep (fun b e hb he=>⟨(y6.get _ (by omega)).trans he,hb⟩) fun b c hb hc=>⟨(y6.cells (by omega)).trans hc,hb⟩⟩
  (by rw[Ir];exact h23) hw6 cb1 (fun h=>by have:=hw6.cells cb1;omega) hL6 (fun b hb=>by omega) cb2 (fun h=>by have:=hw6.cells cb2;omega)
 rw[e7]
 obtain⟨h6',h1,h2,⟨v3,h3⟩,⟨v4,h4'⟩,⟨w,v5,h5',hP⟩,s',hs',hV'⟩:=i7
 obtain⟨p0,hs0,_⟩:=hV'.slice
 subst hs0
 have n7':=ch7.next
 unfold Ze
 have cmb:∀o:FObj,(σ7.put (σ6.next+1) o none).cells mb=some [.int .i64 (.ofNat pre.length)]:=fun o=>by rw[Ar,if_neg (by omega)];exact Au h4'
 have cfb:∀o:FObj,(σ7.put (σ6.next+1) o none).cells fb=some [w]:=fun o=>by rw[Ar,if_neg (by omega)];exact Au h5'
 have ccm:∀o:FObj,(σ7.put (σ6.next+1) o none).cells (σ.next+2)=some [.slice p0 (e.pieces []).length (e.pieces []).length]:=fun o=>by rw[Ar,if_neg (by omega),hs',List.length_map]
 have heq:(Int.ofNat pre.length==Int.ofNat (e.pieces []).length)=false:=by simp;omega
 have hr2:∀o:FObj,(σ7.put (σ6.next+1) o none).heap.get σ6.next=some ⟨.defd true,false,none,v3⟩:=fun o=>by rw[An,if_neg (by omega)];exact h3
 have hr1':∀o o':FObj,((σ7.put (σ6.next+1) o none).put σ6.next o' none).heap.get r1=some ⟨.defd true,false,none,vr⟩:=fun o o'=>by
  rw[An,if_neg (by omega),An,if_neg (by omega),ch7.get r1 (by omega) (by omega)];exact hr1
 simp -implicitDefEqProofs only[go_sem,OZ,KG,Aer,SH,Ae,h5,h8,h9,cmb,ccm,cfb,heq,M0]
 rw[Df _ _ _ _ _ _ _ _ _ _ (hr2 _),Df _ _ _ _ _ _ _ _ _ _ (hr1' _ _)]
 simp -implicitDefEqProofs only[go_sem]
 have x7:Ext σ σ7:=((x6.chg (fun b=>σ.next≤b)).trans ch7 fun b hb h=>by omega).ext fun b hb h=>by omega
 exact⟨_,_,rfl,((x7.put _ _ _ (by omega)).put _ _ _ (by omega)).put _ _ _ (by omega),((hw7.put _ _ _ (by omega)).put _ _ _ (by rw[Ao];omega)).put _ _ _ (by rw[Ao,Ao];omega),hP.keep fun b c hb hc=>⟨by rw[Ar,if_neg (by omega),Ar,if_neg (by omega),Ar,if_neg (by omega)];exact hc,by omega⟩⟩
end Go.Proofs.YtokieofohmgjdaaGreatDoor
namespace Go.Proofs.YtokieofohmgjdaaGreatDoor
open Go Go.Eng
attribute [local congr] Ac Aj Ai Ad Ah
attribute [-go_sem] List.range_succ
theorem Ty(n:Nat)(p q:Value)(σ:FState):(env (n+1)).call 161 [p,q] (some .returning) σ=.ret (.tuple #[]) (some .returning) σ:=by
 rw[FW,TH _ _ _ _ (by simp),Af]
 unfold SU
 simp -implicitDefEqProofs only[go_sem,OK,Kr,OL,Ks,AdD,Q4,Agk]
theorem AnP(n w:Nat)(cap:Array Value){Q:Nat→Value→FState→Prop}(hQ:Stays Q)(hone:∀base v σ,Q base v σ→oneCell v=true∧notTuple v=true∧valCells v=[v])(σ:FState)(hw:Wf σ)(h:∀σ',Ext σ σ'→Wf σ'→Gives ((env (n+1)).call w cap.toList none σ') σ' (Q σ'.next)):
  Gives ((env (n+2)).call 133 [.func (.func w) #[] cap] none σ) σ fun v σ'=>∃u,v=.tuple #[u,.int .i64 0,.int .i64 0]∧Q σ.next u σ':=by
 rw[Ag _ 133 _ _ rfl,TF _ _ _ _ (by simp),Af]
 unfold SS
 have hX1:Ext σ ((σ.push (.cells [.int .i64 0] 3) none).push (.cells [.int .i64 0] 32) none):=((Ext.refl _).push _ _).push _ _
 have hw1:=(hw.push (.cells [.int .i64 0] 3) none).push (.cells [.int .i64 0] 32) none
 obtain⟨u,σ2,e2,hX2,hw2,hq⟩:=h _ hX1 hw1
 have g1:σ2.heap.get σ.next=_:=(hX2.get σ.next (by simp only[Aa];omega)).trans (by simp -implicitDefEqProofs only[Ak,Aa,Nat.add_assoc,Nat.reduceAdd,Nat.left_eq_add,reduceCtorEq,↓reduceIte,Nat.reduceEqDiff]<;>rfl)
 have g2:σ2.heap.get (σ.next+1)=_:=(hX2.get (σ.next+1) (by simp only[Aa];omega)).trans (by simp -implicitDefEqProofs only[Ak,Aa,Nat.add_assoc,Nat.reduceAdd,Nat.add_left_cancel_iff,reduceCtorEq,↓reduceIte,Nat.reduceEqDiff]<;>rfl)
 obtain⟨o1,o2,o3⟩:=hone _ _ _ hq
 simp -implicitDefEqProofs only[go_sem,Ox,Ke,Oy,Kf,Oz,Kg,e2,g1,g2,Pa,Fq,Ty,AX,AJ,AI,BU,Bt,o1,o2,o3]
 have m1:=(hw2 _ _ g1).1
 have m2:=(hw2 _ _ g2).1
 exact⟨_,_,rfl,((hX1.trans hX2).put _ _ _ (Nat.le_refl _)).put _ _ _ (Nat.le_add_right _ _),(hw2.put _ _ _ m1).put _ _ _ m2,_,rfl,hQ.keep _ _ _ _ _ hq hw2 (by simp only[Aa];omega) fun b hb _=>by
  simp only[Aa] at hb
  rw[An,if_neg (by omega),An,if_neg (by omega)]⟩
theorem Awe(n w:Nat)(cap:Array Value){Q:Nat→Value→FState→Prop}(hQ:Stays Q)(hone:∀base v σ,Q base v σ→oneCell v=true∧notTuple v=true∧valCells v=[v])(σ:FState)(hw:Wf σ)(h:∀σ',Ext σ σ'→Wf σ'→Gives ((env (n+1)).call w cap.toList none σ') σ' (Q σ'.next)):
  Gives ((env (n+3)).call 90 [.func (.func w) #[] cap] none σ) σ fun v σ'=>∃u,v=.tuple #[u,.int .i64 0]∧Q σ.next u σ':=by
 rw[Ag _ 90 _ _ rfl,Aae _ _ _ _ (by simp),Af]
 unfold Abj
 obtain⟨_,σ2,e2,hX2,hw2,u,rfl,hq⟩:=AnP n w cap hQ hone σ hw h
 obtain⟨o1,o2,o3⟩:=hone _ _ _ hq
 simp -implicitDefEqProofs only[go_sem,Vy,Sz,Vz,SA,VA,SB,e2,AX,AJ,AI,Bt,o1,o2,o3]
 exact⟨_,_,rfl,hX2,hw2,u,rfl,hq⟩
theorem UJ(path:List Nat):Stays (fun base v σ=>PathV (fun b=>base≤b) σ v path):=⟨fun base base' v σ σ' h hw hb hk=>h.keep fun b c hb' hc=>⟨by
 have:=hk b hb' (hw.cells hc)
 rw[Ap] at hc ⊢
 rw[this];exact hc,by omega⟩⟩
structure Apart (M:Nat) (d:D):Prop where
 sane:Sane M d
 count:d.count<900
 deep:d.deep<1000
theorem Apart.small{M:Nat}{d:D}(h:Apart M d):Small (d.pieces []):=h.sane.small h.deep
theorem Apart.few{M:Nat}{d:D}(h:Apart M d):(d.pieces []).length<900:=by rw[Cn];exact h.count
theorem Pn(M:Nat)(d e:D)(hd:Apart M d)(he:Apart M e)(lv mv:List Value)(h4:lv.length=4)(hm4:mv.length=4)(b1 b2:Nat)(σ:FState)(hw:Wf σ)(c1:σ.cells b1=some lv)(c2:σ.cells b2=some mv)(hL:LaidR (fun b=>b<σ.next) σ (.agg lv.toArray) d)(hLe:LaidR (fun b=>b<σ.next) σ (.agg mv.toArray) e)(hlen:(d.pieces []).length=(e.pieces []).length)(hlike:∀(i:Nat) (x:List Nat×D),(d.pieces [])[i]? = some x→∃y,((e.pieces []).map (·.2))[i]? = some y∧likeD x.2 y=true):
  Fails ((env (M+6)).call 91 [.pointer (some ⟨b1,0,none⟩),.pointer (some ⟨b2,0,none⟩)] none σ) σ 10 0:=by
 rw[Ag _ 91 _ _ rfl,JZ _ _ _ _ (by simp),Af]
 unfold O4
 have ht:lv.take 4=lv:=List.take_of_length_le (by omega)
 have htm:mv.take 4=mv:=List.take_of_length_le (by omega)
 obtain⟨_,σ2,e2,x2,hw2,rfl⟩:=Dn M d hd.sane (by have:=hd.count;omega) hd.deep lv h4 (fun b=>b<σ.next) σ hw hL (fun b hb=>hb)
 have k2:∀b cs,b<σ.next→σ.cells b=some cs→σ2.cells b=some cs:=fun b cs hb hc=>(x2.cells hb).trans hc
 have n2:=x2.next
 obtain⟨_,σ3,e3,x3,hw3,rfl⟩:=Dn M e he.sane (by have:=he.count;omega) he.deep mv hm4 (fun b=>b<σ.next) σ2 hw2 (hLe.keep fun b cs hb hc=>⟨k2 b cs hb hc,hb⟩) (fun b hb=>by omega)
 have n3:=x3.next
 have k3:∀b cs,b<σ.next→σ.cells b=some cs→σ3.cells b=some cs:=fun b cs hb hc=>(x3.cells (by omega)).trans (k2 b cs hb hc)
 obtain⟨σ4,e4,x4,hw4⟩:=JN M d e lv mv h4 hm4 σ3 hw3 (hL.keep fun b cs hb hc=>⟨k3 b cs hb hc,by omega⟩) (hLe.keep fun b cs hb hc=>⟨k3 b cs hb hc,by omega⟩) he.small he.few hd.small hlen hlike
 have d1:=k2 _ _ (hw.cells c2) c2
 have d2:=k3 _ _ (hw.cells c1) c1
 have d3:=k3 _ _ (hw.cells c2) c2
 simp -implicitDefEqProofs only[go_sem,Ii,Jf,Ij,Jg,MN,MM,VB,SC,c1,h4,hm4,ht,htm,e2,d1,e3,d2,d3,e4,Nat.le_refl,AW,Aq,Av,AK]
 exact⟨_,rfl,(x2.trans x3).trans x4,hw4⟩
theorem Nh(M:Nat)(d e:D)(hd:Apart M d)(he:Apart M e)(lv mv:List Value)(h4:lv.length=4)(hm4:mv.length=4)(b1 b2:Nat)(σ:FState)(hw:Wf σ)(c1:σ.cells b1=some lv)(c2:σ.cells b2=some mv)(hL:LaidR (fun b=>b<σ.next) σ (.agg lv.toArray) d)(hLe:LaidR (fun b=>b<σ.next) σ (.agg mv.toArray) e)(pre rest:List (List Nat×D))(path:List Nat)(x y:D)(hsplit:d.pieces []=pre++(path,x)::rest)(hy:((e.pieces []).map (·.2))[pre.length]? = some y)(hxy:likeD x y=false)(hlike:∀(i:Nat) (x:List Nat×D),i<pre.length→(d.pieces [])[i]? = some x→∃y,((e.pieces []).map (·.2))[i]? = some y∧likeD x.2 y=true):
  Gives ((env (M+6)).call 91 [.pointer (some ⟨b1,0,none⟩),.pointer (some ⟨b2,0,none⟩)] none σ) σ fun w σ'=>PathV (fun b=>σ.next≤b) σ' w path:=by
 rw[Ag _ 91 _ _ rfl,JZ _ _ _ _ (by simp),Af]
 unfold O4
 have ht:lv.take 4=lv:=List.take_of_length_le (by omega)
 have htm:mv.take 4=mv:=List.take_of_length_le (by omega)
 obtain⟨_,σ2,e2,x2,hw2,rfl⟩:=Dn M d hd.sane (by have:=hd.count;omega) hd.deep lv h4 (fun b=>b<σ.next) σ hw hL (fun b hb=>hb)
 have k2:∀b cs,b<σ.next→σ.cells b=some cs→σ2.cells b=some cs:=fun b cs hb hc=>(x2.cells hb).trans hc
 have n2:=x2.next
 obtain⟨_,σ3,e3,x3,hw3,rfl⟩:=Dn M e he.sane (by have:=he.count;omega) he.deep mv hm4 (fun b=>b<σ.next) σ2 hw2 (hLe.keep fun b cs hb hc=>⟨k2 b cs hb hc,hb⟩) (fun b hb=>by omega)
 have n3:=x3.next
 have k3:∀b cs,b<σ.next→σ.cells b=some cs→σ3.cells b=some cs:=fun b cs hb hc=>(x3.cells (by omega)).trans (k2 b cs hb hc)
 obtain⟨w4,σ4,e4,x4,hw4,P4⟩:=IC M d e lv mv h4 hm4 σ3 hw3 (hL.keep fun b cs hb hc=>⟨k3 b cs hb hc,by omega⟩) (hLe.keep fun b cs hb hc=>⟨k3 b cs hb hc,by omega⟩) he.small he.few hd.small hd.few pre rest path x y hsplit hy hxy hlike
 have d1:=k2 _ _ (hw.cells c2) c2
 have d2:=k3 _ _ (hw.cells c1) c1
 have d3:=k3 _ _ (hw.cells c2) c2
 simp -implicitDefEqProofs only[go_sem,Ii,Jf,Ij,Jg,MN,MM,VB,SC,c1,h4,hm4,ht,htm,e2,d1,e3,d2,d3,e4,Nat.le_refl]
 exact⟨_,_,rfl,(x2.trans x3).trans x4,hw4,P4.keep fun b c hb hc=>⟨hc,by omega⟩⟩
theorem TA(M:Nat)(d e:D)(hd:Apart M d)(he:Apart M e)(lv mv:List Value)(h4:lv.length=4)(hm4:mv.length=4)(σ:FState)(hw:Wf σ)(hL:LaidR (fun b=>b<σ.next) σ (.agg lv.toArray) d)(hLe:LaidR (fun b=>b<σ.next) σ (.agg mv.toArray) e)(hlen:(d.pieces []).length=(e.pieces []).length)(hlike:∀(i:Nat) (x:List Nat×D),(d.pieces [])[i]? = some x→∃y,((e.pieces []).map (·.2))[i]? = some y∧likeD x.2 y=true):
  Gives ((env (M+9)).call 27 [.agg lv.toArray,.agg mv.toArray] none σ) σ fun w _=>w=.tuple #[.slice none 0 0,.int .i64 10]:=by
 rw[Ag _ 27 _ _ rfl,JY _ _ _ _ (by simp),Af]
 unfold O3
 have x1:Ext σ ((σ.push (.cells lv TD) none).push (.cells mv TD) none):=((Ext.refl _).push _ _).push _ _
 have hw1:=(hw.push (.cells lv TD) none).push (.cells mv TD) none
 have c1:((σ.push (.cells lv TD) none).push (.cells mv TD) none).cells σ.next=some lv:=by rw[Ab,if_neg (by rw[Aa];omega),Ab,if_pos rfl];rfl
 have c2:((σ.push (.cells lv TD) none).push (.cells mv TD) none).cells (σ.next+1)=some mv:=by rw[Ab,if_pos (by rw[Aa])];rfl
 obtain⟨_,σ2,e2,x2,hw2,rfl⟩:=Ix (M+3) 91 #[.pointer (some ⟨σ.next,0,none⟩),.pointer (some ⟨σ.next+1,0,none⟩)] 10 0 _ hw1 fun σ' hX hw'=>Pn M d e hd he lv mv h4 hm4 σ.next (σ.next+1) σ' hw' ((hX.cells (hw1.cells c1)).trans c1) ((hX.cells (hw1.cells c2)).trans c2)
  (hL.keep fun b cs hb hc=>⟨((x1.trans hX).cells hb).trans hc,by have:=(x1.trans hX).next;omega⟩) (hLe.keep fun b cs hb hc=>⟨((x1.trans hX).cells hb).trans hc,by have:=(x1.trans hX).next;omega⟩) hlen hlike
 simp -implicitDefEqProofs only[go_sem,Ib,Ja,Ic,Jb,e2,AX,AJ,AI,Bt]
 exact⟨_,_,rfl,x1.trans x2,hw2,rfl⟩
theorem Po(M:Nat)(d e:D)(hd:Apart M d)(he:Apart M e)(lv mv:List Value)(h4:lv.length=4)(hm4:mv.length=4)(σ:FState)(hw:Wf σ)(hL:LaidR (fun b=>b<σ.next) σ (.agg lv.toArray) d)(hLe:LaidR (fun b=>b<σ.next) σ (.agg mv.toArray) e)(pre rest:List (List Nat×D))(path:List Nat)(x y:D)(hsplit:d.pieces []=pre++(path,x)::rest)(hy:((e.pieces []).map (·.2))[pre.length]? = some y)(hxy:likeD x y=false)(hlike:∀(i:Nat) (x:List Nat×D),i<pre.length→(d.pieces [])[i]? = some x→∃y,((e.pieces []).map (·.2))[i]? = some y∧likeD x.2 y=true):
  Gives ((env (M+9)).call 27 [.agg lv.toArray,.agg mv.toArray] none σ) σ fun w σ'=>∃u,w=.tuple #[u,.int .i64 0]∧PathV (fun b=>σ.next≤b) σ' u path:=by
 rw[Ag _ 27 _ _ rfl,JY _ _ _ _ (by simp),Af]
 unfold O3
 have x1:Ext σ ((σ.push (.cells lv TD) none).push (.cells mv TD) none):=((Ext.refl _).push _ _).push _ _
 have hw1:=(hw.push (.cells lv TD) none).push (.cells mv TD) none
 have c1:((σ.push (.cells lv TD) none).push (.cells mv TD) none).cells σ.next=some lv:=by rw[Ab,if_neg (by rw[Aa];omega),Ab,if_pos rfl];rfl
 have c2:((σ.push (.cells lv TD) none).push (.cells mv TD) none).cells (σ.next+1)=some mv:=by rw[Ab,if_pos (by rw[Aa])];rfl
 obtain⟨_,σ2,e2,x2,hw2,u,rfl,P2⟩:=Awe (M+5) 91 #[.pointer (some ⟨σ.next,0,none⟩),.pointer (some ⟨σ.next+1,0,none⟩)] (UJ path) (fun base v σ h=>h.one) _ hw1 fun σ' hX hw'=>Nh M d e hd he lv mv h4 hm4 σ.next (σ.next+1) σ' hw' ((hX.cells (hw1.cells c1)).trans c1) ((hX.cells (hw1.cells c2)).trans c2)
  (hL.keep fun b cs hb hc=>⟨((x1.trans hX).cells hb).trans hc,by have:=(x1.trans hX).next;omega⟩) (hLe.keep fun b cs hb hc=>⟨((x1.trans hX).cells hb).trans hc,by have:=(x1.trans hX).next;omega⟩) pre rest path x y hsplit hy hxy hlike
 simp -implicitDefEqProofs only[go_sem,Ib,Ja,Ic,Jb,e2,AX,AJ,AI,Bt]
 exact⟨_,_,rfl,x1.trans x2,hw2,u,rfl,P2.keep fun b c hb hc=>⟨hc,by have:=x1.next;omega⟩⟩
end Go.Proofs.YtokieofohmgjdaaGreatDoor
namespace Go.Proofs.YtokieofohmgjdaaGreatDoor
open Go Go.Eng
variable (E:Env) (ro:Option Nat) (last:List Nat→RunF) (cl:List Nat) (a:FAct) (u:Option FrameMode) (σ:FState)
def LX(_:Unit):List COp:=[⟨fun a σ=>fbox 24 (a.get 0) σ,some 2,fun _=>some true⟩,
 ⟨fun a σ=>fbox 24 (a.get 1) σ,some 3,fun _=>some true⟩,
 ⟨fun a σ=>.val (.int .i64 0) σ,some 4,fun _=>some true⟩,
 ⟨fun a σ=>.val (.int .i64 0) σ,some 5,fun _=>some true⟩]
def Arx:List COp:=LX ()
def LZ(_:Unit):List COp:=[⟨fun a σ=>.val (.func (.func 87) #[] #[(a.get 2),(a.get 3)]) σ,some 6,fun _=>some true⟩,
 ⟨fun a σ=>.enter 79 [(a.get 6)] σ,some 7,fun _=>some true⟩,
 ⟨fun a σ=>fextract 0 (a.get 7) σ,some 8,fun _=>some true⟩,
 ⟨fun a σ=>fextract 1 (a.get 7) σ,some 9,fun _=>some true⟩,
 ⟨fun a σ=>.val (a.get 8) σ,some 4,fun _=>some true⟩,
 ⟨fun a σ=>.val (a.get 9) σ,some 5,fun _=>some true⟩]
def Ary:List COp:=LZ ()
def VM(E:Env)(ro:Option Nat)(fn:FuncId):RunF:=(seqR (fops E ro Arx) (seqR (fops E ro Ary) retR))
theorem LY:fops E ro Arx a u σ=fops E ro (LX ()) a u σ:=rfl
theorem L0:fops E ro Ary a u σ=fops E ro (LZ ()) a u σ:=rfl
theorem Auy(E:Env)(ro:Option Nat)(fn:FuncId):code Tryz.prog nls (Tryz.f25.body.getD .skip) E ro fn=VM E ro fn:=by kernel_rfl
theorem Pr(E:Env)(args:List Value)(u:Option FrameMode)(σ:FState)(hn:args.length≤(4:Nat)):fcall Tryz.prog nls E 25 args u σ=leaveR Tryz.prog E [.tmp 4,.tmp 5] (VM E none 25 ⟨padTo undef 4 args,fun _=>undef,4,10,[]⟩ u σ):=by
 rw[Al (body:=Tryz.f25.body.getD .skip) Tryz.func25 rfl E args u σ 4 10 (by kernel_rfl) rfl ⟨hn,by decide⟩,Auy]
 rfl
def MG(_:Unit):List COp:=[⟨fun a σ=>.val (.int .i64 0) σ,some 2,fun _=>some true⟩]
def Aty:List COp:=MG ()
def MI(_:Unit):List COp:=[⟨fun a σ=>fload (some 4) (a.get 0) σ,some 3,fun _=>some true⟩,
 ⟨fun a σ=>.enter 71 [(a.get 3)] σ,some 4,fun _=>some true⟩]
def Atz:List COp:=MI ()
def Sq(_:Unit):List COp:=[⟨fun a σ=>fload (some 4) (a.get 1) σ,some 5,fun _=>some true⟩,
 ⟨fun a σ=>.enter 71 [(a.get 5)] σ,some 6,fun _=>some true⟩]
def AtA:List COp:=Sq ()
def YK(_:Unit):List COp:=[⟨fun a σ=>fload (some 4) (a.get 0) σ,some 7,fun _=>some true⟩,
 ⟨fun a σ=>fload (some 4) (a.get 1) σ,some 8,fun _=>some true⟩,
 ⟨fun a σ=>.enter 88 [(a.get 7),(a.get 8)] σ,some 9,fun _=>some true⟩,
 ⟨fun a σ=>.val (a.get 9) σ,some 2,fun _=>some true⟩]
def AtB:List COp:=YK ()
def VO(E:Env)(ro:Option Nat)(fn:FuncId):RunF:=(seqR (fops E ro Aty) (seqR (fops E ro Atz) (seqR (fops E ro AtA) (seqR (fops E ro AtB) retR))))
theorem MH:fops E ro Aty a u σ=fops E ro (MG ()) a u σ:=rfl
theorem MJ:fops E ro Atz a u σ=fops E ro (MI ()) a u σ:=rfl
theorem Vt:fops E ro AtA a u σ=fops E ro (Sq ()) a u σ:=rfl
theorem Ams:fops E ro AtB a u σ=fops E ro (YK ()) a u σ:=rfl
theorem AuX(E:Env)(ro:Option Nat)(fn:FuncId):code Tryz.prog nls (Tryz.f87.body.getD .skip) E ro fn=VO E ro fn:=by kernel_rfl
theorem Pt(E:Env)(args:List Value)(u:Option FrameMode)(σ:FState)(hn:args.length≤(2:Nat)):fcall Tryz.prog nls E 87 args u σ=leaveR Tryz.prog E [.tmp 2] (VO E none 87 ⟨padTo undef 2 args,fun _=>undef,2,10,[]⟩ u σ):=by
 rw[Al (body:=Tryz.f87.body.getD .skip) Tryz.func87 rfl E args u σ 2 10 (by kernel_rfl) rfl ⟨hn,by decide⟩,AuX]
 rfl
def Sr(_:Unit):List COp:=[⟨fun a σ=>fbox 24 (a.get 0) σ,some 2,fun _=>some true⟩,
 ⟨fun a σ=>fbox 24 (a.get 1) σ,some 3,fun _=>some true⟩,
 ⟨fun a σ=>.val (.int .i64 0) σ,some 4,fun _=>some true⟩]
def AtC:List COp:=Sr ()
def Ss(_:Unit):List COp:=[⟨fun a σ=>ffield 0 (a.get 2) σ,some 6,fun _=>some true⟩,
 ⟨fun a σ=>fload none (a.get 6) σ,some 7,fun _=>some true⟩,
 ⟨fun a σ=>ffield 0 (a.get 3) σ,some 8,fun _=>some true⟩,
 ⟨fun a σ=>fload none (a.get 8) σ,some 9,fun _=>some true⟩,
 ⟨fun a σ=>.enter 131 [(a.get 7),(a.get 9)] σ,some 10,fun _=>some true⟩,
 ⟨fun a σ=>.val (a.get 10) σ,some 5,fun _=>some true⟩]
def AtD:List COp:=Ss ()
def Su(_:Unit):List COp:=[⟨fun a σ=>.val (a.get 5) σ,some 11,fun _=>some true⟩,
 ⟨fun a σ=>i_neq Tryz.prog 3 (.tmp 11) (.const (.int .i64 0)) (a.get 11) (.int .i64 0) σ,some 12,fun _=>some true⟩]
def AtE:List COp:=Su ()
def YL(_:Unit):List COp:=[⟨fun a σ=>.val (a.get 5) σ,some 13,fun _=>some true⟩,
 ⟨fun a σ=>.val (a.get 13) σ,some 4,fun _=>some true⟩]
def AtF:List COp:=YL ()
def YM(_:Unit):List DOp:=[⟨fun a σ=>fload (some 4) (a.get 2) σ,some 14,fun _=>some true,some 0,false⟩,
 ⟨fun a σ=>.enter 127 [(a.get 14)] σ,some 15,fun _=>some true,none,false⟩,
 ⟨fun a σ=>fload (some 4) (a.get 3) σ,some 16,fun _=>some true,some 0,false⟩,
 ⟨fun a σ=>finvoke Tryz.prog (a.get 15) "caracole/datum.order" [(a.get 16)] σ,some 17,fun _=>some true,none,true⟩,
 ⟨fun a σ=>.val (a.get 17) σ,some 4,fun _=>some true,some 2,false⟩]
def AtG:List DOp:=YM ()
def Abi(E:Env)(ro:Option Nat)(fn:FuncId):RunF:=(seqR (fops E ro AtC) (seqR (seqR (fops E ro AtD) (seqR (fops E ro AtE) (condR (fun a=>(a.get 12)) (seqR (fops E ro AtF) retR) skipR))) (seqR (drawR E ro AtG) retR)))
theorem Vu:fops E ro AtC a u σ=fops E ro (Sr ()) a u σ:=rfl
theorem Vv:fops E ro AtD a u σ=fops E ro (Ss ()) a u σ:=rfl
theorem Vw:fops E ro AtE a u σ=fops E ro (Su ()) a u σ:=rfl
theorem Amt:fops E ro AtF a u σ=fops E ro (YL ()) a u σ:=rfl
theorem Amu:fdraw E ro last AtG cl a u σ=fdraw E ro last (YM ()) cl a u σ:=rfl
theorem AuY(E:Env)(ro:Option Nat)(fn:FuncId):code Tryz.prog nls (Tryz.f88.body.getD .skip) E ro fn=Abi E ro fn:=by kernel_rfl
theorem Aad(E:Env)(args:List Value)(u:Option FrameMode)(σ:FState)(hn:args.length≤(6:Nat)):fcall Tryz.prog nls E 88 args u σ=leaveR Tryz.prog E [.tmp 4] (Abi E none 88 ⟨padTo undef 6 args,fun _=>undef,6,18,[]⟩ u σ):=by
 rw[Al (body:=Tryz.f88.body.getD .skip) Tryz.func88 rfl E args u σ 6 18 (by kernel_rfl) rfl ⟨hn,by decide⟩,AuY]
 rfl
def RC(_:Unit):List COp:=[⟨fun a σ=>fbox 184 (a.get 0) σ,some 2,fun _=>some true⟩,
 ⟨fun a σ=>fbox 24 (a.get 1) σ,some 3,fun _=>some true⟩,
 ⟨fun a σ=>.val (.int .i64 0) σ,some 4,fun _=>some true⟩]
def AkJ:List COp:=RC ()
def RD(_:Unit):List COp:=[⟨fun a σ=>ffield 0 (a.get 2) σ,some 5,fun _=>some true⟩,
 ⟨fun a σ=>ffield 1 (a.get 5) σ,some 6,fun _=>some true⟩,
 ⟨fun a σ=>fload none (a.get 6) σ,some 7,fun _=>some true⟩,
 ⟨fun a σ=>ffield 1 (a.get 3) σ,some 8,fun _=>some true⟩,
 ⟨fun a σ=>fload none (a.get 8) σ,some 9,fun _=>some true⟩,
 ⟨fun a σ=>.enter 131 [(a.get 7),(a.get 9)] σ,some 10,fun _=>some true⟩,
 ⟨fun a σ=>.val (a.get 10) σ,some 4,fun _=>some true⟩]
def AkK:List COp:=RD ()
def ZJ(E:Env)(ro:Option Nat)(fn:FuncId):RunF:=(seqR (fops E ro AkJ) (seqR (fops E ro AkK) retR))
theorem Aea:fops E ro AkJ a u σ=fops E ro (RC ()) a u σ:=rfl
theorem Aeb:fops E ro AkK a u σ=fops E ro (RD ()) a u σ:=rfl
theorem AoA(E:Env)(ro:Option Nat)(fn:FuncId):code Tryz.prog nls (Tryz.f232.body.getD .skip) E ro fn=ZJ E ro fn:=by kernel_rfl
theorem AfL(E:Env)(args:List Value)(u:Option FrameMode)(σ:FState)(hn:args.length≤(4:Nat)):fcall Tryz.prog nls E 232 args u σ=leaveR Tryz.prog E [.tmp 4] (ZJ E none 232 ⟨padTo undef 4 args,fun _=>undef,4,11,[]⟩ u σ):=by
 rw[Al (body:=Tryz.f232.body.getD .skip) Tryz.func232 rfl E args u σ 4 11 (by kernel_rfl) rfl ⟨hn,by decide⟩,AoA]
 rfl
def Rv(_:Unit):List COp:=[⟨fun a σ=>fbox 151 (a.get 0) σ,some 2,fun _=>some true⟩,
 ⟨fun a σ=>fbox 24 (a.get 1) σ,some 3,fun _=>some true⟩,
 ⟨fun a σ=>.val (.int .i64 0) σ,some 4,fun _=>some true⟩]
def Akv:List COp:=Rv ()
def Rw(_:Unit):List COp:=[⟨fun a σ=>ffield 0 (a.get 2) σ,some 5,fun _=>some true⟩,
 ⟨fun a σ=>ffield 2 (a.get 5) σ,some 6,fun _=>some true⟩,
 ⟨fun a σ=>fload none (a.get 6) σ,some 7,fun _=>some true⟩,
 ⟨fun a σ=>ffield 2 (a.get 3) σ,some 8,fun _=>some true⟩,
 ⟨fun a σ=>fload none (a.get 8) σ,some 9,fun _=>some true⟩,
 ⟨fun a σ=>.enter 227 [(a.get 7),(a.get 9)] σ,some 10,fun _=>some true⟩,
 ⟨fun a σ=>.val (a.get 10) σ,some 4,fun _=>some true⟩]
def Akw:List COp:=Rw ()
def ZG(E:Env)(ro:Option Nat)(fn:FuncId):RunF:=(seqR (fops E ro Akv) (seqR (fops E ro Akw) retR))
theorem Ad4:fops E ro Akv a u σ=fops E ro (Rv ()) a u σ:=rfl
theorem Ad5:fops E ro Akw a u σ=fops E ro (Rw ()) a u σ:=rfl
theorem Aow(E:Env)(ro:Option Nat)(fn:FuncId):code Tryz.prog nls (Tryz.f226.body.getD .skip) E ro fn=ZG E ro fn:=by kernel_rfl
theorem AfI(E:Env)(args:List Value)(u:Option FrameMode)(σ:FState)(hn:args.length≤(4:Nat)):fcall Tryz.prog nls E 226 args u σ=leaveR Tryz.prog E [.tmp 4] (ZG E none 226 ⟨padTo undef 4 args,fun _=>undef,4,11,[]⟩ u σ):=by
 rw[Al (body:=Tryz.f226.body.getD .skip) Tryz.func226 rfl E args u σ 4 11 (by kernel_rfl) rfl ⟨hn,by decide⟩,Aow]
 rfl
def RE(_:Unit):List COp:=[⟨fun a σ=>fbox 187 (a.get 0) σ,some 2,fun _=>some true⟩,
 ⟨fun a σ=>fbox 24 (a.get 1) σ,some 3,fun _=>some true⟩,
 ⟨fun a σ=>.val (.int .i64 0) σ,some 4,fun _=>some true⟩]
def AkN:List COp:=RE ()
def RF(_:Unit):List COp:=[⟨fun a σ=>.val (.int .i64 0) σ,some 4,fun _=>some true⟩]
def AkO:List COp:=RF ()
def ZK(E:Env)(ro:Option Nat)(fn:FuncId):RunF:=(seqR (fops E ro AkN) (seqR (fops E ro AkO) retR))
theorem Aec:fops E ro AkN a u σ=fops E ro (RE ()) a u σ:=rfl
theorem Aed:fops E ro AkO a u σ=fops E ro (RF ()) a u σ:=rfl
theorem AoC(E:Env)(ro:Option Nat)(fn:FuncId):code Tryz.prog nls (Tryz.f234.body.getD .skip) E ro fn=ZK E ro fn:=by kernel_rfl
theorem AfM(E:Env)(args:List Value)(u:Option FrameMode)(σ:FState)(hn:args.length≤(4:Nat)):fcall Tryz.prog nls E 234 args u σ=leaveR Tryz.prog E [.tmp 4] (ZK E none 234 ⟨padTo undef 4 args,fun _=>undef,4,5,[]⟩ u σ):=by
 rw[Al (body:=Tryz.f234.body.getD .skip) Tryz.func234 rfl E args u σ 4 5 (by kernel_rfl) rfl ⟨hn,by decide⟩,AoC]
 rfl
def RG(_:Unit):List COp:=[⟨fun a σ=>fbox 188 (a.get 0) σ,some 2,fun _=>some true⟩,
 ⟨fun a σ=>fbox 24 (a.get 1) σ,some 3,fun _=>some true⟩,
 ⟨fun a σ=>.val (.int .i64 0) σ,some 4,fun _=>some true⟩]
def AkR:List COp:=RG ()
def RH(_:Unit):List COp:=[⟨fun a σ=>ffield 0 (a.get 2) σ,some 5,fun _=>some true⟩,
 ⟨fun a σ=>ffield 3 (a.get 5) σ,some 6,fun _=>some true⟩,
 ⟨fun a σ=>fload none (a.get 6) σ,some 7,fun _=>some true⟩,
 ⟨fun a σ=>ffield 3 (a.get 3) σ,some 8,fun _=>some true⟩,
 ⟨fun a σ=>fload none (a.get 8) σ,some 9,fun _=>some true⟩,
 ⟨fun a σ=>.enter 237 [(a.get 7),(a.get 9),(.func (.func 88) #[] #[])] σ,some 10,fun _=>some true⟩,
 ⟨fun a σ=>.val (a.get 10) σ,some 4,fun _=>some true⟩]
def AkS:List COp:=RH ()
def ZL(E:Env)(ro:Option Nat)(fn:FuncId):RunF:=(seqR (fops E ro AkR) (seqR (fops E ro AkS) retR))
theorem Aee:fops E ro AkR a u σ=fops E ro (RG ()) a u σ:=rfl
theorem Aef:fops E ro AkS a u σ=fops E ro (RH ()) a u σ:=rfl
theorem AoE(E:Env)(ro:Option Nat)(fn:FuncId):code Tryz.prog nls (Tryz.f236.body.getD .skip) E ro fn=ZL E ro fn:=by kernel_rfl
theorem AfN(E:Env)(args:List Value)(u:Option FrameMode)(σ:FState)(hn:args.length≤(4:Nat)):fcall Tryz.prog nls E 236 args u σ=leaveR Tryz.prog E [.tmp 4] (ZL E none 236 ⟨padTo undef 4 args,fun _=>undef,4,11,[]⟩ u σ):=by
 rw[Al (body:=Tryz.f236.body.getD .skip) Tryz.func236 rfl E args u σ 4 11 (by kernel_rfl) rfl ⟨hn,by decide⟩,AoE]
 rfl
def HL(_:Unit):List COp:=[⟨fun a σ=>.val (.int .i64 0) σ,some 4,fun _=>some true⟩]
def AhL:List COp:=HL ()
def HN(_:Unit):List COp:=[⟨fun a σ=>.val (a.get 0) σ,some 7,fun _=>some true⟩,
 ⟨fun a σ=>.enter 160 [(a.get 7)] σ,some 8,fun _=>some true⟩,
 ⟨fun a σ=>.val (a.get 8) σ,some 5,fun _=>some true⟩]
def AhM:List COp:=HN ()
def HO(_:Unit):List COp:=[⟨fun a σ=>.val (a.get 1) σ,some 9,fun _=>some true⟩,
 ⟨fun a σ=>.enter 160 [(a.get 9)] σ,some 10,fun _=>some true⟩,
 ⟨fun a σ=>.val (a.get 10) σ,some 6,fun _=>some true⟩]
def AhN:List COp:=HO ()
def HP(_:Unit):List COp:=[⟨fun a σ=>.val (a.get 5) σ,some 11,fun _=>some true⟩]
def AhO:List COp:=HP ()
def ApQ(_:Unit):List COp:=[⟨fun a σ=>.val (a.get 6) σ,some 12,fun _=>some true⟩]
def Avz:List COp:=ApQ ()
def ApR(_:Unit):List COp:=[⟨fun a σ=>.val (.int .i64 0) σ,some 4,fun _=>some true⟩]
def AvA:List COp:=ApR ()
def ApS(_:Unit):List COp:=[⟨fun a σ=>.val (.int .i64 (-1)) σ,some 4,fun _=>some true⟩]
def AvB:List COp:=ApS ()
def HQ(_:Unit):List COp:=[⟨fun a σ=>.val (a.get 6) σ,some 13,fun _=>some true⟩]
def AhP:List COp:=HQ ()
def ApT(_:Unit):List COp:=[⟨fun a σ=>.val (.int .i64 1) σ,some 4,fun _=>some true⟩]
def AvC:List COp:=ApT ()
def HR(_:Unit):List COp:=[⟨fun a σ=>.val (a.get 0) σ,some 14,fun _=>some true⟩,
 ⟨fun a σ=>.val (a.get 1) σ,some 15,fun _=>some true⟩,
 ⟨fun a σ=>i_lss Tryz.prog 3 (.tmp 14) (.tmp 15) (a.get 14) (a.get 15) σ,some 16,fun _=>some true⟩]
def AhQ:List COp:=HR ()
def LD(_:Unit):List COp:=[⟨fun a σ=>.val (.int .i64 (-1)) σ,some 4,fun _=>some true⟩]
def AaC:List COp:=LD ()
def HM(_:Unit):List COp:=[⟨fun a σ=>.val (a.get 0) σ,some 17,fun _=>some true⟩,
 ⟨fun a σ=>.val (a.get 1) σ,some 18,fun _=>some true⟩,
 ⟨fun a σ=>i_gtr Tryz.prog 3 (.tmp 17) (.tmp 18) (a.get 17) (a.get 18) σ,some 19,fun _=>some true⟩]
def AaD:List COp:=HM ()
def LF(_:Unit):List COp:=[⟨fun a σ=>.val (.int .i64 1) σ,some 4,fun _=>some true⟩]
def AaE:List COp:=LF ()
def LG(_:Unit):List COp:=[⟨fun a σ=>.val (.int .i64 0) σ,some 4,fun _=>some true⟩]
def AaF:List COp:=LG ()
def Zo(E:Env)(ro:Option Nat)(fn:FuncId):RunF:=(seqR (fops E ro AhL) (seqR (fops E ro AhM) (seqR (fops E ro AhN) (seqR (seqR (fops E ro AhO) (condR (fun a=>(a.get 11)) (seqR (seqR (fops E ro Avz) (condR (fun a=>(a.get 12)) (seqR (fops E ro AvA) retR) skipR)) (seqR (fops E ro AvB) retR)) skipR)) (seqR (seqR (fops E ro AhP) (condR (fun a=>(a.get 13)) (seqR (fops E ro AvC) retR) skipR)) (seqR (seqR (fops E ro AhQ) (condR (fun a=>(a.get 16)) (seqR (fops E ro AaC) retR) skipR)) (seqR (seqR (fops E ro AaD) (condR (fun a=>(a.get 19)) (seqR (fops E ro AaE) retR) skipR)) (seqR (fops E ro AaF) retR))))))))
theorem IP:fops E ro AhL a u σ=fops E ro (HL ()) a u σ:=rfl
theorem IQ:fops E ro AhM a u σ=fops E ro (HN ()) a u σ:=rfl
theorem IR:fops E ro AhN a u σ=fops E ro (HO ()) a u σ:=rfl
theorem IS:fops E ro AhO a u σ=fops E ro (HP ()) a u σ:=rfl
theorem IT:fops E ro AhP a u σ=fops E ro (HQ ()) a u σ:=rfl
theorem IU:fops E ro AhQ a u σ=fops E ro (HR ()) a u σ:=rfl
theorem Xc:fops E ro AaC a u σ=fops E ro (LD ()) a u σ:=rfl
theorem LE:fops E ro AaD a u σ=fops E ro (HM ()) a u σ:=rfl
theorem Xd:fops E ro AaE a u σ=fops E ro (LF ()) a u σ:=rfl
theorem Xe:fops E ro AaF a u σ=fops E ro (LG ()) a u σ:=rfl
theorem An5(E:Env)(ro:Option Nat)(fn:FuncId):code Tryz.prog nls (Tryz.f131.body.getD .skip) E ro fn=Zo E ro fn:=by kernel_rfl
theorem Afq(E:Env)(args:List Value)(u:Option FrameMode)(σ:FState)(hn:args.length≤(7:Nat)):fcall Tryz.prog nls E 131 args u σ=leaveR Tryz.prog E [.tmp 4] (Zo E none 131 ⟨padTo undef 7 args,fun _=>undef,7,20,[]⟩ u σ):=by
 rw[Al (body:=Tryz.f131.body.getD .skip) Tryz.func131 rfl E args u σ 7 20 (by kernel_rfl) rfl ⟨hn,by decide⟩,An5]
 rfl
def Q2(_:Unit):List COp:=[⟨fun a σ=>.val (.bool false) σ,some 2,fun _=>some true⟩]
def Ai9:List COp:=Q2 ()
def Q3(_:Unit):List COp:=[⟨fun a σ=>.val (a.get 0) σ,some 3,fun _=>some true⟩,
 ⟨fun a σ=>.val (a.get 0) σ,some 4,fun _=>some true⟩,
 ⟨fun a σ=>i_neq Tryz.prog 3 (.tmp 3) (.tmp 4) (a.get 3) (a.get 4) σ,some 5,fun _=>some true⟩,
 ⟨fun a σ=>.val (a.get 5) σ,some 2,fun _=>some true⟩]
def Aja:List COp:=Q3 ()
def Zz(E:Env)(ro:Option Nat)(fn:FuncId):RunF:=(seqR (fops E ro Ai9) (seqR (fops E ro Aja) retR))
theorem AdB:fops E ro Ai9 a u σ=fops E ro (Q2 ()) a u σ:=rfl
theorem AdC:fops E ro Aja a u σ=fops E ro (Q3 ()) a u σ:=rfl
theorem Aol(E:Env)(ro:Option Nat)(fn:FuncId):code Tryz.prog nls (Tryz.f160.body.getD .skip) E ro fn=Zz E ro fn:=by kernel_rfl
theorem AfB(E:Env)(args:List Value)(u:Option FrameMode)(σ:FState)(hn:args.length≤(2:Nat)):fcall Tryz.prog nls E 160 args u σ=leaveR Tryz.prog E [.tmp 2] (Zz E none 160 ⟨padTo undef 2 args,fun _=>undef,2,6,[]⟩ u σ):=by
 rw[Al (body:=Tryz.f160.body.getD .skip) Tryz.func160 rfl E args u σ 2 6 (by kernel_rfl) rfl ⟨hn,by decide⟩,Aol]
 rfl
def RI(_:Unit):List COp:=[⟨fun a σ=>.val (.int .i64 0) σ,some 6,fun _=>some true⟩]
def AkT:List COp:=RI ()
def RJ(_:Unit):List COp:=[⟨fun a σ=>.val (a.get 0) σ,some 11,fun _=>some true⟩,
 ⟨fun a σ=>flenL (a.get 11) σ,some 12,fun _=>some true⟩,
 ⟨fun a σ=>.val (.int .i64 0) σ,some 13,fun _=>some true⟩]
def AkU:List COp:=RJ ()
def GE(_:Unit):List COp:=[⟨fun a σ=>i_lss Tryz.prog 3 (.tmp 13) (.tmp 12) (a.get 13) (a.get 12) σ,some 14,fun _=>some true⟩]
def AkV:List COp:=GE ()
def H_(_:Unit):List COp:=[⟨fun a σ=>.val (a.get 13) σ,some 15,fun _=>some true⟩,
 ⟨fun a σ=>findex (none,4) (a.get 11) (a.get 13) σ,some 16,fun _=>some true⟩,
 ⟨fun a σ=>fload (some 4) (a.get 16) σ,some 17,fun _=>some true⟩,
 ⟨fun a σ=>newCells [(.int .i64 0),(.int .i64 0),(.string ⟨#[]⟩),(.slice none 0 0)] 24 none σ,some 8,fun _=>some true⟩,
 ⟨fun a σ=>.val (a.get 15) σ,some 7,fun _=>some true⟩,
 ⟨fun a σ=>fstore 4 (a.get 8) (a.get 17) σ,none,fun _=>some true⟩]
def AkW:List COp:=H_ ()
def Ia(_:Unit):List COp:=[⟨fun a σ=>.val (a.get 7) σ,some 18,fun _=>some true⟩,
 ⟨fun a σ=>.val (a.get 1) σ,some 19,fun _=>some true⟩,
 ⟨fun a σ=>flenL (a.get 19) σ,some 20,fun _=>some true⟩,
 ⟨fun a σ=>i_geq Tryz.prog 3 (.tmp 18) (.tmp 20) (a.get 18) (a.get 20) σ,some 21,fun _=>some true⟩]
def AkX:List COp:=Ia ()
def RK(_:Unit):List COp:=[⟨fun a σ=>.val (.int .i64 1) σ,some 6,fun _=>some true⟩]
def AkY:List COp:=RK ()
def KA(_:Unit):List COp:=[⟨fun a σ=>.val (a.get 1) σ,some 22,fun _=>some true⟩,
 ⟨fun a σ=>.val (a.get 7) σ,some 23,fun _=>some true⟩,
 ⟨fun a σ=>findex (none,4) (a.get 22) (a.get 23) σ,some 24,fun _=>some true⟩,
 ⟨fun a σ=>fload (some 4) (a.get 24) σ,some 25,fun _=>some true⟩,
 ⟨fun a σ=>newCells [(.int .i64 0),(.int .i64 0),(.string ⟨#[]⟩),(.slice none 0 0)] 24 none σ,some 9,fun _=>some true⟩,
 ⟨fun a σ=>fstore 4 (a.get 9) (a.get 25) σ,none,fun _=>some true⟩]
def AkZ:List COp:=KA ()
def KB(_:Unit):List COp:=[⟨fun a σ=>.val (a.get 2) σ,some 26,fun _=>some true⟩,
 ⟨fun a σ=>fload (some 4) (a.get 8) σ,some 27,fun _=>some true⟩,
 ⟨fun a σ=>fload (some 4) (a.get 9) σ,some 28,fun _=>some true⟩,
 ⟨fun a σ=>fcallV (a.get 26) [(a.get 27),(a.get 28)] σ,some 29,fun _=>some true⟩,
 ⟨fun a σ=>.val (a.get 29) σ,some 10,fun _=>some true⟩]
def Ak0:List COp:=KB ()
def KC(_:Unit):List COp:=[⟨fun a σ=>.val (a.get 10) σ,some 30,fun _=>some true⟩,
 ⟨fun a σ=>i_neq Tryz.prog 3 (.tmp 30) (.const (.int .i64 0)) (a.get 30) (.int .i64 0) σ,some 31,fun _=>some true⟩]
def Ak1:List COp:=KC ()
def RL(_:Unit):List COp:=[⟨fun a σ=>.val (a.get 10) σ,some 32,fun _=>some true⟩,
 ⟨fun a σ=>.val (a.get 32) σ,some 6,fun _=>some true⟩]
def Ak2:List COp:=RL ()
def LT(_:Unit):List COp:=[⟨fun a σ=>i_add Tryz.prog 3 (.tmp 13) (.const (.int .i64 1)) (a.get 13) (.int .i64 1) σ,some 33,fun _=>some true⟩,
 ⟨fun a σ=>.val (a.get 33) σ,some 13,fun _=>some true⟩]
def AaZ:List COp:=LT ()
def IL(E:Env)(ro:Option Nat)(fn:FuncId):RunF:=(seqR (fops E ro AkV) (seqR (condR (fun a=>(a.get 14)) skipR (exitR 0)) (seqR (blockR 1 (seqR (fops E ro AkW) (seqR (seqR (fops E ro AkX) (condR (fun a=>(a.get 21)) (seqR (fops E ro AkY) retR) skipR)) (seqR (fops E ro AkZ) (seqR (fops E ro Ak0) (seqR (fops E ro Ak1) (condR (fun a=>(a.get 31)) (seqR (fops E ro Ak2) retR) skipR))))))) (fops E ro AaZ))))
def H9(_:Unit):List COp:=[⟨fun a σ=>.val (a.get 0) σ,some 34,fun _=>some true⟩,
 ⟨fun a σ=>flenL (a.get 34) σ,some 35,fun _=>some true⟩,
 ⟨fun a σ=>.val (a.get 1) σ,some 36,fun _=>some true⟩,
 ⟨fun a σ=>flenL (a.get 36) σ,some 37,fun _=>some true⟩,
 ⟨fun a σ=>i_lss Tryz.prog 3 (.tmp 35) (.tmp 37) (a.get 35) (a.get 37) σ,some 38,fun _=>some true⟩]
def Aa0:List COp:=H9 ()
def LV(_:Unit):List COp:=[⟨fun a σ=>.val (.int .i64 (-1)) σ,some 6,fun _=>some true⟩]
def Aa1:List COp:=LV ()
def LW(_:Unit):List COp:=[⟨fun a σ=>.val (.int .i64 0) σ,some 6,fun _=>some true⟩]
def Aa2:List COp:=LW ()
def ZM(E:Env)(ro:Option Nat)(fn:FuncId):RunF:=(seqR (fops E ro AkT) (seqR (seqR (fops E ro AkU) (blockR 0 (loopR (keepOf nls fn) (IL E ro fn)))) (seqR (seqR (fops E ro Aa0) (condR (fun a=>(a.get 38)) (seqR (fops E ro Aa1) retR) skipR)) (seqR (fops E ro Aa2) retR))))
theorem Aeg:fops E ro AkT a u σ=fops E ro (RI ()) a u σ:=rfl
theorem Aeh:fops E ro AkU a u σ=fops E ro (RJ ()) a u σ:=rfl
theorem GF:fops E ro AkV a u σ=fops E ro (GE ()) a u σ:=rfl
theorem I9:fops E ro AkW a u σ=fops E ro (H_ ()) a u σ:=rfl
theorem I_:fops E ro AkX a u σ=fops E ro (Ia ()) a u σ:=rfl
theorem Aei:fops E ro AkY a u σ=fops E ro (RK ()) a u σ:=rfl
theorem OT:fops E ro AkZ a u σ=fops E ro (KA ()) a u σ:=rfl
theorem OU:fops E ro Ak0 a u σ=fops E ro (KB ()) a u σ:=rfl
theorem OV:fops E ro Ak1 a u σ=fops E ro (KC ()) a u σ:=rfl
theorem Aej:fops E ro Ak2 a u σ=fops E ro (RL ()) a u σ:=rfl
theorem Xr:fops E ro AaZ a u σ=fops E ro (LT ()) a u σ:=rfl
theorem LU:fops E ro Aa0 a u σ=fops E ro (H9 ()) a u σ:=rfl
theorem Xs:fops E ro Aa1 a u σ=fops E ro (LV ()) a u σ:=rfl
theorem Xt:fops E ro Aa2 a u σ=fops E ro (LW ()) a u σ:=rfl
theorem AoF(E:Env)(ro:Option Nat)(fn:FuncId):code Tryz.prog nls (Tryz.f237.body.getD .skip) E ro fn=ZM E ro fn:=by kernel_rfl
theorem AfO(E:Env)(args:List Value)(u:Option FrameMode)(σ:FState)(hn:args.length≤(11:Nat)):fcall Tryz.prog nls E 237 args u σ=leaveR Tryz.prog E [.tmp 6] (ZM E none 237 ⟨padTo undef 11 args,fun _=>undef,11,39,[]⟩ u σ):=by
 rw[Al (body:=Tryz.f237.body.getD .skip) Tryz.func237 rfl E args u σ 11 39 (by kernel_rfl) rfl ⟨hn,by decide⟩,AoF]
 rfl
def Rx(_:Unit):List COp:=[⟨fun a σ=>.val (.int .i64 0) σ,some 4,fun _=>some true⟩]
def Akx:List COp:=Rx ()
def Ry(_:Unit):List COp:=[⟨fun a σ=>.val (a.get 0) σ,some 5,fun _=>some true⟩,
 ⟨fun a σ=>.val (a.get 1) σ,some 6,fun _=>some true⟩,
 ⟨fun a σ=>.enter 228 [(a.get 5),(a.get 6)] σ,some 7,fun _=>some true⟩,
 ⟨fun a σ=>.val (a.get 7) σ,some 4,fun _=>some true⟩]
def Aky:List COp:=Ry ()
def ZH(E:Env)(ro:Option Nat)(fn:FuncId):RunF:=(seqR (fops E ro Akx) (seqR (fops E ro Aky) retR))
theorem Ad6:fops E ro Akx a u σ=fops E ro (Rx ()) a u σ:=rfl
theorem Ad7:fops E ro Aky a u σ=fops E ro (Ry ()) a u σ:=rfl
theorem Aox(E:Env)(ro:Option Nat)(fn:FuncId):code Tryz.prog nls (Tryz.f227.body.getD .skip) E ro fn=ZH E ro fn:=by kernel_rfl
theorem AfJ(E:Env)(args:List Value)(u:Option FrameMode)(σ:FState)(hn:args.length≤(4:Nat)):fcall Tryz.prog nls E 227 args u σ=leaveR Tryz.prog E [.tmp 4] (ZH E none 227 ⟨padTo undef 4 args,fun _=>undef,4,8,[]⟩ u σ):=by
 rw[Al (body:=Tryz.f227.body.getD .skip) Tryz.func227 rfl E args u σ 4 8 (by kernel_rfl) rfl ⟨hn,by decide⟩,Aox]
 rfl
def Rz(_:Unit):List COp:=[⟨fun a σ=>.val (.int .i64 0) σ,some 4,fun _=>some true⟩]
def Akz:List COp:=Rz ()
def RA(_:Unit):List COp:=[⟨fun a σ=>.val (a.get 0) σ,some 5,fun _=>some true⟩,
 ⟨fun a σ=>.val (a.get 1) σ,some 6,fun _=>some true⟩,
 ⟨fun a σ=>.enter 229 [(a.get 5),(a.get 6)] σ,some 7,fun _=>some true⟩,
 ⟨fun a σ=>.val (a.get 7) σ,some 4,fun _=>some true⟩]
def AkA:List COp:=RA ()
def ZI(E:Env)(ro:Option Nat)(fn:FuncId):RunF:=(seqR (fops E ro Akz) (seqR (fops E ro AkA) retR))
theorem Ad8:fops E ro Akz a u σ=fops E ro (Rz ()) a u σ:=rfl
theorem Ad9:fops E ro AkA a u σ=fops E ro (RA ()) a u σ:=rfl
theorem Aoy(E:Env)(ro:Option Nat)(fn:FuncId):code Tryz.prog nls (Tryz.f228.body.getD .skip) E ro fn=ZI E ro fn:=by kernel_rfl
theorem AfK(E:Env)(args:List Value)(u:Option FrameMode)(σ:FState)(hn:args.length≤(4:Nat)):fcall Tryz.prog nls E 228 args u σ=leaveR Tryz.prog E [.tmp 4] (ZI E none 228 ⟨padTo undef 4 args,fun _=>undef,4,8,[]⟩ u σ):=by
 rw[Al (body:=Tryz.f228.body.getD .skip) Tryz.func228 rfl E args u σ 4 8 (by kernel_rfl) rfl ⟨hn,by decide⟩,Aoy]
 rfl
def Sa(_:Unit):List COp:=[⟨fun a σ=>.val (.int .i64 0) σ,some 2,fun _=>some true⟩,
 ⟨fun a σ=>.val (.int .i64 0) σ,some 3,fun _=>some true⟩]
def AsS:List COp:=Sa ()
def Sb(_:Unit):List COp:=[⟨fun a σ=>.val (a.get 0) σ,some 8,fun _=>some true⟩,
 ⟨fun a σ=>.enter 129 [(a.get 8)] σ,some 9,fun _=>some true⟩,
 ⟨fun a σ=>.val (a.get 9) σ,some 7,fun _=>some true⟩,
 ⟨fun a σ=>fextract 0 (a.get 7) σ,some 10,fun _=>some true⟩,
 ⟨fun a σ=>fextract 1 (a.get 7) σ,some 11,fun _=>some true⟩,
 ⟨fun a σ=>fextract 2 (a.get 7) σ,some 12,fun _=>some true⟩,
 ⟨fun a σ=>.val (a.get 10) σ,some 4,fun _=>some true⟩,
 ⟨fun a σ=>.val (a.get 11) σ,some 5,fun _=>some true⟩,
 ⟨fun a σ=>.val (a.get 12) σ,some 6,fun _=>some true⟩]
def AsT:List COp:=Sb ()
def Sc(_:Unit):List COp:=[⟨fun a σ=>.val (a.get 4) σ,some 13,fun _=>some true⟩,
 ⟨fun a σ=>.val (a.get 6) σ,some 14,fun _=>some true⟩,
 ⟨fun a σ=>.val (a.get 13) σ,some 2,fun _=>some true⟩,
 ⟨fun a σ=>.val (a.get 14) σ,some 3,fun _=>some true⟩]
def AsU:List COp:=Sc ()
def Abd(E:Env)(ro:Option Nat)(fn:FuncId):RunF:=(seqR (fops E ro AsS) (seqR (fops E ro AsT) (seqR (fops E ro AsU) retR)))
theorem Vf:fops E ro AsS a u σ=fops E ro (Sa ()) a u σ:=rfl
theorem Vg:fops E ro AsT a u σ=fops E ro (Sb ()) a u σ:=rfl
theorem Vh:fops E ro AsU a u σ=fops E ro (Sc ()) a u σ:=rfl
theorem AuQ(E:Env)(ro:Option Nat)(fn:FuncId):code Tryz.prog nls (Tryz.f79.body.getD .skip) E ro fn=Abd E ro fn:=by kernel_rfl
theorem Z9(E:Env)(args:List Value)(u:Option FrameMode)(σ:FState)(hn:args.length≤(7:Nat)):fcall Tryz.prog nls E 79 args u σ=leaveR Tryz.prog E [.tmp 2,.tmp 3] (Abd E none 79 ⟨padTo undef 7 args,fun _=>undef,7,15,[]⟩ u σ):=by
 rw[Al (body:=Tryz.f79.body.getD .skip) Tryz.func79 rfl E args u σ 7 15 (by kernel_rfl) rfl ⟨hn,by decide⟩,AuQ]
 rfl
def Kb(_:Unit):List COp:=[⟨fun a σ=>.val (.int .i64 0) σ,some 2,fun _=>some true⟩,
 ⟨fun a σ=>newCells [(.int .i64 0)] 3 none σ,some 3,fun _=>some true⟩,
 ⟨fun a σ=>newCells [(.int .i64 0)] 32 none σ,some 4,fun _=>some true⟩]
def Ahw:List COp:=Kb ()
def Kc(_:Unit):List COp:=[⟨fun a σ=>.val (.func (.func 157) #[] #[(a.get 3),(a.get 4)]) σ,some 5,fun _=>some true⟩,
 ⟨fun a σ=>fdefer (a.get 5) [] σ,none,fun _=>some true⟩]
def Ahx:List COp:=Kc ()
def Kd(_:Unit):List COp:=[⟨fun a σ=>.val (a.get 0) σ,some 6,fun _=>some true⟩,
 ⟨fun a σ=>fcallV (a.get 6) [] σ,some 7,fun _=>some true⟩,
 ⟨fun a σ=>.val (a.get 7) σ,some 2,fun _=>some true⟩,
 ⟨fun a σ=>fstore 1 (a.get 3) (.int .i64 0) σ,none,fun _=>some true⟩,
 ⟨fun a σ=>fstore 1 (a.get 4) (.int .i64 0) σ,none,fun _=>some true⟩]
def Ahy:List COp:=Kd ()
def SR(E:Env)(ro:Option Nat)(fn:FuncId):RunF:=(seqR (fops E ro Ahw) (seqR (fops E ro Ahx) (seqR (fops E ro Ahy) retR)))
theorem Ou:fops E ro Ahw a u σ=fops E ro (Kb ()) a u σ:=rfl
theorem Ov:fops E ro Ahx a u σ=fops E ro (Kc ()) a u σ:=rfl
theorem Ow:fops E ro Ahy a u σ=fops E ro (Kd ()) a u σ:=rfl
theorem An3(E:Env)(ro:Option Nat)(fn:FuncId):code Tryz.prog nls (Tryz.f129.body.getD .skip) E ro fn=SR E ro fn:=by kernel_rfl
theorem TE(E:Env)(args:List Value)(u:Option FrameMode)(σ:FState)(hn:args.length≤(5:Nat)):fcall Tryz.prog nls E 129 args u σ=leaveR Tryz.prog E [.tmp 2,.cell 3 3,.cell 4 32] (SR E none 129 ⟨padTo undef 5 args,fun _=>undef,5,8,[]⟩ u σ):=by
 rw[Al (body:=Tryz.f129.body.getD .skip) Tryz.func129 rfl E args u σ 5 8 (by kernel_rfl) rfl ⟨hn,by decide⟩,An3]
 rfl
def Kn(_:Unit):List COp:=[⟨fun a σ=>.recover σ,some 6,fun _=>some true⟩]
def AiJ:List COp:=Kn ()
def Ko(_:Unit):List COp:=[⟨fun a σ=>i_eql Tryz.prog 20 (.tmp 6) (.const .nilIface) (a.get 6) .nilIface σ,some 7,fun _=>some true⟩]
def AiK:List COp:=Ko ()
def QU(_:Unit):List COp:=[⟨fun a σ=>.val (a.get 6) σ,some 2,fun _=>some true⟩]
def AiL:List COp:=QU ()
def QV(_:Unit):List COp:=[⟨fun a σ=>fassert Tryz.prog (a.get 6) 176 true σ,some 8,fun _=>some true⟩,
 ⟨fun a σ=>fextract 1 (a.get 8) σ,some 9,fun _=>some true⟩,
 ⟨fun a σ=>fextract 0 (a.get 8) σ,some 10,fun _=>some true⟩]
def AiM:List COp:=QV ()
def QW(_:Unit):List COp:=[⟨fun a σ=>.val (a.get 10) σ,some 3,fun _=>some true⟩]
def AiN:List COp:=QW ()
def QX(_:Unit):List COp:=[⟨fun a σ=>.val (a.get 3) σ,some 11,fun _=>some true⟩,
 ⟨fun a σ=>.enter 148 [(a.get 11)] σ,some 12,fun _=>some true⟩,
 ⟨fun a σ=>newCells [(.int .i64 0),(.int .i64 0)] 178 none σ,some 4,fun _=>some true⟩,
 ⟨fun a σ=>fstore 2 (a.get 4) (a.get 12) σ,none,fun _=>some true⟩]
def AiO:List COp:=QX ()
def QY(_:Unit):List DOp:=[⟨fun a σ=>ffield 1 (a.get 4) σ,some 13,fun _=>some true,some 0,false⟩,
 ⟨fun a σ=>fload none (a.get 13) σ,some 14,fun _=>some true,some 0,false⟩,
 ⟨fun a σ=>fstore 1 (a.get 0) (a.get 14) σ,none,fun _=>some true,none,false⟩,
 ⟨fun a σ=>ffield 0 (a.get 4) σ,some 15,fun _=>some true,some 0,false⟩,
 ⟨fun a σ=>fload none (a.get 15) σ,some 16,fun _=>some true,some 0,false⟩,
 ⟨fun a σ=>fstore 1 (a.get 1) (a.get 16) σ,none,fun _=>some true,none,true⟩]
def AiP:List DOp:=QY ()
def ApW(_:Unit):List COp:=[⟨fun a σ=>.val (a.get 6) σ,some 5,fun _=>some true⟩]
def AvF:List COp:=ApW ()
def ApX(_:Unit):List COp:=[⟨fun a σ=>fstore 1 (a.get 1) (.int .i64 1) σ,none,fun _=>some true⟩]
def AvG:List COp:=ApX ()
def ST(E:Env)(ro:Option Nat)(fn:FuncId):RunF:=(seqR (fops E ro AiJ) (blockR 0 (seqR (fops E ro AiK) (condR (fun a=>(a.get 7)) (fops E ro AiL) (seqR (fops E ro AiM) (condR (fun a=>(a.get 9)) (seqR (fops E ro AiN) (seqR (fops E ro AiO) (drawR E ro AiP))) (seqR (fops E ro AvF) (fops E ro AvG))))))))
theorem OG:fops E ro AiJ a u σ=fops E ro (Kn ()) a u σ:=rfl
theorem OH:fops E ro AiK a u σ=fops E ro (Ko ()) a u σ:=rfl
theorem Adt:fops E ro AiL a u σ=fops E ro (QU ()) a u σ:=rfl
theorem Adu:fops E ro AiM a u σ=fops E ro (QV ()) a u σ:=rfl
theorem Adv:fops E ro AiN a u σ=fops E ro (QW ()) a u σ:=rfl
theorem Adw:fops E ro AiO a u σ=fops E ro (QX ()) a u σ:=rfl
theorem Adx:fdraw E ro last AiP cl a u σ=fdraw E ro last (QY ()) cl a u σ:=rfl
theorem Aoi(E:Env)(ro:Option Nat)(fn:FuncId):code Tryz.prog nls (Tryz.f157.body.getD .skip) E ro fn=ST E ro fn:=by kernel_rfl
theorem TG(E:Env)(args:List Value)(u:Option FrameMode)(σ:FState)(hn:args.length≤(6:Nat)):fcall Tryz.prog nls E 157 args u σ=leaveR Tryz.prog E [] (ST E none 157 ⟨padTo undef 6 args,fun _=>undef,6,17,[]⟩ u σ):=by
 rw[Al (body:=Tryz.f157.body.getD .skip) Tryz.func157 rfl E args u σ 6 17 (by kernel_rfl) rfl ⟨hn,by decide⟩,Aoi]
 rfl
end Go.Proofs.YtokieofohmgjdaaGreatDoor
namespace Go.Eng
open Go
def ordZ(a b:Int):Int:=if a<b then -1 else if a>b then 1 else 0
theorem BS{a b:Int}:ordZ a b=0↔a=b:=by
 unfold ordZ
 split
 ·omega
 ·split<;>omega
theorem Ew{a b:Int}:ordZ a b<0↔a<b:=by
 unfold ordZ
 split
 ·omega
 ·split<;>omega
theorem Ob(a b:Int):ordZ b a = - ordZ a b:=by
 unfold ordZ
 split<;>split<;>(try split)<;>omega
theorem Lq(a b:Int) : -1≤ordZ a b∧ordZ a b≤1:=by
 unfold ordZ
 split
 ·omega
 ·split<;>omega
abbrev cmpT(a b:ByteArray):Int:=Extern.BytealgCompare.cmp a b
def LtT(a b:ByteArray):Prop:=∃i,(∀j,j<i→a[j]! = b[j]!)∧i≤a.size∧i<b.size∧(i=a.size∨a[i]! < b[i]!)
theorem Dc(a b:ByteArray):(LtT a b∧cmpT a b = -1)∨(LtT b a∧cmpT a b=1)∨(a=b∧cmpT a b=0):=by
 unfold cmpT Extern.BytealgCompare.cmp
 cases h:(List.range (min a.size b.size)).find? fun i=>a[i]! != b[i]! with
 | some i=>
  rw[List.find?_range_eq_some] at h
  obtain⟨h1,h2,h3⟩:=h
  rw[List.mem_range] at h2
  have h3':∀j,j<i→a[j]! = b[j]!:=fun j hj=>by
   have:=h3 j hj
   simpa using this
  have h1':a[i]! ≠ b[i]!:=by simpa using h1
  simp only
  by_cases hl:a[i]! < b[i]!
  ·rw[if_pos hl]
   exact .inl ⟨⟨i,h3',by omega,by omega,.inr hl⟩,rfl⟩
  ·rw[if_neg hl]
   refine .inr (.inl ⟨⟨i,fun j hj=>(h3' j hj).symm,by omega,by omega,.inr ?_⟩,rfl⟩)
   rcases UInt8.lt_or_eq_of_le (UInt8.not_lt.1 hl) with h|h
   ·exact h
   ·exact absurd h.symm h1'
 | none=>
  rw[List.find?_eq_none] at h
  have h':∀j,j<min a.size b.size→a[j]! = b[j]!:=fun j hj=>by
   have:=h j (List.mem_range.2 hj)
   simpa using this
  simp only
  by_cases h1:a.size<b.size
  ·rw[if_pos h1]
   exact .inl ⟨⟨a.size,fun j hj=>h' j (by omega),Nat.le_refl _,h1,.inl rfl⟩,rfl⟩
  ·rw[if_neg h1]
   by_cases h2:a.size>b.size
   ·rw[if_pos h2]
    exact .inr (.inl ⟨⟨b.size,fun j hj=>(h' j (by omega)).symm,Nat.le_refl _,h2,.inl rfl⟩,rfl⟩)
   ·rw[if_neg h2]
    refine .inr (.inr ⟨?_,rfl⟩)
    apply ByteArray.ext
    apply Array.ext
    ·show a.size=b.size;omega
    ·intro i h3 h4
     have h5:i<a.size:=h3
     have h6:i<b.size:=h4
     have:=h' i (by omega)
     rw[getElem!_pos a i h5,getElem!_pos b i h6] at this
     exact this
theorem LtT.irrefl{a:ByteArray}(h:LtT a a):False:=by
 obtain⟨i,_,_,h2,h3⟩:=h
 rcases h3 with h3|h3
 ·omega
 ·exact UInt8.lt_irrefl _ h3
theorem LtT.trans{a b c:ByteArray}(h:LtT a b)(h':LtT b c):LtT a c:=by
 obtain⟨i,h1,h2,h3,h4⟩:=h
 obtain⟨k,k1,k2,k3,k4⟩:=h'
 by_cases hik:i<k
 ·refine⟨i,fun j hj=>(h1 j hj).trans (k1 j (by omega)),h2,by omega,?_⟩
  rw[←k1 i hik]
  exact h4
 ·by_cases hki:k<i
  ·refine⟨k,fun j hj=>(h1 j (by omega)).trans (k1 j hj),by omega,k3,?_⟩
   rcases k4 with k4|k4
   ·omega
   ·rw[h1 k hki]
    exact .inr k4
  ·obtain rfl:i=k:=by omega
   refine⟨i,fun j hj=>(h1 j hj).trans (k1 j hj),h2,k3,?_⟩
   rcases k4 with k4|k4
   ·omega
   ·rcases h4 with h4|h4
    ·exact .inl h4
    ·exact .inr (UInt8.lt_trans h4 k4)
theorem Tq{a b:ByteArray}:cmpT a b<0↔LtT a b:=by
 rcases Dc a b with⟨h,e⟩|⟨h,e⟩|⟨h,e⟩
 ·exact⟨fun _=>h,fun _=>by omega⟩
 ·exact⟨fun h'=>by omega,fun h'=>(h.trans h').irrefl.elim⟩
 ·subst h
  exact⟨fun h'=>by omega,fun h'=>h'.irrefl.elim⟩
theorem CI{a b:ByteArray}:cmpT a b=0↔a=b:=by
 rcases Dc a b with⟨h,e⟩|⟨h,e⟩|⟨h,e⟩
 ·exact⟨fun h'=>by omega,fun h'=>by subst h';exact h.irrefl.elim⟩
 ·exact⟨fun h'=>by omega,fun h'=>by subst h';exact h.irrefl.elim⟩
 ·exact⟨fun _=>h,fun _=>e⟩
theorem AbK(a b:ByteArray):cmpT b a = - cmpT a b:=by
 rcases Dc a b with⟨h,e⟩|⟨h,e⟩|⟨h,e⟩
 ·rcases Dc b a with⟨h',e'⟩|⟨h',e'⟩|⟨h',e'⟩
  ·exact(h.trans h').irrefl.elim
  ·omega
  ·subst h';exact h.irrefl.elim
 ·rcases Dc b a with⟨h',e'⟩|⟨h',e'⟩|⟨h',e'⟩
  ·omega
  ·exact(h.trans h').irrefl.elim
  ·subst h';exact h.irrefl.elim
 ·subst h
  omega
theorem KQ(a b:ByteArray) : -1≤cmpT a b∧cmpT a b≤1:=by
 rcases Dc a b with⟨_,e⟩|⟨_,e⟩|⟨_,e⟩<;>omega
def thenI(a b:Int):Int:=if a=0 then b else a
theorem Ff{a b:Int}:thenI a b=0↔a=0∧b=0:=by
 unfold thenI
 split<;>omega
theorem Fe(a b:Int):thenI (-a) (-b) = - thenI a b:=by
 unfold thenI
 split<;>split<;>omega
theorem En{a b:Int}(h : -1≤a∧a≤1)(h' : -1≤b∧b≤1) : -1≤thenI a b∧thenI a b≤1:=by
 unfold thenI
 split<;>omega
theorem Any{a b:Int}:thenI a b≤0↔a<0∨(a=0∧b≤0):=by
 unfold thenI
 split<;>omega
mutual
def ordU:D→D→Int
 | .mk k z t ds,.mk k' z' t' es=>thenI (ordZ k k') (thenI (ordZ z z') (thenI (cmpT t t') (ordUs ds es)))
def ordUs:List D→List D→Int
 | [],[]=>0
 | [],_::_ => -1
 | _::_,[]=>1
 | d::ds,e::es=>thenI (ordU d e) (ordUs ds es)
end
mutual
theorem DN:∀d e:D,ordU d e=0↔d=e
 | .mk k z t ds,.mk k' z' t' es=>by
  rw[ordU,Ff,Ff,Ff,BS,BS,CI,Dh ds es,D.mk.injEq]
theorem Dh:∀ds es:List D,ordUs ds es=0↔ds=es
 | [],[]=>by simp[ordUs]
 | [],_::_=>by simp[ordUs]
 | _::_,[]=>by simp[ordUs]
 | d::ds,e::es=>by rw[ordUs,Ff,DN d e,Dh ds es,List.cons.injEq]
end
mutual
theorem Oa:∀d e:D,ordU e d = - ordU d e
 | .mk k z t ds,.mk k' z' t' es=>by
  rw[ordU,ordU,Ob k k',Ob z z',AbK t t',Lp ds es,Fe,Fe,Fe]
theorem Lp:∀ds es:List D,ordUs es ds = - ordUs ds es
 | [],[]=>by simp[ordUs]
 | [],_::_=>by simp[ordUs]
 | _::_,[]=>by simp[ordUs]
 | d::ds,e::es=>by rw[ordUs,ordUs,Oa d e,Lp ds es,Fe]
end
mutual
theorem WP:∀d e:D,-1≤ordU d e∧ordU d e≤1
 | .mk k z t ds,.mk k' z' t' es=>by
  rw[ordU]
  exact En (Lq _ _) (En (Lq _ _) (En (KQ _ _) (JD ds es)))
theorem JD:∀ds es:List D,-1≤ordUs ds es∧ordUs ds es≤1
 | [],[]=>by simp[ordUs]
 | [],_::_=>by simp[ordUs]
 | _::_,[]=>by simp[ordUs]
 | d::ds,e::es=>by
  rw[ordUs]
  exact En (WP d e) (JD ds es)
end
theorem Fg{A B C a b c:Int}(h1:A<0→B<0→C<0)(h2:A<0→B=0→C<0)(h3:A=0→B<0→C<0)(h4:A=0→B=0→C=0)(h5:a≤0→b≤0→c≤0)(ha:thenI A a≤0)(hb:thenI B b≤0):thenI C c≤0:=by
 rw[Any] at *
 rcases ha with ha|⟨ha,ha'⟩<;>rcases hb with hb|⟨hb,hb'⟩
 ·exact .inl (h1 ha hb)
 ·exact .inl (h2 ha hb)
 ·exact .inl (h3 ha hb)
 ·exact .inr ⟨h4 ha hb,h5 ha' hb'⟩
mutual
theorem WQ:∀a b c:D,ordU a b≤0→ordU b c≤0→ordU a c≤0
 | .mk k1 z1 t1 d1,.mk k2 z2 t2 d2,.mk k3 z3 t3 d3=>by
  rw[ordU,ordU,ordU]
  refine Fg (fun h h'=>?_) (fun h h'=>?_) (fun h h'=>?_) (fun h h'=>?_) ?_
  ·rw[Ew] at *;omega
  ·rw[Ew] at *;rw[BS] at h';omega
  ·rw[Ew] at *;rw[BS] at h;omega
  ·rw[BS] at *;omega
  refine Fg (fun h h'=>?_) (fun h h'=>?_) (fun h h'=>?_) (fun h h'=>?_) ?_
  ·rw[Ew] at *;omega
  ·rw[Ew] at *;rw[BS] at h';omega
  ·rw[Ew] at *;rw[BS] at h;omega
  ·rw[BS] at *;omega
  refine Fg (fun h h'=>?_) (fun h h'=>?_) (fun h h'=>?_) (fun h h'=>?_) (JF d1 d2 d3)
  ·rw[Tq] at *;exact h.trans h'
  ·rw[CI] at h';subst h';exact h
  ·rw[CI] at h;subst h;exact h'
  ·rw[CI] at *;exact h.trans h'
theorem JF:∀a b c:List D,ordUs a b≤0→ordUs b c≤0→ordUs a c≤0
 | [],[],[]=>by simp[ordUs]
 | [],[],_::_=>by simp[ordUs]
 | [],_::_,[]=>by simp[ordUs]
 | [],_::_,_::_=>by simp[ordUs]
 | _::_,[],[]=>by simp[ordUs]
 | _::_,[],_::_=>by simp[ordUs]
 | _::_,_::_,[]=>by simp[ordUs]
 | a::ar,b::br,c::cr=>by
  rw[ordUs,ordUs,ordUs]
  have ht:=WQ a b c
  have hz:=DN
  refine Fg (fun h h'=>?_) (fun h h'=>?_) (fun h h'=>?_) (fun h h'=>?_) (JF ar br cr)
  ·have h1:=ht (by omega) (by omega)
   by_cases h0:ordU a c=0
   ·have e:=(hz a c).1 h0
    subst e
    have:=Oa a b
    omega
   ·omega
  ·rw[hz] at h';subst h';exact h
  ·rw[hz] at h;subst h;exact h'
  ·rw[hz] at *;exact h.trans h'
end
end Go.Eng
namespace Go.Proofs.YtokieofohmgjdaaGreatDoor
open Go Go.Eng
attribute [local congr] Ac Aj Ai Ad Ah
attribute [-go_sem] List.range_succ
def ordI(a b:Int):Int:=if a<b then -1 else if a>b then 1 else 0
theorem N_(a b:Int):ordI a b=0↔a=b:=by
 unfold ordI
 constructor
 ·intro h
  split at h
  ·omega
  ·split at h
   ·omega
   ·omega
 ·intro h
  rw[if_neg (by omega),if_neg (by omega)]
theorem Le(n:Nat)(a:Int)(σ:FState):(env (n+1)).call 160 [.int .i64 a] none σ=.ret (.bool false) none σ:=by
 rw[Ag _ 160 _ _ rfl,AfB _ _ _ _ (by simp),Af]
 unfold Zz
 have h:(a==a)=true:=by simp
 simp -implicitDefEqProofs only[go_sem,AdB,Q2,AdC,Q3,h]
theorem Iy(n:Nat)(a b:Int)(σ:FState):(env (n+2)).call 131 [.int .i64 a,.int .i64 b] none σ=.ret (.int .i64 (ordI a b)) none σ:=by
 rw[Ag _ 131 _ _ rfl,Afq _ _ _ _ (by simp),Af]
 unfold Zo ordI
 by_cases h1:a<b
 ·simp -implicitDefEqProofs only[go_sem,IP,HL,IQ,HN,IR,HO,IS,HP,IT,HQ,IU,HR,Xc,LD,Le,Ae,h1,decide_true]
 ·by_cases h2:a>b
  ·simp -implicitDefEqProofs only[go_sem,IP,HL,IQ,HN,IR,HO,IS,HP,IT,HQ,IU,HR,LE,HM,Xd,LF,Le,Ae,h1,h2,decide_true,decide_false]
  ·simp -implicitDefEqProofs only[go_sem,IP,HL,IQ,HN,IR,HO,IS,HP,IT,HQ,IU,HR,LE,HM,Xe,LG,Le,Ae,h1,h2,decide_true,decide_false]
theorem AbJ(n:Nat)(a b:ByteArray)(σ:FState):(env (n+1)).call 229 [.string a,.string b] none σ=.ret (.int .i64 (Extern.BytealgCompare.cmp a b)) none σ:=by
 rw[Ag _ 229 _ _ rfl]
 unfold fcall
 have h:(cfn Tryz.prog nls 229).un=none:=by kernel_rfl
 rw[h]
 show fextern Tryz.prog 229 [.string a,.string b] none σ=_
 unfold fextern
 have h2:prun Tryz.prog (callFunc 229 [Value.string a,.string b].toArray)=some (.ok (.value (.int .i64 (Extern.BytealgCompare.cmp a b)))):=by kernel_rfl
 rw[h2]
 rfl
theorem Wj(n:Nat)(a b:ByteArray)(σ:FState):(env (n+3)).call 227 [.string a,.string b] none σ=.ret (.int .i64 (Extern.BytealgCompare.cmp a b)) none σ:=by
 rw[Ag _ 227 _ _ rfl,AfJ _ _ _ _ (by simp),Af]
 unfold ZH
 have e:(env (n+2)).call 228 [.string a,.string b] none σ=.ret (.int .i64 (Extern.BytealgCompare.cmp a b)) none σ:=by
  rw[Ag _ 228 _ _ rfl,AfK _ _ _ _ (by simp),Af]
  unfold ZI
  simp -implicitDefEqProofs only[go_sem,Ad8,Rz,Ad9,RA,AbJ]
 simp -implicitDefEqProofs only[go_sem,Ad6,Rx,Ad7,Ry,e]
end Go.Proofs.YtokieofohmgjdaaGreatDoor
namespace Go.Proofs.YtokieofohmgjdaaGreatDoor
open Go Go.Eng
attribute [local congr] Ac Aj Ai Ad Ah
attribute [-go_sem] List.range_succ
def OrdR(d e:D)(r:Value):Prop:=r=.int .i64 (ordU d e)
theorem E0:∀(i:Nat) (ds es:List D),ds.take i=es.take i→i≤ds.length→i≤es.length→ordUs ds es=ordUs (ds.drop i) (es.drop i)
 | 0,ds,es,_,_,_=>rfl
 | i+1,d::ds,e::es,h,h1,h2=>by
  rw[List.take_succ_cons,List.take_succ_cons,List.cons.injEq] at h
  obtain⟨rfl,h⟩:=h
  rw[ordUs,thenI,if_pos ((DN d d).2 rfl),List.drop_succ_cons,List.drop_succ_cons]
  exact E0 i ds es h (by simpa using h1) (by simpa using h2)
 | i+1,[],es,_,h1,_=>by simp at h1
 | i+1,d::ds,[],_,_,h2=>by simp at h2
theorem UE{ds es:List D}{i:Nat}(h:ds.take i=es.take i)(h1:i<ds.length)(h2:i<es.length)(hne:ordU ds[i] es[i]≠0):ordUs ds es=ordU ds[i] es[i]:=by
 rw[E0 i ds es h (by omega) (by omega),List.drop_eq_getElem_cons h1,List.drop_eq_getElem_cons h2,ordUs,thenI,if_neg hne]
theorem Lo{ds es:List D}(h:ds.take es.length=es.take es.length)(h1:es.length<ds.length):ordUs ds es=1:=by
 rw[E0 es.length ds es h (by omega) (Nat.le_refl _),List.drop_eq_getElem_cons h1,List.drop_length,ordUs]
theorem JE{ds es:List D}(h:ds=es.take ds.length)(h1:ds.length<es.length):ordUs ds es = -1:=by
 rw[E0 ds.length ds es (by rw[List.take_length];exact h) (Nat.le_refl _) (by omega),List.drop_length,List.drop_eq_getElem_cons h1,ordUs]
theorem AnS(m:Nat)(R:Nat→Prop)(ds es:List D)(p p':Option Addr)(c c':Nat)(hds:ds.length<1000000)(hes:es.length<1000000)(hO:∀(i:Nat) (d e:D),ds[i]? = some d→es[i]? = some e→∀v w σ',Wf σ'→LaidR R σ' v d→LaidR R σ' w e→Gives ((env m).call 88 [v,w] none σ') σ' fun r _=>OrdR d e r):
  ∀(j fuel i:Nat) (f g:Nat→Value) (σ:FState),ds.length-i=j→j<fuel→i≤ds.length→i≤es.length→ds.take i=es.take i→Wf σ→LaidRE R σ p 0 ds→LaidRE R σ p' 0 es→
   f 0=.slice p ds.length c→f 1=.slice p' es.length c'→f 2=.func (.func 88) #[] #[]→g 11=.slice p ds.length c→g 12=.int .i64 (.ofNat ds.length)→g 13=.int .i64 (.ofNat i)→
   ∃f' g' σ',Ext σ σ'∧Wf σ'∧
    ((floop (keepOf nls 237) (IL (env m) none 237) fuel (Sl 11 39 f g []) none σ=.done .ret (Sl 11 39 f' g' []) none σ'∧f' 6=.int .i64 (ordUs ds es))∨
     (floop (keepOf nls 237) (IL (env m) none 237) fuel (Sl 11 39 f g []) none σ=.done (.exit 0) (Sl 11 39 f' g' []) none σ'∧f' 0=.slice p ds.length c∧f' 1=.slice p' es.length c'∧ds=es.take ds.length∧ds.length≤es.length)):=by
 intro j
 have hkeep:keepOf nls 237=[11,12,13,34,35,36,37,38]:=by kernel_rfl
 induction j with
 | zero=>
  intro fuel i f g σ hj hf hi hi' htk hw hE hE' f0 f1 f2 g11 g12 g13
  obtain⟨fuel,rfl⟩:∃q,fuel=q+1:=⟨fuel-1,by omega⟩
  obtain rfl:i=ds.length:=by omega
  have d0:decide (Int.ofNat ds.length<Int.ofNat ds.length)=false:=by simp
  rw[Am,hkeep]
  unfold IL
  simp -implicitDefEqProofs only[go_sem,List.mem_cons,true_or,false_or,GF,GE,g12,g13,d0]
  exact⟨_,_,_,Ext.refl _,hw,.inr ⟨rfl,f0,f1,by rw[List.take_length] at htk;exact htk,hi'⟩⟩
 | succ j ih=>
  intro fuel i f g σ hj hf hi hi' htk hw hE hE' f0 f1 f2 g11 g12 g13
  obtain⟨fuel,rfl⟩:∃q,fuel=q+1:=⟨fuel-1,by omega⟩
  have hlt:i<ds.length:=by omega
  have d0:decide (Int.ofNat i<Int.ofNat ds.length)=true:=by simp;omega
  have hd:ds[i]? = some ds[i]:=List.getElem?_eq_getElem hlt
  obtain⟨b,off,cs,rfl,hRb,hcs,hle,hL⟩:=LaidRE.get hE hd
  rw[Nat.zero_add] at hle hL
  obtain⟨l4,e4,hl4,ho4⟩:=hL.agg
  have e4':(cs.drop (off+i*4)).take 4=l4:=by
   have:=Value.agg.inj e4
   simpa using congrArg Array.toList this
  rw[e4'] at hL
  have tl4:l4.take 4=l4:=List.take_of_length_le (by omega)
  have x1:Ext σ ((σ.push (.cells [.int .i64 0,.int .i64 0,.string ⟨#[]⟩,.slice none 0 0] TD) none).put σ.next (.cells l4 TD) none):=((Ext.refl _).push _ _).put _ _ _ (Nat.le_refl _)
  have hw1:=(hw.push (.cells [.int .i64 0,.int .i64 0,.string ⟨#[]⟩,.slice none 0 0] TD) none).put σ.next (.cells l4 TD) none (Nat.lt_succ_self _)
  have b1:((σ.push (.cells [.int .i64 0,.int .i64 0,.string ⟨#[]⟩,.slice none 0 0] TD) none).put σ.next (.cells l4 TD) none).cells σ.next=some l4:=by rw[Ar,if_pos rfl];rfl
  have n1:((σ.push (.cells [.int .i64 0,.int .i64 0,.string ⟨#[]⟩,.slice none 0 0] TD) none).put σ.next (.cells l4 TD) none).next=σ.next+1:=rfl
  rw[Am,hkeep]
  unfold IL
  by_cases hc:i=es.length
  ·subst hc
   have d1:decide (Int.ofNat es.length≥Int.ofNat es.length)=true:=by simp
   simp -implicitDefEqProofs only[go_sem,Aw,List.mem_cons,true_or,false_or,GF,GE,I9,H_,I_,Ia,Aei,RK,f1,g11,g12,g13,d0,d1,hlt,hcs,hle,e4',hl4,ho4,Ae]
   refine⟨_,_,_,?_,?_,.inl ⟨rfl,by rw[Lo htk hlt];simp -implicitDefEqProofs only[go_sem,reduceCtorEq]⟩⟩
   ·exact x1
   ·exact hw1
  ·have hlt':i<es.length:=by omega
   have d1:decide (Int.ofNat i≥Int.ofNat es.length)=false:=by simp;omega
   have hd':es[i]? = some es[i]:=List.getElem?_eq_getElem hlt'
   obtain⟨b',off',cs',rfl,hRb',hcs',hle',hL'⟩:=LaidRE.get hE' hd'
   rw[Nat.zero_add] at hle' hL'
   obtain⟨m4,e5,hm4,hom4⟩:=hL'.agg
   have e5':(cs'.drop (off'+i*4)).take 4=m4:=by
    have:=Value.agg.inj e5
    simpa using congrArg Array.toList this
   rw[e5'] at hL'
   have tm4:m4.take 4=m4:=List.take_of_length_le (by omega)
   have x2:=(x1.push (.cells [.int .i64 0,.int .i64 0,.string ⟨#[]⟩,.slice none 0 0] TD) none).put (σ.next+1) (.cells m4 TD) none (by omega)
   have hw2:=(hw1.push (.cells [.int .i64 0,.int .i64 0,.string ⟨#[]⟩,.slice none 0 0] TD) none).put (σ.next+1) (.cells m4 TD) none (by rw[Aa,n1];omega)
   have b12:((((σ.push (.cells [.int .i64 0,.int .i64 0,.string ⟨#[]⟩,.slice none 0 0] TD) none).put σ.next (.cells l4 TD) none).push (.cells [.int .i64 0,.int .i64 0,.string ⟨#[]⟩,.slice none 0 0] TD) none).put (σ.next+1) (.cells m4 TD) none).cells σ.next=some l4:=by rw[Ar,if_neg (by omega),Ab,if_neg (by omega)];exact b1
   have b22:((((σ.push (.cells [.int .i64 0,.int .i64 0,.string ⟨#[]⟩,.slice none 0 0] TD) none).put σ.next (.cells l4 TD) none).push (.cells [.int .i64 0,.int .i64 0,.string ⟨#[]⟩,.slice none 0 0] TD) none).put (σ.next+1) (.cells m4 TD) none).cells (σ.next+1)=some m4:=by rw[Ar,if_pos rfl];rfl
   have hcs1:((σ.push (.cells [.int .i64 0,.int .i64 0,.string ⟨#[]⟩,.slice none 0 0] TD) none).put σ.next (.cells l4 TD) none).cells b'=some cs':=(x1.cells (hw.cells hcs')).trans hcs'
   have kR:∀(b:Nat) (cs:List Value),R b→σ.cells b=some cs→((((σ.push (.cells [.int .i64 0,.int .i64 0,.string ⟨#[]⟩,.slice none 0 0] TD) none).put σ.next (.cells l4 TD) none).push (.cells [.int .i64 0,.int .i64 0,.string ⟨#[]⟩,.slice none 0 0] TD) none).put (σ.next+1) (.cells m4 TD) none).cells b=some cs∧R b:=fun b cs hb hc=>⟨(x2.cells (hw.cells hc)).trans hc,hb⟩
   obtain⟨_,σ3,e3,x3,hw3,hr0⟩:=hO i ds[i] es[i] hd hd' _ _ _ hw2 (hL.keep kR) (hL'.keep kR)
   obtain⟨r,hr⟩:∃r,ordU ds[i] es[i]=r:=⟨_,rfl⟩
   unfold OrdR at hr0
   rw[hr] at hr0
   subst hr0
   by_cases hz:r=0
   ·subst hz
    have heq:=(DN _ _).1 hr
    have a1:=D4 i (by omega)
    have z0:((0:Int) != 0)=false:=rfl
    simp -implicitDefEqProofs only[go_sem,Aw,List.mem_cons,true_or,false_or,GF,GE,I9,H_,I_,Ia,OT,KA,OU,KB,OV,KC,Xr,LT,f1,f2,g11,g12,g13,d0,d1,hlt,hlt',hcs,hle,e4',hl4,ho4,tl4,hcs1,hle',e5',hm4,hom4,tm4,b12,b22,e3,z0,a1,Ae]
    generalize hff:upd _ 10 _=f2'
    generalize hgg:upd _ 13 _=g2'
    have ih':=ih fuel (i+1) f2' g2' σ3 (by omega) (by omega) (by omega) (by omega) (by rw[List.take_add_one,List.take_add_one,htk,hd,hd',heq]) hw3 (hE.keep fun b cs hb hc=>⟨(x3.cells ((hw2).cells (kR b cs hb hc).1)).trans (kR b cs hb hc).1,hb⟩) (hE'.keep fun b cs hb hc=>⟨(x3.cells ((hw2).cells (kR b cs hb hc).1)).trans (kR b cs hb hc).1,hb⟩)
     (by rw[←hff];simp -implicitDefEqProofs only[go_sem,reduceCtorEq,f0]) (by rw[←hff];simp -implicitDefEqProofs only[go_sem,reduceCtorEq,f1]) (by rw[←hff];simp -implicitDefEqProofs only[go_sem,reduceCtorEq,f2]) (by rw[←hgg];simp -implicitDefEqProofs only[go_sem,reduceCtorEq,List.mem_cons,true_or,false_or,g11]) (by rw[←hgg];simp -implicitDefEqProofs only[go_sem,reduceCtorEq,List.mem_cons,true_or,false_or,or_true,g12]) (by rw[←hgg];simp -implicitDefEqProofs only[go_sem,reduceCtorEq])
    rw[hkeep] at ih'
    unfold IL at ih'
    obtain⟨f3,g3,σ4,x4,hw4,h⟩:=ih'
    exact⟨f3,g3,σ4,(x2.trans x3).trans x4,hw4,h⟩
   ·have z0:(!(r==0))=true:=by simpa using hz
    have z1:(r==0)=false:=by simpa using hz
    simp -implicitDefEqProofs only[go_sem,Aw,List.mem_cons,true_or,false_or,GF,GE,I9,H_,I_,Ia,OT,KA,OU,KB,OV,KC,Aej,RL,f1,f2,g11,g12,g13,d0,d1,hlt,hlt',hcs,hle,e4',hl4,ho4,tl4,hcs1,hle',e5',hm4,hom4,tm4,b12,b22,e3,z0,z1,Ae]
    refine⟨_,_,_,x2.trans x3,hw3,.inl ⟨rfl,by rw[UE htk hlt hlt' (by rw[hr];exact hz),hr];simp -implicitDefEqProofs only[go_sem,reduceCtorEq]⟩⟩
theorem Awg(m:Nat)(R:Nat→Prop)(ds es:List D)(p p':Option Addr)(c c':Nat)(hds:ds.length<1000000)(hes:es.length<1000000)(σ:FState)(hw:Wf σ)(hE:LaidRE R σ p 0 ds)(hE':LaidRE R σ p' 0 es)(hO:∀(i:Nat) (d e:D),ds[i]? = some d→es[i]? = some e→∀v w σ',Wf σ'→LaidR R σ' v d→LaidR R σ' w e→Gives ((env m).call 88 [v,w] none σ') σ' fun r _=>OrdR d e r):
  Gives ((env (m+1)).call 237 [.slice p ds.length c,.slice p' es.length c',.func (.func 88) #[] #[]] none σ) σ fun r _=>r=.int .i64 (ordUs ds es):=by
 rw[Ag _ 237 _ _ rfl,AfO _ _ _ _ (by simp),Af]
 unfold ZM
 simp -implicitDefEqProofs only[go_sem,Aeg,RI,Aeh,RJ]
 generalize hbf:bigFuel=fuel
 generalize hff:upd _ 6 _=f1
 generalize hgg:upd _ 13 _=g1
 obtain⟨f',g',σ',x1,hw1,h⟩:=AnS m R ds es p p' c c' hds hes hO ds.length fuel 0 f1 g1 σ (by omega) (by rw[←hbf];show ds.length<1000000000000;omega) (by omega) (by omega) rfl hw hE hE'
  (by rw[←hff];simp -implicitDefEqProofs only[go_sem,reduceCtorEq]) (by rw[←hff];simp -implicitDefEqProofs only[go_sem,reduceCtorEq]) (by rw[←hff];simp -implicitDefEqProofs only[go_sem,reduceCtorEq]) (by rw[←hgg];simp -implicitDefEqProofs only[go_sem,reduceCtorEq]) (by rw[←hgg];simp -implicitDefEqProofs only[go_sem,reduceCtorEq]) (by rw[←hgg];simp -implicitDefEqProofs only[go_sem,reduceCtorEq]<;>rfl)
 rcases h with⟨e,h6⟩|⟨e,h0,h1,htk,hle⟩
 ·rw[e]
  simp -implicitDefEqProofs only[go_sem,h6]
  exact⟨_,_,rfl,x1,hw1,rfl⟩
 ·rw[e]
  by_cases hlt:ds.length<es.length
  ·have d0:decide (Int.ofNat ds.length<Int.ofNat es.length)=true:=by simp;omega
   simp -implicitDefEqProofs only[go_sem,LU,H9,Xs,LV,h0,h1,d0]
   exact⟨_,_,rfl,x1,hw1,by rw[JE htk hlt]⟩
  ·have d0:decide (Int.ofNat ds.length<Int.ofNat es.length)=false:=by simp;omega
   simp -implicitDefEqProofs only[go_sem,LU,H9,Xt,LW,Ae,h0,h1,d0]
   refine⟨_,_,rfl,x1,hw1,?_⟩
   rw[(Dh ds es).2 (by rw[htk,List.take_of_length_le (by omega)])]
end Go.Proofs.YtokieofohmgjdaaGreatDoor
namespace Go.Proofs.YtokieofohmgjdaaGreatDoor
open Go Go.Eng
attribute [local congr] Ac Aj Ai Ad Ah
attribute [-go_sem] List.range_succ
theorem Agp(v w:Value)(σ:FState):finvoke Tryz.prog (.iface 187 v) "caracole/datum.order" [w] σ=.enter 234 [v,w] σ:=by kernel_rfl
theorem Acv(v w:Value)(σ:FState):finvoke Tryz.prog (.iface 184 v) "caracole/datum.order" [w] σ=.enter 232 [v,w] σ:=by kernel_rfl
theorem ApE(v w:Value)(σ:FState):finvoke Tryz.prog (.iface 151 v) "caracole/datum.order" [w] σ=.enter 226 [v,w] σ:=by kernel_rfl
theorem Acu(v w:Value)(σ:FState):finvoke Tryz.prog (.iface 188 v) "caracole/datum.order" [w] σ=.enter 236 [v,w] σ:=by kernel_rfl
section
variable (k z k' z':Int) (t t':ByteArray) (p p':Option Addr) (l l' c c':Nat) (σ:FState) (hw:Wf σ)
include hw
theorem ApB(n:Nat):Gives ((env (n+1)).call 234 [.agg #[.int .i64 k,.int .i64 z,.string t,.slice p l c],.agg #[.int .i64 k',.int .i64 z',.string t',.slice p' l' c']] none σ) σ fun r _=>r=.int .i64 0:=by
 rw[Ag _ 234 _ _ rfl,AfM _ _ _ _ (by simp),Af]
 unfold ZK
 simp -implicitDefEqProofs only[go_sem,Aec,RE,Aed,RF]
 exact⟨_,_,rfl,((Ext.refl _).push _ _).push _ _,(hw.push _ _).push _ _,rfl⟩
theorem ApC(n:Nat):Gives ((env (n+3)).call 232 [.agg #[.int .i64 k,.int .i64 z,.string t,.slice p l c],.agg #[.int .i64 k',.int .i64 z',.string t',.slice p' l' c']] none σ) σ fun r _=>r=.int .i64 (ordI z z'):=by
 rw[Ag _ 232 _ _ rfl,AfL _ _ _ _ (by simp),Af]
 unfold ZJ
 simp -implicitDefEqProofs only[go_sem,Aea,RC,Aeb,RD,Iy]
 exact⟨_,_,rfl,((Ext.refl _).push _ _).push _ _,(hw.push _ _).push _ _,rfl⟩
theorem ApD(n:Nat):Gives ((env (n+4)).call 226 [.agg #[.int .i64 k,.int .i64 z,.string t,.slice p l c],.agg #[.int .i64 k',.int .i64 z',.string t',.slice p' l' c']] none σ) σ fun r _=>r=.int .i64 (Extern.BytealgCompare.cmp t t'):=by
 rw[Ag _ 226 _ _ rfl,AfI _ _ _ _ (by simp),Af]
 unfold ZG
 simp -implicitDefEqProofs only[go_sem,Ad4,Rv,Ad5,Rw,Wj]
 exact⟨_,_,rfl,((Ext.refl _).push _ _).push _ _,(hw.push _ _).push _ _,rfl⟩
end
theorem ApA(m:Nat)(R:Nat→Prop)(ds es:List D)(k z k' z':Int)(t t':ByteArray)(p p':Option Addr)(c c':Nat)(hds:ds.length<1000000)(hes:es.length<1000000)(σ:FState)(hw:Wf σ)(hE:LaidRE R σ p 0 ds)(hE':LaidRE R σ p' 0 es)(hO:∀(i:Nat) (d e:D),ds[i]? = some d→es[i]? = some e→∀v w σ',Wf σ'→LaidR R σ' v d→LaidR R σ' w e→Gives ((env m).call 88 [v,w] none σ') σ' fun r _=>OrdR d e r):
  Gives ((env (m+2)).call 236 [.agg #[.int .i64 k,.int .i64 z,.string t,.slice p ds.length c],.agg #[.int .i64 k',.int .i64 z',.string t',.slice p' es.length c']] none σ) σ fun r _=>r=.int .i64 (ordUs ds es):=by
 rw[Ag _ 236 _ _ rfl,AfN _ _ _ _ (by simp),Af]
 unfold ZL
 have x1:∀o o':FObj,Ext σ ((σ.push o none).push o' none):=fun o o'=>((Ext.refl _).push _ _).push _ _
 have hw1:∀o o':FObj,Wf ((σ.push o none).push o' none):=fun o o'=>(hw.push _ _).push _ _
 obtain⟨_,σ2,e2,x2,hw2,rfl⟩:=Awg m R ds es p p' c c' hds hes _ (hw1 (.cells [.int .i64 k,.int .i64 z,.string t,.slice p ds.length c] 188) (.cells [.int .i64 k',.int .i64 z',.string t',.slice p' es.length c'] TD)) (hE.keep fun b cs hb hc=>⟨((x1 _ _).cells (hw.cells hc)).trans hc,hb⟩) (hE'.keep fun b cs hb hc=>⟨((x1 _ _).cells (hw.cells hc)).trans hc,hb⟩) hO
 simp -implicitDefEqProofs only[go_sem,Aee,RG,Aef,RH,e2]
 exact⟨_,_,rfl,(x1 _ _).trans x2,hw2,rfl⟩
end Go.Proofs.YtokieofohmgjdaaGreatDoor
namespace Go.Proofs.YtokieofohmgjdaaGreatDoor
open Go Go.Eng
attribute [local congr] Ac Aj Ai Ad Ah
attribute [-go_sem] List.range_succ
theorem E1(M kn:Nat)(hk:kn≤6)(X:Nat)(hinv:∀v w σ,finvoke Tryz.prog (.iface (workType kn) v) "caracole/datum.order" [w] σ=.enter X [v,w] σ)(z z':Int)(t t':ByteArray)(p p':Option Addr)(l l' c c':Nat)(σ:FState)(hw:Wf σ)(Q:Int→Prop)(hX:∀σ',Ext σ σ'→Wf σ'→Gives ((env (M+2)).call X [.agg #[.int .i64 (kn:Int),.int .i64 z,.string t,.slice p l c],.agg #[.int .i64 (kn:Int),.int .i64 z',.string t',.slice p' l' c']] none σ') σ' fun r _=>∃x:Int,r=.int .i64 x∧Q x):
  Gives ((env (M+3)).call 88 [.agg #[.int .i64 (kn:Int),.int .i64 z,.string t,.slice p l c],.agg #[.int .i64 (kn:Int),.int .i64 z',.string t',.slice p' l' c']] none σ) σ fun r _=>∃x:Int,r=.int .i64 x∧Q x:=by
 rw[Ag _ 88 _ _ rfl,Aad _ _ _ _ (by simp),Af]
 unfold Abi
 have x1:Ext σ ((σ.push (.cells [.int .i64 (kn:Int),.int .i64 z,.string t,.slice p l c] TD) none).push (.cells [.int .i64 (kn:Int),.int .i64 z',.string t',.slice p' l' c'] TD) none):=((Ext.refl _).push _ _).push _ _
 have hw1:=(hw.push (.cells [.int .i64 (kn:Int),.int .i64 z,.string t,.slice p l c] TD) none).push (.cells [.int .i64 (kn:Int),.int .i64 z',.string t',.slice p' l' c'] TD) none
 have c1:((σ.push (.cells [.int .i64 (kn:Int),.int .i64 z,.string t,.slice p l c] TD) none).push (.cells [.int .i64 (kn:Int),.int .i64 z',.string t',.slice p' l' c'] TD) none).cells σ.next=some [.int .i64 (kn:Int),.int .i64 z,.string t,.slice p l c]:=by rw[Ab,if_neg (by rw[Aa];omega),Ab,if_pos rfl];rfl
 have c2:((σ.push (.cells [.int .i64 (kn:Int),.int .i64 z,.string t,.slice p l c] TD) none).push (.cells [.int .i64 (kn:Int),.int .i64 z',.string t',.slice p' l' c'] TD) none).cells (σ.next+1)=some [.int .i64 (kn:Int),.int .i64 z',.string t',.slice p' l' c']:=by rw[Ab,if_pos (by rw[Aa])];rfl
 have n1:((σ.push (.cells [.int .i64 (kn:Int),.int .i64 z,.string t,.slice p l c] TD) none).push (.cells [.int .i64 (kn:Int),.int .i64 z',.string t',.slice p' l' c'] TD) none).next=σ.next+2:=rfl
 simp -implicitDefEqProofs only[go_sem,Vu,Sr]
 generalize FState.push _ _ _=σ1 at x1 hw1 c1 c2 n1 ⊢
 obtain⟨_,σ2,e2,x2,hw2,rfl⟩:=Da (M+1) kn hk z t (.slice p l c) rfl σ1 hw1
 obtain⟨_,σ3,e3,x3,hw3,x,rfl,hx⟩:=hX σ2 (x1.trans x2) hw2
 have o0:ordI (kn:Int) (kn:Int)=0:=(N_ _ _).2 rfl
 have hv1:=BQ hw1 (Nat.le_refl σ1.clock)
 have hv2:(view σ2 σ1.clock).cells (σ.next+1)=some [.int .i64 (kn:Int),.int .i64 z',.string t',.slice p' l' c']:=DA hw1 (Nat.le_refl _) (x2.get _ (by omega)) c2
 have ib:((0:Int)==0)=true:=rfl
 simp -implicitDefEqProofs only[go_sem,Vv,Ss,Vw,Su,Amu,YM,Iy,o0,c1,c2,hv1,hv2,e2,hinv,e3,ib,Ae]
 exact⟨_,_,rfl,(x1.trans x2).trans x3,hw3,x,rfl,hx⟩
theorem UF(M:Nat)(k k' z z':Int)(t t':ByteArray)(p p':Option Addr)(l l' c c':Nat)(σ:FState)(hw:Wf σ)(hne:k≠k'):
  Gives ((env (M+3)).call 88 [.agg #[.int .i64 k,.int .i64 z,.string t,.slice p l c],.agg #[.int .i64 k',.int .i64 z',.string t',.slice p' l' c']] none σ) σ fun r _=>r=.int .i64 (ordI k k'):=by
 rw[Ag _ 88 _ _ rfl,Aad _ _ _ _ (by simp),Af]
 unfold Abi
 have o0:ordI k k'≠0:=fun h=>hne ((N_ _ _).1 h)
 have ib:(ordI k k'==0)=false:=by simpa using o0
 simp -implicitDefEqProofs only[go_sem,Vu,Sr,Vv,Ss,Vw,Su,Amt,YL,Iy,ib]
 exact⟨_,_,rfl,((Ext.refl _).push _ _).push _ _,(hw.push _ _).push _ _,rfl⟩
theorem Hf(a:Int):thenI a 0=a:=by
 unfold thenI
 split<;>omega
theorem WO(k z:Int)(t:ByteArray)(ds es:List D):ordU (.mk k z t ds) (.mk k z t es)=ordUs ds es:=by
 rw[ordU,thenI,if_pos (BS.2 rfl),thenI,if_pos (BS.2 rfl),thenI,if_pos (CI.2 rfl)]
theorem Agq(k z z':Int)(t:ByteArray)(ds:List D):ordU (.mk k z t ds) (.mk k z' t ds)=ordI z z':=by
 rw[ordU,thenI,if_pos (BS.2 rfl),(Dh ds ds).2 rfl,CI.2 rfl,Hf,Hf]
 rfl
theorem Acx(k z:Int)(t t':ByteArray)(ds:List D):ordU (.mk k z t ds) (.mk k z t' ds)=Extern.BytealgCompare.cmp t t':=by
 rw[ordU,thenI,if_pos (BS.2 rfl),thenI,if_pos (BS.2 rfl),(Dh ds ds).2 rfl,Hf]
theorem Acw{k k':Int}(h:k≠k')(z z':Int)(t t':ByteArray)(ds es:List D):ordU (.mk k z t ds) (.mk k' z' t' es)=ordI k k':=by
 rw[ordU,thenI,if_neg (fun h'=>h (BS.1 h'))]
 rfl
theorem CK(path:List Nat):∀(ds:List D) (j i:Nat) (d:D),ds[i]? = some d→∀x∈d.pieces (path++[j+i]),x∈D.piecesL path j ds
 | [],j,i,d,h=>by simp at h
 | d0::ds,j,0,d,h=>fun x hx=>by
  cases h
  rw[D.piecesL]
  exact List.mem_append_left _ hx
 | d0::ds,j,i+1,d,h=>fun x hx=>by
  rw[D.piecesL]
  exact List.mem_append_right _ (CK path ds (j+1) i d h x (by rw[show j+1+i=j+(i+1) by omega];exact hx))
theorem Agr(m n:Nat)(R:Nat→Prop):∀(N:Nat) (d e:D) (pd pe:List Nat) (v w:Value) (σ:FState),d.deep≤N→(∀x∈d.pieces pd,x.2.parts.length≤900∧GoodD m x.2)→(∀x∈e.pieces pe,x.2.parts.length≤900∧GoodD m x.2)→Wf σ→LaidR R σ v d→LaidR R σ w e→
  Gives ((env (n+6+3*N)).call 88 [v,w] none σ) σ fun r _=>OrdR d e r:=by
 intro N
 induction N with
 | zero=>
  intro d e pd pe v w σ hN
  obtain⟨k,z,t,ds⟩:=d
  rw[D.deep] at hN
  omega
 | succ N ih=>
  intro d e pd pe v w σ hN hd he hw hL hLe
  obtain⟨k,z,t,ds⟩:=d
  obtain⟨k',z',t',es⟩:=e
  have hd0:=hd _ (by rw[D.pieces_eq];exact List.mem_cons_self)
  have he0:=he _ (by rw[D.pieces_eq];exact List.mem_cons_self)
  obtain⟨kn,rfl,hG⟩:=hd0.2 k z t ds rfl
  obtain⟨kn',rfl,hG'⟩:=he0.2 k' z' t' es rfl
  obtain⟨p,c,rfl,hE⟩:=hL
  obtain⟨p',c',rfl,hE'⟩:=hLe
  have hM:n+6+3*(N+1)=(n+6+3*N)+3:=by omega
  rw[hM]
  have hl3:ds.length≤900:=hd0.1
  have hl3':es.length≤900:=he0.1
  by_cases hk:kn=kn'
  ·subst hk
   have fin:∀ {d e:D} {r:CRes} {τ:FState},Gives r τ (fun r _=>∃x:Int,r=.int .i64 x∧x=ordU d e)→Gives r τ (fun r _=>OrdR d e r):=fun ⟨v,τ',h1,h2,h3,x,h4,h5⟩=>⟨v,τ',h1,h2,h3,by rw[h4,h5];rfl⟩
   have branch:∀(hb:workType kn=workType 5) (hk6:kn≤6) (hz:z=0) (hz':z'=0) (ht:t=⟨#[]⟩) (ht':t'=⟨#[]⟩),
     Gives ((env ((n+6+3*N)+3)).call 88 [.agg #[.int .i64 (kn:Int),.int .i64 z,.string t,.slice p ds.length c],.agg #[.int .i64 (kn:Int),.int .i64 z',.string t',.slice p' es.length c']] none σ) σ fun r _=>OrdR (.mk kn z t ds) (.mk kn z' t' es) r:=fun hb hk6 hz hz' ht ht'=>by
    subst hz hz' ht ht'
    refine fin (E1 (n+6+3*N) kn hk6 236 (fun v w σ=>by rw[hb];exact Acu v w σ) _ _ _ _ p p' _ _ c c' σ hw (fun x=>x=ordU (.mk kn 0 ⟨#[]⟩ ds) (.mk kn 0 ⟨#[]⟩ es)) fun σ' hX hw'=>(fun ⟨v,τ',h1,h2,h3,h4⟩=>⟨v,τ',h1,h2,h3,_,h4,(WO _ _ _ _ _).symm⟩) (ApA (n+6+3*N) R ds es _ _ _ _ _ _ p p' c c' (by omega) (by omega) σ' hw' (hE.keep fun b cs hb hc=>⟨(hX.cells (hw.cells hc)).trans hc,hb⟩) (hE'.keep fun b cs hb hc=>⟨(hX.cells (hw.cells hc)).trans hc,hb⟩)
     fun i d e hd' he' v w σ2 hw2 hl hl'=>ih d e (pd++[0+i]) (pe++[0+i]) v w σ2 (by rw[D.deep] at hN;have:=Ci (List.mem_of_getElem? hd');omega) (fun x hx=>hd x (by rw[D.pieces_eq];exact List.mem_cons_of_mem _ (CK pd ds 0 i d hd' x hx))) (fun x hx=>he x (by rw[D.pieces_eq];exact List.mem_cons_of_mem _ (CK pe es 0 i e he' x hx))) hw2 hl hl'))
   obtain⟨ln,hln⟩:∃ln,ds.length=ln:=⟨_,rfl⟩
   obtain⟨ln',hln'⟩:∃ln,es.length=ln:=⟨_,rfl⟩
   rw[hln] at hG
   rw[hln'] at hG'
   have num:∀(hb:workType kn=workType 1) (hk6:kn≤6) (ht:t=t') (hds:ds=es),Gives ((env ((n+6+3*N)+3)).call 88 [.agg #[.int .i64 (kn:Int),.int .i64 z,.string t,.slice p ds.length c],.agg #[.int .i64 (kn:Int),.int .i64 z',.string t',.slice p' es.length c']] none σ) σ fun r _=>OrdR (.mk kn z t ds) (.mk kn z' t' es) r:=fun hb hk6 ht hds=>by
    subst ht hds
    refine fin (E1 (n+6+3*N) kn hk6 232 (fun v w σ=>by rw[hb];exact Acv v w σ) _ _ _ _ p p' _ _ c c' σ hw (fun x=>x=ordU (.mk kn z t ds) (.mk kn z' t ds)) fun σ' hX hw'=>by
     obtain⟨v,τ,h1,h2,h3,h4⟩:=ApC _ _ _ _ _ _ p p' _ _ c c' σ' hw' (n+5+3*N)
     have e:n+5+3*N+3=n+6+3*N+2:=by omega
     rw[e] at h1
     exact⟨v,τ,h1,h2,h3,_,h4,(Agq _ _ _ _ _).symm⟩)
   have emp:∀(hb:workType kn=workType 0) (hk6:kn≤6) (hz:z=z') (ht:t=t') (hds:ds=es),Gives ((env ((n+6+3*N)+3)).call 88 [.agg #[.int .i64 (kn:Int),.int .i64 z,.string t,.slice p ds.length c],.agg #[.int .i64 (kn:Int),.int .i64 z',.string t',.slice p' es.length c']] none σ) σ fun r _=>OrdR (.mk kn z t ds) (.mk kn z' t' es) r:=fun hb hk6 hz ht hds=>by
    subst hz ht hds
    refine fin (E1 (n+6+3*N) kn hk6 234 (fun v w σ=>by rw[hb];exact Agp v w σ) _ _ _ _ p p' _ _ c c' σ hw (fun x=>x=ordU (.mk kn z t ds) (.mk kn z t ds)) fun σ' hX hw'=>by
     obtain⟨v,τ,h1,h2,h3,h4⟩:=ApB _ _ _ _ _ _ p p' _ _ c c' σ' hw' (n+7+3*N)
     have e:n+7+3*N+1=n+6+3*N+2:=by omega
     rw[e] at h1
     exact⟨v,τ,h1,h2,h3,0,h4,((DN _ _).2 rfl).symm⟩)
   have txt:∀(hb:workType kn=workType 3) (hk6:kn≤6) (hz:z=z') (hds:ds=es),Gives ((env ((n+6+3*N)+3)).call 88 [.agg #[.int .i64 (kn:Int),.int .i64 z,.string t,.slice p ds.length c],.agg #[.int .i64 (kn:Int),.int .i64 z',.string t',.slice p' es.length c']] none σ) σ fun r _=>OrdR (.mk kn z t ds) (.mk kn z' t' es) r:=fun hb hk6 hz hds=>by
    subst hz hds
    refine fin (E1 (n+6+3*N) kn hk6 226 (fun v w σ=>by rw[hb];exact ApE v w σ) _ _ _ _ p p' _ _ c c' σ hw (fun x=>x=ordU (.mk kn z t ds) (.mk kn z t' ds)) fun σ' hX hw'=>by
     obtain⟨v,τ,h1,h2,h3,h4⟩:=ApD _ _ _ _ _ _ p p' _ _ c c' σ' hw' (n+4+3*N)
     have e:n+4+3*N+4=n+6+3*N+2:=by omega
     rw[e] at h1
     exact⟨v,τ,h1,h2,h3,_,h4,(Acx _ _ _ _ _).symm⟩)
   cases hG with
   | nil=>
    cases hG' with
    | nil=>
     exact emp rfl (by omega) rfl rfl (by rw[List.length_eq_zero_iff.1 hln,List.length_eq_zero_iff.1 hln'])
   | bool z h=>
    cases hG' with
    | bool z' h'=>exact num rfl (by omega) rfl (by rw[List.length_eq_zero_iff.1 hln,List.length_eq_zero_iff.1 hln'])
   | num z h=>
    cases hG' with
    | num z' h'=>exact num rfl (by omega) rfl (by rw[List.length_eq_zero_iff.1 hln,List.length_eq_zero_iff.1 hln'])
   | sym t h=>
    cases hG' with
    | sym t' h'=>exact txt rfl (by omega) rfl (by rw[List.length_eq_zero_iff.1 hln,List.length_eq_zero_iff.1 hln'])
   | str t hs h=>
    cases hG' with
    | str t' hs' h'=>exact txt rfl (by omega) rfl (by rw[List.length_eq_zero_iff.1 hln,List.length_eq_zero_iff.1 hln'])
   | pair=>
    cases hG' with
    | pair=>exact branch rfl (by omega) rfl rfl rfl rfl
   | vec l=>
    cases hG' with
    | vec l'=>exact branch rfl (by omega) rfl rfl rfl rfl
  ·obtain⟨v,σ',h1,h2,h3,h4⟩:=UF (n+6+3*N) (kn:Int) (kn':Int) z z' t t' p p' ds.length es.length c c' σ hw (by omega)
   exact⟨v,σ',h1,h2,h3,by rw[h4];unfold OrdR;rw[Acw (by omega)]⟩
end Go.Proofs.YtokieofohmgjdaaGreatDoor
namespace Go.Proofs.YtokieofohmgjdaaGreatDoor
open Go Go.Eng
attribute [local congr] Ac Aj Ai Ad Ah
attribute [-go_sem] List.range_succ
theorem Tz(n:Nat)(p q:Value)(σ:FState):(env (n+1)).call 157 [p,q] (some .returning) σ=.ret (.tuple #[]) (some .returning) σ:=by
 rw[FW,TG _ _ _ _ (by simp),Af]
 unfold ST
 simp -implicitDefEqProofs only[go_sem,OG,Kn,OH,Ko,Adt,QU,Agk]
theorem AnQ(n w:Nat)(cap:Array Value){Q:Nat→Value→FState→Prop}(hQ:Stays Q)(hone:∀base v σ,Q base v σ→oneCell v=true∧notTuple v=true∧valCells v=[v])(σ:FState)(hw:Wf σ)(h:∀σ',Ext σ σ'→Wf σ'→Gives ((env (n+1)).call w cap.toList none σ') σ' (Q σ'.next)):
  Gives ((env (n+2)).call 129 [.func (.func w) #[] cap] none σ) σ fun v σ'=>∃u,v=.tuple #[u,.int .i64 0,.int .i64 0]∧Q σ.next u σ':=by
 rw[Ag _ 129 _ _ rfl,TE _ _ _ _ (by simp),Af]
 unfold SR
 have hX1:Ext σ ((σ.push (.cells [.int .i64 0] 3) none).push (.cells [.int .i64 0] 32) none):=((Ext.refl _).push _ _).push _ _
 have hw1:=(hw.push (.cells [.int .i64 0] 3) none).push (.cells [.int .i64 0] 32) none
 obtain⟨u,σ2,e2,hX2,hw2,hq⟩:=h _ hX1 hw1
 have g1:σ2.heap.get σ.next=_:=(hX2.get σ.next (by simp only[Aa];omega)).trans (by simp -implicitDefEqProofs only[Ak,Aa,Nat.add_assoc,Nat.reduceAdd,Nat.left_eq_add,reduceCtorEq,↓reduceIte,Nat.reduceEqDiff]<;>rfl)
 have g2:σ2.heap.get (σ.next+1)=_:=(hX2.get (σ.next+1) (by simp only[Aa];omega)).trans (by simp -implicitDefEqProofs only[Ak,Aa,Nat.add_assoc,Nat.reduceAdd,Nat.add_left_cancel_iff,reduceCtorEq,↓reduceIte,Nat.reduceEqDiff]<;>rfl)
 obtain⟨o1,o2,o3⟩:=hone _ _ _ hq
 simp -implicitDefEqProofs only[go_sem,Ou,Kb,Ov,Kc,Ow,Kd,e2,g1,g2,Pa,Fq,Tz,AX,AJ,AI,BU,Bt,o1,o2,o3]
 have m1:=(hw2 _ _ g1).1
 have m2:=(hw2 _ _ g2).1
 exact⟨_,_,rfl,((hX1.trans hX2).put _ _ _ (Nat.le_refl _)).put _ _ _ (Nat.le_add_right _ _),(hw2.put _ _ _ m1).put _ _ _ m2,_,rfl,hQ.keep _ _ _ _ _ hq hw2 (by simp only[Aa];omega) fun b hb _=>by
  simp only[Aa] at hb
  rw[An,if_neg (by omega),An,if_neg (by omega)]⟩
theorem Awf(n w:Nat)(cap:Array Value){Q:Nat→Value→FState→Prop}(hQ:Stays Q)(hone:∀base v σ,Q base v σ→oneCell v=true∧notTuple v=true∧valCells v=[v])(σ:FState)(hw:Wf σ)(h:∀σ',Ext σ σ'→Wf σ'→Gives ((env (n+1)).call w cap.toList none σ') σ' (Q σ'.next)):
  Gives ((env (n+3)).call 79 [.func (.func w) #[] cap] none σ) σ fun v σ'=>∃u,v=.tuple #[u,.int .i64 0]∧Q σ.next u σ':=by
 rw[Ag _ 79 _ _ rfl,Z9 _ _ _ _ (by simp),Af]
 unfold Abd
 obtain⟨_,σ2,e2,hX2,hw2,u,rfl,hq⟩:=AnQ n w cap hQ hone σ hw h
 obtain⟨o1,o2,o3⟩:=hone _ _ _ hq
 simp -implicitDefEqProofs only[go_sem,Vf,Sa,Vg,Sb,Vh,Sc,e2,AX,AJ,AI,Bt,o1,o2,o3]
 exact⟨_,_,rfl,hX2,hw2,u,rfl,hq⟩
theorem Acy(y:Int):Stays (fun _ v _=>v=.int .i64 y):=⟨fun _ _ _ _ _ h _ _ _=>h⟩
theorem Apart.at{M:Nat}{d:D}(h:Apart M d):∀x∈d.pieces [],x.2.parts.length≤900∧GoodD M x.2:=h.sane []
theorem Tt(M n N:Nat)(hM:M=n+1+3*N)(d e:D)(hd:Apart M d)(he:Apart M e)(hN:d.deep≤N)(lv mv:List Value)(h4:lv.length=4)(hm4:mv.length=4)(b1 b2:Nat)(σ:FState)(hw:Wf σ)(c1:σ.cells b1=some lv)(c2:σ.cells b2=some mv)(hL:LaidR (fun b=>b<σ.next) σ (.agg lv.toArray) d)(hLe:LaidR (fun b=>b<σ.next) σ (.agg mv.toArray) e):
  Gives ((env (M+6)).call 87 [.pointer (some ⟨b1,0,none⟩),.pointer (some ⟨b2,0,none⟩)] none σ) σ fun w _=>w=.int .i64 (ordU d e):=by
 rw[Ag _ 87 _ _ rfl,Pt _ _ _ _ (by simp),Af]
 unfold VO
 have ht:lv.take 4=lv:=List.take_of_length_le (by omega)
 have htm:mv.take 4=mv:=List.take_of_length_le (by omega)
 obtain⟨_,σ2,e2,x2,hw2,rfl⟩:=Dn M d hd.sane (by have:=hd.count;omega) hd.deep lv h4 (fun b=>b<σ.next) σ hw hL (fun b hb=>hb)
 have k2:∀b cs,b<σ.next→σ.cells b=some cs→σ2.cells b=some cs:=fun b cs hb hc=>(x2.cells hb).trans hc
 have n2:=x2.next
 obtain⟨_,σ3,e3,x3,hw3,rfl⟩:=Dn M e he.sane (by have:=he.count;omega) he.deep mv hm4 (fun b=>b<σ.next) σ2 hw2 (hLe.keep fun b cs hb hc=>⟨k2 b cs hb hc,hb⟩) (fun b hb=>by omega)
 have n3:=x3.next
 have k3:∀b cs,b<σ.next→σ.cells b=some cs→σ3.cells b=some cs:=fun b cs hb hc=>(x3.cells (by omega)).trans (k2 b cs hb hc)
 obtain⟨_,σ4,e4,x4,hw4,hr4⟩:=Agr M n (fun b=>b<σ.next) N d e [] [] (.agg lv.toArray) (.agg mv.toArray) σ3 hN hd.at he.at hw3 (hL.keep fun b cs hb hc=>⟨k3 b cs hb hc,hb⟩) (hLe.keep fun b cs hb hc=>⟨k3 b cs hb hc,hb⟩)
 unfold OrdR at hr4
 subst hr4
 have e:n+6+3*N=M+5:=by omega
 rw[e] at e4
 have d1:=k2 _ _ (hw.cells c2) c2
 have d2:=k3 _ _ (hw.cells c1) c1
 have d3:=k3 _ _ (hw.cells c2) c2
 simp -implicitDefEqProofs only[go_sem,MH,MG,MJ,MI,Vt,Sq,Ams,YK,c1,h4,hm4,ht,htm,e2,d1,e3,d2,d3,e4,Nat.le_refl]
 exact⟨_,_,rfl,(x2.trans x3).trans x4,hw4,rfl⟩
theorem Wk(M n N:Nat)(hM:M=n+1+3*N)(d e:D)(hd:Apart M d)(he:Apart M e)(hN:d.deep≤N)(lv mv:List Value)(h4:lv.length=4)(hm4:mv.length=4)(σ:FState)(hw:Wf σ)(hL:LaidR (fun b=>b<σ.next) σ (.agg lv.toArray) d)(hLe:LaidR (fun b=>b<σ.next) σ (.agg mv.toArray) e):
  Gives ((env (M+9)).call 25 [.agg lv.toArray,.agg mv.toArray] none σ) σ fun w _=>w=.tuple #[.int .i64 (ordU d e),.int .i64 0]:=by
 rw[Ag _ 25 _ _ rfl,Pr _ _ _ _ (by simp),Af]
 unfold VM
 have x1:Ext σ ((σ.push (.cells lv TD) none).push (.cells mv TD) none):=((Ext.refl _).push _ _).push _ _
 have hw1:=(hw.push (.cells lv TD) none).push (.cells mv TD) none
 have c1:((σ.push (.cells lv TD) none).push (.cells mv TD) none).cells σ.next=some lv:=by rw[Ab,if_neg (by rw[Aa];omega),Ab,if_pos rfl];rfl
 have c2:((σ.push (.cells lv TD) none).push (.cells mv TD) none).cells (σ.next+1)=some mv:=by rw[Ab,if_pos (by rw[Aa])];rfl
 obtain⟨_,σ2,e2,x2,hw2,_,rfl,rfl⟩:=Awf (M+5) 87 #[.pointer (some ⟨σ.next,0,none⟩),.pointer (some ⟨σ.next+1,0,none⟩)] (Acy (ordU d e)) (fun base v σ h=>by subst h;exact⟨rfl,rfl,rfl⟩) _ hw1 fun σ' hX hw'=>Tt M n N hM d e hd he hN lv mv h4 hm4 σ.next (σ.next+1) σ' hw' ((hX.cells (hw1.cells c1)).trans c1) ((hX.cells (hw1.cells c2)).trans c2)
  (hL.keep fun b cs hb hc=>⟨((x1.trans hX).cells hb).trans hc,by have:=(x1.trans hX).next;omega⟩) (hLe.keep fun b cs hb hc=>⟨((x1.trans hX).cells hb).trans hc,by have:=(x1.trans hX).next;omega⟩)
 simp -implicitDefEqProofs only[go_sem,LY,LX,L0,LZ,e2,AX,AJ,AI,Bt]
 exact⟨_,_,rfl,x1.trans x2,hw2,rfl⟩
end Go.Proofs.YtokieofohmgjdaaGreatDoor
namespace Go.Proofs.YtokieofohmgjdaaGreatDoor
open Go Go.Eng
def Agree(A B:List (List Nat×D)):Prop:=A.length=B.length∧∀(i:Nat) (a:List Nat×D),A[i]? = some a→∃b,B[i]? = some b∧a.1=b.1∧likeD a.2 b.2=true
theorem Agree.nil:Agree [] []:=⟨rfl,fun i a h=>by simp at h⟩
theorem Agree.cons{a b:List Nat×D}{A B:List (List Nat×D)}(h1:a.1=b.1)(h2:likeD a.2 b.2=true)(h:Agree A B):Agree (a::A) (b::B):=by
 refine⟨by simp[h.1],fun i x hx=>?_⟩
 cases i with
 | zero=>cases hx;exact⟨b,rfl,h1,h2⟩
 | succ i=>exact h.2 i x hx
theorem Agree.append{A B A' B':List (List Nat×D)}(h:Agree A B)(h':Agree A' B'):Agree (A++A') (B++B'):=by
 refine⟨by simp[h.1,h'.1],fun i x hx=>?_⟩
 by_cases hi:i<A.length
 ·rw[List.getElem?_append_left hi] at hx
  rw[List.getElem?_append_left (by rw[←h.1];exact hi)]
  exact h.2 i x hx
 ·rw[List.getElem?_append_right (by omega)] at hx
  rw[List.getElem?_append_right (by rw[←h.1];omega),←h.1]
  exact h'.2 _ x hx
theorem Lk(d:D):likeD d d=true:=by
 obtain⟨k,z,t,ds⟩:=d
 simp[likeD]
theorem Agree.refl:∀A:List (List Nat×D),Agree A A
 | []=>.nil
 | a::A=>.cons rfl (Lk _) (Agree.refl A)
def Split(A B:List (List Nat×D)):Prop:=∃pre pre' path x y ra rb,A=pre++(path,x)::ra∧B=pre'++(path,y)::rb∧Agree pre pre'∧likeD x y=false
mutual
theorem P0(p:List Nat):∀d e:D,d=e∨Split (d.pieces p) (e.pieces p)
 | .mk k z t ds,.mk k' z' t' es=>by
  cases h:likeD (.mk k z t ds) (.mk k' z' t' es) with
  | false=>exact .inr ⟨[],[],p,_,_,_,_,by rw[D.pieces];rfl,by rw[D.pieces];rfl,.nil,h⟩
  | true=>
   have h':=h
   simp only[likeD,Bool.and_eq_true,beq_iff_eq] at h'
   obtain⟨⟨⟨h1,h2⟩,h3⟩,h4⟩:=h'
   have h5:=toList_inj h3
   subst h1 h2 h5
   rcases GR p ds es 0 (Int.ofNat.inj h4) with rfl|⟨pre,pre',path,x,y,ra,rb,e1,e2,e3,e4⟩
   ·exact .inl rfl
   ·exact .inr ⟨(p,.mk k z t ds)::pre,(p,.mk k z t es)::pre',path,x,y,ra,rb,by rw[D.pieces,e1];rfl,by rw[D.pieces,e2];rfl,.cons rfl h e3,e4⟩
theorem GR(p:List Nat):∀(ds es:List D) (i:Nat),ds.length=es.length→ds=es∨Split (D.piecesL p i ds) (D.piecesL p i es)
 | [],[],_,_=>.inl rfl
 | [],_::_,_,h=>by simp at h
 | _::_,[],_,h=>by simp at h
 | d::ds,e::es,i,h=>by
  rcases P0 (p++[i]) d e with rfl|⟨pre,pre',path,x,y,ra,rb,e1,e2,e3,e4⟩
  ·rcases GR p ds es (i+1) (by simpa using h) with rfl|⟨pre,pre',path,x,y,ra,rb,e1,e2,e3,e4⟩
   ·exact .inl rfl
   ·exact .inr ⟨d.pieces (p++[i])++pre,d.pieces (p++[i])++pre',path,x,y,ra,rb,by rw[D.piecesL,e1,List.append_assoc],by rw[D.piecesL,e2,List.append_assoc],(Agree.refl _).append e3,e4⟩
  ·exact .inr ⟨pre,pre',path,x,y,ra++D.piecesL p (i+1) ds,rb++D.piecesL p (i+1) es,by rw[D.piecesL,e1,List.append_assoc,List.cons_append],by rw[D.piecesL,e2,List.append_assoc,List.cons_append],e3,e4⟩
end
mutual
theorem PZ(p:List Nat):∀d:D,(d.pieces p).Pairwise fun a b=>a.1≠b.1
 | .mk k z t ds=>by
  rw[D.pieces]
  refine List.Pairwise.cons (fun b hb h=>?_) (GQ p ds 0)
  obtain⟨j,r,d',h1,_⟩:=E2 ds p 0 b hb
  rw[h1] at h
  have:=congrArg List.length h
  simp at this
theorem GQ(p:List Nat):∀(ds:List D) (i:Nat),(D.piecesL p i ds).Pairwise fun a b=>a.1≠b.1
 | [],_=>by rw[D.piecesL];exact List.Pairwise.nil
 | d::ds,i=>by
  rw[D.piecesL]
  refine List.pairwise_append.2 ⟨PZ _ d,GQ p ds (i+1),fun a ha b hb h=>?_⟩
  obtain⟨r,h1,_⟩:=IN d (p++[i]) a ha
  obtain⟨j,r',d',h2,_⟩:=E2 ds p (i+1) b hb
  rw[h1,h2,List.append_assoc] at h
  have:=List.append_cancel_left h
  simp at this
  omega
end
end Go.Proofs.YtokieofohmgjdaaGreatDoor
namespace Go.Proofs.YtokieofohmgjdaaGreatDoor
open Go Go.Eng
variable (E:Env) (ro:Option Nat) (last:List Nat→RunF) (cl:List Nat) (a:FAct) (u:Option FrameMode) (σ:FState)
def Xu(_:Unit):List COp:=[⟨fun a σ=>fbox 24 (a.get 0) σ,some 3,fun _=>some true⟩,
 ⟨fun a σ=>fbox 24 (a.get 2) σ,some 5,fun _=>some true⟩,
 ⟨fun a σ=>newCells [(.int .i64 0),(.int .i64 0),(.string ⟨#[]⟩),(.slice none 0 0)] 24 none σ,some 6,fun _=>some true⟩,
 ⟨fun a σ=>.val (.int .i64 0) σ,some 7,fun _=>some true⟩]
def Arm:List COp:=Xu ()
def Xv(_:Unit):List COp:=[⟨fun a σ=>fload (some 4) (a.get 3) σ,some 11,fun _=>some true⟩,
 ⟨fun a σ=>fload (some 4) (a.get 5) σ,some 12,fun _=>some true⟩,
 ⟨fun a σ=>.enter 83 [(a.get 11),(a.get 12)] σ,some 13,fun _=>some true⟩,
 ⟨fun a σ=>.val (a.get 13) σ,some 8,fun _=>some true⟩]
def Arn:List COp:=Xv ()
def Xw(_:Unit):List COp:=[⟨fun a σ=>.val (a.get 8) σ,some 14,fun _=>some true⟩,
 ⟨fun a σ=>i_neq Tryz.prog 32 (.tmp 14) (.const (.int .i64 0)) (a.get 14) (.int .i64 0) σ,some 15,fun _=>some true⟩]
def Aro:List COp:=Xw ()
def AvP(_:Unit):List COp:=[⟨fun a σ=>fbuild (fun i=>nth [(0,1),(1,1),(2,1),(3,1)] i) [(.int .i64 0),(.int .i64 0),(.string ⟨#[]⟩),(.slice none 0 0)] [] σ,some 16,fun _=>some true⟩,
 ⟨fun a σ=>.val (a.get 8) σ,some 17,fun _=>some true⟩,
 ⟨fun a σ=>fstore 4 (a.get 6) (a.get 16) σ,none,fun _=>some true⟩,
 ⟨fun a σ=>.val (a.get 17) σ,some 7,fun _=>some true⟩]
def Awn:List COp:=AvP ()
def Xx(_:Unit):List COp:=[⟨fun a σ=>fload (some 4) (a.get 3) σ,some 19,fun _=>some true⟩,
 ⟨fun a σ=>.val (a.get 1) σ,some 20,fun _=>some true⟩,
 ⟨fun a σ=>.enter 41 [(a.get 19),(a.get 20)] σ,some 21,fun _=>some true⟩,
 ⟨fun a σ=>.val (a.get 21) σ,some 18,fun _=>some true⟩,
 ⟨fun a σ=>fextract 0 (a.get 18) σ,some 22,fun _=>some true⟩,
 ⟨fun a σ=>fextract 1 (a.get 18) σ,some 23,fun _=>some true⟩,
 ⟨fun a σ=>newCells [(.int .i64 0),(.int .i64 0),(.string ⟨#[]⟩),(.slice none 0 0)] 24 none σ,some 9,fun _=>some true⟩,
 ⟨fun a σ=>fstore 4 (a.get 9) (a.get 22) σ,none,fun _=>some true⟩,
 ⟨fun a σ=>.val (a.get 23) σ,some 10,fun _=>some true⟩]
def Arp:List COp:=Xx ()
def Xy(_:Unit):List COp:=[⟨fun a σ=>.val (a.get 10) σ,some 24,fun _=>some true⟩,
 ⟨fun a σ=>fun1 Tryz.prog (Op.unary .not) (a.get 24) σ,some 25,fun _=>some true⟩]
def Arq:List COp:=Xy ()
def AvQ(_:Unit):List COp:=[⟨fun a σ=>fbuild (fun i=>nth [(0,1),(1,1),(2,1),(3,1)] i) [(.int .i64 0),(.int .i64 0),(.string ⟨#[]⟩),(.slice none 0 0)] [] σ,some 26,fun _=>some true⟩,
 ⟨fun a σ=>fstore 4 (a.get 6) (a.get 26) σ,none,fun _=>some true⟩,
 ⟨fun a σ=>.val (.int .i64 9) σ,some 7,fun _=>some true⟩]
def Awo:List COp:=AvQ ()
def Xz(_:Unit):List COp:=[⟨fun a σ=>fload (some 4) (a.get 3) σ,some 27,fun _=>some true⟩,
 ⟨fun a σ=>.val (a.get 1) σ,some 28,fun _=>some true⟩,
 ⟨fun a σ=>fload (some 4) (a.get 5) σ,some 29,fun _=>some true⟩,
 ⟨fun a σ=>.enter 85 [(a.get 27),(a.get 28),(a.get 29)] σ,some 30,fun _=>some true⟩,
 ⟨fun a σ=>.enter 84 [(a.get 30)] σ,some 31,fun _=>some true⟩,
 ⟨fun a σ=>fextract 0 (a.get 31) σ,some 32,fun _=>some true⟩,
 ⟨fun a σ=>fextract 1 (a.get 31) σ,some 33,fun _=>some true⟩,
 ⟨fun a σ=>fstore 4 (a.get 6) (a.get 32) σ,none,fun _=>some true⟩,
 ⟨fun a σ=>.val (a.get 33) σ,some 7,fun _=>some true⟩]
def Arr:List COp:=Xz ()
def Am4(E:Env)(ro:Option Nat)(fn:FuncId):RunF:=(seqR (fops E ro Arm) (seqR (seqR (fops E ro Arn) (seqR (fops E ro Aro) (condR (fun a=>(a.get 15)) (seqR (fops E ro Awn) retR) skipR))) (seqR (seqR (fops E ro Arp) (seqR (fops E ro Arq) (condR (fun a=>(a.get 25)) (seqR (fops E ro Awo) retR) skipR))) (seqR (fops E ro Arr) retR))))
theorem Ak3:fops E ro Arm a u σ=fops E ro (Xu ()) a u σ:=rfl
theorem Ak4:fops E ro Arn a u σ=fops E ro (Xv ()) a u σ:=rfl
theorem Ak5:fops E ro Aro a u σ=fops E ro (Xw ()) a u σ:=rfl
theorem Ak6:fops E ro Arp a u σ=fops E ro (Xx ()) a u σ:=rfl
theorem Ak7:fops E ro Arq a u σ=fops E ro (Xy ()) a u σ:=rfl
theorem Ak8:fops E ro Arr a u σ=fops E ro (Xz ()) a u σ:=rfl
theorem Auw(E:Env)(ro:Option Nat)(fn:FuncId):code Tryz.prog nls (Tryz.f23.body.getD .skip) E ro fn=Am4 E ro fn:=by kernel_rfl
theorem AoM(E:Env)(args:List Value)(u:Option FrameMode)(σ:FState)(hn:args.length≤(11:Nat)):fcall Tryz.prog nls E 23 args u σ=leaveR Tryz.prog E [.cell 6 24,.tmp 7] (Am4 E none 23 ⟨padTo undef 11 args,fun _=>undef,11,34,[]⟩ u σ):=by
 rw[Al (body:=Tryz.f23.body.getD .skip) Tryz.func23 rfl E args u σ 11 34 (by kernel_rfl) rfl ⟨hn,by decide⟩,Auw]
 rfl
def Sj(_:Unit):List COp:=[⟨fun a σ=>fbox 24 (a.get 0) σ,some 3,fun _=>some true⟩,
 ⟨fun a σ=>fbox 24 (a.get 2) σ,some 5,fun _=>some true⟩,
 ⟨fun a σ=>newCells [(.int .i64 0),(.int .i64 0),(.string ⟨#[]⟩),(.slice none 0 0)] 24 none σ,some 6,fun _=>some true⟩]
def Ath:List COp:=Sj ()
def Sm(_:Unit):List COp:=[⟨fun a σ=>.val (a.get 1) σ,some 9,fun _=>some true⟩,
 ⟨fun a σ=>flenL (a.get 9) σ,some 10,fun _=>some true⟩,
 ⟨fun a σ=>i_eql Tryz.prog 3 (.tmp 10) (.const (.int .i64 0)) (a.get 10) (.int .i64 0) σ,some 11,fun _=>some true⟩]
def Ati:List COp:=Sm ()
def Yx(_:Unit):List COp:=[⟨fun a σ=>fload (some 4) (a.get 5) σ,some 12,fun _=>some true⟩,
 ⟨fun a σ=>fstore 4 (a.get 6) (a.get 12) σ,none,fun _=>some true⟩]
def Atj:List COp:=Yx ()
def Yy(_:Unit):List COp:=[⟨fun a σ=>ffield 0 (a.get 3) σ,some 13,fun _=>some true⟩,
 ⟨fun a σ=>fload none (a.get 13) σ,some 14,fun _=>some true⟩,
 ⟨fun a σ=>fbuild (fun i=>nth [(0,1),(1,1),(2,1),(3,1)] i) [(.int .i64 0),(.int .i64 0),(.string ⟨#[]⟩),(.slice none 0 0)] [(0,(a.get 14))] σ,some 15,fun _=>some true⟩,
 ⟨fun a σ=>newCells [(.int .i64 0),(.int .i64 0),(.string ⟨#[]⟩),(.slice none 0 0)] 24 none σ,some 7,fun _=>some true⟩,
 ⟨fun a σ=>fstore 4 (a.get 7) (a.get 15) σ,none,fun _=>some true⟩]
def Atk:List COp:=Yy ()
def Yz(_:Unit):List COp:=[⟨fun a σ=>.val (.int .i64 0) σ,some 8,fun _=>some true⟩]
def Atl:List COp:=Yz ()
def ME(_:Unit):List COp:=[⟨fun a σ=>.val (a.get 8) σ,some 16,fun _=>some true⟩,
 ⟨fun a σ=>ffield 3 (a.get 3) σ,some 17,fun _=>some true⟩,
 ⟨fun a σ=>fload none (a.get 17) σ,some 18,fun _=>some true⟩,
 ⟨fun a σ=>flenL (a.get 18) σ,some 19,fun _=>some true⟩,
 ⟨fun a σ=>i_lss Tryz.prog 3 (.tmp 16) (.tmp 19) (a.get 16) (a.get 19) σ,some 20,fun _=>some true⟩]
def Atm:List COp:=ME ()
def So(_:Unit):List COp:=[⟨fun a σ=>.val (a.get 8) σ,some 23,fun _=>some true⟩,
 ⟨fun a σ=>.val (a.get 1) σ,some 24,fun _=>some true⟩,
 ⟨fun a σ=>findex (none,1) (a.get 24) (.int .i64 0) σ,some 25,fun _=>some true⟩,
 ⟨fun a σ=>fload none (a.get 25) σ,some 26,fun _=>some true⟩,
 ⟨fun a σ=>i_eql Tryz.prog 3 (.tmp 23) (.tmp 26) (a.get 23) (a.get 26) σ,some 27,fun _=>some true⟩]
def Ato:List COp:=So ()
def YA(_:Unit):List DOp:=[⟨fun a σ=>ffield 3 (a.get 3) σ,some 30,fun _=>some true,some 0,false⟩,
 ⟨fun a σ=>fload none (a.get 30) σ,some 31,fun _=>some true,some 0,false⟩,
 ⟨fun a σ=>.val (a.get 8) σ,some 32,fun _=>some true,some 0,false⟩,
 ⟨fun a σ=>findex (none,4) (a.get 31) (a.get 32) σ,some 33,fun _=>some true,some 0,false⟩,
 ⟨fun a σ=>fload (some 4) (a.get 33) σ,some 34,fun _=>some true,some 0,false⟩,
 ⟨fun a σ=>.val (a.get 1) σ,some 35,fun _=>some true,some 0,false⟩,
 ⟨fun a σ=>fslice Tryz.prog 25 (a.get 35) (some (.int .i64 1)) none none σ,some 36,fun _=>some true,some 0,false⟩,
 ⟨fun a σ=>fload (some 4) (a.get 5) σ,some 37,fun _=>some true,some 0,false⟩,
 ⟨fun a σ=>.enter 85 [(a.get 34),(a.get 36),(a.get 37)] σ,some 38,fun _=>some true,none,false⟩,
 ⟨fun a σ=>ffield 3 (a.get 7) σ,some 28,fun _=>some true,some 0,false⟩,
 ⟨fun a σ=>fload none (a.get 28) σ,some 29,fun _=>some true,some 0,false⟩,
 ⟨fun a σ=>fbuildSlice 24 1 4 [(.int .i64 0),(.int .i64 0),(.string ⟨#[]⟩),(.slice none 0 0)] [(0,(a.get 38))] σ,some 39,fun _=>some true,some 1,false⟩,
 ⟨fun a σ=>fappend 24 4 56 (a.get 29) (a.get 39) σ,some 40,fun _=>some true,none,true⟩,
 ⟨fun a σ=>ffield 3 (a.get 7) σ,some 41,fun _=>some true,some 2,false⟩,
 ⟨fun a σ=>fstore 1 (a.get 41) (a.get 40) σ,none,fun _=>some true,none,true⟩]
def Atp:List DOp:=YA ()
def YB(_:Unit):List DOp:=[⟨fun a σ=>ffield 3 (a.get 7) σ,some 42,fun _=>some true,some 0,false⟩,
 ⟨fun a σ=>fload none (a.get 42) σ,some 43,fun _=>some true,some 0,false⟩,
 ⟨fun a σ=>ffield 3 (a.get 3) σ,some 44,fun _=>some true,some 0,false⟩,
 ⟨fun a σ=>fload none (a.get 44) σ,some 45,fun _=>some true,some 0,false⟩,
 ⟨fun a σ=>.val (a.get 8) σ,some 46,fun _=>some true,some 0,false⟩,
 ⟨fun a σ=>findex (none,4) (a.get 45) (a.get 46) σ,some 47,fun _=>some true,some 0,false⟩,
 ⟨fun a σ=>fload (some 4) (a.get 47) σ,some 48,fun _=>some true,some 0,false⟩,
 ⟨fun a σ=>fbuildSlice 24 1 4 [(.int .i64 0),(.int .i64 0),(.string ⟨#[]⟩),(.slice none 0 0)] [(0,(a.get 48))] σ,some 49,fun _=>some true,some 0,false⟩,
 ⟨fun a σ=>fappend 24 4 56 (a.get 43) (a.get 49) σ,some 50,fun _=>some true,none,true⟩,
 ⟨fun a σ=>ffield 3 (a.get 7) σ,some 51,fun _=>some true,some 1,false⟩,
 ⟨fun a σ=>fstore 1 (a.get 51) (a.get 50) σ,none,fun _=>some true,none,true⟩]
def Atq:List DOp:=YB ()
def Sn(_:Unit):List COp:=[⟨fun a σ=>.val (a.get 8) σ,some 21,fun _=>some true⟩,
 ⟨fun a σ=>i_add Tryz.prog 3 (.tmp 21) (.const (.int .i64 1)) (a.get 21) (.int .i64 1) σ,some 22,fun _=>some true⟩,
 ⟨fun a σ=>.val (a.get 22) σ,some 8,fun _=>some true⟩]
def Atn:List COp:=Sn ()
def Us(E:Env)(ro:Option Nat)(fn:FuncId):RunF:=(seqR (seqR (fops E ro Atm) (condR (fun a=>(a.get 20)) skipR (exitR 0))) (seqR (blockR 1 (seqR (fops E ro Ato) (condR (fun a=>(a.get 27)) (drawR E ro Atp) (drawR E ro Atq)))) (fops E ro Atn)))
def Sk(_:Unit):List COp:=[⟨fun a σ=>fload (some 4) (a.get 7) σ,some 52,fun _=>some true⟩,
 ⟨fun a σ=>fstore 4 (a.get 6) (a.get 52) σ,none,fun _=>some true⟩]
def Amc:List COp:=Sk ()
def Abh(E:Env)(ro:Option Nat)(fn:FuncId):RunF:=(seqR (fops E ro Ath) (seqR (seqR (fops E ro Ati) (condR (fun a=>(a.get 11)) (seqR (fops E ro Atj) retR) skipR)) (seqR (fops E ro Atk) (seqR (seqR (fops E ro Atl) (blockR 0 (loopR (keepOf nls fn) (Us E ro fn)))) (seqR (fops E ro Amc) retR)))))
theorem Vo:fops E ro Ath a u σ=fops E ro (Sj ()) a u σ:=rfl
theorem Vp:fops E ro Ati a u σ=fops E ro (Sm ()) a u σ:=rfl
theorem Amd:fops E ro Atj a u σ=fops E ro (Yx ()) a u σ:=rfl
theorem Ame:fops E ro Atk a u σ=fops E ro (Yy ()) a u σ:=rfl
theorem Amf:fops E ro Atl a u σ=fops E ro (Yz ()) a u σ:=rfl
theorem MF:fops E ro Atm a u σ=fops E ro (ME ()) a u σ:=rfl
theorem Vr:fops E ro Ato a u σ=fops E ro (So ()) a u σ:=rfl
theorem Amg:fdraw E ro last Atp cl a u σ=fdraw E ro last (YA ()) cl a u σ:=rfl
theorem Amh:fdraw E ro last Atq cl a u σ=fdraw E ro last (YB ()) cl a u σ:=rfl
theorem Vq:fops E ro Atn a u σ=fops E ro (Sn ()) a u σ:=rfl
theorem Aek:fops E ro Amc a u σ=fops E ro (Sk ()) a u σ:=rfl
theorem AuV(E:Env)(ro:Option Nat)(fn:FuncId):code Tryz.prog nls (Tryz.f85.body.getD .skip) E ro fn=Abh E ro fn:=by kernel_rfl
theorem Aac(E:Env)(args:List Value)(u:Option FrameMode)(σ:FState)(hn:args.length≤(9:Nat)):fcall Tryz.prog nls E 85 args u σ=leaveR Tryz.prog E [.cell 6 24] (Abh E none 85 ⟨padTo undef 9 args,fun _=>undef,9,53,[]⟩ u σ):=by
 rw[Al (body:=Tryz.f85.body.getD .skip) Tryz.func85 rfl E args u σ 9 53 (by kernel_rfl) rfl ⟨hn,by decide⟩,AuV]
 rfl
def My(_:Unit):List COp:=[⟨fun a σ=>fbox 24 (a.get 0) σ,some 2,fun _=>some true⟩,
 ⟨fun a σ=>fbox 24 (a.get 1) σ,some 3,fun _=>some true⟩,
 ⟨fun a σ=>.val (.int .i64 0) σ,some 4,fun _=>some true⟩]
def As8:List COp:=My ()
def MA(_:Unit):List COp:=[⟨fun a σ=>fload (some 4) (a.get 2) σ,some 6,fun _=>some true⟩,
 ⟨fun a σ=>.enter 19 [(a.get 6)] σ,some 7,fun _=>some true⟩,
 ⟨fun a σ=>.val (a.get 7) σ,some 5,fun _=>some true⟩]
def As9:List COp:=MA ()
def MC(_:Unit):List COp:=[⟨fun a σ=>.val (a.get 5) σ,some 8,fun _=>some true⟩,
 ⟨fun a σ=>i_neq Tryz.prog 32 (.tmp 8) (.const (.int .i64 0)) (a.get 8) (.int .i64 0) σ,some 9,fun _=>some true⟩]
def Ata:List COp:=MC ()
def Ys(_:Unit):List COp:=[⟨fun a σ=>.val (a.get 5) σ,some 10,fun _=>some true⟩,
 ⟨fun a σ=>.val (a.get 10) σ,some 4,fun _=>some true⟩]
def Atb:List COp:=Ys ()
def Si(_:Unit):List COp:=[⟨fun a σ=>fload (some 4) (a.get 3) σ,some 11,fun _=>some true⟩,
 ⟨fun a σ=>.enter 19 [(a.get 11)] σ,some 12,fun _=>some true⟩,
 ⟨fun a σ=>.val (a.get 12) σ,some 4,fun _=>some true⟩]
def Atc:List COp:=Si ()
def Abg(E:Env)(ro:Option Nat)(fn:FuncId):RunF:=(seqR (fops E ro As8) (seqR (seqR (fops E ro As9) (seqR (fops E ro Ata) (condR (fun a=>(a.get 9)) (seqR (fops E ro Atb) retR) skipR))) (seqR (fops E ro Atc) retR)))
theorem Mz:fops E ro As8 a u σ=fops E ro (My ()) a u σ:=rfl
theorem MB:fops E ro As9 a u σ=fops E ro (MA ()) a u σ:=rfl
theorem MD:fops E ro Ata a u σ=fops E ro (MC ()) a u σ:=rfl
theorem Al7:fops E ro Atb a u σ=fops E ro (Ys ()) a u σ:=rfl
theorem Vn:fops E ro Atc a u σ=fops E ro (Si ()) a u σ:=rfl
theorem AuT(E:Env)(ro:Option Nat)(fn:FuncId):code Tryz.prog nls (Tryz.f83.body.getD .skip) E ro fn=Abg E ro fn:=by kernel_rfl
theorem Aab(E:Env)(args:List Value)(u:Option FrameMode)(σ:FState)(hn:args.length≤(6:Nat)):fcall Tryz.prog nls E 83 args u σ=leaveR Tryz.prog E [.tmp 4] (Abg E none 83 ⟨padTo undef 6 args,fun _=>undef,6,13,[]⟩ u σ):=by
 rw[Al (body:=Tryz.f83.body.getD .skip) Tryz.func83 rfl E args u σ 6 13 (by kernel_rfl) rfl ⟨hn,by decide⟩,AuT]
 rfl
def Yt(_:Unit):List COp:=[⟨fun a σ=>fbox 24 (a.get 0) σ,some 1,fun _=>some true⟩,
 ⟨fun a σ=>newCells [(.int .i64 0),(.int .i64 0),(.string ⟨#[]⟩),(.slice none 0 0)] 24 none σ,some 2,fun _=>some true⟩,
 ⟨fun a σ=>.val (.int .i64 0) σ,some 3,fun _=>some true⟩]
def Atd:List COp:=Yt ()
def Yu(_:Unit):List COp:=[⟨fun a σ=>fload (some 4) (a.get 1) σ,some 5,fun _=>some true⟩,
 ⟨fun a σ=>.enter 82 [(a.get 5)] σ,some 6,fun _=>some true⟩,
 ⟨fun a σ=>.val (a.get 6) σ,some 4,fun _=>some true⟩]
def Ate:List COp:=Yu ()
def Yv(_:Unit):List COp:=[⟨fun a σ=>.val (a.get 4) σ,some 7,fun _=>some true⟩,
 ⟨fun a σ=>i_neq Tryz.prog 32 (.tmp 7) (.const (.int .i64 0)) (a.get 7) (.int .i64 0) σ,some 8,fun _=>some true⟩]
def Atf:List COp:=Yv ()
def Av3(_:Unit):List COp:=[⟨fun a σ=>fbuild (fun i=>nth [(0,1),(1,1),(2,1),(3,1)] i) [(.int .i64 0),(.int .i64 0),(.string ⟨#[]⟩),(.slice none 0 0)] [] σ,some 9,fun _=>some true⟩,
 ⟨fun a σ=>.val (a.get 4) σ,some 10,fun _=>some true⟩,
 ⟨fun a σ=>fstore 4 (a.get 2) (a.get 9) σ,none,fun _=>some true⟩,
 ⟨fun a σ=>.val (a.get 10) σ,some 3,fun _=>some true⟩]
def Awt:List COp:=Av3 ()
def Yw(_:Unit):List COp:=[⟨fun a σ=>fload (some 4) (a.get 1) σ,some 11,fun _=>some true⟩,
 ⟨fun a σ=>fstore 4 (a.get 2) (a.get 11) σ,none,fun _=>some true⟩,
 ⟨fun a σ=>.val (.int .i64 0) σ,some 3,fun _=>some true⟩]
def Atg:List COp:=Yw ()
def Ank(E:Env)(ro:Option Nat)(fn:FuncId):RunF:=(seqR (fops E ro Atd) (seqR (seqR (fops E ro Ate) (seqR (fops E ro Atf) (condR (fun a=>(a.get 8)) (seqR (fops E ro Awt) retR) skipR))) (seqR (fops E ro Atg) retR)))
theorem Al8:fops E ro Atd a u σ=fops E ro (Yt ()) a u σ:=rfl
theorem Al9:fops E ro Ate a u σ=fops E ro (Yu ()) a u σ:=rfl
theorem Ama:fops E ro Atf a u σ=fops E ro (Yv ()) a u σ:=rfl
theorem Amb:fops E ro Atg a u σ=fops E ro (Yw ()) a u σ:=rfl
theorem AuU(E:Env)(ro:Option Nat)(fn:FuncId):code Tryz.prog nls (Tryz.f84.body.getD .skip) E ro fn=Ank E ro fn:=by kernel_rfl
theorem Ao2(E:Env)(args:List Value)(u:Option FrameMode)(σ:FState)(hn:args.length≤(5:Nat)):fcall Tryz.prog nls E 84 args u σ=leaveR Tryz.prog E [.cell 2 24,.tmp 3] (Ank E none 84 ⟨padTo undef 5 args,fun _=>undef,5,12,[]⟩ u σ):=by
 rw[Al (body:=Tryz.f84.body.getD .skip) Tryz.func84 rfl E args u σ 5 12 (by kernel_rfl) rfl ⟨hn,by decide⟩,AuU]
 rfl
def LK(_:Unit):List COp:=[⟨fun a σ=>fbox 24 (a.get 0) σ,some 1,fun _=>some true⟩,
 ⟨fun a σ=>.val (.int .i64 0) σ,some 2,fun _=>some true⟩]
def Ara:List COp:=LK ()
def LM(_:Unit):List COp:=[⟨fun a σ=>fload (some 4) (a.get 1) σ,some 4,fun _=>some true⟩,
 ⟨fun a σ=>.enter 81 [(a.get 4)] σ,some 5,fun _=>some true⟩,
 ⟨fun a σ=>.val (a.get 5) σ,some 3,fun _=>some true⟩]
def Arb:List COp:=LM ()
def LO(_:Unit):List COp:=[⟨fun a σ=>.val (a.get 3) σ,some 6,fun _=>some true⟩,
 ⟨fun a σ=>i_neq Tryz.prog 32 (.tmp 6) (.const (.int .i64 0)) (a.get 6) (.int .i64 0) σ,some 7,fun _=>some true⟩]
def Arc:List COp:=LO ()
def Xh(_:Unit):List COp:=[⟨fun a σ=>.val (a.get 3) σ,some 8,fun _=>some true⟩,
 ⟨fun a σ=>.val (a.get 8) σ,some 2,fun _=>some true⟩]
def Ard:List COp:=Xh ()
def Rh(_:Unit):List COp:=[⟨fun a σ=>fload (some 4) (a.get 1) σ,some 9,fun _=>some true⟩,
 ⟨fun a σ=>.enter 82 [(a.get 9)] σ,some 10,fun _=>some true⟩,
 ⟨fun a σ=>.val (a.get 10) σ,some 2,fun _=>some true⟩]
def Are:List COp:=Rh ()
def Abb(E:Env)(ro:Option Nat)(fn:FuncId):RunF:=(seqR (fops E ro Ara) (seqR (seqR (fops E ro Arb) (seqR (fops E ro Arc) (condR (fun a=>(a.get 7)) (seqR (fops E ro Ard) retR) skipR))) (seqR (fops E ro Are) retR)))
theorem LL:fops E ro Ara a u σ=fops E ro (LK ()) a u σ:=rfl
theorem LN:fops E ro Arb a u σ=fops E ro (LM ()) a u σ:=rfl
theorem LP:fops E ro Arc a u σ=fops E ro (LO ()) a u σ:=rfl
theorem AjJ:fops E ro Ard a u σ=fops E ro (Xh ()) a u σ:=rfl
theorem UP:fops E ro Are a u σ=fops E ro (Rh ()) a u σ:=rfl
theorem Auu(E:Env)(ro:Option Nat)(fn:FuncId):code Tryz.prog nls (Tryz.f19.body.getD .skip) E ro fn=Abb E ro fn:=by kernel_rfl
theorem Z7(E:Env)(args:List Value)(u:Option FrameMode)(σ:FState)(hn:args.length≤(4:Nat)):fcall Tryz.prog nls E 19 args u σ=leaveR Tryz.prog E [.tmp 2] (Abb E none 19 ⟨padTo undef 4 args,fun _=>undef,4,11,[]⟩ u σ):=by
 rw[Al (body:=Tryz.f19.body.getD .skip) Tryz.func19 rfl E args u σ 4 11 (by kernel_rfl) rfl ⟨hn,by decide⟩,Auu]
 rfl
def Mn(_:Unit):List COp:=[⟨fun a σ=>fbox 24 (a.get 0) σ,some 1,fun _=>some true⟩,
 ⟨fun a σ=>.val (.int .i64 0) σ,some 2,fun _=>some true⟩]
def AsV:List COp:=Mn ()
def Mq(_:Unit):List COp:=[⟨fun a σ=>fload (some 4) (a.get 1) σ,some 6,fun _=>some true⟩,
 ⟨fun a σ=>.enter 130 [(a.get 6)] σ,some 7,fun _=>some true⟩,
 ⟨fun a σ=>.val (a.get 7) σ,some 3,fun _=>some true⟩]
def AsW:List COp:=Mq ()
def Ms(_:Unit):List COp:=[⟨fun a σ=>.val (a.get 3) σ,some 8,fun _=>some true⟩,
 ⟨fun a σ=>i_neq Tryz.prog 32 (.tmp 8) (.const (.int .i64 0)) (a.get 8) (.int .i64 0) σ,some 9,fun _=>some true⟩]
def AsX:List COp:=Ms ()
def Yq(_:Unit):List COp:=[⟨fun a σ=>.val (a.get 3) σ,some 10,fun _=>some true⟩,
 ⟨fun a σ=>.val (a.get 10) σ,some 2,fun _=>some true⟩]
def AsY:List COp:=Yq ()
def Sd(_:Unit):List COp:=[⟨fun a σ=>.val (.int .i64 0) σ,some 4,fun _=>some true⟩]
def AsZ:List COp:=Sd ()
def Ha(_:Unit):List COp:=[⟨fun a σ=>.val (a.get 4) σ,some 11,fun _=>some true⟩,
 ⟨fun a σ=>ffield 3 (a.get 1) σ,some 12,fun _=>some true⟩,
 ⟨fun a σ=>fload none (a.get 12) σ,some 13,fun _=>some true⟩,
 ⟨fun a σ=>flenL (a.get 13) σ,some 14,fun _=>some true⟩,
 ⟨fun a σ=>i_lss Tryz.prog 3 (.tmp 11) (.tmp 14) (a.get 11) (a.get 14) σ,some 15,fun _=>some true⟩]
def As0:List COp:=Ha ()
def Mu(_:Unit):List COp:=[⟨fun a σ=>ffield 3 (a.get 1) σ,some 18,fun _=>some true⟩,
 ⟨fun a σ=>fload none (a.get 18) σ,some 19,fun _=>some true⟩,
 ⟨fun a σ=>.val (a.get 4) σ,some 20,fun _=>some true⟩,
 ⟨fun a σ=>findex (none,4) (a.get 19) (a.get 20) σ,some 21,fun _=>some true⟩,
 ⟨fun a σ=>fload (some 4) (a.get 21) σ,some 22,fun _=>some true⟩,
 ⟨fun a σ=>.enter 81 [(a.get 22)] σ,some 23,fun _=>some true⟩,
 ⟨fun a σ=>.val (a.get 23) σ,some 5,fun _=>some true⟩]
def As2:List COp:=Mu ()
def Mw(_:Unit):List COp:=[⟨fun a σ=>.val (a.get 5) σ,some 24,fun _=>some true⟩,
 ⟨fun a σ=>i_neq Tryz.prog 32 (.tmp 24) (.const (.int .i64 0)) (a.get 24) (.int .i64 0) σ,some 25,fun _=>some true⟩]
def As3:List COp:=Mw ()
def Yr(_:Unit):List COp:=[⟨fun a σ=>.val (a.get 5) σ,some 26,fun _=>some true⟩,
 ⟨fun a σ=>.val (a.get 26) σ,some 2,fun _=>some true⟩]
def As4:List COp:=Yr ()
def Se(_:Unit):List COp:=[⟨fun a σ=>.val (a.get 4) σ,some 16,fun _=>some true⟩,
 ⟨fun a σ=>i_add Tryz.prog 3 (.tmp 16) (.const (.int .i64 1)) (a.get 16) (.int .i64 1) σ,some 17,fun _=>some true⟩,
 ⟨fun a σ=>.val (a.get 17) σ,some 4,fun _=>some true⟩]
def As1:List COp:=Se ()
def FB(E:Env)(ro:Option Nat)(fn:FuncId):RunF:=(seqR (seqR (fops E ro As0) (condR (fun a=>(a.get 15)) skipR (exitR 0))) (seqR (blockR 1 (seqR (fops E ro As2) (seqR (fops E ro As3) (condR (fun a=>(a.get 25)) (seqR (fops E ro As4) retR) skipR)))) (fops E ro As1)))
def KD(_:Unit):List COp:=[⟨fun a σ=>.val (.int .i64 0) σ,some 2,fun _=>some true⟩]
def Al4:List COp:=KD ()
def Abe(E:Env)(ro:Option Nat)(fn:FuncId):RunF:=(seqR (fops E ro AsV) (seqR (seqR (fops E ro AsW) (seqR (fops E ro AsX) (condR (fun a=>(a.get 9)) (seqR (fops E ro AsY) retR) skipR))) (seqR (seqR (fops E ro AsZ) (blockR 0 (loopR (keepOf nls fn) (FB E ro fn)))) (seqR (fops E ro Al4) retR))))
theorem Mo:fops E ro AsV a u σ=fops E ro (Mn ()) a u σ:=rfl
theorem Mr:fops E ro AsW a u σ=fops E ro (Mq ()) a u σ:=rfl
theorem Mt:fops E ro AsX a u σ=fops E ro (Ms ()) a u σ:=rfl
theorem Al5:fops E ro AsY a u σ=fops E ro (Yq ()) a u σ:=rfl
theorem Vi:fops E ro AsZ a u σ=fops E ro (Sd ()) a u σ:=rfl
theorem FO:fops E ro As0 a u σ=fops E ro (Ha ()) a u σ:=rfl
theorem Mv:fops E ro As2 a u σ=fops E ro (Mu ()) a u σ:=rfl
theorem Mx:fops E ro As3 a u σ=fops E ro (Mw ()) a u σ:=rfl
theorem Al6:fops E ro As4 a u σ=fops E ro (Yr ()) a u σ:=rfl
theorem Vj:fops E ro As1 a u σ=fops E ro (Se ()) a u σ:=rfl
theorem OW:fops E ro Al4 a u σ=fops E ro (KD ()) a u σ:=rfl
theorem AuR(E:Env)(ro:Option Nat)(fn:FuncId):code Tryz.prog nls (Tryz.f81.body.getD .skip) E ro fn=Abe E ro fn:=by kernel_rfl
theorem Z_(E:Env)(args:List Value)(u:Option FrameMode)(σ:FState)(hn:args.length≤(6:Nat)):fcall Tryz.prog nls E 81 args u σ=leaveR Tryz.prog E [.tmp 2] (Abe E none 81 ⟨padTo undef 6 args,fun _=>undef,6,27,[]⟩ u σ):=by
 rw[Al (body:=Tryz.f81.body.getD .skip) Tryz.func81 rfl E args u σ 6 27 (by kernel_rfl) rfl ⟨hn,by decide⟩,AuR]
 rfl
def Bh(_:Unit):List COp:=[⟨fun a σ=>fbox 24 (a.get 0) σ,some 1,fun _=>some true⟩,
 ⟨fun a σ=>.val (.int .i64 0) σ,some 2,fun _=>some true⟩]
def AhB:List COp:=Bh ()
def Bi(_:Unit):List COp:=[⟨fun a σ=>ffield 0 (a.get 1) σ,some 6,fun _=>some true⟩,
 ⟨fun a σ=>fload none (a.get 6) σ,some 7,fun _=>some true⟩,
 ⟨fun a σ=>.enter 107 [(a.get 7),(.int .i64 0),(.int .i64 6)] σ,some 8,fun _=>some true⟩,
 ⟨fun a σ=>fun1 Tryz.prog (Op.unary .not) (a.get 8) σ,some 9,fun _=>some true⟩]
def AhC:List COp:=Bi ()
def Bj(_:Unit):List COp:=[⟨fun a σ=>.val (.int .i64 4) σ,some 2,fun _=>some true⟩]
def AhD:List COp:=Bj ()
def Bl(_:Unit):List COp:=[⟨fun a σ=>ffield 0 (a.get 1) σ,some 10,fun _=>some true⟩,
 ⟨fun a σ=>fload none (a.get 10) σ,some 11,fun _=>some true⟩,
 ⟨fun a σ=>i_eql Tryz.prog 3 (.tmp 11) (.const (.int .i64 1)) (a.get 11) (.int .i64 1) σ,some 12,fun _=>some true⟩,
 ⟨fun a σ=>.val (a.get 12) σ,some 13,fun _=>some true⟩,
 ⟨fun a σ=>ffield 0 (a.get 1) σ,some 14,fun a=>gd (a.get 13) false⟩,
 ⟨fun a σ=>fload none (a.get 14) σ,some 15,fun a=>gd (a.get 13) false⟩,
 ⟨fun a σ=>i_eql Tryz.prog 3 (.tmp 15) (.const (.int .i64 2)) (a.get 15) (.int .i64 2) σ,some 16,fun a=>gd (a.get 13) false⟩,
 ⟨fun a σ=>fpick (a.get 13) (.bool true) (a.get 16) σ,some 17,fun _=>some true⟩,
 ⟨fun a σ=>.val (a.get 17) σ,some 3,fun _=>some true⟩]
def AhE:List COp:=Bl ()
def Bm(_:Unit):List COp:=[⟨fun a σ=>ffield 0 (a.get 1) σ,some 18,fun _=>some true⟩,
 ⟨fun a σ=>fload none (a.get 18) σ,some 19,fun _=>some true⟩,
 ⟨fun a σ=>i_eql Tryz.prog 3 (.tmp 19) (.const (.int .i64 3)) (a.get 19) (.int .i64 3) σ,some 20,fun _=>some true⟩,
 ⟨fun a σ=>.val (a.get 20) σ,some 21,fun _=>some true⟩,
 ⟨fun a σ=>ffield 0 (a.get 1) σ,some 22,fun a=>gd (a.get 21) false⟩,
 ⟨fun a σ=>fload none (a.get 22) σ,some 23,fun a=>gd (a.get 21) false⟩,
 ⟨fun a σ=>i_eql Tryz.prog 3 (.tmp 23) (.const (.int .i64 4)) (a.get 23) (.int .i64 4) σ,some 24,fun a=>gd (a.get 21) false⟩,
 ⟨fun a σ=>fpick (a.get 21) (.bool true) (a.get 24) σ,some 25,fun _=>some true⟩,
 ⟨fun a σ=>.val (a.get 25) σ,some 4,fun _=>some true⟩]
def AhF:List COp:=Bm ()
def Bn(_:Unit):List COp:=[⟨fun a σ=>ffield 0 (a.get 1) σ,some 26,fun _=>some true⟩,
 ⟨fun a σ=>fload none (a.get 26) σ,some 27,fun _=>some true⟩,
 ⟨fun a σ=>i_eql Tryz.prog 3 (.tmp 27) (.const (.int .i64 5)) (a.get 27) (.int .i64 5) σ,some 28,fun _=>some true⟩,
 ⟨fun a σ=>.val (a.get 28) σ,some 29,fun _=>some true⟩,
 ⟨fun a σ=>ffield 0 (a.get 1) σ,some 30,fun a=>gd (a.get 29) false⟩,
 ⟨fun a σ=>fload none (a.get 30) σ,some 31,fun a=>gd (a.get 29) false⟩,
 ⟨fun a σ=>i_eql Tryz.prog 3 (.tmp 31) (.const (.int .i64 6)) (a.get 31) (.int .i64 6) σ,some 32,fun a=>gd (a.get 29) false⟩,
 ⟨fun a σ=>fpick (a.get 29) (.bool true) (a.get 32) σ,some 33,fun _=>some true⟩,
 ⟨fun a σ=>.val (a.get 33) σ,some 5,fun _=>some true⟩]
def AhG:List COp:=Bn ()
def Bo(_:Unit):List COp:=[⟨fun a σ=>.val (a.get 3) σ,some 34,fun _=>some true⟩,
 ⟨fun a σ=>fun1 Tryz.prog (Op.unary .not) (a.get 34) σ,some 35,fun _=>some true⟩,
 ⟨fun a σ=>.val (a.get 35) σ,some 36,fun _=>some true⟩,
 ⟨fun a σ=>ffield 1 (a.get 1) σ,some 37,fun a=>gd (a.get 36) true⟩,
 ⟨fun a σ=>fload none (a.get 37) σ,some 38,fun a=>gd (a.get 36) true⟩,
 ⟨fun a σ=>i_neq Tryz.prog 3 (.tmp 38) (.const (.int .i64 0)) (a.get 38) (.int .i64 0) σ,some 39,fun a=>gd (a.get 36) true⟩,
 ⟨fun a σ=>fpick (a.get 36) (a.get 39) (.bool false) σ,some 40,fun _=>some true⟩,
 ⟨fun a σ=>.val (a.get 40) σ,some 41,fun _=>some true⟩,
 ⟨fun a σ=>.val (a.get 4) σ,some 42,fun a=>gd (a.get 41) false⟩,
 ⟨fun a σ=>fun1 Tryz.prog (Op.unary .not) (a.get 42) σ,some 43,fun a=>gd (a.get 41) false⟩,
 ⟨fun a σ=>.val (a.get 43) σ,some 44,fun a=>gd (a.get 41) false⟩,
 ⟨fun a σ=>ffield 2 (a.get 1) σ,some 45,fun a=>gd (a.get 44) true⟩,
 ⟨fun a σ=>fload none (a.get 45) σ,some 46,fun a=>gd (a.get 44) true⟩,
 ⟨fun a σ=>i_neq Tryz.prog 9 (.tmp 46) (.const (.string ⟨#[]⟩)) (a.get 46) (.string ⟨#[]⟩) σ,some 47,fun a=>gd (a.get 44) true⟩,
 ⟨fun a σ=>fpick (a.get 44) (a.get 47) (.bool false) σ,some 48,fun a=>gd (a.get 41) false⟩,
 ⟨fun a σ=>fpick (a.get 41) (.bool true) (a.get 48) σ,some 49,fun _=>some true⟩,
 ⟨fun a σ=>.val (a.get 49) σ,some 50,fun _=>some true⟩,
 ⟨fun a σ=>.val (a.get 5) σ,some 51,fun a=>gd (a.get 50) false⟩,
 ⟨fun a σ=>fun1 Tryz.prog (Op.unary .not) (a.get 51) σ,some 52,fun a=>gd (a.get 50) false⟩,
 ⟨fun a σ=>.val (a.get 52) σ,some 53,fun a=>gd (a.get 50) false⟩,
 ⟨fun a σ=>ffield 3 (a.get 1) σ,some 54,fun a=>gd (a.get 53) true⟩,
 ⟨fun a σ=>fload none (a.get 54) σ,some 55,fun a=>gd (a.get 53) true⟩,
 ⟨fun a σ=>flenL (a.get 55) σ,some 56,fun a=>gd (a.get 53) true⟩,
 ⟨fun a σ=>i_gtr Tryz.prog 3 (.tmp 56) (.const (.int .i64 0)) (a.get 56) (.int .i64 0) σ,some 57,fun a=>gd (a.get 53) true⟩,
 ⟨fun a σ=>fpick (a.get 53) (a.get 57) (.bool false) σ,some 58,fun a=>gd (a.get 50) false⟩,
 ⟨fun a σ=>fpick (a.get 50) (.bool true) (a.get 58) σ,some 59,fun _=>some true⟩,
 ⟨fun a σ=>.val (a.get 59) σ,some 60,fun _=>some true⟩,
 ⟨fun a σ=>ffield 0 (a.get 1) σ,some 61,fun a=>gd (a.get 60) false⟩,
 ⟨fun a σ=>fload none (a.get 61) σ,some 62,fun a=>gd (a.get 60) false⟩,
 ⟨fun a σ=>i_eql Tryz.prog 3 (.tmp 62) (.const (.int .i64 5)) (a.get 62) (.int .i64 5) σ,some 63,fun a=>gd (a.get 60) false⟩,
 ⟨fun a σ=>.val (a.get 63) σ,some 64,fun a=>gd (a.get 60) false⟩,
 ⟨fun a σ=>ffield 3 (a.get 1) σ,some 65,fun a=>gd (a.get 64) true⟩,
 ⟨fun a σ=>fload none (a.get 65) σ,some 66,fun a=>gd (a.get 64) true⟩,
 ⟨fun a σ=>flenL (a.get 66) σ,some 67,fun a=>gd (a.get 64) true⟩,
 ⟨fun a σ=>i_neq Tryz.prog 3 (.tmp 67) (.const (.int .i64 2)) (a.get 67) (.int .i64 2) σ,some 68,fun a=>gd (a.get 64) true⟩,
 ⟨fun a σ=>fpick (a.get 64) (a.get 68) (.bool false) σ,some 69,fun a=>gd (a.get 60) false⟩,
 ⟨fun a σ=>fpick (a.get 60) (.bool true) (a.get 69) σ,some 70,fun _=>some true⟩]
def AhH:List COp:=Bo ()
def Bp(_:Unit):List COp:=[⟨fun a σ=>.val (.int .i64 1) σ,some 2,fun _=>some true⟩]
def AhI:List COp:=Bp ()
def Bq(_:Unit):List COp:=[⟨fun a σ=>ffield 0 (a.get 1) σ,some 71,fun _=>some true⟩,
 ⟨fun a σ=>fload none (a.get 71) σ,some 72,fun _=>some true⟩]
def AhJ:List COp:=Bq ()
def Br(_:Unit):List COp:=[⟨fun a σ=>i_eql Tryz.prog 3 (.tmp 72) (.const (.int .i64 1)) (a.get 72) (.int .i64 1) σ,some 74,fun _=>some true⟩,
 ⟨fun a σ=>.val (a.get 74) σ,some 73,fun _=>some true⟩]
def AhK:List COp:=Br ()
def AY(_:Unit):List COp:=[⟨fun a σ=>ffield 1 (a.get 1) σ,some 75,fun _=>some true⟩,
 ⟨fun a σ=>fload none (a.get 75) σ,some 76,fun _=>some true⟩,
 ⟨fun a σ=>.enter 107 [(a.get 76),(.int .i64 0),(.int .i64 1)] σ,some 77,fun _=>some true⟩,
 ⟨fun a σ=>fun1 Tryz.prog (Op.unary .not) (a.get 77) σ,some 78,fun _=>some true⟩]
def Aar:List COp:=AY ()
def AZ(_:Unit):List COp:=[⟨fun a σ=>.val (.int .i64 13) σ,some 2,fun _=>some true⟩]
def Aas:List COp:=AZ ()
def A0(_:Unit):List COp:=[⟨fun a σ=>i_eql Tryz.prog 3 (.tmp 72) (.const (.int .i64 2)) (a.get 72) (.int .i64 2) σ,some 80,fun _=>some true⟩,
 ⟨fun a σ=>.val (a.get 80) σ,some 79,fun _=>some true⟩]
def Aat:List COp:=A0 ()
def A1(_:Unit):List COp:=[⟨fun a σ=>ffield 1 (a.get 1) σ,some 81,fun _=>some true⟩,
 ⟨fun a σ=>fload none (a.get 81) σ,some 82,fun _=>some true⟩,
 ⟨fun a σ=>.enter 107 [(a.get 82),(.int .i64 (-999999999)),(.int .i64 999999999)] σ,some 83,fun _=>some true⟩,
 ⟨fun a σ=>fun1 Tryz.prog (Op.unary .not) (a.get 83) σ,some 84,fun _=>some true⟩]
def Aau:List COp:=A1 ()
def A2(_:Unit):List COp:=[⟨fun a σ=>.val (.int .i64 13) σ,some 2,fun _=>some true⟩]
def Aav:List COp:=A2 ()
def A3(_:Unit):List COp:=[⟨fun a σ=>i_eql Tryz.prog 3 (.tmp 72) (.const (.int .i64 3)) (a.get 72) (.int .i64 3) σ,some 86,fun _=>some true⟩,
 ⟨fun a σ=>.val (a.get 86) σ,some 85,fun _=>some true⟩]
def Aaw:List COp:=A3 ()
def A4(_:Unit):List COp:=[⟨fun a σ=>ffield 2 (a.get 1) σ,some 87,fun _=>some true⟩,
 ⟨fun a σ=>fload none (a.get 87) σ,some 88,fun _=>some true⟩,
 ⟨fun a σ=>.enter 158 [(a.get 88)] σ,some 89,fun _=>some true⟩,
 ⟨fun a σ=>fun1 Tryz.prog (Op.unary .not) (a.get 89) σ,some 90,fun _=>some true⟩]
def Aax:List COp:=A4 ()
def A5(_:Unit):List COp:=[⟨fun a σ=>.val (.int .i64 2) σ,some 2,fun _=>some true⟩]
def Aay:List COp:=A5 ()
def A6(_:Unit):List COp:=[⟨fun a σ=>i_eql Tryz.prog 3 (.tmp 72) (.const (.int .i64 4)) (a.get 72) (.int .i64 4) σ,some 92,fun _=>some true⟩,
 ⟨fun a σ=>.val (a.get 92) σ,some 91,fun _=>some true⟩]
def Aaz:List COp:=A6 ()
def A7(_:Unit):List COp:=[⟨fun a σ=>ffield 2 (a.get 1) σ,some 93,fun _=>some true⟩,
 ⟨fun a σ=>fload none (a.get 93) σ,some 94,fun _=>some true⟩,
 ⟨fun a σ=>.enter 159 [(a.get 94)] σ,some 95,fun _=>some true⟩,
 ⟨fun a σ=>.val (a.get 95) σ,some 2,fun _=>some true⟩]
def AaA:List COp:=A7 ()
def A8(_:Unit):List COp:=[⟨fun a σ=>.val (.int .i64 0) σ,some 2,fun _=>some true⟩]
def AaB:List COp:=A8 ()
def D3(E:Env)(ro:Option Nat)(fn:FuncId):RunF:=(seqR (fops E ro AhB) (seqR (seqR (fops E ro AhC) (condR (fun a=>(a.get 9)) (seqR (fops E ro AhD) retR) skipR)) (seqR (fops E ro AhE) (seqR (fops E ro AhF) (seqR (fops E ro AhG) (seqR (seqR (fops E ro AhH) (condR (fun a=>(a.get 70)) (seqR (fops E ro AhI) retR) skipR)) (seqR (seqR (fops E ro AhJ) (blockR 0 (seqR (fops E ro AhK) (condR (fun a=>(a.get 73)) (seqR (fops E ro Aar) (condR (fun a=>(a.get 78)) (seqR (fops E ro Aas) retR) skipR)) (seqR (fops E ro Aat) (condR (fun a=>(a.get 79)) (seqR (fops E ro Aau) (condR (fun a=>(a.get 84)) (seqR (fops E ro Aav) retR) skipR)) (seqR (fops E ro Aaw) (condR (fun a=>(a.get 85)) (seqR (fops E ro Aax) (condR (fun a=>(a.get 90)) (seqR (fops E ro Aay) retR) skipR)) (seqR (fops E ro Aaz) (condR (fun a=>(a.get 91)) (seqR (fops E ro AaA) retR) skipR)))))))))) (seqR (fops E ro AaB) retR))))))))
theorem AM:fops E ro AhB a u σ=fops E ro (Bh ()) a u σ:=rfl
theorem AN:fops E ro AhC a u σ=fops E ro (Bi ()) a u σ:=rfl
theorem AO:fops E ro AhD a u σ=fops E ro (Bj ()) a u σ:=rfl
theorem AP:fops E ro AhE a u σ=fops E ro (Bl ()) a u σ:=rfl
theorem AQ:fops E ro AhF a u σ=fops E ro (Bm ()) a u σ:=rfl
theorem AR:fops E ro AhG a u σ=fops E ro (Bn ()) a u σ:=rfl
theorem AS:fops E ro AhH a u σ=fops E ro (Bo ()) a u σ:=rfl
theorem AT:fops E ro AhI a u σ=fops E ro (Bp ()) a u σ:=rfl
theorem AU:fops E ro AhJ a u σ=fops E ro (Bq ()) a u σ:=rfl
theorem AV:fops E ro AhK a u σ=fops E ro (Br ()) a u σ:=rfl
theorem Ax:fops E ro Aar a u σ=fops E ro (AY ()) a u σ:=rfl
theorem Ay:fops E ro Aas a u σ=fops E ro (AZ ()) a u σ:=rfl
theorem Az:fops E ro Aat a u σ=fops E ro (A0 ()) a u σ:=rfl
theorem AA:fops E ro Aau a u σ=fops E ro (A1 ()) a u σ:=rfl
theorem AB:fops E ro Aav a u σ=fops E ro (A2 ()) a u σ:=rfl
theorem AC:fops E ro Aaw a u σ=fops E ro (A3 ()) a u σ:=rfl
theorem AD:fops E ro Aax a u σ=fops E ro (A4 ()) a u σ:=rfl
theorem AE:fops E ro Aay a u σ=fops E ro (A5 ()) a u σ:=rfl
theorem AF:fops E ro Aaz a u σ=fops E ro (A6 ()) a u σ:=rfl
theorem AG:fops E ro AaA a u σ=fops E ro (A7 ()) a u σ:=rfl
theorem AH:fops E ro AaB a u σ=fops E ro (A8 ()) a u σ:=rfl
theorem An4(E:Env)(ro:Option Nat)(fn:FuncId):code Tryz.prog nls (Tryz.f130.body.getD .skip) E ro fn=D3 E ro fn:=by kernel_rfl
theorem C7(E:Env)(args:List Value)(u:Option FrameMode)(σ:FState)(hn:args.length≤(6:Nat)):fcall Tryz.prog nls E 130 args u σ=leaveR Tryz.prog E [.tmp 2] (D3 E none 130 ⟨padTo undef 6 args,fun _=>undef,6,96,[]⟩ u σ):=by
 rw[Al (body:=Tryz.f130.body.getD .skip) Tryz.func130 rfl E args u σ 6 96 (by kernel_rfl) rfl ⟨hn,by decide⟩,An4]
 rfl
def Sf(_:Unit):List COp:=[⟨fun a σ=>fbox 24 (a.get 0) σ,some 1,fun _=>some true⟩,
 ⟨fun a σ=>.val (.int .i64 0) σ,some 2,fun _=>some true⟩]
def As5:List COp:=Sf ()
def Sg(_:Unit):List COp:=[⟨fun a σ=>fload (some 4) (a.get 1) σ,some 3,fun _=>some true⟩,
 ⟨fun a σ=>.enter 52 [(a.get 3),(.int .i64 2000)] σ,some 4,fun _=>some true⟩,
 ⟨fun a σ=>i_gtr Tryz.prog 3 (.tmp 4) (.const (.int .i64 2000)) (a.get 4) (.int .i64 2000) σ,some 5,fun _=>some true⟩]
def As6:List COp:=Sg ()
def Av2(_:Unit):List COp:=[⟨fun a σ=>.val (.int .i64 8) σ,some 2,fun _=>some true⟩]
def Aws:List COp:=Av2 ()
def Sh(_:Unit):List COp:=[⟨fun a σ=>.val (.int .i64 0) σ,some 2,fun _=>some true⟩]
def As7:List COp:=Sh ()
def Abf(E:Env)(ro:Option Nat)(fn:FuncId):RunF:=(seqR (fops E ro As5) (seqR (seqR (fops E ro As6) (condR (fun a=>(a.get 5)) (seqR (fops E ro Aws) retR) skipR)) (seqR (fops E ro As7) retR)))
theorem Vk:fops E ro As5 a u σ=fops E ro (Sf ()) a u σ:=rfl
theorem Vl:fops E ro As6 a u σ=fops E ro (Sg ()) a u σ:=rfl
theorem Vm:fops E ro As7 a u σ=fops E ro (Sh ()) a u σ:=rfl
theorem AuS(E:Env)(ro:Option Nat)(fn:FuncId):code Tryz.prog nls (Tryz.f82.body.getD .skip) E ro fn=Abf E ro fn:=by kernel_rfl
theorem Aaa(E:Env)(args:List Value)(u:Option FrameMode)(σ:FState)(hn:args.length≤(2:Nat)):fcall Tryz.prog nls E 82 args u σ=leaveR Tryz.prog E [.tmp 2] (Abf E none 82 ⟨padTo undef 2 args,fun _=>undef,2,6,[]⟩ u σ):=by
 rw[Al (body:=Tryz.f82.body.getD .skip) Tryz.func82 rfl E args u σ 2 6 (by kernel_rfl) rfl ⟨hn,by decide⟩,AuS]
 rfl
def L_(_:Unit):List COp:=[⟨fun a σ=>fbox 24 (a.get 0) σ,some 2,fun _=>some true⟩,
 ⟨fun a σ=>.val (.int .i64 0) σ,some 4,fun _=>some true⟩]
def Asa:List COp:=L_ ()
def Mb(_:Unit):List COp:=[⟨fun a σ=>.val (.int .i64 1) σ,some 5,fun _=>some true⟩]
def Asb:List COp:=Mb ()
def Md(_:Unit):List COp:=[⟨fun a σ=>.val (.int .i64 0) σ,some 6,fun _=>some true⟩]
def Asc:List COp:=Md ()
def FN(_:Unit):List COp:=[⟨fun a σ=>.val (a.get 6) σ,some 7,fun _=>some true⟩,
 ⟨fun a σ=>ffield 3 (a.get 2) σ,some 8,fun _=>some true⟩,
 ⟨fun a σ=>fload none (a.get 8) σ,some 9,fun _=>some true⟩,
 ⟨fun a σ=>flenL (a.get 9) σ,some 10,fun _=>some true⟩,
 ⟨fun a σ=>i_lss Tryz.prog 3 (.tmp 7) (.tmp 10) (a.get 7) (a.get 10) σ,some 11,fun _=>some true⟩,
 ⟨fun a σ=>.val (a.get 11) σ,some 12,fun _=>some true⟩,
 ⟨fun a σ=>.val (a.get 5) σ,some 13,fun a=>gd (a.get 12) true⟩,
 ⟨fun a σ=>.val (a.get 1) σ,some 14,fun a=>gd (a.get 12) true⟩,
 ⟨fun a σ=>i_leq Tryz.prog 3 (.tmp 13) (.tmp 14) (a.get 13) (a.get 14) σ,some 15,fun a=>gd (a.get 12) true⟩,
 ⟨fun a σ=>fpick (a.get 12) (a.get 15) (.bool false) σ,some 16,fun _=>some true⟩]
def Asd:List COp:=FN ()
def R1(_:Unit):List COp:=[⟨fun a σ=>.val (a.get 5) σ,some 19,fun _=>some true⟩,
 ⟨fun a σ=>ffield 3 (a.get 2) σ,some 20,fun _=>some true⟩,
 ⟨fun a σ=>fload none (a.get 20) σ,some 21,fun _=>some true⟩,
 ⟨fun a σ=>.val (a.get 6) σ,some 22,fun _=>some true⟩,
 ⟨fun a σ=>findex (none,4) (a.get 21) (a.get 22) σ,some 23,fun _=>some true⟩,
 ⟨fun a σ=>fload (some 4) (a.get 23) σ,some 24,fun _=>some true⟩,
 ⟨fun a σ=>.val (a.get 1) σ,some 25,fun _=>some true⟩,
 ⟨fun a σ=>.val (a.get 5) σ,some 26,fun _=>some true⟩,
 ⟨fun a σ=>i_sub Tryz.prog 3 (.tmp 25) (.tmp 26) (a.get 25) (a.get 26) σ,some 27,fun _=>some true⟩,
 ⟨fun a σ=>.enter 52 [(a.get 24),(a.get 27)] σ,some 28,fun _=>some true⟩,
 ⟨fun a σ=>i_add Tryz.prog 3 (.tmp 19) (.tmp 28) (a.get 19) (a.get 28) σ,some 29,fun _=>some true⟩,
 ⟨fun a σ=>.val (a.get 29) σ,some 5,fun _=>some true⟩]
def Asf:List COp:=R1 ()
def R0(_:Unit):List COp:=[⟨fun a σ=>.val (a.get 6) σ,some 17,fun _=>some true⟩,
 ⟨fun a σ=>i_add Tryz.prog 3 (.tmp 17) (.const (.int .i64 1)) (a.get 17) (.int .i64 1) σ,some 18,fun _=>some true⟩,
 ⟨fun a σ=>.val (a.get 18) σ,some 6,fun _=>some true⟩]
def Ase:List COp:=R0 ()
def FA(E:Env)(ro:Option Nat)(fn:FuncId):RunF:=(seqR (seqR (fops E ro Asd) (condR (fun a=>(a.get 16)) skipR (exitR 0))) (seqR (blockR 1 (fops E ro Asf)) (fops E ro Ase)))
def Mf(_:Unit):List COp:=[⟨fun a σ=>.val (a.get 5) σ,some 30,fun _=>some true⟩,
 ⟨fun a σ=>.val (a.get 30) σ,some 4,fun _=>some true⟩]
def Asg:List COp:=Mf ()
def VN(E:Env)(ro:Option Nat)(fn:FuncId):RunF:=(seqR (fops E ro Asa) (seqR (fops E ro Asb) (seqR (seqR (fops E ro Asc) (blockR 0 (loopR (keepOf nls fn) (FA E ro fn)))) (seqR (fops E ro Asg) retR))))
theorem Ma:fops E ro Asa a u σ=fops E ro (L_ ()) a u σ:=rfl
theorem Mc:fops E ro Asb a u σ=fops E ro (Mb ()) a u σ:=rfl
theorem Me:fops E ro Asc a u σ=fops E ro (Md ()) a u σ:=rfl
theorem EK:fops E ro Asd a u σ=fops E ro (FN ()) a u σ:=rfl
theorem U6:fops E ro Asf a u σ=fops E ro (R1 ()) a u σ:=rfl
theorem U5:fops E ro Ase a u σ=fops E ro (R0 ()) a u σ:=rfl
theorem Mg:fops E ro Asg a u σ=fops E ro (Mf ()) a u σ:=rfl
theorem AuE(E:Env)(ro:Option Nat)(fn:FuncId):code Tryz.prog nls (Tryz.f52.body.getD .skip) E ro fn=VN E ro fn:=by kernel_rfl
theorem Ps(E:Env)(args:List Value)(u:Option FrameMode)(σ:FState)(hn:args.length≤(7:Nat)):fcall Tryz.prog nls E 52 args u σ=leaveR Tryz.prog E [.tmp 4] (VN E none 52 ⟨padTo undef 7 args,fun _=>undef,7,31,[]⟩ u σ):=by
 rw[Al (body:=Tryz.f52.body.getD .skip) Tryz.func52 rfl E args u σ 7 31 (by kernel_rfl) rfl ⟨hn,by decide⟩,AuE]
 rfl
def DJ(_:Unit):List COp:=[⟨fun a σ=>.val (.bool false) σ,some 2,fun _=>some true⟩]
def AiQ:List COp:=DJ ()
def DK(_:Unit):List COp:=[⟨fun a σ=>.val (a.get 0) σ,some 5,fun _=>some true⟩,
 ⟨fun a σ=>flenS (a.get 5) σ,some 6,fun _=>some true⟩,
 ⟨fun a σ=>i_lss Tryz.prog 3 (.tmp 6) (.const (.int .i64 1)) (a.get 6) (.int .i64 1) σ,some 7,fun _=>some true⟩,
 ⟨fun a σ=>.val (a.get 7) σ,some 8,fun _=>some true⟩,
 ⟨fun a σ=>.val (a.get 0) σ,some 9,fun a=>gd (a.get 8) false⟩,
 ⟨fun a σ=>flenS (a.get 9) σ,some 10,fun a=>gd (a.get 8) false⟩,
 ⟨fun a σ=>i_gtr Tryz.prog 3 (.tmp 10) (.const (.int .i64 20)) (a.get 10) (.int .i64 20) σ,some 11,fun a=>gd (a.get 8) false⟩,
 ⟨fun a σ=>fpick (a.get 8) (.bool true) (a.get 11) σ,some 12,fun _=>some true⟩,
 ⟨fun a σ=>.val (a.get 12) σ,some 13,fun _=>some true⟩,
 ⟨fun a σ=>.val (a.get 0) σ,some 14,fun a=>gd (a.get 13) false⟩,
 ⟨fun a σ=>findexS (a.get 14) (.int .i64 0) σ,some 15,fun a=>gd (a.get 13) false⟩,
 ⟨fun a σ=>.enter 183 [(a.get 15)] σ,some 16,fun a=>gd (a.get 13) false⟩,
 ⟨fun a σ=>fpick (a.get 13) (.bool true) (a.get 16) σ,some 17,fun _=>some true⟩,
 ⟨fun a σ=>.val (a.get 17) σ,some 18,fun _=>some true⟩,
 ⟨fun a σ=>.val (a.get 0) σ,some 19,fun a=>gd (a.get 18) false⟩,
 ⟨fun a σ=>findexS (a.get 19) (.int .i64 0) σ,some 20,fun a=>gd (a.get 18) false⟩,
 ⟨fun a σ=>i_eql Tryz.prog 5 (.tmp 20) (.const (.int .u8 45)) (a.get 20) (.int .u8 45) σ,some 21,fun a=>gd (a.get 18) false⟩,
 ⟨fun a σ=>.val (a.get 21) σ,some 22,fun a=>gd (a.get 18) false⟩,
 ⟨fun a σ=>.val (a.get 0) σ,some 23,fun a=>gd (a.get 22) true⟩,
 ⟨fun a σ=>flenS (a.get 23) σ,some 24,fun a=>gd (a.get 22) true⟩,
 ⟨fun a σ=>i_gtr Tryz.prog 3 (.tmp 24) (.const (.int .i64 1)) (a.get 24) (.int .i64 1) σ,some 25,fun a=>gd (a.get 22) true⟩,
 ⟨fun a σ=>fpick (a.get 22) (a.get 25) (.bool false) σ,some 26,fun a=>gd (a.get 18) false⟩,
 ⟨fun a σ=>.val (a.get 26) σ,some 27,fun a=>gd (a.get 18) false⟩,
 ⟨fun a σ=>.val (a.get 0) σ,some 28,fun a=>gd (a.get 27) true⟩,
 ⟨fun a σ=>findexS (a.get 28) (.int .i64 1) σ,some 29,fun a=>gd (a.get 27) true⟩,
 ⟨fun a σ=>.enter 183 [(a.get 29)] σ,some 30,fun a=>gd (a.get 27) true⟩,
 ⟨fun a σ=>fpick (a.get 27) (a.get 30) (.bool false) σ,some 31,fun a=>gd (a.get 18) false⟩,
 ⟨fun a σ=>fpick (a.get 18) (.bool true) (a.get 31) σ,some 32,fun _=>some true⟩]
def AiR:List COp:=DK ()
def Gn(_:Unit):List COp:=[⟨fun a σ=>.val (.bool false) σ,some 2,fun _=>some true⟩]
def AiS:List COp:=Gn ()
def HY(_:Unit):List COp:=[⟨fun a σ=>.val (.int .i64 0) σ,some 3,fun _=>some true⟩]
def AiT:List COp:=HY ()
def BR(_:Unit):List COp:=[⟨fun a σ=>.val (a.get 3) σ,some 33,fun _=>some true⟩,
 ⟨fun a σ=>.val (a.get 0) σ,some 34,fun _=>some true⟩,
 ⟨fun a σ=>flenS (a.get 34) σ,some 35,fun _=>some true⟩,
 ⟨fun a σ=>i_lss Tryz.prog 3 (.tmp 33) (.tmp 35) (a.get 33) (a.get 35) σ,some 36,fun _=>some true⟩]
def AiU:List COp:=BR ()
def BX(_:Unit):List COp:=[⟨fun a σ=>.val (a.get 0) σ,some 39,fun _=>some true⟩,
 ⟨fun a σ=>.val (a.get 3) σ,some 40,fun _=>some true⟩,
 ⟨fun a σ=>findexS (a.get 39) (a.get 40) σ,some 41,fun _=>some true⟩,
 ⟨fun a σ=>.val (a.get 41) σ,some 4,fun _=>some true⟩]
def AiW:List COp:=BX ()
def BY(_:Unit):List COp:=[⟨fun a σ=>.val (a.get 4) σ,some 42,fun _=>some true⟩,
 ⟨fun a σ=>i_leq Tryz.prog 5 (.const (.int .u8 97)) (.tmp 42) (.int .u8 97) (a.get 42) σ,some 43,fun _=>some true⟩,
 ⟨fun a σ=>.val (a.get 43) σ,some 44,fun _=>some true⟩,
 ⟨fun a σ=>.val (a.get 4) σ,some 45,fun a=>gd (a.get 44) true⟩,
 ⟨fun a σ=>i_leq Tryz.prog 5 (.tmp 45) (.const (.int .u8 122)) (a.get 45) (.int .u8 122) σ,some 46,fun a=>gd (a.get 44) true⟩,
 ⟨fun a σ=>fpick (a.get 44) (a.get 46) (.bool false) σ,some 47,fun _=>some true⟩,
 ⟨fun a σ=>.val (a.get 47) σ,some 48,fun _=>some true⟩,
 ⟨fun a σ=>.val (a.get 4) σ,some 49,fun a=>gd (a.get 48) false⟩,
 ⟨fun a σ=>.enter 183 [(a.get 49)] σ,some 50,fun a=>gd (a.get 48) false⟩,
 ⟨fun a σ=>fpick (a.get 48) (.bool true) (a.get 50) σ,some 51,fun _=>some true⟩]
def AiX:List COp:=BY ()
def BZ(_:Unit):List COp:=[⟨fun a σ=>.val (a.get 4) σ,some 52,fun _=>some true⟩]
def AiY:List COp:=BZ ()
def B0(_:Unit):List COp:=[⟨fun a σ=>i_eql Tryz.prog 5 (.tmp 52) (.const (.int .u8 45)) (a.get 52) (.int .u8 45) σ,some 54,fun _=>some true⟩,
 ⟨fun a σ=>.val (a.get 54) σ,some 53,fun _=>some true⟩]
def AiZ:List COp:=B0 ()
def BD(_:Unit):List COp:=[⟨fun a σ=>i_eql Tryz.prog 5 (.tmp 52) (.const (.int .u8 43)) (a.get 52) (.int .u8 43) σ,some 55,fun _=>some true⟩,
 ⟨fun a σ=>.val (a.get 55) σ,some 53,fun _=>some true⟩]
def AaJ:List COp:=BD ()
def BE(_:Unit):List COp:=[⟨fun a σ=>i_eql Tryz.prog 5 (.tmp 52) (.const (.int .u8 42)) (a.get 52) (.int .u8 42) σ,some 56,fun _=>some true⟩,
 ⟨fun a σ=>.val (a.get 56) σ,some 53,fun _=>some true⟩]
def AaK:List COp:=BE ()
def BF(_:Unit):List COp:=[⟨fun a σ=>i_eql Tryz.prog 5 (.tmp 52) (.const (.int .u8 47)) (a.get 52) (.int .u8 47) σ,some 57,fun _=>some true⟩,
 ⟨fun a σ=>.val (a.get 57) σ,some 53,fun _=>some true⟩]
def AaL:List COp:=BF ()
def BG(_:Unit):List COp:=[⟨fun a σ=>i_eql Tryz.prog 5 (.tmp 52) (.const (.int .u8 60)) (a.get 52) (.int .u8 60) σ,some 58,fun _=>some true⟩,
 ⟨fun a σ=>.val (a.get 58) σ,some 53,fun _=>some true⟩]
def AaM:List COp:=BG ()
def BH(_:Unit):List COp:=[⟨fun a σ=>i_eql Tryz.prog 5 (.tmp 52) (.const (.int .u8 62)) (a.get 52) (.int .u8 62) σ,some 59,fun _=>some true⟩,
 ⟨fun a σ=>.val (a.get 59) σ,some 53,fun _=>some true⟩]
def AaN:List COp:=BH ()
def BI(_:Unit):List COp:=[⟨fun a σ=>i_eql Tryz.prog 5 (.tmp 52) (.const (.int .u8 61)) (a.get 52) (.int .u8 61) σ,some 60,fun _=>some true⟩,
 ⟨fun a σ=>.val (a.get 60) σ,some 53,fun _=>some true⟩]
def AaO:List COp:=BI ()
def BJ(_:Unit):List COp:=[⟨fun a σ=>i_eql Tryz.prog 5 (.tmp 52) (.const (.int .u8 63)) (a.get 52) (.int .u8 63) σ,some 61,fun _=>some true⟩,
 ⟨fun a σ=>.val (a.get 61) σ,some 53,fun _=>some true⟩]
def AaP:List COp:=BJ ()
def BK(_:Unit):List COp:=[⟨fun a σ=>i_eql Tryz.prog 5 (.tmp 52) (.const (.int .u8 33)) (a.get 52) (.int .u8 33) σ,some 62,fun _=>some true⟩,
 ⟨fun a σ=>.val (a.get 62) σ,some 53,fun _=>some true⟩]
def AaQ:List COp:=BK ()
def BL(_:Unit):List COp:=[⟨fun a σ=>.val (.bool false) σ,some 2,fun _=>some true⟩]
def AaR:List COp:=BL ()
def BW(_:Unit):List COp:=[⟨fun a σ=>.val (a.get 3) σ,some 37,fun _=>some true⟩,
 ⟨fun a σ=>i_add Tryz.prog 3 (.tmp 37) (.const (.int .i64 1)) (a.get 37) (.int .i64 1) σ,some 38,fun _=>some true⟩,
 ⟨fun a σ=>.val (a.get 38) σ,some 3,fun _=>some true⟩]
def AiV:List COp:=BW ()
def Eo(E:Env)(ro:Option Nat)(fn:FuncId):RunF:=(seqR (seqR (fops E ro AiU) (condR (fun a=>(a.get 36)) skipR (exitR 0))) (seqR (blockR 1 (seqR (fops E ro AiW) (seqR (seqR (fops E ro AiX) (condR (fun a=>(a.get 51)) (exitR 1) skipR)) (seqR (seqR (fops E ro AiY) (blockR 2 (seqR (seqR (fops E ro AiZ) (condR (fun a=>(a.get 53)) skipR (seqR (fops E ro AaJ) (condR (fun a=>(a.get 53)) skipR (seqR (fops E ro AaK) (condR (fun a=>(a.get 53)) skipR (seqR (fops E ro AaL) (condR (fun a=>(a.get 53)) skipR (seqR (fops E ro AaM) (condR (fun a=>(a.get 53)) skipR (seqR (fops E ro AaN) (condR (fun a=>(a.get 53)) skipR (seqR (fops E ro AaO) (condR (fun a=>(a.get 53)) skipR (seqR (fops E ro AaP) (condR (fun a=>(a.get 53)) skipR (fops E ro AaQ))))))))))))))))) (condR (fun a=>(a.get 53)) (exitR 1) skipR)))) (seqR (fops E ro AaR) retR))))) (fops E ro AiV)))
def FK(_:Unit):List COp:=[⟨fun a σ=>.val (.bool true) σ,some 2,fun _=>some true⟩]
def AaS:List COp:=FK ()
def Zx(E:Env)(ro:Option Nat)(fn:FuncId):RunF:=(seqR (fops E ro AiQ) (seqR (seqR (fops E ro AiR) (condR (fun a=>(a.get 32)) (seqR (fops E ro AiS) retR) skipR)) (seqR (seqR (fops E ro AiT) (blockR 0 (loopR (keepOf nls fn) (Eo E ro fn)))) (seqR (fops E ro AaS) retR))))
theorem Dl:fops E ro AiQ a u σ=fops E ro (DJ ()) a u σ:=rfl
theorem Dm:fops E ro AiR a u σ=fops E ro (DK ()) a u σ:=rfl
theorem Gp:fops E ro AiS a u σ=fops E ro (Gn ()) a u σ:=rfl
theorem I1:fops E ro AiT a u σ=fops E ro (HY ()) a u σ:=rfl
theorem Bs:fops E ro AiU a u σ=fops E ro (BR ()) a u σ:=rfl
theorem Bv:fops E ro AiW a u σ=fops E ro (BX ()) a u σ:=rfl
theorem Bw:fops E ro AiX a u σ=fops E ro (BY ()) a u σ:=rfl
theorem Bz:fops E ro AiY a u σ=fops E ro (BZ ()) a u σ:=rfl
theorem BA:fops E ro AiZ a u σ=fops E ro (B0 ()) a u σ:=rfl
theorem A9:fops E ro AaJ a u σ=fops E ro (BD ()) a u σ:=rfl
theorem A_:fops E ro AaK a u σ=fops E ro (BE ()) a u σ:=rfl
theorem Ba:fops E ro AaL a u σ=fops E ro (BF ()) a u σ:=rfl
theorem Bb:fops E ro AaM a u σ=fops E ro (BG ()) a u σ:=rfl
theorem Bc:fops E ro AaN a u σ=fops E ro (BH ()) a u σ:=rfl
theorem Bd:fops E ro AaO a u σ=fops E ro (BI ()) a u σ:=rfl
theorem Be:fops E ro AaP a u σ=fops E ro (BJ ()) a u σ:=rfl
theorem Bf:fops E ro AaQ a u σ=fops E ro (BK ()) a u σ:=rfl
theorem Bg:fops E ro AaR a u σ=fops E ro (BL ()) a u σ:=rfl
theorem Bu:fops E ro AiV a u σ=fops E ro (BW ()) a u σ:=rfl
theorem G8:fops E ro AaS a u σ=fops E ro (FK ()) a u σ:=rfl
theorem Aoj(E:Env)(ro:Option Nat)(fn:FuncId):code Tryz.prog nls (Tryz.f158.body.getD .skip) E ro fn=Zx E ro fn:=by kernel_rfl
theorem Afz(E:Env)(args:List Value)(u:Option FrameMode)(σ:FState)(hn:args.length≤(5:Nat)):fcall Tryz.prog nls E 158 args u σ=leaveR Tryz.prog E [.tmp 2] (Zx E none 158 ⟨padTo undef 5 args,fun _=>undef,5,63,[]⟩ u σ):=by
 rw[Al (body:=Tryz.f158.body.getD .skip) Tryz.func158 rfl E args u σ 5 63 (by kernel_rfl) rfl ⟨hn,by decide⟩,Aoj]
 rfl
def Kp(_:Unit):List COp:=[⟨fun a σ=>.val (.int .i64 0) σ,some 2,fun _=>some true⟩]
def Ai0:List COp:=Kp ()
def Kq(_:Unit):List COp:=[⟨fun a σ=>.val (a.get 0) σ,some 4,fun _=>some true⟩,
 ⟨fun a σ=>flenS (a.get 4) σ,some 5,fun _=>some true⟩,
 ⟨fun a σ=>i_gtr Tryz.prog 3 (.tmp 5) (.const (.int .i64 60)) (a.get 5) (.int .i64 60) σ,some 6,fun _=>some true⟩]
def Ai1:List COp:=Kq ()
def QZ(_:Unit):List COp:=[⟨fun a σ=>.val (.int .i64 8) σ,some 2,fun _=>some true⟩]
def Ai2:List COp:=QZ ()
def Q0(_:Unit):List COp:=[⟨fun a σ=>.val (.int .i64 0) σ,some 3,fun _=>some true⟩]
def Ai3:List COp:=Q0 ()
def Gq(_:Unit):List COp:=[⟨fun a σ=>.val (a.get 3) σ,some 7,fun _=>some true⟩,
 ⟨fun a σ=>.val (a.get 0) σ,some 8,fun _=>some true⟩,
 ⟨fun a σ=>flenS (a.get 8) σ,some 9,fun _=>some true⟩,
 ⟨fun a σ=>i_lss Tryz.prog 3 (.tmp 7) (.tmp 9) (a.get 7) (a.get 9) σ,some 10,fun _=>some true⟩]
def Ai4:List COp:=Gq ()
def H0(_:Unit):List COp:=[⟨fun a σ=>.val (a.get 0) σ,some 13,fun _=>some true⟩,
 ⟨fun a σ=>.val (a.get 3) σ,some 14,fun _=>some true⟩,
 ⟨fun a σ=>findexS (a.get 13) (a.get 14) σ,some 15,fun _=>some true⟩,
 ⟨fun a σ=>i_lss Tryz.prog 5 (.tmp 15) (.const (.int .u8 32)) (a.get 15) (.int .u8 32) σ,some 16,fun _=>some true⟩,
 ⟨fun a σ=>.val (a.get 16) σ,some 17,fun _=>some true⟩,
 ⟨fun a σ=>.val (a.get 0) σ,some 18,fun a=>gd (a.get 17) false⟩,
 ⟨fun a σ=>.val (a.get 3) σ,some 19,fun a=>gd (a.get 17) false⟩,
 ⟨fun a σ=>findexS (a.get 18) (a.get 19) σ,some 20,fun a=>gd (a.get 17) false⟩,
 ⟨fun a σ=>i_gtr Tryz.prog 5 (.tmp 20) (.const (.int .u8 126)) (a.get 20) (.int .u8 126) σ,some 21,fun a=>gd (a.get 17) false⟩,
 ⟨fun a σ=>fpick (a.get 17) (.bool true) (a.get 21) σ,some 22,fun _=>some true⟩]
def Ai6:List COp:=H0 ()
def H3(_:Unit):List COp:=[⟨fun a σ=>.val (.int .i64 13) σ,some 2,fun _=>some true⟩]
def Ai7:List COp:=H3 ()
def HZ(_:Unit):List COp:=[⟨fun a σ=>.val (a.get 3) σ,some 11,fun _=>some true⟩,
 ⟨fun a σ=>i_add Tryz.prog 3 (.tmp 11) (.const (.int .i64 1)) (a.get 11) (.int .i64 1) σ,some 12,fun _=>some true⟩,
 ⟨fun a σ=>.val (a.get 12) σ,some 3,fun _=>some true⟩]
def Ai5:List COp:=HZ ()
def Fy(E:Env)(ro:Option Nat)(fn:FuncId):RunF:=(seqR (seqR (fops E ro Ai4) (condR (fun a=>(a.get 10)) skipR (exitR 0))) (seqR (blockR 1 (seqR (fops E ro Ai6) (condR (fun a=>(a.get 22)) (seqR (fops E ro Ai7) retR) skipR))) (fops E ro Ai5)))
def Q1(_:Unit):List COp:=[⟨fun a σ=>.val (.int .i64 0) σ,some 2,fun _=>some true⟩]
def Ai8:List COp:=Q1 ()
def Zy(E:Env)(ro:Option Nat)(fn:FuncId):RunF:=(seqR (fops E ro Ai0) (seqR (seqR (fops E ro Ai1) (condR (fun a=>(a.get 6)) (seqR (fops E ro Ai2) retR) skipR)) (seqR (seqR (fops E ro Ai3) (blockR 0 (loopR (keepOf nls fn) (Fy E ro fn)))) (seqR (fops E ro Ai8) retR))))
theorem OI:fops E ro Ai0 a u σ=fops E ro (Kp ()) a u σ:=rfl
theorem OJ:fops E ro Ai1 a u σ=fops E ro (Kq ()) a u σ:=rfl
theorem Ady:fops E ro Ai2 a u σ=fops E ro (QZ ()) a u σ:=rfl
theorem Adz:fops E ro Ai3 a u σ=fops E ro (Q0 ()) a u σ:=rfl
theorem Gr:fops E ro Ai4 a u σ=fops E ro (Gq ()) a u σ:=rfl
theorem I3:fops E ro Ai6 a u σ=fops E ro (H0 ()) a u σ:=rfl
theorem I4:fops E ro Ai7 a u σ=fops E ro (H3 ()) a u σ:=rfl
theorem I2:fops E ro Ai5 a u σ=fops E ro (HZ ()) a u σ:=rfl
theorem AdA:fops E ro Ai8 a u σ=fops E ro (Q1 ()) a u σ:=rfl
theorem Aok(E:Env)(ro:Option Nat)(fn:FuncId):code Tryz.prog nls (Tryz.f159.body.getD .skip) E ro fn=Zy E ro fn:=by kernel_rfl
theorem AfA(E:Env)(args:List Value)(u:Option FrameMode)(σ:FState)(hn:args.length≤(4:Nat)):fcall Tryz.prog nls E 159 args u σ=leaveR Tryz.prog E [.tmp 2] (Zy E none 159 ⟨padTo undef 4 args,fun _=>undef,4,23,[]⟩ u σ):=by
 rw[Al (body:=Tryz.f159.body.getD .skip) Tryz.func159 rfl E args u σ 4 23 (by kernel_rfl) rfl ⟨hn,by decide⟩,Aok]
 rfl
end Go.Proofs.YtokieofohmgjdaaGreatDoor
namespace Go.Proofs.YtokieofohmgjdaaGreatDoor
open Go Go.Eng
attribute [local congr] Ac Aj Ai Ad Ah
attribute [-go_sem] List.range_succ
theorem SO(n:Nat)(t:ByteArray)(ht:t∈symTexts)(σ:FState):(env (n+20)).call 158 [.string t] none σ=.ret (.bool true) none σ:=by
 simp only[symTexts,List.mem_cons,List.not_mem_nil,or_false] at ht
 rcases ht with rfl|rfl|rfl|rfl|rfl|rfl|rfl|rfl<;>kernel_rfl
theorem Zc(n:Nat)(t:ByteArray)(ht:t∈strTexts)(σ:FState):(env (n+20)).call 159 [.string t] none σ=.ret (.int .i64 0) none σ:=by
 simp only[strTexts,List.mem_cons,List.not_mem_nil,or_false] at ht
 rcases ht with rfl|rfl|rfl|rfl|rfl<;>kernel_rfl
inductive Whole:Int→Int→ByteArray→Nat→Prop
 | nil:Whole 0 0 ⟨#[]⟩ 0
 | bool (z:Int) (h:0≤z∧z≤1):Whole 1 z ⟨#[]⟩ 0
 | num (z:Int) (h : -999999999≤z∧z≤999999999):Whole 2 z ⟨#[]⟩ 0
 | sym (t:ByteArray) (h:t∈symTexts):Whole 3 0 t 0
 | str (t:ByteArray) (h:t∈strTexts):Whole 4 0 t 0
 | pair:Whole 5 0 ⟨#[]⟩ 2
 | vec (l:Nat):Whole 6 0 ⟨#[]⟩ l
theorem Agu(n:Nat)(k z:Int)(t:ByteArray)(l:Nat)(p:Option Addr)(c:Nat)(h:Whole k z t l)(σ:FState)(hw:Wf σ):
  Gives ((env (n+22)).call 130 [.agg #[.int .i64 k,.int .i64 z,.string t,.slice p l c]] none σ) σ fun w _=>w=.int .i64 0:=by
 rw[Ag _ 130 _ _ rfl,C7 _ _ _ _ (by simp),Af]
 unfold D3
 have d0:decide (Int.ofNat 0>0)=false:=by decide
 have e2:(Int.ofNat 2==2)=true:=by decide
 have fin:Ext σ (σ.push (.cells [.int .i64 k,.int .i64 z,.string t,.slice p l c] TD) none)∧Wf (σ.push (.cells [.int .i64 k,.int .i64 z,.string t,.slice p l c] TD) none):=⟨(Ext.refl _).push _ _,hw.push _ _⟩
 have w0:(decide ((0:Int)≤0)&&decide ((0:Int)≤6))=true:=by decide
 have w1:(decide ((0:Int)≤1)&&decide ((1:Int)≤6))=true:=by decide
 have w2:(decide ((0:Int)≤2)&&decide ((2:Int)≤6))=true:=by decide
 have w3:(decide ((0:Int)≤3)&&decide ((3:Int)≤6))=true:=by decide
 have w4:(decide ((0:Int)≤4)&&decide ((4:Int)≤6))=true:=by decide
 have w5:(decide ((0:Int)≤5)&&decide ((5:Int)≤6))=true:=by decide
 have w6:(decide ((0:Int)≤6)&&decide ((6:Int)≤6))=true:=by decide
 cases h with
 | nil=>
  simp -implicitDefEqProofs only[go_sem,Int.reduceBEq,AM,Bh,AN,Bi,AO,Bj,AP,Bl,AQ,Bm,AR,Bn,AS,Bo,AT,Bp,AU,Bq,AV,Br,Ax,AY,Ay,AZ,Az,A0,AA,A1,AB,A2,AC,A3,AD,A4,AE,A5,AF,A6,AG,A7,AH,A8,d0,e2,AL,w0,w1,w2,w3,w4,w5,w6,Bool.or_true,Bool.or_false,Ae]
  exact⟨_,_,rfl,fin.1,fin.2,rfl⟩
 | bool z h=>
  have hz:(decide ((0:Int)≤z)&&decide (z≤1))=true:=by simp[h]
  simp -implicitDefEqProofs only[go_sem,Int.reduceBEq,AM,Bh,AN,Bi,AO,Bj,AP,Bl,AQ,Bm,AR,Bn,AS,Bo,AT,Bp,AU,Bq,AV,Br,Ax,AY,Ay,AZ,Az,A0,AA,A1,AB,A2,AC,A3,AD,A4,AE,A5,AF,A6,AG,A7,AH,A8,d0,e2,AL,w0,w1,w2,w3,w4,w5,w6,Bool.or_true,Bool.or_false,Ae,hz]
  exact⟨_,_,rfl,fin.1,fin.2,rfl⟩
 | num z h=>
  have hz:(decide ((-999999999:Int)≤z)&&decide (z≤999999999))=true:=by simp[h]
  simp -implicitDefEqProofs only[go_sem,Int.reduceBEq,AM,Bh,AN,Bi,AO,Bj,AP,Bl,AQ,Bm,AR,Bn,AS,Bo,AT,Bp,AU,Bq,AV,Br,Ax,AY,Ay,AZ,Az,A0,AA,A1,AB,A2,AC,A3,AD,A4,AE,A5,AF,A6,AG,A7,AH,A8,d0,e2,AL,w0,w1,w2,w3,w4,w5,w6,Bool.or_true,Bool.or_false,Ae,hz]
  exact⟨_,_,rfl,fin.1,fin.2,rfl⟩
 | sym t h=>
  have hs:=fun σ=>SO (n+1) t h σ
  simp -implicitDefEqProofs only[go_sem,Int.reduceBEq,AM,Bh,AN,Bi,AO,Bj,AP,Bl,AQ,Bm,AR,Bn,AS,Bo,AT,Bp,AU,Bq,AV,Br,Ax,AY,Ay,AZ,Az,A0,AA,A1,AB,A2,AC,A3,AD,A4,AE,A5,AF,A6,AG,A7,AH,A8,d0,e2,AL,w0,w1,w2,w3,w4,w5,w6,Bool.or_true,Bool.or_false,Ae,hs]
  exact⟨_,_,rfl,fin.1,fin.2,rfl⟩
 | str t h=>
  have hs:=fun σ=>Zc (n+1) t h σ
  simp -implicitDefEqProofs only[go_sem,Int.reduceBEq,AM,Bh,AN,Bi,AO,Bj,AP,Bl,AQ,Bm,AR,Bn,AS,Bo,AT,Bp,AU,Bq,AV,Br,Ax,AY,Ay,AZ,Az,A0,AA,A1,AB,A2,AC,A3,AD,A4,AE,A5,AF,A6,AG,A7,AH,A8,d0,e2,AL,w0,w1,w2,w3,w4,w5,w6,Bool.or_true,Bool.or_false,Ae,hs]
  exact⟨_,_,rfl,fin.1,fin.2,rfl⟩
 | pair=>
  simp -implicitDefEqProofs only[go_sem,Int.reduceBEq,AM,Bh,AN,Bi,AO,Bj,AP,Bl,AQ,Bm,AR,Bn,AS,Bo,AT,Bp,AU,Bq,AV,Br,Ax,AY,Ay,AZ,Az,A0,AA,A1,AB,A2,AC,A3,AD,A4,AE,A5,AF,A6,AG,A7,AH,A8,d0,e2,AL,w0,w1,w2,w3,w4,w5,w6,Bool.or_true,Bool.or_false,Ae]
  exact⟨_,_,rfl,fin.1,fin.2,rfl⟩
 | vec l=>
  simp -implicitDefEqProofs only[go_sem,Int.reduceBEq,AM,Bh,AN,Bi,AO,Bj,AP,Bl,AQ,Bm,AR,Bn,AS,Bo,AT,Bp,AU,Bq,AV,Br,Ax,AY,Ay,AZ,Az,A0,AA,A1,AB,A2,AC,A3,AD,A4,AE,A5,AF,A6,AG,A7,AH,A8,d0,e2,AL,w0,w1,w2,w3,w4,w5,w6,Bool.or_true,Bool.or_false,Ae]
  exact⟨_,_,rfl,fin.1,fin.2,rfl⟩
end Go.Proofs.YtokieofohmgjdaaGreatDoor
namespace Go.Proofs.YtokieofohmgjdaaGreatDoor
open Go Go.Eng
attribute [local congr] Ac Aj Ai Ad Ah
attribute [-go_sem] List.range_succ
def WholeD:D→Prop
 | .mk k z t ds=>Whole k z t ds.length
theorem AqM(m:Nat)(R:Nat→Prop)(ds:List D)(p:Option Addr)(c bx:Nat)(k z:Int)(t:ByteArray)(hds:ds.length<1000000)(hO:∀(i:Nat) (d:D),ds[i]? = some d→∀v σ',Wf σ'→LaidR R σ' v d→Gives ((env m).call 81 [v] none σ') σ' fun r _=>r=.int .i64 0):
  ∀(j fuel i:Nat) (f g:Nat→Value) (σ:FState),ds.length-i=j→j<fuel→i≤ds.length→Wf σ→LaidRE R σ p 0 ds→σ.cells bx=some [.int .i64 k,.int .i64 z,.string t,.slice p ds.length c]→f 1=.pointer (some ⟨bx,0,none⟩)→f 4=.int .i64 (.ofNat i)→
   ∃f' g' σ',floop [] (FB (env m) none 81) fuel (Sl 6 27 f g []) none σ=.done (.exit 0) (Sl 6 27 f' g' []) none σ'∧Ext σ σ'∧Wf σ':=by
 intro j
 induction j with
 | zero=>
  intro fuel i f g σ hj hf hi hw hE hc f1 f4
  obtain⟨fuel,rfl⟩:∃q,fuel=q+1:=⟨fuel-1,by omega⟩
  obtain rfl:i=ds.length:=by omega
  have d0:decide (Int.ofNat ds.length<Int.ofNat ds.length)=false:=by simp
  rw[Am]
  unfold FB
  simp -implicitDefEqProofs only[go_sem,FO,Ha,f1,f4,hc,d0]
  exact⟨_,_,_,rfl,Ext.refl _,hw⟩
 | succ j ih=>
  intro fuel i f g σ hj hf hi hw hE hc f1 f4
  obtain⟨fuel,rfl⟩:∃q,fuel=q+1:=⟨fuel-1,by omega⟩
  have hlt:i<ds.length:=by omega
  have d0:decide (Int.ofNat i<Int.ofNat ds.length)=true:=by simp;omega
  have hd:ds[i]? = some ds[i]:=List.getElem?_eq_getElem hlt
  obtain⟨b,off,cs,rfl,hRb,hcs,hle,hL⟩:=LaidRE.get hE hd
  rw[Nat.zero_add] at hle hL
  obtain⟨_,σ3,e3,x3,hw3,rfl⟩:=hO i ds[i] hd _ σ hw hL
  have a1:=D4 i (by omega)
  have z0:((0:Int)==0)=true:=rfl
  have ih':=fun f g h1 h4=>ih fuel (i+1) f g σ3 (by omega) (by omega) (by omega) hw3 (hE.keep fun b cs hb hc=>⟨(x3.cells (hw.cells hc)).trans hc,hb⟩) ((x3.cells (hw.cells hc)).trans hc) h1 h4
  unfold FB at ih'
  rw[Am]
  unfold FB
  simp -implicitDefEqProofs only[go_sem,FO,Ha,Vj,Se,Mv,Mu,Mx,Mw,f1,f4,hc,d0,hlt,hcs,hle,e3,z0,a1,Ae]
  generalize hff:upd _ 4 _=f2
  generalize hgg:upd _ 17 _=g2
  obtain⟨f3,g3,σ4,e4,x4,hw4⟩:=ih' f2 g2 (by rw[←hff];simp -implicitDefEqProofs only[go_sem,reduceCtorEq,f1]) (by rw[←hff];simp -implicitDefEqProofs only[go_sem,reduceCtorEq])
  exact⟨f3,g3,σ4,e4,x3.trans x4,hw4⟩
theorem SN(n:Nat)(R:Nat→Prop):∀(N:Nat) (d:D) (pd:List Nat) (v:Value) (σ:FState),d.deep≤N→(∀x∈d.pieces pd,x.2.parts.length<1000∧WholeD x.2)→Wf σ→LaidR R σ v d→
  Gives ((env (n+23+N)).call 81 [v] none σ) σ fun r _=>r=.int .i64 0:=by
 intro N
 induction N with
 | zero=>
  intro d pd v σ hN
  obtain⟨k,z,t,ds⟩:=d
  rw[D.deep] at hN
  omega
 | succ N ih=>
  intro d pd v σ hN hd hw hL
  obtain⟨k,z,t,ds⟩:=d
  have hd0:=hd _ (by rw[D.pieces_eq];exact List.mem_cons_self)
  have hlen:ds.length<1000:=hd0.1
  obtain⟨p,c,rfl,hE⟩:=hL
  obtain⟨M,hM⟩:∃M,n+23+N=M:=⟨_,rfl⟩
  rw[hM] at ih
  rw[show n+23+(N+1)=M+1 by omega,Ag _ 81 _ _ rfl,Z_ _ _ _ _ (by simp),Af]
  unfold Abe
  have x1:Ext σ (σ.push (.cells [.int .i64 k,.int .i64 z,.string t,.slice p ds.length c] TD) none):=(Ext.refl _).push _ _
  have hw1:=hw.push (.cells [.int .i64 k,.int .i64 z,.string t,.slice p ds.length c] TD) none
  have c1:(σ.push (.cells [.int .i64 k,.int .i64 z,.string t,.slice p ds.length c] TD) none).cells σ.next=some [.int .i64 k,.int .i64 z,.string t,.slice p ds.length c]:=by rw[Ab,if_pos rfl];rfl
  obtain⟨_,σ2,e2,x2,hw2,rfl⟩:=Agu (n+1+N) k z t ds.length p c hd0.2 _ hw1
  rw[show n+1+N+22=M by omega] at e2
  have c2:=(x2.cells (hw1.cells c1)).trans c1
  have z0:((0:Int)==0)=true:=rfl
  have hkeep:keepOf nls 81=[]:=by kernel_rfl
  have lp:=fun fuel f g hf h1 h4=>AqM M R ds p c σ.next k z t (by omega) (fun i d hdi v σ' hw' hl=>ih d (pd++[0+i]) v σ' (by rw[D.deep] at hN;have:=Ci (List.mem_of_getElem? hdi);omega) (fun x hx=>hd x (by rw[D.pieces_eq];exact List.mem_cons_of_mem _ (CK pd ds 0 i d hdi x hx))) hw' hl)
   ds.length fuel 0 f g σ2 (by omega) hf (by omega) hw2 (hE.keep fun b cs hb hc=>⟨((x1.trans x2).cells (hw.cells hc)).trans hc,hb⟩) c2 h1 h4
  simp -implicitDefEqProofs only[go_sem,Mo,Mn,Mr,Mq,Mt,Ms,Vi,Sd,e2,z0,Ae,hkeep]
  generalize hbf:bigFuel=fuel
  generalize hff:upd _ 4 _=f1
  generalize hgg:upd _ 9 _=g1
  obtain⟨f',g',σ3,e3,x3,hw3⟩:=lp fuel f1 g1 (by rw[←hbf];show ds.length<1000000000000;omega) (by rw[←hff];simp -implicitDefEqProofs only[go_sem,reduceCtorEq]) (by rw[←hff];simp -implicitDefEqProofs only[go_sem,reduceCtorEq]<;>rfl)
  rw[e3]
  simp -implicitDefEqProofs only[go_sem,OW,KD]
  exact⟨_,_,rfl,(x1.trans x2).trans x3,hw3,rfl⟩
end Go.Proofs.YtokieofohmgjdaaGreatDoor
namespace Go.Proofs.YtokieofohmgjdaaGreatDoor
open Go Go.Eng
attribute [local congr] Ac Aj Ai Ad Ah
attribute [-go_sem] List.range_succ
theorem Ho(ds:List D)(i:Nat)(d:D)(h:ds[i]? = some d):D.counts (ds.take (i+1))=D.counts (ds.take i)+d.count:=by
 rw[List.take_add_one,h,GN]
 simp[D.counts]
theorem C6:∀(ds:List D) (i:Nat),D.counts (ds.take i)≤D.counts ds
 | [],i=>by simp
 | d::ds,0=>by simp[D.counts]
 | d::ds,i+1=>by
  rw[List.take_succ_cons,D.counts,D.counts]
  have:=C6 ds i
  omega
def KPs(m:Nat)(R:Nat→Prop)(d:D):Prop:=∀(v:Value) (mx:Nat) (σ':FState),Wf σ'→LaidR R σ' v d→d.count≤mx→mx≤100000→Gives ((env m).call 52 [v,.int .i64 (.ofNat mx)] none σ') σ' fun r _=>r=.int .i64 (.ofNat d.count)
theorem Apm(m:Nat)(R:Nat→Prop)(ds:List D)(p:Option Addr)(c bx mx:Nat)(k z:Int)(t:ByteArray)(hmx:1+D.counts ds≤mx)(hmx2:mx≤100000)(hds:ds.length<1000000)(hO:∀(i:Nat) (d:D),ds[i]? = some d→KPs m R d):
  ∀(j fuel i:Nat) (f g:Nat→Value) (σ:FState),ds.length-i=j→j<fuel→i≤ds.length→Wf σ→LaidRE R σ p 0 ds→σ.cells bx=some [.int .i64 k,.int .i64 z,.string t,.slice p ds.length c]→f 2=.pointer (some ⟨bx,0,none⟩)→f 1=.int .i64 (.ofNat mx)→f 5=.int .i64 (.ofNat (1+D.counts (ds.take i)))→f 6=.int .i64 (.ofNat i)→
   ∃f' g' σ',floop [30] (FA (env m) none 52) fuel (Sl 7 31 f g []) none σ=.done (.exit 0) (Sl 7 31 f' g' []) none σ'∧Ext σ σ'∧Wf σ'∧f' 5=.int .i64 (.ofNat (1+D.counts ds)):=by
 intro j
 induction j with
 | zero=>
  intro fuel i f g σ hj hf hi hw hE hc f2 f1 f5 f6
  obtain⟨fuel,rfl⟩:∃q,fuel=q+1:=⟨fuel-1,by omega⟩
  obtain rfl:i=ds.length:=by omega
  have d0:decide (Int.ofNat ds.length<Int.ofNat ds.length)=false:=by simp
  rw[Am]
  unfold FA
  simp -implicitDefEqProofs only[go_sem,EK,FN,f2,f6,hc,d0]
  exact⟨_,_,_,rfl,Ext.refl _,hw,by rw[f5,List.take_length]⟩
 | succ j ih=>
  intro fuel i f g σ hj hf hi hw hE hc f2 f1 f5 f6
  obtain⟨fuel,rfl⟩:∃q,fuel=q+1:=⟨fuel-1,by omega⟩
  have hlt:i<ds.length:=by omega
  have d0:decide (Int.ofNat i<Int.ofNat ds.length)=true:=by simp;omega
  have hd:ds[i]? = some ds[i]:=List.getElem?_eq_getElem hlt
  have ht1:=Ho ds i ds[i] hd
  have ht2:=C6 ds (i+1)
  have ht3:=C6 ds i
  have d1:decide (Int.ofNat (1+D.counts (ds.take i))≤Int.ofNat mx)=true:=by simp only[Int.ofNat_eq_natCast,decide_eq_true_eq];omega
  obtain⟨b,off,cs,rfl,hRb,hcs,hle,hL⟩:=LaidRE.get hE hd
  rw[Nat.zero_add] at hle hL
  obtain⟨_,σ3,e3,x3,hw3,rfl⟩:=hO i ds[i] hd _ (mx-(1+D.counts (ds.take i))) σ hw hL (by omega) (by omega)
  have a1:=D4 i (by omega)
  have s1:wrapI (Int.ofNat mx-Int.ofNat (1+D.counts (ds.take i)))=Int.ofNat (mx-(1+D.counts (ds.take i))):=by
   simp only[Int.ofNat_eq_natCast]
   rw[B_ (by omega)]
   omega
  have s2:wrapI (Int.ofNat (1+D.counts (ds.take i))+Int.ofNat ds[i].count)=Int.ofNat (1+D.counts (ds.take (i+1))):=by
   simp only[Int.ofNat_eq_natCast]
   rw[B_ (by omega)]
   omega
  have ih':=fun f g h2 h1 h5 h6=>ih fuel (i+1) f g σ3 (by omega) (by omega) (by omega) hw3 (hE.keep fun b cs hb hc=>⟨(x3.cells (hw.cells hc)).trans hc,hb⟩) ((x3.cells (hw.cells hc)).trans hc) h2 h1 h5 h6
  unfold FA at ih'
  rw[Am]
  unfold FA
  generalize hq:1+D.counts (ds.take i)=q at *
  generalize hq2:1+D.counts (ds.take (i+1))=q2 at *
  simp -implicitDefEqProofs only[go_sem,EK,FN,U5,R0,U6,R1,f1,f2,f5,f6,hc,d0,d1,hlt,hcs,hle,e3,s1,s2,a1,Ae]
  generalize hff:upd _ 6 _=f2'
  generalize hgg:upd _ 18 _=g2
  obtain⟨f3,g3,σ4,e4,x4,hw4,r5⟩:=ih' f2' g2 (by rw[←hff];simp -implicitDefEqProofs only[go_sem,reduceCtorEq,f2]) (by rw[←hff];simp -implicitDefEqProofs only[go_sem,reduceCtorEq,f1]) (by rw[←hff];simp -implicitDefEqProofs only[go_sem,reduceCtorEq]) (by rw[←hff];simp -implicitDefEqProofs only[go_sem,reduceCtorEq])
  exact⟨f3,g3,σ4,e4,x3.trans x4,hw4,r5⟩
theorem Hz(n:Nat)(R:Nat→Prop):∀(N:Nat) (d:D),d.deep≤N→KPs (n+N) R d:=by
 intro N
 induction N with
 | zero=>
  intro d hN
  obtain⟨k,z,t,ds⟩:=d
  rw[D.deep] at hN
  omega
 | succ N ih=>
  intro d hN v mx σ hw hL hcm hmx
  obtain⟨k,z,t,ds⟩:=d
  obtain⟨p,c,rfl,hE⟩:=hL
  obtain⟨M,hM⟩:∃M,n+N=M:=⟨_,rfl⟩
  rw[hM] at ih
  have hcd:(D.mk k z t ds).count=1+D.counts ds:=by rw[D.count];omega
  have hdl:ds.length<1000000:=by
   have:=FF ds [] 0
   rw[D1] at this
   omega
  rw[show n+(N+1)=M+1 by omega,Ag _ 52 _ _ rfl,Ps _ _ _ _ (by simp),Af]
  unfold VN
  have x1:Ext σ (σ.push (.cells [.int .i64 k,.int .i64 z,.string t,.slice p ds.length c] TD) none):=(Ext.refl _).push _ _
  have hw1:=hw.push (.cells [.int .i64 k,.int .i64 z,.string t,.slice p ds.length c] TD) none
  have c1:(σ.push (.cells [.int .i64 k,.int .i64 z,.string t,.slice p ds.length c] TD) none).cells σ.next=some [.int .i64 k,.int .i64 z,.string t,.slice p ds.length c]:=by rw[Ab,if_pos rfl];rfl
  have hkeep:keepOf nls 52=[30]:=by kernel_rfl
  have lp:=fun fuel f g hf h2 h1 h5 h6=>Apm M R ds p c σ.next mx k z t (by omega) hmx hdl (fun i d hdi=>ih d (by rw[D.deep] at hN;have:=Ci (List.mem_of_getElem? hdi);omega))
   ds.length fuel 0 f g _ (by omega) hf (by omega) hw1 (hE.keep fun b cs hb hc=>⟨(x1.cells (hw.cells hc)).trans hc,hb⟩) c1 h2 h1 h5 h6
  simp -implicitDefEqProofs only[go_sem,Ma,L_,Mc,Mb,Me,Md,Ae,hkeep]
  generalize hbf:bigFuel=fuel
  generalize hff:upd _ 6 _=f1
  obtain⟨f',g',σ3,e3,x3,hw3,r5⟩:=lp fuel f1 (fun _=>undef) (by rw[←hbf];show ds.length<1000000000000;omega) (by rw[←hff];simp -implicitDefEqProofs only[go_sem,reduceCtorEq]) (by rw[←hff];simp -implicitDefEqProofs only[go_sem,reduceCtorEq]) (by rw[←hff];simp -implicitDefEqProofs only[go_sem,reduceCtorEq]<;>rfl) (by rw[←hff];simp -implicitDefEqProofs only[go_sem,reduceCtorEq]<;>rfl)
  rw[e3]
  simp -implicitDefEqProofs only[go_sem,Mg,Mf,r5]
  exact⟨_,_,rfl,x1.trans x3,hw3,by rw[hcd]⟩
end Go.Proofs.YtokieofohmgjdaaGreatDoor
namespace Go.Proofs.YtokieofohmgjdaaGreatDoor
open Go Go.Eng
attribute [local congr] Ac Aj Ai Ad Ah
attribute [-go_sem] List.range_succ
theorem NT(d:D):1≤d.count:=by
 cases d
 rw[D.count]
 omega
theorem CJ:∀ds:List D,ds.length≤D.counts ds
 | []=>by simp
 | d::ds=>by
  rw[D.counts,List.length_cons]
  have:=NT d
  have:=CJ ds
  omega
def KPm(m mx:Nat)(R:Nat→Prop)(d:D):Prop:=∀(v:Value) (σ':FState),Wf σ'→LaidR R σ' v d→Gives ((env m).call 52 [v,.int .i64 (.ofNat mx)] none σ') σ' fun r _=>r=.int .i64 (.ofNat (min d.count (mx+1)))
theorem Up(m:Nat)(R:Nat→Prop)(ds:List D)(p:Option Addr)(c bx mx:Nat)(k z:Int)(t:ByteArray)(fuel i:Nat)(f g:Nat→Value)(σ:FState)(hbig:mx≤D.counts (ds.take i))(hi:i≤ds.length)(hw:Wf σ)(hE:LaidRE R σ p 0 ds)(hc:σ.cells bx=some [.int .i64 k,.int .i64 z,.string t,.slice p ds.length c])(f2:f 2=.pointer (some ⟨bx,0,none⟩))(f1:f 1=.int .i64 (.ofNat mx))(f5:f 5=.int .i64 (.ofNat (min (1+D.counts (ds.take i)) (mx+1))))(f6:f 6=.int .i64 (.ofNat i)):
  ∃f' g' σ',floop [30] (FA (env m) none 52) (fuel+1) (Sl 7 31 f g []) none σ=.done (.exit 0) (Sl 7 31 f' g' []) none σ'∧Ext σ σ'∧Wf σ'∧f' 5=.int .i64 (.ofNat (min (1+D.counts ds) (mx+1))):=by
 have h3:=C6 ds i
 have e0:min (1+D.counts (ds.take i)) (mx+1)=mx+1:=by omega
 have e1:min (1+D.counts ds) (mx+1)=mx+1:=by omega
 rw[e0] at f5
 rw[e1]
 have d1:decide (Int.ofNat (mx+1)≤Int.ofNat mx)=false:=by simp only[Int.ofNat_eq_natCast,decide_eq_false_iff_not];omega
 rw[Am]
 unfold FA
 by_cases hlt:i<ds.length
 ·have d0:decide (Int.ofNat i<Int.ofNat ds.length)=true:=by simp;omega
  simp -implicitDefEqProofs only[go_sem,EK,FN,f1,f2,f5,f6,hc,d0,d1]
  exact⟨_,_,_,rfl,Ext.refl _,hw,f5⟩
 ·have d0:decide (Int.ofNat i<Int.ofNat ds.length)=false:=by simp;omega
  simp -implicitDefEqProofs only[go_sem,EK,FN,f1,f2,f5,f6,hc,d0]
  exact⟨_,_,_,rfl,Ext.refl _,hw,f5⟩
theorem Uo(m:Nat)(R:Nat→Prop)(ds:List D)(p:Option Addr)(c bx mx:Nat)(k z:Int)(t:ByteArray)(hmx2:mx≤100000)(hO:∀(d:D) (mx':Nat),mx'<mx→KPm m mx' R d):
  ∀(j fuel i:Nat) (f g:Nat→Value) (σ:FState),mx+1-min (1+D.counts (ds.take i)) (mx+1)≤j→j<fuel→i≤ds.length→Wf σ→LaidRE R σ p 0 ds→σ.cells bx=some [.int .i64 k,.int .i64 z,.string t,.slice p ds.length c]→f 2=.pointer (some ⟨bx,0,none⟩)→f 1=.int .i64 (.ofNat mx)→f 5=.int .i64 (.ofNat (min (1+D.counts (ds.take i)) (mx+1)))→f 6=.int .i64 (.ofNat i)→
   ∃f' g' σ',floop [30] (FA (env m) none 52) fuel (Sl 7 31 f g []) none σ=.done (.exit 0) (Sl 7 31 f' g' []) none σ'∧Ext σ σ'∧Wf σ'∧f' 5=.int .i64 (.ofNat (min (1+D.counts ds) (mx+1))):=by
 intro j
 induction j with
 | zero=>
  intro fuel i f g σ hj hf hi hw hE hc f2 f1 f5 f6
  obtain⟨fuel,rfl⟩:∃q,fuel=q+1:=⟨fuel-1,by omega⟩
  exact Up m R ds p c bx mx k z t fuel i f g σ (by omega) hi hw hE hc f2 f1 f5 f6
 | succ j ih=>
  intro fuel i f g σ hj hf hi hw hE hc f2 f1 f5 f6
  obtain⟨fuel,rfl⟩:∃q,fuel=q+1:=⟨fuel-1,by omega⟩
  by_cases hbig:mx≤D.counts (ds.take i)
  ·exact Up m R ds p c bx mx k z t fuel i f g σ hbig hi hw hE hc f2 f1 f5 f6
  have e0:min (1+D.counts (ds.take i)) (mx+1)=1+D.counts (ds.take i):=by omega
  rw[e0] at f5
  by_cases hlt:i<ds.length
  ·have d0:decide (Int.ofNat i<Int.ofNat ds.length)=true:=by simp;omega
   have hd:ds[i]? = some ds[i]:=List.getElem?_eq_getElem hlt
   have ht1:=Ho ds i ds[i] hd
   have hpos:=NT ds[i]
   have hge:=CJ (ds.take i)
   rw[List.length_take] at hge
   have d1:decide (Int.ofNat (1+D.counts (ds.take i))≤Int.ofNat mx)=true:=by simp only[Int.ofNat_eq_natCast,decide_eq_true_eq];omega
   obtain⟨b,off,cs,rfl,hRb,hcs,hle,hL⟩:=LaidRE.get hE hd
   rw[Nat.zero_add] at hle hL
   obtain⟨_,σ3,e3,x3,hw3,rfl⟩:=hO ds[i] (mx-(1+D.counts (ds.take i))) (by omega) _ σ hw hL
   have a1:=D4 i (by omega)
   have s1:wrapI (Int.ofNat mx-Int.ofNat (1+D.counts (ds.take i)))=Int.ofNat (mx-(1+D.counts (ds.take i))):=by
    simp only[Int.ofNat_eq_natCast]
    rw[B_ (by omega)]
    omega
   have s2:wrapI (Int.ofNat (1+D.counts (ds.take i))+Int.ofNat (min ds[i].count (mx-(1+D.counts (ds.take i))+1)))=Int.ofNat (min (1+D.counts (ds.take (i+1))) (mx+1)):=by
    simp only[Int.ofNat_eq_natCast]
    rw[B_ (by omega)]
    omega
   have ih':=fun f g h2 h1 h5 h6=>ih fuel (i+1) f g σ3 (by omega) (by omega) (by omega) hw3 (hE.keep fun b cs hb hc=>⟨(x3.cells (hw.cells hc)).trans hc,hb⟩) ((x3.cells (hw.cells hc)).trans hc) h2 h1 h5 h6
   unfold FA at ih'
   rw[Am]
   unfold FA
   generalize hq:1+D.counts (ds.take i)=q at *
   generalize hq2:min (1+D.counts (ds.take (i+1))) (mx+1)=q2 at *
   generalize hq3:min ds[i].count (mx-q+1)=q3 at *
   simp -implicitDefEqProofs only[go_sem,EK,FN,U5,R0,U6,R1,f1,f2,f5,f6,hc,d0,d1,hlt,hcs,hle,e3,s1,s2,a1,Ae]
   generalize hff:upd _ 6 _=f2'
   generalize hgg:upd _ 18 _=g2
   obtain⟨f3,g3,σ4,e4,x4,hw4,r5⟩:=ih' f2' g2 (by rw[←hff];simp -implicitDefEqProofs only[go_sem,reduceCtorEq,f2]) (by rw[←hff];simp -implicitDefEqProofs only[go_sem,reduceCtorEq,f1]) (by rw[←hff];simp -implicitDefEqProofs only[go_sem,reduceCtorEq]) (by rw[←hff];simp -implicitDefEqProofs only[go_sem,reduceCtorEq])
   exact⟨f3,g3,σ4,e4,x3.trans x4,hw4,r5⟩
  ·obtain rfl:i=ds.length:=by omega
   rw[List.take_length] at e0 f5
   rw[e0]
   have d0:decide (Int.ofNat ds.length<Int.ofNat ds.length)=false:=by simp
   rw[Am]
   unfold FA
   simp -implicitDefEqProofs only[go_sem,EK,FN,f2,f6,hc,d0]
   exact⟨_,_,_,rfl,Ext.refl _,hw,f5⟩
theorem Avd(n:Nat)(R:Nat→Prop):∀(N mx:Nat) (d:D),mx≤N→N≤100000→KPm (n+N+1) mx R d:=by
 intro N
 induction N with
 | zero=>
  intro mx d hN hN2 v σ hw hL
  obtain⟨k,z,t,ds⟩:=d
  obtain⟨p,c,rfl,hE⟩:=hL
  have hcd:(D.mk k z t ds).count=1+D.counts ds:=by rw[D.count];omega
  obtain rfl:mx=0:=by omega
  rw[show n+0+1=n+1 by omega,Ag _ 52 _ _ rfl,Ps _ _ _ _ (by simp),Af]
  unfold VN
  have x1:Ext σ (σ.push (.cells [.int .i64 k,.int .i64 z,.string t,.slice p ds.length c] TD) none):=(Ext.refl _).push _ _
  have hw1:=hw.push (.cells [.int .i64 k,.int .i64 z,.string t,.slice p ds.length c] TD) none
  have c1:(σ.push (.cells [.int .i64 k,.int .i64 z,.string t,.slice p ds.length c] TD) none).cells σ.next=some [.int .i64 k,.int .i64 z,.string t,.slice p ds.length c]:=by rw[Ab,if_pos rfl];rfl
  have hkeep:keepOf nls 52=[30]:=by kernel_rfl
  have lp:=fun fuel f g hf h2 h1 h5 h6=>Uo n R ds p c σ.next 0 k z t (by omega) (fun d mx' h=>by omega)
   0 fuel 0 f g _ (by omega) hf (by omega) hw1 (hE.keep fun b cs hb hc=>⟨(x1.cells (hw.cells hc)).trans hc,hb⟩) c1 h2 h1 h5 h6
  simp -implicitDefEqProofs only[go_sem,Ma,L_,Mc,Mb,Me,Md,Ae,hkeep]
  generalize hbf:bigFuel=fuel
  generalize hff:upd _ 6 _=f1
  obtain⟨f',g',σ3,e3,x3,hw3,r5⟩:=lp fuel f1 (fun _=>undef) (by rw[←hbf];show 0<1000000000000;omega) (by rw[←hff];simp -implicitDefEqProofs only[go_sem,reduceCtorEq]) (by rw[←hff];simp -implicitDefEqProofs only[go_sem,reduceCtorEq]<;>rfl) (by rw[←hff];simp -implicitDefEqProofs only[go_sem,reduceCtorEq]<;>rfl) (by rw[←hff];simp -implicitDefEqProofs only[go_sem,reduceCtorEq]<;>rfl)
  rw[e3]
  simp -implicitDefEqProofs only[go_sem,Mg,Mf,r5]
  exact⟨_,_,rfl,x1.trans x3,hw3,by rw[hcd]⟩
 | succ N ih=>
  intro mx d hN hN2 v σ hw hL
  obtain⟨k,z,t,ds⟩:=d
  obtain⟨p,c,rfl,hE⟩:=hL
  obtain⟨M,hM⟩:∃M,n+N+1=M:=⟨_,rfl⟩
  rw[hM] at ih
  have hcd:(D.mk k z t ds).count=1+D.counts ds:=by rw[D.count];omega
  rw[show n+(N+1)+1=M+1 by omega,Ag _ 52 _ _ rfl,Ps _ _ _ _ (by simp),Af]
  unfold VN
  have x1:Ext σ (σ.push (.cells [.int .i64 k,.int .i64 z,.string t,.slice p ds.length c] TD) none):=(Ext.refl _).push _ _
  have hw1:=hw.push (.cells [.int .i64 k,.int .i64 z,.string t,.slice p ds.length c] TD) none
  have c1:(σ.push (.cells [.int .i64 k,.int .i64 z,.string t,.slice p ds.length c] TD) none).cells σ.next=some [.int .i64 k,.int .i64 z,.string t,.slice p ds.length c]:=by rw[Ab,if_pos rfl];rfl
  have hkeep:keepOf nls 52=[30]:=by kernel_rfl
  have lp:=fun fuel f g hf h2 h1 h5 h6=>Uo M R ds p c σ.next mx k z t (by omega) (fun d mx' h=>ih mx' d (by omega) (by omega))
   mx fuel 0 f g _ (by simp[D.counts]) hf (by omega) hw1 (hE.keep fun b cs hb hc=>⟨(x1.cells (hw.cells hc)).trans hc,hb⟩) c1 h2 h1 h5 h6
  simp -implicitDefEqProofs only[go_sem,Ma,L_,Mc,Mb,Me,Md,Ae,hkeep]
  generalize hbf:bigFuel=fuel
  generalize hff:upd _ 6 _=f1
  obtain⟨f',g',σ3,e3,x3,hw3,r5⟩:=lp fuel f1 (fun _=>undef) (by rw[←hbf];show mx<1000000000000;omega) (by rw[←hff];simp -implicitDefEqProofs only[go_sem,reduceCtorEq]) (by rw[←hff];simp -implicitDefEqProofs only[go_sem,reduceCtorEq]) (by rw[←hff];simp -implicitDefEqProofs only[go_sem,reduceCtorEq,List.take_zero,D.counts,Nat.add_zero];rw[show min 1 (mx+1)=1 by omega];rfl) (by rw[←hff];simp -implicitDefEqProofs only[go_sem,reduceCtorEq]<;>rfl)
  rw[e3]
  simp -implicitDefEqProofs only[go_sem,Mg,Mf,r5]
  exact⟨_,_,rfl,x1.trans x3,hw3,by rw[hcd]⟩
end Go.Proofs.YtokieofohmgjdaaGreatDoor
namespace Go.Proofs.YtokieofohmgjdaaGreatDoor
open Go Go.Eng
variable (E:Env) (ro:Option Nat) (last:List Nat→RunF) (cl:List Nat) (a:FAct) (u:Option FrameMode) (σ:FState)
def Aa7(_:Unit):List COp:=[⟨fun a σ=>fbox 24 (a.get 0) σ,some 1,fun _=>some true⟩,
 ⟨fun a σ=>.val (.bool false) σ,some 2,fun _=>some true⟩]
def Awu:List COp:=Aa7 ()
def Aa9(_:Unit):List COp:=[⟨fun a σ=>fload (some 4) (a.get 1) σ,some 3,fun _=>some true⟩,
 ⟨fun a σ=>.enter 52 [(a.get 3),(.int .i64 150)] σ,some 4,fun _=>some true⟩,
 ⟨fun a σ=>i_gtr Tryz.prog 3 (.tmp 4) (.const (.int .i64 150)) (a.get 4) (.int .i64 150) σ,some 5,fun _=>some true⟩,
 ⟨fun a σ=>.val (a.get 5) σ,some 6,fun _=>some true⟩,
 ⟨fun a σ=>fload (some 4) (a.get 1) σ,some 7,fun a=>gd (a.get 6) false⟩,
 ⟨fun a σ=>.enter 53 [(a.get 7)] σ,some 8,fun a=>gd (a.get 6) false⟩,
 ⟨fun a σ=>fpick (a.get 6) (.bool true) (a.get 8) σ,some 9,fun _=>some true⟩,
 ⟨fun a σ=>.val (a.get 9) σ,some 2,fun _=>some true⟩]
def Awv:List COp:=Aa9 ()
def Av5(E:Env)(ro:Option Nat)(fn:FuncId):RunF:=(seqR (fops E ro Awu) (seqR (fops E ro Awv) retR))
theorem Aa8:fops E ro Awu a u σ=fops E ro (Aa7 ()) a u σ:=rfl
theorem Aba:fops E ro Awv a u σ=fops E ro (Aa9 ()) a u σ:=rfl
theorem Awj(E:Env)(ro:Option Nat)(fn:FuncId):code Tryz.prog nls (Tryz.f9.body.getD .skip) E ro fn=Av5 E ro fn:=by kernel_rfl
theorem Au5(E:Env)(args:List Value)(u:Option FrameMode)(σ:FState)(hn:args.length≤(2:Nat)):fcall Tryz.prog nls E 9 args u σ=leaveR Tryz.prog E [.tmp 2] (Av5 E none 9 ⟨padTo undef 2 args,fun _=>undef,2,10,[]⟩ u σ):=by
 rw[Al (body:=Tryz.f9.body.getD .skip) Tryz.func9 rfl E args u σ 2 10 (by kernel_rfl) rfl ⟨hn,by decide⟩,Awj]
 rfl
def R2(_:Unit):List COp:=[⟨fun a σ=>fbox 24 (a.get 0) σ,some 1,fun _=>some true⟩,
 ⟨fun a σ=>.val (.bool false) σ,some 2,fun _=>some true⟩]
def Ash:List COp:=R2 ()
def R3(_:Unit):List COp:=[⟨fun a σ=>ffield 2 (a.get 1) σ,some 4,fun _=>some true⟩,
 ⟨fun a σ=>fload none (a.get 4) σ,some 5,fun _=>some true⟩,
 ⟨fun a σ=>flenS (a.get 5) σ,some 6,fun _=>some true⟩,
 ⟨fun a σ=>i_gtr Tryz.prog 3 (.tmp 6) (.const (.int .i64 100)) (a.get 6) (.int .i64 100) σ,some 7,fun _=>some true⟩]
def Asi:List COp:=R3 ()
def XZ(_:Unit):List COp:=[⟨fun a σ=>.val (.bool true) σ,some 2,fun _=>some true⟩]
def Asj:List COp:=XZ ()
def X0(_:Unit):List COp:=[⟨fun a σ=>.val (.int .i64 0) σ,some 3,fun _=>some true⟩]
def Ask:List COp:=X0 ()
def Mh(_:Unit):List COp:=[⟨fun a σ=>.val (a.get 3) σ,some 8,fun _=>some true⟩,
 ⟨fun a σ=>ffield 3 (a.get 1) σ,some 9,fun _=>some true⟩,
 ⟨fun a σ=>fload none (a.get 9) σ,some 10,fun _=>some true⟩,
 ⟨fun a σ=>flenL (a.get 10) σ,some 11,fun _=>some true⟩,
 ⟨fun a σ=>i_lss Tryz.prog 3 (.tmp 8) (.tmp 11) (a.get 8) (a.get 11) σ,some 12,fun _=>some true⟩]
def Asl:List COp:=Mh ()
def R4(_:Unit):List COp:=[⟨fun a σ=>ffield 3 (a.get 1) σ,some 15,fun _=>some true⟩,
 ⟨fun a σ=>fload none (a.get 15) σ,some 16,fun _=>some true⟩,
 ⟨fun a σ=>.val (a.get 3) σ,some 17,fun _=>some true⟩,
 ⟨fun a σ=>findex (none,4) (a.get 16) (a.get 17) σ,some 18,fun _=>some true⟩,
 ⟨fun a σ=>fload (some 4) (a.get 18) σ,some 19,fun _=>some true⟩,
 ⟨fun a σ=>.enter 53 [(a.get 19)] σ,some 20,fun _=>some true⟩]
def Asn:List COp:=R4 ()
def X5(_:Unit):List COp:=[⟨fun a σ=>.val (.bool true) σ,some 2,fun _=>some true⟩]
def Aso:List COp:=X5 ()
def X1(_:Unit):List COp:=[⟨fun a σ=>.val (a.get 3) σ,some 13,fun _=>some true⟩,
 ⟨fun a σ=>i_add Tryz.prog 3 (.tmp 13) (.const (.int .i64 1)) (a.get 13) (.int .i64 1) σ,some 14,fun _=>some true⟩,
 ⟨fun a σ=>.val (a.get 14) σ,some 3,fun _=>some true⟩]
def Asm:List COp:=X1 ()
def Jz(E:Env)(ro:Option Nat)(fn:FuncId):RunF:=(seqR (seqR (fops E ro Asl) (condR (fun a=>(a.get 12)) skipR (exitR 0))) (seqR (blockR 1 (seqR (fops E ro Asn) (condR (fun a=>(a.get 20)) (seqR (fops E ro Aso) retR) skipR))) (fops E ro Asm)))
def X6(_:Unit):List COp:=[⟨fun a σ=>.val (.bool false) σ,some 2,fun _=>some true⟩]
def Asp:List COp:=X6 ()
def Ana(E:Env)(ro:Option Nat)(fn:FuncId):RunF:=(seqR (fops E ro Ash) (seqR (seqR (fops E ro Asi) (condR (fun a=>(a.get 7)) (seqR (fops E ro Asj) retR) skipR)) (seqR (seqR (fops E ro Ask) (blockR 0 (loopR (keepOf nls fn) (Jz E ro fn)))) (seqR (fops E ro Asp) retR))))
theorem U7:fops E ro Ash a u σ=fops E ro (R2 ()) a u σ:=rfl
theorem U8:fops E ro Asi a u σ=fops E ro (R3 ()) a u σ:=rfl
theorem AlF:fops E ro Asj a u σ=fops E ro (XZ ()) a u σ:=rfl
theorem AlG:fops E ro Ask a u σ=fops E ro (X0 ()) a u σ:=rfl
theorem Mi:fops E ro Asl a u σ=fops E ro (Mh ()) a u σ:=rfl
theorem U9:fops E ro Asn a u σ=fops E ro (R4 ()) a u σ:=rfl
theorem AlI:fops E ro Aso a u σ=fops E ro (X5 ()) a u σ:=rfl
theorem AlH:fops E ro Asm a u σ=fops E ro (X1 ()) a u σ:=rfl
theorem AlJ:fops E ro Asp a u σ=fops E ro (X6 ()) a u σ:=rfl
theorem AuF(E:Env)(ro:Option Nat)(fn:FuncId):code Tryz.prog nls (Tryz.f53.body.getD .skip) E ro fn=Ana E ro fn:=by kernel_rfl
theorem AoS(E:Env)(args:List Value)(u:Option FrameMode)(σ:FState)(hn:args.length≤(4:Nat)):fcall Tryz.prog nls E 53 args u σ=leaveR Tryz.prog E [.tmp 2] (Ana E none 53 ⟨padTo undef 4 args,fun _=>undef,4,21,[]⟩ u σ):=by
 rw[Al (body:=Tryz.f53.body.getD .skip) Tryz.func53 rfl E args u σ 4 21 (by kernel_rfl) rfl ⟨hn,by decide⟩,AuF]
 rfl
def Ky(_:Unit):List COp:=[⟨fun a σ=>.val (.bool false) σ,some 2,fun _=>some true⟩]
def AjA:List COp:=Ky ()
def Kz(_:Unit):List COp:=[⟨fun a σ=>.val (a.get 0) σ,some 3,fun _=>some true⟩,
 ⟨fun a σ=>i_leq Tryz.prog 5 (.const (.int .u8 48)) (.tmp 3) (.int .u8 48) (a.get 3) σ,some 4,fun _=>some true⟩,
 ⟨fun a σ=>.val (a.get 4) σ,some 5,fun _=>some true⟩,
 ⟨fun a σ=>.val (a.get 0) σ,some 6,fun a=>gd (a.get 5) true⟩,
 ⟨fun a σ=>i_leq Tryz.prog 5 (.tmp 6) (.const (.int .u8 57)) (a.get 6) (.int .u8 57) σ,some 7,fun a=>gd (a.get 5) true⟩,
 ⟨fun a σ=>fpick (a.get 5) (a.get 7) (.bool false) σ,some 8,fun _=>some true⟩,
 ⟨fun a σ=>.val (a.get 8) σ,some 2,fun _=>some true⟩]
def AjB:List COp:=Kz ()
def ZB(E:Env)(ro:Option Nat)(fn:FuncId):RunF:=(seqR (fops E ro AjA) (seqR (fops E ro AjB) retR))
theorem OR:fops E ro AjA a u σ=fops E ro (Ky ()) a u σ:=rfl
theorem OS:fops E ro AjB a u σ=fops E ro (Kz ()) a u σ:=rfl
theorem Aoq(E:Env)(ro:Option Nat)(fn:FuncId):code Tryz.prog nls (Tryz.f183.body.getD .skip) E ro fn=ZB E ro fn:=by kernel_rfl
theorem AfD(E:Env)(args:List Value)(u:Option FrameMode)(σ:FState)(hn:args.length≤(2:Nat)):fcall Tryz.prog nls E 183 args u σ=leaveR Tryz.prog E [.tmp 2] (ZB E none 183 ⟨padTo undef 2 args,fun _=>undef,2,9,[]⟩ u σ):=by
 rw[Al (body:=Tryz.f183.body.getD .skip) Tryz.func183 rfl E args u σ 2 9 (by kernel_rfl) rfl ⟨hn,by decide⟩,Aoq]
 rfl
end Go.Proofs.YtokieofohmgjdaaGreatDoor
end
