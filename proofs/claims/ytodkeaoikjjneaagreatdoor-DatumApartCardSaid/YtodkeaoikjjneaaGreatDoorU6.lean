/- The reading of the program, and what is so of it: SymOa, SymOb, SymOc, SymOd, SymOe, SymJa, SymCQ, SymJb, SymJc, SymJd, SymJe, SymKa, SymTa, SymKb, SymKc, SymKd, SymKe, SymCZ, SymLA, SymLB, SymPa2, SymLC. -/
import Derived.Test.YtodkeaoikjjneaaGreatDoorU5
import Derived.Test.YtodkeaoikjjneaaGreatDoorU3
import Derived.Test.YtodkeaoikjjneaaGreatDoorU4
set_option linter.unusedSimpArgs false
set_option linter.unusedVariables false
noncomputable section
/- The order of data: numbers and texts. -/
namespace Go.Proofs.YtodkeaoikjjneaaGreatDoor
open Go Go.Eng
attribute [local congr] andThen_congr fops_congr fdraw_congr afterOp_congr drawF_congr
attribute [-go_sem] List.range_succ
def ordI (a b : Int) : Int:=if a < b then -1 else if a > b then 1 else 0
theorem ordI_zero (a b : Int) : ordI a b = 0 ↔ a = b:=by
  unfold ordI
  constructor
  · intro h
    split at h
    · omega
    · split at h
      · omega
      · omega
  · intro h
    rw [if_neg (by omega),if_neg (by omega)]
theorem isNaN_go (n : Nat) (a : Int) (σ : FState) : (env (n + 1)).call 143 [.int .i64 a] none σ = .ret (.bool false) none σ:=by
  rw [env_call _ 143 _ _ rfl,enter143 _ _ _ _ (by simp),Sl_start]
  unfold run143
  have h : (a == a) = true:=by simp
  simp -implicitDefEqProofs only [go_sem,↓reduceIte,Nat.reduceLT,Nat.reduceEqDiff,Nat.reduceAdd,Nat.reduceMul,Nat.reduceLeDiff,Nat.reduceSub,r143_0_go,r143_0U,r143_1_go,r143_1U,Option.getD_some,List.getElem?_cons_zero,h]
theorem cmpInt_go (n : Nat) (a b : Int) (σ : FState) : (env (n + 2)).call 120 [.int .i64 a,.int .i64 b] none σ = .ret (.int .i64 (ordI a b)) none σ:=by
  rw [env_call _ 120 _ _ rfl,enter120 _ _ _ _ (by simp),Sl_start]
  unfold run120 ordI
  by_cases h1 : a < b
  · simp -implicitDefEqProofs only [go_sem,↓reduceIte,Nat.reduceLT,Nat.reduceEqDiff,Nat.reduceAdd,Nat.reduceMul,Nat.reduceLeDiff,Nat.reduceSub,r120_0_go,r120_0U,r120_1_go,r120_1U,r120_2_go,r120_2U,r120_3_go,r120_3U,r120_7_go,r120_7U,r120_9_go,r120_9U,r120_10_go,r120_10U,Option.getD_some,List.getElem?_cons_zero,List.getElem?_cons_succ,isNaN_go,skipR_go,h1,decide_true]
  · by_cases h2 : a > b
    · simp -implicitDefEqProofs only [go_sem,↓reduceIte,Nat.reduceLT,Nat.reduceEqDiff,Nat.reduceAdd,Nat.reduceMul,Nat.reduceLeDiff,Nat.reduceSub,r120_0_go,r120_0U,r120_1_go,r120_1U,r120_2_go,r120_2U,r120_3_go,r120_3U,r120_7_go,r120_7U,r120_9_go,r120_9U,r120_11_go,r120_11U,r120_12_go,r120_12U,Option.getD_some,List.getElem?_cons_zero,List.getElem?_cons_succ,isNaN_go,skipR_go,h1,h2,decide_true,decide_false]
    · simp -implicitDefEqProofs only [go_sem,↓reduceIte,Nat.reduceLT,Nat.reduceEqDiff,Nat.reduceAdd,Nat.reduceMul,Nat.reduceLeDiff,Nat.reduceSub,r120_0_go,r120_0U,r120_1_go,r120_1U,r120_2_go,r120_2U,r120_3_go,r120_3U,r120_7_go,r120_7U,r120_9_go,r120_9U,r120_11_go,r120_11U,r120_13_go,r120_13U,Option.getD_some,List.getElem?_cons_zero,List.getElem?_cons_succ,isNaN_go,skipR_go,h1,h2,decide_true,decide_false]
theorem cmpRun_go (n : Nat) (a b : ByteArray) (σ : FState) : (env (n + 1)).call 210 [.string a,.string b] none σ = .ret (.int .i64 (Extern.BytealgCompare.cmp a b)) none σ:=by
  rw [env_call _ 210 _ _ rfl]
  unfold fcall
  have h : (cfn Tryz.prog nls 210).un = none:=by kernel_rfl
  rw [h]
  show fextern Tryz.prog 210 [.string a,.string b] none σ = _
  unfold fextern
  have h2 : prun Tryz.prog (callFunc 210 [Value.string a,.string b].toArray) = some (.ok (.value (.int .i64 (Extern.BytealgCompare.cmp a b)))):=by kernel_rfl
  rw [h2]
  rfl
theorem cmp_self (a : ByteArray) : Extern.BytealgCompare.cmp a a = 0:=by
  unfold Extern.BytealgCompare.cmp
  have h : ((List.range (min a.size a.size)).find? fun i => a[i]! != a[i]!) = none:=by
    rw [List.find?_eq_none]
    intro x _
    simp
  rw [h]
  simp
theorem cmp_zero (a b : ByteArray) (h : Extern.BytealgCompare.cmp a b = 0) : a = b:=by
  unfold Extern.BytealgCompare.cmp at h
  split at h
  · split at h <;> omega
  · rename_i hn
    rw [List.find?_eq_none] at hn
    have hs : a.size = b.size:=by
      split at h
      · omega
      · split at h
        · omega
        · omega
    apply ByteArray.ext
    apply Array.ext
    · exact hs
    · intro i h1 h2
      have h3 : i < a.size:=h1
      have h4 : i < b.size:=h2
      have:=hn i (by rw [List.mem_range]; omega)
      simp only [bne_iff_ne,ne_eq,Decidable.not_not] at this
      rw [getElem!_pos a i h3,getElem!_pos b i h4] at this
      exact this
theorem cmpText_go (n : Nat) (a b : ByteArray) (σ : FState) : (env (n + 3)).call 208 [.string a,.string b] none σ = .ret (.int .i64 (Extern.BytealgCompare.cmp a b)) none σ:=by
  rw [env_call _ 208 _ _ rfl,enter208 _ _ _ _ (by simp),Sl_start]
  unfold run208
  have e : (env (n + 2)).call 209 [.string a,.string b] none σ = .ret (.int .i64 (Extern.BytealgCompare.cmp a b)) none σ:=by
    rw [env_call _ 209 _ _ rfl,enter209 _ _ _ _ (by simp),Sl_start]
    unfold run209
    simp -implicitDefEqProofs only [go_sem,↓reduceIte,Nat.reduceLT,Nat.reduceEqDiff,Nat.reduceAdd,Nat.reduceMul,Nat.reduceLeDiff,Nat.reduceSub,r209_0_go,r209_0U,r209_1_go,r209_1U,Option.getD_some,List.getElem?_cons_zero,List.getElem?_cons_succ,cmpRun_go]
  simp -implicitDefEqProofs only [go_sem,↓reduceIte,Nat.reduceLT,Nat.reduceEqDiff,Nat.reduceAdd,Nat.reduceMul,Nat.reduceLeDiff,Nat.reduceSub,r208_0_go,r208_0U,r208_1_go,r208_1U,Option.getD_some,List.getElem?_cons_zero,List.getElem?_cons_succ,e]
end Go.Proofs.YtodkeaoikjjneaaGreatDoor
/- The order of data: lists of parts. -/
namespace Go.Proofs.YtodkeaoikjjneaaGreatDoor
open Go Go.Eng
attribute [local congr] andThen_congr fops_congr fdraw_congr afterOp_congr drawF_congr
attribute [-go_sem] List.range_succ
def OrdR (d e : D) (r : Value) : Prop:=∃ c : Int,r = .int .i64 c ∧ (c = 0 ↔ d = e)
theorem cf_loop (m : Nat) (R : Nat → Prop) (ds es : List D) (p p' : Option Addr) (c c' : Nat) (hds : ds.length < 1000000) (hes : es.length < 1000000)
    (hO : ∀ (i : Nat) (d e : D),ds[i]? = some d → es[i]? = some e → ∀ v w σ',Wf σ' → LaidR R σ' v d → LaidR R σ' w e → Gives ((env m).call 93 [v,w] none σ') σ' fun r _ => OrdR d e r) :
    ∀ (j fuel i : Nat) (f g : Nat → Value) (σ : FState),ds.length - i = j → j < fuel → i ≤ ds.length → i ≤ es.length → ds.take i = es.take i → Wf σ → LaidRE R σ p 0 ds → LaidRE R σ p' 0 es →
      f 0 = .slice p ds.length c → f 1 = .slice p' es.length c' → f 2 = .func (.func 93) #[] #[] → g 11 = .slice p ds.length c → g 12 = .int .i64 (.ofNat ds.length) → g 13 = .int .i64 (.ofNat i) →
      ∃ f' g' σ',Ext σ σ' ∧ Wf σ' ∧
        ((floop (keepOf nls 218) (l218_0 (env m) none 218) fuel (Sl 11 39 f g []) none σ = .done .ret (Sl 11 39 f' g' []) none σ' ∧ ∃ c,f' 6 = .int .i64 c ∧ c ≠ 0 ∧ ds ≠ es) ∨
         (floop (keepOf nls 218) (l218_0 (env m) none 218) fuel (Sl 11 39 f g []) none σ = .done (.exit 0) (Sl 11 39 f' g' []) none σ' ∧ f' 0 = .slice p ds.length c ∧ f' 1 = .slice p' es.length c' ∧ ds = es.take ds.length ∧ ds.length ≤ es.length)):=by
  intro j
  have hkeep : keepOf nls 218 = [11,12,13,34,35,36,37,38]:=by kernel_rfl
  induction j with
  | zero =>
    intro fuel i f g σ hj hf hi hi' htk hw hE hE' f0 f1 f2 g11 g12 g13
    obtain ⟨fuel,rfl⟩ : ∃ q,fuel = q + 1:=⟨fuel - 1,by omega⟩
    obtain rfl : i = ds.length:=by omega
    have d0 : decide (Int.ofNat ds.length < Int.ofNat ds.length) = false:=by simp
    rw [floop_step,hkeep]
    unfold l218_0
    simp -implicitDefEqProofs only [go_sem,↓reduceIte,Nat.reduceLT,Nat.reduceEqDiff,Nat.reduceAdd,Nat.reduceMul,Nat.reduceLeDiff,Nat.reduceSub,List.mem_cons,true_or,false_or,r218_2_go,r218_2U,g12,g13,d0]
    exact ⟨_,_,_,Ext.refl _,hw,.inr ⟨rfl,f0,f1,by rw [List.take_length] at htk; exact htk,hi'⟩⟩
  | succ j ih =>
    intro fuel i f g σ hj hf hi hi' htk hw hE hE' f0 f1 f2 g11 g12 g13
    obtain ⟨fuel,rfl⟩ : ∃ q,fuel = q + 1:=⟨fuel - 1,by omega⟩
    have hlt : i < ds.length:=by omega
    have d0 : decide (Int.ofNat i < Int.ofNat ds.length) = true:=by simp; omega
    have hd : ds[i]? = some ds[i]:=List.getElem?_eq_getElem hlt
    obtain ⟨b,off,cs,rfl,hRb,hcs,hle,hL⟩:=LaidRE.get hE hd
    rw [Nat.zero_add] at hle hL
    obtain ⟨l4,e4,hl4,ho4⟩:=hL.agg
    have e4' : (cs.drop (off + i * 4)).take 4 = l4:=by
      have:=Value.agg.inj e4
      simpa using congrArg Array.toList this
    rw [e4'] at hL
    have tl4 : l4.take 4 = l4:=List.take_of_length_le (by omega)
    have x1 : Ext σ ((σ.push (.cells [.int .i64 0,.int .i64 0,.string ⟨#[]⟩,.slice none 0 0] TD) none).put σ.next (.cells l4 TD) none):=((Ext.refl _).push _ _).put _ _ _ (Nat.le_refl _)
    have hw1:=(hw.push (.cells [.int .i64 0,.int .i64 0,.string ⟨#[]⟩,.slice none 0 0] TD) none).put σ.next (.cells l4 TD) none (Nat.lt_succ_self _)
    have b1 : ((σ.push (.cells [.int .i64 0,.int .i64 0,.string ⟨#[]⟩,.slice none 0 0] TD) none).put σ.next (.cells l4 TD) none).cells σ.next = some l4:=by rw [cells_put,if_pos rfl]; rfl
    have n1 : ((σ.push (.cells [.int .i64 0,.int .i64 0,.string ⟨#[]⟩,.slice none 0 0] TD) none).put σ.next (.cells l4 TD) none).next = σ.next + 1:=rfl
    rw [floop_step,hkeep]
    unfold l218_0
    by_cases hc : i = es.length
    · subst hc
      have d1 : decide (Int.ofNat es.length ≥ Int.ofNat es.length) = true:=by simp
      simp -implicitDefEqProofs only [go_sem,↓reduceIte,Nat.reduceLT,Nat.reduceEqDiff,Nat.reduceAdd,Nat.reduceMul,Nat.reduceLeDiff,Nat.reduceSub,fstoreN,List.mem_cons,true_or,false_or,r218_2_go,r218_2U,r218_3_go,r218_3U,r218_4_go,r218_4U,r218_5_go,r218_5U,f1,g11,g12,g13,d0,d1,hlt,hcs,hle,e4',hl4,ho4,skipR_go]
      refine ⟨_,_,_,?_,?_,.inl ⟨rfl,1,by simp -implicitDefEqProofs only [upd_go,kept_go,↓reduceIte,Nat.reduceEqDiff,Nat.reduceLT,reduceCtorEq],by omega,fun h => by rw [h] at hlt; omega⟩⟩
      · exact x1
      · exact hw1
    · have hlt' : i < es.length:=by omega
      have d1 : decide (Int.ofNat i ≥ Int.ofNat es.length) = false:=by simp; omega
      have hd' : es[i]? = some es[i]:=List.getElem?_eq_getElem hlt'
      obtain ⟨b',off',cs',rfl,hRb',hcs',hle',hL'⟩:=LaidRE.get hE' hd'
      rw [Nat.zero_add] at hle' hL'
      obtain ⟨m4,e5,hm4,hom4⟩:=hL'.agg
      have e5' : (cs'.drop (off' + i * 4)).take 4 = m4:=by
        have:=Value.agg.inj e5
        simpa using congrArg Array.toList this
      rw [e5'] at hL'
      have tm4 : m4.take 4 = m4:=List.take_of_length_le (by omega)
      have x2:=(x1.push (.cells [.int .i64 0,.int .i64 0,.string ⟨#[]⟩,.slice none 0 0] TD) none).put (σ.next + 1) (.cells m4 TD) none (by omega)
      have hw2:=(hw1.push (.cells [.int .i64 0,.int .i64 0,.string ⟨#[]⟩,.slice none 0 0] TD) none).put (σ.next + 1) (.cells m4 TD) none (by rw [push_next,n1]; omega)
      have b12 : ((((σ.push (.cells [.int .i64 0,.int .i64 0,.string ⟨#[]⟩,.slice none 0 0] TD) none).put σ.next (.cells l4 TD) none).push (.cells [.int .i64 0,.int .i64 0,.string ⟨#[]⟩,.slice none 0 0] TD) none).put (σ.next + 1) (.cells m4 TD) none).cells σ.next = some l4:=by rw [cells_put,if_neg (by omega),cells_push,if_neg (by omega)]; exact b1
      have b22 : ((((σ.push (.cells [.int .i64 0,.int .i64 0,.string ⟨#[]⟩,.slice none 0 0] TD) none).put σ.next (.cells l4 TD) none).push (.cells [.int .i64 0,.int .i64 0,.string ⟨#[]⟩,.slice none 0 0] TD) none).put (σ.next + 1) (.cells m4 TD) none).cells (σ.next + 1) = some m4:=by rw [cells_put,if_pos rfl]; rfl
      have hcs1 : ((σ.push (.cells [.int .i64 0,.int .i64 0,.string ⟨#[]⟩,.slice none 0 0] TD) none).put σ.next (.cells l4 TD) none).cells b' = some cs':=(x1.cells (hw.cells hcs')).trans hcs'
      have kR : ∀ (b : Nat) (cs : List Value),R b → σ.cells b = some cs → ((((σ.push (.cells [.int .i64 0,.int .i64 0,.string ⟨#[]⟩,.slice none 0 0] TD) none).put σ.next (.cells l4 TD) none).push (.cells [.int .i64 0,.int .i64 0,.string ⟨#[]⟩,.slice none 0 0] TD) none).put (σ.next + 1) (.cells m4 TD) none).cells b = some cs ∧ R b:=fun b cs hb hc => ⟨(x2.cells (hw.cells hc)).trans hc,hb⟩
      obtain ⟨_,σ3,e3,x3,hw3,r,rfl,hr⟩:=hO i ds[i] es[i] hd hd' _ _ _ hw2 (hL.keep kR) (hL'.keep kR)
      by_cases hz : r = 0
      · have heq:=hr.1 hz
        subst hz
        have a1:=add1 i (by omega)
        have z0 : ((0 : Int) != 0) = false:=rfl
        simp -implicitDefEqProofs only [go_sem,↓reduceIte,Nat.reduceLT,Nat.reduceEqDiff,Nat.reduceAdd,Nat.reduceMul,Nat.reduceLeDiff,Nat.reduceSub,fstoreN,List.mem_cons,true_or,false_or,r218_2_go,r218_2U,r218_3_go,r218_3U,r218_4_go,r218_4U,r218_6_go,r218_6U,r218_7_go,r218_7U,r218_8_go,r218_8U,r218_10_go,r218_10U,f1,f2,g11,g12,g13,d0,d1,hlt,hlt',hcs,hle,e4',hl4,ho4,tl4,hcs1,hle',e5',hm4,hom4,tm4,b12,b22,e3,z0,a1,skipR_go]
        generalize hff : upd _ 10 _ = f2'
        generalize hgg : upd _ 13 _ = g2'
        have ih':=ih fuel (i + 1) f2' g2' σ3 (by omega) (by omega) (by omega) (by omega) (by rw [List.take_add_one,List.take_add_one,htk,hd,hd',heq]) hw3 (hE.keep fun b cs hb hc => ⟨(x3.cells ((hw2).cells (kR b cs hb hc).1)).trans (kR b cs hb hc).1,hb⟩) (hE'.keep fun b cs hb hc => ⟨(x3.cells ((hw2).cells (kR b cs hb hc).1)).trans (kR b cs hb hc).1,hb⟩)
          (by rw [← hff]; simp -implicitDefEqProofs only [upd_go,kept_go,↓reduceIte,Nat.reduceEqDiff,Nat.reduceLT,reduceCtorEq,f0]) (by rw [← hff]; simp -implicitDefEqProofs only [upd_go,kept_go,↓reduceIte,Nat.reduceEqDiff,Nat.reduceLT,reduceCtorEq,f1]) (by rw [← hff]; simp -implicitDefEqProofs only [upd_go,kept_go,↓reduceIte,Nat.reduceEqDiff,Nat.reduceLT,reduceCtorEq,f2]) (by rw [← hgg]; simp -implicitDefEqProofs only [upd_go,kept_go,↓reduceIte,Nat.reduceEqDiff,Nat.reduceLT,reduceCtorEq,List.mem_cons,true_or,false_or,g11]) (by rw [← hgg]; simp -implicitDefEqProofs only [upd_go,kept_go,↓reduceIte,Nat.reduceEqDiff,Nat.reduceLT,reduceCtorEq,List.mem_cons,true_or,false_or,or_true,g12]) (by rw [← hgg]; simp -implicitDefEqProofs only [upd_go,kept_go,↓reduceIte,Nat.reduceEqDiff,Nat.reduceLT,reduceCtorEq])
        rw [hkeep] at ih'
        unfold l218_0 at ih'
        obtain ⟨f3,g3,σ4,x4,hw4,h⟩:=ih'
        exact ⟨f3,g3,σ4,(x2.trans x3).trans x4,hw4,h⟩
      · have z0 : (!(r == 0)) = true:=by simpa using hz
        have z1 : (r == 0) = false:=by simpa using hz
        simp -implicitDefEqProofs only [go_sem,↓reduceIte,Nat.reduceLT,Nat.reduceEqDiff,Nat.reduceAdd,Nat.reduceMul,Nat.reduceLeDiff,Nat.reduceSub,fstoreN,List.mem_cons,true_or,false_or,r218_2_go,r218_2U,r218_3_go,r218_3U,r218_4_go,r218_4U,r218_6_go,r218_6U,r218_7_go,r218_7U,r218_8_go,r218_8U,r218_9_go,r218_9U,f1,f2,g11,g12,g13,d0,d1,hlt,hlt',hcs,hle,e4',hl4,ho4,tl4,hcs1,hle',e5',hm4,hom4,tm4,b12,b22,e3,z0,z1,skipR_go]
        refine ⟨_,_,_,x2.trans x3,hw3,.inl ⟨rfl,r,by simp -implicitDefEqProofs only [upd_go,kept_go,↓reduceIte,Nat.reduceEqDiff,Nat.reduceLT,reduceCtorEq],hz,fun h => hz (hr.2 (by simp only [h]))⟩⟩
theorem cf_go (m : Nat) (R : Nat → Prop) (ds es : List D) (p p' : Option Addr) (c c' : Nat) (hds : ds.length < 1000000) (hes : es.length < 1000000) (σ : FState) (hw : Wf σ) (hE : LaidRE R σ p 0 ds) (hE' : LaidRE R σ p' 0 es)
    (hO : ∀ (i : Nat) (d e : D),ds[i]? = some d → es[i]? = some e → ∀ v w σ',Wf σ' → LaidR R σ' v d → LaidR R σ' w e → Gives ((env m).call 93 [v,w] none σ') σ' fun r _ => OrdR d e r) :
    Gives ((env (m + 1)).call 218 [.slice p ds.length c,.slice p' es.length c',.func (.func 93) #[] #[]] none σ) σ fun r _ => ∃ x : Int,r = .int .i64 x ∧ (x = 0 ↔ ds = es):=by
  rw [env_call _ 218 _ _ rfl,enter218 _ _ _ _ (by simp),Sl_start]
  unfold run218
  simp -implicitDefEqProofs only [go_sem,↓reduceIte,Nat.reduceLT,Nat.reduceEqDiff,Nat.reduceAdd,Nat.reduceMul,Nat.reduceLeDiff,Nat.reduceSub,r218_0_go,r218_0U,r218_1_go,r218_1U,Option.getD_some,List.getElem?_cons_zero,List.getElem?_cons_succ]
  generalize hbf : bigFuel = fuel
  generalize hff : upd _ 6 _ = f1
  generalize hgg : upd _ 13 _ = g1
  obtain ⟨f',g',σ',x1,hw1,h⟩:=cf_loop m R ds es p p' c c' hds hes hO ds.length fuel 0 f1 g1 σ (by omega) (by rw [← hbf]; show ds.length < 1000000000000; omega) (by omega) (by omega) rfl hw hE hE'
    (by rw [← hff]; simp -implicitDefEqProofs only [upd_go,kept_go,↓reduceIte,Nat.reduceEqDiff,Nat.reduceLT,reduceCtorEq,Option.getD_some,List.getElem?_cons_zero]) (by rw [← hff]; simp -implicitDefEqProofs only [upd_go,kept_go,↓reduceIte,Nat.reduceEqDiff,Nat.reduceLT,reduceCtorEq,Option.getD_some,List.getElem?_cons_zero,List.getElem?_cons_succ]) (by rw [← hff]; simp -implicitDefEqProofs only [upd_go,kept_go,↓reduceIte,Nat.reduceEqDiff,Nat.reduceLT,reduceCtorEq,Option.getD_some,List.getElem?_cons_zero,List.getElem?_cons_succ]) (by rw [← hgg]; simp -implicitDefEqProofs only [upd_go,kept_go,↓reduceIte,Nat.reduceEqDiff,Nat.reduceLT,reduceCtorEq]) (by rw [← hgg]; simp -implicitDefEqProofs only [upd_go,kept_go,↓reduceIte,Nat.reduceEqDiff,Nat.reduceLT,reduceCtorEq]) (by rw [← hgg]; simp -implicitDefEqProofs only [upd_go,kept_go,↓reduceIte,Nat.reduceEqDiff,Nat.reduceLT,reduceCtorEq] <;> rfl)
  rcases h with ⟨e,r,h6,hr0,hne⟩ | ⟨e,h0,h1,htk,hle⟩
  · rw [e]
    simp -implicitDefEqProofs only [go_sem,↓reduceIte,Nat.reduceLT,Nat.reduceEqDiff,Nat.reduceAdd,Nat.reduceMul,Nat.reduceLeDiff,Nat.reduceSub,h6]
    exact ⟨_,_,rfl,x1,hw1,r,rfl,fun h => absurd h hr0,fun h => absurd h hne⟩
  · rw [e]
    by_cases hlt : ds.length < es.length
    · have d0 : decide (Int.ofNat ds.length < Int.ofNat es.length) = true:=by simp; omega
      simp -implicitDefEqProofs only [go_sem,↓reduceIte,Nat.reduceLT,Nat.reduceEqDiff,Nat.reduceAdd,Nat.reduceMul,Nat.reduceLeDiff,Nat.reduceSub,r218_11_go,r218_11U,r218_12_go,r218_12U,h0,h1,d0]
      refine ⟨_,_,rfl,x1,hw1,-1,rfl,fun h => by omega,fun h => by rw [h] at hlt; omega⟩
    · have d0 : decide (Int.ofNat ds.length < Int.ofNat es.length) = false:=by simp; omega
      simp -implicitDefEqProofs only [go_sem,↓reduceIte,Nat.reduceLT,Nat.reduceEqDiff,Nat.reduceAdd,Nat.reduceMul,Nat.reduceLeDiff,Nat.reduceSub,r218_11_go,r218_11U,r218_13_go,r218_13U,skipR_go,h0,h1,d0]
      refine ⟨_,_,rfl,x1,hw1,0,rfl,fun _ => ?_,fun _ => rfl⟩
      rw [htk,List.take_of_length_le (by omega)]
end Go.Proofs.YtodkeaoikjjneaaGreatDoor
/- The order of data. -/
namespace Go.Proofs.YtodkeaoikjjneaaGreatDoor
open Go Go.Eng
attribute [local congr] andThen_congr fops_congr fdraw_congr afterOp_congr drawF_congr
attribute [-go_sem] List.range_succ
theorem ordEmpty (v w : Value) (σ : FState) : finvoke Tryz.prog (.iface 181 v) "caracole/datum.order" [w] σ = .enter 215 [v,w] σ:=by kernel_rfl
theorem ordNumber (v w : Value) (σ : FState) : finvoke Tryz.prog (.iface 173 v) "caracole/datum.order" [w] σ = .enter 213 [v,w] σ:=by kernel_rfl
theorem ordText (v w : Value) (σ : FState) : finvoke Tryz.prog (.iface 161 v) "caracole/datum.order" [w] σ = .enter 207 [v,w] σ:=by kernel_rfl
theorem ordBranch (v w : Value) (σ : FState) : finvoke Tryz.prog (.iface 182 v) "caracole/datum.order" [w] σ = .enter 217 [v,w] σ:=by kernel_rfl
section
variable (k z k' z' : Int) (t t' : ByteArray) (p p' : Option Addr) (l l' c c' : Nat) (σ : FState) (hw : Wf σ)
include hw
theorem ordE_go (n : Nat) : Gives ((env (n + 1)).call 215 [.agg #[.int .i64 k,.int .i64 z,.string t,.slice p l c],.agg #[.int .i64 k',.int .i64 z',.string t',.slice p' l' c']] none σ) σ fun r _ => r = .int .i64 0:=by
  rw [env_call _ 215 _ _ rfl,enter215 _ _ _ _ (by simp),Sl_start]
  unfold run215
  simp -implicitDefEqProofs only [go_sem,↓reduceIte,Nat.reduceLT,Nat.reduceEqDiff,Nat.reduceAdd,Nat.reduceMul,Nat.reduceLeDiff,Nat.reduceSub,r215_0_go,r215_0U,r215_1_go,r215_1U,Option.getD_some,List.getElem?_cons_zero,List.getElem?_cons_succ]
  exact ⟨_,_,rfl,((Ext.refl _).push _ _).push _ _,(hw.push _ _).push _ _,rfl⟩
theorem ordN_go (n : Nat) : Gives ((env (n + 3)).call 213 [.agg #[.int .i64 k,.int .i64 z,.string t,.slice p l c],.agg #[.int .i64 k',.int .i64 z',.string t',.slice p' l' c']] none σ) σ fun r _ => r = .int .i64 (ordI z z'):=by
  rw [env_call _ 213 _ _ rfl,enter213 _ _ _ _ (by simp),Sl_start]
  unfold run213
  simp -implicitDefEqProofs only [go_sem,↓reduceIte,Nat.reduceLT,Nat.reduceEqDiff,Nat.reduceAdd,Nat.reduceMul,Nat.reduceLeDiff,Nat.reduceSub,r213_0_go,r213_0U,r213_1_go,r213_1U,Option.getD_some,List.getElem?_cons_zero,List.getElem?_cons_succ,cmpInt_go]
  exact ⟨_,_,rfl,((Ext.refl _).push _ _).push _ _,(hw.push _ _).push _ _,rfl⟩
theorem ordT_go (n : Nat) : Gives ((env (n + 4)).call 207 [.agg #[.int .i64 k,.int .i64 z,.string t,.slice p l c],.agg #[.int .i64 k',.int .i64 z',.string t',.slice p' l' c']] none σ) σ fun r _ => r = .int .i64 (Extern.BytealgCompare.cmp t t'):=by
  rw [env_call _ 207 _ _ rfl,enter207 _ _ _ _ (by simp),Sl_start]
  unfold run207
  simp -implicitDefEqProofs only [go_sem,↓reduceIte,Nat.reduceLT,Nat.reduceEqDiff,Nat.reduceAdd,Nat.reduceMul,Nat.reduceLeDiff,Nat.reduceSub,r207_0_go,r207_0U,r207_1_go,r207_1U,Option.getD_some,List.getElem?_cons_zero,List.getElem?_cons_succ,cmpText_go]
  exact ⟨_,_,rfl,((Ext.refl _).push _ _).push _ _,(hw.push _ _).push _ _,rfl⟩
end
theorem ordB_go (m : Nat) (R : Nat → Prop) (ds es : List D) (k z k' z' : Int) (t t' : ByteArray) (p p' : Option Addr) (c c' : Nat) (hds : ds.length < 1000000) (hes : es.length < 1000000) (σ : FState) (hw : Wf σ) (hE : LaidRE R σ p 0 ds) (hE' : LaidRE R σ p' 0 es)
    (hO : ∀ (i : Nat) (d e : D),ds[i]? = some d → es[i]? = some e → ∀ v w σ',Wf σ' → LaidR R σ' v d → LaidR R σ' w e → Gives ((env m).call 93 [v,w] none σ') σ' fun r _ => OrdR d e r) :
    Gives ((env (m + 2)).call 217 [.agg #[.int .i64 k,.int .i64 z,.string t,.slice p ds.length c],.agg #[.int .i64 k',.int .i64 z',.string t',.slice p' es.length c']] none σ) σ fun r _ => ∃ x : Int,r = .int .i64 x ∧ (x = 0 ↔ ds = es):=by
  rw [env_call _ 217 _ _ rfl,enter217 _ _ _ _ (by simp),Sl_start]
  unfold run217
  have x1 : ∀ o o' : FObj,Ext σ ((σ.push o none).push o' none):=fun o o' => ((Ext.refl _).push _ _).push _ _
  have hw1 : ∀ o o' : FObj,Wf ((σ.push o none).push o' none):=fun o o' => (hw.push _ _).push _ _
  obtain ⟨_,σ2,e2,x2,hw2,y,rfl,hy⟩:=cf_go m R ds es p p' c c' hds hes _ (hw1 (.cells [.int .i64 k,.int .i64 z,.string t,.slice p ds.length c] 182) (.cells [.int .i64 k',.int .i64 z',.string t',.slice p' es.length c'] TD)) (hE.keep fun b cs hb hc => ⟨((x1 _ _).cells (hw.cells hc)).trans hc,hb⟩) (hE'.keep fun b cs hb hc => ⟨((x1 _ _).cells (hw.cells hc)).trans hc,hb⟩) hO
  simp -implicitDefEqProofs only [go_sem,↓reduceIte,Nat.reduceLT,Nat.reduceEqDiff,Nat.reduceAdd,Nat.reduceMul,Nat.reduceLeDiff,Nat.reduceSub,r217_0_go,r217_0U,r217_1_go,r217_1U,Option.getD_some,List.getElem?_cons_zero,List.getElem?_cons_succ,e2]
  exact ⟨_,_,rfl,(x1 _ _).trans x2,hw2,y,rfl,hy⟩
end Go.Proofs.YtodkeaoikjjneaaGreatDoor
/- The order of data, whole. -/
namespace Go.Proofs.YtodkeaoikjjneaaGreatDoor
open Go Go.Eng
attribute [local congr] andThen_congr fops_congr fdraw_congr afterOp_congr drawF_congr
attribute [-go_sem] List.range_succ
theorem order_same (M kn : Nat) (hk : kn ≤ 6) (X : Nat) (hinv : ∀ v w σ,finvoke Tryz.prog (.iface (workType kn) v) "caracole/datum.order" [w] σ = .enter X [v,w] σ) (z z' : Int) (t t' : ByteArray) (p p' : Option Addr) (l l' c c' : Nat) (σ : FState) (hw : Wf σ) (Q : Int → Prop)
    (hX : ∀ σ',Ext σ σ' → Wf σ' → Gives ((env (M + 2)).call X [.agg #[.int .i64 (kn : Int),.int .i64 z,.string t,.slice p l c],.agg #[.int .i64 (kn : Int),.int .i64 z',.string t',.slice p' l' c']] none σ') σ' fun r _ => ∃ x : Int,r = .int .i64 x ∧ Q x) :
    Gives ((env (M + 3)).call 93 [.agg #[.int .i64 (kn : Int),.int .i64 z,.string t,.slice p l c],.agg #[.int .i64 (kn : Int),.int .i64 z',.string t',.slice p' l' c']] none σ) σ fun r _ => ∃ x : Int,r = .int .i64 x ∧ Q x:=by
  rw [env_call _ 93 _ _ rfl,enter93 _ _ _ _ (by simp),Sl_start]
  unfold run93
  have x1 : Ext σ ((σ.push (.cells [.int .i64 (kn : Int),.int .i64 z,.string t,.slice p l c] TD) none).push (.cells [.int .i64 (kn : Int),.int .i64 z',.string t',.slice p' l' c'] TD) none):=((Ext.refl _).push _ _).push _ _
  have hw1:=(hw.push (.cells [.int .i64 (kn : Int),.int .i64 z,.string t,.slice p l c] TD) none).push (.cells [.int .i64 (kn : Int),.int .i64 z',.string t',.slice p' l' c'] TD) none
  have c1 : ((σ.push (.cells [.int .i64 (kn : Int),.int .i64 z,.string t,.slice p l c] TD) none).push (.cells [.int .i64 (kn : Int),.int .i64 z',.string t',.slice p' l' c'] TD) none).cells σ.next = some [.int .i64 (kn : Int),.int .i64 z,.string t,.slice p l c]:=by rw [cells_push,if_neg (by rw [push_next]; omega),cells_push,if_pos rfl]; rfl
  have c2 : ((σ.push (.cells [.int .i64 (kn : Int),.int .i64 z,.string t,.slice p l c] TD) none).push (.cells [.int .i64 (kn : Int),.int .i64 z',.string t',.slice p' l' c'] TD) none).cells (σ.next + 1) = some [.int .i64 (kn : Int),.int .i64 z',.string t',.slice p' l' c']:=by rw [cells_push,if_pos (by rw [push_next])]; rfl
  have n1 : ((σ.push (.cells [.int .i64 (kn : Int),.int .i64 z,.string t,.slice p l c] TD) none).push (.cells [.int .i64 (kn : Int),.int .i64 z',.string t',.slice p' l' c'] TD) none).next = σ.next + 2:=rfl
  simp -implicitDefEqProofs only [go_sem,↓reduceIte,Nat.reduceLT,Nat.reduceEqDiff,Nat.reduceAdd,Nat.reduceMul,Nat.reduceLeDiff,Nat.reduceSub,r93_0_go,r93_0U,Option.getD_some,List.getElem?_cons_zero,List.getElem?_cons_succ]
  generalize FState.push _ _ _ = σ1 at x1 hw1 c1 c2 n1 ⊢
  obtain ⟨_,σ2,e2,x2,hw2,rfl⟩:=atWork_go (M + 1) kn hk z t (.slice p l c) rfl σ1 hw1
  obtain ⟨_,σ3,e3,x3,hw3,x,rfl,hx⟩:=hX σ2 (x1.trans x2) hw2
  have o0 : ordI (kn : Int) (kn : Int) = 0:=(ordI_zero _ _).2 rfl
  have hv1:=view_wf hw1 (Nat.le_refl σ1.clock)
  have hv2 : (view σ2 σ1.clock).cells (σ.next + 1) = some [.int .i64 (kn : Int),.int .i64 z',.string t',.slice p' l' c']:=view_old hw1 (Nat.le_refl _) (x2.get _ (by omega)) c2
  have ib : ((0 : Int) == 0) = true:=rfl
  simp -implicitDefEqProofs only [go_sem,↓reduceIte,Nat.reduceLT,Nat.reduceEqDiff,Nat.reduceAdd,Nat.reduceMul,Nat.reduceLeDiff,Nat.reduceSub,r93_1_go,r93_1U,r93_2_go,r93_2U,r93_4_go,r93_4U,cmpInt_go,o0,c1,c2,hv1,hv2,e2,hinv,e3,ib,skipR_go]
  exact ⟨_,_,rfl,(x1.trans x2).trans x3,hw3,x,rfl,hx⟩
theorem order_apart (M : Nat) (k k' z z' : Int) (t t' : ByteArray) (p p' : Option Addr) (l l' c c' : Nat) (σ : FState) (hw : Wf σ) (hne : k ≠ k') :
    Gives ((env (M + 3)).call 93 [.agg #[.int .i64 k,.int .i64 z,.string t,.slice p l c],.agg #[.int .i64 k',.int .i64 z',.string t',.slice p' l' c']] none σ) σ fun r _ => ∃ x : Int,r = .int .i64 x ∧ x ≠ 0:=by
  rw [env_call _ 93 _ _ rfl,enter93 _ _ _ _ (by simp),Sl_start]
  unfold run93
  have o0 : ordI k k' ≠ 0:=fun h => hne ((ordI_zero _ _).1 h)
  have ib : (ordI k k' == 0) = false:=by simpa using o0
  simp -implicitDefEqProofs only [go_sem,↓reduceIte,Nat.reduceLT,Nat.reduceEqDiff,Nat.reduceAdd,Nat.reduceMul,Nat.reduceLeDiff,Nat.reduceSub,r93_0_go,r93_0U,r93_1_go,r93_1U,r93_2_go,r93_2U,r93_3_go,r93_3U,Option.getD_some,List.getElem?_cons_zero,List.getElem?_cons_succ,cmpInt_go,ib]
  exact ⟨_,_,rfl,((Ext.refl _).push _ _).push _ _,(hw.push _ _).push _ _,_,rfl,o0⟩
theorem piecesL_part (path : List Nat) : ∀ (ds : List D) (j i : Nat) (d : D),ds[i]? = some d → ∀ x ∈ d.pieces (path ++ [j + i]),x ∈ D.piecesL path j ds
  | [],j,i,d,h => by simp at h
  | d0 :: ds,j,0,d,h => fun x hx => by
    cases h
    rw [D.piecesL]
    exact List.mem_append_left _ hx
  | d0 :: ds,j,i + 1,d,h => fun x hx => by
    rw [D.piecesL]
    exact List.mem_append_right _ (piecesL_part path ds (j + 1) i d h x (by rw [show j + 1 + i = j + (i + 1) by omega]; exact hx))
theorem order_go (m n : Nat) (R : Nat → Prop) : ∀ (N : Nat) (d e : D) (pd pe : List Nat) (v w : Value) (σ : FState),d.deep ≤ N → (∀ x ∈ d.pieces pd,x.2.parts.length ≤ 3 ∧ GoodD m x.2) → (∀ x ∈ e.pieces pe,x.2.parts.length ≤ 3 ∧ GoodD m x.2) → Wf σ → LaidR R σ v d → LaidR R σ w e →
    Gives ((env (n + 6 + 3 * N)).call 93 [v,w] none σ) σ fun r _ => OrdR d e r:=by
  intro N
  induction N with
  | zero =>
    intro d e pd pe v w σ hN
    obtain ⟨k,z,t,ds⟩:=d
    rw [D.deep] at hN
    omega
  | succ N ih =>
    intro d e pd pe v w σ hN hd he hw hL hLe
    obtain ⟨k,z,t,ds⟩:=d
    obtain ⟨k',z',t',es⟩:=e
    have hd0:=hd _ (by rw [D.pieces_eq]; exact List.mem_cons_self)
    have he0:=he _ (by rw [D.pieces_eq]; exact List.mem_cons_self)
    obtain ⟨kn,rfl,hG⟩:=hd0.2 k z t ds rfl
    obtain ⟨kn',rfl,hG'⟩:=he0.2 k' z' t' es rfl
    obtain ⟨p,c,rfl,hE⟩:=hL
    obtain ⟨p',c',rfl,hE'⟩:=hLe
    have hM : n + 6 + 3 * (N + 1) = (n + 6 + 3 * N) + 3:=by omega
    rw [hM]
    have hl3 : ds.length ≤ 3:=hd0.1
    have hl3' : es.length ≤ 3:=he0.1
    by_cases hk : kn = kn'
    · subst hk
      have leaf : ∀ {P Q : Prop} {r : CRes} {τ : FState},(P ↔ Q) → Gives r τ (fun r _ => ∃ x : Int,r = .int .i64 x ∧ (x = 0 ↔ P)) → Gives r τ (fun r _ => ∃ x : Int,r = .int .i64 x ∧ (x = 0 ↔ Q)):=fun h ⟨v,τ',h1,h2,h3,x,h4,h5⟩ => ⟨v,τ',h1,h2,h3,x,h4,h5.trans h⟩
      have branch : ∀ (hb : workType kn = workType 5) (hk6 : kn ≤ 6) (hz : z = 0) (hz' : z' = 0) (ht : t = ⟨#[]⟩) (ht' : t' = ⟨#[]⟩),
          Gives ((env ((n + 6 + 3 * N) + 3)).call 93 [.agg #[.int .i64 (kn : Int),.int .i64 z,.string t,.slice p ds.length c],.agg #[.int .i64 (kn : Int),.int .i64 z',.string t',.slice p' es.length c']] none σ) σ fun r _ => OrdR (.mk kn z t ds) (.mk kn z' t' es) r:=fun hb hk6 hz hz' ht ht' => by
        subst hz hz' ht ht'
        refine order_same (n + 6 + 3 * N) kn hk6 217 (fun v w σ => by rw [hb]; exact ordBranch v w σ) _ _ _ _ p p' _ _ c c' σ hw (fun x => x = 0 ↔ D.mk kn 0 ⟨#[]⟩ ds = D.mk kn 0 ⟨#[]⟩ es) fun σ' hX hw' => leaf (P:=ds = es) ⟨fun h => by rw [h],fun h => by injection h⟩ (ordB_go (n + 6 + 3 * N) R ds es _ _ _ _ _ _ p p' c c' (by omega) (by omega) σ' hw' (hE.keep fun b cs hb hc => ⟨(hX.cells (hw.cells hc)).trans hc,hb⟩) (hE'.keep fun b cs hb hc => ⟨(hX.cells (hw.cells hc)).trans hc,hb⟩)
          fun i d e hd' he' v w σ2 hw2 hl hl' => ih d e (pd ++ [0 + i]) (pe ++ [0 + i]) v w σ2 (by rw [D.deep] at hN; have:=deeps_mem (List.mem_of_getElem? hd'); omega) (fun x hx => hd x (by rw [D.pieces_eq]; exact List.mem_cons_of_mem _ (piecesL_part pd ds 0 i d hd' x hx))) (fun x hx => he x (by rw [D.pieces_eq]; exact List.mem_cons_of_mem _ (piecesL_part pe es 0 i e he' x hx))) hw2 hl hl')
      obtain ⟨ln,hln⟩ : ∃ ln,ds.length = ln:=⟨_,rfl⟩
      obtain ⟨ln',hln'⟩ : ∃ ln,es.length = ln:=⟨_,rfl⟩
      rw [hln] at hG
      rw [hln'] at hG'
      have num : ∀ (hb : workType kn = workType 1) (hk6 : kn ≤ 6) (ht : t = t') (hds : ds = es),Gives ((env ((n + 6 + 3 * N) + 3)).call 93 [.agg #[.int .i64 (kn : Int),.int .i64 z,.string t,.slice p ds.length c],.agg #[.int .i64 (kn : Int),.int .i64 z',.string t',.slice p' es.length c']] none σ) σ fun r _ => OrdR (.mk kn z t ds) (.mk kn z' t' es) r:=fun hb hk6 ht hds => by
        subst ht hds
        exact order_same (n + 6 + 3 * N) kn hk6 213 (fun v w σ => by rw [hb]; exact ordNumber v w σ) _ _ _ _ p p' _ _ c c' σ hw (fun x => x = 0 ↔ D.mk kn z t ds = D.mk kn z' t ds) fun σ' hX hw' => by
          obtain ⟨v,τ,h1,h2,h3,h4⟩:=ordN_go _ _ _ _ _ _ p p' _ _ c c' σ' hw' (n + 5 + 3 * N)
          have e : n + 5 + 3 * N + 3 = n + 6 + 3 * N + 2:=by omega
          rw [e] at h1
          exact ⟨v,τ,h1,h2,h3,_,h4,(ordI_zero z z').trans ⟨fun h => by rw [h],fun h => by simp only [D.mk.injEq] at h; exact h.2.1⟩⟩
      have emp : ∀ (hb : workType kn = workType 0) (hk6 : kn ≤ 6) (hz : z = z') (ht : t = t') (hds : ds = es),Gives ((env ((n + 6 + 3 * N) + 3)).call 93 [.agg #[.int .i64 (kn : Int),.int .i64 z,.string t,.slice p ds.length c],.agg #[.int .i64 (kn : Int),.int .i64 z',.string t',.slice p' es.length c']] none σ) σ fun r _ => OrdR (.mk kn z t ds) (.mk kn z' t' es) r:=fun hb hk6 hz ht hds => by
        subst hz ht hds
        exact order_same (n + 6 + 3 * N) kn hk6 215 (fun v w σ => by rw [hb]; exact ordEmpty v w σ) _ _ _ _ p p' _ _ c c' σ hw (fun x => x = 0 ↔ D.mk kn z t ds = D.mk kn z t ds) fun σ' hX hw' => by
          obtain ⟨v,τ,h1,h2,h3,h4⟩:=ordE_go _ _ _ _ _ _ p p' _ _ c c' σ' hw' (n + 7 + 3 * N)
          have e : n + 7 + 3 * N + 1 = n + 6 + 3 * N + 2:=by omega
          rw [e] at h1
          exact ⟨v,τ,h1,h2,h3,0,h4,fun _ => rfl,fun _ => rfl⟩
      have txt : ∀ (hb : workType kn = workType 3) (hk6 : kn ≤ 6) (hz : z = z') (hds : ds = es),Gives ((env ((n + 6 + 3 * N) + 3)).call 93 [.agg #[.int .i64 (kn : Int),.int .i64 z,.string t,.slice p ds.length c],.agg #[.int .i64 (kn : Int),.int .i64 z',.string t',.slice p' es.length c']] none σ) σ fun r _ => OrdR (.mk kn z t ds) (.mk kn z' t' es) r:=fun hb hk6 hz hds => by
        subst hz hds
        exact order_same (n + 6 + 3 * N) kn hk6 207 (fun v w σ => by rw [hb]; exact ordText v w σ) _ _ _ _ p p' _ _ c c' σ hw (fun x => x = 0 ↔ D.mk kn z t ds = D.mk kn z t' ds) fun σ' hX hw' => by
          obtain ⟨v,τ,h1,h2,h3,h4⟩:=ordT_go _ _ _ _ _ _ p p' _ _ c c' σ' hw' (n + 4 + 3 * N)
          have e : n + 4 + 3 * N + 4 = n + 6 + 3 * N + 2:=by omega
          rw [e] at h1
          exact ⟨v,τ,h1,h2,h3,_,h4,fun h => by rw [cmp_zero _ _ h],fun h => by simp only [D.mk.injEq] at h; rw [h.2.2.1]; exact cmp_self _⟩
      cases hG with
      | nil =>
        cases hG' with
        | nil =>
          exact emp rfl (by omega) rfl rfl (by rw [List.length_eq_zero_iff.1 hln,List.length_eq_zero_iff.1 hln'])
      | bool z h =>
        cases hG' with
        | bool z' h' => exact num rfl (by omega) rfl (by rw [List.length_eq_zero_iff.1 hln,List.length_eq_zero_iff.1 hln'])
      | num z h =>
        cases hG' with
        | num z' h' => exact num rfl (by omega) rfl (by rw [List.length_eq_zero_iff.1 hln,List.length_eq_zero_iff.1 hln'])
      | sym t h =>
        cases hG' with
        | sym t' h' => exact txt rfl (by omega) rfl (by rw [List.length_eq_zero_iff.1 hln,List.length_eq_zero_iff.1 hln'])
      | str t hs h =>
        cases hG' with
        | str t' hs' h' => exact txt rfl (by omega) rfl (by rw [List.length_eq_zero_iff.1 hln,List.length_eq_zero_iff.1 hln'])
      | pair =>
        cases hG' with
        | pair => exact branch rfl (by omega) rfl rfl rfl rfl
      | vec l =>
        cases hG' with
        | vec l' => exact branch rfl (by omega) rfl rfl rfl rfl
    · obtain ⟨v,σ',h1,h2,h3,x,h4,h5⟩:=order_apart (n + 6 + 3 * N) (kn : Int) (kn' : Int) z z' t t' p p' ds.length es.length c c' σ hw (by omega)
      exact ⟨v,σ',h1,h2,h3,x,h4,fun h => absurd h h5,fun h => by simp only [D.mk.injEq] at h; omega⟩
end Go.Proofs.YtodkeaoikjjneaaGreatDoor
/- datum.Compare: 0 where both data are the same. -/
namespace Go.Proofs.YtodkeaoikjjneaaGreatDoor
open Go Go.Eng
attribute [local congr] andThen_congr fops_congr fdraw_congr afterOp_congr drawF_congr
attribute [-go_sem] List.range_succ
theorem deferredAtN (n : Nat) (p q : Value) (σ : FState) : (env (n + 1)).call 142 [p,q] (some .returning) σ = .ret (.tuple #[]) (some .returning) σ:=by
  rw [env_defer,enter142 _ _ _ _ (by simp),Sl_start]
  unfold run142
  simp -implicitDefEqProofs only [go_sem,↓reduceIte,Nat.reduceLT,Nat.reduceEqDiff,Nat.reduceAdd,Nat.reduceMul,Nat.reduceLeDiff,Nat.reduceSub,r142_0_go,r142_0U,r142_3_go,r142_3U,r142_4_go,r142_4U,nilAny]
theorem callAtN (n w : Nat) (cap : Array Value) {Q : Nat → Value → FState → Prop} (hQ : Stays Q) (hone : ∀ base v σ,Q base v σ → oneCell v = true ∧ notTuple v = true ∧ valCells v = [v]) (σ : FState) (hw : Wf σ)
    (h : ∀ σ',Ext σ σ' → Wf σ' → Gives ((env (n + 1)).call w cap.toList none σ') σ' (Q σ'.next)) :
    Gives ((env (n + 2)).call 119 [.func (.func w) #[] cap] none σ) σ fun v σ' => ∃ u,v = .tuple #[u,.int .i64 0,.int .i64 0] ∧ Q σ.next u σ':=by
  rw [env_call _ 119 _ _ rfl,enter119 _ _ _ _ (by simp),Sl_start]
  unfold run119
  have hX1 : Ext σ ((σ.push (.cells [.int .i64 0] 3) none).push (.cells [.int .i64 0] 32) none):=((Ext.refl _).push _ _).push _ _
  have hw1:=(hw.push (.cells [.int .i64 0] 3) none).push (.cells [.int .i64 0] 32) none
  obtain ⟨u,σ2,e2,hX2,hw2,hq⟩:=h _ hX1 hw1
  have g1 : σ2.heap.get σ.next = _:=(hX2.get σ.next (by simp only [push_next]; omega)).trans (by simp -implicitDefEqProofs only [push_get,push_next,Nat.add_assoc,Nat.reduceAdd,Nat.left_eq_add,reduceCtorEq,↓reduceIte,Nat.reduceEqDiff] <;> rfl)
  have g2 : σ2.heap.get (σ.next + 1) = _:=(hX2.get (σ.next + 1) (by simp only [push_next]; omega)).trans (by simp -implicitDefEqProofs only [push_get,push_next,Nat.add_assoc,Nat.reduceAdd,Nat.add_left_cancel_iff,reduceCtorEq,↓reduceIte,Nat.reduceEqDiff] <;> rfl)
  obtain ⟨o1,o2,o3⟩:=hone _ _ _ hq
  simp -implicitDefEqProofs only [go_sem,↓reduceIte,Nat.reduceLT,Nat.reduceEqDiff,Nat.reduceAdd,Nat.reduceMul,Nat.reduceLeDiff,Nat.reduceSub,r119_0_go,r119_0U,r119_1_go,r119_1U,r119_2_go,r119_2U,Option.getD_some,e2,g1,g2,aggInt,aggErrno,deferredAtN,fleave_nil,fresults_nil,fresults_cons,fresult_cell,fresult_tmp,o1,o2,o3]
  have m1:=(hw2 _ _ g1).1
  have m2:=(hw2 _ _ g2).1
  exact ⟨_,_,rfl,((hX1.trans hX2).put _ _ _ (Nat.le_refl _)).put _ _ _ (Nat.le_add_right _ _),(hw2.put _ _ _ m1).put _ _ _ m2,_,rfl,hQ.keep _ _ _ _ _ hq hw2 (by simp only [push_next]; omega) fun b hb _ => by
    simp only [push_next] at hb
    rw [put_get,if_neg (by omega),put_get,if_neg (by omega)]⟩
theorem callN (n w : Nat) (cap : Array Value) {Q : Nat → Value → FState → Prop} (hQ : Stays Q) (hone : ∀ base v σ,Q base v σ → oneCell v = true ∧ notTuple v = true ∧ valCells v = [v]) (σ : FState) (hw : Wf σ)
    (h : ∀ σ',Ext σ σ' → Wf σ' → Gives ((env (n + 1)).call w cap.toList none σ') σ' (Q σ'.next)) :
    Gives ((env (n + 3)).call 91 [.func (.func w) #[] cap] none σ) σ fun v σ' => ∃ u,v = .tuple #[u,.int .i64 0] ∧ Q σ.next u σ':=by
  rw [env_call _ 91 _ _ rfl,enter91 _ _ _ _ (by simp),Sl_start]
  unfold run91
  obtain ⟨_,σ2,e2,hX2,hw2,u,rfl,hq⟩:=callAtN n w cap hQ hone σ hw h
  obtain ⟨o1,o2,o3⟩:=hone _ _ _ hq
  simp -implicitDefEqProofs only [go_sem,↓reduceIte,Nat.reduceLT,Nat.reduceEqDiff,Nat.reduceAdd,Nat.reduceMul,Nat.reduceLeDiff,Nat.reduceSub,r91_0_go,r91_0U,r91_1_go,r91_1U,r91_2_go,r91_2U,Option.getD_some,e2,fleave_nil,fresults_nil,fresults_cons,fresult_tmp,List.getElem?_cons_zero,o1,o2,o3]
  exact ⟨_,_,rfl,hX2,hw2,u,rfl,hq⟩
theorem ord_stays (P : Prop) : Stays (fun _ v _ => ∃ x : Int,v = .int .i64 x ∧ (x = 0 ↔ P)):=⟨fun _ _ _ _ _ h _ _ _ => h⟩
theorem Apart.at {M : Nat} {d : D} (h : Apart M d) : ∀ x ∈ d.pieces [],x.2.parts.length ≤ 3 ∧ GoodD M x.2:=h.sane []
theorem compare1_go (M n N : Nat) (hM : M = n + 1 + 3 * N) (d e : D) (hd : Apart M d) (he : Apart M e) (hN : d.deep ≤ N) (lv mv : List Value) (h4 : lv.length = 4) (hm4 : mv.length = 4) (b1 b2 : Nat) (σ : FState) (hw : Wf σ) (c1 : σ.cells b1 = some lv) (c2 : σ.cells b2 = some mv) (hL : LaidR (fun b => b < σ.next) σ (.agg lv.toArray) d) (hLe : LaidR (fun b => b < σ.next) σ (.agg mv.toArray) e) :
    Gives ((env (M + 6)).call 92 [.pointer (some ⟨b1,0,none⟩),.pointer (some ⟨b2,0,none⟩)] none σ) σ fun w _ => ∃ x : Int,w = .int .i64 x ∧ (x = 0 ↔ d = e):=by
  rw [env_call _ 92 _ _ rfl,enter92 _ _ _ _ (by simp),Sl_start]
  unfold run92
  have ht : lv.take 4 = lv:=List.take_of_length_le (by omega)
  have htm : mv.take 4 = mv:=List.take_of_length_le (by omega)
  obtain ⟨_,σ2,e2,x2,hw2,rfl⟩:=validS_go M d hd.sane (by have:=hd.count; omega) hd.deep lv h4 (fun b => b < σ.next) σ hw hL (fun b hb => hb)
  have k2 : ∀ b cs,b < σ.next → σ.cells b = some cs → σ2.cells b = some cs:=fun b cs hb hc => (x2.cells hb).trans hc
  have n2:=x2.next
  obtain ⟨_,σ3,e3,x3,hw3,rfl⟩:=validS_go M e he.sane (by have:=he.count; omega) he.deep mv hm4 (fun b => b < σ.next) σ2 hw2 (hLe.keep fun b cs hb hc => ⟨k2 b cs hb hc,hb⟩) (fun b hb => by omega)
  have n3:=x3.next
  have k3 : ∀ b cs,b < σ.next → σ.cells b = some cs → σ3.cells b = some cs:=fun b cs hb hc => (x3.cells (by omega)).trans (k2 b cs hb hc)
  obtain ⟨_,σ4,e4,x4,hw4,x,rfl,hx⟩:=order_go M n (fun b => b < σ.next) N d e [] [] (.agg lv.toArray) (.agg mv.toArray) σ3 hN hd.at he.at hw3 (hL.keep fun b cs hb hc => ⟨k3 b cs hb hc,hb⟩) (hLe.keep fun b cs hb hc => ⟨k3 b cs hb hc,hb⟩)
  have e : n + 6 + 3 * N = M + 5:=by omega
  rw [e] at e4
  have d1:=k2 _ _ (hw.cells c2) c2
  have d2:=k3 _ _ (hw.cells c1) c1
  have d3:=k3 _ _ (hw.cells c2) c2
  simp -implicitDefEqProofs only [go_sem,↓reduceIte,Nat.reduceLT,Nat.reduceEqDiff,Nat.reduceAdd,Nat.reduceMul,Nat.reduceLeDiff,Nat.reduceSub,r92_0_go,r92_0U,r92_1_go,r92_1U,r92_2_go,r92_2U,r92_3_go,r92_3U,Option.getD_some,List.getElem?_cons_zero,List.getElem?_cons_succ,c1,h4,hm4,ht,htm,e2,d1,e3,d2,d3,e4,Nat.le_refl]
  exact ⟨_,_,rfl,(x2.trans x3).trans x4,hw4,x,rfl,hx⟩
theorem compare_go (M n N : Nat) (hM : M = n + 1 + 3 * N) (d e : D) (hd : Apart M d) (he : Apart M e) (hN : d.deep ≤ N) (lv mv : List Value) (h4 : lv.length = 4) (hm4 : mv.length = 4) (σ : FState) (hw : Wf σ) (hL : LaidR (fun b => b < σ.next) σ (.agg lv.toArray) d) (hLe : LaidR (fun b => b < σ.next) σ (.agg mv.toArray) e) :
    Gives ((env (M + 9)).call 36 [.agg lv.toArray,.agg mv.toArray] none σ) σ fun w _ => ∃ x : Int,w = .tuple #[.int .i64 x,.int .i64 0] ∧ (x = 0 ↔ d = e):=by
  rw [env_call _ 36 _ _ rfl,enter36 _ _ _ _ (by simp),Sl_start]
  unfold run36
  have x1 : Ext σ ((σ.push (.cells lv TD) none).push (.cells mv TD) none):=((Ext.refl _).push _ _).push _ _
  have hw1:=(hw.push (.cells lv TD) none).push (.cells mv TD) none
  have c1 : ((σ.push (.cells lv TD) none).push (.cells mv TD) none).cells σ.next = some lv:=by rw [cells_push,if_neg (by rw [push_next]; omega),cells_push,if_pos rfl]; rfl
  have c2 : ((σ.push (.cells lv TD) none).push (.cells mv TD) none).cells (σ.next + 1) = some mv:=by rw [cells_push,if_pos (by rw [push_next])]; rfl
  obtain ⟨_,σ2,e2,x2,hw2,_,rfl,x,rfl,hx⟩:=callN (M + 5) 92 #[.pointer (some ⟨σ.next,0,none⟩),.pointer (some ⟨σ.next + 1,0,none⟩)] (ord_stays (d = e)) (fun base v σ ⟨x,h,_⟩ => by subst h; exact ⟨rfl,rfl,rfl⟩) _ hw1 fun σ' hX hw' => compare1_go M n N hM d e hd he hN lv mv h4 hm4 σ.next (σ.next + 1) σ' hw' ((hX.cells (hw1.cells c1)).trans c1) ((hX.cells (hw1.cells c2)).trans c2)
    (hL.keep fun b cs hb hc => ⟨((x1.trans hX).cells hb).trans hc,by have:=(x1.trans hX).next; omega⟩) (hLe.keep fun b cs hb hc => ⟨((x1.trans hX).cells hb).trans hc,by have:=(x1.trans hX).next; omega⟩)
  simp -implicitDefEqProofs only [go_sem,↓reduceIte,Nat.reduceLT,Nat.reduceEqDiff,Nat.reduceAdd,Nat.reduceMul,Nat.reduceLeDiff,Nat.reduceSub,r36_0_go,r36_0U,r36_1_go,r36_1U,Option.getD_some,List.getElem?_cons_zero,List.getElem?_cons_succ,e2,fleave_nil,fresults_nil,fresults_cons,fresult_tmp]
  exact ⟨_,_,rfl,x1.trans x2,hw2,x,rfl,hx⟩
end Go.Proofs.YtodkeaoikjjneaaGreatDoor
/- Two data, piece by piece: the same, or apart at a first piece. -/
namespace Go.Proofs.YtodkeaoikjjneaaGreatDoor
open Go Go.Eng
def Agree (A B : List (List Nat × D)) : Prop:=A.length = B.length ∧ ∀ (i : Nat) (a : List Nat × D),A[i]? = some a → ∃ b,B[i]? = some b ∧ a.1 = b.1 ∧ likeD a.2 b.2 = true
theorem Agree.nil : Agree [] []:=⟨rfl,fun i a h => by simp at h⟩
theorem Agree.cons {a b : List Nat × D} {A B : List (List Nat × D)} (h1 : a.1 = b.1) (h2 : likeD a.2 b.2 = true) (h : Agree A B) : Agree (a :: A) (b :: B):=by
  refine ⟨by simp [h.1],fun i x hx => ?_⟩
  cases i with
  | zero => cases hx; exact ⟨b,rfl,h1,h2⟩
  | succ i => exact h.2 i x hx
theorem Agree.append {A B A' B' : List (List Nat × D)} (h : Agree A B) (h' : Agree A' B') : Agree (A ++ A') (B ++ B'):=by
  refine ⟨by simp [h.1,h'.1],fun i x hx => ?_⟩
  by_cases hi : i < A.length
  · rw [List.getElem?_append_left hi] at hx
    rw [List.getElem?_append_left (by rw [← h.1]; exact hi)]
    exact h.2 i x hx
  · rw [List.getElem?_append_right (by omega)] at hx
    rw [List.getElem?_append_right (by rw [← h.1]; omega),← h.1]
    exact h'.2 _ x hx
theorem likeD_self (d : D) : likeD d d = true:=by
  obtain ⟨k,z,t,ds⟩:=d
  simp [likeD]
theorem Agree.refl : ∀ A : List (List Nat × D),Agree A A
  | [] => .nil
  | a :: A => .cons rfl (likeD_self _) (Agree.refl A)
def Split (A B : List (List Nat × D)) : Prop:=∃ pre pre' path x y ra rb,A = pre ++ (path,x) :: ra ∧ B = pre' ++ (path,y) :: rb ∧ Agree pre pre' ∧ likeD x y = false
mutual
theorem pieces_split (p : List Nat) : ∀ d e : D,d = e ∨ Split (d.pieces p) (e.pieces p)
  | .mk k z t ds,.mk k' z' t' es => by
    cases h : likeD (.mk k z t ds) (.mk k' z' t' es) with
    | false => exact .inr ⟨[],[],p,_,_,_,_,by rw [D.pieces]; rfl,by rw [D.pieces]; rfl,.nil,h⟩
    | true =>
      have h':=h
      simp only [likeD,Bool.and_eq_true,beq_iff_eq] at h'
      obtain ⟨⟨⟨h1,h2⟩,h3⟩,h4⟩:=h'
      have h5:=toList_inj h3
      subst h1 h2 h5
      rcases piecesL_split p ds es 0 (Int.ofNat.inj h4) with rfl | ⟨pre,pre',path,x,y,ra,rb,e1,e2,e3,e4⟩
      · exact .inl rfl
      · exact .inr ⟨(p,.mk k z t ds) :: pre,(p,.mk k z t es) :: pre',path,x,y,ra,rb,by rw [D.pieces,e1]; rfl,by rw [D.pieces,e2]; rfl,.cons rfl h e3,e4⟩
theorem piecesL_split (p : List Nat) : ∀ (ds es : List D) (i : Nat),ds.length = es.length → ds = es ∨ Split (D.piecesL p i ds) (D.piecesL p i es)
  | [],[],_,_ => .inl rfl
  | [],_ :: _,_,h => by simp at h
  | _ :: _,[],_,h => by simp at h
  | d :: ds,e :: es,i,h => by
    rcases pieces_split (p ++ [i]) d e with rfl | ⟨pre,pre',path,x,y,ra,rb,e1,e2,e3,e4⟩
    · rcases piecesL_split p ds es (i + 1) (by simpa using h) with rfl | ⟨pre,pre',path,x,y,ra,rb,e1,e2,e3,e4⟩
      · exact .inl rfl
      · exact .inr ⟨d.pieces (p ++ [i]) ++ pre,d.pieces (p ++ [i]) ++ pre',path,x,y,ra,rb,by rw [D.piecesL,e1,List.append_assoc],by rw [D.piecesL,e2,List.append_assoc],(Agree.refl _).append e3,e4⟩
    · exact .inr ⟨pre,pre',path,x,y,ra ++ D.piecesL p (i + 1) ds,rb ++ D.piecesL p (i + 1) es,by rw [D.piecesL,e1,List.append_assoc,List.cons_append],by rw [D.piecesL,e2,List.append_assoc,List.cons_append],e3,e4⟩
end
mutual
theorem pieces_nodup (p : List Nat) : ∀ d : D,(d.pieces p).Pairwise fun a b => a.1 ≠ b.1
  | .mk k z t ds => by
    rw [D.pieces]
    refine List.Pairwise.cons (fun b hb h => ?_) (piecesL_nodup p ds 0)
    obtain ⟨j,r,d',h1,_⟩:=piecesL_at ds p 0 b hb
    rw [h1] at h
    have:=congrArg List.length h
    simp at this
theorem piecesL_nodup (p : List Nat) : ∀ (ds : List D) (i : Nat),(D.piecesL p i ds).Pairwise fun a b => a.1 ≠ b.1
  | [],_ => by rw [D.piecesL]; exact List.Pairwise.nil
  | d :: ds,i => by
    rw [D.piecesL]
    refine List.pairwise_append.2 ⟨pieces_nodup _ d,piecesL_nodup p ds (i + 1),fun a ha b hb h => ?_⟩
    obtain ⟨r,h1,_⟩:=pieces_at d (p ++ [i]) a ha
    obtain ⟨j,r',d',h2,_⟩:=piecesL_at ds p (i + 1) b hb
    rw [h1,h2,List.append_assoc] at h
    have:=List.append_cancel_left h
    simp at this
    omega
end
end Go.Proofs.YtodkeaoikjjneaaGreatDoor
/- Functions of the program, written out in the reading's words (made by program; the kernel holds each against the code). -/
namespace Go.Proofs.YtodkeaoikjjneaaGreatDoor
open Go Go.Eng
variable (E : Env) (ro : Option Nat) (last : List Nat → RunF) (cl : List Nat) (a : FAct) (u : Option FrameMode) (σ : FState)
def r34_0U (_ : Unit) : List COp:=[⟨fun a σ => fbox 28 (a.get 0) σ,(some 3),fun _ => some true⟩,
  ⟨fun a σ => fbox 28 (a.get 2) σ,(some 5),fun _ => some true⟩,
  ⟨fun a σ => newCells [(.int .i64 0),(.int .i64 0),(.string ⟨#[]⟩),(.slice none 0 0)] 28 none σ,(some 6),fun _ => some true⟩,
  ⟨fun a σ => .val (.int .i64 0) σ,(some 7),fun _ => some true⟩]
def r34_0 : List COp:=r34_0U ()
def r34_1U (_ : Unit) : List COp:=[⟨fun a σ => fload (some 4) (a.get 3) σ,(some 11),fun _ => some true⟩,
  ⟨fun a σ => fload (some 4) (a.get 5) σ,(some 12),fun _ => some true⟩,
  ⟨fun a σ => .enter 85 [(a.get 11),(a.get 12)] σ,(some 13),fun _ => some true⟩,
  ⟨fun a σ => .val (a.get 13) σ,(some 8),fun _ => some true⟩]
def r34_1 : List COp:=r34_1U ()
def r34_2U (_ : Unit) : List COp:=[⟨fun a σ => .val (a.get 8) σ,(some 14),fun _ => some true⟩,
  ⟨fun a σ => i_neq Tryz.prog 32 (.tmp 14) (.const (.int .i64 0)) (a.get 14) (.int .i64 0) σ,(some 15),fun _ => some true⟩]
def r34_2 : List COp:=r34_2U ()
def r34_3U (_ : Unit) : List COp:=[⟨fun a σ => fbuild (fun i => nth [(0,1),(1,1),(2,1),(3,1)] i) [(.int .i64 0),(.int .i64 0),(.string ⟨#[]⟩),(.slice none 0 0)] [] σ,(some 16),fun _ => some true⟩,
  ⟨fun a σ => .val (a.get 8) σ,(some 17),fun _ => some true⟩,
  ⟨fun a σ => fstore 4 (a.get 6) (a.get 16) σ,none,fun _ => some true⟩,
  ⟨fun a σ => .val (a.get 17) σ,(some 7),fun _ => some true⟩]
def r34_3 : List COp:=r34_3U ()
def r34_4U (_ : Unit) : List COp:=[⟨fun a σ => fload (some 4) (a.get 3) σ,(some 19),fun _ => some true⟩,
  ⟨fun a σ => .val (a.get 1) σ,(some 20),fun _ => some true⟩,
  ⟨fun a σ => .enter 27 [(a.get 19),(a.get 20)] σ,(some 21),fun _ => some true⟩,
  ⟨fun a σ => .val (a.get 21) σ,(some 18),fun _ => some true⟩,
  ⟨fun a σ => fextract 0 (a.get 18) σ,(some 22),fun _ => some true⟩,
  ⟨fun a σ => fextract 1 (a.get 18) σ,(some 23),fun _ => some true⟩,
  ⟨fun a σ => newCells [(.int .i64 0),(.int .i64 0),(.string ⟨#[]⟩),(.slice none 0 0)] 28 none σ,(some 9),fun _ => some true⟩,
  ⟨fun a σ => fstore 4 (a.get 9) (a.get 22) σ,none,fun _ => some true⟩,
  ⟨fun a σ => .val (a.get 23) σ,(some 10),fun _ => some true⟩]
def r34_4 : List COp:=r34_4U ()
def r34_5U (_ : Unit) : List COp:=[⟨fun a σ => .val (a.get 10) σ,(some 24),fun _ => some true⟩,
  ⟨fun a σ => fun1 Tryz.prog (Op.unary .not) (a.get 24) σ,(some 25),fun _ => some true⟩]
def r34_5 : List COp:=r34_5U ()
def r34_6U (_ : Unit) : List COp:=[⟨fun a σ => fbuild (fun i => nth [(0,1),(1,1),(2,1),(3,1)] i) [(.int .i64 0),(.int .i64 0),(.string ⟨#[]⟩),(.slice none 0 0)] [] σ,(some 26),fun _ => some true⟩,
  ⟨fun a σ => fstore 4 (a.get 6) (a.get 26) σ,none,fun _ => some true⟩,
  ⟨fun a σ => .val (.int .i64 9) σ,(some 7),fun _ => some true⟩]
def r34_6 : List COp:=r34_6U ()
def r34_7U (_ : Unit) : List COp:=[⟨fun a σ => fload (some 4) (a.get 3) σ,(some 27),fun _ => some true⟩,
  ⟨fun a σ => .val (a.get 1) σ,(some 28),fun _ => some true⟩,
  ⟨fun a σ => fload (some 4) (a.get 5) σ,(some 29),fun _ => some true⟩,
  ⟨fun a σ => .enter 87 [(a.get 27),(a.get 28),(a.get 29)] σ,(some 30),fun _ => some true⟩,
  ⟨fun a σ => .enter 86 [(a.get 30)] σ,(some 31),fun _ => some true⟩,
  ⟨fun a σ => fextract 0 (a.get 31) σ,(some 32),fun _ => some true⟩,
  ⟨fun a σ => fextract 1 (a.get 31) σ,(some 33),fun _ => some true⟩,
  ⟨fun a σ => fstore 4 (a.get 6) (a.get 32) σ,none,fun _ => some true⟩,
  ⟨fun a σ => .val (a.get 33) σ,(some 7),fun _ => some true⟩]
def r34_7 : List COp:=r34_7U ()
def run34 (E : Env) (ro : Option Nat) (fn : FuncId) : RunF:=(seqR (fops E ro r34_0) (seqR (seqR (fops E ro r34_1) (seqR (fops E ro r34_2) (condR (fun a => (a.get 15)) (seqR (fops E ro r34_3) retR) skipR))) (seqR (seqR (fops E ro r34_4) (seqR (fops E ro r34_5) (condR (fun a => (a.get 25)) (seqR (fops E ro r34_6) retR) skipR))) (seqR (fops E ro r34_7) retR))))
theorem r34_0_go : fops E ro r34_0 a u σ = fops E ro (r34_0U ()) a u σ:=rfl
theorem r34_1_go : fops E ro r34_1 a u σ = fops E ro (r34_1U ()) a u σ:=rfl
theorem r34_2_go : fops E ro r34_2 a u σ = fops E ro (r34_2U ()) a u σ:=rfl
theorem r34_4_go : fops E ro r34_4 a u σ = fops E ro (r34_4U ()) a u σ:=rfl
theorem r34_5_go : fops E ro r34_5 a u σ = fops E ro (r34_5U ()) a u σ:=rfl
theorem r34_7_go : fops E ro r34_7 a u σ = fops E ro (r34_7U ()) a u σ:=rfl
theorem code34 (E : Env) (ro : Option Nat) (fn : FuncId) : code Tryz.prog nls (Tryz.f34.body.getD .skip) E ro fn = run34 E ro fn:=by kernel_rfl
theorem enter34 (E : Env) (args : List Value) (u : Option FrameMode) (σ : FState) (hn : args.length ≤ (11 : Nat)) : fcall Tryz.prog nls E 34 args u σ = leaveR Tryz.prog E [.cell 6 28,.tmp 7] (run34 E none 34 ⟨padTo undef 11 args,fun _ => undef,11,34,[]⟩ u σ):=by
  rw [fcall_of (body:=Tryz.f34.body.getD .skip) Tryz.func34 rfl E args u σ 11 34 (by kernel_rfl) rfl ⟨hn,by decide⟩,code34]
  rfl
def r87_0U (_ : Unit) : List COp:=[⟨fun a σ => fbox 28 (a.get 0) σ,(some 3),fun _ => some true⟩,
  ⟨fun a σ => fbox 28 (a.get 2) σ,(some 5),fun _ => some true⟩,
  ⟨fun a σ => newCells [(.int .i64 0),(.int .i64 0),(.string ⟨#[]⟩),(.slice none 0 0)] 28 none σ,(some 6),fun _ => some true⟩]
def r87_0 : List COp:=r87_0U ()
def r87_1U (_ : Unit) : List COp:=[⟨fun a σ => .val (a.get 1) σ,(some 9),fun _ => some true⟩,
  ⟨fun a σ => flenL (a.get 9) σ,(some 10),fun _ => some true⟩,
  ⟨fun a σ => i_eql Tryz.prog 3 (.tmp 10) (.const (.int .i64 0)) (a.get 10) (.int .i64 0) σ,(some 11),fun _ => some true⟩]
def r87_1 : List COp:=r87_1U ()
def r87_2U (_ : Unit) : List COp:=[⟨fun a σ => fload (some 4) (a.get 5) σ,(some 12),fun _ => some true⟩,
  ⟨fun a σ => fstore 4 (a.get 6) (a.get 12) σ,none,fun _ => some true⟩]
def r87_2 : List COp:=r87_2U ()
def r87_3U (_ : Unit) : List COp:=[⟨fun a σ => ffield 0 (a.get 3) σ,(some 13),fun _ => some true⟩,
  ⟨fun a σ => fload none (a.get 13) σ,(some 14),fun _ => some true⟩,
  ⟨fun a σ => fbuild (fun i => nth [(0,1),(1,1),(2,1),(3,1)] i) [(.int .i64 0),(.int .i64 0),(.string ⟨#[]⟩),(.slice none 0 0)] [(0,(a.get 14))] σ,(some 15),fun _ => some true⟩,
  ⟨fun a σ => newCells [(.int .i64 0),(.int .i64 0),(.string ⟨#[]⟩),(.slice none 0 0)] 28 none σ,(some 7),fun _ => some true⟩,
  ⟨fun a σ => fstore 4 (a.get 7) (a.get 15) σ,none,fun _ => some true⟩]
def r87_3 : List COp:=r87_3U ()
def r87_4U (_ : Unit) : List COp:=[⟨fun a σ => .val (.int .i64 0) σ,(some 8),fun _ => some true⟩]
def r87_4 : List COp:=r87_4U ()
def r87_5U (_ : Unit) : List COp:=[⟨fun a σ => .val (a.get 8) σ,(some 16),fun _ => some true⟩,
  ⟨fun a σ => ffield 3 (a.get 3) σ,(some 17),fun _ => some true⟩,
  ⟨fun a σ => fload none (a.get 17) σ,(some 18),fun _ => some true⟩,
  ⟨fun a σ => flenL (a.get 18) σ,(some 19),fun _ => some true⟩,
  ⟨fun a σ => i_lss Tryz.prog 3 (.tmp 16) (.tmp 19) (a.get 16) (a.get 19) σ,(some 20),fun _ => some true⟩]
def r87_5 : List COp:=r87_5U ()
def r87_7U (_ : Unit) : List COp:=[⟨fun a σ => .val (a.get 8) σ,(some 23),fun _ => some true⟩,
  ⟨fun a σ => .val (a.get 1) σ,(some 24),fun _ => some true⟩,
  ⟨fun a σ => findex (none,1) (a.get 24) (.int .i64 0) σ,(some 25),fun _ => some true⟩,
  ⟨fun a σ => fload none (a.get 25) σ,(some 26),fun _ => some true⟩,
  ⟨fun a σ => i_eql Tryz.prog 3 (.tmp 23) (.tmp 26) (a.get 23) (a.get 26) σ,(some 27),fun _ => some true⟩]
def r87_7 : List COp:=r87_7U ()
def r87_8U (_ : Unit) : List DOp:=[⟨fun a σ => ffield 3 (a.get 3) σ,(some 30),fun _ => some true,(some 0),false⟩,
  ⟨fun a σ => fload none (a.get 30) σ,(some 31),fun _ => some true,(some 0),false⟩,
  ⟨fun a σ => .val (a.get 8) σ,(some 32),fun _ => some true,(some 0),false⟩,
  ⟨fun a σ => findex (none,4) (a.get 31) (a.get 32) σ,(some 33),fun _ => some true,(some 0),false⟩,
  ⟨fun a σ => fload (some 4) (a.get 33) σ,(some 34),fun _ => some true,(some 0),false⟩,
  ⟨fun a σ => .val (a.get 1) σ,(some 35),fun _ => some true,(some 0),false⟩,
  ⟨fun a σ => fslice Tryz.prog 22 (a.get 35) (some (.int .i64 1)) none none σ,(some 36),fun _ => some true,(some 0),false⟩,
  ⟨fun a σ => fload (some 4) (a.get 5) σ,(some 37),fun _ => some true,(some 0),false⟩,
  ⟨fun a σ => .enter 87 [(a.get 34),(a.get 36),(a.get 37)] σ,(some 38),fun _ => some true,none,false⟩,
  ⟨fun a σ => ffield 3 (a.get 7) σ,(some 28),fun _ => some true,(some 0),false⟩,
  ⟨fun a σ => fload none (a.get 28) σ,(some 29),fun _ => some true,(some 0),false⟩,
  ⟨fun a σ => fbuildSlice 28 1 4 [(.int .i64 0),(.int .i64 0),(.string ⟨#[]⟩),(.slice none 0 0)] [(0,(a.get 38))] σ,(some 39),fun _ => some true,(some 1),false⟩,
  ⟨fun a σ => fappend 28 4 56 (a.get 29) (a.get 39) σ,(some 40),fun _ => some true,none,true⟩,
  ⟨fun a σ => ffield 3 (a.get 7) σ,(some 41),fun _ => some true,(some 2),false⟩,
  ⟨fun a σ => fstore 1 (a.get 41) (a.get 40) σ,none,fun _ => some true,none,true⟩]
def r87_8 : List DOp:=r87_8U ()
def r87_9U (_ : Unit) : List DOp:=[⟨fun a σ => ffield 3 (a.get 7) σ,(some 42),fun _ => some true,(some 0),false⟩,
  ⟨fun a σ => fload none (a.get 42) σ,(some 43),fun _ => some true,(some 0),false⟩,
  ⟨fun a σ => ffield 3 (a.get 3) σ,(some 44),fun _ => some true,(some 0),false⟩,
  ⟨fun a σ => fload none (a.get 44) σ,(some 45),fun _ => some true,(some 0),false⟩,
  ⟨fun a σ => .val (a.get 8) σ,(some 46),fun _ => some true,(some 0),false⟩,
  ⟨fun a σ => findex (none,4) (a.get 45) (a.get 46) σ,(some 47),fun _ => some true,(some 0),false⟩,
  ⟨fun a σ => fload (some 4) (a.get 47) σ,(some 48),fun _ => some true,(some 0),false⟩,
  ⟨fun a σ => fbuildSlice 28 1 4 [(.int .i64 0),(.int .i64 0),(.string ⟨#[]⟩),(.slice none 0 0)] [(0,(a.get 48))] σ,(some 49),fun _ => some true,(some 0),false⟩,
  ⟨fun a σ => fappend 28 4 56 (a.get 43) (a.get 49) σ,(some 50),fun _ => some true,none,true⟩,
  ⟨fun a σ => ffield 3 (a.get 7) σ,(some 51),fun _ => some true,(some 1),false⟩,
  ⟨fun a σ => fstore 1 (a.get 51) (a.get 50) σ,none,fun _ => some true,none,true⟩]
def r87_9 : List DOp:=r87_9U ()
def r87_6U (_ : Unit) : List COp:=[⟨fun a σ => .val (a.get 8) σ,(some 21),fun _ => some true⟩,
  ⟨fun a σ => i_add Tryz.prog 3 (.tmp 21) (.const (.int .i64 1)) (a.get 21) (.int .i64 1) σ,(some 22),fun _ => some true⟩,
  ⟨fun a σ => .val (a.get 22) σ,(some 8),fun _ => some true⟩]
def r87_6 : List COp:=r87_6U ()
def l87_0 (E : Env) (ro : Option Nat) (fn : FuncId) : RunF:=(seqR (seqR (fops E ro r87_5) (condR (fun a => (a.get 20)) skipR (exitR 0))) (seqR (blockR 1 (seqR (fops E ro r87_7) (condR (fun a => (a.get 27)) (drawR E ro r87_8) (drawR E ro r87_9)))) (fops E ro r87_6)))
def r87_10U (_ : Unit) : List COp:=[⟨fun a σ => fload (some 4) (a.get 7) σ,(some 52),fun _ => some true⟩,
  ⟨fun a σ => fstore 4 (a.get 6) (a.get 52) σ,none,fun _ => some true⟩]
def r87_10 : List COp:=r87_10U ()
def run87 (E : Env) (ro : Option Nat) (fn : FuncId) : RunF:=(seqR (fops E ro r87_0) (seqR (seqR (fops E ro r87_1) (condR (fun a => (a.get 11)) (seqR (fops E ro r87_2) retR) skipR)) (seqR (fops E ro r87_3) (seqR (seqR (fops E ro r87_4) (blockR 0 (loopR (keepOf nls fn) (l87_0 E ro fn)))) (seqR (fops E ro r87_10) retR)))))
theorem r87_0_go : fops E ro r87_0 a u σ = fops E ro (r87_0U ()) a u σ:=rfl
theorem r87_1_go : fops E ro r87_1 a u σ = fops E ro (r87_1U ()) a u σ:=rfl
theorem r87_2_go : fops E ro r87_2 a u σ = fops E ro (r87_2U ()) a u σ:=rfl
theorem r87_3_go : fops E ro r87_3 a u σ = fops E ro (r87_3U ()) a u σ:=rfl
theorem r87_4_go : fops E ro r87_4 a u σ = fops E ro (r87_4U ()) a u σ:=rfl
theorem r87_5_go : fops E ro r87_5 a u σ = fops E ro (r87_5U ()) a u σ:=rfl
theorem r87_7_go : fops E ro r87_7 a u σ = fops E ro (r87_7U ()) a u σ:=rfl
theorem r87_8_go : fdraw E ro last r87_8 cl a u σ = fdraw E ro last (r87_8U ()) cl a u σ:=rfl
theorem r87_9_go : fdraw E ro last r87_9 cl a u σ = fdraw E ro last (r87_9U ()) cl a u σ:=rfl
theorem r87_6_go : fops E ro r87_6 a u σ = fops E ro (r87_6U ()) a u σ:=rfl
theorem r87_10_go : fops E ro r87_10 a u σ = fops E ro (r87_10U ()) a u σ:=rfl
theorem code87 (E : Env) (ro : Option Nat) (fn : FuncId) : code Tryz.prog nls (Tryz.f87.body.getD .skip) E ro fn = run87 E ro fn:=by kernel_rfl
theorem enter87 (E : Env) (args : List Value) (u : Option FrameMode) (σ : FState) (hn : args.length ≤ (9 : Nat)) : fcall Tryz.prog nls E 87 args u σ = leaveR Tryz.prog E [.cell 6 28] (run87 E none 87 ⟨padTo undef 9 args,fun _ => undef,9,53,[]⟩ u σ):=by
  rw [fcall_of (body:=Tryz.f87.body.getD .skip) Tryz.func87 rfl E args u σ 9 53 (by kernel_rfl) rfl ⟨hn,by decide⟩,code87]
  rfl
def r85_0U (_ : Unit) : List COp:=[⟨fun a σ => fbox 28 (a.get 0) σ,(some 2),fun _ => some true⟩,
  ⟨fun a σ => fbox 28 (a.get 1) σ,(some 3),fun _ => some true⟩,
  ⟨fun a σ => .val (.int .i64 0) σ,(some 4),fun _ => some true⟩]
def r85_0 : List COp:=r85_0U ()
def r85_1U (_ : Unit) : List COp:=[⟨fun a σ => fload (some 4) (a.get 2) σ,(some 6),fun _ => some true⟩,
  ⟨fun a σ => .enter 115 [(a.get 6)] σ,(some 7),fun _ => some true⟩,
  ⟨fun a σ => .val (a.get 7) σ,(some 5),fun _ => some true⟩]
def r85_1 : List COp:=r85_1U ()
def r85_2U (_ : Unit) : List COp:=[⟨fun a σ => .val (a.get 5) σ,(some 8),fun _ => some true⟩,
  ⟨fun a σ => i_neq Tryz.prog 32 (.tmp 8) (.const (.int .i64 0)) (a.get 8) (.int .i64 0) σ,(some 9),fun _ => some true⟩]
def r85_2 : List COp:=r85_2U ()
def r85_3U (_ : Unit) : List COp:=[⟨fun a σ => .val (a.get 5) σ,(some 10),fun _ => some true⟩,
  ⟨fun a σ => .val (a.get 10) σ,(some 4),fun _ => some true⟩]
def r85_3 : List COp:=r85_3U ()
def r85_4U (_ : Unit) : List COp:=[⟨fun a σ => fload (some 4) (a.get 3) σ,(some 11),fun _ => some true⟩,
  ⟨fun a σ => .enter 115 [(a.get 11)] σ,(some 12),fun _ => some true⟩,
  ⟨fun a σ => .val (a.get 12) σ,(some 4),fun _ => some true⟩]
def r85_4 : List COp:=r85_4U ()
def run85 (E : Env) (ro : Option Nat) (fn : FuncId) : RunF:=(seqR (fops E ro r85_0) (seqR (seqR (fops E ro r85_1) (seqR (fops E ro r85_2) (condR (fun a => (a.get 9)) (seqR (fops E ro r85_3) retR) skipR))) (seqR (fops E ro r85_4) retR)))
theorem r85_0_go : fops E ro r85_0 a u σ = fops E ro (r85_0U ()) a u σ:=rfl
theorem r85_1_go : fops E ro r85_1 a u σ = fops E ro (r85_1U ()) a u σ:=rfl
theorem r85_2_go : fops E ro r85_2 a u σ = fops E ro (r85_2U ()) a u σ:=rfl
theorem r85_4_go : fops E ro r85_4 a u σ = fops E ro (r85_4U ()) a u σ:=rfl
theorem code85 (E : Env) (ro : Option Nat) (fn : FuncId) : code Tryz.prog nls (Tryz.f85.body.getD .skip) E ro fn = run85 E ro fn:=by kernel_rfl
theorem enter85 (E : Env) (args : List Value) (u : Option FrameMode) (σ : FState) (hn : args.length ≤ (6 : Nat)) : fcall Tryz.prog nls E 85 args u σ = leaveR Tryz.prog E [.tmp 4] (run85 E none 85 ⟨padTo undef 6 args,fun _ => undef,6,13,[]⟩ u σ):=by
  rw [fcall_of (body:=Tryz.f85.body.getD .skip) Tryz.func85 rfl E args u σ 6 13 (by kernel_rfl) rfl ⟨hn,by decide⟩,code85]
  rfl
def r86_0U (_ : Unit) : List COp:=[⟨fun a σ => fbox 28 (a.get 0) σ,(some 1),fun _ => some true⟩,
  ⟨fun a σ => newCells [(.int .i64 0),(.int .i64 0),(.string ⟨#[]⟩),(.slice none 0 0)] 28 none σ,(some 2),fun _ => some true⟩,
  ⟨fun a σ => .val (.int .i64 0) σ,(some 3),fun _ => some true⟩]
def r86_0 : List COp:=r86_0U ()
def r86_1U (_ : Unit) : List COp:=[⟨fun a σ => fload (some 4) (a.get 1) σ,(some 5),fun _ => some true⟩,
  ⟨fun a σ => .enter 116 [(a.get 5)] σ,(some 6),fun _ => some true⟩,
  ⟨fun a σ => .val (a.get 6) σ,(some 4),fun _ => some true⟩]
def r86_1 : List COp:=r86_1U ()
def r86_2U (_ : Unit) : List COp:=[⟨fun a σ => .val (a.get 4) σ,(some 7),fun _ => some true⟩,
  ⟨fun a σ => i_neq Tryz.prog 32 (.tmp 7) (.const (.int .i64 0)) (a.get 7) (.int .i64 0) σ,(some 8),fun _ => some true⟩]
def r86_2 : List COp:=r86_2U ()
def r86_3U (_ : Unit) : List COp:=[⟨fun a σ => fbuild (fun i => nth [(0,1),(1,1),(2,1),(3,1)] i) [(.int .i64 0),(.int .i64 0),(.string ⟨#[]⟩),(.slice none 0 0)] [] σ,(some 9),fun _ => some true⟩,
  ⟨fun a σ => .val (a.get 4) σ,(some 10),fun _ => some true⟩,
  ⟨fun a σ => fstore 4 (a.get 2) (a.get 9) σ,none,fun _ => some true⟩,
  ⟨fun a σ => .val (a.get 10) σ,(some 3),fun _ => some true⟩]
def r86_3 : List COp:=r86_3U ()
def r86_4U (_ : Unit) : List COp:=[⟨fun a σ => fload (some 4) (a.get 1) σ,(some 11),fun _ => some true⟩,
  ⟨fun a σ => fstore 4 (a.get 2) (a.get 11) σ,none,fun _ => some true⟩,
  ⟨fun a σ => .val (.int .i64 0) σ,(some 3),fun _ => some true⟩]
def r86_4 : List COp:=r86_4U ()
def run86 (E : Env) (ro : Option Nat) (fn : FuncId) : RunF:=(seqR (fops E ro r86_0) (seqR (seqR (fops E ro r86_1) (seqR (fops E ro r86_2) (condR (fun a => (a.get 8)) (seqR (fops E ro r86_3) retR) skipR))) (seqR (fops E ro r86_4) retR)))
theorem r86_0_go : fops E ro r86_0 a u σ = fops E ro (r86_0U ()) a u σ:=rfl
theorem r86_1_go : fops E ro r86_1 a u σ = fops E ro (r86_1U ()) a u σ:=rfl
theorem r86_2_go : fops E ro r86_2 a u σ = fops E ro (r86_2U ()) a u σ:=rfl
theorem r86_4_go : fops E ro r86_4 a u σ = fops E ro (r86_4U ()) a u σ:=rfl
theorem code86 (E : Env) (ro : Option Nat) (fn : FuncId) : code Tryz.prog nls (Tryz.f86.body.getD .skip) E ro fn = run86 E ro fn:=by kernel_rfl
theorem enter86 (E : Env) (args : List Value) (u : Option FrameMode) (σ : FState) (hn : args.length ≤ (5 : Nat)) : fcall Tryz.prog nls E 86 args u σ = leaveR Tryz.prog E [.cell 2 28,.tmp 3] (run86 E none 86 ⟨padTo undef 5 args,fun _ => undef,5,12,[]⟩ u σ):=by
  rw [fcall_of (body:=Tryz.f86.body.getD .skip) Tryz.func86 rfl E args u σ 5 12 (by kernel_rfl) rfl ⟨hn,by decide⟩,code86]
  rfl
def r115_0U (_ : Unit) : List COp:=[⟨fun a σ => fbox 28 (a.get 0) σ,(some 1),fun _ => some true⟩,
  ⟨fun a σ => .val (.int .i64 0) σ,(some 2),fun _ => some true⟩]
def r115_0 : List COp:=r115_0U ()
def r115_1U (_ : Unit) : List COp:=[⟨fun a σ => fload (some 4) (a.get 1) σ,(some 4),fun _ => some true⟩,
  ⟨fun a σ => .enter 139 [(a.get 4)] σ,(some 5),fun _ => some true⟩,
  ⟨fun a σ => .val (a.get 5) σ,(some 3),fun _ => some true⟩]
def r115_1 : List COp:=r115_1U ()
def r115_2U (_ : Unit) : List COp:=[⟨fun a σ => .val (a.get 3) σ,(some 6),fun _ => some true⟩,
  ⟨fun a σ => i_neq Tryz.prog 32 (.tmp 6) (.const (.int .i64 0)) (a.get 6) (.int .i64 0) σ,(some 7),fun _ => some true⟩]
def r115_2 : List COp:=r115_2U ()
def r115_3U (_ : Unit) : List COp:=[⟨fun a σ => .val (a.get 3) σ,(some 8),fun _ => some true⟩,
  ⟨fun a σ => .val (a.get 8) σ,(some 2),fun _ => some true⟩]
def r115_3 : List COp:=r115_3U ()
def r115_4U (_ : Unit) : List COp:=[⟨fun a σ => fload (some 4) (a.get 1) σ,(some 9),fun _ => some true⟩,
  ⟨fun a σ => .enter 116 [(a.get 9)] σ,(some 10),fun _ => some true⟩,
  ⟨fun a σ => .val (a.get 10) σ,(some 2),fun _ => some true⟩]
def r115_4 : List COp:=r115_4U ()
def run115 (E : Env) (ro : Option Nat) (fn : FuncId) : RunF:=(seqR (fops E ro r115_0) (seqR (seqR (fops E ro r115_1) (seqR (fops E ro r115_2) (condR (fun a => (a.get 7)) (seqR (fops E ro r115_3) retR) skipR))) (seqR (fops E ro r115_4) retR)))
theorem r115_0_go : fops E ro r115_0 a u σ = fops E ro (r115_0U ()) a u σ:=rfl
theorem r115_1_go : fops E ro r115_1 a u σ = fops E ro (r115_1U ()) a u σ:=rfl
theorem r115_2_go : fops E ro r115_2 a u σ = fops E ro (r115_2U ()) a u σ:=rfl
theorem r115_4_go : fops E ro r115_4 a u σ = fops E ro (r115_4U ()) a u σ:=rfl
theorem code115 (E : Env) (ro : Option Nat) (fn : FuncId) : code Tryz.prog nls (Tryz.f115.body.getD .skip) E ro fn = run115 E ro fn:=by kernel_rfl
theorem enter115 (E : Env) (args : List Value) (u : Option FrameMode) (σ : FState) (hn : args.length ≤ (4 : Nat)) : fcall Tryz.prog nls E 115 args u σ = leaveR Tryz.prog E [.tmp 2] (run115 E none 115 ⟨padTo undef 4 args,fun _ => undef,4,11,[]⟩ u σ):=by
  rw [fcall_of (body:=Tryz.f115.body.getD .skip) Tryz.func115 rfl E args u σ 4 11 (by kernel_rfl) rfl ⟨hn,by decide⟩,code115]
  rfl
def r139_0U (_ : Unit) : List COp:=[⟨fun a σ => fbox 28 (a.get 0) σ,(some 1),fun _ => some true⟩,
  ⟨fun a σ => .val (.int .i64 0) σ,(some 2),fun _ => some true⟩]
def r139_0 : List COp:=r139_0U ()
def r139_1U (_ : Unit) : List COp:=[⟨fun a σ => fload (some 4) (a.get 1) σ,(some 6),fun _ => some true⟩,
  ⟨fun a σ => .enter 150 [(a.get 6)] σ,(some 7),fun _ => some true⟩,
  ⟨fun a σ => .val (a.get 7) σ,(some 3),fun _ => some true⟩]
def r139_1 : List COp:=r139_1U ()
def r139_2U (_ : Unit) : List COp:=[⟨fun a σ => .val (a.get 3) σ,(some 8),fun _ => some true⟩,
  ⟨fun a σ => i_neq Tryz.prog 32 (.tmp 8) (.const (.int .i64 0)) (a.get 8) (.int .i64 0) σ,(some 9),fun _ => some true⟩]
def r139_2 : List COp:=r139_2U ()
def r139_3U (_ : Unit) : List COp:=[⟨fun a σ => .val (a.get 3) σ,(some 10),fun _ => some true⟩,
  ⟨fun a σ => .val (a.get 10) σ,(some 2),fun _ => some true⟩]
def r139_3 : List COp:=r139_3U ()
def r139_4U (_ : Unit) : List COp:=[⟨fun a σ => .val (.int .i64 0) σ,(some 4),fun _ => some true⟩]
def r139_4 : List COp:=r139_4U ()
def r139_5U (_ : Unit) : List COp:=[⟨fun a σ => .val (a.get 4) σ,(some 11),fun _ => some true⟩,
  ⟨fun a σ => ffield 3 (a.get 1) σ,(some 12),fun _ => some true⟩,
  ⟨fun a σ => fload none (a.get 12) σ,(some 13),fun _ => some true⟩,
  ⟨fun a σ => flenL (a.get 13) σ,(some 14),fun _ => some true⟩,
  ⟨fun a σ => i_lss Tryz.prog 3 (.tmp 11) (.tmp 14) (a.get 11) (a.get 14) σ,(some 15),fun _ => some true⟩]
def r139_5 : List COp:=r139_5U ()
def r139_7U (_ : Unit) : List COp:=[⟨fun a σ => ffield 3 (a.get 1) σ,(some 18),fun _ => some true⟩,
  ⟨fun a σ => fload none (a.get 18) σ,(some 19),fun _ => some true⟩,
  ⟨fun a σ => .val (a.get 4) σ,(some 20),fun _ => some true⟩,
  ⟨fun a σ => findex (none,4) (a.get 19) (a.get 20) σ,(some 21),fun _ => some true⟩,
  ⟨fun a σ => fload (some 4) (a.get 21) σ,(some 22),fun _ => some true⟩,
  ⟨fun a σ => .enter 139 [(a.get 22)] σ,(some 23),fun _ => some true⟩,
  ⟨fun a σ => .val (a.get 23) σ,(some 5),fun _ => some true⟩]
def r139_7 : List COp:=r139_7U ()
def r139_8U (_ : Unit) : List COp:=[⟨fun a σ => .val (a.get 5) σ,(some 24),fun _ => some true⟩,
  ⟨fun a σ => i_neq Tryz.prog 32 (.tmp 24) (.const (.int .i64 0)) (a.get 24) (.int .i64 0) σ,(some 25),fun _ => some true⟩]
def r139_8 : List COp:=r139_8U ()
def r139_9U (_ : Unit) : List COp:=[⟨fun a σ => .val (a.get 5) σ,(some 26),fun _ => some true⟩,
  ⟨fun a σ => .val (a.get 26) σ,(some 2),fun _ => some true⟩]
def r139_9 : List COp:=r139_9U ()
def r139_6U (_ : Unit) : List COp:=[⟨fun a σ => .val (a.get 4) σ,(some 16),fun _ => some true⟩,
  ⟨fun a σ => i_add Tryz.prog 3 (.tmp 16) (.const (.int .i64 1)) (a.get 16) (.int .i64 1) σ,(some 17),fun _ => some true⟩,
  ⟨fun a σ => .val (a.get 17) σ,(some 4),fun _ => some true⟩]
def r139_6 : List COp:=r139_6U ()
def l139_0 (E : Env) (ro : Option Nat) (fn : FuncId) : RunF:=(seqR (seqR (fops E ro r139_5) (condR (fun a => (a.get 15)) skipR (exitR 0))) (seqR (blockR 1 (seqR (fops E ro r139_7) (seqR (fops E ro r139_8) (condR (fun a => (a.get 25)) (seqR (fops E ro r139_9) retR) skipR)))) (fops E ro r139_6)))
def r139_10U (_ : Unit) : List COp:=[⟨fun a σ => .val (.int .i64 0) σ,(some 2),fun _ => some true⟩]
def r139_10 : List COp:=r139_10U ()
def run139 (E : Env) (ro : Option Nat) (fn : FuncId) : RunF:=(seqR (fops E ro r139_0) (seqR (seqR (fops E ro r139_1) (seqR (fops E ro r139_2) (condR (fun a => (a.get 9)) (seqR (fops E ro r139_3) retR) skipR))) (seqR (seqR (fops E ro r139_4) (blockR 0 (loopR (keepOf nls fn) (l139_0 E ro fn)))) (seqR (fops E ro r139_10) retR))))
theorem r139_0_go : fops E ro r139_0 a u σ = fops E ro (r139_0U ()) a u σ:=rfl
theorem r139_1_go : fops E ro r139_1 a u σ = fops E ro (r139_1U ()) a u σ:=rfl
theorem r139_2_go : fops E ro r139_2 a u σ = fops E ro (r139_2U ()) a u σ:=rfl
theorem r139_4_go : fops E ro r139_4 a u σ = fops E ro (r139_4U ()) a u σ:=rfl
theorem r139_5_go : fops E ro r139_5 a u σ = fops E ro (r139_5U ()) a u σ:=rfl
theorem r139_7_go : fops E ro r139_7 a u σ = fops E ro (r139_7U ()) a u σ:=rfl
theorem r139_8_go : fops E ro r139_8 a u σ = fops E ro (r139_8U ()) a u σ:=rfl
theorem r139_6_go : fops E ro r139_6 a u σ = fops E ro (r139_6U ()) a u σ:=rfl
theorem r139_10_go : fops E ro r139_10 a u σ = fops E ro (r139_10U ()) a u σ:=rfl
theorem code139 (E : Env) (ro : Option Nat) (fn : FuncId) : code Tryz.prog nls (Tryz.f139.body.getD .skip) E ro fn = run139 E ro fn:=by kernel_rfl
theorem enter139 (E : Env) (args : List Value) (u : Option FrameMode) (σ : FState) (hn : args.length ≤ (6 : Nat)) : fcall Tryz.prog nls E 139 args u σ = leaveR Tryz.prog E [.tmp 2] (run139 E none 139 ⟨padTo undef 6 args,fun _ => undef,6,27,[]⟩ u σ):=by
  rw [fcall_of (body:=Tryz.f139.body.getD .skip) Tryz.func139 rfl E args u σ 6 27 (by kernel_rfl) rfl ⟨hn,by decide⟩,code139]
  rfl
def r150_0U (_ : Unit) : List COp:=[⟨fun a σ => fbox 28 (a.get 0) σ,(some 1),fun _ => some true⟩,
  ⟨fun a σ => .val (.int .i64 0) σ,(some 2),fun _ => some true⟩]
def r150_0 : List COp:=r150_0U ()
def r150_1U (_ : Unit) : List COp:=[⟨fun a σ => ffield 0 (a.get 1) σ,(some 6),fun _ => some true⟩,
  ⟨fun a σ => fload none (a.get 6) σ,(some 7),fun _ => some true⟩,
  ⟨fun a σ => .enter 75 [(a.get 7),(.int .i64 0),(.int .i64 6)] σ,(some 8),fun _ => some true⟩,
  ⟨fun a σ => fun1 Tryz.prog (Op.unary .not) (a.get 8) σ,(some 9),fun _ => some true⟩]
def r150_1 : List COp:=r150_1U ()
def r150_2U (_ : Unit) : List COp:=[⟨fun a σ => .val (.int .i64 4) σ,(some 2),fun _ => some true⟩]
def r150_2 : List COp:=r150_2U ()
def r150_3U (_ : Unit) : List COp:=[⟨fun a σ => ffield 0 (a.get 1) σ,(some 10),fun _ => some true⟩,
  ⟨fun a σ => fload none (a.get 10) σ,(some 11),fun _ => some true⟩,
  ⟨fun a σ => i_eql Tryz.prog 3 (.tmp 11) (.const (.int .i64 1)) (a.get 11) (.int .i64 1) σ,(some 12),fun _ => some true⟩,
  ⟨fun a σ => .val (a.get 12) σ,(some 13),fun _ => some true⟩,
  ⟨fun a σ => ffield 0 (a.get 1) σ,(some 14),fun a => gd (a.get 13) false⟩,
  ⟨fun a σ => fload none (a.get 14) σ,(some 15),fun a => gd (a.get 13) false⟩,
  ⟨fun a σ => i_eql Tryz.prog 3 (.tmp 15) (.const (.int .i64 2)) (a.get 15) (.int .i64 2) σ,(some 16),fun a => gd (a.get 13) false⟩,
  ⟨fun a σ => fpick (a.get 13) (.bool true) (a.get 16) σ,(some 17),fun _ => some true⟩,
  ⟨fun a σ => .val (a.get 17) σ,(some 3),fun _ => some true⟩]
def r150_3 : List COp:=r150_3U ()
def r150_4U (_ : Unit) : List COp:=[⟨fun a σ => ffield 0 (a.get 1) σ,(some 18),fun _ => some true⟩,
  ⟨fun a σ => fload none (a.get 18) σ,(some 19),fun _ => some true⟩,
  ⟨fun a σ => i_eql Tryz.prog 3 (.tmp 19) (.const (.int .i64 3)) (a.get 19) (.int .i64 3) σ,(some 20),fun _ => some true⟩,
  ⟨fun a σ => .val (a.get 20) σ,(some 21),fun _ => some true⟩,
  ⟨fun a σ => ffield 0 (a.get 1) σ,(some 22),fun a => gd (a.get 21) false⟩,
  ⟨fun a σ => fload none (a.get 22) σ,(some 23),fun a => gd (a.get 21) false⟩,
  ⟨fun a σ => i_eql Tryz.prog 3 (.tmp 23) (.const (.int .i64 4)) (a.get 23) (.int .i64 4) σ,(some 24),fun a => gd (a.get 21) false⟩,
  ⟨fun a σ => fpick (a.get 21) (.bool true) (a.get 24) σ,(some 25),fun _ => some true⟩,
  ⟨fun a σ => .val (a.get 25) σ,(some 4),fun _ => some true⟩]
def r150_4 : List COp:=r150_4U ()
def r150_5U (_ : Unit) : List COp:=[⟨fun a σ => ffield 0 (a.get 1) σ,(some 26),fun _ => some true⟩,
  ⟨fun a σ => fload none (a.get 26) σ,(some 27),fun _ => some true⟩,
  ⟨fun a σ => i_eql Tryz.prog 3 (.tmp 27) (.const (.int .i64 5)) (a.get 27) (.int .i64 5) σ,(some 28),fun _ => some true⟩,
  ⟨fun a σ => .val (a.get 28) σ,(some 29),fun _ => some true⟩,
  ⟨fun a σ => ffield 0 (a.get 1) σ,(some 30),fun a => gd (a.get 29) false⟩,
  ⟨fun a σ => fload none (a.get 30) σ,(some 31),fun a => gd (a.get 29) false⟩,
  ⟨fun a σ => i_eql Tryz.prog 3 (.tmp 31) (.const (.int .i64 6)) (a.get 31) (.int .i64 6) σ,(some 32),fun a => gd (a.get 29) false⟩,
  ⟨fun a σ => fpick (a.get 29) (.bool true) (a.get 32) σ,(some 33),fun _ => some true⟩,
  ⟨fun a σ => .val (a.get 33) σ,(some 5),fun _ => some true⟩]
def r150_5 : List COp:=r150_5U ()
def r150_6U (_ : Unit) : List COp:=[⟨fun a σ => .val (a.get 3) σ,(some 34),fun _ => some true⟩,
  ⟨fun a σ => fun1 Tryz.prog (Op.unary .not) (a.get 34) σ,(some 35),fun _ => some true⟩,
  ⟨fun a σ => .val (a.get 35) σ,(some 36),fun _ => some true⟩,
  ⟨fun a σ => ffield 1 (a.get 1) σ,(some 37),fun a => gd (a.get 36) true⟩,
  ⟨fun a σ => fload none (a.get 37) σ,(some 38),fun a => gd (a.get 36) true⟩,
  ⟨fun a σ => i_neq Tryz.prog 3 (.tmp 38) (.const (.int .i64 0)) (a.get 38) (.int .i64 0) σ,(some 39),fun a => gd (a.get 36) true⟩,
  ⟨fun a σ => fpick (a.get 36) (a.get 39) (.bool false) σ,(some 40),fun _ => some true⟩,
  ⟨fun a σ => .val (a.get 40) σ,(some 41),fun _ => some true⟩,
  ⟨fun a σ => .val (a.get 4) σ,(some 42),fun a => gd (a.get 41) false⟩,
  ⟨fun a σ => fun1 Tryz.prog (Op.unary .not) (a.get 42) σ,(some 43),fun a => gd (a.get 41) false⟩,
  ⟨fun a σ => .val (a.get 43) σ,(some 44),fun a => gd (a.get 41) false⟩,
  ⟨fun a σ => ffield 2 (a.get 1) σ,(some 45),fun a => gd (a.get 44) true⟩,
  ⟨fun a σ => fload none (a.get 45) σ,(some 46),fun a => gd (a.get 44) true⟩,
  ⟨fun a σ => i_neq Tryz.prog 9 (.tmp 46) (.const (.string ⟨#[]⟩)) (a.get 46) (.string ⟨#[]⟩) σ,(some 47),fun a => gd (a.get 44) true⟩,
  ⟨fun a σ => fpick (a.get 44) (a.get 47) (.bool false) σ,(some 48),fun a => gd (a.get 41) false⟩,
  ⟨fun a σ => fpick (a.get 41) (.bool true) (a.get 48) σ,(some 49),fun _ => some true⟩,
  ⟨fun a σ => .val (a.get 49) σ,(some 50),fun _ => some true⟩,
  ⟨fun a σ => .val (a.get 5) σ,(some 51),fun a => gd (a.get 50) false⟩,
  ⟨fun a σ => fun1 Tryz.prog (Op.unary .not) (a.get 51) σ,(some 52),fun a => gd (a.get 50) false⟩,
  ⟨fun a σ => .val (a.get 52) σ,(some 53),fun a => gd (a.get 50) false⟩,
  ⟨fun a σ => ffield 3 (a.get 1) σ,(some 54),fun a => gd (a.get 53) true⟩,
  ⟨fun a σ => fload none (a.get 54) σ,(some 55),fun a => gd (a.get 53) true⟩,
  ⟨fun a σ => flenL (a.get 55) σ,(some 56),fun a => gd (a.get 53) true⟩,
  ⟨fun a σ => i_gtr Tryz.prog 3 (.tmp 56) (.const (.int .i64 0)) (a.get 56) (.int .i64 0) σ,(some 57),fun a => gd (a.get 53) true⟩,
  ⟨fun a σ => fpick (a.get 53) (a.get 57) (.bool false) σ,(some 58),fun a => gd (a.get 50) false⟩,
  ⟨fun a σ => fpick (a.get 50) (.bool true) (a.get 58) σ,(some 59),fun _ => some true⟩,
  ⟨fun a σ => .val (a.get 59) σ,(some 60),fun _ => some true⟩,
  ⟨fun a σ => ffield 0 (a.get 1) σ,(some 61),fun a => gd (a.get 60) false⟩,
  ⟨fun a σ => fload none (a.get 61) σ,(some 62),fun a => gd (a.get 60) false⟩,
  ⟨fun a σ => i_eql Tryz.prog 3 (.tmp 62) (.const (.int .i64 5)) (a.get 62) (.int .i64 5) σ,(some 63),fun a => gd (a.get 60) false⟩,
  ⟨fun a σ => .val (a.get 63) σ,(some 64),fun a => gd (a.get 60) false⟩,
  ⟨fun a σ => ffield 3 (a.get 1) σ,(some 65),fun a => gd (a.get 64) true⟩,
  ⟨fun a σ => fload none (a.get 65) σ,(some 66),fun a => gd (a.get 64) true⟩,
  ⟨fun a σ => flenL (a.get 66) σ,(some 67),fun a => gd (a.get 64) true⟩,
  ⟨fun a σ => i_neq Tryz.prog 3 (.tmp 67) (.const (.int .i64 2)) (a.get 67) (.int .i64 2) σ,(some 68),fun a => gd (a.get 64) true⟩,
  ⟨fun a σ => fpick (a.get 64) (a.get 68) (.bool false) σ,(some 69),fun a => gd (a.get 60) false⟩,
  ⟨fun a σ => fpick (a.get 60) (.bool true) (a.get 69) σ,(some 70),fun _ => some true⟩]
def r150_6 : List COp:=r150_6U ()
def r150_7U (_ : Unit) : List COp:=[⟨fun a σ => .val (.int .i64 1) σ,(some 2),fun _ => some true⟩]
def r150_7 : List COp:=r150_7U ()
def r150_8U (_ : Unit) : List COp:=[⟨fun a σ => ffield 0 (a.get 1) σ,(some 71),fun _ => some true⟩,
  ⟨fun a σ => fload none (a.get 71) σ,(some 72),fun _ => some true⟩]
def r150_8 : List COp:=r150_8U ()
def r150_9U (_ : Unit) : List COp:=[⟨fun a σ => i_eql Tryz.prog 3 (.tmp 72) (.const (.int .i64 1)) (a.get 72) (.int .i64 1) σ,(some 74),fun _ => some true⟩,
  ⟨fun a σ => .val (a.get 74) σ,(some 73),fun _ => some true⟩]
def r150_9 : List COp:=r150_9U ()
def r150_10U (_ : Unit) : List COp:=[⟨fun a σ => ffield 1 (a.get 1) σ,(some 75),fun _ => some true⟩,
  ⟨fun a σ => fload none (a.get 75) σ,(some 76),fun _ => some true⟩,
  ⟨fun a σ => .enter 75 [(a.get 76),(.int .i64 0),(.int .i64 1)] σ,(some 77),fun _ => some true⟩,
  ⟨fun a σ => fun1 Tryz.prog (Op.unary .not) (a.get 77) σ,(some 78),fun _ => some true⟩]
def r150_10 : List COp:=r150_10U ()
def r150_11U (_ : Unit) : List COp:=[⟨fun a σ => .val (.int .i64 13) σ,(some 2),fun _ => some true⟩]
def r150_11 : List COp:=r150_11U ()
def r150_12U (_ : Unit) : List COp:=[⟨fun a σ => i_eql Tryz.prog 3 (.tmp 72) (.const (.int .i64 2)) (a.get 72) (.int .i64 2) σ,(some 80),fun _ => some true⟩,
  ⟨fun a σ => .val (a.get 80) σ,(some 79),fun _ => some true⟩]
def r150_12 : List COp:=r150_12U ()
def r150_13U (_ : Unit) : List COp:=[⟨fun a σ => ffield 1 (a.get 1) σ,(some 81),fun _ => some true⟩,
  ⟨fun a σ => fload none (a.get 81) σ,(some 82),fun _ => some true⟩,
  ⟨fun a σ => .enter 75 [(a.get 82),(.int .i64 (-999999999)),(.int .i64 999999999)] σ,(some 83),fun _ => some true⟩,
  ⟨fun a σ => fun1 Tryz.prog (Op.unary .not) (a.get 83) σ,(some 84),fun _ => some true⟩]
def r150_13 : List COp:=r150_13U ()
def r150_14U (_ : Unit) : List COp:=[⟨fun a σ => .val (.int .i64 13) σ,(some 2),fun _ => some true⟩]
def r150_14 : List COp:=r150_14U ()
def r150_15U (_ : Unit) : List COp:=[⟨fun a σ => i_eql Tryz.prog 3 (.tmp 72) (.const (.int .i64 3)) (a.get 72) (.int .i64 3) σ,(some 86),fun _ => some true⟩,
  ⟨fun a σ => .val (a.get 86) σ,(some 85),fun _ => some true⟩]
def r150_15 : List COp:=r150_15U ()
def r150_16U (_ : Unit) : List COp:=[⟨fun a σ => ffield 2 (a.get 1) σ,(some 87),fun _ => some true⟩,
  ⟨fun a σ => fload none (a.get 87) σ,(some 88),fun _ => some true⟩,
  ⟨fun a σ => .enter 167 [(a.get 88)] σ,(some 89),fun _ => some true⟩,
  ⟨fun a σ => fun1 Tryz.prog (Op.unary .not) (a.get 89) σ,(some 90),fun _ => some true⟩]
def r150_16 : List COp:=r150_16U ()
def r150_17U (_ : Unit) : List COp:=[⟨fun a σ => .val (.int .i64 2) σ,(some 2),fun _ => some true⟩]
def r150_17 : List COp:=r150_17U ()
def r150_18U (_ : Unit) : List COp:=[⟨fun a σ => i_eql Tryz.prog 3 (.tmp 72) (.const (.int .i64 4)) (a.get 72) (.int .i64 4) σ,(some 92),fun _ => some true⟩,
  ⟨fun a σ => .val (a.get 92) σ,(some 91),fun _ => some true⟩]
def r150_18 : List COp:=r150_18U ()
def r150_19U (_ : Unit) : List COp:=[⟨fun a σ => ffield 2 (a.get 1) σ,(some 93),fun _ => some true⟩,
  ⟨fun a σ => fload none (a.get 93) σ,(some 94),fun _ => some true⟩,
  ⟨fun a σ => .enter 168 [(a.get 94)] σ,(some 95),fun _ => some true⟩,
  ⟨fun a σ => .val (a.get 95) σ,(some 2),fun _ => some true⟩]
def r150_19 : List COp:=r150_19U ()
def r150_20U (_ : Unit) : List COp:=[⟨fun a σ => .val (.int .i64 0) σ,(some 2),fun _ => some true⟩]
def r150_20 : List COp:=r150_20U ()
def run150 (E : Env) (ro : Option Nat) (fn : FuncId) : RunF:=(seqR (fops E ro r150_0) (seqR (seqR (fops E ro r150_1) (condR (fun a => (a.get 9)) (seqR (fops E ro r150_2) retR) skipR)) (seqR (fops E ro r150_3) (seqR (fops E ro r150_4) (seqR (fops E ro r150_5) (seqR (seqR (fops E ro r150_6) (condR (fun a => (a.get 70)) (seqR (fops E ro r150_7) retR) skipR)) (seqR (seqR (fops E ro r150_8) (blockR 0 (seqR (fops E ro r150_9) (condR (fun a => (a.get 73)) (seqR (fops E ro r150_10) (condR (fun a => (a.get 78)) (seqR (fops E ro r150_11) retR) skipR)) (seqR (fops E ro r150_12) (condR (fun a => (a.get 79)) (seqR (fops E ro r150_13) (condR (fun a => (a.get 84)) (seqR (fops E ro r150_14) retR) skipR)) (seqR (fops E ro r150_15) (condR (fun a => (a.get 85)) (seqR (fops E ro r150_16) (condR (fun a => (a.get 90)) (seqR (fops E ro r150_17) retR) skipR)) (seqR (fops E ro r150_18) (condR (fun a => (a.get 91)) (seqR (fops E ro r150_19) retR) skipR)))))))))) (seqR (fops E ro r150_20) retR))))))))
theorem r150_0_go : fops E ro r150_0 a u σ = fops E ro (r150_0U ()) a u σ:=rfl
theorem r150_1_go : fops E ro r150_1 a u σ = fops E ro (r150_1U ()) a u σ:=rfl
theorem r150_2_go : fops E ro r150_2 a u σ = fops E ro (r150_2U ()) a u σ:=rfl
theorem r150_3_go : fops E ro r150_3 a u σ = fops E ro (r150_3U ()) a u σ:=rfl
theorem r150_4_go : fops E ro r150_4 a u σ = fops E ro (r150_4U ()) a u σ:=rfl
theorem r150_5_go : fops E ro r150_5 a u σ = fops E ro (r150_5U ()) a u σ:=rfl
theorem r150_6_go : fops E ro r150_6 a u σ = fops E ro (r150_6U ()) a u σ:=rfl
theorem r150_7_go : fops E ro r150_7 a u σ = fops E ro (r150_7U ()) a u σ:=rfl
theorem r150_8_go : fops E ro r150_8 a u σ = fops E ro (r150_8U ()) a u σ:=rfl
theorem r150_9_go : fops E ro r150_9 a u σ = fops E ro (r150_9U ()) a u σ:=rfl
theorem r150_10_go : fops E ro r150_10 a u σ = fops E ro (r150_10U ()) a u σ:=rfl
theorem r150_11_go : fops E ro r150_11 a u σ = fops E ro (r150_11U ()) a u σ:=rfl
theorem r150_12_go : fops E ro r150_12 a u σ = fops E ro (r150_12U ()) a u σ:=rfl
theorem r150_13_go : fops E ro r150_13 a u σ = fops E ro (r150_13U ()) a u σ:=rfl
theorem r150_14_go : fops E ro r150_14 a u σ = fops E ro (r150_14U ()) a u σ:=rfl
theorem r150_15_go : fops E ro r150_15 a u σ = fops E ro (r150_15U ()) a u σ:=rfl
theorem r150_16_go : fops E ro r150_16 a u σ = fops E ro (r150_16U ()) a u σ:=rfl
theorem r150_17_go : fops E ro r150_17 a u σ = fops E ro (r150_17U ()) a u σ:=rfl
theorem r150_18_go : fops E ro r150_18 a u σ = fops E ro (r150_18U ()) a u σ:=rfl
theorem r150_19_go : fops E ro r150_19 a u σ = fops E ro (r150_19U ()) a u σ:=rfl
theorem r150_20_go : fops E ro r150_20 a u σ = fops E ro (r150_20U ()) a u σ:=rfl
theorem code150 (E : Env) (ro : Option Nat) (fn : FuncId) : code Tryz.prog nls (Tryz.f150.body.getD .skip) E ro fn = run150 E ro fn:=by kernel_rfl
theorem enter150 (E : Env) (args : List Value) (u : Option FrameMode) (σ : FState) (hn : args.length ≤ (6 : Nat)) : fcall Tryz.prog nls E 150 args u σ = leaveR Tryz.prog E [.tmp 2] (run150 E none 150 ⟨padTo undef 6 args,fun _ => undef,6,96,[]⟩ u σ):=by
  rw [fcall_of (body:=Tryz.f150.body.getD .skip) Tryz.func150 rfl E args u σ 6 96 (by kernel_rfl) rfl ⟨hn,by decide⟩,code150]
  rfl
def r116_0U (_ : Unit) : List COp:=[⟨fun a σ => fbox 28 (a.get 0) σ,(some 1),fun _ => some true⟩,
  ⟨fun a σ => .val (.int .i64 0) σ,(some 2),fun _ => some true⟩]
def r116_0 : List COp:=r116_0U ()
def r116_1U (_ : Unit) : List COp:=[⟨fun a σ => fload (some 4) (a.get 1) σ,(some 3),fun _ => some true⟩,
  ⟨fun a σ => .enter 140 [(a.get 3),(.int .i64 2000)] σ,(some 4),fun _ => some true⟩,
  ⟨fun a σ => i_gtr Tryz.prog 3 (.tmp 4) (.const (.int .i64 2000)) (a.get 4) (.int .i64 2000) σ,(some 5),fun _ => some true⟩]
def r116_1 : List COp:=r116_1U ()
def r116_2U (_ : Unit) : List COp:=[⟨fun a σ => .val (.int .i64 8) σ,(some 2),fun _ => some true⟩]
def r116_2 : List COp:=r116_2U ()
def r116_3U (_ : Unit) : List COp:=[⟨fun a σ => .val (.int .i64 0) σ,(some 2),fun _ => some true⟩]
def r116_3 : List COp:=r116_3U ()
def run116 (E : Env) (ro : Option Nat) (fn : FuncId) : RunF:=(seqR (fops E ro r116_0) (seqR (seqR (fops E ro r116_1) (condR (fun a => (a.get 5)) (seqR (fops E ro r116_2) retR) skipR)) (seqR (fops E ro r116_3) retR)))
theorem r116_0_go : fops E ro r116_0 a u σ = fops E ro (r116_0U ()) a u σ:=rfl
theorem r116_1_go : fops E ro r116_1 a u σ = fops E ro (r116_1U ()) a u σ:=rfl
theorem r116_3_go : fops E ro r116_3 a u σ = fops E ro (r116_3U ()) a u σ:=rfl
theorem code116 (E : Env) (ro : Option Nat) (fn : FuncId) : code Tryz.prog nls (Tryz.f116.body.getD .skip) E ro fn = run116 E ro fn:=by kernel_rfl
theorem enter116 (E : Env) (args : List Value) (u : Option FrameMode) (σ : FState) (hn : args.length ≤ (2 : Nat)) : fcall Tryz.prog nls E 116 args u σ = leaveR Tryz.prog E [.tmp 2] (run116 E none 116 ⟨padTo undef 2 args,fun _ => undef,2,6,[]⟩ u σ):=by
  rw [fcall_of (body:=Tryz.f116.body.getD .skip) Tryz.func116 rfl E args u σ 2 6 (by kernel_rfl) rfl ⟨hn,by decide⟩,code116]
  rfl
def r140_0U (_ : Unit) : List COp:=[⟨fun a σ => fbox 28 (a.get 0) σ,(some 2),fun _ => some true⟩,
  ⟨fun a σ => .val (.int .i64 0) σ,(some 4),fun _ => some true⟩]
def r140_0 : List COp:=r140_0U ()
def r140_1U (_ : Unit) : List COp:=[⟨fun a σ => .val (.int .i64 1) σ,(some 5),fun _ => some true⟩]
def r140_1 : List COp:=r140_1U ()
def r140_2U (_ : Unit) : List COp:=[⟨fun a σ => .val (.int .i64 0) σ,(some 6),fun _ => some true⟩]
def r140_2 : List COp:=r140_2U ()
def r140_3U (_ : Unit) : List COp:=[⟨fun a σ => .val (a.get 6) σ,(some 7),fun _ => some true⟩,
  ⟨fun a σ => ffield 3 (a.get 2) σ,(some 8),fun _ => some true⟩,
  ⟨fun a σ => fload none (a.get 8) σ,(some 9),fun _ => some true⟩,
  ⟨fun a σ => flenL (a.get 9) σ,(some 10),fun _ => some true⟩,
  ⟨fun a σ => i_lss Tryz.prog 3 (.tmp 7) (.tmp 10) (a.get 7) (a.get 10) σ,(some 11),fun _ => some true⟩,
  ⟨fun a σ => .val (a.get 11) σ,(some 12),fun _ => some true⟩,
  ⟨fun a σ => .val (a.get 5) σ,(some 13),fun a => gd (a.get 12) true⟩,
  ⟨fun a σ => .val (a.get 1) σ,(some 14),fun a => gd (a.get 12) true⟩,
  ⟨fun a σ => i_leq Tryz.prog 3 (.tmp 13) (.tmp 14) (a.get 13) (a.get 14) σ,(some 15),fun a => gd (a.get 12) true⟩,
  ⟨fun a σ => fpick (a.get 12) (a.get 15) (.bool false) σ,(some 16),fun _ => some true⟩]
def r140_3 : List COp:=r140_3U ()
def r140_5U (_ : Unit) : List COp:=[⟨fun a σ => .val (a.get 5) σ,(some 19),fun _ => some true⟩,
  ⟨fun a σ => ffield 3 (a.get 2) σ,(some 20),fun _ => some true⟩,
  ⟨fun a σ => fload none (a.get 20) σ,(some 21),fun _ => some true⟩,
  ⟨fun a σ => .val (a.get 6) σ,(some 22),fun _ => some true⟩,
  ⟨fun a σ => findex (none,4) (a.get 21) (a.get 22) σ,(some 23),fun _ => some true⟩,
  ⟨fun a σ => fload (some 4) (a.get 23) σ,(some 24),fun _ => some true⟩,
  ⟨fun a σ => .val (a.get 1) σ,(some 25),fun _ => some true⟩,
  ⟨fun a σ => .val (a.get 5) σ,(some 26),fun _ => some true⟩,
  ⟨fun a σ => i_sub Tryz.prog 3 (.tmp 25) (.tmp 26) (a.get 25) (a.get 26) σ,(some 27),fun _ => some true⟩,
  ⟨fun a σ => .enter 140 [(a.get 24),(a.get 27)] σ,(some 28),fun _ => some true⟩,
  ⟨fun a σ => i_add Tryz.prog 3 (.tmp 19) (.tmp 28) (a.get 19) (a.get 28) σ,(some 29),fun _ => some true⟩,
  ⟨fun a σ => .val (a.get 29) σ,(some 5),fun _ => some true⟩]
def r140_5 : List COp:=r140_5U ()
def r140_4U (_ : Unit) : List COp:=[⟨fun a σ => .val (a.get 6) σ,(some 17),fun _ => some true⟩,
  ⟨fun a σ => i_add Tryz.prog 3 (.tmp 17) (.const (.int .i64 1)) (a.get 17) (.int .i64 1) σ,(some 18),fun _ => some true⟩,
  ⟨fun a σ => .val (a.get 18) σ,(some 6),fun _ => some true⟩]
def r140_4 : List COp:=r140_4U ()
def l140_0 (E : Env) (ro : Option Nat) (fn : FuncId) : RunF:=(seqR (seqR (fops E ro r140_3) (condR (fun a => (a.get 16)) skipR (exitR 0))) (seqR (blockR 1 (fops E ro r140_5)) (fops E ro r140_4)))
def r140_6U (_ : Unit) : List COp:=[⟨fun a σ => .val (a.get 5) σ,(some 30),fun _ => some true⟩,
  ⟨fun a σ => .val (a.get 30) σ,(some 4),fun _ => some true⟩]
def r140_6 : List COp:=r140_6U ()
def run140 (E : Env) (ro : Option Nat) (fn : FuncId) : RunF:=(seqR (fops E ro r140_0) (seqR (fops E ro r140_1) (seqR (seqR (fops E ro r140_2) (blockR 0 (loopR (keepOf nls fn) (l140_0 E ro fn)))) (seqR (fops E ro r140_6) retR))))
theorem r140_0_go : fops E ro r140_0 a u σ = fops E ro (r140_0U ()) a u σ:=rfl
theorem r140_1_go : fops E ro r140_1 a u σ = fops E ro (r140_1U ()) a u σ:=rfl
theorem r140_2_go : fops E ro r140_2 a u σ = fops E ro (r140_2U ()) a u σ:=rfl
theorem r140_3_go : fops E ro r140_3 a u σ = fops E ro (r140_3U ()) a u σ:=rfl
theorem r140_5_go : fops E ro r140_5 a u σ = fops E ro (r140_5U ()) a u σ:=rfl
theorem r140_4_go : fops E ro r140_4 a u σ = fops E ro (r140_4U ()) a u σ:=rfl
theorem r140_6_go : fops E ro r140_6 a u σ = fops E ro (r140_6U ()) a u σ:=rfl
theorem code140 (E : Env) (ro : Option Nat) (fn : FuncId) : code Tryz.prog nls (Tryz.f140.body.getD .skip) E ro fn = run140 E ro fn:=by kernel_rfl
theorem enter140 (E : Env) (args : List Value) (u : Option FrameMode) (σ : FState) (hn : args.length ≤ (7 : Nat)) : fcall Tryz.prog nls E 140 args u σ = leaveR Tryz.prog E [.tmp 4] (run140 E none 140 ⟨padTo undef 7 args,fun _ => undef,7,31,[]⟩ u σ):=by
  rw [fcall_of (body:=Tryz.f140.body.getD .skip) Tryz.func140 rfl E args u σ 7 31 (by kernel_rfl) rfl ⟨hn,by decide⟩,code140]
  rfl
end Go.Proofs.YtodkeaoikjjneaaGreatDoor
/- The reference's Piece, of what DatumOf makes. -/
namespace Go.Proofs.YtodkeaoikjjneaaGreatDoor
open Go Go.Eng
attribute [local congr] andThen_congr fops_congr fdraw_congr afterOp_congr drawF_congr
attribute [-go_sem] List.range_succ
theorem refSymbol_go (n : Nat) (t : ByteArray) (ht : t ∈ symTexts) (σ : FState) : (env (n + 20)).call 167 [.string t] none σ = .ret (.bool true) none σ:=by
  simp only [symTexts,List.mem_cons,List.not_mem_nil,or_false] at ht
  rcases ht with rfl | rfl | rfl | rfl | rfl | rfl | rfl | rfl <;> kernel_rfl
theorem refText_go (n : Nat) (t : ByteArray) (ht : t ∈ strTexts) (σ : FState) : (env (n + 20)).call 168 [.string t] none σ = .ret (.int .i64 0) none σ:=by
  simp only [strTexts,List.mem_cons,List.not_mem_nil,or_false] at ht
  rcases ht with rfl | rfl | rfl | rfl | rfl <;> kernel_rfl
inductive Whole : Int → Int → ByteArray → Nat → Prop
  | nil : Whole 0 0 ⟨#[]⟩ 0
  | bool (z : Int) (h : 0 ≤ z ∧ z ≤ 1) : Whole 1 z ⟨#[]⟩ 0
  | num (z : Int) (h : -999999999 ≤ z ∧ z ≤ 999999999) : Whole 2 z ⟨#[]⟩ 0
  | sym (t : ByteArray) (h : t ∈ symTexts) : Whole 3 0 t 0
  | str (t : ByteArray) (h : t ∈ strTexts) : Whole 4 0 t 0
  | pair : Whole 5 0 ⟨#[]⟩ 2
  | vec (l : Nat) : Whole 6 0 ⟨#[]⟩ l
theorem piece_go (n : Nat) (k z : Int) (t : ByteArray) (l : Nat) (p : Option Addr) (c : Nat) (h : Whole k z t l) (σ : FState) (hw : Wf σ) :
    Gives ((env (n + 22)).call 150 [.agg #[.int .i64 k,.int .i64 z,.string t,.slice p l c]] none σ) σ fun w _ => w = .int .i64 0:=by
  rw [env_call _ 150 _ _ rfl,enter150 _ _ _ _ (by simp),Sl_start]
  unfold run150
  have d0 : decide (Int.ofNat 0 > 0) = false:=by decide
  have e2 : (Int.ofNat 2 == 2) = true:=by decide
  have fin : Ext σ (σ.push (.cells [.int .i64 k,.int .i64 z,.string t,.slice p l c] TD) none) ∧ Wf (σ.push (.cells [.int .i64 k,.int .i64 z,.string t,.slice p l c] TD) none):=⟨(Ext.refl _).push _ _,hw.push _ _⟩
  have w0 : (decide ((0 : Int) ≤ 0) && decide ((0 : Int) ≤ 6)) = true:=by decide
  have w1 : (decide ((0 : Int) ≤ 1) && decide ((1 : Int) ≤ 6)) = true:=by decide
  have w2 : (decide ((0 : Int) ≤ 2) && decide ((2 : Int) ≤ 6)) = true:=by decide
  have w3 : (decide ((0 : Int) ≤ 3) && decide ((3 : Int) ≤ 6)) = true:=by decide
  have w4 : (decide ((0 : Int) ≤ 4) && decide ((4 : Int) ≤ 6)) = true:=by decide
  have w5 : (decide ((0 : Int) ≤ 5) && decide ((5 : Int) ≤ 6)) = true:=by decide
  have w6 : (decide ((0 : Int) ≤ 6) && decide ((6 : Int) ≤ 6)) = true:=by decide
  cases h with
  | nil =>
    simp -implicitDefEqProofs only [go_sem,↓reduceIte,Nat.reduceLT,Nat.reduceEqDiff,Nat.reduceAdd,Nat.reduceMul,Nat.reduceLeDiff,Nat.reduceSub,Int.reduceBEq,r150_0_go,r150_0U,r150_1_go,r150_1U,r150_2_go,r150_2U,r150_3_go,r150_3U,r150_4_go,r150_4U,r150_5_go,r150_5U,r150_6_go,r150_6U,r150_7_go,r150_7U,r150_8_go,r150_8U,r150_9_go,r150_9U,r150_10_go,r150_10U,r150_11_go,r150_11U,r150_12_go,r150_12U,r150_13_go,r150_13U,r150_14_go,r150_14U,r150_15_go,r150_15U,r150_16_go,r150_16U,r150_17_go,r150_17U,r150_18_go,r150_18U,r150_19_go,r150_19U,r150_20_go,r150_20U,Option.getD_some,List.getElem?_cons_zero,d0,e2,within_go,w0,w1,w2,w3,w4,w5,w6,Bool.or_true,Bool.or_false,skipR_go]
    exact ⟨_,_,rfl,fin.1,fin.2,rfl⟩
  | bool z h =>
    have hz : (decide ((0 : Int) ≤ z) && decide (z ≤ 1)) = true:=by simp [h]
    simp -implicitDefEqProofs only [go_sem,↓reduceIte,Nat.reduceLT,Nat.reduceEqDiff,Nat.reduceAdd,Nat.reduceMul,Nat.reduceLeDiff,Nat.reduceSub,Int.reduceBEq,r150_0_go,r150_0U,r150_1_go,r150_1U,r150_2_go,r150_2U,r150_3_go,r150_3U,r150_4_go,r150_4U,r150_5_go,r150_5U,r150_6_go,r150_6U,r150_7_go,r150_7U,r150_8_go,r150_8U,r150_9_go,r150_9U,r150_10_go,r150_10U,r150_11_go,r150_11U,r150_12_go,r150_12U,r150_13_go,r150_13U,r150_14_go,r150_14U,r150_15_go,r150_15U,r150_16_go,r150_16U,r150_17_go,r150_17U,r150_18_go,r150_18U,r150_19_go,r150_19U,r150_20_go,r150_20U,Option.getD_some,List.getElem?_cons_zero,d0,e2,within_go,w0,w1,w2,w3,w4,w5,w6,Bool.or_true,Bool.or_false,skipR_go,hz]
    exact ⟨_,_,rfl,fin.1,fin.2,rfl⟩
  | num z h =>
    have hz : (decide ((-999999999 : Int) ≤ z) && decide (z ≤ 999999999)) = true:=by simp [h]
    simp -implicitDefEqProofs only [go_sem,↓reduceIte,Nat.reduceLT,Nat.reduceEqDiff,Nat.reduceAdd,Nat.reduceMul,Nat.reduceLeDiff,Nat.reduceSub,Int.reduceBEq,r150_0_go,r150_0U,r150_1_go,r150_1U,r150_2_go,r150_2U,r150_3_go,r150_3U,r150_4_go,r150_4U,r150_5_go,r150_5U,r150_6_go,r150_6U,r150_7_go,r150_7U,r150_8_go,r150_8U,r150_9_go,r150_9U,r150_10_go,r150_10U,r150_11_go,r150_11U,r150_12_go,r150_12U,r150_13_go,r150_13U,r150_14_go,r150_14U,r150_15_go,r150_15U,r150_16_go,r150_16U,r150_17_go,r150_17U,r150_18_go,r150_18U,r150_19_go,r150_19U,r150_20_go,r150_20U,Option.getD_some,List.getElem?_cons_zero,d0,e2,within_go,w0,w1,w2,w3,w4,w5,w6,Bool.or_true,Bool.or_false,skipR_go,hz]
    exact ⟨_,_,rfl,fin.1,fin.2,rfl⟩
  | sym t h =>
    have hs:=fun σ => refSymbol_go (n + 1) t h σ
    simp -implicitDefEqProofs only [go_sem,↓reduceIte,Nat.reduceLT,Nat.reduceEqDiff,Nat.reduceAdd,Nat.reduceMul,Nat.reduceLeDiff,Nat.reduceSub,Int.reduceBEq,r150_0_go,r150_0U,r150_1_go,r150_1U,r150_2_go,r150_2U,r150_3_go,r150_3U,r150_4_go,r150_4U,r150_5_go,r150_5U,r150_6_go,r150_6U,r150_7_go,r150_7U,r150_8_go,r150_8U,r150_9_go,r150_9U,r150_10_go,r150_10U,r150_11_go,r150_11U,r150_12_go,r150_12U,r150_13_go,r150_13U,r150_14_go,r150_14U,r150_15_go,r150_15U,r150_16_go,r150_16U,r150_17_go,r150_17U,r150_18_go,r150_18U,r150_19_go,r150_19U,r150_20_go,r150_20U,Option.getD_some,List.getElem?_cons_zero,d0,e2,within_go,w0,w1,w2,w3,w4,w5,w6,Bool.or_true,Bool.or_false,skipR_go,hs]
    exact ⟨_,_,rfl,fin.1,fin.2,rfl⟩
  | str t h =>
    have hs:=fun σ => refText_go (n + 1) t h σ
    simp -implicitDefEqProofs only [go_sem,↓reduceIte,Nat.reduceLT,Nat.reduceEqDiff,Nat.reduceAdd,Nat.reduceMul,Nat.reduceLeDiff,Nat.reduceSub,Int.reduceBEq,r150_0_go,r150_0U,r150_1_go,r150_1U,r150_2_go,r150_2U,r150_3_go,r150_3U,r150_4_go,r150_4U,r150_5_go,r150_5U,r150_6_go,r150_6U,r150_7_go,r150_7U,r150_8_go,r150_8U,r150_9_go,r150_9U,r150_10_go,r150_10U,r150_11_go,r150_11U,r150_12_go,r150_12U,r150_13_go,r150_13U,r150_14_go,r150_14U,r150_15_go,r150_15U,r150_16_go,r150_16U,r150_17_go,r150_17U,r150_18_go,r150_18U,r150_19_go,r150_19U,r150_20_go,r150_20U,Option.getD_some,List.getElem?_cons_zero,d0,e2,within_go,w0,w1,w2,w3,w4,w5,w6,Bool.or_true,Bool.or_false,skipR_go,hs]
    exact ⟨_,_,rfl,fin.1,fin.2,rfl⟩
  | pair =>
    simp -implicitDefEqProofs only [go_sem,↓reduceIte,Nat.reduceLT,Nat.reduceEqDiff,Nat.reduceAdd,Nat.reduceMul,Nat.reduceLeDiff,Nat.reduceSub,Int.reduceBEq,r150_0_go,r150_0U,r150_1_go,r150_1U,r150_2_go,r150_2U,r150_3_go,r150_3U,r150_4_go,r150_4U,r150_5_go,r150_5U,r150_6_go,r150_6U,r150_7_go,r150_7U,r150_8_go,r150_8U,r150_9_go,r150_9U,r150_10_go,r150_10U,r150_11_go,r150_11U,r150_12_go,r150_12U,r150_13_go,r150_13U,r150_14_go,r150_14U,r150_15_go,r150_15U,r150_16_go,r150_16U,r150_17_go,r150_17U,r150_18_go,r150_18U,r150_19_go,r150_19U,r150_20_go,r150_20U,Option.getD_some,List.getElem?_cons_zero,d0,e2,within_go,w0,w1,w2,w3,w4,w5,w6,Bool.or_true,Bool.or_false,skipR_go]
    exact ⟨_,_,rfl,fin.1,fin.2,rfl⟩
  | vec l =>
    simp -implicitDefEqProofs only [go_sem,↓reduceIte,Nat.reduceLT,Nat.reduceEqDiff,Nat.reduceAdd,Nat.reduceMul,Nat.reduceLeDiff,Nat.reduceSub,Int.reduceBEq,r150_0_go,r150_0U,r150_1_go,r150_1U,r150_2_go,r150_2U,r150_3_go,r150_3U,r150_4_go,r150_4U,r150_5_go,r150_5U,r150_6_go,r150_6U,r150_7_go,r150_7U,r150_8_go,r150_8U,r150_9_go,r150_9U,r150_10_go,r150_10U,r150_11_go,r150_11U,r150_12_go,r150_12U,r150_13_go,r150_13U,r150_14_go,r150_14U,r150_15_go,r150_15U,r150_16_go,r150_16U,r150_17_go,r150_17U,r150_18_go,r150_18U,r150_19_go,r150_19U,r150_20_go,r150_20U,Option.getD_some,List.getElem?_cons_zero,d0,e2,within_go,w0,w1,w2,w3,w4,w5,w6,Bool.or_true,Bool.or_false,skipR_go]
    exact ⟨_,_,rfl,fin.1,fin.2,rfl⟩
end Go.Proofs.YtodkeaoikjjneaaGreatDoor
/- The reference's pieces; the kit's Pieces. -/
namespace Go.Proofs.YtodkeaoikjjneaaGreatDoor
open Go Go.Eng
attribute [local congr] andThen_congr fops_congr fdraw_congr afterOp_congr drawF_congr
attribute [-go_sem] List.range_succ
def WholeD : D → Prop
  | .mk k z t ds => Whole k z t ds.length
theorem rp_loop (m : Nat) (R : Nat → Prop) (ds : List D) (p : Option Addr) (c bx : Nat) (k z : Int) (t : ByteArray) (hds : ds.length < 1000000)
    (hO : ∀ (i : Nat) (d : D),ds[i]? = some d → ∀ v σ',Wf σ' → LaidR R σ' v d → Gives ((env m).call 139 [v] none σ') σ' fun r _ => r = .int .i64 0) :
    ∀ (j fuel i : Nat) (f g : Nat → Value) (σ : FState),ds.length - i = j → j < fuel → i ≤ ds.length → Wf σ → LaidRE R σ p 0 ds → σ.cells bx = some [.int .i64 k,.int .i64 z,.string t,.slice p ds.length c] → f 1 = .pointer (some ⟨bx,0,none⟩) → f 4 = .int .i64 (.ofNat i) →
      ∃ f' g' σ',floop [] (l139_0 (env m) none 139) fuel (Sl 6 27 f g []) none σ = .done (.exit 0) (Sl 6 27 f' g' []) none σ' ∧ Ext σ σ' ∧ Wf σ':=by
  intro j
  induction j with
  | zero =>
    intro fuel i f g σ hj hf hi hw hE hc f1 f4
    obtain ⟨fuel,rfl⟩ : ∃ q,fuel = q + 1:=⟨fuel - 1,by omega⟩
    obtain rfl : i = ds.length:=by omega
    have d0 : decide (Int.ofNat ds.length < Int.ofNat ds.length) = false:=by simp
    rw [floop_step]
    unfold l139_0
    simp -implicitDefEqProofs only [go_sem,↓reduceIte,Nat.reduceLT,Nat.reduceEqDiff,Nat.reduceAdd,Nat.reduceMul,Nat.reduceLeDiff,Nat.reduceSub,r139_5_go,r139_5U,f1,f4,hc,d0]
    exact ⟨_,_,_,rfl,Ext.refl _,hw⟩
  | succ j ih =>
    intro fuel i f g σ hj hf hi hw hE hc f1 f4
    obtain ⟨fuel,rfl⟩ : ∃ q,fuel = q + 1:=⟨fuel - 1,by omega⟩
    have hlt : i < ds.length:=by omega
    have d0 : decide (Int.ofNat i < Int.ofNat ds.length) = true:=by simp; omega
    have hd : ds[i]? = some ds[i]:=List.getElem?_eq_getElem hlt
    obtain ⟨b,off,cs,rfl,hRb,hcs,hle,hL⟩:=LaidRE.get hE hd
    rw [Nat.zero_add] at hle hL
    obtain ⟨_,σ3,e3,x3,hw3,rfl⟩:=hO i ds[i] hd _ σ hw hL
    have a1:=add1 i (by omega)
    have z0 : ((0 : Int) == 0) = true:=rfl
    have ih':=fun f g h1 h4 => ih fuel (i + 1) f g σ3 (by omega) (by omega) (by omega) hw3 (hE.keep fun b cs hb hc => ⟨(x3.cells (hw.cells hc)).trans hc,hb⟩) ((x3.cells (hw.cells hc)).trans hc) h1 h4
    unfold l139_0 at ih'
    rw [floop_step]
    unfold l139_0
    simp -implicitDefEqProofs only [go_sem,↓reduceIte,Nat.reduceLT,Nat.reduceEqDiff,Nat.reduceAdd,Nat.reduceMul,Nat.reduceLeDiff,Nat.reduceSub,r139_5_go,r139_5U,r139_6_go,r139_6U,r139_7_go,r139_7U,r139_8_go,r139_8U,f1,f4,hc,d0,hlt,hcs,hle,e3,z0,a1,skipR_go]
    generalize hff : upd _ 4 _ = f2
    generalize hgg : upd _ 17 _ = g2
    obtain ⟨f3,g3,σ4,e4,x4,hw4⟩:=ih' f2 g2 (by rw [← hff]; simp -implicitDefEqProofs only [upd_go,kept_go,↓reduceIte,Nat.reduceEqDiff,Nat.reduceLT,reduceCtorEq,f1]) (by rw [← hff]; simp -implicitDefEqProofs only [upd_go,kept_go,↓reduceIte,Nat.reduceEqDiff,Nat.reduceLT,reduceCtorEq])
    exact ⟨f3,g3,σ4,e4,x3.trans x4,hw4⟩
theorem refPieces_go (n : Nat) (R : Nat → Prop) : ∀ (N : Nat) (d : D) (pd : List Nat) (v : Value) (σ : FState),d.deep ≤ N → (∀ x ∈ d.pieces pd,x.2.parts.length < 1000 ∧ WholeD x.2) → Wf σ → LaidR R σ v d →
    Gives ((env (n + 23 + N)).call 139 [v] none σ) σ fun r _ => r = .int .i64 0:=by
  intro N
  induction N with
  | zero =>
    intro d pd v σ hN
    obtain ⟨k,z,t,ds⟩:=d
    rw [D.deep] at hN
    omega
  | succ N ih =>
    intro d pd v σ hN hd hw hL
    obtain ⟨k,z,t,ds⟩:=d
    have hd0:=hd _ (by rw [D.pieces_eq]; exact List.mem_cons_self)
    have hlen : ds.length < 1000:=hd0.1
    obtain ⟨p,c,rfl,hE⟩:=hL
    obtain ⟨M,hM⟩ : ∃ M,n + 23 + N = M:=⟨_,rfl⟩
    rw [hM] at ih
    rw [show n + 23 + (N + 1) = M + 1 by omega,env_call _ 139 _ _ rfl,enter139 _ _ _ _ (by simp),Sl_start]
    unfold run139
    have x1 : Ext σ (σ.push (.cells [.int .i64 k,.int .i64 z,.string t,.slice p ds.length c] TD) none):=(Ext.refl _).push _ _
    have hw1:=hw.push (.cells [.int .i64 k,.int .i64 z,.string t,.slice p ds.length c] TD) none
    have c1 : (σ.push (.cells [.int .i64 k,.int .i64 z,.string t,.slice p ds.length c] TD) none).cells σ.next = some [.int .i64 k,.int .i64 z,.string t,.slice p ds.length c]:=by rw [cells_push,if_pos rfl]; rfl
    obtain ⟨_,σ2,e2,x2,hw2,rfl⟩:=piece_go (n + 1 + N) k z t ds.length p c hd0.2 _ hw1
    rw [show n + 1 + N + 22 = M by omega] at e2
    have c2:=(x2.cells (hw1.cells c1)).trans c1
    have z0 : ((0 : Int) == 0) = true:=rfl
    have hkeep : keepOf nls 139 = []:=by kernel_rfl
    have lp:=fun fuel f g hf h1 h4 => rp_loop M R ds p c σ.next k z t (by omega) (fun i d hdi v σ' hw' hl => ih d (pd ++ [0 + i]) v σ' (by rw [D.deep] at hN; have:=deeps_mem (List.mem_of_getElem? hdi); omega) (fun x hx => hd x (by rw [D.pieces_eq]; exact List.mem_cons_of_mem _ (piecesL_part pd ds 0 i d hdi x hx))) hw' hl)
      ds.length fuel 0 f g σ2 (by omega) hf (by omega) hw2 (hE.keep fun b cs hb hc => ⟨((x1.trans x2).cells (hw.cells hc)).trans hc,hb⟩) c2 h1 h4
    simp -implicitDefEqProofs only [go_sem,↓reduceIte,Nat.reduceLT,Nat.reduceEqDiff,Nat.reduceAdd,Nat.reduceMul,Nat.reduceLeDiff,Nat.reduceSub,r139_0_go,r139_0U,r139_1_go,r139_1U,r139_2_go,r139_2U,r139_4_go,r139_4U,Option.getD_some,List.getElem?_cons_zero,e2,z0,skipR_go,hkeep]
    generalize hbf : bigFuel = fuel
    generalize hff : upd _ 4 _ = f1
    generalize hgg : upd _ 9 _ = g1
    obtain ⟨f',g',σ3,e3,x3,hw3⟩:=lp fuel f1 g1 (by rw [← hbf]; show ds.length < 1000000000000; omega) (by rw [← hff]; simp -implicitDefEqProofs only [upd_go,kept_go,↓reduceIte,Nat.reduceEqDiff,Nat.reduceLT,reduceCtorEq]) (by rw [← hff]; simp -implicitDefEqProofs only [upd_go,kept_go,↓reduceIte,Nat.reduceEqDiff,Nat.reduceLT,reduceCtorEq] <;> rfl)
    rw [e3]
    simp -implicitDefEqProofs only [go_sem,↓reduceIte,Nat.reduceLT,Nat.reduceEqDiff,Nat.reduceAdd,Nat.reduceMul,Nat.reduceLeDiff,Nat.reduceSub,r139_10_go,r139_10U]
    exact ⟨_,_,rfl,(x1.trans x2).trans x3,hw3,rfl⟩
end Go.Proofs.YtodkeaoikjjneaaGreatDoor
/- The kit's Pieces, within its limit. -/
namespace Go.Proofs.YtodkeaoikjjneaaGreatDoor
open Go Go.Eng
attribute [local congr] andThen_congr fops_congr fdraw_congr afterOp_congr drawF_congr
attribute [-go_sem] List.range_succ
theorem counts_takeK (ds : List D) (i : Nat) (d : D) (h : ds[i]? = some d) : D.counts (ds.take (i + 1)) = D.counts (ds.take i) + d.count:=by
  rw [List.take_add_one,h,counts_append]
  simp [D.counts]
theorem counts_take_le : ∀ (ds : List D) (i : Nat),D.counts (ds.take i) ≤ D.counts ds
  | [],i => by simp
  | d :: ds,0 => by simp [D.counts]
  | d :: ds,i + 1 => by
    rw [List.take_succ_cons,D.counts,D.counts]
    have:=counts_take_le ds i
    omega
def KPs (m : Nat) (R : Nat → Prop) (d : D) : Prop:=∀ (v : Value) (mx : Nat) (σ' : FState),Wf σ' → LaidR R σ' v d → d.count ≤ mx → mx ≤ 100000 → Gives ((env m).call 140 [v,.int .i64 (.ofNat mx)] none σ') σ' fun r _ => r = .int .i64 (.ofNat d.count)
theorem kp_loop (m : Nat) (R : Nat → Prop) (ds : List D) (p : Option Addr) (c bx mx : Nat) (k z : Int) (t : ByteArray) (hmx : 1 + D.counts ds ≤ mx) (hmx2 : mx ≤ 100000) (hds : ds.length < 1000000)
    (hO : ∀ (i : Nat) (d : D),ds[i]? = some d → KPs m R d) :
    ∀ (j fuel i : Nat) (f g : Nat → Value) (σ : FState),ds.length - i = j → j < fuel → i ≤ ds.length → Wf σ → LaidRE R σ p 0 ds → σ.cells bx = some [.int .i64 k,.int .i64 z,.string t,.slice p ds.length c] → f 2 = .pointer (some ⟨bx,0,none⟩) → f 1 = .int .i64 (.ofNat mx) → f 5 = .int .i64 (.ofNat (1 + D.counts (ds.take i))) → f 6 = .int .i64 (.ofNat i) →
      ∃ f' g' σ',floop [30] (l140_0 (env m) none 140) fuel (Sl 7 31 f g []) none σ = .done (.exit 0) (Sl 7 31 f' g' []) none σ' ∧ Ext σ σ' ∧ Wf σ' ∧ f' 5 = .int .i64 (.ofNat (1 + D.counts ds)):=by
  intro j
  induction j with
  | zero =>
    intro fuel i f g σ hj hf hi hw hE hc f2 f1 f5 f6
    obtain ⟨fuel,rfl⟩ : ∃ q,fuel = q + 1:=⟨fuel - 1,by omega⟩
    obtain rfl : i = ds.length:=by omega
    have d0 : decide (Int.ofNat ds.length < Int.ofNat ds.length) = false:=by simp
    rw [floop_step]
    unfold l140_0
    simp -implicitDefEqProofs only [go_sem,↓reduceIte,Nat.reduceLT,Nat.reduceEqDiff,Nat.reduceAdd,Nat.reduceMul,Nat.reduceLeDiff,Nat.reduceSub,r140_3_go,r140_3U,f2,f6,hc,d0]
    exact ⟨_,_,_,rfl,Ext.refl _,hw,by rw [f5,List.take_length]⟩
  | succ j ih =>
    intro fuel i f g σ hj hf hi hw hE hc f2 f1 f5 f6
    obtain ⟨fuel,rfl⟩ : ∃ q,fuel = q + 1:=⟨fuel - 1,by omega⟩
    have hlt : i < ds.length:=by omega
    have d0 : decide (Int.ofNat i < Int.ofNat ds.length) = true:=by simp; omega
    have hd : ds[i]? = some ds[i]:=List.getElem?_eq_getElem hlt
    have ht1:=counts_takeK ds i ds[i] hd
    have ht2:=counts_take_le ds (i + 1)
    have ht3:=counts_take_le ds i
    have d1 : decide (Int.ofNat (1 + D.counts (ds.take i)) ≤ Int.ofNat mx) = true:=by simp only [Int.ofNat_eq_natCast,decide_eq_true_eq]; omega
    obtain ⟨b,off,cs,rfl,hRb,hcs,hle,hL⟩:=LaidRE.get hE hd
    rw [Nat.zero_add] at hle hL
    obtain ⟨_,σ3,e3,x3,hw3,rfl⟩:=hO i ds[i] hd _ (mx - (1 + D.counts (ds.take i))) σ hw hL (by omega) (by omega)
    have a1:=add1 i (by omega)
    have s1 : wrapI (Int.ofNat mx - Int.ofNat (1 + D.counts (ds.take i))) = Int.ofNat (mx - (1 + D.counts (ds.take i))):=by
      simp only [Int.ofNat_eq_natCast]
      rw [wrapI_of (by omega)]
      omega
    have s2 : wrapI (Int.ofNat (1 + D.counts (ds.take i)) + Int.ofNat ds[i].count) = Int.ofNat (1 + D.counts (ds.take (i + 1))):=by
      simp only [Int.ofNat_eq_natCast]
      rw [wrapI_of (by omega)]
      omega
    have ih':=fun f g h2 h1 h5 h6 => ih fuel (i + 1) f g σ3 (by omega) (by omega) (by omega) hw3 (hE.keep fun b cs hb hc => ⟨(x3.cells (hw.cells hc)).trans hc,hb⟩) ((x3.cells (hw.cells hc)).trans hc) h2 h1 h5 h6
    unfold l140_0 at ih'
    rw [floop_step]
    unfold l140_0
    generalize hq : 1 + D.counts (ds.take i) = q at *
    generalize hq2 : 1 + D.counts (ds.take (i + 1)) = q2 at *
    simp -implicitDefEqProofs only [go_sem,↓reduceIte,Nat.reduceLT,Nat.reduceEqDiff,Nat.reduceAdd,Nat.reduceMul,Nat.reduceLeDiff,Nat.reduceSub,r140_3_go,r140_3U,r140_4_go,r140_4U,r140_5_go,r140_5U,f1,f2,f5,f6,hc,d0,d1,hlt,hcs,hle,e3,s1,s2,a1,skipR_go]
    generalize hff : upd _ 6 _ = f2'
    generalize hgg : upd _ 18 _ = g2
    obtain ⟨f3,g3,σ4,e4,x4,hw4,r5⟩:=ih' f2' g2 (by rw [← hff]; simp -implicitDefEqProofs only [upd_go,kept_go,↓reduceIte,Nat.reduceEqDiff,Nat.reduceLT,reduceCtorEq,f2]) (by rw [← hff]; simp -implicitDefEqProofs only [upd_go,kept_go,↓reduceIte,Nat.reduceEqDiff,Nat.reduceLT,reduceCtorEq,f1]) (by rw [← hff]; simp -implicitDefEqProofs only [upd_go,kept_go,↓reduceIte,Nat.reduceEqDiff,Nat.reduceLT,reduceCtorEq]) (by rw [← hff]; simp -implicitDefEqProofs only [upd_go,kept_go,↓reduceIte,Nat.reduceEqDiff,Nat.reduceLT,reduceCtorEq])
    exact ⟨f3,g3,σ4,e4,x3.trans x4,hw4,r5⟩
theorem kitPieces_go (n : Nat) (R : Nat → Prop) : ∀ (N : Nat) (d : D),d.deep ≤ N → KPs (n + N) R d:=by
  intro N
  induction N with
  | zero =>
    intro d hN
    obtain ⟨k,z,t,ds⟩:=d
    rw [D.deep] at hN
    omega
  | succ N ih =>
    intro d hN v mx σ hw hL hcm hmx
    obtain ⟨k,z,t,ds⟩:=d
    obtain ⟨p,c,rfl,hE⟩:=hL
    obtain ⟨M,hM⟩ : ∃ M,n + N = M:=⟨_,rfl⟩
    rw [hM] at ih
    have hcd : (D.mk k z t ds).count = 1 + D.counts ds:=by rw [D.count]; omega
    have hdl : ds.length < 1000000:=by
      have:=piecesL_len ds [] 0
      rw [piecesL_length] at this
      omega
    rw [show n + (N + 1) = M + 1 by omega,env_call _ 140 _ _ rfl,enter140 _ _ _ _ (by simp),Sl_start]
    unfold run140
    have x1 : Ext σ (σ.push (.cells [.int .i64 k,.int .i64 z,.string t,.slice p ds.length c] TD) none):=(Ext.refl _).push _ _
    have hw1:=hw.push (.cells [.int .i64 k,.int .i64 z,.string t,.slice p ds.length c] TD) none
    have c1 : (σ.push (.cells [.int .i64 k,.int .i64 z,.string t,.slice p ds.length c] TD) none).cells σ.next = some [.int .i64 k,.int .i64 z,.string t,.slice p ds.length c]:=by rw [cells_push,if_pos rfl]; rfl
    have hkeep : keepOf nls 140 = [30]:=by kernel_rfl
    have lp:=fun fuel f g hf h2 h1 h5 h6 => kp_loop M R ds p c σ.next mx k z t (by omega) hmx hdl (fun i d hdi => ih d (by rw [D.deep] at hN; have:=deeps_mem (List.mem_of_getElem? hdi); omega))
      ds.length fuel 0 f g _ (by omega) hf (by omega) hw1 (hE.keep fun b cs hb hc => ⟨(x1.cells (hw.cells hc)).trans hc,hb⟩) c1 h2 h1 h5 h6
    simp -implicitDefEqProofs only [go_sem,↓reduceIte,Nat.reduceLT,Nat.reduceEqDiff,Nat.reduceAdd,Nat.reduceMul,Nat.reduceLeDiff,Nat.reduceSub,r140_0_go,r140_0U,r140_1_go,r140_1U,r140_2_go,r140_2U,Option.getD_some,List.getElem?_cons_zero,List.getElem?_cons_succ,skipR_go,hkeep]
    generalize hbf : bigFuel = fuel
    generalize hff : upd _ 6 _ = f1
    obtain ⟨f',g',σ3,e3,x3,hw3,r5⟩:=lp fuel f1 (fun _ => undef) (by rw [← hbf]; show ds.length < 1000000000000; omega) (by rw [← hff]; simp -implicitDefEqProofs only [upd_go,kept_go,↓reduceIte,Nat.reduceEqDiff,Nat.reduceLT,reduceCtorEq]) (by rw [← hff]; simp -implicitDefEqProofs only [upd_go,kept_go,↓reduceIte,Nat.reduceEqDiff,Nat.reduceLT,reduceCtorEq,Option.getD_some,List.getElem?_cons_zero,List.getElem?_cons_succ]) (by rw [← hff]; simp -implicitDefEqProofs only [upd_go,kept_go,↓reduceIte,Nat.reduceEqDiff,Nat.reduceLT,reduceCtorEq] <;> rfl) (by rw [← hff]; simp -implicitDefEqProofs only [upd_go,kept_go,↓reduceIte,Nat.reduceEqDiff,Nat.reduceLT,reduceCtorEq] <;> rfl)
    rw [e3]
    simp -implicitDefEqProofs only [go_sem,↓reduceIte,Nat.reduceLT,Nat.reduceEqDiff,Nat.reduceAdd,Nat.reduceMul,Nat.reduceLeDiff,Nat.reduceSub,r140_6_go,r140_6U,r5]
    exact ⟨_,_,rfl,x1.trans x3,hw3,by rw [hcd]⟩
end Go.Proofs.YtodkeaoikjjneaaGreatDoor
/- The reference's Check. -/
namespace Go.Proofs.YtodkeaoikjjneaaGreatDoor
open Go Go.Eng
attribute [local congr] andThen_congr fops_congr fdraw_congr afterOp_congr drawF_congr
attribute [-go_sem] List.range_succ
structure RefOK (N : Nat) (d : D) : Prop where
  deep : d.deep ≤ N
  whole : ∀ x ∈ d.pieces [],x.2.parts.length < 1000 ∧ WholeD x.2
  count : d.count ≤ 2000
section
variable (R : Nat → Prop) (d : D) (lv : List Value) (h4 : lv.length = 4) (σ : FState) (hw : Wf σ) (hL : LaidR R σ (.agg lv.toArray) d)
include h4 hw hL
theorem large_go (M n N : Nat) (hM : M = n + N) (h : RefOK N d) : Gives ((env (M + 1)).call 116 [.agg lv.toArray] none σ) σ fun r _ => r = .int .i64 0:=by
  have ht : lv.take 4 = lv:=List.take_of_length_le (by omega)
  rw [env_call _ 116 _ _ rfl,enter116 _ _ _ _ (by simp),Sl_start]
  unfold run116
  have x1 : Ext σ (σ.push (.cells lv TD) none):=(Ext.refl _).push _ _
  have hw1:=hw.push (.cells lv TD) none
  have c1 : (σ.push (.cells lv TD) none).cells σ.next = some lv:=by rw [cells_push,if_pos rfl]; rfl
  obtain ⟨_,σ2,e2,x2,hw2,rfl⟩:=kitPieces_go n R N d h.deep (.agg lv.toArray) 2000 _ hw1 (hL.keep fun b cs hb hc => ⟨(x1.cells (hw.cells hc)).trans hc,hb⟩) h.count (by omega)
  rw [← hM] at e2
  have d0 : decide (Int.ofNat d.count > 2000) = false:=by
    have:=h.count
    simp only [Int.ofNat_eq_natCast,decide_eq_false_iff_not]
    omega
  have e2' : (env M).call 140 [.agg lv.toArray,.int .i64 2000] none (σ.push (.cells lv TD) none) = _:=e2
  simp -implicitDefEqProofs only [go_sem,↓reduceIte,Nat.reduceLT,Nat.reduceEqDiff,Nat.reduceAdd,Nat.reduceMul,Nat.reduceLeDiff,Nat.reduceSub,r116_0_go,r116_0U,r116_1_go,r116_1U,r116_3_go,r116_3U,Option.getD_some,List.getElem?_cons_zero,h4,ht,e2',d0,skipR_go,Nat.le_refl]
  exact ⟨_,_,rfl,x1.trans x2,hw2,rfl⟩
theorem check_go (M n N : Nat) (hM : M = n + 22 + N) (h : RefOK N d) : Gives ((env (M + 2)).call 115 [.agg lv.toArray] none σ) σ fun r _ => r = .int .i64 0:=by
  have ht : lv.take 4 = lv:=List.take_of_length_le (by omega)
  rw [env_call _ 115 _ _ rfl,enter115 _ _ _ _ (by simp),Sl_start]
  unfold run115
  have x1 : Ext σ (σ.push (.cells lv TD) none):=(Ext.refl _).push _ _
  have hw1:=hw.push (.cells lv TD) none
  have c1 : (σ.push (.cells lv TD) none).cells σ.next = some lv:=by rw [cells_push,if_pos rfl]; rfl
  obtain ⟨_,σ2,e2,x2,hw2,rfl⟩:=refPieces_go n R N d [] (.agg lv.toArray) _ h.deep h.whole hw1 (hL.keep fun b cs hb hc => ⟨(x1.cells (hw.cells hc)).trans hc,hb⟩)
  rw [show n + 23 + N = M + 1 by omega] at e2
  have c2:=(x2.cells (hw1.cells c1)).trans c1
  obtain ⟨_,σ3,e3,x3,hw3,rfl⟩:=large_go R d lv h4 σ2 hw2 (hL.keep fun b cs hb hc => ⟨((x1.trans x2).cells (hw.cells hc)).trans hc,hb⟩) M (n + 22) N hM h
  have z0 : ((0 : Int) == 0) = true:=rfl
  simp -implicitDefEqProofs only [go_sem,↓reduceIte,Nat.reduceLT,Nat.reduceEqDiff,Nat.reduceAdd,Nat.reduceMul,Nat.reduceLeDiff,Nat.reduceSub,r115_0_go,r115_0U,r115_1_go,r115_1U,r115_2_go,r115_2U,r115_4_go,r115_4U,Option.getD_some,List.getElem?_cons_zero,h4,ht,e2,z0,c2,e3,skipR_go,Nat.le_refl]
  exact ⟨_,_,rfl,(x1.trans x2).trans x3,hw3,rfl⟩
theorem kept_go' (M n N : Nat) (hM : M = n + N) (h : RefOK N d) (ho : lv.all oneCell = true) : Gives ((env (M + 2)).call 86 [.agg lv.toArray] none σ) σ fun r σ' => r = .tuple #[.agg lv.toArray,.int .i64 0]:=by
  have ht : lv.take 4 = lv:=List.take_of_length_le (by omega)
  rw [env_call _ 86 _ _ rfl,enter86 _ _ _ _ (by simp),Sl_start]
  unfold run86
  have x1 : Ext σ ((σ.push (.cells lv TD) none).push (.cells [.int .i64 0,.int .i64 0,.string ⟨#[]⟩,.slice none 0 0] TD) none):=((Ext.refl _).push _ _).push _ _
  have hw1:=(hw.push (.cells lv TD) none).push (.cells [.int .i64 0,.int .i64 0,.string ⟨#[]⟩,.slice none 0 0] TD) none
  have c1 : ((σ.push (.cells lv TD) none).push (.cells [.int .i64 0,.int .i64 0,.string ⟨#[]⟩,.slice none 0 0] TD) none).cells σ.next = some lv:=by rw [cells_push,if_neg (by rw [push_next]; omega),cells_push,if_pos rfl]; rfl
  have g2 : ((σ.push (.cells lv TD) none).push (.cells [.int .i64 0,.int .i64 0,.string ⟨#[]⟩,.slice none 0 0] TD) none).heap.get (σ.next + 1) = some ⟨.cells [.int .i64 0,.int .i64 0,.string ⟨#[]⟩,.slice none 0 0] TD,false,none,σ.clock + 1⟩:=by rw [push_get,if_pos (by rw [push_next])]; rfl
  obtain ⟨_,σ2,e2,x2,hw2,rfl⟩:=large_go R d lv h4 _ hw1 (hL.keep fun b cs hb hc => ⟨(x1.cells (hw.cells hc)).trans hc,hb⟩) M n N hM h
  have c2:=(x2.cells (hw1.cells c1)).trans c1
  have g3:=(x2.get (σ.next + 1) (hw1 _ _ g2).1).trans g2
  have n2:=x2.next
  have n1:=x1.next
  have z0 : ((0 : Int) == 0) = true:=rfl
  simp -implicitDefEqProofs only [go_sem,↓reduceIte,Nat.reduceLT,Nat.reduceEqDiff,Nat.reduceAdd,Nat.reduceMul,Nat.reduceLeDiff,Nat.reduceSub,fstoreN,r86_0_go,r86_0U,r86_1_go,r86_1U,r86_2_go,r86_2U,r86_4_go,r86_4U,Option.getD_some,List.getElem?_cons_zero,c1,h4,ht,ho,e2,z0,c2,g3,skipR_go,Nat.le_refl,aggDatum,fleave_nil,fresults_nil,fresults_cons,fresult_cell,fresult_tmp]
  exact ⟨_,_,rfl,(x1.trans x2).put _ _ _ (by omega),hw2.put _ _ _ (hw2 _ _ g3).1,rfl⟩
end
theorem two_go (M n N : Nat) (hM : M = n + 22 + N) (R : Nat → Prop) (d e : D) (lv mv : List Value) (h4 : lv.length = 4) (hm4 : mv.length = 4) (σ : FState) (hw : Wf σ) (hL : LaidR R σ (.agg lv.toArray) d) (hLe : LaidR R σ (.agg mv.toArray) e) (hd : RefOK N d) (he : RefOK N e) :
    Gives ((env (M + 3)).call 85 [.agg lv.toArray,.agg mv.toArray] none σ) σ fun r _ => r = .int .i64 0:=by
  have ht : lv.take 4 = lv:=List.take_of_length_le (by omega)
  have htm : mv.take 4 = mv:=List.take_of_length_le (by omega)
  rw [env_call _ 85 _ _ rfl,enter85 _ _ _ _ (by simp),Sl_start]
  unfold run85
  have x1 : Ext σ ((σ.push (.cells lv TD) none).push (.cells mv TD) none):=((Ext.refl _).push _ _).push _ _
  have hw1:=(hw.push (.cells lv TD) none).push (.cells mv TD) none
  have c1 : ((σ.push (.cells lv TD) none).push (.cells mv TD) none).cells σ.next = some lv:=by rw [cells_push,if_neg (by rw [push_next]; omega),cells_push,if_pos rfl]; rfl
  have c2 : ((σ.push (.cells lv TD) none).push (.cells mv TD) none).cells (σ.next + 1) = some mv:=by rw [cells_push,if_pos (by rw [push_next])]; rfl
  obtain ⟨_,σ2,e2,x2,hw2,rfl⟩:=check_go R d lv h4 _ hw1 (hL.keep fun b cs hb hc => ⟨(x1.cells (hw.cells hc)).trans hc,hb⟩) M n N hM hd
  have c3:=(x2.cells (hw1.cells c2)).trans c2
  obtain ⟨_,σ3,e3,x3,hw3,rfl⟩:=check_go R e mv hm4 _ hw2 (hLe.keep fun b cs hb hc => ⟨((x1.trans x2).cells (hw.cells hc)).trans hc,hb⟩) M n N hM he
  have z0 : ((0 : Int) == 0) = true:=rfl
  simp -implicitDefEqProofs only [go_sem,↓reduceIte,Nat.reduceLT,Nat.reduceEqDiff,Nat.reduceAdd,Nat.reduceMul,Nat.reduceLeDiff,Nat.reduceSub,r85_0_go,r85_0U,r85_1_go,r85_1U,r85_2_go,r85_2U,r85_4_go,r85_4U,Option.getD_some,List.getElem?_cons_zero,List.getElem?_cons_succ,c1,h4,hm4,ht,htm,e2,z0,c3,e3,skipR_go,Nat.le_refl]
  exact ⟨_,_,rfl,(x1.trans x2).trans x3,hw3,rfl⟩
end Go.Proofs.YtodkeaoikjjneaaGreatDoor
/- Slices from the second element on. -/
namespace Go.Proofs.YtodkeaoikjjneaaGreatDoor
open Go Go.Eng
theorem capOk_view {σ : FState} {b size lam : Nat} {cs : List Value} {el : TypeId} {fz : Option Nat} {ver : Nat} {ro : Bool} (hb : σ.heap.get b = some ⟨.cells cs el,ro,fz,ver⟩) (hv : ver < lam) (hf : fz = none ∨ fz = some size) : capOk size none b (view σ lam) = true:=by
  unfold capOk
  simp only [view_get,hb]
  rw [if_pos (by simpa using hv)]
  rcases hf with rfl | rfl
  · rfl
  · show Nat.beq size size = true
    rw [Nat.beq_eq]
theorem fslice_lo1 (P : Program) (t e size b off ln cap : Nat) (σ : FState) (hu : under P t = some (.slice e)) (hs : sizeOfT P e = some size) (h1 : 1 ≤ ln) (hlc : ln ≤ cap) (hc : capOk size none b σ = true) :
    fslice P t (.slice (some ⟨b,off,none⟩) ln cap) (some (.int .i64 1)) none none σ = .val (.slice (some ⟨b,off + 1 * size,none⟩) (ln - 1) (cap - 1)) σ:=by
  have hbd : bounds3 ln cap (some (.int .i64 1)) none none = some (1,ln,cap):=by
    show (match (cond (Nat.ble ln cap) (some ln) none) with | none => none | some h => (match cond (Nat.ble 1 h) (some 1) none with | none => none | some l => some (l,h,cap))) = _
    rw [show Nat.ble ln cap = true by rw [Nat.ble_eq]; exact hlc]
    simp only [cond_true]
    rw [show Nat.ble 1 ln = true by rw [Nat.ble_eq]; exact h1]
    rfl
  unfold fslice
  simp only [hu,hs]
  unfold fsliceL
  simp only [hbd,hc,cond_true]
def PathO (σ : FState) (v : Value) (path : List Nat) : Prop :=
  ∃ q c,v = .slice q path.length c ∧ (path = [] ∨ ∃ b off cs fz ver,q = some ⟨b,off,none⟩ ∧ σ.heap.get b = some ⟨.cells cs TI,false,fz,ver⟩ ∧ (fz = none ∨ fz = some 1) ∧ path.length ≤ c ∧ ∀ (i j : Nat),path[i]? = some j → cs[off + i]? = some (.int .i64 (.ofNat j)))
theorem PathO.keep {σ σ' : FState} {v : Value} {path : List Nat} (h : PathO σ v path) (hw : Wf σ) (hk : ∀ b,b < σ.next → σ'.heap.get b = σ.heap.get b ∨ ∀ cs fz ver,σ.heap.get b ≠ some ⟨.cells cs TI,false,fz,ver⟩) : PathO σ' v path:=by
  obtain ⟨q,c,rfl,h | ⟨b,off,cs,fz,ver,rfl,hb,hf,hl,hc⟩⟩:=h
  · exact ⟨q,c,rfl,.inl h⟩
  · rcases hk b (hw _ _ hb).1 with h | h
    · exact ⟨_,c,rfl,.inr ⟨b,off,cs,fz,ver,rfl,h.trans hb,hf,hl,hc⟩⟩
    · exact absurd hb (h _ _ _)
theorem PathO.ext {σ σ' : FState} {v : Value} {path : List Nat} (h : PathO σ v path) (hw : Wf σ) (hx : Ext σ σ') : PathO σ' v path:=h.keep hw fun b hb => .inl (hx.get b hb)
theorem PathO.tail {σ : FState} {q : Option Addr} {c i : Nat} {path : List Nat} (h : PathO σ (.slice q (i :: path).length c) (i :: path)) : ∃ b off cs fz ver,q = some ⟨b,off,none⟩ ∧ σ.heap.get b = some ⟨.cells cs TI,false,fz,ver⟩ ∧ (fz = none ∨ fz = some 1) ∧ path.length + 1 ≤ c ∧ cs[off]? = some (.int .i64 (.ofNat i)) ∧ PathO σ (.slice (some ⟨b,off + 1 * 1,none⟩) path.length (c - 1)) path:=by
  obtain ⟨q',c',e,h | ⟨b,off,cs,fz,ver,rfl,hb,hf,hl,hc⟩⟩:=h
  · cases h
  · cases e
    refine ⟨b,off,cs,fz,ver,rfl,hb,hf,by simpa using hl,by simpa using hc 0 i rfl,_,_,rfl,.inr ⟨b,off + 1 * 1,cs,fz,ver,rfl,hb,hf,by simp at hl; omega,fun j k hj => ?_⟩⟩
    have:=hc (j + 1) k (by simpa using hj)
    rw [show off + 1 * 1 + j = off + (j + 1) by omega]
    exact this
end Go.Proofs.YtodkeaoikjjneaaGreatDoor
/- A datum at a path of another one; trees of their own in memory. -/
namespace Go.Proofs.YtodkeaoikjjneaaGreatDoor
open Go Go.Eng
def putP : List Nat → D → D → D
  | [],x,_ => x
  | i :: p,x,.mk k z t ds => match ds[i]? with
    | some d' => .mk k z t (ds.set i (putP p x d'))
    | none => .mk k z t ds
theorem counts_set : ∀ (ds : List D) (i : Nat) (d e : D),ds[i]? = some d → D.counts (ds.set i e) + d.count = D.counts ds + e.count
  | [],i,d,e,h => by simp at h
  | a :: ds,0,d,e,h => by
    simp at h
    subst h
    simp only [List.set_cons_zero,D.counts]
    omega
  | a :: ds,i + 1,d,e,h => by
    simp at h
    simp only [List.set_cons_succ,D.counts]
    have:=counts_set ds i d e h
    omega
theorem put_count : ∀ (p : List Nat) (x d w : D),atP p d = some w → (putP p x d).count + w.count = d.count + x.count
  | [],x,d,w,h => by rw [atP] at h; cases h; rw [putP]; omega
  | i :: p,x,.mk k z t ds,w,h => by
    rw [atP] at h
    simp only [D.parts] at h
    cases hd : ds[i]? with
    | none => rw [hd] at h; cases h
    | some d' =>
      rw [hd] at h
      rw [putP,hd]
      simp only
      rw [D.count,D.count]
      have:=counts_set ds i d' (putP p x d') hd
      have:=put_count p x d' w h
      omega
structure Okay (m : Nat) (d : D) : Prop where
  good : AllGood m (d.pieces [])
  few : d.count ≤ 2000
  small : Small (d.pieces [])
  deep : d.deep ≤ 8
theorem fine_put (n : Nat) {L' : Nat} {x : D} (hx : Fine (n + 20) L' x) : ∀ (p : List Nat) (L : Nat) (d w : D),Made L d → atP p d = some w → Fine (n + 20) (L + L') (putP p x d)
  | [],L,d,w,_,_ => fine_mono (by omega) hx
  | i :: p,L,.mk k z t ds,w,hm,h => by
    rw [atP] at h
    simp only [D.parts] at h
    cases hd : ds[i]? with
    | none => rw [hd] at h; cases h
    | some d' =>
      rw [hd] at h
      have hi:=(List.getElem?_eq_some_iff.1 hd).1
      have hmem:=List.mem_of_getElem? hd
      have hm':=Fine.part (m:=0) hm hmem
      have ih:=fine_put n hx p (L - 1) d' w hm' h
      have hF:=made_fine n hm
      rw [putP,hd]
      simp only
      have hL1 : 1 ≤ L:=by
        cases hm with
        | leaf L d h => cases h <;> simp at hi
        | pair => omega
        | vec => omega
      rw [show L + L' = (L - 1 + L') + 1 by omega]
      refine fine_mk (by rw [List.length_set]; exact ((hF []).2 ([],.mk k z t ds) (by rw [D.pieces]; exact List.mem_cons_self)).2.1) (fun k1 z1 t1 ds1 e => ?_) fun e he => ?_
      · cases e
        obtain ⟨k',hk,hg⟩:=((hF []).2 ([],.mk k z t ds) (by rw [D.pieces]; exact List.mem_cons_self)).2.2 k z t ds rfl
        exact ⟨k',hk,by rw [List.length_set]; exact hg⟩
      · rcases List.mem_or_eq_of_mem_set he with he | rfl
        · exact fine_mono (by omega) (made_fine n (Fine.part (m:=0) hm he))
        · exact ih
end Go.Proofs.YtodkeaoikjjneaaGreatDoor
/- The reference's placed: the loop over the parts. -/
namespace Go.Proofs.YtodkeaoikjjneaaGreatDoor
open Go Go.Eng
attribute [local congr] andThen_congr fops_congr fdraw_congr afterOp_congr drawF_congr
attribute [-go_sem] List.range_succ
structure PlI (Rin : Nat → Prop) (base bd bx bo bv i : Nat) (k z : Int) (t : ByteArray) (p : Option Addr) (c : Nat) (ds : List D) (x y : D) (xv : List Value) (path : List Nat) (q : Nat) (f : Nat → Value) (σ : FState) : Prop where
  f1 : PathO σ (f 1) (i :: path)
  f3 : f 3 = .pointer (some ⟨bd,0,none⟩)
  f5 : f 5 = .pointer (some ⟨bx,0,none⟩)
  f7 : f 7 = .pointer (some ⟨bo,0,none⟩)
  f8 : f 8 = .int .i64 (.ofNat q)
  cd : σ.cells bd = some [.int .i64 k,.int .i64 z,.string t,.slice p ds.length c]
  cx : σ.cells bx = some xv
  hE : LaidRE Rin σ p 0 ds
  hx : LaidR Rin σ (.agg xv.toArray) x
  out : ∃ s ver,σ.heap.get bo = some ⟨.cells [.int .i64 k,.int .i64 0,.string ⟨#[]⟩,s] TD,false,none,ver⟩ ∧ VecG (· = bv) (fun b => (Rin b ∨ base ≤ b) ∧ b < σ.next ∧ b ≠ bo ∧ b ≠ bv) σ s ((ds.set i y).take q)
  lo : True ∧ True ∧ base ≤ bo ∧ bd ≠ bo ∧ bx ≠ bo ∧ (∀ b,Rin b → b ≠ bv) ∧ bv ≠ bo ∧ bv ≠ bd ∧ bv ≠ bx
  bvT : ∃ cs ro fz ver,σ.heap.get bv = some ⟨.cells cs TD,ro,fz,ver⟩
  wf : Wf σ
theorem placed_add {Rin : Nat → Prop} {base bd bx bo bv i : Nat} {k z : Int} {t : ByteArray} {p : Option Addr} {c : Nat} {ds : List D} {x y : D} {xv : List Value} {path : List Nat} {q : Nat} {f : Nat → Value} {σ σ1 : FState} (hR : ∀ b,Rin b → b < base) (h : PlI Rin base bd bx bo bv i k z t p c ds x y xv path q f σ) (hq : q < ds.length) (hds : ds.length < 900) (hX : Ext σ σ1) (hw1 : Wf σ1)
    (l : List Value) (hl : l.length = 4) (ho : l.all oneCell = true) (e : D) (he : (ds.set i y)[q]? = some e) (hL : LaidR (fun b => Rin b ∨ σ.next ≤ b) σ1 (.agg l.toArray) e) (hb : base ≤ σ.next) :
    ∃ s s' ver τ bv',σ1.heap.get bo = some ⟨.cells [.int .i64 k,.int .i64 0,.string ⟨#[]⟩,s] TD,false,none,ver⟩ ∧ oneCell s = true ∧ fappend TD 4 56 s (.slice (some ⟨σ1.next,0,none⟩) 1 1) (σ1.push (.cells l TD) none) = .val s' τ ∧ oneCell s' = true ∧ notTuple s' = true ∧ valCells s' = [s'] ∧
      τ.heap.get bo = some ⟨.cells [.int .i64 k,.int .i64 0,.string ⟨#[]⟩,s] TD,false,none,ver⟩ ∧ Chg (fun b => b = bv ∧ s ≠ .slice none 0 0) σ1 τ ∧ σ1.next ≤ bv' ∧
      ∀ f' : Nat → Value,f' 1 = f 1 → f' 3 = f 3 → f' 5 = f 5 → f' 7 = f 7 → f' 8 = .int .i64 (.ofNat (q + 1)) → PlI Rin base bd bx bo bv' i k z t p c ds x y xv path (q + 1) f' (τ.put bo (.cells [.int .i64 k,.int .i64 0,.string ⟨#[]⟩,s'] TD) none):=by
  obtain ⟨s,ver,hbo,hV⟩:=h.out
  obtain ⟨l1,l2,l3,l4,l5,l6,l7,l8,l9⟩:=h.lo
  have hbon:=(h.wf _ _ hbo).1
  have n1:=hX.next
  have hbo1 : σ1.heap.get bo = _:=(hX.get bo hbon).trans hbo
  have hV1 : VecG (· = bv) (fun b => (Rin b ∨ base ≤ b) ∧ b < σ1.next ∧ b ≠ bo ∧ b ≠ bv) σ1 s ((ds.set i y).take q):=hV.keep (fun b e hb he => ⟨(hX.get b (h.wf _ _ he).1).trans he,hb⟩) fun b cs hb hc => ⟨(hX.cells hb.2.1).trans hc,hb.1,by omega,hb.2.2⟩
  obtain ⟨cb,rob,fzb,verb,hbv⟩:=h.bvT
  have hbvn:=(h.wf _ _ hbv).1
  have hV2 : VecG (fun b => b = bv ∧ s ≠ .slice none 0 0) (fun b => (Rin b ∨ base ≤ b) ∧ b < σ1.next ∧ b ≠ bo ∧ b ≠ bv) σ1 s ((ds.set i y).take q):=by
    rcases hV1 with h | ⟨b,cs,ver,h1,h2,h3,h4⟩
    · exact .inl h
    · exact .inr ⟨b,cs,ver,h1,h2,⟨h3,by rw [h1]; simp⟩,h4⟩
  obtain ⟨s',τ,ha,V3,hw3,ch3⟩:=vecG_append (fun b => b = bv ∧ s ≠ .slice none 0 0) (fun b => (Rin b ∨ base ≤ b) ∧ b < σ1.next ∧ b ≠ bo ∧ b ≠ bv) (fun b => σ1.next ≤ b) σ1 s ((ds.set i y).take q) e l hw1 hl ho (by rw [List.length_take]; omega) hV2 (hL.keep fun b cs hb hc => ⟨hc,by
    have:=hw1.cells hc
    rcases hb with hb | hb
    · have:=hR b hb
      exact ⟨.inl hb,by omega,by omega,l6 b hb⟩
    · exact ⟨.inr (by omega),by omega,by omega,by omega⟩⟩) (fun b hb h => h.2.2.2 hb.1) (fun b hb => hb)
  have n3:=ch3.next
  have hboτ : τ.heap.get bo = _:=(ch3.get bo (by omega) (fun h => l7 h.1.symm)).trans hbo1
  rcases V3 with ⟨h0,_⟩ | ⟨bv',cs,ver',hs',hb',hq',hRow⟩
  · simp at h0
  have V3 : VecG (fun b => σ1.next ≤ b) (fun b => (Rin b ∨ base ≤ b) ∧ b < σ1.next ∧ b ≠ bo ∧ b ≠ bv) τ s' ((ds.set i y).take q ++ [e]):=.inr ⟨bv',cs,ver',hs',hb',hq',hRow⟩
  have hone:=V3.one
  have hbv'n:=(hw3 _ _ hb').1
  have hgo : ∀ b,b < σ.next → b ≠ bv → b ≠ bo → (τ.put bo (.cells [.int .i64 k,.int .i64 0,.string ⟨#[]⟩,s'] TD) none).heap.get b = σ.heap.get b:=fun b hb h1 h2 => by
    rw [put_get,if_neg h2,ch3.get b (by omega) (fun h => h1 h.1),hX.get b hb]
  have kc : ∀ b cs,σ.cells b = some cs → b ≠ bv → b ≠ bo → (τ.put bo (.cells [.int .i64 k,.int .i64 0,.string ⟨#[]⟩,s'] TD) none).cells b = some cs:=fun b cs hc h1 h2 => by
    have:=hgo b (h.wf.cells hc) h1 h2
    rw [cells_get] at hc ⊢
    rw [this]; exact hc
  refine ⟨s,s',ver,τ,bv',hbo1,hV.one.1,ha,hone.1,hone.2.1,hone.2.2,hboτ,ch3,hq',fun f' e1 e3 e5 e7 e8 => ?_⟩
  exact { f1:=by
            rw [e1]
            exact h.f1.keep h.wf fun b hb => by
              by_cases h1 : b = bv
              · exact .inr fun cs fz ver hh => by rw [h1,hbv] at hh; exact absurd (show TD = TI from congrArg (fun e : Option Ent => match e with | some ⟨.cells _ el,_,_,_⟩ => el | _ => 0) hh) (by decide)
              · by_cases h2 : b = bo
                · exact .inr fun cs fz ver hh => by rw [h2,hbo] at hh; exact absurd (show TD = TI from congrArg (fun e : Option Ent => match e with | some ⟨.cells _ el,_,_,_⟩ => el | _ => 0) hh) (by decide)
                · exact .inl (hgo b hb h1 h2)
          f3:=by rw [e3]; exact h.f3
          f5:=by rw [e5]; exact h.f5
          f7:=by rw [e7]; exact h.f7
          f8:=e8
          cd:=kc _ _ h.cd (Ne.symm l8) l4
          cx:=kc _ _ h.cx (Ne.symm l9) l5
          hE:=h.hE.keep fun b cs hb hc => ⟨kc b cs hc (l6 b hb) (by have:=hR b hb; omega),hb⟩
          hx:=h.hx.keep fun b cs hb hc => ⟨kc b cs hc (l6 b hb) (by have:=hR b hb; omega),hb⟩
          out:=⟨s',τ.clock,by rw [put_get,if_pos rfl],by
            have : (ds.set i y).take (q + 1) = (ds.set i y).take q ++ [e]:=by rw [List.take_add_one,he]; rfl
            rw [this]
            exact .inr ⟨bv',cs,ver',hs',by rw [put_get,if_neg (by omega)]; exact hb',rfl,hRow.keep fun b c hb hc => ⟨by rw [cells_put,if_neg hb.2.2.1]; exact hc,hb.1,by rw [put_next]; omega,hb.2.2.1,by omega⟩⟩⟩
          lo:=⟨trivial,trivial,l3,l4,l5,fun b hb => by have:=hR b hb; omega,by omega,by have:=h.wf.cells h.cd; omega,by have:=h.wf.cells h.cx; omega⟩
          bvT:=⟨cs,false,some 4,ver',by rw [put_get,if_neg (by omega)]; exact hb'⟩
          wf:=hw3.put _ _ _ (by omega) }
theorem pl_loop (m : Nat) {Rin : Nat → Prop} {base bd bx bo br i : Nat} {k z : Int} {t : ByteArray} {p : Option Addr} {c : Nat} {ds : List D} {x d' : D} {xv : List Value} {path : List Nat} (hR : ∀ b,Rin b → b < base) (hds : ds.length < 900) (hx4 : xv.length = 4) (hi : ds[i]? = some d') (hi2 : i < 100000)
    (hO : ∀ (lv : List Value) (pv : Value) (σ' : FState),lv.length = 4 → Wf σ' → base ≤ σ'.next → LaidR Rin σ' (.agg lv.toArray) d' → PathO σ' pv path → LaidR Rin σ' (.agg xv.toArray) x →
      Gives ((env m).call 87 [.agg lv.toArray,pv,.agg xv.toArray] none σ') σ' fun w σ'' => ∃ ws : List Value,w = .agg ws.toArray ∧ ws.length = 4 ∧ ws.all oneCell = true ∧ LaidR (fun b => Rin b ∨ σ'.next ≤ b) σ'' w (putP path x d')) :
    ∀ (j fuel q bv : Nat) (f g : Nat → Value) (σ : FState),ds.length - q = j → j < fuel → q ≤ ds.length → base ≤ σ.next → br < σ.next → (base ≤ bv ∨ ∀ s ver,σ.heap.get bo = some ⟨.cells [.int .i64 k,.int .i64 0,.string ⟨#[]⟩,s] TD,false,none,ver⟩ → s = .slice none 0 0) → PlI Rin base bd bx bo bv i k z t p c ds x (putP path x d') xv path q f σ →
      ∃ f' g' σ' bv',floop [52] (l87_0 (env m) none 87) fuel (Sl 9 53 f g []) none σ = .done (.exit 0) (Sl 9 53 f' g' []) none σ' ∧ PlI Rin base bd bx bo bv' i k z t p c ds x (putP path x d') xv path ds.length f' σ' ∧ f' 6 = f 6 ∧ Chg (fun b => b = bo ∨ base ≤ b ∧ b ≠ bd ∧ b ≠ bx) σ σ' ∧ (base ≤ bv' ∨ ∀ s ver,σ'.heap.get bo = some ⟨.cells [.int .i64 k,.int .i64 0,.string ⟨#[]⟩,s] TD,false,none,ver⟩ → s = .slice none 0 0):=by
  intro j
  induction j with
  | zero =>
    intro fuel q bv f g σ hj hf hq hb hbr hnil h
    obtain ⟨fuel,rfl⟩ : ∃ q,fuel = q + 1:=⟨fuel - 1,by omega⟩
    obtain rfl : q = ds.length:=by omega
    have d0 : decide (Int.ofNat ds.length < Int.ofNat ds.length) = false:=by simp
    rw [floop_step]
    unfold l87_0
    simp -implicitDefEqProofs only [go_sem,↓reduceIte,Nat.reduceLT,Nat.reduceEqDiff,Nat.reduceAdd,Nat.reduceMul,Nat.reduceLeDiff,Nat.reduceSub,r87_5_go,r87_5U,h.f3,h.f8,h.cd,d0]
    exact ⟨_,_,_,bv,rfl,h,rfl,Chg.refl _ _,hnil⟩
  | succ j ih =>
    intro fuel q bv f g σ hj hf hq hb hbr hnil h
    obtain ⟨fuel,rfl⟩ : ∃ q,fuel = q + 1:=⟨fuel - 1,by omega⟩
    have hlt : q < ds.length:=by omega
    have d0 : decide (Int.ofNat q < Int.ofNat ds.length) = true:=by simp; omega
    have hd : ds[q]? = some ds[q]:=List.getElem?_eq_getElem hlt
    obtain ⟨b,off,cs,rfl,hRb,hcs,hle,hL⟩:=LaidRE.get h.hE hd
    rw [Nat.zero_add] at hle hL
    obtain ⟨l4,e4,hl4,ho4⟩:=hL.agg
    have e4' : (cs.drop (off + q * 4)).take 4 = l4:=by
      have:=Value.agg.inj e4
      simpa using congrArg Array.toList this
    rw [e4'] at hL
    have tl4 : l4.take 4 = l4:=List.take_of_length_le (by omega)
    have hp:=h.f1
    obtain ⟨qp,cp,ep,hpp⟩:=hp
    have hp:=h.f1
    rw [ep] at hp
    obtain ⟨pb,po,pcs,pfz,pver,rfl,hpb,hpf,hpl,hp0,hpt⟩:=hp.tail
    have a1:=add1 q (by omega)
    have hpn : 0 < (i :: path).length:=by simp
    have hpc:=cells_of_get hpb
    have hv:=view_wf h.wf (Nat.le_refl σ.clock)
    have hle1 : path.length + 1 ≤ cp:=hpl
    have fs : fslice Tryz.prog 22 (.slice (some ⟨pb,po,none⟩) (path.length + 1) cp) (some (.int .i64 1)) none none (view σ σ.clock) = .val (.slice (some ⟨pb,po + 1 * 1,none⟩) path.length (cp - 1)) (view σ σ.clock):=fslice_lo1 Tryz.prog 22 TI 1 pb po (path.length + 1) cp (view σ σ.clock) under_ti size_ti (by omega) hle1 (capOk_view hpb (h.wf _ _ hpb).2 hpf)
    have fi0 : findex (none,1) (.slice (some ⟨pb,po,none⟩) (path.length + 1) cp) (.int .i64 0) σ = .val (.pointer (some ⟨pb,po,none⟩)) σ:=(findex_eq pb po (path.length + 1) cp 0 1 .i64 σ).trans (by rw [if_pos (by omega)]; simp)
    have ep1 : f 1 = .slice (some ⟨pb,po,none⟩) (path.length + 1) cp:=ep
    rw [floop_step]
    have keepP : kept [52] g = kept [52] g:=rfl
    by_cases hqi : q = i
    · subst hqi
      have hdd : ds[q] = d':=by rw [hd] at hi; exact Option.some.inj hi
      rw [hdd] at hL
      have eq0 : (Int.ofNat q == Int.ofNat q) = true:=by simp
      obtain ⟨_,σ2,e2,x2,hw2,ws,rfl,hws,hwo,hLw⟩:=hO l4 _ σ hl4 h.wf hb hL hpt h.hx
      obtain ⟨s,s',ver,τ,bv',g1,o1,ha,o2,o3,o4,g2,ch,hbv',hfin⟩:=placed_add hR h hlt hds x2 hw2 ws hws hwo (putP path x d') (by rw [List.getElem?_set_self hlt]) hLw hb
      have tws : ws.take 4 = ws:=List.take_of_length_le (by omega)
      have txv : xv.take 4 = xv:=List.take_of_length_le (by omega)
      have hvo : (view σ2 σ.clock).cells bo = some [.int .i64 k,.int .i64 0,.string ⟨#[]⟩,s]:=by
        obtain ⟨s0,ver0,hbo,_⟩:=h.out
        have h1:=(x2.get bo (h.wf _ _ hbo).1).trans hbo
        rw [g1] at h1
        have h2:=view_old h.wf (Nat.le_refl σ.clock) (x2.get bo (h.wf _ _ hbo).1) (cells_of_get hbo)
        rw [h2]
        have h3:=congrArg (fun e : Option Ent => match e with | some ⟨.cells c _,_,_,_⟩ => c | _ => []) h1
        exact congrArg some h3.symm
      unfold l87_0 at ih ⊢
      simp -implicitDefEqProofs only [go_sem,↓reduceIte,Nat.reduceLT,Nat.reduceEqDiff,Nat.reduceAdd,Nat.reduceMul,Nat.reduceLeDiff,Nat.reduceSub,fstore1,r87_5_go,r87_5U,r87_6_go,r87_6U,r87_7_go,r87_7U,r87_8_go,r87_8U,ep1,h.f3,h.f5,h.f7,h.f8,h.cd,h.cx,d0,fi0,hpc,hp0,eq0,hv,hlt,hcs,hle,e4',fs,hx4,txv,e2,hvo,hws,hwo,tws,ha,o2,g2,a1,skipR_go,Nat.le_refl]
      generalize hff : upd _ 8 _ = f2
      generalize hgg : upd _ 22 _ = g2'
      obtain ⟨l1,l2,l3,l4',l5,l6,l7,l8,l9⟩:=h.lo
      have n3:=ch.next
      obtain ⟨f3,g3,σ4,bv4,e4,h4,h6,C4,hn4⟩:=ih fuel (q + 1) bv' f2 g2' (τ.put bo (.cells [.int .i64 k,.int .i64 0,.string ⟨#[]⟩,s'] TD) none) (by omega) (by omega) (by omega) (by rw [put_next]; have:=x2.next; omega) (by rw [put_next]; have:=x2.next; omega) (.inl (by have:=x2.next; omega)) (hfin f2 (by rw [← hff]; simp -implicitDefEqProofs only [upd_go,kept_go,↓reduceIte,Nat.reduceEqDiff,Nat.reduceLT,reduceCtorEq]) (by rw [← hff]; simp -implicitDefEqProofs only [upd_go,kept_go,↓reduceIte,Nat.reduceEqDiff,Nat.reduceLT,reduceCtorEq]) (by rw [← hff]; simp -implicitDefEqProofs only [upd_go,kept_go,↓reduceIte,Nat.reduceEqDiff,Nat.reduceLT,reduceCtorEq]) (by rw [← hff]; simp -implicitDefEqProofs only [upd_go,kept_go,↓reduceIte,Nat.reduceEqDiff,Nat.reduceLT,reduceCtorEq]) (by rw [← hff]; simp -implicitDefEqProofs only [upd_go,kept_go,↓reduceIte,Nat.reduceEqDiff,Nat.reduceLT,reduceCtorEq]))
      refine ⟨f3,g3,σ4,bv4,e4,h4,h6.trans (by rw [← hff]; simp -implicitDefEqProofs only [upd_go,kept_go,↓reduceIte,Nat.reduceEqDiff,Nat.reduceLT,reduceCtorEq]),(((x2.chg (fun b => b = bo ∨ base ≤ b ∧ b ≠ bd ∧ b ≠ bx)).trans ch fun b _ hb => by
        obtain ⟨rfl,hs⟩:=hb
        rcases hnil with h0 | h0
        · exact .inr ⟨h0,l8,l9⟩
        · exact absurd (h0 s ver ((x2.get bo (h.wf _ _ h.out.choose_spec.choose_spec.1).1).symm.trans g1)) hs).put bo _ _ (.inr (.inl rfl))).trans C4 fun b _ hb => hb,hn4⟩
    · have eq0 : (Int.ofNat q == Int.ofNat i) = false:=by simp; omega
      obtain ⟨s,s',ver,τ,bv',g1,o1,ha,o2,o3,o4,g2,ch,hbv',hfin⟩:=placed_add hR h hlt hds (Ext.refl σ) h.wf l4 hl4 ho4 ds[q] (by rw [List.getElem?_set_ne (Ne.symm hqi)]; exact hd) (hL.keep fun b cs hb hc => ⟨hc,.inl hb⟩) hb
      have cbo:=cells_of_get g1
      unfold l87_0 at ih ⊢
      simp -implicitDefEqProofs only [go_sem,↓reduceIte,Nat.reduceLT,Nat.reduceEqDiff,Nat.reduceAdd,Nat.reduceMul,Nat.reduceLeDiff,Nat.reduceSub,fstore1,r87_5_go,r87_5U,r87_6_go,r87_6U,r87_7_go,r87_7U,r87_9_go,r87_9U,ep1,h.f3,h.f5,h.f7,h.f8,h.cd,d0,fi0,hpc,hp0,eq0,hv,hlt,hcs,hle,e4',cbo,hl4,ho4,tl4,ha,o2,g2,a1,skipR_go,Nat.le_refl]
      generalize hff : upd _ 8 _ = f2
      generalize hgg : upd _ 22 _ = g2'
      obtain ⟨l1,l2,l3,l4',l5,l6,l7,l8,l9⟩:=h.lo
      have n3:=ch.next
      obtain ⟨f3,g3,σ4,bv4,e4,h4,h6,C4,hn4⟩:=ih fuel (q + 1) bv' f2 g2' (τ.put bo (.cells [.int .i64 k,.int .i64 0,.string ⟨#[]⟩,s'] TD) none) (by omega) (by omega) (by omega) (by rw [put_next]; exact Nat.le_trans hb n3) (by rw [put_next]; omega) (.inl (by omega)) (hfin f2 (by rw [← hff]; simp -implicitDefEqProofs only [upd_go,kept_go,↓reduceIte,Nat.reduceEqDiff,Nat.reduceLT,reduceCtorEq]) (by rw [← hff]; simp -implicitDefEqProofs only [upd_go,kept_go,↓reduceIte,Nat.reduceEqDiff,Nat.reduceLT,reduceCtorEq]) (by rw [← hff]; simp -implicitDefEqProofs only [upd_go,kept_go,↓reduceIte,Nat.reduceEqDiff,Nat.reduceLT,reduceCtorEq]) (by rw [← hff]; simp -implicitDefEqProofs only [upd_go,kept_go,↓reduceIte,Nat.reduceEqDiff,Nat.reduceLT,reduceCtorEq]) (by rw [← hff]; simp -implicitDefEqProofs only [upd_go,kept_go,↓reduceIte,Nat.reduceEqDiff,Nat.reduceLT,reduceCtorEq]))
      refine ⟨f3,g3,σ4,bv4,e4,h4,h6.trans (by rw [← hff]; simp -implicitDefEqProofs only [upd_go,kept_go,↓reduceIte,Nat.reduceEqDiff,Nat.reduceLT,reduceCtorEq]),((ch.weaken (G:=fun b => b = bo ∨ base ≤ b ∧ b ≠ bd ∧ b ≠ bx) fun b _ hb => by
        obtain ⟨rfl,hs⟩:=hb
        rcases hnil with h0 | h0
        · exact .inr ⟨h0,l8,l9⟩
        · exact absurd (h0 s ver g1) hs).put bo _ _ (.inr (.inl rfl))).trans C4 fun b _ hb => hb,hn4⟩
end Go.Proofs.YtodkeaoikjjneaaGreatDoor
/- The reference's placed. -/
namespace Go.Proofs.YtodkeaoikjjneaaGreatDoor
open Go Go.Eng
attribute [local congr] andThen_congr fops_congr fdraw_congr afterOp_congr drawF_congr
attribute [-go_sem] List.range_succ
def PlR (Rin : Nat → Prop) (base : Nat) (y : D) (w : Value) (σ : FState) : Prop:=∃ ws : List Value,w = .agg ws.toArray ∧ ws.length = 4 ∧ ws.all oneCell = true ∧ LaidR (fun b => Rin b ∨ base ≤ b) σ w y
theorem placed_go (n : Nat) (Rin : Nat → Prop) (x : D) (xv : List Value) (hx4 : xv.length = 4) (hxo : xv.all oneCell = true) : ∀ (path : List Nat) (d w0 : D) (pd : List Nat) (lv : List Value) (pv : Value) (σ : FState) (base : Nat),lv.length = 4 → Wf σ → (∀ b,Rin b → b < base) → base ≤ σ.next → LaidR Rin σ (.agg lv.toArray) d → PathO σ pv path → LaidR Rin σ (.agg xv.toArray) x →
    atP path d = some w0 → (∀ y ∈ d.pieces pd,y.2.parts.length < 900 ∧ WholeD y.2) →
    Gives ((env (n + 1 + path.length)).call 87 [.agg lv.toArray,pv,.agg xv.toArray] none σ) σ fun w σ' => PlR Rin σ.next (putP path x d) w σ':=by
  intro path
  induction path with
  | nil =>
    intro d w0 pd lv pv σ base h4 hw hR hb hL hP hLx hat hd
    obtain ⟨q,c,rfl,_⟩:=hP
    rw [show n + 1 + ([] : List Nat).length = n + 1 from rfl,env_call _ 87 _ _ rfl,enter87 _ _ _ _ (by simp),Sl_start]
    unfold run87
    have x1 : Ext σ (((σ.push (.cells lv TD) none).push (.cells xv TD) none).push (.cells [.int .i64 0,.int .i64 0,.string ⟨#[]⟩,.slice none 0 0] TD) none):=(((Ext.refl _).push _ _).push _ _).push _ _
    have hw1:=((hw.push (.cells lv TD) none).push (.cells xv TD) none).push (.cells [.int .i64 0,.int .i64 0,.string ⟨#[]⟩,.slice none 0 0] TD) none
    have z0 : (Int.ofNat 0 == 0) = true:=rfl
    have txv : xv.take 4 = xv:=List.take_of_length_le (by omega)
    simp -implicitDefEqProofs only [go_sem,↓reduceIte,Nat.reduceLT,Nat.reduceEqDiff,Nat.reduceAdd,Nat.reduceMul,Nat.reduceLeDiff,Nat.reduceSub,fstoreN,r87_0_go,r87_0U,r87_1_go,r87_1U,r87_2_go,r87_2U,Option.getD_some,List.getElem?_cons_zero,List.getElem?_cons_succ,z0,hx4,hxo,txv,aggDatum,fleave_nil,fresults_nil,fresults_cons,fresult_cell,Nat.le_refl]
    refine ⟨_,_,rfl,x1.put _ _ _ (by omega),hw1.put _ _ _ (by simp only [push_next]; omega),xv,by simp [txv],hx4,hxo,?_⟩
    show LaidR _ _ _ x
    exact hLx.keep fun b cs hb' hc => ⟨(((x1.put (σ.next + 2) (.cells xv TD) none (by omega)).cells (hw.cells hc))).trans hc,.inl hb'⟩
  | cons i path ih =>
    intro d w0 pd lv pv σ base h4 hw hR hb hL hP hLx hat hd
    obtain ⟨k,z,t,ds⟩:=d
    have hd0:=hd _ (by rw [D.pieces_eq]; exact List.mem_cons_self)
    have hds : ds.length < 900:=hd0.1
    rw [atP] at hat
    simp only [D.parts] at hat
    cases hdi : ds[i]? with
    | none => rw [hdi] at hat; cases hat
    | some d' =>
    rw [hdi] at hat
    have hil:=(List.getElem?_eq_some_iff.1 hdi).1
    have hzt : z = 0 ∧ t = ⟨#[]⟩:=by
      have h:=hd0.2
      show z = 0 ∧ t = ⟨#[]⟩
      have h' : Whole k z t ds.length:=h
      generalize hln : ds.length = ln at h'
      cases h' with
      | nil => omega
      | bool z h => omega
      | num z h => omega
      | sym t h => omega
      | str t h => omega
      | pair => exact ⟨rfl,rfl⟩
      | vec l => exact ⟨rfl,rfl⟩
    obtain ⟨rfl,rfl⟩:=hzt
    have hput : putP (i :: path) x (.mk k 0 ⟨#[]⟩ ds) = .mk k 0 ⟨#[]⟩ (ds.set i (putP path x d')):=by rw [putP,hdi]
    have hL0:=hL
    obtain ⟨p,c,hlv,hE⟩:=hL
    have hlv' : lv = [.int .i64 k,.int .i64 0,.string ⟨#[]⟩,.slice p ds.length c]:=by
      have:=Value.agg.inj hlv
      simpa using congrArg Array.toList this
    subst hlv'
    obtain ⟨qp,cp,rfl,hpo⟩:=id hP
    obtain ⟨M,hM⟩ : ∃ M,n + 1 + path.length = M:=⟨_,rfl⟩
    rw [hM] at ih
    rw [show n + 1 + (i :: path).length = M + 1 by rw [List.length_cons]; omega,env_call _ 87 _ _ rfl,enter87 _ _ _ _ (by simp),Sl_start]
    unfold run87
    have z0 : (Int.ofNat (path.length + 1) == 0) = false:=by simp; omega
    have x1 : Ext σ (((((σ.push (.cells [.int .i64 k,.int .i64 0,.string ⟨#[]⟩,.slice p ds.length c] TD) none).push (.cells xv TD) none).push (.cells [.int .i64 0,.int .i64 0,.string ⟨#[]⟩,.slice none 0 0] TD) none).push (.cells [.int .i64 0,.int .i64 0,.string ⟨#[]⟩,.slice none 0 0] TD) none).put (σ.next + 3) (.cells [.int .i64 k,.int .i64 0,.string ⟨#[]⟩,.slice none 0 0] TD) none):=(((((Ext.refl _).push _ _).push _ _).push _ _).push _ _).put _ _ _ (by omega)
    have hw1:=((((hw.push (.cells [.int .i64 k,.int .i64 0,.string ⟨#[]⟩,.slice p ds.length c] TD) none).push (.cells xv TD) none).push (.cells [.int .i64 0,.int .i64 0,.string ⟨#[]⟩,.slice none 0 0] TD) none).push (.cells [.int .i64 0,.int .i64 0,.string ⟨#[]⟩,.slice none 0 0] TD) none).put (σ.next + 3) (.cells [.int .i64 k,.int .i64 0,.string ⟨#[]⟩,.slice none 0 0] TD) none (by simp only [push_next]; omega)
    have hkeep : keepOf nls 87 = [52]:=by kernel_rfl
    simp -implicitDefEqProofs only [go_sem,↓reduceIte,Nat.reduceLT,Nat.reduceEqDiff,Nat.reduceAdd,Nat.reduceMul,Nat.reduceLeDiff,Nat.reduceSub,fstoreN,r87_0_go,r87_0U,r87_1_go,r87_1U,r87_3_go,r87_3U,r87_4_go,r87_4U,Option.getD_some,List.getElem?_cons_zero,List.getElem?_cons_succ,z0,skipR_go,hkeep]
    have g0 : (((((σ.push (.cells [.int .i64 k,.int .i64 0,.string ⟨#[]⟩,.slice p ds.length c] TD) none).push (.cells xv TD) none).push (.cells [.int .i64 0,.int .i64 0,.string ⟨#[]⟩,.slice none 0 0] TD) none).push (.cells [.int .i64 0,.int .i64 0,.string ⟨#[]⟩,.slice none 0 0] TD) none).put (σ.next + 3) (.cells [.int .i64 k,.int .i64 0,.string ⟨#[]⟩,.slice none 0 0] TD) none).cells σ.next = some [.int .i64 k,.int .i64 0,.string ⟨#[]⟩,.slice p ds.length c]:=by
      rw [cells_put,if_neg (by omega),cells_push,if_neg (by simp only [push_next]; omega),cells_push,if_neg (by simp only [push_next]; omega),cells_push,if_neg (by rw [push_next]; omega),cells_push,if_pos rfl]; rfl
    have g1 : (((((σ.push (.cells [.int .i64 k,.int .i64 0,.string ⟨#[]⟩,.slice p ds.length c] TD) none).push (.cells xv TD) none).push (.cells [.int .i64 0,.int .i64 0,.string ⟨#[]⟩,.slice none 0 0] TD) none).push (.cells [.int .i64 0,.int .i64 0,.string ⟨#[]⟩,.slice none 0 0] TD) none).put (σ.next + 3) (.cells [.int .i64 k,.int .i64 0,.string ⟨#[]⟩,.slice none 0 0] TD) none).cells (σ.next + 1) = some xv:=by
      rw [cells_put,if_neg (by omega),cells_push,if_neg (by simp only [push_next]; omega),cells_push,if_neg (by simp only [push_next]; omega),cells_push,if_pos (by rw [push_next])]; rfl
    have g2 : ∃ ver,(((((σ.push (.cells [.int .i64 k,.int .i64 0,.string ⟨#[]⟩,.slice p ds.length c] TD) none).push (.cells xv TD) none).push (.cells [.int .i64 0,.int .i64 0,.string ⟨#[]⟩,.slice none 0 0] TD) none).push (.cells [.int .i64 0,.int .i64 0,.string ⟨#[]⟩,.slice none 0 0] TD) none).put (σ.next + 3) (.cells [.int .i64 k,.int .i64 0,.string ⟨#[]⟩,.slice none 0 0] TD) none).heap.get (σ.next + 2) = some ⟨.cells [.int .i64 0,.int .i64 0,.string ⟨#[]⟩,.slice none 0 0] TD,false,none,ver⟩ :=
      ⟨_,by rw [put_get,if_neg (by omega),push_get,if_neg (by simp only [push_next]; omega),push_get,if_pos (by simp only [push_next])]⟩
    have g3 : ∃ ver,(((((σ.push (.cells [.int .i64 k,.int .i64 0,.string ⟨#[]⟩,.slice p ds.length c] TD) none).push (.cells xv TD) none).push (.cells [.int .i64 0,.int .i64 0,.string ⟨#[]⟩,.slice none 0 0] TD) none).push (.cells [.int .i64 0,.int .i64 0,.string ⟨#[]⟩,.slice none 0 0] TD) none).put (σ.next + 3) (.cells [.int .i64 k,.int .i64 0,.string ⟨#[]⟩,.slice none 0 0] TD) none).heap.get (σ.next + 3) = some ⟨.cells [.int .i64 k,.int .i64 0,.string ⟨#[]⟩,.slice none 0 0] TD,false,none,ver⟩ :=
      ⟨_,by rw [put_get,if_pos rfl]⟩
    have n1 : (((((σ.push (.cells [.int .i64 k,.int .i64 0,.string ⟨#[]⟩,.slice p ds.length c] TD) none).push (.cells xv TD) none).push (.cells [.int .i64 0,.int .i64 0,.string ⟨#[]⟩,.slice none 0 0] TD) none).push (.cells [.int .i64 0,.int .i64 0,.string ⟨#[]⟩,.slice none 0 0] TD) none).put (σ.next + 3) (.cells [.int .i64 k,.int .i64 0,.string ⟨#[]⟩,.slice none 0 0] TD) none).next = σ.next + 4:=rfl
    generalize FState.put _ (σ.next + 3) _ _ = σ1 at x1 hw1 g0 g1 g2 g3 n1 ⊢
    obtain ⟨v2,g2⟩:=g2
    obtain ⟨v3,g3⟩:=g3
    generalize hbf : bigFuel = fuel
    generalize hff : upd _ 8 _ = f1
    generalize hgg : upd _ 15 _ = gg
    have q6 : f1 6 = .pointer (some ⟨σ.next + 2,0,none⟩):=by rw [← hff]; simp -implicitDefEqProofs only [upd_go,kept_go,↓reduceIte,Nat.reduceEqDiff,Nat.reduceLT,reduceCtorEq]
    obtain ⟨f2,g2',σ2,bv2,e2,H,h6,C2,hnil⟩:=pl_loop M (Rin:=Rin) (base:=σ.next + 3) (bd:=σ.next) (bx:=σ.next + 1) (bo:=σ.next + 3) (br:=σ.next + 2) (i:=i) (k:=k) (z:=0) (t:=⟨#[]⟩) (p:=p) (c:=c) (ds:=ds) (x:=x) (d':=d') (xv:=xv) (path:=path) (fun b hb' => by have:=hR b hb'; omega) hds hx4 hdi (by omega)
      (fun lv pv σ' h4 hw' hb' hL' hP' hLx' => ih d' w0 (pd ++ [0 + i]) lv pv σ' (σ.next + 3) h4 hw' (fun b hb'' => by have:=hR b hb''; omega) hb' hL' hP' hLx' hat (fun y hy => hd y (by rw [D.pieces_eq]; exact List.mem_cons_of_mem _ (piecesL_part pd ds 0 i d' hdi y hy))))
      ds.length fuel 0 (σ.next + 2) f1 gg σ1 (by omega) (by rw [← hbf]; show ds.length < 1000000000000; omega) (by omega) (by omega) (by omega) (.inr fun s ver hs => by
        rw [g3] at hs
        have:=congrArg (fun e : Option Ent => match e with | some ⟨.cells [_,_,_,s] _,_,_,_⟩ => s | _ => .nilIface) hs
        exact this.symm)
      { f1:=by
          have : f1 1 = .slice qp (path.length + 1) cp:=by rw [← hff]; simp -implicitDefEqProofs only [upd_go,kept_go,↓reduceIte,Nat.reduceEqDiff,Nat.reduceLT,reduceCtorEq,List.getElem?_cons_zero,List.getElem?_cons_succ,Option.getD_some]
          rw [this]
          exact hP.ext hw x1
        f3:=by rw [← hff]; simp -implicitDefEqProofs only [upd_go,kept_go,↓reduceIte,Nat.reduceEqDiff,Nat.reduceLT,reduceCtorEq]
        f5:=by rw [← hff]; simp -implicitDefEqProofs only [upd_go,kept_go,↓reduceIte,Nat.reduceEqDiff,Nat.reduceLT,reduceCtorEq]
        f7:=by rw [← hff]; simp -implicitDefEqProofs only [upd_go,kept_go,↓reduceIte,Nat.reduceEqDiff,Nat.reduceLT,reduceCtorEq]
        f8:=by rw [← hff]; simp -implicitDefEqProofs only [upd_go,kept_go,↓reduceIte,Nat.reduceEqDiff,Nat.reduceLT,reduceCtorEq] <;> rfl
        cd:=g0
        cx:=g1
        hE:=hE.keep fun b cs hb' hc => ⟨(x1.cells (hw.cells hc)).trans hc,hb'⟩
        hx:=hLx.keep fun b cs hb' hc => ⟨(x1.cells (hw.cells hc)).trans hc,hb'⟩
        out:=⟨_,v3,g3,.inl ⟨by simp,rfl⟩⟩
        lo:=⟨trivial,trivial,by omega,by omega,by omega,fun b hb' => by have:=hR b hb'; omega,by omega,by omega,by omega⟩
        bvT:=⟨_,_,_,_,g2⟩
        wf:=hw1 }
    rw [e2]
    obtain ⟨s,ver,hbo,hV⟩:=H.out
    have hlen : (ds.set i (putP path x d')).length = ds.length:=List.length_set
    rw [List.take_of_length_le (by omega)] at hV
    obtain ⟨p2,hs2,hE2⟩:=hV.slice
    rw [hlen] at hs2
    subst hs2
    have cbo:=cells_of_get hbo
    have gbr : σ2.heap.get (σ.next + 2) = some ⟨.cells [.int .i64 0,.int .i64 0,.string ⟨#[]⟩,.slice none 0 0] TD,false,none,v2⟩:=(C2.get _ (by omega) (by omega)).trans g2
    have n2:=C2.next
    simp -implicitDefEqProofs only [go_sem,↓reduceIte,Nat.reduceLT,Nat.reduceEqDiff,Nat.reduceAdd,Nat.reduceMul,Nat.reduceLeDiff,Nat.reduceSub,fstoreN,r87_10_go,r87_10U,h6,q6,H.f7,cbo,gbr,aggDatum,fleave_nil,fresults_nil,fresults_cons,fresult_cell]
    have x2 : Ext σ σ2:=((x1.chg (fun b => σ.next ≤ b)).trans C2 fun b hb' h => by omega).ext fun b hb' h => by omega
    refine ⟨_,_,rfl,x2.put _ _ _ (by omega),H.wf.put _ _ _ (by omega),[.int .i64 k,.int .i64 0,.string ⟨#[]⟩,.slice p2 ds.length ds.length],rfl,rfl,rfl,?_⟩
    rw [hput]
    have hbv : σ.next + 3 ≤ bv2:=by
      rcases hnil with h | h
      · exact h
      · have:=h _ _ hbo
        simp only [Value.slice.injEq] at this
        omega
    refine ⟨p2,ds.length,by rw [hlen],hE2.keep fun b cs hb' hc => ⟨?_,?_⟩⟩
    · rw [cells_put,if_neg (fun hh => by
        rcases hb' with h | h
        · omega
        · rcases h.1 with h | h
          · have:=hR b h
            omega
          · omega)]; exact hc
    · rcases hb' with h | h
      · exact .inr (by omega)
      · rcases h.1 with h | h
        · exact .inl h
        · exact .inr (by omega)
end Go.Proofs.YtodkeaoikjjneaaGreatDoor
/- The reference's Put. -/
namespace Go.Proofs.YtodkeaoikjjneaaGreatDoor
open Go Go.Eng
attribute [local congr] andThen_congr fops_congr fdraw_congr afterOp_congr drawF_congr
attribute [-go_sem] List.range_succ
theorem refPut_go (P N n1 : Nat) (hP : P = n1 + 25 + N) (d x w0 : D) (path : List Nat) (hpl : path.length + 1 ≤ P) (hpl2 : path.length < 100000) (lv xv : List Value) (pv : Value) (h4 : lv.length = 4) (hx4 : xv.length = 4) (hxo : xv.all oneCell = true) (Q : Nat → Prop) (σ : FState) (hw : Wf σ) (hL : LaidR (fun b => b < σ.next) σ (.agg lv.toArray) d) (hLx : LaidR (fun b => b < σ.next) σ (.agg xv.toArray) x)
    (hpo : PathO σ pv path) (hpv : PathV Q σ pv path) (hat : atP path d = some w0) (hd : RefOK N d) (hx : RefOK N x) (hu : RefOK N (putP path x d)) (hwh : ∀ y ∈ d.pieces [],y.2.parts.length < 900 ∧ WholeD y.2) :
    Gives ((env (P + 1)).call 34 [.agg lv.toArray,pv,.agg xv.toArray] none σ) σ fun r σ' => ∃ ws : List Value,r = .tuple #[.agg ws.toArray,.int .i64 0] ∧ ws.length = 4 ∧ ws.all oneCell = true ∧ LaidR (fun b => b < σ'.next) σ' (.agg ws.toArray) (putP path x d):=by
  have ht : lv.take 4 = lv:=List.take_of_length_le (by omega)
  have htx : xv.take 4 = xv:=List.take_of_length_le (by omega)
  rw [env_call _ 34 _ _ rfl,enter34 _ _ _ _ (by simp),Sl_start]
  unfold run34
  have x1 : Ext σ (((σ.push (.cells lv TD) none).push (.cells xv TD) none).push (.cells [.int .i64 0,.int .i64 0,.string ⟨#[]⟩,.slice none 0 0] TD) none):=(((Ext.refl _).push _ _).push _ _).push _ _
  have hw1:=((hw.push (.cells lv TD) none).push (.cells xv TD) none).push (.cells [.int .i64 0,.int .i64 0,.string ⟨#[]⟩,.slice none 0 0] TD) none
  have c1 : (((σ.push (.cells lv TD) none).push (.cells xv TD) none).push (.cells [.int .i64 0,.int .i64 0,.string ⟨#[]⟩,.slice none 0 0] TD) none).cells σ.next = some lv:=by rw [cells_push,if_neg (by simp only [push_next]; omega),cells_push,if_neg (by rw [push_next]; omega),cells_push,if_pos rfl]; rfl
  have c2 : (((σ.push (.cells lv TD) none).push (.cells xv TD) none).push (.cells [.int .i64 0,.int .i64 0,.string ⟨#[]⟩,.slice none 0 0] TD) none).cells (σ.next + 1) = some xv:=by rw [cells_push,if_neg (by simp only [push_next]; omega),cells_push,if_pos (by rw [push_next])]; rfl
  have g3 : (((σ.push (.cells lv TD) none).push (.cells xv TD) none).push (.cells [.int .i64 0,.int .i64 0,.string ⟨#[]⟩,.slice none 0 0] TD) none).heap.get (σ.next + 2) = some ⟨.cells [.int .i64 0,.int .i64 0,.string ⟨#[]⟩,.slice none 0 0] TD,false,none,σ.clock + 2⟩:=by rw [push_get,if_pos (by simp only [push_next])]; rfl
  have n1' : (((σ.push (.cells lv TD) none).push (.cells xv TD) none).push (.cells [.int .i64 0,.int .i64 0,.string ⟨#[]⟩,.slice none 0 0] TD) none).next = σ.next + 3:=rfl
  simp -implicitDefEqProofs only [go_sem,↓reduceIte,Nat.reduceLT,Nat.reduceEqDiff,Nat.reduceAdd,Nat.reduceMul,Nat.reduceLeDiff,Nat.reduceSub,r34_0_go,r34_0U,Option.getD_some,List.getElem?_cons_zero,List.getElem?_cons_succ]
  generalize hff : upd _ 7 _ = f1
  generalize FState.push _ _ _ = σ1 at x1 hw1 c1 c2 g3 n1' ⊢
  have q1 : f1 1 = pv:=by rw [← hff]; simp -implicitDefEqProofs only [upd_go,kept_go,↓reduceIte,Nat.reduceEqDiff,Nat.reduceLT,reduceCtorEq,Option.getD_some,List.getElem?_cons_zero,List.getElem?_cons_succ]
  have q3 : f1 3 = .pointer (some ⟨σ.next,0,none⟩):=by rw [← hff]; simp -implicitDefEqProofs only [upd_go,kept_go,↓reduceIte,Nat.reduceEqDiff,Nat.reduceLT,reduceCtorEq]
  have q5 : f1 5 = .pointer (some ⟨σ.next + 1,0,none⟩):=by rw [← hff]; simp -implicitDefEqProofs only [upd_go,kept_go,↓reduceIte,Nat.reduceEqDiff,Nat.reduceLT,reduceCtorEq]
  have q6 : f1 6 = .pointer (some ⟨σ.next + 2,0,none⟩):=by rw [← hff]; simp -implicitDefEqProofs only [upd_go,kept_go,↓reduceIte,Nat.reduceEqDiff,Nat.reduceLT,reduceCtorEq]
  clear hff
  have kL : ∀ {τ : FState},Ext σ τ → LaidR (fun b => b < σ.next) τ (.agg lv.toArray) d:=fun hX => hL.keep fun b cs hb hc => ⟨(hX.cells (hw.cells hc)).trans hc,hb⟩
  have kX : ∀ {τ : FState},Ext σ τ → LaidR (fun b => b < σ.next) τ (.agg xv.toArray) x:=fun hX => hLx.keep fun b cs hb hc => ⟨(hX.cells (hw.cells hc)).trans hc,hb⟩
  obtain ⟨_,σ2,e2,x2,hw2,rfl⟩:=two_go (n1 + 22 + N) n1 N rfl (fun b => b < σ.next) d x lv xv h4 hx4 σ1 hw1 (kL x1) (kX x1) hd hx
  rw [show n1 + 22 + N + 3 = P by omega] at e2
  have X2:=x1.trans x2
  have c3:=(x2.cells (hw1.cells c1)).trans c1
  have z0 : ((0 : Int) == 0) = true:=rfl
  obtain ⟨m,hm⟩ : ∃ m,P = m + 2:=⟨P - 2,by omega⟩
  obtain ⟨_,σ3,e3,x3,hw3,u,rfl,hLu⟩:=part_go m hw2 (kL X2) (hpv.keep (Q':=fun _ => True) fun b c _ hc => ⟨(X2.cells (hw.cells hc)).trans hc,trivial⟩) hpl2 (by have:=hd.count; omega) hat
  rw [← hm] at e3
  obtain ⟨u4,rfl,hu4,huo⟩:=hLu.agg
  have X3:=X2.trans x3
  have tu : u4.take 4 = u4:=List.take_of_length_le (by omega)
  have n3:=X3.next
  have n12:=(x2.trans x3).next
  simp -implicitDefEqProofs only [go_sem,↓reduceIte,Nat.reduceLT,Nat.reduceEqDiff,Nat.reduceAdd,Nat.reduceMul,Nat.reduceLeDiff,Nat.reduceSub,fstoreN,r34_1_go,r34_1U,r34_2_go,r34_2U,r34_4_go,r34_4U,r34_5_go,r34_5U,q1,q3,q5,c1,c2,h4,hx4,ht,htx,e2,z0,c3,e3,hu4,huo,tu,skipR_go,Nat.le_refl]
  generalize hff : upd _ 10 _ = f2
  generalize hgg : upd _ 25 _ = g2
  have r1 : f2 1 = pv:=by rw [← hff]; simp -implicitDefEqProofs only [upd_go,kept_go,↓reduceIte,Nat.reduceEqDiff,Nat.reduceLT,reduceCtorEq,q1]
  have r3 : f2 3 = .pointer (some ⟨σ.next,0,none⟩):=by rw [← hff]; simp -implicitDefEqProofs only [upd_go,kept_go,↓reduceIte,Nat.reduceEqDiff,Nat.reduceLT,reduceCtorEq,q3]
  have r5 : f2 5 = .pointer (some ⟨σ.next + 1,0,none⟩):=by rw [← hff]; simp -implicitDefEqProofs only [upd_go,kept_go,↓reduceIte,Nat.reduceEqDiff,Nat.reduceLT,reduceCtorEq,q5]
  have r6 : f2 6 = .pointer (some ⟨σ.next + 2,0,none⟩):=by rw [← hff]; simp -implicitDefEqProofs only [upd_go,kept_go,↓reduceIte,Nat.reduceEqDiff,Nat.reduceLT,reduceCtorEq,q6]
  clear hff hgg
  have x4 : Ext σ3 ((σ3.push (.cells [.int .i64 0,.int .i64 0,.string ⟨#[]⟩,.slice none 0 0] TD) none).put σ3.next (.cells u4 TD) none):=((Ext.refl _).push _ _).put _ _ _ (Nat.le_refl _)
  have hw4:=(hw3.push (.cells [.int .i64 0,.int .i64 0,.string ⟨#[]⟩,.slice none 0 0] TD) none).put σ3.next (.cells u4 TD) none (Nat.lt_succ_self _)
  generalize FState.put _ σ3.next _ _ = σ4 at x4 hw4 ⊢
  have X4:=X3.trans x4
  have y4:=(x2.trans x3).trans x4
  have d1:=(y4.cells (hw1.cells c1)).trans c1
  have d2:=(y4.cells (hw1.cells c2)).trans c2
  have d3:=(y4.get _ (hw1 _ _ g3).1).trans g3
  obtain ⟨n2,hn2⟩ : ∃ n2,P = n2 + 1 + path.length:=⟨P - 1 - path.length,by omega⟩
  obtain ⟨_,σ5,e5,x5,hw5,ws,rfl,hws,hwo,hLw⟩:=placed_go n2 (fun b => b < σ.next) x xv hx4 hxo path d w0 [] lv pv σ4 σ.next h4 hw4 (fun b hb => hb) (by have:=X4.next; omega) (kL X4) (hpo.ext hw X4) (kX X4) hat hwh
  rw [← hn2] at e5
  obtain ⟨M',hM'⟩ : ∃ M',P = M' + 2:=⟨P - 2,by omega⟩
  have hLw' : LaidR (fun b => b < σ5.next) σ5 (.agg ws.toArray) (putP path x d):=hLw.keep fun b cs hb hc => ⟨hc,hw5.cells hc⟩
  obtain ⟨_,σ6,e6,x6,hw6,rfl⟩:=kept_go' _ (putP path x d) ws hws σ5 hw5 hLw' M' (M' - N) N (by omega) hu hwo
  rw [← hM'] at e6
  have tws : ws.take 4 = ws:=List.take_of_length_le (by omega)
  have d6:=((x5.trans x6).get _ (hw4 _ _ d3).1).trans d3
  have l6:=(hw6 _ _ d6).1
  simp -implicitDefEqProofs only [go_sem,↓reduceIte,Nat.reduceLT,Nat.reduceEqDiff,Nat.reduceAdd,Nat.reduceMul,Nat.reduceLeDiff,Nat.reduceSub,fstoreN,r34_7_go,r34_7U,r1,r3,r5,r6,d1,d2,h4,hx4,ht,htx,e5,e6,d6,hws,hwo,tws,aggDatum,aggErrno,fleave_nil,fresults_nil,fresults_cons,fresult_cell,fresult_tmp,Nat.le_refl]
  refine ⟨_,_,rfl,((X4.trans x5).trans x6).put _ _ _ (by omega),hw6.put _ _ _ l6,ws,rfl,hws,hwo,?_⟩
  have n4:=x4.next
  have n34:=X4.next
  have n12':=y4.next
  exact hLw.keep fun b cs hb hc => ⟨by
    rw [cells_put,if_neg (by rcases hb with h | h <;> omega)]
    exact (x6.cells (hw5.cells hc)).trans hc,by rw [put_next]; have:=hw5.cells hc; have:=x6.next; omega⟩
end Go.Proofs.YtodkeaoikjjneaaGreatDoor
/- What the reference asks is so of data that DatumOf makes, and of what is put into them. -/
namespace Go.Proofs.YtodkeaoikjjneaaGreatDoor
open Go Go.Eng
def AllWhole (d : D) : Prop:=∀ p,∀ y ∈ d.pieces p,y.2.parts.length ≤ 3 ∧ WholeD y.2
theorem mem_piecesL (p : List Nat) : ∀ (ds : List D) (i : Nat) (y : List Nat × D),y ∈ D.piecesL p i ds → ∃ (j : Nat) (d' : D),ds[j]? = some d' ∧ y ∈ d'.pieces (p ++ [i + j])
  | [],i,y,h => by simp [D.piecesL] at h
  | d :: ds,i,y,h => by
    rw [D.piecesL,List.mem_append] at h
    rcases h with h | h
    · exact ⟨0,d,rfl,h⟩
    · obtain ⟨j,d',h1,h2⟩:=mem_piecesL p ds (i + 1) y h
      exact ⟨j + 1,d',h1,by rw [show i + (j + 1) = i + 1 + j by omega]; exact h2⟩
theorem allWhole_mk {k z : Int} {t : ByteArray} {ds : List D} (h1 : ds.length ≤ 3) (h2 : Whole k z t ds.length) (h : ∀ d ∈ ds,AllWhole d) : AllWhole (.mk k z t ds):=fun p y hy => by
  rw [D.pieces_eq] at hy
  rcases List.mem_cons.1 hy with rfl | hy
  · exact ⟨h1,h2⟩
  · obtain ⟨j,d',hj,hm⟩:=mem_piecesL p ds 0 y hy
    exact h d' (List.mem_of_getElem? hj) _ y hm
theorem AllWhole.head {k z : Int} {t : ByteArray} {ds : List D} (h : AllWhole (.mk k z t ds)) : ds.length ≤ 3 ∧ Whole k z t ds.length:=by
  have h1:=h [] ([],.mk k z t ds) (by rw [D.pieces_eq]; exact List.mem_cons_self)
  exact h1
theorem made_whole {L : Nat} {d : D} (h : Made L d) : AllWhole d:=by
  induction h with
  | leaf L d h =>
    cases h with
    | nil => exact allWhole_mk (by simp) .nil (by simp)
    | bool b => exact allWhole_mk (by simp) (.bool _ (by cases b <;> simp)) (by simp)
    | num z h => exact allWhole_mk (by simp) (.num _ (by omega)) (by simp)
    | sym t h => exact allWhole_mk (by simp) (.sym _ h) (by simp)
    | str t h => exact allWhole_mk (by simp) (.str _ h) (by simp)
  | pair L a b ha hb iha ihb => exact allWhole_mk (by simp) .pair (fun d hd => by
      simp only [List.mem_cons,List.not_mem_nil,or_false] at hd
      rcases hd with rfl | rfl
      · exact iha
      · exact ihb)
  | vec L l hl h ih => exact allWhole_mk hl (.vec _) ih
theorem AllWhole.part {k z : Int} {t : ByteArray} {ds : List D} (h : AllWhole (.mk k z t ds)) {i : Nat} {d : D} (hd : ds[i]? = some d) : ∀ y ∈ d.pieces ([] ++ [0 + i]),y.2.parts.length ≤ 3 ∧ WholeD y.2:=fun y hy =>
  h [] y (by rw [D.pieces_eq]; exact List.mem_cons_of_mem _ (piecesL_part [] ds 0 i d hd y hy))
theorem put_whole {x : D} (hx : AllWhole x) : ∀ (p : List Nat) (L : Nat) (d w : D),Made L d → atP p d = some w → AllWhole (putP p x d)
  | [],L,d,w,_,_ => hx
  | i :: p,L,.mk k z t ds,w,hm,h => by
    rw [atP] at h
    simp only [D.parts] at h
    cases hd : ds[i]? with
    | none => rw [hd] at h; cases h
    | some d' =>
      rw [hd] at h
      have hmem:=List.mem_of_getElem? hd
      have ih:=put_whole hx p (L - 1) d' w (Fine.part (m:=0) hm hmem) h
      have hW:=(made_whole hm).head
      rw [putP,hd]
      simp only
      refine allWhole_mk (by rw [List.length_set]; exact hW.1) (by rw [List.length_set]; exact hW.2) fun e he => ?_
      rcases List.mem_or_eq_of_mem_set he with he | rfl
      · exact made_whole (Fine.part (m:=0) hm he)
      · exact ih
theorem AllWhole.ref {N : Nat} {d : D} (h : AllWhole d) (h1 : d.deep ≤ N) (h2 : d.count ≤ 2000) : RefOK N d:=⟨h1,fun x hx => ⟨by have:=(h [] x hx).1; omega,(h [] x hx).2⟩,h2⟩
end Go.Proofs.YtodkeaoikjjneaaGreatDoor
/- Functions of the program, written out in the reading's words (made by program; the kernel holds each against the code). -/
namespace Go.Proofs.YtodkeaoikjjneaaGreatDoor
open Go Go.Eng
variable (E : Env) (ro : Option Nat) (last : List Nat → RunF) (cl : List Nat) (a : FAct) (u : Option FrameMode) (σ : FState)
def r7_0U (_ : Unit) : List COp:=[⟨fun a σ => .val (.bool false) σ,(some 2),fun _ => some true⟩]
def r7_0 : List COp:=r7_0U ()
def r7_1U (_ : Unit) : List COp:=[⟨fun a σ => .val (a.get 0) σ,(some 17),fun _ => some true⟩,
  ⟨fun a σ => .enter 11 [(a.get 17)] σ,(some 18),fun _ => some true⟩,
  ⟨fun a σ => .val (a.get 18) σ,(some 3),fun _ => some true⟩]
def r7_1 : List COp:=r7_1U ()
def r7_2U (_ : Unit) : List COp:=[⟨fun a σ => .val (a.get 3) σ,(some 19),fun _ => some true⟩,
  ⟨fun a σ => .enter 13 [(a.get 19),(.int .i64 4)] σ,(some 20),fun _ => some true⟩,
  ⟨fun a σ => newCells [(.int .i64 0),(.int .i64 0),(.string ⟨#[]⟩),(.slice none 0 0)] 28 none σ,(some 4),fun _ => some true⟩,
  ⟨fun a σ => fstore 4 (a.get 4) (a.get 20) σ,none,fun _ => some true⟩]
def r7_2 : List COp:=r7_2U ()
def r7_3U (_ : Unit) : List COp:=[⟨fun a σ => fload (some 4) (a.get 4) σ,(some 21),fun _ => some true⟩,
  ⟨fun a σ => .enter 22 [(a.get 21),(.slice none 0 0)] σ,(some 22),fun _ => some true⟩,
  ⟨fun a σ => .val (a.get 22) σ,(some 5),fun _ => some true⟩]
def r7_3 : List COp:=r7_3U ()
def r7_4U (_ : Unit) : List DOp:=[⟨fun a σ => .val (a.get 3) σ,(some 26),fun _ => some true,(some 0),false⟩,
  ⟨fun a σ => .val (a.get 5) σ,(some 27),fun _ => some true,(some 0),false⟩,
  ⟨fun a σ => flenL (a.get 27) σ,(some 28),fun _ => some true,(some 0),false⟩,
  ⟨fun a σ => i_sub Tryz.prog 3 (.tmp 28) (.const (.int .i64 1)) (a.get 28) (.int .i64 1) σ,(some 29),fun _ => some true,(some 0),false⟩,
  ⟨fun a σ => .enter 12 [(a.get 26),(a.get 29)] σ,(some 30),fun _ => some true,none,false⟩,
  ⟨fun a σ => .val (a.get 3) σ,(some 33),fun _ => some true,(some 0),false⟩,
  ⟨fun a σ => .enter 13 [(a.get 33),(.int .i64 2)] σ,(some 34),fun _ => some true,none,false⟩,
  ⟨fun a σ => fload (some 4) (a.get 4) σ,(some 24),fun _ => some true,(some 0),false⟩,
  ⟨fun a σ => .val (a.get 5) σ,(some 25),fun _ => some true,(some 0),false⟩,
  ⟨fun a σ => findex (none,1) (a.get 25) (a.get 30) σ,(some 31),fun _ => some true,(some 1),false⟩,
  ⟨fun a σ => fload none (a.get 31) σ,(some 32),fun _ => some true,(some 1),false⟩,
  ⟨fun a σ => .enter 34 [(a.get 24),(a.get 32),(a.get 34)] σ,(some 35),fun _ => some true,none,false⟩,
  ⟨fun a σ => .val (a.get 35) σ,(some 23),fun _ => some true,(some 3),false⟩,
  ⟨fun a σ => fextract 0 (a.get 23) σ,(some 36),fun _ => some true,(some 3),false⟩,
  ⟨fun a σ => newCells [(.int .i64 0),(.int .i64 0),(.string ⟨#[]⟩),(.slice none 0 0)] 28 none σ,(some 6),fun _ => some true,(some 0),false⟩,
  ⟨fun a σ => fstore 4 (a.get 6) (a.get 36) σ,none,fun _ => some true,none,false⟩,
  ⟨fun a σ => fextract 1 (a.get 23) σ,(some 37),fun _ => some true,(some 3),false⟩,
  ⟨fun a σ => .val (a.get 37) σ,(some 7),fun _ => some true,(some 4),false⟩]
def r7_4 : List DOp:=r7_4U ()
def r7_5U (_ : Unit) : List COp:=[⟨fun a σ => fload (some 4) (a.get 4) σ,(some 39),fun _ => some true⟩,
  ⟨fun a σ => fload (some 4) (a.get 6) σ,(some 40),fun _ => some true⟩,
  ⟨fun a σ => .enter 35 [(a.get 39),(a.get 40)] σ,(some 41),fun _ => some true⟩,
  ⟨fun a σ => .val (a.get 41) σ,(some 38),fun _ => some true⟩,
  ⟨fun a σ => fextract 0 (a.get 38) σ,(some 42),fun _ => some true⟩,
  ⟨fun a σ => fextract 1 (a.get 38) σ,(some 43),fun _ => some true⟩,
  ⟨fun a σ => .val (a.get 42) σ,(some 8),fun _ => some true⟩,
  ⟨fun a σ => .val (a.get 43) σ,(some 9),fun _ => some true⟩]
def r7_5 : List COp:=r7_5U ()
def r7_6U (_ : Unit) : List COp:=[⟨fun a σ => fload (some 4) (a.get 4) σ,(some 45),fun _ => some true⟩,
  ⟨fun a σ => fload (some 4) (a.get 6) σ,(some 46),fun _ => some true⟩,
  ⟨fun a σ => .enter 36 [(a.get 45),(a.get 46)] σ,(some 47),fun _ => some true⟩,
  ⟨fun a σ => .val (a.get 47) σ,(some 44),fun _ => some true⟩,
  ⟨fun a σ => fextract 0 (a.get 44) σ,(some 48),fun _ => some true⟩,
  ⟨fun a σ => fextract 1 (a.get 44) σ,(some 49),fun _ => some true⟩,
  ⟨fun a σ => .val (a.get 48) σ,(some 10),fun _ => some true⟩,
  ⟨fun a σ => .val (a.get 49) σ,(some 11),fun _ => some true⟩]
def r7_6 : List COp:=r7_6U ()
def r7_7U (_ : Unit) : List COp:=[⟨fun a σ => .val (a.get 11) σ,(some 50),fun _ => some true⟩,
  ⟨fun a σ => i_neq Tryz.prog 32 (.tmp 50) (.const (.int .i64 0)) (a.get 50) (.int .i64 0) σ,(some 51),fun _ => some true⟩,
  ⟨fun a σ => .val (a.get 51) σ,(some 52),fun _ => some true⟩,
  ⟨fun a σ => .val (a.get 9) σ,(some 53),fun a => gd (a.get 52) false⟩,
  ⟨fun a σ => i_eql Tryz.prog 32 (.tmp 53) (.const (.int .i64 10)) (a.get 53) (.int .i64 10) σ,(some 54),fun a => gd (a.get 52) false⟩,
  ⟨fun a σ => .val (a.get 10) σ,(some 55),fun a => gd (a.get 52) false⟩,
  ⟨fun a σ => i_eql Tryz.prog 3 (.tmp 55) (.const (.int .i64 0)) (a.get 55) (.int .i64 0) σ,(some 56),fun a => gd (a.get 52) false⟩,
  ⟨fun a σ => i_neq Tryz.prog 4 (.tmp 54) (.tmp 56) (a.get 54) (a.get 56) σ,(some 57),fun a => gd (a.get 52) false⟩,
  ⟨fun a σ => fpick (a.get 52) (.bool true) (a.get 57) σ,(some 58),fun _ => some true⟩]
def r7_7 : List COp:=r7_7U ()
def r7_8U (_ : Unit) : List COp:=[⟨fun a σ => .val (.bool false) σ,(some 2),fun _ => some true⟩]
def r7_8 : List COp:=r7_8U ()
def r7_9U (_ : Unit) : List COp:=[⟨fun a σ => .val (a.get 9) σ,(some 59),fun _ => some true⟩,
  ⟨fun a σ => i_neq Tryz.prog 32 (.tmp 59) (.const (.int .i64 0)) (a.get 59) (.int .i64 0) σ,(some 60),fun _ => some true⟩]
def r7_9 : List COp:=r7_9U ()
def r7_10U (_ : Unit) : List COp:=[⟨fun a σ => .val (a.get 9) σ,(some 61),fun _ => some true⟩,
  ⟨fun a σ => i_eql Tryz.prog 32 (.tmp 61) (.const (.int .i64 10)) (a.get 61) (.int .i64 10) σ,(some 62),fun _ => some true⟩,
  ⟨fun a σ => .val (a.get 62) σ,(some 63),fun _ => some true⟩,
  ⟨fun a σ => fload (some 4) (a.get 4) σ,(some 64),fun a => gd (a.get 63) true⟩,
  ⟨fun a σ => fload (some 4) (a.get 6) σ,(some 65),fun a => gd (a.get 63) true⟩,
  ⟨fun a σ => .enter 20 [(a.get 64),(a.get 65)] σ,(some 66),fun a => gd (a.get 63) true⟩,
  ⟨fun a σ => fpick (a.get 63) (a.get 66) (.bool false) σ,(some 67),fun _ => some true⟩,
  ⟨fun a σ => .val (a.get 67) σ,(some 68),fun _ => some true⟩,
  ⟨fun a σ => .enter 21 [] σ,(some 69),fun a => gd (a.get 68) true⟩,
  ⟨fun a σ => fpick (a.get 68) (a.get 69) (.bool false) σ,(some 70),fun _ => some true⟩,
  ⟨fun a σ => .val (a.get 70) σ,(some 2),fun _ => some true⟩]
def r7_10 : List COp:=r7_10U ()
def r7_11U (_ : Unit) : List COp:=[⟨fun a σ => .val (.int .i64 0) σ,(some 12),fun _ => some true⟩]
def r7_11 : List COp:=r7_11U ()
def r7_12U (_ : Unit) : List COp:=[⟨fun a σ => .val (a.get 12) σ,(some 71),fun _ => some true⟩,
  ⟨fun a σ => .val (a.get 5) σ,(some 72),fun _ => some true⟩,
  ⟨fun a σ => flenL (a.get 72) σ,(some 73),fun _ => some true⟩,
  ⟨fun a σ => i_lss Tryz.prog 3 (.tmp 71) (.tmp 73) (a.get 71) (a.get 73) σ,(some 74),fun _ => some true⟩]
def r7_12 : List COp:=r7_12U ()
def r7_14U (_ : Unit) : List DOp:=[⟨fun a σ => fload (some 4) (a.get 4) σ,(some 78),fun _ => some true,(some 0),false⟩,
  ⟨fun a σ => .val (a.get 5) σ,(some 79),fun _ => some true,(some 0),false⟩,
  ⟨fun a σ => .val (a.get 12) σ,(some 80),fun _ => some true,(some 0),false⟩,
  ⟨fun a σ => findex (none,1) (a.get 79) (a.get 80) σ,(some 81),fun _ => some true,(some 0),false⟩,
  ⟨fun a σ => fload none (a.get 81) σ,(some 82),fun _ => some true,(some 0),false⟩,
  ⟨fun a σ => .enter 27 [(a.get 78),(a.get 82)] σ,(some 83),fun _ => some true,none,false⟩,
  ⟨fun a σ => .val (a.get 83) σ,(some 77),fun _ => some true,(some 1),false⟩,
  ⟨fun a σ => fextract 0 (a.get 77) σ,(some 84),fun _ => some true,(some 1),false⟩,
  ⟨fun a σ => newCells [(.int .i64 0),(.int .i64 0),(.string ⟨#[]⟩),(.slice none 0 0)] 28 none σ,(some 13),fun _ => some true,(some 0),false⟩,
  ⟨fun a σ => fstore 4 (a.get 13) (a.get 84) σ,none,fun _ => some true,none,false⟩,
  ⟨fun a σ => fextract 1 (a.get 77) σ,(some 85),fun _ => some true,(some 1),false⟩,
  ⟨fun a σ => .val (a.get 85) σ,(some 14),fun _ => some true,(some 2),false⟩]
def r7_14 : List DOp:=r7_14U ()
def r7_15U (_ : Unit) : List DOp:=[⟨fun a σ => fload (some 4) (a.get 6) σ,(some 87),fun _ => some true,(some 0),false⟩,
  ⟨fun a σ => .val (a.get 5) σ,(some 88),fun _ => some true,(some 0),false⟩,
  ⟨fun a σ => .val (a.get 12) σ,(some 89),fun _ => some true,(some 0),false⟩,
  ⟨fun a σ => findex (none,1) (a.get 88) (a.get 89) σ,(some 90),fun _ => some true,(some 0),false⟩,
  ⟨fun a σ => fload none (a.get 90) σ,(some 91),fun _ => some true,(some 0),false⟩,
  ⟨fun a σ => .enter 27 [(a.get 87),(a.get 91)] σ,(some 92),fun _ => some true,none,false⟩,
  ⟨fun a σ => .val (a.get 92) σ,(some 86),fun _ => some true,(some 1),false⟩,
  ⟨fun a σ => fextract 0 (a.get 86) σ,(some 93),fun _ => some true,(some 1),false⟩,
  ⟨fun a σ => newCells [(.int .i64 0),(.int .i64 0),(.string ⟨#[]⟩),(.slice none 0 0)] 28 none σ,(some 15),fun _ => some true,(some 0),false⟩,
  ⟨fun a σ => fstore 4 (a.get 15) (a.get 93) σ,none,fun _ => some true,none,false⟩,
  ⟨fun a σ => fextract 1 (a.get 86) σ,(some 94),fun _ => some true,(some 1),false⟩,
  ⟨fun a σ => .val (a.get 94) σ,(some 16),fun _ => some true,(some 2),false⟩]
def r7_15 : List DOp:=r7_15U ()
def r7_16U (_ : Unit) : List COp:=[⟨fun a σ => .val (a.get 5) σ,(some 95),fun _ => some true⟩,
  ⟨fun a σ => .val (a.get 12) σ,(some 96),fun _ => some true⟩,
  ⟨fun a σ => findex (none,1) (a.get 95) (a.get 96) σ,(some 97),fun _ => some true⟩,
  ⟨fun a σ => fload none (a.get 97) σ,(some 98),fun _ => some true⟩,
  ⟨fun a σ => .val (a.get 8) σ,(some 99),fun _ => some true⟩,
  ⟨fun a σ => .enter 29 [(a.get 98),(a.get 99)] σ,(some 100),fun _ => some true⟩]
def r7_16 : List COp:=r7_16U ()
def r7_17U (_ : Unit) : List COp:=[⟨fun a σ => .val (a.get 16) σ,(some 101),fun _ => some true⟩,
  ⟨fun a σ => .val (a.get 101) σ,(some 102),fun _ => some true⟩,
  ⟨fun a σ => fload (some 4) (a.get 13) σ,(some 103),fun a => gd (a.get 102) true⟩,
  ⟨fun a σ => fload (some 4) (a.get 15) σ,(some 104),fun a => gd (a.get 102) true⟩,
  ⟨fun a σ => .enter 37 [(a.get 103),(a.get 104)] σ,(some 105),fun a => gd (a.get 102) true⟩,
  ⟨fun a σ => fun1 Tryz.prog (Op.unary .not) (a.get 105) σ,(some 106),fun a => gd (a.get 102) true⟩,
  ⟨fun a σ => fpick (a.get 102) (a.get 106) (.bool false) σ,(some 107),fun _ => some true⟩,
  ⟨fun a σ => .val (a.get 107) σ,(some 108),fun _ => some true⟩,
  ⟨fun a σ => .enter 21 [] σ,(some 109),fun a => gd (a.get 108) true⟩,
  ⟨fun a σ => fpick (a.get 108) (a.get 109) (.bool false) σ,(some 110),fun _ => some true⟩,
  ⟨fun a σ => .val (a.get 110) σ,(some 2),fun _ => some true⟩]
def r7_17 : List COp:=r7_17U ()
def r7_18U (_ : Unit) : List COp:=[⟨fun a σ => .val (a.get 16) σ,(some 111),fun _ => some true⟩,
  ⟨fun a σ => fun1 Tryz.prog (Op.unary .not) (a.get 111) σ,(some 112),fun _ => some true⟩,
  ⟨fun a σ => .val (a.get 112) σ,(some 113),fun _ => some true⟩,
  ⟨fun a σ => fload (some 4) (a.get 13) σ,(some 114),fun a => gd (a.get 113) false⟩,
  ⟨fun a σ => fload (some 4) (a.get 15) σ,(some 115),fun a => gd (a.get 113) false⟩,
  ⟨fun a σ => .enter 37 [(a.get 114),(a.get 115)] σ,(some 116),fun a => gd (a.get 113) false⟩,
  ⟨fun a σ => fun1 Tryz.prog (Op.unary .not) (a.get 116) σ,(some 117),fun a => gd (a.get 113) false⟩,
  ⟨fun a σ => fpick (a.get 113) (.bool true) (a.get 117) σ,(some 118),fun _ => some true⟩]
def r7_18 : List COp:=r7_18U ()
def r7_19U (_ : Unit) : List COp:=[⟨fun a σ => .val (.bool false) σ,(some 2),fun _ => some true⟩]
def r7_19 : List COp:=r7_19U ()
def r7_13U (_ : Unit) : List COp:=[⟨fun a σ => .val (a.get 12) σ,(some 75),fun _ => some true⟩,
  ⟨fun a σ => i_add Tryz.prog 3 (.tmp 75) (.const (.int .i64 1)) (a.get 75) (.int .i64 1) σ,(some 76),fun _ => some true⟩,
  ⟨fun a σ => .val (a.get 76) σ,(some 12),fun _ => some true⟩]
def r7_13 : List COp:=r7_13U ()
def l7_0 (E : Env) (ro : Option Nat) (fn : FuncId) : RunF:=(seqR (seqR (fops E ro r7_12) (condR (fun a => (a.get 74)) skipR (exitR 0))) (seqR (blockR 1 (seqR (drawR E ro r7_14) (seqR (drawR E ro r7_15) (seqR (seqR (fops E ro r7_16) (condR (fun a => (a.get 100)) (seqR (fops E ro r7_17) retR) skipR)) (seqR (fops E ro r7_18) (condR (fun a => (a.get 118)) (seqR (fops E ro r7_19) retR) skipR)))))) (fops E ro r7_13)))
def r7_20U (_ : Unit) : List COp:=[⟨fun a σ => .val (.bool false) σ,(some 2),fun _ => some true⟩]
def r7_20 : List COp:=r7_20U ()
def run7 (E : Env) (ro : Option Nat) (fn : FuncId) : RunF:=(seqR (fops E ro r7_0) (seqR (fops E ro r7_1) (seqR (fops E ro r7_2) (seqR (fops E ro r7_3) (seqR (drawR E ro r7_4) (seqR (fops E ro r7_5) (seqR (fops E ro r7_6) (seqR (seqR (fops E ro r7_7) (condR (fun a => (a.get 58)) (seqR (fops E ro r7_8) retR) skipR)) (seqR (seqR (fops E ro r7_9) (condR (fun a => (a.get 60)) (seqR (fops E ro r7_10) retR) skipR)) (seqR (seqR (fops E ro r7_11) (blockR 0 (loopR (keepOf nls fn) (l7_0 E ro fn)))) (seqR (fops E ro r7_20) retR)))))))))))
theorem r7_0_go : fops E ro r7_0 a u σ = fops E ro (r7_0U ()) a u σ:=rfl
theorem r7_1_go : fops E ro r7_1 a u σ = fops E ro (r7_1U ()) a u σ:=rfl
theorem r7_2_go : fops E ro r7_2 a u σ = fops E ro (r7_2U ()) a u σ:=rfl
theorem r7_3_go : fops E ro r7_3 a u σ = fops E ro (r7_3U ()) a u σ:=rfl
theorem r7_4_go : fdraw E ro last r7_4 cl a u σ = fdraw E ro last (r7_4U ()) cl a u σ:=rfl
theorem r7_5_go : fops E ro r7_5 a u σ = fops E ro (r7_5U ()) a u σ:=rfl
theorem r7_6_go : fops E ro r7_6 a u σ = fops E ro (r7_6U ()) a u σ:=rfl
theorem r7_7_go : fops E ro r7_7 a u σ = fops E ro (r7_7U ()) a u σ:=rfl
theorem r7_9_go : fops E ro r7_9 a u σ = fops E ro (r7_9U ()) a u σ:=rfl
theorem r7_10_go : fops E ro r7_10 a u σ = fops E ro (r7_10U ()) a u σ:=rfl
theorem r7_11_go : fops E ro r7_11 a u σ = fops E ro (r7_11U ()) a u σ:=rfl
theorem r7_12_go : fops E ro r7_12 a u σ = fops E ro (r7_12U ()) a u σ:=rfl
theorem r7_14_go : fdraw E ro last r7_14 cl a u σ = fdraw E ro last (r7_14U ()) cl a u σ:=rfl
theorem r7_15_go : fdraw E ro last r7_15 cl a u σ = fdraw E ro last (r7_15U ()) cl a u σ:=rfl
theorem r7_16_go : fops E ro r7_16 a u σ = fops E ro (r7_16U ()) a u σ:=rfl
theorem r7_17_go : fops E ro r7_17 a u σ = fops E ro (r7_17U ()) a u σ:=rfl
theorem r7_18_go : fops E ro r7_18 a u σ = fops E ro (r7_18U ()) a u σ:=rfl
theorem r7_13_go : fops E ro r7_13 a u σ = fops E ro (r7_13U ()) a u σ:=rfl
theorem code7 (E : Env) (ro : Option Nat) (fn : FuncId) : code Tryz.prog nls (Tryz.f7.body.getD .skip) E ro fn = run7 E ro fn:=by kernel_rfl
theorem enter7 (E : Env) (args : List Value) (u : Option FrameMode) (σ : FState) (hn : args.length ≤ (17 : Nat)) : fcall Tryz.prog nls E 7 args u σ = leaveR Tryz.prog E [.tmp 2] (run7 E none 7 ⟨padTo undef 17 args,fun _ => undef,17,119,[]⟩ u σ):=by
  rw [fcall_of (body:=Tryz.f7.body.getD .skip) Tryz.func7 rfl E args u σ 17 119 (by kernel_rfl) rfl ⟨hn,by decide⟩,code7]
  rfl
end Go.Proofs.YtodkeaoikjjneaaGreatDoor
/- DatumApart: from the two calls on. -/
namespace Go.Proofs.YtodkeaoikjjneaaGreatDoor
open Go Go.Eng
attribute [local congr] andThen_congr fops_congr fdraw_congr afterOp_congr drawF_congr
attribute [-go_sem] List.range_succ
theorem neqB (x y : Operand) (a b : Bool) (σ : FState) : i_neq Tryz.prog 4 x y (.bool a) (.bool b) σ = .val (.bool (a != b)) σ:=by
  cases a <;> cases b <;> kernel_rfl
theorem apart_round (q b4 b6 i : Nat) (d e xi yi : D) (pi path : List Nat) (lv mv : List Value) (h4 : lv.length = 4) (hm4 : mv.length = 4) (us : List Value) (ba : Nat) (u uv : Value) (f g : Nat → Value) (σ : FState) (hdc : d.count < 2000) (hec : e.count < 2000) (hp1 : pi.length < 1000)
    (hw : Wf σ) (c4 : σ.cells b4 = some lv) (c6 : σ.cells b6 = some mv) (ca : σ.cells ba = some us) (hL : LaidR (fun b => b < σ.next) σ (.agg lv.toArray) d) (hLe : LaidR (fun b => b < σ.next) σ (.agg mv.toArray) e) (hu : us[i]? = some u) (hPu : PathV (fun _ => True) σ u pi) (hP : PathV (fun _ => True) σ uv path) (hat1 : atP pi d = some xi) (hat2 : atP pi e = some yi)
    (f4 : f 4 = .pointer (some ⟨b4,0,none⟩)) (f6 : f 6 = .pointer (some ⟨b6,0,none⟩)) (f5 : f 5 = .slice (some ⟨ba,0,none⟩) us.length us.length) (f8 : f 8 = uv) (f12 : f 12 = .int .i64 (.ofNat i)) (hi : i < 100000)
    (hcase : (pi ≠ path ∧ likeD xi yi = true) ∨ (pi = path ∧ likeD xi yi = false)) :
    ∃ f' g' σ',Ext σ σ' ∧ Wf σ' ∧ ((pi ≠ path ∧ l7_0 (top (q + 40)) none 7 (Sl 17 119 f g []) none σ = .done .normal (Sl 17 119 f' g' []) none σ' ∧ f' 4 = f 4 ∧ f' 5 = f 5 ∧ f' 6 = f 6 ∧ f' 8 = f 8 ∧ f' 12 = .int .i64 (.ofNat (i + 1))) ∨
      (pi = path ∧ l7_0 (top (q + 40)) none 7 (Sl 17 119 f g []) none σ = .done .ret (Sl 17 119 f' g' []) none σ' ∧ f' 2 = .bool true)):=by
  have hul : i < us.length:=(List.getElem?_eq_some_iff.1 hu).1
  have ht : lv.take 4 = lv:=List.take_of_length_le (by omega)
  have htm : mv.take 4 = mv:=List.take_of_length_le (by omega)
  have d0 : decide (Int.ofNat i < Int.ofNat us.length) = true:=by simp; omega
  obtain ⟨_,σ2,e2,x2,hw2,v1,rfl,hL1⟩:=part_go (q + 38) hw hL hPu (by omega) (by omega) hat1
  have e2' : (top (q + 40)).call 27 [.agg lv.toArray,u] none σ = _:=(top_call _ _ _ _ rfl).trans e2
  obtain ⟨k1,z1,t1,ps1⟩:=xi
  obtain ⟨k2,z2,t2,ps2⟩:=yi
  obtain ⟨p1,c1,rfl,hE1⟩:=hL1
  have x3 : Ext σ2 ((σ2.push (.cells [.int .i64 0,.int .i64 0,.string ⟨#[]⟩,.slice none 0 0] TD) none).put σ2.next (.cells [.int .i64 k1,.int .i64 z1,.string t1,.slice p1 ps1.length c1] TD) none):=((Ext.refl _).push _ _).put _ _ _ (Nat.le_refl _)
  have hw3:=(hw2.push (.cells [.int .i64 0,.int .i64 0,.string ⟨#[]⟩,.slice none 0 0] TD) none).put σ2.next (.cells [.int .i64 k1,.int .i64 z1,.string t1,.slice p1 ps1.length c1] TD) none (Nat.lt_succ_self _)
  have b3 : ((σ2.push (.cells [.int .i64 0,.int .i64 0,.string ⟨#[]⟩,.slice none 0 0] TD) none).put σ2.next (.cells [.int .i64 k1,.int .i64 z1,.string t1,.slice p1 ps1.length c1] TD) none).cells σ2.next = some [.int .i64 k1,.int .i64 z1,.string t1,.slice p1 ps1.length c1]:=by rw [cells_put,if_pos rfl]; rfl
  have hv:=view_wf hw (Nat.le_refl σ.clock)
  have hcl : ((σ2.push (.cells [.int .i64 0,.int .i64 0,.string ⟨#[]⟩,.slice none 0 0] TD) none).put σ2.next (.cells [.int .i64 k1,.int .i64 z1,.string t1,.slice p1 ps1.length c1] TD) none).clock = σ2.clock + 2:=rfl
  unfold l7_0
  simp -implicitDefEqProofs only [go_sem,↓reduceIte,Nat.reduceLT,Nat.reduceEqDiff,Nat.reduceAdd,Nat.reduceMul,Nat.reduceLeDiff,Nat.reduceSub,fstoreN,r7_12_go,r7_12U,r7_14_go,r7_14U,f4,f5,f6,f8,f12,d0,hv,c4,ca,h4,ht,hul,hu,e2',skipR_go,Nat.le_refl]
  generalize hff : upd _ 14 _ = f1
  generalize hgg : upd _ 85 _ = g1
  have q4 : f1 4 = .pointer (some ⟨b4,0,none⟩):=by rw [← hff]; simp -implicitDefEqProofs only [upd_go,kept_go,↓reduceIte,Nat.reduceEqDiff,Nat.reduceLT,reduceCtorEq,f4]
  have q6 : f1 6 = .pointer (some ⟨b6,0,none⟩):=by rw [← hff]; simp -implicitDefEqProofs only [upd_go,kept_go,↓reduceIte,Nat.reduceEqDiff,Nat.reduceLT,reduceCtorEq,f6]
  have q5 : f1 5 = .slice (some ⟨ba,0,none⟩) us.length us.length:=by rw [← hff]; simp -implicitDefEqProofs only [upd_go,kept_go,↓reduceIte,Nat.reduceEqDiff,Nat.reduceLT,reduceCtorEq,f5]
  have q8 : f1 8 = uv:=by rw [← hff]; simp -implicitDefEqProofs only [upd_go,kept_go,↓reduceIte,Nat.reduceEqDiff,Nat.reduceLT,reduceCtorEq,f8]
  have q12 : f1 12 = .int .i64 (.ofNat i):=by rw [← hff]; simp -implicitDefEqProofs only [upd_go,kept_go,↓reduceIte,Nat.reduceEqDiff,Nat.reduceLT,reduceCtorEq,f12]
  have q13 : f1 13 = .pointer (some ⟨σ2.next,0,none⟩):=by rw [← hff]; simp -implicitDefEqProofs only [upd_go,kept_go,↓reduceIte,Nat.reduceEqDiff,Nat.reduceLT,reduceCtorEq]
  clear hff hgg
  generalize FState.put _ _ _ _ = σ3 at x3 hw3 b3 hcl ⊢
  have X3:=x2.trans x3
  have k3 : ∀ b cs,σ.cells b = some cs → σ3.cells b = some cs:=fun b cs hc => (X3.cells (hw.cells hc)).trans hc
  have n3:=X3.next
  obtain ⟨_,σ4,e4,x4,hw4,v2,rfl,hL2⟩:=part_go (q + 38) hw3 (hLe.keep fun b cs hb hc => ⟨k3 b cs hc,hb⟩) (hPu.keep (Q':=fun _ => True) fun b c _ hc => ⟨k3 b c hc,trivial⟩) (by omega) (by omega) hat2
  have e4' : (top (q + 40)).call 27 [.agg mv.toArray,u] none σ3 = _:=(top_call _ _ _ _ rfl).trans e4
  obtain ⟨p2,c2,rfl,hE2⟩:=hL2
  have x5 : Ext σ4 ((σ4.push (.cells [.int .i64 0,.int .i64 0,.string ⟨#[]⟩,.slice none 0 0] TD) none).put σ4.next (.cells [.int .i64 k2,.int .i64 z2,.string t2,.slice p2 ps2.length c2] TD) none):=((Ext.refl _).push _ _).put _ _ _ (Nat.le_refl _)
  have hw5:=(hw4.push (.cells [.int .i64 0,.int .i64 0,.string ⟨#[]⟩,.slice none 0 0] TD) none).put σ4.next (.cells [.int .i64 k2,.int .i64 z2,.string t2,.slice p2 ps2.length c2] TD) none (Nat.lt_succ_self _)
  have b5 : ((σ4.push (.cells [.int .i64 0,.int .i64 0,.string ⟨#[]⟩,.slice none 0 0] TD) none).put σ4.next (.cells [.int .i64 k2,.int .i64 z2,.string t2,.slice p2 ps2.length c2] TD) none).cells σ4.next = some [.int .i64 k2,.int .i64 z2,.string t2,.slice p2 ps2.length c2]:=by rw [cells_put,if_pos rfl]; rfl
  have hv3:=view_wf (lam:=σ2.clock + 2) hw3 (Nat.le_of_eq hcl)
  have ca3:=k3 _ _ ca
  have c63:=k3 _ _ c6
  simp -implicitDefEqProofs only [go_sem,↓reduceIte,Nat.reduceLT,Nat.reduceEqDiff,Nat.reduceAdd,Nat.reduceMul,Nat.reduceLeDiff,Nat.reduceSub,fstoreN,r7_15_go,r7_15U,q5,q6,q12,hv3,c63,ca3,hm4,htm,hul,hu,e4',skipR_go,Nat.le_refl]
  generalize hff : upd _ 16 _ = f2
  generalize hgg : upd _ 94 _ = g2
  have r4 : f2 4 = .pointer (some ⟨b4,0,none⟩):=by rw [← hff]; simp -implicitDefEqProofs only [upd_go,kept_go,↓reduceIte,Nat.reduceEqDiff,Nat.reduceLT,reduceCtorEq,q4]
  have r6 : f2 6 = .pointer (some ⟨b6,0,none⟩):=by rw [← hff]; simp -implicitDefEqProofs only [upd_go,kept_go,↓reduceIte,Nat.reduceEqDiff,Nat.reduceLT,reduceCtorEq,q6]
  have r5 : f2 5 = .slice (some ⟨ba,0,none⟩) us.length us.length:=by rw [← hff]; simp -implicitDefEqProofs only [upd_go,kept_go,↓reduceIte,Nat.reduceEqDiff,Nat.reduceLT,reduceCtorEq,q5]
  have r8 : f2 8 = uv:=by rw [← hff]; simp -implicitDefEqProofs only [upd_go,kept_go,↓reduceIte,Nat.reduceEqDiff,Nat.reduceLT,reduceCtorEq,q8]
  have r12 : f2 12 = .int .i64 (.ofNat i):=by rw [← hff]; simp -implicitDefEqProofs only [upd_go,kept_go,↓reduceIte,Nat.reduceEqDiff,Nat.reduceLT,reduceCtorEq,q12]
  have r13 : f2 13 = .pointer (some ⟨σ2.next,0,none⟩):=by rw [← hff]; simp -implicitDefEqProofs only [upd_go,kept_go,↓reduceIte,Nat.reduceEqDiff,Nat.reduceLT,reduceCtorEq,q13]
  have r15 : f2 15 = .pointer (some ⟨σ4.next,0,none⟩):=by rw [← hff]; simp -implicitDefEqProofs only [upd_go,kept_go,↓reduceIte,Nat.reduceEqDiff,Nat.reduceLT,reduceCtorEq]
  have r16 : f2 16 = .bool true:=by rw [← hff]; simp -implicitDefEqProofs only [upd_go,kept_go,↓reduceIte,Nat.reduceEqDiff,Nat.reduceLT,reduceCtorEq]
  clear hff hgg
  generalize FState.put _ σ4.next _ _ = σ5 at x5 hw5 b5 ⊢
  have X5:=(X3.trans x4).trans x5
  have k5 : ∀ b cs,σ.cells b = some cs → σ5.cells b = some cs:=fun b cs hc => (X5.cells (hw.cells hc)).trans hc
  have b35:=((x4.trans x5).cells (hw3.cells b3)).trans b3
  have ca5:=k5 _ _ ca
  have e6:=eqInts_go (q + 39) (σ:=σ5) hw5 (by omega) (hPu.keep (Q':=fun _ => True) fun b c _ hc => ⟨k5 b c hc,trivial⟩) (hP.keep (Q':=fun _ => True) fun b c _ hc => ⟨k5 b c hc,trivial⟩)
  have e6' : (top (q + 40)).call 29 [u,uv] none σ5 = _:=(top_call _ _ _ _ rfl).trans e6
  obtain ⟨_,σ7,e7,x7,hw7,rfl⟩:=alikeR_go (q + 39) k1 z1 k2 z2 t1 t2 p1 p2 ps1.length ps2.length c1 c2 σ5 hw5
  have e7' : (top (q + 40)).call 37 [.agg #[.int .i64 k1,.int .i64 z1,.string t1,.slice p1 ps1.length c1],.agg #[.int .i64 k2,.int .i64 z2,.string t2,.slice p2 ps2.length c2]] none σ5 = _:=(top_call _ _ _ _ rfl).trans e7
  have hlk : ((k1 == k2) && (z1 == z2) && (t1.toList == t2.toList) && (Int.ofNat ps1.length == Int.ofNat ps2.length)) = likeD (.mk k1 z1 t1 ps1) (.mk k2 z2 t2 ps2):=rfl
  rw [hlk] at e7'
  have a1:=add1 i (by omega)
  rcases hcase with ⟨hne,hl⟩ | ⟨heq,hl⟩
  · rw [hl] at e7'
    have dn : decide (pi = path) = false:=by simpa using hne
    simp -implicitDefEqProofs only [go_sem,↓reduceIte,Nat.reduceLT,Nat.reduceEqDiff,Nat.reduceAdd,Nat.reduceMul,Nat.reduceLeDiff,Nat.reduceSub,r7_16_go,r7_16U,r7_18_go,r7_18U,r7_13_go,r7_13U,r5,r8,r12,r13,r15,r16,ca5,hul,hu,e6',dn,b35,b5,e7',a1,skipR_go]
    refine ⟨_,_,_,X5.trans x7,hw7,.inl ⟨hne,rfl,?_,?_,?_,?_,?_⟩⟩
    · simp -implicitDefEqProofs only [upd_go,kept_go,↓reduceIte,Nat.reduceEqDiff,Nat.reduceLT,reduceCtorEq,r4,f4]
    · simp -implicitDefEqProofs only [upd_go,kept_go,↓reduceIte,Nat.reduceEqDiff,Nat.reduceLT,reduceCtorEq,r5,f5]
    · simp -implicitDefEqProofs only [upd_go,kept_go,↓reduceIte,Nat.reduceEqDiff,Nat.reduceLT,reduceCtorEq,r6,f6]
    · simp -implicitDefEqProofs only [upd_go,kept_go,↓reduceIte,Nat.reduceEqDiff,Nat.reduceLT,reduceCtorEq,r8,f8]
    · simp -implicitDefEqProofs only [upd_go,kept_go,↓reduceIte,Nat.reduceEqDiff,Nat.reduceLT,reduceCtorEq]
  · rw [hl] at e7'
    have dn : decide (pi = path) = true:=by simpa using heq
    simp -implicitDefEqProofs only [go_sem,↓reduceIte,Nat.reduceLT,Nat.reduceEqDiff,Nat.reduceAdd,Nat.reduceMul,Nat.reduceLeDiff,Nat.reduceSub,r7_16_go,r7_16U,r7_17_go,r7_17U,r5,r8,r12,r13,r15,r16,ca5,hul,hu,e6',dn,b35,b5,e7',top_looks,skipR_go]
    exact ⟨_,_,_,X5.trans x7,hw7,.inr ⟨heq,rfl,by simp -implicitDefEqProofs only [upd_go,kept_go,↓reduceIte,Nat.reduceEqDiff,Nat.reduceLT,reduceCtorEq]⟩⟩
end Go.Proofs.YtodkeaoikjjneaaGreatDoor
/- DatumApart: the law from the two calls on. -/
namespace Go.Proofs.YtodkeaoikjjneaaGreatDoor
open Go Go.Eng
attribute [local congr] andThen_congr fops_congr fdraw_congr afterOp_congr drawF_congr
attribute [-go_sem] List.range_succ
theorem apart_loop (q : Nat) (b4 b6 : Nat) (d e : D) (lv mv : List Value) (h4 : lv.length = 4) (hm4 : mv.length = 4) (us : List Value) (ba : Nat) (uv : Value) (path : List Nat) (pre pre' rest rest' : List (List Nat × D)) (x y : D) (hA : d.pieces [] = pre ++ (path,x) :: rest) (hB : e.pieces [] = pre' ++ (path,y) :: rest') (hag : Agree pre pre') (hxy : likeD x y = false)
    (hdc : d.count < 2000) (hec : e.count < 2000) (hpl : ∀ z ∈ d.pieces [],z.1.length < 1000) (hsm : pre.length < 90000) :
    ∀ (j fuel i : Nat) (f g : Nat → Value) (σ : FState),pre.length - i = j → j < fuel → i ≤ pre.length → Wf σ → σ.cells b4 = some lv → σ.cells b6 = some mv → σ.cells ba = some us → LaidR (fun b => b < σ.next) σ (.agg lv.toArray) d → LaidR (fun b => b < σ.next) σ (.agg mv.toArray) e → PathsL (fun _ => True) σ us ((d.pieces []).map (·.1)) → PathV (fun _ => True) σ uv path →
      f 4 = .pointer (some ⟨b4,0,none⟩) → f 6 = .pointer (some ⟨b6,0,none⟩) → f 5 = .slice (some ⟨ba,0,none⟩) us.length us.length → f 8 = uv → f 12 = .int .i64 (.ofNat i) →
      ∃ f' g' σ',floop [] (l7_0 (top (q + 40)) none 7) fuel (Sl 17 119 f g []) none σ = .done .ret (Sl 17 119 f' g' []) none σ' ∧ f' 2 = .bool true:=by
  intro j
  induction j with
  | zero =>
    intro fuel i f g σ hj hf hi hw c4 c6 ca hL hLe hPs hP f4 f6 f5 f8 f12
    obtain ⟨fuel,rfl⟩ : ∃ q,fuel = q + 1:=⟨fuel - 1,by omega⟩
    obtain rfl : i = pre.length:=by omega
    have hAi : (d.pieces [])[pre.length]? = some (path,x):=by rw [hA,List.getElem?_append_right (Nat.le_refl _),Nat.sub_self]; rfl
    have hBi : (e.pieces [])[pre.length]? = some (path,y):=by rw [hB,hag.1,List.getElem?_append_right (Nat.le_refl _),Nat.sub_self]; rfl
    obtain ⟨r1,hr1,hat1⟩:=pieces_at d [] _ (List.mem_of_getElem? hAi)
    obtain ⟨r2,hr2,hat2⟩:=pieces_at e [] _ (List.mem_of_getElem? hBi)
    rw [List.nil_append] at hr1 hr2
    rw [← hr1] at hat1
    rw [← hr2] at hat2
    obtain ⟨u,hu,hPu⟩:=hPs.get (i:=pre.length) (p:=path) (by rw [List.getElem?_map,hAi]; rfl)
    obtain ⟨f',g',σ',X,hw',h⟩:=apart_round q b4 b6 pre.length d e x y path path lv mv h4 hm4 us ba u uv f (kept [] g) σ hdc hec (hpl _ (List.mem_of_getElem? hAi)) hw c4 c6 ca hL hLe hu hPu hP hat1 hat2 f4 f6 f5 f8 f12 (by omega) (.inr ⟨rfl,hxy⟩)
    rcases h with ⟨h,_⟩ | ⟨_,h,h2⟩
    · exact absurd rfl h
    · rw [floop_step,Sl_forget,h,andThen_ret]
      exact ⟨f',g',σ',rfl,h2⟩
  | succ j ih =>
    intro fuel i f g σ hj hf hi hw c4 c6 ca hL hLe hPs hP f4 f6 f5 f8 f12
    obtain ⟨fuel,rfl⟩ : ∃ q,fuel = q + 1:=⟨fuel - 1,by omega⟩
    have hip : i < pre.length:=by omega
    have hgi : pre[i]? = some pre[i]:=List.getElem?_eq_getElem hip
    obtain ⟨yb,hyb,hpe,hlk⟩:=hag.2 i pre[i] hgi
    have hAi : (d.pieces [])[i]? = some pre[i]:=by rw [hA,List.getElem?_append_left hip]; exact hgi
    have hBi : (e.pieces [])[i]? = some yb:=by rw [hB,List.getElem?_append_left (by rw [← hag.1]; exact hip)]; exact hyb
    obtain ⟨r1,hr1,hat1⟩:=pieces_at d [] _ (List.mem_of_getElem? hAi)
    obtain ⟨r2,hr2,hat2⟩:=pieces_at e [] _ (List.mem_of_getElem? hBi)
    rw [List.nil_append] at hr1 hr2
    rw [← hr1] at hat1
    rw [← hr2,← hpe] at hat2
    obtain ⟨u,hu,hPu⟩:=hPs.get (i:=i) (p:=pre[i].1) (by rw [List.getElem?_map,hAi]; rfl)
    have hne : pre[i].1 ≠ path:=by
      have h:=pieces_nodup [] d
      rw [hA] at h
      exact (List.pairwise_append.1 h).2.2 _ (List.getElem_mem hip) (path,x) List.mem_cons_self
    obtain ⟨f',g',σ',X,hw',h⟩:=apart_round q b4 b6 i d e pre[i].2 yb.2 pre[i].1 path lv mv h4 hm4 us ba u uv f (kept [] g) σ hdc hec (hpl _ (List.mem_of_getElem? hAi)) hw c4 c6 ca hL hLe hu hPu hP hat1 hat2 f4 f6 f5 f8 f12 (by omega) (.inl ⟨hne,hlk⟩)
    rcases h with ⟨_,h,h4',h5',h6',h8',h12'⟩ | ⟨h,_⟩
    · rw [floop_step,Sl_forget,h,andThen_normal]
      have kk : ∀ b cs,σ.cells b = some cs → σ'.cells b = some cs:=fun b cs hc => (X.cells (hw.cells hc)).trans hc
      have nX:=X.next
      exact ih fuel (i + 1) f' g' σ' (by omega) (by omega) (by omega) hw' (kk _ _ c4) (kk _ _ c6) (kk _ _ ca) (hL.keep fun b cs hb hc => ⟨kk b cs hc,by omega⟩) (hLe.keep fun b cs hb hc => ⟨kk b cs hc,by omega⟩) (hPs.keep fun b c _ hc => ⟨kk b c hc,trivial⟩) (hP.keep fun b c _ hc => ⟨kk b c hc,trivial⟩) (h4'.trans f4) (h6'.trans f6) (h5'.trans f5) (h8'.trans f8) h12'
    · exact absurd h hne
def restA (E : Env) (ro : Option Nat) (fn : FuncId) : RunF:=seqR (fops E ro r7_5) (seqR (fops E ro r7_6) (seqR (seqR (fops E ro r7_7) (condR (fun a => a.get 58) (seqR (fops E ro r7_8) retR) skipR)) (seqR (seqR (fops E ro r7_9) (condR (fun a => a.get 60) (seqR (fops E ro r7_10) retR) skipR)) (seqR (seqR (fops E ro r7_11) (blockR 0 (loopR (keepOf nls fn) (l7_0 E ro fn)))) (seqR (fops E ro r7_20) retR)))))
theorem run_restA (E : Env) (ro : Option Nat) (fn : FuncId) : run7 E ro fn = seqR (fops E ro r7_0) (seqR (fops E ro r7_1) (seqR (fops E ro r7_2) (seqR (fops E ro r7_3) (seqR (drawR E ro r7_4) (restA E ro fn))))):=rfl
theorem apart_rest (q b4 b6 : Nat) (d e : D) (hd : Apart (q + 31) d) (he : Apart (q + 31) e) (hdd : d.deep ≤ 9) (hed : e.deep ≤ 9) (lv mv : List Value) (h4 : lv.length = 4) (hm4 : mv.length = 4) (us : List Value) (ba : Nat) (f g : Nat → Value) (σ : FState)
    (hw : Wf σ) (c4 : σ.cells b4 = some lv) (c6 : σ.cells b6 = some mv) (ca : σ.cells ba = some us) (hL : LaidR (fun b => b < σ.next) σ (.agg lv.toArray) d) (hLe : LaidR (fun b => b < σ.next) σ (.agg mv.toArray) e) (hPs : PathsL (fun _ => True) σ us ((d.pieces []).map (·.1)))
    (f4 : f 4 = .pointer (some ⟨b4,0,none⟩)) (f6 : f 6 = .pointer (some ⟨b6,0,none⟩)) (f5 : f 5 = .slice (some ⟨ba,0,none⟩) us.length us.length) :
    ∃ σ',leaveR Tryz.prog (top (q + 40)) [.tmp 2] (restA (top (q + 40)) none 7 (Sl 17 119 f g []) none σ) = .ret (.bool true) none σ':=by
  have ht : lv.take 4 = lv:=List.take_of_length_le (by omega)
  have htm : mv.take 4 = mv:=List.take_of_length_le (by omega)
  unfold restA
  rcases pieces_split [] d e with hde | ⟨pre,pre',path,x,y,ra,rb,hA,hB,hag,hxy⟩
  · subst hde
    obtain ⟨_,σ2,e2,x2,hw2,rfl⟩:=differ_same (q + 31) d d hd hd lv mv h4 hm4 σ hw hL hLe rfl (fun i x hx => ⟨x.2,by rw [List.getElem?_map,hx]; rfl,likeD_self _⟩)
    have e2' : (top (q + 40)).call 35 [.agg lv.toArray,.agg mv.toArray] none σ = _:=(top_call _ _ _ _ rfl).trans e2
    have n2:=x2.next
    have k2 : ∀ b cs,σ.cells b = some cs → σ2.cells b = some cs:=fun b cs hc => (x2.cells (hw.cells hc)).trans hc
    obtain ⟨_,σ3,e3,x3,hw3,z,rfl,hz⟩:=compare_go (q + 31) (q + 3) 9 (by omega) d d hd hd hdd lv mv h4 hm4 σ2 hw2 (hL.keep fun b cs hb hc => ⟨k2 b cs hc,by omega⟩) (hLe.keep fun b cs hb hc => ⟨k2 b cs hc,by omega⟩)
    have e3' : (top (q + 40)).call 36 [.agg lv.toArray,.agg mv.toArray] none σ2 = _:=(top_call _ _ _ _ rfl).trans e3
    obtain rfl : z = 0:=hz.2 rfl
    have k3 : ∀ b cs,σ.cells b = some cs → σ3.cells b = some cs:=fun b cs hc => (x3.cells (hw2.cells (k2 b cs hc))).trans (k2 b cs hc)
    obtain ⟨_,σ4,e4,x4,hw4,rfl⟩:=eqDatum_go (q + 22) 9 d d (.agg lv.toArray) (.agg mv.toArray) σ3 hdd (by have:=hd.count; omega) hw3 (LaidR.laid (hL.keep fun b cs hb hc => ⟨k3 b cs hc,hb⟩)) (LaidR.laid (hLe.keep fun b cs hb hc => ⟨k3 b cs hc,hb⟩))
    rw [same_self] at e4
    have e4' : (top (q + 40)).call 20 [.agg lv.toArray,.agg mv.toArray] none σ3 = _:=(top_call _ _ _ _ rfl).trans e4
    have c42:=k2 _ _ c4
    have c62:=k2 _ _ c6
    have c43:=k3 _ _ c4
    have c63:=k3 _ _ c6
    have z0 : ((0 : Int) == 0) = true:=rfl
    have z1 : ((10 : Int) == 10) = true:=rfl
    have z2 : ((10 : Int) == 0) = false:=rfl
    have bt : (true != true) = false:=rfl
    simp -implicitDefEqProofs only [go_sem,↓reduceIte,Nat.reduceLT,Nat.reduceEqDiff,Nat.reduceAdd,Nat.reduceMul,Nat.reduceLeDiff,Nat.reduceSub,r7_5_go,r7_5U,r7_6_go,r7_6U,r7_7_go,r7_7U,r7_9_go,r7_9U,r7_10_go,r7_10U,f4,f6,c4,c6,c42,c62,c43,c63,h4,hm4,ht,htm,e2',e3',e4',z0,z1,z2,neqB,bt,top_looks,skipR_go,Nat.le_refl,List.getElem?_cons_zero,List.getElem?_cons_succ]
    exact ⟨_,rfl⟩
  · have hne : d ≠ e:=fun h => by
      subst h
      rw [hA] at hB
      have h1:=(List.append_inj hB hag.1).2
      injection h1 with h2 h3
      injection h2 with h4 h5
      rw [h5,likeD_self] at hxy
      cases hxy
    have hyi : ((e.pieces []).map (·.2))[pre.length]? = some y:=by rw [List.getElem?_map,hB,hag.1,List.getElem?_append_right (Nat.le_refl _),Nat.sub_self]; rfl
    have hlike : ∀ (i : Nat) (x : List Nat × D),i < pre.length → (d.pieces [])[i]? = some x → ∃ y,((e.pieces []).map (·.2))[i]? = some y ∧ likeD x.2 y = true:=fun i x hi hx => by
      rw [hA,List.getElem?_append_left hi] at hx
      obtain ⟨b,hb1,hb2,hb3⟩:=hag.2 i x hx
      exact ⟨b.2,by rw [List.getElem?_map,hB,List.getElem?_append_left (by rw [← hag.1]; exact hi),hb1]; rfl,hb3⟩
    obtain ⟨_,σ2,e2,x2,hw2,uv,rfl,hP2⟩:=differ_apart (q + 31) d e hd he lv mv h4 hm4 σ hw hL hLe pre ra path x y hA hyi hxy hlike
    have e2' : (top (q + 40)).call 35 [.agg lv.toArray,.agg mv.toArray] none σ = _:=(top_call _ _ _ _ rfl).trans e2
    have n2:=x2.next
    have k2 : ∀ b cs,σ.cells b = some cs → σ2.cells b = some cs:=fun b cs hc => (x2.cells (hw.cells hc)).trans hc
    obtain ⟨_,σ3,e3,x3,hw3,z,rfl,hz⟩:=compare_go (q + 31) (q + 3) 9 (by omega) d e hd he hdd lv mv h4 hm4 σ2 hw2 (hL.keep fun b cs hb hc => ⟨k2 b cs hc,by omega⟩) (hLe.keep fun b cs hb hc => ⟨k2 b cs hc,by omega⟩)
    have e3' : (top (q + 40)).call 36 [.agg lv.toArray,.agg mv.toArray] none σ2 = _:=(top_call _ _ _ _ rfl).trans e3
    have hz0 : (z == 0) = false:=by simp; exact fun h => hne (hz.1 h)
    have n3:=x3.next
    have k3 : ∀ b cs,σ.cells b = some cs → σ3.cells b = some cs:=fun b cs hc => (x3.cells (hw2.cells (k2 b cs hc))).trans (k2 b cs hc)
    have c42:=k2 _ _ c4
    have c62:=k2 _ _ c6
    have z0 : ((0 : Int) == 0) = true:=rfl
    have z1 : ((0 : Int) == 10) = false:=rfl
    have bt : (false != false) = false:=rfl
    have hkeep : keepOf nls 7 = []:=by kernel_rfl
    have hfew:=hd.few
    have hpre : pre.length < 900:=by rw [hA] at hfew; simp at hfew; omega
    simp -implicitDefEqProofs only [go_sem,↓reduceIte,Nat.reduceLT,Nat.reduceEqDiff,Nat.reduceAdd,Nat.reduceMul,Nat.reduceLeDiff,Nat.reduceSub,r7_5_go,r7_5U,r7_6_go,r7_6U,r7_7_go,r7_7U,r7_9_go,r7_9U,r7_11_go,r7_11U,f4,f6,c4,c6,c42,c62,h4,hm4,ht,htm,e2',e3',hz0,z0,z1,neqB,bt,skipR_go,hkeep,Nat.le_refl,List.getElem?_cons_zero,List.getElem?_cons_succ]
    generalize hbf : bigFuel = fuel
    generalize hff : upd _ 12 _ = f1
    generalize hgg : upd _ 60 _ = g1
    obtain ⟨f2,g2,σ4,e4,h2⟩:=apart_loop q b4 b6 d e lv mv h4 hm4 us ba uv path pre pre' ra rb x y hA hB hag hxy (by have:=hd.count; omega) (by have:=he.count; omega) (fun z hz => pieces_near d hd.deep z hz) (by omega)
      pre.length fuel 0 f1 g1 σ3 (by omega) (by rw [← hbf]; show pre.length < 1000000000000; omega) (by omega) hw3 (k3 _ _ c4) (k3 _ _ c6) (k3 _ _ ca) (hL.keep fun b cs hb hc => ⟨k3 b cs hc,by omega⟩) (hLe.keep fun b cs hb hc => ⟨k3 b cs hc,by omega⟩) (hPs.keep fun b c _ hc => ⟨k3 b c hc,trivial⟩) (hP2.keep fun b c _ hc => ⟨(x3.cells (hw2.cells hc)).trans hc,trivial⟩)
      (by rw [← hff]; simp -implicitDefEqProofs only [upd_go,kept_go,↓reduceIte,Nat.reduceEqDiff,Nat.reduceLT,reduceCtorEq,f4]) (by rw [← hff]; simp -implicitDefEqProofs only [upd_go,kept_go,↓reduceIte,Nat.reduceEqDiff,Nat.reduceLT,reduceCtorEq,f6]) (by rw [← hff]; simp -implicitDefEqProofs only [upd_go,kept_go,↓reduceIte,Nat.reduceEqDiff,Nat.reduceLT,reduceCtorEq,f5]) (by rw [← hff]; simp -implicitDefEqProofs only [upd_go,kept_go,↓reduceIte,Nat.reduceEqDiff,Nat.reduceLT,reduceCtorEq]) (by rw [← hff]; simp -implicitDefEqProofs only [upd_go,kept_go,↓reduceIte,Nat.reduceEqDiff,Nat.reduceLT,reduceCtorEq] <;> rfl)
    rw [e4]
    simp -implicitDefEqProofs only [go_sem,↓reduceIte,Nat.reduceLT,Nat.reduceEqDiff,Nat.reduceAdd,Nat.reduceMul,Nat.reduceLeDiff,Nat.reduceSub,h2]
    exact ⟨_,rfl⟩
end Go.Proofs.YtodkeaoikjjneaaGreatDoor
/- caracoleref01.Paths: all paths of a datum. -/
namespace Go.Proofs.YtodkeaoikjjneaaGreatDoor
open Go Go.Eng
attribute [local congr] andThen_congr fops_congr fdraw_congr afterOp_congr drawF_congr
attribute [-go_sem] List.range_succ
def CapV (v : Value) : Prop:=∃ a n c,v = .slice a n c ∧ n ≤ c
def FulB (σ : FState) (b : Nat) : Prop:=∃ vs fz ver,σ.heap.get b = some ⟨.cells vs TI,false,fz,ver⟩ ∧ (fz = none ∨ fz = some 1)
theorem FulB.keep {σ σ' : FState} {b : Nat} (h : FulB σ b) (hb : σ'.heap.get b = σ.heap.get b) : FulB σ' b:=by
  obtain ⟨vs,fz,ver,h1,h2⟩:=h
  exact ⟨vs,fz,ver,hb.trans h1,h2⟩
theorem ful_fulB {σ : FState} {b : Nat} {s : Value} {vs : List Value} (h : Ful TI σ b s vs) : FulB σ b:=by
  obtain ⟨fz,ver,h1,h2,h3⟩:=h
  exact ⟨vs,fz,ver,h2,h3⟩
structure HeadPb (bd bo base : Nat) (R : Nat → Prop) (k z : Int) (t : ByteArray) (q : Option Addr) (c : Nat) (ds : List D) (at' : List Nat) (atv : Value) (us : List Value) (ps : List (List Nat)) (σ0 : FState) (i : Nat) (f : Nat → Value) (σ : FState) : Prop where
  f1 : f 1 = atv
  f2 : f 2 = .pointer (some ⟨bd,0,none⟩)
  f5 : Ful TP σ bo (f 5) us
  f6 : f 6 = .int .i64 (.ofNat i)
  cd : σ.cells bd = some [.int .i64 k,.int .i64 z,.string t,.slice q ds.length c]
  lay : LaidRE R σ q 0 ds
  low : ∀ b,R b → b < base
  atp : PathV (· < base) σ atv at'
  hbd : base ≤ bd ∧ bd ≠ bo
  hbo : base ≤ bo
  lst : PathsL (fun b => base ≤ b ∧ b ≠ bo ∧ FulB σ b) σ us ps
  caps : ∀ u,u ∈ us → CapV u
  wf : Wf σ
  ext : Ext σ0 σ
  le : i ≤ ds.length
  few : ds.length < 10000
def PathsBt (m : Nat) (d : D) : Prop:=∀ (at' : List Nat) (v atv : Value) (R Q : Nat → Prop) (σ : FState),Wf σ → LaidR R σ v d → PathV Q σ atv at' → at'.length + d.deep < 1000 → (d.pieces at').length < 10000 →
  Gives ((env m).call 22 [v,atv] none σ) σ fun w σ' => ∃ b us,σ.next ≤ b ∧ Ful TP σ' b w us ∧ PathsL (fun b => σ.next ≤ b ∧ FulB σ' b) σ' us ((d.pieces at').map (·.1)) ∧ ∀ u,u ∈ us → CapV u
theorem pathsB_round (m : Nat) {bd bo base : Nat} {R : Nat → Prop} {k z : Int} {t : ByteArray} {q : Option Addr} {c : Nat} {ds : List D} {at' : List Nat} {atv : Value} {us : List Value} {ps : List (List Nat)} {σ0 : FState} {i : Nat} {f : Nat → Value} {σ : FState} (d : D) (hP : PathsBt m d)
    (h : HeadPb bd bo base R k z t q c ds at' atv us ps σ0 i f σ) (hb0 : σ0.next = base) (hd : ds[i]? = some d) (hlen : at'.length + 1 + d.deep < 1000) (hcount : us.length + (d.pieces (at' ++ [i])).length < 10000) (g : Nat → Value) :
    ∃ f' g' σ' bo' us',l22_0 (env m) none 22 (Sl 7 33 f g []) none σ = .done .normal (Sl 7 33 f' g' []) none σ' ∧ HeadPb bd bo' base R k z t q c ds at' atv us' (ps ++ (d.pieces (at' ++ [i])).map (·.1)) σ0 (i + 1) f' σ':=by
  have hi : i < ds.length:=(List.getElem?_eq_some_iff.1 hd).1
  have d1 : decide (Int.ofNat i < Int.ofNat ds.length) = true:=by simp; omega
  obtain ⟨b,off,cs,rfl,hRb,hcs,hle,hL⟩:=LaidRE.get h.lay hd
  rw [Nat.zero_add] at hle hL
  have w3:=add1 i (by have:=h.few; omega)
  have l4 : ((cs.drop (off + i * 4)).take 4).length = 4:=by rw [List.length_take,List.length_drop]; omega
  -- the part's path
  have hbase : base ≤ σ.next:=by have:=h.ext.next; omega
  have F1 : Ful TI (σ.push (.cells [] TI) none) σ.next (.slice (some ⟨σ.next,0,none⟩) 0 0) []:=Ful.push TI σ []
  have hw1:=h.wf.push (.cells [] TI) none
  have a1 : PathV (· < base) (σ.push (.cells [] TI) none) atv at':=h.atp.keep fun b c hb hc => ⟨by rw [cells_push,if_neg (by omega)]; exact hc,hb⟩
  obtain ⟨b2,s2,σ2,e2,F2,hb2,ch2,hw2⟩:=F1.append hw1 atv (intsOf at') 8 a1.fnew (intsOf_all _) (by omega) (by simp [intsOf_length]; omega)
  have F3:=F2.keep (σ':=σ2.push (.cells [.int .i64 (.ofNat i)] TI) none) (by rw [push_get,if_neg (by have:=F2.lt hw2; omega)])
  have hw3:=hw2.push (.cells [.int .i64 (.ofNat i)] TI) none
  have c3 : (σ2.push (.cells [.int .i64 (.ofNat i)] TI) none).cells σ2.next = some ([.int .i64 (.ofNat i)] ++ []):=by rw [cells_push,if_pos rfl]; rfl
  obtain ⟨b4,s4,σ4,e4,F4,hb4,ch4,hw4⟩:=F3.append hw3 (.slice (some ⟨σ2.next,0,none⟩) 1 1) [.int .i64 (.ofNat i)] 8 (fnew_some σ2.next 1 1 _ [] c3 rfl) rfl (by omega) (by simp [intsOf_length]; omega)
  have hb2' : σ.next ≤ b2:=by
    rcases hb2 with rfl | rfl
    · exact Nat.le_refl _
    · rw [push_next]; omega
  have hb4' : σ.next ≤ b4:=by
    have:=ch2.next
    rw [push_next] at this
    rcases hb4 with rfl | rfl
    · exact hb2'
    · rw [push_next]; omega
  have x4 : Ext σ σ4:=by
    have c1:=ch2.next
    have c2:=ch4.next
    have k1:=ch2.clock
    have k2:=ch4.clock
    rw [push_next] at c1 c2
    rw [push_clock] at k1 k2
    refine ⟨by omega,by omega,fun x hx => ?_⟩
    rw [ch4.get x (by rw [push_next]; omega) (by omega),push_get,if_neg (by omega),ch2.get x (by rw [push_next]; omega) (by omega),push_get,if_neg (by omega)]
  have hpath : intsOf at' ++ [.int .i64 (.ofNat i)] = intsOf (at' ++ [i]):=by simp [intsOf]
  rw [List.nil_append,hpath] at F4
  have P4 : PathV (fun _ => True) σ4 s4 (at' ++ [i]):=by
    obtain ⟨h1,h2⟩:=F4.cells
    rw [intsOf_length] at h1
    exact .inr ⟨b4,_,[],h1,trivial,by rw [List.append_nil]; exact h2⟩
  obtain ⟨w5,σ5,e5,x5,hw5,b5,us5,_,F5,L5,C5⟩:=hP (at' ++ [i]) (.agg ((cs.drop (off + i * 4)).take 4).toArray) s4 R (fun _ => True) σ4 hw4 (hL.keep fun b c hb hc => ⟨(x4.cells (h.wf.cells hc)).trans hc,hb⟩) P4 (by rw [List.length_append,List.length_singleton]; exact hlen) (by omega)
  have x15:=x4.trans x5
  have n4:=x4.next
  have n5:=x5.next
  have hbon:=h.f5.lt h.wf
  have G5 : Ful TP σ5 bo (f 5) us:=h.f5.keep (x15.get bo hbon)
  obtain ⟨hw5v,hc5⟩:=F5.cells
  have l5:=L5.length
  rw [List.length_map] at l5
  obtain ⟨b6,s6,σ6,e6,F6,hb6,ch6,hw6⟩:=G5.append hw5 w5 us5 24 (by rw [hw5v]; exact fnew_some b5 us5.length us5.length us5 [] (by rw [List.append_nil]; exact hc5) rfl) L5.all (by omega) (by rw [l5]; omega)
  have vd : (view σ4 σ.clock).cells bd = some [.int .i64 k,.int .i64 z,.string t,.slice (some ⟨b,off,none⟩) ds.length c]:=view_old h.wf (Nat.le_refl _) (x4.get bd (h.wf.cells h.cd)) h.cd
  have vb : (view σ4 σ.clock).cells b = some cs:=view_old h.wf (Nat.le_refl _) (x4.get b (h.wf.cells hcs)) hcs
  unfold l22_0
  simp -implicitDefEqProofs only [go_sem,↓reduceIte,Nat.reduceLT,Nat.reduceEqDiff,Nat.reduceAdd,Nat.reduceMul,Nat.reduceLeDiff,Nat.reduceSub,r22_3_go,r22_3U,r22_5_go,r22_5U,h.f1,h.f2,h.f6,h.cd,d1,e2,e4,vd,vb,hi,hle,e5,e6]
  generalize hg : upd _ 31 _ = g1
  clear hg
  simp -implicitDefEqProofs only [go_sem,↓reduceIte,Nat.reduceLT,Nat.reduceEqDiff,Nat.reduceAdd,Nat.reduceMul,Nat.reduceLeDiff,Nat.reduceSub,r22_4_go,r22_4U,h.f6,w3]
  have c56 : ∀ b c,b ≠ bo → σ5.cells b = some c → σ6.cells b = some c:=fun b c hb hc => (ch6.cells (hw5.cells hc) hb).trans hc
  have c06 : ∀ b c,b ≠ bo → σ.cells b = some c → σ6.cells b = some c:=fun b c hb hc => c56 b c hb ((x15.cells (h.wf.cells hc)).trans hc)
  have n6:=ch6.next
  have hbo:=h.hbo
  have hb6' : base ≤ b6:=by rcases hb6 with rfl | rfl <;> omega
  have xx:=h.ext.trans x15
  refine ⟨_,_,σ6,b6,us ++ us5,rfl,{
    f1:=by simp -implicitDefEqProofs only [upd_go,kept_go,↓reduceIte,Nat.reduceEqDiff,Nat.reduceLT,reduceCtorEq,h.f1]
    f2:=by simp -implicitDefEqProofs only [upd_go,kept_go,↓reduceIte,Nat.reduceEqDiff,Nat.reduceLT,reduceCtorEq,h.f2]
    f5:=by rw [show upd (upd f 5 s6) 6 (Value.int .i64 (.ofNat (i + 1))) 5 = s6 by simp -implicitDefEqProofs only [upd_go,kept_go,↓reduceIte,Nat.reduceEqDiff,Nat.reduceLT,reduceCtorEq]]; exact F6
    f6:=by simp -implicitDefEqProofs only [upd_go,kept_go,↓reduceIte,Nat.reduceEqDiff,Nat.reduceLT,reduceCtorEq]
    cd:=c06 bd _ h.hbd.2 h.cd
    lay:=h.lay.keep fun b c hb hc => ⟨c06 b c (by have:=h.low b hb; omega) hc,hb⟩
    low:=h.low
    atp:=h.atp.keep fun b c hb hc => ⟨c06 b c (by omega) hc,hb⟩
    hbd:=⟨h.hbd.1,by
      have:=h.wf.cells h.cd
      rcases hb6 with rfl | rfl
      · exact h.hbd.2
      · omega⟩
    hbo:=hb6'
    lst:=(h.lst.keep fun b c hb hc => ⟨c06 b c hb.2.1 hc,hb.1,by
      have:=h.wf.cells hc
      rcases hb6 with rfl | rfl
      · exact hb.2.1
      · omega,hb.2.2.keep ((ch6.get b (by have:=h.wf.cells hc; omega) hb.2.1).trans (x15.get b (h.wf.cells hc)))⟩).append (L5.keep fun b c hb hc => ⟨c56 b c (by have:=hb.1; omega) hc,by have:=hb.1; omega,by
      have:=hw5.cells hc
      have:=hb.1
      rcases hb6 with rfl | rfl
      · omega
      · omega,hb.2.keep (ch6.get b (hw5.cells hc) (by have:=hb.1; omega))⟩)
    caps:=fun u hu => by
      rcases List.mem_append.1 hu with hu | hu
      · exact h.caps u hu
      · exact C5 u hu
    wf:=hw6
    ext:=⟨by have:=xx.next; omega,by have:=xx.clock; have:=ch6.clock; omega,fun x hx => (ch6.get x (by have:=xx.next; omega) (by omega)).trans (xx.get x hx)⟩
    le:=hi
    few:=h.few }⟩
theorem pathsB_loop (m : Nat) {bd base : Nat} {R : Nat → Prop} {k z : Int} {t : ByteArray} {q : Option Addr} {c : Nat} {ds : List D} {at' : List Nat} {atv : Value} {σ0 : FState} (total : List (List Nat)) (hP : ∀ d ∈ ds,PathsBt m d) (hb0 : σ0.next = base) (hdeep : ∀ d ∈ ds,at'.length + 1 + d.deep < 1000) (hcount : total.length < 10000) :
    ∀ (j fuel i : Nat) (bo : Nat) (us : List Value) (ps : List (List Nat)) (f g : Nat → Value) (σ : FState),i + j = ds.length → j < fuel → ps ++ (D.piecesL at' i (ds.drop i)).map (·.1) = total → HeadPb bd bo base R k z t q c ds at' atv us ps σ0 i f σ →
    ∃ f' g' σ' bo' us',floop [32] (l22_0 (env m) none 22) fuel (Sl 7 33 f g []) none σ = .done (.exit 0) (Sl 7 33 f' g' []) none σ' ∧ HeadPb bd bo' base R k z t q c ds at' atv us' total σ0 ds.length f' σ':=by
  intro j
  induction j with
  | zero =>
    intro fuel i bo us ps f g σ hij hf ht h
    obtain ⟨fuel,rfl⟩ : ∃ q,fuel = q + 1:=⟨fuel - 1,by omega⟩
    obtain rfl : i = ds.length:=by omega
    rw [List.drop_length,D.piecesL,List.map_nil,List.append_nil] at ht
    subst ht
    have d1 : decide (Int.ofNat ds.length < Int.ofNat ds.length) = false:=by simp
    rw [floop_step,Sl_forget]
    unfold l22_0
    simp -implicitDefEqProofs only [go_sem,↓reduceIte,Nat.reduceLT,Nat.reduceEqDiff,Nat.reduceAdd,Nat.reduceMul,Nat.reduceLeDiff,Nat.reduceSub,r22_3_go,r22_3U,h.f2,h.f6,h.cd,d1]
    exact ⟨_,_,_,bo,us,rfl,h⟩
  | succ j ih =>
    intro fuel i bo us ps f g σ hij hf ht h
    obtain ⟨fuel,rfl⟩ : ∃ q,fuel = q + 1:=⟨fuel - 1,by omega⟩
    have hi : i < ds.length:=by omega
    have hd : ds[i]? = some ds[i]:=List.getElem?_eq_getElem hi
    have hdr : ds.drop i = ds[i] :: ds.drop (i + 1):=List.drop_eq_getElem_cons hi
    rw [hdr,D.piecesL,List.map_append] at ht
    have hcl : us.length + (ds[i].pieces (at' ++ [i])).length < 10000:=by
      have:=congrArg List.length ht
      simp only [List.length_append,List.length_map] at this
      have:=h.lst.length
      omega
    obtain ⟨f1,g1,σ1,bo1,us1,e1,h1⟩:=pathsB_round m ds[i] (hP _ (List.getElem_mem _)) h hb0 hd (hdeep _ (List.getElem_mem _)) hcl (kept [32] g)
    rw [floop_step,Sl_forget,e1,andThen_normal]
    exact ih fuel (i + 1) bo1 us1 _ f1 g1 σ1 (by omega) (by omega) (by rw [List.append_assoc]; exact ht) h1
theorem pathsB_step (m : Nat) (d : D) (hP : ∀ d' ∈ d.parts,PathsBt m d') : PathsBt (m + 1) d:=by
  intro at' v atv R Q σ hw hL hA hdeep hcount
  obtain ⟨k,z,t,ds⟩:=d
  obtain ⟨q,c,rfl,hE⟩:=hL
  have hpc:=D.pieces_eq at' (.mk k z t ds)
  rw [env_call _ 22 _ _ rfl,enter22 _ _ _ _ (by simp),Sl_start]
  unfold run22
  have x1 : Ext σ ((σ.push (.cells [.int .i64 k,.int .i64 z,.string t,.slice q ds.length c] TD) none).push (.cells [] TI) none):=((Ext.refl _).push _ _).push _ _
  have hw1:=(hw.push (.cells [.int .i64 k,.int .i64 z,.string t,.slice q ds.length c] TD) none).push (.cells [] TI) none
  have F1 : Ful TI ((σ.push (.cells [.int .i64 k,.int .i64 z,.string t,.slice q ds.length c] TD) none).push (.cells [] TI) none) (σ.next + 1) (.slice (some ⟨σ.next + 1,0,none⟩) 0 0) []:=Ful.push TI _ []
  have c1 : ((σ.push (.cells [.int .i64 k,.int .i64 z,.string t,.slice q ds.length c] TD) none).push (.cells [] TI) none).cells σ.next = some [.int .i64 k,.int .i64 z,.string t,.slice q ds.length c]:=by rw [cells_push,if_neg (by rw [push_next]; omega),cells_push,if_pos rfl]; rfl
  have n1 : ((σ.push (.cells [.int .i64 k,.int .i64 z,.string t,.slice q ds.length c] TD) none).push (.cells [] TI) none).next = σ.next + 2:=rfl
  have a1 : PathV (fun _ => True) ((σ.push (.cells [.int .i64 k,.int .i64 z,.string t,.slice q ds.length c] TD) none).push (.cells [] TI) none) atv at':=hA.keep fun b c hb hc => ⟨(x1.cells (hw.cells hc)).trans hc,trivial⟩
  have lenat : at'.length < 1000:=by omega
  obtain ⟨b2,s2,σ2,e2,F2,hb2,ch2,hw2⟩:=F1.append hw1 atv (intsOf at') 8 a1.fnew (intsOf_all _) (by omega) (by simp [intsOf_length]; omega)
  simp -implicitDefEqProofs only [go_sem,↓reduceIte,Nat.reduceLT,Nat.reduceEqDiff,Nat.reduceAdd,Nat.reduceMul,Nat.reduceLeDiff,Nat.reduceSub,r22_0_go,r22_0U,r22_1_go,r22_1U,r22_2_go,r22_2U,Option.getD_some,e2,F2.one.2.1,F2.one.2.2,keepPaths]
  generalize hff : upd _ 6 _ = f1
  generalize hgg : upd _ 10 _ = g1
  generalize hbf : bigFuel = fuel
  have hb2' : σ.next ≤ b2:=by
    rcases hb2 with rfl | rfl
    · omega
    · rw [n1]; omega
  rw [List.nil_append] at F2
  have F3 : Ful TP (σ2.push (.cells [s2] TP) none) σ2.next (.slice (some ⟨σ2.next,0,none⟩) 1 1) [s2]:=Ful.push TP σ2 [s2]
  have hw3:=hw2.push (.cells [s2] TP) none
  have x2 : Ext σ σ2:=⟨by have:=ch2.next; omega,by have:=ch2.clock; have:=x1.clock; omega,fun x hx => (ch2.get x (by omega) (by omega)).trans (x1.get x hx)⟩
  have x3 : Ext σ (σ2.push (.cells [s2] TP) none):=x2.push _ _
  have n2:=ch2.next
  have c3 : (σ2.push (.cells [s2] TP) none).cells σ.next = some [.int .i64 k,.int .i64 z,.string t,.slice q ds.length c]:=by
    rw [cells_push,if_neg (by omega)]
    exact (ch2.cells (by omega) (by omega)).trans c1
  have P2 : PathV (fun b => σ.next ≤ b ∧ b ≠ σ2.next ∧ FulB (σ2.push (.cells [s2] TP) none) b) (σ2.push (.cells [s2] TP) none) s2 at':=by
    obtain ⟨h1,h2⟩:=F2.cells
    have:=F2.lt hw2
    have hfb:=(ful_fulB F2).keep (σ':=σ2.push (.cells [s2] TP) none) (by rw [push_get,if_neg (by omega)])
    rw [intsOf_length] at h1
    exact .inr ⟨b2,_,[],h1,⟨hb2',by omega,hfb⟩,by rw [cells_push,if_neg (by omega),List.append_nil]; exact h2⟩
  have hfew : ds.length < 10000:=by
    have h1:=congrArg List.length hpc
    have h2:=piecesL_len ds at' 0
    rw [List.length_cons] at h1
    simp only [D.parts] at h1
    omega
  have hdp : (D.mk k z t ds).deep = D.deeps ds + 1:=by rw [D.deep]
  obtain ⟨f2,g2,σ4,bo,us,e4,h4⟩:=pathsB_loop m (ds:=ds) (bd:=σ.next) (base:=σ.next) (R:=fun b => R b ∧ b < σ.next) (atv:=atv) (σ0:=σ) (((D.mk k z t ds).pieces at').map (·.1)) (fun d' hd => hP d' hd) rfl (fun d hd => by have:=deeps_mem hd; omega) (by rw [List.length_map]; exact hcount) ds.length fuel 0 σ2.next [s2] [at'] f1 g1 (σ2.push (.cells [s2] TP) none) (by omega) (by rw [← hbf]; show ds.length < 1000000000000; omega) (by rw [hpc]; rfl) {
    f1:=by rw [← hff]; simp -implicitDefEqProofs only [upd_go,kept_go,↓reduceIte,Nat.reduceEqDiff,Nat.reduceLT,reduceCtorEq,List.getElem?_cons_zero,List.getElem?_cons_succ,Option.getD_some]
    f2:=by rw [← hff]; simp -implicitDefEqProofs only [upd_go,kept_go,↓reduceIte,Nat.reduceEqDiff,Nat.reduceLT,reduceCtorEq]
    f5:=by rw [show f1 5 = .slice (some ⟨σ2.next,0,none⟩) 1 1 by rw [← hff]; simp -implicitDefEqProofs only [upd_go,kept_go,↓reduceIte,Nat.reduceEqDiff,Nat.reduceLT,reduceCtorEq]]; exact F3
    f6:=by rw [← hff]; simp -implicitDefEqProofs only [upd_go,kept_go,↓reduceIte,Nat.reduceEqDiff,Nat.reduceLT,reduceCtorEq] <;> rfl
    cd:=c3
    lay:=hE.keep fun b c hb hc => ⟨(x3.cells (hw.cells hc)).trans hc,hb,hw.cells hc⟩
    low:=fun b hb => hb.2
    atp:=hA.keep fun b c hb hc => ⟨(x3.cells (hw.cells hc)).trans hc,hw.cells hc⟩
    hbd:=⟨Nat.le_refl _,by omega⟩
    hbo:=by omega
    lst:=⟨P2,trivial⟩
    caps:=fun u hu => by
      rw [List.mem_singleton] at hu
      subst hu
      exact ⟨_,_,_,F2.cells.1,Nat.le_refl _⟩
    wf:=hw3
    ext:=x3
    le:=Nat.zero_le _
    few:=hfew }
  rw [e4]
  simp -implicitDefEqProofs only [go_sem,↓reduceIte,Nat.reduceLT,Nat.reduceEqDiff,Nat.reduceAdd,Nat.reduceMul,Nat.reduceLeDiff,Nat.reduceSub,r22_6_go,r22_6U]
  exact ⟨_,_,rfl,h4.ext,h4.wf,bo,us,h4.hbo,h4.f5,h4.lst.keep (fun b c hb hc => ⟨hc,hb.1,hb.2.2⟩),h4.caps⟩
theorem pathsB_go (n : Nat) : ∀ (L : Nat) (d : D),d.deep ≤ L → PathsBt (n + L) d
  | 0,d,h => by cases d; rw [D.deep] at h; omega
  | L + 1,d,h => pathsB_step (n + L) d fun d' hd => pathsB_go n L d' (by
    obtain ⟨k,z,t,ds⟩:=d
    rw [D.deep] at h
    have:=deeps_mem hd
    simp only [D.parts] at this
    omega)
end Go.Proofs.YtodkeaoikjjneaaGreatDoor
/- DatumApart: what the reading says. -/
namespace Go.Proofs.YtodkeaoikjjneaaGreatDoor
open Go Go.Eng
attribute [local congr] andThen_congr fops_congr fdraw_congr afterOp_congr drawF_congr
attribute [-go_sem] List.range_succ
theorem pathO_of {σ : FState} {u : Value} {p : List Nat} (h : PathV (fun b => FulB σ b) σ u p) (hc : CapV u) : PathO σ u p:=by
  rcases h with ⟨rfl,rfl⟩ | ⟨b,cx,rest,rfl,⟨vs,fz,ver,hb,hf⟩,hcs⟩
  · exact ⟨none,0,rfl,.inl rfl⟩
  · obtain ⟨a,n,c,e,hn⟩:=hc
    injection e with e1 e2 e3
    subst e2 e3
    rw [cells_of_get hb] at hcs
    have hvs:=Option.some.inj hcs
    refine ⟨_,cx,rfl,.inr ⟨b,0,vs,fz,ver,rfl,hb,hf,hn,fun i j hj => ?_⟩⟩
    have hi:=(List.getElem?_eq_some_iff.1 hj).1
    rw [hvs,Nat.zero_add,List.getElem?_append_left (by simp [intsOf]; exact hi)]
    simp [intsOf,hj]
theorem apart_says (q : Nat) (p : Option Addr) (l : List Int) (cp : Nat) (hl : l.length < 9223372036854775808) (σ : FState) (hw : Wf σ) (hI : Ints σ p l) (hp : ∀ a,p = some a → a.block < σ.next) :
    ∃ σ',fcall Tryz.prog nls (top (q + 40)) 7 [.slice p l.length cp] none σ = .ret (.bool true) none σ':=by
  obtain ⟨σ1,e1,x1,hw1,hC⟩:=newCoil_go (q + 39) p l cp hl σ hw hI hp
  have hn1 : σ.next < σ1.next:=by obtain ⟨_,_,_,_,_,h,_⟩:=hC; exact (hw1 _ _ h).1
  obtain ⟨v,d,σ2,k2,e2,hL,hM,x2,hw2,hC2,_,hk2⟩:=datumOf_go (q + 32) σ.next 4 (by omega) 0 σ1 (by simp [wound]) hw1 hC
  have hk2' : k2 + 1 + wound 2 < 100000000:=by
    have : wound 4 ≤ 1000:=by simp [wound]
    have : wound 2 ≤ 1000:=by simp [wound]
    omega
  have hF:=made_fine (q + 11) hM
  have n2:=x2.next
  have e1' : (top (q + 40)).call 11 [.slice p l.length cp] none σ = .ret (.pointer (some ⟨σ.next,0,none⟩)) none σ1:=(top_call _ _ _ _ rfl).trans e1
  have e2' : (top (q + 40)).call 13 [.pointer (some ⟨σ.next,0,none⟩),.int .i64 4] none σ1 = .ret v none σ2:=(top_call _ _ _ _ rfl).trans e2
  obtain ⟨lv,rfl,h4,ho4⟩:=hL.agg
  have ht : lv.take 4 = lv:=List.take_of_length_le (by omega)
  rw [enter7 _ _ _ _ (by simp),Sl_start,run_restA]
  simp -implicitDefEqProofs only [go_sem,↓reduceIte,Nat.reduceLT,Nat.reduceEqDiff,Nat.reduceAdd,Nat.reduceMul,Nat.reduceLeDiff,Nat.reduceSub,fstoreN,r7_0_go,r7_0U,r7_1_go,r7_1U,r7_2_go,r7_2U,Option.getD_some,e1',e2',h4,ho4]
  have x4 : Ext σ2 ((σ2.push (.cells [.int .i64 0,.int .i64 0,.string ⟨#[]⟩,.slice none 0 0] TD) none).put σ2.next (.cells lv TD) none):=((Ext.refl _).push _ _).put _ _ _ (Nat.le_refl _)
  have hw4 : Wf ((σ2.push (.cells [.int .i64 0,.int .i64 0,.string ⟨#[]⟩,.slice none 0 0] TD) none).put σ2.next (.cells lv TD) none):=(hw2.push _ _).put _ _ _ (by simp only [push_next]; omega)
  have g4 : ((σ2.push (.cells [.int .i64 0,.int .i64 0,.string ⟨#[]⟩,.slice none 0 0] TD) none).put σ2.next (.cells lv TD) none).heap.get σ2.next = some ⟨.cells lv TD,false,none,σ2.clock + 1⟩:=by rw [put_get,if_pos rfl]; rfl
  have n4 : ((σ2.push (.cells [.int .i64 0,.int .i64 0,.string ⟨#[]⟩,.slice none 0 0] TD) none).put σ2.next (.cells lv TD) none).next = σ2.next + 1:=rfl
  generalize hff : upd _ 4 _ = f1
  generalize hgg : upd _ 20 _ = g1
  have q3 : f1 3 = .pointer (some ⟨σ.next,0,none⟩):=by rw [← hff]; simp -implicitDefEqProofs only [upd_go,kept_go,↓reduceIte,Nat.reduceEqDiff,Nat.reduceLT,reduceCtorEq]
  have q4 : f1 4 = .pointer (some ⟨σ2.next,0,none⟩):=by rw [← hff]; simp -implicitDefEqProofs only [upd_go,kept_go,↓reduceIte,Nat.reduceEqDiff,Nat.reduceLT,reduceCtorEq]
  clear hff hgg
  generalize FState.put _ _ _ _ = σ4 at x4 hw4 g4 n4 ⊢
  have c4:=cells_of_get g4
  have K24 : ∀ b cs,New σ1 σ2 b → σ2.cells b = some cs → σ4.cells b = some cs:=fun b cs hb hc => (x4.cells (hw2.cells hc)).trans hc
  have hfew:=hF.few (by omega)
  have hdd:=hF.deep_le
  obtain ⟨w5,σ5,e5,x5,hw5,ba,us,hba,F5,pl5,caps5⟩:=pathsB_go (q + 35) 5 d hdd [] (.agg lv.toArray) (.slice none 0 0) (New σ1 σ2) (fun _ => True) σ4 hw4 (hL.keep fun b cs hb hc => ⟨K24 b cs hb hc,hb⟩) (.inl ⟨rfl,rfl⟩) (by simp; omega) (by omega)
  have e5' : (top (q + 40)).call 22 [.agg lv.toArray,.slice none 0 0] none σ4 = .ret w5 none σ5:=(top_call _ _ _ _ rfl).trans e5
  obtain ⟨hw5v,ca5⟩:=F5.cells
  have n5:=x5.next
  have hC5 : Coil σ5 σ.next k2:=(hC2.ext hw2 x4).ext hw4 x5
  have ba6 : ba < σ5.next:=F5.lt hw5
  have hus : us.length = (d.pieces []).length:=by rw [pl5.length,List.length_map]
  rw [hw5v] at e5'
  have hne : 1 ≤ us.length:=by rw [hus,D.pieces_eq]; simp
  obtain ⟨r7,σ7,e7,h70,h71,W7⟩:=up_go (q + 38) σ.next k2 (.ofNat (us.length - 1)) (by simp only [Int.ofNat_eq_natCast]; omega) (by omega) σ5 hw5 hC5
  obtain ⟨i,rfl⟩ : ∃ i : Nat,r7 = Int.ofNat i:=⟨r7.toNat,by simp only [Int.ofNat_eq_natCast]; omega⟩
  have hi : i < us.length:=by simp only [Int.ofNat_eq_natCast] at h71; omega
  have e7' : (top (q + 40)).call 12 [.pointer (some ⟨σ.next,0,none⟩),.int .i64 (.ofNat (us.length - 1))] none σ5 = .ret (.int .i64 (.ofNat i)) none σ7:=(top_call _ _ _ _ rfl).trans e7
  have w7:=sub1w us.length hne (by omega)
  obtain ⟨v',x,σ8,k3,e8,hLx,hMx,x8,hw8,hC8,_,hk3⟩:=datumOf_go (q + 34) σ.next 2 (by omega) (k2 + 1) σ7 (by omega) W7.wf W7.coil
  have hFx:=made_fine (q + 11) hMx
  have e8' : (top (q + 40)).call 13 [.pointer (some ⟨σ.next,0,none⟩),.int .i64 2] none σ7 = .ret v' none σ8:=(top_call _ _ _ _ rfl).trans e8
  obtain ⟨xv,rfl,hx4,hox⟩:=hLx.agg
  obtain ⟨y,hy⟩ : ∃ y,(d.pieces [])[i]? = some y:=⟨_,List.getElem?_eq_getElem (by omega)⟩
  have hmem:=List.mem_of_getElem? hy
  obtain ⟨r,hr,hat⟩:=pieces_at d [] y hmem
  rw [List.nil_append] at hr
  subst hr
  have hyl:=((hF []).2 y hmem).1
  have hFu:=fine_put (q + 11) hFx y.1 4 d y.2 hM hat
  have hdm:=(hF []).1
  have hxm:=(hFx []).1
  rw [pieces_length] at hdm hxm
  have hm4 : most 4 = 121:=by decide
  have hm2 : most 2 = 13:=by decide
  rw [hm4] at hdm
  rw [hm2] at hxm
  have hpc:=put_count y.1 x d y.2 hat
  have hxd:=hFx.deep_le
  have hud:=hFu.deep_le
  obtain ⟨u,hu,hP⟩:=pl5.get (i:=i) (p:=y.1) (by rw [List.getElem?_map,hy]; rfl)
  have hcu:=caps5 u (List.mem_of_getElem? hu)
  have n7:=W7.ext.next
  have n8:=x8.next
  have g58 : ∀ b,b < σ5.next → b ≠ σ.next → σ8.heap.get b = σ5.heap.get b:=fun b hb hne => (x8.get b (by omega) hne).trans (W7.ext.get b hb hne)
  have k58 : ∀ b cs,b ≠ σ.next → σ5.cells b = some cs → σ8.cells b = some cs:=fun b cs hb hc => (x8.cells (by have:=hw5.cells hc; omega) hb).trans ((W7.ext.cells (hw5.cells hc) hb).trans hc)
  have k28 : ∀ b cs,b ≠ σ.next → σ2.cells b = some cs → σ8.cells b = some cs:=fun b cs hb hc => by
    have h1:=(x4.cells (hw2.cells hc)).trans hc
    exact k58 b cs hb ((x5.cells (hw4.cells h1)).trans h1)
  have hRne : ∀ b,New σ1 σ2 b → b ≠ σ.next:=fun b hb => by have:=hb.1; omega
  have ld8 : LaidR (fun b => b < σ8.next) σ8 (.agg lv.toArray) d:=hL.keep fun b cs hb hc => ⟨k28 b cs (hRne b hb) hc,by have:=hw2.cells hc; omega⟩
  have lx8 : LaidR (fun b => b < σ8.next) σ8 (.agg xv.toArray) x:=hLx.keep fun b cs hb hc => ⟨hc,hw8.cells hc⟩
  have hP8 : PathV (fun b => FulB σ8 b) σ8 u y.1:=hP.keep fun b c hb hc => ⟨k58 b c (by have:=hb.1; omega) hc,hb.2.keep (g58 b (hw5.cells hc) (by have:=hb.1; omega))⟩
  have c45:=(x5.cells (hw4.cells c4)).trans c4
  have c48:=k58 _ _ (by omega) c45
  have ca7 : σ7.cells ba = some us:=(W7.ext.cells (hw5.cells ca5) (by omega)).trans ca5
  have v1 : (view σ8 σ7.clock).cells ba = some us:=view_old W7.wf (Nat.le_refl _) (x8.get _ (by omega) (by omega)) ca7
  have ca8:=k58 _ _ (by omega) ca5
  have hv8:=view_wf hw8 (Nat.le_refl _)
  have v5 : (view σ8 σ5.clock).cells σ2.next = some lv:=view_old hw5 (Nat.le_refl _) (g58 _ (by omega) (by omega)) c45
  have hWd:=made_whole hM
  have hWx:=made_whole hMx
  obtain ⟨_,σ9,e9,x9,hw9,ws,rfl,hws,hwo,hLw⟩:=refPut_go (q + 39) 10 (q + 4) (by omega) d x y.2 y.1 (by simp at hyl; omega) (by simp at hyl; omega) lv xv u h4 hx4 hox _ σ8 hw8 ld8 lx8 (pathO_of hP8 hcu) hP8 hat (hWd.ref (by omega) (by omega)) (hWx.ref (by omega) (by omega)) ((put_whole hWx y.1 4 d y.2 hM hat).ref (by omega) (by omega)) (fun z hz => ⟨by have:=(hWd [] z hz).1; omega,(hWd [] z hz).2⟩)
  have e9' : (top (q + 40)).call 34 [.agg lv.toArray,u,.agg xv.toArray] none σ8 = _:=(top_call _ _ _ _ rfl).trans e9
  have tws : ws.take 4 = ws:=List.take_of_length_le (by omega)
  simp -implicitDefEqProofs only [go_sem,↓reduceIte,Nat.reduceLT,Nat.reduceEqDiff,Nat.reduceAdd,Nat.reduceMul,Nat.reduceLeDiff,Nat.reduceSub,fstoreN,r7_3_go,r7_3U,r7_4_go,r7_4U,q3,q4,c4,h4,ht,e5',w7,e7',e8',v1,v5,hv8,ca8,hi,hu,e9',hws,hwo,Nat.le_refl,List.getElem?_cons_zero,List.getElem?_cons_succ]
  generalize hff : upd _ 7 _ = f2
  generalize hgg : upd _ 37 _ = g2
  have x10 : Ext σ9 ((σ9.push (.cells [.int .i64 0,.int .i64 0,.string ⟨#[]⟩,.slice none 0 0] TD) none).put σ9.next (.cells ws TD) none):=((Ext.refl _).push _ _).put _ _ _ (Nat.le_refl _)
  have hw10:=(hw9.push (.cells [.int .i64 0,.int .i64 0,.string ⟨#[]⟩,.slice none 0 0] TD) none).put σ9.next (.cells ws TD) none (Nat.lt_succ_self _)
  have b10 : ((σ9.push (.cells [.int .i64 0,.int .i64 0,.string ⟨#[]⟩,.slice none 0 0] TD) none).put σ9.next (.cells ws TD) none).cells σ9.next = some ws:=by rw [cells_put,if_pos rfl]; rfl
  have X10:=x9.trans x10
  have k10 : ∀ b cs,σ8.cells b = some cs → ((σ9.push (.cells [.int .i64 0,.int .i64 0,.string ⟨#[]⟩,.slice none 0 0] TD) none).put σ9.next (.cells ws TD) none).cells b = some cs:=fun b cs hc => (X10.cells (hw8.cells hc)).trans hc
  have n10:=X10.next
  have n910:=x10.next
  have hPs8 : PathsL (fun _ => True) σ8 us ((d.pieces []).map (·.1)):=pl5.keep fun b c hb hc => ⟨k58 b c (by have:=hb.1; omega) hc,trivial⟩
  exact apart_rest q σ2.next σ9.next d (putP y.1 x d) ⟨hF.sane,by omega,by omega⟩ ⟨hFu.sane,by omega,by omega⟩ (by omega) (by omega) lv ws h4 hws us ba f2 g2 _ hw10 (k10 _ _ c48) b10 (k10 _ _ ca8) (ld8.keep fun b cs hb hc => ⟨k10 b cs hc,Nat.lt_of_lt_of_le hb n10⟩) (hLw.keep fun b cs hb hc => ⟨(x10.cells hb).trans hc,Nat.lt_of_lt_of_le hb n910⟩) (hPs8.keep fun b c _ hc => ⟨k10 b c hc,trivial⟩)
    (by rw [← hff]; simp -implicitDefEqProofs only [upd_go,kept_go,↓reduceIte,Nat.reduceEqDiff,Nat.reduceLT,reduceCtorEq,q4]) (by rw [← hff]; simp -implicitDefEqProofs only [upd_go,kept_go,↓reduceIte,Nat.reduceEqDiff,Nat.reduceLT,reduceCtorEq]) (by rw [← hff]; simp -implicitDefEqProofs only [upd_go,kept_go,↓reduceIte,Nat.reduceEqDiff,Nat.reduceLT,reduceCtorEq])
end Go.Proofs.YtodkeaoikjjneaaGreatDoor
end
