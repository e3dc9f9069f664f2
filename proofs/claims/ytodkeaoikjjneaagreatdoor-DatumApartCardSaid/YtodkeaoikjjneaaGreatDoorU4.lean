/- The reading of the program, and what is so of it: SymI, SymS, SymW, SymP, SymR, SymX, SymX2, SymX3, SymX4, SymP2, SymCP, SymPa, SymY, SymZ, SymQ, SymPb, SymPe0, SymCF, SymPe, SymPe2, SymE, SymE3, SymP3, SymPf, SymPf2, SymPf3. -/
import Derived.Test.YtodkeaoikjjneaaGreatDoorU3
import Derived.Laws.StructEq
set_option linter.unusedSimpArgs false
set_option linter.unusedVariables false
noncomputable section
/- datum.inspect and what it calls: pieces that are as they should be. -/
namespace Go.Proofs.YtodkeaoikjjneaaGreatDoor
open Go Go.Eng
attribute [local congr] andThen_congr fops_congr fdraw_congr afterOp_congr drawF_congr
attribute [-go_sem] List.range_succ
theorem limit_go (n : Nat) (p : Int) (hp : p ≤ 2000) (σ : FState) : (env (n + 1)).call 61 [.int .i64 p] none σ = .ret (.tuple #[]) none σ:=by
  have hd : decide (p > 2000) = false:=by simp; omega
  rw [env_call _ 61 _ _ rfl,enter61 _ _ _ _ (by simp),Sl_start]
  unfold run61
  simp -implicitDefEqProofs only [go_sem,↓reduceIte,Nat.reduceLT,Nat.reduceEqDiff,Nat.reduceAdd,Nat.reduceMul,Nat.reduceLeDiff,Nat.reduceSub,r61_0_go,r61_0U,Option.getD_some,hd]
theorem formed_number (n : Nat) (k z : Int) (p : Option Addr) (c : Nat) (σ : FState) (hw : Wf σ) :
    Gives ((env (n + 1)).call 212 [.agg #[.int .i64 k,.int .i64 z,.string ⟨#[]⟩,.slice p 0 c]] none σ) σ fun w _ => w = .bool true:=by
  have h0 : (Int.ofNat 0 == 0) = true:=rfl
  rw [env_call _ 212 _ _ rfl,enter212 _ _ _ _ (by simp),Sl_start]
  unfold run212
  simp -implicitDefEqProofs only [go_sem,↓reduceIte,Nat.reduceLT,Nat.reduceEqDiff,Nat.reduceAdd,Nat.reduceMul,Nat.reduceLeDiff,Nat.reduceSub,r212_0_go,r212_0U,r212_1_go,r212_1U,Option.getD_some,h0]
  exact ⟨_,_,rfl,(Ext.refl _).push _ _,hw.push _ _,rfl⟩
theorem formed_text (n : Nat) (k : Int) (t : ByteArray) (p : Option Addr) (c : Nat) (σ : FState) (hw : Wf σ) :
    Gives ((env (n + 1)).call 206 [.agg #[.int .i64 k,.int .i64 0,.string t,.slice p 0 c]] none σ) σ fun w _ => w = .bool true:=by
  have h0 : (Int.ofNat 0 == 0) = true:=rfl
  rw [env_call _ 206 _ _ rfl,enter206 _ _ _ _ (by simp),Sl_start]
  unfold run206
  simp -implicitDefEqProofs only [go_sem,↓reduceIte,Nat.reduceLT,Nat.reduceEqDiff,Nat.reduceAdd,Nat.reduceMul,Nat.reduceLeDiff,Nat.reduceSub,r206_0_go,r206_0U,r206_1_go,r206_1U,Option.getD_some,h0]
  exact ⟨_,_,rfl,(Ext.refl _).push _ _,hw.push _ _,rfl⟩
theorem formed_empty (n : Nat) (k : Int) (p : Option Addr) (c : Nat) (σ : FState) (hw : Wf σ) :
    Gives ((env (n + 1)).call 214 [.agg #[.int .i64 k,.int .i64 0,.string ⟨#[]⟩,.slice p 0 c]] none σ) σ fun w _ => w = .bool true:=by
  have h0 : (Int.ofNat 0 == 0) = true:=rfl
  rw [env_call _ 214 _ _ rfl,enter214 _ _ _ _ (by simp),Sl_start]
  unfold run214
  simp -implicitDefEqProofs only [go_sem,↓reduceIte,Nat.reduceLT,Nat.reduceEqDiff,Nat.reduceAdd,Nat.reduceMul,Nat.reduceLeDiff,Nat.reduceSub,r214_0_go,r214_0U,r214_1_go,r214_1U,Option.getD_some,h0]
  exact ⟨_,_,rfl,(Ext.refl _).push _ _,hw.push _ _,rfl⟩
theorem formed_vec (n : Nat) (p : Option Addr) (l c : Nat) (σ : FState) (hw : Wf σ) :
    Gives ((env (n + 1)).call 216 [.agg #[.int .i64 6,.int .i64 0,.string ⟨#[]⟩,.slice p l c]] none σ) σ fun w _ => w = .bool true:=by
  rw [env_call _ 216 _ _ rfl,enter216 _ _ _ _ (by simp),Sl_start]
  unfold run216
  simp -implicitDefEqProofs only [go_sem,↓reduceIte,Nat.reduceLT,Nat.reduceEqDiff,Nat.reduceAdd,Nat.reduceMul,Nat.reduceLeDiff,Nat.reduceSub,r216_0_go,r216_0U,r216_1_go,r216_1U,Option.getD_some]
  exact ⟨_,_,rfl,(Ext.refl _).push _ _,hw.push _ _,rfl⟩
theorem formed_pair (n : Nat) (p : Option Addr) (c : Nat) (σ : FState) (hw : Wf σ) :
    Gives ((env (n + 1)).call 216 [.agg #[.int .i64 5,.int .i64 0,.string ⟨#[]⟩,.slice p 2 c]] none σ) σ fun w _ => w = .bool true:=by
  have h0 : (Int.ofNat 2 == 2) = true:=rfl
  have h1 : ((5 : Int) == 6) = false:=rfl
  rw [env_call _ 216 _ _ rfl,enter216 _ _ _ _ (by simp),Sl_start]
  unfold run216
  simp -implicitDefEqProofs only [go_sem,↓reduceIte,Nat.reduceLT,Nat.reduceEqDiff,Nat.reduceAdd,Nat.reduceMul,Nat.reduceLeDiff,Nat.reduceSub,r216_0_go,r216_0U,r216_1_go,r216_1U,Option.getD_some,h0,h1]
  exact ⟨_,_,rfl,(Ext.refl _).push _ _,hw.push _ _,rfl⟩
def workType (k : Nat) : Nat:=if k = 0 then 181 else if k ≤ 2 then 173 else if k ≤ 4 then 161 else 182
theorem atWork_go (n k : Nat) (hk : k ≤ 6) (z : Int) (t : ByteArray) (q : Value) (hq : oneCell q = true) (σ : FState) (hw : Wf σ) :
    Gives ((env (n + 1)).call 121 [.agg #[.int .i64 (k : Int),.int .i64 z,.string t,q]] none σ) σ fun w _ => w = .iface (workType k) (.agg #[.int .i64 (k : Int),.int .i64 z,.string t,q]):=by
  rw [env_call _ 121 _ _ rfl,enter121 _ _ _ _ (by simp),Sl_start]
  unfold run121
  have fin : ∀ (o : FObj) (f : Option Nat),Ext σ (σ.push o f) ∧ Wf (σ.push o f):=fun o f => ⟨(Ext.refl _).push _ _,hw.push _ _⟩
  obtain rfl | rfl | rfl | rfl | rfl | rfl | rfl : k = 0 ∨ k = 1 ∨ k = 2 ∨ k = 3 ∨ k = 4 ∨ k = 5 ∨ k = 6:=by omega
  · have e0 : (((0 : Nat) : Int) == 0) = true:=rfl
    simp -implicitDefEqProofs only [go_sem,↓reduceIte,Nat.reduceLT,Nat.reduceEqDiff,Nat.reduceAdd,Nat.reduceMul,Nat.reduceLeDiff,Nat.reduceSub,r121_0_go,r121_0U,r121_1_go,r121_1U,r121_2_go,r121_2U,r121_3_go,r121_3U,Option.getD_some,e0]
    exact ⟨_,_,rfl,(fin ..).1,(fin ..).2,rfl⟩
  · have e0 : (((1 : Nat) : Int) == 0) = false:=rfl
    have e1 : (((1 : Nat) : Int) == 1) = true:=rfl
    simp -implicitDefEqProofs only [go_sem,↓reduceIte,Nat.reduceLT,Nat.reduceEqDiff,Nat.reduceAdd,Nat.reduceMul,Nat.reduceLeDiff,Nat.reduceSub,r121_0_go,r121_0U,r121_1_go,r121_1U,r121_2_go,r121_2U,r121_4_go,r121_4U,r121_6_go,r121_6U,Option.getD_some,e0,e1]
    exact ⟨_,_,rfl,(fin ..).1,(fin ..).2,rfl⟩
  · have e0 : (((2 : Nat) : Int) == 0) = false:=rfl
    have e1 : (((2 : Nat) : Int) == 1) = false:=rfl
    have e2 : (((2 : Nat) : Int) == 2) = true:=rfl
    simp -implicitDefEqProofs only [go_sem,↓reduceIte,Nat.reduceLT,Nat.reduceEqDiff,Nat.reduceAdd,Nat.reduceMul,Nat.reduceLeDiff,Nat.reduceSub,r121_0_go,r121_0U,r121_1_go,r121_1U,r121_2_go,r121_2U,r121_4_go,r121_4U,r121_5_go,r121_5U,r121_6_go,r121_6U,Option.getD_some,e0,e1,e2]
    exact ⟨_,_,rfl,(fin ..).1,(fin ..).2,rfl⟩
  · have e0 : (((3 : Nat) : Int) == 0) = false:=rfl
    have e1 : (((3 : Nat) : Int) == 1) = false:=rfl
    have e2 : (((3 : Nat) : Int) == 2) = false:=rfl
    have e3 : (((3 : Nat) : Int) == 3) = true:=rfl
    simp -implicitDefEqProofs only [go_sem,↓reduceIte,Nat.reduceLT,Nat.reduceEqDiff,Nat.reduceAdd,Nat.reduceMul,Nat.reduceLeDiff,Nat.reduceSub,r121_0_go,r121_0U,r121_1_go,r121_1U,r121_2_go,r121_2U,r121_4_go,r121_4U,r121_5_go,r121_5U,r121_7_go,r121_7U,r121_9_go,r121_9U,Option.getD_some,e0,e1,e2,e3]
    exact ⟨_,_,rfl,(fin ..).1,(fin ..).2,rfl⟩
  · have e0 : (((4 : Nat) : Int) == 0) = false:=rfl
    have e1 : (((4 : Nat) : Int) == 1) = false:=rfl
    have e2 : (((4 : Nat) : Int) == 2) = false:=rfl
    have e3 : (((4 : Nat) : Int) == 3) = false:=rfl
    have e4 : (((4 : Nat) : Int) == 4) = true:=rfl
    simp -implicitDefEqProofs only [go_sem,↓reduceIte,Nat.reduceLT,Nat.reduceEqDiff,Nat.reduceAdd,Nat.reduceMul,Nat.reduceLeDiff,Nat.reduceSub,r121_0_go,r121_0U,r121_1_go,r121_1U,r121_2_go,r121_2U,r121_4_go,r121_4U,r121_5_go,r121_5U,r121_7_go,r121_7U,r121_8_go,r121_8U,r121_9_go,r121_9U,Option.getD_some,e0,e1,e2,e3,e4]
    exact ⟨_,_,rfl,(fin ..).1,(fin ..).2,rfl⟩
  · have e0 : (((5 : Nat) : Int) == 0) = false:=rfl
    have e1 : (((5 : Nat) : Int) == 1) = false:=rfl
    have e2 : (((5 : Nat) : Int) == 2) = false:=rfl
    have e3 : (((5 : Nat) : Int) == 3) = false:=rfl
    have e4 : (((5 : Nat) : Int) == 4) = false:=rfl
    have e5 : (((5 : Nat) : Int) == 5) = true:=rfl
    simp -implicitDefEqProofs only [go_sem,↓reduceIte,Nat.reduceLT,Nat.reduceEqDiff,Nat.reduceAdd,Nat.reduceMul,Nat.reduceLeDiff,Nat.reduceSub,r121_0_go,r121_0U,r121_1_go,r121_1U,r121_2_go,r121_2U,r121_4_go,r121_4U,r121_5_go,r121_5U,r121_7_go,r121_7U,r121_8_go,r121_8U,r121_10_go,r121_10U,r121_12_go,r121_12U,Option.getD_some,e0,e1,e2,e3,e4,e5]
    exact ⟨_,_,rfl,(fin ..).1,(fin ..).2,rfl⟩
  · have e0 : (((6 : Nat) : Int) == 0) = false:=rfl
    have e1 : (((6 : Nat) : Int) == 1) = false:=rfl
    have e2 : (((6 : Nat) : Int) == 2) = false:=rfl
    have e3 : (((6 : Nat) : Int) == 3) = false:=rfl
    have e4 : (((6 : Nat) : Int) == 4) = false:=rfl
    have e5 : (((6 : Nat) : Int) == 5) = false:=rfl
    have e6 : (((6 : Nat) : Int) == 6) = true:=rfl
    simp -implicitDefEqProofs only [go_sem,↓reduceIte,Nat.reduceLT,Nat.reduceEqDiff,Nat.reduceAdd,Nat.reduceMul,Nat.reduceLeDiff,Nat.reduceSub,r121_0_go,r121_0U,r121_1_go,r121_1U,r121_2_go,r121_2U,r121_4_go,r121_4U,r121_5_go,r121_5U,r121_7_go,r121_7U,r121_8_go,r121_8U,r121_10_go,r121_10U,r121_11_go,r121_11U,r121_12_go,r121_12U,Option.getD_some,e0,e1,e2,e3,e4,e5,e6]
    exact ⟨_,_,rfl,(fin ..).1,(fin ..).2,rfl⟩
theorem inspectNum_go (n k : Nat) (z : Int) (hk : k = 1 ∧ 0 ≤ z ∧ z ≤ 1 ∨ k = 2 ∧ -999999999 ≤ z ∧ z ≤ 999999999) (t : ByteArray) (q : Value) (hq : oneCell q = true) (σ : FState) (hw : Wf σ) :
    Gives ((env (n + 1)).call 129 [.agg #[.int .i64 (k : Int),.int .i64 z,.string t,q]] none σ) σ fun w _ => w = .tuple #[]:=by
  rw [env_call _ 129 _ _ rfl,enter129 _ _ _ _ (by simp),Sl_start]
  unfold run129
  rcases hk with ⟨rfl,h1,h2⟩ | ⟨rfl,h1,h2⟩
  · have e1 : (((1 : Nat) : Int) == 1) = true:=rfl
    have d1 : decide (z < 0) = false:=by simpa using h1
    have d2 : decide (z > 1) = false:=by simpa using h2
    simp -implicitDefEqProofs only [go_sem,↓reduceIte,Nat.reduceLT,Nat.reduceEqDiff,Nat.reduceAdd,Nat.reduceMul,Nat.reduceLeDiff,Nat.reduceSub,r129_0_go,r129_0U,r129_1_go,r129_1U,r129_2_go,r129_2U,r129_3_go,r129_3U,r129_4_go,r129_4U,Option.getD_some,e1,d1,d2]
    exact ⟨_,_,rfl,(Ext.refl _).push _ _,hw.push _ _,rfl⟩
  · have e1 : (((2 : Nat) : Int) == 1) = false:=rfl
    have d1 : decide (z < -999999999) = false:=by simp; omega
    have d2 : decide (z > 999999999) = false:=by simp; omega
    simp -implicitDefEqProofs only [go_sem,↓reduceIte,Nat.reduceLT,Nat.reduceEqDiff,Nat.reduceAdd,Nat.reduceMul,Nat.reduceLeDiff,Nat.reduceSub,r129_0_go,r129_0U,r129_1_go,r129_1U,r129_2_go,r129_2U,r129_4_go,r129_4U,Option.getD_some,e1,d1,d2]
    exact ⟨_,_,rfl,(Ext.refl _).push _ _,hw.push _ _,rfl⟩
theorem inspectText_go (n k : Nat) (z : Int) (t : ByteArray) (q : Value) (hq : oneCell q = true) (σ : FState) (hw : Wf σ)
    (hk : k = 3 ∧ (∀ σ',Ext σ σ' → Wf σ' → Gives ((env n).call 148 [.string t] none σ') σ' fun w _ => w = .bool true) ∨
      k = 4 ∧ t.size ≤ 60 ∧ (∀ σ',Ext σ σ' → Wf σ' → Gives ((env n).call 149 [.string t] none σ') σ' fun w _ => w = .bool true)) :
    Gives ((env (n + 1)).call 130 [.agg #[.int .i64 (k : Int),.int .i64 z,.string t,q]] none σ) σ fun w _ => w = .tuple #[]:=by
  have hX:=(Ext.refl σ).push (.cells [.int .i64 (k : Int),.int .i64 z,.string t,q] 161) none
  have hw1:=hw.push (.cells [.int .i64 (k : Int),.int .i64 z,.string t,q] 161) none
  have hc : (σ.push (.cells [.int .i64 (k : Int),.int .i64 z,.string t,q] 161) none).cells σ.next = some [.int .i64 (k : Int),.int .i64 z,.string t,q]:=by rw [cells_push,if_pos rfl]; rfl
  rw [env_call _ 130 _ _ rfl,enter130 _ _ _ _ (by simp),Sl_start]
  unfold run130
  rcases hk with ⟨rfl,h⟩ | ⟨rfl,hs,h⟩
  · have e3 : (((3 : Nat) : Int) == 3) = true:=rfl
    have e4 : (((3 : Nat) : Int) == 4) = false:=rfl
    obtain ⟨_,σ2,e,hX2,hw2,rfl⟩:=h _ hX hw1
    have hc2:=(hX2.cells (Nat.lt_succ_self _)).trans hc
    simp -implicitDefEqProofs only [go_sem,↓reduceIte,Nat.reduceLT,Nat.reduceEqDiff,Nat.reduceAdd,Nat.reduceMul,Nat.reduceLeDiff,Nat.reduceSub,r130_0_go,r130_0U,r130_1_go,r130_1U,r130_3_go,r130_3U,r130_5_go,r130_5U,Option.getD_some,e3,e4,e,hc2]
    exact ⟨_,_,rfl,hX.trans hX2,hw2,rfl⟩
  · have e3 : (((4 : Nat) : Int) == 3) = false:=rfl
    have e4 : (((4 : Nat) : Int) == 4) = true:=rfl
    have d1 : decide ((Int.ofNat t.size) > 60) = false:=by simp; omega
    obtain ⟨_,σ2,e,hX2,hw2,rfl⟩:=h _ hX hw1
    have hc2:=(hX2.cells (Nat.lt_succ_self _)).trans hc
    simp -implicitDefEqProofs only [go_sem,↓reduceIte,Nat.reduceLT,Nat.reduceEqDiff,Nat.reduceAdd,Nat.reduceMul,Nat.reduceLeDiff,Nat.reduceSub,r130_0_go,r130_0U,r130_1_go,r130_1U,r130_3_go,r130_3U,r130_5_go,r130_5U,Option.getD_some,e3,e4,e,hc2,d1]
    exact ⟨_,_,rfl,hX.trans hX2,hw2,rfl⟩
theorem invEmpty (v : Value) (σ : FState) : finvoke Tryz.prog (.iface 181 v) "caracole/datum.formed" [] σ = .enter 214 [v] σ:=by kernel_rfl
theorem invNumber (v : Value) (σ : FState) : finvoke Tryz.prog (.iface 173 v) "caracole/datum.formed" [] σ = .enter 212 [v] σ:=by kernel_rfl
theorem invText (v : Value) (σ : FState) : finvoke Tryz.prog (.iface 161 v) "caracole/datum.formed" [] σ = .enter 206 [v] σ:=by kernel_rfl
theorem invBranch (v : Value) (σ : FState) : finvoke Tryz.prog (.iface 182 v) "caracole/datum.formed" [] σ = .enter 216 [v] σ:=by kernel_rfl
theorem asNumber (v : Value) (σ : FState) : fassert Tryz.prog (.iface 173 v) 173 true σ = .val (.tuple #[v,.bool true]) σ:=by kernel_rfl
theorem asText (v : Value) (σ : FState) : fassert Tryz.prog (.iface 161 v) 161 true σ = .val (.tuple #[v,.bool true]) σ:=by kernel_rfl
theorem asEmptyN (v : Value) (σ : FState) : fassert Tryz.prog (.iface 181 v) 173 true σ = .val (.tuple #[.agg #[.int .i64 0,.int .i64 0,.string ⟨#[]⟩,.slice none 0 0],.bool false]) σ:=by kernel_rfl
theorem asEmptyT (v : Value) (σ : FState) : fassert Tryz.prog (.iface 181 v) 161 true σ = .val (.tuple #[.agg #[.int .i64 0,.int .i64 0,.string ⟨#[]⟩,.slice none 0 0],.bool false]) σ:=by kernel_rfl
theorem asTextN (v : Value) (σ : FState) : fassert Tryz.prog (.iface 161 v) 173 true σ = .val (.tuple #[.agg #[.int .i64 0,.int .i64 0,.string ⟨#[]⟩,.slice none 0 0],.bool false]) σ:=by kernel_rfl
theorem asBranchN (v : Value) (σ : FState) : fassert Tryz.prog (.iface 182 v) 173 true σ = .val (.tuple #[.agg #[.int .i64 0,.int .i64 0,.string ⟨#[]⟩,.slice none 0 0],.bool false]) σ:=by kernel_rfl
theorem asBranchT (v : Value) (σ : FState) : fassert Tryz.prog (.iface 182 v) 161 true σ = .val (.tuple #[.agg #[.int .i64 0,.int .i64 0,.string ⟨#[]⟩,.slice none 0 0],.bool false]) σ:=by kernel_rfl
inductive Good (m : Nat) : Nat → Int → ByteArray → Nat → Prop
  | nil : Good m 0 0 ⟨#[]⟩ 0
  | bool (z : Int) (h : 0 ≤ z ∧ z ≤ 1) : Good m 1 z ⟨#[]⟩ 0
  | num (z : Int) (h : -999999999 ≤ z ∧ z ≤ 999999999) : Good m 2 z ⟨#[]⟩ 0
  | sym (t : ByteArray) (h : ∀ σ',Wf σ' → Gives ((env m).call 148 [.string t] none σ') σ' fun w _ => w = .bool true) : Good m 3 0 t 0
  | str (t : ByteArray) (hs : t.size ≤ 60) (h : ∀ σ',Wf σ' → Gives ((env m).call 149 [.string t] none σ') σ' fun w _ => w = .bool true) : Good m 4 0 t 0
  | pair : Good m 5 0 ⟨#[]⟩ 2
  | vec (l : Nat) : Good m 6 0 ⟨#[]⟩ l
theorem inspect_go (n k : Nat) (z : Int) (t : ByteArray) (p : Option Addr) (l c : Nat) (hG : Good n k z t l) (σ : FState) (hw : Wf σ) :
    Gives ((env (n + 2)).call 103 [.agg #[.int .i64 (k : Int),.int .i64 z,.string t,.slice p l c]] none σ) σ fun w _ => w = .tuple #[]:=by
  have hk : k ≤ 6:=by cases hG <;> decide
  have hX1:=(Ext.refl σ).push (.cells [.int .i64 (k : Int),.int .i64 z,.string t,.slice p l c] 28) none
  have hw1:=hw.push (.cells [.int .i64 (k : Int),.int .i64 z,.string t,.slice p l c] 28) none
  obtain ⟨_,σ2,e2,hX2,hw2,rfl⟩:=atWork_go n k hk z t (.slice p l c) rfl _ hw1
  have hX:=hX1.trans hX2
  rw [env_call _ 103 _ _ rfl,enter103 _ _ _ _ (by simp),Sl_start]
  unfold run103
  cases hG with
  | nil =>
    obtain ⟨_,σ3,e3,hX3,hw3,rfl⟩:=formed_empty n ((0 : Nat) : Int) p c σ2 hw2
    have wt : workType 0 = 181:=rfl
    simp -implicitDefEqProofs only [go_sem,↓reduceIte,Nat.reduceLT,Nat.reduceEqDiff,Nat.reduceAdd,Nat.reduceMul,Nat.reduceLeDiff,Nat.reduceSub,r103_0_go,r103_0U,r103_1_go,r103_1U,r103_2_go,r103_2U,r103_4_go,r103_4U,r103_5_go,r103_5U,r103_8_go,r103_8U,Option.getD_some,e2,wt,invEmpty,e3,asEmptyN,asEmptyT,List.getElem?_cons_zero,List.getElem?_cons_succ]
    exact ⟨_,_,rfl,hX.trans hX3,hw3,rfl⟩
  | bool z h =>
    obtain ⟨_,σ3,e3,hX3,hw3,rfl⟩:=formed_number n ((1 : Nat) : Int) z p c σ2 hw2
    obtain ⟨_,σ5,e5,hX5,hw5,rfl⟩:=inspectNum_go n 1 z (.inl ⟨rfl,h⟩) ⟨#[]⟩ (.slice p 0 c) rfl ((σ3.push (.cells [.int .i64 0,.int .i64 0,.string ⟨#[]⟩,.slice none 0 0] 173) none).put σ3.next (.cells [.int .i64 ((1 : Nat) : Int),.int .i64 z,.string ⟨#[]⟩,.slice p 0 c] 173) none) ((hw3.push _ _).put _ _ _ (Nat.lt_succ_self _))
    have hX4:=(((hX.trans hX3).push (.cells [.int .i64 0,.int .i64 0,.string ⟨#[]⟩,.slice none 0 0] 173) none).put σ3.next (.cells [.int .i64 ((1 : Nat) : Int),.int .i64 z,.string ⟨#[]⟩,.slice p 0 c] 173) none (hX.trans hX3).next).trans hX5
    have wt : workType 1 = 173:=rfl
    simp -implicitDefEqProofs only [go_sem,↓reduceIte,Nat.reduceLT,Nat.reduceEqDiff,Nat.reduceAdd,Nat.reduceMul,Nat.reduceLeDiff,Nat.reduceSub,fstoreN,r103_0_go,r103_0U,r103_1_go,r103_1U,r103_2_go,r103_2U,r103_4_go,r103_4U,r103_5_go,r103_5U,r103_6_go,r103_6U,r103_7_go,r103_7U,Option.getD_some,e2,wt,invNumber,e3,asNumber,e5,List.getElem?_cons_zero,List.getElem?_cons_succ]
    exact ⟨_,_,rfl,hX4,hw5,rfl⟩
  | num z h =>
    obtain ⟨_,σ3,e3,hX3,hw3,rfl⟩:=formed_number n ((2 : Nat) : Int) z p c σ2 hw2
    obtain ⟨_,σ5,e5,hX5,hw5,rfl⟩:=inspectNum_go n 2 z (.inr ⟨rfl,h⟩) ⟨#[]⟩ (.slice p 0 c) rfl ((σ3.push (.cells [.int .i64 0,.int .i64 0,.string ⟨#[]⟩,.slice none 0 0] 173) none).put σ3.next (.cells [.int .i64 ((2 : Nat) : Int),.int .i64 z,.string ⟨#[]⟩,.slice p 0 c] 173) none) ((hw3.push _ _).put _ _ _ (Nat.lt_succ_self _))
    have hX4:=(((hX.trans hX3).push (.cells [.int .i64 0,.int .i64 0,.string ⟨#[]⟩,.slice none 0 0] 173) none).put σ3.next (.cells [.int .i64 ((2 : Nat) : Int),.int .i64 z,.string ⟨#[]⟩,.slice p 0 c] 173) none (hX.trans hX3).next).trans hX5
    have wt : workType 2 = 173:=rfl
    simp -implicitDefEqProofs only [go_sem,↓reduceIte,Nat.reduceLT,Nat.reduceEqDiff,Nat.reduceAdd,Nat.reduceMul,Nat.reduceLeDiff,Nat.reduceSub,fstoreN,r103_0_go,r103_0U,r103_1_go,r103_1U,r103_2_go,r103_2U,r103_4_go,r103_4U,r103_5_go,r103_5U,r103_6_go,r103_6U,r103_7_go,r103_7U,Option.getD_some,e2,wt,invNumber,e3,asNumber,e5,List.getElem?_cons_zero,List.getElem?_cons_succ]
    exact ⟨_,_,rfl,hX4,hw5,rfl⟩
  | sym t h =>
    obtain ⟨_,σ3,e3,hX3,hw3,rfl⟩:=formed_text n ((3 : Nat) : Int) t p c σ2 hw2
    obtain ⟨_,σ5,e5,hX5,hw5,rfl⟩:=inspectText_go n 3 0 t (.slice p 0 c) rfl ((σ3.push (.cells [.int .i64 0,.int .i64 0,.string ⟨#[]⟩,.slice none 0 0] 161) none).put σ3.next (.cells [.int .i64 ((3 : Nat) : Int),.int .i64 0,.string t,.slice p 0 c] 161) none) ((hw3.push _ _).put _ _ _ (Nat.lt_succ_self _)) (.inl ⟨rfl,fun σ' _ => h σ'⟩)
    have hX4:=(((hX.trans hX3).push (.cells [.int .i64 0,.int .i64 0,.string ⟨#[]⟩,.slice none 0 0] 161) none).put σ3.next (.cells [.int .i64 ((3 : Nat) : Int),.int .i64 0,.string t,.slice p 0 c] 161) none (hX.trans hX3).next).trans hX5
    have wt : workType 3 = 161:=rfl
    simp -implicitDefEqProofs only [go_sem,↓reduceIte,Nat.reduceLT,Nat.reduceEqDiff,Nat.reduceAdd,Nat.reduceMul,Nat.reduceLeDiff,Nat.reduceSub,fstoreN,r103_0_go,r103_0U,r103_1_go,r103_1U,r103_2_go,r103_2U,r103_4_go,r103_4U,r103_5_go,r103_5U,r103_8_go,r103_8U,r103_9_go,r103_9U,r103_10_go,r103_10U,Option.getD_some,e2,wt,invText,e3,asText,asTextN,e5,List.getElem?_cons_zero,List.getElem?_cons_succ]
    exact ⟨_,_,rfl,hX4,hw5,rfl⟩
  | str t hs h =>
    obtain ⟨_,σ3,e3,hX3,hw3,rfl⟩:=formed_text n ((4 : Nat) : Int) t p c σ2 hw2
    obtain ⟨_,σ5,e5,hX5,hw5,rfl⟩:=inspectText_go n 4 0 t (.slice p 0 c) rfl ((σ3.push (.cells [.int .i64 0,.int .i64 0,.string ⟨#[]⟩,.slice none 0 0] 161) none).put σ3.next (.cells [.int .i64 ((4 : Nat) : Int),.int .i64 0,.string t,.slice p 0 c] 161) none) ((hw3.push _ _).put _ _ _ (Nat.lt_succ_self _)) (.inr ⟨rfl,hs,fun σ' _ => h σ'⟩)
    have hX4:=(((hX.trans hX3).push (.cells [.int .i64 0,.int .i64 0,.string ⟨#[]⟩,.slice none 0 0] 161) none).put σ3.next (.cells [.int .i64 ((4 : Nat) : Int),.int .i64 0,.string t,.slice p 0 c] 161) none (hX.trans hX3).next).trans hX5
    have wt : workType 4 = 161:=rfl
    simp -implicitDefEqProofs only [go_sem,↓reduceIte,Nat.reduceLT,Nat.reduceEqDiff,Nat.reduceAdd,Nat.reduceMul,Nat.reduceLeDiff,Nat.reduceSub,fstoreN,r103_0_go,r103_0U,r103_1_go,r103_1U,r103_2_go,r103_2U,r103_4_go,r103_4U,r103_5_go,r103_5U,r103_8_go,r103_8U,r103_9_go,r103_9U,r103_10_go,r103_10U,Option.getD_some,e2,wt,invText,e3,asText,asTextN,e5,List.getElem?_cons_zero,List.getElem?_cons_succ]
    exact ⟨_,_,rfl,hX4,hw5,rfl⟩
  | pair =>
    obtain ⟨_,σ3,e3,hX3,hw3,rfl⟩:=formed_pair n p c σ2 hw2
    have e3' : (env (n + 1)).call 216 [.agg #[.int .i64 ((5 : Nat) : Int),.int .i64 0,.string ⟨#[]⟩,.slice p 2 c]] none σ2 = .ret (.bool true) none σ3:=e3
    have wt : workType 5 = 182:=rfl
    simp -implicitDefEqProofs only [go_sem,↓reduceIte,Nat.reduceLT,Nat.reduceEqDiff,Nat.reduceAdd,Nat.reduceMul,Nat.reduceLeDiff,Nat.reduceSub,r103_0_go,r103_0U,r103_1_go,r103_1U,r103_2_go,r103_2U,r103_4_go,r103_4U,r103_5_go,r103_5U,r103_8_go,r103_8U,Option.getD_some,e2,wt,invBranch,e3',asBranchN,asBranchT,List.getElem?_cons_zero,List.getElem?_cons_succ]
    exact ⟨_,_,rfl,hX.trans hX3,hw3,rfl⟩
  | vec l =>
    obtain ⟨_,σ3,e3,hX3,hw3,rfl⟩:=formed_vec n p l c σ2 hw2
    have e3' : (env (n + 1)).call 216 [.agg #[.int .i64 ((6 : Nat) : Int),.int .i64 0,.string ⟨#[]⟩,.slice p l c]] none σ2 = .ret (.bool true) none σ3:=e3
    have wt : workType 6 = 182:=rfl
    simp -implicitDefEqProofs only [go_sem,↓reduceIte,Nat.reduceLT,Nat.reduceEqDiff,Nat.reduceAdd,Nat.reduceMul,Nat.reduceLeDiff,Nat.reduceSub,r103_0_go,r103_0U,r103_1_go,r103_1U,r103_2_go,r103_2U,r103_4_go,r103_4U,r103_5_go,r103_5U,r103_8_go,r103_8U,Option.getD_some,e2,wt,invBranch,e3',asBranchN,asBranchT,List.getElem?_cons_zero,List.getElem?_cons_succ]
    exact ⟨_,_,rfl,hX.trans hX3,hw3,rfl⟩
end Go.Proofs.YtodkeaoikjjneaaGreatDoor
/- Texts of data that DatumOf makes: symbols, strings. -/
namespace Go.Proofs.YtodkeaoikjjneaaGreatDoor
open Go Go.Eng
attribute [local congr] andThen_congr fops_congr fdraw_congr afterOp_congr drawF_congr
attribute [-go_sem] List.range_succ
theorem symbol_go (n : Nat) (t : ByteArray) (ht : t ∈ symTexts) (σ : FState) : (env (n + 20)).call 148 [.string t] none σ = .ret (.bool true) none σ:=by
  simp only [symTexts,List.mem_cons,List.not_mem_nil,or_false] at ht
  rcases ht with rfl | rfl | rfl | rfl | rfl | rfl | rfl | rfl <;> kernel_rfl
theorem lss_i32 (x y : Operand) (a b : Int) (σ : FState) : i_lss Tryz.prog 21 x y (.int .i32 a) (.int .i32 b) σ = .val (.bool (decide (a < b))) σ:=by kernel_rfl
theorem gtr_i32 (x y : Operand) (a b : Int) (σ : FState) : i_gtr Tryz.prog 21 x y (.int .i32 a) (.int .i32 b) σ = .val (.bool (decide (a > b))) σ:=by kernel_rfl
theorem fnext_more {r : Nat} {σ : FState} {s : ByteArray} {pos w ver c : Nat} (hg : σ.heap.get r = some ⟨.siter s pos,false,none,ver⟩) (h : pos < s.size) (hd : Utf8.decode s pos = (c,w)) :
    fnext (.pointer (some ⟨r,0,none⟩)) σ = .val (.tuple #[.bool true,goInt pos,.int .i32 (c : Int)]) (σ.put r (.siter s (pos + w)) none):=by
  unfold fnext
  simp only [hg,hd]
  rw [show Nat.blt pos s.size = true by simpa [Nat.blt_eq] using h]
  rfl
theorem fnext_end {r : Nat} {σ : FState} {s : ByteArray} {pos ver : Nat} (hg : σ.heap.get r = some ⟨.siter s pos,false,none,ver⟩) (h : ¬ pos < s.size) :
    fnext (.pointer (some ⟨r,0,none⟩)) σ = .val (.tuple #[.bool false]) σ:=by
  unfold fnext
  simp only [hg]
  rw [show Nat.blt pos s.size = false by rw [← Bool.not_eq_true,Nat.blt_eq]; exact h]
  rfl
def PlainText (s : ByteArray) : Prop:=∀ pos,pos < s.size → ∃ c : Nat,Utf8.decode s pos = (c,1) ∧ 32 ≤ c ∧ c ≤ 126
theorem keep149 : keepOf nls 149 = [6]:=by kernel_rfl
theorem isPlain_loop (n r : Nat) (s : ByteArray) (hs : PlainText s) (σ0 : FState) (hr : σ0.next ≤ r) : ∀ (m pos fuel : Nat) (f g : Nat → Value) (σ : FState),pos + m = s.size → m < fuel → g 6 = .pointer (some ⟨r,0,none⟩) → Wf σ → Ext σ0 σ →
    (∃ ver,σ.heap.get r = some ⟨.siter s pos,false,none,ver⟩) →
    ∃ f' g' σ',floop [6] (l149_0 (env n) none 149) fuel (Sl 5 16 f g []) none σ = .done (.exit 0) (Sl 5 16 f' g' []) none σ' ∧ Wf σ' ∧ Ext σ0 σ':=by
  intro m
  induction m with
  | zero =>
    intro pos fuel f g σ hp hf h6 hw hX ⟨ver,hg⟩
    obtain ⟨fuel,rfl⟩ : ∃ q,fuel = q + 1:=⟨fuel - 1,by omega⟩
    have hn:=fnext_end hg (by omega)
    rw [floop_step]
    unfold l149_0
    simp -implicitDefEqProofs only [go_sem,↓reduceIte,Nat.reduceLT,Nat.reduceEqDiff,Nat.reduceAdd,Nat.reduceMul,Nat.reduceLeDiff,Nat.reduceSub,r149_2_go,r149_2U,h6,hn,List.mem_cons,List.not_mem_nil]
    exact ⟨_,_,_,rfl,hw,hX⟩
  | succ m ih =>
    intro pos fuel f g σ hp hf h6 hw hX ⟨ver,hg⟩
    obtain ⟨fuel,rfl⟩ : ∃ q,fuel = q + 1:=⟨fuel - 1,by omega⟩
    obtain ⟨c,hd,h1,h2⟩:=hs pos (by omega)
    have hn:=fnext_more hg (by omega) hd
    have d1 : decide ((c : Int) < 32) = false:=by simp; omega
    have d2 : decide ((c : Int) > 126) = false:=by simp; omega
    rw [floop_step]
    unfold l149_0
    simp -implicitDefEqProofs only [go_sem,↓reduceIte,Nat.reduceLT,Nat.reduceEqDiff,Nat.reduceAdd,Nat.reduceMul,Nat.reduceLeDiff,Nat.reduceSub,r149_2_go,r149_2U,r149_3_go,r149_3U,r149_4_go,r149_4U,h6,hn,List.mem_cons,List.not_mem_nil,lss_i32,gtr_i32,d1,d2]
    refine ih (pos + 1) fuel _ _ _ (by omega) (by omega) ?_ (hw.put _ _ _ (hw _ _ hg).1) (hX.put _ _ _ hr) ⟨_,by rw [put_get,if_pos rfl]⟩
    simp -implicitDefEqProofs only [upd_go,kept_go,↓reduceIte,Nat.reduceEqDiff,Nat.reduceLT,reduceCtorEq,h6,List.mem_cons,List.not_mem_nil,true_or]
theorem isPlain_go (n : Nat) (s : ByteArray) (hs : PlainText s) (hsz : s.size < 1000000) (σ : FState) (hw : Wf σ) : Gives ((env (n + 1)).call 149 [.string s] none σ) σ fun w _ => w = .bool true:=by
  rw [env_call _ 149 _ _ rfl,enter149 _ _ _ _ (by simp),Sl_start]
  unfold run149
  have hfr : frangeS (.string s) σ = .val (.pointer (some ⟨σ.next,0,none⟩)) (σ.push (.siter s 0) none):=rfl
  simp -implicitDefEqProofs only [go_sem,↓reduceIte,Nat.reduceLT,Nat.reduceEqDiff,Nat.reduceAdd,Nat.reduceMul,Nat.reduceLeDiff,Nat.reduceSub,r149_0_go,r149_0U,r149_1_go,r149_1U,Option.getD_some,hfr,keep149]
  generalize hf : upd (fun _ => _) 2 _ = f1
  generalize hbf : bigFuel = fuel
  obtain ⟨f',g',σ',e,hw',hX'⟩:=isPlain_loop n σ.next s hs σ (Nat.le_refl _) s.size 0 fuel f1 (upd (upd (fun _ => undef) 5 (.string s)) 6 (.pointer (some ⟨σ.next,0,none⟩))) (σ.push (.siter s 0) none) (by omega) (by rw [← hbf]; show s.size < 1000000000000; omega) (by simp -implicitDefEqProofs only [upd_go,kept_go,↓reduceIte,Nat.reduceEqDiff,Nat.reduceLT,reduceCtorEq]) (hw.push _ _) ((Ext.refl _).push _ _) ⟨_,by rw [push_get,if_pos rfl]⟩
  rw [e]
  simp -implicitDefEqProofs only [go_sem,↓reduceIte,Nat.reduceLT,Nat.reduceEqDiff,Nat.reduceAdd,Nat.reduceMul,Nat.reduceLeDiff,Nat.reduceSub,r149_6_go,r149_6U]
  exact ⟨_,_,rfl,hX',hw',rfl⟩
theorem plain_of (s : ByteArray) (h : ((List.range s.size).all fun p => (Utf8.decode s p).2 == 1 && decide (32 ≤ (Utf8.decode s p).1) && decide ((Utf8.decode s p).1 ≤ 126)) = true) : PlainText s:=by
  intro pos hp
  have:=List.all_eq_true.1 h pos (List.mem_range.2 hp)
  simp only [Bool.and_eq_true,beq_iff_eq,decide_eq_true_eq] at this
  exact ⟨(Utf8.decode s pos).1,by rw [← this.1.1],this.1.2,this.2⟩
theorem string_go (n : Nat) (t : ByteArray) (ht : t ∈ strTexts) (σ : FState) (hw : Wf σ) : Gives ((env (n + 1)).call 149 [.string t] none σ) σ fun w _ => w = .bool true:=by
  simp only [strTexts,List.mem_cons,List.not_mem_nil,or_false] at ht
  rcases ht with rfl | rfl | rfl | rfl | rfl <;> exact isPlain_go n _ (plain_of _ (by kernel_rfl)) (by decide) σ hw
theorem leaf_good (n : Nat) {k : Int} {z : Int} {t : ByteArray} {l : List D} (h : Leaf (.mk k z t l)) : ∃ k' : Nat,k = (k' : Int) ∧ Good (n + 20) k' z t 0 ∧ l = []:=by
  cases h with
  | nil => exact ⟨0,rfl,.nil,rfl⟩
  | bool b => exact ⟨1,rfl,.bool _ (by cases b <;> simp),rfl⟩
  | num z h => exact ⟨2,rfl,.num _ (by omega),rfl⟩
  | sym t ht => exact ⟨3,rfl,.sym _ fun σ' hw => ⟨_,σ',symbol_go n t ht σ',Ext.refl _,hw,rfl⟩,rfl⟩
  | str t ht => exact ⟨4,rfl,.str _ (by
      simp only [strTexts,List.mem_cons,List.not_mem_nil,or_false] at ht
      rcases ht with rfl | rfl | rfl | rfl | rfl <;> decide) fun σ' hw => string_go (n + 19) t ht σ' hw,rfl⟩
end Go.Proofs.YtodkeaoikjjneaaGreatDoor
/- The walker of package datum: what it asks, and the coil's making. -/
namespace Go.Proofs.YtodkeaoikjjneaaGreatDoor
open Go Go.Eng
attribute [local congr] andThen_congr fops_congr fdraw_congr afterOp_congr drawF_congr
attribute [-go_sem] List.range_succ
theorem newCoil_go (n : Nat) (p : Option Addr) (l : List Int) (cp : Nat) (hl : l.length < 9223372036854775808) (σ : FState) (hw : Wf σ) (hI : Ints σ p l) (hp : ∀ a,p = some a → a.block < σ.next) :
    ∃ σ',(env (n + 1)).call 11 [.slice p l.length cp] none σ = .ret (.pointer (some ⟨σ.next,0,none⟩)) none σ' ∧ Ext σ σ' ∧ Wf σ' ∧ Coil σ' σ.next 0:=by
  rw [env_call _ 11 _ _ rfl,enter11 _ _ _ _ (by simp),Sl_start]
  unfold run11
  simp -implicitDefEqProofs only [go_sem,↓reduceIte,Nat.reduceLT,Nat.reduceEqDiff,Nat.reduceAdd,Nat.reduceMul,Nat.reduceLeDiff,Nat.reduceSub,fstoreN,r11_0_go,r11_0U,r11_1_go,r11_1U,Option.getD_some]
  refine ⟨_,rfl,(Ext.refl _).push _ _,hw.push _ _,p,l,cp,_,_,by rw [push_get,if_pos rfl]; rfl,?_,hl,hp⟩
  intro i z hi
  obtain ⟨b,off,cs,hb,h1,h2⟩:=hI i z hi
  exact ⟨b,off,cs,hb,by rw [cells_push,if_neg (Nat.ne_of_lt (hp _ hb))]; exact h1,h2⟩
theorem enter_go (n x : Nat) (k : Int) (hk : k ≤ 2000) (p : Option Addr) (l c : Nat) (σ : FState) (m : Value) (hc : σ.cells x = some [.int .i64 k,m]) :
    (env (n + 1)).call 101 [.pointer (some ⟨x,0,none⟩),.slice p l c] none σ = .ret (.bool true) none σ:=by
  have d1 : decide (k ≤ 2000) = true:=by simpa using hk
  rw [env_call _ 101 _ _ rfl,enter101 _ _ _ _ (by simp),Sl_start]
  unfold run101
  cases e : (Int.ofNat l == 0) with
  | true => simp -implicitDefEqProofs only [go_sem,↓reduceIte,Nat.reduceLT,Nat.reduceEqDiff,Nat.reduceAdd,Nat.reduceMul,Nat.reduceLeDiff,Nat.reduceSub,r101_0_go,r101_0U,r101_1_go,r101_1U,r101_2_go,r101_2U,Option.getD_some,e]
  | false => simp -implicitDefEqProofs only [go_sem,↓reduceIte,Nat.reduceLT,Nat.reduceEqDiff,Nat.reduceAdd,Nat.reduceMul,Nat.reduceLeDiff,Nat.reduceSub,r101_0_go,r101_0U,r101_1_go,r101_1U,r101_2_go,r101_2U,Option.getD_some,e,hc,d1]
theorem inside_go (n : Nat) (g : Value) (w : Nat) (first : Array Value) (hg : g = .func (.func w) first #[]) (k z : Int) (t : ByteArray) (s : Value) (hs : oneCell s = true) (σ : FState) (hw : Wf σ)
    (h : ∀ σ',Ext σ σ' → Wf σ' → Gives ((env n).call w (first.toList ++ [s]) none σ') σ' fun v _ => v = .bool true) :
    Gives ((env (n + 1)).call 128 [.agg #[g],.agg #[.int .i64 k,.int .i64 z,.string t,s]] none σ) σ fun v _ => v = s:=by
  subst hg
  have hX1:=((Ext.refl σ).push (.cells [.func (.func w) first #[]] 129) none).push (.cells [.int .i64 k,.int .i64 z,.string t,s] 28) none
  have hw1:=(hw.push (.cells [.func (.func w) first #[]] 129) none).push (.cells [.int .i64 k,.int .i64 z,.string t,s] 28) none
  obtain ⟨_,σ2,e2,hX2,hw2,rfl⟩:=h _ hX1 hw1
  have c2 : σ2.cells (σ.next + 1) = some [.int .i64 k,.int .i64 z,.string t,s]:=(hX2.cells (Nat.lt_succ_self _)).trans (by rw [cells_push,if_pos (by rw [push_next])]; rfl)
  rw [env_call _ 128 _ _ rfl,enter128 _ _ _ _ (by simp),Sl_start]
  unfold run128
  simp -implicitDefEqProofs only [go_sem,↓reduceIte,Nat.reduceLT,Nat.reduceEqDiff,Nat.reduceAdd,Nat.reduceMul,Nat.reduceLeDiff,Nat.reduceSub,r128_0_go,r128_0U,r128_1_go,r128_1U,r128_3_go,r128_3U,Option.getD_some,e2,c2,notTuple_func,valCells_func]
  exact ⟨_,_,rfl,hX1.trans hX2,hw2,rfl⟩
end Go.Proofs.YtodkeaoikjjneaaGreatDoor
/- Pieces of data in the order in which a walker meets them, and where it stands; stacks in memory. Nothing of a program. -/
namespace Go.Eng
open Go
def D.parts : D → List D
  | .mk _ _ _ ds => ds
mutual
def D.pieces (path : List Nat) : D → List (List Nat × D)
  | .mk k n t ds => (path,.mk k n t ds) :: D.piecesL path 0 ds
def D.piecesL (path : List Nat) (i : Nat) : List D → List (List Nat × D)
  | [] => []
  | d :: ds => D.pieces (path ++ [i]) d ++ D.piecesL path (i + 1) ds
end
theorem D.pieces_eq (path : List Nat) (d : D) : d.pieces path = (path,d) :: D.piecesL path 0 d.parts:=by
  cases d
  simp [D.pieces,D.parts]
def wayOf (st : List (List D × Nat)) : List Nat:=(st.map (·.2)).reverse
theorem wayOf_cons (ds : List D) (i : Nat) (r : List (List D × Nat)) : wayOf ((ds,i) :: r) = wayOf r ++ [i]:=by simp [wayOf]
theorem wayOf_length (st : List (List D × Nat)) : (wayOf st).length = st.length:=by simp [wayOf]
def below : List (List D × Nat) → List (List Nat × D)
  | [] => []
  | (ds,i) :: r => D.piecesL (wayOf r) (i + 1) (ds.drop (i + 1)) ++ below r
def todo : List (List D × Nat) → List (List Nat × D)
  | [] => []
  | (ds,i) :: r => D.piecesL (wayOf r) i (ds.drop i) ++ below r
theorem todo_push {ds : List D} {i : Nat} {d : D} (r : List (List D × Nat)) (h : ds[i]? = some d) : todo ((ds,i) :: r) = (wayOf r ++ [i],d) :: todo ((d.parts,0) :: (ds,i) :: r):=by
  have hd : ds.drop i = d :: ds.drop (i + 1):=by
    obtain ⟨hi,rfl⟩:=List.getElem?_eq_some_iff.1 h
    rw [List.drop_eq_getElem_cons hi]
  show D.piecesL (wayOf r) i (ds.drop i) ++ below r = _
  rw [hd,D.piecesL,D.pieces_eq]
  show _ = (wayOf r ++ [i],d) :: (D.piecesL (wayOf ((ds,i) :: r)) 0 (d.parts.drop 0) ++ below ((ds,i) :: r))
  rw [wayOf_cons,below,List.drop_zero]
  simp
theorem todo_pop {ds : List D} (r : List (List D × Nat)) : todo ((ds,ds.length) :: r) = below r:=by
  show D.piecesL (wayOf r) ds.length (ds.drop ds.length) ++ below r = _
  rw [List.drop_length,D.piecesL,List.nil_append]
def bump : List (List D × Nat) → List (List D × Nat)
  | [] => []
  | (ds,i) :: r => (ds,i + 1) :: r
theorem below_bump (r : List (List D × Nat)) : below r = todo (bump r):=by cases r <;> rfl
structure Chg (F : Nat → Prop) (σ σ' : FState) : Prop where
  next : σ.next ≤ σ'.next
  clock : σ.clock ≤ σ'.clock
  get : ∀ b,b < σ.next → ¬ F b → σ'.heap.get b = σ.heap.get b
theorem Chg.refl (F : Nat → Prop) (σ : FState) : Chg F σ σ:=⟨Nat.le_refl _,Nat.le_refl _,fun _ _ _ => rfl⟩
theorem Chg.trans {F G : Nat → Prop} {σ σ₁ σ₂ : FState} (h : Chg F σ σ₁) (k : Chg G σ₁ σ₂) (hG : ∀ b,b < σ.next → G b → F b) : Chg F σ σ₂ :=
  ⟨Nat.le_trans h.next k.next,Nat.le_trans h.clock k.clock,fun b hb hF => (k.get b (Nat.lt_of_lt_of_le hb h.next) fun hg => hF (hG b hb hg)).trans (h.get b hb hF)⟩
theorem Chg.weaken {F G : Nat → Prop} {σ σ' : FState} (h : Chg F σ σ') (hG : ∀ b,b < σ.next → F b → G b) : Chg G σ σ':=⟨h.next,h.clock,fun b hb hg => h.get b hb fun hf => hg (hG b hb hf)⟩
theorem Ext.chg {σ σ' : FState} (h : Ext σ σ') (F : Nat → Prop) : Chg F σ σ':=⟨h.next,h.clock,fun b hb _ => h.get b hb⟩
theorem Chg.push {F : Nat → Prop} {σ σ₁ : FState} (h : Chg F σ σ₁) (o : FObj) (fz : Option Nat) : Chg F σ (σ₁.push o fz) :=
  ⟨Nat.le_succ_of_le h.next,Nat.le_succ_of_le h.clock,fun b hb hF => by
    rw [push_get,if_neg (by have:=h.next; omega)]
    exact h.get b hb hF⟩
theorem Chg.put {F : Nat → Prop} {σ σ₁ : FState} (h : Chg F σ σ₁) (c : Nat) (o : FObj) (fz : Option Nat) (hc : σ.next ≤ c ∨ F c) : Chg F σ (σ₁.put c o fz) :=
  ⟨h.next,Nat.le_succ_of_le h.clock,fun b hb hF => by
    rw [put_get,if_neg (by
      intro he
      subst he
      rcases hc with hc | hc
      · omega
      · exact hF hc)]
    exact h.get b hb hF⟩
theorem Chg.cells {F : Nat → Prop} {σ σ' : FState} (h : Chg F σ σ') {b : Nat} (hb : b < σ.next) (hF : ¬ F b) : σ'.cells b = σ.cells b:=by
  rw [cells_get,cells_get,h.get b hb hF]
theorem Chg.ext {F : Nat → Prop} {σ σ' : FState} (h : Chg F σ σ') (hF : ∀ b,b < σ.next → ¬ F b) : Ext σ σ':=⟨h.next,h.clock,fun b hb => h.get b hb (hF b hb)⟩
def Stk (T : TypeId) (σ : FState) (b : Nat) (s : Value) (vs : List Value) : Prop :=
  ∃ c fz ver,s = .slice (some ⟨b,0,none⟩) vs.length c.length ∧ σ.heap.get b = some ⟨.cells c T,false,fz,ver⟩ ∧ (fz = none ∨ fz = some 1) ∧ ∃ more,c = vs ++ more
section
variable {T : TypeId} {σ σ' : FState} {b : Nat} {s : Value} {vs : List Value}
theorem Stk.keep (h : Stk T σ b s vs) (hb : σ'.heap.get b = σ.heap.get b) : Stk T σ' b s vs:=by
  obtain ⟨c,fz,ver,h1,h2,h3⟩:=h
  exact ⟨c,fz,ver,h1,hb.trans h2,h3⟩
theorem Stk.lt (h : Stk T σ b s vs) (hw : Wf σ) : b < σ.next:=by
  obtain ⟨c,fz,ver,h1,h2,h3⟩:=h
  exact (hw _ _ h2).1
theorem Stk.cells (h : Stk T σ b s vs) : ∃ more,s = .slice (some ⟨b,0,none⟩) vs.length (vs ++ more).length ∧ σ.cells b = some (vs ++ more):=by
  obtain ⟨c,fz,ver,h1,h2,h3,more,rfl⟩:=h
  exact ⟨more,h1,cells_of_get h2⟩
theorem Stk.pop {v : Value} (h : Stk T σ b s (vs ++ [v])) : ∃ n,s = .slice (some ⟨b,0,none⟩) (vs.length + 1) n ∧ vs.length ≤ n ∧ Stk T σ b (.slice (some ⟨b,0,none⟩) vs.length n) vs:=by
  obtain ⟨c,fz,ver,h1,h2,h3,more,rfl⟩:=h
  exact ⟨_,by rw [h1]; simp,by simp,_,fz,ver,rfl,h2,h3,v :: more,by simp⟩
theorem Stk.set {v v' : Value} (h : Stk T σ b s (vs ++ [v])) : ∃ more fz,σ.heap.get b = some ⟨.cells (vs ++ v :: more) T,false,fz,((σ.heap.get b).map (·.ver)).getD 0⟩ ∧ Stk T (σ.put b (.cells (vs ++ v' :: more) T) fz) b s (vs ++ [v']):=by
  obtain ⟨c,fz,ver,h1,h2,h3,more,rfl⟩:=h
  refine ⟨more,fz,by rw [h2]; simp,vs ++ v' :: more,fz,σ.clock,?_,by rw [put_get,if_pos rfl],h3,more,by simp⟩
  rw [h1]
  simp
theorem Stk.last {v : Value} (h : Stk T σ b s (vs ++ [v])) : ∃ c,σ.cells b = some c ∧ c[vs.length]? = some v:=by
  obtain ⟨c,fz,ver,h1,h2,h3,more,rfl⟩:=h
  exact ⟨_,cells_of_get h2,by simp⟩
theorem Stk.store {v v' : Value} (h : Stk T σ b s (vs ++ [v])) (hw : Wf σ) (ho : oneCell v' = true) :
    ∃ τ,fstore 1 (.pointer (some ⟨b,vs.length,none⟩)) v' σ = .skip τ ∧ Stk T τ b s (vs ++ [v']) ∧ Chg (· = b) σ τ ∧ Wf τ:=by
  have hb:=h.lt hw
  obtain ⟨c,fz,ver,h1,h2,h3,more,rfl⟩:=h
  have hs : (vs ++ [v] ++ more).set vs.length v' = vs ++ v' :: more:=by simp
  have hl : vs.length < (vs ++ [v] ++ more).length:=by simp
  refine ⟨σ.put b (.cells (vs ++ v' :: more) T) fz,?_,⟨vs ++ v' :: more,fz,σ.clock,?_,by rw [put_get,if_pos rfl],h3,more,by simp⟩,(Chg.refl (· = b) _).put _ _ _ (.inr rfl),hw.put _ _ _ hb⟩
  · rw [fstore1 _ _ _ _ ho,h2]
    simp only []
    rw [if_pos hl,hs]
  · rw [h1]
    simp
theorem Stk.append (h : Stk T σ b s vs) (hw : Wf σ) (v : Value) (bytes bx cx : Nat) (hx : σ.cells bx = some [v]) (ho : oneCell v = true) (hby : bytes < 1000) (hlen : vs.length < 100000) :
    ∃ b' s' τ,fappend T 1 bytes s (.slice (some ⟨bx,0,none⟩) 1 cx) σ = .val s' τ ∧ Stk T τ b' s' (vs ++ [v]) ∧ (b' = b ∨ b' = σ.next) ∧ Chg (· = b) σ τ ∧ Wf τ:=by
  have hb:=h.lt hw
  obtain ⟨c,fz,ver,rfl,h2,h3,more,rfl⟩:=h
  cases more with
  | nil =>
    rw [List.append_nil] at h2
    obtain ⟨τ,e,hτ⟩:=append1_full T bytes b bx cx vs.length ver fz vs v σ h2 h3 hx ho rfl hby hlen
    rw [List.append_nil]
    refine ⟨σ.next,_,τ,e,?_,.inr rfl,?_,?_⟩
    · rcases hτ with rfl | rfl
      · exact ⟨vs ++ [v],some 1,_,by simp,by rw [push_get,if_pos rfl],.inr rfl,[],by simp⟩
      · exact ⟨vs ++ [v],some 1,_,by simp,by rw [push_get,if_pos (by rw [put_next])],.inr rfl,[],by simp⟩
    · rcases hτ with rfl | rfl
      · exact (Chg.refl (· = b) _).push _ _
      · exact ((Chg.refl (· = b) _).put _ _ _ (.inr rfl)).push _ _
    · rcases hτ with rfl | rfl
      · exact hw.push _ _
      · exact (hw.put _ _ _ hb).push _ _
  | cons y more =>
    have hlt : vs.length < (vs ++ y :: more).length:=by simp
    refine ⟨b,_,_,append1_room T bytes b bx cx vs.length (vs ++ y :: more).length ver fz T _ v σ h2 hx ho hlt (Nat.le_refl _),?_,.inl rfl,(Chg.refl (· = b) _).put _ _ _ (.inr rfl),hw.put _ _ _ hb⟩
    have hs : (vs ++ y :: more).set vs.length v = vs ++ v :: more:=by
      rw [List.set_append_right _ _ (Nat.le_refl _),Nat.sub_self]
      rfl
    rw [hs]
    exact ⟨vs ++ v :: more,fz,_,by simp,by rw [put_get,if_pos rfl],h3,more,by simp⟩
end
end Go.Eng
/- Ranging over a function: the loop's record, its rounds, its end. -/
namespace Go.Proofs.YtodkeaoikjjneaaGreatDoor
open Go Go.Eng
section
variable (E : Env) (fn : FuncId) (params : List Tmp) (assign body : Code) (nl nt : Nat) (f g : Nat → Value) (ds : List Deferred) (u : Option FrameMode) (σ : FState)
def LoopAt (l r : Nat) (st : LoopState) (σ : FState) : Prop:=∃ ver,σ.heap.get l = some ⟨.loop st none fn ((List.range nl).map f) g nl nt params assign body r,false,none,ver⟩
theorem frange_go (t : Nat) (fx : FuncId) (first cap : Array Value) (h : (Sl nl nt f g ds).get t = .func (.func fx) first cap) :
    frange E none fn (.tmp t) params assign body (Sl nl nt f g ds) u σ = leaveLoop (σ.next + 1) [{ target:=.collected σ.next,args:=#[] }] (Sl nl nt f g ds) u
      (E.call fx (first.toList ++ [.func (.yield (σ.next + 1)) #[] #[]] ++ cap.toList) none ((σ.push (.defd true) none).push (.loop .ready none fn ((List.range nl).map f) g nl nt params assign body σ.next) none)):=by
  show enterLoop E fn (.tmp t) params assign body σ.next _ _ u _ = _
  unfold enterLoop
  rw [cget_tmp,h]
  rfl
theorem leaveLoop_go (l r : Nat) (mark : List Deferred) (v : Value) (u' : Option FrameMode) (h : LoopAt fn params assign body nl nt f g l r .ready σ) :
    leaveLoop l mark (Sl nl nt f g ds) u (.ret v u' σ) = .done .normal (Sl nl nt f g (mark ++ ds)) u (σ.put l (.loop .exhausted none fn ((List.range nl).map f) g nl nt params assign body r) none):=by
  obtain ⟨ver,h⟩:=h
  unfold leaveLoop
  simp only [h]
  rfl
theorem loop_made : LoopAt fn params assign body nl nt f g (σ.next + 1) σ.next .ready ((σ.push (.defd true) none).push (.loop .ready none fn ((List.range nl).map f) g nl nt params assign body σ.next) none) :=
  ⟨_,by rw [push_get,if_pos (by rw [push_next])]⟩
end
section
variable (fn : FuncId) (params : List Tmp) (assign body : Code) (nl nt : Nat) (f g : Nat → Value) (σ : FState)
theorem round_go (n l r : Nat) (args : List Value) (h : LoopAt fn params assign body nl nt f g l r .ready σ) (hn : args.length = params.length) :
    (env (n + 1)).round l args σ = (match code Tryz.prog nls assign (env n) (some l) fn (putAll (Sl nl nt f g []) (params.zip args)) none σ with
         | .done .normal a _ σ => beginRound l (fun σ => endRound (Tryz.prog.funcs[fn]?).isSome l (code Tryz.prog nls body (env n) (some l) fn a none σ)) σ
         | _ => .no):=by
  obtain ⟨ver,h⟩:=h
  rw [env_round]
  unfold fround
  simp only [h]
  rw [show Nat.beq (len args) (len params) = true by rw [Nat.beq_eq,len_eq,len_eq]; exact hn]
  rfl
theorem beginRound_go (l r : Nat) (k : FState → CRes) (h : LoopAt fn params assign body nl nt f g l r .ready σ) :
    beginRound l k σ = k (σ.put l (.loop .busy none fn ((List.range nl).map f) g nl nt params assign body r) none):=by
  obtain ⟨ver,h⟩:=h
  unfold beginRound
  simp only [h]
  rfl
theorem endRound_go (known : Bool) (l r : Nat) (a : FAct) (u : Option FrameMode) (h : LoopAt fn params assign body nl nt f g l r .busy σ) :
    endRound known l (.done .normal a u σ) = .ret (.bool true) none (σ.put l (.loop .ready none fn ((List.range nl).map f) g nl nt params assign body r) none):=by
  obtain ⟨ver,h⟩:=h
  show endJump l .ready none true σ = _
  unfold endJump setJump
  simp only [h]
  rfl
theorem LoopAt.put (l r : Nat) (st : LoopState) (σ : FState) : LoopAt fn params assign body nl nt f g l r st (σ.put l (.loop st none fn ((List.range nl).map f) g nl nt params assign body r) none):=⟨_,by rw [put_get,if_pos rfl]⟩
theorem putAll_nil (a : FAct) : putAll a [] = a:=rfl
theorem putAll_cons (a : FAct) (t : Tmp) (v : Value) (l : List (Tmp × Value)) : putAll a ((t,v) :: l) = putAll (a.put (some t) v) l:=rfl
end
section
variable (P : Program) (E : Env) (rs : List ResultVar) (a : FAct) (u : Option FrameMode) (σ : FState)
theorem fleave_collected (r : Nat) (args : Array Value) (ds : List Deferred) (ver : Nat) (h : σ.heap.get r = some ⟨.defd true,false,none,ver⟩) :
    fleave P E rs a u ({ target:=.collected r,args:=args } :: ds) .returning σ = fleave P E rs a u ds .returning (σ.put r (.defd false) none):=by
  show (cond (isRun .returning) CRes.no (match σ.heap.get r with
        | some e => (match e.obj with
          | .defd true => cond e.ro CRes.no (fleave P E rs a u ds .returning (σ.put r (.defd false) none))
          | _ => CRes.no)
        | none => CRes.no)) = _
  rw [h]
  rfl
theorem after_yield (dst : Option Tmp) (k : RunF) (ro : Option Nat) (l : Nat) (args : List Value) (s : FState) : afterOp E ro dst a u k (.yield l args s) = afterCall a dst u k (E.round l args s):=rfl
theorem fcallV_yield (l : Nat) (args : List Value) : fcallV (.func (.yield l) #[] #[]) args σ = .yield l args σ:=rfl
end
theorem LoopAt.keep {fn : FuncId} {params : List Tmp} {assign body : Code} {nl nt : Nat} {f g : Nat → Value} {l r : Nat} {st : LoopState} {σ σ' : FState} (h : LoopAt fn params assign body nl nt f g l r st σ) (hb : σ'.heap.get l = σ.heap.get l) : LoopAt fn params assign body nl nt f g l r st σ':=by
  obtain ⟨ver,h⟩:=h
  exact ⟨ver,hb.trans h⟩
theorem view_heap {σ : FState} (hw : Wf σ) {lam : Nat} (hl : σ.clock ≤ lam) (b : Nat) : (view σ lam).heap.get b = σ.heap.get b:=by
  rw [view_get]
  cases hg : σ.heap.get b with
  | none => rfl
  | some e => simp only; rw [if_pos (by have:=(hw b e hg).2; omega)]
end Go.Proofs.YtodkeaoikjjneaaGreatDoor
/- The walker of package datum: its rounds, over whatever is done with each piece. -/
namespace Go.Proofs.YtodkeaoikjjneaaGreatDoor
open Go Go.Eng
attribute [local congr] andThen_congr fops_congr fdraw_congr afterOp_congr drawF_congr
attribute [-go_sem] List.range_succ
abbrev TD : TypeId:=28
abbrev TL : TypeId:=25
abbrev TI : TypeId:=3
def PathAt (σ : FState) (v : Value) (path : List Nat) : Prop :=
  ∃ p c,v = .slice p path.length c ∧ ((path = [] ∧ p = none ∧ c = 0) ∨ ∃ b more,p = some ⟨b,0,none⟩ ∧ σ.cells b = some ((path.map fun i => Value.int .i64 (.ofNat i)) ++ more))
structure Body (E : Env) (l : Nat) (R : Nat → Prop) (g : Value) (I : List (List Nat × D) → (Nat → Prop) → FState → Prop) (all : List (List Nat × D)) : Prop where
  stays : ∀ done B σ σ',I done B σ → Wf σ → Chg (fun b => ¬ B b ∧ ¬ R b) σ σ' → I done B σ'
  own : ∀ done B σ,I done B σ → ∀ b,B b → b < σ.next ∧ ¬ R b
  inside : ∀ done B σ k z t p ln c,I done B σ → Wf σ → Gives (E.call 128 [.agg #[g],.agg #[.int .i64 k,.int .i64 z,.string t,.slice p ln c]] none σ) σ fun v _ => v = .slice p ln c
  go : ∀ done path d rest B σ pv v,all = done ++ (path,d) :: rest → Wf σ → I done B σ → PathAt σ pv path → LaidR R σ v d →
    ∃ B' σ',E.round l [pv,v] σ = .ret (.bool true) none σ' ∧ Wf σ' ∧ Chg B σ σ' ∧ (∀ b,B' b → B b ∨ σ.next ≤ b) ∧ I (done ++ [(path,d)]) B' σ'
structure BodyTo (kk : Nat) (E : Env) (l : Nat) (R : Nat → Prop) (g : Value) (I : List (List Nat × D) → (Nat → Prop) → FState → Prop) (all : List (List Nat × D)) : Prop where
  stays : ∀ done B σ σ',I done B σ → Wf σ → Chg (fun b => ¬ B b ∧ ¬ R b) σ σ' → I done B σ'
  own : ∀ done B σ,I done B σ → ∀ b,B b → b < σ.next ∧ ¬ R b
  inside : ∀ done B σ k z t p ln c,I done B σ → Wf σ → Gives (E.call 128 [.agg #[g],.agg #[.int .i64 k,.int .i64 z,.string t,.slice p ln c]] none σ) σ fun v _ => v = .slice p ln c
  go : ∀ done path d rest B σ pv v,done.length < kk → all = done ++ (path,d) :: rest → Wf σ → I done B σ → PathAt σ pv path → LaidR R σ v d →
    ∃ B' σ',E.round l [pv,v] σ = .ret (.bool true) none σ' ∧ Wf σ' ∧ Chg B σ σ' ∧ (∀ b,B' b → B b ∨ σ.next ≤ b) ∧ I (done ++ [(path,d)]) B' σ'
theorem Body.to {E : Env} {l : Nat} {R : Nat → Prop} {g : Value} {I : List (List Nat × D) → (Nat → Prop) → FState → Prop} {all : List (List Nat × D)} (h : Body E l R g I all) : BodyTo all.length E l R g I all:=⟨h.stays,h.own,h.inside,fun done path d rest B σ pv v _ => h.go done path d rest B σ pv v⟩
def Levels (R : Nat → Prop) (σ : FState) : Nat → List Value → List (List D × Nat) → Prop
  | _,[],[] => True
  | m,u :: us,(ds,i) :: r => (∃ p c,u = .slice p ds.length c ∧ LaidRE R σ p 0 ds) ∧ i + m ≤ ds.length ∧ ds.length < 1000000000 ∧ Levels R σ 1 us r
  | _,_,_ => False
theorem Levels.keep {R : Nat → Prop} {σ σ' : FState} (h : ∀ b cs,R b → σ.cells b = some cs → σ'.cells b = some cs) : ∀ {m : Nat} {us : List Value} {st : List (List D × Nat)},Levels R σ m us st → Levels R σ' m us st
  | _,[],[],_ => trivial
  | _,_ :: _,(_,_) :: _,⟨⟨p,c,h1,h2⟩,h3,h4,h5⟩ => ⟨⟨p,c,h1,h2.keep fun b cs hb hc => ⟨h b cs hb hc,hb⟩⟩,h3,h4,h5.keep h⟩
theorem Levels.length {R : Nat → Prop} {σ : FState} : ∀ {m : Nat} {us : List Value} {st : List (List D × Nat)},Levels R σ m us st → us.length = st.length
  | _,[],[],_ => rfl
  | _,_ :: _,(_,_) :: _,⟨_,_,_,h⟩ => congrArg (· + 1) h.length
theorem Levels.bump {R : Nat → Prop} {σ : FState} : ∀ {us : List Value} {st : List (List D × Nat)},Levels R σ 1 us st → Levels R σ 0 us (bump st)
  | [],[],_ => trivial
  | _ :: _,(_,_) :: _,⟨h1,h3,h4,h5⟩ => ⟨h1,h3,h4,h5⟩
structure WHead (l : Nat) (R : Nat → Prop) (g : Value) (I : List (List Nat × D) → (Nat → Prop) → FState → Prop) (all : List (List Nat × D)) (bw bo bp base : Nat) (B : Nat → Prop) (us : List Value) (st : List (List D × Nat)) (done : List (List Nat × D)) (f : Nat → Value) (σ : FState) : Prop where
  f0 : f 0 = .func (.yield l) #[] #[]
  f2 : f 2 = .pointer (some ⟨bw,0,none⟩)
  cw : σ.cells bw = some [g]
  hbw : bw < base ∧ ¬ B bw
  opn : Stk TL σ bo (f 4) us.reverse
  hbo : base ≤ bo ∧ ¬ B bo
  lev : Levels R σ 0 us st
  low : ∀ b,R b → b < base
  pth : Stk TI σ bp (f 5) ((wayOf st).map fun i => .int .i64 (.ofNat i))
  hbp : base ≤ bp ∧ ¬ B bp
  ne : bo ≠ bp
  inv : I done B σ
  all : all = done ++ todo st
  wf : Wf σ
  base : base ≤ σ.next
theorem LaidR.shape {R : Nat → Prop} {σ : FState} {v : Value} {d : D} (h : LaidR R σ v d) : ∃ k z t p c,v = .agg #[.int .i64 k,.int .i64 z,.string t,.slice p d.parts.length c] ∧ LaidRE R σ p 0 d.parts:=by
  obtain ⟨k,z,t,ds⟩:=d
  obtain ⟨p,c,h1,h2⟩:=h
  exact ⟨k,z,t,p,c,h1,h2⟩
theorem LaidRE.get {R : Nat → Prop} {σ : FState} {p : Option Addr} : ∀ {i : Nat} {ds : List D} {k : Nat} {d : D},LaidRE R σ p i ds → ds[k]? = some d →
    ∃ b off cs,p = some ⟨b,off,none⟩ ∧ R b ∧ σ.cells b = some cs ∧ 4 ≤ cs.length - (off + (i + k) * 4) ∧ LaidR R σ (.agg ((cs.drop (off + (i + k) * 4)).take 4).toArray) d
  | i,d :: ds,0,_,h,hk => by
    cases hk
    exact h.1
  | i,d :: ds,k + 1,_,h,hk => by
    have:=LaidRE.get (i:=i + 1) h.2 (k:=k) (by simpa using hk)
    rwa [show i + 1 + k = i + (k + 1) by omega] at this
  | _,[],_,_,_,hk => by simp at hk
theorem under_tl : under Tryz.prog 172 = some (.slice TL):=by kernel_rfl
theorem size_tl : sizeOfT Tryz.prog TL = some 1:=by kernel_rfl
theorem under_ti : under Tryz.prog 22 = some (.slice TI):=by kernel_rfl
theorem size_ti : sizeOfT Tryz.prog TI = some 1:=by kernel_rfl
theorem stk_slice {T t : TypeId} {σ : FState} {b : Nat} {s : Value} {vs : List Value} {v : Value} (h : Stk T σ b s (vs ++ [v])) (hw : Wf σ) (hu : under Tryz.prog t = some (.slice T)) (hs : sizeOfT Tryz.prog T = some 1) :
    ∃ n,s = .slice (some ⟨b,0,none⟩) (vs.length + 1) n ∧ Stk T σ b (.slice (some ⟨b,0,none⟩) vs.length n) vs ∧
      fslice Tryz.prog t s none (some (.int .i64 (.ofNat vs.length))) none (view σ σ.clock) = .val (.slice (some ⟨b,0,none⟩) vs.length n) (view σ σ.clock):=by
  obtain ⟨n,h1,h2,h3⟩:=h.pop
  obtain ⟨c,fz,ver,k1,k2,k3,more,k4⟩:=h3
  refine ⟨n,h1,⟨c,fz,ver,k1,k2,k3,more,k4⟩,?_⟩
  rw [h1]
  exact fslice_hi Tryz.prog t T 1 b 0 (vs.length + 1) n vs.length _ hu hs h2 c T false fz ver ((view_heap hw (Nat.le_refl _) b).trans k2) k3
theorem WHead.top {l : Nat} {R : Nat → Prop} {g : Value} {I : List (List Nat × D) → (Nat → Prop) → FState → Prop} {all : List (List Nat × D)} {bw bo bp base : Nat} {B : Nat → Prop} {u : Value} {us : List Value} {ds : List D} {i : Nat} {r : List (List D × Nat)} {done : List (List Nat × D)} {f : Nat → Value} {σ : FState}
    (h : WHead l R g I all bw bo bp base B (u :: us) ((ds,i) :: r) done f σ) :
    ∃ p c mo mp,u = .slice p ds.length c ∧ LaidRE R σ p 0 ds ∧ us.length = r.length ∧
      f 4 = .slice (some ⟨bo,0,none⟩) (r.length + 1) (us.reverse ++ u :: mo).length ∧ σ.cells bo = some (us.reverse ++ u :: mo) ∧ (us.reverse ++ u :: mo)[r.length]? = some u ∧
      f 5 = .slice (some ⟨bp,0,none⟩) (r.length + 1) (((wayOf r).map fun i => Value.int .i64 (.ofNat i)) ++ .int .i64 (.ofNat i) :: mp).length ∧ σ.cells bp = some (((wayOf r).map fun i => Value.int .i64 (.ofNat i)) ++ .int .i64 (.ofNat i) :: mp) ∧
      (((wayOf r).map fun i => Value.int .i64 (.ofNat i)) ++ .int .i64 (.ofNat i) :: mp)[r.length]? = some (.int .i64 (.ofNat i)):=by
  obtain ⟨⟨p,c,h1,h2⟩,h3,h4,h5⟩:=h.lev
  have hl:=h5.length
  obtain ⟨mo,e1,e2⟩:=h.opn.cells
  obtain ⟨mp,e3,e4⟩:=h.pth.cells
  rw [List.reverse_cons,List.append_assoc,List.singleton_append] at e1 e2
  rw [wayOf_cons,List.map_append,List.append_assoc,List.map_singleton,List.singleton_append] at e3 e4
  refine ⟨p,c,mo,mp,h1,h2,hl,?_,e2,?_,?_,e4,?_⟩
  · rw [e1]
    simp [hl]
  · rw [List.getElem?_append_right (by simp [hl])]
    simp [hl]
  · rw [e3]
    simp [wayOf_length]
  · rw [List.getElem?_append_right (by simp [wayOf_length])]
    simp [wayOf_length]
end Go.Proofs.YtodkeaoikjjneaaGreatDoor
/- The walker's rounds: up a level, or on to the next piece. -/
namespace Go.Proofs.YtodkeaoikjjneaaGreatDoor
open Go Go.Eng
attribute [local congr] andThen_congr fops_congr fdraw_congr afterOp_congr drawF_congr
attribute [-go_sem] List.range_succ
section
variable {kk n l bw bo bp base : Nat} {R : Nat → Prop} {g : Value} {I : List (List Nat × D) → (Nat → Prop) → FState → Prop} {all done : List (List Nat × D)} {B : Nat → Prop} {u : Value} {us : List Value} {ds : List D} {i : Nat} {r : List (List D × Nat)} {f : Nat → Value} {σ : FState}
theorem sub1 (k : Nat) (hk : k < 1000000000000) : wrapI (Int.ofNat (k + 1) - 1) = Int.ofNat k:=by
  rw [wrapI_of (by rw [Int.ofNat_eq_natCast]; omega),Int.ofNat_eq_natCast,Int.ofNat_eq_natCast]; omega
theorem sub2 (k : Nat) (hk : k < 1000000000000) : wrapI (Int.ofNat (k + 1 + 1) - 2) = Int.ofNat k:=by
  rw [wrapI_of (by rw [Int.ofNat_eq_natCast]; omega),Int.ofNat_eq_natCast,Int.ofNat_eq_natCast]; omega
theorem add1 (k : Nat) (hk : k < 1000000000000) : wrapI (Int.ofNat k + 1) = Int.ofNat (k + 1):=by
  rw [wrapI_of (by rw [Int.ofNat_eq_natCast]; omega),Int.ofNat_eq_natCast,Int.ofNat_eq_natCast]; omega
theorem round_up (hB : BodyTo kk (env n) l R g I all) (h : WHead l R g I all bw bo bp base B (u :: us) ((ds,ds.length) :: r) done f σ) (hr : r.length < 100000) (gg : Nat → Value) :
    ∃ f' g' σ',l127_0 (env n) none 127 (Sl 8 80 f gg []) none σ = .done .normal (Sl 8 80 f' g' []) none σ' ∧ Chg (fun b => base ≤ b ∧ ¬ B b) σ σ' ∧
      WHead l R g I all bw bo bp base B us (bump r) done f' σ':=by
  obtain ⟨p,c,mo,mp,rfl,hE,hl,h4,co,ho,h5,cp,hp⟩:=h.top
  have hv:=view_wf h.wf (Nat.le_refl σ.clock)
  have d0 : decide (Int.ofNat (r.length + 1) > 0) = true:=by simp
  have w1:=sub1 r.length (by omega)
  have lt1 : r.length < r.length + 1:=Nat.lt_succ_self _
  have hopn:=h.opn
  have hpth:=h.pth
  rw [List.reverse_cons] at hopn
  rw [wayOf_cons,List.map_append,List.map_singleton] at hpth
  obtain ⟨no,so1,so2,so3⟩:=stk_slice hopn h.wf under_tl size_tl
  obtain ⟨np,sp1,sp2,sp3⟩:=stk_slice hpth h.wf under_ti size_ti
  rw [List.length_reverse,hl] at so1 so2 so3
  rw [List.length_map,wayOf_length] at sp1 sp2 sp3
  rw [h4] at so1 so3
  rw [h5] at sp1 sp3
  unfold l127_0
  simp -implicitDefEqProofs only [go_sem,↓reduceIte,Nat.reduceLT,Nat.reduceEqDiff,Nat.reduceAdd,Nat.reduceMul,Nat.reduceLeDiff,Nat.reduceSub,r127_3_go,r127_3U,r127_4_go,r127_4U,r127_5_go,r127_5U,h4,h5,d0,w1,lt1,hv,co,cp,ho,hp]
  generalize hg : upd _ 33 _ = g1
  clear hg
  have f4 : upd f 6 (Value.int IntKind.i64 (Int.ofNat (r.length + 1))) 4 = f 4:=by simp -implicitDefEqProofs only [upd_go,kept_go,↓reduceIte,Nat.reduceEqDiff,Nat.reduceLT,reduceCtorEq]
  have f5 : upd f 6 (Value.int IntKind.i64 (Int.ofNat (r.length + 1))) 5 = f 5:=by simp -implicitDefEqProofs only [upd_go,kept_go,↓reduceIte,Nat.reduceEqDiff,Nat.reduceLT,reduceCtorEq]
  have f0 : upd f 6 (Value.int IntKind.i64 (Int.ofNat (r.length + 1))) 0 = f 0:=by simp -implicitDefEqProofs only [upd_go,kept_go,↓reduceIte,Nat.reduceEqDiff,Nat.reduceLT,reduceCtorEq]
  have f2 : upd f 6 (Value.int IntKind.i64 (Int.ofNat (r.length + 1))) 2 = f 2:=by simp -implicitDefEqProofs only [upd_go,kept_go,↓reduceIte,Nat.reduceEqDiff,Nat.reduceLT,reduceCtorEq]
  have f6 : upd f 6 (Value.int IntKind.i64 (Int.ofNat (r.length + 1))) 6 = Value.int IntKind.i64 (Int.ofNat (r.length + 1)):=by simp -implicitDefEqProofs only [upd_go,kept_go,↓reduceIte,Nat.reduceEqDiff,Nat.reduceLT,reduceCtorEq]
  generalize upd f 6 _ = f1 at f4 f5 f0 f2 f6 ⊢
  simp -implicitDefEqProofs only [go_sem,↓reduceIte,Nat.reduceLT,Nat.reduceEqDiff,Nat.reduceAdd,Nat.reduceMul,Nat.reduceLeDiff,Nat.reduceSub,r127_6_go,r127_6U,f4,f5,f6,h4,h5,w1,so3,sp3]
  generalize hg : upd g1 _ _ = g2
  clear hg
  have q4 : upd (upd f1 4 (Value.slice (some ⟨bo,0,none⟩) r.length no)) 5 (Value.slice (some ⟨bp,0,none⟩) r.length np) 4 = (Value.slice (some ⟨bo,0,none⟩) r.length no):=by simp -implicitDefEqProofs only [upd_go,kept_go,↓reduceIte,Nat.reduceEqDiff,Nat.reduceLT,reduceCtorEq]
  have q5 : upd (upd f1 4 (Value.slice (some ⟨bo,0,none⟩) r.length no)) 5 (Value.slice (some ⟨bp,0,none⟩) r.length np) 5 = (Value.slice (some ⟨bp,0,none⟩) r.length np):=by simp -implicitDefEqProofs only [upd_go,kept_go,↓reduceIte,Nat.reduceEqDiff,Nat.reduceLT,reduceCtorEq]
  have q0 : upd (upd f1 4 (Value.slice (some ⟨bo,0,none⟩) r.length no)) 5 (Value.slice (some ⟨bp,0,none⟩) r.length np) 0 = f 0:=by simp -implicitDefEqProofs only [upd_go,kept_go,↓reduceIte,Nat.reduceEqDiff,Nat.reduceLT,reduceCtorEq,f0]
  have q2 : upd (upd f1 4 (Value.slice (some ⟨bo,0,none⟩) r.length no)) 5 (Value.slice (some ⟨bp,0,none⟩) r.length np) 2 = f 2:=by simp -implicitDefEqProofs only [upd_go,kept_go,↓reduceIte,Nat.reduceEqDiff,Nat.reduceLT,reduceCtorEq,f2]
  have q6 : upd (upd f1 4 (Value.slice (some ⟨bo,0,none⟩) r.length no)) 5 (Value.slice (some ⟨bp,0,none⟩) r.length np) 6 = Value.int IntKind.i64 (Int.ofNat (r.length + 1)):=by simp -implicitDefEqProofs only [upd_go,kept_go,↓reduceIte,Nat.reduceEqDiff,Nat.reduceLT,reduceCtorEq,f6]
  generalize upd (upd f1 4 _) 5 _ = f2' at q4 q5 q0 q2 q6 ⊢
  obtain ⟨_,hi,hds,hlev⟩:=h.lev
  have hall:=h.all
  rw [todo_pop,below_bump] at hall
  cases r with
  | nil =>
    have d1 : decide (Int.ofNat (([] : List (List D × Nat)).length + 1) > 1) = false:=by decide
    simp -implicitDefEqProofs only [go_sem,↓reduceIte,Nat.reduceLT,Nat.reduceEqDiff,Nat.reduceAdd,Nat.reduceMul,Nat.reduceLeDiff,Nat.reduceSub,r127_7_go,r127_7U,q6,d1]
    refine ⟨_,_,_,rfl,Chg.refl _ _,?_⟩
    exact { f0:=q0.trans h.f0,f2:=q2.trans h.f2,cw:=h.cw,hbw:=h.hbw,opn:=by rw [q4]; exact so2,hbo:=h.hbo,lev:=hlev.bump,low:=h.low,pth:=by rw [q5]; exact sp2,hbp:=h.hbp,ne:=h.ne,inv:=h.inv,all:=hall,wf:=h.wf,base:=h.base }
  | cons x r' =>
    obtain ⟨e,j⟩:=x
    have d1 : decide (Int.ofNat ((((e,j) :: r') : List (List D × Nat)).length + 1) > 1) = true:=by simp; omega
    have w2:=sub2 r'.length (by simp at hr; omega)
    have hlen : (((e,j) :: r') : List (List D × Nat)).length = r'.length + 1:=rfl
    cases us with
    | nil => exact absurd hlev (fun h => h)
    | cons u' us' =>
      have hlevs:=hlev
      obtain ⟨hu,hj,hje,hlev'⟩:=hlev
      have w3:=add1 j (by omega)
      have sp2':=sp2
      rw [wayOf_cons,List.map_append,List.map_singleton] at sp2'
      obtain ⟨cc,k1,k2⟩:=sp2'.last
      obtain ⟨τ,k3,k4,k5,k6⟩:=sp2'.store (v':=.int .i64 (.ofNat (j + 1))) h.wf (oneCell_int _ _)
      rw [List.length_map,wayOf_length] at k2 k3
      rw [hlen] at q5 q6 d1
      have lt2 : r'.length < r'.length + 1:=Nat.lt_succ_self _
      simp -implicitDefEqProofs only [go_sem,↓reduceIte,Nat.reduceLT,Nat.reduceEqDiff,Nat.reduceAdd,Nat.reduceMul,Nat.reduceLeDiff,Nat.reduceSub,r127_7_go,r127_7U,r127_8_go,r127_8U,q6,d1,q5,w2,lt2,k1,k2,w3,k3]
      refine ⟨_,_,_,rfl,k5.weaken fun b _ hb => by subst hb; exact h.hbp,?_⟩
      have hne : bw ≠ bp:=by have:=h.hbw.1; have:=h.hbp.1; omega
      exact { f0:=q0.trans h.f0,f2:=q2.trans h.f2,cw:=(k5.cells (h.wf.cells h.cw) hne).trans h.cw,hbw:=h.hbw,opn:=by rw [q4]; exact so2.keep (k5.get bo (so2.lt h.wf) h.ne),hbo:=h.hbo,
              lev:=(Levels.bump hlevs).keep fun b cs hb hc => (k5.cells (h.wf.cells hc) (by have:=h.low b hb; have:=h.hbp.1; omega)).trans hc,low:=h.low,
              pth:=by rw [q5]; show Stk TI τ bp _ ((wayOf ((e,j + 1) :: r')).map _); rw [wayOf_cons,List.map_append,List.map_singleton]; exact k4,
              hbp:=h.hbp,ne:=h.ne,inv:=hB.stays _ _ _ _ h.inv h.wf (k5.weaken fun b _ hb => by subst hb; exact ⟨h.hbp.2,fun hr => by have:=h.low _ hr; have:=h.hbp.1; omega⟩),all:=hall,wf:=k6,base:=Nat.le_trans h.base k5.next }
end
end Go.Proofs.YtodkeaoikjjneaaGreatDoor
/- The walker's rounds: on to the next piece. -/
namespace Go.Proofs.YtodkeaoikjjneaaGreatDoor
open Go Go.Eng
attribute [local congr] andThen_congr fops_congr fdraw_congr afterOp_congr drawF_congr
attribute [-go_sem] List.range_succ
section
variable {kk n l bw bo bp base : Nat} {R : Nat → Prop} {g : Value} {I : List (List Nat × D) → (Nat → Prop) → FState → Prop} {all done : List (List Nat × D)} {B : Nat → Prop} {u : Value} {us : List Value} {ds : List D} {i : Nat} {d : D} {r : List (List D × Nat)} {f : Nat → Value} {σ : FState}
theorem round_on (hB : BodyTo kk (env n) l R g I all) (hk : done.length < kk) (h : WHead l R g I all bw bo bp base B (u :: us) ((ds,i) :: r) done f σ) (hd : ds[i]? = some d) (hr : r.length < 90000) (hps : d.parts.length < 1000000000) (gg : Nat → Value) :
    ∃ f' g' σ' B' bo' bp' u',l127_0 (env n) none 127 (Sl 8 80 f gg []) none σ = .done .normal (Sl 8 80 f' g' []) none σ' ∧ Chg (fun b => B b ∨ base ≤ b) σ σ' ∧ (∀ b,B' b → B b ∨ base ≤ b) ∧
      WHead l R g I all bw bo' bp' base B' (u' :: u :: us) ((d.parts,0) :: (ds,i) :: r) (done ++ [(wayOf r ++ [i],d)]) f' σ':=by
  obtain ⟨p,c,mo,mp,rfl,hE,hl,h4,co,ho,h5,cp,hp⟩:=h.top
  have hv:=view_wf h.wf (Nat.le_refl σ.clock)
  have d0 : decide (Int.ofNat (r.length + 1) > 0) = true:=by simp
  have w1:=sub1 r.length (by omega)
  have lt1 : r.length < r.length + 1:=Nat.lt_succ_self _
  have hi : i < ds.length:=(List.getElem?_eq_some_iff.1 hd).1
  have ne1 : (Int.ofNat i == Int.ofNat ds.length) = false:=by simp; omega
  obtain ⟨b,off,cs,rfl,hRb,hcs,hle,hL⟩:=LaidRE.get hE hd
  rw [Nat.zero_add] at hle hL
  obtain ⟨k,z,t,q,c',hag,hq⟩:=LaidR.shape hL
  have htk : (cs.drop (off + i * 4)).take 4 = [.int .i64 k,.int .i64 z,.string t,.slice q d.parts.length c']:=by
    have:=congrArg (fun v => match v with | .agg a => a.toList | _ => []) hag
    simpa using this
  rw [htk] at hL
  have hall:=h.all
  rw [todo_push r hd] at hall
  unfold l127_0
  simp -implicitDefEqProofs only [go_sem,↓reduceIte,Nat.reduceLT,Nat.reduceEqDiff,Nat.reduceAdd,Nat.reduceMul,Nat.reduceLeDiff,Nat.reduceSub,r127_3_go,r127_3U,r127_4_go,r127_4U,r127_5_go,r127_5U,h4,h5,d0,w1,lt1,hv,co,cp,ho,hp,ne1]
  generalize hg : upd _ 33 _ = g1
  clear hg
  have f4 : upd f 6 (Value.int IntKind.i64 (Int.ofNat (r.length + 1))) 4 = f 4:=by simp -implicitDefEqProofs only [upd_go,kept_go,↓reduceIte,Nat.reduceEqDiff,Nat.reduceLT,reduceCtorEq]
  have f5 : upd f 6 (Value.int IntKind.i64 (Int.ofNat (r.length + 1))) 5 = f 5:=by simp -implicitDefEqProofs only [upd_go,kept_go,↓reduceIte,Nat.reduceEqDiff,Nat.reduceLT,reduceCtorEq]
  have f0 : upd f 6 (Value.int IntKind.i64 (Int.ofNat (r.length + 1))) 0 = f 0:=by simp -implicitDefEqProofs only [upd_go,kept_go,↓reduceIte,Nat.reduceEqDiff,Nat.reduceLT,reduceCtorEq]
  have f2 : upd f 6 (Value.int IntKind.i64 (Int.ofNat (r.length + 1))) 2 = f 2:=by simp -implicitDefEqProofs only [upd_go,kept_go,↓reduceIte,Nat.reduceEqDiff,Nat.reduceLT,reduceCtorEq]
  have f6 : upd f 6 (Value.int IntKind.i64 (Int.ofNat (r.length + 1))) 6 = Value.int IntKind.i64 (Int.ofNat (r.length + 1)):=by simp -implicitDefEqProofs only [upd_go,kept_go,↓reduceIte,Nat.reduceEqDiff,Nat.reduceLT,reduceCtorEq]
  generalize upd f 6 _ = f1 at f4 f5 f0 f2 f6 ⊢
  simp -implicitDefEqProofs only [go_sem,↓reduceIte,Nat.reduceLT,Nat.reduceEqDiff,Nat.reduceAdd,Nat.reduceMul,Nat.reduceLeDiff,Nat.reduceSub,fstoreN,r127_9_go,r127_9U,f4,f5,f6,h4,h5,w1,lt1,hv,co,cp,ho,hp,hi,hcs,hle,htk]
  generalize hg : upd _ 62 _ = g2
  clear hg
  have p0 : upd f1 7 (Value.pointer (some ⟨σ.next,0,none⟩)) 0 = f 0:=by simp -implicitDefEqProofs only [upd_go,kept_go,↓reduceIte,Nat.reduceEqDiff,Nat.reduceLT,reduceCtorEq,f0]
  have p2 : upd f1 7 (Value.pointer (some ⟨σ.next,0,none⟩)) 2 = f 2:=by simp -implicitDefEqProofs only [upd_go,kept_go,↓reduceIte,Nat.reduceEqDiff,Nat.reduceLT,reduceCtorEq,f2]
  have p4 : upd f1 7 (Value.pointer (some ⟨σ.next,0,none⟩)) 4 = f 4:=by simp -implicitDefEqProofs only [upd_go,kept_go,↓reduceIte,Nat.reduceEqDiff,Nat.reduceLT,reduceCtorEq,f4]
  have p5 : upd f1 7 (Value.pointer (some ⟨σ.next,0,none⟩)) 5 = f 5:=by simp -implicitDefEqProofs only [upd_go,kept_go,↓reduceIte,Nat.reduceEqDiff,Nat.reduceLT,reduceCtorEq,f5]
  have p6 : upd f1 7 (Value.pointer (some ⟨σ.next,0,none⟩)) 6 = Value.int IntKind.i64 (Int.ofNat (r.length + 1)):=by simp -implicitDefEqProofs only [upd_go,kept_go,↓reduceIte,Nat.reduceEqDiff,Nat.reduceLT,reduceCtorEq,f6]
  have p7 : upd f1 7 (Value.pointer (some ⟨σ.next,0,none⟩)) 7 = Value.pointer (some ⟨σ.next,0,none⟩):=by simp -implicitDefEqProofs only [upd_go,kept_go,↓reduceIte,Nat.reduceEqDiff,Nat.reduceLT,reduceCtorEq]
  generalize upd f1 7 _ = f2' at p0 p2 p4 p5 p6 p7 ⊢
  -- the box of the part
  have x1 : Ext σ ((σ.push (.cells [.int .i64 0,.int .i64 0,.string ⟨#[]⟩,.slice none 0 0] TD) none).put σ.next (.cells [.int .i64 k,.int .i64 z,.string t,.slice q d.parts.length c'] TD) none):=((Ext.refl _).push _ _).put _ _ _ (Nat.le_refl _)
  have hw1:=(h.wf.push (.cells [.int .i64 0,.int .i64 0,.string ⟨#[]⟩,.slice none 0 0] TD) none).put σ.next (.cells [.int .i64 k,.int .i64 z,.string t,.slice q d.parts.length c'] TD) none (Nat.lt_succ_self _)
  have b1 : ((σ.push (.cells [.int .i64 0,.int .i64 0,.string ⟨#[]⟩,.slice none 0 0] TD) none).put σ.next (.cells [.int .i64 k,.int .i64 z,.string t,.slice q d.parts.length c'] TD) none).cells σ.next = some [.int .i64 k,.int .i64 z,.string t,.slice q d.parts.length c']:=by rw [cells_put,if_pos rfl]; rfl
  have hcl : ((σ.push (.cells [.int .i64 0,.int .i64 0,.string ⟨#[]⟩,.slice none 0 0] TD) none).put σ.next (.cells [.int .i64 k,.int .i64 z,.string t,.slice q d.parts.length c'] TD) none).clock = σ.clock + 2:=rfl
  have hnx : ((σ.push (.cells [.int .i64 0,.int .i64 0,.string ⟨#[]⟩,.slice none 0 0] TD) none).put σ.next (.cells [.int .i64 k,.int .i64 z,.string t,.slice q d.parts.length c'] TD) none).next = σ.next + 1:=rfl
  generalize FState.put _ _ _ _ = σ1 at x1 hw1 b1 hcl hnx ⊢
  have hv1:=view_wf hw1 (Nat.le_of_eq hcl)
  have hlp : r.length + 1 ≤ (List.map (fun i => Value.int IntKind.i64 (Int.ofNat i)) (wayOf r) ++ Value.int IntKind.i64 (Int.ofNat i) :: mp).length:=by simp [wayOf_length]
  have sl3:=fslice_3 Tryz.prog 22 TI 1 bp 0 (r.length + 1) _ (r.length + 1) (view σ1 (σ.clock + 2)) under_ti size_ti hlp
  have i1 : I done B σ1:=hB.stays _ _ _ _ h.inv h.wf (x1.chg _)
  have hbpn:=h.pth.lt h.wf
  have hbon:=h.opn.lt h.wf
  have hP : PathAt σ1 (.slice (some ⟨bp,0,none⟩) (r.length + 1) (r.length + 1)) (wayOf r ++ [i]):=⟨some ⟨bp,0,none⟩,r.length + 1,by simp [wayOf_length],.inr ⟨bp,mp,rfl,by rw [x1.cells hbpn,cp]; simp⟩⟩
  have kR : ∀ b cs,R b → σ.cells b = some cs → σ1.cells b = some cs ∧ R b:=fun b cs hb hc => ⟨(x1.cells (h.wf.cells hc)).trans hc,hb⟩
  obtain ⟨B',σ2,e2,hw2,ch2,hB',i2⟩:=hB.go done (wayOf r ++ [i]) d _ B σ1 _ _ hk hall hw1 i1 hP (hL.keep kR)
  have ownB:=hB.own _ _ _ h.inv
  have nB : ∀ b,σ.next ≤ b → ¬ B b:=fun b hb hh => by have:=(ownB b hh).1; omega
  have b2 : σ2.cells σ.next = some [.int .i64 k,.int .i64 z,.string t,.slice q d.parts.length c']:=(ch2.cells (by omega) (nB _ (Nat.le_refl _))).trans b1
  have hbwn:=h.wf.cells h.cw
  have cw2 : σ2.cells bw = some [g]:=(ch2.cells (by omega) h.hbw.2).trans ((x1.cells hbwn).trans h.cw)
  obtain ⟨_,σ3,e3,x3,hw3,rfl⟩:=hB.inside _ B' σ2 k z t q d.parts.length c' i2 hw2
  simp -implicitDefEqProofs only [go_sem,↓reduceIte,Nat.reduceLT,Nat.reduceEqDiff,Nat.reduceAdd,Nat.reduceMul,Nat.reduceLeDiff,Nat.reduceSub,r127_10_go,r127_10U,p0,p5,p6,p7,h.f0,h5,hv1,b1,sl3,fcallV_yield,after_yield,e2]
  generalize hg : upd _ 70 _ = g3
  clear hg
  -- the level below
  have nB' : ∀ b,b < σ1.next → ¬ B b → ¬ B' b:=fun b hb h1 h2 => by
    rcases hB' b h2 with h3 | h3
    · exact h1 h3
    · omega
  have opn2 : Stk TL σ2 bo (f 4) (.slice (some ⟨b,off,none⟩) ds.length c :: us).reverse:=h.opn.keep ((ch2.get bo (by omega) h.hbo.2).trans (x1.get bo hbon))
  have opn3 : Stk TL σ3 bo (f 4) (.slice (some ⟨b,off,none⟩) ds.length c :: us).reverse:=opn2.keep (x3.get bo (opn2.lt hw2))
  have pth2 : Stk TI σ2 bp (f 5) ((wayOf ((ds,i) :: r)).map fun i => .int .i64 (.ofNat i)):=h.pth.keep ((ch2.get bp (by omega) h.hbp.2).trans (x1.get bp hbpn))
  have pth3 : Stk TI σ3 bp (f 5) ((wayOf ((ds,i) :: r)).map fun i => .int .i64 (.ofNat i)):=pth2.keep (x3.get bp (pth2.lt hw2))
  have x4 : Ext σ3 (σ3.push (.cells [.slice q d.parts.length c'] TL) none):=(Ext.refl _).push _ _
  have hw4:=hw3.push (.cells [.slice q d.parts.length c'] TL) none
  have b4 : (σ3.push (.cells [.slice q d.parts.length c'] TL) none).cells σ3.next = some [.slice q d.parts.length c']:=by rw [cells_push,if_pos rfl]; rfl
  rw [h4] at opn3
  obtain ⟨bo',s5,σ5,e5,opn5,hbo',ch5,hw5⟩:=(opn3.keep (x4.get bo (opn3.lt hw3))).append hw4 (.slice q d.parts.length c') 24 σ3.next 1 b4 (oneCell_slice _ _ _) (by omega) (by simp [hl]; omega)
  have b5 : (σ5.push (.cells [.int .i64 0] TI) none).cells σ5.next = some [.int .i64 0]:=by rw [cells_push,if_pos rfl]; rfl
  have x6 : Ext σ5 (σ5.push (.cells [.int .i64 0] TI) none):=(Ext.refl _).push _ _
  have hw6:=hw5.push (.cells [.int .i64 0] TI) none
  have hne45 : bp ≠ bo:=fun h' => h.ne h'.symm
  have pth4:=pth3.keep (x4.get bp (pth3.lt hw3))
  have pth5 : Stk TI σ5 bp (f 5) ((wayOf ((ds,i) :: r)).map fun i => .int .i64 (.ofNat i)):=pth4.keep (ch5.get bp (pth4.lt hw4) hne45)
  obtain ⟨bp',s7,σ7,e7,pth7,hbp',ch7,hw7⟩:=(pth5.keep (x6.get bp (pth5.lt hw5))).append hw6 (.int .i64 0) 8 σ5.next 1 b5 (oneCell_int _ _) (by omega) (by simp [wayOf_length]; omega)
  simp -implicitDefEqProofs only [go_sem,↓reduceIte,Nat.reduceLT,Nat.reduceEqDiff,Nat.reduceAdd,Nat.reduceMul,Nat.reduceLeDiff,Nat.reduceSub,r127_11_go,r127_11U,p0,p2,p4,p7,h.f2,cw2,b2,e3,h4,oneCell_func,e5]
  generalize hg : upd _ 76 _ = g4
  clear hg
  have t0 : upd f2' 4 s5 0 = f 0:=by simp -implicitDefEqProofs only [upd_go,kept_go,↓reduceIte,Nat.reduceEqDiff,Nat.reduceLT,reduceCtorEq,p0]
  have t2 : upd f2' 4 s5 2 = f 2:=by simp -implicitDefEqProofs only [upd_go,kept_go,↓reduceIte,Nat.reduceEqDiff,Nat.reduceLT,reduceCtorEq,p2]
  have t4 : upd f2' 4 s5 4 = s5:=by simp -implicitDefEqProofs only [upd_go,kept_go,↓reduceIte,Nat.reduceEqDiff,Nat.reduceLT,reduceCtorEq]
  have t5 : upd f2' 4 s5 5 = f 5:=by simp -implicitDefEqProofs only [upd_go,kept_go,↓reduceIte,Nat.reduceEqDiff,Nat.reduceLT,reduceCtorEq,p5]
  generalize upd f2' 4 s5 = f3 at t0 t2 t4 t5 ⊢
  simp -implicitDefEqProofs only [go_sem,↓reduceIte,Nat.reduceLT,Nat.reduceEqDiff,Nat.reduceAdd,Nat.reduceMul,Nat.reduceLeDiff,Nat.reduceSub,r127_12_go,r127_12U,t5,e7]
  have v0 : upd f3 5 s7 0 = f 0:=by simp -implicitDefEqProofs only [upd_go,kept_go,↓reduceIte,Nat.reduceEqDiff,Nat.reduceLT,reduceCtorEq,t0]
  have v2 : upd f3 5 s7 2 = f 2:=by simp -implicitDefEqProofs only [upd_go,kept_go,↓reduceIte,Nat.reduceEqDiff,Nat.reduceLT,reduceCtorEq,t2]
  have v4 : upd f3 5 s7 4 = s5:=by simp -implicitDefEqProofs only [upd_go,kept_go,↓reduceIte,Nat.reduceEqDiff,Nat.reduceLT,reduceCtorEq,t4]
  have v5 : upd f3 5 s7 5 = s7:=by simp -implicitDefEqProofs only [upd_go,kept_go,↓reduceIte,Nat.reduceEqDiff,Nat.reduceLT,reduceCtorEq]
  have hbo4 : bo < (σ3.push (.cells [.slice q d.parts.length c'] TL) none).next:=(opn3.keep (x4.get bo (opn3.lt hw3))).lt hw4
  have n12:=x1.next
  have n23:=ch2.next
  have n34:=x3.next
  have n45:=x4.next
  have n56:=ch5.next
  have n67:=x6.next
  have n78:=ch7.next
  have hbase:=h.base
  have lowB' : ∀ b,B' b → B b ∨ base ≤ b:=fun b hb => by
    rcases hB' b hb with h3 | h3
    · exact .inl h3
    · exact .inr (by omega)
  have ownB':=hB.own _ _ _ i2
  -- all that is done behind the round
  have hboB' : ¬ B' bo:=nB' bo (by omega) h.hbo.2
  have hbpB' : ¬ B' bp:=nB' bp (by omega) h.hbp.2
  have c27 : ∀ b,b < σ2.next → b ≠ bo → b ≠ bp → σ7.heap.get b = σ2.heap.get b:=fun b hb h1 h2 =>
    ((ch7.get b (by omega) h2).trans (x6.get b (by omega))).trans ((ch5.get b (by omega) h1).trans ((x4.get b (by omega)).trans (x3.get b hb)))
  have c17 : ∀ b,b < σ.next → ¬ B b → b ≠ bo → b ≠ bp → σ7.heap.get b = σ.heap.get b:=fun b hb h0 h1 h2 =>
    (c27 b (by omega) h1 h2).trans ((ch2.get b (by omega) h0).trans (x1.get b hb))
  have nbo : base ≤ bo' ∧ ¬ B' bo' ∧ bo' < σ5.next:=by
    rcases hbo' with rfl | rfl
    · exact ⟨h.hbo.1,hboB',by omega⟩
    · exact ⟨by omega,fun hb => by have:=(ownB' _ hb).1; omega,opn5.lt hw5⟩
  have nbp : base ≤ bp' ∧ ¬ B' bp' ∧ bo' ≠ bp':=by
    rcases hbp' with rfl | rfl
    · refine ⟨h.hbp.1,hbpB',?_⟩
      rcases hbo' with rfl | rfl
      · exact h.ne
      · omega
    · have:=nbo.2.2
      rw [push_next] at n67 ⊢
      exact ⟨by omega,fun hb => by have:=(ownB' _ hb).1; omega,by omega⟩
  have hcw7 : σ7.cells bw = some [g]:=by
    rw [cells_get,c17 bw hbwn h.hbw.2 (by have:=h.hbw.1; have:=h.hbo.1; omega) (by have:=h.hbw.1; have:=h.hbp.1; omega),← cells_get]
    exact h.cw
  have kR7 : ∀ b cs,R b → σ.cells b = some cs → σ7.cells b = some cs:=fun b cs hb hc => by
    have hlb:=h.low b hb
    rw [cells_get,c17 b (by omega) (fun hB0 => (ownB b hB0).2 hb) (by have:=h.hbo.1; omega) (by have:=h.hbp.1; omega),← cells_get]
    exact hc
  refine ⟨_,_,σ7,B',bo',bp',.slice q d.parts.length c',rfl,⟨by omega,by have:=x1.clock; have:=ch2.clock; have:=x3.clock; have:=x4.clock; have:=ch5.clock; have:=x6.clock; have:=ch7.clock; omega,fun b hb hF => ?_⟩,lowB',?_⟩
  · exact c17 b hb (fun h' => hF (.inl h')) (fun h' => hF (.inr (by have:=h.hbo.1; omega))) (fun h' => hF (.inr (by have:=h.hbp.1; omega)))
  · obtain ⟨hu,hi0,hds,hlev⟩:=h.lev
    exact { f0:=v0.trans h.f0,f2:=v2.trans h.f2,cw:=hcw7,hbw:=⟨h.hbw.1,nB' bw (by omega) h.hbw.2⟩,
            opn:=by
              rw [v4,List.reverse_cons]
              exact opn5.keep ((ch7.get bo' (by omega) (fun h' => by
                rcases hbp' with h'' | h''
                · exact nbp.2.2 (h'.trans h''.symm)
                · have:=nbo.2.2; rw [push_next] at n67; exact absurd h' (by
                    intro h3
                    rcases hbo' with rfl | rfl
                    · exact h.ne h3
                    · have:=pth4.lt hw4; omega))).trans (x6.get bo' nbo.2.2)),
            hbo:=⟨nbo.1,nbo.2.1⟩,
            lev:=⟨⟨q,c',rfl,hq.keep fun b cs hb hc => ⟨kR7 b cs hb hc,hb⟩⟩,by omega,hps,⟨(hu.elim fun p' h' => h'.elim fun c'' h'' => ⟨p',c'',h''.1,h''.2.keep fun b cs hb hc => ⟨kR7 b cs hb hc,hb⟩⟩),by omega,hds,hlev.keep kR7⟩⟩,
            low:=h.low,
            pth:=by rw [v5,wayOf_cons,List.map_append]; exact pth7,
            hbp:=⟨nbp.1,nbp.2.1⟩,ne:=nbp.2.2,
            inv:=hB.stays _ _ _ _ i2 hw2 ⟨by omega,by have:=x3.clock; have:=x4.clock; have:=ch5.clock; have:=x6.clock; have:=ch7.clock; omega,fun b hb hn => c27 b hb (fun h' => hn ⟨fun hb' => hboB' (h' ▸ hb'),fun hr => by have:=h.low b hr; have:=nbo.1; have:=h.hbo.1; omega⟩) (fun h' => hn ⟨fun hb' => hbpB' (h' ▸ hb'),fun hr => by have:=h.low b hr; have:=nbp.1; have:=h.hbp.1; omega⟩)⟩,
            all:=by rw [hall,List.append_assoc,List.singleton_append],wf:=hw7,base:=by omega }
end
end Go.Proofs.YtodkeaoikjjneaaGreatDoor
/- The walker of package datum goes over all pieces. -/
namespace Go.Proofs.YtodkeaoikjjneaaGreatDoor
open Go Go.Eng
attribute [local congr] andThen_congr fops_congr fdraw_congr afterOp_congr drawF_congr
attribute [-go_sem] List.range_succ
section
variable {n l bw base : Nat} {R : Nat → Prop} {g : Value} {I : List (List Nat × D) → (Nat → Prop) → FState → Prop} {all : List (List Nat × D)}
theorem keepK : keepOf nls 127 = []:=by kernel_rfl
def Small (all : List (List Nat × D)) : Prop:=∀ x ∈ all,x.1.length < 80000 ∧ x.2.parts.length < 1000000000
theorem walk_loop (hB : Body (env n) l R g I all) (hS : Small all) : ∀ (m fuel : Nat) (st : List (List D × Nat)) (us : List Value) (done : List (List Nat × D)) (B : Nat → Prop) (bo bp : Nat) (f gg : Nat → Value) (σ : FState),
    2 * (todo st).length + st.length ≤ m → m < fuel → st.length ≤ 80000 → WHead l R g I all bw bo bp base B us st done f σ →
    ∃ f' g' σ' B',floop [] (l127_0 (env n) none 127) fuel (Sl 8 80 f gg []) none σ = .done (.exit 0) (Sl 8 80 f' g' []) none σ' ∧ Chg (fun b => B b ∨ base ≤ b) σ σ' ∧ (∀ b,B' b → B b ∨ base ≤ b) ∧ Wf σ' ∧ I all B' σ':=by
  intro m
  induction m with
  | zero =>
    intro fuel st us done B bo bp f gg σ hm hf hst h
    obtain ⟨fuel,rfl⟩ : ∃ q,fuel = q + 1:=⟨fuel - 1,by omega⟩
    obtain rfl : st = []:=by cases st with | nil => rfl | cons _ _ => simp at hm
    obtain rfl : us = []:=List.length_eq_zero_iff.1 h.lev.length
    obtain ⟨mo,h4,_⟩:=h.opn.cells
    have hall:=h.all
    have d0 : decide (Int.ofNat 0 > 0) = false:=by decide
    rw [show todo ([] : List (List D × Nat)) = [] from rfl,List.append_nil] at hall
    simp only [List.reverse_nil,List.length_nil] at h4
    rw [floop_step]
    unfold l127_0
    simp -implicitDefEqProofs only [go_sem,↓reduceIte,Nat.reduceLT,Nat.reduceEqDiff,Nat.reduceAdd,Nat.reduceMul,Nat.reduceLeDiff,Nat.reduceSub,r127_3_go,r127_3U,h4,d0]
    exact ⟨_,_,_,B,rfl,Chg.refl _ _,fun _ hb => .inl hb,h.wf,hall ▸ h.inv⟩
  | succ m ih =>
    intro fuel st us done B bo bp f gg σ hm hf hst h
    obtain ⟨fuel,rfl⟩ : ∃ q,fuel = q + 1:=⟨fuel - 1,by omega⟩
    cases st with
    | nil => exact ih (fuel + 1) [] us done B bo bp f gg σ (by simp [todo]) (by omega) hst h
    | cons x r =>
      obtain ⟨ds,i⟩:=x
      cases us with
      | nil => exact absurd h.lev (fun h => h)
      | cons u us =>
        have hi : i ≤ ds.length:=h.lev.2.1
        have hr : r.length + 1 ≤ 80000:=hst
        rw [floop_step,Sl_forget]
        by_cases he : i = ds.length
        · subst he
          obtain ⟨f',g',σ',e,hC,hH⟩:=round_up hB.to h (by omega) (kept [] gg)
          rw [e,andThen_normal]
          rw [todo_pop,below_bump] at hm
          have hlb : (bump r).length = r.length:=by cases r <;> rfl
          obtain ⟨f2,g2,σ2,B2,e2,hC2,hB2,hw2,hI2⟩:=ih fuel _ _ _ _ _ _ f' g' σ' (by simp at hm; omega) (by omega) (by omega) hH
          exact ⟨f2,g2,σ2,B2,e2,(hC.weaken fun b _ hb => .inr hb.1).trans hC2 (fun b _ hb => hb),hB2,hw2,hI2⟩
        · have hlt : i < ds.length:=by omega
          have hd : ds[i]? = some ds[i]:=List.getElem?_eq_getElem hlt
          have hall:=h.all
          rw [todo_push r hd] at hall
          have hx:=hS (wayOf r ++ [i],ds[i]) (by rw [hall]; simp)
          obtain ⟨f',g',σ',B',bo',bp',u',e,hC,hBB,hH⟩:=round_on hB.to (by rw [hall]; simp) h hd (by omega) hx.2 (kept [] gg)
          rw [e,andThen_normal]
          rw [todo_push r hd] at hm
          have hl : (wayOf r ++ [i]).length = r.length + 1:=by simp [wayOf_length]
          have hx1:=hx.1
          simp only [hl] at hx1
          obtain ⟨f2,g2,σ2,B2,e2,hC2,hB2,hw2,hI2⟩:=ih fuel _ _ _ _ _ _ f' g' σ' (by simp at hm ⊢; omega) (by omega) (by simp; omega) hH
          refine ⟨f2,g2,σ2,B2,e2,hC.trans hC2 fun b _ hb => ?_,fun b hb => ?_,hw2,hI2⟩
          · rcases hb with hb | hb
            · exact hBB b hb
            · exact .inr hb
          · rcases hB2 b hb with hb | hb
            · exact hBB b hb
            · exact .inr hb
theorem walked (d : D) (hB : Body (env n) l R g I (d.pieces [])) (hS : Small (d.pieces [])) (hN : (d.pieces []).length < 100000000000) (b1 b2 : Nat) (σ : FState) (v : Value) (lv : List Value) (B : Nat → Prop) (hw : Wf σ) (hi : I [] B σ) (hcv : σ.cells b1 = some lv) (hv : v = .agg lv.toArray) (hb1 : ¬ B b1) (hL : LaidR R σ v d) (hR : ∀ b,R b → b < σ.next) (hcw : σ.cells b2 = some [g]) (hb2 : ¬ B b2) :
    ∃ σ' B',(env (n + 1)).call 127 [.func (.yield l) #[] #[],.pointer (some ⟨b1,0,none⟩),.pointer (some ⟨b2,0,none⟩)] none σ = .ret (.tuple #[]) none σ' ∧ Chg B σ σ' ∧ (∀ b,B' b → B b ∨ σ.next ≤ b) ∧ Wf σ' ∧ I (d.pieces []) B' σ':=by
  subst hv
  obtain ⟨k,z,t,q,c',hag,hq⟩:=LaidR.shape hL
  have hlv : lv = [.int .i64 k,.int .i64 z,.string t,.slice q d.parts.length c']:=by
    have:=congrArg (fun v => match v with | .agg a => a.toList | _ => []) hag
    simpa using this
  subst hlv
  have hpc:=D.pieces_eq [] d
  obtain ⟨B',σ1,e1,hw1,ch1,hB1,i1⟩:=hB.go [] [] d _ B σ (.slice none 0 0) _ (by rw [hpc]; rfl) hw hi ⟨none,0,rfl,.inl ⟨rfl,rfl,rfl⟩⟩ hL
  have ownB:=hB.own _ _ _ hi
  have ownB1:=hB.own _ _ _ i1
  have hb1n:=hw.cells hcv
  have hb2n:=hw.cells hcw
  have n1:=ch1.next
  have cv1 : σ1.cells b1 = some [.int .i64 k,.int .i64 z,.string t,.slice q d.parts.length c']:=(ch1.cells hb1n hb1).trans hcv
  have cw1 : σ1.cells b2 = some [g]:=(ch1.cells hb2n hb2).trans hcw
  obtain ⟨_,σ2,e2,x2,hw2,rfl⟩:=hB.inside _ B' σ1 k z t q d.parts.length c' i1 hw1
  have n2:=x2.next
  have x3 : Ext σ2 ((σ2.push (.cells [.slice q d.parts.length c'] TL) none).push (.cells [.int .i64 0] TI) none):=((Ext.refl _).push _ _).push _ _
  have hw3:=(hw2.push (.cells [.slice q d.parts.length c'] TL) none).push (.cells [.int .i64 0] TI) none
  have hlow : ∀ b,B' b → B b ∨ σ.next ≤ b:=hB1
  have nB : ∀ b,b < σ.next → ¬ B b → ¬ B' b:=fun b hb h1 h2 => by
    rcases hB1 b h2 with h3 | h3
    · exact h1 h3
    · omega
  have c03 : ∀ b,b < σ.next → ¬ B b → ((σ2.push (.cells [.slice q d.parts.length c'] TL) none).push (.cells [.int .i64 0] TI) none).heap.get b = σ.heap.get b:=fun b hb h0 =>
    (x3.get b (by omega)).trans ((x2.get b (by omega)).trans (ch1.get b hb h0))
  have kR : ∀ b cs,R b → σ.cells b = some cs → ((σ2.push (.cells [.slice q d.parts.length c'] TL) none).push (.cells [.int .i64 0] TI) none).cells b = some cs:=fun b cs hb hc => by
    rw [cells_get,c03 b (hR b hb) (fun hB0 => (ownB b hB0).2 hb),← cells_get]
    exact hc
  rw [env_call _ 127 _ _ rfl,enter127 _ _ _ _ (by simp),Sl_start]
  unfold run127
  have tk : List.take 4 [Value.int .i64 k,.int .i64 z,.string t,.slice q d.parts.length c'] = [.int .i64 k,.int .i64 z,.string t,.slice q d.parts.length c']:=rfl
  simp -implicitDefEqProofs only [go_sem,↓reduceIte,Nat.reduceLT,Nat.reduceEqDiff,Nat.reduceAdd,Nat.reduceMul,Nat.reduceLeDiff,Nat.reduceSub,r127_0_go,r127_0U,r127_1_go,r127_1U,r127_2_go,r127_2U,Option.getD_some,hcv,fcallV_yield,after_yield,e1,cw1,cv1,e2,keepK,oneCell_func]
  generalize hff : upd _ 5 _ = f1
  generalize hgg : upd _ 16 _ = g1
  generalize hbf : bigFuel = fuel
  have hH : WHead l R g I (d.pieces []) b2 σ2.next (σ2.next + 1) σ.next B' [.slice q d.parts.length c'] [(d.parts,0)] ([] ++ [([],d)]) f1 ((σ2.push (.cells [.slice q d.parts.length c'] TL) none).push (.cells [.int .i64 0] TI) none):={
    f0:=by rw [← hff]; simp -implicitDefEqProofs only [upd_go,kept_go,↓reduceIte,Nat.reduceEqDiff,Nat.reduceLT,reduceCtorEq,List.getElem?_cons_zero,Option.getD_some]
    f2:=by rw [← hff]; simp -implicitDefEqProofs only [upd_go,kept_go,↓reduceIte,Nat.reduceEqDiff,Nat.reduceLT,reduceCtorEq,List.getElem?_cons_zero,List.getElem?_cons_succ,Option.getD_some]
    cw:=by rw [cells_get,c03 b2 hb2n hb2,← cells_get]; exact hcw
    hbw:=⟨hb2n,nB b2 hb2n hb2⟩
    opn:=⟨_,none,σ2.clock,by rw [← hff]; simp -implicitDefEqProofs only [upd_go,kept_go,↓reduceIte,Nat.reduceEqDiff,Nat.reduceLT,reduceCtorEq] <;> rfl,by rw [push_get,if_neg (by rw [push_next]; omega),push_get,if_pos rfl]; rfl,.inl rfl,[],rfl⟩
    hbo:=⟨by omega,fun h => by have:=(ownB1 _ h).1; omega⟩
    lev:=⟨⟨q,c',rfl,hq.keep fun b cs hb hc => ⟨kR b cs hb hc,hb⟩⟩,Nat.zero_le _,(hS ([],d) (by rw [hpc]; exact List.mem_cons_self)).2,trivial⟩
    low:=hR
    pth:=⟨_,none,σ2.clock + 1,by rw [← hff]; simp -implicitDefEqProofs only [upd_go,kept_go,↓reduceIte,Nat.reduceEqDiff,Nat.reduceLT,reduceCtorEq] <;> rfl,by rw [push_get,if_pos (by rw [push_next])]; rfl,.inl rfl,[],rfl⟩
    hbp:=⟨by omega,fun h => by have:=(ownB1 _ h).1; omega⟩
    ne:=by omega
    inv:=hB.stays _ _ _ _ i1 hw1 (by
      have:=x2.clock
      have:=x3.clock
      have:=x3.next
      exact ⟨by omega,by omega,fun b hb _ => (x3.get b (by omega)).trans (x2.get b hb)⟩)
    all:=by rw [hpc]; show _ = [] ++ [([],d)] ++ (D.piecesL [] 0 (d.parts.drop 0) ++ []); simp
    wf:=hw3
    base:=by rw [push_next,push_next]; omega }
  obtain ⟨f2,g2,σ4,B4,e4,ch4,hB4,hw4,i4⟩:=walk_loop hB hS _ fuel _ _ _ _ _ _ f1 g1 _ (Nat.le_refl _) (by
    rw [← hbf]
    show _ < 1000000000000
    have h1 : (todo [(d.parts,0)]).length = (D.piecesL [] 0 d.parts).length:=by simp [todo,below,wayOf]
    have h2:=congrArg List.length hpc
    rw [List.length_cons] at h2
    rw [h1,List.length_singleton]
    omega) (by simp) hH
  rw [e4]
  simp -implicitDefEqProofs only [go_sem,↓reduceIte,Nat.reduceLT,Nat.reduceEqDiff,Nat.reduceAdd,Nat.reduceMul,Nat.reduceLeDiff,Nat.reduceSub]
  refine ⟨_,B4,rfl,⟨?_,?_,?_⟩,?_,hw4,i4⟩
  · have:=x3.next; have:=ch4.next; omega
  · have:=ch1.clock; have:=x2.clock; have:=x3.clock; have:=ch4.clock; omega
  · intro b hb h0
    have:=x3.next
    rw [ch4.get b (by omega) (fun h => by
      rcases h with h | h
      · exact nB b hb h0 h
      · omega)]
    exact c03 b hb h0
  · intro b hb
    rcases hB4 b hb with h | h
    · exact hB1 b h
    · exact .inr h
end
end Go.Proofs.YtodkeaoikjjneaaGreatDoor
/- Slices that are full: appending to them, and lists of paths. Nothing of a program. -/
namespace Go.Eng
open Go
def Ful (T : TypeId) (σ : FState) (b : Nat) (s : Value) (vs : List Value) : Prop :=
  ∃ fz ver,s = .slice (some ⟨b,0,none⟩) vs.length vs.length ∧ σ.heap.get b = some ⟨.cells vs T,false,fz,ver⟩ ∧ (fz = none ∨ fz = some 1)
section
variable {T : TypeId} {σ σ' : FState} {b : Nat} {s : Value} {vs : List Value}
theorem Ful.keep (h : Ful T σ b s vs) (hb : σ'.heap.get b = σ.heap.get b) : Ful T σ' b s vs:=by
  obtain ⟨fz,ver,h1,h2,h3⟩:=h
  exact ⟨fz,ver,h1,hb.trans h2,h3⟩
theorem Ful.lt (h : Ful T σ b s vs) (hw : Wf σ) : b < σ.next:=by
  obtain ⟨fz,ver,h1,h2,h3⟩:=h
  exact (hw _ _ h2).1
theorem Ful.cells (h : Ful T σ b s vs) : s = .slice (some ⟨b,0,none⟩) vs.length vs.length ∧ σ.cells b = some vs:=by
  obtain ⟨fz,ver,h1,h2,h3⟩:=h
  exact ⟨h1,cells_of_get h2⟩
theorem Ful.one (h : Ful T σ b s vs) : oneCell s = true ∧ notTuple s = true ∧ valCells s = [s]:=by
  obtain ⟨fz,ver,rfl,_⟩:=h
  exact ⟨oneCell_slice _ _ _,notTuple_slice _ _ _,rfl⟩
theorem Ful.push (T : TypeId) (σ : FState) (vs : List Value) : Ful T (σ.push (.cells vs T) none) σ.next (.slice (some ⟨σ.next,0,none⟩) vs.length vs.length) vs:=⟨none,σ.clock,rfl,by rw [push_get,if_pos rfl],.inl rfl⟩
theorem fnew_some (bx n cx : Nat) (new rest : List Value) (hx : σ.cells bx = some (new ++ rest)) (hn : new.length = n) : fnew 1 (.slice (some ⟨bx,0,none⟩) n cx) σ = some (n,new):=by
  unfold fnew
  simp only [loadAll_eq,hx,Nat.mul_one,List.drop_zero,Nat.sub_zero,List.length_append]
  rw [if_pos (by omega),List.take_left' hn]
theorem Ful.append (h : Ful T σ b s vs) (hw : Wf σ) (src : Value) (new : List Value) (bytes : Nat) (hx : fnew 1 src σ = some (new.length,new)) (ho : new.all oneCell = true) (hby : bytes < 1000) (hlen : vs.length + new.length < 100000) :
    ∃ b' s' τ,fappend T 1 bytes s src σ = .val s' τ ∧ Ful T τ b' s' (vs ++ new) ∧ (b' = b ∨ b' = σ.next) ∧ Chg (· = b) σ τ ∧ Wf τ:=by
  have hb:=h.lt hw
  obtain ⟨fz,ver,rfl,h2,h3⟩:=h
  have e0 : fappend T 1 bytes (.slice (some ⟨b,0,none⟩) vs.length vs.length) src σ = fappend2 T 1 bytes vs.length vs.length (some ⟨b,0,none⟩) new.length new σ:=by
    unfold fappend
    simp only [hx,ho]
    rfl
  rw [e0]
  unfold fappend2
  by_cases hz : new.length = 0
  · obtain rfl : new = []:=List.length_eq_zero_iff.1 hz
    rw [show Nat.ble (vs.length + ([] : List Value).length) vs.length = true by rw [Nat.ble_eq]; simp]
    show ∃ b' s' τ,fappendRoom 1 vs.length vs.length (some ⟨b,0,none⟩) 0 [] σ = .val s' τ ∧ _
    unfold fappendRoom
    simp only [h2,spliceN_eq,Nat.mul_one,Nat.zero_add,List.length_nil,Nat.add_zero,Nat.le_refl,if_true,List.append_nil]
    refine ⟨b,_,_,rfl,⟨fz,σ.clock,rfl,?_,h3⟩,.inl rfl,(Chg.refl (· = b) _).put _ _ _ (.inr rfl),hw.put _ _ _ hb⟩
    rw [put_get,if_pos rfl]
    simp
  · have hm : (vs.length + new.length) * (bytes + 1) ≤ 100000 * 1000:=Nat.mul_le_mul (by omega) (by omega)
    rw [show Nat.ble (vs.length + new.length) vs.length = false by rw [← Bool.not_eq_true,Nat.ble_eq]; omega,show Nat.ble ((vs.length + new.length) * (bytes + 1)) 1000000000 = true by rw [Nat.ble_eq]; omega]
    show ∃ b' s' τ,fappendGrow T 1 vs.length vs.length (some ⟨b,0,none⟩) new.length new σ = .val s' τ ∧ _
    unfold fappendGrow
    have hc:=cells_of_get h2
    simp only [loadAll_eq,hc,h2,List.drop_zero,Nat.sub_zero,Nat.mul_one,Nat.le_refl,if_true]
    rw [List.take_of_length_le (Nat.le_refl _)]
    have hl : vs.length + new.length = (vs ++ new).length:=by simp
    rcases h3 with rfl | rfl
    · refine ⟨σ.next,.slice (some ⟨σ.next,0,none⟩) (vs.length + new.length) (vs.length + new.length),σ.push (.cells (vs ++ new) T) (some 1),rfl,⟨some 1,σ.clock,by rw [hl],by rw [push_get,if_pos rfl],.inr rfl⟩,.inr rfl,(Chg.refl _ _).push _ _,hw.push _ _⟩
    · rw [show Nat.beq vs.length vs.length = true by rw [Nat.beq_eq]]
      refine ⟨σ.next,.slice (some ⟨σ.next,0,none⟩) (vs.length + new.length) (vs.length + new.length),(σ.put b (.defd false) none).push (.cells (vs ++ new) T) (some 1),rfl,⟨some 1,(σ.put b (.defd false) none).clock,by rw [hl],by rw [push_get,if_pos (by rw [put_next])],.inr rfl⟩,.inr rfl,((Chg.refl (· = b) _).put _ _ _ (.inr rfl)).push _ _,(hw.put _ _ _ hb).push _ _⟩
theorem view_old {σ σ' : FState} (hw : Wf σ) {lam : Nat} (hl : σ.clock ≤ lam) {b : Nat} {c : List Value} (hb : σ'.heap.get b = σ.heap.get b) (hc : σ.cells b = some c) : (view σ' lam).cells b = some c:=by
  rw [cells_get,view_get,hb]
  rw [cells_get] at hc
  cases hg : σ.heap.get b with
  | none => rw [hg] at hc; cases hc
  | some e =>
    rw [hg] at hc
    simp only
    rw [if_pos (by have:=(hw b e hg).2; omega)]
    exact hc
def intsOf (path : List Nat) : List Value:=path.map fun i => .int .i64 (.ofNat i)
theorem intsOf_all (path : List Nat) : (intsOf path).all oneCell = true:=by
  induction path with
  | nil => rfl
  | cons x l ih => rw [intsOf,List.map_cons,List.all_cons,oneCell_int,Bool.true_and]; exact ih
theorem intsOf_length (path : List Nat) : (intsOf path).length = path.length:=by simp [intsOf]
def PathV (Q : Nat → Prop) (σ : FState) (v : Value) (path : List Nat) : Prop :=
  (v = .slice none 0 0 ∧ path = []) ∨ ∃ b cx rest,v = .slice (some ⟨b,0,none⟩) path.length cx ∧ Q b ∧ σ.cells b = some (intsOf path ++ rest)
theorem PathV.keep {Q Q' : Nat → Prop} {σ σ' : FState} {v : Value} {path : List Nat} (h : PathV Q σ v path) (hk : ∀ b c,Q b → σ.cells b = some c → σ'.cells b = some c ∧ Q' b) : PathV Q' σ' v path:=by
  rcases h with h | ⟨b,cx,rest,h1,h2,h3⟩
  · exact .inl h
  · exact .inr ⟨b,cx,rest,h1,(hk b _ h2 h3).2,(hk b _ h2 h3).1⟩
theorem PathV.fnew {Q : Nat → Prop} {σ : FState} {v : Value} {path : List Nat} (h : PathV Q σ v path) : Eng.fnew 1 v σ = some ((intsOf path).length,intsOf path):=by
  rcases h with ⟨rfl,rfl⟩ | ⟨b,cx,rest,rfl,h2,h3⟩
  · rfl
  · rw [intsOf_length]
    exact fnew_some b path.length cx _ rest h3 (intsOf_length _)
theorem PathV.one {Q : Nat → Prop} {σ : FState} {v : Value} {path : List Nat} (h : PathV Q σ v path) : oneCell v = true ∧ notTuple v = true ∧ valCells v = [v]:=by
  rcases h with ⟨rfl,rfl⟩ | ⟨b,cx,rest,rfl,h2,h3⟩
  · exact ⟨oneCell_slice _ _ _,notTuple_slice _ _ _,rfl⟩
  · exact ⟨oneCell_slice _ _ _,notTuple_slice _ _ _,rfl⟩
def PathsL (Q : Nat → Prop) (σ : FState) : List Value → List (List Nat) → Prop
  | [],[] => True
  | u :: us,p :: ps => PathV Q σ u p ∧ PathsL Q σ us ps
  | _,_ => False
theorem PathsL.keep {Q Q' : Nat → Prop} {σ σ' : FState} (hk : ∀ b c,Q b → σ.cells b = some c → σ'.cells b = some c ∧ Q' b) : ∀ {us : List Value} {ps : List (List Nat)},PathsL Q σ us ps → PathsL Q' σ' us ps
  | [],[],_ => trivial
  | _ :: _,_ :: _,⟨h1,h2⟩ => ⟨h1.keep hk,h2.keep hk⟩
theorem PathsL.length {Q : Nat → Prop} {σ : FState} : ∀ {us : List Value} {ps : List (List Nat)},PathsL Q σ us ps → us.length = ps.length
  | [],[],_ => rfl
  | _ :: _,_ :: _,⟨_,h2⟩ => congrArg (· + 1) h2.length
theorem PathsL.append {Q : Nat → Prop} {σ : FState} : ∀ {us us' : List Value} {ps ps' : List (List Nat)},PathsL Q σ us ps → PathsL Q σ us' ps' → PathsL Q σ (us ++ us') (ps ++ ps')
  | [],_,[],_,_,h => h
  | _ :: _,_,_ :: _,_,⟨h1,h2⟩,h => ⟨h1,h2.append h⟩
theorem PathsL.all {Q : Nat → Prop} {σ : FState} : ∀ {us : List Value} {ps : List (List Nat)},PathsL Q σ us ps → us.all oneCell = true
  | [],[],_ => rfl
  | _ :: _,_ :: _,⟨h1,h2⟩ => by rw [List.all_cons,h1.one.1,Bool.true_and]; exact h2.all
theorem PathsL.get {Q : Nat → Prop} {σ : FState} : ∀ {us : List Value} {ps : List (List Nat)} {i : Nat} {p : List Nat},PathsL Q σ us ps → ps[i]? = some p → ∃ u,us[i]? = some u ∧ PathV Q σ u p
  | u :: _,_ :: _,0,_,⟨h1,_⟩,h => by cases h; exact ⟨u,rfl,h1⟩
  | _ :: us,_ :: ps,i + 1,p,⟨_,h2⟩,h => by
    obtain ⟨u,h3,h4⟩:=PathsL.get (i:=i) h2 (by simpa using h)
    exact ⟨u,by simpa using h3,h4⟩
  | [],[],_,_,_,h => by simp at h
end
end Go.Eng
/- Functions of the program, written out in the reading's words (made by program; the kernel holds each against the code). -/
namespace Go.Proofs.YtodkeaoikjjneaaGreatDoor
open Go Go.Eng
variable (E : Env) (ro : Option Nat) (last : List Nat → RunF) (cl : List Nat) (a : FAct) (u : Option FrameMode) (σ : FState)
def r22_0U (_ : Unit) : List COp:=[⟨fun a σ => fbox 28 (a.get 0) σ,(some 2),fun _ => some true⟩,
  ⟨fun a σ => .val (.slice none 0 0) σ,(some 4),fun _ => some true⟩]
def r22_0 : List COp:=r22_0U ()
def r22_1U (_ : Unit) : List COp:=[⟨fun a σ => fbuildSlice 3 0 1 [(.int .i64 0)] [] σ,(some 7),fun _ => some true⟩,
  ⟨fun a σ => .val (a.get 1) σ,(some 8),fun _ => some true⟩,
  ⟨fun a σ => fappend 3 1 8 (a.get 7) (a.get 8) σ,(some 9),fun _ => some true⟩,
  ⟨fun a σ => fbuildSlice 22 1 1 [(.slice none 0 0)] [(0,(a.get 9))] σ,(some 10),fun _ => some true⟩,
  ⟨fun a σ => .val (a.get 10) σ,(some 5),fun _ => some true⟩]
def r22_1 : List COp:=r22_1U ()
def r22_2U (_ : Unit) : List COp:=[⟨fun a σ => .val (.int .i64 0) σ,(some 6),fun _ => some true⟩]
def r22_2 : List COp:=r22_2U ()
def r22_3U (_ : Unit) : List COp:=[⟨fun a σ => .val (a.get 6) σ,(some 11),fun _ => some true⟩,
  ⟨fun a σ => ffield 3 (a.get 2) σ,(some 12),fun _ => some true⟩,
  ⟨fun a σ => fload none (a.get 12) σ,(some 13),fun _ => some true⟩,
  ⟨fun a σ => flenL (a.get 13) σ,(some 14),fun _ => some true⟩,
  ⟨fun a σ => i_lss Tryz.prog 3 (.tmp 11) (.tmp 14) (a.get 11) (a.get 14) σ,(some 15),fun _ => some true⟩]
def r22_3 : List COp:=r22_3U ()
def r22_5U (_ : Unit) : List DOp:=[⟨fun a σ => fbuildSlice 3 0 1 [(.int .i64 0)] [] σ,(some 24),fun _ => some true,(some 0),false⟩,
  ⟨fun a σ => .val (a.get 1) σ,(some 25),fun _ => some true,(some 0),false⟩,
  ⟨fun a σ => fappend 3 1 8 (a.get 24) (a.get 25) σ,(some 26),fun _ => some true,none,false⟩,
  ⟨fun a σ => .val (a.get 6) σ,(some 27),fun _ => some true,(some 0),false⟩,
  ⟨fun a σ => fbuildSlice 3 1 1 [(.int .i64 0)] [(0,(a.get 27))] σ,(some 28),fun _ => some true,(some 0),false⟩,
  ⟨fun a σ => fappend 3 1 8 (a.get 26) (a.get 28) σ,(some 29),fun _ => some true,none,false⟩,
  ⟨fun a σ => ffield 3 (a.get 2) σ,(some 19),fun _ => some true,(some 0),false⟩,
  ⟨fun a σ => fload none (a.get 19) σ,(some 20),fun _ => some true,(some 0),false⟩,
  ⟨fun a σ => .val (a.get 6) σ,(some 21),fun _ => some true,(some 0),false⟩,
  ⟨fun a σ => findex (none,4) (a.get 20) (a.get 21) σ,(some 22),fun _ => some true,(some 0),false⟩,
  ⟨fun a σ => fload (some 4) (a.get 22) σ,(some 23),fun _ => some true,(some 0),false⟩,
  ⟨fun a σ => .enter 22 [(a.get 23),(a.get 29)] σ,(some 30),fun _ => some true,none,false⟩,
  ⟨fun a σ => .val (a.get 5) σ,(some 18),fun _ => some true,(some 0),false⟩,
  ⟨fun a σ => fappend 22 1 24 (a.get 18) (a.get 30) σ,(some 31),fun _ => some true,none,true⟩,
  ⟨fun a σ => .val (a.get 31) σ,(some 5),fun _ => some true,(some 4),false⟩]
def r22_5 : List DOp:=r22_5U ()
def r22_4U (_ : Unit) : List COp:=[⟨fun a σ => .val (a.get 6) σ,(some 16),fun _ => some true⟩,
  ⟨fun a σ => i_add Tryz.prog 3 (.tmp 16) (.const (.int .i64 1)) (a.get 16) (.int .i64 1) σ,(some 17),fun _ => some true⟩,
  ⟨fun a σ => .val (a.get 17) σ,(some 6),fun _ => some true⟩]
def r22_4 : List COp:=r22_4U ()
def l22_0 (E : Env) (ro : Option Nat) (fn : FuncId) : RunF:=(seqR (seqR (fops E ro r22_3) (condR (fun a => (a.get 15)) skipR (exitR 0))) (seqR (blockR 1 (drawR E ro r22_5)) (fops E ro r22_4)))
def r22_6U (_ : Unit) : List COp:=[⟨fun a σ => .val (a.get 5) σ,(some 32),fun _ => some true⟩,
  ⟨fun a σ => .val (a.get 32) σ,(some 4),fun _ => some true⟩]
def r22_6 : List COp:=r22_6U ()
def run22 (E : Env) (ro : Option Nat) (fn : FuncId) : RunF:=(seqR (fops E ro r22_0) (seqR (fops E ro r22_1) (seqR (seqR (fops E ro r22_2) (blockR 0 (loopR (keepOf nls fn) (l22_0 E ro fn)))) (seqR (fops E ro r22_6) retR))))
theorem r22_0_go : fops E ro r22_0 a u σ = fops E ro (r22_0U ()) a u σ:=rfl
theorem r22_1_go : fops E ro r22_1 a u σ = fops E ro (r22_1U ()) a u σ:=rfl
theorem r22_2_go : fops E ro r22_2 a u σ = fops E ro (r22_2U ()) a u σ:=rfl
theorem r22_3_go : fops E ro r22_3 a u σ = fops E ro (r22_3U ()) a u σ:=rfl
theorem r22_5_go : fdraw E ro last r22_5 cl a u σ = fdraw E ro last (r22_5U ()) cl a u σ:=rfl
theorem r22_4_go : fops E ro r22_4 a u σ = fops E ro (r22_4U ()) a u σ:=rfl
theorem r22_6_go : fops E ro r22_6 a u σ = fops E ro (r22_6U ()) a u σ:=rfl
theorem code22 (E : Env) (ro : Option Nat) (fn : FuncId) : code Tryz.prog nls (Tryz.f22.body.getD .skip) E ro fn = run22 E ro fn:=by kernel_rfl
theorem enter22 (E : Env) (args : List Value) (u : Option FrameMode) (σ : FState) (hn : args.length ≤ (7 : Nat)) : fcall Tryz.prog nls E 22 args u σ = leaveR Tryz.prog E [.tmp 4] (run22 E none 22 ⟨padTo undef 7 args,fun _ => undef,7,33,[]⟩ u σ):=by
  rw [fcall_of (body:=Tryz.f22.body.getD .skip) Tryz.func22 rfl E args u σ 7 33 (by kernel_rfl) rfl ⟨hn,by decide⟩,code22]
  rfl
def r27_0U (_ : Unit) : List COp:=[⟨fun a σ => fbox 28 (a.get 0) σ,(some 2),fun _ => some true⟩,
  ⟨fun a σ => newCells [(.int .i64 0),(.int .i64 0),(.string ⟨#[]⟩),(.slice none 0 0)] 28 none σ,(some 4),fun _ => some true⟩,
  ⟨fun a σ => .val (.bool false) σ,(some 5),fun _ => some true⟩]
def r27_0 : List COp:=r27_0U ()
def r27_1U (_ : Unit) : List COp:=[⟨fun a σ => .val (.int .i64 0) σ,(some 6),fun _ => some true⟩]
def r27_1 : List COp:=r27_1U ()
def r27_2U (_ : Unit) : List COp:=[⟨fun a σ => .val (a.get 6) σ,(some 7),fun _ => some true⟩,
  ⟨fun a σ => .val (a.get 1) σ,(some 8),fun _ => some true⟩,
  ⟨fun a σ => flenL (a.get 8) σ,(some 9),fun _ => some true⟩,
  ⟨fun a σ => i_lss Tryz.prog 3 (.tmp 7) (.tmp 9) (a.get 7) (a.get 9) σ,(some 10),fun _ => some true⟩]
def r27_2 : List COp:=r27_2U ()
def r27_4U (_ : Unit) : List DOp:=[⟨fun a σ => .val (a.get 1) σ,(some 13),fun _ => some true,(some 0),false⟩,
  ⟨fun a σ => .val (a.get 6) σ,(some 14),fun _ => some true,(some 0),false⟩,
  ⟨fun a σ => findex (none,1) (a.get 13) (a.get 14) σ,(some 15),fun _ => some true,(some 0),false⟩,
  ⟨fun a σ => fload none (a.get 15) σ,(some 16),fun _ => some true,(some 0),false⟩,
  ⟨fun a σ => ffield 3 (a.get 2) σ,(some 17),fun _ => some true,(some 0),false⟩,
  ⟨fun a σ => fload none (a.get 17) σ,(some 18),fun _ => some true,(some 0),false⟩,
  ⟨fun a σ => flenL (a.get 18) σ,(some 19),fun _ => some true,(some 0),false⟩,
  ⟨fun a σ => i_sub Tryz.prog 3 (.tmp 19) (.const (.int .i64 1)) (a.get 19) (.int .i64 1) σ,(some 20),fun _ => some true,(some 0),false⟩,
  ⟨fun a σ => .enter 75 [(a.get 16),(.int .i64 0),(a.get 20)] σ,(some 21),fun _ => some true,none,true⟩,
  ⟨fun a σ => fun1 Tryz.prog (Op.unary .not) (a.get 21) σ,(some 22),fun _ => some true,(some 1),false⟩]
def r27_4 : List DOp:=r27_4U ()
def r27_5U (_ : Unit) : List COp:=[⟨fun a σ => fbuild (fun i => nth [(0,1),(1,1),(2,1),(3,1)] i) [(.int .i64 0),(.int .i64 0),(.string ⟨#[]⟩),(.slice none 0 0)] [] σ,(some 23),fun _ => some true⟩,
  ⟨fun a σ => fstore 4 (a.get 4) (a.get 23) σ,none,fun _ => some true⟩,
  ⟨fun a σ => .val (.bool false) σ,(some 5),fun _ => some true⟩]
def r27_5 : List COp:=r27_5U ()
def r27_6U (_ : Unit) : List DOp:=[⟨fun a σ => ffield 3 (a.get 2) σ,(some 24),fun _ => some true,(some 0),false⟩,
  ⟨fun a σ => fload none (a.get 24) σ,(some 25),fun _ => some true,(some 0),false⟩,
  ⟨fun a σ => .val (a.get 1) σ,(some 26),fun _ => some true,(some 0),false⟩,
  ⟨fun a σ => .val (a.get 6) σ,(some 27),fun _ => some true,(some 0),false⟩,
  ⟨fun a σ => findex (none,1) (a.get 26) (a.get 27) σ,(some 28),fun _ => some true,(some 0),false⟩,
  ⟨fun a σ => fload none (a.get 28) σ,(some 29),fun _ => some true,(some 0),false⟩,
  ⟨fun a σ => findex (none,4) (a.get 25) (a.get 29) σ,(some 30),fun _ => some true,(some 0),false⟩,
  ⟨fun a σ => fload (some 4) (a.get 30) σ,(some 31),fun _ => some true,(some 0),false⟩,
  ⟨fun a σ => fstore 4 (a.get 2) (a.get 31) σ,none,fun _ => some true,none,true⟩]
def r27_6 : List DOp:=r27_6U ()
def r27_3U (_ : Unit) : List COp:=[⟨fun a σ => .val (a.get 6) σ,(some 11),fun _ => some true⟩,
  ⟨fun a σ => i_add Tryz.prog 3 (.tmp 11) (.const (.int .i64 1)) (a.get 11) (.int .i64 1) σ,(some 12),fun _ => some true⟩,
  ⟨fun a σ => .val (a.get 12) σ,(some 6),fun _ => some true⟩]
def r27_3 : List COp:=r27_3U ()
def l27_0 (E : Env) (ro : Option Nat) (fn : FuncId) : RunF:=(seqR (seqR (fops E ro r27_2) (condR (fun a => (a.get 10)) skipR (exitR 0))) (seqR (blockR 1 (seqR (seqR (drawR E ro r27_4) (condR (fun a => (a.get 22)) (seqR (fops E ro r27_5) retR) skipR)) (drawR E ro r27_6))) (fops E ro r27_3)))
def r27_7U (_ : Unit) : List COp:=[⟨fun a σ => fload (some 4) (a.get 2) σ,(some 32),fun _ => some true⟩,
  ⟨fun a σ => fstore 4 (a.get 4) (a.get 32) σ,none,fun _ => some true⟩,
  ⟨fun a σ => .val (.bool true) σ,(some 5),fun _ => some true⟩]
def r27_7 : List COp:=r27_7U ()
def run27 (E : Env) (ro : Option Nat) (fn : FuncId) : RunF:=(seqR (fops E ro r27_0) (seqR (seqR (fops E ro r27_1) (blockR 0 (loopR (keepOf nls fn) (l27_0 E ro fn)))) (seqR (fops E ro r27_7) retR)))
theorem r27_0_go : fops E ro r27_0 a u σ = fops E ro (r27_0U ()) a u σ:=rfl
theorem r27_1_go : fops E ro r27_1 a u σ = fops E ro (r27_1U ()) a u σ:=rfl
theorem r27_2_go : fops E ro r27_2 a u σ = fops E ro (r27_2U ()) a u σ:=rfl
theorem r27_4_go : fdraw E ro last r27_4 cl a u σ = fdraw E ro last (r27_4U ()) cl a u σ:=rfl
theorem r27_6_go : fdraw E ro last r27_6 cl a u σ = fdraw E ro last (r27_6U ()) cl a u σ:=rfl
theorem r27_3_go : fops E ro r27_3 a u σ = fops E ro (r27_3U ()) a u σ:=rfl
theorem r27_7_go : fops E ro r27_7 a u σ = fops E ro (r27_7U ()) a u σ:=rfl
theorem code27 (E : Env) (ro : Option Nat) (fn : FuncId) : code Tryz.prog nls (Tryz.f27.body.getD .skip) E ro fn = run27 E ro fn:=by kernel_rfl
theorem enter27 (E : Env) (args : List Value) (u : Option FrameMode) (σ : FState) (hn : args.length ≤ (7 : Nat)) : fcall Tryz.prog nls E 27 args u σ = leaveR Tryz.prog E [.cell 4 28,.tmp 5] (run27 E none 27 ⟨padTo undef 7 args,fun _ => undef,7,33,[]⟩ u σ):=by
  rw [fcall_of (body:=Tryz.f27.body.getD .skip) Tryz.func27 rfl E args u σ 7 33 (by kernel_rfl) rfl ⟨hn,by decide⟩,code27]
  rfl
def r75_0U (_ : Unit) : List COp:=[⟨fun a σ => .val (.bool false) σ,(some 6),fun _ => some true⟩]
def r75_0 : List COp:=r75_0U ()
def r75_1U (_ : Unit) : List COp:=[⟨fun a σ => .val (a.get 1) σ,(some 7),fun _ => some true⟩,
  ⟨fun a σ => .val (a.get 0) σ,(some 8),fun _ => some true⟩,
  ⟨fun a σ => i_leq Tryz.prog 3 (.tmp 7) (.tmp 8) (a.get 7) (a.get 8) σ,(some 9),fun _ => some true⟩,
  ⟨fun a σ => .val (a.get 9) σ,(some 10),fun _ => some true⟩,
  ⟨fun a σ => .val (a.get 0) σ,(some 11),fun a => gd (a.get 10) true⟩,
  ⟨fun a σ => .val (a.get 2) σ,(some 12),fun a => gd (a.get 10) true⟩,
  ⟨fun a σ => i_leq Tryz.prog 3 (.tmp 11) (.tmp 12) (a.get 11) (a.get 12) σ,(some 13),fun a => gd (a.get 10) true⟩,
  ⟨fun a σ => fpick (a.get 10) (a.get 13) (.bool false) σ,(some 14),fun _ => some true⟩,
  ⟨fun a σ => .val (a.get 14) σ,(some 6),fun _ => some true⟩]
def r75_1 : List COp:=r75_1U ()
def run75 (E : Env) (ro : Option Nat) (fn : FuncId) : RunF:=(seqR (fops E ro r75_0) (seqR (fops E ro r75_1) retR))
theorem r75_0_go : fops E ro r75_0 a u σ = fops E ro (r75_0U ()) a u σ:=rfl
theorem r75_1_go : fops E ro r75_1 a u σ = fops E ro (r75_1U ()) a u σ:=rfl
theorem code75 (E : Env) (ro : Option Nat) (fn : FuncId) : code Tryz.prog nls (Tryz.f75.body.getD .skip) E ro fn = run75 E ro fn:=by kernel_rfl
theorem enter75 (E : Env) (args : List Value) (u : Option FrameMode) (σ : FState) (hn : args.length ≤ (6 : Nat)) : fcall Tryz.prog nls E 75 args u σ = leaveR Tryz.prog E [.tmp 6] (run75 E none 75 ⟨padTo undef 6 args,fun _ => undef,6,15,[]⟩ u σ):=by
  rw [fcall_of (body:=Tryz.f75.body.getD .skip) Tryz.func75 rfl E args u σ 6 15 (by kernel_rfl) rfl ⟨hn,by decide⟩,code75]
  rfl
def r29_0U (_ : Unit) : List COp:=[⟨fun a σ => .val (.bool false) σ,(some 4),fun _ => some true⟩]
def r29_0 : List COp:=r29_0U ()
def r29_1U (_ : Unit) : List COp:=[⟨fun a σ => .val (a.get 0) σ,(some 6),fun _ => some true⟩,
  ⟨fun a σ => flenL (a.get 6) σ,(some 7),fun _ => some true⟩,
  ⟨fun a σ => .val (a.get 1) σ,(some 8),fun _ => some true⟩,
  ⟨fun a σ => flenL (a.get 8) σ,(some 9),fun _ => some true⟩,
  ⟨fun a σ => i_neq Tryz.prog 3 (.tmp 7) (.tmp 9) (a.get 7) (a.get 9) σ,(some 10),fun _ => some true⟩]
def r29_1 : List COp:=r29_1U ()
def r29_2U (_ : Unit) : List COp:=[⟨fun a σ => .val (.bool false) σ,(some 4),fun _ => some true⟩]
def r29_2 : List COp:=r29_2U ()
def r29_3U (_ : Unit) : List COp:=[⟨fun a σ => .val (.int .i64 0) σ,(some 5),fun _ => some true⟩]
def r29_3 : List COp:=r29_3U ()
def r29_4U (_ : Unit) : List COp:=[⟨fun a σ => .val (a.get 5) σ,(some 11),fun _ => some true⟩,
  ⟨fun a σ => .val (a.get 0) σ,(some 12),fun _ => some true⟩,
  ⟨fun a σ => flenL (a.get 12) σ,(some 13),fun _ => some true⟩,
  ⟨fun a σ => i_lss Tryz.prog 3 (.tmp 11) (.tmp 13) (a.get 11) (a.get 13) σ,(some 14),fun _ => some true⟩]
def r29_4 : List COp:=r29_4U ()
def r29_6U (_ : Unit) : List DOp:=[⟨fun a σ => .val (a.get 0) σ,(some 17),fun _ => some true,(some 0),false⟩,
  ⟨fun a σ => .val (a.get 5) σ,(some 18),fun _ => some true,(some 0),false⟩,
  ⟨fun a σ => findex (none,1) (a.get 17) (a.get 18) σ,(some 19),fun _ => some true,(some 0),false⟩,
  ⟨fun a σ => fload none (a.get 19) σ,(some 20),fun _ => some true,(some 0),false⟩,
  ⟨fun a σ => .val (a.get 1) σ,(some 21),fun _ => some true,(some 0),false⟩,
  ⟨fun a σ => .val (a.get 5) σ,(some 22),fun _ => some true,(some 0),false⟩,
  ⟨fun a σ => findex (none,1) (a.get 21) (a.get 22) σ,(some 23),fun _ => some true,(some 0),false⟩,
  ⟨fun a σ => fload none (a.get 23) σ,(some 24),fun _ => some true,(some 0),false⟩,
  ⟨fun a σ => i_neq Tryz.prog 3 (.tmp 20) (.tmp 24) (a.get 20) (a.get 24) σ,(some 25),fun _ => some true,(some 0),false⟩]
def r29_6 : List DOp:=r29_6U ()
def r29_7U (_ : Unit) : List COp:=[⟨fun a σ => .val (.bool false) σ,(some 4),fun _ => some true⟩]
def r29_7 : List COp:=r29_7U ()
def r29_5U (_ : Unit) : List COp:=[⟨fun a σ => .val (a.get 5) σ,(some 15),fun _ => some true⟩,
  ⟨fun a σ => i_add Tryz.prog 3 (.tmp 15) (.const (.int .i64 1)) (a.get 15) (.int .i64 1) σ,(some 16),fun _ => some true⟩,
  ⟨fun a σ => .val (a.get 16) σ,(some 5),fun _ => some true⟩]
def r29_5 : List COp:=r29_5U ()
def l29_0 (E : Env) (ro : Option Nat) (fn : FuncId) : RunF:=(seqR (seqR (fops E ro r29_4) (condR (fun a => (a.get 14)) skipR (exitR 0))) (seqR (blockR 1 (seqR (drawR E ro r29_6) (condR (fun a => (a.get 25)) (seqR (fops E ro r29_7) retR) skipR))) (fops E ro r29_5)))
def r29_8U (_ : Unit) : List COp:=[⟨fun a σ => .val (.bool true) σ,(some 4),fun _ => some true⟩]
def r29_8 : List COp:=r29_8U ()
def run29 (E : Env) (ro : Option Nat) (fn : FuncId) : RunF:=(seqR (fops E ro r29_0) (seqR (seqR (fops E ro r29_1) (condR (fun a => (a.get 10)) (seqR (fops E ro r29_2) retR) skipR)) (seqR (seqR (fops E ro r29_3) (blockR 0 (loopR (keepOf nls fn) (l29_0 E ro fn)))) (seqR (fops E ro r29_8) retR))))
theorem r29_0_go : fops E ro r29_0 a u σ = fops E ro (r29_0U ()) a u σ:=rfl
theorem r29_1_go : fops E ro r29_1 a u σ = fops E ro (r29_1U ()) a u σ:=rfl
theorem r29_2_go : fops E ro r29_2 a u σ = fops E ro (r29_2U ()) a u σ:=rfl
theorem r29_3_go : fops E ro r29_3 a u σ = fops E ro (r29_3U ()) a u σ:=rfl
theorem r29_4_go : fops E ro r29_4 a u σ = fops E ro (r29_4U ()) a u σ:=rfl
theorem r29_6_go : fdraw E ro last r29_6 cl a u σ = fdraw E ro last (r29_6U ()) cl a u σ:=rfl
theorem r29_7_go : fops E ro r29_7 a u σ = fops E ro (r29_7U ()) a u σ:=rfl
theorem r29_5_go : fops E ro r29_5 a u σ = fops E ro (r29_5U ()) a u σ:=rfl
theorem r29_8_go : fops E ro r29_8 a u σ = fops E ro (r29_8U ()) a u σ:=rfl
theorem code29 (E : Env) (ro : Option Nat) (fn : FuncId) : code Tryz.prog nls (Tryz.f29.body.getD .skip) E ro fn = run29 E ro fn:=by kernel_rfl
theorem enter29 (E : Env) (args : List Value) (u : Option FrameMode) (σ : FState) (hn : args.length ≤ (6 : Nat)) : fcall Tryz.prog nls E 29 args u σ = leaveR Tryz.prog E [.tmp 4] (run29 E none 29 ⟨padTo undef 6 args,fun _ => undef,6,26,[]⟩ u σ):=by
  rw [fcall_of (body:=Tryz.f29.body.getD .skip) Tryz.func29 rfl E args u σ 6 26 (by kernel_rfl) rfl ⟨hn,by decide⟩,code29]
  rfl
end Go.Proofs.YtodkeaoikjjneaaGreatDoor
/- caracoleref01.Paths: all paths of a datum. -/
namespace Go.Proofs.YtodkeaoikjjneaaGreatDoor
open Go Go.Eng
attribute [local congr] andThen_congr fops_congr fdraw_congr afterOp_congr drawF_congr
attribute [-go_sem] List.range_succ
abbrev TP : TypeId:=22
theorem keepPaths : keepOf nls 22 = [32]:=by kernel_rfl
structure HeadPa (bd bo base : Nat) (R : Nat → Prop) (k z : Int) (t : ByteArray) (q : Option Addr) (c : Nat) (ds : List D) (at' : List Nat) (atv : Value) (us : List Value) (ps : List (List Nat)) (σ0 : FState) (i : Nat) (f : Nat → Value) (σ : FState) : Prop where
  f1 : f 1 = atv
  f2 : f 2 = .pointer (some ⟨bd,0,none⟩)
  f5 : Ful TP σ bo (f 5) us
  f6 : f 6 = .int .i64 (.ofNat i)
  cd : σ.cells bd = some [.int .i64 k,.int .i64 z,.string t,.slice q ds.length c]
  lay : LaidRE R σ q 0 ds
  low : ∀ b,R b → b < base
  atp : PathV (· < base) σ atv at'
  hbd : base ≤ bd ∧ bd ≠ bo
  hbo : base ≤ bo
  lst : PathsL (fun b => base ≤ b ∧ b ≠ bo) σ us ps
  wf : Wf σ
  ext : Ext σ0 σ
  le : i ≤ ds.length
  few : ds.length < 10000
def PathsAt (m : Nat) (d : D) : Prop:=∀ (at' : List Nat) (v atv : Value) (R Q : Nat → Prop) (σ : FState),Wf σ → LaidR R σ v d → PathV Q σ atv at' → at'.length + d.deep < 1000 → (d.pieces at').length < 10000 →
  Gives ((env m).call 22 [v,atv] none σ) σ fun w σ' => ∃ b us,σ.next ≤ b ∧ Ful TP σ' b w us ∧ PathsL (fun b => σ.next ≤ b) σ' us ((d.pieces at').map (·.1))
theorem deeps_mem : ∀ {ds : List D} {d : D},d ∈ ds → d.deep ≤ D.deeps ds
  | x :: ds,d,h => by
    rw [D.deeps]
    rcases List.mem_cons.1 h with rfl | h
    · omega
    · have:=deeps_mem h; omega
theorem piecesL_len : ∀ (ds : List D) (at' : List Nat) (i : Nat),ds.length ≤ (D.piecesL at' i ds).length
  | [],_,_ => Nat.zero_le _
  | d :: ds,at',i => by
    rw [D.piecesL,List.length_append,D.pieces_eq,List.length_cons,List.length_cons]
    have:=piecesL_len ds at' (i + 1)
    omega
end Go.Proofs.YtodkeaoikjjneaaGreatDoor
/- Ranging over a walk; how deep a datum is. -/
namespace Go.Proofs.YtodkeaoikjjneaaGreatDoor
open Go Go.Eng
attribute [local congr] andThen_congr fops_congr fdraw_congr afterOp_congr drawF_congr
attribute [-go_sem] List.range_succ
theorem walkW_go (n : Nat) (g : Value) (lv : List Value) (σ : FState) (hw : Wf σ) (hg : notTuple g = true) :
    ∃ σ',(env (n + 1)).call 102 [.agg #[g],.agg lv.toArray] none σ = .ret (.func (.func 127) #[] #[.pointer (some ⟨σ.next + 1,0,none⟩),.pointer (some ⟨σ.next,0,none⟩)]) none σ' ∧ Ext σ σ' ∧ Wf σ' ∧ σ'.next = σ.next + 2 ∧ σ'.cells σ.next = some [g] ∧ σ'.cells (σ.next + 1) = some lv:=by
  rw [env_call _ 102 _ _ rfl,enter102 _ _ _ _ (by simp),Sl_start]
  unfold run102
  simp -implicitDefEqProofs only [go_sem,↓reduceIte,Nat.reduceLT,Nat.reduceEqDiff,Nat.reduceAdd,Nat.reduceMul,Nat.reduceLeDiff,Nat.reduceSub,r102_0_go,r102_0U,r102_1_go,r102_1U,Option.getD_some]
  exact ⟨_,rfl,((Ext.refl _).push _ _).push _ _,(hw.push _ _).push _ _,rfl,by rw [cells_push,if_neg (by rw [push_next]; omega),cells_push,if_pos rfl]; rfl,by rw [cells_push,if_pos (by rw [push_next])]; rfl⟩
theorem alwaysIn (n : Nat) (s : Value) (σ : FState) : (env (n + 1)).call 135 [s] none σ = .ret (.bool true) none σ:=by
  rw [env_call _ 135 _ _ rfl,enter135 _ _ _ _ (by simp),Sl_start]
  unfold run135
  simp -implicitDefEqProofs only [go_sem,↓reduceIte,Nat.reduceLT,Nat.reduceEqDiff,Nat.reduceAdd,Nat.reduceMul,Nat.reduceLeDiff,Nat.reduceSub,r135_0_go,r135_0U,r135_1_go,r135_1U]
theorem walkD_go (n : Nat) (lv : List Value) (h4 : lv.length = 4) (σ : FState) (hw : Wf σ) :
    ∃ σ' b1 b2,(env (n + 2)).call 110 [.agg lv.toArray] none σ = .ret (.func (.func 127) #[] #[.pointer (some ⟨b1,0,none⟩),.pointer (some ⟨b2,0,none⟩)]) none σ' ∧ Ext σ σ' ∧ Wf σ' ∧ σ.next ≤ b1 ∧ σ.next ≤ b2 ∧ σ'.cells b2 = some [.func (.func 135) #[] #[]] ∧ σ'.cells b1 = some lv:=by
  have hw1:=hw.push (.cells lv TD) none
  obtain ⟨σ2,e2,x2,hw2,_,c1,c2⟩:=walkW_go n (.func (.func 135) #[] #[]) lv (σ.push (.cells lv TD) none) hw1 (notTuple_func _ _ _)
  rw [env_call _ 110 _ _ rfl,enter110 _ _ _ _ (by simp),Sl_start]
  unfold run110
  have ht : lv.take 4 = lv:=List.take_of_length_le (by omega)
  simp -implicitDefEqProofs only [go_sem,↓reduceIte,Nat.reduceLT,Nat.reduceEqDiff,Nat.reduceAdd,Nat.reduceMul,Nat.reduceLeDiff,Nat.reduceSub,r110_0_go,r110_0U,r110_1_go,r110_1U,Option.getD_some,notTuple_func,valCells_func,h4,ht,e2,Nat.le_refl]
  exact ⟨_,_,_,rfl,((Ext.refl _).push _ _).trans x2,hw2,by omega,by omega,c1,c2⟩
theorem range_walk (m : Nat) (fn : FuncId) (params : List Tmp) (assign body : Code) (nl nt : Nat) (f g : Nat → Value) (ds : List Deferred) (u : Option FrameMode) (t b1 b2 : Nat) (σ : FState) (w : Value) (R : Nat → Prop) (d : D) (lv : List Value) (I : List (List Nat × D) → (Nat → Prop) → FState → Prop) (B : Nat → Prop)
    (hB : Body (env m) (σ.next + 1) R w I (d.pieces [])) (hS : Small (d.pieces [])) (hN : (d.pieces []).length < 100000000000)
    (hl : ∀ done B σ',I done B σ' → LoopAt fn params assign body nl nt f g (σ.next + 1) σ.next .ready σ' ∧ ∃ ver,σ'.heap.get σ.next = some ⟨.defd true,false,none,ver⟩)
    (hi : I [] B ((σ.push (.defd true) none).push (.loop .ready none fn ((List.range nl).map f) g nl nt params assign body σ.next) none))
    (ht : (Sl nl nt f g ds).get t = .func (.func 127) #[] #[.pointer (some ⟨b1,0,none⟩),.pointer (some ⟨b2,0,none⟩)])
    (hw : Wf σ) (hcv : σ.cells b1 = some lv) (hb1 : ¬ B b1) (hL : LaidR R σ (.agg lv.toArray) d) (hR : ∀ b,R b → b < σ.next) (hcw : σ.cells b2 = some [w]) (hb2 : ¬ B b2) :
    ∃ σ' B',frange (env (m + 1)) none fn (.tmp t) params assign body (Sl nl nt f g ds) u σ =
        .done .normal (Sl nl nt f g ({ target:=.collected σ.next,args:=#[] } :: ds)) u (σ'.put (σ.next + 1) (.loop .exhausted none fn ((List.range nl).map f) g nl nt params assign body σ.next) none) ∧
      Chg B σ σ' ∧ σ.next + 2 ≤ σ'.next ∧ (∀ b,B' b → B b ∨ σ.next ≤ b) ∧ Wf σ' ∧ I (d.pieces []) B' σ':=by
  rw [frange_go _ _ _ _ _ _ _ _ _ _ _ _ t _ _ _ ht]
  have x1 : Ext σ ((σ.push (.defd true) none).push (.loop .ready none fn ((List.range nl).map f) g nl nt params assign body σ.next) none):=((Ext.refl _).push _ _).push _ _
  have hw1:=(hw.push (.defd true) none).push (.loop .ready none fn ((List.range nl).map f) g nl nt params assign body σ.next) none
  have hn1 : ((σ.push (.defd true) none).push (.loop .ready none fn ((List.range nl).map f) g nl nt params assign body σ.next) none).next = σ.next + 2:=rfl
  generalize FState.push _ (.loop .ready none fn ((List.range nl).map f) g nl nt params assign body σ.next) none = σ1 at hi x1 hw1 hn1 ⊢
  have hb1n:=hw.cells hcv
  have hb2n:=hw.cells hcw
  obtain ⟨σ2,B2,e2,ch2,hB2,hw2,i2⟩:=walked d hB hS hN b1 b2 σ1 _ lv B hw1 hi ((x1.cells hb1n).trans hcv) rfl hb1 (hL.keep fun b cs hb hc => ⟨(x1.cells (hw.cells hc)).trans hc,hb⟩) (fun b hb => by have:=hR b hb; omega) ((x1.cells hb2n).trans hcw) hb2
  have hargs : (#[] : Array Value).toList ++ [Value.func (.yield (σ.next + 1)) #[] #[]] ++ (#[.pointer (some ⟨b1,0,none⟩),.pointer (some ⟨b2,0,none⟩)] : Array Value).toList = [.func (.yield (σ.next + 1)) #[] #[],.pointer (some ⟨b1,0,none⟩),.pointer (some ⟨b2,0,none⟩)]:=rfl
  rw [hargs,e2,leaveLoop_go _ _ _ _ _ _ _ _ _ _ _ _ _ _ _ _ (hl _ _ _ i2).1]
  have n2:=ch2.next
  refine ⟨σ2,B2,rfl,⟨by omega,Nat.le_trans x1.clock ch2.clock,fun b hb h0 => (ch2.get b (by omega) h0).trans (x1.get b hb)⟩,by omega,fun b hb => ?_,hw2,i2⟩
  rcases hB2 b hb with h | h
  · exact .inl h
  · exact .inr (by omega)
def longest (l : List (List Nat × D)) : Nat:=l.foldl (fun m x => max m (x.1.length + 1)) 0
def DeepI (l r cm : Nat) (f g : Nat → Value) (done : List (List Nat × D)) (B : Nat → Prop) (σ : FState) : Prop :=
  (∀ b,B b ↔ b = l ∨ b = r ∨ b = cm) ∧ l < σ.next ∧ r < σ.next ∧ cm < σ.next ∧ LoopAt 83 [7,8] c83_0a c83_0b 5 15 f g l r .ready σ ∧ (∃ ver,σ.heap.get r = some ⟨.defd true,false,none,ver⟩) ∧
    ∃ ver,σ.heap.get cm = some ⟨.cells [.int .i64 (.ofNat (longest done))] TI,false,none,ver⟩
end Go.Proofs.YtodkeaoikjjneaaGreatDoor
/- package datum's valid: how many pieces a datum has, all of which are as they should be. -/
namespace Go.Proofs.YtodkeaoikjjneaaGreatDoor
open Go Go.Eng
attribute [local congr] andThen_congr fops_congr fdraw_congr afterOp_congr drawF_congr
attribute [-go_sem] List.range_succ
def AllGood (m : Nat) (all : List (List Nat × D)) : Prop:=∀ path k z t ds,(path,D.mk k z t ds) ∈ all → ∃ k' : Nat,k = (k' : Int) ∧ Good m k' z t ds.length
def ValidI (l r cb mp : Nat) (f g : Nat → Value) (done : List (List Nat × D)) (B : Nat → Prop) (σ : FState) : Prop :=
  (∀ b,B b ↔ b = l ∨ b = r ∨ b = cb) ∧ l < σ.next ∧ r < σ.next ∧ cb < σ.next ∧ LoopAt 60 [12,13] c60_0a c60_0b 6 25 f g l r .ready σ ∧ (∃ ver,σ.heap.get r = some ⟨.defd true,false,none,ver⟩) ∧
    (∃ ver,σ.heap.get cb = some ⟨.cells [.int .i64 (.ofNat done.length),.map (some mp)] 124,false,none,ver⟩) ∧ done.length ≤ 2000
theorem valid_body (m l r cb mp : Nat) (R : Nat → Prop) (f g : Nat → Value) (all : List (List Nat × D)) (hne : cb < r ∧ r < l) (h3 : f 3 = .pointer (some ⟨cb,0,none⟩)) (hR : ∀ b,R b → b < cb) (hG : AllGood m all) (hN : all.length ≤ 2000) :
    Body (env (m + 3)) l R (.func (.func 101) #[.pointer (some ⟨cb,0,none⟩)] #[]) (ValidI l r cb mp f g) all where
  stays:=fun done B σ σ' ⟨h1,h2,h3,h4,h5,⟨v6,h6⟩,⟨v7,h7⟩,h8⟩ hw hC => by
    have k : ∀ b,B b → b < σ.next → σ'.heap.get b = σ.heap.get b:=fun b hb hn => hC.get b hn fun h => h.1 hb
    have hn:=hC.next
    exact ⟨h1,by omega,by omega,by omega,h5.keep (k l ((h1 l).2 (.inl rfl)) h2),⟨v6,(k r ((h1 r).2 (.inr (.inl rfl))) h3).trans h6⟩,⟨v7,(k cb ((h1 cb).2 (.inr (.inr rfl))) h4).trans h7⟩,h8⟩
  own:=fun done B σ ⟨h1,h2,h3,h4,_⟩ b hb => by
    rcases (h1 b).1 hb with rfl | rfl | rfl
    · exact ⟨h2,fun h => by have:=hR _ h; omega⟩
    · exact ⟨h3,fun h => by have:=hR _ h; omega⟩
    · exact ⟨h4,fun h => by have:=hR _ h; omega⟩
  inside:=fun done B σ k z t p ln c ⟨h1,h2,h3,h4,h5,h6,⟨v7,h7⟩,h8⟩ hw => by
    refine inside_go (m + 2) _ 101 #[.pointer (some ⟨cb,0,none⟩)] rfl k z t (.slice p ln c) (oneCell_slice _ _ _) σ hw fun σ' hx hw' => ?_
    have hc:=cells_of_get ((hx.get cb h4).trans h7)
    exact ⟨_,σ',enter_go (m + 1) cb (Int.ofNat done.length) (by rw [Int.ofNat_eq_natCast]; omega) p ln c σ' _ hc,Ext.refl _,hw',rfl⟩
  go:=fun done path d rest B σ pv v hall hw ⟨h1,h2,h4,h5,h6,⟨v6,h7⟩,⟨v7,h8⟩,h9⟩ _ hL => by
    have hlen : done.length + 1 ≤ 2000:=by have:=congrArg List.length hall; simp at this; omega
    obtain ⟨k,z,t,ps⟩:=d
    obtain ⟨k',rfl,hGd⟩:=hG path k z t ps (by rw [hall]; simp)
    obtain ⟨p,c,rfl,hq⟩:=hL
    rw [round_go _ _ _ _ _ _ _ _ _ (m + 2) l r _ h6 rfl,c60_0a_go]
    simp -implicitDefEqProofs only [go_sem,↓reduceIte,Nat.reduceLT,Nat.reduceEqDiff,Nat.reduceAdd,Nat.reduceMul,Nat.reduceLeDiff,Nat.reduceSub,fstoreN,r60_3_go,r60_3U,List.zip_cons_cons,List.zip_nil_right,putAll_cons,putAll_nil]
    have x1 : Ext σ ((σ.push (.cells [.int .i64 0,.int .i64 0,.string ⟨#[]⟩,.slice none 0 0] TD) none).put σ.next (.cells [.int .i64 (k' : Int),.int .i64 z,.string t,.slice p ps.length c] TD) none):=((Ext.refl _).push _ _).put _ _ _ (Nat.le_refl _)
    have hw1:=(hw.push (.cells [.int .i64 0,.int .i64 0,.string ⟨#[]⟩,.slice none 0 0] TD) none).put σ.next (.cells [.int .i64 (k' : Int),.int .i64 z,.string t,.slice p ps.length c] TD) none (Nat.lt_succ_self _)
    have b1 : ((σ.push (.cells [.int .i64 0,.int .i64 0,.string ⟨#[]⟩,.slice none 0 0] TD) none).put σ.next (.cells [.int .i64 (k' : Int),.int .i64 z,.string t,.slice p ps.length c] TD) none).cells σ.next = some [.int .i64 (k' : Int),.int .i64 z,.string t,.slice p ps.length c]:=by rw [cells_put,if_pos rfl]; rfl
    have n1 : ((σ.push (.cells [.int .i64 0,.int .i64 0,.string ⟨#[]⟩,.slice none 0 0] TD) none).put σ.next (.cells [.int .i64 (k' : Int),.int .i64 z,.string t,.slice p ps.length c] TD) none).next = σ.next + 1:=rfl
    generalize FState.put _ _ _ _ = σ1 at x1 hw1 b1 n1 ⊢
    have l1:=h6.keep (x1.get l h2)
    rw [beginRound_go _ _ _ _ _ _ _ _ _ l r _ l1,c60_0b_go]
    have hw2:=hw1.put l (.loop .busy none 60 ((List.range 6).map f) g 6 25 [12,13] c60_0a c60_0b r) none (by omega)
    have l2 : LoopAt 60 [12,13] c60_0a c60_0b 6 25 f g l r .busy (σ1.put l (.loop .busy none 60 ((List.range 6).map f) g 6 25 [12,13] c60_0a c60_0b r) none):=LoopAt.put _ _ _ _ _ _ _ _ _ _ _ _
    have b2 : (σ1.put l (.loop .busy none 60 ((List.range 6).map f) g 6 25 [12,13] c60_0a c60_0b r) none).cells σ.next = some [.int .i64 (k' : Int),.int .i64 z,.string t,.slice p ps.length c]:=by rw [cells_put,if_neg (by omega)]; exact b1
    have g2 : (σ1.put l (.loop .busy none 60 ((List.range 6).map f) g 6 25 [12,13] c60_0a c60_0b r) none).heap.get cb = some ⟨.cells [.int .i64 (.ofNat done.length),.map (some mp)] 124,false,none,v7⟩:=by rw [put_get,if_neg (by omega)]; exact (x1.get cb h5).trans h8
    have r2 : (σ1.put l (.loop .busy none 60 ((List.range 6).map f) g 6 25 [12,13] c60_0a c60_0b r) none).heap.get r = some ⟨.defd true,false,none,v6⟩:=by rw [put_get,if_neg (by omega)]; exact (x1.get r h4).trans h7
    have hC2 : Chg B σ (σ1.put l (.loop .busy none 60 ((List.range 6).map f) g 6 25 [12,13] c60_0a c60_0b r) none):=(x1.chg B).put _ _ _ (.inr ((h1 l).2 (.inl rfl)))
    have n2 : (σ1.put l (.loop .busy none 60 ((List.range 6).map f) g 6 25 [12,13] c60_0a c60_0b r) none).next = σ.next + 1:=n1
    generalize FState.put _ l _ _ = σ2 at hw2 l2 b2 g2 r2 hC2 n2 ⊢
    obtain ⟨_,σ3,e3,x3,hw3,rfl⟩:=inspect_go m k' z t p ps.length c hGd σ2 hw2
    have n3:=x3.next
    have g3 : σ3.heap.get cb = some ⟨.cells [.int .i64 (.ofNat done.length),.map (some mp)] 124,false,none,v7⟩:=(x3.get cb (by omega)).trans g2
    have c3:=cells_of_get g3
    have w1:=add1 done.length (by omega)
    simp -implicitDefEqProofs only [go_sem,↓reduceIte,Nat.reduceLT,Nat.reduceEqDiff,Nat.reduceAdd,Nat.reduceMul,Nat.reduceLeDiff,Nat.reduceSub,r60_4_go,r60_4U,r60_5_go,r60_5U,h3,b2,e3,c3,g3,w1,Nat.le_refl]
    have l3:=(l2.keep (x3.get l (by omega)))
    have l4 : ∀ o : FObj,LoopAt 60 [12,13] c60_0a c60_0b 6 25 f g l r .busy (σ3.put cb o none):=fun o => l3.keep (by rw [put_get,if_neg (by omega)])
    rw [endRound_go _ _ _ _ _ _ _ _ _ _ l r _ _ (l4 _)]
    refine ⟨B,_,rfl,(hw3.put _ _ _ (by omega)).put _ _ _ (by rw [put_next]; omega),((hC2.trans (x3.chg B) (fun b _ h => h)).put _ _ _ (.inr ((h1 cb).2 (.inr (.inr rfl))))).put _ _ _ (.inr ((h1 l).2 (.inl rfl))),fun b hb => .inl hb,h1,?_,?_,?_,LoopAt.put _ _ _ _ _ _ _ _ _ _ _ _,⟨v6,?_⟩,⟨σ3.clock,?_⟩,by simp; omega⟩
    · rw [put_next,put_next]; omega
    · rw [put_next,put_next]; omega
    · rw [put_next,put_next]; omega
    · rw [put_get,if_neg (by omega),put_get,if_neg (by omega),x3.get r (by omega)]; exact r2
    · rw [put_get,if_neg (by omega),put_get,if_pos rfl,List.length_append,List.length_singleton]
theorem valid_go (m : Nat) (d : D) (lv : List Value) (h4 : lv.length = 4) (R : Nat → Prop) (σ : FState) (hw : Wf σ) (hL : LaidR R σ (.agg lv.toArray) d) (hR : ∀ b,R b → b < σ.next) (hS : Small (d.pieces [])) (hN : (d.pieces []).length ≤ 2000) (hG : AllGood m (d.pieces [])) :
    Gives ((env (m + 5)).call 60 [.agg lv.toArray] none σ) σ fun w _ => w = .int .i64 (.ofNat (d.pieces []).length):=by
  rw [env_call _ 60 _ _ rfl,enter60 _ _ _ _ (by simp),Sl_start]
  unfold run60
  have ht : lv.take 4 = lv:=List.take_of_length_le (by omega)
  simp -implicitDefEqProofs only [go_sem,↓reduceIte,Nat.reduceLT,Nat.reduceEqDiff,Nat.reduceAdd,Nat.reduceMul,Nat.reduceLeDiff,Nat.reduceSub,fstoreN,r60_0_go,r60_0U,r60_1_go,r60_1U,Option.getD_some,notTuple_map,valCells_map,oneCell_map]
  generalize hff : upd _ 3 _ = f1
  generalize hg0 : upd _ 7 _ = g0
  have q1 : f1 1 = .pointer (some ⟨σ.next,0,none⟩):=by rw [← hff]; simp -implicitDefEqProofs only [upd_go,kept_go,↓reduceIte,Nat.reduceEqDiff,Nat.reduceLT,reduceCtorEq]
  have q3 : f1 3 = .pointer (some ⟨σ.next + 2,0,none⟩):=by rw [← hff]; simp -implicitDefEqProofs only [upd_go,kept_go,↓reduceIte,Nat.reduceEqDiff,Nat.reduceLT,reduceCtorEq]
  clear hff hg0
  have x1 : Ext σ ((((σ.push (.cells lv TD) none).push (.map [] 0) none).push (.cells [.int .i64 0,.map none] 124) none).put (σ.next + 2) (.cells [.int .i64 0,.map (some (σ.next + 1))] 124) none):=((((Ext.refl _).push _ _).push _ _).push _ _).put _ _ _ (by omega)
  have hw1:=(((hw.push (.cells lv TD) none).push (.map [] 0) none).push (.cells [.int .i64 0,.map none] 124) none).put (σ.next + 2) (.cells [.int .i64 0,.map (some (σ.next + 1))] 124) none (Nat.lt_succ_self _)
  have g1 : ((((σ.push (.cells lv TD) none).push (.map [] 0) none).push (.cells [.int .i64 0,.map none] 124) none).put (σ.next + 2) (.cells [.int .i64 0,.map (some (σ.next + 1))] 124) none).heap.get (σ.next + 2) = some ⟨.cells [.int .i64 0,.map (some (σ.next + 1))] 124,false,none,σ.clock + 3⟩:=by rw [put_get,if_pos rfl]; rfl
  have c1 : ((((σ.push (.cells lv TD) none).push (.map [] 0) none).push (.cells [.int .i64 0,.map none] 124) none).put (σ.next + 2) (.cells [.int .i64 0,.map (some (σ.next + 1))] 124) none).cells σ.next = some lv:=by
    rw [cells_put,if_neg (by omega),cells_push,if_neg (by simp only [push_next]; omega),cells_push,if_neg (by simp only [push_next]; omega),cells_push,if_pos rfl]; rfl
  have n1 : ((((σ.push (.cells lv TD) none).push (.map [] 0) none).push (.cells [.int .i64 0,.map none] 124) none).put (σ.next + 2) (.cells [.int .i64 0,.map (some (σ.next + 1))] 124) none).next = σ.next + 3:=rfl
  generalize FState.put _ _ _ _ = σ1 at x1 hw1 g1 c1 n1 ⊢
  obtain ⟨σ2,e2,x2,hw2,n2,cb2,cb1⟩:=walkW_go (m + 3) (.func (.func 101) #[.pointer (some ⟨σ.next + 2,0,none⟩)] #[]) lv σ1 hw1 (notTuple_func _ _ _)
  simp -implicitDefEqProofs only [go_sem,↓reduceIte,Nat.reduceLT,Nat.reduceEqDiff,Nat.reduceAdd,Nat.reduceMul,Nat.reduceLeDiff,Nat.reduceSub,r60_2_go,r60_2U,q1,q3,c1,h4,ht,e2,Nat.le_refl,notTuple_func,valCells_func]
  generalize hgg : upd _ 11 _ = gg
  have hL2 : LaidR R σ2 (.agg lv.toArray) d:=hL.keep fun b cs hb hc => ⟨((x1.trans x2).cells (hw.cells hc)).trans hc,hb⟩
  have hcm2 : σ2.heap.get (σ.next + 2) = some ⟨.cells [.int .i64 0,.map (some (σ.next + 1))] 124,false,none,σ.clock + 3⟩:=(x2.get _ (by omega)).trans g1
  obtain ⟨σ3,B3,e3,ch3,n3,hB3,hw3,i3⟩:=range_walk (m + 3) 60 [12,13] c60_0a c60_0b 6 25 f1 gg [] none 11 (σ1.next + 1) σ1.next σ2 (.func (.func 101) #[.pointer (some ⟨σ.next + 2,0,none⟩)] #[]) R d lv (ValidI (σ2.next + 1) σ2.next (σ.next + 2) (σ.next + 1) f1 gg) (fun b => b = σ2.next + 1 ∨ b = σ2.next ∨ b = σ.next + 2)
    (valid_body m (σ2.next + 1) σ2.next (σ.next + 2) (σ.next + 1) R f1 gg _ ⟨by omega,by omega⟩ q3 (fun b hb => by have:=hR b hb; omega) hG hN) hS (by omega)
    (fun done B σ' ⟨_,_,_,_,h5,h6,_⟩ => ⟨h5,h6⟩)
    ⟨fun b => Iff.rfl,by rw [push_next,push_next]; omega,by rw [push_next,push_next]; omega,by rw [push_next,push_next]; omega,loop_made ..,⟨_,by rw [push_get,if_neg (by rw [push_next]; omega),push_get,if_pos rfl]⟩,⟨_,by rw [push_get,if_neg (by rw [push_next]; omega),push_get,if_neg (by omega)]; exact hcm2⟩,by simp⟩
    (by rw [Sl_get,← hgg]; simp -implicitDefEqProofs only [upd_go,kept_go,↓reduceIte,Nat.reduceEqDiff,Nat.reduceLT,reduceCtorEq]) hw2 cb1 (fun h => by rcases h with h | h | h <;> omega) hL2 (fun b hb => by have:=hR b hb; omega) cb2 (fun h => by rcases h with h | h | h <;> omega)
  rw [e3]
  obtain ⟨h1,h2,h4',h5,h6,⟨v6,h7⟩,⟨v7,h8⟩,h9⟩:=i3
  have hcm:=cells_of_get h8
  have hputc : ∀ (o : FObj),(σ3.put (σ2.next + 1) o none).cells (σ.next + 2) = some [.int .i64 (.ofNat (d.pieces []).length),.map (some (σ.next + 1))]:=fun o => by rw [cells_put,if_neg (by omega)]; exact hcm
  have hcol : ∀ (o : FObj),(σ3.put (σ2.next + 1) o none).heap.get σ2.next = some ⟨.defd true,false,none,v6⟩:=fun o => by rw [put_get,if_neg (by omega)]; exact h7
  have hlim:=fun τ => limit_go (m + 3) (.ofNat (d.pieces []).length) (by rw [Int.ofNat_eq_natCast]; omega) τ
  simp -implicitDefEqProofs only [go_sem,↓reduceIte,Nat.reduceLT,Nat.reduceEqDiff,Nat.reduceAdd,Nat.reduceMul,Nat.reduceLeDiff,Nat.reduceSub,r60_6_go,r60_6U,r60_7_go,r60_7U,q3,hputc,hlim]
  rw [fleave_collected _ _ _ _ _ _ _ _ _ _ (hcol _)]
  simp -implicitDefEqProofs only [go_sem,↓reduceIte,Nat.reduceLT,Nat.reduceEqDiff,Nat.reduceAdd,Nat.reduceMul,Nat.reduceLeDiff,Nat.reduceSub]
  have x3 : Ext σ σ3:=⟨by omega,by have:=x1.clock; have:=x2.clock; have:=ch3.clock; omega,fun b hb => (ch3.get b (by omega) (fun h => by rcases h with h | h | h <;> omega)).trans ((x1.trans x2).get b hb)⟩
  exact ⟨_,_,rfl,(x3.put _ _ _ (by omega)).put _ _ _ (by omega),(hw3.put _ _ _ (by omega)).put _ _ _ (by rw [put_next]; omega),rfl⟩
end Go.Proofs.YtodkeaoikjjneaaGreatDoor
/- Data of few pieces: counts, depths; data that DatumOf makes. -/
namespace Go.Eng
mutual
def D.count : D → Nat
  | .mk _ _ _ ds => D.counts ds + 1
def D.counts : List D → Nat
  | [] => 0
  | d :: ds => D.count d + D.counts ds
end
end Go.Eng
namespace Go.Proofs.YtodkeaoikjjneaaGreatDoor
open Go Go.Eng
mutual
theorem pieces_length : ∀ (d : D) (path : List Nat),(d.pieces path).length = d.count
  | .mk k z t ds,path => by rw [D.pieces,List.length_cons,piecesL_length ds path 0,D.count]
theorem piecesL_length : ∀ (ds : List D) (path : List Nat) (i : Nat),(D.piecesL path i ds).length = D.counts ds
  | [],path,i => rfl
  | d :: ds,path,i => by rw [D.piecesL,List.length_append,pieces_length d (path ++ [i]),piecesL_length ds path (i + 1),D.counts]
end
theorem foldl_max (f : List Nat × D → Nat) (l : List (List Nat × D)) : ∀ m,l.foldl (fun m x => max m (f x)) m = max m (l.foldl (fun m x => max m (f x)) 0):=by
  induction l with
  | nil => intro m; simp
  | cons x l ih => intro m; simp only [List.foldl_cons]; rw [ih (max m (f x)),ih (max 0 (f x))]; omega
theorem longest_append (a b : List (List Nat × D)) : longest (a ++ b) = max (longest a) (longest b):=by
  unfold longest
  rw [List.foldl_append,foldl_max (fun x => x.1.length + 1)]
theorem longest_cons (x : List Nat × D) (l : List (List Nat × D)) : longest (x :: l) = max (x.1.length + 1) (longest l):=by
  have:=longest_append [x] l
  rw [List.singleton_append] at this
  rw [this]
  simp [longest]
mutual
theorem longest_pieces : ∀ (d : D) (path : List Nat),longest (d.pieces path) = path.length + d.deep
  | .mk k z t ds,path => by
    rw [D.pieces,longest_cons,D.deep]
    have:=longest_piecesL ds path 0
    simp only
    omega
theorem longest_piecesL : ∀ (ds : List D) (path : List Nat) (i : Nat),max (path.length + 1) (longest (D.piecesL path i ds)) = path.length + 1 + D.deeps ds
  | [],path,i => by simp [D.piecesL,longest,D.deeps]
  | d :: ds,path,i => by
    rw [D.piecesL,longest_append,D.deeps]
    have h1:=longest_pieces d (path ++ [i])
    have h2:=longest_piecesL ds path (i + 1)
    rw [List.length_append,List.length_singleton] at h1
    have h3 : 1 ≤ d.deep:=by cases d; rw [D.deep]; omega
    omega
end
def GoodD (m : Nat) (d : D) : Prop:=∀ k z t ds,d = D.mk k z t ds → ∃ k' : Nat,k = (k' : Int) ∧ Good m k' z t ds.length
def most : Nat → Nat
  | 0 => 1
  | L + 1 => 3 * most L + 1
theorem most_pos (L : Nat) : 1 ≤ most L:=by cases L <;> simp [most]
def Fine (m L : Nat) (d : D) : Prop:=∀ path,(d.pieces path).length ≤ most L ∧ ∀ x ∈ d.pieces path,x.1.length ≤ path.length + L ∧ x.2.parts.length ≤ 3 ∧ GoodD m x.2
theorem fineL {m L : Nat} (path : List Nat) : ∀ (ds : List D) (i : Nat),(∀ d ∈ ds,Fine m L d) → (D.piecesL path i ds).length ≤ ds.length * most L ∧ ∀ x ∈ D.piecesL path i ds,x.1.length ≤ path.length + (L + 1) ∧ x.2.parts.length ≤ 3 ∧ GoodD m x.2
  | [],i,_ => ⟨by simp [D.piecesL],fun x hx => by simp [D.piecesL] at hx⟩
  | d :: ds,i,h => by
    obtain ⟨h1,h2⟩:=h d List.mem_cons_self (path ++ [i])
    obtain ⟨h3,h4⟩:=fineL path ds (i + 1) fun d' hd => h d' (List.mem_cons_of_mem _ hd)
    refine ⟨?_,fun x hx => ?_⟩
    · rw [D.piecesL,List.length_append,List.length_cons,Nat.add_mul]
      omega
    · rw [D.piecesL,List.mem_append] at hx
      rcases hx with hx | hx
      · have:=h2 x hx
        rw [List.length_append,List.length_singleton] at this
        exact ⟨by omega,this.2⟩
      · exact h4 x hx
theorem fine_mk {m L : Nat} {k z : Int} {t : ByteArray} {ds : List D} (hl : ds.length ≤ 3) (hg : GoodD m (.mk k z t ds)) (h : ∀ d ∈ ds,Fine m L d) : Fine m (L + 1) (.mk k z t ds):=fun path => by
  obtain ⟨h1,h2⟩:=fineL path ds 0 h
  rw [D.pieces]
  refine ⟨?_,fun x hx => ?_⟩
  · rw [List.length_cons,most]
    have:=Nat.mul_le_mul_right (most L) hl
    omega
  · rcases List.mem_cons.1 hx with rfl | hx
    · exact ⟨by simp,hl,hg⟩
    · exact h2 x hx
theorem fine_leaf {m L : Nat} {k z : Int} {t : ByteArray} (hg : GoodD m (.mk k z t [])) : Fine m L (.mk k z t []):=fun path => by
  rw [D.pieces,D.piecesL]
  refine ⟨by have:=most_pos L; simp; omega,fun x hx => ?_⟩
  rcases List.mem_cons.1 hx with rfl | hx
  · exact ⟨by simp,by simp [D.parts],hg⟩
  · simp at hx
theorem made_fine (n : Nat) {L : Nat} {d : D} (h : Made L d) : Fine (n + 20) L d:=by
  induction h with
  | leaf L d h =>
    obtain ⟨k,z,t,l⟩:=d
    obtain ⟨k',rfl,hg,rfl⟩:=leaf_good n h
    exact fine_leaf fun k z t ds e => by cases e; exact ⟨k',rfl,hg⟩
  | pair L a b ha hb iha ihb =>
    refine fine_mk (by simp) (fun k z t ds e => ?_) fun d hd => ?_
    · cases e
      exact ⟨5,rfl,.pair⟩
    · simp only [List.mem_cons,List.not_mem_nil,or_false] at hd
      rcases hd with rfl | rfl
      · exact iha
      · exact ihb
  | vec L l hl h ih =>
    refine fine_mk hl (fun k z t ds e => ?_) fun d hd => ih d hd
    cases e
    exact ⟨6,rfl,.vec _⟩
theorem Fine.small {m L : Nat} {d : D} (h : Fine m L d) (hL : L ≤ 6) : Small (d.pieces []):=fun x hx => by
  have:=(h []).2 x hx
  rw [List.length_nil] at this
  exact ⟨by omega,by omega⟩
theorem Fine.good {m L : Nat} {d : D} (h : Fine m L d) : AllGood m (d.pieces []):=fun path k z t ds hx => ((h []).2 _ hx).2.2 k z t ds rfl
theorem most_le {L : Nat} (h : L ≤ 6) : most L ≤ 1093:=by
  obtain rfl | rfl | rfl | rfl | rfl | rfl | rfl : L = 0 ∨ L = 1 ∨ L = 2 ∨ L = 3 ∨ L = 4 ∨ L = 5 ∨ L = 6:=by omega
  all_goals decide
theorem Fine.few {m L : Nat} {d : D} (h : Fine m L d) (hL : L ≤ 6) : (d.pieces []).length ≤ 1093:=Nat.le_trans (h []).1 (most_le hL)
theorem Fine.part {m L : Nat} {k z : Int} {t : ByteArray} {ds : List D} {d : D} (h : Made L (.mk k z t ds)) (hd : d ∈ ds) : Made (L - 1) d:=by
  cases h with
  | leaf L d h => cases h <;> simp at hd
  | pair L a b ha hb =>
    simp only [List.mem_cons,List.not_mem_nil,or_false] at hd
    rcases hd with rfl | rfl
    · exact ha
    · exact hb
  | vec L l hl h => exact h d hd
end Go.Proofs.YtodkeaoikjjneaaGreatDoor
/- caracolekit.EqInts and caracoleref01.Part. -/
namespace Go.Proofs.YtodkeaoikjjneaaGreatDoor
open Go Go.Eng
attribute [local congr] andThen_congr fops_congr fdraw_congr afterOp_congr drawF_congr
attribute [-go_sem] List.range_succ
theorem keepEqi : keepOf nls 29 = []:=by kernel_rfl
theorem pathV_slice {Q : Nat → Prop} {σ : FState} {v : Value} {p : List Nat} (h : PathV Q σ v p) : ∃ a cx,v = .slice a p.length cx ∧ (p ≠ [] → ∃ b rest,a = some ⟨b,0,none⟩ ∧ Q b ∧ σ.cells b = some (intsOf p ++ rest)):=by
  rcases h with ⟨rfl,rfl⟩ | ⟨b,cx,rest,rfl,hQ,hc⟩
  · exact ⟨none,0,rfl,fun h => absurd rfl h⟩
  · exact ⟨_,cx,rfl,fun _ => ⟨b,rest,rfl,hQ,hc⟩⟩
theorem intsOf_get {p : List Nat} {i : Nat} (rest : List Value) (h : i < p.length) : (intsOf p ++ rest)[i]? = some (.int .i64 (.ofNat p[i])):=by
  rw [List.getElem?_append_left (by rw [intsOf_length]; exact h),intsOf,List.getElem?_map,List.getElem?_eq_getElem h]; rfl
structure HeadEi (v w : Value) (i : Nat) (f : Nat → Value) : Prop where
  f0 : f 0 = v
  f1 : f 1 = w
  f5 : f 5 = .int .i64 (.ofNat i)
theorem eqInts_loop (E : Env) {p p' : List Nat} (hlen : p.length = p'.length) {a a' : Option Addr} {cx cx' : Nat} {σ : FState} (hw : Wf σ) (hs : p.length < 100000)
    (h1 : p ≠ [] → ∃ b rest,a = some ⟨b,0,none⟩ ∧ σ.cells b = some (intsOf p ++ rest)) (h2 : p' ≠ [] → ∃ b rest,a' = some ⟨b,0,none⟩ ∧ σ.cells b = some (intsOf p' ++ rest)) :
    ∀ (j fuel i : Nat) (f g : Nat → Value),i + j = p.length → j < fuel → HeadEi (.slice a p.length cx) (.slice a' p'.length cx') i f →
    ∃ e f' g',floop [] (l29_0 E none 29) fuel (Sl 6 26 f g []) none σ = .done e (Sl 6 26 f' g' []) none σ ∧ (if p.drop i = p'.drop i then e = .exit 0 else e = .ret ∧ f' 4 = .bool false):=by
  intro j
  induction j with
  | zero =>
    intro fuel i f g hij hf h
    obtain ⟨fuel,rfl⟩ : ∃ q,fuel = q + 1:=⟨fuel - 1,by omega⟩
    obtain rfl : i = p.length:=by omega
    have d1 : decide (Int.ofNat p.length < Int.ofNat p.length) = false:=by simp
    rw [floop_step,Sl_forget]
    unfold l29_0
    simp -implicitDefEqProofs only [go_sem,↓reduceIte,Nat.reduceLT,Nat.reduceEqDiff,Nat.reduceAdd,Nat.reduceMul,Nat.reduceLeDiff,Nat.reduceSub,r29_4_go,r29_4U,h.f0,h.f5,d1]
    refine ⟨_,_,_,rfl,?_⟩
    rw [List.drop_length,hlen,List.drop_length,if_pos rfl]
  | succ j ih =>
    intro fuel i f g hij hf h
    obtain ⟨fuel,rfl⟩ : ∃ q,fuel = q + 1:=⟨fuel - 1,by omega⟩
    have hi : i < p.length:=by omega
    have hi' : i < p'.length:=by omega
    have d1 : decide (Int.ofNat i < Int.ofNat p.length) = true:=by simp; omega
    obtain ⟨b,rest,rfl,hc⟩:=h1 (fun h => by rw [h] at hi; simp at hi)
    obtain ⟨b',rest',rfl,hc'⟩:=h2 (fun h => by rw [h] at hi'; simp at hi')
    have hv:=view_wf hw (Nat.le_refl _)
    have g1:=intsOf_get rest hi
    have g2:=intsOf_get rest' hi'
    have w3:=add1 i (by omega)
    have hdr : p.drop i = p[i] :: p.drop (i + 1):=List.drop_eq_getElem_cons hi
    have hdr' : p'.drop i = p'[i] :: p'.drop (i + 1):=List.drop_eq_getElem_cons hi'
    rw [floop_step,Sl_forget]
    unfold l29_0
    cases e : (Int.ofNat p[i] == Int.ofNat p'[i]) with
    | false =>
      simp -implicitDefEqProofs only [go_sem,↓reduceIte,Nat.reduceLT,Nat.reduceEqDiff,Nat.reduceAdd,Nat.reduceMul,Nat.reduceLeDiff,Nat.reduceSub,r29_4_go,r29_4U,r29_6_go,r29_6U,r29_7_go,r29_7U,h.f0,h.f1,h.f5,d1,hi,hi',hv,hc,hc',g1,g2,e]
      refine ⟨_,_,_,rfl,?_⟩
      rw [hdr,hdr',if_neg (fun h => by
        have:=(List.cons.inj h).1
        rw [this] at e
        simp at e)]
      exact ⟨rfl,by simp -implicitDefEqProofs only [upd_go,kept_go,↓reduceIte,Nat.reduceEqDiff,Nat.reduceLT,reduceCtorEq]⟩
    | true =>
      simp -implicitDefEqProofs only [go_sem,↓reduceIte,Nat.reduceLT,Nat.reduceEqDiff,Nat.reduceAdd,Nat.reduceMul,Nat.reduceLeDiff,Nat.reduceSub,r29_4_go,r29_4U,r29_6_go,r29_6U,r29_5_go,r29_5U,h.f0,h.f1,h.f5,d1,hi,hi',hv,hc,hc',g1,g2,e,w3]
      obtain ⟨e',f',g',e1,h3⟩:=ih fuel (i + 1) (upd f 5 (.int .i64 (.ofNat (i + 1)))) _ (by omega) (by omega) {
        f0:=by simp -implicitDefEqProofs only [upd_go,kept_go,↓reduceIte,Nat.reduceEqDiff,Nat.reduceLT,reduceCtorEq,h.f0]
        f1:=by simp -implicitDefEqProofs only [upd_go,kept_go,↓reduceIte,Nat.reduceEqDiff,Nat.reduceLT,reduceCtorEq,h.f1]
        f5:=by simp -implicitDefEqProofs only [upd_go,kept_go,↓reduceIte,Nat.reduceEqDiff,Nat.reduceLT,reduceCtorEq] }
      refine ⟨e',f',g',e1,?_⟩
      have hpe : p[i] = p'[i]:=Int.ofNat.inj (eq_of_beq e)
      rw [hdr,hdr',hpe]
      by_cases hh : p.drop (i + 1) = p'.drop (i + 1)
      · rw [if_pos hh] at h3
        rw [hh,if_pos rfl]; exact h3
      · rw [if_neg hh] at h3
        rw [if_neg (fun h => hh (List.cons.inj h).2)]; exact h3
theorem eqInts_go (n : Nat) {Q Q' : Nat → Prop} {v w : Value} {p p' : List Nat} {σ : FState} (hw : Wf σ) (hs : p.length < 100000) (h1 : PathV Q σ v p) (h2 : PathV Q' σ w p') :
    (env (n + 1)).call 29 [v,w] none σ = .ret (.bool (decide (p = p'))) none σ:=by
  obtain ⟨a,cx,rfl,k1⟩:=pathV_slice h1
  obtain ⟨a',cx',rfl,k2⟩:=pathV_slice h2
  rw [env_call _ 29 _ _ rfl,enter29 _ _ _ _ (by simp),Sl_start]
  unfold run29
  cases e : (Int.ofNat p.length == Int.ofNat p'.length) with
  | false =>
    simp -implicitDefEqProofs only [go_sem,↓reduceIte,Nat.reduceLT,Nat.reduceEqDiff,Nat.reduceAdd,Nat.reduceMul,Nat.reduceLeDiff,Nat.reduceSub,r29_0_go,r29_0U,r29_1_go,r29_1U,r29_2_go,r29_2U,Option.getD_some,e]
    rw [decide_eq_false (fun h => by rw [h] at e; simp at e)]
  | true =>
    have hl : p.length = p'.length:=Int.ofNat.inj (eq_of_beq e)
    simp -implicitDefEqProofs only [go_sem,↓reduceIte,Nat.reduceLT,Nat.reduceEqDiff,Nat.reduceAdd,Nat.reduceMul,Nat.reduceLeDiff,Nat.reduceSub,r29_0_go,r29_0U,r29_1_go,r29_1U,r29_3_go,r29_3U,Option.getD_some,e,keepEqi]
    generalize hff : upd _ 5 _ = f1
    generalize hgg : upd _ 10 _ = g1
    generalize hbf : bigFuel = fuel
    obtain ⟨e',f',g',e1,h3⟩:=eqInts_loop (env n) hl hw hs (fun h => by obtain ⟨b,r,x,_,y⟩:=k1 h; exact ⟨b,r,x,y⟩) (fun h => by obtain ⟨b,r,x,_,y⟩:=k2 h; exact ⟨b,r,x,y⟩) (cx:=cx) (cx':=cx') p.length fuel 0 f1 g1 (by omega) (by rw [← hbf]; show p.length < 1000000000000; omega) {
      f0:=by rw [← hff]; simp -implicitDefEqProofs only [upd_go,kept_go,↓reduceIte,Nat.reduceEqDiff,Nat.reduceLT,reduceCtorEq,List.getElem?_cons_zero,List.getElem?_cons_succ,Option.getD_some]
      f1:=by rw [← hff]; simp -implicitDefEqProofs only [upd_go,kept_go,↓reduceIte,Nat.reduceEqDiff,Nat.reduceLT,reduceCtorEq,List.getElem?_cons_zero,List.getElem?_cons_succ,Option.getD_some]
      f5:=by rw [← hff]; simp -implicitDefEqProofs only [upd_go,kept_go,↓reduceIte,Nat.reduceEqDiff,Nat.reduceLT,reduceCtorEq] <;> rfl }
    rw [e1]
    rw [List.drop_zero,List.drop_zero] at h3
    by_cases hp : p = p'
    · rw [if_pos hp] at h3
      subst h3
      simp -implicitDefEqProofs only [go_sem,↓reduceIte,Nat.reduceLT,Nat.reduceEqDiff,Nat.reduceAdd,Nat.reduceMul,Nat.reduceLeDiff,Nat.reduceSub,r29_8_go,r29_8U]
      rw [decide_eq_true hp]
    · rw [if_neg hp] at h3
      obtain ⟨rfl,h4⟩:=h3
      simp -implicitDefEqProofs only [go_sem,↓reduceIte,Nat.reduceLT,Nat.reduceEqDiff,Nat.reduceAdd,Nat.reduceMul,Nat.reduceLeDiff,Nat.reduceSub,h4]
      rw [decide_eq_false hp]
theorem within_go (n : Nat) (x y z : Int) (σ : FState) : (env (n + 1)).call 75 [.int .i64 x,.int .i64 y,.int .i64 z] none σ = .ret (.bool (decide (y ≤ x) && decide (x ≤ z))) none σ:=by
  rw [env_call _ 75 _ _ rfl,enter75 _ _ _ _ (by simp),Sl_start]
  unfold run75
  cases e : decide (y ≤ x) with
  | false => simp -implicitDefEqProofs only [go_sem,↓reduceIte,Nat.reduceLT,Nat.reduceEqDiff,Nat.reduceAdd,Nat.reduceMul,Nat.reduceLeDiff,Nat.reduceSub,r75_0_go,r75_0U,r75_1_go,r75_1U,Option.getD_some,e,Bool.false_and]
  | true => simp -implicitDefEqProofs only [go_sem,↓reduceIte,Nat.reduceLT,Nat.reduceEqDiff,Nat.reduceAdd,Nat.reduceMul,Nat.reduceLeDiff,Nat.reduceSub,r75_0_go,r75_0U,r75_1_go,r75_1U,Option.getD_some,e,Bool.true_and]
theorem keepPart : keepOf nls 27 = [32]:=by kernel_rfl
def atP : List Nat → D → Option D
  | [],d => some d
  | i :: p,d => match d.parts[i]? with
    | some d' => atP p d'
    | none => none
theorem sub1w (n : Nat) (h : 1 ≤ n) (h2 : n < 1000000000) : wrapI (Int.ofNat n - 1) = Int.ofNat (n - 1):=by
  rw [wrapI_of (by simp only [Int.ofNat_eq_natCast]; omega)]
  simp only [Int.ofNat_eq_natCast]
  omega
theorem length_counts : ∀ ds : List D,ds.length ≤ D.counts ds
  | [] => Nat.zero_le _
  | .mk _ _ _ l :: ds => by rw [List.length_cons,D.counts,D.count]; have:=length_counts ds; omega
theorem count_mem : ∀ {ds : List D} {d : D},d ∈ ds → d.count ≤ D.counts ds
  | x :: ds,d,h => by
    rw [D.counts]
    rcases List.mem_cons.1 h with rfl | h
    · omega
    · have:=count_mem h; omega
structure HeadPt (b2 b4 : Nat) (pv : Value) (R : Nat → Prop) (k z : Int) (t : ByteArray) (q : Option Addr) (c : Nat) (ds : List D) (i : Nat) (f : Nat → Value) (σ : FState) : Prop where
  f1 : f 1 = pv
  f2 : f 2 = .pointer (some ⟨b2,0,none⟩)
  f4 : f 4 = .pointer (some ⟨b4,0,none⟩)
  f6 : f 6 = .int .i64 (.ofNat i)
  cd : ∃ fz ver,σ.heap.get b2 = some ⟨.cells [.int .i64 k,.int .i64 z,.string t,.slice q ds.length c] TD,false,fz,ver⟩
  lay : LaidRE R σ q 0 ds
  wf : Wf σ
theorem part_loop (m : Nat) {b2 b4 : Nat} {a : Option Addr} {cx : Nat} {path : List Nat} {R : Nat → Prop} (hs : path.length < 100000) (hR : ∀ b,R b → b ≠ b2) (x : D) :
    ∀ (j fuel i : Nat) (f g : Nat → Value) (σ : FState) (k z : Int) (t : ByteArray) (q : Option Addr) (c : Nat) (ds : List D),i + j = path.length → j < fuel → atP (path.drop i) (.mk k z t ds) = some x → (D.mk k z t ds).count < 100000 →
      (path ≠ [] → ∃ b rest,a = some ⟨b,0,none⟩ ∧ b ≠ b2 ∧ σ.cells b = some (intsOf path ++ rest)) → HeadPt b2 b4 (.slice a path.length cx) R k z t q c ds i f σ →
    ∃ f' g' σ' k z t q c ds,floop [32] (l27_0 (env (m + 1)) none 27) fuel (Sl 7 33 f g []) none σ = .done (.exit 0) (Sl 7 33 f' g' []) none σ' ∧ HeadPt b2 b4 (.slice a path.length cx) R k z t q c ds path.length f' σ' ∧ x = .mk k z t ds ∧ Chg (· = b2) σ σ':=by
  intro j
  induction j with
  | zero =>
    intro fuel i f g σ k z t q c ds hij hf hx _ hp h
    obtain ⟨fuel,rfl⟩ : ∃ q,fuel = q + 1:=⟨fuel - 1,by omega⟩
    obtain rfl : i = path.length:=by omega
    rw [List.drop_length,atP] at hx
    have d1 : decide (Int.ofNat path.length < Int.ofNat path.length) = false:=by simp
    rw [floop_step,Sl_forget]
    unfold l27_0
    simp -implicitDefEqProofs only [go_sem,↓reduceIte,Nat.reduceLT,Nat.reduceEqDiff,Nat.reduceAdd,Nat.reduceMul,Nat.reduceLeDiff,Nat.reduceSub,r27_2_go,r27_2U,h.f1,h.f6,d1]
    exact ⟨_,_,_,k,z,t,q,c,ds,rfl,h,(Option.some.inj hx).symm,Chg.refl _ _⟩
  | succ j ih =>
    intro fuel i f g σ k z t q c ds hij hf hx hN hp h
    obtain ⟨fuel,rfl⟩ : ∃ q,fuel = q + 1:=⟨fuel - 1,by omega⟩
    have hi : i < path.length:=by omega
    have d1 : decide (Int.ofNat i < Int.ofNat path.length) = true:=by simp; omega
    obtain ⟨b,rest,rfl,hb,hc⟩:=hp (fun h => by rw [h] at hi; simp at hi)
    have hv:=view_wf h.wf (Nat.le_refl _)
    have g1:=intsOf_get rest hi
    have w3:=add1 i (by omega)
    have hdr : path.drop i = path[i] :: path.drop (i + 1):=List.drop_eq_getElem_cons hi
    rw [hdr,atP] at hx
    simp only [D.parts] at hx
    cases hd : ds[path[i]]? with
    | none => rw [hd] at hx; cases hx
    | some d =>
      rw [hd] at hx
      simp only at hx
      have hpi:=(List.getElem?_eq_some_iff.1 hd).1
      obtain ⟨b',off,cs,rfl,hRb,hcs,hle,hL⟩:=LaidRE.get h.lay hd
      rw [Nat.zero_add] at hle hL
      obtain ⟨fz,ver,hg2⟩:=h.cd
      have c2:=cells_of_get hg2
      have l4 : ((cs.drop (off + path[i] * 4)).take 4).length = 4:=by rw [List.length_take,List.length_drop]; omega
      have hL':=hL
      obtain ⟨k',z',t',ds'⟩:=d
      obtain ⟨q',c',hv4,hE'⟩:=hL
      have hv4' : (cs.drop (off + path[i] * 4)).take 4 = [.int .i64 k',.int .i64 z',.string t',.slice q' ds'.length c']:=by
        have:=Value.agg.inj hv4
        simpa using congrArg Array.toList this
      have hfew : ds.length < 100000:=by have:=length_counts ds; rw [D.count] at hN; omega
      have e0 : decide ((0 : Int) ≤ Int.ofNat path[i]) = true:=by simp
      have e1 : decide (Int.ofNat path[i] ≤ Int.ofNat (ds.length - 1)) = true:=by simp; omega
      have w4:=sub1w ds.length (by omega) (by omega)
      have hb2:=h.wf.cells c2
      rw [floop_step,Sl_forget]
      unfold l27_0
      simp -implicitDefEqProofs only [go_sem,↓reduceIte,Nat.reduceLT,Nat.reduceEqDiff,Nat.reduceAdd,Nat.reduceMul,Nat.reduceLeDiff,Nat.reduceSub,fstoreN,r27_2_go,r27_2U,r27_4_go,r27_4U,r27_6_go,r27_6U,r27_3_go,r27_3U,h.f1,h.f2,h.f6,d1,hi,hv,hc,c2,g1,hg2,within_go,w3,w4,e0,e1,hpi,hcs,hle,hv4']
      have hC : Chg (· = b2) σ (σ.put b2 (.cells [.int .i64 k',.int .i64 z',.string t',.slice q' ds'.length c'] TD) fz):=(Chg.refl (· = b2) σ).put _ _ _ (.inr rfl)
      obtain ⟨f',g',σ',k1,z1,t1,q1,c1,ds1,e2,h2,h3,h4⟩:=ih fuel (i + 1) (upd f 6 (.int .i64 (.ofNat (i + 1)))) _ (σ.put b2 (.cells [.int .i64 k',.int .i64 z',.string t',.slice q' ds'.length c'] TD) fz) k' z' t' q' c' ds' (by omega) (by omega) hx (by have:=count_mem (List.mem_of_getElem? hd); rw [D.count] at hN; omega) (fun hne => ⟨b,rest,rfl,hb,by rw [cells_put,if_neg hb]; exact hc⟩) {
        f1:=by simp -implicitDefEqProofs only [upd_go,kept_go,↓reduceIte,Nat.reduceEqDiff,Nat.reduceLT,reduceCtorEq,h.f1]
        f2:=by simp -implicitDefEqProofs only [upd_go,kept_go,↓reduceIte,Nat.reduceEqDiff,Nat.reduceLT,reduceCtorEq,h.f2]
        f4:=by simp -implicitDefEqProofs only [upd_go,kept_go,↓reduceIte,Nat.reduceEqDiff,Nat.reduceLT,reduceCtorEq,h.f4]
        f6:=by simp -implicitDefEqProofs only [upd_go,kept_go,↓reduceIte,Nat.reduceEqDiff,Nat.reduceLT,reduceCtorEq]
        cd:=⟨fz,_,by rw [put_get,if_pos rfl]⟩
        lay:=hE'.keep fun b cs hb hc => ⟨by rw [cells_put,if_neg (hR b hb)]; exact hc,hb⟩
        wf:=h.wf.put _ _ _ hb2 }
      exact ⟨f',g',σ',k1,z1,t1,q1,c1,ds1,e2,h2,h3,hC.trans h4 fun _ _ h => h⟩
theorem part_go (m : Nat) {d x : D} {path : List Nat} {lv : List Value} {pv : Value} {R Q : Nat → Prop} {σ : FState} (hw : Wf σ) (hL : LaidR R σ (.agg lv.toArray) d) (hP : PathV Q σ pv path) (hs : path.length < 100000) (hN : d.count < 100000) (hx : atP path d = some x) :
    Gives ((env (m + 2)).call 27 [.agg lv.toArray,pv] none σ) σ fun w σ' => ∃ u,w = .tuple #[u,.bool true] ∧ LaidR (fun b => R b ∧ b < σ.next) σ' u x:=by
  obtain ⟨a,cx,rfl,k1⟩:=pathV_slice hP
  obtain ⟨k,z,t,ds⟩:=d
  obtain ⟨q,c,hv,hE⟩:=hL
  have hlv : lv = [.int .i64 k,.int .i64 z,.string t,.slice q ds.length c]:=by
    have:=Value.agg.inj hv
    simpa using congrArg Array.toList this
  subst hlv
  rw [env_call _ 27 _ _ rfl,enter27 _ _ _ _ (by simp),Sl_start]
  unfold run27
  have x1 : Ext σ ((σ.push (.cells [.int .i64 k,.int .i64 z,.string t,.slice q ds.length c] TD) none).push (.cells [.int .i64 0,.int .i64 0,.string ⟨#[]⟩,.slice none 0 0] TD) none):=((Ext.refl _).push _ _).push _ _
  have hw1:=(hw.push (.cells [.int .i64 k,.int .i64 z,.string t,.slice q ds.length c] TD) none).push (.cells [.int .i64 0,.int .i64 0,.string ⟨#[]⟩,.slice none 0 0] TD) none
  have c1 : ((σ.push (.cells [.int .i64 k,.int .i64 z,.string t,.slice q ds.length c] TD) none).push (.cells [.int .i64 0,.int .i64 0,.string ⟨#[]⟩,.slice none 0 0] TD) none).heap.get σ.next = some ⟨.cells [.int .i64 k,.int .i64 z,.string t,.slice q ds.length c] TD,false,none,σ.clock⟩:=by rw [push_get,if_neg (by rw [push_next]; omega),push_get,if_pos rfl]
  have g4 : ((σ.push (.cells [.int .i64 k,.int .i64 z,.string t,.slice q ds.length c] TD) none).push (.cells [.int .i64 0,.int .i64 0,.string ⟨#[]⟩,.slice none 0 0] TD) none).heap.get (σ.next + 1) = some ⟨.cells [.int .i64 0,.int .i64 0,.string ⟨#[]⟩,.slice none 0 0] TD,false,none,σ.clock + 1⟩:=by rw [push_get,if_pos (by rw [push_next])]; rfl
  simp -implicitDefEqProofs only [go_sem,↓reduceIte,Nat.reduceLT,Nat.reduceEqDiff,Nat.reduceAdd,Nat.reduceMul,Nat.reduceLeDiff,Nat.reduceSub,r27_0_go,r27_0U,r27_1_go,r27_1U,Option.getD_some,keepPart]
  generalize hff : upd _ 6 _ = f1
  generalize hbf : bigFuel = fuel
  generalize FState.push (FState.push σ _ _) _ _ = σ1 at x1 hw1 c1 g4 ⊢
  obtain ⟨f2,g2,σ2,k2,z2,t2,q2,c2,ds2,e2,h2,rfl,h4⟩:=part_loop m (b2:=σ.next) (b4:=σ.next + 1) (R:=fun b => R b ∧ b < σ.next) (path:=path) (cx:=cx) (a:=a) hs (fun b hb => by omega) x path.length fuel 0 f1 (fun _ => undef) σ1 k z t q c ds (by omega) (by rw [← hbf]; show path.length < 1000000000000; omega) hx hN (fun hne => by
      obtain ⟨b,rest,h1,_,h3⟩:=k1 hne
      have:=hw.cells h3
      exact ⟨b,rest,h1,by omega,(x1.cells this).trans h3⟩) {
    f1:=by rw [← hff]; simp -implicitDefEqProofs only [upd_go,kept_go,↓reduceIte,Nat.reduceEqDiff,Nat.reduceLT,reduceCtorEq,List.getElem?_cons_zero,List.getElem?_cons_succ,Option.getD_some]
    f2:=by rw [← hff]; simp -implicitDefEqProofs only [upd_go,kept_go,↓reduceIte,Nat.reduceEqDiff,Nat.reduceLT,reduceCtorEq]
    f4:=by rw [← hff]; simp -implicitDefEqProofs only [upd_go,kept_go,↓reduceIte,Nat.reduceEqDiff,Nat.reduceLT,reduceCtorEq]
    f6:=by rw [← hff]; simp -implicitDefEqProofs only [upd_go,kept_go,↓reduceIte,Nat.reduceEqDiff,Nat.reduceLT,reduceCtorEq] <;> rfl
    cd:=⟨_,_,c1⟩
    lay:=hE.keep fun b c hb hc => ⟨(x1.cells (hw.cells hc)).trans hc,hb,hw.cells hc⟩
    wf:=hw1 }
  have n1:=x1.next
  have hn1 : σ.next + 1 < σ1.next:=(hw1 _ _ g4).1
  have g4' : σ2.heap.get (σ.next + 1) = _:=(h4.get (σ.next + 1) hn1 (by omega)).trans g4
  obtain ⟨fz,ver,hg2⟩:=h2.cd
  have cc:=cells_of_get hg2
  rw [e2]
  simp -implicitDefEqProofs only [go_sem,↓reduceIte,Nat.reduceLT,Nat.reduceEqDiff,Nat.reduceAdd,Nat.reduceMul,Nat.reduceLeDiff,Nat.reduceSub,fstoreN,r27_7_go,r27_7U,h2.f2,h2.f4,cc,g4',fleave_nil,fresults_nil,fresults_cons,fresult_cell,fresult_tmp,aggDatum]
  have x2 : Ext σ σ2:=⟨by have:=h4.next; omega,by have:=x1.clock; have:=h4.clock; omega,fun b hb => (h4.get b (by omega) (by omega)).trans (x1.get b hb)⟩
  exact ⟨_,_,rfl,x2.put _ _ _ (by omega),h2.wf.put _ _ _ (by have:=h4.next; omega),_,rfl,q2,c2,rfl,h2.lay.keep fun b c hb hc => ⟨by rw [cells_put,if_neg (by omega)]; exact hc,hb⟩⟩
end Go.Proofs.YtodkeaoikjjneaaGreatDoor
/- Structs, compared: a computation that asks for no memory. -/
namespace Go.Eng
open Go
end Go.Eng
/- Functions of the program, written out in the reading's words (made by program; the kernel holds each against the code). -/
namespace Go.Proofs.YtodkeaoikjjneaaGreatDoor
open Go Go.Eng
variable (E : Env) (ro : Option Nat) (last : List Nat → RunF) (cl : List Nat) (a : FAct) (u : Option FrameMode) (σ : FState)
def c78_0a : Code:=((rangesOf (Tryz.f78.body.getD .skip)).getD 0 (.skip,.skip)).1
def c78_0b : Code:=((rangesOf (Tryz.f78.body.getD .skip)).getD 0 (.skip,.skip)).2
def r112_0U (_ : Unit) : List COp:=[⟨fun a σ => .val (.slice none 0 0) σ,(some 2),fun _ => some true⟩]
def r112_0 : List COp:=r112_0U ()
def r112_1U (_ : Unit) : List COp:=[⟨fun a σ => .val (a.get 0) σ,(some 3),fun _ => some true⟩,
  ⟨fun a σ => i_eql Tryz.prog 22 (.tmp 3) (.const (.slice none 0 0)) (a.get 3) (.slice none 0 0) σ,(some 4),fun _ => some true⟩]
def r112_1 : List COp:=r112_1U ()
def r112_2U (_ : Unit) : List COp:=[⟨fun a σ => .val (.slice none 0 0) σ,(some 2),fun _ => some true⟩]
def r112_2 : List COp:=r112_2U ()
def r112_3U (_ : Unit) : List COp:=[⟨fun a σ => fbuildSlice 3 0 1 [(.int .i64 0)] [] σ,(some 5),fun _ => some true⟩,
  ⟨fun a σ => .val (a.get 0) σ,(some 6),fun _ => some true⟩,
  ⟨fun a σ => fappend 3 1 8 (a.get 5) (a.get 6) σ,(some 7),fun _ => some true⟩,
  ⟨fun a σ => .val (a.get 7) σ,(some 2),fun _ => some true⟩]
def r112_3 : List COp:=r112_3U ()
def run112 (E : Env) (ro : Option Nat) (fn : FuncId) : RunF:=(seqR (fops E ro r112_0) (seqR (seqR (fops E ro r112_1) (condR (fun a => (a.get 4)) (seqR (fops E ro r112_2) retR) skipR)) (seqR (fops E ro r112_3) retR)))
theorem r112_0_go : fops E ro r112_0 a u σ = fops E ro (r112_0U ()) a u σ:=rfl
theorem r112_1_go : fops E ro r112_1 a u σ = fops E ro (r112_1U ()) a u σ:=rfl
theorem r112_2_go : fops E ro r112_2 a u σ = fops E ro (r112_2U ()) a u σ:=rfl
theorem r112_3_go : fops E ro r112_3 a u σ = fops E ro (r112_3U ()) a u σ:=rfl
theorem code112 (E : Env) (ro : Option Nat) (fn : FuncId) : code Tryz.prog nls (Tryz.f112.body.getD .skip) E ro fn = run112 E ro fn:=by kernel_rfl
theorem enter112 (E : Env) (args : List Value) (u : Option FrameMode) (σ : FState) (hn : args.length ≤ (2 : Nat)) : fcall Tryz.prog nls E 112 args u σ = leaveR Tryz.prog E [.tmp 2] (run112 E none 112 ⟨padTo undef 2 args,fun _ => undef,2,8,[]⟩ u σ):=by
  rw [fcall_of (body:=Tryz.f112.body.getD .skip) Tryz.func112 rfl E args u σ 2 8 (by kernel_rfl) rfl ⟨hn,by decide⟩,code112]
  rfl
def r72_0U (_ : Unit) : List COp:=[⟨fun a σ => newCells [(.int .i64 0),(.int .i64 0),(.string ⟨#[]⟩),(.slice none 0 0)] 28 none σ,(some 2),fun _ => some true⟩]
def r72_0 : List COp:=r72_0U ()
def r72_1U (_ : Unit) : List COp:=[⟨fun a σ => fload (some 4) (a.get 0) σ,(some 3),fun _ => some true⟩,
  ⟨fun a σ => .enter 60 [(a.get 3)] σ,(some 4),fun _ => some true⟩]
def r72_1 : List COp:=r72_1U ()
def r72_2U (_ : Unit) : List COp:=[⟨fun a σ => fload none (a.get 1) σ,(some 5),fun _ => some true⟩,
  ⟨fun a σ => .enter 73 [(a.get 0),(a.get 5)] σ,(some 6),fun _ => some true⟩,
  ⟨fun a σ => fnilCheck (a.get 6) σ,(some 7),fun _ => some true⟩,
  ⟨fun a σ => fload (some 4) (a.get 7) σ,(some 8),fun _ => some true⟩,
  ⟨fun a σ => .enter 69 [(a.get 8)] σ,(some 9),fun _ => some true⟩,
  ⟨fun a σ => fstore 4 (a.get 2) (a.get 9) σ,none,fun _ => some true⟩]
def r72_2 : List COp:=r72_2U ()
def run72 (E : Env) (ro : Option Nat) (fn : FuncId) : RunF:=(seqR (fops E ro r72_0) (seqR (fops E ro r72_1) (seqR (fops E ro r72_2) retR)))
theorem r72_0_go : fops E ro r72_0 a u σ = fops E ro (r72_0U ()) a u σ:=rfl
theorem r72_1_go : fops E ro r72_1 a u σ = fops E ro (r72_1U ()) a u σ:=rfl
theorem r72_2_go : fops E ro r72_2 a u σ = fops E ro (r72_2U ()) a u σ:=rfl
theorem code72 (E : Env) (ro : Option Nat) (fn : FuncId) : code Tryz.prog nls (Tryz.f72.body.getD .skip) E ro fn = run72 E ro fn:=by kernel_rfl
theorem enter72 (E : Env) (args : List Value) (u : Option FrameMode) (σ : FState) (hn : args.length ≤ (2 : Nat)) : fcall Tryz.prog nls E 72 args u σ = leaveR Tryz.prog E [.cell 2 28] (run72 E none 72 ⟨padTo undef 2 args,fun _ => undef,2,10,[]⟩ u σ):=by
  rw [fcall_of (body:=Tryz.f72.body.getD .skip) Tryz.func72 rfl E args u σ 2 10 (by kernel_rfl) rfl ⟨hn,by decide⟩,code72]
  rfl
def r73_0U (_ : Unit) : List COp:=[⟨fun a σ => .val (.pointer none) σ,(some 4),fun _ => some true⟩]
def r73_0 : List COp:=r73_0U ()
def r73_1U (_ : Unit) : List COp:=[⟨fun a σ => .val (a.get 1) σ,(some 7),fun _ => some true⟩,
  ⟨fun a σ => flenL (a.get 7) σ,(some 8),fun _ => some true⟩,
  ⟨fun a σ => .val (.int .i64 0) σ,(some 9),fun _ => some true⟩]
def r73_1 : List COp:=r73_1U ()
def r73_2U (_ : Unit) : List COp:=[⟨fun a σ => i_lss Tryz.prog 3 (.tmp 9) (.tmp 8) (a.get 9) (a.get 8) σ,(some 10),fun _ => some true⟩]
def r73_2 : List COp:=r73_2U ()
def r73_3U (_ : Unit) : List COp:=[⟨fun a σ => findex (none,1) (a.get 7) (a.get 9) σ,(some 11),fun _ => some true⟩,
  ⟨fun a σ => fload none (a.get 11) σ,(some 12),fun _ => some true⟩,
  ⟨fun a σ => .val (a.get 12) σ,(some 6),fun _ => some true⟩]
def r73_3 : List COp:=r73_3U ()
def r73_4U (_ : Unit) : List COp:=[⟨fun a σ => .val (a.get 6) σ,(some 13),fun _ => some true⟩,
  ⟨fun a σ => i_lss Tryz.prog 3 (.tmp 13) (.const (.int .i64 0)) (a.get 13) (.int .i64 0) σ,(some 14),fun _ => some true⟩,
  ⟨fun a σ => .val (a.get 14) σ,(some 15),fun _ => some true⟩,
  ⟨fun a σ => .val (a.get 6) σ,(some 16),fun a => gd (a.get 15) false⟩,
  ⟨fun a σ => .val (a.get 0) σ,(some 17),fun a => gd (a.get 15) false⟩,
  ⟨fun a σ => fnilCheck (a.get 17) σ,(some 18),fun a => gd (a.get 15) false⟩,
  ⟨fun a σ => ffield 3 (a.get 18) σ,(some 19),fun a => gd (a.get 15) false⟩,
  ⟨fun a σ => fload none (a.get 19) σ,(some 20),fun a => gd (a.get 15) false⟩,
  ⟨fun a σ => flenL (a.get 20) σ,(some 21),fun a => gd (a.get 15) false⟩,
  ⟨fun a σ => i_geq Tryz.prog 3 (.tmp 16) (.tmp 21) (a.get 16) (a.get 21) σ,(some 22),fun a => gd (a.get 15) false⟩,
  ⟨fun a σ => fpick (a.get 15) (.bool true) (a.get 22) σ,(some 23),fun _ => some true⟩]
def r73_4 : List COp:=r73_4U ()
def r73_5U (_ : Unit) : List COp:=[⟨fun a σ => .enter 104 [(.int .i64 9)] σ,(some 24),fun _ => some true⟩]
def r73_5 : List COp:=r73_5U ()
def r73_6U (_ : Unit) : List COp:=[⟨fun a σ => .val (a.get 0) σ,(some 25),fun _ => some true⟩,
  ⟨fun a σ => fnilCheck (a.get 25) σ,(some 26),fun _ => some true⟩,
  ⟨fun a σ => ffield 3 (a.get 26) σ,(some 27),fun _ => some true⟩,
  ⟨fun a σ => fload none (a.get 27) σ,(some 28),fun _ => some true⟩,
  ⟨fun a σ => .val (a.get 6) σ,(some 29),fun _ => some true⟩,
  ⟨fun a σ => findex (none,4) (a.get 28) (a.get 29) σ,(some 30),fun _ => some true⟩,
  ⟨fun a σ => .val (a.get 30) σ,(some 0),fun _ => some true⟩]
def r73_6 : List COp:=r73_6U ()
def r73_7U (_ : Unit) : List COp:=[⟨fun a σ => i_add Tryz.prog 3 (.tmp 9) (.const (.int .i64 1)) (a.get 9) (.int .i64 1) σ,(some 31),fun _ => some true⟩,
  ⟨fun a σ => .val (a.get 31) σ,(some 9),fun _ => some true⟩]
def r73_7 : List COp:=r73_7U ()
def l73_0 (E : Env) (ro : Option Nat) (fn : FuncId) : RunF:=(seqR (fops E ro r73_2) (seqR (condR (fun a => (a.get 10)) skipR (exitR 0)) (seqR (blockR 1 (seqR (fops E ro r73_3) (seqR (seqR (fops E ro r73_4) (condR (fun a => (a.get 23)) (fops E ro r73_5) skipR)) (fops E ro r73_6)))) (fops E ro r73_7))))
def r73_8U (_ : Unit) : List COp:=[⟨fun a σ => .val (a.get 0) σ,(some 32),fun _ => some true⟩,
  ⟨fun a σ => .val (a.get 32) σ,(some 4),fun _ => some true⟩]
def r73_8 : List COp:=r73_8U ()
def run73 (E : Env) (ro : Option Nat) (fn : FuncId) : RunF:=(seqR (fops E ro r73_0) (seqR (seqR (fops E ro r73_1) (blockR 0 (loopR (keepOf nls fn) (l73_0 E ro fn)))) (seqR (fops E ro r73_8) retR)))
theorem r73_0_go : fops E ro r73_0 a u σ = fops E ro (r73_0U ()) a u σ:=rfl
theorem r73_1_go : fops E ro r73_1 a u σ = fops E ro (r73_1U ()) a u σ:=rfl
theorem r73_2_go : fops E ro r73_2 a u σ = fops E ro (r73_2U ()) a u σ:=rfl
theorem r73_3_go : fops E ro r73_3 a u σ = fops E ro (r73_3U ()) a u σ:=rfl
theorem r73_4_go : fops E ro r73_4 a u σ = fops E ro (r73_4U ()) a u σ:=rfl
theorem r73_6_go : fops E ro r73_6 a u σ = fops E ro (r73_6U ()) a u σ:=rfl
theorem r73_7_go : fops E ro r73_7 a u σ = fops E ro (r73_7U ()) a u σ:=rfl
theorem r73_8_go : fops E ro r73_8 a u σ = fops E ro (r73_8U ()) a u σ:=rfl
theorem code73 (E : Env) (ro : Option Nat) (fn : FuncId) : code Tryz.prog nls (Tryz.f73.body.getD .skip) E ro fn = run73 E ro fn:=by kernel_rfl
theorem enter73 (E : Env) (args : List Value) (u : Option FrameMode) (σ : FState) (hn : args.length ≤ (7 : Nat)) : fcall Tryz.prog nls E 73 args u σ = leaveR Tryz.prog E [.tmp 4] (run73 E none 73 ⟨padTo undef 7 args,fun _ => undef,7,33,[]⟩ u σ):=by
  rw [fcall_of (body:=Tryz.f73.body.getD .skip) Tryz.func73 rfl E args u σ 7 33 (by kernel_rfl) rfl ⟨hn,by decide⟩,code73]
  rfl
def r69_0U (_ : Unit) : List COp:=[⟨fun a σ => fbox 28 (a.get 0) σ,(some 1),fun _ => some true⟩,
  ⟨fun a σ => newCells [(.int .i64 0),(.int .i64 0),(.string ⟨#[]⟩),(.slice none 0 0)] 28 none σ,(some 2),fun _ => some true⟩]
def r69_0 : List COp:=r69_0U ()
def r69_1U (_ : Unit) : List DOp:=[⟨fun a σ => ffield 3 (a.get 1) σ,(some 9),fun _ => some true,(some 0),false⟩,
  ⟨fun a σ => fload none (a.get 9) σ,(some 10),fun _ => some true,(some 0),false⟩,
  ⟨fun a σ => .enter 106 [(a.get 10),(.func (.func 69) #[] #[])] σ,(some 11),fun _ => some true,none,false⟩,
  ⟨fun a σ => ffield 0 (a.get 1) σ,(some 3),fun _ => some true,(some 0),false⟩,
  ⟨fun a σ => fload none (a.get 3) σ,(some 4),fun _ => some true,(some 0),false⟩,
  ⟨fun a σ => ffield 1 (a.get 1) σ,(some 5),fun _ => some true,(some 0),false⟩,
  ⟨fun a σ => fload none (a.get 5) σ,(some 6),fun _ => some true,(some 0),false⟩,
  ⟨fun a σ => ffield 2 (a.get 1) σ,(some 7),fun _ => some true,(some 0),false⟩,
  ⟨fun a σ => fload none (a.get 7) σ,(some 8),fun _ => some true,(some 0),false⟩,
  ⟨fun a σ => fbuild (fun i => nth [(0,1),(1,1),(2,1),(3,1)] i) [(.int .i64 0),(.int .i64 0),(.string ⟨#[]⟩),(.slice none 0 0)] [(0,(a.get 4)),(1,(a.get 6)),(2,(a.get 8)),(3,(a.get 11))] σ,(some 12),fun _ => some true,(some 1),false⟩,
  ⟨fun a σ => fstore 4 (a.get 2) (a.get 12) σ,none,fun _ => some true,none,true⟩]
def r69_1 : List DOp:=r69_1U ()
def run69 (E : Env) (ro : Option Nat) (fn : FuncId) : RunF:=(seqR (fops E ro r69_0) (seqR (drawR E ro r69_1) retR))
theorem r69_0_go : fops E ro r69_0 a u σ = fops E ro (r69_0U ()) a u σ:=rfl
theorem r69_1_go : fdraw E ro last r69_1 cl a u σ = fdraw E ro last (r69_1U ()) cl a u σ:=rfl
theorem code69 (E : Env) (ro : Option Nat) (fn : FuncId) : code Tryz.prog nls (Tryz.f69.body.getD .skip) E ro fn = run69 E ro fn:=by kernel_rfl
theorem enter69 (E : Env) (args : List Value) (u : Option FrameMode) (σ : FState) (hn : args.length ≤ (2 : Nat)) : fcall Tryz.prog nls E 69 args u σ = leaveR Tryz.prog E [.cell 2 28] (run69 E none 69 ⟨padTo undef 2 args,fun _ => undef,2,13,[]⟩ u σ):=by
  rw [fcall_of (body:=Tryz.f69.body.getD .skip) Tryz.func69 rfl E args u σ 2 13 (by kernel_rfl) rfl ⟨hn,by decide⟩,code69]
  rfl
def r106_0U (_ : Unit) : List COp:=[⟨fun a σ => .val (.slice none 0 0) σ,(some 4),fun _ => some true⟩]
def r106_0 : List COp:=r106_0U ()
def r106_1U (_ : Unit) : List COp:=[⟨fun a σ => .val (a.get 0) σ,(some 7),fun _ => some true⟩,
  ⟨fun a σ => flenL (a.get 7) σ,(some 8),fun _ => some true⟩,
  ⟨fun a σ => i_eql Tryz.prog 3 (.tmp 8) (.const (.int .i64 0)) (a.get 8) (.int .i64 0) σ,(some 9),fun _ => some true⟩]
def r106_1 : List COp:=r106_1U ()
def r106_2U (_ : Unit) : List COp:=[⟨fun a σ => .val (.slice none 0 0) σ,(some 4),fun _ => some true⟩]
def r106_2 : List COp:=r106_2U ()
def r106_3U (_ : Unit) : List COp:=[⟨fun a σ => .val (a.get 0) σ,(some 10),fun _ => some true⟩,
  ⟨fun a σ => flenL (a.get 10) σ,(some 11),fun _ => some true⟩,
  ⟨fun a σ => fmakeSlice 28 56 [(.int .i64 0),(.int .i64 0),(.string ⟨#[]⟩),(.slice none 0 0)] (a.get 11) (a.get 11) σ,(some 12),fun _ => some true⟩,
  ⟨fun a σ => .val (a.get 12) σ,(some 5),fun _ => some true⟩]
def r106_3 : List COp:=r106_3U ()
def r106_4U (_ : Unit) : List COp:=[⟨fun a σ => .val (a.get 0) σ,(some 13),fun _ => some true⟩,
  ⟨fun a σ => flenL (a.get 13) σ,(some 14),fun _ => some true⟩,
  ⟨fun a σ => .val (.int .i64 0) σ,(some 15),fun _ => some true⟩]
def r106_4 : List COp:=r106_4U ()
def r106_5U (_ : Unit) : List COp:=[⟨fun a σ => i_lss Tryz.prog 3 (.tmp 15) (.tmp 14) (a.get 15) (a.get 14) σ,(some 16),fun _ => some true⟩]
def r106_5 : List COp:=r106_5U ()
def r106_6U (_ : Unit) : List COp:=[⟨fun a σ => .val (a.get 15) σ,(some 17),fun _ => some true⟩,
  ⟨fun a σ => .val (a.get 17) σ,(some 6),fun _ => some true⟩]
def r106_6 : List COp:=r106_6U ()
def r106_7U (_ : Unit) : List COp:=[⟨fun a σ => .val (a.get 5) σ,(some 18),fun _ => some true⟩,
  ⟨fun a σ => .val (a.get 6) σ,(some 19),fun _ => some true⟩,
  ⟨fun a σ => .val (a.get 1) σ,(some 20),fun _ => some true⟩,
  ⟨fun a σ => .val (a.get 0) σ,(some 21),fun _ => some true⟩,
  ⟨fun a σ => .val (a.get 6) σ,(some 22),fun _ => some true⟩,
  ⟨fun a σ => findex (none,4) (a.get 21) (a.get 22) σ,(some 23),fun _ => some true⟩,
  ⟨fun a σ => fload (some 4) (a.get 23) σ,(some 24),fun _ => some true⟩,
  ⟨fun a σ => fcallV (a.get 20) [(a.get 24)] σ,(some 25),fun _ => some true⟩,
  ⟨fun a σ => findex (none,4) (a.get 18) (a.get 19) σ,(some 26),fun _ => some true⟩,
  ⟨fun a σ => fstore 4 (a.get 26) (a.get 25) σ,none,fun _ => some true⟩]
def r106_7 : List COp:=r106_7U ()
def r106_8U (_ : Unit) : List COp:=[⟨fun a σ => i_add Tryz.prog 3 (.tmp 15) (.const (.int .i64 1)) (a.get 15) (.int .i64 1) σ,(some 27),fun _ => some true⟩,
  ⟨fun a σ => .val (a.get 27) σ,(some 15),fun _ => some true⟩]
def r106_8 : List COp:=r106_8U ()
def l106_0 (E : Env) (ro : Option Nat) (fn : FuncId) : RunF:=(seqR (fops E ro r106_5) (seqR (condR (fun a => (a.get 16)) skipR (exitR 0)) (seqR (blockR 1 (seqR (fops E ro r106_6) (fops E ro r106_7))) (fops E ro r106_8))))
def r106_9U (_ : Unit) : List COp:=[⟨fun a σ => .val (a.get 5) σ,(some 28),fun _ => some true⟩,
  ⟨fun a σ => .val (a.get 28) σ,(some 4),fun _ => some true⟩]
def r106_9 : List COp:=r106_9U ()
def run106 (E : Env) (ro : Option Nat) (fn : FuncId) : RunF:=(seqR (fops E ro r106_0) (seqR (seqR (fops E ro r106_1) (condR (fun a => (a.get 9)) (seqR (fops E ro r106_2) retR) skipR)) (seqR (fops E ro r106_3) (seqR (seqR (fops E ro r106_4) (blockR 0 (loopR (keepOf nls fn) (l106_0 E ro fn)))) (seqR (fops E ro r106_9) retR)))))
theorem r106_0_go : fops E ro r106_0 a u σ = fops E ro (r106_0U ()) a u σ:=rfl
theorem r106_1_go : fops E ro r106_1 a u σ = fops E ro (r106_1U ()) a u σ:=rfl
theorem r106_2_go : fops E ro r106_2 a u σ = fops E ro (r106_2U ()) a u σ:=rfl
theorem r106_3_go : fops E ro r106_3 a u σ = fops E ro (r106_3U ()) a u σ:=rfl
theorem r106_4_go : fops E ro r106_4 a u σ = fops E ro (r106_4U ()) a u σ:=rfl
theorem r106_5_go : fops E ro r106_5 a u σ = fops E ro (r106_5U ()) a u σ:=rfl
theorem r106_6_go : fops E ro r106_6 a u σ = fops E ro (r106_6U ()) a u σ:=rfl
theorem r106_7_go : fops E ro r106_7 a u σ = fops E ro (r106_7U ()) a u σ:=rfl
theorem r106_8_go : fops E ro r106_8 a u σ = fops E ro (r106_8U ()) a u σ:=rfl
theorem r106_9_go : fops E ro r106_9 a u σ = fops E ro (r106_9U ()) a u σ:=rfl
theorem code106 (E : Env) (ro : Option Nat) (fn : FuncId) : code Tryz.prog nls (Tryz.f106.body.getD .skip) E ro fn = run106 E ro fn:=by kernel_rfl
theorem enter106 (E : Env) (args : List Value) (u : Option FrameMode) (σ : FState) (hn : args.length ≤ (7 : Nat)) : fcall Tryz.prog nls E 106 args u σ = leaveR Tryz.prog E [.tmp 4] (run106 E none 106 ⟨padTo undef 7 args,fun _ => undef,7,29,[]⟩ u σ):=by
  rw [fcall_of (body:=Tryz.f106.body.getD .skip) Tryz.func106 rfl E args u σ 7 29 (by kernel_rfl) rfl ⟨hn,by decide⟩,code106]
  rfl
end Go.Proofs.YtodkeaoikjjneaaGreatDoor
/- plain.Equal. -/
namespace Go.Proofs.YtodkeaoikjjneaaGreatDoor
open Go Go.Eng
attribute [local congr] andThen_congr fops_congr fdraw_congr afterOp_congr drawF_congr
attribute [-go_sem] List.range_succ
end Go.Proofs.YtodkeaoikjjneaaGreatDoor
/- slices.EqualFunc at plain.Equal; plain.Equal whole. -/
namespace Go.Proofs.YtodkeaoikjjneaaGreatDoor
open Go Go.Eng
attribute [local congr] andThen_congr fops_congr fdraw_congr afterOp_congr drawF_congr
attribute [-go_sem] List.range_succ
structure HeadEf (p p' : Option Addr) (len c c' : Nat) (k : Nat) (f g : Nat → Value) : Prop where
  f1 : f 1 = .slice p' len c'
  f2 : f 2 = .func (.func 111) #[] #[]
  g15 : g 15 = .slice p len c
  g16 : g 16 = .int .i64 (.ofNat len)
  g17 : g 17 = .int .i64 (.ofNat k)
theorem beq_int (a b : Int) : (a == b) = decide (a = b):=by
  by_cases h : a = b
  · rw [decide_eq_true h]; simp [h]
  · rw [decide_eq_false h]; simp [h]
end Go.Proofs.YtodkeaoikjjneaaGreatDoor
/- caracolekit.EqDatum and EqData: two data, compared. -/
namespace Go.Proofs.YtodkeaoikjjneaaGreatDoor
open Go Go.Eng
attribute [local congr] andThen_congr
theorem eqDatum_step (n : Nat) (k1 n1 k2 n2 : Int) (t1 t2 : ByteArray) (s1 s2 : Value) (σ : FState) (B : Bool) (hw : Wf σ)
    (h : ∀ σ',Ext σ σ' → Wf σ' → Gives ((env n).call 17 [s1,s2] none σ') σ' fun v _ => v = .bool B) :
    Gives ((env (n + 1)).call 20 [.agg #[.int .i64 k1,.int .i64 n1,.string t1,s1],.agg #[.int .i64 k2,.int .i64 n2,.string t2,s2]] none σ) σ
      fun v _ => v = .bool ((k1 == k2) && (n1 == n2) && (t1.toList == t2.toList) && B):=by
  rw [env_call _ 20 _ _ rfl,enter20 _ _ _ _ (by simp)]
  generalize ha : (⟨padTo undef 4 _,fun _ => undef,4,31,[]⟩ : FAct) = a
  have hok : a.ok:=by rw [← ha]; exact ok_start _ _ _ _
  have hnt : a.nt = 31:=by rw [← ha]
  have hds : a.defers = []:=by rw [← ha]
  have hg0 : a.get 0 = .agg #[.int .i64 k1,.int .i64 n1,.string t1,s1]:=by rw [← ha,get_start]; rfl
  have hg1 : a.get 1 = .agg #[.int .i64 k2,.int .i64 n2,.string t2,s2]:=by rw [← ha,get_start]; rfl
  clear ha
  unfold run20
  have fin : ∀ (o1 o2 : FObj) (f1 f2 : Option Nat),Ext σ ((σ.push o1 f1).push o2 f2) ∧ Wf ((σ.push o1 f1).push o2 f2):=fun o1 o2 f1 f2 => ⟨((Ext.refl σ).push _ _).push _ _,(hw.push _ _).push _ _⟩
  cases e1 : (k1 == k2) with
  | false =>
    simp only [seqR_go,fops_c,fops_nil,fdraw_f,fdraw_a,fdraw_nil',drawR_go,retR_go,skipR_go,exitR_go,after_val,after_skip,after_enter,after_ret,andThen_normal,andThen_ret,andThen_exit,get_put,ok_put,nt_put,defers_put,put_none,Nat.reduceLT,↓reduceIte,Nat.reduceEqDiff,Nat.reduceAdd,nth_zero,nth_succ,drawF_val,drawF_push,stepOp_eq,drawA_normal,view_next,push_next,push_clock,put_next,put_clock,box_go,newCells_go,notTuple_agg,notTuple_int,notTuple_string,notTuple_bool,notTuple_slice,notTuple_pointer,valCells_agg,valCells_int,valCells_string,valCells_bool,valCells_slice,valCells_pointer,ffield_eq,fload1,floadN,cells_push,cells_put,cells?_cells,gd_true,gd_false,gd_skip,fpick_eq,eql_int,neq_int,lss_int,leq_int,gtr_int,geq_int,add_int,sub_int,mul_int,eql_str,neq_str,not_go,flenL_eq,flenS_eq,Nat.add_zero,Nat.zero_add,Nat.add_left_cancel_iff,Nat.add_eq_left,Nat.left_eq_add,List.getElem?_cons_zero,List.getElem?_cons_succ,beq_self_eq_true,Bool.not_true,Bool.not_false,cond_true,cond_false,leaveR_ret,leaveR_normal,leave_tmp,leave_tmp2,leave_tmp3,condR_val,Bool.false_eq_true,blockR_k,blockK_normal,blockK_ret,blockK_exit,loopR_go,nl_put,findex_eq,forget_ok,forget_nt,forget_nl,forget_defers,List.not_mem_nil,or_false,or_true,List.cons_append,List.nil_append,add_u64,mul_u64,xor_u64,shr32_u64,shr27_u64,shr9_u64,nilCheck_ptr,fstore1,push_get,put_get,List.set_cons_zero,List.set_cons_succ,List.length_cons,List.length_nil,oneCell_int,oneCell_string,oneCell_bool,oneCell_slice,oneCell_pointer,r20_0_go,r20_0U,r20_1_go,r20_1U,hok,hnt,hg0,hg1,hds,e1]
    exact ⟨_,_,rfl,(fin ..).1,(fin ..).2,rfl⟩
  | true => cases e2 : (n1 == n2) with
    | false =>
      simp only [seqR_go,fops_c,fops_nil,fdraw_f,fdraw_a,fdraw_nil',drawR_go,retR_go,skipR_go,exitR_go,after_val,after_skip,after_enter,after_ret,andThen_normal,andThen_ret,andThen_exit,get_put,ok_put,nt_put,defers_put,put_none,Nat.reduceLT,↓reduceIte,Nat.reduceEqDiff,Nat.reduceAdd,nth_zero,nth_succ,drawF_val,drawF_push,stepOp_eq,drawA_normal,view_next,push_next,push_clock,put_next,put_clock,box_go,newCells_go,notTuple_agg,notTuple_int,notTuple_string,notTuple_bool,notTuple_slice,notTuple_pointer,valCells_agg,valCells_int,valCells_string,valCells_bool,valCells_slice,valCells_pointer,ffield_eq,fload1,floadN,cells_push,cells_put,cells?_cells,gd_true,gd_false,gd_skip,fpick_eq,eql_int,neq_int,lss_int,leq_int,gtr_int,geq_int,add_int,sub_int,mul_int,eql_str,neq_str,not_go,flenL_eq,flenS_eq,Nat.add_zero,Nat.zero_add,Nat.add_left_cancel_iff,Nat.add_eq_left,Nat.left_eq_add,List.getElem?_cons_zero,List.getElem?_cons_succ,beq_self_eq_true,Bool.not_true,Bool.not_false,cond_true,cond_false,leaveR_ret,leaveR_normal,leave_tmp,leave_tmp2,leave_tmp3,condR_val,Bool.false_eq_true,blockR_k,blockK_normal,blockK_ret,blockK_exit,loopR_go,nl_put,findex_eq,forget_ok,forget_nt,forget_nl,forget_defers,List.not_mem_nil,or_false,or_true,List.cons_append,List.nil_append,add_u64,mul_u64,xor_u64,shr32_u64,shr27_u64,shr9_u64,nilCheck_ptr,fstore1,push_get,put_get,List.set_cons_zero,List.set_cons_succ,List.length_cons,List.length_nil,oneCell_int,oneCell_string,oneCell_bool,oneCell_slice,oneCell_pointer,r20_0_go,r20_0U,r20_1_go,r20_1U,hok,hnt,hg0,hg1,hds,e1,e2]
      exact ⟨_,_,rfl,(fin ..).1,(fin ..).2,rfl⟩
    | true => cases e3 : (t1.toList == t2.toList) with
      | false =>
        simp only [seqR_go,fops_c,fops_nil,fdraw_f,fdraw_a,fdraw_nil',drawR_go,retR_go,skipR_go,exitR_go,after_val,after_skip,after_enter,after_ret,andThen_normal,andThen_ret,andThen_exit,get_put,ok_put,nt_put,defers_put,put_none,Nat.reduceLT,↓reduceIte,Nat.reduceEqDiff,Nat.reduceAdd,nth_zero,nth_succ,drawF_val,drawF_push,stepOp_eq,drawA_normal,view_next,push_next,push_clock,put_next,put_clock,box_go,newCells_go,notTuple_agg,notTuple_int,notTuple_string,notTuple_bool,notTuple_slice,notTuple_pointer,valCells_agg,valCells_int,valCells_string,valCells_bool,valCells_slice,valCells_pointer,ffield_eq,fload1,floadN,cells_push,cells_put,cells?_cells,gd_true,gd_false,gd_skip,fpick_eq,eql_int,neq_int,lss_int,leq_int,gtr_int,geq_int,add_int,sub_int,mul_int,eql_str,neq_str,not_go,flenL_eq,flenS_eq,Nat.add_zero,Nat.zero_add,Nat.add_left_cancel_iff,Nat.add_eq_left,Nat.left_eq_add,List.getElem?_cons_zero,List.getElem?_cons_succ,beq_self_eq_true,Bool.not_true,Bool.not_false,cond_true,cond_false,leaveR_ret,leaveR_normal,leave_tmp,leave_tmp2,leave_tmp3,condR_val,Bool.false_eq_true,blockR_k,blockK_normal,blockK_ret,blockK_exit,loopR_go,nl_put,findex_eq,forget_ok,forget_nt,forget_nl,forget_defers,List.not_mem_nil,or_false,or_true,List.cons_append,List.nil_append,add_u64,mul_u64,xor_u64,shr32_u64,shr27_u64,shr9_u64,nilCheck_ptr,fstore1,push_get,put_get,List.set_cons_zero,List.set_cons_succ,List.length_cons,List.length_nil,oneCell_int,oneCell_string,oneCell_bool,oneCell_slice,oneCell_pointer,r20_0_go,r20_0U,r20_1_go,r20_1U,hok,hnt,hg0,hg1,hds,e1,e2,e3]
        exact ⟨_,_,rfl,(fin ..).1,(fin ..).2,rfl⟩
      | true =>
        simp only [seqR_go,fops_c,fops_nil,fdraw_f,fdraw_a,fdraw_nil',drawR_go,retR_go,skipR_go,exitR_go,after_val,after_skip,after_enter,after_ret,andThen_normal,andThen_ret,andThen_exit,get_put,ok_put,nt_put,defers_put,put_none,Nat.reduceLT,↓reduceIte,Nat.reduceEqDiff,Nat.reduceAdd,nth_zero,nth_succ,drawF_val,drawF_push,stepOp_eq,drawA_normal,view_next,push_next,push_clock,put_next,put_clock,box_go,newCells_go,notTuple_agg,notTuple_int,notTuple_string,notTuple_bool,notTuple_slice,notTuple_pointer,valCells_agg,valCells_int,valCells_string,valCells_bool,valCells_slice,valCells_pointer,ffield_eq,fload1,floadN,cells_push,cells_put,cells?_cells,gd_true,gd_false,gd_skip,fpick_eq,eql_int,neq_int,lss_int,leq_int,gtr_int,geq_int,add_int,sub_int,mul_int,eql_str,neq_str,not_go,flenL_eq,flenS_eq,Nat.add_zero,Nat.zero_add,Nat.add_left_cancel_iff,Nat.add_eq_left,Nat.left_eq_add,List.getElem?_cons_zero,List.getElem?_cons_succ,beq_self_eq_true,Bool.not_true,Bool.not_false,cond_true,cond_false,leaveR_ret,leaveR_normal,leave_tmp,leave_tmp2,leave_tmp3,condR_val,Bool.false_eq_true,blockR_k,blockK_normal,blockK_ret,blockK_exit,loopR_go,nl_put,findex_eq,forget_ok,forget_nt,forget_nl,forget_defers,List.not_mem_nil,or_false,or_true,List.cons_append,List.nil_append,add_u64,mul_u64,xor_u64,shr32_u64,shr27_u64,shr9_u64,nilCheck_ptr,fstore1,push_get,put_get,List.set_cons_zero,List.set_cons_succ,List.length_cons,List.length_nil,oneCell_int,oneCell_string,oneCell_bool,oneCell_slice,oneCell_pointer,r20_0_go,r20_0U,r20_1_go,r20_1U,hok,hnt,hg0,hg1,hds,e1,e2,e3]
        generalize hr : (env n).call 17 _ none _ = r
        obtain ⟨v,σ',rfl,hx,hw',rfl⟩:=use_call (X:=(env n).call 17 [s1,s2] none) hr h (fin ..).1 (fin ..).2
        simp only [seqR_go,fops_c,fops_nil,fdraw_f,fdraw_a,fdraw_nil',drawR_go,retR_go,skipR_go,exitR_go,after_val,after_skip,after_enter,after_ret,andThen_normal,andThen_ret,andThen_exit,get_put,ok_put,nt_put,defers_put,put_none,Nat.reduceLT,↓reduceIte,Nat.reduceEqDiff,Nat.reduceAdd,nth_zero,nth_succ,drawF_val,drawF_push,stepOp_eq,drawA_normal,view_next,push_next,push_clock,put_next,put_clock,box_go,newCells_go,notTuple_agg,notTuple_int,notTuple_string,notTuple_bool,notTuple_slice,notTuple_pointer,valCells_agg,valCells_int,valCells_string,valCells_bool,valCells_slice,valCells_pointer,ffield_eq,fload1,floadN,cells_push,cells_put,cells?_cells,gd_true,gd_false,gd_skip,fpick_eq,eql_int,neq_int,lss_int,leq_int,gtr_int,geq_int,add_int,sub_int,mul_int,eql_str,neq_str,not_go,flenL_eq,flenS_eq,Nat.add_zero,Nat.zero_add,Nat.add_left_cancel_iff,Nat.add_eq_left,Nat.left_eq_add,List.getElem?_cons_zero,List.getElem?_cons_succ,beq_self_eq_true,Bool.not_true,Bool.not_false,cond_true,cond_false,leaveR_ret,leaveR_normal,leave_tmp,leave_tmp2,leave_tmp3,condR_val,Bool.false_eq_true,blockR_k,blockK_normal,blockK_ret,blockK_exit,loopR_go,nl_put,findex_eq,forget_ok,forget_nt,forget_nl,forget_defers,List.not_mem_nil,or_false,or_true,List.cons_append,List.nil_append,add_u64,mul_u64,xor_u64,shr32_u64,shr27_u64,shr9_u64,nilCheck_ptr,fstore1,push_get,put_get,List.set_cons_zero,List.set_cons_succ,List.length_cons,List.length_nil,oneCell_int,oneCell_string,oneCell_bool,oneCell_slice,oneCell_pointer,hok,hnt,hg0,hg1,hds]
        exact ⟨_,_,rfl,(fin ..).1.trans hx,hw',rfl⟩
end Go.Proofs.YtodkeaoikjjneaaGreatDoor
/- caracolekit.EqData: two lists of data, compared. -/
namespace Go.Proofs.YtodkeaoikjjneaaGreatDoor
open Go Go.Eng
attribute [local congr] andThen_congr
theorem keepC17 : keepOf nls 17 = []:=by kernel_rfl
structure HeadEqC (a : FAct) (s s' : Value) (k : Nat) : Prop where
  ok : a.ok
  nt : a.nt = 27
  nl : a.nl = 6
  ds : a.defers = []
  g0 : a.get 0 = s
  g1 : a.get 1 = s'
  g5 : a.get 5 = .int .i64 (.ofNat k)
theorem eqDataC_loop (n N : Nat) (hE : ∀ d d' v v' σ,D.deep d ≤ N → d.count < 1000000000 → Wf σ → Laid σ v d → Laid σ v' d' → Gives ((env n).call 20 [v,v'] none σ) σ fun w _ => w = .bool (D.same d d'))
    (p p' : Option Addr) (len c c' : Nat) (hlen : len < 1000000000000) : ∀ (ds ds' : List D) (k fuel : Nat) (a : FAct) (σ : FState),k + ds.length = len → ds.length = ds'.length → ds.length < fuel → D.deeps ds ≤ N → D.counts ds < 1000000000 →
      Wf σ → LaidE σ p k ds → LaidE σ p' k ds' → HeadEqC a (.slice p len c) (.slice p' len c') k →
      ∃ e a' σ',floop [] (l17_0 (env n) none 17) fuel a none σ = .done e a' none σ' ∧ (if D.sames ds ds' = true then e = .exit 0 else e = .ret ∧ a'.get 4 = .bool false) ∧
        a'.ok ∧ a'.nt = 27 ∧ a'.defers = [] ∧ Ext σ σ' ∧ Wf σ':=by
  intro ds
  induction ds with
  | nil =>
    intro ds' k fuel a σ hk hl hf _ _ hw h1 h2 ⟨hok,hnt,hnl,hds,hg0,hg1,hg5⟩
    obtain ⟨fuel,rfl⟩ : ∃ f,fuel = f + 1:=⟨fuel - 1,by simp at hf; omega⟩
    have hd : decide ((Int.ofNat k) < (Int.ofNat len)) = false:=by simp at hk ⊢; omega
    have fg:=forget_get [] a hok
    cases ds' with
    | cons _ _ => simp at hl
    | nil =>
      rw [floop_step]
      unfold l17_0
      simp only [seqR_go,fops_c,fops_nil,fdraw_f,fdraw_a,fdraw_nil',drawR_go,retR_go,skipR_go,exitR_go,after_val,after_skip,after_enter,after_ret,andThen_normal,andThen_ret,andThen_exit,get_put,ok_put,nt_put,defers_put,put_none,Nat.reduceLT,↓reduceIte,Nat.reduceEqDiff,Nat.reduceAdd,nth_zero,nth_succ,drawF_val,drawF_push,stepOp_eq,drawA_normal,view_next,push_next,push_clock,put_next,put_clock,box_go,newCells_go,notTuple_agg,notTuple_int,notTuple_string,notTuple_bool,notTuple_slice,notTuple_pointer,valCells_agg,valCells_int,valCells_string,valCells_bool,valCells_slice,valCells_pointer,ffield_eq,fload1,floadN,cells_push,cells_put,cells?_cells,gd_true,gd_false,gd_skip,fpick_eq,eql_int,neq_int,lss_int,leq_int,gtr_int,geq_int,add_int,sub_int,mul_int,eql_str,neq_str,not_go,flenL_eq,flenS_eq,Nat.add_zero,Nat.zero_add,Nat.add_left_cancel_iff,Nat.add_eq_left,Nat.left_eq_add,List.getElem?_cons_zero,List.getElem?_cons_succ,beq_self_eq_true,Bool.not_true,Bool.not_false,cond_true,cond_false,leaveR_ret,leaveR_normal,leave_tmp,leave_tmp2,leave_tmp3,condR_val,Bool.false_eq_true,blockR_k,blockK_normal,blockK_ret,blockK_exit,loopR_go,nl_put,findex_eq,forget_ok,forget_nt,forget_nl,forget_defers,List.not_mem_nil,or_false,or_true,List.cons_append,List.nil_append,add_u64,mul_u64,xor_u64,shr32_u64,shr27_u64,shr9_u64,nilCheck_ptr,fstore1,push_get,put_get,List.set_cons_zero,List.set_cons_succ,List.length_cons,List.length_nil,oneCell_int,oneCell_string,oneCell_bool,oneCell_slice,oneCell_pointer,r17_4_go,r17_4U,hok,hnt,hnl,hds,hg0,hg1,hg5,fg,hd]
      exact ⟨_,_,_,rfl,rfl,by simp only [seqR_go,fops_c,fops_nil,fdraw_f,fdraw_a,fdraw_nil',drawR_go,retR_go,skipR_go,exitR_go,after_val,after_skip,after_enter,after_ret,andThen_normal,andThen_ret,andThen_exit,get_put,ok_put,nt_put,defers_put,put_none,Nat.reduceLT,↓reduceIte,Nat.reduceEqDiff,Nat.reduceAdd,nth_zero,nth_succ,drawF_val,drawF_push,stepOp_eq,drawA_normal,view_next,push_next,push_clock,put_next,put_clock,box_go,newCells_go,notTuple_agg,notTuple_int,notTuple_string,notTuple_bool,notTuple_slice,notTuple_pointer,valCells_agg,valCells_int,valCells_string,valCells_bool,valCells_slice,valCells_pointer,ffield_eq,fload1,floadN,cells_push,cells_put,cells?_cells,gd_true,gd_false,gd_skip,fpick_eq,eql_int,neq_int,lss_int,leq_int,gtr_int,geq_int,add_int,sub_int,mul_int,eql_str,neq_str,not_go,flenL_eq,flenS_eq,Nat.add_zero,Nat.zero_add,Nat.add_left_cancel_iff,Nat.add_eq_left,Nat.left_eq_add,List.getElem?_cons_zero,List.getElem?_cons_succ,beq_self_eq_true,Bool.not_true,Bool.not_false,cond_true,cond_false,leaveR_ret,leaveR_normal,leave_tmp,leave_tmp2,leave_tmp3,condR_val,Bool.false_eq_true,blockR_k,blockK_normal,blockK_ret,blockK_exit,loopR_go,nl_put,findex_eq,forget_ok,forget_nt,forget_nl,forget_defers,List.not_mem_nil,or_false,or_true,List.cons_append,List.nil_append,add_u64,mul_u64,xor_u64,shr32_u64,shr27_u64,shr9_u64,nilCheck_ptr,fstore1,push_get,put_get,List.set_cons_zero,List.set_cons_succ,List.length_cons,List.length_nil,oneCell_int,oneCell_string,oneCell_bool,oneCell_slice,oneCell_pointer,hok],by simp only [seqR_go,fops_c,fops_nil,fdraw_f,fdraw_a,fdraw_nil',drawR_go,retR_go,skipR_go,exitR_go,after_val,after_skip,after_enter,after_ret,andThen_normal,andThen_ret,andThen_exit,get_put,ok_put,nt_put,defers_put,put_none,Nat.reduceLT,↓reduceIte,Nat.reduceEqDiff,Nat.reduceAdd,nth_zero,nth_succ,drawF_val,drawF_push,stepOp_eq,drawA_normal,view_next,push_next,push_clock,put_next,put_clock,box_go,newCells_go,notTuple_agg,notTuple_int,notTuple_string,notTuple_bool,notTuple_slice,notTuple_pointer,valCells_agg,valCells_int,valCells_string,valCells_bool,valCells_slice,valCells_pointer,ffield_eq,fload1,floadN,cells_push,cells_put,cells?_cells,gd_true,gd_false,gd_skip,fpick_eq,eql_int,neq_int,lss_int,leq_int,gtr_int,geq_int,add_int,sub_int,mul_int,eql_str,neq_str,not_go,flenL_eq,flenS_eq,Nat.add_zero,Nat.zero_add,Nat.add_left_cancel_iff,Nat.add_eq_left,Nat.left_eq_add,List.getElem?_cons_zero,List.getElem?_cons_succ,beq_self_eq_true,Bool.not_true,Bool.not_false,cond_true,cond_false,leaveR_ret,leaveR_normal,leave_tmp,leave_tmp2,leave_tmp3,condR_val,Bool.false_eq_true,blockR_k,blockK_normal,blockK_ret,blockK_exit,loopR_go,nl_put,findex_eq,forget_ok,forget_nt,forget_nl,forget_defers,List.not_mem_nil,or_false,or_true,List.cons_append,List.nil_append,add_u64,mul_u64,xor_u64,shr32_u64,shr27_u64,shr9_u64,nilCheck_ptr,fstore1,push_get,put_get,List.set_cons_zero,List.set_cons_succ,List.length_cons,List.length_nil,oneCell_int,oneCell_string,oneCell_bool,oneCell_slice,oneCell_pointer,hnt],by simp only [seqR_go,fops_c,fops_nil,fdraw_f,fdraw_a,fdraw_nil',drawR_go,retR_go,skipR_go,exitR_go,after_val,after_skip,after_enter,after_ret,andThen_normal,andThen_ret,andThen_exit,get_put,ok_put,nt_put,defers_put,put_none,Nat.reduceLT,↓reduceIte,Nat.reduceEqDiff,Nat.reduceAdd,nth_zero,nth_succ,drawF_val,drawF_push,stepOp_eq,drawA_normal,view_next,push_next,push_clock,put_next,put_clock,box_go,newCells_go,notTuple_agg,notTuple_int,notTuple_string,notTuple_bool,notTuple_slice,notTuple_pointer,valCells_agg,valCells_int,valCells_string,valCells_bool,valCells_slice,valCells_pointer,ffield_eq,fload1,floadN,cells_push,cells_put,cells?_cells,gd_true,gd_false,gd_skip,fpick_eq,eql_int,neq_int,lss_int,leq_int,gtr_int,geq_int,add_int,sub_int,mul_int,eql_str,neq_str,not_go,flenL_eq,flenS_eq,Nat.add_zero,Nat.zero_add,Nat.add_left_cancel_iff,Nat.add_eq_left,Nat.left_eq_add,List.getElem?_cons_zero,List.getElem?_cons_succ,beq_self_eq_true,Bool.not_true,Bool.not_false,cond_true,cond_false,leaveR_ret,leaveR_normal,leave_tmp,leave_tmp2,leave_tmp3,condR_val,Bool.false_eq_true,blockR_k,blockK_normal,blockK_ret,blockK_exit,loopR_go,nl_put,findex_eq,forget_ok,forget_nt,forget_nl,forget_defers,List.not_mem_nil,or_false,or_true,List.cons_append,List.nil_append,add_u64,mul_u64,xor_u64,shr32_u64,shr27_u64,shr9_u64,nilCheck_ptr,fstore1,push_get,put_get,List.set_cons_zero,List.set_cons_succ,List.length_cons,List.length_nil,oneCell_int,oneCell_string,oneCell_bool,oneCell_slice,oneCell_pointer,hds],Ext.refl _,hw⟩
  | cons d ds ih =>
    intro ds' k fuel a σ hk hl hf hN hM hw h1 h2 ⟨hok,hnt,hnl,hds,hg0,hg1,hg5⟩
    obtain ⟨fuel,rfl⟩ : ∃ f,fuel = f + 1:=⟨fuel - 1,by simp at hf; omega⟩
    have hd : decide ((Int.ofNat k) < (Int.ofNat len)) = true:=by simp at hk ⊢; omega
    have hlt : k < len:=by simp at hk; omega
    have fg:=forget_get [] a hok
    cases ds' with
    | nil => simp at hl
    | cons d' ds' =>
      obtain ⟨⟨b,off,cs,rfl,hc,hcl,hL⟩,h1r⟩:=h1
      obtain ⟨⟨b',off',cs',rfl,hc',hcl',hL'⟩,h2r⟩:=h2
      have hN' : D.deep d ≤ N ∧ D.deeps ds ≤ N:=by simp [D.deeps] at hN; omega
      have hM' : d.count < 1000000000 ∧ D.counts ds < 1000000000:=by rw [D.counts] at hM; omega
      have hv:=view_wf hw (Nat.le_refl _)
      rw [floop_step]
      unfold l17_0
      simp only [seqR_go,fops_c,fops_nil,fdraw_f,fdraw_a,fdraw_nil',drawR_go,retR_go,skipR_go,exitR_go,after_val,after_skip,after_enter,after_ret,andThen_normal,andThen_ret,andThen_exit,get_put,ok_put,nt_put,defers_put,put_none,Nat.reduceLT,↓reduceIte,Nat.reduceEqDiff,Nat.reduceAdd,nth_zero,nth_succ,drawF_val,drawF_push,stepOp_eq,drawA_normal,view_next,push_next,push_clock,put_next,put_clock,box_go,newCells_go,notTuple_agg,notTuple_int,notTuple_string,notTuple_bool,notTuple_slice,notTuple_pointer,valCells_agg,valCells_int,valCells_string,valCells_bool,valCells_slice,valCells_pointer,ffield_eq,fload1,floadN,cells_push,cells_put,cells?_cells,gd_true,gd_false,gd_skip,fpick_eq,eql_int,neq_int,lss_int,leq_int,gtr_int,geq_int,add_int,sub_int,mul_int,eql_str,neq_str,not_go,flenL_eq,flenS_eq,Nat.add_zero,Nat.zero_add,Nat.add_left_cancel_iff,Nat.add_eq_left,Nat.left_eq_add,List.getElem?_cons_zero,List.getElem?_cons_succ,beq_self_eq_true,Bool.not_true,Bool.not_false,cond_true,cond_false,leaveR_ret,leaveR_normal,leave_tmp,leave_tmp2,leave_tmp3,condR_val,Bool.false_eq_true,blockR_k,blockK_normal,blockK_ret,blockK_exit,loopR_go,nl_put,findex_eq,forget_ok,forget_nt,forget_nl,forget_defers,List.not_mem_nil,or_false,or_true,List.cons_append,List.nil_append,add_u64,mul_u64,xor_u64,shr32_u64,shr27_u64,shr9_u64,nilCheck_ptr,fstore1,push_get,put_get,List.set_cons_zero,List.set_cons_succ,List.length_cons,List.length_nil,oneCell_int,oneCell_string,oneCell_bool,oneCell_slice,oneCell_pointer,r17_4_go,r17_4U,r17_6_go,r17_6U,hok,hnt,hnl,hds,hg0,hg1,hg5,fg,hd,hlt,hv,hc,hc',hcl,hcl']
      generalize hr : (env n).call 20 _ none _ = r
      obtain ⟨v,σ',rfl,hx,hw',rfl⟩:=hr ▸ hE d d' _ _ σ hN'.1 hM'.1 hw hL hL'
      have hwr : wrapI (Int.ofNat k + 1) = Int.ofNat (k + 1):=by
        rw [wrapI_of (by rw [Int.ofNat_eq_natCast]; omega)]; rfl
      cases e : D.same d d' with
      | false =>
        simp only [seqR_go,fops_c,fops_nil,fdraw_f,fdraw_a,fdraw_nil',drawR_go,retR_go,skipR_go,exitR_go,after_val,after_skip,after_enter,after_ret,andThen_normal,andThen_ret,andThen_exit,get_put,ok_put,nt_put,defers_put,put_none,Nat.reduceLT,↓reduceIte,Nat.reduceEqDiff,Nat.reduceAdd,nth_zero,nth_succ,drawF_val,drawF_push,stepOp_eq,drawA_normal,view_next,push_next,push_clock,put_next,put_clock,box_go,newCells_go,notTuple_agg,notTuple_int,notTuple_string,notTuple_bool,notTuple_slice,notTuple_pointer,valCells_agg,valCells_int,valCells_string,valCells_bool,valCells_slice,valCells_pointer,ffield_eq,fload1,floadN,cells_push,cells_put,cells?_cells,gd_true,gd_false,gd_skip,fpick_eq,eql_int,neq_int,lss_int,leq_int,gtr_int,geq_int,add_int,sub_int,mul_int,eql_str,neq_str,not_go,flenL_eq,flenS_eq,Nat.add_zero,Nat.zero_add,Nat.add_left_cancel_iff,Nat.add_eq_left,Nat.left_eq_add,List.getElem?_cons_zero,List.getElem?_cons_succ,beq_self_eq_true,Bool.not_true,Bool.not_false,cond_true,cond_false,leaveR_ret,leaveR_normal,leave_tmp,leave_tmp2,leave_tmp3,condR_val,Bool.false_eq_true,blockR_k,blockK_normal,blockK_ret,blockK_exit,loopR_go,nl_put,findex_eq,forget_ok,forget_nt,forget_nl,forget_defers,List.not_mem_nil,or_false,or_true,List.cons_append,List.nil_append,add_u64,mul_u64,xor_u64,shr32_u64,shr27_u64,shr9_u64,nilCheck_ptr,fstore1,push_get,put_get,List.set_cons_zero,List.set_cons_succ,List.length_cons,List.length_nil,oneCell_int,oneCell_string,oneCell_bool,oneCell_slice,oneCell_pointer,r17_7_go,r17_7U,hok,hnt,hnl,hds,hg0,hg1,hg5,fg,hwr]
        refine ⟨_,_,_,rfl,?_,by simp only [seqR_go,fops_c,fops_nil,fdraw_f,fdraw_a,fdraw_nil',drawR_go,retR_go,skipR_go,exitR_go,after_val,after_skip,after_enter,after_ret,andThen_normal,andThen_ret,andThen_exit,get_put,ok_put,nt_put,defers_put,put_none,Nat.reduceLT,↓reduceIte,Nat.reduceEqDiff,Nat.reduceAdd,nth_zero,nth_succ,drawF_val,drawF_push,stepOp_eq,drawA_normal,view_next,push_next,push_clock,put_next,put_clock,box_go,newCells_go,notTuple_agg,notTuple_int,notTuple_string,notTuple_bool,notTuple_slice,notTuple_pointer,valCells_agg,valCells_int,valCells_string,valCells_bool,valCells_slice,valCells_pointer,ffield_eq,fload1,floadN,cells_push,cells_put,cells?_cells,gd_true,gd_false,gd_skip,fpick_eq,eql_int,neq_int,lss_int,leq_int,gtr_int,geq_int,add_int,sub_int,mul_int,eql_str,neq_str,not_go,flenL_eq,flenS_eq,Nat.add_zero,Nat.zero_add,Nat.add_left_cancel_iff,Nat.add_eq_left,Nat.left_eq_add,List.getElem?_cons_zero,List.getElem?_cons_succ,beq_self_eq_true,Bool.not_true,Bool.not_false,cond_true,cond_false,leaveR_ret,leaveR_normal,leave_tmp,leave_tmp2,leave_tmp3,condR_val,Bool.false_eq_true,blockR_k,blockK_normal,blockK_ret,blockK_exit,loopR_go,nl_put,findex_eq,forget_ok,forget_nt,forget_nl,forget_defers,List.not_mem_nil,or_false,or_true,List.cons_append,List.nil_append,add_u64,mul_u64,xor_u64,shr32_u64,shr27_u64,shr9_u64,nilCheck_ptr,fstore1,push_get,put_get,List.set_cons_zero,List.set_cons_succ,List.length_cons,List.length_nil,oneCell_int,oneCell_string,oneCell_bool,oneCell_slice,oneCell_pointer,hok],by simp only [seqR_go,fops_c,fops_nil,fdraw_f,fdraw_a,fdraw_nil',drawR_go,retR_go,skipR_go,exitR_go,after_val,after_skip,after_enter,after_ret,andThen_normal,andThen_ret,andThen_exit,get_put,ok_put,nt_put,defers_put,put_none,Nat.reduceLT,↓reduceIte,Nat.reduceEqDiff,Nat.reduceAdd,nth_zero,nth_succ,drawF_val,drawF_push,stepOp_eq,drawA_normal,view_next,push_next,push_clock,put_next,put_clock,box_go,newCells_go,notTuple_agg,notTuple_int,notTuple_string,notTuple_bool,notTuple_slice,notTuple_pointer,valCells_agg,valCells_int,valCells_string,valCells_bool,valCells_slice,valCells_pointer,ffield_eq,fload1,floadN,cells_push,cells_put,cells?_cells,gd_true,gd_false,gd_skip,fpick_eq,eql_int,neq_int,lss_int,leq_int,gtr_int,geq_int,add_int,sub_int,mul_int,eql_str,neq_str,not_go,flenL_eq,flenS_eq,Nat.add_zero,Nat.zero_add,Nat.add_left_cancel_iff,Nat.add_eq_left,Nat.left_eq_add,List.getElem?_cons_zero,List.getElem?_cons_succ,beq_self_eq_true,Bool.not_true,Bool.not_false,cond_true,cond_false,leaveR_ret,leaveR_normal,leave_tmp,leave_tmp2,leave_tmp3,condR_val,Bool.false_eq_true,blockR_k,blockK_normal,blockK_ret,blockK_exit,loopR_go,nl_put,findex_eq,forget_ok,forget_nt,forget_nl,forget_defers,List.not_mem_nil,or_false,or_true,List.cons_append,List.nil_append,add_u64,mul_u64,xor_u64,shr32_u64,shr27_u64,shr9_u64,nilCheck_ptr,fstore1,push_get,put_get,List.set_cons_zero,List.set_cons_succ,List.length_cons,List.length_nil,oneCell_int,oneCell_string,oneCell_bool,oneCell_slice,oneCell_pointer,hnt],by simp only [seqR_go,fops_c,fops_nil,fdraw_f,fdraw_a,fdraw_nil',drawR_go,retR_go,skipR_go,exitR_go,after_val,after_skip,after_enter,after_ret,andThen_normal,andThen_ret,andThen_exit,get_put,ok_put,nt_put,defers_put,put_none,Nat.reduceLT,↓reduceIte,Nat.reduceEqDiff,Nat.reduceAdd,nth_zero,nth_succ,drawF_val,drawF_push,stepOp_eq,drawA_normal,view_next,push_next,push_clock,put_next,put_clock,box_go,newCells_go,notTuple_agg,notTuple_int,notTuple_string,notTuple_bool,notTuple_slice,notTuple_pointer,valCells_agg,valCells_int,valCells_string,valCells_bool,valCells_slice,valCells_pointer,ffield_eq,fload1,floadN,cells_push,cells_put,cells?_cells,gd_true,gd_false,gd_skip,fpick_eq,eql_int,neq_int,lss_int,leq_int,gtr_int,geq_int,add_int,sub_int,mul_int,eql_str,neq_str,not_go,flenL_eq,flenS_eq,Nat.add_zero,Nat.zero_add,Nat.add_left_cancel_iff,Nat.add_eq_left,Nat.left_eq_add,List.getElem?_cons_zero,List.getElem?_cons_succ,beq_self_eq_true,Bool.not_true,Bool.not_false,cond_true,cond_false,leaveR_ret,leaveR_normal,leave_tmp,leave_tmp2,leave_tmp3,condR_val,Bool.false_eq_true,blockR_k,blockK_normal,blockK_ret,blockK_exit,loopR_go,nl_put,findex_eq,forget_ok,forget_nt,forget_nl,forget_defers,List.not_mem_nil,or_false,or_true,List.cons_append,List.nil_append,add_u64,mul_u64,xor_u64,shr32_u64,shr27_u64,shr9_u64,nilCheck_ptr,fstore1,push_get,put_get,List.set_cons_zero,List.set_cons_succ,List.length_cons,List.length_nil,oneCell_int,oneCell_string,oneCell_bool,oneCell_slice,oneCell_pointer,hds],hx,hw'⟩
        rw [show D.sames (d :: ds) (d' :: ds') = (D.same d d' && D.sames ds ds') from rfl,e,if_neg (by simp)]
        exact ⟨rfl,by simp only [seqR_go,fops_c,fops_nil,fdraw_f,fdraw_a,fdraw_nil',drawR_go,retR_go,skipR_go,exitR_go,after_val,after_skip,after_enter,after_ret,andThen_normal,andThen_ret,andThen_exit,get_put,ok_put,nt_put,defers_put,put_none,Nat.reduceLT,↓reduceIte,Nat.reduceEqDiff,Nat.reduceAdd,nth_zero,nth_succ,drawF_val,drawF_push,stepOp_eq,drawA_normal,view_next,push_next,push_clock,put_next,put_clock,box_go,newCells_go,notTuple_agg,notTuple_int,notTuple_string,notTuple_bool,notTuple_slice,notTuple_pointer,valCells_agg,valCells_int,valCells_string,valCells_bool,valCells_slice,valCells_pointer,ffield_eq,fload1,floadN,cells_push,cells_put,cells?_cells,gd_true,gd_false,gd_skip,fpick_eq,eql_int,neq_int,lss_int,leq_int,gtr_int,geq_int,add_int,sub_int,mul_int,eql_str,neq_str,not_go,flenL_eq,flenS_eq,Nat.add_zero,Nat.zero_add,Nat.add_left_cancel_iff,Nat.add_eq_left,Nat.left_eq_add,List.getElem?_cons_zero,List.getElem?_cons_succ,beq_self_eq_true,Bool.not_true,Bool.not_false,cond_true,cond_false,leaveR_ret,leaveR_normal,leave_tmp,leave_tmp2,leave_tmp3,condR_val,Bool.false_eq_true,blockR_k,blockK_normal,blockK_ret,blockK_exit,loopR_go,nl_put,findex_eq,forget_ok,forget_nt,forget_nl,forget_defers,List.not_mem_nil,or_false,or_true,List.cons_append,List.nil_append,add_u64,mul_u64,xor_u64,shr32_u64,shr27_u64,shr9_u64,nilCheck_ptr,fstore1,push_get,put_get,List.set_cons_zero,List.set_cons_succ,List.length_cons,List.length_nil,oneCell_int,oneCell_string,oneCell_bool,oneCell_slice,oneCell_pointer,hok,hnt]⟩
      | true =>
        simp only [seqR_go,fops_c,fops_nil,fdraw_f,fdraw_a,fdraw_nil',drawR_go,retR_go,skipR_go,exitR_go,after_val,after_skip,after_enter,after_ret,andThen_normal,andThen_ret,andThen_exit,get_put,ok_put,nt_put,defers_put,put_none,Nat.reduceLT,↓reduceIte,Nat.reduceEqDiff,Nat.reduceAdd,nth_zero,nth_succ,drawF_val,drawF_push,stepOp_eq,drawA_normal,view_next,push_next,push_clock,put_next,put_clock,box_go,newCells_go,notTuple_agg,notTuple_int,notTuple_string,notTuple_bool,notTuple_slice,notTuple_pointer,valCells_agg,valCells_int,valCells_string,valCells_bool,valCells_slice,valCells_pointer,ffield_eq,fload1,floadN,cells_push,cells_put,cells?_cells,gd_true,gd_false,gd_skip,fpick_eq,eql_int,neq_int,lss_int,leq_int,gtr_int,geq_int,add_int,sub_int,mul_int,eql_str,neq_str,not_go,flenL_eq,flenS_eq,Nat.add_zero,Nat.zero_add,Nat.add_left_cancel_iff,Nat.add_eq_left,Nat.left_eq_add,List.getElem?_cons_zero,List.getElem?_cons_succ,beq_self_eq_true,Bool.not_true,Bool.not_false,cond_true,cond_false,leaveR_ret,leaveR_normal,leave_tmp,leave_tmp2,leave_tmp3,condR_val,Bool.false_eq_true,blockR_k,blockK_normal,blockK_ret,blockK_exit,loopR_go,nl_put,findex_eq,forget_ok,forget_nt,forget_nl,forget_defers,List.not_mem_nil,or_false,or_true,List.cons_append,List.nil_append,add_u64,mul_u64,xor_u64,shr32_u64,shr27_u64,shr9_u64,nilCheck_ptr,fstore1,push_get,put_get,List.set_cons_zero,List.set_cons_succ,List.length_cons,List.length_nil,oneCell_int,oneCell_string,oneCell_bool,oneCell_slice,oneCell_pointer,r17_5_go,r17_5U,hok,hnt,hnl,hds,hg0,hg1,hg5,fg,hwr]
        generalize ha' : FAct.put _ (some 5) _ = a'
        have hH : HeadEqC a' (.slice (some ⟨b,off,none⟩) len c) (.slice (some ⟨b',off',none⟩) len c') (k + 1):=by
          rw [← ha']
          constructor <;> simp only [seqR_go,fops_c,fops_nil,fdraw_f,fdraw_a,fdraw_nil',drawR_go,retR_go,skipR_go,exitR_go,after_val,after_skip,after_enter,after_ret,andThen_normal,andThen_ret,andThen_exit,get_put,ok_put,nt_put,defers_put,put_none,Nat.reduceLT,↓reduceIte,Nat.reduceEqDiff,Nat.reduceAdd,nth_zero,nth_succ,drawF_val,drawF_push,stepOp_eq,drawA_normal,view_next,push_next,push_clock,put_next,put_clock,box_go,newCells_go,notTuple_agg,notTuple_int,notTuple_string,notTuple_bool,notTuple_slice,notTuple_pointer,valCells_agg,valCells_int,valCells_string,valCells_bool,valCells_slice,valCells_pointer,ffield_eq,fload1,floadN,cells_push,cells_put,cells?_cells,gd_true,gd_false,gd_skip,fpick_eq,eql_int,neq_int,lss_int,leq_int,gtr_int,geq_int,add_int,sub_int,mul_int,eql_str,neq_str,not_go,flenL_eq,flenS_eq,Nat.add_zero,Nat.zero_add,Nat.add_left_cancel_iff,Nat.add_eq_left,Nat.left_eq_add,List.getElem?_cons_zero,List.getElem?_cons_succ,beq_self_eq_true,Bool.not_true,Bool.not_false,cond_true,cond_false,leaveR_ret,leaveR_normal,leave_tmp,leave_tmp2,leave_tmp3,condR_val,Bool.false_eq_true,blockR_k,blockK_normal,blockK_ret,blockK_exit,loopR_go,nl_put,findex_eq,forget_ok,forget_nt,forget_nl,forget_defers,List.not_mem_nil,or_false,or_true,List.cons_append,List.nil_append,add_u64,mul_u64,xor_u64,shr32_u64,shr27_u64,shr9_u64,nilCheck_ptr,fstore1,push_get,put_get,List.set_cons_zero,List.set_cons_succ,List.length_cons,List.length_nil,oneCell_int,oneCell_string,oneCell_bool,oneCell_slice,oneCell_pointer,hok,hnt,hnl,hds,hg0,hg1,hg5,fg,true_or]
        obtain ⟨e1,a1,σ1,g1,g2,g3,g4,g5,g6,g7⟩:=ih ds' (k + 1) fuel a' σ' (by simp at hk; omega) (by simpa using hl) (by simp at hf; omega) hN'.2 hM'.2 hw' (h1r.ext hw hx) (h2r.ext hw hx) hH
        refine ⟨e1,a1,σ1,g1,?_,g3,g4,g5,hx.trans g6,g7⟩
        rw [show D.sames (d :: ds) (d' :: ds') = (D.same d d' && D.sames ds ds') from rfl,e]
        exact g2
theorem eqDataC_step (n N : Nat) (hE : ∀ d d' v v' σ,D.deep d ≤ N → d.count < 1000000000 → Wf σ → Laid σ v d → Laid σ v' d' → Gives ((env n).call 20 [v,v'] none σ) σ fun w _ => w = .bool (D.same d d'))
    (p p' : Option Addr) (c c' : Nat) (ds ds' : List D) (σ : FState) (hN : D.deeps ds ≤ N) (hM : D.counts ds < 1000000000) (hw : Wf σ) (h1 : LaidE σ p 0 ds) (h2 : LaidE σ p' 0 ds') :
    Gives ((env (n + 1)).call 17 [.slice p ds.length c,.slice p' ds'.length c'] none σ) σ fun w _ => w = .bool (D.sames ds ds'):=by
  rw [env_call _ 17 _ _ rfl,enter17 _ _ _ _ (by simp)]
  generalize ha : (⟨padTo undef 6 _,fun _ => undef,6,27,[]⟩ : FAct) = a
  have hok : a.ok:=by rw [← ha]; exact ok_start _ _ _ _
  have hnt : a.nt = 27:=by rw [← ha]
  have hnl : a.nl = 6:=by rw [← ha]
  have hds : a.defers = []:=by rw [← ha]
  have hg0 : a.get 0 = .slice p ds.length c:=by rw [← ha,get_start]; rfl
  have hg1 : a.get 1 = .slice p' ds'.length c':=by rw [← ha,get_start]; rfl
  clear ha
  unfold run17
  cases e1 : ((Int.ofNat ds.length) == (Int.ofNat ds'.length)) with
  | false =>
    simp only [seqR_go,fops_c,fops_nil,fdraw_f,fdraw_a,fdraw_nil',drawR_go,retR_go,skipR_go,exitR_go,after_val,after_skip,after_enter,after_ret,andThen_normal,andThen_ret,andThen_exit,get_put,ok_put,nt_put,defers_put,put_none,Nat.reduceLT,↓reduceIte,Nat.reduceEqDiff,Nat.reduceAdd,nth_zero,nth_succ,drawF_val,drawF_push,stepOp_eq,drawA_normal,view_next,push_next,push_clock,put_next,put_clock,box_go,newCells_go,notTuple_agg,notTuple_int,notTuple_string,notTuple_bool,notTuple_slice,notTuple_pointer,valCells_agg,valCells_int,valCells_string,valCells_bool,valCells_slice,valCells_pointer,ffield_eq,fload1,floadN,cells_push,cells_put,cells?_cells,gd_true,gd_false,gd_skip,fpick_eq,eql_int,neq_int,lss_int,leq_int,gtr_int,geq_int,add_int,sub_int,mul_int,eql_str,neq_str,not_go,flenL_eq,flenS_eq,Nat.add_zero,Nat.zero_add,Nat.add_left_cancel_iff,Nat.add_eq_left,Nat.left_eq_add,List.getElem?_cons_zero,List.getElem?_cons_succ,beq_self_eq_true,Bool.not_true,Bool.not_false,cond_true,cond_false,leaveR_ret,leaveR_normal,leave_tmp,leave_tmp2,leave_tmp3,condR_val,Bool.false_eq_true,blockR_k,blockK_normal,blockK_ret,blockK_exit,loopR_go,nl_put,findex_eq,forget_ok,forget_nt,forget_nl,forget_defers,List.not_mem_nil,or_false,or_true,List.cons_append,List.nil_append,add_u64,mul_u64,xor_u64,shr32_u64,shr27_u64,shr9_u64,nilCheck_ptr,fstore1,push_get,put_get,List.set_cons_zero,List.set_cons_succ,List.length_cons,List.length_nil,oneCell_int,oneCell_string,oneCell_bool,oneCell_slice,oneCell_pointer,r17_0_go,r17_0U,r17_1_go,r17_1U,r17_2_go,r17_2U,hok,hnt,hnl,hds,hg0,hg1,e1]
    refine ⟨_,_,rfl,Ext.refl _,hw,?_⟩
    have hne : ds.length ≠ ds'.length:=fun h => by rw [h] at e1; simp at e1
    cases e : D.sames ds ds' with
    | false => simp only [seqR_go,fops_c,fops_nil,fdraw_f,fdraw_a,fdraw_nil',drawR_go,retR_go,skipR_go,exitR_go,after_val,after_skip,after_enter,after_ret,andThen_normal,andThen_ret,andThen_exit,get_put,ok_put,nt_put,defers_put,put_none,Nat.reduceLT,↓reduceIte,Nat.reduceEqDiff,Nat.reduceAdd,nth_zero,nth_succ,drawF_val,drawF_push,stepOp_eq,drawA_normal,view_next,push_next,push_clock,put_next,put_clock,box_go,newCells_go,notTuple_agg,notTuple_int,notTuple_string,notTuple_bool,notTuple_slice,notTuple_pointer,valCells_agg,valCells_int,valCells_string,valCells_bool,valCells_slice,valCells_pointer,ffield_eq,fload1,floadN,cells_push,cells_put,cells?_cells,gd_true,gd_false,gd_skip,fpick_eq,eql_int,neq_int,lss_int,leq_int,gtr_int,geq_int,add_int,sub_int,mul_int,eql_str,neq_str,not_go,flenL_eq,flenS_eq,Nat.add_zero,Nat.zero_add,Nat.add_left_cancel_iff,Nat.add_eq_left,Nat.left_eq_add,List.getElem?_cons_zero,List.getElem?_cons_succ,beq_self_eq_true,Bool.not_true,Bool.not_false,cond_true,cond_false,leaveR_ret,leaveR_normal,leave_tmp,leave_tmp2,leave_tmp3,condR_val,Bool.false_eq_true,blockR_k,blockK_normal,blockK_ret,blockK_exit,loopR_go,nl_put,findex_eq,forget_ok,forget_nt,forget_nl,forget_defers,List.not_mem_nil,or_false,or_true,List.cons_append,List.nil_append,add_u64,mul_u64,xor_u64,shr32_u64,shr27_u64,shr9_u64,nilCheck_ptr,fstore1,push_get,put_get,List.set_cons_zero,List.set_cons_succ,List.length_cons,List.length_nil,oneCell_int,oneCell_string,oneCell_bool,oneCell_slice,oneCell_pointer,hok,hnt]
    | true => exact absurd (sames_length e) hne
  | true =>
    have hl : ds.length = ds'.length:=Int.ofNat.inj (eq_of_beq e1)
    simp only [seqR_go,fops_c,fops_nil,fdraw_f,fdraw_a,fdraw_nil',drawR_go,retR_go,skipR_go,exitR_go,after_val,after_skip,after_enter,after_ret,andThen_normal,andThen_ret,andThen_exit,get_put,ok_put,nt_put,defers_put,put_none,Nat.reduceLT,↓reduceIte,Nat.reduceEqDiff,Nat.reduceAdd,nth_zero,nth_succ,drawF_val,drawF_push,stepOp_eq,drawA_normal,view_next,push_next,push_clock,put_next,put_clock,box_go,newCells_go,notTuple_agg,notTuple_int,notTuple_string,notTuple_bool,notTuple_slice,notTuple_pointer,valCells_agg,valCells_int,valCells_string,valCells_bool,valCells_slice,valCells_pointer,ffield_eq,fload1,floadN,cells_push,cells_put,cells?_cells,gd_true,gd_false,gd_skip,fpick_eq,eql_int,neq_int,lss_int,leq_int,gtr_int,geq_int,add_int,sub_int,mul_int,eql_str,neq_str,not_go,flenL_eq,flenS_eq,Nat.add_zero,Nat.zero_add,Nat.add_left_cancel_iff,Nat.add_eq_left,Nat.left_eq_add,List.getElem?_cons_zero,List.getElem?_cons_succ,beq_self_eq_true,Bool.not_true,Bool.not_false,cond_true,cond_false,leaveR_ret,leaveR_normal,leave_tmp,leave_tmp2,leave_tmp3,condR_val,Bool.false_eq_true,blockR_k,blockK_normal,blockK_ret,blockK_exit,loopR_go,nl_put,findex_eq,forget_ok,forget_nt,forget_nl,forget_defers,List.not_mem_nil,or_false,or_true,List.cons_append,List.nil_append,add_u64,mul_u64,xor_u64,shr32_u64,shr27_u64,shr9_u64,nilCheck_ptr,fstore1,push_get,put_get,List.set_cons_zero,List.set_cons_succ,List.length_cons,List.length_nil,oneCell_int,oneCell_string,oneCell_bool,oneCell_slice,oneCell_pointer,r17_0_go,r17_0U,r17_1_go,r17_1U,r17_2_go,r17_2U,r17_3_go,r17_3U,hok,hnt,hnl,hds,hg0,hg1,e1,keepC17]
    generalize ha' : FAct.put _ (some 5) _ = a'
    have hH : HeadEqC a' (.slice p ds.length c) (.slice p' ds.length c') 0:=by
      rw [← ha']
      constructor <;> simp only [seqR_go,fops_c,fops_nil,fdraw_f,fdraw_a,fdraw_nil',drawR_go,retR_go,skipR_go,exitR_go,after_val,after_skip,after_enter,after_ret,andThen_normal,andThen_ret,andThen_exit,get_put,ok_put,nt_put,defers_put,put_none,Nat.reduceLT,↓reduceIte,Nat.reduceEqDiff,Nat.reduceAdd,nth_zero,nth_succ,drawF_val,drawF_push,stepOp_eq,drawA_normal,view_next,push_next,push_clock,put_next,put_clock,box_go,newCells_go,notTuple_agg,notTuple_int,notTuple_string,notTuple_bool,notTuple_slice,notTuple_pointer,valCells_agg,valCells_int,valCells_string,valCells_bool,valCells_slice,valCells_pointer,ffield_eq,fload1,floadN,cells_push,cells_put,cells?_cells,gd_true,gd_false,gd_skip,fpick_eq,eql_int,neq_int,lss_int,leq_int,gtr_int,geq_int,add_int,sub_int,mul_int,eql_str,neq_str,not_go,flenL_eq,flenS_eq,Nat.add_zero,Nat.zero_add,Nat.add_left_cancel_iff,Nat.add_eq_left,Nat.left_eq_add,List.getElem?_cons_zero,List.getElem?_cons_succ,beq_self_eq_true,Bool.not_true,Bool.not_false,cond_true,cond_false,leaveR_ret,leaveR_normal,leave_tmp,leave_tmp2,leave_tmp3,condR_val,Bool.false_eq_true,blockR_k,blockK_normal,blockK_ret,blockK_exit,loopR_go,nl_put,findex_eq,forget_ok,forget_nt,forget_nl,forget_defers,List.not_mem_nil,or_false,or_true,List.cons_append,List.nil_append,add_u64,mul_u64,xor_u64,shr32_u64,shr27_u64,shr9_u64,nilCheck_ptr,fstore1,push_get,put_get,List.set_cons_zero,List.set_cons_succ,List.length_cons,List.length_nil,oneCell_int,oneCell_string,oneCell_bool,oneCell_slice,oneCell_pointer,hok,hnt,hnl,hds,hg0,hg1,hl] <;> rfl
    generalize hb : bigFuel = fuel
    have hlen : ds.length < 1000000000000:=by have:=length_counts ds; omega
    have hf : ds.length < fuel:=by rw [← hb]; exact hlen
    obtain ⟨e1,a1,σ1,g1,g2,g3,g4,g5,g6,g7⟩:=eqDataC_loop n N hE p p' ds.length c c' hlen ds ds' 0 fuel a' σ (by simp) hl hf hN hM hw h1 h2 hH
    rw [g1]
    cases e : D.sames ds ds' with
    | false =>
      rw [e,if_neg (by simp)] at g2
      obtain ⟨rfl,g8⟩:=g2
      simp only [seqR_go,fops_c,fops_nil,fdraw_f,fdraw_a,fdraw_nil',drawR_go,retR_go,skipR_go,exitR_go,after_val,after_skip,after_enter,after_ret,andThen_normal,andThen_ret,andThen_exit,get_put,ok_put,nt_put,defers_put,put_none,Nat.reduceLT,↓reduceIte,Nat.reduceEqDiff,Nat.reduceAdd,nth_zero,nth_succ,drawF_val,drawF_push,stepOp_eq,drawA_normal,view_next,push_next,push_clock,put_next,put_clock,box_go,newCells_go,notTuple_agg,notTuple_int,notTuple_string,notTuple_bool,notTuple_slice,notTuple_pointer,valCells_agg,valCells_int,valCells_string,valCells_bool,valCells_slice,valCells_pointer,ffield_eq,fload1,floadN,cells_push,cells_put,cells?_cells,gd_true,gd_false,gd_skip,fpick_eq,eql_int,neq_int,lss_int,leq_int,gtr_int,geq_int,add_int,sub_int,mul_int,eql_str,neq_str,not_go,flenL_eq,flenS_eq,Nat.add_zero,Nat.zero_add,Nat.add_left_cancel_iff,Nat.add_eq_left,Nat.left_eq_add,List.getElem?_cons_zero,List.getElem?_cons_succ,beq_self_eq_true,Bool.not_true,Bool.not_false,cond_true,cond_false,leaveR_ret,leaveR_normal,leave_tmp,leave_tmp2,leave_tmp3,condR_val,Bool.false_eq_true,blockR_k,blockK_normal,blockK_ret,blockK_exit,loopR_go,nl_put,findex_eq,forget_ok,forget_nt,forget_nl,forget_defers,List.not_mem_nil,or_false,or_true,List.cons_append,List.nil_append,add_u64,mul_u64,xor_u64,shr32_u64,shr27_u64,shr9_u64,nilCheck_ptr,fstore1,push_get,put_get,List.set_cons_zero,List.set_cons_succ,List.length_cons,List.length_nil,oneCell_int,oneCell_string,oneCell_bool,oneCell_slice,oneCell_pointer,g3,g4,g5,g8]
      exact ⟨_,_,rfl,g6,g7,rfl⟩
    | true =>
      rw [e,if_pos rfl] at g2
      subst g2
      simp only [seqR_go,fops_c,fops_nil,fdraw_f,fdraw_a,fdraw_nil',drawR_go,retR_go,skipR_go,exitR_go,after_val,after_skip,after_enter,after_ret,andThen_normal,andThen_ret,andThen_exit,get_put,ok_put,nt_put,defers_put,put_none,Nat.reduceLT,↓reduceIte,Nat.reduceEqDiff,Nat.reduceAdd,nth_zero,nth_succ,drawF_val,drawF_push,stepOp_eq,drawA_normal,view_next,push_next,push_clock,put_next,put_clock,box_go,newCells_go,notTuple_agg,notTuple_int,notTuple_string,notTuple_bool,notTuple_slice,notTuple_pointer,valCells_agg,valCells_int,valCells_string,valCells_bool,valCells_slice,valCells_pointer,ffield_eq,fload1,floadN,cells_push,cells_put,cells?_cells,gd_true,gd_false,gd_skip,fpick_eq,eql_int,neq_int,lss_int,leq_int,gtr_int,geq_int,add_int,sub_int,mul_int,eql_str,neq_str,not_go,flenL_eq,flenS_eq,Nat.add_zero,Nat.zero_add,Nat.add_left_cancel_iff,Nat.add_eq_left,Nat.left_eq_add,List.getElem?_cons_zero,List.getElem?_cons_succ,beq_self_eq_true,Bool.not_true,Bool.not_false,cond_true,cond_false,leaveR_ret,leaveR_normal,leave_tmp,leave_tmp2,leave_tmp3,condR_val,Bool.false_eq_true,blockR_k,blockK_normal,blockK_ret,blockK_exit,loopR_go,nl_put,findex_eq,forget_ok,forget_nt,forget_nl,forget_defers,List.not_mem_nil,or_false,or_true,List.cons_append,List.nil_append,add_u64,mul_u64,xor_u64,shr32_u64,shr27_u64,shr9_u64,nilCheck_ptr,fstore1,push_get,put_get,List.set_cons_zero,List.set_cons_succ,List.length_cons,List.length_nil,oneCell_int,oneCell_string,oneCell_bool,oneCell_slice,oneCell_pointer,r17_8_go,r17_8U,g3,g4,g5]
      exact ⟨_,_,rfl,g6,g7,rfl⟩
theorem eqDatum_go (n : Nat) : ∀ (N : Nat) (d d' : D) (v v' : Value) (σ : FState),D.deep d ≤ N → d.count < 1000000000 → Wf σ → Laid σ v d → Laid σ v' d' → Gives ((env (n + 2 * N)).call 20 [v,v'] none σ) σ fun w _ => w = .bool (D.same d d')
  | 0,d,_,_,_,_,h,_,_,_,_ => by cases d; rw [D.deep] at h; omega
  | N + 1,.mk k z t ds,.mk k' z' t' ds',v,v',σ,h,hc,hw,⟨p,c,hv,hE⟩,⟨p',c',hv',hE'⟩ => by
    subst hv hv'
    rw [D.deep] at h
    rw [D.count] at hc
    have:=eqDatum_step (n + 2 * N + 1) k z k' z' t t' (.slice p ds.length c) (.slice p' ds'.length c') σ (D.sames ds ds') hw fun σ' hx hw' =>
      eqDataC_step (n + 2 * N) N (fun d d' v v' σ a b c e f => eqDatum_go n N d d' v v' σ a b c e f) p p' c c' ds ds' σ' (by omega) (by omega) hw' (hE.ext hw hx) (hE'.ext hw hx)
    rw [show D.same (.mk k z t ds) (.mk k' z' t' ds') = (decide (k = k') && decide (z = z') && (t.toList == t'.toList) && D.sames ds ds') from rfl,← beq_int,← beq_int]
    exact this
end Go.Proofs.YtodkeaoikjjneaaGreatDoor
/- A slice that grows from nothing. Nothing of a program. -/
namespace Go.Eng
open Go
def Vecs (T : TypeId) (Q : Nat → Prop) (σ : FState) (s : Value) (vs : List Value) : Prop:=(s = .slice none 0 0 ∧ vs = []) ∨ ∃ b,Ful T σ b s vs ∧ Q b
section
variable {T : TypeId} {Q Q' : Nat → Prop} {σ σ' : FState} {s : Value} {vs : List Value}
theorem Vecs.one (h : Vecs T Q σ s vs) : oneCell s = true ∧ notTuple s = true ∧ valCells s = [s]:=by
  rcases h with ⟨rfl,_⟩ | ⟨b,h,_⟩
  · exact ⟨oneCell_slice _ _ _,notTuple_slice _ _ _,rfl⟩
  · exact h.one
theorem Vecs.keep (h : Vecs T Q σ s vs) (hk : ∀ b,Q b → b < σ.next → σ'.heap.get b = σ.heap.get b ∧ Q' b) (hw : Wf σ) : Vecs T Q' σ' s vs:=by
  rcases h with h | ⟨b,h,hq⟩
  · exact .inl h
  · exact .inr ⟨b,h.keep (hk b hq (h.lt hw)).1,(hk b hq (h.lt hw)).2⟩
theorem Vecs.append (h : Vecs T Q σ s vs) (hw : Wf σ) (bx cx : Nat) (v : Value) (bytes : Nat) (hx : σ.cells bx = some [v]) (ho : oneCell v = true) (hby : bytes < 1000) (hlen : vs.length + 1 < 100000) :
    ∃ b' s' τ,fappend T 1 bytes s (.slice (some ⟨bx,0,none⟩) 1 cx) σ = .val s' τ ∧ Ful T τ b' s' (vs ++ [v]) ∧ (Q b' ∨ b' = σ.next) ∧ Chg Q σ τ ∧ Wf τ:=by
  rcases h with ⟨rfl,rfl⟩ | ⟨b,h,hq⟩
  · refine ⟨σ.next,.slice (some ⟨σ.next,0,none⟩) 1 1,σ.push (.cells [v] T) (some 1),?_,⟨some 1,σ.clock,rfl,by rw [push_get,if_pos rfl]; rfl,.inr rfl⟩,.inr rfl,(Chg.refl _ _).push _ _,hw.push _ _⟩
    have hn:=fnew_some bx 1 cx [v] [] hx rfl
    unfold fappend
    simp only [hn]
    rw [show [v].all oneCell = true by simp [ho]]
    show fappend2 T 1 bytes 0 0 none 1 [v] σ = _
    unfold fappend2
    rw [show Nat.ble (0 + 1) 0 = false from rfl,show Nat.ble ((0 + 1) * (bytes + 1)) 1000000000 = true by rw [Nat.ble_eq]; omega]
    rfl
  · obtain ⟨b',s',τ,e,F,hb',hC,hw'⟩:=h.append hw (.slice (some ⟨bx,0,none⟩) 1 cx) [v] bytes (fnew_some bx 1 cx [v] [] hx rfl) (by simp [ho]) hby (by simpa using hlen)
    refine ⟨b',s',τ,e,F,?_,hC.weaken fun x _ hx => hx ▸ hq,hw'⟩
    rcases hb' with rfl | rfl
    · exact .inl hq
    · exact .inr rfl
end
end Go.Eng
/- slices.Clone at []int. -/
namespace Go.Proofs.YtodkeaoikjjneaaGreatDoor
open Go Go.Eng
attribute [local congr] andThen_congr fops_congr fdraw_congr afterOp_congr drawF_congr
attribute [-go_sem] List.range_succ
theorem PathAt.pathV {σ : FState} {v : Value} {path : List Nat} (h : PathAt σ v path) : PathV (fun _ => True) σ v path:=by
  obtain ⟨p,c,rfl,⟨rfl,rfl,rfl⟩ | ⟨b,more,rfl,hc⟩⟩:=h
  · exact .inl ⟨rfl,rfl⟩
  · exact .inr ⟨b,c,more,rfl,trivial,hc⟩
theorem eql_nilS (x : Nat) (l c : Nat) (σ : FState) : i_eql Tryz.prog 22 (.tmp x) (.const (.slice none 0 0)) (.slice none l c) (.slice none 0 0) σ = .val (.bool true) σ:=by kernel_rfl
theorem eql_someS (x : Nat) (a : Addr) (l c : Nat) (σ : FState) : i_eql Tryz.prog 22 (.tmp x) (.const (.slice none 0 0)) (.slice (some a) l c) (.slice none 0 0) σ = .val (.bool false) σ:=by kernel_rfl
theorem clone_go (n : Nat) {Q : Nat → Prop} {v : Value} {path : List Nat} (σ : FState) (hw : Wf σ) (h : PathV Q σ v path) (hl : path.length < 99999) :
    Gives ((env (n + 1)).call 112 [v] none σ) σ fun w σ' => PathV (fun b => σ.next ≤ b) σ' w path:=by
  rw [env_call _ 112 _ _ rfl,enter112 _ _ _ _ (by simp),Sl_start]
  unfold run112
  have h0:=h
  rcases h with ⟨rfl,rfl⟩ | ⟨b,cx,rest,rfl,hQ,hc⟩
  · simp -implicitDefEqProofs only [go_sem,↓reduceIte,Nat.reduceLT,Nat.reduceEqDiff,Nat.reduceAdd,Nat.reduceMul,Nat.reduceLeDiff,Nat.reduceSub,r112_0_go,r112_0U,r112_1_go,r112_1U,r112_2_go,r112_2U,Option.getD_some,eql_nilS]
    exact ⟨_,_,rfl,Ext.refl _,hw,.inl ⟨rfl,rfl⟩⟩
  · have F1 : Ful TI (σ.push (.cells [] TI) none) σ.next (.slice (some ⟨σ.next,0,none⟩) 0 0) []:=Ful.push TI σ []
    have hb:=hw.cells hc
    have hw1:=hw.push (.cells [] TI) none
    have a1 : PathV Q (σ.push (.cells [] TI) none) (.slice (some ⟨b,0,none⟩) path.length cx) path:=.inr ⟨b,cx,rest,rfl,hQ,by rw [cells_push,if_neg (by omega)]; exact hc⟩
    obtain ⟨b2,s2,σ2,e2,F2,hb2,ch2,hw2⟩:=F1.append hw1 (.slice (some ⟨b,0,none⟩) path.length cx) (intsOf path) 8 a1.fnew (intsOf_all _) (by omega) (by simp [intsOf_length]; omega)
    simp -implicitDefEqProofs only [go_sem,↓reduceIte,Nat.reduceLT,Nat.reduceEqDiff,Nat.reduceAdd,Nat.reduceMul,Nat.reduceLeDiff,Nat.reduceSub,r112_0_go,r112_0U,r112_1_go,r112_1U,r112_3_go,r112_3U,Option.getD_some,eql_someS,e2]
    have n2:=ch2.next
    have k2:=ch2.clock
    rw [push_next] at n2
    rw [push_clock] at k2
    rw [List.nil_append] at F2
    obtain ⟨g1,g2⟩:=F2.cells
    rw [intsOf_length] at g1
    refine ⟨_,_,rfl,⟨by omega,by omega,fun x hx => ?_⟩,hw2,.inr ⟨b2,_,[],g1,?_,by rw [List.append_nil]; exact g2⟩⟩
    · rw [ch2.get x (by rw [push_next]; omega) (by omega),push_get,if_neg (by omega)]
    · rcases hb2 with rfl | rfl
      · exact Nat.le_refl _
      · rw [push_next]; omega
end Go.Proofs.YtodkeaoikjjneaaGreatDoor
/- package datum's find: the paths of all pieces that equal a datum. -/
namespace Go.Proofs.YtodkeaoikjjneaaGreatDoor
open Go Go.Eng
attribute [local congr] andThen_congr fops_congr fdraw_congr afterOp_congr drawF_congr
attribute [-go_sem] List.range_succ
def foundIn (x : D) (l : List (List Nat × D)) : List (List Nat):=(l.filter fun y => D.same y.2 x).map (·.1)
def Paths' (B : Nat → Prop) (l : Nat) (σ : FState) (fv : Value) (ps : List (List Nat)) : Prop:=∃ us bo,Vecs 22 (fun b => b = bo ∧ B b ∧ l < b) σ fv us ∧ PathsL (fun b => B b ∧ l < b ∧ b ≠ bo) σ us ps
def FindI (l r cm bx : Nat) (R X : Nat → Prop) (xv : List Value) (x : D) (σ0 : FState) (f g : Nat → Value) (done : List (List Nat × D)) (B : Nat → Prop) (σ : FState) : Prop :=
  (∀ b,X b ∨ b = l ∨ b = r ∨ b = cm ∨ b = bx → B b) ∧ (∀ b,B b → b < σ.next ∧ (X b ∨ b = l ∨ b = r ∨ b = cm ∨ b = bx ∨ l < b)) ∧ LoopAt 78 [10,11] c78_0a c78_0b 8 21 f g l r .ready σ ∧ (∃ ver,σ.heap.get r = some ⟨.defd true,false,none,ver⟩) ∧
    (∃ fv ver,σ.heap.get cm = some ⟨.cells [fv] 44,false,none,ver⟩ ∧ Paths' B l σ fv (foundIn x done)) ∧ σ.cells bx = some xv ∧ LaidR (fun b => R b ∨ X b) σ (.agg xv.toArray) x ∧ ∀ b,X b → σ.heap.get b = σ0.heap.get b
end Go.Proofs.YtodkeaoikjjneaaGreatDoor
/- package datum's find, whole. -/
namespace Go.Proofs.YtodkeaoikjjneaaGreatDoor
open Go Go.Eng
attribute [local congr] andThen_congr fops_congr fdraw_congr afterOp_congr drawF_congr
attribute [-go_sem] List.range_succ
end Go.Proofs.YtodkeaoikjjneaaGreatDoor
end
