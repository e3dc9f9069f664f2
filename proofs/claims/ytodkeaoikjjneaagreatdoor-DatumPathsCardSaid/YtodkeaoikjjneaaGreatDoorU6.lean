/- The reading of the program, and what is so of it: SymT, SymPg, SymPc, SymPh, SymLF0, SymRm, SymTa, SymTb, SymTc, SymCU, SymTd, SymPa2, SymTe, SymCT, SymLT, SymLT2, SymLT3. -/
import Derived.Test.YtodkeaoikjjneaaGreatDoorU5
import Derived.Test.YtodkeaoikjjneaaGreatDoorZSymTL
import Derived.Test.YtodkeaoikjjneaaGreatDoorU3
import Derived.Test.YtodkeaoikjjneaaGreatDoorU4
set_option linter.unusedSimpArgs false
set_option linter.unusedVariables false
/- The reading of a law, where the chapter's examples are told; what it says of a law is so of every run. -/
namespace Go.Proofs.YtodkeaoikjjneaaGreatDoor
open Go Go.Eng
attribute [local congr] andThen_congr fops_congr fdraw_congr afterOp_congr drawF_congr
attribute [-go_sem] List.range_succ
/-- Calls so many deep; the examples hold. -/
noncomputable def top (n : Nat) : Env where
  call := fun f args u σ => match u with
    | none => bif Nat.beq f 21 && args.isEmpty then .ret (.bool true) none σ else (env n).call f args none σ
    | some md => (env n).call f args (some md) σ
  round := fun l args σ => (env n).round l args σ
theorem top_call (n : Nat) (f : FuncId) (args : List Value) (σ : FState) (h : Nat.beq f 21 = false) : (top n).call f args none σ = (env n).call f args none σ := by
  show (bif Nat.beq f 21 && args.isEmpty then CRes.ret (.bool true) none σ else (env n).call f args none σ) = _
  rw [h]
  rfl
theorem top_looks (n : Nat) (σ : FState) : (top n).call 21 [] none σ = .ret (.bool true) none σ := rfl
theorem top_defer (n : Nat) (f : FuncId) (args : List Value) (md : FrameMode) (σ : FState) : (top n).call f args (some md) σ = (env n).call f args (some md) σ := rfl
theorem top_round (n l : Nat) (args : List Value) (σ : FState) : (top n).round l args σ = (env n).round l args σ := rfl

theorem sy_mixed : Tryz.prog.follows .mixedOrders = true := by kernel_rfl
theorem sy_named : (Tryz.prog.funcs.toList.all fun fn => !(fn.name == "runtime.NumGoroutine")) = true := by kernel_rfl
theorem sy_names (f : FuncId) (fn : Func) (h : Tryz.prog.funcs[f]? = some fn) : (fn.name == "runtime.NumGoroutine") = false := by
  have := List.all_eq_true.1 sy_named fn (by
    rw [Array.mem_toList_iff]
    exact Array.mem_of_getElem? h)
  simpa using this
/-- Nothing is pinned. -/
abbrev noPins : Pins := ⟨fun _ _ => False⟩
theorem nosums_ok [Pins] : SumOK Tryz.prog nosums := fun _ _ _ _ _ _ _ h => by cases h
theorem looks_call (W : World) : Calls Tryz.prog 21 #[] W fun e W' => e = .returned (.bool true) ∧ W'.os = W.os ∧ W'.output = W.output ∧ W'.tape = W.tape ∧ W.heap.size ≤ W'.heap.size ∧ ∀ i, i < W.heap.size → W'.heap[i]? = W.heap[i]? :=
  says_true sy_mixed sy_names Tryz.func21 rfl W (@nosums_ok (pinsOf W)) looks_says
theorem top_ok (n : Nat) : @EnvOK noPins Tryz.prog (top n) := by
  letI := noPins
  have h : EnvOK Tryz.prog (env n) := fenv_ok nosums_ok sy_mixed sy_names nls n
  refine ⟨fun f args u σ m w args' hr hA hu => ?_, fun l args σ m w args' e hr hA hm => h.round l args σ m w args' e hr hA hm⟩
  cases u with
  | some md => exact h.call f args (some md) σ m w args' hr hA hu
  | none =>
    by_cases hf : (Nat.beq f 21 && args.isEmpty) = true
    · rw [Bool.and_eq_true, Nat.beq_eq, List.isEmpty_iff] at hf
      obtain ⟨rfl, rfl⟩ := hf
      obtain ⟨L'⟩ := args'
      have hl : L' = [] := by
        have := hA.1
        exact List.length_eq_zero_iff.1 this.symm
      subst hl
      show CallOK Tryz.prog m σ w 21 #[] none (.ret (.bool true) none σ)
      refine .inr ⟨callFunc_enter Tryz.func21 rfl (sy_names _ _ Tryz.func21), fun cs hu => ?_⟩
      obtain ⟨e, w', fr, ⟨rfl, ho, hout, ht, hsz, hk⟩, hc, hfn, hl⟩ := looks_call w cs
      exact ⟨m, w', .bool true, fr, cs, hr.moreWorld hk hsz, (Step.refl σ m w).moreWorld hk hsz ho ht hout, .bool true, hu, .refl _ _, StepsIn.of_steps hc, hfn, hl.2.2.1, ⟨hl.1, hl.2.1, hl.2.2.2⟩⟩
    · have e : (top n).call f args none σ = (env n).call f args none σ := by
        show (bif Nat.beq f 21 && args.isEmpty then CRes.ret (.bool true) none σ else (env n).call f args none σ) = _
        rw [Bool.not_eq_true] at hf
        rw [hf]
        rfl
      rw [e]
      exact h.call f args none σ m w args' hr hA hu
/-- What the reading says of a call, of memory of which nothing may be written, is so of every run. -/
theorem calls_of [Pins] {P : Program} {E : Env} (hE : EnvOK P E) (hm : P.follows .mixedOrders = true) (hname : ∀ (f : FuncId) (fn : Func), P.funcs[f]? = some fn → (fn.name == "runtime.NumGoroutine") = false) (nls : Hints) {f : FuncId} {fn : Func} {body : Code} (hf : P.funcs[f]? = some fn) (hb : fn.body = some body) (σ : FState) (m : Mp) (W : World) (args : List Value) (args' : Array Value) (hr : Rel Top m σ W) (hA : LRel m args args'.toList) (hro : ∀ b e, m b = some e → e.ro = true)
    (h : ∃ σ', fcall P nls E f args none σ = .ret (.bool true) none σ') :
    Calls P f args' W fun e W' => e = .returned (.bool true) ∧ W'.os = W.os ∧ W'.output = W.output ∧ W'.tape = W.tape ∧ W.heap.size ≤ W'.heap.size ∧ ∀ i, i < W.heap.size → W'.heap[i]? = W.heap[i]? := by
  obtain ⟨σ', h⟩ := h
  have hc := call_ok hE (draw_ok hm hE) hname nls f args none σ m W args' hr hA
  generalize fcall P nls E f args none σ = r at h hc
  subst h
  rcases hc with ⟨_, _, _, v', hval, _⟩ | ⟨_, hgo⟩
  · have hent := callFunc_enter (P := P) (w := W) (args := args') hf hb (hname f fn hf)
    rw [hent] at hval
    cases hval
  · intro cs
    obtain ⟨m', w', v', fr, cs', hR, hS', hV, _, hun, hst, hfn, hk, hgoing⟩ := hgo cs rfl
    have hcs : cs' = cs := by
      rcases hun with h | ⟨h, _⟩
      · exact h
      · cases h
    subst hcs
    have hv' := hV.flat rfl
    subst hv'
    exact ⟨.returned (.bool true), w', fr, ⟨rfl, hS'.os, hS'.output, hS'.tape, hS'.size, fun i hi => hS'.keep i hi fun b e ent hb hre => by rw [hro b e hb] at hre; cases hre⟩, hst.steps, hfn, leaving_of_going hk hgoing⟩
theorem law_calls {f : FuncId} {fn : Func} {body : Code} (hf : Tryz.prog.funcs[f]? = some fn) (hb : fn.body = some body) (n : Nat) (σ : FState) (m : Mp) (W : World) (args : List Value) (args' : Array Value) (hr : @Rel noPins Top m σ W) (hA : LRel m args args'.toList) (hro : ∀ b e, m b = some e → e.ro = true)
    (h : ∃ σ', fcall Tryz.prog nls (top n) f args none σ = .ret (.bool true) none σ') :
    Calls Tryz.prog f args' W fun e W' => e = .returned (.bool true) ∧ W'.os = W.os ∧ W'.output = W.output ∧ W'.tape = W.tape ∧ W.heap.size ≤ W'.heap.size ∧ ∀ i, i < W.heap.size → W'.heap[i]? = W.heap[i]? :=
  @calls_of noPins Tryz.prog (top n) (top_ok n) sy_mixed sy_names nls f fn body hf hb σ m W args args' hr hA hro h
/-- Numbers in the model's memory, as the reading begins with them. -/
noncomputable def numbers (zs : List Int) : FState := ⟨Tr.set .lf 0 ⟨.cells (zs.map fun z => Value.int .i64 z) TI, true, none, 0⟩, 1, 1⟩
theorem numbers_get (zs : List Int) (b : Nat) : (numbers zs).heap.get b = if b = 0 then some ⟨.cells (zs.map fun z => Value.int .i64 z) TI, true, none, 0⟩ else none := by
  show (Tr.set .lf 0 _).get b = _
  rw [Tr.get_set]
  split <;> rfl
theorem numbers_wf (zs : List Int) : Wf (numbers zs) := fun b e h => by
  rw [numbers_get] at h
  by_cases hb : b = 0
  · rw [if_pos hb] at h
    cases h
    exact ⟨by subst hb; exact Nat.lt_succ_self 0, Nat.lt_succ_self 0⟩
  · rw [if_neg hb] at h
    cases h
theorem numbers_ints (zs : List Int) : Ints (numbers zs) (some ⟨0, 0, none⟩) zs := fun i n h => by
  refine ⟨0, 0, zs.map fun z => Value.int .i64 z, rfl, ?_, ?_⟩
  · rw [cells_get, numbers_get, if_pos rfl]; rfl
  · rw [Nat.zero_add, List.getElem?_map, h]; rfl
/-- A law over a list of numbers: at every such list, whatever the rest of memory is. -/
theorem law_ints {f : FuncId} {fn : Func} {body : Code} (hf : Tryz.prog.funcs[f]? = some fn) (hb : fn.body = some body) (n : Nat)
    (h : ∀ (p : Option Addr) (l : List Int) (cp : Nat), l.length < 9223372036854775808 → ∀ σ, Wf σ → Ints σ p l → (∀ a, p = some a → a.block < σ.next) → ∃ σ', fcall Tryz.prog nls (top n) f [.slice p l.length cp] none σ = .ret (.bool true) none σ')
    (W : World) (v : Value) (hsz : 0 < W.heap.size)
    (hv : v = .slice none 0 0 ∨ ∃ (a : Addr) (len cap : Nat) (zs : List Int), v = .slice (some a) len cap ∧ len ≤ cap ∧ cap < 9223372036854775808 ∧ zs.length = cap ∧ ∀ i, i < zs.length → W.cell? (a.add i) = some (.int .i64 (zs.getD i 0))) :
    Calls Tryz.prog f #[v] W fun e W' => e = .returned (.bool true) ∧ W'.os = W.os ∧ W'.output = W.output ∧ W'.tape = W.tape ∧ W.heap.size ≤ W'.heap.size ∧ ∀ i, i < W.heap.size → W'.heap[i]? = W.heap[i]? := by
  rcases hv with rfl | ⟨a, len, cap, zs, rfl, hl, hm, hz, hc⟩
  · letI := noPins
    refine law_calls hf hb n Eng.empty (fun _ => none) W [.slice none 0 0] _ ?_ (.cons (.nilSlice 0 0) .nil) (fun b e h => by cases h) (h none [] 0 (by simp) Eng.empty (fun b e h => by cases h) (fun i n h => by simp at h) fun a h => by cases h)
    have hget : ∀ b, Eng.empty.heap.get b = none := fun b => rfl
    exact ⟨fun b ent e _ hb => (by rw [hget] at hb; cases hb), fun b b' ent ent' e e' _ hb => (by rw [hget] at hb; cases hb), fun b e hb => (by cases hb), fun b ent hb => (by rw [hget] at hb; cases hb), fun k o hk => hk.elim⟩
  · letI := noPins
    cases zs with
    | nil =>
      obtain rfl : cap = 0 := hz.symm
      obtain rfl : len = 0 := by omega
      have hget : ∀ b, (⟨.lf, 1, 1⟩ : FState).heap.get b = none := fun b => rfl
      refine law_calls hf hb n ⟨.lf, 1, 1⟩ (fun b => if b = 0 then some ⟨0, 0, true, none⟩ else none) W [.slice (some ⟨0, 0, none⟩) 0 0] _ ?_ (.cons (.empty (b := 0) (off := 0) (if_pos rfl)) .nil) (fun b e h => ?_)
        (h (some ⟨0, 0, none⟩) [] 0 (by simp) ⟨.lf, 1, 1⟩ (fun b e h => by rw [hget] at h; cases h) (fun i n h => by simp at h) fun a h => by cases h; exact Nat.lt_succ_self 0)
      · refine ⟨fun b ent e _ hb => (by rw [hget] at hb; cases hb), fun b b' ent ent' e e' _ hb => (by rw [hget] at hb; cases hb), fun b e hb => ?_, fun b ent hb => (by rw [hget] at hb; cases hb), fun k o hk => hk.elim⟩
        by_cases h0 : b = 0
        · rw [if_pos h0] at hb
          cases hb
          exact ⟨by subst h0; exact Nat.lt_succ_self 0, hsz⟩
        · rw [if_neg h0] at hb; cases hb
      · by_cases h0 : b = 0
        · rw [if_pos h0] at h; cases h; rfl
        · rw [if_neg h0] at h; cases h
    | cons z zs =>
      have h0 := hc 0 (by simp)
      obtain ⟨ab, ao, asp⟩ := a
      have h1 : W.cell? ⟨ab, ao, asp⟩ = some (.int .i64 z) := h0
      have hcell : ∃ c el fr, W.heap[ab]? = some (.cells c el fr) ∧ asp = none := by
        unfold World.cell? at h1
        split at h1
        · rename_i c el fr hb'
          cases asp with
          | none => exact ⟨c, el, fr, hb', rfl⟩
          | some _ => simp at h1
        · cases h1
      obtain ⟨c, el, fr, hW, rfl⟩ := hcell
      have hlt : ab < W.heap.size := (Array.getElem?_eq_some_iff.1 hW).1
      have hci : ∀ (i : Nat) (v : Value), ((z :: zs).map fun z => Value.int .i64 z)[i]? = some v → c[ao + i]? = some v := fun i v hv => by
        rw [List.getElem?_map] at hv
        cases hzi : (z :: zs)[i]? with
        | none => rw [hzi] at hv; cases hv
        | some y =>
          rw [hzi] at hv
          cases hv
          have hil := (List.getElem?_eq_some_iff.1 hzi).1
          have hh := hc i hil
          rw [List.getD, hzi] at hh
          have ha : (⟨ab, ao, none⟩ : Addr).add i = ⟨ab, ao + i, none⟩ := by
            unfold Addr.add
            by_cases h0 : i = 0
            · subst h0; rfl
            · rw [if_neg h0]
          rw [ha] at hh
          unfold World.cell? at hh
          simp only [hW] at hh
          exact hh
      have hty : ((z :: zs).take len).length = len := by rw [List.length_take, hz]; omega
      refine law_calls hf hb n (numbers (z :: zs)) (fun b => if b = 0 then some ⟨ab, ao, true, none⟩ else none) W [.slice (some ⟨0, 0, none⟩) ((z :: zs).take len).length cap] _ ?_ ?_ (fun b e h => ?_)
        (h (some ⟨0, 0, none⟩) ((z :: zs).take len) cap (by rw [hty]; omega) (numbers (z :: zs)) (numbers_wf _) (fun i n hi => numbers_ints (z :: zs) i n (by
          rw [List.getElem?_take] at hi
          split at hi
          · exact hi
          · cases hi)) fun a h => by cases h; exact Nat.lt_succ_self 0)
      · refine ⟨fun b ent e _ hb hm' => ?_, fun b b' ent ent' e e' hne hb hb' _ _ hm' hm'' => ?_, fun b e hb => ?_, fun b ent hb => ((numbers_wf _) b ent hb).1, fun k o hk => hk.elim⟩
        · rw [numbers_get] at hb
          by_cases hb0 : b = 0
          · rw [if_pos hb0] at hb hm'
            cases hb
            cases hm'
            exact ⟨rfl, c, el, fr, hW, (fun h => by cases h), fun i v hv => ⟨v, hci i v hv, by
              rw [List.getElem?_map] at hv
              cases hzi : (z :: zs)[i]? with
              | none => rw [hzi] at hv; cases hv
              | some y => rw [hzi] at hv; cases hv; exact .int _ _⟩, trivial⟩
          · rw [if_neg hb0] at hb; cases hb
        · by_cases hb0 : b = 0
          · by_cases hb1 : b' = 0
            · omega
            · rw [if_neg hb1] at hm''; cases hm''
          · rw [if_neg hb0] at hm'; cases hm'
        · by_cases hb0 : b = 0
          · rw [if_pos hb0] at hb
            cases hb
            exact ⟨by subst hb0; exact Nat.lt_succ_self 0, hlt⟩
          · rw [if_neg hb0] at hb; cases hb
      · refine .cons ?_ .nil
        rw [hty]
        have := VRel.slice (m := fun b => if b = 0 then some ⟨ab, ao, true, none⟩ else none) (b := 0) (off := 0) (l := len) (c := cap) (c' := cap) (e := ⟨ab, ao, true, none⟩) (if_pos rfl) (.inl rfl)
        exact this
      · by_cases hb0 : b = 0
        · rw [if_pos hb0] at h; cases h; rfl
        · rw [if_neg hb0] at h; cases h
end Go.Proofs.YtodkeaoikjjneaaGreatDoor
/- datum.Find. -/
namespace Go.Proofs.YtodkeaoikjjneaaGreatDoor
open Go Go.Eng
attribute [local congr] andThen_congr fops_congr fdraw_congr afterOp_congr drawF_congr
attribute [-go_sem] List.range_succ
/-- What is so of a value in memory from a block on, whatever comes of other memory. -/
structure Stays (Q : Nat → Value → FState → Prop) : Prop where
  keep : ∀ base base' v σ σ', Q base v σ → Wf σ → base' ≤ base → (∀ b, base ≤ b → b < σ.next → σ'.heap.get b = σ.heap.get b) → Q base' v σ'
theorem deferredAtLL (n : Nat) (p q : Value) (σ : FState) : (env (n + 1)).call 134 [p, q] (some .returning) σ = .ret (.tuple #[]) (some .returning) σ := by
  rw [env_defer, enter134 _ _ _ _ (by simp), Sl_start]
  unfold run134
  simp -implicitDefEqProofs only [go_sem, ↓reduceIte, Nat.reduceLT, Nat.reduceEqDiff, Nat.reduceAdd, Nat.reduceMul, Nat.reduceLeDiff, Nat.reduceSub, r134_0_go, r134_0U, r134_3_go, r134_3U, r134_4_go, r134_4U, nilAny]
theorem callAtLL (n w : Nat) (cap : Array Value) {Q : Nat → Value → FState → Prop} (hQ : Stays Q) (hone : ∀ base v σ, Q base v σ → oneCell v = true ∧ notTuple v = true ∧ valCells v = [v]) (σ : FState) (hw : Wf σ)
    (h : ∀ σ', Ext σ σ' → Wf σ' → Gives ((env (n + 1)).call w cap.toList none σ') σ' (Q σ'.next)) :
    Gives ((env (n + 2)).call 109 [.func (.func w) #[] cap] none σ) σ fun v σ' => ∃ u, v = .tuple #[u, .int .i64 0, .int .i64 0] ∧ Q σ.next u σ' := by
  rw [env_call, enter109 _ _ _ _ (by simp), Sl_start]
  unfold run109
  have hX1 : Ext σ ((σ.push (.cells [.int .i64 0] 3) none).push (.cells [.int .i64 0] 32) none) := ((Ext.refl _).push _ _).push _ _
  have hw1 := (hw.push (.cells [.int .i64 0] 3) none).push (.cells [.int .i64 0] 32) none
  obtain ⟨u, σ2, e2, hX2, hw2, hq⟩ := h _ hX1 hw1
  have g1 : σ2.heap.get σ.next = _ := (hX2.get σ.next (by simp only [push_next]; omega)).trans (by simp -implicitDefEqProofs only [push_get, push_next, Nat.add_assoc, Nat.reduceAdd, Nat.left_eq_add, reduceCtorEq, ↓reduceIte, Nat.reduceEqDiff] <;> rfl)
  have g2 : σ2.heap.get (σ.next + 1) = _ := (hX2.get (σ.next + 1) (by simp only [push_next]; omega)).trans (by simp -implicitDefEqProofs only [push_get, push_next, Nat.add_assoc, Nat.reduceAdd, Nat.add_left_cancel_iff, reduceCtorEq, ↓reduceIte, Nat.reduceEqDiff] <;> rfl)
  obtain ⟨o1, o2, o3⟩ := hone _ _ _ hq
  simp -implicitDefEqProofs only [go_sem, ↓reduceIte, Nat.reduceLT, Nat.reduceEqDiff, Nat.reduceAdd, Nat.reduceMul, Nat.reduceLeDiff, Nat.reduceSub, r109_0_go, r109_0U, r109_1_go, r109_1U, r109_2_go, r109_2U, Option.getD_some, e2, g1, g2, aggInt, aggErrno, deferredAtLL, fleave_nil, fresults_nil, fresults_cons, fresult_cell, fresult_tmp, o1, o2, o3]
  have m1 := (hw2 _ _ g1).1
  have m2 := (hw2 _ _ g2).1
  exact ⟨_, _, rfl, ((hX1.trans hX2).put _ _ _ (Nat.le_refl _)).put _ _ _ (Nat.le_add_right _ _), (hw2.put _ _ _ m1).put _ _ _ m2, _, rfl, hQ.keep _ _ _ _ _ hq hw2 (by simp only [push_next]; omega) fun b hb _ => by
    simp only [push_next] at hb
    rw [put_get, if_neg (by omega), put_get, if_neg (by omega)]⟩
theorem callLL (n w : Nat) (cap : Array Value) {Q : Nat → Value → FState → Prop} (hQ : Stays Q) (hone : ∀ base v σ, Q base v σ → oneCell v = true ∧ notTuple v = true ∧ valCells v = [v]) (σ : FState) (hw : Wf σ)
    (h : ∀ σ', Ext σ σ' → Wf σ' → Gives ((env (n + 1)).call w cap.toList none σ') σ' (Q σ'.next)) :
    Gives ((env (n + 3)).call 76 [.func (.func w) #[] cap] none σ) σ fun v σ' => ∃ u, v = .tuple #[u, .int .i64 0] ∧ Q σ.next u σ' := by
  rw [env_call, enter76 _ _ _ _ (by simp), Sl_start]
  unfold run76
  obtain ⟨_, σ2, e2, hX2, hw2, u, rfl, hq⟩ := callAtLL n w cap hQ hone σ hw h
  obtain ⟨o1, o2, o3⟩ := hone _ _ _ hq
  simp -implicitDefEqProofs only [go_sem, ↓reduceIte, Nat.reduceLT, Nat.reduceEqDiff, Nat.reduceAdd, Nat.reduceMul, Nat.reduceLeDiff, Nat.reduceSub, r76_0_go, r76_0U, r76_1_go, r76_1U, r76_2_go, r76_2U, Option.getD_some, e2, fleave_nil, fresults_nil, fresults_cons, fresult_tmp, List.getElem?_cons_zero, o1, o2, o3]
  exact ⟨_, _, rfl, hX2, hw2, u, rfl, hq⟩
def ResP (x : D) (l : List (List Nat × D)) (base : Nat) (w : Value) (σ : FState) : Prop := ∃ us, Vecs 22 (fun b => base ≤ b) σ w us ∧ PathsL (fun b => base ≤ b) σ us (foundIn x l)
theorem resP_stays (x : D) (l : List (List Nat × D)) : Stays (ResP x l) := ⟨fun base base' v σ σ' ⟨us, h1, h2⟩ hw hb hk => ⟨us, h1.keep (fun b hb' hn => ⟨hk b hb' hn, by omega⟩) hw, h2.keep fun b c hb' hc => ⟨by
  have := hk b hb' (hw.cells hc)
  rw [cells_get] at hc ⊢
  rw [this]; exact hc, by omega⟩⟩⟩
mutual
theorem pieces_le : ∀ (d : D) (p : List Nat) (y : List Nat × D), y ∈ d.pieces p → y.2.deep ≤ d.deep ∧ y.2.count ≤ d.count
  | .mk k z t ds, p, y, h => by
    rw [D.pieces] at h
    rcases List.mem_cons.1 h with rfl | h
    · exact ⟨Nat.le_refl _, Nat.le_refl _⟩
    · have := piecesL_le ds p 0 y h
      rw [D.deep, D.count]
      omega
theorem piecesL_le : ∀ (ds : List D) (p : List Nat) (i : Nat) (y : List Nat × D), y ∈ D.piecesL p i ds → y.2.deep ≤ D.deeps ds ∧ y.2.count ≤ D.counts ds
  | [], p, i, y, h => by simp [D.piecesL] at h
  | d :: ds, p, i, y, h => by
    rw [D.piecesL, List.mem_append] at h
    rw [D.deeps, D.counts]
    rcases h with h | h
    · have := pieces_le d _ y h; omega
    · have := piecesL_le ds _ _ y h; omega
end
theorem longest_le (l : List (List Nat × D)) (L : Nat) (h : ∀ x ∈ l, x.1.length ≤ L) : longest l ≤ L + 1 := by
  induction l with
  | nil => simp [longest]
  | cons x l ih =>
    rw [longest_cons]
    have := h x List.mem_cons_self
    have := ih fun y hy => h y (List.mem_cons_of_mem _ hy)
    omega
theorem Fine.deep_le {m L : Nat} {d : D} (h : Fine m L d) : d.deep ≤ L + 1 := by
  have h1 := longest_pieces d []
  have h2 := longest_le (d.pieces []) L fun x hx => by have := ((h []).2 x hx).1; simpa using this
  simp at h1
  omega
theorem find1 (M n : Nat) (hM : M = n + 14) (b1 b2 : Nat) (L L' : Nat) (hL6 : L ≤ 6) (hL6' : L' ≤ 6) (d x : D) (hF : Fine M L d) (hFx : Fine M L' x) (lv xv : List Value) (h4 : lv.length = 4) (hx4 : xv.length = 4) (R X : Nat → Prop) (σ : FState) (hw : Wf σ) (hb1 : σ.cells b1 = some lv) (hb2 : σ.cells b2 = some xv) (hL : LaidR R σ (.agg lv.toArray) d) (hLx : LaidR (fun b => R b ∨ X b) σ (.agg xv.toArray) x) (hR : ∀ b, R b → b < σ.next ∧ ¬ X b) (hX : ∀ b, X b → b < σ.next) :
    Gives ((env (M + 6)).call 77 [.pointer (some ⟨b1, 0, none⟩), .pointer (some ⟨b2, 0, none⟩)] none σ) σ (ResP x (d.pieces []) σ.next) := by
  have hf := hF.few hL6
  have hfx := hFx.few hL6'
  rw [env_call, enter77 _ _ _ _ (by simp), Sl_start]
  unfold run77
  obtain ⟨_, σ1, e1, x1, hw1, rfl⟩ := valid_go M d lv h4 R σ hw hL (fun b hb => (hR b hb).1) (hF.small hL6) (by omega) hF.good
  have n1 := x1.next
  have kl := fun {R : Nat → Prop} {v : Value} {y : D} (h : LaidR R σ v y) => h.keep (R' := R) (σ' := σ1) fun b cs hb hc => ⟨(x1.cells (hw.cells hc)).trans hc, hb⟩
  obtain ⟨_, σ2, e2, x2, hw2, rfl⟩ := valid_go M x xv hx4 (fun b => R b ∨ X b) σ1 hw1 (kl hLx) (fun b hb => by rcases hb with hb | hb; have := (hR b hb).1; omega; have := hX b hb; omega) (hFx.small hL6') (by omega) hFx.good
  have n2 := x2.next
  have x12 := x1.trans x2
  have kl2 := fun {R : Nat → Prop} {v : Value} {y : D} (h : LaidR R σ v y) => h.keep (R' := R) (σ' := σ2) fun b cs hb hc => ⟨(x12.cells (hw.cells hc)).trans hc, hb⟩
  have c1 := (x1.cells (hw.cells hb2)).trans hb2
  have c2 := (x12.cells (hw.cells hb1)).trans hb1
  have c3 := (x12.cells (hw.cells hb2)).trans hb2
  have hd := hF.deep_le
  have hct : d.count < 1000000000 := by rw [← pieces_length d []]; omega
  obtain ⟨w, σ3, e3, x3, hw3, us, h1, h2⟩ := find_go M n 7 hM d x lv xv h4 hx4 R X σ2 hw2 (kl2 hL) (kl2 hLx) (fun b hb => ⟨by have := (hR b hb).1; omega, (hR b hb).2⟩) (fun b hb => by have := hX b hb; omega) (hF.small hL6) (by omega) (fun y hy => by have := pieces_le d [] y hy; omega)
  have ht : lv.take 4 = lv := List.take_of_length_le (by omega)
  have htx : xv.take 4 = xv := List.take_of_length_le (by omega)
  simp -implicitDefEqProofs only [go_sem, ↓reduceIte, Nat.reduceLT, Nat.reduceEqDiff, Nat.reduceAdd, Nat.reduceMul, Nat.reduceLeDiff, Nat.reduceSub, r77_0_go, r77_0U, r77_1_go, r77_1U, r77_2_go, r77_2U, r77_3_go, r77_3U, Option.getD_some, hb1, hb2, c1, c2, c3, h4, hx4, ht, htx, e1, e2, e3, Nat.le_refl]
  exact ⟨_, _, rfl, x12.trans x3, hw3, us, h1.keep (fun b hb hn => ⟨rfl, by omega⟩) hw3, h2.keep fun b c hb hc => ⟨hc, by omega⟩⟩
/-- datum.Find. -/
theorem findF_go (M n : Nat) (hM : M = n + 14) (L L' : Nat) (hL6 : L ≤ 6) (hL6' : L' ≤ 6) (d x : D) (hF : Fine M L d) (hFx : Fine M L' x) (lv xv : List Value) (h4 : lv.length = 4) (hx4 : xv.length = 4) (R X : Nat → Prop) (σ : FState) (hw : Wf σ) (hL : LaidR R σ (.agg lv.toArray) d) (hLx : LaidR (fun b => R b ∨ X b) σ (.agg xv.toArray) x) (hR : ∀ b, R b → b < σ.next ∧ ¬ X b) (hX : ∀ b, X b → b < σ.next) :
    Gives ((env (M + 9)).call 28 [.agg lv.toArray, .agg xv.toArray] none σ) σ fun w σ' => ∃ u, w = .tuple #[u, .int .i64 0] ∧ ResP x (d.pieces []) σ.next u σ' := by
  rw [env_call, enter28 _ _ _ _ (by simp), Sl_start]
  unfold run28
  have x1 : Ext σ ((σ.push (.cells lv TD) none).push (.cells xv TD) none) := ((Ext.refl _).push _ _).push _ _
  have hw1 := (hw.push (.cells lv TD) none).push (.cells xv TD) none
  have c1 : ((σ.push (.cells lv TD) none).push (.cells xv TD) none).cells σ.next = some lv := by rw [cells_push, if_neg (by rw [push_next]; omega), cells_push, if_pos rfl]; rfl
  have c2 : ((σ.push (.cells lv TD) none).push (.cells xv TD) none).cells (σ.next + 1) = some xv := by rw [cells_push, if_pos (by rw [push_next])]; rfl
  obtain ⟨_, σ2, e2, x2, hw2, u, rfl, hq⟩ := callLL (M + 5) 77 #[.pointer (some ⟨σ.next, 0, none⟩), .pointer (some ⟨σ.next + 1, 0, none⟩)] (resP_stays x (d.pieces [])) (fun base v σ ⟨us, h, _⟩ => h.one) _ hw1 fun σ' hx hw' =>
    find1 M n hM σ.next (σ.next + 1) L L' hL6 hL6' d x hF hFx lv xv h4 hx4 R X σ' hw' ((hx.cells (hw1.cells c1)).trans c1) ((hx.cells (hw1.cells c2)).trans c2) (hL.keep fun b cs hb hc => ⟨((x1.trans hx).cells (hw.cells hc)).trans hc, hb⟩) (hLx.keep fun b cs hb hc => ⟨((x1.trans hx).cells (hw.cells hc)).trans hc, hb⟩) (fun b hb => ⟨by have := (hR b hb).1; have := (x1.trans hx).next; omega, (hR b hb).2⟩) (fun b hb => by have := hX b hb; have := (x1.trans hx).next; omega)
  simp -implicitDefEqProofs only [go_sem, ↓reduceIte, Nat.reduceLT, Nat.reduceEqDiff, Nat.reduceAdd, Nat.reduceMul, Nat.reduceLeDiff, Nat.reduceSub, r28_0_go, r28_0U, r28_1_go, r28_1U, Option.getD_some, e2, List.getElem?_cons_zero, List.getElem?_cons_succ]
  exact ⟨_, _, rfl, x1.trans x2, hw2, u, rfl, (resP_stays x (d.pieces [])).keep _ _ _ _ _ hq hw2 (by simp only [push_next]; omega) fun b _ _ => rfl⟩
end Go.Proofs.YtodkeaoikjjneaaGreatDoor
/- plain.Copy. -/
namespace Go.Proofs.YtodkeaoikjjneaaGreatDoor
open Go Go.Eng
attribute [local congr] andThen_congr fops_congr fdraw_congr afterOp_congr drawF_congr
attribute [-go_sem] List.range_succ
theorem keepEach : keepOf nls 106 = [14, 15, 28] := by kernel_rfl
theorem makeSlice_go (e : TypeId) (bytes : Nat) (z : List Value) (n : Nat) (σ : FState) (h : n * (bytes + 1) ≤ 1000000000) : fmakeSlice e bytes z (.int .i64 (.ofNat n)) (.int .i64 (.ofNat n)) σ = .val (.slice (some ⟨σ.next, 0, none⟩) n n) (σ.push (.cells (reps n z) e) none) := by
  show cond (Nat.ble n n && Nat.ble (n * (bytes + 1)) 1000000000) _ _ = _
  rw [show Nat.ble n n = true by rw [Nat.ble_eq]; exact Nat.le_refl _, show Nat.ble (n * (bytes + 1)) 1000000000 = true by rw [Nat.ble_eq]; exact h]
  rfl
theorem reps_length (n : Nat) (z : List Value) : (reps n z).length = n * z.length := by
  induction n with
  | zero => simp [reps_zero]
  | succ n ih => rw [reps_succ, List.length_append, ih, Nat.succ_mul]; omega
def CopyAt (m : Nat) (d : D) : Prop := ∀ (lv : List Value) (R : Nat → Prop) (σ : FState), Wf σ → LaidR R σ (.agg lv.toArray) d → Gives ((env m).call 69 [.agg lv.toArray] none σ) σ fun w σ' => LaidR (fun b => σ.next ≤ b) σ' w d
structure HeadEa (bo base : Nat) (R : Nat → Prop) (q : Option Addr) (c : Nat) (ds : List D) (σ0 : FState) (i : Nat) (f g : Nat → Value) (σ : FState) : Prop where
  f0 : f 0 = .slice q ds.length c
  f1 : f 1 = .func (.func 69) #[] #[]
  f5 : f 5 = .slice (some ⟨bo, 0, none⟩) ds.length ds.length
  g14 : g 14 = .int .i64 (.ofNat ds.length)
  g15 : g 15 = .int .i64 (.ofNat i)
  cs : ∃ done rest ver, σ.heap.get bo = some ⟨.cells (done ++ rest) TD, false, none, ver⟩ ∧ Row (fun b => base ≤ b ∧ b ≠ bo) σ done (ds.take i) ∧ rest.length = (ds.length - i) * 4
  hbo : base ≤ bo
  lay : LaidRE R σ q 0 ds
  low : ∀ b, R b → b < base
  wf : Wf σ
  ext : Ext σ0 σ
  le : i ≤ ds.length
theorem each_loop (m : Nat) {bo base : Nat} {R : Nat → Prop} {q : Option Addr} {c : Nat} {ds : List D} {σ0 : FState} (hC : ∀ d ∈ ds, CopyAt m d) (hb0 : σ0.next = base) (hfew : ds.length < 1000000) :
    ∀ (j fuel i : Nat) (f g : Nat → Value) (σ : FState), i + j = ds.length → j < fuel → HeadEa bo base R q c ds σ0 i f g σ →
    ∃ f' g' σ', floop [14, 15, 28] (l106_0 (env m) none 106) fuel (Sl 7 29 f g []) none σ = .done (.exit 0) (Sl 7 29 f' g' []) none σ' ∧ HeadEa bo base R q c ds σ0 ds.length f' g' σ' := by
  intro j
  induction j with
  | zero =>
    intro fuel i f g σ hij hf h
    obtain ⟨fuel, rfl⟩ : ∃ q, fuel = q + 1 := ⟨fuel - 1, by omega⟩
    obtain rfl : i = ds.length := by omega
    have d1 : decide (Int.ofNat ds.length < Int.ofNat ds.length) = false := by simp
    rw [floop_step, Sl_forget]
    unfold l106_0
    simp -implicitDefEqProofs only [go_sem, ↓reduceIte, Nat.reduceLT, Nat.reduceEqDiff, Nat.reduceAdd, Nat.reduceMul, Nat.reduceLeDiff, Nat.reduceSub, r106_5_go, r106_5U, h.g14, h.g15, d1, List.mem_cons]
    refine ⟨_, _, _, rfl, { h with g14 := ?_, g15 := ?_ }⟩
    · simp -implicitDefEqProofs only [upd_go, kept_go, ↓reduceIte, Nat.reduceEqDiff, Nat.reduceLT, reduceCtorEq, h.g14, List.mem_cons, true_or, or_true]
    · simp -implicitDefEqProofs only [upd_go, kept_go, ↓reduceIte, Nat.reduceEqDiff, Nat.reduceLT, reduceCtorEq, h.g15, List.mem_cons, true_or, or_true]
  | succ j ih =>
    intro fuel i f g σ hij hf h
    obtain ⟨fuel, rfl⟩ : ∃ q, fuel = q + 1 := ⟨fuel - 1, by omega⟩
    have hi : i < ds.length := by omega
    have d1 : decide (Int.ofNat i < Int.ofNat ds.length) = true := by simp; omega
    have hd : ds[i]? = some ds[i] := List.getElem?_eq_getElem hi
    obtain ⟨b, off, cs, rfl, hRb, hcs, hle, hL⟩ := LaidRE.get h.lay hd
    rw [Nat.zero_add] at hle hL
    obtain ⟨done, rest, ver, hg, hr, hrl⟩ := h.cs
    obtain ⟨w, σ1, e1, x1, hw1, hL1⟩ := hC _ (List.getElem_mem hi) ((cs.drop (off + i * 4)).take 4) R σ h.wf hL
    obtain ⟨l4, rfl, hl4, hone⟩ := hL1.agg
    have hbn := (h.wf _ _ hg).1
    have hg1 := (x1.get bo hbn).trans hg
    have hdl : done.length = i * 4 := by rw [hr.1, List.length_take]; omega
    have w1 := add1 i (by omega)
    have hr4 : 4 ≤ rest.length := by rw [hrl]; omega
    have e4 : ((done ++ rest).take (i * 4) ++ l4 ++ (done ++ rest).drop (i * 4 + 4)) = (done ++ l4) ++ rest.drop 4 := by
      rw [← hdl, List.take_left', List.drop_append]
      · simp [List.drop_eq_nil_of_le]
      · rfl
    have hlen : i * 4 + 4 ≤ (done ++ rest).length := by rw [List.length_append, hdl]; omega
    rw [floop_step, Sl_forget]
    unfold l106_0
    simp -implicitDefEqProofs only [go_sem, ↓reduceIte, Nat.reduceLT, Nat.reduceEqDiff, Nat.reduceAdd, Nat.reduceMul, Nat.reduceLeDiff, Nat.reduceSub, fstoreN, r106_5_go, r106_5U, r106_6_go, r106_6U, r106_7_go, r106_7U, r106_8_go, r106_8U, h.f0, h.f1, h.f5, h.g14, h.g15, d1, hi, hcs, hle, e1, hg1, hl4, hone, hlen, e4, w1, List.mem_cons]
    generalize hff : upd _ 6 _ = f1
    generalize hgg : upd _ 15 _ = g1
    have n1 := x1.next
    have hbase : base ≤ σ.next := by have := h.ext.next; omega
    have hbo := h.hbo
    have kc : ∀ (o : FObj) b cs, σ1.cells b = some cs → b ≠ bo → (σ1.put bo o none).cells b = some cs := fun o b cs hc hb => by rw [cells_put, if_neg hb]; exact hc
    exact ih fuel (i + 1) f1 g1 _ (by omega) (by omega) {
      f0 := by rw [← hff]; simp -implicitDefEqProofs only [upd_go, kept_go, ↓reduceIte, Nat.reduceEqDiff, Nat.reduceLT, reduceCtorEq, h.f0]
      f1 := by rw [← hff]; simp -implicitDefEqProofs only [upd_go, kept_go, ↓reduceIte, Nat.reduceEqDiff, Nat.reduceLT, reduceCtorEq, h.f1]
      f5 := by rw [← hff]; simp -implicitDefEqProofs only [upd_go, kept_go, ↓reduceIte, Nat.reduceEqDiff, Nat.reduceLT, reduceCtorEq, h.f5]
      g14 := by rw [← hgg]; simp -implicitDefEqProofs only [upd_go, kept_go, ↓reduceIte, Nat.reduceEqDiff, Nat.reduceLT, reduceCtorEq, h.g14, List.mem_cons, true_or, or_true]
      g15 := by rw [← hgg]; simp -implicitDefEqProofs only [upd_go, kept_go, ↓reduceIte, Nat.reduceEqDiff, Nat.reduceLT, reduceCtorEq]
      cs := ⟨done ++ l4, rest.drop 4, _, by rw [put_get, if_pos rfl], by
        rw [List.take_add_one, hd]
        exact (hr.keep fun b cs hb hc => ⟨kc _ b cs ((x1.cells (h.wf.cells hc)).trans hc) hb.2, hb⟩).snoc hl4 hone (hL1.keep fun b cs hb hc => ⟨kc _ b cs hc (by omega), by omega, by omega⟩), by rw [List.length_drop, hrl]; omega⟩
      hbo := h.hbo
      lay := h.lay.keep fun b cs hb hc => ⟨kc _ b cs ((x1.cells (h.wf.cells hc)).trans hc) (by have := h.low b hb; omega), hb⟩
      low := h.low
      wf := hw1.put _ _ _ (by omega)
      ext := (h.ext.trans x1).put _ _ _ (by omega)
      le := hi }
theorem each_step (m : Nat) (ds : List D) (hC : ∀ d ∈ ds, CopyAt m d) (hfew : ds.length < 1000000) (q : Option Addr) (c : Nat) (R : Nat → Prop) (σ : FState) (hw : Wf σ) (hE : LaidRE R σ q 0 ds) :
    Gives ((env (m + 1)).call 106 [.slice q ds.length c, .func (.func 69) #[] #[]] none σ) σ fun w σ' => ∃ q' c', w = .slice q' ds.length c' ∧ LaidRE (fun b => σ.next ≤ b) σ' q' 0 ds := by
  rw [env_call, enter106 _ _ _ _ (by simp), Sl_start]
  unfold run106
  cases hz : (Int.ofNat ds.length == (0 : Int)) with
  | true =>
    have h0 : ds = [] := by
      have := Int.ofNat.inj (eq_of_beq hz)
      exact List.length_eq_zero_iff.1 this
    subst h0
    simp -implicitDefEqProofs only [go_sem, ↓reduceIte, Nat.reduceLT, Nat.reduceEqDiff, Nat.reduceAdd, Nat.reduceMul, Nat.reduceLeDiff, Nat.reduceSub, r106_0_go, r106_0U, r106_1_go, r106_1U, r106_2_go, r106_2U, Option.getD_some, hz]
    exact ⟨_, _, rfl, Ext.refl _, hw, none, 0, rfl, trivial⟩
  | false =>
    have hmk := fun σ => makeSlice_go 28 56 [.int .i64 0, .int .i64 0, .string ⟨#[]⟩, .slice none 0 0] ds.length σ (by omega)
    simp -implicitDefEqProofs only [go_sem, ↓reduceIte, Nat.reduceLT, Nat.reduceEqDiff, Nat.reduceAdd, Nat.reduceMul, Nat.reduceLeDiff, Nat.reduceSub, r106_0_go, r106_0U, r106_1_go, r106_1U, r106_3_go, r106_3U, r106_4_go, r106_4U, Option.getD_some, hz, hmk, keepEach]
    generalize hff : upd _ 5 _ = f1
    generalize hgg : upd _ 15 _ = g1
    generalize hbf : bigFuel = fuel
    obtain ⟨f2, g2, σ2, e2, h2⟩ := each_loop m (bo := σ.next) (base := σ.next) (R := fun b => R b ∧ b < σ.next) (q := q) (c := c) (σ0 := σ) hC rfl hfew ds.length fuel 0 f1 g1 (σ.push (.cells (reps ds.length [.int .i64 0, .int .i64 0, .string ⟨#[]⟩, .slice none 0 0]) TD) none) (by omega) (by rw [← hbf]; show ds.length < 1000000000000; omega) {
      f0 := by rw [← hff]; simp -implicitDefEqProofs only [upd_go, kept_go, ↓reduceIte, Nat.reduceEqDiff, Nat.reduceLT, reduceCtorEq, List.getElem?_cons_zero, List.getElem?_cons_succ, Option.getD_some]
      f1 := by rw [← hff]; simp -implicitDefEqProofs only [upd_go, kept_go, ↓reduceIte, Nat.reduceEqDiff, Nat.reduceLT, reduceCtorEq, List.getElem?_cons_zero, List.getElem?_cons_succ, Option.getD_some]
      f5 := by rw [← hff]; simp -implicitDefEqProofs only [upd_go, kept_go, ↓reduceIte, Nat.reduceEqDiff, Nat.reduceLT, reduceCtorEq]
      g14 := by rw [← hgg]; simp -implicitDefEqProofs only [upd_go, kept_go, ↓reduceIte, Nat.reduceEqDiff, Nat.reduceLT, reduceCtorEq]
      g15 := by rw [← hgg]; simp -implicitDefEqProofs only [upd_go, kept_go, ↓reduceIte, Nat.reduceEqDiff, Nat.reduceLT, reduceCtorEq] <;> rfl
      cs := ⟨[], reps ds.length [.int .i64 0, .int .i64 0, .string ⟨#[]⟩, .slice none 0 0], σ.clock, by rw [push_get, if_pos rfl]; rfl, Row.nil _ _, by rw [reps_length]; rfl⟩
      hbo := Nat.le_refl _
      lay := hE.keep fun b cs hb hc => ⟨by rw [cells_push, if_neg (by have := hw.cells hc; omega)]; exact hc, hb, hw.cells hc⟩
      low := fun b hb => hb.2
      wf := hw.push _ _
      ext := (Ext.refl _).push _ _
      le := Nat.zero_le _ }
    rw [e2]
    simp -implicitDefEqProofs only [go_sem, ↓reduceIte, Nat.reduceLT, Nat.reduceEqDiff, Nat.reduceAdd, Nat.reduceMul, Nat.reduceLeDiff, Nat.reduceSub, r106_9_go, r106_9U, h2.f5]
    obtain ⟨done, rest, ver, hg, hr, hrl⟩ := h2.cs
    rw [List.take_length] at hr
    have hrest : rest = [] := List.length_eq_zero_iff.1 (by rw [hrl]; omega)
    subst hrest
    rw [List.append_nil] at hg
    exact ⟨_, _, rfl, h2.ext, h2.wf, _, _, rfl, hr.elems (cells_of_get hg) (Nat.le_refl _) (fun c hc => hc.1) 0 ds fun j e he => by rwa [Nat.zero_add]⟩
theorem copy_step (m : Nat) (k z : Int) (t : ByteArray) (ds : List D) (hC : ∀ d ∈ ds, CopyAt m d) (hfew : ds.length < 1000000) : CopyAt (m + 2) (.mk k z t ds) := by
  intro lv R σ hw hL
  obtain ⟨q, c, hv, hE⟩ := hL
  have hlv : lv = [.int .i64 k, .int .i64 z, .string t, .slice q ds.length c] := by
    have := Value.agg.inj hv
    simpa using congrArg Array.toList this
  subst hlv
  rw [env_call, enter69 _ _ _ _ (by simp), Sl_start]
  unfold run69
  have x1 : Ext σ ((σ.push (.cells [.int .i64 k, .int .i64 z, .string t, .slice q ds.length c] TD) none).push (.cells [.int .i64 0, .int .i64 0, .string ⟨#[]⟩, .slice none 0 0] TD) none) := ((Ext.refl _).push _ _).push _ _
  have hw1 := (hw.push (.cells [.int .i64 k, .int .i64 z, .string t, .slice q ds.length c] TD) none).push (.cells [.int .i64 0, .int .i64 0, .string ⟨#[]⟩, .slice none 0 0] TD) none
  have c1 : ((σ.push (.cells [.int .i64 k, .int .i64 z, .string t, .slice q ds.length c] TD) none).push (.cells [.int .i64 0, .int .i64 0, .string ⟨#[]⟩, .slice none 0 0] TD) none).cells σ.next = some [.int .i64 k, .int .i64 z, .string t, .slice q ds.length c] := by rw [cells_push, if_neg (by rw [push_next]; omega), cells_push, if_pos rfl]; rfl
  have g2 : ((σ.push (.cells [.int .i64 k, .int .i64 z, .string t, .slice q ds.length c] TD) none).push (.cells [.int .i64 0, .int .i64 0, .string ⟨#[]⟩, .slice none 0 0] TD) none).heap.get (σ.next + 1) = some ⟨.cells [.int .i64 0, .int .i64 0, .string ⟨#[]⟩, .slice none 0 0] TD, false, none, σ.clock + 1⟩ := by rw [push_get, if_pos (by rw [push_next])]; rfl
  have kc : ((σ.push (.cells [.int .i64 k, .int .i64 z, .string t, .slice q ds.length c] TD) none).push (.cells [.int .i64 0, .int .i64 0, .string ⟨#[]⟩, .slice none 0 0] TD) none).clock = σ.clock + 2 := rfl
  have kn : ((σ.push (.cells [.int .i64 k, .int .i64 z, .string t, .slice q ds.length c] TD) none).push (.cells [.int .i64 0, .int .i64 0, .string ⟨#[]⟩, .slice none 0 0] TD) none).next = σ.next + 2 := rfl
  simp -implicitDefEqProofs only [go_sem, ↓reduceIte, Nat.reduceLT, Nat.reduceEqDiff, Nat.reduceAdd, Nat.reduceMul, Nat.reduceLeDiff, Nat.reduceSub, r69_0_go, r69_0U, Option.getD_some]
  generalize FState.push (FState.push σ _ _) _ _ = σ1 at x1 hw1 c1 g2 kc kn ⊢
  have hv1 := view_wf hw1 (lam := σ.clock + 2) (by omega)
  obtain ⟨_, σ2, e2, x2, hw2, q', c', rfl, hE'⟩ := each_step m ds hC hfew q c R σ1 hw1 (hE.keep fun b cs hb hc => ⟨(x1.cells (hw.cells hc)).trans hc, hb⟩)
  have c2 : (view σ2 (σ.clock + 2)).cells σ.next = some [.int .i64 k, .int .i64 z, .string t, .slice q ds.length c] := view_old hw1 (by omega) (x2.get _ (hw1.cells c1)) c1
  have g2' := (x2.get _ (hw1 _ _ g2).1).trans g2
  simp -implicitDefEqProofs only [go_sem, ↓reduceIte, Nat.reduceLT, Nat.reduceEqDiff, Nat.reduceAdd, Nat.reduceMul, Nat.reduceLeDiff, Nat.reduceSub, fstoreN, r69_1_go, r69_1U, hv1, c1, e2, c2, g2', fleave_nil, fresults_nil, fresults_cons, fresult_cell, aggDatum]
  have n2 := x2.next
  exact ⟨_, _, rfl, (x1.trans x2).put _ _ _ (by omega), hw2.put _ _ _ (by omega), q', c', rfl, hE'.keep fun b cs hb hc => ⟨by rw [cells_put, if_neg (by omega)]; exact hc, by omega⟩⟩
theorem copy_go (n : Nat) : ∀ (N : Nat) (d : D), D.deep d ≤ N → d.count < 1000000 → CopyAt (n + 2 * N) d
  | 0, d, h, _ => by cases d; rw [D.deep] at h; omega
  | N + 1, .mk k z t ds, h, hc => by
    rw [D.deep] at h
    rw [D.count] at hc
    have := length_counts ds
    exact copy_step (n + 2 * N) k z t ds (fun d hd => copy_go n N d (by have := deeps_mem hd; omega) (by have := count_mem hd; omega)) (by omega)
end Go.Proofs.YtodkeaoikjjneaaGreatDoor
/- datum.At. -/
namespace Go.Proofs.YtodkeaoikjjneaaGreatDoor
open Go Go.Eng
attribute [local congr] andThen_congr fops_congr fdraw_congr afterOp_congr drawF_congr
attribute [-go_sem] List.range_succ
theorem keepPlace : keepOf nls 73 = [7, 8, 9, 32] := by kernel_rfl
theorem field3 {cs : List Value} {off : Nat} {a b c e : Value} (h : (cs.drop off).take 4 = [a, b, c, e]) : cs[off + 3]? = some e := by
  have : ((cs.drop off).take 4)[3]? = some e := by rw [h]; rfl
  rw [List.getElem?_take, if_pos (by omega), List.getElem?_drop] at this
  exact this
structure HeadPl (a : Option Addr) (plen cx i b off : Nat) (f g : Nat → Value) : Prop where
  f0 : f 0 = .pointer (some ⟨b, off, none⟩)
  g7 : g 7 = .slice a plen cx
  g8 : g 8 = .int .i64 (.ofNat plen)
  g9 : g 9 = .int .i64 (.ofNat i)
theorem place_loop (E : Env) {a : Option Addr} {cx : Nat} {path : List Nat} {R : Nat → Prop} {σ : FState} (hs : path.length < 100000) (x : D) (hp : path ≠ [] → ∃ b rest, a = some ⟨b, 0, none⟩ ∧ σ.cells b = some (intsOf path ++ rest)) :
    ∀ (j fuel i : Nat) (f g : Nat → Value) (d : D) (b off : Nat) (cs : List Value), i + j = path.length → j < fuel → atP (path.drop i) d = some x → d.count < 100000 → σ.cells b = some cs → 4 ≤ cs.length - off → LaidR R σ (.agg ((cs.drop off).take 4).toArray) d → HeadPl a path.length cx i b off f g →
    ∃ f' g' b off cs, floop [7, 8, 9, 32] (l73_0 E none 73) fuel (Sl 7 33 f g []) none σ = .done (.exit 0) (Sl 7 33 f' g' []) none σ ∧ f' 0 = .pointer (some ⟨b, off, none⟩) ∧ σ.cells b = some cs ∧ 4 ≤ cs.length - off ∧ LaidR R σ (.agg ((cs.drop off).take 4).toArray) x := by
  intro j
  induction j with
  | zero =>
    intro fuel i f g d b off cs hij hf hx _ hc hle hL h
    obtain ⟨fuel, rfl⟩ : ∃ q, fuel = q + 1 := ⟨fuel - 1, by omega⟩
    obtain rfl : i = path.length := by omega
    rw [List.drop_length, atP] at hx
    obtain rfl := Option.some.inj hx
    have d1 : decide (Int.ofNat path.length < Int.ofNat path.length) = false := by simp
    rw [floop_step, Sl_forget]
    unfold l73_0
    simp -implicitDefEqProofs only [go_sem, ↓reduceIte, Nat.reduceLT, Nat.reduceEqDiff, Nat.reduceAdd, Nat.reduceMul, Nat.reduceLeDiff, Nat.reduceSub, r73_2_go, r73_2U, h.g8, h.g9, d1, List.mem_cons]
    exact ⟨_, _, b, off, cs, rfl, h.f0, hc, hle, hL⟩
  | succ j ih =>
    intro fuel i f g d b off cs hij hf hx hN hc hle hL h
    obtain ⟨fuel, rfl⟩ : ∃ q, fuel = q + 1 := ⟨fuel - 1, by omega⟩
    have hi : i < path.length := by omega
    have d1 : decide (Int.ofNat i < Int.ofNat path.length) = true := by simp; omega
    obtain ⟨bp, rest, rfl, hcp⟩ := hp (fun h => by rw [h] at hi; simp at hi)
    have g1 := intsOf_get rest hi
    have w3 := add1 i (by omega)
    have hdr : path.drop i = path[i] :: path.drop (i + 1) := List.drop_eq_getElem_cons hi
    obtain ⟨k, z, t, ds⟩ := d
    obtain ⟨q, c, hv, hE⟩ := hL
    have hv' : (cs.drop off).take 4 = [.int .i64 k, .int .i64 z, .string t, .slice q ds.length c] := by
      have := Value.agg.inj hv
      simpa using congrArg Array.toList this
    have hf3 := field3 hv'
    rw [hdr, atP] at hx
    simp only [D.parts] at hx
    cases hd : ds[path[i]]? with
    | none => rw [hd] at hx; cases hx
    | some d' =>
      rw [hd] at hx
      simp only at hx
      have hpi := (List.getElem?_eq_some_iff.1 hd).1
      obtain ⟨b', off', cs', rfl, hRb, hcs', hle', hL'⟩ := LaidRE.get hE hd
      rw [Nat.zero_add] at hle' hL'
      have e0 : decide (Int.ofNat path[i] < 0) = false := by simp
      have e1 : decide (Int.ofNat path[i] ≥ Int.ofNat ds.length) = false := by simp; omega
      rw [floop_step, Sl_forget]
      unfold l73_0
      simp -implicitDefEqProofs only [go_sem, ↓reduceIte, Nat.reduceLT, Nat.reduceEqDiff, Nat.reduceAdd, Nat.reduceMul, Nat.reduceLeDiff, Nat.reduceSub, r73_2_go, r73_2U, r73_3_go, r73_3U, r73_4_go, r73_4U, r73_6_go, r73_6U, r73_7_go, r73_7U, h.f0, h.g7, h.g8, h.g9, d1, hi, hcp, g1, hc, hf3, e0, e1, hpi, w3, List.mem_cons]
      generalize hff : upd _ 0 _ = f1
      generalize hgg : upd _ 9 _ = gg
      exact ih fuel (i + 1) f1 gg d' b' (off' + path[i] * 4) cs' (by omega) (by omega) hx (by have := count_mem (List.mem_of_getElem? hd); rw [D.count] at hN; omega) hcs' (by omega) hL' {
        f0 := by rw [← hff]; simp -implicitDefEqProofs only [upd_go, kept_go, ↓reduceIte, Nat.reduceEqDiff, Nat.reduceLT, reduceCtorEq]
        g7 := by rw [← hgg]; simp -implicitDefEqProofs only [upd_go, kept_go, ↓reduceIte, Nat.reduceEqDiff, Nat.reduceLT, reduceCtorEq, h.g7, List.mem_cons, true_or, or_true]
        g8 := by rw [← hgg]; simp -implicitDefEqProofs only [upd_go, kept_go, ↓reduceIte, Nat.reduceEqDiff, Nat.reduceLT, reduceCtorEq, h.g8, List.mem_cons, true_or, or_true]
        g9 := by rw [← hgg]; simp -implicitDefEqProofs only [upd_go, kept_go, ↓reduceIte, Nat.reduceEqDiff, Nat.reduceLT, reduceCtorEq] }
theorem place_go (n : Nat) {path : List Nat} {pv : Value} {R Q : Nat → Prop} {σ : FState} (hs : path.length < 100000) {d x : D} (hP : PathV Q σ pv path) {b off : Nat} {cs : List Value} (hx : atP path d = some x) (hN : d.count < 100000) (hc : σ.cells b = some cs) (hle : 4 ≤ cs.length - off) (hL : LaidR R σ (.agg ((cs.drop off).take 4).toArray) d) :
    ∃ b' off' cs', (env (n + 1)).call 73 [.pointer (some ⟨b, off, none⟩), pv] none σ = .ret (.pointer (some ⟨b', off', none⟩)) none σ ∧ σ.cells b' = some cs' ∧ 4 ≤ cs'.length - off' ∧ LaidR R σ (.agg ((cs'.drop off').take 4).toArray) x := by
  obtain ⟨a, cx, rfl, k1⟩ := pathV_slice hP
  rw [env_call, enter73 _ _ _ _ (by simp), Sl_start]
  unfold run73
  simp -implicitDefEqProofs only [go_sem, ↓reduceIte, Nat.reduceLT, Nat.reduceEqDiff, Nat.reduceAdd, Nat.reduceMul, Nat.reduceLeDiff, Nat.reduceSub, r73_0_go, r73_0U, r73_1_go, r73_1U, Option.getD_some, keepPlace]
  generalize hff : upd _ 4 _ = f1
  generalize hgg : upd _ 9 _ = g1
  generalize hbf : bigFuel = fuel
  obtain ⟨f2, g2, b', off', cs', e2, h1, h2, h3, h4⟩ := place_loop (env n) (a := a) (cx := cx) (σ := σ) hs x (fun h => by obtain ⟨b, r, x, _, y⟩ := k1 h; exact ⟨b, r, x, y⟩) path.length fuel 0 f1 g1 d b off cs (by omega) (by rw [← hbf]; show path.length < 1000000000000; omega) hx hN hc hle hL {
    f0 := by rw [← hff]; simp -implicitDefEqProofs only [upd_go, kept_go, ↓reduceIte, Nat.reduceEqDiff, Nat.reduceLT, reduceCtorEq, List.getElem?_cons_zero, List.getElem?_cons_succ, Option.getD_some]
    g7 := by rw [← hgg]; simp -implicitDefEqProofs only [upd_go, kept_go, ↓reduceIte, Nat.reduceEqDiff, Nat.reduceLT, reduceCtorEq]
    g8 := by rw [← hgg]; simp -implicitDefEqProofs only [upd_go, kept_go, ↓reduceIte, Nat.reduceEqDiff, Nat.reduceLT, reduceCtorEq]
    g9 := by rw [← hgg]; simp -implicitDefEqProofs only [upd_go, kept_go, ↓reduceIte, Nat.reduceEqDiff, Nat.reduceLT, reduceCtorEq] <;> rfl }
  rw [e2]
  simp -implicitDefEqProofs only [go_sem, ↓reduceIte, Nat.reduceLT, Nat.reduceEqDiff, Nat.reduceAdd, Nat.reduceMul, Nat.reduceLeDiff, Nat.reduceSub, r73_8_go, r73_8U, h1]
  exact ⟨_, _, _, rfl, h2, h3, h4⟩
theorem deferredAtD (n : Nat) (p q : Value) (σ : FState) : (env (n + 1)).call 125 [p, q] (some .returning) σ = .ret (.tuple #[]) (some .returning) σ := by
  rw [env_defer, enter125 _ _ _ _ (by simp), Sl_start]
  unfold run125
  simp -implicitDefEqProofs only [go_sem, ↓reduceIte, Nat.reduceLT, Nat.reduceEqDiff, Nat.reduceAdd, Nat.reduceMul, Nat.reduceLeDiff, Nat.reduceSub, r125_0_go, r125_0U, r125_3_go, r125_3U, r125_4_go, r125_4U, nilAny]
theorem callAtD (n w : Nat) (cap : Array Value) (x : D) (σ : FState) (hw : Wf σ)
    (h : ∀ σ', Ext σ σ' → Wf σ' → Gives ((env (n + 1)).call w cap.toList none σ') σ' fun v σ'' => LaidR (fun b => σ'.next ≤ b) σ'' v x) :
    Gives ((env (n + 2)).call 100 [.func (.func w) #[] cap] none σ) σ fun v σ' => ∃ u, v = .tuple #[u, .int .i64 0, .int .i64 0] ∧ LaidR (fun b => σ.next ≤ b) σ' u x := by
  rw [env_call, enter100 _ _ _ _ (by simp), Sl_start]
  unfold run100
  have hX1 : Ext σ (((σ.push (.cells [.int .i64 0, .int .i64 0, .string ⟨#[]⟩, .slice none 0 0] TD) none).push (.cells [.int .i64 0] 3) none).push (.cells [.int .i64 0] 32) none) := (((Ext.refl _).push _ _).push _ _).push _ _
  have hw1 := ((hw.push (.cells [.int .i64 0, .int .i64 0, .string ⟨#[]⟩, .slice none 0 0] TD) none).push (.cells [.int .i64 0] 3) none).push (.cells [.int .i64 0] 32) none
  obtain ⟨_, σ2, e2, hX2, hw2, hq⟩ := h _ hX1 hw1
  obtain ⟨k, z, t, ds⟩ := x
  obtain ⟨q, c, rfl, hE⟩ := hq
  have g0 : σ2.heap.get σ.next = _ := (hX2.get σ.next (by simp only [push_next]; omega)).trans (by simp -implicitDefEqProofs only [push_get, push_next, Nat.add_assoc, Nat.reduceAdd, Nat.left_eq_add, reduceCtorEq, ↓reduceIte, Nat.reduceEqDiff] <;> rfl)
  have g1 : σ2.heap.get (σ.next + 1) = _ := (hX2.get (σ.next + 1) (by simp only [push_next]; omega)).trans (by simp -implicitDefEqProofs only [push_get, push_next, Nat.add_assoc, Nat.reduceAdd, Nat.add_left_cancel_iff, reduceCtorEq, ↓reduceIte, Nat.reduceEqDiff] <;> rfl)
  have g2 : σ2.heap.get (σ.next + 2) = _ := (hX2.get (σ.next + 2) (by simp only [push_next]; omega)).trans (by simp -implicitDefEqProofs only [push_get, push_next, Nat.add_assoc, Nat.reduceAdd, Nat.add_left_cancel_iff, reduceCtorEq, ↓reduceIte, Nat.reduceEqDiff] <;> rfl)
  simp -implicitDefEqProofs only [go_sem, ↓reduceIte, Nat.reduceLT, Nat.reduceEqDiff, Nat.reduceAdd, Nat.reduceMul, Nat.reduceLeDiff, Nat.reduceSub, fstoreN, r100_0_go, r100_0U, r100_1_go, r100_1U, r100_2_go, r100_2U, Option.getD_some, e2, g0, g1, g2, aggDatum, aggInt, aggErrno, deferredAtD, fleave_nil, fresults_nil, fresults_cons, fresult_cell]
  have m0 := (hw2 _ _ g0).1
  have m1 := (hw2 _ _ g1).1
  have m2 := (hw2 _ _ g2).1
  exact ⟨_, _, rfl, (((hX1.trans hX2).put _ _ _ (Nat.le_refl _)).put _ _ _ (Nat.le_add_right _ _)).put _ _ _ (Nat.le_add_right _ _), ((hw2.put _ _ _ m0).put _ _ _ m1).put _ _ _ m2, _, rfl, q, c, rfl, hE.keep fun b cs hb hc => by
    simp only [push_next] at hb
    exact ⟨by rw [cells_put, if_neg (by omega), cells_put, if_neg (by omega), cells_put, if_neg (by omega)]; exact hc, by omega⟩⟩
theorem callD (n w : Nat) (cap : Array Value) (x : D) (σ : FState) (hw : Wf σ)
    (h : ∀ σ', Ext σ σ' → Wf σ' → Gives ((env (n + 1)).call w cap.toList none σ') σ' fun v σ'' => LaidR (fun b => σ'.next ≤ b) σ'' v x) :
    Gives ((env (n + 3)).call 58 [.func (.func w) #[] cap] none σ) σ fun v σ' => ∃ u, v = .tuple #[u, .int .i64 0] ∧ LaidR (fun b => σ.next ≤ b) σ' u x := by
  rw [env_call, enter58 _ _ _ _ (by simp), Sl_start]
  unfold run58
  have hX1 : Ext σ (σ.push (.cells [.int .i64 0, .int .i64 0, .string ⟨#[]⟩, .slice none 0 0] TD) none) := (Ext.refl _).push _ _
  obtain ⟨_, σ2, e2, hX2, hw2, u, rfl, hq⟩ := callAtD n w cap x _ (hw.push (.cells [.int .i64 0, .int .i64 0, .string ⟨#[]⟩, .slice none 0 0] TD) none) fun σ' hx hw' => h σ' (hX1.trans hx) hw'
  obtain ⟨k, z, t, ds⟩ := x
  obtain ⟨q, c, rfl, hE⟩ := hq
  have g0 : σ2.heap.get σ.next = _ := (hX2.get σ.next (Nat.lt_succ_self _)).trans (by rw [push_get, if_pos rfl])
  have m0 := (hw2 _ _ g0).1
  have hne : (σ.next = σ2.next) = False := by simp; omega
  have hne' : (σ2.next = σ.next) = False := by simp; omega
  simp -implicitDefEqProofs only [go_sem, ↓reduceIte, Nat.reduceLT, Nat.reduceEqDiff, Nat.reduceAdd, Nat.reduceMul, Nat.reduceLeDiff, Nat.reduceSub, fstoreN, r58_0_go, r58_0U, r58_1_go, r58_1U, r58_2_go, r58_2U, Option.getD_some, e2, g0, aggDatum, fleave_nil, fresults_nil, fresults_cons, fresult_cell, fresult_tmp, hne, hne', List.getElem?_cons_zero]
  exact ⟨_, _, rfl, (((hX1.trans hX2).push _ _).put _ _ _ (by have := (hX1.trans hX2).next; omega)).put _ _ _ (Nat.le_refl _), ((hw2.push _ _).put _ _ _ (Nat.lt_succ_self _)).put _ _ _ (by rw [put_next, push_next]; omega), _, rfl, q, c, rfl, hE.keep fun b cs hb hc => by
    have := hw2.cells hc
    simp only [push_next] at hb
    exact ⟨by rw [cells_put, if_neg (by omega), cells_put, if_neg (by omega), cells_push, if_neg (by omega)]; exact hc, by omega⟩⟩
theorem at1 (M n : Nat) (hM : M = n + 14) (bd bp : Nat) (L : Nat) (hL6 : L ≤ 6) (d x : D) (hF : Fine M L d) (lv : List Value) (h4 : lv.length = 4) (R Q : Nat → Prop) (path : List Nat) (pv : Value) (hs : path.length < 100000) (hx : atP path d = some x) (hxd : x.deep ≤ 7) (hxc : x.count < 100000) (σ : FState) (hw : Wf σ) (hb1 : σ.cells bd = some lv) (hb2 : σ.cells bp = some [pv]) (hL : LaidR R σ (.agg lv.toArray) d) (hP : PathV Q σ pv path) (hR : ∀ b, R b → b < σ.next) :
    Gives ((env (M + 6)).call 72 [.pointer (some ⟨bd, 0, none⟩), .pointer (some ⟨bp, 0, none⟩)] none σ) σ fun v σ' => LaidR (fun b => σ.next ≤ b) σ' v x := by
  have hf := hF.few hL6
  rw [env_call, enter72 _ _ _ _ (by simp), Sl_start]
  unfold run72
  have x0 : Ext σ (σ.push (.cells [.int .i64 0, .int .i64 0, .string ⟨#[]⟩, .slice none 0 0] TD) none) := (Ext.refl _).push _ _
  have hw0 := hw.push (.cells [.int .i64 0, .int .i64 0, .string ⟨#[]⟩, .slice none 0 0] TD) none
  have ne1 : (bd = σ.next) = False := by have := hw.cells hb1; simp; omega
  have ne2 : (bp = σ.next) = False := by have := hw.cells hb2; simp; omega
  obtain ⟨_, σ1, e1, x1, hw1, rfl⟩ := valid_go M d lv h4 R _ hw0 (hL.keep fun b cs hb hc => ⟨(x0.cells (hw.cells hc)).trans hc, hb⟩) (fun b hb => by have := hR b hb; rw [push_next]; omega) (hF.small hL6) (by omega) hF.good
  have x01 := x0.trans x1
  have c1 := (x01.cells (hw.cells hb1)).trans hb1
  have c2 := (x01.cells (hw.cells hb2)).trans hb2
  have ht : lv.take 4 = lv := List.take_of_length_le (by omega)
  have hL1 : LaidR R σ1 (.agg ((lv.drop 0).take 4).toArray) d := by
    rw [List.drop_zero, ht]
    exact hL.keep fun b cs hb hc => ⟨(x01.cells (hw.cells hc)).trans hc, hb⟩
  obtain ⟨b', off', cs', e2, hc', hle', hL'⟩ := place_go (M + 4) (Q := fun _ => True) (σ := σ1) hs (hP.keep fun b cs _ hc => ⟨(x01.cells (hw.cells hc)).trans hc, trivial⟩) hx (by rw [← pieces_length d []]; omega) c1 (by omega) hL1
  have hcp := copy_go (n + 5) 7 x hxd (by omega)
  rw [show n + 5 + 2 * 7 = M + 5 by omega] at hcp
  obtain ⟨_, σ2, e3, x2, hw2, hq⟩ := hcp ((cs'.drop off').take 4) R σ1 hw1 hL'
  obtain ⟨k, z, t, ds⟩ := x
  obtain ⟨q, c, rfl, hE⟩ := hq
  have g0 : σ2.heap.get σ.next = _ := ((x1.trans x2).get σ.next (Nat.lt_succ_self _)).trans (by rw [push_get, if_pos rfl])
  have m0 := (hw2 _ _ g0).1
  simp -implicitDefEqProofs only [go_sem, ↓reduceIte, Nat.reduceLT, Nat.reduceEqDiff, Nat.reduceAdd, Nat.reduceMul, Nat.reduceLeDiff, Nat.reduceSub, fstoreN, r72_0_go, r72_0U, r72_1_go, r72_1U, r72_2_go, r72_2U, Option.getD_some, hb1, hb2, ne1, ne2, c1, c2, h4, ht, e1, e2, e3, hc', hle', g0, aggDatum, fleave_nil, fresults_nil, fresults_cons, fresult_cell, Nat.le_refl]
  have n1 := x1.next
  rw [push_next] at n1
  exact ⟨_, _, rfl, (x01.trans x2).put _ _ _ (Nat.le_refl _), hw2.put _ _ _ m0, q, c, rfl, hE.keep fun b cs hb hc => ⟨by rw [cells_put, if_neg (by omega)]; exact hc, by omega⟩⟩
/-- datum.At. -/
theorem atD_go (M n : Nat) (hM : M = n + 14) (L : Nat) (hL6 : L ≤ 6) (d x : D) (hF : Fine M L d) (lv : List Value) (h4 : lv.length = 4) (R Q : Nat → Prop) (path : List Nat) (pv : Value) (hs : path.length < 100000) (hx : atP path d = some x) (hxd : x.deep ≤ 7) (hxc : x.count < 100000) (σ : FState) (hw : Wf σ) (hL : LaidR R σ (.agg lv.toArray) d) (hP : PathV Q σ pv path) (hR : ∀ b, R b → b < σ.next) :
    Gives ((env (M + 9)).call 23 [.agg lv.toArray, pv] none σ) σ fun w σ' => ∃ u, w = .tuple #[u, .int .i64 0] ∧ LaidR (fun b => σ.next ≤ b) σ' u x := by
  rw [env_call, enter23 _ _ _ _ (by simp), Sl_start]
  unfold run23
  obtain ⟨o1, o2, o3⟩ := hP.one
  have x1 : Ext σ (((σ.push (.cells lv TD) none).push (.cells [pv] 22) none).push (.cells [.int .i64 0, .int .i64 0, .string ⟨#[]⟩, .slice none 0 0] TD) none) := (((Ext.refl _).push _ _).push _ _).push _ _
  have hw1 := ((hw.push (.cells lv TD) none).push (.cells [pv] 22) none).push (.cells [.int .i64 0, .int .i64 0, .string ⟨#[]⟩, .slice none 0 0] TD) none
  have c1 : (((σ.push (.cells lv TD) none).push (.cells [pv] 22) none).push (.cells [.int .i64 0, .int .i64 0, .string ⟨#[]⟩, .slice none 0 0] TD) none).cells σ.next = some lv := by rw [cells_push, if_neg (by simp only [push_next]; omega), cells_push, if_neg (by rw [push_next]; omega), cells_push, if_pos rfl]; rfl
  have c2 : (((σ.push (.cells lv TD) none).push (.cells [pv] 22) none).push (.cells [.int .i64 0, .int .i64 0, .string ⟨#[]⟩, .slice none 0 0] TD) none).cells (σ.next + 1) = some [pv] := by rw [cells_push, if_neg (by simp only [push_next]; omega), cells_push, if_pos (by rw [push_next])]; rfl
  have g4 : (((σ.push (.cells lv TD) none).push (.cells [pv] 22) none).push (.cells [.int .i64 0, .int .i64 0, .string ⟨#[]⟩, .slice none 0 0] TD) none).heap.get (σ.next + 2) = some ⟨.cells [.int .i64 0, .int .i64 0, .string ⟨#[]⟩, .slice none 0 0] TD, false, none, σ.clock + 2⟩ := by rw [push_get, if_pos (by simp only [push_next])]; rfl
  obtain ⟨_, σ2, e2, x2, hw2, u, rfl, hq⟩ := callD (M + 5) 72 #[.pointer (some ⟨σ.next, 0, none⟩), .pointer (some ⟨σ.next + 1, 0, none⟩)] x _ hw1 fun σ' hx' hw' =>
    at1 M n hM σ.next (σ.next + 1) L hL6 d x hF lv h4 R (fun _ => True) path pv hs hx hxd hxc σ' hw' ((hx'.cells (hw1.cells c1)).trans c1) ((hx'.cells (hw1.cells c2)).trans c2) (hL.keep fun b cs hb hc => ⟨((x1.trans hx').cells (hw.cells hc)).trans hc, hb⟩) (hP.keep fun b cs _ hc => ⟨((x1.trans hx').cells (hw.cells hc)).trans hc, trivial⟩) (fun b hb => by have := hR b hb; have := (x1.trans hx').next; omega)
  obtain ⟨k, z, t, ds⟩ := x
  obtain ⟨q, c, rfl, hE⟩ := hq
  have g4' := (x2.get _ (hw1 _ _ g4).1).trans g4
  have m4 := (hw2 _ _ g4').1
  simp -implicitDefEqProofs only [go_sem, ↓reduceIte, Nat.reduceLT, Nat.reduceEqDiff, Nat.reduceAdd, Nat.reduceMul, Nat.reduceLeDiff, Nat.reduceSub, fstoreN, r23_0_go, r23_0U, r23_1_go, r23_1U, Option.getD_some, o1, o2, o3, e2, g4', aggDatum, fleave_nil, fresults_nil, fresults_cons, fresult_cell, fresult_tmp, List.getElem?_cons_zero, List.getElem?_cons_succ]
  exact ⟨_, _, rfl, (x1.trans x2).put _ _ _ (by omega), hw2.put _ _ _ m4, _, rfl, q, c, rfl, hE.keep fun b cs hb hc => by
    simp only [push_next] at hb
    exact ⟨by rw [cells_put, if_neg (by omega)]; exact hc, by omega⟩⟩
end Go.Proofs.YtodkeaoikjjneaaGreatDoor
/- Parts at paths; what is found, in order. -/
namespace Go.Proofs.YtodkeaoikjjneaaGreatDoor
open Go Go.Eng
mutual
theorem same_comm : ∀ (a b : D), D.same a b = D.same b a
  | .mk k n t ds, .mk k' n' t' ds' => by
    rw [show D.same (.mk k n t ds) (.mk k' n' t' ds') = (decide (k = k') && decide (n = n') && (t.toList == t'.toList) && D.sames ds ds') from rfl, show D.same (.mk k' n' t' ds') (.mk k n t ds) = (decide (k' = k) && decide (n' = n) && (t'.toList == t.toList) && D.sames ds' ds) from rfl, sames_comm ds ds']
    rw [show decide (k = k') = decide (k' = k) by simp [eq_comm], show decide (n = n') = decide (n' = n) by simp [eq_comm], show (t.toList == t'.toList) = (t'.toList == t.toList) from BEq.comm]
theorem sames_comm : ∀ (a b : List D), D.sames a b = D.sames b a
  | [], [] => rfl
  | [], _ :: _ => rfl
  | _ :: _, [] => rfl
  | a :: l, b :: r => by
    rw [show D.sames (a :: l) (b :: r) = (D.same a b && D.sames l r) from rfl, show D.sames (b :: r) (a :: l) = (D.same b a && D.sames r l) from rfl, same_comm a b, sames_comm l r]
end
mutual
theorem pieces_at : ∀ (d : D) (p : List Nat) (y : List Nat × D), y ∈ d.pieces p → ∃ r, y.1 = p ++ r ∧ atP r d = some y.2
  | .mk k z t ds, p, y, h => by
    rw [D.pieces] at h
    rcases List.mem_cons.1 h with rfl | h
    · exact ⟨[], by simp, rfl⟩
    · obtain ⟨j, r, d', h1, h2, h3⟩ := piecesL_at ds p 0 y h
      refine ⟨(0 + j) :: r, h1, ?_⟩
      rw [atP]
      simp only [D.parts]
      rw [Nat.zero_add, h2]
      exact h3
theorem piecesL_at : ∀ (ds : List D) (p : List Nat) (i : Nat) (y : List Nat × D), y ∈ D.piecesL p i ds → ∃ j r d', y.1 = p ++ (i + j) :: r ∧ ds[j]? = some d' ∧ atP r d' = some y.2
  | [], p, i, y, h => by simp [D.piecesL] at h
  | d :: ds, p, i, y, h => by
    rw [D.piecesL, List.mem_append] at h
    rcases h with h | h
    · obtain ⟨r, h1, h2⟩ := pieces_at d _ y h
      exact ⟨0, r, d, by rw [h1]; simp, rfl, h2⟩
    · obtain ⟨j, r, d', h1, h2, h3⟩ := piecesL_at ds p (i + 1) y h
      exact ⟨j + 1, r, d', by rw [h1, show i + 1 + j = i + (j + 1) by omega], by simpa using h2, h3⟩
end
theorem made_at : ∀ (path : List Nat) (L : Nat) (d x : D), Made L d → atP path d = some x → ∃ L', L' ≤ L ∧ Made L' x
  | [], L, d, x, hm, h => by
    rw [atP] at h
    cases h
    exact ⟨L, Nat.le_refl _, hm⟩
  | i :: path, L, .mk k z t ds, x, hm, h => by
    rw [atP] at h
    simp only [D.parts] at h
    cases hd : ds[i]? with
    | none => rw [hd] at h; cases h
    | some d' =>
      rw [hd] at h
      obtain ⟨L', h1, h2⟩ := made_at path (L - 1) d' x (Fine.part (m := 0) hm (List.mem_of_getElem? hd)) h
      exact ⟨L', by omega, h2⟩
theorem foundIn_append (x : D) (a b : List (List Nat × D)) : foundIn x (a ++ b) = foundIn x a ++ foundIn x b := by
  unfold foundIn
  rw [List.filter_append, List.map_append]
theorem foundIn_take (x : D) (l : List (List Nat × D)) (i : Nat) (y : List Nat × D) (h : l[i]? = some y) : foundIn x (l.take (i + 1)) = foundIn x (l.take i) ++ (if D.same y.2 x = true then [y.1] else []) := by
  rw [List.take_add_one, h]
  exact foundIn_snoc x _ y
/-- What is found next. -/
theorem foundIn_get (x : D) (l : List (List Nat × D)) (i : Nat) (y : List Nat × D) (h : l[i]? = some y) (hs : D.same y.2 x = true) : (foundIn x l)[(foundIn x (l.take i)).length]? = some y.1 := by
  have h1 : l = l.take (i + 1) ++ l.drop (i + 1) := (List.take_append_drop _ _).symm
  have h2 : foundIn x l = foundIn x (l.take i) ++ ([y.1] ++ foundIn x (l.drop (i + 1))) := by
    have := foundIn_take x l i y h
    rw [if_pos hs] at this
    rw [← List.append_assoc, ← this, ← foundIn_append, ← h1]
  rw [h2, List.getElem?_append_right (Nat.le_refl _), Nat.sub_self]
  rfl
theorem foundIn_le (x : D) (l : List (List Nat × D)) : (foundIn x l).length ≤ l.length := by
  unfold foundIn
  rw [List.length_map]
  exact List.length_filter_le _ _
theorem vecs_slice {T : TypeId} {Q : Nat → Prop} {σ : FState} {s : Value} {vs : List Value} (h : Vecs T Q σ s vs) : ∃ a c, s = .slice a vs.length c ∧ (vs ≠ [] → ∃ b, a = some ⟨b, 0, none⟩ ∧ σ.cells b = some vs) := by
  rcases h with ⟨rfl, rfl⟩ | ⟨b, h, _⟩
  · exact ⟨none, 0, rfl, fun h => absurd rfl h⟩
  · obtain ⟨h1, h2⟩ := h.cells
    exact ⟨_, _, h1, fun _ => ⟨b, rfl, h2⟩⟩
end Go.Proofs.YtodkeaoikjjneaaGreatDoor
/- Data, one put in the place of another. -/
namespace Go.Proofs.YtodkeaoikjjneaaGreatDoor
open Go Go.Eng
theorem toList_inj {a b : ByteArray} (h : a.toList = b.toList) : a = b := by
  rw [ByteArray.toList_eq, ByteArray.toList_eq] at h
  obtain ⟨⟨x⟩⟩ := a
  obtain ⟨⟨y⟩⟩ := b
  simp at h
  rw [h]
mutual
theorem same_eq : ∀ (a b : D), D.same a b = true → a = b
  | .mk k n t ds, .mk k' n' t' ds', h => by
    rw [show D.same (.mk k n t ds) (.mk k' n' t' ds') = (decide (k = k') && decide (n = n') && (t.toList == t'.toList) && D.sames ds ds') from rfl] at h
    simp only [Bool.and_eq_true, decide_eq_true_eq] at h
    obtain ⟨⟨⟨rfl, rfl⟩, h3⟩, h4⟩ := h
    rw [toList_inj (eq_of_beq h3), sames_eq ds ds' h4]
theorem sames_eq : ∀ (a b : List D), D.sames a b = true → a = b
  | [], [], _ => rfl
  | [], _ :: _, h => by cases h
  | _ :: _, [], h => by cases h
  | a :: l, b :: r, h => by
    rw [show D.sames (a :: l) (b :: r) = (D.same a b && D.sames l r) from rfl, Bool.and_eq_true] at h
    rw [same_eq a b h.1, sames_eq l r h.2]
end
mutual
theorem same_self : ∀ (a : D), D.same a a = true
  | .mk k n t ds => by
    rw [show D.same (.mk k n t ds) (.mk k n t ds) = (decide (k = k) && decide (n = n) && (t.toList == t.toList) && D.sames ds ds) from rfl, sames_self ds]
    simp
theorem sames_self : ∀ (l : List D), D.sames l l = true
  | [] => rfl
  | a :: l => by
    rw [show D.sames (a :: l) (a :: l) = (D.same a a && D.sames l l) from rfl, same_self a, sames_self l]
    rfl
end
theorem same_iff (a b : D) : D.same a b = true ↔ a = b := ⟨same_eq a b, fun h => h ▸ same_self a⟩
mutual
/-- y in the place of what equals x. -/
def repl (x y : D) : D → D
  | .mk k z t ds => if D.same (.mk k z t ds) x = true then y else .mk k z t (repls x y ds)
def repls (x y : D) : List D → List D
  | [] => []
  | d :: ds => repl x y d :: repls x y ds
end
theorem repls_map (x y : D) : ∀ ds : List D, repls x y ds = ds.map (repl x y)
  | [] => rfl
  | d :: ds => by rw [repls, repls_map x y ds]; rfl
theorem repls_length (x y : D) (ds : List D) : (repls x y ds).length = ds.length := by rw [repls_map, List.length_map]
mutual
theorem repl_self (x : D) : ∀ d, repl x x d = d
  | .mk k z t ds => by
    rw [repl]
    split
    · rename_i h; exact (same_eq _ _ h).symm
    · rw [repls_self x ds]
theorem repls_self (x : D) : ∀ ds, repls x x ds = ds
  | [] => rfl
  | d :: ds => by rw [repls, repl_self x d, repls_self x ds]
end
/-- How often x is in d. -/
def occ (x d : D) : Nat := ((d.pieces []).filter fun y => D.same y.2 x).length
mutual
def occN (x : D) : D → Nat
  | .mk k z t ds => (if D.same (.mk k z t ds) x = true then 1 else 0) + occsN x ds
def occsN (x : D) : List D → Nat
  | [] => 0
  | d :: ds => occN x d + occsN x ds
end
mutual
theorem found_len (x : D) : ∀ (d : D) (p : List Nat), (foundIn x (d.pieces p)).length = occN x d
  | .mk k z t ds, p => by
    rw [D.pieces, occN]
    have := founds_len x ds p 0
    unfold foundIn at this ⊢
    rw [List.filter_cons]
    split
    · rw [List.map_cons, List.length_cons, this]; omega
    · rw [this]; omega
theorem founds_len (x : D) : ∀ (ds : List D) (p : List Nat) (i : Nat), (foundIn x (D.piecesL p i ds)).length = occsN x ds
  | [], p, i => rfl
  | d :: ds, p, i => by rw [D.piecesL, foundIn_append, List.length_append, found_len x d _, founds_len x ds p (i + 1), occsN]
end
mutual
theorem occ_small (x : D) : ∀ d : D, d.count < x.count → occN x d = 0
  | .mk k z t ds, h => by
    rw [occN, if_neg (fun e => by rw [same_eq _ _ e] at h; omega)]
    rw [D.count] at h
    rw [occs_small x ds (by omega)]
theorem occs_small (x : D) : ∀ ds : List D, D.counts ds < x.count → occsN x ds = 0
  | [], _ => rfl
  | d :: ds, h => by
    rw [D.counts] at h
    rw [occsN, occ_small x d (by omega), occs_small x ds (by omega)]
end
mutual
/-- How many pieces there are then. -/
theorem repl_count (x y : D) : ∀ d : D, (repl x y d).count + occN x d * x.count = d.count + occN x d * y.count
  | .mk k z t ds => by
    rw [repl, occN]
    split
    · rename_i h
      have hx := same_eq _ _ h
      have hc : D.counts ds < x.count := by rw [← hx, D.count]; omega
      rw [occs_small x ds hc, ← hx]
      omega
    · rw [D.count, D.count, Nat.zero_add]
      have := repls_count x y ds
      omega
theorem repls_count (x y : D) : ∀ ds : List D, D.counts (repls x y ds) + occsN x ds * x.count = D.counts ds + occsN x ds * y.count
  | [] => by simp [repls, D.counts, occsN]
  | d :: ds => by
    rw [repls, D.counts, D.counts, occsN, Nat.add_mul, Nat.add_mul]
    have := repl_count x y d
    have := repls_count x y ds
    omega
end
mutual
theorem repl_none (x y : D) : ∀ d : D, repl x y d = d ∨ 0 < occN y (repl x y d)
  | .mk k z t ds => by
    rw [repl]
    split
    · right
      cases y with
      | mk k' z' t' ds' => rw [occN, if_pos (same_self _)]; omega
    · rcases repls_none x y ds with h | h
      · left; rw [h]
      · right; rw [occN]; omega
theorem repls_none (x y : D) : ∀ ds : List D, repls x y ds = ds ∨ 0 < occsN y (repls x y ds)
  | [] => .inl rfl
  | d :: ds => by
    rw [repls, occsN]
    rcases repl_none x y d with h | h
    · rcases repls_none x y ds with h' | h'
      · left; rw [h, h']
      · right; omega
    · right; omega
end
mutual
/-- x is gone. -/
theorem repl_gone (x y : D) (h1 : occN x y = 0) (h2 : occN y x = 0) : ∀ d : D, occN x (repl x y d) = 0
  | .mk k z t ds => by
    rw [repl]
    split
    · exact h1
    · rename_i hne
      rw [occN, repls_gone x y h1 h2 ds, Nat.add_zero]
      split
      · rename_i h
        have hx := same_eq _ _ h
        rcases repls_none x y ds with h' | h'
        · rw [h'] at hx
          exact absurd ((same_iff _ _).2 hx) hne
        · rw [← hx, occN] at h2
          omega
      · rfl
theorem repls_gone (x y : D) (h1 : occN x y = 0) (h2 : occN y x = 0) : ∀ ds : List D, occsN x (repls x y ds) = 0
  | [] => rfl
  | d :: ds => by rw [repls, occsN, repl_gone x y h1 h2 d, repls_gone x y h1 h2 ds]
end
theorem most_mono : ∀ {L L' : Nat}, L ≤ L' → most L ≤ most L'
  | 0, L', _ => most_pos L'
  | L + 1, 0, h => by omega
  | L + 1, L' + 1, h => by rw [most, most]; have := most_mono (L := L) (L' := L') (by omega); omega
theorem fine_mono {m L L' : Nat} (h : L ≤ L') {d : D} (hF : Fine m L d) : Fine m L' d := fun path => ⟨Nat.le_trans (hF path).1 (most_mono h), fun x hx => by
  have := (hF path).2 x hx
  exact ⟨by omega, this.2⟩⟩
theorem fine_repl (n : Nat) (x : D) {L' : Nat} {y : D} (hy : Fine (n + 20) L' y) : ∀ {L : Nat} {d : D}, Made L d → Fine (n + 20) (L + L') (repl x y d) := by
  intro L d h
  have hys : ∀ L, Fine (n + 20) (L + L') y := fun L => fine_mono (by omega) hy
  induction h with
  | leaf L d h =>
    obtain ⟨k, z, t, l⟩ := d
    obtain ⟨k', rfl, hg, rfl⟩ := leaf_good n h
    rw [repl]
    split
    · exact hys L
    · exact fine_leaf fun k z t ds e => by cases e; exact ⟨k', rfl, hg⟩
  | pair L a b ha hb iha ihb =>
    rw [repl]
    split
    · exact hys (L + 1)
    · rw [show L + 1 + L' = L + L' + 1 by omega]
      refine fine_mk (by simp [repls]) (fun k z t ds e => ?_) fun d hd => ?_
      · cases e
        exact ⟨5, rfl, by rw [repls_length]; exact .pair⟩
      · simp only [repls, List.mem_cons, List.not_mem_nil, or_false] at hd
        rcases hd with rfl | rfl
        · exact iha
        · exact ihb
  | vec L l hl h ih =>
    rw [repl]
    split
    · exact hys (L + 1)
    · rw [show L + 1 + L' = L + L' + 1 by omega]
      refine fine_mk (by rw [repls_length]; exact hl) (fun k z t ds e => ?_) fun d hd => ?_
      · cases e
        exact ⟨6, rfl, .vec _⟩
      · rw [repls_map, List.mem_map] at hd
        obtain ⟨d', hd', rfl⟩ := hd
        exact ih d' hd'
end Go.Proofs.YtodkeaoikjjneaaGreatDoor
/- A datum at a path of another one; trees of their own in memory. -/
namespace Go.Proofs.YtodkeaoikjjneaaGreatDoor
open Go Go.Eng
/-- x at a path. -/
def putP : List Nat → D → D → D
  | [], x, _ => x
  | i :: p, x, .mk k z t ds => match ds[i]? with
    | some d' => .mk k z t (ds.set i (putP p x d'))
    | none => .mk k z t ds
theorem at_put : ∀ (p : List Nat) (x d w : D), atP p d = some w → atP p (putP p x d) = some x
  | [], x, d, w, _ => rfl
  | i :: p, x, .mk k z t ds, w, h => by
    rw [atP] at h
    simp only [D.parts] at h
    cases hd : ds[i]? with
    | none => rw [hd] at h; cases h
    | some d' =>
      rw [hd] at h
      have hi := (List.getElem?_eq_some_iff.1 hd).1
      rw [putP, hd]
      simp only
      rw [atP]
      simp only [D.parts]
      rw [List.getElem?_set_self hi]
      exact at_put p x d' w h
theorem put_put : ∀ (p : List Nat) (x d w : D), atP p d = some w → putP p w (putP p x d) = d
  | [], x, d, w, h => by rw [atP] at h; cases h; rfl
  | i :: p, x, .mk k z t ds, w, h => by
    rw [atP] at h
    simp only [D.parts] at h
    cases hd : ds[i]? with
    | none => rw [hd] at h; cases h
    | some d' =>
      rw [hd] at h
      have hi := (List.getElem?_eq_some_iff.1 hd).1
      rw [putP, hd]
      simp only
      rw [putP, List.getElem?_set_self hi]
      simp only
      rw [put_put p x d' w h, List.set_set]
      congr
      obtain ⟨_, rfl⟩ := List.getElem?_eq_some_iff.1 hd
      exact List.set_getElem_self hi
theorem put_same : ∀ (p : List Nat) (d w : D), atP p d = some w → putP p w d = d
  | [], d, w, h => by rw [atP] at h; cases h; rfl
  | i :: p, .mk k z t ds, w, h => by
    rw [atP] at h
    simp only [D.parts] at h
    cases hd : ds[i]? with
    | none => rw [hd] at h; cases h
    | some d' =>
      rw [hd] at h
      have hi := (List.getElem?_eq_some_iff.1 hd).1
      rw [putP, hd]
      simp only
      rw [put_same p d' w h]
      congr
      obtain ⟨_, rfl⟩ := List.getElem?_eq_some_iff.1 hd
      exact List.set_getElem_self hi
/-- Other paths, of which none begins with the other one. -/
theorem at_other : ∀ (p o : List Nat) (x d : D), ¬ p <+: o → ¬ o <+: p → atP o (putP p x d) = atP o d
  | [], o, x, d, h, _ => absurd (List.nil_prefix) h
  | _ :: _, [], x, d, _, h => absurd (List.nil_prefix) h
  | i :: p, j :: o, x, .mk k z t ds, h1, h2 => by
    rw [putP]
    cases hd : ds[i]? with
    | none => rfl
    | some d' =>
      have hi := (List.getElem?_eq_some_iff.1 hd).1
      simp only
      rw [atP, atP]
      simp only [D.parts]
      by_cases hij : i = j
      · subst hij
        rw [List.getElem?_set_self hi, hd]
        simp only
        exact at_other p o x d' (fun h => h1 (by rw [List.cons_prefix_cons]; exact ⟨rfl, h⟩)) (fun h => h2 (by rw [List.cons_prefix_cons]; exact ⟨rfl, h⟩))
      · rw [List.getElem?_set_ne hij]
theorem counts_set : ∀ (ds : List D) (i : Nat) (d e : D), ds[i]? = some d → D.counts (ds.set i e) + d.count = D.counts ds + e.count
  | [], i, d, e, h => by simp at h
  | a :: ds, 0, d, e, h => by
    simp at h
    subst h
    simp only [List.set_cons_zero, D.counts]
    omega
  | a :: ds, i + 1, d, e, h => by
    simp at h
    simp only [List.set_cons_succ, D.counts]
    have := counts_set ds i d e h
    omega
theorem put_count : ∀ (p : List Nat) (x d w : D), atP p d = some w → (putP p x d).count + w.count = d.count + x.count
  | [], x, d, w, h => by rw [atP] at h; cases h; rw [putP]; omega
  | i :: p, x, .mk k z t ds, w, h => by
    rw [atP] at h
    simp only [D.parts] at h
    cases hd : ds[i]? with
    | none => rw [hd] at h; cases h
    | some d' =>
      rw [hd] at h
      rw [putP, hd]
      simp only
      rw [D.count, D.count]
      have := counts_set ds i d' (putP p x d') hd
      have := put_count p x d' w h
      omega
/-- A datum as functions take it. -/
structure Okay (m : Nat) (d : D) : Prop where
  good : AllGood m (d.pieces [])
  few : d.count ≤ 2000
  small : Small (d.pieces [])
  deep : d.deep ≤ 8
theorem Fine.okay {m L : Nat} {d : D} (h : Fine m L d) (hL : L ≤ 7) (hc : d.count ≤ 2000) : Okay m d := ⟨h.good, hc, fun x hx => by
  have := (h []).2 x hx
  rw [List.length_nil] at this
  exact ⟨by omega, by omega⟩, by have := h.deep_le; omega⟩
theorem fine_put (n : Nat) {L' : Nat} {x : D} (hx : Fine (n + 20) L' x) : ∀ (p : List Nat) (L : Nat) (d w : D), Made L d → atP p d = some w → Fine (n + 20) (L + L') (putP p x d)
  | [], L, d, w, _, _ => fine_mono (by omega) hx
  | i :: p, L, .mk k z t ds, w, hm, h => by
    rw [atP] at h
    simp only [D.parts] at h
    cases hd : ds[i]? with
    | none => rw [hd] at h; cases h
    | some d' =>
      rw [hd] at h
      have hi := (List.getElem?_eq_some_iff.1 hd).1
      have hmem := List.mem_of_getElem? hd
      have hm' := Fine.part (m := 0) hm hmem
      have ih := fine_put n hx p (L - 1) d' w hm' h
      have hF := made_fine n hm
      rw [putP, hd]
      simp only
      have hL1 : 1 ≤ L := by
        cases hm with
        | leaf L d h => cases h <;> simp at hi
        | pair => omega
        | vec => omega
      rw [show L + L' = (L - 1 + L') + 1 by omega]
      refine fine_mk (by rw [List.length_set]; exact ((hF []).2 ([], .mk k z t ds) (by rw [D.pieces]; exact List.mem_cons_self)).2.1) (fun k1 z1 t1 ds1 e => ?_) fun e he => ?_
      · cases e
        obtain ⟨k', hk, hg⟩ := ((hF []).2 ([], .mk k z t ds) (by rw [D.pieces]; exact List.mem_cons_self)).2.2 k z t ds rfl
        exact ⟨k', hk, by rw [List.length_set]; exact hg⟩
      · rcases List.mem_or_eq_of_mem_set he with he | rfl
        · exact fine_mono (by omega) (made_fine n (Fine.part (m := 0) hm he))
        · exact ih
end Go.Proofs.YtodkeaoikjjneaaGreatDoor
/- Trees of their own in memory: no block in two places. -/
namespace Go.Proofs.YtodkeaoikjjneaaGreatDoor
open Go Go.Eng
inductive LaidI (σ : FState) : Nat → Nat → Value → D → Prop
  | leaf (lo hi : Nat) (k n : Int) (t : ByteArray) (p : Option Addr) (c : Nat) : LaidI σ lo hi (.agg #[.int .i64 k, .int .i64 n, .string t, .slice p 0 c]) (.mk k n t [])
  | node (lo hi : Nat) (k n : Int) (t : ByteArray) (b c : Nat) (cs : List Value) (ds : List D) (mid : Nat → Nat) (ver : Nat) (h1 : lo ≤ b) (h2 : b < mid 0) (h3 : mid ds.length ≤ hi) (h4 : ∀ i, i < ds.length → mid i ≤ mid (i + 1)) (h5 : σ.heap.get b = some ⟨.cells cs TD, false, none, ver⟩) (h6 : cs.length = ds.length * 4) (h7 : ∀ i d, ds[i]? = some d → LaidI σ (mid i) (mid (i + 1)) (.agg ((cs.drop (i * 4)).take 4).toArray) d) : LaidI σ lo hi (.agg #[.int .i64 k, .int .i64 n, .string t, .slice (some ⟨b, 0, none⟩) ds.length c]) (.mk k n t ds)
theorem mid_le {mid : Nat → Nat} {n : Nat} (h4 : ∀ i, i < n → mid i ≤ mid (i + 1)) : ∀ (j i : Nat), i + j ≤ n → mid i ≤ mid (i + j)
  | 0, i, _ => Nat.le_refl _
  | j + 1, i, h => Nat.le_trans (mid_le h4 j i (by omega)) (h4 (i + j) (by omega))
theorem laidRE_of {R : Nat → Prop} {σ : FState} {b : Nat} {cs : List Value} (hb : σ.cells b = some cs) (hR : R b) : ∀ (es : List D) (i : Nat), (i + es.length) * 4 ≤ cs.length → (∀ j e, es[j]? = some e → LaidR R σ (.agg ((cs.drop ((i + j) * 4)).take 4).toArray) e) → LaidRE R σ (some ⟨b, 0, none⟩) i es
  | [], _, _, _ => trivial
  | e :: es, i, hl, h => ⟨⟨b, 0, cs, rfl, hR, hb, by rw [List.length_cons] at hl; omega, by have := h 0 e rfl; rwa [Nat.add_zero, ← Nat.zero_add (i * 4)] at this⟩, laidRE_of hb hR es (i + 1) (by rw [List.length_cons] at hl; omega) fun j e' he => by
    have := h (j + 1) e' (by simpa using he)
    rwa [show i + (j + 1) = i + 1 + j by omega] at this⟩
theorem LaidI.laid {σ : FState} {lo hi : Nat} {v : Value} {d : D} (h : LaidI σ lo hi v d) : LaidR (fun b => lo ≤ b ∧ b < hi) σ v d := by
  induction h with
  | leaf lo hi k n t p c => exact ⟨p, c, rfl, trivial⟩
  | node lo hi k n t b c cs ds mid ver h1 h2 h3 h4 h5 h6 h7 ih =>
    have m0 := mid_le h4 ds.length 0 (by omega)
    rw [Nat.zero_add] at m0
    refine ⟨_, c, rfl, laidRE_of (cells_of_get h5) ⟨h1, by omega⟩ ds 0 (by omega) fun j e he => ?_⟩
    have hj := (List.getElem?_eq_some_iff.1 he).1
    rw [Nat.zero_add]
    have a1 := mid_le h4 j 0 (by omega)
    have a2 := mid_le h4 (ds.length - (j + 1)) (j + 1) (by omega)
    rw [show j + 1 + (ds.length - (j + 1)) = ds.length by omega] at a2
    rw [Nat.zero_add] at a1
    exact (ih j e he).keep fun c cs hc hcs => ⟨hcs, by omega, by omega⟩
theorem LaidI.keep {σ σ' : FState} {lo hi : Nat} {v : Value} {d : D} (h : LaidI σ lo hi v d) : (∀ b e, lo ≤ b → b < hi → σ.heap.get b = some e → σ'.heap.get b = some e) → LaidI σ' lo hi v d := by
  induction h with
  | leaf lo hi k n t p c => exact fun _ => .leaf lo hi k n t p c
  | node lo hi k n t b c cs ds mid ver h1 h2 h3 h4 h5 h6 h7 ih =>
    intro hk
    have m0 := mid_le h4 ds.length 0 (by omega)
    rw [Nat.zero_add] at m0
    refine .node lo hi k n t b c cs ds mid ver h1 h2 h3 h4 (hk b _ h1 (by omega) h5) h6 fun i d hd => ih i d hd fun x xs hx hx' hc => ?_
    have hi' := (List.getElem?_eq_some_iff.1 hd).1
    have a1 := mid_le h4 i 0 (by omega)
    have a2 := mid_le h4 (ds.length - (i + 1)) (i + 1) (by omega)
    rw [show i + 1 + (ds.length - (i + 1)) = ds.length by omega] at a2
    rw [Nat.zero_add] at a1
    exact hk x xs (by omega) (by omega) hc
theorem LaidI.wide {σ : FState} {lo hi lo' hi' : Nat} {v : Value} {d : D} (h : LaidI σ lo hi v d) (hl : lo' ≤ lo) (hh : hi ≤ hi') : LaidI σ lo' hi' v d := by
  cases h with
  | leaf _ _ k n t p c => exact .leaf lo' hi' k n t p c
  | node _ _ k n t b c cs ds mid ver h1 h2 h3 h4 h5 h6 h7 => exact .node lo' hi' k n t b c cs ds mid ver (by omega) h2 (by omega) h4 h5 h6 h7
/-- Where a path leads to in memory. -/
inductive SpotAt (σ : FState) : List Nat → Nat → Nat → Nat → Nat → Prop
  | nil (b off : Nat) : SpotAt σ [] b off b off
  | cons (i : Nat) (p : List Nat) (b off bb o l c b' off' : Nat) (cs : List Value) (h1 : σ.cells b = some cs) (h2 : cs[off + 3]? = some (.slice (some ⟨bb, o, none⟩) l c)) (h3 : SpotAt σ p bb (o + i * 4) b' off') : SpotAt σ (i :: p) b off b' off'
theorem splice_other (cs l4 : List Value) (off j : Nat) (hl : l4.length = 4) (ho : off + 4 ≤ cs.length) (h : j + 4 ≤ off ∨ off + 4 ≤ j) : ((cs.take off ++ l4 ++ cs.drop (off + 4)).drop j).take 4 = (cs.drop j).take 4 := by
  apply List.ext_getElem?
  intro i
  rw [List.getElem?_take, List.getElem?_take]
  split
  · rw [List.getElem?_drop, List.getElem?_drop]
    rcases h with h | h
    · rw [List.append_assoc, List.getElem?_append_left (by rw [List.length_take]; omega), List.getElem?_take, if_pos (by omega)]
    · rw [List.getElem?_append_right (by rw [List.length_append, List.length_take]; omega), List.getElem?_drop, List.length_append, List.length_take, hl]
      congr 1
      omega
  · rfl
theorem splice_self (cs l4 : List Value) (off : Nat) (hl : l4.length = 4) (ho : off + 4 ≤ cs.length) : ((cs.take off ++ l4 ++ cs.drop (off + 4)).drop off).take 4 = l4 := by
  rw [List.append_assoc, List.drop_append_of_le_length (by rw [List.length_take]; omega), List.drop_eq_nil_of_le (by rw [List.length_take]; omega), List.nil_append, List.take_append_of_le_length (by omega), List.take_of_length_le (by omega)]
/-- Writing at a spot. -/
theorem spot_put (σ σ' : FState) (x : D) (l4 : List Value) (X : Nat → Prop) (hl4 : l4.length = 4) (hX : LaidR X σ' (.agg l4.toArray) x) (b' off' : Nat) : ∀ (p : List Nat) (d w : D) (lo hi b off ver : Nat) (cs : List Value), σ.heap.get b = some ⟨.cells cs TD, false, none, ver⟩ → off + 4 ≤ cs.length → (b < lo ∨ hi ≤ b) → LaidI σ lo hi (.agg ((cs.drop off).take 4).toArray) d → atP p d = some w → SpotAt σ p b off b' off' →
    ∃ cs' ver', σ.heap.get b' = some ⟨.cells cs' TD, false, none, ver'⟩ ∧ off' + 4 ≤ cs'.length ∧ ((b' = b ∧ off' = off ∧ p = []) ∨ (lo ≤ b' ∧ b' < hi)) ∧
      (σ'.cells b' = some (cs'.take off' ++ l4 ++ cs'.drop (off' + 4)) → (∀ c e, c ≠ b' → ((lo ≤ c ∧ c < hi) ∨ c = b) → σ.heap.get c = some e → σ'.heap.get c = some e) →
        ∃ csb, σ'.cells b = some csb ∧ csb.length = cs.length ∧ (∀ j, (j + 4 ≤ off ∨ off + 4 ≤ j) → (csb.drop j).take 4 = (cs.drop j).take 4) ∧ LaidR (fun c => (lo ≤ c ∧ c < hi) ∨ X c) σ' (.agg ((csb.drop off).take 4).toArray) (putP p x d))
  | [], d, w, lo, hi, b, off, ver, cs, hc, hle, hblo, hI, hat, hS => by
    cases hS
    refine ⟨cs, ver, hc, hle, .inl ⟨rfl, rfl, rfl⟩, fun h1 _ => ⟨_, h1, by simp only [List.length_append, List.length_take, List.length_drop, hl4]; omega, fun j hj => splice_other cs l4 off' j hl4 hle hj, ?_⟩⟩
    rw [splice_self cs l4 off' hl4 hle, putP]
    exact hX.keep fun c cc h hcc => ⟨hcc, .inr h⟩
  | i :: p, .mk k z t ds, w, lo, hi, b, off, ver, cs, hc, hle, hblo, hI, hat, hS => by
    rw [atP] at hat
    simp only [D.parts] at hat
    cases hd : ds[i]? with
    | none => rw [hd] at hat; cases hat
    | some d' =>
      rw [hd] at hat
      simp only at hat
      have hil := (List.getElem?_eq_some_iff.1 hd).1
      generalize hv : Value.agg ((cs.drop off).take 4).toArray = v at hI
      cases hI with
      | leaf => simp at hil
      | node _ _ _ _ _ bb c csb _ mid ver2 h1 h2 h3 h4 h5 h6 h7 =>
        have hv' : (cs.drop off).take 4 = [.int .i64 k, .int .i64 z, .string t, .slice (some ⟨bb, 0, none⟩) ds.length c] := by
          have := Value.agg.inj hv
          simpa using congrArg Array.toList this
        have hf3 := field3 hv'
        cases hS with
        | cons _ _ _ _ bb2 o l2 c2 _ _ cs2 g1 g2 g3 =>
          rw [cells_of_get hc] at g1
          obtain rfl := Option.some.inj g1
          rw [hf3] at g2
          injection g2 with g2
          injection g2 with ga gb gc
          injection ga with ga
          injection ga with gd ge
          subst gd
          subst ge
          rw [Nat.zero_add] at g3
          have a1 := mid_le h4 i 0 (by omega)
          have a2 := mid_le h4 (ds.length - (i + 1)) (i + 1) (by omega)
          rw [show i + 1 + (ds.length - (i + 1)) = ds.length by omega] at a2
          rw [Nat.zero_add] at a1
          have a3 := h4 i hil
          obtain ⟨cs', ver', e1, e2, e3, e4⟩ := spot_put σ σ' x l4 X hl4 hX b' off' p d' w (mid i) (mid (i + 1)) bb (i * 4) ver2 csb h5 (by omega) (by omega) (h7 i d' hd) hat g3
          have hin : lo ≤ b' ∧ b' < hi := by rcases e3 with h | h <;> omega
          refine ⟨cs', ver', e1, e2, .inr hin, fun k1 k2 => ?_⟩
          obtain ⟨csb', m1, m2, m3, m4⟩ := e4 k1 fun c cc hne hcc hcs => k2 c cc hne (.inl (by rcases hcc with h | h <;> omega)) hcs
          refine ⟨cs, cells_of_get (k2 b _ (by omega) (.inr rfl) hc), rfl, fun j hj => rfl, ?_⟩
          rw [hv', putP, hd]
          simp only
          refine ⟨some ⟨bb, 0, none⟩, c, by rw [List.length_set], laidRE_of m1 (.inl ⟨h1, by omega⟩) _ 0 (by rw [List.length_set]; omega) fun j e he => ?_⟩
          rw [Nat.zero_add]
          by_cases hij : i = j
          · subst hij
            rw [List.getElem?_set_self hil] at he
            cases he
            exact m4.keep fun c cc hcc hcs => ⟨hcs, by
              rcases hcc with hcc | hcc
              · exact .inl ⟨by omega, by omega⟩
              · exact .inr hcc⟩
          · rw [List.getElem?_set_ne hij] at he
            have hj := (List.getElem?_eq_some_iff.1 he).1
            have b1 := mid_le h4 j 0 (by omega)
            have b2 := mid_le h4 (ds.length - (j + 1)) (j + 1) (by omega)
            rw [show j + 1 + (ds.length - (j + 1)) = ds.length by omega] at b2
            rw [Nat.zero_add] at b1
            rw [m3 (j * 4) (by omega)]
            have hdis : ∀ c, mid j ≤ c → c < mid (j + 1) → c ≠ b' := fun c hc1 hc2 hcb => by
              subst hcb
              rcases e3 with h | h
              · omega
              · rcases Nat.lt_or_gt_of_ne hij with hlt | hgt
                · have := mid_le h4 (j - (i + 1)) (i + 1) (by omega)
                  rw [show i + 1 + (j - (i + 1)) = j by omega] at this
                  omega
                · have := mid_le h4 (i - (j + 1)) (j + 1) (by omega)
                  rw [show j + 1 + (i - (j + 1)) = i by omega] at this
                  omega
            exact ((h7 j e he).keep fun c cc hc1 hc2 hcs => k2 c cc (hdis c hc1 hc2) (.inl (by omega)) hcs).laid.keep fun c cc hcc hcs => ⟨hcs, .inl ⟨by omega, by omega⟩⟩
end Go.Proofs.YtodkeaoikjjneaaGreatDoor
/- plain.Copy makes a tree of its own; place leads to its spot. -/
namespace Go.Proofs.YtodkeaoikjjneaaGreatDoor
open Go Go.Eng
attribute [local congr] andThen_congr fops_congr fdraw_congr afterOp_congr drawF_congr
attribute [-go_sem] List.range_succ
def CopyI (m : Nat) (d : D) : Prop := ∀ (lv : List Value) (R : Nat → Prop) (σ : FState), Wf σ → LaidR R σ (.agg lv.toArray) d → Gives ((env m).call 69 [.agg lv.toArray] none σ) σ fun w σ' => LaidI σ' σ.next σ'.next w d
structure HeadEi' (bo base : Nat) (R : Nat → Prop) (q : Option Addr) (c : Nat) (ds : List D) (σ0 : FState) (i : Nat) (f g : Nat → Value) (σ : FState) : Prop where
  f0 : f 0 = .slice q ds.length c
  f1 : f 1 = .func (.func 69) #[] #[]
  f5 : f 5 = .slice (some ⟨bo, 0, none⟩) ds.length ds.length
  g14 : g 14 = .int .i64 (.ofNat ds.length)
  g15 : g 15 = .int .i64 (.ofNat i)
  cs : ∃ (done rest : List Value) (ver : Nat) (mid : Nat → Nat), σ.heap.get bo = some ⟨.cells (done ++ rest) TD, false, none, ver⟩ ∧ done.length = i * 4 ∧ rest.length = (ds.length - i) * 4 ∧ bo < mid 0 ∧ mid i ≤ σ.next ∧ (∀ j, j < i → mid j ≤ mid (j + 1)) ∧ ∀ j e, j < i → ds[j]? = some e → LaidI σ (mid j) (mid (j + 1)) (.agg ((done.drop (j * 4)).take 4).toArray) e
  hbo : base ≤ bo
  lay : LaidRE R σ q 0 ds
  low : ∀ b, R b → b < base
  wf : Wf σ
  ext : Ext σ0 σ
  le : i ≤ ds.length
theorem eachI_loop (m : Nat) {bo base : Nat} {R : Nat → Prop} {q : Option Addr} {c : Nat} {ds : List D} {σ0 : FState} (hC : ∀ d ∈ ds, CopyI m d) (hb0 : σ0.next = base) (hfew : ds.length < 1000000) :
    ∀ (j fuel i : Nat) (f g : Nat → Value) (σ : FState), i + j = ds.length → j < fuel → HeadEi' bo base R q c ds σ0 i f g σ →
    ∃ f' g' σ', floop [14, 15, 28] (l106_0 (env m) none 106) fuel (Sl 7 29 f g []) none σ = .done (.exit 0) (Sl 7 29 f' g' []) none σ' ∧ HeadEi' bo base R q c ds σ0 ds.length f' g' σ' := by
  intro j
  induction j with
  | zero =>
    intro fuel i f g σ hij hf h
    obtain ⟨fuel, rfl⟩ : ∃ q, fuel = q + 1 := ⟨fuel - 1, by omega⟩
    obtain rfl : i = ds.length := by omega
    have d1 : decide (Int.ofNat ds.length < Int.ofNat ds.length) = false := by simp
    rw [floop_step, Sl_forget]
    unfold l106_0
    simp -implicitDefEqProofs only [go_sem, ↓reduceIte, Nat.reduceLT, Nat.reduceEqDiff, Nat.reduceAdd, Nat.reduceMul, Nat.reduceLeDiff, Nat.reduceSub, r106_5_go, r106_5U, h.g14, h.g15, d1, List.mem_cons]
    refine ⟨_, _, _, rfl, { h with g14 := ?_, g15 := ?_ }⟩
    · simp -implicitDefEqProofs only [upd_go, kept_go, ↓reduceIte, Nat.reduceEqDiff, Nat.reduceLT, reduceCtorEq, h.g14, List.mem_cons, true_or, or_true]
    · simp -implicitDefEqProofs only [upd_go, kept_go, ↓reduceIte, Nat.reduceEqDiff, Nat.reduceLT, reduceCtorEq, h.g15, List.mem_cons, true_or, or_true]
  | succ j ih =>
    intro fuel i f g σ hij hf h
    obtain ⟨fuel, rfl⟩ : ∃ q, fuel = q + 1 := ⟨fuel - 1, by omega⟩
    have hi : i < ds.length := by omega
    have d1 : decide (Int.ofNat i < Int.ofNat ds.length) = true := by simp; omega
    have hd : ds[i]? = some ds[i] := List.getElem?_eq_getElem hi
    obtain ⟨b, off, cs, rfl, hRb, hcs, hle, hL⟩ := LaidRE.get h.lay hd
    rw [Nat.zero_add] at hle hL
    obtain ⟨done, rest, ver, mid, hg, hdl, hrl, hm0, hmi, hmm, hmL⟩ := h.cs
    obtain ⟨w, σ1, e1, x1, hw1, hL1⟩ := hC _ (List.getElem_mem hi) ((cs.drop (off + i * 4)).take 4) R σ h.wf hL
    obtain ⟨l4, rfl, hl4, hone⟩ := hL1.laid.agg
    have hbn := (h.wf _ _ hg).1
    have hg1 := (x1.get bo hbn).trans hg
    have w1 := add1 i (by omega)
    have hr4 : 4 ≤ rest.length := by rw [hrl]; omega
    have e4 : ((done ++ rest).take (i * 4) ++ l4 ++ (done ++ rest).drop (i * 4 + 4)) = (done ++ l4) ++ rest.drop 4 := by
      rw [← hdl, List.take_left', List.drop_append]
      · simp [List.drop_eq_nil_of_le]
      · rfl
    have hlen : i * 4 + 4 ≤ (done ++ rest).length := by rw [List.length_append, hdl]; omega
    rw [floop_step, Sl_forget]
    unfold l106_0
    simp -implicitDefEqProofs only [go_sem, ↓reduceIte, Nat.reduceLT, Nat.reduceEqDiff, Nat.reduceAdd, Nat.reduceMul, Nat.reduceLeDiff, Nat.reduceSub, fstoreN, r106_5_go, r106_5U, r106_6_go, r106_6U, r106_7_go, r106_7U, r106_8_go, r106_8U, h.f0, h.f1, h.f5, h.g14, h.g15, d1, hi, hcs, hle, e1, hg1, hl4, hone, hlen, e4, w1, List.mem_cons]
    generalize hff : upd _ 6 _ = f1
    generalize hgg : upd _ 15 _ = g1
    have n1 := x1.next
    have hbase : base ≤ σ.next := by have := h.ext.next; omega
    have hbo := h.hbo
    have kc : ∀ (o : FObj) b cs, σ1.cells b = some cs → b ≠ bo → (σ1.put bo o none).cells b = some cs := fun o b cs hc hb => by rw [cells_put, if_neg hb]; exact hc
    exact ih fuel (i + 1) f1 g1 _ (by omega) (by omega) {
      f0 := by rw [← hff]; simp -implicitDefEqProofs only [upd_go, kept_go, ↓reduceIte, Nat.reduceEqDiff, Nat.reduceLT, reduceCtorEq, h.f0]
      f1 := by rw [← hff]; simp -implicitDefEqProofs only [upd_go, kept_go, ↓reduceIte, Nat.reduceEqDiff, Nat.reduceLT, reduceCtorEq, h.f1]
      f5 := by rw [← hff]; simp -implicitDefEqProofs only [upd_go, kept_go, ↓reduceIte, Nat.reduceEqDiff, Nat.reduceLT, reduceCtorEq, h.f5]
      g14 := by rw [← hgg]; simp -implicitDefEqProofs only [upd_go, kept_go, ↓reduceIte, Nat.reduceEqDiff, Nat.reduceLT, reduceCtorEq, h.g14, List.mem_cons, true_or, or_true]
      g15 := by rw [← hgg]; simp -implicitDefEqProofs only [upd_go, kept_go, ↓reduceIte, Nat.reduceEqDiff, Nat.reduceLT, reduceCtorEq]
      cs := ⟨done ++ l4, rest.drop 4, _, fun j => if j ≤ i then mid j else σ1.next, by rw [put_get, if_pos rfl], by rw [List.length_append]; omega, by rw [List.length_drop, hrl]; omega, by simp only [Nat.zero_le, if_true]; exact hm0, by rw [put_next]; dsimp only; rw [if_neg (by omega)]; exact Nat.le_refl _, fun j hj => by
        dsimp only
        by_cases hji : j < i
        · rw [if_pos (by omega), if_pos (by omega)]; exact hmm j hji
        · rw [if_pos (by omega), if_neg (by omega), show j = i by omega]; omega, fun j e hj he => by
        dsimp only
        have hbm := mid_le (n := i) hmm
        by_cases hji : j < i
        · rw [if_pos (by omega), if_pos (by omega), List.drop_append_of_le_length (by omega), List.take_append_of_le_length (by rw [List.length_drop]; omega)]
          have b1 := hbm j 0 (by omega)
          have b2 := hbm (i - (j + 1)) (j + 1) (by omega)
          rw [Nat.zero_add] at b1
          rw [show j + 1 + (i - (j + 1)) = i by omega] at b2
          exact (hmL j e hji he).keep fun c cc hc1 hc2 hcs => by rw [put_get, if_neg (by omega), x1.get c (by omega)]; exact hcs
        · obtain rfl : j = i := by omega
          rw [hd] at he
          cases he
          have b1 := hbm j 0 (by omega)
          rw [Nat.zero_add] at b1
          rw [if_pos (Nat.le_refl _), if_neg (by omega), ← hdl, List.drop_left, List.take_of_length_le (by omega)]
          exact (hL1.keep fun c cc hc1 hc2 hcs => by rw [put_get, if_neg (by omega)]; exact hcs).wide hmi (Nat.le_refl _)⟩
      hbo := h.hbo
      lay := h.lay.keep fun b cs hb hc => ⟨kc _ b cs ((x1.cells (h.wf.cells hc)).trans hc) (by have := h.low b hb; omega), hb⟩
      low := h.low
      wf := hw1.put _ _ _ (by omega)
      ext := (h.ext.trans x1).put _ _ _ (by omega)
      le := hi }
theorem eachI_step (m : Nat) (ds : List D) (hC : ∀ d ∈ ds, CopyI m d) (hfew : ds.length < 1000000) (q : Option Addr) (c : Nat) (R : Nat → Prop) (σ : FState) (hw : Wf σ) (hE : LaidRE R σ q 0 ds) :
    Gives ((env (m + 1)).call 106 [.slice q ds.length c, .func (.func 69) #[] #[]] none σ) σ fun w σ' => ∃ q' c', w = .slice q' ds.length c' ∧ ∀ (k n : Int) (t : ByteArray), LaidI σ' σ.next σ'.next (.agg #[.int .i64 k, .int .i64 n, .string t, .slice q' ds.length c']) (.mk k n t ds) := by
  rw [env_call, enter106 _ _ _ _ (by simp), Sl_start]
  unfold run106
  cases hz : (Int.ofNat ds.length == (0 : Int)) with
  | true =>
    have h0 : ds = [] := by
      have := Int.ofNat.inj (eq_of_beq hz)
      exact List.length_eq_zero_iff.1 this
    subst h0
    simp -implicitDefEqProofs only [go_sem, ↓reduceIte, Nat.reduceLT, Nat.reduceEqDiff, Nat.reduceAdd, Nat.reduceMul, Nat.reduceLeDiff, Nat.reduceSub, r106_0_go, r106_0U, r106_1_go, r106_1U, r106_2_go, r106_2U, Option.getD_some, hz]
    exact ⟨_, _, rfl, Ext.refl _, hw, none, 0, rfl, fun k n t => .leaf _ _ k n t none 0⟩
  | false =>
    have hmk := fun σ => makeSlice_go 28 56 [.int .i64 0, .int .i64 0, .string ⟨#[]⟩, .slice none 0 0] ds.length σ (by omega)
    simp -implicitDefEqProofs only [go_sem, ↓reduceIte, Nat.reduceLT, Nat.reduceEqDiff, Nat.reduceAdd, Nat.reduceMul, Nat.reduceLeDiff, Nat.reduceSub, r106_0_go, r106_0U, r106_1_go, r106_1U, r106_3_go, r106_3U, r106_4_go, r106_4U, Option.getD_some, hz, hmk, keepEach]
    generalize hff : upd _ 5 _ = f1
    generalize hgg : upd _ 15 _ = g1
    generalize hbf : bigFuel = fuel
    obtain ⟨f2, g2, σ2, e2, h2⟩ := eachI_loop m (bo := σ.next) (base := σ.next) (R := fun b => R b ∧ b < σ.next) (q := q) (c := c) (σ0 := σ) hC rfl hfew ds.length fuel 0 f1 g1 (σ.push (.cells (reps ds.length [.int .i64 0, .int .i64 0, .string ⟨#[]⟩, .slice none 0 0]) TD) none) (by omega) (by rw [← hbf]; show ds.length < 1000000000000; omega) {
      f0 := by rw [← hff]; simp -implicitDefEqProofs only [upd_go, kept_go, ↓reduceIte, Nat.reduceEqDiff, Nat.reduceLT, reduceCtorEq, List.getElem?_cons_zero, List.getElem?_cons_succ, Option.getD_some]
      f1 := by rw [← hff]; simp -implicitDefEqProofs only [upd_go, kept_go, ↓reduceIte, Nat.reduceEqDiff, Nat.reduceLT, reduceCtorEq, List.getElem?_cons_zero, List.getElem?_cons_succ, Option.getD_some]
      f5 := by rw [← hff]; simp -implicitDefEqProofs only [upd_go, kept_go, ↓reduceIte, Nat.reduceEqDiff, Nat.reduceLT, reduceCtorEq]
      g14 := by rw [← hgg]; simp -implicitDefEqProofs only [upd_go, kept_go, ↓reduceIte, Nat.reduceEqDiff, Nat.reduceLT, reduceCtorEq]
      g15 := by rw [← hgg]; simp -implicitDefEqProofs only [upd_go, kept_go, ↓reduceIte, Nat.reduceEqDiff, Nat.reduceLT, reduceCtorEq] <;> rfl
      cs := ⟨[], reps ds.length [.int .i64 0, .int .i64 0, .string ⟨#[]⟩, .slice none 0 0], σ.clock, fun _ => σ.next + 1, by rw [push_get, if_pos rfl]; rfl, rfl, by rw [reps_length]; rfl, Nat.lt_succ_self _, Nat.le_refl _, fun j hj => by omega, fun j e hj he => by omega⟩
      hbo := Nat.le_refl _
      lay := hE.keep fun b cs hb hc => ⟨by rw [cells_push, if_neg (by have := hw.cells hc; omega)]; exact hc, hb, hw.cells hc⟩
      low := fun b hb => hb.2
      wf := hw.push _ _
      ext := (Ext.refl _).push _ _
      le := Nat.zero_le _ }
    rw [e2]
    simp -implicitDefEqProofs only [go_sem, ↓reduceIte, Nat.reduceLT, Nat.reduceEqDiff, Nat.reduceAdd, Nat.reduceMul, Nat.reduceLeDiff, Nat.reduceSub, r106_9_go, r106_9U, h2.f5]
    obtain ⟨done, rest, ver, mid, hg, hdl, hrl, hm0, hmi, hmm, hmL⟩ := h2.cs
    have hrest : rest = [] := List.length_eq_zero_iff.1 (by rw [hrl]; omega)
    subst hrest
    rw [List.append_nil] at hg
    exact ⟨_, _, rfl, h2.ext, h2.wf, _, _, rfl, fun k n t => .node _ _ k n t σ.next _ done ds mid ver (Nat.le_refl _) hm0 hmi hmm hg hdl fun i e he => hmL i e (List.getElem?_eq_some_iff.1 he).1 he⟩
theorem copyI_step (m : Nat) (k z : Int) (t : ByteArray) (ds : List D) (hC : ∀ d ∈ ds, CopyI m d) (hfew : ds.length < 1000000) : CopyI (m + 2) (.mk k z t ds) := by
  intro lv R σ hw hL
  obtain ⟨q, c, hv, hE⟩ := hL
  have hlv : lv = [.int .i64 k, .int .i64 z, .string t, .slice q ds.length c] := by
    have := Value.agg.inj hv
    simpa using congrArg Array.toList this
  subst hlv
  rw [env_call, enter69 _ _ _ _ (by simp), Sl_start]
  unfold run69
  have x1 : Ext σ ((σ.push (.cells [.int .i64 k, .int .i64 z, .string t, .slice q ds.length c] TD) none).push (.cells [.int .i64 0, .int .i64 0, .string ⟨#[]⟩, .slice none 0 0] TD) none) := ((Ext.refl _).push _ _).push _ _
  have hw1 := (hw.push (.cells [.int .i64 k, .int .i64 z, .string t, .slice q ds.length c] TD) none).push (.cells [.int .i64 0, .int .i64 0, .string ⟨#[]⟩, .slice none 0 0] TD) none
  have c1 : ((σ.push (.cells [.int .i64 k, .int .i64 z, .string t, .slice q ds.length c] TD) none).push (.cells [.int .i64 0, .int .i64 0, .string ⟨#[]⟩, .slice none 0 0] TD) none).cells σ.next = some [.int .i64 k, .int .i64 z, .string t, .slice q ds.length c] := by rw [cells_push, if_neg (by rw [push_next]; omega), cells_push, if_pos rfl]; rfl
  have g2 : ((σ.push (.cells [.int .i64 k, .int .i64 z, .string t, .slice q ds.length c] TD) none).push (.cells [.int .i64 0, .int .i64 0, .string ⟨#[]⟩, .slice none 0 0] TD) none).heap.get (σ.next + 1) = some ⟨.cells [.int .i64 0, .int .i64 0, .string ⟨#[]⟩, .slice none 0 0] TD, false, none, σ.clock + 1⟩ := by rw [push_get, if_pos (by rw [push_next])]; rfl
  have kc : ((σ.push (.cells [.int .i64 k, .int .i64 z, .string t, .slice q ds.length c] TD) none).push (.cells [.int .i64 0, .int .i64 0, .string ⟨#[]⟩, .slice none 0 0] TD) none).clock = σ.clock + 2 := rfl
  have kn : ((σ.push (.cells [.int .i64 k, .int .i64 z, .string t, .slice q ds.length c] TD) none).push (.cells [.int .i64 0, .int .i64 0, .string ⟨#[]⟩, .slice none 0 0] TD) none).next = σ.next + 2 := rfl
  simp -implicitDefEqProofs only [go_sem, ↓reduceIte, Nat.reduceLT, Nat.reduceEqDiff, Nat.reduceAdd, Nat.reduceMul, Nat.reduceLeDiff, Nat.reduceSub, r69_0_go, r69_0U, Option.getD_some]
  generalize FState.push (FState.push σ _ _) _ _ = σ1 at x1 hw1 c1 g2 kc kn ⊢
  have hv1 := view_wf hw1 (lam := σ.clock + 2) (by omega)
  obtain ⟨_, σ2, e2, x2, hw2, q', c', rfl, hI⟩ := eachI_step m ds hC hfew q c R σ1 hw1 (hE.keep fun b cs hb hc => ⟨(x1.cells (hw.cells hc)).trans hc, hb⟩)
  have c2 : (view σ2 (σ.clock + 2)).cells σ.next = some [.int .i64 k, .int .i64 z, .string t, .slice q ds.length c] := view_old hw1 (by omega) (x2.get _ (hw1.cells c1)) c1
  have g2' := (x2.get _ (hw1 _ _ g2).1).trans g2
  simp -implicitDefEqProofs only [go_sem, ↓reduceIte, Nat.reduceLT, Nat.reduceEqDiff, Nat.reduceAdd, Nat.reduceMul, Nat.reduceLeDiff, Nat.reduceSub, fstoreN, r69_1_go, r69_1U, hv1, c1, e2, c2, g2', fleave_nil, fresults_nil, fresults_cons, fresult_cell, aggDatum]
  have n2 := x2.next
  exact ⟨_, _, rfl, (x1.trans x2).put _ _ _ (by omega), hw2.put _ _ _ (by omega), ((hI k z t).keep fun b cs hb1 hb2 hc => by rw [put_get, if_neg (by omega)]; exact hc).wide (by omega) (Nat.le_refl _)⟩
theorem copyI_go (n : Nat) : ∀ (N : Nat) (d : D), D.deep d ≤ N → d.count < 1000000 → CopyI (n + 2 * N) d
  | 0, d, h, _ => by cases d; rw [D.deep] at h; omega
  | N + 1, .mk k z t ds, h, hc => by
    rw [D.deep] at h
    rw [D.count] at hc
    have := length_counts ds
    exact copyI_step (n + 2 * N) k z t ds (fun d hd => copyI_go n N d (by have := deeps_mem hd; omega) (by have := count_mem hd; omega)) (by omega)
end Go.Proofs.YtodkeaoikjjneaaGreatDoor
/- Functions of the program, written out in the reading's words (made by program; the kernel holds each against the code). -/
namespace Go.Proofs.YtodkeaoikjjneaaGreatDoor
open Go Go.Eng
variable (E : Env) (ro : Option Nat) (last : List Nat → RunF) (cl : List Nat) (a : FAct) (u : Option FrameMode) (σ : FState)
/-! caracole/datum.Put -/
noncomputable def r24_0U (_ : Unit) : List COp := [⟨fun a σ => fbox 28 (a.get 0) σ, (some 3), fun _ => some true⟩,
  ⟨fun a σ => fbox 22 (a.get 1) σ, (some 4), fun _ => some true⟩,
  ⟨fun a σ => fbox 28 (a.get 2) σ, (some 5), fun _ => some true⟩,
  ⟨fun a σ => newCells [(.int .i64 0), (.int .i64 0), (.string ⟨#[]⟩), (.slice none 0 0)] 28 none σ, (some 6), fun _ => some true⟩,
  ⟨fun a σ => .val (.int .i64 0) σ, (some 7), fun _ => some true⟩]
noncomputable def r24_0 : List COp := r24_0U ()
noncomputable def r24_1U (_ : Unit) : List COp := [⟨fun a σ => .val (.func (.func 74) #[] #[(a.get 3), (a.get 5), (a.get 4)]) σ, (some 8), fun _ => some true⟩,
  ⟨fun a σ => .enter 58 [(a.get 8)] σ, (some 9), fun _ => some true⟩,
  ⟨fun a σ => fextract 0 (a.get 9) σ, (some 10), fun _ => some true⟩,
  ⟨fun a σ => fextract 1 (a.get 9) σ, (some 11), fun _ => some true⟩,
  ⟨fun a σ => fstore 4 (a.get 6) (a.get 10) σ, none, fun _ => some true⟩,
  ⟨fun a σ => .val (a.get 11) σ, (some 7), fun _ => some true⟩]
noncomputable def r24_1 : List COp := r24_1U ()
noncomputable def run24 (E : Env) (ro : Option Nat) (fn : FuncId) : RunF := (seqR (fops E ro r24_0) (seqR (fops E ro r24_1) retR))
theorem r24_0_go : fops E ro r24_0 a u σ = fops E ro (r24_0U ()) a u σ := rfl
theorem r24_1_go : fops E ro r24_1 a u σ = fops E ro (r24_1U ()) a u σ := rfl
theorem code24 (E : Env) (ro : Option Nat) (fn : FuncId) : code Tryz.prog nls (Tryz.f24.body.getD .skip) E ro fn = run24 E ro fn := by kernel_rfl
theorem enter24 (E : Env) (args : List Value) (u : Option FrameMode) (σ : FState) (hn : args.length ≤ (6 : Nat)) : fcall Tryz.prog nls E 24 args u σ = leaveR Tryz.prog E [.cell 6 28, .tmp 7] (run24 E none 24 ⟨padTo undef 6 args, fun _ => undef, 6, 12, []⟩ u σ) := by
  rw [fcall_of (body := Tryz.f24.body.getD .skip) Tryz.func24 rfl E args u σ 6 12 (by kernel_rfl) rfl ⟨hn, by decide⟩, code24]
  rfl
/-! caracole/datum.Put$1 -/
noncomputable def r74_0U (_ : Unit) : List COp := [⟨fun a σ => newCells [(.int .i64 0), (.int .i64 0), (.string ⟨#[]⟩), (.slice none 0 0)] 28 none σ, (some 3), fun _ => some true⟩]
noncomputable def r74_0 : List COp := r74_0U ()
noncomputable def r74_1U (_ : Unit) : List COp := [⟨fun a σ => fload (some 4) (a.get 0) σ, (some 9), fun _ => some true⟩,
  ⟨fun a σ => .enter 60 [(a.get 9)] σ, (some 10), fun _ => some true⟩,
  ⟨fun a σ => .val (a.get 10) σ, (some 4), fun _ => some true⟩]
noncomputable def r74_1 : List COp := r74_1U ()
noncomputable def r74_2U (_ : Unit) : List COp := [⟨fun a σ => fload (some 4) (a.get 1) σ, (some 11), fun _ => some true⟩,
  ⟨fun a σ => .enter 60 [(a.get 11)] σ, (some 12), fun _ => some true⟩,
  ⟨fun a σ => .val (a.get 12) σ, (some 5), fun _ => some true⟩]
noncomputable def r74_2 : List COp := r74_2U ()
noncomputable def r74_3U (_ : Unit) : List COp := [⟨fun a σ => fload none (a.get 2) σ, (some 13), fun _ => some true⟩,
  ⟨fun a σ => .enter 73 [(a.get 0), (a.get 13)] σ, (some 14), fun _ => some true⟩,
  ⟨fun a σ => fnilCheck (a.get 14) σ, (some 15), fun _ => some true⟩,
  ⟨fun a σ => fload (some 4) (a.get 15) σ, (some 16), fun _ => some true⟩,
  ⟨fun a σ => .enter 60 [(a.get 16)] σ, (some 17), fun _ => some true⟩,
  ⟨fun a σ => .val (a.get 17) σ, (some 6), fun _ => some true⟩]
noncomputable def r74_3 : List COp := r74_3U ()
noncomputable def r74_4U (_ : Unit) : List COp := [⟨fun a σ => .val (a.get 4) σ, (some 18), fun _ => some true⟩,
  ⟨fun a σ => .val (a.get 6) σ, (some 19), fun _ => some true⟩,
  ⟨fun a σ => i_sub Tryz.prog 3 (.tmp 18) (.tmp 19) (a.get 18) (a.get 19) σ, (some 20), fun _ => some true⟩,
  ⟨fun a σ => .val (a.get 5) σ, (some 21), fun _ => some true⟩,
  ⟨fun a σ => i_add Tryz.prog 3 (.tmp 20) (.tmp 21) (a.get 20) (a.get 21) σ, (some 22), fun _ => some true⟩,
  ⟨fun a σ => .enter 61 [(a.get 22)] σ, (some 23), fun _ => some true⟩]
noncomputable def r74_4 : List COp := r74_4U ()
noncomputable def r74_5U (_ : Unit) : List COp := [⟨fun a σ => fload (some 4) (a.get 0) σ, (some 24), fun _ => some true⟩,
  ⟨fun a σ => .enter 69 [(a.get 24)] σ, (some 25), fun _ => some true⟩,
  ⟨fun a σ => newCells [(.int .i64 0), (.int .i64 0), (.string ⟨#[]⟩), (.slice none 0 0)] 28 none σ, (some 7), fun _ => some true⟩,
  ⟨fun a σ => fstore 4 (a.get 7) (a.get 25) σ, none, fun _ => some true⟩]
noncomputable def r74_5 : List COp := r74_5U ()
noncomputable def r74_6U (_ : Unit) : List COp := [⟨fun a σ => fload none (a.get 2) σ, (some 26), fun _ => some true⟩,
  ⟨fun a σ => .enter 73 [(a.get 7), (a.get 26)] σ, (some 27), fun _ => some true⟩,
  ⟨fun a σ => .val (a.get 27) σ, (some 8), fun _ => some true⟩]
noncomputable def r74_6 : List COp := r74_6U ()
noncomputable def r74_7U (_ : Unit) : List COp := [⟨fun a σ => .val (a.get 8) σ, (some 28), fun _ => some true⟩,
  ⟨fun a σ => fload (some 4) (a.get 1) σ, (some 29), fun _ => some true⟩,
  ⟨fun a σ => .enter 69 [(a.get 29)] σ, (some 30), fun _ => some true⟩,
  ⟨fun a σ => fnilCheck (a.get 28) σ, (some 31), fun _ => some true⟩,
  ⟨fun a σ => fstore 4 (a.get 31) (a.get 30) σ, none, fun _ => some true⟩]
noncomputable def r74_7 : List COp := r74_7U ()
noncomputable def r74_8U (_ : Unit) : List COp := [⟨fun a σ => fload (some 4) (a.get 7) σ, (some 32), fun _ => some true⟩,
  ⟨fun a σ => fstore 4 (a.get 3) (a.get 32) σ, none, fun _ => some true⟩]
noncomputable def r74_8 : List COp := r74_8U ()
noncomputable def run74 (E : Env) (ro : Option Nat) (fn : FuncId) : RunF := (seqR (fops E ro r74_0) (seqR (fops E ro r74_1) (seqR (fops E ro r74_2) (seqR (fops E ro r74_3) (seqR (fops E ro r74_4) (seqR (fops E ro r74_5) (seqR (fops E ro r74_6) (seqR (fops E ro r74_7) (seqR (fops E ro r74_8) retR)))))))))
theorem r74_0_go : fops E ro r74_0 a u σ = fops E ro (r74_0U ()) a u σ := rfl
theorem r74_1_go : fops E ro r74_1 a u σ = fops E ro (r74_1U ()) a u σ := rfl
theorem r74_2_go : fops E ro r74_2 a u σ = fops E ro (r74_2U ()) a u σ := rfl
theorem r74_3_go : fops E ro r74_3 a u σ = fops E ro (r74_3U ()) a u σ := rfl
theorem r74_4_go : fops E ro r74_4 a u σ = fops E ro (r74_4U ()) a u σ := rfl
theorem r74_5_go : fops E ro r74_5 a u σ = fops E ro (r74_5U ()) a u σ := rfl
theorem r74_6_go : fops E ro r74_6 a u σ = fops E ro (r74_6U ()) a u σ := rfl
theorem r74_7_go : fops E ro r74_7 a u σ = fops E ro (r74_7U ()) a u σ := rfl
theorem r74_8_go : fops E ro r74_8 a u σ = fops E ro (r74_8U ()) a u σ := rfl
theorem code74 (E : Env) (ro : Option Nat) (fn : FuncId) : code Tryz.prog nls (Tryz.f74.body.getD .skip) E ro fn = run74 E ro fn := by kernel_rfl
theorem enter74 (E : Env) (args : List Value) (u : Option FrameMode) (σ : FState) (hn : args.length ≤ (9 : Nat)) : fcall Tryz.prog nls E 74 args u σ = leaveR Tryz.prog E [.cell 3 28] (run74 E none 74 ⟨padTo undef 9 args, fun _ => undef, 9, 33, []⟩ u σ) := by
  rw [fcall_of (body := Tryz.f74.body.getD .skip) Tryz.func74 rfl E args u σ 9 33 (by kernel_rfl) rfl ⟨hn, by decide⟩, code74]
  rfl
/-! caracole/caracolelaw01.begins -/
noncomputable def r25_0U (_ : Unit) : List COp := [⟨fun a σ => .val (.bool false) σ, (some 4), fun _ => some true⟩]
noncomputable def r25_0 : List COp := r25_0U ()
noncomputable def r25_1U (_ : Unit) : List COp := [⟨fun a σ => .val (a.get 1) σ, (some 5), fun _ => some true⟩,
  ⟨fun a σ => flenL (a.get 5) σ, (some 6), fun _ => some true⟩,
  ⟨fun a σ => .val (a.get 0) σ, (some 7), fun _ => some true⟩,
  ⟨fun a σ => flenL (a.get 7) σ, (some 8), fun _ => some true⟩,
  ⟨fun a σ => i_leq Tryz.prog 3 (.tmp 6) (.tmp 8) (a.get 6) (a.get 8) σ, (some 9), fun _ => some true⟩,
  ⟨fun a σ => .val (a.get 9) σ, (some 10), fun _ => some true⟩,
  ⟨fun a σ => .val (a.get 0) σ, (some 11), fun a => gd (a.get 10) true⟩,
  ⟨fun a σ => .val (a.get 1) σ, (some 12), fun a => gd (a.get 10) true⟩,
  ⟨fun a σ => flenL (a.get 12) σ, (some 13), fun a => gd (a.get 10) true⟩,
  ⟨fun a σ => fslice Tryz.prog 22 (a.get 11) none (some (a.get 13)) none σ, (some 14), fun a => gd (a.get 10) true⟩,
  ⟨fun a σ => .val (a.get 1) σ, (some 15), fun a => gd (a.get 10) true⟩,
  ⟨fun a σ => .enter 29 [(a.get 14), (a.get 15)] σ, (some 16), fun a => gd (a.get 10) true⟩,
  ⟨fun a σ => fpick (a.get 10) (a.get 16) (.bool false) σ, (some 17), fun _ => some true⟩,
  ⟨fun a σ => .val (a.get 17) σ, (some 4), fun _ => some true⟩]
noncomputable def r25_1 : List COp := r25_1U ()
noncomputable def run25 (E : Env) (ro : Option Nat) (fn : FuncId) : RunF := (seqR (fops E ro r25_0) (seqR (fops E ro r25_1) retR))
theorem r25_0_go : fops E ro r25_0 a u σ = fops E ro (r25_0U ()) a u σ := rfl
theorem r25_1_go : fops E ro r25_1 a u σ = fops E ro (r25_1U ()) a u σ := rfl
theorem code25 (E : Env) (ro : Option Nat) (fn : FuncId) : code Tryz.prog nls (Tryz.f25.body.getD .skip) E ro fn = run25 E ro fn := by kernel_rfl
theorem enter25 (E : Env) (args : List Value) (u : Option FrameMode) (σ : FState) (hn : args.length ≤ (4 : Nat)) : fcall Tryz.prog nls E 25 args u σ = leaveR Tryz.prog E [.tmp 4] (run25 E none 25 ⟨padTo undef 4 args, fun _ => undef, 4, 18, []⟩ u σ) := by
  rw [fcall_of (body := Tryz.f25.body.getD .skip) Tryz.func25 rfl E args u σ 4 18 (by kernel_rfl) rfl ⟨hn, by decide⟩, code25]
  rfl
end Go.Proofs.YtodkeaoikjjneaaGreatDoor
/- datum.Put; place leads to its spot. -/
namespace Go.Proofs.YtodkeaoikjjneaaGreatDoor
open Go Go.Eng
attribute [local congr] andThen_congr fops_congr fdraw_congr afterOp_congr drawF_congr
attribute [-go_sem] List.range_succ
theorem place2_loop (E : Env) {a : Option Addr} {cx : Nat} {path : List Nat} {R : Nat → Prop} {σ : FState} (hs : path.length < 100000) (x : D) (bF oF : Nat) (hp : path ≠ [] → ∃ b rest, a = some ⟨b, 0, none⟩ ∧ σ.cells b = some (intsOf path ++ rest)) :
    ∀ (j fuel i : Nat) (f g : Nat → Value) (d : D) (b off : Nat) (cs : List Value), i + j = path.length → j < fuel → atP (path.drop i) d = some x → d.count < 100000 → σ.cells b = some cs → 4 ≤ cs.length - off → LaidR R σ (.agg ((cs.drop off).take 4).toArray) d → HeadPl a path.length cx i b off f g → SpotAt σ (path.drop i) b off bF oF →
    ∃ f' g', floop [7, 8, 9, 32] (l73_0 E none 73) fuel (Sl 7 33 f g []) none σ = .done (.exit 0) (Sl 7 33 f' g' []) none σ ∧ f' 0 = .pointer (some ⟨bF, oF, none⟩) := by
  intro j
  induction j with
  | zero =>
    intro fuel i f g d b off cs hij hf hx _ hc hle hL h hS
    obtain ⟨fuel, rfl⟩ : ∃ q, fuel = q + 1 := ⟨fuel - 1, by omega⟩
    obtain rfl : i = path.length := by omega
    rw [List.drop_length, atP] at hx
    obtain rfl := Option.some.inj hx
    have d1 : decide (Int.ofNat path.length < Int.ofNat path.length) = false := by simp
    rw [floop_step, Sl_forget]
    unfold l73_0
    simp -implicitDefEqProofs only [go_sem, ↓reduceIte, Nat.reduceLT, Nat.reduceEqDiff, Nat.reduceAdd, Nat.reduceMul, Nat.reduceLeDiff, Nat.reduceSub, r73_2_go, r73_2U, h.g8, h.g9, d1, List.mem_cons]
    rw [List.drop_length] at hS
    cases hS
    exact ⟨_, _, rfl, h.f0⟩
  | succ j ih =>
    intro fuel i f g d b off cs hij hf hx hN hc hle hL h hS
    obtain ⟨fuel, rfl⟩ : ∃ q, fuel = q + 1 := ⟨fuel - 1, by omega⟩
    have hi : i < path.length := by omega
    have d1 : decide (Int.ofNat i < Int.ofNat path.length) = true := by simp; omega
    obtain ⟨bp, rest, rfl, hcp⟩ := hp (fun h => by rw [h] at hi; simp at hi)
    have g1 := intsOf_get rest hi
    have w3 := add1 i (by omega)
    have hdr : path.drop i = path[i] :: path.drop (i + 1) := List.drop_eq_getElem_cons hi
    obtain ⟨k, z, t, ds⟩ := d
    obtain ⟨q, c, hv, hE⟩ := hL
    have hv' : (cs.drop off).take 4 = [.int .i64 k, .int .i64 z, .string t, .slice q ds.length c] := by
      have := Value.agg.inj hv
      simpa using congrArg Array.toList this
    have hf3 := field3 hv'
    rw [hdr] at hS
    rw [hdr, atP] at hx
    simp only [D.parts] at hx
    cases hd : ds[path[i]]? with
    | none => rw [hd] at hx; cases hx
    | some d' =>
      rw [hd] at hx
      simp only at hx
      have hpi := (List.getElem?_eq_some_iff.1 hd).1
      obtain ⟨b', off', cs', rfl, hRb, hcs', hle', hL'⟩ := LaidRE.get hE hd
      rw [Nat.zero_add] at hle' hL'
      have hS2 : SpotAt σ (path.drop (i + 1)) b' (off' + path[i] * 4) bF oF := by
        cases hS with
        | cons _ _ _ _ bb2 o l2 c2 _ _ cs2 g1' g2' g3' =>
          rw [hc] at g1'
          obtain rfl := Option.some.inj g1'
          rw [hf3] at g2'
          injection g2' with g2'
          injection g2' with ga gb gc
          injection ga with ga
          injection ga with gd ge
          subst gd
          subst ge
          exact g3'
      have e0 : decide (Int.ofNat path[i] < 0) = false := by simp
      have e1 : decide (Int.ofNat path[i] ≥ Int.ofNat ds.length) = false := by simp; omega
      rw [floop_step, Sl_forget]
      unfold l73_0
      simp -implicitDefEqProofs only [go_sem, ↓reduceIte, Nat.reduceLT, Nat.reduceEqDiff, Nat.reduceAdd, Nat.reduceMul, Nat.reduceLeDiff, Nat.reduceSub, r73_2_go, r73_2U, r73_3_go, r73_3U, r73_4_go, r73_4U, r73_6_go, r73_6U, r73_7_go, r73_7U, h.f0, h.g7, h.g8, h.g9, d1, hi, hcp, g1, hc, hf3, e0, e1, hpi, w3, List.mem_cons]
      generalize hff : upd _ 0 _ = f1
      generalize hgg : upd _ 9 _ = gg
      exact ih fuel (i + 1) f1 gg d' b' (off' + path[i] * 4) cs' (by omega) (by omega) hx (by have := count_mem (List.mem_of_getElem? hd); rw [D.count] at hN; omega) hcs' (by omega) hL' {
        f0 := by rw [← hff]; simp -implicitDefEqProofs only [upd_go, kept_go, ↓reduceIte, Nat.reduceEqDiff, Nat.reduceLT, reduceCtorEq]
        g7 := by rw [← hgg]; simp -implicitDefEqProofs only [upd_go, kept_go, ↓reduceIte, Nat.reduceEqDiff, Nat.reduceLT, reduceCtorEq, h.g7, List.mem_cons, true_or, or_true]
        g8 := by rw [← hgg]; simp -implicitDefEqProofs only [upd_go, kept_go, ↓reduceIte, Nat.reduceEqDiff, Nat.reduceLT, reduceCtorEq, h.g8, List.mem_cons, true_or, or_true]
        g9 := by rw [← hgg]; simp -implicitDefEqProofs only [upd_go, kept_go, ↓reduceIte, Nat.reduceEqDiff, Nat.reduceLT, reduceCtorEq] } hS2
theorem place2_go (n : Nat) {path : List Nat} {pv : Value} {R Q : Nat → Prop} {σ : FState} (hs : path.length < 100000) {d x : D} (hP : PathV Q σ pv path) {b off : Nat} {cs : List Value} (hx : atP path d = some x) (hN : d.count < 100000) (hc : σ.cells b = some cs) (hle : 4 ≤ cs.length - off) (hL : LaidR R σ (.agg ((cs.drop off).take 4).toArray) d) {bF oF : Nat} (hS : SpotAt σ path b off bF oF) :
    (env (n + 1)).call 73 [.pointer (some ⟨b, off, none⟩), pv] none σ = .ret (.pointer (some ⟨bF, oF, none⟩)) none σ := by
  obtain ⟨a, cx, rfl, k1⟩ := pathV_slice hP
  rw [env_call, enter73 _ _ _ _ (by simp), Sl_start]
  unfold run73
  simp -implicitDefEqProofs only [go_sem, ↓reduceIte, Nat.reduceLT, Nat.reduceEqDiff, Nat.reduceAdd, Nat.reduceMul, Nat.reduceLeDiff, Nat.reduceSub, r73_0_go, r73_0U, r73_1_go, r73_1U, Option.getD_some, keepPlace]
  generalize hff : upd _ 4 _ = f1
  generalize hgg : upd _ 9 _ = g1
  generalize hbf : bigFuel = fuel
  obtain ⟨f2, g2, e2, h1⟩ := place2_loop (env n) (a := a) (cx := cx) (σ := σ) hs x bF oF (fun h => by obtain ⟨b, r, x, _, y⟩ := k1 h; exact ⟨b, r, x, y⟩) path.length fuel 0 f1 g1 d b off cs (by omega) (by rw [← hbf]; show path.length < 1000000000000; omega) hx hN hc hle hL {
    f0 := by rw [← hff]; simp -implicitDefEqProofs only [upd_go, kept_go, ↓reduceIte, Nat.reduceEqDiff, Nat.reduceLT, reduceCtorEq, List.getElem?_cons_zero, List.getElem?_cons_succ, Option.getD_some]
    g7 := by rw [← hgg]; simp -implicitDefEqProofs only [upd_go, kept_go, ↓reduceIte, Nat.reduceEqDiff, Nat.reduceLT, reduceCtorEq]
    g8 := by rw [← hgg]; simp -implicitDefEqProofs only [upd_go, kept_go, ↓reduceIte, Nat.reduceEqDiff, Nat.reduceLT, reduceCtorEq]
    g9 := by rw [← hgg]; simp -implicitDefEqProofs only [upd_go, kept_go, ↓reduceIte, Nat.reduceEqDiff, Nat.reduceLT, reduceCtorEq] <;> rfl } hS
  rw [e2]
  simp -implicitDefEqProofs only [go_sem, ↓reduceIte, Nat.reduceLT, Nat.reduceEqDiff, Nat.reduceAdd, Nat.reduceMul, Nat.reduceLeDiff, Nat.reduceSub, r73_8_go, r73_8U, h1]
theorem spot_ex {R : Nat → Prop} {σ : FState} : ∀ (p : List Nat) (d w : D) (b off : Nat) (cs : List Value), σ.cells b = some cs → 4 ≤ cs.length - off → LaidR R σ (.agg ((cs.drop off).take 4).toArray) d → atP p d = some w →
    ∃ b' off' cs', SpotAt σ p b off b' off' ∧ σ.cells b' = some cs' ∧ 4 ≤ cs'.length - off' ∧ LaidR R σ (.agg ((cs'.drop off').take 4).toArray) w
  | [], d, w, b, off, cs, hc, hle, hL, h => by rw [atP] at h; cases h; exact ⟨b, off, cs, .nil b off, hc, hle, hL⟩
  | i :: p, .mk k z t ds, w, b, off, cs, hc, hle, hL, h => by
    rw [atP] at h
    simp only [D.parts] at h
    cases hd : ds[i]? with
    | none => rw [hd] at h; cases h
    | some d' =>
      rw [hd] at h
      obtain ⟨q, c, hv, hE⟩ := hL
      have hv' : (cs.drop off).take 4 = [.int .i64 k, .int .i64 z, .string t, .slice q ds.length c] := by
        have := Value.agg.inj hv
        simpa using congrArg Array.toList this
      have hf3 := field3 hv'
      obtain ⟨b', off', cs', rfl, hRb, hcs', hle', hL'⟩ := LaidRE.get hE hd
      rw [Nat.zero_add] at hle' hL'
      obtain ⟨b2, o2, cs2, h1, h2⟩ := spot_ex p d' w b' (off' + i * 4) cs' hcs' (by omega) hL' h
      exact ⟨b2, o2, cs2, .cons i p b off b' off' _ _ b2 o2 cs hc hf3 h1, h2⟩
theorem validO_go (M : Nat) (d : D) (h : Okay M d) (lv : List Value) (h4 : lv.length = 4) (R : Nat → Prop) (σ : FState) (hw : Wf σ) (hL : LaidR R σ (.agg lv.toArray) d) (hR : ∀ b, R b → b < σ.next) :
    Gives ((env (M + 5)).call 60 [.agg lv.toArray] none σ) σ fun w _ => w = .int .i64 (.ofNat d.count) := by
  have := valid_go M d lv h4 R σ hw hL hR h.small (by rw [pieces_length]; exact h.few) h.good
  rwa [pieces_length] at this
theorem SpotAt.keep {σ σ' : FState} {p : List Nat} {b off b' off' : Nat} (h : SpotAt σ p b off b' off') (hk : ∀ b cs, σ.cells b = some cs → σ'.cells b = some cs) : SpotAt σ' p b off b' off' := by
  induction h with
  | nil b off => exact .nil b off
  | cons i p b off bb o l c b' off' cs h1 h2 h3 ih => exact .cons i p b off bb o l c b' off' cs (hk _ _ h1) h2 ih
theorem put1 (M n : Nat) (hM : M = n + 14) (bd bx bp : Nat) (d x w : D) (hOd : Okay M d) (hOx : Okay M x) (hOw : Okay M w) (path : List Nat) (pv : Value) (Q : Nat → Prop) (hs : path.length < 100000) (hat : atP path d = some w) (hz : (putP path x d).count ≤ 2000) (lv xv : List Value) (h4 : lv.length = 4) (hx4 : xv.length = 4) (R RX : Nat → Prop) (σ : FState) (hw : Wf σ) (hb1 : σ.cells bd = some lv) (hb2 : σ.cells bx = some xv) (hb3 : σ.cells bp = some [pv]) (hLd : LaidR R σ (.agg lv.toArray) d) (hLx : LaidR RX σ (.agg xv.toArray) x) (hP : PathV Q σ pv path) (hR : ∀ b, R b → b < σ.next) (hRX : ∀ b, RX b → b < σ.next) :
    Gives ((env (M + 6)).call 74 [.pointer (some ⟨bd, 0, none⟩), .pointer (some ⟨bx, 0, none⟩), .pointer (some ⟨bp, 0, none⟩)] none σ) σ fun v σ' => LaidR (fun b => σ.next ≤ b) σ' v (putP path x d) := by
  have hpc := put_count path x d w hat
  have hdc := hOd.few
  have hxc := hOx.few
  have hwc := hOw.few
  have hdd := hOd.deep
  have hxd := hOx.deep
  have ht : lv.take 4 = lv := List.take_of_length_le (by omega)
  have htx : xv.take 4 = xv := List.take_of_length_le (by omega)
  have kl : ∀ {R : Nat → Prop} {v : Value} {e : D} (σ' : FState), Ext σ σ' → LaidR R σ v e → LaidR R σ' v e := fun σ' hx h => h.keep fun b cs hb hc => ⟨(hx.cells (hw.cells hc)).trans hc, hb⟩
  have kc : ∀ {b : Nat} {cs : List Value} (σ' : FState), Ext σ σ' → σ.cells b = some cs → σ'.cells b = some cs := fun σ' hx hc => (hx.cells (hw.cells hc)).trans hc
  have kp : ∀ (σ' : FState), Ext σ σ' → PathV (fun _ => True) σ' pv path := fun σ' hx => hP.keep fun b cs _ hc => ⟨kc σ' hx hc, trivial⟩
  have x0 : Ext σ (σ.push (.cells [.int .i64 0, .int .i64 0, .string ⟨#[]⟩, .slice none 0 0] TD) none) := (Ext.refl _).push _ _
  have hw0 := hw.push (.cells [.int .i64 0, .int .i64 0, .string ⟨#[]⟩, .slice none 0 0] TD) none
  have g0 : (σ.push (.cells [.int .i64 0, .int .i64 0, .string ⟨#[]⟩, .slice none 0 0] TD) none).heap.get σ.next = some ⟨(.cells [.int .i64 0, .int .i64 0, .string ⟨#[]⟩, .slice none 0 0] TD), false, none, σ.clock⟩ := by rw [push_get, if_pos rfl]
  have ne1 : (bd = σ.next) = False := by have := hw.cells hb1; simp; omega
  rw [env_call, enter74 _ _ _ _ (by simp), Sl_start]
  unfold run74
  obtain ⟨_, σ1, e1, x1, hw1, rfl⟩ := validO_go M d hOd lv h4 R _ hw0 (kl _ x0 hLd) (fun b hb => by have := hR b hb; rw [push_next]; omega)
  have X1 := x0.trans x1
  have n1 := X1.next
  obtain ⟨_, σ2, e2, x2, hw2, rfl⟩ := validO_go M x hOx xv hx4 RX σ1 hw1 (kl _ X1 hLx) (fun b hb => by have := hRX b hb; omega)
  have X2 := X1.trans x2
  have n2 := X2.next
  have cd2 := kc _ X2 hb1
  have hLd2 : LaidR R σ2 (.agg ((lv.drop 0).take 4).toArray) d := by rw [List.drop_zero, ht]; exact kl _ X2 hLd
  obtain ⟨bw, ow, csw, hSw, hcw, hlew, hLw⟩ := spot_ex path d w bd 0 lv cd2 (by omega) hLd2 hat
  have e3 := place2_go (M + 4) hs (kp σ2 X2) hat (by omega) cd2 (by omega) hLd2 hSw
  have lw4 : ((csw.drop ow).take 4).length = 4 := by rw [List.length_take, List.length_drop]; omega
  obtain ⟨_, σ3, e4, x3, hw3, rfl⟩ := validO_go M w hOw ((csw.drop ow).take 4) lw4 (fun b => R b) σ2 hw2 hLw (fun b hb => by have := hR b hb; omega)
  have X3 := X2.trans x3
  have n3 := X3.next
  have hlim := fun τ => limit_go (M + 4) (.ofNat (putP path x d).count) (by rw [Int.ofNat_eq_natCast]; omega) τ
  have s1 : wrapI (Int.ofNat d.count - Int.ofNat w.count) = (d.count : Int) - w.count := by rw [wrapI_of (by simp only [Int.ofNat_eq_natCast]; omega)]; simp only [Int.ofNat_eq_natCast]
  have s2 : wrapI ((d.count : Int) - w.count + Int.ofNat x.count) = Int.ofNat (putP path x d).count := by
    rw [wrapI_of (by simp only [Int.ofNat_eq_natCast]; omega)]
    simp only [Int.ofNat_eq_natCast]
    omega
  have hcp := copyI_go (n + 3) 8 d hdd (by omega)
  rw [show n + 3 + 2 * 8 = M + 5 by omega] at hcp
  obtain ⟨_, σ4, e5, x4, hw4, hI⟩ := hcp lv R σ3 hw3 (kl _ X3 hLd)
  obtain ⟨ov, rfl, ho4, hoo⟩ := hI.laid.agg
  have X4 := X3.trans x4
  have n4 := x4.next
  have hto : ov.take 4 = ov := List.take_of_length_le (by omega)
  have x5 : Ext σ4 ((σ4.push (.cells [.int .i64 0, .int .i64 0, .string ⟨#[]⟩, .slice none 0 0] TD) none).put σ4.next (.cells ov TD) none) := ((Ext.refl _).push _ _).put _ _ _ (Nat.le_refl _)
  have hw5 := (hw4.push (.cells [.int .i64 0, .int .i64 0, .string ⟨#[]⟩, .slice none 0 0] TD) none).put σ4.next (.cells ov TD) none (Nat.lt_succ_self _)
  have g5 : ((σ4.push (.cells [.int .i64 0, .int .i64 0, .string ⟨#[]⟩, .slice none 0 0] TD) none).put σ4.next (.cells ov TD) none).heap.get σ4.next = some ⟨.cells ov TD, false, none, σ4.clock + 1⟩ := by rw [put_get, if_pos rfl]; rfl
  have k5 : ((σ4.push (.cells [.int .i64 0, .int .i64 0, .string ⟨#[]⟩, .slice none 0 0] TD) none).put σ4.next (.cells ov TD) none).next = σ4.next + 1 := rfl
  have c1a := kc _ X1 hb2
  have c2b := kc _ X2 hb3
  have c3a := kc _ X3 hb1
  simp -implicitDefEqProofs only [go_sem, ↓reduceIte, Nat.reduceLT, Nat.reduceEqDiff, Nat.reduceAdd, Nat.reduceMul, Nat.reduceLeDiff, Nat.reduceSub, fstoreN, r74_0_go, r74_0U, r74_1_go, r74_1U, r74_2_go, r74_2U, r74_3_go, r74_3U, r74_4_go, r74_4U, r74_5_go, r74_5U, Option.getD_some, hb1, ne1, c1a, c2b, c3a, h4, hx4, ht, htx, e1, e2, e3, e4, hcw, hlew, s1, s2, hlim, e5, ho4, hoo, Nat.le_refl]
  generalize hff : upd _ 7 _ = f1
  generalize hgg : upd _ 25 _ = g1
  have q1 : f1 1 = .pointer (some ⟨bx, 0, none⟩) := by rw [← hff]; simp -implicitDefEqProofs only [upd_go, kept_go, ↓reduceIte, Nat.reduceEqDiff, Nat.reduceLT, reduceCtorEq, List.getElem?_cons_zero, List.getElem?_cons_succ, Option.getD_some]
  have q2 : f1 2 = .pointer (some ⟨bp, 0, none⟩) := by rw [← hff]; simp -implicitDefEqProofs only [upd_go, kept_go, ↓reduceIte, Nat.reduceEqDiff, Nat.reduceLT, reduceCtorEq, List.getElem?_cons_zero, List.getElem?_cons_succ, Option.getD_some]
  have q3 : f1 3 = .pointer (some ⟨σ.next, 0, none⟩) := by rw [← hff]; simp -implicitDefEqProofs only [upd_go, kept_go, ↓reduceIte, Nat.reduceEqDiff, Nat.reduceLT, reduceCtorEq]
  have q7 : f1 7 = .pointer (some ⟨σ4.next, 0, none⟩) := by rw [← hff]; simp -implicitDefEqProofs only [upd_go, kept_go, ↓reduceIte, Nat.reduceEqDiff, Nat.reduceLT, reduceCtorEq]
  clear hff hgg
  generalize FState.put _ _ _ _ = σ5 at x5 hw5 g5 k5 ⊢
  have X5 := X4.trans x5
  have hI5 : LaidI σ5 σ3.next σ4.next (.agg ov.toArray) d := hI.keep fun b e _ hb he => (x5.get b hb).trans he
  have hI5' : LaidI σ5 σ3.next σ4.next (.agg ((ov.drop 0).take 4).toArray) d := by rw [List.drop_zero, hto]; exact hI5
  have c5 := cells_of_get g5
  obtain ⟨b', off', _, hS5, _, _, _⟩ := spot_ex path d w σ4.next 0 ov c5 (by omega) hI5'.laid hat
  have e6 := place2_go (M + 4) hs (kp σ5 X5) hat (by omega) c5 (by omega) hI5'.laid hS5
  have hcx := copyI_go (n + 3) 8 x hxd (by omega)
  rw [show n + 3 + 2 * 8 = M + 5 by omega] at hcx
  obtain ⟨_, σ6, e7, x6, hw6, hIx⟩ := hcx xv RX σ5 hw5 (kl _ X5 hLx)
  obtain ⟨nv, rfl, hn4, hno⟩ := hIx.laid.agg
  have n6 := x6.next
  have n5 := X5.next
  have hI6 : LaidI σ6 σ3.next σ4.next (.agg ((ov.drop 0).take 4).toArray) d := hI5'.keep fun b e _ hb he => (x6.get b (by omega)).trans he
  have g6 := (x6.get _ (by omega)).trans g5
  have hS6 : SpotAt σ6 path σ4.next 0 b' off' := hS5.keep fun b cs hc => (x6.cells (hw5.cells hc)).trans hc
  have hnX : LaidR (fun b => σ5.next ≤ b ∧ b < σ6.next) σ6 (.agg nv.toArray) x := hIx.laid
  have htn : nv.take 4 = nv := List.take_of_length_le (by omega)
  obtain ⟨cs', ver', p1, p2, p3, _⟩ := spot_put σ6 σ6 x nv _ hn4 hnX b' off' path d w σ3.next σ4.next σ4.next 0 _ ov g6 (by omega) (.inr (Nat.le_refl _)) hI6 hat hS6
  have hbb : b' < σ5.next := by rcases p3 with h | h <;> omega
  have hbl : σ3.next ≤ b' := by rcases p3 with h | h <;> omega
  have hb6 := (hw6 _ _ p1).1
  have hX7 : LaidR (fun b => σ5.next ≤ b ∧ b < σ6.next) (σ6.put b' (.cells (cs'.take off' ++ nv ++ cs'.drop (off' + 4)) TD) none) (.agg nv.toArray) x := hnX.keep fun b cs hb hc => ⟨by rw [cells_put, if_neg (by omega)]; exact hc, hb⟩
  obtain ⟨cs2, ver2, p1', _, _, p4⟩ := spot_put σ6 (σ6.put b' (.cells (cs'.take off' ++ nv ++ cs'.drop (off' + 4)) TD) none) x nv _ hn4 hX7 b' off' path d w σ3.next σ4.next σ4.next 0 _ ov g6 (by omega) (.inr (Nat.le_refl _)) hI6 hat hS6
  have hcs : cs2 = cs' := by
    have h1 := cells_of_get p1'
    rw [cells_of_get p1] at h1
    exact (Option.some.inj h1).symm
  subst hcs
  obtain ⟨csb, r1, r2, _, r4⟩ := p4 (by rw [cells_put, if_pos rfl]; rfl) (fun c e hc _ he => by rw [put_get, if_neg hc]; exact he)
  have hb4 : csb.length = 4 := r2.trans ho4
  have htb : csb.take 4 = csb := List.take_of_length_le (by omega)
  rw [List.drop_zero, htb] at r4
  have hcb : csb.all oneCell = true := by
    obtain ⟨l, hl, _, h2⟩ := r4.agg
    have := congrArg Array.toList (Value.agg.inj hl)
    simp at this
    rw [this]; exact h2
  have g07 : (σ6.put b' (.cells (cs2.take off' ++ nv ++ cs2.drop (off' + 4)) TD) none).heap.get σ.next = some ⟨(.cells [.int .i64 0, .int .i64 0, .string ⟨#[]⟩, .slice none 0 0] TD), false, none, σ.clock⟩ := by
    have h01 : σ.next < σ1.next := by have := x1.next; rw [push_next] at this; omega
    have h02 := x2.next
    have h03 := x3.next
    rw [put_get, if_neg (by omega), x6.get σ.next (by omega), x5.get σ.next (by omega), x4.get σ.next (by omega), x3.get σ.next (by omega), x2.get σ.next (by omega), x1.get σ.next (by rw [push_next]; omega)]
    exact g0
  have c5p := kc _ X5 hb3
  have c6x := kc _ X5 hb2
  simp -implicitDefEqProofs only [go_sem, ↓reduceIte, Nat.reduceLT, Nat.reduceEqDiff, Nat.reduceAdd, Nat.reduceMul, Nat.reduceLeDiff, Nat.reduceSub, fstoreN, r74_6_go, r74_6U, r74_7_go, r74_7U, r74_8_go, r74_8U, q1, q2, q3, q7, c5p, c6x, hx4, htx, e6, e7, p1, p2, hn4, hno, r1, hb4, hcb, htb, g07, aggDatum, fleave_nil, fresults_nil, fresults_cons, fresult_cell, Nat.le_refl]
  have X6 := X5.trans x6
  have hsn : σ.next < σ3.next := by have := x1.next; have := x2.next; have := x3.next; rw [push_next] at *; omega
  exact ⟨_, _, rfl, (X6.put _ _ _ (by omega)).put _ _ _ (Nat.le_refl _), (hw6.put _ _ _ hb6).put _ _ _ (by rw [put_next]; omega), r4.keep fun c cc hc hcc => ⟨by rw [cells_put, if_neg (by omega)]; exact hcc, by omega⟩⟩
end Go.Proofs.YtodkeaoikjjneaaGreatDoor
/- caracoleref01.Paths: all paths of a datum. -/
namespace Go.Proofs.YtodkeaoikjjneaaGreatDoor
open Go Go.Eng
attribute [local congr] andThen_congr fops_congr fdraw_congr afterOp_congr drawF_congr
attribute [-go_sem] List.range_succ
/-- A slice's capacity is not below its length. -/
def CapV (v : Value) : Prop := ∃ a n c, v = .slice a n c ∧ n ≤ c
/-- A block from which slices may be cut. -/
def FulB (σ : FState) (b : Nat) : Prop := ∃ vs fz ver, σ.heap.get b = some ⟨.cells vs TI, false, fz, ver⟩ ∧ (fz = none ∨ fz = some 1)
theorem FulB.keep {σ σ' : FState} {b : Nat} (h : FulB σ b) (hb : σ'.heap.get b = σ.heap.get b) : FulB σ' b := by
  obtain ⟨vs, fz, ver, h1, h2⟩ := h
  exact ⟨vs, fz, ver, hb.trans h1, h2⟩
theorem ful_fulB {σ : FState} {b : Nat} {s : Value} {vs : List Value} (h : Ful TI σ b s vs) : FulB σ b := by
  obtain ⟨fz, ver, h1, h2, h3⟩ := h
  exact ⟨vs, fz, ver, h2, h3⟩
/-- At the head of the loop over the parts. -/
structure HeadPb (bd bo base : Nat) (R : Nat → Prop) (k z : Int) (t : ByteArray) (q : Option Addr) (c : Nat) (ds : List D) (at' : List Nat) (atv : Value) (us : List Value) (ps : List (List Nat)) (σ0 : FState) (i : Nat) (f : Nat → Value) (σ : FState) : Prop where
  f1 : f 1 = atv
  f2 : f 2 = .pointer (some ⟨bd, 0, none⟩)
  f5 : Ful TP σ bo (f 5) us
  f6 : f 6 = .int .i64 (.ofNat i)
  cd : σ.cells bd = some [.int .i64 k, .int .i64 z, .string t, .slice q ds.length c]
  lay : LaidRE R σ q 0 ds
  low : ∀ b, R b → b < base
  atp : PathV (· < base) σ atv at'
  hbd : base ≤ bd ∧ bd ≠ bo
  hbo : base ≤ bo
  lst : PathsL (fun b => base ≤ b ∧ b ≠ bo ∧ FulB σ b) σ us ps
  caps : ∀ u, u ∈ us → CapV u
  wf : Wf σ
  ext : Ext σ0 σ
  le : i ≤ ds.length
  few : ds.length < 10000
/-- What is claimed of calls for parts. -/
def PathsBt (m : Nat) (d : D) : Prop := ∀ (at' : List Nat) (v atv : Value) (R Q : Nat → Prop) (σ : FState), Wf σ → LaidR R σ v d → PathV Q σ atv at' → at'.length + d.deep < 1000 → (d.pieces at').length < 10000 →
  Gives ((env m).call 22 [v, atv] none σ) σ fun w σ' => ∃ b us, σ.next ≤ b ∧ Ful TP σ' b w us ∧ PathsL (fun b => σ.next ≤ b ∧ FulB σ' b) σ' us ((d.pieces at').map (·.1)) ∧ ∀ u, u ∈ us → CapV u
theorem pathsB_round (m : Nat) {bd bo base : Nat} {R : Nat → Prop} {k z : Int} {t : ByteArray} {q : Option Addr} {c : Nat} {ds : List D} {at' : List Nat} {atv : Value} {us : List Value} {ps : List (List Nat)} {σ0 : FState} {i : Nat} {f : Nat → Value} {σ : FState} (d : D) (hP : PathsBt m d)
    (h : HeadPb bd bo base R k z t q c ds at' atv us ps σ0 i f σ) (hb0 : σ0.next = base) (hd : ds[i]? = some d) (hlen : at'.length + 1 + d.deep < 1000) (hcount : us.length + (d.pieces (at' ++ [i])).length < 10000) (g : Nat → Value) :
    ∃ f' g' σ' bo' us', l22_0 (env m) none 22 (Sl 7 33 f g []) none σ = .done .normal (Sl 7 33 f' g' []) none σ' ∧ HeadPb bd bo' base R k z t q c ds at' atv us' (ps ++ (d.pieces (at' ++ [i])).map (·.1)) σ0 (i + 1) f' σ' := by
  have hi : i < ds.length := (List.getElem?_eq_some_iff.1 hd).1
  have d1 : decide (Int.ofNat i < Int.ofNat ds.length) = true := by simp; omega
  obtain ⟨b, off, cs, rfl, hRb, hcs, hle, hL⟩ := LaidRE.get h.lay hd
  rw [Nat.zero_add] at hle hL
  have w3 := add1 i (by have := h.few; omega)
  have l4 : ((cs.drop (off + i * 4)).take 4).length = 4 := by rw [List.length_take, List.length_drop]; omega
  -- the part's path
  have hbase : base ≤ σ.next := by have := h.ext.next; omega
  have F1 : Ful TI (σ.push (.cells [] TI) none) σ.next (.slice (some ⟨σ.next, 0, none⟩) 0 0) [] := Ful.push TI σ []
  have hw1 := h.wf.push (.cells [] TI) none
  have a1 : PathV (· < base) (σ.push (.cells [] TI) none) atv at' := h.atp.keep fun b c hb hc => ⟨by rw [cells_push, if_neg (by omega)]; exact hc, hb⟩
  obtain ⟨b2, s2, σ2, e2, F2, hb2, ch2, hw2⟩ := F1.append hw1 atv (intsOf at') 8 a1.fnew (intsOf_all _) (by omega) (by simp [intsOf_length]; omega)
  have F3 := F2.keep (σ' := σ2.push (.cells [.int .i64 (.ofNat i)] TI) none) (by rw [push_get, if_neg (by have := F2.lt hw2; omega)])
  have hw3 := hw2.push (.cells [.int .i64 (.ofNat i)] TI) none
  have c3 : (σ2.push (.cells [.int .i64 (.ofNat i)] TI) none).cells σ2.next = some ([.int .i64 (.ofNat i)] ++ []) := by rw [cells_push, if_pos rfl]; rfl
  obtain ⟨b4, s4, σ4, e4, F4, hb4, ch4, hw4⟩ := F3.append hw3 (.slice (some ⟨σ2.next, 0, none⟩) 1 1) [.int .i64 (.ofNat i)] 8 (fnew_some σ2.next 1 1 _ [] c3 rfl) rfl (by omega) (by simp [intsOf_length]; omega)
  have hb2' : σ.next ≤ b2 := by
    rcases hb2 with rfl | rfl
    · exact Nat.le_refl _
    · rw [push_next]; omega
  have hb4' : σ.next ≤ b4 := by
    have := ch2.next
    rw [push_next] at this
    rcases hb4 with rfl | rfl
    · exact hb2'
    · rw [push_next]; omega
  have x4 : Ext σ σ4 := by
    have c1 := ch2.next
    have c2 := ch4.next
    have k1 := ch2.clock
    have k2 := ch4.clock
    rw [push_next] at c1 c2
    rw [push_clock] at k1 k2
    refine ⟨by omega, by omega, fun x hx => ?_⟩
    rw [ch4.get x (by rw [push_next]; omega) (by omega), push_get, if_neg (by omega), ch2.get x (by rw [push_next]; omega) (by omega), push_get, if_neg (by omega)]
  have hpath : intsOf at' ++ [.int .i64 (.ofNat i)] = intsOf (at' ++ [i]) := by simp [intsOf]
  rw [List.nil_append, hpath] at F4
  have P4 : PathV (fun _ => True) σ4 s4 (at' ++ [i]) := by
    obtain ⟨h1, h2⟩ := F4.cells
    rw [intsOf_length] at h1
    exact .inr ⟨b4, _, [], h1, trivial, by rw [List.append_nil]; exact h2⟩
  obtain ⟨w5, σ5, e5, x5, hw5, b5, us5, _, F5, L5, C5⟩ := hP (at' ++ [i]) (.agg ((cs.drop (off + i * 4)).take 4).toArray) s4 R (fun _ => True) σ4 hw4 (hL.keep fun b c hb hc => ⟨(x4.cells (h.wf.cells hc)).trans hc, hb⟩) P4 (by rw [List.length_append, List.length_singleton]; exact hlen) (by omega)
  have x15 := x4.trans x5
  have n4 := x4.next
  have n5 := x5.next
  have hbon := h.f5.lt h.wf
  have G5 : Ful TP σ5 bo (f 5) us := h.f5.keep (x15.get bo hbon)
  obtain ⟨hw5v, hc5⟩ := F5.cells
  have l5 := L5.length
  rw [List.length_map] at l5
  obtain ⟨b6, s6, σ6, e6, F6, hb6, ch6, hw6⟩ := G5.append hw5 w5 us5 24 (by rw [hw5v]; exact fnew_some b5 us5.length us5.length us5 [] (by rw [List.append_nil]; exact hc5) rfl) L5.all (by omega) (by rw [l5]; omega)
  have vd : (view σ4 σ.clock).cells bd = some [.int .i64 k, .int .i64 z, .string t, .slice (some ⟨b, off, none⟩) ds.length c] := view_old h.wf (Nat.le_refl _) (x4.get bd (h.wf.cells h.cd)) h.cd
  have vb : (view σ4 σ.clock).cells b = some cs := view_old h.wf (Nat.le_refl _) (x4.get b (h.wf.cells hcs)) hcs
  unfold l22_0
  simp -implicitDefEqProofs only [go_sem, ↓reduceIte, Nat.reduceLT, Nat.reduceEqDiff, Nat.reduceAdd, Nat.reduceMul, Nat.reduceLeDiff, Nat.reduceSub, r22_3_go, r22_3U, r22_5_go, r22_5U, h.f1, h.f2, h.f6, h.cd, d1, e2, e4, vd, vb, hi, hle, e5, e6]
  generalize hg : upd _ 31 _ = g1
  clear hg
  simp -implicitDefEqProofs only [go_sem, ↓reduceIte, Nat.reduceLT, Nat.reduceEqDiff, Nat.reduceAdd, Nat.reduceMul, Nat.reduceLeDiff, Nat.reduceSub, r22_4_go, r22_4U, h.f6, w3]
  have c56 : ∀ b c, b ≠ bo → σ5.cells b = some c → σ6.cells b = some c := fun b c hb hc => (ch6.cells (hw5.cells hc) hb).trans hc
  have c06 : ∀ b c, b ≠ bo → σ.cells b = some c → σ6.cells b = some c := fun b c hb hc => c56 b c hb ((x15.cells (h.wf.cells hc)).trans hc)
  have n6 := ch6.next
  have hbo := h.hbo
  have hb6' : base ≤ b6 := by rcases hb6 with rfl | rfl <;> omega
  have xx := h.ext.trans x15
  refine ⟨_, _, σ6, b6, us ++ us5, rfl, {
    f1 := by simp -implicitDefEqProofs only [upd_go, kept_go, ↓reduceIte, Nat.reduceEqDiff, Nat.reduceLT, reduceCtorEq, h.f1]
    f2 := by simp -implicitDefEqProofs only [upd_go, kept_go, ↓reduceIte, Nat.reduceEqDiff, Nat.reduceLT, reduceCtorEq, h.f2]
    f5 := by rw [show upd (upd f 5 s6) 6 (Value.int .i64 (.ofNat (i + 1))) 5 = s6 by simp -implicitDefEqProofs only [upd_go, kept_go, ↓reduceIte, Nat.reduceEqDiff, Nat.reduceLT, reduceCtorEq]]; exact F6
    f6 := by simp -implicitDefEqProofs only [upd_go, kept_go, ↓reduceIte, Nat.reduceEqDiff, Nat.reduceLT, reduceCtorEq]
    cd := c06 bd _ h.hbd.2 h.cd
    lay := h.lay.keep fun b c hb hc => ⟨c06 b c (by have := h.low b hb; omega) hc, hb⟩
    low := h.low
    atp := h.atp.keep fun b c hb hc => ⟨c06 b c (by omega) hc, hb⟩
    hbd := ⟨h.hbd.1, by
      have := h.wf.cells h.cd
      rcases hb6 with rfl | rfl
      · exact h.hbd.2
      · omega⟩
    hbo := hb6'
    lst := (h.lst.keep fun b c hb hc => ⟨c06 b c hb.2.1 hc, hb.1, by
      have := h.wf.cells hc
      rcases hb6 with rfl | rfl
      · exact hb.2.1
      · omega, hb.2.2.keep ((ch6.get b (by have := h.wf.cells hc; omega) hb.2.1).trans (x15.get b (h.wf.cells hc)))⟩).append (L5.keep fun b c hb hc => ⟨c56 b c (by have := hb.1; omega) hc, by have := hb.1; omega, by
      have := hw5.cells hc
      have := hb.1
      rcases hb6 with rfl | rfl
      · omega
      · omega, hb.2.keep (ch6.get b (hw5.cells hc) (by have := hb.1; omega))⟩)
    caps := fun u hu => by
      rcases List.mem_append.1 hu with hu | hu
      · exact h.caps u hu
      · exact C5 u hu
    wf := hw6
    ext := ⟨by have := xx.next; omega, by have := xx.clock; have := ch6.clock; omega, fun x hx => (ch6.get x (by have := xx.next; omega) (by omega)).trans (xx.get x hx)⟩
    le := hi
    few := h.few }⟩
theorem pathsB_loop (m : Nat) {bd base : Nat} {R : Nat → Prop} {k z : Int} {t : ByteArray} {q : Option Addr} {c : Nat} {ds : List D} {at' : List Nat} {atv : Value} {σ0 : FState} (total : List (List Nat)) (hP : ∀ d ∈ ds, PathsBt m d) (hb0 : σ0.next = base) (hdeep : ∀ d ∈ ds, at'.length + 1 + d.deep < 1000) (hcount : total.length < 10000) :
    ∀ (j fuel i : Nat) (bo : Nat) (us : List Value) (ps : List (List Nat)) (f g : Nat → Value) (σ : FState), i + j = ds.length → j < fuel → ps ++ (D.piecesL at' i (ds.drop i)).map (·.1) = total → HeadPb bd bo base R k z t q c ds at' atv us ps σ0 i f σ →
    ∃ f' g' σ' bo' us', floop [32] (l22_0 (env m) none 22) fuel (Sl 7 33 f g []) none σ = .done (.exit 0) (Sl 7 33 f' g' []) none σ' ∧ HeadPb bd bo' base R k z t q c ds at' atv us' total σ0 ds.length f' σ' := by
  intro j
  induction j with
  | zero =>
    intro fuel i bo us ps f g σ hij hf ht h
    obtain ⟨fuel, rfl⟩ : ∃ q, fuel = q + 1 := ⟨fuel - 1, by omega⟩
    obtain rfl : i = ds.length := by omega
    rw [List.drop_length, D.piecesL, List.map_nil, List.append_nil] at ht
    subst ht
    have d1 : decide (Int.ofNat ds.length < Int.ofNat ds.length) = false := by simp
    rw [floop_step, Sl_forget]
    unfold l22_0
    simp -implicitDefEqProofs only [go_sem, ↓reduceIte, Nat.reduceLT, Nat.reduceEqDiff, Nat.reduceAdd, Nat.reduceMul, Nat.reduceLeDiff, Nat.reduceSub, r22_3_go, r22_3U, h.f2, h.f6, h.cd, d1]
    exact ⟨_, _, _, bo, us, rfl, h⟩
  | succ j ih =>
    intro fuel i bo us ps f g σ hij hf ht h
    obtain ⟨fuel, rfl⟩ : ∃ q, fuel = q + 1 := ⟨fuel - 1, by omega⟩
    have hi : i < ds.length := by omega
    have hd : ds[i]? = some ds[i] := List.getElem?_eq_getElem hi
    have hdr : ds.drop i = ds[i] :: ds.drop (i + 1) := List.drop_eq_getElem_cons hi
    rw [hdr, D.piecesL, List.map_append] at ht
    have hcl : us.length + (ds[i].pieces (at' ++ [i])).length < 10000 := by
      have := congrArg List.length ht
      simp only [List.length_append, List.length_map] at this
      have := h.lst.length
      omega
    obtain ⟨f1, g1, σ1, bo1, us1, e1, h1⟩ := pathsB_round m ds[i] (hP _ (List.getElem_mem _)) h hb0 hd (hdeep _ (List.getElem_mem _)) hcl (kept [32] g)
    rw [floop_step, Sl_forget, e1, andThen_normal]
    exact ih fuel (i + 1) bo1 us1 _ f1 g1 σ1 (by omega) (by omega) (by rw [List.append_assoc]; exact ht) h1
theorem pathsB_step (m : Nat) (d : D) (hP : ∀ d' ∈ d.parts, PathsBt m d') : PathsBt (m + 1) d := by
  intro at' v atv R Q σ hw hL hA hdeep hcount
  obtain ⟨k, z, t, ds⟩ := d
  obtain ⟨q, c, rfl, hE⟩ := hL
  have hpc := D.pieces_eq at' (.mk k z t ds)
  rw [env_call, enter22 _ _ _ _ (by simp), Sl_start]
  unfold run22
  have x1 : Ext σ ((σ.push (.cells [.int .i64 k, .int .i64 z, .string t, .slice q ds.length c] TD) none).push (.cells [] TI) none) := ((Ext.refl _).push _ _).push _ _
  have hw1 := (hw.push (.cells [.int .i64 k, .int .i64 z, .string t, .slice q ds.length c] TD) none).push (.cells [] TI) none
  have F1 : Ful TI ((σ.push (.cells [.int .i64 k, .int .i64 z, .string t, .slice q ds.length c] TD) none).push (.cells [] TI) none) (σ.next + 1) (.slice (some ⟨σ.next + 1, 0, none⟩) 0 0) [] := Ful.push TI _ []
  have c1 : ((σ.push (.cells [.int .i64 k, .int .i64 z, .string t, .slice q ds.length c] TD) none).push (.cells [] TI) none).cells σ.next = some [.int .i64 k, .int .i64 z, .string t, .slice q ds.length c] := by rw [cells_push, if_neg (by rw [push_next]; omega), cells_push, if_pos rfl]; rfl
  have n1 : ((σ.push (.cells [.int .i64 k, .int .i64 z, .string t, .slice q ds.length c] TD) none).push (.cells [] TI) none).next = σ.next + 2 := rfl
  have a1 : PathV (fun _ => True) ((σ.push (.cells [.int .i64 k, .int .i64 z, .string t, .slice q ds.length c] TD) none).push (.cells [] TI) none) atv at' := hA.keep fun b c hb hc => ⟨(x1.cells (hw.cells hc)).trans hc, trivial⟩
  have lenat : at'.length < 1000 := by omega
  obtain ⟨b2, s2, σ2, e2, F2, hb2, ch2, hw2⟩ := F1.append hw1 atv (intsOf at') 8 a1.fnew (intsOf_all _) (by omega) (by simp [intsOf_length]; omega)
  simp -implicitDefEqProofs only [go_sem, ↓reduceIte, Nat.reduceLT, Nat.reduceEqDiff, Nat.reduceAdd, Nat.reduceMul, Nat.reduceLeDiff, Nat.reduceSub, r22_0_go, r22_0U, r22_1_go, r22_1U, r22_2_go, r22_2U, Option.getD_some, e2, F2.one.2.1, F2.one.2.2, keepPaths]
  generalize hff : upd _ 6 _ = f1
  generalize hgg : upd _ 10 _ = g1
  generalize hbf : bigFuel = fuel
  have hb2' : σ.next ≤ b2 := by
    rcases hb2 with rfl | rfl
    · omega
    · rw [n1]; omega
  rw [List.nil_append] at F2
  have F3 : Ful TP (σ2.push (.cells [s2] TP) none) σ2.next (.slice (some ⟨σ2.next, 0, none⟩) 1 1) [s2] := Ful.push TP σ2 [s2]
  have hw3 := hw2.push (.cells [s2] TP) none
  have x2 : Ext σ σ2 := ⟨by have := ch2.next; omega, by have := ch2.clock; have := x1.clock; omega, fun x hx => (ch2.get x (by omega) (by omega)).trans (x1.get x hx)⟩
  have x3 : Ext σ (σ2.push (.cells [s2] TP) none) := x2.push _ _
  have n2 := ch2.next
  have c3 : (σ2.push (.cells [s2] TP) none).cells σ.next = some [.int .i64 k, .int .i64 z, .string t, .slice q ds.length c] := by
    rw [cells_push, if_neg (by omega)]
    exact (ch2.cells (by omega) (by omega)).trans c1
  have P2 : PathV (fun b => σ.next ≤ b ∧ b ≠ σ2.next ∧ FulB (σ2.push (.cells [s2] TP) none) b) (σ2.push (.cells [s2] TP) none) s2 at' := by
    obtain ⟨h1, h2⟩ := F2.cells
    have := F2.lt hw2
    have hfb := (ful_fulB F2).keep (σ' := σ2.push (.cells [s2] TP) none) (by rw [push_get, if_neg (by omega)])
    rw [intsOf_length] at h1
    exact .inr ⟨b2, _, [], h1, ⟨hb2', by omega, hfb⟩, by rw [cells_push, if_neg (by omega), List.append_nil]; exact h2⟩
  have hfew : ds.length < 10000 := by
    have h1 := congrArg List.length hpc
    have h2 := piecesL_len ds at' 0
    rw [List.length_cons] at h1
    simp only [D.parts] at h1
    omega
  have hdp : (D.mk k z t ds).deep = D.deeps ds + 1 := by rw [D.deep]
  obtain ⟨f2, g2, σ4, bo, us, e4, h4⟩ := pathsB_loop m (ds := ds) (bd := σ.next) (base := σ.next) (R := fun b => R b ∧ b < σ.next) (atv := atv) (σ0 := σ) (((D.mk k z t ds).pieces at').map (·.1)) (fun d' hd => hP d' hd) rfl (fun d hd => by have := deeps_mem hd; omega) (by rw [List.length_map]; exact hcount) ds.length fuel 0 σ2.next [s2] [at'] f1 g1 (σ2.push (.cells [s2] TP) none) (by omega) (by rw [← hbf]; show ds.length < 1000000000000; omega) (by rw [hpc]; rfl) {
    f1 := by rw [← hff]; simp -implicitDefEqProofs only [upd_go, kept_go, ↓reduceIte, Nat.reduceEqDiff, Nat.reduceLT, reduceCtorEq, List.getElem?_cons_zero, List.getElem?_cons_succ, Option.getD_some]
    f2 := by rw [← hff]; simp -implicitDefEqProofs only [upd_go, kept_go, ↓reduceIte, Nat.reduceEqDiff, Nat.reduceLT, reduceCtorEq]
    f5 := by rw [show f1 5 = .slice (some ⟨σ2.next, 0, none⟩) 1 1 by rw [← hff]; simp -implicitDefEqProofs only [upd_go, kept_go, ↓reduceIte, Nat.reduceEqDiff, Nat.reduceLT, reduceCtorEq]]; exact F3
    f6 := by rw [← hff]; simp -implicitDefEqProofs only [upd_go, kept_go, ↓reduceIte, Nat.reduceEqDiff, Nat.reduceLT, reduceCtorEq] <;> rfl
    cd := c3
    lay := hE.keep fun b c hb hc => ⟨(x3.cells (hw.cells hc)).trans hc, hb, hw.cells hc⟩
    low := fun b hb => hb.2
    atp := hA.keep fun b c hb hc => ⟨(x3.cells (hw.cells hc)).trans hc, hw.cells hc⟩
    hbd := ⟨Nat.le_refl _, by omega⟩
    hbo := by omega
    lst := ⟨P2, trivial⟩
    caps := fun u hu => by
      rw [List.mem_singleton] at hu
      subst hu
      exact ⟨_, _, _, F2.cells.1, Nat.le_refl _⟩
    wf := hw3
    ext := x3
    le := Nat.zero_le _
    few := hfew }
  rw [e4]
  simp -implicitDefEqProofs only [go_sem, ↓reduceIte, Nat.reduceLT, Nat.reduceEqDiff, Nat.reduceAdd, Nat.reduceMul, Nat.reduceLeDiff, Nat.reduceSub, r22_6_go, r22_6U]
  exact ⟨_, _, rfl, h4.ext, h4.wf, bo, us, h4.hbo, h4.f5, h4.lst.keep (fun b c hb hc => ⟨hc, hb.1, hb.2.2⟩), h4.caps⟩
theorem pathsB_go (n : Nat) : ∀ (L : Nat) (d : D), d.deep ≤ L → PathsBt (n + L) d
  | 0, d, h => by cases d; rw [D.deep] at h; omega
  | L + 1, d, h => pathsB_step (n + L) d fun d' hd => pathsB_go n L d' (by
    obtain ⟨k, z, t, ds⟩ := d
    rw [D.deep] at h
    have := deeps_mem hd
    simp only [D.parts] at this
    omega)
end Go.Proofs.YtodkeaoikjjneaaGreatDoor
/- datum.Put, datum.At and begins. -/
namespace Go.Proofs.YtodkeaoikjjneaaGreatDoor
open Go Go.Eng
attribute [local congr] andThen_congr fops_congr fdraw_congr afterOp_congr drawF_congr
attribute [-go_sem] List.range_succ
/-- datum.Put. -/
theorem putD_go (M n : Nat) (hM : M = n + 14) (d x w : D) (hOd : Okay M d) (hOx : Okay M x) (hOw : Okay M w) (path : List Nat) (pv : Value) (Q : Nat → Prop) (hs : path.length < 100000) (hat : atP path d = some w) (hz : (putP path x d).count ≤ 2000) (lv xv : List Value) (h4 : lv.length = 4) (hx4 : xv.length = 4) (R RX : Nat → Prop) (σ : FState) (hw : Wf σ) (hLd : LaidR R σ (.agg lv.toArray) d) (hLx : LaidR RX σ (.agg xv.toArray) x) (hP : PathV Q σ pv path) (hR : ∀ b, R b → b < σ.next) (hRX : ∀ b, RX b → b < σ.next) :
    Gives ((env (M + 9)).call 24 [.agg lv.toArray, pv, .agg xv.toArray] none σ) σ fun v σ' => ∃ u, v = .tuple #[u, .int .i64 0] ∧ LaidR (fun b => σ.next ≤ b) σ' u (putP path x d) := by
  rw [env_call, enter24 _ _ _ _ (by simp), Sl_start]
  unfold run24
  obtain ⟨o1, o2, o3⟩ := hP.one
  have x1 : Ext σ ((((σ.push (.cells lv TD) none).push (.cells [pv] 22) none).push (.cells xv TD) none).push (.cells [.int .i64 0, .int .i64 0, .string ⟨#[]⟩, .slice none 0 0] TD) none) := ((((Ext.refl _).push _ _).push _ _).push _ _).push _ _
  have hw1 := (((hw.push (.cells lv TD) none).push (.cells [pv] 22) none).push (.cells xv TD) none).push (.cells [.int .i64 0, .int .i64 0, .string ⟨#[]⟩, .slice none 0 0] TD) none
  have c1 : ((((σ.push (.cells lv TD) none).push (.cells [pv] 22) none).push (.cells xv TD) none).push (.cells [.int .i64 0, .int .i64 0, .string ⟨#[]⟩, .slice none 0 0] TD) none).cells σ.next = some lv := by rw [cells_push, if_neg (by simp only [push_next]; omega), cells_push, if_neg (by simp only [push_next]; omega), cells_push, if_neg (by rw [push_next]; omega), cells_push, if_pos rfl]; rfl
  have c2 : ((((σ.push (.cells lv TD) none).push (.cells [pv] 22) none).push (.cells xv TD) none).push (.cells [.int .i64 0, .int .i64 0, .string ⟨#[]⟩, .slice none 0 0] TD) none).cells (σ.next + 1) = some [pv] := by rw [cells_push, if_neg (by simp only [push_next]; omega), cells_push, if_neg (by simp only [push_next]; omega), cells_push, if_pos (by rw [push_next])]; rfl
  have c3 : ((((σ.push (.cells lv TD) none).push (.cells [pv] 22) none).push (.cells xv TD) none).push (.cells [.int .i64 0, .int .i64 0, .string ⟨#[]⟩, .slice none 0 0] TD) none).cells (σ.next + 2) = some xv := by rw [cells_push, if_neg (by simp only [push_next]; omega), cells_push, if_pos (by simp only [push_next])]; rfl
  have g4 : ((((σ.push (.cells lv TD) none).push (.cells [pv] 22) none).push (.cells xv TD) none).push (.cells [.int .i64 0, .int .i64 0, .string ⟨#[]⟩, .slice none 0 0] TD) none).heap.get (σ.next + 3) = some ⟨.cells [.int .i64 0, .int .i64 0, .string ⟨#[]⟩, .slice none 0 0] TD, false, none, σ.clock + 3⟩ := by rw [push_get, if_pos (by simp only [push_next])]; rfl
  obtain ⟨_, σ2, e2, x2, hw2, u, rfl, hq⟩ := callD (M + 5) 74 #[.pointer (some ⟨σ.next, 0, none⟩), .pointer (some ⟨σ.next + 2, 0, none⟩), .pointer (some ⟨σ.next + 1, 0, none⟩)] (putP path x d) _ hw1 fun σ' hx' hw' =>
    put1 M n hM σ.next (σ.next + 2) (σ.next + 1) d x w hOd hOx hOw path pv (fun _ => True) hs hat hz lv xv h4 hx4 R RX σ' hw' ((hx'.cells (hw1.cells c1)).trans c1) ((hx'.cells (hw1.cells c3)).trans c3) ((hx'.cells (hw1.cells c2)).trans c2) (hLd.keep fun b cs hb hc => ⟨((x1.trans hx').cells (hw.cells hc)).trans hc, hb⟩) (hLx.keep fun b cs hb hc => ⟨((x1.trans hx').cells (hw.cells hc)).trans hc, hb⟩) (hP.keep fun b cs _ hc => ⟨((x1.trans hx').cells (hw.cells hc)).trans hc, trivial⟩) (fun b hb => by have := hR b hb; have := (x1.trans hx').next; omega) (fun b hb => by have := hRX b hb; have := (x1.trans hx').next; omega)
  have hq0 := hq
  obtain ⟨l4, rfl, hl4, hone⟩ := hq.agg
  have ht4 : l4.take 4 = l4 := List.take_of_length_le (by omega)
  have g4' := (x2.get _ (hw1 _ _ g4).1).trans g4
  have m4 := (hw2 _ _ g4').1
  simp -implicitDefEqProofs only [go_sem, ↓reduceIte, Nat.reduceLT, Nat.reduceEqDiff, Nat.reduceAdd, Nat.reduceMul, Nat.reduceLeDiff, Nat.reduceSub, fstoreN, r24_0_go, r24_0U, r24_1_go, r24_1U, Option.getD_some, o1, o2, o3, e2, g4', hl4, hone, ht4, aggDatum, fleave_nil, fresults_nil, fresults_cons, fresult_cell, fresult_tmp, List.getElem?_cons_zero, List.getElem?_cons_succ]
  exact ⟨_, _, rfl, (x1.trans x2).put _ _ _ (by omega), hw2.put _ _ _ m4, _, rfl, hq0.keep fun b cs hb hc => by
    simp only [push_next] at hb
    exact ⟨by rw [cells_put, if_neg (by omega)]; exact hc, by omega⟩⟩
theorem atO1 (M n : Nat) (hM : M = n + 14) (bd bp : Nat) (d x : D) (hF : Okay M d) (lv : List Value) (h4 : lv.length = 4) (R Q : Nat → Prop) (path : List Nat) (pv : Value) (hs : path.length < 100000) (hx : atP path d = some x) (hxd : x.deep ≤ 8) (hxc : x.count < 100000) (σ : FState) (hw : Wf σ) (hb1 : σ.cells bd = some lv) (hb2 : σ.cells bp = some [pv]) (hL : LaidR R σ (.agg lv.toArray) d) (hP : PathV Q σ pv path) (hR : ∀ b, R b → b < σ.next) :
    Gives ((env (M + 6)).call 72 [.pointer (some ⟨bd, 0, none⟩), .pointer (some ⟨bp, 0, none⟩)] none σ) σ fun v σ' => LaidR (fun b => σ.next ≤ b) σ' v x := by
  have hf := hF.few
  rw [env_call, enter72 _ _ _ _ (by simp), Sl_start]
  unfold run72
  have x0 : Ext σ (σ.push (.cells [.int .i64 0, .int .i64 0, .string ⟨#[]⟩, .slice none 0 0] TD) none) := (Ext.refl _).push _ _
  have hw0 := hw.push (.cells [.int .i64 0, .int .i64 0, .string ⟨#[]⟩, .slice none 0 0] TD) none
  have ne1 : (bd = σ.next) = False := by have := hw.cells hb1; simp; omega
  have ne2 : (bp = σ.next) = False := by have := hw.cells hb2; simp; omega
  obtain ⟨_, σ1, e1, x1, hw1, rfl⟩ := validO_go M d hF lv h4 R _ hw0 (hL.keep fun b cs hb hc => ⟨(x0.cells (hw.cells hc)).trans hc, hb⟩) (fun b hb => by have := hR b hb; rw [push_next]; omega)
  have x01 := x0.trans x1
  have c1 := (x01.cells (hw.cells hb1)).trans hb1
  have c2 := (x01.cells (hw.cells hb2)).trans hb2
  have ht : lv.take 4 = lv := List.take_of_length_le (by omega)
  have hL1 : LaidR R σ1 (.agg ((lv.drop 0).take 4).toArray) d := by
    rw [List.drop_zero, ht]
    exact hL.keep fun b cs hb hc => ⟨(x01.cells (hw.cells hc)).trans hc, hb⟩
  obtain ⟨b', off', cs', e2, hc', hle', hL'⟩ := place_go (M + 4) (Q := fun _ => True) (σ := σ1) hs (hP.keep fun b cs _ hc => ⟨(x01.cells (hw.cells hc)).trans hc, trivial⟩) hx (by omega) c1 (by omega) hL1
  have hcp := copy_go (n + 3) 8 x hxd (by omega)
  rw [show n + 3 + 2 * 8 = M + 5 by omega] at hcp
  obtain ⟨_, σ2, e3, x2, hw2, hq⟩ := hcp ((cs'.drop off').take 4) R σ1 hw1 hL'
  obtain ⟨k, z, t, ds⟩ := x
  obtain ⟨q, c, rfl, hE⟩ := hq
  have g0 : σ2.heap.get σ.next = _ := ((x1.trans x2).get σ.next (Nat.lt_succ_self _)).trans (by rw [push_get, if_pos rfl])
  have m0 := (hw2 _ _ g0).1
  simp -implicitDefEqProofs only [go_sem, ↓reduceIte, Nat.reduceLT, Nat.reduceEqDiff, Nat.reduceAdd, Nat.reduceMul, Nat.reduceLeDiff, Nat.reduceSub, fstoreN, r72_0_go, r72_0U, r72_1_go, r72_1U, r72_2_go, r72_2U, Option.getD_some, hb1, hb2, ne1, ne2, c1, c2, h4, ht, e1, e2, e3, hc', hle', g0, aggDatum, fleave_nil, fresults_nil, fresults_cons, fresult_cell, Nat.le_refl]
  have n1 := x1.next
  rw [push_next] at n1
  exact ⟨_, _, rfl, (x01.trans x2).put _ _ _ (Nat.le_refl _), hw2.put _ _ _ m0, q, c, rfl, hE.keep fun b cs hb hc => ⟨by rw [cells_put, if_neg (by omega)]; exact hc, by omega⟩⟩
/-- datum.At. -/
theorem atO_go (M n : Nat) (hM : M = n + 14) (d x : D) (hF : Okay M d) (lv : List Value) (h4 : lv.length = 4) (R Q : Nat → Prop) (path : List Nat) (pv : Value) (hs : path.length < 100000) (hx : atP path d = some x) (hxd : x.deep ≤ 8) (hxc : x.count < 100000) (σ : FState) (hw : Wf σ) (hL : LaidR R σ (.agg lv.toArray) d) (hP : PathV Q σ pv path) (hR : ∀ b, R b → b < σ.next) :
    Gives ((env (M + 9)).call 23 [.agg lv.toArray, pv] none σ) σ fun w σ' => ∃ u, w = .tuple #[u, .int .i64 0] ∧ LaidR (fun b => σ.next ≤ b) σ' u x := by
  rw [env_call, enter23 _ _ _ _ (by simp), Sl_start]
  unfold run23
  obtain ⟨o1, o2, o3⟩ := hP.one
  have x1 : Ext σ (((σ.push (.cells lv TD) none).push (.cells [pv] 22) none).push (.cells [.int .i64 0, .int .i64 0, .string ⟨#[]⟩, .slice none 0 0] TD) none) := (((Ext.refl _).push _ _).push _ _).push _ _
  have hw1 := ((hw.push (.cells lv TD) none).push (.cells [pv] 22) none).push (.cells [.int .i64 0, .int .i64 0, .string ⟨#[]⟩, .slice none 0 0] TD) none
  have c1 : (((σ.push (.cells lv TD) none).push (.cells [pv] 22) none).push (.cells [.int .i64 0, .int .i64 0, .string ⟨#[]⟩, .slice none 0 0] TD) none).cells σ.next = some lv := by rw [cells_push, if_neg (by simp only [push_next]; omega), cells_push, if_neg (by rw [push_next]; omega), cells_push, if_pos rfl]; rfl
  have c2 : (((σ.push (.cells lv TD) none).push (.cells [pv] 22) none).push (.cells [.int .i64 0, .int .i64 0, .string ⟨#[]⟩, .slice none 0 0] TD) none).cells (σ.next + 1) = some [pv] := by rw [cells_push, if_neg (by simp only [push_next]; omega), cells_push, if_pos (by rw [push_next])]; rfl
  have g4 : (((σ.push (.cells lv TD) none).push (.cells [pv] 22) none).push (.cells [.int .i64 0, .int .i64 0, .string ⟨#[]⟩, .slice none 0 0] TD) none).heap.get (σ.next + 2) = some ⟨.cells [.int .i64 0, .int .i64 0, .string ⟨#[]⟩, .slice none 0 0] TD, false, none, σ.clock + 2⟩ := by rw [push_get, if_pos (by simp only [push_next])]; rfl
  obtain ⟨_, σ2, e2, x2, hw2, u, rfl, hq⟩ := callD (M + 5) 72 #[.pointer (some ⟨σ.next, 0, none⟩), .pointer (some ⟨σ.next + 1, 0, none⟩)] x _ hw1 fun σ' hx' hw' =>
    atO1 M n hM σ.next (σ.next + 1) d x hF lv h4 R (fun _ => True) path pv hs hx hxd hxc σ' hw' ((hx'.cells (hw1.cells c1)).trans c1) ((hx'.cells (hw1.cells c2)).trans c2) (hL.keep fun b cs hb hc => ⟨((x1.trans hx').cells (hw.cells hc)).trans hc, hb⟩) (hP.keep fun b cs _ hc => ⟨((x1.trans hx').cells (hw.cells hc)).trans hc, trivial⟩) (fun b hb => by have := hR b hb; have := (x1.trans hx').next; omega)
  obtain ⟨k, z, t, ds⟩ := x
  obtain ⟨q, c, rfl, hE⟩ := hq
  have g4' := (x2.get _ (hw1 _ _ g4).1).trans g4
  have m4 := (hw2 _ _ g4').1
  simp -implicitDefEqProofs only [go_sem, ↓reduceIte, Nat.reduceLT, Nat.reduceEqDiff, Nat.reduceAdd, Nat.reduceMul, Nat.reduceLeDiff, Nat.reduceSub, fstoreN, r23_0_go, r23_0U, r23_1_go, r23_1U, Option.getD_some, o1, o2, o3, e2, g4', aggDatum, fleave_nil, fresults_nil, fresults_cons, fresult_cell, fresult_tmp, List.getElem?_cons_zero, List.getElem?_cons_succ]
  exact ⟨_, _, rfl, (x1.trans x2).put _ _ _ (by omega), hw2.put _ _ _ m4, _, rfl, q, c, rfl, hE.keep fun b cs hb hc => by
    simp only [push_next] at hb
    exact ⟨by rw [cells_put, if_neg (by omega)]; exact hc, by omega⟩⟩
theorem sizeInt : sizeOfT Tryz.prog 3 = some 1 := by kernel_rfl
theorem underTII : under Tryz.prog 22 = some (.slice 3) := by kernel_rfl
theorem nilSlice (σ : FState) : fslice Tryz.prog 22 (.slice none 0 0) none (some (.int .i64 (.ofNat 0))) none σ = .val (.slice none 0 0) σ := by kernel_rfl
/-- Whether a path begins with another one. -/
theorem begins_go (n : Nat) {Q : Nat → Prop} {v w : Value} {p o : List Nat} {σ : FState} (hw : Wf σ) (hs : o.length < 100000) (h1 : PathV (fun b => FulB σ b) σ v p) (hc : CapV v) (h2 : PathV Q σ w o) :
    (env (n + 2)).call 25 [v, w] none σ = .ret (.bool (decide (o <+: p))) none σ := by
  obtain ⟨a', cx', rfl, k2⟩ := pathV_slice h2
  rw [env_call, enter25 _ _ _ _ (by simp), Sl_start]
  unfold run25
  have hle := fun (h : o <+: p) => h.length_le
  rcases h1 with ⟨rfl, rfl⟩ | ⟨b, cx, rest, rfl, ⟨vs, fz, ver, g1, g2⟩, hcc⟩
  · by_cases ho : o.length = 0
    · have ho' : o = [] := List.length_eq_zero_iff.1 ho
      subst ho'
      have e1 := eqInts_go n hw (p := []) (p' := []) (Q := fun _ => True) (Q' := Q) (v := .slice none 0 0) (by simp) (.inl ⟨rfl, rfl⟩) h2
      have d1 : decide ((Int.ofNat 0 : Int) ≤ Int.ofNat 0) = true := by decide
      rw [decide_eq_true rfl] at e1
      simp only [List.length_nil] at e1
      rw [decide_eq_true (List.prefix_refl ([] : List Nat))]
      simp -implicitDefEqProofs only [go_sem, ↓reduceIte, Nat.reduceLT, Nat.reduceEqDiff, Nat.reduceAdd, Nat.reduceMul, Nat.reduceLeDiff, Nat.reduceSub, r25_0_go, r25_0U, r25_1_go, r25_1U, Option.getD_some, d1, nilSlice, e1]
    · have d1 : decide (Int.ofNat o.length ≤ Int.ofNat 0) = false := decide_eq_false (by simp only [Int.ofNat_eq_natCast]; omega)
      rw [decide_eq_false (fun h => ho (by have := hle h; simpa using this))]
      simp -implicitDefEqProofs only [go_sem, ↓reduceIte, Nat.reduceLT, Nat.reduceEqDiff, Nat.reduceAdd, Nat.reduceMul, Nat.reduceLeDiff, Nat.reduceSub, r25_0_go, r25_0U, r25_1_go, r25_1U, Option.getD_some, d1]
  · by_cases ho : o.length ≤ p.length
    · obtain ⟨a0, n0, c0, he, hn0⟩ := hc
      cases he
      have d1 : decide (Int.ofNat o.length ≤ Int.ofNat p.length) = true := by simp; omega
      have e2 := fslice_hi Tryz.prog 22 3 1 b 0 p.length cx o.length σ underTII sizeInt (by omega) _ _ _ _ _ g1 g2
      have ht : (p.take o.length).length = o.length := by rw [List.length_take]; omega
      have e1 := eqInts_go n hw (p := p.take o.length) (p' := o) (Q := fun _ => True) (Q' := Q) (v := .slice (some ⟨b, 0, none⟩) o.length cx) (by omega) (.inr ⟨b, cx, intsOf (p.drop o.length) ++ rest, by rw [ht], trivial, by
        have hsp : intsOf p = intsOf (p.take o.length) ++ intsOf (p.drop o.length) := by unfold intsOf; rw [← List.map_append, List.take_append_drop]
        rw [hcc, hsp, List.append_assoc]⟩) h2
      simp -implicitDefEqProofs only [go_sem, ↓reduceIte, Nat.reduceLT, Nat.reduceEqDiff, Nat.reduceAdd, Nat.reduceMul, Nat.reduceLeDiff, Nat.reduceSub, r25_0_go, r25_0U, r25_1_go, r25_1U, Option.getD_some, d1, e2, e1]
      rw [show decide (List.take o.length p = o) = decide (o <+: p) from by
        by_cases h : o <+: p
        · rw [decide_eq_true h, decide_eq_true (List.prefix_iff_eq_take.1 h).symm]
        · rw [decide_eq_false h, decide_eq_false (fun he => h (List.prefix_iff_eq_take.2 he.symm))]]
    · have d1 : decide (Int.ofNat o.length ≤ Int.ofNat p.length) = false := by simp; omega
      rw [decide_eq_false (fun h => ho (hle h))]
      simp -implicitDefEqProofs only [go_sem, ↓reduceIte, Nat.reduceLT, Nat.reduceEqDiff, Nat.reduceAdd, Nat.reduceMul, Nat.reduceLeDiff, Nat.reduceSub, r25_0_go, r25_0U, r25_1_go, r25_1U, Option.getD_some, d1]
end Go.Proofs.YtodkeaoikjjneaaGreatDoor
/- Functions of the program, written out in the reading's words (made by program; the kernel holds each against the code). -/
namespace Go.Proofs.YtodkeaoikjjneaaGreatDoor
open Go Go.Eng
variable (E : Env) (ro : Option Nat) (last : List Nat → RunF) (cl : List Nat) (a : FAct) (u : Option FrameMode) (σ : FState)
/-! caracole/caracolelaw01.DatumPaths -/
noncomputable def r4_0U (_ : Unit) : List COp := [⟨fun a σ => .val (.bool false) σ, (some 2), fun _ => some true⟩]
noncomputable def r4_0 : List COp := r4_0U ()
noncomputable def r4_1U (_ : Unit) : List COp := [⟨fun a σ => .val (a.get 0) σ, (some 21), fun _ => some true⟩,
  ⟨fun a σ => .enter 11 [(a.get 21)] σ, (some 22), fun _ => some true⟩,
  ⟨fun a σ => .val (a.get 22) σ, (some 3), fun _ => some true⟩]
noncomputable def r4_1 : List COp := r4_1U ()
noncomputable def r4_2U (_ : Unit) : List COp := [⟨fun a σ => .val (a.get 3) σ, (some 23), fun _ => some true⟩,
  ⟨fun a σ => .enter 13 [(a.get 23), (.int .i64 4)] σ, (some 24), fun _ => some true⟩,
  ⟨fun a σ => .val (a.get 3) σ, (some 25), fun _ => some true⟩,
  ⟨fun a σ => .enter 13 [(a.get 25), (.int .i64 3)] σ, (some 26), fun _ => some true⟩,
  ⟨fun a σ => newCells [(.int .i64 0), (.int .i64 0), (.string ⟨#[]⟩), (.slice none 0 0)] 28 none σ, (some 4), fun _ => some true⟩,
  ⟨fun a σ => newCells [(.int .i64 0), (.int .i64 0), (.string ⟨#[]⟩), (.slice none 0 0)] 28 none σ, (some 5), fun _ => some true⟩,
  ⟨fun a σ => fstore 4 (a.get 4) (a.get 24) σ, none, fun _ => some true⟩,
  ⟨fun a σ => fstore 4 (a.get 5) (a.get 26) σ, none, fun _ => some true⟩]
noncomputable def r4_2 : List COp := r4_2U ()
noncomputable def r4_3U (_ : Unit) : List COp := [⟨fun a σ => fload (some 4) (a.get 4) σ, (some 27), fun _ => some true⟩,
  ⟨fun a σ => .enter 22 [(a.get 27), (.slice none 0 0)] σ, (some 28), fun _ => some true⟩,
  ⟨fun a σ => .val (a.get 28) σ, (some 6), fun _ => some true⟩]
noncomputable def r4_3 : List COp := r4_3U ()
noncomputable def r4_4U (_ : Unit) : List DOp := [⟨fun a σ => .val (a.get 3) σ, (some 30), fun _ => some true, (some 0), false⟩,
  ⟨fun a σ => .val (a.get 6) σ, (some 31), fun _ => some true, (some 0), false⟩,
  ⟨fun a σ => flenL (a.get 31) σ, (some 32), fun _ => some true, (some 0), false⟩,
  ⟨fun a σ => i_sub Tryz.prog 3 (.tmp 32) (.const (.int .i64 1)) (a.get 32) (.int .i64 1) σ, (some 33), fun _ => some true, (some 0), false⟩,
  ⟨fun a σ => .enter 12 [(a.get 30), (a.get 33)] σ, (some 34), fun _ => some true, none, false⟩,
  ⟨fun a σ => .val (a.get 3) σ, (some 38), fun _ => some true, (some 0), false⟩,
  ⟨fun a σ => .val (a.get 6) σ, (some 39), fun _ => some true, (some 0), false⟩,
  ⟨fun a σ => flenL (a.get 39) σ, (some 40), fun _ => some true, (some 0), false⟩,
  ⟨fun a σ => i_sub Tryz.prog 3 (.tmp 40) (.const (.int .i64 1)) (a.get 40) (.int .i64 1) σ, (some 41), fun _ => some true, (some 0), false⟩,
  ⟨fun a σ => .enter 12 [(a.get 38), (a.get 41)] σ, (some 42), fun _ => some true, none, false⟩,
  ⟨fun a σ => .val (a.get 6) σ, (some 29), fun _ => some true, (some 0), false⟩,
  ⟨fun a σ => findex (none, 1) (a.get 29) (a.get 34) σ, (some 35), fun _ => some true, (some 1), false⟩,
  ⟨fun a σ => fload none (a.get 35) σ, (some 36), fun _ => some true, (some 1), false⟩,
  ⟨fun a σ => .val (a.get 6) σ, (some 37), fun _ => some true, (some 0), false⟩,
  ⟨fun a σ => findex (none, 1) (a.get 37) (a.get 42) σ, (some 43), fun _ => some true, (some 2), false⟩,
  ⟨fun a σ => fload none (a.get 43) σ, (some 44), fun _ => some true, (some 2), false⟩,
  ⟨fun a σ => .val (a.get 36) σ, (some 7), fun _ => some true, (some 2), false⟩,
  ⟨fun a σ => .val (a.get 44) σ, (some 8), fun _ => some true, (some 2), false⟩]
noncomputable def r4_4 : List DOp := r4_4U ()
noncomputable def r4_5U (_ : Unit) : List COp := [⟨fun a σ => fload (some 4) (a.get 4) σ, (some 46), fun _ => some true⟩,
  ⟨fun a σ => .val (a.get 7) σ, (some 47), fun _ => some true⟩,
  ⟨fun a σ => .enter 23 [(a.get 46), (a.get 47)] σ, (some 48), fun _ => some true⟩,
  ⟨fun a σ => .val (a.get 48) σ, (some 45), fun _ => some true⟩,
  ⟨fun a σ => fextract 0 (a.get 45) σ, (some 49), fun _ => some true⟩,
  ⟨fun a σ => fextract 1 (a.get 45) σ, (some 50), fun _ => some true⟩,
  ⟨fun a σ => newCells [(.int .i64 0), (.int .i64 0), (.string ⟨#[]⟩), (.slice none 0 0)] 28 none σ, (some 9), fun _ => some true⟩,
  ⟨fun a σ => fstore 4 (a.get 9) (a.get 49) σ, none, fun _ => some true⟩,
  ⟨fun a σ => .val (a.get 50) σ, (some 10), fun _ => some true⟩]
noncomputable def r4_5 : List COp := r4_5U ()
noncomputable def r4_6U (_ : Unit) : List COp := [⟨fun a σ => fload (some 4) (a.get 4) σ, (some 52), fun _ => some true⟩,
  ⟨fun a σ => .val (a.get 7) σ, (some 53), fun _ => some true⟩,
  ⟨fun a σ => fload (some 4) (a.get 5) σ, (some 54), fun _ => some true⟩,
  ⟨fun a σ => .enter 24 [(a.get 52), (a.get 53), (a.get 54)] σ, (some 55), fun _ => some true⟩,
  ⟨fun a σ => .val (a.get 55) σ, (some 51), fun _ => some true⟩,
  ⟨fun a σ => fextract 0 (a.get 51) σ, (some 56), fun _ => some true⟩,
  ⟨fun a σ => fextract 1 (a.get 51) σ, (some 57), fun _ => some true⟩,
  ⟨fun a σ => newCells [(.int .i64 0), (.int .i64 0), (.string ⟨#[]⟩), (.slice none 0 0)] 28 none σ, (some 11), fun _ => some true⟩,
  ⟨fun a σ => fstore 4 (a.get 11) (a.get 56) σ, none, fun _ => some true⟩,
  ⟨fun a σ => .val (a.get 57) σ, (some 12), fun _ => some true⟩]
noncomputable def r4_6 : List COp := r4_6U ()
noncomputable def r4_7U (_ : Unit) : List COp := [⟨fun a σ => fload (some 4) (a.get 11) σ, (some 59), fun _ => some true⟩,
  ⟨fun a σ => .val (a.get 7) σ, (some 60), fun _ => some true⟩,
  ⟨fun a σ => .enter 23 [(a.get 59), (a.get 60)] σ, (some 61), fun _ => some true⟩,
  ⟨fun a σ => .val (a.get 61) σ, (some 58), fun _ => some true⟩,
  ⟨fun a σ => fextract 0 (a.get 58) σ, (some 62), fun _ => some true⟩,
  ⟨fun a σ => fextract 1 (a.get 58) σ, (some 63), fun _ => some true⟩,
  ⟨fun a σ => newCells [(.int .i64 0), (.int .i64 0), (.string ⟨#[]⟩), (.slice none 0 0)] 28 none σ, (some 13), fun _ => some true⟩,
  ⟨fun a σ => fstore 4 (a.get 13) (a.get 62) σ, none, fun _ => some true⟩,
  ⟨fun a σ => .val (a.get 63) σ, (some 14), fun _ => some true⟩]
noncomputable def r4_7 : List COp := r4_7U ()
noncomputable def r4_8U (_ : Unit) : List COp := [⟨fun a σ => fload (some 4) (a.get 11) σ, (some 65), fun _ => some true⟩,
  ⟨fun a σ => .val (a.get 7) σ, (some 66), fun _ => some true⟩,
  ⟨fun a σ => fload (some 4) (a.get 9) σ, (some 67), fun _ => some true⟩,
  ⟨fun a σ => .enter 24 [(a.get 65), (a.get 66), (a.get 67)] σ, (some 68), fun _ => some true⟩,
  ⟨fun a σ => .val (a.get 68) σ, (some 64), fun _ => some true⟩,
  ⟨fun a σ => fextract 0 (a.get 64) σ, (some 69), fun _ => some true⟩,
  ⟨fun a σ => fextract 1 (a.get 64) σ, (some 70), fun _ => some true⟩,
  ⟨fun a σ => newCells [(.int .i64 0), (.int .i64 0), (.string ⟨#[]⟩), (.slice none 0 0)] 28 none σ, (some 15), fun _ => some true⟩,
  ⟨fun a σ => fstore 4 (a.get 15) (a.get 69) σ, none, fun _ => some true⟩,
  ⟨fun a σ => .val (a.get 70) σ, (some 16), fun _ => some true⟩]
noncomputable def r4_8 : List COp := r4_8U ()
noncomputable def r4_9U (_ : Unit) : List COp := [⟨fun a σ => fload (some 4) (a.get 4) σ, (some 72), fun _ => some true⟩,
  ⟨fun a σ => .val (a.get 7) σ, (some 73), fun _ => some true⟩,
  ⟨fun a σ => fload (some 4) (a.get 9) σ, (some 74), fun _ => some true⟩,
  ⟨fun a σ => .enter 24 [(a.get 72), (a.get 73), (a.get 74)] σ, (some 75), fun _ => some true⟩,
  ⟨fun a σ => .val (a.get 75) σ, (some 71), fun _ => some true⟩,
  ⟨fun a σ => fextract 0 (a.get 71) σ, (some 76), fun _ => some true⟩,
  ⟨fun a σ => fextract 1 (a.get 71) σ, (some 77), fun _ => some true⟩,
  ⟨fun a σ => newCells [(.int .i64 0), (.int .i64 0), (.string ⟨#[]⟩), (.slice none 0 0)] 28 none σ, (some 17), fun _ => some true⟩,
  ⟨fun a σ => fstore 4 (a.get 17) (a.get 76) σ, none, fun _ => some true⟩,
  ⟨fun a σ => .val (a.get 77) σ, (some 18), fun _ => some true⟩]
noncomputable def r4_9 : List COp := r4_9U ()
noncomputable def r4_10U (_ : Unit) : List COp := [⟨fun a σ => .val (a.get 10) σ, (some 78), fun _ => some true⟩,
  ⟨fun a σ => i_neq Tryz.prog 32 (.tmp 78) (.const (.int .i64 0)) (a.get 78) (.int .i64 0) σ, (some 79), fun _ => some true⟩,
  ⟨fun a σ => .val (a.get 79) σ, (some 80), fun _ => some true⟩,
  ⟨fun a σ => .val (a.get 12) σ, (some 81), fun a => gd (a.get 80) false⟩,
  ⟨fun a σ => i_neq Tryz.prog 32 (.tmp 81) (.const (.int .i64 0)) (a.get 81) (.int .i64 0) σ, (some 82), fun a => gd (a.get 80) false⟩,
  ⟨fun a σ => fpick (a.get 80) (.bool true) (a.get 82) σ, (some 83), fun _ => some true⟩,
  ⟨fun a σ => .val (a.get 83) σ, (some 84), fun _ => some true⟩,
  ⟨fun a σ => .val (a.get 14) σ, (some 85), fun a => gd (a.get 84) false⟩,
  ⟨fun a σ => i_neq Tryz.prog 32 (.tmp 85) (.const (.int .i64 0)) (a.get 85) (.int .i64 0) σ, (some 86), fun a => gd (a.get 84) false⟩,
  ⟨fun a σ => fpick (a.get 84) (.bool true) (a.get 86) σ, (some 87), fun _ => some true⟩,
  ⟨fun a σ => .val (a.get 87) σ, (some 88), fun _ => some true⟩,
  ⟨fun a σ => .val (a.get 16) σ, (some 89), fun a => gd (a.get 88) false⟩,
  ⟨fun a σ => i_neq Tryz.prog 32 (.tmp 89) (.const (.int .i64 0)) (a.get 89) (.int .i64 0) σ, (some 90), fun a => gd (a.get 88) false⟩,
  ⟨fun a σ => fpick (a.get 88) (.bool true) (a.get 90) σ, (some 91), fun _ => some true⟩,
  ⟨fun a σ => .val (a.get 91) σ, (some 92), fun _ => some true⟩,
  ⟨fun a σ => .val (a.get 18) σ, (some 93), fun a => gd (a.get 92) false⟩,
  ⟨fun a σ => i_neq Tryz.prog 32 (.tmp 93) (.const (.int .i64 0)) (a.get 93) (.int .i64 0) σ, (some 94), fun a => gd (a.get 92) false⟩,
  ⟨fun a σ => fpick (a.get 92) (.bool true) (a.get 94) σ, (some 95), fun _ => some true⟩,
  ⟨fun a σ => .val (a.get 95) σ, (some 96), fun _ => some true⟩,
  ⟨fun a σ => fload (some 4) (a.get 13) σ, (some 97), fun a => gd (a.get 96) false⟩,
  ⟨fun a σ => fload (some 4) (a.get 5) σ, (some 98), fun a => gd (a.get 96) false⟩,
  ⟨fun a σ => .enter 20 [(a.get 97), (a.get 98)] σ, (some 99), fun a => gd (a.get 96) false⟩,
  ⟨fun a σ => fun1 Tryz.prog (Op.unary .not) (a.get 99) σ, (some 100), fun a => gd (a.get 96) false⟩,
  ⟨fun a σ => fpick (a.get 96) (.bool true) (a.get 100) σ, (some 101), fun _ => some true⟩,
  ⟨fun a σ => .val (a.get 101) σ, (some 102), fun _ => some true⟩,
  ⟨fun a σ => fload (some 4) (a.get 15) σ, (some 103), fun a => gd (a.get 102) false⟩,
  ⟨fun a σ => fload (some 4) (a.get 4) σ, (some 104), fun a => gd (a.get 102) false⟩,
  ⟨fun a σ => .enter 20 [(a.get 103), (a.get 104)] σ, (some 105), fun a => gd (a.get 102) false⟩,
  ⟨fun a σ => fun1 Tryz.prog (Op.unary .not) (a.get 105) σ, (some 106), fun a => gd (a.get 102) false⟩,
  ⟨fun a σ => fpick (a.get 102) (.bool true) (a.get 106) σ, (some 107), fun _ => some true⟩,
  ⟨fun a σ => .val (a.get 107) σ, (some 108), fun _ => some true⟩,
  ⟨fun a σ => fload (some 4) (a.get 17) σ, (some 109), fun a => gd (a.get 108) false⟩,
  ⟨fun a σ => fload (some 4) (a.get 4) σ, (some 110), fun a => gd (a.get 108) false⟩,
  ⟨fun a σ => .enter 20 [(a.get 109), (a.get 110)] σ, (some 111), fun a => gd (a.get 108) false⟩,
  ⟨fun a σ => fun1 Tryz.prog (Op.unary .not) (a.get 111) σ, (some 112), fun a => gd (a.get 108) false⟩,
  ⟨fun a σ => fpick (a.get 108) (.bool true) (a.get 112) σ, (some 113), fun _ => some true⟩]
noncomputable def r4_10 : List COp := r4_10U ()
noncomputable def r4_11U (_ : Unit) : List COp := [⟨fun a σ => .val (.bool false) σ, (some 2), fun _ => some true⟩]
noncomputable def r4_11 : List COp := r4_11U ()
noncomputable def r4_12U (_ : Unit) : List COp := [⟨fun a σ => .val (a.get 7) σ, (some 114), fun _ => some true⟩,
  ⟨fun a σ => .val (a.get 8) σ, (some 115), fun _ => some true⟩,
  ⟨fun a σ => .enter 25 [(a.get 114), (a.get 115)] σ, (some 116), fun _ => some true⟩,
  ⟨fun a σ => .val (a.get 116) σ, (some 117), fun _ => some true⟩,
  ⟨fun a σ => .val (a.get 8) σ, (some 118), fun a => gd (a.get 117) false⟩,
  ⟨fun a σ => .val (a.get 7) σ, (some 119), fun a => gd (a.get 117) false⟩,
  ⟨fun a σ => .enter 25 [(a.get 118), (a.get 119)] σ, (some 120), fun a => gd (a.get 117) false⟩,
  ⟨fun a σ => fpick (a.get 117) (.bool true) (a.get 120) σ, (some 121), fun _ => some true⟩]
noncomputable def r4_12 : List COp := r4_12U ()
noncomputable def r4_13U (_ : Unit) : List COp := [⟨fun a σ => .enter 21 [] σ, (some 122), fun _ => some true⟩,
  ⟨fun a σ => .val (a.get 122) σ, (some 2), fun _ => some true⟩]
noncomputable def r4_13 : List COp := r4_13U ()
noncomputable def r4_14U (_ : Unit) : List COp := [⟨fun a σ => fload (some 4) (a.get 4) σ, (some 124), fun _ => some true⟩,
  ⟨fun a σ => .val (a.get 8) σ, (some 125), fun _ => some true⟩,
  ⟨fun a σ => .enter 23 [(a.get 124), (a.get 125)] σ, (some 126), fun _ => some true⟩,
  ⟨fun a σ => .val (a.get 126) σ, (some 123), fun _ => some true⟩,
  ⟨fun a σ => fextract 0 (a.get 123) σ, (some 127), fun _ => some true⟩,
  ⟨fun a σ => fextract 1 (a.get 123) σ, (some 128), fun _ => some true⟩,
  ⟨fun a σ => newCells [(.int .i64 0), (.int .i64 0), (.string ⟨#[]⟩), (.slice none 0 0)] 28 none σ, (some 19), fun _ => some true⟩,
  ⟨fun a σ => fstore 4 (a.get 19) (a.get 127) σ, none, fun _ => some true⟩,
  ⟨fun a σ => .val (a.get 128) σ, (some 10), fun _ => some true⟩]
noncomputable def r4_14 : List COp := r4_14U ()
noncomputable def r4_15U (_ : Unit) : List COp := [⟨fun a σ => fload (some 4) (a.get 11) σ, (some 130), fun _ => some true⟩,
  ⟨fun a σ => .val (a.get 8) σ, (some 131), fun _ => some true⟩,
  ⟨fun a σ => .enter 23 [(a.get 130), (a.get 131)] σ, (some 132), fun _ => some true⟩,
  ⟨fun a σ => .val (a.get 132) σ, (some 129), fun _ => some true⟩,
  ⟨fun a σ => fextract 0 (a.get 129) σ, (some 133), fun _ => some true⟩,
  ⟨fun a σ => fextract 1 (a.get 129) σ, (some 134), fun _ => some true⟩,
  ⟨fun a σ => newCells [(.int .i64 0), (.int .i64 0), (.string ⟨#[]⟩), (.slice none 0 0)] 28 none σ, (some 20), fun _ => some true⟩,
  ⟨fun a σ => fstore 4 (a.get 20) (a.get 133) σ, none, fun _ => some true⟩,
  ⟨fun a σ => .val (a.get 134) σ, (some 12), fun _ => some true⟩]
noncomputable def r4_15 : List COp := r4_15U ()
noncomputable def r4_16U (_ : Unit) : List COp := [⟨fun a σ => .val (a.get 10) σ, (some 135), fun _ => some true⟩,
  ⟨fun a σ => i_eql Tryz.prog 32 (.tmp 135) (.const (.int .i64 0)) (a.get 135) (.int .i64 0) σ, (some 136), fun _ => some true⟩,
  ⟨fun a σ => .val (a.get 136) σ, (some 137), fun _ => some true⟩,
  ⟨fun a σ => .val (a.get 12) σ, (some 138), fun a => gd (a.get 137) true⟩,
  ⟨fun a σ => i_eql Tryz.prog 32 (.tmp 138) (.const (.int .i64 0)) (a.get 138) (.int .i64 0) σ, (some 139), fun a => gd (a.get 137) true⟩,
  ⟨fun a σ => fpick (a.get 137) (a.get 139) (.bool false) σ, (some 140), fun _ => some true⟩,
  ⟨fun a σ => .val (a.get 140) σ, (some 141), fun _ => some true⟩,
  ⟨fun a σ => fload (some 4) (a.get 19) σ, (some 142), fun a => gd (a.get 141) true⟩,
  ⟨fun a σ => fload (some 4) (a.get 20) σ, (some 143), fun a => gd (a.get 141) true⟩,
  ⟨fun a σ => .enter 20 [(a.get 142), (a.get 143)] σ, (some 144), fun a => gd (a.get 141) true⟩,
  ⟨fun a σ => fpick (a.get 141) (a.get 144) (.bool false) σ, (some 145), fun _ => some true⟩,
  ⟨fun a σ => .val (a.get 145) σ, (some 146), fun _ => some true⟩,
  ⟨fun a σ => .enter 21 [] σ, (some 147), fun a => gd (a.get 146) true⟩,
  ⟨fun a σ => fpick (a.get 146) (a.get 147) (.bool false) σ, (some 148), fun _ => some true⟩,
  ⟨fun a σ => .val (a.get 148) σ, (some 2), fun _ => some true⟩]
noncomputable def r4_16 : List COp := r4_16U ()
noncomputable def run4 (E : Env) (ro : Option Nat) (fn : FuncId) : RunF := (seqR (fops E ro r4_0) (seqR (fops E ro r4_1) (seqR (fops E ro r4_2) (seqR (fops E ro r4_3) (seqR (drawR E ro r4_4) (seqR (fops E ro r4_5) (seqR (fops E ro r4_6) (seqR (fops E ro r4_7) (seqR (fops E ro r4_8) (seqR (fops E ro r4_9) (seqR (seqR (fops E ro r4_10) (condR (fun a => (a.get 113)) (seqR (fops E ro r4_11) retR) skipR)) (seqR (seqR (fops E ro r4_12) (condR (fun a => (a.get 121)) (seqR (fops E ro r4_13) retR) skipR)) (seqR (fops E ro r4_14) (seqR (fops E ro r4_15) (seqR (fops E ro r4_16) retR)))))))))))))))
theorem r4_0_go : fops E ro r4_0 a u σ = fops E ro (r4_0U ()) a u σ := rfl
theorem r4_1_go : fops E ro r4_1 a u σ = fops E ro (r4_1U ()) a u σ := rfl
theorem r4_2_go : fops E ro r4_2 a u σ = fops E ro (r4_2U ()) a u σ := rfl
theorem r4_3_go : fops E ro r4_3 a u σ = fops E ro (r4_3U ()) a u σ := rfl
theorem r4_4_go : fdraw E ro last r4_4 cl a u σ = fdraw E ro last (r4_4U ()) cl a u σ := rfl
theorem r4_5_go : fops E ro r4_5 a u σ = fops E ro (r4_5U ()) a u σ := rfl
theorem r4_6_go : fops E ro r4_6 a u σ = fops E ro (r4_6U ()) a u σ := rfl
theorem r4_7_go : fops E ro r4_7 a u σ = fops E ro (r4_7U ()) a u σ := rfl
theorem r4_8_go : fops E ro r4_8 a u σ = fops E ro (r4_8U ()) a u σ := rfl
theorem r4_9_go : fops E ro r4_9 a u σ = fops E ro (r4_9U ()) a u σ := rfl
theorem r4_10_go : fops E ro r4_10 a u σ = fops E ro (r4_10U ()) a u σ := rfl
theorem r4_11_go : fops E ro r4_11 a u σ = fops E ro (r4_11U ()) a u σ := rfl
theorem r4_12_go : fops E ro r4_12 a u σ = fops E ro (r4_12U ()) a u σ := rfl
theorem r4_13_go : fops E ro r4_13 a u σ = fops E ro (r4_13U ()) a u σ := rfl
theorem r4_14_go : fops E ro r4_14 a u σ = fops E ro (r4_14U ()) a u σ := rfl
theorem r4_15_go : fops E ro r4_15 a u σ = fops E ro (r4_15U ()) a u σ := rfl
theorem r4_16_go : fops E ro r4_16 a u σ = fops E ro (r4_16U ()) a u σ := rfl
theorem code4 (E : Env) (ro : Option Nat) (fn : FuncId) : code Tryz.prog nls (Tryz.f4.body.getD .skip) E ro fn = run4 E ro fn := by kernel_rfl
theorem enter4 (E : Env) (args : List Value) (u : Option FrameMode) (σ : FState) (hn : args.length ≤ (21 : Nat)) : fcall Tryz.prog nls E 4 args u σ = leaveR Tryz.prog E [.tmp 2] (run4 E none 4 ⟨padTo undef 21 args, fun _ => undef, 21, 149, []⟩ u σ) := by
  rw [fcall_of (body := Tryz.f4.body.getD .skip) Tryz.func4 rfl E args u σ 21 149 (by kernel_rfl) rfl ⟨hn, by decide⟩, code4]
  rfl
end Go.Proofs.YtodkeaoikjjneaaGreatDoor
/- DatumPaths: what it asks of what At and Put gave. -/
namespace Go.Proofs.YtodkeaoikjjneaaGreatDoor
open Go Go.Eng
attribute [local congr] andThen_congr fops_congr fdraw_congr afterOp_congr drawF_congr
attribute [-go_sem] List.range_succ
noncomputable def restE (E : Env) (ro : Option Nat) (fn : FuncId) : RunF := seqR (seqR (fops E ro r4_10) (condR (fun a => a.get 113) (seqR (fops E ro r4_11) retR) skipR)) (seqR (seqR (fops E ro r4_12) (condR (fun a => a.get 121) (seqR (fops E ro r4_13) retR) skipR)) (seqR (fops E ro r4_14) (seqR (fops E ro r4_15) (seqR (fops E ro r4_16) retR))))
noncomputable def restD (E : Env) (ro : Option Nat) (fn : FuncId) : RunF := seqR (fops E ro r4_5) (seqR (fops E ro r4_6) (seqR (fops E ro r4_7) (seqR (fops E ro r4_8) (seqR (fops E ro r4_9) (restE E ro fn)))))
theorem run_restD (E : Env) (ro : Option Nat) (fn : FuncId) : run4 E ro fn = seqR (fops E ro r4_0) (seqR (fops E ro r4_1) (seqR (fops E ro r4_2) (seqR (fops E ro r4_3) (seqR (drawR E ro r4_4) (restD E ro fn))))) := rfl
theorem pathV_ext {σ σ' : FState} {v : Value} {p : List Nat} (hw : Wf σ) (hx : Ext σ σ') (h : PathV (fun b => FulB σ b) σ v p) : PathV (fun b => FulB σ' b) σ' v p := h.keep fun b c hb hc => ⟨(hx.cells (hw.cells hc)).trans hc, hb.keep (hx.get b (hw.cells hc))⟩
theorem paths_end (q : Nat) (b4 b5 b11 b13 b15 b17 : Nat) (R RU RX R13 R15 R17 : Nat → Prop) (d x w2 : D) (path other : List Nat) (pv ov : Value) (lv xv uv nv kv sv : List Value) (σ : FState) (f g : Nat → Value) (hOd : Okay (q + 31) d) (hOu : Okay (q + 31) (putP path x d)) (hdc : d.count ≤ 1093) (hxd : x.deep ≤ 8) (hxc : x.count ≤ 1093) (hat2 : atP other d = some w2) (hw2d : w2.deep ≤ 8) (hw2c : w2.count ≤ 1093) (hpl : path.length < 1000) (hol : other.length < 1000)
    (h4 : lv.length = 4) (hx4 : xv.length = 4) (hu4 : uv.length = 4) (hn4 : nv.length = 4) (hk4 : kv.length = 4) (hs4 : sv.length = 4) (c4 : σ.cells b4 = some lv) (c5 : σ.cells b5 = some xv) (c11 : σ.cells b11 = some uv) (c13 : σ.cells b13 = some nv) (c15 : σ.cells b15 = some kv) (c17 : σ.cells b17 = some sv) (ld : LaidR R σ (.agg lv.toArray) d) (lx : LaidR RX σ (.agg xv.toArray) x) (lu : LaidR RU σ (.agg uv.toArray) (putP path x d)) (l13 : LaidR R13 σ (.agg nv.toArray) x) (l15 : LaidR R15 σ (.agg kv.toArray) d) (l17 : LaidR R17 σ (.agg sv.toArray) d) (hR : ∀ b, R b → b < σ.next) (hRU : ∀ b, RU b → b < σ.next) (hw : Wf σ)
    (hp : PathV (fun b => FulB σ b) σ pv path) (ho : PathV (fun b => FulB σ b) σ ov other) (cp : CapV pv) (co : CapV ov)
    (f4 : f 4 = .pointer (some ⟨b4, 0, none⟩)) (f5 : f 5 = .pointer (some ⟨b5, 0, none⟩)) (f7 : f 7 = pv) (f8 : f 8 = ov) (f10 : f 10 = .int .i64 0) (f11 : f 11 = .pointer (some ⟨b11, 0, none⟩)) (f12 : f 12 = .int .i64 0) (f13 : f 13 = .pointer (some ⟨b13, 0, none⟩)) (f14 : f 14 = .int .i64 0) (f15 : f 15 = .pointer (some ⟨b15, 0, none⟩)) (f16 : f 16 = .int .i64 0) (f17 : f 17 = .pointer (some ⟨b17, 0, none⟩)) (f18 : f 18 = .int .i64 0) :
    ∃ σ', leaveR Tryz.prog (top (q + 40)) [.tmp 2] (restE (top (q + 40)) none 4 (Sl 21 149 f g []) none σ) = .ret (.bool true) none σ' := by
  have ht : lv.take 4 = lv := List.take_of_length_le (by omega)
  have htx : xv.take 4 = xv := List.take_of_length_le (by omega)
  have htu : uv.take 4 = uv := List.take_of_length_le (by omega)
  have htn : nv.take 4 = nv := List.take_of_length_le (by omega)
  have htk : kv.take 4 = kv := List.take_of_length_le (by omega)
  have hts : sv.take 4 = sv := List.take_of_length_le (by omega)
  have y1 : (!((0 : Int) == 0)) = false := by decide
  have y2 : ((0 : Int) == 0) = true := by decide
  have hdd := hOd.deep
  have kc : ∀ {b : Nat} {cs : List Value} (σ' : FState), Ext σ σ' → σ.cells b = some cs → σ'.cells b = some cs := fun σ' hx hc => (hx.cells (hw.cells hc)).trans hc
  have kl : ∀ {R : Nat → Prop} {v : Value} {e : D} (σ' : FState), Ext σ σ' → LaidR R σ v e → LaidR R σ' v e := fun σ' hx h => h.keep fun b cs hb hc => ⟨kc σ' hx hc, hb⟩
  obtain ⟨_, σ1, e1, x1, hw1, rfl⟩ := eqDatum_go (q + 24) 8 x x (.agg nv.toArray) (.agg xv.toArray) σ hxd (by omega) hw l13.laid lx.laid
  rw [same_self] at e1
  have e1' : (top (q + 40)).call 20 [.agg nv.toArray, .agg xv.toArray] none σ = .ret (.bool true) none σ1 := (top_call _ _ _ _ rfl).trans e1
  obtain ⟨_, σ2, e2, x2, hw2, rfl⟩ := eqDatum_go (q + 24) 8 d d (.agg kv.toArray) (.agg lv.toArray) σ1 hdd (by omega) hw1 (kl _ x1 l15).laid (kl _ x1 ld).laid
  rw [same_self] at e2
  have e2' : (top (q + 40)).call 20 [.agg kv.toArray, .agg lv.toArray] none σ1 = .ret (.bool true) none σ2 := (top_call _ _ _ _ rfl).trans e2
  have X2 := x1.trans x2
  obtain ⟨_, σ3, e3, x3, hw3, rfl⟩ := eqDatum_go (q + 24) 8 d d (.agg sv.toArray) (.agg lv.toArray) σ2 hdd (by omega) hw2 (kl _ X2 l17).laid (kl _ X2 ld).laid
  rw [same_self] at e3
  have e3' : (top (q + 40)).call 20 [.agg sv.toArray, .agg lv.toArray] none σ2 = .ret (.bool true) none σ3 := (top_call _ _ _ _ rfl).trans e3
  have X3 := X2.trans x3
  have n3 := X3.next
  have hp3 := pathV_ext hw X3 hp
  have ho3 := pathV_ext hw X3 ho
  have e4 := begins_go (q + 38) hw3 (by omega) hp3 cp ho3
  have e4' : (top (q + 40)).call 25 [pv, ov] none σ3 = .ret (.bool (decide (other <+: path))) none σ3 := (top_call _ _ _ _ rfl).trans e4
  have e5 := begins_go (q + 38) hw3 (by omega) ho3 co hp3
  have e5' : (top (q + 40)).call 25 [ov, pv] none σ3 = .ret (.bool (decide (path <+: other))) none σ3 := (top_call _ _ _ _ rfl).trans e5
  have c41 := kc _ x1 c4
  have c151 := kc _ x1 c15
  have c42 := kc _ X2 c4
  have c172 := kc _ X2 c17
  have c43 := kc _ X3 c4
  unfold restE
  cases h1 : decide (other <+: path) with
  | true =>
    rw [h1] at e4'
    simp -implicitDefEqProofs only [go_sem, ↓reduceIte, Nat.reduceLT, Nat.reduceEqDiff, Nat.reduceAdd, Nat.reduceMul, Nat.reduceLeDiff, Nat.reduceSub, r4_10_go, r4_10U, r4_12_go, r4_12U, r4_13_go, r4_13U, f4, f5, f7, f8, f10, f12, f13, f14, f15, f16, f17, f18, c4, c5, c13, c151, c41, c172, c42, h4, hx4, hn4, hk4, hs4, ht, htx, htn, htk, hts, y1, e1', e2', e3', e4', top_looks, Nat.le_refl]
    exact ⟨_, rfl⟩
  | false =>
    rw [h1] at e4'
    cases h2 : decide (path <+: other) with
    | true =>
      rw [h2] at e5'
      simp -implicitDefEqProofs only [go_sem, ↓reduceIte, Nat.reduceLT, Nat.reduceEqDiff, Nat.reduceAdd, Nat.reduceMul, Nat.reduceLeDiff, Nat.reduceSub, r4_10_go, r4_10U, r4_12_go, r4_12U, r4_13_go, r4_13U, f4, f5, f7, f8, f10, f12, f13, f14, f15, f16, f17, f18, c4, c5, c13, c151, c41, c172, c42, h4, hx4, hn4, hk4, hs4, ht, htx, htn, htk, hts, y1, e1', e2', e3', e4', e5', top_looks, Nat.le_refl]
      exact ⟨_, rfl⟩
    | false =>
      rw [h2] at e5'
      have hao : atP other (putP path x d) = some w2 := (at_other path other x d (of_decide_eq_false h2) (of_decide_eq_false h1)).trans hat2
      obtain ⟨_, σ4, e6, x4, hw4, u6, rfl, hq6⟩ := atO_go (q + 31) (q + 17) rfl d w2 hOd lv h4 R (fun _ => True) other ov (by omega) hat2 hw2d (by omega) σ3 hw3 (kl _ X3 ld) (ho3.keep fun b c _ hc => ⟨hc, trivial⟩) (fun b hb => by have := hR b hb; omega)
      obtain ⟨av, rfl, ha4, hao4⟩ := hq6.agg
      have e6' : (top (q + 40)).call 23 [.agg lv.toArray, ov] none σ3 = .ret (.tuple #[.agg av.toArray, .int .i64 0]) none σ4 := (top_call _ _ _ _ rfl).trans e6
      have X4 := X3.trans x4
      have n4 := X4.next
      have x5 : Ext σ4 ((σ4.push (.cells [.int .i64 0, .int .i64 0, .string ⟨#[]⟩, .slice none 0 0] TD) none).put σ4.next (.cells av TD) none) := ((Ext.refl _).push _ _).put _ _ _ (Nat.le_refl _)
      have hw5 := (hw4.push (.cells [.int .i64 0, .int .i64 0, .string ⟨#[]⟩, .slice none 0 0] TD) none).put σ4.next (.cells av TD) none (Nat.lt_succ_self _)
      have c19 : ((σ4.push (.cells [.int .i64 0, .int .i64 0, .string ⟨#[]⟩, .slice none 0 0] TD) none).put σ4.next (.cells av TD) none).cells σ4.next = some av := by rw [cells_put, if_pos rfl]; rfl
      have la5 := hq6.keep (σ' := (σ4.push (.cells [.int .i64 0, .int .i64 0, .string ⟨#[]⟩, .slice none 0 0] TD) none).put σ4.next (.cells av TD) none) (R' := fun _ => True) fun b cs _ hc => ⟨(x5.cells (hw4.cells hc)).trans hc, trivial⟩
      have hta : av.take 4 = av := List.take_of_length_le (by omega)
      simp -implicitDefEqProofs only [go_sem, ↓reduceIte, Nat.reduceLT, Nat.reduceEqDiff, Nat.reduceAdd, Nat.reduceMul, Nat.reduceLeDiff, Nat.reduceSub, fstoreN, r4_10_go, r4_10U, r4_12_go, r4_12U, r4_14_go, r4_14U, f4, f5, f7, f8, f10, f12, f13, f14, f15, f16, f17, f18, c4, c5, c13, c151, c41, c172, c42, c43, h4, hx4, hn4, hk4, hs4, ha4, hao4, ht, htx, htn, htk, hts, hta, y1, e1', e2', e3', e4', e5', e6', List.getElem?_cons_zero, List.getElem?_cons_succ, Nat.le_refl]
      generalize hff : upd _ 10 _ = f1
      generalize hgg : upd _ 128 _ = g1
      have q8 : f1 8 = ov := by rw [← hff]; simp -implicitDefEqProofs only [upd_go, kept_go, ↓reduceIte, Nat.reduceEqDiff, Nat.reduceLT, reduceCtorEq, f8]
      have q10 : f1 10 = .int .i64 0 := by rw [← hff]; simp -implicitDefEqProofs only [upd_go, kept_go, ↓reduceIte, Nat.reduceEqDiff, Nat.reduceLT, reduceCtorEq]
      have q11 : f1 11 = .pointer (some ⟨b11, 0, none⟩) := by rw [← hff]; simp -implicitDefEqProofs only [upd_go, kept_go, ↓reduceIte, Nat.reduceEqDiff, Nat.reduceLT, reduceCtorEq, f11]
      have q19 : f1 19 = .pointer (some ⟨σ4.next, 0, none⟩) := by rw [← hff]; simp -implicitDefEqProofs only [upd_go, kept_go, ↓reduceIte, Nat.reduceEqDiff, Nat.reduceLT, reduceCtorEq]
      clear hff hgg
      generalize FState.put _ _ _ _ = σ5 at x5 hw5 c19 la5 ⊢
      have X5 := X4.trans x5
      have n5 := X5.next
      have ho5 := pathV_ext hw X5 ho
      obtain ⟨_, σ6, e7, x6, hw6, u7, rfl, hq7⟩ := atO_go (q + 31) (q + 17) rfl (putP path x d) w2 hOu uv hu4 RU (fun _ => True) other ov (by omega) hao hw2d (by omega) σ5 hw5 (kl _ X5 lu) (ho5.keep fun b c _ hc => ⟨hc, trivial⟩) (fun b hb => by have := hRU b hb; omega)
      obtain ⟨bv, rfl, hb4, hbo4⟩ := hq7.agg
      have e7' : (top (q + 40)).call 23 [.agg uv.toArray, ov] none σ5 = .ret (.tuple #[.agg bv.toArray, .int .i64 0]) none σ6 := (top_call _ _ _ _ rfl).trans e7
      have x7 : Ext σ6 ((σ6.push (.cells [.int .i64 0, .int .i64 0, .string ⟨#[]⟩, .slice none 0 0] TD) none).put σ6.next (.cells bv TD) none) := ((Ext.refl _).push _ _).put _ _ _ (Nat.le_refl _)
      have hw7 := (hw6.push (.cells [.int .i64 0, .int .i64 0, .string ⟨#[]⟩, .slice none 0 0] TD) none).put σ6.next (.cells bv TD) none (Nat.lt_succ_self _)
      have c20 : ((σ6.push (.cells [.int .i64 0, .int .i64 0, .string ⟨#[]⟩, .slice none 0 0] TD) none).put σ6.next (.cells bv TD) none).cells σ6.next = some bv := by rw [cells_put, if_pos rfl]; rfl
      have lb7 := hq7.keep (σ' := (σ6.push (.cells [.int .i64 0, .int .i64 0, .string ⟨#[]⟩, .slice none 0 0] TD) none).put σ6.next (.cells bv TD) none) (R' := fun _ => True) fun b cs _ hc => ⟨(x7.cells (hw6.cells hc)).trans hc, trivial⟩
      have htb : bv.take 4 = bv := List.take_of_length_le (by omega)
      have x57 := x6.trans x7
      have c197 := (x57.cells (hw5.cells c19)).trans c19
      have la7 := la5.keep (R' := fun _ => True) fun b cs _ hc => ⟨(x57.cells (hw5.cells hc)).trans hc, trivial⟩
      obtain ⟨_, σ8, e8, x8, hw8, rfl⟩ := eqDatum_go (q + 24) 8 w2 w2 (.agg av.toArray) (.agg bv.toArray) _ hw2d (by omega) hw7 la7.laid lb7.laid
      rw [same_self] at e8
      have e8' := (top_call (q + 40) 20 [.agg av.toArray, .agg bv.toArray] ((σ6.push (.cells [.int .i64 0, .int .i64 0, .string ⟨#[]⟩, .slice none 0 0] TD) none).put σ6.next (.cells bv TD) none) rfl).trans e8
      have c115 := kc _ X5 c11
      have ne19 : (σ4.next = σ6.next) = False := by have := hw5.cells c19; have := x6.next; simp; omega
      have c196 := (x6.cells (hw5.cells c19)).trans c19
      simp -implicitDefEqProofs only [go_sem, ↓reduceIte, Nat.reduceLT, Nat.reduceEqDiff, Nat.reduceAdd, Nat.reduceMul, Nat.reduceLeDiff, Nat.reduceSub, fstoreN, r4_15_go, r4_15U, r4_16_go, r4_16U, q8, q10, q11, q19, c115, c196, ne19, hu4, hb4, hbo4, ha4, htu, htb, hta, y2, e7', e8', top_looks, List.getElem?_cons_zero, List.getElem?_cons_succ, Nat.le_refl]
      exact ⟨_, rfl⟩
end Go.Proofs.YtodkeaoikjjneaaGreatDoor
/- DatumPaths: from the first call of At on. -/
namespace Go.Proofs.YtodkeaoikjjneaaGreatDoor
open Go Go.Eng
attribute [local congr] andThen_congr fops_congr fdraw_congr afterOp_congr drawF_congr
attribute [-go_sem] List.range_succ
theorem paths_rest (q : Nat) (b4 b5 : Nat) (R RX : Nat → Prop) (d x w w2 : D) (path other : List Nat) (pv ov : Value) (lv xv : List Value) (σ0 : FState) (f0 g0 : Nat → Value) (hOd : Okay (q + 31) d) (hOx : Okay (q + 31) x) (hOw : Okay (q + 31) w) (hOu : Okay (q + 31) (putP path x d)) (hdc : d.count ≤ 1093) (hxc : x.count ≤ 1093) (hat : atP path d = some w) (hat2 : atP other d = some w2) (hw2d : w2.deep ≤ 8) (hw2c : w2.count ≤ 1093) (hpl : path.length < 1000) (hol : other.length < 1000)
    (h4 : lv.length = 4) (hx4 : xv.length = 4) (c4 : σ0.cells b4 = some lv) (c5 : σ0.cells b5 = some xv) (ld : LaidR R σ0 (.agg lv.toArray) d) (lx : LaidR RX σ0 (.agg xv.toArray) x) (hR : ∀ b, R b → b < σ0.next) (hRX : ∀ b, RX b → b < σ0.next) (hw0 : Wf σ0)
    (hp : PathV (fun b => FulB σ0 b) σ0 pv path) (ho : PathV (fun b => FulB σ0 b) σ0 ov other) (cp : CapV pv) (co : CapV ov)
    (f04 : f0 4 = .pointer (some ⟨b4, 0, none⟩)) (f05 : f0 5 = .pointer (some ⟨b5, 0, none⟩)) (f07 : f0 7 = pv) (f08 : f0 8 = ov) :
    ∃ σ', leaveR Tryz.prog (top (q + 40)) [.tmp 2] (restD (top (q + 40)) none 4 (Sl 21 149 f0 g0 []) none σ0) = .ret (.bool true) none σ' := by
  have ht4 : lv.take 4 = lv := List.take_of_length_le (by omega)
  have ht5 : xv.take 4 = xv := List.take_of_length_le (by omega)
  have hdd := hOd.deep
  have hwd := hOw.deep
  have hxd := hOx.deep
  have hwf := hOw.few
  have hau := at_put path x d w hat
  have hpp := put_put path x d w hat
  have hps := put_same path d w hat
  have kc : ∀ {b : Nat} {cs : List Value} (σ' : FState), Ext σ0 σ' → σ0.cells b = some cs → σ'.cells b = some cs := fun σ' hx hc => (hx.cells (hw0.cells hc)).trans hc
  have kl : ∀ {R : Nat → Prop} {v : Value} {e : D} (σ' : FState), Ext σ0 σ' → LaidR R σ0 v e → LaidR R σ' v e := fun σ' hx h => h.keep fun b cs hb hc => ⟨kc σ' hx hc, hb⟩
  have kp : ∀ (σ' : FState), Ext σ0 σ' → PathV (fun _ => True) σ' pv path := fun σ' hx => hp.keep fun b c _ hc => ⟨kc σ' hx hc, trivial⟩
  have X0 : Ext σ0 σ0 := Ext.refl _
  have n00 : σ0.next ≤ σ0.next := Nat.le_refl _
  unfold restD
  obtain ⟨_, τ1, e1, y1, hv1, u1, rfl, hq1⟩ := atO_go (q + 31) (q + 17) rfl d w hOd lv h4 R (fun _ => True) path pv (by omega) hat hwd (by omega) σ0 hw0 ld (kp _ X0) hR
  obtain ⟨wv, rfl, hwv, howv⟩ := hq1.agg
  have e1' : (top (q + 40)).call 23 [.agg lv.toArray, pv] none σ0 = .ret (.tuple #[.agg wv.toArray, .int .i64 0]) none τ1 := (top_call _ _ _ _ rfl).trans e1
  have htwv : wv.take 4 = wv := List.take_of_length_le (by omega)
  have z1 : Ext τ1 ((τ1.push (.cells [.int .i64 0, .int .i64 0, .string ⟨#[]⟩, .slice none 0 0] TD) none).put τ1.next (.cells wv TD) none) := ((Ext.refl _).push _ _).put _ _ _ (Nat.le_refl _)
  have hw1 := (hv1.push (.cells [.int .i64 0, .int .i64 0, .string ⟨#[]⟩, .slice none 0 0] TD) none).put τ1.next (.cells wv TD) none (Nat.lt_succ_self _)
  have d1 : ((τ1.push (.cells [.int .i64 0, .int .i64 0, .string ⟨#[]⟩, .slice none 0 0] TD) none).put τ1.next (.cells wv TD) none).cells τ1.next = some wv := by rw [cells_put, if_pos rfl]; rfl
  have l1 : LaidR (fun b => σ0.next ≤ b ∧ b < τ1.next) ((τ1.push (.cells [.int .i64 0, .int .i64 0, .string ⟨#[]⟩, .slice none 0 0] TD) none).put τ1.next (.cells wv TD) none) (.agg wv.toArray) w := hq1.keep fun b cs hb hc => ⟨(z1.cells (hv1.cells hc)).trans hc, hb, hv1.cells hc⟩
  have m1 : ((τ1.push (.cells [.int .i64 0, .int .i64 0, .string ⟨#[]⟩, .slice none 0 0] TD) none).put τ1.next (.cells wv TD) none).next = τ1.next + 1 := rfl
  have c4_0 := c4
  have c5_0 := c5
  simp -implicitDefEqProofs only [go_sem, ↓reduceIte, Nat.reduceLT, Nat.reduceEqDiff, Nat.reduceAdd, Nat.reduceMul, Nat.reduceLeDiff, Nat.reduceSub, fstoreN, r4_5_go, r4_5U, f04, f05, f07, f08, c4_0, c5_0, ht4, ht5, h4, hx4, hwv, howv, htwv, e1', List.getElem?_cons_zero, List.getElem?_cons_succ, Nat.le_refl]
  generalize hff : upd _ 10 _ = f1
  generalize hgg : upd _ 50 _ = g1
  have f14 : f1 4 = .pointer (some ⟨b4, 0, none⟩) := by rw [← hff]; simp -implicitDefEqProofs only [upd_go, kept_go, ↓reduceIte, Nat.reduceEqDiff, Nat.reduceLT, reduceCtorEq, f04]
  have f15 : f1 5 = .pointer (some ⟨b5, 0, none⟩) := by rw [← hff]; simp -implicitDefEqProofs only [upd_go, kept_go, ↓reduceIte, Nat.reduceEqDiff, Nat.reduceLT, reduceCtorEq, f05]
  have f19 : f1 9 = .pointer (some ⟨τ1.next, 0, none⟩) := by rw [← hff]; simp -implicitDefEqProofs only [upd_go, kept_go, ↓reduceIte, Nat.reduceEqDiff, Nat.reduceLT, reduceCtorEq]
  have f17 : f1 7 = pv := by rw [← hff]; simp -implicitDefEqProofs only [upd_go, kept_go, ↓reduceIte, Nat.reduceEqDiff, Nat.reduceLT, reduceCtorEq, f07]
  have f18 : f1 8 = ov := by rw [← hff]; simp -implicitDefEqProofs only [upd_go, kept_go, ↓reduceIte, Nat.reduceEqDiff, Nat.reduceLT, reduceCtorEq, f08]
  have f110 : f1 10 = .int .i64 0 := by rw [← hff]; simp -implicitDefEqProofs only [upd_go, kept_go, ↓reduceIte, Nat.reduceEqDiff, Nat.reduceLT, reduceCtorEq]
  clear hff hgg
  generalize FState.put _ _ _ _ = σ1 at z1 hw1 d1 l1 m1 ⊢
  have Y1 := y1.trans z1
  have X1 := X0.trans Y1
  have a1 := y1.next
  have n1 := X1.next
  have c4_1 := kc _ X1 c4
  have c5_1 := kc _ X1 c5
  have d1_1 := d1
  obtain ⟨_, τ2, e2, y2, hv2, u2, rfl, hq2⟩ := putD_go (q + 31) (q + 17) rfl d x w hOd hOx hOw path pv (fun _ => True) (by omega) hat hOu.few lv xv h4 hx4 R RX σ1 hw1 (kl _ X1 ld) (kl _ X1 lx) (kp _ X1) (fun b hb => by have := hR b hb; omega) (fun b hb => by have := hRX b hb; omega)
  obtain ⟨uv, rfl, huv, houv⟩ := hq2.agg
  have e2' : (top (q + 40)).call 24 [.agg lv.toArray, pv, .agg xv.toArray] none σ1 = .ret (.tuple #[.agg uv.toArray, .int .i64 0]) none τ2 := (top_call _ _ _ _ rfl).trans e2
  have htuv : uv.take 4 = uv := List.take_of_length_le (by omega)
  have z2 : Ext τ2 ((τ2.push (.cells [.int .i64 0, .int .i64 0, .string ⟨#[]⟩, .slice none 0 0] TD) none).put τ2.next (.cells uv TD) none) := ((Ext.refl _).push _ _).put _ _ _ (Nat.le_refl _)
  have hw2 := (hv2.push (.cells [.int .i64 0, .int .i64 0, .string ⟨#[]⟩, .slice none 0 0] TD) none).put τ2.next (.cells uv TD) none (Nat.lt_succ_self _)
  have d2 : ((τ2.push (.cells [.int .i64 0, .int .i64 0, .string ⟨#[]⟩, .slice none 0 0] TD) none).put τ2.next (.cells uv TD) none).cells τ2.next = some uv := by rw [cells_put, if_pos rfl]; rfl
  have l2 : LaidR (fun b => σ1.next ≤ b ∧ b < τ2.next) ((τ2.push (.cells [.int .i64 0, .int .i64 0, .string ⟨#[]⟩, .slice none 0 0] TD) none).put τ2.next (.cells uv TD) none) (.agg uv.toArray) (putP path x d) := hq2.keep fun b cs hb hc => ⟨(z2.cells (hv2.cells hc)).trans hc, hb, hv2.cells hc⟩
  have m2 : ((τ2.push (.cells [.int .i64 0, .int .i64 0, .string ⟨#[]⟩, .slice none 0 0] TD) none).put τ2.next (.cells uv TD) none).next = τ2.next + 1 := rfl
  simp -implicitDefEqProofs only [go_sem, ↓reduceIte, Nat.reduceLT, Nat.reduceEqDiff, Nat.reduceAdd, Nat.reduceMul, Nat.reduceLeDiff, Nat.reduceSub, fstoreN, r4_6_go, r4_6U, f14, f15, f19, f17, f18, c4_1, c5_1, d1_1, ht4, ht5, h4, hx4, htwv, hwv, huv, houv, htuv, e2', List.getElem?_cons_zero, List.getElem?_cons_succ, Nat.le_refl]
  generalize hff : upd _ 12 _ = f2
  generalize hgg : upd _ 57 _ = g2
  have f24 : f2 4 = .pointer (some ⟨b4, 0, none⟩) := by rw [← hff]; simp -implicitDefEqProofs only [upd_go, kept_go, ↓reduceIte, Nat.reduceEqDiff, Nat.reduceLT, reduceCtorEq, f14]
  have f25 : f2 5 = .pointer (some ⟨b5, 0, none⟩) := by rw [← hff]; simp -implicitDefEqProofs only [upd_go, kept_go, ↓reduceIte, Nat.reduceEqDiff, Nat.reduceLT, reduceCtorEq, f15]
  have f29 : f2 9 = .pointer (some ⟨τ1.next, 0, none⟩) := by rw [← hff]; simp -implicitDefEqProofs only [upd_go, kept_go, ↓reduceIte, Nat.reduceEqDiff, Nat.reduceLT, reduceCtorEq, f19]
  have f211 : f2 11 = .pointer (some ⟨τ2.next, 0, none⟩) := by rw [← hff]; simp -implicitDefEqProofs only [upd_go, kept_go, ↓reduceIte, Nat.reduceEqDiff, Nat.reduceLT, reduceCtorEq]
  have f27 : f2 7 = pv := by rw [← hff]; simp -implicitDefEqProofs only [upd_go, kept_go, ↓reduceIte, Nat.reduceEqDiff, Nat.reduceLT, reduceCtorEq, f17]
  have f28 : f2 8 = ov := by rw [← hff]; simp -implicitDefEqProofs only [upd_go, kept_go, ↓reduceIte, Nat.reduceEqDiff, Nat.reduceLT, reduceCtorEq, f18]
  have f210 : f2 10 = .int .i64 0 := by rw [← hff]; simp -implicitDefEqProofs only [upd_go, kept_go, ↓reduceIte, Nat.reduceEqDiff, Nat.reduceLT, reduceCtorEq, f110]
  have f212 : f2 12 = .int .i64 0 := by rw [← hff]; simp -implicitDefEqProofs only [upd_go, kept_go, ↓reduceIte, Nat.reduceEqDiff, Nat.reduceLT, reduceCtorEq]
  clear hff hgg
  generalize FState.put _ _ _ _ = σ2 at z2 hw2 d2 l2 m2 ⊢
  have Y2 := y2.trans z2
  have X2 := X1.trans Y2
  have a2 := y2.next
  have n2 := X2.next
  have c4_2 := kc _ X2 c4
  have c5_2 := kc _ X2 c5
  have d2_2 := d2
  have d1_2 := (Y2.cells (hw1.cells d1_1)).trans d1_1
  have l12 := l1.keep (σ' := σ2) (R' := fun b => σ0.next ≤ b ∧ b < τ1.next) fun b cs hb hc => ⟨(Y2.cells (hw1.cells hc)).trans hc, hb⟩
  obtain ⟨_, τ3, e3, y3, hv3, u3, rfl, hq3⟩ := atO_go (q + 31) (q + 17) rfl (putP path x d) x hOu uv huv (fun b => σ1.next ≤ b ∧ b < τ2.next) (fun _ => True) path pv (by omega) hau hxd (by omega) σ2 hw2 l2 (kp _ X2) (fun b hb => by omega)
  obtain ⟨nv, rfl, hnv, honv⟩ := hq3.agg
  have e3' : (top (q + 40)).call 23 [.agg uv.toArray, pv] none σ2 = .ret (.tuple #[.agg nv.toArray, .int .i64 0]) none τ3 := (top_call _ _ _ _ rfl).trans e3
  have htnv : nv.take 4 = nv := List.take_of_length_le (by omega)
  have z3 : Ext τ3 ((τ3.push (.cells [.int .i64 0, .int .i64 0, .string ⟨#[]⟩, .slice none 0 0] TD) none).put τ3.next (.cells nv TD) none) := ((Ext.refl _).push _ _).put _ _ _ (Nat.le_refl _)
  have hw3 := (hv3.push (.cells [.int .i64 0, .int .i64 0, .string ⟨#[]⟩, .slice none 0 0] TD) none).put τ3.next (.cells nv TD) none (Nat.lt_succ_self _)
  have d3 : ((τ3.push (.cells [.int .i64 0, .int .i64 0, .string ⟨#[]⟩, .slice none 0 0] TD) none).put τ3.next (.cells nv TD) none).cells τ3.next = some nv := by rw [cells_put, if_pos rfl]; rfl
  have l3 : LaidR (fun b => σ2.next ≤ b ∧ b < τ3.next) ((τ3.push (.cells [.int .i64 0, .int .i64 0, .string ⟨#[]⟩, .slice none 0 0] TD) none).put τ3.next (.cells nv TD) none) (.agg nv.toArray) x := hq3.keep fun b cs hb hc => ⟨(z3.cells (hv3.cells hc)).trans hc, hb, hv3.cells hc⟩
  have m3 : ((τ3.push (.cells [.int .i64 0, .int .i64 0, .string ⟨#[]⟩, .slice none 0 0] TD) none).put τ3.next (.cells nv TD) none).next = τ3.next + 1 := rfl
  simp -implicitDefEqProofs only [go_sem, ↓reduceIte, Nat.reduceLT, Nat.reduceEqDiff, Nat.reduceAdd, Nat.reduceMul, Nat.reduceLeDiff, Nat.reduceSub, fstoreN, r4_7_go, r4_7U, f24, f25, f29, f211, f27, f28, c4_2, c5_2, d1_2, d2_2, ht4, ht5, h4, hx4, htwv, hwv, htuv, huv, hnv, honv, htnv, e3', List.getElem?_cons_zero, List.getElem?_cons_succ, Nat.le_refl]
  generalize hff : upd _ 14 _ = f3
  generalize hgg : upd _ 63 _ = g3
  have f34 : f3 4 = .pointer (some ⟨b4, 0, none⟩) := by rw [← hff]; simp -implicitDefEqProofs only [upd_go, kept_go, ↓reduceIte, Nat.reduceEqDiff, Nat.reduceLT, reduceCtorEq, f24]
  have f35 : f3 5 = .pointer (some ⟨b5, 0, none⟩) := by rw [← hff]; simp -implicitDefEqProofs only [upd_go, kept_go, ↓reduceIte, Nat.reduceEqDiff, Nat.reduceLT, reduceCtorEq, f25]
  have f39 : f3 9 = .pointer (some ⟨τ1.next, 0, none⟩) := by rw [← hff]; simp -implicitDefEqProofs only [upd_go, kept_go, ↓reduceIte, Nat.reduceEqDiff, Nat.reduceLT, reduceCtorEq, f29]
  have f311 : f3 11 = .pointer (some ⟨τ2.next, 0, none⟩) := by rw [← hff]; simp -implicitDefEqProofs only [upd_go, kept_go, ↓reduceIte, Nat.reduceEqDiff, Nat.reduceLT, reduceCtorEq, f211]
  have f313 : f3 13 = .pointer (some ⟨τ3.next, 0, none⟩) := by rw [← hff]; simp -implicitDefEqProofs only [upd_go, kept_go, ↓reduceIte, Nat.reduceEqDiff, Nat.reduceLT, reduceCtorEq]
  have f37 : f3 7 = pv := by rw [← hff]; simp -implicitDefEqProofs only [upd_go, kept_go, ↓reduceIte, Nat.reduceEqDiff, Nat.reduceLT, reduceCtorEq, f27]
  have f38 : f3 8 = ov := by rw [← hff]; simp -implicitDefEqProofs only [upd_go, kept_go, ↓reduceIte, Nat.reduceEqDiff, Nat.reduceLT, reduceCtorEq, f28]
  have f310 : f3 10 = .int .i64 0 := by rw [← hff]; simp -implicitDefEqProofs only [upd_go, kept_go, ↓reduceIte, Nat.reduceEqDiff, Nat.reduceLT, reduceCtorEq, f210]
  have f312 : f3 12 = .int .i64 0 := by rw [← hff]; simp -implicitDefEqProofs only [upd_go, kept_go, ↓reduceIte, Nat.reduceEqDiff, Nat.reduceLT, reduceCtorEq, f212]
  have f314 : f3 14 = .int .i64 0 := by rw [← hff]; simp -implicitDefEqProofs only [upd_go, kept_go, ↓reduceIte, Nat.reduceEqDiff, Nat.reduceLT, reduceCtorEq]
  clear hff hgg
  generalize FState.put _ _ _ _ = σ3 at z3 hw3 d3 l3 m3 ⊢
  have Y3 := y3.trans z3
  have X3 := X2.trans Y3
  have a3 := y3.next
  have n3 := X3.next
  have c4_3 := kc _ X3 c4
  have c5_3 := kc _ X3 c5
  have d3_3 := d3
  have d1_3 := (Y3.cells (hw2.cells d1_2)).trans d1_2
  have l13 := l12.keep (σ' := σ3) (R' := fun b => σ0.next ≤ b ∧ b < τ1.next) fun b cs hb hc => ⟨(Y3.cells (hw2.cells hc)).trans hc, hb⟩
  have d2_3 := (Y3.cells (hw2.cells d2_2)).trans d2_2
  have l23 := l2.keep (σ' := σ3) (R' := fun b => σ1.next ≤ b ∧ b < τ2.next) fun b cs hb hc => ⟨(Y3.cells (hw2.cells hc)).trans hc, hb⟩
  obtain ⟨_, τ4, e4, y4, hv4, u4, rfl, hq4⟩ := putD_go (q + 31) (q + 17) rfl (putP path x d) w x hOu hOw hOx path pv (fun _ => True) (by omega) hau (by rw [hpp]; omega) uv wv huv hwv (fun b => σ1.next ≤ b ∧ b < τ2.next) (fun b => σ0.next ≤ b ∧ b < τ1.next) σ3 hw3 l23 l13 (kp _ X3) (fun b hb => by omega) (fun b hb => by omega)
  rw [hpp] at hq4
  obtain ⟨kv, rfl, hkv, hokv⟩ := hq4.agg
  have e4' : (top (q + 40)).call 24 [.agg uv.toArray, pv, .agg wv.toArray] none σ3 = .ret (.tuple #[.agg kv.toArray, .int .i64 0]) none τ4 := (top_call _ _ _ _ rfl).trans e4
  have htkv : kv.take 4 = kv := List.take_of_length_le (by omega)
  have z4 : Ext τ4 ((τ4.push (.cells [.int .i64 0, .int .i64 0, .string ⟨#[]⟩, .slice none 0 0] TD) none).put τ4.next (.cells kv TD) none) := ((Ext.refl _).push _ _).put _ _ _ (Nat.le_refl _)
  have hw4 := (hv4.push (.cells [.int .i64 0, .int .i64 0, .string ⟨#[]⟩, .slice none 0 0] TD) none).put τ4.next (.cells kv TD) none (Nat.lt_succ_self _)
  have d4 : ((τ4.push (.cells [.int .i64 0, .int .i64 0, .string ⟨#[]⟩, .slice none 0 0] TD) none).put τ4.next (.cells kv TD) none).cells τ4.next = some kv := by rw [cells_put, if_pos rfl]; rfl
  have l4 : LaidR (fun b => σ3.next ≤ b ∧ b < τ4.next) ((τ4.push (.cells [.int .i64 0, .int .i64 0, .string ⟨#[]⟩, .slice none 0 0] TD) none).put τ4.next (.cells kv TD) none) (.agg kv.toArray) d := hq4.keep fun b cs hb hc => ⟨(z4.cells (hv4.cells hc)).trans hc, hb, hv4.cells hc⟩
  have m4 : ((τ4.push (.cells [.int .i64 0, .int .i64 0, .string ⟨#[]⟩, .slice none 0 0] TD) none).put τ4.next (.cells kv TD) none).next = τ4.next + 1 := rfl
  simp -implicitDefEqProofs only [go_sem, ↓reduceIte, Nat.reduceLT, Nat.reduceEqDiff, Nat.reduceAdd, Nat.reduceMul, Nat.reduceLeDiff, Nat.reduceSub, fstoreN, r4_8_go, r4_8U, f34, f35, f39, f311, f313, f37, f38, c4_3, c5_3, d1_3, d2_3, d3_3, ht4, ht5, h4, hx4, htwv, hwv, htuv, huv, htnv, hnv, hkv, hokv, htkv, e4', List.getElem?_cons_zero, List.getElem?_cons_succ, Nat.le_refl]
  generalize hff : upd _ 16 _ = f4
  generalize hgg : upd _ 70 _ = g4
  have f44 : f4 4 = .pointer (some ⟨b4, 0, none⟩) := by rw [← hff]; simp -implicitDefEqProofs only [upd_go, kept_go, ↓reduceIte, Nat.reduceEqDiff, Nat.reduceLT, reduceCtorEq, f34]
  have f45 : f4 5 = .pointer (some ⟨b5, 0, none⟩) := by rw [← hff]; simp -implicitDefEqProofs only [upd_go, kept_go, ↓reduceIte, Nat.reduceEqDiff, Nat.reduceLT, reduceCtorEq, f35]
  have f49 : f4 9 = .pointer (some ⟨τ1.next, 0, none⟩) := by rw [← hff]; simp -implicitDefEqProofs only [upd_go, kept_go, ↓reduceIte, Nat.reduceEqDiff, Nat.reduceLT, reduceCtorEq, f39]
  have f411 : f4 11 = .pointer (some ⟨τ2.next, 0, none⟩) := by rw [← hff]; simp -implicitDefEqProofs only [upd_go, kept_go, ↓reduceIte, Nat.reduceEqDiff, Nat.reduceLT, reduceCtorEq, f311]
  have f413 : f4 13 = .pointer (some ⟨τ3.next, 0, none⟩) := by rw [← hff]; simp -implicitDefEqProofs only [upd_go, kept_go, ↓reduceIte, Nat.reduceEqDiff, Nat.reduceLT, reduceCtorEq, f313]
  have f415 : f4 15 = .pointer (some ⟨τ4.next, 0, none⟩) := by rw [← hff]; simp -implicitDefEqProofs only [upd_go, kept_go, ↓reduceIte, Nat.reduceEqDiff, Nat.reduceLT, reduceCtorEq]
  have f47 : f4 7 = pv := by rw [← hff]; simp -implicitDefEqProofs only [upd_go, kept_go, ↓reduceIte, Nat.reduceEqDiff, Nat.reduceLT, reduceCtorEq, f37]
  have f48 : f4 8 = ov := by rw [← hff]; simp -implicitDefEqProofs only [upd_go, kept_go, ↓reduceIte, Nat.reduceEqDiff, Nat.reduceLT, reduceCtorEq, f38]
  have f410 : f4 10 = .int .i64 0 := by rw [← hff]; simp -implicitDefEqProofs only [upd_go, kept_go, ↓reduceIte, Nat.reduceEqDiff, Nat.reduceLT, reduceCtorEq, f310]
  have f412 : f4 12 = .int .i64 0 := by rw [← hff]; simp -implicitDefEqProofs only [upd_go, kept_go, ↓reduceIte, Nat.reduceEqDiff, Nat.reduceLT, reduceCtorEq, f312]
  have f414 : f4 14 = .int .i64 0 := by rw [← hff]; simp -implicitDefEqProofs only [upd_go, kept_go, ↓reduceIte, Nat.reduceEqDiff, Nat.reduceLT, reduceCtorEq, f314]
  have f416 : f4 16 = .int .i64 0 := by rw [← hff]; simp -implicitDefEqProofs only [upd_go, kept_go, ↓reduceIte, Nat.reduceEqDiff, Nat.reduceLT, reduceCtorEq]
  clear hff hgg
  generalize FState.put _ _ _ _ = σ4 at z4 hw4 d4 l4 m4 ⊢
  have Y4 := y4.trans z4
  have X4 := X3.trans Y4
  have a4 := y4.next
  have n4 := X4.next
  have c4_4 := kc _ X4 c4
  have c5_4 := kc _ X4 c5
  have d4_4 := d4
  have d1_4 := (Y4.cells (hw3.cells d1_3)).trans d1_3
  have l14 := l13.keep (σ' := σ4) (R' := fun b => σ0.next ≤ b ∧ b < τ1.next) fun b cs hb hc => ⟨(Y4.cells (hw3.cells hc)).trans hc, hb⟩
  have d2_4 := (Y4.cells (hw3.cells d2_3)).trans d2_3
  have l24 := l23.keep (σ' := σ4) (R' := fun b => σ1.next ≤ b ∧ b < τ2.next) fun b cs hb hc => ⟨(Y4.cells (hw3.cells hc)).trans hc, hb⟩
  have d3_4 := (Y4.cells (hw3.cells d3_3)).trans d3_3
  have l34 := l3.keep (σ' := σ4) (R' := fun b => σ2.next ≤ b ∧ b < τ3.next) fun b cs hb hc => ⟨(Y4.cells (hw3.cells hc)).trans hc, hb⟩
  obtain ⟨_, τ5, e5, y5, hv5, u5, rfl, hq5⟩ := putD_go (q + 31) (q + 17) rfl d w w hOd hOw hOw path pv (fun _ => True) (by omega) hat (by rw [hps]; omega) lv wv h4 hwv R (fun b => σ0.next ≤ b ∧ b < τ1.next) σ4 hw4 (kl _ X4 ld) l14 (kp _ X4) (fun b hb => by have := hR b hb; omega) (fun b hb => by omega)
  rw [hps] at hq5
  obtain ⟨sv, rfl, hsv, hosv⟩ := hq5.agg
  have e5' : (top (q + 40)).call 24 [.agg lv.toArray, pv, .agg wv.toArray] none σ4 = .ret (.tuple #[.agg sv.toArray, .int .i64 0]) none τ5 := (top_call _ _ _ _ rfl).trans e5
  have htsv : sv.take 4 = sv := List.take_of_length_le (by omega)
  have z5 : Ext τ5 ((τ5.push (.cells [.int .i64 0, .int .i64 0, .string ⟨#[]⟩, .slice none 0 0] TD) none).put τ5.next (.cells sv TD) none) := ((Ext.refl _).push _ _).put _ _ _ (Nat.le_refl _)
  have hw5 := (hv5.push (.cells [.int .i64 0, .int .i64 0, .string ⟨#[]⟩, .slice none 0 0] TD) none).put τ5.next (.cells sv TD) none (Nat.lt_succ_self _)
  have d5 : ((τ5.push (.cells [.int .i64 0, .int .i64 0, .string ⟨#[]⟩, .slice none 0 0] TD) none).put τ5.next (.cells sv TD) none).cells τ5.next = some sv := by rw [cells_put, if_pos rfl]; rfl
  have l5 : LaidR (fun b => σ4.next ≤ b ∧ b < τ5.next) ((τ5.push (.cells [.int .i64 0, .int .i64 0, .string ⟨#[]⟩, .slice none 0 0] TD) none).put τ5.next (.cells sv TD) none) (.agg sv.toArray) d := hq5.keep fun b cs hb hc => ⟨(z5.cells (hv5.cells hc)).trans hc, hb, hv5.cells hc⟩
  have m5 : ((τ5.push (.cells [.int .i64 0, .int .i64 0, .string ⟨#[]⟩, .slice none 0 0] TD) none).put τ5.next (.cells sv TD) none).next = τ5.next + 1 := rfl
  simp -implicitDefEqProofs only [go_sem, ↓reduceIte, Nat.reduceLT, Nat.reduceEqDiff, Nat.reduceAdd, Nat.reduceMul, Nat.reduceLeDiff, Nat.reduceSub, fstoreN, r4_9_go, r4_9U, f44, f45, f49, f411, f413, f415, f47, f48, c4_4, c5_4, d1_4, d2_4, d3_4, d4_4, ht4, ht5, h4, hx4, htwv, hwv, htuv, huv, htnv, hnv, htkv, hkv, hsv, hosv, htsv, e5', List.getElem?_cons_zero, List.getElem?_cons_succ, Nat.le_refl]
  generalize hff : upd _ 18 _ = f5
  generalize hgg : upd _ 77 _ = g5
  have f54 : f5 4 = .pointer (some ⟨b4, 0, none⟩) := by rw [← hff]; simp -implicitDefEqProofs only [upd_go, kept_go, ↓reduceIte, Nat.reduceEqDiff, Nat.reduceLT, reduceCtorEq, f44]
  have f55 : f5 5 = .pointer (some ⟨b5, 0, none⟩) := by rw [← hff]; simp -implicitDefEqProofs only [upd_go, kept_go, ↓reduceIte, Nat.reduceEqDiff, Nat.reduceLT, reduceCtorEq, f45]
  have f59 : f5 9 = .pointer (some ⟨τ1.next, 0, none⟩) := by rw [← hff]; simp -implicitDefEqProofs only [upd_go, kept_go, ↓reduceIte, Nat.reduceEqDiff, Nat.reduceLT, reduceCtorEq, f49]
  have f511 : f5 11 = .pointer (some ⟨τ2.next, 0, none⟩) := by rw [← hff]; simp -implicitDefEqProofs only [upd_go, kept_go, ↓reduceIte, Nat.reduceEqDiff, Nat.reduceLT, reduceCtorEq, f411]
  have f513 : f5 13 = .pointer (some ⟨τ3.next, 0, none⟩) := by rw [← hff]; simp -implicitDefEqProofs only [upd_go, kept_go, ↓reduceIte, Nat.reduceEqDiff, Nat.reduceLT, reduceCtorEq, f413]
  have f515 : f5 15 = .pointer (some ⟨τ4.next, 0, none⟩) := by rw [← hff]; simp -implicitDefEqProofs only [upd_go, kept_go, ↓reduceIte, Nat.reduceEqDiff, Nat.reduceLT, reduceCtorEq, f415]
  have f517 : f5 17 = .pointer (some ⟨τ5.next, 0, none⟩) := by rw [← hff]; simp -implicitDefEqProofs only [upd_go, kept_go, ↓reduceIte, Nat.reduceEqDiff, Nat.reduceLT, reduceCtorEq]
  have f57 : f5 7 = pv := by rw [← hff]; simp -implicitDefEqProofs only [upd_go, kept_go, ↓reduceIte, Nat.reduceEqDiff, Nat.reduceLT, reduceCtorEq, f47]
  have f58 : f5 8 = ov := by rw [← hff]; simp -implicitDefEqProofs only [upd_go, kept_go, ↓reduceIte, Nat.reduceEqDiff, Nat.reduceLT, reduceCtorEq, f48]
  have f510 : f5 10 = .int .i64 0 := by rw [← hff]; simp -implicitDefEqProofs only [upd_go, kept_go, ↓reduceIte, Nat.reduceEqDiff, Nat.reduceLT, reduceCtorEq, f410]
  have f512 : f5 12 = .int .i64 0 := by rw [← hff]; simp -implicitDefEqProofs only [upd_go, kept_go, ↓reduceIte, Nat.reduceEqDiff, Nat.reduceLT, reduceCtorEq, f412]
  have f514 : f5 14 = .int .i64 0 := by rw [← hff]; simp -implicitDefEqProofs only [upd_go, kept_go, ↓reduceIte, Nat.reduceEqDiff, Nat.reduceLT, reduceCtorEq, f414]
  have f516 : f5 16 = .int .i64 0 := by rw [← hff]; simp -implicitDefEqProofs only [upd_go, kept_go, ↓reduceIte, Nat.reduceEqDiff, Nat.reduceLT, reduceCtorEq, f416]
  have f518 : f5 18 = .int .i64 0 := by rw [← hff]; simp -implicitDefEqProofs only [upd_go, kept_go, ↓reduceIte, Nat.reduceEqDiff, Nat.reduceLT, reduceCtorEq]
  clear hff hgg
  generalize FState.put _ _ _ _ = σ5 at z5 hw5 d5 l5 m5 ⊢
  have Y5 := y5.trans z5
  have X5 := X4.trans Y5
  have a5 := y5.next
  have n5 := X5.next
  have c4_5 := kc _ X5 c4
  have c5_5 := kc _ X5 c5
  have d5_5 := d5
  have d1_5 := (Y5.cells (hw4.cells d1_4)).trans d1_4
  have l15 := l14.keep (σ' := σ5) (R' := fun b => σ0.next ≤ b ∧ b < τ1.next) fun b cs hb hc => ⟨(Y5.cells (hw4.cells hc)).trans hc, hb⟩
  have d2_5 := (Y5.cells (hw4.cells d2_4)).trans d2_4
  have l25 := l24.keep (σ' := σ5) (R' := fun b => σ1.next ≤ b ∧ b < τ2.next) fun b cs hb hc => ⟨(Y5.cells (hw4.cells hc)).trans hc, hb⟩
  have d3_5 := (Y5.cells (hw4.cells d3_4)).trans d3_4
  have l35 := l34.keep (σ' := σ5) (R' := fun b => σ2.next ≤ b ∧ b < τ3.next) fun b cs hb hc => ⟨(Y5.cells (hw4.cells hc)).trans hc, hb⟩
  have d4_5 := (Y5.cells (hw4.cells d4_4)).trans d4_4
  have l45 := l4.keep (σ' := σ5) (R' := fun b => σ3.next ≤ b ∧ b < τ4.next) fun b cs hb hc => ⟨(Y5.cells (hw4.cells hc)).trans hc, hb⟩
  exact paths_end q b4 b5 τ2.next τ3.next τ4.next τ5.next R (fun b => σ1.next ≤ b ∧ b < τ2.next) RX (fun b => σ2.next ≤ b ∧ b < τ3.next) (fun b => σ3.next ≤ b ∧ b < τ4.next) (fun b => σ4.next ≤ b ∧ b < τ5.next) d x w2 path other pv ov lv xv uv nv kv sv σ5 f5 g5 hOd hOu hdc hxd hxc hat2 hw2d hw2c hpl hol h4 hx4 huv hnv hkv hsv c4_5 c5_5 d2_5 d3_5 d4_5 d5_5 (kl _ X5 ld) (kl _ X5 lx) l25 l35 l45 l5 (fun b hb => by have := hR b hb; omega) (fun b hb => by omega) hw5 (pathV_ext hw0 X5 hp) (pathV_ext hw0 X5 ho) cp co f54 f55 f57 f58 f510 f511 f512 f513 f514 f515 f516 f517 f518
end Go.Proofs.YtodkeaoikjjneaaGreatDoor
/- DatumPaths: what the reading says. -/
namespace Go.Proofs.YtodkeaoikjjneaaGreatDoor
open Go Go.Eng
attribute [local congr] andThen_congr fops_congr fdraw_congr afterOp_congr drawF_congr
attribute [-go_sem] List.range_succ
theorem paths_says (q : Nat) (p : Option Addr) (l : List Int) (cp : Nat) (hl : l.length < 9223372036854775808) (σ : FState) (hw : Wf σ) (hI : Ints σ p l) (hp : ∀ a, p = some a → a.block < σ.next) :
    ∃ σ', fcall Tryz.prog nls (top (q + 40)) 4 [.slice p l.length cp] none σ = .ret (.bool true) none σ' := by
  obtain ⟨σ1, e1, x1, hw1, hC⟩ := newCoil_go (q + 39) p l cp hl σ hw hI hp
  have hn1 : σ.next < σ1.next := by obtain ⟨_, _, _, _, _, h, _⟩ := hC; exact (hw1 _ _ h).1
  obtain ⟨v, d, σ2, k2, e2, hL, hM, x2, hw2, hC2, _, hk2⟩ := datumOf_go (q + 32) σ.next 4 (by omega) 0 σ1 (by simp [wound]) hw1 hC
  have hk2' : k2 + wound 3 < 100000000000 := by
    have : wound 4 ≤ 1000 := by simp [wound]
    have : wound 3 ≤ 1000 := by simp [wound]
    omega
  obtain ⟨v', x, σ3, k3, e3, hLx, hMx, x3, hw3, hC3, _, hk3⟩ := datumOf_go (q + 33) σ.next 3 (by omega) k2 σ2 hk2' hw2 hC2
  have hk3' : k3 < 10000000 := by
    have : wound 4 ≤ 1000 := by simp [wound]
    have : wound 3 ≤ 1000 := by simp [wound]
    omega
  have hF := made_fine (q + 11) hM
  have hFx := made_fine (q + 11) hMx
  have n2 := x2.next
  have n3 := x3.next
  have e1' : (top (q + 40)).call 11 [.slice p l.length cp] none σ = .ret (.pointer (some ⟨σ.next, 0, none⟩)) none σ1 := (top_call _ _ _ _ rfl).trans e1
  have e2' : (top (q + 40)).call 13 [.pointer (some ⟨σ.next, 0, none⟩), .int .i64 4] none σ1 = .ret v none σ2 := (top_call _ _ _ _ rfl).trans e2
  have e3' : (top (q + 40)).call 13 [.pointer (some ⟨σ.next, 0, none⟩), .int .i64 3] none σ2 = .ret v' none σ3 := (top_call _ _ _ _ rfl).trans e3
  obtain ⟨lv, rfl, h4, ho4⟩ := hL.agg
  obtain ⟨xv, rfl, hx4, hox⟩ := hLx.agg
  have ht : lv.take 4 = lv := List.take_of_length_le (by omega)
  have htx : xv.take 4 = xv := List.take_of_length_le (by omega)
  rw [enter4 _ _ _ _ (by simp), Sl_start, run_restD]
  simp -implicitDefEqProofs only [go_sem, ↓reduceIte, Nat.reduceLT, Nat.reduceEqDiff, Nat.reduceAdd, Nat.reduceMul, Nat.reduceLeDiff, Nat.reduceSub, fstoreN, r4_0_go, r4_0U, r4_1_go, r4_1U, r4_2_go, r4_2U, Option.getD_some, e1', e2', e3', h4, hx4, ho4, hox]
  have x4 : Ext σ3 ((((σ3.push (.cells [.int .i64 0, .int .i64 0, .string ⟨#[]⟩, .slice none 0 0] TD) none).push (.cells [.int .i64 0, .int .i64 0, .string ⟨#[]⟩, .slice none 0 0] TD) none).put σ3.next (.cells lv TD) none).put (σ3.next + 1) (.cells xv TD) none) := ((((Ext.refl _).push _ _).push _ _).put _ _ _ (Nat.le_refl _)).put _ _ _ (by omega)
  have hw4 : Wf ((((σ3.push (.cells [.int .i64 0, .int .i64 0, .string ⟨#[]⟩, .slice none 0 0] TD) none).push (.cells [.int .i64 0, .int .i64 0, .string ⟨#[]⟩, .slice none 0 0] TD) none).put σ3.next (.cells lv TD) none).put (σ3.next + 1) (.cells xv TD) none) := (((hw3.push _ _).push _ _).put _ _ _ (by simp only [push_next]; omega)).put _ _ _ (by simp only [put_next, push_next]; omega)
  have g4 : ((((σ3.push (.cells [.int .i64 0, .int .i64 0, .string ⟨#[]⟩, .slice none 0 0] TD) none).push (.cells [.int .i64 0, .int .i64 0, .string ⟨#[]⟩, .slice none 0 0] TD) none).put σ3.next (.cells lv TD) none).put (σ3.next + 1) (.cells xv TD) none).heap.get σ3.next = some ⟨.cells lv TD, false, none, σ3.clock + 2⟩ := by rw [put_get, if_neg (by omega), put_get, if_pos rfl]; rfl
  have g5 : ((((σ3.push (.cells [.int .i64 0, .int .i64 0, .string ⟨#[]⟩, .slice none 0 0] TD) none).push (.cells [.int .i64 0, .int .i64 0, .string ⟨#[]⟩, .slice none 0 0] TD) none).put σ3.next (.cells lv TD) none).put (σ3.next + 1) (.cells xv TD) none).heap.get (σ3.next + 1) = some ⟨.cells xv TD, false, none, σ3.clock + 3⟩ := by rw [put_get, if_pos rfl]; rfl
  have n4 : ((((σ3.push (.cells [.int .i64 0, .int .i64 0, .string ⟨#[]⟩, .slice none 0 0] TD) none).push (.cells [.int .i64 0, .int .i64 0, .string ⟨#[]⟩, .slice none 0 0] TD) none).put σ3.next (.cells lv TD) none).put (σ3.next + 1) (.cells xv TD) none).next = σ3.next + 2 := rfl
  generalize hff : upd _ 5 _ = f1
  generalize hgg : upd _ 18 _ = g1
  have q3 : f1 3 = .pointer (some ⟨σ.next, 0, none⟩) := by rw [← hff]; simp -implicitDefEqProofs only [upd_go, kept_go, ↓reduceIte, Nat.reduceEqDiff, Nat.reduceLT, reduceCtorEq]
  have q4 : f1 4 = .pointer (some ⟨σ3.next, 0, none⟩) := by rw [← hff]; simp -implicitDefEqProofs only [upd_go, kept_go, ↓reduceIte, Nat.reduceEqDiff, Nat.reduceLT, reduceCtorEq]
  have q5 : f1 5 = .pointer (some ⟨σ3.next + 1, 0, none⟩) := by rw [← hff]; simp -implicitDefEqProofs only [upd_go, kept_go, ↓reduceIte, Nat.reduceEqDiff, Nat.reduceLT, reduceCtorEq]
  clear hff hgg
  generalize FState.put _ _ _ _ = σ4 at x4 hw4 g4 g5 n4 ⊢
  have c4 := cells_of_get g4
  have c5 := cells_of_get g5
  -- the paths
  have K24 : ∀ b cs, New σ1 σ2 b → σ2.cells b = some cs → σ4.cells b = some cs := fun b cs hb hc => by
    have h1 := (x3.cells (hw2.cells hc) (by have := hb.1; omega)).trans hc
    exact (x4.cells (hw3.cells h1)).trans h1
  have hfew := hF.few (by omega)
  have hdd := hF.deep_le
  obtain ⟨w5, σ5, e5, x5, hw5, ba, us, hba, F5, pl5, caps5⟩ := pathsB_go (q + 35) 5 d hdd [] (.agg lv.toArray) (.slice none 0 0) (New σ1 σ2) (fun _ => True) σ4 hw4 (hL.keep fun b cs hb hc => ⟨K24 b cs hb hc, hb⟩) (.inl ⟨rfl, rfl⟩) (by simp; omega) (by omega)
  have e5' : (top (q + 40)).call 22 [.agg lv.toArray, .slice none 0 0] none σ4 = .ret w5 none σ5 := (top_call _ _ _ _ rfl).trans e5
  obtain ⟨hw5v, ca5⟩ := F5.cells
  have n5 := x5.next
  have hC5 : Coil σ5 σ.next k3 := (hC3.ext hw3 x4).ext hw4 x5
  have ba6 : ba < σ5.next := F5.lt hw5
  have hus : us.length = (d.pieces []).length := by rw [pl5.length, List.length_map]
  rw [hw5v] at e5'
  have hne : 1 ≤ us.length := by rw [hus, D.pieces_eq]; simp
  obtain ⟨r7, σ7, e7, h70, h71, W7⟩ := up_go (q + 38) σ.next k3 (.ofNat (us.length - 1)) (by simp only [Int.ofNat_eq_natCast]; omega) (by omega) σ5 hw5 hC5
  obtain ⟨i, rfl⟩ : ∃ i : Nat, r7 = Int.ofNat i := ⟨r7.toNat, by simp only [Int.ofNat_eq_natCast]; omega⟩
  have hi : i < us.length := by simp only [Int.ofNat_eq_natCast] at h71; omega
  have e7' : (top (q + 40)).call 12 [.pointer (some ⟨σ.next, 0, none⟩), .int .i64 (.ofNat (us.length - 1))] none σ5 = .ret (.int .i64 (.ofNat i)) none σ7 := (top_call _ _ _ _ rfl).trans e7
  have w7 := sub1w us.length hne (by omega)
  obtain ⟨r8, σ8, e8, h80, h81, W8⟩ := up_go (q + 38) σ.next (k3 + 1) (.ofNat (us.length - 1)) (by simp only [Int.ofNat_eq_natCast]; omega) (by omega) σ7 W7.wf W7.coil
  obtain ⟨j, rfl⟩ : ∃ i : Nat, r8 = Int.ofNat i := ⟨r8.toNat, by simp only [Int.ofNat_eq_natCast]; omega⟩
  have hj : j < us.length := by simp only [Int.ofNat_eq_natCast] at h81; omega
  have e8' : (top (q + 40)).call 12 [.pointer (some ⟨σ.next, 0, none⟩), .int .i64 (.ofNat (us.length - 1))] none σ7 = .ret (.int .i64 (.ofNat j)) none σ8 := (top_call _ _ _ _ rfl).trans e8
  obtain ⟨y, hy⟩ : ∃ y, (d.pieces [])[i]? = some y := ⟨_, List.getElem?_eq_getElem (by omega)⟩
  obtain ⟨y2, hy2⟩ : ∃ y, (d.pieces [])[j]? = some y := ⟨_, List.getElem?_eq_getElem (by omega)⟩
  have hmem := List.mem_of_getElem? hy
  have hmem2 := List.mem_of_getElem? hy2
  obtain ⟨r, hr, hat⟩ := pieces_at d [] y hmem
  rw [List.nil_append] at hr
  subst hr
  obtain ⟨r', hr', hat2⟩ := pieces_at d [] y2 hmem2
  rw [List.nil_append] at hr'
  subst hr'
  have hyl := ((hF []).2 y hmem).1
  have hyl2 := ((hF []).2 y2 hmem2).1
  obtain ⟨L', hL', hMy⟩ := made_at y.1 4 d y.2 hM hat
  have hFy := made_fine (q + 11) hMy
  have hFu := fine_put (q + 11) hFx y.1 4 d y.2 hM hat
  have hdm := (hF []).1
  have hxm := (hFx []).1
  have hym := hFy.few (by omega)
  rw [pieces_length] at hdm hxm hym
  have hm4 : most 4 = 121 := by decide
  have hm3 : most 3 = 40 := by decide
  rw [hm4] at hdm
  rw [hm3] at hxm
  have hpc := put_count y.1 x d y.2 hat
  have hle2 := pieces_le d [] y2 hmem2
  obtain ⟨u, hu, hP⟩ := pl5.get (i := i) (p := y.1) (by rw [List.getElem?_map, hy]; rfl)
  obtain ⟨u2, hu2, hP2⟩ := pl5.get (i := j) (p := y2.1) (by rw [List.getElem?_map, hy2]; rfl)
  have hcu := caps5 u (List.mem_of_getElem? hu)
  have hcu2 := caps5 u2 (List.mem_of_getElem? hu2)
  have n7 := W7.ext.next
  have n8 := W8.ext.next
  have g58 : ∀ b, b < σ5.next → b ≠ σ.next → σ8.heap.get b = σ5.heap.get b := fun b hb hne => (W8.ext.get b (by omega) hne).trans (W7.ext.get b hb hne)
  have k58 : ∀ b cs, b ≠ σ.next → σ5.cells b = some cs → σ8.cells b = some cs := fun b cs hb hc => (W8.ext.cells (by have := hw5.cells hc; omega) hb).trans ((W7.ext.cells (hw5.cells hc) hb).trans hc)
  have k38 : ∀ b cs, b ≠ σ.next → σ3.cells b = some cs → σ8.cells b = some cs := fun b cs hb hc => by
    have h1 := (x4.cells (hw3.cells hc)).trans hc
    exact k58 b cs hb ((x5.cells (hw4.cells h1)).trans h1)
  have hRne : ∀ b, New σ1 σ2 b → b ≠ σ.next := fun b hb => by have := hb.1; omega
  have ld8 : LaidR (New σ1 σ2) σ8 (.agg lv.toArray) d := hL.keep fun b cs hb hc => ⟨k38 b cs (hRne b hb) ((x3.cells (hw2.cells hc) (hRne b hb)).trans hc), hb⟩
  have lx8 : LaidR (New σ2 σ3) σ8 (.agg xv.toArray) x := hLx.keep fun b cs hb hc => ⟨k38 b cs (by have := hb.1; omega) hc, hb⟩
  have hP8 : PathV (fun b => FulB σ8 b) σ8 u y.1 := hP.keep fun b c hb hc => ⟨k58 b c (by have := hb.1; omega) hc, hb.2.keep (g58 b (hw5.cells hc) (by have := hb.1; omega))⟩
  have hP28 : PathV (fun b => FulB σ8 b) σ8 u2 y2.1 := hP2.keep fun b c hb hc => ⟨k58 b c (by have := hb.1; omega) hc, hb.2.keep (g58 b (hw5.cells hc) (by have := hb.1; omega))⟩
  have c45 := (x5.cells (hw4.cells c4)).trans c4
  have c55 := (x5.cells (hw4.cells c5)).trans c5
  have ca7 : σ7.cells ba = some us := (W7.ext.cells (hw5.cells ca5) (by omega)).trans ca5
  have v1 : (view σ8 σ7.clock).cells ba = some us := view_old W7.wf (Nat.le_refl _) (W8.ext.get _ (by omega) (by omega)) ca7
  have ca8 := k58 _ _ (by omega) ca5
  have hv8 := view_wf W8.wf (Nat.le_refl _)
  simp -implicitDefEqProofs only [go_sem, ↓reduceIte, Nat.reduceLT, Nat.reduceEqDiff, Nat.reduceAdd, Nat.reduceMul, Nat.reduceLeDiff, Nat.reduceSub, fstoreN, r4_3_go, r4_3U, r4_4_go, r4_4U, q3, q4, q5, c4, h4, ht, e5', w7, e7', e8', v1, hv8, ca8, hi, hj, hu, hu2, Nat.le_refl, List.getElem?_cons_zero, List.getElem?_cons_succ]
  generalize hff : upd _ 8 _ = f2
  generalize hgg : upd _ 44 _ = g2
  exact paths_rest q σ3.next (σ3.next + 1) (New σ1 σ2) (New σ2 σ3) d x y.2 y2.2 y.1 y2.1 u u2 lv xv σ8 f2 g2 (hF.okay (by omega) (by omega)) (hFx.okay (by omega) (by omega)) (hFy.okay (by omega) (by omega)) (hFu.okay (by omega) (by omega)) (by omega) (by omega) hat hat2 (by omega) (by omega) (by simp at hyl; omega) (by simp at hyl2; omega) h4 hx4 (k58 _ _ (by omega) c45) (k58 _ _ (by omega) c55) ld8 lx8 (fun b hb => by have := hb.2; omega) (fun b hb => by have := hb.2; omega) W8.wf hP8 hP28 hcu hcu2 (by rw [← hff]; simp -implicitDefEqProofs only [upd_go, kept_go, ↓reduceIte, Nat.reduceEqDiff, Nat.reduceLT, reduceCtorEq, q4]) (by rw [← hff]; simp -implicitDefEqProofs only [upd_go, kept_go, ↓reduceIte, Nat.reduceEqDiff, Nat.reduceLT, reduceCtorEq, q5]) (by rw [← hff]; simp -implicitDefEqProofs only [upd_go, kept_go, ↓reduceIte, Nat.reduceEqDiff, Nat.reduceLT, reduceCtorEq]) (by rw [← hff]; simp -implicitDefEqProofs only [upd_go, kept_go, ↓reduceIte, Nat.reduceEqDiff, Nat.reduceLT, reduceCtorEq])
end Go.Proofs.YtodkeaoikjjneaaGreatDoor
