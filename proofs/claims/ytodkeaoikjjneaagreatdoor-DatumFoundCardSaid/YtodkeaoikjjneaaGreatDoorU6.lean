/- The reading of the program, and what is so of it: SymT, SymPg, SymPc, SymPh, SymLF0, SymCL, SymLF, SymLF2, SymLF3. -/
import Derived.Test.YtodkeaoikjjneaaGreatDoorU5
import Derived.Test.YtodkeaoikjjneaaGreatDoorZSymTL
import Derived.Test.YtodkeaoikjjneaaGreatDoorU3
set_option linter.unusedSimpArgs false
set_option linter.unusedVariables false
/- The reading of a law, where the chapter's examples are told; what it says of a law is so of every run. -/
namespace Go.Proofs.YtodkeaoikjjneaaGreatDoor
open Go Go.Eng
attribute [local congr] andThen_congr fops_congr fdraw_congr afterOp_congr drawF_congr
attribute [-go_sem] List.range_succ
/-- Calls so many deep; the examples hold. -/
noncomputable def top (n : Nat) : Env where
  call := fun f args u σ => match u with
    | none => bif Nat.beq f 21 && args.isEmpty then .ret (.bool true) none σ else (env n).call f args none σ
    | some md => (env n).call f args (some md) σ
  round := fun l args σ => (env n).round l args σ
theorem top_call (n : Nat) (f : FuncId) (args : List Value) (σ : FState) (h : Nat.beq f 21 = false) : (top n).call f args none σ = (env n).call f args none σ := by
  show (bif Nat.beq f 21 && args.isEmpty then CRes.ret (.bool true) none σ else (env n).call f args none σ) = _
  rw [h]
  rfl
theorem top_looks (n : Nat) (σ : FState) : (top n).call 21 [] none σ = .ret (.bool true) none σ := rfl
theorem top_defer (n : Nat) (f : FuncId) (args : List Value) (md : FrameMode) (σ : FState) : (top n).call f args (some md) σ = (env n).call f args (some md) σ := rfl
theorem top_round (n l : Nat) (args : List Value) (σ : FState) : (top n).round l args σ = (env n).round l args σ := rfl

theorem sy_mixed : Tryz.prog.follows .mixedOrders = true := by kernel_rfl
theorem sy_named : (Tryz.prog.funcs.toList.all fun fn => !(fn.name == "runtime.NumGoroutine")) = true := by kernel_rfl
theorem sy_names (f : FuncId) (fn : Func) (h : Tryz.prog.funcs[f]? = some fn) : (fn.name == "runtime.NumGoroutine") = false := by
  have := List.all_eq_true.1 sy_named fn (by
    rw [Array.mem_toList_iff]
    exact Array.mem_of_getElem? h)
  simpa using this
/-- Nothing is pinned. -/
abbrev noPins : Pins := ⟨fun _ _ => False⟩
theorem nosums_ok [Pins] : SumOK Tryz.prog nosums := fun _ _ _ _ _ _ _ h => by cases h
theorem looks_call (W : World) : Calls Tryz.prog 21 #[] W fun e W' => e = .returned (.bool true) ∧ W'.os = W.os ∧ W'.output = W.output ∧ W'.tape = W.tape ∧ W.heap.size ≤ W'.heap.size ∧ ∀ i, i < W.heap.size → W'.heap[i]? = W.heap[i]? :=
  says_true sy_mixed sy_names Tryz.func21 rfl W (@nosums_ok (pinsOf W)) looks_says
theorem top_ok (n : Nat) : @EnvOK noPins Tryz.prog (top n) := by
  letI := noPins
  have h : EnvOK Tryz.prog (env n) := fenv_ok nosums_ok sy_mixed sy_names nls n
  refine ⟨fun f args u σ m w args' hr hA hu => ?_, fun l args σ m w args' e hr hA hm => h.round l args σ m w args' e hr hA hm⟩
  cases u with
  | some md => exact h.call f args (some md) σ m w args' hr hA hu
  | none =>
    by_cases hf : (Nat.beq f 21 && args.isEmpty) = true
    · rw [Bool.and_eq_true, Nat.beq_eq, List.isEmpty_iff] at hf
      obtain ⟨rfl, rfl⟩ := hf
      obtain ⟨L'⟩ := args'
      have hl : L' = [] := by
        have := hA.1
        exact List.length_eq_zero_iff.1 this.symm
      subst hl
      show CallOK Tryz.prog m σ w 21 #[] none (.ret (.bool true) none σ)
      refine .inr ⟨callFunc_enter Tryz.func21 rfl (sy_names _ _ Tryz.func21), fun cs hu => ?_⟩
      obtain ⟨e, w', fr, ⟨rfl, ho, hout, ht, hsz, hk⟩, hc, hfn, hl⟩ := looks_call w cs
      exact ⟨m, w', .bool true, fr, cs, hr.moreWorld hk hsz, (Step.refl σ m w).moreWorld hk hsz ho ht hout, .bool true, hu, .refl _ _, StepsIn.of_steps hc, hfn, hl.2.2.1, ⟨hl.1, hl.2.1, hl.2.2.2⟩⟩
    · have e : (top n).call f args none σ = (env n).call f args none σ := by
        show (bif Nat.beq f 21 && args.isEmpty then CRes.ret (.bool true) none σ else (env n).call f args none σ) = _
        rw [Bool.not_eq_true] at hf
        rw [hf]
        rfl
      rw [e]
      exact h.call f args none σ m w args' hr hA hu
/-- What the reading says of a call, of memory of which nothing may be written, is so of every run. -/
theorem calls_of [Pins] {P : Program} {E : Env} (hE : EnvOK P E) (hm : P.follows .mixedOrders = true) (hname : ∀ (f : FuncId) (fn : Func), P.funcs[f]? = some fn → (fn.name == "runtime.NumGoroutine") = false) (nls : Hints) {f : FuncId} {fn : Func} {body : Code} (hf : P.funcs[f]? = some fn) (hb : fn.body = some body) (σ : FState) (m : Mp) (W : World) (args : List Value) (args' : Array Value) (hr : Rel Top m σ W) (hA : LRel m args args'.toList) (hro : ∀ b e, m b = some e → e.ro = true)
    (h : ∃ σ', fcall P nls E f args none σ = .ret (.bool true) none σ') :
    Calls P f args' W fun e W' => e = .returned (.bool true) ∧ W'.os = W.os ∧ W'.output = W.output ∧ W'.tape = W.tape ∧ W.heap.size ≤ W'.heap.size ∧ ∀ i, i < W.heap.size → W'.heap[i]? = W.heap[i]? := by
  obtain ⟨σ', h⟩ := h
  have hc := call_ok hE (draw_ok hm hE) hname nls f args none σ m W args' hr hA
  generalize fcall P nls E f args none σ = r at h hc
  subst h
  rcases hc with ⟨_, _, _, v', hval, _⟩ | ⟨_, hgo⟩
  · have hent := callFunc_enter (P := P) (w := W) (args := args') hf hb (hname f fn hf)
    rw [hent] at hval
    cases hval
  · intro cs
    obtain ⟨m', w', v', fr, cs', hR, hS', hV, _, hun, hst, hfn, hk, hgoing⟩ := hgo cs rfl
    have hcs : cs' = cs := by
      rcases hun with h | ⟨h, _⟩
      · exact h
      · cases h
    subst hcs
    have hv' := hV.flat rfl
    subst hv'
    exact ⟨.returned (.bool true), w', fr, ⟨rfl, hS'.os, hS'.output, hS'.tape, hS'.size, fun i hi => hS'.keep i hi fun b e ent hb hre => by rw [hro b e hb] at hre; cases hre⟩, hst.steps, hfn, leaving_of_going hk hgoing⟩
theorem law_calls {f : FuncId} {fn : Func} {body : Code} (hf : Tryz.prog.funcs[f]? = some fn) (hb : fn.body = some body) (n : Nat) (σ : FState) (m : Mp) (W : World) (args : List Value) (args' : Array Value) (hr : @Rel noPins Top m σ W) (hA : LRel m args args'.toList) (hro : ∀ b e, m b = some e → e.ro = true)
    (h : ∃ σ', fcall Tryz.prog nls (top n) f args none σ = .ret (.bool true) none σ') :
    Calls Tryz.prog f args' W fun e W' => e = .returned (.bool true) ∧ W'.os = W.os ∧ W'.output = W.output ∧ W'.tape = W.tape ∧ W.heap.size ≤ W'.heap.size ∧ ∀ i, i < W.heap.size → W'.heap[i]? = W.heap[i]? :=
  @calls_of noPins Tryz.prog (top n) (top_ok n) sy_mixed sy_names nls f fn body hf hb σ m W args args' hr hA hro h
/-- Numbers in the model's memory, as the reading begins with them. -/
noncomputable def numbers (zs : List Int) : FState := ⟨Tr.set .lf 0 ⟨.cells (zs.map fun z => Value.int .i64 z) TI, true, none, 0⟩, 1, 1⟩
theorem numbers_get (zs : List Int) (b : Nat) : (numbers zs).heap.get b = if b = 0 then some ⟨.cells (zs.map fun z => Value.int .i64 z) TI, true, none, 0⟩ else none := by
  show (Tr.set .lf 0 _).get b = _
  rw [Tr.get_set]
  split <;> rfl
theorem numbers_wf (zs : List Int) : Wf (numbers zs) := fun b e h => by
  rw [numbers_get] at h
  by_cases hb : b = 0
  · rw [if_pos hb] at h
    cases h
    exact ⟨by subst hb; exact Nat.lt_succ_self 0, Nat.lt_succ_self 0⟩
  · rw [if_neg hb] at h
    cases h
theorem numbers_ints (zs : List Int) : Ints (numbers zs) (some ⟨0, 0, none⟩) zs := fun i n h => by
  refine ⟨0, 0, zs.map fun z => Value.int .i64 z, rfl, ?_, ?_⟩
  · rw [cells_get, numbers_get, if_pos rfl]; rfl
  · rw [Nat.zero_add, List.getElem?_map, h]; rfl
/-- A law over a list of numbers: at every such list, whatever the rest of memory is. -/
theorem law_ints {f : FuncId} {fn : Func} {body : Code} (hf : Tryz.prog.funcs[f]? = some fn) (hb : fn.body = some body) (n : Nat)
    (h : ∀ (p : Option Addr) (l : List Int) (cp : Nat), l.length < 9223372036854775808 → ∀ σ, Wf σ → Ints σ p l → (∀ a, p = some a → a.block < σ.next) → ∃ σ', fcall Tryz.prog nls (top n) f [.slice p l.length cp] none σ = .ret (.bool true) none σ')
    (W : World) (v : Value) (hsz : 0 < W.heap.size)
    (hv : v = .slice none 0 0 ∨ ∃ (a : Addr) (len cap : Nat) (zs : List Int), v = .slice (some a) len cap ∧ len ≤ cap ∧ cap < 9223372036854775808 ∧ zs.length = cap ∧ ∀ i, i < zs.length → W.cell? (a.add i) = some (.int .i64 (zs.getD i 0))) :
    Calls Tryz.prog f #[v] W fun e W' => e = .returned (.bool true) ∧ W'.os = W.os ∧ W'.output = W.output ∧ W'.tape = W.tape ∧ W.heap.size ≤ W'.heap.size ∧ ∀ i, i < W.heap.size → W'.heap[i]? = W.heap[i]? := by
  rcases hv with rfl | ⟨a, len, cap, zs, rfl, hl, hm, hz, hc⟩
  · letI := noPins
    refine law_calls hf hb n Eng.empty (fun _ => none) W [.slice none 0 0] _ ?_ (.cons (.nilSlice 0 0) .nil) (fun b e h => by cases h) (h none [] 0 (by simp) Eng.empty (fun b e h => by cases h) (fun i n h => by simp at h) fun a h => by cases h)
    have hget : ∀ b, Eng.empty.heap.get b = none := fun b => rfl
    exact ⟨fun b ent e _ hb => (by rw [hget] at hb; cases hb), fun b b' ent ent' e e' _ hb => (by rw [hget] at hb; cases hb), fun b e hb => (by cases hb), fun b ent hb => (by rw [hget] at hb; cases hb), fun k o hk => hk.elim⟩
  · letI := noPins
    cases zs with
    | nil =>
      obtain rfl : cap = 0 := hz.symm
      obtain rfl : len = 0 := by omega
      have hget : ∀ b, (⟨.lf, 1, 1⟩ : FState).heap.get b = none := fun b => rfl
      refine law_calls hf hb n ⟨.lf, 1, 1⟩ (fun b => if b = 0 then some ⟨0, 0, true, none⟩ else none) W [.slice (some ⟨0, 0, none⟩) 0 0] _ ?_ (.cons (.empty (b := 0) (off := 0) (if_pos rfl)) .nil) (fun b e h => ?_)
        (h (some ⟨0, 0, none⟩) [] 0 (by simp) ⟨.lf, 1, 1⟩ (fun b e h => by rw [hget] at h; cases h) (fun i n h => by simp at h) fun a h => by cases h; exact Nat.lt_succ_self 0)
      · refine ⟨fun b ent e _ hb => (by rw [hget] at hb; cases hb), fun b b' ent ent' e e' _ hb => (by rw [hget] at hb; cases hb), fun b e hb => ?_, fun b ent hb => (by rw [hget] at hb; cases hb), fun k o hk => hk.elim⟩
        by_cases h0 : b = 0
        · rw [if_pos h0] at hb
          cases hb
          exact ⟨by subst h0; exact Nat.lt_succ_self 0, hsz⟩
        · rw [if_neg h0] at hb; cases hb
      · by_cases h0 : b = 0
        · rw [if_pos h0] at h; cases h; rfl
        · rw [if_neg h0] at h; cases h
    | cons z zs =>
      have h0 := hc 0 (by simp)
      obtain ⟨ab, ao, asp⟩ := a
      have h1 : W.cell? ⟨ab, ao, asp⟩ = some (.int .i64 z) := h0
      have hcell : ∃ c el fr, W.heap[ab]? = some (.cells c el fr) ∧ asp = none := by
        unfold World.cell? at h1
        split at h1
        · rename_i c el fr hb'
          cases asp with
          | none => exact ⟨c, el, fr, hb', rfl⟩
          | some _ => simp at h1
        · cases h1
      obtain ⟨c, el, fr, hW, rfl⟩ := hcell
      have hlt : ab < W.heap.size := (Array.getElem?_eq_some_iff.1 hW).1
      have hci : ∀ (i : Nat) (v : Value), ((z :: zs).map fun z => Value.int .i64 z)[i]? = some v → c[ao + i]? = some v := fun i v hv => by
        rw [List.getElem?_map] at hv
        cases hzi : (z :: zs)[i]? with
        | none => rw [hzi] at hv; cases hv
        | some y =>
          rw [hzi] at hv
          cases hv
          have hil := (List.getElem?_eq_some_iff.1 hzi).1
          have hh := hc i hil
          rw [List.getD, hzi] at hh
          have ha : (⟨ab, ao, none⟩ : Addr).add i = ⟨ab, ao + i, none⟩ := by
            unfold Addr.add
            by_cases h0 : i = 0
            · subst h0; rfl
            · rw [if_neg h0]
          rw [ha] at hh
          unfold World.cell? at hh
          simp only [hW] at hh
          exact hh
      have hty : ((z :: zs).take len).length = len := by rw [List.length_take, hz]; omega
      refine law_calls hf hb n (numbers (z :: zs)) (fun b => if b = 0 then some ⟨ab, ao, true, none⟩ else none) W [.slice (some ⟨0, 0, none⟩) ((z :: zs).take len).length cap] _ ?_ ?_ (fun b e h => ?_)
        (h (some ⟨0, 0, none⟩) ((z :: zs).take len) cap (by rw [hty]; omega) (numbers (z :: zs)) (numbers_wf _) (fun i n hi => numbers_ints (z :: zs) i n (by
          rw [List.getElem?_take] at hi
          split at hi
          · exact hi
          · cases hi)) fun a h => by cases h; exact Nat.lt_succ_self 0)
      · refine ⟨fun b ent e _ hb hm' => ?_, fun b b' ent ent' e e' hne hb hb' _ _ hm' hm'' => ?_, fun b e hb => ?_, fun b ent hb => ((numbers_wf _) b ent hb).1, fun k o hk => hk.elim⟩
        · rw [numbers_get] at hb
          by_cases hb0 : b = 0
          · rw [if_pos hb0] at hb hm'
            cases hb
            cases hm'
            exact ⟨rfl, c, el, fr, hW, (fun h => by cases h), fun i v hv => ⟨v, hci i v hv, by
              rw [List.getElem?_map] at hv
              cases hzi : (z :: zs)[i]? with
              | none => rw [hzi] at hv; cases hv
              | some y => rw [hzi] at hv; cases hv; exact .int _ _⟩, trivial⟩
          · rw [if_neg hb0] at hb; cases hb
        · by_cases hb0 : b = 0
          · by_cases hb1 : b' = 0
            · omega
            · rw [if_neg hb1] at hm''; cases hm''
          · rw [if_neg hb0] at hm'; cases hm'
        · by_cases hb0 : b = 0
          · rw [if_pos hb0] at hb
            cases hb
            exact ⟨by subst hb0; exact Nat.lt_succ_self 0, hlt⟩
          · rw [if_neg hb0] at hb; cases hb
      · refine .cons ?_ .nil
        rw [hty]
        have := VRel.slice (m := fun b => if b = 0 then some ⟨ab, ao, true, none⟩ else none) (b := 0) (off := 0) (l := len) (c := cap) (c' := cap) (e := ⟨ab, ao, true, none⟩) (if_pos rfl) (.inl rfl)
        exact this
      · by_cases hb0 : b = 0
        · rw [if_pos hb0] at h; cases h; rfl
        · rw [if_neg hb0] at h; cases h
end Go.Proofs.YtodkeaoikjjneaaGreatDoor
/- datum.Find. -/
namespace Go.Proofs.YtodkeaoikjjneaaGreatDoor
open Go Go.Eng
attribute [local congr] andThen_congr fops_congr fdraw_congr afterOp_congr drawF_congr
attribute [-go_sem] List.range_succ
/-- What is so of a value in memory from a block on, whatever comes of other memory. -/
structure Stays (Q : Nat → Value → FState → Prop) : Prop where
  keep : ∀ base base' v σ σ', Q base v σ → Wf σ → base' ≤ base → (∀ b, base ≤ b → b < σ.next → σ'.heap.get b = σ.heap.get b) → Q base' v σ'
theorem deferredAtLL (n : Nat) (p q : Value) (σ : FState) : (env (n + 1)).call 134 [p, q] (some .returning) σ = .ret (.tuple #[]) (some .returning) σ := by
  rw [env_defer, enter134 _ _ _ _ (by simp), Sl_start]
  unfold run134
  simp -implicitDefEqProofs only [go_sem, ↓reduceIte, Nat.reduceLT, Nat.reduceEqDiff, Nat.reduceAdd, Nat.reduceMul, Nat.reduceLeDiff, Nat.reduceSub, r134_0_go, r134_0U, r134_3_go, r134_3U, r134_4_go, r134_4U, nilAny]
theorem callAtLL (n w : Nat) (cap : Array Value) {Q : Nat → Value → FState → Prop} (hQ : Stays Q) (hone : ∀ base v σ, Q base v σ → oneCell v = true ∧ notTuple v = true ∧ valCells v = [v]) (σ : FState) (hw : Wf σ)
    (h : ∀ σ', Ext σ σ' → Wf σ' → Gives ((env (n + 1)).call w cap.toList none σ') σ' (Q σ'.next)) :
    Gives ((env (n + 2)).call 109 [.func (.func w) #[] cap] none σ) σ fun v σ' => ∃ u, v = .tuple #[u, .int .i64 0, .int .i64 0] ∧ Q σ.next u σ' := by
  rw [env_call, enter109 _ _ _ _ (by simp), Sl_start]
  unfold run109
  have hX1 : Ext σ ((σ.push (.cells [.int .i64 0] 3) none).push (.cells [.int .i64 0] 32) none) := ((Ext.refl _).push _ _).push _ _
  have hw1 := (hw.push (.cells [.int .i64 0] 3) none).push (.cells [.int .i64 0] 32) none
  obtain ⟨u, σ2, e2, hX2, hw2, hq⟩ := h _ hX1 hw1
  have g1 : σ2.heap.get σ.next = _ := (hX2.get σ.next (by simp only [push_next]; omega)).trans (by simp -implicitDefEqProofs only [push_get, push_next, Nat.add_assoc, Nat.reduceAdd, Nat.left_eq_add, reduceCtorEq, ↓reduceIte, Nat.reduceEqDiff] <;> rfl)
  have g2 : σ2.heap.get (σ.next + 1) = _ := (hX2.get (σ.next + 1) (by simp only [push_next]; omega)).trans (by simp -implicitDefEqProofs only [push_get, push_next, Nat.add_assoc, Nat.reduceAdd, Nat.add_left_cancel_iff, reduceCtorEq, ↓reduceIte, Nat.reduceEqDiff] <;> rfl)
  obtain ⟨o1, o2, o3⟩ := hone _ _ _ hq
  simp -implicitDefEqProofs only [go_sem, ↓reduceIte, Nat.reduceLT, Nat.reduceEqDiff, Nat.reduceAdd, Nat.reduceMul, Nat.reduceLeDiff, Nat.reduceSub, r109_0_go, r109_0U, r109_1_go, r109_1U, r109_2_go, r109_2U, Option.getD_some, e2, g1, g2, aggInt, aggErrno, deferredAtLL, fleave_nil, fresults_nil, fresults_cons, fresult_cell, fresult_tmp, o1, o2, o3]
  have m1 := (hw2 _ _ g1).1
  have m2 := (hw2 _ _ g2).1
  exact ⟨_, _, rfl, ((hX1.trans hX2).put _ _ _ (Nat.le_refl _)).put _ _ _ (Nat.le_add_right _ _), (hw2.put _ _ _ m1).put _ _ _ m2, _, rfl, hQ.keep _ _ _ _ _ hq hw2 (by simp only [push_next]; omega) fun b hb _ => by
    simp only [push_next] at hb
    rw [put_get, if_neg (by omega), put_get, if_neg (by omega)]⟩
theorem callLL (n w : Nat) (cap : Array Value) {Q : Nat → Value → FState → Prop} (hQ : Stays Q) (hone : ∀ base v σ, Q base v σ → oneCell v = true ∧ notTuple v = true ∧ valCells v = [v]) (σ : FState) (hw : Wf σ)
    (h : ∀ σ', Ext σ σ' → Wf σ' → Gives ((env (n + 1)).call w cap.toList none σ') σ' (Q σ'.next)) :
    Gives ((env (n + 3)).call 76 [.func (.func w) #[] cap] none σ) σ fun v σ' => ∃ u, v = .tuple #[u, .int .i64 0] ∧ Q σ.next u σ' := by
  rw [env_call, enter76 _ _ _ _ (by simp), Sl_start]
  unfold run76
  obtain ⟨_, σ2, e2, hX2, hw2, u, rfl, hq⟩ := callAtLL n w cap hQ hone σ hw h
  obtain ⟨o1, o2, o3⟩ := hone _ _ _ hq
  simp -implicitDefEqProofs only [go_sem, ↓reduceIte, Nat.reduceLT, Nat.reduceEqDiff, Nat.reduceAdd, Nat.reduceMul, Nat.reduceLeDiff, Nat.reduceSub, r76_0_go, r76_0U, r76_1_go, r76_1U, r76_2_go, r76_2U, Option.getD_some, e2, fleave_nil, fresults_nil, fresults_cons, fresult_tmp, List.getElem?_cons_zero, o1, o2, o3]
  exact ⟨_, _, rfl, hX2, hw2, u, rfl, hq⟩
def ResP (x : D) (l : List (List Nat × D)) (base : Nat) (w : Value) (σ : FState) : Prop := ∃ us, Vecs 22 (fun b => base ≤ b) σ w us ∧ PathsL (fun b => base ≤ b) σ us (foundIn x l)
theorem resP_stays (x : D) (l : List (List Nat × D)) : Stays (ResP x l) := ⟨fun base base' v σ σ' ⟨us, h1, h2⟩ hw hb hk => ⟨us, h1.keep (fun b hb' hn => ⟨hk b hb' hn, by omega⟩) hw, h2.keep fun b c hb' hc => ⟨by
  have := hk b hb' (hw.cells hc)
  rw [cells_get] at hc ⊢
  rw [this]; exact hc, by omega⟩⟩⟩
mutual
theorem pieces_le : ∀ (d : D) (p : List Nat) (y : List Nat × D), y ∈ d.pieces p → y.2.deep ≤ d.deep ∧ y.2.count ≤ d.count
  | .mk k z t ds, p, y, h => by
    rw [D.pieces] at h
    rcases List.mem_cons.1 h with rfl | h
    · exact ⟨Nat.le_refl _, Nat.le_refl _⟩
    · have := piecesL_le ds p 0 y h
      rw [D.deep, D.count]
      omega
theorem piecesL_le : ∀ (ds : List D) (p : List Nat) (i : Nat) (y : List Nat × D), y ∈ D.piecesL p i ds → y.2.deep ≤ D.deeps ds ∧ y.2.count ≤ D.counts ds
  | [], p, i, y, h => by simp [D.piecesL] at h
  | d :: ds, p, i, y, h => by
    rw [D.piecesL, List.mem_append] at h
    rw [D.deeps, D.counts]
    rcases h with h | h
    · have := pieces_le d _ y h; omega
    · have := piecesL_le ds _ _ y h; omega
end
theorem longest_le (l : List (List Nat × D)) (L : Nat) (h : ∀ x ∈ l, x.1.length ≤ L) : longest l ≤ L + 1 := by
  induction l with
  | nil => simp [longest]
  | cons x l ih =>
    rw [longest_cons]
    have := h x List.mem_cons_self
    have := ih fun y hy => h y (List.mem_cons_of_mem _ hy)
    omega
theorem Fine.deep_le {m L : Nat} {d : D} (h : Fine m L d) : d.deep ≤ L + 1 := by
  have h1 := longest_pieces d []
  have h2 := longest_le (d.pieces []) L fun x hx => by have := ((h []).2 x hx).1; simpa using this
  simp at h1
  omega
theorem find1 (M n : Nat) (hM : M = n + 14) (b1 b2 : Nat) (L L' : Nat) (hL6 : L ≤ 6) (hL6' : L' ≤ 6) (d x : D) (hF : Fine M L d) (hFx : Fine M L' x) (lv xv : List Value) (h4 : lv.length = 4) (hx4 : xv.length = 4) (R X : Nat → Prop) (σ : FState) (hw : Wf σ) (hb1 : σ.cells b1 = some lv) (hb2 : σ.cells b2 = some xv) (hL : LaidR R σ (.agg lv.toArray) d) (hLx : LaidR (fun b => R b ∨ X b) σ (.agg xv.toArray) x) (hR : ∀ b, R b → b < σ.next ∧ ¬ X b) (hX : ∀ b, X b → b < σ.next) :
    Gives ((env (M + 6)).call 77 [.pointer (some ⟨b1, 0, none⟩), .pointer (some ⟨b2, 0, none⟩)] none σ) σ (ResP x (d.pieces []) σ.next) := by
  have hf := hF.few hL6
  have hfx := hFx.few hL6'
  rw [env_call, enter77 _ _ _ _ (by simp), Sl_start]
  unfold run77
  obtain ⟨_, σ1, e1, x1, hw1, rfl⟩ := valid_go M d lv h4 R σ hw hL (fun b hb => (hR b hb).1) (hF.small hL6) (by omega) hF.good
  have n1 := x1.next
  have kl := fun {R : Nat → Prop} {v : Value} {y : D} (h : LaidR R σ v y) => h.keep (R' := R) (σ' := σ1) fun b cs hb hc => ⟨(x1.cells (hw.cells hc)).trans hc, hb⟩
  obtain ⟨_, σ2, e2, x2, hw2, rfl⟩ := valid_go M x xv hx4 (fun b => R b ∨ X b) σ1 hw1 (kl hLx) (fun b hb => by rcases hb with hb | hb; have := (hR b hb).1; omega; have := hX b hb; omega) (hFx.small hL6') (by omega) hFx.good
  have n2 := x2.next
  have x12 := x1.trans x2
  have kl2 := fun {R : Nat → Prop} {v : Value} {y : D} (h : LaidR R σ v y) => h.keep (R' := R) (σ' := σ2) fun b cs hb hc => ⟨(x12.cells (hw.cells hc)).trans hc, hb⟩
  have c1 := (x1.cells (hw.cells hb2)).trans hb2
  have c2 := (x12.cells (hw.cells hb1)).trans hb1
  have c3 := (x12.cells (hw.cells hb2)).trans hb2
  have hd := hF.deep_le
  have hct : d.count < 1000000000 := by rw [← pieces_length d []]; omega
  obtain ⟨w, σ3, e3, x3, hw3, us, h1, h2⟩ := find_go M n 7 hM d x lv xv h4 hx4 R X σ2 hw2 (kl2 hL) (kl2 hLx) (fun b hb => ⟨by have := (hR b hb).1; omega, (hR b hb).2⟩) (fun b hb => by have := hX b hb; omega) (hF.small hL6) (by omega) (fun y hy => by have := pieces_le d [] y hy; omega)
  have ht : lv.take 4 = lv := List.take_of_length_le (by omega)
  have htx : xv.take 4 = xv := List.take_of_length_le (by omega)
  simp -implicitDefEqProofs only [go_sem, ↓reduceIte, Nat.reduceLT, Nat.reduceEqDiff, Nat.reduceAdd, Nat.reduceMul, Nat.reduceLeDiff, Nat.reduceSub, r77_0_go, r77_0U, r77_1_go, r77_1U, r77_2_go, r77_2U, r77_3_go, r77_3U, Option.getD_some, hb1, hb2, c1, c2, c3, h4, hx4, ht, htx, e1, e2, e3, Nat.le_refl]
  exact ⟨_, _, rfl, x12.trans x3, hw3, us, h1.keep (fun b hb hn => ⟨rfl, by omega⟩) hw3, h2.keep fun b c hb hc => ⟨hc, by omega⟩⟩
/-- datum.Find. -/
theorem findF_go (M n : Nat) (hM : M = n + 14) (L L' : Nat) (hL6 : L ≤ 6) (hL6' : L' ≤ 6) (d x : D) (hF : Fine M L d) (hFx : Fine M L' x) (lv xv : List Value) (h4 : lv.length = 4) (hx4 : xv.length = 4) (R X : Nat → Prop) (σ : FState) (hw : Wf σ) (hL : LaidR R σ (.agg lv.toArray) d) (hLx : LaidR (fun b => R b ∨ X b) σ (.agg xv.toArray) x) (hR : ∀ b, R b → b < σ.next ∧ ¬ X b) (hX : ∀ b, X b → b < σ.next) :
    Gives ((env (M + 9)).call 28 [.agg lv.toArray, .agg xv.toArray] none σ) σ fun w σ' => ∃ u, w = .tuple #[u, .int .i64 0] ∧ ResP x (d.pieces []) σ.next u σ' := by
  rw [env_call, enter28 _ _ _ _ (by simp), Sl_start]
  unfold run28
  have x1 : Ext σ ((σ.push (.cells lv TD) none).push (.cells xv TD) none) := ((Ext.refl _).push _ _).push _ _
  have hw1 := (hw.push (.cells lv TD) none).push (.cells xv TD) none
  have c1 : ((σ.push (.cells lv TD) none).push (.cells xv TD) none).cells σ.next = some lv := by rw [cells_push, if_neg (by rw [push_next]; omega), cells_push, if_pos rfl]; rfl
  have c2 : ((σ.push (.cells lv TD) none).push (.cells xv TD) none).cells (σ.next + 1) = some xv := by rw [cells_push, if_pos (by rw [push_next])]; rfl
  obtain ⟨_, σ2, e2, x2, hw2, u, rfl, hq⟩ := callLL (M + 5) 77 #[.pointer (some ⟨σ.next, 0, none⟩), .pointer (some ⟨σ.next + 1, 0, none⟩)] (resP_stays x (d.pieces [])) (fun base v σ ⟨us, h, _⟩ => h.one) _ hw1 fun σ' hx hw' =>
    find1 M n hM σ.next (σ.next + 1) L L' hL6 hL6' d x hF hFx lv xv h4 hx4 R X σ' hw' ((hx.cells (hw1.cells c1)).trans c1) ((hx.cells (hw1.cells c2)).trans c2) (hL.keep fun b cs hb hc => ⟨((x1.trans hx).cells (hw.cells hc)).trans hc, hb⟩) (hLx.keep fun b cs hb hc => ⟨((x1.trans hx).cells (hw.cells hc)).trans hc, hb⟩) (fun b hb => ⟨by have := (hR b hb).1; have := (x1.trans hx).next; omega, (hR b hb).2⟩) (fun b hb => by have := hX b hb; have := (x1.trans hx).next; omega)
  simp -implicitDefEqProofs only [go_sem, ↓reduceIte, Nat.reduceLT, Nat.reduceEqDiff, Nat.reduceAdd, Nat.reduceMul, Nat.reduceLeDiff, Nat.reduceSub, r28_0_go, r28_0U, r28_1_go, r28_1U, Option.getD_some, e2, List.getElem?_cons_zero, List.getElem?_cons_succ]
  exact ⟨_, _, rfl, x1.trans x2, hw2, u, rfl, (resP_stays x (d.pieces [])).keep _ _ _ _ _ hq hw2 (by simp only [push_next]; omega) fun b _ _ => rfl⟩
end Go.Proofs.YtodkeaoikjjneaaGreatDoor
/- plain.Copy. -/
namespace Go.Proofs.YtodkeaoikjjneaaGreatDoor
open Go Go.Eng
attribute [local congr] andThen_congr fops_congr fdraw_congr afterOp_congr drawF_congr
attribute [-go_sem] List.range_succ
theorem keepEach : keepOf nls 106 = [14, 15, 28] := by kernel_rfl
theorem makeSlice_go (e : TypeId) (bytes : Nat) (z : List Value) (n : Nat) (σ : FState) (h : n * (bytes + 1) ≤ 1000000000) : fmakeSlice e bytes z (.int .i64 (.ofNat n)) (.int .i64 (.ofNat n)) σ = .val (.slice (some ⟨σ.next, 0, none⟩) n n) (σ.push (.cells (reps n z) e) none) := by
  show cond (Nat.ble n n && Nat.ble (n * (bytes + 1)) 1000000000) _ _ = _
  rw [show Nat.ble n n = true by rw [Nat.ble_eq]; exact Nat.le_refl _, show Nat.ble (n * (bytes + 1)) 1000000000 = true by rw [Nat.ble_eq]; exact h]
  rfl
theorem reps_length (n : Nat) (z : List Value) : (reps n z).length = n * z.length := by
  induction n with
  | zero => simp [reps_zero]
  | succ n ih => rw [reps_succ, List.length_append, ih, Nat.succ_mul]; omega
def CopyAt (m : Nat) (d : D) : Prop := ∀ (lv : List Value) (R : Nat → Prop) (σ : FState), Wf σ → LaidR R σ (.agg lv.toArray) d → Gives ((env m).call 69 [.agg lv.toArray] none σ) σ fun w σ' => LaidR (fun b => σ.next ≤ b) σ' w d
structure HeadEa (bo base : Nat) (R : Nat → Prop) (q : Option Addr) (c : Nat) (ds : List D) (σ0 : FState) (i : Nat) (f g : Nat → Value) (σ : FState) : Prop where
  f0 : f 0 = .slice q ds.length c
  f1 : f 1 = .func (.func 69) #[] #[]
  f5 : f 5 = .slice (some ⟨bo, 0, none⟩) ds.length ds.length
  g14 : g 14 = .int .i64 (.ofNat ds.length)
  g15 : g 15 = .int .i64 (.ofNat i)
  cs : ∃ done rest ver, σ.heap.get bo = some ⟨.cells (done ++ rest) TD, false, none, ver⟩ ∧ Row (fun b => base ≤ b ∧ b ≠ bo) σ done (ds.take i) ∧ rest.length = (ds.length - i) * 4
  hbo : base ≤ bo
  lay : LaidRE R σ q 0 ds
  low : ∀ b, R b → b < base
  wf : Wf σ
  ext : Ext σ0 σ
  le : i ≤ ds.length
theorem each_loop (m : Nat) {bo base : Nat} {R : Nat → Prop} {q : Option Addr} {c : Nat} {ds : List D} {σ0 : FState} (hC : ∀ d ∈ ds, CopyAt m d) (hb0 : σ0.next = base) (hfew : ds.length < 1000000) :
    ∀ (j fuel i : Nat) (f g : Nat → Value) (σ : FState), i + j = ds.length → j < fuel → HeadEa bo base R q c ds σ0 i f g σ →
    ∃ f' g' σ', floop [14, 15, 28] (l106_0 (env m) none 106) fuel (Sl 7 29 f g []) none σ = .done (.exit 0) (Sl 7 29 f' g' []) none σ' ∧ HeadEa bo base R q c ds σ0 ds.length f' g' σ' := by
  intro j
  induction j with
  | zero =>
    intro fuel i f g σ hij hf h
    obtain ⟨fuel, rfl⟩ : ∃ q, fuel = q + 1 := ⟨fuel - 1, by omega⟩
    obtain rfl : i = ds.length := by omega
    have d1 : decide (Int.ofNat ds.length < Int.ofNat ds.length) = false := by simp
    rw [floop_step, Sl_forget]
    unfold l106_0
    simp -implicitDefEqProofs only [go_sem, ↓reduceIte, Nat.reduceLT, Nat.reduceEqDiff, Nat.reduceAdd, Nat.reduceMul, Nat.reduceLeDiff, Nat.reduceSub, r106_5_go, r106_5U, h.g14, h.g15, d1, List.mem_cons]
    refine ⟨_, _, _, rfl, { h with g14 := ?_, g15 := ?_ }⟩
    · simp -implicitDefEqProofs only [upd_go, kept_go, ↓reduceIte, Nat.reduceEqDiff, Nat.reduceLT, reduceCtorEq, h.g14, List.mem_cons, true_or, or_true]
    · simp -implicitDefEqProofs only [upd_go, kept_go, ↓reduceIte, Nat.reduceEqDiff, Nat.reduceLT, reduceCtorEq, h.g15, List.mem_cons, true_or, or_true]
  | succ j ih =>
    intro fuel i f g σ hij hf h
    obtain ⟨fuel, rfl⟩ : ∃ q, fuel = q + 1 := ⟨fuel - 1, by omega⟩
    have hi : i < ds.length := by omega
    have d1 : decide (Int.ofNat i < Int.ofNat ds.length) = true := by simp; omega
    have hd : ds[i]? = some ds[i] := List.getElem?_eq_getElem hi
    obtain ⟨b, off, cs, rfl, hRb, hcs, hle, hL⟩ := LaidRE.get h.lay hd
    rw [Nat.zero_add] at hle hL
    obtain ⟨done, rest, ver, hg, hr, hrl⟩ := h.cs
    obtain ⟨w, σ1, e1, x1, hw1, hL1⟩ := hC _ (List.getElem_mem hi) ((cs.drop (off + i * 4)).take 4) R σ h.wf hL
    obtain ⟨l4, rfl, hl4, hone⟩ := hL1.agg
    have hbn := (h.wf _ _ hg).1
    have hg1 := (x1.get bo hbn).trans hg
    have hdl : done.length = i * 4 := by rw [hr.1, List.length_take]; omega
    have w1 := add1 i (by omega)
    have hr4 : 4 ≤ rest.length := by rw [hrl]; omega
    have e4 : ((done ++ rest).take (i * 4) ++ l4 ++ (done ++ rest).drop (i * 4 + 4)) = (done ++ l4) ++ rest.drop 4 := by
      rw [← hdl, List.take_left', List.drop_append]
      · simp [List.drop_eq_nil_of_le]
      · rfl
    have hlen : i * 4 + 4 ≤ (done ++ rest).length := by rw [List.length_append, hdl]; omega
    rw [floop_step, Sl_forget]
    unfold l106_0
    simp -implicitDefEqProofs only [go_sem, ↓reduceIte, Nat.reduceLT, Nat.reduceEqDiff, Nat.reduceAdd, Nat.reduceMul, Nat.reduceLeDiff, Nat.reduceSub, fstoreN, r106_5_go, r106_5U, r106_6_go, r106_6U, r106_7_go, r106_7U, r106_8_go, r106_8U, h.f0, h.f1, h.f5, h.g14, h.g15, d1, hi, hcs, hle, e1, hg1, hl4, hone, hlen, e4, w1, List.mem_cons]
    generalize hff : upd _ 6 _ = f1
    generalize hgg : upd _ 15 _ = g1
    have n1 := x1.next
    have hbase : base ≤ σ.next := by have := h.ext.next; omega
    have hbo := h.hbo
    have kc : ∀ (o : FObj) b cs, σ1.cells b = some cs → b ≠ bo → (σ1.put bo o none).cells b = some cs := fun o b cs hc hb => by rw [cells_put, if_neg hb]; exact hc
    exact ih fuel (i + 1) f1 g1 _ (by omega) (by omega) {
      f0 := by rw [← hff]; simp -implicitDefEqProofs only [upd_go, kept_go, ↓reduceIte, Nat.reduceEqDiff, Nat.reduceLT, reduceCtorEq, h.f0]
      f1 := by rw [← hff]; simp -implicitDefEqProofs only [upd_go, kept_go, ↓reduceIte, Nat.reduceEqDiff, Nat.reduceLT, reduceCtorEq, h.f1]
      f5 := by rw [← hff]; simp -implicitDefEqProofs only [upd_go, kept_go, ↓reduceIte, Nat.reduceEqDiff, Nat.reduceLT, reduceCtorEq, h.f5]
      g14 := by rw [← hgg]; simp -implicitDefEqProofs only [upd_go, kept_go, ↓reduceIte, Nat.reduceEqDiff, Nat.reduceLT, reduceCtorEq, h.g14, List.mem_cons, true_or, or_true]
      g15 := by rw [← hgg]; simp -implicitDefEqProofs only [upd_go, kept_go, ↓reduceIte, Nat.reduceEqDiff, Nat.reduceLT, reduceCtorEq]
      cs := ⟨done ++ l4, rest.drop 4, _, by rw [put_get, if_pos rfl], by
        rw [List.take_add_one, hd]
        exact (hr.keep fun b cs hb hc => ⟨kc _ b cs ((x1.cells (h.wf.cells hc)).trans hc) hb.2, hb⟩).snoc hl4 hone (hL1.keep fun b cs hb hc => ⟨kc _ b cs hc (by omega), by omega, by omega⟩), by rw [List.length_drop, hrl]; omega⟩
      hbo := h.hbo
      lay := h.lay.keep fun b cs hb hc => ⟨kc _ b cs ((x1.cells (h.wf.cells hc)).trans hc) (by have := h.low b hb; omega), hb⟩
      low := h.low
      wf := hw1.put _ _ _ (by omega)
      ext := (h.ext.trans x1).put _ _ _ (by omega)
      le := hi }
theorem each_step (m : Nat) (ds : List D) (hC : ∀ d ∈ ds, CopyAt m d) (hfew : ds.length < 1000000) (q : Option Addr) (c : Nat) (R : Nat → Prop) (σ : FState) (hw : Wf σ) (hE : LaidRE R σ q 0 ds) :
    Gives ((env (m + 1)).call 106 [.slice q ds.length c, .func (.func 69) #[] #[]] none σ) σ fun w σ' => ∃ q' c', w = .slice q' ds.length c' ∧ LaidRE (fun b => σ.next ≤ b) σ' q' 0 ds := by
  rw [env_call, enter106 _ _ _ _ (by simp), Sl_start]
  unfold run106
  cases hz : (Int.ofNat ds.length == (0 : Int)) with
  | true =>
    have h0 : ds = [] := by
      have := Int.ofNat.inj (eq_of_beq hz)
      exact List.length_eq_zero_iff.1 this
    subst h0
    simp -implicitDefEqProofs only [go_sem, ↓reduceIte, Nat.reduceLT, Nat.reduceEqDiff, Nat.reduceAdd, Nat.reduceMul, Nat.reduceLeDiff, Nat.reduceSub, r106_0_go, r106_0U, r106_1_go, r106_1U, r106_2_go, r106_2U, Option.getD_some, hz]
    exact ⟨_, _, rfl, Ext.refl _, hw, none, 0, rfl, trivial⟩
  | false =>
    have hmk := fun σ => makeSlice_go 28 56 [.int .i64 0, .int .i64 0, .string ⟨#[]⟩, .slice none 0 0] ds.length σ (by omega)
    simp -implicitDefEqProofs only [go_sem, ↓reduceIte, Nat.reduceLT, Nat.reduceEqDiff, Nat.reduceAdd, Nat.reduceMul, Nat.reduceLeDiff, Nat.reduceSub, r106_0_go, r106_0U, r106_1_go, r106_1U, r106_3_go, r106_3U, r106_4_go, r106_4U, Option.getD_some, hz, hmk, keepEach]
    generalize hff : upd _ 5 _ = f1
    generalize hgg : upd _ 15 _ = g1
    generalize hbf : bigFuel = fuel
    obtain ⟨f2, g2, σ2, e2, h2⟩ := each_loop m (bo := σ.next) (base := σ.next) (R := fun b => R b ∧ b < σ.next) (q := q) (c := c) (σ0 := σ) hC rfl hfew ds.length fuel 0 f1 g1 (σ.push (.cells (reps ds.length [.int .i64 0, .int .i64 0, .string ⟨#[]⟩, .slice none 0 0]) TD) none) (by omega) (by rw [← hbf]; show ds.length < 1000000000000; omega) {
      f0 := by rw [← hff]; simp -implicitDefEqProofs only [upd_go, kept_go, ↓reduceIte, Nat.reduceEqDiff, Nat.reduceLT, reduceCtorEq, List.getElem?_cons_zero, List.getElem?_cons_succ, Option.getD_some]
      f1 := by rw [← hff]; simp -implicitDefEqProofs only [upd_go, kept_go, ↓reduceIte, Nat.reduceEqDiff, Nat.reduceLT, reduceCtorEq, List.getElem?_cons_zero, List.getElem?_cons_succ, Option.getD_some]
      f5 := by rw [← hff]; simp -implicitDefEqProofs only [upd_go, kept_go, ↓reduceIte, Nat.reduceEqDiff, Nat.reduceLT, reduceCtorEq]
      g14 := by rw [← hgg]; simp -implicitDefEqProofs only [upd_go, kept_go, ↓reduceIte, Nat.reduceEqDiff, Nat.reduceLT, reduceCtorEq]
      g15 := by rw [← hgg]; simp -implicitDefEqProofs only [upd_go, kept_go, ↓reduceIte, Nat.reduceEqDiff, Nat.reduceLT, reduceCtorEq] <;> rfl
      cs := ⟨[], reps ds.length [.int .i64 0, .int .i64 0, .string ⟨#[]⟩, .slice none 0 0], σ.clock, by rw [push_get, if_pos rfl]; rfl, Row.nil _ _, by rw [reps_length]; rfl⟩
      hbo := Nat.le_refl _
      lay := hE.keep fun b cs hb hc => ⟨by rw [cells_push, if_neg (by have := hw.cells hc; omega)]; exact hc, hb, hw.cells hc⟩
      low := fun b hb => hb.2
      wf := hw.push _ _
      ext := (Ext.refl _).push _ _
      le := Nat.zero_le _ }
    rw [e2]
    simp -implicitDefEqProofs only [go_sem, ↓reduceIte, Nat.reduceLT, Nat.reduceEqDiff, Nat.reduceAdd, Nat.reduceMul, Nat.reduceLeDiff, Nat.reduceSub, r106_9_go, r106_9U, h2.f5]
    obtain ⟨done, rest, ver, hg, hr, hrl⟩ := h2.cs
    rw [List.take_length] at hr
    have hrest : rest = [] := List.length_eq_zero_iff.1 (by rw [hrl]; omega)
    subst hrest
    rw [List.append_nil] at hg
    exact ⟨_, _, rfl, h2.ext, h2.wf, _, _, rfl, hr.elems (cells_of_get hg) (Nat.le_refl _) (fun c hc => hc.1) 0 ds fun j e he => by rwa [Nat.zero_add]⟩
theorem copy_step (m : Nat) (k z : Int) (t : ByteArray) (ds : List D) (hC : ∀ d ∈ ds, CopyAt m d) (hfew : ds.length < 1000000) : CopyAt (m + 2) (.mk k z t ds) := by
  intro lv R σ hw hL
  obtain ⟨q, c, hv, hE⟩ := hL
  have hlv : lv = [.int .i64 k, .int .i64 z, .string t, .slice q ds.length c] := by
    have := Value.agg.inj hv
    simpa using congrArg Array.toList this
  subst hlv
  rw [env_call, enter69 _ _ _ _ (by simp), Sl_start]
  unfold run69
  have x1 : Ext σ ((σ.push (.cells [.int .i64 k, .int .i64 z, .string t, .slice q ds.length c] TD) none).push (.cells [.int .i64 0, .int .i64 0, .string ⟨#[]⟩, .slice none 0 0] TD) none) := ((Ext.refl _).push _ _).push _ _
  have hw1 := (hw.push (.cells [.int .i64 k, .int .i64 z, .string t, .slice q ds.length c] TD) none).push (.cells [.int .i64 0, .int .i64 0, .string ⟨#[]⟩, .slice none 0 0] TD) none
  have c1 : ((σ.push (.cells [.int .i64 k, .int .i64 z, .string t, .slice q ds.length c] TD) none).push (.cells [.int .i64 0, .int .i64 0, .string ⟨#[]⟩, .slice none 0 0] TD) none).cells σ.next = some [.int .i64 k, .int .i64 z, .string t, .slice q ds.length c] := by rw [cells_push, if_neg (by rw [push_next]; omega), cells_push, if_pos rfl]; rfl
  have g2 : ((σ.push (.cells [.int .i64 k, .int .i64 z, .string t, .slice q ds.length c] TD) none).push (.cells [.int .i64 0, .int .i64 0, .string ⟨#[]⟩, .slice none 0 0] TD) none).heap.get (σ.next + 1) = some ⟨.cells [.int .i64 0, .int .i64 0, .string ⟨#[]⟩, .slice none 0 0] TD, false, none, σ.clock + 1⟩ := by rw [push_get, if_pos (by rw [push_next])]; rfl
  have kc : ((σ.push (.cells [.int .i64 k, .int .i64 z, .string t, .slice q ds.length c] TD) none).push (.cells [.int .i64 0, .int .i64 0, .string ⟨#[]⟩, .slice none 0 0] TD) none).clock = σ.clock + 2 := rfl
  have kn : ((σ.push (.cells [.int .i64 k, .int .i64 z, .string t, .slice q ds.length c] TD) none).push (.cells [.int .i64 0, .int .i64 0, .string ⟨#[]⟩, .slice none 0 0] TD) none).next = σ.next + 2 := rfl
  simp -implicitDefEqProofs only [go_sem, ↓reduceIte, Nat.reduceLT, Nat.reduceEqDiff, Nat.reduceAdd, Nat.reduceMul, Nat.reduceLeDiff, Nat.reduceSub, r69_0_go, r69_0U, Option.getD_some]
  generalize FState.push (FState.push σ _ _) _ _ = σ1 at x1 hw1 c1 g2 kc kn ⊢
  have hv1 := view_wf hw1 (lam := σ.clock + 2) (by omega)
  obtain ⟨_, σ2, e2, x2, hw2, q', c', rfl, hE'⟩ := each_step m ds hC hfew q c R σ1 hw1 (hE.keep fun b cs hb hc => ⟨(x1.cells (hw.cells hc)).trans hc, hb⟩)
  have c2 : (view σ2 (σ.clock + 2)).cells σ.next = some [.int .i64 k, .int .i64 z, .string t, .slice q ds.length c] := view_old hw1 (by omega) (x2.get _ (hw1.cells c1)) c1
  have g2' := (x2.get _ (hw1 _ _ g2).1).trans g2
  simp -implicitDefEqProofs only [go_sem, ↓reduceIte, Nat.reduceLT, Nat.reduceEqDiff, Nat.reduceAdd, Nat.reduceMul, Nat.reduceLeDiff, Nat.reduceSub, fstoreN, r69_1_go, r69_1U, hv1, c1, e2, c2, g2', fleave_nil, fresults_nil, fresults_cons, fresult_cell, aggDatum]
  have n2 := x2.next
  exact ⟨_, _, rfl, (x1.trans x2).put _ _ _ (by omega), hw2.put _ _ _ (by omega), q', c', rfl, hE'.keep fun b cs hb hc => ⟨by rw [cells_put, if_neg (by omega)]; exact hc, by omega⟩⟩
theorem copy_go (n : Nat) : ∀ (N : Nat) (d : D), D.deep d ≤ N → d.count < 1000000 → CopyAt (n + 2 * N) d
  | 0, d, h, _ => by cases d; rw [D.deep] at h; omega
  | N + 1, .mk k z t ds, h, hc => by
    rw [D.deep] at h
    rw [D.count] at hc
    have := length_counts ds
    exact copy_step (n + 2 * N) k z t ds (fun d hd => copy_go n N d (by have := deeps_mem hd; omega) (by have := count_mem hd; omega)) (by omega)
end Go.Proofs.YtodkeaoikjjneaaGreatDoor
/- datum.At. -/
namespace Go.Proofs.YtodkeaoikjjneaaGreatDoor
open Go Go.Eng
attribute [local congr] andThen_congr fops_congr fdraw_congr afterOp_congr drawF_congr
attribute [-go_sem] List.range_succ
theorem keepPlace : keepOf nls 73 = [7, 8, 9, 32] := by kernel_rfl
theorem field3 {cs : List Value} {off : Nat} {a b c e : Value} (h : (cs.drop off).take 4 = [a, b, c, e]) : cs[off + 3]? = some e := by
  have : ((cs.drop off).take 4)[3]? = some e := by rw [h]; rfl
  rw [List.getElem?_take, if_pos (by omega), List.getElem?_drop] at this
  exact this
structure HeadPl (a : Option Addr) (plen cx i b off : Nat) (f g : Nat → Value) : Prop where
  f0 : f 0 = .pointer (some ⟨b, off, none⟩)
  g7 : g 7 = .slice a plen cx
  g8 : g 8 = .int .i64 (.ofNat plen)
  g9 : g 9 = .int .i64 (.ofNat i)
theorem place_loop (E : Env) {a : Option Addr} {cx : Nat} {path : List Nat} {R : Nat → Prop} {σ : FState} (hs : path.length < 100000) (x : D) (hp : path ≠ [] → ∃ b rest, a = some ⟨b, 0, none⟩ ∧ σ.cells b = some (intsOf path ++ rest)) :
    ∀ (j fuel i : Nat) (f g : Nat → Value) (d : D) (b off : Nat) (cs : List Value), i + j = path.length → j < fuel → atP (path.drop i) d = some x → d.count < 100000 → σ.cells b = some cs → 4 ≤ cs.length - off → LaidR R σ (.agg ((cs.drop off).take 4).toArray) d → HeadPl a path.length cx i b off f g →
    ∃ f' g' b off cs, floop [7, 8, 9, 32] (l73_0 E none 73) fuel (Sl 7 33 f g []) none σ = .done (.exit 0) (Sl 7 33 f' g' []) none σ ∧ f' 0 = .pointer (some ⟨b, off, none⟩) ∧ σ.cells b = some cs ∧ 4 ≤ cs.length - off ∧ LaidR R σ (.agg ((cs.drop off).take 4).toArray) x := by
  intro j
  induction j with
  | zero =>
    intro fuel i f g d b off cs hij hf hx _ hc hle hL h
    obtain ⟨fuel, rfl⟩ : ∃ q, fuel = q + 1 := ⟨fuel - 1, by omega⟩
    obtain rfl : i = path.length := by omega
    rw [List.drop_length, atP] at hx
    obtain rfl := Option.some.inj hx
    have d1 : decide (Int.ofNat path.length < Int.ofNat path.length) = false := by simp
    rw [floop_step, Sl_forget]
    unfold l73_0
    simp -implicitDefEqProofs only [go_sem, ↓reduceIte, Nat.reduceLT, Nat.reduceEqDiff, Nat.reduceAdd, Nat.reduceMul, Nat.reduceLeDiff, Nat.reduceSub, r73_2_go, r73_2U, h.g8, h.g9, d1, List.mem_cons]
    exact ⟨_, _, b, off, cs, rfl, h.f0, hc, hle, hL⟩
  | succ j ih =>
    intro fuel i f g d b off cs hij hf hx hN hc hle hL h
    obtain ⟨fuel, rfl⟩ : ∃ q, fuel = q + 1 := ⟨fuel - 1, by omega⟩
    have hi : i < path.length := by omega
    have d1 : decide (Int.ofNat i < Int.ofNat path.length) = true := by simp; omega
    obtain ⟨bp, rest, rfl, hcp⟩ := hp (fun h => by rw [h] at hi; simp at hi)
    have g1 := intsOf_get rest hi
    have w3 := add1 i (by omega)
    have hdr : path.drop i = path[i] :: path.drop (i + 1) := List.drop_eq_getElem_cons hi
    obtain ⟨k, z, t, ds⟩ := d
    obtain ⟨q, c, hv, hE⟩ := hL
    have hv' : (cs.drop off).take 4 = [.int .i64 k, .int .i64 z, .string t, .slice q ds.length c] := by
      have := Value.agg.inj hv
      simpa using congrArg Array.toList this
    have hf3 := field3 hv'
    rw [hdr, atP] at hx
    simp only [D.parts] at hx
    cases hd : ds[path[i]]? with
    | none => rw [hd] at hx; cases hx
    | some d' =>
      rw [hd] at hx
      simp only at hx
      have hpi := (List.getElem?_eq_some_iff.1 hd).1
      obtain ⟨b', off', cs', rfl, hRb, hcs', hle', hL'⟩ := LaidRE.get hE hd
      rw [Nat.zero_add] at hle' hL'
      have e0 : decide (Int.ofNat path[i] < 0) = false := by simp
      have e1 : decide (Int.ofNat path[i] ≥ Int.ofNat ds.length) = false := by simp; omega
      rw [floop_step, Sl_forget]
      unfold l73_0
      simp -implicitDefEqProofs only [go_sem, ↓reduceIte, Nat.reduceLT, Nat.reduceEqDiff, Nat.reduceAdd, Nat.reduceMul, Nat.reduceLeDiff, Nat.reduceSub, r73_2_go, r73_2U, r73_3_go, r73_3U, r73_4_go, r73_4U, r73_6_go, r73_6U, r73_7_go, r73_7U, h.f0, h.g7, h.g8, h.g9, d1, hi, hcp, g1, hc, hf3, e0, e1, hpi, w3, List.mem_cons]
      generalize hff : upd _ 0 _ = f1
      generalize hgg : upd _ 9 _ = gg
      exact ih fuel (i + 1) f1 gg d' b' (off' + path[i] * 4) cs' (by omega) (by omega) hx (by have := count_mem (List.mem_of_getElem? hd); rw [D.count] at hN; omega) hcs' (by omega) hL' {
        f0 := by rw [← hff]; simp -implicitDefEqProofs only [upd_go, kept_go, ↓reduceIte, Nat.reduceEqDiff, Nat.reduceLT, reduceCtorEq]
        g7 := by rw [← hgg]; simp -implicitDefEqProofs only [upd_go, kept_go, ↓reduceIte, Nat.reduceEqDiff, Nat.reduceLT, reduceCtorEq, h.g7, List.mem_cons, true_or, or_true]
        g8 := by rw [← hgg]; simp -implicitDefEqProofs only [upd_go, kept_go, ↓reduceIte, Nat.reduceEqDiff, Nat.reduceLT, reduceCtorEq, h.g8, List.mem_cons, true_or, or_true]
        g9 := by rw [← hgg]; simp -implicitDefEqProofs only [upd_go, kept_go, ↓reduceIte, Nat.reduceEqDiff, Nat.reduceLT, reduceCtorEq] }
theorem place_go (n : Nat) {path : List Nat} {pv : Value} {R Q : Nat → Prop} {σ : FState} (hs : path.length < 100000) {d x : D} (hP : PathV Q σ pv path) {b off : Nat} {cs : List Value} (hx : atP path d = some x) (hN : d.count < 100000) (hc : σ.cells b = some cs) (hle : 4 ≤ cs.length - off) (hL : LaidR R σ (.agg ((cs.drop off).take 4).toArray) d) :
    ∃ b' off' cs', (env (n + 1)).call 73 [.pointer (some ⟨b, off, none⟩), pv] none σ = .ret (.pointer (some ⟨b', off', none⟩)) none σ ∧ σ.cells b' = some cs' ∧ 4 ≤ cs'.length - off' ∧ LaidR R σ (.agg ((cs'.drop off').take 4).toArray) x := by
  obtain ⟨a, cx, rfl, k1⟩ := pathV_slice hP
  rw [env_call, enter73 _ _ _ _ (by simp), Sl_start]
  unfold run73
  simp -implicitDefEqProofs only [go_sem, ↓reduceIte, Nat.reduceLT, Nat.reduceEqDiff, Nat.reduceAdd, Nat.reduceMul, Nat.reduceLeDiff, Nat.reduceSub, r73_0_go, r73_0U, r73_1_go, r73_1U, Option.getD_some, keepPlace]
  generalize hff : upd _ 4 _ = f1
  generalize hgg : upd _ 9 _ = g1
  generalize hbf : bigFuel = fuel
  obtain ⟨f2, g2, b', off', cs', e2, h1, h2, h3, h4⟩ := place_loop (env n) (a := a) (cx := cx) (σ := σ) hs x (fun h => by obtain ⟨b, r, x, _, y⟩ := k1 h; exact ⟨b, r, x, y⟩) path.length fuel 0 f1 g1 d b off cs (by omega) (by rw [← hbf]; show path.length < 1000000000000; omega) hx hN hc hle hL {
    f0 := by rw [← hff]; simp -implicitDefEqProofs only [upd_go, kept_go, ↓reduceIte, Nat.reduceEqDiff, Nat.reduceLT, reduceCtorEq, List.getElem?_cons_zero, List.getElem?_cons_succ, Option.getD_some]
    g7 := by rw [← hgg]; simp -implicitDefEqProofs only [upd_go, kept_go, ↓reduceIte, Nat.reduceEqDiff, Nat.reduceLT, reduceCtorEq]
    g8 := by rw [← hgg]; simp -implicitDefEqProofs only [upd_go, kept_go, ↓reduceIte, Nat.reduceEqDiff, Nat.reduceLT, reduceCtorEq]
    g9 := by rw [← hgg]; simp -implicitDefEqProofs only [upd_go, kept_go, ↓reduceIte, Nat.reduceEqDiff, Nat.reduceLT, reduceCtorEq] <;> rfl }
  rw [e2]
  simp -implicitDefEqProofs only [go_sem, ↓reduceIte, Nat.reduceLT, Nat.reduceEqDiff, Nat.reduceAdd, Nat.reduceMul, Nat.reduceLeDiff, Nat.reduceSub, r73_8_go, r73_8U, h1]
  exact ⟨_, _, _, rfl, h2, h3, h4⟩
theorem deferredAtD (n : Nat) (p q : Value) (σ : FState) : (env (n + 1)).call 125 [p, q] (some .returning) σ = .ret (.tuple #[]) (some .returning) σ := by
  rw [env_defer, enter125 _ _ _ _ (by simp), Sl_start]
  unfold run125
  simp -implicitDefEqProofs only [go_sem, ↓reduceIte, Nat.reduceLT, Nat.reduceEqDiff, Nat.reduceAdd, Nat.reduceMul, Nat.reduceLeDiff, Nat.reduceSub, r125_0_go, r125_0U, r125_3_go, r125_3U, r125_4_go, r125_4U, nilAny]
theorem callAtD (n w : Nat) (cap : Array Value) (x : D) (σ : FState) (hw : Wf σ)
    (h : ∀ σ', Ext σ σ' → Wf σ' → Gives ((env (n + 1)).call w cap.toList none σ') σ' fun v σ'' => LaidR (fun b => σ'.next ≤ b) σ'' v x) :
    Gives ((env (n + 2)).call 100 [.func (.func w) #[] cap] none σ) σ fun v σ' => ∃ u, v = .tuple #[u, .int .i64 0, .int .i64 0] ∧ LaidR (fun b => σ.next ≤ b) σ' u x := by
  rw [env_call, enter100 _ _ _ _ (by simp), Sl_start]
  unfold run100
  have hX1 : Ext σ (((σ.push (.cells [.int .i64 0, .int .i64 0, .string ⟨#[]⟩, .slice none 0 0] TD) none).push (.cells [.int .i64 0] 3) none).push (.cells [.int .i64 0] 32) none) := (((Ext.refl _).push _ _).push _ _).push _ _
  have hw1 := ((hw.push (.cells [.int .i64 0, .int .i64 0, .string ⟨#[]⟩, .slice none 0 0] TD) none).push (.cells [.int .i64 0] 3) none).push (.cells [.int .i64 0] 32) none
  obtain ⟨_, σ2, e2, hX2, hw2, hq⟩ := h _ hX1 hw1
  obtain ⟨k, z, t, ds⟩ := x
  obtain ⟨q, c, rfl, hE⟩ := hq
  have g0 : σ2.heap.get σ.next = _ := (hX2.get σ.next (by simp only [push_next]; omega)).trans (by simp -implicitDefEqProofs only [push_get, push_next, Nat.add_assoc, Nat.reduceAdd, Nat.left_eq_add, reduceCtorEq, ↓reduceIte, Nat.reduceEqDiff] <;> rfl)
  have g1 : σ2.heap.get (σ.next + 1) = _ := (hX2.get (σ.next + 1) (by simp only [push_next]; omega)).trans (by simp -implicitDefEqProofs only [push_get, push_next, Nat.add_assoc, Nat.reduceAdd, Nat.add_left_cancel_iff, reduceCtorEq, ↓reduceIte, Nat.reduceEqDiff] <;> rfl)
  have g2 : σ2.heap.get (σ.next + 2) = _ := (hX2.get (σ.next + 2) (by simp only [push_next]; omega)).trans (by simp -implicitDefEqProofs only [push_get, push_next, Nat.add_assoc, Nat.reduceAdd, Nat.add_left_cancel_iff, reduceCtorEq, ↓reduceIte, Nat.reduceEqDiff] <;> rfl)
  simp -implicitDefEqProofs only [go_sem, ↓reduceIte, Nat.reduceLT, Nat.reduceEqDiff, Nat.reduceAdd, Nat.reduceMul, Nat.reduceLeDiff, Nat.reduceSub, fstoreN, r100_0_go, r100_0U, r100_1_go, r100_1U, r100_2_go, r100_2U, Option.getD_some, e2, g0, g1, g2, aggDatum, aggInt, aggErrno, deferredAtD, fleave_nil, fresults_nil, fresults_cons, fresult_cell]
  have m0 := (hw2 _ _ g0).1
  have m1 := (hw2 _ _ g1).1
  have m2 := (hw2 _ _ g2).1
  exact ⟨_, _, rfl, (((hX1.trans hX2).put _ _ _ (Nat.le_refl _)).put _ _ _ (Nat.le_add_right _ _)).put _ _ _ (Nat.le_add_right _ _), ((hw2.put _ _ _ m0).put _ _ _ m1).put _ _ _ m2, _, rfl, q, c, rfl, hE.keep fun b cs hb hc => by
    simp only [push_next] at hb
    exact ⟨by rw [cells_put, if_neg (by omega), cells_put, if_neg (by omega), cells_put, if_neg (by omega)]; exact hc, by omega⟩⟩
theorem callD (n w : Nat) (cap : Array Value) (x : D) (σ : FState) (hw : Wf σ)
    (h : ∀ σ', Ext σ σ' → Wf σ' → Gives ((env (n + 1)).call w cap.toList none σ') σ' fun v σ'' => LaidR (fun b => σ'.next ≤ b) σ'' v x) :
    Gives ((env (n + 3)).call 58 [.func (.func w) #[] cap] none σ) σ fun v σ' => ∃ u, v = .tuple #[u, .int .i64 0] ∧ LaidR (fun b => σ.next ≤ b) σ' u x := by
  rw [env_call, enter58 _ _ _ _ (by simp), Sl_start]
  unfold run58
  have hX1 : Ext σ (σ.push (.cells [.int .i64 0, .int .i64 0, .string ⟨#[]⟩, .slice none 0 0] TD) none) := (Ext.refl _).push _ _
  obtain ⟨_, σ2, e2, hX2, hw2, u, rfl, hq⟩ := callAtD n w cap x _ (hw.push (.cells [.int .i64 0, .int .i64 0, .string ⟨#[]⟩, .slice none 0 0] TD) none) fun σ' hx hw' => h σ' (hX1.trans hx) hw'
  obtain ⟨k, z, t, ds⟩ := x
  obtain ⟨q, c, rfl, hE⟩ := hq
  have g0 : σ2.heap.get σ.next = _ := (hX2.get σ.next (Nat.lt_succ_self _)).trans (by rw [push_get, if_pos rfl])
  have m0 := (hw2 _ _ g0).1
  have hne : (σ.next = σ2.next) = False := by simp; omega
  have hne' : (σ2.next = σ.next) = False := by simp; omega
  simp -implicitDefEqProofs only [go_sem, ↓reduceIte, Nat.reduceLT, Nat.reduceEqDiff, Nat.reduceAdd, Nat.reduceMul, Nat.reduceLeDiff, Nat.reduceSub, fstoreN, r58_0_go, r58_0U, r58_1_go, r58_1U, r58_2_go, r58_2U, Option.getD_some, e2, g0, aggDatum, fleave_nil, fresults_nil, fresults_cons, fresult_cell, fresult_tmp, hne, hne', List.getElem?_cons_zero]
  exact ⟨_, _, rfl, (((hX1.trans hX2).push _ _).put _ _ _ (by have := (hX1.trans hX2).next; omega)).put _ _ _ (Nat.le_refl _), ((hw2.push _ _).put _ _ _ (Nat.lt_succ_self _)).put _ _ _ (by rw [put_next, push_next]; omega), _, rfl, q, c, rfl, hE.keep fun b cs hb hc => by
    have := hw2.cells hc
    simp only [push_next] at hb
    exact ⟨by rw [cells_put, if_neg (by omega), cells_put, if_neg (by omega), cells_push, if_neg (by omega)]; exact hc, by omega⟩⟩
theorem at1 (M n : Nat) (hM : M = n + 14) (bd bp : Nat) (L : Nat) (hL6 : L ≤ 6) (d x : D) (hF : Fine M L d) (lv : List Value) (h4 : lv.length = 4) (R Q : Nat → Prop) (path : List Nat) (pv : Value) (hs : path.length < 100000) (hx : atP path d = some x) (hxd : x.deep ≤ 7) (hxc : x.count < 100000) (σ : FState) (hw : Wf σ) (hb1 : σ.cells bd = some lv) (hb2 : σ.cells bp = some [pv]) (hL : LaidR R σ (.agg lv.toArray) d) (hP : PathV Q σ pv path) (hR : ∀ b, R b → b < σ.next) :
    Gives ((env (M + 6)).call 72 [.pointer (some ⟨bd, 0, none⟩), .pointer (some ⟨bp, 0, none⟩)] none σ) σ fun v σ' => LaidR (fun b => σ.next ≤ b) σ' v x := by
  have hf := hF.few hL6
  rw [env_call, enter72 _ _ _ _ (by simp), Sl_start]
  unfold run72
  have x0 : Ext σ (σ.push (.cells [.int .i64 0, .int .i64 0, .string ⟨#[]⟩, .slice none 0 0] TD) none) := (Ext.refl _).push _ _
  have hw0 := hw.push (.cells [.int .i64 0, .int .i64 0, .string ⟨#[]⟩, .slice none 0 0] TD) none
  have ne1 : (bd = σ.next) = False := by have := hw.cells hb1; simp; omega
  have ne2 : (bp = σ.next) = False := by have := hw.cells hb2; simp; omega
  obtain ⟨_, σ1, e1, x1, hw1, rfl⟩ := valid_go M d lv h4 R _ hw0 (hL.keep fun b cs hb hc => ⟨(x0.cells (hw.cells hc)).trans hc, hb⟩) (fun b hb => by have := hR b hb; rw [push_next]; omega) (hF.small hL6) (by omega) hF.good
  have x01 := x0.trans x1
  have c1 := (x01.cells (hw.cells hb1)).trans hb1
  have c2 := (x01.cells (hw.cells hb2)).trans hb2
  have ht : lv.take 4 = lv := List.take_of_length_le (by omega)
  have hL1 : LaidR R σ1 (.agg ((lv.drop 0).take 4).toArray) d := by
    rw [List.drop_zero, ht]
    exact hL.keep fun b cs hb hc => ⟨(x01.cells (hw.cells hc)).trans hc, hb⟩
  obtain ⟨b', off', cs', e2, hc', hle', hL'⟩ := place_go (M + 4) (Q := fun _ => True) (σ := σ1) hs (hP.keep fun b cs _ hc => ⟨(x01.cells (hw.cells hc)).trans hc, trivial⟩) hx (by rw [← pieces_length d []]; omega) c1 (by omega) hL1
  have hcp := copy_go (n + 5) 7 x hxd (by omega)
  rw [show n + 5 + 2 * 7 = M + 5 by omega] at hcp
  obtain ⟨_, σ2, e3, x2, hw2, hq⟩ := hcp ((cs'.drop off').take 4) R σ1 hw1 hL'
  obtain ⟨k, z, t, ds⟩ := x
  obtain ⟨q, c, rfl, hE⟩ := hq
  have g0 : σ2.heap.get σ.next = _ := ((x1.trans x2).get σ.next (Nat.lt_succ_self _)).trans (by rw [push_get, if_pos rfl])
  have m0 := (hw2 _ _ g0).1
  simp -implicitDefEqProofs only [go_sem, ↓reduceIte, Nat.reduceLT, Nat.reduceEqDiff, Nat.reduceAdd, Nat.reduceMul, Nat.reduceLeDiff, Nat.reduceSub, fstoreN, r72_0_go, r72_0U, r72_1_go, r72_1U, r72_2_go, r72_2U, Option.getD_some, hb1, hb2, ne1, ne2, c1, c2, h4, ht, e1, e2, e3, hc', hle', g0, aggDatum, fleave_nil, fresults_nil, fresults_cons, fresult_cell, Nat.le_refl]
  have n1 := x1.next
  rw [push_next] at n1
  exact ⟨_, _, rfl, (x01.trans x2).put _ _ _ (Nat.le_refl _), hw2.put _ _ _ m0, q, c, rfl, hE.keep fun b cs hb hc => ⟨by rw [cells_put, if_neg (by omega)]; exact hc, by omega⟩⟩
/-- datum.At. -/
theorem atD_go (M n : Nat) (hM : M = n + 14) (L : Nat) (hL6 : L ≤ 6) (d x : D) (hF : Fine M L d) (lv : List Value) (h4 : lv.length = 4) (R Q : Nat → Prop) (path : List Nat) (pv : Value) (hs : path.length < 100000) (hx : atP path d = some x) (hxd : x.deep ≤ 7) (hxc : x.count < 100000) (σ : FState) (hw : Wf σ) (hL : LaidR R σ (.agg lv.toArray) d) (hP : PathV Q σ pv path) (hR : ∀ b, R b → b < σ.next) :
    Gives ((env (M + 9)).call 23 [.agg lv.toArray, pv] none σ) σ fun w σ' => ∃ u, w = .tuple #[u, .int .i64 0] ∧ LaidR (fun b => σ.next ≤ b) σ' u x := by
  rw [env_call, enter23 _ _ _ _ (by simp), Sl_start]
  unfold run23
  obtain ⟨o1, o2, o3⟩ := hP.one
  have x1 : Ext σ (((σ.push (.cells lv TD) none).push (.cells [pv] 22) none).push (.cells [.int .i64 0, .int .i64 0, .string ⟨#[]⟩, .slice none 0 0] TD) none) := (((Ext.refl _).push _ _).push _ _).push _ _
  have hw1 := ((hw.push (.cells lv TD) none).push (.cells [pv] 22) none).push (.cells [.int .i64 0, .int .i64 0, .string ⟨#[]⟩, .slice none 0 0] TD) none
  have c1 : (((σ.push (.cells lv TD) none).push (.cells [pv] 22) none).push (.cells [.int .i64 0, .int .i64 0, .string ⟨#[]⟩, .slice none 0 0] TD) none).cells σ.next = some lv := by rw [cells_push, if_neg (by simp only [push_next]; omega), cells_push, if_neg (by rw [push_next]; omega), cells_push, if_pos rfl]; rfl
  have c2 : (((σ.push (.cells lv TD) none).push (.cells [pv] 22) none).push (.cells [.int .i64 0, .int .i64 0, .string ⟨#[]⟩, .slice none 0 0] TD) none).cells (σ.next + 1) = some [pv] := by rw [cells_push, if_neg (by simp only [push_next]; omega), cells_push, if_pos (by rw [push_next])]; rfl
  have g4 : (((σ.push (.cells lv TD) none).push (.cells [pv] 22) none).push (.cells [.int .i64 0, .int .i64 0, .string ⟨#[]⟩, .slice none 0 0] TD) none).heap.get (σ.next + 2) = some ⟨.cells [.int .i64 0, .int .i64 0, .string ⟨#[]⟩, .slice none 0 0] TD, false, none, σ.clock + 2⟩ := by rw [push_get, if_pos (by simp only [push_next])]; rfl
  obtain ⟨_, σ2, e2, x2, hw2, u, rfl, hq⟩ := callD (M + 5) 72 #[.pointer (some ⟨σ.next, 0, none⟩), .pointer (some ⟨σ.next + 1, 0, none⟩)] x _ hw1 fun σ' hx' hw' =>
    at1 M n hM σ.next (σ.next + 1) L hL6 d x hF lv h4 R (fun _ => True) path pv hs hx hxd hxc σ' hw' ((hx'.cells (hw1.cells c1)).trans c1) ((hx'.cells (hw1.cells c2)).trans c2) (hL.keep fun b cs hb hc => ⟨((x1.trans hx').cells (hw.cells hc)).trans hc, hb⟩) (hP.keep fun b cs _ hc => ⟨((x1.trans hx').cells (hw.cells hc)).trans hc, trivial⟩) (fun b hb => by have := hR b hb; have := (x1.trans hx').next; omega)
  obtain ⟨k, z, t, ds⟩ := x
  obtain ⟨q, c, rfl, hE⟩ := hq
  have g4' := (x2.get _ (hw1 _ _ g4).1).trans g4
  have m4 := (hw2 _ _ g4').1
  simp -implicitDefEqProofs only [go_sem, ↓reduceIte, Nat.reduceLT, Nat.reduceEqDiff, Nat.reduceAdd, Nat.reduceMul, Nat.reduceLeDiff, Nat.reduceSub, fstoreN, r23_0_go, r23_0U, r23_1_go, r23_1U, Option.getD_some, o1, o2, o3, e2, g4', aggDatum, fleave_nil, fresults_nil, fresults_cons, fresult_cell, fresult_tmp, List.getElem?_cons_zero, List.getElem?_cons_succ]
  exact ⟨_, _, rfl, (x1.trans x2).put _ _ _ (by omega), hw2.put _ _ _ m4, _, rfl, q, c, rfl, hE.keep fun b cs hb hc => by
    simp only [push_next] at hb
    exact ⟨by rw [cells_put, if_neg (by omega)]; exact hc, by omega⟩⟩
end Go.Proofs.YtodkeaoikjjneaaGreatDoor
/- Parts at paths; what is found, in order. -/
namespace Go.Proofs.YtodkeaoikjjneaaGreatDoor
open Go Go.Eng
mutual
theorem same_comm : ∀ (a b : D), D.same a b = D.same b a
  | .mk k n t ds, .mk k' n' t' ds' => by
    rw [show D.same (.mk k n t ds) (.mk k' n' t' ds') = (decide (k = k') && decide (n = n') && (t.toList == t'.toList) && D.sames ds ds') from rfl, show D.same (.mk k' n' t' ds') (.mk k n t ds) = (decide (k' = k) && decide (n' = n) && (t'.toList == t.toList) && D.sames ds' ds) from rfl, sames_comm ds ds']
    rw [show decide (k = k') = decide (k' = k) by simp [eq_comm], show decide (n = n') = decide (n' = n) by simp [eq_comm], show (t.toList == t'.toList) = (t'.toList == t.toList) from BEq.comm]
theorem sames_comm : ∀ (a b : List D), D.sames a b = D.sames b a
  | [], [] => rfl
  | [], _ :: _ => rfl
  | _ :: _, [] => rfl
  | a :: l, b :: r => by
    rw [show D.sames (a :: l) (b :: r) = (D.same a b && D.sames l r) from rfl, show D.sames (b :: r) (a :: l) = (D.same b a && D.sames r l) from rfl, same_comm a b, sames_comm l r]
end
mutual
theorem pieces_at : ∀ (d : D) (p : List Nat) (y : List Nat × D), y ∈ d.pieces p → ∃ r, y.1 = p ++ r ∧ atP r d = some y.2
  | .mk k z t ds, p, y, h => by
    rw [D.pieces] at h
    rcases List.mem_cons.1 h with rfl | h
    · exact ⟨[], by simp, rfl⟩
    · obtain ⟨j, r, d', h1, h2, h3⟩ := piecesL_at ds p 0 y h
      refine ⟨(0 + j) :: r, h1, ?_⟩
      rw [atP]
      simp only [D.parts]
      rw [Nat.zero_add, h2]
      exact h3
theorem piecesL_at : ∀ (ds : List D) (p : List Nat) (i : Nat) (y : List Nat × D), y ∈ D.piecesL p i ds → ∃ j r d', y.1 = p ++ (i + j) :: r ∧ ds[j]? = some d' ∧ atP r d' = some y.2
  | [], p, i, y, h => by simp [D.piecesL] at h
  | d :: ds, p, i, y, h => by
    rw [D.piecesL, List.mem_append] at h
    rcases h with h | h
    · obtain ⟨r, h1, h2⟩ := pieces_at d _ y h
      exact ⟨0, r, d, by rw [h1]; simp, rfl, h2⟩
    · obtain ⟨j, r, d', h1, h2, h3⟩ := piecesL_at ds p (i + 1) y h
      exact ⟨j + 1, r, d', by rw [h1, show i + 1 + j = i + (j + 1) by omega], by simpa using h2, h3⟩
end
theorem made_at : ∀ (path : List Nat) (L : Nat) (d x : D), Made L d → atP path d = some x → ∃ L', L' ≤ L ∧ Made L' x
  | [], L, d, x, hm, h => by
    rw [atP] at h
    cases h
    exact ⟨L, Nat.le_refl _, hm⟩
  | i :: path, L, .mk k z t ds, x, hm, h => by
    rw [atP] at h
    simp only [D.parts] at h
    cases hd : ds[i]? with
    | none => rw [hd] at h; cases h
    | some d' =>
      rw [hd] at h
      obtain ⟨L', h1, h2⟩ := made_at path (L - 1) d' x (Fine.part (m := 0) hm (List.mem_of_getElem? hd)) h
      exact ⟨L', by omega, h2⟩
theorem foundIn_append (x : D) (a b : List (List Nat × D)) : foundIn x (a ++ b) = foundIn x a ++ foundIn x b := by
  unfold foundIn
  rw [List.filter_append, List.map_append]
theorem foundIn_take (x : D) (l : List (List Nat × D)) (i : Nat) (y : List Nat × D) (h : l[i]? = some y) : foundIn x (l.take (i + 1)) = foundIn x (l.take i) ++ (if D.same y.2 x = true then [y.1] else []) := by
  rw [List.take_add_one, h]
  exact foundIn_snoc x _ y
/-- What is found next. -/
theorem foundIn_get (x : D) (l : List (List Nat × D)) (i : Nat) (y : List Nat × D) (h : l[i]? = some y) (hs : D.same y.2 x = true) : (foundIn x l)[(foundIn x (l.take i)).length]? = some y.1 := by
  have h1 : l = l.take (i + 1) ++ l.drop (i + 1) := (List.take_append_drop _ _).symm
  have h2 : foundIn x l = foundIn x (l.take i) ++ ([y.1] ++ foundIn x (l.drop (i + 1))) := by
    have := foundIn_take x l i y h
    rw [if_pos hs] at this
    rw [← List.append_assoc, ← this, ← foundIn_append, ← h1]
  rw [h2, List.getElem?_append_right (Nat.le_refl _), Nat.sub_self]
  rfl
theorem foundIn_le (x : D) (l : List (List Nat × D)) : (foundIn x l).length ≤ l.length := by
  unfold foundIn
  rw [List.length_map]
  exact List.length_filter_le _ _
theorem vecs_slice {T : TypeId} {Q : Nat → Prop} {σ : FState} {s : Value} {vs : List Value} (h : Vecs T Q σ s vs) : ∃ a c, s = .slice a vs.length c ∧ (vs ≠ [] → ∃ b, a = some ⟨b, 0, none⟩ ∧ σ.cells b = some vs) := by
  rcases h with ⟨rfl, rfl⟩ | ⟨b, h, _⟩
  · exact ⟨none, 0, rfl, fun h => absurd rfl h⟩
  · obtain ⟨h1, h2⟩ := h.cells
    exact ⟨_, _, h1, fun _ => ⟨b, rfl, h2⟩⟩
end Go.Proofs.YtodkeaoikjjneaaGreatDoor
/- Functions of the program, written out in the reading's words (made by program; the kernel holds each against the code). -/
namespace Go.Proofs.YtodkeaoikjjneaaGreatDoor
open Go Go.Eng
variable (E : Env) (ro : Option Nat) (last : List Nat → RunF) (cl : List Nat) (a : FAct) (u : Option FrameMode) (σ : FState)
/-! caracole/caracolelaw01.DatumFound -/
noncomputable def r5_0U (_ : Unit) : List COp := [⟨fun a σ => .val (.bool false) σ, (some 2), fun _ => some true⟩]
noncomputable def r5_0 : List COp := r5_0U ()
noncomputable def r5_1U (_ : Unit) : List COp := [⟨fun a σ => .val (a.get 0) σ, (some 13), fun _ => some true⟩,
  ⟨fun a σ => .enter 11 [(a.get 13)] σ, (some 14), fun _ => some true⟩,
  ⟨fun a σ => .val (a.get 14) σ, (some 3), fun _ => some true⟩]
noncomputable def r5_1 : List COp := r5_1U ()
noncomputable def r5_2U (_ : Unit) : List COp := [⟨fun a σ => .val (a.get 3) σ, (some 15), fun _ => some true⟩,
  ⟨fun a σ => .enter 13 [(a.get 15), (.int .i64 4)] σ, (some 16), fun _ => some true⟩,
  ⟨fun a σ => .val (a.get 3) σ, (some 17), fun _ => some true⟩,
  ⟨fun a σ => .enter 13 [(a.get 17), (.int .i64 2)] σ, (some 18), fun _ => some true⟩,
  ⟨fun a σ => newCells [(.int .i64 0), (.int .i64 0), (.string ⟨#[]⟩), (.slice none 0 0)] 28 none σ, (some 4), fun _ => some true⟩,
  ⟨fun a σ => newCells [(.int .i64 0), (.int .i64 0), (.string ⟨#[]⟩), (.slice none 0 0)] 28 none σ, (some 5), fun _ => some true⟩,
  ⟨fun a σ => fstore 4 (a.get 4) (a.get 16) σ, none, fun _ => some true⟩,
  ⟨fun a σ => fstore 4 (a.get 5) (a.get 18) σ, none, fun _ => some true⟩]
noncomputable def r5_2 : List COp := r5_2U ()
noncomputable def r5_3U (_ : Unit) : List COp := [⟨fun a σ => fload (some 4) (a.get 4) σ, (some 19), fun _ => some true⟩,
  ⟨fun a σ => .enter 22 [(a.get 19), (.slice none 0 0)] σ, (some 20), fun _ => some true⟩,
  ⟨fun a σ => .val (a.get 20) σ, (some 6), fun _ => some true⟩]
noncomputable def r5_3 : List COp := r5_3U ()
noncomputable def r5_4U (_ : Unit) : List COp := [⟨fun a σ => .val (a.get 3) σ, (some 21), fun _ => some true⟩,
  ⟨fun a σ => .enter 26 [(a.get 21), (.int .i64 2)] σ, (some 22), fun _ => some true⟩]
noncomputable def r5_4 : List COp := r5_4U ()
noncomputable def r5_5U (_ : Unit) : List DOp := [⟨fun a σ => .val (a.get 3) σ, (some 26), fun _ => some true, (some 0), false⟩,
  ⟨fun a σ => .val (a.get 6) σ, (some 27), fun _ => some true, (some 0), false⟩,
  ⟨fun a σ => flenL (a.get 27) σ, (some 28), fun _ => some true, (some 0), false⟩,
  ⟨fun a σ => i_sub Tryz.prog 3 (.tmp 28) (.const (.int .i64 1)) (a.get 28) (.int .i64 1) σ, (some 29), fun _ => some true, (some 0), false⟩,
  ⟨fun a σ => .enter 12 [(a.get 26), (a.get 29)] σ, (some 30), fun _ => some true, none, false⟩,
  ⟨fun a σ => fload (some 4) (a.get 4) σ, (some 24), fun _ => some true, (some 0), false⟩,
  ⟨fun a σ => .val (a.get 6) σ, (some 25), fun _ => some true, (some 0), false⟩,
  ⟨fun a σ => findex (none, 1) (a.get 25) (a.get 30) σ, (some 31), fun _ => some true, (some 1), false⟩,
  ⟨fun a σ => fload none (a.get 31) σ, (some 32), fun _ => some true, (some 1), false⟩,
  ⟨fun a σ => .enter 27 [(a.get 24), (a.get 32)] σ, (some 33), fun _ => some true, none, true⟩,
  ⟨fun a σ => .val (a.get 33) σ, (some 23), fun _ => some true, (some 2), false⟩,
  ⟨fun a σ => fextract 0 (a.get 23) σ, (some 34), fun _ => some true, (some 2), false⟩,
  ⟨fun a σ => fstore 4 (a.get 5) (a.get 34) σ, none, fun _ => some true, none, false⟩,
  ⟨fun a σ => fextract 1 (a.get 23) σ, (some 35), fun _ => some true, (some 2), false⟩]
noncomputable def r5_5 : List DOp := r5_5U ()
noncomputable def r5_6U (_ : Unit) : List COp := [⟨fun a σ => fload (some 4) (a.get 4) σ, (some 37), fun _ => some true⟩,
  ⟨fun a σ => fload (some 4) (a.get 5) σ, (some 38), fun _ => some true⟩,
  ⟨fun a σ => .enter 28 [(a.get 37), (a.get 38)] σ, (some 39), fun _ => some true⟩,
  ⟨fun a σ => .val (a.get 39) σ, (some 36), fun _ => some true⟩,
  ⟨fun a σ => fextract 0 (a.get 36) σ, (some 40), fun _ => some true⟩,
  ⟨fun a σ => fextract 1 (a.get 36) σ, (some 41), fun _ => some true⟩,
  ⟨fun a σ => .val (a.get 40) σ, (some 7), fun _ => some true⟩,
  ⟨fun a σ => .val (a.get 41) σ, (some 8), fun _ => some true⟩]
noncomputable def r5_6 : List COp := r5_6U ()
noncomputable def r5_7U (_ : Unit) : List COp := [⟨fun a σ => .val (a.get 8) σ, (some 42), fun _ => some true⟩,
  ⟨fun a σ => i_neq Tryz.prog 32 (.tmp 42) (.const (.int .i64 0)) (a.get 42) (.int .i64 0) σ, (some 43), fun _ => some true⟩,
  ⟨fun a σ => .val (a.get 43) σ, (some 44), fun _ => some true⟩,
  ⟨fun a σ => .val (a.get 7) σ, (some 45), fun a => gd (a.get 44) false⟩,
  ⟨fun a σ => flenL (a.get 45) σ, (some 46), fun a => gd (a.get 44) false⟩,
  ⟨fun a σ => .val (a.get 6) σ, (some 47), fun a => gd (a.get 44) false⟩,
  ⟨fun a σ => flenL (a.get 47) σ, (some 48), fun a => gd (a.get 44) false⟩,
  ⟨fun a σ => i_gtr Tryz.prog 3 (.tmp 46) (.tmp 48) (a.get 46) (a.get 48) σ, (some 49), fun a => gd (a.get 44) false⟩,
  ⟨fun a σ => fpick (a.get 44) (.bool true) (a.get 49) σ, (some 50), fun _ => some true⟩]
noncomputable def r5_7 : List COp := r5_7U ()
noncomputable def r5_8U (_ : Unit) : List COp := [⟨fun a σ => .val (.bool false) σ, (some 2), fun _ => some true⟩]
noncomputable def r5_8 : List COp := r5_8U ()
noncomputable def r5_9U (_ : Unit) : List COp := [⟨fun a σ => .val (.int .i64 0) σ, (some 9), fun _ => some true⟩]
noncomputable def r5_9 : List COp := r5_9U ()
noncomputable def r5_10U (_ : Unit) : List COp := [⟨fun a σ => .val (.int .i64 0) σ, (some 10), fun _ => some true⟩]
noncomputable def r5_10 : List COp := r5_10U ()
noncomputable def r5_11U (_ : Unit) : List COp := [⟨fun a σ => .val (a.get 10) σ, (some 51), fun _ => some true⟩,
  ⟨fun a σ => .val (a.get 6) σ, (some 52), fun _ => some true⟩,
  ⟨fun a σ => flenL (a.get 52) σ, (some 53), fun _ => some true⟩,
  ⟨fun a σ => i_lss Tryz.prog 3 (.tmp 51) (.tmp 53) (a.get 51) (a.get 53) σ, (some 54), fun _ => some true⟩]
noncomputable def r5_11 : List COp := r5_11U ()
noncomputable def r5_13U (_ : Unit) : List DOp := [⟨fun a σ => fload (some 4) (a.get 4) σ, (some 58), fun _ => some true, (some 0), false⟩,
  ⟨fun a σ => .val (a.get 6) σ, (some 59), fun _ => some true, (some 0), false⟩,
  ⟨fun a σ => .val (a.get 10) σ, (some 60), fun _ => some true, (some 0), false⟩,
  ⟨fun a σ => findex (none, 1) (a.get 59) (a.get 60) σ, (some 61), fun _ => some true, (some 0), false⟩,
  ⟨fun a σ => fload none (a.get 61) σ, (some 62), fun _ => some true, (some 0), false⟩,
  ⟨fun a σ => .enter 23 [(a.get 58), (a.get 62)] σ, (some 63), fun _ => some true, none, false⟩,
  ⟨fun a σ => .val (a.get 63) σ, (some 57), fun _ => some true, (some 1), false⟩,
  ⟨fun a σ => fextract 0 (a.get 57) σ, (some 64), fun _ => some true, (some 1), false⟩,
  ⟨fun a σ => newCells [(.int .i64 0), (.int .i64 0), (.string ⟨#[]⟩), (.slice none 0 0)] 28 none σ, (some 11), fun _ => some true, (some 0), false⟩,
  ⟨fun a σ => fstore 4 (a.get 11) (a.get 64) σ, none, fun _ => some true, none, false⟩,
  ⟨fun a σ => fextract 1 (a.get 57) σ, (some 65), fun _ => some true, (some 1), false⟩,
  ⟨fun a σ => .val (a.get 65) σ, (some 12), fun _ => some true, (some 2), false⟩]
noncomputable def r5_13 : List DOp := r5_13U ()
noncomputable def r5_14U (_ : Unit) : List COp := [⟨fun a σ => .val (a.get 12) σ, (some 66), fun _ => some true⟩,
  ⟨fun a σ => i_neq Tryz.prog 32 (.tmp 66) (.const (.int .i64 0)) (a.get 66) (.int .i64 0) σ, (some 67), fun _ => some true⟩]
noncomputable def r5_14 : List COp := r5_14U ()
noncomputable def r5_15U (_ : Unit) : List COp := [⟨fun a σ => .val (.bool false) σ, (some 2), fun _ => some true⟩]
noncomputable def r5_15 : List COp := r5_15U ()
noncomputable def r5_16U (_ : Unit) : List COp := [⟨fun a σ => fload (some 4) (a.get 5) σ, (some 68), fun _ => some true⟩,
  ⟨fun a σ => fload (some 4) (a.get 11) σ, (some 69), fun _ => some true⟩,
  ⟨fun a σ => .enter 20 [(a.get 68), (a.get 69)] σ, (some 70), fun _ => some true⟩,
  ⟨fun a σ => fun1 Tryz.prog (Op.unary .not) (a.get 70) σ, (some 71), fun _ => some true⟩]
noncomputable def r5_16 : List COp := r5_16U ()
noncomputable def r5_17U (_ : Unit) : List DOp := [⟨fun a σ => .val (a.get 9) σ, (some 72), fun _ => some true, (some 0), false⟩,
  ⟨fun a σ => .val (a.get 7) σ, (some 73), fun _ => some true, (some 0), false⟩,
  ⟨fun a σ => flenL (a.get 73) σ, (some 74), fun _ => some true, (some 0), false⟩,
  ⟨fun a σ => i_geq Tryz.prog 3 (.tmp 72) (.tmp 74) (a.get 72) (a.get 74) σ, (some 75), fun _ => some true, (some 0), false⟩,
  ⟨fun a σ => .val (a.get 75) σ, (some 76), fun _ => some true, (some 0), false⟩,
  ⟨fun a σ => .val (a.get 7) σ, (some 77), fun a => gd (a.get 76) false, (some 0), false⟩,
  ⟨fun a σ => .val (a.get 9) σ, (some 78), fun a => gd (a.get 76) false, (some 0), false⟩,
  ⟨fun a σ => findex (none, 1) (a.get 77) (a.get 78) σ, (some 79), fun a => gd (a.get 76) false, (some 0), false⟩,
  ⟨fun a σ => fload none (a.get 79) σ, (some 80), fun a => gd (a.get 76) false, (some 0), false⟩,
  ⟨fun a σ => .val (a.get 6) σ, (some 81), fun a => gd (a.get 76) false, (some 0), false⟩,
  ⟨fun a σ => .val (a.get 10) σ, (some 82), fun a => gd (a.get 76) false, (some 0), false⟩,
  ⟨fun a σ => findex (none, 1) (a.get 81) (a.get 82) σ, (some 83), fun a => gd (a.get 76) false, (some 0), false⟩,
  ⟨fun a σ => fload none (a.get 83) σ, (some 84), fun a => gd (a.get 76) false, (some 0), false⟩,
  ⟨fun a σ => .enter 29 [(a.get 80), (a.get 84)] σ, (some 85), fun a => gd (a.get 76) false, none, true⟩,
  ⟨fun a σ => fun1 Tryz.prog (Op.unary .not) (a.get 85) σ, (some 86), fun a => gd (a.get 76) false, (some 1), false⟩,
  ⟨fun a σ => fpick (a.get 76) (.bool true) (a.get 86) σ, (some 87), fun _ => some true, (some 1), false⟩]
noncomputable def r5_17 : List DOp := r5_17U ()
noncomputable def r5_18U (_ : Unit) : List COp := [⟨fun a σ => .val (.bool false) σ, (some 2), fun _ => some true⟩]
noncomputable def r5_18 : List COp := r5_18U ()
noncomputable def r5_19U (_ : Unit) : List COp := [⟨fun a σ => .val (a.get 9) σ, (some 88), fun _ => some true⟩,
  ⟨fun a σ => i_add Tryz.prog 3 (.tmp 88) (.const (.int .i64 1)) (a.get 88) (.int .i64 1) σ, (some 89), fun _ => some true⟩,
  ⟨fun a σ => .val (a.get 89) σ, (some 9), fun _ => some true⟩]
noncomputable def r5_19 : List COp := r5_19U ()
noncomputable def r5_12U (_ : Unit) : List COp := [⟨fun a σ => .val (a.get 10) σ, (some 55), fun _ => some true⟩,
  ⟨fun a σ => i_add Tryz.prog 3 (.tmp 55) (.const (.int .i64 1)) (a.get 55) (.int .i64 1) σ, (some 56), fun _ => some true⟩,
  ⟨fun a σ => .val (a.get 56) σ, (some 10), fun _ => some true⟩]
noncomputable def r5_12 : List COp := r5_12U ()
noncomputable def l5_0 (E : Env) (ro : Option Nat) (fn : FuncId) : RunF := (seqR (seqR (fops E ro r5_11) (condR (fun a => (a.get 54)) skipR (exitR 0))) (seqR (blockR 1 (seqR (drawR E ro r5_13) (seqR (seqR (fops E ro r5_14) (condR (fun a => (a.get 67)) (seqR (fops E ro r5_15) retR) skipR)) (seqR (seqR (fops E ro r5_16) (condR (fun a => (a.get 71)) (exitR 1) skipR)) (seqR (seqR (drawR E ro r5_17) (condR (fun a => (a.get 87)) (seqR (fops E ro r5_18) retR) skipR)) (fops E ro r5_19)))))) (fops E ro r5_12)))
noncomputable def r5_20U (_ : Unit) : List COp := [⟨fun a σ => .val (a.get 9) σ, (some 90), fun _ => some true⟩,
  ⟨fun a σ => .val (a.get 7) σ, (some 91), fun _ => some true⟩,
  ⟨fun a σ => flenL (a.get 91) σ, (some 92), fun _ => some true⟩,
  ⟨fun a σ => i_eql Tryz.prog 3 (.tmp 90) (.tmp 92) (a.get 90) (a.get 92) σ, (some 93), fun _ => some true⟩,
  ⟨fun a σ => .val (a.get 93) σ, (some 94), fun _ => some true⟩,
  ⟨fun a σ => .enter 21 [] σ, (some 95), fun a => gd (a.get 94) true⟩,
  ⟨fun a σ => fpick (a.get 94) (a.get 95) (.bool false) σ, (some 96), fun _ => some true⟩,
  ⟨fun a σ => .val (a.get 96) σ, (some 2), fun _ => some true⟩]
noncomputable def r5_20 : List COp := r5_20U ()
noncomputable def run5 (E : Env) (ro : Option Nat) (fn : FuncId) : RunF := (seqR (fops E ro r5_0) (seqR (fops E ro r5_1) (seqR (fops E ro r5_2) (seqR (fops E ro r5_3) (seqR (seqR (fops E ro r5_4) (condR (fun a => (a.get 22)) (drawR E ro r5_5) skipR)) (seqR (fops E ro r5_6) (seqR (seqR (fops E ro r5_7) (condR (fun a => (a.get 50)) (seqR (fops E ro r5_8) retR) skipR)) (seqR (fops E ro r5_9) (seqR (seqR (fops E ro r5_10) (blockR 0 (loopR (keepOf nls fn) (l5_0 E ro fn)))) (seqR (fops E ro r5_20) retR))))))))))
theorem r5_0_go : fops E ro r5_0 a u σ = fops E ro (r5_0U ()) a u σ := rfl
theorem r5_1_go : fops E ro r5_1 a u σ = fops E ro (r5_1U ()) a u σ := rfl
theorem r5_2_go : fops E ro r5_2 a u σ = fops E ro (r5_2U ()) a u σ := rfl
theorem r5_3_go : fops E ro r5_3 a u σ = fops E ro (r5_3U ()) a u σ := rfl
theorem r5_4_go : fops E ro r5_4 a u σ = fops E ro (r5_4U ()) a u σ := rfl
theorem r5_5_go : fdraw E ro last r5_5 cl a u σ = fdraw E ro last (r5_5U ()) cl a u σ := rfl
theorem r5_6_go : fops E ro r5_6 a u σ = fops E ro (r5_6U ()) a u σ := rfl
theorem r5_7_go : fops E ro r5_7 a u σ = fops E ro (r5_7U ()) a u σ := rfl
theorem r5_8_go : fops E ro r5_8 a u σ = fops E ro (r5_8U ()) a u σ := rfl
theorem r5_9_go : fops E ro r5_9 a u σ = fops E ro (r5_9U ()) a u σ := rfl
theorem r5_10_go : fops E ro r5_10 a u σ = fops E ro (r5_10U ()) a u σ := rfl
theorem r5_11_go : fops E ro r5_11 a u σ = fops E ro (r5_11U ()) a u σ := rfl
theorem r5_13_go : fdraw E ro last r5_13 cl a u σ = fdraw E ro last (r5_13U ()) cl a u σ := rfl
theorem r5_14_go : fops E ro r5_14 a u σ = fops E ro (r5_14U ()) a u σ := rfl
theorem r5_15_go : fops E ro r5_15 a u σ = fops E ro (r5_15U ()) a u σ := rfl
theorem r5_16_go : fops E ro r5_16 a u σ = fops E ro (r5_16U ()) a u σ := rfl
theorem r5_17_go : fdraw E ro last r5_17 cl a u σ = fdraw E ro last (r5_17U ()) cl a u σ := rfl
theorem r5_18_go : fops E ro r5_18 a u σ = fops E ro (r5_18U ()) a u σ := rfl
theorem r5_19_go : fops E ro r5_19 a u σ = fops E ro (r5_19U ()) a u σ := rfl
theorem r5_12_go : fops E ro r5_12 a u σ = fops E ro (r5_12U ()) a u σ := rfl
theorem r5_20_go : fops E ro r5_20 a u σ = fops E ro (r5_20U ()) a u σ := rfl
theorem code5 (E : Env) (ro : Option Nat) (fn : FuncId) : code Tryz.prog nls (Tryz.f5.body.getD .skip) E ro fn = run5 E ro fn := by kernel_rfl
theorem enter5 (E : Env) (args : List Value) (u : Option FrameMode) (σ : FState) (hn : args.length ≤ (13 : Nat)) : fcall Tryz.prog nls E 5 args u σ = leaveR Tryz.prog E [.tmp 2] (run5 E none 5 ⟨padTo undef 13 args, fun _ => undef, 13, 97, []⟩ u σ) := by
  rw [fcall_of (body := Tryz.f5.body.getD .skip) Tryz.func5 rfl E args u σ 13 97 (by kernel_rfl) rfl ⟨hn, by decide⟩, code5]
  rfl
end Go.Proofs.YtodkeaoikjjneaaGreatDoor
/- DatumFound: the loop of the law. -/
namespace Go.Proofs.YtodkeaoikjjneaaGreatDoor
open Go Go.Eng
attribute [local congr] andThen_congr fops_congr fdraw_congr afterOp_congr drawF_congr
attribute [-go_sem] List.range_succ
theorem keepFound : keepOf nls 5 = [90, 91, 92, 93, 94, 95, 96] := by kernel_rfl
/-- What lies in memory before the loop. -/
structure FactsF (q : Nat) (b4 b5 ba : Nat) (R RX : Nat → Prop) (d x : D) (lv xv us : List Value) (lw : Value) (ws : List Value) (σ : FState) : Prop where
  fine : Fine (q + 31) 4 d
  xdeep : x.deep ≤ 7
  xcount : x.count < 100000
  h4 : lv.length = 4
  hx4 : xv.length = 4
  c4 : σ.cells b4 = some lv
  c5 : σ.cells b5 = some xv
  ca : σ.cells ba = some us
  pl : PathsL (fun _ => True) σ us ((d.pieces []).map (·.1))
  vw : Vecs 22 (fun _ => True) σ lw ws
  wl : PathsL (fun _ => True) σ ws (foundIn x (d.pieces []))
  ld : LaidR R σ (.agg lv.toArray) d
  lx : LaidR RX σ (.agg xv.toArray) x
  low : ∀ b, R b → b < σ.next
  wf : Wf σ
structure HeadF (b4 b5 ba : Nat) (d x : D) (us : List Value) (lw : Value) (σ0 : FState) (i : Nat) (f : Nat → Value) (σ : FState) : Prop where
  f4 : f 4 = .pointer (some ⟨b4, 0, none⟩)
  f5 : f 5 = .pointer (some ⟨b5, 0, none⟩)
  f6 : f 6 = .slice (some ⟨ba, 0, none⟩) us.length us.length
  f7 : f 7 = lw
  f9 : f 9 = .int .i64 (.ofNat (foundIn x ((d.pieces []).take i)).length)
  f10 : f 10 = .int .i64 (.ofNat i)
  ext : Ext σ0 σ
  wf : Wf σ
  le : i ≤ (d.pieces []).length
theorem found_loop (q : Nat) {b4 b5 ba : Nat} {R RX : Nat → Prop} {d x : D} {lv xv us : List Value} {lw : Value} {ws : List Value} {σ0 : FState} (F : FactsF q b4 b5 ba R RX d x lv xv us lw ws σ0) :
    ∀ (j fuel i : Nat) (f g : Nat → Value) (σ : FState), i + j = (d.pieces []).length → j < fuel → HeadF b4 b5 ba d x us lw σ0 i f σ →
    ∃ f' g' σ', floop [90, 91, 92, 93, 94, 95, 96] (l5_0 (top (q + 40)) none 5) fuel (Sl 13 97 f g []) none σ = .done (.exit 0) (Sl 13 97 f' g' []) none σ' ∧ HeadF b4 b5 ba d x us lw σ0 (d.pieces []).length f' σ' := by
  have hus : us.length = (d.pieces []).length := by rw [F.pl.length, List.length_map]
  have hfew := F.fine.few (by omega)
  intro j
  induction j with
  | zero =>
    intro fuel i f g σ hij hf h
    obtain ⟨fuel, rfl⟩ : ∃ q, fuel = q + 1 := ⟨fuel - 1, by omega⟩
    obtain rfl : i = (d.pieces []).length := by omega
    have d1 : decide (Int.ofNat (d.pieces []).length < Int.ofNat us.length) = false := by rw [hus]; simp
    rw [floop_step, Sl_forget]
    unfold l5_0
    simp -implicitDefEqProofs only [go_sem, ↓reduceIte, Nat.reduceLT, Nat.reduceEqDiff, Nat.reduceAdd, Nat.reduceMul, Nat.reduceLeDiff, Nat.reduceSub, r5_11_go, r5_11U, h.f6, h.f10, d1]
    exact ⟨_, _, _, rfl, h⟩
  | succ j ih =>
    intro fuel i f g σ hij hf h
    obtain ⟨fuel, rfl⟩ : ∃ q, fuel = q + 1 := ⟨fuel - 1, by omega⟩
    have hi : i < (d.pieces []).length := by omega
    have hiu : i < us.length := by omega
    have d1 : decide (Int.ofNat i < Int.ofNat us.length) = true := by simp; omega
    obtain ⟨y, hy⟩ : ∃ y, (d.pieces [])[i]? = some y := ⟨_, List.getElem?_eq_getElem hi⟩
    have hmem := List.mem_of_getElem? hy
    obtain ⟨r, hr, hat⟩ := pieces_at d [] y hmem
    rw [List.nil_append] at hr
    subst hr
    obtain ⟨hy1, hy2, _⟩ := (F.fine []).2 y hmem
    obtain ⟨hyd, hyc⟩ := pieces_le d [] y hmem
    have hdd := F.fine.deep_le
    have hdc : d.count ≤ 1093 := by rw [← pieces_length d []]; exact hfew
    obtain ⟨u, hu, hP⟩ := F.pl.get (i := i) (p := y.1) (by rw [List.getElem?_map, hy]; rfl)
    have K : ∀ b cs, σ0.cells b = some cs → σ.cells b = some cs := fun b cs hc => (h.ext.cells (F.wf.cells hc)).trans hc
    have hPs := hP.keep (Q' := fun _ => True) fun b cs _ hc => ⟨K b cs hc, trivial⟩
    have hv := view_wf h.wf (Nat.le_refl _)
    obtain ⟨_, σ1, e1, x1, hw1, v1, rfl, hL1⟩ := atD_go (q + 31) (q + 17) rfl 4 (by omega) d y.2 F.fine lv F.h4 R (fun _ => True) y.1 u (by simp at hy1; omega) hat (by omega) (by omega) σ h.wf (F.ld.keep fun b cs hb hc => ⟨K b cs hc, hb⟩) hPs (fun b hb => Nat.lt_of_lt_of_le (F.low b hb) h.ext.next)
    have e1' : (top (q + 40)).call 23 [.agg lv.toArray, u] none σ = .ret (.tuple #[v1, .int .i64 0]) none σ1 := (top_call _ _ _ _ rfl).trans e1
    have hL0 := hL1
    obtain ⟨ya, yd⟩ := y
    obtain ⟨k, z, t, ds⟩ := yd
    obtain ⟨qq, c, rfl, hE⟩ := hL1
    have hP : PathV (fun _ => True) σ0 u ya := hP
    have hya : ya.length < 100000 := by simp at hy1; omega
    have x2 : Ext σ1 ((σ1.push (.cells [.int .i64 0, .int .i64 0, .string ⟨#[]⟩, .slice none 0 0] TD) none).put σ1.next (.cells [.int .i64 k, .int .i64 z, .string t, .slice qq ds.length c] TD) none) := ((Ext.refl _).push _ _).put _ _ _ (Nat.le_refl _)
    have hw2 := (hw1.push (.cells [.int .i64 0, .int .i64 0, .string ⟨#[]⟩, .slice none 0 0] TD) none).put σ1.next (.cells [.int .i64 k, .int .i64 z, .string t, .slice qq ds.length c] TD) none (Nat.lt_succ_self _)
    have b2 : ((σ1.push (.cells [.int .i64 0, .int .i64 0, .string ⟨#[]⟩, .slice none 0 0] TD) none).put σ1.next (.cells [.int .i64 k, .int .i64 z, .string t, .slice qq ds.length c] TD) none).cells σ1.next = some [.int .i64 k, .int .i64 z, .string t, .slice qq ds.length c] := by rw [cells_put, if_pos rfl]; rfl
    have n1 : (!((0 : Int) == 0)) = false := by decide
    have c4 := K _ _ F.c4
    have ca := K _ _ F.ca
    have h4 := F.h4
    have hx4 := F.hx4
    have ht : lv.take 4 = lv := List.take_of_length_le (by omega)
    have htx : xv.take 4 = xv := List.take_of_length_le (by omega)
    rw [floop_step, Sl_forget]
    unfold l5_0
    simp -implicitDefEqProofs only [go_sem, ↓reduceIte, Nat.reduceLT, Nat.reduceEqDiff, Nat.reduceAdd, Nat.reduceMul, Nat.reduceLeDiff, Nat.reduceSub, fstoreN, r5_11_go, r5_11U, r5_13_go, r5_13U, r5_14_go, r5_14U, h.f4, h.f6, h.f10, d1, hiu, hv, c4, ca, hu, h4, ht, e1', n1, Nat.le_refl]
    generalize hff : upd _ 12 _ = f1
    generalize hgg : upd _ 67 _ = g1
    have q4 : f1 4 = .pointer (some ⟨b4, 0, none⟩) := by rw [← hff]; simp -implicitDefEqProofs only [upd_go, kept_go, ↓reduceIte, Nat.reduceEqDiff, Nat.reduceLT, reduceCtorEq, h.f4]
    have q5 : f1 5 = .pointer (some ⟨b5, 0, none⟩) := by rw [← hff]; simp -implicitDefEqProofs only [upd_go, kept_go, ↓reduceIte, Nat.reduceEqDiff, Nat.reduceLT, reduceCtorEq, h.f5]
    have q6 : f1 6 = .slice (some ⟨ba, 0, none⟩) us.length us.length := by rw [← hff]; simp -implicitDefEqProofs only [upd_go, kept_go, ↓reduceIte, Nat.reduceEqDiff, Nat.reduceLT, reduceCtorEq, h.f6]
    have q7 : f1 7 = lw := by rw [← hff]; simp -implicitDefEqProofs only [upd_go, kept_go, ↓reduceIte, Nat.reduceEqDiff, Nat.reduceLT, reduceCtorEq, h.f7]
    have q9 : f1 9 = .int .i64 (.ofNat (foundIn x ((d.pieces []).take i)).length) := by rw [← hff]; simp -implicitDefEqProofs only [upd_go, kept_go, ↓reduceIte, Nat.reduceEqDiff, Nat.reduceLT, reduceCtorEq, h.f9]
    have q10 : f1 10 = .int .i64 (.ofNat i) := by rw [← hff]; simp -implicitDefEqProofs only [upd_go, kept_go, ↓reduceIte, Nat.reduceEqDiff, Nat.reduceLT, reduceCtorEq, h.f10]
    have q11 : f1 11 = .pointer (some ⟨σ1.next, 0, none⟩) := by rw [← hff]; simp -implicitDefEqProofs only [upd_go, kept_go, ↓reduceIte, Nat.reduceEqDiff, Nat.reduceLT, reduceCtorEq]
    clear hff hgg
    have hL2 := hL0.keep (R' := fun _ => True) fun b cs _ hc => ⟨(x2.cells (hw1.cells hc)).trans hc, trivial⟩
    generalize FState.put _ _ _ _ = σ2 at x2 hw2 b2 hL2 ⊢
    have X2 := (h.ext.trans x1).trans x2
    have K2 : ∀ b cs, σ0.cells b = some cs → σ2.cells b = some cs := fun b cs hc => (X2.cells (F.wf.cells hc)).trans hc
    obtain ⟨_, σ3, e3, x3, hw3, rfl⟩ := eqDatum_go (q + 26) 7 x (.mk k z t ds) (.agg xv.toArray) _ σ2 F.xdeep (by have := F.xcount; omega) hw2 (LaidR.laid (F.lx.keep (R' := fun _ => True) fun b cs _ hc => ⟨K2 b cs hc, trivial⟩)) hL2.laid
    have e3' : (top (q + 40)).call 20 [.agg xv.toArray, .agg #[.int .i64 k, .int .i64 z, .string t, .slice qq ds.length c]] none σ2 = .ret (.bool (D.same x (.mk k z t ds))) none σ3 := (top_call _ _ _ _ rfl).trans e3
    have c5 := K2 _ _ F.c5
    have X3 := X2.trans x3
    have K3 : ∀ b cs, σ0.cells b = some cs → σ3.cells b = some cs := fun b cs hc => (X3.cells (F.wf.cells hc)).trans hc
    have w3 := add1 i (by omega)
    have hft := foundIn_take x (d.pieces []) i _ hy
    rw [same_comm] at e3'
    cases e : D.same (.mk k z t ds) x with
    | false =>
      rw [e] at e3'
      simp -implicitDefEqProofs only [go_sem, ↓reduceIte, Nat.reduceLT, Nat.reduceEqDiff, Nat.reduceAdd, Nat.reduceMul, Nat.reduceLeDiff, Nat.reduceSub, r5_16_go, r5_16U, r5_12_go, r5_12U, q5, q11, c5, b2, hx4, htx, e3', q10, w3, Nat.le_refl]
      generalize hg2 : upd _ 56 _ = g2
      exact ih fuel (i + 1) (upd f1 10 (.int .i64 (.ofNat (i + 1)))) g2 σ3 (by omega) (by omega) {
        f4 := by simp -implicitDefEqProofs only [upd_go, kept_go, ↓reduceIte, Nat.reduceEqDiff, Nat.reduceLT, reduceCtorEq, q4]
        f5 := by simp -implicitDefEqProofs only [upd_go, kept_go, ↓reduceIte, Nat.reduceEqDiff, Nat.reduceLT, reduceCtorEq, q5]
        f6 := by simp -implicitDefEqProofs only [upd_go, kept_go, ↓reduceIte, Nat.reduceEqDiff, Nat.reduceLT, reduceCtorEq, q6]
        f7 := by simp -implicitDefEqProofs only [upd_go, kept_go, ↓reduceIte, Nat.reduceEqDiff, Nat.reduceLT, reduceCtorEq, q7]
        f9 := by rw [hft, e, if_neg (by simp), List.append_nil]; simp -implicitDefEqProofs only [upd_go, kept_go, ↓reduceIte, Nat.reduceEqDiff, Nat.reduceLT, reduceCtorEq, q9]
        f10 := by simp -implicitDefEqProofs only [upd_go, kept_go, ↓reduceIte, Nat.reduceEqDiff, Nat.reduceLT, reduceCtorEq]
        ext := X3
        wf := hw3
        le := hi }
    | true =>
      rw [e] at e3'
      have hget : (foundIn x (d.pieces []))[(foundIn x ((d.pieces []).take i)).length]? = some ya := foundIn_get x (d.pieces []) i _ hy e
      obtain ⟨w', hw', hP'⟩ := F.wl.get hget
      obtain ⟨aw, cw, hlw, hlw2⟩ := vecs_slice F.vw
      have hnx := (List.getElem?_eq_some_iff.1 hw').1
      obtain ⟨bl, rfl, hbl⟩ := hlw2 (fun h => by rw [h] at hnx; simp at hnx)
      have cl := K3 _ _ hbl
      have ca3 := K3 _ _ F.ca
      have d2 : decide (Int.ofNat (foundIn x ((d.pieces []).take i)).length ≥ Int.ofNat ws.length) = false := by simp; omega
      have hv3 := view_wf hw3 (Nat.le_refl _)
      have e4 := eqInts_go (q + 39) hw3 hya (hP'.keep (Q' := fun _ => True) fun b cs _ hc => ⟨K3 b cs hc, trivial⟩) (hP.keep (Q' := fun _ => True) fun b cs _ hc => ⟨K3 b cs hc, trivial⟩)
      rw [decide_eq_true rfl] at e4
      have e4' : (top (q + 40)).call 29 [w', u] none σ3 = .ret (.bool true) none σ3 := (top_call _ _ _ _ rfl).trans e4
      have w4 := add1 (foundIn x ((d.pieces []).take i)).length (by have := foundIn_le x ((d.pieces []).take i); rw [List.length_take] at this; omega)
      simp -implicitDefEqProofs only [go_sem, ↓reduceIte, Nat.reduceLT, Nat.reduceEqDiff, Nat.reduceAdd, Nat.reduceMul, Nat.reduceLeDiff, Nat.reduceSub, r5_16_go, r5_16U, r5_17_go, r5_17U, r5_19_go, r5_19U, r5_12_go, r5_12U, q5, q6, q7.trans hlw, q9, q11, c5, b2, hx4, htx, e3', q10, w3, d2, hnx, hv3, cl, hw', ca3, hu, hiu, e4', w4, Nat.le_refl]
      generalize hg2 : upd _ 56 _ = g2
      exact ih fuel (i + 1) (upd (upd f1 9 (.int .i64 (.ofNat ((foundIn x ((d.pieces []).take i)).length + 1)))) 10 (.int .i64 (.ofNat (i + 1)))) g2 σ3 (by omega) (by omega) {
        f4 := by simp -implicitDefEqProofs only [upd_go, kept_go, ↓reduceIte, Nat.reduceEqDiff, Nat.reduceLT, reduceCtorEq, q4]
        f5 := by simp -implicitDefEqProofs only [upd_go, kept_go, ↓reduceIte, Nat.reduceEqDiff, Nat.reduceLT, reduceCtorEq, q5]
        f6 := by simp -implicitDefEqProofs only [upd_go, kept_go, ↓reduceIte, Nat.reduceEqDiff, Nat.reduceLT, reduceCtorEq, q6]
        f7 := by simp -implicitDefEqProofs only [upd_go, kept_go, ↓reduceIte, Nat.reduceEqDiff, Nat.reduceLT, reduceCtorEq, q7]
        f9 := by rw [hft, e, if_pos rfl, List.length_append, List.length_singleton]; simp -implicitDefEqProofs only [upd_go, kept_go, ↓reduceIte, Nat.reduceEqDiff, Nat.reduceLT, reduceCtorEq]
        f10 := by simp -implicitDefEqProofs only [upd_go, kept_go, ↓reduceIte, Nat.reduceEqDiff, Nat.reduceLT, reduceCtorEq]
        ext := X3
        wf := hw3
        le := hi }
end Go.Proofs.YtodkeaoikjjneaaGreatDoor
/- DatumFound: from the call of Find on. -/
namespace Go.Proofs.YtodkeaoikjjneaaGreatDoor
open Go Go.Eng
attribute [local congr] andThen_congr fops_congr fdraw_congr afterOp_congr drawF_congr
attribute [-go_sem] List.range_succ
noncomputable def restF (E : Env) (ro : Option Nat) (fn : FuncId) : RunF := seqR (fops E ro r5_6) (seqR (seqR (fops E ro r5_7) (condR (fun a => a.get 50) (seqR (fops E ro r5_8) retR) skipR)) (seqR (fops E ro r5_9) (seqR (seqR (fops E ro r5_10) (blockR 0 (loopR (keepOf nls fn) (l5_0 E ro fn)))) (seqR (fops E ro r5_20) retR))))
theorem run_restF (E : Env) (ro : Option Nat) (fn : FuncId) : run5 E ro fn = seqR (fops E ro r5_0) (seqR (fops E ro r5_1) (seqR (fops E ro r5_2) (seqR (fops E ro r5_3) (seqR (seqR (fops E ro r5_4) (condR (fun a => a.get 22) (drawR E ro r5_5) skipR)) (restF E ro fn))))) := rfl
theorem found_rest (q L' : Nat) (hL' : L' ≤ 6) (b4 b5 ba : Nat) (R X : Nat → Prop) (d x : D) (lv xv us : List Value) (σ : FState) (f g : Nat → Value) (hF : Fine (q + 31) 4 d) (hFx : Fine (q + 31) L' x) (h4 : lv.length = 4) (hx4 : xv.length = 4) (c4 : σ.cells b4 = some lv) (c5 : σ.cells b5 = some xv) (ca : σ.cells ba = some us) (pl : PathsL (fun _ => True) σ us ((d.pieces []).map (·.1))) (ld : LaidR R σ (.agg lv.toArray) d) (lx : LaidR (fun b => R b ∨ X b) σ (.agg xv.toArray) x) (hR : ∀ b, R b → b < σ.next ∧ ¬ X b) (hX : ∀ b, X b → b < σ.next) (hw : Wf σ)
    (f4 : f 4 = .pointer (some ⟨b4, 0, none⟩)) (f5 : f 5 = .pointer (some ⟨b5, 0, none⟩)) (f6 : f 6 = .slice (some ⟨ba, 0, none⟩) us.length us.length) :
    ∃ σ', leaveR Tryz.prog (top (q + 40)) [.tmp 2] (restF (top (q + 40)) none 5 (Sl 13 97 f g []) none σ) = .ret (.bool true) none σ' := by
  obtain ⟨_, σ1, e1, x1, hw1, lw, rfl, ws, h1, h2⟩ := findF_go (q + 31) (q + 17) rfl 4 L' (by omega) hL' d x hF hFx lv xv h4 hx4 R X σ hw ld lx hR hX
  have e1' : (top (q + 40)).call 28 [.agg lv.toArray, .agg xv.toArray] none σ = .ret (.tuple #[lw, .int .i64 0]) none σ1 := (top_call _ _ _ _ rfl).trans e1
  have hus : us.length = (d.pieces []).length := by rw [pl.length, List.length_map]
  have hws : ws.length = (foundIn x (d.pieces [])).length := h2.length
  have hfew := hF.few (by omega)
  have hfewx := hFx.few hL'
  have hle := foundIn_le x (d.pieces [])
  have K : ∀ b cs, σ.cells b = some cs → σ1.cells b = some cs := fun b cs hc => (x1.cells (hw.cells hc)).trans hc
  have F : FactsF q b4 b5 ba R (fun b => R b ∨ X b) d x lv xv us lw ws σ1 := {
    fine := hF
    xdeep := by have := hFx.deep_le; omega
    xcount := by rw [← pieces_length x []]; omega
    h4 := h4
    hx4 := hx4
    c4 := K _ _ c4
    c5 := K _ _ c5
    ca := K _ _ ca
    pl := pl.keep fun b cs hb hc => ⟨K _ _ hc, hb⟩
    vw := h1.keep (fun b hb hn => ⟨rfl, trivial⟩) hw1
    wl := h2.keep fun b cs hb hc => ⟨hc, trivial⟩
    ld := ld.keep fun b cs hb hc => ⟨K _ _ hc, hb⟩
    lx := lx.keep fun b cs hb hc => ⟨K _ _ hc, hb⟩
    low := fun b hb => Nat.lt_of_lt_of_le (hR b hb).1 x1.next
    wf := hw1 }
  obtain ⟨aw, cw, hlw, _⟩ := vecs_slice F.vw
  have ht : lv.take 4 = lv := List.take_of_length_le (by omega)
  have htx : xv.take 4 = xv := List.take_of_length_le (by omega)
  have y1 : (!((0 : Int) == 0)) = false := by decide
  have d1 : decide (Int.ofNat ws.length > Int.ofNat us.length) = false := by simp; omega
  obtain ⟨o1, o2, o3⟩ := h1.one
  unfold restF
  rw [hlw] at e1'
  simp -implicitDefEqProofs only [go_sem, ↓reduceIte, Nat.reduceLT, Nat.reduceEqDiff, Nat.reduceAdd, Nat.reduceMul, Nat.reduceLeDiff, Nat.reduceSub, r5_6_go, r5_6U, r5_7_go, r5_7U, r5_9_go, r5_9U, r5_10_go, r5_10U, f4, f5, f6, c4, c5, h4, hx4, ht, htx, e1', y1, d1, keepFound, List.getElem?_cons_zero, List.getElem?_cons_succ, Nat.le_refl]
  generalize hff : upd _ 10 _ = f1
  generalize hgg : upd _ 50 _ = g1
  generalize hbf : bigFuel = fuel
  obtain ⟨f2, g2, σ2, e2, H⟩ := found_loop q F (d.pieces []).length fuel 0 f1 g1 σ1 (by omega) (by rw [← hbf]; show (d.pieces []).length < 1000000000000; omega) {
    f4 := by rw [← hff]; simp -implicitDefEqProofs only [upd_go, kept_go, ↓reduceIte, Nat.reduceEqDiff, Nat.reduceLT, reduceCtorEq, f4]
    f5 := by rw [← hff]; simp -implicitDefEqProofs only [upd_go, kept_go, ↓reduceIte, Nat.reduceEqDiff, Nat.reduceLT, reduceCtorEq, f5]
    f6 := by rw [← hff]; simp -implicitDefEqProofs only [upd_go, kept_go, ↓reduceIte, Nat.reduceEqDiff, Nat.reduceLT, reduceCtorEq, f6]
    f7 := by rw [← hff, hlw]; simp -implicitDefEqProofs only [upd_go, kept_go, ↓reduceIte, Nat.reduceEqDiff, Nat.reduceLT, reduceCtorEq]
    f9 := by rw [← hff]; simp -implicitDefEqProofs only [upd_go, kept_go, ↓reduceIte, Nat.reduceEqDiff, Nat.reduceLT, reduceCtorEq] <;> rfl
    f10 := by rw [← hff]; simp -implicitDefEqProofs only [upd_go, kept_go, ↓reduceIte, Nat.reduceEqDiff, Nat.reduceLT, reduceCtorEq] <;> rfl
    ext := Ext.refl _
    wf := hw1
    le := Nat.zero_le _ }
  have t9 := H.f9
  rw [List.take_length, ← hws] at t9
  rw [e2]
  simp -implicitDefEqProofs only [go_sem, ↓reduceIte, Nat.reduceLT, Nat.reduceEqDiff, Nat.reduceAdd, Nat.reduceMul, Nat.reduceLeDiff, Nat.reduceSub, r5_20_go, r5_20U, H.f7.trans hlw, t9, top_looks]
  exact ⟨_, rfl⟩
end Go.Proofs.YtodkeaoikjjneaaGreatDoor
/- DatumFound: what the reading says. -/
namespace Go.Proofs.YtodkeaoikjjneaaGreatDoor
open Go Go.Eng
attribute [local congr] andThen_congr fops_congr fdraw_congr afterOp_congr drawF_congr
attribute [-go_sem] List.range_succ
theorem found_says (q : Nat) (p : Option Addr) (l : List Int) (cp : Nat) (hl : l.length < 9223372036854775808) (σ : FState) (hw : Wf σ) (hI : Ints σ p l) (hp : ∀ a, p = some a → a.block < σ.next) :
    ∃ σ', fcall Tryz.prog nls (top (q + 40)) 5 [.slice p l.length cp] none σ = .ret (.bool true) none σ' := by
  obtain ⟨σ1, e1, x1, hw1, hC⟩ := newCoil_go (q + 39) p l cp hl σ hw hI hp
  have hn1 : σ.next < σ1.next := by obtain ⟨_, _, _, _, _, h, _⟩ := hC; exact (hw1 _ _ h).1
  obtain ⟨v, d, σ2, k2, e2, hL, hM, x2, hw2, hC2, _, hk2⟩ := datumOf_go (q + 32) σ.next 4 (by omega) 0 σ1 (by simp [wound]) hw1 hC
  have hk2' : k2 + wound 2 < 100000000000 := by
    have : wound 4 ≤ 1000 := by simp [wound]
    have : wound 2 ≤ 1000 := by simp [wound]
    omega
  obtain ⟨v', x, σ3, k3, e3, hLx, hMx, x3, hw3, hC3, _, hk3⟩ := datumOf_go (q + 34) σ.next 2 (by omega) k2 σ2 hk2' hw2 hC2
  have hk3' : k3 < 10000000 := by
    have : wound 4 ≤ 1000 := by simp [wound]
    have : wound 2 ≤ 1000 := by simp [wound]
    omega
  have hF := made_fine (q + 11) hM
  have hFx := made_fine (q + 11) hMx
  have n2 := x2.next
  have n3 := x3.next
  have e1' : (top (q + 40)).call 11 [.slice p l.length cp] none σ = .ret (.pointer (some ⟨σ.next, 0, none⟩)) none σ1 := (top_call _ _ _ _ rfl).trans e1
  have e2' : (top (q + 40)).call 13 [.pointer (some ⟨σ.next, 0, none⟩), .int .i64 4] none σ1 = .ret v none σ2 := (top_call _ _ _ _ rfl).trans e2
  have e3' : (top (q + 40)).call 13 [.pointer (some ⟨σ.next, 0, none⟩), .int .i64 2] none σ2 = .ret v' none σ3 := (top_call _ _ _ _ rfl).trans e3
  obtain ⟨lv, rfl, h4, ho4⟩ := hL.agg
  obtain ⟨xv, rfl, hx4, hox⟩ := hLx.agg
  have ht : lv.take 4 = lv := List.take_of_length_le (by omega)
  have htx : xv.take 4 = xv := List.take_of_length_le (by omega)
  rw [enter5 _ _ _ _ (by simp), Sl_start, run_restF]
  simp -implicitDefEqProofs only [go_sem, ↓reduceIte, Nat.reduceLT, Nat.reduceEqDiff, Nat.reduceAdd, Nat.reduceMul, Nat.reduceLeDiff, Nat.reduceSub, fstoreN, r5_0_go, r5_0U, r5_1_go, r5_1U, r5_2_go, r5_2U, Option.getD_some, e1', e2', e3', h4, hx4, ho4, hox]
  have x4 : Ext σ3 ((((σ3.push (.cells [.int .i64 0, .int .i64 0, .string ⟨#[]⟩, .slice none 0 0] TD) none).push (.cells [.int .i64 0, .int .i64 0, .string ⟨#[]⟩, .slice none 0 0] TD) none).put σ3.next (.cells lv TD) none).put (σ3.next + 1) (.cells xv TD) none) := ((((Ext.refl _).push _ _).push _ _).put _ _ _ (Nat.le_refl _)).put _ _ _ (by omega)
  have hw4 : Wf ((((σ3.push (.cells [.int .i64 0, .int .i64 0, .string ⟨#[]⟩, .slice none 0 0] TD) none).push (.cells [.int .i64 0, .int .i64 0, .string ⟨#[]⟩, .slice none 0 0] TD) none).put σ3.next (.cells lv TD) none).put (σ3.next + 1) (.cells xv TD) none) := (((hw3.push _ _).push _ _).put _ _ _ (by simp only [push_next]; omega)).put _ _ _ (by simp only [put_next, push_next]; omega)
  have g4 : ((((σ3.push (.cells [.int .i64 0, .int .i64 0, .string ⟨#[]⟩, .slice none 0 0] TD) none).push (.cells [.int .i64 0, .int .i64 0, .string ⟨#[]⟩, .slice none 0 0] TD) none).put σ3.next (.cells lv TD) none).put (σ3.next + 1) (.cells xv TD) none).heap.get σ3.next = some ⟨.cells lv TD, false, none, σ3.clock + 2⟩ := by rw [put_get, if_neg (by omega), put_get, if_pos rfl]; rfl
  have g5 : ((((σ3.push (.cells [.int .i64 0, .int .i64 0, .string ⟨#[]⟩, .slice none 0 0] TD) none).push (.cells [.int .i64 0, .int .i64 0, .string ⟨#[]⟩, .slice none 0 0] TD) none).put σ3.next (.cells lv TD) none).put (σ3.next + 1) (.cells xv TD) none).heap.get (σ3.next + 1) = some ⟨.cells xv TD, false, none, σ3.clock + 3⟩ := by rw [put_get, if_pos rfl]; rfl
  have n4 : ((((σ3.push (.cells [.int .i64 0, .int .i64 0, .string ⟨#[]⟩, .slice none 0 0] TD) none).push (.cells [.int .i64 0, .int .i64 0, .string ⟨#[]⟩, .slice none 0 0] TD) none).put σ3.next (.cells lv TD) none).put (σ3.next + 1) (.cells xv TD) none).next = σ3.next + 2 := rfl
  generalize hff : upd _ 5 _ = f1
  generalize hgg : upd _ 18 _ = g1
  have q3 : f1 3 = .pointer (some ⟨σ.next, 0, none⟩) := by rw [← hff]; simp -implicitDefEqProofs only [upd_go, kept_go, ↓reduceIte, Nat.reduceEqDiff, Nat.reduceLT, reduceCtorEq]
  have q4 : f1 4 = .pointer (some ⟨σ3.next, 0, none⟩) := by rw [← hff]; simp -implicitDefEqProofs only [upd_go, kept_go, ↓reduceIte, Nat.reduceEqDiff, Nat.reduceLT, reduceCtorEq]
  have q5 : f1 5 = .pointer (some ⟨σ3.next + 1, 0, none⟩) := by rw [← hff]; simp -implicitDefEqProofs only [upd_go, kept_go, ↓reduceIte, Nat.reduceEqDiff, Nat.reduceLT, reduceCtorEq]
  clear hff hgg
  generalize FState.put _ _ _ _ = σ4 at x4 hw4 g4 g5 n4 ⊢
  have c4 := cells_of_get g4
  have c5 := cells_of_get g5
  -- the paths
  have K24 : ∀ b cs, New σ1 σ2 b → σ2.cells b = some cs → σ4.cells b = some cs := fun b cs hb hc => by
    have h1 := (x3.cells (hw2.cells hc) (by have := hb.1; omega)).trans hc
    exact (x4.cells (hw3.cells h1)).trans h1
  have hfew := hF.few (by omega)
  have hdd := hF.deep_le
  obtain ⟨w5, σ5, e5, x5, hw5, ba, us, hba, F5, pl5⟩ := paths_go (q + 35) 5 d hdd [] (.agg lv.toArray) (.slice none 0 0) (New σ1 σ2) (fun _ => True) σ4 hw4 (hL.keep fun b cs hb hc => ⟨K24 b cs hb hc, hb⟩) (.inl ⟨rfl, rfl⟩) (by simp; omega) (by omega)
  have e5' : (top (q + 40)).call 22 [.agg lv.toArray, .slice none 0 0] none σ4 = .ret w5 none σ5 := (top_call _ _ _ _ rfl).trans e5
  obtain ⟨hw5v, ca5⟩ := F5.cells
  have o5 := F5.one
  have n5 := x5.next
  have hC5 : Coil σ5 σ.next k3 := (hC3.ext hw3 x4).ext hw4 x5
  obtain ⟨r6, σ6, e6, W6⟩ := once_go (q + 37) σ.next k3 2 (by omega) (by omega) σ5 hw5 hC5
  have e6' : (top (q + 40)).call 26 [.pointer (some ⟨σ.next, 0, none⟩), .int .i64 2] none σ5 = .ret (.bool r6) none σ6 := (top_call _ _ _ _ rfl).trans e6
  have n6 := W6.ext.next
  have ba6 : ba < σ5.next := F5.lt hw5
  have x36 : ∀ b cs, b ≠ σ.next → σ3.cells b = some cs → σ6.cells b = some cs := fun b cs hb hc => by
    have h1 := (x4.cells (hw3.cells hc)).trans hc
    have h2 := (x5.cells (hw4.cells h1)).trans h1
    exact (W6.ext.cells (hw5.cells h2) hb).trans h2
  have k46 : ∀ b cs, b ≠ σ.next → σ4.cells b = some cs → σ6.cells b = some cs := fun b cs hb hc => by
    have h2 := (x5.cells (hw4.cells hc)).trans hc
    exact (W6.ext.cells (hw5.cells h2) hb).trans h2
  have k56 : ∀ b cs, b ≠ σ.next → σ5.cells b = some cs → σ6.cells b = some cs := fun b cs hb hc => (W6.ext.cells (hw5.cells hc) hb).trans hc
  have c46 := k46 _ _ (by omega) c4
  have c56 := k46 _ _ (by omega) c5
  have ca6 := k56 _ _ (by omega) ca5
  have ld6 : LaidR (New σ1 σ2) σ6 (.agg lv.toArray) d := hL.keep fun b cs hb hc => ⟨x36 b cs (by have := hb.1; omega) ((x3.cells (hw2.cells hc) (by have := hb.1; omega)).trans hc), hb⟩
  have lx6 : LaidR (New σ2 σ3) σ6 (.agg xv.toArray) x := hLx.keep fun b cs hb hc => ⟨x36 b cs (by have := hb.1; omega) hc, hb⟩
  have pl6 : PathsL (fun b => σ4.next ≤ b) σ6 us ((d.pieces []).map (·.1)) := pl5.keep fun b cs hb hc => ⟨k56 b cs (by omega) hc, hb⟩
  have hus : us.length = (d.pieces []).length := by rw [pl6.length, List.length_map]
  rw [hw5v] at e5'
  cases r6 with
  | false =>
    simp -implicitDefEqProofs only [go_sem, ↓reduceIte, Nat.reduceLT, Nat.reduceEqDiff, Nat.reduceAdd, Nat.reduceMul, Nat.reduceLeDiff, Nat.reduceSub, r5_3_go, r5_3U, r5_4_go, r5_4U, q3, q4, c4, h4, ht, e5', e6', Nat.le_refl]
    exact found_rest q 2 (by omega) σ3.next (σ3.next + 1) ba (New σ1 σ2) (New σ2 σ3) d x lv xv us σ6 _ _ hF hFx h4 hx4 c46 c56 ca6 (pl6.keep fun b cs _ hc => ⟨hc, trivial⟩) ld6 (lx6.keep fun b cs hb hc => ⟨hc, .inr hb⟩) (fun b hb => ⟨by have := hb.2; omega, fun h => by have := hb.2; have := h.1; omega⟩) (fun b hb => by have := hb.2; omega) W6.wf (by simp -implicitDefEqProofs only [upd_go, kept_go, ↓reduceIte, Nat.reduceEqDiff, Nat.reduceLT, reduceCtorEq, q4]) (by simp -implicitDefEqProofs only [upd_go, kept_go, ↓reduceIte, Nat.reduceEqDiff, Nat.reduceLT, reduceCtorEq, q5]) (by simp -implicitDefEqProofs only [upd_go, kept_go, ↓reduceIte, Nat.reduceEqDiff, Nat.reduceLT, reduceCtorEq])
  | true =>
    have hne : 1 ≤ us.length := by rw [hus, D.pieces_eq]; simp
    obtain ⟨r7, σ7, e7, h70, h71, W7⟩ := up_go (q + 38) σ.next (k3 + 1) (.ofNat (us.length - 1)) (by simp only [Int.ofNat_eq_natCast]; omega) (by omega) σ6 W6.wf W6.coil
    obtain ⟨i, rfl⟩ : ∃ i : Nat, r7 = Int.ofNat i := ⟨r7.toNat, by simp only [Int.ofNat_eq_natCast]; omega⟩
    have hi : i < us.length := by simp only [Int.ofNat_eq_natCast] at h71; omega
    have e7' : (top (q + 40)).call 12 [.pointer (some ⟨σ.next, 0, none⟩), .int .i64 (.ofNat (us.length - 1))] none σ6 = .ret (.int .i64 (.ofNat i)) none σ7 := (top_call _ _ _ _ rfl).trans e7
    have w7 := sub1w us.length hne (by omega)
    obtain ⟨y, hy⟩ : ∃ y, (d.pieces [])[i]? = some y := ⟨_, List.getElem?_eq_getElem (by omega)⟩
    have hmem := List.mem_of_getElem? hy
    obtain ⟨r, hr, hat⟩ := pieces_at d [] y hmem
    rw [List.nil_append] at hr
    subst hr
    obtain ⟨hy1, hy2, _⟩ := (hF []).2 y hmem
    obtain ⟨L', hL', hMy⟩ := made_at y.1 4 d y.2 hM hat
    have hFy := made_fine (q + 11) hMy
    obtain ⟨u, hu, hP⟩ := pl6.get (i := i) (p := y.1) (by rw [List.getElem?_map, hy]; rfl)
    have n7 := W7.ext.next
    have k67 : ∀ b cs, b ≠ σ.next → σ6.cells b = some cs → σ7.cells b = some cs := fun b cs hb hc => (W7.ext.cells (W6.wf.cells hc) hb).trans hc
    have hRne : ∀ b, New σ1 σ2 b → b ≠ σ.next := fun b hb => by have := hb.1; omega
    have ld7 : LaidR (New σ1 σ2) σ7 (.agg lv.toArray) d := ld6.keep fun b cs hb hc => ⟨k67 b cs (hRne b hb) hc, hb⟩
    obtain ⟨_, σ8, e8, x8, hw8, u8, rfl, hL8⟩ := part_go (q + 38) (Q := fun _ => True) W7.wf ld7 (hP.keep fun b cs hb hc => ⟨k67 b cs (by omega) hc, trivial⟩) (by simp at hy1; omega) (by rw [← pieces_length d []]; omega) hat
    have e8' : (top (q + 40)).call 27 [.agg lv.toArray, u] none σ7 = .ret (.tuple #[u8, .bool true]) none σ8 := (top_call _ _ _ _ rfl).trans e8
    obtain ⟨yv, rfl, hy4, hoy⟩ := hL8.agg
    have n8 := x8.next
    have k68 : ∀ b cs, b ≠ σ.next → σ6.cells b = some cs → σ8.cells b = some cs := fun b cs hb hc => (x8.cells (W7.wf.cells (k67 b cs hb hc))).trans (k67 b cs hb hc)
    have g58 : σ8.heap.get (σ3.next + 1) = some ⟨.cells xv TD, false, none, σ3.clock + 3⟩ := (x8.get _ (by omega)).trans ((W7.ext.get _ (by omega) (by omega)).trans ((W6.ext.get _ (by omega) (by omega)).trans ((x5.get _ (by omega)).trans g5)))
    have v4 : (view σ7 σ6.clock).cells σ3.next = some lv := view_old W6.wf (Nat.le_refl _) (W7.ext.get _ (by omega) (by omega)) c46
    have ca7 := k67 _ _ (by omega) ca6
    have hdx : xv.drop 4 = [] := List.drop_eq_nil_of_le (by omega)
    have hv7 := view_wf W7.wf (Nat.le_refl _)
    simp -implicitDefEqProofs only [go_sem, ↓reduceIte, Nat.reduceLT, Nat.reduceEqDiff, Nat.reduceAdd, Nat.reduceMul, Nat.reduceLeDiff, Nat.reduceSub, fstoreN, r5_3_go, r5_3U, r5_4_go, r5_4U, r5_5_go, r5_5U, q3, q4, q5, c4, h4, ht, e5', e6', w7, e7', v4, hv7, ca7, hi, hu, e8', g58, hx4, hy4, hoy, hdx, Nat.le_refl, List.getElem?_cons_zero, List.getElem?_cons_succ]
    have k69 : ∀ (o : FObj) b cs, b ≠ σ.next → b ≠ σ3.next + 1 → σ6.cells b = some cs → (σ8.put (σ3.next + 1) o none).cells b = some cs := fun o b cs hb hb5 hc => by rw [cells_put, if_neg hb5]; exact k68 b cs hb hc
    have ld9 : ∀ o : FObj, LaidR (New σ1 σ2) (σ8.put (σ3.next + 1) o none) (.agg lv.toArray) d := fun o => ld6.keep fun b cs hb hc => ⟨k69 o b cs (hRne b hb) (by have := hb.2; omega) hc, hb⟩
    exact found_rest q L' (by omega) σ3.next (σ3.next + 1) ba (New σ1 σ2) (fun _ => False) d y.2 lv yv us _ _ _ hF hFy h4 hy4 (k69 _ _ _ (by omega) (by omega) c46) (by rw [cells_put, if_pos rfl]; rfl) (k69 _ _ _ (by omega) (by omega) ca6) (pl6.keep fun b cs hb hc => ⟨k69 _ b cs (by omega) (by omega) hc, trivial⟩) (ld9 _) (hL8.keep fun b cs hb hc => ⟨by rw [cells_put, if_neg (by have := hb.1.2; omega)]; exact hc, .inl hb.1⟩) (fun b hb => ⟨by have := hb.2; rw [put_next]; omega, fun h => h⟩) (fun b hb => hb.elim) (hw8.put _ _ _ (by omega)) (by simp -implicitDefEqProofs only [upd_go, kept_go, ↓reduceIte, Nat.reduceEqDiff, Nat.reduceLT, reduceCtorEq, q4]) (by simp -implicitDefEqProofs only [upd_go, kept_go, ↓reduceIte, Nat.reduceEqDiff, Nat.reduceLT, reduceCtorEq, q5]) (by simp -implicitDefEqProofs only [upd_go, kept_go, ↓reduceIte, Nat.reduceEqDiff, Nat.reduceLT, reduceCtorEq])
end Go.Proofs.YtodkeaoikjjneaaGreatDoor
