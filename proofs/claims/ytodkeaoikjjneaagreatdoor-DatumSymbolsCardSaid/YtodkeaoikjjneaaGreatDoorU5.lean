/- The reading of the program, and what is so of it: SymT, SymPg, SymPc, SymPh, SymLF0, SymRm, SymBa, SymCB, SymBb, SymBc, SymBd, SymBe, SymBf, SymBg, SymBh, SymBi, SymBj, SymBk, SymBl, SymBm. -/
import Derived.Test.YtodkeaoikjjneaaGreatDoorU4
import Derived.Test.YtodkeaoikjjneaaGreatDoorZSymTL
import Derived.Test.YtodkeaoikjjneaaGreatDoorU3
set_option linter.unusedSimpArgs false
set_option linter.unusedVariables false
/- The reading of a law, where the chapter's examples are told; what it says of a law is so of every run. -/
namespace Go.Proofs.YtodkeaoikjjneaaGreatDoor
open Go Go.Eng
attribute [local congr] andThen_congr fops_congr fdraw_congr afterOp_congr drawF_congr
attribute [-go_sem] List.range_succ
/-- Calls so many deep; the examples hold. -/
noncomputable def top (n : Nat) : Env where
  call := fun f args u σ => match u with
    | none => bif Nat.beq f 21 && args.isEmpty then .ret (.bool true) none σ else (env n).call f args none σ
    | some md => (env n).call f args (some md) σ
  round := fun l args σ => (env n).round l args σ
theorem top_call (n : Nat) (f : FuncId) (args : List Value) (σ : FState) (h : Nat.beq f 21 = false) : (top n).call f args none σ = (env n).call f args none σ := by
  show (bif Nat.beq f 21 && args.isEmpty then CRes.ret (.bool true) none σ else (env n).call f args none σ) = _
  rw [h]
  rfl
theorem top_looks (n : Nat) (σ : FState) : (top n).call 21 [] none σ = .ret (.bool true) none σ := rfl
theorem sy_mixed : Tryz.prog.follows .mixedOrders = true := by kernel_rfl
theorem sy_named : (Tryz.prog.funcs.toList.all fun fn => !(fn.name == "runtime.NumGoroutine")) = true := by kernel_rfl
theorem sy_names (f : FuncId) (fn : Func) (h : Tryz.prog.funcs[f]? = some fn) : (fn.name == "runtime.NumGoroutine") = false := by
  have := List.all_eq_true.1 sy_named fn (by
    rw [Array.mem_toList_iff]
    exact Array.mem_of_getElem? h)
  simpa using this
/-- Nothing is pinned. -/
abbrev noPins : Pins := ⟨fun _ _ => False⟩
theorem nosums_ok [Pins] : SumOK Tryz.prog nosums := fun _ _ _ _ _ _ _ h => by cases h
theorem looks_call (W : World) : Calls Tryz.prog 21 #[] W fun e W' => e = .returned (.bool true) ∧ W'.os = W.os ∧ W'.output = W.output ∧ W'.tape = W.tape ∧ W.heap.size ≤ W'.heap.size ∧ ∀ i, i < W.heap.size → W'.heap[i]? = W.heap[i]? :=
  says_true sy_mixed sy_names Tryz.func21 rfl W (@nosums_ok (pinsOf W)) looks_says
theorem top_ok (n : Nat) : @EnvOK noPins Tryz.prog (top n) := by
  letI := noPins
  have h : EnvOK Tryz.prog (env n) := fenv_ok nosums_ok sy_mixed sy_names nls n
  refine ⟨fun f args u σ m w args' hr hA hu => ?_, fun l args σ m w args' e hr hA hm => h.round l args σ m w args' e hr hA hm⟩
  cases u with
  | some md => exact h.call f args (some md) σ m w args' hr hA hu
  | none =>
    by_cases hf : (Nat.beq f 21 && args.isEmpty) = true
    · rw [Bool.and_eq_true, Nat.beq_eq, List.isEmpty_iff] at hf
      obtain ⟨rfl, rfl⟩ := hf
      obtain ⟨L'⟩ := args'
      have hl : L' = [] := by
        have := hA.1
        exact List.length_eq_zero_iff.1 this.symm
      subst hl
      show CallOK Tryz.prog m σ w 21 #[] none (.ret (.bool true) none σ)
      refine .inr ⟨callFunc_enter Tryz.func21 rfl (sy_names _ _ Tryz.func21), fun cs hu => ?_⟩
      obtain ⟨e, w', fr, ⟨rfl, ho, hout, ht, hsz, hk⟩, hc, hfn, hl⟩ := looks_call w cs
      exact ⟨m, w', .bool true, fr, cs, hr.moreWorld hk hsz, (Step.refl σ m w).moreWorld hk hsz ho ht hout, .bool true, hu, .refl _ _, StepsIn.of_steps hc, hfn, hl.2.2.1, ⟨hl.1, hl.2.1, hl.2.2.2⟩⟩
    · have e : (top n).call f args none σ = (env n).call f args none σ := by
        show (bif Nat.beq f 21 && args.isEmpty then CRes.ret (.bool true) none σ else (env n).call f args none σ) = _
        rw [Bool.not_eq_true] at hf
        rw [hf]
        rfl
      rw [e]
      exact h.call f args none σ m w args' hr hA hu
/-- What the reading says of a call, of memory of which nothing may be written, is so of every run. -/
theorem calls_of [Pins] {P : Program} {E : Env} (hE : EnvOK P E) (hm : P.follows .mixedOrders = true) (hname : ∀ (f : FuncId) (fn : Func), P.funcs[f]? = some fn → (fn.name == "runtime.NumGoroutine") = false) (nls : Hints) {f : FuncId} {fn : Func} {body : Code} (hf : P.funcs[f]? = some fn) (hb : fn.body = some body) (σ : FState) (m : Mp) (W : World) (args : List Value) (args' : Array Value) (hr : Rel Top m σ W) (hA : LRel m args args'.toList) (hro : ∀ b e, m b = some e → e.ro = true)
    (h : ∃ σ', fcall P nls E f args none σ = .ret (.bool true) none σ') :
    Calls P f args' W fun e W' => e = .returned (.bool true) ∧ W'.os = W.os ∧ W'.output = W.output ∧ W'.tape = W.tape ∧ W.heap.size ≤ W'.heap.size ∧ ∀ i, i < W.heap.size → W'.heap[i]? = W.heap[i]? := by
  obtain ⟨σ', h⟩ := h
  have hc := call_ok hE (draw_ok hm hE) hname nls f args none σ m W args' hr hA
  generalize fcall P nls E f args none σ = r at h hc
  subst h
  rcases hc with ⟨_, _, _, v', hval, _⟩ | ⟨_, hgo⟩
  · have hent := callFunc_enter (P := P) (w := W) (args := args') hf hb (hname f fn hf)
    rw [hent] at hval
    cases hval
  · intro cs
    obtain ⟨m', w', v', fr, cs', hR, hS', hV, _, hun, hst, hfn, hk, hgoing⟩ := hgo cs rfl
    have hcs : cs' = cs := by
      rcases hun with h | ⟨h, _⟩
      · exact h
      · cases h
    subst hcs
    have hv' := hV.flat rfl
    subst hv'
    exact ⟨.returned (.bool true), w', fr, ⟨rfl, hS'.os, hS'.output, hS'.tape, hS'.size, fun i hi => hS'.keep i hi fun b e ent hb hre => by rw [hro b e hb] at hre; cases hre⟩, hst.steps, hfn, leaving_of_going hk hgoing⟩
theorem law_calls {f : FuncId} {fn : Func} {body : Code} (hf : Tryz.prog.funcs[f]? = some fn) (hb : fn.body = some body) (n : Nat) (σ : FState) (m : Mp) (W : World) (args : List Value) (args' : Array Value) (hr : @Rel noPins Top m σ W) (hA : LRel m args args'.toList) (hro : ∀ b e, m b = some e → e.ro = true)
    (h : ∃ σ', fcall Tryz.prog nls (top n) f args none σ = .ret (.bool true) none σ') :
    Calls Tryz.prog f args' W fun e W' => e = .returned (.bool true) ∧ W'.os = W.os ∧ W'.output = W.output ∧ W'.tape = W.tape ∧ W.heap.size ≤ W'.heap.size ∧ ∀ i, i < W.heap.size → W'.heap[i]? = W.heap[i]? :=
  @calls_of noPins Tryz.prog (top n) (top_ok n) sy_mixed sy_names nls f fn body hf hb σ m W args args' hr hA hro h
/-- Numbers in the model's memory, as the reading begins with them. -/
noncomputable def numbers (zs : List Int) : FState := ⟨Tr.set .lf 0 ⟨.cells (zs.map fun z => Value.int .i64 z) TI, true, none, 0⟩, 1, 1⟩
theorem numbers_get (zs : List Int) (b : Nat) : (numbers zs).heap.get b = if b = 0 then some ⟨.cells (zs.map fun z => Value.int .i64 z) TI, true, none, 0⟩ else none := by
  show (Tr.set .lf 0 _).get b = _
  rw [Tr.get_set]
  split <;> rfl
theorem numbers_wf (zs : List Int) : Wf (numbers zs) := fun b e h => by
  rw [numbers_get] at h
  by_cases hb : b = 0
  · rw [if_pos hb] at h
    cases h
    exact ⟨by subst hb; exact Nat.lt_succ_self 0, Nat.lt_succ_self 0⟩
  · rw [if_neg hb] at h
    cases h
theorem numbers_ints (zs : List Int) : Ints (numbers zs) (some ⟨0, 0, none⟩) zs := fun i n h => by
  refine ⟨0, 0, zs.map fun z => Value.int .i64 z, rfl, ?_, ?_⟩
  · rw [cells_get, numbers_get, if_pos rfl]; rfl
  · rw [Nat.zero_add, List.getElem?_map, h]; rfl
/-- A law over a list of numbers: at every such list, whatever the rest of memory is. -/
theorem law_ints {f : FuncId} {fn : Func} {body : Code} (hf : Tryz.prog.funcs[f]? = some fn) (hb : fn.body = some body) (n : Nat)
    (h : ∀ (p : Option Addr) (l : List Int) (cp : Nat), l.length < 9223372036854775808 → ∀ σ, Wf σ → Ints σ p l → (∀ a, p = some a → a.block < σ.next) → ∃ σ', fcall Tryz.prog nls (top n) f [.slice p l.length cp] none σ = .ret (.bool true) none σ')
    (W : World) (v : Value) (hsz : 0 < W.heap.size)
    (hv : v = .slice none 0 0 ∨ ∃ (a : Addr) (len cap : Nat) (zs : List Int), v = .slice (some a) len cap ∧ len ≤ cap ∧ cap < 9223372036854775808 ∧ zs.length = cap ∧ ∀ i, i < zs.length → W.cell? (a.add i) = some (.int .i64 (zs.getD i 0))) :
    Calls Tryz.prog f #[v] W fun e W' => e = .returned (.bool true) ∧ W'.os = W.os ∧ W'.output = W.output ∧ W'.tape = W.tape ∧ W.heap.size ≤ W'.heap.size ∧ ∀ i, i < W.heap.size → W'.heap[i]? = W.heap[i]? := by
  rcases hv with rfl | ⟨a, len, cap, zs, rfl, hl, hm, hz, hc⟩
  · letI := noPins
    refine law_calls hf hb n Eng.empty (fun _ => none) W [.slice none 0 0] _ ?_ (.cons (.nilSlice 0 0) .nil) (fun b e h => by cases h) (h none [] 0 (by simp) Eng.empty (fun b e h => by cases h) (fun i n h => by simp at h) fun a h => by cases h)
    have hget : ∀ b, Eng.empty.heap.get b = none := fun b => rfl
    exact ⟨fun b ent e _ hb => (by rw [hget] at hb; cases hb), fun b b' ent ent' e e' _ hb => (by rw [hget] at hb; cases hb), fun b e hb => (by cases hb), fun b ent hb => (by rw [hget] at hb; cases hb), fun k o hk => hk.elim⟩
  · letI := noPins
    cases zs with
    | nil =>
      obtain rfl : cap = 0 := hz.symm
      obtain rfl : len = 0 := by omega
      have hget : ∀ b, (⟨.lf, 1, 1⟩ : FState).heap.get b = none := fun b => rfl
      refine law_calls hf hb n ⟨.lf, 1, 1⟩ (fun b => if b = 0 then some ⟨0, 0, true, none⟩ else none) W [.slice (some ⟨0, 0, none⟩) 0 0] _ ?_ (.cons (.empty (b := 0) (off := 0) (if_pos rfl)) .nil) (fun b e h => ?_)
        (h (some ⟨0, 0, none⟩) [] 0 (by simp) ⟨.lf, 1, 1⟩ (fun b e h => by rw [hget] at h; cases h) (fun i n h => by simp at h) fun a h => by cases h; exact Nat.lt_succ_self 0)
      · refine ⟨fun b ent e _ hb => (by rw [hget] at hb; cases hb), fun b b' ent ent' e e' _ hb => (by rw [hget] at hb; cases hb), fun b e hb => ?_, fun b ent hb => (by rw [hget] at hb; cases hb), fun k o hk => hk.elim⟩
        by_cases h0 : b = 0
        · rw [if_pos h0] at hb
          cases hb
          exact ⟨by subst h0; exact Nat.lt_succ_self 0, hsz⟩
        · rw [if_neg h0] at hb; cases hb
      · by_cases h0 : b = 0
        · rw [if_pos h0] at h; cases h; rfl
        · rw [if_neg h0] at h; cases h
    | cons z zs =>
      have h0 := hc 0 (by simp)
      obtain ⟨ab, ao, asp⟩ := a
      have h1 : W.cell? ⟨ab, ao, asp⟩ = some (.int .i64 z) := h0
      have hcell : ∃ c el fr, W.heap[ab]? = some (.cells c el fr) ∧ asp = none := by
        unfold World.cell? at h1
        split at h1
        · rename_i c el fr hb'
          cases asp with
          | none => exact ⟨c, el, fr, hb', rfl⟩
          | some _ => simp at h1
        · cases h1
      obtain ⟨c, el, fr, hW, rfl⟩ := hcell
      have hlt : ab < W.heap.size := (Array.getElem?_eq_some_iff.1 hW).1
      have hci : ∀ (i : Nat) (v : Value), ((z :: zs).map fun z => Value.int .i64 z)[i]? = some v → c[ao + i]? = some v := fun i v hv => by
        rw [List.getElem?_map] at hv
        cases hzi : (z :: zs)[i]? with
        | none => rw [hzi] at hv; cases hv
        | some y =>
          rw [hzi] at hv
          cases hv
          have hil := (List.getElem?_eq_some_iff.1 hzi).1
          have hh := hc i hil
          rw [List.getD, hzi] at hh
          have ha : (⟨ab, ao, none⟩ : Addr).add i = ⟨ab, ao + i, none⟩ := by
            unfold Addr.add
            by_cases h0 : i = 0
            · subst h0; rfl
            · rw [if_neg h0]
          rw [ha] at hh
          unfold World.cell? at hh
          simp only [hW] at hh
          exact hh
      have hty : ((z :: zs).take len).length = len := by rw [List.length_take, hz]; omega
      refine law_calls hf hb n (numbers (z :: zs)) (fun b => if b = 0 then some ⟨ab, ao, true, none⟩ else none) W [.slice (some ⟨0, 0, none⟩) ((z :: zs).take len).length cap] _ ?_ ?_ (fun b e h => ?_)
        (h (some ⟨0, 0, none⟩) ((z :: zs).take len) cap (by rw [hty]; omega) (numbers (z :: zs)) (numbers_wf _) (fun i n hi => numbers_ints (z :: zs) i n (by
          rw [List.getElem?_take] at hi
          split at hi
          · exact hi
          · cases hi)) fun a h => by cases h; exact Nat.lt_succ_self 0)
      · refine ⟨fun b ent e _ hb hm' => ?_, fun b b' ent ent' e e' hne hb hb' _ _ hm' hm'' => ?_, fun b e hb => ?_, fun b ent hb => ((numbers_wf _) b ent hb).1, fun k o hk => hk.elim⟩
        · rw [numbers_get] at hb
          by_cases hb0 : b = 0
          · rw [if_pos hb0] at hb hm'
            cases hb
            cases hm'
            exact ⟨rfl, c, el, fr, hW, (fun h => by cases h), fun i v hv => ⟨v, hci i v hv, by
              rw [List.getElem?_map] at hv
              cases hzi : (z :: zs)[i]? with
              | none => rw [hzi] at hv; cases hv
              | some y => rw [hzi] at hv; cases hv; exact .int _ _⟩, trivial⟩
          · rw [if_neg hb0] at hb; cases hb
        · by_cases hb0 : b = 0
          · by_cases hb1 : b' = 0
            · omega
            · rw [if_neg hb1] at hm''; cases hm''
          · rw [if_neg hb0] at hm'; cases hm'
        · by_cases hb0 : b = 0
          · rw [if_pos hb0] at hb
            cases hb
            exact ⟨by subst hb0; exact Nat.lt_succ_self 0, hlt⟩
          · rw [if_neg hb0] at hb; cases hb
      · refine .cons ?_ .nil
        rw [hty]
        have := VRel.slice (m := fun b => if b = 0 then some ⟨ab, ao, true, none⟩ else none) (b := 0) (off := 0) (l := len) (c := cap) (c' := cap) (e := ⟨ab, ao, true, none⟩) (if_pos rfl) (.inl rfl)
        exact this
      · by_cases hb0 : b = 0
        · rw [if_pos hb0] at h; cases h; rfl
        · rw [if_neg hb0] at h; cases h
end Go.Proofs.YtodkeaoikjjneaaGreatDoor
/- datum.Find. -/
namespace Go.Proofs.YtodkeaoikjjneaaGreatDoor
open Go Go.Eng
attribute [local congr] andThen_congr fops_congr fdraw_congr afterOp_congr drawF_congr
attribute [-go_sem] List.range_succ
/-- What is so of a value in memory from a block on, whatever comes of other memory. -/
structure Stays (Q : Nat → Value → FState → Prop) : Prop where
  keep : ∀ base base' v σ σ', Q base v σ → Wf σ → base' ≤ base → (∀ b, base ≤ b → b < σ.next → σ'.heap.get b = σ.heap.get b) → Q base' v σ'
theorem deferredAtLL (n : Nat) (p q : Value) (σ : FState) : (env (n + 1)).call 134 [p, q] (some .returning) σ = .ret (.tuple #[]) (some .returning) σ := by
  rw [env_defer, enter134 _ _ _ _ (by simp), Sl_start]
  unfold run134
  simp -implicitDefEqProofs only [go_sem, ↓reduceIte, Nat.reduceLT, Nat.reduceEqDiff, Nat.reduceAdd, Nat.reduceMul, Nat.reduceLeDiff, Nat.reduceSub, r134_0_go, r134_0U, r134_3_go, r134_3U, r134_4_go, r134_4U, nilAny]
theorem callAtLL (n w : Nat) (cap : Array Value) {Q : Nat → Value → FState → Prop} (hQ : Stays Q) (hone : ∀ base v σ, Q base v σ → oneCell v = true ∧ notTuple v = true ∧ valCells v = [v]) (σ : FState) (hw : Wf σ)
    (h : ∀ σ', Ext σ σ' → Wf σ' → Gives ((env (n + 1)).call w cap.toList none σ') σ' (Q σ'.next)) :
    Gives ((env (n + 2)).call 109 [.func (.func w) #[] cap] none σ) σ fun v σ' => ∃ u, v = .tuple #[u, .int .i64 0, .int .i64 0] ∧ Q σ.next u σ' := by
  rw [env_call, enter109 _ _ _ _ (by simp), Sl_start]
  unfold run109
  have hX1 : Ext σ ((σ.push (.cells [.int .i64 0] 3) none).push (.cells [.int .i64 0] 32) none) := ((Ext.refl _).push _ _).push _ _
  have hw1 := (hw.push (.cells [.int .i64 0] 3) none).push (.cells [.int .i64 0] 32) none
  obtain ⟨u, σ2, e2, hX2, hw2, hq⟩ := h _ hX1 hw1
  have g1 : σ2.heap.get σ.next = _ := (hX2.get σ.next (by simp only [push_next]; omega)).trans (by simp -implicitDefEqProofs only [push_get, push_next, Nat.add_assoc, Nat.reduceAdd, Nat.left_eq_add, reduceCtorEq, ↓reduceIte, Nat.reduceEqDiff] <;> rfl)
  have g2 : σ2.heap.get (σ.next + 1) = _ := (hX2.get (σ.next + 1) (by simp only [push_next]; omega)).trans (by simp -implicitDefEqProofs only [push_get, push_next, Nat.add_assoc, Nat.reduceAdd, Nat.add_left_cancel_iff, reduceCtorEq, ↓reduceIte, Nat.reduceEqDiff] <;> rfl)
  obtain ⟨o1, o2, o3⟩ := hone _ _ _ hq
  simp -implicitDefEqProofs only [go_sem, ↓reduceIte, Nat.reduceLT, Nat.reduceEqDiff, Nat.reduceAdd, Nat.reduceMul, Nat.reduceLeDiff, Nat.reduceSub, r109_0_go, r109_0U, r109_1_go, r109_1U, r109_2_go, r109_2U, Option.getD_some, e2, g1, g2, aggInt, aggErrno, deferredAtLL, fleave_nil, fresults_nil, fresults_cons, fresult_cell, fresult_tmp, o1, o2, o3]
  have m1 := (hw2 _ _ g1).1
  have m2 := (hw2 _ _ g2).1
  exact ⟨_, _, rfl, ((hX1.trans hX2).put _ _ _ (Nat.le_refl _)).put _ _ _ (Nat.le_add_right _ _), (hw2.put _ _ _ m1).put _ _ _ m2, _, rfl, hQ.keep _ _ _ _ _ hq hw2 (by simp only [push_next]; omega) fun b hb _ => by
    simp only [push_next] at hb
    rw [put_get, if_neg (by omega), put_get, if_neg (by omega)]⟩
theorem callLL (n w : Nat) (cap : Array Value) {Q : Nat → Value → FState → Prop} (hQ : Stays Q) (hone : ∀ base v σ, Q base v σ → oneCell v = true ∧ notTuple v = true ∧ valCells v = [v]) (σ : FState) (hw : Wf σ)
    (h : ∀ σ', Ext σ σ' → Wf σ' → Gives ((env (n + 1)).call w cap.toList none σ') σ' (Q σ'.next)) :
    Gives ((env (n + 3)).call 76 [.func (.func w) #[] cap] none σ) σ fun v σ' => ∃ u, v = .tuple #[u, .int .i64 0] ∧ Q σ.next u σ' := by
  rw [env_call, enter76 _ _ _ _ (by simp), Sl_start]
  unfold run76
  obtain ⟨_, σ2, e2, hX2, hw2, u, rfl, hq⟩ := callAtLL n w cap hQ hone σ hw h
  obtain ⟨o1, o2, o3⟩ := hone _ _ _ hq
  simp -implicitDefEqProofs only [go_sem, ↓reduceIte, Nat.reduceLT, Nat.reduceEqDiff, Nat.reduceAdd, Nat.reduceMul, Nat.reduceLeDiff, Nat.reduceSub, r76_0_go, r76_0U, r76_1_go, r76_1U, r76_2_go, r76_2U, Option.getD_some, e2, fleave_nil, fresults_nil, fresults_cons, fresult_tmp, List.getElem?_cons_zero, o1, o2, o3]
  exact ⟨_, _, rfl, hX2, hw2, u, rfl, hq⟩
def ResP (x : D) (l : List (List Nat × D)) (base : Nat) (w : Value) (σ : FState) : Prop := ∃ us, Vecs 22 (fun b => base ≤ b) σ w us ∧ PathsL (fun b => base ≤ b) σ us (foundIn x l)
theorem resP_stays (x : D) (l : List (List Nat × D)) : Stays (ResP x l) := ⟨fun base base' v σ σ' ⟨us, h1, h2⟩ hw hb hk => ⟨us, h1.keep (fun b hb' hn => ⟨hk b hb' hn, by omega⟩) hw, h2.keep fun b c hb' hc => ⟨by
  have := hk b hb' (hw.cells hc)
  rw [cells_get] at hc ⊢
  rw [this]; exact hc, by omega⟩⟩⟩
mutual
theorem pieces_le : ∀ (d : D) (p : List Nat) (y : List Nat × D), y ∈ d.pieces p → y.2.deep ≤ d.deep ∧ y.2.count ≤ d.count
  | .mk k z t ds, p, y, h => by
    rw [D.pieces] at h
    rcases List.mem_cons.1 h with rfl | h
    · exact ⟨Nat.le_refl _, Nat.le_refl _⟩
    · have := piecesL_le ds p 0 y h
      rw [D.deep, D.count]
      omega
theorem piecesL_le : ∀ (ds : List D) (p : List Nat) (i : Nat) (y : List Nat × D), y ∈ D.piecesL p i ds → y.2.deep ≤ D.deeps ds ∧ y.2.count ≤ D.counts ds
  | [], p, i, y, h => by simp [D.piecesL] at h
  | d :: ds, p, i, y, h => by
    rw [D.piecesL, List.mem_append] at h
    rw [D.deeps, D.counts]
    rcases h with h | h
    · have := pieces_le d _ y h; omega
    · have := piecesL_le ds _ _ y h; omega
end
theorem longest_le (l : List (List Nat × D)) (L : Nat) (h : ∀ x ∈ l, x.1.length ≤ L) : longest l ≤ L + 1 := by
  induction l with
  | nil => simp [longest]
  | cons x l ih =>
    rw [longest_cons]
    have := h x List.mem_cons_self
    have := ih fun y hy => h y (List.mem_cons_of_mem _ hy)
    omega
theorem Fine.deep_le {m L : Nat} {d : D} (h : Fine m L d) : d.deep ≤ L + 1 := by
  have h1 := longest_pieces d []
  have h2 := longest_le (d.pieces []) L fun x hx => by have := ((h []).2 x hx).1; simpa using this
  simp at h1
  omega
theorem find1 (M n : Nat) (hM : M = n + 14) (b1 b2 : Nat) (L L' : Nat) (hL6 : L ≤ 6) (hL6' : L' ≤ 6) (d x : D) (hF : Fine M L d) (hFx : Fine M L' x) (lv xv : List Value) (h4 : lv.length = 4) (hx4 : xv.length = 4) (R X : Nat → Prop) (σ : FState) (hw : Wf σ) (hb1 : σ.cells b1 = some lv) (hb2 : σ.cells b2 = some xv) (hL : LaidR R σ (.agg lv.toArray) d) (hLx : LaidR (fun b => R b ∨ X b) σ (.agg xv.toArray) x) (hR : ∀ b, R b → b < σ.next ∧ ¬ X b) (hX : ∀ b, X b → b < σ.next) :
    Gives ((env (M + 6)).call 77 [.pointer (some ⟨b1, 0, none⟩), .pointer (some ⟨b2, 0, none⟩)] none σ) σ (ResP x (d.pieces []) σ.next) := by
  have hf := hF.few hL6
  have hfx := hFx.few hL6'
  rw [env_call, enter77 _ _ _ _ (by simp), Sl_start]
  unfold run77
  obtain ⟨_, σ1, e1, x1, hw1, rfl⟩ := valid_go M d lv h4 R σ hw hL (fun b hb => (hR b hb).1) (hF.small hL6) (by omega) hF.good
  have n1 := x1.next
  have kl := fun {R : Nat → Prop} {v : Value} {y : D} (h : LaidR R σ v y) => h.keep (R' := R) (σ' := σ1) fun b cs hb hc => ⟨(x1.cells (hw.cells hc)).trans hc, hb⟩
  obtain ⟨_, σ2, e2, x2, hw2, rfl⟩ := valid_go M x xv hx4 (fun b => R b ∨ X b) σ1 hw1 (kl hLx) (fun b hb => by rcases hb with hb | hb; have := (hR b hb).1; omega; have := hX b hb; omega) (hFx.small hL6') (by omega) hFx.good
  have n2 := x2.next
  have x12 := x1.trans x2
  have kl2 := fun {R : Nat → Prop} {v : Value} {y : D} (h : LaidR R σ v y) => h.keep (R' := R) (σ' := σ2) fun b cs hb hc => ⟨(x12.cells (hw.cells hc)).trans hc, hb⟩
  have c1 := (x1.cells (hw.cells hb2)).trans hb2
  have c2 := (x12.cells (hw.cells hb1)).trans hb1
  have c3 := (x12.cells (hw.cells hb2)).trans hb2
  have hd := hF.deep_le
  have hct : d.count < 1000000000 := by rw [← pieces_length d []]; omega
  obtain ⟨w, σ3, e3, x3, hw3, us, h1, h2⟩ := find_go M n 7 hM d x lv xv h4 hx4 R X σ2 hw2 (kl2 hL) (kl2 hLx) (fun b hb => ⟨by have := (hR b hb).1; omega, (hR b hb).2⟩) (fun b hb => by have := hX b hb; omega) (hF.small hL6) (by omega) (fun y hy => by have := pieces_le d [] y hy; omega)
  have ht : lv.take 4 = lv := List.take_of_length_le (by omega)
  have htx : xv.take 4 = xv := List.take_of_length_le (by omega)
  simp -implicitDefEqProofs only [go_sem, ↓reduceIte, Nat.reduceLT, Nat.reduceEqDiff, Nat.reduceAdd, Nat.reduceMul, Nat.reduceLeDiff, Nat.reduceSub, r77_0_go, r77_0U, r77_1_go, r77_1U, r77_2_go, r77_2U, r77_3_go, r77_3U, Option.getD_some, hb1, hb2, c1, c2, c3, h4, hx4, ht, htx, e1, e2, e3, Nat.le_refl]
  exact ⟨_, _, rfl, x12.trans x3, hw3, us, h1.keep (fun b hb hn => ⟨rfl, by omega⟩) hw3, h2.keep fun b c hb hc => ⟨hc, by omega⟩⟩
/-- datum.Find. -/
theorem findF_go (M n : Nat) (hM : M = n + 14) (L L' : Nat) (hL6 : L ≤ 6) (hL6' : L' ≤ 6) (d x : D) (hF : Fine M L d) (hFx : Fine M L' x) (lv xv : List Value) (h4 : lv.length = 4) (hx4 : xv.length = 4) (R X : Nat → Prop) (σ : FState) (hw : Wf σ) (hL : LaidR R σ (.agg lv.toArray) d) (hLx : LaidR (fun b => R b ∨ X b) σ (.agg xv.toArray) x) (hR : ∀ b, R b → b < σ.next ∧ ¬ X b) (hX : ∀ b, X b → b < σ.next) :
    Gives ((env (M + 9)).call 28 [.agg lv.toArray, .agg xv.toArray] none σ) σ fun w σ' => ∃ u, w = .tuple #[u, .int .i64 0] ∧ ResP x (d.pieces []) σ.next u σ' := by
  rw [env_call, enter28 _ _ _ _ (by simp), Sl_start]
  unfold run28
  have x1 : Ext σ ((σ.push (.cells lv TD) none).push (.cells xv TD) none) := ((Ext.refl _).push _ _).push _ _
  have hw1 := (hw.push (.cells lv TD) none).push (.cells xv TD) none
  have c1 : ((σ.push (.cells lv TD) none).push (.cells xv TD) none).cells σ.next = some lv := by rw [cells_push, if_neg (by rw [push_next]; omega), cells_push, if_pos rfl]; rfl
  have c2 : ((σ.push (.cells lv TD) none).push (.cells xv TD) none).cells (σ.next + 1) = some xv := by rw [cells_push, if_pos (by rw [push_next])]; rfl
  obtain ⟨_, σ2, e2, x2, hw2, u, rfl, hq⟩ := callLL (M + 5) 77 #[.pointer (some ⟨σ.next, 0, none⟩), .pointer (some ⟨σ.next + 1, 0, none⟩)] (resP_stays x (d.pieces [])) (fun base v σ ⟨us, h, _⟩ => h.one) _ hw1 fun σ' hx hw' =>
    find1 M n hM σ.next (σ.next + 1) L L' hL6 hL6' d x hF hFx lv xv h4 hx4 R X σ' hw' ((hx.cells (hw1.cells c1)).trans c1) ((hx.cells (hw1.cells c2)).trans c2) (hL.keep fun b cs hb hc => ⟨((x1.trans hx).cells (hw.cells hc)).trans hc, hb⟩) (hLx.keep fun b cs hb hc => ⟨((x1.trans hx).cells (hw.cells hc)).trans hc, hb⟩) (fun b hb => ⟨by have := (hR b hb).1; have := (x1.trans hx).next; omega, (hR b hb).2⟩) (fun b hb => by have := hX b hb; have := (x1.trans hx).next; omega)
  simp -implicitDefEqProofs only [go_sem, ↓reduceIte, Nat.reduceLT, Nat.reduceEqDiff, Nat.reduceAdd, Nat.reduceMul, Nat.reduceLeDiff, Nat.reduceSub, r28_0_go, r28_0U, r28_1_go, r28_1U, Option.getD_some, e2, List.getElem?_cons_zero, List.getElem?_cons_succ]
  exact ⟨_, _, rfl, x1.trans x2, hw2, u, rfl, (resP_stays x (d.pieces [])).keep _ _ _ _ _ hq hw2 (by simp only [push_next]; omega) fun b _ _ => rfl⟩
end Go.Proofs.YtodkeaoikjjneaaGreatDoor
/- plain.Copy. -/
namespace Go.Proofs.YtodkeaoikjjneaaGreatDoor
open Go Go.Eng
attribute [local congr] andThen_congr fops_congr fdraw_congr afterOp_congr drawF_congr
attribute [-go_sem] List.range_succ
theorem keepEach : keepOf nls 106 = [14, 15, 28] := by kernel_rfl
theorem makeSlice_go (e : TypeId) (bytes : Nat) (z : List Value) (n : Nat) (σ : FState) (h : n * (bytes + 1) ≤ 1000000000) : fmakeSlice e bytes z (.int .i64 (.ofNat n)) (.int .i64 (.ofNat n)) σ = .val (.slice (some ⟨σ.next, 0, none⟩) n n) (σ.push (.cells (reps n z) e) none) := by
  show cond (Nat.ble n n && Nat.ble (n * (bytes + 1)) 1000000000) _ _ = _
  rw [show Nat.ble n n = true by rw [Nat.ble_eq]; exact Nat.le_refl _, show Nat.ble (n * (bytes + 1)) 1000000000 = true by rw [Nat.ble_eq]; exact h]
  rfl
theorem reps_length (n : Nat) (z : List Value) : (reps n z).length = n * z.length := by
  induction n with
  | zero => simp [reps_zero]
  | succ n ih => rw [reps_succ, List.length_append, ih, Nat.succ_mul]; omega
def CopyAt (m : Nat) (d : D) : Prop := ∀ (lv : List Value) (R : Nat → Prop) (σ : FState), Wf σ → LaidR R σ (.agg lv.toArray) d → Gives ((env m).call 69 [.agg lv.toArray] none σ) σ fun w σ' => LaidR (fun b => σ.next ≤ b) σ' w d
structure HeadEa (bo base : Nat) (R : Nat → Prop) (q : Option Addr) (c : Nat) (ds : List D) (σ0 : FState) (i : Nat) (f g : Nat → Value) (σ : FState) : Prop where
  f0 : f 0 = .slice q ds.length c
  f1 : f 1 = .func (.func 69) #[] #[]
  f5 : f 5 = .slice (some ⟨bo, 0, none⟩) ds.length ds.length
  g14 : g 14 = .int .i64 (.ofNat ds.length)
  g15 : g 15 = .int .i64 (.ofNat i)
  cs : ∃ done rest ver, σ.heap.get bo = some ⟨.cells (done ++ rest) TD, false, none, ver⟩ ∧ Row (fun b => base ≤ b ∧ b ≠ bo) σ done (ds.take i) ∧ rest.length = (ds.length - i) * 4
  hbo : base ≤ bo
  lay : LaidRE R σ q 0 ds
  low : ∀ b, R b → b < base
  wf : Wf σ
  ext : Ext σ0 σ
  le : i ≤ ds.length
theorem each_loop (m : Nat) {bo base : Nat} {R : Nat → Prop} {q : Option Addr} {c : Nat} {ds : List D} {σ0 : FState} (hC : ∀ d ∈ ds, CopyAt m d) (hb0 : σ0.next = base) (hfew : ds.length < 1000000) :
    ∀ (j fuel i : Nat) (f g : Nat → Value) (σ : FState), i + j = ds.length → j < fuel → HeadEa bo base R q c ds σ0 i f g σ →
    ∃ f' g' σ', floop [14, 15, 28] (l106_0 (env m) none 106) fuel (Sl 7 29 f g []) none σ = .done (.exit 0) (Sl 7 29 f' g' []) none σ' ∧ HeadEa bo base R q c ds σ0 ds.length f' g' σ' := by
  intro j
  induction j with
  | zero =>
    intro fuel i f g σ hij hf h
    obtain ⟨fuel, rfl⟩ : ∃ q, fuel = q + 1 := ⟨fuel - 1, by omega⟩
    obtain rfl : i = ds.length := by omega
    have d1 : decide (Int.ofNat ds.length < Int.ofNat ds.length) = false := by simp
    rw [floop_step, Sl_forget]
    unfold l106_0
    simp -implicitDefEqProofs only [go_sem, ↓reduceIte, Nat.reduceLT, Nat.reduceEqDiff, Nat.reduceAdd, Nat.reduceMul, Nat.reduceLeDiff, Nat.reduceSub, r106_5_go, r106_5U, h.g14, h.g15, d1, List.mem_cons]
    refine ⟨_, _, _, rfl, { h with g14 := ?_, g15 := ?_ }⟩
    · simp -implicitDefEqProofs only [upd_go, kept_go, ↓reduceIte, Nat.reduceEqDiff, Nat.reduceLT, reduceCtorEq, h.g14, List.mem_cons, true_or, or_true]
    · simp -implicitDefEqProofs only [upd_go, kept_go, ↓reduceIte, Nat.reduceEqDiff, Nat.reduceLT, reduceCtorEq, h.g15, List.mem_cons, true_or, or_true]
  | succ j ih =>
    intro fuel i f g σ hij hf h
    obtain ⟨fuel, rfl⟩ : ∃ q, fuel = q + 1 := ⟨fuel - 1, by omega⟩
    have hi : i < ds.length := by omega
    have d1 : decide (Int.ofNat i < Int.ofNat ds.length) = true := by simp; omega
    have hd : ds[i]? = some ds[i] := List.getElem?_eq_getElem hi
    obtain ⟨b, off, cs, rfl, hRb, hcs, hle, hL⟩ := LaidRE.get h.lay hd
    rw [Nat.zero_add] at hle hL
    obtain ⟨done, rest, ver, hg, hr, hrl⟩ := h.cs
    obtain ⟨w, σ1, e1, x1, hw1, hL1⟩ := hC _ (List.getElem_mem hi) ((cs.drop (off + i * 4)).take 4) R σ h.wf hL
    obtain ⟨l4, rfl, hl4, hone⟩ := hL1.agg
    have hbn := (h.wf _ _ hg).1
    have hg1 := (x1.get bo hbn).trans hg
    have hdl : done.length = i * 4 := by rw [hr.1, List.length_take]; omega
    have w1 := add1 i (by omega)
    have hr4 : 4 ≤ rest.length := by rw [hrl]; omega
    have e4 : ((done ++ rest).take (i * 4) ++ l4 ++ (done ++ rest).drop (i * 4 + 4)) = (done ++ l4) ++ rest.drop 4 := by
      rw [← hdl, List.take_left', List.drop_append]
      · simp [List.drop_eq_nil_of_le]
      · rfl
    have hlen : i * 4 + 4 ≤ (done ++ rest).length := by rw [List.length_append, hdl]; omega
    rw [floop_step, Sl_forget]
    unfold l106_0
    simp -implicitDefEqProofs only [go_sem, ↓reduceIte, Nat.reduceLT, Nat.reduceEqDiff, Nat.reduceAdd, Nat.reduceMul, Nat.reduceLeDiff, Nat.reduceSub, fstoreN, r106_5_go, r106_5U, r106_6_go, r106_6U, r106_7_go, r106_7U, r106_8_go, r106_8U, h.f0, h.f1, h.f5, h.g14, h.g15, d1, hi, hcs, hle, e1, hg1, hl4, hone, hlen, e4, w1, List.mem_cons]
    generalize hff : upd _ 6 _ = f1
    generalize hgg : upd _ 15 _ = g1
    have n1 := x1.next
    have hbase : base ≤ σ.next := by have := h.ext.next; omega
    have hbo := h.hbo
    have kc : ∀ (o : FObj) b cs, σ1.cells b = some cs → b ≠ bo → (σ1.put bo o none).cells b = some cs := fun o b cs hc hb => by rw [cells_put, if_neg hb]; exact hc
    exact ih fuel (i + 1) f1 g1 _ (by omega) (by omega) {
      f0 := by rw [← hff]; simp -implicitDefEqProofs only [upd_go, kept_go, ↓reduceIte, Nat.reduceEqDiff, Nat.reduceLT, reduceCtorEq, h.f0]
      f1 := by rw [← hff]; simp -implicitDefEqProofs only [upd_go, kept_go, ↓reduceIte, Nat.reduceEqDiff, Nat.reduceLT, reduceCtorEq, h.f1]
      f5 := by rw [← hff]; simp -implicitDefEqProofs only [upd_go, kept_go, ↓reduceIte, Nat.reduceEqDiff, Nat.reduceLT, reduceCtorEq, h.f5]
      g14 := by rw [← hgg]; simp -implicitDefEqProofs only [upd_go, kept_go, ↓reduceIte, Nat.reduceEqDiff, Nat.reduceLT, reduceCtorEq, h.g14, List.mem_cons, true_or, or_true]
      g15 := by rw [← hgg]; simp -implicitDefEqProofs only [upd_go, kept_go, ↓reduceIte, Nat.reduceEqDiff, Nat.reduceLT, reduceCtorEq]
      cs := ⟨done ++ l4, rest.drop 4, _, by rw [put_get, if_pos rfl], by
        rw [List.take_add_one, hd]
        exact (hr.keep fun b cs hb hc => ⟨kc _ b cs ((x1.cells (h.wf.cells hc)).trans hc) hb.2, hb⟩).snoc hl4 hone (hL1.keep fun b cs hb hc => ⟨kc _ b cs hc (by omega), by omega, by omega⟩), by rw [List.length_drop, hrl]; omega⟩
      hbo := h.hbo
      lay := h.lay.keep fun b cs hb hc => ⟨kc _ b cs ((x1.cells (h.wf.cells hc)).trans hc) (by have := h.low b hb; omega), hb⟩
      low := h.low
      wf := hw1.put _ _ _ (by omega)
      ext := (h.ext.trans x1).put _ _ _ (by omega)
      le := hi }
theorem each_step (m : Nat) (ds : List D) (hC : ∀ d ∈ ds, CopyAt m d) (hfew : ds.length < 1000000) (q : Option Addr) (c : Nat) (R : Nat → Prop) (σ : FState) (hw : Wf σ) (hE : LaidRE R σ q 0 ds) :
    Gives ((env (m + 1)).call 106 [.slice q ds.length c, .func (.func 69) #[] #[]] none σ) σ fun w σ' => ∃ q' c', w = .slice q' ds.length c' ∧ LaidRE (fun b => σ.next ≤ b) σ' q' 0 ds := by
  rw [env_call, enter106 _ _ _ _ (by simp), Sl_start]
  unfold run106
  cases hz : (Int.ofNat ds.length == (0 : Int)) with
  | true =>
    have h0 : ds = [] := by
      have := Int.ofNat.inj (eq_of_beq hz)
      exact List.length_eq_zero_iff.1 this
    subst h0
    simp -implicitDefEqProofs only [go_sem, ↓reduceIte, Nat.reduceLT, Nat.reduceEqDiff, Nat.reduceAdd, Nat.reduceMul, Nat.reduceLeDiff, Nat.reduceSub, r106_0_go, r106_0U, r106_1_go, r106_1U, r106_2_go, r106_2U, Option.getD_some, hz]
    exact ⟨_, _, rfl, Ext.refl _, hw, none, 0, rfl, trivial⟩
  | false =>
    have hmk := fun σ => makeSlice_go 28 56 [.int .i64 0, .int .i64 0, .string ⟨#[]⟩, .slice none 0 0] ds.length σ (by omega)
    simp -implicitDefEqProofs only [go_sem, ↓reduceIte, Nat.reduceLT, Nat.reduceEqDiff, Nat.reduceAdd, Nat.reduceMul, Nat.reduceLeDiff, Nat.reduceSub, r106_0_go, r106_0U, r106_1_go, r106_1U, r106_3_go, r106_3U, r106_4_go, r106_4U, Option.getD_some, hz, hmk, keepEach]
    generalize hff : upd _ 5 _ = f1
    generalize hgg : upd _ 15 _ = g1
    generalize hbf : bigFuel = fuel
    obtain ⟨f2, g2, σ2, e2, h2⟩ := each_loop m (bo := σ.next) (base := σ.next) (R := fun b => R b ∧ b < σ.next) (q := q) (c := c) (σ0 := σ) hC rfl hfew ds.length fuel 0 f1 g1 (σ.push (.cells (reps ds.length [.int .i64 0, .int .i64 0, .string ⟨#[]⟩, .slice none 0 0]) TD) none) (by omega) (by rw [← hbf]; show ds.length < 1000000000000; omega) {
      f0 := by rw [← hff]; simp -implicitDefEqProofs only [upd_go, kept_go, ↓reduceIte, Nat.reduceEqDiff, Nat.reduceLT, reduceCtorEq, List.getElem?_cons_zero, List.getElem?_cons_succ, Option.getD_some]
      f1 := by rw [← hff]; simp -implicitDefEqProofs only [upd_go, kept_go, ↓reduceIte, Nat.reduceEqDiff, Nat.reduceLT, reduceCtorEq, List.getElem?_cons_zero, List.getElem?_cons_succ, Option.getD_some]
      f5 := by rw [← hff]; simp -implicitDefEqProofs only [upd_go, kept_go, ↓reduceIte, Nat.reduceEqDiff, Nat.reduceLT, reduceCtorEq]
      g14 := by rw [← hgg]; simp -implicitDefEqProofs only [upd_go, kept_go, ↓reduceIte, Nat.reduceEqDiff, Nat.reduceLT, reduceCtorEq]
      g15 := by rw [← hgg]; simp -implicitDefEqProofs only [upd_go, kept_go, ↓reduceIte, Nat.reduceEqDiff, Nat.reduceLT, reduceCtorEq] <;> rfl
      cs := ⟨[], reps ds.length [.int .i64 0, .int .i64 0, .string ⟨#[]⟩, .slice none 0 0], σ.clock, by rw [push_get, if_pos rfl]; rfl, Row.nil _ _, by rw [reps_length]; rfl⟩
      hbo := Nat.le_refl _
      lay := hE.keep fun b cs hb hc => ⟨by rw [cells_push, if_neg (by have := hw.cells hc; omega)]; exact hc, hb, hw.cells hc⟩
      low := fun b hb => hb.2
      wf := hw.push _ _
      ext := (Ext.refl _).push _ _
      le := Nat.zero_le _ }
    rw [e2]
    simp -implicitDefEqProofs only [go_sem, ↓reduceIte, Nat.reduceLT, Nat.reduceEqDiff, Nat.reduceAdd, Nat.reduceMul, Nat.reduceLeDiff, Nat.reduceSub, r106_9_go, r106_9U, h2.f5]
    obtain ⟨done, rest, ver, hg, hr, hrl⟩ := h2.cs
    rw [List.take_length] at hr
    have hrest : rest = [] := List.length_eq_zero_iff.1 (by rw [hrl]; omega)
    subst hrest
    rw [List.append_nil] at hg
    exact ⟨_, _, rfl, h2.ext, h2.wf, _, _, rfl, hr.elems (cells_of_get hg) (Nat.le_refl _) (fun c hc => hc.1) 0 ds fun j e he => by rwa [Nat.zero_add]⟩
theorem copy_step (m : Nat) (k z : Int) (t : ByteArray) (ds : List D) (hC : ∀ d ∈ ds, CopyAt m d) (hfew : ds.length < 1000000) : CopyAt (m + 2) (.mk k z t ds) := by
  intro lv R σ hw hL
  obtain ⟨q, c, hv, hE⟩ := hL
  have hlv : lv = [.int .i64 k, .int .i64 z, .string t, .slice q ds.length c] := by
    have := Value.agg.inj hv
    simpa using congrArg Array.toList this
  subst hlv
  rw [env_call, enter69 _ _ _ _ (by simp), Sl_start]
  unfold run69
  have x1 : Ext σ ((σ.push (.cells [.int .i64 k, .int .i64 z, .string t, .slice q ds.length c] TD) none).push (.cells [.int .i64 0, .int .i64 0, .string ⟨#[]⟩, .slice none 0 0] TD) none) := ((Ext.refl _).push _ _).push _ _
  have hw1 := (hw.push (.cells [.int .i64 k, .int .i64 z, .string t, .slice q ds.length c] TD) none).push (.cells [.int .i64 0, .int .i64 0, .string ⟨#[]⟩, .slice none 0 0] TD) none
  have c1 : ((σ.push (.cells [.int .i64 k, .int .i64 z, .string t, .slice q ds.length c] TD) none).push (.cells [.int .i64 0, .int .i64 0, .string ⟨#[]⟩, .slice none 0 0] TD) none).cells σ.next = some [.int .i64 k, .int .i64 z, .string t, .slice q ds.length c] := by rw [cells_push, if_neg (by rw [push_next]; omega), cells_push, if_pos rfl]; rfl
  have g2 : ((σ.push (.cells [.int .i64 k, .int .i64 z, .string t, .slice q ds.length c] TD) none).push (.cells [.int .i64 0, .int .i64 0, .string ⟨#[]⟩, .slice none 0 0] TD) none).heap.get (σ.next + 1) = some ⟨.cells [.int .i64 0, .int .i64 0, .string ⟨#[]⟩, .slice none 0 0] TD, false, none, σ.clock + 1⟩ := by rw [push_get, if_pos (by rw [push_next])]; rfl
  have kc : ((σ.push (.cells [.int .i64 k, .int .i64 z, .string t, .slice q ds.length c] TD) none).push (.cells [.int .i64 0, .int .i64 0, .string ⟨#[]⟩, .slice none 0 0] TD) none).clock = σ.clock + 2 := rfl
  have kn : ((σ.push (.cells [.int .i64 k, .int .i64 z, .string t, .slice q ds.length c] TD) none).push (.cells [.int .i64 0, .int .i64 0, .string ⟨#[]⟩, .slice none 0 0] TD) none).next = σ.next + 2 := rfl
  simp -implicitDefEqProofs only [go_sem, ↓reduceIte, Nat.reduceLT, Nat.reduceEqDiff, Nat.reduceAdd, Nat.reduceMul, Nat.reduceLeDiff, Nat.reduceSub, r69_0_go, r69_0U, Option.getD_some]
  generalize FState.push (FState.push σ _ _) _ _ = σ1 at x1 hw1 c1 g2 kc kn ⊢
  have hv1 := view_wf hw1 (lam := σ.clock + 2) (by omega)
  obtain ⟨_, σ2, e2, x2, hw2, q', c', rfl, hE'⟩ := each_step m ds hC hfew q c R σ1 hw1 (hE.keep fun b cs hb hc => ⟨(x1.cells (hw.cells hc)).trans hc, hb⟩)
  have c2 : (view σ2 (σ.clock + 2)).cells σ.next = some [.int .i64 k, .int .i64 z, .string t, .slice q ds.length c] := view_old hw1 (by omega) (x2.get _ (hw1.cells c1)) c1
  have g2' := (x2.get _ (hw1 _ _ g2).1).trans g2
  simp -implicitDefEqProofs only [go_sem, ↓reduceIte, Nat.reduceLT, Nat.reduceEqDiff, Nat.reduceAdd, Nat.reduceMul, Nat.reduceLeDiff, Nat.reduceSub, fstoreN, r69_1_go, r69_1U, hv1, c1, e2, c2, g2', fleave_nil, fresults_nil, fresults_cons, fresult_cell, aggDatum]
  have n2 := x2.next
  exact ⟨_, _, rfl, (x1.trans x2).put _ _ _ (by omega), hw2.put _ _ _ (by omega), q', c', rfl, hE'.keep fun b cs hb hc => ⟨by rw [cells_put, if_neg (by omega)]; exact hc, by omega⟩⟩
theorem copy_go (n : Nat) : ∀ (N : Nat) (d : D), D.deep d ≤ N → d.count < 1000000 → CopyAt (n + 2 * N) d
  | 0, d, h, _ => by cases d; rw [D.deep] at h; omega
  | N + 1, .mk k z t ds, h, hc => by
    rw [D.deep] at h
    rw [D.count] at hc
    have := length_counts ds
    exact copy_step (n + 2 * N) k z t ds (fun d hd => copy_go n N d (by have := deeps_mem hd; omega) (by have := count_mem hd; omega)) (by omega)
end Go.Proofs.YtodkeaoikjjneaaGreatDoor
/- datum.At. -/
namespace Go.Proofs.YtodkeaoikjjneaaGreatDoor
open Go Go.Eng
attribute [local congr] andThen_congr fops_congr fdraw_congr afterOp_congr drawF_congr
attribute [-go_sem] List.range_succ
theorem keepPlace : keepOf nls 73 = [7, 8, 9, 32] := by kernel_rfl
theorem field3 {cs : List Value} {off : Nat} {a b c e : Value} (h : (cs.drop off).take 4 = [a, b, c, e]) : cs[off + 3]? = some e := by
  have : ((cs.drop off).take 4)[3]? = some e := by rw [h]; rfl
  rw [List.getElem?_take, if_pos (by omega), List.getElem?_drop] at this
  exact this
structure HeadPl (a : Option Addr) (plen cx i b off : Nat) (f g : Nat → Value) : Prop where
  f0 : f 0 = .pointer (some ⟨b, off, none⟩)
  g7 : g 7 = .slice a plen cx
  g8 : g 8 = .int .i64 (.ofNat plen)
  g9 : g 9 = .int .i64 (.ofNat i)
theorem place_loop (E : Env) {a : Option Addr} {cx : Nat} {path : List Nat} {R : Nat → Prop} {σ : FState} (hs : path.length < 100000) (x : D) (hp : path ≠ [] → ∃ b rest, a = some ⟨b, 0, none⟩ ∧ σ.cells b = some (intsOf path ++ rest)) :
    ∀ (j fuel i : Nat) (f g : Nat → Value) (d : D) (b off : Nat) (cs : List Value), i + j = path.length → j < fuel → atP (path.drop i) d = some x → d.count < 100000 → σ.cells b = some cs → 4 ≤ cs.length - off → LaidR R σ (.agg ((cs.drop off).take 4).toArray) d → HeadPl a path.length cx i b off f g →
    ∃ f' g' b off cs, floop [7, 8, 9, 32] (l73_0 E none 73) fuel (Sl 7 33 f g []) none σ = .done (.exit 0) (Sl 7 33 f' g' []) none σ ∧ f' 0 = .pointer (some ⟨b, off, none⟩) ∧ σ.cells b = some cs ∧ 4 ≤ cs.length - off ∧ LaidR R σ (.agg ((cs.drop off).take 4).toArray) x := by
  intro j
  induction j with
  | zero =>
    intro fuel i f g d b off cs hij hf hx _ hc hle hL h
    obtain ⟨fuel, rfl⟩ : ∃ q, fuel = q + 1 := ⟨fuel - 1, by omega⟩
    obtain rfl : i = path.length := by omega
    rw [List.drop_length, atP] at hx
    obtain rfl := Option.some.inj hx
    have d1 : decide (Int.ofNat path.length < Int.ofNat path.length) = false := by simp
    rw [floop_step, Sl_forget]
    unfold l73_0
    simp -implicitDefEqProofs only [go_sem, ↓reduceIte, Nat.reduceLT, Nat.reduceEqDiff, Nat.reduceAdd, Nat.reduceMul, Nat.reduceLeDiff, Nat.reduceSub, r73_2_go, r73_2U, h.g8, h.g9, d1, List.mem_cons]
    exact ⟨_, _, b, off, cs, rfl, h.f0, hc, hle, hL⟩
  | succ j ih =>
    intro fuel i f g d b off cs hij hf hx hN hc hle hL h
    obtain ⟨fuel, rfl⟩ : ∃ q, fuel = q + 1 := ⟨fuel - 1, by omega⟩
    have hi : i < path.length := by omega
    have d1 : decide (Int.ofNat i < Int.ofNat path.length) = true := by simp; omega
    obtain ⟨bp, rest, rfl, hcp⟩ := hp (fun h => by rw [h] at hi; simp at hi)
    have g1 := intsOf_get rest hi
    have w3 := add1 i (by omega)
    have hdr : path.drop i = path[i] :: path.drop (i + 1) := List.drop_eq_getElem_cons hi
    obtain ⟨k, z, t, ds⟩ := d
    obtain ⟨q, c, hv, hE⟩ := hL
    have hv' : (cs.drop off).take 4 = [.int .i64 k, .int .i64 z, .string t, .slice q ds.length c] := by
      have := Value.agg.inj hv
      simpa using congrArg Array.toList this
    have hf3 := field3 hv'
    rw [hdr, atP] at hx
    simp only [D.parts] at hx
    cases hd : ds[path[i]]? with
    | none => rw [hd] at hx; cases hx
    | some d' =>
      rw [hd] at hx
      simp only at hx
      have hpi := (List.getElem?_eq_some_iff.1 hd).1
      obtain ⟨b', off', cs', rfl, hRb, hcs', hle', hL'⟩ := LaidRE.get hE hd
      rw [Nat.zero_add] at hle' hL'
      have e0 : decide (Int.ofNat path[i] < 0) = false := by simp
      have e1 : decide (Int.ofNat path[i] ≥ Int.ofNat ds.length) = false := by simp; omega
      rw [floop_step, Sl_forget]
      unfold l73_0
      simp -implicitDefEqProofs only [go_sem, ↓reduceIte, Nat.reduceLT, Nat.reduceEqDiff, Nat.reduceAdd, Nat.reduceMul, Nat.reduceLeDiff, Nat.reduceSub, r73_2_go, r73_2U, r73_3_go, r73_3U, r73_4_go, r73_4U, r73_6_go, r73_6U, r73_7_go, r73_7U, h.f0, h.g7, h.g8, h.g9, d1, hi, hcp, g1, hc, hf3, e0, e1, hpi, w3, List.mem_cons]
      generalize hff : upd _ 0 _ = f1
      generalize hgg : upd _ 9 _ = gg
      exact ih fuel (i + 1) f1 gg d' b' (off' + path[i] * 4) cs' (by omega) (by omega) hx (by have := count_mem (List.mem_of_getElem? hd); rw [D.count] at hN; omega) hcs' (by omega) hL' {
        f0 := by rw [← hff]; simp -implicitDefEqProofs only [upd_go, kept_go, ↓reduceIte, Nat.reduceEqDiff, Nat.reduceLT, reduceCtorEq]
        g7 := by rw [← hgg]; simp -implicitDefEqProofs only [upd_go, kept_go, ↓reduceIte, Nat.reduceEqDiff, Nat.reduceLT, reduceCtorEq, h.g7, List.mem_cons, true_or, or_true]
        g8 := by rw [← hgg]; simp -implicitDefEqProofs only [upd_go, kept_go, ↓reduceIte, Nat.reduceEqDiff, Nat.reduceLT, reduceCtorEq, h.g8, List.mem_cons, true_or, or_true]
        g9 := by rw [← hgg]; simp -implicitDefEqProofs only [upd_go, kept_go, ↓reduceIte, Nat.reduceEqDiff, Nat.reduceLT, reduceCtorEq] }
theorem place_go (n : Nat) {path : List Nat} {pv : Value} {R Q : Nat → Prop} {σ : FState} (hs : path.length < 100000) {d x : D} (hP : PathV Q σ pv path) {b off : Nat} {cs : List Value} (hx : atP path d = some x) (hN : d.count < 100000) (hc : σ.cells b = some cs) (hle : 4 ≤ cs.length - off) (hL : LaidR R σ (.agg ((cs.drop off).take 4).toArray) d) :
    ∃ b' off' cs', (env (n + 1)).call 73 [.pointer (some ⟨b, off, none⟩), pv] none σ = .ret (.pointer (some ⟨b', off', none⟩)) none σ ∧ σ.cells b' = some cs' ∧ 4 ≤ cs'.length - off' ∧ LaidR R σ (.agg ((cs'.drop off').take 4).toArray) x := by
  obtain ⟨a, cx, rfl, k1⟩ := pathV_slice hP
  rw [env_call, enter73 _ _ _ _ (by simp), Sl_start]
  unfold run73
  simp -implicitDefEqProofs only [go_sem, ↓reduceIte, Nat.reduceLT, Nat.reduceEqDiff, Nat.reduceAdd, Nat.reduceMul, Nat.reduceLeDiff, Nat.reduceSub, r73_0_go, r73_0U, r73_1_go, r73_1U, Option.getD_some, keepPlace]
  generalize hff : upd _ 4 _ = f1
  generalize hgg : upd _ 9 _ = g1
  generalize hbf : bigFuel = fuel
  obtain ⟨f2, g2, b', off', cs', e2, h1, h2, h3, h4⟩ := place_loop (env n) (a := a) (cx := cx) (σ := σ) hs x (fun h => by obtain ⟨b, r, x, _, y⟩ := k1 h; exact ⟨b, r, x, y⟩) path.length fuel 0 f1 g1 d b off cs (by omega) (by rw [← hbf]; show path.length < 1000000000000; omega) hx hN hc hle hL {
    f0 := by rw [← hff]; simp -implicitDefEqProofs only [upd_go, kept_go, ↓reduceIte, Nat.reduceEqDiff, Nat.reduceLT, reduceCtorEq, List.getElem?_cons_zero, List.getElem?_cons_succ, Option.getD_some]
    g7 := by rw [← hgg]; simp -implicitDefEqProofs only [upd_go, kept_go, ↓reduceIte, Nat.reduceEqDiff, Nat.reduceLT, reduceCtorEq]
    g8 := by rw [← hgg]; simp -implicitDefEqProofs only [upd_go, kept_go, ↓reduceIte, Nat.reduceEqDiff, Nat.reduceLT, reduceCtorEq]
    g9 := by rw [← hgg]; simp -implicitDefEqProofs only [upd_go, kept_go, ↓reduceIte, Nat.reduceEqDiff, Nat.reduceLT, reduceCtorEq] <;> rfl }
  rw [e2]
  simp -implicitDefEqProofs only [go_sem, ↓reduceIte, Nat.reduceLT, Nat.reduceEqDiff, Nat.reduceAdd, Nat.reduceMul, Nat.reduceLeDiff, Nat.reduceSub, r73_8_go, r73_8U, h1]
  exact ⟨_, _, _, rfl, h2, h3, h4⟩
theorem at1 (M n : Nat) (hM : M = n + 14) (bd bp : Nat) (L : Nat) (hL6 : L ≤ 6) (d x : D) (hF : Fine M L d) (lv : List Value) (h4 : lv.length = 4) (R Q : Nat → Prop) (path : List Nat) (pv : Value) (hs : path.length < 100000) (hx : atP path d = some x) (hxd : x.deep ≤ 7) (hxc : x.count < 100000) (σ : FState) (hw : Wf σ) (hb1 : σ.cells bd = some lv) (hb2 : σ.cells bp = some [pv]) (hL : LaidR R σ (.agg lv.toArray) d) (hP : PathV Q σ pv path) (hR : ∀ b, R b → b < σ.next) :
    Gives ((env (M + 6)).call 72 [.pointer (some ⟨bd, 0, none⟩), .pointer (some ⟨bp, 0, none⟩)] none σ) σ fun v σ' => LaidR (fun b => σ.next ≤ b) σ' v x := by
  have hf := hF.few hL6
  rw [env_call, enter72 _ _ _ _ (by simp), Sl_start]
  unfold run72
  have x0 : Ext σ (σ.push (.cells [.int .i64 0, .int .i64 0, .string ⟨#[]⟩, .slice none 0 0] TD) none) := (Ext.refl _).push _ _
  have hw0 := hw.push (.cells [.int .i64 0, .int .i64 0, .string ⟨#[]⟩, .slice none 0 0] TD) none
  have ne1 : (bd = σ.next) = False := by have := hw.cells hb1; simp; omega
  have ne2 : (bp = σ.next) = False := by have := hw.cells hb2; simp; omega
  obtain ⟨_, σ1, e1, x1, hw1, rfl⟩ := valid_go M d lv h4 R _ hw0 (hL.keep fun b cs hb hc => ⟨(x0.cells (hw.cells hc)).trans hc, hb⟩) (fun b hb => by have := hR b hb; rw [push_next]; omega) (hF.small hL6) (by omega) hF.good
  have x01 := x0.trans x1
  have c1 := (x01.cells (hw.cells hb1)).trans hb1
  have c2 := (x01.cells (hw.cells hb2)).trans hb2
  have ht : lv.take 4 = lv := List.take_of_length_le (by omega)
  have hL1 : LaidR R σ1 (.agg ((lv.drop 0).take 4).toArray) d := by
    rw [List.drop_zero, ht]
    exact hL.keep fun b cs hb hc => ⟨(x01.cells (hw.cells hc)).trans hc, hb⟩
  obtain ⟨b', off', cs', e2, hc', hle', hL'⟩ := place_go (M + 4) (Q := fun _ => True) (σ := σ1) hs (hP.keep fun b cs _ hc => ⟨(x01.cells (hw.cells hc)).trans hc, trivial⟩) hx (by rw [← pieces_length d []]; omega) c1 (by omega) hL1
  have hcp := copy_go (n + 5) 7 x hxd (by omega)
  rw [show n + 5 + 2 * 7 = M + 5 by omega] at hcp
  obtain ⟨_, σ2, e3, x2, hw2, hq⟩ := hcp ((cs'.drop off').take 4) R σ1 hw1 hL'
  obtain ⟨k, z, t, ds⟩ := x
  obtain ⟨q, c, rfl, hE⟩ := hq
  have g0 : σ2.heap.get σ.next = _ := ((x1.trans x2).get σ.next (Nat.lt_succ_self _)).trans (by rw [push_get, if_pos rfl])
  have m0 := (hw2 _ _ g0).1
  simp -implicitDefEqProofs only [go_sem, ↓reduceIte, Nat.reduceLT, Nat.reduceEqDiff, Nat.reduceAdd, Nat.reduceMul, Nat.reduceLeDiff, Nat.reduceSub, fstoreN, r72_0_go, r72_0U, r72_1_go, r72_1U, r72_2_go, r72_2U, Option.getD_some, hb1, hb2, ne1, ne2, c1, c2, h4, ht, e1, e2, e3, hc', hle', g0, aggDatum, fleave_nil, fresults_nil, fresults_cons, fresult_cell, Nat.le_refl]
  have n1 := x1.next
  rw [push_next] at n1
  exact ⟨_, _, rfl, (x01.trans x2).put _ _ _ (Nat.le_refl _), hw2.put _ _ _ m0, q, c, rfl, hE.keep fun b cs hb hc => ⟨by rw [cells_put, if_neg (by omega)]; exact hc, by omega⟩⟩
end Go.Proofs.YtodkeaoikjjneaaGreatDoor
/- Parts at paths; what is found, in order. -/
namespace Go.Proofs.YtodkeaoikjjneaaGreatDoor
open Go Go.Eng
mutual
theorem same_comm : ∀ (a b : D), D.same a b = D.same b a
  | .mk k n t ds, .mk k' n' t' ds' => by
    rw [show D.same (.mk k n t ds) (.mk k' n' t' ds') = (decide (k = k') && decide (n = n') && (t.toList == t'.toList) && D.sames ds ds') from rfl, show D.same (.mk k' n' t' ds') (.mk k n t ds) = (decide (k' = k) && decide (n' = n) && (t'.toList == t.toList) && D.sames ds' ds) from rfl, sames_comm ds ds']
    rw [show decide (k = k') = decide (k' = k) by simp [eq_comm], show decide (n = n') = decide (n' = n) by simp [eq_comm], show (t.toList == t'.toList) = (t'.toList == t.toList) from BEq.comm]
theorem sames_comm : ∀ (a b : List D), D.sames a b = D.sames b a
  | [], [] => rfl
  | [], _ :: _ => rfl
  | _ :: _, [] => rfl
  | a :: l, b :: r => by
    rw [show D.sames (a :: l) (b :: r) = (D.same a b && D.sames l r) from rfl, show D.sames (b :: r) (a :: l) = (D.same b a && D.sames r l) from rfl, same_comm a b, sames_comm l r]
end
mutual
theorem pieces_at : ∀ (d : D) (p : List Nat) (y : List Nat × D), y ∈ d.pieces p → ∃ r, y.1 = p ++ r ∧ atP r d = some y.2
  | .mk k z t ds, p, y, h => by
    rw [D.pieces] at h
    rcases List.mem_cons.1 h with rfl | h
    · exact ⟨[], by simp, rfl⟩
    · obtain ⟨j, r, d', h1, h2, h3⟩ := piecesL_at ds p 0 y h
      refine ⟨(0 + j) :: r, h1, ?_⟩
      rw [atP]
      simp only [D.parts]
      rw [Nat.zero_add, h2]
      exact h3
theorem piecesL_at : ∀ (ds : List D) (p : List Nat) (i : Nat) (y : List Nat × D), y ∈ D.piecesL p i ds → ∃ j r d', y.1 = p ++ (i + j) :: r ∧ ds[j]? = some d' ∧ atP r d' = some y.2
  | [], p, i, y, h => by simp [D.piecesL] at h
  | d :: ds, p, i, y, h => by
    rw [D.piecesL, List.mem_append] at h
    rcases h with h | h
    · obtain ⟨r, h1, h2⟩ := pieces_at d _ y h
      exact ⟨0, r, d, by rw [h1]; simp, rfl, h2⟩
    · obtain ⟨j, r, d', h1, h2, h3⟩ := piecesL_at ds p (i + 1) y h
      exact ⟨j + 1, r, d', by rw [h1, show i + 1 + j = i + (j + 1) by omega], by simpa using h2, h3⟩
end
theorem made_at : ∀ (path : List Nat) (L : Nat) (d x : D), Made L d → atP path d = some x → ∃ L', L' ≤ L ∧ Made L' x
  | [], L, d, x, hm, h => by
    rw [atP] at h
    cases h
    exact ⟨L, Nat.le_refl _, hm⟩
  | i :: path, L, .mk k z t ds, x, hm, h => by
    rw [atP] at h
    simp only [D.parts] at h
    cases hd : ds[i]? with
    | none => rw [hd] at h; cases h
    | some d' =>
      rw [hd] at h
      obtain ⟨L', h1, h2⟩ := made_at path (L - 1) d' x (Fine.part (m := 0) hm (List.mem_of_getElem? hd)) h
      exact ⟨L', by omega, h2⟩
theorem foundIn_append (x : D) (a b : List (List Nat × D)) : foundIn x (a ++ b) = foundIn x a ++ foundIn x b := by
  unfold foundIn
  rw [List.filter_append, List.map_append]
theorem vecs_slice {T : TypeId} {Q : Nat → Prop} {σ : FState} {s : Value} {vs : List Value} (h : Vecs T Q σ s vs) : ∃ a c, s = .slice a vs.length c ∧ (vs ≠ [] → ∃ b, a = some ⟨b, 0, none⟩ ∧ σ.cells b = some vs) := by
  rcases h with ⟨rfl, rfl⟩ | ⟨b, h, _⟩
  · exact ⟨none, 0, rfl, fun h => absurd rfl h⟩
  · obtain ⟨h1, h2⟩ := h.cells
    exact ⟨_, _, h1, fun _ => ⟨b, rfl, h2⟩⟩
end Go.Proofs.YtodkeaoikjjneaaGreatDoor
/- Data, one put in the place of another. -/
namespace Go.Proofs.YtodkeaoikjjneaaGreatDoor
open Go Go.Eng
theorem toList_inj {a b : ByteArray} (h : a.toList = b.toList) : a = b := by
  rw [ByteArray.toList_eq, ByteArray.toList_eq] at h
  obtain ⟨⟨x⟩⟩ := a
  obtain ⟨⟨y⟩⟩ := b
  simp at h
  rw [h]
mutual
theorem same_eq : ∀ (a b : D), D.same a b = true → a = b
  | .mk k n t ds, .mk k' n' t' ds', h => by
    rw [show D.same (.mk k n t ds) (.mk k' n' t' ds') = (decide (k = k') && decide (n = n') && (t.toList == t'.toList) && D.sames ds ds') from rfl] at h
    simp only [Bool.and_eq_true, decide_eq_true_eq] at h
    obtain ⟨⟨⟨rfl, rfl⟩, h3⟩, h4⟩ := h
    rw [toList_inj (eq_of_beq h3), sames_eq ds ds' h4]
theorem sames_eq : ∀ (a b : List D), D.sames a b = true → a = b
  | [], [], _ => rfl
  | [], _ :: _, h => by cases h
  | _ :: _, [], h => by cases h
  | a :: l, b :: r, h => by
    rw [show D.sames (a :: l) (b :: r) = (D.same a b && D.sames l r) from rfl, Bool.and_eq_true] at h
    rw [same_eq a b h.1, sames_eq l r h.2]
end
mutual
theorem same_self : ∀ (a : D), D.same a a = true
  | .mk k n t ds => by
    rw [show D.same (.mk k n t ds) (.mk k n t ds) = (decide (k = k) && decide (n = n) && (t.toList == t.toList) && D.sames ds ds) from rfl, sames_self ds]
    simp
theorem sames_self : ∀ (l : List D), D.sames l l = true
  | [] => rfl
  | a :: l => by
    rw [show D.sames (a :: l) (a :: l) = (D.same a a && D.sames l l) from rfl, same_self a, sames_self l]
    rfl
end
theorem same_iff (a b : D) : D.same a b = true ↔ a = b := ⟨same_eq a b, fun h => h ▸ same_self a⟩
mutual
/-- y in the place of what equals x. -/
def repl (x y : D) : D → D
  | .mk k z t ds => if D.same (.mk k z t ds) x = true then y else .mk k z t (repls x y ds)
def repls (x y : D) : List D → List D
  | [] => []
  | d :: ds => repl x y d :: repls x y ds
end
mutual
theorem repl_self (x : D) : ∀ d, repl x x d = d
  | .mk k z t ds => by
    rw [repl]
    split
    · rename_i h; exact (same_eq _ _ h).symm
    · rw [repls_self x ds]
theorem repls_self (x : D) : ∀ ds, repls x x ds = ds
  | [] => rfl
  | d :: ds => by rw [repls, repl_self x d, repls_self x ds]
end
/-- How often x is in d. -/
def occ (x d : D) : Nat := ((d.pieces []).filter fun y => D.same y.2 x).length
mutual
def occN (x : D) : D → Nat
  | .mk k z t ds => (if D.same (.mk k z t ds) x = true then 1 else 0) + occsN x ds
def occsN (x : D) : List D → Nat
  | [] => 0
  | d :: ds => occN x d + occsN x ds
end
mutual
theorem found_len (x : D) : ∀ (d : D) (p : List Nat), (foundIn x (d.pieces p)).length = occN x d
  | .mk k z t ds, p => by
    rw [D.pieces, occN]
    have := founds_len x ds p 0
    unfold foundIn at this ⊢
    rw [List.filter_cons]
    split
    · rw [List.map_cons, List.length_cons, this]; omega
    · rw [this]; omega
theorem founds_len (x : D) : ∀ (ds : List D) (p : List Nat) (i : Nat), (foundIn x (D.piecesL p i ds)).length = occsN x ds
  | [], p, i => rfl
  | d :: ds, p, i => by rw [D.piecesL, foundIn_append, List.length_append, found_len x d _, founds_len x ds p (i + 1), occsN]
end
mutual
theorem occ_small (x : D) : ∀ d : D, d.count < x.count → occN x d = 0
  | .mk k z t ds, h => by
    rw [occN, if_neg (fun e => by rw [same_eq _ _ e] at h; omega)]
    rw [D.count] at h
    rw [occs_small x ds (by omega)]
theorem occs_small (x : D) : ∀ ds : List D, D.counts ds < x.count → occsN x ds = 0
  | [], _ => rfl
  | d :: ds, h => by
    rw [D.counts] at h
    rw [occsN, occ_small x d (by omega), occs_small x ds (by omega)]
end
mutual
/-- How many pieces there are then. -/
theorem repl_count (x y : D) : ∀ d : D, (repl x y d).count + occN x d * x.count = d.count + occN x d * y.count
  | .mk k z t ds => by
    rw [repl, occN]
    split
    · rename_i h
      have hx := same_eq _ _ h
      have hc : D.counts ds < x.count := by rw [← hx, D.count]; omega
      rw [occs_small x ds hc, ← hx]
      omega
    · rw [D.count, D.count, Nat.zero_add]
      have := repls_count x y ds
      omega
theorem repls_count (x y : D) : ∀ ds : List D, D.counts (repls x y ds) + occsN x ds * x.count = D.counts ds + occsN x ds * y.count
  | [] => by simp [repls, D.counts, occsN]
  | d :: ds => by
    rw [repls, D.counts, D.counts, occsN, Nat.add_mul, Nat.add_mul]
    have := repl_count x y d
    have := repls_count x y ds
    omega
end
mutual
theorem repl_none (x y : D) : ∀ d : D, repl x y d = d ∨ 0 < occN y (repl x y d)
  | .mk k z t ds => by
    rw [repl]
    split
    · right
      cases y with
      | mk k' z' t' ds' => rw [occN, if_pos (same_self _)]; omega
    · rcases repls_none x y ds with h | h
      · left; rw [h]
      · right; rw [occN]; omega
theorem repls_none (x y : D) : ∀ ds : List D, repls x y ds = ds ∨ 0 < occsN y (repls x y ds)
  | [] => .inl rfl
  | d :: ds => by
    rw [repls, occsN]
    rcases repl_none x y d with h | h
    · rcases repls_none x y ds with h' | h'
      · left; rw [h, h']
      · right; omega
    · right; omega
end
mutual
/-- x is gone. -/
theorem repl_gone (x y : D) (h1 : occN x y = 0) (h2 : occN y x = 0) : ∀ d : D, occN x (repl x y d) = 0
  | .mk k z t ds => by
    rw [repl]
    split
    · exact h1
    · rename_i hne
      rw [occN, repls_gone x y h1 h2 ds, Nat.add_zero]
      split
      · rename_i h
        have hx := same_eq _ _ h
        rcases repls_none x y ds with h' | h'
        · rw [h'] at hx
          exact absurd ((same_iff _ _).2 hx) hne
        · rw [← hx, occN] at h2
          omega
      · rfl
theorem repls_gone (x y : D) (h1 : occN x y = 0) (h2 : occN y x = 0) : ∀ ds : List D, occsN x (repls x y ds) = 0
  | [] => rfl
  | d :: ds => by rw [repls, occsN, repl_gone x y h1 h2 d, repls_gone x y h1 h2 ds]
end
end Go.Proofs.YtodkeaoikjjneaaGreatDoor
/- Texts of symbols by their place in the order; ascending lists. Nothing of a program. -/
namespace Go.Proofs.YtodkeaoikjjneaaGreatDoor
open Go Go.Eng
/-- The texts of the symbols that DatumOf makes, ascending. -/
def srt : List ByteArray := [⟨#[43]⟩, ⟨#[97]⟩, ⟨#[97, 45, 98]⟩, ⟨#[98]⟩, ⟨#[105, 102]⟩, ⟨#[108, 105, 115, 116]⟩, ⟨#[110, 117, 108, 108, 63]⟩, ⟨#[120]⟩]
def tx (r : Nat) : ByteArray := srt.getD r ⟨#[]⟩
def rank (t : ByteArray) : Nat :=
  if t.data.toList == [43] then 0 else if t.data.toList == [97] then 1 else if t.data.toList == [97, 45, 98] then 2 else if t.data.toList == [98] then 3 else if t.data.toList == [105, 102] then 4 else if t.data.toList == [108, 105, 115, 116] then 5 else if t.data.toList == [110, 117, 108, 108, 63] then 6 else 7
theorem rank_tx {t : ByteArray} (h : t ∈ symTexts) : tx (rank t) = t ∧ rank t < 8 := by
  simp only [symTexts, List.mem_cons, List.not_mem_nil, or_false] at h
  rcases h with rfl | rfl | rfl | rfl | rfl | rfl | rfl | rfl <;> exact ⟨rfl, by decide⟩
theorem below8 {P : Nat → Prop} (h : P 0 ∧ P 1 ∧ P 2 ∧ P 3 ∧ P 4 ∧ P 5 ∧ P 6 ∧ P 7) {r : Nat} (hr : r < 8) : P r := by
  obtain ⟨h0, h1, h2, h3, h4, h5, h6, h7⟩ := h
  match r, hr with
  | 0, _ => exact h0
  | 1, _ => exact h1
  | 2, _ => exact h2
  | 3, _ => exact h3
  | 4, _ => exact h4
  | 5, _ => exact h5
  | 6, _ => exact h6
  | 7, _ => exact h7
theorem tx_mem {r : Nat} (h : r < 8) : tx r ∈ symTexts := below8 (P := fun r => tx r ∈ symTexts) (by
  simp only [symTexts, List.mem_cons, List.not_mem_nil, or_false]
  exact ⟨.inr (.inr (.inr (.inr (.inr (.inr (.inr rfl)))))), .inl rfl, .inr (.inr (.inr (.inr (.inr (.inl rfl))))), .inr (.inl rfl), .inr (.inr (.inr (.inl rfl))), .inr (.inr (.inr (.inr (.inl rfl)))), .inr (.inr (.inr (.inr (.inr (.inr (.inl rfl)))))), .inr (.inr (.inl rfl))⟩) h
def symR : D → Option Nat
  | .mk k _ t _ => if k = 3 then some (rank t) else none
/-- The symbols of a datum, in order, as often as they are there. -/
def rkP (l : List (List Nat × D)) : List Nat := l.filterMap fun x => symR x.2
def rk (d : D) : List Nat := rkP (d.pieces [])
theorem rkP_append (a b : List (List Nat × D)) : rkP (a ++ b) = rkP a ++ rkP b := List.filterMap_append
mutual
theorem rkP_path : ∀ (d : D) (p q : List Nat), rkP (d.pieces p) = rkP (d.pieces q)
  | .mk k z t ds, p, q => by
    rw [D.pieces, D.pieces, rkP, rkP, List.filterMap_cons, List.filterMap_cons]
    have := rkPL_path ds p q 0 0
    rw [rkP, rkP] at this
    rw [this]
theorem rkPL_path : ∀ (ds : List D) (p q : List Nat) (i j : Nat), rkP (D.piecesL p i ds) = rkP (D.piecesL q j ds)
  | [], p, q, i, j => rfl
  | d :: ds, p, q, i, j => by rw [D.piecesL, D.piecesL, rkP_append, rkP_append, rkP_path d (p ++ [i]) (q ++ [j]), rkPL_path ds p q (i + 1) (j + 1)]
end
theorem rkPL_flat : ∀ (ds : List D) (p : List Nat) (i : Nat), rkP (D.piecesL p i ds) = ds.flatMap rk
  | [], p, i => rfl
  | d :: ds, p, i => by rw [D.piecesL, rkP_append, rkPL_flat ds p (i + 1), List.flatMap_cons, rkP_path d (p ++ [i]) []]; rfl
theorem rk_mk (k z : Int) (t : ByteArray) (ds : List D) : rk (.mk k z t ds) = (symR (.mk k z t ds)).toList ++ ds.flatMap rk := by
  rw [rk, D.pieces, rkP, List.filterMap_cons]
  have := rkPL_flat ds [] 0
  rw [rkP] at this
  rw [this]
  cases symR (.mk k z t ds) <;> rfl
theorem sorted_ext : ∀ (l l' : List Nat), l.Pairwise (· < ·) → l'.Pairwise (· < ·) → (∀ x, x ∈ l ↔ x ∈ l') → l = l'
  | [], [], _, _, _ => rfl
  | [], y :: l', _, _, h => by have := (h y).2 List.mem_cons_self; cases this
  | x :: l, [], _, _, h => by have := (h x).1 List.mem_cons_self; cases this
  | x :: l, y :: l', h1, h2, h => by
    rw [List.pairwise_cons] at h1 h2
    have e : x = y := by
      have a := (h x).1 List.mem_cons_self
      have b := (h y).2 List.mem_cons_self
      rcases List.mem_cons.1 a with a | a
      · exact a
      · rcases List.mem_cons.1 b with b | b
        · exact b.symm
        · have := h2.1 x a; have := h1.1 y b; omega
    subst e
    rw [sorted_ext l l' h1.2 h2.2 fun z => ⟨fun hz => by
      have := h1.1 z hz
      rcases List.mem_cons.1 ((h z).1 (List.mem_cons_of_mem _ hz)) with c | c
      · omega
      · exact c, fun hz => by
      have := h2.1 z hz
      rcases List.mem_cons.1 ((h z).2 (List.mem_cons_of_mem _ hz)) with c | c
      · omega
      · exact c⟩]
/-- The numbers below 8 of some sort. -/
def asc (P : Nat → Bool) : List Nat := (List.range 8).filter P
theorem asc_sorted (P : Nat → Bool) : (asc P).Pairwise (· < ·) := List.Pairwise.filter _ List.pairwise_lt_range
theorem asc_mem (P : Nat → Bool) (x : Nat) : x ∈ asc P ↔ x < 8 ∧ P x = true := by rw [asc, List.mem_filter, List.mem_range]
theorem asc_len (P : Nat → Bool) : (asc P).length ≤ 8 := by
  have := List.length_filter_le P (List.range 8)
  rw [List.length_range] at this
  exact this
theorem asc_of (l : List Nat) (P : Nat → Bool) (h : l.Pairwise (· < ·)) (hm : ∀ x, x ∈ l ↔ x < 8 ∧ P x = true) : l = asc P := sorted_ext l (asc P) h (asc_sorted P) fun x => by rw [hm, asc_mem]
/-- Two ascending lists together. -/
def mrg : List Nat → List Nat → List Nat
  | [], b => b
  | x :: a, [] => x :: a
  | x :: a, y :: b => if x < y then x :: mrg a (y :: b) else if x = y then y :: mrg a b else y :: mrg (x :: a) b
termination_by a b => a.length + b.length
theorem mrg_mem (z : Nat) : ∀ (n : Nat) (a b : List Nat), a.length + b.length ≤ n → (z ∈ mrg a b ↔ z ∈ a ∨ z ∈ b) := by
  intro n
  induction n with
  | zero =>
    intro a b h
    have h1 : a = [] := List.length_eq_zero_iff.1 (by omega)
    subst h1
    rw [mrg]; simp
  | succ n ih =>
    intro a b h
    match a, b with
    | [], b => rw [mrg]; simp
    | x :: a, [] => rw [mrg]; simp
    | x :: a, y :: b =>
      rw [mrg]
      simp only [List.length_cons] at h
      split
      · rw [List.mem_cons, ih a (y :: b) (by simp only [List.length_cons]; omega), List.mem_cons, List.mem_cons, or_assoc]
      · split
        · rename_i e
          subst e
          rw [List.mem_cons, ih a b (by omega), List.mem_cons, List.mem_cons]
          constructor
          · rintro (h | h | h)
            · exact .inl (.inl h)
            · exact .inl (.inr h)
            · exact .inr (.inr h)
          · rintro ((h | h) | (h | h))
            · exact .inl h
            · exact .inr (.inl h)
            · exact .inl h
            · exact .inr (.inr h)
        · rw [List.mem_cons, ih (x :: a) b (by simp only [List.length_cons]; omega), List.mem_cons, List.mem_cons]
          constructor
          · rintro (h | h | h)
            · exact .inr (.inl h)
            · exact .inl h
            · exact .inr (.inr h)
          · rintro (h | (h | h))
            · exact .inr (.inl h)
            · exact .inl h
            · exact .inr (.inr h)
theorem mrg_sorted : ∀ (n : Nat) (a b : List Nat), a.length + b.length ≤ n → a.Pairwise (· < ·) → b.Pairwise (· < ·) → (mrg a b).Pairwise (· < ·) := by
  intro n
  induction n with
  | zero =>
    intro a b h _ hb
    have h1 : a = [] := List.length_eq_zero_iff.1 (by omega)
    subst h1
    rw [mrg]; exact hb
  | succ n ih =>
    intro a b h ha hb
    match a, b with
    | [], b => rw [mrg]; exact hb
    | x :: a, [] => rw [mrg]; exact ha
    | x :: a, y :: b =>
      rw [mrg]
      simp only [List.length_cons] at h
      have ha' := List.pairwise_cons.1 ha
      have hb' := List.pairwise_cons.1 hb
      split
      · rename_i hxy
        refine List.pairwise_cons.2 ⟨fun z hz => ?_, ih a (y :: b) (by simp only [List.length_cons]; omega) ha'.2 hb⟩
        rcases (mrg_mem z _ a (y :: b) (Nat.le_refl _)).1 hz with hz | hz
        · exact ha'.1 z hz
        · rcases List.mem_cons.1 hz with rfl | hz
          · exact hxy
          · have := hb'.1 z hz; omega
      · split
        · rename_i e
          subst e
          refine List.pairwise_cons.2 ⟨fun z hz => ?_, ih a b (by omega) ha'.2 hb'.2⟩
          rcases (mrg_mem z _ a b (Nat.le_refl _)).1 hz with hz | hz
          · exact ha'.1 z hz
          · exact hb'.1 z hz
        · rename_i h1 h2
          refine List.pairwise_cons.2 ⟨fun z hz => ?_, ih (x :: a) b (by simp only [List.length_cons]; omega) ha hb'.2⟩
          rcases (mrg_mem z _ (x :: a) b (Nat.le_refl _)).1 hz with hz | hz
          · rcases List.mem_cons.1 hz with rfl | hz
            · omega
            · have := ha'.1 z hz; omega
          · exact hb'.1 z hz
theorem mrg_asc (P Q : Nat → Bool) : mrg (asc P) (asc Q) = asc (fun r => P r || Q r) := by
  refine asc_of _ _ (mrg_sorted _ _ _ (Nat.le_refl _) (asc_sorted P) (asc_sorted Q)) fun x => ?_
  rw [mrg_mem x _ _ _ (Nat.le_refl _), asc_mem, asc_mem, Bool.or_eq_true]
  constructor
  · rintro (⟨h, h'⟩ | ⟨h, h'⟩)
    · exact ⟨h, .inl h'⟩
    · exact ⟨h, .inr h'⟩
  · rintro ⟨h, h' | h'⟩
    · exact .inl ⟨h, h'⟩
    · exact .inr ⟨h, h'⟩
/-- Each once, as they come. -/
def ded (acc : List Nat) (r : Nat) : List Nat := if r ∈ acc then acc else acc ++ [r]
def dedL (l : List Nat) : List Nat := l.foldl ded []
theorem dedL_snoc (l : List Nat) (r : Nat) : dedL (l ++ [r]) = ded (dedL l) r := by simp [dedL]
theorem ded_mem (acc : List Nat) (r x : Nat) : x ∈ ded acc r ↔ x ∈ acc ∨ x = r := by
  rw [ded]
  split
  · rename_i h
    exact ⟨.inl, fun h' => h'.elim id fun e => e ▸ h⟩
  · rw [List.mem_append, List.mem_singleton]
theorem dedF_mem (x : Nat) : ∀ (l acc : List Nat), x ∈ l.foldl ded acc ↔ x ∈ acc ∨ x ∈ l
  | [], acc => by simp
  | r :: l, acc => by
    rw [List.foldl_cons, dedF_mem x l (ded acc r), ded_mem, List.mem_cons, or_assoc]
theorem dedL_mem (l : List Nat) (x : Nat) : x ∈ dedL l ↔ x ∈ l := by rw [dedL, dedF_mem]; simp
theorem ded_nodup {acc : List Nat} (h : acc.Nodup) (r : Nat) : (ded acc r).Nodup := by
  rw [ded]
  split
  · exact h
  · rename_i hr
    rw [List.nodup_append]
    exact ⟨h, by simp, fun a ha b hb => by rw [List.mem_singleton.1 hb]; exact fun e => hr (e ▸ ha)⟩
theorem dedF_nodup : ∀ (l acc : List Nat), acc.Nodup → (l.foldl ded acc).Nodup
  | [], acc, h => h
  | r :: l, acc, h => dedF_nodup l (ded acc r) (ded_nodup h r)
theorem dedL_nodup (l : List Nat) : (dedL l).Nodup := dedF_nodup l [] List.nodup_nil
/-- The symbols of what DatumOf makes. -/
theorem rk_made : ∀ {L : Nat} {d : D}, Made L d → ∀ x ∈ d.pieces [], ∀ k z t ds, x.2 = D.mk k z t ds → k = 3 → t ∈ symTexts ∧ z = 0 ∧ ds = [] := by
  intro L d h x hx k z t ds e hk
  obtain ⟨r, hr, hat⟩ := pieces_at d [] x hx
  obtain ⟨L', _, hM⟩ := made_at r L d x.2 h hat
  rw [e] at hM
  subst hk
  cases hM with
  | leaf _ _ h =>
    cases h with
    | sym _ ht => exact ⟨ht, rfl, rfl⟩
theorem rk_lt {L : Nat} {d : D} (h : Made L d) : ∀ r ∈ rk d, r < 8 := fun r hr => by
  rw [rk, rkP, List.mem_filterMap] at hr
  obtain ⟨x, hx, e⟩ := hr
  obtain ⟨p, k, z, t, ds⟩ := x
  simp only [symR] at e
  split at e
  · rename_i hk
    obtain ⟨ht, _⟩ := rk_made h _ hx k z t ds rfl hk
    cases e
    exact (rank_tx ht).2
  · cases e
theorem dedL_len {L : Nat} {d : D} (h : Made L d) (l : List (List Nat × D)) (hl : ∀ x ∈ l, x ∈ d.pieces []) : (dedL (rkP l)).length ≤ 8 := by
  have h1 : ∀ r ∈ dedL (rkP l), r < 8 := fun r hr => rk_lt h r (by
    rw [dedL_mem, rkP, List.mem_filterMap] at hr
    obtain ⟨x, hx, e⟩ := hr
    rw [rk, rkP, List.mem_filterMap]
    exact ⟨x, hl x hx, e⟩)
  have h2 := List.Nodup.length_le_of_subset (dedL_nodup (rkP l)) (fun r hr => List.mem_range.2 (h1 r hr))
  rwa [List.length_range] at h2
theorem occ_sym {L : Nat} {d : D} (h : Made L d) {r : Nat} (hr : r ∈ rk d) : 0 < occN (.mk 3 0 (tx r) []) d := by
  rw [← found_len (.mk 3 0 (tx r) []) d []]
  rw [rk, rkP, List.mem_filterMap] at hr
  obtain ⟨x, hx, e⟩ := hr
  obtain ⟨p, k, z, t, ds⟩ := x
  simp only [symR] at e
  split at e
  · rename_i hk
    obtain ⟨ht, hz, hds⟩ := rk_made h _ hx k z t ds rfl hk
    cases e
    subst hk hz hds
    rw [(rank_tx ht).1]
    refine List.length_pos_of_mem (a := p) ?_
    unfold foundIn
    exact List.mem_map.2 ⟨_, List.mem_filter.2 ⟨hx, same_self _⟩, rfl⟩
  · cases e
end Go.Proofs.YtodkeaoikjjneaaGreatDoor
/- Functions of the program, written out in the reading's words (made by program; the kernel holds each against the code). -/
namespace Go.Proofs.YtodkeaoikjjneaaGreatDoor
open Go Go.Eng
variable (E : Env) (ro : Option Nat) (last : List Nat → RunF) (cl : List Nat) (a : FAct) (u : Option FrameMode) (σ : FState)
/-! caracole/datum.Symbols -/
noncomputable def r38_0U (_ : Unit) : List COp := [⟨fun a σ => fbox 28 (a.get 0) σ, (some 1), fun _ => some true⟩,
  ⟨fun a σ => .val (.slice none 0 0) σ, (some 2), fun _ => some true⟩,
  ⟨fun a σ => .val (.int .i64 0) σ, (some 3), fun _ => some true⟩]
noncomputable def r38_0 : List COp := r38_0U ()
noncomputable def r38_1U (_ : Unit) : List COp := [⟨fun a σ => .val (.func (.func 95) #[] #[(a.get 1)]) σ, (some 4), fun _ => some true⟩,
  ⟨fun a σ => .enter 94 [(a.get 4)] σ, (some 5), fun _ => some true⟩,
  ⟨fun a σ => fextract 0 (a.get 5) σ, (some 6), fun _ => some true⟩,
  ⟨fun a σ => fextract 1 (a.get 5) σ, (some 7), fun _ => some true⟩,
  ⟨fun a σ => .val (a.get 6) σ, (some 2), fun _ => some true⟩,
  ⟨fun a σ => .val (a.get 7) σ, (some 3), fun _ => some true⟩]
noncomputable def r38_1 : List COp := r38_1U ()
noncomputable def run38 (E : Env) (ro : Option Nat) (fn : FuncId) : RunF := (seqR (fops E ro r38_0) (seqR (fops E ro r38_1) retR))
theorem r38_0_go : fops E ro r38_0 a u σ = fops E ro (r38_0U ()) a u σ := rfl
theorem r38_1_go : fops E ro r38_1 a u σ = fops E ro (r38_1U ()) a u σ := rfl
theorem code38 (E : Env) (ro : Option Nat) (fn : FuncId) : code Tryz.prog nls (Tryz.f38.body.getD .skip) E ro fn = run38 E ro fn := by kernel_rfl
theorem enter38 (E : Env) (args : List Value) (u : Option FrameMode) (σ : FState) (hn : args.length ≤ (2 : Nat)) : fcall Tryz.prog nls E 38 args u σ = leaveR Tryz.prog E [.tmp 2, .tmp 3] (run38 E none 38 ⟨padTo undef 2 args, fun _ => undef, 2, 8, []⟩ u σ) := by
  rw [fcall_of (body := Tryz.f38.body.getD .skip) Tryz.func38 rfl E args u σ 2 8 (by kernel_rfl) rfl ⟨hn, by decide⟩, code38]
  rfl
/-! caracole/datum.Symbols$1 -/
noncomputable def r95_0U (_ : Unit) : List COp := [⟨fun a σ => .val (.slice none 0 0) σ, (some 1), fun _ => some true⟩]
noncomputable def r95_0 : List COp := r95_0U ()
noncomputable def r95_1U (_ : Unit) : List COp := [⟨fun a σ => fload (some 4) (a.get 0) σ, (some 2), fun _ => some true⟩,
  ⟨fun a σ => .enter 60 [(a.get 2)] σ, (some 3), fun _ => some true⟩]
noncomputable def r95_1 : List COp := r95_1U ()
noncomputable def r95_2U (_ : Unit) : List COp := [⟨fun a σ => fload (some 4) (a.get 0) σ, (some 4), fun _ => some true⟩,
  ⟨fun a σ => .enter 97 [(a.get 4)] σ, (some 5), fun _ => some true⟩,
  ⟨fun a σ => .enter 96 [(a.get 5)] σ, (some 6), fun _ => some true⟩,
  ⟨fun a σ => .val (a.get 6) σ, (some 1), fun _ => some true⟩]
noncomputable def r95_2 : List COp := r95_2U ()
noncomputable def run95 (E : Env) (ro : Option Nat) (fn : FuncId) : RunF := (seqR (fops E ro r95_0) (seqR (fops E ro r95_1) (seqR (fops E ro r95_2) retR)))
theorem r95_0_go : fops E ro r95_0 a u σ = fops E ro (r95_0U ()) a u σ := rfl
theorem r95_1_go : fops E ro r95_1 a u σ = fops E ro (r95_1U ()) a u σ := rfl
theorem r95_2_go : fops E ro r95_2 a u σ = fops E ro (r95_2U ()) a u σ := rfl
theorem code95 (E : Env) (ro : Option Nat) (fn : FuncId) : code Tryz.prog nls (Tryz.f95.body.getD .skip) E ro fn = run95 E ro fn := by kernel_rfl
theorem enter95 (E : Env) (args : List Value) (u : Option FrameMode) (σ : FState) (hn : args.length ≤ (1 : Nat)) : fcall Tryz.prog nls E 95 args u σ = leaveR Tryz.prog E [.tmp 1] (run95 E none 95 ⟨padTo undef 1 args, fun _ => undef, 1, 7, []⟩ u σ) := by
  rw [fcall_of (body := Tryz.f95.body.getD .skip) Tryz.func95 rfl E args u σ 1 7 (by kernel_rfl) rfl ⟨hn, by decide⟩, code95]
  rfl
/-! caracole/datum.names -/
noncomputable def r97_0U (_ : Unit) : List COp := [⟨fun a σ => fbox 28 (a.get 0) σ, (some 1), fun _ => some true⟩,
  ⟨fun a σ => .val .nilFunc σ, (some 2), fun _ => some true⟩]
noncomputable def r97_0 : List COp := r97_0U ()
noncomputable def r97_1U (_ : Unit) : List COp := [⟨fun a σ => .val (.func (.func 124) #[] #[(a.get 1)]) σ, (some 3), fun _ => some true⟩,
  ⟨fun a σ => .val (a.get 3) σ, (some 2), fun _ => some true⟩]
noncomputable def r97_1 : List COp := r97_1U ()
noncomputable def run97 (E : Env) (ro : Option Nat) (fn : FuncId) : RunF := (seqR (fops E ro r97_0) (seqR (fops E ro r97_1) retR))
theorem r97_0_go : fops E ro r97_0 a u σ = fops E ro (r97_0U ()) a u σ := rfl
theorem r97_1_go : fops E ro r97_1 a u σ = fops E ro (r97_1U ()) a u σ := rfl
theorem code97 (E : Env) (ro : Option Nat) (fn : FuncId) : code Tryz.prog nls (Tryz.f97.body.getD .skip) E ro fn = run97 E ro fn := by kernel_rfl
theorem enter97 (E : Env) (args : List Value) (u : Option FrameMode) (σ : FState) (hn : args.length ≤ (2 : Nat)) : fcall Tryz.prog nls E 97 args u σ = leaveR Tryz.prog E [.tmp 2] (run97 E none 97 ⟨padTo undef 2 args, fun _ => undef, 2, 4, []⟩ u σ) := by
  rw [fcall_of (body := Tryz.f97.body.getD .skip) Tryz.func97 rfl E args u σ 2 4 (by kernel_rfl) rfl ⟨hn, by decide⟩, code97]
  rfl
/-! caracole/datum.names$1 -/
noncomputable def r124_0U (_ : Unit) : List COp := [⟨fun a σ => fbox 159 (a.get 0) σ, (some 2), fun _ => some true⟩]
noncomputable def r124_0 : List COp := r124_0U ()
noncomputable def r124_1U (_ : Unit) : List COp := [⟨fun a σ => fload (some 4) (a.get 1) σ, (some 7), fun _ => some true⟩,
  ⟨fun a σ => .enter 110 [(a.get 7)] σ, (some 8), fun _ => some true⟩]
noncomputable def r124_1 : List COp := r124_1U ()
noncomputable def r124_2U (_ : Unit) : List COp := [⟨fun a σ => newCells [(.int .i64 0), (.int .i64 0), (.string ⟨#[]⟩), (.slice none 0 0)] 28 none σ, (some 4), fun _ => some true⟩,
  ⟨fun a σ => fstore 4 (a.get 4) (a.get 10) σ, none, fun _ => some true⟩]
noncomputable def r124_2 : List COp := r124_2U ()
noncomputable def r124_3U (_ : Unit) : List COp := [⟨fun a σ => fload (some 4) (a.get 4) σ, (some 12), fun _ => some true⟩,
  ⟨fun a σ => .enter 121 [(a.get 12)] σ, (some 13), fun _ => some true⟩,
  ⟨fun a σ => fassert Tryz.prog (a.get 13) 161 true σ, (some 14), fun _ => some true⟩,
  ⟨fun a σ => .val (a.get 14) σ, (some 11), fun _ => some true⟩,
  ⟨fun a σ => fextract 0 (a.get 11) σ, (some 15), fun _ => some true⟩,
  ⟨fun a σ => fextract 1 (a.get 11) σ, (some 16), fun _ => some true⟩,
  ⟨fun a σ => newCells [(.int .i64 0), (.int .i64 0), (.string ⟨#[]⟩), (.slice none 0 0)] 161 none σ, (some 5), fun _ => some true⟩,
  ⟨fun a σ => fstore 4 (a.get 5) (a.get 15) σ, none, fun _ => some true⟩,
  ⟨fun a σ => .val (a.get 16) σ, (some 6), fun _ => some true⟩]
noncomputable def r124_3 : List COp := r124_3U ()
noncomputable def r124_4U (_ : Unit) : List COp := [⟨fun a σ => .val (a.get 6) σ, (some 17), fun _ => some true⟩,
  ⟨fun a σ => .val (a.get 17) σ, (some 18), fun _ => some true⟩,
  ⟨fun a σ => ffield 0 (a.get 5) σ, (some 19), fun a => gd (a.get 18) true⟩,
  ⟨fun a σ => ffield 0 (a.get 19) σ, (some 20), fun a => gd (a.get 18) true⟩,
  ⟨fun a σ => fload none (a.get 20) σ, (some 21), fun a => gd (a.get 18) true⟩,
  ⟨fun a σ => i_eql Tryz.prog 3 (.tmp 21) (.const (.int .i64 3)) (a.get 21) (.int .i64 3) σ, (some 22), fun a => gd (a.get 18) true⟩,
  ⟨fun a σ => fpick (a.get 18) (a.get 22) (.bool false) σ, (some 23), fun _ => some true⟩,
  ⟨fun a σ => .val (a.get 23) σ, (some 24), fun _ => some true⟩,
  ⟨fun a σ => fload none (a.get 2) σ, (some 25), fun a => gd (a.get 24) true⟩,
  ⟨fun a σ => ffield 0 (a.get 5) σ, (some 26), fun a => gd (a.get 24) true⟩,
  ⟨fun a σ => ffield 2 (a.get 26) σ, (some 27), fun a => gd (a.get 24) true⟩,
  ⟨fun a σ => fload none (a.get 27) σ, (some 28), fun a => gd (a.get 24) true⟩,
  ⟨fun a σ => fcallV (a.get 25) [(a.get 28)] σ, (some 29), fun a => gd (a.get 24) true⟩,
  ⟨fun a σ => fun1 Tryz.prog (Op.unary .not) (a.get 29) σ, (some 30), fun a => gd (a.get 24) true⟩,
  ⟨fun a σ => fpick (a.get 24) (a.get 30) (.bool false) σ, (some 31), fun _ => some true⟩]
noncomputable def r124_4 : List COp := r124_4U ()
noncomputable def c124_0a : Code := ((rangesOf (Tryz.f124.body.getD .skip)).getD 0 (.skip, .skip)).1
noncomputable def c124_0b : Code := ((rangesOf (Tryz.f124.body.getD .skip)).getD 0 (.skip, .skip)).2
noncomputable def run124 (E : Env) (ro : Option Nat) (fn : FuncId) : RunF := (seqR (fops E ro r124_0) (seqR (fops E ro r124_1) (blockR 0 (frange E ro fn (.tmp 8) [9, 10] c124_0a c124_0b))))
theorem r124_0_go : fops E ro r124_0 a u σ = fops E ro (r124_0U ()) a u σ := rfl
theorem r124_1_go : fops E ro r124_1 a u σ = fops E ro (r124_1U ()) a u σ := rfl
theorem r124_2_go : fops E ro r124_2 a u σ = fops E ro (r124_2U ()) a u σ := rfl
theorem r124_3_go : fops E ro r124_3 a u σ = fops E ro (r124_3U ()) a u σ := rfl
theorem r124_4_go : fops E ro r124_4 a u σ = fops E ro (r124_4U ()) a u σ := rfl
theorem c124_0a_go (E : Env) (ro : Option Nat) (fn : FuncId) : code Tryz.prog nls c124_0a E ro fn = (fops E ro r124_2) := by kernel_rfl
theorem c124_0b_go (E : Env) (ro : Option Nat) (fn : FuncId) : code Tryz.prog nls c124_0b E ro fn = (blockR 1 (seqR (fops E ro r124_3) (seqR (fops E ro r124_4) (condR (fun a => (a.get 31)) retR skipR)))) := by kernel_rfl
theorem code124 (E : Env) (ro : Option Nat) (fn : FuncId) : code Tryz.prog nls (Tryz.f124.body.getD .skip) E ro fn = run124 E ro fn := by kernel_rfl
theorem enter124 (E : Env) (args : List Value) (u : Option FrameMode) (σ : FState) (hn : args.length ≤ (7 : Nat)) : fcall Tryz.prog nls E 124 args u σ = leaveR Tryz.prog E [] (run124 E none 124 ⟨padTo undef 7 args, fun _ => undef, 7, 32, []⟩ u σ) := by
  rw [fcall_of (body := Tryz.f124.body.getD .skip) Tryz.func124 rfl E args u σ 7 32 (by kernel_rfl) rfl ⟨hn, by decide⟩, code124]
  rfl
/-! caracole/datum.ascending[string] -/
noncomputable def r96_0U (_ : Unit) : List COp := [⟨fun a σ => .val (.slice none 0 0) σ, (some 2), fun _ => some true⟩]
noncomputable def r96_0 : List COp := r96_0U ()
noncomputable def r96_1U (_ : Unit) : List COp := [⟨fun a σ => .val (.map (some σ.next)) (σ.push (.map [] 0) none), (some 8), fun _ => some true⟩,
  ⟨fun a σ => newCells [(.map none)] 156 none σ, (some 3), fun _ => some true⟩,
  ⟨fun a σ => fstore 1 (a.get 3) (a.get 8) σ, none, fun _ => some true⟩]
noncomputable def r96_1 : List COp := r96_1U ()
noncomputable def r96_2U (_ : Unit) : List COp := [⟨fun a σ => newCells [(.slice none 0 0)] 64 none σ, (some 4), fun _ => some true⟩]
noncomputable def r96_2 : List COp := r96_2U ()
noncomputable def r96_3U (_ : Unit) : List COp := [⟨fun a σ => .val (a.get 0) σ, (some 9), fun _ => some true⟩]
noncomputable def r96_3 : List COp := r96_3U ()
noncomputable def r96_4U (_ : Unit) : List COp := [⟨fun a σ => .val (a.get 10) σ, (some 5), fun _ => some true⟩]
noncomputable def r96_4 : List COp := r96_4U ()
noncomputable def r96_5U (_ : Unit) : List COp := [⟨fun a σ => fload none (a.get 3) σ, (some 12), fun _ => some true⟩,
  ⟨fun a σ => .val (a.get 5) σ, (some 13), fun _ => some true⟩,
  ⟨fun a σ => (cop Tryz.prog (.lookup 156 (.tmp 12) (.tmp 13) true)).un a σ, (some 14), fun _ => some true⟩,
  ⟨fun a σ => .val (a.get 14) σ, (some 11), fun _ => some true⟩,
  ⟨fun a σ => fextract 0 (a.get 11) σ, (some 15), fun _ => some true⟩,
  ⟨fun a σ => fextract 1 (a.get 11) σ, (some 16), fun _ => some true⟩,
  ⟨fun a σ => .val (a.get 15) σ, (some 6), fun _ => some true⟩,
  ⟨fun a σ => .val (a.get 16) σ, (some 7), fun _ => some true⟩]
noncomputable def r96_5 : List COp := r96_5U ()
noncomputable def r96_6U (_ : Unit) : List COp := [⟨fun a σ => .val (a.get 7) σ, (some 17), fun _ => some true⟩,
  ⟨fun a σ => fun1 Tryz.prog (Op.unary .not) (a.get 17) σ, (some 18), fun _ => some true⟩]
noncomputable def r96_6 : List COp := r96_6U ()
noncomputable def r96_7U (_ : Unit) : List COp := [⟨fun a σ => fload none (a.get 3) σ, (some 19), fun _ => some true⟩,
  ⟨fun a σ => .val (a.get 5) σ, (some 20), fun _ => some true⟩,
  ⟨fun a σ => (cop Tryz.prog (.mapUpdate 156 (.tmp 19) (.tmp 20) (.const (.bool true)))).un a σ, none, fun _ => some true⟩]
noncomputable def r96_7 : List COp := r96_7U ()
noncomputable def r96_8U (_ : Unit) : List COp := [⟨fun a σ => fload none (a.get 4) σ, (some 21), fun _ => some true⟩,
  ⟨fun a σ => .val (a.get 5) σ, (some 22), fun _ => some true⟩,
  ⟨fun a σ => fbuildSlice 9 1 1 [(.string ⟨#[]⟩)] [(0, (a.get 22))] σ, (some 23), fun _ => some true⟩,
  ⟨fun a σ => fappend 9 1 16 (a.get 21) (a.get 23) σ, (some 24), fun _ => some true⟩,
  ⟨fun a σ => fstore 1 (a.get 4) (a.get 24) σ, none, fun _ => some true⟩]
noncomputable def r96_8 : List COp := r96_8U ()
noncomputable def c96_0a : Code := ((rangesOf (Tryz.f96.body.getD .skip)).getD 0 (.skip, .skip)).1
noncomputable def c96_0b : Code := ((rangesOf (Tryz.f96.body.getD .skip)).getD 0 (.skip, .skip)).2
noncomputable def r96_9U (_ : Unit) : List COp := [⟨fun a σ => fload none (a.get 4) σ, (some 25), fun _ => some true⟩,
  ⟨fun a σ => .enter 123 [(a.get 25)] σ, (some 26), fun _ => some true⟩]
noncomputable def r96_9 : List COp := r96_9U ()
noncomputable def r96_10U (_ : Unit) : List COp := [⟨fun a σ => fload none (a.get 4) σ, (some 27), fun _ => some true⟩,
  ⟨fun a σ => .val (a.get 27) σ, (some 2), fun _ => some true⟩]
noncomputable def r96_10 : List COp := r96_10U ()
noncomputable def run96 (E : Env) (ro : Option Nat) (fn : FuncId) : RunF := (seqR (fops E ro r96_0) (seqR (fops E ro r96_1) (seqR (fops E ro r96_2) (seqR (seqR (fops E ro r96_3) (blockR 0 (frange E ro fn (.tmp 9) [10] c96_0a c96_0b))) (seqR (fops E ro r96_9) (seqR (fops E ro r96_10) retR))))))
theorem r96_0_go : fops E ro r96_0 a u σ = fops E ro (r96_0U ()) a u σ := rfl
theorem r96_1_go : fops E ro r96_1 a u σ = fops E ro (r96_1U ()) a u σ := rfl
theorem r96_2_go : fops E ro r96_2 a u σ = fops E ro (r96_2U ()) a u σ := rfl
theorem r96_3_go : fops E ro r96_3 a u σ = fops E ro (r96_3U ()) a u σ := rfl
theorem r96_4_go : fops E ro r96_4 a u σ = fops E ro (r96_4U ()) a u σ := rfl
theorem r96_5_go : fops E ro r96_5 a u σ = fops E ro (r96_5U ()) a u σ := rfl
theorem r96_6_go : fops E ro r96_6 a u σ = fops E ro (r96_6U ()) a u σ := rfl
theorem r96_7_go : fops E ro r96_7 a u σ = fops E ro (r96_7U ()) a u σ := rfl
theorem r96_8_go : fops E ro r96_8 a u σ = fops E ro (r96_8U ()) a u σ := rfl
theorem c96_0a_go (E : Env) (ro : Option Nat) (fn : FuncId) : code Tryz.prog nls c96_0a E ro fn = (fops E ro r96_4) := by kernel_rfl
theorem c96_0b_go (E : Env) (ro : Option Nat) (fn : FuncId) : code Tryz.prog nls c96_0b E ro fn = (blockR 1 (seqR (fops E ro r96_5) (seqR (fops E ro r96_6) (condR (fun a => (a.get 18)) (seqR (fops E ro r96_7) (fops E ro r96_8)) skipR)))) := by kernel_rfl
theorem r96_9_go : fops E ro r96_9 a u σ = fops E ro (r96_9U ()) a u σ := rfl
theorem r96_10_go : fops E ro r96_10 a u σ = fops E ro (r96_10U ()) a u σ := rfl
theorem code96 (E : Env) (ro : Option Nat) (fn : FuncId) : code Tryz.prog nls (Tryz.f96.body.getD .skip) E ro fn = run96 E ro fn := by kernel_rfl
theorem enter96 (E : Env) (args : List Value) (u : Option FrameMode) (σ : FState) (hn : args.length ≤ (8 : Nat)) : fcall Tryz.prog nls E 96 args u σ = leaveR Tryz.prog E [.tmp 2] (run96 E none 96 ⟨padTo undef 8 args, fun _ => undef, 8, 28, []⟩ u σ) := by
  rw [fcall_of (body := Tryz.f96.body.getD .skip) Tryz.func96 rfl E args u σ 8 28 (by kernel_rfl) rfl ⟨hn, by decide⟩, code96]
  rfl
/-! slices.Sort[[]string,string] -/
noncomputable def r123_0U (_ : Unit) : List COp := [⟨fun a σ => .val (a.get 0) σ, (some 3), fun _ => some true⟩,
  ⟨fun a σ => flenL (a.get 3) σ, (some 4), fun _ => some true⟩,
  ⟨fun a σ => .val (a.get 4) σ, (some 2), fun _ => some true⟩]
noncomputable def r123_0 : List COp := r123_0U ()
noncomputable def r123_1U (_ : Unit) : List COp := [⟨fun a σ => .val (a.get 0) σ, (some 5), fun _ => some true⟩,
  ⟨fun a σ => .val (a.get 2) σ, (some 6), fun _ => some true⟩,
  ⟨fun a σ => .val (a.get 2) σ, (some 7), fun _ => some true⟩,
  ⟨fun a σ => fun1 Tryz.prog (convert 3 119) (a.get 7) σ, (some 8), fun _ => some true⟩,
  ⟨fun a σ => .enter 146 [(a.get 8)] σ, (some 9), fun _ => some true⟩,
  ⟨fun a σ => .enter 145 [(a.get 5), (.int .i64 0), (a.get 6), (a.get 9)] σ, (some 10), fun _ => some true⟩]
noncomputable def r123_1 : List COp := r123_1U ()
noncomputable def run123 (E : Env) (ro : Option Nat) (fn : FuncId) : RunF := (seqR (fops E ro r123_0) (fops E ro r123_1))
theorem r123_0_go : fops E ro r123_0 a u σ = fops E ro (r123_0U ()) a u σ := rfl
theorem r123_1_go : fops E ro r123_1 a u σ = fops E ro (r123_1U ()) a u σ := rfl
theorem code123 (E : Env) (ro : Option Nat) (fn : FuncId) : code Tryz.prog nls (Tryz.f123.body.getD .skip) E ro fn = run123 E ro fn := by kernel_rfl
theorem enter123 (E : Env) (args : List Value) (u : Option FrameMode) (σ : FState) (hn : args.length ≤ (3 : Nat)) : fcall Tryz.prog nls E 123 args u σ = leaveR Tryz.prog E [] (run123 E none 123 ⟨padTo undef 3 args, fun _ => undef, 3, 11, []⟩ u σ) := by
  rw [fcall_of (body := Tryz.f123.body.getD .skip) Tryz.func123 rfl E args u σ 3 11 (by kernel_rfl) rfl ⟨hn, by decide⟩, code123]
  rfl
/-! slices.pdqsortOrdered[string] -/
noncomputable def r145_0U (_ : Unit) : List COp := [⟨fun a σ => .val (.bool true) σ, (some 8), fun _ => some true⟩]
noncomputable def r145_0 : List COp := r145_0U ()
noncomputable def r145_1U (_ : Unit) : List COp := [⟨fun a σ => .val (.bool true) σ, (some 9), fun _ => some true⟩]
noncomputable def r145_1 : List COp := r145_1U ()
noncomputable def r145_2U (_ : Unit) : List COp := [⟨fun a σ => .val (a.get 2) σ, (some 19), fun _ => some true⟩,
  ⟨fun a σ => .val (a.get 1) σ, (some 20), fun _ => some true⟩,
  ⟨fun a σ => i_sub Tryz.prog 3 (.tmp 19) (.tmp 20) (a.get 19) (a.get 20) σ, (some 21), fun _ => some true⟩,
  ⟨fun a σ => .val (a.get 21) σ, (some 10), fun _ => some true⟩]
noncomputable def r145_2 : List COp := r145_2U ()
noncomputable def r145_3U (_ : Unit) : List COp := [⟨fun a σ => .val (a.get 10) σ, (some 22), fun _ => some true⟩,
  ⟨fun a σ => i_leq Tryz.prog 3 (.tmp 22) (.const (.int .i64 12)) (a.get 22) (.int .i64 12) σ, (some 23), fun _ => some true⟩]
noncomputable def r145_3 : List COp := r145_3U ()
noncomputable def r145_4U (_ : Unit) : List COp := [⟨fun a σ => .val (a.get 0) σ, (some 24), fun _ => some true⟩,
  ⟨fun a σ => .val (a.get 1) σ, (some 25), fun _ => some true⟩,
  ⟨fun a σ => .val (a.get 2) σ, (some 26), fun _ => some true⟩,
  ⟨fun a σ => .enter 151 [(a.get 24), (a.get 25), (a.get 26)] σ, (some 27), fun _ => some true⟩]
noncomputable def r145_4 : List COp := r145_4U ()
noncomputable def r145_5U (_ : Unit) : List COp := [⟨fun a σ => .val (a.get 3) σ, (some 28), fun _ => some true⟩,
  ⟨fun a σ => i_eql Tryz.prog 3 (.tmp 28) (.const (.int .i64 0)) (a.get 28) (.int .i64 0) σ, (some 29), fun _ => some true⟩]
noncomputable def r145_5 : List COp := r145_5U ()
noncomputable def r145_6U (_ : Unit) : List COp := [⟨fun a σ => .val (a.get 0) σ, (some 30), fun _ => some true⟩,
  ⟨fun a σ => .val (a.get 1) σ, (some 31), fun _ => some true⟩,
  ⟨fun a σ => .val (a.get 2) σ, (some 32), fun _ => some true⟩,
  ⟨fun a σ => .enter 152 [(a.get 30), (a.get 31), (a.get 32)] σ, (some 33), fun _ => some true⟩]
noncomputable def r145_6 : List COp := r145_6U ()
noncomputable def r145_7U (_ : Unit) : List COp := [⟨fun a σ => .val (a.get 8) σ, (some 34), fun _ => some true⟩,
  ⟨fun a σ => fun1 Tryz.prog (Op.unary .not) (a.get 34) σ, (some 35), fun _ => some true⟩]
noncomputable def r145_7 : List COp := r145_7U ()
noncomputable def r145_8U (_ : Unit) : List COp := [⟨fun a σ => .val (a.get 0) σ, (some 36), fun _ => some true⟩,
  ⟨fun a σ => .val (a.get 1) σ, (some 37), fun _ => some true⟩,
  ⟨fun a σ => .val (a.get 2) σ, (some 38), fun _ => some true⟩,
  ⟨fun a σ => .enter 153 [(a.get 36), (a.get 37), (a.get 38)] σ, (some 39), fun _ => some true⟩]
noncomputable def r145_8 : List COp := r145_8U ()
noncomputable def r145_9U (_ : Unit) : List COp := [⟨fun a σ => .val (a.get 3) σ, (some 40), fun _ => some true⟩,
  ⟨fun a σ => i_sub Tryz.prog 3 (.tmp 40) (.const (.int .i64 1)) (a.get 40) (.int .i64 1) σ, (some 41), fun _ => some true⟩,
  ⟨fun a σ => .val (a.get 41) σ, (some 3), fun _ => some true⟩]
noncomputable def r145_9 : List COp := r145_9U ()
noncomputable def r145_10U (_ : Unit) : List COp := [⟨fun a σ => .val (a.get 0) σ, (some 43), fun _ => some true⟩,
  ⟨fun a σ => .val (a.get 1) σ, (some 44), fun _ => some true⟩,
  ⟨fun a σ => .val (a.get 2) σ, (some 45), fun _ => some true⟩,
  ⟨fun a σ => .enter 154 [(a.get 43), (a.get 44), (a.get 45)] σ, (some 46), fun _ => some true⟩,
  ⟨fun a σ => .val (a.get 46) σ, (some 42), fun _ => some true⟩,
  ⟨fun a σ => fextract 0 (a.get 42) σ, (some 47), fun _ => some true⟩,
  ⟨fun a σ => fextract 1 (a.get 42) σ, (some 48), fun _ => some true⟩,
  ⟨fun a σ => .val (a.get 47) σ, (some 11), fun _ => some true⟩,
  ⟨fun a σ => .val (a.get 48) σ, (some 12), fun _ => some true⟩]
noncomputable def r145_10 : List COp := r145_10U ()
noncomputable def r145_11U (_ : Unit) : List COp := [⟨fun a σ => .val (a.get 12) σ, (some 49), fun _ => some true⟩,
  ⟨fun a σ => i_eql Tryz.prog 188 (.tmp 49) (.const (.int .i64 2)) (a.get 49) (.int .i64 2) σ, (some 50), fun _ => some true⟩]
noncomputable def r145_11 : List COp := r145_11U ()
noncomputable def r145_12U (_ : Unit) : List COp := [⟨fun a σ => .val (a.get 0) σ, (some 51), fun _ => some true⟩,
  ⟨fun a σ => .val (a.get 1) σ, (some 52), fun _ => some true⟩,
  ⟨fun a σ => .val (a.get 2) σ, (some 53), fun _ => some true⟩,
  ⟨fun a σ => .enter 155 [(a.get 51), (a.get 52), (a.get 53)] σ, (some 54), fun _ => some true⟩]
noncomputable def r145_12 : List COp := r145_12U ()
noncomputable def r145_13U (_ : Unit) : List COp := [⟨fun a σ => .val (a.get 2) σ, (some 55), fun _ => some true⟩,
  ⟨fun a σ => i_sub Tryz.prog 3 (.tmp 55) (.const (.int .i64 1)) (a.get 55) (.int .i64 1) σ, (some 56), fun _ => some true⟩,
  ⟨fun a σ => .val (a.get 11) σ, (some 57), fun _ => some true⟩,
  ⟨fun a σ => .val (a.get 1) σ, (some 58), fun _ => some true⟩,
  ⟨fun a σ => i_sub Tryz.prog 3 (.tmp 57) (.tmp 58) (a.get 57) (a.get 58) σ, (some 59), fun _ => some true⟩,
  ⟨fun a σ => i_sub Tryz.prog 3 (.tmp 56) (.tmp 59) (a.get 56) (a.get 59) σ, (some 60), fun _ => some true⟩,
  ⟨fun a σ => .val (a.get 60) σ, (some 11), fun _ => some true⟩]
noncomputable def r145_13 : List COp := r145_13U ()
noncomputable def r145_14U (_ : Unit) : List COp := [⟨fun a σ => .val (.int .i64 1) σ, (some 12), fun _ => some true⟩]
noncomputable def r145_14 : List COp := r145_14U ()
noncomputable def r145_15U (_ : Unit) : List COp := [⟨fun a σ => .val (a.get 8) σ, (some 61), fun _ => some true⟩,
  ⟨fun a σ => .val (a.get 61) σ, (some 62), fun _ => some true⟩,
  ⟨fun a σ => .val (a.get 9) σ, (some 63), fun a => gd (a.get 62) true⟩,
  ⟨fun a σ => fpick (a.get 62) (a.get 63) (.bool false) σ, (some 64), fun _ => some true⟩,
  ⟨fun a σ => .val (a.get 64) σ, (some 65), fun _ => some true⟩,
  ⟨fun a σ => .val (a.get 12) σ, (some 66), fun a => gd (a.get 65) true⟩,
  ⟨fun a σ => i_eql Tryz.prog 188 (.tmp 66) (.const (.int .i64 1)) (a.get 66) (.int .i64 1) σ, (some 67), fun a => gd (a.get 65) true⟩,
  ⟨fun a σ => fpick (a.get 65) (a.get 67) (.bool false) σ, (some 68), fun _ => some true⟩]
noncomputable def r145_15 : List COp := r145_15U ()
noncomputable def r145_16U (_ : Unit) : List COp := [⟨fun a σ => .val (a.get 0) σ, (some 69), fun _ => some true⟩,
  ⟨fun a σ => .val (a.get 1) σ, (some 70), fun _ => some true⟩,
  ⟨fun a σ => .val (a.get 2) σ, (some 71), fun _ => some true⟩,
  ⟨fun a σ => .enter 156 [(a.get 69), (a.get 70), (a.get 71)] σ, (some 72), fun _ => some true⟩]
noncomputable def r145_16 : List COp := r145_16U ()
noncomputable def r145_17U (_ : Unit) : List DOp := [⟨fun a σ => .val (a.get 1) σ, (some 73), fun _ => some true, (some 0), false⟩,
  ⟨fun a σ => i_gtr Tryz.prog 3 (.tmp 73) (.const (.int .i64 0)) (a.get 73) (.int .i64 0) σ, (some 74), fun _ => some true, (some 0), false⟩,
  ⟨fun a σ => .val (a.get 74) σ, (some 75), fun _ => some true, (some 0), false⟩,
  ⟨fun a σ => .val (a.get 0) σ, (some 76), fun a => gd (a.get 75) true, (some 0), false⟩,
  ⟨fun a σ => .val (a.get 1) σ, (some 77), fun a => gd (a.get 75) true, (some 0), false⟩,
  ⟨fun a σ => i_sub Tryz.prog 3 (.tmp 77) (.const (.int .i64 1)) (a.get 77) (.int .i64 1) σ, (some 78), fun a => gd (a.get 75) true, (some 0), false⟩,
  ⟨fun a σ => findex (none, 1) (a.get 76) (a.get 78) σ, (some 79), fun a => gd (a.get 75) true, (some 0), false⟩,
  ⟨fun a σ => fload none (a.get 79) σ, (some 80), fun a => gd (a.get 75) true, (some 0), false⟩,
  ⟨fun a σ => .val (a.get 0) σ, (some 81), fun a => gd (a.get 75) true, (some 0), false⟩,
  ⟨fun a σ => .val (a.get 11) σ, (some 82), fun a => gd (a.get 75) true, (some 0), false⟩,
  ⟨fun a σ => findex (none, 1) (a.get 81) (a.get 82) σ, (some 83), fun a => gd (a.get 75) true, (some 0), false⟩,
  ⟨fun a σ => fload none (a.get 83) σ, (some 84), fun a => gd (a.get 75) true, (some 0), false⟩,
  ⟨fun a σ => .enter 157 [(a.get 80), (a.get 84)] σ, (some 85), fun a => gd (a.get 75) true, none, true⟩,
  ⟨fun a σ => fun1 Tryz.prog (Op.unary .not) (a.get 85) σ, (some 86), fun a => gd (a.get 75) true, (some 1), false⟩,
  ⟨fun a σ => fpick (a.get 75) (a.get 86) (.bool false) σ, (some 87), fun _ => some true, (some 1), false⟩]
noncomputable def r145_17 : List DOp := r145_17U ()
noncomputable def r145_18U (_ : Unit) : List COp := [⟨fun a σ => .val (a.get 0) σ, (some 88), fun _ => some true⟩,
  ⟨fun a σ => .val (a.get 1) σ, (some 89), fun _ => some true⟩,
  ⟨fun a σ => .val (a.get 2) σ, (some 90), fun _ => some true⟩,
  ⟨fun a σ => .val (a.get 11) σ, (some 91), fun _ => some true⟩,
  ⟨fun a σ => .enter 158 [(a.get 88), (a.get 89), (a.get 90), (a.get 91)] σ, (some 92), fun _ => some true⟩,
  ⟨fun a σ => .val (a.get 92) σ, (some 13), fun _ => some true⟩]
noncomputable def r145_18 : List COp := r145_18U ()
noncomputable def r145_19U (_ : Unit) : List COp := [⟨fun a σ => .val (a.get 13) σ, (some 93), fun _ => some true⟩,
  ⟨fun a σ => .val (a.get 93) σ, (some 1), fun _ => some true⟩]
noncomputable def r145_19 : List COp := r145_19U ()
noncomputable def r145_20U (_ : Unit) : List COp := [⟨fun a σ => .val (a.get 0) σ, (some 95), fun _ => some true⟩,
  ⟨fun a σ => .val (a.get 1) σ, (some 96), fun _ => some true⟩,
  ⟨fun a σ => .val (a.get 2) σ, (some 97), fun _ => some true⟩,
  ⟨fun a σ => .val (a.get 11) σ, (some 98), fun _ => some true⟩,
  ⟨fun a σ => .enter 159 [(a.get 95), (a.get 96), (a.get 97), (a.get 98)] σ, (some 99), fun _ => some true⟩,
  ⟨fun a σ => .val (a.get 99) σ, (some 94), fun _ => some true⟩,
  ⟨fun a σ => fextract 0 (a.get 94) σ, (some 100), fun _ => some true⟩,
  ⟨fun a σ => fextract 1 (a.get 94) σ, (some 101), fun _ => some true⟩,
  ⟨fun a σ => .val (a.get 100) σ, (some 14), fun _ => some true⟩,
  ⟨fun a σ => .val (a.get 101) σ, (some 15), fun _ => some true⟩]
noncomputable def r145_20 : List COp := r145_20U ()
noncomputable def r145_21U (_ : Unit) : List COp := [⟨fun a σ => .val (a.get 15) σ, (some 102), fun _ => some true⟩,
  ⟨fun a σ => .val (a.get 102) σ, (some 9), fun _ => some true⟩]
noncomputable def r145_21 : List COp := r145_21U ()
noncomputable def r145_22U (_ : Unit) : List COp := [⟨fun a σ => .val (a.get 14) σ, (some 103), fun _ => some true⟩,
  ⟨fun a σ => .val (a.get 1) σ, (some 104), fun _ => some true⟩,
  ⟨fun a σ => i_sub Tryz.prog 3 (.tmp 103) (.tmp 104) (a.get 103) (a.get 104) σ, (some 105), fun _ => some true⟩,
  ⟨fun a σ => .val (a.get 2) σ, (some 106), fun _ => some true⟩,
  ⟨fun a σ => .val (a.get 14) σ, (some 107), fun _ => some true⟩,
  ⟨fun a σ => i_sub Tryz.prog 3 (.tmp 106) (.tmp 107) (a.get 106) (a.get 107) σ, (some 108), fun _ => some true⟩,
  ⟨fun a σ => .val (a.get 105) σ, (some 16), fun _ => some true⟩,
  ⟨fun a σ => .val (a.get 108) σ, (some 17), fun _ => some true⟩]
noncomputable def r145_22 : List COp := r145_22U ()
noncomputable def r145_23U (_ : Unit) : List COp := [⟨fun a σ => .val (a.get 10) σ, (some 109), fun _ => some true⟩,
  ⟨fun a σ => fbin0 Tryz.prog .quo 3 (.tmp 109) (.const (.int .i64 8)) (a.get 109) (.int .i64 8) σ, (some 110), fun _ => some true⟩,
  ⟨fun a σ => .val (a.get 110) σ, (some 18), fun _ => some true⟩]
noncomputable def r145_23 : List COp := r145_23U ()
noncomputable def r145_24U (_ : Unit) : List COp := [⟨fun a σ => .val (a.get 16) σ, (some 111), fun _ => some true⟩,
  ⟨fun a σ => .val (a.get 17) σ, (some 112), fun _ => some true⟩,
  ⟨fun a σ => i_lss Tryz.prog 3 (.tmp 111) (.tmp 112) (a.get 111) (a.get 112) σ, (some 113), fun _ => some true⟩]
noncomputable def r145_24 : List COp := r145_24U ()
noncomputable def r145_25U (_ : Unit) : List COp := [⟨fun a σ => .val (a.get 16) σ, (some 114), fun _ => some true⟩,
  ⟨fun a σ => .val (a.get 18) σ, (some 115), fun _ => some true⟩,
  ⟨fun a σ => i_geq Tryz.prog 3 (.tmp 114) (.tmp 115) (a.get 114) (a.get 115) σ, (some 116), fun _ => some true⟩,
  ⟨fun a σ => .val (a.get 116) σ, (some 8), fun _ => some true⟩]
noncomputable def r145_25 : List COp := r145_25U ()
noncomputable def r145_26U (_ : Unit) : List COp := [⟨fun a σ => .val (a.get 0) σ, (some 117), fun _ => some true⟩,
  ⟨fun a σ => .val (a.get 1) σ, (some 118), fun _ => some true⟩,
  ⟨fun a σ => .val (a.get 14) σ, (some 119), fun _ => some true⟩,
  ⟨fun a σ => .val (a.get 3) σ, (some 120), fun _ => some true⟩,
  ⟨fun a σ => .enter 145 [(a.get 117), (a.get 118), (a.get 119), (a.get 120)] σ, (some 121), fun _ => some true⟩]
noncomputable def r145_26 : List COp := r145_26U ()
noncomputable def r145_27U (_ : Unit) : List COp := [⟨fun a σ => .val (a.get 14) σ, (some 122), fun _ => some true⟩,
  ⟨fun a σ => i_add Tryz.prog 3 (.tmp 122) (.const (.int .i64 1)) (a.get 122) (.int .i64 1) σ, (some 123), fun _ => some true⟩,
  ⟨fun a σ => .val (a.get 123) σ, (some 1), fun _ => some true⟩]
noncomputable def r145_27 : List COp := r145_27U ()
noncomputable def r145_28U (_ : Unit) : List COp := [⟨fun a σ => .val (a.get 17) σ, (some 124), fun _ => some true⟩,
  ⟨fun a σ => .val (a.get 18) σ, (some 125), fun _ => some true⟩,
  ⟨fun a σ => i_geq Tryz.prog 3 (.tmp 124) (.tmp 125) (a.get 124) (a.get 125) σ, (some 126), fun _ => some true⟩,
  ⟨fun a σ => .val (a.get 126) σ, (some 8), fun _ => some true⟩]
noncomputable def r145_28 : List COp := r145_28U ()
noncomputable def r145_29U (_ : Unit) : List COp := [⟨fun a σ => .val (a.get 0) σ, (some 127), fun _ => some true⟩,
  ⟨fun a σ => .val (a.get 14) σ, (some 128), fun _ => some true⟩,
  ⟨fun a σ => i_add Tryz.prog 3 (.tmp 128) (.const (.int .i64 1)) (a.get 128) (.int .i64 1) σ, (some 129), fun _ => some true⟩,
  ⟨fun a σ => .val (a.get 2) σ, (some 130), fun _ => some true⟩,
  ⟨fun a σ => .val (a.get 3) σ, (some 131), fun _ => some true⟩,
  ⟨fun a σ => .enter 145 [(a.get 127), (a.get 129), (a.get 130), (a.get 131)] σ, (some 132), fun _ => some true⟩]
noncomputable def r145_29 : List COp := r145_29U ()
noncomputable def r145_30U (_ : Unit) : List COp := [⟨fun a σ => .val (a.get 14) σ, (some 133), fun _ => some true⟩,
  ⟨fun a σ => .val (a.get 133) σ, (some 2), fun _ => some true⟩]
noncomputable def r145_30 : List COp := r145_30U ()
noncomputable def l145_0 (E : Env) (ro : Option Nat) (fn : FuncId) : RunF := (blockR 1 (seqR (fops E ro r145_2) (seqR (seqR (fops E ro r145_3) (condR (fun a => (a.get 23)) (seqR (fops E ro r145_4) retR) skipR)) (seqR (seqR (fops E ro r145_5) (condR (fun a => (a.get 29)) (seqR (fops E ro r145_6) retR) skipR)) (seqR (seqR (fops E ro r145_7) (condR (fun a => (a.get 35)) (seqR (fops E ro r145_8) (fops E ro r145_9)) skipR)) (seqR (fops E ro r145_10) (seqR (seqR (fops E ro r145_11) (condR (fun a => (a.get 50)) (seqR (fops E ro r145_12) (seqR (fops E ro r145_13) (fops E ro r145_14))) skipR)) (seqR (seqR (fops E ro r145_15) (condR (fun a => (a.get 68)) (seqR (fops E ro r145_16) (condR (fun a => (a.get 72)) retR skipR)) skipR)) (seqR (seqR (drawR E ro r145_17) (condR (fun a => (a.get 87)) (seqR (fops E ro r145_18) (seqR (fops E ro r145_19) (exitR 1))) skipR)) (seqR (fops E ro r145_20) (seqR (fops E ro r145_21) (seqR (fops E ro r145_22) (seqR (fops E ro r145_23) (seqR (fops E ro r145_24) (condR (fun a => (a.get 113)) (seqR (fops E ro r145_25) (seqR (fops E ro r145_26) (fops E ro r145_27))) (seqR (fops E ro r145_28) (seqR (fops E ro r145_29) (fops E ro r145_30))))))))))))))))))
noncomputable def run145 (E : Env) (ro : Option Nat) (fn : FuncId) : RunF := (seqR (fops E ro r145_0) (seqR (fops E ro r145_1) (blockR 0 (loopR (keepOf nls fn) (l145_0 E ro fn)))))
theorem r145_0_go : fops E ro r145_0 a u σ = fops E ro (r145_0U ()) a u σ := rfl
theorem r145_1_go : fops E ro r145_1 a u σ = fops E ro (r145_1U ()) a u σ := rfl
theorem r145_2_go : fops E ro r145_2 a u σ = fops E ro (r145_2U ()) a u σ := rfl
theorem r145_3_go : fops E ro r145_3 a u σ = fops E ro (r145_3U ()) a u σ := rfl
theorem r145_4_go : fops E ro r145_4 a u σ = fops E ro (r145_4U ()) a u σ := rfl
theorem code145 (E : Env) (ro : Option Nat) (fn : FuncId) : code Tryz.prog nls (Tryz.f145.body.getD .skip) E ro fn = run145 E ro fn := by kernel_rfl
theorem enter145 (E : Env) (args : List Value) (u : Option FrameMode) (σ : FState) (hn : args.length ≤ (19 : Nat)) : fcall Tryz.prog nls E 145 args u σ = leaveR Tryz.prog E [] (run145 E none 145 ⟨padTo undef 19 args, fun _ => undef, 19, 134, []⟩ u σ) := by
  rw [fcall_of (body := Tryz.f145.body.getD .skip) Tryz.func145 rfl E args u σ 19 134 (by kernel_rfl) rfl ⟨hn, by decide⟩, code145]
  rfl
/-! slices.insertionSortOrdered[string] -/
noncomputable def r151_0U (_ : Unit) : List COp := [⟨fun a σ => .val (a.get 1) σ, (some 8), fun _ => some true⟩,
  ⟨fun a σ => i_add Tryz.prog 3 (.tmp 8) (.const (.int .i64 1)) (a.get 8) (.int .i64 1) σ, (some 9), fun _ => some true⟩,
  ⟨fun a σ => .val (a.get 9) σ, (some 6), fun _ => some true⟩]
noncomputable def r151_0 : List COp := r151_0U ()
noncomputable def r151_1U (_ : Unit) : List COp := [⟨fun a σ => .val (a.get 6) σ, (some 10), fun _ => some true⟩,
  ⟨fun a σ => .val (a.get 2) σ, (some 11), fun _ => some true⟩,
  ⟨fun a σ => i_lss Tryz.prog 3 (.tmp 10) (.tmp 11) (a.get 10) (a.get 11) σ, (some 12), fun _ => some true⟩]
noncomputable def r151_1 : List COp := r151_1U ()
noncomputable def r151_3U (_ : Unit) : List COp := [⟨fun a σ => .val (a.get 6) σ, (some 15), fun _ => some true⟩,
  ⟨fun a σ => .val (a.get 15) σ, (some 7), fun _ => some true⟩]
noncomputable def r151_3 : List COp := r151_3U ()
noncomputable def r151_4U (_ : Unit) : List DOp := [⟨fun a σ => .val (a.get 7) σ, (some 16), fun _ => some true, (some 0), false⟩,
  ⟨fun a σ => .val (a.get 1) σ, (some 17), fun _ => some true, (some 0), false⟩,
  ⟨fun a σ => i_gtr Tryz.prog 3 (.tmp 16) (.tmp 17) (a.get 16) (a.get 17) σ, (some 18), fun _ => some true, (some 0), false⟩,
  ⟨fun a σ => .val (a.get 18) σ, (some 19), fun _ => some true, (some 0), false⟩,
  ⟨fun a σ => .val (a.get 0) σ, (some 20), fun a => gd (a.get 19) true, (some 0), false⟩,
  ⟨fun a σ => .val (a.get 7) σ, (some 21), fun a => gd (a.get 19) true, (some 0), false⟩,
  ⟨fun a σ => findex (none, 1) (a.get 20) (a.get 21) σ, (some 22), fun a => gd (a.get 19) true, (some 0), false⟩,
  ⟨fun a σ => fload none (a.get 22) σ, (some 23), fun a => gd (a.get 19) true, (some 0), false⟩,
  ⟨fun a σ => .val (a.get 0) σ, (some 24), fun a => gd (a.get 19) true, (some 0), false⟩,
  ⟨fun a σ => .val (a.get 7) σ, (some 25), fun a => gd (a.get 19) true, (some 0), false⟩,
  ⟨fun a σ => i_sub Tryz.prog 3 (.tmp 25) (.const (.int .i64 1)) (a.get 25) (.int .i64 1) σ, (some 26), fun a => gd (a.get 19) true, (some 0), false⟩,
  ⟨fun a σ => findex (none, 1) (a.get 24) (a.get 26) σ, (some 27), fun a => gd (a.get 19) true, (some 0), false⟩,
  ⟨fun a σ => fload none (a.get 27) σ, (some 28), fun a => gd (a.get 19) true, (some 0), false⟩,
  ⟨fun a σ => .enter 157 [(a.get 23), (a.get 28)] σ, (some 29), fun a => gd (a.get 19) true, none, true⟩,
  ⟨fun a σ => fpick (a.get 19) (a.get 29) (.bool false) σ, (some 30), fun _ => some true, (some 1), false⟩]
noncomputable def r151_4 : List DOp := r151_4U ()
noncomputable def r151_6U (_ : Unit) : List DOp := [⟨fun a σ => .val (a.get 0) σ, (some 33), fun _ => some true, (some 0), false⟩,
  ⟨fun a σ => .val (a.get 7) σ, (some 34), fun _ => some true, (some 0), false⟩,
  ⟨fun a σ => .val (a.get 0) σ, (some 38), fun _ => some true, (some 0), false⟩,
  ⟨fun a σ => .val (a.get 7) σ, (some 39), fun _ => some true, (some 0), false⟩,
  ⟨fun a σ => i_sub Tryz.prog 3 (.tmp 39) (.const (.int .i64 1)) (a.get 39) (.int .i64 1) σ, (some 40), fun _ => some true, (some 0), false⟩,
  ⟨fun a σ => findex (none, 1) (a.get 38) (a.get 40) σ, (some 41), fun _ => some true, (some 0), false⟩,
  ⟨fun a σ => fload none (a.get 41) σ, (some 42), fun _ => some true, (some 0), false⟩,
  ⟨fun a σ => .val (a.get 0) σ, (some 43), fun _ => some true, (some 0), false⟩,
  ⟨fun a σ => .val (a.get 7) σ, (some 44), fun _ => some true, (some 0), false⟩,
  ⟨fun a σ => findex (none, 1) (a.get 43) (a.get 44) σ, (some 45), fun _ => some true, (some 0), false⟩,
  ⟨fun a σ => fload none (a.get 45) σ, (some 46), fun _ => some true, (some 0), false⟩,
  ⟨fun a σ => findex (none, 1) (a.get 33) (a.get 34) σ, (some 47), fun _ => some true, (some 0), false⟩,
  ⟨fun a σ => fstore 1 (a.get 47) (a.get 42) σ, none, fun _ => some true, none, false⟩,
  ⟨fun a σ => .val (a.get 0) σ, (some 35), fun _ => some true, (some 0), false⟩,
  ⟨fun a σ => .val (a.get 7) σ, (some 36), fun _ => some true, (some 0), false⟩,
  ⟨fun a σ => i_sub Tryz.prog 3 (.tmp 36) (.const (.int .i64 1)) (a.get 36) (.int .i64 1) σ, (some 37), fun _ => some true, (some 0), false⟩,
  ⟨fun a σ => findex (none, 1) (a.get 35) (a.get 37) σ, (some 48), fun _ => some true, (some 1), false⟩,
  ⟨fun a σ => fstore 1 (a.get 48) (a.get 46) σ, none, fun _ => some true, none, true⟩]
noncomputable def r151_6 : List DOp := r151_6U ()
noncomputable def r151_5U (_ : Unit) : List COp := [⟨fun a σ => .val (a.get 7) σ, (some 31), fun _ => some true⟩,
  ⟨fun a σ => i_sub Tryz.prog 3 (.tmp 31) (.const (.int .i64 1)) (a.get 31) (.int .i64 1) σ, (some 32), fun _ => some true⟩,
  ⟨fun a σ => .val (a.get 32) σ, (some 7), fun _ => some true⟩]
noncomputable def r151_5 : List COp := r151_5U ()
noncomputable def l151_0 (E : Env) (ro : Option Nat) (fn : FuncId) : RunF := (seqR (seqR (drawR E ro r151_4) (condR (fun a => (a.get 30)) skipR (exitR 2))) (seqR (blockR 3 (drawR E ro r151_6)) (fops E ro r151_5)))
noncomputable def r151_2U (_ : Unit) : List COp := [⟨fun a σ => .val (a.get 6) σ, (some 13), fun _ => some true⟩,
  ⟨fun a σ => i_add Tryz.prog 3 (.tmp 13) (.const (.int .i64 1)) (a.get 13) (.int .i64 1) σ, (some 14), fun _ => some true⟩,
  ⟨fun a σ => .val (a.get 14) σ, (some 6), fun _ => some true⟩]
noncomputable def r151_2 : List COp := r151_2U ()
noncomputable def l151_1 (E : Env) (ro : Option Nat) (fn : FuncId) : RunF := (seqR (seqR (fops E ro r151_1) (condR (fun a => (a.get 12)) skipR (exitR 0))) (seqR (blockR 1 (seqR (fops E ro r151_3) (blockR 2 (loopR (keepOf nls fn) (l151_0 E ro fn))))) (fops E ro r151_2)))
noncomputable def run151 (E : Env) (ro : Option Nat) (fn : FuncId) : RunF := (seqR (fops E ro r151_0) (blockR 0 (loopR (keepOf nls fn) (l151_1 E ro fn))))
theorem r151_0_go : fops E ro r151_0 a u σ = fops E ro (r151_0U ()) a u σ := rfl
theorem r151_1_go : fops E ro r151_1 a u σ = fops E ro (r151_1U ()) a u σ := rfl
theorem r151_3_go : fops E ro r151_3 a u σ = fops E ro (r151_3U ()) a u σ := rfl
theorem r151_4_go : fdraw E ro last r151_4 cl a u σ = fdraw E ro last (r151_4U ()) cl a u σ := rfl
theorem r151_6_go : fdraw E ro last r151_6 cl a u σ = fdraw E ro last (r151_6U ()) cl a u σ := rfl
theorem r151_5_go : fops E ro r151_5 a u σ = fops E ro (r151_5U ()) a u σ := rfl
theorem r151_2_go : fops E ro r151_2 a u σ = fops E ro (r151_2U ()) a u σ := rfl
theorem code151 (E : Env) (ro : Option Nat) (fn : FuncId) : code Tryz.prog nls (Tryz.f151.body.getD .skip) E ro fn = run151 E ro fn := by kernel_rfl
theorem enter151 (E : Env) (args : List Value) (u : Option FrameMode) (σ : FState) (hn : args.length ≤ (8 : Nat)) : fcall Tryz.prog nls E 151 args u σ = leaveR Tryz.prog E [] (run151 E none 151 ⟨padTo undef 8 args, fun _ => undef, 8, 49, []⟩ u σ) := by
  rw [fcall_of (body := Tryz.f151.body.getD .skip) Tryz.func151 rfl E args u σ 8 49 (by kernel_rfl) rfl ⟨hn, by decide⟩, code151]
  rfl
/-! caracole/caracoleref01.Union -/
noncomputable def r39_0U (_ : Unit) : List COp := [⟨fun a σ => .val (.slice none 0 0) σ, (some 4), fun _ => some true⟩]
noncomputable def r39_0 : List COp := r39_0U ()
noncomputable def r39_1U (_ : Unit) : List COp := [⟨fun a σ => .val (.slice none 0 0) σ, (some 5), fun _ => some true⟩]
noncomputable def r39_1 : List COp := r39_1U ()
noncomputable def r39_2U (_ : Unit) : List COp := [⟨fun a σ => .val (.int .i64 0) σ, (some 6), fun _ => some true⟩,
  ⟨fun a σ => .val (.int .i64 0) σ, (some 7), fun _ => some true⟩]
noncomputable def r39_2 : List COp := r39_2U ()
noncomputable def r39_3U (_ : Unit) : List COp := [⟨fun a σ => .val (a.get 6) σ, (some 8), fun _ => some true⟩,
  ⟨fun a σ => .val (a.get 0) σ, (some 9), fun _ => some true⟩,
  ⟨fun a σ => flenL (a.get 9) σ, (some 10), fun _ => some true⟩,
  ⟨fun a σ => i_lss Tryz.prog 3 (.tmp 8) (.tmp 10) (a.get 8) (a.get 10) σ, (some 11), fun _ => some true⟩,
  ⟨fun a σ => .val (a.get 11) σ, (some 12), fun _ => some true⟩,
  ⟨fun a σ => .val (a.get 7) σ, (some 13), fun a => gd (a.get 12) false⟩,
  ⟨fun a σ => .val (a.get 1) σ, (some 14), fun a => gd (a.get 12) false⟩,
  ⟨fun a σ => flenL (a.get 14) σ, (some 15), fun a => gd (a.get 12) false⟩,
  ⟨fun a σ => i_lss Tryz.prog 3 (.tmp 13) (.tmp 15) (a.get 13) (a.get 15) σ, (some 16), fun a => gd (a.get 12) false⟩,
  ⟨fun a σ => fpick (a.get 12) (.bool true) (a.get 16) σ, (some 17), fun _ => some true⟩]
noncomputable def r39_3 : List COp := r39_3U ()
noncomputable def r39_4U (_ : Unit) : List DOp := [⟨fun a σ => .val (a.get 7) σ, (some 18), fun _ => some true, (some 0), false⟩,
  ⟨fun a σ => .val (a.get 1) σ, (some 19), fun _ => some true, (some 0), false⟩,
  ⟨fun a σ => flenL (a.get 19) σ, (some 20), fun _ => some true, (some 0), false⟩,
  ⟨fun a σ => i_geq Tryz.prog 3 (.tmp 18) (.tmp 20) (a.get 18) (a.get 20) σ, (some 21), fun _ => some true, (some 0), false⟩,
  ⟨fun a σ => .val (a.get 21) σ, (some 22), fun _ => some true, (some 0), false⟩,
  ⟨fun a σ => .val (a.get 6) σ, (some 23), fun a => gd (a.get 22) false, (some 0), false⟩,
  ⟨fun a σ => .val (a.get 0) σ, (some 24), fun a => gd (a.get 22) false, (some 0), false⟩,
  ⟨fun a σ => flenL (a.get 24) σ, (some 25), fun a => gd (a.get 22) false, (some 0), false⟩,
  ⟨fun a σ => i_lss Tryz.prog 3 (.tmp 23) (.tmp 25) (a.get 23) (a.get 25) σ, (some 26), fun a => gd (a.get 22) false, (some 0), false⟩,
  ⟨fun a σ => .val (a.get 26) σ, (some 27), fun a => gd (a.get 22) false, (some 0), false⟩,
  ⟨fun a σ => .val (a.get 0) σ, (some 28), fun a => gd (a.get 27) true, (some 0), false⟩,
  ⟨fun a σ => .val (a.get 6) σ, (some 29), fun a => gd (a.get 27) true, (some 0), false⟩,
  ⟨fun a σ => findex (none, 1) (a.get 28) (a.get 29) σ, (some 30), fun a => gd (a.get 27) true, (some 0), false⟩,
  ⟨fun a σ => fload none (a.get 30) σ, (some 31), fun a => gd (a.get 27) true, (some 0), false⟩,
  ⟨fun a σ => .val (a.get 1) σ, (some 32), fun a => gd (a.get 27) true, (some 0), false⟩,
  ⟨fun a σ => .val (a.get 7) σ, (some 33), fun a => gd (a.get 27) true, (some 0), false⟩,
  ⟨fun a σ => findex (none, 1) (a.get 32) (a.get 33) σ, (some 34), fun a => gd (a.get 27) true, (some 0), false⟩,
  ⟨fun a σ => fload none (a.get 34) σ, (some 35), fun a => gd (a.get 27) true, (some 0), false⟩,
  ⟨fun a σ => i_lss Tryz.prog 9 (.tmp 31) (.tmp 35) (a.get 31) (a.get 35) σ, (some 36), fun a => gd (a.get 27) true, (some 0), false⟩,
  ⟨fun a σ => fpick (a.get 27) (a.get 36) (.bool false) σ, (some 37), fun a => gd (a.get 22) false, (some 0), false⟩,
  ⟨fun a σ => fpick (a.get 22) (.bool true) (a.get 37) σ, (some 38), fun _ => some true, (some 0), false⟩]
noncomputable def r39_4 : List DOp := r39_4U ()
noncomputable def r39_5U (_ : Unit) : List COp := [⟨fun a σ => .val (a.get 5) σ, (some 39), fun _ => some true⟩,
  ⟨fun a σ => .val (a.get 0) σ, (some 40), fun _ => some true⟩,
  ⟨fun a σ => .val (a.get 6) σ, (some 41), fun _ => some true⟩,
  ⟨fun a σ => findex (none, 1) (a.get 40) (a.get 41) σ, (some 42), fun _ => some true⟩,
  ⟨fun a σ => fload none (a.get 42) σ, (some 43), fun _ => some true⟩,
  ⟨fun a σ => fbuildSlice 9 1 1 [(.string ⟨#[]⟩)] [(0, (a.get 43))] σ, (some 44), fun _ => some true⟩,
  ⟨fun a σ => fappend 9 1 16 (a.get 39) (a.get 44) σ, (some 45), fun _ => some true⟩,
  ⟨fun a σ => .val (a.get 45) σ, (some 5), fun _ => some true⟩]
noncomputable def r39_5 : List COp := r39_5U ()
noncomputable def r39_6U (_ : Unit) : List COp := [⟨fun a σ => .val (a.get 6) σ, (some 46), fun _ => some true⟩,
  ⟨fun a σ => i_add Tryz.prog 3 (.tmp 46) (.const (.int .i64 1)) (a.get 46) (.int .i64 1) σ, (some 47), fun _ => some true⟩,
  ⟨fun a σ => .val (a.get 47) σ, (some 6), fun _ => some true⟩]
noncomputable def r39_6 : List COp := r39_6U ()
noncomputable def r39_7U (_ : Unit) : List DOp := [⟨fun a σ => .val (a.get 6) σ, (some 48), fun _ => some true, (some 0), false⟩,
  ⟨fun a σ => .val (a.get 0) σ, (some 49), fun _ => some true, (some 0), false⟩,
  ⟨fun a σ => flenL (a.get 49) σ, (some 50), fun _ => some true, (some 0), false⟩,
  ⟨fun a σ => i_lss Tryz.prog 3 (.tmp 48) (.tmp 50) (a.get 48) (a.get 50) σ, (some 51), fun _ => some true, (some 0), false⟩,
  ⟨fun a σ => .val (a.get 51) σ, (some 52), fun _ => some true, (some 0), false⟩,
  ⟨fun a σ => .val (a.get 0) σ, (some 53), fun a => gd (a.get 52) true, (some 0), false⟩,
  ⟨fun a σ => .val (a.get 6) σ, (some 54), fun a => gd (a.get 52) true, (some 0), false⟩,
  ⟨fun a σ => findex (none, 1) (a.get 53) (a.get 54) σ, (some 55), fun a => gd (a.get 52) true, (some 0), false⟩,
  ⟨fun a σ => fload none (a.get 55) σ, (some 56), fun a => gd (a.get 52) true, (some 0), false⟩,
  ⟨fun a σ => .val (a.get 1) σ, (some 57), fun a => gd (a.get 52) true, (some 0), false⟩,
  ⟨fun a σ => .val (a.get 7) σ, (some 58), fun a => gd (a.get 52) true, (some 0), false⟩,
  ⟨fun a σ => findex (none, 1) (a.get 57) (a.get 58) σ, (some 59), fun a => gd (a.get 52) true, (some 0), false⟩,
  ⟨fun a σ => fload none (a.get 59) σ, (some 60), fun a => gd (a.get 52) true, (some 0), false⟩,
  ⟨fun a σ => i_eql Tryz.prog 9 (.tmp 56) (.tmp 60) (a.get 56) (a.get 60) σ, (some 61), fun a => gd (a.get 52) true, (some 0), false⟩,
  ⟨fun a σ => fpick (a.get 52) (a.get 61) (.bool false) σ, (some 62), fun _ => some true, (some 0), false⟩]
noncomputable def r39_7 : List DOp := r39_7U ()
noncomputable def r39_8U (_ : Unit) : List COp := [⟨fun a σ => .val (a.get 6) σ, (some 63), fun _ => some true⟩,
  ⟨fun a σ => i_add Tryz.prog 3 (.tmp 63) (.const (.int .i64 1)) (a.get 63) (.int .i64 1) σ, (some 64), fun _ => some true⟩,
  ⟨fun a σ => .val (a.get 64) σ, (some 6), fun _ => some true⟩]
noncomputable def r39_8 : List COp := r39_8U ()
noncomputable def r39_9U (_ : Unit) : List COp := [⟨fun a σ => .val (a.get 5) σ, (some 65), fun _ => some true⟩,
  ⟨fun a σ => .val (a.get 1) σ, (some 66), fun _ => some true⟩,
  ⟨fun a σ => .val (a.get 7) σ, (some 67), fun _ => some true⟩,
  ⟨fun a σ => findex (none, 1) (a.get 66) (a.get 67) σ, (some 68), fun _ => some true⟩,
  ⟨fun a σ => fload none (a.get 68) σ, (some 69), fun _ => some true⟩,
  ⟨fun a σ => fbuildSlice 9 1 1 [(.string ⟨#[]⟩)] [(0, (a.get 69))] σ, (some 70), fun _ => some true⟩,
  ⟨fun a σ => fappend 9 1 16 (a.get 65) (a.get 70) σ, (some 71), fun _ => some true⟩,
  ⟨fun a σ => .val (a.get 71) σ, (some 5), fun _ => some true⟩]
noncomputable def r39_9 : List COp := r39_9U ()
noncomputable def r39_10U (_ : Unit) : List COp := [⟨fun a σ => .val (a.get 7) σ, (some 72), fun _ => some true⟩,
  ⟨fun a σ => i_add Tryz.prog 3 (.tmp 72) (.const (.int .i64 1)) (a.get 72) (.int .i64 1) σ, (some 73), fun _ => some true⟩,
  ⟨fun a σ => .val (a.get 73) σ, (some 7), fun _ => some true⟩]
noncomputable def r39_10 : List COp := r39_10U ()
noncomputable def l39_0 (E : Env) (ro : Option Nat) (fn : FuncId) : RunF := (seqR (seqR (fops E ro r39_3) (condR (fun a => (a.get 17)) skipR (exitR 0))) (blockR 1 (seqR (seqR (drawR E ro r39_4) (condR (fun a => (a.get 38)) (seqR (fops E ro r39_5) (seqR (fops E ro r39_6) (exitR 1))) skipR)) (seqR (seqR (drawR E ro r39_7) (condR (fun a => (a.get 62)) (fops E ro r39_8) skipR)) (seqR (fops E ro r39_9) (fops E ro r39_10))))))
noncomputable def r39_11U (_ : Unit) : List COp := [⟨fun a σ => .val (a.get 5) σ, (some 74), fun _ => some true⟩,
  ⟨fun a σ => .val (a.get 74) σ, (some 4), fun _ => some true⟩]
noncomputable def r39_11 : List COp := r39_11U ()
noncomputable def run39 (E : Env) (ro : Option Nat) (fn : FuncId) : RunF := (seqR (fops E ro r39_0) (seqR (fops E ro r39_1) (seqR (fops E ro r39_2) (seqR (blockR 0 (loopR (keepOf nls fn) (l39_0 E ro fn))) (seqR (fops E ro r39_11) retR)))))
theorem r39_0_go : fops E ro r39_0 a u σ = fops E ro (r39_0U ()) a u σ := rfl
theorem r39_1_go : fops E ro r39_1 a u σ = fops E ro (r39_1U ()) a u σ := rfl
theorem r39_2_go : fops E ro r39_2 a u σ = fops E ro (r39_2U ()) a u σ := rfl
theorem r39_3_go : fops E ro r39_3 a u σ = fops E ro (r39_3U ()) a u σ := rfl
theorem r39_4_go : fdraw E ro last r39_4 cl a u σ = fdraw E ro last (r39_4U ()) cl a u σ := rfl
theorem r39_5_go : fops E ro r39_5 a u σ = fops E ro (r39_5U ()) a u σ := rfl
theorem r39_6_go : fops E ro r39_6 a u σ = fops E ro (r39_6U ()) a u σ := rfl
theorem r39_7_go : fdraw E ro last r39_7 cl a u σ = fdraw E ro last (r39_7U ()) cl a u σ := rfl
theorem r39_8_go : fops E ro r39_8 a u σ = fops E ro (r39_8U ()) a u σ := rfl
theorem r39_9_go : fops E ro r39_9 a u σ = fops E ro (r39_9U ()) a u σ := rfl
theorem r39_10_go : fops E ro r39_10 a u σ = fops E ro (r39_10U ()) a u σ := rfl
theorem r39_11_go : fops E ro r39_11 a u σ = fops E ro (r39_11U ()) a u σ := rfl
theorem code39 (E : Env) (ro : Option Nat) (fn : FuncId) : code Tryz.prog nls (Tryz.f39.body.getD .skip) E ro fn = run39 E ro fn := by kernel_rfl
theorem enter39 (E : Env) (args : List Value) (u : Option FrameMode) (σ : FState) (hn : args.length ≤ (8 : Nat)) : fcall Tryz.prog nls E 39 args u σ = leaveR Tryz.prog E [.tmp 4] (run39 E none 39 ⟨padTo undef 8 args, fun _ => undef, 8, 75, []⟩ u σ) := by
  rw [fcall_of (body := Tryz.f39.body.getD .skip) Tryz.func39 rfl E args u σ 8 75 (by kernel_rfl) rfl ⟨hn, by decide⟩, code39]
  rfl
/-! caracole/caracolekit.EqTexts -/
noncomputable def r41_0U (_ : Unit) : List COp := [⟨fun a σ => .val (.bool false) σ, (some 4), fun _ => some true⟩]
noncomputable def r41_0 : List COp := r41_0U ()
noncomputable def r41_1U (_ : Unit) : List COp := [⟨fun a σ => .val (a.get 0) σ, (some 6), fun _ => some true⟩,
  ⟨fun a σ => flenL (a.get 6) σ, (some 7), fun _ => some true⟩,
  ⟨fun a σ => .val (a.get 1) σ, (some 8), fun _ => some true⟩,
  ⟨fun a σ => flenL (a.get 8) σ, (some 9), fun _ => some true⟩,
  ⟨fun a σ => i_neq Tryz.prog 3 (.tmp 7) (.tmp 9) (a.get 7) (a.get 9) σ, (some 10), fun _ => some true⟩]
noncomputable def r41_1 : List COp := r41_1U ()
noncomputable def r41_2U (_ : Unit) : List COp := [⟨fun a σ => .val (.bool false) σ, (some 4), fun _ => some true⟩]
noncomputable def r41_2 : List COp := r41_2U ()
noncomputable def r41_3U (_ : Unit) : List COp := [⟨fun a σ => .val (.int .i64 0) σ, (some 5), fun _ => some true⟩]
noncomputable def r41_3 : List COp := r41_3U ()
noncomputable def r41_4U (_ : Unit) : List COp := [⟨fun a σ => .val (a.get 5) σ, (some 11), fun _ => some true⟩,
  ⟨fun a σ => .val (a.get 0) σ, (some 12), fun _ => some true⟩,
  ⟨fun a σ => flenL (a.get 12) σ, (some 13), fun _ => some true⟩,
  ⟨fun a σ => i_lss Tryz.prog 3 (.tmp 11) (.tmp 13) (a.get 11) (a.get 13) σ, (some 14), fun _ => some true⟩]
noncomputable def r41_4 : List COp := r41_4U ()
noncomputable def r41_6U (_ : Unit) : List DOp := [⟨fun a σ => .val (a.get 0) σ, (some 17), fun _ => some true, (some 0), false⟩,
  ⟨fun a σ => .val (a.get 5) σ, (some 18), fun _ => some true, (some 0), false⟩,
  ⟨fun a σ => findex (none, 1) (a.get 17) (a.get 18) σ, (some 19), fun _ => some true, (some 0), false⟩,
  ⟨fun a σ => fload none (a.get 19) σ, (some 20), fun _ => some true, (some 0), false⟩,
  ⟨fun a σ => .val (a.get 1) σ, (some 21), fun _ => some true, (some 0), false⟩,
  ⟨fun a σ => .val (a.get 5) σ, (some 22), fun _ => some true, (some 0), false⟩,
  ⟨fun a σ => findex (none, 1) (a.get 21) (a.get 22) σ, (some 23), fun _ => some true, (some 0), false⟩,
  ⟨fun a σ => fload none (a.get 23) σ, (some 24), fun _ => some true, (some 0), false⟩,
  ⟨fun a σ => i_neq Tryz.prog 9 (.tmp 20) (.tmp 24) (a.get 20) (a.get 24) σ, (some 25), fun _ => some true, (some 0), false⟩]
noncomputable def r41_6 : List DOp := r41_6U ()
noncomputable def r41_7U (_ : Unit) : List COp := [⟨fun a σ => .val (.bool false) σ, (some 4), fun _ => some true⟩]
noncomputable def r41_7 : List COp := r41_7U ()
noncomputable def r41_5U (_ : Unit) : List COp := [⟨fun a σ => .val (a.get 5) σ, (some 15), fun _ => some true⟩,
  ⟨fun a σ => i_add Tryz.prog 3 (.tmp 15) (.const (.int .i64 1)) (a.get 15) (.int .i64 1) σ, (some 16), fun _ => some true⟩,
  ⟨fun a σ => .val (a.get 16) σ, (some 5), fun _ => some true⟩]
noncomputable def r41_5 : List COp := r41_5U ()
noncomputable def l41_0 (E : Env) (ro : Option Nat) (fn : FuncId) : RunF := (seqR (seqR (fops E ro r41_4) (condR (fun a => (a.get 14)) skipR (exitR 0))) (seqR (blockR 1 (seqR (drawR E ro r41_6) (condR (fun a => (a.get 25)) (seqR (fops E ro r41_7) retR) skipR))) (fops E ro r41_5)))
noncomputable def r41_8U (_ : Unit) : List COp := [⟨fun a σ => .val (.bool true) σ, (some 4), fun _ => some true⟩]
noncomputable def r41_8 : List COp := r41_8U ()
noncomputable def run41 (E : Env) (ro : Option Nat) (fn : FuncId) : RunF := (seqR (fops E ro r41_0) (seqR (seqR (fops E ro r41_1) (condR (fun a => (a.get 10)) (seqR (fops E ro r41_2) retR) skipR)) (seqR (seqR (fops E ro r41_3) (blockR 0 (loopR (keepOf nls fn) (l41_0 E ro fn)))) (seqR (fops E ro r41_8) retR))))
theorem r41_0_go : fops E ro r41_0 a u σ = fops E ro (r41_0U ()) a u σ := rfl
theorem r41_1_go : fops E ro r41_1 a u σ = fops E ro (r41_1U ()) a u σ := rfl
theorem r41_3_go : fops E ro r41_3 a u σ = fops E ro (r41_3U ()) a u σ := rfl
theorem r41_4_go : fops E ro r41_4 a u σ = fops E ro (r41_4U ()) a u σ := rfl
theorem r41_6_go : fdraw E ro last r41_6 cl a u σ = fdraw E ro last (r41_6U ()) cl a u σ := rfl
theorem r41_5_go : fops E ro r41_5 a u σ = fops E ro (r41_5U ()) a u σ := rfl
theorem r41_8_go : fops E ro r41_8 a u σ = fops E ro (r41_8U ()) a u σ := rfl
theorem code41 (E : Env) (ro : Option Nat) (fn : FuncId) : code Tryz.prog nls (Tryz.f41.body.getD .skip) E ro fn = run41 E ro fn := by kernel_rfl
theorem enter41 (E : Env) (args : List Value) (u : Option FrameMode) (σ : FState) (hn : args.length ≤ (6 : Nat)) : fcall Tryz.prog nls E 41 args u σ = leaveR Tryz.prog E [.tmp 4] (run41 E none 41 ⟨padTo undef 6 args, fun _ => undef, 6, 26, []⟩ u σ) := by
  rw [fcall_of (body := Tryz.f41.body.getD .skip) Tryz.func41 rfl E args u σ 6 26 (by kernel_rfl) rfl ⟨hn, by decide⟩, code41]
  rfl
/-! caracole/guard.Call[[]string] -/
noncomputable def r94_0U (_ : Unit) : List COp := [⟨fun a σ => .val (.slice none 0 0) σ, (some 2), fun _ => some true⟩,
  ⟨fun a σ => .val (.int .i64 0) σ, (some 3), fun _ => some true⟩]
noncomputable def r94_0 : List COp := r94_0U ()
noncomputable def r94_1U (_ : Unit) : List COp := [⟨fun a σ => .val (a.get 0) σ, (some 8), fun _ => some true⟩,
  ⟨fun a σ => .enter 122 [(a.get 8)] σ, (some 9), fun _ => some true⟩,
  ⟨fun a σ => .val (a.get 9) σ, (some 7), fun _ => some true⟩,
  ⟨fun a σ => fextract 0 (a.get 7) σ, (some 10), fun _ => some true⟩,
  ⟨fun a σ => fextract 1 (a.get 7) σ, (some 11), fun _ => some true⟩,
  ⟨fun a σ => fextract 2 (a.get 7) σ, (some 12), fun _ => some true⟩,
  ⟨fun a σ => .val (a.get 10) σ, (some 4), fun _ => some true⟩,
  ⟨fun a σ => .val (a.get 11) σ, (some 5), fun _ => some true⟩,
  ⟨fun a σ => .val (a.get 12) σ, (some 6), fun _ => some true⟩]
noncomputable def r94_1 : List COp := r94_1U ()
noncomputable def r94_2U (_ : Unit) : List COp := [⟨fun a σ => .val (a.get 4) σ, (some 13), fun _ => some true⟩,
  ⟨fun a σ => .val (a.get 6) σ, (some 14), fun _ => some true⟩,
  ⟨fun a σ => .val (a.get 13) σ, (some 2), fun _ => some true⟩,
  ⟨fun a σ => .val (a.get 14) σ, (some 3), fun _ => some true⟩]
noncomputable def r94_2 : List COp := r94_2U ()
noncomputable def run94 (E : Env) (ro : Option Nat) (fn : FuncId) : RunF := (seqR (fops E ro r94_0) (seqR (fops E ro r94_1) (seqR (fops E ro r94_2) retR)))
theorem r94_0_go : fops E ro r94_0 a u σ = fops E ro (r94_0U ()) a u σ := rfl
theorem r94_1_go : fops E ro r94_1 a u σ = fops E ro (r94_1U ()) a u σ := rfl
theorem r94_2_go : fops E ro r94_2 a u σ = fops E ro (r94_2U ()) a u σ := rfl
theorem code94 (E : Env) (ro : Option Nat) (fn : FuncId) : code Tryz.prog nls (Tryz.f94.body.getD .skip) E ro fn = run94 E ro fn := by kernel_rfl
theorem enter94 (E : Env) (args : List Value) (u : Option FrameMode) (σ : FState) (hn : args.length ≤ (7 : Nat)) : fcall Tryz.prog nls E 94 args u σ = leaveR Tryz.prog E [.tmp 2, .tmp 3] (run94 E none 94 ⟨padTo undef 7 args, fun _ => undef, 7, 15, []⟩ u σ) := by
  rw [fcall_of (body := Tryz.f94.body.getD .skip) Tryz.func94 rfl E args u σ 7 15 (by kernel_rfl) rfl ⟨hn, by decide⟩, code94]
  rfl
/-! caracole/guard.CallAt[[]string] -/
noncomputable def r122_0U (_ : Unit) : List COp := [⟨fun a σ => .val (.slice none 0 0) σ, (some 2), fun _ => some true⟩,
  ⟨fun a σ => newCells [(.int .i64 0)] 3 none σ, (some 3), fun _ => some true⟩,
  ⟨fun a σ => newCells [(.int .i64 0)] 32 none σ, (some 4), fun _ => some true⟩]
noncomputable def r122_0 : List COp := r122_0U ()
noncomputable def r122_1U (_ : Unit) : List COp := [⟨fun a σ => .val (.func (.func 144) #[] #[(a.get 3), (a.get 4)]) σ, (some 5), fun _ => some true⟩,
  ⟨fun a σ => fdefer (a.get 5) [] σ, none, fun _ => some true⟩]
noncomputable def r122_1 : List COp := r122_1U ()
noncomputable def r122_2U (_ : Unit) : List COp := [⟨fun a σ => .val (a.get 0) σ, (some 6), fun _ => some true⟩,
  ⟨fun a σ => fcallV (a.get 6) [] σ, (some 7), fun _ => some true⟩,
  ⟨fun a σ => .val (a.get 7) σ, (some 2), fun _ => some true⟩,
  ⟨fun a σ => fstore 1 (a.get 3) (.int .i64 0) σ, none, fun _ => some true⟩,
  ⟨fun a σ => fstore 1 (a.get 4) (.int .i64 0) σ, none, fun _ => some true⟩]
noncomputable def r122_2 : List COp := r122_2U ()
noncomputable def run122 (E : Env) (ro : Option Nat) (fn : FuncId) : RunF := (seqR (fops E ro r122_0) (seqR (fops E ro r122_1) (seqR (fops E ro r122_2) retR)))
theorem r122_0_go : fops E ro r122_0 a u σ = fops E ro (r122_0U ()) a u σ := rfl
theorem r122_1_go : fops E ro r122_1 a u σ = fops E ro (r122_1U ()) a u σ := rfl
theorem r122_2_go : fops E ro r122_2 a u σ = fops E ro (r122_2U ()) a u σ := rfl
theorem code122 (E : Env) (ro : Option Nat) (fn : FuncId) : code Tryz.prog nls (Tryz.f122.body.getD .skip) E ro fn = run122 E ro fn := by kernel_rfl
theorem enter122 (E : Env) (args : List Value) (u : Option FrameMode) (σ : FState) (hn : args.length ≤ (5 : Nat)) : fcall Tryz.prog nls E 122 args u σ = leaveR Tryz.prog E [.tmp 2, .cell 3 3, .cell 4 32] (run122 E none 122 ⟨padTo undef 5 args, fun _ => undef, 5, 8, []⟩ u σ) := by
  rw [fcall_of (body := Tryz.f122.body.getD .skip) Tryz.func122 rfl E args u σ 5 8 (by kernel_rfl) rfl ⟨hn, by decide⟩, code122]
  rfl
/-! caracole/guard.CallAt[[]string]$1 -/
noncomputable def r144_0U (_ : Unit) : List COp := [⟨fun a σ => .recover σ, (some 6), fun _ => some true⟩]
noncomputable def r144_0 : List COp := r144_0U ()
noncomputable def r144_3U (_ : Unit) : List COp := [⟨fun a σ => i_eql Tryz.prog 20 (.tmp 6) (.const .nilIface) (a.get 6) .nilIface σ, (some 7), fun _ => some true⟩]
noncomputable def r144_3 : List COp := r144_3U ()
noncomputable def r144_4U (_ : Unit) : List COp := [⟨fun a σ => .val (a.get 6) σ, (some 2), fun _ => some true⟩]
noncomputable def r144_4 : List COp := r144_4U ()
noncomputable def r144_5U (_ : Unit) : List COp := [⟨fun a σ => fassert Tryz.prog (a.get 6) 164 true σ, (some 8), fun _ => some true⟩,
  ⟨fun a σ => fextract 1 (a.get 8) σ, (some 9), fun _ => some true⟩,
  ⟨fun a σ => fextract 0 (a.get 8) σ, (some 10), fun _ => some true⟩]
noncomputable def r144_5 : List COp := r144_5U ()
noncomputable def r144_6U (_ : Unit) : List COp := [⟨fun a σ => .val (a.get 10) σ, (some 3), fun _ => some true⟩]
noncomputable def r144_6 : List COp := r144_6U ()
noncomputable def r144_7U (_ : Unit) : List COp := [⟨fun a σ => .val (a.get 3) σ, (some 11), fun _ => some true⟩,
  ⟨fun a σ => .enter 126 [(a.get 11)] σ, (some 12), fun _ => some true⟩,
  ⟨fun a σ => newCells [(.int .i64 0), (.int .i64 0)] 166 none σ, (some 4), fun _ => some true⟩,
  ⟨fun a σ => fstore 2 (a.get 4) (a.get 12) σ, none, fun _ => some true⟩]
noncomputable def r144_7 : List COp := r144_7U ()
noncomputable def r144_8U (_ : Unit) : List DOp := [⟨fun a σ => ffield 1 (a.get 4) σ, (some 13), fun _ => some true, (some 0), false⟩,
  ⟨fun a σ => fload none (a.get 13) σ, (some 14), fun _ => some true, (some 0), false⟩,
  ⟨fun a σ => fstore 1 (a.get 0) (a.get 14) σ, none, fun _ => some true, none, false⟩,
  ⟨fun a σ => ffield 0 (a.get 4) σ, (some 15), fun _ => some true, (some 0), false⟩,
  ⟨fun a σ => fload none (a.get 15) σ, (some 16), fun _ => some true, (some 0), false⟩,
  ⟨fun a σ => fstore 1 (a.get 1) (a.get 16) σ, none, fun _ => some true, none, true⟩]
noncomputable def r144_8 : List DOp := r144_8U ()
noncomputable def r144_1U (_ : Unit) : List COp := [⟨fun a σ => .val (a.get 6) σ, (some 5), fun _ => some true⟩]
noncomputable def r144_1 : List COp := r144_1U ()
noncomputable def r144_2U (_ : Unit) : List COp := [⟨fun a σ => fstore 1 (a.get 1) (.int .i64 1) σ, none, fun _ => some true⟩]
noncomputable def r144_2 : List COp := r144_2U ()
noncomputable def run144 (E : Env) (ro : Option Nat) (fn : FuncId) : RunF := (seqR (fops E ro r144_0) (blockR 0 (seqR (fops E ro r144_3) (condR (fun a => (a.get 7)) (fops E ro r144_4) (seqR (fops E ro r144_5) (condR (fun a => (a.get 9)) (seqR (fops E ro r144_6) (seqR (fops E ro r144_7) (drawR E ro r144_8))) (seqR (fops E ro r144_1) (fops E ro r144_2))))))))
theorem r144_0_go : fops E ro r144_0 a u σ = fops E ro (r144_0U ()) a u σ := rfl
theorem r144_3_go : fops E ro r144_3 a u σ = fops E ro (r144_3U ()) a u σ := rfl
theorem r144_4_go : fops E ro r144_4 a u σ = fops E ro (r144_4U ()) a u σ := rfl
theorem code144 (E : Env) (ro : Option Nat) (fn : FuncId) : code Tryz.prog nls (Tryz.f144.body.getD .skip) E ro fn = run144 E ro fn := by kernel_rfl
theorem enter144 (E : Env) (args : List Value) (u : Option FrameMode) (σ : FState) (hn : args.length ≤ (6 : Nat)) : fcall Tryz.prog nls E 144 args u σ = leaveR Tryz.prog E [] (run144 E none 144 ⟨padTo undef 6 args, fun _ => undef, 6, 17, []⟩ u σ) := by
  rw [fcall_of (body := Tryz.f144.body.getD .skip) Tryz.func144 rfl E args u σ 6 17 (by kernel_rfl) rfl ⟨hn, by decide⟩, code144]
  rfl
/-! caracole/caracolelaw01.sym -/
noncomputable def r40_0U (_ : Unit) : List COp := [⟨fun a σ => newCells [(.int .i64 0), (.int .i64 0), (.string ⟨#[]⟩), (.slice none 0 0)] 28 none σ, (some 2), fun _ => some true⟩]
noncomputable def r40_0 : List COp := r40_0U ()
noncomputable def r40_1U (_ : Unit) : List COp := [⟨fun a σ => .val (a.get 0) σ, (some 3), fun _ => some true⟩,
  ⟨fun a σ => .enter 53 [(a.get 3)] σ, (some 4), fun _ => some true⟩,
  ⟨fun a σ => fstore 4 (a.get 2) (a.get 4) σ, none, fun _ => some true⟩]
noncomputable def r40_1 : List COp := r40_1U ()
noncomputable def run40 (E : Env) (ro : Option Nat) (fn : FuncId) : RunF := (seqR (fops E ro r40_0) (seqR (fops E ro r40_1) retR))
theorem r40_0_go : fops E ro r40_0 a u σ = fops E ro (r40_0U ()) a u σ := rfl
theorem r40_1_go : fops E ro r40_1 a u σ = fops E ro (r40_1U ()) a u σ := rfl
theorem code40 (E : Env) (ro : Option Nat) (fn : FuncId) : code Tryz.prog nls (Tryz.f40.body.getD .skip) E ro fn = run40 E ro fn := by kernel_rfl
theorem enter40 (E : Env) (args : List Value) (u : Option FrameMode) (σ : FState) (hn : args.length ≤ (2 : Nat)) : fcall Tryz.prog nls E 40 args u σ = leaveR Tryz.prog E [.cell 2 28] (run40 E none 40 ⟨padTo undef 2 args, fun _ => undef, 2, 5, []⟩ u σ) := by
  rw [fcall_of (body := Tryz.f40.body.getD .skip) Tryz.func40 rfl E args u σ 2 5 (by kernel_rfl) rfl ⟨hn, by decide⟩, code40]
  rfl
end Go.Proofs.YtodkeaoikjjneaaGreatDoor
/- Texts of symbols compared. -/
namespace Go.Proofs.YtodkeaoikjjneaaGreatDoor
open Go Go.Eng
attribute [local congr] andThen_congr fops_congr fdraw_congr afterOp_congr drawF_congr
attribute [-go_sem] List.range_succ
theorem less_go (n : Nat) (σ : FState) {r s : Nat} (hr : r < 8) (hs : s < 8) : (env (n + 3)).call 157 [.string (tx r), .string (tx s)] none σ = .ret (.bool (decide (r < s))) none σ := by
  revert n σ
  refine below8 (P := fun r => ∀ s, s < 8 → ∀ (n : Nat) (σ : FState), (env (n + 3)).call 157 [.string (tx r), .string (tx s)] none σ = .ret (.bool (decide (r < s))) none σ) ?_ hr s hs
  refine ⟨?_, ?_, ?_, ?_, ?_, ?_, ?_, ?_⟩ <;> intro s hs
  · exact below8 (P := fun s => ∀ (n : Nat) (σ : FState), (env (n + 3)).call 157 [.string (tx 0), .string (tx s)] none σ = .ret (.bool (decide (0 < s))) none σ) ⟨fun n σ => by kernel_rfl, fun n σ => by kernel_rfl, fun n σ => by kernel_rfl, fun n σ => by kernel_rfl, fun n σ => by kernel_rfl, fun n σ => by kernel_rfl, fun n σ => by kernel_rfl, fun n σ => by kernel_rfl⟩ hs
  · exact below8 (P := fun s => ∀ (n : Nat) (σ : FState), (env (n + 3)).call 157 [.string (tx 1), .string (tx s)] none σ = .ret (.bool (decide (1 < s))) none σ) ⟨fun n σ => by kernel_rfl, fun n σ => by kernel_rfl, fun n σ => by kernel_rfl, fun n σ => by kernel_rfl, fun n σ => by kernel_rfl, fun n σ => by kernel_rfl, fun n σ => by kernel_rfl, fun n σ => by kernel_rfl⟩ hs
  · exact below8 (P := fun s => ∀ (n : Nat) (σ : FState), (env (n + 3)).call 157 [.string (tx 2), .string (tx s)] none σ = .ret (.bool (decide (2 < s))) none σ) ⟨fun n σ => by kernel_rfl, fun n σ => by kernel_rfl, fun n σ => by kernel_rfl, fun n σ => by kernel_rfl, fun n σ => by kernel_rfl, fun n σ => by kernel_rfl, fun n σ => by kernel_rfl, fun n σ => by kernel_rfl⟩ hs
  · exact below8 (P := fun s => ∀ (n : Nat) (σ : FState), (env (n + 3)).call 157 [.string (tx 3), .string (tx s)] none σ = .ret (.bool (decide (3 < s))) none σ) ⟨fun n σ => by kernel_rfl, fun n σ => by kernel_rfl, fun n σ => by kernel_rfl, fun n σ => by kernel_rfl, fun n σ => by kernel_rfl, fun n σ => by kernel_rfl, fun n σ => by kernel_rfl, fun n σ => by kernel_rfl⟩ hs
  · exact below8 (P := fun s => ∀ (n : Nat) (σ : FState), (env (n + 3)).call 157 [.string (tx 4), .string (tx s)] none σ = .ret (.bool (decide (4 < s))) none σ) ⟨fun n σ => by kernel_rfl, fun n σ => by kernel_rfl, fun n σ => by kernel_rfl, fun n σ => by kernel_rfl, fun n σ => by kernel_rfl, fun n σ => by kernel_rfl, fun n σ => by kernel_rfl, fun n σ => by kernel_rfl⟩ hs
  · exact below8 (P := fun s => ∀ (n : Nat) (σ : FState), (env (n + 3)).call 157 [.string (tx 5), .string (tx s)] none σ = .ret (.bool (decide (5 < s))) none σ) ⟨fun n σ => by kernel_rfl, fun n σ => by kernel_rfl, fun n σ => by kernel_rfl, fun n σ => by kernel_rfl, fun n σ => by kernel_rfl, fun n σ => by kernel_rfl, fun n σ => by kernel_rfl, fun n σ => by kernel_rfl⟩ hs
  · exact below8 (P := fun s => ∀ (n : Nat) (σ : FState), (env (n + 3)).call 157 [.string (tx 6), .string (tx s)] none σ = .ret (.bool (decide (6 < s))) none σ) ⟨fun n σ => by kernel_rfl, fun n σ => by kernel_rfl, fun n σ => by kernel_rfl, fun n σ => by kernel_rfl, fun n σ => by kernel_rfl, fun n σ => by kernel_rfl, fun n σ => by kernel_rfl, fun n σ => by kernel_rfl⟩ hs
  · exact below8 (P := fun s => ∀ (n : Nat) (σ : FState), (env (n + 3)).call 157 [.string (tx 7), .string (tx s)] none σ = .ret (.bool (decide (7 < s))) none σ) ⟨fun n σ => by kernel_rfl, fun n σ => by kernel_rfl, fun n σ => by kernel_rfl, fun n σ => by kernel_rfl, fun n σ => by kernel_rfl, fun n σ => by kernel_rfl, fun n σ => by kernel_rfl, fun n σ => by kernel_rfl⟩ hs
theorem lss_tx (x y : Operand) (σ : FState) {r s : Nat} (hr : r < 8) (hs : s < 8) : i_lss Tryz.prog 9 x y (.string (tx r)) (.string (tx s)) σ = .val (.bool (decide (r < s))) σ := by
  revert x y σ
  refine below8 (P := fun r => ∀ s, s < 8 → ∀ (x y : Operand) (σ : FState), i_lss Tryz.prog 9 x y (.string (tx r)) (.string (tx s)) σ = .val (.bool (decide (r < s))) σ) ?_ hr s hs
  refine ⟨?_, ?_, ?_, ?_, ?_, ?_, ?_, ?_⟩ <;> intro s hs
  · exact below8 (P := fun s => ∀ (x y : Operand) (σ : FState), i_lss Tryz.prog 9 x y (.string (tx 0)) (.string (tx s)) σ = .val (.bool (decide (0 < s))) σ) ⟨fun x y σ => by kernel_rfl, fun x y σ => by kernel_rfl, fun x y σ => by kernel_rfl, fun x y σ => by kernel_rfl, fun x y σ => by kernel_rfl, fun x y σ => by kernel_rfl, fun x y σ => by kernel_rfl, fun x y σ => by kernel_rfl⟩ hs
  · exact below8 (P := fun s => ∀ (x y : Operand) (σ : FState), i_lss Tryz.prog 9 x y (.string (tx 1)) (.string (tx s)) σ = .val (.bool (decide (1 < s))) σ) ⟨fun x y σ => by kernel_rfl, fun x y σ => by kernel_rfl, fun x y σ => by kernel_rfl, fun x y σ => by kernel_rfl, fun x y σ => by kernel_rfl, fun x y σ => by kernel_rfl, fun x y σ => by kernel_rfl, fun x y σ => by kernel_rfl⟩ hs
  · exact below8 (P := fun s => ∀ (x y : Operand) (σ : FState), i_lss Tryz.prog 9 x y (.string (tx 2)) (.string (tx s)) σ = .val (.bool (decide (2 < s))) σ) ⟨fun x y σ => by kernel_rfl, fun x y σ => by kernel_rfl, fun x y σ => by kernel_rfl, fun x y σ => by kernel_rfl, fun x y σ => by kernel_rfl, fun x y σ => by kernel_rfl, fun x y σ => by kernel_rfl, fun x y σ => by kernel_rfl⟩ hs
  · exact below8 (P := fun s => ∀ (x y : Operand) (σ : FState), i_lss Tryz.prog 9 x y (.string (tx 3)) (.string (tx s)) σ = .val (.bool (decide (3 < s))) σ) ⟨fun x y σ => by kernel_rfl, fun x y σ => by kernel_rfl, fun x y σ => by kernel_rfl, fun x y σ => by kernel_rfl, fun x y σ => by kernel_rfl, fun x y σ => by kernel_rfl, fun x y σ => by kernel_rfl, fun x y σ => by kernel_rfl⟩ hs
  · exact below8 (P := fun s => ∀ (x y : Operand) (σ : FState), i_lss Tryz.prog 9 x y (.string (tx 4)) (.string (tx s)) σ = .val (.bool (decide (4 < s))) σ) ⟨fun x y σ => by kernel_rfl, fun x y σ => by kernel_rfl, fun x y σ => by kernel_rfl, fun x y σ => by kernel_rfl, fun x y σ => by kernel_rfl, fun x y σ => by kernel_rfl, fun x y σ => by kernel_rfl, fun x y σ => by kernel_rfl⟩ hs
  · exact below8 (P := fun s => ∀ (x y : Operand) (σ : FState), i_lss Tryz.prog 9 x y (.string (tx 5)) (.string (tx s)) σ = .val (.bool (decide (5 < s))) σ) ⟨fun x y σ => by kernel_rfl, fun x y σ => by kernel_rfl, fun x y σ => by kernel_rfl, fun x y σ => by kernel_rfl, fun x y σ => by kernel_rfl, fun x y σ => by kernel_rfl, fun x y σ => by kernel_rfl, fun x y σ => by kernel_rfl⟩ hs
  · exact below8 (P := fun s => ∀ (x y : Operand) (σ : FState), i_lss Tryz.prog 9 x y (.string (tx 6)) (.string (tx s)) σ = .val (.bool (decide (6 < s))) σ) ⟨fun x y σ => by kernel_rfl, fun x y σ => by kernel_rfl, fun x y σ => by kernel_rfl, fun x y σ => by kernel_rfl, fun x y σ => by kernel_rfl, fun x y σ => by kernel_rfl, fun x y σ => by kernel_rfl, fun x y σ => by kernel_rfl⟩ hs
  · exact below8 (P := fun s => ∀ (x y : Operand) (σ : FState), i_lss Tryz.prog 9 x y (.string (tx 7)) (.string (tx s)) σ = .val (.bool (decide (7 < s))) σ) ⟨fun x y σ => by kernel_rfl, fun x y σ => by kernel_rfl, fun x y σ => by kernel_rfl, fun x y σ => by kernel_rfl, fun x y σ => by kernel_rfl, fun x y σ => by kernel_rfl, fun x y σ => by kernel_rfl, fun x y σ => by kernel_rfl⟩ hs
theorem geq_tx (x y : Operand) (σ : FState) {r s : Nat} (hr : r < 8) (hs : s < 8) : i_geq Tryz.prog 9 x y (.string (tx r)) (.string (tx s)) σ = .val (.bool (decide (s ≤ r))) σ := by
  revert x y σ
  refine below8 (P := fun r => ∀ s, s < 8 → ∀ (x y : Operand) (σ : FState), i_geq Tryz.prog 9 x y (.string (tx r)) (.string (tx s)) σ = .val (.bool (decide (s ≤ r))) σ) ?_ hr s hs
  refine ⟨?_, ?_, ?_, ?_, ?_, ?_, ?_, ?_⟩ <;> intro s hs
  · exact below8 (P := fun s => ∀ (x y : Operand) (σ : FState), i_geq Tryz.prog 9 x y (.string (tx 0)) (.string (tx s)) σ = .val (.bool (decide (s ≤ 0))) σ) ⟨fun x y σ => by kernel_rfl, fun x y σ => by kernel_rfl, fun x y σ => by kernel_rfl, fun x y σ => by kernel_rfl, fun x y σ => by kernel_rfl, fun x y σ => by kernel_rfl, fun x y σ => by kernel_rfl, fun x y σ => by kernel_rfl⟩ hs
  · exact below8 (P := fun s => ∀ (x y : Operand) (σ : FState), i_geq Tryz.prog 9 x y (.string (tx 1)) (.string (tx s)) σ = .val (.bool (decide (s ≤ 1))) σ) ⟨fun x y σ => by kernel_rfl, fun x y σ => by kernel_rfl, fun x y σ => by kernel_rfl, fun x y σ => by kernel_rfl, fun x y σ => by kernel_rfl, fun x y σ => by kernel_rfl, fun x y σ => by kernel_rfl, fun x y σ => by kernel_rfl⟩ hs
  · exact below8 (P := fun s => ∀ (x y : Operand) (σ : FState), i_geq Tryz.prog 9 x y (.string (tx 2)) (.string (tx s)) σ = .val (.bool (decide (s ≤ 2))) σ) ⟨fun x y σ => by kernel_rfl, fun x y σ => by kernel_rfl, fun x y σ => by kernel_rfl, fun x y σ => by kernel_rfl, fun x y σ => by kernel_rfl, fun x y σ => by kernel_rfl, fun x y σ => by kernel_rfl, fun x y σ => by kernel_rfl⟩ hs
  · exact below8 (P := fun s => ∀ (x y : Operand) (σ : FState), i_geq Tryz.prog 9 x y (.string (tx 3)) (.string (tx s)) σ = .val (.bool (decide (s ≤ 3))) σ) ⟨fun x y σ => by kernel_rfl, fun x y σ => by kernel_rfl, fun x y σ => by kernel_rfl, fun x y σ => by kernel_rfl, fun x y σ => by kernel_rfl, fun x y σ => by kernel_rfl, fun x y σ => by kernel_rfl, fun x y σ => by kernel_rfl⟩ hs
  · exact below8 (P := fun s => ∀ (x y : Operand) (σ : FState), i_geq Tryz.prog 9 x y (.string (tx 4)) (.string (tx s)) σ = .val (.bool (decide (s ≤ 4))) σ) ⟨fun x y σ => by kernel_rfl, fun x y σ => by kernel_rfl, fun x y σ => by kernel_rfl, fun x y σ => by kernel_rfl, fun x y σ => by kernel_rfl, fun x y σ => by kernel_rfl, fun x y σ => by kernel_rfl, fun x y σ => by kernel_rfl⟩ hs
  · exact below8 (P := fun s => ∀ (x y : Operand) (σ : FState), i_geq Tryz.prog 9 x y (.string (tx 5)) (.string (tx s)) σ = .val (.bool (decide (s ≤ 5))) σ) ⟨fun x y σ => by kernel_rfl, fun x y σ => by kernel_rfl, fun x y σ => by kernel_rfl, fun x y σ => by kernel_rfl, fun x y σ => by kernel_rfl, fun x y σ => by kernel_rfl, fun x y σ => by kernel_rfl, fun x y σ => by kernel_rfl⟩ hs
  · exact below8 (P := fun s => ∀ (x y : Operand) (σ : FState), i_geq Tryz.prog 9 x y (.string (tx 6)) (.string (tx s)) σ = .val (.bool (decide (s ≤ 6))) σ) ⟨fun x y σ => by kernel_rfl, fun x y σ => by kernel_rfl, fun x y σ => by kernel_rfl, fun x y σ => by kernel_rfl, fun x y σ => by kernel_rfl, fun x y σ => by kernel_rfl, fun x y σ => by kernel_rfl, fun x y σ => by kernel_rfl⟩ hs
  · exact below8 (P := fun s => ∀ (x y : Operand) (σ : FState), i_geq Tryz.prog 9 x y (.string (tx 7)) (.string (tx s)) σ = .val (.bool (decide (s ≤ 7))) σ) ⟨fun x y σ => by kernel_rfl, fun x y σ => by kernel_rfl, fun x y σ => by kernel_rfl, fun x y σ => by kernel_rfl, fun x y σ => by kernel_rfl, fun x y σ => by kernel_rfl, fun x y σ => by kernel_rfl, fun x y σ => by kernel_rfl⟩ hs
theorem eql_tx (x y : Operand) (σ : FState) {r s : Nat} (hr : r < 8) (hs : s < 8) : i_eql Tryz.prog 9 x y (.string (tx r)) (.string (tx s)) σ = .val (.bool (decide (r = s))) σ := by
  revert x y σ
  refine below8 (P := fun r => ∀ s, s < 8 → ∀ (x y : Operand) (σ : FState), i_eql Tryz.prog 9 x y (.string (tx r)) (.string (tx s)) σ = .val (.bool (decide (r = s))) σ) ?_ hr s hs
  refine ⟨?_, ?_, ?_, ?_, ?_, ?_, ?_, ?_⟩ <;> intro s hs
  · exact below8 (P := fun s => ∀ (x y : Operand) (σ : FState), i_eql Tryz.prog 9 x y (.string (tx 0)) (.string (tx s)) σ = .val (.bool (decide (0 = s))) σ) ⟨fun x y σ => by kernel_rfl, fun x y σ => by kernel_rfl, fun x y σ => by kernel_rfl, fun x y σ => by kernel_rfl, fun x y σ => by kernel_rfl, fun x y σ => by kernel_rfl, fun x y σ => by kernel_rfl, fun x y σ => by kernel_rfl⟩ hs
  · exact below8 (P := fun s => ∀ (x y : Operand) (σ : FState), i_eql Tryz.prog 9 x y (.string (tx 1)) (.string (tx s)) σ = .val (.bool (decide (1 = s))) σ) ⟨fun x y σ => by kernel_rfl, fun x y σ => by kernel_rfl, fun x y σ => by kernel_rfl, fun x y σ => by kernel_rfl, fun x y σ => by kernel_rfl, fun x y σ => by kernel_rfl, fun x y σ => by kernel_rfl, fun x y σ => by kernel_rfl⟩ hs
  · exact below8 (P := fun s => ∀ (x y : Operand) (σ : FState), i_eql Tryz.prog 9 x y (.string (tx 2)) (.string (tx s)) σ = .val (.bool (decide (2 = s))) σ) ⟨fun x y σ => by kernel_rfl, fun x y σ => by kernel_rfl, fun x y σ => by kernel_rfl, fun x y σ => by kernel_rfl, fun x y σ => by kernel_rfl, fun x y σ => by kernel_rfl, fun x y σ => by kernel_rfl, fun x y σ => by kernel_rfl⟩ hs
  · exact below8 (P := fun s => ∀ (x y : Operand) (σ : FState), i_eql Tryz.prog 9 x y (.string (tx 3)) (.string (tx s)) σ = .val (.bool (decide (3 = s))) σ) ⟨fun x y σ => by kernel_rfl, fun x y σ => by kernel_rfl, fun x y σ => by kernel_rfl, fun x y σ => by kernel_rfl, fun x y σ => by kernel_rfl, fun x y σ => by kernel_rfl, fun x y σ => by kernel_rfl, fun x y σ => by kernel_rfl⟩ hs
  · exact below8 (P := fun s => ∀ (x y : Operand) (σ : FState), i_eql Tryz.prog 9 x y (.string (tx 4)) (.string (tx s)) σ = .val (.bool (decide (4 = s))) σ) ⟨fun x y σ => by kernel_rfl, fun x y σ => by kernel_rfl, fun x y σ => by kernel_rfl, fun x y σ => by kernel_rfl, fun x y σ => by kernel_rfl, fun x y σ => by kernel_rfl, fun x y σ => by kernel_rfl, fun x y σ => by kernel_rfl⟩ hs
  · exact below8 (P := fun s => ∀ (x y : Operand) (σ : FState), i_eql Tryz.prog 9 x y (.string (tx 5)) (.string (tx s)) σ = .val (.bool (decide (5 = s))) σ) ⟨fun x y σ => by kernel_rfl, fun x y σ => by kernel_rfl, fun x y σ => by kernel_rfl, fun x y σ => by kernel_rfl, fun x y σ => by kernel_rfl, fun x y σ => by kernel_rfl, fun x y σ => by kernel_rfl, fun x y σ => by kernel_rfl⟩ hs
  · exact below8 (P := fun s => ∀ (x y : Operand) (σ : FState), i_eql Tryz.prog 9 x y (.string (tx 6)) (.string (tx s)) σ = .val (.bool (decide (6 = s))) σ) ⟨fun x y σ => by kernel_rfl, fun x y σ => by kernel_rfl, fun x y σ => by kernel_rfl, fun x y σ => by kernel_rfl, fun x y σ => by kernel_rfl, fun x y σ => by kernel_rfl, fun x y σ => by kernel_rfl, fun x y σ => by kernel_rfl⟩ hs
  · exact below8 (P := fun s => ∀ (x y : Operand) (σ : FState), i_eql Tryz.prog 9 x y (.string (tx 7)) (.string (tx s)) σ = .val (.bool (decide (7 = s))) σ) ⟨fun x y σ => by kernel_rfl, fun x y σ => by kernel_rfl, fun x y σ => by kernel_rfl, fun x y σ => by kernel_rfl, fun x y σ => by kernel_rfl, fun x y σ => by kernel_rfl, fun x y σ => by kernel_rfl, fun x y σ => by kernel_rfl⟩ hs
theorem neq_tx (x y : Operand) (σ : FState) {r s : Nat} (hr : r < 8) (hs : s < 8) : i_neq Tryz.prog 9 x y (.string (tx r)) (.string (tx s)) σ = .val (.bool (decide (r ≠ s))) σ := by
  revert x y σ
  refine below8 (P := fun r => ∀ s, s < 8 → ∀ (x y : Operand) (σ : FState), i_neq Tryz.prog 9 x y (.string (tx r)) (.string (tx s)) σ = .val (.bool (decide (r ≠ s))) σ) ?_ hr s hs
  refine ⟨?_, ?_, ?_, ?_, ?_, ?_, ?_, ?_⟩ <;> intro s hs
  · exact below8 (P := fun s => ∀ (x y : Operand) (σ : FState), i_neq Tryz.prog 9 x y (.string (tx 0)) (.string (tx s)) σ = .val (.bool (decide (0 ≠ s))) σ) ⟨fun x y σ => by kernel_rfl, fun x y σ => by kernel_rfl, fun x y σ => by kernel_rfl, fun x y σ => by kernel_rfl, fun x y σ => by kernel_rfl, fun x y σ => by kernel_rfl, fun x y σ => by kernel_rfl, fun x y σ => by kernel_rfl⟩ hs
  · exact below8 (P := fun s => ∀ (x y : Operand) (σ : FState), i_neq Tryz.prog 9 x y (.string (tx 1)) (.string (tx s)) σ = .val (.bool (decide (1 ≠ s))) σ) ⟨fun x y σ => by kernel_rfl, fun x y σ => by kernel_rfl, fun x y σ => by kernel_rfl, fun x y σ => by kernel_rfl, fun x y σ => by kernel_rfl, fun x y σ => by kernel_rfl, fun x y σ => by kernel_rfl, fun x y σ => by kernel_rfl⟩ hs
  · exact below8 (P := fun s => ∀ (x y : Operand) (σ : FState), i_neq Tryz.prog 9 x y (.string (tx 2)) (.string (tx s)) σ = .val (.bool (decide (2 ≠ s))) σ) ⟨fun x y σ => by kernel_rfl, fun x y σ => by kernel_rfl, fun x y σ => by kernel_rfl, fun x y σ => by kernel_rfl, fun x y σ => by kernel_rfl, fun x y σ => by kernel_rfl, fun x y σ => by kernel_rfl, fun x y σ => by kernel_rfl⟩ hs
  · exact below8 (P := fun s => ∀ (x y : Operand) (σ : FState), i_neq Tryz.prog 9 x y (.string (tx 3)) (.string (tx s)) σ = .val (.bool (decide (3 ≠ s))) σ) ⟨fun x y σ => by kernel_rfl, fun x y σ => by kernel_rfl, fun x y σ => by kernel_rfl, fun x y σ => by kernel_rfl, fun x y σ => by kernel_rfl, fun x y σ => by kernel_rfl, fun x y σ => by kernel_rfl, fun x y σ => by kernel_rfl⟩ hs
  · exact below8 (P := fun s => ∀ (x y : Operand) (σ : FState), i_neq Tryz.prog 9 x y (.string (tx 4)) (.string (tx s)) σ = .val (.bool (decide (4 ≠ s))) σ) ⟨fun x y σ => by kernel_rfl, fun x y σ => by kernel_rfl, fun x y σ => by kernel_rfl, fun x y σ => by kernel_rfl, fun x y σ => by kernel_rfl, fun x y σ => by kernel_rfl, fun x y σ => by kernel_rfl, fun x y σ => by kernel_rfl⟩ hs
  · exact below8 (P := fun s => ∀ (x y : Operand) (σ : FState), i_neq Tryz.prog 9 x y (.string (tx 5)) (.string (tx s)) σ = .val (.bool (decide (5 ≠ s))) σ) ⟨fun x y σ => by kernel_rfl, fun x y σ => by kernel_rfl, fun x y σ => by kernel_rfl, fun x y σ => by kernel_rfl, fun x y σ => by kernel_rfl, fun x y σ => by kernel_rfl, fun x y σ => by kernel_rfl, fun x y σ => by kernel_rfl⟩ hs
  · exact below8 (P := fun s => ∀ (x y : Operand) (σ : FState), i_neq Tryz.prog 9 x y (.string (tx 6)) (.string (tx s)) σ = .val (.bool (decide (6 ≠ s))) σ) ⟨fun x y σ => by kernel_rfl, fun x y σ => by kernel_rfl, fun x y σ => by kernel_rfl, fun x y σ => by kernel_rfl, fun x y σ => by kernel_rfl, fun x y σ => by kernel_rfl, fun x y σ => by kernel_rfl, fun x y σ => by kernel_rfl⟩ hs
  · exact below8 (P := fun s => ∀ (x y : Operand) (σ : FState), i_neq Tryz.prog 9 x y (.string (tx 7)) (.string (tx s)) σ = .val (.bool (decide (7 ≠ s))) σ) ⟨fun x y σ => by kernel_rfl, fun x y σ => by kernel_rfl, fun x y σ => by kernel_rfl, fun x y σ => by kernel_rfl, fun x y σ => by kernel_rfl, fun x y σ => by kernel_rfl, fun x y σ => by kernel_rfl, fun x y σ => by kernel_rfl⟩ hs
theorem len_go (n : Nat) {k : Nat} (hk : k ≤ 8) (σ : FState) : ∃ m : Int, (env (n + 3)).call 146 [.int .u64 (.ofNat k)] none σ = .ret (.int .i64 m) none σ := by
  match k, hk with
  | 0, _ => exact ⟨0, by kernel_rfl⟩
  | 1, _ => exact ⟨1, by kernel_rfl⟩
  | 2, _ => exact ⟨2, by kernel_rfl⟩
  | 3, _ => exact ⟨2, by kernel_rfl⟩
  | 4, _ => exact ⟨3, by kernel_rfl⟩
  | 5, _ => exact ⟨3, by kernel_rfl⟩
  | 6, _ => exact ⟨3, by kernel_rfl⟩
  | 7, _ => exact ⟨3, by kernel_rfl⟩
  | 8, _ => exact ⟨4, by kernel_rfl⟩
end Go.Proofs.YtodkeaoikjjneaaGreatDoor
/- slices.Sort of few texts. -/
namespace Go.Proofs.YtodkeaoikjjneaaGreatDoor
open Go Go.Eng
attribute [local congr] andThen_congr fops_congr fdraw_congr afterOp_congr drawF_congr
attribute [-go_sem] List.range_succ
def strs (l : List Nat) : List Value := l.map fun r => .string (tx r)
theorem strs_len (l : List Nat) : (strs l).length = l.length := List.length_map ..
theorem strs_get (l : List Nat) (i r : Nat) (h : l[i]? = some r) : (strs l)[i]? = some (.string (tx r)) := by rw [strs, List.getElem?_map, h]; rfl
theorem strs_set (l : List Nat) (i r : Nat) : (strs l).set i (.string (tx r)) = strs (l.set i r) := by rw [strs, strs, List.map_set]
theorem mem_mid {p q : List Nat} {x : Nat} (z : Nat) : z ∈ p ++ x :: q ↔ z = x ∨ z ∈ p ∨ z ∈ q := by
  rw [List.mem_append, List.mem_cons]
  exact ⟨fun h => h.elim (fun h => .inr (.inl h)) (fun h => h.elim .inl (fun h => .inr (.inr h))), fun h => h.elim (fun h => .inr (.inl h)) (fun h => h.elim .inl (fun h => .inr (.inr h)))⟩
theorem pair_mid {p' q : List Nat} {x y : Nat} (h : (p' ++ [y] ++ q).Pairwise (· < ·)) (hq : ∀ z ∈ q, x < z) (hy : y < x) : (p' ++ [y] ++ x :: q).Pairwise (· < ·) := by
  rw [List.pairwise_append] at h ⊢
  obtain ⟨h1, h2, h3⟩ := h
  refine ⟨h1, List.pairwise_cons.2 ⟨hq, h2⟩, fun a ha b hb => ?_⟩
  have hay : a ≤ y := by
    rw [List.pairwise_append] at h1
    rcases List.mem_append.1 ha with ha | ha
    · exact Nat.le_of_lt (h1.2.2 a ha y (by simp))
    · rw [List.mem_singleton.1 ha]; exact Nat.le_refl _
  rcases List.mem_cons.1 hb with rfl | hb
  · omega
  · have := hq b hb; omega
theorem sort_inner (n : Nat) {bs c len : Nat} {T : TypeId} {fz : Option Nat} (K : List Nat) :
    ∀ (j fuel : Nat) (p : List Nat) (x : Nat) (q rest : List Nat) (f g : Nat → Value) (σ : FState) (ver : Nat), p.length = j → j < fuel → len = j + 1 + q.length + rest.length → len < 1000 → (∀ r ∈ p, r < 8) → x < 8 → (p ++ q).Pairwise (· < ·) → (∀ y ∈ q, x < y) → x ∉ p →
      f 0 = .slice (some ⟨bs, 0, none⟩) len c → f 1 = .int .i64 0 → f 7 = .int .i64 (.ofNat j) → σ.heap.get bs = some ⟨.cells (strs (p ++ x :: (q ++ rest))) T, false, fz, ver⟩ → Wf σ →
      ∃ f' g' σ' s ver', floop K (l151_0 (env (n + 3)) none 151) fuel (Sl 8 49 f g []) none σ = .done (.exit 2) (Sl 8 49 f' g' []) none σ' ∧ Chg (fun b => b = bs) σ σ' ∧ Wf σ' ∧ σ'.heap.get bs = some ⟨.cells (strs (s ++ rest)) T, false, fz, ver'⟩ ∧ s.Pairwise (· < ·) ∧ (∀ z, z ∈ s ↔ z = x ∨ z ∈ p ∨ z ∈ q) ∧ s.length = j + 1 + q.length ∧ f' 0 = f 0 ∧ f' 1 = f 1 ∧ f' 2 = f 2 ∧ f' 6 = f 6 := by
  intro j
  induction j with
  | zero =>
    intro fuel p x q rest f g σ ver hp hf hlen hl hp8 hx8 hpq hq hxp f0 f1 f7 hg hw
    obtain ⟨fuel, rfl⟩ : ∃ q, fuel = q + 1 := ⟨fuel - 1, by omega⟩
    have : p = [] := List.length_eq_zero_iff.1 hp
    subst this
    have d1 : decide (Int.ofNat 0 > (0 : Int)) = false := by decide
    rw [floop_step]
    unfold l151_0
    simp -implicitDefEqProofs only [go_sem, ↓reduceIte, Nat.reduceLT, Nat.reduceEqDiff, Nat.reduceAdd, Nat.reduceMul, Nat.reduceLeDiff, Nat.reduceSub, r151_4_go, r151_4U, f1, f7, d1]
    refine ⟨_, _, _, x :: q, _, rfl, Chg.refl _ _, hw, hg, List.pairwise_cons.2 ⟨hq, hpq⟩, fun z => by simp, by simp; omega, rfl, f1.symm ▸ rfl, rfl, rfl⟩
  | succ j ih =>
    intro fuel p x q rest f g σ ver hp hf hlen hl hp8 hx8 hpq hq hxp f0 f1 f7 hg hw
    obtain ⟨fuel, rfl⟩ : ∃ q, fuel = q + 1 := ⟨fuel - 1, by omega⟩
    obtain ⟨p', y, rfl⟩ : ∃ p' y, p = p' ++ [y] := ⟨p.dropLast, p.getLast (by intro h; rw [h] at hp; simp at hp), (List.dropLast_concat_getLast _).symm⟩
    have hp' : p'.length = j := by simpa using hp
    have d1 : decide (Int.ofNat (j + 1) > (0 : Int)) = true := by simp
    have w1 := sub1 j (by omega)
    have hy8 : y < 8 := hp8 y (by simp)
    have hcells := cells_of_get hg
    have hvw := view_wf hw (lam := σ.clock) (Nat.le_refl _)
    have hlist : p' ++ [y] ++ x :: (q ++ rest) = p' ++ y :: x :: (q ++ rest) := by simp
    have g1 : (strs (p' ++ [y] ++ x :: (q ++ rest)))[j + 1]? = some (.string (tx x)) := strs_get _ _ _ (by rw [hlist, List.getElem?_append_right (by omega), hp', show j + 1 - j = 1 by omega]; rfl)
    have g0 : (strs (p' ++ [y] ++ x :: (q ++ rest)))[j]? = some (.string (tx y)) := strs_get _ _ _ (by rw [hlist, List.getElem?_append_right (by omega), hp', Nat.sub_self]; rfl)
    have l1 : j + 1 < len := by omega
    have l0 : j < len := by omega
    have hless := less_go n σ hx8 hy8
    rw [floop_step]
    unfold l151_0
    cases hd : decide (x < y) with
    | false =>
      rw [hd] at hless
      simp -implicitDefEqProofs only [go_sem, ↓reduceIte, Nat.reduceLT, Nat.reduceEqDiff, Nat.reduceAdd, Nat.reduceMul, Nat.reduceLeDiff, Nat.reduceSub, r151_4_go, r151_4U, f0, f1, f7, d1, w1, l0, l1, hvw, hcells, g0, g1, hless]
      have hxy : ¬ x < y := of_decide_eq_false hd
      have hne : x ≠ y := fun e => hxp (by rw [e]; simp)
      exact ⟨_, _, _, p' ++ [y] ++ x :: q, ver, rfl, Chg.refl _ _, hw, by rw [hg]; simp, pair_mid hpq hq (by omega), mem_mid, by simp; omega, f0.symm ▸ rfl, f1.symm ▸ rfl, rfl, rfl⟩
    | true =>
      rw [hd] at hless
      have hxy : x < y := of_decide_eq_true hd
      have hs1 : (strs (p' ++ [y] ++ x :: (q ++ rest))).set (j + 1) (.string (tx y)) = strs (p' ++ y :: y :: (q ++ rest)) := by
        rw [strs_set, hlist, List.set_append, if_neg (by omega), hp', show j + 1 - j = 1 by omega]; rfl
      have hs2 : (strs (p' ++ y :: y :: (q ++ rest))).set j (.string (tx x)) = strs (p' ++ x :: (y :: q ++ rest)) := by
        rw [strs_set, List.set_append, if_neg (by omega), hp', Nat.sub_self]; rfl
      have hlt : j + 1 < (strs (p' ++ [y] ++ x :: (q ++ rest))).length := by rw [strs_len]; simp; omega
      have hlt2 : j < (strs (p' ++ y :: y :: (q ++ rest))).length := by rw [strs_len]; simp; omega
      simp -implicitDefEqProofs only [go_sem, ↓reduceIte, Nat.reduceLT, Nat.reduceEqDiff, Nat.reduceAdd, Nat.reduceMul, Nat.reduceLeDiff, Nat.reduceSub, r151_4_go, r151_4U, r151_5_go, r151_5U, r151_6_go, r151_6U, f0, f1, f7, d1, w1, l0, l1, hvw, hcells, g0, g1, hless, hg, hs1, hs2, hlt, hlt2]
      generalize hff : upd _ 7 _ = f1'
      have hbn := (hw _ _ hg).1
      have hpw : (p' ++ (y :: q)).Pairwise (· < ·) := by simpa using hpq
      obtain ⟨f', g', σ', s, ver', a1, a2, a3, a4, a5, a6, a7, a8, a9, a10, a11⟩ := ih fuel p' x (y :: q) rest f1' _ ((σ.put bs (.cells (strs (p' ++ y :: y :: (q ++ rest))) T) fz).put bs (.cells (strs (p' ++ x :: (y :: q ++ rest))) T) fz) _ hp' (by omega) (by simp only [List.length_cons]; omega) hl (fun r hr => hp8 r (by simp [hr])) hx8 hpw (fun z hz => by
        rcases List.mem_cons.1 hz with rfl | hz
        · exact hxy
        · exact hq z hz) (fun h => hxp (by simp [h])) (by rw [← hff]; simp -implicitDefEqProofs only [upd_go, kept_go, ↓reduceIte, Nat.reduceEqDiff, Nat.reduceLT, reduceCtorEq, f0]) (by rw [← hff]; simp -implicitDefEqProofs only [upd_go, kept_go, ↓reduceIte, Nat.reduceEqDiff, Nat.reduceLT, reduceCtorEq, f1]) (by rw [← hff]; simp -implicitDefEqProofs only [upd_go, kept_go, ↓reduceIte, Nat.reduceEqDiff, Nat.reduceLT, reduceCtorEq]) (by rw [put_get, if_pos rfl]) ((hw.put _ _ _ hbn).put _ _ _ (by rw [put_next]; exact hbn))
      refine ⟨f', g', σ', s, ver', a1, (((Chg.refl (fun b => b = bs) σ).put _ _ _ (.inr rfl)).put _ _ _ (.inr rfl)).trans a2 fun _ _ h => h, a3, a4, a5, fun z => ?_, by rw [a7, List.length_cons]; omega, ?_, ?_, ?_, ?_⟩
      · rw [a6 z, List.mem_cons, List.mem_append, List.mem_singleton]
        constructor
        · rintro (h | h | h | h)
          · exact .inl h
          · exact .inr (.inl (.inl h))
          · exact .inr (.inl (.inr h))
          · exact .inr (.inr h)
        · rintro (h | (h | h) | h)
          · exact .inl h
          · exact .inr (.inl h)
          · exact .inr (.inr (.inl h))
          · exact .inr (.inr (.inr h))
      · rw [a8, ← hff]; simp -implicitDefEqProofs only [upd_go, kept_go, ↓reduceIte, Nat.reduceEqDiff, Nat.reduceLT, reduceCtorEq, f0]
      · rw [a9, ← hff]; simp -implicitDefEqProofs only [upd_go, kept_go, ↓reduceIte, Nat.reduceEqDiff, Nat.reduceLT, reduceCtorEq, f1]
      · rw [a10, ← hff]; simp -implicitDefEqProofs only [upd_go, kept_go, ↓reduceIte, Nat.reduceEqDiff, Nat.reduceLT, reduceCtorEq]
      · rw [a11, ← hff]; simp -implicitDefEqProofs only [upd_go, kept_go, ↓reduceIte, Nat.reduceEqDiff, Nat.reduceLT, reduceCtorEq]
theorem sort_outer (n : Nat) {bs c len : Nat} {T : TypeId} {fz : Option Nat} (hl : len < 1000) :
    ∀ (j fuel : Nat) (s rest : List Nat) (f g : Nat → Value) (σ : FState) (ver : Nat), rest.length = j → j < fuel → len = s.length + rest.length → 1 ≤ s.length → (∀ r ∈ s, r < 8) → (∀ r ∈ rest, r < 8) → s.Pairwise (· < ·) → (s ++ rest).Nodup →
      f 0 = .slice (some ⟨bs, 0, none⟩) len c → f 1 = .int .i64 0 → f 2 = .int .i64 (.ofNat len) → f 6 = .int .i64 (.ofNat s.length) → σ.heap.get bs = some ⟨.cells (strs (s ++ rest)) T, false, fz, ver⟩ → Wf σ →
      ∃ f' g' σ' s' ver', floop (keepOf nls 151) (l151_1 (env (n + 3)) none 151) fuel (Sl 8 49 f g []) none σ = .done (.exit 0) (Sl 8 49 f' g' []) none σ' ∧ Chg (fun b => b = bs) σ σ' ∧ Wf σ' ∧ σ'.heap.get bs = some ⟨.cells (strs s') T, false, fz, ver'⟩ ∧ s'.Pairwise (· < ·) ∧ (∀ z, z ∈ s' ↔ z ∈ s ∨ z ∈ rest) ∧ s'.length = len := by
  intro j
  induction j with
  | zero =>
    intro fuel s rest f g σ ver hr hf hlen h1 hs8 hr8 hs hnd f0 f1 f2 f6 hg hw
    obtain ⟨fuel, rfl⟩ : ∃ q, fuel = q + 1 := ⟨fuel - 1, by omega⟩
    have : rest = [] := List.length_eq_zero_iff.1 hr
    subst this
    rw [List.length_nil, Nat.add_zero] at hlen
    have d1 : decide (Int.ofNat s.length < Int.ofNat len) = false := by rw [hlen]; simp
    rw [floop_step]
    unfold l151_1
    simp -implicitDefEqProofs only [go_sem, ↓reduceIte, Nat.reduceLT, Nat.reduceEqDiff, Nat.reduceAdd, Nat.reduceMul, Nat.reduceLeDiff, Nat.reduceSub, r151_1_go, r151_1U, f2, f6, d1]
    exact ⟨_, _, _, s, ver, rfl, Chg.refl _ _, hw, by rw [hg]; simp, hs, fun z => by simp, hlen.symm⟩
  | succ j ih =>
    intro fuel s rest f g σ ver hr hf hlen h1 hs8 hr8 hs hnd f0 f1 f2 f6 hg hw
    obtain ⟨fuel, rfl⟩ : ∃ q, fuel = q + 1 := ⟨fuel - 1, by omega⟩
    match rest, hr with
    | x :: rest, hr =>
    rw [List.length_cons] at hr hlen
    have d1 : decide (Int.ofNat s.length < Int.ofNat len) = true := by simp; omega
    have hx8 := hr8 x List.mem_cons_self
    have w1 := add1 s.length (by omega)
    rw [floop_step, Sl_forget]
    unfold l151_1
    simp -implicitDefEqProofs only [go_sem, ↓reduceIte, Nat.reduceLT, Nat.reduceEqDiff, Nat.reduceAdd, Nat.reduceMul, Nat.reduceLeDiff, Nat.reduceSub, r151_1_go, r151_1U, r151_3_go, r151_3U, f2, f6, d1]
    generalize hff : upd _ 7 _ = f1'
    generalize hbf : bigFuel = fuel2
    have hxs : x ∉ s := by
      rw [List.nodup_append] at hnd
      exact fun h => hnd.2.2 x h x List.mem_cons_self rfl
    obtain ⟨f', g', σ', s', ver', a1, a2, a3, a4, a5, a6, a7, a8, a9, a10, a11⟩ := sort_inner n (len := len) (c := c) (T := T) (fz := fz) (bs := bs) (keepOf nls 151) s.length fuel2 s x [] rest f1' (upd (upd (upd (upd (kept (keepOf nls 151) g) 10 (.int .i64 (.ofNat s.length))) 11 (.int .i64 (.ofNat len))) 12 (.bool true)) 15 (.int .i64 (.ofNat s.length))) σ ver rfl (by rw [← hbf]; show s.length < 1000000000000; omega) (by simp; omega) hl hs8 hx8 (by simpa using hs) (by simp) hxs (by rw [← hff]; simp -implicitDefEqProofs only [upd_go, kept_go, ↓reduceIte, Nat.reduceEqDiff, Nat.reduceLT, reduceCtorEq, f0]) (by rw [← hff]; simp -implicitDefEqProofs only [upd_go, kept_go, ↓reduceIte, Nat.reduceEqDiff, Nat.reduceLT, reduceCtorEq, f1]) (by rw [← hff]; simp -implicitDefEqProofs only [upd_go, kept_go, ↓reduceIte, Nat.reduceEqDiff, Nat.reduceLT, reduceCtorEq]) (by rw [hg]; simp) hw
    rw [a1]
    have q0 : f' 0 = .slice (some ⟨bs, 0, none⟩) len c := by rw [a8, ← hff]; simp -implicitDefEqProofs only [upd_go, kept_go, ↓reduceIte, Nat.reduceEqDiff, Nat.reduceLT, reduceCtorEq, f0]
    have q1 : f' 1 = .int .i64 0 := by rw [a9, ← hff]; simp -implicitDefEqProofs only [upd_go, kept_go, ↓reduceIte, Nat.reduceEqDiff, Nat.reduceLT, reduceCtorEq, f1]
    have q2 : f' 2 = .int .i64 (.ofNat len) := by rw [a10, ← hff]; simp -implicitDefEqProofs only [upd_go, kept_go, ↓reduceIte, Nat.reduceEqDiff, Nat.reduceLT, reduceCtorEq, f2]
    have q6 : f' 6 = .int .i64 (.ofNat s.length) := by rw [a11, ← hff]; simp -implicitDefEqProofs only [upd_go, kept_go, ↓reduceIte, Nat.reduceEqDiff, Nat.reduceLT, reduceCtorEq, f6]
    rw [List.length_nil, Nat.add_zero] at a7
    simp -implicitDefEqProofs only [go_sem, ↓reduceIte, Nat.reduceLT, Nat.reduceEqDiff, Nat.reduceAdd, Nat.reduceMul, Nat.reduceLeDiff, Nat.reduceSub, r151_2_go, r151_2U, q6, w1]
    generalize hff2 : upd _ 6 _ = f2'
    have hm : ∀ z, z ∈ s' ↔ z = x ∨ z ∈ s := fun z => by rw [a6 z]; simp
    have hnd2 : (s' ++ rest).Nodup := by
      rw [List.nodup_append] at hnd ⊢
      refine ⟨List.Pairwise.imp (fun h => Nat.ne_of_lt h) a5, (List.nodup_cons.1 hnd.2.1).2, fun a ha b hb => ?_⟩
      rcases (hm a).1 ha with rfl | ha
      · exact fun e => (List.nodup_cons.1 hnd.2.1).1 (e ▸ hb)
      · exact hnd.2.2 a ha b (List.mem_cons_of_mem _ hb)
    obtain ⟨f3, g3, σ3, s3, ver3, b1, b2, b3, b4, b5, b6, b7⟩ := ih fuel s' rest f2' _ σ' ver' (by omega) (by omega) (by omega) (by omega) (fun r hr => by
      rcases (hm r).1 hr with rfl | hr
      · exact hx8
      · exact hs8 r hr) (fun r hr => hr8 r (List.mem_cons_of_mem _ hr)) a5 hnd2 (by rw [← hff2]; simp -implicitDefEqProofs only [upd_go, kept_go, ↓reduceIte, Nat.reduceEqDiff, Nat.reduceLT, reduceCtorEq, q0]) (by rw [← hff2]; simp -implicitDefEqProofs only [upd_go, kept_go, ↓reduceIte, Nat.reduceEqDiff, Nat.reduceLT, reduceCtorEq, q1]) (by rw [← hff2]; simp -implicitDefEqProofs only [upd_go, kept_go, ↓reduceIte, Nat.reduceEqDiff, Nat.reduceLT, reduceCtorEq, q2]) (by rw [← hff2, a7]; simp -implicitDefEqProofs only [upd_go, kept_go, ↓reduceIte, Nat.reduceEqDiff, Nat.reduceLT, reduceCtorEq]) a4 a3
    refine ⟨f3, g3, σ3, s3, ver3, b1, a2.trans b2 fun _ _ h => h, b3, b4, b5, fun z => ?_, b7⟩
    rw [b6 z, hm z, List.mem_cons]
    constructor
    · rintro ((h | h) | h)
      · exact .inr (.inl h)
      · exact .inl h
      · exact .inr (.inr h)
    · rintro (h | h | h)
      · exact .inl (.inr h)
      · exact .inl (.inl h)
      · exact .inr h
end Go.Proofs.YtodkeaoikjjneaaGreatDoor
/- slices.Sort of few texts, whole. -/
namespace Go.Proofs.YtodkeaoikjjneaaGreatDoor
open Go Go.Eng
attribute [local congr] andThen_congr fops_congr fdraw_congr afterOp_congr drawF_congr
attribute [-go_sem] List.range_succ
theorem insertion_go (n : Nat) {T : TypeId} {Q : Nat → Prop} {s : Value} {l : List Nat} (σ : FState) (hw : Wf σ) (hV : Vecs T Q σ s (strs l)) (hnd : l.Nodup) (h8 : ∀ r ∈ l, r < 8) (hl : l.length ≤ 8) :
    ∃ σ' l', (env (n + 4)).call 151 [s, .int .i64 0, .int .i64 (.ofNat l.length)] none σ = .ret (.tuple #[]) none σ' ∧ Chg Q σ σ' ∧ Wf σ' ∧ Vecs T Q σ' s (strs l') ∧ l'.Pairwise (· < ·) ∧ (∀ z, z ∈ l' ↔ z ∈ l) ∧ l'.length = l.length := by
  obtain ⟨N, hN⟩ : ∃ N, l.length = N := ⟨_, rfl⟩
  rw [hN, env_call, enter151 _ _ _ _ (by simp), Sl_start]
  unfold run151
  have w1 : wrapI (0 + 1) = Int.ofNat 1 := by decide
  by_cases h0 : l.length = 0
  · have : l = [] := List.length_eq_zero_iff.1 h0
    subst this
    have d1 : decide (Int.ofNat 1 < Int.ofNat N) = false := by rw [← hN]; decide
    simp -implicitDefEqProofs only [go_sem, ↓reduceIte, Nat.reduceLT, Nat.reduceEqDiff, Nat.reduceAdd, Nat.reduceMul, Nat.reduceLeDiff, Nat.reduceSub, r151_0_go, r151_0U, Option.getD_some, List.getElem?_cons_zero, List.getElem?_cons_succ, w1]
    rw [show bigFuel = 999999999999 + 1 from rfl, floop_step]
    unfold l151_1
    simp -implicitDefEqProofs only [go_sem, ↓reduceIte, Nat.reduceLT, Nat.reduceEqDiff, Nat.reduceAdd, Nat.reduceMul, Nat.reduceLeDiff, Nat.reduceSub, r151_1_go, r151_1U, Option.getD_some, List.getElem?_cons_zero, List.getElem?_cons_succ, d1]
    exact ⟨_, [], rfl, Chg.refl _ _, hw, hV, List.Pairwise.nil, fun z => by simp, hN⟩
  · rcases hV with ⟨_, h⟩ | ⟨b, hF, hq⟩
    · rw [strs, List.map_eq_nil_iff] at h
      rw [h] at h0; exact absurd rfl h0
    · obtain ⟨fz, ver, hs, hb, hfz⟩ := hF
      rw [strs_len, hN] at hs
      subst hs
      match l, h0 with
      | x :: l, _ =>
      simp -implicitDefEqProofs only [go_sem, ↓reduceIte, Nat.reduceLT, Nat.reduceEqDiff, Nat.reduceAdd, Nat.reduceMul, Nat.reduceLeDiff, Nat.reduceSub, r151_0_go, r151_0U, Option.getD_some, List.getElem?_cons_zero, List.getElem?_cons_succ, w1]
      generalize hff : upd _ 6 _ = f1
      generalize hbf : bigFuel = fuel
      generalize upd _ 9 _ = gg
      obtain ⟨f', g', σ', s', ver', a1, a2, a3, a4, a5, a6, a7⟩ := sort_outer n (bs := b) (c := N) (len := N) (T := T) (fz := fz) (by omega) l.length fuel [x] l f1 gg σ ver rfl (by rw [← hbf]; show l.length < 1000000000000; rw [List.length_cons] at hN hl; omega) (by rw [← hN, List.length_cons, List.length_singleton]; omega) (by simp) (fun r hr => h8 r (by rw [List.mem_singleton.1 hr]; exact List.mem_cons_self)) (fun r hr => h8 r (List.mem_cons_of_mem _ hr)) (by simp) hnd (by rw [← hff]; simp -implicitDefEqProofs only [upd_go, kept_go, ↓reduceIte, Nat.reduceEqDiff, Nat.reduceLT, reduceCtorEq, List.getElem?_cons_zero, Option.getD_some]) (by rw [← hff]; simp -implicitDefEqProofs only [upd_go, kept_go, ↓reduceIte, Nat.reduceEqDiff, Nat.reduceLT, reduceCtorEq, List.getElem?_cons_zero, List.getElem?_cons_succ, Option.getD_some]) (by rw [← hff]; simp -implicitDefEqProofs only [upd_go, kept_go, ↓reduceIte, Nat.reduceEqDiff, Nat.reduceLT, reduceCtorEq, List.getElem?_cons_zero, List.getElem?_cons_succ, Option.getD_some]) (by rw [← hff]; simp -implicitDefEqProofs only [upd_go, kept_go, ↓reduceIte, Nat.reduceEqDiff, Nat.reduceLT, reduceCtorEq] <;> rfl) hb hw
      rw [a1]
      simp -implicitDefEqProofs only [go_sem, ↓reduceIte, Nat.reduceLT, Nat.reduceEqDiff, Nat.reduceAdd, Nat.reduceMul, Nat.reduceLeDiff, Nat.reduceSub]
      exact ⟨_, s', rfl, a2.weaken fun c _ e => by rw [e]; exact hq, a3, .inr ⟨b, ⟨fz, ver', by rw [strs_len, a7], a4, hfz⟩, hq⟩, a5, fun z => by rw [a6 z]; simp, a7⟩
theorem pdq_go (n : Nat) (lim : Value) {T : TypeId} {Q : Nat → Prop} {s : Value} {l : List Nat} (σ : FState) (hw : Wf σ) (hV : Vecs T Q σ s (strs l)) (hnd : l.Nodup) (h8 : ∀ r ∈ l, r < 8) (hl : l.length ≤ 8) :
    ∃ σ' l', (env (n + 5)).call 145 [s, .int .i64 0, .int .i64 (.ofNat l.length), lim] none σ = .ret (.tuple #[]) none σ' ∧ Chg Q σ σ' ∧ Wf σ' ∧ Vecs T Q σ' s (strs l') ∧ l'.Pairwise (· < ·) ∧ (∀ z, z ∈ l' ↔ z ∈ l) ∧ l'.length = l.length := by
  obtain ⟨σ', l', e, r⟩ := insertion_go n σ hw hV hnd h8 hl
  rw [env_call, enter145 _ _ _ _ (by simp), Sl_start]
  unfold run145
  have w1 : wrapI (Int.ofNat l.length - 0) = Int.ofNat l.length := by
    rw [wrapI_of (by simp only [Int.ofNat_eq_natCast]; omega)]; simp
  have d1 : decide (Int.ofNat l.length ≤ (12 : Int)) = true := by simp only [Int.ofNat_eq_natCast]; exact decide_eq_true (by omega)
  simp -implicitDefEqProofs only [go_sem, ↓reduceIte, Nat.reduceLT, Nat.reduceEqDiff, Nat.reduceAdd, Nat.reduceMul, Nat.reduceLeDiff, Nat.reduceSub, r145_0_go, r145_0U, r145_1_go, r145_1U]
  rw [show bigFuel = 999999999999 + 1 from rfl, floop_step]
  unfold l145_0
  simp -implicitDefEqProofs only [go_sem, ↓reduceIte, Nat.reduceLT, Nat.reduceEqDiff, Nat.reduceAdd, Nat.reduceMul, Nat.reduceLeDiff, Nat.reduceSub, r145_2_go, r145_2U, r145_3_go, r145_3U, r145_4_go, r145_4U, Option.getD_some, List.getElem?_cons_zero, List.getElem?_cons_succ, w1, d1, e]
  exact ⟨σ', l', rfl, r⟩
theorem conv_len {k : Nat} (hk : k ≤ 8) (σ : FState) : fun1 Tryz.prog (convert 3 119) (.int .i64 (.ofNat k)) σ = .val (.int .u64 (.ofNat k)) σ := by
  match k, hk with
  | 0, _ => show _ = _; kernel_rfl
  | 1, _ => show _ = _; kernel_rfl
  | 2, _ => show _ = _; kernel_rfl
  | 3, _ => show _ = _; kernel_rfl
  | 4, _ => show _ = _; kernel_rfl
  | 5, _ => show _ = _; kernel_rfl
  | 6, _ => show _ = _; kernel_rfl
  | 7, _ => show _ = _; kernel_rfl
  | 8, _ => show _ = _; kernel_rfl
/-- slices.Sort. -/
theorem sort_go (n : Nat) {T : TypeId} {Q : Nat → Prop} {s : Value} {l : List Nat} (σ : FState) (hw : Wf σ) (hV : Vecs T Q σ s (strs l)) (hnd : l.Nodup) (h8 : ∀ r ∈ l, r < 8) (hl : l.length ≤ 8) :
    ∃ σ' l', (env (n + 6)).call 123 [s] none σ = .ret (.tuple #[]) none σ' ∧ Chg Q σ σ' ∧ Wf σ' ∧ Vecs T Q σ' s (strs l') ∧ l'.Pairwise (· < ·) ∧ (∀ z, z ∈ l' ↔ z ∈ l) ∧ l'.length = l.length := by
  obtain ⟨m, em⟩ := len_go (n + 2) hl σ
  obtain ⟨σ', l', e, r⟩ := pdq_go n (.int .i64 m) σ hw hV hnd h8 hl
  rw [env_call, enter123 _ _ _ _ (by simp), Sl_start]
  unfold run123
  obtain ⟨p, c, hs⟩ : ∃ p c, s = .slice p l.length c := by
    rcases hV with ⟨h1, h2⟩ | ⟨b, ⟨fz, ver, h1, _⟩, _⟩
    · rw [strs, List.map_eq_nil_iff] at h2
      subst h2; exact ⟨none, 0, h1⟩
    · rw [strs_len] at h1; exact ⟨_, _, h1⟩
  subst hs
  have cv := conv_len hl σ
  simp -implicitDefEqProofs only [go_sem, ↓reduceIte, Nat.reduceLT, Nat.reduceEqDiff, Nat.reduceAdd, Nat.reduceMul, Nat.reduceLeDiff, Nat.reduceSub, r123_0_go, r123_0U, r123_1_go, r123_1U, Option.getD_some, List.getElem?_cons_zero, cv, em, e]
  exact ⟨σ', l', rfl, r⟩
end Go.Proofs.YtodkeaoikjjneaaGreatDoor
/- Lists of texts; caracoleref01.Union. -/
namespace Go.Proofs.YtodkeaoikjjneaaGreatDoor
open Go Go.Eng
attribute [local congr] andThen_congr fops_congr fdraw_congr afterOp_congr drawF_congr
attribute [-go_sem] List.range_succ
/-- A list of texts, in R. -/
def TxtR (R : Nat → Prop) (σ : FState) (s : Value) (l : List Nat) : Prop := (l = [] ∧ s = .slice none 0 0) ∨ (∃ b c, s = .slice (some ⟨b, 0, none⟩) l.length c ∧ σ.cells b = some (strs l) ∧ R b)
theorem TxtR.keep {R R' : Nat → Prop} {σ σ' : FState} {s : Value} {l : List Nat} (h : TxtR R σ s l) (hk : ∀ b cs, R b → σ.cells b = some cs → σ'.cells b = some cs ∧ R' b) : TxtR R' σ' s l := by
  rcases h with h | ⟨b, c, rfl, hb, hR⟩
  · exact .inl h
  · exact .inr ⟨b, c, rfl, (hk b _ hR hb).1, (hk b _ hR hb).2⟩
theorem TxtR.slice {R : Nat → Prop} {σ : FState} {s : Value} {l : List Nat} (h : TxtR R σ s l) : ∃ p c, s = .slice p l.length c ∧ (l ≠ [] → ∃ b, p = some ⟨b, 0, none⟩ ∧ σ.cells b = some (strs l)) := by
  rcases h with ⟨rfl, rfl⟩ | ⟨b, c, rfl, hb, _⟩
  · exact ⟨none, 0, rfl, fun h => absurd rfl h⟩
  · exact ⟨_, c, rfl, fun _ => ⟨b, rfl, hb⟩⟩
theorem vecs_txt {T : TypeId} {Q : Nat → Prop} {σ : FState} {s : Value} {l : List Nat} (h : Vecs T Q σ s (strs l)) : TxtR Q σ s l := by
  rcases h with ⟨h1, h2⟩ | ⟨b, ⟨fz, ver, h1, h2, _⟩, hq⟩
  · rw [strs, List.map_eq_nil_iff] at h2
    exact .inl ⟨h2, h1⟩
  · rw [strs_len] at h1
    exact .inr ⟨b, _, h1, cells_of_get h2, hq⟩
theorem vecs_add {Q : Nat → Prop} {σ : FState} {s : Value} {l : List Nat} (h : Vecs 9 Q σ s (strs l)) (hw : Wf σ) (r : Nat) (hQ : ∀ b, σ.next ≤ b → Q b) (hlen : l.length < 1000) :
    ∃ s' τ, fappend 9 1 16 s (.slice (some ⟨σ.next, 0, none⟩) 1 1) (σ.push (.cells [.string (tx r)] 9) none) = .val s' τ ∧ Vecs 9 Q τ s' (strs (l ++ [r])) ∧ Chg Q σ τ ∧ Wf τ := by
  have h1 : Vecs 9 Q (σ.push (.cells [.string (tx r)] 9) none) s (strs l) := h.keep (fun b hq hb => ⟨by rw [push_get, if_neg (by omega)], hq⟩) hw
  obtain ⟨b', s', τ, e, hF, hb', ch, hwτ⟩ := h1.append (hw.push _ _) σ.next 1 (.string (tx r)) 16 (by rw [cells_push, if_pos rfl]; rfl) rfl (by decide) (by rw [strs_len]; omega)
  refine ⟨s', τ, e, .inr ⟨b', by rw [strs, List.map_append]; exact hF, hb'.elim id fun h => hQ _ (by rw [h, push_next]; omega)⟩, ?_, hwτ⟩
  exact (((Chg.refl Q σ).push _ _).trans ch fun _ _ h => h)
theorem keepUN : keepOf nls 39 = [74] := by kernel_rfl
structure HeadUn (pa pb : Option Addr) (ca cb : Nat) (A B : List Nat) (out : List Nat) (i k : Nat) (σ0 : FState) (f : Nat → Value) (σ : FState) : Prop where
  f0 : f 0 = .slice pa A.length ca
  f1 : f 1 = .slice pb B.length cb
  f6 : f 6 = .int .i64 (.ofNat i)
  f7 : f 7 = .int .i64 (.ofNat k)
  vec : Vecs 9 (fun b => σ0.next ≤ b) σ (f 5) (strs out)
  ha : A ≠ [] → ∃ b, pa = some ⟨b, 0, none⟩ ∧ σ0.cells b = some (strs A)
  hb : B ≠ [] → ∃ b, pb = some ⟨b, 0, none⟩ ∧ σ0.cells b = some (strs B)
  wf : Wf σ
  ext : Ext σ0 σ
  ilt : i ≤ A.length
  klt : k ≤ B.length
theorem drop_some {l : List Nat} {i : Nat} (h : i < l.length) : ∃ x, l[i]? = some x ∧ l.drop i = x :: l.drop (i + 1) := ⟨l[i], List.getElem?_eq_getElem h, List.drop_eq_getElem_cons h⟩
theorem union_loop (E : Env) {pa pb : Option Addr} {ca cb : Nat} {A B : List Nat} {σ0 : FState} (hw0 : Wf σ0) (hA8 : ∀ r ∈ A, r < 8) (hB8 : ∀ r ∈ B, r < 8) (hla : A.length < 100) (hlb : B.length < 100) :
    ∀ (m fuel i k : Nat) (out : List Nat) (f g : Nat → Value) (σ : FState), (A.length - i) + (B.length - k) ≤ m → m < fuel → out.length + m < 500 → HeadUn pa pb ca cb A B out i k σ0 f σ →
      ∃ f' g' σ', floop [74] (l39_0 E none 39) fuel (Sl 8 75 f g []) none σ = .done (.exit 0) (Sl 8 75 f' g' []) none σ' ∧ Vecs 9 (fun b => σ0.next ≤ b) σ' (f' 5) (strs (out ++ mrg (A.drop i) (B.drop k))) ∧ Ext σ0 σ' ∧ Wf σ' := by
  intro m
  induction m with
  | zero =>
    intro fuel i k out f g σ hm hf hl h
    obtain ⟨fuel, rfl⟩ : ∃ q, fuel = q + 1 := ⟨fuel - 1, by omega⟩
    have hi := h.ilt
    have hk := h.klt
    have d1 : decide (Int.ofNat i < Int.ofNat A.length) = false := by simp; omega
    have d2 : decide (Int.ofNat k < Int.ofNat B.length) = false := by simp; omega
    rw [floop_step]
    unfold l39_0
    simp -implicitDefEqProofs only [go_sem, ↓reduceIte, Nat.reduceLT, Nat.reduceEqDiff, Nat.reduceAdd, Nat.reduceMul, Nat.reduceLeDiff, Nat.reduceSub, r39_3_go, r39_3U, h.f0, h.f1, h.f6, h.f7, d1, d2]
    refine ⟨_, _, _, rfl, ?_, h.ext, h.wf⟩
    rw [List.drop_eq_nil_of_le (by omega), List.drop_eq_nil_of_le (by omega), mrg, List.append_nil]
    exact h.vec
  | succ m ih =>
    intro fuel i k out f g σ hm hf hl h
    obtain ⟨fuel, rfl⟩ : ∃ q, fuel = q + 1 := ⟨fuel - 1, by omega⟩
    have hvw := view_wf h.wf (lam := σ.clock) (Nat.le_refl _)
    have hn := h.ext.next
    have o := h.vec.one
    by_cases hk : k < B.length
    · have d2 : decide (Int.ofNat k < Int.ofNat B.length) = true := by simp; omega
      have d3 : decide (Int.ofNat k ≥ Int.ofNat B.length) = false := by simp; omega
      obtain ⟨y, hy, hdy⟩ := drop_some hk
      obtain ⟨bb, rfl, hcb⟩ := h.hb (by intro e; rw [e] at hk; simp at hk)
      have hcbσ := (h.ext.cells (hw0.cells hcb)).trans hcb
      have gy := strs_get _ _ _ hy
      have hy8 := hB8 y (List.mem_of_getElem? hy)
      have wk := add1 k (by omega)
      by_cases hi : i < A.length
      · have d1 : decide (Int.ofNat i < Int.ofNat A.length) = true := by simp; omega
        obtain ⟨x, hx, hdx⟩ := drop_some hi
        obtain ⟨ba, rfl, hca⟩ := h.ha (by intro e; rw [e] at hi; simp at hi)
        have hcaσ := (h.ext.cells (hw0.cells hca)).trans hca
        have gx := strs_get _ _ _ hx
        have hx8 := hA8 x (List.mem_of_getElem? hx)
        have wi := add1 i (by omega)
        by_cases hxy : x < y
        · have e1 := fun X Y σ => lss_tx X Y σ hx8 hy8
          simp only [decide_eq_true hxy] at e1
          obtain ⟨s', τ, ea, hV, ch, hwτ⟩ := vecs_add h.vec h.wf x (fun b hb => by omega) (by omega)
          have o' := hV.one
          rw [floop_step]
          unfold l39_0
          simp -implicitDefEqProofs only [go_sem, ↓reduceIte, Nat.reduceLT, Nat.reduceEqDiff, Nat.reduceAdd, Nat.reduceMul, Nat.reduceLeDiff, Nat.reduceSub, r39_3_go, r39_3U, r39_4_go, r39_4U, r39_5_go, r39_5U, r39_6_go, r39_6U, h.f0, h.f1, h.f6, h.f7, d1, d2, d3, hi, hk, hvw, hcaσ, hcbσ, gx, gy, e1, o.1, o.2.1, o.2.2, ea, o'.1, o'.2.1, o'.2.2, wi]
          generalize hff : upd _ 6 _ = f1'
          have hE : Ext σ0 τ := ((h.ext.chg _).trans ch fun _ _ h => h).ext fun b hb h => by omega
          have q5 : f1' 5 = s' := by rw [← hff]; simp -implicitDefEqProofs only [upd_go, kept_go, ↓reduceIte, Nat.reduceEqDiff, Nat.reduceLT, reduceCtorEq]
          obtain ⟨f', g', σ', a1, a2, a3, a4⟩ := ih fuel (i + 1) k (out ++ [x]) f1' _ τ (by omega) (by omega) (by rw [List.length_append, List.length_singleton]; omega) {
            f0 := by rw [← hff]; simp -implicitDefEqProofs only [upd_go, kept_go, ↓reduceIte, Nat.reduceEqDiff, Nat.reduceLT, reduceCtorEq, h.f0]
            f1 := by rw [← hff]; simp -implicitDefEqProofs only [upd_go, kept_go, ↓reduceIte, Nat.reduceEqDiff, Nat.reduceLT, reduceCtorEq, h.f1]
            f6 := by rw [← hff]; simp -implicitDefEqProofs only [upd_go, kept_go, ↓reduceIte, Nat.reduceEqDiff, Nat.reduceLT, reduceCtorEq]
            f7 := by rw [← hff]; simp -implicitDefEqProofs only [upd_go, kept_go, ↓reduceIte, Nat.reduceEqDiff, Nat.reduceLT, reduceCtorEq, h.f7]
            vec := by rw [q5]; exact hV
            ha := h.ha
            hb := h.hb
            wf := hwτ
            ext := hE
            ilt := hi
            klt := h.klt }
          refine ⟨f', g', σ', a1, ?_, a3, a4⟩
          rw [hdx, hdy, mrg, if_pos hxy, ← hdy]
          rw [List.append_assoc] at a2
          exact a2
        · have e1 := fun X Y σ => lss_tx X Y σ hx8 hy8
          simp only [decide_eq_false hxy] at e1
          obtain ⟨s', τ, ea, hV, ch, hwτ⟩ := vecs_add h.vec h.wf y (fun b hb => by omega) (by omega)
          have o' := hV.one
          by_cases he : x = y
          · have e2 := fun X Y σ => eql_tx X Y σ hx8 hy8
            simp only [decide_eq_true he] at e2
            rw [floop_step]
            unfold l39_0
            simp -implicitDefEqProofs only [go_sem, ↓reduceIte, Nat.reduceLT, Nat.reduceEqDiff, Nat.reduceAdd, Nat.reduceMul, Nat.reduceLeDiff, Nat.reduceSub, r39_3_go, r39_3U, r39_4_go, r39_4U, r39_5_go, r39_5U, r39_6_go, r39_6U, r39_7_go, r39_7U, r39_8_go, r39_8U, r39_9_go, r39_9U, r39_10_go, r39_10U, h.f0, h.f1, h.f6, h.f7, d1, d2, d3, hi, hk, hvw, hcaσ, hcbσ, gx, gy, e1, e2, o.1, o.2.1, o.2.2, ea, o'.1, o'.2.1, o'.2.2, wi, wk]
            generalize hff : upd _ 7 _ = f1'
            have hE : Ext σ0 τ := ((h.ext.chg _).trans ch fun _ _ h => h).ext fun b hb h => by omega
            have q5 : f1' 5 = s' := by rw [← hff]; simp -implicitDefEqProofs only [upd_go, kept_go, ↓reduceIte, Nat.reduceEqDiff, Nat.reduceLT, reduceCtorEq]
            obtain ⟨f', g', σ', a1, a2, a3, a4⟩ := ih fuel (i + 1) (k + 1) (out ++ [y]) f1' _ τ (by omega) (by omega) (by rw [List.length_append, List.length_singleton]; omega) {
              f0 := by rw [← hff]; simp -implicitDefEqProofs only [upd_go, kept_go, ↓reduceIte, Nat.reduceEqDiff, Nat.reduceLT, reduceCtorEq, h.f0]
              f1 := by rw [← hff]; simp -implicitDefEqProofs only [upd_go, kept_go, ↓reduceIte, Nat.reduceEqDiff, Nat.reduceLT, reduceCtorEq, h.f1]
              f6 := by rw [← hff]; simp -implicitDefEqProofs only [upd_go, kept_go, ↓reduceIte, Nat.reduceEqDiff, Nat.reduceLT, reduceCtorEq]
              f7 := by rw [← hff]; simp -implicitDefEqProofs only [upd_go, kept_go, ↓reduceIte, Nat.reduceEqDiff, Nat.reduceLT, reduceCtorEq]
              vec := by rw [q5]; exact hV
              ha := h.ha
              hb := h.hb
              wf := hwτ
              ext := hE
              ilt := hi
              klt := hk }
            refine ⟨f', g', σ', a1, ?_, a3, a4⟩
            rw [hdx, hdy, mrg, if_neg hxy, if_pos he]
            rw [List.append_assoc] at a2
            exact a2
          · have e2 := fun X Y σ => eql_tx X Y σ hx8 hy8
            simp only [decide_eq_false he] at e2
            rw [floop_step]
            unfold l39_0
            simp -implicitDefEqProofs only [go_sem, ↓reduceIte, Nat.reduceLT, Nat.reduceEqDiff, Nat.reduceAdd, Nat.reduceMul, Nat.reduceLeDiff, Nat.reduceSub, r39_3_go, r39_3U, r39_4_go, r39_4U, r39_5_go, r39_5U, r39_6_go, r39_6U, r39_7_go, r39_7U, r39_8_go, r39_8U, r39_9_go, r39_9U, r39_10_go, r39_10U, h.f0, h.f1, h.f6, h.f7, d1, d2, d3, hi, hk, hvw, hcaσ, hcbσ, gx, gy, e1, e2, o.1, o.2.1, o.2.2, ea, o'.1, o'.2.1, o'.2.2, wk]
            generalize hff : upd _ 7 _ = f1'
            have hE : Ext σ0 τ := ((h.ext.chg _).trans ch fun _ _ h => h).ext fun b hb h => by omega
            have q5 : f1' 5 = s' := by rw [← hff]; simp -implicitDefEqProofs only [upd_go, kept_go, ↓reduceIte, Nat.reduceEqDiff, Nat.reduceLT, reduceCtorEq]
            obtain ⟨f', g', σ', a1, a2, a3, a4⟩ := ih fuel i (k + 1) (out ++ [y]) f1' _ τ (by omega) (by omega) (by rw [List.length_append, List.length_singleton]; omega) {
              f0 := by rw [← hff]; simp -implicitDefEqProofs only [upd_go, kept_go, ↓reduceIte, Nat.reduceEqDiff, Nat.reduceLT, reduceCtorEq, h.f0]
              f1 := by rw [← hff]; simp -implicitDefEqProofs only [upd_go, kept_go, ↓reduceIte, Nat.reduceEqDiff, Nat.reduceLT, reduceCtorEq, h.f1]
              f6 := by rw [← hff]; simp -implicitDefEqProofs only [upd_go, kept_go, ↓reduceIte, Nat.reduceEqDiff, Nat.reduceLT, reduceCtorEq, h.f6]
              f7 := by rw [← hff]; simp -implicitDefEqProofs only [upd_go, kept_go, ↓reduceIte, Nat.reduceEqDiff, Nat.reduceLT, reduceCtorEq]
              vec := by rw [q5]; exact hV
              ha := h.ha
              hb := h.hb
              wf := hwτ
              ext := hE
              ilt := h.ilt
              klt := hk }
            refine ⟨f', g', σ', a1, ?_, a3, a4⟩
            rw [hdx, hdy, mrg, if_neg hxy, if_neg he, ← hdx]
            rw [List.append_assoc] at a2
            exact a2
      · have d1 : decide (Int.ofNat i < Int.ofNat A.length) = false := by simp; omega
        obtain ⟨s', τ, ea, hV, ch, hwτ⟩ := vecs_add h.vec h.wf y (fun b hb => by omega) (by omega)
        have o' := hV.one
        rw [floop_step]
        unfold l39_0
        simp -implicitDefEqProofs only [go_sem, ↓reduceIte, Nat.reduceLT, Nat.reduceEqDiff, Nat.reduceAdd, Nat.reduceMul, Nat.reduceLeDiff, Nat.reduceSub, r39_3_go, r39_3U, r39_4_go, r39_4U, r39_5_go, r39_5U, r39_6_go, r39_6U, r39_7_go, r39_7U, r39_8_go, r39_8U, r39_9_go, r39_9U, r39_10_go, r39_10U, h.f0, h.f1, h.f6, h.f7, d1, d2, d3, hk, hvw, hcbσ, gy, o.1, o.2.1, o.2.2, ea, o'.1, o'.2.1, o'.2.2, wk]
        generalize hff : upd _ 7 _ = f1'
        have hE : Ext σ0 τ := ((h.ext.chg _).trans ch fun _ _ h => h).ext fun b hb h => by omega
        have q5 : f1' 5 = s' := by rw [← hff]; simp -implicitDefEqProofs only [upd_go, kept_go, ↓reduceIte, Nat.reduceEqDiff, Nat.reduceLT, reduceCtorEq]
        obtain ⟨f', g', σ', a1, a2, a3, a4⟩ := ih fuel i (k + 1) (out ++ [y]) f1' _ τ (by omega) (by omega) (by rw [List.length_append, List.length_singleton]; omega) {
          f0 := by rw [← hff]; simp -implicitDefEqProofs only [upd_go, kept_go, ↓reduceIte, Nat.reduceEqDiff, Nat.reduceLT, reduceCtorEq, h.f0]
          f1 := by rw [← hff]; simp -implicitDefEqProofs only [upd_go, kept_go, ↓reduceIte, Nat.reduceEqDiff, Nat.reduceLT, reduceCtorEq, h.f1]
          f6 := by rw [← hff]; simp -implicitDefEqProofs only [upd_go, kept_go, ↓reduceIte, Nat.reduceEqDiff, Nat.reduceLT, reduceCtorEq, h.f6]
          f7 := by rw [← hff]; simp -implicitDefEqProofs only [upd_go, kept_go, ↓reduceIte, Nat.reduceEqDiff, Nat.reduceLT, reduceCtorEq]
          vec := by rw [q5]; exact hV
          ha := h.ha
          hb := h.hb
          wf := hwτ
          ext := hE
          ilt := h.ilt
          klt := hk }
        refine ⟨f', g', σ', a1, ?_, a3, a4⟩
        rw [hdy]
        rw [List.drop_eq_nil_of_le (by omega : A.length ≤ i), mrg] at a2 ⊢
        rw [List.append_assoc] at a2
        exact a2
    · have d2 : decide (Int.ofNat k < Int.ofNat B.length) = false := by simp; omega
      have d3 : decide (Int.ofNat k ≥ Int.ofNat B.length) = true := by simp; omega
      by_cases hi : i < A.length
      case neg =>
        have d1 : decide (Int.ofNat i < Int.ofNat A.length) = false := by simp; omega
        rw [floop_step]
        unfold l39_0
        simp -implicitDefEqProofs only [go_sem, ↓reduceIte, Nat.reduceLT, Nat.reduceEqDiff, Nat.reduceAdd, Nat.reduceMul, Nat.reduceLeDiff, Nat.reduceSub, r39_3_go, r39_3U, h.f0, h.f1, h.f6, h.f7, d1, d2]
        refine ⟨_, _, _, rfl, ?_, h.ext, h.wf⟩
        rw [List.drop_eq_nil_of_le (by omega), List.drop_eq_nil_of_le (by omega), mrg, List.append_nil]
        exact h.vec
      have d1 : decide (Int.ofNat i < Int.ofNat A.length) = true := by simp; omega
      obtain ⟨x, hx, hdx⟩ := drop_some hi
      obtain ⟨ba, rfl, hca⟩ := h.ha (by intro e; rw [e] at hi; simp at hi)
      have hcaσ := (h.ext.cells (hw0.cells hca)).trans hca
      have gx := strs_get _ _ _ hx
      have wi := add1 i (by omega)
      obtain ⟨s', τ, ea, hV, ch, hwτ⟩ := vecs_add h.vec h.wf x (fun b hb => by omega) (by omega)
      have o' := hV.one
      rw [floop_step]
      unfold l39_0
      simp -implicitDefEqProofs only [go_sem, ↓reduceIte, Nat.reduceLT, Nat.reduceEqDiff, Nat.reduceAdd, Nat.reduceMul, Nat.reduceLeDiff, Nat.reduceSub, r39_3_go, r39_3U, r39_4_go, r39_4U, r39_5_go, r39_5U, r39_6_go, r39_6U, r39_7_go, r39_7U, r39_8_go, r39_8U, r39_9_go, r39_9U, r39_10_go, r39_10U, h.f0, h.f1, h.f6, h.f7, d1, d2, d3, hi, hvw, hcaσ, gx, o.1, o.2.1, o.2.2, ea, o'.1, o'.2.1, o'.2.2, wi]
      generalize hff : upd _ 6 _ = f1'
      have hE : Ext σ0 τ := ((h.ext.chg _).trans ch fun _ _ h => h).ext fun b hb h => by omega
      have q5 : f1' 5 = s' := by rw [← hff]; simp -implicitDefEqProofs only [upd_go, kept_go, ↓reduceIte, Nat.reduceEqDiff, Nat.reduceLT, reduceCtorEq]
      obtain ⟨f', g', σ', a1, a2, a3, a4⟩ := ih fuel (i + 1) k (out ++ [x]) f1' _ τ (by omega) (by omega) (by rw [List.length_append, List.length_singleton]; omega) {
        f0 := by rw [← hff]; simp -implicitDefEqProofs only [upd_go, kept_go, ↓reduceIte, Nat.reduceEqDiff, Nat.reduceLT, reduceCtorEq, h.f0]
        f1 := by rw [← hff]; simp -implicitDefEqProofs only [upd_go, kept_go, ↓reduceIte, Nat.reduceEqDiff, Nat.reduceLT, reduceCtorEq, h.f1]
        f6 := by rw [← hff]; simp -implicitDefEqProofs only [upd_go, kept_go, ↓reduceIte, Nat.reduceEqDiff, Nat.reduceLT, reduceCtorEq]
        f7 := by rw [← hff]; simp -implicitDefEqProofs only [upd_go, kept_go, ↓reduceIte, Nat.reduceEqDiff, Nat.reduceLT, reduceCtorEq, h.f7]
        vec := by rw [q5]; exact hV
        ha := h.ha
        hb := h.hb
        wf := hwτ
        ext := hE
        ilt := hi
        klt := h.klt }
      refine ⟨f', g', σ', a1, ?_, a3, a4⟩
      rw [hdx, List.drop_eq_nil_of_le (by omega : B.length ≤ k)]
      rw [List.drop_eq_nil_of_le (by omega : B.length ≤ k), List.append_assoc] at a2
      rw [mrg]
      have hz : ∀ l : List Nat, mrg l [] = l := fun l => by cases l <;> rw [mrg]
      rw [hz] at a2
      exact a2
/-- caracoleref01.Union of ascending lists. -/
theorem union_go (n : Nat) {R R' : Nat → Prop} {s t : Value} (P Q : Nat → Bool) (σ : FState) (hw : Wf σ) (hs : TxtR R σ s (asc P)) (ht : TxtR R' σ t (asc Q)) :
    Gives ((env (n + 1)).call 39 [s, t] none σ) σ fun w σ' => Vecs 9 (fun b => σ.next ≤ b) σ' w (strs (asc fun r => P r || Q r)) := by
  obtain ⟨pa, ca, rfl, ha⟩ := hs.slice
  obtain ⟨pb, cb, rfl, hb⟩ := ht.slice
  have la := asc_len P
  have lb := asc_len Q
  rw [env_call, enter39 _ _ _ _ (by simp), Sl_start]
  unfold run39
  simp -implicitDefEqProofs only [go_sem, ↓reduceIte, Nat.reduceLT, Nat.reduceEqDiff, Nat.reduceAdd, Nat.reduceMul, Nat.reduceLeDiff, Nat.reduceSub, r39_0_go, r39_0U, r39_1_go, r39_1U, r39_2_go, r39_2U, Option.getD_some, keepUN]
  generalize hff : upd _ 7 _ = f1
  generalize hbf : bigFuel = fuel
  obtain ⟨f', g', σ', a1, a2, a3, a4⟩ := union_loop (env n) (pa := pa) (pb := pb) (ca := ca) (cb := cb) hw (fun r hr => ((asc_mem P r).1 hr).1) (fun r hr => ((asc_mem Q r).1 hr).1) (by omega) (by omega) 16 fuel 0 0 [] f1 (fun _ => undef) σ (by omega) (by rw [← hbf]; show 16 < 1000000000000; omega) (by simp) {
    f0 := by rw [← hff]; simp -implicitDefEqProofs only [upd_go, kept_go, ↓reduceIte, Nat.reduceEqDiff, Nat.reduceLT, reduceCtorEq, List.getElem?_cons_zero, Option.getD_some]
    f1 := by rw [← hff]; simp -implicitDefEqProofs only [upd_go, kept_go, ↓reduceIte, Nat.reduceEqDiff, Nat.reduceLT, reduceCtorEq, List.getElem?_cons_zero, List.getElem?_cons_succ, Option.getD_some]
    f6 := by rw [← hff]; simp -implicitDefEqProofs only [upd_go, kept_go, ↓reduceIte, Nat.reduceEqDiff, Nat.reduceLT, reduceCtorEq] <;> rfl
    f7 := by rw [← hff]; simp -implicitDefEqProofs only [upd_go, kept_go, ↓reduceIte, Nat.reduceEqDiff, Nat.reduceLT, reduceCtorEq] <;> rfl
    vec := .inl ⟨by rw [← hff]; simp -implicitDefEqProofs only [upd_go, kept_go, ↓reduceIte, Nat.reduceEqDiff, Nat.reduceLT, reduceCtorEq], rfl⟩
    ha := ha
    hb := hb
    wf := hw
    ext := Ext.refl _
    ilt := Nat.zero_le _
    klt := Nat.zero_le _ }
  rw [a1]
  rw [List.drop_zero, List.drop_zero, List.nil_append, mrg_asc] at a2
  have o := a2.one
  simp -implicitDefEqProofs only [go_sem, ↓reduceIte, Nat.reduceLT, Nat.reduceEqDiff, Nat.reduceAdd, Nat.reduceMul, Nat.reduceLeDiff, Nat.reduceSub, r39_11_go, r39_11U, o.1, o.2.1, o.2.2]
  exact ⟨_, _, rfl, a3, a4, a2⟩
end Go.Proofs.YtodkeaoikjjneaaGreatDoor
/- Package datum's ascending: one text more. -/
namespace Go.Proofs.YtodkeaoikjjneaaGreatDoor
open Go Go.Eng
attribute [local congr] andThen_congr fops_congr fdraw_congr afterOp_congr drawF_congr
attribute [-go_sem] List.range_succ
theorem tx_beq {x m : Nat} (hx : x < 8) (hm : m < 8) : (tx x == tx m) = decide (x = m) := by
  refine below8 (P := fun x => ∀ m, m < 8 → (tx x == tx m) = decide (x = m)) ?_ hx m hm
  refine ⟨?_, ?_, ?_, ?_, ?_, ?_, ?_, ?_⟩ <;> intro m hm
  · exact below8 (P := fun m => (tx 0 == tx m) = decide (0 = m)) ⟨by kernel_rfl, by kernel_rfl, by kernel_rfl, by kernel_rfl, by kernel_rfl, by kernel_rfl, by kernel_rfl, by kernel_rfl⟩ hm
  · exact below8 (P := fun m => (tx 1 == tx m) = decide (1 = m)) ⟨by kernel_rfl, by kernel_rfl, by kernel_rfl, by kernel_rfl, by kernel_rfl, by kernel_rfl, by kernel_rfl, by kernel_rfl⟩ hm
  · exact below8 (P := fun m => (tx 2 == tx m) = decide (2 = m)) ⟨by kernel_rfl, by kernel_rfl, by kernel_rfl, by kernel_rfl, by kernel_rfl, by kernel_rfl, by kernel_rfl, by kernel_rfl⟩ hm
  · exact below8 (P := fun m => (tx 3 == tx m) = decide (3 = m)) ⟨by kernel_rfl, by kernel_rfl, by kernel_rfl, by kernel_rfl, by kernel_rfl, by kernel_rfl, by kernel_rfl, by kernel_rfl⟩ hm
  · exact below8 (P := fun m => (tx 4 == tx m) = decide (4 = m)) ⟨by kernel_rfl, by kernel_rfl, by kernel_rfl, by kernel_rfl, by kernel_rfl, by kernel_rfl, by kernel_rfl, by kernel_rfl⟩ hm
  · exact below8 (P := fun m => (tx 5 == tx m) = decide (5 = m)) ⟨by kernel_rfl, by kernel_rfl, by kernel_rfl, by kernel_rfl, by kernel_rfl, by kernel_rfl, by kernel_rfl, by kernel_rfl⟩ hm
  · exact below8 (P := fun m => (tx 6 == tx m) = decide (6 = m)) ⟨by kernel_rfl, by kernel_rfl, by kernel_rfl, by kernel_rfl, by kernel_rfl, by kernel_rfl, by kernel_rfl, by kernel_rfl⟩ hm
  · exact below8 (P := fun m => (tx 7 == tx m) = decide (7 = m)) ⟨by kernel_rfl, by kernel_rfl, by kernel_rfl, by kernel_rfl, by kernel_rfl, by kernel_rfl, by kernel_rfl, by kernel_rfl⟩ hm
theorem lookup_cop (a : FAct) (σ : FState) : (cop Tryz.prog (.lookup 156 (.tmp 12) (.tmp 13) true)).un a σ = flookup2 Tryz.prog 9 .string (.bool false) (a.get 12) (a.get 13) true σ := by kernel_rfl
theorem update_cop (a : FAct) (σ : FState) : (cop Tryz.prog (.mapUpdate 156 (.tmp 19) (.tmp 20) (.const (.bool true)))).un a σ = fmapUpdate Tryz.prog 9 .string (a.get 19) (a.get 20) (.bool true) σ := by kernel_rfl
/-- The entries of a map: these keys, all true. -/
def Ents (es : List MapEntry) (ms : List Nat) : Prop := es.map (·.key) = strs ms ∧ ∀ e ∈ es, e.val = .bool true
theorem find_ents {x : Nat} (hx : x < 8) : ∀ (ms : List Nat) (es : List MapEntry) (i : Nat), (∀ m ∈ ms, m < 8) → Ents es ms → (x ∉ ms → Instr.findNow .string (.string (tx x)) es i = some none) ∧ (x ∈ ms → ∃ j, Instr.findNow .string (.string (tx x)) es i = some (some (j, .bool true)))
  | [], es, i, _, h => by
    obtain ⟨h1, _⟩ := h
    have : es = [] := by
      rw [strs, List.map_nil, List.map_eq_nil_iff] at h1
      exact h1
    subst this
    exact ⟨fun _ => rfl, fun h => by cases h⟩
  | m :: ms, es, i, hm, h => by
    obtain ⟨h1, h2⟩ := h
    cases es with
    | nil => simp [strs] at h1
    | cons e es =>
      rw [strs, List.map_cons, List.map_cons, List.cons.injEq] at h1
      have ih := find_ents hx ms es (i + 1) (fun m' h' => hm m' (List.mem_cons_of_mem _ h')) ⟨h1.2, fun e' h' => h2 e' (List.mem_cons_of_mem _ h')⟩
      have hs : Instr.sameNow .string (.string (tx x)) e.key = some (decide (x = m)) := by
        rw [h1.1]
        show some (tx x == tx m) = _
        rw [tx_beq hx (hm m List.mem_cons_self)]
      by_cases hxm : x = m
      · rw [decide_eq_true hxm] at hs
        refine ⟨fun h' => absurd (by rw [hxm]; exact List.mem_cons_self) h', fun _ => ⟨i, ?_⟩⟩
        unfold Instr.findNow
        rw [hs]
        simp only
        rw [h2 e List.mem_cons_self]
      · rw [decide_eq_false hxm] at hs
        have hu : Instr.findNow .string (.string (tx x)) (e :: es) i = Instr.findNow .string (.string (tx x)) es (i + 1) := by
          conv => lhs; unfold Instr.findNow
          rw [hs]
        rw [hu]
        refine ⟨fun h' => ih.1 fun h'' => h' (List.mem_cons_of_mem _ h''), fun h' => ih.2 ?_⟩
        rcases List.mem_cons.1 h' with h' | h'
        · exact absurd h' hxm
        · exact h'
theorem look_ents {x : Nat} (hx : x < 8) {ms : List Nat} {es : List MapEntry} {bm ck ver : Nat} {σ : FState} (hm : ∀ m ∈ ms, m < 8) (h : Ents es ms) (hg : σ.heap.get bm = some ⟨.map es ck, false, none, ver⟩) :
    flookup2 Tryz.prog 9 .string (.bool false) (.map (some bm)) (.string (tx x)) true σ = .val (.tuple #[.bool (decide (x ∈ ms)), .bool (decide (x ∈ ms))]) σ := by
  have hf := find_ents hx ms es 0 hm h
  unfold flookup2
  simp only [hg]
  unfold flook
  show (match Instr.findNow .string (.string (tx x)) es 0 with
    | some (some (_, v)) => cond true (ORes.val (.tuple #[v, .bool true]) σ) (ORes.val v σ)
    | some none => cond true (ORes.val (.tuple #[.bool false, .bool false]) σ) (ORes.val (.bool false) σ)
    | none => ORes.no) = _
  by_cases hxm : x ∈ ms
  · obtain ⟨j, hj⟩ := hf.2 hxm
    rw [hj, decide_eq_true hxm]; rfl
  · rw [hf.1 hxm, decide_eq_false hxm]; rfl
theorem put_ents {x : Nat} (hx : x < 8) {ms : List Nat} {es : List MapEntry} {bm ck ver : Nat} {σ : FState} (hm : ∀ m ∈ ms, m < 8) (h : Ents es ms) (hxm : x ∉ ms) (hg : σ.heap.get bm = some ⟨.map es ck, false, none, ver⟩) :
    ∃ es', fmapUpdate Tryz.prog 9 .string (.map (some bm)) (.string (tx x)) (.bool true) σ = .skip (σ.put bm (.map es' (ck + 1)) none) ∧ Ents es' (ms ++ [x]) := by
  have hf := (find_ents hx ms es 0 hm h).1 hxm
  refine ⟨es ++ [(⟨.string (tx x), .bool true, ck⟩ : MapEntry)], ?_, ?_⟩
  · unfold fmapUpdate
    simp only [hg]
    show fmapPut Tryz.prog 9 .string bm (.string (tx x)) (.bool true) es ck σ = _
    unfold fmapPut
    show (match Instr.findNow .string (.string (tx x)) es 0 with
      | some (some (i, _)) => (match nth es i with
        | some old => cond (Instr.sameBits 10000 old.key (.string (tx x))) (ORes.skip (σ.put bm (.map (setNth (⟨.string (tx x), .bool true, old.born⟩ : MapEntry) es i) ck) none)) .no
        | none => .no)
      | some none => ORes.skip (σ.put bm (.map (es ++ [(⟨.string (tx x), .bool true, ck⟩ : MapEntry)]) (ck + 1)) none)
      | none => .no) = _
    rw [hf]
  · obtain ⟨h1, h2⟩ := h
    refine ⟨by rw [List.map_append, h1, strs, strs, List.map_append]; rfl, fun e he => ?_⟩
    rcases List.mem_append.1 he with he | he
    · exact h2 e he
    · rw [List.mem_singleton.1 he]
end Go.Proofs.YtodkeaoikjjneaaGreatDoor
/- Package datum's ascending: a round. -/
namespace Go.Proofs.YtodkeaoikjjneaaGreatDoor
open Go Go.Eng
attribute [local congr] andThen_congr fops_congr fdraw_congr afterOp_congr drawF_congr
attribute [-go_sem] List.range_succ
/-- What ascending knows: the loop's record l, what it waits with r, the map bm and its variable bk, the list's variable bo. -/
structure OutJ (l r bk bm bo : Nat) (fA gA : Nat → Value) (ms : List Nat) (Q : Nat → Prop) (σ : FState) : Prop where
  loop : LoopAt 96 [10] c96_0a c96_0b 8 28 fA gA l r .ready σ
  col : ∃ ver, σ.heap.get r = some ⟨.defd true, false, none, ver⟩
  key : σ.cells bk = some [.map (some bm)]
  map : ∃ es ck ver, σ.heap.get bm = some ⟨.map es ck, false, none, ver⟩ ∧ Ents es ms
  out : ∃ s ver, σ.heap.get bo = some ⟨.cells [s] 64, false, none, ver⟩ ∧ Vecs 9 Q σ s (strs ms)
theorem asc_round (n : Nat) {l r bk bm bo : Nat} {fA gA : Nat → Value} {ms : List Nat} {Q : Nat → Prop} {σ : FState} (hw : Wf σ) (h : OutJ l r bk bm bo fA gA ms Q σ) (hlt : bm < bk ∧ bk < bo ∧ bo < r ∧ r < l ∧ l < σ.next) (h3 : fA 3 = .pointer (some ⟨bk, 0, none⟩)) (h4 : fA 4 = .pointer (some ⟨bo, 0, none⟩)) {x : Nat} (hx : x < 8) (hms : ∀ m ∈ ms, m < 8) (hlen : ms.length ≤ 8) (hQ : ∀ b, σ.next ≤ b → Q b) (hQl : ∀ b, Q b → l < b) :
    ∃ σ', (env (n + 1)).round l [.string (tx x)] σ = .ret (.bool true) none σ' ∧ Wf σ' ∧ Chg (fun b => b = l ∨ b = bm ∨ b = bo ∨ Q b) σ σ' ∧ OutJ l r bk bm bo fA gA (ded ms x) Q σ' := by
  obtain ⟨hl, ⟨vr, hr⟩, hk, ⟨es, ck, vm, hm, hE⟩, ⟨s, vo, ho, hV⟩⟩ := h
  rw [round_go _ _ _ _ _ _ _ _ _ n l r _ hl rfl, c96_0a_go]
  simp -implicitDefEqProofs only [go_sem, ↓reduceIte, Nat.reduceLT, Nat.reduceEqDiff, Nat.reduceAdd, Nat.reduceMul, Nat.reduceLeDiff, Nat.reduceSub, r96_4_go, r96_4U, List.zip_cons_cons, List.zip_nil_right, putAll_cons, putAll_nil]
  rw [beginRound_go _ _ _ _ _ _ _ _ _ l r _ hl, c96_0b_go]
  have w1 := hw.put l (.loop .busy none 96 ((List.range 8).map fA) gA 8 28 [10] c96_0a c96_0b r) none (by omega)
  have hl1 : LoopAt 96 [10] c96_0a c96_0b 8 28 fA gA l r .busy (σ.put l (.loop .busy none 96 ((List.range 8).map fA) gA 8 28 [10] c96_0a c96_0b r) none) := LoopAt.put _ _ _ _ _ _ _ _ _ _ _ _
  have k1 : (σ.put l (.loop .busy none 96 ((List.range 8).map fA) gA 8 28 [10] c96_0a c96_0b r) none).cells bk = some [.map (some bm)] := by rw [cells_put, if_neg (by omega)]; exact hk
  have m1 : (σ.put l (.loop .busy none 96 ((List.range 8).map fA) gA 8 28 [10] c96_0a c96_0b r) none).heap.get bm = some ⟨.map es ck, false, none, vm⟩ := by rw [put_get, if_neg (by omega)]; exact hm
  have o1 : (σ.put l (.loop .busy none 96 ((List.range 8).map fA) gA 8 28 [10] c96_0a c96_0b r) none).heap.get bo = some ⟨.cells [s] 64, false, none, vo⟩ := by rw [put_get, if_neg (by omega)]; exact ho
  have r1 : (σ.put l (.loop .busy none 96 ((List.range 8).map fA) gA 8 28 [10] c96_0a c96_0b r) none).heap.get r = some ⟨.defd true, false, none, vr⟩ := by rw [put_get, if_neg (by omega)]; exact hr
  have V1 : Vecs 9 Q (σ.put l (.loop .busy none 96 ((List.range 8).map fA) gA 8 28 [10] c96_0a c96_0b r) none) s (strs ms) := hV.keep (fun b hq hb => ⟨by rw [put_get, if_neg (by have := hQl b hq; omega)], hq⟩) hw
  have C1 : Chg (fun b => b = l ∨ b = bm ∨ b = bo ∨ Q b) σ (σ.put l (.loop .busy none 96 ((List.range 8).map fA) gA 8 28 [10] c96_0a c96_0b r) none) := (Chg.refl _ σ).put _ _ _ (.inr (.inl rfl))
  have n1 : (σ.put l (.loop .busy none 96 ((List.range 8).map fA) gA 8 28 [10] c96_0a c96_0b r) none).next = σ.next := rfl
  generalize FState.put _ l _ _ = σ1 at w1 hl1 k1 m1 o1 r1 V1 C1 n1 ⊢
  have e1 := look_ents hx hms hE m1
  by_cases hxm : x ∈ ms
  · rw [decide_eq_true hxm] at e1
    simp -implicitDefEqProofs only [go_sem, ↓reduceIte, Nat.reduceLT, Nat.reduceEqDiff, Nat.reduceAdd, Nat.reduceMul, Nat.reduceLeDiff, Nat.reduceSub, r96_5_go, r96_5U, r96_6_go, r96_6U, h3, k1, lookup_cop, e1]
    rw [endRound_go _ _ _ _ _ _ _ _ _ _ l r _ _ hl1]
    refine ⟨_, rfl, w1.put _ _ _ (by omega), C1.put _ _ _ (.inr (.inl rfl)), ⟨LoopAt.put _ _ _ _ _ _ _ _ _ _ _ _, ⟨vr, by rw [put_get, if_neg (by omega)]; exact r1⟩, by rw [cells_put, if_neg (by omega)]; exact k1, ⟨es, ck, vm, by rw [put_get, if_neg (by omega)]; exact m1, ?_⟩, ⟨s, vo, by rw [put_get, if_neg (by omega)]; exact o1, ?_⟩⟩⟩
    · rw [ded, if_pos hxm]; exact hE
    · rw [ded, if_pos hxm]; exact V1.keep (fun b hq hb => ⟨by rw [put_get, if_neg (by have := hQl b hq; omega)], hq⟩) w1
  · rw [decide_eq_false hxm] at e1
    obtain ⟨es', e2, hE'⟩ := put_ents hx hms hE hxm m1
    have w2 := w1.put bm (.map es' (ck + 1)) none (by omega)
    have k2 : (σ1.put bm (.map es' (ck + 1)) none).cells bk = some [.map (some bm)] := by rw [cells_put, if_neg (by omega)]; exact k1
    have o2 : (σ1.put bm (.map es' (ck + 1)) none).heap.get bo = some ⟨.cells [s] 64, false, none, vo⟩ := by rw [put_get, if_neg (by omega)]; exact o1
    have co2 := cells_of_get o2
    have V2 : Vecs 9 Q (σ1.put bm (.map es' (ck + 1)) none) s (strs ms) := V1.keep (fun b hq hb => ⟨by rw [put_get, if_neg (by have := hQl b hq; omega)], hq⟩) w1
    obtain ⟨s', τ, ea, hV3, ch3, hwτ⟩ := vecs_add V2 w2 x (fun b hb => hQ b (by rw [put_next] at hb; omega)) (by omega)
    have nτ := ch3.next
    rw [put_next] at nτ ea
    have o3 : τ.heap.get bo = some ⟨.cells [s] 64, false, none, vo⟩ := (ch3.get bo (by rw [put_next]; omega) (fun hq => by have := hQl bo hq; omega)).trans o2
    have os := V2.one
    have os' := hV3.one
    simp -implicitDefEqProofs only [go_sem, ↓reduceIte, Nat.reduceLT, Nat.reduceEqDiff, Nat.reduceAdd, Nat.reduceMul, Nat.reduceLeDiff, Nat.reduceSub, r96_5_go, r96_5U, r96_6_go, r96_6U, r96_7_go, r96_7U, r96_8_go, r96_8U, h3, h4, k1, lookup_cop, update_cop, e1, e2, co2, os.1, os.2.1, os.2.2, ea, o3, os'.1, os'.2.1, os'.2.2]
    have hl3 : ∀ o : FObj, LoopAt 96 [10] c96_0a c96_0b 8 28 fA gA l r .busy (τ.put bo o none) := fun o => hl1.keep (by rw [put_get, if_neg (by omega), ch3.get l (by rw [put_next]; omega) (fun hq => by have := hQl l hq; omega), put_get, if_neg (by omega)])
    rw [endRound_go _ _ _ _ _ _ _ _ _ _ l r _ _ (hl3 _)]
    have gk : ∀ (o o' : FObj) b, b < σ.next → b ≠ l → b ≠ bm → b ≠ bo → ¬ Q b → ((τ.put bo o none).put l o' none).heap.get b = σ1.heap.get b := fun o o' b hb h1 h2 h3 h4 => by
      rw [put_get, if_neg h1, put_get, if_neg h3, ch3.get b (by rw [put_next]; omega) h4, put_get, if_neg h2]
    have hq : ∀ b, b ≤ l → ¬ Q b := fun b hb hq => by have := hQl b hq; omega
    refine ⟨_, rfl, (hwτ.put _ _ _ (by omega)).put _ _ _ (by rw [put_next]; omega), ⟨by rw [put_next, put_next]; omega, by have := C1.clock; have := ch3.clock; rw [put_clock] at this; rw [put_clock, put_clock]; omega, fun b hb hF => (gk _ _ b hb (fun h => hF (.inl h)) (fun h => hF (.inr (.inl h))) (fun h => hF (.inr (.inr (.inl h)))) (fun h => hF (.inr (.inr (.inr h))))).trans (C1.get b hb hF)⟩, ⟨LoopAt.put _ _ _ _ _ _ _ _ _ _ _ _, ⟨vr, (gk _ _ r (by omega) (by omega) (by omega) (by omega) (hq r (by omega))).trans r1⟩, by rw [cells_get, gk _ _ bk (by omega) (by omega) (by omega) (by omega) (hq bk (by omega)), ← cells_get]; exact k1, ⟨es', ck + 1, σ1.clock, ?_, ?_⟩, ⟨s', τ.clock, by rw [put_get, if_neg (by omega), put_get, if_pos rfl], ?_⟩⟩⟩
    · rw [put_get, if_neg (by omega), put_get, if_neg (by omega), ch3.get bm (by rw [put_next]; omega) (hq bm (by omega)), put_get, if_pos rfl]
    · rw [ded, if_neg hxm]; exact hE'
    · rw [ded, if_neg hxm]; exact hV3.keep (fun b hqb hb => ⟨by rw [put_get, if_neg (by have := hQl b hqb; omega), put_get, if_neg (by have := hQl b hqb; omega)], hqb⟩) hwτ
end Go.Proofs.YtodkeaoikjjneaaGreatDoor
/- Package datum's names: a round over pieces, and what becomes of it. -/
namespace Go.Proofs.YtodkeaoikjjneaaGreatDoor
open Go Go.Eng
attribute [local congr] andThen_congr fops_congr fdraw_congr afterOp_congr drawF_congr
attribute [-go_sem] List.range_succ
theorem OutJ.keep {l r bk bm bo : Nat} {fA gA : Nat → Value} {ms : List Nat} {Q Q' : Nat → Prop} {σ σ' : FState} (h : OutJ l r bk bm bo fA gA ms Q σ) (hw : Wf σ) (hk : ∀ b, (b = l ∨ b = r ∨ b = bk ∨ b = bm ∨ b = bo ∨ Q b) → b < σ.next → σ'.heap.get b = σ.heap.get b) (hQ : ∀ b, b < σ.next → Q b → Q' b) : OutJ l r bk bm bo fA gA ms Q' σ' := by
  obtain ⟨hl, ⟨vr, hr⟩, hkk, ⟨es, ck, vm, hm, hE⟩, ⟨s, vo, ho, hV⟩⟩ := h
  have hl0 := hl
  obtain ⟨vl, hl'⟩ := hl
  exact ⟨hl0.keep (hk l (by simp) (hw _ _ hl').1), ⟨vr, (hk r (by simp) (hw _ _ hr).1).trans hr⟩, by rw [cells_get, hk bk (by simp) (hw.cells hkk), ← cells_get]; exact hkk, ⟨es, ck, vm, (hk bm (by simp) (hw _ _ hm).1).trans hm, hE⟩, ⟨s, vo, (hk bo (by simp) (hw _ _ ho).1).trans ho, hV.keep (fun b hq hb => ⟨hk b (by simp [hq]) hb, hQ b hb hq⟩) hw⟩⟩
theorem asNumberT (v : Value) (σ : FState) : fassert Tryz.prog (.iface 173 v) 161 true σ = .val (.tuple #[.agg #[.int .i64 0, .int .i64 0, .string ⟨#[]⟩, .slice none 0 0], .bool false]) σ := by kernel_rfl
theorem as_text (k : Nat) (hk : k ≤ 6) (a b c d : Value) : ∃ tv : List Value, tv.length = 4 ∧ (k = 3 ∨ k = 4 → tv = [a, b, c, d]) ∧ (¬ (k = 3 ∨ k = 4) → tv = [.int .i64 0, .int .i64 0, .string ⟨#[]⟩, .slice none 0 0]) ∧ ∀ σ, fassert Tryz.prog (.iface (workType k) (.agg #[a, b, c, d])) 161 true σ = .val (.tuple #[.agg tv.toArray, .bool (decide (k = 3 ∨ k = 4))]) σ := by
  obtain rfl | rfl | rfl | rfl | rfl | rfl | rfl : k = 0 ∨ k = 1 ∨ k = 2 ∨ k = 3 ∨ k = 4 ∨ k = 5 ∨ k = 6 := by omega
  · exact ⟨[.int .i64 0, .int .i64 0, .string ⟨#[]⟩, .slice none 0 0], rfl, fun h => by omega, fun _ => rfl, fun σ => asEmptyT _ σ⟩
  · exact ⟨[.int .i64 0, .int .i64 0, .string ⟨#[]⟩, .slice none 0 0], rfl, fun h => by omega, fun _ => rfl, fun σ => asNumberT _ σ⟩
  · exact ⟨[.int .i64 0, .int .i64 0, .string ⟨#[]⟩, .slice none 0 0], rfl, fun h => by omega, fun _ => rfl, fun σ => asNumberT _ σ⟩
  · exact ⟨[a, b, c, d], rfl, fun _ => rfl, fun h => by omega, fun σ => asText _ σ⟩
  · exact ⟨[a, b, c, d], rfl, fun _ => rfl, fun h => by omega, fun σ => asText _ σ⟩
  · exact ⟨[.int .i64 0, .int .i64 0, .string ⟨#[]⟩, .slice none 0 0], rfl, fun h => by omega, fun _ => rfl, fun σ => asBranchT _ σ⟩
  · exact ⟨[.int .i64 0, .int .i64 0, .string ⟨#[]⟩, .slice none 0 0], rfl, fun h => by omega, fun _ => rfl, fun σ => asBranchT _ σ⟩
end Go.Proofs.YtodkeaoikjjneaaGreatDoor
/- Package datum's names: its rounds. -/
namespace Go.Proofs.YtodkeaoikjjneaaGreatDoor
open Go Go.Eng
attribute [local congr] andThen_congr fops_congr fdraw_congr afterOp_congr drawF_congr
attribute [-go_sem] List.range_succ
theorem rank_of {r : Nat} (h : r < 8) : rank (tx r) = r := below8 (P := fun r => rank (tx r) = r) ⟨rfl, rfl, rfl, rfl, rfl, rfl, rfl, rfl⟩ h
theorem rkP_snoc (done : List (List Nat × D)) (x : List Nat × D) : rkP (done ++ [x]) = rkP done ++ (symR x.2).toList := by
  rw [rkP_append, rkP, rkP, List.filterMap_cons]
  cases symR x.2 <;> rfl
structure NamesI (l0 r0 bk bm bo l1 r1 bY : Nat) (fA gA f g : Nat → Value) (done : List (List Nat × D)) (B : Nat → Prop) (σ : FState) : Prop where
  has : ∀ b, b = l0 ∨ b = r0 ∨ b = bk ∨ b = bm ∨ b = bo ∨ b = l1 ∨ b = r1 ∨ b = bY → B b
  own : ∀ b, B b → b < σ.next ∧ (b = l0 ∨ b = r0 ∨ b = bk ∨ b = bm ∨ b = bo ∨ b = l1 ∨ b = r1 ∨ b = bY ∨ l1 < b)
  loop : LoopAt 124 [9, 10] c124_0a c124_0b 7 32 f g l1 r1 .ready σ
  col : ∃ ver, σ.heap.get r1 = some ⟨.defd true, false, none, ver⟩
  yld : σ.cells bY = some [.func (.yield l0) #[] #[]]
  out : OutJ l0 r0 bk bm bo fA gA (dedL (rkP done)) (fun b => B b ∧ l1 < b) σ
theorem names_body (n l0 r0 bk bm bo l1 r1 bY L : Nat) (fA gA f g : Nat → Value) (R : Nat → Prop) (d0 : D) (hM : Made L d0) (hlt : bm < bk ∧ bk < bo ∧ bo < r0 ∧ r0 < l0 ∧ l0 < bY ∧ bY < r1 ∧ r1 < l1) (h2 : f 2 = .pointer (some ⟨bY, 0, none⟩)) (h3 : fA 3 = .pointer (some ⟨bk, 0, none⟩)) (h4 : fA 4 = .pointer (some ⟨bo, 0, none⟩)) (hR : ∀ b, R b → b < bm) :
    Body (env (n + 2)) l1 R (.func (.func 135) #[] #[]) (NamesI l0 r0 bk bm bo l1 r1 bY fA gA f g) (d0.pieces []) where
  stays := fun done B σ σ' h hw hC => by
    have k : ∀ b, B b → b < σ.next → σ'.heap.get b = σ.heap.get b := fun b hb hn => hC.get b hn fun h => h.1 hb
    have hn := hC.next
    obtain ⟨vr, hr⟩ := h.col
    exact ⟨h.has, fun b hb => ⟨Nat.lt_of_lt_of_le (h.own b hb).1 hn, (h.own b hb).2⟩, h.loop.keep (k l1 (h.has l1 (by simp)) (h.own l1 (h.has l1 (by simp))).1), ⟨vr, (k r1 (h.has r1 (by simp)) (hw _ _ hr).1).trans hr⟩, by rw [cells_get, k bY (h.has bY (by simp)) (hw.cells h.yld), ← cells_get]; exact h.yld, h.out.keep hw (fun b hb hn => k b (by
      rcases hb with h' | h' | h' | h' | h' | h'
      · exact h.has b (by simp [h'])
      · exact h.has b (by simp [h'])
      · exact h.has b (by simp [h'])
      · exact h.has b (by simp [h'])
      · exact h.has b (by simp [h'])
      · exact h'.1) hn) fun _ _ h => h⟩
  own := fun done B σ h b hb => ⟨(h.own b hb).1, fun hr => by
    have := hR b hr
    rcases (h.own b hb).2 with h' | h' | h' | h' | h' | h' | h' | h' | h' <;> omega⟩
  inside := fun done B σ k z t p ln c _ hw => inside_go (n + 1) _ 135 #[] rfl k z t (.slice p ln c) (oneCell_slice _ _ _) σ hw fun σ' _ hw' => ⟨_, σ', alwaysIn n _ σ', Ext.refl _, hw', rfl⟩
  go := fun done path d rest B σ pv v hall hw h hpath hL => by
    have hmem : (path, d) ∈ d0.pieces [] := by rw [hall]; simp
    obtain ⟨k, z, t, ps⟩ := d
    obtain ⟨p, c, rfl, hq⟩ := hL
    obtain ⟨k', rfl, hG⟩ := (made_fine n hM).good path k z t ps hmem
    have hk6 : k' ≤ 6 := by generalize ps.length = m at hG; cases hG <;> decide
    obtain ⟨tv, htv4, htv1, htv2, has⟩ := as_text k' hk6 (.int .i64 (k' : Int)) (.int .i64 z) (.string t) (.slice p ps.length c)
    generalize hok : decide (k' = 3 ∨ k' = 4) = ok at has
    obtain ⟨vr, hr⟩ := h.col
    have ol := (h.own l1 (h.has l1 (by simp))).1
    have or' := (h.own r1 (h.has r1 (by simp))).1
    rw [round_go _ _ _ _ _ _ _ _ _ (n + 1) l1 r1 _ h.loop rfl, c124_0a_go]
    simp -implicitDefEqProofs only [go_sem, ↓reduceIte, Nat.reduceLT, Nat.reduceEqDiff, Nat.reduceAdd, Nat.reduceMul, Nat.reduceLeDiff, Nat.reduceSub, fstoreN, r124_2_go, r124_2U, List.zip_cons_cons, List.zip_nil_right, putAll_cons, putAll_nil]
    have x1 : Ext σ ((σ.push (.cells [.int .i64 0, .int .i64 0, .string ⟨#[]⟩, .slice none 0 0] TD) none).put σ.next (.cells [.int .i64 (k' : Int), .int .i64 z, .string t, .slice p ps.length c] TD) none) := ((Ext.refl _).push _ _).put _ _ _ (Nat.le_refl _)
    have hw1 := (hw.push (.cells [.int .i64 0, .int .i64 0, .string ⟨#[]⟩, .slice none 0 0] TD) none).put σ.next (.cells [.int .i64 (k' : Int), .int .i64 z, .string t, .slice p ps.length c] TD) none (Nat.lt_succ_self _)
    have b1 : ((σ.push (.cells [.int .i64 0, .int .i64 0, .string ⟨#[]⟩, .slice none 0 0] TD) none).put σ.next (.cells [.int .i64 (k' : Int), .int .i64 z, .string t, .slice p ps.length c] TD) none).cells σ.next = some [.int .i64 (k' : Int), .int .i64 z, .string t, .slice p ps.length c] := by rw [cells_put, if_pos rfl]; rfl
    have n1 : ((σ.push (.cells [.int .i64 0, .int .i64 0, .string ⟨#[]⟩, .slice none 0 0] TD) none).put σ.next (.cells [.int .i64 (k' : Int), .int .i64 z, .string t, .slice p ps.length c] TD) none).next = σ.next + 1 := rfl
    generalize FState.put _ _ _ _ = σ1 at x1 hw1 b1 n1 ⊢
    have lp1 := h.loop.keep (x1.get l1 ol)
    rw [beginRound_go _ _ _ _ _ _ _ _ _ l1 r1 _ lp1, c124_0b_go]
    have hw2 := hw1.put l1 (.loop .busy none 124 ((List.range 7).map f) g 7 32 [9, 10] c124_0a c124_0b r1) none (by omega)
    have lp2 : LoopAt 124 [9, 10] c124_0a c124_0b 7 32 f g l1 r1 .busy (σ1.put l1 (.loop .busy none 124 ((List.range 7).map f) g 7 32 [9, 10] c124_0a c124_0b r1) none) := LoopAt.put _ _ _ _ _ _ _ _ _ _ _ _
    have n2 : (σ1.put l1 (.loop .busy none 124 ((List.range 7).map f) g 7 32 [9, 10] c124_0a c124_0b r1) none).next = σ.next + 1 := n1
    have C2 : Chg (· = l1) σ (σ1.put l1 (.loop .busy none 124 ((List.range 7).map f) g 7 32 [9, 10] c124_0a c124_0b r1) none) := (x1.chg _).put _ _ _ (.inr rfl)
    have b2 : (σ1.put l1 (.loop .busy none 124 ((List.range 7).map f) g 7 32 [9, 10] c124_0a c124_0b r1) none).cells σ.next = some [.int .i64 (k' : Int), .int .i64 z, .string t, .slice p ps.length c] := by rw [cells_put, if_neg (by omega)]; exact b1
    generalize FState.put _ l1 _ _ = σ2 at hw2 lp2 b2 C2 n2 ⊢
    obtain ⟨_, σ3, e3, x3, hw3, rfl⟩ := atWork_go n k' hk6 z t (.slice p ps.length c) (oneCell_slice _ _ _) σ2 hw2
    have n3 := x3.next
    have x4 : Ext σ3 ((σ3.push (.cells [.int .i64 0, .int .i64 0, .string ⟨#[]⟩, .slice none 0 0] 161) none).put σ3.next (.cells tv 161) none) := ((Ext.refl _).push _ _).put _ _ _ (Nat.le_refl _)
    have hw4 := (hw3.push (.cells [.int .i64 0, .int .i64 0, .string ⟨#[]⟩, .slice none 0 0] 161) none).put σ3.next (.cells tv 161) none (Nat.lt_succ_self _)
    have b4 : ((σ3.push (.cells [.int .i64 0, .int .i64 0, .string ⟨#[]⟩, .slice none 0 0] 161) none).put σ3.next (.cells tv 161) none).cells σ3.next = some tv := by rw [cells_put, if_pos rfl]; rfl
    have n4 : ((σ3.push (.cells [.int .i64 0, .int .i64 0, .string ⟨#[]⟩, .slice none 0 0] 161) none).put σ3.next (.cells tv 161) none).next = σ3.next + 1 := rfl
    have hto : tv.all oneCell = true := by
      by_cases hkk : k' = 3 ∨ k' = 4
      · rw [htv1 hkk]; rfl
      · rw [htv2 hkk]; rfl
    have tt4 : tv.take 4 = tv := List.take_of_length_le (by omega)
    simp -implicitDefEqProofs only [go_sem, ↓reduceIte, Nat.reduceLT, Nat.reduceEqDiff, Nat.reduceAdd, Nat.reduceMul, Nat.reduceLeDiff, Nat.reduceSub, fstoreN, r124_3_go, r124_3U, b2, e3, has, htv4, hto, tt4]
    generalize FState.put _ _ _ _ = σ4 at x4 hw4 b4 n4 ⊢
    have C4 : Chg (· = l1) σ σ4 := (C2.trans ((x3.trans x4).chg _) fun _ _ h => h)
    have lp4 := lp2.keep ((x3.trans x4).get l1 (by omega))
    have g4 : ∀ b, b < σ.next → b ≠ l1 → σ4.heap.get b = σ.heap.get b := fun b hb hne => C4.get b hb hne
    have y4 : σ4.cells bY = some [.func (.yield l0) #[] #[]] := by
      rw [cells_get, g4 bY (hw.cells h.yld) (by omega), ← cells_get]; exact h.yld
    have J4 : OutJ l0 r0 bk bm bo fA gA (dedL (rkP done)) (fun b => (B b ∧ l1 < b) ∨ σ4.next ≤ b) σ4 := h.out.keep hw (fun b hb hn => g4 b hn (by
      rcases hb with h' | h' | h' | h' | h' | h'
      · omega
      · omega
      · omega
      · omega
      · omega
      · have := h'.2; omega)) fun b _ hb => .inl hb
    have nn4 := C4.next
    have fin : ∀ σ5 : FState, σ5 = σ4 → dedL (rkP (done ++ [(path, D.mk (k' : Int) z t ps)])) = dedL (rkP done) → ∃ B' σ', CRes.ret (.bool true) none (σ5.put l1 (.loop .ready none 124 ((List.range 7).map f) g 7 32 [9, 10] c124_0a c124_0b r1) none) = .ret (.bool true) none σ' ∧ Wf σ' ∧ Chg B σ σ' ∧ (∀ b, B' b → B b ∨ σ.next ≤ b) ∧ NamesI l0 r0 bk bm bo l1 r1 bY fA gA f g (done ++ [(path, D.mk (k' : Int) z t ps)]) B' σ' := fun σ5 h5 hded => by
      subst h5
      have g5 : ∀ (o : FObj) b, b < σ.next → b ≠ l1 → (σ5.put l1 o none).heap.get b = σ.heap.get b := fun o b hb hne => by rw [put_get, if_neg hne]; exact g4 b hb hne
      refine ⟨B, _, rfl, hw4.put _ _ _ (by omega), ⟨by rw [put_next]; omega, by have := C4.clock; rw [put_clock]; omega, fun b hb hB => g5 _ b hb fun e => hB (e ▸ h.has l1 (by simp))⟩, fun b hb => .inl hb, ⟨h.has, fun b hb => ⟨by rw [put_next]; have := (h.own b hb).1; omega, (h.own b hb).2⟩, LoopAt.put _ _ _ _ _ _ _ _ _ _ _ _, ⟨vr, (g5 _ r1 or' (by omega)).trans hr⟩, by rw [cells_get, g5 _ bY (hw.cells h.yld) (by omega), ← cells_get]; exact h.yld, ?_⟩⟩
      rw [hded]
      exact h.out.keep hw (fun b hb hn => g5 _ b hn (by
        rcases hb with h' | h' | h' | h' | h' | h'
        · omega
        · omega
        · omega
        · omega
        · omega
        · have := h'.2; omega)) fun _ _ h => h
    by_cases hk34 : k' = 3 ∨ k' = 4
    · rw [htv1 hk34] at b4
      by_cases hk3 : k' = 3
      · subst hk3
        obtain ⟨hts, rfl, rfl⟩ := rk_made hM _ hmem 3 z t ps rfl rfl
        obtain ⟨r, hr8, rfl⟩ : ∃ r, r < 8 ∧ t = tx r := ⟨rank t, (rank_tx hts).2, (rank_tx hts).1.symm⟩
        have hms : ∀ m ∈ dedL (rkP done), m < 8 := fun m hm => rk_lt hM m (by
          rw [dedL_mem, rkP, List.mem_filterMap] at hm
          obtain ⟨x, hx, e⟩ := hm
          rw [rk, rkP, List.mem_filterMap]
          exact ⟨x, by rw [hall]; simp [hx], e⟩)
        have hln := dedL_len hM done (fun x hx => by rw [hall]; simp [hx])
        obtain ⟨σ6, e6, hw6, C6, J6⟩ := asc_round n hw4 J4 ⟨hlt.1, hlt.2.1, hlt.2.2.1, hlt.2.2.2.1, by omega⟩ h3 h4 hr8 hms hln (fun b hb => .inr hb) (fun b hb => by
          rcases hb with hb | hb
          · have := hb.2; omega
          · omega)
        have k3 : (((3 : Nat) : Int) == 3) = true := by decide
        obtain rfl : ok = true := hok.symm.trans (by decide)
        simp -implicitDefEqProofs only [go_sem, ↓reduceIte, Nat.reduceLT, Nat.reduceEqDiff, Nat.reduceAdd, Nat.reduceMul, Nat.reduceLeDiff, Nat.reduceSub, r124_4_go, r124_4U, b4, k3, h2, y4, fcallV_yield, after_yield, e6]
        have n6 := C6.next
        have lp6 := lp4.keep (C6.get l1 (by omega) (fun hq => by
          rcases hq with h' | h' | h' | h' | h'
          · omega
          · omega
          · omega
          · have := h'.2; omega
          · omega))
        rw [endRound_go _ _ _ _ _ _ _ _ _ _ l1 r1 _ _ lp6]
        have g6 : ∀ (o : FObj) b, b < σ.next → ¬ B b → (σ6.put l1 o none).heap.get b = σ.heap.get b := fun o b hb hB => by
          have hne : b ≠ l1 := fun e => hB (e ▸ h.has l1 (by simp))
          rw [put_get, if_neg hne, C6.get b (by omega) (fun hq => by
            rcases hq with h' | h' | h' | h' | h'
            · exact hB (h.has b (by simp [h']))
            · exact hB (h.has b (by simp [h']))
            · exact hB (h.has b (by simp [h']))
            · exact hB h'.1
            · omega)]
          exact g4 b hb hne
        have g7 : ∀ (o : FObj) b, b < σ.next → b ≠ l1 → b ≠ l0 → b ≠ bm → b ≠ bo → b ≤ l1 → (σ6.put l1 o none).heap.get b = σ.heap.get b := fun o b hb h1 h2 h3 h4 h5 => by
          rw [put_get, if_neg h1, C6.get b (by omega) (fun hq => by
            rcases hq with h' | h' | h' | h' | h'
            · omega
            · omega
            · omega
            · have := h'.2; omega
            · omega)]
          exact g4 b hb h1
        refine ⟨fun b => B b ∨ (σ.next ≤ b ∧ b < σ6.next), _, rfl, hw6.put _ _ _ (by omega), ⟨by rw [put_next]; omega, by have := C4.clock; have := C6.clock; rw [put_clock]; omega, fun b hb hB => g6 _ b hb hB⟩, fun b hb => hb.imp id fun h => h.1, ⟨fun b hb => .inl (h.has b hb), fun b hb => ?_, LoopAt.put _ _ _ _ _ _ _ _ _ _ _ _, ⟨vr, (g7 _ r1 or' (by omega) (by omega) (by omega) (by omega) (by omega)).trans hr⟩, by rw [cells_get, g7 _ bY (hw.cells h.yld) (by omega) (by omega) (by omega) (by omega) (by omega), ← cells_get]; exact h.yld, ?_⟩⟩
        · rw [put_next]
          rcases hb with hb | hb
          · exact ⟨by have := (h.own b hb).1; omega, (h.own b hb).2⟩
          · exact ⟨hb.2, .inr (.inr (.inr (.inr (.inr (.inr (.inr (.inr (by omega)))))))) ⟩
        · rw [rkP_snoc, show symR (path, D.mk ((3 : Nat) : Int) 0 (tx r) []).2 = some r by show (if ((3 : Nat) : Int) = 3 then some (rank (tx r)) else none) = _; rw [if_pos (show ((3 : Nat) : Int) = 3 from rfl), rank_of hr8], show (some r).toList = [r] from rfl, dedL_snoc]
          exact J6.keep hw6 (fun b hb hn => by
            rw [put_get, if_neg (by
              rcases hb with h' | h' | h' | h' | h' | h'
              · omega
              · omega
              · omega
              · omega
              · omega
              · rcases h' with h' | h'
                · have := h'.2; omega
                · omega)]) fun b hn hb => by
            rcases hb with hb | hb
            · exact ⟨.inl hb.1, hb.2⟩
            · exact ⟨.inr ⟨by omega, hn⟩, by omega⟩
      · obtain rfl : k' = 4 := by omega
        have k4 : (((4 : Nat) : Int) == 3) = false := by decide
        obtain rfl : ok = true := hok.symm.trans (by decide)
        simp -implicitDefEqProofs only [go_sem, ↓reduceIte, Nat.reduceLT, Nat.reduceEqDiff, Nat.reduceAdd, Nat.reduceMul, Nat.reduceLeDiff, Nat.reduceSub, r124_4_go, r124_4U, b4, k4]
        rw [endRound_go _ _ _ _ _ _ _ _ _ _ l1 r1 _ _ lp4]
        exact fin σ4 rfl (by rw [rkP_snoc, show symR (path, D.mk ((4 : Nat) : Int) z t ps).2 = none from rfl]; simp)
    · obtain rfl : ok = false := hok.symm.trans (decide_eq_false hk34)
      simp -implicitDefEqProofs only [go_sem, ↓reduceIte, Nat.reduceLT, Nat.reduceEqDiff, Nat.reduceAdd, Nat.reduceMul, Nat.reduceLeDiff, Nat.reduceSub, r124_4_go, r124_4U, b4]
      rw [endRound_go _ _ _ _ _ _ _ _ _ _ l1 r1 _ _ lp4]
      refine fin σ4 rfl ?_
      rw [rkP_snoc, show symR (path, D.mk (k' : Int) z t ps).2 = none by show (if (k' : Int) = 3 then _ else none) = none; rw [if_neg (by omega)]]
      simp
end Go.Proofs.YtodkeaoikjjneaaGreatDoor
/- Package datum's names, whole. -/
namespace Go.Proofs.YtodkeaoikjjneaaGreatDoor
open Go Go.Eng
attribute [local congr] andThen_congr fops_congr fdraw_congr afterOp_congr drawF_congr
attribute [-go_sem] List.range_succ
theorem names1_go (n : Nat) {l0 r0 bk bm bo L : Nat} {fA gA : Nat → Value} {d : D} (hM : Made L d) (hL6 : L ≤ 6) (lv : List Value) (h4 : lv.length = 4) {R : Nat → Prop} {b0 : Nat} (σ : FState) (hw : Wf σ) (hb0 : σ.cells b0 = some lv) (hLd : LaidR R σ (.agg lv.toArray) d) (hR : ∀ b, R b → b < bm) (hlt : bm < bk ∧ bk < bo ∧ bo < r0 ∧ r0 < l0 ∧ l0 < σ.next) (J : OutJ l0 r0 bk bm bo fA gA [] (fun _ => False) σ) (h3 : fA 3 = .pointer (some ⟨bk, 0, none⟩)) (h4' : fA 4 = .pointer (some ⟨bo, 0, none⟩)) :
    ∃ σ', (env (n + 4)).call 124 [.func (.yield l0) #[] #[], .pointer (some ⟨b0, 0, none⟩)] none σ = .ret (.tuple #[]) none σ' ∧ Wf σ' ∧ Chg (fun b => b = l0 ∨ b = bm ∨ b = bo ∨ b = bk ∨ b = r0) σ σ' ∧ OutJ l0 r0 bk bm bo fA gA (dedL (rk d)) (fun b => σ.next ≤ b) σ' := by
  have hF := made_fine n hM
  rw [env_call, enter124 _ _ _ _ (by simp), Sl_start]
  unfold run124
  have x1 : Ext σ (σ.push (.cells [.func (.yield l0) #[] #[]] 159) none) := (Ext.refl _).push _ _
  have hw1 := hw.push (.cells [.func (.yield l0) #[] #[]] 159) none
  have y1 : (σ.push (.cells [.func (.yield l0) #[] #[]] 159) none).cells σ.next = some [.func (.yield l0) #[] #[]] := by rw [cells_push, if_pos rfl]; rfl
  have n1 : (σ.push (.cells [.func (.yield l0) #[] #[]] 159) none).next = σ.next + 1 := rfl
  simp -implicitDefEqProofs only [go_sem, ↓reduceIte, Nat.reduceLT, Nat.reduceEqDiff, Nat.reduceAdd, Nat.reduceMul, Nat.reduceLeDiff, Nat.reduceSub, r124_0_go, r124_0U, Option.getD_some, notTuple_func, valCells_func, oneCell_func]
  have c1 := (x1.cells (hw.cells hb0)).trans hb0
  generalize FState.push σ _ _ = σ1 at x1 hw1 y1 n1 c1 ⊢
  generalize hff : upd _ 2 _ = f1
  have q1 : f1 1 = .pointer (some ⟨b0, 0, none⟩) := by rw [← hff]; simp -implicitDefEqProofs only [upd_go, kept_go, ↓reduceIte, Nat.reduceEqDiff, Nat.reduceLT, reduceCtorEq, List.getElem?_cons_zero, List.getElem?_cons_succ, Option.getD_some]
  have q2 : f1 2 = .pointer (some ⟨σ.next, 0, none⟩) := by rw [← hff]; simp -implicitDefEqProofs only [upd_go, kept_go, ↓reduceIte, Nat.reduceEqDiff, Nat.reduceLT, reduceCtorEq]
  clear hff
  obtain ⟨σ2, b1, b2, e2, x2, hw2, hb1, hb2, cb2, cb1⟩ := walkD_go (n + 1) lv h4 σ1 hw1
  have ht : lv.take 4 = lv := List.take_of_length_le (by omega)
  simp -implicitDefEqProofs only [go_sem, ↓reduceIte, Nat.reduceLT, Nat.reduceEqDiff, Nat.reduceAdd, Nat.reduceMul, Nat.reduceLeDiff, Nat.reduceSub, r124_1_go, r124_1U, q1, c1, h4, ht, e2, Nat.le_refl]
  generalize hgg : upd _ 8 _ = gg
  have n2 := x2.next
  have hL2 : LaidR R σ2 (.agg lv.toArray) d := hLd.keep fun b cs hb hc => ⟨((x1.trans x2).cells (hw.cells hc)).trans hc, hb⟩
  have y2 : Ext σ2 ((σ2.push (.defd true) none).push (.loop .ready none 124 ((List.range 7).map f1) gg 7 32 [9, 10] c124_0a c124_0b σ2.next) none) := ((Ext.refl _).push _ _).push _ _
  have x12 := x1.trans x2
  have yY : σ2.cells σ.next = some [.func (.yield l0) #[] #[]] := (x2.cells (by omega)).trans y1
  have J3 : OutJ l0 r0 bk bm bo fA gA [] (fun b => (b = l0 ∨ b = r0 ∨ b = bk ∨ b = bm ∨ b = bo ∨ b = σ2.next + 1 ∨ b = σ2.next ∨ b = σ.next) ∧ σ2.next + 1 < b) ((σ2.push (.defd true) none).push (.loop .ready none 124 ((List.range 7).map f1) gg 7 32 [9, 10] c124_0a c124_0b σ2.next) none) := J.keep hw (fun b _ hn => (x12.trans y2).get b hn) fun _ _ h => h.elim
  obtain ⟨σ3, B3, e3, ch3, n3, hB3, hw3, i3⟩ := range_walk (n + 2) 124 [9, 10] c124_0a c124_0b 7 32 f1 gg [] none 8 b1 b2 σ2 (.func (.func 135) #[] #[]) R d lv (NamesI l0 r0 bk bm bo (σ2.next + 1) σ2.next σ.next fA gA f1 gg) (fun b => b = l0 ∨ b = r0 ∨ b = bk ∨ b = bm ∨ b = bo ∨ b = σ2.next + 1 ∨ b = σ2.next ∨ b = σ.next)
    (names_body n l0 r0 bk bm bo (σ2.next + 1) σ2.next σ.next L fA gA f1 gg R d hM ⟨hlt.1, hlt.2.1, hlt.2.2.1, hlt.2.2.2.1, hlt.2.2.2.2, by omega, by omega⟩ q2 h3 h4' hR) (hF.small hL6) (by have := hF.few hL6; omega)
    (fun done B σ' h => ⟨h.loop, h.col⟩)
    ⟨fun b hb => hb, fun b hb => ⟨by
      simp only [push_next]
      rcases hb with h | h | h | h | h | h | h | h <;> omega, by
      rcases hb with h | h | h | h | h | h | h | h <;> simp [h]⟩, loop_made .., ⟨_, by rw [push_get, if_neg (by rw [push_next]; omega), push_get, if_pos rfl]⟩, (y2.cells (by omega)).trans yY, J3⟩
    (by rw [Sl_get, ← hgg]; simp -implicitDefEqProofs only [upd_go, kept_go, ↓reduceIte, Nat.reduceEqDiff, Nat.reduceLT, reduceCtorEq]) hw2 cb1 (fun h => by have := hw2.cells cb1; rcases h with h | h | h | h | h | h | h | h <;> omega) hL2 (fun b hb => by have := hR b hb; omega) cb2 (fun h => by have := hw2.cells cb2; rcases h with h | h | h | h | h | h | h | h <;> omega)
  rw [e3]
  obtain ⟨vr, hr⟩ := i3.col
  have hcol : ∀ (o : FObj), (σ3.put (σ2.next + 1) o none).heap.get σ2.next = some ⟨.defd true, false, none, vr⟩ := fun o => by rw [put_get, if_neg (by omega)]; exact hr
  simp -implicitDefEqProofs only [go_sem, ↓reduceIte, Nat.reduceLT, Nat.reduceEqDiff, Nat.reduceAdd, Nat.reduceMul, Nat.reduceLeDiff, Nat.reduceSub]
  rw [fleave_collected _ _ _ _ _ _ _ _ _ _ (hcol _)]
  simp -implicitDefEqProofs only [go_sem, ↓reduceIte, Nat.reduceLT, Nat.reduceEqDiff, Nat.reduceAdd, Nat.reduceMul, Nat.reduceLeDiff, Nat.reduceSub]
  refine ⟨_, rfl, (hw3.put _ _ _ (by omega)).put _ _ _ (by rw [put_next]; omega), ⟨by rw [put_next, put_next]; omega, by have := x12.clock; have := ch3.clock; rw [put_clock, put_clock]; omega, fun b hb hF => ?_⟩, i3.out.keep hw3 (fun b hb hn => ?_) fun b _ hb => by have := hb.2; omega⟩
  · rw [put_get, if_neg (by omega), put_get, if_neg (by omega), ch3.get b (by omega) (fun h => ?_)]
    · exact x12.get b hb
    · rcases h with h | h | h | h | h | h | h | h
      · exact hF (.inl h)
      · exact hF (.inr (.inr (.inr (.inr h))))
      · exact hF (.inr (.inr (.inr (.inl h))))
      · exact hF (.inr (.inl h))
      · exact hF (.inr (.inr (.inl h)))
      all_goals omega
  · have : b ≠ σ2.next + 1 ∧ b ≠ σ2.next := by
      rcases hb with h | h | h | h | h | h
      · omega
      · omega
      · omega
      · omega
      · omega
      · have := h.2; omega
    rw [put_get, if_neg this.2, put_get, if_neg this.1]
end Go.Proofs.YtodkeaoikjjneaaGreatDoor
/- Package datum's ascending, whole. -/
namespace Go.Proofs.YtodkeaoikjjneaaGreatDoor
open Go Go.Eng
attribute [local congr] andThen_congr fops_congr fdraw_congr afterOp_congr drawF_congr
attribute [-go_sem] List.range_succ
theorem names_go (n : Nat) (lv : List Value) (h4 : lv.length = 4) (σ : FState) (hw : Wf σ) :
    ∃ σ', (env (n + 1)).call 97 [.agg lv.toArray] none σ = .ret (.func (.func 124) #[] #[.pointer (some ⟨σ.next, 0, none⟩)]) none σ' ∧ Ext σ σ' ∧ Wf σ' ∧ σ'.cells σ.next = some lv := by
  rw [env_call, enter97 _ _ _ _ (by simp), Sl_start]
  unfold run97
  simp -implicitDefEqProofs only [go_sem, ↓reduceIte, Nat.reduceLT, Nat.reduceEqDiff, Nat.reduceAdd, Nat.reduceMul, Nat.reduceLeDiff, Nat.reduceSub, r97_0_go, r97_0U, r97_1_go, r97_1U, Option.getD_some, List.getElem?_cons_zero, h4, notTuple_func, valCells_func, oneCell_func]
  exact ⟨_, rfl, (Ext.refl _).push _ _, hw.push _ _, by rw [cells_push, if_pos rfl]; rfl⟩
theorem rk_asc {L : Nat} {d : D} (hM : Made L d) {l : List Nat} (h : l.Pairwise (· < ·)) (hm : ∀ z, z ∈ l ↔ z ∈ dedL (rk d)) : l = asc fun r => decide (r ∈ rk d) := asc_of l _ h fun x => by
  rw [hm, dedL_mem]
  exact ⟨fun h => ⟨rk_lt hM x h, decide_eq_true h⟩, fun h => of_decide_eq_true h.2⟩
theorem ascending_go (m : Nat) {L : Nat} {d : D} (hM : Made L d) (hL6 : L ≤ 6) (lv : List Value) (h4 : lv.length = 4) {R : Nat → Prop} {b0 : Nat} (σ : FState) (hw : Wf σ) (hb0 : σ.cells b0 = some lv) (hLd : LaidR R σ (.agg lv.toArray) d) (hR : ∀ b, R b → b < σ.next) :
    Gives ((env (m + 7)).call 96 [.func (.func 124) #[] #[.pointer (some ⟨b0, 0, none⟩)]] none σ) σ fun w σ' => Vecs 9 (fun b => σ.next ≤ b) σ' w (strs (asc fun r => decide (r ∈ rk d))) := by
  rw [env_call, enter96 _ _ _ _ (by simp), Sl_start]
  unfold run96
  have x1 : Ext σ ((((σ.push (.map [] 0) none).push (.cells [.map none] 156) none).put (σ.next + 1) (.cells [.map (some σ.next)] 156) none).push (.cells [.slice none 0 0] 64) none) := ((((Ext.refl _).push _ _).push _ _).put _ _ _ (by omega)).push _ _
  have hw1 := (((hw.push (.map [] 0) none).push (.cells [.map none] 156) none).put (σ.next + 1) (.cells [.map (some σ.next)] 156) none (by simp only [push_next]; omega)).push (.cells [.slice none 0 0] 64) none
  have m1 : ((((σ.push (.map [] 0) none).push (.cells [.map none] 156) none).put (σ.next + 1) (.cells [.map (some σ.next)] 156) none).push (.cells [.slice none 0 0] 64) none).heap.get σ.next = some ⟨.map [] 0, false, none, σ.clock⟩ := by
    rw [push_get, if_neg (by simp only [put_next, push_next]; omega), put_get, if_neg (by omega), push_get, if_neg (by rw [push_next]; omega), push_get, if_pos rfl]
  have k1 : ((((σ.push (.map [] 0) none).push (.cells [.map none] 156) none).put (σ.next + 1) (.cells [.map (some σ.next)] 156) none).push (.cells [.slice none 0 0] 64) none).cells (σ.next + 1) = some [.map (some σ.next)] := by
    rw [cells_push, if_neg (by simp only [put_next, push_next]; omega), cells_put, if_pos rfl]; rfl
  have o1 : ((((σ.push (.map [] 0) none).push (.cells [.map none] 156) none).put (σ.next + 1) (.cells [.map (some σ.next)] 156) none).push (.cells [.slice none 0 0] 64) none).heap.get (σ.next + 2) = some ⟨.cells [.slice none 0 0] 64, false, none, σ.clock + 3⟩ := by
    rw [push_get, if_pos (by simp only [put_next, push_next])]; rfl
  have n1 : ((((σ.push (.map [] 0) none).push (.cells [.map none] 156) none).put (σ.next + 1) (.cells [.map (some σ.next)] 156) none).push (.cells [.slice none 0 0] 64) none).next = σ.next + 3 := rfl
  have c1 := (x1.cells (hw.cells hb0)).trans hb0
  have om : oneCell (.map (some σ.next)) = true ∧ notTuple (.map (some σ.next)) = true ∧ valCells (.map (some σ.next)) = [.map (some σ.next)] := ⟨rfl, rfl, rfl⟩
  simp -implicitDefEqProofs only [go_sem, ↓reduceIte, Nat.reduceLT, Nat.reduceEqDiff, Nat.reduceAdd, Nat.reduceMul, Nat.reduceLeDiff, Nat.reduceSub, fstoreN, r96_0_go, r96_0U, r96_1_go, r96_1U, r96_2_go, r96_2U, r96_3_go, r96_3U, Option.getD_some, List.getElem?_cons_zero, om.1, om.2.1, om.2.2]
  generalize FState.push (FState.put _ _ _ _) _ _ = σ1 at x1 hw1 m1 k1 o1 n1 c1 ⊢
  generalize hff : upd _ 4 _ = f1
  generalize hgg : upd _ 9 _ = gg
  have q3 : f1 3 = .pointer (some ⟨σ.next + 1, 0, none⟩) := by rw [← hff]; simp -implicitDefEqProofs only [upd_go, kept_go, ↓reduceIte, Nat.reduceEqDiff, Nat.reduceLT, reduceCtorEq]
  have q4 : f1 4 = .pointer (some ⟨σ.next + 2, 0, none⟩) := by rw [← hff]; simp -implicitDefEqProofs only [upd_go, kept_go, ↓reduceIte, Nat.reduceEqDiff, Nat.reduceLT, reduceCtorEq]
  clear hff
  rw [frange_go _ _ _ _ _ _ _ _ _ _ _ _ 9 124 #[] #[.pointer (some ⟨b0, 0, none⟩)] (by rw [Sl_get, ← hgg]; simp -implicitDefEqProofs only [upd_go, kept_go, ↓reduceIte, Nat.reduceEqDiff, Nat.reduceLT, reduceCtorEq])]
  clear hgg
  have x2 : Ext σ1 ((σ1.push (.defd true) none).push (.loop .ready none 96 ((List.range 8).map f1) gg 8 28 [10] c96_0a c96_0b σ1.next) none) := ((Ext.refl _).push _ _).push _ _
  have hw2 := (hw1.push (.defd true) none).push (.loop .ready none 96 ((List.range 8).map f1) gg 8 28 [10] c96_0a c96_0b σ1.next) none
  have J2 : OutJ (σ1.next + 1) σ1.next (σ.next + 1) σ.next (σ.next + 2) f1 gg [] (fun _ => False) ((σ1.push (.defd true) none).push (.loop .ready none 96 ((List.range 8).map f1) gg 8 28 [10] c96_0a c96_0b σ1.next) none) :=
    ⟨loop_made .., ⟨_, by rw [push_get, if_neg (by rw [push_next]; omega), push_get, if_pos rfl]⟩, (x2.cells (by omega)).trans k1, ⟨[], 0, _, (x2.get _ (by omega)).trans m1, rfl, fun e he => by cases he⟩, ⟨_, _, (x2.get _ (by omega)).trans o1, .inl ⟨rfl, rfl⟩⟩⟩
  have n2 : ((σ1.push (.defd true) none).push (.loop .ready none 96 ((List.range 8).map f1) gg 8 28 [10] c96_0a c96_0b σ1.next) none).next = σ1.next + 2 := rfl
  generalize FState.push (FState.push σ1 _ _) _ _ = σ2 at x2 hw2 J2 n2 ⊢
  have x02 := x1.trans x2
  obtain ⟨σ3, e3, hw3, ch3, J3⟩ := names1_go (m + 2) hM hL6 lv h4 (R := R) σ2 hw2 ((x2.cells (hw1.cells c1)).trans c1) (hLd.keep fun b cs hb hc => ⟨(x02.cells (hw.cells hc)).trans hc, hb⟩) hR ⟨by omega, by omega, by omega, by omega, by omega⟩ J2 q3 q4
  have hargs : (#[] : Array Value).toList ++ [Value.func (.yield (σ1.next + 1)) #[] #[]] ++ (#[.pointer (some ⟨b0, 0, none⟩)] : Array Value).toList = [.func (.yield (σ1.next + 1)) #[] #[], .pointer (some ⟨b0, 0, none⟩)] := rfl
  obtain ⟨hl3, ⟨vr, hr3⟩, _, _, ⟨s, vo, ho3, hV3⟩⟩ := J3
  rw [hargs, e3, leaveLoop_go _ _ _ _ _ _ _ _ _ _ _ _ _ _ _ _ hl3]
  have n3 := ch3.next
  have o4 : ∀ o : FObj, (σ3.put (σ1.next + 1) o none).cells (σ.next + 2) = some [s] := fun o => by rw [cells_put, if_neg (by omega)]; exact cells_of_get ho3
  have hV4 : ∀ o : FObj, Vecs 9 (fun b => σ2.next ≤ b) (σ3.put (σ1.next + 1) o none) s (strs (dedL (rk d))) := fun o => hV3.keep (fun b hb hn => ⟨by rw [put_get, if_neg (by omega)], hb⟩) hw3
  have hw4 : ∀ o : FObj, Wf (σ3.put (σ1.next + 1) o none) := fun o => hw3.put _ _ _ (by omega)
  obtain ⟨σ5, l', e5, ch5, hw5, hV5, hp5, hm5, _⟩ := sort_go m _ (hw4 (.loop .exhausted none 96 ((List.range 8).map f1) gg 8 28 [10] c96_0a c96_0b σ1.next)) (hV4 _) (dedL_nodup _) (fun r hr => rk_lt hM r ((dedL_mem _ r).1 hr)) (dedL_len hM _ fun x hx => hx)
  have n5 := ch5.next
  rw [put_next] at n5
  have o5 : σ5.cells (σ.next + 2) = some [s] := (ch5.cells (by rw [put_next]; omega) (by omega)).trans (o4 _)
  have r5 : σ5.heap.get σ1.next = some ⟨.defd true, false, none, vr⟩ := (ch5.get _ (by rw [put_next]; omega) (by omega)).trans (by rw [put_get, if_neg (by omega)]; exact hr3)
  rw [rk_asc hM hp5 hm5] at hV5
  have o := hV5.one
  simp -implicitDefEqProofs only [go_sem, ↓reduceIte, Nat.reduceLT, Nat.reduceEqDiff, Nat.reduceAdd, Nat.reduceMul, Nat.reduceLeDiff, Nat.reduceSub, r96_9_go, r96_9U, r96_10_go, r96_10U, q4, o4, e5, o5, o.1, o.2.1, o.2.2]
  rw [fleave_collected _ _ _ _ _ _ _ _ _ _ r5]
  simp -implicitDefEqProofs only [go_sem, ↓reduceIte, Nat.reduceLT, Nat.reduceEqDiff, Nat.reduceAdd, Nat.reduceMul, Nat.reduceLeDiff, Nat.reduceSub]
  refine ⟨_, _, rfl, ⟨by rw [put_next]; have := x1.next; omega, by have := x02.clock; have := ch3.clock; have := ch5.clock; rw [put_clock] at this; rw [put_clock]; omega, fun b hb => ?_⟩, hw5.put _ _ _ (by omega), hV5.keep (fun b hb hn => ⟨by rw [put_get, if_neg (by omega)], by omega⟩) hw5⟩
  rw [put_get, if_neg (by omega), ch5.get b (by rw [put_next]; omega) (by omega), put_get, if_neg (by omega), ch3.get b (by omega) (by omega)]
  exact x02.get b hb
end Go.Proofs.YtodkeaoikjjneaaGreatDoor
/- datum.Symbols; texts compared; sym. -/
namespace Go.Proofs.YtodkeaoikjjneaaGreatDoor
open Go Go.Eng
attribute [local congr] andThen_congr fops_congr fdraw_congr afterOp_congr drawF_congr
attribute [-go_sem] List.range_succ
theorem deferredAtS (n : Nat) (p q : Value) (σ : FState) : (env (n + 1)).call 144 [p, q] (some .returning) σ = .ret (.tuple #[]) (some .returning) σ := by
  rw [env_defer, enter144 _ _ _ _ (by simp), Sl_start]
  unfold run144
  simp -implicitDefEqProofs only [go_sem, ↓reduceIte, Nat.reduceLT, Nat.reduceEqDiff, Nat.reduceAdd, Nat.reduceMul, Nat.reduceLeDiff, Nat.reduceSub, r144_0_go, r144_0U, r144_3_go, r144_3U, r144_4_go, r144_4U, nilAny]
theorem callAtS (n w : Nat) (cap : Array Value) (l : List Nat) (σ : FState) (hw : Wf σ)
    (h : ∀ σ', Ext σ σ' → Wf σ' → Gives ((env (n + 1)).call w cap.toList none σ') σ' fun v σ'' => Vecs 9 (fun b => σ'.next ≤ b) σ'' v (strs l)) :
    Gives ((env (n + 2)).call 122 [.func (.func w) #[] cap] none σ) σ fun v σ' => ∃ s, v = .tuple #[s, .int .i64 0, .int .i64 0] ∧ Vecs 9 (fun b => σ.next ≤ b) σ' s (strs l) := by
  rw [env_call, enter122 _ _ _ _ (by simp), Sl_start]
  unfold run122
  have hX1 : Ext σ ((σ.push (.cells [.int .i64 0] 3) none).push (.cells [.int .i64 0] 32) none) := ((Ext.refl _).push _ _).push _ _
  have hw1 := (hw.push (.cells [.int .i64 0] 3) none).push (.cells [.int .i64 0] 32) none
  obtain ⟨s, σ2, e2, hX2, hw2, hV⟩ := h _ hX1 hw1
  have g0 : σ2.heap.get σ.next = _ := (hX2.get σ.next (by simp only [push_next]; omega)).trans (by simp -implicitDefEqProofs only [push_get, push_next, Nat.add_assoc, Nat.reduceAdd, Nat.left_eq_add, reduceCtorEq, ↓reduceIte, Nat.reduceEqDiff] <;> rfl)
  have g1 : σ2.heap.get (σ.next + 1) = _ := (hX2.get (σ.next + 1) (by simp only [push_next]; omega)).trans (by simp -implicitDefEqProofs only [push_get, push_next, Nat.add_assoc, Nat.reduceAdd, Nat.add_left_cancel_iff, reduceCtorEq, ↓reduceIte, Nat.reduceEqDiff] <;> rfl)
  have o := hV.one
  simp -implicitDefEqProofs only [go_sem, ↓reduceIte, Nat.reduceLT, Nat.reduceEqDiff, Nat.reduceAdd, Nat.reduceMul, Nat.reduceLeDiff, Nat.reduceSub, fstoreN, r122_0_go, r122_0U, r122_1_go, r122_1U, r122_2_go, r122_2U, Option.getD_some, e2, o.1, o.2.1, o.2.2, g0, g1, aggInt, aggErrno, deferredAtS, fleave_nil, fresults_nil, fresults_cons, fresult_cell, fresult_tmp]
  have m0 := (hw2 _ _ g0).1
  have m1 := (hw2 _ _ g1).1
  exact ⟨_, _, rfl, ((hX1.trans hX2).put _ _ _ (Nat.le_refl _)).put _ _ _ (Nat.le_add_right _ _), (hw2.put _ _ _ m0).put _ _ _ m1, s, rfl, hV.keep (fun b hb hn => by
    simp only [push_next] at hb
    exact ⟨by rw [put_get, if_neg (by omega), put_get, if_neg (by omega)], by omega⟩) hw2⟩
theorem callS (n w : Nat) (cap : Array Value) (l : List Nat) (σ : FState) (hw : Wf σ)
    (h : ∀ σ', Ext σ σ' → Wf σ' → Gives ((env (n + 1)).call w cap.toList none σ') σ' fun v σ'' => Vecs 9 (fun b => σ'.next ≤ b) σ'' v (strs l)) :
    Gives ((env (n + 3)).call 94 [.func (.func w) #[] cap] none σ) σ fun v σ' => ∃ s, v = .tuple #[s, .int .i64 0] ∧ Vecs 9 (fun b => σ.next ≤ b) σ' s (strs l) := by
  rw [env_call, enter94 _ _ _ _ (by simp), Sl_start]
  unfold run94
  obtain ⟨_, σ2, e2, hX2, hw2, s, rfl, hV⟩ := callAtS n w cap l σ hw h
  have o := hV.one
  simp -implicitDefEqProofs only [go_sem, ↓reduceIte, Nat.reduceLT, Nat.reduceEqDiff, Nat.reduceAdd, Nat.reduceMul, Nat.reduceLeDiff, Nat.reduceSub, r94_0_go, r94_0U, r94_1_go, r94_1U, r94_2_go, r94_2U, Option.getD_some, e2, o.1, o.2.1, o.2.2, fleave_nil, fresults_nil, fresults_cons, fresult_tmp, List.getElem?_cons_zero]
  exact ⟨_, _, rfl, hX2, hw2, s, rfl, hV⟩
theorem symbols1 (M n : Nat) (hM' : M = n + 20) {L : Nat} {d : D} (hM : Made L d) (hL6 : L ≤ 6) (lv : List Value) (h4 : lv.length = 4) {R : Nat → Prop} {b0 : Nat} (σ : FState) (hw : Wf σ) (hb0 : σ.cells b0 = some lv) (hLd : LaidR R σ (.agg lv.toArray) d) (hR : ∀ b, R b → b < σ.next) :
    Gives ((env (M + 6)).call 95 [.pointer (some ⟨b0, 0, none⟩)] none σ) σ fun w σ' => Vecs 9 (fun b => σ.next ≤ b) σ' w (strs (asc fun r => decide (r ∈ rk d))) := by
  have hF := made_fine n hM
  rw [← hM'] at hF
  rw [env_call, enter95 _ _ _ _ (by simp), Sl_start]
  unfold run95
  have ht : lv.take 4 = lv := List.take_of_length_le (by omega)
  obtain ⟨_, σ1, e1, x1, hw1, rfl⟩ := valid_go M d lv h4 R σ hw hLd hR (hF.small hL6) (by have := hF.few hL6; omega) hF.good
  have c1 := (x1.cells (hw.cells hb0)).trans hb0
  obtain ⟨σ2, e2, x2, hw2, c2⟩ := names_go (M + 4) lv h4 σ1 hw1
  have x02 := x1.trans x2
  obtain ⟨s, σ3, e3, x3, hw3, hV⟩ := ascending_go (n + 18) hM hL6 lv h4 (R := R) σ2 hw2 c2 (hLd.keep fun b cs hb hc => ⟨(x02.cells (hw.cells hc)).trans hc, hb⟩) (fun b hb => by have := hR b hb; have := x02.next; omega)
  rw [show n + 18 + 7 = M + 5 by omega] at e3
  have o := hV.one
  simp -implicitDefEqProofs only [go_sem, ↓reduceIte, Nat.reduceLT, Nat.reduceEqDiff, Nat.reduceAdd, Nat.reduceMul, Nat.reduceLeDiff, Nat.reduceSub, r95_0_go, r95_0U, r95_1_go, r95_1U, r95_2_go, r95_2U, Option.getD_some, List.getElem?_cons_zero, hb0, c1, h4, ht, e1, e2, e3, o.1, o.2.1, o.2.2, Nat.le_refl]
  exact ⟨_, _, rfl, x02.trans x3, hw3, hV.keep (fun b hb hn => ⟨rfl, by have := x02.next; omega⟩) hw3⟩
/-- datum.Symbols. -/
theorem symbols_go (M n : Nat) (hM' : M = n + 20) {L : Nat} {d : D} (hM : Made L d) (hL6 : L ≤ 6) (lv : List Value) (h4 : lv.length = 4) {R : Nat → Prop} (σ : FState) (hw : Wf σ) (hLd : LaidR R σ (.agg lv.toArray) d) (hR : ∀ b, R b → b < σ.next) :
    Gives ((env (M + 9)).call 38 [.agg lv.toArray] none σ) σ fun w σ' => ∃ s, w = .tuple #[s, .int .i64 0] ∧ Vecs 9 (fun b => σ.next ≤ b) σ' s (strs (asc fun r => decide (r ∈ rk d))) := by
  rw [env_call, enter38 _ _ _ _ (by simp), Sl_start]
  unfold run38
  have x1 : Ext σ (σ.push (.cells lv TD) none) := (Ext.refl _).push _ _
  have hw1 := hw.push (.cells lv TD) none
  have c1 : (σ.push (.cells lv TD) none).cells σ.next = some lv := by rw [cells_push, if_pos rfl]; rfl
  obtain ⟨_, σ2, e2, x2, hw2, s, rfl, hV⟩ := callS (M + 5) 95 #[.pointer (some ⟨σ.next, 0, none⟩)] (asc fun r => decide (r ∈ rk d)) _ hw1 fun σ' hx' hw' =>
    symbols1 M n hM' hM hL6 lv h4 (R := R) σ' hw' ((hx'.cells (hw1.cells c1)).trans c1) (hLd.keep fun b cs hb hc => ⟨((x1.trans hx').cells (hw.cells hc)).trans hc, hb⟩) (fun b hb => by have := hR b hb; have := (x1.trans hx').next; omega)
  have o := hV.one
  simp -implicitDefEqProofs only [go_sem, ↓reduceIte, Nat.reduceLT, Nat.reduceEqDiff, Nat.reduceAdd, Nat.reduceMul, Nat.reduceLeDiff, Nat.reduceSub, r38_0_go, r38_0U, r38_1_go, r38_1U, Option.getD_some, List.getElem?_cons_zero, e2, h4, o.1, o.2.1, o.2.2, fleave_nil, fresults_nil, fresults_cons, fresult_tmp]
  exact ⟨_, _, rfl, x1.trans x2, hw2, s, rfl, hV.keep (fun b hb hn => ⟨rfl, by rw [push_next] at hb; omega⟩) hw2⟩
end Go.Proofs.YtodkeaoikjjneaaGreatDoor
/- Texts compared; a symbol. -/
namespace Go.Proofs.YtodkeaoikjjneaaGreatDoor
open Go Go.Eng
attribute [local congr] andThen_congr fops_congr fdraw_congr afterOp_congr drawF_congr
attribute [-go_sem] List.range_succ
theorem eqTexts_loop (E : Env) {pa pb : Option Addr} {ca cb : Nat} {l : List Nat} {σ : FState} (hw : Wf σ) (h8 : ∀ r ∈ l, r < 8) (hl : l.length < 1000) (ha : l ≠ [] → ∃ b, pa = some ⟨b, 0, none⟩ ∧ σ.cells b = some (strs l)) (hb : l ≠ [] → ∃ b, pb = some ⟨b, 0, none⟩ ∧ σ.cells b = some (strs l)) (K : List Nat) :
    ∀ (j fuel i : Nat) (f g : Nat → Value), i + j = l.length → j < fuel → f 0 = .slice pa l.length ca → f 1 = .slice pb l.length cb → f 5 = .int .i64 (.ofNat i) →
      ∃ f' g', floop K (l41_0 E none 41) fuel (Sl 6 26 f g []) none σ = .done (.exit 0) (Sl 6 26 f' g' []) none σ := by
  intro j
  induction j with
  | zero =>
    intro fuel i f g hij hf f0 f1 f5
    obtain ⟨fuel, rfl⟩ : ∃ q, fuel = q + 1 := ⟨fuel - 1, by omega⟩
    have d1 : decide (Int.ofNat i < Int.ofNat l.length) = false := by simp; omega
    rw [floop_step]
    unfold l41_0
    simp -implicitDefEqProofs only [go_sem, ↓reduceIte, Nat.reduceLT, Nat.reduceEqDiff, Nat.reduceAdd, Nat.reduceMul, Nat.reduceLeDiff, Nat.reduceSub, r41_4_go, r41_4U, f0, f5, d1]
    exact ⟨_, _, rfl⟩
  | succ j ih =>
    intro fuel i f g hij hf f0 f1 f5
    obtain ⟨fuel, rfl⟩ : ∃ q, fuel = q + 1 := ⟨fuel - 1, by omega⟩
    have hi : i < l.length := by omega
    have d1 : decide (Int.ofNat i < Int.ofNat l.length) = true := by simp; omega
    obtain ⟨r, hr, _⟩ := drop_some hi
    have hr8 := h8 r (List.mem_of_getElem? hr)
    have hne : l ≠ [] := by intro e; rw [e] at hi; simp at hi
    obtain ⟨ba, rfl, hca⟩ := ha hne
    obtain ⟨bb, rfl, hcb⟩ := hb hne
    have gr := strs_get _ _ _ hr
    have hvw := view_wf hw (lam := σ.clock) (Nat.le_refl _)
    have e1 := fun X Y σ => neq_tx X Y σ hr8 hr8
    have d2 : decide (r ≠ r) = false := by simp
    simp only [d2] at e1
    have w1 := add1 i (by omega)
    rw [floop_step]
    unfold l41_0
    simp -implicitDefEqProofs only [go_sem, ↓reduceIte, Nat.reduceLT, Nat.reduceEqDiff, Nat.reduceAdd, Nat.reduceMul, Nat.reduceLeDiff, Nat.reduceSub, r41_4_go, r41_4U, r41_5_go, r41_5U, r41_6_go, r41_6U, f0, f1, f5, d1, hi, hvw, hca, hcb, gr, e1, w1]
    generalize hff : upd _ 5 _ = f1'
    exact ih fuel (i + 1) f1' _ (by omega) (by omega) (by rw [← hff]; simp -implicitDefEqProofs only [upd_go, kept_go, ↓reduceIte, Nat.reduceEqDiff, Nat.reduceLT, reduceCtorEq, f0]) (by rw [← hff]; simp -implicitDefEqProofs only [upd_go, kept_go, ↓reduceIte, Nat.reduceEqDiff, Nat.reduceLT, reduceCtorEq, f1]) (by rw [← hff]; simp -implicitDefEqProofs only [upd_go, kept_go, ↓reduceIte, Nat.reduceEqDiff, Nat.reduceLT, reduceCtorEq])
/-- caracolekit.EqTexts of equal lists. -/
theorem eqTexts_go (n : Nat) {R R' : Nat → Prop} {s t : Value} {l : List Nat} (h8 : ∀ r ∈ l, r < 8) (hl : l.length < 1000) (σ : FState) (hw : Wf σ) (hs : TxtR R σ s l) (ht : TxtR R' σ t l) :
    (env (n + 1)).call 41 [s, t] none σ = .ret (.bool true) none σ := by
  obtain ⟨pa, ca, rfl, ha⟩ := hs.slice
  obtain ⟨pb, cb, rfl, hb⟩ := ht.slice
  rw [env_call, enter41 _ _ _ _ (by simp), Sl_start]
  unfold run41
  have d1 : (!(Int.ofNat l.length == Int.ofNat l.length)) = false := by simp
  simp -implicitDefEqProofs only [go_sem, ↓reduceIte, Nat.reduceLT, Nat.reduceEqDiff, Nat.reduceAdd, Nat.reduceMul, Nat.reduceLeDiff, Nat.reduceSub, r41_0_go, r41_0U, r41_1_go, r41_1U, r41_3_go, r41_3U, Option.getD_some, List.getElem?_cons_zero, List.getElem?_cons_succ, d1]
  generalize hff : upd _ 5 _ = f1
  generalize hbf : bigFuel = fuel
  generalize upd _ 10 _ = gg
  obtain ⟨f', g', e⟩ := eqTexts_loop (env n) (ca := ca) (cb := cb) hw h8 hl ha hb (keepOf nls 41) l.length fuel 0 f1 gg (by omega) (by rw [← hbf]; show l.length < 1000000000000; omega) (by rw [← hff]; simp -implicitDefEqProofs only [upd_go, kept_go, ↓reduceIte, Nat.reduceEqDiff, Nat.reduceLT, reduceCtorEq, List.getElem?_cons_zero, Option.getD_some]) (by rw [← hff]; simp -implicitDefEqProofs only [upd_go, kept_go, ↓reduceIte, Nat.reduceEqDiff, Nat.reduceLT, reduceCtorEq, List.getElem?_cons_zero, List.getElem?_cons_succ, Option.getD_some]) (by rw [← hff]; simp -implicitDefEqProofs only [upd_go, kept_go, ↓reduceIte, Nat.reduceEqDiff, Nat.reduceLT, reduceCtorEq] <;> rfl)
  rw [e]
  simp -implicitDefEqProofs only [go_sem, ↓reduceIte, Nat.reduceLT, Nat.reduceEqDiff, Nat.reduceAdd, Nat.reduceMul, Nat.reduceLeDiff, Nat.reduceSub, r41_8_go, r41_8U]
/-- The law's sym. -/
theorem lawsym_go (n : Nat) (t : ByteArray) (σ : FState) (hw : Wf σ) :
    Gives ((env (n + 2)).call 40 [.string t] none σ) σ fun w _ => w = .agg #[.int .i64 3, .int .i64 0, .string t, .slice none 0 0] := by
  rw [env_call, enter40 _ _ _ _ (by simp), Sl_start]
  unfold run40
  have x1 : Ext σ (σ.push (.cells [.int .i64 0, .int .i64 0, .string ⟨#[]⟩, .slice none 0 0] TD) none) := (Ext.refl _).push _ _
  have hw1 := hw.push (.cells [.int .i64 0, .int .i64 0, .string ⟨#[]⟩, .slice none 0 0] TD) none
  have g1 : (σ.push (.cells [.int .i64 0, .int .i64 0, .string ⟨#[]⟩, .slice none 0 0] TD) none).heap.get σ.next = some ⟨.cells [.int .i64 0, .int .i64 0, .string ⟨#[]⟩, .slice none 0 0] TD, false, none, σ.clock⟩ := by rw [push_get, if_pos rfl]
  obtain ⟨_, σ2, e2, x2, hw2, rfl⟩ := sym_go n t _ hw1
  have g2 := (x2.get σ.next (Nat.lt_succ_self _)).trans g1
  have m2 := (hw2 _ _ g2).1
  simp -implicitDefEqProofs only [go_sem, ↓reduceIte, Nat.reduceLT, Nat.reduceEqDiff, Nat.reduceAdd, Nat.reduceMul, Nat.reduceLeDiff, Nat.reduceSub, fstoreN, r40_0_go, r40_0U, r40_1_go, r40_1U, Option.getD_some, List.getElem?_cons_zero, e2, g2, aggDatum, fleave_nil, fresults_nil, fresults_cons, fresult_cell]
  exact ⟨_, _, rfl, (x1.trans x2).put _ _ _ (Nat.le_refl _), hw2.put _ _ _ m2, rfl⟩
end Go.Proofs.YtodkeaoikjjneaaGreatDoor
