/- The reading of the program, and what is so of it: SymT, SymPg, SymPc, SymPh, SymLF0, SymRm, SymCR, SymRa, SymRb, SymRc, SymRd, SymRe, SymCM, SymLR, SymLR2, SymLR3. -/
import Derived.Test.YtodkeaoikjjneaaGreatDoorU5
import Derived.Test.YtodkeaoikjjneaaGreatDoorZSymTL
import Derived.Test.YtodkeaoikjjneaaGreatDoorU3
set_option linter.unusedSimpArgs false
set_option linter.unusedVariables false
/- The reading of a law, where the chapter's examples are told; what it says of a law is so of every run. -/
namespace Go.Proofs.YtodkeaoikjjneaaGreatDoor
open Go Go.Eng
attribute [local congr] andThen_congr fops_congr fdraw_congr afterOp_congr drawF_congr
attribute [-go_sem] List.range_succ
/-- Calls so many deep; the examples hold. -/
noncomputable def top (n : Nat) : Env where
  call := fun f args u σ => match u with
    | none => bif Nat.beq f 21 && args.isEmpty then .ret (.bool true) none σ else (env n).call f args none σ
    | some md => (env n).call f args (some md) σ
  round := fun l args σ => (env n).round l args σ
theorem top_call (n : Nat) (f : FuncId) (args : List Value) (σ : FState) (h : Nat.beq f 21 = false) : (top n).call f args none σ = (env n).call f args none σ := by
  show (bif Nat.beq f 21 && args.isEmpty then CRes.ret (.bool true) none σ else (env n).call f args none σ) = _
  rw [h]
  rfl
theorem top_looks (n : Nat) (σ : FState) : (top n).call 21 [] none σ = .ret (.bool true) none σ := rfl
theorem top_defer (n : Nat) (f : FuncId) (args : List Value) (md : FrameMode) (σ : FState) : (top n).call f args (some md) σ = (env n).call f args (some md) σ := rfl
theorem top_round (n l : Nat) (args : List Value) (σ : FState) : (top n).round l args σ = (env n).round l args σ := rfl

theorem sy_mixed : Tryz.prog.follows .mixedOrders = true := by kernel_rfl
theorem sy_named : (Tryz.prog.funcs.toList.all fun fn => !(fn.name == "runtime.NumGoroutine")) = true := by kernel_rfl
theorem sy_names (f : FuncId) (fn : Func) (h : Tryz.prog.funcs[f]? = some fn) : (fn.name == "runtime.NumGoroutine") = false := by
  have := List.all_eq_true.1 sy_named fn (by
    rw [Array.mem_toList_iff]
    exact Array.mem_of_getElem? h)
  simpa using this
/-- Nothing is pinned. -/
abbrev noPins : Pins := ⟨fun _ _ => False⟩
theorem nosums_ok [Pins] : SumOK Tryz.prog nosums := fun _ _ _ _ _ _ _ h => by cases h
theorem looks_call (W : World) : Calls Tryz.prog 21 #[] W fun e W' => e = .returned (.bool true) ∧ W'.os = W.os ∧ W'.output = W.output ∧ W'.tape = W.tape ∧ W.heap.size ≤ W'.heap.size ∧ ∀ i, i < W.heap.size → W'.heap[i]? = W.heap[i]? :=
  says_true sy_mixed sy_names Tryz.func21 rfl W (@nosums_ok (pinsOf W)) looks_says
theorem top_ok (n : Nat) : @EnvOK noPins Tryz.prog (top n) := by
  letI := noPins
  have h : EnvOK Tryz.prog (env n) := fenv_ok nosums_ok sy_mixed sy_names nls n
  refine ⟨fun f args u σ m w args' hr hA hu => ?_, fun l args σ m w args' e hr hA hm => h.round l args σ m w args' e hr hA hm⟩
  cases u with
  | some md => exact h.call f args (some md) σ m w args' hr hA hu
  | none =>
    by_cases hf : (Nat.beq f 21 && args.isEmpty) = true
    · rw [Bool.and_eq_true, Nat.beq_eq, List.isEmpty_iff] at hf
      obtain ⟨rfl, rfl⟩ := hf
      obtain ⟨L'⟩ := args'
      have hl : L' = [] := by
        have := hA.1
        exact List.length_eq_zero_iff.1 this.symm
      subst hl
      show CallOK Tryz.prog m σ w 21 #[] none (.ret (.bool true) none σ)
      refine .inr ⟨callFunc_enter Tryz.func21 rfl (sy_names _ _ Tryz.func21), fun cs hu => ?_⟩
      obtain ⟨e, w', fr, ⟨rfl, ho, hout, ht, hsz, hk⟩, hc, hfn, hl⟩ := looks_call w cs
      exact ⟨m, w', .bool true, fr, cs, hr.moreWorld hk hsz, (Step.refl σ m w).moreWorld hk hsz ho ht hout, .bool true, hu, .refl _ _, StepsIn.of_steps hc, hfn, hl.2.2.1, ⟨hl.1, hl.2.1, hl.2.2.2⟩⟩
    · have e : (top n).call f args none σ = (env n).call f args none σ := by
        show (bif Nat.beq f 21 && args.isEmpty then CRes.ret (.bool true) none σ else (env n).call f args none σ) = _
        rw [Bool.not_eq_true] at hf
        rw [hf]
        rfl
      rw [e]
      exact h.call f args none σ m w args' hr hA hu
/-- What the reading says of a call, of memory of which nothing may be written, is so of every run. -/
theorem calls_of [Pins] {P : Program} {E : Env} (hE : EnvOK P E) (hm : P.follows .mixedOrders = true) (hname : ∀ (f : FuncId) (fn : Func), P.funcs[f]? = some fn → (fn.name == "runtime.NumGoroutine") = false) (nls : Hints) {f : FuncId} {fn : Func} {body : Code} (hf : P.funcs[f]? = some fn) (hb : fn.body = some body) (σ : FState) (m : Mp) (W : World) (args : List Value) (args' : Array Value) (hr : Rel Top m σ W) (hA : LRel m args args'.toList) (hro : ∀ b e, m b = some e → e.ro = true)
    (h : ∃ σ', fcall P nls E f args none σ = .ret (.bool true) none σ') :
    Calls P f args' W fun e W' => e = .returned (.bool true) ∧ W'.os = W.os ∧ W'.output = W.output ∧ W'.tape = W.tape ∧ W.heap.size ≤ W'.heap.size ∧ ∀ i, i < W.heap.size → W'.heap[i]? = W.heap[i]? := by
  obtain ⟨σ', h⟩ := h
  have hc := call_ok hE (draw_ok hm hE) hname nls f args none σ m W args' hr hA
  generalize fcall P nls E f args none σ = r at h hc
  subst h
  rcases hc with ⟨_, _, _, v', hval, _⟩ | ⟨_, hgo⟩
  · have hent := callFunc_enter (P := P) (w := W) (args := args') hf hb (hname f fn hf)
    rw [hent] at hval
    cases hval
  · intro cs
    obtain ⟨m', w', v', fr, cs', hR, hS', hV, _, hun, hst, hfn, hk, hgoing⟩ := hgo cs rfl
    have hcs : cs' = cs := by
      rcases hun with h | ⟨h, _⟩
      · exact h
      · cases h
    subst hcs
    have hv' := hV.flat rfl
    subst hv'
    exact ⟨.returned (.bool true), w', fr, ⟨rfl, hS'.os, hS'.output, hS'.tape, hS'.size, fun i hi => hS'.keep i hi fun b e ent hb hre => by rw [hro b e hb] at hre; cases hre⟩, hst.steps, hfn, leaving_of_going hk hgoing⟩
theorem law_calls {f : FuncId} {fn : Func} {body : Code} (hf : Tryz.prog.funcs[f]? = some fn) (hb : fn.body = some body) (n : Nat) (σ : FState) (m : Mp) (W : World) (args : List Value) (args' : Array Value) (hr : @Rel noPins Top m σ W) (hA : LRel m args args'.toList) (hro : ∀ b e, m b = some e → e.ro = true)
    (h : ∃ σ', fcall Tryz.prog nls (top n) f args none σ = .ret (.bool true) none σ') :
    Calls Tryz.prog f args' W fun e W' => e = .returned (.bool true) ∧ W'.os = W.os ∧ W'.output = W.output ∧ W'.tape = W.tape ∧ W.heap.size ≤ W'.heap.size ∧ ∀ i, i < W.heap.size → W'.heap[i]? = W.heap[i]? :=
  @calls_of noPins Tryz.prog (top n) (top_ok n) sy_mixed sy_names nls f fn body hf hb σ m W args args' hr hA hro h
/-- Numbers in the model's memory, as the reading begins with them. -/
noncomputable def numbers (zs : List Int) : FState := ⟨Tr.set .lf 0 ⟨.cells (zs.map fun z => Value.int .i64 z) TI, true, none, 0⟩, 1, 1⟩
theorem numbers_get (zs : List Int) (b : Nat) : (numbers zs).heap.get b = if b = 0 then some ⟨.cells (zs.map fun z => Value.int .i64 z) TI, true, none, 0⟩ else none := by
  show (Tr.set .lf 0 _).get b = _
  rw [Tr.get_set]
  split <;> rfl
theorem numbers_wf (zs : List Int) : Wf (numbers zs) := fun b e h => by
  rw [numbers_get] at h
  by_cases hb : b = 0
  · rw [if_pos hb] at h
    cases h
    exact ⟨by subst hb; exact Nat.lt_succ_self 0, Nat.lt_succ_self 0⟩
  · rw [if_neg hb] at h
    cases h
theorem numbers_ints (zs : List Int) : Ints (numbers zs) (some ⟨0, 0, none⟩) zs := fun i n h => by
  refine ⟨0, 0, zs.map fun z => Value.int .i64 z, rfl, ?_, ?_⟩
  · rw [cells_get, numbers_get, if_pos rfl]; rfl
  · rw [Nat.zero_add, List.getElem?_map, h]; rfl
/-- A law over a list of numbers: at every such list, whatever the rest of memory is. -/
theorem law_ints {f : FuncId} {fn : Func} {body : Code} (hf : Tryz.prog.funcs[f]? = some fn) (hb : fn.body = some body) (n : Nat)
    (h : ∀ (p : Option Addr) (l : List Int) (cp : Nat), l.length < 9223372036854775808 → ∀ σ, Wf σ → Ints σ p l → (∀ a, p = some a → a.block < σ.next) → ∃ σ', fcall Tryz.prog nls (top n) f [.slice p l.length cp] none σ = .ret (.bool true) none σ')
    (W : World) (v : Value) (hsz : 0 < W.heap.size)
    (hv : v = .slice none 0 0 ∨ ∃ (a : Addr) (len cap : Nat) (zs : List Int), v = .slice (some a) len cap ∧ len ≤ cap ∧ cap < 9223372036854775808 ∧ zs.length = cap ∧ ∀ i, i < zs.length → W.cell? (a.add i) = some (.int .i64 (zs.getD i 0))) :
    Calls Tryz.prog f #[v] W fun e W' => e = .returned (.bool true) ∧ W'.os = W.os ∧ W'.output = W.output ∧ W'.tape = W.tape ∧ W.heap.size ≤ W'.heap.size ∧ ∀ i, i < W.heap.size → W'.heap[i]? = W.heap[i]? := by
  rcases hv with rfl | ⟨a, len, cap, zs, rfl, hl, hm, hz, hc⟩
  · letI := noPins
    refine law_calls hf hb n Eng.empty (fun _ => none) W [.slice none 0 0] _ ?_ (.cons (.nilSlice 0 0) .nil) (fun b e h => by cases h) (h none [] 0 (by simp) Eng.empty (fun b e h => by cases h) (fun i n h => by simp at h) fun a h => by cases h)
    have hget : ∀ b, Eng.empty.heap.get b = none := fun b => rfl
    exact ⟨fun b ent e _ hb => (by rw [hget] at hb; cases hb), fun b b' ent ent' e e' _ hb => (by rw [hget] at hb; cases hb), fun b e hb => (by cases hb), fun b ent hb => (by rw [hget] at hb; cases hb), fun k o hk => hk.elim⟩
  · letI := noPins
    cases zs with
    | nil =>
      obtain rfl : cap = 0 := hz.symm
      obtain rfl : len = 0 := by omega
      have hget : ∀ b, (⟨.lf, 1, 1⟩ : FState).heap.get b = none := fun b => rfl
      refine law_calls hf hb n ⟨.lf, 1, 1⟩ (fun b => if b = 0 then some ⟨0, 0, true, none⟩ else none) W [.slice (some ⟨0, 0, none⟩) 0 0] _ ?_ (.cons (.empty (b := 0) (off := 0) (if_pos rfl)) .nil) (fun b e h => ?_)
        (h (some ⟨0, 0, none⟩) [] 0 (by simp) ⟨.lf, 1, 1⟩ (fun b e h => by rw [hget] at h; cases h) (fun i n h => by simp at h) fun a h => by cases h; exact Nat.lt_succ_self 0)
      · refine ⟨fun b ent e _ hb => (by rw [hget] at hb; cases hb), fun b b' ent ent' e e' _ hb => (by rw [hget] at hb; cases hb), fun b e hb => ?_, fun b ent hb => (by rw [hget] at hb; cases hb), fun k o hk => hk.elim⟩
        by_cases h0 : b = 0
        · rw [if_pos h0] at hb
          cases hb
          exact ⟨by subst h0; exact Nat.lt_succ_self 0, hsz⟩
        · rw [if_neg h0] at hb; cases hb
      · by_cases h0 : b = 0
        · rw [if_pos h0] at h; cases h; rfl
        · rw [if_neg h0] at h; cases h
    | cons z zs =>
      have h0 := hc 0 (by simp)
      obtain ⟨ab, ao, asp⟩ := a
      have h1 : W.cell? ⟨ab, ao, asp⟩ = some (.int .i64 z) := h0
      have hcell : ∃ c el fr, W.heap[ab]? = some (.cells c el fr) ∧ asp = none := by
        unfold World.cell? at h1
        split at h1
        · rename_i c el fr hb'
          cases asp with
          | none => exact ⟨c, el, fr, hb', rfl⟩
          | some _ => simp at h1
        · cases h1
      obtain ⟨c, el, fr, hW, rfl⟩ := hcell
      have hlt : ab < W.heap.size := (Array.getElem?_eq_some_iff.1 hW).1
      have hci : ∀ (i : Nat) (v : Value), ((z :: zs).map fun z => Value.int .i64 z)[i]? = some v → c[ao + i]? = some v := fun i v hv => by
        rw [List.getElem?_map] at hv
        cases hzi : (z :: zs)[i]? with
        | none => rw [hzi] at hv; cases hv
        | some y =>
          rw [hzi] at hv
          cases hv
          have hil := (List.getElem?_eq_some_iff.1 hzi).1
          have hh := hc i hil
          rw [List.getD, hzi] at hh
          have ha : (⟨ab, ao, none⟩ : Addr).add i = ⟨ab, ao + i, none⟩ := by
            unfold Addr.add
            by_cases h0 : i = 0
            · subst h0; rfl
            · rw [if_neg h0]
          rw [ha] at hh
          unfold World.cell? at hh
          simp only [hW] at hh
          exact hh
      have hty : ((z :: zs).take len).length = len := by rw [List.length_take, hz]; omega
      refine law_calls hf hb n (numbers (z :: zs)) (fun b => if b = 0 then some ⟨ab, ao, true, none⟩ else none) W [.slice (some ⟨0, 0, none⟩) ((z :: zs).take len).length cap] _ ?_ ?_ (fun b e h => ?_)
        (h (some ⟨0, 0, none⟩) ((z :: zs).take len) cap (by rw [hty]; omega) (numbers (z :: zs)) (numbers_wf _) (fun i n hi => numbers_ints (z :: zs) i n (by
          rw [List.getElem?_take] at hi
          split at hi
          · exact hi
          · cases hi)) fun a h => by cases h; exact Nat.lt_succ_self 0)
      · refine ⟨fun b ent e _ hb hm' => ?_, fun b b' ent ent' e e' hne hb hb' _ _ hm' hm'' => ?_, fun b e hb => ?_, fun b ent hb => ((numbers_wf _) b ent hb).1, fun k o hk => hk.elim⟩
        · rw [numbers_get] at hb
          by_cases hb0 : b = 0
          · rw [if_pos hb0] at hb hm'
            cases hb
            cases hm'
            exact ⟨rfl, c, el, fr, hW, (fun h => by cases h), fun i v hv => ⟨v, hci i v hv, by
              rw [List.getElem?_map] at hv
              cases hzi : (z :: zs)[i]? with
              | none => rw [hzi] at hv; cases hv
              | some y => rw [hzi] at hv; cases hv; exact .int _ _⟩, trivial⟩
          · rw [if_neg hb0] at hb; cases hb
        · by_cases hb0 : b = 0
          · by_cases hb1 : b' = 0
            · omega
            · rw [if_neg hb1] at hm''; cases hm''
          · rw [if_neg hb0] at hm'; cases hm'
        · by_cases hb0 : b = 0
          · rw [if_pos hb0] at hb
            cases hb
            exact ⟨by subst hb0; exact Nat.lt_succ_self 0, hlt⟩
          · rw [if_neg hb0] at hb; cases hb
      · refine .cons ?_ .nil
        rw [hty]
        have := VRel.slice (m := fun b => if b = 0 then some ⟨ab, ao, true, none⟩ else none) (b := 0) (off := 0) (l := len) (c := cap) (c' := cap) (e := ⟨ab, ao, true, none⟩) (if_pos rfl) (.inl rfl)
        exact this
      · by_cases hb0 : b = 0
        · rw [if_pos hb0] at h; cases h; rfl
        · rw [if_neg hb0] at h; cases h
end Go.Proofs.YtodkeaoikjjneaaGreatDoor
/- datum.Find. -/
namespace Go.Proofs.YtodkeaoikjjneaaGreatDoor
open Go Go.Eng
attribute [local congr] andThen_congr fops_congr fdraw_congr afterOp_congr drawF_congr
attribute [-go_sem] List.range_succ
/-- What is so of a value in memory from a block on, whatever comes of other memory. -/
structure Stays (Q : Nat → Value → FState → Prop) : Prop where
  keep : ∀ base base' v σ σ', Q base v σ → Wf σ → base' ≤ base → (∀ b, base ≤ b → b < σ.next → σ'.heap.get b = σ.heap.get b) → Q base' v σ'
theorem deferredAtLL (n : Nat) (p q : Value) (σ : FState) : (env (n + 1)).call 134 [p, q] (some .returning) σ = .ret (.tuple #[]) (some .returning) σ := by
  rw [env_defer, enter134 _ _ _ _ (by simp), Sl_start]
  unfold run134
  simp -implicitDefEqProofs only [go_sem, ↓reduceIte, Nat.reduceLT, Nat.reduceEqDiff, Nat.reduceAdd, Nat.reduceMul, Nat.reduceLeDiff, Nat.reduceSub, r134_0_go, r134_0U, r134_3_go, r134_3U, r134_4_go, r134_4U, nilAny]
theorem callAtLL (n w : Nat) (cap : Array Value) {Q : Nat → Value → FState → Prop} (hQ : Stays Q) (hone : ∀ base v σ, Q base v σ → oneCell v = true ∧ notTuple v = true ∧ valCells v = [v]) (σ : FState) (hw : Wf σ)
    (h : ∀ σ', Ext σ σ' → Wf σ' → Gives ((env (n + 1)).call w cap.toList none σ') σ' (Q σ'.next)) :
    Gives ((env (n + 2)).call 109 [.func (.func w) #[] cap] none σ) σ fun v σ' => ∃ u, v = .tuple #[u, .int .i64 0, .int .i64 0] ∧ Q σ.next u σ' := by
  rw [env_call, enter109 _ _ _ _ (by simp), Sl_start]
  unfold run109
  have hX1 : Ext σ ((σ.push (.cells [.int .i64 0] 3) none).push (.cells [.int .i64 0] 32) none) := ((Ext.refl _).push _ _).push _ _
  have hw1 := (hw.push (.cells [.int .i64 0] 3) none).push (.cells [.int .i64 0] 32) none
  obtain ⟨u, σ2, e2, hX2, hw2, hq⟩ := h _ hX1 hw1
  have g1 : σ2.heap.get σ.next = _ := (hX2.get σ.next (by simp only [push_next]; omega)).trans (by simp -implicitDefEqProofs only [push_get, push_next, Nat.add_assoc, Nat.reduceAdd, Nat.left_eq_add, reduceCtorEq, ↓reduceIte, Nat.reduceEqDiff] <;> rfl)
  have g2 : σ2.heap.get (σ.next + 1) = _ := (hX2.get (σ.next + 1) (by simp only [push_next]; omega)).trans (by simp -implicitDefEqProofs only [push_get, push_next, Nat.add_assoc, Nat.reduceAdd, Nat.add_left_cancel_iff, reduceCtorEq, ↓reduceIte, Nat.reduceEqDiff] <;> rfl)
  obtain ⟨o1, o2, o3⟩ := hone _ _ _ hq
  simp -implicitDefEqProofs only [go_sem, ↓reduceIte, Nat.reduceLT, Nat.reduceEqDiff, Nat.reduceAdd, Nat.reduceMul, Nat.reduceLeDiff, Nat.reduceSub, r109_0_go, r109_0U, r109_1_go, r109_1U, r109_2_go, r109_2U, Option.getD_some, e2, g1, g2, aggInt, aggErrno, deferredAtLL, fleave_nil, fresults_nil, fresults_cons, fresult_cell, fresult_tmp, o1, o2, o3]
  have m1 := (hw2 _ _ g1).1
  have m2 := (hw2 _ _ g2).1
  exact ⟨_, _, rfl, ((hX1.trans hX2).put _ _ _ (Nat.le_refl _)).put _ _ _ (Nat.le_add_right _ _), (hw2.put _ _ _ m1).put _ _ _ m2, _, rfl, hQ.keep _ _ _ _ _ hq hw2 (by simp only [push_next]; omega) fun b hb _ => by
    simp only [push_next] at hb
    rw [put_get, if_neg (by omega), put_get, if_neg (by omega)]⟩
theorem callLL (n w : Nat) (cap : Array Value) {Q : Nat → Value → FState → Prop} (hQ : Stays Q) (hone : ∀ base v σ, Q base v σ → oneCell v = true ∧ notTuple v = true ∧ valCells v = [v]) (σ : FState) (hw : Wf σ)
    (h : ∀ σ', Ext σ σ' → Wf σ' → Gives ((env (n + 1)).call w cap.toList none σ') σ' (Q σ'.next)) :
    Gives ((env (n + 3)).call 76 [.func (.func w) #[] cap] none σ) σ fun v σ' => ∃ u, v = .tuple #[u, .int .i64 0] ∧ Q σ.next u σ' := by
  rw [env_call, enter76 _ _ _ _ (by simp), Sl_start]
  unfold run76
  obtain ⟨_, σ2, e2, hX2, hw2, u, rfl, hq⟩ := callAtLL n w cap hQ hone σ hw h
  obtain ⟨o1, o2, o3⟩ := hone _ _ _ hq
  simp -implicitDefEqProofs only [go_sem, ↓reduceIte, Nat.reduceLT, Nat.reduceEqDiff, Nat.reduceAdd, Nat.reduceMul, Nat.reduceLeDiff, Nat.reduceSub, r76_0_go, r76_0U, r76_1_go, r76_1U, r76_2_go, r76_2U, Option.getD_some, e2, fleave_nil, fresults_nil, fresults_cons, fresult_tmp, List.getElem?_cons_zero, o1, o2, o3]
  exact ⟨_, _, rfl, hX2, hw2, u, rfl, hq⟩
def ResP (x : D) (l : List (List Nat × D)) (base : Nat) (w : Value) (σ : FState) : Prop := ∃ us, Vecs 22 (fun b => base ≤ b) σ w us ∧ PathsL (fun b => base ≤ b) σ us (foundIn x l)
theorem resP_stays (x : D) (l : List (List Nat × D)) : Stays (ResP x l) := ⟨fun base base' v σ σ' ⟨us, h1, h2⟩ hw hb hk => ⟨us, h1.keep (fun b hb' hn => ⟨hk b hb' hn, by omega⟩) hw, h2.keep fun b c hb' hc => ⟨by
  have := hk b hb' (hw.cells hc)
  rw [cells_get] at hc ⊢
  rw [this]; exact hc, by omega⟩⟩⟩
mutual
theorem pieces_le : ∀ (d : D) (p : List Nat) (y : List Nat × D), y ∈ d.pieces p → y.2.deep ≤ d.deep ∧ y.2.count ≤ d.count
  | .mk k z t ds, p, y, h => by
    rw [D.pieces] at h
    rcases List.mem_cons.1 h with rfl | h
    · exact ⟨Nat.le_refl _, Nat.le_refl _⟩
    · have := piecesL_le ds p 0 y h
      rw [D.deep, D.count]
      omega
theorem piecesL_le : ∀ (ds : List D) (p : List Nat) (i : Nat) (y : List Nat × D), y ∈ D.piecesL p i ds → y.2.deep ≤ D.deeps ds ∧ y.2.count ≤ D.counts ds
  | [], p, i, y, h => by simp [D.piecesL] at h
  | d :: ds, p, i, y, h => by
    rw [D.piecesL, List.mem_append] at h
    rw [D.deeps, D.counts]
    rcases h with h | h
    · have := pieces_le d _ y h; omega
    · have := piecesL_le ds _ _ y h; omega
end
theorem longest_le (l : List (List Nat × D)) (L : Nat) (h : ∀ x ∈ l, x.1.length ≤ L) : longest l ≤ L + 1 := by
  induction l with
  | nil => simp [longest]
  | cons x l ih =>
    rw [longest_cons]
    have := h x List.mem_cons_self
    have := ih fun y hy => h y (List.mem_cons_of_mem _ hy)
    omega
theorem Fine.deep_le {m L : Nat} {d : D} (h : Fine m L d) : d.deep ≤ L + 1 := by
  have h1 := longest_pieces d []
  have h2 := longest_le (d.pieces []) L fun x hx => by have := ((h []).2 x hx).1; simpa using this
  simp at h1
  omega
theorem find1 (M n : Nat) (hM : M = n + 14) (b1 b2 : Nat) (L L' : Nat) (hL6 : L ≤ 6) (hL6' : L' ≤ 6) (d x : D) (hF : Fine M L d) (hFx : Fine M L' x) (lv xv : List Value) (h4 : lv.length = 4) (hx4 : xv.length = 4) (R X : Nat → Prop) (σ : FState) (hw : Wf σ) (hb1 : σ.cells b1 = some lv) (hb2 : σ.cells b2 = some xv) (hL : LaidR R σ (.agg lv.toArray) d) (hLx : LaidR (fun b => R b ∨ X b) σ (.agg xv.toArray) x) (hR : ∀ b, R b → b < σ.next ∧ ¬ X b) (hX : ∀ b, X b → b < σ.next) :
    Gives ((env (M + 6)).call 77 [.pointer (some ⟨b1, 0, none⟩), .pointer (some ⟨b2, 0, none⟩)] none σ) σ (ResP x (d.pieces []) σ.next) := by
  have hf := hF.few hL6
  have hfx := hFx.few hL6'
  rw [env_call, enter77 _ _ _ _ (by simp), Sl_start]
  unfold run77
  obtain ⟨_, σ1, e1, x1, hw1, rfl⟩ := valid_go M d lv h4 R σ hw hL (fun b hb => (hR b hb).1) (hF.small hL6) (by omega) hF.good
  have n1 := x1.next
  have kl := fun {R : Nat → Prop} {v : Value} {y : D} (h : LaidR R σ v y) => h.keep (R' := R) (σ' := σ1) fun b cs hb hc => ⟨(x1.cells (hw.cells hc)).trans hc, hb⟩
  obtain ⟨_, σ2, e2, x2, hw2, rfl⟩ := valid_go M x xv hx4 (fun b => R b ∨ X b) σ1 hw1 (kl hLx) (fun b hb => by rcases hb with hb | hb; have := (hR b hb).1; omega; have := hX b hb; omega) (hFx.small hL6') (by omega) hFx.good
  have n2 := x2.next
  have x12 := x1.trans x2
  have kl2 := fun {R : Nat → Prop} {v : Value} {y : D} (h : LaidR R σ v y) => h.keep (R' := R) (σ' := σ2) fun b cs hb hc => ⟨(x12.cells (hw.cells hc)).trans hc, hb⟩
  have c1 := (x1.cells (hw.cells hb2)).trans hb2
  have c2 := (x12.cells (hw.cells hb1)).trans hb1
  have c3 := (x12.cells (hw.cells hb2)).trans hb2
  have hd := hF.deep_le
  have hct : d.count < 1000000000 := by rw [← pieces_length d []]; omega
  obtain ⟨w, σ3, e3, x3, hw3, us, h1, h2⟩ := find_go M n 7 hM d x lv xv h4 hx4 R X σ2 hw2 (kl2 hL) (kl2 hLx) (fun b hb => ⟨by have := (hR b hb).1; omega, (hR b hb).2⟩) (fun b hb => by have := hX b hb; omega) (hF.small hL6) (by omega) (fun y hy => by have := pieces_le d [] y hy; omega)
  have ht : lv.take 4 = lv := List.take_of_length_le (by omega)
  have htx : xv.take 4 = xv := List.take_of_length_le (by omega)
  simp -implicitDefEqProofs only [go_sem, ↓reduceIte, Nat.reduceLT, Nat.reduceEqDiff, Nat.reduceAdd, Nat.reduceMul, Nat.reduceLeDiff, Nat.reduceSub, r77_0_go, r77_0U, r77_1_go, r77_1U, r77_2_go, r77_2U, r77_3_go, r77_3U, Option.getD_some, hb1, hb2, c1, c2, c3, h4, hx4, ht, htx, e1, e2, e3, Nat.le_refl]
  exact ⟨_, _, rfl, x12.trans x3, hw3, us, h1.keep (fun b hb hn => ⟨rfl, by omega⟩) hw3, h2.keep fun b c hb hc => ⟨hc, by omega⟩⟩
/-- datum.Find. -/
theorem findF_go (M n : Nat) (hM : M = n + 14) (L L' : Nat) (hL6 : L ≤ 6) (hL6' : L' ≤ 6) (d x : D) (hF : Fine M L d) (hFx : Fine M L' x) (lv xv : List Value) (h4 : lv.length = 4) (hx4 : xv.length = 4) (R X : Nat → Prop) (σ : FState) (hw : Wf σ) (hL : LaidR R σ (.agg lv.toArray) d) (hLx : LaidR (fun b => R b ∨ X b) σ (.agg xv.toArray) x) (hR : ∀ b, R b → b < σ.next ∧ ¬ X b) (hX : ∀ b, X b → b < σ.next) :
    Gives ((env (M + 9)).call 28 [.agg lv.toArray, .agg xv.toArray] none σ) σ fun w σ' => ∃ u, w = .tuple #[u, .int .i64 0] ∧ ResP x (d.pieces []) σ.next u σ' := by
  rw [env_call, enter28 _ _ _ _ (by simp), Sl_start]
  unfold run28
  have x1 : Ext σ ((σ.push (.cells lv TD) none).push (.cells xv TD) none) := ((Ext.refl _).push _ _).push _ _
  have hw1 := (hw.push (.cells lv TD) none).push (.cells xv TD) none
  have c1 : ((σ.push (.cells lv TD) none).push (.cells xv TD) none).cells σ.next = some lv := by rw [cells_push, if_neg (by rw [push_next]; omega), cells_push, if_pos rfl]; rfl
  have c2 : ((σ.push (.cells lv TD) none).push (.cells xv TD) none).cells (σ.next + 1) = some xv := by rw [cells_push, if_pos (by rw [push_next])]; rfl
  obtain ⟨_, σ2, e2, x2, hw2, u, rfl, hq⟩ := callLL (M + 5) 77 #[.pointer (some ⟨σ.next, 0, none⟩), .pointer (some ⟨σ.next + 1, 0, none⟩)] (resP_stays x (d.pieces [])) (fun base v σ ⟨us, h, _⟩ => h.one) _ hw1 fun σ' hx hw' =>
    find1 M n hM σ.next (σ.next + 1) L L' hL6 hL6' d x hF hFx lv xv h4 hx4 R X σ' hw' ((hx.cells (hw1.cells c1)).trans c1) ((hx.cells (hw1.cells c2)).trans c2) (hL.keep fun b cs hb hc => ⟨((x1.trans hx).cells (hw.cells hc)).trans hc, hb⟩) (hLx.keep fun b cs hb hc => ⟨((x1.trans hx).cells (hw.cells hc)).trans hc, hb⟩) (fun b hb => ⟨by have := (hR b hb).1; have := (x1.trans hx).next; omega, (hR b hb).2⟩) (fun b hb => by have := hX b hb; have := (x1.trans hx).next; omega)
  simp -implicitDefEqProofs only [go_sem, ↓reduceIte, Nat.reduceLT, Nat.reduceEqDiff, Nat.reduceAdd, Nat.reduceMul, Nat.reduceLeDiff, Nat.reduceSub, r28_0_go, r28_0U, r28_1_go, r28_1U, Option.getD_some, e2, List.getElem?_cons_zero, List.getElem?_cons_succ]
  exact ⟨_, _, rfl, x1.trans x2, hw2, u, rfl, (resP_stays x (d.pieces [])).keep _ _ _ _ _ hq hw2 (by simp only [push_next]; omega) fun b _ _ => rfl⟩
end Go.Proofs.YtodkeaoikjjneaaGreatDoor
/- plain.Copy. -/
namespace Go.Proofs.YtodkeaoikjjneaaGreatDoor
open Go Go.Eng
attribute [local congr] andThen_congr fops_congr fdraw_congr afterOp_congr drawF_congr
attribute [-go_sem] List.range_succ
theorem keepEach : keepOf nls 106 = [14, 15, 28] := by kernel_rfl
theorem makeSlice_go (e : TypeId) (bytes : Nat) (z : List Value) (n : Nat) (σ : FState) (h : n * (bytes + 1) ≤ 1000000000) : fmakeSlice e bytes z (.int .i64 (.ofNat n)) (.int .i64 (.ofNat n)) σ = .val (.slice (some ⟨σ.next, 0, none⟩) n n) (σ.push (.cells (reps n z) e) none) := by
  show cond (Nat.ble n n && Nat.ble (n * (bytes + 1)) 1000000000) _ _ = _
  rw [show Nat.ble n n = true by rw [Nat.ble_eq]; exact Nat.le_refl _, show Nat.ble (n * (bytes + 1)) 1000000000 = true by rw [Nat.ble_eq]; exact h]
  rfl
theorem reps_length (n : Nat) (z : List Value) : (reps n z).length = n * z.length := by
  induction n with
  | zero => simp [reps_zero]
  | succ n ih => rw [reps_succ, List.length_append, ih, Nat.succ_mul]; omega
def CopyAt (m : Nat) (d : D) : Prop := ∀ (lv : List Value) (R : Nat → Prop) (σ : FState), Wf σ → LaidR R σ (.agg lv.toArray) d → Gives ((env m).call 69 [.agg lv.toArray] none σ) σ fun w σ' => LaidR (fun b => σ.next ≤ b) σ' w d
structure HeadEa (bo base : Nat) (R : Nat → Prop) (q : Option Addr) (c : Nat) (ds : List D) (σ0 : FState) (i : Nat) (f g : Nat → Value) (σ : FState) : Prop where
  f0 : f 0 = .slice q ds.length c
  f1 : f 1 = .func (.func 69) #[] #[]
  f5 : f 5 = .slice (some ⟨bo, 0, none⟩) ds.length ds.length
  g14 : g 14 = .int .i64 (.ofNat ds.length)
  g15 : g 15 = .int .i64 (.ofNat i)
  cs : ∃ done rest ver, σ.heap.get bo = some ⟨.cells (done ++ rest) TD, false, none, ver⟩ ∧ Row (fun b => base ≤ b ∧ b ≠ bo) σ done (ds.take i) ∧ rest.length = (ds.length - i) * 4
  hbo : base ≤ bo
  lay : LaidRE R σ q 0 ds
  low : ∀ b, R b → b < base
  wf : Wf σ
  ext : Ext σ0 σ
  le : i ≤ ds.length
theorem each_loop (m : Nat) {bo base : Nat} {R : Nat → Prop} {q : Option Addr} {c : Nat} {ds : List D} {σ0 : FState} (hC : ∀ d ∈ ds, CopyAt m d) (hb0 : σ0.next = base) (hfew : ds.length < 1000000) :
    ∀ (j fuel i : Nat) (f g : Nat → Value) (σ : FState), i + j = ds.length → j < fuel → HeadEa bo base R q c ds σ0 i f g σ →
    ∃ f' g' σ', floop [14, 15, 28] (l106_0 (env m) none 106) fuel (Sl 7 29 f g []) none σ = .done (.exit 0) (Sl 7 29 f' g' []) none σ' ∧ HeadEa bo base R q c ds σ0 ds.length f' g' σ' := by
  intro j
  induction j with
  | zero =>
    intro fuel i f g σ hij hf h
    obtain ⟨fuel, rfl⟩ : ∃ q, fuel = q + 1 := ⟨fuel - 1, by omega⟩
    obtain rfl : i = ds.length := by omega
    have d1 : decide (Int.ofNat ds.length < Int.ofNat ds.length) = false := by simp
    rw [floop_step, Sl_forget]
    unfold l106_0
    simp -implicitDefEqProofs only [go_sem, ↓reduceIte, Nat.reduceLT, Nat.reduceEqDiff, Nat.reduceAdd, Nat.reduceMul, Nat.reduceLeDiff, Nat.reduceSub, r106_5_go, r106_5U, h.g14, h.g15, d1, List.mem_cons]
    refine ⟨_, _, _, rfl, { h with g14 := ?_, g15 := ?_ }⟩
    · simp -implicitDefEqProofs only [upd_go, kept_go, ↓reduceIte, Nat.reduceEqDiff, Nat.reduceLT, reduceCtorEq, h.g14, List.mem_cons, true_or, or_true]
    · simp -implicitDefEqProofs only [upd_go, kept_go, ↓reduceIte, Nat.reduceEqDiff, Nat.reduceLT, reduceCtorEq, h.g15, List.mem_cons, true_or, or_true]
  | succ j ih =>
    intro fuel i f g σ hij hf h
    obtain ⟨fuel, rfl⟩ : ∃ q, fuel = q + 1 := ⟨fuel - 1, by omega⟩
    have hi : i < ds.length := by omega
    have d1 : decide (Int.ofNat i < Int.ofNat ds.length) = true := by simp; omega
    have hd : ds[i]? = some ds[i] := List.getElem?_eq_getElem hi
    obtain ⟨b, off, cs, rfl, hRb, hcs, hle, hL⟩ := LaidRE.get h.lay hd
    rw [Nat.zero_add] at hle hL
    obtain ⟨done, rest, ver, hg, hr, hrl⟩ := h.cs
    obtain ⟨w, σ1, e1, x1, hw1, hL1⟩ := hC _ (List.getElem_mem hi) ((cs.drop (off + i * 4)).take 4) R σ h.wf hL
    obtain ⟨l4, rfl, hl4, hone⟩ := hL1.agg
    have hbn := (h.wf _ _ hg).1
    have hg1 := (x1.get bo hbn).trans hg
    have hdl : done.length = i * 4 := by rw [hr.1, List.length_take]; omega
    have w1 := add1 i (by omega)
    have hr4 : 4 ≤ rest.length := by rw [hrl]; omega
    have e4 : ((done ++ rest).take (i * 4) ++ l4 ++ (done ++ rest).drop (i * 4 + 4)) = (done ++ l4) ++ rest.drop 4 := by
      rw [← hdl, List.take_left', List.drop_append]
      · simp [List.drop_eq_nil_of_le]
      · rfl
    have hlen : i * 4 + 4 ≤ (done ++ rest).length := by rw [List.length_append, hdl]; omega
    rw [floop_step, Sl_forget]
    unfold l106_0
    simp -implicitDefEqProofs only [go_sem, ↓reduceIte, Nat.reduceLT, Nat.reduceEqDiff, Nat.reduceAdd, Nat.reduceMul, Nat.reduceLeDiff, Nat.reduceSub, fstoreN, r106_5_go, r106_5U, r106_6_go, r106_6U, r106_7_go, r106_7U, r106_8_go, r106_8U, h.f0, h.f1, h.f5, h.g14, h.g15, d1, hi, hcs, hle, e1, hg1, hl4, hone, hlen, e4, w1, List.mem_cons]
    generalize hff : upd _ 6 _ = f1
    generalize hgg : upd _ 15 _ = g1
    have n1 := x1.next
    have hbase : base ≤ σ.next := by have := h.ext.next; omega
    have hbo := h.hbo
    have kc : ∀ (o : FObj) b cs, σ1.cells b = some cs → b ≠ bo → (σ1.put bo o none).cells b = some cs := fun o b cs hc hb => by rw [cells_put, if_neg hb]; exact hc
    exact ih fuel (i + 1) f1 g1 _ (by omega) (by omega) {
      f0 := by rw [← hff]; simp -implicitDefEqProofs only [upd_go, kept_go, ↓reduceIte, Nat.reduceEqDiff, Nat.reduceLT, reduceCtorEq, h.f0]
      f1 := by rw [← hff]; simp -implicitDefEqProofs only [upd_go, kept_go, ↓reduceIte, Nat.reduceEqDiff, Nat.reduceLT, reduceCtorEq, h.f1]
      f5 := by rw [← hff]; simp -implicitDefEqProofs only [upd_go, kept_go, ↓reduceIte, Nat.reduceEqDiff, Nat.reduceLT, reduceCtorEq, h.f5]
      g14 := by rw [← hgg]; simp -implicitDefEqProofs only [upd_go, kept_go, ↓reduceIte, Nat.reduceEqDiff, Nat.reduceLT, reduceCtorEq, h.g14, List.mem_cons, true_or, or_true]
      g15 := by rw [← hgg]; simp -implicitDefEqProofs only [upd_go, kept_go, ↓reduceIte, Nat.reduceEqDiff, Nat.reduceLT, reduceCtorEq]
      cs := ⟨done ++ l4, rest.drop 4, _, by rw [put_get, if_pos rfl], by
        rw [List.take_add_one, hd]
        exact (hr.keep fun b cs hb hc => ⟨kc _ b cs ((x1.cells (h.wf.cells hc)).trans hc) hb.2, hb⟩).snoc hl4 hone (hL1.keep fun b cs hb hc => ⟨kc _ b cs hc (by omega), by omega, by omega⟩), by rw [List.length_drop, hrl]; omega⟩
      hbo := h.hbo
      lay := h.lay.keep fun b cs hb hc => ⟨kc _ b cs ((x1.cells (h.wf.cells hc)).trans hc) (by have := h.low b hb; omega), hb⟩
      low := h.low
      wf := hw1.put _ _ _ (by omega)
      ext := (h.ext.trans x1).put _ _ _ (by omega)
      le := hi }
theorem each_step (m : Nat) (ds : List D) (hC : ∀ d ∈ ds, CopyAt m d) (hfew : ds.length < 1000000) (q : Option Addr) (c : Nat) (R : Nat → Prop) (σ : FState) (hw : Wf σ) (hE : LaidRE R σ q 0 ds) :
    Gives ((env (m + 1)).call 106 [.slice q ds.length c, .func (.func 69) #[] #[]] none σ) σ fun w σ' => ∃ q' c', w = .slice q' ds.length c' ∧ LaidRE (fun b => σ.next ≤ b) σ' q' 0 ds := by
  rw [env_call, enter106 _ _ _ _ (by simp), Sl_start]
  unfold run106
  cases hz : (Int.ofNat ds.length == (0 : Int)) with
  | true =>
    have h0 : ds = [] := by
      have := Int.ofNat.inj (eq_of_beq hz)
      exact List.length_eq_zero_iff.1 this
    subst h0
    simp -implicitDefEqProofs only [go_sem, ↓reduceIte, Nat.reduceLT, Nat.reduceEqDiff, Nat.reduceAdd, Nat.reduceMul, Nat.reduceLeDiff, Nat.reduceSub, r106_0_go, r106_0U, r106_1_go, r106_1U, r106_2_go, r106_2U, Option.getD_some, hz]
    exact ⟨_, _, rfl, Ext.refl _, hw, none, 0, rfl, trivial⟩
  | false =>
    have hmk := fun σ => makeSlice_go 28 56 [.int .i64 0, .int .i64 0, .string ⟨#[]⟩, .slice none 0 0] ds.length σ (by omega)
    simp -implicitDefEqProofs only [go_sem, ↓reduceIte, Nat.reduceLT, Nat.reduceEqDiff, Nat.reduceAdd, Nat.reduceMul, Nat.reduceLeDiff, Nat.reduceSub, r106_0_go, r106_0U, r106_1_go, r106_1U, r106_3_go, r106_3U, r106_4_go, r106_4U, Option.getD_some, hz, hmk, keepEach]
    generalize hff : upd _ 5 _ = f1
    generalize hgg : upd _ 15 _ = g1
    generalize hbf : bigFuel = fuel
    obtain ⟨f2, g2, σ2, e2, h2⟩ := each_loop m (bo := σ.next) (base := σ.next) (R := fun b => R b ∧ b < σ.next) (q := q) (c := c) (σ0 := σ) hC rfl hfew ds.length fuel 0 f1 g1 (σ.push (.cells (reps ds.length [.int .i64 0, .int .i64 0, .string ⟨#[]⟩, .slice none 0 0]) TD) none) (by omega) (by rw [← hbf]; show ds.length < 1000000000000; omega) {
      f0 := by rw [← hff]; simp -implicitDefEqProofs only [upd_go, kept_go, ↓reduceIte, Nat.reduceEqDiff, Nat.reduceLT, reduceCtorEq, List.getElem?_cons_zero, List.getElem?_cons_succ, Option.getD_some]
      f1 := by rw [← hff]; simp -implicitDefEqProofs only [upd_go, kept_go, ↓reduceIte, Nat.reduceEqDiff, Nat.reduceLT, reduceCtorEq, List.getElem?_cons_zero, List.getElem?_cons_succ, Option.getD_some]
      f5 := by rw [← hff]; simp -implicitDefEqProofs only [upd_go, kept_go, ↓reduceIte, Nat.reduceEqDiff, Nat.reduceLT, reduceCtorEq]
      g14 := by rw [← hgg]; simp -implicitDefEqProofs only [upd_go, kept_go, ↓reduceIte, Nat.reduceEqDiff, Nat.reduceLT, reduceCtorEq]
      g15 := by rw [← hgg]; simp -implicitDefEqProofs only [upd_go, kept_go, ↓reduceIte, Nat.reduceEqDiff, Nat.reduceLT, reduceCtorEq] <;> rfl
      cs := ⟨[], reps ds.length [.int .i64 0, .int .i64 0, .string ⟨#[]⟩, .slice none 0 0], σ.clock, by rw [push_get, if_pos rfl]; rfl, Row.nil _ _, by rw [reps_length]; rfl⟩
      hbo := Nat.le_refl _
      lay := hE.keep fun b cs hb hc => ⟨by rw [cells_push, if_neg (by have := hw.cells hc; omega)]; exact hc, hb, hw.cells hc⟩
      low := fun b hb => hb.2
      wf := hw.push _ _
      ext := (Ext.refl _).push _ _
      le := Nat.zero_le _ }
    rw [e2]
    simp -implicitDefEqProofs only [go_sem, ↓reduceIte, Nat.reduceLT, Nat.reduceEqDiff, Nat.reduceAdd, Nat.reduceMul, Nat.reduceLeDiff, Nat.reduceSub, r106_9_go, r106_9U, h2.f5]
    obtain ⟨done, rest, ver, hg, hr, hrl⟩ := h2.cs
    rw [List.take_length] at hr
    have hrest : rest = [] := List.length_eq_zero_iff.1 (by rw [hrl]; omega)
    subst hrest
    rw [List.append_nil] at hg
    exact ⟨_, _, rfl, h2.ext, h2.wf, _, _, rfl, hr.elems (cells_of_get hg) (Nat.le_refl _) (fun c hc => hc.1) 0 ds fun j e he => by rwa [Nat.zero_add]⟩
theorem copy_step (m : Nat) (k z : Int) (t : ByteArray) (ds : List D) (hC : ∀ d ∈ ds, CopyAt m d) (hfew : ds.length < 1000000) : CopyAt (m + 2) (.mk k z t ds) := by
  intro lv R σ hw hL
  obtain ⟨q, c, hv, hE⟩ := hL
  have hlv : lv = [.int .i64 k, .int .i64 z, .string t, .slice q ds.length c] := by
    have := Value.agg.inj hv
    simpa using congrArg Array.toList this
  subst hlv
  rw [env_call, enter69 _ _ _ _ (by simp), Sl_start]
  unfold run69
  have x1 : Ext σ ((σ.push (.cells [.int .i64 k, .int .i64 z, .string t, .slice q ds.length c] TD) none).push (.cells [.int .i64 0, .int .i64 0, .string ⟨#[]⟩, .slice none 0 0] TD) none) := ((Ext.refl _).push _ _).push _ _
  have hw1 := (hw.push (.cells [.int .i64 k, .int .i64 z, .string t, .slice q ds.length c] TD) none).push (.cells [.int .i64 0, .int .i64 0, .string ⟨#[]⟩, .slice none 0 0] TD) none
  have c1 : ((σ.push (.cells [.int .i64 k, .int .i64 z, .string t, .slice q ds.length c] TD) none).push (.cells [.int .i64 0, .int .i64 0, .string ⟨#[]⟩, .slice none 0 0] TD) none).cells σ.next = some [.int .i64 k, .int .i64 z, .string t, .slice q ds.length c] := by rw [cells_push, if_neg (by rw [push_next]; omega), cells_push, if_pos rfl]; rfl
  have g2 : ((σ.push (.cells [.int .i64 k, .int .i64 z, .string t, .slice q ds.length c] TD) none).push (.cells [.int .i64 0, .int .i64 0, .string ⟨#[]⟩, .slice none 0 0] TD) none).heap.get (σ.next + 1) = some ⟨.cells [.int .i64 0, .int .i64 0, .string ⟨#[]⟩, .slice none 0 0] TD, false, none, σ.clock + 1⟩ := by rw [push_get, if_pos (by rw [push_next])]; rfl
  have kc : ((σ.push (.cells [.int .i64 k, .int .i64 z, .string t, .slice q ds.length c] TD) none).push (.cells [.int .i64 0, .int .i64 0, .string ⟨#[]⟩, .slice none 0 0] TD) none).clock = σ.clock + 2 := rfl
  have kn : ((σ.push (.cells [.int .i64 k, .int .i64 z, .string t, .slice q ds.length c] TD) none).push (.cells [.int .i64 0, .int .i64 0, .string ⟨#[]⟩, .slice none 0 0] TD) none).next = σ.next + 2 := rfl
  simp -implicitDefEqProofs only [go_sem, ↓reduceIte, Nat.reduceLT, Nat.reduceEqDiff, Nat.reduceAdd, Nat.reduceMul, Nat.reduceLeDiff, Nat.reduceSub, r69_0_go, r69_0U, Option.getD_some]
  generalize FState.push (FState.push σ _ _) _ _ = σ1 at x1 hw1 c1 g2 kc kn ⊢
  have hv1 := view_wf hw1 (lam := σ.clock + 2) (by omega)
  obtain ⟨_, σ2, e2, x2, hw2, q', c', rfl, hE'⟩ := each_step m ds hC hfew q c R σ1 hw1 (hE.keep fun b cs hb hc => ⟨(x1.cells (hw.cells hc)).trans hc, hb⟩)
  have c2 : (view σ2 (σ.clock + 2)).cells σ.next = some [.int .i64 k, .int .i64 z, .string t, .slice q ds.length c] := view_old hw1 (by omega) (x2.get _ (hw1.cells c1)) c1
  have g2' := (x2.get _ (hw1 _ _ g2).1).trans g2
  simp -implicitDefEqProofs only [go_sem, ↓reduceIte, Nat.reduceLT, Nat.reduceEqDiff, Nat.reduceAdd, Nat.reduceMul, Nat.reduceLeDiff, Nat.reduceSub, fstoreN, r69_1_go, r69_1U, hv1, c1, e2, c2, g2', fleave_nil, fresults_nil, fresults_cons, fresult_cell, aggDatum]
  have n2 := x2.next
  exact ⟨_, _, rfl, (x1.trans x2).put _ _ _ (by omega), hw2.put _ _ _ (by omega), q', c', rfl, hE'.keep fun b cs hb hc => ⟨by rw [cells_put, if_neg (by omega)]; exact hc, by omega⟩⟩
theorem copy_go (n : Nat) : ∀ (N : Nat) (d : D), D.deep d ≤ N → d.count < 1000000 → CopyAt (n + 2 * N) d
  | 0, d, h, _ => by cases d; rw [D.deep] at h; omega
  | N + 1, .mk k z t ds, h, hc => by
    rw [D.deep] at h
    rw [D.count] at hc
    have := length_counts ds
    exact copy_step (n + 2 * N) k z t ds (fun d hd => copy_go n N d (by have := deeps_mem hd; omega) (by have := count_mem hd; omega)) (by omega)
end Go.Proofs.YtodkeaoikjjneaaGreatDoor
/- datum.At. -/
namespace Go.Proofs.YtodkeaoikjjneaaGreatDoor
open Go Go.Eng
attribute [local congr] andThen_congr fops_congr fdraw_congr afterOp_congr drawF_congr
attribute [-go_sem] List.range_succ
theorem keepPlace : keepOf nls 73 = [7, 8, 9, 32] := by kernel_rfl
theorem field3 {cs : List Value} {off : Nat} {a b c e : Value} (h : (cs.drop off).take 4 = [a, b, c, e]) : cs[off + 3]? = some e := by
  have : ((cs.drop off).take 4)[3]? = some e := by rw [h]; rfl
  rw [List.getElem?_take, if_pos (by omega), List.getElem?_drop] at this
  exact this
structure HeadPl (a : Option Addr) (plen cx i b off : Nat) (f g : Nat → Value) : Prop where
  f0 : f 0 = .pointer (some ⟨b, off, none⟩)
  g7 : g 7 = .slice a plen cx
  g8 : g 8 = .int .i64 (.ofNat plen)
  g9 : g 9 = .int .i64 (.ofNat i)
theorem place_loop (E : Env) {a : Option Addr} {cx : Nat} {path : List Nat} {R : Nat → Prop} {σ : FState} (hs : path.length < 100000) (x : D) (hp : path ≠ [] → ∃ b rest, a = some ⟨b, 0, none⟩ ∧ σ.cells b = some (intsOf path ++ rest)) :
    ∀ (j fuel i : Nat) (f g : Nat → Value) (d : D) (b off : Nat) (cs : List Value), i + j = path.length → j < fuel → atP (path.drop i) d = some x → d.count < 100000 → σ.cells b = some cs → 4 ≤ cs.length - off → LaidR R σ (.agg ((cs.drop off).take 4).toArray) d → HeadPl a path.length cx i b off f g →
    ∃ f' g' b off cs, floop [7, 8, 9, 32] (l73_0 E none 73) fuel (Sl 7 33 f g []) none σ = .done (.exit 0) (Sl 7 33 f' g' []) none σ ∧ f' 0 = .pointer (some ⟨b, off, none⟩) ∧ σ.cells b = some cs ∧ 4 ≤ cs.length - off ∧ LaidR R σ (.agg ((cs.drop off).take 4).toArray) x := by
  intro j
  induction j with
  | zero =>
    intro fuel i f g d b off cs hij hf hx _ hc hle hL h
    obtain ⟨fuel, rfl⟩ : ∃ q, fuel = q + 1 := ⟨fuel - 1, by omega⟩
    obtain rfl : i = path.length := by omega
    rw [List.drop_length, atP] at hx
    obtain rfl := Option.some.inj hx
    have d1 : decide (Int.ofNat path.length < Int.ofNat path.length) = false := by simp
    rw [floop_step, Sl_forget]
    unfold l73_0
    simp -implicitDefEqProofs only [go_sem, ↓reduceIte, Nat.reduceLT, Nat.reduceEqDiff, Nat.reduceAdd, Nat.reduceMul, Nat.reduceLeDiff, Nat.reduceSub, r73_2_go, r73_2U, h.g8, h.g9, d1, List.mem_cons]
    exact ⟨_, _, b, off, cs, rfl, h.f0, hc, hle, hL⟩
  | succ j ih =>
    intro fuel i f g d b off cs hij hf hx hN hc hle hL h
    obtain ⟨fuel, rfl⟩ : ∃ q, fuel = q + 1 := ⟨fuel - 1, by omega⟩
    have hi : i < path.length := by omega
    have d1 : decide (Int.ofNat i < Int.ofNat path.length) = true := by simp; omega
    obtain ⟨bp, rest, rfl, hcp⟩ := hp (fun h => by rw [h] at hi; simp at hi)
    have g1 := intsOf_get rest hi
    have w3 := add1 i (by omega)
    have hdr : path.drop i = path[i] :: path.drop (i + 1) := List.drop_eq_getElem_cons hi
    obtain ⟨k, z, t, ds⟩ := d
    obtain ⟨q, c, hv, hE⟩ := hL
    have hv' : (cs.drop off).take 4 = [.int .i64 k, .int .i64 z, .string t, .slice q ds.length c] := by
      have := Value.agg.inj hv
      simpa using congrArg Array.toList this
    have hf3 := field3 hv'
    rw [hdr, atP] at hx
    simp only [D.parts] at hx
    cases hd : ds[path[i]]? with
    | none => rw [hd] at hx; cases hx
    | some d' =>
      rw [hd] at hx
      simp only at hx
      have hpi := (List.getElem?_eq_some_iff.1 hd).1
      obtain ⟨b', off', cs', rfl, hRb, hcs', hle', hL'⟩ := LaidRE.get hE hd
      rw [Nat.zero_add] at hle' hL'
      have e0 : decide (Int.ofNat path[i] < 0) = false := by simp
      have e1 : decide (Int.ofNat path[i] ≥ Int.ofNat ds.length) = false := by simp; omega
      rw [floop_step, Sl_forget]
      unfold l73_0
      simp -implicitDefEqProofs only [go_sem, ↓reduceIte, Nat.reduceLT, Nat.reduceEqDiff, Nat.reduceAdd, Nat.reduceMul, Nat.reduceLeDiff, Nat.reduceSub, r73_2_go, r73_2U, r73_3_go, r73_3U, r73_4_go, r73_4U, r73_6_go, r73_6U, r73_7_go, r73_7U, h.f0, h.g7, h.g8, h.g9, d1, hi, hcp, g1, hc, hf3, e0, e1, hpi, w3, List.mem_cons]
      generalize hff : upd _ 0 _ = f1
      generalize hgg : upd _ 9 _ = gg
      exact ih fuel (i + 1) f1 gg d' b' (off' + path[i] * 4) cs' (by omega) (by omega) hx (by have := count_mem (List.mem_of_getElem? hd); rw [D.count] at hN; omega) hcs' (by omega) hL' {
        f0 := by rw [← hff]; simp -implicitDefEqProofs only [upd_go, kept_go, ↓reduceIte, Nat.reduceEqDiff, Nat.reduceLT, reduceCtorEq]
        g7 := by rw [← hgg]; simp -implicitDefEqProofs only [upd_go, kept_go, ↓reduceIte, Nat.reduceEqDiff, Nat.reduceLT, reduceCtorEq, h.g7, List.mem_cons, true_or, or_true]
        g8 := by rw [← hgg]; simp -implicitDefEqProofs only [upd_go, kept_go, ↓reduceIte, Nat.reduceEqDiff, Nat.reduceLT, reduceCtorEq, h.g8, List.mem_cons, true_or, or_true]
        g9 := by rw [← hgg]; simp -implicitDefEqProofs only [upd_go, kept_go, ↓reduceIte, Nat.reduceEqDiff, Nat.reduceLT, reduceCtorEq] }
theorem place_go (n : Nat) {path : List Nat} {pv : Value} {R Q : Nat → Prop} {σ : FState} (hs : path.length < 100000) {d x : D} (hP : PathV Q σ pv path) {b off : Nat} {cs : List Value} (hx : atP path d = some x) (hN : d.count < 100000) (hc : σ.cells b = some cs) (hle : 4 ≤ cs.length - off) (hL : LaidR R σ (.agg ((cs.drop off).take 4).toArray) d) :
    ∃ b' off' cs', (env (n + 1)).call 73 [.pointer (some ⟨b, off, none⟩), pv] none σ = .ret (.pointer (some ⟨b', off', none⟩)) none σ ∧ σ.cells b' = some cs' ∧ 4 ≤ cs'.length - off' ∧ LaidR R σ (.agg ((cs'.drop off').take 4).toArray) x := by
  obtain ⟨a, cx, rfl, k1⟩ := pathV_slice hP
  rw [env_call, enter73 _ _ _ _ (by simp), Sl_start]
  unfold run73
  simp -implicitDefEqProofs only [go_sem, ↓reduceIte, Nat.reduceLT, Nat.reduceEqDiff, Nat.reduceAdd, Nat.reduceMul, Nat.reduceLeDiff, Nat.reduceSub, r73_0_go, r73_0U, r73_1_go, r73_1U, Option.getD_some, keepPlace]
  generalize hff : upd _ 4 _ = f1
  generalize hgg : upd _ 9 _ = g1
  generalize hbf : bigFuel = fuel
  obtain ⟨f2, g2, b', off', cs', e2, h1, h2, h3, h4⟩ := place_loop (env n) (a := a) (cx := cx) (σ := σ) hs x (fun h => by obtain ⟨b, r, x, _, y⟩ := k1 h; exact ⟨b, r, x, y⟩) path.length fuel 0 f1 g1 d b off cs (by omega) (by rw [← hbf]; show path.length < 1000000000000; omega) hx hN hc hle hL {
    f0 := by rw [← hff]; simp -implicitDefEqProofs only [upd_go, kept_go, ↓reduceIte, Nat.reduceEqDiff, Nat.reduceLT, reduceCtorEq, List.getElem?_cons_zero, List.getElem?_cons_succ, Option.getD_some]
    g7 := by rw [← hgg]; simp -implicitDefEqProofs only [upd_go, kept_go, ↓reduceIte, Nat.reduceEqDiff, Nat.reduceLT, reduceCtorEq]
    g8 := by rw [← hgg]; simp -implicitDefEqProofs only [upd_go, kept_go, ↓reduceIte, Nat.reduceEqDiff, Nat.reduceLT, reduceCtorEq]
    g9 := by rw [← hgg]; simp -implicitDefEqProofs only [upd_go, kept_go, ↓reduceIte, Nat.reduceEqDiff, Nat.reduceLT, reduceCtorEq] <;> rfl }
  rw [e2]
  simp -implicitDefEqProofs only [go_sem, ↓reduceIte, Nat.reduceLT, Nat.reduceEqDiff, Nat.reduceAdd, Nat.reduceMul, Nat.reduceLeDiff, Nat.reduceSub, r73_8_go, r73_8U, h1]
  exact ⟨_, _, _, rfl, h2, h3, h4⟩
theorem deferredAtD (n : Nat) (p q : Value) (σ : FState) : (env (n + 1)).call 125 [p, q] (some .returning) σ = .ret (.tuple #[]) (some .returning) σ := by
  rw [env_defer, enter125 _ _ _ _ (by simp), Sl_start]
  unfold run125
  simp -implicitDefEqProofs only [go_sem, ↓reduceIte, Nat.reduceLT, Nat.reduceEqDiff, Nat.reduceAdd, Nat.reduceMul, Nat.reduceLeDiff, Nat.reduceSub, r125_0_go, r125_0U, r125_3_go, r125_3U, r125_4_go, r125_4U, nilAny]
theorem callAtD (n w : Nat) (cap : Array Value) (x : D) (σ : FState) (hw : Wf σ)
    (h : ∀ σ', Ext σ σ' → Wf σ' → Gives ((env (n + 1)).call w cap.toList none σ') σ' fun v σ'' => LaidR (fun b => σ'.next ≤ b) σ'' v x) :
    Gives ((env (n + 2)).call 100 [.func (.func w) #[] cap] none σ) σ fun v σ' => ∃ u, v = .tuple #[u, .int .i64 0, .int .i64 0] ∧ LaidR (fun b => σ.next ≤ b) σ' u x := by
  rw [env_call, enter100 _ _ _ _ (by simp), Sl_start]
  unfold run100
  have hX1 : Ext σ (((σ.push (.cells [.int .i64 0, .int .i64 0, .string ⟨#[]⟩, .slice none 0 0] TD) none).push (.cells [.int .i64 0] 3) none).push (.cells [.int .i64 0] 32) none) := (((Ext.refl _).push _ _).push _ _).push _ _
  have hw1 := ((hw.push (.cells [.int .i64 0, .int .i64 0, .string ⟨#[]⟩, .slice none 0 0] TD) none).push (.cells [.int .i64 0] 3) none).push (.cells [.int .i64 0] 32) none
  obtain ⟨_, σ2, e2, hX2, hw2, hq⟩ := h _ hX1 hw1
  obtain ⟨k, z, t, ds⟩ := x
  obtain ⟨q, c, rfl, hE⟩ := hq
  have g0 : σ2.heap.get σ.next = _ := (hX2.get σ.next (by simp only [push_next]; omega)).trans (by simp -implicitDefEqProofs only [push_get, push_next, Nat.add_assoc, Nat.reduceAdd, Nat.left_eq_add, reduceCtorEq, ↓reduceIte, Nat.reduceEqDiff] <;> rfl)
  have g1 : σ2.heap.get (σ.next + 1) = _ := (hX2.get (σ.next + 1) (by simp only [push_next]; omega)).trans (by simp -implicitDefEqProofs only [push_get, push_next, Nat.add_assoc, Nat.reduceAdd, Nat.add_left_cancel_iff, reduceCtorEq, ↓reduceIte, Nat.reduceEqDiff] <;> rfl)
  have g2 : σ2.heap.get (σ.next + 2) = _ := (hX2.get (σ.next + 2) (by simp only [push_next]; omega)).trans (by simp -implicitDefEqProofs only [push_get, push_next, Nat.add_assoc, Nat.reduceAdd, Nat.add_left_cancel_iff, reduceCtorEq, ↓reduceIte, Nat.reduceEqDiff] <;> rfl)
  simp -implicitDefEqProofs only [go_sem, ↓reduceIte, Nat.reduceLT, Nat.reduceEqDiff, Nat.reduceAdd, Nat.reduceMul, Nat.reduceLeDiff, Nat.reduceSub, fstoreN, r100_0_go, r100_0U, r100_1_go, r100_1U, r100_2_go, r100_2U, Option.getD_some, e2, g0, g1, g2, aggDatum, aggInt, aggErrno, deferredAtD, fleave_nil, fresults_nil, fresults_cons, fresult_cell]
  have m0 := (hw2 _ _ g0).1
  have m1 := (hw2 _ _ g1).1
  have m2 := (hw2 _ _ g2).1
  exact ⟨_, _, rfl, (((hX1.trans hX2).put _ _ _ (Nat.le_refl _)).put _ _ _ (Nat.le_add_right _ _)).put _ _ _ (Nat.le_add_right _ _), ((hw2.put _ _ _ m0).put _ _ _ m1).put _ _ _ m2, _, rfl, q, c, rfl, hE.keep fun b cs hb hc => by
    simp only [push_next] at hb
    exact ⟨by rw [cells_put, if_neg (by omega), cells_put, if_neg (by omega), cells_put, if_neg (by omega)]; exact hc, by omega⟩⟩
theorem callD (n w : Nat) (cap : Array Value) (x : D) (σ : FState) (hw : Wf σ)
    (h : ∀ σ', Ext σ σ' → Wf σ' → Gives ((env (n + 1)).call w cap.toList none σ') σ' fun v σ'' => LaidR (fun b => σ'.next ≤ b) σ'' v x) :
    Gives ((env (n + 3)).call 58 [.func (.func w) #[] cap] none σ) σ fun v σ' => ∃ u, v = .tuple #[u, .int .i64 0] ∧ LaidR (fun b => σ.next ≤ b) σ' u x := by
  rw [env_call, enter58 _ _ _ _ (by simp), Sl_start]
  unfold run58
  have hX1 : Ext σ (σ.push (.cells [.int .i64 0, .int .i64 0, .string ⟨#[]⟩, .slice none 0 0] TD) none) := (Ext.refl _).push _ _
  obtain ⟨_, σ2, e2, hX2, hw2, u, rfl, hq⟩ := callAtD n w cap x _ (hw.push (.cells [.int .i64 0, .int .i64 0, .string ⟨#[]⟩, .slice none 0 0] TD) none) fun σ' hx hw' => h σ' (hX1.trans hx) hw'
  obtain ⟨k, z, t, ds⟩ := x
  obtain ⟨q, c, rfl, hE⟩ := hq
  have g0 : σ2.heap.get σ.next = _ := (hX2.get σ.next (Nat.lt_succ_self _)).trans (by rw [push_get, if_pos rfl])
  have m0 := (hw2 _ _ g0).1
  have hne : (σ.next = σ2.next) = False := by simp; omega
  have hne' : (σ2.next = σ.next) = False := by simp; omega
  simp -implicitDefEqProofs only [go_sem, ↓reduceIte, Nat.reduceLT, Nat.reduceEqDiff, Nat.reduceAdd, Nat.reduceMul, Nat.reduceLeDiff, Nat.reduceSub, fstoreN, r58_0_go, r58_0U, r58_1_go, r58_1U, r58_2_go, r58_2U, Option.getD_some, e2, g0, aggDatum, fleave_nil, fresults_nil, fresults_cons, fresult_cell, fresult_tmp, hne, hne', List.getElem?_cons_zero]
  exact ⟨_, _, rfl, (((hX1.trans hX2).push _ _).put _ _ _ (by have := (hX1.trans hX2).next; omega)).put _ _ _ (Nat.le_refl _), ((hw2.push _ _).put _ _ _ (Nat.lt_succ_self _)).put _ _ _ (by rw [put_next, push_next]; omega), _, rfl, q, c, rfl, hE.keep fun b cs hb hc => by
    have := hw2.cells hc
    simp only [push_next] at hb
    exact ⟨by rw [cells_put, if_neg (by omega), cells_put, if_neg (by omega), cells_push, if_neg (by omega)]; exact hc, by omega⟩⟩
theorem at1 (M n : Nat) (hM : M = n + 14) (bd bp : Nat) (L : Nat) (hL6 : L ≤ 6) (d x : D) (hF : Fine M L d) (lv : List Value) (h4 : lv.length = 4) (R Q : Nat → Prop) (path : List Nat) (pv : Value) (hs : path.length < 100000) (hx : atP path d = some x) (hxd : x.deep ≤ 7) (hxc : x.count < 100000) (σ : FState) (hw : Wf σ) (hb1 : σ.cells bd = some lv) (hb2 : σ.cells bp = some [pv]) (hL : LaidR R σ (.agg lv.toArray) d) (hP : PathV Q σ pv path) (hR : ∀ b, R b → b < σ.next) :
    Gives ((env (M + 6)).call 72 [.pointer (some ⟨bd, 0, none⟩), .pointer (some ⟨bp, 0, none⟩)] none σ) σ fun v σ' => LaidR (fun b => σ.next ≤ b) σ' v x := by
  have hf := hF.few hL6
  rw [env_call, enter72 _ _ _ _ (by simp), Sl_start]
  unfold run72
  have x0 : Ext σ (σ.push (.cells [.int .i64 0, .int .i64 0, .string ⟨#[]⟩, .slice none 0 0] TD) none) := (Ext.refl _).push _ _
  have hw0 := hw.push (.cells [.int .i64 0, .int .i64 0, .string ⟨#[]⟩, .slice none 0 0] TD) none
  have ne1 : (bd = σ.next) = False := by have := hw.cells hb1; simp; omega
  have ne2 : (bp = σ.next) = False := by have := hw.cells hb2; simp; omega
  obtain ⟨_, σ1, e1, x1, hw1, rfl⟩ := valid_go M d lv h4 R _ hw0 (hL.keep fun b cs hb hc => ⟨(x0.cells (hw.cells hc)).trans hc, hb⟩) (fun b hb => by have := hR b hb; rw [push_next]; omega) (hF.small hL6) (by omega) hF.good
  have x01 := x0.trans x1
  have c1 := (x01.cells (hw.cells hb1)).trans hb1
  have c2 := (x01.cells (hw.cells hb2)).trans hb2
  have ht : lv.take 4 = lv := List.take_of_length_le (by omega)
  have hL1 : LaidR R σ1 (.agg ((lv.drop 0).take 4).toArray) d := by
    rw [List.drop_zero, ht]
    exact hL.keep fun b cs hb hc => ⟨(x01.cells (hw.cells hc)).trans hc, hb⟩
  obtain ⟨b', off', cs', e2, hc', hle', hL'⟩ := place_go (M + 4) (Q := fun _ => True) (σ := σ1) hs (hP.keep fun b cs _ hc => ⟨(x01.cells (hw.cells hc)).trans hc, trivial⟩) hx (by rw [← pieces_length d []]; omega) c1 (by omega) hL1
  have hcp := copy_go (n + 5) 7 x hxd (by omega)
  rw [show n + 5 + 2 * 7 = M + 5 by omega] at hcp
  obtain ⟨_, σ2, e3, x2, hw2, hq⟩ := hcp ((cs'.drop off').take 4) R σ1 hw1 hL'
  obtain ⟨k, z, t, ds⟩ := x
  obtain ⟨q, c, rfl, hE⟩ := hq
  have g0 : σ2.heap.get σ.next = _ := ((x1.trans x2).get σ.next (Nat.lt_succ_self _)).trans (by rw [push_get, if_pos rfl])
  have m0 := (hw2 _ _ g0).1
  simp -implicitDefEqProofs only [go_sem, ↓reduceIte, Nat.reduceLT, Nat.reduceEqDiff, Nat.reduceAdd, Nat.reduceMul, Nat.reduceLeDiff, Nat.reduceSub, fstoreN, r72_0_go, r72_0U, r72_1_go, r72_1U, r72_2_go, r72_2U, Option.getD_some, hb1, hb2, ne1, ne2, c1, c2, h4, ht, e1, e2, e3, hc', hle', g0, aggDatum, fleave_nil, fresults_nil, fresults_cons, fresult_cell, Nat.le_refl]
  have n1 := x1.next
  rw [push_next] at n1
  exact ⟨_, _, rfl, (x01.trans x2).put _ _ _ (Nat.le_refl _), hw2.put _ _ _ m0, q, c, rfl, hE.keep fun b cs hb hc => ⟨by rw [cells_put, if_neg (by omega)]; exact hc, by omega⟩⟩
/-- datum.At. -/
theorem atD_go (M n : Nat) (hM : M = n + 14) (L : Nat) (hL6 : L ≤ 6) (d x : D) (hF : Fine M L d) (lv : List Value) (h4 : lv.length = 4) (R Q : Nat → Prop) (path : List Nat) (pv : Value) (hs : path.length < 100000) (hx : atP path d = some x) (hxd : x.deep ≤ 7) (hxc : x.count < 100000) (σ : FState) (hw : Wf σ) (hL : LaidR R σ (.agg lv.toArray) d) (hP : PathV Q σ pv path) (hR : ∀ b, R b → b < σ.next) :
    Gives ((env (M + 9)).call 23 [.agg lv.toArray, pv] none σ) σ fun w σ' => ∃ u, w = .tuple #[u, .int .i64 0] ∧ LaidR (fun b => σ.next ≤ b) σ' u x := by
  rw [env_call, enter23 _ _ _ _ (by simp), Sl_start]
  unfold run23
  obtain ⟨o1, o2, o3⟩ := hP.one
  have x1 : Ext σ (((σ.push (.cells lv TD) none).push (.cells [pv] 22) none).push (.cells [.int .i64 0, .int .i64 0, .string ⟨#[]⟩, .slice none 0 0] TD) none) := (((Ext.refl _).push _ _).push _ _).push _ _
  have hw1 := ((hw.push (.cells lv TD) none).push (.cells [pv] 22) none).push (.cells [.int .i64 0, .int .i64 0, .string ⟨#[]⟩, .slice none 0 0] TD) none
  have c1 : (((σ.push (.cells lv TD) none).push (.cells [pv] 22) none).push (.cells [.int .i64 0, .int .i64 0, .string ⟨#[]⟩, .slice none 0 0] TD) none).cells σ.next = some lv := by rw [cells_push, if_neg (by simp only [push_next]; omega), cells_push, if_neg (by rw [push_next]; omega), cells_push, if_pos rfl]; rfl
  have c2 : (((σ.push (.cells lv TD) none).push (.cells [pv] 22) none).push (.cells [.int .i64 0, .int .i64 0, .string ⟨#[]⟩, .slice none 0 0] TD) none).cells (σ.next + 1) = some [pv] := by rw [cells_push, if_neg (by simp only [push_next]; omega), cells_push, if_pos (by rw [push_next])]; rfl
  have g4 : (((σ.push (.cells lv TD) none).push (.cells [pv] 22) none).push (.cells [.int .i64 0, .int .i64 0, .string ⟨#[]⟩, .slice none 0 0] TD) none).heap.get (σ.next + 2) = some ⟨.cells [.int .i64 0, .int .i64 0, .string ⟨#[]⟩, .slice none 0 0] TD, false, none, σ.clock + 2⟩ := by rw [push_get, if_pos (by simp only [push_next])]; rfl
  obtain ⟨_, σ2, e2, x2, hw2, u, rfl, hq⟩ := callD (M + 5) 72 #[.pointer (some ⟨σ.next, 0, none⟩), .pointer (some ⟨σ.next + 1, 0, none⟩)] x _ hw1 fun σ' hx' hw' =>
    at1 M n hM σ.next (σ.next + 1) L hL6 d x hF lv h4 R (fun _ => True) path pv hs hx hxd hxc σ' hw' ((hx'.cells (hw1.cells c1)).trans c1) ((hx'.cells (hw1.cells c2)).trans c2) (hL.keep fun b cs hb hc => ⟨((x1.trans hx').cells (hw.cells hc)).trans hc, hb⟩) (hP.keep fun b cs _ hc => ⟨((x1.trans hx').cells (hw.cells hc)).trans hc, trivial⟩) (fun b hb => by have := hR b hb; have := (x1.trans hx').next; omega)
  obtain ⟨k, z, t, ds⟩ := x
  obtain ⟨q, c, rfl, hE⟩ := hq
  have g4' := (x2.get _ (hw1 _ _ g4).1).trans g4
  have m4 := (hw2 _ _ g4').1
  simp -implicitDefEqProofs only [go_sem, ↓reduceIte, Nat.reduceLT, Nat.reduceEqDiff, Nat.reduceAdd, Nat.reduceMul, Nat.reduceLeDiff, Nat.reduceSub, fstoreN, r23_0_go, r23_0U, r23_1_go, r23_1U, Option.getD_some, o1, o2, o3, e2, g4', aggDatum, fleave_nil, fresults_nil, fresults_cons, fresult_cell, fresult_tmp, List.getElem?_cons_zero, List.getElem?_cons_succ]
  exact ⟨_, _, rfl, (x1.trans x2).put _ _ _ (by omega), hw2.put _ _ _ m4, _, rfl, q, c, rfl, hE.keep fun b cs hb hc => by
    simp only [push_next] at hb
    exact ⟨by rw [cells_put, if_neg (by omega)]; exact hc, by omega⟩⟩
end Go.Proofs.YtodkeaoikjjneaaGreatDoor
/- Parts at paths; what is found, in order. -/
namespace Go.Proofs.YtodkeaoikjjneaaGreatDoor
open Go Go.Eng
mutual
theorem same_comm : ∀ (a b : D), D.same a b = D.same b a
  | .mk k n t ds, .mk k' n' t' ds' => by
    rw [show D.same (.mk k n t ds) (.mk k' n' t' ds') = (decide (k = k') && decide (n = n') && (t.toList == t'.toList) && D.sames ds ds') from rfl, show D.same (.mk k' n' t' ds') (.mk k n t ds) = (decide (k' = k) && decide (n' = n) && (t'.toList == t.toList) && D.sames ds' ds) from rfl, sames_comm ds ds']
    rw [show decide (k = k') = decide (k' = k) by simp [eq_comm], show decide (n = n') = decide (n' = n) by simp [eq_comm], show (t.toList == t'.toList) = (t'.toList == t.toList) from BEq.comm]
theorem sames_comm : ∀ (a b : List D), D.sames a b = D.sames b a
  | [], [] => rfl
  | [], _ :: _ => rfl
  | _ :: _, [] => rfl
  | a :: l, b :: r => by
    rw [show D.sames (a :: l) (b :: r) = (D.same a b && D.sames l r) from rfl, show D.sames (b :: r) (a :: l) = (D.same b a && D.sames r l) from rfl, same_comm a b, sames_comm l r]
end
mutual
theorem pieces_at : ∀ (d : D) (p : List Nat) (y : List Nat × D), y ∈ d.pieces p → ∃ r, y.1 = p ++ r ∧ atP r d = some y.2
  | .mk k z t ds, p, y, h => by
    rw [D.pieces] at h
    rcases List.mem_cons.1 h with rfl | h
    · exact ⟨[], by simp, rfl⟩
    · obtain ⟨j, r, d', h1, h2, h3⟩ := piecesL_at ds p 0 y h
      refine ⟨(0 + j) :: r, h1, ?_⟩
      rw [atP]
      simp only [D.parts]
      rw [Nat.zero_add, h2]
      exact h3
theorem piecesL_at : ∀ (ds : List D) (p : List Nat) (i : Nat) (y : List Nat × D), y ∈ D.piecesL p i ds → ∃ j r d', y.1 = p ++ (i + j) :: r ∧ ds[j]? = some d' ∧ atP r d' = some y.2
  | [], p, i, y, h => by simp [D.piecesL] at h
  | d :: ds, p, i, y, h => by
    rw [D.piecesL, List.mem_append] at h
    rcases h with h | h
    · obtain ⟨r, h1, h2⟩ := pieces_at d _ y h
      exact ⟨0, r, d, by rw [h1]; simp, rfl, h2⟩
    · obtain ⟨j, r, d', h1, h2, h3⟩ := piecesL_at ds p (i + 1) y h
      exact ⟨j + 1, r, d', by rw [h1, show i + 1 + j = i + (j + 1) by omega], by simpa using h2, h3⟩
end
theorem made_at : ∀ (path : List Nat) (L : Nat) (d x : D), Made L d → atP path d = some x → ∃ L', L' ≤ L ∧ Made L' x
  | [], L, d, x, hm, h => by
    rw [atP] at h
    cases h
    exact ⟨L, Nat.le_refl _, hm⟩
  | i :: path, L, .mk k z t ds, x, hm, h => by
    rw [atP] at h
    simp only [D.parts] at h
    cases hd : ds[i]? with
    | none => rw [hd] at h; cases h
    | some d' =>
      rw [hd] at h
      obtain ⟨L', h1, h2⟩ := made_at path (L - 1) d' x (Fine.part (m := 0) hm (List.mem_of_getElem? hd)) h
      exact ⟨L', by omega, h2⟩
theorem foundIn_append (x : D) (a b : List (List Nat × D)) : foundIn x (a ++ b) = foundIn x a ++ foundIn x b := by
  unfold foundIn
  rw [List.filter_append, List.map_append]
theorem foundIn_take (x : D) (l : List (List Nat × D)) (i : Nat) (y : List Nat × D) (h : l[i]? = some y) : foundIn x (l.take (i + 1)) = foundIn x (l.take i) ++ (if D.same y.2 x = true then [y.1] else []) := by
  rw [List.take_add_one, h]
  exact foundIn_snoc x _ y
/-- What is found next. -/
theorem foundIn_get (x : D) (l : List (List Nat × D)) (i : Nat) (y : List Nat × D) (h : l[i]? = some y) (hs : D.same y.2 x = true) : (foundIn x l)[(foundIn x (l.take i)).length]? = some y.1 := by
  have h1 : l = l.take (i + 1) ++ l.drop (i + 1) := (List.take_append_drop _ _).symm
  have h2 : foundIn x l = foundIn x (l.take i) ++ ([y.1] ++ foundIn x (l.drop (i + 1))) := by
    have := foundIn_take x l i y h
    rw [if_pos hs] at this
    rw [← List.append_assoc, ← this, ← foundIn_append, ← h1]
  rw [h2, List.getElem?_append_right (Nat.le_refl _), Nat.sub_self]
  rfl
theorem foundIn_le (x : D) (l : List (List Nat × D)) : (foundIn x l).length ≤ l.length := by
  unfold foundIn
  rw [List.length_map]
  exact List.length_filter_le _ _
theorem vecs_slice {T : TypeId} {Q : Nat → Prop} {σ : FState} {s : Value} {vs : List Value} (h : Vecs T Q σ s vs) : ∃ a c, s = .slice a vs.length c ∧ (vs ≠ [] → ∃ b, a = some ⟨b, 0, none⟩ ∧ σ.cells b = some vs) := by
  rcases h with ⟨rfl, rfl⟩ | ⟨b, h, _⟩
  · exact ⟨none, 0, rfl, fun h => absurd rfl h⟩
  · obtain ⟨h1, h2⟩ := h.cells
    exact ⟨_, _, h1, fun _ => ⟨b, rfl, h2⟩⟩
end Go.Proofs.YtodkeaoikjjneaaGreatDoor
/- Data, one put in the place of another. -/
namespace Go.Proofs.YtodkeaoikjjneaaGreatDoor
open Go Go.Eng
theorem toList_inj {a b : ByteArray} (h : a.toList = b.toList) : a = b := by
  rw [ByteArray.toList_eq, ByteArray.toList_eq] at h
  obtain ⟨⟨x⟩⟩ := a
  obtain ⟨⟨y⟩⟩ := b
  simp at h
  rw [h]
mutual
theorem same_eq : ∀ (a b : D), D.same a b = true → a = b
  | .mk k n t ds, .mk k' n' t' ds', h => by
    rw [show D.same (.mk k n t ds) (.mk k' n' t' ds') = (decide (k = k') && decide (n = n') && (t.toList == t'.toList) && D.sames ds ds') from rfl] at h
    simp only [Bool.and_eq_true, decide_eq_true_eq] at h
    obtain ⟨⟨⟨rfl, rfl⟩, h3⟩, h4⟩ := h
    rw [toList_inj (eq_of_beq h3), sames_eq ds ds' h4]
theorem sames_eq : ∀ (a b : List D), D.sames a b = true → a = b
  | [], [], _ => rfl
  | [], _ :: _, h => by cases h
  | _ :: _, [], h => by cases h
  | a :: l, b :: r, h => by
    rw [show D.sames (a :: l) (b :: r) = (D.same a b && D.sames l r) from rfl, Bool.and_eq_true] at h
    rw [same_eq a b h.1, sames_eq l r h.2]
end
mutual
theorem same_self : ∀ (a : D), D.same a a = true
  | .mk k n t ds => by
    rw [show D.same (.mk k n t ds) (.mk k n t ds) = (decide (k = k) && decide (n = n) && (t.toList == t.toList) && D.sames ds ds) from rfl, sames_self ds]
    simp
theorem sames_self : ∀ (l : List D), D.sames l l = true
  | [] => rfl
  | a :: l => by
    rw [show D.sames (a :: l) (a :: l) = (D.same a a && D.sames l l) from rfl, same_self a, sames_self l]
    rfl
end
theorem same_iff (a b : D) : D.same a b = true ↔ a = b := ⟨same_eq a b, fun h => h ▸ same_self a⟩
mutual
/-- y in the place of what equals x. -/
def repl (x y : D) : D → D
  | .mk k z t ds => if D.same (.mk k z t ds) x = true then y else .mk k z t (repls x y ds)
def repls (x y : D) : List D → List D
  | [] => []
  | d :: ds => repl x y d :: repls x y ds
end
theorem repls_map (x y : D) : ∀ ds : List D, repls x y ds = ds.map (repl x y)
  | [] => rfl
  | d :: ds => by rw [repls, repls_map x y ds]; rfl
theorem repls_length (x y : D) (ds : List D) : (repls x y ds).length = ds.length := by rw [repls_map, List.length_map]
mutual
theorem repl_self (x : D) : ∀ d, repl x x d = d
  | .mk k z t ds => by
    rw [repl]
    split
    · rename_i h; exact (same_eq _ _ h).symm
    · rw [repls_self x ds]
theorem repls_self (x : D) : ∀ ds, repls x x ds = ds
  | [] => rfl
  | d :: ds => by rw [repls, repl_self x d, repls_self x ds]
end
/-- How often x is in d. -/
def occ (x d : D) : Nat := ((d.pieces []).filter fun y => D.same y.2 x).length
mutual
def occN (x : D) : D → Nat
  | .mk k z t ds => (if D.same (.mk k z t ds) x = true then 1 else 0) + occsN x ds
def occsN (x : D) : List D → Nat
  | [] => 0
  | d :: ds => occN x d + occsN x ds
end
mutual
theorem found_len (x : D) : ∀ (d : D) (p : List Nat), (foundIn x (d.pieces p)).length = occN x d
  | .mk k z t ds, p => by
    rw [D.pieces, occN]
    have := founds_len x ds p 0
    unfold foundIn at this ⊢
    rw [List.filter_cons]
    split
    · rw [List.map_cons, List.length_cons, this]; omega
    · rw [this]; omega
theorem founds_len (x : D) : ∀ (ds : List D) (p : List Nat) (i : Nat), (foundIn x (D.piecesL p i ds)).length = occsN x ds
  | [], p, i => rfl
  | d :: ds, p, i => by rw [D.piecesL, foundIn_append, List.length_append, found_len x d _, founds_len x ds p (i + 1), occsN]
end
mutual
theorem occ_small (x : D) : ∀ d : D, d.count < x.count → occN x d = 0
  | .mk k z t ds, h => by
    rw [occN, if_neg (fun e => by rw [same_eq _ _ e] at h; omega)]
    rw [D.count] at h
    rw [occs_small x ds (by omega)]
theorem occs_small (x : D) : ∀ ds : List D, D.counts ds < x.count → occsN x ds = 0
  | [], _ => rfl
  | d :: ds, h => by
    rw [D.counts] at h
    rw [occsN, occ_small x d (by omega), occs_small x ds (by omega)]
end
mutual
/-- How many pieces there are then. -/
theorem repl_count (x y : D) : ∀ d : D, (repl x y d).count + occN x d * x.count = d.count + occN x d * y.count
  | .mk k z t ds => by
    rw [repl, occN]
    split
    · rename_i h
      have hx := same_eq _ _ h
      have hc : D.counts ds < x.count := by rw [← hx, D.count]; omega
      rw [occs_small x ds hc, ← hx]
      omega
    · rw [D.count, D.count, Nat.zero_add]
      have := repls_count x y ds
      omega
theorem repls_count (x y : D) : ∀ ds : List D, D.counts (repls x y ds) + occsN x ds * x.count = D.counts ds + occsN x ds * y.count
  | [] => by simp [repls, D.counts, occsN]
  | d :: ds => by
    rw [repls, D.counts, D.counts, occsN, Nat.add_mul, Nat.add_mul]
    have := repl_count x y d
    have := repls_count x y ds
    omega
end
mutual
theorem repl_none (x y : D) : ∀ d : D, repl x y d = d ∨ 0 < occN y (repl x y d)
  | .mk k z t ds => by
    rw [repl]
    split
    · right
      cases y with
      | mk k' z' t' ds' => rw [occN, if_pos (same_self _)]; omega
    · rcases repls_none x y ds with h | h
      · left; rw [h]
      · right; rw [occN]; omega
theorem repls_none (x y : D) : ∀ ds : List D, repls x y ds = ds ∨ 0 < occsN y (repls x y ds)
  | [] => .inl rfl
  | d :: ds => by
    rw [repls, occsN]
    rcases repl_none x y d with h | h
    · rcases repls_none x y ds with h' | h'
      · left; rw [h, h']
      · right; omega
    · right; omega
end
mutual
/-- x is gone. -/
theorem repl_gone (x y : D) (h1 : occN x y = 0) (h2 : occN y x = 0) : ∀ d : D, occN x (repl x y d) = 0
  | .mk k z t ds => by
    rw [repl]
    split
    · exact h1
    · rename_i hne
      rw [occN, repls_gone x y h1 h2 ds, Nat.add_zero]
      split
      · rename_i h
        have hx := same_eq _ _ h
        rcases repls_none x y ds with h' | h'
        · rw [h'] at hx
          exact absurd ((same_iff _ _).2 hx) hne
        · rw [← hx, occN] at h2
          omega
      · rfl
theorem repls_gone (x y : D) (h1 : occN x y = 0) (h2 : occN y x = 0) : ∀ ds : List D, occsN x (repls x y ds) = 0
  | [] => rfl
  | d :: ds => by rw [repls, occsN, repl_gone x y h1 h2 d, repls_gone x y h1 h2 ds]
end
theorem most_mono : ∀ {L L' : Nat}, L ≤ L' → most L ≤ most L'
  | 0, L', _ => most_pos L'
  | L + 1, 0, h => by omega
  | L + 1, L' + 1, h => by rw [most, most]; have := most_mono (L := L) (L' := L') (by omega); omega
theorem fine_mono {m L L' : Nat} (h : L ≤ L') {d : D} (hF : Fine m L d) : Fine m L' d := fun path => ⟨Nat.le_trans (hF path).1 (most_mono h), fun x hx => by
  have := (hF path).2 x hx
  exact ⟨by omega, this.2⟩⟩
theorem fine_repl (n : Nat) (x : D) {L' : Nat} {y : D} (hy : Fine (n + 20) L' y) : ∀ {L : Nat} {d : D}, Made L d → Fine (n + 20) (L + L') (repl x y d) := by
  intro L d h
  have hys : ∀ L, Fine (n + 20) (L + L') y := fun L => fine_mono (by omega) hy
  induction h with
  | leaf L d h =>
    obtain ⟨k, z, t, l⟩ := d
    obtain ⟨k', rfl, hg, rfl⟩ := leaf_good n h
    rw [repl]
    split
    · exact hys L
    · exact fine_leaf fun k z t ds e => by cases e; exact ⟨k', rfl, hg⟩
  | pair L a b ha hb iha ihb =>
    rw [repl]
    split
    · exact hys (L + 1)
    · rw [show L + 1 + L' = L + L' + 1 by omega]
      refine fine_mk (by simp [repls]) (fun k z t ds e => ?_) fun d hd => ?_
      · cases e
        exact ⟨5, rfl, by rw [repls_length]; exact .pair⟩
      · simp only [repls, List.mem_cons, List.not_mem_nil, or_false] at hd
        rcases hd with rfl | rfl
        · exact iha
        · exact ihb
  | vec L l hl h ih =>
    rw [repl]
    split
    · exact hys (L + 1)
    · rw [show L + 1 + L' = L + L' + 1 by omega]
      refine fine_mk (by rw [repls_length]; exact hl) (fun k z t ds e => ?_) fun d hd => ?_
      · cases e
        exact ⟨6, rfl, .vec _⟩
      · rw [repls_map, List.mem_map] at hd
        obtain ⟨d', hd', rfl⟩ := hd
        exact ih d' hd'
end Go.Proofs.YtodkeaoikjjneaaGreatDoor
/- Functions of the program, written out in the reading's words (made by program; the kernel holds each against the code). -/
namespace Go.Proofs.YtodkeaoikjjneaaGreatDoor
open Go Go.Eng
variable (E : Env) (ro : Option Nat) (last : List Nat → RunF) (cl : List Nat) (a : FAct) (u : Option FrameMode) (σ : FState)
/-! (caracole/datum.builder).build -/
noncomputable def r113_0U (_ : Unit) : List COp := [⟨fun a σ => fbox 145 (a.get 0) σ, (some 2), fun _ => some true⟩,
  ⟨fun a σ => fbox 28 (a.get 1) σ, (some 3), fun _ => some true⟩,
  ⟨fun a σ => newCells [(.int .i64 0), (.int .i64 0), (.string ⟨#[]⟩), (.slice none 0 0)] 28 none σ, (some 4), fun _ => some true⟩]
noncomputable def r113_0 : List COp := r113_0U ()
noncomputable def r113_1U (_ : Unit) : List DOp := [⟨fun a σ => ffield 3 (a.get 3) σ, (some 11), fun _ => some true, (some 0), false⟩,
  ⟨fun a σ => fload none (a.get 11) σ, (some 12), fun _ => some true, (some 0), false⟩,
  ⟨fun a σ => ffield 0 (a.get 2) σ, (some 13), fun _ => some true, (some 0), false⟩,
  ⟨fun a σ => fload none (a.get 13) σ, (some 14), fun _ => some true, (some 0), false⟩,
  ⟨fun a σ => .enter 106 [(a.get 12), (a.get 14)] σ, (some 15), fun _ => some true, none, false⟩,
  ⟨fun a σ => ffield 0 (a.get 3) σ, (some 5), fun _ => some true, (some 0), false⟩,
  ⟨fun a σ => fload none (a.get 5) σ, (some 6), fun _ => some true, (some 0), false⟩,
  ⟨fun a σ => ffield 1 (a.get 3) σ, (some 7), fun _ => some true, (some 0), false⟩,
  ⟨fun a σ => fload none (a.get 7) σ, (some 8), fun _ => some true, (some 0), false⟩,
  ⟨fun a σ => ffield 2 (a.get 3) σ, (some 9), fun _ => some true, (some 0), false⟩,
  ⟨fun a σ => fload none (a.get 9) σ, (some 10), fun _ => some true, (some 0), false⟩,
  ⟨fun a σ => fbuild (fun i => nth [(0, 1), (1, 1), (2, 1), (3, 1)] i) [(.int .i64 0), (.int .i64 0), (.string ⟨#[]⟩), (.slice none 0 0)] [(0, (a.get 6)), (1, (a.get 8)), (2, (a.get 10)), (3, (a.get 15))] σ, (some 16), fun _ => some true, (some 1), false⟩,
  ⟨fun a σ => fstore 4 (a.get 4) (a.get 16) σ, none, fun _ => some true, none, true⟩]
noncomputable def r113_1 : List DOp := r113_1U ()
noncomputable def run113 (E : Env) (ro : Option Nat) (fn : FuncId) : RunF := (seqR (fops E ro r113_0) (seqR (drawR E ro r113_1) retR))
theorem r113_0_go : fops E ro r113_0 a u σ = fops E ro (r113_0U ()) a u σ := rfl
theorem r113_1_go : fdraw E ro last r113_1 cl a u σ = fdraw E ro last (r113_1U ()) cl a u σ := rfl
theorem code113 (E : Env) (ro : Option Nat) (fn : FuncId) : code Tryz.prog nls (Tryz.f113.body.getD .skip) E ro fn = run113 E ro fn := by kernel_rfl
theorem enter113 (E : Env) (args : List Value) (u : Option FrameMode) (σ : FState) (hn : args.length ≤ (4 : Nat)) : fcall Tryz.prog nls E 113 args u σ = leaveR Tryz.prog E [.cell 4 28] (run113 E none 113 ⟨padTo undef 4 args, fun _ => undef, 4, 17, []⟩ u σ) := by
  rw [fcall_of (body := Tryz.f113.body.getD .skip) Tryz.func113 rfl E args u σ 4 17 (by kernel_rfl) rfl ⟨hn, by decide⟩, code113]
  rfl
/-! caracole/caracoleref01.Same -/
noncomputable def r84_0U (_ : Unit) : List COp := [⟨fun a σ => fbox 28 (a.get 0) σ, (some 2), fun _ => some true⟩,
  ⟨fun a σ => fbox 28 (a.get 1) σ, (some 3), fun _ => some true⟩,
  ⟨fun a σ => .val (.bool false) σ, (some 4), fun _ => some true⟩]
noncomputable def r84_0 : List COp := r84_0U ()
noncomputable def r84_1U (_ : Unit) : List COp := [⟨fun a σ => fload (some 4) (a.get 2) σ, (some 5), fun _ => some true⟩,
  ⟨fun a σ => fload (some 4) (a.get 3) σ, (some 6), fun _ => some true⟩,
  ⟨fun a σ => .enter 20 [(a.get 5), (a.get 6)] σ, (some 7), fun _ => some true⟩,
  ⟨fun a σ => .val (a.get 7) σ, (some 4), fun _ => some true⟩]
noncomputable def r84_1 : List COp := r84_1U ()
noncomputable def run84 (E : Env) (ro : Option Nat) (fn : FuncId) : RunF := (seqR (fops E ro r84_0) (seqR (fops E ro r84_1) retR))
theorem r84_0_go : fops E ro r84_0 a u σ = fops E ro (r84_0U ()) a u σ := rfl
theorem r84_1_go : fops E ro r84_1 a u σ = fops E ro (r84_1U ()) a u σ := rfl
theorem code84 (E : Env) (ro : Option Nat) (fn : FuncId) : code Tryz.prog nls (Tryz.f84.body.getD .skip) E ro fn = run84 E ro fn := by kernel_rfl
theorem enter84 (E : Env) (args : List Value) (u : Option FrameMode) (σ : FState) (hn : args.length ≤ (4 : Nat)) : fcall Tryz.prog nls E 84 args u σ = leaveR Tryz.prog E [.tmp 4] (run84 E none 84 ⟨padTo undef 4 args, fun _ => undef, 4, 8, []⟩ u σ) := by
  rw [fcall_of (body := Tryz.f84.body.getD .skip) Tryz.func84 rfl E args u σ 4 8 (by kernel_rfl) rfl ⟨hn, by decide⟩, code84]
  rfl
/-! caracole/caracoleref01.Count -/
noncomputable def r32_0U (_ : Unit) : List COp := [⟨fun a σ => fbox 28 (a.get 0) σ, (some 1), fun _ => some true⟩,
  ⟨fun a σ => .val (.int .i64 0) σ, (some 2), fun _ => some true⟩,
  ⟨fun a σ => .val (.int .i64 0) σ, (some 3), fun _ => some true⟩]
noncomputable def r32_0 : List COp := r32_0U ()
noncomputable def r32_1U (_ : Unit) : List COp := [⟨fun a σ => .val (.int .i64 1) σ, (some 4), fun _ => some true⟩,
  ⟨fun a σ => .val (.int .i64 0) σ, (some 5), fun _ => some true⟩]
noncomputable def r32_1 : List COp := r32_1U ()
noncomputable def r32_2U (_ : Unit) : List COp := [⟨fun a σ => .val (.int .i64 0) σ, (some 6), fun _ => some true⟩]
noncomputable def r32_2 : List COp := r32_2U ()
noncomputable def r32_3U (_ : Unit) : List COp := [⟨fun a σ => .val (a.get 6) σ, (some 9), fun _ => some true⟩,
  ⟨fun a σ => ffield 3 (a.get 1) σ, (some 10), fun _ => some true⟩,
  ⟨fun a σ => fload none (a.get 10) σ, (some 11), fun _ => some true⟩,
  ⟨fun a σ => flenL (a.get 11) σ, (some 12), fun _ => some true⟩,
  ⟨fun a σ => i_lss Tryz.prog 3 (.tmp 9) (.tmp 12) (a.get 9) (a.get 12) σ, (some 13), fun _ => some true⟩]
noncomputable def r32_3 : List COp := r32_3U ()
noncomputable def r32_5U (_ : Unit) : List COp := [⟨fun a σ => ffield 3 (a.get 1) σ, (some 17), fun _ => some true⟩,
  ⟨fun a σ => fload none (a.get 17) σ, (some 18), fun _ => some true⟩,
  ⟨fun a σ => .val (a.get 6) σ, (some 19), fun _ => some true⟩,
  ⟨fun a σ => findex (none, 4) (a.get 18) (a.get 19) σ, (some 20), fun _ => some true⟩,
  ⟨fun a σ => fload (some 4) (a.get 20) σ, (some 21), fun _ => some true⟩,
  ⟨fun a σ => .enter 32 [(a.get 21)] σ, (some 22), fun _ => some true⟩,
  ⟨fun a σ => .val (a.get 22) σ, (some 16), fun _ => some true⟩,
  ⟨fun a σ => fextract 0 (a.get 16) σ, (some 23), fun _ => some true⟩,
  ⟨fun a σ => fextract 1 (a.get 16) σ, (some 24), fun _ => some true⟩,
  ⟨fun a σ => .val (a.get 23) σ, (some 7), fun _ => some true⟩,
  ⟨fun a σ => .val (a.get 24) σ, (some 8), fun _ => some true⟩]
noncomputable def r32_5 : List COp := r32_5U ()
noncomputable def r32_6U (_ : Unit) : List COp := [⟨fun a σ => .val (a.get 4) σ, (some 25), fun _ => some true⟩,
  ⟨fun a σ => .val (a.get 7) σ, (some 26), fun _ => some true⟩,
  ⟨fun a σ => i_add Tryz.prog 3 (.tmp 25) (.tmp 26) (a.get 25) (a.get 26) σ, (some 27), fun _ => some true⟩,
  ⟨fun a σ => .val (a.get 5) σ, (some 28), fun _ => some true⟩,
  ⟨fun a σ => .val (a.get 8) σ, (some 29), fun _ => some true⟩,
  ⟨fun a σ => fun2 Tryz.prog Builtin.max2 (a.get 28) (a.get 29) σ, (some 30), fun _ => some true⟩,
  ⟨fun a σ => .val (a.get 27) σ, (some 4), fun _ => some true⟩,
  ⟨fun a σ => .val (a.get 30) σ, (some 5), fun _ => some true⟩]
noncomputable def r32_6 : List COp := r32_6U ()
noncomputable def r32_4U (_ : Unit) : List COp := [⟨fun a σ => .val (a.get 6) σ, (some 14), fun _ => some true⟩,
  ⟨fun a σ => i_add Tryz.prog 3 (.tmp 14) (.const (.int .i64 1)) (a.get 14) (.int .i64 1) σ, (some 15), fun _ => some true⟩,
  ⟨fun a σ => .val (a.get 15) σ, (some 6), fun _ => some true⟩]
noncomputable def r32_4 : List COp := r32_4U ()
noncomputable def l32_0 (E : Env) (ro : Option Nat) (fn : FuncId) : RunF := (seqR (seqR (fops E ro r32_3) (condR (fun a => (a.get 13)) skipR (exitR 0))) (seqR (blockR 1 (seqR (fops E ro r32_5) (fops E ro r32_6))) (fops E ro r32_4)))
noncomputable def r32_7U (_ : Unit) : List COp := [⟨fun a σ => .val (a.get 4) σ, (some 31), fun _ => some true⟩,
  ⟨fun a σ => .val (a.get 5) σ, (some 32), fun _ => some true⟩,
  ⟨fun a σ => i_add Tryz.prog 3 (.tmp 32) (.const (.int .i64 1)) (a.get 32) (.int .i64 1) σ, (some 33), fun _ => some true⟩,
  ⟨fun a σ => .val (a.get 31) σ, (some 2), fun _ => some true⟩,
  ⟨fun a σ => .val (a.get 33) σ, (some 3), fun _ => some true⟩]
noncomputable def r32_7 : List COp := r32_7U ()
noncomputable def run32 (E : Env) (ro : Option Nat) (fn : FuncId) : RunF := (seqR (fops E ro r32_0) (seqR (fops E ro r32_1) (seqR (seqR (fops E ro r32_2) (blockR 0 (loopR (keepOf nls fn) (l32_0 E ro fn)))) (seqR (fops E ro r32_7) retR))))
theorem r32_0_go : fops E ro r32_0 a u σ = fops E ro (r32_0U ()) a u σ := rfl
theorem r32_1_go : fops E ro r32_1 a u σ = fops E ro (r32_1U ()) a u σ := rfl
theorem r32_2_go : fops E ro r32_2 a u σ = fops E ro (r32_2U ()) a u σ := rfl
theorem r32_3_go : fops E ro r32_3 a u σ = fops E ro (r32_3U ()) a u σ := rfl
theorem r32_5_go : fops E ro r32_5 a u σ = fops E ro (r32_5U ()) a u σ := rfl
theorem r32_6_go : fops E ro r32_6 a u σ = fops E ro (r32_6U ()) a u σ := rfl
theorem r32_4_go : fops E ro r32_4 a u σ = fops E ro (r32_4U ()) a u σ := rfl
theorem r32_7_go : fops E ro r32_7 a u σ = fops E ro (r32_7U ()) a u σ := rfl
theorem code32 (E : Env) (ro : Option Nat) (fn : FuncId) : code Tryz.prog nls (Tryz.f32.body.getD .skip) E ro fn = run32 E ro fn := by kernel_rfl
theorem enter32 (E : Env) (args : List Value) (u : Option FrameMode) (σ : FState) (hn : args.length ≤ (9 : Nat)) : fcall Tryz.prog nls E 32 args u σ = leaveR Tryz.prog E [.tmp 2, .tmp 3] (run32 E none 32 ⟨padTo undef 9 args, fun _ => undef, 9, 34, []⟩ u σ) := by
  rw [fcall_of (body := Tryz.f32.body.getD .skip) Tryz.func32 rfl E args u σ 9 34 (by kernel_rfl) rfl ⟨hn, by decide⟩, code32]
  rfl
/-! caracole/caracoleref01.Found -/
noncomputable def r33_0U (_ : Unit) : List COp := [⟨fun a σ => fbox 28 (a.get 0) σ, (some 2), fun _ => some true⟩,
  ⟨fun a σ => fbox 28 (a.get 1) σ, (some 3), fun _ => some true⟩,
  ⟨fun a σ => .val (.slice none 0 0) σ, (some 4), fun _ => some true⟩]
noncomputable def r33_0 : List COp := r33_0U ()
noncomputable def r33_1U (_ : Unit) : List COp := [⟨fun a σ => .val (.slice none 0 0) σ, (some 5), fun _ => some true⟩]
noncomputable def r33_1 : List COp := r33_1U ()
noncomputable def r33_2U (_ : Unit) : List COp := [⟨fun a σ => fload (some 4) (a.get 2) σ, (some 10), fun _ => some true⟩,
  ⟨fun a σ => .enter 22 [(a.get 10), (.slice none 0 0)] σ, (some 11), fun _ => some true⟩,
  ⟨fun a σ => .val (a.get 11) σ, (some 6), fun _ => some true⟩]
noncomputable def r33_2 : List COp := r33_2U ()
noncomputable def r33_3U (_ : Unit) : List COp := [⟨fun a σ => .val (.int .i64 0) σ, (some 7), fun _ => some true⟩]
noncomputable def r33_3 : List COp := r33_3U ()
noncomputable def r33_4U (_ : Unit) : List COp := [⟨fun a σ => .val (a.get 7) σ, (some 12), fun _ => some true⟩,
  ⟨fun a σ => .val (a.get 6) σ, (some 13), fun _ => some true⟩,
  ⟨fun a σ => flenL (a.get 13) σ, (some 14), fun _ => some true⟩,
  ⟨fun a σ => i_lss Tryz.prog 3 (.tmp 12) (.tmp 14) (a.get 12) (a.get 14) σ, (some 15), fun _ => some true⟩]
noncomputable def r33_4 : List COp := r33_4U ()
noncomputable def r33_6U (_ : Unit) : List DOp := [⟨fun a σ => fload (some 4) (a.get 2) σ, (some 19), fun _ => some true, (some 0), false⟩,
  ⟨fun a σ => .val (a.get 6) σ, (some 20), fun _ => some true, (some 0), false⟩,
  ⟨fun a σ => .val (a.get 7) σ, (some 21), fun _ => some true, (some 0), false⟩,
  ⟨fun a σ => findex (none, 1) (a.get 20) (a.get 21) σ, (some 22), fun _ => some true, (some 0), false⟩,
  ⟨fun a σ => fload none (a.get 22) σ, (some 23), fun _ => some true, (some 0), false⟩,
  ⟨fun a σ => .enter 27 [(a.get 19), (a.get 23)] σ, (some 24), fun _ => some true, none, false⟩,
  ⟨fun a σ => .val (a.get 24) σ, (some 18), fun _ => some true, (some 1), false⟩,
  ⟨fun a σ => fextract 0 (a.get 18) σ, (some 25), fun _ => some true, (some 1), false⟩,
  ⟨fun a σ => newCells [(.int .i64 0), (.int .i64 0), (.string ⟨#[]⟩), (.slice none 0 0)] 28 none σ, (some 8), fun _ => some true, (some 0), false⟩,
  ⟨fun a σ => fstore 4 (a.get 8) (a.get 25) σ, none, fun _ => some true, none, false⟩,
  ⟨fun a σ => fextract 1 (a.get 18) σ, (some 26), fun _ => some true, (some 1), false⟩,
  ⟨fun a σ => .val (a.get 26) σ, (some 9), fun _ => some true, (some 2), false⟩]
noncomputable def r33_6 : List DOp := r33_6U ()
noncomputable def r33_7U (_ : Unit) : List COp := [⟨fun a σ => fload (some 4) (a.get 3) σ, (some 27), fun _ => some true⟩,
  ⟨fun a σ => fload (some 4) (a.get 8) σ, (some 28), fun _ => some true⟩,
  ⟨fun a σ => .enter 84 [(a.get 27), (a.get 28)] σ, (some 29), fun _ => some true⟩]
noncomputable def r33_7 : List COp := r33_7U ()
noncomputable def r33_8U (_ : Unit) : List COp := [⟨fun a σ => .val (a.get 5) σ, (some 30), fun _ => some true⟩,
  ⟨fun a σ => .val (a.get 6) σ, (some 31), fun _ => some true⟩,
  ⟨fun a σ => .val (a.get 7) σ, (some 32), fun _ => some true⟩,
  ⟨fun a σ => findex (none, 1) (a.get 31) (a.get 32) σ, (some 33), fun _ => some true⟩,
  ⟨fun a σ => fload none (a.get 33) σ, (some 34), fun _ => some true⟩,
  ⟨fun a σ => fbuildSlice 22 1 1 [(.slice none 0 0)] [(0, (a.get 34))] σ, (some 35), fun _ => some true⟩,
  ⟨fun a σ => fappend 22 1 24 (a.get 30) (a.get 35) σ, (some 36), fun _ => some true⟩,
  ⟨fun a σ => .val (a.get 36) σ, (some 5), fun _ => some true⟩]
noncomputable def r33_8 : List COp := r33_8U ()
noncomputable def r33_5U (_ : Unit) : List COp := [⟨fun a σ => .val (a.get 7) σ, (some 16), fun _ => some true⟩,
  ⟨fun a σ => i_add Tryz.prog 3 (.tmp 16) (.const (.int .i64 1)) (a.get 16) (.int .i64 1) σ, (some 17), fun _ => some true⟩,
  ⟨fun a σ => .val (a.get 17) σ, (some 7), fun _ => some true⟩]
noncomputable def r33_5 : List COp := r33_5U ()
noncomputable def l33_0 (E : Env) (ro : Option Nat) (fn : FuncId) : RunF := (seqR (seqR (fops E ro r33_4) (condR (fun a => (a.get 15)) skipR (exitR 0))) (seqR (blockR 1 (seqR (drawR E ro r33_6) (seqR (fops E ro r33_7) (condR (fun a => (a.get 29)) (fops E ro r33_8) skipR)))) (fops E ro r33_5)))
noncomputable def r33_9U (_ : Unit) : List COp := [⟨fun a σ => .val (a.get 5) σ, (some 37), fun _ => some true⟩,
  ⟨fun a σ => .val (a.get 37) σ, (some 4), fun _ => some true⟩]
noncomputable def r33_9 : List COp := r33_9U ()
noncomputable def run33 (E : Env) (ro : Option Nat) (fn : FuncId) : RunF := (seqR (fops E ro r33_0) (seqR (fops E ro r33_1) (seqR (fops E ro r33_2) (seqR (seqR (fops E ro r33_3) (blockR 0 (loopR (keepOf nls fn) (l33_0 E ro fn)))) (seqR (fops E ro r33_9) retR)))))
theorem r33_0_go : fops E ro r33_0 a u σ = fops E ro (r33_0U ()) a u σ := rfl
theorem r33_1_go : fops E ro r33_1 a u σ = fops E ro (r33_1U ()) a u σ := rfl
theorem r33_2_go : fops E ro r33_2 a u σ = fops E ro (r33_2U ()) a u σ := rfl
theorem r33_3_go : fops E ro r33_3 a u σ = fops E ro (r33_3U ()) a u σ := rfl
theorem r33_4_go : fops E ro r33_4 a u σ = fops E ro (r33_4U ()) a u σ := rfl
theorem r33_6_go : fdraw E ro last r33_6 cl a u σ = fdraw E ro last (r33_6U ()) cl a u σ := rfl
theorem r33_7_go : fops E ro r33_7 a u σ = fops E ro (r33_7U ()) a u σ := rfl
theorem r33_8_go : fops E ro r33_8 a u σ = fops E ro (r33_8U ()) a u σ := rfl
theorem r33_5_go : fops E ro r33_5 a u σ = fops E ro (r33_5U ()) a u σ := rfl
theorem r33_9_go : fops E ro r33_9 a u σ = fops E ro (r33_9U ()) a u σ := rfl
theorem code33 (E : Env) (ro : Option Nat) (fn : FuncId) : code Tryz.prog nls (Tryz.f33.body.getD .skip) E ro fn = run33 E ro fn := by kernel_rfl
theorem enter33 (E : Env) (args : List Value) (u : Option FrameMode) (σ : FState) (hn : args.length ≤ (10 : Nat)) : fcall Tryz.prog nls E 33 args u σ = leaveR Tryz.prog E [.tmp 4] (run33 E none 33 ⟨padTo undef 10 args, fun _ => undef, 10, 38, []⟩ u σ) := by
  rw [fcall_of (body := Tryz.f33.body.getD .skip) Tryz.func33 rfl E args u σ 10 38 (by kernel_rfl) rfl ⟨hn, by decide⟩, code33]
  rfl
/-! (caracole/datum.exchange).in -/
noncomputable def r80_0U (_ : Unit) : List COp := [⟨fun a σ => fbox 99 (a.get 0) σ, (some 2), fun _ => some true⟩,
  ⟨fun a σ => fbox 28 (a.get 1) σ, (some 3), fun _ => some true⟩,
  ⟨fun a σ => newCells [(.int .i64 0), (.int .i64 0), (.string ⟨#[]⟩), (.slice none 0 0)] 28 none σ, (some 4), fun _ => some true⟩]
noncomputable def r80_0 : List COp := r80_0U ()
noncomputable def r80_1U (_ : Unit) : List COp := [⟨fun a σ => fload (some 4) (a.get 3) σ, (some 5), fun _ => some true⟩,
  ⟨fun a σ => ffield 0 (a.get 2) σ, (some 6), fun _ => some true⟩,
  ⟨fun a σ => fload (some 4) (a.get 6) σ, (some 7), fun _ => some true⟩,
  ⟨fun a σ => .enter 111 [(a.get 5), (a.get 7)] σ, (some 8), fun _ => some true⟩]
noncomputable def r80_1 : List COp := r80_1U ()
noncomputable def r80_2U (_ : Unit) : List COp := [⟨fun a σ => ffield 4 (a.get 2) σ, (some 9), fun _ => some true⟩,
  ⟨fun a σ => fload (some 4) (a.get 9) σ, (some 10), fun _ => some true⟩,
  ⟨fun a σ => .enter 69 [(a.get 10)] σ, (some 11), fun _ => some true⟩,
  ⟨fun a σ => fstore 4 (a.get 4) (a.get 11) σ, none, fun _ => some true⟩]
noncomputable def r80_2 : List COp := r80_2U ()
noncomputable def r80_3U (_ : Unit) : List COp := [⟨fun a σ => fload (some 8) (a.get 2) σ, (some 12), fun _ => some true⟩,
  ⟨fun a σ => .val (.func (.func 80) #[(a.get 12)] #[]) σ, (some 13), fun _ => some true⟩,
  ⟨fun a σ => fbuild (fun i => nth [(0, 1)] i) [.nilFunc] [(0, (a.get 13))] σ, (some 14), fun _ => some true⟩,
  ⟨fun a σ => fload (some 4) (a.get 3) σ, (some 15), fun _ => some true⟩,
  ⟨fun a σ => .enter 113 [(a.get 14), (a.get 15)] σ, (some 16), fun _ => some true⟩,
  ⟨fun a σ => fstore 4 (a.get 4) (a.get 16) σ, none, fun _ => some true⟩]
noncomputable def r80_3 : List COp := r80_3U ()
noncomputable def run80 (E : Env) (ro : Option Nat) (fn : FuncId) : RunF := (seqR (fops E ro r80_0) (seqR (seqR (fops E ro r80_1) (condR (fun a => (a.get 8)) (seqR (fops E ro r80_2) retR) skipR)) (seqR (fops E ro r80_3) retR)))
theorem r80_0_go : fops E ro r80_0 a u σ = fops E ro (r80_0U ()) a u σ := rfl
theorem r80_1_go : fops E ro r80_1 a u σ = fops E ro (r80_1U ()) a u σ := rfl
theorem r80_2_go : fops E ro r80_2 a u σ = fops E ro (r80_2U ()) a u σ := rfl
theorem r80_3_go : fops E ro r80_3 a u σ = fops E ro (r80_3U ()) a u σ := rfl
theorem code80 (E : Env) (ro : Option Nat) (fn : FuncId) : code Tryz.prog nls (Tryz.f80.body.getD .skip) E ro fn = run80 E ro fn := by kernel_rfl
theorem enter80 (E : Env) (args : List Value) (u : Option FrameMode) (σ : FState) (hn : args.length ≤ (4 : Nat)) : fcall Tryz.prog nls E 80 args u σ = leaveR Tryz.prog E [.cell 4 28] (run80 E none 80 ⟨padTo undef 4 args, fun _ => undef, 4, 17, []⟩ u σ) := by
  rw [fcall_of (body := Tryz.f80.body.getD .skip) Tryz.func80 rfl E args u σ 4 17 (by kernel_rfl) rfl ⟨hn, by decide⟩, code80]
  rfl
/-! caracole/datum.Replace -/
noncomputable def r30_0U (_ : Unit) : List COp := [⟨fun a σ => fbox 28 (a.get 0) σ, (some 3), fun _ => some true⟩,
  ⟨fun a σ => fbox 28 (a.get 1) σ, (some 4), fun _ => some true⟩,
  ⟨fun a σ => fbox 28 (a.get 2) σ, (some 5), fun _ => some true⟩,
  ⟨fun a σ => newCells [(.int .i64 0), (.int .i64 0), (.string ⟨#[]⟩), (.slice none 0 0)] 28 none σ, (some 6), fun _ => some true⟩,
  ⟨fun a σ => .val (.int .i64 0) σ, (some 7), fun _ => some true⟩]
noncomputable def r30_0 : List COp := r30_0U ()
noncomputable def r30_1U (_ : Unit) : List COp := [⟨fun a σ => .val (.func (.func 79) #[] #[(a.get 3), (a.get 4), (a.get 5)]) σ, (some 8), fun _ => some true⟩,
  ⟨fun a σ => .enter 58 [(a.get 8)] σ, (some 9), fun _ => some true⟩,
  ⟨fun a σ => fextract 0 (a.get 9) σ, (some 10), fun _ => some true⟩,
  ⟨fun a σ => fextract 1 (a.get 9) σ, (some 11), fun _ => some true⟩,
  ⟨fun a σ => fstore 4 (a.get 6) (a.get 10) σ, none, fun _ => some true⟩,
  ⟨fun a σ => .val (a.get 11) σ, (some 7), fun _ => some true⟩]
noncomputable def r30_1 : List COp := r30_1U ()
noncomputable def run30 (E : Env) (ro : Option Nat) (fn : FuncId) : RunF := (seqR (fops E ro r30_0) (seqR (fops E ro r30_1) retR))
theorem r30_0_go : fops E ro r30_0 a u σ = fops E ro (r30_0U ()) a u σ := rfl
theorem r30_1_go : fops E ro r30_1 a u σ = fops E ro (r30_1U ()) a u σ := rfl
theorem code30 (E : Env) (ro : Option Nat) (fn : FuncId) : code Tryz.prog nls (Tryz.f30.body.getD .skip) E ro fn = run30 E ro fn := by kernel_rfl
theorem enter30 (E : Env) (args : List Value) (u : Option FrameMode) (σ : FState) (hn : args.length ≤ (6 : Nat)) : fcall Tryz.prog nls E 30 args u σ = leaveR Tryz.prog E [.cell 6 28, .tmp 7] (run30 E none 30 ⟨padTo undef 6 args, fun _ => undef, 6, 12, []⟩ u σ) := by
  rw [fcall_of (body := Tryz.f30.body.getD .skip) Tryz.func30 rfl E args u σ 6 12 (by kernel_rfl) rfl ⟨hn, by decide⟩, code30]
  rfl
/-! caracole/datum.Replace$1 -/
noncomputable def r79_0U (_ : Unit) : List COp := [⟨fun a σ => newCells [(.int .i64 0), (.int .i64 0), (.string ⟨#[]⟩), (.slice none 0 0)] 28 none σ, (some 3), fun _ => some true⟩]
noncomputable def r79_0 : List COp := r79_0U ()
noncomputable def r79_1U (_ : Unit) : List COp := [⟨fun a σ => fload (some 4) (a.get 0) σ, (some 7), fun _ => some true⟩,
  ⟨fun a σ => .enter 60 [(a.get 7)] σ, (some 8), fun _ => some true⟩,
  ⟨fun a σ => .val (a.get 8) σ, (some 4), fun _ => some true⟩]
noncomputable def r79_1 : List COp := r79_1U ()
noncomputable def r79_2U (_ : Unit) : List COp := [⟨fun a σ => fload (some 4) (a.get 1) σ, (some 9), fun _ => some true⟩,
  ⟨fun a σ => .enter 60 [(a.get 9)] σ, (some 10), fun _ => some true⟩,
  ⟨fun a σ => .val (a.get 10) σ, (some 5), fun _ => some true⟩]
noncomputable def r79_2 : List COp := r79_2U ()
noncomputable def r79_3U (_ : Unit) : List COp := [⟨fun a σ => fload (some 4) (a.get 2) σ, (some 11), fun _ => some true⟩,
  ⟨fun a σ => .enter 60 [(a.get 11)] σ, (some 12), fun _ => some true⟩,
  ⟨fun a σ => .val (a.get 12) σ, (some 6), fun _ => some true⟩]
noncomputable def r79_3 : List COp := r79_3U ()
noncomputable def r79_4U (_ : Unit) : List COp := [⟨fun a σ => .val (a.get 4) σ, (some 13), fun _ => some true⟩,
  ⟨fun a σ => fload (some 4) (a.get 0) σ, (some 14), fun _ => some true⟩,
  ⟨fun a σ => fload (some 4) (a.get 1) σ, (some 15), fun _ => some true⟩,
  ⟨fun a σ => .enter 78 [(a.get 14), (a.get 15)] σ, (some 16), fun _ => some true⟩,
  ⟨fun a σ => flenL (a.get 16) σ, (some 17), fun _ => some true⟩,
  ⟨fun a σ => .val (a.get 6) σ, (some 18), fun _ => some true⟩,
  ⟨fun a σ => .val (a.get 5) σ, (some 19), fun _ => some true⟩,
  ⟨fun a σ => i_sub Tryz.prog 3 (.tmp 18) (.tmp 19) (a.get 18) (a.get 19) σ, (some 20), fun _ => some true⟩,
  ⟨fun a σ => i_mul Tryz.prog 3 (.tmp 17) (.tmp 20) (a.get 17) (a.get 20) σ, (some 21), fun _ => some true⟩,
  ⟨fun a σ => i_add Tryz.prog 3 (.tmp 13) (.tmp 21) (a.get 13) (a.get 21) σ, (some 22), fun _ => some true⟩,
  ⟨fun a σ => .enter 61 [(a.get 22)] σ, (some 23), fun _ => some true⟩]
noncomputable def r79_4 : List COp := r79_4U ()
noncomputable def r79_5U (_ : Unit) : List COp := [⟨fun a σ => fload (some 4) (a.get 1) σ, (some 24), fun _ => some true⟩,
  ⟨fun a σ => fload (some 4) (a.get 2) σ, (some 25), fun _ => some true⟩,
  ⟨fun a σ => fbuild (fun i => nth [(0, 4), (4, 4)] i) [(.int .i64 0), (.int .i64 0), (.string ⟨#[]⟩), (.slice none 0 0), (.int .i64 0), (.int .i64 0), (.string ⟨#[]⟩), (.slice none 0 0)] [(0, (a.get 24)), (1, (a.get 25))] σ, (some 26), fun _ => some true⟩,
  ⟨fun a σ => fload (some 4) (a.get 0) σ, (some 27), fun _ => some true⟩,
  ⟨fun a σ => .enter 80 [(a.get 26), (a.get 27)] σ, (some 28), fun _ => some true⟩,
  ⟨fun a σ => fstore 4 (a.get 3) (a.get 28) σ, none, fun _ => some true⟩]
noncomputable def r79_5 : List COp := r79_5U ()
noncomputable def run79 (E : Env) (ro : Option Nat) (fn : FuncId) : RunF := (seqR (fops E ro r79_0) (seqR (fops E ro r79_1) (seqR (fops E ro r79_2) (seqR (fops E ro r79_3) (seqR (fops E ro r79_4) (seqR (fops E ro r79_5) retR))))))
theorem r79_0_go : fops E ro r79_0 a u σ = fops E ro (r79_0U ()) a u σ := rfl
theorem r79_1_go : fops E ro r79_1 a u σ = fops E ro (r79_1U ()) a u σ := rfl
theorem r79_2_go : fops E ro r79_2 a u σ = fops E ro (r79_2U ()) a u σ := rfl
theorem r79_3_go : fops E ro r79_3 a u σ = fops E ro (r79_3U ()) a u σ := rfl
theorem r79_4_go : fops E ro r79_4 a u σ = fops E ro (r79_4U ()) a u σ := rfl
theorem r79_5_go : fops E ro r79_5 a u σ = fops E ro (r79_5U ()) a u σ := rfl
theorem code79 (E : Env) (ro : Option Nat) (fn : FuncId) : code Tryz.prog nls (Tryz.f79.body.getD .skip) E ro fn = run79 E ro fn := by kernel_rfl
theorem enter79 (E : Env) (args : List Value) (u : Option FrameMode) (σ : FState) (hn : args.length ≤ (7 : Nat)) : fcall Tryz.prog nls E 79 args u σ = leaveR Tryz.prog E [.cell 3 28] (run79 E none 79 ⟨padTo undef 7 args, fun _ => undef, 7, 29, []⟩ u σ) := by
  rw [fcall_of (body := Tryz.f79.body.getD .skip) Tryz.func79 rfl E args u σ 7 29 (by kernel_rfl) rfl ⟨hn, by decide⟩, code79]
  rfl
end Go.Proofs.YtodkeaoikjjneaaGreatDoor
/- caracoleref01.Count and Same. -/
namespace Go.Proofs.YtodkeaoikjjneaaGreatDoor
open Go Go.Eng
attribute [local congr] andThen_congr fops_congr fdraw_congr afterOp_congr drawF_congr
attribute [-go_sem] List.range_succ
theorem keepCt : keepOf nls 32 = [31, 32, 33] := by kernel_rfl
theorem counts_takeR (ds : List D) (i : Nat) (d : D) (h : ds[i]? = some d) : D.counts (ds.take (i + 1)) = D.counts (ds.take i) + d.count := by
  induction ds generalizing i with
  | nil => simp at h
  | cons x ds ih =>
    cases i with
    | zero => simp at h; subst h; simp [D.counts]
    | succ i => simp at h; simp [D.counts, ih i h, Nat.add_assoc]
theorem deeps_takeR (ds : List D) (i : Nat) (d : D) (h : ds[i]? = some d) : D.deeps (ds.take (i + 1)) = max (D.deeps (ds.take i)) d.deep := by
  induction ds generalizing i with
  | nil => simp at h
  | cons x ds ih =>
    cases i with
    | zero => simp at h; subst h; simp [D.deeps]
    | succ i => simp at h; simp [D.deeps, ih i h, Nat.max_assoc]
theorem counts_leR (ds : List D) (i : Nat) : D.counts (ds.take i) ≤ D.counts ds := by
  induction ds generalizing i with
  | nil => simp
  | cons x ds ih =>
    cases i with
    | zero => simp [D.counts]
    | succ i => have := ih i; simp [D.counts]; omega
mutual
theorem deep_leR : ∀ d : D, d.deep ≤ d.count
  | .mk k z t ds => by rw [D.deep, D.count]; have := deeps_leR ds; omega
theorem deeps_leR : ∀ ds : List D, D.deeps ds ≤ D.counts ds
  | [] => Nat.le_refl _
  | d :: ds => by rw [D.deeps, D.counts]; have := deep_leR d; have := deeps_leR ds; omega
end
def CountAt (m : Nat) (d : D) : Prop := ∀ (lv : List Value) (R : Nat → Prop) (σ : FState), Wf σ → LaidR R σ (.agg lv.toArray) d → d.count < 1000000 → Gives ((env m).call 32 [.agg lv.toArray] none σ) σ fun w _ => w = .tuple #[.int .i64 (.ofNat d.count), .int .i64 (.ofNat d.deep)]
structure HeadCt (b1 : Nat) (lv : List Value) (R : Nat → Prop) (q : Option Addr) (ds : List D) (σ0 : FState) (i : Nat) (f : Nat → Value) (σ : FState) : Prop where
  f1 : f 1 = .pointer (some ⟨b1, 0, none⟩)
  f4 : f 4 = .int .i64 (.ofNat (D.counts (ds.take i) + 1))
  f5 : f 5 = .int .i64 (.ofNat (D.deeps (ds.take i)))
  f6 : f 6 = .int .i64 (.ofNat i)
  cd : σ.cells b1 = some lv
  lay : LaidRE R σ q 0 ds
  wf : Wf σ
  ext : Ext σ0 σ
  le : i ≤ ds.length
theorem count_loop (m : Nat) {b1 : Nat} {R : Nat → Prop} {k z : Int} {t : ByteArray} {q : Option Addr} {c : Nat} {ds : List D} {σ0 : FState} (hC : ∀ d ∈ ds, CountAt m d) (hct : D.counts ds + 1 < 1000000) :
    ∀ (j fuel i : Nat) (f g : Nat → Value) (σ : FState), i + j = ds.length → j < fuel → HeadCt b1 [.int .i64 k, .int .i64 z, .string t, .slice q ds.length c] R q ds σ0 i f σ →
    ∃ f' g' σ', floop [31, 32, 33] (l32_0 (env m) none 32) fuel (Sl 9 34 f g []) none σ = .done (.exit 0) (Sl 9 34 f' g' []) none σ' ∧ HeadCt b1 [.int .i64 k, .int .i64 z, .string t, .slice q ds.length c] R q ds σ0 ds.length f' σ' := by
  intro j
  induction j with
  | zero =>
    intro fuel i f g σ hij hf h
    obtain ⟨fuel, rfl⟩ : ∃ q, fuel = q + 1 := ⟨fuel - 1, by omega⟩
    obtain rfl : i = ds.length := by omega
    have d1 : decide (Int.ofNat ds.length < Int.ofNat ds.length) = false := by simp
    rw [floop_step, Sl_forget]
    unfold l32_0
    simp -implicitDefEqProofs only [go_sem, ↓reduceIte, Nat.reduceLT, Nat.reduceEqDiff, Nat.reduceAdd, Nat.reduceMul, Nat.reduceLeDiff, Nat.reduceSub, r32_3_go, r32_3U, h.f1, h.f6, h.cd, d1]
    exact ⟨_, _, _, rfl, h⟩
  | succ j ih =>
    intro fuel i f g σ hij hf h
    obtain ⟨fuel, rfl⟩ : ∃ q, fuel = q + 1 := ⟨fuel - 1, by omega⟩
    have hi : i < ds.length := by omega
    have d1 : decide (Int.ofNat i < Int.ofNat ds.length) = true := by simp; omega
    have hd : ds[i]? = some ds[i] := List.getElem?_eq_getElem hi
    have hlc := length_counts ds
    obtain ⟨b, off, cs, rfl, hRb, hcs, hle, hL⟩ := LaidRE.get h.lay hd
    rw [Nat.zero_add] at hle hL
    have hcm := count_mem (List.getElem_mem hi)
    have hct1 := counts_takeR ds i _ hd
    have hct2 := counts_leR ds (i + 1)
    obtain ⟨_, σ1, e1, x1, hw1, rfl⟩ := hC _ (List.getElem_mem hi) ((cs.drop (off + i * 4)).take 4) R σ h.wf hL (by omega)
    have dt := deeps_takeR ds i _ hd
    have w1 : wrapI (Int.ofNat (D.counts (ds.take i) + 1) + Int.ofNat ds[i].count) = Int.ofNat (D.counts (ds.take (i + 1)) + 1) := by
      rw [wrapI_of (by simp only [Int.ofNat_eq_natCast]; omega)]
      simp only [Int.ofNat_eq_natCast]
      omega
    have w2 : (if Int.ofNat ds[i].deep > Int.ofNat (D.deeps (ds.take i)) then Int.ofNat ds[i].deep else Int.ofNat (D.deeps (ds.take i))) = Int.ofNat (D.deeps (ds.take (i + 1))) := by
      rw [dt, Nat.max_def]
      simp only [Int.ofNat_eq_natCast]
      split <;> split <;> omega
    have w3 := add1 i (by omega)
    rw [floop_step, Sl_forget]
    unfold l32_0
    simp -implicitDefEqProofs only [go_sem, ↓reduceIte, Nat.reduceLT, Nat.reduceEqDiff, Nat.reduceAdd, Nat.reduceMul, Nat.reduceLeDiff, Nat.reduceSub, r32_3_go, r32_3U, r32_5_go, r32_5U, r32_6_go, r32_6U, r32_4_go, r32_4U, h.f1, h.f4, h.f5, h.f6, h.cd, d1, hi, hcs, hle, e1, w1, w2, w3, max_int]
    generalize hff : upd _ 6 _ = f1
    exact ih fuel (i + 1) f1 _ σ1 (by omega) (by omega) {
      f1 := by rw [← hff]; simp -implicitDefEqProofs only [upd_go, kept_go, ↓reduceIte, Nat.reduceEqDiff, Nat.reduceLT, reduceCtorEq, h.f1]
      f4 := by rw [← hff]; simp -implicitDefEqProofs only [upd_go, kept_go, ↓reduceIte, Nat.reduceEqDiff, Nat.reduceLT, reduceCtorEq]
      f5 := by rw [← hff]; simp -implicitDefEqProofs only [upd_go, kept_go, ↓reduceIte, Nat.reduceEqDiff, Nat.reduceLT, reduceCtorEq]
      f6 := by rw [← hff]; simp -implicitDefEqProofs only [upd_go, kept_go, ↓reduceIte, Nat.reduceEqDiff, Nat.reduceLT, reduceCtorEq]
      cd := (x1.cells (h.wf.cells h.cd)).trans h.cd
      lay := h.lay.keep fun b cs hb hc => ⟨(x1.cells (h.wf.cells hc)).trans hc, hb⟩
      wf := hw1
      ext := h.ext.trans x1
      le := hi }
theorem count_step (m : Nat) (k z : Int) (t : ByteArray) (ds : List D) (hC : ∀ d ∈ ds, CountAt m d) : CountAt (m + 1) (.mk k z t ds) := by
  intro lv R σ hw hL hct
  obtain ⟨q, c, hv, hE⟩ := hL
  have hlv : lv = [.int .i64 k, .int .i64 z, .string t, .slice q ds.length c] := by
    have := Value.agg.inj hv
    simpa using congrArg Array.toList this
  subst hlv
  rw [D.count] at hct
  have hlc := length_counts ds
  have hdl := deeps_leR ds
  rw [env_call, enter32 _ _ _ _ (by simp), Sl_start]
  unfold run32
  simp -implicitDefEqProofs only [go_sem, ↓reduceIte, Nat.reduceLT, Nat.reduceEqDiff, Nat.reduceAdd, Nat.reduceMul, Nat.reduceLeDiff, Nat.reduceSub, r32_0_go, r32_0U, r32_1_go, r32_1U, r32_2_go, r32_2U, Option.getD_some, keepCt]
  generalize hff : upd _ 6 _ = f1
  generalize hbf : bigFuel = fuel
  have x1 : Ext σ (σ.push (.cells [.int .i64 k, .int .i64 z, .string t, .slice q ds.length c] TD) none) := (Ext.refl _).push _ _
  obtain ⟨f2, g2, σ2, e2, h2⟩ := count_loop m (b1 := σ.next) (R := R) (k := k) (z := z) (t := t) (q := q) (c := c) (σ0 := σ) hC hct ds.length fuel 0 f1 (fun _ => undef) (σ.push (.cells [.int .i64 k, .int .i64 z, .string t, .slice q ds.length c] TD) none) (by omega) (by rw [← hbf]; show ds.length < 1000000000000; omega) {
    f1 := by rw [← hff]; simp -implicitDefEqProofs only [upd_go, kept_go, ↓reduceIte, Nat.reduceEqDiff, Nat.reduceLT, reduceCtorEq]
    f4 := by rw [← hff]; simp -implicitDefEqProofs only [upd_go, kept_go, ↓reduceIte, Nat.reduceEqDiff, Nat.reduceLT, reduceCtorEq] <;> rfl
    f5 := by rw [← hff]; simp -implicitDefEqProofs only [upd_go, kept_go, ↓reduceIte, Nat.reduceEqDiff, Nat.reduceLT, reduceCtorEq] <;> rfl
    f6 := by rw [← hff]; simp -implicitDefEqProofs only [upd_go, kept_go, ↓reduceIte, Nat.reduceEqDiff, Nat.reduceLT, reduceCtorEq] <;> rfl
    cd := by rw [cells_push, if_pos rfl]; rfl
    lay := hE.keep fun b cs hb hc => ⟨(x1.cells (hw.cells hc)).trans hc, hb⟩
    wf := hw.push _ _
    ext := x1
    le := Nat.zero_le _ }
  have w1 := add1 (D.deeps ds) (by omega)
  have t4 := h2.f4
  have t5 := h2.f5
  rw [List.take_length] at t4 t5
  rw [e2]
  simp -implicitDefEqProofs only [go_sem, ↓reduceIte, Nat.reduceLT, Nat.reduceEqDiff, Nat.reduceAdd, Nat.reduceMul, Nat.reduceLeDiff, Nat.reduceSub, r32_7_go, r32_7U, t4, t5, w1]
  exact ⟨_, _, rfl, h2.ext, h2.wf, by rw [D.count, D.deep]⟩
theorem count_go (n : Nat) : ∀ (N : Nat) (d : D), D.deep d ≤ N → CountAt (n + N) d
  | 0, d, h => by cases d; rw [D.deep] at h; omega
  | N + 1, .mk k z t ds, h => by
    rw [D.deep] at h
    exact count_step (n + N) k z t ds fun d hd => count_go n N d (by have := deeps_mem hd; omega)
/-- caracoleref01.Same. -/
theorem sameR_go (n N : Nat) (d d' : D) (lv lv' : List Value) (h4 : lv.length = 4) (h4' : lv'.length = 4) (σ : FState) (hd : D.deep d ≤ N) (hc : d.count < 1000000000) (hw : Wf σ) (hL : Laid σ (.agg lv.toArray) d) (hL' : Laid σ (.agg lv'.toArray) d') :
    Gives ((env (n + 2 * N + 1)).call 84 [.agg lv.toArray, .agg lv'.toArray] none σ) σ fun w _ => w = .bool (D.same d d') := by
  rw [env_call, enter84 _ _ _ _ (by simp), Sl_start]
  unfold run84
  have x1 : Ext σ ((σ.push (.cells lv TD) none).push (.cells lv' TD) none) := ((Ext.refl _).push _ _).push _ _
  have hw1 := (hw.push (.cells lv TD) none).push (.cells lv' TD) none
  obtain ⟨_, σ2, e2, x2, hw2, rfl⟩ := eqDatum_go n N d d' _ _ _ hd hc hw1 (hL.ext hw x1) (hL'.ext hw x1)
  have ht : lv.take 4 = lv := List.take_of_length_le (by omega)
  have ht' : lv'.take 4 = lv' := List.take_of_length_le (by omega)
  generalize hM : n + 2 * N = M at e2 ⊢
  simp -implicitDefEqProofs only [go_sem, ↓reduceIte, Nat.reduceLT, Nat.reduceEqDiff, Nat.reduceAdd, Nat.reduceMul, Nat.reduceLeDiff, Nat.reduceSub, r84_0_go, r84_0U, r84_1_go, r84_1U, Option.getD_some, h4, h4', ht, ht', e2, Nat.le_refl]
  exact ⟨_, _, rfl, x1.trans x2, hw2, rfl⟩
end Go.Proofs.YtodkeaoikjjneaaGreatDoor
/- caracoleref01.Found. -/
namespace Go.Proofs.YtodkeaoikjjneaaGreatDoor
open Go Go.Eng
attribute [local congr] andThen_congr fops_congr fdraw_congr afterOp_congr drawF_congr
attribute [-go_sem] List.range_succ
theorem keepFd : keepOf nls 33 = [37] := by kernel_rfl
structure FactsFd (N : Nat) (b2 b3 ba : Nat) (R RX : Nat → Prop) (d x : D) (lv xv us : List Value) (σ : FState) : Prop where
  xdeep : x.deep ≤ N
  xcount : x.count < 100000
  dcount : d.count < 10000
  ddeep : d.deep < 1000
  h4 : lv.length = 4
  hx4 : xv.length = 4
  c2 : σ.cells b2 = some lv
  c3 : σ.cells b3 = some xv
  ca : σ.cells ba = some us
  pl : PathsL (fun _ => True) σ us ((d.pieces []).map (·.1))
  ld : LaidR R σ (.agg lv.toArray) d
  lx : LaidR RX σ (.agg xv.toArray) x
  wf : Wf σ
structure HeadFd (b2 b3 ba : Nat) (d x : D) (us : List Value) (σ0 : FState) (i : Nat) (f : Nat → Value) (σ : FState) : Prop where
  f2 : f 2 = .pointer (some ⟨b2, 0, none⟩)
  f3 : f 3 = .pointer (some ⟨b3, 0, none⟩)
  f6 : f 6 = .slice (some ⟨ba, 0, none⟩) us.length us.length
  f7 : f 7 = .int .i64 (.ofNat i)
  vec : ∃ ws, Vecs TP (fun b => σ0.next ≤ b) σ (f 5) ws ∧ ws.length = (foundIn x ((d.pieces []).take i)).length
  ext : Ext σ0 σ
  wf : Wf σ
  le : i ≤ (d.pieces []).length
theorem pieces_short (d : D) (hd : d.deep < 1000) : ∀ y ∈ d.pieces [], y.1.length < 1000 := fun y hy => by
  have h1 := longest_pieces d []
  have h2 : y.1.length + 1 ≤ longest (d.pieces []) := by
    obtain ⟨a, b, h⟩ := List.append_of_mem hy
    rw [h, longest_append, longest_cons]
    omega
  simp at h1
  omega
theorem foundR_loop (M n N : Nat) (hM : M = n + 2 * N) {b2 b3 ba : Nat} {R RX : Nat → Prop} {d x : D} {lv xv us : List Value} {σ0 : FState} (F : FactsFd N b2 b3 ba R RX d x lv xv us σ0) :
    ∀ (j fuel i : Nat) (f g : Nat → Value) (σ : FState), i + j = (d.pieces []).length → j < fuel → HeadFd b2 b3 ba d x us σ0 i f σ →
    ∃ f' g' σ', floop [37] (l33_0 (env (M + 2)) none 33) fuel (Sl 10 38 f g []) none σ = .done (.exit 0) (Sl 10 38 f' g' []) none σ' ∧ HeadFd b2 b3 ba d x us σ0 (d.pieces []).length f' σ' := by
  have hus : us.length = (d.pieces []).length := by rw [F.pl.length, List.length_map]
  have hpl := pieces_length d []
  have hdc := F.dcount
  intro j
  induction j with
  | zero =>
    intro fuel i f g σ hij hf h
    obtain ⟨fuel, rfl⟩ : ∃ q, fuel = q + 1 := ⟨fuel - 1, by omega⟩
    obtain rfl : i = (d.pieces []).length := by omega
    have d1 : decide (Int.ofNat (d.pieces []).length < Int.ofNat us.length) = false := by rw [hus]; simp
    rw [floop_step, Sl_forget]
    unfold l33_0
    simp -implicitDefEqProofs only [go_sem, ↓reduceIte, Nat.reduceLT, Nat.reduceEqDiff, Nat.reduceAdd, Nat.reduceMul, Nat.reduceLeDiff, Nat.reduceSub, r33_4_go, r33_4U, h.f6, h.f7, d1]
    exact ⟨_, _, _, rfl, h⟩
  | succ j ih =>
    intro fuel i f g σ hij hf h
    obtain ⟨fuel, rfl⟩ : ∃ q, fuel = q + 1 := ⟨fuel - 1, by omega⟩
    have hi : i < (d.pieces []).length := by omega
    have hiu : i < us.length := by omega
    have d1 : decide (Int.ofNat i < Int.ofNat us.length) = true := by simp; omega
    obtain ⟨y, hy⟩ : ∃ y, (d.pieces [])[i]? = some y := ⟨_, List.getElem?_eq_getElem hi⟩
    have hmem := List.mem_of_getElem? hy
    obtain ⟨r, hr, hat⟩ := pieces_at d [] y hmem
    rw [List.nil_append] at hr
    subst hr
    have hys := pieces_short d F.ddeep y hmem
    obtain ⟨u, hu, hP⟩ := F.pl.get (i := i) (p := y.1) (by rw [List.getElem?_map, hy]; rfl)
    have K : ∀ b cs, σ0.cells b = some cs → σ.cells b = some cs := fun b cs hc => (h.ext.cells (F.wf.cells hc)).trans hc
    have hv := view_wf h.wf (Nat.le_refl _)
    obtain ⟨_, σ1, e1, x1, hw1, v1, rfl, hL1⟩ := part_go M (Q := fun _ => True) h.wf (F.ld.keep (R' := R) fun b cs hb hc => ⟨K b cs hc, hb⟩) (hP.keep fun b cs _ hc => ⟨K b cs hc, trivial⟩) (by omega) (by omega) hat
    have hL0 := hL1
    obtain ⟨ya, yd⟩ := y
    obtain ⟨k, z, t, ds⟩ := yd
    obtain ⟨qq, c, rfl, hE⟩ := hL1
    have x2 : Ext σ1 ((σ1.push (.cells [.int .i64 0, .int .i64 0, .string ⟨#[]⟩, .slice none 0 0] TD) none).put σ1.next (.cells [.int .i64 k, .int .i64 z, .string t, .slice qq ds.length c] TD) none) := ((Ext.refl _).push _ _).put _ _ _ (Nat.le_refl _)
    have hw2 := (hw1.push (.cells [.int .i64 0, .int .i64 0, .string ⟨#[]⟩, .slice none 0 0] TD) none).put σ1.next (.cells [.int .i64 k, .int .i64 z, .string t, .slice qq ds.length c] TD) none (Nat.lt_succ_self _)
    have b2' : ((σ1.push (.cells [.int .i64 0, .int .i64 0, .string ⟨#[]⟩, .slice none 0 0] TD) none).put σ1.next (.cells [.int .i64 k, .int .i64 z, .string t, .slice qq ds.length c] TD) none).cells σ1.next = some [.int .i64 k, .int .i64 z, .string t, .slice qq ds.length c] := by rw [cells_put, if_pos rfl]; rfl
    have c2 := K _ _ F.c2
    have ca := K _ _ F.ca
    have h4 := F.h4
    have hx4 := F.hx4
    have ht : lv.take 4 = lv := List.take_of_length_le (by omega)
    have htx : xv.take 4 = xv := List.take_of_length_le (by omega)
    rw [floop_step, Sl_forget]
    unfold l33_0
    simp -implicitDefEqProofs only [go_sem, ↓reduceIte, Nat.reduceLT, Nat.reduceEqDiff, Nat.reduceAdd, Nat.reduceMul, Nat.reduceLeDiff, Nat.reduceSub, fstoreN, r33_4_go, r33_4U, r33_6_go, r33_6U, h.f2, h.f6, h.f7, d1, hiu, hv, c2, ca, hu, h4, ht, e1, Nat.le_refl]
    generalize hff : upd _ 9 _ = f1
    generalize hgg : upd _ 26 _ = g1
    have q2 : f1 2 = .pointer (some ⟨b2, 0, none⟩) := by rw [← hff]; simp -implicitDefEqProofs only [upd_go, kept_go, ↓reduceIte, Nat.reduceEqDiff, Nat.reduceLT, reduceCtorEq, h.f2]
    have q3 : f1 3 = .pointer (some ⟨b3, 0, none⟩) := by rw [← hff]; simp -implicitDefEqProofs only [upd_go, kept_go, ↓reduceIte, Nat.reduceEqDiff, Nat.reduceLT, reduceCtorEq, h.f3]
    have q5 : f1 5 = f 5 := by rw [← hff]; simp -implicitDefEqProofs only [upd_go, kept_go, ↓reduceIte, Nat.reduceEqDiff, Nat.reduceLT, reduceCtorEq]
    have q6 : f1 6 = .slice (some ⟨ba, 0, none⟩) us.length us.length := by rw [← hff]; simp -implicitDefEqProofs only [upd_go, kept_go, ↓reduceIte, Nat.reduceEqDiff, Nat.reduceLT, reduceCtorEq, h.f6]
    have q7 : f1 7 = .int .i64 (.ofNat i) := by rw [← hff]; simp -implicitDefEqProofs only [upd_go, kept_go, ↓reduceIte, Nat.reduceEqDiff, Nat.reduceLT, reduceCtorEq, h.f7]
    have q8 : f1 8 = .pointer (some ⟨σ1.next, 0, none⟩) := by rw [← hff]; simp -implicitDefEqProofs only [upd_go, kept_go, ↓reduceIte, Nat.reduceEqDiff, Nat.reduceLT, reduceCtorEq]
    clear hff hgg
    have hL2 := hL0.keep (R' := fun _ => True) fun b cs _ hc => ⟨(x2.cells (hw1.cells hc)).trans hc, trivial⟩
    generalize FState.put _ _ _ _ = σ2 at x2 hw2 b2' hL2 ⊢
    have X2 := (h.ext.trans x1).trans x2
    have K2 : ∀ b cs, σ0.cells b = some cs → σ2.cells b = some cs := fun b cs hc => (X2.cells (F.wf.cells hc)).trans hc
    obtain ⟨_, σ3, e3, x3, hw3, rfl⟩ := sameR_go (n + 1) N x (.mk k z t ds) xv [.int .i64 k, .int .i64 z, .string t, .slice qq ds.length c] hx4 rfl σ2 F.xdeep (by have := F.xcount; omega) hw2 (LaidR.laid (F.lx.keep (R' := fun _ => True) fun b cs _ hc => ⟨K2 b cs hc, trivial⟩)) hL2.laid
    rw [show n + 1 + 2 * N + 1 = M + 2 by omega, same_comm] at e3
    have c3 := K2 _ _ F.c3
    have X3 := X2.trans x3
    have K3 : ∀ b cs, σ0.cells b = some cs → σ3.cells b = some cs := fun b cs hc => (X3.cells (F.wf.cells hc)).trans hc
    have w3 := add1 i (by omega)
    have hft := foundIn_take x (d.pieces []) i _ hy
    obtain ⟨ws, hvec, hwl⟩ := h.vec
    have x13 := (x1.trans x2).trans x3
    have hvec3 : Vecs TP (fun b => σ0.next ≤ b) σ3 (f 5) ws := hvec.keep (fun b hb hn => ⟨x13.get b hn, hb⟩) h.wf
    cases e : D.same (.mk k z t ds) x with
    | false =>
      rw [e] at e3
      simp -implicitDefEqProofs only [go_sem, ↓reduceIte, Nat.reduceLT, Nat.reduceEqDiff, Nat.reduceAdd, Nat.reduceMul, Nat.reduceLeDiff, Nat.reduceSub, r33_7_go, r33_7U, r33_5_go, r33_5U, q3, q8, c3, b2', hx4, htx, e3, q7, w3, Nat.le_refl]
      generalize hg2 : upd _ 17 _ = g2
      exact ih fuel (i + 1) (upd f1 7 (.int .i64 (.ofNat (i + 1)))) g2 σ3 (by omega) (by omega) {
        f2 := by simp -implicitDefEqProofs only [upd_go, kept_go, ↓reduceIte, Nat.reduceEqDiff, Nat.reduceLT, reduceCtorEq, q2]
        f3 := by simp -implicitDefEqProofs only [upd_go, kept_go, ↓reduceIte, Nat.reduceEqDiff, Nat.reduceLT, reduceCtorEq, q3]
        f6 := by simp -implicitDefEqProofs only [upd_go, kept_go, ↓reduceIte, Nat.reduceEqDiff, Nat.reduceLT, reduceCtorEq, q6]
        f7 := by simp -implicitDefEqProofs only [upd_go, kept_go, ↓reduceIte, Nat.reduceEqDiff, Nat.reduceLT, reduceCtorEq]
        vec := ⟨ws, by rw [show upd f1 7 (.int .i64 (.ofNat (i + 1))) 5 = f 5 by simp -implicitDefEqProofs only [upd_go, kept_go, ↓reduceIte, Nat.reduceEqDiff, Nat.reduceLT, reduceCtorEq, q5]]; exact hvec3, by rw [hft, e, if_neg (by simp), List.append_nil]; exact hwl⟩
        ext := X3
        wf := hw3
        le := hi }
    | true =>
      rw [e] at e3
      have ca3 := K3 _ _ F.ca
      have hw4 := hw3.push (.cells [u] TP) none
      have hvec4 : Vecs TP (fun b => σ0.next ≤ b) (σ3.push (.cells [u] TP) none) (f 5) ws := hvec3.keep (fun b hb hn => ⟨by rw [push_get, if_neg (by omega)], hb⟩) hw3
      obtain ⟨o1, o2, o3⟩ := hP.one
      have hfl := foundIn_le x ((d.pieces []).take i)
      rw [List.length_take] at hfl
      obtain ⟨b6, s6, σ6, e6, F6, hb6, ch6, hw6⟩ := hvec4.append hw4 σ3.next 1 u 24 (by rw [cells_push, if_pos rfl]; rfl) o1 (by omega) (by omega)
      have n6 := ch6.next
      have X3n := X3.next
      rw [push_next] at n6 hb6
      simp -implicitDefEqProofs only [go_sem, ↓reduceIte, Nat.reduceLT, Nat.reduceEqDiff, Nat.reduceAdd, Nat.reduceMul, Nat.reduceLeDiff, Nat.reduceSub, r33_7_go, r33_7U, r33_8_go, r33_8U, r33_5_go, r33_5U, q3, q5, q6, q8, c3, b2', hx4, htx, e3, q7, w3, ca3, hu, hiu, o1, o2, o3, e6, Nat.le_refl]
      generalize hff2 : upd _ 7 _ = f2
      generalize hg2 : upd _ 17 _ = g2
      exact ih fuel (i + 1) f2 g2 σ6 (by omega) (by omega) {
        f2 := by rw [← hff2]; simp -implicitDefEqProofs only [upd_go, kept_go, ↓reduceIte, Nat.reduceEqDiff, Nat.reduceLT, reduceCtorEq, q2]
        f3 := by rw [← hff2]; simp -implicitDefEqProofs only [upd_go, kept_go, ↓reduceIte, Nat.reduceEqDiff, Nat.reduceLT, reduceCtorEq, q3]
        f6 := by rw [← hff2]; simp -implicitDefEqProofs only [upd_go, kept_go, ↓reduceIte, Nat.reduceEqDiff, Nat.reduceLT, reduceCtorEq, q6]
        f7 := by rw [← hff2]; simp -implicitDefEqProofs only [upd_go, kept_go, ↓reduceIte, Nat.reduceEqDiff, Nat.reduceLT, reduceCtorEq]
        vec := ⟨ws ++ [u], by
          rw [show f2 5 = s6 by rw [← hff2]; simp -implicitDefEqProofs only [upd_go, kept_go, ↓reduceIte, Nat.reduceEqDiff, Nat.reduceLT, reduceCtorEq]]
          exact .inr ⟨b6, F6, by omega⟩, by rw [hft, e, if_pos rfl, List.length_append, List.length_append, hwl]; rfl⟩
        ext := ⟨by omega, by have := X3.clock; have := ch6.clock; rw [push_clock] at this; omega, fun b hb => (ch6.get b (by rw [push_next]; omega) (by omega)).trans ((by rw [push_get, if_neg (by omega)] : (σ3.push (.cells [u] TP) none).heap.get b = σ3.heap.get b).trans (X3.get b hb))⟩
        wf := hw6
        le := hi }
/-- caracoleref01.Found: how many it finds. -/
theorem foundR_go (M n N : Nat) (hM : M = n + 2 * N) (d x : D) (lv xv : List Value) (h4 : lv.length = 4) (hx4 : xv.length = 4) (R RX : Nat → Prop) (σ : FState) (hxd : x.deep ≤ N) (hxc : x.count < 100000) (hdc : d.count < 10000) (hdd : d.deep < 1000) (hdM : d.deep ≤ M + 2) (hw : Wf σ) (hL : LaidR R σ (.agg lv.toArray) d) (hLx : LaidR RX σ (.agg xv.toArray) x) :
    Gives ((env (M + 3)).call 33 [.agg lv.toArray, .agg xv.toArray] none σ) σ fun w _ => ∃ a c, w = .slice a (occN x d) c := by
  have ht : lv.take 4 = lv := List.take_of_length_le (by omega)
  have hpl := pieces_length d []
  have x1 : Ext σ ((σ.push (.cells lv TD) none).push (.cells xv TD) none) := ((Ext.refl _).push _ _).push _ _
  have hw1 := (hw.push (.cells lv TD) none).push (.cells xv TD) none
  have c1 : ((σ.push (.cells lv TD) none).push (.cells xv TD) none).cells σ.next = some lv := by rw [cells_push, if_neg (by rw [push_next]; omega), cells_push, if_pos rfl]; rfl
  have c2 : ((σ.push (.cells lv TD) none).push (.cells xv TD) none).cells (σ.next + 1) = some xv := by rw [cells_push, if_pos (by rw [push_next])]; rfl
  have hpa := paths_go (M + 2 - d.deep) d.deep d (Nat.le_refl _)
  rw [Nat.sub_add_cancel hdM] at hpa
  rw [env_call, enter33 _ _ _ _ (by simp), Sl_start]
  unfold run33
  simp -implicitDefEqProofs only [go_sem, ↓reduceIte, Nat.reduceLT, Nat.reduceEqDiff, Nat.reduceAdd, Nat.reduceMul, Nat.reduceLeDiff, Nat.reduceSub, r33_0_go, r33_0U, r33_1_go, r33_1U, Option.getD_some]
  generalize hff : upd _ 5 _ = f1
  have q2 : f1 2 = .pointer (some ⟨σ.next, 0, none⟩) := by rw [← hff]; simp -implicitDefEqProofs only [upd_go, kept_go, ↓reduceIte, Nat.reduceEqDiff, Nat.reduceLT, reduceCtorEq]
  have q3 : f1 3 = .pointer (some ⟨σ.next + 1, 0, none⟩) := by rw [← hff]; simp -implicitDefEqProofs only [upd_go, kept_go, ↓reduceIte, Nat.reduceEqDiff, Nat.reduceLT, reduceCtorEq]
  have q5 : f1 5 = .slice none 0 0 := by rw [← hff]; simp -implicitDefEqProofs only [upd_go, kept_go, ↓reduceIte, Nat.reduceEqDiff, Nat.reduceLT, reduceCtorEq]
  clear hff
  generalize FState.push (FState.push σ _ _) _ _ = σ1 at x1 hw1 c1 c2 ⊢
  obtain ⟨w, σ2, e2, x2, hw2, ba, us, hba, F2, pl2⟩ := hpa [] (.agg lv.toArray) (.slice none 0 0) R (fun _ => True) σ1 hw1 (hL.keep fun b cs hb hc => ⟨(x1.cells (hw.cells hc)).trans hc, hb⟩) (.inl ⟨rfl, rfl⟩) (by simp; omega) (by omega)
  obtain ⟨rfl, ca⟩ := F2.cells
  have x12 := x1.trans x2
  simp -implicitDefEqProofs only [go_sem, ↓reduceIte, Nat.reduceLT, Nat.reduceEqDiff, Nat.reduceAdd, Nat.reduceMul, Nat.reduceLeDiff, Nat.reduceSub, r33_2_go, r33_2U, r33_3_go, r33_3U, q2, c1, h4, ht, e2, keepFd, Nat.le_refl]
  generalize hff : upd _ 7 _ = f2
  generalize hgg : upd _ 11 _ = g2
  generalize hbf : bigFuel = fuel
  obtain ⟨f3, g3, σ3, e3, h3⟩ := foundR_loop M n N hM (b2 := σ.next) (b3 := σ.next + 1) (ba := ba) (R := R) (RX := RX) (d := d) (x := x) (lv := lv) (xv := xv) (us := us) (σ0 := σ2) {
    xdeep := hxd
    xcount := hxc
    dcount := hdc
    ddeep := hdd
    h4 := h4
    hx4 := hx4
    c2 := (x2.cells (hw1.cells c1)).trans c1
    c3 := (x2.cells (hw1.cells c2)).trans c2
    ca := ca
    pl := pl2.keep fun b cs _ hc => ⟨hc, trivial⟩
    ld := hL.keep fun b cs hb hc => ⟨(x12.cells (hw.cells hc)).trans hc, hb⟩
    lx := hLx.keep fun b cs hb hc => ⟨(x12.cells (hw.cells hc)).trans hc, hb⟩
    wf := hw2 } (d.pieces []).length fuel 0 f2 g2 σ2 (by omega) (by rw [← hbf]; show (d.pieces []).length < 1000000000000; omega) {
    f2 := by rw [← hff]; simp -implicitDefEqProofs only [upd_go, kept_go, ↓reduceIte, Nat.reduceEqDiff, Nat.reduceLT, reduceCtorEq, q2]
    f3 := by rw [← hff]; simp -implicitDefEqProofs only [upd_go, kept_go, ↓reduceIte, Nat.reduceEqDiff, Nat.reduceLT, reduceCtorEq, q3]
    f6 := by rw [← hff]; simp -implicitDefEqProofs only [upd_go, kept_go, ↓reduceIte, Nat.reduceEqDiff, Nat.reduceLT, reduceCtorEq]
    f7 := by rw [← hff]; simp -implicitDefEqProofs only [upd_go, kept_go, ↓reduceIte, Nat.reduceEqDiff, Nat.reduceLT, reduceCtorEq] <;> rfl
    vec := ⟨[], by rw [show f2 5 = .slice none 0 0 by rw [← hff]; simp -implicitDefEqProofs only [upd_go, kept_go, ↓reduceIte, Nat.reduceEqDiff, Nat.reduceLT, reduceCtorEq, q5]]; exact .inl ⟨rfl, rfl⟩, rfl⟩
    ext := Ext.refl _
    wf := hw2
    le := Nat.zero_le _ }
  obtain ⟨ws, hv, hl⟩ := h3.vec
  rw [List.take_length, found_len] at hl
  obtain ⟨a, c, hs, _⟩ := vecs_slice hv
  rw [hl] at hs
  rw [e3]
  simp -implicitDefEqProofs only [go_sem, ↓reduceIte, Nat.reduceLT, Nat.reduceEqDiff, Nat.reduceAdd, Nat.reduceMul, Nat.reduceLeDiff, Nat.reduceSub, r33_9_go, r33_9U, hs]
  exact ⟨_, _, rfl, x12.trans h3.ext, h3.wf, a, c, rfl⟩
end Go.Proofs.YtodkeaoikjjneaaGreatDoor
/- plain.Each at a method, package datum's builder and exchange. -/
namespace Go.Proofs.YtodkeaoikjjneaaGreatDoor
open Go Go.Eng
attribute [local congr] andThen_congr fops_congr fdraw_congr afterOp_congr drawF_congr
attribute [-go_sem] List.range_succ
/-- What is made of d by a method that is bound to a value. -/
def DoAt (m : Nat) (fg : FuncId) (fv : Value) (σ0 : FState) (h : D → D) (d : D) : Prop := ∀ (lv : List Value) (R : Nat → Prop) (σ : FState), Ext σ0 σ → Wf σ → LaidR R σ (.agg lv.toArray) d → Gives ((env m).call fg [fv, .agg lv.toArray] none σ) σ fun w σ' => LaidR (fun b => σ.next ≤ b) σ' w (h d)
structure HeadEb (fg : FuncId) (fv : Value) (h : D → D) (bo base : Nat) (R : Nat → Prop) (q : Option Addr) (c : Nat) (ds : List D) (σ0 : FState) (i : Nat) (f g : Nat → Value) (σ : FState) : Prop where
  f0 : f 0 = .slice q ds.length c
  f1 : f 1 = .func (.func fg) #[fv] #[]
  f5 : f 5 = .slice (some ⟨bo, 0, none⟩) ds.length ds.length
  g14 : g 14 = .int .i64 (.ofNat ds.length)
  g15 : g 15 = .int .i64 (.ofNat i)
  cs : ∃ done rest ver, σ.heap.get bo = some ⟨.cells (done ++ rest) TD, false, none, ver⟩ ∧ Row (fun b => base ≤ b ∧ b ≠ bo) σ done ((ds.take i).map h) ∧ rest.length = (ds.length - i) * 4
  hbo : base ≤ bo
  lay : LaidRE R σ q 0 ds
  low : ∀ b, R b → b < base
  wf : Wf σ
  ext : Ext σ0 σ
  le : i ≤ ds.length
theorem eachB_loop (m : Nat) {fg : FuncId} {fv : Value} {h : D → D} {bo base : Nat} {R : Nat → Prop} {q : Option Addr} {c : Nat} {ds : List D} {σ0 : FState} (hC : ∀ d ∈ ds, DoAt m fg fv σ0 h d) (hb0 : σ0.next = base) (hfew : ds.length < 1000000) :
    ∀ (j fuel i : Nat) (f g : Nat → Value) (σ : FState), i + j = ds.length → j < fuel → HeadEb fg fv h bo base R q c ds σ0 i f g σ →
    ∃ f' g' σ', floop [14, 15, 28] (l106_0 (env m) none 106) fuel (Sl 7 29 f g []) none σ = .done (.exit 0) (Sl 7 29 f' g' []) none σ' ∧ HeadEb fg fv h bo base R q c ds σ0 ds.length f' g' σ' := by
  intro j
  induction j with
  | zero =>
    intro fuel i f g σ hij hf h
    obtain ⟨fuel, rfl⟩ : ∃ q, fuel = q + 1 := ⟨fuel - 1, by omega⟩
    obtain rfl : i = ds.length := by omega
    have d1 : decide (Int.ofNat ds.length < Int.ofNat ds.length) = false := by simp
    rw [floop_step, Sl_forget]
    unfold l106_0
    simp -implicitDefEqProofs only [go_sem, ↓reduceIte, Nat.reduceLT, Nat.reduceEqDiff, Nat.reduceAdd, Nat.reduceMul, Nat.reduceLeDiff, Nat.reduceSub, r106_5_go, r106_5U, h.g14, h.g15, d1, List.mem_cons]
    refine ⟨_, _, _, rfl, { h with g14 := ?_, g15 := ?_ }⟩
    · simp -implicitDefEqProofs only [upd_go, kept_go, ↓reduceIte, Nat.reduceEqDiff, Nat.reduceLT, reduceCtorEq, h.g14, List.mem_cons, true_or, or_true]
    · simp -implicitDefEqProofs only [upd_go, kept_go, ↓reduceIte, Nat.reduceEqDiff, Nat.reduceLT, reduceCtorEq, h.g15, List.mem_cons, true_or, or_true]
  | succ j ih =>
    intro fuel i f g σ hij hf h
    obtain ⟨fuel, rfl⟩ : ∃ q, fuel = q + 1 := ⟨fuel - 1, by omega⟩
    have hi : i < ds.length := by omega
    have d1 : decide (Int.ofNat i < Int.ofNat ds.length) = true := by simp; omega
    have hd : ds[i]? = some ds[i] := List.getElem?_eq_getElem hi
    obtain ⟨b, off, cs, rfl, hRb, hcs, hle, hL⟩ := LaidRE.get h.lay hd
    rw [Nat.zero_add] at hle hL
    obtain ⟨done, rest, ver, hg, hr, hrl⟩ := h.cs
    obtain ⟨w, σ1, e1, x1, hw1, hL1⟩ := hC _ (List.getElem_mem hi) ((cs.drop (off + i * 4)).take 4) R σ h.ext h.wf hL
    obtain ⟨l4, rfl, hl4, hone⟩ := hL1.agg
    have hbn := (h.wf _ _ hg).1
    have hg1 := (x1.get bo hbn).trans hg
    have hdl : done.length = i * 4 := by rw [hr.1, List.length_map, List.length_take]; omega
    have w1 := add1 i (by omega)
    have hr4 : 4 ≤ rest.length := by rw [hrl]; omega
    have e4 : ((done ++ rest).take (i * 4) ++ l4 ++ (done ++ rest).drop (i * 4 + 4)) = (done ++ l4) ++ rest.drop 4 := by
      rw [← hdl, List.take_left', List.drop_append]
      · simp [List.drop_eq_nil_of_le]
      · rfl
    have hlen : i * 4 + 4 ≤ (done ++ rest).length := by rw [List.length_append, hdl]; omega
    rw [floop_step, Sl_forget]
    unfold l106_0
    simp -implicitDefEqProofs only [go_sem, ↓reduceIte, Nat.reduceLT, Nat.reduceEqDiff, Nat.reduceAdd, Nat.reduceMul, Nat.reduceLeDiff, Nat.reduceSub, fstoreN, r106_5_go, r106_5U, r106_6_go, r106_6U, r106_7_go, r106_7U, r106_8_go, r106_8U, h.f0, h.f1, h.f5, h.g14, h.g15, d1, hi, hcs, hle, e1, hg1, hl4, hone, hlen, e4, w1, List.mem_cons]
    generalize hff : upd _ 6 _ = f1
    generalize hgg : upd _ 15 _ = g1
    have n1 := x1.next
    have hbase : base ≤ σ.next := by have := h.ext.next; omega
    have hbo := h.hbo
    have kc : ∀ (o : FObj) b cs, σ1.cells b = some cs → b ≠ bo → (σ1.put bo o none).cells b = some cs := fun o b cs hc hb => by rw [cells_put, if_neg hb]; exact hc
    exact ih fuel (i + 1) f1 g1 _ (by omega) (by omega) {
      f0 := by rw [← hff]; simp -implicitDefEqProofs only [upd_go, kept_go, ↓reduceIte, Nat.reduceEqDiff, Nat.reduceLT, reduceCtorEq, h.f0]
      f1 := by rw [← hff]; simp -implicitDefEqProofs only [upd_go, kept_go, ↓reduceIte, Nat.reduceEqDiff, Nat.reduceLT, reduceCtorEq, h.f1]
      f5 := by rw [← hff]; simp -implicitDefEqProofs only [upd_go, kept_go, ↓reduceIte, Nat.reduceEqDiff, Nat.reduceLT, reduceCtorEq, h.f5]
      g14 := by rw [← hgg]; simp -implicitDefEqProofs only [upd_go, kept_go, ↓reduceIte, Nat.reduceEqDiff, Nat.reduceLT, reduceCtorEq, h.g14, List.mem_cons, true_or, or_true]
      g15 := by rw [← hgg]; simp -implicitDefEqProofs only [upd_go, kept_go, ↓reduceIte, Nat.reduceEqDiff, Nat.reduceLT, reduceCtorEq]
      cs := ⟨done ++ l4, rest.drop 4, _, by rw [put_get, if_pos rfl], by
        rw [List.take_add_one, hd, List.map_append]
        exact (hr.keep fun b cs hb hc => ⟨kc _ b cs ((x1.cells (h.wf.cells hc)).trans hc) hb.2, hb⟩).snoc hl4 hone (hL1.keep fun b cs hb hc => ⟨kc _ b cs hc (by omega), by omega, by omega⟩), by rw [List.length_drop, hrl]; omega⟩
      hbo := h.hbo
      lay := h.lay.keep fun b cs hb hc => ⟨kc _ b cs ((x1.cells (h.wf.cells hc)).trans hc) (by have := h.low b hb; omega), hb⟩
      low := h.low
      wf := hw1.put _ _ _ (by omega)
      ext := (h.ext.trans x1).put _ _ _ (by omega)
      le := hi }
theorem eachB_step (m : Nat) (fg : FuncId) (fv : Value) (h : D → D) (ds : List D) (hfew : ds.length < 1000000) (q : Option Addr) (c : Nat) (R : Nat → Prop) (σ : FState) (hC : ∀ d ∈ ds, DoAt m fg fv σ h d) (hw : Wf σ) (hE : LaidRE R σ q 0 ds) :
    Gives ((env (m + 1)).call 106 [.slice q ds.length c, .func (.func fg) #[fv] #[]] none σ) σ fun w σ' => ∃ q' c', w = .slice q' (ds.map h).length c' ∧ LaidRE (fun b => σ.next ≤ b) σ' q' 0 (ds.map h) := by
  rw [env_call, enter106 _ _ _ _ (by simp), Sl_start]
  unfold run106
  cases hz : (Int.ofNat ds.length == (0 : Int)) with
  | true =>
    have h0 : ds = [] := by
      have := Int.ofNat.inj (eq_of_beq hz)
      exact List.length_eq_zero_iff.1 this
    subst h0
    simp -implicitDefEqProofs only [go_sem, ↓reduceIte, Nat.reduceLT, Nat.reduceEqDiff, Nat.reduceAdd, Nat.reduceMul, Nat.reduceLeDiff, Nat.reduceSub, r106_0_go, r106_0U, r106_1_go, r106_1U, r106_2_go, r106_2U, Option.getD_some, hz]
    exact ⟨_, _, rfl, Ext.refl _, hw, none, 0, rfl, trivial⟩
  | false =>
    have hmk := fun σ => makeSlice_go 28 56 [.int .i64 0, .int .i64 0, .string ⟨#[]⟩, .slice none 0 0] ds.length σ (by omega)
    simp -implicitDefEqProofs only [go_sem, ↓reduceIte, Nat.reduceLT, Nat.reduceEqDiff, Nat.reduceAdd, Nat.reduceMul, Nat.reduceLeDiff, Nat.reduceSub, r106_0_go, r106_0U, r106_1_go, r106_1U, r106_3_go, r106_3U, r106_4_go, r106_4U, Option.getD_some, hz, hmk, keepEach]
    generalize hff : upd _ 5 _ = f1
    generalize hgg : upd _ 15 _ = g1
    generalize hbf : bigFuel = fuel
    obtain ⟨f2, g2, σ2, e2, h2⟩ := eachB_loop m (fg := fg) (fv := fv) (h := h) (bo := σ.next) (base := σ.next) (R := fun b => R b ∧ b < σ.next) (q := q) (c := c) (σ0 := σ) hC rfl hfew ds.length fuel 0 f1 g1 (σ.push (.cells (reps ds.length [.int .i64 0, .int .i64 0, .string ⟨#[]⟩, .slice none 0 0]) TD) none) (by omega) (by rw [← hbf]; show ds.length < 1000000000000; omega) {
      f0 := by rw [← hff]; simp -implicitDefEqProofs only [upd_go, kept_go, ↓reduceIte, Nat.reduceEqDiff, Nat.reduceLT, reduceCtorEq, List.getElem?_cons_zero, List.getElem?_cons_succ, Option.getD_some]
      f1 := by rw [← hff]; simp -implicitDefEqProofs only [upd_go, kept_go, ↓reduceIte, Nat.reduceEqDiff, Nat.reduceLT, reduceCtorEq, List.getElem?_cons_zero, List.getElem?_cons_succ, Option.getD_some]
      f5 := by rw [← hff]; simp -implicitDefEqProofs only [upd_go, kept_go, ↓reduceIte, Nat.reduceEqDiff, Nat.reduceLT, reduceCtorEq]
      g14 := by rw [← hgg]; simp -implicitDefEqProofs only [upd_go, kept_go, ↓reduceIte, Nat.reduceEqDiff, Nat.reduceLT, reduceCtorEq]
      g15 := by rw [← hgg]; simp -implicitDefEqProofs only [upd_go, kept_go, ↓reduceIte, Nat.reduceEqDiff, Nat.reduceLT, reduceCtorEq] <;> rfl
      cs := ⟨[], reps ds.length [.int .i64 0, .int .i64 0, .string ⟨#[]⟩, .slice none 0 0], σ.clock, by rw [push_get, if_pos rfl]; rfl, Row.nil _ _, by rw [reps_length]; rfl⟩
      hbo := Nat.le_refl _
      lay := hE.keep fun b cs hb hc => ⟨by rw [cells_push, if_neg (by have := hw.cells hc; omega)]; exact hc, hb, hw.cells hc⟩
      low := fun b hb => hb.2
      wf := hw.push _ _
      ext := (Ext.refl _).push _ _
      le := Nat.zero_le _ }
    rw [e2]
    simp -implicitDefEqProofs only [go_sem, ↓reduceIte, Nat.reduceLT, Nat.reduceEqDiff, Nat.reduceAdd, Nat.reduceMul, Nat.reduceLeDiff, Nat.reduceSub, r106_9_go, r106_9U, h2.f5]
    obtain ⟨done, rest, ver, hg, hr, hrl⟩ := h2.cs
    rw [List.take_length] at hr
    have hrest : rest = [] := List.length_eq_zero_iff.1 (by rw [hrl]; omega)
    subst hrest
    rw [List.append_nil] at hg
    exact ⟨_, _, rfl, h2.ext, h2.wf, _, _, by rw [List.length_map], hr.elems (cells_of_get hg) (Nat.le_refl _) (fun c hc => hc.1) 0 (ds.map h) fun j e he => by rwa [Nat.zero_add]⟩
/-- A datum made anew. -/
theorem build_go (m : Nat) (fg : FuncId) (fv : Value) (h : D → D) (k z : Int) (t : ByteArray) (ds : List D) (hfew : ds.length < 1000000) (lv : List Value) (R : Nat → Prop) (σ : FState) (hC : ∀ d ∈ ds, DoAt m fg fv σ h d) (hw : Wf σ) (hL : LaidR R σ (.agg lv.toArray) (.mk k z t ds)) :
    Gives ((env (m + 2)).call 113 [.agg #[.func (.func fg) #[fv] #[]], .agg lv.toArray] none σ) σ fun w σ' => LaidR (fun b => σ.next ≤ b) σ' w (.mk k z t (ds.map h)) := by
  obtain ⟨q, c, hv, hE⟩ := hL
  have hlv : lv = [.int .i64 k, .int .i64 z, .string t, .slice q ds.length c] := by
    have := Value.agg.inj hv
    simpa using congrArg Array.toList this
  subst hlv
  rw [env_call, enter113 _ _ _ _ (by simp), Sl_start]
  unfold run113
  have x1 : Ext σ (((σ.push (.cells [.func (.func fg) #[fv] #[]] 145) none).push (.cells [.int .i64 k, .int .i64 z, .string t, .slice q ds.length c] TD) none).push (.cells [.int .i64 0, .int .i64 0, .string ⟨#[]⟩, .slice none 0 0] TD) none) := (((Ext.refl _).push _ _).push _ _).push _ _
  have hw1 := ((hw.push (.cells [.func (.func fg) #[fv] #[]] 145) none).push (.cells [.int .i64 k, .int .i64 z, .string t, .slice q ds.length c] TD) none).push (.cells [.int .i64 0, .int .i64 0, .string ⟨#[]⟩, .slice none 0 0] TD) none
  have c0 : (((σ.push (.cells [.func (.func fg) #[fv] #[]] 145) none).push (.cells [.int .i64 k, .int .i64 z, .string t, .slice q ds.length c] TD) none).push (.cells [.int .i64 0, .int .i64 0, .string ⟨#[]⟩, .slice none 0 0] TD) none).cells σ.next = some [.func (.func fg) #[fv] #[]] := by rw [cells_push, if_neg (by simp only [push_next]; omega), cells_push, if_neg (by rw [push_next]; omega), cells_push, if_pos rfl]; rfl
  have c1 : (((σ.push (.cells [.func (.func fg) #[fv] #[]] 145) none).push (.cells [.int .i64 k, .int .i64 z, .string t, .slice q ds.length c] TD) none).push (.cells [.int .i64 0, .int .i64 0, .string ⟨#[]⟩, .slice none 0 0] TD) none).cells (σ.next + 1) = some [.int .i64 k, .int .i64 z, .string t, .slice q ds.length c] := by rw [cells_push, if_neg (by simp only [push_next]; omega), cells_push, if_pos (by rw [push_next])]; rfl
  have g2 : (((σ.push (.cells [.func (.func fg) #[fv] #[]] 145) none).push (.cells [.int .i64 k, .int .i64 z, .string t, .slice q ds.length c] TD) none).push (.cells [.int .i64 0, .int .i64 0, .string ⟨#[]⟩, .slice none 0 0] TD) none).heap.get (σ.next + 2) = some ⟨.cells [.int .i64 0, .int .i64 0, .string ⟨#[]⟩, .slice none 0 0] TD, false, none, σ.clock + 2⟩ := by rw [push_get, if_pos (by simp only [push_next])]; rfl
  have kc : (((σ.push (.cells [.func (.func fg) #[fv] #[]] 145) none).push (.cells [.int .i64 k, .int .i64 z, .string t, .slice q ds.length c] TD) none).push (.cells [.int .i64 0, .int .i64 0, .string ⟨#[]⟩, .slice none 0 0] TD) none).clock = σ.clock + 3 := rfl
  have kn : (((σ.push (.cells [.func (.func fg) #[fv] #[]] 145) none).push (.cells [.int .i64 k, .int .i64 z, .string t, .slice q ds.length c] TD) none).push (.cells [.int .i64 0, .int .i64 0, .string ⟨#[]⟩, .slice none 0 0] TD) none).next = σ.next + 3 := rfl
  simp -implicitDefEqProofs only [go_sem, ↓reduceIte, Nat.reduceLT, Nat.reduceEqDiff, Nat.reduceAdd, Nat.reduceMul, Nat.reduceLeDiff, Nat.reduceSub, r113_0_go, r113_0U, Option.getD_some, notTuple_func, valCells_func, oneCell_func]
  generalize FState.push (FState.push (FState.push σ _ _) _ _) _ _ = σ1 at x1 hw1 c0 c1 g2 kc kn ⊢
  have hv1 := view_wf hw1 (lam := σ.clock + 3) (by omega)
  obtain ⟨_, σ2, e2, x2, hw2, q', c', rfl, hE'⟩ := eachB_step m fg fv h ds hfew q c R σ1 (fun d hd lv R σ' hx => hC d hd lv R σ' (x1.trans hx)) hw1 (hE.keep fun b cs hb hc => ⟨(x1.cells (hw.cells hc)).trans hc, hb⟩)
  have c2 : (view σ2 (σ.clock + 3)).cells (σ.next + 1) = some [.int .i64 k, .int .i64 z, .string t, .slice q ds.length c] := view_old hw1 (by omega) (x2.get _ (hw1.cells c1)) c1
  have g2' := (x2.get _ (hw1 _ _ g2).1).trans g2
  rw [List.length_map] at e2
  simp -implicitDefEqProofs only [go_sem, ↓reduceIte, Nat.reduceLT, Nat.reduceEqDiff, Nat.reduceAdd, Nat.reduceMul, Nat.reduceLeDiff, Nat.reduceSub, fstoreN, r113_1_go, r113_1U, hv1, c0, c1, e2, c2, g2', fleave_nil, fresults_nil, fresults_cons, fresult_cell, aggDatum]
  have n2 := x2.next
  exact ⟨_, _, rfl, (x1.trans x2).put _ _ _ (by omega), hw2.put _ _ _ (by omega), q', c', by rw [List.length_map], hE'.keep fun b cs hb hc => ⟨by rw [cells_put, if_neg (by omega)]; exact hc, by omega⟩⟩
end Go.Proofs.YtodkeaoikjjneaaGreatDoor
/- package datum's exchange: y in the place of what equals x. -/
namespace Go.Proofs.YtodkeaoikjjneaaGreatDoor
open Go Go.Eng
attribute [local congr] andThen_congr fops_congr fdraw_congr afterOp_congr drawF_congr
attribute [-go_sem] List.range_succ
theorem in_step (M n N0 : Nat) (hM : M = n + 2 * N0) (v8 xv yv : List Value) (h8 : v8.length = 8) (hxo : v8.take 4 = xv) (hyo : (v8.drop 4).take 4 = yv) (x y : D) (RX RY : Nat → Prop) (σ0 : FState) (hw0 : Wf σ0) (hLx : LaidR RX σ0 (.agg xv.toArray) x) (hLy : LaidR RY σ0 (.agg yv.toArray) y) (hyd : y.deep ≤ N0) (hyc : y.count < 1000000)
    (k z : Int) (t : ByteArray) (ds : List D) (hdd : (D.mk k z t ds).deep ≤ N0) (hdc : (D.mk k z t ds).count < 1000000)
    (hC : ∀ d ∈ ds, DoAt M 80 (.agg v8.toArray) σ0 (repl x y) d) : DoAt (M + 3) 80 (.agg v8.toArray) σ0 (repl x y) (.mk k z t ds) := by
  intro lv R σ hx0 hw hL
  have hL0 := hL
  obtain ⟨lv4, hlv4⟩ : ∃ n, lv.length = n := ⟨_, rfl⟩
  have h4 : lv.length = 4 := by
    obtain ⟨q, c, hv, _⟩ := hL
    have := congrArg Array.size (Value.agg.inj hv)
    simpa using this
  have ht : lv.take 4 = lv := List.take_of_length_le (by omega)
  have ht8 : v8.take 8 = v8 := List.take_of_length_le (by omega)
  have hxl : xv.length = 4 := by rw [← hxo, List.length_take]; omega
  have hyl : yv.length = 4 := by rw [← hyo, List.length_take, List.length_drop]; omega
  have hl48 : 4 ≤ v8.length - 4 := by omega
  rw [env_call, enter80 _ _ _ _ (by simp), Sl_start]
  unfold run80
  have x1 : Ext σ (((σ.push (.cells v8 99) none).push (.cells lv TD) none).push (.cells [.int .i64 0, .int .i64 0, .string ⟨#[]⟩, .slice none 0 0] TD) none) := (((Ext.refl _).push _ _).push _ _).push _ _
  have hw1 := ((hw.push (.cells v8 99) none).push (.cells lv TD) none).push (.cells [.int .i64 0, .int .i64 0, .string ⟨#[]⟩, .slice none 0 0] TD) none
  have c0 : (((σ.push (.cells v8 99) none).push (.cells lv TD) none).push (.cells [.int .i64 0, .int .i64 0, .string ⟨#[]⟩, .slice none 0 0] TD) none).cells σ.next = some v8 := by rw [cells_push, if_neg (by simp only [push_next]; omega), cells_push, if_neg (by rw [push_next]; omega), cells_push, if_pos rfl]; rfl
  have c1 : (((σ.push (.cells v8 99) none).push (.cells lv TD) none).push (.cells [.int .i64 0, .int .i64 0, .string ⟨#[]⟩, .slice none 0 0] TD) none).cells (σ.next + 1) = some lv := by rw [cells_push, if_neg (by simp only [push_next]; omega), cells_push, if_pos (by rw [push_next])]; rfl
  have g2 : (((σ.push (.cells v8 99) none).push (.cells lv TD) none).push (.cells [.int .i64 0, .int .i64 0, .string ⟨#[]⟩, .slice none 0 0] TD) none).heap.get (σ.next + 2) = some ⟨.cells [.int .i64 0, .int .i64 0, .string ⟨#[]⟩, .slice none 0 0] TD, false, none, σ.clock + 2⟩ := by rw [push_get, if_pos (by simp only [push_next])]; rfl
  have kn : (((σ.push (.cells v8 99) none).push (.cells lv TD) none).push (.cells [.int .i64 0, .int .i64 0, .string ⟨#[]⟩, .slice none 0 0] TD) none).next = σ.next + 3 := rfl
  simp -implicitDefEqProofs only [go_sem, ↓reduceIte, Nat.reduceLT, Nat.reduceEqDiff, Nat.reduceAdd, Nat.reduceMul, Nat.reduceLeDiff, Nat.reduceSub, r80_0_go, r80_0U, Option.getD_some]
  generalize hgg : upd _ 4 _ = g1
  generalize hff : upd _ 3 _ = f1
  have q2 : f1 2 = .pointer (some ⟨σ.next, 0, none⟩) := by rw [← hff]; simp -implicitDefEqProofs only [upd_go, kept_go, ↓reduceIte, Nat.reduceEqDiff, Nat.reduceLT, reduceCtorEq]
  have q3 : f1 3 = .pointer (some ⟨σ.next + 1, 0, none⟩) := by rw [← hff]; simp -implicitDefEqProofs only [upd_go, kept_go, ↓reduceIte, Nat.reduceEqDiff, Nat.reduceLT, reduceCtorEq]
  have q4 : g1 4 = .pointer (some ⟨σ.next + 2, 0, none⟩) := by rw [← hgg]; simp -implicitDefEqProofs only [upd_go, kept_go, ↓reduceIte, Nat.reduceEqDiff, Nat.reduceLT, reduceCtorEq]
  clear hff hgg
  generalize FState.push (FState.push (FState.push σ _ _) _ _) _ _ = σ1 at x1 hw1 c0 c1 g2 kn ⊢
  have x01 := hx0.trans x1
  have kl : ∀ {R : Nat → Prop} {v : Value} {e : D} (σ' : FState), Ext σ0 σ' → LaidR R σ0 v e → LaidR R σ' v e := fun σ' hx h => h.keep fun b cs hb hc => ⟨(hx.cells (hw0.cells hc)).trans hc, hb⟩
  have kd : ∀ (σ' : FState), Ext σ σ' → LaidR R σ' (.agg lv.toArray) (.mk k z t ds) := fun σ' hx => hL0.keep fun b cs hb hc => ⟨(hx.cells (hw.cells hc)).trans hc, hb⟩
  obtain ⟨_, σ2, e2, x2, hw2, rfl⟩ := equal_go (n + 2) N0 (.mk k z t ds) x (.agg lv.toArray) (.agg xv.toArray) σ1 hdd (by omega) hw1 (kd σ1 x1).laid (kl σ1 x01 hLx).laid
  rw [show n + 2 + 2 * N0 = M + 2 by omega] at e2
  have n2 := x2.next
  have c02 := (x2.cells (hw1.cells c0)).trans c0
  have c12 := (x2.cells (hw1.cells c1)).trans c1
  have g22 := (x2.get _ (hw1 _ _ g2).1).trans g2
  have x12 := x1.trans x2
  cases e : D.same (.mk k z t ds) x with
  | true =>
    rw [e] at e2
    have hcp := copy_go (n + 2) N0 y hyd hyc
    rw [show n + 2 + 2 * N0 = M + 2 by omega] at hcp
    obtain ⟨_, σ3, e3, x3, hw3, hq⟩ := hcp yv RY σ2 hw2 (kl σ2 (hx0.trans x12) hLy)
    obtain ⟨l4, rfl, hl4, hone⟩ := hq.agg
    have g23 := (x3.get _ (by omega)).trans g22
    simp -implicitDefEqProofs only [go_sem, ↓reduceIte, Nat.reduceLT, Nat.reduceEqDiff, Nat.reduceAdd, Nat.reduceMul, Nat.reduceLeDiff, Nat.reduceSub, fstoreN, r80_1_go, r80_1U, r80_2_go, r80_2U, q2, q3, q4, c0, c1, h4, h8, ht, hxo, hyo, hl48, e2, c02, e3, g23, hl4, hone, fleave_nil, fresults_nil, fresults_cons, fresult_cell, aggDatum, Nat.le_refl]
    have ht4 : l4.take 4 = l4 := List.take_of_length_le (by omega)
    refine ⟨_, _, rfl, (x12.trans x3).put _ _ _ (by omega), hw3.put _ _ _ (by have := x3.next; omega), ?_⟩
    rw [repl, if_pos e]
    rw [ht4]
    exact hq.keep fun b cs hb hc => ⟨by rw [cells_put, if_neg (by omega)]; exact hc, by omega⟩
  | false =>
    rw [e] at e2
    obtain ⟨_, σ3, e3, x3, hw3, hq⟩ := build_go M 80 (.agg v8.toArray) (repl x y) k z t ds (by have := length_counts ds; rw [D.count] at hdc; omega) lv R σ2 (fun d hd lv R σ' hx => hC d hd lv R σ' ((hx0.trans x12).trans hx)) hw2 (kd σ2 x12)
    obtain ⟨l4, rfl, hl4, hone⟩ := hq.agg
    have g23 := (x3.get _ (by omega)).trans g22
    simp -implicitDefEqProofs only [go_sem, ↓reduceIte, Nat.reduceLT, Nat.reduceEqDiff, Nat.reduceAdd, Nat.reduceMul, Nat.reduceLeDiff, Nat.reduceSub, fstoreN, r80_1_go, r80_1U, r80_3_go, r80_3U, q2, q3, q4, c0, c1, h4, h8, ht, ht8, hxo, e2, c02, c12, e3, g23, hl4, hone, notTuple_func, valCells_func, oneCell_func, fleave_nil, fresults_nil, fresults_cons, fresult_cell, aggDatum, Nat.le_refl]
    have ht4 : l4.take 4 = l4 := List.take_of_length_le (by omega)
    refine ⟨_, _, rfl, (x12.trans x3).put _ _ _ (by omega), hw3.put _ _ _ (by have := x3.next; omega), ?_⟩
    rw [repl, if_neg (by rw [e]; simp), repls_map, ht4]
    exact hq.keep fun b cs hb hc => ⟨by rw [cells_put, if_neg (by omega)]; exact hc, by omega⟩
end Go.Proofs.YtodkeaoikjjneaaGreatDoor
/- datum.Replace. -/
namespace Go.Proofs.YtodkeaoikjjneaaGreatDoor
open Go Go.Eng
attribute [local congr] andThen_congr fops_congr fdraw_congr afterOp_congr drawF_congr
attribute [-go_sem] List.range_succ
theorem in_go (n N0 : Nat) (v8 xv yv : List Value) (h8 : v8.length = 8) (hxo : v8.take 4 = xv) (hyo : (v8.drop 4).take 4 = yv) (x y : D) (RX RY : Nat → Prop) (σ0 : FState) (hw0 : Wf σ0) (hLx : LaidR RX σ0 (.agg xv.toArray) x) (hLy : LaidR RY σ0 (.agg yv.toArray) y) (hyd : y.deep ≤ N0) (hyc : y.count < 1000000) :
    ∀ (L : Nat) (d : D), d.deep ≤ L → L ≤ N0 → d.count < 1000000 → DoAt (n + 2 * N0 + 3 * L) 80 (.agg v8.toArray) σ0 (repl x y) d
  | 0, d, h, _, _ => by cases d; rw [D.deep] at h; omega
  | L + 1, .mk k z t ds, h, hL, hc => by
    have hd' : (D.mk k z t ds).deep ≤ N0 := by omega
    have hc' := hc
    rw [D.deep] at h
    rw [D.count] at hc
    exact in_step (n + 2 * N0 + 3 * L) (n + 3 * L) N0 (by omega) v8 xv yv h8 hxo hyo x y RX RY σ0 hw0 hLx hLy hyd hyc k z t ds hd' hc' fun d hd => in_go n N0 v8 xv yv h8 hxo hyo x y RX RY σ0 hw0 hLx hLy hyd hyc L d (by have := deeps_mem hd; omega) (by omega) (by have := count_mem hd; omega)
/-- What Replace reckons. -/
theorem repl_sum (x y d : D) (h1 : d.count ≤ 2000) (h2 : x.count ≤ 2000) (h3 : y.count ≤ 2000) (ho : occN x d ≤ 2000) :
    wrapI (Int.ofNat y.count - Int.ofNat x.count) = (y.count : Int) - x.count ∧ wrapI (Int.ofNat (occN x d) * ((y.count : Int) - x.count)) = (occN x d : Int) * ((y.count : Int) - x.count) ∧ wrapI (Int.ofNat d.count + (occN x d : Int) * ((y.count : Int) - x.count)) = Int.ofNat (repl x y d).count := by
  have hs := repl_count x y d
  have b1 : occN x d * y.count ≤ 2000 * 2000 := Nat.mul_le_mul ho h3
  have b2 : occN x d * x.count ≤ 2000 * 2000 := Nat.mul_le_mul ho h2
  have e : (occN x d : Int) * ((y.count : Int) - x.count) = ((occN x d * y.count : Nat) : Int) - ((occN x d * x.count : Nat) : Int) := by rw [Int.mul_sub, Int.natCast_mul, Int.natCast_mul]
  rw [e]
  refine ⟨?_, ?_, ?_⟩
  · rw [wrapI_of (by simp only [Int.ofNat_eq_natCast]; omega)]; simp only [Int.ofNat_eq_natCast]
  · rw [Int.ofNat_eq_natCast, e, wrapI_of (by omega)]
  · rw [wrapI_of (by simp only [Int.ofNat_eq_natCast]; omega)]
    simp only [Int.ofNat_eq_natCast]
    omega
theorem replace1 (M n : Nat) (hM : M = n + 24) (b1 b2 b3 : Nat) (L Lx Ly : Nat) (hL : L ≤ 4) (hLx6 : Lx ≤ 6) (hLy6 : Ly ≤ 6) (d x y : D) (hF : Fine M L d) (hFx : Fine M Lx x) (hFy : Fine M Ly y) (hz : (repl x y d).count ≤ 2000) (lv xv yv : List Value) (h4 : lv.length = 4) (R X RY : Nat → Prop) (σ : FState) (hw : Wf σ) (hb1 : σ.cells b1 = some lv) (hb2 : σ.cells b2 = some xv) (hb3 : σ.cells b3 = some yv) (hLd : LaidR R σ (.agg lv.toArray) d) (hLx : LaidR (fun b => R b ∨ X b) σ (.agg xv.toArray) x) (hLy : LaidR RY σ (.agg yv.toArray) y) (hR : ∀ b, R b → b < σ.next ∧ ¬ X b) (hX : ∀ b, X b → b < σ.next) (hRY : ∀ b, RY b → b < σ.next) :
    Gives ((env (M + 6)).call 79 [.pointer (some ⟨b1, 0, none⟩), .pointer (some ⟨b2, 0, none⟩), .pointer (some ⟨b3, 0, none⟩)] none σ) σ fun w σ' => LaidR (fun b => σ.next ≤ b) σ' w (repl x y d) := by
  have hf := hF.few (by omega)
  have hfx := hFx.few hLx6
  have hfy := hFy.few hLy6
  have pd := pieces_length d []
  have px := pieces_length x []
  have py := pieces_length y []
  have ht : lv.take 4 = lv := List.take_of_length_le (by omega)
  have ho : occN x d ≤ 2000 := by rw [← found_len x d []]; have := foundIn_le x (d.pieces []); omega
  obtain ⟨s1, s2, s3⟩ := repl_sum x y d (by omega) (by omega) (by omega) ho
  obtain ⟨kx, zx, tx, qx, cx, dx, hxe, hxv⟩ := laid_list hLx.laid
  obtain ⟨ky, zy, ty, qy, cy, dy, hye, hyv⟩ := laid_list hLy.laid
  have hxl : xv.length = 4 := by rw [hxv]; rfl
  have hyl : yv.length = 4 := by rw [hyv]; rfl
  have x0 : Ext σ (σ.push (.cells [.int .i64 0, .int .i64 0, .string ⟨#[]⟩, .slice none 0 0] TD) none) := (Ext.refl _).push _ _
  have hw0 := hw.push (.cells [.int .i64 0, .int .i64 0, .string ⟨#[]⟩, .slice none 0 0] TD) none
  have g0 : (σ.push (.cells [.int .i64 0, .int .i64 0, .string ⟨#[]⟩, .slice none 0 0] TD) none).heap.get σ.next = some ⟨.cells [.int .i64 0, .int .i64 0, .string ⟨#[]⟩, .slice none 0 0] TD, false, none, σ.clock⟩ := by rw [push_get, if_pos rfl]
  have kl : ∀ {R : Nat → Prop} {v : Value} {e : D} (σ' : FState), Ext σ σ' → LaidR R σ v e → LaidR R σ' v e := fun σ' hx h => h.keep fun b cs hb hc => ⟨(hx.cells (hw.cells hc)).trans hc, hb⟩
  have kc : ∀ {b : Nat} {cs : List Value} (σ' : FState), Ext σ σ' → σ.cells b = some cs → σ'.cells b = some cs := fun σ' hx hc => (hx.cells (hw.cells hc)).trans hc
  have ne1 : (b1 = σ.next) = False := by have := hw.cells hb1; simp; omega
  rw [env_call, enter79 _ _ _ _ (by simp), Sl_start]
  unfold run79
  obtain ⟨_, σ1, e1, x1, hw1, rfl⟩ := valid_go M d lv h4 R _ hw0 (kl _ x0 hLd) (fun b hb => by have := (hR b hb).1; rw [push_next]; omega) (hF.small (by omega)) (by omega) hF.good
  have X1 := x0.trans x1
  have n1 := X1.next
  obtain ⟨_, σ2, e2, x2, hw2, rfl⟩ := valid_go M x xv hxl (fun b => R b ∨ X b) σ1 hw1 (kl _ X1 hLx) (fun b hb => by rcases hb with hb | hb; have := (hR b hb).1; omega; have := hX b hb; omega) (hFx.small hLx6) (by omega) hFx.good
  have X2 := X1.trans x2
  have n2 := X2.next
  obtain ⟨_, σ3, e3, x3, hw3, rfl⟩ := valid_go M y yv hyl RY σ2 hw2 (kl _ X2 hLy) (fun b hb => by have := hRY b hb; omega) (hFy.small hLy6) (by omega) hFy.good
  have X3 := X2.trans x3
  have n3 := X3.next
  have hdd := hF.deep_le
  have hyd := hFy.deep_le
  obtain ⟨w4, σ4, e4, x4, hw4, us, hv4, hp4⟩ := find_go M (n + 10) 7 (by omega) d x lv xv h4 hxl R X σ3 hw3 (kl _ X3 hLd) (kl _ X3 hLx) (fun b hb => ⟨by have := (hR b hb).1; omega, (hR b hb).2⟩) (fun b hb => by have := hX b hb; omega) (hF.small (by omega)) (by omega) (fun y hy => by have := pieces_le d [] y hy; omega)
  have X4 := X3.trans x4
  have hul : us.length = occN x d := by rw [hp4.length, found_len]
  obtain ⟨aw, cw, hw4e, _⟩ := vecs_slice hv4
  rw [hul] at hw4e
  subst hw4e
  have hlim := fun τ => limit_go (M + 4) (.ofNat (repl x y d).count) (by rw [Int.ofNat_eq_natCast]; omega) τ
  have hin := in_go n 7 (xv ++ yv) xv yv (by rw [List.length_append]; omega) (by rw [List.take_left' hxl]) (by rw [List.drop_left' hxl, List.take_of_length_le (by omega)]) x y (fun b => R b ∨ X b) RY σ4 hw4 (kl _ X4 hLx) (kl _ X4 hLy) (by omega) (by omega) 5 d (by omega) (by omega) (by omega)
  rw [show n + 2 * 7 + 3 * 5 = M + 5 by omega] at hin
  obtain ⟨_, σ5, e5, x5, hw5, hq⟩ := hin lv R σ4 (Ext.refl _) hw4 (kl _ X4 hLd)
  obtain ⟨l4, rfl, hl4, hone⟩ := hq.agg
  have g05 : σ5.heap.get σ.next = _ := (x5.get _ (by have := (x1.trans (x2.trans (x3.trans x4))).next; rw [push_next] at this; omega)).trans (((x1.trans (x2.trans (x3.trans x4))).get σ.next (by rw [push_next]; omega)).trans g0)
  have m0 := (hw5 _ _ g05).1
  have ht4 : l4.take 4 = l4 := List.take_of_length_le (by omega)
  rw [hxv, hyv] at e5
  simp only [List.cons_append, List.nil_append] at e5
  rw [hxv] at hb2 e2 e4
  rw [hyv] at hb3 e3
  rw [pd] at e1
  rw [px] at e2
  rw [py] at e3
  have c2a := kc _ X1 hb2
  have c3a := kc _ X2 hb3
  have c1b := kc _ X3 hb1
  have c2b := kc _ X3 hb2
  have c1c := kc _ X4 hb1
  have c2c := kc _ X4 hb2
  have c3c := kc _ X4 hb3
  simp -implicitDefEqProofs only [go_sem, ↓reduceIte, Nat.reduceLT, Nat.reduceEqDiff, Nat.reduceAdd, Nat.reduceMul, Nat.reduceLeDiff, Nat.reduceSub, fstoreN, r79_0_go, r79_0U, r79_1_go, r79_1U, r79_2_go, r79_2U, r79_3_go, r79_3U, r79_4_go, r79_4U, r79_5_go, r79_5U, Option.getD_some, hb1, ne1, c2a, c3a, c1b, c2b, c1c, c2c, c3c, h4, ht, e1, e2, e3, e4, s1, s2, s3, hlim, e5, g05, hl4, hone, aggDatum, fleave_nil, fresults_nil, fresults_cons, fresult_cell, Nat.le_refl]
  rw [ht4]
  exact ⟨_, _, rfl, (X4.trans x5).put _ _ _ (Nat.le_refl _), hw5.put _ _ _ m0, hq.keep fun b cs hb hc => ⟨by rw [cells_put, if_neg (by have := (x1.trans (x2.trans (x3.trans x4))).next; rw [push_next] at this; omega)]; exact hc, by have := X4.next; omega⟩⟩
/-- datum.Replace. -/
theorem replaceD_go (M n : Nat) (hM : M = n + 24) (L Lx Ly : Nat) (hL : L ≤ 4) (hLx6 : Lx ≤ 6) (hLy6 : Ly ≤ 6) (d x y : D) (hF : Fine M L d) (hFx : Fine M Lx x) (hFy : Fine M Ly y) (hz : (repl x y d).count ≤ 2000) (lv xv yv : List Value) (h4 : lv.length = 4) (R X RY : Nat → Prop) (σ : FState) (hw : Wf σ) (hLd : LaidR R σ (.agg lv.toArray) d) (hLx : LaidR (fun b => R b ∨ X b) σ (.agg xv.toArray) x) (hLy : LaidR RY σ (.agg yv.toArray) y) (hR : ∀ b, R b → b < σ.next ∧ ¬ X b) (hX : ∀ b, X b → b < σ.next) (hRY : ∀ b, RY b → b < σ.next) :
    Gives ((env (M + 9)).call 30 [.agg lv.toArray, .agg xv.toArray, .agg yv.toArray] none σ) σ fun w σ' => ∃ u, w = .tuple #[u, .int .i64 0] ∧ LaidR (fun b => σ.next ≤ b) σ' u (repl x y d) := by
  rw [env_call, enter30 _ _ _ _ (by simp), Sl_start]
  unfold run30
  have x1 : Ext σ ((((σ.push (.cells lv TD) none).push (.cells xv TD) none).push (.cells yv TD) none).push (.cells [.int .i64 0, .int .i64 0, .string ⟨#[]⟩, .slice none 0 0] TD) none) := ((((Ext.refl _).push _ _).push _ _).push _ _).push _ _
  have hw1 := (((hw.push (.cells lv TD) none).push (.cells xv TD) none).push (.cells yv TD) none).push (.cells [.int .i64 0, .int .i64 0, .string ⟨#[]⟩, .slice none 0 0] TD) none
  have c1 : ((((σ.push (.cells lv TD) none).push (.cells xv TD) none).push (.cells yv TD) none).push (.cells [.int .i64 0, .int .i64 0, .string ⟨#[]⟩, .slice none 0 0] TD) none).cells σ.next = some lv := by rw [cells_push, if_neg (by simp only [push_next]; omega), cells_push, if_neg (by simp only [push_next]; omega), cells_push, if_neg (by rw [push_next]; omega), cells_push, if_pos rfl]; rfl
  have c2 : ((((σ.push (.cells lv TD) none).push (.cells xv TD) none).push (.cells yv TD) none).push (.cells [.int .i64 0, .int .i64 0, .string ⟨#[]⟩, .slice none 0 0] TD) none).cells (σ.next + 1) = some xv := by rw [cells_push, if_neg (by simp only [push_next]; omega), cells_push, if_neg (by simp only [push_next]; omega), cells_push, if_pos (by rw [push_next])]; rfl
  have c3 : ((((σ.push (.cells lv TD) none).push (.cells xv TD) none).push (.cells yv TD) none).push (.cells [.int .i64 0, .int .i64 0, .string ⟨#[]⟩, .slice none 0 0] TD) none).cells (σ.next + 2) = some yv := by rw [cells_push, if_neg (by simp only [push_next]; omega), cells_push, if_pos (by simp only [push_next])]; rfl
  have g4 : ((((σ.push (.cells lv TD) none).push (.cells xv TD) none).push (.cells yv TD) none).push (.cells [.int .i64 0, .int .i64 0, .string ⟨#[]⟩, .slice none 0 0] TD) none).heap.get (σ.next + 3) = some ⟨.cells [.int .i64 0, .int .i64 0, .string ⟨#[]⟩, .slice none 0 0] TD, false, none, σ.clock + 3⟩ := by rw [push_get, if_pos (by simp only [push_next])]; rfl
  obtain ⟨_, σ2, e2, x2, hw2, u, rfl, hq⟩ := callD (M + 5) 79 #[.pointer (some ⟨σ.next, 0, none⟩), .pointer (some ⟨σ.next + 1, 0, none⟩), .pointer (some ⟨σ.next + 2, 0, none⟩)] (repl x y d) _ hw1 fun σ' hx' hw' =>
    replace1 M n hM σ.next (σ.next + 1) (σ.next + 2) L Lx Ly hL hLx6 hLy6 d x y hF hFx hFy hz lv xv yv h4 R X RY σ' hw' ((hx'.cells (hw1.cells c1)).trans c1) ((hx'.cells (hw1.cells c2)).trans c2) ((hx'.cells (hw1.cells c3)).trans c3) (hLd.keep fun b cs hb hc => ⟨((x1.trans hx').cells (hw.cells hc)).trans hc, hb⟩) (hLx.keep fun b cs hb hc => ⟨((x1.trans hx').cells (hw.cells hc)).trans hc, hb⟩) (hLy.keep fun b cs hb hc => ⟨((x1.trans hx').cells (hw.cells hc)).trans hc, hb⟩) (fun b hb => ⟨by have := (hR b hb).1; have := (x1.trans hx').next; omega, (hR b hb).2⟩) (fun b hb => by have := hX b hb; have := (x1.trans hx').next; omega) (fun b hb => by have := hRY b hb; have := (x1.trans hx').next; omega)
  have hq0 := hq
  obtain ⟨l4, rfl, hl4, hone⟩ := hq.agg
  have ht4 : l4.take 4 = l4 := List.take_of_length_le (by omega)
  have g4' := (x2.get _ (hw1 _ _ g4).1).trans g4
  have m4 := (hw2 _ _ g4').1
  simp -implicitDefEqProofs only [go_sem, ↓reduceIte, Nat.reduceLT, Nat.reduceEqDiff, Nat.reduceAdd, Nat.reduceMul, Nat.reduceLeDiff, Nat.reduceSub, fstoreN, r30_0_go, r30_0U, r30_1_go, r30_1U, Option.getD_some, e2, g4', hl4, hone, ht4, aggDatum, fleave_nil, fresults_nil, fresults_cons, fresult_cell, fresult_tmp, List.getElem?_cons_zero, List.getElem?_cons_succ]
  exact ⟨_, _, rfl, (x1.trans x2).put _ _ _ (by omega), hw2.put _ _ _ m4, _, rfl, hq0.keep fun b cs hb hc => by
    simp only [push_next] at hb
    exact ⟨by rw [cells_put, if_neg (by omega)]; exact hc, by omega⟩⟩
end Go.Proofs.YtodkeaoikjjneaaGreatDoor
/- Functions of the program, written out in the reading's words (made by program; the kernel holds each against the code). -/
namespace Go.Proofs.YtodkeaoikjjneaaGreatDoor
open Go Go.Eng
variable (E : Env) (ro : Option Nat) (last : List Nat → RunF) (cl : List Nat) (a : FAct) (u : Option FrameMode) (σ : FState)
/-! caracole/caracolelaw01.DatumReplaced -/
noncomputable def r6_0U (_ : Unit) : List COp := [⟨fun a σ => .val (.bool false) σ, (some 2), fun _ => some true⟩]
noncomputable def r6_0 : List COp := r6_0U ()
noncomputable def r6_1U (_ : Unit) : List COp := [⟨fun a σ => .val (a.get 0) σ, (some 26), fun _ => some true⟩,
  ⟨fun a σ => .enter 11 [(a.get 26)] σ, (some 27), fun _ => some true⟩,
  ⟨fun a σ => .val (a.get 27) σ, (some 3), fun _ => some true⟩]
noncomputable def r6_1 : List COp := r6_1U ()
noncomputable def r6_2U (_ : Unit) : List COp := [⟨fun a σ => .val (a.get 3) σ, (some 28), fun _ => some true⟩,
  ⟨fun a σ => .enter 13 [(a.get 28), (.int .i64 4)] σ, (some 29), fun _ => some true⟩,
  ⟨fun a σ => .val (a.get 3) σ, (some 30), fun _ => some true⟩,
  ⟨fun a σ => .enter 13 [(a.get 30), (.int .i64 2)] σ, (some 31), fun _ => some true⟩,
  ⟨fun a σ => newCells [(.int .i64 0), (.int .i64 0), (.string ⟨#[]⟩), (.slice none 0 0)] 28 none σ, (some 4), fun _ => some true⟩,
  ⟨fun a σ => newCells [(.int .i64 0), (.int .i64 0), (.string ⟨#[]⟩), (.slice none 0 0)] 28 none σ, (some 5), fun _ => some true⟩,
  ⟨fun a σ => fstore 4 (a.get 4) (a.get 29) σ, none, fun _ => some true⟩,
  ⟨fun a σ => fstore 4 (a.get 5) (a.get 31) σ, none, fun _ => some true⟩]
noncomputable def r6_2 : List COp := r6_2U ()
noncomputable def r6_3U (_ : Unit) : List COp := [⟨fun a σ => fload (some 4) (a.get 4) σ, (some 32), fun _ => some true⟩,
  ⟨fun a σ => .enter 22 [(a.get 32), (.slice none 0 0)] σ, (some 33), fun _ => some true⟩,
  ⟨fun a σ => .val (a.get 33) σ, (some 6), fun _ => some true⟩]
noncomputable def r6_3 : List COp := r6_3U ()
noncomputable def r6_4U (_ : Unit) : List DOp := [⟨fun a σ => .val (a.get 3) σ, (some 37), fun _ => some true, (some 0), false⟩,
  ⟨fun a σ => .val (a.get 6) σ, (some 38), fun _ => some true, (some 0), false⟩,
  ⟨fun a σ => flenL (a.get 38) σ, (some 39), fun _ => some true, (some 0), false⟩,
  ⟨fun a σ => i_sub Tryz.prog 3 (.tmp 39) (.const (.int .i64 1)) (a.get 39) (.int .i64 1) σ, (some 40), fun _ => some true, (some 0), false⟩,
  ⟨fun a σ => .enter 12 [(a.get 37), (a.get 40)] σ, (some 41), fun _ => some true, none, false⟩,
  ⟨fun a σ => fload (some 4) (a.get 4) σ, (some 35), fun _ => some true, (some 0), false⟩,
  ⟨fun a σ => .val (a.get 6) σ, (some 36), fun _ => some true, (some 0), false⟩,
  ⟨fun a σ => findex (none, 1) (a.get 36) (a.get 41) σ, (some 42), fun _ => some true, (some 1), false⟩,
  ⟨fun a σ => fload none (a.get 42) σ, (some 43), fun _ => some true, (some 1), false⟩,
  ⟨fun a σ => .enter 27 [(a.get 35), (a.get 43)] σ, (some 44), fun _ => some true, none, false⟩,
  ⟨fun a σ => .val (a.get 44) σ, (some 34), fun _ => some true, (some 2), false⟩,
  ⟨fun a σ => fextract 0 (a.get 34) σ, (some 45), fun _ => some true, (some 2), false⟩,
  ⟨fun a σ => newCells [(.int .i64 0), (.int .i64 0), (.string ⟨#[]⟩), (.slice none 0 0)] 28 none σ, (some 7), fun _ => some true, (some 0), false⟩,
  ⟨fun a σ => fstore 4 (a.get 7) (a.get 45) σ, none, fun _ => some true, none, false⟩,
  ⟨fun a σ => fextract 1 (a.get 34) σ, (some 46), fun _ => some true, (some 2), false⟩,
  ⟨fun a σ => .val (a.get 46) σ, (some 8), fun _ => some true, (some 3), false⟩]
noncomputable def r6_4 : List DOp := r6_4U ()
noncomputable def r6_5U (_ : Unit) : List COp := [⟨fun a σ => fload (some 4) (a.get 4) σ, (some 48), fun _ => some true⟩,
  ⟨fun a σ => fload (some 4) (a.get 7) σ, (some 49), fun _ => some true⟩,
  ⟨fun a σ => .enter 28 [(a.get 48), (a.get 49)] σ, (some 50), fun _ => some true⟩,
  ⟨fun a σ => .val (a.get 50) σ, (some 47), fun _ => some true⟩,
  ⟨fun a σ => fextract 0 (a.get 47) σ, (some 51), fun _ => some true⟩,
  ⟨fun a σ => fextract 1 (a.get 47) σ, (some 52), fun _ => some true⟩,
  ⟨fun a σ => .val (a.get 51) σ, (some 9), fun _ => some true⟩,
  ⟨fun a σ => .val (a.get 52) σ, (some 10), fun _ => some true⟩]
noncomputable def r6_5 : List COp := r6_5U ()
noncomputable def r6_6U (_ : Unit) : List COp := [⟨fun a σ => fload (some 4) (a.get 4) σ, (some 54), fun _ => some true⟩,
  ⟨fun a σ => fload (some 4) (a.get 7) σ, (some 55), fun _ => some true⟩,
  ⟨fun a σ => fload (some 4) (a.get 5) σ, (some 56), fun _ => some true⟩,
  ⟨fun a σ => .enter 30 [(a.get 54), (a.get 55), (a.get 56)] σ, (some 57), fun _ => some true⟩,
  ⟨fun a σ => .val (a.get 57) σ, (some 53), fun _ => some true⟩,
  ⟨fun a σ => fextract 0 (a.get 53) σ, (some 58), fun _ => some true⟩,
  ⟨fun a σ => fextract 1 (a.get 53) σ, (some 59), fun _ => some true⟩,
  ⟨fun a σ => newCells [(.int .i64 0), (.int .i64 0), (.string ⟨#[]⟩), (.slice none 0 0)] 28 none σ, (some 11), fun _ => some true⟩,
  ⟨fun a σ => fstore 4 (a.get 11) (a.get 58) σ, none, fun _ => some true⟩,
  ⟨fun a σ => .val (a.get 59) σ, (some 12), fun _ => some true⟩]
noncomputable def r6_6 : List COp := r6_6U ()
noncomputable def r6_7U (_ : Unit) : List COp := [⟨fun a σ => fload (some 4) (a.get 4) σ, (some 61), fun _ => some true⟩,
  ⟨fun a σ => fload (some 4) (a.get 7) σ, (some 62), fun _ => some true⟩,
  ⟨fun a σ => fload (some 4) (a.get 7) σ, (some 63), fun _ => some true⟩,
  ⟨fun a σ => .enter 30 [(a.get 61), (a.get 62), (a.get 63)] σ, (some 64), fun _ => some true⟩,
  ⟨fun a σ => .val (a.get 64) σ, (some 60), fun _ => some true⟩,
  ⟨fun a σ => fextract 0 (a.get 60) σ, (some 65), fun _ => some true⟩,
  ⟨fun a σ => fextract 1 (a.get 60) σ, (some 66), fun _ => some true⟩,
  ⟨fun a σ => newCells [(.int .i64 0), (.int .i64 0), (.string ⟨#[]⟩), (.slice none 0 0)] 28 none σ, (some 13), fun _ => some true⟩,
  ⟨fun a σ => fstore 4 (a.get 13) (a.get 65) σ, none, fun _ => some true⟩,
  ⟨fun a σ => .val (a.get 66) σ, (some 14), fun _ => some true⟩]
noncomputable def r6_7 : List COp := r6_7U ()
noncomputable def r6_8U (_ : Unit) : List COp := [⟨fun a σ => fload (some 4) (a.get 11) σ, (some 68), fun _ => some true⟩,
  ⟨fun a σ => fload (some 4) (a.get 7) σ, (some 69), fun _ => some true⟩,
  ⟨fun a σ => .enter 28 [(a.get 68), (a.get 69)] σ, (some 70), fun _ => some true⟩,
  ⟨fun a σ => .val (a.get 70) σ, (some 67), fun _ => some true⟩,
  ⟨fun a σ => fextract 0 (a.get 67) σ, (some 71), fun _ => some true⟩,
  ⟨fun a σ => fextract 1 (a.get 67) σ, (some 72), fun _ => some true⟩,
  ⟨fun a σ => .val (a.get 71) σ, (some 15), fun _ => some true⟩,
  ⟨fun a σ => .val (a.get 72) σ, (some 16), fun _ => some true⟩]
noncomputable def r6_8 : List COp := r6_8U ()
noncomputable def r6_9U (_ : Unit) : List COp := [⟨fun a σ => fload (some 4) (a.get 11) σ, (some 74), fun _ => some true⟩,
  ⟨fun a σ => .enter 31 [(a.get 74)] σ, (some 75), fun _ => some true⟩,
  ⟨fun a σ => .val (a.get 75) σ, (some 73), fun _ => some true⟩,
  ⟨fun a σ => fextract 0 (a.get 73) σ, (some 76), fun _ => some true⟩,
  ⟨fun a σ => fextract 1 (a.get 73) σ, (some 77), fun _ => some true⟩,
  ⟨fun a σ => fextract 2 (a.get 73) σ, (some 78), fun _ => some true⟩,
  ⟨fun a σ => .val (a.get 76) σ, (some 17), fun _ => some true⟩,
  ⟨fun a σ => .val (a.get 77) σ, (some 18), fun _ => some true⟩,
  ⟨fun a σ => .val (a.get 78) σ, (some 19), fun _ => some true⟩]
noncomputable def r6_9 : List COp := r6_9U ()
noncomputable def r6_10U (_ : Unit) : List COp := [⟨fun a σ => .val (a.get 10) σ, (some 79), fun _ => some true⟩,
  ⟨fun a σ => i_neq Tryz.prog 32 (.tmp 79) (.const (.int .i64 0)) (a.get 79) (.int .i64 0) σ, (some 80), fun _ => some true⟩,
  ⟨fun a σ => .val (a.get 80) σ, (some 81), fun _ => some true⟩,
  ⟨fun a σ => .val (a.get 12) σ, (some 82), fun a => gd (a.get 81) false⟩,
  ⟨fun a σ => i_neq Tryz.prog 32 (.tmp 82) (.const (.int .i64 0)) (a.get 82) (.int .i64 0) σ, (some 83), fun a => gd (a.get 81) false⟩,
  ⟨fun a σ => fpick (a.get 81) (.bool true) (a.get 83) σ, (some 84), fun _ => some true⟩,
  ⟨fun a σ => .val (a.get 84) σ, (some 85), fun _ => some true⟩,
  ⟨fun a σ => .val (a.get 14) σ, (some 86), fun a => gd (a.get 85) false⟩,
  ⟨fun a σ => i_neq Tryz.prog 32 (.tmp 86) (.const (.int .i64 0)) (a.get 86) (.int .i64 0) σ, (some 87), fun a => gd (a.get 85) false⟩,
  ⟨fun a σ => fpick (a.get 85) (.bool true) (a.get 87) σ, (some 88), fun _ => some true⟩,
  ⟨fun a σ => .val (a.get 88) σ, (some 89), fun _ => some true⟩,
  ⟨fun a σ => .val (a.get 16) σ, (some 90), fun a => gd (a.get 89) false⟩,
  ⟨fun a σ => i_neq Tryz.prog 32 (.tmp 90) (.const (.int .i64 0)) (a.get 90) (.int .i64 0) σ, (some 91), fun a => gd (a.get 89) false⟩,
  ⟨fun a σ => fpick (a.get 89) (.bool true) (a.get 91) σ, (some 92), fun _ => some true⟩,
  ⟨fun a σ => .val (a.get 92) σ, (some 93), fun _ => some true⟩,
  ⟨fun a σ => .val (a.get 19) σ, (some 94), fun a => gd (a.get 93) false⟩,
  ⟨fun a σ => i_neq Tryz.prog 32 (.tmp 94) (.const (.int .i64 0)) (a.get 94) (.int .i64 0) σ, (some 95), fun a => gd (a.get 93) false⟩,
  ⟨fun a σ => fpick (a.get 93) (.bool true) (a.get 95) σ, (some 96), fun _ => some true⟩,
  ⟨fun a σ => .val (a.get 96) σ, (some 97), fun _ => some true⟩,
  ⟨fun a σ => fload (some 4) (a.get 13) σ, (some 98), fun a => gd (a.get 97) false⟩,
  ⟨fun a σ => fload (some 4) (a.get 4) σ, (some 99), fun a => gd (a.get 97) false⟩,
  ⟨fun a σ => .enter 20 [(a.get 98), (a.get 99)] σ, (some 100), fun a => gd (a.get 97) false⟩,
  ⟨fun a σ => fun1 Tryz.prog (Op.unary .not) (a.get 100) σ, (some 101), fun a => gd (a.get 97) false⟩,
  ⟨fun a σ => fpick (a.get 97) (.bool true) (a.get 101) σ, (some 102), fun _ => some true⟩,
  ⟨fun a σ => .val (a.get 102) σ, (some 103), fun _ => some true⟩,
  ⟨fun a σ => .val (a.get 9) σ, (some 104), fun a => gd (a.get 103) false⟩,
  ⟨fun a σ => flenL (a.get 104) σ, (some 105), fun a => gd (a.get 103) false⟩,
  ⟨fun a σ => .val (a.get 6) σ, (some 106), fun a => gd (a.get 103) false⟩,
  ⟨fun a σ => flenL (a.get 106) σ, (some 107), fun a => gd (a.get 103) false⟩,
  ⟨fun a σ => i_gtr Tryz.prog 3 (.tmp 105) (.tmp 107) (a.get 105) (a.get 107) σ, (some 108), fun a => gd (a.get 103) false⟩,
  ⟨fun a σ => fpick (a.get 103) (.bool true) (a.get 108) σ, (some 109), fun _ => some true⟩]
noncomputable def r6_10 : List COp := r6_10U ()
noncomputable def r6_11U (_ : Unit) : List COp := [⟨fun a σ => .val (.bool false) σ, (some 2), fun _ => some true⟩]
noncomputable def r6_11 : List COp := r6_11U ()
noncomputable def r6_12U (_ : Unit) : List COp := [⟨fun a σ => fload (some 4) (a.get 4) σ, (some 111), fun _ => some true⟩,
  ⟨fun a σ => .enter 32 [(a.get 111)] σ, (some 112), fun _ => some true⟩,
  ⟨fun a σ => .val (a.get 112) σ, (some 110), fun _ => some true⟩,
  ⟨fun a σ => fextract 0 (a.get 110) σ, (some 113), fun _ => some true⟩,
  ⟨fun a σ => fextract 1 (a.get 110) σ, (some 114), fun _ => some true⟩,
  ⟨fun a σ => .val (a.get 113) σ, (some 20), fun _ => some true⟩,
  ⟨fun a σ => .val (a.get 114) σ, (some 21), fun _ => some true⟩]
noncomputable def r6_12 : List COp := r6_12U ()
noncomputable def r6_13U (_ : Unit) : List COp := [⟨fun a σ => fload (some 4) (a.get 7) σ, (some 116), fun _ => some true⟩,
  ⟨fun a σ => .enter 32 [(a.get 116)] σ, (some 117), fun _ => some true⟩,
  ⟨fun a σ => .val (a.get 117) σ, (some 115), fun _ => some true⟩,
  ⟨fun a σ => fextract 0 (a.get 115) σ, (some 118), fun _ => some true⟩,
  ⟨fun a σ => fextract 1 (a.get 115) σ, (some 119), fun _ => some true⟩,
  ⟨fun a σ => .val (a.get 118) σ, (some 22), fun _ => some true⟩,
  ⟨fun a σ => .val (a.get 119) σ, (some 23), fun _ => some true⟩]
noncomputable def r6_13 : List COp := r6_13U ()
noncomputable def r6_14U (_ : Unit) : List COp := [⟨fun a σ => fload (some 4) (a.get 5) σ, (some 121), fun _ => some true⟩,
  ⟨fun a σ => .enter 32 [(a.get 121)] σ, (some 122), fun _ => some true⟩,
  ⟨fun a σ => .val (a.get 122) σ, (some 120), fun _ => some true⟩,
  ⟨fun a σ => fextract 0 (a.get 120) σ, (some 123), fun _ => some true⟩,
  ⟨fun a σ => fextract 1 (a.get 120) σ, (some 124), fun _ => some true⟩,
  ⟨fun a σ => .val (a.get 123) σ, (some 24), fun _ => some true⟩,
  ⟨fun a σ => .val (a.get 124) σ, (some 25), fun _ => some true⟩]
noncomputable def r6_14 : List COp := r6_14U ()
noncomputable def r6_15U (_ : Unit) : List COp := [⟨fun a σ => .val (a.get 17) σ, (some 125), fun _ => some true⟩,
  ⟨fun a σ => .val (a.get 20) σ, (some 126), fun _ => some true⟩,
  ⟨fun a σ => .val (a.get 9) σ, (some 127), fun _ => some true⟩,
  ⟨fun a σ => flenL (a.get 127) σ, (some 128), fun _ => some true⟩,
  ⟨fun a σ => .val (a.get 24) σ, (some 129), fun _ => some true⟩,
  ⟨fun a σ => .val (a.get 22) σ, (some 130), fun _ => some true⟩,
  ⟨fun a σ => i_sub Tryz.prog 3 (.tmp 129) (.tmp 130) (a.get 129) (a.get 130) σ, (some 131), fun _ => some true⟩,
  ⟨fun a σ => i_mul Tryz.prog 3 (.tmp 128) (.tmp 131) (a.get 128) (a.get 131) σ, (some 132), fun _ => some true⟩,
  ⟨fun a σ => i_add Tryz.prog 3 (.tmp 126) (.tmp 132) (a.get 126) (a.get 132) σ, (some 133), fun _ => some true⟩,
  ⟨fun a σ => i_neq Tryz.prog 3 (.tmp 125) (.tmp 133) (a.get 125) (a.get 133) σ, (some 134), fun _ => some true⟩]
noncomputable def r6_15 : List COp := r6_15U ()
noncomputable def r6_16U (_ : Unit) : List COp := [⟨fun a σ => .val (.bool false) σ, (some 2), fun _ => some true⟩]
noncomputable def r6_16 : List COp := r6_16U ()
noncomputable def r6_17U (_ : Unit) : List COp := [⟨fun a σ => fload (some 4) (a.get 5) σ, (some 135), fun _ => some true⟩,
  ⟨fun a σ => fload (some 4) (a.get 7) σ, (some 136), fun _ => some true⟩,
  ⟨fun a σ => .enter 33 [(a.get 135), (a.get 136)] σ, (some 137), fun _ => some true⟩,
  ⟨fun a σ => flenL (a.get 137) σ, (some 138), fun _ => some true⟩,
  ⟨fun a σ => i_gtr Tryz.prog 3 (.tmp 138) (.const (.int .i64 0)) (a.get 138) (.int .i64 0) σ, (some 139), fun _ => some true⟩,
  ⟨fun a σ => .val (a.get 139) σ, (some 140), fun _ => some true⟩,
  ⟨fun a σ => fload (some 4) (a.get 7) σ, (some 141), fun a => gd (a.get 140) false⟩,
  ⟨fun a σ => fload (some 4) (a.get 5) σ, (some 142), fun a => gd (a.get 140) false⟩,
  ⟨fun a σ => .enter 33 [(a.get 141), (a.get 142)] σ, (some 143), fun a => gd (a.get 140) false⟩,
  ⟨fun a σ => flenL (a.get 143) σ, (some 144), fun a => gd (a.get 140) false⟩,
  ⟨fun a σ => i_gtr Tryz.prog 3 (.tmp 144) (.const (.int .i64 0)) (a.get 144) (.int .i64 0) σ, (some 145), fun a => gd (a.get 140) false⟩,
  ⟨fun a σ => fpick (a.get 140) (.bool true) (a.get 145) σ, (some 146), fun _ => some true⟩,
  ⟨fun a σ => .val (a.get 146) σ, (some 147), fun _ => some true⟩,
  ⟨fun a σ => .val (a.get 15) σ, (some 148), fun a => gd (a.get 147) false⟩,
  ⟨fun a σ => flenL (a.get 148) σ, (some 149), fun a => gd (a.get 147) false⟩,
  ⟨fun a σ => i_eql Tryz.prog 3 (.tmp 149) (.const (.int .i64 0)) (a.get 149) (.int .i64 0) σ, (some 150), fun a => gd (a.get 147) false⟩,
  ⟨fun a σ => fpick (a.get 147) (.bool true) (a.get 150) σ, (some 151), fun _ => some true⟩,
  ⟨fun a σ => .val (a.get 151) σ, (some 152), fun _ => some true⟩,
  ⟨fun a σ => .enter 21 [] σ, (some 153), fun a => gd (a.get 152) true⟩,
  ⟨fun a σ => fpick (a.get 152) (a.get 153) (.bool false) σ, (some 154), fun _ => some true⟩,
  ⟨fun a σ => .val (a.get 154) σ, (some 2), fun _ => some true⟩]
noncomputable def r6_17 : List COp := r6_17U ()
noncomputable def run6 (E : Env) (ro : Option Nat) (fn : FuncId) : RunF := (seqR (fops E ro r6_0) (seqR (fops E ro r6_1) (seqR (fops E ro r6_2) (seqR (fops E ro r6_3) (seqR (drawR E ro r6_4) (seqR (fops E ro r6_5) (seqR (fops E ro r6_6) (seqR (fops E ro r6_7) (seqR (fops E ro r6_8) (seqR (fops E ro r6_9) (seqR (seqR (fops E ro r6_10) (condR (fun a => (a.get 109)) (seqR (fops E ro r6_11) retR) skipR)) (seqR (fops E ro r6_12) (seqR (fops E ro r6_13) (seqR (fops E ro r6_14) (seqR (seqR (fops E ro r6_15) (condR (fun a => (a.get 134)) (seqR (fops E ro r6_16) retR) skipR)) (seqR (fops E ro r6_17) retR))))))))))))))))
theorem r6_0_go : fops E ro r6_0 a u σ = fops E ro (r6_0U ()) a u σ := rfl
theorem r6_1_go : fops E ro r6_1 a u σ = fops E ro (r6_1U ()) a u σ := rfl
theorem r6_2_go : fops E ro r6_2 a u σ = fops E ro (r6_2U ()) a u σ := rfl
theorem r6_3_go : fops E ro r6_3 a u σ = fops E ro (r6_3U ()) a u σ := rfl
theorem r6_4_go : fdraw E ro last r6_4 cl a u σ = fdraw E ro last (r6_4U ()) cl a u σ := rfl
theorem r6_5_go : fops E ro r6_5 a u σ = fops E ro (r6_5U ()) a u σ := rfl
theorem r6_6_go : fops E ro r6_6 a u σ = fops E ro (r6_6U ()) a u σ := rfl
theorem r6_7_go : fops E ro r6_7 a u σ = fops E ro (r6_7U ()) a u σ := rfl
theorem r6_8_go : fops E ro r6_8 a u σ = fops E ro (r6_8U ()) a u σ := rfl
theorem r6_9_go : fops E ro r6_9 a u σ = fops E ro (r6_9U ()) a u σ := rfl
theorem r6_10_go : fops E ro r6_10 a u σ = fops E ro (r6_10U ()) a u σ := rfl
theorem r6_11_go : fops E ro r6_11 a u σ = fops E ro (r6_11U ()) a u σ := rfl
theorem r6_12_go : fops E ro r6_12 a u σ = fops E ro (r6_12U ()) a u σ := rfl
theorem r6_13_go : fops E ro r6_13 a u σ = fops E ro (r6_13U ()) a u σ := rfl
theorem r6_14_go : fops E ro r6_14 a u σ = fops E ro (r6_14U ()) a u σ := rfl
theorem r6_15_go : fops E ro r6_15 a u σ = fops E ro (r6_15U ()) a u σ := rfl
theorem r6_16_go : fops E ro r6_16 a u σ = fops E ro (r6_16U ()) a u σ := rfl
theorem r6_17_go : fops E ro r6_17 a u σ = fops E ro (r6_17U ()) a u σ := rfl
theorem code6 (E : Env) (ro : Option Nat) (fn : FuncId) : code Tryz.prog nls (Tryz.f6.body.getD .skip) E ro fn = run6 E ro fn := by kernel_rfl
theorem enter6 (E : Env) (args : List Value) (u : Option FrameMode) (σ : FState) (hn : args.length ≤ (26 : Nat)) : fcall Tryz.prog nls E 6 args u σ = leaveR Tryz.prog E [.tmp 2] (run6 E none 6 ⟨padTo undef 26 args, fun _ => undef, 26, 155, []⟩ u σ) := by
  rw [fcall_of (body := Tryz.f6.body.getD .skip) Tryz.func6 rfl E args u σ 26 155 (by kernel_rfl) rfl ⟨hn, by decide⟩, code6]
  rfl
end Go.Proofs.YtodkeaoikjjneaaGreatDoor
/- DatumReplaced: what it asks of what Find, Replace and Size gave. -/
namespace Go.Proofs.YtodkeaoikjjneaaGreatDoor
open Go Go.Eng
attribute [local congr] andThen_congr fops_congr fdraw_congr afterOp_congr drawF_congr
attribute [-go_sem] List.range_succ
noncomputable def restC (E : Env) (ro : Option Nat) (fn : FuncId) : RunF := seqR (seqR (fops E ro r6_10) (condR (fun a => a.get 109) (seqR (fops E ro r6_11) retR) skipR)) (seqR (fops E ro r6_12) (seqR (fops E ro r6_13) (seqR (fops E ro r6_14) (seqR (seqR (fops E ro r6_15) (condR (fun a => a.get 134) (seqR (fops E ro r6_16) retR) skipR)) (seqR (fops E ro r6_17) retR)))))
noncomputable def restB (E : Env) (ro : Option Nat) (fn : FuncId) : RunF := seqR (fops E ro r6_5) (seqR (fops E ro r6_6) (seqR (fops E ro r6_7) (seqR (fops E ro r6_8) (seqR (fops E ro r6_9) (restC E ro fn)))))
theorem run_restB (E : Env) (ro : Option Nat) (fn : FuncId) : run6 E ro fn = seqR (fops E ro r6_0) (seqR (fops E ro r6_1) (seqR (fops E ro r6_2) (seqR (fops E ro r6_3) (seqR (drawR E ro r6_4) (restB E ro fn))))) := rfl
theorem replaced_end (q : Nat) (b4 b5 b7 b13 nall : Nat) (R RX RY RS : Nat → Prop) (d x y : D) (lv xv yv sv : List Value) (aa aw ak : Option Addr) (ca cw ck : Nat) (σ : FState) (f g : Nat → Value) (hdd : d.deep ≤ 5) (hxd : x.deep ≤ 5) (hyd : y.deep ≤ 5) (hdc : d.count ≤ 1093) (hxc : x.count ≤ 1093) (hyc : y.count ≤ 1093) (ho : occN x d ≤ nall) (hn : nall ≤ 1093)
    (h4 : lv.length = 4) (hx4 : xv.length = 4) (hy4 : yv.length = 4) (hs4 : sv.length = 4) (c4 : σ.cells b4 = some lv) (c5 : σ.cells b5 = some yv) (c7 : σ.cells b7 = some xv) (c13 : σ.cells b13 = some sv) (ld : LaidR R σ (.agg lv.toArray) d) (lx : LaidR RX σ (.agg xv.toArray) x) (ly : LaidR RY σ (.agg yv.toArray) y) (ls : LaidR RS σ (.agg sv.toArray) d) (hw : Wf σ)
    (f4 : f 4 = .pointer (some ⟨b4, 0, none⟩)) (f5 : f 5 = .pointer (some ⟨b5, 0, none⟩)) (f6 : f 6 = .slice aa nall ca) (f7 : f 7 = .pointer (some ⟨b7, 0, none⟩)) (f9 : f 9 = .slice aw (occN x d) cw) (f10 : f 10 = .int .i64 0) (f12 : f 12 = .int .i64 0) (f13 : f 13 = .pointer (some ⟨b13, 0, none⟩)) (f14 : f 14 = .int .i64 0) (f15 : f 15 = .slice ak (occN x (repl x y d)) ck) (f16 : f 16 = .int .i64 0) (f17 : f 17 = .int .i64 (.ofNat (repl x y d).count)) (f19 : f 19 = .int .i64 0) :
    ∃ σ', leaveR Tryz.prog (top (q + 40)) [.tmp 2] (restC (top (q + 40)) none 6 (Sl 26 155 f g []) none σ) = .ret (.bool true) none σ' := by
  have ht : lv.take 4 = lv := List.take_of_length_le (by omega)
  have htx : xv.take 4 = xv := List.take_of_length_le (by omega)
  have hty : yv.take 4 = yv := List.take_of_length_le (by omega)
  have hts : sv.take 4 = sv := List.take_of_length_le (by omega)
  have y1 : (!((0 : Int) == 0)) = false := by decide
  have d1 : decide (Int.ofNat (occN x d) > Int.ofNat nall) = false := by simp; omega
  obtain ⟨s1, s2, s3⟩ := repl_sum x y d (by omega) (by omega) (by omega) (by omega)
  have y2 : (!(Int.ofNat (repl x y d).count == Int.ofNat (repl x y d).count)) = false := by simp
  have kc : ∀ {b : Nat} {cs : List Value} (σ' : FState), Ext σ σ' → σ.cells b = some cs → σ'.cells b = some cs := fun σ' hx hc => (hx.cells (hw.cells hc)).trans hc
  have kl : ∀ {R : Nat → Prop} {v : Value} {e : D} (σ' : FState), Ext σ σ' → LaidR R σ v e → LaidR R σ' v e := fun σ' hx h => h.keep fun b cs hb hc => ⟨kc σ' hx hc, hb⟩
  obtain ⟨_, σ1, e1, x1, hw1, rfl⟩ := eqDatum_go (q + 26) 7 d d (.agg sv.toArray) (.agg lv.toArray) σ (by omega) (by omega) hw ls.laid ld.laid
  rw [same_self] at e1
  have e1' : (top (q + 40)).call 20 [.agg sv.toArray, .agg lv.toArray] none σ = .ret (.bool true) none σ1 := (top_call _ _ _ _ rfl).trans e1
  obtain ⟨_, σ2, e2, x2, hw2, rfl⟩ := count_go (q + 35) 5 d hdd lv R σ1 hw1 (kl _ x1 ld) (by omega)
  have e2' : (top (q + 40)).call 32 [.agg lv.toArray] none σ1 = .ret (.tuple #[.int .i64 (.ofNat d.count), .int .i64 (.ofNat d.deep)]) none σ2 := (top_call _ _ _ _ rfl).trans e2
  have X2 := x1.trans x2
  obtain ⟨_, σ3, e3, x3, hw3, rfl⟩ := count_go (q + 35) 5 x hxd xv RX σ2 hw2 (kl _ X2 lx) (by omega)
  have e3' : (top (q + 40)).call 32 [.agg xv.toArray] none σ2 = .ret (.tuple #[.int .i64 (.ofNat x.count), .int .i64 (.ofNat x.deep)]) none σ3 := (top_call _ _ _ _ rfl).trans e3
  have X3 := X2.trans x3
  obtain ⟨_, σ4, e4, x4, hw4, rfl⟩ := count_go (q + 35) 5 y hyd yv RY σ3 hw3 (kl _ X3 ly) (by omega)
  have e4' : (top (q + 40)).call 32 [.agg yv.toArray] none σ3 = .ret (.tuple #[.int .i64 (.ofNat y.count), .int .i64 (.ofNat y.deep)]) none σ4 := (top_call _ _ _ _ rfl).trans e4
  have X4 := X3.trans x4
  obtain ⟨_, σ5, e5, x5, hw5, a5, k5, rfl⟩ := foundR_go (q + 37) (q + 23) 7 (by omega) y x yv xv hy4 hx4 RY RX σ4 (by omega) (by omega) (by omega) (by omega) (by omega) hw4 (kl _ X4 ly) (kl _ X4 lx)
  have e5' : (top (q + 40)).call 33 [.agg yv.toArray, .agg xv.toArray] none σ4 = .ret (.slice a5 (occN x y) k5) none σ5 := (top_call _ _ _ _ rfl).trans e5
  have X5 := X4.trans x5
  obtain ⟨_, σ6, e6, x6, hw6, a6, k6, rfl⟩ := foundR_go (q + 37) (q + 23) 7 (by omega) x y xv yv hx4 hy4 RX RY σ5 (by omega) (by omega) (by omega) (by omega) (by omega) hw5 (kl _ X5 lx) (kl _ X5 ly)
  have e6' : (top (q + 40)).call 33 [.agg xv.toArray, .agg yv.toArray] none σ5 = .ret (.slice a6 (occN y x) k6) none σ6 := (top_call _ _ _ _ rfl).trans e6
  have c41 := kc _ x1 c4
  have c72 := kc _ X2 c7
  have c53 := kc _ X3 c5
  have c54 := kc _ X4 c5
  have c74 := kc _ X4 c7
  have c75 := kc _ X5 c7
  have c55 := kc _ X5 c5
  unfold restC
  cases h1 : decide (Int.ofNat (occN x y) > 0) with
  | true =>
    simp -implicitDefEqProofs only [go_sem, ↓reduceIte, Nat.reduceLT, Nat.reduceEqDiff, Nat.reduceAdd, Nat.reduceMul, Nat.reduceLeDiff, Nat.reduceSub, r6_10_go, r6_10U, r6_12_go, r6_12U, r6_13_go, r6_13U, r6_14_go, r6_14U, r6_15_go, r6_15U, r6_17_go, r6_17U, f4, f5, f6, f7, f9, f10, f12, f13, f14, f15, f16, f17, f19, c4, c13, c41, c72, c53, c54, c74, h4, hx4, hy4, hs4, ht, htx, hty, hts, y1, y2, d1, s1, s2, s3, e1', e2', e3', e4', e5', h1, top_looks, List.getElem?_cons_zero, List.getElem?_cons_succ, Nat.le_refl]
    exact ⟨_, rfl⟩
  | false =>
    cases h2 : decide (Int.ofNat (occN y x) > 0) with
    | true =>
      simp -implicitDefEqProofs only [go_sem, ↓reduceIte, Nat.reduceLT, Nat.reduceEqDiff, Nat.reduceAdd, Nat.reduceMul, Nat.reduceLeDiff, Nat.reduceSub, r6_10_go, r6_10U, r6_12_go, r6_12U, r6_13_go, r6_13U, r6_14_go, r6_14U, r6_15_go, r6_15U, r6_17_go, r6_17U, f4, f5, f6, f7, f9, f10, f12, f13, f14, f15, f16, f17, f19, c4, c13, c41, c72, c53, c54, c74, c75, c55, h4, hx4, hy4, hs4, ht, htx, hty, hts, y1, y2, d1, s1, s2, s3, e1', e2', e3', e4', e5', e6', h1, h2, top_looks, List.getElem?_cons_zero, List.getElem?_cons_succ, Nat.le_refl]
      exact ⟨_, rfl⟩
    | false =>
      have g0 := repl_gone x y (by simpa using h1) (by simpa using h2) d
      have y3 : (Int.ofNat (occN x (repl x y d)) == 0) = true := by rw [g0]; rfl
      simp -implicitDefEqProofs only [go_sem, ↓reduceIte, Nat.reduceLT, Nat.reduceEqDiff, Nat.reduceAdd, Nat.reduceMul, Nat.reduceLeDiff, Nat.reduceSub, r6_10_go, r6_10U, r6_12_go, r6_12U, r6_13_go, r6_13U, r6_14_go, r6_14U, r6_15_go, r6_15U, r6_17_go, r6_17U, f4, f5, f6, f7, f9, f10, f12, f13, f14, f15, f16, f17, f19, c4, c13, c41, c72, c53, c54, c74, c75, c55, h4, hx4, hy4, hs4, ht, htx, hty, hts, y1, y2, y3, d1, s1, s2, s3, e1', e2', e3', e4', e5', e6', h1, h2, top_looks, List.getElem?_cons_zero, List.getElem?_cons_succ, Nat.le_refl]
      exact ⟨_, rfl⟩
end Go.Proofs.YtodkeaoikjjneaaGreatDoor
/- DatumReplaced: from the call of Find on. -/
namespace Go.Proofs.YtodkeaoikjjneaaGreatDoor
open Go Go.Eng
attribute [local congr] andThen_congr fops_congr fdraw_congr afterOp_congr drawF_congr
attribute [-go_sem] List.range_succ
/-- datum.Size. -/
theorem sizeZ_go (m L : Nat) (hL6 : L ≤ 6) (d : D) (hF : Fine m L d) (lv : List Value) (h4 : lv.length = 4) (R : Nat → Prop) (σ : FState) (hw : Wf σ) (hL : LaidR R σ (.agg lv.toArray) d) (hR : ∀ b, R b → b < σ.next) :
    Gives ((env (m + 9)).call 31 [.agg lv.toArray] none σ) σ fun w _ => w = .tuple #[.int .i64 (.ofNat d.count), .int .i64 (.ofNat d.deep), .int .i64 0] := by
  have hf := hF.few hL6
  refine sizeD (m + 5) lv _ _ σ hw h4 (fun σ' hx hw' => ?_) (fun σ' hx hw' => ?_)
  · have h := valid_go m d lv h4 R σ' hw' (hL.keep fun b cs hb hc => ⟨(hx.cells (hw.cells hc)).trans hc, hb⟩) (fun b hb => Nat.lt_of_lt_of_le (hR b hb) hx.next) (hF.small hL6) (by omega) hF.good
    rwa [pieces_length] at h
  · have h := deepest_go (m + 1) d lv h4 R σ' hw' (hL.keep fun b cs hb hc => ⟨(hx.cells (hw.cells hc)).trans hc, hb⟩) (fun b hb => Nat.lt_of_lt_of_le (hR b hb) hx.next) (hF.small hL6) (by omega)
    rw [longest_pieces, List.length_nil, Nat.zero_add] at h
    exact h
theorem findL_go (M n : Nat) (hM : M = n + 14) (L L' : Nat) (hL6 : L ≤ 6) (hL6' : L' ≤ 6) (d x : D) (hF : Fine M L d) (hFx : Fine M L' x) (lv xv : List Value) (h4 : lv.length = 4) (hx4 : xv.length = 4) (R X : Nat → Prop) (σ : FState) (hw : Wf σ) (hL : LaidR R σ (.agg lv.toArray) d) (hLx : LaidR (fun b => R b ∨ X b) σ (.agg xv.toArray) x) (hR : ∀ b, R b → b < σ.next ∧ ¬ X b) (hX : ∀ b, X b → b < σ.next) :
    Gives ((env (M + 9)).call 28 [.agg lv.toArray, .agg xv.toArray] none σ) σ fun w _ => ∃ a c, w = .tuple #[.slice a (occN x d) c, .int .i64 0] := by
  obtain ⟨w, σ', e, x', hw', u, rfl, us, h1, h2⟩ := findF_go M n hM L L' hL6 hL6' d x hF hFx lv xv h4 hx4 R X σ hw hL hLx hR hX
  obtain ⟨a, c, rfl, _⟩ := vecs_slice h1
  exact ⟨_, σ', e, x', hw', a, c, by rw [h2.length, found_len]⟩
theorem replaced_rest (q : Nat) (b4 b5 b7 nall : Nat) (Lx : Nat) (hLx4 : Lx ≤ 4) (R RY : Nat → Prop) (d x y : D) (hMd : Made 4 d) (hFx : Fine (q + 31) Lx x) (hMy : Made 2 y) (lv xv yv : List Value) (aa : Option Addr) (ca : Nat) (σ : FState) (f g : Nat → Value) (hnall : nall = (d.pieces []).length)
    (h4 : lv.length = 4) (hx4 : xv.length = 4) (hy4 : yv.length = 4) (c4 : σ.cells b4 = some lv) (c5 : σ.cells b5 = some yv) (c7 : σ.cells b7 = some xv) (ld : LaidR R σ (.agg lv.toArray) d) (lx : LaidR R σ (.agg xv.toArray) x) (ly : LaidR RY σ (.agg yv.toArray) y) (hR : ∀ b, R b → b < σ.next) (hRY : ∀ b, RY b → b < σ.next) (hw : Wf σ)
    (f4 : f 4 = .pointer (some ⟨b4, 0, none⟩)) (f5 : f 5 = .pointer (some ⟨b5, 0, none⟩)) (f6 : f 6 = .slice aa nall ca) (f7 : f 7 = .pointer (some ⟨b7, 0, none⟩)) :
    ∃ σ', leaveR Tryz.prog (top (q + 40)) [.tmp 2] (restB (top (q + 40)) none 6 (Sl 26 155 f g []) none σ) = .ret (.bool true) none σ' := by
  have hFd := made_fine (q + 11) hMd
  have hFy := made_fine (q + 11) hMy
  have hFz := fine_repl (q + 11) x hFy hMd
  have hfd := hFd.few (by omega)
  have hfx := hFx.few (by omega)
  have hfy := hFy.few (by omega)
  have hfz := hFz.few (by omega)
  have pd := pieces_length d []
  have px := pieces_length x []
  have py := pieces_length y []
  have pz := pieces_length (repl x y d) []
  have hrs := repl_self x d
  have ht : lv.take 4 = lv := List.take_of_length_le (by omega)
  have htx : xv.take 4 = xv := List.take_of_length_le (by omega)
  have hty : yv.take 4 = yv := List.take_of_length_le (by omega)
  have kc : ∀ {b : Nat} {cs : List Value} (σ' : FState), Ext σ σ' → σ.cells b = some cs → σ'.cells b = some cs := fun σ' hx hc => (hx.cells (hw.cells hc)).trans hc
  have kl : ∀ {R : Nat → Prop} {v : Value} {e : D} (σ' : FState), Ext σ σ' → LaidR R σ v e → LaidR R σ' v e := fun σ' hx h => h.keep fun b cs hb hc => ⟨kc σ' hx hc, hb⟩
  have lx' : ∀ (σ' : FState), Ext σ σ' → LaidR (fun b => R b ∨ False) σ' (.agg xv.toArray) x := fun σ' hx => lx.keep fun b cs hb hc => ⟨kc σ' hx hc, .inl hb⟩
  obtain ⟨_, σ1, e1, x1, hw1, aw, cw, rfl⟩ := findL_go (q + 31) (q + 17) rfl 4 Lx (by omega) (by omega) d x hFd hFx lv xv h4 hx4 R (fun _ => False) σ hw ld (lx' σ (Ext.refl _)) (fun b hb => ⟨hR b hb, fun h => h⟩) (fun b hb => hb.elim)
  have e1' : (top (q + 40)).call 28 [.agg lv.toArray, .agg xv.toArray] none σ = .ret (.tuple #[.slice aw (occN x d) cw, .int .i64 0]) none σ1 := (top_call _ _ _ _ rfl).trans e1
  have n1 := x1.next
  obtain ⟨_, σ2, e2, x2, hw2, u2, rfl, hz⟩ := replaceD_go (q + 31) (q + 7) rfl 4 Lx 2 (by omega) (by omega) (by omega) d x y hFd hFx hFy (by omega) lv xv yv h4 R (fun _ => False) RY σ1 hw1 (kl _ x1 ld) (lx' σ1 x1) (kl _ x1 ly) (fun b hb => ⟨by have := hR b hb; omega, fun h => h⟩) (fun b hb => hb.elim) (fun b hb => by have := hRY b hb; omega)
  obtain ⟨zv, rfl, hz4, hzo⟩ := hz.agg
  have e2' : (top (q + 40)).call 30 [.agg lv.toArray, .agg xv.toArray, .agg yv.toArray] none σ1 = .ret (.tuple #[.agg zv.toArray, .int .i64 0]) none σ2 := (top_call _ _ _ _ rfl).trans e2
  have htz : zv.take 4 = zv := List.take_of_length_le (by omega)
  have X2 := x1.trans x2
  have n2 := x2.next
  have x3 : Ext σ2 ((σ2.push (.cells [.int .i64 0, .int .i64 0, .string ⟨#[]⟩, .slice none 0 0] TD) none).put σ2.next (.cells zv TD) none) := ((Ext.refl _).push _ _).put _ _ _ (Nat.le_refl _)
  have hw3 := (hw2.push (.cells [.int .i64 0, .int .i64 0, .string ⟨#[]⟩, .slice none 0 0] TD) none).put σ2.next (.cells zv TD) none (Nat.lt_succ_self _)
  have c11 : ((σ2.push (.cells [.int .i64 0, .int .i64 0, .string ⟨#[]⟩, .slice none 0 0] TD) none).put σ2.next (.cells zv TD) none).cells σ2.next = some zv := by rw [cells_put, if_pos rfl]; rfl
  have hz3 : LaidR (fun b => σ1.next ≤ b ∧ b < σ2.next) ((σ2.push (.cells [.int .i64 0, .int .i64 0, .string ⟨#[]⟩, .slice none 0 0] TD) none).put σ2.next (.cells zv TD) none) (.agg zv.toArray) (repl x y d) := hz.keep fun b cs hb hc => ⟨(x3.cells (hw2.cells hc)).trans hc, hb, hw2.cells hc⟩
  have n3 : ((σ2.push (.cells [.int .i64 0, .int .i64 0, .string ⟨#[]⟩, .slice none 0 0] TD) none).put σ2.next (.cells zv TD) none).next = σ2.next + 1 := rfl
  have c41 := kc _ x1 c4
  have c51 := kc _ x1 c5
  have c71 := kc _ x1 c7
  unfold restB
  simp -implicitDefEqProofs only [go_sem, ↓reduceIte, Nat.reduceLT, Nat.reduceEqDiff, Nat.reduceAdd, Nat.reduceMul, Nat.reduceLeDiff, Nat.reduceSub, fstoreN, r6_5_go, r6_5U, r6_6_go, r6_6U, f4, f5, f7, c4, c7, c41, c51, c71, h4, hx4, hy4, hz4, hzo, ht, htx, hty, htz, e1', e2', List.getElem?_cons_zero, List.getElem?_cons_succ, Nat.le_refl]
  generalize hff : upd _ 12 _ = f1
  generalize hgg : upd _ 59 _ = g1
  have q4 : f1 4 = .pointer (some ⟨b4, 0, none⟩) := by rw [← hff]; simp -implicitDefEqProofs only [upd_go, kept_go, ↓reduceIte, Nat.reduceEqDiff, Nat.reduceLT, reduceCtorEq, f4]
  have q5 : f1 5 = .pointer (some ⟨b5, 0, none⟩) := by rw [← hff]; simp -implicitDefEqProofs only [upd_go, kept_go, ↓reduceIte, Nat.reduceEqDiff, Nat.reduceLT, reduceCtorEq, f5]
  have q6 : f1 6 = .slice aa nall ca := by rw [← hff]; simp -implicitDefEqProofs only [upd_go, kept_go, ↓reduceIte, Nat.reduceEqDiff, Nat.reduceLT, reduceCtorEq, f6]
  have q7 : f1 7 = .pointer (some ⟨b7, 0, none⟩) := by rw [← hff]; simp -implicitDefEqProofs only [upd_go, kept_go, ↓reduceIte, Nat.reduceEqDiff, Nat.reduceLT, reduceCtorEq, f7]
  have q9 : f1 9 = .slice aw (occN x d) cw := by rw [← hff]; simp -implicitDefEqProofs only [upd_go, kept_go, ↓reduceIte, Nat.reduceEqDiff, Nat.reduceLT, reduceCtorEq]
  have q10 : f1 10 = .int .i64 0 := by rw [← hff]; simp -implicitDefEqProofs only [upd_go, kept_go, ↓reduceIte, Nat.reduceEqDiff, Nat.reduceLT, reduceCtorEq]
  have q11 : f1 11 = .pointer (some ⟨σ2.next, 0, none⟩) := by rw [← hff]; simp -implicitDefEqProofs only [upd_go, kept_go, ↓reduceIte, Nat.reduceEqDiff, Nat.reduceLT, reduceCtorEq]
  have q12 : f1 12 = .int .i64 0 := by rw [← hff]; simp -implicitDefEqProofs only [upd_go, kept_go, ↓reduceIte, Nat.reduceEqDiff, Nat.reduceLT, reduceCtorEq]
  clear hff hgg
  generalize FState.put _ _ _ _ = σ3 at x3 hw3 c11 hz3 n3 ⊢
  have X3 := X2.trans x3
  -- Replace of x by x
  obtain ⟨_, σ4, e4, x4, hw4, u4, rfl, hs⟩ := replaceD_go (q + 31) (q + 7) rfl 4 Lx Lx (by omega) (by omega) (by omega) d x x hFd hFx hFx (by rw [hrs]; omega) lv xv xv h4 R (fun _ => False) R σ3 hw3 (kl _ X3 ld) (lx' σ3 X3) (kl _ X3 lx) (fun b hb => ⟨by have := hR b hb; omega, fun h => h⟩) (fun b hb => hb.elim) (fun b hb => by have := hR b hb; omega)
  rw [hrs] at hs
  obtain ⟨sv, rfl, hs4, hso⟩ := hs.agg
  have e4' : (top (q + 40)).call 30 [.agg lv.toArray, .agg xv.toArray, .agg xv.toArray] none σ3 = .ret (.tuple #[.agg sv.toArray, .int .i64 0]) none σ4 := (top_call _ _ _ _ rfl).trans e4
  have hts : sv.take 4 = sv := List.take_of_length_le (by omega)
  have X4 := X3.trans x4
  have n4 := x4.next
  have x5 : Ext σ4 ((σ4.push (.cells [.int .i64 0, .int .i64 0, .string ⟨#[]⟩, .slice none 0 0] TD) none).put σ4.next (.cells sv TD) none) := ((Ext.refl _).push _ _).put _ _ _ (Nat.le_refl _)
  have hw5 := (hw4.push (.cells [.int .i64 0, .int .i64 0, .string ⟨#[]⟩, .slice none 0 0] TD) none).put σ4.next (.cells sv TD) none (Nat.lt_succ_self _)
  have c13 : ((σ4.push (.cells [.int .i64 0, .int .i64 0, .string ⟨#[]⟩, .slice none 0 0] TD) none).put σ4.next (.cells sv TD) none).cells σ4.next = some sv := by rw [cells_put, if_pos rfl]; rfl
  have hs5 : LaidR (fun b => σ3.next ≤ b) ((σ4.push (.cells [.int .i64 0, .int .i64 0, .string ⟨#[]⟩, .slice none 0 0] TD) none).put σ4.next (.cells sv TD) none) (.agg sv.toArray) d := hs.keep fun b cs hb hc => ⟨(x5.cells (hw4.cells hc)).trans hc, hb⟩
  have c43 := kc _ X3 c4
  have c73 := kc _ X3 c7
  simp -implicitDefEqProofs only [go_sem, ↓reduceIte, Nat.reduceLT, Nat.reduceEqDiff, Nat.reduceAdd, Nat.reduceMul, Nat.reduceLeDiff, Nat.reduceSub, fstoreN, r6_7_go, r6_7U, q4, q7, c43, c73, h4, hx4, hs4, hso, ht, htx, hts, e4', List.getElem?_cons_zero, List.getElem?_cons_succ, Nat.le_refl]
  generalize hff : upd _ 14 _ = f2
  generalize hgg : upd _ 66 _ = g2
  have r4 : f2 4 = .pointer (some ⟨b4, 0, none⟩) := by rw [← hff]; simp -implicitDefEqProofs only [upd_go, kept_go, ↓reduceIte, Nat.reduceEqDiff, Nat.reduceLT, reduceCtorEq, q4]
  have r5 : f2 5 = .pointer (some ⟨b5, 0, none⟩) := by rw [← hff]; simp -implicitDefEqProofs only [upd_go, kept_go, ↓reduceIte, Nat.reduceEqDiff, Nat.reduceLT, reduceCtorEq, q5]
  have r6 : f2 6 = .slice aa nall ca := by rw [← hff]; simp -implicitDefEqProofs only [upd_go, kept_go, ↓reduceIte, Nat.reduceEqDiff, Nat.reduceLT, reduceCtorEq, q6]
  have r7 : f2 7 = .pointer (some ⟨b7, 0, none⟩) := by rw [← hff]; simp -implicitDefEqProofs only [upd_go, kept_go, ↓reduceIte, Nat.reduceEqDiff, Nat.reduceLT, reduceCtorEq, q7]
  have r9 : f2 9 = .slice aw (occN x d) cw := by rw [← hff]; simp -implicitDefEqProofs only [upd_go, kept_go, ↓reduceIte, Nat.reduceEqDiff, Nat.reduceLT, reduceCtorEq, q9]
  have r10 : f2 10 = .int .i64 0 := by rw [← hff]; simp -implicitDefEqProofs only [upd_go, kept_go, ↓reduceIte, Nat.reduceEqDiff, Nat.reduceLT, reduceCtorEq, q10]
  have r11 : f2 11 = .pointer (some ⟨σ2.next, 0, none⟩) := by rw [← hff]; simp -implicitDefEqProofs only [upd_go, kept_go, ↓reduceIte, Nat.reduceEqDiff, Nat.reduceLT, reduceCtorEq, q11]
  have r12 : f2 12 = .int .i64 0 := by rw [← hff]; simp -implicitDefEqProofs only [upd_go, kept_go, ↓reduceIte, Nat.reduceEqDiff, Nat.reduceLT, reduceCtorEq, q12]
  have r13 : f2 13 = .pointer (some ⟨σ4.next, 0, none⟩) := by rw [← hff]; simp -implicitDefEqProofs only [upd_go, kept_go, ↓reduceIte, Nat.reduceEqDiff, Nat.reduceLT, reduceCtorEq]
  have r14 : f2 14 = .int .i64 0 := by rw [← hff]; simp -implicitDefEqProofs only [upd_go, kept_go, ↓reduceIte, Nat.reduceEqDiff, Nat.reduceLT, reduceCtorEq]
  clear hff hgg
  generalize FState.put _ _ _ _ = σ5 at x5 hw5 c13 hs5 ⊢
  have X5 := X4.trans x5
  have X35 := x4.trans x5
  have n5 := X35.next
  have n05 := X5.next
  have hz5 : LaidR (fun b => σ1.next ≤ b ∧ b < σ2.next) σ5 (.agg zv.toArray) (repl x y d) := hz3.keep fun b cs hb hc => ⟨(X35.cells (hw3.cells hc)).trans hc, hb⟩
  obtain ⟨_, σ6, e6, x6, hw6, ak, ck, rfl⟩ := findL_go (q + 31) (q + 17) rfl 6 Lx (by omega) (by omega) (repl x y d) x hFz hFx zv xv hz4 hx4 (fun b => σ1.next ≤ b ∧ b < σ2.next) R σ5 hw5 hz5 (lx.keep fun b cs hb hc => ⟨kc _ X5 hc, .inr hb⟩) (fun b hb => ⟨by omega, fun h => by have := hR b h; omega⟩) (fun b hb => by have := hR b hb; omega)
  have e6' : (top (q + 40)).call 28 [.agg zv.toArray, .agg xv.toArray] none σ5 = .ret (.tuple #[.slice ak (occN x (repl x y d)) ck, .int .i64 0]) none σ6 := (top_call _ _ _ _ rfl).trans e6
  have X6 := X5.trans x6
  have n6 := x6.next
  obtain ⟨_, σ7, e7, x7, hw7, rfl⟩ := sizeZ_go (q + 31) 6 (by omega) (repl x y d) hFz zv hz4 (fun b => σ1.next ≤ b ∧ b < σ2.next) σ6 hw6 (hz5.keep fun b cs hb hc => ⟨(x6.cells (hw5.cells hc)).trans hc, hb⟩) (fun b hb => by omega)
  have e7' : (top (q + 40)).call 31 [.agg zv.toArray] none σ6 = .ret (.tuple #[.int .i64 (.ofNat (repl x y d).count), .int .i64 (.ofNat (repl x y d).deep), .int .i64 0]) none σ7 := (top_call _ _ _ _ rfl).trans e7
  have X7 := X6.trans x7
  have c115 := (X35.cells (hw3.cells c11)).trans c11
  have c116 := (x6.cells (hw5.cells c115)).trans c115
  have c75 := kc _ X5 c7
  simp -implicitDefEqProofs only [go_sem, ↓reduceIte, Nat.reduceLT, Nat.reduceEqDiff, Nat.reduceAdd, Nat.reduceMul, Nat.reduceLeDiff, Nat.reduceSub, r6_8_go, r6_8U, r6_9_go, r6_9U, r7, r11, c115, c116, c75, hx4, hz4, htx, htz, e6', e7', List.getElem?_cons_zero, List.getElem?_cons_succ, Nat.le_refl]
  generalize hff : upd _ 19 _ = f3
  generalize hgg : upd _ 78 _ = g3
  have hdd := hFd.deep_le
  have hxd := hFx.deep_le
  have hyd := hFy.deep_le
  have x67 := x6.trans x7
  exact replaced_end q b4 b5 b7 σ4.next nall R R RY (fun b => σ3.next ≤ b) d x y lv xv yv sv aa aw ak ca cw ck σ7 f3 g3 (by omega) (by omega) (by omega) (by omega) (by omega) (by omega) (by rw [← found_len x d [], hnall]; exact foundIn_le x _) (by omega) h4 hx4 hy4 hs4 (kc _ X7 c4) (kc _ X7 c5) (kc _ X7 c7) ((x67.cells (hw5.cells c13)).trans c13) (kl _ X7 ld) (kl _ X7 lx) (kl _ X7 ly) (hs5.keep fun b cs hb hc => ⟨(x67.cells (hw5.cells hc)).trans hc, hb⟩) hw7
    (by rw [← hff]; simp -implicitDefEqProofs only [upd_go, kept_go, ↓reduceIte, Nat.reduceEqDiff, Nat.reduceLT, reduceCtorEq, r4]) (by rw [← hff]; simp -implicitDefEqProofs only [upd_go, kept_go, ↓reduceIte, Nat.reduceEqDiff, Nat.reduceLT, reduceCtorEq, r5]) (by rw [← hff]; simp -implicitDefEqProofs only [upd_go, kept_go, ↓reduceIte, Nat.reduceEqDiff, Nat.reduceLT, reduceCtorEq, r6]) (by rw [← hff]; simp -implicitDefEqProofs only [upd_go, kept_go, ↓reduceIte, Nat.reduceEqDiff, Nat.reduceLT, reduceCtorEq, r7]) (by rw [← hff]; simp -implicitDefEqProofs only [upd_go, kept_go, ↓reduceIte, Nat.reduceEqDiff, Nat.reduceLT, reduceCtorEq, r9]) (by rw [← hff]; simp -implicitDefEqProofs only [upd_go, kept_go, ↓reduceIte, Nat.reduceEqDiff, Nat.reduceLT, reduceCtorEq, r10]) (by rw [← hff]; simp -implicitDefEqProofs only [upd_go, kept_go, ↓reduceIte, Nat.reduceEqDiff, Nat.reduceLT, reduceCtorEq, r12]) (by rw [← hff]; simp -implicitDefEqProofs only [upd_go, kept_go, ↓reduceIte, Nat.reduceEqDiff, Nat.reduceLT, reduceCtorEq, r13]) (by rw [← hff]; simp -implicitDefEqProofs only [upd_go, kept_go, ↓reduceIte, Nat.reduceEqDiff, Nat.reduceLT, reduceCtorEq, r14]) (by rw [← hff]; simp -implicitDefEqProofs only [upd_go, kept_go, ↓reduceIte, Nat.reduceEqDiff, Nat.reduceLT, reduceCtorEq]) (by rw [← hff]; simp -implicitDefEqProofs only [upd_go, kept_go, ↓reduceIte, Nat.reduceEqDiff, Nat.reduceLT, reduceCtorEq]) (by rw [← hff]; simp -implicitDefEqProofs only [upd_go, kept_go, ↓reduceIte, Nat.reduceEqDiff, Nat.reduceLT, reduceCtorEq]) (by rw [← hff]; simp -implicitDefEqProofs only [upd_go, kept_go, ↓reduceIte, Nat.reduceEqDiff, Nat.reduceLT, reduceCtorEq])
end Go.Proofs.YtodkeaoikjjneaaGreatDoor
/- DatumReplaced: what the reading says. -/
namespace Go.Proofs.YtodkeaoikjjneaaGreatDoor
open Go Go.Eng
attribute [local congr] andThen_congr fops_congr fdraw_congr afterOp_congr drawF_congr
attribute [-go_sem] List.range_succ
theorem replaced_says (q : Nat) (p : Option Addr) (l : List Int) (cp : Nat) (hl : l.length < 9223372036854775808) (σ : FState) (hw : Wf σ) (hI : Ints σ p l) (hp : ∀ a, p = some a → a.block < σ.next) :
    ∃ σ', fcall Tryz.prog nls (top (q + 40)) 6 [.slice p l.length cp] none σ = .ret (.bool true) none σ' := by
  obtain ⟨σ1, e1, x1, hw1, hC⟩ := newCoil_go (q + 39) p l cp hl σ hw hI hp
  have hn1 : σ.next < σ1.next := by obtain ⟨_, _, _, _, _, h, _⟩ := hC; exact (hw1 _ _ h).1
  obtain ⟨v, d, σ2, k2, e2, hL, hM, x2, hw2, hC2, _, hk2⟩ := datumOf_go (q + 32) σ.next 4 (by omega) 0 σ1 (by simp [wound]) hw1 hC
  have hk2' : k2 + wound 2 < 100000000000 := by
    have : wound 4 ≤ 1000 := by simp [wound]
    have : wound 2 ≤ 1000 := by simp [wound]
    omega
  obtain ⟨v', x, σ3, k3, e3, hLx, hMx, x3, hw3, hC3, _, hk3⟩ := datumOf_go (q + 34) σ.next 2 (by omega) k2 σ2 hk2' hw2 hC2
  have hk3' : k3 < 10000000 := by
    have : wound 4 ≤ 1000 := by simp [wound]
    have : wound 2 ≤ 1000 := by simp [wound]
    omega
  have hF := made_fine (q + 11) hM
  have hFx := made_fine (q + 11) hMx
  have n2 := x2.next
  have n3 := x3.next
  have e1' : (top (q + 40)).call 11 [.slice p l.length cp] none σ = .ret (.pointer (some ⟨σ.next, 0, none⟩)) none σ1 := (top_call _ _ _ _ rfl).trans e1
  have e2' : (top (q + 40)).call 13 [.pointer (some ⟨σ.next, 0, none⟩), .int .i64 4] none σ1 = .ret v none σ2 := (top_call _ _ _ _ rfl).trans e2
  have e3' : (top (q + 40)).call 13 [.pointer (some ⟨σ.next, 0, none⟩), .int .i64 2] none σ2 = .ret v' none σ3 := (top_call _ _ _ _ rfl).trans e3
  obtain ⟨lv, rfl, h4, ho4⟩ := hL.agg
  obtain ⟨xv, rfl, hx4, hox⟩ := hLx.agg
  have ht : lv.take 4 = lv := List.take_of_length_le (by omega)
  have htx : xv.take 4 = xv := List.take_of_length_le (by omega)
  rw [enter6 _ _ _ _ (by simp), Sl_start, run_restB]
  simp -implicitDefEqProofs only [go_sem, ↓reduceIte, Nat.reduceLT, Nat.reduceEqDiff, Nat.reduceAdd, Nat.reduceMul, Nat.reduceLeDiff, Nat.reduceSub, fstoreN, r6_0_go, r6_0U, r6_1_go, r6_1U, r6_2_go, r6_2U, Option.getD_some, e1', e2', e3', h4, hx4, ho4, hox]
  have x4 : Ext σ3 ((((σ3.push (.cells [.int .i64 0, .int .i64 0, .string ⟨#[]⟩, .slice none 0 0] TD) none).push (.cells [.int .i64 0, .int .i64 0, .string ⟨#[]⟩, .slice none 0 0] TD) none).put σ3.next (.cells lv TD) none).put (σ3.next + 1) (.cells xv TD) none) := ((((Ext.refl _).push _ _).push _ _).put _ _ _ (Nat.le_refl _)).put _ _ _ (by omega)
  have hw4 : Wf ((((σ3.push (.cells [.int .i64 0, .int .i64 0, .string ⟨#[]⟩, .slice none 0 0] TD) none).push (.cells [.int .i64 0, .int .i64 0, .string ⟨#[]⟩, .slice none 0 0] TD) none).put σ3.next (.cells lv TD) none).put (σ3.next + 1) (.cells xv TD) none) := (((hw3.push _ _).push _ _).put _ _ _ (by simp only [push_next]; omega)).put _ _ _ (by simp only [put_next, push_next]; omega)
  have g4 : ((((σ3.push (.cells [.int .i64 0, .int .i64 0, .string ⟨#[]⟩, .slice none 0 0] TD) none).push (.cells [.int .i64 0, .int .i64 0, .string ⟨#[]⟩, .slice none 0 0] TD) none).put σ3.next (.cells lv TD) none).put (σ3.next + 1) (.cells xv TD) none).heap.get σ3.next = some ⟨.cells lv TD, false, none, σ3.clock + 2⟩ := by rw [put_get, if_neg (by omega), put_get, if_pos rfl]; rfl
  have g5 : ((((σ3.push (.cells [.int .i64 0, .int .i64 0, .string ⟨#[]⟩, .slice none 0 0] TD) none).push (.cells [.int .i64 0, .int .i64 0, .string ⟨#[]⟩, .slice none 0 0] TD) none).put σ3.next (.cells lv TD) none).put (σ3.next + 1) (.cells xv TD) none).heap.get (σ3.next + 1) = some ⟨.cells xv TD, false, none, σ3.clock + 3⟩ := by rw [put_get, if_pos rfl]; rfl
  have n4 : ((((σ3.push (.cells [.int .i64 0, .int .i64 0, .string ⟨#[]⟩, .slice none 0 0] TD) none).push (.cells [.int .i64 0, .int .i64 0, .string ⟨#[]⟩, .slice none 0 0] TD) none).put σ3.next (.cells lv TD) none).put (σ3.next + 1) (.cells xv TD) none).next = σ3.next + 2 := rfl
  generalize hff : upd _ 5 _ = f1
  generalize hgg : upd _ 18 _ = g1
  have q3 : f1 3 = .pointer (some ⟨σ.next, 0, none⟩) := by rw [← hff]; simp -implicitDefEqProofs only [upd_go, kept_go, ↓reduceIte, Nat.reduceEqDiff, Nat.reduceLT, reduceCtorEq]
  have q4 : f1 4 = .pointer (some ⟨σ3.next, 0, none⟩) := by rw [← hff]; simp -implicitDefEqProofs only [upd_go, kept_go, ↓reduceIte, Nat.reduceEqDiff, Nat.reduceLT, reduceCtorEq]
  have q5 : f1 5 = .pointer (some ⟨σ3.next + 1, 0, none⟩) := by rw [← hff]; simp -implicitDefEqProofs only [upd_go, kept_go, ↓reduceIte, Nat.reduceEqDiff, Nat.reduceLT, reduceCtorEq]
  clear hff hgg
  generalize FState.put _ _ _ _ = σ4 at x4 hw4 g4 g5 n4 ⊢
  have c4 := cells_of_get g4
  have c5 := cells_of_get g5
  -- the paths
  have K24 : ∀ b cs, New σ1 σ2 b → σ2.cells b = some cs → σ4.cells b = some cs := fun b cs hb hc => by
    have h1 := (x3.cells (hw2.cells hc) (by have := hb.1; omega)).trans hc
    exact (x4.cells (hw3.cells h1)).trans h1
  have hfew := hF.few (by omega)
  have hdd := hF.deep_le
  obtain ⟨w5, σ5, e5, x5, hw5, ba, us, hba, F5, pl5⟩ := paths_go (q + 35) 5 d hdd [] (.agg lv.toArray) (.slice none 0 0) (New σ1 σ2) (fun _ => True) σ4 hw4 (hL.keep fun b cs hb hc => ⟨K24 b cs hb hc, hb⟩) (.inl ⟨rfl, rfl⟩) (by simp; omega) (by omega)
  have e5' : (top (q + 40)).call 22 [.agg lv.toArray, .slice none 0 0] none σ4 = .ret w5 none σ5 := (top_call _ _ _ _ rfl).trans e5
  obtain ⟨hw5v, ca5⟩ := F5.cells
  have n5 := x5.next
  have hC5 : Coil σ5 σ.next k3 := (hC3.ext hw3 x4).ext hw4 x5
  have ba6 : ba < σ5.next := F5.lt hw5
  have hus : us.length = (d.pieces []).length := by rw [pl5.length, List.length_map]
  rw [hw5v] at e5'
  have hne : 1 ≤ us.length := by rw [hus, D.pieces_eq]; simp
  obtain ⟨r7, σ7, e7, h70, h71, W7⟩ := up_go (q + 38) σ.next k3 (.ofNat (us.length - 1)) (by simp only [Int.ofNat_eq_natCast]; omega) (by omega) σ5 hw5 hC5
  obtain ⟨i, rfl⟩ : ∃ i : Nat, r7 = Int.ofNat i := ⟨r7.toNat, by simp only [Int.ofNat_eq_natCast]; omega⟩
  have hi : i < us.length := by simp only [Int.ofNat_eq_natCast] at h71; omega
  have e7' : (top (q + 40)).call 12 [.pointer (some ⟨σ.next, 0, none⟩), .int .i64 (.ofNat (us.length - 1))] none σ5 = .ret (.int .i64 (.ofNat i)) none σ7 := (top_call _ _ _ _ rfl).trans e7
  have w7 := sub1w us.length hne (by omega)
  obtain ⟨y, hy⟩ : ∃ y, (d.pieces [])[i]? = some y := ⟨_, List.getElem?_eq_getElem (by omega)⟩
  have hmem := List.mem_of_getElem? hy
  obtain ⟨r, hr, hat⟩ := pieces_at d [] y hmem
  rw [List.nil_append] at hr
  subst hr
  obtain ⟨hy1, hy2, _⟩ := (hF []).2 y hmem
  obtain ⟨L', hL', hMy⟩ := made_at y.1 4 d y.2 hM hat
  have hFy := made_fine (q + 11) hMy
  obtain ⟨u, hu, hP⟩ := pl5.get (i := i) (p := y.1) (by rw [List.getElem?_map, hy]; rfl)
  have n7 := W7.ext.next
  have k57 : ∀ b cs, b ≠ σ.next → σ5.cells b = some cs → σ7.cells b = some cs := fun b cs hb hc => (W7.ext.cells (hw5.cells hc) hb).trans hc
  have k37 : ∀ b cs, b ≠ σ.next → σ3.cells b = some cs → σ7.cells b = some cs := fun b cs hb hc => by
    have h1 := (x4.cells (hw3.cells hc)).trans hc
    exact k57 b cs hb ((x5.cells (hw4.cells h1)).trans h1)
  have hRne : ∀ b, New σ1 σ2 b → b ≠ σ.next := fun b hb => by have := hb.1; omega
  have ld7 : LaidR (New σ1 σ2) σ7 (.agg lv.toArray) d := hL.keep fun b cs hb hc => ⟨k37 b cs (hRne b hb) ((x3.cells (hw2.cells hc) (hRne b hb)).trans hc), hb⟩
  have lx7 : LaidR (New σ2 σ3) σ7 (.agg xv.toArray) x := hLx.keep fun b cs hb hc => ⟨k37 b cs (by have := hb.1; omega) hc, hb⟩
  obtain ⟨_, σ8, e8, x8, hw8, u8, rfl, hL8⟩ := part_go (q + 38) (Q := fun _ => True) W7.wf ld7 (hP.keep fun b cs hb hc => ⟨k57 b cs (by omega) hc, trivial⟩) (by simp at hy1; omega) (by rw [← pieces_length d []]; omega) hat
  have e8' : (top (q + 40)).call 27 [.agg lv.toArray, u] none σ7 = .ret (.tuple #[u8, .bool true]) none σ8 := (top_call _ _ _ _ rfl).trans e8
  obtain ⟨yv, rfl, hy4, hoy⟩ := hL8.agg
  have n8 := x8.next
  have c45 := (x5.cells (hw4.cells c4)).trans c4
  have v4 : (view σ7 σ5.clock).cells σ3.next = some lv := view_old hw5 (Nat.le_refl _) (W7.ext.get _ (by omega) (by omega)) c45
  have ca7 := k57 _ _ (by omega) ca5
  have hv7 := view_wf W7.wf (Nat.le_refl _)
  have x9 : Ext σ8 ((σ8.push (.cells [.int .i64 0, .int .i64 0, .string ⟨#[]⟩, .slice none 0 0] TD) none).put σ8.next (.cells yv TD) none) := ((Ext.refl _).push _ _).put _ _ _ (Nat.le_refl _)
  have hw9 := (hw8.push (.cells [.int .i64 0, .int .i64 0, .string ⟨#[]⟩, .slice none 0 0] TD) none).put σ8.next (.cells yv TD) none (Nat.lt_succ_self _)
  have c79 : ((σ8.push (.cells [.int .i64 0, .int .i64 0, .string ⟨#[]⟩, .slice none 0 0] TD) none).put σ8.next (.cells yv TD) none).cells σ8.next = some yv := by rw [cells_put, if_pos rfl]; rfl
  have k79 : ∀ b cs, σ7.cells b = some cs → ((σ8.push (.cells [.int .i64 0, .int .i64 0, .string ⟨#[]⟩, .slice none 0 0] TD) none).put σ8.next (.cells yv TD) none).cells b = some cs := fun b cs hc => by
    have h1 := (x8.cells (W7.wf.cells hc)).trans hc
    exact (x9.cells (hw8.cells h1)).trans h1
  have k89 : ∀ b cs, σ8.cells b = some cs → ((σ8.push (.cells [.int .i64 0, .int .i64 0, .string ⟨#[]⟩, .slice none 0 0] TD) none).put σ8.next (.cells yv TD) none).cells b = some cs := fun b cs hc => (x9.cells (hw8.cells hc)).trans hc
  have n9 : ((σ8.push (.cells [.int .i64 0, .int .i64 0, .string ⟨#[]⟩, .slice none 0 0] TD) none).put σ8.next (.cells yv TD) none).next = σ8.next + 1 := rfl
  have c49 := k79 _ _ (k57 _ _ (by omega) c45)
  have c59 := k79 _ _ (k57 _ _ (by omega) ((x5.cells (hw4.cells c5)).trans c5))
  simp -implicitDefEqProofs only [go_sem, ↓reduceIte, Nat.reduceLT, Nat.reduceEqDiff, Nat.reduceAdd, Nat.reduceMul, Nat.reduceLeDiff, Nat.reduceSub, fstoreN, r6_3_go, r6_3U, r6_4_go, r6_4U, q3, q4, q5, c4, h4, ht, e5', w7, e7', v4, hv7, ca7, hi, hu, e8', hy4, hoy, Nat.le_refl, List.getElem?_cons_zero, List.getElem?_cons_succ]
  generalize hff : upd _ 8 _ = f2
  generalize hgg : upd _ 46 _ = g2
  exact replaced_rest q σ3.next (σ3.next + 1) σ8.next us.length L' hL' (New σ1 σ2) (New σ2 σ3) d y.2 x hM hFy hMx lv yv xv (some ⟨ba, 0, none⟩) us.length _ f2 g2 hus h4 hy4 hx4 c49 c59 c79 (ld7.keep fun b cs hb hc => ⟨k79 b cs hc, hb⟩) (hL8.keep fun b cs hb hc => ⟨k89 b cs hc, hb.1⟩) (lx7.keep fun b cs hb hc => ⟨k79 b cs hc, hb⟩) (fun b hb => by rw [put_next, push_next]; have := hb.2; omega) (fun b hb => by rw [put_next, push_next]; have := hb.2; omega) hw9 (by rw [← hff]; simp -implicitDefEqProofs only [upd_go, kept_go, ↓reduceIte, Nat.reduceEqDiff, Nat.reduceLT, reduceCtorEq, q4]) (by rw [← hff]; simp -implicitDefEqProofs only [upd_go, kept_go, ↓reduceIte, Nat.reduceEqDiff, Nat.reduceLT, reduceCtorEq, q5]) (by rw [← hff]; simp -implicitDefEqProofs only [upd_go, kept_go, ↓reduceIte, Nat.reduceEqDiff, Nat.reduceLT, reduceCtorEq]) (by rw [← hff]; simp -implicitDefEqProofs only [upd_go, kept_go, ↓reduceIte, Nat.reduceEqDiff, Nat.reduceLT, reduceCtorEq])
end Go.Proofs.YtodkeaoikjjneaaGreatDoor
