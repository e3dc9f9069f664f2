/- The reading of the program, and what is so of it: SymT, SymCS, SymLS. -/
import Derived.Test.YtodkeaoikjjneaaGreatDoorU4
import Derived.Test.YtodkeaoikjjneaaGreatDoorZSymTL
import Derived.Test.YtodkeaoikjjneaaGreatDoorU3
set_option linter.unusedSimpArgs false
set_option linter.unusedVariables false
/- The reading of a law, where the chapter's examples are told; what it says of a law is so of every run. -/
namespace Go.Proofs.YtodkeaoikjjneaaGreatDoor
open Go Go.Eng
attribute [local congr] andThen_congr fops_congr fdraw_congr afterOp_congr drawF_congr
attribute [-go_sem] List.range_succ
/-- Calls so many deep; the examples hold. -/
noncomputable def top (n : Nat) : Env where
  call := fun f args u σ => match u with
    | none => bif Nat.beq f 21 && args.isEmpty then .ret (.bool true) none σ else (env n).call f args none σ
    | some md => (env n).call f args (some md) σ
  round := fun l args σ => (env n).round l args σ
theorem top_call (n : Nat) (f : FuncId) (args : List Value) (σ : FState) (h : Nat.beq f 21 = false) : (top n).call f args none σ = (env n).call f args none σ := by
  show (bif Nat.beq f 21 && args.isEmpty then CRes.ret (.bool true) none σ else (env n).call f args none σ) = _
  rw [h]
  rfl
theorem top_looks (n : Nat) (σ : FState) : (top n).call 21 [] none σ = .ret (.bool true) none σ := rfl
theorem top_defer (n : Nat) (f : FuncId) (args : List Value) (md : FrameMode) (σ : FState) : (top n).call f args (some md) σ = (env n).call f args (some md) σ := rfl
theorem top_round (n l : Nat) (args : List Value) (σ : FState) : (top n).round l args σ = (env n).round l args σ := rfl

theorem sy_mixed : Tryz.prog.follows .mixedOrders = true := by kernel_rfl
theorem sy_named : (Tryz.prog.funcs.toList.all fun fn => !(fn.name == "runtime.NumGoroutine")) = true := by kernel_rfl
theorem sy_names (f : FuncId) (fn : Func) (h : Tryz.prog.funcs[f]? = some fn) : (fn.name == "runtime.NumGoroutine") = false := by
  have := List.all_eq_true.1 sy_named fn (by
    rw [Array.mem_toList_iff]
    exact Array.mem_of_getElem? h)
  simpa using this
/-- Nothing is pinned. -/
abbrev noPins : Pins := ⟨fun _ _ => False⟩
theorem nosums_ok [Pins] : SumOK Tryz.prog nosums := fun _ _ _ _ _ _ _ h => by cases h
theorem looks_call (W : World) : Calls Tryz.prog 21 #[] W fun e W' => e = .returned (.bool true) ∧ W'.os = W.os ∧ W'.output = W.output ∧ W'.tape = W.tape ∧ W.heap.size ≤ W'.heap.size ∧ ∀ i, i < W.heap.size → W'.heap[i]? = W.heap[i]? :=
  says_true sy_mixed sy_names Tryz.func21 rfl W (@nosums_ok (pinsOf W)) looks_says
theorem top_ok (n : Nat) : @EnvOK noPins Tryz.prog (top n) := by
  letI := noPins
  have h : EnvOK Tryz.prog (env n) := fenv_ok nosums_ok sy_mixed sy_names nls n
  refine ⟨fun f args u σ m w args' hr hA hu => ?_, fun l args σ m w args' e hr hA hm => h.round l args σ m w args' e hr hA hm⟩
  cases u with
  | some md => exact h.call f args (some md) σ m w args' hr hA hu
  | none =>
    by_cases hf : (Nat.beq f 21 && args.isEmpty) = true
    · rw [Bool.and_eq_true, Nat.beq_eq, List.isEmpty_iff] at hf
      obtain ⟨rfl, rfl⟩ := hf
      obtain ⟨L'⟩ := args'
      have hl : L' = [] := by
        have := hA.1
        exact List.length_eq_zero_iff.1 this.symm
      subst hl
      show CallOK Tryz.prog m σ w 21 #[] none (.ret (.bool true) none σ)
      refine .inr ⟨callFunc_enter Tryz.func21 rfl (sy_names _ _ Tryz.func21), fun cs hu => ?_⟩
      obtain ⟨e, w', fr, ⟨rfl, ho, hout, ht, hsz, hk⟩, hc, hfn, hl⟩ := looks_call w cs
      exact ⟨m, w', .bool true, fr, cs, hr.moreWorld hk hsz, (Step.refl σ m w).moreWorld hk hsz ho ht hout, .bool true, hu, .refl _ _, StepsIn.of_steps hc, hfn, hl.2.2.1, ⟨hl.1, hl.2.1, hl.2.2.2⟩⟩
    · have e : (top n).call f args none σ = (env n).call f args none σ := by
        show (bif Nat.beq f 21 && args.isEmpty then CRes.ret (.bool true) none σ else (env n).call f args none σ) = _
        rw [Bool.not_eq_true] at hf
        rw [hf]
        rfl
      rw [e]
      exact h.call f args none σ m w args' hr hA hu
/-- What the reading says of a call, of memory of which nothing may be written, is so of every run. -/
theorem calls_of [Pins] {P : Program} {E : Env} (hE : EnvOK P E) (hm : P.follows .mixedOrders = true) (hname : ∀ (f : FuncId) (fn : Func), P.funcs[f]? = some fn → (fn.name == "runtime.NumGoroutine") = false) (nls : Hints) {f : FuncId} {fn : Func} {body : Code} (hf : P.funcs[f]? = some fn) (hb : fn.body = some body) (σ : FState) (m : Mp) (W : World) (args : List Value) (args' : Array Value) (hr : Rel Top m σ W) (hA : LRel m args args'.toList) (hro : ∀ b e, m b = some e → e.ro = true)
    (h : ∃ σ', fcall P nls E f args none σ = .ret (.bool true) none σ') :
    Calls P f args' W fun e W' => e = .returned (.bool true) ∧ W'.os = W.os ∧ W'.output = W.output ∧ W'.tape = W.tape ∧ W.heap.size ≤ W'.heap.size ∧ ∀ i, i < W.heap.size → W'.heap[i]? = W.heap[i]? := by
  obtain ⟨σ', h⟩ := h
  have hc := call_ok hE (draw_ok hm hE) hname nls f args none σ m W args' hr hA
  generalize fcall P nls E f args none σ = r at h hc
  subst h
  rcases hc with ⟨_, _, _, v', hval, _⟩ | ⟨_, hgo⟩
  · have hent := callFunc_enter (P := P) (w := W) (args := args') hf hb (hname f fn hf)
    rw [hent] at hval
    cases hval
  · intro cs
    obtain ⟨m', w', v', fr, cs', hR, hS', hV, _, hun, hst, hfn, hk, hgoing⟩ := hgo cs rfl
    have hcs : cs' = cs := by
      rcases hun with h | ⟨h, _⟩
      · exact h
      · cases h
    subst hcs
    have hv' := hV.flat rfl
    subst hv'
    exact ⟨.returned (.bool true), w', fr, ⟨rfl, hS'.os, hS'.output, hS'.tape, hS'.size, fun i hi => hS'.keep i hi fun b e ent hb hre => by rw [hro b e hb] at hre; cases hre⟩, hst.steps, hfn, leaving_of_going hk hgoing⟩
theorem law_calls {f : FuncId} {fn : Func} {body : Code} (hf : Tryz.prog.funcs[f]? = some fn) (hb : fn.body = some body) (n : Nat) (σ : FState) (m : Mp) (W : World) (args : List Value) (args' : Array Value) (hr : @Rel noPins Top m σ W) (hA : LRel m args args'.toList) (hro : ∀ b e, m b = some e → e.ro = true)
    (h : ∃ σ', fcall Tryz.prog nls (top n) f args none σ = .ret (.bool true) none σ') :
    Calls Tryz.prog f args' W fun e W' => e = .returned (.bool true) ∧ W'.os = W.os ∧ W'.output = W.output ∧ W'.tape = W.tape ∧ W.heap.size ≤ W'.heap.size ∧ ∀ i, i < W.heap.size → W'.heap[i]? = W.heap[i]? :=
  @calls_of noPins Tryz.prog (top n) (top_ok n) sy_mixed sy_names nls f fn body hf hb σ m W args args' hr hA hro h
/-- Numbers in the model's memory, as the reading begins with them. -/
noncomputable def numbers (zs : List Int) : FState := ⟨Tr.set .lf 0 ⟨.cells (zs.map fun z => Value.int .i64 z) TI, true, none, 0⟩, 1, 1⟩
theorem numbers_get (zs : List Int) (b : Nat) : (numbers zs).heap.get b = if b = 0 then some ⟨.cells (zs.map fun z => Value.int .i64 z) TI, true, none, 0⟩ else none := by
  show (Tr.set .lf 0 _).get b = _
  rw [Tr.get_set]
  split <;> rfl
theorem numbers_wf (zs : List Int) : Wf (numbers zs) := fun b e h => by
  rw [numbers_get] at h
  by_cases hb : b = 0
  · rw [if_pos hb] at h
    cases h
    exact ⟨by subst hb; exact Nat.lt_succ_self 0, Nat.lt_succ_self 0⟩
  · rw [if_neg hb] at h
    cases h
theorem numbers_ints (zs : List Int) : Ints (numbers zs) (some ⟨0, 0, none⟩) zs := fun i n h => by
  refine ⟨0, 0, zs.map fun z => Value.int .i64 z, rfl, ?_, ?_⟩
  · rw [cells_get, numbers_get, if_pos rfl]; rfl
  · rw [Nat.zero_add, List.getElem?_map, h]; rfl
/-- A law over a list of numbers: at every such list, whatever the rest of memory is. -/
theorem law_ints {f : FuncId} {fn : Func} {body : Code} (hf : Tryz.prog.funcs[f]? = some fn) (hb : fn.body = some body) (n : Nat)
    (h : ∀ (p : Option Addr) (l : List Int) (cp : Nat), l.length < 9223372036854775808 → ∀ σ, Wf σ → Ints σ p l → (∀ a, p = some a → a.block < σ.next) → ∃ σ', fcall Tryz.prog nls (top n) f [.slice p l.length cp] none σ = .ret (.bool true) none σ')
    (W : World) (v : Value) (hsz : 0 < W.heap.size)
    (hv : v = .slice none 0 0 ∨ ∃ (a : Addr) (len cap : Nat) (zs : List Int), v = .slice (some a) len cap ∧ len ≤ cap ∧ cap < 9223372036854775808 ∧ zs.length = cap ∧ ∀ i, i < zs.length → W.cell? (a.add i) = some (.int .i64 (zs.getD i 0))) :
    Calls Tryz.prog f #[v] W fun e W' => e = .returned (.bool true) ∧ W'.os = W.os ∧ W'.output = W.output ∧ W'.tape = W.tape ∧ W.heap.size ≤ W'.heap.size ∧ ∀ i, i < W.heap.size → W'.heap[i]? = W.heap[i]? := by
  rcases hv with rfl | ⟨a, len, cap, zs, rfl, hl, hm, hz, hc⟩
  · letI := noPins
    refine law_calls hf hb n Eng.empty (fun _ => none) W [.slice none 0 0] _ ?_ (.cons (.nilSlice 0 0) .nil) (fun b e h => by cases h) (h none [] 0 (by simp) Eng.empty (fun b e h => by cases h) (fun i n h => by simp at h) fun a h => by cases h)
    have hget : ∀ b, Eng.empty.heap.get b = none := fun b => rfl
    exact ⟨fun b ent e _ hb => (by rw [hget] at hb; cases hb), fun b b' ent ent' e e' _ hb => (by rw [hget] at hb; cases hb), fun b e hb => (by cases hb), fun b ent hb => (by rw [hget] at hb; cases hb), fun k o hk => hk.elim⟩
  · letI := noPins
    cases zs with
    | nil =>
      obtain rfl : cap = 0 := hz.symm
      obtain rfl : len = 0 := by omega
      have hget : ∀ b, (⟨.lf, 1, 1⟩ : FState).heap.get b = none := fun b => rfl
      refine law_calls hf hb n ⟨.lf, 1, 1⟩ (fun b => if b = 0 then some ⟨0, 0, true, none⟩ else none) W [.slice (some ⟨0, 0, none⟩) 0 0] _ ?_ (.cons (.empty (b := 0) (off := 0) (if_pos rfl)) .nil) (fun b e h => ?_)
        (h (some ⟨0, 0, none⟩) [] 0 (by simp) ⟨.lf, 1, 1⟩ (fun b e h => by rw [hget] at h; cases h) (fun i n h => by simp at h) fun a h => by cases h; exact Nat.lt_succ_self 0)
      · refine ⟨fun b ent e _ hb => (by rw [hget] at hb; cases hb), fun b b' ent ent' e e' _ hb => (by rw [hget] at hb; cases hb), fun b e hb => ?_, fun b ent hb => (by rw [hget] at hb; cases hb), fun k o hk => hk.elim⟩
        by_cases h0 : b = 0
        · rw [if_pos h0] at hb
          cases hb
          exact ⟨by subst h0; exact Nat.lt_succ_self 0, hsz⟩
        · rw [if_neg h0] at hb; cases hb
      · by_cases h0 : b = 0
        · rw [if_pos h0] at h; cases h; rfl
        · rw [if_neg h0] at h; cases h
    | cons z zs =>
      have h0 := hc 0 (by simp)
      obtain ⟨ab, ao, asp⟩ := a
      have h1 : W.cell? ⟨ab, ao, asp⟩ = some (.int .i64 z) := h0
      have hcell : ∃ c el fr, W.heap[ab]? = some (.cells c el fr) ∧ asp = none := by
        unfold World.cell? at h1
        split at h1
        · rename_i c el fr hb'
          cases asp with
          | none => exact ⟨c, el, fr, hb', rfl⟩
          | some _ => simp at h1
        · cases h1
      obtain ⟨c, el, fr, hW, rfl⟩ := hcell
      have hlt : ab < W.heap.size := (Array.getElem?_eq_some_iff.1 hW).1
      have hci : ∀ (i : Nat) (v : Value), ((z :: zs).map fun z => Value.int .i64 z)[i]? = some v → c[ao + i]? = some v := fun i v hv => by
        rw [List.getElem?_map] at hv
        cases hzi : (z :: zs)[i]? with
        | none => rw [hzi] at hv; cases hv
        | some y =>
          rw [hzi] at hv
          cases hv
          have hil := (List.getElem?_eq_some_iff.1 hzi).1
          have hh := hc i hil
          rw [List.getD, hzi] at hh
          have ha : (⟨ab, ao, none⟩ : Addr).add i = ⟨ab, ao + i, none⟩ := by
            unfold Addr.add
            by_cases h0 : i = 0
            · subst h0; rfl
            · rw [if_neg h0]
          rw [ha] at hh
          unfold World.cell? at hh
          simp only [hW] at hh
          exact hh
      have hty : ((z :: zs).take len).length = len := by rw [List.length_take, hz]; omega
      refine law_calls hf hb n (numbers (z :: zs)) (fun b => if b = 0 then some ⟨ab, ao, true, none⟩ else none) W [.slice (some ⟨0, 0, none⟩) ((z :: zs).take len).length cap] _ ?_ ?_ (fun b e h => ?_)
        (h (some ⟨0, 0, none⟩) ((z :: zs).take len) cap (by rw [hty]; omega) (numbers (z :: zs)) (numbers_wf _) (fun i n hi => numbers_ints (z :: zs) i n (by
          rw [List.getElem?_take] at hi
          split at hi
          · exact hi
          · cases hi)) fun a h => by cases h; exact Nat.lt_succ_self 0)
      · refine ⟨fun b ent e _ hb hm' => ?_, fun b b' ent ent' e e' hne hb hb' _ _ hm' hm'' => ?_, fun b e hb => ?_, fun b ent hb => ((numbers_wf _) b ent hb).1, fun k o hk => hk.elim⟩
        · rw [numbers_get] at hb
          by_cases hb0 : b = 0
          · rw [if_pos hb0] at hb hm'
            cases hb
            cases hm'
            exact ⟨rfl, c, el, fr, hW, (fun h => by cases h), fun i v hv => ⟨v, hci i v hv, by
              rw [List.getElem?_map] at hv
              cases hzi : (z :: zs)[i]? with
              | none => rw [hzi] at hv; cases hv
              | some y => rw [hzi] at hv; cases hv; exact .int _ _⟩, trivial⟩
          · rw [if_neg hb0] at hb; cases hb
        · by_cases hb0 : b = 0
          · by_cases hb1 : b' = 0
            · omega
            · rw [if_neg hb1] at hm''; cases hm''
          · rw [if_neg hb0] at hm'; cases hm'
        · by_cases hb0 : b = 0
          · rw [if_pos hb0] at hb
            cases hb
            exact ⟨by subst hb0; exact Nat.lt_succ_self 0, hlt⟩
          · rw [if_neg hb0] at hb; cases hb
      · refine .cons ?_ .nil
        rw [hty]
        have := VRel.slice (m := fun b => if b = 0 then some ⟨ab, ao, true, none⟩ else none) (b := 0) (off := 0) (l := len) (c := cap) (c' := cap) (e := ⟨ab, ao, true, none⟩) (if_pos rfl) (.inl rfl)
        exact this
      · by_cases hb0 : b = 0
        · rw [if_pos hb0] at h; cases h; rfl
        · rw [if_neg hb0] at h; cases h
end Go.Proofs.YtodkeaoikjjneaaGreatDoor
/- Functions of the program, written out in the reading's words (made by program; the kernel holds each against the code). -/
namespace Go.Proofs.YtodkeaoikjjneaaGreatDoor
open Go Go.Eng
variable (E : Env) (ro : Option Nat) (last : List Nat → RunF) (cl : List Nat) (a : FAct) (u : Option FrameMode) (σ : FState)
/-! caracole/caracolelaw01.DatumSizes -/
noncomputable def r8_0U (_ : Unit) : List COp := [⟨fun a σ => .val (.bool false) σ, (some 2), fun _ => some true⟩]
noncomputable def r8_0 : List COp := r8_0U ()
noncomputable def r8_1U (_ : Unit) : List COp := [⟨fun a σ => .val (a.get 0) σ, (some 13), fun _ => some true⟩,
  ⟨fun a σ => .enter 11 [(a.get 13)] σ, (some 14), fun _ => some true⟩,
  ⟨fun a σ => .enter 13 [(a.get 14), (.int .i64 5)] σ, (some 15), fun _ => some true⟩,
  ⟨fun a σ => newCells [(.int .i64 0), (.int .i64 0), (.string ⟨#[]⟩), (.slice none 0 0)] 28 none σ, (some 3), fun _ => some true⟩,
  ⟨fun a σ => fstore 4 (a.get 3) (a.get 15) σ, none, fun _ => some true⟩]
noncomputable def r8_1 : List COp := r8_1U ()
noncomputable def r8_2U (_ : Unit) : List COp := [⟨fun a σ => fload (some 4) (a.get 3) σ, (some 17), fun _ => some true⟩,
  ⟨fun a σ => .enter 31 [(a.get 17)] σ, (some 18), fun _ => some true⟩,
  ⟨fun a σ => .val (a.get 18) σ, (some 16), fun _ => some true⟩,
  ⟨fun a σ => fextract 0 (a.get 16) σ, (some 19), fun _ => some true⟩,
  ⟨fun a σ => fextract 1 (a.get 16) σ, (some 20), fun _ => some true⟩,
  ⟨fun a σ => fextract 2 (a.get 16) σ, (some 21), fun _ => some true⟩,
  ⟨fun a σ => .val (a.get 19) σ, (some 4), fun _ => some true⟩,
  ⟨fun a σ => .val (a.get 20) σ, (some 5), fun _ => some true⟩,
  ⟨fun a σ => .val (a.get 21) σ, (some 6), fun _ => some true⟩]
noncomputable def r8_2 : List COp := r8_2U ()
noncomputable def r8_3U (_ : Unit) : List COp := [⟨fun a σ => .val (.int .i64 1) σ, (some 7), fun _ => some true⟩,
  ⟨fun a σ => .val (.int .i64 0) σ, (some 8), fun _ => some true⟩]
noncomputable def r8_3 : List COp := r8_3U ()
noncomputable def r8_4U (_ : Unit) : List COp := [⟨fun a σ => .val (.int .i64 0) σ, (some 9), fun _ => some true⟩]
noncomputable def r8_4 : List COp := r8_4U ()
noncomputable def r8_5U (_ : Unit) : List COp := [⟨fun a σ => .val (a.get 9) σ, (some 22), fun _ => some true⟩,
  ⟨fun a σ => ffield 3 (a.get 3) σ, (some 23), fun _ => some true⟩,
  ⟨fun a σ => fload none (a.get 23) σ, (some 24), fun _ => some true⟩,
  ⟨fun a σ => flenL (a.get 24) σ, (some 25), fun _ => some true⟩,
  ⟨fun a σ => i_lss Tryz.prog 3 (.tmp 22) (.tmp 25) (a.get 22) (a.get 25) σ, (some 26), fun _ => some true⟩]
noncomputable def r8_5 : List COp := r8_5U ()
noncomputable def r8_7U (_ : Unit) : List COp := [⟨fun a σ => ffield 3 (a.get 3) σ, (some 30), fun _ => some true⟩,
  ⟨fun a σ => fload none (a.get 30) σ, (some 31), fun _ => some true⟩,
  ⟨fun a σ => .val (a.get 9) σ, (some 32), fun _ => some true⟩,
  ⟨fun a σ => findex (none, 4) (a.get 31) (a.get 32) σ, (some 33), fun _ => some true⟩,
  ⟨fun a σ => fload (some 4) (a.get 33) σ, (some 34), fun _ => some true⟩,
  ⟨fun a σ => .enter 31 [(a.get 34)] σ, (some 35), fun _ => some true⟩,
  ⟨fun a σ => .val (a.get 35) σ, (some 29), fun _ => some true⟩,
  ⟨fun a σ => fextract 0 (a.get 29) σ, (some 36), fun _ => some true⟩,
  ⟨fun a σ => fextract 1 (a.get 29) σ, (some 37), fun _ => some true⟩,
  ⟨fun a σ => fextract 2 (a.get 29) σ, (some 38), fun _ => some true⟩,
  ⟨fun a σ => .val (a.get 36) σ, (some 10), fun _ => some true⟩,
  ⟨fun a σ => .val (a.get 37) σ, (some 11), fun _ => some true⟩,
  ⟨fun a σ => .val (a.get 38) σ, (some 12), fun _ => some true⟩]
noncomputable def r8_7 : List COp := r8_7U ()
noncomputable def r8_8U (_ : Unit) : List COp := [⟨fun a σ => .val (a.get 12) σ, (some 39), fun _ => some true⟩,
  ⟨fun a σ => i_neq Tryz.prog 32 (.tmp 39) (.const (.int .i64 0)) (a.get 39) (.int .i64 0) σ, (some 40), fun _ => some true⟩]
noncomputable def r8_8 : List COp := r8_8U ()
noncomputable def r8_9U (_ : Unit) : List COp := [⟨fun a σ => .val (.bool false) σ, (some 2), fun _ => some true⟩]
noncomputable def r8_9 : List COp := r8_9U ()
noncomputable def r8_10U (_ : Unit) : List COp := [⟨fun a σ => .val (a.get 7) σ, (some 41), fun _ => some true⟩,
  ⟨fun a σ => .val (a.get 10) σ, (some 42), fun _ => some true⟩,
  ⟨fun a σ => i_add Tryz.prog 3 (.tmp 41) (.tmp 42) (a.get 41) (a.get 42) σ, (some 43), fun _ => some true⟩,
  ⟨fun a σ => .val (a.get 8) σ, (some 44), fun _ => some true⟩,
  ⟨fun a σ => .val (a.get 11) σ, (some 45), fun _ => some true⟩,
  ⟨fun a σ => fun2 Tryz.prog Builtin.max2 (a.get 44) (a.get 45) σ, (some 46), fun _ => some true⟩,
  ⟨fun a σ => .val (a.get 43) σ, (some 7), fun _ => some true⟩,
  ⟨fun a σ => .val (a.get 46) σ, (some 8), fun _ => some true⟩]
noncomputable def r8_10 : List COp := r8_10U ()
noncomputable def r8_6U (_ : Unit) : List COp := [⟨fun a σ => .val (a.get 9) σ, (some 27), fun _ => some true⟩,
  ⟨fun a σ => i_add Tryz.prog 3 (.tmp 27) (.const (.int .i64 1)) (a.get 27) (.int .i64 1) σ, (some 28), fun _ => some true⟩,
  ⟨fun a σ => .val (a.get 28) σ, (some 9), fun _ => some true⟩]
noncomputable def r8_6 : List COp := r8_6U ()
noncomputable def l8_0 (E : Env) (ro : Option Nat) (fn : FuncId) : RunF := (seqR (seqR (fops E ro r8_5) (condR (fun a => (a.get 26)) skipR (exitR 0))) (seqR (blockR 1 (seqR (fops E ro r8_7) (seqR (seqR (fops E ro r8_8) (condR (fun a => (a.get 40)) (seqR (fops E ro r8_9) retR) skipR)) (fops E ro r8_10)))) (fops E ro r8_6)))
noncomputable def r8_11U (_ : Unit) : List COp := [⟨fun a σ => .val (a.get 6) σ, (some 47), fun _ => some true⟩,
  ⟨fun a σ => i_eql Tryz.prog 32 (.tmp 47) (.const (.int .i64 0)) (a.get 47) (.int .i64 0) σ, (some 48), fun _ => some true⟩,
  ⟨fun a σ => .val (a.get 48) σ, (some 49), fun _ => some true⟩,
  ⟨fun a σ => .val (a.get 4) σ, (some 50), fun a => gd (a.get 49) true⟩,
  ⟨fun a σ => .val (a.get 7) σ, (some 51), fun a => gd (a.get 49) true⟩,
  ⟨fun a σ => i_eql Tryz.prog 3 (.tmp 50) (.tmp 51) (a.get 50) (a.get 51) σ, (some 52), fun a => gd (a.get 49) true⟩,
  ⟨fun a σ => fpick (a.get 49) (a.get 52) (.bool false) σ, (some 53), fun _ => some true⟩,
  ⟨fun a σ => .val (a.get 53) σ, (some 54), fun _ => some true⟩,
  ⟨fun a σ => .val (a.get 5) σ, (some 55), fun a => gd (a.get 54) true⟩,
  ⟨fun a σ => .val (a.get 8) σ, (some 56), fun a => gd (a.get 54) true⟩,
  ⟨fun a σ => i_add Tryz.prog 3 (.tmp 56) (.const (.int .i64 1)) (a.get 56) (.int .i64 1) σ, (some 57), fun a => gd (a.get 54) true⟩,
  ⟨fun a σ => i_eql Tryz.prog 3 (.tmp 55) (.tmp 57) (a.get 55) (a.get 57) σ, (some 58), fun a => gd (a.get 54) true⟩,
  ⟨fun a σ => fpick (a.get 54) (a.get 58) (.bool false) σ, (some 59), fun _ => some true⟩,
  ⟨fun a σ => .val (a.get 59) σ, (some 60), fun _ => some true⟩,
  ⟨fun a σ => .enter 21 [] σ, (some 61), fun a => gd (a.get 60) true⟩,
  ⟨fun a σ => fpick (a.get 60) (a.get 61) (.bool false) σ, (some 62), fun _ => some true⟩,
  ⟨fun a σ => .val (a.get 62) σ, (some 2), fun _ => some true⟩]
noncomputable def r8_11 : List COp := r8_11U ()
noncomputable def run8 (E : Env) (ro : Option Nat) (fn : FuncId) : RunF := (seqR (fops E ro r8_0) (seqR (fops E ro r8_1) (seqR (fops E ro r8_2) (seqR (fops E ro r8_3) (seqR (seqR (fops E ro r8_4) (blockR 0 (loopR (keepOf nls fn) (l8_0 E ro fn)))) (seqR (fops E ro r8_11) retR))))))
theorem r8_0_go : fops E ro r8_0 a u σ = fops E ro (r8_0U ()) a u σ := rfl
theorem r8_1_go : fops E ro r8_1 a u σ = fops E ro (r8_1U ()) a u σ := rfl
theorem r8_2_go : fops E ro r8_2 a u σ = fops E ro (r8_2U ()) a u σ := rfl
theorem r8_3_go : fops E ro r8_3 a u σ = fops E ro (r8_3U ()) a u σ := rfl
theorem r8_4_go : fops E ro r8_4 a u σ = fops E ro (r8_4U ()) a u σ := rfl
theorem r8_5_go : fops E ro r8_5 a u σ = fops E ro (r8_5U ()) a u σ := rfl
theorem r8_7_go : fops E ro r8_7 a u σ = fops E ro (r8_7U ()) a u σ := rfl
theorem r8_8_go : fops E ro r8_8 a u σ = fops E ro (r8_8U ()) a u σ := rfl
theorem r8_9_go : fops E ro r8_9 a u σ = fops E ro (r8_9U ()) a u σ := rfl
theorem r8_10_go : fops E ro r8_10 a u σ = fops E ro (r8_10U ()) a u σ := rfl
theorem r8_6_go : fops E ro r8_6 a u σ = fops E ro (r8_6U ()) a u σ := rfl
theorem r8_11_go : fops E ro r8_11 a u σ = fops E ro (r8_11U ()) a u σ := rfl
theorem code8 (E : Env) (ro : Option Nat) (fn : FuncId) : code Tryz.prog nls (Tryz.f8.body.getD .skip) E ro fn = run8 E ro fn := by kernel_rfl
theorem enter8 (E : Env) (args : List Value) (u : Option FrameMode) (σ : FState) (hn : args.length ≤ (13 : Nat)) : fcall Tryz.prog nls E 8 args u σ = leaveR Tryz.prog E [.tmp 2] (run8 E none 8 ⟨padTo undef 13 args, fun _ => undef, 13, 63, []⟩ u σ) := by
  rw [fcall_of (body := Tryz.f8.body.getD .skip) Tryz.func8 rfl E args u σ 13 63 (by kernel_rfl) rfl ⟨hn, by decide⟩, code8]
  rfl
end Go.Proofs.YtodkeaoikjjneaaGreatDoor
/- DatumSizes: what the reading says. -/
namespace Go.Proofs.YtodkeaoikjjneaaGreatDoor
open Go Go.Eng
attribute [local congr] andThen_congr fops_congr fdraw_congr afterOp_congr drawF_congr
attribute [-go_sem] List.range_succ
/-- datum.Size. -/
theorem size_go (m L : Nat) (hL6 : L ≤ 6) (d : D) (hF : Fine m L d) (lv : List Value) (h4 : lv.length = 4) (R : Nat → Prop) (σ : FState) (hw : Wf σ) (hL : LaidR R σ (.agg lv.toArray) d) (hR : ∀ b, R b → b < σ.next) :
    Gives ((env (m + 9)).call 31 [.agg lv.toArray] none σ) σ fun w _ => w = .tuple #[.int .i64 (.ofNat d.count), .int .i64 (.ofNat d.deep), .int .i64 0] := by
  have hf := hF.few hL6
  refine sizeD (m + 5) lv _ _ σ hw h4 (fun σ' hx hw' => ?_) (fun σ' hx hw' => ?_)
  · have h := valid_go m d lv h4 R σ' hw' (hL.keep fun b cs hb hc => ⟨(hx.cells (hw.cells hc)).trans hc, hb⟩) (fun b hb => Nat.lt_of_lt_of_le (hR b hb) hx.next) (hF.small hL6) (by omega) hF.good
    rwa [pieces_length] at h
  · have h := deepest_go (m + 1) d lv h4 R σ' hw' (hL.keep fun b cs hb hc => ⟨(hx.cells (hw.cells hc)).trans hc, hb⟩) (fun b hb => Nat.lt_of_lt_of_le (hR b hb) hx.next) (hF.small hL6) (by omega)
    rw [longest_pieces, List.length_nil, Nat.zero_add] at h
    exact h
theorem keepLaw : keepOf nls 8 = [47, 48, 49, 50, 51, 52, 53, 54, 55, 56, 57, 58, 59, 60, 61, 62] := by kernel_rfl
theorem eql_errno (x y : Operand) (a b : Int) (σ : FState) : i_eql Tryz.prog 32 x y (.int .i64 a) (.int .i64 b) σ = .val (.bool (a == b)) σ := eql_int _ _ _ _ _ _ _
/-- At the head of the law's loop. -/
structure HeadS (m : Nat) (b3 : Nat) (R : Nat → Prop) (k z : Int) (t : ByteArray) (p : Option Addr) (c : Nat) (ds : List D) (σ0 : FState) (i : Nat) (f : Nat → Value) (σ : FState) : Prop where
  f3 : f 3 = .pointer (some ⟨b3, 0, none⟩)
  f7 : f 7 = .int .i64 (.ofNat (D.counts (ds.take i) + 1))
  f8 : f 8 = .int .i64 (.ofNat (D.deeps (ds.take i)))
  f9 : f 9 = .int .i64 (.ofNat i)
  cd : σ.cells b3 = some [.int .i64 k, .int .i64 z, .string t, .slice p ds.length c]
  lay : LaidRE R σ p 0 ds
  low : ∀ b, R b → b < σ.next
  wf : Wf σ
  ext : Ext σ0 σ
  le : i ≤ ds.length
theorem counts_take (ds : List D) (i : Nat) (d : D) (h : ds[i]? = some d) : D.counts (ds.take (i + 1)) = D.counts (ds.take i) + d.count := by
  induction ds generalizing i with
  | nil => simp at h
  | cons x ds ih =>
    cases i with
    | zero =>
      simp at h
      subst h
      simp [D.counts]
    | succ i =>
      simp at h
      simp [D.counts, ih i h, Nat.add_assoc]
theorem deeps_take (ds : List D) (i : Nat) (d : D) (h : ds[i]? = some d) : D.deeps (ds.take (i + 1)) = max (D.deeps (ds.take i)) d.deep := by
  induction ds generalizing i with
  | nil => simp at h
  | cons x ds ih =>
    cases i with
    | zero =>
      simp at h
      subst h
      simp [D.deeps]
    | succ i =>
      simp at h
      simp [D.deeps, ih i h, Nat.max_assoc]
theorem counts_le (ds : List D) (i : Nat) : D.counts (ds.take i) ≤ D.counts ds := by
  induction ds generalizing i with
  | nil => simp
  | cons x ds ih =>
    cases i with
    | zero => simp [D.counts]
    | succ i => have := ih i; simp [D.counts]; omega
theorem sizes_loop (m L : Nat) (hL6 : L ≤ 6) (b3 : Nat) (R : Nat → Prop) (k z : Int) (t : ByteArray) (p : Option Addr) (c : Nat) (ds : List D) (hF : ∀ d ∈ ds, Fine m L d) (hlen : ds.length < 1000) (hcs : D.counts ds < 100000) (σ0 : FState) : ∀ (j fuel i : Nat) (f g : Nat → Value) (σ : FState), i + j = ds.length → j < fuel → HeadS m b3 R k z t p c ds σ0 i f σ →
    ∃ f' g' σ', floop [47, 48, 49, 50, 51, 52, 53, 54, 55, 56, 57, 58, 59, 60, 61, 62] (l8_0 (top (m + 9)) none 8) fuel (Sl 13 63 f g []) none σ = .done (.exit 0) (Sl 13 63 f' g' []) none σ' ∧ HeadS m b3 R k z t p c ds σ0 ds.length f' σ' ∧ f' 4 = f 4 ∧ f' 5 = f 5 ∧ f' 6 = f 6 := by
  intro j
  induction j with
  | zero =>
    intro fuel i f g σ hij hf h
    obtain ⟨fuel, rfl⟩ : ∃ q, fuel = q + 1 := ⟨fuel - 1, by omega⟩
    obtain rfl : i = ds.length := by omega
    have d1 : decide (Int.ofNat ds.length < Int.ofNat ds.length) = false := by simp
    rw [floop_step, Sl_forget]
    unfold l8_0
    simp -implicitDefEqProofs only [go_sem, ↓reduceIte, Nat.reduceLT, Nat.reduceEqDiff, Nat.reduceAdd, Nat.reduceMul, Nat.reduceLeDiff, Nat.reduceSub, r8_5_go, r8_5U, h.f3, h.f9, h.cd, d1]
    exact ⟨_, _, _, rfl, h, rfl, rfl, rfl⟩
  | succ j ih =>
    intro fuel i f g σ hij hf h
    obtain ⟨fuel, rfl⟩ : ∃ q, fuel = q + 1 := ⟨fuel - 1, by omega⟩
    have hi : i < ds.length := by omega
    have d1 : decide (Int.ofNat i < Int.ofNat ds.length) = true := by simp; omega
    have hd : ds[i]? = some ds[i] := List.getElem?_eq_getElem hi
    obtain ⟨b, off, cs, rfl, hRb, hc, hle, hLd⟩ := LaidRE.get h.lay hd
    rw [Nat.zero_add] at hle hLd
    obtain ⟨l4, ho⟩ : ((cs.drop (off + i * 4)).take 4).length = 4 ∧ True := ⟨by rw [List.length_take, List.length_drop]; omega, trivial⟩
    obtain ⟨_, σ1, e1, x1, hw1, rfl⟩ := size_go m L hL6 ds[i] (hF _ (List.getElem_mem _)) _ l4 R σ h.wf hLd h.low
    have ct := counts_take ds i _ hd
    have dt := deeps_take ds i _ hd
    have cl := counts_le ds (i + 1)
    have w1 : wrapI (Int.ofNat (D.counts (ds.take i) + 1) + Int.ofNat ds[i].count) = Int.ofNat (D.counts (ds.take (i + 1)) + 1) := by
      rw [wrapI_of (by simp only [Int.ofNat_eq_natCast]; omega)]
      simp only [Int.ofNat_eq_natCast]
      omega
    have w2 : (if Int.ofNat ds[i].deep > Int.ofNat (D.deeps (ds.take i)) then Int.ofNat ds[i].deep else Int.ofNat (D.deeps (ds.take i))) = Int.ofNat (D.deeps (ds.take (i + 1))) := by
      rw [dt, Nat.max_def]
      simp only [Int.ofNat_eq_natCast]
      split <;> split <;> omega
    have w3 := add1 i (by omega)
    have n1 : (!((0 : Int) == 0)) = false := by decide
    have tc : ∀ args σ, (top (m + 9)).call 31 args none σ = (env (m + 9)).call 31 args none σ := fun _ _ => top_call _ _ _ _ rfl
    rw [floop_step, Sl_forget]
    unfold l8_0
    simp -implicitDefEqProofs only [go_sem, ↓reduceIte, Nat.reduceLT, Nat.reduceEqDiff, Nat.reduceAdd, Nat.reduceMul, Nat.reduceLeDiff, Nat.reduceSub, r8_5_go, r8_5U, r8_7_go, r8_7U, h.f3, h.f9, h.cd, d1, hi, hc, hle, tc, e1, r8_8_go, r8_8U, n1, r8_10_go, r8_10U, h.f7, h.f8, w1, w2, max_int, r8_6_go, r8_6U, w3]
    obtain ⟨f', g', σ', e2, h2, q4, q5, q6⟩ := ih fuel (i + 1) (upd (upd (upd (upd (upd (upd f 10 (.int .i64 (.ofNat ds[i].count))) 11 (.int .i64 (.ofNat ds[i].deep))) 12 (.int .i64 0)) 7 (.int .i64 (.ofNat (D.counts (ds.take (i + 1)) + 1)))) 8 (.int .i64 (.ofNat (D.deeps (ds.take (i + 1)))))) 9 (.int .i64 (.ofNat (i + 1)))) _ σ1 (by omega) (by omega) {
      f3 := by simp -implicitDefEqProofs only [upd_go, kept_go, ↓reduceIte, Nat.reduceEqDiff, Nat.reduceLT, reduceCtorEq, h.f3]
      f7 := by simp -implicitDefEqProofs only [upd_go, kept_go, ↓reduceIte, Nat.reduceEqDiff, Nat.reduceLT, reduceCtorEq]
      f8 := by simp -implicitDefEqProofs only [upd_go, kept_go, ↓reduceIte, Nat.reduceEqDiff, Nat.reduceLT, reduceCtorEq]
      f9 := by simp -implicitDefEqProofs only [upd_go, kept_go, ↓reduceIte, Nat.reduceEqDiff, Nat.reduceLT, reduceCtorEq]
      cd := (x1.cells (h.wf.cells h.cd)).trans h.cd
      lay := h.lay.keep fun b cs hb hc => ⟨(x1.cells (h.wf.cells hc)).trans hc, hb⟩
      low := fun b hb => Nat.lt_of_lt_of_le (h.low b hb) x1.next
      wf := hw1
      ext := h.ext.trans x1
      le := by omega }
    exact ⟨f', g', σ', e2, h2, q4, q5, q6⟩
mutual
theorem deep_le : ∀ d : D, d.deep ≤ d.count
  | .mk k z t ds => by rw [D.deep, D.count]; have := deeps_le ds; omega
theorem deeps_le : ∀ ds : List D, D.deeps ds ≤ D.counts ds
  | [] => Nat.le_refl _
  | d :: ds => by rw [D.deeps, D.counts]; have := deep_le d; have := deeps_le ds; omega
end
/-- What the reading says of the law. -/
theorem sizes_says (q : Nat) (p : Option Addr) (l : List Int) (cp : Nat) (hl : l.length < 9223372036854775808) (σ : FState) (hw : Wf σ) (hI : Ints σ p l) (hp : ∀ a, p = some a → a.block < σ.next) :
    ∃ σ', fcall Tryz.prog nls (top (q + 40)) 8 [.slice p l.length cp] none σ = .ret (.bool true) none σ' := by
  obtain ⟨σ1, e1, x1, hw1, hC⟩ := newCoil_go (q + 39) p l cp hl σ hw hI hp
  obtain ⟨v, d, σ2, k', e2, hL, hM, x2, hw2, hC2, _, _⟩ := datumOf_go (q + 31) σ.next 5 (by omega) 0 σ1 (by simp [wound]) hw1 hC
  have hF := made_fine (q + 11) hM
  obtain ⟨k, z, t, ds⟩ := d
  have hLL := hL
  obtain ⟨pp, c, rfl, hE⟩ := hL
  have e2' : (env (q + 40)).call 13 [.pointer (some ⟨σ.next, 0, none⟩), .int .i64 5] none σ1 = .ret (.agg #[.int .i64 k, .int .i64 z, .string t, .slice pp ds.length c]) none σ2 := e2
  have hx3 : Ext σ2 ((σ2.push (.cells [.int .i64 0, .int .i64 0, .string ⟨#[]⟩, .slice none 0 0] TD) none).put σ2.next (.cells [.int .i64 k, .int .i64 z, .string t, .slice pp ds.length c] TD) none) := ((Ext.refl _).push _ _).put _ _ _ (Nat.le_refl _)
  have hw3 := (hw2.push (.cells [.int .i64 0, .int .i64 0, .string ⟨#[]⟩, .slice none 0 0] TD) none).put σ2.next (.cells [.int .i64 k, .int .i64 z, .string t, .slice pp ds.length c] TD) none (Nat.lt_succ_self _)
  have b3 : ((σ2.push (.cells [.int .i64 0, .int .i64 0, .string ⟨#[]⟩, .slice none 0 0] TD) none).put σ2.next (.cells [.int .i64 k, .int .i64 z, .string t, .slice pp ds.length c] TD) none).cells σ2.next = some [.int .i64 k, .int .i64 z, .string t, .slice pp ds.length c] := by rw [cells_put, if_pos rfl]; rfl
  have tc1 : ∀ args σ, (top (q + 40)).call 11 args none σ = (env (q + 40)).call 11 args none σ := fun _ _ => top_call _ _ _ _ rfl
  have tc2 : ∀ args σ, (top (q + 40)).call 13 args none σ = (env (q + 40)).call 13 args none σ := fun _ _ => top_call _ _ _ _ rfl
  have tc3 : ∀ args σ, (top (q + 40)).call 31 args none σ = (env (q + 40)).call 31 args none σ := fun _ _ => top_call _ _ _ _ rfl
  rw [enter8 _ _ _ _ (by simp), Sl_start]
  unfold run8
  simp -implicitDefEqProofs only [go_sem, ↓reduceIte, Nat.reduceLT, Nat.reduceEqDiff, Nat.reduceAdd, Nat.reduceMul, Nat.reduceLeDiff, Nat.reduceSub, fstoreN, r8_0_go, r8_0U, r8_1_go, r8_1U, Option.getD_some, tc1, tc2, e1, e2']
  generalize hff : upd _ 3 _ = f1
  generalize hgg : upd _ 15 _ = g1
  have q3 : f1 3 = .pointer (some ⟨σ2.next, 0, none⟩) := by rw [← hff]; simp -implicitDefEqProofs only [upd_go, kept_go, ↓reduceIte, Nat.reduceEqDiff, Nat.reduceLT, reduceCtorEq]
  clear hff hgg
  generalize FState.put _ _ _ _ = σ3 at hx3 hw3 b3 ⊢
  have kR : ∀ b cs, New σ1 σ2 b → σ2.cells b = some cs → σ3.cells b = some cs ∧ New σ1 σ2 b := fun b cs hb hc => ⟨(hx3.cells (hw2.cells hc)).trans hc, hb⟩
  have lowR : ∀ b, New σ1 σ2 b → b < σ3.next := fun b hb => Nat.lt_of_lt_of_le hb.2 hx3.next
  have hsz : ∀ σ4, Ext σ3 σ4 → Wf σ4 → Gives ((env (q + 40)).call 31 [.agg #[.int .i64 k, .int .i64 z, .string t, .slice pp ds.length c]] none σ4) σ4 fun w _ => w = .tuple #[.int .i64 (.ofNat (D.mk k z t ds).count), .int .i64 (.ofNat (D.mk k z t ds).deep), .int .i64 0] := fun σ4 hx hw4 =>
    size_go (q + 31) 5 (by omega) _ hF [.int .i64 k, .int .i64 z, .string t, .slice pp ds.length c] rfl (New σ1 σ2) σ4 hw4 ((hLL.keep kR).keep fun b cs hb hc => ⟨(hx.cells (hw3.cells hc)).trans hc, hb⟩) fun b hb => Nat.lt_of_lt_of_le (lowR b hb) hx.next
  obtain ⟨_, σ4, e4, x4, hw4, rfl⟩ := hsz σ3 (Ext.refl _) hw3
  simp -implicitDefEqProofs only [go_sem, ↓reduceIte, Nat.reduceLT, Nat.reduceEqDiff, Nat.reduceAdd, Nat.reduceMul, Nat.reduceLeDiff, Nat.reduceSub, r8_2_go, r8_2U, r8_3_go, r8_3U, r8_4_go, r8_4U, q3, b3, tc3, e4, keepLaw]
  generalize hff : upd _ 9 _ = f2
  generalize hgg : upd _ 21 _ = g2
  generalize hbf : bigFuel = fuel
  have hfew := hF.few (by omega)
  rw [pieces_length, D.count] at hfew
  have hdl : ds.length ≤ 3 := ((hF []).2 ([], .mk k z t ds) (by rw [D.pieces]; exact List.mem_cons_self)).2.1
  obtain ⟨f3, g3, σ5, e5, h5, r4, r5, r6⟩ := sizes_loop (q + 31) 4 (by omega) σ2.next (New σ1 σ2) k z t pp c ds (fun x hx => made_fine (q + 11) (Fine.part (m := q + 31) hM hx)) (by omega) (by omega) σ3 ds.length fuel 0 f2 g2 σ4 (by omega) (by rw [← hbf]; show ds.length < 1000000000000; omega) {
    f3 := by rw [← hff]; simp -implicitDefEqProofs only [upd_go, kept_go, ↓reduceIte, Nat.reduceEqDiff, Nat.reduceLT, reduceCtorEq, q3]
    f7 := by rw [← hff]; simp -implicitDefEqProofs only [upd_go, kept_go, ↓reduceIte, Nat.reduceEqDiff, Nat.reduceLT, reduceCtorEq] <;> rfl
    f8 := by rw [← hff]; simp -implicitDefEqProofs only [upd_go, kept_go, ↓reduceIte, Nat.reduceEqDiff, Nat.reduceLT, reduceCtorEq] <;> rfl
    f9 := by rw [← hff]; simp -implicitDefEqProofs only [upd_go, kept_go, ↓reduceIte, Nat.reduceEqDiff, Nat.reduceLT, reduceCtorEq] <;> rfl
    cd := (x4.cells (hw3.cells b3)).trans b3
    lay := (hE.keep kR).keep fun b cs hb hc => ⟨(x4.cells (hw3.cells hc)).trans hc, hb⟩
    low := fun b hb => Nat.lt_of_lt_of_le (lowR b hb) x4.next
    wf := hw4
    ext := x4
    le := Nat.zero_le _ }
  have s4 : f2 4 = .int .i64 (.ofNat (D.mk k z t ds).count) := by rw [← hff]; simp -implicitDefEqProofs only [upd_go, kept_go, ↓reduceIte, Nat.reduceEqDiff, Nat.reduceLT, reduceCtorEq]
  have s5 : f2 5 = .int .i64 (.ofNat (D.mk k z t ds).deep) := by rw [← hff]; simp -implicitDefEqProofs only [upd_go, kept_go, ↓reduceIte, Nat.reduceEqDiff, Nat.reduceLT, reduceCtorEq]
  have s6 : f2 6 = .int .i64 0 := by rw [← hff]; simp -implicitDefEqProofs only [upd_go, kept_go, ↓reduceIte, Nat.reduceEqDiff, Nat.reduceLT, reduceCtorEq]
  have t7 := h5.f7
  have t8 := h5.f8
  rw [List.take_length] at t7 t8
  have hdp : D.deeps ds ≤ 100000 := by have := deeps_le ds; omega
  have w1 := add1 (D.deeps ds) (by omega)
  have ec : (D.mk k z t ds).count = D.counts ds + 1 := by rw [D.count]
  have ed : (D.mk k z t ds).deep = D.deeps ds + 1 := by rw [D.deep]
  rw [ec] at s4
  rw [ed] at s5
  have y1 : ((0 : Int) == 0) = true := by decide
  rw [e5]
  simp -implicitDefEqProofs only [go_sem, ↓reduceIte, Nat.reduceLT, Nat.reduceEqDiff, Nat.reduceAdd, Nat.reduceMul, Nat.reduceLeDiff, Nat.reduceSub, r8_11_go, r8_11U, r4, r5, r6, s4, s5, s6, t7, t8, w1, y1, top_looks]
  exact ⟨_, rfl⟩
end Go.Proofs.YtodkeaoikjjneaaGreatDoor
