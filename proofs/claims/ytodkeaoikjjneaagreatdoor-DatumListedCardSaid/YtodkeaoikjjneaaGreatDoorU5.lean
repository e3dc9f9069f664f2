/- The reading of the program, and what is so of it: SymT, SymPg, SymPc, SymPh, SymNa, SymNb, SymCN, SymNc, SymNd, SymNe, SymNf, SymNg, SymNh, SymNi, SymNj, SymNk, SymNl, SymNm, SymCX, SymLN0, SymLN1. -/
import Derived.Test.YtodkeaoikjjneaaGreatDoorU4
import Derived.Test.YtodkeaoikjjneaaGreatDoorZSymTL
import Derived.Test.YtodkeaoikjjneaaGreatDoorU3
set_option linter.unusedSimpArgs false
set_option linter.unusedVariables false
/- The reading of a law, where the chapter's examples are told; what it says of a law is so of every run. -/
namespace Go.Proofs.YtodkeaoikjjneaaGreatDoor
open Go Go.Eng
attribute [local congr] andThen_congr fops_congr fdraw_congr afterOp_congr drawF_congr
attribute [-go_sem] List.range_succ
/-- Calls so many deep; the examples hold. -/
noncomputable def top (n : Nat) : Env where
  call := fun f args u σ => match u with
    | none => bif Nat.beq f 21 && args.isEmpty then .ret (.bool true) none σ else (env n).call f args none σ
    | some md => (env n).call f args (some md) σ
  round := fun l args σ => (env n).round l args σ
theorem top_call (n : Nat) (f : FuncId) (args : List Value) (σ : FState) (h : Nat.beq f 21 = false) : (top n).call f args none σ = (env n).call f args none σ := by
  show (bif Nat.beq f 21 && args.isEmpty then CRes.ret (.bool true) none σ else (env n).call f args none σ) = _
  rw [h]
  rfl
theorem top_looks (n : Nat) (σ : FState) : (top n).call 21 [] none σ = .ret (.bool true) none σ := rfl
theorem sy_mixed : Tryz.prog.follows .mixedOrders = true := by kernel_rfl
theorem sy_named : (Tryz.prog.funcs.toList.all fun fn => !(fn.name == "runtime.NumGoroutine")) = true := by kernel_rfl
theorem sy_names (f : FuncId) (fn : Func) (h : Tryz.prog.funcs[f]? = some fn) : (fn.name == "runtime.NumGoroutine") = false := by
  have := List.all_eq_true.1 sy_named fn (by
    rw [Array.mem_toList_iff]
    exact Array.mem_of_getElem? h)
  simpa using this
/-- Nothing is pinned. -/
abbrev noPins : Pins := ⟨fun _ _ => False⟩
theorem nosums_ok [Pins] : SumOK Tryz.prog nosums := fun _ _ _ _ _ _ _ h => by cases h
theorem looks_call (W : World) : Calls Tryz.prog 21 #[] W fun e W' => e = .returned (.bool true) ∧ W'.os = W.os ∧ W'.output = W.output ∧ W'.tape = W.tape ∧ W.heap.size ≤ W'.heap.size ∧ ∀ i, i < W.heap.size → W'.heap[i]? = W.heap[i]? :=
  says_true sy_mixed sy_names Tryz.func21 rfl W (@nosums_ok (pinsOf W)) looks_says
theorem top_ok (n : Nat) : @EnvOK noPins Tryz.prog (top n) := by
  letI := noPins
  have h : EnvOK Tryz.prog (env n) := fenv_ok nosums_ok sy_mixed sy_names nls n
  refine ⟨fun f args u σ m w args' hr hA hu => ?_, fun l args σ m w args' e hr hA hm => h.round l args σ m w args' e hr hA hm⟩
  cases u with
  | some md => exact h.call f args (some md) σ m w args' hr hA hu
  | none =>
    by_cases hf : (Nat.beq f 21 && args.isEmpty) = true
    · rw [Bool.and_eq_true, Nat.beq_eq, List.isEmpty_iff] at hf
      obtain ⟨rfl, rfl⟩ := hf
      obtain ⟨L'⟩ := args'
      have hl : L' = [] := by
        have := hA.1
        exact List.length_eq_zero_iff.1 this.symm
      subst hl
      show CallOK Tryz.prog m σ w 21 #[] none (.ret (.bool true) none σ)
      refine .inr ⟨callFunc_enter Tryz.func21 rfl (sy_names _ _ Tryz.func21), fun cs hu => ?_⟩
      obtain ⟨e, w', fr, ⟨rfl, ho, hout, ht, hsz, hk⟩, hc, hfn, hl⟩ := looks_call w cs
      exact ⟨m, w', .bool true, fr, cs, hr.moreWorld hk hsz, (Step.refl σ m w).moreWorld hk hsz ho ht hout, .bool true, hu, .refl _ _, StepsIn.of_steps hc, hfn, hl.2.2.1, ⟨hl.1, hl.2.1, hl.2.2.2⟩⟩
    · have e : (top n).call f args none σ = (env n).call f args none σ := by
        show (bif Nat.beq f 21 && args.isEmpty then CRes.ret (.bool true) none σ else (env n).call f args none σ) = _
        rw [Bool.not_eq_true] at hf
        rw [hf]
        rfl
      rw [e]
      exact h.call f args none σ m w args' hr hA hu
/-- What the reading says of a call, of memory of which nothing may be written, is so of every run. -/
theorem calls_of [Pins] {P : Program} {E : Env} (hE : EnvOK P E) (hm : P.follows .mixedOrders = true) (hname : ∀ (f : FuncId) (fn : Func), P.funcs[f]? = some fn → (fn.name == "runtime.NumGoroutine") = false) (nls : Hints) {f : FuncId} {fn : Func} {body : Code} (hf : P.funcs[f]? = some fn) (hb : fn.body = some body) (σ : FState) (m : Mp) (W : World) (args : List Value) (args' : Array Value) (hr : Rel Top m σ W) (hA : LRel m args args'.toList) (hro : ∀ b e, m b = some e → e.ro = true)
    (h : ∃ σ', fcall P nls E f args none σ = .ret (.bool true) none σ') :
    Calls P f args' W fun e W' => e = .returned (.bool true) ∧ W'.os = W.os ∧ W'.output = W.output ∧ W'.tape = W.tape ∧ W.heap.size ≤ W'.heap.size ∧ ∀ i, i < W.heap.size → W'.heap[i]? = W.heap[i]? := by
  obtain ⟨σ', h⟩ := h
  have hc := call_ok hE (draw_ok hm hE) hname nls f args none σ m W args' hr hA
  generalize fcall P nls E f args none σ = r at h hc
  subst h
  rcases hc with ⟨_, _, _, v', hval, _⟩ | ⟨_, hgo⟩
  · have hent := callFunc_enter (P := P) (w := W) (args := args') hf hb (hname f fn hf)
    rw [hent] at hval
    cases hval
  · intro cs
    obtain ⟨m', w', v', fr, cs', hR, hS', hV, _, hun, hst, hfn, hk, hgoing⟩ := hgo cs rfl
    have hcs : cs' = cs := by
      rcases hun with h | ⟨h, _⟩
      · exact h
      · cases h
    subst hcs
    have hv' := hV.flat rfl
    subst hv'
    exact ⟨.returned (.bool true), w', fr, ⟨rfl, hS'.os, hS'.output, hS'.tape, hS'.size, fun i hi => hS'.keep i hi fun b e ent hb hre => by rw [hro b e hb] at hre; cases hre⟩, hst.steps, hfn, leaving_of_going hk hgoing⟩
theorem law_calls {f : FuncId} {fn : Func} {body : Code} (hf : Tryz.prog.funcs[f]? = some fn) (hb : fn.body = some body) (n : Nat) (σ : FState) (m : Mp) (W : World) (args : List Value) (args' : Array Value) (hr : @Rel noPins Top m σ W) (hA : LRel m args args'.toList) (hro : ∀ b e, m b = some e → e.ro = true)
    (h : ∃ σ', fcall Tryz.prog nls (top n) f args none σ = .ret (.bool true) none σ') :
    Calls Tryz.prog f args' W fun e W' => e = .returned (.bool true) ∧ W'.os = W.os ∧ W'.output = W.output ∧ W'.tape = W.tape ∧ W.heap.size ≤ W'.heap.size ∧ ∀ i, i < W.heap.size → W'.heap[i]? = W.heap[i]? :=
  @calls_of noPins Tryz.prog (top n) (top_ok n) sy_mixed sy_names nls f fn body hf hb σ m W args args' hr hA hro h
/-- Numbers in the model's memory, as the reading begins with them. -/
noncomputable def numbers (zs : List Int) : FState := ⟨Tr.set .lf 0 ⟨.cells (zs.map fun z => Value.int .i64 z) TI, true, none, 0⟩, 1, 1⟩
theorem numbers_get (zs : List Int) (b : Nat) : (numbers zs).heap.get b = if b = 0 then some ⟨.cells (zs.map fun z => Value.int .i64 z) TI, true, none, 0⟩ else none := by
  show (Tr.set .lf 0 _).get b = _
  rw [Tr.get_set]
  split <;> rfl
theorem numbers_wf (zs : List Int) : Wf (numbers zs) := fun b e h => by
  rw [numbers_get] at h
  by_cases hb : b = 0
  · rw [if_pos hb] at h
    cases h
    exact ⟨by subst hb; exact Nat.lt_succ_self 0, Nat.lt_succ_self 0⟩
  · rw [if_neg hb] at h
    cases h
theorem numbers_ints (zs : List Int) : Ints (numbers zs) (some ⟨0, 0, none⟩) zs := fun i n h => by
  refine ⟨0, 0, zs.map fun z => Value.int .i64 z, rfl, ?_, ?_⟩
  · rw [cells_get, numbers_get, if_pos rfl]; rfl
  · rw [Nat.zero_add, List.getElem?_map, h]; rfl
/-- A law over a list of numbers: at every such list, whatever the rest of memory is. -/
theorem law_ints {f : FuncId} {fn : Func} {body : Code} (hf : Tryz.prog.funcs[f]? = some fn) (hb : fn.body = some body) (n : Nat)
    (h : ∀ (p : Option Addr) (l : List Int) (cp : Nat), l.length < 9223372036854775808 → ∀ σ, Wf σ → Ints σ p l → (∀ a, p = some a → a.block < σ.next) → ∃ σ', fcall Tryz.prog nls (top n) f [.slice p l.length cp] none σ = .ret (.bool true) none σ')
    (W : World) (v : Value) (hsz : 0 < W.heap.size)
    (hv : v = .slice none 0 0 ∨ ∃ (a : Addr) (len cap : Nat) (zs : List Int), v = .slice (some a) len cap ∧ len ≤ cap ∧ cap < 9223372036854775808 ∧ zs.length = cap ∧ ∀ i, i < zs.length → W.cell? (a.add i) = some (.int .i64 (zs.getD i 0))) :
    Calls Tryz.prog f #[v] W fun e W' => e = .returned (.bool true) ∧ W'.os = W.os ∧ W'.output = W.output ∧ W'.tape = W.tape ∧ W.heap.size ≤ W'.heap.size ∧ ∀ i, i < W.heap.size → W'.heap[i]? = W.heap[i]? := by
  rcases hv with rfl | ⟨a, len, cap, zs, rfl, hl, hm, hz, hc⟩
  · letI := noPins
    refine law_calls hf hb n Eng.empty (fun _ => none) W [.slice none 0 0] _ ?_ (.cons (.nilSlice 0 0) .nil) (fun b e h => by cases h) (h none [] 0 (by simp) Eng.empty (fun b e h => by cases h) (fun i n h => by simp at h) fun a h => by cases h)
    have hget : ∀ b, Eng.empty.heap.get b = none := fun b => rfl
    exact ⟨fun b ent e _ hb => (by rw [hget] at hb; cases hb), fun b b' ent ent' e e' _ hb => (by rw [hget] at hb; cases hb), fun b e hb => (by cases hb), fun b ent hb => (by rw [hget] at hb; cases hb), fun k o hk => hk.elim⟩
  · letI := noPins
    cases zs with
    | nil =>
      obtain rfl : cap = 0 := hz.symm
      obtain rfl : len = 0 := by omega
      have hget : ∀ b, (⟨.lf, 1, 1⟩ : FState).heap.get b = none := fun b => rfl
      refine law_calls hf hb n ⟨.lf, 1, 1⟩ (fun b => if b = 0 then some ⟨0, 0, true, none⟩ else none) W [.slice (some ⟨0, 0, none⟩) 0 0] _ ?_ (.cons (.empty (b := 0) (off := 0) (if_pos rfl)) .nil) (fun b e h => ?_)
        (h (some ⟨0, 0, none⟩) [] 0 (by simp) ⟨.lf, 1, 1⟩ (fun b e h => by rw [hget] at h; cases h) (fun i n h => by simp at h) fun a h => by cases h; exact Nat.lt_succ_self 0)
      · refine ⟨fun b ent e _ hb => (by rw [hget] at hb; cases hb), fun b b' ent ent' e e' _ hb => (by rw [hget] at hb; cases hb), fun b e hb => ?_, fun b ent hb => (by rw [hget] at hb; cases hb), fun k o hk => hk.elim⟩
        by_cases h0 : b = 0
        · rw [if_pos h0] at hb
          cases hb
          exact ⟨by subst h0; exact Nat.lt_succ_self 0, hsz⟩
        · rw [if_neg h0] at hb; cases hb
      · by_cases h0 : b = 0
        · rw [if_pos h0] at h; cases h; rfl
        · rw [if_neg h0] at h; cases h
    | cons z zs =>
      have h0 := hc 0 (by simp)
      obtain ⟨ab, ao, asp⟩ := a
      have h1 : W.cell? ⟨ab, ao, asp⟩ = some (.int .i64 z) := h0
      have hcell : ∃ c el fr, W.heap[ab]? = some (.cells c el fr) ∧ asp = none := by
        unfold World.cell? at h1
        split at h1
        · rename_i c el fr hb'
          cases asp with
          | none => exact ⟨c, el, fr, hb', rfl⟩
          | some _ => simp at h1
        · cases h1
      obtain ⟨c, el, fr, hW, rfl⟩ := hcell
      have hlt : ab < W.heap.size := (Array.getElem?_eq_some_iff.1 hW).1
      have hci : ∀ (i : Nat) (v : Value), ((z :: zs).map fun z => Value.int .i64 z)[i]? = some v → c[ao + i]? = some v := fun i v hv => by
        rw [List.getElem?_map] at hv
        cases hzi : (z :: zs)[i]? with
        | none => rw [hzi] at hv; cases hv
        | some y =>
          rw [hzi] at hv
          cases hv
          have hil := (List.getElem?_eq_some_iff.1 hzi).1
          have hh := hc i hil
          rw [List.getD, hzi] at hh
          have ha : (⟨ab, ao, none⟩ : Addr).add i = ⟨ab, ao + i, none⟩ := by
            unfold Addr.add
            by_cases h0 : i = 0
            · subst h0; rfl
            · rw [if_neg h0]
          rw [ha] at hh
          unfold World.cell? at hh
          simp only [hW] at hh
          exact hh
      have hty : ((z :: zs).take len).length = len := by rw [List.length_take, hz]; omega
      refine law_calls hf hb n (numbers (z :: zs)) (fun b => if b = 0 then some ⟨ab, ao, true, none⟩ else none) W [.slice (some ⟨0, 0, none⟩) ((z :: zs).take len).length cap] _ ?_ ?_ (fun b e h => ?_)
        (h (some ⟨0, 0, none⟩) ((z :: zs).take len) cap (by rw [hty]; omega) (numbers (z :: zs)) (numbers_wf _) (fun i n hi => numbers_ints (z :: zs) i n (by
          rw [List.getElem?_take] at hi
          split at hi
          · exact hi
          · cases hi)) fun a h => by cases h; exact Nat.lt_succ_self 0)
      · refine ⟨fun b ent e _ hb hm' => ?_, fun b b' ent ent' e e' hne hb hb' _ _ hm' hm'' => ?_, fun b e hb => ?_, fun b ent hb => ((numbers_wf _) b ent hb).1, fun k o hk => hk.elim⟩
        · rw [numbers_get] at hb
          by_cases hb0 : b = 0
          · rw [if_pos hb0] at hb hm'
            cases hb
            cases hm'
            exact ⟨rfl, c, el, fr, hW, (fun h => by cases h), fun i v hv => ⟨v, hci i v hv, by
              rw [List.getElem?_map] at hv
              cases hzi : (z :: zs)[i]? with
              | none => rw [hzi] at hv; cases hv
              | some y => rw [hzi] at hv; cases hv; exact .int _ _⟩, trivial⟩
          · rw [if_neg hb0] at hb; cases hb
        · by_cases hb0 : b = 0
          · by_cases hb1 : b' = 0
            · omega
            · rw [if_neg hb1] at hm''; cases hm''
          · rw [if_neg hb0] at hm'; cases hm'
        · by_cases hb0 : b = 0
          · rw [if_pos hb0] at hb
            cases hb
            exact ⟨by subst hb0; exact Nat.lt_succ_self 0, hlt⟩
          · rw [if_neg hb0] at hb; cases hb
      · refine .cons ?_ .nil
        rw [hty]
        have := VRel.slice (m := fun b => if b = 0 then some ⟨ab, ao, true, none⟩ else none) (b := 0) (off := 0) (l := len) (c := cap) (c' := cap) (e := ⟨ab, ao, true, none⟩) (if_pos rfl) (.inl rfl)
        exact this
      · by_cases hb0 : b = 0
        · rw [if_pos hb0] at h; cases h; rfl
        · rw [if_neg hb0] at h; cases h
end Go.Proofs.YtodkeaoikjjneaaGreatDoor
/- datum.Find. -/
namespace Go.Proofs.YtodkeaoikjjneaaGreatDoor
open Go Go.Eng
attribute [local congr] andThen_congr fops_congr fdraw_congr afterOp_congr drawF_congr
attribute [-go_sem] List.range_succ
/-- What is so of a value in memory from a block on, whatever comes of other memory. -/
structure Stays (Q : Nat → Value → FState → Prop) : Prop where
  keep : ∀ base base' v σ σ', Q base v σ → Wf σ → base' ≤ base → (∀ b, base ≤ b → b < σ.next → σ'.heap.get b = σ.heap.get b) → Q base' v σ'
def ResP (x : D) (l : List (List Nat × D)) (base : Nat) (w : Value) (σ : FState) : Prop := ∃ us, Vecs 22 (fun b => base ≤ b) σ w us ∧ PathsL (fun b => base ≤ b) σ us (foundIn x l)
mutual
theorem pieces_le : ∀ (d : D) (p : List Nat) (y : List Nat × D), y ∈ d.pieces p → y.2.deep ≤ d.deep ∧ y.2.count ≤ d.count
  | .mk k z t ds, p, y, h => by
    rw [D.pieces] at h
    rcases List.mem_cons.1 h with rfl | h
    · exact ⟨Nat.le_refl _, Nat.le_refl _⟩
    · have := piecesL_le ds p 0 y h
      rw [D.deep, D.count]
      omega
theorem piecesL_le : ∀ (ds : List D) (p : List Nat) (i : Nat) (y : List Nat × D), y ∈ D.piecesL p i ds → y.2.deep ≤ D.deeps ds ∧ y.2.count ≤ D.counts ds
  | [], p, i, y, h => by simp [D.piecesL] at h
  | d :: ds, p, i, y, h => by
    rw [D.piecesL, List.mem_append] at h
    rw [D.deeps, D.counts]
    rcases h with h | h
    · have := pieces_le d _ y h; omega
    · have := piecesL_le ds _ _ y h; omega
end
theorem longest_le (l : List (List Nat × D)) (L : Nat) (h : ∀ x ∈ l, x.1.length ≤ L) : longest l ≤ L + 1 := by
  induction l with
  | nil => simp [longest]
  | cons x l ih =>
    rw [longest_cons]
    have := h x List.mem_cons_self
    have := ih fun y hy => h y (List.mem_cons_of_mem _ hy)
    omega
theorem Fine.deep_le {m L : Nat} {d : D} (h : Fine m L d) : d.deep ≤ L + 1 := by
  have h1 := longest_pieces d []
  have h2 := longest_le (d.pieces []) L fun x hx => by have := ((h []).2 x hx).1; simpa using this
  simp at h1
  omega
end Go.Proofs.YtodkeaoikjjneaaGreatDoor
/- plain.Copy. -/
namespace Go.Proofs.YtodkeaoikjjneaaGreatDoor
open Go Go.Eng
attribute [local congr] andThen_congr fops_congr fdraw_congr afterOp_congr drawF_congr
attribute [-go_sem] List.range_succ
theorem keepEach : keepOf nls 106 = [14, 15, 28] := by kernel_rfl
theorem makeSlice_go (e : TypeId) (bytes : Nat) (z : List Value) (n : Nat) (σ : FState) (h : n * (bytes + 1) ≤ 1000000000) : fmakeSlice e bytes z (.int .i64 (.ofNat n)) (.int .i64 (.ofNat n)) σ = .val (.slice (some ⟨σ.next, 0, none⟩) n n) (σ.push (.cells (reps n z) e) none) := by
  show cond (Nat.ble n n && Nat.ble (n * (bytes + 1)) 1000000000) _ _ = _
  rw [show Nat.ble n n = true by rw [Nat.ble_eq]; exact Nat.le_refl _, show Nat.ble (n * (bytes + 1)) 1000000000 = true by rw [Nat.ble_eq]; exact h]
  rfl
theorem reps_length (n : Nat) (z : List Value) : (reps n z).length = n * z.length := by
  induction n with
  | zero => simp [reps_zero]
  | succ n ih => rw [reps_succ, List.length_append, ih, Nat.succ_mul]; omega
def CopyAt (m : Nat) (d : D) : Prop := ∀ (lv : List Value) (R : Nat → Prop) (σ : FState), Wf σ → LaidR R σ (.agg lv.toArray) d → Gives ((env m).call 69 [.agg lv.toArray] none σ) σ fun w σ' => LaidR (fun b => σ.next ≤ b) σ' w d
structure HeadEa (bo base : Nat) (R : Nat → Prop) (q : Option Addr) (c : Nat) (ds : List D) (σ0 : FState) (i : Nat) (f g : Nat → Value) (σ : FState) : Prop where
  f0 : f 0 = .slice q ds.length c
  f1 : f 1 = .func (.func 69) #[] #[]
  f5 : f 5 = .slice (some ⟨bo, 0, none⟩) ds.length ds.length
  g14 : g 14 = .int .i64 (.ofNat ds.length)
  g15 : g 15 = .int .i64 (.ofNat i)
  cs : ∃ done rest ver, σ.heap.get bo = some ⟨.cells (done ++ rest) TD, false, none, ver⟩ ∧ Row (fun b => base ≤ b ∧ b ≠ bo) σ done (ds.take i) ∧ rest.length = (ds.length - i) * 4
  hbo : base ≤ bo
  lay : LaidRE R σ q 0 ds
  low : ∀ b, R b → b < base
  wf : Wf σ
  ext : Ext σ0 σ
  le : i ≤ ds.length
theorem each_loop (m : Nat) {bo base : Nat} {R : Nat → Prop} {q : Option Addr} {c : Nat} {ds : List D} {σ0 : FState} (hC : ∀ d ∈ ds, CopyAt m d) (hb0 : σ0.next = base) (hfew : ds.length < 1000000) :
    ∀ (j fuel i : Nat) (f g : Nat → Value) (σ : FState), i + j = ds.length → j < fuel → HeadEa bo base R q c ds σ0 i f g σ →
    ∃ f' g' σ', floop [14, 15, 28] (l106_0 (env m) none 106) fuel (Sl 7 29 f g []) none σ = .done (.exit 0) (Sl 7 29 f' g' []) none σ' ∧ HeadEa bo base R q c ds σ0 ds.length f' g' σ' := by
  intro j
  induction j with
  | zero =>
    intro fuel i f g σ hij hf h
    obtain ⟨fuel, rfl⟩ : ∃ q, fuel = q + 1 := ⟨fuel - 1, by omega⟩
    obtain rfl : i = ds.length := by omega
    have d1 : decide (Int.ofNat ds.length < Int.ofNat ds.length) = false := by simp
    rw [floop_step, Sl_forget]
    unfold l106_0
    simp -implicitDefEqProofs only [go_sem, ↓reduceIte, Nat.reduceLT, Nat.reduceEqDiff, Nat.reduceAdd, Nat.reduceMul, Nat.reduceLeDiff, Nat.reduceSub, r106_5_go, r106_5U, h.g14, h.g15, d1, List.mem_cons]
    refine ⟨_, _, _, rfl, { h with g14 := ?_, g15 := ?_ }⟩
    · simp -implicitDefEqProofs only [upd_go, kept_go, ↓reduceIte, Nat.reduceEqDiff, Nat.reduceLT, reduceCtorEq, h.g14, List.mem_cons, true_or, or_true]
    · simp -implicitDefEqProofs only [upd_go, kept_go, ↓reduceIte, Nat.reduceEqDiff, Nat.reduceLT, reduceCtorEq, h.g15, List.mem_cons, true_or, or_true]
  | succ j ih =>
    intro fuel i f g σ hij hf h
    obtain ⟨fuel, rfl⟩ : ∃ q, fuel = q + 1 := ⟨fuel - 1, by omega⟩
    have hi : i < ds.length := by omega
    have d1 : decide (Int.ofNat i < Int.ofNat ds.length) = true := by simp; omega
    have hd : ds[i]? = some ds[i] := List.getElem?_eq_getElem hi
    obtain ⟨b, off, cs, rfl, hRb, hcs, hle, hL⟩ := LaidRE.get h.lay hd
    rw [Nat.zero_add] at hle hL
    obtain ⟨done, rest, ver, hg, hr, hrl⟩ := h.cs
    obtain ⟨w, σ1, e1, x1, hw1, hL1⟩ := hC _ (List.getElem_mem hi) ((cs.drop (off + i * 4)).take 4) R σ h.wf hL
    obtain ⟨l4, rfl, hl4, hone⟩ := hL1.agg
    have hbn := (h.wf _ _ hg).1
    have hg1 := (x1.get bo hbn).trans hg
    have hdl : done.length = i * 4 := by rw [hr.1, List.length_take]; omega
    have w1 := add1 i (by omega)
    have hr4 : 4 ≤ rest.length := by rw [hrl]; omega
    have e4 : ((done ++ rest).take (i * 4) ++ l4 ++ (done ++ rest).drop (i * 4 + 4)) = (done ++ l4) ++ rest.drop 4 := by
      rw [← hdl, List.take_left', List.drop_append]
      · simp [List.drop_eq_nil_of_le]
      · rfl
    have hlen : i * 4 + 4 ≤ (done ++ rest).length := by rw [List.length_append, hdl]; omega
    rw [floop_step, Sl_forget]
    unfold l106_0
    simp -implicitDefEqProofs only [go_sem, ↓reduceIte, Nat.reduceLT, Nat.reduceEqDiff, Nat.reduceAdd, Nat.reduceMul, Nat.reduceLeDiff, Nat.reduceSub, fstoreN, r106_5_go, r106_5U, r106_6_go, r106_6U, r106_7_go, r106_7U, r106_8_go, r106_8U, h.f0, h.f1, h.f5, h.g14, h.g15, d1, hi, hcs, hle, e1, hg1, hl4, hone, hlen, e4, w1, List.mem_cons]
    generalize hff : upd _ 6 _ = f1
    generalize hgg : upd _ 15 _ = g1
    have n1 := x1.next
    have hbase : base ≤ σ.next := by have := h.ext.next; omega
    have hbo := h.hbo
    have kc : ∀ (o : FObj) b cs, σ1.cells b = some cs → b ≠ bo → (σ1.put bo o none).cells b = some cs := fun o b cs hc hb => by rw [cells_put, if_neg hb]; exact hc
    exact ih fuel (i + 1) f1 g1 _ (by omega) (by omega) {
      f0 := by rw [← hff]; simp -implicitDefEqProofs only [upd_go, kept_go, ↓reduceIte, Nat.reduceEqDiff, Nat.reduceLT, reduceCtorEq, h.f0]
      f1 := by rw [← hff]; simp -implicitDefEqProofs only [upd_go, kept_go, ↓reduceIte, Nat.reduceEqDiff, Nat.reduceLT, reduceCtorEq, h.f1]
      f5 := by rw [← hff]; simp -implicitDefEqProofs only [upd_go, kept_go, ↓reduceIte, Nat.reduceEqDiff, Nat.reduceLT, reduceCtorEq, h.f5]
      g14 := by rw [← hgg]; simp -implicitDefEqProofs only [upd_go, kept_go, ↓reduceIte, Nat.reduceEqDiff, Nat.reduceLT, reduceCtorEq, h.g14, List.mem_cons, true_or, or_true]
      g15 := by rw [← hgg]; simp -implicitDefEqProofs only [upd_go, kept_go, ↓reduceIte, Nat.reduceEqDiff, Nat.reduceLT, reduceCtorEq]
      cs := ⟨done ++ l4, rest.drop 4, _, by rw [put_get, if_pos rfl], by
        rw [List.take_add_one, hd]
        exact (hr.keep fun b cs hb hc => ⟨kc _ b cs ((x1.cells (h.wf.cells hc)).trans hc) hb.2, hb⟩).snoc hl4 hone (hL1.keep fun b cs hb hc => ⟨kc _ b cs hc (by omega), by omega, by omega⟩), by rw [List.length_drop, hrl]; omega⟩
      hbo := h.hbo
      lay := h.lay.keep fun b cs hb hc => ⟨kc _ b cs ((x1.cells (h.wf.cells hc)).trans hc) (by have := h.low b hb; omega), hb⟩
      low := h.low
      wf := hw1.put _ _ _ (by omega)
      ext := (h.ext.trans x1).put _ _ _ (by omega)
      le := hi }
theorem each_step (m : Nat) (ds : List D) (hC : ∀ d ∈ ds, CopyAt m d) (hfew : ds.length < 1000000) (q : Option Addr) (c : Nat) (R : Nat → Prop) (σ : FState) (hw : Wf σ) (hE : LaidRE R σ q 0 ds) :
    Gives ((env (m + 1)).call 106 [.slice q ds.length c, .func (.func 69) #[] #[]] none σ) σ fun w σ' => ∃ q' c', w = .slice q' ds.length c' ∧ LaidRE (fun b => σ.next ≤ b) σ' q' 0 ds := by
  rw [env_call, enter106 _ _ _ _ (by simp), Sl_start]
  unfold run106
  cases hz : (Int.ofNat ds.length == (0 : Int)) with
  | true =>
    have h0 : ds = [] := by
      have := Int.ofNat.inj (eq_of_beq hz)
      exact List.length_eq_zero_iff.1 this
    subst h0
    simp -implicitDefEqProofs only [go_sem, ↓reduceIte, Nat.reduceLT, Nat.reduceEqDiff, Nat.reduceAdd, Nat.reduceMul, Nat.reduceLeDiff, Nat.reduceSub, r106_0_go, r106_0U, r106_1_go, r106_1U, r106_2_go, r106_2U, Option.getD_some, hz]
    exact ⟨_, _, rfl, Ext.refl _, hw, none, 0, rfl, trivial⟩
  | false =>
    have hmk := fun σ => makeSlice_go 28 56 [.int .i64 0, .int .i64 0, .string ⟨#[]⟩, .slice none 0 0] ds.length σ (by omega)
    simp -implicitDefEqProofs only [go_sem, ↓reduceIte, Nat.reduceLT, Nat.reduceEqDiff, Nat.reduceAdd, Nat.reduceMul, Nat.reduceLeDiff, Nat.reduceSub, r106_0_go, r106_0U, r106_1_go, r106_1U, r106_3_go, r106_3U, r106_4_go, r106_4U, Option.getD_some, hz, hmk, keepEach]
    generalize hff : upd _ 5 _ = f1
    generalize hgg : upd _ 15 _ = g1
    generalize hbf : bigFuel = fuel
    obtain ⟨f2, g2, σ2, e2, h2⟩ := each_loop m (bo := σ.next) (base := σ.next) (R := fun b => R b ∧ b < σ.next) (q := q) (c := c) (σ0 := σ) hC rfl hfew ds.length fuel 0 f1 g1 (σ.push (.cells (reps ds.length [.int .i64 0, .int .i64 0, .string ⟨#[]⟩, .slice none 0 0]) TD) none) (by omega) (by rw [← hbf]; show ds.length < 1000000000000; omega) {
      f0 := by rw [← hff]; simp -implicitDefEqProofs only [upd_go, kept_go, ↓reduceIte, Nat.reduceEqDiff, Nat.reduceLT, reduceCtorEq, List.getElem?_cons_zero, List.getElem?_cons_succ, Option.getD_some]
      f1 := by rw [← hff]; simp -implicitDefEqProofs only [upd_go, kept_go, ↓reduceIte, Nat.reduceEqDiff, Nat.reduceLT, reduceCtorEq, List.getElem?_cons_zero, List.getElem?_cons_succ, Option.getD_some]
      f5 := by rw [← hff]; simp -implicitDefEqProofs only [upd_go, kept_go, ↓reduceIte, Nat.reduceEqDiff, Nat.reduceLT, reduceCtorEq]
      g14 := by rw [← hgg]; simp -implicitDefEqProofs only [upd_go, kept_go, ↓reduceIte, Nat.reduceEqDiff, Nat.reduceLT, reduceCtorEq]
      g15 := by rw [← hgg]; simp -implicitDefEqProofs only [upd_go, kept_go, ↓reduceIte, Nat.reduceEqDiff, Nat.reduceLT, reduceCtorEq] <;> rfl
      cs := ⟨[], reps ds.length [.int .i64 0, .int .i64 0, .string ⟨#[]⟩, .slice none 0 0], σ.clock, by rw [push_get, if_pos rfl]; rfl, Row.nil _ _, by rw [reps_length]; rfl⟩
      hbo := Nat.le_refl _
      lay := hE.keep fun b cs hb hc => ⟨by rw [cells_push, if_neg (by have := hw.cells hc; omega)]; exact hc, hb, hw.cells hc⟩
      low := fun b hb => hb.2
      wf := hw.push _ _
      ext := (Ext.refl _).push _ _
      le := Nat.zero_le _ }
    rw [e2]
    simp -implicitDefEqProofs only [go_sem, ↓reduceIte, Nat.reduceLT, Nat.reduceEqDiff, Nat.reduceAdd, Nat.reduceMul, Nat.reduceLeDiff, Nat.reduceSub, r106_9_go, r106_9U, h2.f5]
    obtain ⟨done, rest, ver, hg, hr, hrl⟩ := h2.cs
    rw [List.take_length] at hr
    have hrest : rest = [] := List.length_eq_zero_iff.1 (by rw [hrl]; omega)
    subst hrest
    rw [List.append_nil] at hg
    exact ⟨_, _, rfl, h2.ext, h2.wf, _, _, rfl, hr.elems (cells_of_get hg) (Nat.le_refl _) (fun c hc => hc.1) 0 ds fun j e he => by rwa [Nat.zero_add]⟩
theorem copy_step (m : Nat) (k z : Int) (t : ByteArray) (ds : List D) (hC : ∀ d ∈ ds, CopyAt m d) (hfew : ds.length < 1000000) : CopyAt (m + 2) (.mk k z t ds) := by
  intro lv R σ hw hL
  obtain ⟨q, c, hv, hE⟩ := hL
  have hlv : lv = [.int .i64 k, .int .i64 z, .string t, .slice q ds.length c] := by
    have := Value.agg.inj hv
    simpa using congrArg Array.toList this
  subst hlv
  rw [env_call, enter69 _ _ _ _ (by simp), Sl_start]
  unfold run69
  have x1 : Ext σ ((σ.push (.cells [.int .i64 k, .int .i64 z, .string t, .slice q ds.length c] TD) none).push (.cells [.int .i64 0, .int .i64 0, .string ⟨#[]⟩, .slice none 0 0] TD) none) := ((Ext.refl _).push _ _).push _ _
  have hw1 := (hw.push (.cells [.int .i64 k, .int .i64 z, .string t, .slice q ds.length c] TD) none).push (.cells [.int .i64 0, .int .i64 0, .string ⟨#[]⟩, .slice none 0 0] TD) none
  have c1 : ((σ.push (.cells [.int .i64 k, .int .i64 z, .string t, .slice q ds.length c] TD) none).push (.cells [.int .i64 0, .int .i64 0, .string ⟨#[]⟩, .slice none 0 0] TD) none).cells σ.next = some [.int .i64 k, .int .i64 z, .string t, .slice q ds.length c] := by rw [cells_push, if_neg (by rw [push_next]; omega), cells_push, if_pos rfl]; rfl
  have g2 : ((σ.push (.cells [.int .i64 k, .int .i64 z, .string t, .slice q ds.length c] TD) none).push (.cells [.int .i64 0, .int .i64 0, .string ⟨#[]⟩, .slice none 0 0] TD) none).heap.get (σ.next + 1) = some ⟨.cells [.int .i64 0, .int .i64 0, .string ⟨#[]⟩, .slice none 0 0] TD, false, none, σ.clock + 1⟩ := by rw [push_get, if_pos (by rw [push_next])]; rfl
  have kc : ((σ.push (.cells [.int .i64 k, .int .i64 z, .string t, .slice q ds.length c] TD) none).push (.cells [.int .i64 0, .int .i64 0, .string ⟨#[]⟩, .slice none 0 0] TD) none).clock = σ.clock + 2 := rfl
  have kn : ((σ.push (.cells [.int .i64 k, .int .i64 z, .string t, .slice q ds.length c] TD) none).push (.cells [.int .i64 0, .int .i64 0, .string ⟨#[]⟩, .slice none 0 0] TD) none).next = σ.next + 2 := rfl
  simp -implicitDefEqProofs only [go_sem, ↓reduceIte, Nat.reduceLT, Nat.reduceEqDiff, Nat.reduceAdd, Nat.reduceMul, Nat.reduceLeDiff, Nat.reduceSub, r69_0_go, r69_0U, Option.getD_some]
  generalize FState.push (FState.push σ _ _) _ _ = σ1 at x1 hw1 c1 g2 kc kn ⊢
  have hv1 := view_wf hw1 (lam := σ.clock + 2) (by omega)
  obtain ⟨_, σ2, e2, x2, hw2, q', c', rfl, hE'⟩ := each_step m ds hC hfew q c R σ1 hw1 (hE.keep fun b cs hb hc => ⟨(x1.cells (hw.cells hc)).trans hc, hb⟩)
  have c2 : (view σ2 (σ.clock + 2)).cells σ.next = some [.int .i64 k, .int .i64 z, .string t, .slice q ds.length c] := view_old hw1 (by omega) (x2.get _ (hw1.cells c1)) c1
  have g2' := (x2.get _ (hw1 _ _ g2).1).trans g2
  simp -implicitDefEqProofs only [go_sem, ↓reduceIte, Nat.reduceLT, Nat.reduceEqDiff, Nat.reduceAdd, Nat.reduceMul, Nat.reduceLeDiff, Nat.reduceSub, fstoreN, r69_1_go, r69_1U, hv1, c1, e2, c2, g2', fleave_nil, fresults_nil, fresults_cons, fresult_cell, aggDatum]
  have n2 := x2.next
  exact ⟨_, _, rfl, (x1.trans x2).put _ _ _ (by omega), hw2.put _ _ _ (by omega), q', c', rfl, hE'.keep fun b cs hb hc => ⟨by rw [cells_put, if_neg (by omega)]; exact hc, by omega⟩⟩
theorem copy_go (n : Nat) : ∀ (N : Nat) (d : D), D.deep d ≤ N → d.count < 1000000 → CopyAt (n + 2 * N) d
  | 0, d, h, _ => by cases d; rw [D.deep] at h; omega
  | N + 1, .mk k z t ds, h, hc => by
    rw [D.deep] at h
    rw [D.count] at hc
    have := length_counts ds
    exact copy_step (n + 2 * N) k z t ds (fun d hd => copy_go n N d (by have := deeps_mem hd; omega) (by have := count_mem hd; omega)) (by omega)
end Go.Proofs.YtodkeaoikjjneaaGreatDoor
/- datum.At. -/
namespace Go.Proofs.YtodkeaoikjjneaaGreatDoor
open Go Go.Eng
attribute [local congr] andThen_congr fops_congr fdraw_congr afterOp_congr drawF_congr
attribute [-go_sem] List.range_succ
theorem keepPlace : keepOf nls 73 = [7, 8, 9, 32] := by kernel_rfl
theorem field3 {cs : List Value} {off : Nat} {a b c e : Value} (h : (cs.drop off).take 4 = [a, b, c, e]) : cs[off + 3]? = some e := by
  have : ((cs.drop off).take 4)[3]? = some e := by rw [h]; rfl
  rw [List.getElem?_take, if_pos (by omega), List.getElem?_drop] at this
  exact this
structure HeadPl (a : Option Addr) (plen cx i b off : Nat) (f g : Nat → Value) : Prop where
  f0 : f 0 = .pointer (some ⟨b, off, none⟩)
  g7 : g 7 = .slice a plen cx
  g8 : g 8 = .int .i64 (.ofNat plen)
  g9 : g 9 = .int .i64 (.ofNat i)
theorem place_loop (E : Env) {a : Option Addr} {cx : Nat} {path : List Nat} {R : Nat → Prop} {σ : FState} (hs : path.length < 100000) (x : D) (hp : path ≠ [] → ∃ b rest, a = some ⟨b, 0, none⟩ ∧ σ.cells b = some (intsOf path ++ rest)) :
    ∀ (j fuel i : Nat) (f g : Nat → Value) (d : D) (b off : Nat) (cs : List Value), i + j = path.length → j < fuel → atP (path.drop i) d = some x → d.count < 100000 → σ.cells b = some cs → 4 ≤ cs.length - off → LaidR R σ (.agg ((cs.drop off).take 4).toArray) d → HeadPl a path.length cx i b off f g →
    ∃ f' g' b off cs, floop [7, 8, 9, 32] (l73_0 E none 73) fuel (Sl 7 33 f g []) none σ = .done (.exit 0) (Sl 7 33 f' g' []) none σ ∧ f' 0 = .pointer (some ⟨b, off, none⟩) ∧ σ.cells b = some cs ∧ 4 ≤ cs.length - off ∧ LaidR R σ (.agg ((cs.drop off).take 4).toArray) x := by
  intro j
  induction j with
  | zero =>
    intro fuel i f g d b off cs hij hf hx _ hc hle hL h
    obtain ⟨fuel, rfl⟩ : ∃ q, fuel = q + 1 := ⟨fuel - 1, by omega⟩
    obtain rfl : i = path.length := by omega
    rw [List.drop_length, atP] at hx
    obtain rfl := Option.some.inj hx
    have d1 : decide (Int.ofNat path.length < Int.ofNat path.length) = false := by simp
    rw [floop_step, Sl_forget]
    unfold l73_0
    simp -implicitDefEqProofs only [go_sem, ↓reduceIte, Nat.reduceLT, Nat.reduceEqDiff, Nat.reduceAdd, Nat.reduceMul, Nat.reduceLeDiff, Nat.reduceSub, r73_2_go, r73_2U, h.g8, h.g9, d1, List.mem_cons]
    exact ⟨_, _, b, off, cs, rfl, h.f0, hc, hle, hL⟩
  | succ j ih =>
    intro fuel i f g d b off cs hij hf hx hN hc hle hL h
    obtain ⟨fuel, rfl⟩ : ∃ q, fuel = q + 1 := ⟨fuel - 1, by omega⟩
    have hi : i < path.length := by omega
    have d1 : decide (Int.ofNat i < Int.ofNat path.length) = true := by simp; omega
    obtain ⟨bp, rest, rfl, hcp⟩ := hp (fun h => by rw [h] at hi; simp at hi)
    have g1 := intsOf_get rest hi
    have w3 := add1 i (by omega)
    have hdr : path.drop i = path[i] :: path.drop (i + 1) := List.drop_eq_getElem_cons hi
    obtain ⟨k, z, t, ds⟩ := d
    obtain ⟨q, c, hv, hE⟩ := hL
    have hv' : (cs.drop off).take 4 = [.int .i64 k, .int .i64 z, .string t, .slice q ds.length c] := by
      have := Value.agg.inj hv
      simpa using congrArg Array.toList this
    have hf3 := field3 hv'
    rw [hdr, atP] at hx
    simp only [D.parts] at hx
    cases hd : ds[path[i]]? with
    | none => rw [hd] at hx; cases hx
    | some d' =>
      rw [hd] at hx
      simp only at hx
      have hpi := (List.getElem?_eq_some_iff.1 hd).1
      obtain ⟨b', off', cs', rfl, hRb, hcs', hle', hL'⟩ := LaidRE.get hE hd
      rw [Nat.zero_add] at hle' hL'
      have e0 : decide (Int.ofNat path[i] < 0) = false := by simp
      have e1 : decide (Int.ofNat path[i] ≥ Int.ofNat ds.length) = false := by simp; omega
      rw [floop_step, Sl_forget]
      unfold l73_0
      simp -implicitDefEqProofs only [go_sem, ↓reduceIte, Nat.reduceLT, Nat.reduceEqDiff, Nat.reduceAdd, Nat.reduceMul, Nat.reduceLeDiff, Nat.reduceSub, r73_2_go, r73_2U, r73_3_go, r73_3U, r73_4_go, r73_4U, r73_6_go, r73_6U, r73_7_go, r73_7U, h.f0, h.g7, h.g8, h.g9, d1, hi, hcp, g1, hc, hf3, e0, e1, hpi, w3, List.mem_cons]
      generalize hff : upd _ 0 _ = f1
      generalize hgg : upd _ 9 _ = gg
      exact ih fuel (i + 1) f1 gg d' b' (off' + path[i] * 4) cs' (by omega) (by omega) hx (by have := count_mem (List.mem_of_getElem? hd); rw [D.count] at hN; omega) hcs' (by omega) hL' {
        f0 := by rw [← hff]; simp -implicitDefEqProofs only [upd_go, kept_go, ↓reduceIte, Nat.reduceEqDiff, Nat.reduceLT, reduceCtorEq]
        g7 := by rw [← hgg]; simp -implicitDefEqProofs only [upd_go, kept_go, ↓reduceIte, Nat.reduceEqDiff, Nat.reduceLT, reduceCtorEq, h.g7, List.mem_cons, true_or, or_true]
        g8 := by rw [← hgg]; simp -implicitDefEqProofs only [upd_go, kept_go, ↓reduceIte, Nat.reduceEqDiff, Nat.reduceLT, reduceCtorEq, h.g8, List.mem_cons, true_or, or_true]
        g9 := by rw [← hgg]; simp -implicitDefEqProofs only [upd_go, kept_go, ↓reduceIte, Nat.reduceEqDiff, Nat.reduceLT, reduceCtorEq] }
theorem place_go (n : Nat) {path : List Nat} {pv : Value} {R Q : Nat → Prop} {σ : FState} (hs : path.length < 100000) {d x : D} (hP : PathV Q σ pv path) {b off : Nat} {cs : List Value} (hx : atP path d = some x) (hN : d.count < 100000) (hc : σ.cells b = some cs) (hle : 4 ≤ cs.length - off) (hL : LaidR R σ (.agg ((cs.drop off).take 4).toArray) d) :
    ∃ b' off' cs', (env (n + 1)).call 73 [.pointer (some ⟨b, off, none⟩), pv] none σ = .ret (.pointer (some ⟨b', off', none⟩)) none σ ∧ σ.cells b' = some cs' ∧ 4 ≤ cs'.length - off' ∧ LaidR R σ (.agg ((cs'.drop off').take 4).toArray) x := by
  obtain ⟨a, cx, rfl, k1⟩ := pathV_slice hP
  rw [env_call, enter73 _ _ _ _ (by simp), Sl_start]
  unfold run73
  simp -implicitDefEqProofs only [go_sem, ↓reduceIte, Nat.reduceLT, Nat.reduceEqDiff, Nat.reduceAdd, Nat.reduceMul, Nat.reduceLeDiff, Nat.reduceSub, r73_0_go, r73_0U, r73_1_go, r73_1U, Option.getD_some, keepPlace]
  generalize hff : upd _ 4 _ = f1
  generalize hgg : upd _ 9 _ = g1
  generalize hbf : bigFuel = fuel
  obtain ⟨f2, g2, b', off', cs', e2, h1, h2, h3, h4⟩ := place_loop (env n) (a := a) (cx := cx) (σ := σ) hs x (fun h => by obtain ⟨b, r, x, _, y⟩ := k1 h; exact ⟨b, r, x, y⟩) path.length fuel 0 f1 g1 d b off cs (by omega) (by rw [← hbf]; show path.length < 1000000000000; omega) hx hN hc hle hL {
    f0 := by rw [← hff]; simp -implicitDefEqProofs only [upd_go, kept_go, ↓reduceIte, Nat.reduceEqDiff, Nat.reduceLT, reduceCtorEq, List.getElem?_cons_zero, List.getElem?_cons_succ, Option.getD_some]
    g7 := by rw [← hgg]; simp -implicitDefEqProofs only [upd_go, kept_go, ↓reduceIte, Nat.reduceEqDiff, Nat.reduceLT, reduceCtorEq]
    g8 := by rw [← hgg]; simp -implicitDefEqProofs only [upd_go, kept_go, ↓reduceIte, Nat.reduceEqDiff, Nat.reduceLT, reduceCtorEq]
    g9 := by rw [← hgg]; simp -implicitDefEqProofs only [upd_go, kept_go, ↓reduceIte, Nat.reduceEqDiff, Nat.reduceLT, reduceCtorEq] <;> rfl }
  rw [e2]
  simp -implicitDefEqProofs only [go_sem, ↓reduceIte, Nat.reduceLT, Nat.reduceEqDiff, Nat.reduceAdd, Nat.reduceMul, Nat.reduceLeDiff, Nat.reduceSub, r73_8_go, r73_8U, h1]
  exact ⟨_, _, _, rfl, h2, h3, h4⟩
theorem deferredAtD (n : Nat) (p q : Value) (σ : FState) : (env (n + 1)).call 125 [p, q] (some .returning) σ = .ret (.tuple #[]) (some .returning) σ := by
  rw [env_defer, enter125 _ _ _ _ (by simp), Sl_start]
  unfold run125
  simp -implicitDefEqProofs only [go_sem, ↓reduceIte, Nat.reduceLT, Nat.reduceEqDiff, Nat.reduceAdd, Nat.reduceMul, Nat.reduceLeDiff, Nat.reduceSub, r125_0_go, r125_0U, r125_3_go, r125_3U, r125_4_go, r125_4U, nilAny]
theorem callAtD (n w : Nat) (cap : Array Value) (x : D) (σ : FState) (hw : Wf σ)
    (h : ∀ σ', Ext σ σ' → Wf σ' → Gives ((env (n + 1)).call w cap.toList none σ') σ' fun v σ'' => LaidR (fun b => σ'.next ≤ b) σ'' v x) :
    Gives ((env (n + 2)).call 100 [.func (.func w) #[] cap] none σ) σ fun v σ' => ∃ u, v = .tuple #[u, .int .i64 0, .int .i64 0] ∧ LaidR (fun b => σ.next ≤ b) σ' u x := by
  rw [env_call, enter100 _ _ _ _ (by simp), Sl_start]
  unfold run100
  have hX1 : Ext σ (((σ.push (.cells [.int .i64 0, .int .i64 0, .string ⟨#[]⟩, .slice none 0 0] TD) none).push (.cells [.int .i64 0] 3) none).push (.cells [.int .i64 0] 32) none) := (((Ext.refl _).push _ _).push _ _).push _ _
  have hw1 := ((hw.push (.cells [.int .i64 0, .int .i64 0, .string ⟨#[]⟩, .slice none 0 0] TD) none).push (.cells [.int .i64 0] 3) none).push (.cells [.int .i64 0] 32) none
  obtain ⟨_, σ2, e2, hX2, hw2, hq⟩ := h _ hX1 hw1
  obtain ⟨k, z, t, ds⟩ := x
  obtain ⟨q, c, rfl, hE⟩ := hq
  have g0 : σ2.heap.get σ.next = _ := (hX2.get σ.next (by simp only [push_next]; omega)).trans (by simp -implicitDefEqProofs only [push_get, push_next, Nat.add_assoc, Nat.reduceAdd, Nat.left_eq_add, reduceCtorEq, ↓reduceIte, Nat.reduceEqDiff] <;> rfl)
  have g1 : σ2.heap.get (σ.next + 1) = _ := (hX2.get (σ.next + 1) (by simp only [push_next]; omega)).trans (by simp -implicitDefEqProofs only [push_get, push_next, Nat.add_assoc, Nat.reduceAdd, Nat.add_left_cancel_iff, reduceCtorEq, ↓reduceIte, Nat.reduceEqDiff] <;> rfl)
  have g2 : σ2.heap.get (σ.next + 2) = _ := (hX2.get (σ.next + 2) (by simp only [push_next]; omega)).trans (by simp -implicitDefEqProofs only [push_get, push_next, Nat.add_assoc, Nat.reduceAdd, Nat.add_left_cancel_iff, reduceCtorEq, ↓reduceIte, Nat.reduceEqDiff] <;> rfl)
  simp -implicitDefEqProofs only [go_sem, ↓reduceIte, Nat.reduceLT, Nat.reduceEqDiff, Nat.reduceAdd, Nat.reduceMul, Nat.reduceLeDiff, Nat.reduceSub, fstoreN, r100_0_go, r100_0U, r100_1_go, r100_1U, r100_2_go, r100_2U, Option.getD_some, e2, g0, g1, g2, aggDatum, aggInt, aggErrno, deferredAtD, fleave_nil, fresults_nil, fresults_cons, fresult_cell]
  have m0 := (hw2 _ _ g0).1
  have m1 := (hw2 _ _ g1).1
  have m2 := (hw2 _ _ g2).1
  exact ⟨_, _, rfl, (((hX1.trans hX2).put _ _ _ (Nat.le_refl _)).put _ _ _ (Nat.le_add_right _ _)).put _ _ _ (Nat.le_add_right _ _), ((hw2.put _ _ _ m0).put _ _ _ m1).put _ _ _ m2, _, rfl, q, c, rfl, hE.keep fun b cs hb hc => by
    simp only [push_next] at hb
    exact ⟨by rw [cells_put, if_neg (by omega), cells_put, if_neg (by omega), cells_put, if_neg (by omega)]; exact hc, by omega⟩⟩
theorem callD (n w : Nat) (cap : Array Value) (x : D) (σ : FState) (hw : Wf σ)
    (h : ∀ σ', Ext σ σ' → Wf σ' → Gives ((env (n + 1)).call w cap.toList none σ') σ' fun v σ'' => LaidR (fun b => σ'.next ≤ b) σ'' v x) :
    Gives ((env (n + 3)).call 58 [.func (.func w) #[] cap] none σ) σ fun v σ' => ∃ u, v = .tuple #[u, .int .i64 0] ∧ LaidR (fun b => σ.next ≤ b) σ' u x := by
  rw [env_call, enter58 _ _ _ _ (by simp), Sl_start]
  unfold run58
  have hX1 : Ext σ (σ.push (.cells [.int .i64 0, .int .i64 0, .string ⟨#[]⟩, .slice none 0 0] TD) none) := (Ext.refl _).push _ _
  obtain ⟨_, σ2, e2, hX2, hw2, u, rfl, hq⟩ := callAtD n w cap x _ (hw.push (.cells [.int .i64 0, .int .i64 0, .string ⟨#[]⟩, .slice none 0 0] TD) none) fun σ' hx hw' => h σ' (hX1.trans hx) hw'
  obtain ⟨k, z, t, ds⟩ := x
  obtain ⟨q, c, rfl, hE⟩ := hq
  have g0 : σ2.heap.get σ.next = _ := (hX2.get σ.next (Nat.lt_succ_self _)).trans (by rw [push_get, if_pos rfl])
  have m0 := (hw2 _ _ g0).1
  have hne : (σ.next = σ2.next) = False := by simp; omega
  have hne' : (σ2.next = σ.next) = False := by simp; omega
  simp -implicitDefEqProofs only [go_sem, ↓reduceIte, Nat.reduceLT, Nat.reduceEqDiff, Nat.reduceAdd, Nat.reduceMul, Nat.reduceLeDiff, Nat.reduceSub, fstoreN, r58_0_go, r58_0U, r58_1_go, r58_1U, r58_2_go, r58_2U, Option.getD_some, e2, g0, aggDatum, fleave_nil, fresults_nil, fresults_cons, fresult_cell, fresult_tmp, hne, hne', List.getElem?_cons_zero]
  exact ⟨_, _, rfl, (((hX1.trans hX2).push _ _).put _ _ _ (by have := (hX1.trans hX2).next; omega)).put _ _ _ (Nat.le_refl _), ((hw2.push _ _).put _ _ _ (Nat.lt_succ_self _)).put _ _ _ (by rw [put_next, push_next]; omega), _, rfl, q, c, rfl, hE.keep fun b cs hb hc => by
    have := hw2.cells hc
    simp only [push_next] at hb
    exact ⟨by rw [cells_put, if_neg (by omega), cells_put, if_neg (by omega), cells_push, if_neg (by omega)]; exact hc, by omega⟩⟩
theorem at1 (M n : Nat) (hM : M = n + 14) (bd bp : Nat) (L : Nat) (hL6 : L ≤ 6) (d x : D) (hF : Fine M L d) (lv : List Value) (h4 : lv.length = 4) (R Q : Nat → Prop) (path : List Nat) (pv : Value) (hs : path.length < 100000) (hx : atP path d = some x) (hxd : x.deep ≤ 7) (hxc : x.count < 100000) (σ : FState) (hw : Wf σ) (hb1 : σ.cells bd = some lv) (hb2 : σ.cells bp = some [pv]) (hL : LaidR R σ (.agg lv.toArray) d) (hP : PathV Q σ pv path) (hR : ∀ b, R b → b < σ.next) :
    Gives ((env (M + 6)).call 72 [.pointer (some ⟨bd, 0, none⟩), .pointer (some ⟨bp, 0, none⟩)] none σ) σ fun v σ' => LaidR (fun b => σ.next ≤ b) σ' v x := by
  have hf := hF.few hL6
  rw [env_call, enter72 _ _ _ _ (by simp), Sl_start]
  unfold run72
  have x0 : Ext σ (σ.push (.cells [.int .i64 0, .int .i64 0, .string ⟨#[]⟩, .slice none 0 0] TD) none) := (Ext.refl _).push _ _
  have hw0 := hw.push (.cells [.int .i64 0, .int .i64 0, .string ⟨#[]⟩, .slice none 0 0] TD) none
  have ne1 : (bd = σ.next) = False := by have := hw.cells hb1; simp; omega
  have ne2 : (bp = σ.next) = False := by have := hw.cells hb2; simp; omega
  obtain ⟨_, σ1, e1, x1, hw1, rfl⟩ := valid_go M d lv h4 R _ hw0 (hL.keep fun b cs hb hc => ⟨(x0.cells (hw.cells hc)).trans hc, hb⟩) (fun b hb => by have := hR b hb; rw [push_next]; omega) (hF.small hL6) (by omega) hF.good
  have x01 := x0.trans x1
  have c1 := (x01.cells (hw.cells hb1)).trans hb1
  have c2 := (x01.cells (hw.cells hb2)).trans hb2
  have ht : lv.take 4 = lv := List.take_of_length_le (by omega)
  have hL1 : LaidR R σ1 (.agg ((lv.drop 0).take 4).toArray) d := by
    rw [List.drop_zero, ht]
    exact hL.keep fun b cs hb hc => ⟨(x01.cells (hw.cells hc)).trans hc, hb⟩
  obtain ⟨b', off', cs', e2, hc', hle', hL'⟩ := place_go (M + 4) (Q := fun _ => True) (σ := σ1) hs (hP.keep fun b cs _ hc => ⟨(x01.cells (hw.cells hc)).trans hc, trivial⟩) hx (by rw [← pieces_length d []]; omega) c1 (by omega) hL1
  have hcp := copy_go (n + 5) 7 x hxd (by omega)
  rw [show n + 5 + 2 * 7 = M + 5 by omega] at hcp
  obtain ⟨_, σ2, e3, x2, hw2, hq⟩ := hcp ((cs'.drop off').take 4) R σ1 hw1 hL'
  obtain ⟨k, z, t, ds⟩ := x
  obtain ⟨q, c, rfl, hE⟩ := hq
  have g0 : σ2.heap.get σ.next = _ := ((x1.trans x2).get σ.next (Nat.lt_succ_self _)).trans (by rw [push_get, if_pos rfl])
  have m0 := (hw2 _ _ g0).1
  simp -implicitDefEqProofs only [go_sem, ↓reduceIte, Nat.reduceLT, Nat.reduceEqDiff, Nat.reduceAdd, Nat.reduceMul, Nat.reduceLeDiff, Nat.reduceSub, fstoreN, r72_0_go, r72_0U, r72_1_go, r72_1U, r72_2_go, r72_2U, Option.getD_some, hb1, hb2, ne1, ne2, c1, c2, h4, ht, e1, e2, e3, hc', hle', g0, aggDatum, fleave_nil, fresults_nil, fresults_cons, fresult_cell, Nat.le_refl]
  have n1 := x1.next
  rw [push_next] at n1
  exact ⟨_, _, rfl, (x01.trans x2).put _ _ _ (Nat.le_refl _), hw2.put _ _ _ m0, q, c, rfl, hE.keep fun b cs hb hc => ⟨by rw [cells_put, if_neg (by omega)]; exact hc, by omega⟩⟩
end Go.Proofs.YtodkeaoikjjneaaGreatDoor
/- Lists as data. -/
namespace Go.Proofs.YtodkeaoikjjneaaGreatDoor
open Go Go.Eng
def nilD : D := .mk 0 0 ⟨#[]⟩ []
def pairD (a b : D) : D := .mk 5 0 ⟨#[]⟩ [a, b]
def listD (t : D) : List D → D
  | [] => t
  | d :: ds => pairD d (listD t ds)
theorem listD_append (t : D) : ∀ (a b : List D), listD t (a ++ b) = listD (listD t b) a
  | [], b => rfl
  | d :: a, b => by rw [List.cons_append, listD, listD_append t a b]; rfl
theorem listD_count (t : D) : ∀ ds : List D, (listD t ds).count = ds.length + D.counts ds + t.count
  | [] => by simp [listD, D.counts]
  | d :: ds => by
    rw [listD, pairD, D.count, D.counts, D.counts, D.counts, D.counts, listD_count t ds, List.length_cons]
    omega
theorem listD_deep (t : D) (N : Nat) : ∀ ds : List D, (∀ d ∈ ds, d.deep ≤ N) → (listD t ds).deep ≤ ds.length + max N t.deep
  | [], _ => by rw [listD]; omega
  | d :: ds, h => by
    have h1 := h d List.mem_cons_self
    have h2 := listD_deep t N ds fun d' hd => h d' (List.mem_cons_of_mem _ hd)
    rw [listD, pairD, D.deep, D.deeps, D.deeps, D.deeps, List.length_cons]
    omega
theorem counts_append : ∀ a b : List D, D.counts (a ++ b) = D.counts a + D.counts b
  | [], b => by simp [D.counts]
  | d :: a, b => by rw [List.cons_append, D.counts, D.counts, counts_append a b]; omega
theorem counts_reverse : ∀ a : List D, D.counts a.reverse = D.counts a
  | [] => rfl
  | d :: a => by rw [List.reverse_cons, counts_append, counts_reverse a, D.counts, D.counts, D.counts]; omega
/-- What is so of all pieces of a datum, whatever the path to it. -/
def Sane (m : Nat) (d : D) : Prop := ∀ path, ∀ x ∈ d.pieces path, x.2.parts.length ≤ 3 ∧ GoodD m x.2
theorem Fine.sane {m L : Nat} {d : D} (h : Fine m L d) : Sane m d := fun path x hx => ((h path).2 x hx).2
theorem sane_nil (m : Nat) : Sane m nilD := fun path x hx => by
  rw [nilD, D.pieces, D.piecesL] at hx
  simp only [List.mem_singleton] at hx
  subst hx
  exact ⟨by simp [D.parts], fun k z t ds e => by cases e; exact ⟨0, rfl, .nil⟩⟩
theorem sane_pair {m : Nat} {a b : D} (ha : Sane m a) (hb : Sane m b) : Sane m (pairD a b) := fun path x hx => by
  rw [pairD, D.pieces, D.piecesL, D.piecesL, D.piecesL, List.append_nil] at hx
  rcases List.mem_cons.1 hx with rfl | hx
  · exact ⟨by simp [D.parts], fun k z t ds e => by cases e; exact ⟨5, rfl, .pair⟩⟩
  · rcases List.mem_append.1 hx with hx | hx
    · exact ha _ x hx
    · exact hb _ x hx
theorem sane_list {m : Nat} {t : D} (ht : Sane m t) : ∀ {ds : List D}, (∀ d ∈ ds, Sane m d) → Sane m (listD t ds)
  | [], _ => ht
  | d :: ds, h => sane_pair (h d List.mem_cons_self) (sane_list ht fun d' hd => h d' (List.mem_cons_of_mem _ hd))
theorem Sane.good {m : Nat} {d : D} (h : Sane m d) : AllGood m (d.pieces []) := fun path k z t ds hx => (h [] _ hx).2 k z t ds rfl
theorem pieces_near (d : D) (hd : d.deep < 1000) : ∀ y ∈ d.pieces [], y.1.length < 1000 := fun y hy => by
  have h1 := longest_pieces d []
  have h2 : y.1.length + 1 ≤ longest (d.pieces []) := by
    obtain ⟨a, b, h⟩ := List.append_of_mem hy
    rw [h, longest_append, longest_cons]
    omega
  simp at h1
  omega
theorem Sane.small {m : Nat} {d : D} (h : Sane m d) (hd : d.deep < 1000) : Small (d.pieces []) := fun x hx => ⟨by have := pieces_near d hd x hx; omega, by have := (h [] x hx).1; omega⟩
theorem validS_go (M : Nat) (d : D) (h : Sane M d) (hc : d.count ≤ 2000) (hd : d.deep < 1000) (lv : List Value) (h4 : lv.length = 4) (R : Nat → Prop) (σ : FState) (hw : Wf σ) (hL : LaidR R σ (.agg lv.toArray) d) (hR : ∀ b, R b → b < σ.next) :
    Gives ((env (M + 5)).call 60 [.agg lv.toArray] none σ) σ fun w _ => w = .int .i64 (.ofNat d.count) := by
  have := valid_go M d lv h4 R σ hw hL hR (h.small hd) (by rw [pieces_length]; exact hc) h.good
  rwa [pieces_length] at this
end Go.Proofs.YtodkeaoikjjneaaGreatDoor
/- A vector of data that is being made, of elements that lie elsewhere. -/
namespace Go.Proofs.YtodkeaoikjjneaaGreatDoor
open Go Go.Eng
/-- A vector that is being made: its block satisfies Q, its elements lie in R. -/
def VecG (Q R : Nat → Prop) (σ : FState) (s : Value) (ds : List D) : Prop :=
  (ds = [] ∧ s = .slice none 0 0) ∨ (∃ b cs ver, s = .slice (some ⟨b, 0, none⟩) ds.length ds.length ∧ σ.heap.get b = some ⟨.cells cs TD, false, some 4, ver⟩ ∧ Q b ∧ Row R σ cs ds)
theorem VecG.slice {Q R : Nat → Prop} {σ : FState} {s : Value} {ds : List D} (h : VecG Q R σ s ds) : ∃ p, s = .slice p ds.length ds.length ∧ LaidRE (fun b => Q b ∨ R b) σ p 0 ds := by
  rcases h with ⟨rfl, rfl⟩ | ⟨b, cs, ver, rfl, hb, hq, hr⟩
  · exact ⟨none, rfl, trivial⟩
  · exact ⟨_, rfl, hr.elems (cells_of_get hb) (.inl hq) (fun c hc => .inr hc) 0 ds fun j e he => by rwa [Nat.zero_add]⟩
theorem VecG.one {Q R : Nat → Prop} {σ : FState} {s : Value} {ds : List D} (h : VecG Q R σ s ds) : oneCell s = true ∧ notTuple s = true ∧ valCells s = [s] := by
  rcases h with ⟨rfl, rfl⟩ | ⟨b, cs, ver, rfl, hb, hq, hr⟩ <;> exact ⟨rfl, rfl, rfl⟩
theorem VecG.keep {Q Q' R R' : Nat → Prop} {σ σ' : FState} {s : Value} {ds : List D} (h : VecG Q R σ s ds) (hq : ∀ b e, Q b → σ.heap.get b = some e → σ'.heap.get b = some e ∧ Q' b) (hr : ∀ b cs, R b → σ.cells b = some cs → σ'.cells b = some cs ∧ R' b) : VecG Q' R' σ' s ds := by
  rcases h with h | ⟨b, cs, ver, rfl, hb, hQ, hR⟩
  · exact .inl h
  · exact .inr ⟨b, cs, ver, rfl, (hq b _ hQ hb).1, (hq b _ hQ hb).2, hR.keep hr⟩
theorem vecG_append (Q R Q' : Nat → Prop) (σ1 : FState) (s : Value) (ds : List D) (d : D) (l : List Value) (hw : Wf σ1) (hl : l.length = 4) (ho : l.all oneCell = true) (hlen : ds.length < 900) (hV : VecG Q R σ1 s ds)
    (hd : LaidR R σ1 (.agg l.toArray) d) (hQR : ∀ b, Q b → ¬ R b) (hQ' : ∀ b, σ1.next ≤ b → Q' b) :
    ∃ s' τ, fappend TD 4 56 s (.slice (some ⟨σ1.next, 0, none⟩) 1 1) (σ1.push (.cells l TD) none) = .val s' τ ∧ VecG Q' R τ s' (ds ++ [d]) ∧ Wf τ ∧ Chg Q σ1 τ := by
  have hx : (σ1.push (.cells l TD) none).cells σ1.next = some l := by rw [cells_push, if_pos rfl]; rfl
  rcases hV with ⟨rfl, rfl⟩ | ⟨b, cs, ver, rfl, hb, hq, hR⟩
  · refine ⟨_, _, append_first TD 4 56 _ 1 l _ hx hl ho (by decide), .inr ⟨_, _, _, rfl, by rw [push_get, if_pos rfl], hQ' _ (by rw [push_next]; omega), ?_⟩, (hw.push _ _).push _ _, ((Chg.refl _ _).push _ _).push _ _⟩
    exact (Row.nil _ _).snoc hl ho (hd.keep fun c cs hc h => by
      have := hw.cells h
      refine ⟨?_, hc⟩
      rw [cells_push, if_neg (by rw [push_next]; omega), cells_push, if_neg (by omega)]
      exact h)
  · have hbn : b < σ1.next := (hw b _ hb).1
    have hb1 : (σ1.push (.cells l TD) none).heap.get b = some ⟨.cells cs TD, false, some 4, ver⟩ := by rw [push_get, if_neg (by omega)]; exact hb
    have hw1 := hw.push (.cells l TD) none
    have hw2 := hw1.put b (.defd false) none (by rw [push_next]; omega)
    refine ⟨_, _, append_more TD 4 56 b _ 1 ds.length ver cs l _ hb1 hx hl ho hR.1 (by decide) (by omega), .inr ⟨_, _, _, by rw [List.length_append]; rfl, by rw [push_get, if_pos rfl], hQ' _ (by rw [put_next, push_next]; omega), ?_⟩, hw2.push _ _, (((Chg.refl _ _).push _ _).put _ _ _ (.inr hq)).push _ _⟩
    have kp : ∀ (c : Nat) (cs' : List Value), R c → σ1.cells c = some cs' →
        (((σ1.push (.cells l TD) none).put b (.defd false) none).push (.cells (cs ++ l) TD) (some 4)).cells c = some cs' ∧ R c := fun c cs' hc h => by
      have := hw.cells h
      refine ⟨?_, hc⟩
      rw [cells_push, if_neg (by rw [put_next, push_next]; omega), cells_put, if_neg (fun (e : c = b) => hQR b hq (e ▸ hc)), cells_push, if_neg (by omega)]
      exact h
    exact (hR.keep kp).snoc hl ho (hd.keep kp)
/-- append of one element each. -/
theorem Row.append {R : Nat → Prop} {σ : FState} {cs cs' : List Value} {ds ds' : List D} (h : Row R σ cs ds) (h' : Row R σ cs' ds') : Row R σ (cs ++ cs') (ds ++ ds') := by
  refine ⟨by rw [List.length_append, List.length_append, h.1, h'.1]; omega, by rw [List.all_append, h.2.1, h'.2.1]; rfl, fun i d hd => ?_⟩
  by_cases hi : i < ds.length
  · rw [List.getElem?_append_left hi] at hd
    have := h.2.2 i d hd
    rw [List.drop_append_of_le_length (by rw [h.1]; omega), List.take_append_of_le_length (by rw [List.length_drop, h.1]; omega)]
    exact this
  · rw [List.getElem?_append_right (by omega)] at hd
    have := h'.2.2 (i - ds.length) d hd
    have e : i * 4 = cs.length + (i - ds.length) * 4 := by rw [h.1]; omega
    rw [e, ← List.drop_drop, List.drop_left]
    exact this
end Go.Proofs.YtodkeaoikjjneaaGreatDoor
/- Functions of the program, written out in the reading's words (made by program; the kernel holds each against the code). -/
namespace Go.Proofs.YtodkeaoikjjneaaGreatDoor
open Go Go.Eng
variable (E : Env) (ro : Option Nat) (last : List Nat → RunF) (cl : List Nat) (a : FAct) (u : Option FrameMode) (σ : FState)
/-! caracole/plain.Elements -/
noncomputable def r108_0U (_ : Unit) : List COp := [⟨fun a σ => fbox 28 (a.get 0) σ, (some 1), fun _ => some true⟩,
  ⟨fun a σ => .val (.slice none 0 0) σ, (some 2), fun _ => some true⟩,
  ⟨fun a σ => newCells [(.int .i64 0), (.int .i64 0), (.string ⟨#[]⟩), (.slice none 0 0)] 28 none σ, (some 3), fun _ => some true⟩]
noncomputable def r108_0 : List COp := r108_0U ()
noncomputable def r108_1U (_ : Unit) : List COp := [⟨fun a σ => ffield 0 (a.get 1) σ, (some 4), fun _ => some true⟩,
  ⟨fun a σ => fload none (a.get 4) σ, (some 5), fun _ => some true⟩,
  ⟨fun a σ => i_eql Tryz.prog 3 (.tmp 5) (.const (.int .i64 5)) (a.get 5) (.int .i64 5) σ, (some 6), fun _ => some true⟩]
noncomputable def r108_1 : List COp := r108_1U ()
noncomputable def r108_2U (_ : Unit) : List COp := [⟨fun a σ => .val (a.get 2) σ, (some 7), fun _ => some true⟩,
  ⟨fun a σ => ffield 3 (a.get 1) σ, (some 8), fun _ => some true⟩,
  ⟨fun a σ => fload none (a.get 8) σ, (some 9), fun _ => some true⟩,
  ⟨fun a σ => findex (none, 4) (a.get 9) (.int .i64 0) σ, (some 10), fun _ => some true⟩,
  ⟨fun a σ => fload (some 4) (a.get 10) σ, (some 11), fun _ => some true⟩,
  ⟨fun a σ => fbuildSlice 28 1 4 [(.int .i64 0), (.int .i64 0), (.string ⟨#[]⟩), (.slice none 0 0)] [(0, (a.get 11))] σ, (some 12), fun _ => some true⟩,
  ⟨fun a σ => fappend 28 4 56 (a.get 7) (a.get 12) σ, (some 13), fun _ => some true⟩,
  ⟨fun a σ => .val (a.get 13) σ, (some 2), fun _ => some true⟩]
noncomputable def r108_2 : List COp := r108_2U ()
noncomputable def r108_3U (_ : Unit) : List COp := [⟨fun a σ => ffield 3 (a.get 1) σ, (some 14), fun _ => some true⟩,
  ⟨fun a σ => fload none (a.get 14) σ, (some 15), fun _ => some true⟩,
  ⟨fun a σ => findex (none, 4) (a.get 15) (.int .i64 1) σ, (some 16), fun _ => some true⟩,
  ⟨fun a σ => fload (some 4) (a.get 16) σ, (some 17), fun _ => some true⟩,
  ⟨fun a σ => fstore 4 (a.get 1) (a.get 17) σ, none, fun _ => some true⟩]
noncomputable def r108_3 : List COp := r108_3U ()
noncomputable def r108_4U (_ : Unit) : List DOp := [⟨fun a σ => .val (a.get 2) σ, (some 18), fun _ => some true, (some 0), false⟩,
  ⟨fun a σ => fload (some 4) (a.get 1) σ, (some 19), fun _ => some true, (some 0), false⟩,
  ⟨fun a σ => .val (a.get 18) σ, (some 2), fun _ => some true, (some 0), false⟩,
  ⟨fun a σ => fstore 4 (a.get 3) (a.get 19) σ, none, fun _ => some true, none, true⟩]
noncomputable def r108_4 : List DOp := r108_4U ()
noncomputable def x108_0 : Code := (scopesOf (Tryz.f108.body.getD .skip)).getD 0 .skip
noncomputable def find108_0 (E : Env) (ro : Option Nat) (fn : FuncId) : Nat → Option (Bx RunF) := fun l => match findLabel x108_0 l with | some rest => some ⟨(ccode Tryz.prog nls 998 rest).un E ro fn⟩ | none => none
noncomputable def rest108_0_0 (E : Env) (ro : Option Nat) (fn : FuncId) : RunF := (seqR skipR (seqR (seqR (fops E ro r108_1) (condR (fun a => (a.get 6)) (seqR (fops E ro r108_2) (seqR (fops E ro r108_3) (gotoR 0))) skipR)) (seqR (drawR E ro r108_4) retR)))
noncomputable def run108 (E : Env) (ro : Option Nat) (fn : FuncId) : RunF := (seqR (fops E ro r108_0) (fscope (find108_0 E ro fn) bigFuel (seqR skipR (seqR (seqR (fops E ro r108_1) (condR (fun a => (a.get 6)) (seqR (fops E ro r108_2) (seqR (fops E ro r108_3) (gotoR 0))) skipR)) (seqR (drawR E ro r108_4) retR)))))
theorem r108_0_go : fops E ro r108_0 a u σ = fops E ro (r108_0U ()) a u σ := rfl
theorem r108_1_go : fops E ro r108_1 a u σ = fops E ro (r108_1U ()) a u σ := rfl
theorem r108_2_go : fops E ro r108_2 a u σ = fops E ro (r108_2U ()) a u σ := rfl
theorem r108_3_go : fops E ro r108_3 a u σ = fops E ro (r108_3U ()) a u σ := rfl
theorem r108_4_go : fdraw E ro last r108_4 cl a u σ = fdraw E ro last (r108_4U ()) cl a u σ := rfl
theorem find108_0_0_go (E : Env) (ro : Option Nat) (fn : FuncId) : find108_0 E ro fn 0 = some ⟨rest108_0_0 E ro fn⟩ := by kernel_rfl
theorem code108 (E : Env) (ro : Option Nat) (fn : FuncId) : code Tryz.prog nls (Tryz.f108.body.getD .skip) E ro fn = run108 E ro fn := by kernel_rfl
theorem enter108 (E : Env) (args : List Value) (u : Option FrameMode) (σ : FState) (hn : args.length ≤ (4 : Nat)) : fcall Tryz.prog nls E 108 args u σ = leaveR Tryz.prog E [.tmp 2, .cell 3 28] (run108 E none 108 ⟨padTo undef 4 args, fun _ => undef, 4, 20, []⟩ u σ) := by
  rw [fcall_of (body := Tryz.f108.body.getD .skip) Tryz.func108 rfl E args u σ 4 20 (by kernel_rfl) rfl ⟨hn, by decide⟩, code108]
  rfl
/-! caracole/datum.elements -/
noncomputable def r67_0U (_ : Unit) : List COp := [⟨fun a σ => fbox 28 (a.get 0) σ, (some 1), fun _ => some true⟩,
  ⟨fun a σ => .val (.slice none 0 0) σ, (some 2), fun _ => some true⟩]
noncomputable def r67_0 : List COp := r67_0U ()
noncomputable def r67_1U (_ : Unit) : List COp := [⟨fun a σ => fload (some 4) (a.get 1) σ, (some 6), fun _ => some true⟩,
  ⟨fun a σ => .enter 108 [(a.get 6)] σ, (some 7), fun _ => some true⟩,
  ⟨fun a σ => .val (a.get 7) σ, (some 5), fun _ => some true⟩,
  ⟨fun a σ => fextract 0 (a.get 5) σ, (some 8), fun _ => some true⟩,
  ⟨fun a σ => fextract 1 (a.get 5) σ, (some 9), fun _ => some true⟩,
  ⟨fun a σ => newCells [(.int .i64 0), (.int .i64 0), (.string ⟨#[]⟩), (.slice none 0 0)] 28 none σ, (some 4), fun _ => some true⟩,
  ⟨fun a σ => .val (a.get 8) σ, (some 3), fun _ => some true⟩,
  ⟨fun a σ => fstore 4 (a.get 4) (a.get 9) σ, none, fun _ => some true⟩]
noncomputable def r67_1 : List COp := r67_1U ()
noncomputable def r67_2U (_ : Unit) : List COp := [⟨fun a σ => ffield 0 (a.get 4) σ, (some 10), fun _ => some true⟩,
  ⟨fun a σ => fload none (a.get 10) σ, (some 11), fun _ => some true⟩,
  ⟨fun a σ => i_neq Tryz.prog 3 (.tmp 11) (.const (.int .i64 0)) (a.get 11) (.int .i64 0) σ, (some 12), fun _ => some true⟩]
noncomputable def r67_2 : List COp := r67_2U ()
noncomputable def r67_3U (_ : Unit) : List COp := [⟨fun a σ => .enter 104 [(.int .i64 4)] σ, (some 13), fun _ => some true⟩]
noncomputable def r67_3 : List COp := r67_3U ()
noncomputable def r67_4U (_ : Unit) : List COp := [⟨fun a σ => .val (a.get 3) σ, (some 14), fun _ => some true⟩,
  ⟨fun a σ => .val (a.get 14) σ, (some 2), fun _ => some true⟩]
noncomputable def r67_4 : List COp := r67_4U ()
noncomputable def run67 (E : Env) (ro : Option Nat) (fn : FuncId) : RunF := (seqR (fops E ro r67_0) (seqR (fops E ro r67_1) (seqR (seqR (fops E ro r67_2) (condR (fun a => (a.get 12)) (fops E ro r67_3) skipR)) (seqR (fops E ro r67_4) retR))))
theorem r67_0_go : fops E ro r67_0 a u σ = fops E ro (r67_0U ()) a u σ := rfl
theorem r67_1_go : fops E ro r67_1 a u σ = fops E ro (r67_1U ()) a u σ := rfl
theorem r67_2_go : fops E ro r67_2 a u σ = fops E ro (r67_2U ()) a u σ := rfl
theorem r67_4_go : fops E ro r67_4 a u σ = fops E ro (r67_4U ()) a u σ := rfl
theorem code67 (E : Env) (ro : Option Nat) (fn : FuncId) : code Tryz.prog nls (Tryz.f67.body.getD .skip) E ro fn = run67 E ro fn := by kernel_rfl
theorem enter67 (E : Env) (args : List Value) (u : Option FrameMode) (σ : FState) (hn : args.length ≤ (5 : Nat)) : fcall Tryz.prog nls E 67 args u σ = leaveR Tryz.prog E [.tmp 2] (run67 E none 67 ⟨padTo undef 5 args, fun _ => undef, 5, 15, []⟩ u σ) := by
  rw [fcall_of (body := Tryz.f67.body.getD .skip) Tryz.func67 rfl E args u σ 5 15 (by kernel_rfl) rfl ⟨hn, by decide⟩, code67]
  rfl
/-! caracole/datum.copyAll -/
noncomputable def r63_0U (_ : Unit) : List COp := [⟨fun a σ => .val (.slice none 0 0) σ, (some 2), fun _ => some true⟩]
noncomputable def r63_0 : List COp := r63_0U ()
noncomputable def r63_1U (_ : Unit) : List COp := [⟨fun a σ => .val (a.get 0) σ, (some 3), fun _ => some true⟩,
  ⟨fun a σ => .enter 106 [(a.get 3), (.func (.func 69) #[] #[])] σ, (some 4), fun _ => some true⟩,
  ⟨fun a σ => .val (a.get 4) σ, (some 2), fun _ => some true⟩]
noncomputable def r63_1 : List COp := r63_1U ()
noncomputable def run63 (E : Env) (ro : Option Nat) (fn : FuncId) : RunF := (seqR (fops E ro r63_0) (seqR (fops E ro r63_1) retR))
theorem r63_0_go : fops E ro r63_0 a u σ = fops E ro (r63_0U ()) a u σ := rfl
theorem r63_1_go : fops E ro r63_1 a u σ = fops E ro (r63_1U ()) a u σ := rfl
theorem code63 (E : Env) (ro : Option Nat) (fn : FuncId) : code Tryz.prog nls (Tryz.f63.body.getD .skip) E ro fn = run63 E ro fn := by kernel_rfl
theorem enter63 (E : Env) (args : List Value) (u : Option FrameMode) (σ : FState) (hn : args.length ≤ (2 : Nat)) : fcall Tryz.prog nls E 63 args u σ = leaveR Tryz.prog E [.tmp 2] (run63 E none 63 ⟨padTo undef 2 args, fun _ => undef, 2, 5, []⟩ u σ) := by
  rw [fcall_of (body := Tryz.f63.body.getD .skip) Tryz.func63 rfl E args u σ 2 5 (by kernel_rfl) rfl ⟨hn, by decide⟩, code63]
  rfl
/-! caracole/plain.List -/
noncomputable def r62_0U (_ : Unit) : List COp := [⟨fun a σ => fbox 28 (a.get 0) σ, (some 2), fun _ => some true⟩,
  ⟨fun a σ => newCells [(.int .i64 0), (.int .i64 0), (.string ⟨#[]⟩), (.slice none 0 0)] 28 none σ, (some 4), fun _ => some true⟩]
noncomputable def r62_0 : List COp := r62_0U ()
noncomputable def r62_1U (_ : Unit) : List COp := [⟨fun a σ => .val (a.get 1) σ, (some 7), fun _ => some true⟩,
  ⟨fun a σ => .enter 105 [(a.get 7)] σ, (some 8), fun _ => some true⟩]
noncomputable def r62_1 : List COp := r62_1U ()
noncomputable def r62_2U (_ : Unit) : List COp := [⟨fun a σ => newCells [(.int .i64 0), (.int .i64 0), (.string ⟨#[]⟩), (.slice none 0 0)] 28 none σ, (some 6), fun _ => some true⟩,
  ⟨fun a σ => fstore 4 (a.get 6) (a.get 10) σ, none, fun _ => some true⟩]
noncomputable def r62_2 : List COp := r62_2U ()
noncomputable def r62_3U (_ : Unit) : List COp := [⟨fun a σ => fload (some 4) (a.get 6) σ, (some 11), fun _ => some true⟩,
  ⟨fun a σ => fload (some 4) (a.get 2) σ, (some 12), fun _ => some true⟩,
  ⟨fun a σ => fbuildSlice 28 2 4 [(.int .i64 0), (.int .i64 0), (.string ⟨#[]⟩), (.slice none 0 0)] [(0, (a.get 11)), (1, (a.get 12))] σ, (some 13), fun _ => some true⟩,
  ⟨fun a σ => fbuild (fun i => nth [(0, 1), (1, 1), (2, 1), (3, 1)] i) [(.int .i64 0), (.int .i64 0), (.string ⟨#[]⟩), (.slice none 0 0)] [(0, (.int .i64 5)), (3, (a.get 13))] σ, (some 14), fun _ => some true⟩,
  ⟨fun a σ => fstore 4 (a.get 2) (a.get 14) σ, none, fun _ => some true⟩]
noncomputable def r62_3 : List COp := r62_3U ()
noncomputable def c62_0a : Code := ((rangesOf (Tryz.f62.body.getD .skip)).getD 0 (.skip, .skip)).1
noncomputable def c62_0b : Code := ((rangesOf (Tryz.f62.body.getD .skip)).getD 0 (.skip, .skip)).2
noncomputable def r62_4U (_ : Unit) : List COp := [⟨fun a σ => fload (some 4) (a.get 2) σ, (some 15), fun _ => some true⟩,
  ⟨fun a σ => fstore 4 (a.get 4) (a.get 15) σ, none, fun _ => some true⟩]
noncomputable def r62_4 : List COp := r62_4U ()
noncomputable def run62 (E : Env) (ro : Option Nat) (fn : FuncId) : RunF := (seqR (fops E ro r62_0) (seqR (seqR (fops E ro r62_1) (blockR 0 (frange E ro fn (.tmp 8) [9, 10] c62_0a c62_0b))) (seqR (fops E ro r62_4) retR)))
theorem r62_0_go : fops E ro r62_0 a u σ = fops E ro (r62_0U ()) a u σ := rfl
theorem r62_1_go : fops E ro r62_1 a u σ = fops E ro (r62_1U ()) a u σ := rfl
theorem r62_2_go : fops E ro r62_2 a u σ = fops E ro (r62_2U ()) a u σ := rfl
theorem r62_3_go : fops E ro r62_3 a u σ = fops E ro (r62_3U ()) a u σ := rfl
theorem c62_0a_go (E : Env) (ro : Option Nat) (fn : FuncId) : code Tryz.prog nls c62_0a E ro fn = (fops E ro r62_2) := by kernel_rfl
theorem c62_0b_go (E : Env) (ro : Option Nat) (fn : FuncId) : code Tryz.prog nls c62_0b E ro fn = (blockR 1 (fops E ro r62_3)) := by kernel_rfl
theorem r62_4_go : fops E ro r62_4 a u σ = fops E ro (r62_4U ()) a u σ := rfl
theorem code62 (E : Env) (ro : Option Nat) (fn : FuncId) : code Tryz.prog nls (Tryz.f62.body.getD .skip) E ro fn = run62 E ro fn := by kernel_rfl
theorem enter62 (E : Env) (args : List Value) (u : Option FrameMode) (σ : FState) (hn : args.length ≤ (7 : Nat)) : fcall Tryz.prog nls E 62 args u σ = leaveR Tryz.prog E [.cell 4 28] (run62 E none 62 ⟨padTo undef 7 args, fun _ => undef, 7, 16, []⟩ u σ) := by
  rw [fcall_of (body := Tryz.f62.body.getD .skip) Tryz.func62 rfl E args u σ 7 16 (by kernel_rfl) rfl ⟨hn, by decide⟩, code62]
  rfl
/-! slices.Backward[[]caracole/api.Datum,caracole/api.Datum] -/
noncomputable def r105_0U (_ : Unit) : List COp := [⟨fun a σ => fbox 25 (a.get 0) σ, (some 1), fun _ => some true⟩,
  ⟨fun a σ => .val .nilFunc σ, (some 2), fun _ => some true⟩]
noncomputable def r105_0 : List COp := r105_0U ()
noncomputable def r105_1U (_ : Unit) : List COp := [⟨fun a σ => .val (.func (.func 132) #[] #[(a.get 1)]) σ, (some 3), fun _ => some true⟩,
  ⟨fun a σ => .val (a.get 3) σ, (some 2), fun _ => some true⟩]
noncomputable def r105_1 : List COp := r105_1U ()
noncomputable def run105 (E : Env) (ro : Option Nat) (fn : FuncId) : RunF := (seqR (fops E ro r105_0) (seqR (fops E ro r105_1) retR))
theorem r105_0_go : fops E ro r105_0 a u σ = fops E ro (r105_0U ()) a u σ := rfl
theorem r105_1_go : fops E ro r105_1 a u σ = fops E ro (r105_1U ()) a u σ := rfl
theorem code105 (E : Env) (ro : Option Nat) (fn : FuncId) : code Tryz.prog nls (Tryz.f105.body.getD .skip) E ro fn = run105 E ro fn := by kernel_rfl
theorem enter105 (E : Env) (args : List Value) (u : Option FrameMode) (σ : FState) (hn : args.length ≤ (2 : Nat)) : fcall Tryz.prog nls E 105 args u σ = leaveR Tryz.prog E [.tmp 2] (run105 E none 105 ⟨padTo undef 2 args, fun _ => undef, 2, 4, []⟩ u σ) := by
  rw [fcall_of (body := Tryz.f105.body.getD .skip) Tryz.func105 rfl E args u σ 2 4 (by kernel_rfl) rfl ⟨hn, by decide⟩, code105]
  rfl
/-! slices.Backward[[]caracole/api.Datum,caracole/api.Datum]$1 -/
noncomputable def r132_0U (_ : Unit) : List COp := [⟨fun a σ => fload none (a.get 1) σ, (some 4), fun _ => some true⟩,
  ⟨fun a σ => flenL (a.get 4) σ, (some 5), fun _ => some true⟩,
  ⟨fun a σ => i_sub Tryz.prog 3 (.tmp 5) (.const (.int .i64 1)) (a.get 5) (.int .i64 1) σ, (some 6), fun _ => some true⟩,
  ⟨fun a σ => .val (a.get 6) σ, (some 3), fun _ => some true⟩]
noncomputable def r132_0 : List COp := r132_0U ()
noncomputable def r132_1U (_ : Unit) : List COp := [⟨fun a σ => .val (a.get 3) σ, (some 7), fun _ => some true⟩,
  ⟨fun a σ => i_geq Tryz.prog 3 (.tmp 7) (.const (.int .i64 0)) (a.get 7) (.int .i64 0) σ, (some 8), fun _ => some true⟩]
noncomputable def r132_1 : List COp := r132_1U ()
noncomputable def r132_3U (_ : Unit) : List COp := [⟨fun a σ => .val (a.get 0) σ, (some 11), fun _ => some true⟩,
  ⟨fun a σ => .val (a.get 3) σ, (some 12), fun _ => some true⟩,
  ⟨fun a σ => fload none (a.get 1) σ, (some 13), fun _ => some true⟩,
  ⟨fun a σ => .val (a.get 3) σ, (some 14), fun _ => some true⟩,
  ⟨fun a σ => findex (none, 4) (a.get 13) (a.get 14) σ, (some 15), fun _ => some true⟩,
  ⟨fun a σ => fload (some 4) (a.get 15) σ, (some 16), fun _ => some true⟩,
  ⟨fun a σ => fcallV (a.get 11) [(a.get 12), (a.get 16)] σ, (some 17), fun _ => some true⟩,
  ⟨fun a σ => fun1 Tryz.prog (Op.unary .not) (a.get 17) σ, (some 18), fun _ => some true⟩]
noncomputable def r132_3 : List COp := r132_3U ()
noncomputable def r132_2U (_ : Unit) : List COp := [⟨fun a σ => .val (a.get 3) σ, (some 9), fun _ => some true⟩,
  ⟨fun a σ => i_sub Tryz.prog 3 (.tmp 9) (.const (.int .i64 1)) (a.get 9) (.int .i64 1) σ, (some 10), fun _ => some true⟩,
  ⟨fun a σ => .val (a.get 10) σ, (some 3), fun _ => some true⟩]
noncomputable def r132_2 : List COp := r132_2U ()
noncomputable def l132_0 (E : Env) (ro : Option Nat) (fn : FuncId) : RunF := (seqR (seqR (fops E ro r132_1) (condR (fun a => (a.get 8)) skipR (exitR 0))) (seqR (blockR 1 (seqR (fops E ro r132_3) (condR (fun a => (a.get 18)) retR skipR))) (fops E ro r132_2)))
noncomputable def run132 (E : Env) (ro : Option Nat) (fn : FuncId) : RunF := (seqR (fops E ro r132_0) (blockR 0 (loopR (keepOf nls fn) (l132_0 E ro fn))))
theorem r132_0_go : fops E ro r132_0 a u σ = fops E ro (r132_0U ()) a u σ := rfl
theorem r132_1_go : fops E ro r132_1 a u σ = fops E ro (r132_1U ()) a u σ := rfl
theorem r132_3_go : fops E ro r132_3 a u σ = fops E ro (r132_3U ()) a u σ := rfl
theorem r132_2_go : fops E ro r132_2 a u σ = fops E ro (r132_2U ()) a u σ := rfl
theorem code132 (E : Env) (ro : Option Nat) (fn : FuncId) : code Tryz.prog nls (Tryz.f132.body.getD .skip) E ro fn = run132 E ro fn := by kernel_rfl
theorem enter132 (E : Env) (args : List Value) (u : Option FrameMode) (σ : FState) (hn : args.length ≤ (4 : Nat)) : fcall Tryz.prog nls E 132 args u σ = leaveR Tryz.prog E [] (run132 E none 132 ⟨padTo undef 4 args, fun _ => undef, 4, 19, []⟩ u σ) := by
  rw [fcall_of (body := Tryz.f132.body.getD .skip) Tryz.func132 rfl E args u σ 4 19 (by kernel_rfl) rfl ⟨hn, by decide⟩, code132]
  rfl
/-! slices.Reverse[[]caracole/api.Datum,caracole/api.Datum] -/
noncomputable def r71_0U (_ : Unit) : List COp := [⟨fun a σ => .val (a.get 0) σ, (some 4), fun _ => some true⟩,
  ⟨fun a σ => flenL (a.get 4) σ, (some 5), fun _ => some true⟩,
  ⟨fun a σ => i_sub Tryz.prog 3 (.tmp 5) (.const (.int .i64 1)) (a.get 5) (.int .i64 1) σ, (some 6), fun _ => some true⟩,
  ⟨fun a σ => .val (.int .i64 0) σ, (some 2), fun _ => some true⟩,
  ⟨fun a σ => .val (a.get 6) σ, (some 3), fun _ => some true⟩]
noncomputable def r71_0 : List COp := r71_0U ()
noncomputable def r71_1U (_ : Unit) : List COp := [⟨fun a σ => .val (a.get 2) σ, (some 7), fun _ => some true⟩,
  ⟨fun a σ => .val (a.get 3) σ, (some 8), fun _ => some true⟩,
  ⟨fun a σ => i_lss Tryz.prog 3 (.tmp 7) (.tmp 8) (a.get 7) (a.get 8) σ, (some 9), fun _ => some true⟩]
noncomputable def r71_1 : List COp := r71_1U ()
noncomputable def r71_3U (_ : Unit) : List DOp := [⟨fun a σ => .val (a.get 0) σ, (some 14), fun _ => some true, (some 0), false⟩,
  ⟨fun a σ => .val (a.get 2) σ, (some 15), fun _ => some true, (some 0), false⟩,
  ⟨fun a σ => .val (a.get 0) σ, (some 18), fun _ => some true, (some 0), false⟩,
  ⟨fun a σ => .val (a.get 3) σ, (some 19), fun _ => some true, (some 0), false⟩,
  ⟨fun a σ => findex (none, 4) (a.get 18) (a.get 19) σ, (some 20), fun _ => some true, (some 0), false⟩,
  ⟨fun a σ => fload (some 4) (a.get 20) σ, (some 21), fun _ => some true, (some 0), false⟩,
  ⟨fun a σ => .val (a.get 0) σ, (some 22), fun _ => some true, (some 0), false⟩,
  ⟨fun a σ => .val (a.get 2) σ, (some 23), fun _ => some true, (some 0), false⟩,
  ⟨fun a σ => findex (none, 4) (a.get 22) (a.get 23) σ, (some 24), fun _ => some true, (some 0), false⟩,
  ⟨fun a σ => fload (some 4) (a.get 24) σ, (some 25), fun _ => some true, (some 0), false⟩,
  ⟨fun a σ => findex (none, 4) (a.get 14) (a.get 15) σ, (some 26), fun _ => some true, (some 0), false⟩,
  ⟨fun a σ => fstore 4 (a.get 26) (a.get 21) σ, none, fun _ => some true, none, false⟩,
  ⟨fun a σ => .val (a.get 0) σ, (some 16), fun _ => some true, (some 0), false⟩,
  ⟨fun a σ => .val (a.get 3) σ, (some 17), fun _ => some true, (some 0), false⟩,
  ⟨fun a σ => findex (none, 4) (a.get 16) (a.get 17) σ, (some 27), fun _ => some true, (some 1), false⟩,
  ⟨fun a σ => fstore 4 (a.get 27) (a.get 25) σ, none, fun _ => some true, none, true⟩]
noncomputable def r71_3 : List DOp := r71_3U ()
noncomputable def r71_2U (_ : Unit) : List COp := [⟨fun a σ => .val (a.get 2) σ, (some 10), fun _ => some true⟩,
  ⟨fun a σ => i_add Tryz.prog 3 (.tmp 10) (.const (.int .i64 1)) (a.get 10) (.int .i64 1) σ, (some 11), fun _ => some true⟩,
  ⟨fun a σ => .val (a.get 3) σ, (some 12), fun _ => some true⟩,
  ⟨fun a σ => i_sub Tryz.prog 3 (.tmp 12) (.const (.int .i64 1)) (a.get 12) (.int .i64 1) σ, (some 13), fun _ => some true⟩,
  ⟨fun a σ => .val (a.get 11) σ, (some 2), fun _ => some true⟩,
  ⟨fun a σ => .val (a.get 13) σ, (some 3), fun _ => some true⟩]
noncomputable def r71_2 : List COp := r71_2U ()
noncomputable def l71_0 (E : Env) (ro : Option Nat) (fn : FuncId) : RunF := (seqR (seqR (fops E ro r71_1) (condR (fun a => (a.get 9)) skipR (exitR 0))) (seqR (blockR 1 (drawR E ro r71_3)) (fops E ro r71_2)))
noncomputable def run71 (E : Env) (ro : Option Nat) (fn : FuncId) : RunF := (seqR (fops E ro r71_0) (blockR 0 (loopR (keepOf nls fn) (l71_0 E ro fn))))
theorem r71_0_go : fops E ro r71_0 a u σ = fops E ro (r71_0U ()) a u σ := rfl
theorem r71_1_go : fops E ro r71_1 a u σ = fops E ro (r71_1U ()) a u σ := rfl
theorem r71_3_go : fdraw E ro last r71_3 cl a u σ = fdraw E ro last (r71_3U ()) cl a u σ := rfl
theorem r71_2_go : fops E ro r71_2 a u σ = fops E ro (r71_2U ()) a u σ := rfl
theorem code71 (E : Env) (ro : Option Nat) (fn : FuncId) : code Tryz.prog nls (Tryz.f71.body.getD .skip) E ro fn = run71 E ro fn := by kernel_rfl
theorem enter71 (E : Env) (args : List Value) (u : Option FrameMode) (σ : FState) (hn : args.length ≤ (4 : Nat)) : fcall Tryz.prog nls E 71 args u σ = leaveR Tryz.prog E [] (run71 E none 71 ⟨padTo undef 4 args, fun _ => undef, 4, 28, []⟩ u σ) := by
  rw [fcall_of (body := Tryz.f71.body.getD .skip) Tryz.func71 rfl E args u σ 4 28 (by kernel_rfl) rfl ⟨hn, by decide⟩, code71]
  rfl
/-! caracole/datum.FromList -/
noncomputable def r14_0U (_ : Unit) : List COp := [⟨fun a σ => fbox 25 (a.get 0) σ, (some 1), fun _ => some true⟩,
  ⟨fun a σ => newCells [(.int .i64 0), (.int .i64 0), (.string ⟨#[]⟩), (.slice none 0 0)] 28 none σ, (some 2), fun _ => some true⟩,
  ⟨fun a σ => .val (.int .i64 0) σ, (some 3), fun _ => some true⟩]
noncomputable def r14_0 : List COp := r14_0U ()
noncomputable def r14_1U (_ : Unit) : List COp := [⟨fun a σ => .val (.func (.func 59) #[] #[(a.get 1)]) σ, (some 4), fun _ => some true⟩,
  ⟨fun a σ => .enter 58 [(a.get 4)] σ, (some 5), fun _ => some true⟩,
  ⟨fun a σ => fextract 0 (a.get 5) σ, (some 6), fun _ => some true⟩,
  ⟨fun a σ => fextract 1 (a.get 5) σ, (some 7), fun _ => some true⟩,
  ⟨fun a σ => fstore 4 (a.get 2) (a.get 6) σ, none, fun _ => some true⟩,
  ⟨fun a σ => .val (a.get 7) σ, (some 3), fun _ => some true⟩]
noncomputable def r14_1 : List COp := r14_1U ()
noncomputable def run14 (E : Env) (ro : Option Nat) (fn : FuncId) : RunF := (seqR (fops E ro r14_0) (seqR (fops E ro r14_1) retR))
theorem r14_0_go : fops E ro r14_0 a u σ = fops E ro (r14_0U ()) a u σ := rfl
theorem r14_1_go : fops E ro r14_1 a u σ = fops E ro (r14_1U ()) a u σ := rfl
theorem code14 (E : Env) (ro : Option Nat) (fn : FuncId) : code Tryz.prog nls (Tryz.f14.body.getD .skip) E ro fn = run14 E ro fn := by kernel_rfl
theorem enter14 (E : Env) (args : List Value) (u : Option FrameMode) (σ : FState) (hn : args.length ≤ (2 : Nat)) : fcall Tryz.prog nls E 14 args u σ = leaveR Tryz.prog E [.cell 2 28, .tmp 3] (run14 E none 14 ⟨padTo undef 2 args, fun _ => undef, 2, 8, []⟩ u σ) := by
  rw [fcall_of (body := Tryz.f14.body.getD .skip) Tryz.func14 rfl E args u σ 2 8 (by kernel_rfl) rfl ⟨hn, by decide⟩, code14]
  rfl
/-! caracole/datum.FromList$1 -/
noncomputable def r59_0U (_ : Unit) : List COp := [⟨fun a σ => newCells [(.int .i64 0), (.int .i64 0), (.string ⟨#[]⟩), (.slice none 0 0)] 28 none σ, (some 1), fun _ => some true⟩]
noncomputable def r59_0 : List COp := r59_0U ()
noncomputable def r59_1U (_ : Unit) : List COp := [⟨fun a σ => .val (.int .i64 1) σ, (some 2), fun _ => some true⟩]
noncomputable def r59_1 : List COp := r59_1U ()
noncomputable def r59_2U (_ : Unit) : List COp := [⟨fun a σ => fload none (a.get 0) σ, (some 5), fun _ => some true⟩,
  ⟨fun a σ => flenL (a.get 5) σ, (some 6), fun _ => some true⟩,
  ⟨fun a σ => .val (.int .i64 0) σ, (some 7), fun _ => some true⟩]
noncomputable def r59_2 : List COp := r59_2U ()
noncomputable def r59_3U (_ : Unit) : List COp := [⟨fun a σ => i_lss Tryz.prog 3 (.tmp 7) (.tmp 6) (a.get 7) (a.get 6) σ, (some 8), fun _ => some true⟩]
noncomputable def r59_3 : List COp := r59_3U ()
noncomputable def r59_4U (_ : Unit) : List COp := [⟨fun a σ => findex (none, 4) (a.get 5) (a.get 7) σ, (some 9), fun _ => some true⟩,
  ⟨fun a σ => fload (some 4) (a.get 9) σ, (some 10), fun _ => some true⟩,
  ⟨fun a σ => newCells [(.int .i64 0), (.int .i64 0), (.string ⟨#[]⟩), (.slice none 0 0)] 28 none σ, (some 4), fun _ => some true⟩,
  ⟨fun a σ => fstore 4 (a.get 4) (a.get 10) σ, none, fun _ => some true⟩]
noncomputable def r59_4 : List COp := r59_4U ()
noncomputable def r59_5U (_ : Unit) : List COp := [⟨fun a σ => .val (a.get 2) σ, (some 11), fun _ => some true⟩,
  ⟨fun a σ => fload (some 4) (a.get 4) σ, (some 12), fun _ => some true⟩,
  ⟨fun a σ => .enter 60 [(a.get 12)] σ, (some 13), fun _ => some true⟩,
  ⟨fun a σ => i_add Tryz.prog 3 (.const (.int .i64 1)) (.tmp 13) (.int .i64 1) (a.get 13) σ, (some 14), fun _ => some true⟩,
  ⟨fun a σ => i_add Tryz.prog 3 (.tmp 11) (.tmp 14) (a.get 11) (a.get 14) σ, (some 15), fun _ => some true⟩,
  ⟨fun a σ => .val (a.get 15) σ, (some 2), fun _ => some true⟩]
noncomputable def r59_5 : List COp := r59_5U ()
noncomputable def r59_6U (_ : Unit) : List COp := [⟨fun a σ => i_add Tryz.prog 3 (.tmp 7) (.const (.int .i64 1)) (a.get 7) (.int .i64 1) σ, (some 16), fun _ => some true⟩,
  ⟨fun a σ => .val (a.get 16) σ, (some 7), fun _ => some true⟩]
noncomputable def r59_6 : List COp := r59_6U ()
noncomputable def l59_0 (E : Env) (ro : Option Nat) (fn : FuncId) : RunF := (seqR (fops E ro r59_3) (seqR (condR (fun a => (a.get 8)) skipR (exitR 0)) (seqR (blockR 1 (seqR (fops E ro r59_4) (fops E ro r59_5))) (fops E ro r59_6))))
noncomputable def r59_7U (_ : Unit) : List COp := [⟨fun a σ => .val (a.get 2) σ, (some 17), fun _ => some true⟩,
  ⟨fun a σ => .enter 61 [(a.get 17)] σ, (some 18), fun _ => some true⟩]
noncomputable def r59_7 : List COp := r59_7U ()
noncomputable def r59_8U (_ : Unit) : List COp := [⟨fun a σ => fbuild (fun i => nth [(0, 1), (1, 1), (2, 1), (3, 1)] i) [(.int .i64 0), (.int .i64 0), (.string ⟨#[]⟩), (.slice none 0 0)] [] σ, (some 19), fun _ => some true⟩,
  ⟨fun a σ => fload none (a.get 0) σ, (some 20), fun _ => some true⟩,
  ⟨fun a σ => .enter 63 [(a.get 20)] σ, (some 21), fun _ => some true⟩,
  ⟨fun a σ => .enter 62 [(a.get 19), (a.get 21)] σ, (some 22), fun _ => some true⟩,
  ⟨fun a σ => fstore 4 (a.get 1) (a.get 22) σ, none, fun _ => some true⟩]
noncomputable def r59_8 : List COp := r59_8U ()
noncomputable def run59 (E : Env) (ro : Option Nat) (fn : FuncId) : RunF := (seqR (fops E ro r59_0) (seqR (fops E ro r59_1) (seqR (seqR (fops E ro r59_2) (blockR 0 (loopR (keepOf nls fn) (l59_0 E ro fn)))) (seqR (fops E ro r59_7) (seqR (fops E ro r59_8) retR)))))
theorem r59_0_go : fops E ro r59_0 a u σ = fops E ro (r59_0U ()) a u σ := rfl
theorem r59_1_go : fops E ro r59_1 a u σ = fops E ro (r59_1U ()) a u σ := rfl
theorem r59_2_go : fops E ro r59_2 a u σ = fops E ro (r59_2U ()) a u σ := rfl
theorem r59_3_go : fops E ro r59_3 a u σ = fops E ro (r59_3U ()) a u σ := rfl
theorem r59_4_go : fops E ro r59_4 a u σ = fops E ro (r59_4U ()) a u σ := rfl
theorem r59_5_go : fops E ro r59_5 a u σ = fops E ro (r59_5U ()) a u σ := rfl
theorem r59_6_go : fops E ro r59_6 a u σ = fops E ro (r59_6U ()) a u σ := rfl
theorem r59_7_go : fops E ro r59_7 a u σ = fops E ro (r59_7U ()) a u σ := rfl
theorem r59_8_go : fops E ro r59_8 a u σ = fops E ro (r59_8U ()) a u σ := rfl
theorem code59 (E : Env) (ro : Option Nat) (fn : FuncId) : code Tryz.prog nls (Tryz.f59.body.getD .skip) E ro fn = run59 E ro fn := by kernel_rfl
theorem enter59 (E : Env) (args : List Value) (u : Option FrameMode) (σ : FState) (hn : args.length ≤ (5 : Nat)) : fcall Tryz.prog nls E 59 args u σ = leaveR Tryz.prog E [.cell 1 28] (run59 E none 59 ⟨padTo undef 5 args, fun _ => undef, 5, 23, []⟩ u σ) := by
  rw [fcall_of (body := Tryz.f59.body.getD .skip) Tryz.func59 rfl E args u σ 5 23 (by kernel_rfl) rfl ⟨hn, by decide⟩, code59]
  rfl
/-! caracole/datum.ToList -/
noncomputable def r16_0U (_ : Unit) : List COp := [⟨fun a σ => fbox 28 (a.get 0) σ, (some 1), fun _ => some true⟩,
  ⟨fun a σ => .val (.slice none 0 0) σ, (some 2), fun _ => some true⟩,
  ⟨fun a σ => .val (.int .i64 0) σ, (some 3), fun _ => some true⟩]
noncomputable def r16_0 : List COp := r16_0U ()
noncomputable def r16_1U (_ : Unit) : List COp := [⟨fun a σ => .val (.func (.func 66) #[] #[(a.get 1)]) σ, (some 4), fun _ => some true⟩,
  ⟨fun a σ => .enter 65 [(a.get 4)] σ, (some 5), fun _ => some true⟩,
  ⟨fun a σ => fextract 0 (a.get 5) σ, (some 6), fun _ => some true⟩,
  ⟨fun a σ => fextract 1 (a.get 5) σ, (some 7), fun _ => some true⟩,
  ⟨fun a σ => .val (a.get 6) σ, (some 2), fun _ => some true⟩,
  ⟨fun a σ => .val (a.get 7) σ, (some 3), fun _ => some true⟩]
noncomputable def r16_1 : List COp := r16_1U ()
noncomputable def run16 (E : Env) (ro : Option Nat) (fn : FuncId) : RunF := (seqR (fops E ro r16_0) (seqR (fops E ro r16_1) retR))
theorem r16_0_go : fops E ro r16_0 a u σ = fops E ro (r16_0U ()) a u σ := rfl
theorem r16_1_go : fops E ro r16_1 a u σ = fops E ro (r16_1U ()) a u σ := rfl
theorem code16 (E : Env) (ro : Option Nat) (fn : FuncId) : code Tryz.prog nls (Tryz.f16.body.getD .skip) E ro fn = run16 E ro fn := by kernel_rfl
theorem enter16 (E : Env) (args : List Value) (u : Option FrameMode) (σ : FState) (hn : args.length ≤ (2 : Nat)) : fcall Tryz.prog nls E 16 args u σ = leaveR Tryz.prog E [.tmp 2, .tmp 3] (run16 E none 16 ⟨padTo undef 2 args, fun _ => undef, 2, 8, []⟩ u σ) := by
  rw [fcall_of (body := Tryz.f16.body.getD .skip) Tryz.func16 rfl E args u σ 2 8 (by kernel_rfl) rfl ⟨hn, by decide⟩, code16]
  rfl
/-! caracole/datum.ToList$1 -/
noncomputable def r66_0U (_ : Unit) : List COp := [⟨fun a σ => .val (.slice none 0 0) σ, (some 1), fun _ => some true⟩]
noncomputable def r66_0 : List COp := r66_0U ()
noncomputable def r66_1U (_ : Unit) : List COp := [⟨fun a σ => fload (some 4) (a.get 0) σ, (some 2), fun _ => some true⟩,
  ⟨fun a σ => .enter 60 [(a.get 2)] σ, (some 3), fun _ => some true⟩]
noncomputable def r66_1 : List COp := r66_1U ()
noncomputable def r66_2U (_ : Unit) : List COp := [⟨fun a σ => fload (some 4) (a.get 0) σ, (some 4), fun _ => some true⟩,
  ⟨fun a σ => .enter 67 [(a.get 4)] σ, (some 5), fun _ => some true⟩,
  ⟨fun a σ => .enter 63 [(a.get 5)] σ, (some 6), fun _ => some true⟩,
  ⟨fun a σ => .val (a.get 6) σ, (some 1), fun _ => some true⟩]
noncomputable def r66_2 : List COp := r66_2U ()
noncomputable def run66 (E : Env) (ro : Option Nat) (fn : FuncId) : RunF := (seqR (fops E ro r66_0) (seqR (fops E ro r66_1) (seqR (fops E ro r66_2) retR)))
theorem r66_0_go : fops E ro r66_0 a u σ = fops E ro (r66_0U ()) a u σ := rfl
theorem r66_1_go : fops E ro r66_1 a u σ = fops E ro (r66_1U ()) a u σ := rfl
theorem r66_2_go : fops E ro r66_2 a u σ = fops E ro (r66_2U ()) a u σ := rfl
theorem code66 (E : Env) (ro : Option Nat) (fn : FuncId) : code Tryz.prog nls (Tryz.f66.body.getD .skip) E ro fn = run66 E ro fn := by kernel_rfl
theorem enter66 (E : Env) (args : List Value) (u : Option FrameMode) (σ : FState) (hn : args.length ≤ (1 : Nat)) : fcall Tryz.prog nls E 66 args u σ = leaveR Tryz.prog E [.tmp 1] (run66 E none 66 ⟨padTo undef 1 args, fun _ => undef, 1, 7, []⟩ u σ) := by
  rw [fcall_of (body := Tryz.f66.body.getD .skip) Tryz.func66 rfl E args u σ 1 7 (by kernel_rfl) rfl ⟨hn, by decide⟩, code66]
  rfl
/-! caracole/datum.Append -/
noncomputable def r18_0U (_ : Unit) : List COp := [⟨fun a σ => fbox 28 (a.get 0) σ, (some 2), fun _ => some true⟩,
  ⟨fun a σ => fbox 28 (a.get 1) σ, (some 3), fun _ => some true⟩,
  ⟨fun a σ => newCells [(.int .i64 0), (.int .i64 0), (.string ⟨#[]⟩), (.slice none 0 0)] 28 none σ, (some 4), fun _ => some true⟩,
  ⟨fun a σ => .val (.int .i64 0) σ, (some 5), fun _ => some true⟩]
noncomputable def r18_0 : List COp := r18_0U ()
noncomputable def r18_1U (_ : Unit) : List COp := [⟨fun a σ => .val (.func (.func 68) #[] #[(a.get 2), (a.get 3)]) σ, (some 6), fun _ => some true⟩,
  ⟨fun a σ => .enter 58 [(a.get 6)] σ, (some 7), fun _ => some true⟩,
  ⟨fun a σ => fextract 0 (a.get 7) σ, (some 8), fun _ => some true⟩,
  ⟨fun a σ => fextract 1 (a.get 7) σ, (some 9), fun _ => some true⟩,
  ⟨fun a σ => fstore 4 (a.get 4) (a.get 8) σ, none, fun _ => some true⟩,
  ⟨fun a σ => .val (a.get 9) σ, (some 5), fun _ => some true⟩]
noncomputable def r18_1 : List COp := r18_1U ()
noncomputable def run18 (E : Env) (ro : Option Nat) (fn : FuncId) : RunF := (seqR (fops E ro r18_0) (seqR (fops E ro r18_1) retR))
theorem r18_0_go : fops E ro r18_0 a u σ = fops E ro (r18_0U ()) a u σ := rfl
theorem r18_1_go : fops E ro r18_1 a u σ = fops E ro (r18_1U ()) a u σ := rfl
theorem code18 (E : Env) (ro : Option Nat) (fn : FuncId) : code Tryz.prog nls (Tryz.f18.body.getD .skip) E ro fn = run18 E ro fn := by kernel_rfl
theorem enter18 (E : Env) (args : List Value) (u : Option FrameMode) (σ : FState) (hn : args.length ≤ (4 : Nat)) : fcall Tryz.prog nls E 18 args u σ = leaveR Tryz.prog E [.cell 4 28, .tmp 5] (run18 E none 18 ⟨padTo undef 4 args, fun _ => undef, 4, 10, []⟩ u σ) := by
  rw [fcall_of (body := Tryz.f18.body.getD .skip) Tryz.func18 rfl E args u σ 4 10 (by kernel_rfl) rfl ⟨hn, by decide⟩, code18]
  rfl
/-! caracole/datum.Append$1 -/
noncomputable def r68_0U (_ : Unit) : List COp := [⟨fun a σ => newCells [(.int .i64 0), (.int .i64 0), (.string ⟨#[]⟩), (.slice none 0 0)] 28 none σ, (some 2), fun _ => some true⟩]
noncomputable def r68_0 : List COp := r68_0U ()
noncomputable def r68_1U (_ : Unit) : List COp := [⟨fun a σ => fload (some 4) (a.get 0) σ, (some 6), fun _ => some true⟩,
  ⟨fun a σ => .enter 60 [(a.get 6)] σ, (some 7), fun _ => some true⟩,
  ⟨fun a σ => .val (a.get 7) σ, (some 3), fun _ => some true⟩]
noncomputable def r68_1 : List COp := r68_1U ()
noncomputable def r68_2U (_ : Unit) : List COp := [⟨fun a σ => fload (some 4) (a.get 1) σ, (some 8), fun _ => some true⟩,
  ⟨fun a σ => .enter 60 [(a.get 8)] σ, (some 9), fun _ => some true⟩,
  ⟨fun a σ => .val (a.get 9) σ, (some 4), fun _ => some true⟩]
noncomputable def r68_2 : List COp := r68_2U ()
noncomputable def r68_3U (_ : Unit) : List COp := [⟨fun a σ => fload (some 4) (a.get 0) σ, (some 10), fun _ => some true⟩,
  ⟨fun a σ => .enter 67 [(a.get 10)] σ, (some 11), fun _ => some true⟩,
  ⟨fun a σ => .val (a.get 11) σ, (some 5), fun _ => some true⟩]
noncomputable def r68_3 : List COp := r68_3U ()
noncomputable def r68_4U (_ : Unit) : List COp := [⟨fun a σ => .val (a.get 3) σ, (some 12), fun _ => some true⟩,
  ⟨fun a σ => i_sub Tryz.prog 3 (.tmp 12) (.const (.int .i64 1)) (a.get 12) (.int .i64 1) σ, (some 13), fun _ => some true⟩,
  ⟨fun a σ => .val (a.get 4) σ, (some 14), fun _ => some true⟩,
  ⟨fun a σ => i_add Tryz.prog 3 (.tmp 13) (.tmp 14) (a.get 13) (a.get 14) σ, (some 15), fun _ => some true⟩,
  ⟨fun a σ => .enter 61 [(a.get 15)] σ, (some 16), fun _ => some true⟩]
noncomputable def r68_4 : List COp := r68_4U ()
noncomputable def r68_5U (_ : Unit) : List COp := [⟨fun a σ => fload (some 4) (a.get 1) σ, (some 17), fun _ => some true⟩,
  ⟨fun a σ => .enter 69 [(a.get 17)] σ, (some 18), fun _ => some true⟩,
  ⟨fun a σ => .val (a.get 5) σ, (some 19), fun _ => some true⟩,
  ⟨fun a σ => .enter 63 [(a.get 19)] σ, (some 20), fun _ => some true⟩,
  ⟨fun a σ => .enter 62 [(a.get 18), (a.get 20)] σ, (some 21), fun _ => some true⟩,
  ⟨fun a σ => fstore 4 (a.get 2) (a.get 21) σ, none, fun _ => some true⟩]
noncomputable def r68_5 : List COp := r68_5U ()
noncomputable def run68 (E : Env) (ro : Option Nat) (fn : FuncId) : RunF := (seqR (fops E ro r68_0) (seqR (fops E ro r68_1) (seqR (fops E ro r68_2) (seqR (fops E ro r68_3) (seqR (fops E ro r68_4) (seqR (fops E ro r68_5) retR))))))
theorem r68_0_go : fops E ro r68_0 a u σ = fops E ro (r68_0U ()) a u σ := rfl
theorem r68_1_go : fops E ro r68_1 a u σ = fops E ro (r68_1U ()) a u σ := rfl
theorem r68_2_go : fops E ro r68_2 a u σ = fops E ro (r68_2U ()) a u σ := rfl
theorem r68_3_go : fops E ro r68_3 a u σ = fops E ro (r68_3U ()) a u σ := rfl
theorem r68_4_go : fops E ro r68_4 a u σ = fops E ro (r68_4U ()) a u σ := rfl
theorem r68_5_go : fops E ro r68_5 a u σ = fops E ro (r68_5U ()) a u σ := rfl
theorem code68 (E : Env) (ro : Option Nat) (fn : FuncId) : code Tryz.prog nls (Tryz.f68.body.getD .skip) E ro fn = run68 E ro fn := by kernel_rfl
theorem enter68 (E : Env) (args : List Value) (u : Option FrameMode) (σ : FState) (hn : args.length ≤ (6 : Nat)) : fcall Tryz.prog nls E 68 args u σ = leaveR Tryz.prog E [.cell 2 28] (run68 E none 68 ⟨padTo undef 6 args, fun _ => undef, 6, 22, []⟩ u σ) := by
  rw [fcall_of (body := Tryz.f68.body.getD .skip) Tryz.func68 rfl E args u σ 6 22 (by kernel_rfl) rfl ⟨hn, by decide⟩, code68]
  rfl
/-! caracole/datum.Turn -/
noncomputable def r19_0U (_ : Unit) : List COp := [⟨fun a σ => fbox 28 (a.get 0) σ, (some 1), fun _ => some true⟩,
  ⟨fun a σ => newCells [(.int .i64 0), (.int .i64 0), (.string ⟨#[]⟩), (.slice none 0 0)] 28 none σ, (some 2), fun _ => some true⟩,
  ⟨fun a σ => .val (.int .i64 0) σ, (some 3), fun _ => some true⟩]
noncomputable def r19_0 : List COp := r19_0U ()
noncomputable def r19_1U (_ : Unit) : List COp := [⟨fun a σ => .val (.func (.func 70) #[] #[(a.get 1)]) σ, (some 4), fun _ => some true⟩,
  ⟨fun a σ => .enter 58 [(a.get 4)] σ, (some 5), fun _ => some true⟩,
  ⟨fun a σ => fextract 0 (a.get 5) σ, (some 6), fun _ => some true⟩,
  ⟨fun a σ => fextract 1 (a.get 5) σ, (some 7), fun _ => some true⟩,
  ⟨fun a σ => fstore 4 (a.get 2) (a.get 6) σ, none, fun _ => some true⟩,
  ⟨fun a σ => .val (a.get 7) σ, (some 3), fun _ => some true⟩]
noncomputable def r19_1 : List COp := r19_1U ()
noncomputable def run19 (E : Env) (ro : Option Nat) (fn : FuncId) : RunF := (seqR (fops E ro r19_0) (seqR (fops E ro r19_1) retR))
theorem r19_0_go : fops E ro r19_0 a u σ = fops E ro (r19_0U ()) a u σ := rfl
theorem r19_1_go : fops E ro r19_1 a u σ = fops E ro (r19_1U ()) a u σ := rfl
theorem code19 (E : Env) (ro : Option Nat) (fn : FuncId) : code Tryz.prog nls (Tryz.f19.body.getD .skip) E ro fn = run19 E ro fn := by kernel_rfl
theorem enter19 (E : Env) (args : List Value) (u : Option FrameMode) (σ : FState) (hn : args.length ≤ (2 : Nat)) : fcall Tryz.prog nls E 19 args u σ = leaveR Tryz.prog E [.cell 2 28, .tmp 3] (run19 E none 19 ⟨padTo undef 2 args, fun _ => undef, 2, 8, []⟩ u σ) := by
  rw [fcall_of (body := Tryz.f19.body.getD .skip) Tryz.func19 rfl E args u σ 2 8 (by kernel_rfl) rfl ⟨hn, by decide⟩, code19]
  rfl
/-! caracole/datum.Turn$1 -/
noncomputable def r70_0U (_ : Unit) : List COp := [⟨fun a σ => newCells [(.int .i64 0), (.int .i64 0), (.string ⟨#[]⟩), (.slice none 0 0)] 28 none σ, (some 1), fun _ => some true⟩]
noncomputable def r70_0 : List COp := r70_0U ()
noncomputable def r70_1U (_ : Unit) : List COp := [⟨fun a σ => fload (some 4) (a.get 0) σ, (some 3), fun _ => some true⟩,
  ⟨fun a σ => .enter 60 [(a.get 3)] σ, (some 4), fun _ => some true⟩]
noncomputable def r70_1 : List COp := r70_1U ()
noncomputable def r70_2U (_ : Unit) : List COp := [⟨fun a σ => fload (some 4) (a.get 0) σ, (some 5), fun _ => some true⟩,
  ⟨fun a σ => .enter 67 [(a.get 5)] σ, (some 6), fun _ => some true⟩,
  ⟨fun a σ => .val (a.get 6) σ, (some 2), fun _ => some true⟩]
noncomputable def r70_2 : List COp := r70_2U ()
noncomputable def r70_3U (_ : Unit) : List COp := [⟨fun a σ => .val (a.get 2) σ, (some 7), fun _ => some true⟩,
  ⟨fun a σ => .enter 71 [(a.get 7)] σ, (some 8), fun _ => some true⟩]
noncomputable def r70_3 : List COp := r70_3U ()
noncomputable def r70_4U (_ : Unit) : List COp := [⟨fun a σ => fbuild (fun i => nth [(0, 1), (1, 1), (2, 1), (3, 1)] i) [(.int .i64 0), (.int .i64 0), (.string ⟨#[]⟩), (.slice none 0 0)] [] σ, (some 9), fun _ => some true⟩,
  ⟨fun a σ => .val (a.get 2) σ, (some 10), fun _ => some true⟩,
  ⟨fun a σ => .enter 63 [(a.get 10)] σ, (some 11), fun _ => some true⟩,
  ⟨fun a σ => .enter 62 [(a.get 9), (a.get 11)] σ, (some 12), fun _ => some true⟩,
  ⟨fun a σ => fstore 4 (a.get 1) (a.get 12) σ, none, fun _ => some true⟩]
noncomputable def r70_4 : List COp := r70_4U ()
noncomputable def run70 (E : Env) (ro : Option Nat) (fn : FuncId) : RunF := (seqR (fops E ro r70_0) (seqR (fops E ro r70_1) (seqR (fops E ro r70_2) (seqR (fops E ro r70_3) (seqR (fops E ro r70_4) retR)))))
theorem r70_0_go : fops E ro r70_0 a u σ = fops E ro (r70_0U ()) a u σ := rfl
theorem r70_1_go : fops E ro r70_1 a u σ = fops E ro (r70_1U ()) a u σ := rfl
theorem r70_2_go : fops E ro r70_2 a u σ = fops E ro (r70_2U ()) a u σ := rfl
theorem r70_3_go : fops E ro r70_3 a u σ = fops E ro (r70_3U ()) a u σ := rfl
theorem r70_4_go : fops E ro r70_4 a u σ = fops E ro (r70_4U ()) a u σ := rfl
theorem code70 (E : Env) (ro : Option Nat) (fn : FuncId) : code Tryz.prog nls (Tryz.f70.body.getD .skip) E ro fn = run70 E ro fn := by kernel_rfl
theorem enter70 (E : Env) (args : List Value) (u : Option FrameMode) (σ : FState) (hn : args.length ≤ (3 : Nat)) : fcall Tryz.prog nls E 70 args u σ = leaveR Tryz.prog E [.cell 1 28] (run70 E none 70 ⟨padTo undef 3 args, fun _ => undef, 3, 13, []⟩ u σ) := by
  rw [fcall_of (body := Tryz.f70.body.getD .skip) Tryz.func70 rfl E args u σ 3 13 (by kernel_rfl) rfl ⟨hn, by decide⟩, code70]
  rfl
/-! caracole/guard.Call[[]caracole/api.Datum] -/
noncomputable def r65_0U (_ : Unit) : List COp := [⟨fun a σ => .val (.slice none 0 0) σ, (some 2), fun _ => some true⟩,
  ⟨fun a σ => .val (.int .i64 0) σ, (some 3), fun _ => some true⟩]
noncomputable def r65_0 : List COp := r65_0U ()
noncomputable def r65_1U (_ : Unit) : List COp := [⟨fun a σ => .val (a.get 0) σ, (some 8), fun _ => some true⟩,
  ⟨fun a σ => .enter 107 [(a.get 8)] σ, (some 9), fun _ => some true⟩,
  ⟨fun a σ => .val (a.get 9) σ, (some 7), fun _ => some true⟩,
  ⟨fun a σ => fextract 0 (a.get 7) σ, (some 10), fun _ => some true⟩,
  ⟨fun a σ => fextract 1 (a.get 7) σ, (some 11), fun _ => some true⟩,
  ⟨fun a σ => fextract 2 (a.get 7) σ, (some 12), fun _ => some true⟩,
  ⟨fun a σ => .val (a.get 10) σ, (some 4), fun _ => some true⟩,
  ⟨fun a σ => .val (a.get 11) σ, (some 5), fun _ => some true⟩,
  ⟨fun a σ => .val (a.get 12) σ, (some 6), fun _ => some true⟩]
noncomputable def r65_1 : List COp := r65_1U ()
noncomputable def r65_2U (_ : Unit) : List COp := [⟨fun a σ => .val (a.get 4) σ, (some 13), fun _ => some true⟩,
  ⟨fun a σ => .val (a.get 6) σ, (some 14), fun _ => some true⟩,
  ⟨fun a σ => .val (a.get 13) σ, (some 2), fun _ => some true⟩,
  ⟨fun a σ => .val (a.get 14) σ, (some 3), fun _ => some true⟩]
noncomputable def r65_2 : List COp := r65_2U ()
noncomputable def run65 (E : Env) (ro : Option Nat) (fn : FuncId) : RunF := (seqR (fops E ro r65_0) (seqR (fops E ro r65_1) (seqR (fops E ro r65_2) retR)))
theorem r65_0_go : fops E ro r65_0 a u σ = fops E ro (r65_0U ()) a u σ := rfl
theorem r65_1_go : fops E ro r65_1 a u σ = fops E ro (r65_1U ()) a u σ := rfl
theorem r65_2_go : fops E ro r65_2 a u σ = fops E ro (r65_2U ()) a u σ := rfl
theorem code65 (E : Env) (ro : Option Nat) (fn : FuncId) : code Tryz.prog nls (Tryz.f65.body.getD .skip) E ro fn = run65 E ro fn := by kernel_rfl
theorem enter65 (E : Env) (args : List Value) (u : Option FrameMode) (σ : FState) (hn : args.length ≤ (7 : Nat)) : fcall Tryz.prog nls E 65 args u σ = leaveR Tryz.prog E [.tmp 2, .tmp 3] (run65 E none 65 ⟨padTo undef 7 args, fun _ => undef, 7, 15, []⟩ u σ) := by
  rw [fcall_of (body := Tryz.f65.body.getD .skip) Tryz.func65 rfl E args u σ 7 15 (by kernel_rfl) rfl ⟨hn, by decide⟩, code65]
  rfl
/-! caracole/guard.CallAt[[]caracole/api.Datum] -/
noncomputable def r107_0U (_ : Unit) : List COp := [⟨fun a σ => .val (.slice none 0 0) σ, (some 2), fun _ => some true⟩,
  ⟨fun a σ => newCells [(.int .i64 0)] 3 none σ, (some 3), fun _ => some true⟩,
  ⟨fun a σ => newCells [(.int .i64 0)] 32 none σ, (some 4), fun _ => some true⟩]
noncomputable def r107_0 : List COp := r107_0U ()
noncomputable def r107_1U (_ : Unit) : List COp := [⟨fun a σ => .val (.func (.func 133) #[] #[(a.get 3), (a.get 4)]) σ, (some 5), fun _ => some true⟩,
  ⟨fun a σ => fdefer (a.get 5) [] σ, none, fun _ => some true⟩]
noncomputable def r107_1 : List COp := r107_1U ()
noncomputable def r107_2U (_ : Unit) : List COp := [⟨fun a σ => .val (a.get 0) σ, (some 6), fun _ => some true⟩,
  ⟨fun a σ => fcallV (a.get 6) [] σ, (some 7), fun _ => some true⟩,
  ⟨fun a σ => .val (a.get 7) σ, (some 2), fun _ => some true⟩,
  ⟨fun a σ => fstore 1 (a.get 3) (.int .i64 0) σ, none, fun _ => some true⟩,
  ⟨fun a σ => fstore 1 (a.get 4) (.int .i64 0) σ, none, fun _ => some true⟩]
noncomputable def r107_2 : List COp := r107_2U ()
noncomputable def run107 (E : Env) (ro : Option Nat) (fn : FuncId) : RunF := (seqR (fops E ro r107_0) (seqR (fops E ro r107_1) (seqR (fops E ro r107_2) retR)))
theorem r107_0_go : fops E ro r107_0 a u σ = fops E ro (r107_0U ()) a u σ := rfl
theorem r107_1_go : fops E ro r107_1 a u σ = fops E ro (r107_1U ()) a u σ := rfl
theorem r107_2_go : fops E ro r107_2 a u σ = fops E ro (r107_2U ()) a u σ := rfl
theorem code107 (E : Env) (ro : Option Nat) (fn : FuncId) : code Tryz.prog nls (Tryz.f107.body.getD .skip) E ro fn = run107 E ro fn := by kernel_rfl
theorem enter107 (E : Env) (args : List Value) (u : Option FrameMode) (σ : FState) (hn : args.length ≤ (5 : Nat)) : fcall Tryz.prog nls E 107 args u σ = leaveR Tryz.prog E [.tmp 2, .cell 3 3, .cell 4 32] (run107 E none 107 ⟨padTo undef 5 args, fun _ => undef, 5, 8, []⟩ u σ) := by
  rw [fcall_of (body := Tryz.f107.body.getD .skip) Tryz.func107 rfl E args u σ 5 8 (by kernel_rfl) rfl ⟨hn, by decide⟩, code107]
  rfl
/-! caracole/guard.CallAt[[]caracole/api.Datum]$1 -/
noncomputable def r133_0U (_ : Unit) : List COp := [⟨fun a σ => .recover σ, (some 6), fun _ => some true⟩]
noncomputable def r133_0 : List COp := r133_0U ()
noncomputable def r133_3U (_ : Unit) : List COp := [⟨fun a σ => i_eql Tryz.prog 20 (.tmp 6) (.const .nilIface) (a.get 6) .nilIface σ, (some 7), fun _ => some true⟩]
noncomputable def r133_3 : List COp := r133_3U ()
noncomputable def r133_4U (_ : Unit) : List COp := [⟨fun a σ => .val (a.get 6) σ, (some 2), fun _ => some true⟩]
noncomputable def r133_4 : List COp := r133_4U ()
noncomputable def r133_5U (_ : Unit) : List COp := [⟨fun a σ => fassert Tryz.prog (a.get 6) 164 true σ, (some 8), fun _ => some true⟩,
  ⟨fun a σ => fextract 1 (a.get 8) σ, (some 9), fun _ => some true⟩,
  ⟨fun a σ => fextract 0 (a.get 8) σ, (some 10), fun _ => some true⟩]
noncomputable def r133_5 : List COp := r133_5U ()
noncomputable def r133_6U (_ : Unit) : List COp := [⟨fun a σ => .val (a.get 10) σ, (some 3), fun _ => some true⟩]
noncomputable def r133_6 : List COp := r133_6U ()
noncomputable def r133_7U (_ : Unit) : List COp := [⟨fun a σ => .val (a.get 3) σ, (some 11), fun _ => some true⟩,
  ⟨fun a σ => .enter 126 [(a.get 11)] σ, (some 12), fun _ => some true⟩,
  ⟨fun a σ => newCells [(.int .i64 0), (.int .i64 0)] 166 none σ, (some 4), fun _ => some true⟩,
  ⟨fun a σ => fstore 2 (a.get 4) (a.get 12) σ, none, fun _ => some true⟩]
noncomputable def r133_7 : List COp := r133_7U ()
noncomputable def r133_8U (_ : Unit) : List DOp := [⟨fun a σ => ffield 1 (a.get 4) σ, (some 13), fun _ => some true, (some 0), false⟩,
  ⟨fun a σ => fload none (a.get 13) σ, (some 14), fun _ => some true, (some 0), false⟩,
  ⟨fun a σ => fstore 1 (a.get 0) (a.get 14) σ, none, fun _ => some true, none, false⟩,
  ⟨fun a σ => ffield 0 (a.get 4) σ, (some 15), fun _ => some true, (some 0), false⟩,
  ⟨fun a σ => fload none (a.get 15) σ, (some 16), fun _ => some true, (some 0), false⟩,
  ⟨fun a σ => fstore 1 (a.get 1) (a.get 16) σ, none, fun _ => some true, none, true⟩]
noncomputable def r133_8 : List DOp := r133_8U ()
noncomputable def r133_1U (_ : Unit) : List COp := [⟨fun a σ => .val (a.get 6) σ, (some 5), fun _ => some true⟩]
noncomputable def r133_1 : List COp := r133_1U ()
noncomputable def r133_2U (_ : Unit) : List COp := [⟨fun a σ => fstore 1 (a.get 1) (.int .i64 1) σ, none, fun _ => some true⟩]
noncomputable def r133_2 : List COp := r133_2U ()
noncomputable def run133 (E : Env) (ro : Option Nat) (fn : FuncId) : RunF := (seqR (fops E ro r133_0) (blockR 0 (seqR (fops E ro r133_3) (condR (fun a => (a.get 7)) (fops E ro r133_4) (seqR (fops E ro r133_5) (condR (fun a => (a.get 9)) (seqR (fops E ro r133_6) (seqR (fops E ro r133_7) (drawR E ro r133_8))) (seqR (fops E ro r133_1) (fops E ro r133_2))))))))
theorem r133_0_go : fops E ro r133_0 a u σ = fops E ro (r133_0U ()) a u σ := rfl
theorem r133_3_go : fops E ro r133_3 a u σ = fops E ro (r133_3U ()) a u σ := rfl
theorem r133_4_go : fops E ro r133_4 a u σ = fops E ro (r133_4U ()) a u σ := rfl
theorem code133 (E : Env) (ro : Option Nat) (fn : FuncId) : code Tryz.prog nls (Tryz.f133.body.getD .skip) E ro fn = run133 E ro fn := by kernel_rfl
theorem enter133 (E : Env) (args : List Value) (u : Option FrameMode) (σ : FState) (hn : args.length ≤ (6 : Nat)) : fcall Tryz.prog nls E 133 args u σ = leaveR Tryz.prog E [] (run133 E none 133 ⟨padTo undef 6 args, fun _ => undef, 6, 17, []⟩ u σ) := by
  rw [fcall_of (body := Tryz.f133.body.getD .skip) Tryz.func133 rfl E args u σ 6 17 (by kernel_rfl) rfl ⟨hn, by decide⟩, code133]
  rfl
/-! caracole/caracolekit.KeepData -/
noncomputable def r15_0U (_ : Unit) : List COp := [⟨fun a σ => .val (.slice none 0 0) σ, (some 2), fun _ => some true⟩]
noncomputable def r15_0 : List COp := r15_0U ()
noncomputable def r15_1U (_ : Unit) : List COp := [⟨fun a σ => .val (.slice none 0 0) σ, (some 3), fun _ => some true⟩]
noncomputable def r15_1 : List COp := r15_1U ()
noncomputable def r15_2U (_ : Unit) : List COp := [⟨fun a σ => .val (.int .i64 0) σ, (some 4), fun _ => some true⟩]
noncomputable def r15_2 : List COp := r15_2U ()
noncomputable def r15_3U (_ : Unit) : List COp := [⟨fun a σ => .val (a.get 4) σ, (some 5), fun _ => some true⟩,
  ⟨fun a σ => .val (a.get 0) σ, (some 6), fun _ => some true⟩,
  ⟨fun a σ => flenL (a.get 6) σ, (some 7), fun _ => some true⟩,
  ⟨fun a σ => i_lss Tryz.prog 3 (.tmp 5) (.tmp 7) (a.get 5) (a.get 7) σ, (some 8), fun _ => some true⟩]
noncomputable def r15_3 : List COp := r15_3U ()
noncomputable def r15_5U (_ : Unit) : List COp := [⟨fun a σ => .val (a.get 3) σ, (some 11), fun _ => some true⟩,
  ⟨fun a σ => .val (a.get 0) σ, (some 12), fun _ => some true⟩,
  ⟨fun a σ => .val (a.get 4) σ, (some 13), fun _ => some true⟩,
  ⟨fun a σ => findex (none, 4) (a.get 12) (a.get 13) σ, (some 14), fun _ => some true⟩,
  ⟨fun a σ => fload (some 4) (a.get 14) σ, (some 15), fun _ => some true⟩,
  ⟨fun a σ => .enter 64 [(a.get 15)] σ, (some 16), fun _ => some true⟩,
  ⟨fun a σ => fbuildSlice 28 1 4 [(.int .i64 0), (.int .i64 0), (.string ⟨#[]⟩), (.slice none 0 0)] [(0, (a.get 16))] σ, (some 17), fun _ => some true⟩,
  ⟨fun a σ => fappend 28 4 56 (a.get 11) (a.get 17) σ, (some 18), fun _ => some true⟩,
  ⟨fun a σ => .val (a.get 18) σ, (some 3), fun _ => some true⟩]
noncomputable def r15_5 : List COp := r15_5U ()
noncomputable def r15_4U (_ : Unit) : List COp := [⟨fun a σ => .val (a.get 4) σ, (some 9), fun _ => some true⟩,
  ⟨fun a σ => i_add Tryz.prog 3 (.tmp 9) (.const (.int .i64 1)) (a.get 9) (.int .i64 1) σ, (some 10), fun _ => some true⟩,
  ⟨fun a σ => .val (a.get 10) σ, (some 4), fun _ => some true⟩]
noncomputable def r15_4 : List COp := r15_4U ()
noncomputable def l15_0 (E : Env) (ro : Option Nat) (fn : FuncId) : RunF := (seqR (seqR (fops E ro r15_3) (condR (fun a => (a.get 8)) skipR (exitR 0))) (seqR (blockR 1 (fops E ro r15_5)) (fops E ro r15_4)))
noncomputable def r15_6U (_ : Unit) : List COp := [⟨fun a σ => .val (a.get 3) σ, (some 19), fun _ => some true⟩,
  ⟨fun a σ => .val (a.get 19) σ, (some 2), fun _ => some true⟩]
noncomputable def r15_6 : List COp := r15_6U ()
noncomputable def run15 (E : Env) (ro : Option Nat) (fn : FuncId) : RunF := (seqR (fops E ro r15_0) (seqR (fops E ro r15_1) (seqR (seqR (fops E ro r15_2) (blockR 0 (loopR (keepOf nls fn) (l15_0 E ro fn)))) (seqR (fops E ro r15_6) retR))))
theorem r15_0_go : fops E ro r15_0 a u σ = fops E ro (r15_0U ()) a u σ := rfl
theorem r15_1_go : fops E ro r15_1 a u σ = fops E ro (r15_1U ()) a u σ := rfl
theorem r15_2_go : fops E ro r15_2 a u σ = fops E ro (r15_2U ()) a u σ := rfl
theorem r15_3_go : fops E ro r15_3 a u σ = fops E ro (r15_3U ()) a u σ := rfl
theorem r15_5_go : fops E ro r15_5 a u σ = fops E ro (r15_5U ()) a u σ := rfl
theorem r15_4_go : fops E ro r15_4 a u σ = fops E ro (r15_4U ()) a u σ := rfl
theorem r15_6_go : fops E ro r15_6 a u σ = fops E ro (r15_6U ()) a u σ := rfl
theorem code15 (E : Env) (ro : Option Nat) (fn : FuncId) : code Tryz.prog nls (Tryz.f15.body.getD .skip) E ro fn = run15 E ro fn := by kernel_rfl
theorem enter15 (E : Env) (args : List Value) (u : Option FrameMode) (σ : FState) (hn : args.length ≤ (5 : Nat)) : fcall Tryz.prog nls E 15 args u σ = leaveR Tryz.prog E [.tmp 2] (run15 E none 15 ⟨padTo undef 5 args, fun _ => undef, 5, 20, []⟩ u σ) := by
  rw [fcall_of (body := Tryz.f15.body.getD .skip) Tryz.func15 rfl E args u σ 5 20 (by kernel_rfl) rfl ⟨hn, by decide⟩, code15]
  rfl
/-! caracole/caracolekit.KeepDatum -/
noncomputable def r64_0U (_ : Unit) : List COp := [⟨fun a σ => fbox 28 (a.get 0) σ, (some 1), fun _ => some true⟩,
  ⟨fun a σ => newCells [(.int .i64 0), (.int .i64 0), (.string ⟨#[]⟩), (.slice none 0 0)] 28 none σ, (some 2), fun _ => some true⟩]
noncomputable def r64_0 : List COp := r64_0U ()
noncomputable def r64_1U (_ : Unit) : List COp := [⟨fun a σ => ffield 0 (a.get 1) σ, (some 5), fun _ => some true⟩,
  ⟨fun a σ => fload none (a.get 5) σ, (some 6), fun _ => some true⟩,
  ⟨fun a σ => ffield 1 (a.get 1) σ, (some 7), fun _ => some true⟩,
  ⟨fun a σ => fload none (a.get 7) σ, (some 8), fun _ => some true⟩,
  ⟨fun a σ => ffield 2 (a.get 1) σ, (some 9), fun _ => some true⟩,
  ⟨fun a σ => fload none (a.get 9) σ, (some 10), fun _ => some true⟩,
  ⟨fun a σ => fbuild (fun i => nth [(0, 1), (1, 1), (2, 1), (3, 1)] i) [(.int .i64 0), (.int .i64 0), (.string ⟨#[]⟩), (.slice none 0 0)] [(0, (a.get 6)), (1, (a.get 8)), (2, (a.get 10))] σ, (some 11), fun _ => some true⟩,
  ⟨fun a σ => newCells [(.int .i64 0), (.int .i64 0), (.string ⟨#[]⟩), (.slice none 0 0)] 28 none σ, (some 3), fun _ => some true⟩,
  ⟨fun a σ => fstore 4 (a.get 3) (a.get 11) σ, none, fun _ => some true⟩]
noncomputable def r64_1 : List COp := r64_1U ()
noncomputable def r64_2U (_ : Unit) : List COp := [⟨fun a σ => .val (.int .i64 0) σ, (some 4), fun _ => some true⟩]
noncomputable def r64_2 : List COp := r64_2U ()
noncomputable def r64_3U (_ : Unit) : List COp := [⟨fun a σ => .val (a.get 4) σ, (some 12), fun _ => some true⟩,
  ⟨fun a σ => ffield 3 (a.get 1) σ, (some 13), fun _ => some true⟩,
  ⟨fun a σ => fload none (a.get 13) σ, (some 14), fun _ => some true⟩,
  ⟨fun a σ => flenL (a.get 14) σ, (some 15), fun _ => some true⟩,
  ⟨fun a σ => i_lss Tryz.prog 3 (.tmp 12) (.tmp 15) (a.get 12) (a.get 15) σ, (some 16), fun _ => some true⟩]
noncomputable def r64_3 : List COp := r64_3U ()
noncomputable def r64_5U (_ : Unit) : List DOp := [⟨fun a σ => ffield 3 (a.get 1) σ, (some 21), fun _ => some true, (some 0), false⟩,
  ⟨fun a σ => fload none (a.get 21) σ, (some 22), fun _ => some true, (some 0), false⟩,
  ⟨fun a σ => .val (a.get 4) σ, (some 23), fun _ => some true, (some 0), false⟩,
  ⟨fun a σ => findex (none, 4) (a.get 22) (a.get 23) σ, (some 24), fun _ => some true, (some 0), false⟩,
  ⟨fun a σ => fload (some 4) (a.get 24) σ, (some 25), fun _ => some true, (some 0), false⟩,
  ⟨fun a σ => .enter 64 [(a.get 25)] σ, (some 26), fun _ => some true, none, false⟩,
  ⟨fun a σ => ffield 3 (a.get 3) σ, (some 19), fun _ => some true, (some 0), false⟩,
  ⟨fun a σ => fload none (a.get 19) σ, (some 20), fun _ => some true, (some 0), false⟩,
  ⟨fun a σ => fbuildSlice 28 1 4 [(.int .i64 0), (.int .i64 0), (.string ⟨#[]⟩), (.slice none 0 0)] [(0, (a.get 26))] σ, (some 27), fun _ => some true, (some 1), false⟩,
  ⟨fun a σ => fappend 28 4 56 (a.get 20) (a.get 27) σ, (some 28), fun _ => some true, none, true⟩,
  ⟨fun a σ => ffield 3 (a.get 3) σ, (some 29), fun _ => some true, (some 2), false⟩,
  ⟨fun a σ => fstore 1 (a.get 29) (a.get 28) σ, none, fun _ => some true, none, true⟩]
noncomputable def r64_5 : List DOp := r64_5U ()
noncomputable def r64_4U (_ : Unit) : List COp := [⟨fun a σ => .val (a.get 4) σ, (some 17), fun _ => some true⟩,
  ⟨fun a σ => i_add Tryz.prog 3 (.tmp 17) (.const (.int .i64 1)) (a.get 17) (.int .i64 1) σ, (some 18), fun _ => some true⟩,
  ⟨fun a σ => .val (a.get 18) σ, (some 4), fun _ => some true⟩]
noncomputable def r64_4 : List COp := r64_4U ()
noncomputable def l64_0 (E : Env) (ro : Option Nat) (fn : FuncId) : RunF := (seqR (seqR (fops E ro r64_3) (condR (fun a => (a.get 16)) skipR (exitR 0))) (seqR (blockR 1 (drawR E ro r64_5)) (fops E ro r64_4)))
noncomputable def r64_6U (_ : Unit) : List COp := [⟨fun a σ => fload (some 4) (a.get 3) σ, (some 30), fun _ => some true⟩,
  ⟨fun a σ => fstore 4 (a.get 2) (a.get 30) σ, none, fun _ => some true⟩]
noncomputable def r64_6 : List COp := r64_6U ()
noncomputable def run64 (E : Env) (ro : Option Nat) (fn : FuncId) : RunF := (seqR (fops E ro r64_0) (seqR (fops E ro r64_1) (seqR (seqR (fops E ro r64_2) (blockR 0 (loopR (keepOf nls fn) (l64_0 E ro fn)))) (seqR (fops E ro r64_6) retR))))
theorem r64_0_go : fops E ro r64_0 a u σ = fops E ro (r64_0U ()) a u σ := rfl
theorem r64_1_go : fops E ro r64_1 a u σ = fops E ro (r64_1U ()) a u σ := rfl
theorem r64_2_go : fops E ro r64_2 a u σ = fops E ro (r64_2U ()) a u σ := rfl
theorem r64_3_go : fops E ro r64_3 a u σ = fops E ro (r64_3U ()) a u σ := rfl
theorem r64_5_go : fdraw E ro last r64_5 cl a u σ = fdraw E ro last (r64_5U ()) cl a u σ := rfl
theorem r64_4_go : fops E ro r64_4 a u σ = fops E ro (r64_4U ()) a u σ := rfl
theorem r64_6_go : fops E ro r64_6 a u σ = fops E ro (r64_6U ()) a u σ := rfl
theorem code64 (E : Env) (ro : Option Nat) (fn : FuncId) : code Tryz.prog nls (Tryz.f64.body.getD .skip) E ro fn = run64 E ro fn := by kernel_rfl
theorem enter64 (E : Env) (args : List Value) (u : Option FrameMode) (σ : FState) (hn : args.length ≤ (5 : Nat)) : fcall Tryz.prog nls E 64 args u σ = leaveR Tryz.prog E [.cell 2 28] (run64 E none 64 ⟨padTo undef 5 args, fun _ => undef, 5, 31, []⟩ u σ) := by
  rw [fcall_of (body := Tryz.f64.body.getD .skip) Tryz.func64 rfl E args u σ 5 31 (by kernel_rfl) rfl ⟨hn, by decide⟩, code64]
  rfl
end Go.Proofs.YtodkeaoikjjneaaGreatDoor
/- plain.Elements: a loop by goto. -/
namespace Go.Proofs.YtodkeaoikjjneaaGreatDoor
open Go Go.Eng
attribute [local congr] andThen_congr fops_congr fdraw_congr afterOp_congr drawF_congr
attribute [-go_sem] List.range_succ
noncomputable def scopeK (find : Nat → Option (Bx RunF)) (again : RunF → RunF) (r : KRes) : KRes := match r with
  | .done (.goto l) a u σ => (match find l with | some rest => again rest.un a u σ | none => .done (.goto l) a u σ)
  | r => r
theorem fscope_step (find : Nat → Option (Bx RunF)) (n : Nat) (run : RunF) (a : FAct) (u : Option FrameMode) (σ : FState) : fscope find (n + 1) run a u σ = scopeK find (fscope find n) (run a u σ) := by
  show (match run a u σ with | .done (.goto l) a u σ => (match find l with | some rest => fscope find n rest.un a u σ | none => .done (.goto l) a u σ) | r => r) = _
  unfold scopeK
  rfl
theorem scopeK_goto {find : Nat → Option (Bx RunF)} {l : Nat} {r : RunF} (hf : find l = some ⟨r⟩) (again : RunF → RunF) (a : FAct) (u : Option FrameMode) (σ : FState) : scopeK find again (.done (.goto l) a u σ) = again r a u σ := by
  unfold scopeK
  simp only
  rw [hf]
theorem scopeK_ret (find : Nat → Option (Bx RunF)) (again : RunF → RunF) (a : FAct) (u : Option FrameMode) (σ : FState) : scopeK find again (.done .ret a u σ) = .done .ret a u σ := rfl
theorem findex2_0 (b off c : Nat) (σ : FState) : findex (none, 4) (.slice (some ⟨b, off, none⟩) 2 c) (.int .i64 0) σ = .val (.pointer (some ⟨b, off, none⟩)) σ := (findex_eq b off 2 c 0 4 .i64 σ).trans (by rw [if_pos (by decide)]; simp)
theorem findex2_1 (b off c : Nat) (σ : FState) : findex (none, 4) (.slice (some ⟨b, off, none⟩) 2 c) (.int .i64 1) σ = .val (.pointer (some ⟨b, off + 4, none⟩)) σ := (findex_eq b off 2 c 1 4 .i64 σ).trans (by rw [if_pos (by decide)])
structure HeadEl (R : Nat → Prop) (σ0 : FState) (bd bt : Nat) (rest : D) (done : List D) (f : Nat → Value) (σ : FState) : Prop where
  f1 : f 1 = .pointer (some ⟨bd, 0, none⟩)
  f3 : f 3 = .pointer (some ⟨bt, 0, none⟩)
  vec : VecG (fun b => σ0.next ≤ b ∧ b ≠ bd ∧ b ≠ bt) R σ (f 2) done
  hd : ∃ ver lv, σ.heap.get bd = some ⟨.cells lv TD, false, none, ver⟩ ∧ lv.length = 4 ∧ LaidR R σ (.agg lv.toArray) rest
  ht : ∃ ver, σ.heap.get bt = some ⟨.cells [.int .i64 0, .int .i64 0, .string ⟨#[]⟩, .slice none 0 0] TD, false, none, ver⟩
  ne : bd ≠ bt
  lo : σ0.next ≤ bd ∧ σ0.next ≤ bt
  wf : Wf σ
  ext : Ext σ0 σ
theorem elements_loop (E : Env) {R : Nat → Prop} {σ0 : FState} {bd bt : Nat} (hR : ∀ b, R b → b < σ0.next) (k z : Int) (tt : ByteArray) (td : List D) (hk : (k == 5) = false) : ∀ (es : List D) (fuel : Nat) (done : List D) (f g : Nat → Value) (σ : FState), es.length < fuel → done.length + es.length < 900 → HeadEl R σ0 bd bt (listD (.mk k z tt td) es) done f σ →
    ∃ f' g' σ' tv, fscope (find108_0 E none 108) fuel (rest108_0_0 E none 108) (Sl 4 20 f g []) none σ = .done .ret (Sl 4 20 f' g' []) none σ' ∧ f' 3 = .pointer (some ⟨bt, 0, none⟩) ∧ VecG (fun b => σ0.next ≤ b ∧ b ≠ bt) R σ' (f' 2) (done ++ es) ∧ σ'.cells bt = some tv ∧ tv.length = 4 ∧ LaidR R σ' (.agg tv.toArray) (.mk k z tt td) ∧ Ext σ0 σ' ∧ Wf σ' := by
  intro es
  induction es with
  | nil =>
    intro fuel done f g σ hf hlen h
    obtain ⟨fuel, rfl⟩ : ∃ q, fuel = q + 1 := ⟨fuel - 1, by omega⟩
    obtain ⟨ver, lv, hg, h4, hL⟩ := h.hd
    have hL0 := hL
    rw [listD] at hL
    obtain ⟨q, c, hv, hE⟩ := hL
    have hlv : lv = [.int .i64 k, .int .i64 z, .string tt, .slice q td.length c] := by
      have := Value.agg.inj hv
      simpa using congrArg Array.toList this
    subst hlv
    have hc := cells_of_get hg
    obtain ⟨vt, ht⟩ := h.ht
    obtain ⟨o1, o2, o3⟩ := h.vec.one
    have hvw := view_wf h.wf (lam := σ.clock) (Nat.le_refl _)
    have hlt := (h.wf _ _ ht).1
    rw [fscope_step]
    unfold rest108_0_0
    simp -implicitDefEqProofs only [go_sem, ↓reduceIte, Nat.reduceLT, Nat.reduceEqDiff, Nat.reduceAdd, Nat.reduceMul, Nat.reduceLeDiff, Nat.reduceSub, fstoreN, r108_1_go, r108_1U, r108_4_go, r108_4U, h.f1, h.f3, hc, hk, hvw, ht, o1, o2, o3, scopeK_ret]
    refine ⟨_, _, _, [.int .i64 k, .int .i64 z, .string tt, .slice q td.length c], rfl, by simp -implicitDefEqProofs only [upd_go, kept_go, ↓reduceIte, Nat.reduceEqDiff, Nat.reduceLT, reduceCtorEq, h.f3], ?_, by rw [cells_put, if_pos rfl]; rfl, rfl, ?_, h.ext.put _ _ _ h.lo.2, h.wf.put _ _ _ hlt⟩
    · refine (show VecG _ R σ _ done from by simp -implicitDefEqProofs only [upd_go, kept_go, ↓reduceIte, Nat.reduceEqDiff, Nat.reduceLT, reduceCtorEq]; exact h.vec).keep (Q := fun b => σ0.next ≤ b ∧ b ≠ bd ∧ b ≠ bt) (fun b e hb hc => ⟨by rw [put_get, if_neg hb.2.2]; exact hc, hb.1, hb.2.2⟩) fun b cs hb hc => ⟨by rw [cells_put, if_neg (by have := hR b hb; have := h.lo.2; omega)]; exact hc, hb⟩
    · exact hL0.keep fun b cs hb hc => ⟨by rw [cells_put, if_neg (by have := hR b hb; have := h.lo.2; omega)]; exact hc, hb⟩
  | cons d es ih =>
    intro fuel done f g σ hf hlen h
    obtain ⟨fuel, rfl⟩ : ∃ q, fuel = q + 1 := ⟨fuel - 1, by omega⟩
    rw [List.length_cons] at hf hlen
    obtain ⟨ver, lv, hg, h4, hL⟩ := h.hd
    rw [listD, pairD] at hL
    obtain ⟨q, c, hv, ⟨b, off, cs, rfl, hRb, hcs, hle, hd⟩, ⟨b', off', cs', hq', _, hcs', hle', hd'⟩, _⟩ := hL
    cases hq'
    rw [hcs] at hcs'
    cases hcs'
    have hlv : lv = [.int .i64 5, .int .i64 0, .string ⟨#[]⟩, .slice (some ⟨b, off, none⟩) 2 c] := by
      have := Value.agg.inj hv
      simpa using congrArg Array.toList this
    subst hlv
    have hc := cells_of_get hg
    obtain ⟨vt, ht⟩ := h.ht
    have hbd := h.lo.1
    have hbt := h.lo.2
    have hbn := hR b hRb
    have hle0 := h.ext.next
    obtain ⟨l4, e4, hl4, ho4⟩ := hd.agg
    have e4' : (cs.drop (off + 0 * 4)).take 4 = l4 := by
      have := Value.agg.inj e4
      simpa using congrArg Array.toList this
    rw [e4'] at hd
    obtain ⟨m4, e5, hm4, hom4⟩ := hd'.agg
    have e5' : (cs.drop (off + (0 + 1) * 4)).take 4 = m4 := by
      have := Value.agg.inj e5
      simpa using congrArg Array.toList this
    rw [e5'] at hd'
    have hdl : bd < σ.next := (h.wf _ _ hg).1
    obtain ⟨s', τ, ha, hV, hwτ, hch⟩ := vecG_append (fun b => σ0.next ≤ b ∧ b ≠ bd ∧ b ≠ bt) R (fun b => σ0.next ≤ b ∧ b ≠ bd ∧ b ≠ bt) σ (f 2) done d l4 h.wf hl4 ho4 (by omega) h.vec hd (fun x hx hr => by have := hR x hr; omega) (fun x hx => ⟨by omega, by omega, by have := (h.wf _ _ ht).1; omega⟩)
    have kR : ∀ x xs, R x → σ.cells x = some xs → τ.cells x = some xs := fun x xs hx hxs => (hch.cells (h.wf.cells hxs) (fun hq => by have := hR x hx; omega)).trans hxs
    have hgτ : τ.heap.get bd = _ := (hch.get bd hdl (fun hq => hq.2.1 rfl)).trans hg
    have hcτ := cells_of_get hgτ
    have htτ : τ.heap.get bt = _ := (hch.get bt (h.wf _ _ ht).1 (fun hq => hq.2.2 rfl)).trans ht
    have hcsτ := kR _ _ hRb hcs
    rw [fscope_step]
    unfold rest108_0_0
    have l1 : 4 ≤ cs.length - off := by omega
    have l2 : 4 ≤ cs.length - (off + 4) := by omega
    have e6 : List.take 4 (List.drop off cs) = l4 := by simpa using e4'
    have e7 : List.take 4 (List.drop (off + 4) cs) = m4 := by simpa using e5'
    have nb : (b = bd) = False := by simp; omega
    have tl4 : l4.take 4 = l4 := List.take_of_length_le (by omega)
    have tm4 : m4.take 4 = m4 := List.take_of_length_le (by omega)
    have hone := (show VecG _ R τ s' _ from hV).one
    simp -implicitDefEqProofs only [go_sem, ↓reduceIte, Nat.reduceLT, Nat.reduceEqDiff, Nat.reduceAdd, Nat.reduceMul, Nat.reduceLeDiff, Nat.reduceSub, fstoreN, r108_1_go, r108_1U, r108_2_go, r108_2U, r108_3_go, r108_3U, h.f1, hc, hcs, l1, e6, l2, e7, hl4, ho4, hm4, hom4, tl4, tm4, ha, hcτ, hcsτ, hgτ, hone.1, hone.2.1, hone.2.2, findex2_0, findex2_1, gotoR_go, andThen_goto, scopeK_goto (find108_0_0_go E none 108)]
    generalize hff : upd _ 2 _ = f1
    generalize hgg : upd _ 17 _ = g1
    have q2 : f1 2 = s' := by rw [← hff]; simp -implicitDefEqProofs only [upd_go, kept_go, ↓reduceIte, Nat.reduceEqDiff, Nat.reduceLT, reduceCtorEq]
    have hlt2 := hgτ
    have hnτ := hch.next
    have hX : Ext σ0 (τ.put bd (.cells m4 TD) none) := (((h.ext.chg _).trans hch fun b _ hq => hq).ext fun x hx hq => by omega).put _ _ _ hbd
    obtain ⟨f2, g2, σ2, tv, r1, r2, r3, r4⟩ := ih fuel (done ++ [d]) f1 g1 (τ.put bd (.cells m4 TD) none) (by omega) (by rw [List.length_append, List.length_singleton]; omega) {
      f1 := by rw [← hff]; simp -implicitDefEqProofs only [upd_go, kept_go, ↓reduceIte, Nat.reduceEqDiff, Nat.reduceLT, reduceCtorEq, h.f1]
      f3 := by rw [← hff]; simp -implicitDefEqProofs only [upd_go, kept_go, ↓reduceIte, Nat.reduceEqDiff, Nat.reduceLT, reduceCtorEq, h.f3]
      vec := by rw [q2]; exact hV.keep (fun x e hx hc => ⟨by rw [put_get, if_neg hx.2.1]; exact hc, hx⟩) fun x xs hx hxs => ⟨by rw [cells_put, if_neg (by have := hR x hx; omega)]; exact hxs, hx⟩
      hd := ⟨_, m4, by rw [put_get, if_pos rfl], hm4, hd'.keep fun x xs hx hxs => ⟨by rw [cells_put, if_neg (by have := hR x hx; omega)]; exact kR x xs hx hxs, hx⟩⟩
      ht := ⟨vt, by rw [put_get, if_neg (Ne.symm h.ne)]; exact htτ⟩
      ne := h.ne
      lo := h.lo
      wf := hwτ.put _ _ _ (by omega)
      ext := hX }
    rw [List.append_assoc] at r3
    exact ⟨f2, g2, σ2, tv, r1, r2, r3, r4⟩
/-- plain.Elements of a list, whatever is behind it. -/
theorem elements_go (n : Nat) {R : Nat → Prop} (k z : Int) (tt : ByteArray) (td : List D) (hk : (k == 5) = false) (es : List D) (hlen : es.length < 900) (lv : List Value) (h4 : lv.length = 4) (σ : FState) (hw : Wf σ) (hL : LaidR R σ (.agg lv.toArray) (listD (.mk k z tt td) es)) (hR : ∀ b, R b → b < σ.next) :
    Gives ((env (n + 1)).call 108 [.agg lv.toArray] none σ) σ fun w σ' => ∃ (s : Value) (tv : List Value), w = .tuple #[s, .agg tv.toArray] ∧ tv.length = 4 ∧ VecG (fun b => σ.next ≤ b) R σ' s es ∧ LaidR R σ' (.agg tv.toArray) (.mk k z tt td) := by
  have ht : lv.take 4 = lv := List.take_of_length_le (by omega)
  rw [env_call, enter108 _ _ _ _ (by simp), Sl_start]
  unfold run108
  have x1 : Ext σ ((σ.push (.cells lv TD) none).push (.cells [.int .i64 0, .int .i64 0, .string ⟨#[]⟩, .slice none 0 0] TD) none) := ((Ext.refl _).push _ _).push _ _
  have hw1 := (hw.push (.cells lv TD) none).push (.cells [.int .i64 0, .int .i64 0, .string ⟨#[]⟩, .slice none 0 0] TD) none
  have g1 : ((σ.push (.cells lv TD) none).push (.cells [.int .i64 0, .int .i64 0, .string ⟨#[]⟩, .slice none 0 0] TD) none).heap.get σ.next = some ⟨.cells lv TD, false, none, σ.clock⟩ := by rw [push_get, if_neg (by rw [push_next]; omega), push_get, if_pos rfl]
  have g2 : ((σ.push (.cells lv TD) none).push (.cells [.int .i64 0, .int .i64 0, .string ⟨#[]⟩, .slice none 0 0] TD) none).heap.get (σ.next + 1) = some ⟨.cells [.int .i64 0, .int .i64 0, .string ⟨#[]⟩, .slice none 0 0] TD, false, none, σ.clock + 1⟩ := by rw [push_get, if_pos (by rw [push_next])]; rfl
  simp -implicitDefEqProofs only [go_sem, ↓reduceIte, Nat.reduceLT, Nat.reduceEqDiff, Nat.reduceAdd, Nat.reduceMul, Nat.reduceLeDiff, Nat.reduceSub, r108_0_go, r108_0U, Option.getD_some]
  generalize FState.push (FState.push σ _ _) _ _ = σ1 at x1 hw1 g1 g2 ⊢
  generalize hff : upd _ 3 _ = f1
  generalize hbf : bigFuel = fuel
  obtain ⟨f2, g2', σ2, tv, r1, r2, r3, r4, r5, r6, r7, r8⟩ := elements_loop (env n) (σ0 := σ) (bd := σ.next) (bt := σ.next + 1) hR k z tt td hk es fuel [] f1 (fun _ => undef) σ1 (by rw [← hbf]; show es.length < 1000000000000; omega) (by simp; omega) {
    f1 := by rw [← hff]; simp -implicitDefEqProofs only [upd_go, kept_go, ↓reduceIte, Nat.reduceEqDiff, Nat.reduceLT, reduceCtorEq]
    f3 := by rw [← hff]; simp -implicitDefEqProofs only [upd_go, kept_go, ↓reduceIte, Nat.reduceEqDiff, Nat.reduceLT, reduceCtorEq]
    vec := .inl ⟨rfl, by rw [← hff]; simp -implicitDefEqProofs only [upd_go, kept_go, ↓reduceIte, Nat.reduceEqDiff, Nat.reduceLT, reduceCtorEq]⟩
    hd := ⟨_, lv, g1, h4, hL.keep fun b cs hb hc => ⟨(x1.cells (hw.cells hc)).trans hc, hb⟩⟩
    ht := ⟨_, g2⟩
    ne := by omega
    lo := ⟨by omega, by omega⟩
    wf := hw1
    ext := x1 }
  have r1' := r1
  unfold rest108_0_0 at r1
  rw [r1]
  have o := r3.one
  have ttv : tv.take 4 = tv := List.take_of_length_le (by omega)
  simp -implicitDefEqProofs only [go_sem, ↓reduceIte, Nat.reduceLT, Nat.reduceEqDiff, Nat.reduceAdd, Nat.reduceMul, Nat.reduceLeDiff, Nat.reduceSub, r2, r4, r5, ttv, o.1, o.2.1, o.2.2, aggDatum, fleave_nil, fresults_nil, fresults_cons, fresult_cell, fresult_tmp]
  exact ⟨_, _, rfl, r7, r8, _, _, rfl, r5, r3.keep (fun b e hb hc => ⟨hc, hb.1⟩) (fun b cs hb hc => ⟨hc, hb⟩), r6⟩
end Go.Proofs.YtodkeaoikjjneaaGreatDoor
/- Package datum's elements and copyAll. -/
namespace Go.Proofs.YtodkeaoikjjneaaGreatDoor
open Go Go.Eng
attribute [local congr] andThen_congr fops_congr fdraw_congr afterOp_congr drawF_congr
attribute [-go_sem] List.range_succ
/-- The elements of a list. -/
theorem elementsL_go (n : Nat) {R : Nat → Prop} (es : List D) (hlen : es.length < 900) (lv : List Value) (h4 : lv.length = 4) (σ : FState) (hw : Wf σ) (hL : LaidR R σ (.agg lv.toArray) (listD nilD es)) (hR : ∀ b, R b → b < σ.next) :
    Gives ((env (n + 2)).call 67 [.agg lv.toArray] none σ) σ fun w σ' => VecG (fun b => σ.next ≤ b) R σ' w es := by
  have ht : lv.take 4 = lv := List.take_of_length_le (by omega)
  rw [env_call, enter67 _ _ _ _ (by simp), Sl_start]
  unfold run67
  have x1 : Ext σ (σ.push (.cells lv TD) none) := (Ext.refl _).push _ _
  have hw1 := hw.push (.cells lv TD) none
  have c1 : (σ.push (.cells lv TD) none).cells σ.next = some lv := by rw [cells_push, if_pos rfl]; rfl
  have n1 : (σ.push (.cells lv TD) none).next = σ.next + 1 := rfl
  simp -implicitDefEqProofs only [go_sem, ↓reduceIte, Nat.reduceLT, Nat.reduceEqDiff, Nat.reduceAdd, Nat.reduceMul, Nat.reduceLeDiff, Nat.reduceSub, r67_0_go, r67_0U, Option.getD_some]
  generalize FState.push σ _ _ = σ1 at x1 hw1 c1 n1 ⊢
  obtain ⟨_, σ2, e2, x2, hw2, s, tv, rfl, htv, hV, hT⟩ := elements_go n 0 0 ⟨#[]⟩ [] (by decide) es hlen lv h4 σ1 hw1 (hL.keep fun b cs hb hc => ⟨(x1.cells (hw.cells hc)).trans hc, hb⟩) (fun b hb => by have := hR b hb; omega)
  obtain ⟨q, c, hv, _⟩ := hT
  have hlv : tv = [.int .i64 0, .int .i64 0, .string ⟨#[]⟩, .slice q 0 c] := by
    have := Value.agg.inj hv
    simpa using congrArg Array.toList this
  subst hlv
  have o := hV.one
  have y1 : (!((0 : Int) == 0)) = false := by decide
  have n2 := x2.next
  simp -implicitDefEqProofs only [go_sem, ↓reduceIte, Nat.reduceLT, Nat.reduceEqDiff, Nat.reduceAdd, Nat.reduceMul, Nat.reduceLeDiff, Nat.reduceSub, fstoreN, r67_1_go, r67_1U, r67_2_go, r67_2U, r67_4_go, r67_4U, c1, h4, ht, e2, o.1, o.2.1, o.2.2, y1, fleave_nil, fresults_nil, fresults_cons, fresult_tmp, Nat.le_refl]
  refine ⟨_, _, rfl, (((x1.trans x2).push _ _).put _ _ _ (by omega)), (hw2.push _ _).put _ _ _ (Nat.lt_succ_self _), hV.keep (fun b e hb hc => ?_) fun b cs hb hc => ?_⟩
  · have := (hw2 _ _ hc).1
    exact ⟨by rw [put_get, if_neg (by omega), push_get, if_neg (by omega)]; exact hc, by omega⟩
  · have := hw2.cells hc
    exact ⟨by rw [cells_put, if_neg (by omega), cells_push, if_neg (by omega)]; exact hc, hb⟩
/-- Copies of data, one by one. -/
theorem copyAll_go (m : Nat) (ds : List D) (hC : ∀ d ∈ ds, CopyAt m d) (hfew : ds.length < 1000000) (q : Option Addr) (c : Nat) (R : Nat → Prop) (σ : FState) (hw : Wf σ) (hE : LaidRE R σ q 0 ds) :
    Gives ((env (m + 2)).call 63 [.slice q ds.length c] none σ) σ fun w σ' => ∃ q' c', w = .slice q' ds.length c' ∧ LaidRE (fun b => σ.next ≤ b) σ' q' 0 ds := by
  rw [env_call, enter63 _ _ _ _ (by simp), Sl_start]
  unfold run63
  obtain ⟨_, σ2, e2, x2, hw2, q', c', rfl, hE'⟩ := each_step m ds hC hfew q c R σ hw hE
  simp -implicitDefEqProofs only [go_sem, ↓reduceIte, Nat.reduceLT, Nat.reduceEqDiff, Nat.reduceAdd, Nat.reduceMul, Nat.reduceLeDiff, Nat.reduceSub, r63_0_go, r63_0U, r63_1_go, r63_1U, Option.getD_some, e2]
  exact ⟨_, _, rfl, x2, hw2, q', c', rfl, hE'⟩
end Go.Proofs.YtodkeaoikjjneaaGreatDoor
/- plain.List, over slices.Backward. -/
namespace Go.Proofs.YtodkeaoikjjneaaGreatDoor
open Go Go.Eng
attribute [local congr] andThen_congr fops_congr fdraw_congr afterOp_congr drawF_congr
attribute [-go_sem] List.range_succ
/-- What List keeps from round to round: the loop's record l, what it waits with r, the list so far bt. -/
structure ListI (P : Nat → Prop) (l r bt : Nat) (f g : Nat → Value) (cur : D) (σ : FState) : Prop where
  wf : Wf σ
  le : bt < r ∧ r < l ∧ l < σ.next
  fresh : ∀ b, l < b → P b
  loop : LoopAt 62 [9, 10] c62_0a c62_0b 7 16 f g l r .ready σ
  col : ∃ ver, σ.heap.get r = some ⟨.defd true, false, none, ver⟩
  cell : ∃ ver tv, σ.heap.get bt = some ⟨.cells tv TD, false, none, ver⟩ ∧ tv.length = 4 ∧ LaidR (fun b => P b ∧ b ≠ l ∧ b ≠ r ∧ b ≠ bt) σ (.agg tv.toArray) cur
theorem list_round (n : Nat) {P : Nat → Prop} {l r bt : Nat} {f g : Nat → Value} {cur : D} {σ : FState} (h : ListI P l r bt f g cur σ) (h2 : f 2 = .pointer (some ⟨bt, 0, none⟩)) (i : Int) (xv : List Value) (x : D) (hx : LaidR (fun b => P b ∧ b ≠ l ∧ b ≠ r ∧ b ≠ bt) σ (.agg xv.toArray) x) :
    ∃ σ', (env (n + 1)).round l [.int .i64 i, .agg xv.toArray] σ = .ret (.bool true) none σ' ∧ Chg (fun b => b = l ∨ b = bt) σ σ' ∧ ListI P l r bt f g (pairD x cur) σ' := by
  obtain ⟨hw, ⟨l2, l3, l4⟩, hP, hA, ⟨vr, hr⟩, ⟨vt, tv, ht, htl, hcur⟩⟩ := h
  have hx0 := hx
  have hcur0 := hcur
  obtain ⟨k, z, t, ds⟩ := x
  obtain ⟨k', z', t', ds'⟩ := cur
  obtain ⟨p, c, hv, _⟩ := hx
  obtain ⟨p', c', hv', _⟩ := hcur
  have hxv : xv = [.int .i64 k, .int .i64 z, .string t, .slice p ds.length c] := by
    have := Value.agg.inj hv
    simpa using congrArg Array.toList this
  have htv : tv = [.int .i64 k', .int .i64 z', .string t', .slice p' ds'.length c'] := by
    have := Value.agg.inj hv'
    simpa using congrArg Array.toList this
  subst hxv htv
  rw [round_go _ _ _ _ _ _ _ _ _ n l r _ hA rfl, c62_0a_go]
  have hct := cells_of_get ht
  have n1 : (bt = σ.next) = False := by simp; omega
  have n2 : (l = σ.next) = False := by simp; omega
  have n3 : (σ.next = l) = False := by simp; omega
  have n4 : (bt = l) = False := by simp; omega
  have n5 : (bt = σ.next + 1) = False := by simp; omega
  simp -implicitDefEqProofs only [go_sem, ↓reduceIte, Nat.reduceLT, Nat.reduceEqDiff, Nat.reduceAdd, Nat.reduceMul, Nat.reduceLeDiff, Nat.reduceSub, fstoreN, r62_2_go, r62_2U, List.zip_cons_cons, List.zip_nil_right, putAll_cons, putAll_nil]
  have hA1 : ∀ o : FObj, LoopAt 62 [9, 10] c62_0a c62_0b 7 16 f g l r .ready ((σ.push (.cells [.int .i64 0, .int .i64 0, .string ⟨#[]⟩, .slice none 0 0] TD) none).put σ.next o none) := fun o => hA.keep (by rw [put_get, if_neg (by omega), push_get, if_neg (by omega)])
  rw [beginRound_go _ _ _ _ _ _ _ _ _ l r _ (hA1 _), c62_0b_go]
  have hg : ∀ (o o' o'' : FObj), ((((σ.push o none).put σ.next o' none).put l o'' none).push (.cells [.int .i64 k, .int .i64 z, .string t, .slice p ds.length c, .int .i64 k', .int .i64 z', .string t', .slice p' ds'.length c'] TD) none).heap.get bt = some ⟨.cells [.int .i64 k', .int .i64 z', .string t', .slice p' ds'.length c'] TD, false, none, vt⟩ := fun o o' o'' => by
    rw [push_get, if_neg (by simp only [put_next, push_next]; omega), put_get, if_neg (by omega), put_get, if_neg (by omega), push_get, if_neg (by omega)]; exact ht
  simp -implicitDefEqProofs only [go_sem, ↓reduceIte, Nat.reduceLT, Nat.reduceEqDiff, Nat.reduceAdd, Nat.reduceMul, Nat.reduceLeDiff, Nat.reduceSub, fstoreN, r62_3_go, r62_3U, h2, hct, n1, n2, n3, n4, n5, hg, fbuild_go]
  have hB : ∀ (o o' o'' o3 : FObj), LoopAt 62 [9, 10] c62_0a c62_0b 7 16 f g l r .busy (((((σ.push o none).put σ.next o' none).put l (.loop .busy none 62 ((List.range 7).map f) g 7 16 [9, 10] c62_0a c62_0b r) none).push o'' none).put bt o3 none) := fun _ _ _ _ => ⟨_, by rw [put_get, if_neg (by omega), push_get, if_neg (by simp only [put_next, push_next]; omega), put_get, if_pos rfl]⟩
  rw [endRound_go _ _ _ _ _ _ _ _ _ _ l r _ _ (hB _ _ _ _)]
  have hw1 := ((((hw.push (.cells [.int .i64 0, .int .i64 0, .string ⟨#[]⟩, .slice none 0 0] TD) none).put σ.next (.cells [.int .i64 k, .int .i64 z, .string t, .slice p ds.length c] TD) none (Nat.lt_succ_self _)).put l (.loop .busy none 62 ((List.range 7).map f) g 7 16 [9, 10] c62_0a c62_0b r) none (by simp only [put_next, push_next]; omega)).push (.cells [.int .i64 k, .int .i64 z, .string t, .slice p ds.length c, .int .i64 k', .int .i64 z', .string t', .slice p' ds'.length c'] TD) none).put bt (.cells [.int .i64 5, .int .i64 0, .string ⟨#[]⟩, .slice (some ⟨σ.next + 1, 0, none⟩) 2 2] TD) none (by simp only [put_next, push_next]; omega)
  have hw2 := hw1.put l (.loop .ready none 62 ((List.range 7).map f) g 7 16 [9, 10] c62_0a c62_0b r) none (by simp only [put_next, push_next]; omega)
  have kc : ∀ (o o' o'' o3 o4 o5 : FObj) b cs, b ≠ l → b ≠ bt → σ.cells b = some cs → ((((((σ.push o none).put σ.next o' none).put l o'' none).push o3 none).put bt o4 none).put l o5 none).cells b = some cs := fun o o' o'' o3 o4 o5 b cs h1 h2 hc => by
    have := hw.cells hc
    rw [cells_put, if_neg h1, cells_put, if_neg h2, cells_push, if_neg (by simp only [put_next, push_next]; omega), cells_put, if_neg h1, cells_put, if_neg (by omega), cells_push, if_neg (by omega)]
    exact hc
  have hb : ∀ (o o' o'' o4 o5 : FObj) (vs : List Value), ((((((σ.push o none).put σ.next o' none).put l o'' none).push (.cells vs TD) none).put bt o4 none).put l o5 none).cells (σ.next + 1) = some vs := fun o o' o'' o4 o5 vs => by
    rw [cells_put, if_neg (by omega), cells_put, if_neg (by omega), cells_push, if_pos (by simp only [put_next, push_next])]; rfl
  refine ⟨_, rfl, (((((((Chg.refl _ σ).push _ _).put _ _ _ (.inl (Nat.le_refl _))).put _ _ _ (.inr (.inl rfl))).push _ _).put _ _ _ (.inr (.inr rfl))).put _ _ _ (.inr (.inl rfl))), hw2, ⟨l2, l3, by simp only [put_next, push_next]; omega⟩, hP, LoopAt.put _ _ _ _ _ _ _ _ _ _ _ _, ⟨vr, by
    rw [put_get, if_neg (by omega), put_get, if_neg (by omega), push_get, if_neg (by simp only [put_next, push_next]; omega), put_get, if_neg (by omega), put_get, if_neg (by omega), push_get, if_neg (by omega)]; exact hr⟩, ⟨_, _, by rw [put_get, if_neg (by omega), put_get, if_pos rfl], rfl, ?_⟩⟩
  exact ⟨some ⟨σ.next + 1, 0, none⟩, 2, rfl, ⟨_, _, _, rfl, ⟨hP _ (by omega), by omega, by omega, by omega⟩, hb _ _ _ _ _ _, by simp, hx0.keep fun b cs hb hc => ⟨kc _ _ _ _ _ _ b cs hb.2.1 hb.2.2.2 hc, hb⟩⟩, ⟨_, _, _, rfl, ⟨hP _ (by omega), by omega, by omega, by omega⟩, hb _ _ _ _ _ _, by simp, hcur0.keep fun b cs hb hc => ⟨kc _ _ _ _ _ _ b cs hb.2.1 hb.2.2.2 hc, hb⟩⟩, trivial⟩
def pre : Nat → Int
  | 0 => -1
  | k + 1 => .ofNat k
theorem pre_len (k : Nat) (hk : k < 1000000000000) : wrapI (Int.ofNat k - 1) = pre k := by
  cases k with
  | zero => decide
  | succ k => exact sub1 k (by omega)
theorem keepBK : keepOf nls 132 = [] := by kernel_rfl
theorem backward_loop (n : Nat) {P : Nat → Prop} {l r bt bs : Nat} {fL gL : Nat → Value} (h2 : fL 2 = .pointer (some ⟨bt, 0, none⟩)) (t : D) (q : Option Addr) (c : Nat) (ds : List D) (hlen : ds.length < 1000000) (hbs : bs ≠ l ∧ bs ≠ bt) :
    ∀ (j fuel : Nat) (f g : Nat → Value) (σ : FState), j ≤ ds.length → j < fuel → f 0 = .func (.yield l) #[] #[] → f 1 = .pointer (some ⟨bs, 0, none⟩) → f 3 = .int .i64 (pre j) → σ.cells bs = some [.slice q ds.length c] → ListI P l r bt fL gL (listD t (ds.drop j)) σ → LaidRE (fun b => P b ∧ b ≠ l ∧ b ≠ r ∧ b ≠ bt) σ q 0 ds →
      ∃ f' g' σ', floop [] (l132_0 (env (n + 1)) none 132) fuel (Sl 4 19 f g []) none σ = .done (.exit 0) (Sl 4 19 f' g' []) none σ' ∧ Chg (fun b => b = l ∨ b = bt) σ σ' ∧ ListI P l r bt fL gL (listD t ds) σ' := by
  intro j
  induction j with
  | zero =>
    intro fuel f g σ hj hf f0 f1 f3 hs h hE
    obtain ⟨fuel, rfl⟩ : ∃ q, fuel = q + 1 := ⟨fuel - 1, by omega⟩
    have d1 : decide (pre 0 ≥ 0) = false := by decide
    rw [floop_step]
    unfold l132_0
    simp -implicitDefEqProofs only [go_sem, ↓reduceIte, Nat.reduceLT, Nat.reduceEqDiff, Nat.reduceAdd, Nat.reduceMul, Nat.reduceLeDiff, Nat.reduceSub, r132_1_go, r132_1U, f3, d1]
    exact ⟨_, _, _, rfl, Chg.refl _ _, h⟩
  | succ j ih =>
    intro fuel f g σ hj hf f0 f1 f3 hs h hE
    obtain ⟨fuel, rfl⟩ : ∃ q, fuel = q + 1 := ⟨fuel - 1, by omega⟩
    rw [pre] at f3
    have d1 : decide (Int.ofNat j ≥ 0) = true := by simp
    have hd : ds[j]? = some ds[j] := List.getElem?_eq_getElem (by omega)
    obtain ⟨b, off, cs, rfl, hRb, hcs, hle, hL⟩ := LaidRE.get hE hd
    rw [Nat.zero_add] at hle hL
    obtain ⟨σ1, e1, ch1, h1⟩ := list_round n h h2 (Int.ofNat j) _ _ hL
    rw [show pairD ds[j] (listD t (ds.drop (j + 1))) = listD t (ds.drop j) by rw [List.drop_eq_getElem_cons (by omega : j < ds.length)]; rfl] at h1
    have w1 := pre_len j (by omega)
    have hjl : j < ds.length := by omega
    have hn := h.wf.cells hs
    have hs1 : σ1.cells bs = some [.slice (some ⟨b, off, none⟩) ds.length c] := (ch1.cells hn (fun e => by rcases e with e | e <;> omega)).trans hs
    rw [floop_step]
    unfold l132_0
    simp -implicitDefEqProofs only [go_sem, ↓reduceIte, Nat.reduceLT, Nat.reduceEqDiff, Nat.reduceAdd, Nat.reduceMul, Nat.reduceLeDiff, Nat.reduceSub, r132_1_go, r132_1U, r132_2_go, r132_2U, r132_3_go, r132_3U, f0, f1, f3, d1, hs, hjl, hcs, hle, fcallV_yield, after_yield, e1, w1]
    generalize hff : upd _ 3 _ = f2
    obtain ⟨f', g', σ', a1, a2, a3⟩ := ih fuel f2 _ σ1 (by omega) (by omega) (by rw [← hff]; simp -implicitDefEqProofs only [upd_go, kept_go, ↓reduceIte, Nat.reduceEqDiff, Nat.reduceLT, reduceCtorEq, f0]) (by rw [← hff]; simp -implicitDefEqProofs only [upd_go, kept_go, ↓reduceIte, Nat.reduceEqDiff, Nat.reduceLT, reduceCtorEq, f1]) (by rw [← hff]; simp -implicitDefEqProofs only [upd_go, kept_go, ↓reduceIte, Nat.reduceEqDiff, Nat.reduceLT, reduceCtorEq]) hs1 h1 (hE.keep fun x xs hx hxs => ⟨(ch1.cells (h.wf.cells hxs) (fun e => by rcases e with e | e <;> omega)).trans hxs, hx⟩)
    exact ⟨f', g', σ', a1, ch1.trans a2 fun _ _ h => h, a3⟩
theorem backward_go (n : Nat) (s : Value) (hs : oneCell s = true) (σ : FState) (hw : Wf σ) :
    ∃ σ', (env (n + 1)).call 105 [s] none σ = .ret (.func (.func 132) #[] #[.pointer (some ⟨σ.next, 0, none⟩)]) none σ' ∧ Ext σ σ' ∧ Wf σ' ∧ σ'.cells σ.next = some [s] ∧ σ'.next = σ.next + 1 := by
  rw [env_call, enter105 _ _ _ _ (by simp), Sl_start]
  unfold run105
  have o : valCells s = [s] ∧ notTuple s = true := by cases s <;> first | exact ⟨rfl, rfl⟩ | cases hs
  simp -implicitDefEqProofs only [go_sem, ↓reduceIte, Nat.reduceLT, Nat.reduceEqDiff, Nat.reduceAdd, Nat.reduceMul, Nat.reduceLeDiff, Nat.reduceSub, r105_0_go, r105_0U, r105_1_go, r105_1U, Option.getD_some, hs, o.1, o.2, notTuple_func, valCells_func, oneCell_func]
  exact ⟨_, rfl, (Ext.refl _).push _ _, hw.push _ _, by rw [cells_push, if_pos rfl]; rfl, rfl⟩
end Go.Proofs.YtodkeaoikjjneaaGreatDoor
/- plain.List whole. -/
namespace Go.Proofs.YtodkeaoikjjneaaGreatDoor
open Go Go.Eng
attribute [local congr] andThen_congr fops_congr fdraw_congr afterOp_congr drawF_congr
attribute [-go_sem] List.range_succ
theorem backwardK_go (n : Nat) {P : Nat → Prop} {l r bt bs : Nat} {fL gL : Nat → Value} (h2 : fL 2 = .pointer (some ⟨bt, 0, none⟩)) (t : D) (q : Option Addr) (c : Nat) (ds : List D) (hlen : ds.length < 1000000) (hbs : bs ≠ l ∧ bs ≠ bt) (σ : FState) (hs : σ.cells bs = some [.slice q ds.length c]) (h : ListI P l r bt fL gL t σ) (hE : LaidRE (fun b => P b ∧ b ≠ l ∧ b ≠ r ∧ b ≠ bt) σ q 0 ds) :
    ∃ σ', (env (n + 2)).call 132 [.func (.yield l) #[] #[], .pointer (some ⟨bs, 0, none⟩)] none σ = .ret (.tuple #[]) none σ' ∧ Chg (fun b => b = l ∨ b = bt) σ σ' ∧ ListI P l r bt fL gL (listD t ds) σ' := by
  rw [env_call, enter132 _ _ _ _ (by simp), Sl_start]
  unfold run132
  have w1 := pre_len ds.length (by omega)
  simp -implicitDefEqProofs only [go_sem, ↓reduceIte, Nat.reduceLT, Nat.reduceEqDiff, Nat.reduceAdd, Nat.reduceMul, Nat.reduceLeDiff, Nat.reduceSub, r132_0_go, r132_0U, Option.getD_some, hs, w1, keepBK]
  generalize hff : upd _ 3 _ = f2
  generalize hbf : bigFuel = fuel
  obtain ⟨f', g', σ', a1, a2, a3⟩ := backward_loop n h2 t q c ds hlen hbs ds.length fuel f2 _ σ (Nat.le_refl _) (by rw [← hbf]; show ds.length < 1000000000000; omega) (by rw [← hff]; simp -implicitDefEqProofs only [upd_go, kept_go, ↓reduceIte, Nat.reduceEqDiff, Nat.reduceLT, reduceCtorEq, List.getElem?_cons_zero, List.getElem?_cons_succ, Option.getD_some]) (by rw [← hff]; simp -implicitDefEqProofs only [upd_go, kept_go, ↓reduceIte, Nat.reduceEqDiff, Nat.reduceLT, reduceCtorEq, List.getElem?_cons_zero, List.getElem?_cons_succ, Option.getD_some]) (by rw [← hff]; simp -implicitDefEqProofs only [upd_go, kept_go, ↓reduceIte, Nat.reduceEqDiff, Nat.reduceLT, reduceCtorEq]) hs (by rw [List.drop_length]; exact h) hE
  rw [a1]
  simp -implicitDefEqProofs only [go_sem, ↓reduceIte, Nat.reduceLT, Nat.reduceEqDiff, Nat.reduceAdd, Nat.reduceMul, Nat.reduceLeDiff, Nat.reduceSub]
  exact ⟨_, rfl, a2, a3⟩
/-- plain.List: the list of what lies in lo and behind. -/
theorem list_go (n lo : Nat) (t : D) (ds : List D) (hlen : ds.length < 1000000) (tv : List Value) (h4 : tv.length = 4) (q : Option Addr) (c : Nat) (σ : FState) (hw : Wf σ) (hlo : lo ≤ σ.next) (hT : LaidR (fun b => lo ≤ b) σ (.agg tv.toArray) t) (hE : LaidRE (fun b => lo ≤ b) σ q 0 ds) :
    Gives ((env (n + 3)).call 62 [.agg tv.toArray, .slice q ds.length c] none σ) σ fun w σ' => LaidR (fun b => lo ≤ b) σ' w (listD t ds) := by
  have ht4 : tv.take 4 = tv := List.take_of_length_le (by omega)
  rw [env_call, enter62 _ _ _ _ (by simp), Sl_start]
  unfold run62
  have x1 : Ext σ ((σ.push (.cells tv TD) none).push (.cells [.int .i64 0, .int .i64 0, .string ⟨#[]⟩, .slice none 0 0] TD) none) := ((Ext.refl _).push _ _).push _ _
  have hw1 := (hw.push (.cells tv TD) none).push (.cells [.int .i64 0, .int .i64 0, .string ⟨#[]⟩, .slice none 0 0] TD) none
  have g1 : ((σ.push (.cells tv TD) none).push (.cells [.int .i64 0, .int .i64 0, .string ⟨#[]⟩, .slice none 0 0] TD) none).heap.get σ.next = some ⟨.cells tv TD, false, none, σ.clock⟩ := by rw [push_get, if_neg (by rw [push_next]; omega), push_get, if_pos rfl]
  have g2 : ((σ.push (.cells tv TD) none).push (.cells [.int .i64 0, .int .i64 0, .string ⟨#[]⟩, .slice none 0 0] TD) none).heap.get (σ.next + 1) = some ⟨.cells [.int .i64 0, .int .i64 0, .string ⟨#[]⟩, .slice none 0 0] TD, false, none, σ.clock + 1⟩ := by rw [push_get, if_pos (by rw [push_next])]; rfl
  have n1 : ((σ.push (.cells tv TD) none).push (.cells [.int .i64 0, .int .i64 0, .string ⟨#[]⟩, .slice none 0 0] TD) none).next = σ.next + 2 := rfl
  obtain ⟨σ2, e2, x2, hw2, c2, n2⟩ := backward_go (n + 1) (.slice q ds.length c) rfl _ hw1
  rw [n1] at e2 c2 n2
  simp -implicitDefEqProofs only [go_sem, ↓reduceIte, Nat.reduceLT, Nat.reduceEqDiff, Nat.reduceAdd, Nat.reduceMul, Nat.reduceLeDiff, Nat.reduceSub, r62_0_go, r62_0U, r62_1_go, r62_1U, Option.getD_some, e2, List.getElem?_cons_zero, List.getElem?_cons_succ]
  generalize hff : upd _ 4 _ = f1
  generalize hgg : upd _ 8 _ = g1'
  have q2 : f1 2 = .pointer (some ⟨σ.next, 0, none⟩) := by rw [← hff]; simp -implicitDefEqProofs only [upd_go, kept_go, ↓reduceIte, Nat.reduceEqDiff, Nat.reduceLT, reduceCtorEq]
  have q4 : f1 4 = .pointer (some ⟨σ.next + 1, 0, none⟩) := by rw [← hff]; simp -implicitDefEqProofs only [upd_go, kept_go, ↓reduceIte, Nat.reduceEqDiff, Nat.reduceLT, reduceCtorEq]
  have hg12 := (x2.get _ (by rw [n1]; omega)).trans g1
  have hg22 := (x2.get _ (by rw [n1]; omega)).trans g2
  have x12 := x1.trans x2
  clear hff
  rw [frange_go _ _ _ _ _ _ _ _ _ _ _ _ 8 132 #[] #[.pointer (some ⟨σ.next + 2, 0, none⟩)] (by rw [Sl_get, ← hgg]; simp -implicitDefEqProofs only [upd_go, kept_go, ↓reduceIte, Nat.reduceEqDiff, Nat.reduceLT, reduceCtorEq])]
  clear hgg
  have x3 : Ext σ2 ((σ2.push (.defd true) none).push (.loop .ready none 62 ((List.range 7).map f1) g1' 7 16 [9, 10] c62_0a c62_0b σ2.next) none) := ((Ext.refl _).push _ _).push _ _
  have hw3 := (hw2.push (.defd true) none).push (.loop .ready none 62 ((List.range 7).map f1) g1' 7 16 [9, 10] c62_0a c62_0b σ2.next) none
  have hl3 : LoopAt 62 [9, 10] c62_0a c62_0b 7 16 f1 g1' (σ2.next + 1) σ2.next .ready ((σ2.push (.defd true) none).push (.loop .ready none 62 ((List.range 7).map f1) g1' 7 16 [9, 10] c62_0a c62_0b σ2.next) none) := loop_made ..
  have hr3 : ((σ2.push (.defd true) none).push (.loop .ready none 62 ((List.range 7).map f1) g1' 7 16 [9, 10] c62_0a c62_0b σ2.next) none).heap.get σ2.next = some ⟨.defd true, false, none, σ2.clock⟩ := by rw [push_get, if_neg (by rw [push_next]; omega), push_get, if_pos rfl]
  have n3 : ((σ2.push (.defd true) none).push (.loop .ready none 62 ((List.range 7).map f1) g1' 7 16 [9, 10] c62_0a c62_0b σ2.next) none).next = σ2.next + 2 := rfl
  generalize FState.push (FState.push σ2 _ _) _ _ = σ3 at x3 hw3 hl3 hr3 n3 ⊢
  have x03 := x12.trans x3
  have kl : ∀ b cs, lo ≤ b → σ.cells b = some cs → σ3.cells b = some cs ∧ ((lo ≤ b ∧ b ≠ σ.next + 1) ∧ b ≠ σ2.next + 1 ∧ b ≠ σ2.next ∧ b ≠ σ.next) := fun b cs hb hc => by
    have := hw.cells hc
    exact ⟨(x03.cells this).trans hc, ⟨hb, by omega⟩, by omega, by omega, by omega⟩
  obtain ⟨σ4, e4, ch4, hI⟩ := backwardK_go n (P := fun b => lo ≤ b ∧ b ≠ σ.next + 1) (l := σ2.next + 1) (r := σ2.next) (bt := σ.next) (bs := σ.next + 2) (fL := f1) (gL := g1') q2 t q c ds hlen ⟨by omega, by omega⟩ σ3 ((x3.cells (by omega)).trans c2) ⟨hw3, ⟨by omega, by omega, by omega⟩, fun b hb => ⟨by omega, by omega⟩, hl3, ⟨_, hr3⟩, ⟨_, tv, (x3.get _ (by omega)).trans hg12, h4, hT.keep kl⟩⟩ (hE.keep kl)
  have hargs : (#[] : Array Value).toList ++ [Value.func (.yield (σ2.next + 1)) #[] #[]] ++ (#[.pointer (some ⟨σ.next + 2, 0, none⟩)] : Array Value).toList = [.func (.yield (σ2.next + 1)) #[] #[], .pointer (some ⟨σ.next + 2, 0, none⟩)] := rfl
  obtain ⟨hw4, ⟨l2, l3, l4⟩, _, hl4, ⟨vr, hr4⟩, ⟨vt, tv4, ht4', htl4, hL4⟩⟩ := hI
  rw [hargs, e4, leaveLoop_go _ _ _ _ _ _ _ _ _ _ _ _ _ _ _ _ hl4]
  have n4 := ch4.next
  have c4 := cells_of_get ht4'
  have hg24 : σ4.heap.get (σ.next + 1) = _ := (ch4.get _ (by omega) (fun e => by rcases e with e | e <;> omega)).trans ((x3.get _ (by omega)).trans hg22)
  have tt4 : tv4.take 4 = tv4 := List.take_of_length_le (by omega)
  obtain ⟨l4', e4', _, ho4⟩ := hL4.agg
  have e5 : tv4 = l4' := by
    have := Value.agg.inj e4'
    simpa using congrArg Array.toList this
  subst e5
  have c5 : ∀ o : FObj, (σ4.put (σ2.next + 1) o none).cells σ.next = some tv4 := fun o => by rw [cells_put, if_neg (by omega)]; exact c4
  have g5 : ∀ o : FObj, (σ4.put (σ2.next + 1) o none).heap.get (σ.next + 1) = some ⟨.cells [.int .i64 0, .int .i64 0, .string ⟨#[]⟩, .slice none 0 0] TD, false, none, σ.clock + 1⟩ := fun o => by rw [put_get, if_neg (by omega)]; exact hg24
  have hcol : ∀ (o o' : FObj), ((σ4.put (σ2.next + 1) o none).put (σ.next + 1) o' none).heap.get σ2.next = some ⟨.defd true, false, none, vr⟩ := fun o o' => by rw [put_get, if_neg (by omega), put_get, if_neg (by omega)]; exact hr4
  simp -implicitDefEqProofs only [go_sem, ↓reduceIte, Nat.reduceLT, Nat.reduceEqDiff, Nat.reduceAdd, Nat.reduceMul, Nat.reduceLeDiff, Nat.reduceSub, fstoreN, r62_4_go, r62_4U, q2, q4, c5, g5, htl4, tt4, ho4, Nat.le_refl]
  rw [fleave_collected _ _ _ _ _ _ _ _ _ _ (hcol _ _)]
  have cf : ∀ (o o' : FObj), (((σ4.put (σ2.next + 1) o none).put (σ.next + 1) (.cells tv4 TD) none).put σ2.next o' none).cells (σ.next + 1) = some tv4 := fun o o' => by rw [cells_put, if_neg (by omega), cells_put, if_pos rfl]; rfl
  simp -implicitDefEqProofs only [go_sem, ↓reduceIte, Nat.reduceLT, Nat.reduceEqDiff, Nat.reduceAdd, Nat.reduceMul, Nat.reduceLeDiff, Nat.reduceSub, q4, cf, htl4, tt4, aggDatum, fleave_nil, fresults_nil, fresults_cons, fresult_cell]
  have x04 : Ext σ σ4 := ((x03.chg _).trans ch4 fun b _ h => h).ext fun b hb h => by rcases h with h | h <;> omega
  exact ⟨_, _, rfl, ((x04.put _ _ _ (by omega)).put _ _ _ (by omega)).put _ _ _ (by omega), ((hw4.put _ _ _ (by omega)).put _ _ _ (by rw [put_next]; omega)).put _ _ _ (by rw [put_next, put_next]; omega), hL4.keep fun b cs hb hc => ⟨by
    rw [cells_put, if_neg hb.2.2.1, cells_put, if_neg hb.1.2, cells_put, if_neg hb.2.1]; exact hc, hb.1.1⟩⟩
end Go.Proofs.YtodkeaoikjjneaaGreatDoor
/- slices.Reverse, in place. -/
namespace Go.Proofs.YtodkeaoikjjneaaGreatDoor
open Go Go.Eng
attribute [local congr] andThen_congr fops_congr fdraw_congr afterOp_congr drawF_congr
attribute [-go_sem] List.range_succ
theorem splice_off (cs l4 : List Value) (off j : Nat) (hl : l4.length = 4) (ho : off + 4 ≤ cs.length) (h : j + 4 ≤ off ∨ off + 4 ≤ j) : ((cs.take off ++ l4 ++ cs.drop (off + 4)).drop j).take 4 = (cs.drop j).take 4 := by
  apply List.ext_getElem?
  intro i
  rw [List.getElem?_take, List.getElem?_take]
  split
  · rw [List.getElem?_drop, List.getElem?_drop]
    rcases h with h | h
    · rw [List.append_assoc, List.getElem?_append_left (by rw [List.length_take]; omega), List.getElem?_take, if_pos (by omega)]
    · rw [List.getElem?_append_right (by rw [List.length_append, List.length_take]; omega), List.getElem?_drop, List.length_append, List.length_take, hl]
      congr 1
      omega
  · rfl
theorem splice_at (cs l4 : List Value) (off : Nat) (hl : l4.length = 4) (ho : off + 4 ≤ cs.length) : ((cs.take off ++ l4 ++ cs.drop (off + 4)).drop off).take 4 = l4 := by
  rw [List.append_assoc, List.drop_append_of_le_length (by rw [List.length_take]; omega), List.drop_eq_nil_of_le (by rw [List.length_take]; omega), List.nil_append, List.take_append_of_le_length (by omega), List.take_of_length_le (by omega)]
theorem Row.set {R : Nat → Prop} {σ : FState} {cs l4 : List Value} {ds : List D} {d : D} (h : Row R σ cs ds) (i : Nat) (hi : i < ds.length) (hl : l4.length = 4) (ho : l4.all oneCell = true) (hd : LaidR R σ (.agg l4.toArray) d) : Row R σ (cs.take (i * 4) ++ l4 ++ cs.drop (i * 4 + 4)) (ds.set i d) := by
  obtain ⟨h1, h2, h3⟩ := h
  refine ⟨by rw [List.length_append, List.length_append, List.length_take, List.length_drop, List.length_set]; omega, ?_, fun j e he => ?_⟩
  · rw [List.all_append, List.all_append, ho]
    have a1 : (cs.take (i * 4)).all oneCell = true := List.all_eq_true.2 fun x hx => List.all_eq_true.1 h2 x (List.mem_of_mem_take hx)
    have a2 : (cs.drop (i * 4 + 4)).all oneCell = true := List.all_eq_true.2 fun x hx => List.all_eq_true.1 h2 x (List.mem_of_mem_drop hx)
    rw [a1, a2]; rfl
  · by_cases hj : i = j
    · subst hj
      rw [List.getElem?_set_self (by omega)] at he
      cases he
      rw [splice_at cs l4 _ hl (by omega)]
      exact hd
    · rw [List.getElem?_set_ne hj] at he
      rw [splice_off cs l4 _ _ hl (by omega) (by omega)]
      exact h3 j e he
/-- Turned from both ends as far as i. -/
def Turned (ds : List D) (i : Nat) (cur : List D) : Prop := cur.length = ds.length ∧ ∀ k, k < ds.length → cur[k]? = if k < i ∨ ds.length - i ≤ k then ds[ds.length - 1 - k]? else ds[k]?
theorem Turned.step {ds cur : List D} {i : Nat} (h : Turned ds i cur) (hi : i + 1 + i < ds.length) : ∃ x y, cur[i]? = some x ∧ cur[ds.length - 1 - i]? = some y ∧ Turned ds (i + 1) ((cur.set i y).set (ds.length - 1 - i) x) := by
  obtain ⟨h1, h2⟩ := h
  have e1 := h2 i (by omega)
  have e2 := h2 (ds.length - 1 - i) (by omega)
  rw [if_neg (by omega)] at e1
  rw [if_neg (by omega)] at e2
  obtain ⟨x, hx⟩ : ∃ x, ds[i]? = some x := ⟨_, List.getElem?_eq_getElem (by omega)⟩
  obtain ⟨y, hy⟩ : ∃ y, ds[ds.length - 1 - i]? = some y := ⟨_, List.getElem?_eq_getElem (by omega)⟩
  refine ⟨x, y, by rw [e1, hx], by rw [e2, hy], by rw [List.length_set, List.length_set, h1], fun k hk => ?_⟩
  by_cases k1 : ds.length - 1 - i = k
  · subst k1
    rw [List.getElem?_set_self (by rw [List.length_set]; omega), if_pos (by omega), show ds.length - 1 - (ds.length - 1 - i) = i by omega, hx]
  · rw [List.getElem?_set_ne k1]
    by_cases k2 : i = k
    · subst k2
      rw [List.getElem?_set_self (by omega), if_pos (by omega), hy]
    · rw [List.getElem?_set_ne k2, h2 k hk]
      by_cases c : k < i ∨ ds.length - i ≤ k
      · rw [if_pos c, if_pos (by omega)]
      · rw [if_neg c, if_neg (by omega)]
theorem Turned.done {ds cur : List D} {i : Nat} (h : Turned ds i cur) (hi : ds.length ≤ i + 1 + i) : cur = ds.reverse := by
  obtain ⟨h1, h2⟩ := h
  apply List.ext_getElem?
  intro k
  by_cases hk : k < ds.length
  · rw [List.getElem?_reverse hk, h2 k hk]
    by_cases c : k < i ∨ ds.length - i ≤ k
    · rw [if_pos c]
    · rw [if_neg c, show ds.length - 1 - k = k by omega]
  · rw [List.getElem?_eq_none (by omega), List.getElem?_eq_none (by rw [List.length_reverse]; omega)]
theorem Turned.start (ds : List D) : Turned ds 0 ds := ⟨rfl, fun k hk => by rw [if_neg (by omega)]⟩
theorem keepRV : keepOf nls 71 = [] := by kernel_rfl
theorem reverse_loop (n : Nat) {R : Nat → Prop} {b c : Nat} {ds : List D} (hlen : ds.length < 1000000) (h0 : 0 < ds.length) (hR : ¬ R b) :
    ∀ (j fuel i : Nat) (cur : List D) (cs : List Value) (ver : Nat) (f g : Nat → Value) (σ : FState), ds.length ≤ i + 1 + i + j → 2 * i ≤ ds.length → j < fuel → f 0 = .slice (some ⟨b, 0, none⟩) ds.length c → f 2 = .int .i64 (.ofNat i) → f 3 = .int .i64 (.ofNat (ds.length - 1 - i)) → Wf σ → σ.heap.get b = some ⟨.cells cs TD, false, some 4, ver⟩ → Row R σ cs cur → Turned ds i cur →
      ∃ f' g' σ' cs' ver', floop [] (l71_0 (env n) none 71) fuel (Sl 4 28 f g []) none σ = .done (.exit 0) (Sl 4 28 f' g' []) none σ' ∧ Chg (fun x => x = b) σ σ' ∧ Wf σ' ∧ σ'.heap.get b = some ⟨.cells cs' TD, false, some 4, ver'⟩ ∧ Row R σ' cs' ds.reverse := by
  intro j
  induction j with
  | zero =>
    intro fuel i cur cs ver f g σ hj hi2 hf f0 f2 f3 hw hb hr ht
    obtain ⟨fuel, rfl⟩ : ∃ q, fuel = q + 1 := ⟨fuel - 1, by omega⟩
    have d1 : decide (Int.ofNat i < Int.ofNat (ds.length - 1 - i)) = false := by simp; omega
    rw [floop_step]
    unfold l71_0
    simp -implicitDefEqProofs only [go_sem, ↓reduceIte, Nat.reduceLT, Nat.reduceEqDiff, Nat.reduceAdd, Nat.reduceMul, Nat.reduceLeDiff, Nat.reduceSub, r71_1_go, r71_1U, f2, f3, d1]
    have := ht.done (by omega)
    subst this
    exact ⟨_, _, _, _, _, rfl, Chg.refl _ _, hw, hb, hr⟩
  | succ j ih =>
    intro fuel i cur cs ver f g σ hj hi2 hf f0 f2 f3 hw hb hr ht
    by_cases hlt : i + 1 + i < ds.length
    · obtain ⟨fuel, rfl⟩ : ∃ q, fuel = q + 1 := ⟨fuel - 1, by omega⟩
      have d1 : decide (Int.ofNat i < Int.ofNat (ds.length - 1 - i)) = true := by simp; omega
      obtain ⟨x, y, hx, hy, ht'⟩ := ht.step hlt
      have hil : i < ds.length := by omega
      have hjl : ds.length - 1 - i < ds.length := by omega
      have hcl : cs.length = ds.length * 4 := by rw [hr.1, ht.1]
      have hbn := (hw _ _ hb).1
      have hc := cells_of_get hb
      have hvw := view_wf hw (lam := σ.clock) (Nat.le_refl _)
      have m1 : 4 ≤ cs.length - i * 4 := by omega
      have m2 : 4 ≤ cs.length - (ds.length - 1 - i) * 4 := by omega
      have hLx := hr.2.2 _ _ hx
      have hLy := hr.2.2 _ _ hy
      obtain ⟨xl, ex, hxl, hxo⟩ := hLx.agg
      obtain ⟨yl, ey, hyl, hyo⟩ := hLy.agg
      have ex' : (cs.drop (i * 4)).take 4 = xl := by
        have := Value.agg.inj ex
        simpa using congrArg Array.toList this
      have ey' : (cs.drop ((ds.length - 1 - i) * 4)).take 4 = yl := by
        have := Value.agg.inj ey
        simpa using congrArg Array.toList this
      rw [ex'] at hLx
      rw [ey'] at hLy
      have w1 := add1 i (by omega)
      have w2 : wrapI (Int.ofNat (ds.length - 1 - i) - 1) = Int.ofNat (ds.length - 1 - (i + 1)) := by
        have := sub1 (ds.length - 1 - (i + 1)) (by omega)
        rwa [show ds.length - 1 - (i + 1) + 1 = ds.length - 1 - i by omega] at this
      have m3 : i * 4 + 4 ≤ cs.length := by omega
      have m4 : (ds.length - 1 - i) * 4 + 4 ≤ (cs.take (i * 4) ++ (yl ++ cs.drop (i * 4 + 4))).length := by
        rw [List.length_append, List.length_append, List.length_take, List.length_drop]; omega
      rw [floop_step]
      unfold l71_0
      simp -implicitDefEqProofs only [go_sem, ↓reduceIte, Nat.reduceLT, Nat.reduceEqDiff, Nat.reduceAdd, Nat.reduceMul, Nat.reduceLeDiff, Nat.reduceSub, fstoreN, r71_1_go, r71_1U, r71_2_go, r71_2U, r71_3_go, r71_3U, f0, f2, f3, d1, hil, hjl, hvw, hc, hb, m1, m2, ex', ey', hxl, hxo, hyl, hyo, m3, m4, w1, w2, List.append_assoc]
      generalize hff : upd _ 3 _ = f1
      have kp : ∀ (o o' : FObj) x xs, R x → σ.cells x = some xs → ((σ.put b o (some 4)).put b o' (some 4)).cells x = some xs ∧ R x := fun o o' x xs hx hxs => by
        have : x ≠ b := fun e => hR (e ▸ hx)
        exact ⟨by rw [cells_put, if_neg this, cells_put, if_neg this]; exact hxs, hx⟩
      have hr2 : Row R ((σ.put b (.cells (cs.take (i * 4) ++ (yl ++ cs.drop (i * 4 + 4))) TD) (some 4)).put b (.cells ((cs.take (i * 4) ++ (yl ++ cs.drop (i * 4 + 4))).take ((ds.length - 1 - i) * 4) ++ (xl ++ (cs.take (i * 4) ++ (yl ++ cs.drop (i * 4 + 4))).drop ((ds.length - 1 - i) * 4 + 4))) TD) (some 4)) ((cs.take (i * 4) ++ (yl ++ cs.drop (i * 4 + 4))).take ((ds.length - 1 - i) * 4) ++ (xl ++ (cs.take (i * 4) ++ (yl ++ cs.drop (i * 4 + 4))).drop ((ds.length - 1 - i) * 4 + 4))) ((cur.set i y).set (ds.length - 1 - i) x) := by
        have := Row.set (Row.set (hr.keep (kp (.cells (cs.take (i * 4) ++ (yl ++ cs.drop (i * 4 + 4))) TD) (.cells ((cs.take (i * 4) ++ (yl ++ cs.drop (i * 4 + 4))).take ((ds.length - 1 - i) * 4) ++ (xl ++ (cs.take (i * 4) ++ (yl ++ cs.drop (i * 4 + 4))).drop ((ds.length - 1 - i) * 4 + 4))) TD))) i (by rw [ht.1]; omega) hyl hyo (hLy.keep (kp _ _))) (ds.length - 1 - i) (by rw [List.length_set, ht.1]; omega) hxl hxo (hLx.keep (kp _ _))
        simpa only [List.append_assoc] using this
      obtain ⟨f', g', σ', cs', ver', a1, a2, a3, a4, a5⟩ := ih fuel (i + 1) _ _ _ f1 _ _ (by omega) (by omega) (by omega) (by rw [← hff]; simp -implicitDefEqProofs only [upd_go, kept_go, ↓reduceIte, Nat.reduceEqDiff, Nat.reduceLT, reduceCtorEq, f0]) (by rw [← hff]; simp -implicitDefEqProofs only [upd_go, kept_go, ↓reduceIte, Nat.reduceEqDiff, Nat.reduceLT, reduceCtorEq]) (by rw [← hff]; simp -implicitDefEqProofs only [upd_go, kept_go, ↓reduceIte, Nat.reduceEqDiff, Nat.reduceLT, reduceCtorEq]) ((hw.put b _ _ hbn).put b _ _ (by rw [put_next]; exact hbn)) (by rw [put_get, if_pos rfl]) hr2 ht'
      exact ⟨f', g', σ', cs', ver', a1, (((Chg.refl (fun x => x = b) σ).put _ _ _ (.inr rfl)).put _ _ _ (.inr rfl)).trans a2 fun _ _ h => h, a3, a4, a5⟩
    · exact ih fuel i cur cs ver f g σ (by omega) hi2 (by omega) f0 f2 f3 hw hb hr ht
/-- slices.Reverse of a vector that has its own block. -/
theorem reverse_go (n : Nat) {Q R : Nat → Prop} (hQR : ∀ b, Q b → ¬ R b) {s : Value} {ds : List D} (hlen : ds.length < 1000000) (σ : FState) (hw : Wf σ) (hV : VecG Q R σ s ds) :
    ∃ σ', (env (n + 1)).call 71 [s] none σ = .ret (.tuple #[]) none σ' ∧ Chg Q σ σ' ∧ Wf σ' ∧ VecG Q R σ' s ds.reverse := by
  rw [env_call, enter71 _ _ _ _ (by simp), Sl_start]
  unfold run71
  rcases hV with ⟨rfl, rfl⟩ | ⟨b, cs, ver, rfl, hb, hq, hr⟩
  · have w1 : wrapI (Int.ofNat 0 - 1) = -1 := by decide
    have d1 : decide ((0 : Int) < -1) = false := by decide
    simp -implicitDefEqProofs only [go_sem, ↓reduceIte, Nat.reduceLT, Nat.reduceEqDiff, Nat.reduceAdd, Nat.reduceMul, Nat.reduceLeDiff, Nat.reduceSub, r71_0_go, r71_0U, Option.getD_some, w1, keepRV]
    rw [show bigFuel = 999999999999 + 1 from rfl, floop_step]
    unfold l71_0
    simp -implicitDefEqProofs only [go_sem, ↓reduceIte, Nat.reduceLT, Nat.reduceEqDiff, Nat.reduceAdd, Nat.reduceMul, Nat.reduceLeDiff, Nat.reduceSub, r71_1_go, r71_1U, d1]
    exact ⟨_, rfl, Chg.refl _ _, hw, .inl ⟨rfl, rfl⟩⟩
  · by_cases h0 : ds.length = 0
    · have : ds = [] := List.length_eq_zero_iff.1 h0
      subst this
      have w1 : wrapI (Int.ofNat 0 - 1) = -1 := by decide
      have d1 : decide ((0 : Int) < -1) = false := by decide
      simp -implicitDefEqProofs only [go_sem, ↓reduceIte, Nat.reduceLT, Nat.reduceEqDiff, Nat.reduceAdd, Nat.reduceMul, Nat.reduceLeDiff, Nat.reduceSub, r71_0_go, r71_0U, Option.getD_some, w1, keepRV]
      rw [show bigFuel = 999999999999 + 1 from rfl, floop_step]
      unfold l71_0
      simp -implicitDefEqProofs only [go_sem, ↓reduceIte, Nat.reduceLT, Nat.reduceEqDiff, Nat.reduceAdd, Nat.reduceMul, Nat.reduceLeDiff, Nat.reduceSub, r71_1_go, r71_1U, d1]
      exact ⟨_, rfl, Chg.refl _ _, hw, .inr ⟨b, cs, ver, rfl, hb, hq, hr⟩⟩
    · have w1 : wrapI (Int.ofNat ds.length - 1) = Int.ofNat (ds.length - 1) := by
        have := sub1 (ds.length - 1) (by omega)
        rwa [show ds.length - 1 + 1 = ds.length by omega] at this
      simp -implicitDefEqProofs only [go_sem, ↓reduceIte, Nat.reduceLT, Nat.reduceEqDiff, Nat.reduceAdd, Nat.reduceMul, Nat.reduceLeDiff, Nat.reduceSub, r71_0_go, r71_0U, Option.getD_some, w1, keepRV]
      generalize hff : upd _ 3 _ = f1
      generalize hbf : bigFuel = fuel
      obtain ⟨f', g', σ', cs', ver', a1, a2, a3, a4, a5⟩ := reverse_loop n (c := ds.length) hlen (by omega) (hQR b hq) ds.length fuel 0 ds cs ver f1 _ σ (by omega) (by omega) (by rw [← hbf]; show ds.length < 1000000000000; omega) (by rw [← hff]; simp -implicitDefEqProofs only [upd_go, kept_go, ↓reduceIte, Nat.reduceEqDiff, Nat.reduceLT, reduceCtorEq, List.getElem?_cons_zero, Option.getD_some]) (by rw [← hff]; simp -implicitDefEqProofs only [upd_go, kept_go, ↓reduceIte, Nat.reduceEqDiff, Nat.reduceLT, reduceCtorEq] <;> rfl) (by rw [← hff]; simp -implicitDefEqProofs only [upd_go, kept_go, ↓reduceIte, Nat.reduceEqDiff, Nat.reduceLT, reduceCtorEq, Nat.sub_zero]) hw hb hr (Turned.start ds)
      rw [a1]
      simp -implicitDefEqProofs only [go_sem, ↓reduceIte, Nat.reduceLT, Nat.reduceEqDiff, Nat.reduceAdd, Nat.reduceMul, Nat.reduceLeDiff, Nat.reduceSub]
      exact ⟨_, rfl, a2.weaken fun x _ e => by rw [e]; exact hq, a3, .inr ⟨b, cs', ver', by rw [List.length_reverse], a4, hq, a5⟩⟩
end Go.Proofs.YtodkeaoikjjneaaGreatDoor
/- Package guard's Call for a list of data. -/
namespace Go.Proofs.YtodkeaoikjjneaaGreatDoor
open Go Go.Eng
attribute [local congr] andThen_congr fops_congr fdraw_congr afterOp_congr drawF_congr
attribute [-go_sem] List.range_succ
theorem deferredAtL (n : Nat) (p q : Value) (σ : FState) : (env (n + 1)).call 133 [p, q] (some .returning) σ = .ret (.tuple #[]) (some .returning) σ := by
  rw [env_defer, enter133 _ _ _ _ (by simp), Sl_start]
  unfold run133
  simp -implicitDefEqProofs only [go_sem, ↓reduceIte, Nat.reduceLT, Nat.reduceEqDiff, Nat.reduceAdd, Nat.reduceMul, Nat.reduceLeDiff, Nat.reduceSub, r133_0_go, r133_0U, r133_3_go, r133_3U, r133_4_go, r133_4U, nilAny]
theorem callAtL (n w : Nat) (cap : Array Value) (ds : List D) (σ : FState) (hw : Wf σ)
    (h : ∀ σ', Ext σ σ' → Wf σ' → Gives ((env (n + 1)).call w cap.toList none σ') σ' fun v σ'' => ∃ q c, v = .slice q ds.length c ∧ LaidRE (fun b => σ'.next ≤ b) σ'' q 0 ds) :
    Gives ((env (n + 2)).call 107 [.func (.func w) #[] cap] none σ) σ fun v σ' => ∃ q c, v = .tuple #[.slice q ds.length c, .int .i64 0, .int .i64 0] ∧ LaidRE (fun b => σ.next ≤ b) σ' q 0 ds := by
  rw [env_call, enter107 _ _ _ _ (by simp), Sl_start]
  unfold run107
  have hX1 : Ext σ ((σ.push (.cells [.int .i64 0] 3) none).push (.cells [.int .i64 0] 32) none) := ((Ext.refl _).push _ _).push _ _
  have hw1 := (hw.push (.cells [.int .i64 0] 3) none).push (.cells [.int .i64 0] 32) none
  obtain ⟨_, σ2, e2, hX2, hw2, q, c, rfl, hE⟩ := h _ hX1 hw1
  have g0 : σ2.heap.get σ.next = _ := (hX2.get σ.next (by simp only [push_next]; omega)).trans (by simp -implicitDefEqProofs only [push_get, push_next, Nat.add_assoc, Nat.reduceAdd, Nat.left_eq_add, reduceCtorEq, ↓reduceIte, Nat.reduceEqDiff] <;> rfl)
  have g1 : σ2.heap.get (σ.next + 1) = _ := (hX2.get (σ.next + 1) (by simp only [push_next]; omega)).trans (by simp -implicitDefEqProofs only [push_get, push_next, Nat.add_assoc, Nat.reduceAdd, Nat.add_left_cancel_iff, reduceCtorEq, ↓reduceIte, Nat.reduceEqDiff] <;> rfl)
  simp -implicitDefEqProofs only [go_sem, ↓reduceIte, Nat.reduceLT, Nat.reduceEqDiff, Nat.reduceAdd, Nat.reduceMul, Nat.reduceLeDiff, Nat.reduceSub, fstoreN, r107_0_go, r107_0U, r107_1_go, r107_1U, r107_2_go, r107_2U, Option.getD_some, e2, g0, g1, aggInt, aggErrno, deferredAtL, fleave_nil, fresults_nil, fresults_cons, fresult_cell, fresult_tmp]
  have m0 := (hw2 _ _ g0).1
  have m1 := (hw2 _ _ g1).1
  exact ⟨_, _, rfl, ((hX1.trans hX2).put _ _ _ (Nat.le_refl _)).put _ _ _ (Nat.le_add_right _ _), (hw2.put _ _ _ m0).put _ _ _ m1, q, c, rfl, hE.keep fun b cs hb hc => by
    simp only [push_next] at hb
    exact ⟨by rw [cells_put, if_neg (by omega), cells_put, if_neg (by omega)]; exact hc, by omega⟩⟩
theorem callL (n w : Nat) (cap : Array Value) (ds : List D) (σ : FState) (hw : Wf σ)
    (h : ∀ σ', Ext σ σ' → Wf σ' → Gives ((env (n + 1)).call w cap.toList none σ') σ' fun v σ'' => ∃ q c, v = .slice q ds.length c ∧ LaidRE (fun b => σ'.next ≤ b) σ'' q 0 ds) :
    Gives ((env (n + 3)).call 65 [.func (.func w) #[] cap] none σ) σ fun v σ' => ∃ q c, v = .tuple #[.slice q ds.length c, .int .i64 0] ∧ LaidRE (fun b => σ.next ≤ b) σ' q 0 ds := by
  rw [env_call, enter65 _ _ _ _ (by simp), Sl_start]
  unfold run65
  obtain ⟨_, σ2, e2, hX2, hw2, q, c, rfl, hE⟩ := callAtL n w cap ds σ hw h
  simp -implicitDefEqProofs only [go_sem, ↓reduceIte, Nat.reduceLT, Nat.reduceEqDiff, Nat.reduceAdd, Nat.reduceMul, Nat.reduceLeDiff, Nat.reduceSub, r65_0_go, r65_0U, r65_1_go, r65_1U, r65_2_go, r65_2U, Option.getD_some, e2, fleave_nil, fresults_nil, fresults_cons, fresult_tmp, List.getElem?_cons_zero]
  exact ⟨_, _, rfl, hX2, hw2, q, c, rfl, hE⟩
end Go.Proofs.YtodkeaoikjjneaaGreatDoor
/- datum.ToList, datum.Turn, datum.Append. -/
namespace Go.Proofs.YtodkeaoikjjneaaGreatDoor
open Go Go.Eng
attribute [local congr] andThen_congr fops_congr fdraw_congr afterOp_congr drawF_congr
attribute [-go_sem] List.range_succ
/-- Elements of a list, as functions take it. -/
structure Elems (M : Nat) (es : List D) : Prop where
  sane : ∀ e ∈ es, Sane M e
  deep : ∀ e ∈ es, e.deep ≤ 4
  len : es.length ≤ 12
  few : D.counts es ≤ 1900
theorem nil_deep : nilD.deep = 1 := rfl
theorem nil_count : nilD.count = 1 := rfl
theorem Elems.count {M : Nat} {es : List D} (h : Elems M es) : (listD nilD es).count ≤ 2000 := by rw [listD_count, nil_count]; have := h.len; have := h.few; omega
theorem Elems.depth {M : Nat} {es : List D} (h : Elems M es) : (listD nilD es).deep ≤ 16 := by
  have := listD_deep nilD 4 es h.deep
  rw [nil_deep] at this
  have := h.len
  omega
theorem Elems.all {M : Nat} {es : List D} (h : Elems M es) : Sane M (listD nilD es) := sane_list (sane_nil M) h.sane
theorem copyS (M n : Nat) (hM : M = n + 30) (d : D) (hd : d.deep ≤ 16) (hc : d.count ≤ 2000) : CopyAt (M + 3) d := by
  have := copy_go (n + 1) 16 d hd (by omega)
  rwa [show n + 1 + 2 * 16 = M + 3 by omega] at this
theorem Elems.copies {M : Nat} {es : List D} (h : Elems M es) (n : Nat) (hM : M = n + 30) : ∀ d ∈ es, CopyAt (M + 3) d := fun d hd => copyS M n hM d (by have := h.deep d hd; omega) (by have := count_mem hd; have := h.few; omega)
theorem Elems.reverse {M : Nat} {es : List D} (h : Elems M es) : Elems M es.reverse := ⟨fun e he => h.sane e (List.mem_reverse.1 he), fun e he => h.deep e (List.mem_reverse.1 he), by rw [List.length_reverse]; exact h.len, by rw [counts_reverse]; exact h.few⟩
theorem tolist1 (M n : Nat) (hM : M = n + 30) (bd : Nat) (es : List D) (h : Elems M es) (lv : List Value) (h4 : lv.length = 4) (R : Nat → Prop) (σ : FState) (hw : Wf σ) (hb : σ.cells bd = some lv) (hL : LaidR R σ (.agg lv.toArray) (listD nilD es)) (hR : ∀ b, R b → b < σ.next) :
    Gives ((env (M + 6)).call 66 [.pointer (some ⟨bd, 0, none⟩)] none σ) σ fun v σ' => ∃ q c, v = .slice q es.length c ∧ LaidRE (fun b => σ.next ≤ b) σ' q 0 es := by
  rw [env_call, enter66 _ _ _ _ (by simp), Sl_start]
  unfold run66
  have hlen := h.len
  have ht : lv.take 4 = lv := List.take_of_length_le (by omega)
  obtain ⟨_, σ1, e1, x1, hw1, rfl⟩ := validS_go M _ h.all h.count (by have := h.depth; omega) lv h4 R σ hw hL hR
  have c1 := (x1.cells (hw.cells hb)).trans hb
  obtain ⟨s, σ2, e2, x2, hw2, hV⟩ := elementsL_go (M + 3) es (by omega) lv h4 σ1 hw1 (hL.keep fun b cs hb hc => ⟨(x1.cells (hw.cells hc)).trans hc, hb⟩) (fun b hb => by have := hR b hb; have := x1.next; omega)
  obtain ⟨p, rfl, hE⟩ := hV.slice
  obtain ⟨_, σ3, e3, x3, hw3, q, c, rfl, hE'⟩ := copyAll_go (M + 3) es (h.copies n hM) (by omega) p es.length _ σ2 hw2 hE
  simp -implicitDefEqProofs only [go_sem, ↓reduceIte, Nat.reduceLT, Nat.reduceEqDiff, Nat.reduceAdd, Nat.reduceMul, Nat.reduceLeDiff, Nat.reduceSub, r66_0_go, r66_0U, r66_1_go, r66_1U, r66_2_go, r66_2U, Option.getD_some, hb, c1, h4, ht, e1, e2, e3, Nat.le_refl]
  exact ⟨_, _, rfl, (x1.trans x2).trans x3, hw3, q, c, rfl, hE'.keep fun b cs hb hc => ⟨hc, by have := x1.next; have := x2.next; omega⟩⟩
/-- datum.ToList. -/
theorem tolist_go (M n : Nat) (hM : M = n + 30) (es : List D) (h : Elems M es) (lv : List Value) (h4 : lv.length = 4) (R : Nat → Prop) (σ : FState) (hw : Wf σ) (hL : LaidR R σ (.agg lv.toArray) (listD nilD es)) (hR : ∀ b, R b → b < σ.next) :
    Gives ((env (M + 9)).call 16 [.agg lv.toArray] none σ) σ fun w σ' => ∃ q c, w = .tuple #[.slice q es.length c, .int .i64 0] ∧ LaidRE (fun b => σ.next ≤ b) σ' q 0 es := by
  rw [env_call, enter16 _ _ _ _ (by simp), Sl_start]
  unfold run16
  have ht : lv.take 4 = lv := List.take_of_length_le (by omega)
  have x1 : Ext σ (σ.push (.cells lv TD) none) := (Ext.refl _).push _ _
  have hw1 := hw.push (.cells lv TD) none
  have c1 : (σ.push (.cells lv TD) none).cells σ.next = some lv := by rw [cells_push, if_pos rfl]; rfl
  obtain ⟨_, σ2, e2, x2, hw2, q, c, rfl, hE⟩ := callL (M + 5) 66 #[.pointer (some ⟨σ.next, 0, none⟩)] es _ hw1 fun σ' hx' hw' =>
    tolist1 M n hM σ.next es h lv h4 R σ' hw' ((hx'.cells (hw1.cells c1)).trans c1) (hL.keep fun b cs hb hc => ⟨((x1.trans hx').cells (hw.cells hc)).trans hc, hb⟩) (fun b hb => by have := hR b hb; have := (x1.trans hx').next; omega)
  simp -implicitDefEqProofs only [go_sem, ↓reduceIte, Nat.reduceLT, Nat.reduceEqDiff, Nat.reduceAdd, Nat.reduceMul, Nat.reduceLeDiff, Nat.reduceSub, r16_0_go, r16_0U, r16_1_go, r16_1U, Option.getD_some, e2, h4, fleave_nil, fresults_nil, fresults_cons, fresult_tmp]
  exact ⟨_, _, rfl, x1.trans x2, hw2, q, c, rfl, hE.keep fun b cs hb hc => ⟨hc, by rw [push_next] at hb; omega⟩⟩
end Go.Proofs.YtodkeaoikjjneaaGreatDoor
/- datum.Turn, datum.Append. -/
namespace Go.Proofs.YtodkeaoikjjneaaGreatDoor
open Go Go.Eng
attribute [local congr] andThen_congr fops_congr fdraw_congr afterOp_congr drawF_congr
attribute [-go_sem] List.range_succ
theorem laid_nil (P : Nat → Prop) (σ : FState) : LaidR P σ (.agg #[.int .i64 0, .int .i64 0, .string ⟨#[]⟩, .slice none 0 0]) nilD := ⟨none, 0, rfl, trivial⟩
theorem turn1 (M n : Nat) (hM : M = n + 30) (bd : Nat) (es : List D) (h : Elems M es) (lv : List Value) (h4 : lv.length = 4) (R : Nat → Prop) (σ : FState) (hw : Wf σ) (hb : σ.cells bd = some lv) (hL : LaidR R σ (.agg lv.toArray) (listD nilD es)) (hR : ∀ b, R b → b < σ.next) :
    Gives ((env (M + 6)).call 70 [.pointer (some ⟨bd, 0, none⟩)] none σ) σ fun v σ' => LaidR (fun b => σ.next ≤ b) σ' v (listD nilD es.reverse) := by
  rw [env_call, enter70 _ _ _ _ (by simp), Sl_start]
  unfold run70
  have hlen := h.len
  have ht : lv.take 4 = lv := List.take_of_length_le (by omega)
  have x0 : Ext σ (σ.push (.cells [.int .i64 0, .int .i64 0, .string ⟨#[]⟩, .slice none 0 0] TD) none) := (Ext.refl _).push _ _
  have hw0 := hw.push (.cells [.int .i64 0, .int .i64 0, .string ⟨#[]⟩, .slice none 0 0] TD) none
  have g0 : (σ.push (.cells [.int .i64 0, .int .i64 0, .string ⟨#[]⟩, .slice none 0 0] TD) none).heap.get σ.next = some ⟨.cells [.int .i64 0, .int .i64 0, .string ⟨#[]⟩, .slice none 0 0] TD, false, none, σ.clock⟩ := by rw [push_get, if_pos rfl]
  have n0 : (σ.push (.cells [.int .i64 0, .int .i64 0, .string ⟨#[]⟩, .slice none 0 0] TD) none).next = σ.next + 1 := rfl
  have ne1 : (bd = σ.next) = False := by have := hw.cells hb; simp; omega
  simp -implicitDefEqProofs only [go_sem, ↓reduceIte, Nat.reduceLT, Nat.reduceEqDiff, Nat.reduceAdd, Nat.reduceMul, Nat.reduceLeDiff, Nat.reduceSub, r70_0_go, r70_0U, Option.getD_some]
  have c0 := (x0.cells (hw.cells hb)).trans hb
  generalize FState.push σ _ _ = σ0 at x0 hw0 g0 n0 c0 ⊢
  obtain ⟨_, σ1, e1, x1, hw1, rfl⟩ := validS_go M _ h.all h.count (by have := h.depth; omega) lv h4 R σ0 hw0 (hL.keep fun b cs hb hc => ⟨(x0.cells (hw.cells hc)).trans hc, hb⟩) (fun b hb => by have := hR b hb; omega)
  have x01 := x0.trans x1
  have n1 := x1.next
  have c1 := (x1.cells (hw0.cells c0)).trans c0
  obtain ⟨s, σ2, e2, x2, hw2, hV⟩ := elementsL_go (M + 3) es (by omega) lv h4 σ1 hw1 (hL.keep fun b cs hb hc => ⟨(x01.cells (hw.cells hc)).trans hc, hb⟩) (fun b hb => by have := hR b hb; omega)
  obtain ⟨σ3, e3, ch3, hw3, hV3⟩ := reverse_go (M + 4) (fun b hb hr => by have := hR b hr; omega) (by omega) σ2 hw2 hV
  have o := hV.one
  have n2 := x2.next
  have n3 := ch3.next
  obtain ⟨p, hs, hE⟩ := hV3.slice
  obtain ⟨_, σ4, e4, x4, hw4, q, c, rfl, hE'⟩ := copyAll_go (M + 3) es.reverse (h.reverse.copies n hM) (by rw [List.length_reverse]; omega) p es.reverse.length _ σ3 hw3 hE
  rw [← hs] at e4
  have n4 := x4.next
  obtain ⟨_, σ5, e5, x5, hw5, hL5⟩ := list_go (M + 2) (σ.next + 1) nilD es.reverse (by rw [List.length_reverse]; omega) [.int .i64 0, .int .i64 0, .string ⟨#[]⟩, .slice none 0 0] rfl q c σ4 hw4 (by omega) (laid_nil _ _) (hE'.keep fun b cs hb hc => ⟨hc, by omega⟩)
  obtain ⟨l4, rfl, hl4, ho4⟩ := hL5.agg
  have n5 := x5.next
  have g5 : σ5.heap.get σ.next = _ := (x5.get _ (by omega)).trans ((x4.get _ (by omega)).trans ((ch3.get _ (by omega) (by omega)).trans ((x2.get _ (by omega)).trans ((x1.get _ (by omega)).trans g0))))
  have tl4 : l4.take 4 = l4 := List.take_of_length_le (by omega)
  simp -implicitDefEqProofs only [go_sem, ↓reduceIte, Nat.reduceLT, Nat.reduceEqDiff, Nat.reduceAdd, Nat.reduceMul, Nat.reduceLeDiff, Nat.reduceSub, fstoreN, Option.getD_some, List.getElem?_cons_zero, r70_1_go, r70_1U, r70_2_go, r70_2U, r70_3_go, r70_3U, r70_4_go, r70_4U, c0, c1, h4, ht, e1, e2, o.1, o.2.1, o.2.2, e3, e4, e5, g5, hl4, ho4, tl4, aggDatum, fleave_nil, fresults_nil, fresults_cons, fresult_cell, Nat.le_refl]
  have x05 : Ext σ σ5 := ((((x01.trans x2).chg _).trans ch3 fun b _ h => h).ext fun b hb h => by omega).trans (x4.trans x5)
  exact ⟨_, _, rfl, x05.put _ _ _ (Nat.le_refl _), hw5.put _ _ _ (by omega), hL5.keep fun b cs hb hc => ⟨by rw [cells_put, if_neg (by omega)]; exact hc, by omega⟩⟩
/-- datum.Turn. -/
theorem turn_go (M n : Nat) (hM : M = n + 30) (es : List D) (h : Elems M es) (lv : List Value) (h4 : lv.length = 4) (R : Nat → Prop) (σ : FState) (hw : Wf σ) (hL : LaidR R σ (.agg lv.toArray) (listD nilD es)) (hR : ∀ b, R b → b < σ.next) :
    Gives ((env (M + 9)).call 19 [.agg lv.toArray] none σ) σ fun w σ' => ∃ u, w = .tuple #[u, .int .i64 0] ∧ LaidR (fun b => σ.next ≤ b) σ' u (listD nilD es.reverse) := by
  rw [env_call, enter19 _ _ _ _ (by simp), Sl_start]
  unfold run19
  have ht : lv.take 4 = lv := List.take_of_length_le (by omega)
  have x1 : Ext σ ((σ.push (.cells lv TD) none).push (.cells [.int .i64 0, .int .i64 0, .string ⟨#[]⟩, .slice none 0 0] TD) none) := ((Ext.refl _).push _ _).push _ _
  have hw1 := (hw.push (.cells lv TD) none).push (.cells [.int .i64 0, .int .i64 0, .string ⟨#[]⟩, .slice none 0 0] TD) none
  have c1 : ((σ.push (.cells lv TD) none).push (.cells [.int .i64 0, .int .i64 0, .string ⟨#[]⟩, .slice none 0 0] TD) none).cells σ.next = some lv := by rw [cells_push, if_neg (by rw [push_next]; omega), cells_push, if_pos rfl]; rfl
  have g2 : ((σ.push (.cells lv TD) none).push (.cells [.int .i64 0, .int .i64 0, .string ⟨#[]⟩, .slice none 0 0] TD) none).heap.get (σ.next + 1) = some ⟨.cells [.int .i64 0, .int .i64 0, .string ⟨#[]⟩, .slice none 0 0] TD, false, none, σ.clock + 1⟩ := by rw [push_get, if_pos (by rw [push_next])]; rfl
  obtain ⟨_, σ2, e2, x2, hw2, u, rfl, hq⟩ := callD (M + 5) 70 #[.pointer (some ⟨σ.next, 0, none⟩)] (listD nilD es.reverse) _ hw1 fun σ' hx' hw' =>
    turn1 M n hM σ.next es h lv h4 R σ' hw' ((hx'.cells (hw1.cells c1)).trans c1) (hL.keep fun b cs hb hc => ⟨((x1.trans hx').cells (hw.cells hc)).trans hc, hb⟩) (fun b hb => by have := hR b hb; have := (x1.trans hx').next; omega)
  obtain ⟨l4, rfl, hl4, ho4⟩ := hq.agg
  have g2' := (x2.get _ (hw1 _ _ g2).1).trans g2
  have m2 := (hw2 _ _ g2').1
  have tl4 : l4.take 4 = l4 := List.take_of_length_le (by omega)
  simp -implicitDefEqProofs only [go_sem, ↓reduceIte, Nat.reduceLT, Nat.reduceEqDiff, Nat.reduceAdd, Nat.reduceMul, Nat.reduceLeDiff, Nat.reduceSub, fstoreN, r19_0_go, r19_0U, r19_1_go, r19_1U, Option.getD_some, h4, e2, g2', hl4, ho4, tl4, aggDatum, fleave_nil, fresults_nil, fresults_cons, fresult_cell, fresult_tmp]
  exact ⟨_, _, rfl, (x1.trans x2).put _ _ _ (by omega), hw2.put _ _ _ m2, _, rfl, hq.keep fun b cs hb hc => by
    simp only [push_next] at hb
    exact ⟨by rw [cells_put, if_neg (by omega)]; exact hc, by omega⟩⟩
theorem limitT (M : Nat) (p : Nat) (hp : p ≤ 2000) (σ : FState) : (env (M + 1)).call 61 [.int .i64 (.ofNat p)] none σ = .ret (.tuple #[]) none σ := limit_go M _ (by simp only [Int.ofNat_eq_natCast]; omega) σ
theorem append1 (M n : Nat) (hM : M = n + 30) (ba bb : Nat) (es fs : List D) (h : Elems M es) (h' : Elems M fs) (hs : D.counts es + D.counts fs ≤ 1900) (lv mv : List Value) (h4 : lv.length = 4) (m4 : mv.length = 4) (R R' : Nat → Prop) (σ : FState) (hw : Wf σ) (hb : σ.cells ba = some lv) (hb' : σ.cells bb = some mv) (hL : LaidR R σ (.agg lv.toArray) (listD nilD es)) (hL' : LaidR R' σ (.agg mv.toArray) (listD nilD fs)) (hR : ∀ b, R b → b < σ.next) (hR' : ∀ b, R' b → b < σ.next) :
    Gives ((env (M + 6)).call 68 [.pointer (some ⟨ba, 0, none⟩), .pointer (some ⟨bb, 0, none⟩)] none σ) σ fun v σ' => LaidR (fun b => σ.next ≤ b) σ' v (listD nilD (es ++ fs)) := by
  rw [env_call, enter68 _ _ _ _ (by simp), Sl_start]
  unfold run68
  have hlen := h.len
  have hlen' := h'.len
  have ht : lv.take 4 = lv := List.take_of_length_le (by omega)
  have ht' : mv.take 4 = mv := List.take_of_length_le (by omega)
  have x0 : Ext σ (σ.push (.cells [.int .i64 0, .int .i64 0, .string ⟨#[]⟩, .slice none 0 0] TD) none) := (Ext.refl _).push _ _
  have hw0 := hw.push (.cells [.int .i64 0, .int .i64 0, .string ⟨#[]⟩, .slice none 0 0] TD) none
  have g0 : (σ.push (.cells [.int .i64 0, .int .i64 0, .string ⟨#[]⟩, .slice none 0 0] TD) none).heap.get σ.next = some ⟨.cells [.int .i64 0, .int .i64 0, .string ⟨#[]⟩, .slice none 0 0] TD, false, none, σ.clock⟩ := by rw [push_get, if_pos rfl]
  have n0 : (σ.push (.cells [.int .i64 0, .int .i64 0, .string ⟨#[]⟩, .slice none 0 0] TD) none).next = σ.next + 1 := rfl
  simp -implicitDefEqProofs only [go_sem, ↓reduceIte, Nat.reduceLT, Nat.reduceEqDiff, Nat.reduceAdd, Nat.reduceMul, Nat.reduceLeDiff, Nat.reduceSub, r68_0_go, r68_0U, Option.getD_some]
  have c0 := (x0.cells (hw.cells hb)).trans hb
  have c0' := (x0.cells (hw.cells hb')).trans hb'
  generalize FState.push σ _ _ = σ0 at x0 hw0 g0 n0 c0 c0' ⊢
  obtain ⟨_, σ1, e1, x1, hw1, rfl⟩ := validS_go M _ h.all h.count (by have := h.depth; omega) lv h4 R σ0 hw0 (hL.keep fun b cs hb hc => ⟨(x0.cells (hw.cells hc)).trans hc, hb⟩) (fun b hb => by have := hR b hb; omega)
  have x01 := x0.trans x1
  have n1 := x1.next
  have c1' := (x1.cells (hw0.cells c0')).trans c0'
  have c1 := (x1.cells (hw0.cells c0)).trans c0
  obtain ⟨_, σ2, e2, x2, hw2, rfl⟩ := validS_go M _ h'.all h'.count (by have := h'.depth; omega) mv m4 R' σ1 hw1 (hL'.keep fun b cs hb hc => ⟨(x01.cells (hw.cells hc)).trans hc, hb⟩) (fun b hb => by have := hR' b hb; omega)
  have x02 := x01.trans x2
  have n2 := x2.next
  have c2 := (x2.cells (hw1.cells c1)).trans c1
  have c2' := (x2.cells (hw1.cells c1')).trans c1'
  obtain ⟨s, σ3, e3, x3, hw3, hV⟩ := elementsL_go (M + 3) es (by omega) lv h4 σ2 hw2 (hL.keep fun b cs hb hc => ⟨(x02.cells (hw.cells hc)).trans hc, hb⟩) (fun b hb => by have := hR b hb; omega)
  have x03 := x02.trans x3
  have n3 := x3.next
  have c3' := (x3.cells (hw2.cells c2')).trans c2'
  obtain ⟨_, σ4, e4, x4, hw4, hU⟩ := copyS (M + 2) (n + 2) (by omega) (listD nilD fs) h'.depth h'.count mv R' σ3 hw3 (hL'.keep fun b cs hb hc => ⟨(x03.cells (hw.cells hc)).trans hc, hb⟩)
  obtain ⟨u4, rfl, hu4, huo⟩ := hU.agg
  have n4 := x4.next
  have o := hV.one
  have hV4 : VecG (fun b => σ2.next ≤ b) R σ4 s es := hV.keep (fun b e hb hc => ⟨(x4.get _ (hw3 _ _ hc).1).trans hc, hb⟩) (fun b cs hb hc => ⟨(x4.cells (hw3.cells hc)).trans hc, hb⟩)
  obtain ⟨p, hs', hE⟩ := hV4.slice
  obtain ⟨_, σ5, e5, x5, hw5, q, c, rfl, hE'⟩ := copyAll_go (M + 3) es (h.copies n hM) (by omega) p es.length _ σ4 hw4 hE
  rw [← hs'] at e5
  have n5 := x5.next
  obtain ⟨_, σ6, e6, x6, hw6, hL6⟩ := list_go (M + 2) (σ.next + 1) (listD nilD fs) es (by omega) u4 hu4 q c σ5 hw5 (by omega) (hU.keep fun b cs hb hc => ⟨(x5.cells (hw4.cells hc)).trans hc, by omega⟩) (hE'.keep fun b cs hb hc => ⟨hc, by omega⟩)
  rw [← listD_append] at hL6
  obtain ⟨l4, rfl, hl4, ho4⟩ := hL6.agg
  have n6 := x6.next
  have x26 := (((x1.trans x2).trans x3).trans x4).trans (x5.trans x6)
  have g6 : σ6.heap.get σ.next = _ := (x26.get _ (by omega)).trans g0
  have tl4 : l4.take 4 = l4 := List.take_of_length_le (by omega)
  obtain ⟨K, hK⟩ : ∃ K, K = es.length + D.counts es := ⟨_, rfl⟩
  obtain ⟨B, hB⟩ : ∃ B, B = (listD nilD fs).count := ⟨_, rfl⟩
  have hB2 : B ≤ 2000 - K := by rw [hB, listD_count, nil_count]; omega
  have hK2 : K ≤ 1920 := by have := h.few; omega
  have w1 := sub1 K (by omega)
  have w2 : wrapI (Int.ofNat K + Int.ofNat B) = Int.ofNat (K + B) := by
    rw [wrapI_of (by simp only [Int.ofNat_eq_natCast]; omega)]
    simp only [Int.ofNat_eq_natCast]
    omega
  have e7 := limitT (M + 4) (K + B) (by omega) σ3
  have hcn : (listD nilD es).count = K + 1 := by rw [listD_count, nil_count]; omega
  rw [hcn] at e1
  rw [← hB] at e2
  simp -implicitDefEqProofs only [go_sem, ↓reduceIte, Nat.reduceLT, Nat.reduceEqDiff, Nat.reduceAdd, Nat.reduceMul, Nat.reduceLeDiff, Nat.reduceSub, fstoreN, Option.getD_some, List.getElem?_cons_zero, List.getElem?_cons_succ, r68_1_go, r68_1U, r68_2_go, r68_2U, r68_3_go, r68_3U, r68_4_go, r68_4U, r68_5_go, r68_5U, c0, c1', c2, c3', h4, ht, m4, ht', e1, e2, e3, e4, e5, e6, e7, w1, w2, o.1, o.2.1, o.2.2, g6, hl4, ho4, tl4, aggDatum, fleave_nil, fresults_nil, fresults_cons, fresult_cell, Nat.le_refl]
  exact ⟨_, _, rfl, (x0.trans x26).put _ _ _ (Nat.le_refl _), hw6.put _ _ _ (by omega), hL6.keep fun b cs hb hc => ⟨by rw [cells_put, if_neg (by omega)]; exact hc, by omega⟩⟩
/-- datum.Append. -/
theorem append_go (M n : Nat) (hM : M = n + 30) (es fs : List D) (h : Elems M es) (h' : Elems M fs) (hs : D.counts es + D.counts fs ≤ 1900) (lv mv : List Value) (h4 : lv.length = 4) (m4 : mv.length = 4) (R R' : Nat → Prop) (σ : FState) (hw : Wf σ) (hL : LaidR R σ (.agg lv.toArray) (listD nilD es)) (hL' : LaidR R' σ (.agg mv.toArray) (listD nilD fs)) (hR : ∀ b, R b → b < σ.next) (hR' : ∀ b, R' b → b < σ.next) :
    Gives ((env (M + 9)).call 18 [.agg lv.toArray, .agg mv.toArray] none σ) σ fun w σ' => ∃ u, w = .tuple #[u, .int .i64 0] ∧ LaidR (fun b => σ.next ≤ b) σ' u (listD nilD (es ++ fs)) := by
  rw [env_call, enter18 _ _ _ _ (by simp), Sl_start]
  unfold run18
  have x1 : Ext σ (((σ.push (.cells lv TD) none).push (.cells mv TD) none).push (.cells [.int .i64 0, .int .i64 0, .string ⟨#[]⟩, .slice none 0 0] TD) none) := (((Ext.refl _).push _ _).push _ _).push _ _
  have hw1 := ((hw.push (.cells lv TD) none).push (.cells mv TD) none).push (.cells [.int .i64 0, .int .i64 0, .string ⟨#[]⟩, .slice none 0 0] TD) none
  have c1 : (((σ.push (.cells lv TD) none).push (.cells mv TD) none).push (.cells [.int .i64 0, .int .i64 0, .string ⟨#[]⟩, .slice none 0 0] TD) none).cells σ.next = some lv := by rw [cells_push, if_neg (by simp only [push_next]; omega), cells_push, if_neg (by rw [push_next]; omega), cells_push, if_pos rfl]; rfl
  have c2 : (((σ.push (.cells lv TD) none).push (.cells mv TD) none).push (.cells [.int .i64 0, .int .i64 0, .string ⟨#[]⟩, .slice none 0 0] TD) none).cells (σ.next + 1) = some mv := by rw [cells_push, if_neg (by simp only [push_next]; omega), cells_push, if_pos (by rw [push_next])]; rfl
  have g3 : (((σ.push (.cells lv TD) none).push (.cells mv TD) none).push (.cells [.int .i64 0, .int .i64 0, .string ⟨#[]⟩, .slice none 0 0] TD) none).heap.get (σ.next + 2) = some ⟨.cells [.int .i64 0, .int .i64 0, .string ⟨#[]⟩, .slice none 0 0] TD, false, none, σ.clock + 2⟩ := by rw [push_get, if_pos (by simp only [push_next])]; rfl
  obtain ⟨_, σ2, e2, x2, hw2, u, rfl, hq⟩ := callD (M + 5) 68 #[.pointer (some ⟨σ.next, 0, none⟩), .pointer (some ⟨σ.next + 1, 0, none⟩)] (listD nilD (es ++ fs)) _ hw1 fun σ' hx' hw' =>
    append1 M n hM σ.next (σ.next + 1) es fs h h' hs lv mv h4 m4 R R' σ' hw' ((hx'.cells (hw1.cells c1)).trans c1) ((hx'.cells (hw1.cells c2)).trans c2) (hL.keep fun b cs hb hc => ⟨((x1.trans hx').cells (hw.cells hc)).trans hc, hb⟩) (hL'.keep fun b cs hb hc => ⟨((x1.trans hx').cells (hw.cells hc)).trans hc, hb⟩) (fun b hb => by have := hR b hb; have := (x1.trans hx').next; omega) (fun b hb => by have := hR' b hb; have := (x1.trans hx').next; omega)
  obtain ⟨l4, rfl, hl4, ho4⟩ := hq.agg
  have g3' := (x2.get _ (hw1 _ _ g3).1).trans g3
  have m3 := (hw2 _ _ g3').1
  have tl4 : l4.take 4 = l4 := List.take_of_length_le (by omega)
  simp -implicitDefEqProofs only [go_sem, ↓reduceIte, Nat.reduceLT, Nat.reduceEqDiff, Nat.reduceAdd, Nat.reduceMul, Nat.reduceLeDiff, Nat.reduceSub, fstoreN, r18_0_go, r18_0U, r18_1_go, r18_1U, Option.getD_some, List.getElem?_cons_zero, List.getElem?_cons_succ, h4, m4, e2, g3', hl4, ho4, tl4, aggDatum, fleave_nil, fresults_nil, fresults_cons, fresult_cell, fresult_tmp]
  exact ⟨_, _, rfl, (x1.trans x2).put _ _ _ (by omega), hw2.put _ _ _ m3, _, rfl, hq.keep fun b cs hb hc => by
    simp only [push_next] at hb
    exact ⟨by rw [cells_put, if_neg (by omega)]; exact hc, by omega⟩⟩
end Go.Proofs.YtodkeaoikjjneaaGreatDoor
/- datum.FromList. -/
namespace Go.Proofs.YtodkeaoikjjneaaGreatDoor
open Go Go.Eng
attribute [local congr] andThen_congr fops_congr fdraw_congr afterOp_congr drawF_congr
attribute [-go_sem] List.range_succ
theorem keepF1 : keepOf nls 59 = [5, 6, 7, 17, 19, 20, 21, 22] := by kernel_rfl
theorem counts_upto (ds : List D) (i : Nat) (d : D) (h : ds[i]? = some d) : D.counts (ds.take (i + 1)) = D.counts (ds.take i) + d.count := by
  rw [List.take_add_one, h, counts_append]
  simp [D.counts]
theorem counts_within (ds : List D) (i : Nat) : D.counts (ds.take i) ≤ D.counts ds := by
  have := counts_append (ds.take i) (ds.drop i)
  rw [List.take_append_drop] at this
  omega
structure HeadFr (q : Option Addr) (c : Nat) (es : List D) (σ0 : FState) (i : Nat) (ff : Nat → Value) (f g : Nat → Value) (σ : FState) : Prop where
  g5 : g 5 = .slice q es.length c
  g6 : g 6 = .int .i64 (.ofNat es.length)
  g7 : g 7 = .int .i64 (.ofNat i)
  f0 : f 0 = ff 0
  f1 : f 1 = ff 1
  f2 : f 2 = .int .i64 (.ofNat (i + D.counts (es.take i) + 1))
  wf : Wf σ
  ext : Ext σ0 σ
theorem fromlist_loop (M : Nat) {q : Option Addr} {c : Nat} {es : List D} {σ0 : FState} {R : Nat → Prop} (h : Elems M es) (hw0 : Wf σ0) (hE : LaidRE R σ0 q 0 es) (hR : ∀ b, R b → b < σ0.next) (ff : Nat → Value) :
    ∀ (j fuel i : Nat) (f g : Nat → Value) (σ : FState), i + j = es.length → j < fuel → HeadFr q c es σ0 i ff f g σ →
      ∃ f' g' σ', floop [5, 6, 7, 17, 19, 20, 21, 22] (l59_0 (env (M + 5)) none 59) fuel (Sl 5 23 f g []) none σ = .done (.exit 0) (Sl 5 23 f' g' []) none σ' ∧ HeadFr q c es σ0 es.length ff f' g' σ' := by
  intro j
  have hlen := h.len
  have hfew := h.few
  induction j with
  | zero =>
    intro fuel i f g σ hij hf hh
    obtain ⟨fuel, rfl⟩ : ∃ q, fuel = q + 1 := ⟨fuel - 1, by omega⟩
    obtain rfl : i = es.length := by omega
    have d1 : decide (Int.ofNat es.length < Int.ofNat es.length) = false := by simp
    rw [floop_step, Sl_forget]
    unfold l59_0
    simp -implicitDefEqProofs only [go_sem, ↓reduceIte, Nat.reduceLT, Nat.reduceEqDiff, Nat.reduceAdd, Nat.reduceMul, Nat.reduceLeDiff, Nat.reduceSub, r59_3_go, r59_3U, hh.g6, hh.g7, d1, List.mem_cons]
    refine ⟨_, _, _, rfl, { hh with g5 := ?_, g6 := ?_, g7 := ?_ }⟩
    · simp -implicitDefEqProofs only [upd_go, kept_go, ↓reduceIte, Nat.reduceEqDiff, Nat.reduceLT, reduceCtorEq, hh.g5, List.mem_cons, true_or, or_true]
    · simp -implicitDefEqProofs only [upd_go, kept_go, ↓reduceIte, Nat.reduceEqDiff, Nat.reduceLT, reduceCtorEq, hh.g6, List.mem_cons, true_or, or_true]
    · simp -implicitDefEqProofs only [upd_go, kept_go, ↓reduceIte, Nat.reduceEqDiff, Nat.reduceLT, reduceCtorEq, hh.g7, List.mem_cons, true_or, or_true]
  | succ j ih =>
    intro fuel i f g σ hij hf hh
    obtain ⟨fuel, rfl⟩ : ∃ q, fuel = q + 1 := ⟨fuel - 1, by omega⟩
    have hi : i < es.length := by omega
    have d1 : decide (Int.ofNat i < Int.ofNat es.length) = true := by simp; omega
    have hd : es[i]? = some es[i] := List.getElem?_eq_getElem hi
    have hmem := List.getElem_mem hi
    obtain ⟨b, off, cs, rfl, hRb, hcs, hle, hL⟩ := LaidRE.get hE hd
    rw [Nat.zero_add] at hle hL
    have kc : ∀ {b : Nat} {cs : List Value} (σ' : FState), Ext σ0 σ' → σ0.cells b = some cs → σ'.cells b = some cs := fun σ' hx hc => (hx.cells (hw0.cells hc)).trans hc
    obtain ⟨l4, e4, hl4, ho4⟩ := hL.agg
    have e4' : (cs.drop (off + i * 4)).take 4 = l4 := by
      have := Value.agg.inj e4
      simpa using congrArg Array.toList this
    rw [e4'] at hL
    have hcσ := kc σ hh.ext hcs
    have tl4 : l4.take 4 = l4 := List.take_of_length_le (by omega)
    have x1 : Ext σ ((σ.push (.cells [.int .i64 0, .int .i64 0, .string ⟨#[]⟩, .slice none 0 0] TD) none).put σ.next (.cells l4 TD) none) := ((Ext.refl _).push _ _).put _ _ _ (Nat.le_refl _)
    have hw1 := (hh.wf.push (.cells [.int .i64 0, .int .i64 0, .string ⟨#[]⟩, .slice none 0 0] TD) none).put σ.next (.cells l4 TD) none (Nat.lt_succ_self _)
    obtain ⟨_, σ2, e2, x2, hw2, rfl⟩ := validS_go M es[i] (h.sane _ hmem) (by have := count_mem hmem; omega) (by have := h.deep _ hmem; omega) l4 hl4 R _ hw1 (hL.keep fun b cs hb hc => ⟨kc _ (hh.ext.trans x1) hc, hb⟩) (fun b hb => by have := hR b hb; have := (hh.ext.trans x1).next; omega)
    have hsum := counts_upto es i _ hd
    have hin := counts_within es (i + 1)
    obtain ⟨K, hK⟩ : ∃ K, K = i + D.counts (es.take i) := ⟨_, rfl⟩
    obtain ⟨B, hB⟩ : ∃ B, B = es[i].count := ⟨_, rfl⟩
    have h2 : f 2 = .int .i64 (.ofNat (K + 1)) := by rw [hK]; exact hh.f2
    rw [← hB] at e2
    have w1 : wrapI (1 + Int.ofNat B) = Int.ofNat (B + 1) := by
      rw [wrapI_of (by simp only [Int.ofNat_eq_natCast]; omega)]
      simp only [Int.ofNat_eq_natCast]
      omega
    have w2 : wrapI (Int.ofNat (K + 1) + Int.ofNat (B + 1)) = Int.ofNat (K + B + 2) := by
      rw [wrapI_of (by simp only [Int.ofNat_eq_natCast]; omega)]
      simp only [Int.ofNat_eq_natCast]
      omega
    have w3 := add1 i (by omega)
    rw [floop_step, Sl_forget]
    unfold l59_0
    simp -implicitDefEqProofs only [go_sem, ↓reduceIte, Nat.reduceLT, Nat.reduceEqDiff, Nat.reduceAdd, Nat.reduceMul, Nat.reduceLeDiff, Nat.reduceSub, fstoreN, r59_3_go, r59_3U, r59_4_go, r59_4U, r59_5_go, r59_5U, r59_6_go, r59_6U, hh.g5, hh.g6, hh.g7, h2, d1, hi, hcσ, hle, e4', hl4, ho4, tl4, e2, w1, w2, w3, List.mem_cons]
    generalize hff : upd _ 2 _ = f1
    generalize hgg : upd _ 7 _ = g1
    exact ih fuel (i + 1) f1 g1 σ2 (by omega) (by omega) {
      g5 := by rw [← hgg]; simp -implicitDefEqProofs only [upd_go, kept_go, ↓reduceIte, Nat.reduceEqDiff, Nat.reduceLT, reduceCtorEq, hh.g5, List.mem_cons, true_or, or_true]
      g6 := by rw [← hgg]; simp -implicitDefEqProofs only [upd_go, kept_go, ↓reduceIte, Nat.reduceEqDiff, Nat.reduceLT, reduceCtorEq, hh.g6, List.mem_cons, true_or, or_true]
      g7 := by rw [← hgg]; simp -implicitDefEqProofs only [upd_go, kept_go, ↓reduceIte, Nat.reduceEqDiff, Nat.reduceLT, reduceCtorEq]
      f0 := by rw [← hff]; simp -implicitDefEqProofs only [upd_go, kept_go, ↓reduceIte, Nat.reduceEqDiff, Nat.reduceLT, reduceCtorEq, hh.f0]
      f1 := by rw [← hff]; simp -implicitDefEqProofs only [upd_go, kept_go, ↓reduceIte, Nat.reduceEqDiff, Nat.reduceLT, reduceCtorEq, hh.f1]
      f2 := by rw [← hff, hsum, show i + 1 + (D.counts (es.take i) + es[i].count) + 1 = K + (B + 2) by omega]; simp -implicitDefEqProofs only [upd_go, kept_go, ↓reduceIte, Nat.reduceEqDiff, Nat.reduceLT, reduceCtorEq]
      wf := hw2
      ext := (hh.ext.trans x1).trans x2 }
theorem fromlist1 (M n : Nat) (hM : M = n + 30) (bl : Nat) (q : Option Addr) (c : Nat) (es : List D) (h : Elems M es) (R : Nat → Prop) (σ : FState) (hw : Wf σ) (hb : σ.cells bl = some [.slice q es.length c]) (hE : LaidRE R σ q 0 es) (hR : ∀ b, R b → b < σ.next) :
    Gives ((env (M + 6)).call 59 [.pointer (some ⟨bl, 0, none⟩)] none σ) σ fun v σ' => LaidR (fun b => σ.next ≤ b) σ' v (listD nilD es) := by
  rw [env_call, enter59 _ _ _ _ (by simp), Sl_start]
  unfold run59
  have hlen := h.len
  have hfew := h.few
  have x0 : Ext σ (σ.push (.cells [.int .i64 0, .int .i64 0, .string ⟨#[]⟩, .slice none 0 0] TD) none) := (Ext.refl _).push _ _
  have hw0 := hw.push (.cells [.int .i64 0, .int .i64 0, .string ⟨#[]⟩, .slice none 0 0] TD) none
  have g0 : (σ.push (.cells [.int .i64 0, .int .i64 0, .string ⟨#[]⟩, .slice none 0 0] TD) none).heap.get σ.next = some ⟨.cells [.int .i64 0, .int .i64 0, .string ⟨#[]⟩, .slice none 0 0] TD, false, none, σ.clock⟩ := by rw [push_get, if_pos rfl]
  have n0 : (σ.push (.cells [.int .i64 0, .int .i64 0, .string ⟨#[]⟩, .slice none 0 0] TD) none).next = σ.next + 1 := rfl
  have c0 := (x0.cells (hw.cells hb)).trans hb
  have hE0 : LaidRE R (σ.push (.cells [.int .i64 0, .int .i64 0, .string ⟨#[]⟩, .slice none 0 0] TD) none) q 0 es := hE.keep fun b cs hb hc => ⟨(x0.cells (hw.cells hc)).trans hc, hb⟩
  have ne1 : (bl = σ.next) = False := by have := hw.cells hb; simp; omega
  simp -implicitDefEqProofs only [go_sem, ↓reduceIte, Nat.reduceLT, Nat.reduceEqDiff, Nat.reduceAdd, Nat.reduceMul, Nat.reduceLeDiff, Nat.reduceSub, r59_0_go, r59_0U, r59_1_go, r59_1U, r59_2_go, r59_2U, Option.getD_some, List.getElem?_cons_zero, hb, ne1, keepF1]
  generalize FState.push σ _ _ = σ0 at x0 hw0 g0 n0 c0 hE0 ⊢
  generalize hff : upd _ 2 _ = f1
  generalize hgg : upd _ 7 _ = g1
  generalize hbf : bigFuel = fuel
  obtain ⟨f2, g2, σ2, e2, h2⟩ := fromlist_loop M (c := c) h hw0 hE0 (fun b hb => by have := hR b hb; omega) f1 es.length fuel 0 f1 g1 σ0 (by omega) (by rw [← hbf]; show es.length < 1000000000000; omega) {
    g5 := by rw [← hgg]; simp -implicitDefEqProofs only [upd_go, kept_go, ↓reduceIte, Nat.reduceEqDiff, Nat.reduceLT, reduceCtorEq]
    g6 := by rw [← hgg]; simp -implicitDefEqProofs only [upd_go, kept_go, ↓reduceIte, Nat.reduceEqDiff, Nat.reduceLT, reduceCtorEq]
    g7 := by rw [← hgg]; simp -implicitDefEqProofs only [upd_go, kept_go, ↓reduceIte, Nat.reduceEqDiff, Nat.reduceLT, reduceCtorEq] <;> rfl
    f0 := rfl
    f1 := rfl
    f2 := by rw [← hff]; simp -implicitDefEqProofs only [upd_go, kept_go, ↓reduceIte, Nat.reduceEqDiff, Nat.reduceLT, reduceCtorEq] <;> rfl
    wf := hw0
    ext := Ext.refl _ }
  rw [e2]
  have q0 : f2 0 = .pointer (some ⟨bl, 0, none⟩) := by rw [h2.f0, ← hff]; simp -implicitDefEqProofs only [upd_go, kept_go, ↓reduceIte, Nat.reduceEqDiff, Nat.reduceLT, reduceCtorEq, List.getElem?_cons_zero, Option.getD_some]
  have q1 : f2 1 = .pointer (some ⟨σ.next, 0, none⟩) := by rw [h2.f1, ← hff]; simp -implicitDefEqProofs only [upd_go, kept_go, ↓reduceIte, Nat.reduceEqDiff, Nat.reduceLT, reduceCtorEq]
  have hf2 := h2.f2
  rw [List.take_length] at hf2
  obtain ⟨K, hK⟩ : ∃ K, K = es.length + D.counts es + 1 := ⟨_, rfl⟩
  rw [← hK] at hf2
  have e3 := limitT (M + 4) K (by omega) σ2
  have x2 := h2.ext
  have hw2 := h2.wf
  have n2 := x2.next
  have c2 := (x2.cells (hw0.cells c0)).trans c0
  obtain ⟨_, σ4, e4, x4, hw4, q', c', rfl, hE'⟩ := copyAll_go (M + 3) es (h.copies n hM) (by omega) q c R σ2 hw2 (hE0.keep fun b cs hb hc => ⟨(x2.cells (hw0.cells hc)).trans hc, hb⟩)
  have n4 := x4.next
  obtain ⟨_, σ5, e5, x5, hw5, hL5⟩ := list_go (M + 2) (σ.next + 1) nilD es (by omega) [.int .i64 0, .int .i64 0, .string ⟨#[]⟩, .slice none 0 0] rfl q' c' σ4 hw4 (by omega) (laid_nil _ _) (hE'.keep fun b cs hb hc => ⟨hc, by omega⟩)
  obtain ⟨l4, rfl, hl4, ho4⟩ := hL5.agg
  have n5 := x5.next
  have g5 : σ5.heap.get σ.next = _ := ((x2.trans (x4.trans x5)).get _ (by omega)).trans g0
  have tl4 : l4.take 4 = l4 := List.take_of_length_le (by omega)
  simp -implicitDefEqProofs only [go_sem, ↓reduceIte, Nat.reduceLT, Nat.reduceEqDiff, Nat.reduceAdd, Nat.reduceMul, Nat.reduceLeDiff, Nat.reduceSub, fstoreN, r59_7_go, r59_7U, r59_8_go, r59_8U, q0, q1, hf2, e3, c2, e4, e5, g5, hl4, ho4, tl4, aggDatum, fleave_nil, fresults_nil, fresults_cons, fresult_cell]
  exact ⟨_, _, rfl, (x0.trans (x2.trans (x4.trans x5))).put _ _ _ (Nat.le_refl _), hw5.put _ _ _ (by omega), hL5.keep fun b cs hb hc => ⟨by rw [cells_put, if_neg (by omega)]; exact hc, by omega⟩⟩
/-- datum.FromList. -/
theorem fromlist_go (M n : Nat) (hM : M = n + 30) (q : Option Addr) (c : Nat) (es : List D) (h : Elems M es) (R : Nat → Prop) (σ : FState) (hw : Wf σ) (hE : LaidRE R σ q 0 es) (hR : ∀ b, R b → b < σ.next) :
    Gives ((env (M + 9)).call 14 [.slice q es.length c] none σ) σ fun w σ' => ∃ u, w = .tuple #[u, .int .i64 0] ∧ LaidR (fun b => σ.next ≤ b) σ' u (listD nilD es) := by
  rw [env_call, enter14 _ _ _ _ (by simp), Sl_start]
  unfold run14
  have x1 : Ext σ ((σ.push (.cells [.slice q es.length c] 25) none).push (.cells [.int .i64 0, .int .i64 0, .string ⟨#[]⟩, .slice none 0 0] TD) none) := ((Ext.refl _).push _ _).push _ _
  have hw1 := (hw.push (.cells [.slice q es.length c] 25) none).push (.cells [.int .i64 0, .int .i64 0, .string ⟨#[]⟩, .slice none 0 0] TD) none
  have c1 : ((σ.push (.cells [.slice q es.length c] 25) none).push (.cells [.int .i64 0, .int .i64 0, .string ⟨#[]⟩, .slice none 0 0] TD) none).cells σ.next = some [.slice q es.length c] := by rw [cells_push, if_neg (by rw [push_next]; omega), cells_push, if_pos rfl]; rfl
  have g2 : ((σ.push (.cells [.slice q es.length c] 25) none).push (.cells [.int .i64 0, .int .i64 0, .string ⟨#[]⟩, .slice none 0 0] TD) none).heap.get (σ.next + 1) = some ⟨.cells [.int .i64 0, .int .i64 0, .string ⟨#[]⟩, .slice none 0 0] TD, false, none, σ.clock + 1⟩ := by rw [push_get, if_pos (by rw [push_next])]; rfl
  obtain ⟨_, σ2, e2, x2, hw2, u, rfl, hq⟩ := callD (M + 5) 59 #[.pointer (some ⟨σ.next, 0, none⟩)] (listD nilD es) _ hw1 fun σ' hx' hw' =>
    fromlist1 M n hM σ.next q c es h R σ' hw' ((hx'.cells (hw1.cells c1)).trans c1) (hE.keep fun b cs hb hc => ⟨((x1.trans hx').cells (hw.cells hc)).trans hc, hb⟩) (fun b hb => by have := hR b hb; have := (x1.trans hx').next; omega)
  obtain ⟨l4, rfl, hl4, ho4⟩ := hq.agg
  have g2' := (x2.get _ (hw1 _ _ g2).1).trans g2
  have m2 := (hw2 _ _ g2').1
  have tl4 : l4.take 4 = l4 := List.take_of_length_le (by omega)
  simp -implicitDefEqProofs only [go_sem, ↓reduceIte, Nat.reduceLT, Nat.reduceEqDiff, Nat.reduceAdd, Nat.reduceMul, Nat.reduceLeDiff, Nat.reduceSub, fstoreN, r14_0_go, r14_0U, r14_1_go, r14_1U, Option.getD_some, e2, g2', hl4, ho4, tl4, aggDatum, fleave_nil, fresults_nil, fresults_cons, fresult_cell, fresult_tmp]
  exact ⟨_, _, rfl, (x1.trans x2).put _ _ _ (by omega), hw2.put _ _ _ m2, _, rfl, hq.keep fun b cs hb hc => by
    simp only [push_next] at hb
    exact ⟨by rw [cells_put, if_neg (by omega)]; exact hc, by omega⟩⟩
end Go.Proofs.YtodkeaoikjjneaaGreatDoor
/- caracolekit.KeepDatum, caracolekit.KeepData. -/
namespace Go.Proofs.YtodkeaoikjjneaaGreatDoor
open Go Go.Eng
attribute [local congr] andThen_congr fops_congr fdraw_congr afterOp_congr drawF_congr
attribute [-go_sem] List.range_succ
theorem Vec.slice {σ : FState} {lo : Nat} {s : Value} {ds : List D} (h : Vec σ lo s ds) : ∃ p, s = .slice p ds.length ds.length ∧ LaidRE (fun b => lo < b) σ p 0 ds := by
  rcases h with ⟨rfl, rfl⟩ | ⟨b, cs, ver, rfl, hb, hq, hr⟩
  · exact ⟨none, rfl, trivial⟩
  · exact ⟨_, rfl, hr.elems (cells_of_get hb) hq (fun c hc => hc.1) 0 ds fun j e he => by rwa [Nat.zero_add]⟩
theorem Vec.spot {σ : FState} {lo : Nat} {s : Value} {ds : List D} (hw : Wf σ) (h : Vec σ lo s ds) : ∀ b n m, s = .slice (some ⟨b, 0, none⟩) n m → b < σ.next ∧ lo < b := by
  intro b n m hs
  rcases h with ⟨_, h⟩ | ⟨b', cs, ver, h, hb, hlb, _⟩
  · rw [hs] at h; cases h
  · rw [hs] at h; cases h; exact ⟨(hw _ _ hb).1, hlb⟩
theorem Vec.ones {σ : FState} {lo : Nat} {s : Value} {ds : List D} (h : Vec σ lo s ds) : oneCell s = true ∧ notTuple s = true ∧ valCells s = [s] := by
  rcases h with ⟨rfl, rfl⟩ | ⟨b, cs, ver, rfl, hb, hq, hr⟩ <;> exact ⟨rfl, rfl, rfl⟩
theorem keepKD : keepOf nls 64 = [30] := by kernel_rfl
theorem keepKL : keepOf nls 15 = [19] := by kernel_rfl
def KeepAt (m : Nat) (d : D) : Prop := ∀ (lv : List Value) (R : Nat → Prop) (σ : FState), Wf σ → LaidR R σ (.agg lv.toArray) d → (∀ b, R b → b < σ.next) → Gives ((env m).call 64 [.agg lv.toArray] none σ) σ fun w σ' => LaidR (fun b => σ.next ≤ b) σ' w d
structure HeadKd (b0 : Nat) (R : Nat → Prop) (k z : Int) (t : ByteArray) (q : Option Addr) (c : Nat) (ds : List D) (σ0 : FState) (i : Nat) (f : Nat → Value) (σ : FState) : Prop where
  f1 : f 1 = .pointer (some ⟨b0, 0, none⟩)
  f2 : f 2 = .pointer (some ⟨b0 + 1, 0, none⟩)
  f3 : f 3 = .pointer (some ⟨b0 + 2, 0, none⟩)
  f4 : f 4 = .int .i64 (.ofNat i)
  c1 : σ.cells b0 = some [.int .i64 k, .int .i64 z, .string t, .slice q ds.length c]
  g2 : ∃ ver, σ.heap.get (b0 + 1) = some ⟨.cells [.int .i64 0, .int .i64 0, .string ⟨#[]⟩, .slice none 0 0] TD, false, none, ver⟩
  g3 : ∃ ver s, σ.heap.get (b0 + 2) = some ⟨.cells [.int .i64 k, .int .i64 z, .string t, s] TD, false, none, ver⟩ ∧ Vec σ (b0 + 2) s (ds.take i)
  lay : LaidRE R σ q 0 ds
  wf : Wf σ
  ext : Ext σ0 σ
theorem keepD_loop (m : Nat) {b0 : Nat} {R : Nat → Prop} {k z : Int} {t : ByteArray} {q : Option Addr} {c : Nat} {ds : List D} {σ0 : FState} (hC : ∀ d ∈ ds, KeepAt m d) (hb0 : σ0.next = b0) (hR : ∀ b, R b → b < b0) (hfew : ds.length < 900) :
    ∀ (j fuel i : Nat) (f g : Nat → Value) (σ : FState), i + j = ds.length → j < fuel → HeadKd b0 R k z t q c ds σ0 i f σ →
      ∃ f' g' σ', floop [30] (l64_0 (env m) none 64) fuel (Sl 5 31 f g []) none σ = .done (.exit 0) (Sl 5 31 f' g' []) none σ' ∧ HeadKd b0 R k z t q c ds σ0 ds.length f' σ' := by
  intro j
  induction j with
  | zero =>
    intro fuel i f g σ hij hf h
    obtain ⟨fuel, rfl⟩ : ∃ q, fuel = q + 1 := ⟨fuel - 1, by omega⟩
    obtain rfl : i = ds.length := by omega
    have d1 : decide (Int.ofNat ds.length < Int.ofNat ds.length) = false := by simp
    rw [floop_step]
    unfold l64_0
    simp -implicitDefEqProofs only [go_sem, ↓reduceIte, Nat.reduceLT, Nat.reduceEqDiff, Nat.reduceAdd, Nat.reduceMul, Nat.reduceLeDiff, Nat.reduceSub, r64_3_go, r64_3U, h.f1, h.f4, h.c1, d1]
    exact ⟨_, _, _, rfl, h⟩
  | succ j ih =>
    intro fuel i f g σ hij hf h
    obtain ⟨fuel, rfl⟩ : ∃ q, fuel = q + 1 := ⟨fuel - 1, by omega⟩
    have hi : i < ds.length := by omega
    have d1 : decide (Int.ofNat i < Int.ofNat ds.length) = true := by simp; omega
    have hd : ds[i]? = some ds[i] := List.getElem?_eq_getElem hi
    have hmem := List.getElem_mem hi
    have hw := h.wf
    obtain ⟨b, off, cs, rfl, hRb, hcs, hle, hL⟩ := LaidRE.get h.lay hd
    rw [Nat.zero_add] at hle hL
    obtain ⟨vt, ht2⟩ := h.g2
    obtain ⟨v3, s, hg3, hV⟩ := h.g3
    have hn3 := (hw _ _ hg3).1
    obtain ⟨_, σ1, e1, x1, hw1, hL1⟩ := hC _ hmem ((cs.drop (off + i * 4)).take 4) R σ hw hL (fun b hb => by have := hR b hb; omega)
    obtain ⟨l4, rfl, hl4, ho4⟩ := hL1.agg
    have n1 := x1.next
    have hsp := hV.spot hw
    have hV1 : Vec σ1 (b0 + 2) s (ds.take i) := hV.keep hw fun c h1 h2 => x1.get c h2
    obtain ⟨s', τ, ha, ho, hVτ, hwτ, hnτ, hcτ, hg1, hg2⟩ := vec_append σ1 (b0 + 2) s (ds.take i) ds[i] l4 hw1 (by omega) hl4 ho4 (by rw [List.length_take]; omega) hV1 (hL1.keep fun c cs hc h => ⟨h, by omega, fun b n m hs => by have := hsp b n m hs; omega⟩)
    rw [show ds.take i ++ [ds[i]] = ds.take (i + 1) by rw [List.take_add_one, hd]; rfl] at hVτ
    have hvw := view_wf hw (lam := σ.clock) (Nat.le_refl _)
    have hv3 : (view σ1 σ.clock).cells (b0 + 2) = some [.int .i64 k, .int .i64 z, .string t, s] := view_old hw (Nat.le_refl _) (x1.get _ hn3) (cells_of_get hg3)
    have hg3τ : τ.heap.get (b0 + 2) = some ⟨.cells [.int .i64 k, .int .i64 z, .string t, s] TD, false, none, v3⟩ := (hg1 _ (Nat.le_refl _)).trans ((x1.get _ hn3).trans hg3)
    have w3 := add1 i (by omega)
    have o' := hVτ.ones
    have hc1 := h.c1
    rw [floop_step]
    unfold l64_0
    simp -implicitDefEqProofs only [go_sem, ↓reduceIte, Nat.reduceLT, Nat.reduceEqDiff, Nat.reduceAdd, Nat.reduceMul, Nat.reduceLeDiff, Nat.reduceSub, fstoreN, r64_3_go, r64_3U, r64_4_go, r64_4U, r64_5_go, r64_5U, h.f1, h.f3, h.f4, hc1, d1, hi, hvw, hcs, hle, e1, hv3, hl4, ho4, ha, o'.1, o'.2.1, o'.2.2, hg3τ, w3]
    generalize hff : upd _ 4 _ = f1
    have kR : ∀ b cs, b < b0 → σ.cells b = some cs → (τ.put (b0 + 2) (.cells [.int .i64 k, .int .i64 z, .string t, s'] TD) none).cells b = some cs := fun b cs hb hc => by
      rw [cells_put, if_neg (by omega), cells_get, hg1 b (by omega), ← cells_get]
      exact (x1.cells (hw.cells hc)).trans hc
    exact ih fuel (i + 1) f1 _ _ (by omega) (by omega) {
      f1 := by rw [← hff]; simp -implicitDefEqProofs only [upd_go, kept_go, ↓reduceIte, Nat.reduceEqDiff, Nat.reduceLT, reduceCtorEq, h.f1]
      f2 := by rw [← hff]; simp -implicitDefEqProofs only [upd_go, kept_go, ↓reduceIte, Nat.reduceEqDiff, Nat.reduceLT, reduceCtorEq, h.f2]
      f3 := by rw [← hff]; simp -implicitDefEqProofs only [upd_go, kept_go, ↓reduceIte, Nat.reduceEqDiff, Nat.reduceLT, reduceCtorEq, h.f3]
      f4 := by rw [← hff]; simp -implicitDefEqProofs only [upd_go, kept_go, ↓reduceIte, Nat.reduceEqDiff, Nat.reduceLT, reduceCtorEq]
      c1 := by
        have := hw.cells hc1
        rw [cells_put, if_neg (by omega), cells_get, hg1 b0 (by omega), ← cells_get]
        exact (x1.cells this).trans hc1
      g2 := ⟨vt, by rw [put_get, if_neg (by omega), hg1 _ (by omega), x1.get _ (by omega)]; exact ht2⟩
      g3 := ⟨_, s', by rw [put_get, if_pos rfl], hVτ.keep hwτ fun c h1 h2 => by rw [put_get, if_neg (by omega)]⟩
      lay := h.lay.keep fun b cs hb hc => ⟨kR b cs (hR b hb) hc, hb⟩
      wf := hwτ.put _ _ _ (by omega)
      ext := ⟨by rw [put_next]; have := h.ext.next; omega, by rw [put_clock]; have := h.ext.clock; have := x1.clock; omega, fun b hb => by
        rw [put_get, if_neg (by omega), hg2 b (by have := h.ext.next; omega) (fun b' n m hs => by have := hsp b' n m hs; omega), x1.get b (by have := h.ext.next; omega)]
        exact h.ext.get b hb⟩ }
theorem keepD_step (m : Nat) (k z : Int) (t : ByteArray) (ds : List D) (hfew : ds.length < 900) (hC : ∀ d ∈ ds, KeepAt m d) : KeepAt (m + 1) (.mk k z t ds) := by
  intro lv R σ hw hL hR
  have hL0 := hL
  obtain ⟨q, c, hv, hE⟩ := hL
  have hlv : lv = [.int .i64 k, .int .i64 z, .string t, .slice q ds.length c] := by
    have := Value.agg.inj hv
    simpa using congrArg Array.toList this
  subst hlv
  rw [env_call, enter64 _ _ _ _ (by simp), Sl_start]
  unfold run64
  have x1 : Ext σ ((((σ.push (.cells [.int .i64 k, .int .i64 z, .string t, .slice q ds.length c] TD) none).push (.cells [.int .i64 0, .int .i64 0, .string ⟨#[]⟩, .slice none 0 0] TD) none).push (.cells [.int .i64 0, .int .i64 0, .string ⟨#[]⟩, .slice none 0 0] TD) none).put (σ.next + 2) (.cells [.int .i64 k, .int .i64 z, .string t, .slice none 0 0] TD) none) := (((((Ext.refl _).push _ _).push _ _).push _ _).put _ _ _ (by omega))
  have hw1 := ((((hw.push (.cells [.int .i64 k, .int .i64 z, .string t, .slice q ds.length c] TD) none).push (.cells [.int .i64 0, .int .i64 0, .string ⟨#[]⟩, .slice none 0 0] TD) none).push (.cells [.int .i64 0, .int .i64 0, .string ⟨#[]⟩, .slice none 0 0] TD) none).put (σ.next + 2) (.cells [.int .i64 k, .int .i64 z, .string t, .slice none 0 0] TD) none (by simp only [push_next]; omega))
  have c1 : ((((σ.push (.cells [.int .i64 k, .int .i64 z, .string t, .slice q ds.length c] TD) none).push (.cells [.int .i64 0, .int .i64 0, .string ⟨#[]⟩, .slice none 0 0] TD) none).push (.cells [.int .i64 0, .int .i64 0, .string ⟨#[]⟩, .slice none 0 0] TD) none).put (σ.next + 2) (.cells [.int .i64 k, .int .i64 z, .string t, .slice none 0 0] TD) none).cells σ.next = some [.int .i64 k, .int .i64 z, .string t, .slice q ds.length c] := by
    rw [cells_put, if_neg (by omega), cells_push, if_neg (by simp only [push_next]; omega), cells_push, if_neg (by simp only [push_next]; omega), cells_push, if_pos rfl]; rfl
  have g2 : ((((σ.push (.cells [.int .i64 k, .int .i64 z, .string t, .slice q ds.length c] TD) none).push (.cells [.int .i64 0, .int .i64 0, .string ⟨#[]⟩, .slice none 0 0] TD) none).push (.cells [.int .i64 0, .int .i64 0, .string ⟨#[]⟩, .slice none 0 0] TD) none).put (σ.next + 2) (.cells [.int .i64 k, .int .i64 z, .string t, .slice none 0 0] TD) none).heap.get (σ.next + 1) = some ⟨.cells [.int .i64 0, .int .i64 0, .string ⟨#[]⟩, .slice none 0 0] TD, false, none, σ.clock + 1⟩ := by
    rw [put_get, if_neg (by omega), push_get, if_neg (by simp only [push_next]; omega), push_get, if_pos (by rw [push_next])]; rfl
  have g3 : ((((σ.push (.cells [.int .i64 k, .int .i64 z, .string t, .slice q ds.length c] TD) none).push (.cells [.int .i64 0, .int .i64 0, .string ⟨#[]⟩, .slice none 0 0] TD) none).push (.cells [.int .i64 0, .int .i64 0, .string ⟨#[]⟩, .slice none 0 0] TD) none).put (σ.next + 2) (.cells [.int .i64 k, .int .i64 z, .string t, .slice none 0 0] TD) none).heap.get (σ.next + 2) = some ⟨.cells [.int .i64 k, .int .i64 z, .string t, .slice none 0 0] TD, false, none, σ.clock + 3⟩ := by
    rw [put_get, if_pos rfl]; rfl
  simp -implicitDefEqProofs only [go_sem, ↓reduceIte, Nat.reduceLT, Nat.reduceEqDiff, Nat.reduceAdd, Nat.reduceMul, Nat.reduceLeDiff, Nat.reduceSub, fstoreN, r64_0_go, r64_0U, r64_1_go, r64_1U, r64_2_go, r64_2U, Option.getD_some, List.getElem?_cons_zero, keepKD]
  generalize hff : upd _ 4 _ = f1
  generalize hbf : bigFuel = fuel
  generalize FState.put _ _ _ _ = σ1 at x1 hw1 c1 g2 g3 ⊢
  obtain ⟨f2, g2', σ2, e2, h2⟩ := keepD_loop m hC rfl hR hfew ds.length fuel 0 f1 _ σ1 (by omega) (by rw [← hbf]; show ds.length < 1000000000000; omega) {
    f1 := by rw [← hff]; simp -implicitDefEqProofs only [upd_go, kept_go, ↓reduceIte, Nat.reduceEqDiff, Nat.reduceLT, reduceCtorEq]
    f2 := by rw [← hff]; simp -implicitDefEqProofs only [upd_go, kept_go, ↓reduceIte, Nat.reduceEqDiff, Nat.reduceLT, reduceCtorEq]
    f3 := by rw [← hff]; simp -implicitDefEqProofs only [upd_go, kept_go, ↓reduceIte, Nat.reduceEqDiff, Nat.reduceLT, reduceCtorEq]
    f4 := by rw [← hff]; simp -implicitDefEqProofs only [upd_go, kept_go, ↓reduceIte, Nat.reduceEqDiff, Nat.reduceLT, reduceCtorEq] <;> rfl
    c1 := c1
    g2 := ⟨_, g2⟩
    g3 := ⟨_, _, g3, .inl ⟨rfl, rfl⟩⟩
    lay := hE.keep fun b cs hb hc => ⟨(x1.cells (hw.cells hc)).trans hc, hb⟩
    wf := hw1
    ext := x1 }
  rw [e2]
  obtain ⟨v3, s, hg3, hV⟩ := h2.g3
  obtain ⟨v2, hg2⟩ := h2.g2
  have o := hV.ones
  rw [List.take_length] at hV
  obtain ⟨p, rfl, hE2⟩ := hV.slice
  have hc3 := cells_of_get hg3
  have m2 := (h2.wf _ _ hg2).1
  simp -implicitDefEqProofs only [go_sem, ↓reduceIte, Nat.reduceLT, Nat.reduceEqDiff, Nat.reduceAdd, Nat.reduceMul, Nat.reduceLeDiff, Nat.reduceSub, fstoreN, r64_6_go, r64_6U, h2.f2, h2.f3, hc3, hg2, aggDatum, fleave_nil, fresults_nil, fresults_cons, fresult_cell]
  exact ⟨_, _, rfl, h2.ext.put _ _ _ (by omega), h2.wf.put _ _ _ m2, p, _, rfl, hE2.keep fun b cs hb hc => ⟨by rw [cells_put, if_neg (by omega)]; exact hc, by omega⟩⟩
theorem keepD_go (n : Nat) : ∀ (N : Nat) (d : D), D.deep d ≤ N → d.count < 900 → KeepAt (n + N) d
  | 0, d, h, _ => by cases d; rw [D.deep] at h; omega
  | N + 1, .mk k z t ds, h, hc => by
    rw [D.deep] at h
    rw [D.count] at hc
    have := length_counts ds
    exact keepD_step (n + N) k z t ds (by omega) (fun d hd => keepD_go n N d (by have := deeps_mem hd; omega) (by have := count_mem hd; omega))
end Go.Proofs.YtodkeaoikjjneaaGreatDoor
/- caracolekit.KeepData. -/
namespace Go.Proofs.YtodkeaoikjjneaaGreatDoor
open Go Go.Eng
attribute [local congr] andThen_congr fops_congr fdraw_congr afterOp_congr drawF_congr
attribute [-go_sem] List.range_succ
structure HeadKl (lo : Nat) (R : Nat → Prop) (q : Option Addr) (c : Nat) (ds : List D) (σ0 : FState) (i : Nat) (f : Nat → Value) (σ : FState) : Prop where
  f0 : f 0 = .slice q ds.length c
  f4 : f 4 = .int .i64 (.ofNat i)
  vec : Vec σ lo (f 3) (ds.take i)
  lay : LaidRE R σ q 0 ds
  wf : Wf σ
  ext : Ext σ0 σ
theorem keepL_loop (m : Nat) {lo : Nat} {R : Nat → Prop} {q : Option Addr} {c : Nat} {ds : List D} {σ0 : FState} (hC : ∀ d ∈ ds, KeepAt m d) (hlo : σ0.next = lo + 1) (hR : ∀ b, R b → b ≤ lo) (hfew : ds.length < 900) :
    ∀ (j fuel i : Nat) (f g : Nat → Value) (σ : FState), i + j = ds.length → j < fuel → HeadKl lo R q c ds σ0 i f σ →
      ∃ f' g' σ', floop [19] (l15_0 (env m) none 15) fuel (Sl 5 20 f g []) none σ = .done (.exit 0) (Sl 5 20 f' g' []) none σ' ∧ HeadKl lo R q c ds σ0 ds.length f' σ' := by
  intro j
  induction j with
  | zero =>
    intro fuel i f g σ hij hf h
    obtain ⟨fuel, rfl⟩ : ∃ q, fuel = q + 1 := ⟨fuel - 1, by omega⟩
    obtain rfl : i = ds.length := by omega
    have d1 : decide (Int.ofNat ds.length < Int.ofNat ds.length) = false := by simp
    rw [floop_step]
    unfold l15_0
    simp -implicitDefEqProofs only [go_sem, ↓reduceIte, Nat.reduceLT, Nat.reduceEqDiff, Nat.reduceAdd, Nat.reduceMul, Nat.reduceLeDiff, Nat.reduceSub, r15_3_go, r15_3U, h.f0, h.f4, d1]
    exact ⟨_, _, _, rfl, h⟩
  | succ j ih =>
    intro fuel i f g σ hij hf h
    obtain ⟨fuel, rfl⟩ : ∃ q, fuel = q + 1 := ⟨fuel - 1, by omega⟩
    have hi : i < ds.length := by omega
    have d1 : decide (Int.ofNat i < Int.ofNat ds.length) = true := by simp; omega
    have hd : ds[i]? = some ds[i] := List.getElem?_eq_getElem hi
    have hmem := List.getElem_mem hi
    have hw := h.wf
    have hx := h.ext
    have n0 := hx.next
    obtain ⟨b, off, cs, rfl, hRb, hcs, hle, hL⟩ := LaidRE.get h.lay hd
    rw [Nat.zero_add] at hle hL
    have hV := h.vec
    obtain ⟨_, σ1, e1, x1, hw1, hL1⟩ := hC _ hmem ((cs.drop (off + i * 4)).take 4) R σ hw hL (fun b hb => by have := hR b hb; omega)
    obtain ⟨l4, rfl, hl4, ho4⟩ := hL1.agg
    have n1 := x1.next
    have hsp := hV.spot hw
    have hV1 : Vec σ1 lo (f 3) (ds.take i) := hV.keep hw fun c h1 h2 => x1.get c h2
    obtain ⟨s', τ, ha, ho, hVτ, hwτ, hnτ, hcτ, hg1, hg2⟩ := vec_append σ1 lo (f 3) (ds.take i) ds[i] l4 hw1 (by omega) hl4 ho4 (by rw [List.length_take]; omega) hV1 (hL1.keep fun c cs hc h => ⟨h, by omega, fun b n m hs => by have := hsp b n m hs; omega⟩)
    rw [show ds.take i ++ [ds[i]] = ds.take (i + 1) by rw [List.take_add_one, hd]; rfl] at hVτ
    have w3 := add1 i (by omega)
    have o := hV.ones
    have o' := hVτ.ones
    rw [floop_step]
    unfold l15_0
    simp -implicitDefEqProofs only [go_sem, ↓reduceIte, Nat.reduceLT, Nat.reduceEqDiff, Nat.reduceAdd, Nat.reduceMul, Nat.reduceLeDiff, Nat.reduceSub, r15_3_go, r15_3U, r15_4_go, r15_4U, r15_5_go, r15_5U, h.f0, h.f4, d1, hi, hcs, hle, e1, hl4, ho4, ha, o.1, o.2.1, o.2.2, o'.1, o'.2.1, o'.2.2, w3]
    generalize hff : upd _ 4 _ = f1
    have kR : ∀ b cs, b ≤ lo → σ.cells b = some cs → τ.cells b = some cs := fun b cs hb hc => by
      rw [cells_get, hg1 b hb, ← cells_get]
      exact (x1.cells (hw.cells hc)).trans hc
    exact ih fuel (i + 1) f1 _ _ (by omega) (by omega) {
      f0 := by rw [← hff]; simp -implicitDefEqProofs only [upd_go, kept_go, ↓reduceIte, Nat.reduceEqDiff, Nat.reduceLT, reduceCtorEq, h.f0]
      f4 := by rw [← hff]; simp -implicitDefEqProofs only [upd_go, kept_go, ↓reduceIte, Nat.reduceEqDiff, Nat.reduceLT, reduceCtorEq]
      vec := by rw [show f1 3 = s' by rw [← hff]; simp -implicitDefEqProofs only [upd_go, kept_go, ↓reduceIte, Nat.reduceEqDiff, Nat.reduceLT, reduceCtorEq]]; exact hVτ
      lay := h.lay.keep fun b cs hb hc => ⟨kR b cs (hR b hb) hc, hb⟩
      wf := hwτ
      ext := ⟨by omega, by have := hx.clock; have := x1.clock; omega, fun b hb => by
        rw [hg2 b (by omega) (fun b' n m hs => by have := hsp b' n m hs; omega), x1.get b (by omega)]
        exact hx.get b hb⟩ }
/-- caracolekit.KeepData. -/
theorem keepL_go (n N lo : Nat) {R : Nat → Prop} (q : Option Addr) (c : Nat) (ds : List D) (hN : ∀ d ∈ ds, d.deep ≤ N ∧ d.count < 900) (hfew : ds.length < 900) (σ : FState) (hw : Wf σ) (hlo : σ.next = lo + 1) (hE : LaidRE R σ q 0 ds) (hR : ∀ b, R b → b < σ.next) :
    Gives ((env (n + N + 1)).call 15 [.slice q ds.length c] none σ) σ fun w σ' => Vec σ' lo w ds := by
  rw [env_call, enter15 _ _ _ _ (by simp), Sl_start]
  unfold run15
  simp -implicitDefEqProofs only [go_sem, ↓reduceIte, Nat.reduceLT, Nat.reduceEqDiff, Nat.reduceAdd, Nat.reduceMul, Nat.reduceLeDiff, Nat.reduceSub, r15_0_go, r15_0U, r15_1_go, r15_1U, r15_2_go, r15_2U, Option.getD_some, keepKL]
  generalize hff : upd _ 4 _ = f1
  generalize hbf : bigFuel = fuel
  obtain ⟨f2, g2, σ2, e2, h2⟩ := keepL_loop (n + N) (lo := lo) (q := q) (c := c) (ds := ds) (σ0 := σ) (R := R) (fun d hd => keepD_go n N d (hN d hd).1 (hN d hd).2) hlo (fun b hb => by have := hR b hb; omega) hfew ds.length fuel 0 f1 _ σ (by omega) (by rw [← hbf]; show ds.length < 1000000000000; omega) {
    f0 := by rw [← hff]; simp -implicitDefEqProofs only [upd_go, kept_go, ↓reduceIte, Nat.reduceEqDiff, Nat.reduceLT, reduceCtorEq, List.getElem?_cons_zero, Option.getD_some]
    f4 := by rw [← hff]; simp -implicitDefEqProofs only [upd_go, kept_go, ↓reduceIte, Nat.reduceEqDiff, Nat.reduceLT, reduceCtorEq] <;> rfl
    vec := .inl ⟨rfl, by rw [← hff]; simp -implicitDefEqProofs only [upd_go, kept_go, ↓reduceIte, Nat.reduceEqDiff, Nat.reduceLT, reduceCtorEq]⟩
    lay := hE
    wf := hw
    ext := Ext.refl _ }
  rw [e2]
  have hV := h2.vec
  rw [List.take_length] at hV
  have o := hV.ones
  simp -implicitDefEqProofs only [go_sem, ↓reduceIte, Nat.reduceLT, Nat.reduceEqDiff, Nat.reduceAdd, Nat.reduceMul, Nat.reduceLeDiff, Nat.reduceSub, r15_6_go, r15_6U, o.1, o.2.1, o.2.2]
  exact ⟨_, _, rfl, h2.ext, h2.wf, hV⟩
end Go.Proofs.YtodkeaoikjjneaaGreatDoor
/- Functions of the program, written out in the reading's words (made by program; the kernel holds each against the code). -/
namespace Go.Proofs.YtodkeaoikjjneaaGreatDoor
open Go Go.Eng
variable (E : Env) (ro : Option Nat) (last : List Nat → RunF) (cl : List Nat) (a : FAct) (u : Option FrameMode) (σ : FState)
/-! caracole/caracolelaw01.DatumListed -/
noncomputable def r3_0U (_ : Unit) : List COp := [⟨fun a σ => .val (.bool false) σ, (some 2), fun _ => some true⟩]
noncomputable def r3_0 : List COp := r3_0U ()
noncomputable def r3_1U (_ : Unit) : List COp := [⟨fun a σ => .val (a.get 0) σ, (some 26), fun _ => some true⟩,
  ⟨fun a σ => .enter 11 [(a.get 26)] σ, (some 27), fun _ => some true⟩,
  ⟨fun a σ => .val (a.get 27) σ, (some 3), fun _ => some true⟩]
noncomputable def r3_1 : List COp := r3_1U ()
noncomputable def r3_2U (_ : Unit) : List COp := [⟨fun a σ => newCells [(.slice none 0 0), (.slice none 0 0), (.slice none 0 0)] 26 none σ, (some 4), fun _ => some true⟩]
noncomputable def r3_2 : List COp := r3_2U ()
noncomputable def r3_3U (_ : Unit) : List COp := [⟨fun a σ => newCells [(.int .i64 0), (.int .i64 0), (.string ⟨#[]⟩), (.slice none 0 0), (.int .i64 0), (.int .i64 0), (.string ⟨#[]⟩), (.slice none 0 0), (.int .i64 0), (.int .i64 0), (.string ⟨#[]⟩), (.slice none 0 0)] 29 none σ, (some 5), fun _ => some true⟩]
noncomputable def r3_3 : List COp := r3_3U ()
noncomputable def r3_4U (_ : Unit) : List COp := [⟨fun a σ => .val (.int .i64 0) σ, (some 6), fun _ => some true⟩]
noncomputable def r3_4 : List COp := r3_4U ()
noncomputable def r3_5U (_ : Unit) : List COp := [⟨fun a σ => .val (a.get 6) σ, (some 28), fun _ => some true⟩,
  ⟨fun a σ => i_lss Tryz.prog 3 (.tmp 28) (.const (.int .i64 3)) (a.get 28) (.int .i64 3) σ, (some 29), fun _ => some true⟩]
noncomputable def r3_5 : List COp := r3_5U ()
noncomputable def r3_7U (_ : Unit) : List COp := [⟨fun a σ => .val (a.get 3) σ, (some 32), fun _ => some true⟩,
  ⟨fun a σ => .enter 12 [(a.get 32), (.int .i64 3)] σ, (some 33), fun _ => some true⟩,
  ⟨fun a σ => .val (a.get 33) σ, (some 7), fun _ => some true⟩]
noncomputable def r3_7 : List COp := r3_7U ()
noncomputable def r3_8U (_ : Unit) : List COp := [⟨fun a σ => .val (a.get 7) σ, (some 34), fun _ => some true⟩,
  ⟨fun a σ => i_gtr Tryz.prog 3 (.tmp 34) (.const (.int .i64 0)) (a.get 34) (.int .i64 0) σ, (some 35), fun _ => some true⟩]
noncomputable def r3_8 : List COp := r3_8U ()
noncomputable def r3_10U (_ : Unit) : List DOp := [⟨fun a σ => .val (a.get 3) σ, (some 42), fun _ => some true, (some 0), false⟩,
  ⟨fun a σ => .enter 13 [(a.get 42), (.int .i64 3)] σ, (some 43), fun _ => some true, none, false⟩,
  ⟨fun a σ => .val (a.get 6) σ, (some 39), fun _ => some true, (some 0), false⟩,
  ⟨fun a σ => findex ((some 3), 1) (a.get 4) (a.get 39) σ, (some 40), fun _ => some true, (some 0), false⟩,
  ⟨fun a σ => fload none (a.get 40) σ, (some 41), fun _ => some true, (some 0), false⟩,
  ⟨fun a σ => fbuildSlice 28 1 4 [(.int .i64 0), (.int .i64 0), (.string ⟨#[]⟩), (.slice none 0 0)] [(0, (a.get 43))] σ, (some 44), fun _ => some true, (some 1), false⟩,
  ⟨fun a σ => fappend 28 4 56 (a.get 41) (a.get 44) σ, (some 45), fun _ => some true, none, false⟩,
  ⟨fun a σ => .val (a.get 6) σ, (some 38), fun _ => some true, (some 0), false⟩,
  ⟨fun a σ => findex ((some 3), 1) (a.get 4) (a.get 38) σ, (some 46), fun _ => some true, (some 2), false⟩,
  ⟨fun a σ => fstore 1 (a.get 46) (a.get 45) σ, none, fun _ => some true, none, true⟩]
noncomputable def r3_10 : List DOp := r3_10U ()
noncomputable def r3_9U (_ : Unit) : List COp := [⟨fun a σ => .val (a.get 7) σ, (some 36), fun _ => some true⟩,
  ⟨fun a σ => i_sub Tryz.prog 3 (.tmp 36) (.const (.int .i64 1)) (a.get 36) (.int .i64 1) σ, (some 37), fun _ => some true⟩,
  ⟨fun a σ => .val (a.get 37) σ, (some 7), fun _ => some true⟩]
noncomputable def r3_9 : List COp := r3_9U ()
noncomputable def l3_0 (E : Env) (ro : Option Nat) (fn : FuncId) : RunF := (seqR (seqR (fops E ro r3_8) (condR (fun a => (a.get 35)) skipR (exitR 2))) (seqR (blockR 3 (drawR E ro r3_10)) (fops E ro r3_9)))
noncomputable def r3_11U (_ : Unit) : List COp := [⟨fun a σ => .val (a.get 6) σ, (some 48), fun _ => some true⟩,
  ⟨fun a σ => findex ((some 3), 1) (a.get 4) (a.get 48) σ, (some 49), fun _ => some true⟩,
  ⟨fun a σ => fload none (a.get 49) σ, (some 50), fun _ => some true⟩,
  ⟨fun a σ => .enter 15 [(a.get 50)] σ, (some 51), fun _ => some true⟩,
  ⟨fun a σ => .enter 14 [(a.get 51)] σ, (some 52), fun _ => some true⟩,
  ⟨fun a σ => .val (a.get 52) σ, (some 47), fun _ => some true⟩,
  ⟨fun a σ => fextract 0 (a.get 47) σ, (some 53), fun _ => some true⟩,
  ⟨fun a σ => fextract 1 (a.get 47) σ, (some 54), fun _ => some true⟩,
  ⟨fun a σ => newCells [(.int .i64 0), (.int .i64 0), (.string ⟨#[]⟩), (.slice none 0 0)] 28 none σ, (some 8), fun _ => some true⟩,
  ⟨fun a σ => fstore 4 (a.get 8) (a.get 53) σ, none, fun _ => some true⟩,
  ⟨fun a σ => .val (a.get 54) σ, (some 9), fun _ => some true⟩]
noncomputable def r3_11 : List COp := r3_11U ()
noncomputable def r3_12U (_ : Unit) : List COp := [⟨fun a σ => fload (some 4) (a.get 8) σ, (some 56), fun _ => some true⟩,
  ⟨fun a σ => .enter 16 [(a.get 56)] σ, (some 57), fun _ => some true⟩,
  ⟨fun a σ => .val (a.get 57) σ, (some 55), fun _ => some true⟩,
  ⟨fun a σ => fextract 0 (a.get 55) σ, (some 58), fun _ => some true⟩,
  ⟨fun a σ => fextract 1 (a.get 55) σ, (some 59), fun _ => some true⟩,
  ⟨fun a σ => .val (a.get 58) σ, (some 10), fun _ => some true⟩,
  ⟨fun a σ => .val (a.get 59) σ, (some 11), fun _ => some true⟩]
noncomputable def r3_12 : List COp := r3_12U ()
noncomputable def r3_13U (_ : Unit) : List COp := [⟨fun a σ => .val (a.get 9) σ, (some 60), fun _ => some true⟩,
  ⟨fun a σ => i_neq Tryz.prog 32 (.tmp 60) (.const (.int .i64 0)) (a.get 60) (.int .i64 0) σ, (some 61), fun _ => some true⟩,
  ⟨fun a σ => .val (a.get 61) σ, (some 62), fun _ => some true⟩,
  ⟨fun a σ => .val (a.get 11) σ, (some 63), fun a => gd (a.get 62) false⟩,
  ⟨fun a σ => i_neq Tryz.prog 32 (.tmp 63) (.const (.int .i64 0)) (a.get 63) (.int .i64 0) σ, (some 64), fun a => gd (a.get 62) false⟩,
  ⟨fun a σ => fpick (a.get 62) (.bool true) (a.get 64) σ, (some 65), fun _ => some true⟩,
  ⟨fun a σ => .val (a.get 65) σ, (some 66), fun _ => some true⟩,
  ⟨fun a σ => .val (a.get 10) σ, (some 67), fun a => gd (a.get 66) false⟩,
  ⟨fun a σ => .val (a.get 6) σ, (some 68), fun a => gd (a.get 66) false⟩,
  ⟨fun a σ => findex ((some 3), 1) (a.get 4) (a.get 68) σ, (some 69), fun a => gd (a.get 66) false⟩,
  ⟨fun a σ => fload none (a.get 69) σ, (some 70), fun a => gd (a.get 66) false⟩,
  ⟨fun a σ => .enter 17 [(a.get 67), (a.get 70)] σ, (some 71), fun a => gd (a.get 66) false⟩,
  ⟨fun a σ => fun1 Tryz.prog (Op.unary .not) (a.get 71) σ, (some 72), fun a => gd (a.get 66) false⟩,
  ⟨fun a σ => fpick (a.get 66) (.bool true) (a.get 72) σ, (some 73), fun _ => some true⟩]
noncomputable def r3_13 : List COp := r3_13U ()
noncomputable def r3_14U (_ : Unit) : List COp := [⟨fun a σ => .val (.bool false) σ, (some 2), fun _ => some true⟩]
noncomputable def r3_14 : List COp := r3_14U ()
noncomputable def r3_15U (_ : Unit) : List COp := [⟨fun a σ => .val (a.get 6) σ, (some 74), fun _ => some true⟩,
  ⟨fun a σ => fload (some 4) (a.get 8) σ, (some 75), fun _ => some true⟩,
  ⟨fun a σ => findex ((some 3), 4) (a.get 5) (a.get 74) σ, (some 76), fun _ => some true⟩,
  ⟨fun a σ => fstore 4 (a.get 76) (a.get 75) σ, none, fun _ => some true⟩]
noncomputable def r3_15 : List COp := r3_15U ()
noncomputable def r3_6U (_ : Unit) : List COp := [⟨fun a σ => .val (a.get 6) σ, (some 30), fun _ => some true⟩,
  ⟨fun a σ => i_add Tryz.prog 3 (.tmp 30) (.const (.int .i64 1)) (a.get 30) (.int .i64 1) σ, (some 31), fun _ => some true⟩,
  ⟨fun a σ => .val (a.get 31) σ, (some 6), fun _ => some true⟩]
noncomputable def r3_6 : List COp := r3_6U ()
noncomputable def l3_1 (E : Env) (ro : Option Nat) (fn : FuncId) : RunF := (seqR (seqR (fops E ro r3_5) (condR (fun a => (a.get 29)) skipR (exitR 0))) (seqR (blockR 1 (seqR (seqR (fops E ro r3_7) (blockR 2 (loopR (keepOf nls fn) (l3_0 E ro fn)))) (seqR (fops E ro r3_11) (seqR (fops E ro r3_12) (seqR (seqR (fops E ro r3_13) (condR (fun a => (a.get 73)) (seqR (fops E ro r3_14) retR) skipR)) (fops E ro r3_15)))))) (fops E ro r3_6)))
noncomputable def r3_16U (_ : Unit) : List COp := [⟨fun a σ => findex ((some 3), 4) (a.get 5) (.int .i64 0) σ, (some 78), fun _ => some true⟩,
  ⟨fun a σ => fload (some 4) (a.get 78) σ, (some 79), fun _ => some true⟩,
  ⟨fun a σ => findex ((some 3), 4) (a.get 5) (.int .i64 1) σ, (some 80), fun _ => some true⟩,
  ⟨fun a σ => fload (some 4) (a.get 80) σ, (some 81), fun _ => some true⟩,
  ⟨fun a σ => .enter 18 [(a.get 79), (a.get 81)] σ, (some 82), fun _ => some true⟩,
  ⟨fun a σ => .val (a.get 82) σ, (some 77), fun _ => some true⟩,
  ⟨fun a σ => fextract 0 (a.get 77) σ, (some 83), fun _ => some true⟩,
  ⟨fun a σ => fextract 1 (a.get 77) σ, (some 84), fun _ => some true⟩,
  ⟨fun a σ => newCells [(.int .i64 0), (.int .i64 0), (.string ⟨#[]⟩), (.slice none 0 0)] 28 none σ, (some 12), fun _ => some true⟩,
  ⟨fun a σ => fstore 4 (a.get 12) (a.get 83) σ, none, fun _ => some true⟩,
  ⟨fun a σ => .val (a.get 84) σ, (some 13), fun _ => some true⟩]
noncomputable def r3_16 : List COp := r3_16U ()
noncomputable def r3_17U (_ : Unit) : List COp := [⟨fun a σ => findex ((some 3), 4) (a.get 5) (.int .i64 1) σ, (some 86), fun _ => some true⟩,
  ⟨fun a σ => fload (some 4) (a.get 86) σ, (some 87), fun _ => some true⟩,
  ⟨fun a σ => findex ((some 3), 4) (a.get 5) (.int .i64 2) σ, (some 88), fun _ => some true⟩,
  ⟨fun a σ => fload (some 4) (a.get 88) σ, (some 89), fun _ => some true⟩,
  ⟨fun a σ => .enter 18 [(a.get 87), (a.get 89)] σ, (some 90), fun _ => some true⟩,
  ⟨fun a σ => .val (a.get 90) σ, (some 85), fun _ => some true⟩,
  ⟨fun a σ => fextract 0 (a.get 85) σ, (some 91), fun _ => some true⟩,
  ⟨fun a σ => fextract 1 (a.get 85) σ, (some 92), fun _ => some true⟩,
  ⟨fun a σ => newCells [(.int .i64 0), (.int .i64 0), (.string ⟨#[]⟩), (.slice none 0 0)] 28 none σ, (some 14), fun _ => some true⟩,
  ⟨fun a σ => fstore 4 (a.get 14) (a.get 91) σ, none, fun _ => some true⟩,
  ⟨fun a σ => .val (a.get 92) σ, (some 15), fun _ => some true⟩]
noncomputable def r3_17 : List COp := r3_17U ()
noncomputable def r3_18U (_ : Unit) : List COp := [⟨fun a σ => fload (some 4) (a.get 12) σ, (some 94), fun _ => some true⟩,
  ⟨fun a σ => .enter 16 [(a.get 94)] σ, (some 95), fun _ => some true⟩,
  ⟨fun a σ => .val (a.get 95) σ, (some 93), fun _ => some true⟩,
  ⟨fun a σ => fextract 0 (a.get 93) σ, (some 96), fun _ => some true⟩,
  ⟨fun a σ => fextract 1 (a.get 93) σ, (some 97), fun _ => some true⟩,
  ⟨fun a σ => .val (a.get 96) σ, (some 16), fun _ => some true⟩,
  ⟨fun a σ => .val (a.get 97) σ, (some 17), fun _ => some true⟩]
noncomputable def r3_18 : List COp := r3_18U ()
noncomputable def r3_19U (_ : Unit) : List DOp := [⟨fun a σ => .val (a.get 13) σ, (some 98), fun _ => some true, (some 0), false⟩,
  ⟨fun a σ => i_neq Tryz.prog 32 (.tmp 98) (.const (.int .i64 0)) (a.get 98) (.int .i64 0) σ, (some 99), fun _ => some true, (some 0), false⟩,
  ⟨fun a σ => .val (a.get 99) σ, (some 100), fun _ => some true, (some 0), false⟩,
  ⟨fun a σ => .val (a.get 15) σ, (some 101), fun a => gd (a.get 100) false, (some 0), false⟩,
  ⟨fun a σ => i_neq Tryz.prog 32 (.tmp 101) (.const (.int .i64 0)) (a.get 101) (.int .i64 0) σ, (some 102), fun a => gd (a.get 100) false, (some 0), false⟩,
  ⟨fun a σ => fpick (a.get 100) (.bool true) (a.get 102) σ, (some 103), fun _ => some true, (some 0), false⟩,
  ⟨fun a σ => .val (a.get 103) σ, (some 104), fun _ => some true, (some 0), false⟩,
  ⟨fun a σ => .val (a.get 17) σ, (some 105), fun a => gd (a.get 104) false, (some 0), false⟩,
  ⟨fun a σ => i_neq Tryz.prog 32 (.tmp 105) (.const (.int .i64 0)) (a.get 105) (.int .i64 0) σ, (some 106), fun a => gd (a.get 104) false, (some 0), false⟩,
  ⟨fun a σ => fpick (a.get 104) (.bool true) (a.get 106) σ, (some 107), fun _ => some true, (some 0), false⟩,
  ⟨fun a σ => .val (a.get 107) σ, (some 108), fun _ => some true, (some 0), false⟩,
  ⟨fun a σ => findex ((some 3), 1) (a.get 4) (.int .i64 0) σ, (some 110), fun a => gd (a.get 108) false, (some 0), false⟩,
  ⟨fun a σ => fload none (a.get 110) σ, (some 111), fun a => gd (a.get 108) false, (some 0), false⟩,
  ⟨fun a σ => .enter 15 [(a.get 111)] σ, (some 112), fun a => gd (a.get 108) false, none, false⟩,
  ⟨fun a σ => findex ((some 3), 1) (a.get 4) (.int .i64 1) σ, (some 113), fun a => gd (a.get 108) false, (some 0), false⟩,
  ⟨fun a σ => fload none (a.get 113) σ, (some 114), fun a => gd (a.get 108) false, (some 0), false⟩,
  ⟨fun a σ => fappend 28 4 56 (a.get 112) (a.get 114) σ, (some 115), fun a => gd (a.get 108) false, none, false⟩,
  ⟨fun a σ => .val (a.get 16) σ, (some 109), fun a => gd (a.get 108) false, (some 0), false⟩,
  ⟨fun a σ => .enter 17 [(a.get 109), (a.get 115)] σ, (some 116), fun a => gd (a.get 108) false, none, true⟩,
  ⟨fun a σ => fun1 Tryz.prog (Op.unary .not) (a.get 116) σ, (some 117), fun a => gd (a.get 108) false, (some 3), false⟩,
  ⟨fun a σ => fpick (a.get 108) (.bool true) (a.get 117) σ, (some 118), fun _ => some true, (some 3), false⟩]
noncomputable def r3_19 : List DOp := r3_19U ()
noncomputable def r3_20U (_ : Unit) : List COp := [⟨fun a σ => .val (.bool false) σ, (some 2), fun _ => some true⟩]
noncomputable def r3_20 : List COp := r3_20U ()
noncomputable def r3_21U (_ : Unit) : List COp := [⟨fun a σ => fload (some 4) (a.get 12) σ, (some 120), fun _ => some true⟩,
  ⟨fun a σ => findex ((some 3), 4) (a.get 5) (.int .i64 2) σ, (some 121), fun _ => some true⟩,
  ⟨fun a σ => fload (some 4) (a.get 121) σ, (some 122), fun _ => some true⟩,
  ⟨fun a σ => .enter 18 [(a.get 120), (a.get 122)] σ, (some 123), fun _ => some true⟩,
  ⟨fun a σ => .val (a.get 123) σ, (some 119), fun _ => some true⟩,
  ⟨fun a σ => fextract 0 (a.get 119) σ, (some 124), fun _ => some true⟩,
  ⟨fun a σ => fextract 1 (a.get 119) σ, (some 125), fun _ => some true⟩,
  ⟨fun a σ => newCells [(.int .i64 0), (.int .i64 0), (.string ⟨#[]⟩), (.slice none 0 0)] 28 none σ, (some 18), fun _ => some true⟩,
  ⟨fun a σ => fstore 4 (a.get 18) (a.get 124) σ, none, fun _ => some true⟩,
  ⟨fun a σ => .val (a.get 125) σ, (some 13), fun _ => some true⟩]
noncomputable def r3_21 : List COp := r3_21U ()
noncomputable def r3_22U (_ : Unit) : List COp := [⟨fun a σ => findex ((some 3), 4) (a.get 5) (.int .i64 0) σ, (some 127), fun _ => some true⟩,
  ⟨fun a σ => fload (some 4) (a.get 127) σ, (some 128), fun _ => some true⟩,
  ⟨fun a σ => fload (some 4) (a.get 14) σ, (some 129), fun _ => some true⟩,
  ⟨fun a σ => .enter 18 [(a.get 128), (a.get 129)] σ, (some 130), fun _ => some true⟩,
  ⟨fun a σ => .val (a.get 130) σ, (some 126), fun _ => some true⟩,
  ⟨fun a σ => fextract 0 (a.get 126) σ, (some 131), fun _ => some true⟩,
  ⟨fun a σ => fextract 1 (a.get 126) σ, (some 132), fun _ => some true⟩,
  ⟨fun a σ => newCells [(.int .i64 0), (.int .i64 0), (.string ⟨#[]⟩), (.slice none 0 0)] 28 none σ, (some 19), fun _ => some true⟩,
  ⟨fun a σ => fstore 4 (a.get 19) (a.get 131) σ, none, fun _ => some true⟩,
  ⟨fun a σ => .val (a.get 132) σ, (some 15), fun _ => some true⟩]
noncomputable def r3_22 : List COp := r3_22U ()
noncomputable def r3_23U (_ : Unit) : List COp := [⟨fun a σ => fload (some 4) (a.get 12) σ, (some 134), fun _ => some true⟩,
  ⟨fun a σ => .enter 19 [(a.get 134)] σ, (some 135), fun _ => some true⟩,
  ⟨fun a σ => .val (a.get 135) σ, (some 133), fun _ => some true⟩,
  ⟨fun a σ => fextract 0 (a.get 133) σ, (some 136), fun _ => some true⟩,
  ⟨fun a σ => fextract 1 (a.get 133) σ, (some 137), fun _ => some true⟩,
  ⟨fun a σ => newCells [(.int .i64 0), (.int .i64 0), (.string ⟨#[]⟩), (.slice none 0 0)] 28 none σ, (some 20), fun _ => some true⟩,
  ⟨fun a σ => fstore 4 (a.get 20) (a.get 136) σ, none, fun _ => some true⟩,
  ⟨fun a σ => .val (a.get 137) σ, (some 17), fun _ => some true⟩]
noncomputable def r3_23 : List COp := r3_23U ()
noncomputable def r3_24U (_ : Unit) : List COp := [⟨fun a σ => fload (some 4) (a.get 20) σ, (some 139), fun _ => some true⟩,
  ⟨fun a σ => .enter 19 [(a.get 139)] σ, (some 140), fun _ => some true⟩,
  ⟨fun a σ => .val (a.get 140) σ, (some 138), fun _ => some true⟩,
  ⟨fun a σ => fextract 0 (a.get 138) σ, (some 141), fun _ => some true⟩,
  ⟨fun a σ => fextract 1 (a.get 138) σ, (some 142), fun _ => some true⟩,
  ⟨fun a σ => newCells [(.int .i64 0), (.int .i64 0), (.string ⟨#[]⟩), (.slice none 0 0)] 28 none σ, (some 21), fun _ => some true⟩,
  ⟨fun a σ => fstore 4 (a.get 21) (a.get 141) σ, none, fun _ => some true⟩,
  ⟨fun a σ => .val (a.get 142) σ, (some 22), fun _ => some true⟩]
noncomputable def r3_24 : List COp := r3_24U ()
noncomputable def r3_25U (_ : Unit) : List COp := [⟨fun a σ => .val (a.get 13) σ, (some 143), fun _ => some true⟩,
  ⟨fun a σ => i_neq Tryz.prog 32 (.tmp 143) (.const (.int .i64 0)) (a.get 143) (.int .i64 0) σ, (some 144), fun _ => some true⟩,
  ⟨fun a σ => .val (a.get 144) σ, (some 145), fun _ => some true⟩,
  ⟨fun a σ => .val (a.get 15) σ, (some 146), fun a => gd (a.get 145) false⟩,
  ⟨fun a σ => i_neq Tryz.prog 32 (.tmp 146) (.const (.int .i64 0)) (a.get 146) (.int .i64 0) σ, (some 147), fun a => gd (a.get 145) false⟩,
  ⟨fun a σ => fpick (a.get 145) (.bool true) (a.get 147) σ, (some 148), fun _ => some true⟩,
  ⟨fun a σ => .val (a.get 148) σ, (some 149), fun _ => some true⟩,
  ⟨fun a σ => .val (a.get 17) σ, (some 150), fun a => gd (a.get 149) false⟩,
  ⟨fun a σ => i_neq Tryz.prog 32 (.tmp 150) (.const (.int .i64 0)) (a.get 150) (.int .i64 0) σ, (some 151), fun a => gd (a.get 149) false⟩,
  ⟨fun a σ => fpick (a.get 149) (.bool true) (a.get 151) σ, (some 152), fun _ => some true⟩,
  ⟨fun a σ => .val (a.get 152) σ, (some 153), fun _ => some true⟩,
  ⟨fun a σ => .val (a.get 22) σ, (some 154), fun a => gd (a.get 153) false⟩,
  ⟨fun a σ => i_neq Tryz.prog 32 (.tmp 154) (.const (.int .i64 0)) (a.get 154) (.int .i64 0) σ, (some 155), fun a => gd (a.get 153) false⟩,
  ⟨fun a σ => fpick (a.get 153) (.bool true) (a.get 155) σ, (some 156), fun _ => some true⟩,
  ⟨fun a σ => .val (a.get 156) σ, (some 157), fun _ => some true⟩,
  ⟨fun a σ => fload (some 4) (a.get 18) σ, (some 158), fun a => gd (a.get 157) false⟩,
  ⟨fun a σ => fload (some 4) (a.get 19) σ, (some 159), fun a => gd (a.get 157) false⟩,
  ⟨fun a σ => .enter 20 [(a.get 158), (a.get 159)] σ, (some 160), fun a => gd (a.get 157) false⟩,
  ⟨fun a σ => fun1 Tryz.prog (Op.unary .not) (a.get 160) σ, (some 161), fun a => gd (a.get 157) false⟩,
  ⟨fun a σ => fpick (a.get 157) (.bool true) (a.get 161) σ, (some 162), fun _ => some true⟩,
  ⟨fun a σ => .val (a.get 162) σ, (some 163), fun _ => some true⟩,
  ⟨fun a σ => fload (some 4) (a.get 21) σ, (some 164), fun a => gd (a.get 163) false⟩,
  ⟨fun a σ => fload (some 4) (a.get 12) σ, (some 165), fun a => gd (a.get 163) false⟩,
  ⟨fun a σ => .enter 20 [(a.get 164), (a.get 165)] σ, (some 166), fun a => gd (a.get 163) false⟩,
  ⟨fun a σ => fun1 Tryz.prog (Op.unary .not) (a.get 166) σ, (some 167), fun a => gd (a.get 163) false⟩,
  ⟨fun a σ => fpick (a.get 163) (.bool true) (a.get 167) σ, (some 168), fun _ => some true⟩]
noncomputable def r3_25 : List COp := r3_25U ()
noncomputable def r3_26U (_ : Unit) : List COp := [⟨fun a σ => .val (.bool false) σ, (some 2), fun _ => some true⟩]
noncomputable def r3_26 : List COp := r3_26U ()
noncomputable def r3_27U (_ : Unit) : List COp := [⟨fun a σ => findex ((some 3), 4) (a.get 5) (.int .i64 0) σ, (some 170), fun _ => some true⟩,
  ⟨fun a σ => fload (some 4) (a.get 170) σ, (some 171), fun _ => some true⟩,
  ⟨fun a σ => .enter 19 [(a.get 171)] σ, (some 172), fun _ => some true⟩,
  ⟨fun a σ => .val (a.get 172) σ, (some 169), fun _ => some true⟩,
  ⟨fun a σ => fextract 0 (a.get 169) σ, (some 173), fun _ => some true⟩,
  ⟨fun a σ => fextract 1 (a.get 169) σ, (some 174), fun _ => some true⟩,
  ⟨fun a σ => newCells [(.int .i64 0), (.int .i64 0), (.string ⟨#[]⟩), (.slice none 0 0)] 28 none σ, (some 23), fun _ => some true⟩,
  ⟨fun a σ => fstore 4 (a.get 23) (a.get 173) σ, none, fun _ => some true⟩,
  ⟨fun a σ => .val (a.get 174) σ, (some 13), fun _ => some true⟩]
noncomputable def r3_27 : List COp := r3_27U ()
noncomputable def r3_28U (_ : Unit) : List COp := [⟨fun a σ => findex ((some 3), 4) (a.get 5) (.int .i64 1) σ, (some 176), fun _ => some true⟩,
  ⟨fun a σ => fload (some 4) (a.get 176) σ, (some 177), fun _ => some true⟩,
  ⟨fun a σ => .enter 19 [(a.get 177)] σ, (some 178), fun _ => some true⟩,
  ⟨fun a σ => .val (a.get 178) σ, (some 175), fun _ => some true⟩,
  ⟨fun a σ => fextract 0 (a.get 175) σ, (some 179), fun _ => some true⟩,
  ⟨fun a σ => fextract 1 (a.get 175) σ, (some 180), fun _ => some true⟩,
  ⟨fun a σ => newCells [(.int .i64 0), (.int .i64 0), (.string ⟨#[]⟩), (.slice none 0 0)] 28 none σ, (some 24), fun _ => some true⟩,
  ⟨fun a σ => fstore 4 (a.get 24) (a.get 179) σ, none, fun _ => some true⟩,
  ⟨fun a σ => .val (a.get 180) σ, (some 15), fun _ => some true⟩]
noncomputable def r3_28 : List COp := r3_28U ()
noncomputable def r3_29U (_ : Unit) : List COp := [⟨fun a σ => fload (some 4) (a.get 24) σ, (some 182), fun _ => some true⟩,
  ⟨fun a σ => fload (some 4) (a.get 23) σ, (some 183), fun _ => some true⟩,
  ⟨fun a σ => .enter 18 [(a.get 182), (a.get 183)] σ, (some 184), fun _ => some true⟩,
  ⟨fun a σ => .val (a.get 184) σ, (some 181), fun _ => some true⟩,
  ⟨fun a σ => fextract 0 (a.get 181) σ, (some 185), fun _ => some true⟩,
  ⟨fun a σ => fextract 1 (a.get 181) σ, (some 186), fun _ => some true⟩,
  ⟨fun a σ => newCells [(.int .i64 0), (.int .i64 0), (.string ⟨#[]⟩), (.slice none 0 0)] 28 none σ, (some 25), fun _ => some true⟩,
  ⟨fun a σ => fstore 4 (a.get 25) (a.get 185) σ, none, fun _ => some true⟩,
  ⟨fun a σ => .val (a.get 186) σ, (some 17), fun _ => some true⟩]
noncomputable def r3_29 : List COp := r3_29U ()
noncomputable def r3_30U (_ : Unit) : List COp := [⟨fun a σ => .val (a.get 13) σ, (some 187), fun _ => some true⟩,
  ⟨fun a σ => i_eql Tryz.prog 32 (.tmp 187) (.const (.int .i64 0)) (a.get 187) (.int .i64 0) σ, (some 188), fun _ => some true⟩,
  ⟨fun a σ => .val (a.get 188) σ, (some 189), fun _ => some true⟩,
  ⟨fun a σ => .val (a.get 15) σ, (some 190), fun a => gd (a.get 189) true⟩,
  ⟨fun a σ => i_eql Tryz.prog 32 (.tmp 190) (.const (.int .i64 0)) (a.get 190) (.int .i64 0) σ, (some 191), fun a => gd (a.get 189) true⟩,
  ⟨fun a σ => fpick (a.get 189) (a.get 191) (.bool false) σ, (some 192), fun _ => some true⟩,
  ⟨fun a σ => .val (a.get 192) σ, (some 193), fun _ => some true⟩,
  ⟨fun a σ => .val (a.get 17) σ, (some 194), fun a => gd (a.get 193) true⟩,
  ⟨fun a σ => i_eql Tryz.prog 32 (.tmp 194) (.const (.int .i64 0)) (a.get 194) (.int .i64 0) σ, (some 195), fun a => gd (a.get 193) true⟩,
  ⟨fun a σ => fpick (a.get 193) (a.get 195) (.bool false) σ, (some 196), fun _ => some true⟩,
  ⟨fun a σ => .val (a.get 196) σ, (some 197), fun _ => some true⟩,
  ⟨fun a σ => fload (some 4) (a.get 25) σ, (some 198), fun a => gd (a.get 197) true⟩,
  ⟨fun a σ => fload (some 4) (a.get 20) σ, (some 199), fun a => gd (a.get 197) true⟩,
  ⟨fun a σ => .enter 20 [(a.get 198), (a.get 199)] σ, (some 200), fun a => gd (a.get 197) true⟩,
  ⟨fun a σ => fpick (a.get 197) (a.get 200) (.bool false) σ, (some 201), fun _ => some true⟩,
  ⟨fun a σ => .val (a.get 201) σ, (some 202), fun _ => some true⟩,
  ⟨fun a σ => .enter 21 [] σ, (some 203), fun a => gd (a.get 202) true⟩,
  ⟨fun a σ => fpick (a.get 202) (a.get 203) (.bool false) σ, (some 204), fun _ => some true⟩,
  ⟨fun a σ => .val (a.get 204) σ, (some 2), fun _ => some true⟩]
noncomputable def r3_30 : List COp := r3_30U ()
noncomputable def run3 (E : Env) (ro : Option Nat) (fn : FuncId) : RunF := (seqR (fops E ro r3_0) (seqR (fops E ro r3_1) (seqR (fops E ro r3_2) (seqR (fops E ro r3_3) (seqR (seqR (fops E ro r3_4) (blockR 0 (loopR (keepOf nls fn) (l3_1 E ro fn)))) (seqR (fops E ro r3_16) (seqR (fops E ro r3_17) (seqR (fops E ro r3_18) (seqR (seqR (drawR E ro r3_19) (condR (fun a => (a.get 118)) (seqR (fops E ro r3_20) retR) skipR)) (seqR (fops E ro r3_21) (seqR (fops E ro r3_22) (seqR (fops E ro r3_23) (seqR (fops E ro r3_24) (seqR (seqR (fops E ro r3_25) (condR (fun a => (a.get 168)) (seqR (fops E ro r3_26) retR) skipR)) (seqR (fops E ro r3_27) (seqR (fops E ro r3_28) (seqR (fops E ro r3_29) (seqR (fops E ro r3_30) retR))))))))))))))))))
theorem r3_0_go : fops E ro r3_0 a u σ = fops E ro (r3_0U ()) a u σ := rfl
theorem r3_1_go : fops E ro r3_1 a u σ = fops E ro (r3_1U ()) a u σ := rfl
theorem r3_2_go : fops E ro r3_2 a u σ = fops E ro (r3_2U ()) a u σ := rfl
theorem r3_3_go : fops E ro r3_3 a u σ = fops E ro (r3_3U ()) a u σ := rfl
theorem r3_4_go : fops E ro r3_4 a u σ = fops E ro (r3_4U ()) a u σ := rfl
theorem r3_5_go : fops E ro r3_5 a u σ = fops E ro (r3_5U ()) a u σ := rfl
theorem r3_7_go : fops E ro r3_7 a u σ = fops E ro (r3_7U ()) a u σ := rfl
theorem r3_8_go : fops E ro r3_8 a u σ = fops E ro (r3_8U ()) a u σ := rfl
theorem r3_10_go : fdraw E ro last r3_10 cl a u σ = fdraw E ro last (r3_10U ()) cl a u σ := rfl
theorem r3_9_go : fops E ro r3_9 a u σ = fops E ro (r3_9U ()) a u σ := rfl
theorem r3_11_go : fops E ro r3_11 a u σ = fops E ro (r3_11U ()) a u σ := rfl
theorem r3_12_go : fops E ro r3_12 a u σ = fops E ro (r3_12U ()) a u σ := rfl
theorem r3_13_go : fops E ro r3_13 a u σ = fops E ro (r3_13U ()) a u σ := rfl
theorem r3_15_go : fops E ro r3_15 a u σ = fops E ro (r3_15U ()) a u σ := rfl
theorem r3_6_go : fops E ro r3_6 a u σ = fops E ro (r3_6U ()) a u σ := rfl
theorem r3_16_go : fops E ro r3_16 a u σ = fops E ro (r3_16U ()) a u σ := rfl
theorem r3_17_go : fops E ro r3_17 a u σ = fops E ro (r3_17U ()) a u σ := rfl
theorem r3_18_go : fops E ro r3_18 a u σ = fops E ro (r3_18U ()) a u σ := rfl
theorem r3_19_go : fdraw E ro last r3_19 cl a u σ = fdraw E ro last (r3_19U ()) cl a u σ := rfl
theorem r3_21_go : fops E ro r3_21 a u σ = fops E ro (r3_21U ()) a u σ := rfl
theorem r3_22_go : fops E ro r3_22 a u σ = fops E ro (r3_22U ()) a u σ := rfl
theorem r3_23_go : fops E ro r3_23 a u σ = fops E ro (r3_23U ()) a u σ := rfl
theorem r3_24_go : fops E ro r3_24 a u σ = fops E ro (r3_24U ()) a u σ := rfl
theorem r3_25_go : fops E ro r3_25 a u σ = fops E ro (r3_25U ()) a u σ := rfl
theorem r3_27_go : fops E ro r3_27 a u σ = fops E ro (r3_27U ()) a u σ := rfl
theorem r3_28_go : fops E ro r3_28 a u σ = fops E ro (r3_28U ()) a u σ := rfl
theorem r3_29_go : fops E ro r3_29 a u σ = fops E ro (r3_29U ()) a u σ := rfl
theorem r3_30_go : fops E ro r3_30 a u σ = fops E ro (r3_30U ()) a u σ := rfl
theorem code3 (E : Env) (ro : Option Nat) (fn : FuncId) : code Tryz.prog nls (Tryz.f3.body.getD .skip) E ro fn = run3 E ro fn := by kernel_rfl
theorem enter3 (E : Env) (args : List Value) (u : Option FrameMode) (σ : FState) (hn : args.length ≤ (26 : Nat)) : fcall Tryz.prog nls E 3 args u σ = leaveR Tryz.prog E [.tmp 2] (run3 E none 3 ⟨padTo undef 26 args, fun _ => undef, 26, 205, []⟩ u σ) := by
  rw [fcall_of (body := Tryz.f3.body.getD .skip) Tryz.func3 rfl E args u σ 26 205 (by kernel_rfl) rfl ⟨hn, by decide⟩, code3]
  rfl
end Go.Proofs.YtodkeaoikjjneaaGreatDoor
/- DatumListed: the lists that are made. -/
namespace Go.Proofs.YtodkeaoikjjneaaGreatDoor
open Go Go.Eng
attribute [local congr] andThen_congr fops_congr fdraw_congr afterOp_congr drawF_congr
attribute [-go_sem] List.range_succ
mutual
theorem same_refl : ∀ (a : D), D.same a a = true
  | .mk k n t ds => by
    rw [show D.same (.mk k n t ds) (.mk k n t ds) = (decide (k = k) && decide (n = n) && (t.toList == t.toList) && D.sames ds ds) from rfl, sames_refl ds]
    simp
theorem sames_refl : ∀ (l : List D), D.sames l l = true
  | [] => rfl
  | a :: l => by
    rw [show D.sames (a :: l) (a :: l) = (D.same a a && D.sames l l) from rfl, same_refl a, sames_refl l]
    rfl
end
/-- A list of data that is done: its block and its elements lie in R. -/
def Held (R : Nat → Prop) (σ : FState) (s : Value) (ds : List D) : Prop :=
  (ds = [] ∧ s = .slice none 0 0) ∨ (∃ b cs, s = .slice (some ⟨b, 0, none⟩) ds.length ds.length ∧ σ.cells b = some cs ∧ R b ∧ Row R σ cs ds)
theorem Held.keep {R R' : Nat → Prop} {σ σ' : FState} {s : Value} {ds : List D} (h : Held R σ s ds) (hk : ∀ b cs, R b → σ.cells b = some cs → σ'.cells b = some cs ∧ R' b) : Held R' σ' s ds := by
  rcases h with h | ⟨b, cs, rfl, hb, hR, hr⟩
  · exact .inl h
  · exact .inr ⟨b, cs, rfl, (hk b cs hR hb).1, (hk b cs hR hb).2, hr.keep hk⟩
theorem Held.slice {R : Nat → Prop} {σ : FState} {s : Value} {ds : List D} (h : Held R σ s ds) : ∃ p, s = .slice p ds.length ds.length ∧ LaidRE R σ p 0 ds := by
  rcases h with ⟨rfl, rfl⟩ | ⟨b, cs, rfl, hb, hR, hr⟩
  · exact ⟨none, rfl, trivial⟩
  · exact ⟨_, rfl, hr.elems hb hR (fun c hc => hc) 0 ds fun j e he => by rwa [Nat.zero_add]⟩
theorem Held.ones {R : Nat → Prop} {σ : FState} {s : Value} {ds : List D} (h : Held R σ s ds) : oneCell s = true ∧ notTuple s = true ∧ valCells s = [s] := by
  rcases h with ⟨rfl, rfl⟩ | ⟨b, cs, rfl, _⟩ <;> exact ⟨rfl, rfl, rfl⟩
theorem Vec.held {σ : FState} {lo : Nat} {s : Value} {ds : List D} (h : Vec σ lo s ds) : Held (fun b => lo < b) σ s ds := by
  rcases h with h | ⟨b, cs, ver, rfl, hb, hq, hr⟩
  · exact .inl h
  · exact .inr ⟨b, cs, rfl, cells_of_get hb, hq, hr.keep fun c cs hc h => ⟨h, hc.1⟩⟩
theorem findexP_eq (b off l n size : Nat) (k : IntKind) (σ : FState) : findex (some l, size) (.pointer (some ⟨b, off, none⟩)) (.int k (.ofNat n)) σ = (if n < l then .val (.pointer (some ⟨b, off + n * size, none⟩)) σ else .no) := by
  show cond (Nat.blt n l) _ _ = _
  by_cases h : n < l
  · rw [if_pos h, show Nat.blt n l = true by rw [Nat.blt_eq]; exact h]; rfl
  · rw [if_neg h, show Nat.blt n l = false by rw [← Bool.not_eq_true, Nat.blt_eq]; exact h]; rfl
/-- caracolekit.EqData of equal lists. -/
theorem eqDataT (q : Nat) (ds : List D) (p p' : Option Addr) (c c' : Nat) (R R' : Nat → Prop) (σ : FState) (hN : D.deeps ds ≤ 5) (hM : D.counts ds < 1000000000) (hw : Wf σ) (h1 : LaidRE R σ p 0 ds) (h2 : LaidRE R' σ p' 0 ds) :
    ∃ σ', (top (q + 40)).call 17 [.slice p ds.length c, .slice p' ds.length c'] none σ = .ret (.bool true) none σ' ∧ Ext σ σ' ∧ Wf σ' := by
  obtain ⟨_, σ', e, x, hw', rfl⟩ := eqDataC_step (q + 29 + 2 * 5) 5 (fun d d' v v' σ a b c e f => eqDatum_go (q + 29) 5 d d' v v' σ a b c e f) p p' c c' ds ds σ hN hM hw h1.laid h2.laid
  rw [sames_refl] at e
  exact ⟨σ', (top_call _ _ _ _ rfl).trans e, x, hw'⟩
end Go.Proofs.YtodkeaoikjjneaaGreatDoor
/- DatumListed: one list is made. -/
namespace Go.Proofs.YtodkeaoikjjneaaGreatDoor
open Go Go.Eng
attribute [local congr] andThen_congr fops_congr fdraw_congr afterOp_congr drawF_congr
attribute [-go_sem] List.range_succ
structure HeadI (x bl bd lo i : Nat) (σ0 : FState) (ss : List Value) (ds : List D) (j : Nat) (f : Nat → Value) (σ : FState) : Prop where
  f3 : f 3 = .pointer (some ⟨x, 0, none⟩)
  f4 : f 4 = .pointer (some ⟨bl, 0, none⟩)
  f5 : f 5 = .pointer (some ⟨bd, 0, none⟩)
  f6 : f 6 = .int .i64 (.ofNat i)
  f7 : f 7 = .int .i64 (.ofNat j)
  arr : ∃ ver s, σ.heap.get bl = some ⟨.cells (ss.set i s) 26, false, none, ver⟩ ∧ Vec σ lo s ds
  same : ∀ b, b ≤ lo → b ≠ x → b ≠ bl → σ.heap.get b = σ0.heap.get b
  wf : Wf σ
  next : σ0.next ≤ σ.next
  clock : σ0.clock ≤ σ.clock
  made : ∀ d ∈ ds, Made 3 d
  len : ds.length + j ≤ 3
theorem inner_loop (q : Nat) {x bl bd lo i K : Nat} {σ0 : FState} {ss : List Value} (hlt : x < bl ∧ bl < bd ∧ bd ≤ lo ∧ lo < σ0.next) (hi : i < 3) (hss : ss.length = 3) (hK : K < 100000000000) (k0 : Nat) :
    ∀ (j fuel : Nat) (ds : List D) (f g : Nat → Value) (σ : FState), j < fuel → HeadI x bl bd lo i σ0 ss ds j f σ → (∃ k, Coil σ x k ∧ k0 ≤ k ∧ k + j * wound 3 ≤ K) →
      ∃ f' g' σ' ds', floop (keepOf nls 3) (l3_0 (top (q + 40)) none 3) fuel (Sl 26 205 f g []) none σ = .done (.exit 2) (Sl 26 205 f' g' []) none σ' ∧ HeadI x bl bd lo i σ0 ss ds' 0 f' σ' ∧ (∃ k, Coil σ' x k ∧ k0 ≤ k ∧ k ≤ K) := by
  intro j
  induction j with
  | zero =>
    intro fuel ds f g σ hf h hk
    obtain ⟨fuel, rfl⟩ : ∃ q, fuel = q + 1 := ⟨fuel - 1, by omega⟩
    have hd : decide (Int.ofNat 0 > 0) = false := rfl
    rw [floop_step]
    unfold l3_0
    simp -implicitDefEqProofs only [go_sem, ↓reduceIte, Nat.reduceLT, Nat.reduceEqDiff, Nat.reduceAdd, Nat.reduceMul, Nat.reduceLeDiff, Nat.reduceSub, r3_8_go, r3_8U, h.f7, hd]
    exact ⟨_, _, _, ds, rfl, h, by simpa using hk⟩
  | succ j ih =>
    intro fuel ds f g σ hf h hk
    obtain ⟨k, hC, hk0, hkK⟩ := hk
    obtain ⟨fuel, rfl⟩ : ∃ q, fuel = q + 1 := ⟨fuel - 1, by omega⟩
    have hd : decide (Int.ofNat (j + 1) > 0) = true := by simp
    have hjW : (j + 1) * wound 3 = j * wound 3 + wound 3 := Nat.succ_mul j _
    have hlen := h.len
    have hwj := sub1 j (by omega)
    obtain ⟨v, d, σ1, k1, e, hLd, hMd, hX1, hw1, hC1, hk1, hk2⟩ := datumOf_go (q + 33) x 3 (by omega) k σ (by omega) h.wf hC
    have e' : (top (q + 40)).call 13 [.pointer (some ⟨x, 0, none⟩), .int .i64 3] none σ = .ret v none σ1 := (top_call _ _ _ _ rfl).trans e
    obtain ⟨ver, s, hb, hV⟩ := h.arr
    have hbn := h.wf _ _ hb
    have hn0 := h.next
    have hnx := hX1.next
    have hb1 : σ1.heap.get bl = _ := (hX1.get bl hbn.1 (by omega)).trans hb
    have hvb : (view σ1 σ.clock).cells bl = some (ss.set i s) := view_old h.wf (Nat.le_refl _) (hX1.get bl hbn.1 (by omega)) (cells_of_get hb)
    have hV1 : Vec σ1 lo s ds := hV.keep h.wf fun c h1 h2 => hX1.get c h2 (by omega)
    have hsp := hV.spot h.wf
    obtain ⟨l4, rfl, hl4, ho4⟩ := hLd.agg
    obtain ⟨s', τ, ha, ho, hVτ, hwτ, hnτ, hcτ, hg1, hg2⟩ := vec_append σ1 lo s ds d l4 hw1 (by omega) hl4 ho4 (by omega) hV1
      (hLd.keep fun c cs hc h => ⟨h, by have := hc.1; omega, fun b n m hsb => by have := (hsp b n m hsb).1; have := hc.1; omega⟩)
    have hgb : τ.heap.get bl = _ := (hg1 bl (by omega)).trans hb1
    have o' := hVτ.ones
    have hgi : (ss.set i s)[i]? = some s := List.getElem?_set_self (by omega)
    have hsl : i + 1 ≤ (ss.set i s).length := by rw [List.length_set]; omega
    have hspl : (ss.set i s).take i ++ [s'] ++ (ss.set i s).drop (i + 1) = ss.set i s' := by
      have := List.set_eq_take_append_cons_drop (l := ss.set i s) (i := i) (a := s')
      rw [if_pos (by rw [List.length_set]; omega), List.set_set] at this
      rw [this, List.append_assoc]; rfl
    rw [floop_step]
    unfold l3_0
    simp -implicitDefEqProofs only [go_sem, ↓reduceIte, Nat.reduceLT, Nat.reduceEqDiff, Nat.reduceAdd, Nat.reduceMul, Nat.reduceLeDiff, Nat.reduceSub, fstoreN, r3_8_go, r3_8U, r3_9_go, r3_9U, r3_10_go, r3_10U, h.f3, h.f4, h.f6, h.f7, hd, e', findexP_eq, hi, hvb, hgi, hl4, ho4, ha, o'.1, o'.2.1, o'.2.2, hgb, hsl, hspl, hwj]
    generalize hff : upd _ 7 _ = f1
    refine ih fuel (ds ++ [d]) f1 _ (τ.put bl (.cells (ss.set i s') 26) none) (by omega) {
      f3 := by rw [← hff]; simp -implicitDefEqProofs only [upd_go, kept_go, ↓reduceIte, Nat.reduceEqDiff, Nat.reduceLT, reduceCtorEq, h.f3]
      f4 := by rw [← hff]; simp -implicitDefEqProofs only [upd_go, kept_go, ↓reduceIte, Nat.reduceEqDiff, Nat.reduceLT, reduceCtorEq, h.f4]
      f5 := by rw [← hff]; simp -implicitDefEqProofs only [upd_go, kept_go, ↓reduceIte, Nat.reduceEqDiff, Nat.reduceLT, reduceCtorEq, h.f5]
      f6 := by rw [← hff]; simp -implicitDefEqProofs only [upd_go, kept_go, ↓reduceIte, Nat.reduceEqDiff, Nat.reduceLT, reduceCtorEq, h.f6]
      f7 := by rw [← hff]; simp -implicitDefEqProofs only [upd_go, kept_go, ↓reduceIte, Nat.reduceEqDiff, Nat.reduceLT, reduceCtorEq]
      arr := ⟨_, s', by rw [put_get, if_pos rfl], hVτ.keep hwτ fun c h1 h2 => by rw [put_get, if_neg (by omega)]⟩
      same := fun b hb h1 h2 => by
        rw [put_get, if_neg h2, hg1 b hb, hX1.get b (by omega) h1]
        exact h.same b hb h1 h2
      wf := hwτ.put _ _ _ (by omega)
      next := by rw [put_next]; omega
      clock := by rw [put_clock]; have := h.clock; have := hX1.clock; omega
      made := fun e he => by
        rcases List.mem_append.1 he with h' | h'
        · exact h.made e h'
        · rw [List.mem_singleton.1 h']; exact hMd
      len := by rw [List.length_append, List.length_singleton]; omega } ⟨k1, (hC1.low fun c hc => hg1 c (by omega)).put bl hlt.1 _ _, by omega, by omega⟩
end Go.Proofs.YtodkeaoikjjneaaGreatDoor
