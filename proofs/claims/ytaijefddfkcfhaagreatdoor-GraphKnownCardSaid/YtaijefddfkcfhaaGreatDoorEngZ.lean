/- Calls: what the reading makes of them is so. -/
import Derived.Test.YtaijefddfkcfhaaGreatDoorEngY
namespace Go.Eng
open Go
variable [Pins]

omit [Pins] in
theorem nth_padTo {α : Type} (d : α) (n : Nat) (l : List α) (t : Nat) : nth (padTo d n l) t = if t < n then some ((l[t]?).getD d) else none := by
  induction n generalizing l t with
  | zero =>
    have : nth (padTo d 0 l) t = none := rfl
    rw [this, if_neg (Nat.not_lt_zero t)]
  | succ n ih =>
    have hz : ∀ (x : α) (r : List α), nth (x :: r) 0 = some x := fun _ _ => rfl
    have hs : ∀ (x : α) (r : List α) (j : Nat), nth (x :: r) (j + 1) = nth r j := fun _ _ _ => rfl
    cases l with
    | nil =>
      have : padTo d (n + 1) [] = d :: padTo d n [] := rfl
      rw [this]
      cases t with
      | zero => simp [hz]
      | succ t => rw [hs, ih]; simp
    | cons x r =>
      have : padTo d (n + 1) (x :: r) = x :: padTo d n r := rfl
      rw [this]
      cases t with
      | zero => simp [hz]
      | succ t => rw [hs, ih]; simp

section
variable {P : Program} {m : Mp} {σ : FState} {w : World} {E : Env}

omit [Pins] in
theorem callFunc_enter {f : FuncId} {fn : Func} {body : Code} {args : Array Value} (hf : P.funcs[f]? = some fn) (hb : fn.body = some body) (hname : (fn.name == "runtime.NumGoroutine") = false) : (callFunc f args).run P w = .ok (.enter f args) w := by
  simp only [beq_eq_false_iff_ne, ne_eq] at hname
  simp [callFunc, hf, hb, hname]

theorem fextern_sound {f : FuncId} {args : List Value} {args' : Array Value} (u : Option FrameMode) (hA : LRel m args args'.toList) : CallOK P m σ w f args' u (fextern P f args u σ) := by
  unfold fextern
  cases u with
  | some md => trivial
  | none =>
    simp only
    cases hfl : args.all flat with
    | false => trivial
    | true =>
      simp only [cond_true]
      have hargs : args' = args.toArray := by
        have := hA.all_flat hfl
        rw [← this]
      split
      · rename_i v hp
        cases hv : flat v with
        | false => trivial
        | true =>
          have hrun := prun_ok hp w
          rw [← hargs] at hrun
          exact .inl ⟨rfl, rfl, rfl, v, hrun, .of_const (by cases v <;> first | rfl | (simp [flat] at hv))⟩
      · trivial

omit [Pins] in
theorem enter_rel {args : List Value} {args' : Array Value} {nl nt : Nat} (hA : LRel m args args'.toList) (h1 : args.length ≤ nl) (h2 : nl ≤ nt) :
    ActRel m ⟨padTo undef nl args, fun _ => undef, nl, nt, []⟩ { tmps := args' ++ Array.replicate (nt - args'.size) undef, defers := [] } := by
  have hsz : args.length = args'.size := by simpa using hA.1
  refine ⟨⟨?_, fun t => ?_⟩, .nil⟩
  · simp
    omega
  · show VRel m (FAct.get ⟨padTo undef nl args, fun _ => undef, nl, nt, []⟩ t) _
    unfold FAct.get
    simp only
    by_cases hnl : nl ≤ t
    · rw [ble_t hnl]
      exact .unknown _
    · rw [ble_f hnl]
      show VRel m (Option.rec (motive := fun _ => Value) undef (fun v => v) (nth (padTo undef nl args) t)) _
      rw [nth_padTo, if_pos (by omega)]
      show VRel m ((args[t]?).getD undef) _
      cases ha : args[t]? with
      | none => exact .unknown _
      | some v =>
        obtain ⟨v', h3, h4⟩ := hA.get ha
        have h5 : t < args'.size := by
          have := (List.getElem?_eq_some_iff.1 ha).1
          omega
        have h6 : (args' ++ Array.replicate (nt - args'.size) undef).getD t undef = v' := by
          rw [Array.getD_eq_getD_getElem?, Array.getElem?_append_left h5]
          simp at h3
          rw [h3]
          rfl
        rw [h6]
        exact h4

theorem call_leave (hE : EnvOK P E) {f : FuncId} {fn : Func} {args' : Array Value} {u u1 : Option FrameMode} {a1 : FAct} {σ1 : FState} (md : FrameMode) (hf : P.funcs[f]? = some fn) (hent : (callFunc f args').run P w = .ok (.enter f args') w)
    (h : ∀ cs, URel m u (kindOf u) cs → ∃ m1 w1 fr cs1, Rel Top m1 σ1 w1 ∧ Step σ σ1 m m1 w w1 ∧ URel m1 u1 (kindOf u) cs1 ∧ Under (kindOf u) cs cs1 ∧ St P (lone (Frame.enter P f args' (kindOf u)) cs w) (lone fr cs1 w1) ∧ fr.fn = f ∧ fr.kind = kindOf u ∧
      MRel m1 md fr.mode ∧ DLRel m1 a1.defers fr.defers ∧ ∀ t, VRel m1 (a1.get t) (fr.tmps.getD t undef)) :
    CallOK P m σ w f args' u (fleave P E fn.results.toList a1 u1 a1.defers md σ1) := by
  cases hr : fleave P E fn.results.toList a1 u1 a1.defers md σ1 with
  | no => trivial
  | ret v u' σ' =>
    refine .inr ⟨hent, fun cs hu => ?_⟩
    obtain ⟨m1, w1, fr, cs1, h1, h2, h3, h4, h5, h6, h7, h8, h9, h10⟩ := h cs hu
    have hl := fleave_sound hE u1 a1 a1.defers fr.defers md σ1 m1 w1 fr cs1 h1 h9 h8 rfl h10 (by rw [h6]; exact hf)
    rw [hr] at hl
    obtain ⟨rfl, m', w', v', fr', k1, k2, k3, k4, k5, k6, k7⟩ := hl
    exact ⟨m', w', v', fr', cs1, k1, h2.trans k2, k3, h3.mono k2.le, h4, StepsIn.trans h5 k4, k5.trans h6, k6.trans h7, k7⟩
  | pan ch u' σ' =>
    refine ⟨hent, fun cs hu => ?_⟩
    obtain ⟨m1, w1, fr, cs1, h1, h2, h3, h4, h5, h6, h7, h8, h9, h10⟩ := h cs hu
    have hl := fleave_sound hE u1 a1 a1.defers fr.defers md σ1 m1 w1 fr cs1 h1 h9 h8 rfl h10 (by rw [h6]; exact hf)
    rw [hr] at hl
    obtain ⟨rfl, m', w', v', fr', k1, k2, k3, k4, k5, k6, k7⟩ := hl
    exact ⟨m', w', v', fr', cs1, k1, h2.trans k2, k3, h3.mono k2.le, h4, StepsIn.trans h5 k4, k5.trans h6, k6.trans h7, k7⟩

theorem call_ok (hE : EnvOK P E) (hD : DrawOK P E) (hname : ∀ (f : FuncId) (fn : Func), P.funcs[f]? = some fn → (fn.name == "runtime.NumGoroutine") = false) (nls : Hints) (f : FuncId) (args : List Value) (u : Option FrameMode) (σ : FState) (m : Mp) (w : World)
    (args' : Array Value) (hr : Rel Top m σ w) (hA : LRel m args args'.toList) : CallOK P m σ w f args' u (fcall P nls E f args u σ) := by
  have hcode : ∀ x, CodeOK P E x (code P nls x) := fun x => ccode_sound hE hD (range_ok hE) deep x
  unfold fcall
  have hcfn : (cfn P nls f).un = none ∨ ∃ fn body, P.funcs[f]? = some fn ∧ fn.body = some body ∧ (cfn P nls f).un = some ⟨code P nls body, slotsOf nls f, fn.ntmps, fn.results.toList, fn.params.size + fn.nfree⟩ := by
    unfold cfn
    cases hf : P.funcs[f]? with
    | none => exact .inl rfl
    | some fn =>
      simp only
      cases hb : fn.body with
      | none => exact .inl rfl
      | some body => exact .inr ⟨fn, body, rfl, hb, rfl⟩
  rcases hcfn with h | ⟨fn, body, hf, hb, h⟩
  · rw [h]
    exact fextern_sound u hA
  · rw [h]
    simp only
    cases hc : (Nat.ble (len args) (slotsOf nls f) && Nat.ble (slotsOf nls f) fn.ntmps) with
    | false => trivial
    | true =>
      simp only [cond_true]
      simp only [Bool.and_eq_true, Nat.ble_eq, len_eq] at hc
      have hact := enter_rel hA hc.1 hc.2
      have hent := callFunc_enter (P := P) (w := w) (args := args') hf hb (hname f fn hf)
      let b : Frame := { (default : Frame) with fn := f, kind := kindOf u, roundOf := none }
      have henter : Frame.enter P f args' (kindOf u) = b.atR { tmps := args' ++ Array.replicate (fn.ntmps - args'.size) undef, defers := [] } [.code body] := by
        simp [Frame.enter, Frame.atR, hf, hb, b]
      generalize (⟨padTo undef (slotsOf nls f) args, fun _ => undef, slotsOf nls f, fn.ntmps, []⟩ : FAct) = a0 at hact ⊢
      have hk : ∀ cs, URel m u (kindOf u) cs → KOK P m σ w b [] cs (lone (Frame.enter P f args' (kindOf u)) cs w) (code P nls body E none f a0 u σ) := fun cs hu => by
        rw [henter]
        exact hcode body none f b [] cs a0 _ u σ m w rfl hr hact hu rfl
      cases hr1 : code P nls body E none f a0 u σ with
      | no => trivial
      | done x a1 u1 σ1 =>
        rw [hr1] at hk
        cases x with
        | normal =>
          refine call_leave hE .returning hf hent fun cs hu => ?_
          obtain ⟨m', w', e', c', cs', g1, g2, g3, g4, g5, g6, g7⟩ := hk cs hu
          cases g3
          exact ⟨m', w', { b.atR c' [] with mode := .returning }, cs', g1, g2, g5, g6, StepsIn.trans g7 (.one trivial (stepR_end rfl)), rfl, rfl, .returning, g4.defers, g4.get⟩
        | ret =>
          refine call_leave hE .returning hf hent fun cs hu => ?_
          obtain ⟨m', w', e', c', cs', g1, g2, g3, g4, g5, g6, g7⟩ := hk cs hu
          cases g3
          obtain ⟨todo, hs⟩ := g7.1 rfl
          exact ⟨m', w', { b.atR c' todo with mode := .returning }, cs', g1, g2, g5, g6, hs, rfl, rfl, .returning, g4.defers, g4.get⟩
        | panic ch =>
          refine call_leave hE (.panicking ch) hf hent fun cs hu => ?_
          obtain ⟨m', w', e', c', cs', g1, g2, g3, g4, g5, g6, g7⟩ := hk cs hu
          cases g3 with
          | panic hC =>
            obtain ⟨todo, hs⟩ := g7
            exact ⟨m', w', { b.atR c' todo with mode := .panicking _ }, cs', g1, g2, g5, g6, hs, rfl, rfl, .panicking hC, g4.defers, g4.get⟩
        | exit id => trivial
        | goto l => trivial
        | outgrown => trivial

/-- What is told of functions is so. -/
def SumOK (P : Program) (S : Sums) : Prop := ∀ (f : FuncId) (args : List Value) (σ : FState) (r : CRes) (m : Mp) (w : World) (args' : Array Value), S f args σ = some r → Rel Top m σ w → LRel m args args'.toList → CallOK P m σ w f args' none r

theorem env_ok {S : Sums} (hS : SumOK P S) (hD : ∀ E, EnvOK P E → DrawOK P E) (hname : ∀ (f : FuncId) (fn : Func), P.funcs[f]? = some fn → (fn.name == "runtime.NumGoroutine") = false) (nls : Hints) : ∀ n, EnvOK P (fenv P S nls n)
  | 0 => ⟨fun _ _ _ _ _ _ _ _ _ _ => trivial, fun _ _ _ _ _ _ _ _ _ _ => trivial⟩
  | n + 1 => have h := env_ok hS hD hname nls n
    ⟨fun f args u σ m w args' hr hA _ => by
      have key := fun u => call_ok h (hD _ h) hname nls f args u σ m w args' hr hA
      cases u with
      | some md => exact key (some md)
      | none =>
        show CallOK P m σ w f args' none (match S f args σ with
          | some r => r
          | none => fcall P nls (fenv P S nls n) f args none σ)
        cases hs : S f args σ with
        | none => exact key none
        | some r => exact hS f args σ r m w args' hs hr hA, fun l args σ m w args' e hr hA hm => round_ok h (hD _ h) l args σ m w args' e hr hA hm⟩
end
end Go.Eng
