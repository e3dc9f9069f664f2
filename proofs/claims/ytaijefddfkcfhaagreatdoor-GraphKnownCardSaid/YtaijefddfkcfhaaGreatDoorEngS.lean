/- One operation, in its place in a region. -/
import Derived.Test.YtaijefddfkcfhaaGreatDoorEngR
namespace Go.Eng
open Go
variable [Pins]

section
variable {P : Program} {m : Mp} {σ : FState} {w : World} {b : Frame} {ops : Array Oper} {i : Nat} {o : Oper} {rest : List Nat} {k : List Item} {cs : List Frame} {a : FAct} {c : Act} {E : Env}

omit [Pins] in
theorem fin_eq (ho : ops[i]? = some o) (v : Value) : (b.atR c (.inRegion ops (i :: rest) :: k)).finish v = b.atR (c.put o.dst v) (.inRegion ops rest :: k) := by
  rw [Frame.finish_atR, ho]
  rfl
omit [Pins] in
theorem act0 (a : FAct) : (⟨a.loc, a.tmp, a.nl, a.nt, [] ++ a.defers⟩ : FAct) = a := rfl

omit [Pins] in
theorem urel_put {u : Option FrameMode} {md md' : FrameMode} {kind : CallKind} {c0 : Frame} {r : List Frame} (hk : kind = .deferred) (h : MRel m md md') : URel m (some md) kind ({ c0 with mode := md' } :: r) := ⟨hk, _, _, rfl, h⟩

/-- 'recover', in the model's words. -/
theorem recover_sound {u : Option FrameMode} (hu : URel m u b.kind cs) (hb : b.roundOf = none) (hr : Rel Top m σ w) (ho : ops[i]? = some o) (hw : Region.wanted o (yielded ops c.tmps) = true) (hrun : (execOp c.eval o).run P w = .ok .recover w) :
    OpOK P m σ w b ops i o rest k cs a c (frecover o.dst a u σ (fun a u σ => .done .normal a u σ)) := by
  have hg := stepGR_op (P := P) (b := b) (a := c) (k := k) (cs := cs) (w := w) (rest := rest) ho hw
  rw [hb, Oper.semAt_none] at hg
  have key : ∀ v' cs', (match tryRecover (b.atR c (.inRegion ops (i :: rest) :: k)) cs with | some (v, cs') => (v, cs') | none => (.nilIface, cs)) = (v', cs') →
      St P (lone (b.atR c (.inRegion ops (i :: rest) :: k)) cs w) (lone (b.atR (c.put o.dst v') (.inRegion ops rest :: k)) cs' w) := fun v' cs' h => by
    refine .one trivial (step_lone_go ?_)
    rw [hg, ← fin_eq ho]
    cases ht : tryRecover (b.atR c (.inRegion ops (i :: rest) :: k)) cs with
    | none =>
      rw [ht] at h
      cases h
      simp only [Frame.atR, hb] at ht
      simp [stepG.apply, hrun, ht, Frame.atR, hb]
    | some p =>
      obtain ⟨v, cs1⟩ := p
      rw [ht] at h
      cases h
      simp only [Frame.atR, hb] at ht
      simp [stepG.apply, hrun, ht, Frame.atR, hb]
  cases u with
  | none =>
    have hk : b.kind = .normal := hu
    have ht : tryRecover (b.atR c (.inRegion ops (i :: rest) :: k)) cs = none := by
      have : (b.atR c (.inRegion ops (i :: rest) :: k)).kind = .normal := hk
      unfold tryRecover
      rw [this]
    exact ⟨m, w, cs, .nilIface, .nilIface, [], [], hr, .refl _ _ _, .nilIface, .nil, hu, .refl _ _, fun _ => rfl, rfl, key _ _ (by rw [ht])⟩
  | some md =>
    obtain ⟨hk, c0, r, rfl, hm⟩ := hu
    have ht := tryRecover_deferred (fr := b.atR c (.inRegion ops (i :: rest) :: k)) hk (c0 :: r)
    have nothing : recoverD (c0 :: r) = none → OpOK P m σ w b ops i o rest k (c0 :: r) a c (.done .normal (a.put o.dst .nilIface) (some md) σ) := fun h =>
      ⟨m, w, c0 :: r, .nilIface, .nilIface, [], [], hr, .refl _ _ _, .nilIface, .nil, ⟨hk, c0, r, rfl, hm⟩, .refl _ _, fun _ => rfl, rfl, key _ _ (by rw [ht, h])⟩
    have goes : ∀ (v v' : Value) (l l' : List PanicEntry), md = .panicking ({ v, recovered := false, goexit := false } :: l) → VRel m v v' → ChRel m l l' → c0.mode = .panicking ({ v := v', recovered := false, goexit := false } :: l') →
        OpOK P m σ w b ops i o rest k (c0 :: r) a c (.done .normal (a.put o.dst v) (some (.panicking ({ v, recovered := true } :: l))) σ) := fun v v' l l' _ hv hl hc =>
      ⟨m, w, { c0 with mode := .panicking ({ v := v', recovered := true } :: l') } :: r, v, v', [], [], hr, .refl _ _ _, hv, .nil, ⟨hk, _, _, rfl, .panicking (.cons ⟨hv, rfl, rfl⟩ hl)⟩,
        .inr ⟨hk, c0, r, _, rfl, rfl⟩, fun _ => rfl, rfl, key _ _ (by rw [ht]; simp [recoverD, hc])⟩
    unfold frecover
    generalize hc : c0.mode = mo at hm
    cases hm with
    | run => exact nothing (by simp [recoverD, hc])
    | returning => exact nothing (by simp [recoverD, hc])
    | panicking hl =>
      cases hl with
      | nil => exact nothing (by simp [recoverD, hc])
      | cons he hl =>
        rename_i e e' l l'
        obtain ⟨h1, h2, h3⟩ := he
        obtain ⟨v, rc, ge⟩ := e
        obtain ⟨v', rc', ge'⟩ := e'
        simp only at h1 h2 h3
        subst h2
        subst h3
        cases rc with
        | true => exact nothing (by simp [recoverD, hc])
        | false => cases ge with
          | true => exact nothing (by simp [recoverD, hc])
          | false => exact goes v v' l l' rfl h1 hl hc

theorem op_step (hE : EnvOK P E) {ro : Option Nat} {u : Option FrameMode} {r : ORes} (hr : Rel Top m σ w) (hu : URel m u b.kind cs) (hro : ro = none → b.roundOf = none) (ho : ops[i]? = some o) (hw : Region.wanted o (yielded ops c.tmps) = true)
    (hsem : b.roundOf = none ∨ (∀ cc, o.op ≠ .defer cc) ∨ stepOp E ro o.dst a u r = .no) (hO : OSound P m σ w (execOp c.eval o) r) :
    OpOK P m σ w b ops i o rest k cs a c (stepOp E ro o.dst a u r) := by
  have hg := stepGR_op (P := P) (b := b) (a := c) (k := k) (cs := cs) (w := w) (rest := rest) ho hw
  by_cases hno : stepOp E ro o.dst a u r = .no
  · rw [hno]; trivial
  have hs : o.semAt b.roundOf c.eval = execOp c.eval o := by
    rcases hsem with h | h | h
    · rw [h, Oper.semAt_none]
    · exact Oper.semAt_eq _ _ _ h
    · exact absurd h hno
  rw [hs] at hg
  have value : ∀ (v v' : Value) (σ' : FState) (m' : Mp) (w' : World), (execOp c.eval o).run P w = .ok (.value v') w' → Rel Top m' σ' w' → Step σ σ' m m' w w' → VRel m' v v' →
      OpOK P m σ w b ops i o rest k cs a c (.done .normal (a.put o.dst v) u σ') := fun v v' σ' m' w' hrun hR hS hV =>
    ⟨m', w', cs, v, v', [], [], hR, hS, hV, .nil, hu.mono hS.le, .refl _ _, fun _ => rfl, rfl, .one trivial (step_lone_go (by
      rw [hg, ← fin_eq ho]
      simp [stepG.apply, hrun]))⟩
  cases r with
  | no => trivial
  | val v σ' =>
    obtain ⟨m', w', v', hrun, hR, hS, hV⟩ := hO
    exact value v v' σ' m' w' hrun hR hS hV
  | skip σ' =>
    obtain ⟨m', w', hrun, hR, hS⟩ := hO
    exact ⟨m', w', cs, undef, undef, [], [], hR, hS, .unknown _, .nil, hu.mono hS.le, .refl _ _, fun _ => rfl, rfl, .one trivial (step_lone_go (by
      rw [hg, ← fin_eq ho]
      simp [stepG.apply, hrun]))⟩
  | panic v σ' =>
    obtain ⟨m', w', v', hrun, hR, hS, hV⟩ := hO
    exact ⟨rfl, m', w', cs, _, hR, hS, .one hV, hu.mono hS.le, .refl _ _, .inRegion ops (i :: rest) :: k, .one trivial (step_lone_go (by
      rw [hg, ← Frame.raise_atR]
      simp [stepG.apply, hrun]))⟩
  | enter f args σ' =>
    obtain ⟨args', hrun, rfl, hA⟩ := hO
    have hc := hE.call f args none σ' m w args' hr hA (fun md h => by cases h)
    show OpOK P m σ' w b ops i o rest k cs a c (afterCall a o.dst u (fun a u σ => .done .normal a u σ) (E.call f args none σ'))
    cases hcall : E.call f args none σ' with
    | no => trivial
    | ret v u' σ'' =>
      rw [hcall] at hc
      rcases hc with ⟨_, _, rfl, v', hval, hV⟩ | ⟨hent, hgo⟩
      · exact value v v' σ'' m w (hrun.trans hval) hr (.refl _ _ _) hV
      · obtain ⟨m', w', v', fr, cs', hR, hS, hV, _, hun, hst, hfn, hk, hgoing⟩ := hgo (b.atR c (.inRegion ops (i :: rest) :: k) :: cs) rfl
        have hcs : cs' = b.atR c (.inRegion ops (i :: rest) :: k) :: cs := by
          rcases hun with h | ⟨h, _⟩
          · exact h
          · cases h
        subst hcs
        have hl := leaving_of_going hk hgoing
        refine ⟨m', w', cs, v, v', [], [], hR, hS, hV, .nil, hu.mono hS.le, .refl _ _, fun _ => rfl, rfl, .head trivial (m₁ := lone (Frame.enter P f args' .normal) (b.atR c (.inRegion ops (i :: rest) :: k) :: cs) w) (step_lone_go ?_) (StepsIn.trans hst (.one trivial ?_))⟩
        · rw [hg]
          have hrun' := hrun.trans hent
          simp [stepG.apply, hrun', Frame.atR]
        · have := step_leave_returned (c := b.atR c (.inRegion ops (i :: rest) :: k)) (cs := cs) hl
          rw [fin_eq ho] at this
          exact this
    | pan ch u' σ'' =>
      rw [hcall] at hc
      obtain ⟨hent, hgo⟩ := hc
      obtain ⟨m', w', ch', fr, cs', hR, hS, hC, _, hun, hst, hfn, hk, hgoing⟩ := hgo (b.atR c (.inRegion ops (i :: rest) :: k) :: cs) rfl
      have hcs : cs' = b.atR c (.inRegion ops (i :: rest) :: k) :: cs := by
        rcases hun with h | ⟨h, _⟩
        · exact h
        · cases h
      subst hcs
      have hl := leaving_of_going hk hgoing
      refine ⟨rfl, m', w', cs, ch', hR, hS, hC, hu.mono hS.le, .refl _ _, .inRegion ops (i :: rest) :: k, .head trivial (m₁ := lone (Frame.enter P f args' .normal) (b.atR c (.inRegion ops (i :: rest) :: k) :: cs) w) (step_lone_go ?_) (StepsIn.trans hst (.one trivial ?_))⟩
      · rw [hg]
        have hrun' := hrun.trans hent
        simp [stepG.apply, hrun', Frame.atR]
      · rw [← Frame.raise_atR]
        exact step_leave_panicked hl
  | yield l args σ' =>
    obtain ⟨e, args', hm, hrun, rfl, hA⟩ := hO
    have hc := hE.round l args σ' m w args' e hr hA hm
    show OpOK P m σ' w b ops i o rest k cs a c (afterCall a o.dst u (fun a u σ => .done .normal a u σ) (E.round l args σ'))
    cases hcall : E.round l args σ' with
    | no => trivial
    | ret v u' σ'' =>
      rw [hcall] at hc
      obtain ⟨f, tmps, assign, body, hy, hgo⟩ := hc
      obtain ⟨m', w', v', hR, hS, hV, hst⟩ := hgo (b.atR c (.inRegion ops (i :: rest) :: k)) cs
      rw [fin_eq ho] at hst
      refine ⟨m', w', cs, v, v', [], [], hR, hS, hV, .nil, hu.mono hS.le, .refl _ _, fun _ => rfl, rfl, .head trivial (step_lone_go ?_) hst⟩
      rw [hg]
      have hrun' := hrun.trans hy
      simp [stepG.apply, hrun', Frame.atR]
    | pan ch u' σ'' =>
      rw [hcall] at hc
      obtain ⟨f, tmps, assign, body, hy, hgo⟩ := hc
      obtain ⟨m', w', ch', hR, hS, hC, hst⟩ := hgo (b.atR c (.inRegion ops (i :: rest) :: k)) cs
      rw [Frame.raise_atR] at hst
      refine ⟨rfl, m', w', cs, ch', hR, hS, hC, hu.mono hS.le, .refl _ _, .inRegion ops (i :: rest) :: k, .head trivial (step_lone_go ?_) hst⟩
      rw [hg]
      have hrun' := hrun.trans hy
      simp [stepG.apply, hrun', Frame.atR]
  | defer d σ' =>
    cases ro with
    | some l => exact absurd rfl hno
    | none =>
      obtain ⟨d', hrun, rfl, hD⟩ := hO
      have hb := hro rfl
      refine ⟨m, w, cs, undef, undef, [d], [d'], hr, .refl _ _ _, .unknown _, .cons hD .nil, hu, .refl _ _, fun h => (by rw [hb] at h; cases h), rfl, .one trivial (step_lone_go ?_)⟩
      have hfin := Frame.finish_atR b { c with defers := d' :: c.defers } ops i rest k undef
      rw [ho] at hfin
      rw [hg]
      simp only [stepG.apply, Sem.runT_eq, hrun, GStep.bare_after]
      exact congrArg (fun fr => GStep.go { frame := fr, callers := cs, status := .running, dying := none } w) hfin
  | recover σ' =>
    cases ro with
    | some l => exact absurd rfl hno
    | none =>
      obtain ⟨hrun, rfl⟩ := hO
      exact recover_sound hu (hro rfl) hr ho hw hrun
end
end Go.Eng
