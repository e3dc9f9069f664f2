/- Runs of the machine beside the reading: what is claimed of calls, rounds, and one operation. -/
import Derived.Test.YtaijefddfkcfhaaGreatDoorEngQ
import Derived.RecoverIn
namespace Go.Eng
open Go
variable [Pins]

def EntRel (m : Mp) (e e' : PanicEntry) : Prop := VRel m e.v e'.v ∧ e.recovered = e'.recovered ∧ e.goexit = e'.goexit
inductive ChRel (m : Mp) : List PanicEntry → List PanicEntry → Prop
  | nil : ChRel m [] []
  | cons {e e' : PanicEntry} {l l' : List PanicEntry} (h : EntRel m e e') (hl : ChRel m l l') : ChRel m (e :: l) (e' :: l')
inductive MRel (m : Mp) : FrameMode → FrameMode → Prop
  | run : MRel m .run .run
  | returning : MRel m .returning .returning
  | panicking {l l' : List PanicEntry} (h : ChRel m l l') : MRel m (.panicking l) (.panicking l')
inductive XRel (m : Mp) : Exit → Exit → Prop
  | normal : XRel m .normal .normal
  | exit (id : Nat) : XRel m (.exit id) (.exit id)
  | goto (l : Nat) : XRel m (.goto l) (.goto l)
  | ret : XRel m .ret .ret
  | panic {l l' : List PanicEntry} (h : ChRel m l l') : XRel m (.panic l) (.panic l')

omit [Pins] in
theorem ChRel.mono {m m' : Mp} (h : m.le m') {l l' : List PanicEntry} (hl : ChRel m l l') : ChRel m' l l' := by
  induction hl with
  | nil => exact .nil
  | cons he _ ih => exact .cons ⟨he.1.mono h, he.2⟩ ih
omit [Pins] in
theorem ChRel.append {m : Mp} {a a' b b' : List PanicEntry} (h : ChRel m a a') (hb : ChRel m b b') : ChRel m (a ++ b) (a' ++ b') := by
  induction h with
  | nil => exact hb
  | cons he _ ih => exact .cons he ih
omit [Pins] in
theorem MRel.mono {m m' : Mp} (h : m.le m') {u u' : FrameMode} (hu : MRel m u u') : MRel m' u u' := by
  cases hu with
  | run => exact .run
  | returning => exact .returning
  | panicking hl => exact .panicking (hl.mono h)
omit [Pins] in
theorem ChRel.one {m : Mp} {v v' : Value} (h : VRel m v v') : ChRel m [{ v := v, recovered := false }] [{ v := v', recovered := false }] := .cons ⟨h, rfl, rfl⟩ .nil

def kindOf (u : Option FrameMode) : CallKind := match u with | none => .normal | some _ => .deferred

/-- Who stands below, as far as it counts: for a deferred call its mode. -/
def URel (m : Mp) (u : Option FrameMode) (kind : CallKind) (cs : List Frame) : Prop :=
  match u with
  | none => kind = .normal
  | some md => kind = .deferred ∧ ∃ c rest, cs = c :: rest ∧ MRel m md c.mode
/-- The same frames below, but for the first one's mode, below a deferred call. -/
def Under (kind : CallKind) (cs cs' : List Frame) : Prop :=
  cs' = cs ∨ (kind = .deferred ∧ ∃ c rest md, cs = c :: rest ∧ cs' = { c with mode := md } :: rest)

omit [Pins] in
theorem Under.refl (kind : CallKind) (cs : List Frame) : Under kind cs cs := .inl rfl
omit [Pins] in
theorem Under.trans {kind : CallKind} {cs cs₁ cs₂ : List Frame} (h : Under kind cs cs₁) (h' : Under kind cs₁ cs₂) : Under kind cs cs₂ := by
  rcases h with rfl | ⟨hk, c, rest, md, rfl, rfl⟩
  · exact h'
  · rcases h' with rfl | ⟨_, c', rest', md', h1, rfl⟩
    · exact .inr ⟨hk, c, rest, md, rfl, rfl⟩
    · cases h1
      exact .inr ⟨hk, c, rest, md', rfl, rfl⟩
omit [Pins] in
theorem URel.mono {m m' : Mp} (h : m.le m') {u : Option FrameMode} {kind : CallKind} {cs : List Frame} (hu : URel m u kind cs) : URel m' u kind cs := by
  cases u with
  | none => exact hu
  | some md =>
    obtain ⟨hk, c, rest, hc, hm⟩ := hu
    exact ⟨hk, c, rest, hc, hm.mono h⟩

abbrev St (P : Program) := StepsIn (fun _ => True) P

/-- What a call comes to. -/
def CallOK (P : Program) (m : Mp) (σ : FState) (w : World) (f : FuncId) (args : Array Value) (u : Option FrameMode) : CRes → Prop
  | .no => True
  | .ret v u' σ' => (u = none ∧ u' = none ∧ σ' = σ ∧ ∃ v', (callFunc f args).run P w = .ok (.value v') w ∧ VRel m v v') ∨
      ((callFunc f args).run P w = .ok (.enter f args) w ∧ ∀ cs, URel m u (kindOf u) cs → ∃ m' w' v' fr cs', Rel Top m' σ' w' ∧ Step σ σ' m m' w w' ∧ VRel m' v v' ∧ URel m' u' (kindOf u) cs' ∧ Under (kindOf u) cs cs' ∧
        St P (lone (Frame.enter P f args (kindOf u)) cs w) (lone fr cs' w') ∧ fr.fn = f ∧ fr.kind = kindOf u ∧ fr.going P w' (.returned v'))
  | .pan ch u' σ' => (callFunc f args).run P w = .ok (.enter f args) w ∧ ∀ cs, URel m u (kindOf u) cs → ∃ m' w' ch' fr cs', Rel Top m' σ' w' ∧ Step σ σ' m m' w w' ∧ ChRel m' ch ch' ∧ URel m' u' (kindOf u) cs' ∧ Under (kindOf u) cs cs' ∧
        St P (lone (Frame.enter P f args (kindOf u)) cs w) (lone fr cs' w') ∧ fr.fn = f ∧ fr.kind = kindOf u ∧ fr.going P w' (.panicked ch')

/-- What a round comes to. -/
def RoundOK (P : Program) (m : Mp) (σ : FState) (w : World) (l : Nat) (args : Array Value) : CRes → Prop
  | .no => True
  | .ret v _ σ' => ∃ f tmps assign body, (Instr.yield l args).run P w = .ok (.round l f tmps assign body) w ∧ ∀ c cs, ∃ m' w' v', Rel Top m' σ' w' ∧ Step σ σ' m m' w w' ∧ VRel m' v v' ∧
      St P (lone (Frame.round l f tmps assign body .normal) (c :: cs) w) (lone (c.finish v') cs w')
  | .pan ch _ σ' => ∃ f tmps assign body, (Instr.yield l args).run P w = .ok (.round l f tmps assign body) w ∧ ∀ c cs, ∃ m' w' ch', Rel Top m' σ' w' ∧ Step σ σ' m m' w w' ∧ ChRel m' ch ch' ∧
      St P (lone (Frame.round l f tmps assign body .normal) (c :: cs) w) (lone (c.raise ch') cs w')

structure EnvOK (P : Program) (E : Env) : Prop where
  call : ∀ (f : FuncId) (args : List Value) (u : Option FrameMode) (σ : FState) (m : Mp) (w : World) (args' : Array Value), Rel Top m σ w → LRel m args args'.toList → (∀ md, u = some md → md ≠ .run) → CallOK P m σ w f args' u (E.call f args u σ)
  round : ∀ (l : Nat) (args : List Value) (σ : FState) (m : Mp) (w : World) (args' : Array Value) (e : MEnt), Rel Top m σ w → LRel m args args'.toList → m l = some e → RoundOK P m σ w e.blk args' (E.round l args σ)

omit [Pins] in
theorem leaving_of_going {P : Program} {fr : Frame} {w : World} {e : Ending} (hk : fr.kind = .normal) (h : fr.going P w e) : fr.leaving P w e := by
  cases e with
  | returned v =>
    obtain ⟨h1, h2, h3⟩ := h
    exact ⟨h1, h2, hk, h3⟩
  | panicked ch => exact h
  | outgrown => trivial

/-- What one operation comes to, in its place in a region. -/
def OpOK (P : Program) (m : Mp) (σ : FState) (w : World) (b : Frame) (ops : Array Oper) (i : Nat) (o : Oper) (rest : List Nat) (k : List Item) (cs : List Frame) (a : FAct) (c : Act) : KRes → Prop
  | .no => True
  | .done .normal a' u' σ' => ∃ m' w' cs' v v' ds ds', Rel Top m' σ' w' ∧ Step σ σ' m m' w w' ∧ VRel m' v v' ∧ DLRel m' ds ds' ∧ URel m' u' b.kind cs' ∧ Under b.kind cs cs' ∧ (b.roundOf.isSome = true → ds' = []) ∧
      a' = (⟨a.loc, a.tmp, a.nl, a.nt, ds ++ a.defers⟩ : FAct).put o.dst v ∧
      St P (lone (b.atR c (.inRegion ops (i :: rest) :: k)) cs w) (lone (b.atR (({ c with defers := ds' ++ c.defers } : Act).put o.dst v') (.inRegion ops rest :: k)) cs' w')
  | .done (.panic ch) a' u' σ' => a' = a ∧ ∃ m' w' cs' ch', Rel Top m' σ' w' ∧ Step σ σ' m m' w w' ∧ ChRel m' ch ch' ∧ URel m' u' b.kind cs' ∧ Under b.kind cs cs' ∧
      ∃ todo, St P (lone (b.atR c (.inRegion ops (i :: rest) :: k)) cs w) (lone { b.atR c todo with mode := .panicking ch' } cs' w')
  | .done _ _ _ _ => False
end Go.Eng
