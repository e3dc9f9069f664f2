/- Code: what the reading makes of it is so. -/
import Derived.Test.YtaijefddfkcfhaaGreatDoorEngU
import Derived.Scope
namespace Go.Eng
open Go
variable [Pins]

section
variable {P : Program} {m : Mp} {σ : FState} {w : World} {b : Frame} {k : List Item} {cs : List Frame} {a : FAct} {c : Act} {E : Env} {H : Hints}

omit [Pins] in
theorem vstep_scope {x : Code} : step P (lone (b.atR c (.code (.scope x) :: k)) cs w) = .next (lone (b.atR c (.code x :: .inScope x :: k)) cs w) :=
  step_lone_go (by simp [stepG, stepG.exec, Frame.atR])
omit [Pins] in
theorem vstep_inScope {x : Code} : step P (lone (b.atR c (.inScope x :: k)) cs w) = .next (lone (b.atR c k) cs w) :=
  step_lone_go (by simp [stepG, stepG.exec, Frame.atR])

/-- What is claimed of a piece of code. -/
def CodeOK (P : Program) (E : Env) (x : Code) (run : CodeF) : Prop :=
  ∀ (ro : Option Nat) (fn : FuncId) (b : Frame) (k : List Item) (cs : List Frame) (a : FAct) (c : Act) (u : Option FrameMode) (σ : FState) (m : Mp) (w : World), b.fn = fn → Rel Top m σ w → ActRel m a c → URel m u b.kind cs → RoRel m ro b →
    KOK P m σ w b k cs (lone (b.atR c (.code x :: k)) cs w) (run E ro fn a u σ)

theorem KOK.pass {start : Machine} {i : Item} {e : Exit} {a' : FAct} {u' : Option FrameMode} {σ' : FState} (hi : i.plain = true) (he : e ≠ .normal) (h : KOK P m σ w b (i :: k) cs start (.done e a' u' σ')) : KOK P m σ w b k cs start (.done e a' u' σ') := by
  obtain ⟨m', w', e', c', cs', h1, h2, h3, h4, h5, h6, h7⟩ := h
  refine ⟨m', w', e', c', cs', h1, h2, h3, h4, h5, h6, .pass hi (fun _ _ => .inl ?_) h7⟩
  intro hn
  subst hn
  cases h3
  exact he rfl

theorem KOK.andThen {start : Machine} {i : Item} {ro : Option Nat} {r : KRes} {K : RunF} (hi : i.plain = true) (hro : RoRel m ro b) (h : KOK P m σ w b (i :: k) cs start r)
    (hk : ∀ (a' : FAct) (u' : Option FrameMode) (σ' : FState) (m' : Mp) (w' : World) (c' : Act) (cs' : List Frame), Rel Top m' σ' w' → ActRel m' a' c' → URel m' u' b.kind cs' → RoRel m' ro b → KOK P m' σ' w' b k cs' (lone (b.atR c' (i :: k)) cs' w') (K a' u' σ')) :
    KOK P m σ w b k cs start (andThen r K) := by
  cases r with
  | no => trivial
  | done e a' u' σ' =>
    cases e with
    | normal =>
      obtain ⟨m', w', e', c', cs', h1, h2, h3, h4, h5, h6, h7⟩ := h
      cases h3
      exact KOK.from h2 h6 h7 (hk a' u' σ' m' w' c' cs' h1 h4 h5 (hro.mono h2.le))
    | exit id => exact h.pass hi (by simp)
    | goto l => exact h.pass hi (by simp)
    | ret => exact h.pass hi (by simp)
    | panic ch => exact h.pass hi (by simp)
    | outgrown => exact h.pass hi (by simp)

omit [Pins] in
theorem ActRel.forget (ha : ActRel m a c) (keep : List Nat) : ActRel m (a.forget keep) c := by
  refine ⟨⟨ha.tmps.1, fun t => ?_⟩, ha.defers⟩
  show VRel m ((a.forget keep).get t) _
  have h : (a.forget keep).get t = a.get t ∨ (a.forget keep).get t = undef := by
    have ht : ∀ (l : List Nat) (t : Nat), (List.rec (motive := fun _ => Nat → Value) (fun _ => undef) (fun t _ ih k => Bool.rec (motive := fun _ => Value) (ih k) (a.tmp t) (Nat.beq k t)) l : Nat → Value) t = a.tmp t ∨
        (List.rec (motive := fun _ => Nat → Value) (fun _ => undef) (fun t _ ih k => Bool.rec (motive := fun _ => Value) (ih k) (a.tmp t) (Nat.beq k t)) l : Nat → Value) t = undef := fun l t => by
      induction l with
      | nil => exact .inr rfl
      | cons x l ih =>
        by_cases hx : t = x
        · subst hx
          left
          show Bool.rec (motive := fun _ => Value) _ (a.tmp t) (Nat.beq t t) = _
          rw [beq_t]
        · have : ∀ z z' : Value, (Bool.rec (motive := fun _ => Value) z z' (Nat.beq t x) : Value) = z := fun z z' => by rw [beq_f hx]
          rcases ih with ih | ih
          · left; exact (this _ _).trans ih
          · right; exact (this _ _).trans ih
    unfold FAct.get
    show Bool.rec (motive := fun _ => Value) _ ((a.forget keep).tmp t) (Nat.ble a.nl t) = Bool.rec (motive := fun _ => Value) _ (a.tmp t) (Nat.ble a.nl t) ∨ Bool.rec (motive := fun _ => Value) _ ((a.forget keep).tmp t) (Nat.ble a.nl t) = undef
    cases Nat.ble a.nl t with
    | false => exact .inl rfl
    | true => exact ht keep t
  rcases h with h | h
  · rw [h]; exact ha.get t
  · rw [h]; exact .unknown _

theorem floop_sound {ro : Option Nat} {fn : FuncId} {x : Code} {run : CodeF} (hx : CodeOK P E x run) (keep : List Nat) : ∀ (fuel : Nat) (b : Frame) (k : List Item) (cs : List Frame) (a : FAct) (c : Act) (u : Option FrameMode) (σ : FState) (m : Mp) (w : World), b.fn = fn → Rel Top m σ w → ActRel m a c → URel m u b.kind cs → RoRel m ro b →
    KOK P m σ w b k cs (lone (b.atR c (.code x :: .inLoop x :: k)) cs w) (floop keep (run E ro fn) fuel a u σ) := by
  intro fuel
  induction fuel with
  | zero => intros; trivial
  | succ fuel ih =>
    intro b k cs a c u σ m w hb hr ha hu hro
    show KOK P m σ w b k cs _ (andThen (run E ro fn (a.forget keep) u σ) (floop keep (run E ro fn) fuel))
    refine KOK.andThen rfl hro (hx ro fn b (.inLoop x :: k) cs (a.forget keep) c u σ m w hb hr (ha.forget keep) hu hro) fun a' u' σ' m' w' c' cs' h1 h2 h3 h4 => ?_
    exact KOK.from (.refl _ _ _) (.refl _ _) (.one trivial stepR_inLoop) (ih b k cs' a' c' u' σ' m' w' hb h1 h2 h3 h4)

theorem fscope_sound {ro : Option Nat} {fn : FuncId} {x : Code} {find : Nat → Option (Bx RunF)} (hf : ∀ l, find l = none → findLabel x l = none)
    (hs : ∀ l r, find l = some r → ∃ y run, findLabel x l = some y ∧ CodeOK P E y run ∧ r.un = run E ro fn) : ∀ (fuel : Nat) (y : Code) (run : CodeF), CodeOK P E y run → ∀ (b : Frame) (k : List Item) (cs : List Frame) (a : FAct) (c : Act) (u : Option FrameMode) (σ : FState) (m : Mp) (w : World), b.fn = fn → Rel Top m σ w → ActRel m a c → URel m u b.kind cs → RoRel m ro b →
    KOK P m σ w b k cs (lone (b.atR c (.code y :: .inScope x :: k)) cs w) (fscope find fuel (run E ro fn) a u σ) := by
  intro fuel
  induction fuel with
  | zero => intros; trivial
  | succ fuel ih =>
    intro y run hy b k cs a c u σ m w hb hr ha hu hro
    have h := hy ro fn b (.inScope x :: k) cs a c u σ m w hb hr ha hu hro
    show KOK P m σ w b k cs _ (match run E ro fn a u σ with
      | .done (.goto l) a u σ => (match find l with
        | some rest => fscope find fuel rest.un a u σ
        | none => .done (.goto l) a u σ)
      | r => r)
    cases hrun : run E ro fn a u σ with
    | no => trivial
    | done e a' u' σ' =>
      rw [hrun] at h
      obtain ⟨m', w', e', c', cs', h1, h2, h3, h4, h5, h6, h7⟩ := h
      cases h3 with
      | normal => exact ⟨m', w', .normal, c', cs', h1, h2, .normal, h4, h5, h6, StepsIn.trans h7 (.one trivial vstep_inScope)⟩
      | exit id => exact ⟨m', w', .exit id, c', cs', h1, h2, .exit id, h4, h5, h6, fun k' hk => h7.1 k' (by simp [exitTo, hk]), fun hrr hk => let ⟨k₁, g1, g2⟩ := h7.2 hrr (by simp [exitTo, hk]); ⟨k₁, g1, g2⟩⟩
      | goto l =>
        simp only
        cases hfl : find l with
        | none =>
          have hn := hf l hfl
          have hg : gotoIn l (.inScope x :: k) = gotoIn l k := by simp [gotoIn, hn]
          exact ⟨m', w', .goto l, c', cs', h1, h2, .goto l, h4, h5, h6, fun k' hk => h7.1 k' (by rw [hg]; exact hk), fun hrr hk => let ⟨k₁, g1, g2⟩ := h7.2 hrr (by rw [hg]; exact hk); ⟨k₁, g1, g2⟩⟩
        | some r =>
          obtain ⟨y', run', hy1, hy2, hy3⟩ := hs l r hfl
          have hg : gotoIn l (.inScope x :: k) = some (.code y' :: .inScope x :: k) := by simp [gotoIn, hy1]
          simp only
          rw [hy3]
          exact KOK.from h2 h6 (h7.1 _ hg) (ih y' run' hy2 b k cs' a' c' u' σ' m' w' hb h1 h4 h5 (hro.mono h2.le))
      | ret => exact ⟨m', w', .ret, c', cs', h1, h2, .ret, h4, h5, h6, h7⟩
      | panic hc => exact ⟨m', w', .panic _, c', cs', h1, h2, .panic hc, h4, h5, h6, h7⟩

def DrawOK (P : Program) (E : Env) : Prop := ∀ (id : Nat) (ops : Array Oper) (p : Plan), plan ops = some p →
  CodeOK P E (.region id ops true) (fun E ro _ a u σ => fdraw E ro ((cswap P ops p.tail).un E ro) (cdops P ops p.main).un [σ.clock] a u σ)
def RangeOK (P : Program) (E : Env) : Prop := ∀ (g : Operand) (params : Array Tmp) (assign body : Code), CodeOK P E (.rangeFunc g params assign body) (fun E ro fn => frange E ro fn g params.toList assign body)

omit [Pins] in
theorem ccode_loop (depth : Nat) (x : Code) : ccode P H (depth + 1) (.loop x) = ⟨cloop H (ccode P H depth x).un⟩ := rfl
omit [Pins] in
theorem ccode_scope (depth : Nat) (x : Code) : ccode P H (depth + 1) (.scope x) = ⟨cscope x (ccode P H depth)⟩ := rfl

theorem ccode_sound (hE : EnvOK P E) (hD : DrawOK P E) (hR : RangeOK P E) : ∀ (depth : Nat) (x : Code), CodeOK P E x (ccode P H depth x).un := by
  intro depth
  induction depth with
  | zero => intro x ro fn b k cs a c u σ m w _ _ _ _ _; trivial
  | succ depth ih =>
    intro x
    cases x with
    | skip => exact fun ro fn b k cs a c u σ m w hb hr ha hu hro => ⟨m, w, .normal, c, cs, hr, .refl _ _ _, .normal, ha, hu, .refl _ _, .one trivial stepR_skip⟩
    | label l => exact fun ro fn b k cs a c u σ m w hb hr ha hu hro => ⟨m, w, .normal, c, cs, hr, .refl _ _ _, .normal, ha, hu, .refl _ _, .one trivial stepR_label⟩
    | ret => exact fun ro fn b k cs a c u σ m w hb hr ha hu hro => ⟨m, w, .ret, c, cs, hr, .refl _ _ _, .ret, ha, hu, .refl _ _, fun hn => ⟨_, .one trivial (stepR_ret hn)⟩, fun _ => ⟨k, .refl _⟩⟩
    | exit id => exact fun ro fn b k cs a c u σ m w hb hr ha hu hro => ⟨m, w, .exit id, c, cs, hr, .refl _ _ _, .exit id, ha, hu, .refl _ _, fun _ hk => .one trivial (stepR_exit hk), fun _ hk => ⟨k, hk, .refl _⟩⟩
    | goto l => exact fun ro fn b k cs a c u σ m w hb hr ha hu hro => ⟨m, w, .goto l, c, cs, hr, .refl _ _ _, .goto l, ha, hu, .refl _ _, fun _ hk => .one trivial (stepR_goto hk), fun _ hk => ⟨k, hk, .refl _⟩⟩
    | refuse r => exact fun ro fn b k cs a c u σ m w hb hr ha hu hro => trivial
    | seq x y =>
      intro ro fn b k cs a c u σ m w hb hr ha hu hro
      refine KOK.from (.refl _ _ _) (.refl _ _) (.one trivial stepR_seq) ?_
      exact KOK.andThen rfl hro (ih x ro fn b (.code y :: k) cs a c u σ m w hb hr ha hu hro) fun a' u' σ' m' w' c' cs' h1 h2 h3 h4 => ih y ro fn b k cs' a' c' u' σ' m' w' hb h1 h2 h3 h4
    | cond q x y =>
      intro ro fn b k cs a c u σ m w hb hr ha hu hro
      show KOK P m σ w b k cs _ (match (cget q).un a with
        | .bool true => (ccode P H depth x).un E ro fn a u σ
        | .bool false => (ccode P H depth y).un E ro fn a u σ
        | _ => .no)
      have h := ha.eval q
      split
      · rename_i hq
        rw [hq] at h
        have hc := h.flat rfl
        exact KOK.from (.refl _ _ _) (.refl _ _) (.one trivial (stepR_cond hc)) (ih x ro fn b k cs a c u σ m w hb hr ha hu hro)
      · rename_i hq
        rw [hq] at h
        have hc := h.flat rfl
        exact KOK.from (.refl _ _ _) (.refl _ _) (.one trivial (stepR_cond hc)) (ih y ro fn b k cs a c u σ m w hb hr ha hu hro)
      · trivial
    | block id x =>
      intro ro fn b k cs a c u σ m w hb hr ha hu hro
      have h := ih x ro fn b (.inBlock id :: k) cs a c u σ m w hb hr ha hu hro
      show KOK P m σ w b k cs _ (match (ccode P H depth x).un E ro fn a u σ with
        | .done (.exit id') a u σ => cond (Nat.beq id' id) (.done .normal a u σ) (.done (.exit id') a u σ)
        | r => r)
      have h0 : St P (lone (b.atR c (.code (.block id x) :: k)) cs w) (lone (b.atR c (.code x :: .inBlock id :: k)) cs w) := .one trivial stepR_block
      cases hrun : (ccode P H depth x).un E ro fn a u σ with
      | no => trivial
      | done e a' u' σ' =>
        rw [hrun] at h
        obtain ⟨m', w', e', c', cs', h1, h2, h3, h4, h5, h6, h7⟩ := h
        cases h3 with
        | normal => exact ⟨m', w', .normal, c', cs', h1, h2, .normal, h4, h5, h6, StepsIn.trans h0 (StepsIn.trans h7 (.one trivial stepR_inBlock))⟩
        | exit id' =>
          simp only
          by_cases hid : id' = id
          · subst hid
            rw [beq_t]
            exact ⟨m', w', .normal, c', cs', h1, h2, .normal, h4, h5, h6, StepsIn.trans h0 (h7.1 k (by simp [exitTo]))⟩
          · rw [beq_f hid]
            have hx : exitTo id' (.inBlock id :: k) = exitTo id' k := by
              have : (id == id') = false := by simp; exact fun h => hid h.symm
              simp [exitTo, this]
            exact ⟨m', w', .exit id', c', cs', h1, h2, .exit id', h4, h5, h6, fun k' hk => StepsIn.trans h0 (h7.1 k' (by rw [hx]; exact hk)), fun hrr hk => let ⟨k₁, g1, g2⟩ := h7.2 hrr (by rw [hx]; exact hk); ⟨k₁, g1, StepsIn.trans h0 g2⟩⟩
        | goto l =>
          have hx : gotoIn l (.inBlock id :: k) = gotoIn l k := by simp [gotoIn]
          exact ⟨m', w', .goto l, c', cs', h1, h2, .goto l, h4, h5, h6, fun k' hk => StepsIn.trans h0 (h7.1 k' (by rw [hx]; exact hk)), fun hrr hk => let ⟨k₁, g1, g2⟩ := h7.2 hrr (by rw [hx]; exact hk); ⟨k₁, g1, StepsIn.trans h0 g2⟩⟩
        | ret => exact ⟨m', w', .ret, c', cs', h1, h2, .ret, h4, h5, h6, .of_steps h0 h7⟩
        | panic hc => exact ⟨m', w', .panic _, c', cs', h1, h2, .panic hc, h4, h5, h6, .of_steps h0 h7⟩
    | loop x =>
      rw [ccode_loop]
      intro ro fn b k cs a c u σ m w hb hr ha hu hro
      unfold cloop
      generalize bigFuel = fuel
      exact KOK.from (.refl _ _ _) (.refl _ _) (.one trivial stepR_loop) (floop_sound (ih x) (keepOf H fn) fuel b k cs a c u σ m w hb hr ha hu hro)
    | scope x =>
      rw [ccode_scope]
      intro ro fn b k cs a c u σ m w hb hr ha hu hro
      unfold cscope
      generalize bigFuel = fuel
      refine KOK.from (.refl _ _ _) (.refl _ _) (.one trivial vstep_scope) ?_
      refine fscope_sound (find := fun l => match findLabel x l with | some rest => some ⟨(ccode P H depth rest).un E ro fn⟩ | none => none) (fun l hl => ?_) (fun l r hl => ?_) fuel x _ (ih x) b k cs a c u σ m w hb hr ha hu hro
      · split at hl
        · cases hl
        · assumption
      · split at hl
        · rename_i rest hrest
          cases hl
          exact ⟨rest, _, hrest, ih rest, rfl⟩
        · cases hl
    | region id ops d =>
      cases d with
      | false =>
        intro ro fn b k cs a c u σ m w hb hr ha hu hro
        refine KOK.from (.refl _ _ _) (.refl _ _) (.one trivial stepR_region) (fops_sound hE ops.toList (List.range ops.size) a c u σ m w cs ?_ hr ha hu hro)
        apply List.ext_getElem?
        intro i
        simp only [List.getElem?_map]
        by_cases hi : i < ops.size
        · simp [List.getElem?_range hi, hi]
        · simp [hi]
      | true =>
        intro ro fn b k cs a c u σ m w hb hr ha hu hro
        show KOK P m σ w b k cs _ ((match plan ops with
          | some p => (⟨fun E ro _ a u σ => fdraw E ro ((cswap P ops p.tail).un E ro) (cdops P ops p.main).un [σ.clock] a u σ⟩ : Bx CodeF)
          | none => ⟨fun _ _ _ _ _ _ => .no⟩).un E ro fn a u σ)
        cases hp : plan ops with
        | none => trivial
        | some p => exact hD id ops p hp ro fn b k cs a c u σ m w hb hr ha hu hro
    | rangeFunc g params assign body => exact hR g params assign body
end
end Go.Eng
