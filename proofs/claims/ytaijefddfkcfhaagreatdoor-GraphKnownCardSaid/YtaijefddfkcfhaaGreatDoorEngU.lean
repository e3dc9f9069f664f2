/- A region in its own order. -/
import Derived.Test.YtaijefddfkcfhaaGreatDoorEngS
namespace Go.Eng
open Go
variable [Pins]

def RoRel (m : Mp) (ro : Option Nat) (b : Frame) : Prop :=
  match ro with
  | none => b.roundOf = none
  | some l => b.kind = .normal ∧ ∃ e, m l = some e ∧ b.roundOf = some e.blk
omit [Pins] in
theorem RoRel.mono {m m' : Mp} (h : m.le m') {ro : Option Nat} {b : Frame} (hb : RoRel m ro b) : RoRel m' ro b := by
  cases ro with
  | none => exact hb
  | some l =>
    obtain ⟨h1, e, h2, h3⟩ := hb
    exact ⟨h1, e, h _ _ h2, h3⟩

/-- What a piece of code comes to, from a place of the machine on. -/
def KOK (P : Program) (m : Mp) (σ : FState) (w : World) (b : Frame) (k : List Item) (cs : List Frame) (start : Machine) : KRes → Prop
  | .no => True
  | .done e a' u' σ' => ∃ m' w' e' c' cs', Rel Top m' σ' w' ∧ Step σ σ' m m' w w' ∧ XRel m' e e' ∧ ActRel m' a' c' ∧ URel m' u' b.kind cs' ∧ Under b.kind cs cs' ∧
      ArrivesIn (fun _ => True) P start b k cs' e' c' w'

section
variable {P : Program} {m : Mp} {σ : FState} {w : World} {b : Frame} {ops : Array Oper} {k : List Item} {cs : List Frame} {a : FAct} {c : Act} {E : Env}

theorem KOK.from {start : Machine} {m₁ : Mp} {σ₁ : FState} {w₁ : World} {cs₁ : List Frame} {start' : Machine} {r : KRes} (hS : Step σ σ₁ m m₁ w w₁) (hU : Under b.kind cs cs₁) (hst : St P start start') (h : KOK P m₁ σ₁ w₁ b k cs₁ start' r) :
    KOK P m σ w b k cs start r := by
  cases r with
  | no => trivial
  | done e a' u' σ' =>
    obtain ⟨m', w', e', c', cs', h1, h2, h3, h4, h5, h6, h7⟩ := h
    exact ⟨m', w', e', c', cs', h1, hS.trans h2, h3, h4, h5, hU.trans h6, .of_steps hst h7⟩

omit [Pins] in
theorem cguard_sound {o : Oper} {g : Bool} (hv : ∀ (j : Nat) (want : Bool) (d : Tmp), o.guard = some (j, want) → (ops[j]?).bind (·.dst) = some d → VRel m (a.get d) (c.tmps.getD d undef)) (h : (cguard ops o.guard).un a = some g) :
    Region.wanted o (yielded ops c.tmps) = g := by
  unfold Region.wanted
  cases hg : o.guard with
  | none =>
    rw [hg] at h
    cases h
    rfl
  | some jw =>
    obtain ⟨j, want⟩ := jw
    rw [hg] at h
    unfold cguard at h
    cases hd : (ops[j]?).bind (·.dst) with
    | none => simp only [hd] at h; cases h
    | some d =>
      simp only [hd] at h
      have h1 := hv j want d hg hd
      cases ha : a.get d with
      | bool bb =>
        rw [ha] at h h1
        simp only [Option.some.injEq] at h
        have h2 := h1.flat rfl
        have h3 : c.tmps[d]? = some (.bool bb) := by
          rw [Array.getD_eq_getD_getElem?] at h2
          cases hq : c.tmps[d]? with
          | none =>
            rw [hq] at h2
            cases h2
          | some x =>
            rw [hq] at h2
            simpa using h2
        simp [yielded, hd, h3, ← h]
      | chan r =>
        rw [ha] at h h1
        cases r with
        | some r => cases h
        | none =>
          cases h
          have h3 : c.tmps.getD d undef = .tuple #[] := by
            generalize c.tmps.getD d undef = x at h1
            cases h1
            rfl
          rw [Array.getD_eq_getD_getElem?] at h3
          cases hq : c.tmps[d]? with
          | none => simp [yielded, hd, hq]
          | some x =>
            rw [hq] at h3
            simp only [Option.getD_some] at h3
            subst h3
            simp [yielded, hd, hq]
      | _ => rw [ha] at h; cases h

omit [Pins] in
theorem afterOp_eq (E : Env) (ro : Option Nat) (dst : Option Tmp) (a : FAct) (u : Option FrameMode) (K : RunF) (r : ORes) :
    afterOp E ro dst a u K r = (match stepOp E ro dst a u r with | .done .normal a u σ => K a u σ | r => r) := by
  have rec_eq : ∀ σ, frecover dst a u σ K = (match frecover dst a u σ (fun a u σ => .done .normal a u σ) with | .done .normal a u σ => K a u σ | r => r) := fun σ => by
    unfold frecover
    split <;> rfl
  have call_eq : ∀ r, afterCall a dst u K r = (match afterCall a dst u (fun a u σ => .done .normal a u σ) r with | .done .normal a u σ => K a u σ | r => r) := fun r => by
    cases r <;> rfl
  cases r with
  | enter f args s => exact call_eq _
  | yield l args s => exact call_eq _
  | defer d s => cases ro <;> rfl
  | recover s => cases ro with
    | none => exact rec_eq s
    | some l => rfl
  | _ => rfl

omit [Pins] in
theorem defer_cases (q : Call) (a : FAct) (σ : FState) : (∃ d, (cop P (.defer q)).un a σ = .defer d σ) ∨ (cop P (.defer q)).un a σ = .no := by
  simp only [cop]
  unfold cdefer
  cases q.callee with
  | value f =>
    simp only
    unfold fdefer
    split
    · exact .inl ⟨_, rfl⟩
    · exact .inr rfl
  | invoke r name => exact .inr rfl
  | builtin x => exact .inr rfl

omit [Pins] in
theorem sem_ok {ro : Option Nat} {o : Oper} {u : Option FrameMode} (hro : RoRel m ro b) : b.roundOf = none ∨ (∀ cc, o.op ≠ .defer cc) ∨ stepOp E ro o.dst a u ((cop P o.op).un a σ) = .no := by
  cases ro with
  | none => exact .inl hro
  | some l =>
    refine .inr ?_
    by_cases hd : ∃ cc, o.op = .defer cc
    · obtain ⟨cc, hcc⟩ := hd
      rw [hcc]
      refine .inr ?_
      rcases defer_cases (P := P) cc a σ with ⟨d, h⟩ | h <;> rw [h] <;> rfl
    · exact .inl fun cc h => hd ⟨cc, h⟩

omit [Pins] in
theorem DLRel.append {d1 d1' d2 d2' : List Deferred} (h : DLRel m d1 d1') (h' : DLRel m d2 d2') : DLRel m (d1 ++ d2) (d1' ++ d2') := by
  refine ⟨by simp [h.1, h'.1], fun j d d' e e' => ?_⟩
  by_cases hj : j < d1.length
  · rw [List.getElem?_append_left hj] at e
    rw [List.getElem?_append_left (by rw [← h.1]; exact hj)] at e'
    exact h.2 j d d' e e'
  · rw [List.getElem?_append_right (by omega)] at e
    rw [List.getElem?_append_right (by rw [← h.1]; omega), ← h.1] at e'
    exact h'.2 _ d d' e e'
omit [Pins] in
theorem ActRel.pushed (ha : ActRel m a c) {ds ds' : List Deferred} (hd : DLRel m ds ds') : ActRel m ⟨a.loc, a.tmp, a.nl, a.nt, ds ++ a.defers⟩ { c with defers := ds' ++ c.defers } :=
  ⟨ha.tmps, hd.append ha.defers⟩

theorem fops_sound (hE : EnvOK P E) {ro : Option Nat} : ∀ (l : List Oper) (idx : List Nat) (a : FAct) (c : Act) (u : Option FrameMode) (σ : FState) (m : Mp) (w : World) (cs : List Frame), idx.map (ops[·]?) = l.map some →
    Rel Top m σ w → ActRel m a c → URel m u b.kind cs → RoRel m ro b →
    KOK P m σ w b k cs (lone (b.atR c (.inRegion ops idx :: k)) cs w) (fops E ro (copers P ops l).un a u σ) := by
  intro l
  induction l with
  | nil =>
    intro idx a c u σ m w cs hidx hr ha hu hro
    have : idx = [] := by simpa using hidx
    subst this
    exact ⟨m, w, .normal, c, cs, hr, .refl _ _ _, .normal, ha, hu, .refl _ _, .one trivial stepR_region_end⟩
  | cons o l ih =>
    intro idx a c u σ m w cs hidx hr ha hu hro
    cases idx with
    | nil => simp at hidx
    | cons i rest =>
      simp only [List.map_cons, List.cons.injEq] at hidx
      obtain ⟨ho, hidx⟩ := hidx
      show KOK P m σ w b k cs _ (Option.rec (motive := fun _ => KRes) .no
        (fun g => Bool.rec (motive := fun _ => KRes) (fops E ro (copers P ops l).un (a.put o.dst skipV) u σ) (afterOp E ro o.dst a u (fops E ro (copers P ops l).un) ((cop P o.op).un a σ)) g) ((cguard ops o.guard).un a))
      cases hg : (cguard ops o.guard).un a with
      | none => trivial
      | some g =>
        have hw := cguard_sound (m := m) (fun j want d _ _ => ha.get d) hg
        cases g with
        | false =>
          refine KOK.from (.refl _ _ _) (.refl _ _) (.one trivial (stepR_op_skip (by simp [ho, hw]))) ?_
          rw [ho]
          exact ih rest (a.put o.dst skipV) (c.put o.dst undef) u σ m w cs hidx hr (ha.put _ .skip) hu hro
        | true =>
          show KOK P m σ w b k cs _ (afterOp E ro o.dst a u (fops E ro (copers P ops l).un) ((cop P o.op).un a σ))
          rw [afterOp_eq]
          have hop := op_step (k := k) (rest := rest) (a := a) hE hr hu (fun h => (by subst h; exact hro)) ho hw (sem_ok hro) (cop_sound hr ha o)
          cases hs : stepOp E ro o.dst a u ((cop P o.op).un a σ) with
          | no => trivial
          | done e a' u' σ' =>
            rw [hs] at hop
            cases e with
            | normal =>
              obtain ⟨m', w', cs', v, v', ds, ds', h1, h2, h3, h4, h5, h6, h7, h8, h9⟩ := hop
              refine KOK.from h2 h6 h9 ?_
              subst h8
              exact ih rest _ _ u' σ' m' w' cs' hidx h1 (((ha.mono h2.le).pushed h4).put _ h3) h5 (hro.mono h2.le)
            | panic ch =>
              obtain ⟨rfl, m', w', cs', ch', h1, h2, h3, h4, h5, todo, h6⟩ := hop
              exact ⟨m', w', .panic ch', c, cs', h1, h2, .panic h3, ha.mono h2.le, h4, h5, todo, h6⟩
            | exit id => exact hop.elim
            | goto t => exact hop.elim
            | ret => exact hop.elim
            | outgrown => exact hop.elim
end
end Go.Eng
