/- Drawn regions: what is claimed of the machine while some of the operations are done. -/
import Derived.Test.YtaijefddfkcfhaaGreatDoorEngAA
namespace Go.Eng
open Go
variable [Pins]

/-- The reading in the middle of a region. -/
structure TS where
  a : FAct
  u : Option FrameMode
  σ : FState
  cl : List Nat

/-- One operation of the reading's own order. -/
inductive StepT (P : Program) (E : Env) (ro : Option Nat) (ops : Array Oper) (o : Oper) (f : Option Nat) (t t' : TS) : Prop
  | askip (hf : f = none) (hg : (cguard ops o.guard).un t.a = some false) (ht : t' = ⟨t.a.put o.dst skipV, t.u, t.σ, t.cl ++ [t.σ.clock]⟩)
  | anch (hf : f = none) (hg : (cguard ops o.guard).un t.a = some true) (h : stepOp E ro o.dst t.a t.u ((cop P o.op).un t.a t.σ) = .done .normal t'.a t'.u t'.σ) (hc : t'.cl = t.cl ++ [t'.σ.clock])
  | fskip (q : Nat) (hf : f = some q) (hg : (cguard ops o.guard).un t.a = some false) (ht : t' = ⟨t.a.put o.dst skipV, t.u, t.σ, t.cl⟩)
  | float (q lam : Nat) (v : Value) (σ' : FState) (hf : f = some q) (hg : (cguard ops o.guard).un t.a = some true) (hl : nth t.cl q = some lam) (h : (cop P o.op).un t.a (view t.σ lam) = .val v σ') (hr : regrow t.σ σ' = some t'.σ)
      (ha : t'.a = t.a.put o.dst v) (hu : t'.u = t.u) (hc : t'.cl = t.cl)

omit [Pins] in
theorem stepOp_act {E : Env} {ro : Option Nat} {dst : Option Tmp} {a a' : FAct} {u u' : Option FrameMode} {r : ORes} {σ' : FState} (h : stepOp E ro dst a u r = .done .normal a' u' σ') :
    ∃ v ds, a' = (⟨a.loc, a.tmp, a.nl, a.nt, ds ++ a.defers⟩ : FAct).put dst v := by
  unfold stepOp at h
  have hcall : ∀ r, afterCall a dst u (fun a u σ => .done .normal a u σ) r = .done .normal a' u' σ' → ∃ v ds, a' = (⟨a.loc, a.tmp, a.nl, a.nt, ds ++ a.defers⟩ : FAct).put dst v := fun r hr => by
    cases r with
    | no => cases hr
    | ret v w s => cases hr; exact ⟨v, [], rfl⟩
    | pan ch w s => cases hr
  cases r with
  | no => cases h
  | val v s => cases h; exact ⟨v, [], rfl⟩
  | skip s => cases h; exact ⟨undef, [], rfl⟩
  | panic v s => cases h
  | enter f args s => exact hcall _ h
  | yield l args s => exact hcall _ h
  | defer d s => cases ro with
    | none => cases h; exact ⟨undef, [d], rfl⟩
    | some l => cases h
  | recover s => cases ro with
    | some l => cases h
    | none =>
      have h' : frecover dst a u s (fun a u σ => .done .normal a u σ) = .done .normal a' u' σ' := h
      unfold frecover at h'
      split at h' <;> (cases h'; exact ⟨_, [], rfl⟩)

/-- What is known of a region's own order: N operations; which is which; which may move. -/
structure Pl (ops : Array Oper) where
  N : Nat
  ix : Nat → Nat
  op : Nat → Oper
  flt : Nat → Option Nat
  hop : ∀ k, k < N → ops[ix k]? = some (op k)
  inj : ∀ j, j < N → ∀ k, k < N → ix j = ix k → j = k
  all : ∀ i, i < ops.size → ∃ k, k < N ∧ ix k = i
  bind : ∀ k, k < N → ∀ e ∈ (op k).after, Region.binds .any e = true → ∃ j, j < k ∧ ix j = e.on
  isf : ∀ k, k < N → (flt k).isSome = true → isFlt (op k).op = true
  dst : ∀ j, j < N → ∀ k, k < N → ∀ t, (op j).dst = some t → (op k).dst = some t → j = k

namespace Pl
variable {ops : Array Oper} (pl : Pl ops)
/-- What must come before is there. -/
def Cl (D : Nat → Prop) : Prop := ∀ k, k < pl.N → D k → ∀ e ∈ (pl.op k).after, Region.binds .any e = true → ∀ j, j < pl.N → pl.ix j = e.on → D j
def Needs (k j : Nat) : Prop := ∀ D, pl.Cl D → D k → D j
/-- All that the others are to be: which slots an operation looks at, who writes them. -/
structure Ok (pl : Pl ops) : Prop where
  looks : ∀ k, k < pl.N → ∀ t, t ∈ (pl.op k).looksAt ops → ∀ j, j < pl.N → (pl.op j).dst = some t → j = k ∨ pl.Needs k j ∨ pl.Needs j k
variable {pl}
omit [Pins] in
theorem needs_le {k j : Nat} (hk : k < pl.N) (hj : j < pl.N) (h : pl.Needs k j) : j ≤ k := by
  refine h (fun i => i ≤ k) (fun i hi hik e he hb j' hj' heq => ?_) (Nat.le_refl _)
  obtain ⟨j2, h1, h2⟩ := pl.bind i hi e he hb
  have := pl.inj j' hj' j2 (by omega) (by rw [heq, h2])
  omega
/-- An operation that is ready. -/
def Ready (pl : Pl ops) (D : Nat → Prop) (k : Nat) : Prop := ∀ e ∈ (pl.op k).after, Region.binds .any e = true → ∀ j, j < pl.N → pl.ix j = e.on → D j
def ins (D : Nat → Prop) (k : Nat) : Nat → Prop := fun i => i = k ∨ D i
omit [Pins] in
theorem cl_ins {D : Nat → Prop} {k : Nat} (hD : pl.Cl D) (hr : pl.Ready D k) : pl.Cl (ins D k) := fun i hi hd e he hb j hj heq => by
  rcases hd with rfl | hd
  · exact .inr (hr e he hb j hj heq)
  · exact .inr (hD i hi hd e he hb j hj heq)
omit [Pins] in
theorem needs_ready {D : Nat → Prop} {k j : Nat} (hD : pl.Cl D) (hr : pl.Ready D k) (h : pl.Needs k j) : j = k ∨ D j := h _ (cl_ins hD hr) (.inl rfl)
end Pl

/-- The reading's way through a region: the places, one for each operation as far as Np. -/
structure Tr' (P : Program) (E : Env) (ro : Option Nat) {ops : Array Oper} (pl : Pl ops) (T : Nat → TS) (Np : Nat) : Prop where
  le : Np ≤ pl.N
  st : ∀ k, k < Np → StepT P E ro ops (pl.op k) (pl.flt k) (T k) (T (k + 1))
  lam : ∀ k, k < Np → ∀ q lam, pl.flt k = some q → nth (T k).cl q = some lam → lam = (T 0).σ.clock ∨ ∃ j, j < k ∧ pl.flt j = none ∧ pl.Needs k j ∧ lam = (T (j + 1)).σ.clock

section
variable {P : Program} {E : Env} {ro : Option Nat} {ops : Array Oper} {pl : Pl ops} {T : Nat → TS} {Np : Nat}

omit [Pins] in
theorem StepT.act {o : Oper} {f : Option Nat} {t t' : TS} (h : StepT P E ro ops o f t t') : ∃ v ds, t'.a = (⟨t.a.loc, t.a.tmp, t.a.nl, t.a.nt, ds ++ t.a.defers⟩ : FAct).put o.dst v ∧ (f.isSome = true → ds = []) := by
  cases h with
  | askip hf hg ht => subst ht; exact ⟨skipV, [], rfl, fun _ => rfl⟩
  | anch hf hg h hc =>
    obtain ⟨v, ds, h1⟩ := stepOp_act h
    exact ⟨v, ds, h1, fun h2 => (by rw [hf] at h2; cases h2)⟩
  | fskip q hf hg ht => subst ht; exact ⟨skipV, [], rfl, fun _ => rfl⟩
  | float q lam v σ' hf hg hl h hr ha hu hc => exact ⟨v, [], ha, fun _ => rfl⟩
omit [Pins] in
theorem StepT.nt {o : Oper} {f : Option Nat} {t t' : TS} (h : StepT P E ro ops o f t t') : t'.a.nt = t.a.nt := by
  obtain ⟨v, ds, h1, _⟩ := h.act
  rw [h1, (put_nt _ _ _).1]
omit [Pins] in
theorem StepT.get {o : Oper} {f : Option Nat} {t t' : TS} (h : StepT P E ro ops o f t t') {x : Nat} (hx : ¬ (o.dst = some x ∧ x < t.a.nt)) : t'.a.get x = t.a.get x := by
  obtain ⟨v, ds, h1, _⟩ := h.act
  rw [h1, put_get_ne _ (by exact hx)]
  rfl

omit [Pins] in
theorem Tr'.nt (h : Tr' P E ro pl T Np) : ∀ k, k ≤ Np → (T k).a.nt = (T 0).a.nt
  | 0, _ => rfl
  | k + 1, hk => ((h.st k (by omega)).nt).trans (Tr'.nt h k (by omega))
/-- Whether an operation writes a slot. -/
def Wr (pl : Pl ops) (T : Nat → TS) (k t : Nat) : Prop := (pl.op k).dst = some t ∧ t < (T 0).a.nt
omit [Pins] in
theorem Tr'.get (h : Tr' P E ro pl T Np) {i j t : Nat} (hij : i ≤ j) (hj : j ≤ Np) (hn : ∀ k, i ≤ k → k < j → ¬ Wr pl T k t) : (T j).a.get t = (T i).a.get t := by
  induction j with
  | zero =>
    have : i = 0 := by omega
    rw [this]
  | succ j ih =>
    by_cases hi : i = j + 1
    · rw [hi]
    · rw [(h.st j (by omega)).get (by rw [h.nt j (by omega)]; exact hn j (by omega) (by omega))]
      exact ih (by omega) (by omega) fun k hk hkj => hn k hk (by omega)
omit [Pins] in
theorem Wr.uniq {k k' t : Nat} (hk : k < pl.N) (hk' : k' < pl.N) (h : Wr pl T k t) (h' : Wr pl T k' t) : k = k' := pl.dst k hk k' hk' t h.1 h'.1

omit [Pins] in
/-- Movable operations lay one new piece of memory at most. -/
theorem StepT.flt {o : Oper} {f : Option Nat} {t t' : TS} (h : StepT P E ro ops o f t t') (hf : f.isSome = true) (hi : isFlt o.op = true) : t'.u = t.u ∧ t'.a.defers = t.a.defers ∧ (t'.σ = t.σ ∨ ∃ ob fz, t'.σ = t.σ.push ob fz) := by
  have hd : t'.a.defers = t.a.defers := by
    obtain ⟨v, ds, h1, h2⟩ := h.act
    rw [h1, (put_nt _ _ _).2, h2 hf]
    rfl
  cases h with
  | askip hf' hg ht => rw [hf'] at hf; cases hf
  | anch hf' hg h hc => rw [hf'] at hf; cases hf
  | fskip q hf hg ht => subst ht; exact ⟨rfl, hd, .inl rfl⟩
  | float q lam v σ' hf hg hl h hr ha hu hc =>
    refine ⟨hu, hd, ?_⟩
    have hs := flt_stays (P := P) (σ := view t.σ lam) o.op hi t.a v σ' h
    have hnx : (view t.σ lam).next = t.σ.next := rfl
    rcases hs with h1 | ⟨ob, fz, h1⟩
    · subst h1
      have h2 : regrow t.σ (view t.σ lam) = some t.σ := by
        unfold regrow
        rw [hnx, beq_t]
        rfl
      rw [h2] at hr
      simp only [Option.some.injEq] at hr
      exact .inl hr.symm
    · subst h1
      have hget : ((view t.σ lam).push ob fz).heap.get t.σ.next = some ⟨ob, false, fz, t.σ.clock⟩ := by
        rw [push_get, if_pos hnx.symm]
        rfl
      have hn1 : ((view t.σ lam).push ob fz).next = t.σ.next + 1 := rfl
      have h2 : regrow t.σ ((view t.σ lam).push ob fz) = some (t.σ.push ob fz) := by
        unfold regrow
        rw [hn1, beq_f (by omega)]
        show (match ((view t.σ lam).push ob fz).heap.get t.σ.next with | some ent => some (t.σ.push ent.obj ent.fz) | none => none) = _
        rw [hget]
      rw [h2] at hr
      simp only [Option.some.injEq] at hr
      exact .inr ⟨ob, fz, hr.symm⟩

/-- As far as K the reading's memory only goes on. -/
def Mono (T : Nat → TS) (K : Nat) : Prop := ∀ i j, i ≤ j → j ≤ K → FStep (T i).σ (T j).σ
omit [Pins] in
theorem Mono.le {K K' : Nat} (h : Mono T K) (hk : K' ≤ K) : Mono T K' := fun i j a b => h i j a (by omega)
omit [Pins] in
theorem Mono.zero : Mono T 0 := fun i j a b => by
  have : i = j := by omega
  rw [this]
  exact .refl _
omit [Pins] in
theorem Mono.succ {K : Nat} (h : Mono T K) (hs : FStep (T K).σ (T (K + 1)).σ) : Mono T (K + 1) := fun i j a b => by
  by_cases hj : j ≤ K
  · exact h i j a hj
  · have hjk : j = K + 1 := by omega
    subst hjk
    by_cases hi : i = K + 1
    · rw [hi]; exact .refl _
    · exact (h i K (by omega) (by omega)).trans hs

/-- What is so of the machine when the operations of D are done, all ahead of s among them, and behind s only what may move. -/
structure Inv (pl : Pl ops) (T : Nat → TS) (Np : Nat) (kind : CallKind) (cs0 : List Frame) (m0 : Mp) (w0 : World) (D : Nat → Prop) (s : Nat) (m : Mp) (c : Act) (w : World) (cs : List Frame) : Prop where
  sN : s ≤ Np
  dN : ∀ k, D k → k < Np
  low : ∀ k, k < s → D k
  high : ∀ k, D k → s ≤ k → (pl.flt k).isSome = true
  cl : pl.Cl D
  rel : Rel Top (m.cut (T s).σ.next) (T s).σ w
  step : Step (T 0).σ (T s).σ m0 (m.cut (T s).σ.next) w0 w
  fl : ∀ k, D k → s ≤ k → (T k).σ.next < (T (k + 1)).σ.next → ∀ e, m (T k).σ.next = some e → e.ro = false ∧ w0.heap.size ≤ e.blk ∧ e.blk < w.heap.size ∧
    (∀ ent, (T (k + 1)).σ.heap.get (T k).σ.next = some ent → ent.ro = false ∧ Sync (m.cut (T (k + 1)).σ.next) ent.obj ent.fz e w) ∧ ∀ b e', b ≠ (T k).σ.next → m b = some e' → e'.blk ≠ e.blk
  dom : ∀ b e, m b = some e → b < (T s).σ.next ∨ ∃ k, D k ∧ s ≤ k ∧ b = (T k).σ.next ∧ (T k).σ.next < (T (k + 1)).σ.next
  slot : ∀ t, (∃ k, D k ∧ Wr pl T k t ∧ VRel (m.cut (T (k + 1)).σ.next) ((T (k + 1)).a.get t) (c.tmps.getD t undef)) ∨ ((∀ k, D k → ¬ Wr pl T k t) ∧ VRel (m.cut (T 0).σ.next) ((T 0).a.get t) (c.tmps.getD t undef))
  size : c.tmps.size = (T 0).a.nt
  defers : DLRel (m.cut (T s).σ.next) (T s).a.defers c.defers
  urel : URel (m.cut (T s).σ.next) (T s).u kind cs
  under : Under kind cs0 cs
  start : ∀ b e, m0 b = some e → b < (T 0).σ.next
  pin0 : ∀ x o, Pins.on x o → x < w0.heap.size

theorem Inv.le0 {kind : CallKind} {cs0 : List Frame} {m0 : Mp} {w0 : World} {D : Nat → Prop} {s : Nat} {m : Mp} {c : Act} {w : World} {cs : List Frame} (h : Inv pl T Np kind cs0 m0 w0 D s m c w cs) (x : Nat) (hx : (T 0).σ.next ≤ x) : m0.le (m.cut x) := fun b e hb => by
  have h1 := h.step.le b e hb
  rw [Mp.cut_some] at h1 ⊢
  have := h.start b e hb
  exact ⟨by omega, h1.2⟩

/-- The place moves on over what may move and is done. -/
theorem Inv.absorb {kind : CallKind} {cs0 : List Frame} {m0 : Mp} {w0 : World} {D : Nat → Prop} {s : Nat} {m : Mp} {c : Act} {w : World} {cs : List Frame} (hT : Tr' P E ro pl T Np) (hM : Mono T s) (h : Inv pl T Np kind cs0 m0 w0 D s m c w cs) (hs : D s) :
    Inv pl T Np kind cs0 m0 w0 D (s + 1) m c w cs := by
  have hsN := h.dN s hs
  have hle := hT.le
  have hf := h.high s hs (Nat.le_refl _)
  obtain ⟨hu, hd, hσ⟩ := (hT.st s hsN).flt hf (pl.isf s (by omega) hf)
  have h0s := hM 0 s (Nat.zero_le _) (Nat.le_refl _)
  have hnx : (T s).σ.next ≤ (T (s + 1)).σ.next := by
    rcases hσ with h1 | ⟨ob, fz, h1⟩
    · rw [h1]; exact Nat.le_refl _
    · rw [h1]; exact Nat.le_succ _
  have hcut : (m.cut (T s).σ.next).le (m.cut (T (s + 1)).σ.next) := Mp.cut_mono hnx fun _ _ _ x => x
  -- which entries the cut has that it had not
  have hnew : ∀ b e, (m.cut (T (s + 1)).σ.next) b = some e → (m.cut (T s).σ.next) b = some e ∨ (b = (T s).σ.next ∧ m b = some e ∧ (T s).σ.next < (T (s + 1)).σ.next) := fun b e hb => by
    rw [Mp.cut_some] at hb
    by_cases hlt : b < (T s).σ.next
    · exact .inl (Mp.cut_some.2 ⟨hlt, hb.2⟩)
    · right
      rcases hσ with h1 | ⟨ob, fz, h1⟩
      · rw [h1] at hb
        omega
      · have : (T (s + 1)).σ.next = (T s).σ.next + 1 := by rw [h1]; rfl
        exact ⟨by omega, hb.2, by omega⟩
  have hget : ∀ b, b ≠ (T s).σ.next → (T (s + 1)).σ.heap.get b = (T s).σ.heap.get b := fun b hb => by
    rcases hσ with h1 | ⟨ob, fz, h1⟩
    · rw [h1]
    · rw [h1, push_get, if_neg hb]
  have hgetn : ∀ ent, (T (s + 1)).σ.heap.get (T s).σ.next = some ent → ent.ver = (T s).σ.clock := fun ent hg => by
    rcases hσ with h1 | ⟨ob, fz, h1⟩
    · rw [h1] at hg
      have := h.rel.wf _ _ hg
      omega
    · rw [h1, push_get, if_pos rfl] at hg
      cases hg
      rfl
  refine ⟨hsN, h.dN, fun k hk => ?_, fun k hk hks => h.high k hk (by omega), h.cl, ?_, ?_, fun k hk hks => h.fl k hk (by omega), fun b e hb => ?_, h.slot, h.size, by rw [hd]; exact h.defers.mono hcut, by rw [hu]; exact h.urel.mono hcut, h.under, h.start, h.pin0⟩
  · by_cases hks : k = s
    · subst hks; exact hs
    · exact h.low k (by omega)
  · refine ⟨fun b ent e _ hb hm => ?_, fun b b' ent ent' e e' hne hb hb' ha ha' hm hm' => ?_, fun b e hm => ?_, fun b ent hb => ?_, fun x o hx => ⟨(h.rel.pin x o hx).1, fun b e hm hr1 => ?_⟩⟩
    · rcases hnew b e hm with h1 | ⟨rfl, h1, h2⟩
      · have hbn : b ≠ (T s).σ.next := by
          rw [Mp.cut_some] at h1
          omega
        rw [hget b hbn] at hb
        obtain ⟨h3, h4⟩ := h.rel.sync b ent e trivial hb h1
        exact ⟨h3, h4.keep hcut rfl⟩
      · obtain ⟨g1, g2, g3, g4, g5⟩ := h.fl s hs (Nat.le_refl _) h2 e h1
        obtain ⟨g6, g7⟩ := g4 ent hb
        exact ⟨by rw [g6, g1], g7⟩
    · rcases hnew b e hm with h1 | ⟨rfl, h1, h2⟩
      · rcases hnew b' e' hm' with h1' | ⟨rfl, h1', h2'⟩
        · have hbn : b ≠ (T s).σ.next := by
            rw [Mp.cut_some] at h1
            omega
          have hbn' : b' ≠ (T s).σ.next := by
            rw [Mp.cut_some] at h1'
            omega
          rw [hget b hbn] at hb
          rw [hget b' hbn'] at hb'
          exact h.rel.inj b b' ent ent' e e' hne hb hb' ha ha' h1 h1'
        · obtain ⟨g1, g2, g3, g4, g5⟩ := h.fl s hs (Nat.le_refl _) h2' e' h1'
          exact g5 b e hne (Mp.cut_some.1 h1).2
      · obtain ⟨g1, g2, g3, g4, g5⟩ := h.fl s hs (Nat.le_refl _) h2 e h1
        have := g5 b' e' (fun x => hne x.symm) (Mp.cut_some.1 hm').2
        exact fun x => this x.symm
    · rcases hnew b e hm with h1 | ⟨rfl, h1, h2⟩
      · have := h.rel.dom b e h1
        exact ⟨by omega, this.2⟩
      · obtain ⟨g1, g2, g3, g4, g5⟩ := h.fl s hs (Nat.le_refl _) h2 e h1
        exact ⟨h2, g3⟩
    · by_cases hbn : b = (T s).σ.next
      · rcases hσ with h1 | ⟨ob, fz, h1⟩
        · rw [h1] at hb ⊢
          exact h.rel.wf b ent hb
        · rw [hbn, h1]
          exact Nat.lt_succ_self _
      · rw [hget b hbn] at hb
        have := h.rel.wf b ent hb
        omega
    · rcases hnew b e hm with h1 | ⟨rfl, h1, h2⟩
      · exact (h.rel.pin x o hx).2 b e h1 hr1
      · have := (h.fl s hs (Nat.le_refl _) h2 e h1).2.1
        have := h.pin0 x o hx
        omega
  · have hst := h.step
    have hck : (T s).σ.clock ≤ (T (s + 1)).σ.clock := by
      rcases hσ with h1 | ⟨ob, fz, h1⟩
      · rw [h1]; exact Nat.le_refl _
      · rw [h1]; exact Nat.le_succ _
    have h00 := h0s.next
    have h0c := h0s.clock
    refine ⟨h.le0 _ (by omega), by omega, fun b e hb => ?_, hst.size, fun j hj hno => hst.keep j hj fun b e ent hm hro hbl hg => ?_, hst.os, hst.tape, hst.output, by omega, fun b ent hb => ?_, fun b ent hb => ?_⟩
    · rcases hnew b e hb with h1 | ⟨rfl, h1, h2⟩
      · rcases hst.fresh b e h1 with h3 | ⟨h3, h4, h5, h6⟩
        · exact .inl h3
        · refine .inr ⟨h3, h4, h5, h6.imp id ?_⟩
          rintro ⟨b0, e0, ent0, k1, k2, k3, k4, k5⟩
          have := h.start b0 e0 k1
          exact ⟨b0, e0, ent0, k1, k2, k3, by rw [hget b0 (by omega)]; exact k4, k5⟩
      · obtain ⟨g1, g2, g3, g4, g5⟩ := h.fl s hs (Nat.le_refl _) h2 e h1
        refine .inr ⟨?_, h00, g1, .inl g2⟩
        cases hm0 : m0 (T s).σ.next with
        | none => rfl
        | some e0 =>
          have := h.start _ _ hm0
          omega
    · have := h.start b e hm
      exact hno b e ent hm hro hbl (by rw [hget b (by omega)]; exact hg)
    · by_cases hbn : b = (T s).σ.next
      · right
        rw [hbn] at hb
        rw [hgetn ent hb]
        exact h0c
      · rw [hget b hbn] at hb
        exact hst.ver b ent hb
    · obtain ⟨ent', h1⟩ := hst.has b ent hb
      by_cases hbn : b = (T s).σ.next
      · have := h.rel.wf b ent' h1
        omega
      · exact ⟨ent', by rw [hget b hbn]; exact h1⟩
  · rcases h.dom b e hb with h1 | ⟨k, h1, h2, h3, h4⟩
    · exact .inl (by omega)
    · by_cases hks : k = s
      · subst hks
        exact .inl (by omega)
      · exact .inr ⟨k, h1, by omega, h3, h4⟩
end
end Go.Eng
