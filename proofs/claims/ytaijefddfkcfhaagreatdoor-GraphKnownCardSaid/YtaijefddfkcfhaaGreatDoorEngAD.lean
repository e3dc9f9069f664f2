/- Drawn regions: one operation more, at the machine. -/
import Derived.Test.YtaijefddfkcfhaaGreatDoorEngAC
namespace Go.Eng
open Go
variable [Pins]

section
variable {P : Program} {E : Env} {ro : Option Nat} {ops : Array Oper} {pl : Pl ops} {T : Nat → TS} {Np : Nat} {b : Frame} {k' : List Item} {rest : List Nat} {cs0 : List Frame} {m0 : Mp} {w0 : World} {D : Nat → Prop} {s : Nat} {m : Mp} {c : Act} {w : World} {cs : List Frame}

omit [Pins] in
theorem value_step {i : Nat} {o : Oper} {v : Value} {w' : World} (ho : ops[i]? = some o) (hw : Region.wanted o (yielded ops c.tmps) = true) (hs : ∀ cc, o.op ≠ .defer cc) (hrun : (execOp c.eval o).run P w = .ok (.value v) w') :
    St P (lone (b.atR c (.inRegion ops (i :: rest) :: k')) cs w) (lone (b.atR (c.put o.dst v) (.inRegion ops rest :: k')) cs w') := by
  have hg := stepGR_op (P := P) (b := b) (a := c) (k := k') (cs := cs) (w := w) (rest := rest) ho hw
  rw [Oper.semAt_eq _ _ _ hs] at hg
  exact .one trivial (step_lone_go (by
    rw [hg, ← fin_eq ho]
    simp [stepG.apply, hrun]))
omit [Pins] in
theorem skip_step {i : Nat} {o : Oper} {w' : World} (ho : ops[i]? = some o) (hw : Region.wanted o (yielded ops c.tmps) = true) (hs : ∀ cc, o.op ≠ .defer cc) (hrun : (execOp c.eval o).run P w = .ok .skip w') :
    St P (lone (b.atR c (.inRegion ops (i :: rest) :: k')) cs w) (lone (b.atR (c.put o.dst undef) (.inRegion ops rest :: k')) cs w') := by
  have hg := stepGR_op (P := P) (b := b) (a := c) (k := k') (cs := cs) (w := w) (rest := rest) ho hw
  rw [Oper.semAt_eq _ _ _ hs] at hg
  exact .one trivial (step_lone_go (by
    rw [hg, ← fin_eq ho]
    simp [stepG.apply, hrun]))
omit [Pins] in
theorem unwanted_step {i : Nat} {o : Oper} (ho : ops[i]? = some o) (hw : Region.wanted o (yielded ops c.tmps) = false) :
    St P (lone (b.atR c (.inRegion ops (i :: rest) :: k')) cs w) (lone (b.atR (c.put o.dst undef) (.inRegion ops rest :: k')) cs w) := by
  have := stepR_op_skip (P := P) (b := b) (a := c) (k := k') (cs := cs) (w := w) (ops := ops) (i := i) (rest := rest) (by simp [ho, hw])
  rw [ho] at this
  exact .one trivial this
omit [Pins] in
theorem isFlt_defer {o : Op} (h : isFlt o = true) (cc : Call) : o ≠ .defer cc := fun hx => by
  subst hx
  cases h

theorem Inv.noneAt {kind : CallKind} {k K : Nat} (hM : Mono T K) (hDK : ∀ j, D j → j + 1 ≤ K) (hkK : k + 1 ≤ K) (h : Inv pl T Np kind cs0 m0 w0 D s m c w cs) (hsk : s ≤ k) (hnd : ¬ D k) (hp : (T k).σ.next < (T (k + 1)).σ.next) : m (T k).σ.next = none := by
  cases hm : m (T k).σ.next with
  | none => rfl
  | some e =>
    rcases h.dom _ e hm with h1 | ⟨j, h1, h2, h3, h4⟩
    · have := (hM s k hsk (by omega)).next
      omega
    · have hjk : j ≠ k := fun x => hnd (x ▸ h1)
      by_cases hlt : j < k
      · have := (hM (j + 1) k (by omega) (by omega)).next
        omega
      · have := (hM (k + 1) j (by omega) (by have := hDK j h1; omega)).next
        omega

theorem guard_known {kind : CallKind} (hok : pl.Ok) (hT : Tr' P E ro pl T Np) {k : Nat} (hM : Mono T k) (h : Inv pl T Np kind cs0 m0 w0 D s m c w cs) (hk : k < pl.N) (hkN : k ≤ Np) (hsk : s ≤ k) (hr : pl.Ready D k) (hnd : ¬ D k) {g : Bool}
    (hg : (cguard ops (pl.op k).guard).un (T k).a = some g) : Region.wanted (pl.op k) (yielded ops c.tmps) = g := by
  have hl := h.look hok hT hM hk hkN hsk hr hnd
  refine cguard_sound (m := m.cut (T k).σ.next) (fun j want d h1 h2 => ?_) hg
  have h3 := hl.get d
  rw [poison_get, if_pos (looks_guard h1 h2)] at h3
  exact h3

theorem Inv.pickF (hok : pl.Ok) (hT : Tr' P E ro pl T Np) {k K : Nat} (hM : Mono T K) (hDK : ∀ j, D j → j + 1 ≤ K) (hkK : k + 1 ≤ K) (h : Inv pl T Np b.kind cs0 m0 w0 D s m c w cs) (hk : k < Np) (hsk : s ≤ k) (hnd : ¬ D k) (hr : pl.Ready D k) (hf : (pl.flt k).isSome = true) :
    ∃ m' c' w', Inv pl T Np b.kind cs0 m0 w0 (Pl.ins D k) s m' c' w' cs ∧ St P (lone (b.atR c (.inRegion ops (pl.ix k :: rest) :: k')) cs w) (lone (b.atR c' (.inRegion ops rest :: k')) cs w') := by
  have hle := hT.le
  have hMk := hM.le (K' := k) (by omega)
  have ho := pl.hop k (by omega)
  have hisf := pl.isf k (by omega) hf
  cases hT.st k hk with
  | askip hf' hg ht => rw [hf'] at hf; cases hf
  | anch hf' hg h' hc => rw [hf'] at hf; cases hf
  | fskip q hf' hg ht =>
    have hw := guard_known hok hT hMk h (by omega) (by omega) hsk hr hnd hg
    exact ⟨m, _, w, h.putF hT hM hDK hkK hk hsk hnd hr hf (v := skipV) (v' := undef) (by rw [ht]) (fun _ _ => rfl) (Nat.le_refl _) rfl rfl rfl (fun _ _ x => x) (fun _ _ x => .inl x) .skip, unwanted_step ho hw⟩
  | float q lam v σ' hf' hg hl h' hr' ha hu hc =>
    have hw := guard_known hok hT hMk h (by omega) (by omega) hsk hr hnd hg
    have hlam := h.lamOK hT hMk hk hsk hr hf' hl
    have hvr := h.viewRel hMk hsk hlam
    have hlook := h.look hok hT hMk (by omega) (by omega) hsk hr hnd
    have hO := cop_sound (P := P) hvr hlook (pl.op k)
    rw [← cop_poison, h'] at hO
    have hlk : lam ≤ (T k).σ.clock := Nat.le_trans hlam (hMk s k hsk (Nat.le_refl _)).clock
    have hst : Stays (view (T k).σ lam) (.val v σ') := by
      have := flt_stays (P := P) (σ := view (T k).σ lam) (pl.op k).op hisf (T k).a
      rw [h'] at this
      exact this
    obtain ⟨w', v', hrun, hw1, hw2, hw3, hw4, hw5, hcase⟩ := float_core hlk hvr hst hO rfl hr'
    have hstep := value_step (b := b) (k' := k') (rest := rest) (cs := cs) ho hw (isFlt_defer hisf) hrun
    rcases hcase with ⟨h1, hV⟩ | ⟨o, fz, eo, h1, hV, h2⟩
    · exact ⟨m, _, w', h.putF hT hM hDK hkK hk hsk hnd hr hf ha hw1 hw2 hw3 hw4 hw5 (fun _ _ x => x) (fun _ _ x => .inl x) (by rw [h1]; exact hV), hstep⟩
    · have hnx : (T (k + 1)).σ.next = (T k).σ.next + 1 := by rw [h1]; rfl
      have hp : (T k).σ.next < (T (k + 1)).σ.next := by omega
      have hnone := h.noneAt hM hDK hkK hsk hnd hp
      have hup : ((m.cut (T k).σ.next).upd (T k).σ.next eo).le ((m.upd (T k).σ.next eo).cut (T (k + 1)).σ.next) := fun x e hx => by
        rw [Mp.cut_some]
        unfold Mp.upd at hx ⊢
        by_cases hxn : x = (T k).σ.next
        · rw [if_pos hxn] at hx ⊢
          exact ⟨by omega, hx⟩
        · rw [if_neg hxn] at hx ⊢
          rw [Mp.cut_some] at hx
          exact ⟨by omega, hx.2⟩
      refine ⟨m.upd (T k).σ.next eo, _, w', h.putF hT hM hDK hkK hk hsk hnd hr hf ha hw1 hw2 hw3 hw4 hw5 (fun x e hx => ?_) (fun x e hx => ?_) (hV.mono hup), hstep⟩
      · unfold Mp.upd
        by_cases hxn : x = (T k).σ.next
        · rw [hxn, hnone] at hx
          cases hx
        · rw [if_neg hxn]
          exact hx
      · unfold Mp.upd at hx
        by_cases hxn : x = (T k).σ.next
        · rw [if_pos hxn] at hx
          obtain ⟨g1, g2, g3, g4⟩ := h2 e hx
          refine .inr ⟨hxn, hp, g1, g2, g3, fun ent hg => ?_⟩
          rw [h1, push_get, if_pos rfl] at hg
          cases hg
          exact ⟨rfl, g4.keep hup rfl⟩
        · rw [if_neg hxn] at hx
          exact .inl hx

omit [Pins] in
theorem DLRel.nilc {m : Mp} : DLRel m [] [] := .nil

theorem Inv.pickA (hE : EnvOK P E) (hok : pl.Ok) (hT : Tr' P E ro pl T Np) (hro : RoRel m0 ro b) {k K : Nat} (hM : Mono T K) (hDK : ∀ j, D j → j + 1 ≤ K) (hkK : k ≤ K) (h : Inv pl T Np b.kind cs0 m0 w0 D k m c w cs) (hk : k < Np) (hnd : ¬ D k) (hr : pl.Ready D k) (hf : pl.flt k = none) :
    (∃ m' c' w' cs', Inv pl T Np b.kind cs0 m0 w0 (Pl.ins D k) (k + 1) m' c' w' cs' ∧ St P (lone (b.atR c (.inRegion ops (pl.ix k :: rest) :: k')) cs w) (lone (b.atR c' (.inRegion ops rest :: k')) cs' w')) ∧ FStep (T k).σ (T (k + 1)).σ := by
  have hle := hT.le
  have hMk := hM.le hkK
  have ho := pl.hop k (by omega)
  have hro' : RoRel (m.cut (T k).σ.next) ro b := hro.mono (h.le0 _ (hMk 0 k (Nat.zero_le _) (Nat.le_refl _)).next)
  cases hT.st k hk with
  | fskip q hf' hg ht => rw [hf] at hf'; cases hf'
  | float q lam v σ' hf' hg hl h' hr' ha hu hc => rw [hf] at hf'; cases hf'
  | askip hf' hg ht =>
    have hw := guard_known hok hT hMk h (by omega) (by omega) (Nat.le_refl _) hr hnd hg
    have hσ : (T (k + 1)).σ = (T k).σ := by rw [ht]
    have hu : (T (k + 1)).u = (T k).u := by rw [ht]
    obtain ⟨m2, h2⟩ := h.putA hT hM hDK hkK hk hnd hr (m' := m.cut (T k).σ.next) (w' := w) (v := skipV) (v' := undef) (ds := []) (ds' := []) (cs' := cs) (by rw [ht]; rfl) (by rw [hσ]; exact h.rel) (by rw [hσ]; exact .refl _ _ _) .skip .nil (by rw [hu]; exact h.urel) (.refl _ _)
    exact ⟨⟨m2, _, w, cs, h2, unwanted_step ho hw⟩, by rw [hσ]; exact .refl _⟩
  | anch hf' hg h' hc =>
    have hw := guard_known hok hT hMk h (by omega) (by omega) (Nat.le_refl _) hr hnd hg
    have hlook := h.look hok hT hMk (by omega) (by omega) (Nat.le_refl _) hr hnd
    have hO := cop_sound (P := P) h.rel hlook (pl.op k)
    rw [← cop_poison] at hO
    have hop := op_step (k := k') (rest := rest) (a := (T k).a) (cs := cs) hE h.rel h.urel (fun hx => by subst hx; exact hro') ho hw (sem_ok hro') hO
    rw [h'] at hop
    obtain ⟨m', w', cs', v, v', ds, ds', h1, h2, h3, h4, h5, h6, _, h8, h9⟩ := hop
    obtain ⟨m2, hI⟩ := h.putA hT hM hDK hkK hk hnd hr h8 h1 h2 h3 h4 h5 h6
    exact ⟨⟨m2, _, w', cs', hI, h9⟩, h2.fstep⟩

/-- The operation that ends the region with a panic. -/
theorem Inv.pickP (hE : EnvOK P E) (hok : pl.Ok) (hT : Tr' P E ro pl T Np) (hro : RoRel m0 ro b) (hM : Mono T Np) (h : Inv pl T Np b.kind cs0 m0 w0 D Np m c w cs) (hk : Np < pl.N) (hnd : ¬ D Np) (hr : pl.Ready D Np)
    (hg : (cguard ops (pl.op Np).guard).un (T Np).a = some true) {e : Exit} {a' : FAct} {u' : Option FrameMode} {σ' : FState} (he : e ≠ .normal) (hs : stepOp E ro (pl.op Np).dst (T Np).a (T Np).u ((cop P (pl.op Np).op).un (T Np).a (T Np).σ) = .done e a' u' σ') :
    KOK P m0 (T 0).σ w0 b k' cs0 (lone (b.atR c (.inRegion ops (pl.ix Np :: rest) :: k')) cs w) (.done e a' u' σ') := by
  have ho := pl.hop Np hk
  have hro' : RoRel (m.cut (T Np).σ.next) ro b := hro.mono (h.le0 _ (hM 0 Np (Nat.zero_le _) (Nat.le_refl _)).next)
  have hw := guard_known hok hT hM h hk (Nat.le_refl _) (Nat.le_refl _) hr hnd hg
  have hlook := h.look hok hT hM hk (Nat.le_refl _) (Nat.le_refl _) hr hnd
  have hO := cop_sound (P := P) h.rel hlook (pl.op Np)
  rw [← cop_poison] at hO
  have hop := op_step (k := k') (rest := rest) (a := (T Np).a) (cs := cs) hE h.rel h.urel (fun hx => by subst hx; exact hro') ho hw (sem_ok hro') hO
  rw [hs] at hop
  cases e with
  | normal => exact absurd rfl he
  | panic ch =>
    obtain ⟨rfl, m', w', cs', ch', h1, h2, h3, h4, h5, todo, h6⟩ := hop
    exact ⟨m', w', .panic ch', c, cs', h1, h.step.trans h2, .panic h3, (h.allSlots hT hM (Nat.le_refl _) h.dN).mono h2.le, h4, h.under.trans h5, todo, h6⟩
  | exit id => exact hop.elim
  | goto l => exact hop.elim
  | ret => exact hop.elim
  | outgrown => exact hop.elim

/-- All is done. -/
theorem Inv.fin (hT : Tr' P E ro pl T Np) (hM : Mono T Np) (h : Inv pl T Np b.kind cs0 m0 w0 D s m c w cs) (hall : ∀ j, j < Np → D j) :
    KOK P m0 (T 0).σ w0 b k' cs0 (lone (b.atR c (.inRegion ops [] :: k')) cs w) (.done .normal (T Np).a (T Np).u (T Np).σ) := by
  have h1 := h.absorbTo hT hM h.sN hall
  exact ⟨_, w, .normal, c, cs, h1.rel, h1.step, .normal, h1.allSlots hT hM (Nat.le_refl _) h1.dN, h1.urel, h1.under, .one trivial stepR_region_end⟩

theorem Inv.first {a : FAct} {u : Option FrameMode} {σ : FState} {kind : CallKind} (hT : Tr' P E ro pl T Np) (ha : (T 0).a = a) (hu : (T 0).u = u) (hσ : (T 0).σ = σ) (hr : Rel Top m σ w) (hac : ActRel m a c) (hur : URel m u kind cs) :
    Inv pl T Np kind cs m w (fun _ => False) 0 m c w cs := by
  subst ha hu hσ
  have hc : m.cut (T 0).σ.next = m := Mp.cut_eq fun b e hb => (hr.dom b e hb).1
  exact ⟨Nat.zero_le _, fun _ h => h.elim, fun k hk => absurd hk (Nat.not_lt_zero _), fun _ h _ => h.elim, fun _ _ h => h.elim, by rw [hc]; exact hr, by rw [hc]; exact .refl _ _ _, fun _ h => h.elim, fun b e hb => .inl (hr.dom b e hb).1,
    fun t => .inr ⟨fun _ h => h.elim, by rw [hc]; exact hac.get t⟩, hac.tmps.1, by rw [hc]; exact hac.defers, by rw [hc]; exact hur, .refl _ _, fun b e hb => (hr.dom b e hb).1, fun x o hx => pin_lt (hr.pin x o hx).1⟩

omit [Pins] in
theorem Pl.ins_lt (k : Nat) : Pl.ins (fun j => j < k) k = fun j => j < k + 1 := by
  funext j
  apply propext
  unfold Pl.ins
  omega

/-- The reading's memory only goes on: seen by running the machine in the reading's own order. -/
theorem Tr'.mono (hE : EnvOK P E) (hok : pl.Ok) (hT : Tr' P E ro pl T Np) (hro : RoRel m0 ro b) (h0 : Inv pl T Np b.kind cs0 m0 w0 (fun _ => False) 0 m c w cs) : Mono T Np := by
  have key : ∀ k, k ≤ Np → Mono T k ∧ ∃ m c w cs, Inv pl T Np b.kind cs0 m0 w0 (fun j => j < k) k m c w cs := by
    intro k
    induction k with
    | zero =>
      intro _
      refine ⟨Mono.zero, m, c, w, cs, ?_⟩
      have : (fun j => j < 0) = fun _ => False := by
        funext j
        simp
      rw [this]
      exact h0
    | succ k ih =>
      intro hk
      have hle := hT.le
      obtain ⟨hM, m, c, w, cs, h⟩ := ih (by omega)
      have hr : pl.Ready (fun j => j < k) k := fun e he hb j hj heq => by
        obtain ⟨j2, g1, g2⟩ := pl.bind k (by omega) e he hb
        have := pl.inj j hj j2 (by omega) (by rw [heq, g2])
        omega
      have hnd : ¬ k < k := Nat.lt_irrefl k
      cases hf : pl.flt k with
      | some q =>
        obtain ⟨_, _, hσ⟩ := (hT.st k (by omega)).flt (by rw [hf]; rfl) (pl.isf k (by omega) (by rw [hf]; rfl))
        have hFS : FStep (T k).σ (T (k + 1)).σ := by
          rcases hσ with h1 | ⟨ob, fz, h1⟩
          · rw [h1]; exact .refl _
          · rw [h1]; exact .push _ _ _
        have hM' := hM.succ hFS
        obtain ⟨m', c', w', h1, _⟩ := h.pickF (b := b) (k' := []) (rest := []) hok hT hM' (fun j hj => by omega) (Nat.le_refl _) (by omega) (Nat.le_refl _) hnd hr (by rw [hf]; rfl)
        rw [Pl.ins_lt] at h1
        exact ⟨hM', m', c', w', cs, h1.absorb hT hM (by omega)⟩
      | none =>
        obtain ⟨⟨m', c', w', cs', h1, _⟩, h2⟩ := h.pickA (b := b) (k' := []) (rest := []) hE hok hT hro hM (fun j hj => by omega) (Nat.le_refl _) (by omega) hnd hr hf
        rw [Pl.ins_lt] at h1
        exact ⟨hM.succ h2, m', c', w', cs', h1⟩
  exact (key Np (Nat.le_refl _)).1
end
end Go.Eng
