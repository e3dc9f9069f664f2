/- Drawn regions: one operation more. -/
import Derived.Test.YtaijefddfkcfhaaGreatDoorEngAB
namespace Go.Eng
open Go
variable [Pins]

theorem Rel.moreWorld {K : Nat → Prop} {m : Mp} {σ : FState} {w w' : World} (h : Rel K m σ w) (ho : ∀ j, j < w.heap.size → w'.heap[j]? = w.heap[j]?) (hs : w.heap.size ≤ w'.heap.size) : Rel K m σ w' :=
  ⟨fun b ent e hk hb hm => let ⟨h1, h2⟩ := h.sync b ent e hk hb hm; ⟨h1, h2.keep (fun _ _ x => x) (ho _ (h.dom _ _ hm).2)⟩, h.inj, fun b e hm => ⟨(h.dom b e hm).1, Nat.lt_of_lt_of_le (h.dom b e hm).2 hs⟩, h.wf, fun k o hk => ⟨(ho k (pin_lt (h.pin k o hk).1)).trans (h.pin k o hk).1, (h.pin k o hk).2⟩⟩
omit [Pins] in
theorem Step.moreWorld {σ σ' : FState} {m m' : Mp} {w0 w w' : World} (h : Step σ σ' m m' w0 w) (ho : ∀ j, j < w.heap.size → w'.heap[j]? = w.heap[j]?) (hs : w.heap.size ≤ w'.heap.size) (h1 : w'.os = w.os) (h2 : w'.tape = w.tape) (h3 : w'.output = w.output) :
    Step σ σ' m m' w0 w' :=
  ⟨h.le, h.next, h.fresh, Nat.le_trans h.size hs, fun k hk hno => (ho k (Nat.lt_of_lt_of_le hk h.size)).trans (h.keep k hk hno), h1.trans h.os, h2.trans h.tape, h3.trans h.output, h.clock, h.ver, h.has⟩

section
variable {P : Program} {E : Env} {ro : Option Nat} {ops : Array Oper} {pl : Pl ops} {T : Nat → TS} {Np : Nat} {kind : CallKind} {cs0 : List Frame} {m0 : Mp} {w0 : World} {D : Nat → Prop} {s : Nat} {m : Mp} {c : Act} {w : World} {cs : List Frame}

theorem Inv.blk (h : Inv pl T Np kind cs0 m0 w0 D s m c w cs) {b : Nat} {e : MEnt} (hm : m b = some e) : e.blk < w.heap.size := by
  rcases h.dom b e hm with h1 | ⟨k, h1, h2, rfl, h4⟩
  · exact (h.rel.dom b e (Mp.cut_some.2 ⟨h1, hm⟩)).2
  · exact (h.fl k h1 h2 h4 e hm).2.2.1

theorem Inv.pinned (h : Inv pl T Np kind cs0 m0 w0 D s m c w cs) {x : Nat} {o : Obj} (hx : Pins.on x o) {b : Nat} {e : MEnt} (hm : m b = some e) (hr1 : e.ro = false) : e.blk ≠ x := by
  rcases h.dom b e hm with h1 | ⟨k, h1, h2, rfl, h4⟩
  · exact (h.rel.pin x o hx).2 b e (Mp.cut_some.2 ⟨h1, hm⟩) hr1
  · have := (h.fl k h1 h2 h4 e hm).2.1
    have := h.pin0 x o hx
    omega
theorem Inv.absorbTo (hT : Tr' P E ro pl T Np) {k : Nat} (hM : Mono T k) (hsk : s ≤ k) (hlow : ∀ j, j < k → D j) (h : Inv pl T Np kind cs0 m0 w0 D s m c w cs) : Inv pl T Np kind cs0 m0 w0 D k m c w cs := by
  induction k with
  | zero =>
    have : s = 0 := by omega
    rw [← this]
    exact h
  | succ k ih =>
    by_cases hs : s = k + 1
    · rw [← hs]; exact h
    · exact (ih (hM.le (by omega)) (by omega) fun j hj => hlow j (by omega)).absorb hT (hM.le (by omega)) (hlow k (by omega))

/-- What an operation that is ready looks at. -/
theorem Inv.look (hok : pl.Ok) (hT : Tr' P E ro pl T Np) {k : Nat} (hM : Mono T k) (h : Inv pl T Np kind cs0 m0 w0 D s m c w cs) (hk : k < pl.N) (hkN : k ≤ Np) (hsk : s ≤ k) (hr : pl.Ready D k) (hnd : ¬ D k) :
    ActRel (m.cut (T k).σ.next) (poison ((pl.op k).looksAt ops) (T k).a (T s).a.defers) c := by
  have hcut : ∀ i, i ≤ k → (m.cut (T i).σ.next).le (m.cut (T k).σ.next) := fun i hi => Mp.cut_mono (hM i k hi (Nat.le_refl _)).next fun _ _ _ x => x
  refine ⟨⟨?_, fun t => ?_⟩, h.defers.mono (hcut s hsk)⟩
  · rw [h.size]
    exact (hT.nt k hkN).symm
  · show VRel _ ((poison ((pl.op k).looksAt ops) (T k).a (T s).a.defers).get t) _
    rw [poison_get]
    by_cases ht : t ∈ (pl.op k).looksAt ops
    · rw [if_pos ht]
      have hle := hT.le
      rcases h.slot t with ⟨j, hj, hw, hv⟩ | ⟨hno, hv⟩
      · have hjN := h.dN j hj
        rcases hok.looks k hk t ht j (by omega) hw.1 with rfl | hn | hn
        · exact absurd hj hnd
        · have hjk := Pl.needs_le hk (by omega) hn
          have hne : j ≠ k := fun x => hnd (x ▸ hj)
          rw [hT.get (i := j + 1) (j := k) (by omega) hkN fun i h1 h2 h3 => by
            have := Wr.uniq (pl := pl) (T := T) (by omega) (by omega) h3 hw
            omega]
          exact hv.mono (hcut (j + 1) (by omega))
        · exact absurd (hn D h.cl hj) hnd
      · rw [hT.get (i := 0) (j := k) (by omega) hkN fun i _ h2 h3 => by
          rcases hok.looks k hk t ht i (by omega) h3.1 with rfl | hn | hn
          · omega
          · rcases Pl.needs_ready h.cl hr hn with rfl | hd
            · omega
            · exact hno i hd h3
          · have := Pl.needs_le (by omega) hk hn
            omega]
        exact hv.mono (hcut 0 (by omega))
    · rw [if_neg ht]
      exact .unknown _

/-- All slots, when all ahead of k are done and no more. -/
theorem Inv.allSlots (hT : Tr' P E ro pl T Np) {k : Nat} (hM : Mono T k) (h : Inv pl T Np kind cs0 m0 w0 D k m c w cs) (hkN : k ≤ Np) (hno : ∀ j, D j → j < k) : ActRel (m.cut (T k).σ.next) (T k).a c := by
  have hcut : ∀ i, i ≤ k → (m.cut (T i).σ.next).le (m.cut (T k).σ.next) := fun i hi => Mp.cut_mono (hM i k hi (Nat.le_refl _)).next fun _ _ _ x => x
  have hle := hT.le
  refine ⟨⟨?_, fun t => ?_⟩, h.defers⟩
  · rw [h.size]
    exact (hT.nt k hkN).symm
  · show VRel _ ((T k).a.get t) _
    rcases h.slot t with ⟨j, hj, hw, hv⟩ | ⟨hn, hv⟩
    · have hjk := hno j hj
      rw [hT.get (i := j + 1) (j := k) (by omega) hkN fun i h1 h2 h3 => by
        have := Wr.uniq (pl := pl) (T := T) (by omega) (by omega) h3 hw
        omega]
      exact hv.mono (hcut (j + 1) (by omega))
    · rw [hT.get (i := 0) (j := k) (by omega) hkN fun i _ h2 h3 => hn i (h.low i h2) h3]
      exact hv.mono (hcut 0 (by omega))

theorem Inv.lamOK (hT : Tr' P E ro pl T Np) {k : Nat} (hM : Mono T k) (h : Inv pl T Np kind cs0 m0 w0 D s m c w cs) (hk : k < Np) (hsk : s ≤ k) (hr : pl.Ready D k) {q lam : Nat} (hf : pl.flt k = some q) (hl : nth (T k).cl q = some lam) : lam ≤ (T s).σ.clock := by
  rcases hT.lam k hk q lam hf hl with rfl | ⟨j, hj, hfj, hn, rfl⟩
  · exact (hM 0 s (Nat.zero_le _) hsk).clock
  · rcases Pl.needs_ready h.cl hr hn with rfl | hd
    · omega
    · have hjs : j < s := Nat.lt_of_not_le fun hle => by
        have := h.high j hd hle
        rw [hfj] at this
        cases this
      exact (hM (j + 1) s (by omega) hsk).clock

theorem Inv.viewRel {k lam : Nat} (hM : Mono T k) (h : Inv pl T Np kind cs0 m0 w0 D s m c w cs) (hsk : s ≤ k) (hlam : lam ≤ (T s).σ.clock) : Rel Top (m.cut (T k).σ.next) (view (T k).σ lam) w := by
  have hF := hM s k hsk (Nat.le_refl _)
  have hcut : (m.cut (T s).σ.next).le (m.cut (T k).σ.next) := Mp.cut_mono hF.next fun _ _ _ x => x
  have old : ∀ b ent, (view (T k).σ lam).heap.get b = some ent → (T s).σ.heap.get b = some ent := fun b ent hb => by
    obtain ⟨h1, h2⟩ := view_some hb
    rcases hF.ver b ent h1 with h3 | h3
    · exact h3
    · omega
  have down : ∀ b ent e, (view (T k).σ lam).heap.get b = some ent → (m.cut (T k).σ.next) b = some e → (m.cut (T s).σ.next) b = some e := fun b ent e hb hm =>
    Mp.cut_some.2 ⟨h.rel.wf b ent (old b ent hb), (Mp.cut_some.1 hm).2⟩
  refine ⟨fun b ent e _ hb hm => ?_, fun b b' ent ent' e e' hne hb hb' ha ha' hm hm' => ?_, fun b e hm => ?_, fun b ent hb => ?_, fun x o hx => ⟨(h.rel.pin x o hx).1, fun b e hm hr1 => h.pinned hx (Mp.cut_some.1 hm).2 hr1⟩⟩
  · obtain ⟨h1, h2⟩ := h.rel.sync b ent e trivial (old b ent hb) (down b ent e hb hm)
    exact ⟨h1, h2.keep hcut rfl⟩
  · exact h.rel.inj b b' ent ent' e e' hne (old b ent hb) (old b' ent' hb') ha ha' (down b ent e hb hm) (down b' ent' e' hb' hm')
  · rw [Mp.cut_some] at hm
    exact ⟨hm.1, h.blk hm.2⟩
  · have := h.rel.wf b ent (old b ent hb)
    have h1 := hF.next
    show b < (T k).σ.next
    omega

/-- One more that may move is done. -/
theorem Inv.putF (hT : Tr' P E ro pl T Np) {k K : Nat} (hM : Mono T K) (hDK : ∀ j, D j → j + 1 ≤ K) (hkK : k + 1 ≤ K) (h : Inv pl T Np kind cs0 m0 w0 D s m c w cs) (hk : k < Np) (hsk : s ≤ k) (hnd : ¬ D k) (hr : pl.Ready D k) (hf : (pl.flt k).isSome = true)
    {m' : Mp} {w' : World} {v v' : Value} (ha : (T (k + 1)).a = (T k).a.put (pl.op k).dst v)
    (hw1 : ∀ j, j < w.heap.size → w'.heap[j]? = w.heap[j]?) (hw2 : w.heap.size ≤ w'.heap.size) (hw3 : w'.os = w.os) (hw4 : w'.tape = w.tape) (hw5 : w'.output = w.output)
    (c1 : ∀ b e, m b = some e → m' b = some e)
    (c2 : ∀ b e, m' b = some e → m b = some e ∨ (b = (T k).σ.next ∧ (T k).σ.next < (T (k + 1)).σ.next ∧ e.ro = false ∧ w.heap.size ≤ e.blk ∧ e.blk < w'.heap.size ∧
      ∀ ent, (T (k + 1)).σ.heap.get (T k).σ.next = some ent → ent.ro = false ∧ Sync (m'.cut (T (k + 1)).σ.next) ent.obj ent.fz e w'))
    (c3 : VRel (m'.cut (T (k + 1)).σ.next) v v') : Inv pl T Np kind cs0 m0 w0 (Pl.ins D k) s m' (c.put (pl.op k).dst v') w' cs := by
  have hle := hT.le
  have hnk := (hM s k hsk (by omega)).next
  -- the pieces of memory of movable operations are apart
  have hnxne : ∀ j, D j → (T j).σ.next < (T (j + 1)).σ.next → (T k).σ.next < (T (k + 1)).σ.next → (T j).σ.next ≠ (T k).σ.next := fun j hj h1 h2 heq => by
    have hjk : j ≠ k := fun x => hnd (x ▸ hj)
    by_cases hlt : j < k
    · have := (hM (j + 1) k (by omega) (by omega)).next
      omega
    · have := (hM (k + 1) j (by omega) (by have := hDK j hj; omega)).next
      omega
  have hnone : (T k).σ.next < (T (k + 1)).σ.next → m (T k).σ.next = none := fun hp => by
    cases hm : m (T k).σ.next with
    | none => rfl
    | some e =>
      rcases h.dom _ e hm with h1 | ⟨j, h1, h2, h3, h4⟩
      · omega
      · exact absurd h3.symm (hnxne j h1 h4 hp)
  have hcutEq : m'.cut (T s).σ.next = m.cut (T s).σ.next := by
    funext b
    unfold Mp.cut
    by_cases hb : b < (T s).σ.next
    · rw [if_pos hb, if_pos hb]
      cases hm' : m' b with
      | some e =>
        rcases c2 b e hm' with h1 | ⟨h1, _⟩
        · exact h1.symm
        · omega
      | none =>
        cases hm : m b with
        | none => rfl
        | some e =>
          rw [c1 b e hm] at hm'
          cases hm'
    · rw [if_neg hb, if_neg hb]
  have hcut : ∀ x, (m.cut x).le (m'.cut x) := fun x => Mp.cut_mono (Nat.le_refl _) fun b e _ hm => c1 b e hm
  refine ⟨h.sN, fun j hj => ?_, fun j hj => .inr (h.low j hj), fun j hj hs => ?_, Pl.cl_ins h.cl hr, ?_, ?_, fun j hj hs hp e hm => ?_, fun b e hm => ?_, fun t => ?_, ?_, ?_, ?_, h.under, h.start, h.pin0⟩
  · rcases hj with rfl | hj
    · exact hk
    · exact h.dN j hj
  · rcases hj with rfl | hj
    · exact hf
    · exact h.high j hj hs
  · rw [hcutEq]
    exact h.rel.moreWorld hw1 hw2
  · rw [hcutEq]
    exact h.step.moreWorld hw1 hw2 hw3 hw4 hw5
  · by_cases hjk : j = k
    · subst hjk
      rcases c2 _ e hm with h1 | ⟨_, _, h3, h4, h5, h6⟩
      · rw [hnone hp] at h1
        cases h1
      · refine ⟨h3, Nat.le_trans h.step.size h4, h5, h6, fun b e' hb hm' => ?_⟩
        rcases c2 b e' hm' with h7 | ⟨h7, _⟩
        · have := h.blk h7
          omega
        · exact absurd h7 hb
    · have hj' : D j := hj.resolve_left hjk
      rcases c2 _ e hm with h1 | ⟨h1, h2, _⟩
      · obtain ⟨g1, g2, g3, g4, g5⟩ := h.fl j hj' hs hp e h1
        refine ⟨g1, g2, by omega, fun ent hg => ?_, fun b e' hb hm' => ?_⟩
        · obtain ⟨g6, g7⟩ := g4 ent hg
          exact ⟨g6, g7.keep (hcut _) (hw1 _ g3)⟩
        · rcases c2 b e' hm' with h7 | ⟨_, _, _, h7, _⟩
          · exact g5 b e' hb h7
          · omega
      · exact absurd h1 (hnxne j hj' hp h2)
  · rcases c2 b e hm with h1 | ⟨h1, h2, _⟩
    · rcases h.dom b e h1 with h3 | ⟨j, h3, h4⟩
      · exact .inl h3
      · exact .inr ⟨j, .inr h3, h4⟩
    · exact .inr ⟨k, .inl rfl, hsk, h1, h2⟩
  · by_cases hw : Wr pl T k t
    · refine .inl ⟨k, .inl rfl, hw, ?_⟩
      have h1 : (c.put (pl.op k).dst v').tmps.getD t undef = v' := by
        rw [hw.1]
        exact cput_eq c (by rw [h.size]; exact hw.2)
      rw [h1, ha, hw.1]
      rcases put_get_eq (T k).a (d := t) (v := v) (by rw [hT.nt k (by omega)]; exact hw.2) with h2 | h2
      · rw [h2]; exact c3
      · rw [h2]; exact .unknown _
    · have h1 : (c.put (pl.op k).dst v').tmps.getD t undef = c.tmps.getD t undef := cput_ne c (by rw [h.size]; exact hw)
      rw [h1]
      rcases h.slot t with ⟨j, hj, hwj, hv⟩ | ⟨hno, hv⟩
      · exact .inl ⟨j, .inr hj, hwj, hv.mono (hcut _)⟩
      · refine .inr ⟨fun j hj hwj => ?_, hv.mono (hcut _)⟩
        rcases hj with rfl | hj
        · exact hw hwj
        · exact hno j hj hwj
  · rw [(cput_size c _ _).1, h.size]
  · rw [hcutEq, (cput_size c _ _).2]
    exact h.defers
  · rw [hcutEq]
    exact h.urel

/-- One more that stands in order is done. -/
theorem Inv.putA (hT : Tr' P E ro pl T Np) {k K : Nat} (hM : Mono T K) (hDK : ∀ j, D j → j + 1 ≤ K) (hkK : k ≤ K) (h : Inv pl T Np kind cs0 m0 w0 D k m c w cs) (hk : k < Np) (hnd : ¬ D k) (hr : pl.Ready D k)
    {m' : Mp} {w' : World} {v v' : Value} {ds ds' : List Deferred} {cs' : List Frame} (ha : (T (k + 1)).a = (⟨(T k).a.loc, (T k).a.tmp, (T k).a.nl, (T k).a.nt, ds ++ (T k).a.defers⟩ : FAct).put (pl.op k).dst v)
    (hR : Rel Top m' (T (k + 1)).σ w') (hS : Step (T k).σ (T (k + 1)).σ (m.cut (T k).σ.next) m' w w') (hV : VRel m' v v') (hD : DLRel m' ds ds') (hU : URel m' (T (k + 1)).u kind cs') (hun : Under kind cs cs') :
    ∃ m2, Inv pl T Np kind cs0 m0 w0 (Pl.ins D k) (k + 1) m2 (({ c with defers := ds' ++ c.defers } : Act).put (pl.op k).dst v') w' cs' := by
  have hle := hT.le
  let m2 : Mp := fun b => if b < (T (k + 1)).σ.next then m' b else m b
  have hm2 : ∀ b, m2 b = if b < (T (k + 1)).σ.next then m' b else m b := fun _ => rfl
  have hc2 : m2.cut (T (k + 1)).σ.next = m' := by
    funext b
    unfold Mp.cut
    by_cases hb : b < (T (k + 1)).σ.next
    · rw [if_pos hb, hm2, if_pos hb]
    · rw [if_neg hb]
      cases hm' : m' b with
      | none => rfl
      | some e => exact absurd (hR.dom b e hm').1 hb
  have hnx := hS.next
  -- the pieces of the movable operations ahead
  have hahead : ∀ j, D j → k ≤ j → k < j ∧ (T (k + 1)).σ.next ≤ (T j).σ.next := fun j hj hkj => by
    have hjk : j ≠ k := fun x => hnd (x ▸ hj)
    exact ⟨by omega, (hM (k + 1) j (by omega) (by have := hDK j hj; omega)).next⟩
  -- what the map had it has
  have hm2le : ∀ b e, m b = some e → m2 b = some e := fun b e hm => by
    rw [hm2]
    by_cases hb : b < (T (k + 1)).σ.next
    · rw [if_pos hb]
      refine hS.le b e (Mp.cut_some.2 ⟨?_, hm⟩)
      rcases h.dom b e hm with h1 | ⟨j, h1, h2, h3, _⟩
      · exact h1
      · have := (hahead j h1 h2).2
        omega
    · rw [if_neg hb]
      exact hm
  have hcut : ∀ x, (m.cut x).le (m2.cut x) := fun x => Mp.cut_mono (Nat.le_refl _) fun b e _ hm => hm2le b e hm
  have hnt : (T k).a.nt = (T 0).a.nt := hT.nt k (by omega)
  refine ⟨m2, hk, fun j hj => ?_, fun j hj => ?_, fun j hj hs => ?_, Pl.cl_ins h.cl hr, by rw [hc2]; exact hR, by rw [hc2]; exact h.step.trans hS, fun j hj hs hp e hm => ?_, fun b e hm => ?_, fun t => ?_, ?_, ?_, by rw [hc2]; exact hU, h.under.trans hun, h.start, h.pin0⟩
  · rcases hj with rfl | hj
    · exact hk
    · exact h.dN j hj
  · by_cases hjk : j = k
    · exact .inl hjk
    · exact .inr (h.low j (by omega))
  · rcases hj with rfl | hj
    · omega
    · exact h.high j hj (by omega)
  · have hj' : D j := by
      rcases hj with rfl | hj
      · omega
      · exact hj
    have h1 := (hahead j hj' (by omega)).2
    have hm' : m (T j).σ.next = some e := by
      rw [hm2, if_neg (by omega)] at hm
      exact hm
    obtain ⟨g1, g2, g3, g4, g5⟩ := h.fl j hj' (by omega) hp e hm'
    have hsame : w'.heap[e.blk]? = w.heap[e.blk]? := hS.keep _ g3 fun b e' ent hb _ hbl _ => by
      rw [Mp.cut_some] at hb
      exact absurd hbl (g5 b e' (by omega) hb.2)
    refine ⟨g1, g2, Nat.lt_of_lt_of_le g3 hS.size, fun ent hg => ?_, fun b e' hb hmb => ?_⟩
    · obtain ⟨g6, g7⟩ := g4 ent hg
      exact ⟨g6, g7.keep (hcut _) hsame⟩
    · rw [hm2] at hmb
      by_cases hlt : b < (T (k + 1)).σ.next
      · rw [if_pos hlt] at hmb
        rcases hS.fresh b e' hmb with h2 | ⟨_, _, _, h2⟩
        · rw [Mp.cut_some] at h2
          exact g5 b e' hb h2.2
        · rcases h2 with h2 | ⟨b0, e0, ent0, k1, _, k3, _, _⟩
          · omega
          · rw [Mp.cut_some] at k1
            rw [← k3]
            exact g5 b0 e0 (by omega) k1.2
      · rw [if_neg hlt] at hmb
        exact g5 b e' hb hmb
  · rw [hm2] at hm
    by_cases hb : b < (T (k + 1)).σ.next
    · exact .inl hb
    · rw [if_neg hb] at hm
      rcases h.dom b e hm with h1 | ⟨j, h1, h2, h3, h4⟩
      · omega
      · exact .inr ⟨j, .inr h1, (hahead j h1 h2).1, h3, h4⟩
  · by_cases hw : Wr pl T k t
    · refine .inl ⟨k, .inl rfl, hw, ?_⟩
      have h1 : (({ c with defers := ds' ++ c.defers } : Act).put (pl.op k).dst v').tmps.getD t undef = v' := by
        rw [hw.1]
        exact cput_eq _ (by show t < c.tmps.size; rw [h.size]; exact hw.2)
      rw [h1, ha, hw.1, hc2]
      rcases put_get_eq (⟨(T k).a.loc, (T k).a.tmp, (T k).a.nl, (T k).a.nt, ds ++ (T k).a.defers⟩ : FAct) (d := t) (v := v) (by show t < (T k).a.nt; rw [hnt]; exact hw.2) with h2 | h2
      · rw [h2]; exact hV
      · rw [h2]; exact .unknown _
    · have h1 : (({ c with defers := ds' ++ c.defers } : Act).put (pl.op k).dst v').tmps.getD t undef = c.tmps.getD t undef := cput_ne _ (by show ¬ ((pl.op k).dst = some t ∧ t < c.tmps.size); rw [h.size]; exact hw)
      rw [h1]
      rcases h.slot t with ⟨j, hj, hwj, hv⟩ | ⟨hno, hv⟩
      · exact .inl ⟨j, .inr hj, hwj, hv.mono (hcut _)⟩
      · refine .inr ⟨fun j hj hwj => ?_, hv.mono (hcut _)⟩
        rcases hj with rfl | hj
        · exact hw hwj
        · exact hno j hj hwj
  · rw [(cput_size _ _ _).1]
    exact h.size
  · rw [hc2, (cput_size _ _ _).2, ha, (put_nt _ _ _).2]
    exact hD.append (h.defers.mono hS.le)
end
end Go.Eng
