/- Drawn regions: two stores exchanged, and the whole region. -/
import Derived.Test.YtaijefddfkcfhaaGreatDoorEngAD
namespace Go.Eng
open Go
variable [Pins]

omit [Pins] in
theorem put_heap (σ : FState) (b : Nat) (o : FObj) (fz : Option Nat) (x : Nat) : (σ.put b o fz).heap.get x = if x = b then some ⟨o, false, fz, σ.clock⟩ else σ.heap.get x := Tr.get_set _ _ _ _

omit [Pins] in
theorem fstore_inv {n : Nat} {p v : Value} {σ σ' : FState} (h : fstore n p v σ = .skip σ') : ∃ b off e c el c', p = .pointer (some ⟨b, off, none⟩) ∧ σ.heap.get b = some e ∧ e.obj = .cells c el ∧ e.ro = false ∧
    (notTuple v && Nat.beq (len (valCells v)) n && (valCells v).all oneCell) = true ∧ spliceN off (valCells v) c = some c' ∧ σ' = σ.put b (.cells c' el) e.fz := by
  unfold fstore at h
  split at h
  · rename_i b off
    cases hg : σ.heap.get b with
    | none => rw [hg] at h; cases h
    | some e =>
      rw [hg] at h
      simp only at h
      split at h
      · rename_i c el ho hro
        cases hc : (notTuple v && Nat.beq (len (valCells v)) n && (valCells v).all oneCell) with
        | false => rw [hc] at h; cases h
        | true =>
          rw [hc] at h
          simp only [cond_true] at h
          cases hs : spliceN off (valCells v) c with
          | none => rw [hs] at h; cases h
          | some c' =>
            rw [hs] at h
            cases h
            exact ⟨b, off, e, c, el, c', rfl, hg, ho, hro, rfl, hs, rfl⟩
      · cases h
  · cases h
omit [Pins] in
theorem fstore_of {n : Nat} {v : Value} {σ : FState} {b off : Nat} {e : Ent} {c c' : List Value} {el : TypeId} (hg : σ.heap.get b = some e) (ho : e.obj = .cells c el) (hro : e.ro = false)
    (hc : (notTuple v && Nat.beq (len (valCells v)) n && (valCells v).all oneCell) = true) (hs : spliceN off (valCells v) c = some c') : fstore n (.pointer (some ⟨b, off, none⟩)) v σ = .skip (σ.put b (.cells c' el) e.fz) := by
  obtain ⟨ob, rob, fzb, vb⟩ := e
  simp only at ho hro
  subst ho
  subst hro
  unfold fstore
  simp only [hg, hc, hs, cond_true]

/-- The same but for when it was written. -/
structure Like (ck : Nat) (σ σ' : FState) : Prop where
  next : σ'.next = σ.next
  clock : σ'.clock = σ.clock
  get : ∀ b, σ'.heap.get b = σ.heap.get b ∨ ∃ e e', σ.heap.get b = some e ∧ σ'.heap.get b = some e' ∧ e'.obj = e.obj ∧ e'.ro = e.ro ∧ e'.fz = e.fz ∧ ck ≤ e.ver ∧ ck ≤ e'.ver

theorem Like.rel {ck : Nat} {σ σ' : FState} {m : Mp} {w : World} (h : Like ck σ σ') (hr : Rel Top m σ' w) : Rel Top m σ w := by
  have up : ∀ b ent, σ.heap.get b = some ent → ∃ ent', σ'.heap.get b = some ent' ∧ ent'.obj = ent.obj ∧ ent'.ro = ent.ro ∧ ent'.fz = ent.fz := fun b ent hb => by
    rcases h.get b with h1 | ⟨e, e', h1, h2, h3, h4, h5, _⟩
    · exact ⟨ent, by rw [h1]; exact hb, rfl, rfl, rfl⟩
    · rw [hb] at h1
      cases h1
      exact ⟨e', h2, h3, h4, h5⟩
  refine ⟨fun b ent e _ hb hm => ?_, fun b b' ent ent' e e' hne hb hb' ha ha' hm hm' => ?_, fun b e hm => ?_, fun b ent hb => ?_, hr.pin⟩
  · obtain ⟨ent', h1, h2, h3, h4⟩ := up b ent hb
    obtain ⟨g1, g2⟩ := hr.sync b ent' e trivial h1 hm
    rw [h2, h4] at g2
    exact ⟨by rw [← h3]; exact g1, g2⟩
  · obtain ⟨e1, h1, h2, _, _⟩ := up b ent hb
    obtain ⟨e2, h1', h2', _, _⟩ := up b' ent' hb'
    exact hr.inj b b' e1 e2 e e' hne h1 h1' (by rw [h2]; exact ha) (by rw [h2']; exact ha') hm hm'
  · rw [← h.next]
    exact hr.dom b e hm
  · obtain ⟨e1, h1, _⟩ := up b ent hb
    rw [← h.next]
    exact hr.wf b e1 h1
omit [Pins] in
theorem Like.step {ck : Nat} {σ0 σ σ' : FState} {m m' : Mp} {w w' : World} (h : Like ck σ σ') (hck : σ0.clock ≤ ck) (hs : Step σ0 σ' m m' w w') : Step σ0 σ m m' w w' := by
  refine ⟨hs.le, by rw [← h.next]; exact hs.next, fun b e hb => ?_, hs.size, fun k hk hno => hs.keep k hk fun b e ent hm hro hbl hg => ?_, hs.os, hs.tape, hs.output, by rw [← h.clock]; exact hs.clock, fun b ent hb => ?_, fun b ent hb => ?_⟩
  · rcases hs.fresh b e hb with h1 | ⟨h1, h2, h3, h4⟩
    · exact .inl h1
    · refine .inr ⟨h1, h2, h3, h4.imp id ?_⟩
      rintro ⟨b0, e0, ent0, k1, k2, k3, k4, k5⟩
      rcases h.get b0 with g | ⟨e1, e2, g1, g2, _, _, _, g6, g7⟩
      · exact ⟨b0, e0, ent0, k1, k2, k3, by rw [← g]; exact k4, k5⟩
      · exact ⟨b0, e0, e1, k1, k2, k3, g1, by omega⟩
  · rcases h.get b with g | ⟨e1, e2, g1, g2, _, _, _, g6, g7⟩
    · exact hno b e ent hm hro hbl (by rw [← g]; exact hg)
    · have := hno b e e1 hm hro hbl g1
      omega
  · rcases h.get b with g | ⟨e1, e2, g1, g2, _, _, _, g6, g7⟩
    · exact hs.ver b ent (by rw [g]; exact hb)
    · rw [hb] at g1
      cases g1
      exact .inr (by omega)
  · obtain ⟨ent', h1⟩ := hs.has b ent hb
    rcases h.get b with g | ⟨e1, e2, g1, g2, _, _, _, g6, g7⟩
    · exact ⟨ent', by rw [← g]; exact h1⟩
    · exact ⟨e1, g1⟩

omit [Pins] in
theorem splice_comm {α : Type} {o o' : Nat} {x y c c1 c2 : List α} (h1 : spliceN o x c = some c1) (h2 : spliceN o' y c1 = some c2) (hd : o' + y.length ≤ o ∨ o + x.length ≤ o') : ∃ d, spliceN o' y c = some d ∧ spliceN o x d = some c2 := by
  rw [spliceN_eq] at h1 h2
  by_cases g1 : o + x.length ≤ c.length
  · rw [if_pos g1] at h1
    simp only [Option.some.injEq] at h1
    have l1 : c1.length = c.length := by
      rw [← h1]
      simp
      omega
    by_cases g2 : o' + y.length ≤ c1.length
    · rw [if_pos g2] at h2
      simp only [Option.some.injEq] at h2
      have g3 : o' + y.length ≤ c.length := by omega
      refine ⟨c.take o' ++ y ++ c.drop (o' + y.length), by rw [spliceN_eq, if_pos g3], ?_⟩
      have l2 : (c.take o' ++ y ++ c.drop (o' + y.length)).length = c.length := by
        simp
        omega
      rw [spliceN_eq, if_pos (by omega)]
      congr 1
      rw [← h2]
      apply List.ext_getElem?
      intro i
      rw [getElem?_splice (by omega), getElem?_splice g3, getElem?_splice g2, ← h1, getElem?_splice g1]
      split
      · split
        · rfl
        · split
          · rfl
          · rfl
      · split
        · split
          · rfl
          · split
            · omega
            · rfl
        · split
          · rfl
          · split
            · rfl
            · rfl
    · rw [if_neg g2] at h2
      cases h2
  · rw [if_neg g1] at h1
    cases h1

omit [Pins] in
theorem fstore_comm {nA nB : Nat} {pA pB vA vB : Value} {σ σ1 σ2 : FState} (h1 : fstore nB pB vB σ = .skip σ1) (h2 : fstore nA pA vA σ1 = .skip σ2) (hd : apartP nA nB pA pB = true) :
    ∃ σ1' σ2', fstore nA pA vA σ = .skip σ1' ∧ fstore nB pB vB σ1' = .skip σ2' ∧ Like σ.clock σ2 σ2' := by
  obtain ⟨b, o, e, c, el, c1, rfl, hg, ho, hro, hc, hs, rfl⟩ := fstore_inv h1
  obtain ⟨b', o', e', c', el', c2, rfl, hg', ho', hro', hc', hs', rfl⟩ := fstore_inv h2
  have hlB : (valCells vB).length = nB := by
    simp only [Bool.and_eq_true, Nat.beq_eq, len_eq] at hc
    exact hc.1.2
  have hlA : (valCells vA).length = nA := by
    simp only [Bool.and_eq_true, Nat.beq_eq, len_eq] at hc'
    exact hc'.1.2
  have hd' : b' ≠ b ∨ o' + nA ≤ o ∨ o + nB ≤ o' := by
    have hq : (!Nat.beq b' b || Nat.ble (o' + nA) o || Nat.ble (o + nB) o') = true := hd
    simp only [Bool.or_eq_true, Bool.not_eq_true', Nat.ble_eq] at hq
    rcases hq with (hq | hq) | hq
    · left
      intro hx
      subst hx
      rw [beq_t] at hq
      cases hq
    · exact .inr (.inl hq)
    · exact .inr (.inr hq)
  by_cases hb : b' = b
  · subst hb
    rw [put_heap, if_pos rfl] at hg'
    cases hg'
    simp only [FObj.cells.injEq] at ho'
    obtain ⟨rfl, rfl⟩ := ho'
    obtain ⟨d, k1, k2⟩ := splice_comm hs hs' (by
      rcases hd' with h | h | h
      · exact absurd rfl h
      · exact .inl (by omega)
      · exact .inr (by omega))
    refine ⟨_, _, fstore_of hg ho hro hc' k1, fstore_of (e := ⟨.cells d el, false, e.fz, σ.clock⟩) (by rw [put_heap, if_pos rfl]) rfl rfl hc k2, ⟨rfl, rfl, fun x => .inl ?_⟩⟩
    simp only [put_heap]
    by_cases hx : x = b'
    · simp [hx]
      rfl
    · simp [hx]
  · rw [put_heap, if_neg hb] at hg'
    refine ⟨_, _, fstore_of hg' ho' hro' hc' hs', fstore_of (e := e) (by rw [put_heap, if_neg (fun x => hb x.symm)]; exact hg) ho hro hc hs, ⟨rfl, rfl, fun x => ?_⟩⟩
    simp only [put_heap]
    by_cases hx : x = b
    · have hxb : ¬ x = b' := fun h => hb (by rw [← h, hx])
      right
      rw [if_neg hxb, if_pos hx, if_pos hx]
      exact ⟨_, _, rfl, rfl, rfl, rfl, rfl, Nat.le_refl _, Nat.le_succ _⟩
    · by_cases hx' : x = b'
      · right
        rw [if_pos hx', if_neg hx, if_pos hx']
        exact ⟨_, _, rfl, rfl, rfl, rfl, rfl, Nat.le_succ _, Nat.le_refl _⟩
      · left
        rw [if_neg hx', if_neg hx, if_neg hx, if_neg hx']

omit [Pins] in
theorem cop_store {P : Program} {t : TypeId} {x v : Operand} {n : Nat} (h : sizeOfT P t = some n) (a : FAct) (σ : FState) : (cop P (.store t x v)).un a σ = fstore n ((cget x).un a) ((cget v).un a) σ := by
  simp only [cop, h]

/-- A store, behind it operations that lay no memory, and last a store that may overtake it. -/
structure Sw (P : Program) {ops : Array Oper} (pl : Pl ops) (T : Nat → TS) (Np B A : Nat) where
  np : Np = pl.N
  N : A + 1 = pl.N
  lt : B < A
  tB : TypeId
  xB : Operand
  vB : Operand
  nB : Nat
  tA : TypeId
  xA : Operand
  vA : Operand
  nA : Nat
  opB : (pl.op B).op = .store tB xB vB
  gB : (pl.op B).guard = none
  dB : (pl.op B).dst = none
  fB : pl.flt B = none
  szB : sizeOfT P tB = some nB
  opA : (pl.op A).op = .store tA xA vA
  gA : (pl.op A).guard = none
  dA : (pl.op A).dst = none
  fA : pl.flt A = none
  szA : sizeOfT P tA = some nA
  mid : ∀ j, B < j → j < A → (pl.flt j).isSome = true
  next : (T A).σ.next = (T (B + 1)).σ.next
  stB : fstore nB ((cget xB).un (T B).a) ((cget vB).un (T B).a) (T B).σ = .skip (T (B + 1)).σ
  aB : (T (B + 1)).a = (T B).a
  uB : (T (B + 1)).u = (T B).u
  stA : fstore nA ((cget xA).un (T A).a) ((cget vA).un (T A).a) (T A).σ = .skip (T (A + 1)).σ
  aA : (T (A + 1)).a = (T A).a
  uA : (T (A + 1)).u = (T A).u
  apart : apartP nA nB ((cget xA).un (T A).a) ((cget xB).un (T B).a) = true

section
variable {P : Program} {E : Env} {ro : Option Nat} {ops : Array Oper} {pl : Pl ops} {T : Nat → TS} {Np : Nat} {b : Frame} {k' : List Item} {rest : List Nat} {cs0 : List Frame} {m0 : Mp} {w0 : World} {D : Nat → Prop} {s : Nat} {m : Mp} {c : Act} {w : World} {cs : List Frame} {A B : Nat}

omit [Pins] in
theorem Sw.flat (hT : Tr' P E ro pl T Np) (hM : Mono T Np) (sw : Sw P pl T Np B A) : (T A).σ = (T (B + 1)).σ ∧ (T A).u = (T B).u ∧ (T A).a.defers = (T B).a.defers := by
  have hle := hT.le
  have h1 := sw.np
  have h2 := sw.N
  have h3 := sw.lt
  have key : ∀ j, B + 1 ≤ j → j ≤ A → (T j).σ = (T (B + 1)).σ ∧ (T j).u = (T B).u ∧ (T j).a.defers = (T B).a.defers := by
    intro j
    induction j with
    | zero => intro h; omega
    | succ j ih =>
      intro hj hA
      by_cases hjB : j = B
      · subst hjB
        exact ⟨rfl, sw.uB, by rw [sw.aB]⟩
      · obtain ⟨g1, g2, g3⟩ := ih (by omega) (by omega)
        have hf := sw.mid j (by omega) (by omega)
        obtain ⟨k1, k2, k3⟩ := (hT.st j (by omega)).flt hf (pl.isf j (by omega) hf)
        refine ⟨?_, k1.trans g2, k2.trans g3⟩
        rcases k3 with k3 | ⟨ob, fz, k3⟩
        · rw [k3, g1]
        · have := (hM (j + 1) A hA (by omega)).next
          rw [sw.next, k3, ← g1] at this
          have h5 : ((T j).σ.push ob fz).next = (T j).σ.next + 1 := rfl
          omega
  exact key A (by omega) (Nat.le_refl _)

/-- All but B are done. -/
structure InvA (sw : Sw P pl T Np B A) (kind : CallKind) (cs0 : List Frame) (m0 : Mp) (w0 : World) (D : Nat → Prop) (m : Mp) (c : Act) (w : World) (cs : List Frame) : Prop where
  all : ∀ j, j < pl.N → j ≠ B → D j
  nB : ¬ D B
  mem : ∃ σ1 σ2, Rel Top m σ1 w ∧ Step (T 0).σ σ1 m0 m w0 w ∧ fstore sw.nB ((cget sw.xB).un (T B).a) ((cget sw.vB).un (T B).a) σ1 = .skip σ2 ∧ Like (T B).σ.clock (T (A + 1)).σ σ2
  look : ∃ ds, ActRel m (poison ((pl.op B).looksAt ops) (T B).a ds) c
  slots : ActRel m (T (A + 1)).a c
  urel : URel m (T (A + 1)).u kind cs
  under : Under kind cs0 cs

theorem Inv.pickSwap (hok : pl.Ok) (hT : Tr' P E ro pl T Np) (hM : Mono T Np) (h : Inv pl T Np b.kind cs0 m0 w0 D s m c w cs) (sw : Sw P pl T Np B A) (hr : pl.Ready D A) (hndA : ¬ D A) (hndB : ¬ D B) (hD : ∀ j, j < A → j ≠ B → D j) :
    ∃ m' w', InvA sw b.kind cs0 m0 w0 (Pl.ins D A) m' c w' cs ∧ St P (lone (b.atR c (.inRegion ops (pl.ix A :: rest) :: k')) cs w) (lone (b.atR c (.inRegion ops rest :: k')) cs w') := by
  have hle := hT.le
  have q1 := sw.np
  have q2 := sw.N
  have q3 := sw.lt
  have hsB : s ≤ B := Nat.le_of_not_lt fun hlt => hndB (h.low B hlt)
  have h1 := h.absorbTo hT (hM.le (K' := B) (by omega)) hsB fun j hj => hD j (by omega) (by omega)
  obtain ⟨hσ, hu, hdf⟩ := sw.flat hT hM
  have hnxB : (T (B + 1)).σ.next = (T B).σ.next := by
    obtain ⟨_, _, _, _, _, _, _, _, _, _, _, _, h2⟩ := fstore_inv sw.stB
    rw [h2]
    rfl
  have hnxA : (T A).σ.next = (T B).σ.next := by rw [sw.next, hnxB]
  have hrB : pl.Ready D B := fun e he hb j hj heq => by
    obtain ⟨j2, g1, g2⟩ := pl.bind B (by omega) e he hb
    have := pl.inj j hj j2 (by omega) (by rw [heq, g2])
    exact hD j (by omega) (by omega)
  have hlA := h1.look hok hT (hM.le (K' := A) (by omega)) (by omega) (by omega) (by omega) hr hndA
  have hlB := h1.look hok hT (hM.le (K' := B) (by omega)) (by omega) (by omega) (Nat.le_refl _) hrB hndB
  rw [hnxA] at hlA
  have hstA := sw.stA
  rw [hσ] at hstA
  obtain ⟨σ1, σ2, k1, k2, k3⟩ := fstore_comm sw.stB hstA sw.apart
  have hcop : (cop P (pl.op A).op).un (T A).a (T B).σ = .skip σ1 := by
    rw [sw.opA, cop_store sw.szA]
    exact k1
  have hO := cop_sound (P := P) h1.rel hlA (pl.op A)
  rw [← cop_poison, hcop] at hO
  obtain ⟨m', w', hrun, hR, hS⟩ := hO
  have hstep := skip_step (b := b) (k' := k') (rest := rest) (cs := cs) (pl.hop A (by omega)) (by simp [Region.wanted, sw.gA]) (fun cc hx => by rw [sw.opA] at hx; cases hx) hrun
  rw [sw.dA] at hstep
  have hmono : ∀ i, i ≤ A → (m.cut (T i).σ.next).le m' := fun i hi x e hx => by
    refine hS.le x e ?_
    rw [Mp.cut_some] at hx ⊢
    have := (hM i A hi (by omega)).next
    exact ⟨by omega, hx.2⟩
  have hdone : ∀ j, D j → j < A := fun j hj => by
    have := h.dN j hj
    have hne : j ≠ A := fun x => hndA (x ▸ hj)
    omega
  refine ⟨m', w', ⟨fun j hj hne => ?_, fun hx => ?_, ⟨σ1, σ2, hR, h1.step.trans hS, k2, k3⟩, ⟨_, hlB.mono hS.le⟩, ⟨⟨?_, fun t => ?_⟩, ?_⟩, ?_, h1.under⟩, hstep⟩
  · by_cases hjA : j = A
    · exact .inl hjA
    · exact .inr (hD j (by omega) hne)
  · rcases hx with hx | hx
    · omega
    · exact hndB hx
  · rw [h1.size]
    exact (hT.nt (A + 1) (by omega)).symm
  · show VRel m' ((T (A + 1)).a.get t) _
    rw [sw.aA]
    rcases h1.slot t with ⟨j, hj, hw, hv⟩ | ⟨hno, hv⟩
    · have hjA := hdone j hj
      rw [hT.get (i := j + 1) (j := A) (by omega) (by omega) fun i g1 g2 g3 => by
        have := Wr.uniq (pl := pl) (T := T) (by omega) (by omega) g3 hw
        omega]
      exact hv.mono (hmono (j + 1) (by omega))
    · rw [hT.get (i := 0) (j := A) (by omega) (by omega) fun i _ g2 g3 => by
        by_cases hiB : i = B
        · subst hiB
          have := g3.1
          rw [sw.dB] at this
          cases this
        · exact hno i (hD i g2 hiB) g3]
      exact hv.mono (hmono 0 (by omega))
  · rw [sw.aA]
    rw [hdf]
    exact h1.defers.mono hS.le
  · rw [sw.uA, hu]
    exact h1.urel.mono hS.le

/-- All is done. -/
structure Fin' (pl : Pl ops) (T : Nat → TS) (kind : CallKind) (cs0 : List Frame) (m0 : Mp) (w0 : World) (D : Nat → Prop) (m : Mp) (c : Act) (w : World) (cs : List Frame) : Prop where
  all : ∀ j, j < pl.N → D j
  rel : Rel Top m (T pl.N).σ w
  step : Step (T 0).σ (T pl.N).σ m0 m w0 w
  slots : ActRel m (T pl.N).a c
  urel : URel m (T pl.N).u kind cs
  under : Under kind cs0 cs

theorem InvA.pick (hT : Tr' P E ro pl T Np) (hM : Mono T Np) (sw : Sw P pl T Np B A) (h : InvA sw b.kind cs0 m0 w0 D m c w cs) :
    ∃ m' w', Fin' pl T b.kind cs0 m0 w0 (Pl.ins D B) m' c w' cs ∧ St P (lone (b.atR c (.inRegion ops (pl.ix B :: rest) :: k')) cs w) (lone (b.atR c (.inRegion ops rest :: k')) cs w') := by
  have hle := hT.le
  have q1 := sw.np
  have q2 := sw.N
  have q3 := sw.lt
  obtain ⟨σ1, σ2, hR1, hS1, k2, k3⟩ := h.mem
  obtain ⟨ds, hl⟩ := h.look
  have hcop : (cop P (pl.op B).op).un (T B).a σ1 = .skip σ2 := by
    rw [sw.opB, cop_store sw.szB]
    exact k2
  have hO := cop_sound (P := P) hR1 hl (pl.op B)
  rw [← cop_poison, hcop] at hO
  obtain ⟨m', w', hrun, hR, hS⟩ := hO
  have hstep := skip_step (b := b) (k' := k') (rest := rest) (cs := cs) (pl.hop B (by omega)) (by simp [Region.wanted, sw.gB]) (fun cc hx => by rw [sw.opB] at hx; cases hx) hrun
  rw [sw.dB] at hstep
  have hck := (hM 0 B (Nat.zero_le _) (by omega)).clock
  have hrel := k3.rel hR
  have hst := k3.step hck (hS1.trans hS)
  rw [q2] at hrel hst
  have hsl := h.slots.mono hS.le
  have hur := h.urel.mono hS.le
  rw [q2] at hsl hur
  refine ⟨m', w', ⟨fun j hj => ?_, hrel, hst, hsl, hur, h.under⟩, hstep⟩
  by_cases hjB : j = B
  · exact .inl hjB
  · exact .inr (h.all j hj hjB)

/-- How the reading's way ends. -/
def EndOK (P : Program) (E : Env) (ro : Option Nat) {ops : Array Oper} (pl : Pl ops) (T : Nat → TS) (Np : Nat) (r : KRes) : Prop :=
  (Np = pl.N ∧ r = .done .normal (T pl.N).a (T pl.N).u (T pl.N).σ) ∨
    (Np < pl.N ∧ pl.flt Np = none ∧ (∀ j, Np < j → j < pl.N → pl.Needs j Np) ∧ (cguard ops (pl.op Np).guard).un (T Np).a = some true ∧
      ∃ e a' u' σ', e ≠ .normal ∧ stepOp E ro (pl.op Np).dst (T Np).a (T Np).u ((cop P (pl.op Np).op).un (T Np).a (T Np).σ) = .done e a' u' σ' ∧ r = .done e a' u' σ')

/-- How many are left. -/
def left (listed : Array Bool) : Nat → Nat
  | 0 => 0
  | n + 1 => left listed n + (if listed.getD n true then 0 else 1)
omit [Pins] in
theorem left_le (listed : Array Bool) (n : Nat) : left listed n ≤ n := by
  induction n with
  | zero => exact Nat.le_refl _
  | succ n ih =>
    unfold left
    split <;> omega
omit [Pins] in
theorem left_set {listed : Array Bool} {i : Nat} (hi : listed.getD i true = false) : ∀ n, left (listed.setIfInBounds i true) n + (if i < n then 1 else 0) = left listed n
  | 0 => rfl
  | n + 1 => by
    have ih := left_set hi n
    have e : ∀ x : Array Bool, left x (n + 1) = left x n + (if x.getD n true then 0 else 1) := fun _ => rfl
    rw [e, e]
    by_cases hin : i = n
    · subst hin
      have hlt : i < listed.size := by
        rcases Nat.lt_or_ge i listed.size with h | h
        · exact h
        · simp [Array.getElem?_eq_none h] at hi
      have h1 : (listed.setIfInBounds i true).getD i true = true := by simp [hlt]
      rw [h1, hi]
      simp at ih ⊢
      omega
    · rw [getD_set_ne true hin]
      by_cases hlt : i < n
      · rw [if_pos hlt] at ih
        rw [if_pos (show i < n + 1 by omega)]
        omega
      · rw [if_neg hlt] at ih
        rw [if_neg (show ¬ i < n + 1 by omega)]
        omega
omit [Pins] in
theorem left_zero {listed : Array Bool} : ∀ n, left listed n = 0 → ∀ i, i < n → listed.getD i true = true
  | 0, _, i, hi => absurd hi (Nat.not_lt_zero _)
  | n + 1, h, i, hi => by
    unfold left at h
    by_cases hin : i = n
    · subst hin
      cases hq : listed.getD i true with
      | true => rfl
      | false => rw [hq] at h; simp at h
    · exact left_zero n (by omega) i (by omega)

def Dof (pl : Pl ops) (listed : Array Bool) : Nat → Prop := fun k => k < pl.N ∧ listed.getD (pl.ix k) false = true

omit [Pins] in
theorem Dof_set {listed : Array Bool} {k : Nat} (hk : k < pl.N) (hsz : listed.size = ops.size) : Dof pl (listed.setIfInBounds (pl.ix k) true) = Pl.ins (Dof pl listed) k := by
  have hlt : pl.ix k < listed.size := by
    rw [hsz]
    exact (Array.getElem?_eq_some_iff.1 (pl.hop k hk)).1
  funext j
  apply propext
  unfold Dof Pl.ins
  constructor
  · rintro ⟨h1, h2⟩
    by_cases hjk : j = k
    · exact .inl hjk
    · right
      rw [getD_set_ne false (fun x => hjk (pl.inj k hk j h1 x).symm)] at h2
      exact ⟨h1, h2⟩
  · rintro (rfl | ⟨h1, h2⟩)
    · exact ⟨hk, by simp [hlt]⟩
    · exact ⟨h1, getD_set_true h2⟩

theorem draw_go (hE : EnvOK P E) (hok : pl.Ok) (hT : Tr' P E ro pl T Np) (hro : RoRel m0 ro b) (hM : Mono T Np) {r : KRes} (hend : EndOK P E ro pl T Np r)
    (hanch : ∀ k, k < pl.N → k ≤ Np → pl.flt k = none → ∀ j, j < k → pl.Needs k j ∨ Nonempty (Sw P pl T Np j k)) :
    ∀ (fuel t : Nat) (listed : Array Bool) (m : Mp) (c : Act) (w : World) (cs : List Frame), listed.size = ops.size → left listed ops.size ≤ fuel →
      ((∃ s, Inv pl T Np b.kind cs0 m0 w0 (Dof pl listed) s m c w cs) ∨ (∃ B A, ∃ sw : Sw P pl T Np B A, InvA sw b.kind cs0 m0 w0 (Dof pl listed) m c w cs) ∨ (Np = pl.N ∧ Fin' pl T b.kind cs0 m0 w0 (Dof pl listed) m c w cs)) →
      KOK P m0 (T 0).σ w0 b k' cs0 (lone (b.atR c (.inRegion ops (Region.linearise.go .any ops fuel t listed []) :: k')) cs w) r := by
  have hle := hT.le
  -- the end of the list
  have done : ∀ (listed : Array Bool) (m : Mp) (c : Act) (w : World) (cs : List Frame), (∀ k, k < pl.N → Dof pl listed k) →
      ((∃ s, Inv pl T Np b.kind cs0 m0 w0 (Dof pl listed) s m c w cs) ∨ (∃ B A, ∃ sw : Sw P pl T Np B A, InvA sw b.kind cs0 m0 w0 (Dof pl listed) m c w cs) ∨ (Np = pl.N ∧ Fin' pl T b.kind cs0 m0 w0 (Dof pl listed) m c w cs)) →
      KOK P m0 (T 0).σ w0 b k' cs0 (lone (b.atR c (.inRegion ops [] :: k')) cs w) r := fun listed m c w cs hall h => by
    rcases h with ⟨s, h⟩ | ⟨B, A, sw, h⟩ | ⟨hNp, h⟩
    · rcases hend with ⟨hNp, rfl⟩ | ⟨hNp, _⟩
      · have := h.fin (k' := k') hT hM fun j hj => hall j (by omega)
        rw [hNp] at this
        exact this
      · exact absurd (h.dN Np (hall Np hNp)) (Nat.lt_irrefl _)
    · have h1 := sw.N
      have h2 := sw.lt
      exact absurd (hall B (by omega)) h.nB
    · rcases hend with ⟨_, rfl⟩ | ⟨hlt, _⟩
      · exact ⟨m, w, .normal, c, cs, h.rel, h.step, .normal, h.slots, h.urel, h.under, .one trivial stepR_region_end⟩
      · omega
  intro fuel
  induction fuel with
  | zero =>
    intro t listed m c w cs hsz hleft h
    refine done listed m c w cs (fun k hk => ⟨hk, ?_⟩) h
    have hlt : pl.ix k < ops.size := (Array.getElem?_eq_some_iff.1 (pl.hop k hk)).1
    have := left_zero (listed := listed) ops.size (by omega) (pl.ix k) hlt
    rw [Array.getD_eq_getD_getElem?] at this ⊢
    cases hq : listed[pl.ix k]? with
    | none =>
      rw [Array.getElem?_eq_none_iff] at hq
      omega
    | some x =>
      rw [hq] at this
      exact this
  | succ fuel ih =>
    intro t listed m c w cs hsz hleft h
    simp only [Region.linearise.go]
    change KOK P m0 (T 0).σ w0 b k' cs0 (lone (b.atR c (.inRegion ops (match (Region.ready .any ops listed)[t % (Region.ready .any ops listed).length]? with
      | some i => Region.linearise.go .any ops fuel (t / (Region.ready .any ops listed).length) (listed.setIfInBounds i true) [i]
      | none => [].reverse) :: k')) cs w) r
    cases hi : (Region.ready .any ops listed)[t % (Region.ready .any ops listed).length]? with
    | none =>
      have hnil : Region.ready .any ops listed = [] := by
        cases hr : Region.ready .any ops listed with
        | nil => rfl
        | cons x xs =>
          rw [hr] at hi
          have hlt : t % (x :: xs).length < (x :: xs).length := Nat.mod_lt _ (by simp)
          simp at hi
          simp at hlt
          omega
      refine done listed m c w cs ?_ h
      -- the first that is not done would be ready
      intro k
      induction k using Nat.strongRecOn with
      | ind k ihk =>
        intro hk
        refine ⟨hk, ?_⟩
        cases hq : listed.getD (pl.ix k) false with
        | true => rfl
        | false =>
          have hlt : pl.ix k < ops.size := (Array.getElem?_eq_some_iff.1 (pl.hop k hk)).1
          have : pl.ix k ∈ Region.ready .any ops listed := by
            rw [mem_ready]
            refine ⟨?_, pl.op k, pl.hop k hk, fun e he hb => ?_⟩
            · rw [Array.getD_eq_getD_getElem?] at hq ⊢
              cases hz : listed[pl.ix k]? with
              | none =>
                rw [Array.getElem?_eq_none_iff] at hz
                omega
              | some x =>
                rw [hz] at hq
                exact hq
            · obtain ⟨j, hj, hje⟩ := pl.bind k hk e he hb
              rw [← hje]
              exact (ihk j hj (by omega)).2
          rw [hnil] at this
          cases this
    | some i =>
      simp only []
      rw [linearise_go_acc, List.reverse_singleton, List.singleton_append]
      have hmem : i ∈ Region.ready .any ops listed := List.mem_of_getElem? hi
      rw [mem_ready] at hmem
      obtain ⟨hnl, o, hoi, hafter⟩ := hmem
      have hilt : i < ops.size := (Array.getElem?_eq_some_iff.1 hoi).1
      obtain ⟨k, hk, rfl⟩ := pl.all i hilt
      have hopk : pl.op k = o := by
        have := pl.hop k hk
        rw [hoi] at this
        exact (Option.some.inj this).symm
      have hnd : ¬ Dof pl listed k := fun hx => by
        have h1 := hx.2
        rw [Array.getD_eq_getD_getElem?] at h1 hnl
        cases hz : listed[pl.ix k]? with
        | none => rw [hz] at h1; cases h1
        | some x =>
          rw [hz] at h1 hnl
          simp at h1 hnl
          rw [h1] at hnl
          cases hnl
      have hr : pl.Ready (Dof pl listed) k := fun e he hb j hj heq => ⟨hj, by
        rw [heq]
        rw [hopk] at he
        exact hafter e he hb⟩
      have hleft' : left (listed.setIfInBounds (pl.ix k) true) ops.size ≤ fuel := by
        have := left_set hnl ops.size
        rw [if_pos hilt] at this
        omega
      have hsz' : (listed.setIfInBounds (pl.ix k) true).size = ops.size := by simp [hsz]
      have next := fun (m : Mp) (c : Act) (w : World) (cs : List Frame) => ih (t / (Region.ready .any ops listed).length) (listed.setIfInBounds (pl.ix k) true) m c w cs hsz' hleft'
      rw [Dof_set hk hsz] at next
      rcases h with ⟨s, h⟩ | ⟨B, A, sw, h⟩ | ⟨hNp, h⟩
      · have hkNp : k ≤ Np := Nat.le_of_not_lt fun hlt => by
          rcases hend with ⟨hNp, _⟩ | ⟨hNp, _, hneeds, _⟩
          · omega
          · rcases Pl.needs_ready h.cl hr (hneeds k hlt hk) with h1 | h1
            · omega
            · exact absurd (h.dN Np h1) (Nat.lt_irrefl _)
        cases hf : pl.flt k with
        | some q =>
          have hlt : k < Np := by
            rcases Nat.lt_or_ge k Np with h1 | h1
            · exact h1
            · have hkeq : k = Np := by omega
              rcases hend with ⟨hNp, _⟩ | ⟨hNp, hfN, _⟩
              · omega
              · rw [hkeq, hfN] at hf
                cases hf
          have hsk : s ≤ k := Nat.le_of_not_lt fun hlt => hnd (h.low k hlt)
          obtain ⟨m', c', w', h1, h2⟩ := h.pickF (b := b) (k' := k') (rest := Region.linearise.go .any ops fuel (t / (Region.ready .any ops listed).length) (listed.setIfInBounds (pl.ix k) true) []) hok hT hM (fun j hj => h.dN j hj) hlt hlt hsk hnd hr (by rw [hf]; rfl)
          exact KOK.from (.refl _ _ _) (.refl _ _) h2 (next m' c' w' cs (.inl ⟨s, h1⟩))
        | none =>
          by_cases hall : ∀ j, j < k → Dof pl listed j
          · have hsk : s ≤ k := Nat.le_of_not_lt fun hlt => hnd (h.low k hlt)
            have h1 := h.absorbTo hT (hM.le hkNp) hsk hall
            rcases Nat.lt_or_ge k Np with hlt | hge
            · obtain ⟨⟨m', c', w', cs', h2, h3⟩, _⟩ := h1.pickA (b := b) (k' := k') (rest := Region.linearise.go .any ops fuel (t / (Region.ready .any ops listed).length) (listed.setIfInBounds (pl.ix k) true) []) hE hok hT hro hM (fun j hj => h.dN j hj) hkNp hlt hnd hr hf
              exact KOK.from (.refl _ _ _) (.refl _ _) h3 (next m' c' w' cs' (.inl ⟨_, h2⟩))
            · have hkeq : k = Np := by omega
              subst hkeq
              rcases hend with ⟨hNp, _⟩ | ⟨_, _, _, hg, e, a', u', σ', he, hs, rfl⟩
              · omega
              · exact h1.pickP hE hok hT hro hM hk hnd hr hg he hs
          · have hex : ∃ j, j < k ∧ ¬ Dof pl listed j := Classical.byContradiction fun hno => hall fun j hj => Classical.byContradiction fun hd => hno ⟨j, hj, hd⟩
            obtain ⟨j, hj, hjd⟩ := hex
            rcases hanch k hk hkNp hf j hj with hn | ⟨⟨sw⟩⟩
            · rcases Pl.needs_ready h.cl hr hn with h1 | h1
              · omega
              · exact absurd h1 hjd
            · have hD : ∀ i, i < k → i ≠ j → Dof pl listed i := fun i hik hij => by
                rcases hanch k hk hkNp hf i hik with hn | ⟨⟨sw'⟩⟩
                · rcases Pl.needs_ready h.cl hr hn with h1 | h1
                  · omega
                  · exact h1
                · rcases Nat.lt_or_ge i j with h1 | h1
                  · have := sw'.mid j h1 hj
                    rw [sw.fB] at this
                    cases this
                  · have := sw.mid i (by omega) hik
                    rw [sw'.fB] at this
                    cases this
              obtain ⟨m', w', h1, h2⟩ := h.pickSwap (b := b) (k' := k') (rest := Region.linearise.go .any ops fuel (t / (Region.ready .any ops listed).length) (listed.setIfInBounds (pl.ix k) true) []) hok hT hM sw hr hnd hjd hD
              exact KOK.from (.refl _ _ _) (.refl _ _) h2 (next m' c w' cs (.inr (.inl ⟨j, k, sw, h1⟩)))
      · have hkB : k = B := Classical.byContradiction fun hne => hnd (h.all k hk hne)
        subst hkB
        obtain ⟨m', w', h1, h2⟩ := h.pick (b := b) (k' := k') (rest := Region.linearise.go .any ops fuel (t / (Region.ready .any ops listed).length) (listed.setIfInBounds (pl.ix k) true) []) hT hM sw
        exact KOK.from (.refl _ _ _) (.refl _ _) h2 (next m' c w' cs (.inr (.inr ⟨sw.np, h1⟩)))
      · exact absurd (h.all k hk) hnd
end
end Go.Eng
