/- Drawn regions: what the reading makes of them is so. -/
import Derived.Test.YtaijefddfkcfhaaGreatDoorEngAF
namespace Go.Eng
open Go
variable [Pins]

def consT (t : TS) (T : Nat → TS) : Nat → TS
  | 0 => t
  | k + 1 => T k

section
variable {P : Program} {E : Env} {ro : Option Nat} {ops : Array Oper}

/-- The reading's way along a list of places. -/
structure Trace (P : Program) (E : Env) (ro : Option Nat) (ops : Array Oper) (last : List Nat → RunF) (L : List PStep) (t : TS) (r : KRes) (T : Nat → TS) (Np : Nat) : Prop where
  zero : T 0 = t
  le : Np ≤ L.length
  st : ∀ k, k < Np → ∃ p o, L[k]? = some p ∧ ops[p.i]? = some o ∧ StepT P E ro ops o p.flt (T k) (T (k + 1))
  fin : (Np = L.length ∧ r = last (T Np).cl (T Np).a (T Np).u (T Np).σ) ∨ (Np < L.length ∧ ∃ p o e a' u' σ', L[Np]? = some p ∧ ops[p.i]? = some o ∧ p.flt = none ∧ p.free = true ∧ (cguard ops o.guard).un (T Np).a = some true ∧
    e ≠ .normal ∧ stepOp E ro o.dst (T Np).a (T Np).u ((cop P o.op).un (T Np).a (T Np).σ) = .done e a' u' σ' ∧ r = .done e a' u' σ')

omit [Pins] in
theorem Trace.cons {last : List Nat → RunF} {L : List PStep} {t t' : TS} {r : KRes} {T : Nat → TS} {Np : Nat} {p : PStep} {o : Oper} (h : Trace P E ro ops last L t' r T Np) (ho : ops[p.i]? = some o) (hs : StepT P E ro ops o p.flt t t') :
    Trace P E ro ops last (p :: L) t r (consT t T) (Np + 1) := by
  refine ⟨rfl, by simp; exact h.le, fun k hk => ?_, ?_⟩
  · cases k with
    | zero =>
      refine ⟨p, o, rfl, ho, ?_⟩
      show StepT P E ro ops o p.flt t (T 0)
      rw [h.zero]
      exact hs
    | succ k =>
      obtain ⟨p', o', h1, h2, h3⟩ := h.st k (by omega)
      exact ⟨p', o', by simpa using h1, h2, h3⟩
  · rcases h.fin with ⟨h1, h2⟩ | ⟨h1, p', o', e, a', u', σ', g1, g2, g3, g4, g5, g6, g7, g8⟩
    · exact .inl ⟨by simp [h1], h2⟩
    · exact .inr ⟨by simp; exact h1, p', o', e, a', u', σ', by simpa using g1, g2, g3, g4, g5, g6, g7, g8⟩

omit [Pins] in
theorem cdops_cons {p : PStep} {o : Oper} {L : List PStep} (ho : ops[p.i]? = some o) : (cdops P ops (p :: L)).un = ⟨(cop P o.op).un, o.dst, (cguard ops o.guard).un, p.flt, p.free⟩ :: (cdops P ops L).un := by
  show (match ops[p.i]? with
    | some o => (⟨⟨(cop P o.op).un, o.dst, (cguard ops o.guard).un, p.flt, p.free⟩ :: (cdops P ops L).un⟩ : Bx (List DOp))
    | none => ⟨[]⟩).un = _
  rw [ho]

omit [Pins] in
theorem fdraw_trace (last : List Nat → RunF) : ∀ (L : List PStep), (∀ p ∈ L, ∃ o, ops[p.i]? = some o) → ∀ t : TS, fdraw E ro last (cdops P ops L).un t.cl t.a t.u t.σ ≠ .no →
    ∃ T Np, Trace P E ro ops last L t (fdraw E ro last (cdops P ops L).un t.cl t.a t.u t.σ) T Np := by
  intro L
  induction L with
  | nil => exact fun _ t _ => ⟨fun _ => t, 0, rfl, Nat.le_refl _, fun k hk => absurd hk (Nat.not_lt_zero _), .inl ⟨rfl, rfl⟩⟩
  | cons p L ih =>
    intro hL t hno
    obtain ⟨o, ho⟩ := hL p (by simp)
    have ih' := ih fun q hq => hL q (by simp [hq])
    rw [cdops_cons ho] at hno ⊢
    generalize hr : fdraw E ro last (⟨(cop P o.op).un, o.dst, (cguard ops o.guard).un, p.flt, p.free⟩ :: (cdops P ops L).un) t.cl t.a t.u t.σ = r at hno ⊢
    have hr' : (Option.rec (motive := fun _ => KRes) .no
        (fun g => match p.flt with
          | none => Bool.rec (motive := fun _ => KRes) (fdraw E ro last (cdops P ops L).un (t.cl ++ [t.σ.clock]) (t.a.put o.dst skipV) t.u t.σ)
              (drawA p.free (fun a u σ => fdraw E ro last (cdops P ops L).un (t.cl ++ [σ.clock]) a u σ) (stepOp E ro o.dst t.a t.u ((cop P o.op).un t.a t.σ))) g
          | some q => Bool.rec (motive := fun _ => KRes) (fdraw E ro last (cdops P ops L).un t.cl (t.a.put o.dst skipV) t.u t.σ)
              (match nth t.cl q with
               | some lam => drawF o.dst t.a t.u t.σ (fdraw E ro last (cdops P ops L).un t.cl) ((cop P o.op).un t.a (view t.σ lam))
               | none => .no) g)
        ((cguard ops o.guard).un t.a) : KRes) = r := hr
    clear hr
    have go : ∀ t' : TS, StepT P E ro ops o p.flt t t' → fdraw E ro last (cdops P ops L).un t'.cl t'.a t'.u t'.σ = r → ∃ T Np, Trace P E ro ops last (p :: L) t r T Np := fun t' hs hf => by
      obtain ⟨T, Np, hT⟩ := ih' t' (by rw [hf]; exact hno)
      rw [hf] at hT
      exact ⟨_, _, hT.cons ho hs⟩
    cases hg : (cguard ops o.guard).un t.a with
    | none =>
      rw [hg] at hr'
      exact absurd hr'.symm hno
    | some g =>
      rw [hg] at hr'
      simp only at hr'
      cases hf : p.flt with
      | none =>
        rw [hf] at hr'
        simp only at hr'
        cases g with
        | false => exact go ⟨t.a.put o.dst skipV, t.u, t.σ, t.cl ++ [t.σ.clock]⟩ (.askip hf hg rfl) hr'
        | true =>
          simp only at hr'
          cases hs : stepOp E ro o.dst t.a t.u ((cop P o.op).un t.a t.σ) with
          | no =>
            rw [hs] at hr'
            exact absurd hr'.symm hno
          | done e a' u' σ' =>
            rw [hs] at hr'
            have panics : e ≠ .normal → drawA p.free (fun a u σ => fdraw E ro last (cdops P ops L).un (t.cl ++ [σ.clock]) a u σ) (.done e a' u' σ') = cond p.free (.done e a' u' σ') .no := fun he => by
              cases e <;> first | exact absurd rfl he | rfl
            by_cases he : e = .normal
            · subst he
              exact go ⟨a', u', σ', t.cl ++ [σ'.clock]⟩ (.anch hf hg hs rfl) hr'
            · rw [panics he] at hr'
              cases hfr : p.free with
              | false =>
                rw [hfr] at hr'
                exact absurd hr'.symm hno
              | true =>
                rw [hfr] at hr'
                exact ⟨fun _ => t, 0, rfl, Nat.zero_le _, fun k hk => absurd hk (Nat.not_lt_zero _), .inr ⟨by simp, p, o, e, a', u', σ', rfl, ho, hf, hfr, hg, he, hs, hr'.symm⟩⟩
      | some q =>
        rw [hf] at hr'
        simp only at hr'
        cases g with
        | false => exact go ⟨t.a.put o.dst skipV, t.u, t.σ, t.cl⟩ (.fskip q hf hg rfl) hr'
        | true =>
          simp only at hr'
          cases hl : nth t.cl q with
          | none =>
            rw [hl] at hr'
            exact absurd hr'.symm hno
          | some lam =>
            rw [hl] at hr'
            simp only at hr'
            unfold drawF at hr'
            split at hr'
            · rename_i v σ' hv
              cases hg2 : regrow t.σ σ' with
              | none =>
                rw [hg2] at hr'
                exact absurd hr'.symm hno
              | some σ2 =>
                rw [hg2] at hr'
                exact go ⟨t.a.put o.dst v, t.u, σ2, t.cl⟩ (.float q lam v σ' hf hg hl hv hg2 rfl rfl rfl) hr'
            · exact absurd hr'.symm hno

omit [Pins] in
theorem StepT.cl {o : Oper} {f : Option Nat} {t t' : TS} (h : StepT P E ro ops o f t t') : (f = none → t'.cl = t.cl ++ [t'.σ.clock]) ∧ (f.isSome = true → t'.cl = t.cl) := by
  cases h with
  | askip hf hg ht => subst ht; exact ⟨fun _ => rfl, fun h => (by rw [hf] at h; cases h)⟩
  | anch hf hg h hc => exact ⟨fun _ => hc, fun h => (by rw [hf] at h; cases h)⟩
  | fskip q hf hg ht => subst ht; exact ⟨fun h => (by rw [hf] at h; cases h), fun _ => rfl⟩
  | float q lam v σ' hf hg hl h hr ha hu hc => exact ⟨fun h => (by rw [hf] at h; cases h), fun _ => hc⟩

/-- The places of what stands in order, as far as k. -/
def aPos (L : List PStep) (k : Nat) : List Nat := (List.range k).filter fun j => (fltOf L j).isNone
omit [Pins] in
theorem aPos_succ (L : List PStep) (k : Nat) : aPos L (k + 1) = aPos L k ++ (if (fltOf L k).isNone then [k] else []) := by
  unfold aPos
  rw [List.range_succ, List.filter_append, List.filter_cons, List.filter_nil]
omit [Pins] in
theorem anchors_eq (L : List PStep) : ∀ k, k ≤ L.length → anchorsOf (L.take k) = (aPos L k).map (ixOf L) := by
  intro k
  induction k with
  | zero => intro _; rfl
  | succ k ih =>
    intro hk
    obtain ⟨p, hp⟩ := at_some (L := L) (k := k) (by omega)
    rw [List.take_add_one, hp, aPos_succ, List.map_append, ← ih (by omega), fltOf_eq hp]
    unfold anchorsOf
    rw [List.filter_append, List.map_append]
    congr 1
    cases hf : p.flt with
    | none => simp [List.filter_cons, hf, ixOf_eq hp]
    | some q => simp [List.filter_cons, hf]
omit [Pins] in
theorem cl_eq {L : List PStep} {T : Nat → TS} {Np : Nat} (hNp : Np ≤ L.length) (st : ∀ k, k < Np → ∃ p o, L[k]? = some p ∧ ops[p.i]? = some o ∧ StepT P E ro ops o p.flt (T k) (T (k + 1))) (h0 : (T 0).cl = [(T 0).σ.clock]) :
    ∀ k, k ≤ Np → (T k).cl = (T 0).σ.clock :: (aPos L k).map fun j => (T (j + 1)).σ.clock := by
  intro k
  induction k with
  | zero => intro _; exact h0
  | succ k ih =>
    intro hk
    obtain ⟨p, o, hp, ho, hs⟩ := st k (by omega)
    rw [aPos_succ, List.map_append, fltOf_eq hp]
    cases hf : p.flt with
    | none =>
      rw [(hs.cl).1 hf, ih (by omega)]
      simp
    | some q =>
      rw [(hs.cl).2 (by rw [hf]; rfl), ih (by omega)]
      simp

section
variable {L : List PStep} {T : Nat → TS} {Np : Nat}
omit [Pins] in
theorem mk_tr (hp : planOk ops (clos ops ops.size) (dstsOf ops) ops.size L [] [] = true) (hd : dstsOk (dstsOf ops) = true) (hNp : Np ≤ L.length)
    (st : ∀ k, k < Np → ∃ p o, L[k]? = some p ∧ ops[p.i]? = some o ∧ StepT P E ro ops o p.flt (T k) (T (k + 1))) (h0 : (T 0).cl = [(T 0).σ.clock]) : Tr' P E ro (mkPl hp hd) T Np := by
  refine ⟨hNp, fun k hk => ?_, fun k hk q lam hf hl => ?_⟩
  · obtain ⟨p, o, h1, h2, h3⟩ := st k hk
    show StepT P E ro ops (opOf ops L k) (fltOf L k) (T k) (T (k + 1))
    rw [opOf_eq h1 h2, fltOf_eq h1]
    exact h3
  · obtain ⟨p, o, h1, h2, h3⟩ := st k hk
    have hf' : p.flt = some q := by
      rw [← fltOf_eq h1]
      exact hf
    rw [cl_eq hNp st h0 k (by omega), nth_eq] at hl
    cases q with
    | zero =>
      simp only [List.getElem?_cons_zero, Option.some.injEq] at hl
      exact .inl hl.symm
    | succ q =>
      right
      obtain ⟨o', hs⟩ := spot hp h1
      obtain ⟨a, g1, g2⟩ := hs.lam q hf'
      rw [anchors_eq L k (by omega), List.getElem?_map] at g1
      rw [List.getElem?_cons_succ, List.getElem?_map] at hl
      cases hj : (aPos L k)[q]? with
      | none => rw [hj] at g1; cases g1
      | some j =>
        rw [hj] at g1 hl
        simp only [Option.map_some, Option.some.injEq] at g1 hl
        have hmem := List.mem_of_getElem? hj
        unfold aPos at hmem
        rw [List.mem_filter, List.mem_range] at hmem
        refine ⟨j, hmem.1, Option.isNone_iff_eq_none.1 hmem.2, mk_needs hp hd (by omega) (by omega) ?_, hl.symm⟩
        rw [ixOf_eq h1, g1]
        exact g2

theorem draw_main (hE : EnvOK P E) (hm : P.follows .mixedOrders = true) (hp : planOk ops (clos ops ops.size) (dstsOf ops) ops.size L [] [] = true) (hd : dstsOk (dstsOf ops) = true) (hNp : Np ≤ L.length)
    (st : ∀ k, k < Np → ∃ p o, L[k]? = some p ∧ ops[p.i]? = some o ∧ StepT P E ro ops o p.flt (T k) (T (k + 1))) {r : KRes} (hend : EndOK P E ro (mkPl hp hd) T Np r)
    (hsw : ∀ k p j q, L[k]? = some p → k ≤ Np → L[j]? = some q → j < k → p.sw = some q.i → Nonempty (Sw P (mkPl hp hd) T Np j k))
    {a : FAct} {u : Option FrameMode} {σ : FState} (h0 : T 0 = ⟨a, u, σ, [σ.clock]⟩) {id : Nat} {b : Frame} {k' : List Item} {cs : List Frame} {c : Act} {m : Mp} {w : World} (hr : Rel Top m σ w) (ha : ActRel m a c) (hu : URel m u b.kind cs) (hro : RoRel m ro b) :
    KOK P m σ w b k' cs (lone (b.atR c (.code (.region id ops true) :: k')) cs w) r := by
  have hT := mk_tr hp hd hNp st (by rw [h0])
  have hok := mk_ok hp hd
  have hr1 : Rel Top m σ { w with drawn := w.drawn + 1 } := hr.sameHeap rfl
  refine KOK.from (Step.sameHeap σ m (w := w) (w' := { w with drawn := w.drawn + 1 }) rfl rfl rfl rfl) (.refl _ _) (.one trivial stepR_region_draw) ?_
  have hI := Inv.first (c := c) (w := { w with drawn := w.drawn + 1 }) hT (by rw [h0]) (by rw [h0]) (by rw [h0]) hr1 ha hu
  have hM := hT.mono hE hok hro hI
  have hsch : ∀ t, Region.schedule (P.follows .mixedOrders) ops t = Region.linearise.go .any ops ops.size t (Array.replicate ops.size false) [] := fun t => by
    simp only [Region.schedule, hm, Bool.true_or, if_true]
    rfl
  rw [hsch]
  have hDof : Dof (mkPl hp hd) (Array.replicate ops.size false) = fun _ => False := by
    funext k
    apply propext
    unfold Dof
    constructor
    · rintro ⟨_, h⟩
      rw [Array.getD_eq_getD_getElem?] at h
      cases hq : (Array.replicate ops.size false)[(mkPl hp hd).ix k]? with
      | none => rw [hq] at h; cases h
      | some x =>
        rw [hq] at h
        rw [Array.getElem?_replicate] at hq
        split at hq
        · cases hq
          cases h
        · cases hq
    · exact fun h => h.elim
  have key := draw_go (k' := k') (cs0 := cs) hE hok hT hro hM hend (fun k hk hkN hf j hj => ?_) ops.size (w.tape w.drawn (.order b.fn id)) (Array.replicate ops.size false) m c { w with drawn := w.drawn + 1 } cs (by simp) (left_le _ _) (.inl ⟨0, by rw [hDof]; exact hI⟩)
  · have hσ : (T 0).σ = σ := by rw [h0]
    rw [hσ] at key
    exact key
  · have hk' : k < L.length := hk
    obtain ⟨p, h1⟩ := at_some hk'
    obtain ⟨q, h2⟩ := at_some (L := L) (k := j) (by omega)
    obtain ⟨o, hs⟩ := spot hp h1
    have hf' : p.flt = none := by
      rw [← fltOf_eq h1]
      exact hf
    rcases hs.anch hf' j q hj h2 with h3 | h3
    · exact .inl (mk_needs hp hd hk' (by omega) (by rw [ixOf_eq h1, ixOf_eq h2]; exact h3))
    · exact .inr (hsw k p j q h1 hkN h2 hj h3)

omit [Pins] in
/-- The way's end, from the trace of a list whose last part is nothing. -/
theorem end_panic (hp : planOk ops (clos ops ops.size) (dstsOf ops) ops.size L [] [] = true) (hd : dstsOk (dstsOf ops) = true) (hlt : Np < L.length) {p : PStep} {o : Oper} {e : Exit} {a' : FAct} {u' : Option FrameMode} {σ' : FState} {r : KRes} (h1 : L[Np]? = some p) (h2 : ops[p.i]? = some o)
    (h3 : p.flt = none) (h4 : p.free = true) (h5 : (cguard ops o.guard).un (T Np).a = some true) (h6 : e ≠ .normal) (h7 : stepOp E ro o.dst (T Np).a (T Np).u ((cop P o.op).un (T Np).a (T Np).σ) = .done e a' u' σ') (h8 : r = .done e a' u' σ') :
    EndOK P E ro (mkPl hp hd) T Np r := by
  obtain ⟨o', hs⟩ := spot hp h1
  have hop : (mkPl hp hd).op Np = o := opOf_eq h1 h2
  refine .inr ⟨hlt, by show fltOf L Np = none; rw [fltOf_eq h1, h3], fun j hj hjN => ?_, by rw [hop]; exact h5, e, a', u', σ', h6, by rw [hop]; exact h7, h8⟩
  obtain ⟨q, g1⟩ := at_some (L := L) (k := j) hjN
  exact mk_needs hp hd hjN hlt (by rw [ixOf_eq g1, ixOf_eq h1]; exact hs.free h4 j q hj g1)
end
end
end Go.Eng
