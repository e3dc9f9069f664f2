/- The deferred calls, on the way out. -/
import Derived.Test.YtaijefddfkcfhaaGreatDoorEngW
namespace Go.Eng
open Go
variable [Pins]

omit [Pins] in
theorem ChRel.dropW {m : Mp} {l l' : List PanicEntry} (h : ChRel m l l') : ChRel m (l.dropWhile (!·.goexit)) (l'.dropWhile (!·.goexit)) := by
  induction h with
  | nil => exact .nil
  | cons he hl ih =>
    rename_i e e' l l'
    simp only [List.dropWhile_cons]
    rw [← he.2.2]
    cases e.goexit with
    | false => exact ih
    | true => exact .cons he hl
omit [Pins] in
theorem settle_rel {m : Mp} {u u' : FrameMode} (h : MRel m u u') : MRel m (unrecovered u) (settle u') := by
  cases h with
  | run => exact .run
  | returning => exact .returning
  | panicking hl =>
    cases hl with
    | nil => exact .panicking .nil
    | cons he hl =>
      rename_i e e' l l'
      obtain ⟨v, rc, ge⟩ := e
      obtain ⟨v', rc', ge'⟩ := e'
      obtain ⟨h1, h2, h3⟩ := he
      simp only at h1 h2 h3
      subst h2
      subst h3
      cases rc with
      | false => exact .panicking (.cons ⟨h1, rfl, rfl⟩ hl)
      | true =>
        have hd := hl.dropW
        simp only [unrecovered, settle]
        generalize l.dropWhile (!·.goexit) = d at hd ⊢
        generalize l'.dropWhile (!·.goexit) = d' at hd ⊢
        cases hd with
        | nil => exact .returning
        | cons he hl => exact .panicking (.cons he hl)
omit [Pins] in
theorem raised_rel {m : Mp} {u u' : FrameMode} {ch ch' : List PanicEntry} (h : MRel m u u') (hc : ChRel m ch ch') : MRel m (raised u ch) (raised u' ch') := by
  cases h with
  | run => exact .panicking hc
  | returning => exact .panicking hc
  | panicking hl => exact .panicking (hc.append hl)
omit [Pins] in
theorem MRel.ne_run {m : Mp} {u u' : FrameMode} (h : MRel m u u') (hu : u ≠ .run) : u' ≠ .run := by
  cases h with
  | run => exact absurd rfl hu
  | returning => simp
  | panicking hl => simp
omit [Pins] in
theorem unrecovered_ne {u : FrameMode} (hu : u ≠ .run) : unrecovered u ≠ .run := by
  unfold unrecovered
  split
  · split <;> simp
  · exact hu
/-- What a function's end comes to. -/
def LeaveOK (P : Program) (m : Mp) (σ : FState) (w : World) (fr : Frame) (cs : List Frame) (uu : Option FrameMode) : CRes → Prop
  | .no => True
  | .ret v u' σ' => u' = uu ∧ ∃ m' w' v' fr', Rel Top m' σ' w' ∧ Step σ σ' m m' w w' ∧ VRel m' v v' ∧ St P (lone fr cs w) (lone fr' cs w') ∧ fr'.fn = fr.fn ∧ fr'.kind = fr.kind ∧ fr'.going P w' (.returned v')
  | .pan ch u' σ' => u' = uu ∧ ∃ m' w' ch' fr', Rel Top m' σ' w' ∧ Step σ σ' m m' w w' ∧ ChRel m' ch ch' ∧ St P (lone fr cs w) (lone fr' cs w') ∧ fr'.fn = fr.fn ∧ fr'.kind = fr.kind ∧ fr'.going P w' (.panicked ch')

theorem LeaveOK.from {P : Program} {m m₁ : Mp} {σ σ₁ : FState} {w w₁ : World} {fr fr₁ : Frame} {cs : List Frame} {uu : Option FrameMode} {r : CRes} (hS : Step σ σ₁ m m₁ w w₁) (hst : St P (lone fr cs w) (lone fr₁ cs w₁)) (hf : fr₁.fn = fr.fn) (hk : fr₁.kind = fr.kind)
    (h : LeaveOK P m₁ σ₁ w₁ fr₁ cs uu r) : LeaveOK P m σ w fr cs uu r := by
  cases r with
  | no => trivial
  | ret v u' σ' =>
    obtain ⟨h0, m', w', v', fr', h1, h2, h3, h4, h5, h6, h7⟩ := h
    exact ⟨h0, m', w', v', fr', h1, hS.trans h2, h3, StepsIn.trans hst h4, h5.trans hf, h6.trans hk, h7⟩
  | pan ch u' σ' =>
    obtain ⟨h0, m', w', v', fr', h1, h2, h3, h4, h5, h6, h7⟩ := h
    exact ⟨h0, m', w', v', fr', h1, hS.trans h2, h3, StepsIn.trans hst h4, h5.trans hf, h6.trans hk, h7⟩

theorem fleave_sound {P : Program} {E : Env} (hE : EnvOK P E) {fn : Func} (uu : Option FrameMode) (a : FAct) : ∀ (ds ds' : List Deferred) (md : FrameMode) (σ : FState) (m : Mp) (w : World) (fr : Frame) (cs : List Frame), Rel Top m σ w → DLRel m ds ds' → MRel m md fr.mode →
    fr.defers = ds' → (∀ t, VRel m (a.get t) (fr.tmps.getD t undef)) → P.funcs[fr.fn]? = some fn → LeaveOK P m σ w fr cs uu (fleave P E fn.results.toList a uu ds md σ) := by
  intro ds
  induction ds with
  | nil =>
    intro ds' md σ m w fr cs hr hd hm hds ha hf
    have : ds' = [] := List.eq_nil_of_length_eq_zero (by simpa using hd.1.symm)
    subst this
    generalize hmo : fr.mode = mo at hm
    cases hm with
    | run => trivial
    | returning =>
      show LeaveOK P m σ w fr cs uu (match fresults P fn.results.toList a σ with
        | some [v] => .ret v uu σ
        | some vs => .ret (.tuple vs.toArray) uu σ
        | none => .no)
      cases hv : fresults P fn.results.toList a σ with
      | none => trivial
      | some vs =>
        obtain ⟨v', h1, h2⟩ := results_sound (c := { tmps := fr.tmps, defers := [] }) hr ha fn hv
        have key : LeaveOK P m σ w fr cs uu (.ret (pack vs) uu σ) := ⟨rfl, m, w, v', fr, hr, .refl _ _ _, h2, .refl _, rfl, rfl, hmo, hds, fn, hf, h1⟩
        match vs with
        | [] => exact key
        | [v] => exact key
        | _ :: _ :: _ => exact key
    | panicking hl => exact ⟨rfl, m, w, _, fr, hr, .refl _ _ _, hl, .refl _, rfl, rfl, hmo, hds, fn, hf⟩
  | cons d ds ih =>
    intro ds' md σ m w fr cs hr hd hm hds ha hf
    cases ds' with
    | nil => simp [DLRel] at hd
    | cons d' ds' =>
      have hd0 := hd.head
      have hd1 := hd.tail
      cases hir : isRun md with
      | true =>
        have : fleave P E fn.results.toList a uu (d :: ds) md σ = .no := by
          show cond (isRun md) CRes.no _ = _
          rw [hir]
          rfl
        rw [this]
        trivial
      | false =>
      have hrun : md ≠ .run := fun h => by subst h; cases hir
      have hfr := hm.ne_run hrun
      have hstep : ∀ x, cond (isRun md) CRes.no x = x := fun x => by rw [hir]; rfl
      cases hd0 with
      | collected hmr =>
        rename_i r e
        show LeaveOK P m σ w fr cs uu (cond (isRun md) .no (match σ.heap.get r with
          | some e => (match e.obj with
            | .defd true => cond e.ro .no (fleave P E fn.results.toList a uu ds md (σ.put r (.defd false) none))
            | _ => .no)
          | none => .no))
        rw [hstep]
        cases hg : σ.heap.get r with
        | none => trivial
        | some ent =>
          simp only
          split
          · rename_i ho
            cases hro : ent.ro with
            | true => trivial
            | false =>
              obtain ⟨_, hs⟩ := hr.sync r ent e trivial hg hmr
              rw [ho] at hs
              have hlt : e.blk < w.heap.size := (hr.dom _ _ hmr).2
              have hs' : w.heap[e.blk]? = some (.deferred (some [])) := hs
              obtain ⟨hR, hS⟩ := hr.putObj (.defd false) (.deferred none) hg (by rw [ho]; rfl) hmr hro trivial
              have htake : (Instr.takeDeferred e.blk).run P w = .ok [] { w with heap := w.heap.setIfInBounds e.blk (.deferred none) } := by
                simp [Instr.takeDeferred, getObj, setObj, Sem.run, hs']
              refine LeaveOK.from hS (.one trivial (step_collected hfr hds rfl htake)) rfl rfl ?_
              exact ih ds' md _ m _ _ cs hR (hd1.mono hS.le) (hm.mono hS.le) rfl (fun t => (ha t).mono hS.le) hf
          · trivial
      | fn f hc hargs =>
        rename_i c0 c0' a0 a0'
        have hA : LRel m (a0.toList ++ c0.toList) (a0' ++ c0').toList := by
          rw [Array.toList_append]
          exact hargs.append hc
        have hcall := hE.call f (a0.toList ++ c0.toList) (some md) σ m w (a0' ++ c0') hr hA (fun md' h => (by cases h; exact hrun))
        show LeaveOK P m σ w fr cs uu (cond (isRun md) .no (match E.call f (a0.toList ++ c0.toList) (some md) σ with
          | .ret _ (some md') σ => fleave P E fn.results.toList a uu ds (unrecovered md') σ
          | .pan ch (some md') σ => fleave P E fn.results.toList a uu ds (raised md' ch) σ
          | _ => .no))
        rw [hstep]
        cases hr0 : E.call f (a0.toList ++ c0.toList) (some md) σ with
        | no => trivial
        | ret v u' σ' =>
          rw [hr0] at hcall
          cases u' with
          | none => trivial
          | some md' =>
            rcases hcall with ⟨h, _⟩ | ⟨hent, hgo⟩
            · cases h
            · obtain ⟨m', w', v', fr2, cs', hR, hS, hV, hU, hun, hst, hfn, hk, hgoing⟩ := hgo ({ fr with defers := ds' } :: cs) ⟨rfl, _, _, rfl, hm⟩
              obtain ⟨_, c1, rest1, hcs1, hm1⟩ := hU
              have hcs2 : ∃ mo, cs' = { fr with defers := ds', mode := mo } :: cs := by
                rcases hun with h | ⟨_, c2, r2, mo, h, h'⟩
                · exact ⟨fr.mode, h⟩
                · cases h
                  exact ⟨mo, h'⟩
              obtain ⟨mo, rfl⟩ := hcs2
              cases hcs1
              have hinv : (invoke (.fn (.func f) c0') a0').run P w = .ok (.enter f (a0' ++ c0')) w := hent
              have h1 := step_defer (P := P) (cs := cs) hfr hds rfl hinv
              have h2 := step_going_returned (c := { fr with defers := ds', mode := mo }) (cs := cs) hk hgoing
              refine LeaveOK.from hS (fr₁ := { fr with defers := ds', mode := settle mo }) (.head trivial h1 (StepsIn.trans hst (.one trivial h2))) rfl rfl ?_
              exact ih ds' _ σ' m' w' { fr with defers := ds', mode := settle mo } cs hR (hd1.mono hS.le) (settle_rel hm1) rfl (fun t => (ha t).mono hS.le) hf
        | pan ch u' σ' =>
          rw [hr0] at hcall
          cases u' with
          | none => trivial
          | some md' =>
            obtain ⟨hent, hgo⟩ := hcall
            obtain ⟨m', w', ch', fr2, cs', hR, hS, hC, hU, hun, hst, hfn, hk, hgoing⟩ := hgo ({ fr with defers := ds' } :: cs) ⟨rfl, _, _, rfl, hm⟩
            obtain ⟨_, c1, rest1, hcs1, hm1⟩ := hU
            have hcs2 : ∃ mo, cs' = { fr with defers := ds', mode := mo } :: cs := by
              rcases hun with h | ⟨_, c2, r2, mo, h, h'⟩
              · exact ⟨fr.mode, h⟩
              · cases h
                exact ⟨mo, h'⟩
            obtain ⟨mo, rfl⟩ := hcs2
            cases hcs1
            have hinv : (invoke (.fn (.func f) c0') a0').run P w = .ok (.enter f (a0' ++ c0')) w := hent
            have h1 := step_defer (P := P) (cs := cs) hfr hds rfl hinv
            have h2 := step_going_panicked (c := { fr with defers := ds', mode := mo }) (cs := cs) hgoing
            refine LeaveOK.from hS (fr₁ := { fr with defers := ds', mode := raised mo ch' }) (.head trivial h1 (StepsIn.trans hst (.one trivial h2))) rfl rfl ?_
            exact ih ds' _ σ' m' w' { fr with defers := ds', mode := raised mo ch' } cs hR (hd1.mono hS.le) (raised_rel hm1 hC) rfl (fun t => (ha t).mono hS.le) hf
end Go.Eng
