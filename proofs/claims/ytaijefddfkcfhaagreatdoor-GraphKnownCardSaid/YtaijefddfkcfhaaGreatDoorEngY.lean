/- A range over a function, and its rounds. -/
import Derived.Test.YtaijefddfkcfhaaGreatDoorEngX
import Derived.RangeFuncRecord
namespace Go.Eng
open Go
variable [Pins]

section
variable {P : Program} {m : Mp} {σ : FState} {w : World} {b : Frame} {k : List Item} {cs : List Frame} {a : FAct} {c : Act} {u : Option FrameMode} {E : Env} {H : Hints}

theorem jump_sound {pend : Option Code} (hr : Rel Top m σ w) (ha : ActRel m a c) (hu : URel m u b.kind cs) :
    KOK P m σ w b k cs (lone (b.atR c ((pend.map Item.code).toList ++ k)) cs w) (jumpRes pend a u σ) := by
  unfold jumpRes
  cases pend with
  | none => exact ⟨m, w, .normal, c, cs, hr, .refl _ _ _, .normal, ha, hu, .refl _ _, .refl _⟩
  | some x =>
    simp only
    split
    · exact ⟨m, w, .ret, c, cs, hr, .refl _ _ _, .ret, ha, hu, .refl _ _, fun hn => ⟨_, .one trivial (stepR_ret hn)⟩, fun _ => ⟨k, .refl _⟩⟩
    · rename_i id
      exact ⟨m, w, .exit id, c, cs, hr, .refl _ _ _, .exit id, ha, hu, .refl _ _, fun _ hk => .one trivial (stepR_exit hk), fun _ hk => ⟨k, hk, .refl _⟩⟩
    · rename_i l
      exact ⟨m, w, .goto l, c, cs, hr, .refl _ _ _, .goto l, ha, hu, .refl _ _, fun _ hk => .one trivial (stepR_goto hk), fun _ hk => ⟨k, hk, .refl _⟩⟩
    · trivial

theorem leaveRec_sound {l : Nat} {e : MEnt} {mark mark' : List Deferred} {v : Value} {u' : Option FrameMode} (hm : m l = some e) (hr : Rel Top m σ w) (ha : ActRel m a c) (hu : URel m u b.kind cs) (hM : DLRel m mark mark') :
    KOK P m σ w b k cs (lone (b.atR { c with defers := mark' ++ c.defers } (.endRangeFunc e.blk :: k)) cs w) (leaveLoop l mark a u (.ret v u' σ)) := by
  unfold leaveLoop
  simp only
  cases hg : σ.heap.get l with
  | none => trivial
  | some ent =>
    simp only
    split
    · rename_i st pend fn loc tmp nl nt params assign body d ho
      cases hb : (isBusy st || ent.ro) with
      | true => trivial
      | false =>
        simp only [Bool.or_eq_false_iff] at hb
        have hst : st ≠ .busy := fun h => by subst h; cases hb.1
        obtain ⟨_, hs⟩ := hr.sync l ent e trivial hg hm
        rw [ho] at hs
        obtain ⟨ts, ps, de, hw, ht, hp, hd⟩ := hs
        have hlt : e.blk < w.heap.size := (hr.dom _ _ hm).2
        have hend := run_endLoop (P := P) hw hst
        obtain ⟨hR, hS⟩ := hr.putObj (.loop .exhausted pend fn loc tmp nl nt params assign body d) (.loop { state := .exhausted, pending := pend, fn, tmps := ts, params := ps, assign, body, defers := de.blk }) hg (by rw [ho]; rfl) hm hb.2
          ⟨ts, ps, de, by simp [hlt], ht, hp, hd⟩
        exact KOK.from hS (.refl _ _) (.one trivial (stepR_endRangeFunc hend)) (jump_sound hR (ha.pushed hM) (hu.mono hS.le))
    · trivial

omit [Pins] in
/-- Entering, where the function that is ranged over gives its value at once. -/
theorem stepR_rangeValue {g : Operand} {ps : Array Tmp} {assign body : Code} {l : Nat} {mark : List Deferred} {w₁ w₁' w₂ : World} {d : Deferred} {v : Value}
    (he : (Instr.enterLoop b.fn c.tmps ps assign body b.roundOf).run P w = .ok (l, mark) w₁)
    (hres : (resolve c.eval (rangeCall g l) 0).run P w₁ = .ok d w₁') (hinv : (invoke d.target d.args).run P w₁' = .ok (.value v) w₂) :
    step P (lone (b.atR c (.code (.rangeFunc g ps assign body) :: k)) cs w) = .next (lone (b.atR { c with defers := mark ++ c.defers } (.endRangeFunc l :: k)) cs w₂) :=
  step_lone_go (by
    have hev := Frame.eval_atR b { c with defers := mark ++ c.defers } (.inRangeFunc l :: k)
    simp only [Frame.atR] at hev
    have hres' : Sem.run P (resolve ({ tmps := c.tmps, defers := mark ++ c.defers } : Act).eval { callee := .value g, args := #[.const (.func (.yield l) #[] #[])], argTypes := #[] } 0) w₁ = .ok d w₁' := hres
    have hf := finish_atR_inRangeFunc (b := b) (a := { c with defers := mark ++ c.defers }) (k := k) l v
    simp only [Frame.atR] at hf
    simp [stepG, stepG.exec, Frame.atR, Sem.runT_eq, he, GStep.bare_after, stepG.apply, hev, Sem.run_bind, hres', hinv, Result.andThen, hf])

theorem enterLoop_sound (hE : EnvOK P E) (g : Operand) (params : Array Tmp) (assign body : Code) {r : Nat} {de : MEnt} {mark mark' : List Deferred} {w0 : World} (hr : Rel Top m σ w) (hd : m r = some de) (ha : ActRel m a c) (hu : URel m u b.kind cs) (hM : DLRel m mark mark')
    (he : ∀ w', (newObj (.loop { state := .ready, pending := none, fn := b.fn, tmps := c.tmps, params, assign, body, defers := de.blk })).run P w = .ok w.heap.size w' → (Instr.enterLoop b.fn c.tmps params assign body b.roundOf).run P w0 = .ok (w.heap.size, mark') w') :
    KOK P m σ w b k cs (lone (b.atR c (.code (.rangeFunc g params assign body) :: k)) cs w0) (enterLoop E b.fn g params.toList assign body r mark a u σ) := by
  unfold Eng.enterLoop
  have hv := ha.eval g
  split
  · rename_i f first cap hq
    rw [hq] at hv
    generalize hcg : c.eval g = gv at hv
    cases hv with
    | func hfn h1 h2 hA hB =>
      cases hfn
      rename_i first' cap'
      obtain ⟨m', w', hnew, hR, hS, hml⟩ := newObj_sound (P := P) hr (.loop .ready none b.fn a.loc a.tmp a.nl a.nt params.toList assign body r) (.loop { state := .ready, pending := none, fn := b.fn, tmps := c.tmps, params, assign, body, defers := de.blk })
        fun m' w' hle hw => ⟨c.tmps, params, de, hw, ha.tmps.mono hle, rfl, hle _ _ hd⟩
      have he' := he w' hnew
      have hy : VRel m' (.func (.yield σ.next) #[] #[]) (.func (.yield w.heap.size) #[] #[]) :=
        .func (.yield hml) rfl rfl (fun i v v' hh => by simp at hh) (fun i v v' hh => by simp at hh)
      have hargs : LRel m' (first.toList ++ [.func (.yield σ.next) #[] #[]] ++ cap.toList) (first' ++ #[Value.func (.yield w.heap.size) #[] #[]] ++ cap').toList := by
        rw [Array.toList_append, Array.toList_append]
        exact (((LRel.of_array h1 hA).mono hS.le).append (.cons hy .nil)).append ((LRel.of_array h2 hB).mono hS.le)
      have hres : (resolve c.eval (rangeCall g w.heap.size) 0).run P w' = .ok { target := .fn (.func f) cap', args := first' ++ #[Value.func (.yield w.heap.size) #[] #[]] } w' := by
        show (Deferred.ofValue (c.eval g) (#[Operand.const (.func (.yield w.heap.size) #[] #[])].map c.eval)).run P w' = _
        rw [hcg]
        simp [Deferred.ofValue, Act.eval]
      have hinv : ∀ (x : Next) (w2 : World), (callFunc f (first' ++ #[Value.func (.yield w.heap.size) #[] #[]] ++ cap')).run P w' = .ok x w2 → (invoke (.fn (.func f) cap') (first' ++ #[Value.func (.yield w.heap.size) #[] #[]])).run P w' = .ok x w2 := fun x w2 h => h
      have hc := hE.call f _ none _ m' w' _ hR hargs (fun md h => by cases h)
      refine KOK.from hS (.refl _ _) (.refl _) ?_
      cases hcall : E.call f (first.toList ++ [.func (.yield σ.next) #[] #[]] ++ cap.toList) none (σ.push (.loop .ready none b.fn a.loc a.tmp a.nl a.nt params.toList assign body r) none) with
      | no => trivial
      | ret v u' σ'' =>
        rw [hcall] at hc
        rcases hc with ⟨_, _, rfl, v', hval, _⟩ | ⟨hent, hgo⟩
        · refine KOK.from (.refl _ _ _) (.refl _ _) (.one trivial (stepR_rangeValue he' hres (hinv _ _ hval))) ?_
          exact leaveRec_sound (e := ⟨w.heap.size, 0, false, none⟩) hml hR (ha.mono hS.le) (hu.mono hS.le) (hM.mono hS.le)
        · obtain ⟨m'', w'', v', fr, cs', hR2, hS2, _, _, hun, hst, hfn, hk, hgoing⟩ := hgo (b.atR { c with defers := mark' ++ c.defers } (.inRangeFunc w.heap.size :: k) :: cs) rfl
          have hcs : cs' = b.atR { c with defers := mark' ++ c.defers } (.inRangeFunc w.heap.size :: k) :: cs := by
            rcases hun with h | ⟨h, _⟩
            · exact h
            · cases h
          subst hcs
          have hl := leaving_of_going hk hgoing
          have h3 := step_leave_returned (c := b.atR { c with defers := mark' ++ c.defers } (.inRangeFunc w.heap.size :: k)) (cs := cs) hl
          rw [finish_atR_inRangeFunc] at h3
          have hle := fun b e h => hS2.le b e (hS.le b e h)
          refine KOK.from hS2 (.refl _ _) (.head trivial (stepR_rangeFunc he' hres (hinv _ _ hent)) (StepsIn.trans hst (.one trivial h3))) ?_
          exact leaveRec_sound (e := ⟨w.heap.size, 0, false, none⟩) (hS2.le _ _ hml) hR2 (ha.mono hle) (hu.mono hle) (hM.mono hle)
      | pan ch u' σ'' =>
        rw [hcall] at hc
        obtain ⟨hent, hgo⟩ := hc
        obtain ⟨m'', w'', ch', fr, cs', hR2, hS2, hC, _, hun, hst, hfn, hk, hgoing⟩ := hgo (b.atR { c with defers := mark' ++ c.defers } (.inRangeFunc w.heap.size :: k) :: cs) rfl
        have hcs : cs' = b.atR { c with defers := mark' ++ c.defers } (.inRangeFunc w.heap.size :: k) :: cs := by
          rcases hun with h | ⟨h, _⟩
          · exact h
          · cases h
        subst hcs
        have hl := leaving_of_going hk hgoing
        have hle := fun b e h => hS2.le b e (hS.le b e h)
        refine ⟨m'', w'', .panic ch', { c with defers := mark' ++ c.defers }, cs, hR2, hS2, .panic hC, (ha.mono hle).pushed (hM.mono hle), hu.mono hle, .refl _ _, .inRangeFunc w.heap.size :: k, ?_⟩
        refine .head trivial (stepR_rangeFunc he' hres (hinv _ _ hent)) (StepsIn.trans hst (.one trivial ?_))
        rw [← Frame.raise_atR]
        exact step_leave_panicked hl
  · trivial

theorem range_ok (hE : EnvOK P E) : RangeOK P E := by
  intro g params assign body ro fn b k cs a c u σ m w hb hr ha hu hro
  subst hb
  cases ro with
  | none =>
    have hro' : b.roundOf = none := hro
    obtain ⟨m1, w1, h1, h2, h3, h4⟩ := newObj_sound (P := P) hr (.defd true) (.deferred (some [])) fun m' w' _ hw => hw
    refine KOK.from h3 (.refl _ _) (.refl _) (enterLoop_sound (mark' := [{ target := .collected w.heap.size, args := #[] }]) hE g params assign body h2 h4 (ha.mono h3.le) (hu.mono h3.le) (.cons (.collected h4) .nil) fun w' hw' => ?_)
    simp only at hw'
    unfold Instr.enterLoop
    simp only [hro', Sem.run_bind, h1, Result.andThen, hw', Sem.run_pure]
  | some l =>
    obtain ⟨hk, e, hm, hro'⟩ := hro
    show KOK P m σ w b k cs _ (match σ.heap.get l with
      | some e => (match e.obj with
        | .loop _ _ _ _ _ _ _ _ _ _ d => Eng.enterLoop E b.fn g params.toList assign body d [] a u σ
        | _ => .no)
      | none => .no)
    cases hg : σ.heap.get l with
    | none => trivial
    | some ent =>
      simp only
      split
      · rename_i st pend fn loc tmp nl nt ps0 as0 bo0 d ho
        obtain ⟨_, hs⟩ := hr.sync l ent e trivial hg hm
        rw [ho] at hs
        obtain ⟨ts, ps, de, hw, ht, hp, hd⟩ := hs
        refine enterLoop_sound (mark' := []) hE g params assign body hr hd ha hu .nil fun w' hw' => ?_
        unfold Instr.enterLoop
        simp only [hro', Sem.run_bind, run_getLoop hw, Result.andThen, hw', Sem.run_pure]
      · trivial

omit [Pins] in
theorem putAll_rel : ∀ (l l' : List (Tmp × Value)) (a : FAct) (ts : Array Value), l.map (·.1) = l'.map (·.1) → LRel m (l.map (·.2)) (l'.map (·.2)) → ActRel m a { tmps := ts, defers := [] } →
    ActRel m (putAll a l) { tmps := l'.foldl (fun tmps (t, v) => tmps.setIfInBounds t v) ts, defers := [] } := by
  intro l
  induction l with
  | nil =>
    intro l' a ts h1 _ ha
    have : l' = [] := by simpa using h1.symm
    subst this
    exact ha
  | cons x l ih =>
    intro l' a ts h1 h2 ha
    cases l' with
    | nil => simp at h1
    | cons x' l' =>
      simp only [List.map_cons, List.cons.injEq] at h1
      have h3 := h2.head
      have h4 := h2.tail
      show ActRel m (putAll (a.put (some x.1) x.2) l) _
      have := ha.put (some x.1) h3
      refine ih l' _ _ h1.2 h4 ?_
      rw [h1.1] at this ⊢
      exact this

omit [Pins] in
theorem raise_round {ch : List PanicEntry} {todo : List Item} {fn : Func} {c' : Frame} (hf : P.funcs[b.fn]? = some fn) (hd : c.defers = []) :
    step P (lone { b.atR c todo with mode := .panicking ch } (c' :: cs) w) = .next (lone (c'.raise ch) cs w) :=
  step_leave_panicked (fr := { b.atR c todo with mode := .panicking ch }) ⟨rfl, hd, fn, hf⟩

theorem setJump_sound {l : Nat} {e : MEnt} {st : LoopState} {pend : Option Code} {σ' : FState} (hm : m l = some e) (hr : Rel Top m σ w) (hst : st = if pend.isNone then .ready else .done) (h : setJump σ l st pend = some σ') :
    ∃ w', (Instr.endRound e.blk pend).run P w = .ok (.bool pend.isNone) w' ∧ Rel Top m σ' w' ∧ Step σ σ' m m w w' := by
  unfold setJump at h
  cases hg : σ.heap.get l with
  | none => rw [hg] at h; cases h
  | some ent =>
    rw [hg] at h
    simp only at h
    split at h
    · rename_i s0 p0 fn loc tmp nl nt params assign body d ho
      cases hb : ent.ro with
      | true => rw [hb] at h; cases h
      | false =>
        rw [hb] at h
        cases h
        obtain ⟨_, hs⟩ := hr.sync l ent e trivial hg hm
        rw [ho] at hs
        obtain ⟨ts, ps, de, hw, ht, hp, hd⟩ := hs
        have hlt : e.blk < w.heap.size := (hr.dom _ _ hm).2
        have hend := run_endRound (P := P) pend hw
        obtain ⟨hR, hS⟩ := hr.putObj (.loop st pend fn loc tmp nl nt params assign body d) (.loop { state := st, pending := pend, fn, tmps := ts, params := ps, assign, body, defers := de.blk }) hg (by rw [ho]; rfl) hm hb
          ⟨ts, ps, de, by simp [hlt], ht, hp, hd⟩
        rw [← hst] at hend
        exact ⟨_, hend, hR, hS⟩
    · cases h

theorem round_ok (hE : EnvOK P E) (hD : DrawOK P E) (l : Nat) (args : List Value) (σ : FState) (m : Mp) (w : World) (args' : Array Value) (e : MEnt) (hr : Rel Top m σ w) (hA : LRel m args args'.toList) (hm : m l = some e) :
    RoundOK P m σ w e.blk args' (fround P H E l args σ) := by
  have hcode : ∀ x, CodeOK P E x (code P H x) := fun x => ccode_sound hE hD (range_ok hE) deep x
  unfold fround
  cases hg : σ.heap.get l with
  | none => trivial
  | some ent =>
    simp only
    split
    · rename_i s0 p0 fn loc tmp nl nt params assign body d ho
      cases hlen : Nat.beq (len args) (len params) with
      | false => trivial
      | true =>
        simp only [cond_true]
        rw [Nat.beq_eq, len_eq, len_eq] at hlen
        obtain ⟨_, hs⟩ := hr.sync l ent e trivial hg hm
        rw [ho] at hs
        obtain ⟨ts, ps, de, hw, ht, hp, hd⟩ := hs
        have hsz : args'.size = ps.size := by
          have h1 := hA.1
          have h2 := congrArg List.length hp
          simp at h1 h2
          omega
        have hy := run_yield (P := P) (args := args') hw hsz
        have hact : ActRel m (putAll ⟨loc, tmp, nl, nt, []⟩ (params.zip args)) { tmps := (ps.zip args').foldl (fun tmps (t, a) => tmps.setIfInBounds t a) ts, defers := [] } := by
          have h1 : (ps.zip args').toList = params.zip args'.toList := by simp [hp]
          rw [← Array.foldl_toList, h1]
          have h2 := hA.1
          refine putAll_rel _ _ _ _ ?_ ?_ ⟨ht, .nil⟩
          · rw [List.map_fst_zip (by omega), List.map_fst_zip (by omega)]
          · rw [List.map_snd_zip (by omega), List.map_snd_zip (by omega)]
            exact hA
        generalize putAll ⟨loc, tmp, nl, nt, []⟩ (params.zip args) = a0 at hact
        generalize (ps.zip args').foldl (fun tmps (t, a) => tmps.setIfInBounds t a) ts = ts0 at hact hy
        let b : Frame := { (default : Frame) with fn := fn, kind := .normal, roundOf := some e.blk }
        have hb0 : Frame.round e.blk fn ts0 assign body .normal = b.atR { tmps := ts0, defers := [] } [.code assign, .beginRound, .code body] := by
          simp [Frame.round, Frame.atR, b]
        -- the assignments
        have h1 : ∀ cs, KOK P m σ w b [.beginRound, .code body] cs (lone (Frame.round e.blk fn ts0 assign body .normal) cs w) (code P H assign E (some l) fn a0 none σ) := fun cs => by
          rw [hb0]
          exact hcode assign (some l) fn b [.beginRound, .code body] cs a0 _ none σ m w rfl hr hact rfl ⟨rfl, e, hm, rfl⟩
        cases hr1 : code P H assign E (some l) fn a0 none σ with
        | no => trivial
        | done x a1 u1 σ1 =>
          cases x with
          | normal =>
            simp only
            unfold beginRound
            cases hg1 : σ1.heap.get l with
            | none => trivial
            | some ent1 =>
              simp only
              split
              · rename_i p1 fn1 loc1 tmp1 nl1 nt1 params1 assign1 body1 d1 ho1
                cases hro1 : ent1.ro with
                | true => trivial
                | false =>
                  simp only [cond_false]
                  -- what every run comes to, up to the body
                  have h2 : ∀ cs, ∃ m2 w2 c2, Rel Top m2 (σ1.put l (.loop .busy p1 fn1 loc1 tmp1 nl1 nt1 params1 assign1 body1 d1) none) w2 ∧ Step σ (σ1.put l (.loop .busy p1 fn1 loc1 tmp1 nl1 nt1 params1 assign1 body1 d1) none) m m2 w w2 ∧
                      ActRel m2 a1 c2 ∧ St P (lone (Frame.round e.blk fn ts0 assign body .normal) cs w) (lone (b.atR c2 [.code body]) cs w2) := fun cs => by
                    have h1 := h1 cs
                    rw [hr1] at h1
                    obtain ⟨m', w', e', c', cs', g1, g2, g3, g4, g5, g6, g7⟩ := h1
                    cases g3
                    have hcs : cs' = cs := by
                      rcases g6 with h | ⟨h, _⟩
                      · exact h
                      · cases h
                    subst hcs
                    have hm' := g2.le _ _ hm
                    obtain ⟨_, hs⟩ := g1.sync l ent1 e trivial hg1 hm'
                    rw [ho1] at hs
                    obtain ⟨ts1, ps1, de1, hw1, ht1, hp1, hd1⟩ := hs
                    have hlt : e.blk < w'.heap.size := (g1.dom _ _ hm').2
                    have hbr := run_beginRound (P := P) hw1 rfl
                    obtain ⟨hR, hS⟩ := g1.putObj (.loop .busy p1 fn1 loc1 tmp1 nl1 nt1 params1 assign1 body1 d1) (.loop { state := .busy, pending := p1, fn := fn1, tmps := ts1, params := ps1, assign := assign1, body := body1, defers := de1.blk }) hg1 (by rw [ho1]; rfl) hm' hro1
                      ⟨ts1, ps1, de1, by simp [hlt], ht1, hp1, hd1⟩
                    exact ⟨m', _, c', hR, g2.trans hS, g4, StepsIn.trans g7 (.one trivial (stepR_beginRound rfl hbr))⟩
                  generalize σ1.put l (.loop .busy p1 fn1 loc1 tmp1 nl1 nt1 params1 assign1 body1 d1) none = σ2 at h2
                  have h3 : ∀ cs, ∃ m2 w2, Step σ σ2 m m2 w w2 ∧ m2 l = some e ∧ ∃ start, St P (lone (Frame.round e.blk fn ts0 assign body .normal) cs w) start ∧ KOK P m2 σ2 w2 b [] cs start (code P H body E (some l) fn a1 none σ2) := fun cs => by
                    obtain ⟨m2, w2, c2, hR, hS, hac, hst⟩ := h2 cs
                    exact ⟨m2, w2, hS, hS.le _ _ hm, _, hst, hcode body (some l) fn b [] cs a1 c2 none σ2 m2 w2 rfl hR hac rfl ⟨rfl, e, hS.le _ _ hm, rfl⟩⟩
                  have ends : ∀ (st : LoopState) (pend : Option Code) (a' : FAct) (u' : Option FrameMode) (σ' : FState) (x : Exit), code P H body E (some l) fn a1 none σ2 = .done x a' u' σ' → (st = if pend.isNone then .ready else .done) →
                      (∀ (c : Act) (cc : Frame) (cs : List Frame) (w0 w1 : World) (m' : Mp) (x' : Exit) (start : Machine) (v : Value), XRel m' x x' → ArrivesIn (fun _ => True) P start b [] (cc :: cs) x' c w0 → (Instr.endRound e.blk pend).run P w0 = .ok v w1 → St P start (lone (cc.finish v) cs w1)) →
                      RoundOK P m σ w e.blk args' (endJump l st pend pend.isNone σ') := fun st pend a' u' σ' x hbody hst harr => by
                    unfold endJump
                    cases hj : setJump σ' l st pend with
                    | none => trivial
                    | some σ'' =>
                      refine ⟨fn, ts0, assign, body, hy, fun cc cs => ?_⟩
                      obtain ⟨m2, w2, hS, hm2, start, hst0, hk⟩ := h3 (cc :: cs)
                      rw [hbody] at hk
                      obtain ⟨m', w', e', c', cs', g1, g2, g3, g4, g5, g6, g7⟩ := hk
                      have hcs : cs' = cc :: cs := by
                        rcases g6 with h | ⟨h, _⟩
                        · exact h
                        · cases h
                      subst hcs
                      obtain ⟨w'', k1, k2, k3⟩ := setJump_sound (P := P) (g2.le _ _ hm2) g1 hst hj
                      exact ⟨m', w'', _, k2, (hS.trans g2).trans k3, .bool _, StepsIn.trans hst0 (harr c' cc cs w' w'' m' e' start _ g3 g7 k1)⟩
                  cases hr2 : code P H body E (some l) fn a1 none σ2 with
                  | no => trivial
                  | done x a2 u2 σ3 =>
                    cases x with
                    | normal =>
                      exact ends .ready none a2 u2 σ3 .normal hr2 rfl fun c cc cs w0 w1 m' x' start v hx har hrun => by
                        cases hx
                        exact StepsIn.trans har (.one trivial (stepR_round_end rfl rfl hrun))
                    | ret =>
                      exact ends .done (some .ret) a2 u2 σ3 .ret hr2 rfl fun c cc cs w0 w1 m' x' start v hx har hrun => by
                        cases hx
                        obtain ⟨k₁, hs⟩ := har.2 rfl
                        exact StepsIn.trans hs (.one trivial (stepR_round_ret rfl rfl hrun))
                    | exit id =>
                      exact ends .done (some (.exit id)) a2 u2 σ3 (.exit id) hr2 rfl fun c cc cs w0 w1 m' x' start v hx har hrun => by
                        cases hx
                        obtain ⟨k₁, hk, hs⟩ := har.2 rfl rfl
                        exact StepsIn.trans hs (.one trivial (stepR_round_exit rfl rfl hk hrun))
                    | goto t =>
                      exact ends .done (some (.goto t)) a2 u2 σ3 (.goto t) hr2 rfl fun c cc cs w0 w1 m' x' start v hx har hrun => by
                        cases hx
                        obtain ⟨k₁, hk, hs⟩ := har.2 rfl rfl
                        exact StepsIn.trans hs (.one trivial (stepR_round_goto rfl rfl hk hrun))
                    | panic ch =>
                      show RoundOK P m σ w e.blk args' (cond ((P.funcs[fn]?).isSome && a2.defers.isEmpty) (.pan ch none σ3) .no)
                      cases hkn : ((P.funcs[fn]?).isSome && a2.defers.isEmpty) with
                      | false => trivial
                      | true =>
                        simp only [Bool.and_eq_true] at hkn
                        obtain ⟨fu, hfu⟩ := Option.isSome_iff_exists.1 hkn.1
                        have hem : a2.defers = [] := List.isEmpty_iff.1 hkn.2
                        refine ⟨fn, ts0, assign, body, hy, fun cc cs => ?_⟩
                        obtain ⟨m2, w2, hS, hm2, start, hst0, hk⟩ := h3 (cc :: cs)
                        rw [hr2] at hk
                        obtain ⟨m', w', e', c', cs', g1, g2, g3, g4, g5, g6, g7⟩ := hk
                        have hcs : cs' = cc :: cs := by
                          rcases g6 with h | ⟨h, _⟩
                          · exact h
                          · cases h
                        subst hcs
                        cases g3 with
                        | panic hC =>
                          obtain ⟨todo, hs⟩ := g7
                          have hd' : c'.defers = [] := by
                            have := g4.defers.1
                            rw [hem] at this
                            exact List.eq_nil_of_length_eq_zero this.symm
                          exact ⟨m', w', _, g1, hS.trans g2, hC, StepsIn.trans hst0 (StepsIn.trans hs (.one trivial (raise_round hfu hd')))⟩
                    | outgrown => trivial
              · trivial
          | _ => trivial
    · trivial
end
end Go.Eng
