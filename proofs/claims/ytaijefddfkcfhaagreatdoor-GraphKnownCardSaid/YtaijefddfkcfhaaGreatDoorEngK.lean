/- Slices cut; what is asked of interfaces; values made. -/
import Derived.Test.YtaijefddfkcfhaaGreatDoorEngJ
namespace Go.Eng
open Go
variable [Pins]

section
variable {P : Program} {m : Mp} {σ : FState} {w : World} {a : FAct} {c : Act}

omit [Pins] in
theorem upTo_some {y n : Nat} {v v' : Value} (hv : VRel m v v') (h : upTo y v = some n) : n ≤ y ∧ ∀ (y' : Nat) (code : BoundsCode), y ≤ y' → (Instr.sliceBound v' y' code).run P w = .ok n w := by
  unfold upTo at h
  cases hn : natOf v with
  | none => rw [hn] at h; cases h
  | some k =>
    rw [hn] at h
    simp only at h
    cases hb : Nat.ble k y with
    | false => rw [hb] at h; cases h
    | true =>
      rw [hb] at h
      cases h
      have hle : n ≤ y := by rwa [Nat.ble_eq] at hb
      obtain ⟨kk, rfl⟩ := natOf_eq hv hn
      refine ⟨hle, fun y' code hy => ?_⟩
      have h1 : (0 : Int) ≤ (n : Int) ∧ (n : Int) ≤ (y' : Int) := ⟨by omega, by omega⟩
      simp [Instr.sliceBound, asIntOf, h1]

omit [Pins] in
theorem bounds3_some {ln cap cap' l h mm : Nat} {lo hi mx lo' hi' mx' : Option Value} (hlo : ORel m lo lo') (hhi : ORel m hi hi') (hmx : ORel m mx mx') (hc : cap ≤ cap') (isS : Bool) (hb : bounds3 ln cap lo hi mx = some (l, h, mm)) :
    ∃ m', (Instr.sliceBounds isS ln cap' lo' hi' mx').run P w = .ok (l, h, m') w ∧ l ≤ h ∧ h ≤ mm ∧ mm ≤ m' ∧ (mx = none → mm = cap ∧ m' = cap') ∧ (mx.isSome = true → m' = mm) := by
  unfold bounds3 at hb
  cases h1 : mxOf cap mx with
  | none => rw [h1] at hb; cases hb
  | some m1 =>
    rw [h1] at hb
    simp only at hb
    cases h2 : hiOf ln m1 hi mx with
    | none => rw [h2] at hb; cases hb
    | some h3 =>
      rw [h2] at hb
      simp only at hb
      cases h4 : loOf h3 lo with
      | none => rw [h4] at hb; cases hb
      | some l1 =>
        rw [h4] at hb
        cases hb
        have hl : l ≤ h ∧ ∀ code, (match (generalizing := false) lo' with | some v => Instr.sliceBound v h code | none => pure 0 : Sem Nat).run P w = .ok l w := by
          cases lo with
          | none => cases lo' with
            | none => cases h4; exact ⟨Nat.zero_le _, fun _ => rfl⟩
            | some v' => exact hlo.elim
          | some v => cases lo' with
            | none => exact hlo.elim
            | some v' =>
              obtain ⟨h5, h6⟩ := upTo_some (P := P) (w := w) (v' := v') hlo h4
              exact ⟨h5, fun code => h6 h code (Nat.le_refl _)⟩
        cases mx with
        | none => cases mx' with
          | some v' => exact hmx.elim
          | none =>
            cases h1
            have hh : h ≤ cap ∧ ∀ code, (match (generalizing := false) hi' with | some v => Instr.sliceBound v cap' code | none => pure ln : Sem Nat).run P w = .ok h w := by
              cases hi with
              | none => cases hi' with
                | some v' => exact hhi.elim
                | none =>
                  simp only [hiOf] at h2
                  cases hbl : Nat.ble ln cap with
                  | false => rw [hbl] at h2; cases h2
                  | true =>
                    rw [hbl] at h2
                    cases h2
                    exact ⟨by rwa [Nat.ble_eq] at hbl, fun _ => rfl⟩
              | some v => cases hi' with
                | none => exact hhi.elim
                | some v' =>
                  obtain ⟨h5, h6⟩ := upTo_some (P := P) (w := w) (v' := v') hhi h2
                  exact ⟨h5, fun code => h6 cap' code hc⟩
            refine ⟨cap', ?_, hl.1, hh.1, hc, fun _ => ⟨rfl, rfl⟩, fun h => (by cases h)⟩
            have hl2 := hl.2
            have hh2 := hh.2
            cases hi' <;> cases lo' <;> simp_all [Instr.sliceBounds]
        | some v => cases mx' with
          | none => exact hmx.elim
          | some v' =>
            obtain ⟨h5, h6⟩ := upTo_some (P := P) (w := w) (v' := v') hmx h1
            cases hi with
            | none => simp [hiOf] at h2
            | some u => cases hi' with
              | none => exact hhi.elim
              | some u' =>
                obtain ⟨h7, h8⟩ := upTo_some (P := P) (w := w) (v' := u') hhi h2
                refine ⟨mm, ?_, hl.1, h7, Nat.le_refl _, fun h => (by cases h), fun _ => rfl⟩
                have hl2 := hl.2
                have hm2 := fun code => h6 cap' code hc
                have hh2 := fun code => h8 mm code (Nat.le_refl _)
                cases lo' <;> simp_all [Instr.sliceBounds]

theorem fslice_sound (hr : Rel Top m σ w) {t : TypeId} {x x' : Value} {lo hi mx lo' hi' mx' : Option Value} (hx : VRel m x x') (hlo : ORel m lo lo') (hhi : ORel m hi hi') (hmx : ORel m mx mx') :
    OSound P m σ w (do pure (.value (← Instr.sliceAt t x' lo' hi' mx'))) (fslice P t x lo hi mx σ) := by
  unfold fslice
  cases hu : under P t with
  | none => trivial
  | some d =>
    have hru := run_underlying (under_eq hu) w
    cases d with
    | string =>
      simp only
      split
      · rename_i s
        cases hx
        unfold fsliceS
        cases mx with
        | some v => trivial
        | none => cases mx' with
          | some v' => exact hmx.elim
          | none =>
            simp only
            cases hb : bounds3 s.size s.size lo hi none with
            | none => trivial
            | some q =>
              obtain ⟨l, h, mm⟩ := q
              obtain ⟨m', h1, _⟩ := bounds3_some (P := P) (w := w) hlo hhi (mx := none) (mx' := none) trivial (Nat.le_refl _) false hb
              exact .valueS hr (v' := .string (s.extract l h)) (by simp [Instr.sliceAt, Instr.slice, hru, h1]) (.string _)
      · trivial
    | slice e =>
      simp only
      cases hs : sizeOfT P e with
      | none => trivial
      | some size =>
        have hsz := fun w => run_sizeOf hs w
        simp only
        split
        · rename_i q ln cap
          unfold fsliceL
          cases hb : bounds3 ln cap lo hi mx with
          | none => trivial
          | some p =>
            obtain ⟨l, h, mm⟩ := p
            simp only
            cases hx with
            | nilSlice =>
              obtain ⟨m', h1, h2, h3, h4, h5, h6⟩ := bounds3_some (P := P) (w := w) hlo hhi hmx (Nat.le_refl _) true hb
              have hmm : m' = mm := by
                cases mx with
                | none => have := h5 rfl; omega
                | some v => exact h6 rfl
              subst hmm
              refine .valueS hr (v' := .slice none (h - l) (m' - l)) ?_ (.nilSlice _ _)
              simp [Instr.sliceAt, Instr.slice, hru, h1, hsz]
            | empty hm =>
              rename_i b off e0 a'
              simp only
              cases hk : capOk size mx b σ with
              | false => trivial
              | true =>
                obtain ⟨m', h1, h2, h3, h4, h5, h6⟩ := bounds3_some (P := P) (w := w) hlo hhi hmx (Nat.le_refl _) true hb
                have hz : mm = 0 ∧ m' = 0 := by
                  have h7 : mm ≤ 0 := by
                    unfold bounds3 at hb
                    cases mx with
                    | none => exact Nat.le_of_eq (h5 rfl).1
                    | some v =>
                      cases hq : mxOf 0 (some v) with
                      | none => rw [hq] at hb; cases hb
                      | some q =>
                        rw [hq] at hb
                        cases mx' with
                        | none => exact hmx.elim
                        | some v' =>
                          have := (upTo_some (P := P) (w := w) (v' := v') hmx hq).1
                          simp only at hb
                          cases h8 : hiOf 0 q hi (some v) with
                          | none => rw [h8] at hb; cases hb
                          | some q1 =>
                            rw [h8] at hb
                            simp only at hb
                            cases h9 : loOf q1 lo with
                            | none => rw [h9] at hb; cases hb
                            | some q2 =>
                              rw [h9] at hb
                              cases hb
                              exact this
                  cases mx with
                  | none => exact ⟨by omega, (h5 rfl).2⟩
                  | some v => exact ⟨by omega, by have := h6 rfl; omega⟩
                obtain ⟨rfl, rfl⟩ := hz
                have : h = 0 := by omega
                subst this
                have : l = 0 := by omega
                subst this
                refine .valueS hr (v' := .slice (some a') 0 0) ?_ (.empty hm)
                simp [Instr.sliceAt, Instr.slice, hru, h1, hsz]
            | slice hm hc =>
              rename_i b off cap' e0
              simp only
              cases hk : capOk size mx b σ with
              | false => trivial
              | true =>
                have hcc : cap ≤ cap' := by
                  rcases hc with hc | ⟨_, _, _, _, _, hc, _⟩ <;> omega
                obtain ⟨m', h1, h2, h3, h4, h5, h6⟩ := bounds3_some (P := P) (w := w) hlo hhi hmx hcc true hb
                by_cases hml : m' = l
                · have e1 : mm = l := by omega
                  have e2 : h = l := by omega
                  subst e1
                  subst e2
                  subst hml
                  simp only [Nat.sub_self]
                  refine .valueS hr (v' := .slice (some ⟨e0.blk, e0.sh + off, none⟩) 0 0) ?_ (.empty hm)
                  simp [Instr.sliceAt, Instr.slice, hru, h1, hsz]
                · refine .valueS hr (v' := .slice (some ⟨e0.blk, e0.sh + (off + l * size), none⟩) (h - l) (m' - l)) ?_ (.slice hm ?_)
                  · simp [Instr.sliceAt, Instr.slice, hru, h1, hsz, hml, addr_add, Nat.add_assoc]
                  · cases mx with
                    | some v => exact .inl (by have := h6 rfl; omega)
                    | none =>
                      obtain ⟨e1, e2⟩ := h5 rfl
                      rcases hc with hc | ⟨esz, asz, csz, hcap, h7, h8, h9⟩
                      · exact .inl (by omega)
                      · have hes : esz = size := by
                          unfold capOk at hk
                          simp only at hk
                          cases hg : σ.heap.get b with
                          | none => rw [hg] at hk; cases hk
                          | some ent =>
                            rw [hg] at hk
                            obtain ⟨_, hsy⟩ := hr.sync b ent e0 trivial hg hm
                            cases ho : ent.obj with
                            | cells cs el =>
                              rw [ho] at hsy
                              simp only [ho] at hk
                              obtain ⟨c', el', fr, _, _, _, hfz⟩ := hsy
                              cases hf : ent.fz with
                              | none => rw [hf] at hfz; rw [hfz.none_cap] at hcap; cases hcap
                              | some k =>
                                rw [hf] at hfz
                                simp only [hf] at hk
                                rw [hfz.some_cap] at hcap
                                cases hcap
                                exact Nat.eq_of_beq_eq_true hk
                            | _ => simp [ho] at hk
                        subst hes
                        refine .inr ⟨esz, asz, csz, hcap, ?_, by omega, ?_⟩
                        · rw [e1]
                          have h10 : l * esz + (cap - l) * esz = cap * esz := by
                            rw [← Nat.add_mul]
                            congr 1
                            omega
                          omega
                        · rw [e2]
                          have h10 : l * esz + (cap' - l) * esz = cap' * esz := by
                            rw [← Nat.add_mul]
                            congr 1
                            omega
                          omega
        · trivial
    | array n e =>
      simp only
      cases hs : sizeOfT P e with
      | none => trivial
      | some size =>
        have hsz := fun w => run_sizeOf hs w
        simp only
        split
        · rename_i b off
          cases hx with
          | ptr hm =>
            rename_i e0
            unfold fsliceA
            cases hb : bounds3 n n lo hi mx with
            | none => trivial
            | some p =>
              obtain ⟨l, h, mm⟩ := p
              obtain ⟨m', h1, h2, h3, h4, h5, h6⟩ := bounds3_some (P := P) (w := w) hlo hhi hmx (Nat.le_refl _) false hb
              have hmm : m' = mm := by
                cases mx with
                | none => have := h5 rfl; omega
                | some v => exact h6 rfl
              subst hmm
              by_cases hml : m' = l
              · have e2 : h = l := by omega
                subst e2
                subst hml
                simp only [Nat.sub_self]
                refine .valueS hr (v' := .slice (some ⟨e0.blk, e0.sh + off, none⟩) 0 0) ?_ (.empty hm)
                simp [Instr.sliceAt, Instr.sureAddr, hru, h1, hsz]
              · refine .valueS hr (v' := .slice (some ⟨e0.blk, e0.sh + (off + l * size), none⟩) (h - l) (m' - l)) ?_ (.slice hm (.inl rfl))
                simp [Instr.sliceAt, Instr.sureAddr, hru, h1, hsz, hml, addr_add, Nat.add_assoc]
        · trivial
    | _ => trivial
end
end Go.Eng
