/- Drawn regions, last part: their plans; the reading's worth for whole programs. -/
import Derived.Test.YtaijefddfkcfhaaGreatDoorEngAG
namespace Go.Eng
open Go
variable [Pins]

omit [Pins] in
theorem plan_ok {ops : Array Oper} {p : Plan} (h : plan ops = some p) : dstsOk (dstsOf ops) = true ∧ planOk2 ops (clos ops ops.size) (dstsOf ops) p = true := by
  have h2 : ∀ q, plan2 ops (clos ops ops.size) (dstsOf ops) q = some p → dstsOk (dstsOf ops) = true ∧ planOk2 ops (clos ops ops.size) (dstsOf ops) p = true := fun q hq => by
    unfold plan2 at hq
    cases hc : (dstsOk (dstsOf ops) && planOk2 ops (clos ops ops.size) (dstsOf ops) q) with
    | false => rw [hc] at hq; cases hq
    | true =>
      rw [hc] at hq
      cases hq
      rw [Bool.and_eq_true] at hc
      exact hc
  unfold plan at h
  simp only at h
  split at h
  · rename_i q hq
    cases h
    exact h2 _ hq
  · split at h
    · split at h
      · exact h2 _ h
      · cases h
    · cases h

omit [Pins] in
theorem isStore_spec {ops : Array Oper} {i : Nat} (h : isStore ops i = true) : ∃ o t x v, ops[i]? = some o ∧ o.op = .store t x v ∧ o.dst = none ∧ o.guard = none := by
  unfold isStore at h
  cases ho : ops[i]? with
  | none => rw [ho] at h; cases h
  | some o =>
    rw [ho] at h
    simp only at h
    split at h
    · rename_i t x v h1 h2 h3
      exact ⟨o, t, x, v, rfl, h1, h2, h3⟩
    · cases h

def glue (T1 T2 : Nat → TS) (fin : TS) (n l : Nat) : Nat → TS := fun k => if k ≤ n then T1 k else if k ≤ n + 1 + l then T2 (k - n - 1) else fin

section
variable {P : Program} {E : Env}

omit [Pins] in
theorem cstore_eq {ops : Array Oper} {i : Nat} {o : Oper} {t : TypeId} {x v : Operand} (ho : ops[i]? = some o) (hop : o.op = .store t x v) {s : SOp} (h : (cstore P ops i).un = some s) : ∃ n, sizeOfT P t = some n ∧ s = ⟨n, (cget x).un, (cget v).un⟩ := by
  unfold cstore at h
  rw [ho] at h
  simp only [hop] at h
  cases hs : sizeOfT P t with
  | none => rw [hs] at h; cases h
  | some n =>
    rw [hs] at h
    cases h
    exact ⟨n, rfl, rfl⟩

omit [Pins] in
theorem store_step {ro : Option Nat} {ops : Array Oper} {o : Oper} {t : TypeId} {x v : Operand} {n : Nat} {a : FAct} {u : Option FrameMode} {σ σ' : FState} {cl : List Nat} (hop : o.op = .store t x v) (hd : o.dst = none) (hg : o.guard = none) (hn : sizeOfT P t = some n)
    (h : fstore n ((cget x).un a) ((cget v).un a) σ = .skip σ') : StepT P E ro ops o none ⟨a, u, σ, cl⟩ ⟨a, u, σ', cl ++ [σ'.clock]⟩ := by
  refine .anch rfl (by rw [hg]; rfl) ?_ rfl
  show stepOp E ro o.dst a u ((cop P o.op).un a σ) = .done .normal a u σ'
  rw [hop, cop_store hn, h, hd]
  rfl

theorem draw_ok (hm : P.follows .mixedOrders = true) (hE : EnvOK P E) : DrawOK P E := by
  intro id ops p hplan ro fn b k cs a c u σ m w hb hr ha hu hro
  obtain ⟨hd, hp2⟩ := plan_ok hplan
  show KOK P m σ w b k cs _ (fdraw E ro ((cswap P ops p.tail).un E ro) (cdops P ops p.main).un [σ.clock] a u σ)
  generalize hres : fdraw E ro ((cswap P ops p.tail).un E ro) (cdops P ops p.main).un [σ.clock] a u σ = r
  by_cases hno : r = .no
  · rw [hno]; trivial
  obtain ⟨main, tail⟩ := p
  unfold planOk2 at hp2
  cases tail with
  | none =>
    simp only [Bool.and_eq_true, List.all_eq_true] at hp2
    obtain ⟨hp, hsn⟩ := hp2
    obtain ⟨T, Np, hT⟩ := fdraw_trace (P := P) (E := E) (ro := ro) ((cswap P ops none).un E ro) main (fun q hq => by
      obtain ⟨j, hj, he⟩ := List.getElem_of_mem hq
      obtain ⟨o, hs⟩ := spot hp (L := main) (k := j) (p := q) (by rw [List.getElem?_eq_getElem hj, he])
      exact ⟨o, hs.ho⟩) ⟨a, u, σ, [σ.clock]⟩ (by
        show fdraw E ro ((cswap P ops none).un E ro) (cdops P ops main).un [σ.clock] a u σ ≠ .no
        rw [hres]; exact hno)
    have hT' : Trace P E ro ops ((cswap P ops none).un E ro) main ⟨a, u, σ, [σ.clock]⟩ r T Np := by
      rw [← hres]
      exact hT
    have hend : EndOK P E ro (mkPl hp hd) T Np r := by
      rcases hT'.fin with ⟨h1, h2⟩ | ⟨h1, p, o, e, a', u', σ', g1, g2, g3, g4, g5, g6, g7, g8⟩
      · refine .inl ⟨h1, ?_⟩
        rw [h2, h1]
        rfl
      · exact end_panic hp hd h1 g1 g2 g3 g4 g5 g6 g7 g8
    exact draw_main hE hm hp hd hT'.le hT'.st hend (fun k p j q h1 _ _ _ h5 => by
      have h6 := hsn p (List.mem_of_getElem? h1)
      rw [h5] at h6
      cases h6) hT'.zero hr ha hu hro
  | some bfa =>
    obtain ⟨B, fl, A⟩ := bfa
    simp only [Bool.and_eq_true, List.all_eq_true] at hp2
    obtain ⟨⟨⟨⟨⟨⟨⟨⟨hp, hsn⟩, hfl⟩, hBs⟩, hBf⟩, hAf⟩, hAs⟩, hAst⟩, hBst⟩ := hp2
    have hBf' : B.flt = none := Option.isNone_iff_eq_none.1 hBf
    have hAf' : A.flt = none := Option.isNone_iff_eq_none.1 hAf
    have hAsw : A.sw = some B.i := by
      cases hs : A.sw with
      | none => rw [hs] at hAs; cases hAs
      | some j =>
        rw [hs] at hAs
        simp only [Nat.beq_eq] at hAs
        rw [hAs]
    -- where things stand
    have hLm : ∀ k, k < main.length → (main ++ B :: (fl ++ [A]))[k]? = main[k]? := fun k hk => List.getElem?_append_left hk
    have hLB : (main ++ B :: (fl ++ [A]))[main.length]? = some B := by
      rw [List.getElem?_append_right (Nat.le_refl _)]
      simp
    have hLf : ∀ j, j < fl.length → (main ++ B :: (fl ++ [A]))[main.length + 1 + j]? = fl[j]? := fun j hj => by
      rw [List.getElem?_append_right (by omega)]
      have : main.length + 1 + j - main.length = j + 1 := by omega
      rw [this, List.getElem?_cons_succ, List.getElem?_append_left hj]
    have hLA : (main ++ B :: (fl ++ [A]))[main.length + 1 + fl.length]? = some A := by
      rw [List.getElem?_append_right (by omega)]
      have : main.length + 1 + fl.length - main.length = fl.length + 1 := by omega
      rw [this, List.getElem?_cons_succ, List.getElem?_append_right (Nat.le_refl _)]
      simp
    have hlen : (main ++ B :: (fl ++ [A])).length = main.length + 1 + fl.length + 1 := by
      simp
      omega
    have hop : ∀ q ∈ main ++ B :: (fl ++ [A]), ∃ o, ops[q.i]? = some o := fun q hq => by
      obtain ⟨j, hj, he⟩ := List.getElem_of_mem hq
      obtain ⟨o, hs⟩ := spot hp (k := j) (p := q) (by rw [List.getElem?_eq_getElem hj, he])
      exact ⟨o, hs.ho⟩
    have hswmain : ∀ k p, k < main.length → (main ++ B :: (fl ++ [A]))[k]? = some p → p.sw = none := fun k p hk h1 => by
      rw [hLm k hk] at h1
      exact Option.isNone_iff_eq_none.1 (hsn p (List.mem_of_getElem? h1))
    obtain ⟨T1, N1, hT1⟩ := fdraw_trace (P := P) (E := E) (ro := ro) ((cswap P ops (some (B, fl, A))).un E ro) main (fun q hq => hop q (by simp [hq])) ⟨a, u, σ, [σ.clock]⟩ (by
        show fdraw E ro ((cswap P ops (some (B, fl, A))).un E ro) (cdops P ops main).un [σ.clock] a u σ ≠ .no
        rw [hres]; exact hno)
    have hT1' : Trace P E ro ops ((cswap P ops (some (B, fl, A))).un E ro) main ⟨a, u, σ, [σ.clock]⟩ r T1 N1 := by
      rw [← hres]
      exact hT1
    clear hT1
    rcases hT1'.fin with ⟨h1, h2⟩ | ⟨h1, p, o, e, a', u', σ', g1, g2, g3, g4, g5, g6, g7, g8⟩
    · -- the main part ends normally
      obtain ⟨oB, tB, xB, vB, hoB, hopB, hdB, hgB⟩ := isStore_spec hBst
      obtain ⟨oA, tA, xA, vA, hoA, hopA, hdA, hgA⟩ := isStore_spec hAst
      rw [h1] at h2
      have h2' : r = (match (cstore P ops B.i).un, (cstore P ops A.i).un with
        | some sb, some sa => (⟨fun E ro => fswap E ro sb sa (cdops P ops fl).un⟩ : Bx (Env → Option Nat → List Nat → RunF))
        | _, _ => ⟨fun _ _ _ _ _ _ => .no⟩).un E ro (T1 main.length).cl (T1 main.length).a (T1 main.length).u (T1 main.length).σ := h2
      cases hcB : (cstore P ops B.i).un with
      | none => rw [hcB] at h2'; exact absurd h2' hno
      | some sb =>
        cases hcA : (cstore P ops A.i).un with
        | none => rw [hcB, hcA] at h2'; exact absurd h2' hno
        | some sa =>
          rw [hcB, hcA] at h2'
          obtain ⟨nB, hnB, rfl⟩ := cstore_eq hoB hopB hcB
          obtain ⟨nA, hnA, rfl⟩ := cstore_eq hoA hopA hcA
          simp only [fswap] at h2'
          generalize hTm : T1 main.length = tm at h2'
          obtain ⟨am, um, σm, clm⟩ := tm
          simp only at h2'
          split at h2'
          · rename_i σ1 hst1
            obtain ⟨T2, N2, hT2⟩ := fdraw_trace (P := P) (E := E) (ro := ro) (fswapA ⟨nA, (cget xA).un, (cget vA).un⟩ ((cget xB).un am) nB σ1.next) fl (fun q hq => hop q (by simp [hq])) ⟨am, um, σ1, clm ++ [σ1.clock]⟩ (by
              show fdraw E ro _ (cdops P ops fl).un (clm ++ [σ1.clock]) am um σ1 ≠ .no
              rw [← h2']; exact hno)
            have hT2' : Trace P E ro ops (fswapA ⟨nA, (cget xA).un, (cget vA).un⟩ ((cget xB).un am) nB σ1.next) fl ⟨am, um, σ1, clm ++ [σ1.clock]⟩ r T2 N2 := by
              rw [h2']
              exact hT2
            clear hT2
            rcases hT2'.fin with ⟨k1, k2⟩ | ⟨k1, p, o, e, a', u', σ', g1, g2, g3, g4, g5, g6, g7, g8⟩
            · rw [k1] at k2
              generalize hTf : T2 fl.length = tf at k2
              obtain ⟨af, uf, σf, clf⟩ := tf
              simp only [fswapA] at k2
              cases hc : (Nat.beq σf.next σ1.next && apartP nA nB ((cget xA).un af) ((cget xB).un am)) with
              | false =>
                rw [hc] at k2
                exact absurd k2 hno
              | true =>
                rw [hc] at k2
                simp only [cond_true] at k2
                rw [Bool.and_eq_true, Nat.beq_eq] at hc
                split at k2
                · rename_i σ2 hst2
                  -- the whole way
                  let T := glue T1 T2 ⟨af, uf, σ2, clf ++ [σ2.clock]⟩ main.length fl.length
                  have tM : ∀ k, k ≤ main.length → T k = T1 k := fun k hk => if_pos hk
                  have tF : ∀ j, j ≤ fl.length → T (main.length + 1 + j) = T2 j := fun j hj => by
                    show (if main.length + 1 + j ≤ main.length then T1 (main.length + 1 + j) else if main.length + 1 + j ≤ main.length + 1 + fl.length then T2 (main.length + 1 + j - main.length - 1) else _) = _
                    rw [if_neg (by omega), if_pos (by omega)]
                    congr 1
                    omega
                  have tE : T (main.length + 1 + fl.length + 1) = ⟨af, uf, σ2, clf ++ [σ2.clock]⟩ := by
                    show (if main.length + 1 + fl.length + 1 ≤ main.length then T1 _ else if main.length + 1 + fl.length + 1 ≤ main.length + 1 + fl.length then T2 _ else _) = _
                    rw [if_neg (by omega), if_neg (by omega)]
                  have tB : T main.length = ⟨am, um, σm, clm⟩ := by rw [tM _ (Nat.le_refl _), hTm]
                  have tB1 : T (main.length + 1) = ⟨am, um, σ1, clm ++ [σ1.clock]⟩ := by
                    have := tF 0 (Nat.zero_le _)
                    rw [hT2'.zero] at this
                    exact this
                  have tA : T (main.length + 1 + fl.length) = ⟨af, uf, σf, clf⟩ := by rw [tF _ (Nat.le_refl _), hTf]
                  have st : ∀ k, k < main.length + 1 + fl.length + 1 → ∃ p o, (main ++ B :: (fl ++ [A]))[k]? = some p ∧ ops[p.i]? = some o ∧ StepT P E ro ops o p.flt (T k) (T (k + 1)) := fun k hk => by
                    by_cases hkm : k < main.length
                    · obtain ⟨p, o, q1, q2, q3⟩ := hT1'.st k (by omega)
                      exact ⟨p, o, by rw [hLm k hkm]; exact q1, q2, by rw [tM k (by omega), tM (k + 1) (by omega)]; exact q3⟩
                    · by_cases hkB : k = main.length
                      · subst hkB
                        refine ⟨B, oB, hLB, hoB, ?_⟩
                        rw [hBf', tB, tB1]
                        exact store_step hopB hdB hgB hnB hst1
                      · by_cases hkf : k < main.length + 1 + fl.length
                        · obtain ⟨j, rfl⟩ : ∃ j, k = main.length + 1 + j := ⟨k - main.length - 1, by omega⟩
                          obtain ⟨p, o, q1, q2, q3⟩ := hT2'.st j (by omega)
                          exact ⟨p, o, by rw [hLf j (by omega)]; exact q1, q2, by
                            rw [tF j (by omega)]
                            have := tF (j + 1) (by omega)
                            rw [show main.length + 1 + (j + 1) = main.length + 1 + j + 1 by omega] at this
                            rw [this]
                            exact q3⟩
                        · have hkA : k = main.length + 1 + fl.length := by omega
                          subst hkA
                          refine ⟨A, oA, hLA, hoA, ?_⟩
                          rw [hAf', tA, tE]
                          exact store_step hopA hdA hgA hnA hst2
                  have hN : (mkPl hp hd).N = main.length + 1 + fl.length + 1 := hlen
                  have opB : (mkPl hp hd).op main.length = oB := opOf_eq hLB hoB
                  have opA : (mkPl hp hd).op (main.length + 1 + fl.length) = oA := opOf_eq hLA hoA
                  have sw : Sw P (mkPl hp hd) T (main.length + 1 + fl.length + 1) main.length (main.length + 1 + fl.length) :=
                    { np := hN.symm
                      N := hN.symm
                      lt := by omega
                      tB := _, xB, vB, nB, tA := _, xA, vA, nA
                      opB := by rw [opB]; exact hopB
                      gB := by rw [opB]; exact hgB
                      dB := by rw [opB]; exact hdB
                      fB := by show fltOf _ main.length = none; rw [fltOf_eq hLB]; exact hBf'
                      szB := hnB
                      opA := by rw [opA]; exact hopA
                      gA := by rw [opA]; exact hgA
                      dA := by rw [opA]; exact hdA
                      fA := by show fltOf _ (main.length + 1 + fl.length) = none; rw [fltOf_eq hLA]; exact hAf'
                      szA := hnA
                      mid := fun j h3 h4 => by
                        obtain ⟨i, rfl⟩ : ∃ i, j = main.length + 1 + i := ⟨j - main.length - 1, by omega⟩
                        have hi : i < fl.length := by omega
                        show (fltOf _ (main.length + 1 + i)).isSome = true
                        have h5 := hLf i hi
                        rw [List.getElem?_eq_getElem hi] at h5
                        rw [fltOf_eq h5]
                        exact (hfl _ (List.getElem_mem hi)).2
                      next := by rw [tA, tB1]; exact hc.1
                      stB := by rw [tB1, tB]; exact hst1
                      aB := by rw [tB1, tB]
                      uB := by rw [tB1, tB]
                      stA := by rw [tE, tA]; exact hst2
                      aA := by rw [tE, tA]
                      uA := by rw [tE, tA]
                      apart := by rw [tA, tB]; exact hc.2 }
                  have hend : EndOK P E ro (mkPl hp hd) T (main.length + 1 + fl.length + 1) r := by
                    refine .inl ⟨hN.symm, ?_⟩
                    rw [hN, tE]
                    exact k2
                  refine draw_main hE hm hp hd (by rw [hlen]; exact Nat.le_refl _) (fun k hk => st k hk) hend (fun k p j q h1 h2 h3 h4 h5 => ?_) (by rw [tM 0 (Nat.zero_le _)]; exact hT1'.zero) hr ha hu hro
                  -- only the last may overtake, and only B
                  have hkl := (List.getElem?_eq_some_iff.1 h1).1
                  rw [hlen] at hkl
                  have hkA : k = main.length + 1 + fl.length := Classical.byContradiction fun hne => by
                    by_cases hkm : k < main.length
                    · have := hswmain k p hkm h1
                      rw [h5] at this
                      cases this
                    · by_cases hkB : k = main.length
                      · subst hkB
                        rw [hLB] at h1
                        cases h1
                        rw [h5] at hBs
                        cases hBs
                      · obtain ⟨i, rfl⟩ : ∃ i, k = main.length + 1 + i := ⟨k - main.length - 1, by omega⟩
                        have hi : i < fl.length := by omega
                        rw [hLf i hi] at h1
                        have := (hfl p (List.mem_of_getElem? h1)).1
                        rw [h5] at this
                        cases this
                  subst hkA
                  rw [hLA] at h1
                  cases h1
                  rw [hAsw] at h5
                  have hij := Option.some.inj h5
                  have hjB : j = main.length := ix_inj hp ((List.getElem?_eq_some_iff.1 h3).1) (by rw [hlen]; omega) (by rw [ixOf_eq h3, ixOf_eq hLB, hij])
                  subst hjB
                  exact ⟨sw⟩
                · exact absurd k2 hno
            · have := (hfl p (List.mem_of_getElem? g1)).2
              rw [g3] at this
              cases this
          · exact absurd h2' hno
    · -- a panic in the main part
      have hlt : N1 < (main ++ B :: (fl ++ [A])).length := by rw [hlen]; omega
      have hend := end_panic (P := P) (E := E) (ro := ro) (T := T1) hp hd hlt (by rw [hLm N1 h1]; exact g1) g2 g3 g4 g5 g6 g7 g8
      refine draw_main hE hm hp hd (by omega) (fun k hk => ?_) hend (fun k p j q q1 q2 q3 q4 q5 => ?_) hT1'.zero hr ha hu hro
      · obtain ⟨p, o, q1, q2, q3⟩ := hT1'.st k hk
        exact ⟨p, o, by rw [hLm k (by omega)]; exact q1, q2, q3⟩
      · have := hswmain k p (by omega) q1
        rw [q5] at this
        cases this

/-- The reading is right. -/
theorem fenv_ok {S : Sums} (hS : SumOK P S) (hm : P.follows .mixedOrders = true) (hname : ∀ (f : FuncId) (fn : Func), P.funcs[f]? = some fn → (fn.name == "runtime.NumGoroutine") = false) (nls : Hints) (n : Nat)  : EnvOK P (fenv P S nls n) :=
  env_ok hS (fun _ hE => draw_ok hm hE) hname nls n
end
end Go.Eng
