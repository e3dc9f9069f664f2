/- Single operations, one by one. -/
import Derived.Test.YtaijefddfkcfhaaGreatDoorEngC
namespace Go.Eng
open Go
variable [Pins]

section
variable {P : Program} {m : Mp} {σ : FState} {w : World} {a : FAct} {c : Act}

omit [Pins] in
theorem cells_some {σ : FState} {b : Nat} {l : List Value} (h : σ.cells b = some l) : ∃ ent el, σ.heap.get b = some ent ∧ ent.obj = .cells l el := by
  unfold FState.cells at h
  cases hg : σ.heap.get b with
  | none => rw [hg] at h; cases h
  | some ent =>
    rw [hg] at h
    cases ho : ent.obj with
    | cells c el =>
      simp only [ho] at h
      cases h
      exact ⟨ent, el, rfl, ho⟩
    | _ => simp only [ho] at h; cases h

/-- The cells of a block that the reading knows, in the model's memory. -/
theorem Rel.cells (hr : Rel Top m σ w) {b : Nat} {l : List Value} {e : MEnt} (hm : m b = some e) (h : σ.cells b = some l) :
    ∀ (i : Nat) (v : Value), l[i]? = some v → ∃ v', w.cell? ⟨e.blk, e.sh + i, none⟩ = some v' ∧ VRel m v v' := by
  obtain ⟨ent, el, hg, ho⟩ := cells_some h
  obtain ⟨_, hs⟩ := hr.sync b ent e trivial hg hm
  rw [ho] at hs
  obtain ⟨c', el', fr, h1, _, h3, _⟩ := hs
  intro i v hv
  obtain ⟨v', h4, h5⟩ := h3 i v hv
  exact ⟨v', by simp [World.cell?, h1, h4], h5⟩

/-- So many cells from one on. -/
theorem Rel.cellsFrom (hr : Rel Top m σ w) {b off n : Nat} {l cs : List Value} {e : MEnt} (hm : m b = some e) (h : σ.cells b = some l) (ht : takeN n (dropN off l) = some cs) :
    ∃ cs' : List Value, LRel m cs cs' ∧ cs.length = n ∧ ∀ j v, cs'[j]? = some v → w.cell? ((⟨e.blk, e.sh + off, none⟩ : Addr).add j) = some v := by
  rw [takeN_eq, dropN_eq] at ht
  by_cases hn : n ≤ (l.drop off).length
  · rw [if_pos hn] at ht
    cases ht
    have hlen : ((l.drop off).take n).length = n := by rw [List.length_take]; omega
    have key : ∀ j, j < n → ∃ v', w.cell? ((⟨e.blk, e.sh + off, none⟩ : Addr).add j) = some v' ∧ ∀ v, ((l.drop off).take n)[j]? = some v → VRel m v v' := by
      intro j hj
      have hj' : off + j < l.length := by rw [List.length_drop] at hn; omega
      obtain ⟨v', h1, h2⟩ := hr.cells hm h (off + j) l[off + j] (List.getElem?_eq_getElem hj')
      refine ⟨v', ?_, fun v hv => ?_⟩
      · rw [← h1]
        congr 1
        unfold Addr.add
        split
        · simp [*]
        · simp [Nat.add_assoc]
      · rw [List.getElem?_take_of_lt hj, List.getElem?_drop, List.getElem?_eq_getElem hj'] at hv
        cases hv
        exact h2
    refine ⟨(List.range n).map fun j => (w.cell? ((⟨e.blk, e.sh + off, none⟩ : Addr).add j)).getD undef, ⟨by simp [hlen], fun j v v' hv hv' => ?_⟩, hlen, fun j v hv => ?_⟩
    · have hj : j < n := by
        have := (List.getElem?_eq_some_iff.1 hv).1
        omega
      obtain ⟨u, h1, h2⟩ := key j hj
      simp [hj, h1] at hv'
      subst hv'
      exact h2 v hv
    · have hj : j < n := by
        have := (List.getElem?_eq_some_iff.1 hv).1
        simpa using this
      obtain ⟨u, h1, h2⟩ := key j hj
      simp [hj, h1] at hv
      subst hv
      exact h1
  · rw [if_neg hn] at ht
    cases ht

omit [Pins] in
theorem aggSize_some {t : TypeId} {n : Nat} (h : aggSize P t = some (some n)) (w : World) : (isAgg t).run P w = .ok true w ∧ (sizeOf t).run P w = .ok n w := by
  unfold aggSize at h
  cases hu : under P t with
  | none => rw [hu] at h; cases info P t <;> cases h
  | some d =>
    cases hi : info P t with
    | none => rw [hu, hi] at h; cases d <;> cases h
    | some i =>
      rw [hu, hi] at h
      have h2 : (sizeOf t).run P w = .ok i.size w := run_sizeOf (by simp [sizeOfT, hi]) w
      cases d <;> cases h
      · exact ⟨by simp [isAgg, run_underlying (under_eq hu)], h2⟩
      · exact ⟨by simp [isAgg, run_underlying (under_eq hu)], h2⟩
omit [Pins] in
theorem aggSize_none {t : TypeId} (h : aggSize P t = some none) (w : World) : (isAgg t).run P w = .ok false w := by
  unfold aggSize at h
  cases hu : under P t with
  | none => rw [hu] at h; cases info P t <;> cases h
  | some d =>
    cases hi : info P t with
    | none => rw [hu, hi] at h; cases d <;> cases h
    | some i =>
      rw [hu, hi] at h
      cases d <;> first | (exfalso; simp at h; done) | simp [isAgg, run_underlying (under_eq hu)]

theorem fload_sound (hr : Rel Top m σ w) {t : TypeId} {sz : Option Nat} (ht : aggSize P t = some sz) {v v' : Value} (hv : VRel m v v') :
    OSound P m σ w (do pure (.value (← Instr.loadAt t v'))) (fload sz v σ) := by
  unfold fload
  split
  · rename_i b off
    cases hv with
    | ptr hm =>
      rename_i e
      cases hc : σ.cells b with
      | none => trivial
      | some l =>
        cases sz with
        | some n =>
          cases htk : takeN n (dropN off l) with
          | none => simp only [htk]; trivial
          | some cs =>
            simp only [htk]
            obtain ⟨cs', h1, h2, h3⟩ := hr.cellsFrom hm hc htk
            obtain ⟨h4, h5⟩ := aggSize_some ht w
            refine .valueS hr (v' := .agg cs'.toArray) ?_ h1.agg
            have h6 := run_loadCells_list (P := P) (w := w) (⟨e.blk, e.sh + off, none⟩ : Addr) cs' h3
            have hlen : cs'.length = n := by rw [← h1.1]; exact h2
            rw [hlen] at h6
            simp [Instr.loadAt, Instr.sureAddr, loadVar, h4, h5, h6]
        | none =>
          cases hn : nth l off with
          | none => simp only [hn]; trivial
          | some x =>
            simp only [hn]
            rw [nth_eq] at hn
            obtain ⟨x', h1, h2⟩ := hr.cells hm hc off x hn
            have h4 := aggSize_none ht w
            refine .valueS hr (v' := x') ?_ h2
            simp [Instr.loadAt, Instr.sureAddr, loadVar, h4, h1]
  · trivial

theorem ffield_sound (hr : Rel Top m σ w) {s : TypeId} {f off : Nat} (hf : fieldInfo P s f = some off) {v v' : Value} (hv : VRel m v v') :
    OSound P m σ w (do pure (.value (← Instr.fieldAt s v' f))) (ffield off v σ) := by
  unfold ffield
  split
  · rename_i b o
    cases hv with
    | ptr hm =>
      rename_i e
      unfold fieldInfo at hf
      cases hu : under P s with
      | none => rw [hu] at hf; cases hf
      | some d =>
        rw [hu] at hf
        cases d with
        | struct fs =>
          simp only at hf
          cases hfs : fs[f]? with
          | none => rw [hfs] at hf; cases hf
          | some fl =>
            simp only [hfs] at hf
            cases hi : info P fl.type with
            | none => rw [hi] at hf; cases hf
            | some i =>
              simp only [hi] at hf
              by_cases h0 : i.size = 0
              · rw [h0] at hf; cases hf
              · rw [beq_f h0] at hf
                cases hf
                have hsz : (sizeOf fl.type).run P w = .ok i.size w := run_sizeOf (by simp [sizeOfT, hi]) w
                refine .valueS hr (v' := .pointer (some ⟨e.blk, e.sh + (o + fl.offset), none⟩)) ?_ (.ptr hm)
                have hadd : (⟨e.blk, e.sh + o, none⟩ : Addr).add fl.offset = ⟨e.blk, e.sh + (o + fl.offset), none⟩ := by
                  unfold Addr.add
                  split
                  · simp [*]
                  · simp [Nat.add_assoc]
                simp [Instr.fieldAt, run_underlying (under_eq hu), hfs, Instr.sureAddr, fieldPlace, hsz, h0, hadd]
        | _ => cases hf
  · trivial

omit [Pins] in
theorem natOf_eq {v v' : Value} {n : Nat} (hv : VRel m v v') (h : natOf v = some n) : ∃ k, v' = .int k n := by
  unfold natOf at h
  split at h
  · cases h
    cases hv
    exact ⟨_, rfl⟩
  · cases h

theorem findex_sound (hr : Rel Top m σ w) {t : TypeId} {ty : Option Nat × Nat} (ht : indexInfo P t = some ty) {x x' i i' : Value} (hx : VRel m x x') (hi : VRel m i i') :
    OSound P m σ w (do pure (.value (← Instr.indexAt t x' i'))) (findex ty x i σ) := by
  unfold findex
  split
  · rename_i k n
    cases hi
    unfold indexInfo at ht
    cases hu : under P t with
    | none => rw [hu] at ht; cases ht
    | some d =>
      rw [hu] at ht
      have hru := run_underlying (under_eq hu) w
      cases d with
      | slice e =>
        simp only at ht
        cases hs : sizeOfT P e with
        | none => rw [hs] at ht; cases ht
        | some sz =>
          rw [hs] at ht
          cases ht
          simp only
          split
          · rename_i b o l cp hq
            cases hx with
            | empty hm => rw [blt_f (by omega)]; trivial
            | slice hm hc =>
              rename_i c' en
              by_cases hlt : n < l
              · rw [blt_t hlt]
                refine .valueS hr (v' := .pointer (some ⟨en.blk, en.sh + (o + n * sz), none⟩)) ?_ (.ptr hm)
                have hadd : (⟨en.blk, en.sh + o, none⟩ : Addr).add (n * sz) = ⟨en.blk, en.sh + (o + n * sz), none⟩ := by
                  unfold Addr.add
                  split
                  · simp [*]
                  · simp [Nat.add_assoc]
                simp [Instr.indexAt, asIntOf, hru, run_sizeOf hs, hadd]
                intro h
                omega
              · rw [blt_f hlt]; trivial
          · rename_i hq; cases hq
          · trivial
      | array len e =>
        simp only at ht
        cases hs : sizeOfT P e with
        | none => rw [hs] at ht; cases ht
        | some sz =>
          rw [hs] at ht
          cases ht
          simp only
          split
          · rename_i hq; cases hq
          · rename_i l b o hq
            obtain rfl : len = l := by injection hq
            cases hx with
            | ptr hm =>
              rename_i en
              by_cases hlt : n < len
              · rw [blt_t hlt]
                refine .valueS hr (v' := .pointer (some ⟨en.blk, en.sh + (o + n * sz), none⟩)) ?_ (.ptr hm)
                have hadd : (⟨en.blk, en.sh + o, none⟩ : Addr).add (n * sz) = ⟨en.blk, en.sh + (o + n * sz), none⟩ := by
                  unfold Addr.add
                  split
                  · simp [*]
                  · simp [Nat.add_assoc]
                simp [Instr.indexAt, asIntOf, hru, run_sizeOf hs, hadd, Instr.sureAddr]
                intro h
                omega
              · rw [blt_f hlt]; trivial
          · trivial
      | _ => cases ht
  · trivial
end
end Go.Eng
