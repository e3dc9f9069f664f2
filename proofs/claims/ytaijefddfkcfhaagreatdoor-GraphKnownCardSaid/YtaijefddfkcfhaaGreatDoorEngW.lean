/- How a function leaves. -/
import Derived.Test.YtaijefddfkcfhaaGreatDoorEngV
import Derived.RangeFuncLeaves
namespace Go.Eng
open Go
variable [Pins]

section
variable {P : Program} {m : Mp} {σ : FState} {w : World} {a : FAct} {c : Act} {E : Env}

theorem fload_run (hr : Rel Top m σ w) {t : TypeId} {sz : Option Nat} (ht : aggSize P t = some sz) {v v' u : Value} {s : FState} (hv : VRel m v v') (h : fload sz v σ = .val u s) :
    ∃ u', (do loadVar t (← asAddr v') : Sem Value).run P w = .ok u' w ∧ VRel m u u' := by
  unfold fload at h
  split at h
  · rename_i b off
    cases hv with
    | ptr hm =>
      rename_i e
      cases hc : σ.cells b with
      | none => rw [hc] at h; cases h
      | some l =>
        rw [hc] at h
        cases sz with
        | some n =>
          simp only at h
          cases htk : takeN n (dropN off l) with
          | none => rw [htk] at h; cases h
          | some cs =>
            rw [htk] at h
            cases h
            obtain ⟨cs', h1, h2, h3⟩ := hr.cellsFrom hm hc htk
            obtain ⟨h4, h5⟩ := aggSize_some ht w
            refine ⟨.agg cs'.toArray, ?_, h1.agg⟩
            have h6 := run_loadCells_list (P := P) (w := w) (⟨e.blk, e.sh + off, none⟩ : Addr) cs' h3
            have hlen : cs'.length = n := by rw [← h1.1]; exact h2
            rw [hlen] at h6
            simp [asAddr, loadVar, h4, h5, h6]
        | none =>
          simp only at h
          cases hn : nth l off with
          | none => rw [hn] at h; cases h
          | some x =>
            rw [hn] at h
            cases h
            rw [nth_eq] at hn
            obtain ⟨x', h1, h2⟩ := hr.cells hm hc off u hn
            have h4 := aggSize_none ht w
            exact ⟨x', by simp [asAddr, loadVar, h4, h1], h2⟩
  · cases h

def resSem (tmps : Array Value) : ResultVar → Sem Value
  | .tmp t => pure (tmps.getD t undef)
  | .cell x t => do loadVar t (← asAddr (tmps.getD x undef))

theorem fresult_sound (hr : Rel Top m σ w) (ha : ∀ t, VRel m (a.get t) (c.tmps.getD t undef)) {r : ResultVar} {v : Value} (h : fresult P r a σ = some v) :
    ∃ v', (resSem c.tmps r).run P w = .ok v' w ∧ VRel m v v' := by
  cases r with
  | tmp t =>
    cases h
    exact ⟨_, rfl, ha t⟩
  | cell x t =>
    unfold fresult at h
    simp only at h
    cases hs : aggSize P t with
    | none => rw [hs] at h; cases h
    | some sz =>
      rw [hs] at h
      simp only at h
      cases hf : fload sz (a.get x) σ with
      | val u s =>
        rw [hf] at h
        cases h
        exact fload_run hr hs (ha x) hf
      | _ => rw [hf] at h; cases h

theorem fresults_sound (hr : Rel Top m σ w) (ha : ∀ t, VRel m (a.get t) (c.tmps.getD t undef)) : ∀ (rs : List ResultVar) (vs : List Value), fresults P rs a σ = some vs →
    ∃ vs' : List Value, (rs.mapM (resSem c.tmps)).run P w = .ok vs' w ∧ LRel m vs vs'
  | [], vs, h => by
    cases h
    exact ⟨[], rfl, .nil⟩
  | r :: rs, vs, h => by
    have h' : (match fresult P r a σ, fresults P rs a σ with | some v, some vs => some (v :: vs) | _, _ => none) = some vs := h
    cases h1 : fresult P r a σ with
    | none => rw [h1] at h'; cases h'
    | some v =>
      cases h2 : fresults P rs a σ with
      | none => rw [h1, h2] at h'; cases h'
      | some us =>
        rw [h1, h2] at h'
        cases h'
        obtain ⟨v', h3, h4⟩ := fresult_sound hr ha h1
        obtain ⟨us', h5, h6⟩ := fresults_sound hr ha rs us h2
        exact ⟨v' :: us', by simp [List.mapM_cons, h3, h5], .cons h4 h6⟩

def pack : List Value → Value
  | [v] => v
  | vs => .tuple vs.toArray

theorem results_sound (hr : Rel Top m σ w) (ha : ∀ t, VRel m (a.get t) (c.tmps.getD t undef)) (fn : Func) {vs : List Value} (h : fresults P fn.results.toList a σ = some vs) :
    ∃ v', (results fn c.tmps).run P w = .ok v' w ∧ VRel m (pack vs) v' := by
  obtain ⟨vs', h1, h2⟩ := fresults_sound hr ha _ _ h
  have h3 : (fn.results.mapM (resSem c.tmps)).run P w = .ok vs'.toArray w := by
    rw [Array.mapM_eq_mapM_toList]
    simp [h1]
  have e0 : results fn c.tmps = (do let vs ← fn.results.mapM (resSem c.tmps); pure (if h : vs.size = 1 then vs[0] else .tuple vs)) := by
    have : (fun (r : ResultVar) => (match r with | .tmp t => pure (c.tmps.getD t undef) | .cell a t => do loadVar t (← asAddr (c.tmps.getD a undef)) : Sem Value)) = resSem c.tmps := by
      funext r
      cases r <;> rfl
    unfold results
    rw [← this]
    rfl
  rw [e0]
  match vs, vs', h2 with
  | [], [], _ => exact ⟨.tuple #[], by simp [h3], .unknown _⟩
  | [v], [v'], h2 => exact ⟨v', by simp [h3], h2.head⟩
  | [], _ :: _, h2 => simp [LRel] at h2
  | [_], [], h2 => simp [LRel] at h2
  | [_], _ :: _ :: _, h2 => simp [LRel] at h2
  | _ :: _ :: _, [], h2 => simp [LRel] at h2
  | _ :: _ :: _, [_], h2 => simp [LRel] at h2
  | v :: x :: t, v' :: x' :: t', h2 => exact ⟨.tuple (v' :: x' :: t').toArray, by simp [h3], h2.tuple⟩
end
end Go.Eng
