/- Values of several cells, slices cut and made. -/
import Derived.Test.YtaijefddfkcfhaaGreatDoorEngH
namespace Go.Eng
open Go
variable [Pins]

/-- Two lists of numbered parts. -/
def PRel (m : Mp) (l l' : List (Nat × Value)) : Prop := l.length = l'.length ∧ ∀ (i : Nat) (p p' : Nat × Value), l[i]? = some p → l'[i]? = some p' → p.1 = p'.1 ∧ VRel m p.2 p'.2

omit [Pins] in
theorem fold_set (off : Nat) : ∀ (vs : List Value) (n : Nat) (cells : Array Value) (k : Nat), off + n + vs.length ≤ cells.size →
    ((vs.zipIdx n).foldl (fun cs (p : Value × Nat) => cs.setIfInBounds (off + p.2) p.1) cells)[k]? = if k < off + n then cells[k]? else if k < off + n + vs.length then vs[k - (off + n)]? else cells[k]?
  | [], n, cells, k, _ => by
    by_cases h : k < off + n <;> simp [h]
  | v :: rest, n, cells, k, h => by
    rw [List.zipIdx_cons, List.foldl_cons]
    have h' : off + (n + 1) + rest.length ≤ (cells.setIfInBounds (off + n) v).size := by simp at h ⊢; omega
    rw [fold_set off rest (n + 1) _ k h']
    have hs : off + n < cells.size := by simp at h; omega
    by_cases h1 : k < off + n
    · rw [if_pos (by omega), if_pos h1, Array.getElem?_setIfInBounds_ne (by omega)]
    · rw [if_neg h1]
      by_cases h2 : k = off + n
      · subst h2
        rw [if_pos (by omega), if_pos (by simp), Array.getElem?_setIfInBounds_self_of_lt hs]
        simp
      · rw [if_neg (by omega)]
        by_cases h3 : k < off + n + (v :: rest).length
        · rw [if_pos (by simp at h3; omega), if_pos h3]
          have : k - (off + n) = (k - (off + (n + 1))) + 1 := by omega
          rw [this, List.getElem?_cons_succ]
        · rw [if_neg (by simp at h3; omega), if_neg h3, Array.getElem?_setIfInBounds_ne (by omega)]

omit [Pins] in
theorem fold_size (off : Nat) : ∀ (l : List (Value × Nat)) (cells : Array Value), (l.foldl (fun cs (p : Value × Nat) => cs.setIfInBounds (off + p.2) p.1) cells).size = cells.size
  | [], _ => rfl
  | p :: rest, cells => by rw [List.foldl_cons, fold_size off rest]; simp

section
variable {P : Program} {m : Mp} {σ : FState} {w : World} {a : FAct} {c : Act}

omit [Pins] in
theorem lay_sound (place : Nat → Option (Nat × Nat)) : ∀ (parts parts' : List (Nat × Value)) (z l : List Value) (z' : Array Value), PRel m parts parts' → LRel m z z'.toList → lay place parts z = some l →
    ∃ l' : Array Value, Instr.fill place z' parts' = some l' ∧ LRel m l l'.toList
  | [], [], z, l, z', _, hz, h => by
    have : z = l := by injection h
    subst this
    exact ⟨z', rfl, hz⟩
  | [], p' :: ps', _, _, _, hp, _, _ => by simp [PRel] at hp
  | p :: ps, [], _, _, _, hp, _, _ => by simp [PRel] at hp
  | p :: ps, p' :: ps', z, l, z', hp, hz, h => by
    obtain ⟨h1, h2⟩ := hp.2 0 p p' rfl rfl
    have hps : PRel m ps ps' := ⟨by simpa using hp.1, fun i x x' a b => hp.2 (i + 1) x x' (by simpa using a) (by simpa using b)⟩
    have hstep : lay place (p :: ps) z = (match place p.1 with
      | some (off, size) => cond (notTuple p.2 && Nat.beq (len (valCells p.2)) size) (match spliceN off (valCells p.2) z with | some c' => lay place ps c' | none => none) none
      | none => none) := rfl
    rw [hstep] at h
    cases hpl : place p.1 with
    | none => rw [hpl] at h; cases h
    | some os =>
      obtain ⟨off, size⟩ := os
      rw [hpl] at h
      simp only at h
      cases hc : (notTuple p.2 && Nat.beq (len (valCells p.2)) size) with
      | false => rw [hc] at h; cases h
      | true =>
        rw [hc] at h
        simp only [Bool.and_eq_true, Nat.beq_eq, len_eq] at hc
        obtain ⟨ht, hsz⟩ := hc
        cases hsp : spliceN off (valCells p.2) z with
        | none => simp only [hsp, cond_true] at h; cases h
        | some z2 =>
          simp only [hsp, cond_true] at h
          rw [spliceN_eq] at hsp
          by_cases hle : off + (valCells p.2).length ≤ z.length
          · rw [if_pos hle] at hsp
            cases hsp
            have hv := valCells_rel h2 ht
            have hcs : p'.2.cells.toList = valCells p'.2 := cells_eq _
            have hcsz : p'.2.cells.size = size := by
              have : p'.2.cells.toList.length = size := by rw [hcs, ← hv.1]; exact hsz
              simpa using this
            have hzz : z.length = z'.size := by simpa using hz.1
            have hle' : off + p'.2.cells.size ≤ z'.size := by rw [hcsz, ← hsz, ← hzz]; exact hle
            have hfill : Instr.fill place z' (p' :: ps') = Instr.fill place (p'.2.cells.zipIdx.foldl (fun cs (q : Value × Nat) => cs.setIfInBounds (off + q.2) q.1) z') ps' := by
              obtain ⟨i', v'⟩ := p'
              simp only at h1
              subst h1
              simp only [Instr.fill, hpl]
              rw [if_neg (by simp at hle' hcsz ⊢; omega)]
            rw [hfill]
            have hfold : p'.2.cells.zipIdx.foldl (fun cs (q : Value × Nat) => cs.setIfInBounds (off + q.2) q.1) z' = ((valCells p'.2).zipIdx 0).foldl (fun cs (q : Value × Nat) => cs.setIfInBounds (off + q.2) q.1) z' := by
              rw [← Array.foldl_toList, Array.toList_zipIdx, hcs]
            rw [hfold]
            refine lay_sound place ps ps' _ l _ hps ⟨?_, fun k v v' hk hk' => ?_⟩ h
            · have e2 : (((valCells p'.2).zipIdx 0).foldl (fun cs (q : Value × Nat) => cs.setIfInBounds (off + q.2) q.1) z').toList.length = z'.size := by
                rw [Array.length_toList, fold_size]
              refine Eq.trans ?_ e2.symm
              simp
              omega
            · rw [Array.getElem?_toList, fold_set off _ 0 z' k (by rw [← hv.1]; omega)] at hk'
              rw [getElem?_splice hle] at hk
              simp only [Nat.add_zero] at hk'
              rw [← hv.1] at hk'
              by_cases hk1 : k < off
              · rw [if_pos hk1] at hk hk'
                exact hz.2 k v v' hk (by simpa using hk')
              · rw [if_neg hk1] at hk hk'
                by_cases hk2 : k < off + (valCells p.2).length
                · rw [if_pos hk2] at hk hk'
                  exact hv.2 _ v v' hk hk'
                · rw [if_neg hk2] at hk hk'
                  exact hz.2 k v v' hk (by simpa using hk')
          · rw [if_neg hle] at hsp
            cases hsp

omit [Pins] in
theorem ActRel.parts (h : ActRel m a c) (l : List (Nat × Operand)) : PRel m ((cparts l).un a) (l.map fun p => (p.1, c.eval p.2)) := by
  induction l with
  | nil => exact ⟨rfl, fun i p p' h => by simp [cparts] at h⟩
  | cons x t ih =>
    refine ⟨(by show ((cparts t).un a).length + 1 = _; rw [ih.1]; simp), fun i p p' hp hp' => ?_⟩
    cases i with
    | zero =>
      have e1 : p = (x.1, (cget x.2).un a) := by
        have : ((cparts (x :: t)).un a)[0]? = some (x.1, (cget x.2).un a) := rfl
        rw [this] at hp
        cases hp
        rfl
      have e2 : p' = (x.1, c.eval x.2) := by
        simp at hp'
        exact hp'.symm
      subst e1 e2
      exact ⟨rfl, h.eval _⟩
    | succ k => exact ih.2 k p p' hp (by simpa using hp')

theorem build_struct_sound (hr : Rel Top m σ w) {t : TypeId} {fs : Array Field} {z : List Value} {pl : List (Nat × Nat)} (hu : under P t = some (.struct fs)) (hz : zeroCells P t = some z) (hpl : structPlaces P fs = some pl)
    {parts : List (Nat × Value)} {parts' : Array (Nat × Value)} (hp : PRel m parts parts'.toList) :
    OSound P m σ w (do pure (.value (← Instr.build t parts'))) (fbuild (fun i => nth pl i) z parts σ) := by
  obtain ⟨i, zv, h1, h2, h3, h4⟩ := zeroCells_some hz
  unfold fbuild
  cases hl : lay (fun i => nth pl i) parts z with
  | none => trivial
  | some l =>
    have e : (fun i => nth pl i) = (fun i => pl[i]?) := funext fun i => nth_eq pl i
    rw [e] at hl
    obtain ⟨l', h5, h6⟩ := lay_sound (m := m) (fun i => pl[i]?) parts parts'.toList z l zv.cells hp (by rw [h3]; exact .of_simple h4) hl
    refine .valueS hr (v' := .agg l') (run_build w t parts' l' ?_) ?_
    · unfold Program.built
      unfold structPlaces at hpl
      simp only [h1, under_eq hu, h2, hpl]
      simpa using h5
    · have := h6.agg
      simpa using this

theorem build_array_sound (hr : Rel Top m σ w) {t e : TypeId} {n s : Nat} {z : List Value} (hu : under P t = some (.array n e)) (hz : zeroCells P t = some z) (hs : sizeOfT P e = some s)
    {parts : List (Nat × Value)} {parts' : Array (Nat × Value)} (hp : PRel m parts parts'.toList) :
    OSound P m σ w (do pure (.value (← Instr.build t parts'))) (fbuild (fun i => some (i * s, s)) z parts σ) := by
  obtain ⟨i, zv, h1, h2, h3, h4⟩ := zeroCells_some hz
  unfold fbuild
  cases hl : lay (fun i => some (i * s, s)) parts z with
  | none => trivial
  | some l =>
    obtain ⟨l', h5, h6⟩ := lay_sound (m := m) (fun i => some (i * s, s)) parts parts'.toList z l zv.cells hp (by rw [h3]; exact .of_simple h4) hl
    unfold sizeOfT at hs
    cases hi : info P e with
    | none => rw [hi] at hs; cases hs
    | some ie =>
      rw [hi] at hs
      cases hs
      refine .valueS hr (v' := .agg l') (run_build w t parts' l' ?_) ?_
      · unfold Program.built
        simp only [h1, under_eq hu, h2, info_eq hi]
        exact h5
      · have := h6.agg
        simpa using this

omit [Pins] in
theorem reps_length {α : Type} (n : Nat) (z : List α) : (reps n z).length = n * z.length := by
  induction n with
  | zero => show ([] : List α).length = _; simp
  | succ n ih => show (z ++ reps n z).length = _; rw [List.length_append, ih, Nat.add_mul]; omega
omit [Pins] in
theorem reps_get {α : Type} (n : Nat) (z : List α) (i : Nat) (h : i < n * z.length) : (reps n z)[i]? = z[i % z.length]? := by
  induction n generalizing i with
  | zero => simp at h
  | succ n ih =>
    show (z ++ reps n z)[i]? = _
    by_cases hi : i < z.length
    · rw [List.getElem?_append_left hi, Nat.mod_eq_of_lt hi]
    · rw [List.getElem?_append_right (by omega), ih _ (by rw [Nat.add_mul] at h; omega)]
      congr 1
      conv => rhs; rw [show i = (i - z.length) + z.length by omega, Nat.add_mod_right]
end
end Go.Eng
