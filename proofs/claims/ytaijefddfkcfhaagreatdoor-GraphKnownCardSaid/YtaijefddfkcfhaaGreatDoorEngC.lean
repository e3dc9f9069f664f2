/- Single operations: those that only make values. -/
import Derived.Test.YtaijefddfkcfhaaGreatDoorEngB
import Derived.Laws.Entries
import Derived.Laws.Cells
import Derived.Laws.CopyRow
namespace Go.Eng
open Go
variable [Pins]

omit [Pins] in
theorem ble_t {a b : Nat} (h : a ≤ b) : Nat.ble a b = true := by rw [Nat.ble_eq]; exact h
omit [Pins] in
theorem ble_f {a b : Nat} (h : ¬ a ≤ b) : Nat.ble a b = false := by rw [Bool.eq_false_iff, ne_eq, Nat.ble_eq]; exact h
omit [Pins] in
theorem blt_t {a b : Nat} (h : a < b) : Nat.blt a b = true := by rw [Nat.blt_eq]; exact h
omit [Pins] in
theorem blt_f {a b : Nat} (h : ¬ a < b) : Nat.blt a b = false := by rw [Bool.eq_false_iff, ne_eq, Nat.blt_eq]; exact h
omit [Pins] in
theorem beq_t (a : Nat) : Nat.beq a a = true := Nat.beq_refl a
omit [Pins] in
theorem beq_f {a b : Nat} (h : ¬ a = b) : Nat.beq a b = false := by rw [Bool.eq_false_iff, ne_eq, Nat.beq_eq]; exact h

def Top (_ : Nat) : Prop := True

inductive DRel (m : Mp) : Deferred → Deferred → Prop
  | collected {r : Nat} {e : MEnt} (h : m r = some e) : DRel m { target := .collected r, args := #[] } { target := .collected e.blk, args := #[] }
  | fn (f : FuncId) {c c' a a' : Array Value} (hc : LRel m c.toList c'.toList) (ha : LRel m a.toList a'.toList) : DRel m { target := .fn (.func f) c, args := a } { target := .fn (.func f) c', args := a' }

def DLRel (m : Mp) (l l' : List Deferred) : Prop := l.length = l'.length ∧ ∀ (i : Nat) (d d' : Deferred), l[i]? = some d → l'[i]? = some d' → DRel m d d'

omit [Pins] in
theorem DRel.mono {m m' : Mp} (h : m.le m') {d d' : Deferred} (hd : DRel m d d') : DRel m' d d' := by
  cases hd with
  | collected hr => exact .collected (h _ _ hr)
  | fn f hc ha => exact .fn f (hc.mono h) (ha.mono h)
omit [Pins] in
theorem DLRel.mono {m m' : Mp} (h : m.le m') {l l' : List Deferred} (hl : DLRel m l l') : DLRel m' l l' := ⟨hl.1, fun i d d' a b => (hl.2 i d d' a b).mono h⟩
omit [Pins] in
theorem DLRel.nil {m : Mp} : DLRel m [] [] := ⟨rfl, fun i d d' h => by simp at h⟩
omit [Pins] in
theorem DLRel.cons {m : Mp} {d d' : Deferred} {l l' : List Deferred} (h : DRel m d d') (hl : DLRel m l l') : DLRel m (d :: l) (d' :: l') := by
  refine ⟨by simp [hl.1], fun i x x' hx hx' => ?_⟩
  cases i with
  | zero =>
    simp at hx hx'
    subst hx; subst hx'
    exact h
  | succ k => exact hl.2 k x x' (by simpa using hx) (by simpa using hx')
omit [Pins] in
theorem DLRel.head {m : Mp} {v v' : Deferred} {l l' : List Deferred} (h : DLRel m (v :: l) (v' :: l')) : DRel m v v' := h.2 0 v v' rfl rfl
omit [Pins] in
theorem DLRel.tail {m : Mp} {v v' : Deferred} {l l' : List Deferred} (h : DLRel m (v :: l) (v' :: l')) : DLRel m l l' :=
  ⟨by simpa using h.1, fun i x x' hx hx' => h.2 (i + 1) x x' (by simpa using hx) (by simpa using hx')⟩

structure ActRel (m : Mp) (a : FAct) (c : Act) : Prop where
  tmps : TRel m a.loc a.tmp a.nl a.nt c.tmps
  defers : DLRel m a.defers c.defers

omit [Pins] in
theorem ActRel.mono {m m' : Mp} (h : m.le m') {a : FAct} {c : Act} (ha : ActRel m a c) : ActRel m' a c := ⟨ha.tmps.mono h, ha.defers.mono h⟩

section
variable {m : Mp} {a : FAct} {c : Act}

omit [Pins] in
theorem ActRel.get (h : ActRel m a c) (t : Nat) : VRel m (a.get t) (c.tmps.getD t undef) := h.tmps.2 t
omit [Pins] in
theorem ActRel.eval (h : ActRel m a c) (x : Operand) : VRel m ((cget x).un a) (c.eval x) := by
  cases x with
  | tmp t => exact h.get t
  | const v =>
    show VRel m ((Bool.rec (motive := fun _ => Bx (FAct → Value)) ⟨fun _ => undef⟩ ⟨fun _ => v⟩ (okConst v) : Bx (FAct → Value)).un a) v
    cases hv : okConst v with
    | false => exact .unknown _
    | true => exact .of_const hv
  | global g => exact .unknown _
  | func f => exact .func (.func f) rfl rfl (fun i v v' hh => by simp at hh) (fun i v v' hh => by simp at hh)
omit [Pins] in
theorem ActRel.evals (h : ActRel m a c) (l : List Operand) : LRel m ((cgets l).un a) (l.map c.eval) := by
  induction l with
  | nil => exact .nil
  | cons x t ih => exact .cons (h.eval x) ih
omit [Pins] in
theorem get_putT (a : FAct) (d : Nat) (v : Value) (t : Nat) : (a.putT d v).get t = if t = d then (if a.nl ≤ d ∨ d < a.loc.length then v else undef) else a.get t := by
  by_cases hd : a.nl ≤ d
  · have h1 : a.putT d v = ⟨a.loc, fun k => Bool.rec (motive := fun _ => Value) (a.tmp k) v (Nat.beq k d), a.nl, a.nt, a.defers⟩ := by
      unfold FAct.putT
      rw [ble_t hd]
    rw [h1]
    by_cases ht : t = d
    · subst ht
      rw [if_pos rfl, if_pos (.inl hd)]
      show Bool.rec (motive := fun _ => Value) _ (Bool.rec (motive := fun _ => Value) (a.tmp t) v (Nat.beq t t)) (Nat.ble a.nl t) = v
      rw [ble_t hd, beq_t]
    · rw [if_neg ht]
      show Bool.rec (motive := fun _ => Value) (Option.rec (motive := fun _ => Value) undef (fun v => v) (nth a.loc t)) (Bool.rec (motive := fun _ => Value) (a.tmp t) v (Nat.beq t d)) (Nat.ble a.nl t) = a.get t
      rw [beq_f ht]
      rfl
  · have h1 : a.putT d v = ⟨setNth v a.loc d, a.tmp, a.nl, a.nt, a.defers⟩ := by
      unfold FAct.putT
      rw [ble_f hd]
    rw [h1]
    show Bool.rec (motive := fun _ => Value) (Option.rec (motive := fun _ => Value) undef (fun v => v) (nth (setNth v a.loc d) t)) (a.tmp t) (Nat.ble a.nl t) = _
    rw [nth_eq, setNth_eq, List.getElem?_set]
    by_cases ht : t = d
    · subst ht
      rw [if_pos rfl, if_pos rfl, ble_f hd]
      by_cases hl : t < a.loc.length
      · simp [hl]
      · simp [hl, hd]
    · rw [if_neg (fun x => ht x.symm), if_neg ht, ← nth_eq]
      rfl
omit [Pins] in
theorem ActRel.put (h : ActRel m a c) (dst : Option Tmp) {v v' : Value} (hv : VRel m v v') : ActRel m (a.put dst v) (c.put dst v') := by
  cases dst with
  | none => exact h
  | some d =>
    have hsz := h.tmps.1
    show ActRel m (Bool.rec (motive := fun _ => FAct) a (a.putT d v) (Nat.blt d a.nt)) { c with tmps := c.tmps.setIfInBounds d v' }
    by_cases hd : d < a.nt
    · rw [blt_t hd]
      have hnl : (a.putT d v).nl = a.nl ∧ (a.putT d v).nt = a.nt ∧ (a.putT d v).defers = a.defers := by
        unfold FAct.putT
        cases Nat.ble a.nl d <;> exact ⟨rfl, rfl, rfl⟩
      refine ⟨⟨?_, fun t => ?_⟩, ?_⟩
      · rw [hnl.2.1, ← hsz]
        simp
      · have hg := get_putT a d v t
        have : VRel m ((a.putT d v).get t) ((c.tmps.setIfInBounds d v').getD t undef) := by
          rw [hg]
          by_cases ht : t = d
          · subst ht
            rw [if_pos rfl]
            have hc : (c.tmps.setIfInBounds t v').getD t undef = v' := by
              rw [Array.getD_eq_getD_getElem?, Array.getElem?_setIfInBounds_self_of_lt (by rw [hsz]; exact hd)]
              rfl
            rw [hc]
            split
            · exact hv
            · exact .unknown _
          · rw [if_neg ht, Array.getD_eq_getD_getElem?, Array.getElem?_setIfInBounds_ne (fun x => ht x.symm), ← Array.getD_eq_getD_getElem?]
            exact h.get t
        exact this
      · rw [hnl.2.2]
        exact h.defers
    · rw [blt_f hd]
      refine ⟨⟨by simpa using hsz, fun t => ?_⟩, h.defers⟩
      show VRel m (a.get t) ((c.tmps.setIfInBounds d v').getD t undef)
      have hle : c.tmps.size ≤ d := by rw [hsz]; exact Nat.le_of_not_lt hd
      rw [Array.setIfInBounds_eq_of_size_le hle]
      exact h.get t
end

omit [Pins] in
theorem under_eq {P : Program} {t : TypeId} {d : TypeDesc} (h : under P t = some d) : P.underlying t = some d := by
  unfold under at h
  cases hb : Nat.blt t P.types.size <;> rw [hb] at h
  · cases h
  · exact h
omit [Pins] in
theorem info_eq {P : Program} {t : TypeId} {i : TypeInfo} (h : info P t = some i) : P.info? t = some i := by
  unfold info at h
  cases hb : Nat.blt t P.types.size <;> rw [hb] at h
  · cases h
  · exact h
omit [Pins] in
theorem run_typeInfo {P : Program} {t : TypeId} {i : TypeInfo} (h : P.info? t = some i) (w : World) : (typeInfo t).run P w = .ok i w := by
  simp [typeInfo, h]
omit [Pins] in
theorem run_sizeOf {P : Program} {t : TypeId} {n : Nat} (h : sizeOfT P t = some n) (w : World) : (sizeOf t).run P w = .ok n w := by
  unfold sizeOfT at h
  cases hi : info P t with
  | none => rw [hi] at h; cases h
  | some i =>
    rw [hi] at h
    cases h
    simp [sizeOf, run_typeInfo (info_eq hi)]

omit [Pins] in
/-- A computation that asks for no memory leaves every world alone. -/
theorem prun_ok {α : Type} {P : Program} {s : Sem α} {v : α} (h : prun P s = some (.ok v)) (w : World) : s.run P w = .ok v w := by
  induction s with
  | pure a => cases h; rfl
  | program k ih => exact ih P h
  | mark m k ih => exact ih h
  | halt x => cases x <;> cases h
  | _ => cases h
omit [Pins] in
theorem prun_error {α : Type} {P : Program} {s : Sem α} {v : Value} (h : prun P s = some (.error v)) (w : World) : s.run P w = .halt (.panic v) w := by
  induction s with
  | pure a => cases h
  | program k ih => exact ih P h
  | mark m k ih => exact ih h
  | halt x => cases x <;> cases h; rfl
  | _ => cases h

/-- What an operation's run comes to, as the reading has it. -/
def OSound (P : Program) (m : Mp) (σ : FState) (w : World) (s : Sem Next) : ORes → Prop
  | .no => True
  | .val v σ' => ∃ m' w' v', s.run P w = .ok (.value v') w' ∧ Rel Top m' σ' w' ∧ Step σ σ' m m' w w' ∧ VRel m' v v'
  | .skip σ' => ∃ m' w', s.run P w = .ok .skip w' ∧ Rel Top m' σ' w' ∧ Step σ σ' m m' w w'
  | .panic v σ' => ∃ m' w' v', s.run P w = .halt (.panic v') w' ∧ Rel Top m' σ' w' ∧ Step σ σ' m m' w w' ∧ VRel m' v v'
  | .enter f args σ' => ∃ args' : Array Value, s.run P w = (callFunc f args').run P w ∧ σ' = σ ∧ LRel m args args'.toList
  | .yield l args σ' => ∃ e, ∃ args' : Array Value, m l = some e ∧ s.run P w = (Instr.yield e.blk args').run P w ∧ σ' = σ ∧ LRel m args args'.toList
  | .defer d σ' => ∃ d', s.run P w = .ok (.defer d') w ∧ σ' = σ ∧ DRel m d d'
  | .recover σ' => s.run P w = .ok .recover w ∧ σ' = σ

section
variable {P : Program} {m : Mp} {σ : FState} {w : World}

theorem OSound.value (hr : Rel Top m σ w) {s : Sem Next} {v v' : Value} (h : s.run P w = .ok (.value v') w) (hv : VRel m v v') : OSound P m σ w s (.val v σ) :=
  ⟨m, w, v', h, hr, Step.refl _ _ _, hv⟩
theorem OSound.valueS (hr : Rel Top m σ w) {s : Sem Value} {v v' : Value} (h : s.run P w = .ok v' w) (hv : VRel m v v') : OSound P m σ w (do pure (.value (← s))) (.val v σ) :=
  .value hr (by simp [h]) hv
theorem OSound.orPure (hr : Rel Top m σ w) {s : Sem Value} : OSound P m σ w (do pure (.value (← s))) (orPure P s σ) := by
  unfold Eng.orPure
  cases hp : prun P s with
  | none => trivial
  | some r => cases r with
    | ok v =>
      have hrun := prun_ok hp w
      show OSound P m σ w _ (cond (okConst v) (.val v σ) .no)
      cases hf : okConst v with
      | false => trivial
      | true => exact .valueS hr hrun (.of_const hf)
    | error v =>
      have hrun := prun_error hp w
      show OSound P m σ w _ (cond (okConst v) (.panic v σ) .no)
      cases hf : okConst v with
      | false => trivial
      | true => exact ⟨m, w, v, by simp [hrun], hr, Step.refl _ _ _, .of_const hf⟩
end
end Go.Eng
