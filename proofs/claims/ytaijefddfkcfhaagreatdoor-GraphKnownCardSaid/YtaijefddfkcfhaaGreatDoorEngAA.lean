/- Drawn regions: cuts of the map, and what a movable operation does. -/
import Derived.Test.YtaijefddfkcfhaaGreatDoorEngZ
namespace Go.Eng
open Go
variable [Pins]

/-- The map as far as a time. -/
def Mp.cut (m : Mp) (x : Nat) : Mp := fun b => if b < x then m b else none
omit [Pins] in
theorem Mp.cut_some {m : Mp} {x b : Nat} {e : MEnt} : m.cut x b = some e ↔ b < x ∧ m b = some e := by
  unfold Mp.cut
  by_cases h : b < x
  · simp [h]
  · simp [h]
omit [Pins] in
theorem Mp.cut_mono {m m' : Mp} {x y : Nat} (hxy : x ≤ y) (h : ∀ b e, b < x → m b = some e → m' b = some e) : (m.cut x).le (m'.cut y) := fun b e hb => by
  rw [Mp.cut_some] at hb ⊢
  exact ⟨by omega, h b e hb.1 hb.2⟩
omit [Pins] in
theorem Mp.cut_eq {m : Mp} {x : Nat} (h : ∀ b e, m b = some e → b < x) : m.cut x = m := by
  funext b
  unfold Mp.cut
  by_cases hb : b < x
  · rw [if_pos hb]
  · rw [if_neg hb]
    cases hm : m b with
    | none => rfl
    | some e => exact absurd (h b e hm) hb
def Mp.upd (m : Mp) (b : Nat) (eo : Option MEnt) : Mp := fun k => if k = b then eo else m k

/-- What a piece of a run does to the reading's memory. -/
structure FStep (σ σ' : FState) : Prop where
  next : σ.next ≤ σ'.next
  clock : σ.clock ≤ σ'.clock
  ver : ∀ b ent, σ'.heap.get b = some ent → σ.heap.get b = some ent ∨ σ.clock ≤ ent.ver
omit [Pins] in
theorem FStep.refl (σ : FState) : FStep σ σ := ⟨Nat.le_refl _, Nat.le_refl _, fun _ _ h => .inl h⟩
omit [Pins] in
theorem FStep.trans {σ σ₁ σ₂ : FState} (h : FStep σ σ₁) (k : FStep σ₁ σ₂) : FStep σ σ₂ :=
  ⟨Nat.le_trans h.next k.next, Nat.le_trans h.clock k.clock, fun b ent hb => by
    rcases k.ver b ent hb with h1 | h1
    · exact h.ver b ent h1
    · exact .inr (Nat.le_trans h.clock h1)⟩
omit [Pins] in
theorem Step.fstep {σ σ' : FState} {m m' : Mp} {w w' : World} (h : Step σ σ' m m' w w') : FStep σ σ' := ⟨h.next, h.clock, h.ver⟩
omit [Pins] in
theorem push_get (σ : FState) (o : FObj) (fz : Option Nat) (b : Nat) : (σ.push o fz).heap.get b = if b = σ.next then some ⟨o, false, fz, σ.clock⟩ else σ.heap.get b := Tr.get_set _ _ _ _
omit [Pins] in
theorem FStep.push (σ : FState) (o : FObj) (fz : Option Nat) : FStep σ (σ.push o fz) :=
  ⟨Nat.le_succ _, Nat.le_succ _, fun b ent hb => by
    rw [push_get] at hb
    by_cases h : b = σ.next
    · rw [if_pos h] at hb
      cases hb
      exact .inr (Nat.le_refl _)
    · rw [if_neg h] at hb
      exact .inl hb⟩

section
variable {P : Program} {σ : FState} {w : World} {M : Mp}

theorem float_core {lam : Nat} (hlam : lam ≤ σ.clock) (hr : Rel Top M (view σ lam) w) {s : Sem Next} {r : ORes} {v : Value} {σ' σ1 : FState} (hs : Stays (view σ lam) r) (hO : OSound P M (view σ lam) w s r) (hv : r = .val v σ') (hg : regrow σ σ' = some σ1) :
    ∃ w' v', s.run P w = .ok (.value v') w' ∧ (∀ j, j < w.heap.size → w'.heap[j]? = w.heap[j]?) ∧ w.heap.size ≤ w'.heap.size ∧ w'.os = w.os ∧ w'.tape = w.tape ∧ w'.output = w.output ∧
      ((σ1 = σ ∧ VRel M v v') ∨ ∃ o fz eo, σ1 = σ.push o fz ∧ VRel (M.upd σ.next eo) v v' ∧ ∀ e, eo = some e → e.ro = false ∧ w.heap.size ≤ e.blk ∧ e.blk < w'.heap.size ∧ Sync (M.upd σ.next eo) o fz e w') := by
  subst hv
  obtain ⟨m', w', v', hrun, hR, hS, hV⟩ := hO
  have hnx : (view σ lam).next = σ.next := rfl
  have hck : (view σ lam).clock = σ.clock := rfl
  refine ⟨w', v', hrun, ?_, hS.size, hS.os, hS.tape, hS.output, ?_⟩
  · intro j hj
    refine hS.keep j hj fun b e ent hm _ _ hget => ?_
    have hb : b < σ.next := (hr.dom b e hm).1
    have hget' : (view σ lam).heap.get b = some ent := by
      rcases hs v σ' rfl with h | ⟨o, fz, h⟩
      · rw [h] at hget
        exact hget
      · rw [h, push_get, if_neg (by rw [hnx]; omega)] at hget
        exact hget
    have := (view_some hget').2
    rw [hck]
    omega
  · rcases hs v σ' rfl with h | ⟨o, fz, h⟩
    · left
      subst h
      have h1 : regrow σ (view σ lam) = some σ := by
        unfold regrow
        rw [hnx, beq_t]
        rfl
      rw [h1] at hg
      cases hg
      refine ⟨rfl, hV.mono fun b e hb => ?_⟩
      rcases hS.fresh b e hb with h2 | ⟨_, h2, _, _⟩
      · exact h2
      · have := (hR.dom b e hb).1
        omega
    · right
      subst h
      have hget : ((view σ lam).push o fz).heap.get σ.next = some ⟨o, false, fz, σ.clock⟩ := by
        rw [push_get, if_pos hnx.symm]
        rfl
      have hn1 : ((view σ lam).push o fz).next = σ.next + 1 := rfl
      have h1 : regrow σ ((view σ lam).push o fz) = some (σ.push o fz) := by
        unfold regrow
        rw [hn1, beq_f (by omega)]
        show (match ((view σ lam).push o fz).heap.get σ.next with | some ent => some (σ.push ent.obj ent.fz) | none => none) = _
        rw [hget]
      rw [h1] at hg
      cases hg
      have hle : m'.le (M.upd σ.next (m' σ.next)) := fun b e hb => by
        unfold Mp.upd
        by_cases hbn : b = σ.next
        · rw [if_pos hbn, ← hbn]
          exact hb
        · rw [if_neg hbn]
          rcases hS.fresh b e hb with h2 | ⟨_, h2, _, _⟩
          · exact h2
          · have := (hR.dom b e hb).1
            rw [hn1] at this
            rw [hnx] at h2
            omega
      refine ⟨o, fz, m' σ.next, rfl, hV.mono hle, fun e he => ?_⟩
      obtain ⟨h2, h3⟩ := hR.sync σ.next _ e trivial hget he
      have h4 := hR.dom _ _ he
      have hfr : e.ro = false ∧ w.heap.size ≤ e.blk := by
        rcases hS.fresh _ e he with h5 | ⟨_, _, h6, h7⟩
        · have := (hr.dom _ _ h5).1
          rw [hnx] at this
          omega
        · refine ⟨h6, ?_⟩
          rcases h7 with h7 | ⟨b0, e0, ent0, g1, _, _, g4, g5⟩
          · exact h7
          · have hb0 := (hr.dom _ _ g1).1
            rw [hnx] at hb0
            rw [push_get, if_neg (by rw [hnx]; omega)] at g4
            have := (view_some g4).2
            rw [hck] at g5
            omega
      exact ⟨hfr.1, hfr.2, h4.2, h3.keep hle rfl⟩
end

/-! ### Slots -/
/-- Only some slots are known. -/
noncomputable def poison (l : List Nat) (a : FAct) (ds : List Deferred) : FAct := ⟨[], fun t => if t ∈ l then a.get t else undef, 0, a.nt, ds⟩
omit [Pins] in
theorem poison_get (l : List Nat) (a : FAct) (ds : List Deferred) (t : Nat) : (poison l a ds).get t = if t ∈ l then a.get t else undef := rfl
omit [Pins] in
theorem poison_cget {l : List Nat} {a : FAct} {ds : List Deferred} {x : Operand} (h : ∀ t, x = .tmp t → t ∈ l) : (cget x).un a = (cget x).un (poison l a ds) := by
  cases x with
  | tmp t =>
    show a.get t = (poison l a ds).get t
    rw [poison_get, if_pos (h t rfl)]
  | const v =>
    show (Bool.rec (motive := fun _ => Bx (FAct → Value)) ⟨fun _ => undef⟩ ⟨fun _ => v⟩ (okConst v) : Bx (FAct → Value)).un a = (Bool.rec (motive := fun _ => Bx (FAct → Value)) ⟨fun _ => undef⟩ ⟨fun _ => v⟩ (okConst v) : Bx (FAct → Value)).un _
    cases okConst v <;> rfl
  | global g => rfl
  | func f => rfl
omit [Pins] in
theorem looks_op {ops : Array Oper} {o : Oper} {x : Operand} (hx : x ∈ o.op.operands) (t : Nat) (h : x = .tmp t) : t ∈ o.looksAt ops := by
  subst h
  unfold Oper.looksAt
  refine List.mem_append_left _ ?_
  rw [List.mem_filterMap]
  exact ⟨.tmp t, by simpa using hx, rfl⟩
omit [Pins] in
theorem looks_guard {ops : Array Oper} {o : Oper} {j : Nat} {want : Bool} {d : Tmp} (hg : o.guard = some (j, want)) (hd : (ops[j]?).bind (·.dst) = some d) : d ∈ o.looksAt ops := by
  unfold Oper.looksAt
  refine List.mem_append_right _ ?_
  rw [hg]
  simp [hd]
omit [Pins] in
theorem cop_poison (P : Program) {ops : Array Oper} (o : Oper) (a : FAct) (ds : List Deferred) (σ : FState) : (cop P o.op).un a σ = (cop P o.op).un (poison (o.looksAt ops) a ds) σ :=
  cop_congr o.op (fun _ hx => poison_cget fun t ht => looks_op hx t ht) σ

omit [Pins] in
theorem put_nt (a : FAct) (dst : Option Tmp) (v : Value) : (a.put dst v).nt = a.nt ∧ (a.put dst v).defers = a.defers := by
  cases dst with
  | none => exact ⟨rfl, rfl⟩
  | some d =>
    show (Bool.rec (motive := fun _ => FAct) a (a.putT d v) (Nat.blt d a.nt) : FAct).nt = a.nt ∧ (Bool.rec (motive := fun _ => FAct) a (a.putT d v) (Nat.blt d a.nt) : FAct).defers = a.defers
    cases Nat.blt d a.nt with
    | false => exact ⟨rfl, rfl⟩
    | true =>
      show (a.putT d v).nt = a.nt ∧ (a.putT d v).defers = a.defers
      unfold FAct.putT
      cases Nat.ble a.nl d <;> exact ⟨rfl, rfl⟩
omit [Pins] in
theorem put_get_ne (a : FAct) {dst : Option Tmp} {v : Value} {t : Nat} (h : ¬ (dst = some t ∧ t < a.nt)) : (a.put dst v).get t = a.get t := by
  cases dst with
  | none => rfl
  | some d =>
    show (Bool.rec (motive := fun _ => FAct) a (a.putT d v) (Nat.blt d a.nt) : FAct).get t = a.get t
    by_cases hd : d < a.nt
    · rw [blt_t hd]
      show (a.putT d v).get t = a.get t
      rw [get_putT, if_neg]
      intro htd
      subst htd
      exact h ⟨rfl, hd⟩
    · rw [blt_f hd]
omit [Pins] in
theorem put_get_eq (a : FAct) {d : Tmp} {v : Value} (hd : d < a.nt) : (a.put (some d) v).get d = v ∨ (a.put (some d) v).get d = undef := by
  show (Bool.rec (motive := fun _ => FAct) a (a.putT d v) (Nat.blt d a.nt) : FAct).get d = v ∨ (Bool.rec (motive := fun _ => FAct) a (a.putT d v) (Nat.blt d a.nt) : FAct).get d = undef
  rw [blt_t hd]
  show (a.putT d v).get d = v ∨ (a.putT d v).get d = undef
  rw [get_putT, if_pos rfl]
  by_cases h : a.nl ≤ d ∨ d < a.loc.length
  · rw [if_pos h]; exact .inl rfl
  · rw [if_neg h]; exact .inr rfl
omit [Pins] in
theorem cput_size (c : Act) (dst : Option Tmp) (v : Value) : (c.put dst v).tmps.size = c.tmps.size ∧ (c.put dst v).defers = c.defers := by
  cases dst with
  | none => exact ⟨rfl, rfl⟩
  | some d => exact ⟨by simp [Act.put], rfl⟩
omit [Pins] in
theorem cput_ne (c : Act) {dst : Option Tmp} {v : Value} {t : Nat} (h : ¬ (dst = some t ∧ t < c.tmps.size)) : (c.put dst v).tmps.getD t undef = c.tmps.getD t undef := by
  cases dst with
  | none => rfl
  | some d =>
    show (c.tmps.setIfInBounds d v).getD t undef = c.tmps.getD t undef
    by_cases htd : t = d
    · subst htd
      rw [Array.setIfInBounds_eq_of_size_le]
      exact Nat.le_of_not_lt fun hlt => h ⟨rfl, hlt⟩
    · rw [Array.getD_eq_getD_getElem?, Array.getElem?_setIfInBounds_ne (fun x => htd x.symm), ← Array.getD_eq_getD_getElem?]
omit [Pins] in
theorem cput_eq (c : Act) {d : Tmp} {v : Value} (hd : d < c.tmps.size) : (c.put (some d) v).tmps.getD d undef = v := by
  show (c.tmps.setIfInBounds d v).getD d undef = v
  rw [Array.getD_eq_getD_getElem?, Array.getElem?_setIfInBounds_self_of_lt hd]
  rfl
end Go.Eng
