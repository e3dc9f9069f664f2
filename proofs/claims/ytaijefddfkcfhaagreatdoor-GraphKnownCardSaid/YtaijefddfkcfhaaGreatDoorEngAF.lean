/- Drawn regions: what the plan's test says. -/
import Derived.Test.YtaijefddfkcfhaaGreatDoorEngAE
namespace Go.Eng
open Go

theorem bit_eq (s j : Nat) : bit s j = s.testBit j := by
  unfold bit
  have h1 : Nat.land (Nat.shiftRight s j) 1 = s / 2 ^ j % 2 := by
    show (s >>> j) &&& 1 = _
    rw [Nat.and_one_is_mod, Nat.shiftRight_eq_div_pow]
  rw [h1, Nat.testBit_eq_decide_div_mod_eq]
  rw [Bool.eq_iff_iff, Nat.beq_eq, decide_eq_true_iff]
theorem bit_lor (a b j : Nat) : bit (Nat.lor a b) j = (bit a j || bit b j) := by
  rw [bit_eq, bit_eq, bit_eq]
  exact Nat.testBit_or a b j
theorem bit_pow (x j : Nat) : bit (Nat.pow 2 x) j = decide (x = j) := by
  rw [bit_eq]
  exact Nat.testBit_two_pow
theorem bit_zero (j : Nat) : bit 0 j = false := by
  rw [bit_eq]
  exact Nat.zero_testBit j

theorem closBits_bit (c : List Nat) (j : Nat) : ∀ l : List Nat, bit (closBits c l) j = true → ∃ x, x ∈ l ∧ (x = j ∨ bit (closOf c x) j = true) := by
  intro l
  induction l with
  | nil =>
    intro h
    have : closBits c [] = 0 := rfl
    rw [this, bit_zero] at h
    cases h
  | cons x l ih =>
    intro h
    have e : closBits c (x :: l) = Nat.lor (Nat.lor (Nat.pow 2 x) ((nth c x).getD 0)) (closBits c l) := rfl
    rw [e, bit_lor, bit_lor, bit_pow] at h
    simp only [Bool.or_eq_true, decide_eq_true_eq] at h
    rcases h with (h | h) | h
    · exact ⟨x, by simp, .inl h⟩
    · exact ⟨x, by simp, .inr h⟩
    · obtain ⟨y, h1, h2⟩ := ih h
      exact ⟨y, by simp [h1], h2⟩

def ClI (ops : Array Oper) (D : Nat → Prop) : Prop := ∀ i o, ops[i]? = some o → D i → ∀ e ∈ o.after, Region.binds .any e = true → D e.on

theorem mem_binding {o : Oper} {x : Nat} : x ∈ binding o ↔ ∃ e, e ∈ o.after ∧ Region.binds .any e = true ∧ e.on = x := by
  unfold binding
  rw [List.mem_filterMap]
  constructor
  · rintro ⟨e, he, hx⟩
    cases hb : Region.binds .any e with
    | false => rw [hb] at hx; cases hx
    | true =>
      rw [hb] at hx
      cases hx
      exact ⟨e, by simpa using he, hb, rfl⟩
  · rintro ⟨e, he, hb, rfl⟩
    exact ⟨e, by simpa using he, by rw [hb]; rfl⟩

theorem clos_length (ops : Array Oper) (n : Nat) : (clos ops n).length = n := by
  induction n with
  | zero => rfl
  | succ n ih =>
    show (clos ops n ++ [closBits (clos ops n) (bindingOf ops n)]).length = n + 1
    simp [ih]
theorem clos_sound {ops : Array Oper} {D : Nat → Prop} (hD : ClI ops D) : ∀ (n i j : Nat), bit (closOf (clos ops n) i) j = true → D i → D j := by
  intro n
  induction n with
  | zero =>
    intro i j h _
    have : closOf (clos ops 0) i = 0 := rfl
    rw [this, bit_zero] at h
    cases h
  | succ n ih =>
    intro i j h hi
    have e : clos ops (n + 1) = clos ops n ++ [closBits (clos ops n) (bindingOf ops n)] := rfl
    by_cases hlt : i < n
    · have : closOf (clos ops (n + 1)) i = closOf (clos ops n) i := by
        unfold closOf
        rw [nth_eq, nth_eq, e, List.getElem?_append_left (by rw [clos_length]; exact hlt)]
      rw [this] at h
      exact ih i j h hi
    · by_cases hin : i = n
      · subst hin
        have : closOf (clos ops (i + 1)) i = closBits (clos ops i) (bindingOf ops i) := by
          unfold closOf
          rw [nth_eq, e, List.getElem?_append_right (by rw [clos_length]; exact Nat.le_refl _), clos_length]
          simp
        rw [this] at h
        obtain ⟨x, hx, hxj⟩ := closBits_bit _ _ _ h
        have hDx : D x := by
          unfold bindingOf at hx
          cases ho : ops[i]? with
          | none => rw [ho] at hx; cases hx
          | some o =>
            rw [ho] at hx
            obtain ⟨e', h1, h2, rfl⟩ := mem_binding.1 hx
            exact hD i o ho hi e' h1 h2
        rcases hxj with rfl | hxj
        · exact hDx
        · exact ih x j hxj hDx
      · have : closOf (clos ops (n + 1)) i = 0 := by
          unfold closOf
          rw [nth_eq, List.getElem?_eq_none (by rw [clos_length]; omega)]
          rfl
        rw [this, bit_zero] at h
        cases h

theorem nodup_len : ∀ (n : Nat) (l : List Nat), l.Nodup → (∀ x ∈ l, x < n) → l.length ≤ n := by
  intro n
  induction n with
  | zero =>
    intro l _ h
    cases l with
    | nil => exact Nat.le_refl _
    | cons x l => exact absurd (h x (by simp)) (Nat.not_lt_zero _)
  | succ n ih =>
    intro l hn h
    by_cases hm : n ∈ l
    · have h1 := ih (l.erase n) (hn.erase n) fun x hx => by
        have h2 := (List.Nodup.mem_erase_iff hn).1 hx
        have := h x h2.2
        omega
      rw [List.length_erase_of_mem hm] at h1
      omega
    · have := ih l hn fun x hx => by
        have h1 := h x hx
        have : x ≠ n := fun e => hm (e ▸ hx)
        omega
      omega

def anchorsOf (l : List PStep) : List Nat := (l.filter fun p => p.flt.isNone).map (·.i)

theorem planOk_spec (ops : Array Oper) (cl : List Nat) (dsts : List (Tmp × Nat)) (n : Nat) : ∀ (L : List PStep) (done anchors : List Nat), planOk ops cl dsts n L done anchors = true →
    (∀ pre p post, L = pre ++ p :: post → stepOk ops cl dsts p ((pre.map (·.i)).reverse ++ done) (anchors ++ anchorsOf pre) = true ∧ (p.free = true → ∀ r ∈ post, bit (closOf cl r.i) p.i = true)) ∧ L.length + done.length = n := by
  intro L
  induction L with
  | nil =>
    intro done anchors h
    have h' : Nat.beq (len done) n = true := h
    rw [Nat.beq_eq, len_eq] at h'
    refine ⟨fun pre p post hL => ?_, by simp [h']⟩
    cases pre <;> cases hL
  | cons q L ih =>
    intro done anchors h
    have h' : (stepOk ops cl dsts q done anchors && (!q.free || L.all fun r => bit (closOf cl r.i) q.i) && planOk ops cl dsts n L (q.i :: done) (match q.flt with | some _ => anchors | none => anchors ++ [q.i])) = true := h
    simp only [Bool.and_eq_true] at h'
    obtain ⟨⟨h1, h2⟩, h3⟩ := h'
    obtain ⟨h4, h5⟩ := ih _ _ h3
    refine ⟨fun pre p post hL => ?_, by simp at h5 ⊢; omega⟩
    cases pre with
    | nil =>
      simp only [List.nil_append, List.cons.injEq] at hL
      obtain ⟨rfl, rfl⟩ := hL
      refine ⟨by simpa [anchorsOf] using h1, fun hf r hr => ?_⟩
      rw [hf] at h2
      simp only [Bool.not_true, Bool.false_or, List.all_eq_true] at h2
      exact h2 r hr
    | cons q' pre =>
      simp only [List.cons_append, List.cons.injEq] at hL
      obtain ⟨rfl, hL⟩ := hL
      obtain ⟨h6, h7⟩ := h4 pre p post hL
      refine ⟨?_, h7⟩
      have e1 : ((q :: pre).map (·.i)).reverse ++ done = (pre.map (·.i)).reverse ++ q.i :: done := by simp
      have e2 : anchors ++ anchorsOf (q :: pre) = (match q.flt with | some _ => anchors | none => anchors ++ [q.i]) ++ anchorsOf pre := by
        unfold anchorsOf
        cases hqf : q.flt <;> simp [List.filter_cons, hqf]
      rw [e1, e2]
      exact h6

theorem at_split {L : List PStep} {k : Nat} {p : PStep} (h : L[k]? = some p) : L = L.take k ++ p :: L.drop (k + 1) := by
  have hk : k < L.length := (List.getElem?_eq_some_iff.1 h).1
  have h1 : L.drop k = p :: L.drop (k + 1) := by
    rw [List.drop_eq_getElem_cons hk]
    congr 1
    exact (List.getElem?_eq_some_iff.1 h).2
  rw [← h1, List.take_append_drop]
theorem take_mem {L : List PStep} {k : Nat} {p : PStep} (h : p ∈ L.take k) : ∃ j, j < k ∧ L[j]? = some p := by
  obtain ⟨j, hj, he⟩ := List.getElem_of_mem h
  have hjk : j < k := by
    have := hj
    simp at this
    omega
  refine ⟨j, hjk, ?_⟩
  rw [← he, ← List.getElem?_eq_getElem, List.getElem?_take_of_lt hjk]
theorem mem_take {L : List PStep} {k j : Nat} {p : PStep} (hj : j < k) (h : L[j]? = some p) : p ∈ L.take k := by
  have h1 : (L.take k)[j]? = some p := by rw [List.getElem?_take_of_lt hj, h]
  exact List.mem_of_getElem? h1
theorem mem_drop {L : List PStep} {k j : Nat} {p : PStep} (hj : k < j) (h : L[j]? = some p) : p ∈ L.drop (k + 1) := by
  have h1 : (L.drop (k + 1))[j - (k + 1)]? = some p := by
    rw [List.getElem?_drop, ← h]
    congr 1
    omega
  exact List.mem_of_getElem? h1

section
variable {ops : Array Oper} {L : List PStep}

/-- What the test says of one place. -/
structure Spot (ops : Array Oper) (L : List PStep) (k : Nat) (p : PStep) (o : Oper) : Prop where
  ho : ops[p.i]? = some o
  new : ∀ j q, j < k → L[j]? = some q → q.i ≠ p.i
  bind : ∀ e ∈ o.after, Region.binds .any e = true → ∃ j q, j < k ∧ L[j]? = some q ∧ q.i = e.on
  looks : ∀ t ∈ o.looksAt ops, ∀ d ∈ dstsOf ops, d.1 = t → d.2 = p.i ∨ bit (closOf (clos ops ops.size) p.i) d.2 = true ∨ bit (closOf (clos ops ops.size) d.2) p.i = true
  flt : ∀ q, p.flt = some q → isFlt o.op = true
  lam : ∀ q, p.flt = some (q + 1) → ∃ a, (anchorsOf (L.take k))[q]? = some a ∧ bit (closOf (clos ops ops.size) p.i) a = true
  anch : p.flt = none → ∀ j q, j < k → L[j]? = some q → bit (closOf (clos ops ops.size) p.i) q.i = true ∨ p.sw = some q.i
  free : p.free = true → ∀ j q, k < j → L[j]? = some q → bit (closOf (clos ops ops.size) q.i) p.i = true

theorem spot (hp : planOk ops (clos ops ops.size) (dstsOf ops) ops.size L [] [] = true) {k : Nat} {p : PStep} (hk : L[k]? = some p) : ∃ o, Spot ops L k p o := by
  obtain ⟨h1, _⟩ := planOk_spec _ _ _ _ _ _ _ hp
  obtain ⟨h2, h3⟩ := h1 _ _ _ (at_split hk)
  unfold stepOk at h2
  cases ho : ops[p.i]? with
  | none => rw [ho] at h2; cases h2
  | some o =>
    rw [ho] at h2
    simp only [List.append_nil, List.nil_append, Bool.and_eq_true, Bool.not_eq_true', List.all_eq_true] at h2
    obtain ⟨⟨⟨g1, g2⟩, g3⟩, g4⟩ := h2
    refine ⟨o, ho, fun j q hj hq he => ?_, fun e he hb => ?_, fun t ht d hd hdt => ?_, fun q hq => ?_, fun q hq => ?_, fun hf j q hj hq => ?_, fun hf j q hj hq => h3 hf q (mem_drop hj hq)⟩
    · have hmem : p.i ∈ ((L.take k).map (·.i)).reverse := by
        rw [List.mem_reverse, List.mem_map]
        exact ⟨q, mem_take hj hq, he⟩
      rw [← List.contains_iff_mem, g1] at hmem
      cases hmem
    · have := g2 e.on (mem_binding.2 ⟨e, he, hb, rfl⟩)
      rw [List.contains_iff_mem, List.mem_reverse, List.mem_map] at this
      obtain ⟨q, hq, hqe⟩ := this
      obtain ⟨j, hj, hjq⟩ := take_mem hq
      exact ⟨j, q, hj, hjq, hqe⟩
    · have := g3 t ht d hd
      subst hdt
      rw [beq_t] at this
      simp only [Bool.not_true, Bool.false_or, Bool.or_eq_true, Nat.beq_eq] at this
      rcases this with (h | h) | h
      · exact .inl h
      · exact .inr (.inl h)
      · exact .inr (.inr h)
    · rw [hq] at g4
      simp only [Bool.and_eq_true] at g4
      exact g4.1
    · rw [hq] at g4
      simp only [Bool.and_eq_true] at g4
      have g5 := g4.2
      rw [nth_eq] at g5
      cases ha : (anchorsOf (L.take k))[q]? with
      | none => rw [ha] at g5; cases g5
      | some a =>
        rw [ha] at g5
        exact ⟨a, rfl, g5⟩
    · rw [hf] at g4
      simp only [List.all_eq_true, Bool.or_eq_true] at g4
      have hmem : q.i ∈ ((L.take k).map (·.i)).reverse := by
        rw [List.mem_reverse, List.mem_map]
        exact ⟨q, mem_take hj hq, rfl⟩
      rcases g4 q.i hmem with h | h
      · exact .inl h
      · right
        cases hs : p.sw with
        | none => rw [hs] at h; cases h
        | some b =>
          rw [hs] at h
          simp only [Nat.beq_eq] at h
          rw [h]

def ixOf (L : List PStep) (k : Nat) : Nat := ((L[k]?).map (·.i)).getD 0
def opOf (ops : Array Oper) (L : List PStep) (k : Nat) : Oper := (ops[ixOf L k]?).getD default
def fltOf (L : List PStep) (k : Nat) : Option Nat := (L[k]?).bind (·.flt)

theorem ixOf_eq {k : Nat} {p : PStep} (h : L[k]? = some p) : ixOf L k = p.i := by
  unfold ixOf
  rw [h]
  rfl
theorem fltOf_eq {k : Nat} {p : PStep} (h : L[k]? = some p) : fltOf L k = p.flt := by
  unfold fltOf
  rw [h]
  rfl
theorem opOf_eq {k : Nat} {p : PStep} {o : Oper} (h : L[k]? = some p) (ho : ops[p.i]? = some o) : opOf ops L k = o := by
  unfold opOf
  rw [ixOf_eq h, ho]
  rfl
theorem at_some {k : Nat} (h : k < L.length) : ∃ p, L[k]? = some p := ⟨_, List.getElem?_eq_getElem h⟩
theorem mem_dsts {i t : Nat} {o : Oper} (ho : ops[i]? = some o) (hd : o.dst = some t) : (t, i) ∈ dstsOf ops := by
  unfold dstsOf
  rw [List.mem_filterMap]
  have hlt : i < ops.size := (Array.getElem?_eq_some_iff.1 ho).1
  exact ⟨i, by simpa using hlt, by rw [ho]; simp [hd]⟩

theorem ix_inj (hp : planOk ops (clos ops ops.size) (dstsOf ops) ops.size L [] [] = true) {j k : Nat} (hj : j < L.length) (hk : k < L.length) (h : ixOf L j = ixOf L k) : j = k := by
  obtain ⟨p, hp1⟩ := at_some hj
  obtain ⟨q, hq1⟩ := at_some hk
  rw [ixOf_eq hp1, ixOf_eq hq1] at h
  obtain ⟨_, h1⟩ := spot hp hp1
  obtain ⟨_, h2⟩ := spot hp hq1
  rcases Nat.lt_trichotomy j k with h3 | h3 | h3
  · exact absurd h (h2.new j p h3 hp1)
  · exact h3
  · exact absurd h.symm (h1.new k q h3 hq1)

noncomputable def mkPl (hp : planOk ops (clos ops ops.size) (dstsOf ops) ops.size L [] [] = true) (hd : dstsOk (dstsOf ops) = true) : Pl ops where
  N := L.length
  ix := ixOf L
  op := opOf ops L
  flt := fltOf L
  hop := fun k hk => by
    obtain ⟨p, h⟩ := at_some hk
    obtain ⟨o, hs⟩ := spot hp h
    rw [ixOf_eq h, opOf_eq h hs.ho, hs.ho]
  inj := fun j hj k hk h => ix_inj hp hj hk h
  all := fun i hi => by
    have hlen := (planOk_spec _ _ _ _ _ _ _ hp).2
    simp at hlen
    refine Classical.byContradiction fun hno => ?_
    have hnd : ∀ n, n ≤ L.length → ((List.range n).map (ixOf L)).Nodup := fun n => by
      induction n with
      | zero => intro _; simp
      | succ n ih =>
        intro hn
        rw [List.range_succ, List.map_append, List.nodup_append]
        refine ⟨ih (by omega), by simp, fun x hx y hy hxy => ?_⟩
        simp only [List.map_cons, List.map_nil, List.mem_singleton] at hy
        obtain ⟨j, hj, rfl⟩ := List.mem_map.1 hx
        rw [List.mem_range] at hj
        rw [hy] at hxy
        have := ix_inj hp (show j < L.length by omega) (show n < L.length by omega) hxy
        omega
    have h1 := nodup_len ops.size (i :: (List.range L.length).map (ixOf L)) (List.nodup_cons.2 ⟨fun hmem => by
      obtain ⟨j, hj, he⟩ := List.mem_map.1 hmem
      rw [List.mem_range] at hj
      exact hno ⟨j, hj, he⟩, hnd _ (Nat.le_refl _)⟩) fun x hx => by
        rcases List.mem_cons.1 hx with rfl | hx
        · exact hi
        · obtain ⟨j, hj, rfl⟩ := List.mem_map.1 hx
          rw [List.mem_range] at hj
          obtain ⟨p, h⟩ := at_some hj
          obtain ⟨o, hs⟩ := spot hp h
          rw [ixOf_eq h]
          exact (Array.getElem?_eq_some_iff.1 hs.ho).1
    simp at h1
    omega
  bind := fun k hk e he hb => by
    obtain ⟨p, h⟩ := at_some hk
    obtain ⟨o, hs⟩ := spot hp h
    rw [opOf_eq h hs.ho] at he
    obtain ⟨j, q, h1, h2, h3⟩ := hs.bind e he hb
    exact ⟨j, h1, by rw [ixOf_eq h2, h3]⟩
  isf := fun k hk hf => by
    obtain ⟨p, h⟩ := at_some hk
    obtain ⟨o, hs⟩ := spot hp h
    rw [fltOf_eq h] at hf
    rw [opOf_eq h hs.ho]
    obtain ⟨q, hq⟩ := Option.isSome_iff_exists.1 hf
    exact hs.flt q hq
  dst := fun j hj k hk t h1 h2 => by
    obtain ⟨p, h3⟩ := at_some hj
    obtain ⟨o, hs⟩ := spot hp h3
    obtain ⟨q, h4⟩ := at_some hk
    obtain ⟨o', hs'⟩ := spot hp h4
    rw [opOf_eq h3 hs.ho] at h1
    rw [opOf_eq h4 hs'.ho] at h2
    have m1 := mem_dsts hs.ho h1
    have m2 := mem_dsts hs'.ho h2
    unfold dstsOk at hd
    rw [List.all_eq_true] at hd
    have hd1 := hd _ m1
    rw [List.all_eq_true] at hd1
    have hd2 := hd1 _ m2
    simp only [beq_t, Bool.not_true, Bool.false_or, Nat.beq_eq] at hd2
    refine ix_inj hp hj hk ?_
    rw [ixOf_eq h3, ixOf_eq h4, hd2]

variable (hp : planOk ops (clos ops ops.size) (dstsOf ops) ops.size L [] [] = true) (hd : dstsOk (dstsOf ops) = true)

theorem mk_needs {k j : Nat} (hk : k < L.length) (hj : j < L.length) (h : bit (closOf (clos ops ops.size) (ixOf L k)) (ixOf L j) = true) : (mkPl hp hd).Needs k j := by
  intro D hD hDk
  have hcl : ClI ops (fun i => ∃ k, k < L.length ∧ ixOf L k = i ∧ D k) := by
    rintro i o ho ⟨k', hk', rfl, hd'⟩ e he hb
    obtain ⟨p, h1⟩ := at_some hk'
    obtain ⟨o', hs⟩ := spot hp h1
    have hoo : o' = o := by
      have := hs.ho
      rw [← ixOf_eq h1, ho] at this
      exact (Option.some.inj this).symm
    subst hoo
    obtain ⟨j', q, h2, h3, h4⟩ := hs.bind e he hb
    have hj' : j' < L.length := (List.getElem?_eq_some_iff.1 h3).1
    refine ⟨j', hj', by rw [ixOf_eq h3, h4], hD k' hk' hd' e ?_ hb j' hj' (by show ixOf L j' = e.on; rw [ixOf_eq h3, h4])⟩
    show e ∈ (opOf ops L k').after
    rw [opOf_eq h1 hs.ho]
    exact he
  obtain ⟨j', h1, h2, h3⟩ := clos_sound hcl ops.size _ _ h ⟨k, hk, rfl, hDk⟩
  rw [← ix_inj hp h1 hj h2]
  exact h3

theorem mk_ok : (mkPl hp hd).Ok := by
  refine ⟨fun k hk t ht j hj hdst => ?_⟩
  have hk' : k < L.length := hk
  have hj' : j < L.length := hj
  obtain ⟨p, h1⟩ := at_some hk'
  obtain ⟨o, hs⟩ := spot hp h1
  obtain ⟨q, h2⟩ := at_some hj'
  obtain ⟨o', hs'⟩ := spot hp h2
  have ht' : t ∈ o.looksAt ops := by
    have : t ∈ (opOf ops L k).looksAt ops := ht
    rw [opOf_eq h1 hs.ho] at this
    exact this
  have hdst' : o'.dst = some t := by
    have : (opOf ops L j).dst = some t := hdst
    rw [opOf_eq h2 hs'.ho] at this
    exact this
  rcases hs.looks t ht' _ (mem_dsts hs'.ho hdst') rfl with h | h | h
  · left
    refine ix_inj hp hj' hk' ?_
    rw [ixOf_eq h1, ixOf_eq h2]
    exact h
  · exact .inr (.inl (mk_needs hp hd hk' hj' (by rw [ixOf_eq h1, ixOf_eq h2]; exact h)))
  · exact .inr (.inr (mk_needs hp hd hj' hk' (by rw [ixOf_eq h1, ixOf_eq h2]; exact h)))
end
end Go.Eng
