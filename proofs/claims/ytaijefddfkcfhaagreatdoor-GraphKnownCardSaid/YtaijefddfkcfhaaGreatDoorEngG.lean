/- append, whole. -/
import Derived.Test.YtaijefddfkcfhaaGreatDoorEngF
namespace Go.Eng
open Go
variable [Pins]

section
variable {P : Program} {m : Mp} {σ : FState} {w : World}

/-- append went on in the old memory: the old slice is given up, the new one lies over it. -/
theorem Rel.moved (hr : Rel Top m σ w) {b : Nat} {ent : Ent} {e : MEnt} {l ls : List Value} {el elem size : Nat} {w' : World} {c' : Array Value} {el' : TypeId} {off need : Nat}
    (hm : m b = some e) (hg : σ.heap.get b = some ent) (ho : ent.obj = .cells l el) (hro : e.ro = false)
    (hw : w'.heap[e.blk]? = some (.cells c' el' (0, 0))) (hsz : w'.heap.size = w.heap.size) (hother : ∀ k, k ≠ e.blk → w'.heap[k]? = w.heap[k]?) (hos : w'.os = w.os) (ht : w'.tape = w.tape) (hu : w'.output = w.output)
    (hlen : ls.length = need * size) (hc : ∀ (i : Nat) (v : Value), ls[i]? = some v → ∃ v', c'[e.sh + off + i]? = some v' ∧ VRel m v v') :
    let e' : MEnt := ⟨e.blk, e.sh + off, false, some (size, need * size, c'.size)⟩
    let σ' := (σ.put b (.defd false) none).push (.cells ls elem) (some size)
    Rel Top (m.add σ.next e') σ' w' ∧ Step σ σ' m (m.add σ.next e') w w' := by
  intro e' σ'
  have hle : m.le (m.add σ.next e') := Mp.le_add e' hr.none_next
  have hb : b < σ.next := (hr.dom _ _ hm).1
  have hget : ∀ k, σ'.heap.get k = if k = σ.next then some ⟨.cells ls elem, false, some size, σ.clock + 1⟩ else if k = b then some ⟨.defd false, false, none, σ.clock⟩ else σ.heap.get k := fun k => by
    have h1 : σ'.heap.get k = if k = (σ.put b (.defd false) none).next then some ⟨.cells ls elem, false, some size, (σ.put b (.defd false) none).clock⟩ else (σ.put b (.defd false) none).heap.get k := Tr.get_set _ _ _ _
    rw [h1]
    have h2 : (σ.put b (.defd false) none).heap.get k = if k = b then some ⟨.defd false, false, none, σ.clock⟩ else σ.heap.get k := Tr.get_set _ _ _ _
    rw [h2]
    rfl
  refine ⟨⟨fun k en e1 _ hgk hmk => ?_, fun k k' en en' e1 e2 hne hgk hgk' hak hak' hmk hmk' => ?_, fun k e1 hmk => ?_, fun k en hgk => ?_, fun k o hk => ⟨(hother k fun x => (hr.pin k o hk).2 b e hm hro x.symm).trans (hr.pin k o hk).1, fun k1 e1 hm1 hr1 => ?_⟩⟩, hle, Nat.le_succ _, fun k e1 hmk => ?_, by omega, fun k _ hno => ?_, hos, ht, hu, Nat.le_trans (Nat.le_succ _) (Nat.le_succ _), fun k en hgk => ?_, fun k en hgk => ?_⟩
  · rw [hget] at hgk
    by_cases hkn : k = σ.next
    · subst hkn
      rw [if_pos rfl] at hgk
      simp only [Mp.add, if_true, Option.some.injEq] at hmk
      subst hmk
      cases hgk
      refine ⟨rfl, c', el', (0, 0), hw, fun _ => rfl, fun i v hv => ?_, rfl, hlen.symm, rfl⟩
      obtain ⟨v', h1, h2⟩ := hc i v hv
      exact ⟨v', h1, h2.mono hle⟩
    · rw [if_neg hkn] at hgk
      simp only [Mp.add, if_neg hkn] at hmk
      by_cases hkb : k = b
      · subst hkb
        rw [if_pos rfl] at hgk
        cases hgk
        rw [hm] at hmk
        cases hmk
        exact ⟨hro.symm, trivial⟩
      · rw [if_neg hkb] at hgk
        obtain ⟨h1, h2⟩ := hr.sync k en e1 trivial hgk hmk
        by_cases hal : alive en.obj = true
        · exact ⟨h1, h2.keep hle (hother _ (hr.inj k b en ent e1 e hkb hgk hg hal (by rw [ho]; rfl) hmk hm))⟩
        · exact ⟨h1, sync_dead hal⟩
  · have main : ∀ (k : Nat) (en : Ent) (e1 : MEnt), k ≠ σ.next → σ'.heap.get k = some en → alive en.obj = true → m k = some e1 → e1.blk ≠ e.blk := fun k en e1 hkn hgk hak hmk => by
      rw [hget, if_neg hkn] at hgk
      by_cases hkb : k = b
      · subst hkb
        rw [if_pos rfl] at hgk
        cases hgk
        simp [alive] at hak
      · rw [if_neg hkb] at hgk
        exact hr.inj k b en ent e1 e hkb hgk hg hak (by rw [ho]; rfl) hmk hm
    by_cases hkn : k = σ.next
    · have hkn' : k' ≠ σ.next := fun x => hne (hkn.trans x.symm)
      simp only [Mp.add, if_pos hkn, Option.some.injEq] at hmk
      simp only [Mp.add, if_neg hkn'] at hmk'
      subst hmk
      exact (main k' en' e2 hkn' hgk' hak' hmk').symm
    · simp only [Mp.add, if_neg hkn] at hmk
      by_cases hkn' : k' = σ.next
      · simp only [Mp.add, if_pos hkn', Option.some.injEq] at hmk'
        subst hmk'
        exact main k en e1 hkn hgk hak hmk
      · simp only [Mp.add, if_neg hkn'] at hmk'
        rw [hget, if_neg hkn] at hgk
        rw [hget, if_neg hkn'] at hgk'
        by_cases hkb : k = b
        · subst hkb
          rw [if_pos rfl] at hgk
          cases hgk
          simp [alive] at hak
        · by_cases hkb' : k' = b
          · subst hkb'
            rw [if_pos rfl] at hgk'
            cases hgk'
            simp [alive] at hak'
          · rw [if_neg hkb] at hgk
            rw [if_neg hkb'] at hgk'
            exact hr.inj k k' en en' e1 e2 hne hgk hgk' hak hak' hmk hmk'
  · have hnx : σ'.next = σ.next + 1 := rfl
    by_cases hkn : k = σ.next
    · simp only [Mp.add, if_pos hkn, Option.some.injEq] at hmk
      subst hmk
      have := (hr.dom _ _ hm).2
      rw [hnx]
      exact ⟨by omega, by rw [hsz]; exact this⟩
    · simp only [Mp.add, if_neg hkn] at hmk
      have := hr.dom _ _ hmk
      rw [hnx]
      omega
  · rw [hget] at hgk
    show k < σ.next + 1
    by_cases hkn : k = σ.next
    · omega
    · rw [if_neg hkn] at hgk
      by_cases hkb : k = b
      · omega
      · rw [if_neg hkb] at hgk
        have := hr.wf k en hgk
        omega
  · by_cases hkn : k1 = σ.next
    · simp only [Mp.add, if_pos hkn, Option.some.injEq] at hm1
      subst hm1
      exact (hr.pin k o hk).2 b e hm hro
    · simp only [Mp.add, if_neg hkn] at hm1
      exact (hr.pin k o hk).2 k1 e1 hm1 hr1
  · by_cases hkn : k = σ.next
    · simp only [Mp.add, if_pos hkn, Option.some.injEq] at hmk
      subst hmk
      subst hkn
      exact .inr ⟨hr.none_next, Nat.le_refl _, rfl, .inr ⟨b, e, _, hm, hro, rfl, (hget b).trans ((if_neg (by omega)).trans (if_pos rfl)), Nat.le_refl _⟩⟩
    · simp only [Mp.add, if_neg hkn] at hmk
      exact .inl hmk
  · refine hother k fun x => ?_
    have := hno b e _ hm hro x.symm ((hget b).trans ((if_neg (by omega)).trans (if_pos rfl)))
    exact Nat.lt_irrefl _ this
  · rw [hget] at hgk
    by_cases hkn : k = σ.next
    · rw [if_pos hkn] at hgk
      cases hgk
      exact .inr (Nat.le_succ _)
    · rw [if_neg hkn] at hgk
      by_cases hkb : k = b
      · rw [if_pos hkb] at hgk
        cases hgk
        exact .inr (Nat.le_refl _)
      · rw [if_neg hkb] at hgk
        exact .inl hgk
  · rw [hget]
    by_cases hkn : k = σ.next
    · exact ⟨_, if_pos hkn⟩
    · rw [if_neg hkn]
      by_cases hkb : k = b
      · exact ⟨_, if_pos hkb⟩
      · exact ⟨en, by rw [if_neg hkb]; exact hgk⟩

omit [Pins] in
theorem FzRel.none_cap {cap : Option (Nat × Nat × Nat)} {n n' : Nat} (h : FzRel none cap n n') : cap = none := by
  cases cap with
  | none => rfl
  | some x => exact h.elim
omit [Pins] in
theorem FzRel.some_cap {k : Nat} {cap : Option (Nat × Nat × Nat)} {n n' : Nat} (h : FzRel (some k) cap n n') : cap = some (k, n, n') := by
  cases cap with
  | none => exact h.elim
  | some x =>
    obtain ⟨a, b, c⟩ := x
    obtain ⟨h1, h2, h3⟩ := h
    rw [h1, h2, h3]

omit [Pins] in
theorem takeN_some {n : Nat} {l l' : List Value} (h : takeN n l = some l') : n ≤ l.length ∧ l' = l.take n := by
  rw [takeN_eq] at h
  by_cases hn : n ≤ l.length
  · rw [if_pos hn] at h
    cases h
    exact ⟨hn, rfl⟩
  · rw [if_neg hn] at h
    cases h
omit [Pins] in
theorem loadAll_some {σ : FState} {b o n : Nat} {l : List Value} (h : loadAll σ b o n = some l) : ∃ c, σ.cells b = some c ∧ n ≤ (c.drop o).length ∧ l = (c.drop o).take n ∧ takeN n (dropN o c) = some l := by
  unfold loadAll at h
  cases hc : σ.cells b with
  | none => rw [hc] at h; cases h
  | some c =>
    rw [hc] at h
    obtain ⟨h1, h2⟩ := takeN_some h
    rw [dropN_eq] at h1 h2
    exact ⟨c, rfl, h1, h2, h⟩

omit [Pins] in
theorem firstCells_slice {size n : Nat} {a : Addr} {l c : Nat} {cs : Array Value} {w' : World} (h : (loadCells a (n * size)).run P w' = .ok cs w') : (Builtin.firstCells size n (.slice (some a) l c)).run P w' = .ok cs w' := by
  simp [Builtin.firstCells, h]

omit [Pins] in
theorem addr_add (b o n : Nat) : (⟨b, o, none⟩ : Addr).add n = ⟨b, o + n, none⟩ := by
  unfold Addr.add
  split
  · simp [*]
  · rfl

theorem fgrow_sound {K : Nat → Prop} (hK : ∀ b, K b) {σ₁ : FState} {m₁ : Mp} {w₁ : World} (hr : Rel K m₁ σ₁ w₁) {elem size need newCap : Nat} {l l' : List Value} {z : Array Value} (hz : z.size = size) (hl : LRel m₁ l l') (hlen : l.length = need * size) (hcap : need ≤ newCap) :
    ∃ m' w' v', ((newRow elem (l'.toArray ++ Builtin.zeroCells z (newCap - need))).run P w₁).andThen (fun a w2 => .ok (.slice (some a) need newCap) w2) = .ok v' w' ∧ Rel Top m' (σ₁.push (.cells l elem) (some size)) w' ∧
      Step σ₁ (σ₁.push (.cells l elem) (some size)) m₁ m' w₁ w' ∧ VRel m' (.slice (some ⟨σ₁.next, 0, none⟩) need need) v' := by
  obtain ⟨m', w', h1, h2, h3, h4⟩ := grow_sound (P := P) hr elem size need newCap (rest := Builtin.zeroCells z (newCap - need)) hl hlen (by rw [zeroCells_size, hz]) hcap
  exact ⟨m', w', _, by rw [h1]; rfl, h2.weaken fun b _ => .inl (hK b), h3, h4⟩
end
end Go.Eng
