/- Operations that write or make memory. -/
import Derived.Test.YtaijefddfkcfhaaGreatDoorEngD
namespace Go.Eng
open Go
variable [Pins]

omit [Pins] in
theorem one_eq {v : Value} (h : oneCell v = true) : v.oneCell' = true := by cases v <;> first | rfl | (simp [oneCell] at h)

section
variable {P : Program} {m : Mp} {σ : FState} {w : World} {a : FAct} {c : Act}

omit [Pins] in
theorem size_setRow (w : World) (g : Nat) (cs : Array Value) : (w.setRow g cs).heap.size = w.heap.size := by simp [World.setRow]
omit [Pins] in
theorem other_setRow (w : World) (g : Nat) (cs : Array Value) (k : Nat) (h : k ≠ g) : (w.setRow g cs).heap[k]? = w.heap[k]? := by
  simp [World.setRow, Array.getElem?_modify]
  intro h'
  exact absurd h'.symm h

/-- Cells written over. -/
theorem Rel.splice (hr : Rel Top m σ w) {b off : Nat} {ent : Ent} {e : MEnt} {l l' cs cs' : List Value} {el : TypeId} (hm : m b = some e) (hg : σ.heap.get b = some ent) (ho : ent.obj = .cells l el)
    (hro : ent.ro = false) (hsp : spliceN off cs l = some l') (hc : LRel m cs cs') (h1 : ∀ v ∈ cs', v.oneCell' = true) :
    ∃ w', (storeCells ⟨e.blk, e.sh + off, none⟩ cs').run P w = .ok () w' ∧ Rel Top m (σ.put b (.cells l' el) ent.fz) w' ∧ Step σ (σ.put b (.cells l' el) ent.fz) m m w w' := by
  obtain ⟨hre, hs⟩ := hr.sync b ent e trivial hg hm
  rw [ho] at hs
  obtain ⟨c', el', fr, h2, h3, h4, h5⟩ := hs
  have hro' : e.ro = false := by rw [← hre]; exact hro
  rw [h3 hro'] at h2
  rw [spliceN_eq] at hsp
  by_cases hle : off + cs.length ≤ l.length
  · rw [if_pos hle] at hsp
    cases hsp
    have hlen : ∀ i, i < l.length → e.sh + i < c'.size := fun i hi => by
      obtain ⟨v', h6, _⟩ := h4 i l[i] (List.getElem?_eq_getElem hi)
      exact (Array.getElem?_eq_some_iff.1 h6).1
    have hfit : e.sh + off + 0 + cs'.length ≤ c'.size ∨ cs'.length = 0 := by
      rw [← hc.1]
      by_cases h0 : cs.length = 0
      · exact .inr h0
      · have := hlen (off + cs.length - 1) (by omega)
        exact .inl (by omega)
    rcases hfit with hfit | h0
    · have hrun := run_storeCells_at P e.blk (e.sh + off) el' cs' 0 c' w h2 hfit h1
      refine ⟨_, hrun, hr.put (.cells _ el) ent.fz hg (by rw [ho]; rfl) hm hro' ?_ (size_setRow _ _ _) (other_setRow _ _ _) rfl rfl rfl⟩
      refine ⟨_, el', (0, 0), setRow_heap w e.blk c' _ el' _ h2, fun _ => rfl, fun i v hv => ?_, ?_⟩
      · rw [getElem?_splice hle] at hv
        have hx := getElem?_splice (l := c'.toList) (new := cs') (off := e.sh + off) (by simpa using hfit) (e.sh + i)
        simp only [Nat.add_zero, List.getElem?_toArray]
        rw [hx]
        by_cases hi : i < off
        · rw [if_pos hi] at hv
          rw [if_pos (by omega)]
          obtain ⟨v', h6, h7⟩ := h4 i v hv
          exact ⟨v', by simpa using h6, h7⟩
        · rw [if_neg hi] at hv
          rw [if_neg (by omega)]
          by_cases hi2 : i < off + cs.length
          · rw [if_pos hi2] at hv
            rw [if_pos (by rw [← hc.1]; omega)]
            obtain ⟨v', h6, h7⟩ := hc.get hv
            exact ⟨v', by rw [show e.sh + i - (e.sh + off) = i - off by omega]; exact h6, h7⟩
          · rw [if_neg hi2] at hv
            rw [if_neg (by rw [← hc.1]; omega)]
            obtain ⟨v', h6, h7⟩ := h4 i v hv
            exact ⟨v', by simpa using h6, h7⟩
      · have e1 : (l.take off ++ cs ++ l.drop (off + cs.length)).length = l.length := by simp; omega
        have e2 : (c'.toList.take (e.sh + off + 0) ++ cs' ++ c'.toList.drop (e.sh + off + 0 + cs'.length)).toArray.size = c'.size := by simp at hfit ⊢; omega
        rw [e1, e2]
        exact h5
    · have hcs' : cs' = [] := List.length_eq_zero_iff.1 h0
      have hcs : cs = [] := List.length_eq_zero_iff.1 (by rw [hc.1]; exact h0)
      subst hcs' hcs
      refine ⟨w, rfl, hr.put (.cells _ el) ent.fz hg (by rw [ho]; rfl) hm hro' ?_ rfl (fun _ _ => rfl) rfl rfl rfl⟩
      refine ⟨c', el', (0, 0), h2, fun _ => rfl, fun i v hv => ?_, ?_⟩
      · exact h4 i v (by simpa using hv)
      · simpa using h5
  · rw [if_neg hle] at hsp
    cases hsp

theorem fstore_sound (hr : Rel Top m σ w) {t : TypeId} {n : Nat} (ht : sizeOfT P t = some n) {p p' v v' : Value} (hp : VRel m p p') (hv : VRel m v v') :
    OSound P m σ w (do Instr.storeAt t p' v'; pure .skip) (fstore n p v σ) := by
  unfold fstore
  split
  · rename_i b off
    cases hp with
    | ptr hm =>
      rename_i e
      cases hg : σ.heap.get b with
      | none => trivial
      | some ent =>
        simp only
        split
        · rename_i l el ho hro
          cases hc : (notTuple v && Nat.beq (len (valCells v)) n && (valCells v).all oneCell) with
          | false => trivial
          | true =>
            simp only [Bool.and_eq_true, Nat.beq_eq, len_eq] at hc
            obtain ⟨⟨h1, h2⟩, h3⟩ := hc
            cases hsp : spliceN off (valCells v) l with
            | none => trivial
            | some l' =>
              have hcr := valCells_rel hv h1
              have hone : ∀ x ∈ valCells v', x.oneCell' = true := fun x hx => by
                obtain ⟨i, hi, rfl⟩ := List.getElem_of_mem hx
                have hi' : i < (valCells v).length := by rw [hcr.1]; exact hi
                exact one_eq (oneCell_of_rel (hcr.2 i _ _ (List.getElem?_eq_getElem hi') (List.getElem?_eq_getElem hi)) (List.all_eq_true.1 h3 _ (List.getElem_mem hi')))
              obtain ⟨w', h4, h5, h6⟩ := hr.splice (P := P) hm hg ho hro hsp hcr hone
              refine ⟨m, w', ?_, h5, h6⟩
              have hsz : v'.cells.size = n := by
                have : v'.cells.toList.length = n := by rw [cells_eq, ← hcr.1]; exact h2
                simpa using this
              simp [Instr.storeAt, Instr.sureAddr, storeVar, run_sizeOf ht, hsz, cells_eq, h4]
        · trivial
  · trivial

/-- New cells. -/
theorem newCells_sound (hr : Rel Top m σ w) {l l' : List Value} (hl : LRel m l l') (el el' : TypeId) :
    ∃ m' w', (newRow el' l'.toArray).run P w = .ok ⟨w.heap.size, 0, none⟩ w' ∧ Rel Top m' (σ.push (.cells l el) none) w' ∧ Step σ (σ.push (.cells l el) none) m m' w w' ∧ m' σ.next = some ⟨w.heap.size, 0, false, none⟩ := by
  have he : ∀ m' : Mp, m.le m' → Sync m' (.cells l el) none ⟨w.heap.size, 0, false, none⟩ { w with heap := w.heap.push (.cells l'.toArray el') } := fun m' hle => by
    refine ⟨l'.toArray, el', (0, 0), by simp, fun _ => rfl, fun i v hv => ?_, trivial⟩
    obtain ⟨v', h1, h2⟩ := hl.get hv
    exact ⟨v', by simpa using h1, h2.mono hle⟩
  obtain ⟨h1, h2⟩ := hr.push (.cells l el) none (.cells l'.toArray el') ⟨w.heap.size, 0, false, none⟩ rfl rfl (he _ (Mp.le_add _ hr.none_next))
  refine ⟨_, _, by simp [newRow], h1.weaken fun _ _ => .inl trivial, h2, by simp [Mp.add]⟩

omit [Pins] in
theorem zeroCells_some {t : TypeId} {z : List Value} (h : zeroCells P t = some z) : ∃ i zv, P.info? t = some i ∧ i.zero = some zv ∧ zv.cells.toList = z ∧ z.all simple1 = true := by
  unfold zeroCells at h
  cases hi : info P t with
  | none => rw [hi] at h; cases h
  | some i =>
    rw [hi] at h
    simp only at h
    cases hz : i.zero with
    | none => rw [hz] at h; cases h
    | some zv =>
      simp only [hz] at h
      cases hs : zv.cells.toList.all simple1 with
      | false => rw [hs] at h; cases h
      | true =>
        rw [hs] at h
        cases h
        exact ⟨i, zv, info_eq hi, hz, rfl, hs⟩
omit [Pins] in
theorem zeroVal_some {t : TypeId} {z : Value} (h : zeroVal P t = some z) (w : World) : (zeroValue t).run P w = .ok z w ∧ ∀ m, VRel m z z := by
  unfold zeroVal at h
  cases hi : info P t with
  | none => rw [hi] at h; cases h
  | some i =>
    rw [hi] at h
    simp only at h
    cases hz : i.zero with
    | none => rw [hz] at h; cases h
    | some zv =>
      simp only [hz] at h
      cases hs : okConst zv with
      | false => rw [hs] at h; cases h
      | true =>
        rw [hs] at h
        cases h
        exact ⟨by simp [zeroValue, run_typeInfo (info_eq hi), hz], fun m => .of_const hs⟩
omit [Pins] in
theorem run_zeroValue {t : TypeId} {i : TypeInfo} {z : Value} (h : P.info? t = some i) (hz : i.zero = some z) (w : World) : (zeroValue t).run P w = .ok z w := by
  simp [zeroValue, run_typeInfo h, hz]

theorem alloc_sound (hr : Rel Top m σ w) {t : TypeId} {z : List Value} (hz : zeroCells P t = some z) :
    OSound P m σ w (do pure (.value (← Instr.alloc t true (.tuple #[])))) (newCells z t none σ) := by
  obtain ⟨i, zv, h1, h2, h3, h4⟩ := zeroCells_some hz
  obtain ⟨m', w', h5, h6, h7, h8⟩ := newCells_sound (P := P) hr (LRel.of_simple (m := m) h4) t t
  refine ⟨m', w', _, ?_, h6, h7, .ptr h8⟩
  have h9 : zv.cells = z.toArray := by rw [← h3]
  simp [Instr.alloc, run_zeroValue h1 h2, newVar, h9, h5]

theorem box_sound (hr : Rel Top m σ w) {t : TypeId} {v v' : Value} (hv : VRel m v v') (hn : notTuple v = true) :
    OSound P m σ w (do pure (.value (← Instr.box t v'))) (newCells (valCells v) t none σ) := by
  obtain ⟨m', w', h5, h6, h7, h8⟩ := newCells_sound (P := P) hr (valCells_rel hv hn) t t
  refine ⟨m', w', _, ?_, h6, h7, .ptr h8⟩
  have h9 : v'.cells = (valCells v').toArray := by rw [← cells_eq]
  simp [Instr.box, newVar, h9, h5]
end
end Go.Eng
