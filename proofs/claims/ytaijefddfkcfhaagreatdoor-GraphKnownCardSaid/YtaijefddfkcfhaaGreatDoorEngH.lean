/- append: what the reading says of it is so. -/
import Derived.Test.YtaijefddfkcfhaaGreatDoorEngG
namespace Go.Eng
open Go
variable [Pins]

section
variable {P : Program} {m : Mp} {σ : FState} {w : World}

theorem append_room {ty t' e : TypeId} {i : TypeInfo} {d : TypeDesc} (hr : Rel Top m σ w) (hu : P.underlying ty = some (.slice e)) (hu' : P.underlying t' = some d) (hd : ∀ k, d ≠ .int k) (hi : P.info? e = some i)
    {base : Option Addr} {sLen sCap n : Nat} {new new' : List Value} {s' x' : Value} (hs : VRel m (.slice base sLen sCap) s') (hnr : LRel m new new') (hone : new.all oneCell = true) (hnil : n = 0 → new = [])
    (hlen : (Builtin.lenOf x').run P w = .ok n w) (hnew : (Builtin.firstCells i.size n x').run P w = .ok new'.toArray w) (hle : sLen + n ≤ sCap) (t : TypeId) :
    OSound P m σ w (do pure (.value (← Builtin.append_ #[ty, t'] t #[s', x'])))
      (fappendRoom i.size sLen sCap base n new σ) := by
  unfold fappendRoom
  cases hs with
  | nilSlice =>
    exact .valueS hr (v' := .slice none (sLen + n) sCap) (run_append_room rfl hu hu' hd hi hlen hle hnew (fun b hb => by cases hb) (fun _ => rfl) t) (.nilSlice _ _)
  | empty hm =>
    rename_i b o en a'
    have hn0 : n = 0 := by omega
    simp only
    cases hg : σ.heap.get b with
    | none => trivial
    | some ent =>
      simp only
      split
      · rename_i l el ho hro
        cases hsp : spliceN (o + 0 * i.size) new l with
        | none => trivial
        | some l' =>
          have hnl : new = [] := hnil hn0
          subst hnl
          have hl' : l' = l := by
            rw [spliceN_eq] at hsp
            by_cases hle : o + 0 * i.size + ([] : List Value).length ≤ l.length
            · rw [if_pos hle] at hsp
              cases hsp
              simp
            · rw [if_neg hle] at hsp
              cases hsp
          subst hl'
          obtain ⟨hre, hsy⟩ := hr.sync b ent en trivial hg hm
          rw [ho] at hsy
          have hput := hr.put (w' := w) (.cells l' el) ent.fz hg (by rw [ho]; rfl) hm (by rw [← hre]; exact hro) hsy rfl (fun _ _ => rfl) rfl rfl rfl
          have hnl' : new' = [] := by
            have := hnr.1
            simpa using this.symm
          subst hnl'
          subst hn0
          refine ⟨m, w, .slice (some a') 0 0, ?_, hput.1, hput.2, .empty hm⟩
          have := run_append_room (P := P) (w := w) (w2 := w) (base := some a') rfl hu hu' hd hi hlen (Nat.le_refl 0) hnew (fun b hb => by
            simp [storeCells]) (fun h => by cases h) t
          simp [this]
      · trivial
  | slice hm hc =>
    rename_i b o c' en
    simp only
    cases hg : σ.heap.get b with
    | none => trivial
    | some ent =>
      simp only
      split
      · rename_i l el ho hro
        cases hsp : spliceN (o + sLen * i.size) new l with
        | none => trivial
        | some l' =>
          obtain ⟨w', h1, h2, h3⟩ := hr.splice (P := P) hm hg ho hro hsp hnr (all_one hnr hone)
          have hc' : sLen + n ≤ c' := by
            rcases hc with rfl | ⟨_, _, _, _, _, h4, _⟩
            · exact hle
            · omega
          have hadd : (⟨en.blk, en.sh + o, none⟩ : Addr).add (sLen * i.size) = ⟨en.blk, en.sh + (o + sLen * i.size), none⟩ := by rw [addr_add, Nat.add_assoc]
          refine ⟨m, w', .slice (some ⟨en.blk, en.sh + o, none⟩) (sLen + n) c', ?_, h2, h3, .slice hm hc⟩
          have := run_append_room (P := P) (w := w) (w2 := w') (base := some ⟨en.blk, en.sh + o, none⟩) rfl hu hu' hd hi hlen hc' hnew (fun b hb => by
            cases hb
            rw [hadd]
            exact h1) (fun h => by cases h) t
          simp [this]
      · trivial

theorem append_grow {ty t' e : TypeId} {i : TypeInfo} {d : TypeDesc} {z : Value} (hr : Rel Top m σ w) (hu : P.underlying ty = some (.slice e)) (hu' : P.underlying t' = some d) (hd : ∀ k, d ≠ .int k) (hi : P.info? e = some i) (hz : i.zero = some z) (hzs : z.cells.size = i.size)
    {base : Option Addr} {sLen sCap n : Nat} {new new' : List Value} {s' x' : Value} (hs : VRel m (.slice base sLen sCap) s') (hnr : LRel m new new') (hone : new.all oneCell = true) (hnl : new.length = n * i.size)
    (hlen : (Builtin.lenOf x').run P w = .ok n w) (hnew : ∀ w' : World, (∀ k, k < w.heap.size → w'.heap[k]? = w.heap[k]?) → (Builtin.firstCells i.size n x').run P w' = .ok new'.toArray w') (hlt : sCap < sLen + n)
    (hsmall : (sLen + n) * (i.bytes + 1) ≤ 1000000000) (t : TypeId) :
    OSound P m σ w (do pure (.value (← Builtin.append_ #[ty, t'] t #[s', x'])))
      (fappendGrow e i.size sLen sCap base n new σ) := by
  unfold fappendGrow
  have hnw : ∀ w' : World, w'.heap = w.heap → (Builtin.firstCells i.size n x').run P w' = .ok new'.toArray w' := fun w' hw' => hnew w' fun k _ => by rw [hw']
  cases hs with
  | nilSlice =>
    simp only
    by_cases h0 : sLen = 0
    · subst h0
      rw [beq_t]
      obtain ⟨newCap, w1, h1, h2, h3, h4, h5, h6⟩ := run_append_grow (P := P) (w := w) (base := none) (old := #[]) (s := .slice none 0 sCap) rfl hu hu' hd hi hz hlen hlt hsmall (fun w' _ => by simp [Builtin.firstCells]) hnw t
      obtain ⟨m', w', v', h7, h8, h9, h10⟩ := fgrow_sound (P := P) (fun _ => trivial) (hr.sameHeap h2) (elem := e) (size := i.size) (need := 0 + n) hzs hnr (by rw [hnl, Nat.zero_add]) h1
      refine ⟨m', w', v', ?_, h8, (Step.sameHeap σ m h2 h3 h4 h5).trans h9, h10⟩
      rw [Sem.run_bind, h6, Array.empty_append, h7]
      rfl
    · rw [beq_f h0]; trivial
  | empty hm =>
    rename_i b o en a'
    simp only
    cases hl : loadAll σ b o (0 * i.size) with
    | none => trivial
    | some old =>
      cases hg : σ.heap.get b with
      | none => trivial
      | some ent =>
        simp only
        obtain ⟨cs, hcs, hcl, hold, htk⟩ := loadAll_some hl
        have hold0 : old = [] := by rw [hold]; simp
        subst hold0
        obtain ⟨hre, _⟩ := hr.sync b ent en trivial hg hm
        obtain ⟨ent', el, hg', hobj⟩ := cells_some hcs
        rw [hg] at hg'
        cases hg'
        have long : ∀ (σ₁ : FState), Rel Top m σ₁ w → Step σ σ₁ m m w w →
            OSound P m σ w (do pure (.value (← Builtin.append_ #[ty, t'] t #[.slice (some a') 0 0, x']))) (fgrow e i.size (0 + n) ([] ++ new) σ₁) := fun σ₁ hr₁ hst₁ => by
          obtain ⟨newCap, w1, h1, h2, h3, h4, h5, h6⟩ := run_append_grow (P := P) (w := w) (base := some a') (old := #[]) (s := .slice (some a') 0 0) rfl hu hu' hd hi hz hlen hlt hsmall (fun w' _ => by simp [Builtin.firstCells, loadCells, loadCellsFrom]) hnw t
          obtain ⟨m', w', v', h7, h8, h9, h10⟩ := fgrow_sound (P := P) (fun _ => trivial) (hr₁.sameHeap h2) (elem := e) (size := i.size) (need := 0 + n) hzs (l := [] ++ new) hnr (by rw [List.nil_append, hnl, Nat.zero_add]) h1
          refine ⟨m', w', v', ?_, h8, (hst₁.trans (Step.sameHeap σ₁ m h2 h3 h4 h5)).trans h9, h10⟩
          rw [Sem.run_bind, h6, Array.empty_append, h7]
          rfl
        split
        · rename_i k hfz
          cases hcond : (!ent.ro && Nat.beq 0 0 && Nat.beq k i.size) with
          | false => trivial
          | true =>
            simp only [Bool.and_eq_true, Bool.not_eq_true'] at hcond
            have hkill := hr.put (w' := w) (.defd false) none hg (by rw [hobj]; rfl) hm (by rw [← hre]; exact hcond.1.1) trivial rfl (fun _ _ => rfl) rfl rfl rfl
            exact long _ hkill.1 hkill.2
        · exact long σ hr (Step.refl _ _ _)
  | slice hm hc =>
    rename_i b o c' en
    simp only
    cases hl : loadAll σ b o (sLen * i.size) with
    | none => trivial
    | some old =>
      cases hg : σ.heap.get b with
      | none => trivial
      | some ent =>
        simp only
        obtain ⟨cs, hcs, hcl, hold, htk⟩ := loadAll_some hl
        obtain ⟨old', ho1, ho2, ho3⟩ := hr.cellsFrom hm hcs htk
        have hol : old'.length = sLen * i.size := by rw [← ho1.1]; exact ho2
        have hread : ∀ w' : World, w'.heap = w.heap → (Builtin.firstCells i.size sLen (.slice (some ⟨en.blk, en.sh + o, none⟩) sLen c')).run P w' = .ok old'.toArray w' := fun w' hw' => by
          refine firstCells_slice ?_
          have := run_loadCells_list (P := P) (w := w') (⟨en.blk, en.sh + o, none⟩ : Addr) old' (fun j v hv => by rw [← ho3 j v hv]; simp [World.cell?, hw'])
          rwa [hol] at this
        obtain ⟨hre, hsy⟩ := hr.sync b ent en trivial hg hm
        obtain ⟨ent', el, hg', hobj⟩ := cells_some hcs
        rw [hg] at hg'
        cases hg'
        rw [hobj] at hsy
        obtain ⟨cc, el', fr, hb1, hb2, hb3, hb4⟩ := hsy
        have hlen2 : (old ++ new).length = (sLen + n) * i.size := by rw [List.length_append, ho2, hnl, Nat.add_mul]
        -- new memory
        have long : ∀ (σ₁ : FState), Rel Top m σ₁ w → Step σ σ₁ m m w w → c' < sLen + n →
            OSound P m σ w (do pure (.value (← Builtin.append_ #[ty, t'] t #[.slice (some ⟨en.blk, en.sh + o, none⟩) sLen c', x']))) (fgrow e i.size (sLen + n) (old ++ new) σ₁) := fun σ₁ hr₁ hst₁ hlt' => by
          obtain ⟨newCap, w1, h1, h2, h3, h4, h5, h6⟩ := run_append_grow (P := P) (w := w) (base := some ⟨en.blk, en.sh + o, none⟩) (old := old'.toArray) (s := .slice (some ⟨en.blk, en.sh + o, none⟩) sLen c') rfl hu hu' hd hi hz hlen hlt' hsmall hread hnw t
          obtain ⟨m', w', v', h7, h8, h9, h10⟩ := fgrow_sound (P := P) (fun _ => trivial) (hr₁.sameHeap h2) (elem := e) (size := i.size) (need := sLen + n) hzs (ho1.append hnr) hlen2 h1
          refine ⟨m', w', v', ?_, h8, (hst₁.trans (Step.sameHeap σ₁ m h2 h3 h4 h5)).trans h9, h10⟩
          rw [Sem.run_bind, h6]
          rw [show (old'.toArray ++ new'.toArray : Array Value) = (old' ++ new').toArray by simp, h7]
          rfl
        split
        · rename_i k hfz
          cases hcond : (!ent.ro && Nat.beq sLen sCap && Nat.beq k i.size) with
          | false => trivial
          | true =>
            simp only [Bool.and_eq_true, Bool.not_eq_true', Nat.beq_eq] at hcond
            obtain ⟨⟨hro, hsc⟩, hk⟩ := hcond
            subst hsc
            subst hk
            rw [hfz] at hb4
            have hcap := hb4.some_cap
            have hro' : en.ro = false := by rw [← hre]; exact hro
            have hkill := hr.put (w' := w) (.defd false) none hg (by rw [hobj]; rfl) hm hro' trivial rfl (fun _ _ => rfl) rfl rfl rfl
            by_cases hin : sLen + n ≤ c'
            · -- in the old memory
              rcases hc with rfl | ⟨esz, asz, csz, hc1, hc2, hc3, hc4⟩
              · omega
              · rw [hcap] at hc1
                cases hc1
                rw [hb2 hro'] at hb1
                have hfit : en.sh + o + sLen * i.size + 0 + new'.length ≤ cc.size := by
                  rw [← hnr.1, hnl]
                  have : (sLen + n) * i.size ≤ c' * i.size := Nat.mul_le_mul_right _ hin
                  rw [Nat.add_mul] at this
                  omega
                have hst := run_storeCells_at P en.blk (en.sh + o + sLen * i.size) el' new' 0 cc w hb1 hfit (all_one hnr hone)
                have hadd : (⟨en.blk, en.sh + o, none⟩ : Addr).add (sLen * i.size) = ⟨en.blk, en.sh + o + sLen * i.size, none⟩ := addr_add _ _ _
                have hrun := run_append_room (P := P) (w := w) (base := some ⟨en.blk, en.sh + o, none⟩) rfl hu hu' hd hi hlen hin (hnw w rfl) (fun b hb => by
                  cases hb
                  rw [hadd]
                  exact hst) (fun h => by cases h) t
                have hoff : en.sh + o + sLen * i.size + 0 = en.sh + o + sLen * i.size := rfl
                obtain ⟨hR, hS⟩ := hr.moved (elem := e) (size := i.size) (off := o) (need := sLen + n) (ls := old ++ new) hm hg hobj hro' (setRow_heap w en.blk cc (cc.toList.take (en.sh + o + sLen * i.size + 0) ++ new' ++ cc.toList.drop (en.sh + o + sLen * i.size + 0 + new'.length)).toArray el' (0, 0) hb1) (size_setRow _ _ _) (other_setRow _ _ _) rfl rfl rfl hlen2 (fun j v hv => by
                  have hx := getElem?_splice (l := cc.toList) (new := new') (off := en.sh + o + sLen * i.size) (by simpa using hfit) (en.sh + o + j)
                  simp only [Nat.add_zero, List.getElem?_toArray]
                  rw [hx]
                  by_cases hj : j < old.length
                  · rw [List.getElem?_append_left hj] at hv
                    rw [if_pos (by omega)]
                    subst hold
                    rw [List.getElem?_take_of_lt (by omega), List.getElem?_drop] at hv
                    obtain ⟨v', h4, h5⟩ := hb3 (o + j) v hv
                    exact ⟨v', by rw [← h4]; simp [Nat.add_assoc], h5⟩
                  · rw [List.getElem?_append_right (by omega)] at hv
                    have hjn : j - old.length < new.length := (List.getElem?_eq_some_iff.1 hv).1
                    rw [if_neg (by omega), if_pos (by rw [← hnr.1]; omega)]
                    obtain ⟨v', h4, h5⟩ := hnr.get hv
                    exact ⟨v', by rw [show en.sh + o + j - (en.sh + o + sLen * i.size) = j - old.length by omega]; exact h4, h5⟩)
                refine ⟨_, _, .slice (some ⟨en.blk, en.sh + o, none⟩) (sLen + n) c', by simp [hrun], hR, hS, ?_⟩
                refine .slice (e := ⟨en.blk, en.sh + o, false, some (i.size, (sLen + n) * i.size, (cc.toList.take (en.sh + o + sLen * i.size + 0) ++ new' ++ cc.toList.drop (en.sh + o + sLen * i.size + 0 + new'.length)).toArray.size)⟩) (if_pos rfl) (.inr ⟨i.size, (sLen + n) * i.size, _, rfl, Nat.zero_add _, hin, ?_⟩)
                have e2 : (cc.toList.take (en.sh + o + sLen * i.size + 0) ++ new' ++ cc.toList.drop (en.sh + o + sLen * i.size + 0 + new'.length)).toArray.size = cc.size := by simp at hfit ⊢; omega
                rw [e2]
                simp only [Nat.add_zero]
                omega
            · exact long _ hkill.1 hkill.2 (by omega)
        · rename_i hfz
          rw [hfz] at hb4
          have hcap := hb4.none_cap
          have hceq : sCap = c' := by
            rcases hc with h | ⟨_, _, _, h, _⟩
            · exact h
            · rw [hcap] at h; cases h
          subst hceq
          exact long σ hr (Step.refl _ _ _) hlt

theorem fappend_sound {ty t' e : TypeId} {i : TypeInfo} {d : TypeDesc} {z : Value} (hr : Rel Top m σ w) (hu : P.underlying ty = some (.slice e)) (hu' : P.underlying t' = some d) (hd : ∀ k, d ≠ .int k) (hi : P.info? e = some i) (hz : i.zero = some z) (hzs : z.cells.size = i.size)
    {s s' x x' : Value} (hs : VRel m s s') (hx : VRel m x x') (t : TypeId) :
    OSound P m σ w (do pure (.value (← Builtin.append_ #[ty, t'] t #[s', x']))) (fappend e i.size i.bytes s x σ) := by
  unfold fappend
  split
  · rename_i base sLen sCap
    cases hn : fnew i.size x σ with
    | none => trivial
    | some r =>
      obtain ⟨n, new⟩ := r
      simp only
      cases hone : new.all oneCell with
      | false => trivial
      | true =>
        obtain ⟨new', h1, h2, h3, h4, h5⟩ := fnew_sound (P := P) hr hx hn
        unfold fappend2
        by_cases hle : sLen + n ≤ sCap
        · rw [ble_t hle]
          exact append_room hr hu hu' hd hi hs h1 hone (fun h0 => by subst h0; simpa using h4) h2 h3 hle t
        · rw [ble_f hle]
          by_cases hsm : (sLen + n) * (i.bytes + 1) ≤ 1000000000
          · rw [ble_t hsm]
            exact append_grow hr hu hu' hd hi hz hzs hs h1 hone h4 h2 h5 (by omega) hsm t
          · rw [ble_f hsm]
            trivial
  · trivial
end
end Go.Eng
