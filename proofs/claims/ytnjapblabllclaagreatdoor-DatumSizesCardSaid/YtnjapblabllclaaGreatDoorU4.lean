/- The reading of the program, and what is so of it: SymV, SymO, SymCG, SymG. -/
import Derived.Test.YtnjapblabllclaaGreatDoorU3
set_option linter.unusedSimpArgs false
set_option linter.unusedVariables false
/- caracolekit.DatumOf: vectors, pairs, and all data. -/
namespace Go.Proofs.YtnjapblabllclaaGreatDoor
open Go Go.Eng
attribute [local congr] andThen_congr fops_congr fdraw_congr afterOp_congr drawF_congr
theorem keep38 : keepOf nls 38 = [61, 62, 63, 64, 65, 66, 67, 68, 69, 70] := by kernel_rfl

theorem pair_goR (n : Nat) (R : Nat → Prop) (d1 d2 : D) (v1 v2 : Value) (σ : FState) (hw : Wf σ) (h1 : LaidR R σ v1 d1) (h2 : LaidR R σ v2 d2) :
    ∃ v σ', (env (n + 1)).call 23 [v1, v2] none σ = .ret v none σ' ∧ Ext σ σ' ∧ Wf σ' ∧ LaidR (fun b => R b ∨ New σ σ' b) σ' v (.mk 5 0 ⟨#[]⟩ [d1, d2]) := by
  have H1 := h1
  have H2 := h2
  obtain ⟨k1, n1, t1, l1⟩ := d1
  obtain ⟨k2, n2, t2, l2⟩ := d2
  obtain ⟨p1, c1, rfl, e1⟩ := h1
  obtain ⟨p2, c2, rfl, e2⟩ := h2
  rw [env_call, enter23 _ _ _ _ (by simp), Sl_start]
  unfold run23
  simp -implicitDefEqProofs only [seqR_go, fops_c, fops_nil, fdraw_f, fdraw_a, fdraw_nil', drawR_go, retR_go, skipR_go, exitR_go, after_val, after_skip, after_enter, after_ret, andThen_normal, andThen_ret, andThen_exit, put_none, Nat.reduceLT, ↓reduceIte, Nat.reduceEqDiff, Nat.reduceAdd, nth_zero, nth_succ, drawF_val, drawF_push, stepOp_eq, drawA_normal, view_next, push_next, push_clock, put_next, put_clock, box_go, newCells_go, notTuple_agg, notTuple_int, notTuple_string, notTuple_bool, notTuple_slice, notTuple_pointer, valCells_agg, valCells_int, valCells_string, valCells_bool, valCells_slice, valCells_pointer, ffield_eq, fload1, floadN, cells_push, cells_put, cells?_cells, gd_true, gd_false, fpick_eq, eql_int, neq_int, lss_int, leq_int, gtr_int, geq_int, add_int, sub_int, mul_int, eql_str, neq_str, not_go, flenL_eq, flenS_eq, Nat.add_zero, Nat.zero_add, Nat.add_left_cancel_iff, Nat.add_eq_left, Nat.left_eq_add, List.getElem?_cons_zero, List.getElem?_cons_succ, beq_self_eq_true, Bool.not_true, Bool.not_false, cond_true, cond_false, leaveR_ret, leaveR_normal, leave_tmp, leave_tmp2, leave_tmp3, condR_val, Bool.false_eq_true, blockR_k, blockK_normal, blockK_ret, blockK_exit, loopR_go, findex_eq, List.not_mem_nil, or_false, or_true, List.cons_append, List.nil_append, add_u64, mul_u64, xor_u64, shr32_u64, shr27_u64, shr9_u64, nilCheck_ptr, fstore1, push_get, put_get, List.set_cons_zero, List.set_cons_succ, List.length_cons, List.length_nil, oneCell_int, oneCell_string, oneCell_bool, oneCell_slice, oneCell_pointer, fcallV_func, fdefer_func, List.toList_toArray, after_defer, after_recover, fleave_fn, unrecovered_returning, leave_none, fextract_go, Nat.add_assoc, lay_nil, lay_cons, fbuild_go, fbuildSlice_go, reps_zero, reps_succ, leave_cell, List.take_zero, List.take_succ_cons, List.drop_zero, List.drop_succ_cons, List.drop_nil, List.take_nil, List.append_nil, Nat.zero_mul, Nat.one_mul, Nat.reduceMul, Nat.reduceLeDiff, and_self, true_and, Nat.reduceSub, Nat.sub_zero, List.all_cons, List.all_nil, Bool.and_self, Bool.and_true, Nat.mul_one, Sl_get, Sl_put, Sl_defers, Sl_nl, Sl_forget, upd_go, kept_go, fstoreN, r23_0_go, r23_1_go, aggDatum, Option.getD_some]
  generalize hs : FState.put _ _ _ _ = σ'
  have hx : Ext σ σ' := by
    rw [← hs]
    exact (((((Ext.refl σ).push _ _).push _ _).push _ _).push _ _).put _ _ _ (Nat.le_add_right _ _)
  have hw' : Wf σ' := by
    rw [← hs]
    exact ((((hw.push _ _).push _ _).push _ _).push _ _).put _ _ _ (by simp only [push_next]; omega)
  have hc : σ'.cells (σ.next + 3) = some [.int .i64 k1, .int .i64 n1, .string t1, .slice p1 l1.length c1, .int .i64 k2, .int .i64 n2, .string t2, .slice p2 l2.length c2] := by
    rw [← hs]
    simp -implicitDefEqProofs only [seqR_go, fops_c, fops_nil, fdraw_f, fdraw_a, fdraw_nil', drawR_go, retR_go, skipR_go, exitR_go, after_val, after_skip, after_enter, after_ret, andThen_normal, andThen_ret, andThen_exit, put_none, Nat.reduceLT, ↓reduceIte, Nat.reduceEqDiff, Nat.reduceAdd, nth_zero, nth_succ, drawF_val, drawF_push, stepOp_eq, drawA_normal, view_next, push_next, push_clock, put_next, put_clock, box_go, newCells_go, notTuple_agg, notTuple_int, notTuple_string, notTuple_bool, notTuple_slice, notTuple_pointer, valCells_agg, valCells_int, valCells_string, valCells_bool, valCells_slice, valCells_pointer, ffield_eq, fload1, floadN, cells_push, cells_put, cells?_cells, gd_true, gd_false, fpick_eq, eql_int, neq_int, lss_int, leq_int, gtr_int, geq_int, add_int, sub_int, mul_int, eql_str, neq_str, not_go, flenL_eq, flenS_eq, Nat.add_zero, Nat.zero_add, Nat.add_left_cancel_iff, Nat.add_eq_left, Nat.left_eq_add, List.getElem?_cons_zero, List.getElem?_cons_succ, beq_self_eq_true, Bool.not_true, Bool.not_false, cond_true, cond_false, leaveR_ret, leaveR_normal, leave_tmp, leave_tmp2, leave_tmp3, condR_val, Bool.false_eq_true, blockR_k, blockK_normal, blockK_ret, blockK_exit, loopR_go, findex_eq, List.not_mem_nil, or_false, or_true, List.cons_append, List.nil_append, add_u64, mul_u64, xor_u64, shr32_u64, shr27_u64, shr9_u64, nilCheck_ptr, fstore1, push_get, put_get, List.set_cons_zero, List.set_cons_succ, List.length_cons, List.length_nil, oneCell_int, oneCell_string, oneCell_bool, oneCell_slice, oneCell_pointer, fcallV_func, fdefer_func, List.toList_toArray, after_defer, after_recover, fleave_fn, unrecovered_returning, leave_none, fextract_go, Nat.add_assoc, lay_nil, lay_cons, fbuild_go, fbuildSlice_go, reps_zero, reps_succ, leave_cell, List.take_zero, List.take_succ_cons, List.drop_zero, List.drop_succ_cons, List.drop_nil, List.take_nil, List.append_nil, Nat.zero_mul, Nat.one_mul, Nat.reduceMul, Nat.reduceLeDiff, and_self, true_and, Nat.reduceSub, Nat.sub_zero, List.all_cons, List.all_nil, Bool.and_self, Bool.and_true, Nat.mul_one, Sl_get, Sl_put, Sl_defers, Sl_nl, Sl_forget, upd_go, kept_go]
  have hN : New σ σ' (σ.next + 3) := ⟨by omega, hw'.cells hc⟩
  have kp : ∀ b cs, R b → σ.cells b = some cs → σ'.cells b = some cs ∧ (R b ∨ New σ σ' b) := fun b cs hR h => ⟨(hx.cells (hw.cells h)).trans h, .inl hR⟩
  exact ⟨_, _, rfl, hx, hw', some ⟨σ.next + 3, 0, none⟩, 2, rfl, ⟨_, _, _, rfl, .inr hN, hc, by simp, H1.keep kp⟩, ⟨_, _, _, rfl, .inr hN, hc, by simp, H2.keep kp⟩, trivial⟩

/-- A vector that is being made, in the field of a variable: the value of the field, and the block of the parts. -/
def Vec (σ : FState) (lo : Nat) (s : Value) (ds : List D) : Prop :=
  (ds = [] ∧ s = .slice none 0 0) ∨ (∃ b cs ver, s = .slice (some ⟨b, 0, none⟩) ds.length ds.length ∧ σ.heap.get b = some ⟨.cells cs 24, false, some 4, ver⟩ ∧ lo < b ∧ Row (fun c => lo < c ∧ c ≠ b) σ cs ds)

theorem vec_append (σ1 : FState) (lo : Nat) (s : Value) (ds : List D) (d : D) (l : List Value) (hw : Wf σ1) (hlo : lo < σ1.next) (hl : l.length = 4) (ho : l.all oneCell = true) (hlen : ds.length < 900) (hV : Vec σ1 lo s ds)
    (hd : LaidR (fun c => lo < c ∧ ∀ b n m, s = .slice (some ⟨b, 0, none⟩) n m → c ≠ b) σ1 (.agg l.toArray) d) :
    ∃ s' τ, fappend 24 4 56 s (.slice (some ⟨σ1.next, 0, none⟩) 1 1) (σ1.push (.cells l 24) none) = .val s' τ ∧ oneCell s' = true ∧ Vec τ lo s' (ds ++ [d]) ∧ Wf τ ∧ σ1.next ≤ τ.next ∧ σ1.clock ≤ τ.clock ∧
      (∀ c, c ≤ lo → τ.heap.get c = σ1.heap.get c) ∧ (∀ c, c < σ1.next → (∀ b n m, s = .slice (some ⟨b, 0, none⟩) n m → c ≠ b) → τ.heap.get c = σ1.heap.get c) := by
  have hx : (σ1.push (.cells l 24) none).cells σ1.next = some l := by rw [cells_push, if_pos rfl]; rfl
  rcases hV with ⟨rfl, rfl⟩ | ⟨b, cs, ver, rfl, hb, hlb, hR⟩
  · refine ⟨_, _, append_first 24 4 56 _ 1 l _ hx hl ho (by decide), rfl, .inr ⟨_, _, _, rfl, by rw [push_get, if_pos rfl], by rw [push_next]; omega, ?_⟩, (hw.push _ _).push _ _, ?_, ?_, ?_, ?_⟩
    · have h2 : LaidR (fun c => lo < c ∧ c ≠ (σ1.push (.cells l 24) none).next) ((σ1.push (.cells l 24) none).push (.cells l 24) (some 4)) (.agg l.toArray) d := hd.keep fun c cs hc h => by
        have := hw.cells h
        refine ⟨?_, hc.1, by rw [push_next]; omega⟩
        rw [cells_push, if_neg (by rw [push_next]; omega), cells_push, if_neg (by omega)]
        exact h
      exact (Row.nil _ _).snoc hl ho h2
    · simp only [push_next]; omega
    · simp only [push_clock]; omega
    · intro c hc
      rw [push_get, if_neg (by rw [push_next]; omega), push_get, if_neg (by omega)]
    · intro c hc _
      rw [push_get, if_neg (by rw [push_next]; omega), push_get, if_neg (by omega)]
  · have hbn : b < σ1.next := (hw b _ hb).1
    have hb1 : (σ1.push (.cells l 24) none).heap.get b = some ⟨.cells cs 24, false, some 4, ver⟩ := by rw [push_get, if_neg (by omega)]; exact hb
    have hw1 := hw.push (.cells l 24) none
    have hw2 := hw1.put b (.defd false) none (by rw [push_next]; omega)
    refine ⟨_, _, append_more 24 4 56 b _ 1 ds.length ver cs l _ hb1 hx hl ho hR.1 (by decide) (by omega), rfl, .inr ⟨_, _, _, by rw [List.length_append]; rfl, by rw [push_get, if_pos rfl], by rw [put_next, push_next]; omega, ?_⟩, hw2.push _ _, ?_, ?_, ?_, ?_⟩
    · have kp : ∀ (c : Nat) (cs' : List Value), (lo < c ∧ c ≠ b) → σ1.cells c = some cs' →
          (((σ1.push (.cells l 24) none).put b (.defd false) none).push (.cells (cs ++ l) 24) (some 4)).cells c = some cs' ∧ (lo < c ∧ c ≠ ((σ1.push (.cells l 24) none).put b (.defd false) none).next) := fun c cs' hc h => by
        have := hw.cells h
        refine ⟨?_, hc.1, by rw [put_next, push_next]; omega⟩
        rw [cells_push, if_neg (by rw [put_next, push_next]; omega), cells_put, if_neg hc.2, cells_push, if_neg (by omega)]
        exact h
      exact (hR.keep kp).snoc hl ho ((hd.keep fun c cs' hc h => kp c cs' ⟨hc.1, hc.2 b _ _ rfl⟩ h))
    · simp only [push_next, put_next]; omega
    · simp only [push_clock, put_clock]; omega
    · intro c hc
      rw [push_get, if_neg (by rw [put_next, push_next]; omega), put_get, if_neg (by omega), push_get, if_neg (by omega)]
    · intro c hc hne
      rw [push_get, if_neg (by rw [put_next, push_next]; omega), put_get, if_neg (hne b _ _ rfl), push_get, if_neg (by omega)]

theorem Vec.keep {σ σ' : FState} {lo : Nat} {s : Value} {ds : List D} (hw : Wf σ) (h : Vec σ lo s ds) (hx : ∀ c, lo < c → c < σ.next → σ'.heap.get c = σ.heap.get c) : Vec σ' lo s ds := by
  rcases h with h | ⟨b, cs, ver, hs, hb, hlb, hR⟩
  · exact .inl h
  · refine .inr ⟨b, cs, ver, hs, (hx b hlb (hw b _ hb).1).trans hb, hlb, hR.keep fun c cs' hc h => ⟨?_, hc⟩⟩
    rw [cells_get, hx c hc.1 (hw.cells h), ← cells_get]
    exact h
/-- What DatumOf gives at some number of levels, with so many calls to go and so many numbers wound off at most. -/
def DatumAt (m x L W : Nat) : Prop := ∀ k σ, k + W < 100000000000 → Wf σ → Coil σ x k → ∃ v d σ' k', (env m).call 38 [.pointer (some ⟨x, 0, none⟩), .int .i64 (.ofNat L)] none σ = .ret v none σ' ∧ LaidR (New σ σ') σ' v d ∧ Made L d ∧
  ExtC x σ σ' ∧ Wf σ' ∧ Coil σ' x k' ∧ k ≤ k' ∧ k' ≤ k + W

/-- At the head of DatumOf's loop. -/
structure HeadV (x bo b5 L W K j : Nat) (σ0 : FState) (ds : List D) (f : Nat → Value) (σ : FState) : Prop where
  f0 : f 0 = .pointer (some ⟨x, 0, none⟩)
  f1 : f 1 = .int .i64 (.ofNat (L + 1))
  f4 : f 4 = .pointer (some ⟨bo, 0, none⟩)
  f5 : f 5 = .pointer (some ⟨b5, 0, none⟩)
  f6 : f 6 = .int .i64 (.ofNat j)
  hbo : ∃ ver z0 z1 z2 z3, σ.heap.get bo = some ⟨.cells [z0, z1, z2, z3] 24, false, none, ver⟩
  hb5 : ∃ ver s, σ.heap.get b5 = some ⟨.cells [.int .i64 6, .int .i64 0, .string ⟨#[]⟩, s] 24, false, none, ver⟩ ∧ Vec σ b5 s ds
  ext : ExtC x σ0 σ
  wf : Wf σ
  coil : ∃ k', Coil σ x k' ∧ k' + j * W ≤ K
  made : ∀ d, d ∈ ds → Made L d
  lt1 : x < σ0.next
  lt2 : σ0.next ≤ bo
  lt3 : bo < b5
  len : ds.length + j ≤ 3

theorem datumOf_loop (m x bo b5 L W K : Nat) (hK : K < 100000000000) (hL : L < 1000) (σ0 : FState) (k0 : Nat) (hD : DatumAt m x L W) : ∀ (j fuel : Nat) (ds : List D) (f g : Nat → Value) (σ : FState), j < fuel → HeadV x bo b5 L W K j σ0 ds f σ → (∃ k', Coil σ x k' ∧ k0 ≤ k' ∧ k' + j * W ≤ K) →
    ∃ f' g' σ' ds', floop [61, 62, 63, 64, 65, 66, 67, 68, 69, 70] (l38_0 (env m) none 38) fuel (Sl 7 71 f g []) none σ = .done (.exit 1) (Sl 7 71 f' g' []) none σ' ∧ HeadV x bo b5 L W K 0 σ0 ds' f' σ' ∧ (∃ k', Coil σ' x k' ∧ k0 ≤ k' ∧ k' ≤ K) := by
  intro j
  induction j with
  | zero =>
    intro fuel ds f g σ hf hH hk
    obtain ⟨fuel, rfl⟩ : ∃ q, fuel = q + 1 := ⟨fuel - 1, by omega⟩
    have hd : decide (Int.ofNat 0 > 0) = false := rfl
    rw [floop_step]
    unfold l38_0
    simp -implicitDefEqProofs only [seqR_go, fops_c, fops_nil, fdraw_f, fdraw_a, fdraw_nil', drawR_go, retR_go, skipR_go, exitR_go, after_val, after_skip, after_enter, after_ret, andThen_normal, andThen_ret, andThen_exit, put_none, Nat.reduceLT, ↓reduceIte, Nat.reduceEqDiff, Nat.reduceAdd, nth_zero, nth_succ, drawF_val, drawF_push, stepOp_eq, drawA_normal, view_next, push_next, push_clock, put_next, put_clock, box_go, newCells_go, notTuple_agg, notTuple_int, notTuple_string, notTuple_bool, notTuple_slice, notTuple_pointer, valCells_agg, valCells_int, valCells_string, valCells_bool, valCells_slice, valCells_pointer, ffield_eq, fload1, floadN, cells_push, cells_put, cells?_cells, gd_true, gd_false, fpick_eq, eql_int, neq_int, lss_int, leq_int, gtr_int, geq_int, add_int, sub_int, mul_int, eql_str, neq_str, not_go, flenL_eq, flenS_eq, Nat.add_zero, Nat.zero_add, Nat.add_left_cancel_iff, Nat.add_eq_left, Nat.left_eq_add, List.getElem?_cons_zero, List.getElem?_cons_succ, beq_self_eq_true, Bool.not_true, Bool.not_false, cond_true, cond_false, leaveR_ret, leaveR_normal, leave_tmp, leave_tmp2, leave_tmp3, condR_val, Bool.false_eq_true, blockR_k, blockK_normal, blockK_ret, blockK_exit, loopR_go, findex_eq, List.not_mem_nil, or_false, or_true, List.cons_append, List.nil_append, add_u64, mul_u64, xor_u64, shr32_u64, shr27_u64, shr9_u64, nilCheck_ptr, fstore1, push_get, put_get, List.set_cons_zero, List.set_cons_succ, List.length_cons, List.length_nil, oneCell_int, oneCell_string, oneCell_bool, oneCell_slice, oneCell_pointer, fcallV_func, fdefer_func, List.toList_toArray, after_defer, after_recover, fleave_fn, unrecovered_returning, leave_none, fextract_go, Nat.add_assoc, lay_nil, lay_cons, fbuild_go, fbuildSlice_go, reps_zero, reps_succ, leave_cell, List.take_zero, List.take_succ_cons, List.drop_zero, List.drop_succ_cons, List.drop_nil, List.take_nil, List.append_nil, Nat.zero_mul, Nat.one_mul, Nat.reduceMul, Nat.reduceLeDiff, and_self, true_and, Nat.reduceSub, Nat.sub_zero, List.all_cons, List.all_nil, Bool.and_self, Bool.and_true, Nat.mul_one, Sl_get, Sl_put, Sl_defers, Sl_nl, Sl_forget, upd_go, kept_go, r38_15_go, hH.f6, hd]
    exact ⟨f, _, σ, ds, rfl, hH, by simpa using hk⟩
  | succ j ih =>
    intro fuel ds f g σ hf hH hk
    obtain ⟨k', hC, hk0, hkK⟩ := hk
    obtain ⟨fuel, rfl⟩ : ∃ q, fuel = q + 1 := ⟨fuel - 1, by omega⟩
    have hd : decide (Int.ofNat (j + 1) > 0) = true := by simp
    have hwr : wrapI (Int.ofNat (L + 1) - 1) = Int.ofNat L := by
      rw [wrapI_of (by rw [Int.ofNat_eq_natCast]; omega), Int.ofNat_eq_natCast, Int.ofNat_eq_natCast]; omega
    have hwj : wrapI (Int.ofNat (j + 1) - 1) = Int.ofNat j := by
      have := hH.len
      rw [wrapI_of (by rw [Int.ofNat_eq_natCast]; omega), Int.ofNat_eq_natCast, Int.ofNat_eq_natCast]; omega
    have hjW : (j + 1) * W = j * W + W := Nat.succ_mul j W
    obtain ⟨v, d, σ1, k1, e, hLd, hMd, hX1, hw1, hC1, hk1, hk2⟩ := hD k' σ (by omega) hH.wf hC
    obtain ⟨ver5, s, hb5, hV⟩ := hH.hb5
    have hxb : x < b5 := by have := hH.lt1; have := hH.lt2; have := hH.lt3; omega
    have hb5n := (hH.wf b5 _ hb5)
    have hb51 : σ1.heap.get b5 = _ := (hX1.get b5 hb5n.1 (by omega)).trans hb5
    have hv5 : (view σ1 σ.clock).cells b5 = some [.int .i64 6, .int .i64 0, .string ⟨#[]⟩, s] := by
      rw [view_cells, hb51]
      simp only [Option.bind_some]
      rw [if_pos hb5n.2]
      rfl
    have hV1 : Vec σ1 b5 s ds := hV.keep hH.wf fun c h1 h2 => hX1.get c h2 (by omega)
    have hs : ∀ b n m, s = .slice (some ⟨b, 0, none⟩) n m → b < σ.next ∧ b5 < b := by
      intro b n m hs
      rcases hV with ⟨_, h⟩ | ⟨b', cs, ver, h, hb, hlb, _⟩
      · rw [hs] at h; cases h
      · rw [hs] at h; cases h; exact ⟨(hH.wf _ _ hb).1, hlb⟩
    obtain ⟨kd, nd, td, dd⟩ := d
    have hLd' := hLd
    obtain ⟨p, c, rfl, _⟩ := hLd'
    obtain ⟨s', τ, ha, ho, hVτ, hwτ, hnτ, hcτ, hg1, hg2⟩ := vec_append σ1 b5 s ds (.mk kd nd td dd) [.int .i64 kd, .int .i64 nd, .string td, .slice p dd.length c] hw1 (by have := hX1.next; omega) rfl rfl (by have := hH.len; omega) hV1
      (hLd.keep fun c cs hc h => ⟨h, by have := hc.1; omega, fun b n m hsb => by have := (hs b n m hsb).1; have := hc.1; omega⟩)
    have hgb5 : τ.heap.get b5 = _ := (hg1 b5 (Nat.le_refl _)).trans hb51
    have hb5τ : b5 < τ.next := by have := hX1.next; omega
    obtain ⟨vero, z0, z1, z2, z3, hbo⟩ := hH.hbo
    have hlt3 := hH.lt3
    have hlt2 := hH.lt2
    have hlt1 := hH.lt1
    have hCτ : Coil τ x k1 := hC1.low fun c hc => hg1 c (by omega)
    have hH' : HeadV x bo b5 L W K j σ0 (ds ++ [.mk kd nd td dd]) (upd f 6 (.int .i64 (.ofNat j))) (τ.put b5 (.cells [.int .i64 6, .int .i64 0, .string ⟨#[]⟩, s'] 24) none) := {
      f0 := by simp -implicitDefEqProofs only [upd_go, kept_go, ↓reduceIte, Nat.reduceEqDiff, Nat.reduceLT, reduceCtorEq, hH.f0]
      f1 := by simp -implicitDefEqProofs only [upd_go, kept_go, ↓reduceIte, Nat.reduceEqDiff, Nat.reduceLT, reduceCtorEq, hH.f1]
      f4 := by simp -implicitDefEqProofs only [upd_go, kept_go, ↓reduceIte, Nat.reduceEqDiff, Nat.reduceLT, reduceCtorEq, hH.f4]
      f5 := by simp -implicitDefEqProofs only [upd_go, kept_go, ↓reduceIte, Nat.reduceEqDiff, Nat.reduceLT, reduceCtorEq, hH.f5]
      f6 := by simp -implicitDefEqProofs only [upd_go, kept_go, ↓reduceIte, Nat.reduceEqDiff, Nat.reduceLT, reduceCtorEq]
      hbo := ⟨vero, z0, z1, z2, z3, by
        rw [put_get, if_neg (by omega), hg1 bo (by omega), hX1.get bo (by have := hb5n.1; omega) (by omega)]
        exact hbo⟩
      hb5 := ⟨_, s', by rw [put_get, if_pos rfl], hVτ.keep hwτ fun c h1 h2 => by rw [put_get, if_neg (by omega)]⟩
      ext := ⟨by rw [put_next]; have := hH.ext.next; have := hX1.next; omega, by rw [put_clock]; have := hH.ext.clock; have := hX1.clock; omega, fun c hc hcx => by
        have h1 := hH.ext.next
        have h2 := hX1.next
        rw [put_get, if_neg (by omega), hg2 c (by omega) (fun b n m h => by have := (hs b n m h).2; omega), hX1.get c (by omega) hcx]
        exact hH.ext.get c hc hcx⟩
      wf := hwτ.put _ _ _ hb5τ
      coil := ⟨k1, hCτ.put b5 hxb _ _, by omega⟩
      made := fun e he => by
        rcases List.mem_append.1 he with h | h
        · exact hH.made e h
        · rw [List.mem_singleton.1 h]; exact hMd
      lt1 := hlt1
      lt2 := hlt2
      lt3 := hlt3
      len := by have := hH.len; rw [List.length_append, List.length_singleton]; omega }
    rw [floop_step]
    unfold l38_0
    simp -implicitDefEqProofs only [seqR_go, fops_c, fops_nil, fdraw_f, fdraw_a, fdraw_nil', drawR_go, retR_go, skipR_go, exitR_go, after_val, after_skip, after_enter, after_ret, andThen_normal, andThen_ret, andThen_exit, put_none, Nat.reduceLT, ↓reduceIte, Nat.reduceEqDiff, Nat.reduceAdd, nth_zero, nth_succ, drawF_val, drawF_push, stepOp_eq, drawA_normal, view_next, push_next, push_clock, put_next, put_clock, box_go, newCells_go, notTuple_agg, notTuple_int, notTuple_string, notTuple_bool, notTuple_slice, notTuple_pointer, valCells_agg, valCells_int, valCells_string, valCells_bool, valCells_slice, valCells_pointer, ffield_eq, fload1, floadN, cells_push, cells_put, cells?_cells, gd_true, gd_false, fpick_eq, eql_int, neq_int, lss_int, leq_int, gtr_int, geq_int, add_int, sub_int, mul_int, eql_str, neq_str, not_go, flenL_eq, flenS_eq, Nat.add_zero, Nat.zero_add, Nat.add_left_cancel_iff, Nat.add_eq_left, Nat.left_eq_add, List.getElem?_cons_zero, List.getElem?_cons_succ, beq_self_eq_true, Bool.not_true, Bool.not_false, cond_true, cond_false, leaveR_ret, leaveR_normal, leave_tmp, leave_tmp2, leave_tmp3, condR_val, Bool.false_eq_true, blockR_k, blockK_normal, blockK_ret, blockK_exit, loopR_go, findex_eq, List.not_mem_nil, or_false, or_true, List.cons_append, List.nil_append, add_u64, mul_u64, xor_u64, shr32_u64, shr27_u64, shr9_u64, nilCheck_ptr, fstore1, push_get, put_get, List.set_cons_zero, List.set_cons_succ, List.length_cons, List.length_nil, oneCell_int, oneCell_string, oneCell_bool, oneCell_slice, oneCell_pointer, fcallV_func, fdefer_func, List.toList_toArray, after_defer, after_recover, fleave_fn, unrecovered_returning, leave_none, fextract_go, Nat.add_assoc, lay_nil, lay_cons, fbuild_go, fbuildSlice_go, reps_zero, reps_succ, leave_cell, List.take_zero, List.take_succ_cons, List.drop_zero, List.drop_succ_cons, List.drop_nil, List.take_nil, List.append_nil, Nat.zero_mul, Nat.one_mul, Nat.reduceMul, Nat.reduceLeDiff, and_self, true_and, Nat.reduceSub, Nat.sub_zero, List.all_cons, List.all_nil, Bool.and_self, Bool.and_true, Nat.mul_one, Sl_get, Sl_put, Sl_defers, Sl_nl, Sl_forget, upd_go, kept_go, r38_15_go, r38_16_go, r38_17_go, hH.f0, hH.f1, hH.f5, hH.f6, hd, hwr, e, hv5, ha, ho, hgb5, hwj]
    exact ih fuel _ _ _ _ (by omega) hH' ⟨k1, hCτ.put b5 hxb _ _, by omega, by omega⟩
end Go.Proofs.YtnjapblabllclaaGreatDoor
/- caracolekit.DatumOf: valid data of at most so many levels. -/
namespace Go.Proofs.YtnjapblabllclaaGreatDoor
open Go Go.Eng
attribute [local congr] andThen_congr fops_congr fdraw_congr afterOp_congr drawF_congr
noncomputable def vec38 (E : Env) (ro : Option Nat) : RunF := (seqR (fops E ro r38_13) (seqR (seqR (fops E ro r38_14) (blockR 1 (loopR (keepOf nls 38) (l38_0 E ro 38)))) (seqR (fops E ro r38_18) retR)))
noncomputable def rest38 (E : Env) (ro : Option Nat) : RunF := (seqR (seqR (fops E ro r38_12) (condR (fun a => (a.get 44)) (vec38 E ro) skipR)) (seqR (fops E ro r38_19) retR))
theorem run38_eq (E : Env) (ro : Option Nat) : run38 E ro 38 = seqR (fops E ro r38_0) (seqR (seqR (fops E ro r38_1) (condR (fun a => (a.get 12)) (leaf38 E ro) skipR)) (rest38 E ro)) := rfl

/-- The end of a call that has left a leaf in the result's variable. -/
theorem leaf_end {x k K bo L : Nat} {σ : FState} {r : KRes} (E : Env) (hbo : bo = σ.next) (h : LeafIn x k K bo σ r) : ∃ v d σ' k', leaveR Tryz.prog E [.cell 4 24] r = .ret v none σ' ∧ LaidR (New σ σ') σ' v d ∧ Made L d ∧ ExtC x σ σ' ∧ Wf σ' ∧ Coil σ' x k' ∧ k ≤ k' ∧ k' ≤ K := by
  obtain ⟨f, g, σ', kd, n, t, k', rfl, h4, ⟨ver, hg⟩, hL, hX, hw, hC, h1, h2⟩ := h
  have hc := cells_of_get hg
  simp -implicitDefEqProofs only [seqR_go, fops_c, fops_nil, fdraw_f, fdraw_a, fdraw_nil', drawR_go, retR_go, skipR_go, exitR_go, after_val, after_skip, after_enter, after_ret, andThen_normal, andThen_ret, andThen_exit, put_none, Nat.reduceLT, ↓reduceIte, Nat.reduceEqDiff, Nat.reduceAdd, nth_zero, nth_succ, drawF_val, drawF_push, stepOp_eq, drawA_normal, view_next, push_next, push_clock, put_next, put_clock, box_go, newCells_go, notTuple_agg, notTuple_int, notTuple_string, notTuple_bool, notTuple_slice, notTuple_pointer, valCells_agg, valCells_int, valCells_string, valCells_bool, valCells_slice, valCells_pointer, ffield_eq, fload1, floadN, cells_push, cells_put, cells?_cells, gd_true, gd_false, fpick_eq, eql_int, neq_int, lss_int, leq_int, gtr_int, geq_int, add_int, sub_int, mul_int, eql_str, neq_str, not_go, flenL_eq, flenS_eq, Nat.add_zero, Nat.zero_add, Nat.add_left_cancel_iff, Nat.add_eq_left, Nat.left_eq_add, List.getElem?_cons_zero, List.getElem?_cons_succ, beq_self_eq_true, Bool.not_true, Bool.not_false, cond_true, cond_false, leaveR_ret, leaveR_normal, leave_tmp, leave_tmp2, leave_tmp3, condR_val, Bool.false_eq_true, blockR_k, blockK_normal, blockK_ret, blockK_exit, loopR_go, findex_eq, List.not_mem_nil, or_false, or_true, List.cons_append, List.nil_append, add_u64, mul_u64, xor_u64, shr32_u64, shr27_u64, shr9_u64, nilCheck_ptr, fstore1, push_get, put_get, List.set_cons_zero, List.set_cons_succ, List.length_cons, List.length_nil, oneCell_int, oneCell_string, oneCell_bool, oneCell_slice, oneCell_pointer, fcallV_func, fdefer_func, List.toList_toArray, after_defer, after_recover, fleave_fn, unrecovered_returning, leave_none, fextract_go, Nat.add_assoc, lay_nil, lay_cons, fbuild_go, fbuildSlice_go, reps_zero, reps_succ, leave_cell, List.take_zero, List.take_succ_cons, List.drop_zero, List.drop_succ_cons, List.drop_nil, List.take_nil, List.append_nil, Nat.zero_mul, Nat.one_mul, Nat.reduceMul, Nat.reduceLeDiff, and_self, true_and, Nat.reduceSub, Nat.sub_zero, List.all_cons, List.all_nil, Bool.and_self, Bool.and_true, Nat.mul_one, Sl_get, Sl_put, Sl_defers, Sl_nl, Sl_forget, upd_go, kept_go, aggDatum, h4, hc]
  exact ⟨_, .mk kd n t [], _, k', rfl, ⟨none, 0, rfl, trivial⟩, .leaf _ _ hL, hX, hw, hC, h1, h2⟩

theorem datumOf_leaf (M x L W : Nat) (hL : L < 2) (hW : 4 ≤ W) : DatumAt (M + 3 + 1) x L W := by
  intro k σ hk hw hC
  have hx := hC.cells
  have hd : decide (Int.ofNat L < 2) = true := by simp; omega
  rw [env_call, enter38 _ _ _ _ (by simp), Sl_start, run38_eq]
  have hXa : Ext σ (σ.push (.cells [.int .i64 0, .int .i64 0, .string ⟨#[]⟩, .slice none 0 0] 24) none) := (Ext.refl _).push _ _
  have hwa := hw.push (.cells [.int .i64 0, .int .i64 0, .string ⟨#[]⟩, .slice none 0 0] 24) none
  obtain ⟨c3, hc3, _⟩ := hx
  have hxn := hw.cells hc3
  simp -implicitDefEqProofs only [seqR_go, fops_c, fops_nil, fdraw_f, fdraw_a, fdraw_nil', drawR_go, retR_go, skipR_go, exitR_go, after_val, after_skip, after_enter, after_ret, andThen_normal, andThen_ret, andThen_exit, put_none, Nat.reduceLT, ↓reduceIte, Nat.reduceEqDiff, Nat.reduceAdd, nth_zero, nth_succ, drawF_val, drawF_push, stepOp_eq, drawA_normal, view_next, push_next, push_clock, put_next, put_clock, box_go, newCells_go, notTuple_agg, notTuple_int, notTuple_string, notTuple_bool, notTuple_slice, notTuple_pointer, valCells_agg, valCells_int, valCells_string, valCells_bool, valCells_slice, valCells_pointer, ffield_eq, fload1, floadN, cells_push, cells_put, cells?_cells, gd_true, gd_false, fpick_eq, eql_int, neq_int, lss_int, leq_int, gtr_int, geq_int, add_int, sub_int, mul_int, eql_str, neq_str, not_go, flenL_eq, flenS_eq, Nat.add_zero, Nat.zero_add, Nat.add_left_cancel_iff, Nat.add_eq_left, Nat.left_eq_add, List.getElem?_cons_zero, List.getElem?_cons_succ, beq_self_eq_true, Bool.not_true, Bool.not_false, cond_true, cond_false, leaveR_ret, leaveR_normal, leave_tmp, leave_tmp2, leave_tmp3, condR_val, Bool.false_eq_true, blockR_k, blockK_normal, blockK_ret, blockK_exit, loopR_go, findex_eq, List.not_mem_nil, or_false, or_true, List.cons_append, List.nil_append, add_u64, mul_u64, xor_u64, shr32_u64, shr27_u64, shr9_u64, nilCheck_ptr, fstore1, push_get, put_get, List.set_cons_zero, List.set_cons_succ, List.length_cons, List.length_nil, oneCell_int, oneCell_string, oneCell_bool, oneCell_slice, oneCell_pointer, fcallV_func, fdefer_func, List.toList_toArray, after_defer, after_recover, fleave_fn, unrecovered_returning, leave_none, fextract_go, Nat.add_assoc, lay_nil, lay_cons, fbuild_go, fbuildSlice_go, reps_zero, reps_succ, leave_cell, List.take_zero, List.take_succ_cons, List.drop_zero, List.drop_succ_cons, List.drop_nil, List.take_nil, List.append_nil, Nat.zero_mul, Nat.one_mul, Nat.reduceMul, Nat.reduceLeDiff, and_self, true_and, Nat.reduceSub, Nat.sub_zero, List.all_cons, List.all_nil, Bool.and_self, Bool.and_true, Nat.mul_one, Sl_get, Sl_put, Sl_defers, Sl_nl, Sl_forget, upd_go, kept_go, r38_0_go, r38_1_go, Option.getD_some, hd]
  generalize hf : upd _ _ _ = f1
  generalize hg : upd _ _ _ = g1
  have hleaf := leaf38_go M x k σ.next (by omega) σ _ f1 g1 (by rw [← hf]; simp -implicitDefEqProofs only [upd_go, kept_go, ↓reduceIte, Nat.reduceEqDiff, Nat.reduceLT, reduceCtorEq, List.getElem?_cons_zero, Option.getD_some]) (by rw [← hf]; simp -implicitDefEqProofs only [upd_go, kept_go, ↓reduceIte, Nat.reduceEqDiff, Nat.reduceLT, reduceCtorEq]) hwa (hC.ext hw hXa) (hXa.toC x) (Nat.le_refl _) hxn _ _ _ _ _ (by rw [push_get, if_pos rfl])
  obtain ⟨v, d, σ', k', h1, h2⟩ := leaf_end (L := L) (env (M + 3)) rfl hleaf
  obtain ⟨f, g, σ'', kd, nn, t, k'', e1, r1⟩ := hleaf
  rw [e1] at h1 ⊢
  simp -implicitDefEqProofs only [andThen_ret]
  obtain ⟨r2, r3, r4, r5, r6, r7, r8⟩ := h2
  exact ⟨v, d, σ', k', h1, r2, r3, r4, r5, r6, r7, by omega⟩

theorem datumOf_step (M x L W : Nat) (hL : 1 ≤ L ∧ L < 900) (hW : 4 ≤ W ∧ W < 10000000000) (hD : DatumAt (M + 3) x L W) : DatumAt (M + 3 + 1) x (L + 1) (3 * W + 10) := by
  intro k σ hk hw hC
  have hd : decide (Int.ofNat (L + 1) < 2) = false := by simp; omega
  have hwr : wrapI (Int.ofNat (L + 1) - 1) = Int.ofNat L := by
    rw [wrapI_of (by rw [Int.ofNat_eq_natCast]; omega), Int.ofNat_eq_natCast, Int.ofNat_eq_natCast]; omega
  rw [env_call, enter38 _ _ _ _ (by simp), Sl_start, run38_eq]
  have hXa : Ext σ (σ.push (.cells [.int .i64 0, .int .i64 0, .string ⟨#[]⟩, .slice none 0 0] 24) none) := (Ext.refl _).push _ _
  have hwa := hw.push (.cells [.int .i64 0, .int .i64 0, .string ⟨#[]⟩, .slice none 0 0] 24) none
  have hba : (σ.push (.cells [.int .i64 0, .int .i64 0, .string ⟨#[]⟩, .slice none 0 0] 24) none).heap.get σ.next = some ⟨.cells [.int .i64 0, .int .i64 0, .string ⟨#[]⟩, .slice none 0 0] 24, false, none, σ.clock⟩ := by rw [push_get, if_pos rfl]
  obtain ⟨c3, hc3, _⟩ := hC.cells
  have hxn := hw.cells hc3
  obtain ⟨b, σ1, e1, hX1, hw1, hC1⟩ := once_go M x k 4 (by omega) (by omega) _ hwa (hC.ext hw hXa)
  have hX01 : ExtC x σ σ1 := (hXa.toC x).trans hX1
  have hb1 := (hX1.get σ.next (by rw [push_next]; omega) (by omega)).trans hba
  have hn1 := (hw1 _ _ hb1).1
  cases b with
  | true =>
    simp -implicitDefEqProofs only [seqR_go, fops_c, fops_nil, fdraw_f, fdraw_a, fdraw_nil', drawR_go, retR_go, skipR_go, exitR_go, after_val, after_skip, after_enter, after_ret, andThen_normal, andThen_ret, andThen_exit, put_none, Nat.reduceLT, ↓reduceIte, Nat.reduceEqDiff, Nat.reduceAdd, nth_zero, nth_succ, drawF_val, drawF_push, stepOp_eq, drawA_normal, view_next, push_next, push_clock, put_next, put_clock, box_go, newCells_go, notTuple_agg, notTuple_int, notTuple_string, notTuple_bool, notTuple_slice, notTuple_pointer, valCells_agg, valCells_int, valCells_string, valCells_bool, valCells_slice, valCells_pointer, ffield_eq, fload1, floadN, cells_push, cells_put, cells?_cells, gd_true, gd_false, fpick_eq, eql_int, neq_int, lss_int, leq_int, gtr_int, geq_int, add_int, sub_int, mul_int, eql_str, neq_str, not_go, flenL_eq, flenS_eq, Nat.add_zero, Nat.zero_add, Nat.add_left_cancel_iff, Nat.add_eq_left, Nat.left_eq_add, List.getElem?_cons_zero, List.getElem?_cons_succ, beq_self_eq_true, Bool.not_true, Bool.not_false, cond_true, cond_false, leaveR_ret, leaveR_normal, leave_tmp, leave_tmp2, leave_tmp3, condR_val, Bool.false_eq_true, blockR_k, blockK_normal, blockK_ret, blockK_exit, loopR_go, findex_eq, List.not_mem_nil, or_false, or_true, List.cons_append, List.nil_append, add_u64, mul_u64, xor_u64, shr32_u64, shr27_u64, shr9_u64, nilCheck_ptr, fstore1, push_get, put_get, List.set_cons_zero, List.set_cons_succ, List.length_cons, List.length_nil, oneCell_int, oneCell_string, oneCell_bool, oneCell_slice, oneCell_pointer, fcallV_func, fdefer_func, List.toList_toArray, after_defer, after_recover, fleave_fn, unrecovered_returning, leave_none, fextract_go, Nat.add_assoc, lay_nil, lay_cons, fbuild_go, fbuildSlice_go, reps_zero, reps_succ, leave_cell, List.take_zero, List.take_succ_cons, List.drop_zero, List.drop_succ_cons, List.drop_nil, List.take_nil, List.append_nil, Nat.zero_mul, Nat.one_mul, Nat.reduceMul, Nat.reduceLeDiff, and_self, true_and, Nat.reduceSub, Nat.sub_zero, List.all_cons, List.all_nil, Bool.and_self, Bool.and_true, Nat.mul_one, Sl_get, Sl_put, Sl_defers, Sl_nl, Sl_forget, upd_go, kept_go, r38_0_go, r38_1_go, Option.getD_some, hd, e1]
    generalize hf : upd _ _ _ = f1
    generalize hg : upd _ _ _ = g1
    have hleaf := leaf38_go M x (k + 1) σ.next (by omega) σ _ f1 g1 (by rw [← hf]; simp -implicitDefEqProofs only [upd_go, kept_go, ↓reduceIte, Nat.reduceEqDiff, Nat.reduceLT, reduceCtorEq, List.getElem?_cons_zero, Option.getD_some]) (by rw [← hf]; simp -implicitDefEqProofs only [upd_go, kept_go, ↓reduceIte, Nat.reduceEqDiff, Nat.reduceLT, reduceCtorEq]) hw1 hC1 hX01 (Nat.le_refl _) hxn _ _ _ _ _ hb1
    obtain ⟨v, d, σ', k', h1, h2⟩ := leaf_end (L := L + 1) (env (M + 3)) rfl hleaf
    obtain ⟨f, g, σ'', kd, nn, t, k'', e2, r1⟩ := hleaf
    rw [e2] at h1 ⊢
    simp -implicitDefEqProofs only [andThen_ret]
    obtain ⟨r2, r3, r4, r5, r6, r7, r8⟩ := h2
    exact ⟨v, d, σ', k', h1, r2, r3, r4, r5, r6, by omega, by omega⟩
  | false =>
    obtain ⟨b, σ2, e2, hX2, hw2, hC2⟩ := once_go M x (k + 1) 6 (by omega) (by omega) _ hw1 hC1
    have hX02 : ExtC x σ σ2 := hX01.trans hX2
    have hb2 := (hX2.get σ.next hn1 (by omega)).trans hb1
    have hn2 := (hw2 _ _ hb2).1
    simp -implicitDefEqProofs only [seqR_go, fops_c, fops_nil, fdraw_f, fdraw_a, fdraw_nil', drawR_go, retR_go, skipR_go, exitR_go, after_val, after_skip, after_enter, after_ret, andThen_normal, andThen_ret, andThen_exit, put_none, Nat.reduceLT, ↓reduceIte, Nat.reduceEqDiff, Nat.reduceAdd, nth_zero, nth_succ, drawF_val, drawF_push, stepOp_eq, drawA_normal, view_next, push_next, push_clock, put_next, put_clock, box_go, newCells_go, notTuple_agg, notTuple_int, notTuple_string, notTuple_bool, notTuple_slice, notTuple_pointer, valCells_agg, valCells_int, valCells_string, valCells_bool, valCells_slice, valCells_pointer, ffield_eq, fload1, floadN, cells_push, cells_put, cells?_cells, gd_true, gd_false, fpick_eq, eql_int, neq_int, lss_int, leq_int, gtr_int, geq_int, add_int, sub_int, mul_int, eql_str, neq_str, not_go, flenL_eq, flenS_eq, Nat.add_zero, Nat.zero_add, Nat.add_left_cancel_iff, Nat.add_eq_left, Nat.left_eq_add, List.getElem?_cons_zero, List.getElem?_cons_succ, beq_self_eq_true, Bool.not_true, Bool.not_false, cond_true, cond_false, leaveR_ret, leaveR_normal, leave_tmp, leave_tmp2, leave_tmp3, condR_val, Bool.false_eq_true, blockR_k, blockK_normal, blockK_ret, blockK_exit, loopR_go, findex_eq, List.not_mem_nil, or_false, or_true, List.cons_append, List.nil_append, add_u64, mul_u64, xor_u64, shr32_u64, shr27_u64, shr9_u64, nilCheck_ptr, fstore1, push_get, put_get, List.set_cons_zero, List.set_cons_succ, List.length_cons, List.length_nil, oneCell_int, oneCell_string, oneCell_bool, oneCell_slice, oneCell_pointer, fcallV_func, fdefer_func, List.toList_toArray, after_defer, after_recover, fleave_fn, unrecovered_returning, leave_none, fextract_go, Nat.add_assoc, lay_nil, lay_cons, fbuild_go, fbuildSlice_go, reps_zero, reps_succ, leave_cell, List.take_zero, List.take_succ_cons, List.drop_zero, List.drop_succ_cons, List.drop_nil, List.take_nil, List.append_nil, Nat.zero_mul, Nat.one_mul, Nat.reduceMul, Nat.reduceLeDiff, and_self, true_and, Nat.reduceSub, Nat.sub_zero, List.all_cons, List.all_nil, Bool.and_self, Bool.and_true, Nat.mul_one, Sl_get, Sl_put, Sl_defers, Sl_nl, Sl_forget, upd_go, kept_go, r38_0_go, r38_1_go, Option.getD_some, hd, e1]
    generalize hf : upd _ _ _ = f1
    generalize hg : upd _ _ _ = g1
    have p0 : f1 0 = .pointer (some ⟨x, 0, none⟩) := by rw [← hf]; simp -implicitDefEqProofs only [upd_go, kept_go, ↓reduceIte, Nat.reduceEqDiff, Nat.reduceLT, reduceCtorEq, List.getElem?_cons_zero, Option.getD_some]
    have p1 : f1 1 = .int .i64 (.ofNat (L + 1)) := by rw [← hf]; simp -implicitDefEqProofs only [upd_go, kept_go, ↓reduceIte, Nat.reduceEqDiff, Nat.reduceLT, reduceCtorEq, List.getElem?_cons_zero, List.getElem?_cons_succ, Option.getD_some]
    have p4 : f1 4 = .pointer (some ⟨σ.next, 0, none⟩) := by rw [← hf]; simp -implicitDefEqProofs only [upd_go, kept_go, ↓reduceIte, Nat.reduceEqDiff, Nat.reduceLT, reduceCtorEq]
    clear hf hg
    unfold rest38
    cases b with
    | true =>
      obtain ⟨i, σ3, e3, i0, i1, hX3, hw3, hC3⟩ := up_go (M + 1) x (k + 2) 3 (by omega) (by omega) ((σ2.push (.cells [.int .i64 0, .int .i64 0, .string ⟨#[]⟩, .slice none 0 0] 24) none).put σ2.next (.cells [.int .i64 6, .int .i64 0, .string ⟨#[]⟩, .slice none 0 0] 24) none)
        ((hw2.push _ _).put _ _ _ (Nat.lt_succ_self _)) (hC2.ext hw2 (((Ext.refl _).push _ _).put _ _ _ (Nat.le_refl _)))
      obtain ⟨j, rfl⟩ : ∃ j : Nat, i = Int.ofNat j := ⟨i.toNat, by rw [Int.ofNat_eq_natCast]; omega⟩
      have hx5 : x < σ2.next := by have := hX02.next; omega
      have hb53 : σ3.heap.get σ2.next = _ := (hX3.get σ2.next (Nat.lt_succ_self _) (by omega)).trans (by rw [put_get, if_pos rfl])
      have hb3 : σ3.heap.get σ.next = _ := (hX3.get σ.next (Nat.lt_succ_of_lt hn2) (by omega)).trans ((by rw [put_get, if_neg (by omega), push_get, if_neg (by omega)] : _ = _).trans hb2)
      unfold vec38
      simp -implicitDefEqProofs only [seqR_go, fops_c, fops_nil, fdraw_f, fdraw_a, fdraw_nil', drawR_go, retR_go, skipR_go, exitR_go, after_val, after_skip, after_enter, after_ret, andThen_normal, andThen_ret, andThen_exit, put_none, Nat.reduceLT, ↓reduceIte, Nat.reduceEqDiff, Nat.reduceAdd, nth_zero, nth_succ, drawF_val, drawF_push, stepOp_eq, drawA_normal, view_next, push_next, push_clock, put_next, put_clock, box_go, newCells_go, notTuple_agg, notTuple_int, notTuple_string, notTuple_bool, notTuple_slice, notTuple_pointer, valCells_agg, valCells_int, valCells_string, valCells_bool, valCells_slice, valCells_pointer, ffield_eq, fload1, floadN, cells_push, cells_put, cells?_cells, gd_true, gd_false, fpick_eq, eql_int, neq_int, lss_int, leq_int, gtr_int, geq_int, add_int, sub_int, mul_int, eql_str, neq_str, not_go, flenL_eq, flenS_eq, Nat.add_zero, Nat.zero_add, Nat.add_left_cancel_iff, Nat.add_eq_left, Nat.left_eq_add, List.getElem?_cons_zero, List.getElem?_cons_succ, beq_self_eq_true, Bool.not_true, Bool.not_false, cond_true, cond_false, leaveR_ret, leaveR_normal, leave_tmp, leave_tmp2, leave_tmp3, condR_val, Bool.false_eq_true, blockR_k, blockK_normal, blockK_ret, blockK_exit, loopR_go, findex_eq, List.not_mem_nil, or_false, or_true, List.cons_append, List.nil_append, add_u64, mul_u64, xor_u64, shr32_u64, shr27_u64, shr9_u64, nilCheck_ptr, fstore1, push_get, put_get, List.set_cons_zero, List.set_cons_succ, List.length_cons, List.length_nil, oneCell_int, oneCell_string, oneCell_bool, oneCell_slice, oneCell_pointer, fcallV_func, fdefer_func, List.toList_toArray, after_defer, after_recover, fleave_fn, unrecovered_returning, leave_none, fextract_go, Nat.add_assoc, lay_nil, lay_cons, fbuild_go, fbuildSlice_go, reps_zero, reps_succ, leave_cell, List.take_zero, List.take_succ_cons, List.drop_zero, List.drop_succ_cons, List.drop_nil, List.take_nil, List.append_nil, Nat.zero_mul, Nat.one_mul, Nat.reduceMul, Nat.reduceLeDiff, and_self, true_and, Nat.reduceSub, Nat.sub_zero, List.all_cons, List.all_nil, Bool.and_self, Bool.and_true, Nat.mul_one, Sl_get, Sl_put, Sl_defers, Sl_nl, Sl_forget, upd_go, kept_go, fstoreN, r38_12_go, r38_13_go, r38_14_go, p0, p1, p4, e2, e3, keep38]
      generalize hf : upd _ _ _ = f2
      generalize hg : upd _ _ _ = g2
      generalize hbf : bigFuel = fuel
      have hfu : j < fuel := by rw [← hbf]; show j < 1000000000000; rw [Int.ofNat_eq_natCast] at i1; omega
      have hX03 : ExtC x σ σ3 := (hX02.trans ((((Ext.refl σ2).push _ _).put _ _ _ (Nat.le_refl _)).toC x)).trans hX3
      have hj3 : j ≤ 3 := by rw [Int.ofNat_eq_natCast] at i1; omega
      have hjW : j * W ≤ 3 * W := Nat.mul_le_mul_right W hj3
      have hH : HeadV x σ.next σ2.next L W (k + (3 * W + 10)) j σ [] f2 σ3 := {
        f0 := by rw [← hf]; simp -implicitDefEqProofs only [upd_go, kept_go, ↓reduceIte, Nat.reduceEqDiff, Nat.reduceLT, reduceCtorEq, p0]
        f1 := by rw [← hf]; simp -implicitDefEqProofs only [upd_go, kept_go, ↓reduceIte, Nat.reduceEqDiff, Nat.reduceLT, reduceCtorEq, p1]
        f4 := by rw [← hf]; simp -implicitDefEqProofs only [upd_go, kept_go, ↓reduceIte, Nat.reduceEqDiff, Nat.reduceLT, reduceCtorEq, p4]
        f5 := by rw [← hf]; simp -implicitDefEqProofs only [upd_go, kept_go, ↓reduceIte, Nat.reduceEqDiff, Nat.reduceLT, reduceCtorEq]
        f6 := by rw [← hf]; simp -implicitDefEqProofs only [upd_go, kept_go, ↓reduceIte, Nat.reduceEqDiff, Nat.reduceLT, reduceCtorEq]
        hbo := ⟨_, _, _, _, _, hb3⟩
        hb5 := ⟨_, _, hb53, .inl ⟨rfl, rfl⟩⟩
        ext := hX03
        wf := hw3
        coil := ⟨_, hC3, by omega⟩
        made := fun d hd => by cases hd
        lt1 := hxn
        lt2 := Nat.le_refl _
        lt3 := hn2
        len := by simpa using hj3 }
      obtain ⟨f3, g3, σ4, ds, el, hH4, k', hC4, hk', hK'⟩ := datumOf_loop (M + 3) x σ.next σ2.next L W (k + (3 * W + 10)) hk (by omega) σ k hD j fuel [] f2 g2 σ3 hfu hH ⟨_, hC3, by omega, by omega⟩
      rw [el]
      obtain ⟨v5, s5, hb5, hV⟩ := hH4.hb5
      obtain ⟨vo, z0, z1, z2, z3, hbo⟩ := hH4.hbo
      have hc5 := cells_of_get hb5
      have q4 := hH4.f4
      have q5 := hH4.f5
      have hs5 : ∃ p, s5 = .slice p ds.length ds.length ∧ LaidRE (fun c => σ2.next < c) σ4 p 0 ds := by
        rcases hV with ⟨rfl, rfl⟩ | ⟨b, cs, ver, rfl, hb, hlb, hR⟩
        · exact ⟨none, rfl, trivial⟩
        · have hbn := (hH4.wf _ _ hb).1
          exact ⟨_, rfl, hR.elems (R' := fun c => σ2.next < c) (cells_of_get hb) hlb (fun _ h => h.1) 0 ds fun j e h => by rwa [Nat.zero_add]⟩
      obtain ⟨p, rfl, hE⟩ := hs5
      simp -implicitDefEqProofs only [seqR_go, fops_c, fops_nil, fdraw_f, fdraw_a, fdraw_nil', drawR_go, retR_go, skipR_go, exitR_go, after_val, after_skip, after_enter, after_ret, andThen_normal, andThen_ret, andThen_exit, put_none, Nat.reduceLT, ↓reduceIte, Nat.reduceEqDiff, Nat.reduceAdd, nth_zero, nth_succ, drawF_val, drawF_push, stepOp_eq, drawA_normal, view_next, push_next, push_clock, put_next, put_clock, box_go, newCells_go, notTuple_agg, notTuple_int, notTuple_string, notTuple_bool, notTuple_slice, notTuple_pointer, valCells_agg, valCells_int, valCells_string, valCells_bool, valCells_slice, valCells_pointer, ffield_eq, fload1, floadN, cells_push, cells_put, cells?_cells, gd_true, gd_false, fpick_eq, eql_int, neq_int, lss_int, leq_int, gtr_int, geq_int, add_int, sub_int, mul_int, eql_str, neq_str, not_go, flenL_eq, flenS_eq, Nat.add_zero, Nat.zero_add, Nat.add_left_cancel_iff, Nat.add_eq_left, Nat.left_eq_add, List.getElem?_cons_zero, List.getElem?_cons_succ, beq_self_eq_true, Bool.not_true, Bool.not_false, cond_true, cond_false, leaveR_ret, leaveR_normal, leave_tmp, leave_tmp2, leave_tmp3, condR_val, Bool.false_eq_true, blockR_k, blockK_normal, blockK_ret, blockK_exit, loopR_go, findex_eq, List.not_mem_nil, or_false, or_true, List.cons_append, List.nil_append, add_u64, mul_u64, xor_u64, shr32_u64, shr27_u64, shr9_u64, nilCheck_ptr, fstore1, push_get, put_get, List.set_cons_zero, List.set_cons_succ, List.length_cons, List.length_nil, oneCell_int, oneCell_string, oneCell_bool, oneCell_slice, oneCell_pointer, fcallV_func, fdefer_func, List.toList_toArray, after_defer, after_recover, fleave_fn, unrecovered_returning, leave_none, fextract_go, Nat.add_assoc, lay_nil, lay_cons, fbuild_go, fbuildSlice_go, reps_zero, reps_succ, leave_cell, List.take_zero, List.take_succ_cons, List.drop_zero, List.drop_succ_cons, List.drop_nil, List.take_nil, List.append_nil, Nat.zero_mul, Nat.one_mul, Nat.reduceMul, Nat.reduceLeDiff, and_self, true_and, Nat.reduceSub, Nat.sub_zero, List.all_cons, List.all_nil, Bool.and_self, Bool.and_true, Nat.mul_one, Sl_get, Sl_put, Sl_defers, Sl_nl, Sl_forget, upd_go, kept_go, fstoreN, r38_18_go, q4, q5, hc5, hbo, aggDatum]
      have hno := (hH4.wf _ _ hbo).1
      have hlen : ds.length ≤ 3 := by have := hH4.len; omega
      refine ⟨_, .mk 6 0 ⟨#[]⟩ ds, _, k', rfl, ⟨p, _, rfl, hE.keep fun b cs hb h => ?_⟩, .vec L ds hlen hH4.made, hH4.ext.putNew _ _ _ (Nat.le_refl _), hH4.wf.put _ _ _ hno, hC4.put _ hxn _ _, hk', hK'⟩
      have hb' : σ2.next < b := hb
      refine ⟨?_, by omega, ?_⟩
      · rw [cells_put, if_neg (by omega)]; exact h
      · rw [put_next]; exact hH4.wf.cells h
    | false =>
      obtain ⟨v1, d1, σ3, k3, e3, hL3, hM3, hX3, hw3, hC3, hk3, hk3'⟩ := hD (k + 2) σ2 (by omega) hw2 hC2
      obtain ⟨v2, d2, σ4, k4, e4, hL4, hM4, hX4, hw4, hC4, hk4, hk4'⟩ := hD k3 σ3 (by omega) hw3 hC3
      have kp : ∀ b cs, New σ2 σ3 b → σ3.cells b = some cs → σ4.cells b = some cs ∧ (σ2.next ≤ b ∧ b < σ4.next) := fun b cs hb h => by
        have h1 := hX4.next
        exact ⟨(hX4.cells hb.2 (by have := hb.1; omega)).trans h, hb.1, by have := hb.2; omega⟩
      obtain ⟨v5, σ5, e5, hX5, hw5, hL5⟩ := pair_goR (M + 2) (fun b => σ2.next ≤ b ∧ b < σ4.next) d1 d2 v1 v2 σ4 hw4 (hL3.keep kp) (hL4.keep fun b cs hb h => ⟨h, by have := hb.1; have := hX3.next; omega, hb.2⟩)
      have hX25 : ExtC x σ2 σ5 := (hX3.trans hX4).trans (hX5.toC x)
      have hb5 := (hX25.get σ.next hn2 (by omega)).trans hb2
      obtain ⟨p, c, rfl, hE⟩ := hL5
      simp -implicitDefEqProofs only [seqR_go, fops_c, fops_nil, fdraw_f, fdraw_a, fdraw_nil', drawR_go, retR_go, skipR_go, exitR_go, after_val, after_skip, after_enter, after_ret, andThen_normal, andThen_ret, andThen_exit, put_none, Nat.reduceLT, ↓reduceIte, Nat.reduceEqDiff, Nat.reduceAdd, nth_zero, nth_succ, drawF_val, drawF_push, stepOp_eq, drawA_normal, view_next, push_next, push_clock, put_next, put_clock, box_go, newCells_go, notTuple_agg, notTuple_int, notTuple_string, notTuple_bool, notTuple_slice, notTuple_pointer, valCells_agg, valCells_int, valCells_string, valCells_bool, valCells_slice, valCells_pointer, ffield_eq, fload1, floadN, cells_push, cells_put, cells?_cells, gd_true, gd_false, fpick_eq, eql_int, neq_int, lss_int, leq_int, gtr_int, geq_int, add_int, sub_int, mul_int, eql_str, neq_str, not_go, flenL_eq, flenS_eq, Nat.add_zero, Nat.zero_add, Nat.add_left_cancel_iff, Nat.add_eq_left, Nat.left_eq_add, List.getElem?_cons_zero, List.getElem?_cons_succ, beq_self_eq_true, Bool.not_true, Bool.not_false, cond_true, cond_false, leaveR_ret, leaveR_normal, leave_tmp, leave_tmp2, leave_tmp3, condR_val, Bool.false_eq_true, blockR_k, blockK_normal, blockK_ret, blockK_exit, loopR_go, findex_eq, List.not_mem_nil, or_false, or_true, List.cons_append, List.nil_append, add_u64, mul_u64, xor_u64, shr32_u64, shr27_u64, shr9_u64, nilCheck_ptr, fstore1, push_get, put_get, List.set_cons_zero, List.set_cons_succ, List.length_cons, List.length_nil, oneCell_int, oneCell_string, oneCell_bool, oneCell_slice, oneCell_pointer, fcallV_func, fdefer_func, List.toList_toArray, after_defer, after_recover, fleave_fn, unrecovered_returning, leave_none, fextract_go, Nat.add_assoc, lay_nil, lay_cons, fbuild_go, fbuildSlice_go, reps_zero, reps_succ, leave_cell, List.take_zero, List.take_succ_cons, List.drop_zero, List.drop_succ_cons, List.drop_nil, List.take_nil, List.append_nil, Nat.zero_mul, Nat.one_mul, Nat.reduceMul, Nat.reduceLeDiff, and_self, true_and, Nat.reduceSub, Nat.sub_zero, List.all_cons, List.all_nil, Bool.and_self, Bool.and_true, Nat.mul_one, Sl_get, Sl_put, Sl_defers, Sl_nl, Sl_forget, upd_go, kept_go, fstoreN, r38_12_go, r38_19_go, p0, p1, p4, e2, e3, e4, e5, hwr, hb5, aggDatum]
      have hnn := hX02.next
      have hn5 := (hw5 _ _ hb5).1
      refine ⟨_, .mk 5 0 ⟨#[]⟩ [d1, d2], _, k4, rfl, ⟨p, c, rfl, hE.keep fun b cs hb h => ?_⟩, .pair L _ _ hM3 hM4, (hX02.trans hX25).putNew _ _ _ (Nat.le_refl _), hw5.put _ _ _ hn5, (hC4.ext hw4 hX5).put _ hxn _ _, by omega, by omega⟩
      have hlo : σ.next < b := by
        rcases hb with hb | hb
        · exact Nat.lt_of_lt_of_le hn2 hb.1
        · have := hb.1; have := hX3.next; have := hX4.next; omega
      refine ⟨?_, by omega, ?_⟩
      · rw [cells_put, if_neg (by omega)]; exact h
      · rw [put_next]; exact hw5.cells h

/-- How many numbers a datum of so many levels takes at most. -/
def wound : Nat → Nat
  | 0 => 10
  | 1 => 10
  | L + 2 => 3 * wound (L + 1) + 10
theorem datumOf_go (n x : Nat) : ∀ L, L ≤ 6 → DatumAt (n + L + 4) x L (wound L)
  | 0, _ => datumOf_leaf n x 0 10 (by omega) (by omega)
  | 1, _ => datumOf_leaf (n + 1) x 1 10 (by omega) (by omega)
  | L + 2, h => by
    have ih := datumOf_go n x (L + 1) (by omega)
    have hW : 4 ≤ wound (L + 1) ∧ wound (L + 1) < 10000000000 := by
      obtain rfl | rfl | rfl | rfl | rfl : L = 0 ∨ L = 1 ∨ L = 2 ∨ L = 3 ∨ L = 4 := by omega
      all_goals (simp [wound])
    exact datumOf_step (n + L + 2) x (L + 1) (wound (L + 1)) (by omega) hW ih
end Go.Proofs.YtnjapblabllclaaGreatDoor
/- Functions of the program, written out in the reading's words (made by program; the kernel holds each against the code). -/
namespace Go.Proofs.YtnjapblabllclaaGreatDoor
open Go Go.Eng
/-! caracole/guard.CallAt[caracole/datum.extent] -/
noncomputable def r106_0 : List COp := [⟨fun a σ => newCells [(.int .i64 0), (.int .i64 0)] 82 none σ, (some 2), fun _ => some true⟩,
  ⟨fun a σ => newCells [(.int .i64 0)] 3 none σ, (some 3), fun _ => some true⟩,
  ⟨fun a σ => newCells [(.int .i64 0)] 27 none σ, (some 4), fun _ => some true⟩]
noncomputable def r106_1 : List COp := [⟨fun a σ => .val (.func (.func 132) #[] #[(a.get 3), (a.get 4)]) σ, (some 5), fun _ => some true⟩,
  ⟨fun a σ => fdefer (a.get 5) [] σ, none, fun _ => some true⟩]
noncomputable def r106_2 : List COp := [⟨fun a σ => .val (a.get 0) σ, (some 6), fun _ => some true⟩,
  ⟨fun a σ => fcallV (a.get 6) [] σ, (some 7), fun _ => some true⟩,
  ⟨fun a σ => fstore 2 (a.get 2) (a.get 7) σ, none, fun _ => some true⟩,
  ⟨fun a σ => fstore 1 (a.get 3) (.int .i64 0) σ, none, fun _ => some true⟩,
  ⟨fun a σ => fstore 1 (a.get 4) (.int .i64 0) σ, none, fun _ => some true⟩]
noncomputable def run106 (E : Env) (ro : Option Nat) (fn : FuncId) : RunF := (seqR (fops E ro r106_0) (seqR (fops E ro r106_1) (seqR (fops E ro r106_2) retR)))
theorem r106_0_go (E : Env) (ro : Option Nat) (a : FAct) (u : Option FrameMode) (σ : FState) : fops E ro r106_0 a u σ = fops E ro [⟨fun a σ => newCells [(.int .i64 0), (.int .i64 0)] 82 none σ, (some 2), fun _ => some true⟩,
  ⟨fun a σ => newCells [(.int .i64 0)] 3 none σ, (some 3), fun _ => some true⟩,
  ⟨fun a σ => newCells [(.int .i64 0)] 27 none σ, (some 4), fun _ => some true⟩] a u σ := rfl
theorem r106_1_go (E : Env) (ro : Option Nat) (a : FAct) (u : Option FrameMode) (σ : FState) : fops E ro r106_1 a u σ = fops E ro [⟨fun a σ => .val (.func (.func 132) #[] #[(a.get 3), (a.get 4)]) σ, (some 5), fun _ => some true⟩,
  ⟨fun a σ => fdefer (a.get 5) [] σ, none, fun _ => some true⟩] a u σ := rfl
theorem r106_2_go (E : Env) (ro : Option Nat) (a : FAct) (u : Option FrameMode) (σ : FState) : fops E ro r106_2 a u σ = fops E ro [⟨fun a σ => .val (a.get 0) σ, (some 6), fun _ => some true⟩,
  ⟨fun a σ => fcallV (a.get 6) [] σ, (some 7), fun _ => some true⟩,
  ⟨fun a σ => fstore 2 (a.get 2) (a.get 7) σ, none, fun _ => some true⟩,
  ⟨fun a σ => fstore 1 (a.get 3) (.int .i64 0) σ, none, fun _ => some true⟩,
  ⟨fun a σ => fstore 1 (a.get 4) (.int .i64 0) σ, none, fun _ => some true⟩] a u σ := rfl
theorem code106 (E : Env) (ro : Option Nat) (fn : FuncId) : code Tryz.prog nls (Tryz.f106.body.getD .skip) E ro fn = run106 E ro fn := by kernel_rfl
theorem enter106 (E : Env) (args : List Value) (u : Option FrameMode) (σ : FState) (hn : args.length ≤ (5 : Nat)) : fcall Tryz.prog nls E 106 args u σ = leaveR Tryz.prog E [.cell 2 82, .cell 3 3, .cell 4 27] (run106 E none 106 ⟨padTo undef 5 args, fun _ => undef, 5, 8, []⟩ u σ) := by
  rw [fcall_of (body := Tryz.f106.body.getD .skip) Tryz.func106 rfl E args u σ 5 8 (by kernel_rfl) rfl ⟨hn, by decide⟩, code106]
  rfl
/-! caracole/guard.CallAt[caracole/datum.extent]$1 -/
noncomputable def r132_0 : List COp := [⟨fun a σ => .recover σ, (some 6), fun _ => some true⟩]
noncomputable def r132_3 : List COp := [⟨fun a σ => i_eql Tryz.prog 20 (.tmp 6) (.const .nilIface) (a.get 6) .nilIface σ, (some 7), fun _ => some true⟩]
noncomputable def r132_4 : List COp := [⟨fun a σ => .val (a.get 6) σ, (some 2), fun _ => some true⟩]
noncomputable def r132_5 : List COp := [⟨fun a σ => fassert Tryz.prog (a.get 6) 164 true σ, (some 8), fun _ => some true⟩,
  ⟨fun a σ => fextract 1 (a.get 8) σ, (some 9), fun _ => some true⟩,
  ⟨fun a σ => fextract 0 (a.get 8) σ, (some 10), fun _ => some true⟩]
noncomputable def r132_6 : List COp := [⟨fun a σ => .val (a.get 10) σ, (some 3), fun _ => some true⟩]
noncomputable def r132_7 : List COp := [⟨fun a σ => .val (a.get 3) σ, (some 11), fun _ => some true⟩,
  ⟨fun a σ => .enter 126 [(a.get 11)] σ, (some 12), fun _ => some true⟩,
  ⟨fun a σ => newCells [(.int .i64 0), (.int .i64 0)] 166 none σ, (some 4), fun _ => some true⟩,
  ⟨fun a σ => fstore 2 (a.get 4) (a.get 12) σ, none, fun _ => some true⟩]
noncomputable def r132_8 : List DOp := [⟨fun a σ => ffield 1 (a.get 4) σ, (some 13), fun _ => some true, (some 0), false⟩,
  ⟨fun a σ => fload none (a.get 13) σ, (some 14), fun _ => some true, (some 0), false⟩,
  ⟨fun a σ => fstore 1 (a.get 0) (a.get 14) σ, none, fun _ => some true, none, false⟩,
  ⟨fun a σ => ffield 0 (a.get 4) σ, (some 15), fun _ => some true, (some 0), false⟩,
  ⟨fun a σ => fload none (a.get 15) σ, (some 16), fun _ => some true, (some 0), false⟩,
  ⟨fun a σ => fstore 1 (a.get 1) (a.get 16) σ, none, fun _ => some true, none, true⟩]
noncomputable def r132_1 : List COp := [⟨fun a σ => .val (a.get 6) σ, (some 5), fun _ => some true⟩]
noncomputable def r132_2 : List COp := [⟨fun a σ => fstore 1 (a.get 1) (.int .i64 1) σ, none, fun _ => some true⟩]
noncomputable def run132 (E : Env) (ro : Option Nat) (fn : FuncId) : RunF := (seqR (fops E ro r132_0) (blockR 0 (seqR (fops E ro r132_3) (condR (fun a => (a.get 7)) (fops E ro r132_4) (seqR (fops E ro r132_5) (condR (fun a => (a.get 9)) (seqR (fops E ro r132_6) (seqR (fops E ro r132_7) (drawR E ro r132_8))) (seqR (fops E ro r132_1) (fops E ro r132_2))))))))
theorem r132_0_go (E : Env) (ro : Option Nat) (a : FAct) (u : Option FrameMode) (σ : FState) : fops E ro r132_0 a u σ = fops E ro [⟨fun a σ => .recover σ, (some 6), fun _ => some true⟩] a u σ := rfl
theorem r132_3_go (E : Env) (ro : Option Nat) (a : FAct) (u : Option FrameMode) (σ : FState) : fops E ro r132_3 a u σ = fops E ro [⟨fun a σ => i_eql Tryz.prog 20 (.tmp 6) (.const .nilIface) (a.get 6) .nilIface σ, (some 7), fun _ => some true⟩] a u σ := rfl
theorem r132_4_go (E : Env) (ro : Option Nat) (a : FAct) (u : Option FrameMode) (σ : FState) : fops E ro r132_4 a u σ = fops E ro [⟨fun a σ => .val (a.get 6) σ, (some 2), fun _ => some true⟩] a u σ := rfl
theorem r132_5_go (E : Env) (ro : Option Nat) (a : FAct) (u : Option FrameMode) (σ : FState) : fops E ro r132_5 a u σ = fops E ro [⟨fun a σ => fassert Tryz.prog (a.get 6) 164 true σ, (some 8), fun _ => some true⟩,
  ⟨fun a σ => fextract 1 (a.get 8) σ, (some 9), fun _ => some true⟩,
  ⟨fun a σ => fextract 0 (a.get 8) σ, (some 10), fun _ => some true⟩] a u σ := rfl
theorem r132_6_go (E : Env) (ro : Option Nat) (a : FAct) (u : Option FrameMode) (σ : FState) : fops E ro r132_6 a u σ = fops E ro [⟨fun a σ => .val (a.get 10) σ, (some 3), fun _ => some true⟩] a u σ := rfl
theorem r132_7_go (E : Env) (ro : Option Nat) (a : FAct) (u : Option FrameMode) (σ : FState) : fops E ro r132_7 a u σ = fops E ro [⟨fun a σ => .val (a.get 3) σ, (some 11), fun _ => some true⟩,
  ⟨fun a σ => .enter 126 [(a.get 11)] σ, (some 12), fun _ => some true⟩,
  ⟨fun a σ => newCells [(.int .i64 0), (.int .i64 0)] 166 none σ, (some 4), fun _ => some true⟩,
  ⟨fun a σ => fstore 2 (a.get 4) (a.get 12) σ, none, fun _ => some true⟩] a u σ := rfl
theorem r132_8_go (E : Env) (ro : Option Nat) (last : List Nat → RunF) (cl : List Nat) (a : FAct) (u : Option FrameMode) (σ : FState) : fdraw E ro last r132_8 cl a u σ = fdraw E ro last [⟨fun a σ => ffield 1 (a.get 4) σ, (some 13), fun _ => some true, (some 0), false⟩,
  ⟨fun a σ => fload none (a.get 13) σ, (some 14), fun _ => some true, (some 0), false⟩,
  ⟨fun a σ => fstore 1 (a.get 0) (a.get 14) σ, none, fun _ => some true, none, false⟩,
  ⟨fun a σ => ffield 0 (a.get 4) σ, (some 15), fun _ => some true, (some 0), false⟩,
  ⟨fun a σ => fload none (a.get 15) σ, (some 16), fun _ => some true, (some 0), false⟩,
  ⟨fun a σ => fstore 1 (a.get 1) (a.get 16) σ, none, fun _ => some true, none, true⟩] cl a u σ := rfl
theorem r132_1_go (E : Env) (ro : Option Nat) (a : FAct) (u : Option FrameMode) (σ : FState) : fops E ro r132_1 a u σ = fops E ro [⟨fun a σ => .val (a.get 6) σ, (some 5), fun _ => some true⟩] a u σ := rfl
theorem r132_2_go (E : Env) (ro : Option Nat) (a : FAct) (u : Option FrameMode) (σ : FState) : fops E ro r132_2 a u σ = fops E ro [⟨fun a σ => fstore 1 (a.get 1) (.int .i64 1) σ, none, fun _ => some true⟩] a u σ := rfl
theorem code132 (E : Env) (ro : Option Nat) (fn : FuncId) : code Tryz.prog nls (Tryz.f132.body.getD .skip) E ro fn = run132 E ro fn := by kernel_rfl
theorem enter132 (E : Env) (args : List Value) (u : Option FrameMode) (σ : FState) (hn : args.length ≤ (6 : Nat)) : fcall Tryz.prog nls E 132 args u σ = leaveR Tryz.prog E [] (run132 E none 132 ⟨padTo undef 6 args, fun _ => undef, 6, 17, []⟩ u σ) := by
  rw [fcall_of (body := Tryz.f132.body.getD .skip) Tryz.func132 rfl E args u σ 6 17 (by kernel_rfl) rfl ⟨hn, by decide⟩, code132]
  rfl
/-! caracole/guard.Call[caracole/datum.extent] -/
noncomputable def r60_0 : List COp := [⟨fun a σ => newCells [(.int .i64 0), (.int .i64 0)] 82 none σ, (some 2), fun _ => some true⟩,
  ⟨fun a σ => .val (.int .i64 0) σ, (some 3), fun _ => some true⟩]
noncomputable def r60_1 : List COp := [⟨fun a σ => .val (a.get 0) σ, (some 8), fun _ => some true⟩,
  ⟨fun a σ => .enter 106 [(a.get 8)] σ, (some 9), fun _ => some true⟩,
  ⟨fun a σ => .val (a.get 9) σ, (some 7), fun _ => some true⟩,
  ⟨fun a σ => fextract 0 (a.get 7) σ, (some 10), fun _ => some true⟩,
  ⟨fun a σ => fextract 1 (a.get 7) σ, (some 11), fun _ => some true⟩,
  ⟨fun a σ => fextract 2 (a.get 7) σ, (some 12), fun _ => some true⟩,
  ⟨fun a σ => newCells [(.int .i64 0), (.int .i64 0)] 82 none σ, (some 4), fun _ => some true⟩,
  ⟨fun a σ => fstore 2 (a.get 4) (a.get 10) σ, none, fun _ => some true⟩,
  ⟨fun a σ => .val (a.get 11) σ, (some 5), fun _ => some true⟩,
  ⟨fun a σ => .val (a.get 12) σ, (some 6), fun _ => some true⟩]
noncomputable def r60_2 : List COp := [⟨fun a σ => fload (some 2) (a.get 4) σ, (some 13), fun _ => some true⟩,
  ⟨fun a σ => .val (a.get 6) σ, (some 14), fun _ => some true⟩,
  ⟨fun a σ => fstore 2 (a.get 2) (a.get 13) σ, none, fun _ => some true⟩,
  ⟨fun a σ => .val (a.get 14) σ, (some 3), fun _ => some true⟩]
noncomputable def run60 (E : Env) (ro : Option Nat) (fn : FuncId) : RunF := (seqR (fops E ro r60_0) (seqR (fops E ro r60_1) (seqR (fops E ro r60_2) retR)))
theorem r60_0_go (E : Env) (ro : Option Nat) (a : FAct) (u : Option FrameMode) (σ : FState) : fops E ro r60_0 a u σ = fops E ro [⟨fun a σ => newCells [(.int .i64 0), (.int .i64 0)] 82 none σ, (some 2), fun _ => some true⟩,
  ⟨fun a σ => .val (.int .i64 0) σ, (some 3), fun _ => some true⟩] a u σ := rfl
theorem r60_1_go (E : Env) (ro : Option Nat) (a : FAct) (u : Option FrameMode) (σ : FState) : fops E ro r60_1 a u σ = fops E ro [⟨fun a σ => .val (a.get 0) σ, (some 8), fun _ => some true⟩,
  ⟨fun a σ => .enter 106 [(a.get 8)] σ, (some 9), fun _ => some true⟩,
  ⟨fun a σ => .val (a.get 9) σ, (some 7), fun _ => some true⟩,
  ⟨fun a σ => fextract 0 (a.get 7) σ, (some 10), fun _ => some true⟩,
  ⟨fun a σ => fextract 1 (a.get 7) σ, (some 11), fun _ => some true⟩,
  ⟨fun a σ => fextract 2 (a.get 7) σ, (some 12), fun _ => some true⟩,
  ⟨fun a σ => newCells [(.int .i64 0), (.int .i64 0)] 82 none σ, (some 4), fun _ => some true⟩,
  ⟨fun a σ => fstore 2 (a.get 4) (a.get 10) σ, none, fun _ => some true⟩,
  ⟨fun a σ => .val (a.get 11) σ, (some 5), fun _ => some true⟩,
  ⟨fun a σ => .val (a.get 12) σ, (some 6), fun _ => some true⟩] a u σ := rfl
theorem r60_2_go (E : Env) (ro : Option Nat) (a : FAct) (u : Option FrameMode) (σ : FState) : fops E ro r60_2 a u σ = fops E ro [⟨fun a σ => fload (some 2) (a.get 4) σ, (some 13), fun _ => some true⟩,
  ⟨fun a σ => .val (a.get 6) σ, (some 14), fun _ => some true⟩,
  ⟨fun a σ => fstore 2 (a.get 2) (a.get 13) σ, none, fun _ => some true⟩,
  ⟨fun a σ => .val (a.get 14) σ, (some 3), fun _ => some true⟩] a u σ := rfl
theorem code60 (E : Env) (ro : Option Nat) (fn : FuncId) : code Tryz.prog nls (Tryz.f60.body.getD .skip) E ro fn = run60 E ro fn := by kernel_rfl
theorem enter60 (E : Env) (args : List Value) (u : Option FrameMode) (σ : FState) (hn : args.length ≤ (7 : Nat)) : fcall Tryz.prog nls E 60 args u σ = leaveR Tryz.prog E [.cell 2 82, .tmp 3] (run60 E none 60 ⟨padTo undef 7 args, fun _ => undef, 7, 15, []⟩ u σ) := by
  rw [fcall_of (body := Tryz.f60.body.getD .skip) Tryz.func60 rfl E args u σ 7 15 (by kernel_rfl) rfl ⟨hn, by decide⟩, code60]
  rfl
/-! caracole/datum.Size -/
noncomputable def r21_0 : List COp := [⟨fun a σ => fbox 24 (a.get 0) σ, (some 1), fun _ => some true⟩,
  ⟨fun a σ => .val (.int .i64 0) σ, (some 2), fun _ => some true⟩,
  ⟨fun a σ => .val (.int .i64 0) σ, (some 3), fun _ => some true⟩,
  ⟨fun a σ => .val (.int .i64 0) σ, (some 4), fun _ => some true⟩]
noncomputable def r21_1 : List COp := [⟨fun a σ => .val (.func (.func 61) #[] #[(a.get 1)]) σ, (some 7), fun _ => some true⟩,
  ⟨fun a σ => .enter 60 [(a.get 7)] σ, (some 8), fun _ => some true⟩,
  ⟨fun a σ => .val (a.get 8) σ, (some 6), fun _ => some true⟩,
  ⟨fun a σ => fextract 0 (a.get 6) σ, (some 9), fun _ => some true⟩,
  ⟨fun a σ => fextract 1 (a.get 6) σ, (some 10), fun _ => some true⟩,
  ⟨fun a σ => newCells [(.int .i64 0), (.int .i64 0)] 82 none σ, (some 5), fun _ => some true⟩,
  ⟨fun a σ => fstore 2 (a.get 5) (a.get 9) σ, none, fun _ => some true⟩,
  ⟨fun a σ => .val (a.get 10) σ, (some 4), fun _ => some true⟩]
noncomputable def r21_2 : List DOp := [⟨fun a σ => ffield 0 (a.get 5) σ, (some 11), fun _ => some true, (some 0), false⟩,
  ⟨fun a σ => fload none (a.get 11) σ, (some 12), fun _ => some true, (some 0), false⟩,
  ⟨fun a σ => ffield 1 (a.get 5) σ, (some 13), fun _ => some true, (some 0), false⟩,
  ⟨fun a σ => fload none (a.get 13) σ, (some 14), fun _ => some true, (some 0), false⟩,
  ⟨fun a σ => .val (a.get 4) σ, (some 15), fun _ => some true, (some 0), false⟩,
  ⟨fun a σ => .val (a.get 12) σ, (some 2), fun _ => some true, (some 0), false⟩,
  ⟨fun a σ => .val (a.get 14) σ, (some 3), fun _ => some true, (some 0), false⟩,
  ⟨fun a σ => .val (a.get 15) σ, (some 4), fun _ => some true, (some 0), false⟩]
noncomputable def run21 (E : Env) (ro : Option Nat) (fn : FuncId) : RunF := (seqR (fops E ro r21_0) (seqR (fops E ro r21_1) (seqR (drawR E ro r21_2) retR)))
theorem r21_0_go (E : Env) (ro : Option Nat) (a : FAct) (u : Option FrameMode) (σ : FState) : fops E ro r21_0 a u σ = fops E ro [⟨fun a σ => fbox 24 (a.get 0) σ, (some 1), fun _ => some true⟩,
  ⟨fun a σ => .val (.int .i64 0) σ, (some 2), fun _ => some true⟩,
  ⟨fun a σ => .val (.int .i64 0) σ, (some 3), fun _ => some true⟩,
  ⟨fun a σ => .val (.int .i64 0) σ, (some 4), fun _ => some true⟩] a u σ := rfl
theorem r21_1_go (E : Env) (ro : Option Nat) (a : FAct) (u : Option FrameMode) (σ : FState) : fops E ro r21_1 a u σ = fops E ro [⟨fun a σ => .val (.func (.func 61) #[] #[(a.get 1)]) σ, (some 7), fun _ => some true⟩,
  ⟨fun a σ => .enter 60 [(a.get 7)] σ, (some 8), fun _ => some true⟩,
  ⟨fun a σ => .val (a.get 8) σ, (some 6), fun _ => some true⟩,
  ⟨fun a σ => fextract 0 (a.get 6) σ, (some 9), fun _ => some true⟩,
  ⟨fun a σ => fextract 1 (a.get 6) σ, (some 10), fun _ => some true⟩,
  ⟨fun a σ => newCells [(.int .i64 0), (.int .i64 0)] 82 none σ, (some 5), fun _ => some true⟩,
  ⟨fun a σ => fstore 2 (a.get 5) (a.get 9) σ, none, fun _ => some true⟩,
  ⟨fun a σ => .val (a.get 10) σ, (some 4), fun _ => some true⟩] a u σ := rfl
theorem r21_2_go (E : Env) (ro : Option Nat) (last : List Nat → RunF) (cl : List Nat) (a : FAct) (u : Option FrameMode) (σ : FState) : fdraw E ro last r21_2 cl a u σ = fdraw E ro last [⟨fun a σ => ffield 0 (a.get 5) σ, (some 11), fun _ => some true, (some 0), false⟩,
  ⟨fun a σ => fload none (a.get 11) σ, (some 12), fun _ => some true, (some 0), false⟩,
  ⟨fun a σ => ffield 1 (a.get 5) σ, (some 13), fun _ => some true, (some 0), false⟩,
  ⟨fun a σ => fload none (a.get 13) σ, (some 14), fun _ => some true, (some 0), false⟩,
  ⟨fun a σ => .val (a.get 4) σ, (some 15), fun _ => some true, (some 0), false⟩,
  ⟨fun a σ => .val (a.get 12) σ, (some 2), fun _ => some true, (some 0), false⟩,
  ⟨fun a σ => .val (a.get 14) σ, (some 3), fun _ => some true, (some 0), false⟩,
  ⟨fun a σ => .val (a.get 15) σ, (some 4), fun _ => some true, (some 0), false⟩] cl a u σ := rfl
theorem code21 (E : Env) (ro : Option Nat) (fn : FuncId) : code Tryz.prog nls (Tryz.f21.body.getD .skip) E ro fn = run21 E ro fn := by kernel_rfl
theorem enter21 (E : Env) (args : List Value) (u : Option FrameMode) (σ : FState) (hn : args.length ≤ (6 : Nat)) : fcall Tryz.prog nls E 21 args u σ = leaveR Tryz.prog E [.tmp 2, .tmp 3, .tmp 4] (run21 E none 21 ⟨padTo undef 6 args, fun _ => undef, 6, 16, []⟩ u σ) := by
  rw [fcall_of (body := Tryz.f21.body.getD .skip) Tryz.func21 rfl E args u σ 6 16 (by kernel_rfl) rfl ⟨hn, by decide⟩, code21]
  rfl
/-! caracole/datum.Size$1 -/
noncomputable def r61_0 : List COp := [⟨fun a σ => newCells [(.int .i64 0), (.int .i64 0)] 82 none σ, (some 1), fun _ => some true⟩]
noncomputable def r61_1 : List COp := [⟨fun a σ => fload (some 4) (a.get 0) σ, (some 3), fun _ => some true⟩,
  ⟨fun a σ => .enter 55 [(a.get 3)] σ, (some 4), fun _ => some true⟩,
  ⟨fun a σ => .val (a.get 4) σ, (some 2), fun _ => some true⟩]
noncomputable def r61_2 : List COp := [⟨fun a σ => .val (a.get 2) σ, (some 5), fun _ => some true⟩,
  ⟨fun a σ => fload (some 4) (a.get 0) σ, (some 6), fun _ => some true⟩,
  ⟨fun a σ => .enter 62 [(a.get 6)] σ, (some 7), fun _ => some true⟩,
  ⟨fun a σ => fbuild (fun i => nth [(0, 1), (1, 1)] i) [(.int .i64 0), (.int .i64 0)] [(0, (a.get 5)), (1, (a.get 7))] σ, (some 8), fun _ => some true⟩,
  ⟨fun a σ => fstore 2 (a.get 1) (a.get 8) σ, none, fun _ => some true⟩]
noncomputable def run61 (E : Env) (ro : Option Nat) (fn : FuncId) : RunF := (seqR (fops E ro r61_0) (seqR (fops E ro r61_1) (seqR (fops E ro r61_2) retR)))
theorem r61_0_go (E : Env) (ro : Option Nat) (a : FAct) (u : Option FrameMode) (σ : FState) : fops E ro r61_0 a u σ = fops E ro [⟨fun a σ => newCells [(.int .i64 0), (.int .i64 0)] 82 none σ, (some 1), fun _ => some true⟩] a u σ := rfl
theorem r61_1_go (E : Env) (ro : Option Nat) (a : FAct) (u : Option FrameMode) (σ : FState) : fops E ro r61_1 a u σ = fops E ro [⟨fun a σ => fload (some 4) (a.get 0) σ, (some 3), fun _ => some true⟩,
  ⟨fun a σ => .enter 55 [(a.get 3)] σ, (some 4), fun _ => some true⟩,
  ⟨fun a σ => .val (a.get 4) σ, (some 2), fun _ => some true⟩] a u σ := rfl
theorem r61_2_go (E : Env) (ro : Option Nat) (a : FAct) (u : Option FrameMode) (σ : FState) : fops E ro r61_2 a u σ = fops E ro [⟨fun a σ => .val (a.get 2) σ, (some 5), fun _ => some true⟩,
  ⟨fun a σ => fload (some 4) (a.get 0) σ, (some 6), fun _ => some true⟩,
  ⟨fun a σ => .enter 62 [(a.get 6)] σ, (some 7), fun _ => some true⟩,
  ⟨fun a σ => fbuild (fun i => nth [(0, 1), (1, 1)] i) [(.int .i64 0), (.int .i64 0)] [(0, (a.get 5)), (1, (a.get 7))] σ, (some 8), fun _ => some true⟩,
  ⟨fun a σ => fstore 2 (a.get 1) (a.get 8) σ, none, fun _ => some true⟩] a u σ := rfl
theorem code61 (E : Env) (ro : Option Nat) (fn : FuncId) : code Tryz.prog nls (Tryz.f61.body.getD .skip) E ro fn = run61 E ro fn := by kernel_rfl
theorem enter61 (E : Env) (args : List Value) (u : Option FrameMode) (σ : FState) (hn : args.length ≤ (3 : Nat)) : fcall Tryz.prog nls E 61 args u σ = leaveR Tryz.prog E [.cell 1 82] (run61 E none 61 ⟨padTo undef 3 args, fun _ => undef, 3, 9, []⟩ u σ) := by
  rw [fcall_of (body := Tryz.f61.body.getD .skip) Tryz.func61 rfl E args u σ 3 9 (by kernel_rfl) rfl ⟨hn, by decide⟩, code61]
  rfl
/-! caracole/datum.limit -/
noncomputable def r69_0 : List COp := [⟨fun a σ => .val (a.get 0) σ, (some 2), fun _ => some true⟩,
  ⟨fun a σ => i_gtr Tryz.prog 3 (.tmp 2) (.const (.int .i64 2000)) (a.get 2) (.int .i64 2000) σ, (some 3), fun _ => some true⟩]
noncomputable def r69_1 : List COp := [⟨fun a σ => .enter 111 [(.int .i64 8)] σ, (some 4), fun _ => some true⟩]
noncomputable def run69 (E : Env) (ro : Option Nat) (fn : FuncId) : RunF := (seqR (fops E ro r69_0) (condR (fun a => (a.get 3)) (fops E ro r69_1) skipR))
theorem r69_0_go (E : Env) (ro : Option Nat) (a : FAct) (u : Option FrameMode) (σ : FState) : fops E ro r69_0 a u σ = fops E ro [⟨fun a σ => .val (a.get 0) σ, (some 2), fun _ => some true⟩,
  ⟨fun a σ => i_gtr Tryz.prog 3 (.tmp 2) (.const (.int .i64 2000)) (a.get 2) (.int .i64 2000) σ, (some 3), fun _ => some true⟩] a u σ := rfl
theorem r69_1_go (E : Env) (ro : Option Nat) (a : FAct) (u : Option FrameMode) (σ : FState) : fops E ro r69_1 a u σ = fops E ro [⟨fun a σ => .enter 111 [(.int .i64 8)] σ, (some 4), fun _ => some true⟩] a u σ := rfl
theorem code69 (E : Env) (ro : Option Nat) (fn : FuncId) : code Tryz.prog nls (Tryz.f69.body.getD .skip) E ro fn = run69 E ro fn := by kernel_rfl
theorem enter69 (E : Env) (args : List Value) (u : Option FrameMode) (σ : FState) (hn : args.length ≤ (2 : Nat)) : fcall Tryz.prog nls E 69 args u σ = leaveR Tryz.prog E [] (run69 E none 69 ⟨padTo undef 2 args, fun _ => undef, 2, 5, []⟩ u σ) := by
  rw [fcall_of (body := Tryz.f69.body.getD .skip) Tryz.func69 rfl E args u σ 2 5 (by kernel_rfl) rfl ⟨hn, by decide⟩, code69]
  rfl
/-! caracole/datum.valid -/
noncomputable def r55_0 : List COp := [⟨fun a σ => fbox 24 (a.get 0) σ, (some 1), fun _ => some true⟩,
  ⟨fun a σ => .val (.int .i64 0) σ, (some 2), fun _ => some true⟩]
noncomputable def r55_1 : List COp := [⟨fun a σ => .val (.map (some σ.next)) (σ.push (.map [] 0) none), (some 6), fun _ => some true⟩,
  ⟨fun a σ => fbuild (fun i => nth [(0, 1), (1, 1)] i) [(.int .i64 0), (.map none)] [(1, (a.get 6))] σ, (some 7), fun _ => some true⟩,
  ⟨fun a σ => newCells [(.int .i64 0), (.map none)] 122 none σ, (some 3), fun _ => some true⟩,
  ⟨fun a σ => fstore 2 (a.get 3) (a.get 7) σ, none, fun _ => some true⟩]
noncomputable def r55_2 : List COp := [⟨fun a σ => .val (.func (.func 101) #[(a.get 3)] #[]) σ, (some 8), fun _ => some true⟩,
  ⟨fun a σ => fbuild (fun i => nth [(0, 1)] i) [.nilFunc] [(0, (a.get 8))] σ, (some 9), fun _ => some true⟩,
  ⟨fun a σ => fload (some 4) (a.get 1) σ, (some 10), fun _ => some true⟩,
  ⟨fun a σ => .enter 102 [(a.get 9), (a.get 10)] σ, (some 11), fun _ => some true⟩]
noncomputable def r55_3 : List COp := [⟨fun a σ => newCells [(.int .i64 0), (.int .i64 0), (.string ⟨#[]⟩), (.slice none 0 0)] 24 none σ, (some 5), fun _ => some true⟩,
  ⟨fun a σ => fstore 4 (a.get 5) (a.get 13) σ, none, fun _ => some true⟩]
noncomputable def r55_4 : List COp := [⟨fun a σ => fload (some 4) (a.get 5) σ, (some 14), fun _ => some true⟩,
  ⟨fun a σ => .enter 103 [(a.get 14)] σ, (some 15), fun _ => some true⟩]
noncomputable def r55_5 : List COp := [⟨fun a σ => ffield 0 (a.get 3) σ, (some 16), fun _ => some true⟩,
  ⟨fun a σ => fload none (a.get 16) σ, (some 17), fun _ => some true⟩,
  ⟨fun a σ => i_add Tryz.prog 3 (.tmp 17) (.const (.int .i64 1)) (a.get 17) (.int .i64 1) σ, (some 18), fun _ => some true⟩,
  ⟨fun a σ => ffield 0 (a.get 3) σ, (some 19), fun _ => some true⟩,
  ⟨fun a σ => fstore 1 (a.get 19) (a.get 18) σ, none, fun _ => some true⟩]
noncomputable def c55_0a : Code := ((rangesOf (Tryz.f55.body.getD .skip)).getD 0 (.skip, .skip)).1
noncomputable def c55_0b : Code := ((rangesOf (Tryz.f55.body.getD .skip)).getD 0 (.skip, .skip)).2
noncomputable def r55_6 : List COp := [⟨fun a σ => ffield 0 (a.get 3) σ, (some 20), fun _ => some true⟩,
  ⟨fun a σ => fload none (a.get 20) σ, (some 21), fun _ => some true⟩,
  ⟨fun a σ => .enter 69 [(a.get 21)] σ, (some 22), fun _ => some true⟩]
noncomputable def r55_7 : List COp := [⟨fun a σ => ffield 0 (a.get 3) σ, (some 23), fun _ => some true⟩,
  ⟨fun a σ => fload none (a.get 23) σ, (some 24), fun _ => some true⟩,
  ⟨fun a σ => .val (a.get 24) σ, (some 2), fun _ => some true⟩]
noncomputable def run55 (E : Env) (ro : Option Nat) (fn : FuncId) : RunF := (seqR (fops E ro r55_0) (seqR (fops E ro r55_1) (seqR (seqR (fops E ro r55_2) (blockR 0 (frange E ro fn (.tmp 11) [12, 13] c55_0a c55_0b))) (seqR (fops E ro r55_6) (seqR (fops E ro r55_7) retR)))))
theorem r55_0_go (E : Env) (ro : Option Nat) (a : FAct) (u : Option FrameMode) (σ : FState) : fops E ro r55_0 a u σ = fops E ro [⟨fun a σ => fbox 24 (a.get 0) σ, (some 1), fun _ => some true⟩,
  ⟨fun a σ => .val (.int .i64 0) σ, (some 2), fun _ => some true⟩] a u σ := rfl
theorem r55_1_go (E : Env) (ro : Option Nat) (a : FAct) (u : Option FrameMode) (σ : FState) : fops E ro r55_1 a u σ = fops E ro [⟨fun a σ => .val (.map (some σ.next)) (σ.push (.map [] 0) none), (some 6), fun _ => some true⟩,
  ⟨fun a σ => fbuild (fun i => nth [(0, 1), (1, 1)] i) [(.int .i64 0), (.map none)] [(1, (a.get 6))] σ, (some 7), fun _ => some true⟩,
  ⟨fun a σ => newCells [(.int .i64 0), (.map none)] 122 none σ, (some 3), fun _ => some true⟩,
  ⟨fun a σ => fstore 2 (a.get 3) (a.get 7) σ, none, fun _ => some true⟩] a u σ := rfl
theorem r55_2_go (E : Env) (ro : Option Nat) (a : FAct) (u : Option FrameMode) (σ : FState) : fops E ro r55_2 a u σ = fops E ro [⟨fun a σ => .val (.func (.func 101) #[(a.get 3)] #[]) σ, (some 8), fun _ => some true⟩,
  ⟨fun a σ => fbuild (fun i => nth [(0, 1)] i) [.nilFunc] [(0, (a.get 8))] σ, (some 9), fun _ => some true⟩,
  ⟨fun a σ => fload (some 4) (a.get 1) σ, (some 10), fun _ => some true⟩,
  ⟨fun a σ => .enter 102 [(a.get 9), (a.get 10)] σ, (some 11), fun _ => some true⟩] a u σ := rfl
theorem r55_3_go (E : Env) (ro : Option Nat) (a : FAct) (u : Option FrameMode) (σ : FState) : fops E ro r55_3 a u σ = fops E ro [⟨fun a σ => newCells [(.int .i64 0), (.int .i64 0), (.string ⟨#[]⟩), (.slice none 0 0)] 24 none σ, (some 5), fun _ => some true⟩,
  ⟨fun a σ => fstore 4 (a.get 5) (a.get 13) σ, none, fun _ => some true⟩] a u σ := rfl
theorem r55_4_go (E : Env) (ro : Option Nat) (a : FAct) (u : Option FrameMode) (σ : FState) : fops E ro r55_4 a u σ = fops E ro [⟨fun a σ => fload (some 4) (a.get 5) σ, (some 14), fun _ => some true⟩,
  ⟨fun a σ => .enter 103 [(a.get 14)] σ, (some 15), fun _ => some true⟩] a u σ := rfl
theorem r55_5_go (E : Env) (ro : Option Nat) (a : FAct) (u : Option FrameMode) (σ : FState) : fops E ro r55_5 a u σ = fops E ro [⟨fun a σ => ffield 0 (a.get 3) σ, (some 16), fun _ => some true⟩,
  ⟨fun a σ => fload none (a.get 16) σ, (some 17), fun _ => some true⟩,
  ⟨fun a σ => i_add Tryz.prog 3 (.tmp 17) (.const (.int .i64 1)) (a.get 17) (.int .i64 1) σ, (some 18), fun _ => some true⟩,
  ⟨fun a σ => ffield 0 (a.get 3) σ, (some 19), fun _ => some true⟩,
  ⟨fun a σ => fstore 1 (a.get 19) (a.get 18) σ, none, fun _ => some true⟩] a u σ := rfl
theorem c55_0a_go (E : Env) (ro : Option Nat) (fn : FuncId) : code Tryz.prog nls c55_0a E ro fn = (fops E ro r55_3) := by kernel_rfl
theorem c55_0b_go (E : Env) (ro : Option Nat) (fn : FuncId) : code Tryz.prog nls c55_0b E ro fn = (blockR 1 (seqR (fops E ro r55_4) (fops E ro r55_5))) := by kernel_rfl
theorem r55_6_go (E : Env) (ro : Option Nat) (a : FAct) (u : Option FrameMode) (σ : FState) : fops E ro r55_6 a u σ = fops E ro [⟨fun a σ => ffield 0 (a.get 3) σ, (some 20), fun _ => some true⟩,
  ⟨fun a σ => fload none (a.get 20) σ, (some 21), fun _ => some true⟩,
  ⟨fun a σ => .enter 69 [(a.get 21)] σ, (some 22), fun _ => some true⟩] a u σ := rfl
theorem r55_7_go (E : Env) (ro : Option Nat) (a : FAct) (u : Option FrameMode) (σ : FState) : fops E ro r55_7 a u σ = fops E ro [⟨fun a σ => ffield 0 (a.get 3) σ, (some 23), fun _ => some true⟩,
  ⟨fun a σ => fload none (a.get 23) σ, (some 24), fun _ => some true⟩,
  ⟨fun a σ => .val (a.get 24) σ, (some 2), fun _ => some true⟩] a u σ := rfl
theorem code55 (E : Env) (ro : Option Nat) (fn : FuncId) : code Tryz.prog nls (Tryz.f55.body.getD .skip) E ro fn = run55 E ro fn := by kernel_rfl
theorem enter55 (E : Env) (args : List Value) (u : Option FrameMode) (σ : FState) (hn : args.length ≤ (6 : Nat)) : fcall Tryz.prog nls E 55 args u σ = leaveR Tryz.prog E [.tmp 2] (run55 E none 55 ⟨padTo undef 6 args, fun _ => undef, 6, 25, []⟩ u σ) := by
  rw [fcall_of (body := Tryz.f55.body.getD .skip) Tryz.func55 rfl E args u σ 6 25 (by kernel_rfl) rfl ⟨hn, by decide⟩, code55]
  rfl
/-! caracole/datum.deepest -/
noncomputable def r62_0 : List COp := [⟨fun a σ => fbox 24 (a.get 0) σ, (some 1), fun _ => some true⟩,
  ⟨fun a σ => .val (.int .i64 0) σ, (some 2), fun _ => some true⟩]
noncomputable def r62_1 : List COp := [⟨fun a σ => newCells [(.int .i64 0)] 3 none σ, (some 3), fun _ => some true⟩,
  ⟨fun a σ => fstore 1 (a.get 3) (.int .i64 0) σ, none, fun _ => some true⟩]
noncomputable def r62_2 : List COp := [⟨fun a σ => fload (some 4) (a.get 1) σ, (some 5), fun _ => some true⟩,
  ⟨fun a σ => .enter 107 [(a.get 5)] σ, (some 6), fun _ => some true⟩]
noncomputable def r62_3 : List COp := [⟨fun a σ => .val (a.get 7) σ, (some 4), fun _ => some true⟩]
noncomputable def r62_4 : List COp := [⟨fun a σ => fload none (a.get 3) σ, (some 9), fun _ => some true⟩,
  ⟨fun a σ => .val (a.get 4) σ, (some 10), fun _ => some true⟩,
  ⟨fun a σ => flenL (a.get 10) σ, (some 11), fun _ => some true⟩,
  ⟨fun a σ => i_add Tryz.prog 3 (.tmp 11) (.const (.int .i64 1)) (a.get 11) (.int .i64 1) σ, (some 12), fun _ => some true⟩,
  ⟨fun a σ => fun2 Tryz.prog Builtin.max2 (a.get 9) (a.get 12) σ, (some 13), fun _ => some true⟩,
  ⟨fun a σ => fstore 1 (a.get 3) (a.get 13) σ, none, fun _ => some true⟩]
noncomputable def c62_0a : Code := ((rangesOf (Tryz.f62.body.getD .skip)).getD 0 (.skip, .skip)).1
noncomputable def c62_0b : Code := ((rangesOf (Tryz.f62.body.getD .skip)).getD 0 (.skip, .skip)).2
noncomputable def r62_5 : List COp := [⟨fun a σ => fload none (a.get 3) σ, (some 14), fun _ => some true⟩,
  ⟨fun a σ => .val (a.get 14) σ, (some 2), fun _ => some true⟩]
noncomputable def run62 (E : Env) (ro : Option Nat) (fn : FuncId) : RunF := (seqR (fops E ro r62_0) (seqR (fops E ro r62_1) (seqR (seqR (fops E ro r62_2) (blockR 0 (frange E ro fn (.tmp 6) [7, 8] c62_0a c62_0b))) (seqR (fops E ro r62_5) retR))))
theorem r62_0_go (E : Env) (ro : Option Nat) (a : FAct) (u : Option FrameMode) (σ : FState) : fops E ro r62_0 a u σ = fops E ro [⟨fun a σ => fbox 24 (a.get 0) σ, (some 1), fun _ => some true⟩,
  ⟨fun a σ => .val (.int .i64 0) σ, (some 2), fun _ => some true⟩] a u σ := rfl
theorem r62_1_go (E : Env) (ro : Option Nat) (a : FAct) (u : Option FrameMode) (σ : FState) : fops E ro r62_1 a u σ = fops E ro [⟨fun a σ => newCells [(.int .i64 0)] 3 none σ, (some 3), fun _ => some true⟩,
  ⟨fun a σ => fstore 1 (a.get 3) (.int .i64 0) σ, none, fun _ => some true⟩] a u σ := rfl
theorem r62_2_go (E : Env) (ro : Option Nat) (a : FAct) (u : Option FrameMode) (σ : FState) : fops E ro r62_2 a u σ = fops E ro [⟨fun a σ => fload (some 4) (a.get 1) σ, (some 5), fun _ => some true⟩,
  ⟨fun a σ => .enter 107 [(a.get 5)] σ, (some 6), fun _ => some true⟩] a u σ := rfl
theorem r62_3_go (E : Env) (ro : Option Nat) (a : FAct) (u : Option FrameMode) (σ : FState) : fops E ro r62_3 a u σ = fops E ro [⟨fun a σ => .val (a.get 7) σ, (some 4), fun _ => some true⟩] a u σ := rfl
theorem r62_4_go (E : Env) (ro : Option Nat) (a : FAct) (u : Option FrameMode) (σ : FState) : fops E ro r62_4 a u σ = fops E ro [⟨fun a σ => fload none (a.get 3) σ, (some 9), fun _ => some true⟩,
  ⟨fun a σ => .val (a.get 4) σ, (some 10), fun _ => some true⟩,
  ⟨fun a σ => flenL (a.get 10) σ, (some 11), fun _ => some true⟩,
  ⟨fun a σ => i_add Tryz.prog 3 (.tmp 11) (.const (.int .i64 1)) (a.get 11) (.int .i64 1) σ, (some 12), fun _ => some true⟩,
  ⟨fun a σ => fun2 Tryz.prog Builtin.max2 (a.get 9) (a.get 12) σ, (some 13), fun _ => some true⟩,
  ⟨fun a σ => fstore 1 (a.get 3) (a.get 13) σ, none, fun _ => some true⟩] a u σ := rfl
theorem c62_0a_go (E : Env) (ro : Option Nat) (fn : FuncId) : code Tryz.prog nls c62_0a E ro fn = (fops E ro r62_3) := by kernel_rfl
theorem c62_0b_go (E : Env) (ro : Option Nat) (fn : FuncId) : code Tryz.prog nls c62_0b E ro fn = (blockR 1 (fops E ro r62_4)) := by kernel_rfl
theorem r62_5_go (E : Env) (ro : Option Nat) (a : FAct) (u : Option FrameMode) (σ : FState) : fops E ro r62_5 a u σ = fops E ro [⟨fun a σ => fload none (a.get 3) σ, (some 14), fun _ => some true⟩,
  ⟨fun a σ => .val (a.get 14) σ, (some 2), fun _ => some true⟩] a u σ := rfl
theorem code62 (E : Env) (ro : Option Nat) (fn : FuncId) : code Tryz.prog nls (Tryz.f62.body.getD .skip) E ro fn = run62 E ro fn := by kernel_rfl
theorem enter62 (E : Env) (args : List Value) (u : Option FrameMode) (σ : FState) (hn : args.length ≤ (5 : Nat)) : fcall Tryz.prog nls E 62 args u σ = leaveR Tryz.prog E [.tmp 2] (run62 E none 62 ⟨padTo undef 5 args, fun _ => undef, 5, 15, []⟩ u σ) := by
  rw [fcall_of (body := Tryz.f62.body.getD .skip) Tryz.func62 rfl E args u σ 5 15 (by kernel_rfl) rfl ⟨hn, by decide⟩, code62]
  rfl
/-! (*caracole/datum.census).enter -/
noncomputable def r101_0 : List COp := [⟨fun a σ => .val (.bool false) σ, (some 4), fun _ => some true⟩]
noncomputable def r101_1 : List COp := [⟨fun a σ => .val (a.get 1) σ, (some 6), fun _ => some true⟩,
  ⟨fun a σ => flenL (a.get 6) σ, (some 7), fun _ => some true⟩,
  ⟨fun a σ => i_eql Tryz.prog 3 (.tmp 7) (.const (.int .i64 0)) (a.get 7) (.int .i64 0) σ, (some 8), fun _ => some true⟩,
  ⟨fun a σ => .val (a.get 8) σ, (some 9), fun _ => some true⟩,
  ⟨fun a σ => .val (a.get 0) σ, (some 10), fun a => gd (a.get 9) false⟩,
  ⟨fun a σ => fnilCheck (a.get 10) σ, (some 11), fun a => gd (a.get 9) false⟩,
  ⟨fun a σ => ffield 0 (a.get 11) σ, (some 12), fun a => gd (a.get 9) false⟩,
  ⟨fun a σ => fload none (a.get 12) σ, (some 13), fun a => gd (a.get 9) false⟩,
  ⟨fun a σ => i_leq Tryz.prog 3 (.tmp 13) (.const (.int .i64 2000)) (a.get 13) (.int .i64 2000) σ, (some 14), fun a => gd (a.get 9) false⟩,
  ⟨fun a σ => fpick (a.get 9) (.bool true) (a.get 14) σ, (some 15), fun _ => some true⟩]
noncomputable def r101_2 : List COp := [⟨fun a σ => .val (.bool true) σ, (some 4), fun _ => some true⟩]
noncomputable def r101_3 : List COp := [⟨fun a σ => .val (a.get 1) σ, (some 16), fun _ => some true⟩,
  ⟨fun a σ => findex (none, 4) (a.get 16) (.int .i64 0) σ, (some 17), fun _ => some true⟩,
  ⟨fun a σ => .val (a.get 1) σ, (some 18), fun _ => some true⟩,
  ⟨fun a σ => flenL (a.get 18) σ, (some 19), fun _ => some true⟩,
  ⟨fun a σ => fbuild (fun i => nth [(0, 1), (1, 1)] i) [(.pointer none), (.int .i64 0)] [(0, (a.get 17)), (1, (a.get 19))] σ, (some 20), fun _ => some true⟩,
  ⟨fun a σ => newCells [(.pointer none), (.int .i64 0)] 170 none σ, (some 5), fun _ => some true⟩,
  ⟨fun a σ => fstore 2 (a.get 5) (a.get 20) σ, none, fun _ => some true⟩]
noncomputable def r101_4 : List DOp := [⟨fun a σ => .val (a.get 0) σ, (some 21), fun _ => some true, (some 0), false⟩,
  ⟨fun a σ => fnilCheck (a.get 21) σ, (some 22), fun _ => some true, (some 0), false⟩,
  ⟨fun a σ => ffield 1 (a.get 22) σ, (some 23), fun _ => some true, (some 0), false⟩,
  ⟨fun a σ => fload none (a.get 23) σ, (some 24), fun _ => some true, (some 0), false⟩,
  ⟨fun a σ => fload (some 2) (a.get 5) σ, (some 25), fun _ => some true, (some 0), false⟩,
  ⟨fun a σ => (cop Tryz.prog (.lookup 120 (.tmp 24) (.tmp 25) false)).un a σ, (some 26), fun _ => some true, (some 0), false⟩]
noncomputable def r101_5 : List COp := [⟨fun a σ => .val (.bool false) σ, (some 4), fun _ => some true⟩]
noncomputable def r101_6 : List DOp := [⟨fun a σ => .val (a.get 0) σ, (some 27), fun _ => some true, (some 0), false⟩,
  ⟨fun a σ => fnilCheck (a.get 27) σ, (some 28), fun _ => some true, (some 0), false⟩,
  ⟨fun a σ => ffield 1 (a.get 28) σ, (some 29), fun _ => some true, (some 0), false⟩,
  ⟨fun a σ => fload none (a.get 29) σ, (some 30), fun _ => some true, (some 0), false⟩,
  ⟨fun a σ => fload (some 2) (a.get 5) σ, (some 31), fun _ => some true, (some 0), false⟩,
  ⟨fun a σ => (cop Tryz.prog (.mapUpdate 120 (.tmp 30) (.tmp 31) (.const (.bool true)))).un a σ, none, fun _ => some true, none, true⟩]
noncomputable def r101_7 : List COp := [⟨fun a σ => .val (.bool true) σ, (some 4), fun _ => some true⟩]
noncomputable def run101 (E : Env) (ro : Option Nat) (fn : FuncId) : RunF := (seqR (fops E ro r101_0) (seqR (seqR (fops E ro r101_1) (condR (fun a => (a.get 15)) (seqR (fops E ro r101_2) retR) skipR)) (seqR (fops E ro r101_3) (seqR (seqR (drawR E ro r101_4) (condR (fun a => (a.get 26)) (seqR (fops E ro r101_5) retR) skipR)) (seqR (drawR E ro r101_6) (seqR (fops E ro r101_7) retR))))))
theorem r101_0_go (E : Env) (ro : Option Nat) (a : FAct) (u : Option FrameMode) (σ : FState) : fops E ro r101_0 a u σ = fops E ro [⟨fun a σ => .val (.bool false) σ, (some 4), fun _ => some true⟩] a u σ := rfl
theorem r101_1_go (E : Env) (ro : Option Nat) (a : FAct) (u : Option FrameMode) (σ : FState) : fops E ro r101_1 a u σ = fops E ro [⟨fun a σ => .val (a.get 1) σ, (some 6), fun _ => some true⟩,
  ⟨fun a σ => flenL (a.get 6) σ, (some 7), fun _ => some true⟩,
  ⟨fun a σ => i_eql Tryz.prog 3 (.tmp 7) (.const (.int .i64 0)) (a.get 7) (.int .i64 0) σ, (some 8), fun _ => some true⟩,
  ⟨fun a σ => .val (a.get 8) σ, (some 9), fun _ => some true⟩,
  ⟨fun a σ => .val (a.get 0) σ, (some 10), fun a => gd (a.get 9) false⟩,
  ⟨fun a σ => fnilCheck (a.get 10) σ, (some 11), fun a => gd (a.get 9) false⟩,
  ⟨fun a σ => ffield 0 (a.get 11) σ, (some 12), fun a => gd (a.get 9) false⟩,
  ⟨fun a σ => fload none (a.get 12) σ, (some 13), fun a => gd (a.get 9) false⟩,
  ⟨fun a σ => i_leq Tryz.prog 3 (.tmp 13) (.const (.int .i64 2000)) (a.get 13) (.int .i64 2000) σ, (some 14), fun a => gd (a.get 9) false⟩,
  ⟨fun a σ => fpick (a.get 9) (.bool true) (a.get 14) σ, (some 15), fun _ => some true⟩] a u σ := rfl
theorem r101_2_go (E : Env) (ro : Option Nat) (a : FAct) (u : Option FrameMode) (σ : FState) : fops E ro r101_2 a u σ = fops E ro [⟨fun a σ => .val (.bool true) σ, (some 4), fun _ => some true⟩] a u σ := rfl
theorem r101_3_go (E : Env) (ro : Option Nat) (a : FAct) (u : Option FrameMode) (σ : FState) : fops E ro r101_3 a u σ = fops E ro [⟨fun a σ => .val (a.get 1) σ, (some 16), fun _ => some true⟩,
  ⟨fun a σ => findex (none, 4) (a.get 16) (.int .i64 0) σ, (some 17), fun _ => some true⟩,
  ⟨fun a σ => .val (a.get 1) σ, (some 18), fun _ => some true⟩,
  ⟨fun a σ => flenL (a.get 18) σ, (some 19), fun _ => some true⟩,
  ⟨fun a σ => fbuild (fun i => nth [(0, 1), (1, 1)] i) [(.pointer none), (.int .i64 0)] [(0, (a.get 17)), (1, (a.get 19))] σ, (some 20), fun _ => some true⟩,
  ⟨fun a σ => newCells [(.pointer none), (.int .i64 0)] 170 none σ, (some 5), fun _ => some true⟩,
  ⟨fun a σ => fstore 2 (a.get 5) (a.get 20) σ, none, fun _ => some true⟩] a u σ := rfl
theorem r101_4_go (E : Env) (ro : Option Nat) (last : List Nat → RunF) (cl : List Nat) (a : FAct) (u : Option FrameMode) (σ : FState) : fdraw E ro last r101_4 cl a u σ = fdraw E ro last [⟨fun a σ => .val (a.get 0) σ, (some 21), fun _ => some true, (some 0), false⟩,
  ⟨fun a σ => fnilCheck (a.get 21) σ, (some 22), fun _ => some true, (some 0), false⟩,
  ⟨fun a σ => ffield 1 (a.get 22) σ, (some 23), fun _ => some true, (some 0), false⟩,
  ⟨fun a σ => fload none (a.get 23) σ, (some 24), fun _ => some true, (some 0), false⟩,
  ⟨fun a σ => fload (some 2) (a.get 5) σ, (some 25), fun _ => some true, (some 0), false⟩,
  ⟨fun a σ => (cop Tryz.prog (.lookup 120 (.tmp 24) (.tmp 25) false)).un a σ, (some 26), fun _ => some true, (some 0), false⟩] cl a u σ := rfl
theorem r101_5_go (E : Env) (ro : Option Nat) (a : FAct) (u : Option FrameMode) (σ : FState) : fops E ro r101_5 a u σ = fops E ro [⟨fun a σ => .val (.bool false) σ, (some 4), fun _ => some true⟩] a u σ := rfl
theorem r101_6_go (E : Env) (ro : Option Nat) (last : List Nat → RunF) (cl : List Nat) (a : FAct) (u : Option FrameMode) (σ : FState) : fdraw E ro last r101_6 cl a u σ = fdraw E ro last [⟨fun a σ => .val (a.get 0) σ, (some 27), fun _ => some true, (some 0), false⟩,
  ⟨fun a σ => fnilCheck (a.get 27) σ, (some 28), fun _ => some true, (some 0), false⟩,
  ⟨fun a σ => ffield 1 (a.get 28) σ, (some 29), fun _ => some true, (some 0), false⟩,
  ⟨fun a σ => fload none (a.get 29) σ, (some 30), fun _ => some true, (some 0), false⟩,
  ⟨fun a σ => fload (some 2) (a.get 5) σ, (some 31), fun _ => some true, (some 0), false⟩,
  ⟨fun a σ => (cop Tryz.prog (.mapUpdate 120 (.tmp 30) (.tmp 31) (.const (.bool true)))).un a σ, none, fun _ => some true, none, true⟩] cl a u σ := rfl
theorem r101_7_go (E : Env) (ro : Option Nat) (a : FAct) (u : Option FrameMode) (σ : FState) : fops E ro r101_7 a u σ = fops E ro [⟨fun a σ => .val (.bool true) σ, (some 4), fun _ => some true⟩] a u σ := rfl
theorem code101 (E : Env) (ro : Option Nat) (fn : FuncId) : code Tryz.prog nls (Tryz.f101.body.getD .skip) E ro fn = run101 E ro fn := by kernel_rfl
theorem enter101 (E : Env) (args : List Value) (u : Option FrameMode) (σ : FState) (hn : args.length ≤ (6 : Nat)) : fcall Tryz.prog nls E 101 args u σ = leaveR Tryz.prog E [.tmp 4] (run101 E none 101 ⟨padTo undef 6 args, fun _ => undef, 6, 32, []⟩ u σ) := by
  rw [fcall_of (body := Tryz.f101.body.getD .skip) Tryz.func101 rfl E args u σ 6 32 (by kernel_rfl) rfl ⟨hn, by decide⟩, code101]
  rfl
/-! (caracole/datum.walker).walk -/
noncomputable def r102_0 : List COp := [⟨fun a σ => fbox 127 (a.get 0) σ, (some 2), fun _ => some true⟩,
  ⟨fun a σ => fbox 24 (a.get 1) σ, (some 3), fun _ => some true⟩,
  ⟨fun a σ => .val .nilFunc σ, (some 4), fun _ => some true⟩]
noncomputable def r102_1 : List COp := [⟨fun a σ => .val (.func (.func 127) #[] #[(a.get 3), (a.get 2)]) σ, (some 5), fun _ => some true⟩,
  ⟨fun a σ => .val (a.get 5) σ, (some 4), fun _ => some true⟩]
noncomputable def run102 (E : Env) (ro : Option Nat) (fn : FuncId) : RunF := (seqR (fops E ro r102_0) (seqR (fops E ro r102_1) retR))
theorem r102_0_go (E : Env) (ro : Option Nat) (a : FAct) (u : Option FrameMode) (σ : FState) : fops E ro r102_0 a u σ = fops E ro [⟨fun a σ => fbox 127 (a.get 0) σ, (some 2), fun _ => some true⟩,
  ⟨fun a σ => fbox 24 (a.get 1) σ, (some 3), fun _ => some true⟩,
  ⟨fun a σ => .val .nilFunc σ, (some 4), fun _ => some true⟩] a u σ := rfl
theorem r102_1_go (E : Env) (ro : Option Nat) (a : FAct) (u : Option FrameMode) (σ : FState) : fops E ro r102_1 a u σ = fops E ro [⟨fun a σ => .val (.func (.func 127) #[] #[(a.get 3), (a.get 2)]) σ, (some 5), fun _ => some true⟩,
  ⟨fun a σ => .val (a.get 5) σ, (some 4), fun _ => some true⟩] a u σ := rfl
theorem code102 (E : Env) (ro : Option Nat) (fn : FuncId) : code Tryz.prog nls (Tryz.f102.body.getD .skip) E ro fn = run102 E ro fn := by kernel_rfl
theorem enter102 (E : Env) (args : List Value) (u : Option FrameMode) (σ : FState) (hn : args.length ≤ (4 : Nat)) : fcall Tryz.prog nls E 102 args u σ = leaveR Tryz.prog E [.tmp 4] (run102 E none 102 ⟨padTo undef 4 args, fun _ => undef, 4, 6, []⟩ u σ) := by
  rw [fcall_of (body := Tryz.f102.body.getD .skip) Tryz.func102 rfl E args u σ 4 6 (by kernel_rfl) rfl ⟨hn, by decide⟩, code102]
  rfl
/-! (caracole/datum.walker).walk$1 -/
noncomputable def r127_0 : List COp := [⟨fun a σ => .val (a.get 0) σ, (some 8), fun _ => some true⟩,
  ⟨fun a σ => fload (some 4) (a.get 1) σ, (some 9), fun _ => some true⟩,
  ⟨fun a σ => fcallV (a.get 8) [(.slice none 0 0), (a.get 9)] σ, (some 10), fun _ => some true⟩,
  ⟨fun a σ => fun1 Tryz.prog (Op.unary .not) (a.get 10) σ, (some 11), fun _ => some true⟩]
noncomputable def r127_1 : List COp := [⟨fun a σ => fload (some 1) (a.get 2) σ, (some 12), fun _ => some true⟩,
  ⟨fun a σ => fload (some 4) (a.get 1) σ, (some 13), fun _ => some true⟩,
  ⟨fun a σ => .enter 128 [(a.get 12), (a.get 13)] σ, (some 14), fun _ => some true⟩,
  ⟨fun a σ => fbuildSlice 22 1 1 [(.slice none 0 0)] [(0, (a.get 14))] σ, (some 15), fun _ => some true⟩,
  ⟨fun a σ => .val (a.get 15) σ, (some 4), fun _ => some true⟩]
noncomputable def r127_2 : List COp := [⟨fun a σ => fbuildSlice 3 1 1 [(.int .i64 0)] [(0, (.int .i64 0))] σ, (some 16), fun _ => some true⟩,
  ⟨fun a σ => .val (a.get 16) σ, (some 5), fun _ => some true⟩]
noncomputable def r127_3 : List COp := [⟨fun a σ => .val (a.get 4) σ, (some 17), fun _ => some true⟩,
  ⟨fun a σ => flenL (a.get 17) σ, (some 18), fun _ => some true⟩,
  ⟨fun a σ => i_gtr Tryz.prog 3 (.tmp 18) (.const (.int .i64 0)) (a.get 18) (.int .i64 0) σ, (some 19), fun _ => some true⟩]
noncomputable def r127_4 : List COp := [⟨fun a σ => .val (a.get 5) σ, (some 20), fun _ => some true⟩,
  ⟨fun a σ => flenL (a.get 20) σ, (some 21), fun _ => some true⟩,
  ⟨fun a σ => .val (a.get 21) σ, (some 6), fun _ => some true⟩]
noncomputable def r127_5 : List DOp := [⟨fun a σ => .val (a.get 5) σ, (some 22), fun _ => some true, (some 0), false⟩,
  ⟨fun a σ => .val (a.get 6) σ, (some 23), fun _ => some true, (some 0), false⟩,
  ⟨fun a σ => i_sub Tryz.prog 3 (.tmp 23) (.const (.int .i64 1)) (a.get 23) (.int .i64 1) σ, (some 24), fun _ => some true, (some 0), false⟩,
  ⟨fun a σ => findex (none, 1) (a.get 22) (a.get 24) σ, (some 25), fun _ => some true, (some 0), false⟩,
  ⟨fun a σ => fload none (a.get 25) σ, (some 26), fun _ => some true, (some 0), false⟩,
  ⟨fun a σ => .val (a.get 4) σ, (some 27), fun _ => some true, (some 0), false⟩,
  ⟨fun a σ => .val (a.get 6) σ, (some 28), fun _ => some true, (some 0), false⟩,
  ⟨fun a σ => i_sub Tryz.prog 3 (.tmp 28) (.const (.int .i64 1)) (a.get 28) (.int .i64 1) σ, (some 29), fun _ => some true, (some 0), false⟩,
  ⟨fun a σ => findex (none, 1) (a.get 27) (a.get 29) σ, (some 30), fun _ => some true, (some 0), false⟩,
  ⟨fun a σ => fload none (a.get 30) σ, (some 31), fun _ => some true, (some 0), false⟩,
  ⟨fun a σ => flenL (a.get 31) σ, (some 32), fun _ => some true, (some 0), false⟩,
  ⟨fun a σ => i_eql Tryz.prog 3 (.tmp 26) (.tmp 32) (a.get 26) (a.get 32) σ, (some 33), fun _ => some true, (some 0), false⟩]
noncomputable def r127_6 : List DOp := [⟨fun a σ => .val (a.get 4) σ, (some 34), fun _ => some true, (some 0), false⟩,
  ⟨fun a σ => .val (a.get 6) σ, (some 35), fun _ => some true, (some 0), false⟩,
  ⟨fun a σ => i_sub Tryz.prog 3 (.tmp 35) (.const (.int .i64 1)) (a.get 35) (.int .i64 1) σ, (some 36), fun _ => some true, (some 0), false⟩,
  ⟨fun a σ => fslice Tryz.prog 172 (a.get 34) none (some (a.get 36)) none σ, (some 37), fun _ => some true, (some 0), false⟩,
  ⟨fun a σ => .val (a.get 5) σ, (some 38), fun _ => some true, (some 0), false⟩,
  ⟨fun a σ => .val (a.get 6) σ, (some 39), fun _ => some true, (some 0), false⟩,
  ⟨fun a σ => i_sub Tryz.prog 3 (.tmp 39) (.const (.int .i64 1)) (a.get 39) (.int .i64 1) σ, (some 40), fun _ => some true, (some 0), false⟩,
  ⟨fun a σ => fslice Tryz.prog 47 (a.get 38) none (some (a.get 40)) none σ, (some 41), fun _ => some true, (some 0), false⟩,
  ⟨fun a σ => .val (a.get 37) σ, (some 4), fun _ => some true, (some 0), false⟩,
  ⟨fun a σ => .val (a.get 41) σ, (some 5), fun _ => some true, (some 0), false⟩]
noncomputable def r127_7 : List COp := [⟨fun a σ => .val (a.get 6) σ, (some 42), fun _ => some true⟩,
  ⟨fun a σ => i_gtr Tryz.prog 3 (.tmp 42) (.const (.int .i64 1)) (a.get 42) (.int .i64 1) σ, (some 43), fun _ => some true⟩]
noncomputable def r127_8 : List COp := [⟨fun a σ => .val (a.get 5) σ, (some 44), fun _ => some true⟩,
  ⟨fun a σ => .val (a.get 6) σ, (some 45), fun _ => some true⟩,
  ⟨fun a σ => i_sub Tryz.prog 3 (.tmp 45) (.const (.int .i64 2)) (a.get 45) (.int .i64 2) σ, (some 46), fun _ => some true⟩,
  ⟨fun a σ => findex (none, 1) (a.get 44) (a.get 46) σ, (some 47), fun _ => some true⟩,
  ⟨fun a σ => fload none (a.get 47) σ, (some 48), fun _ => some true⟩,
  ⟨fun a σ => i_add Tryz.prog 3 (.tmp 48) (.const (.int .i64 1)) (a.get 48) (.int .i64 1) σ, (some 49), fun _ => some true⟩,
  ⟨fun a σ => findex (none, 1) (a.get 44) (a.get 46) σ, (some 50), fun _ => some true⟩,
  ⟨fun a σ => fstore 1 (a.get 50) (a.get 49) σ, none, fun _ => some true⟩]
noncomputable def r127_9 : List DOp := [⟨fun a σ => .val (a.get 4) σ, (some 51), fun _ => some true, (some 0), false⟩,
  ⟨fun a σ => .val (a.get 6) σ, (some 52), fun _ => some true, (some 0), false⟩,
  ⟨fun a σ => i_sub Tryz.prog 3 (.tmp 52) (.const (.int .i64 1)) (a.get 52) (.int .i64 1) σ, (some 53), fun _ => some true, (some 0), false⟩,
  ⟨fun a σ => findex (none, 1) (a.get 51) (a.get 53) σ, (some 54), fun _ => some true, (some 0), false⟩,
  ⟨fun a σ => fload none (a.get 54) σ, (some 55), fun _ => some true, (some 0), false⟩,
  ⟨fun a σ => .val (a.get 5) σ, (some 56), fun _ => some true, (some 0), false⟩,
  ⟨fun a σ => .val (a.get 6) σ, (some 57), fun _ => some true, (some 0), false⟩,
  ⟨fun a σ => i_sub Tryz.prog 3 (.tmp 57) (.const (.int .i64 1)) (a.get 57) (.int .i64 1) σ, (some 58), fun _ => some true, (some 0), false⟩,
  ⟨fun a σ => findex (none, 1) (a.get 56) (a.get 58) σ, (some 59), fun _ => some true, (some 0), false⟩,
  ⟨fun a σ => fload none (a.get 59) σ, (some 60), fun _ => some true, (some 0), false⟩,
  ⟨fun a σ => findex (none, 4) (a.get 55) (a.get 60) σ, (some 61), fun _ => some true, (some 0), false⟩,
  ⟨fun a σ => fload (some 4) (a.get 61) σ, (some 62), fun _ => some true, (some 0), false⟩,
  ⟨fun a σ => newCells [(.int .i64 0), (.int .i64 0), (.string ⟨#[]⟩), (.slice none 0 0)] 24 none σ, (some 7), fun _ => some true, (some 0), false⟩,
  ⟨fun a σ => fstore 4 (a.get 7) (a.get 62) σ, none, fun _ => some true, none, true⟩]
noncomputable def r127_10 : List DOp := [⟨fun a σ => .val (a.get 0) σ, (some 63), fun _ => some true, (some 0), false⟩,
  ⟨fun a σ => .val (a.get 5) σ, (some 64), fun _ => some true, (some 0), false⟩,
  ⟨fun a σ => .val (a.get 6) σ, (some 65), fun _ => some true, (some 0), false⟩,
  ⟨fun a σ => .val (a.get 6) σ, (some 66), fun _ => some true, (some 0), false⟩,
  ⟨fun a σ => fslice Tryz.prog 47 (a.get 64) none (some (a.get 65)) (some (a.get 66)) σ, (some 67), fun _ => some true, (some 0), false⟩,
  ⟨fun a σ => fload (some 4) (a.get 7) σ, (some 68), fun _ => some true, (some 0), false⟩,
  ⟨fun a σ => fcallV (a.get 63) [(a.get 67), (a.get 68)] σ, (some 69), fun _ => some true, none, true⟩,
  ⟨fun a σ => fun1 Tryz.prog (Op.unary .not) (a.get 69) σ, (some 70), fun _ => some true, (some 1), false⟩]
noncomputable def r127_11 : List COp := [⟨fun a σ => .val (a.get 4) σ, (some 71), fun _ => some true⟩,
  ⟨fun a σ => fload (some 1) (a.get 2) σ, (some 72), fun _ => some true⟩,
  ⟨fun a σ => fload (some 4) (a.get 7) σ, (some 73), fun _ => some true⟩,
  ⟨fun a σ => .enter 128 [(a.get 72), (a.get 73)] σ, (some 74), fun _ => some true⟩,
  ⟨fun a σ => fbuildSlice 22 1 1 [(.slice none 0 0)] [(0, (a.get 74))] σ, (some 75), fun _ => some true⟩,
  ⟨fun a σ => fappend 22 1 24 (a.get 71) (a.get 75) σ, (some 76), fun _ => some true⟩,
  ⟨fun a σ => .val (a.get 76) σ, (some 4), fun _ => some true⟩]
noncomputable def r127_12 : List COp := [⟨fun a σ => .val (a.get 5) σ, (some 77), fun _ => some true⟩,
  ⟨fun a σ => fbuildSlice 3 1 1 [(.int .i64 0)] [(0, (.int .i64 0))] σ, (some 78), fun _ => some true⟩,
  ⟨fun a σ => fappend 3 1 8 (a.get 77) (a.get 78) σ, (some 79), fun _ => some true⟩,
  ⟨fun a σ => .val (a.get 79) σ, (some 5), fun _ => some true⟩]
noncomputable def l127_0 (E : Env) (ro : Option Nat) (fn : FuncId) : RunF := (seqR (seqR (fops E ro r127_3) (condR (fun a => (a.get 19)) skipR (exitR 0))) (blockR 1 (seqR (fops E ro r127_4) (seqR (seqR (drawR E ro r127_5) (condR (fun a => (a.get 33)) (seqR (drawR E ro r127_6) (seqR (seqR (fops E ro r127_7) (condR (fun a => (a.get 43)) (fops E ro r127_8) skipR)) (exitR 1))) skipR)) (seqR (drawR E ro r127_9) (seqR (seqR (drawR E ro r127_10) (condR (fun a => (a.get 70)) retR skipR)) (seqR (fops E ro r127_11) (fops E ro r127_12))))))))
noncomputable def run127 (E : Env) (ro : Option Nat) (fn : FuncId) : RunF := (seqR (seqR (fops E ro r127_0) (condR (fun a => (a.get 11)) retR skipR)) (seqR (fops E ro r127_1) (seqR (fops E ro r127_2) (blockR 0 (loopR (keepOf nls fn) (l127_0 E ro fn))))))
theorem r127_0_go (E : Env) (ro : Option Nat) (a : FAct) (u : Option FrameMode) (σ : FState) : fops E ro r127_0 a u σ = fops E ro [⟨fun a σ => .val (a.get 0) σ, (some 8), fun _ => some true⟩,
  ⟨fun a σ => fload (some 4) (a.get 1) σ, (some 9), fun _ => some true⟩,
  ⟨fun a σ => fcallV (a.get 8) [(.slice none 0 0), (a.get 9)] σ, (some 10), fun _ => some true⟩,
  ⟨fun a σ => fun1 Tryz.prog (Op.unary .not) (a.get 10) σ, (some 11), fun _ => some true⟩] a u σ := rfl
theorem r127_1_go (E : Env) (ro : Option Nat) (a : FAct) (u : Option FrameMode) (σ : FState) : fops E ro r127_1 a u σ = fops E ro [⟨fun a σ => fload (some 1) (a.get 2) σ, (some 12), fun _ => some true⟩,
  ⟨fun a σ => fload (some 4) (a.get 1) σ, (some 13), fun _ => some true⟩,
  ⟨fun a σ => .enter 128 [(a.get 12), (a.get 13)] σ, (some 14), fun _ => some true⟩,
  ⟨fun a σ => fbuildSlice 22 1 1 [(.slice none 0 0)] [(0, (a.get 14))] σ, (some 15), fun _ => some true⟩,
  ⟨fun a σ => .val (a.get 15) σ, (some 4), fun _ => some true⟩] a u σ := rfl
theorem r127_2_go (E : Env) (ro : Option Nat) (a : FAct) (u : Option FrameMode) (σ : FState) : fops E ro r127_2 a u σ = fops E ro [⟨fun a σ => fbuildSlice 3 1 1 [(.int .i64 0)] [(0, (.int .i64 0))] σ, (some 16), fun _ => some true⟩,
  ⟨fun a σ => .val (a.get 16) σ, (some 5), fun _ => some true⟩] a u σ := rfl
theorem r127_3_go (E : Env) (ro : Option Nat) (a : FAct) (u : Option FrameMode) (σ : FState) : fops E ro r127_3 a u σ = fops E ro [⟨fun a σ => .val (a.get 4) σ, (some 17), fun _ => some true⟩,
  ⟨fun a σ => flenL (a.get 17) σ, (some 18), fun _ => some true⟩,
  ⟨fun a σ => i_gtr Tryz.prog 3 (.tmp 18) (.const (.int .i64 0)) (a.get 18) (.int .i64 0) σ, (some 19), fun _ => some true⟩] a u σ := rfl
theorem r127_4_go (E : Env) (ro : Option Nat) (a : FAct) (u : Option FrameMode) (σ : FState) : fops E ro r127_4 a u σ = fops E ro [⟨fun a σ => .val (a.get 5) σ, (some 20), fun _ => some true⟩,
  ⟨fun a σ => flenL (a.get 20) σ, (some 21), fun _ => some true⟩,
  ⟨fun a σ => .val (a.get 21) σ, (some 6), fun _ => some true⟩] a u σ := rfl
theorem r127_5_go (E : Env) (ro : Option Nat) (last : List Nat → RunF) (cl : List Nat) (a : FAct) (u : Option FrameMode) (σ : FState) : fdraw E ro last r127_5 cl a u σ = fdraw E ro last [⟨fun a σ => .val (a.get 5) σ, (some 22), fun _ => some true, (some 0), false⟩,
  ⟨fun a σ => .val (a.get 6) σ, (some 23), fun _ => some true, (some 0), false⟩,
  ⟨fun a σ => i_sub Tryz.prog 3 (.tmp 23) (.const (.int .i64 1)) (a.get 23) (.int .i64 1) σ, (some 24), fun _ => some true, (some 0), false⟩,
  ⟨fun a σ => findex (none, 1) (a.get 22) (a.get 24) σ, (some 25), fun _ => some true, (some 0), false⟩,
  ⟨fun a σ => fload none (a.get 25) σ, (some 26), fun _ => some true, (some 0), false⟩,
  ⟨fun a σ => .val (a.get 4) σ, (some 27), fun _ => some true, (some 0), false⟩,
  ⟨fun a σ => .val (a.get 6) σ, (some 28), fun _ => some true, (some 0), false⟩,
  ⟨fun a σ => i_sub Tryz.prog 3 (.tmp 28) (.const (.int .i64 1)) (a.get 28) (.int .i64 1) σ, (some 29), fun _ => some true, (some 0), false⟩,
  ⟨fun a σ => findex (none, 1) (a.get 27) (a.get 29) σ, (some 30), fun _ => some true, (some 0), false⟩,
  ⟨fun a σ => fload none (a.get 30) σ, (some 31), fun _ => some true, (some 0), false⟩,
  ⟨fun a σ => flenL (a.get 31) σ, (some 32), fun _ => some true, (some 0), false⟩,
  ⟨fun a σ => i_eql Tryz.prog 3 (.tmp 26) (.tmp 32) (a.get 26) (a.get 32) σ, (some 33), fun _ => some true, (some 0), false⟩] cl a u σ := rfl
theorem r127_6_go (E : Env) (ro : Option Nat) (last : List Nat → RunF) (cl : List Nat) (a : FAct) (u : Option FrameMode) (σ : FState) : fdraw E ro last r127_6 cl a u σ = fdraw E ro last [⟨fun a σ => .val (a.get 4) σ, (some 34), fun _ => some true, (some 0), false⟩,
  ⟨fun a σ => .val (a.get 6) σ, (some 35), fun _ => some true, (some 0), false⟩,
  ⟨fun a σ => i_sub Tryz.prog 3 (.tmp 35) (.const (.int .i64 1)) (a.get 35) (.int .i64 1) σ, (some 36), fun _ => some true, (some 0), false⟩,
  ⟨fun a σ => fslice Tryz.prog 172 (a.get 34) none (some (a.get 36)) none σ, (some 37), fun _ => some true, (some 0), false⟩,
  ⟨fun a σ => .val (a.get 5) σ, (some 38), fun _ => some true, (some 0), false⟩,
  ⟨fun a σ => .val (a.get 6) σ, (some 39), fun _ => some true, (some 0), false⟩,
  ⟨fun a σ => i_sub Tryz.prog 3 (.tmp 39) (.const (.int .i64 1)) (a.get 39) (.int .i64 1) σ, (some 40), fun _ => some true, (some 0), false⟩,
  ⟨fun a σ => fslice Tryz.prog 47 (a.get 38) none (some (a.get 40)) none σ, (some 41), fun _ => some true, (some 0), false⟩,
  ⟨fun a σ => .val (a.get 37) σ, (some 4), fun _ => some true, (some 0), false⟩,
  ⟨fun a σ => .val (a.get 41) σ, (some 5), fun _ => some true, (some 0), false⟩] cl a u σ := rfl
theorem r127_7_go (E : Env) (ro : Option Nat) (a : FAct) (u : Option FrameMode) (σ : FState) : fops E ro r127_7 a u σ = fops E ro [⟨fun a σ => .val (a.get 6) σ, (some 42), fun _ => some true⟩,
  ⟨fun a σ => i_gtr Tryz.prog 3 (.tmp 42) (.const (.int .i64 1)) (a.get 42) (.int .i64 1) σ, (some 43), fun _ => some true⟩] a u σ := rfl
theorem r127_8_go (E : Env) (ro : Option Nat) (a : FAct) (u : Option FrameMode) (σ : FState) : fops E ro r127_8 a u σ = fops E ro [⟨fun a σ => .val (a.get 5) σ, (some 44), fun _ => some true⟩,
  ⟨fun a σ => .val (a.get 6) σ, (some 45), fun _ => some true⟩,
  ⟨fun a σ => i_sub Tryz.prog 3 (.tmp 45) (.const (.int .i64 2)) (a.get 45) (.int .i64 2) σ, (some 46), fun _ => some true⟩,
  ⟨fun a σ => findex (none, 1) (a.get 44) (a.get 46) σ, (some 47), fun _ => some true⟩,
  ⟨fun a σ => fload none (a.get 47) σ, (some 48), fun _ => some true⟩,
  ⟨fun a σ => i_add Tryz.prog 3 (.tmp 48) (.const (.int .i64 1)) (a.get 48) (.int .i64 1) σ, (some 49), fun _ => some true⟩,
  ⟨fun a σ => findex (none, 1) (a.get 44) (a.get 46) σ, (some 50), fun _ => some true⟩,
  ⟨fun a σ => fstore 1 (a.get 50) (a.get 49) σ, none, fun _ => some true⟩] a u σ := rfl
theorem r127_9_go (E : Env) (ro : Option Nat) (last : List Nat → RunF) (cl : List Nat) (a : FAct) (u : Option FrameMode) (σ : FState) : fdraw E ro last r127_9 cl a u σ = fdraw E ro last [⟨fun a σ => .val (a.get 4) σ, (some 51), fun _ => some true, (some 0), false⟩,
  ⟨fun a σ => .val (a.get 6) σ, (some 52), fun _ => some true, (some 0), false⟩,
  ⟨fun a σ => i_sub Tryz.prog 3 (.tmp 52) (.const (.int .i64 1)) (a.get 52) (.int .i64 1) σ, (some 53), fun _ => some true, (some 0), false⟩,
  ⟨fun a σ => findex (none, 1) (a.get 51) (a.get 53) σ, (some 54), fun _ => some true, (some 0), false⟩,
  ⟨fun a σ => fload none (a.get 54) σ, (some 55), fun _ => some true, (some 0), false⟩,
  ⟨fun a σ => .val (a.get 5) σ, (some 56), fun _ => some true, (some 0), false⟩,
  ⟨fun a σ => .val (a.get 6) σ, (some 57), fun _ => some true, (some 0), false⟩,
  ⟨fun a σ => i_sub Tryz.prog 3 (.tmp 57) (.const (.int .i64 1)) (a.get 57) (.int .i64 1) σ, (some 58), fun _ => some true, (some 0), false⟩,
  ⟨fun a σ => findex (none, 1) (a.get 56) (a.get 58) σ, (some 59), fun _ => some true, (some 0), false⟩,
  ⟨fun a σ => fload none (a.get 59) σ, (some 60), fun _ => some true, (some 0), false⟩,
  ⟨fun a σ => findex (none, 4) (a.get 55) (a.get 60) σ, (some 61), fun _ => some true, (some 0), false⟩,
  ⟨fun a σ => fload (some 4) (a.get 61) σ, (some 62), fun _ => some true, (some 0), false⟩,
  ⟨fun a σ => newCells [(.int .i64 0), (.int .i64 0), (.string ⟨#[]⟩), (.slice none 0 0)] 24 none σ, (some 7), fun _ => some true, (some 0), false⟩,
  ⟨fun a σ => fstore 4 (a.get 7) (a.get 62) σ, none, fun _ => some true, none, true⟩] cl a u σ := rfl
theorem r127_10_go (E : Env) (ro : Option Nat) (last : List Nat → RunF) (cl : List Nat) (a : FAct) (u : Option FrameMode) (σ : FState) : fdraw E ro last r127_10 cl a u σ = fdraw E ro last [⟨fun a σ => .val (a.get 0) σ, (some 63), fun _ => some true, (some 0), false⟩,
  ⟨fun a σ => .val (a.get 5) σ, (some 64), fun _ => some true, (some 0), false⟩,
  ⟨fun a σ => .val (a.get 6) σ, (some 65), fun _ => some true, (some 0), false⟩,
  ⟨fun a σ => .val (a.get 6) σ, (some 66), fun _ => some true, (some 0), false⟩,
  ⟨fun a σ => fslice Tryz.prog 47 (a.get 64) none (some (a.get 65)) (some (a.get 66)) σ, (some 67), fun _ => some true, (some 0), false⟩,
  ⟨fun a σ => fload (some 4) (a.get 7) σ, (some 68), fun _ => some true, (some 0), false⟩,
  ⟨fun a σ => fcallV (a.get 63) [(a.get 67), (a.get 68)] σ, (some 69), fun _ => some true, none, true⟩,
  ⟨fun a σ => fun1 Tryz.prog (Op.unary .not) (a.get 69) σ, (some 70), fun _ => some true, (some 1), false⟩] cl a u σ := rfl
theorem r127_11_go (E : Env) (ro : Option Nat) (a : FAct) (u : Option FrameMode) (σ : FState) : fops E ro r127_11 a u σ = fops E ro [⟨fun a σ => .val (a.get 4) σ, (some 71), fun _ => some true⟩,
  ⟨fun a σ => fload (some 1) (a.get 2) σ, (some 72), fun _ => some true⟩,
  ⟨fun a σ => fload (some 4) (a.get 7) σ, (some 73), fun _ => some true⟩,
  ⟨fun a σ => .enter 128 [(a.get 72), (a.get 73)] σ, (some 74), fun _ => some true⟩,
  ⟨fun a σ => fbuildSlice 22 1 1 [(.slice none 0 0)] [(0, (a.get 74))] σ, (some 75), fun _ => some true⟩,
  ⟨fun a σ => fappend 22 1 24 (a.get 71) (a.get 75) σ, (some 76), fun _ => some true⟩,
  ⟨fun a σ => .val (a.get 76) σ, (some 4), fun _ => some true⟩] a u σ := rfl
theorem r127_12_go (E : Env) (ro : Option Nat) (a : FAct) (u : Option FrameMode) (σ : FState) : fops E ro r127_12 a u σ = fops E ro [⟨fun a σ => .val (a.get 5) σ, (some 77), fun _ => some true⟩,
  ⟨fun a σ => fbuildSlice 3 1 1 [(.int .i64 0)] [(0, (.int .i64 0))] σ, (some 78), fun _ => some true⟩,
  ⟨fun a σ => fappend 3 1 8 (a.get 77) (a.get 78) σ, (some 79), fun _ => some true⟩,
  ⟨fun a σ => .val (a.get 79) σ, (some 5), fun _ => some true⟩] a u σ := rfl
theorem code127 (E : Env) (ro : Option Nat) (fn : FuncId) : code Tryz.prog nls (Tryz.f127.body.getD .skip) E ro fn = run127 E ro fn := by kernel_rfl
theorem enter127 (E : Env) (args : List Value) (u : Option FrameMode) (σ : FState) (hn : args.length ≤ (8 : Nat)) : fcall Tryz.prog nls E 127 args u σ = leaveR Tryz.prog E [] (run127 E none 127 ⟨padTo undef 8 args, fun _ => undef, 8, 80, []⟩ u σ) := by
  rw [fcall_of (body := Tryz.f127.body.getD .skip) Tryz.func127 rfl E args u σ 8 80 (by kernel_rfl) rfl ⟨hn, by decide⟩, code127]
  rfl
/-! (caracole/datum.walker).inside -/
noncomputable def r128_0 : List COp := [⟨fun a σ => fbox 127 (a.get 0) σ, (some 2), fun _ => some true⟩,
  ⟨fun a σ => fbox 24 (a.get 1) σ, (some 3), fun _ => some true⟩,
  ⟨fun a σ => .val (.slice none 0 0) σ, (some 4), fun _ => some true⟩]
noncomputable def r128_1 : List COp := [⟨fun a σ => ffield 0 (a.get 2) σ, (some 5), fun _ => some true⟩,
  ⟨fun a σ => fload none (a.get 5) σ, (some 6), fun _ => some true⟩,
  ⟨fun a σ => ffield 3 (a.get 3) σ, (some 7), fun _ => some true⟩,
  ⟨fun a σ => fload none (a.get 7) σ, (some 8), fun _ => some true⟩,
  ⟨fun a σ => fcallV (a.get 6) [(a.get 8)] σ, (some 9), fun _ => some true⟩,
  ⟨fun a σ => fun1 Tryz.prog (Op.unary .not) (a.get 9) σ, (some 10), fun _ => some true⟩]
noncomputable def r128_2 : List COp := [⟨fun a σ => .val (.slice none 0 0) σ, (some 4), fun _ => some true⟩]
noncomputable def r128_3 : List COp := [⟨fun a σ => ffield 3 (a.get 3) σ, (some 11), fun _ => some true⟩,
  ⟨fun a σ => fload none (a.get 11) σ, (some 12), fun _ => some true⟩,
  ⟨fun a σ => .val (a.get 12) σ, (some 4), fun _ => some true⟩]
noncomputable def run128 (E : Env) (ro : Option Nat) (fn : FuncId) : RunF := (seqR (fops E ro r128_0) (seqR (seqR (fops E ro r128_1) (condR (fun a => (a.get 10)) (seqR (fops E ro r128_2) retR) skipR)) (seqR (fops E ro r128_3) retR)))
theorem r128_0_go (E : Env) (ro : Option Nat) (a : FAct) (u : Option FrameMode) (σ : FState) : fops E ro r128_0 a u σ = fops E ro [⟨fun a σ => fbox 127 (a.get 0) σ, (some 2), fun _ => some true⟩,
  ⟨fun a σ => fbox 24 (a.get 1) σ, (some 3), fun _ => some true⟩,
  ⟨fun a σ => .val (.slice none 0 0) σ, (some 4), fun _ => some true⟩] a u σ := rfl
theorem r128_1_go (E : Env) (ro : Option Nat) (a : FAct) (u : Option FrameMode) (σ : FState) : fops E ro r128_1 a u σ = fops E ro [⟨fun a σ => ffield 0 (a.get 2) σ, (some 5), fun _ => some true⟩,
  ⟨fun a σ => fload none (a.get 5) σ, (some 6), fun _ => some true⟩,
  ⟨fun a σ => ffield 3 (a.get 3) σ, (some 7), fun _ => some true⟩,
  ⟨fun a σ => fload none (a.get 7) σ, (some 8), fun _ => some true⟩,
  ⟨fun a σ => fcallV (a.get 6) [(a.get 8)] σ, (some 9), fun _ => some true⟩,
  ⟨fun a σ => fun1 Tryz.prog (Op.unary .not) (a.get 9) σ, (some 10), fun _ => some true⟩] a u σ := rfl
theorem r128_2_go (E : Env) (ro : Option Nat) (a : FAct) (u : Option FrameMode) (σ : FState) : fops E ro r128_2 a u σ = fops E ro [⟨fun a σ => .val (.slice none 0 0) σ, (some 4), fun _ => some true⟩] a u σ := rfl
theorem r128_3_go (E : Env) (ro : Option Nat) (a : FAct) (u : Option FrameMode) (σ : FState) : fops E ro r128_3 a u σ = fops E ro [⟨fun a σ => ffield 3 (a.get 3) σ, (some 11), fun _ => some true⟩,
  ⟨fun a σ => fload none (a.get 11) σ, (some 12), fun _ => some true⟩,
  ⟨fun a σ => .val (a.get 12) σ, (some 4), fun _ => some true⟩] a u σ := rfl
theorem code128 (E : Env) (ro : Option Nat) (fn : FuncId) : code Tryz.prog nls (Tryz.f128.body.getD .skip) E ro fn = run128 E ro fn := by kernel_rfl
theorem enter128 (E : Env) (args : List Value) (u : Option FrameMode) (σ : FState) (hn : args.length ≤ (4 : Nat)) : fcall Tryz.prog nls E 128 args u σ = leaveR Tryz.prog E [.tmp 4] (run128 E none 128 ⟨padTo undef 4 args, fun _ => undef, 4, 13, []⟩ u σ) := by
  rw [fcall_of (body := Tryz.f128.body.getD .skip) Tryz.func128 rfl E args u σ 4 13 (by kernel_rfl) rfl ⟨hn, by decide⟩, code128]
  rfl
/-! caracole/datum.inspect -/
noncomputable def r103_0 : List COp := [⟨fun a σ => fbox 24 (a.get 0) σ, (some 1), fun _ => some true⟩]
noncomputable def r103_1 : List COp := [⟨fun a σ => fload (some 4) (a.get 1) σ, (some 5), fun _ => some true⟩,
  ⟨fun a σ => .enter 105 [(a.get 5)] σ, (some 6), fun _ => some true⟩,
  ⟨fun a σ => .val (a.get 6) σ, (some 2), fun _ => some true⟩]
noncomputable def r103_2 : List COp := [⟨fun a σ => .val (a.get 2) σ, (some 7), fun _ => some true⟩,
  ⟨fun a σ => finvoke Tryz.prog (a.get 7) "caracole/datum.formed" [] σ, (some 8), fun _ => some true⟩,
  ⟨fun a σ => fun1 Tryz.prog (Op.unary .not) (a.get 8) σ, (some 9), fun _ => some true⟩]
noncomputable def r103_3 : List COp := [⟨fun a σ => .enter 111 [(.int .i64 1)] σ, (some 10), fun _ => some true⟩]
noncomputable def r103_4 : List COp := [⟨fun a σ => .val (a.get 2) σ, (some 11), fun _ => some true⟩]
noncomputable def r103_5 : List COp := [⟨fun a σ => fassert Tryz.prog (a.get 11) 173 true σ, (some 12), fun _ => some true⟩,
  ⟨fun a σ => fextract 1 (a.get 12) σ, (some 13), fun _ => some true⟩,
  ⟨fun a σ => fextract 0 (a.get 12) σ, (some 14), fun _ => some true⟩]
noncomputable def r103_6 : List COp := [⟨fun a σ => newCells [(.int .i64 0), (.int .i64 0), (.string ⟨#[]⟩), (.slice none 0 0)] 173 none σ, (some 3), fun _ => some true⟩,
  ⟨fun a σ => fstore 4 (a.get 3) (a.get 14) σ, none, fun _ => some true⟩]
noncomputable def r103_7 : List COp := [⟨fun a σ => fload (some 4) (a.get 3) σ, (some 15), fun _ => some true⟩,
  ⟨fun a σ => .enter 129 [(a.get 15)] σ, (some 16), fun _ => some true⟩]
noncomputable def r103_8 : List COp := [⟨fun a σ => fassert Tryz.prog (a.get 11) 158 true σ, (some 17), fun _ => some true⟩,
  ⟨fun a σ => fextract 1 (a.get 17) σ, (some 18), fun _ => some true⟩,
  ⟨fun a σ => fextract 0 (a.get 17) σ, (some 19), fun _ => some true⟩]
noncomputable def r103_9 : List COp := [⟨fun a σ => newCells [(.int .i64 0), (.int .i64 0), (.string ⟨#[]⟩), (.slice none 0 0)] 158 none σ, (some 4), fun _ => some true⟩,
  ⟨fun a σ => fstore 4 (a.get 4) (a.get 19) σ, none, fun _ => some true⟩]
noncomputable def r103_10 : List COp := [⟨fun a σ => fload (some 4) (a.get 4) σ, (some 20), fun _ => some true⟩,
  ⟨fun a σ => .enter 130 [(a.get 20)] σ, (some 21), fun _ => some true⟩]
noncomputable def run103 (E : Env) (ro : Option Nat) (fn : FuncId) : RunF := (seqR (fops E ro r103_0) (seqR (fops E ro r103_1) (seqR (seqR (fops E ro r103_2) (condR (fun a => (a.get 9)) (fops E ro r103_3) skipR)) (seqR (fops E ro r103_4) (blockR 0 (seqR (fops E ro r103_5) (condR (fun a => (a.get 13)) (seqR (fops E ro r103_6) (fops E ro r103_7)) (seqR (fops E ro r103_8) (condR (fun a => (a.get 18)) (seqR (fops E ro r103_9) (fops E ro r103_10)) skipR)))))))))
theorem r103_0_go (E : Env) (ro : Option Nat) (a : FAct) (u : Option FrameMode) (σ : FState) : fops E ro r103_0 a u σ = fops E ro [⟨fun a σ => fbox 24 (a.get 0) σ, (some 1), fun _ => some true⟩] a u σ := rfl
theorem r103_1_go (E : Env) (ro : Option Nat) (a : FAct) (u : Option FrameMode) (σ : FState) : fops E ro r103_1 a u σ = fops E ro [⟨fun a σ => fload (some 4) (a.get 1) σ, (some 5), fun _ => some true⟩,
  ⟨fun a σ => .enter 105 [(a.get 5)] σ, (some 6), fun _ => some true⟩,
  ⟨fun a σ => .val (a.get 6) σ, (some 2), fun _ => some true⟩] a u σ := rfl
theorem r103_2_go (E : Env) (ro : Option Nat) (a : FAct) (u : Option FrameMode) (σ : FState) : fops E ro r103_2 a u σ = fops E ro [⟨fun a σ => .val (a.get 2) σ, (some 7), fun _ => some true⟩,
  ⟨fun a σ => finvoke Tryz.prog (a.get 7) "caracole/datum.formed" [] σ, (some 8), fun _ => some true⟩,
  ⟨fun a σ => fun1 Tryz.prog (Op.unary .not) (a.get 8) σ, (some 9), fun _ => some true⟩] a u σ := rfl
theorem r103_3_go (E : Env) (ro : Option Nat) (a : FAct) (u : Option FrameMode) (σ : FState) : fops E ro r103_3 a u σ = fops E ro [⟨fun a σ => .enter 111 [(.int .i64 1)] σ, (some 10), fun _ => some true⟩] a u σ := rfl
theorem r103_4_go (E : Env) (ro : Option Nat) (a : FAct) (u : Option FrameMode) (σ : FState) : fops E ro r103_4 a u σ = fops E ro [⟨fun a σ => .val (a.get 2) σ, (some 11), fun _ => some true⟩] a u σ := rfl
theorem r103_5_go (E : Env) (ro : Option Nat) (a : FAct) (u : Option FrameMode) (σ : FState) : fops E ro r103_5 a u σ = fops E ro [⟨fun a σ => fassert Tryz.prog (a.get 11) 173 true σ, (some 12), fun _ => some true⟩,
  ⟨fun a σ => fextract 1 (a.get 12) σ, (some 13), fun _ => some true⟩,
  ⟨fun a σ => fextract 0 (a.get 12) σ, (some 14), fun _ => some true⟩] a u σ := rfl
theorem r103_6_go (E : Env) (ro : Option Nat) (a : FAct) (u : Option FrameMode) (σ : FState) : fops E ro r103_6 a u σ = fops E ro [⟨fun a σ => newCells [(.int .i64 0), (.int .i64 0), (.string ⟨#[]⟩), (.slice none 0 0)] 173 none σ, (some 3), fun _ => some true⟩,
  ⟨fun a σ => fstore 4 (a.get 3) (a.get 14) σ, none, fun _ => some true⟩] a u σ := rfl
theorem r103_7_go (E : Env) (ro : Option Nat) (a : FAct) (u : Option FrameMode) (σ : FState) : fops E ro r103_7 a u σ = fops E ro [⟨fun a σ => fload (some 4) (a.get 3) σ, (some 15), fun _ => some true⟩,
  ⟨fun a σ => .enter 129 [(a.get 15)] σ, (some 16), fun _ => some true⟩] a u σ := rfl
theorem r103_8_go (E : Env) (ro : Option Nat) (a : FAct) (u : Option FrameMode) (σ : FState) : fops E ro r103_8 a u σ = fops E ro [⟨fun a σ => fassert Tryz.prog (a.get 11) 158 true σ, (some 17), fun _ => some true⟩,
  ⟨fun a σ => fextract 1 (a.get 17) σ, (some 18), fun _ => some true⟩,
  ⟨fun a σ => fextract 0 (a.get 17) σ, (some 19), fun _ => some true⟩] a u σ := rfl
theorem r103_9_go (E : Env) (ro : Option Nat) (a : FAct) (u : Option FrameMode) (σ : FState) : fops E ro r103_9 a u σ = fops E ro [⟨fun a σ => newCells [(.int .i64 0), (.int .i64 0), (.string ⟨#[]⟩), (.slice none 0 0)] 158 none σ, (some 4), fun _ => some true⟩,
  ⟨fun a σ => fstore 4 (a.get 4) (a.get 19) σ, none, fun _ => some true⟩] a u σ := rfl
theorem r103_10_go (E : Env) (ro : Option Nat) (a : FAct) (u : Option FrameMode) (σ : FState) : fops E ro r103_10 a u σ = fops E ro [⟨fun a σ => fload (some 4) (a.get 4) σ, (some 20), fun _ => some true⟩,
  ⟨fun a σ => .enter 130 [(a.get 20)] σ, (some 21), fun _ => some true⟩] a u σ := rfl
theorem code103 (E : Env) (ro : Option Nat) (fn : FuncId) : code Tryz.prog nls (Tryz.f103.body.getD .skip) E ro fn = run103 E ro fn := by kernel_rfl
theorem enter103 (E : Env) (args : List Value) (u : Option FrameMode) (σ : FState) (hn : args.length ≤ (5 : Nat)) : fcall Tryz.prog nls E 103 args u σ = leaveR Tryz.prog E [] (run103 E none 103 ⟨padTo undef 5 args, fun _ => undef, 5, 22, []⟩ u σ) := by
  rw [fcall_of (body := Tryz.f103.body.getD .skip) Tryz.func103 rfl E args u σ 5 22 (by kernel_rfl) rfl ⟨hn, by decide⟩, code103]
  rfl
/-! caracole/datum.atWork -/
noncomputable def r105_0 : List COp := [⟨fun a σ => fbox 24 (a.get 0) σ, (some 1), fun _ => some true⟩,
  ⟨fun a σ => .val .nilIface σ, (some 2), fun _ => some true⟩]
noncomputable def r105_1 : List COp := [⟨fun a σ => ffield 0 (a.get 1) σ, (some 3), fun _ => some true⟩,
  ⟨fun a σ => fload none (a.get 3) σ, (some 4), fun _ => some true⟩]
noncomputable def r105_2 : List COp := [⟨fun a σ => i_eql Tryz.prog 3 (.tmp 4) (.const (.int .i64 0)) (a.get 4) (.int .i64 0) σ, (some 6), fun _ => some true⟩,
  ⟨fun a σ => .val (a.get 6) σ, (some 5), fun _ => some true⟩]
noncomputable def r105_3 : List COp := [⟨fun a σ => fload (some 4) (a.get 1) σ, (some 7), fun _ => some true⟩,
  ⟨fun a σ => fbuild (fun i => nth [(0, 4)] i) [(.int .i64 0), (.int .i64 0), (.string ⟨#[]⟩), (.slice none 0 0)] [(0, (a.get 7))] σ, (some 8), fun _ => some true⟩,
  ⟨fun a σ => .val (.iface 174 (a.get 8)) σ, (some 9), fun _ => some true⟩,
  ⟨fun a σ => .val (a.get 9) σ, (some 2), fun _ => some true⟩]
noncomputable def r105_4 : List COp := [⟨fun a σ => i_eql Tryz.prog 3 (.tmp 4) (.const (.int .i64 1)) (a.get 4) (.int .i64 1) σ, (some 11), fun _ => some true⟩,
  ⟨fun a σ => .val (a.get 11) σ, (some 10), fun _ => some true⟩]
noncomputable def r105_5 : List COp := [⟨fun a σ => i_eql Tryz.prog 3 (.tmp 4) (.const (.int .i64 2)) (a.get 4) (.int .i64 2) σ, (some 12), fun _ => some true⟩,
  ⟨fun a σ => .val (a.get 12) σ, (some 10), fun _ => some true⟩]
noncomputable def r105_6 : List COp := [⟨fun a σ => fload (some 4) (a.get 1) σ, (some 13), fun _ => some true⟩,
  ⟨fun a σ => fbuild (fun i => nth [(0, 4)] i) [(.int .i64 0), (.int .i64 0), (.string ⟨#[]⟩), (.slice none 0 0)] [(0, (a.get 13))] σ, (some 14), fun _ => some true⟩,
  ⟨fun a σ => .val (.iface 173 (a.get 14)) σ, (some 15), fun _ => some true⟩,
  ⟨fun a σ => .val (a.get 15) σ, (some 2), fun _ => some true⟩]
noncomputable def r105_7 : List COp := [⟨fun a σ => i_eql Tryz.prog 3 (.tmp 4) (.const (.int .i64 3)) (a.get 4) (.int .i64 3) σ, (some 17), fun _ => some true⟩,
  ⟨fun a σ => .val (a.get 17) σ, (some 16), fun _ => some true⟩]
noncomputable def r105_8 : List COp := [⟨fun a σ => i_eql Tryz.prog 3 (.tmp 4) (.const (.int .i64 4)) (a.get 4) (.int .i64 4) σ, (some 18), fun _ => some true⟩,
  ⟨fun a σ => .val (a.get 18) σ, (some 16), fun _ => some true⟩]
noncomputable def r105_9 : List COp := [⟨fun a σ => fload (some 4) (a.get 1) σ, (some 19), fun _ => some true⟩,
  ⟨fun a σ => fbuild (fun i => nth [(0, 4)] i) [(.int .i64 0), (.int .i64 0), (.string ⟨#[]⟩), (.slice none 0 0)] [(0, (a.get 19))] σ, (some 20), fun _ => some true⟩,
  ⟨fun a σ => .val (.iface 158 (a.get 20)) σ, (some 21), fun _ => some true⟩,
  ⟨fun a σ => .val (a.get 21) σ, (some 2), fun _ => some true⟩]
noncomputable def r105_10 : List COp := [⟨fun a σ => i_eql Tryz.prog 3 (.tmp 4) (.const (.int .i64 5)) (a.get 4) (.int .i64 5) σ, (some 23), fun _ => some true⟩,
  ⟨fun a σ => .val (a.get 23) σ, (some 22), fun _ => some true⟩]
noncomputable def r105_11 : List COp := [⟨fun a σ => i_eql Tryz.prog 3 (.tmp 4) (.const (.int .i64 6)) (a.get 4) (.int .i64 6) σ, (some 24), fun _ => some true⟩,
  ⟨fun a σ => .val (a.get 24) σ, (some 22), fun _ => some true⟩]
noncomputable def r105_12 : List COp := [⟨fun a σ => fload (some 4) (a.get 1) σ, (some 25), fun _ => some true⟩,
  ⟨fun a σ => fbuild (fun i => nth [(0, 4)] i) [(.int .i64 0), (.int .i64 0), (.string ⟨#[]⟩), (.slice none 0 0)] [(0, (a.get 25))] σ, (some 26), fun _ => some true⟩,
  ⟨fun a σ => .val (.iface 175 (a.get 26)) σ, (some 27), fun _ => some true⟩,
  ⟨fun a σ => .val (a.get 27) σ, (some 2), fun _ => some true⟩]
noncomputable def r105_13 : List COp := [⟨fun a σ => .enter 111 [(.int .i64 4)] σ, (some 28), fun _ => some true⟩]
noncomputable def r105_14 : List COp := [⟨fun a σ => .val .nilIface σ, (some 2), fun _ => some true⟩]
noncomputable def run105 (E : Env) (ro : Option Nat) (fn : FuncId) : RunF := (seqR (fops E ro r105_0) (seqR (seqR (fops E ro r105_1) (blockR 0 (seqR (fops E ro r105_2) (condR (fun a => (a.get 5)) (seqR (fops E ro r105_3) retR) (seqR (seqR (fops E ro r105_4) (condR (fun a => (a.get 10)) skipR (fops E ro r105_5))) (condR (fun a => (a.get 10)) (seqR (fops E ro r105_6) retR) (seqR (seqR (fops E ro r105_7) (condR (fun a => (a.get 16)) skipR (fops E ro r105_8))) (condR (fun a => (a.get 16)) (seqR (fops E ro r105_9) retR) (seqR (seqR (fops E ro r105_10) (condR (fun a => (a.get 22)) skipR (fops E ro r105_11))) (condR (fun a => (a.get 22)) (seqR (fops E ro r105_12) retR) skipR)))))))))) (seqR (fops E ro r105_13) (seqR (fops E ro r105_14) retR))))
theorem r105_0_go (E : Env) (ro : Option Nat) (a : FAct) (u : Option FrameMode) (σ : FState) : fops E ro r105_0 a u σ = fops E ro [⟨fun a σ => fbox 24 (a.get 0) σ, (some 1), fun _ => some true⟩,
  ⟨fun a σ => .val .nilIface σ, (some 2), fun _ => some true⟩] a u σ := rfl
theorem r105_1_go (E : Env) (ro : Option Nat) (a : FAct) (u : Option FrameMode) (σ : FState) : fops E ro r105_1 a u σ = fops E ro [⟨fun a σ => ffield 0 (a.get 1) σ, (some 3), fun _ => some true⟩,
  ⟨fun a σ => fload none (a.get 3) σ, (some 4), fun _ => some true⟩] a u σ := rfl
theorem r105_2_go (E : Env) (ro : Option Nat) (a : FAct) (u : Option FrameMode) (σ : FState) : fops E ro r105_2 a u σ = fops E ro [⟨fun a σ => i_eql Tryz.prog 3 (.tmp 4) (.const (.int .i64 0)) (a.get 4) (.int .i64 0) σ, (some 6), fun _ => some true⟩,
  ⟨fun a σ => .val (a.get 6) σ, (some 5), fun _ => some true⟩] a u σ := rfl
theorem r105_3_go (E : Env) (ro : Option Nat) (a : FAct) (u : Option FrameMode) (σ : FState) : fops E ro r105_3 a u σ = fops E ro [⟨fun a σ => fload (some 4) (a.get 1) σ, (some 7), fun _ => some true⟩,
  ⟨fun a σ => fbuild (fun i => nth [(0, 4)] i) [(.int .i64 0), (.int .i64 0), (.string ⟨#[]⟩), (.slice none 0 0)] [(0, (a.get 7))] σ, (some 8), fun _ => some true⟩,
  ⟨fun a σ => .val (.iface 174 (a.get 8)) σ, (some 9), fun _ => some true⟩,
  ⟨fun a σ => .val (a.get 9) σ, (some 2), fun _ => some true⟩] a u σ := rfl
theorem r105_4_go (E : Env) (ro : Option Nat) (a : FAct) (u : Option FrameMode) (σ : FState) : fops E ro r105_4 a u σ = fops E ro [⟨fun a σ => i_eql Tryz.prog 3 (.tmp 4) (.const (.int .i64 1)) (a.get 4) (.int .i64 1) σ, (some 11), fun _ => some true⟩,
  ⟨fun a σ => .val (a.get 11) σ, (some 10), fun _ => some true⟩] a u σ := rfl
theorem r105_5_go (E : Env) (ro : Option Nat) (a : FAct) (u : Option FrameMode) (σ : FState) : fops E ro r105_5 a u σ = fops E ro [⟨fun a σ => i_eql Tryz.prog 3 (.tmp 4) (.const (.int .i64 2)) (a.get 4) (.int .i64 2) σ, (some 12), fun _ => some true⟩,
  ⟨fun a σ => .val (a.get 12) σ, (some 10), fun _ => some true⟩] a u σ := rfl
theorem r105_6_go (E : Env) (ro : Option Nat) (a : FAct) (u : Option FrameMode) (σ : FState) : fops E ro r105_6 a u σ = fops E ro [⟨fun a σ => fload (some 4) (a.get 1) σ, (some 13), fun _ => some true⟩,
  ⟨fun a σ => fbuild (fun i => nth [(0, 4)] i) [(.int .i64 0), (.int .i64 0), (.string ⟨#[]⟩), (.slice none 0 0)] [(0, (a.get 13))] σ, (some 14), fun _ => some true⟩,
  ⟨fun a σ => .val (.iface 173 (a.get 14)) σ, (some 15), fun _ => some true⟩,
  ⟨fun a σ => .val (a.get 15) σ, (some 2), fun _ => some true⟩] a u σ := rfl
theorem r105_7_go (E : Env) (ro : Option Nat) (a : FAct) (u : Option FrameMode) (σ : FState) : fops E ro r105_7 a u σ = fops E ro [⟨fun a σ => i_eql Tryz.prog 3 (.tmp 4) (.const (.int .i64 3)) (a.get 4) (.int .i64 3) σ, (some 17), fun _ => some true⟩,
  ⟨fun a σ => .val (a.get 17) σ, (some 16), fun _ => some true⟩] a u σ := rfl
theorem r105_8_go (E : Env) (ro : Option Nat) (a : FAct) (u : Option FrameMode) (σ : FState) : fops E ro r105_8 a u σ = fops E ro [⟨fun a σ => i_eql Tryz.prog 3 (.tmp 4) (.const (.int .i64 4)) (a.get 4) (.int .i64 4) σ, (some 18), fun _ => some true⟩,
  ⟨fun a σ => .val (a.get 18) σ, (some 16), fun _ => some true⟩] a u σ := rfl
theorem r105_9_go (E : Env) (ro : Option Nat) (a : FAct) (u : Option FrameMode) (σ : FState) : fops E ro r105_9 a u σ = fops E ro [⟨fun a σ => fload (some 4) (a.get 1) σ, (some 19), fun _ => some true⟩,
  ⟨fun a σ => fbuild (fun i => nth [(0, 4)] i) [(.int .i64 0), (.int .i64 0), (.string ⟨#[]⟩), (.slice none 0 0)] [(0, (a.get 19))] σ, (some 20), fun _ => some true⟩,
  ⟨fun a σ => .val (.iface 158 (a.get 20)) σ, (some 21), fun _ => some true⟩,
  ⟨fun a σ => .val (a.get 21) σ, (some 2), fun _ => some true⟩] a u σ := rfl
theorem r105_10_go (E : Env) (ro : Option Nat) (a : FAct) (u : Option FrameMode) (σ : FState) : fops E ro r105_10 a u σ = fops E ro [⟨fun a σ => i_eql Tryz.prog 3 (.tmp 4) (.const (.int .i64 5)) (a.get 4) (.int .i64 5) σ, (some 23), fun _ => some true⟩,
  ⟨fun a σ => .val (a.get 23) σ, (some 22), fun _ => some true⟩] a u σ := rfl
theorem r105_11_go (E : Env) (ro : Option Nat) (a : FAct) (u : Option FrameMode) (σ : FState) : fops E ro r105_11 a u σ = fops E ro [⟨fun a σ => i_eql Tryz.prog 3 (.tmp 4) (.const (.int .i64 6)) (a.get 4) (.int .i64 6) σ, (some 24), fun _ => some true⟩,
  ⟨fun a σ => .val (a.get 24) σ, (some 22), fun _ => some true⟩] a u σ := rfl
theorem r105_12_go (E : Env) (ro : Option Nat) (a : FAct) (u : Option FrameMode) (σ : FState) : fops E ro r105_12 a u σ = fops E ro [⟨fun a σ => fload (some 4) (a.get 1) σ, (some 25), fun _ => some true⟩,
  ⟨fun a σ => fbuild (fun i => nth [(0, 4)] i) [(.int .i64 0), (.int .i64 0), (.string ⟨#[]⟩), (.slice none 0 0)] [(0, (a.get 25))] σ, (some 26), fun _ => some true⟩,
  ⟨fun a σ => .val (.iface 175 (a.get 26)) σ, (some 27), fun _ => some true⟩,
  ⟨fun a σ => .val (a.get 27) σ, (some 2), fun _ => some true⟩] a u σ := rfl
theorem r105_13_go (E : Env) (ro : Option Nat) (a : FAct) (u : Option FrameMode) (σ : FState) : fops E ro r105_13 a u σ = fops E ro [⟨fun a σ => .enter 111 [(.int .i64 4)] σ, (some 28), fun _ => some true⟩] a u σ := rfl
theorem r105_14_go (E : Env) (ro : Option Nat) (a : FAct) (u : Option FrameMode) (σ : FState) : fops E ro r105_14 a u σ = fops E ro [⟨fun a σ => .val .nilIface σ, (some 2), fun _ => some true⟩] a u σ := rfl
theorem code105 (E : Env) (ro : Option Nat) (fn : FuncId) : code Tryz.prog nls (Tryz.f105.body.getD .skip) E ro fn = run105 E ro fn := by kernel_rfl
theorem enter105 (E : Env) (args : List Value) (u : Option FrameMode) (σ : FState) (hn : args.length ≤ (2 : Nat)) : fcall Tryz.prog nls E 105 args u σ = leaveR Tryz.prog E [.tmp 2] (run105 E none 105 ⟨padTo undef 2 args, fun _ => undef, 2, 29, []⟩ u σ) := by
  rw [fcall_of (body := Tryz.f105.body.getD .skip) Tryz.func105 rfl E args u σ 2 29 (by kernel_rfl) rfl ⟨hn, by decide⟩, code105]
  rfl
/-! caracole/datum.walk -/
noncomputable def r107_0 : List COp := [⟨fun a σ => fbox 24 (a.get 0) σ, (some 1), fun _ => some true⟩,
  ⟨fun a σ => .val .nilFunc σ, (some 2), fun _ => some true⟩]
noncomputable def r107_1 : List COp := [⟨fun a σ => fbuild (fun i => nth [(0, 1)] i) [.nilFunc] [(0, (.func (.func 133) #[] #[]))] σ, (some 3), fun _ => some true⟩,
  ⟨fun a σ => fload (some 4) (a.get 1) σ, (some 4), fun _ => some true⟩,
  ⟨fun a σ => .enter 102 [(a.get 3), (a.get 4)] σ, (some 5), fun _ => some true⟩,
  ⟨fun a σ => .val (a.get 5) σ, (some 2), fun _ => some true⟩]
noncomputable def run107 (E : Env) (ro : Option Nat) (fn : FuncId) : RunF := (seqR (fops E ro r107_0) (seqR (fops E ro r107_1) retR))
theorem r107_0_go (E : Env) (ro : Option Nat) (a : FAct) (u : Option FrameMode) (σ : FState) : fops E ro r107_0 a u σ = fops E ro [⟨fun a σ => fbox 24 (a.get 0) σ, (some 1), fun _ => some true⟩,
  ⟨fun a σ => .val .nilFunc σ, (some 2), fun _ => some true⟩] a u σ := rfl
theorem r107_1_go (E : Env) (ro : Option Nat) (a : FAct) (u : Option FrameMode) (σ : FState) : fops E ro r107_1 a u σ = fops E ro [⟨fun a σ => fbuild (fun i => nth [(0, 1)] i) [.nilFunc] [(0, (.func (.func 133) #[] #[]))] σ, (some 3), fun _ => some true⟩,
  ⟨fun a σ => fload (some 4) (a.get 1) σ, (some 4), fun _ => some true⟩,
  ⟨fun a σ => .enter 102 [(a.get 3), (a.get 4)] σ, (some 5), fun _ => some true⟩,
  ⟨fun a σ => .val (a.get 5) σ, (some 2), fun _ => some true⟩] a u σ := rfl
theorem code107 (E : Env) (ro : Option Nat) (fn : FuncId) : code Tryz.prog nls (Tryz.f107.body.getD .skip) E ro fn = run107 E ro fn := by kernel_rfl
theorem enter107 (E : Env) (args : List Value) (u : Option FrameMode) (σ : FState) (hn : args.length ≤ (2 : Nat)) : fcall Tryz.prog nls E 107 args u σ = leaveR Tryz.prog E [.tmp 2] (run107 E none 107 ⟨padTo undef 2 args, fun _ => undef, 2, 6, []⟩ u σ) := by
  rw [fcall_of (body := Tryz.f107.body.getD .skip) Tryz.func107 rfl E args u σ 2 6 (by kernel_rfl) rfl ⟨hn, by decide⟩, code107]
  rfl
/-! caracole/datum.walk$1 -/
noncomputable def r133_0 : List COp := [⟨fun a σ => .val (.bool false) σ, (some 2), fun _ => some true⟩]
noncomputable def r133_1 : List COp := [⟨fun a σ => .val (.bool true) σ, (some 2), fun _ => some true⟩]
noncomputable def run133 (E : Env) (ro : Option Nat) (fn : FuncId) : RunF := (seqR (fops E ro r133_0) (seqR (fops E ro r133_1) retR))
theorem r133_0_go (E : Env) (ro : Option Nat) (a : FAct) (u : Option FrameMode) (σ : FState) : fops E ro r133_0 a u σ = fops E ro [⟨fun a σ => .val (.bool false) σ, (some 2), fun _ => some true⟩] a u σ := rfl
theorem r133_1_go (E : Env) (ro : Option Nat) (a : FAct) (u : Option FrameMode) (σ : FState) : fops E ro r133_1 a u σ = fops E ro [⟨fun a σ => .val (.bool true) σ, (some 2), fun _ => some true⟩] a u σ := rfl
theorem code133 (E : Env) (ro : Option Nat) (fn : FuncId) : code Tryz.prog nls (Tryz.f133.body.getD .skip) E ro fn = run133 E ro fn := by kernel_rfl
theorem enter133 (E : Env) (args : List Value) (u : Option FrameMode) (σ : FState) (hn : args.length ≤ (1 : Nat)) : fcall Tryz.prog nls E 133 args u σ = leaveR Tryz.prog E [.tmp 2] (run133 E none 133 ⟨padTo undef 1 args, fun _ => undef, 1, 3, []⟩ u σ) := by
  rw [fcall_of (body := Tryz.f133.body.getD .skip) Tryz.func133 rfl E args u σ 1 3 (by kernel_rfl) rfl ⟨hn, by decide⟩, code133]
  rfl
/-! (caracole/datum.number).inspectNum -/
noncomputable def r129_0 : List COp := [⟨fun a σ => fbox 173 (a.get 0) σ, (some 1), fun _ => some true⟩]
noncomputable def r129_1 : List COp := [⟨fun a σ => .val (.int .i64 (-999999999)) σ, (some 2), fun _ => some true⟩,
  ⟨fun a σ => .val (.int .i64 999999999) σ, (some 3), fun _ => some true⟩]
noncomputable def r129_2 : List COp := [⟨fun a σ => ffield 0 (a.get 1) σ, (some 4), fun _ => some true⟩,
  ⟨fun a σ => ffield 0 (a.get 4) σ, (some 5), fun _ => some true⟩,
  ⟨fun a σ => fload none (a.get 5) σ, (some 6), fun _ => some true⟩,
  ⟨fun a σ => i_eql Tryz.prog 3 (.tmp 6) (.const (.int .i64 1)) (a.get 6) (.int .i64 1) σ, (some 7), fun _ => some true⟩]
noncomputable def r129_3 : List COp := [⟨fun a σ => .val (.int .i64 0) σ, (some 2), fun _ => some true⟩,
  ⟨fun a σ => .val (.int .i64 1) σ, (some 3), fun _ => some true⟩]
noncomputable def r129_4 : List COp := [⟨fun a σ => ffield 0 (a.get 1) σ, (some 8), fun _ => some true⟩,
  ⟨fun a σ => ffield 1 (a.get 8) σ, (some 9), fun _ => some true⟩,
  ⟨fun a σ => fload none (a.get 9) σ, (some 10), fun _ => some true⟩,
  ⟨fun a σ => .val (a.get 2) σ, (some 11), fun _ => some true⟩,
  ⟨fun a σ => i_lss Tryz.prog 3 (.tmp 10) (.tmp 11) (a.get 10) (a.get 11) σ, (some 12), fun _ => some true⟩,
  ⟨fun a σ => .val (a.get 12) σ, (some 13), fun _ => some true⟩,
  ⟨fun a σ => ffield 0 (a.get 1) σ, (some 14), fun a => gd (a.get 13) false⟩,
  ⟨fun a σ => ffield 1 (a.get 14) σ, (some 15), fun a => gd (a.get 13) false⟩,
  ⟨fun a σ => fload none (a.get 15) σ, (some 16), fun a => gd (a.get 13) false⟩,
  ⟨fun a σ => .val (a.get 3) σ, (some 17), fun a => gd (a.get 13) false⟩,
  ⟨fun a σ => i_gtr Tryz.prog 3 (.tmp 16) (.tmp 17) (a.get 16) (a.get 17) σ, (some 18), fun a => gd (a.get 13) false⟩,
  ⟨fun a σ => fpick (a.get 13) (.bool true) (a.get 18) σ, (some 19), fun _ => some true⟩]
noncomputable def r129_5 : List COp := [⟨fun a σ => .enter 111 [(.int .i64 13)] σ, (some 20), fun _ => some true⟩]
noncomputable def run129 (E : Env) (ro : Option Nat) (fn : FuncId) : RunF := (seqR (fops E ro r129_0) (seqR (fops E ro r129_1) (seqR (seqR (fops E ro r129_2) (condR (fun a => (a.get 7)) (fops E ro r129_3) skipR)) (seqR (fops E ro r129_4) (condR (fun a => (a.get 19)) (fops E ro r129_5) skipR)))))
theorem r129_0_go (E : Env) (ro : Option Nat) (a : FAct) (u : Option FrameMode) (σ : FState) : fops E ro r129_0 a u σ = fops E ro [⟨fun a σ => fbox 173 (a.get 0) σ, (some 1), fun _ => some true⟩] a u σ := rfl
theorem r129_1_go (E : Env) (ro : Option Nat) (a : FAct) (u : Option FrameMode) (σ : FState) : fops E ro r129_1 a u σ = fops E ro [⟨fun a σ => .val (.int .i64 (-999999999)) σ, (some 2), fun _ => some true⟩,
  ⟨fun a σ => .val (.int .i64 999999999) σ, (some 3), fun _ => some true⟩] a u σ := rfl
theorem r129_2_go (E : Env) (ro : Option Nat) (a : FAct) (u : Option FrameMode) (σ : FState) : fops E ro r129_2 a u σ = fops E ro [⟨fun a σ => ffield 0 (a.get 1) σ, (some 4), fun _ => some true⟩,
  ⟨fun a σ => ffield 0 (a.get 4) σ, (some 5), fun _ => some true⟩,
  ⟨fun a σ => fload none (a.get 5) σ, (some 6), fun _ => some true⟩,
  ⟨fun a σ => i_eql Tryz.prog 3 (.tmp 6) (.const (.int .i64 1)) (a.get 6) (.int .i64 1) σ, (some 7), fun _ => some true⟩] a u σ := rfl
theorem r129_3_go (E : Env) (ro : Option Nat) (a : FAct) (u : Option FrameMode) (σ : FState) : fops E ro r129_3 a u σ = fops E ro [⟨fun a σ => .val (.int .i64 0) σ, (some 2), fun _ => some true⟩,
  ⟨fun a σ => .val (.int .i64 1) σ, (some 3), fun _ => some true⟩] a u σ := rfl
theorem r129_4_go (E : Env) (ro : Option Nat) (a : FAct) (u : Option FrameMode) (σ : FState) : fops E ro r129_4 a u σ = fops E ro [⟨fun a σ => ffield 0 (a.get 1) σ, (some 8), fun _ => some true⟩,
  ⟨fun a σ => ffield 1 (a.get 8) σ, (some 9), fun _ => some true⟩,
  ⟨fun a σ => fload none (a.get 9) σ, (some 10), fun _ => some true⟩,
  ⟨fun a σ => .val (a.get 2) σ, (some 11), fun _ => some true⟩,
  ⟨fun a σ => i_lss Tryz.prog 3 (.tmp 10) (.tmp 11) (a.get 10) (a.get 11) σ, (some 12), fun _ => some true⟩,
  ⟨fun a σ => .val (a.get 12) σ, (some 13), fun _ => some true⟩,
  ⟨fun a σ => ffield 0 (a.get 1) σ, (some 14), fun a => gd (a.get 13) false⟩,
  ⟨fun a σ => ffield 1 (a.get 14) σ, (some 15), fun a => gd (a.get 13) false⟩,
  ⟨fun a σ => fload none (a.get 15) σ, (some 16), fun a => gd (a.get 13) false⟩,
  ⟨fun a σ => .val (a.get 3) σ, (some 17), fun a => gd (a.get 13) false⟩,
  ⟨fun a σ => i_gtr Tryz.prog 3 (.tmp 16) (.tmp 17) (a.get 16) (a.get 17) σ, (some 18), fun a => gd (a.get 13) false⟩,
  ⟨fun a σ => fpick (a.get 13) (.bool true) (a.get 18) σ, (some 19), fun _ => some true⟩] a u σ := rfl
theorem r129_5_go (E : Env) (ro : Option Nat) (a : FAct) (u : Option FrameMode) (σ : FState) : fops E ro r129_5 a u σ = fops E ro [⟨fun a σ => .enter 111 [(.int .i64 13)] σ, (some 20), fun _ => some true⟩] a u σ := rfl
theorem code129 (E : Env) (ro : Option Nat) (fn : FuncId) : code Tryz.prog nls (Tryz.f129.body.getD .skip) E ro fn = run129 E ro fn := by kernel_rfl
theorem enter129 (E : Env) (args : List Value) (u : Option FrameMode) (σ : FState) (hn : args.length ≤ (4 : Nat)) : fcall Tryz.prog nls E 129 args u σ = leaveR Tryz.prog E [] (run129 E none 129 ⟨padTo undef 4 args, fun _ => undef, 4, 21, []⟩ u σ) := by
  rw [fcall_of (body := Tryz.f129.body.getD .skip) Tryz.func129 rfl E args u σ 4 21 (by kernel_rfl) rfl ⟨hn, by decide⟩, code129]
  rfl
/-! (caracole/datum.text).inspectText -/
noncomputable def r130_0 : List COp := [⟨fun a σ => fbox 158 (a.get 0) σ, (some 1), fun _ => some true⟩]
noncomputable def r130_1 : List COp := [⟨fun a σ => ffield 0 (a.get 1) σ, (some 3), fun _ => some true⟩,
  ⟨fun a σ => ffield 0 (a.get 3) σ, (some 4), fun _ => some true⟩,
  ⟨fun a σ => fload none (a.get 4) σ, (some 5), fun _ => some true⟩,
  ⟨fun a σ => i_eql Tryz.prog 3 (.tmp 5) (.const (.int .i64 3)) (a.get 5) (.int .i64 3) σ, (some 6), fun _ => some true⟩,
  ⟨fun a σ => .val (a.get 6) σ, (some 7), fun _ => some true⟩,
  ⟨fun a σ => ffield 0 (a.get 1) σ, (some 8), fun a => gd (a.get 7) true⟩,
  ⟨fun a σ => ffield 2 (a.get 8) σ, (some 9), fun a => gd (a.get 7) true⟩,
  ⟨fun a σ => fload none (a.get 9) σ, (some 10), fun a => gd (a.get 7) true⟩,
  ⟨fun a σ => .enter 148 [(a.get 10)] σ, (some 11), fun a => gd (a.get 7) true⟩,
  ⟨fun a σ => fun1 Tryz.prog (Op.unary .not) (a.get 11) σ, (some 12), fun a => gd (a.get 7) true⟩,
  ⟨fun a σ => fpick (a.get 7) (a.get 12) (.bool false) σ, (some 13), fun _ => some true⟩,
  ⟨fun a σ => .val (a.get 13) σ, (some 2), fun _ => some true⟩]
noncomputable def r130_2 : List COp := [⟨fun a σ => .enter 111 [(.int .i64 2)] σ, (some 14), fun _ => some true⟩]
noncomputable def r130_3 : List COp := [⟨fun a σ => ffield 0 (a.get 1) σ, (some 16), fun _ => some true⟩,
  ⟨fun a σ => ffield 0 (a.get 16) σ, (some 17), fun _ => some true⟩,
  ⟨fun a σ => fload none (a.get 17) σ, (some 18), fun _ => some true⟩,
  ⟨fun a σ => i_eql Tryz.prog 3 (.tmp 18) (.const (.int .i64 4)) (a.get 18) (.int .i64 4) σ, (some 19), fun _ => some true⟩,
  ⟨fun a σ => .val (a.get 19) σ, (some 20), fun _ => some true⟩,
  ⟨fun a σ => ffield 0 (a.get 1) σ, (some 21), fun a => gd (a.get 20) true⟩,
  ⟨fun a σ => ffield 2 (a.get 21) σ, (some 22), fun a => gd (a.get 20) true⟩,
  ⟨fun a σ => fload none (a.get 22) σ, (some 23), fun a => gd (a.get 20) true⟩,
  ⟨fun a σ => flenS (a.get 23) σ, (some 24), fun a => gd (a.get 20) true⟩,
  ⟨fun a σ => i_gtr Tryz.prog 3 (.tmp 24) (.const (.int .i64 60)) (a.get 24) (.int .i64 60) σ, (some 25), fun a => gd (a.get 20) true⟩,
  ⟨fun a σ => fpick (a.get 20) (a.get 25) (.bool false) σ, (some 26), fun _ => some true⟩,
  ⟨fun a σ => .val (a.get 26) σ, (some 15), fun _ => some true⟩]
noncomputable def r130_4 : List COp := [⟨fun a σ => .enter 111 [(.int .i64 8)] σ, (some 27), fun _ => some true⟩]
noncomputable def r130_5 : List COp := [⟨fun a σ => ffield 0 (a.get 1) σ, (some 29), fun _ => some true⟩,
  ⟨fun a σ => ffield 0 (a.get 29) σ, (some 30), fun _ => some true⟩,
  ⟨fun a σ => fload none (a.get 30) σ, (some 31), fun _ => some true⟩,
  ⟨fun a σ => i_eql Tryz.prog 3 (.tmp 31) (.const (.int .i64 4)) (a.get 31) (.int .i64 4) σ, (some 32), fun _ => some true⟩,
  ⟨fun a σ => .val (a.get 32) σ, (some 33), fun _ => some true⟩,
  ⟨fun a σ => ffield 0 (a.get 1) σ, (some 34), fun a => gd (a.get 33) true⟩,
  ⟨fun a σ => ffield 2 (a.get 34) σ, (some 35), fun a => gd (a.get 33) true⟩,
  ⟨fun a σ => fload none (a.get 35) σ, (some 36), fun a => gd (a.get 33) true⟩,
  ⟨fun a σ => .enter 149 [(a.get 36)] σ, (some 37), fun a => gd (a.get 33) true⟩,
  ⟨fun a σ => fun1 Tryz.prog (Op.unary .not) (a.get 37) σ, (some 38), fun a => gd (a.get 33) true⟩,
  ⟨fun a σ => fpick (a.get 33) (a.get 38) (.bool false) σ, (some 39), fun _ => some true⟩,
  ⟨fun a σ => .val (a.get 39) σ, (some 28), fun _ => some true⟩]
noncomputable def r130_6 : List COp := [⟨fun a σ => .enter 111 [(.int .i64 13)] σ, (some 40), fun _ => some true⟩]
noncomputable def run130 (E : Env) (ro : Option Nat) (fn : FuncId) : RunF := (seqR (fops E ro r130_0) (blockR 0 (seqR (fops E ro r130_1) (condR (fun a => (a.get 2)) (fops E ro r130_2) (seqR (fops E ro r130_3) (condR (fun a => (a.get 15)) (fops E ro r130_4) (seqR (fops E ro r130_5) (condR (fun a => (a.get 28)) (fops E ro r130_6) skipR))))))))
theorem r130_0_go (E : Env) (ro : Option Nat) (a : FAct) (u : Option FrameMode) (σ : FState) : fops E ro r130_0 a u σ = fops E ro [⟨fun a σ => fbox 158 (a.get 0) σ, (some 1), fun _ => some true⟩] a u σ := rfl
theorem r130_1_go (E : Env) (ro : Option Nat) (a : FAct) (u : Option FrameMode) (σ : FState) : fops E ro r130_1 a u σ = fops E ro [⟨fun a σ => ffield 0 (a.get 1) σ, (some 3), fun _ => some true⟩,
  ⟨fun a σ => ffield 0 (a.get 3) σ, (some 4), fun _ => some true⟩,
  ⟨fun a σ => fload none (a.get 4) σ, (some 5), fun _ => some true⟩,
  ⟨fun a σ => i_eql Tryz.prog 3 (.tmp 5) (.const (.int .i64 3)) (a.get 5) (.int .i64 3) σ, (some 6), fun _ => some true⟩,
  ⟨fun a σ => .val (a.get 6) σ, (some 7), fun _ => some true⟩,
  ⟨fun a σ => ffield 0 (a.get 1) σ, (some 8), fun a => gd (a.get 7) true⟩,
  ⟨fun a σ => ffield 2 (a.get 8) σ, (some 9), fun a => gd (a.get 7) true⟩,
  ⟨fun a σ => fload none (a.get 9) σ, (some 10), fun a => gd (a.get 7) true⟩,
  ⟨fun a σ => .enter 148 [(a.get 10)] σ, (some 11), fun a => gd (a.get 7) true⟩,
  ⟨fun a σ => fun1 Tryz.prog (Op.unary .not) (a.get 11) σ, (some 12), fun a => gd (a.get 7) true⟩,
  ⟨fun a σ => fpick (a.get 7) (a.get 12) (.bool false) σ, (some 13), fun _ => some true⟩,
  ⟨fun a σ => .val (a.get 13) σ, (some 2), fun _ => some true⟩] a u σ := rfl
theorem r130_2_go (E : Env) (ro : Option Nat) (a : FAct) (u : Option FrameMode) (σ : FState) : fops E ro r130_2 a u σ = fops E ro [⟨fun a σ => .enter 111 [(.int .i64 2)] σ, (some 14), fun _ => some true⟩] a u σ := rfl
theorem r130_3_go (E : Env) (ro : Option Nat) (a : FAct) (u : Option FrameMode) (σ : FState) : fops E ro r130_3 a u σ = fops E ro [⟨fun a σ => ffield 0 (a.get 1) σ, (some 16), fun _ => some true⟩,
  ⟨fun a σ => ffield 0 (a.get 16) σ, (some 17), fun _ => some true⟩,
  ⟨fun a σ => fload none (a.get 17) σ, (some 18), fun _ => some true⟩,
  ⟨fun a σ => i_eql Tryz.prog 3 (.tmp 18) (.const (.int .i64 4)) (a.get 18) (.int .i64 4) σ, (some 19), fun _ => some true⟩,
  ⟨fun a σ => .val (a.get 19) σ, (some 20), fun _ => some true⟩,
  ⟨fun a σ => ffield 0 (a.get 1) σ, (some 21), fun a => gd (a.get 20) true⟩,
  ⟨fun a σ => ffield 2 (a.get 21) σ, (some 22), fun a => gd (a.get 20) true⟩,
  ⟨fun a σ => fload none (a.get 22) σ, (some 23), fun a => gd (a.get 20) true⟩,
  ⟨fun a σ => flenS (a.get 23) σ, (some 24), fun a => gd (a.get 20) true⟩,
  ⟨fun a σ => i_gtr Tryz.prog 3 (.tmp 24) (.const (.int .i64 60)) (a.get 24) (.int .i64 60) σ, (some 25), fun a => gd (a.get 20) true⟩,
  ⟨fun a σ => fpick (a.get 20) (a.get 25) (.bool false) σ, (some 26), fun _ => some true⟩,
  ⟨fun a σ => .val (a.get 26) σ, (some 15), fun _ => some true⟩] a u σ := rfl
theorem r130_4_go (E : Env) (ro : Option Nat) (a : FAct) (u : Option FrameMode) (σ : FState) : fops E ro r130_4 a u σ = fops E ro [⟨fun a σ => .enter 111 [(.int .i64 8)] σ, (some 27), fun _ => some true⟩] a u σ := rfl
theorem r130_5_go (E : Env) (ro : Option Nat) (a : FAct) (u : Option FrameMode) (σ : FState) : fops E ro r130_5 a u σ = fops E ro [⟨fun a σ => ffield 0 (a.get 1) σ, (some 29), fun _ => some true⟩,
  ⟨fun a σ => ffield 0 (a.get 29) σ, (some 30), fun _ => some true⟩,
  ⟨fun a σ => fload none (a.get 30) σ, (some 31), fun _ => some true⟩,
  ⟨fun a σ => i_eql Tryz.prog 3 (.tmp 31) (.const (.int .i64 4)) (a.get 31) (.int .i64 4) σ, (some 32), fun _ => some true⟩,
  ⟨fun a σ => .val (a.get 32) σ, (some 33), fun _ => some true⟩,
  ⟨fun a σ => ffield 0 (a.get 1) σ, (some 34), fun a => gd (a.get 33) true⟩,
  ⟨fun a σ => ffield 2 (a.get 34) σ, (some 35), fun a => gd (a.get 33) true⟩,
  ⟨fun a σ => fload none (a.get 35) σ, (some 36), fun a => gd (a.get 33) true⟩,
  ⟨fun a σ => .enter 149 [(a.get 36)] σ, (some 37), fun a => gd (a.get 33) true⟩,
  ⟨fun a σ => fun1 Tryz.prog (Op.unary .not) (a.get 37) σ, (some 38), fun a => gd (a.get 33) true⟩,
  ⟨fun a σ => fpick (a.get 33) (a.get 38) (.bool false) σ, (some 39), fun _ => some true⟩,
  ⟨fun a σ => .val (a.get 39) σ, (some 28), fun _ => some true⟩] a u σ := rfl
theorem r130_6_go (E : Env) (ro : Option Nat) (a : FAct) (u : Option FrameMode) (σ : FState) : fops E ro r130_6 a u σ = fops E ro [⟨fun a σ => .enter 111 [(.int .i64 13)] σ, (some 40), fun _ => some true⟩] a u σ := rfl
theorem code130 (E : Env) (ro : Option Nat) (fn : FuncId) : code Tryz.prog nls (Tryz.f130.body.getD .skip) E ro fn = run130 E ro fn := by kernel_rfl
theorem enter130 (E : Env) (args : List Value) (u : Option FrameMode) (σ : FState) (hn : args.length ≤ (2 : Nat)) : fcall Tryz.prog nls E 130 args u σ = leaveR Tryz.prog E [] (run130 E none 130 ⟨padTo undef 2 args, fun _ => undef, 2, 41, []⟩ u σ) := by
  rw [fcall_of (body := Tryz.f130.body.getD .skip) Tryz.func130 rfl E args u σ 2 41 (by kernel_rfl) rfl ⟨hn, by decide⟩, code130]
  rfl
/-! (caracole/datum.text).formed -/
noncomputable def r206_0 : List COp := [⟨fun a σ => fbox 158 (a.get 0) σ, (some 1), fun _ => some true⟩,
  ⟨fun a σ => .val (.bool false) σ, (some 2), fun _ => some true⟩]
noncomputable def r206_1 : List COp := [⟨fun a σ => ffield 0 (a.get 1) σ, (some 3), fun _ => some true⟩,
  ⟨fun a σ => ffield 1 (a.get 3) σ, (some 4), fun _ => some true⟩,
  ⟨fun a σ => fload none (a.get 4) σ, (some 5), fun _ => some true⟩,
  ⟨fun a σ => i_eql Tryz.prog 3 (.tmp 5) (.const (.int .i64 0)) (a.get 5) (.int .i64 0) σ, (some 6), fun _ => some true⟩,
  ⟨fun a σ => .val (a.get 6) σ, (some 7), fun _ => some true⟩,
  ⟨fun a σ => ffield 0 (a.get 1) σ, (some 8), fun a => gd (a.get 7) true⟩,
  ⟨fun a σ => ffield 3 (a.get 8) σ, (some 9), fun a => gd (a.get 7) true⟩,
  ⟨fun a σ => fload none (a.get 9) σ, (some 10), fun a => gd (a.get 7) true⟩,
  ⟨fun a σ => flenL (a.get 10) σ, (some 11), fun a => gd (a.get 7) true⟩,
  ⟨fun a σ => i_eql Tryz.prog 3 (.tmp 11) (.const (.int .i64 0)) (a.get 11) (.int .i64 0) σ, (some 12), fun a => gd (a.get 7) true⟩,
  ⟨fun a σ => fpick (a.get 7) (a.get 12) (.bool false) σ, (some 13), fun _ => some true⟩,
  ⟨fun a σ => .val (a.get 13) σ, (some 2), fun _ => some true⟩]
noncomputable def run206 (E : Env) (ro : Option Nat) (fn : FuncId) : RunF := (seqR (fops E ro r206_0) (seqR (fops E ro r206_1) retR))
theorem r206_0_go (E : Env) (ro : Option Nat) (a : FAct) (u : Option FrameMode) (σ : FState) : fops E ro r206_0 a u σ = fops E ro [⟨fun a σ => fbox 158 (a.get 0) σ, (some 1), fun _ => some true⟩,
  ⟨fun a σ => .val (.bool false) σ, (some 2), fun _ => some true⟩] a u σ := rfl
theorem r206_1_go (E : Env) (ro : Option Nat) (a : FAct) (u : Option FrameMode) (σ : FState) : fops E ro r206_1 a u σ = fops E ro [⟨fun a σ => ffield 0 (a.get 1) σ, (some 3), fun _ => some true⟩,
  ⟨fun a σ => ffield 1 (a.get 3) σ, (some 4), fun _ => some true⟩,
  ⟨fun a σ => fload none (a.get 4) σ, (some 5), fun _ => some true⟩,
  ⟨fun a σ => i_eql Tryz.prog 3 (.tmp 5) (.const (.int .i64 0)) (a.get 5) (.int .i64 0) σ, (some 6), fun _ => some true⟩,
  ⟨fun a σ => .val (a.get 6) σ, (some 7), fun _ => some true⟩,
  ⟨fun a σ => ffield 0 (a.get 1) σ, (some 8), fun a => gd (a.get 7) true⟩,
  ⟨fun a σ => ffield 3 (a.get 8) σ, (some 9), fun a => gd (a.get 7) true⟩,
  ⟨fun a σ => fload none (a.get 9) σ, (some 10), fun a => gd (a.get 7) true⟩,
  ⟨fun a σ => flenL (a.get 10) σ, (some 11), fun a => gd (a.get 7) true⟩,
  ⟨fun a σ => i_eql Tryz.prog 3 (.tmp 11) (.const (.int .i64 0)) (a.get 11) (.int .i64 0) σ, (some 12), fun a => gd (a.get 7) true⟩,
  ⟨fun a σ => fpick (a.get 7) (a.get 12) (.bool false) σ, (some 13), fun _ => some true⟩,
  ⟨fun a σ => .val (a.get 13) σ, (some 2), fun _ => some true⟩] a u σ := rfl
theorem code206 (E : Env) (ro : Option Nat) (fn : FuncId) : code Tryz.prog nls (Tryz.f206.body.getD .skip) E ro fn = run206 E ro fn := by kernel_rfl
theorem enter206 (E : Env) (args : List Value) (u : Option FrameMode) (σ : FState) (hn : args.length ≤ (2 : Nat)) : fcall Tryz.prog nls E 206 args u σ = leaveR Tryz.prog E [.tmp 2] (run206 E none 206 ⟨padTo undef 2 args, fun _ => undef, 2, 14, []⟩ u σ) := by
  rw [fcall_of (body := Tryz.f206.body.getD .skip) Tryz.func206 rfl E args u σ 2 14 (by kernel_rfl) rfl ⟨hn, by decide⟩, code206]
  rfl
/-! (caracole/datum.number).formed -/
noncomputable def r212_0 : List COp := [⟨fun a σ => fbox 173 (a.get 0) σ, (some 1), fun _ => some true⟩,
  ⟨fun a σ => .val (.bool false) σ, (some 2), fun _ => some true⟩]
noncomputable def r212_1 : List COp := [⟨fun a σ => ffield 0 (a.get 1) σ, (some 3), fun _ => some true⟩,
  ⟨fun a σ => ffield 2 (a.get 3) σ, (some 4), fun _ => some true⟩,
  ⟨fun a σ => fload none (a.get 4) σ, (some 5), fun _ => some true⟩,
  ⟨fun a σ => i_eql Tryz.prog 9 (.tmp 5) (.const (.string ⟨#[]⟩)) (a.get 5) (.string ⟨#[]⟩) σ, (some 6), fun _ => some true⟩,
  ⟨fun a σ => .val (a.get 6) σ, (some 7), fun _ => some true⟩,
  ⟨fun a σ => ffield 0 (a.get 1) σ, (some 8), fun a => gd (a.get 7) true⟩,
  ⟨fun a σ => ffield 3 (a.get 8) σ, (some 9), fun a => gd (a.get 7) true⟩,
  ⟨fun a σ => fload none (a.get 9) σ, (some 10), fun a => gd (a.get 7) true⟩,
  ⟨fun a σ => flenL (a.get 10) σ, (some 11), fun a => gd (a.get 7) true⟩,
  ⟨fun a σ => i_eql Tryz.prog 3 (.tmp 11) (.const (.int .i64 0)) (a.get 11) (.int .i64 0) σ, (some 12), fun a => gd (a.get 7) true⟩,
  ⟨fun a σ => fpick (a.get 7) (a.get 12) (.bool false) σ, (some 13), fun _ => some true⟩,
  ⟨fun a σ => .val (a.get 13) σ, (some 2), fun _ => some true⟩]
noncomputable def run212 (E : Env) (ro : Option Nat) (fn : FuncId) : RunF := (seqR (fops E ro r212_0) (seqR (fops E ro r212_1) retR))
theorem r212_0_go (E : Env) (ro : Option Nat) (a : FAct) (u : Option FrameMode) (σ : FState) : fops E ro r212_0 a u σ = fops E ro [⟨fun a σ => fbox 173 (a.get 0) σ, (some 1), fun _ => some true⟩,
  ⟨fun a σ => .val (.bool false) σ, (some 2), fun _ => some true⟩] a u σ := rfl
theorem r212_1_go (E : Env) (ro : Option Nat) (a : FAct) (u : Option FrameMode) (σ : FState) : fops E ro r212_1 a u σ = fops E ro [⟨fun a σ => ffield 0 (a.get 1) σ, (some 3), fun _ => some true⟩,
  ⟨fun a σ => ffield 2 (a.get 3) σ, (some 4), fun _ => some true⟩,
  ⟨fun a σ => fload none (a.get 4) σ, (some 5), fun _ => some true⟩,
  ⟨fun a σ => i_eql Tryz.prog 9 (.tmp 5) (.const (.string ⟨#[]⟩)) (a.get 5) (.string ⟨#[]⟩) σ, (some 6), fun _ => some true⟩,
  ⟨fun a σ => .val (a.get 6) σ, (some 7), fun _ => some true⟩,
  ⟨fun a σ => ffield 0 (a.get 1) σ, (some 8), fun a => gd (a.get 7) true⟩,
  ⟨fun a σ => ffield 3 (a.get 8) σ, (some 9), fun a => gd (a.get 7) true⟩,
  ⟨fun a σ => fload none (a.get 9) σ, (some 10), fun a => gd (a.get 7) true⟩,
  ⟨fun a σ => flenL (a.get 10) σ, (some 11), fun a => gd (a.get 7) true⟩,
  ⟨fun a σ => i_eql Tryz.prog 3 (.tmp 11) (.const (.int .i64 0)) (a.get 11) (.int .i64 0) σ, (some 12), fun a => gd (a.get 7) true⟩,
  ⟨fun a σ => fpick (a.get 7) (a.get 12) (.bool false) σ, (some 13), fun _ => some true⟩,
  ⟨fun a σ => .val (a.get 13) σ, (some 2), fun _ => some true⟩] a u σ := rfl
theorem code212 (E : Env) (ro : Option Nat) (fn : FuncId) : code Tryz.prog nls (Tryz.f212.body.getD .skip) E ro fn = run212 E ro fn := by kernel_rfl
theorem enter212 (E : Env) (args : List Value) (u : Option FrameMode) (σ : FState) (hn : args.length ≤ (2 : Nat)) : fcall Tryz.prog nls E 212 args u σ = leaveR Tryz.prog E [.tmp 2] (run212 E none 212 ⟨padTo undef 2 args, fun _ => undef, 2, 14, []⟩ u σ) := by
  rw [fcall_of (body := Tryz.f212.body.getD .skip) Tryz.func212 rfl E args u σ 2 14 (by kernel_rfl) rfl ⟨hn, by decide⟩, code212]
  rfl
/-! (caracole/datum.empty).formed -/
noncomputable def r214_0 : List COp := [⟨fun a σ => fbox 174 (a.get 0) σ, (some 1), fun _ => some true⟩,
  ⟨fun a σ => .val (.bool false) σ, (some 2), fun _ => some true⟩]
noncomputable def r214_1 : List COp := [⟨fun a σ => ffield 0 (a.get 1) σ, (some 3), fun _ => some true⟩,
  ⟨fun a σ => ffield 1 (a.get 3) σ, (some 4), fun _ => some true⟩,
  ⟨fun a σ => fload none (a.get 4) σ, (some 5), fun _ => some true⟩,
  ⟨fun a σ => i_eql Tryz.prog 3 (.tmp 5) (.const (.int .i64 0)) (a.get 5) (.int .i64 0) σ, (some 6), fun _ => some true⟩,
  ⟨fun a σ => .val (a.get 6) σ, (some 7), fun _ => some true⟩,
  ⟨fun a σ => ffield 0 (a.get 1) σ, (some 8), fun a => gd (a.get 7) true⟩,
  ⟨fun a σ => ffield 2 (a.get 8) σ, (some 9), fun a => gd (a.get 7) true⟩,
  ⟨fun a σ => fload none (a.get 9) σ, (some 10), fun a => gd (a.get 7) true⟩,
  ⟨fun a σ => i_eql Tryz.prog 9 (.tmp 10) (.const (.string ⟨#[]⟩)) (a.get 10) (.string ⟨#[]⟩) σ, (some 11), fun a => gd (a.get 7) true⟩,
  ⟨fun a σ => fpick (a.get 7) (a.get 11) (.bool false) σ, (some 12), fun _ => some true⟩,
  ⟨fun a σ => .val (a.get 12) σ, (some 13), fun _ => some true⟩,
  ⟨fun a σ => ffield 0 (a.get 1) σ, (some 14), fun a => gd (a.get 13) true⟩,
  ⟨fun a σ => ffield 3 (a.get 14) σ, (some 15), fun a => gd (a.get 13) true⟩,
  ⟨fun a σ => fload none (a.get 15) σ, (some 16), fun a => gd (a.get 13) true⟩,
  ⟨fun a σ => flenL (a.get 16) σ, (some 17), fun a => gd (a.get 13) true⟩,
  ⟨fun a σ => i_eql Tryz.prog 3 (.tmp 17) (.const (.int .i64 0)) (a.get 17) (.int .i64 0) σ, (some 18), fun a => gd (a.get 13) true⟩,
  ⟨fun a σ => fpick (a.get 13) (a.get 18) (.bool false) σ, (some 19), fun _ => some true⟩,
  ⟨fun a σ => .val (a.get 19) σ, (some 2), fun _ => some true⟩]
noncomputable def run214 (E : Env) (ro : Option Nat) (fn : FuncId) : RunF := (seqR (fops E ro r214_0) (seqR (fops E ro r214_1) retR))
theorem r214_0_go (E : Env) (ro : Option Nat) (a : FAct) (u : Option FrameMode) (σ : FState) : fops E ro r214_0 a u σ = fops E ro [⟨fun a σ => fbox 174 (a.get 0) σ, (some 1), fun _ => some true⟩,
  ⟨fun a σ => .val (.bool false) σ, (some 2), fun _ => some true⟩] a u σ := rfl
theorem r214_1_go (E : Env) (ro : Option Nat) (a : FAct) (u : Option FrameMode) (σ : FState) : fops E ro r214_1 a u σ = fops E ro [⟨fun a σ => ffield 0 (a.get 1) σ, (some 3), fun _ => some true⟩,
  ⟨fun a σ => ffield 1 (a.get 3) σ, (some 4), fun _ => some true⟩,
  ⟨fun a σ => fload none (a.get 4) σ, (some 5), fun _ => some true⟩,
  ⟨fun a σ => i_eql Tryz.prog 3 (.tmp 5) (.const (.int .i64 0)) (a.get 5) (.int .i64 0) σ, (some 6), fun _ => some true⟩,
  ⟨fun a σ => .val (a.get 6) σ, (some 7), fun _ => some true⟩,
  ⟨fun a σ => ffield 0 (a.get 1) σ, (some 8), fun a => gd (a.get 7) true⟩,
  ⟨fun a σ => ffield 2 (a.get 8) σ, (some 9), fun a => gd (a.get 7) true⟩,
  ⟨fun a σ => fload none (a.get 9) σ, (some 10), fun a => gd (a.get 7) true⟩,
  ⟨fun a σ => i_eql Tryz.prog 9 (.tmp 10) (.const (.string ⟨#[]⟩)) (a.get 10) (.string ⟨#[]⟩) σ, (some 11), fun a => gd (a.get 7) true⟩,
  ⟨fun a σ => fpick (a.get 7) (a.get 11) (.bool false) σ, (some 12), fun _ => some true⟩,
  ⟨fun a σ => .val (a.get 12) σ, (some 13), fun _ => some true⟩,
  ⟨fun a σ => ffield 0 (a.get 1) σ, (some 14), fun a => gd (a.get 13) true⟩,
  ⟨fun a σ => ffield 3 (a.get 14) σ, (some 15), fun a => gd (a.get 13) true⟩,
  ⟨fun a σ => fload none (a.get 15) σ, (some 16), fun a => gd (a.get 13) true⟩,
  ⟨fun a σ => flenL (a.get 16) σ, (some 17), fun a => gd (a.get 13) true⟩,
  ⟨fun a σ => i_eql Tryz.prog 3 (.tmp 17) (.const (.int .i64 0)) (a.get 17) (.int .i64 0) σ, (some 18), fun a => gd (a.get 13) true⟩,
  ⟨fun a σ => fpick (a.get 13) (a.get 18) (.bool false) σ, (some 19), fun _ => some true⟩,
  ⟨fun a σ => .val (a.get 19) σ, (some 2), fun _ => some true⟩] a u σ := rfl
theorem code214 (E : Env) (ro : Option Nat) (fn : FuncId) : code Tryz.prog nls (Tryz.f214.body.getD .skip) E ro fn = run214 E ro fn := by kernel_rfl
theorem enter214 (E : Env) (args : List Value) (u : Option FrameMode) (σ : FState) (hn : args.length ≤ (2 : Nat)) : fcall Tryz.prog nls E 214 args u σ = leaveR Tryz.prog E [.tmp 2] (run214 E none 214 ⟨padTo undef 2 args, fun _ => undef, 2, 20, []⟩ u σ) := by
  rw [fcall_of (body := Tryz.f214.body.getD .skip) Tryz.func214 rfl E args u σ 2 20 (by kernel_rfl) rfl ⟨hn, by decide⟩, code214]
  rfl
/-! (caracole/datum.branch).formed -/
noncomputable def r216_0 : List COp := [⟨fun a σ => fbox 175 (a.get 0) σ, (some 1), fun _ => some true⟩,
  ⟨fun a σ => .val (.bool false) σ, (some 2), fun _ => some true⟩]
noncomputable def r216_1 : List COp := [⟨fun a σ => ffield 0 (a.get 1) σ, (some 3), fun _ => some true⟩,
  ⟨fun a σ => ffield 1 (a.get 3) σ, (some 4), fun _ => some true⟩,
  ⟨fun a σ => fload none (a.get 4) σ, (some 5), fun _ => some true⟩,
  ⟨fun a σ => i_eql Tryz.prog 3 (.tmp 5) (.const (.int .i64 0)) (a.get 5) (.int .i64 0) σ, (some 6), fun _ => some true⟩,
  ⟨fun a σ => .val (a.get 6) σ, (some 7), fun _ => some true⟩,
  ⟨fun a σ => ffield 0 (a.get 1) σ, (some 8), fun a => gd (a.get 7) true⟩,
  ⟨fun a σ => ffield 2 (a.get 8) σ, (some 9), fun a => gd (a.get 7) true⟩,
  ⟨fun a σ => fload none (a.get 9) σ, (some 10), fun a => gd (a.get 7) true⟩,
  ⟨fun a σ => i_eql Tryz.prog 9 (.tmp 10) (.const (.string ⟨#[]⟩)) (a.get 10) (.string ⟨#[]⟩) σ, (some 11), fun a => gd (a.get 7) true⟩,
  ⟨fun a σ => fpick (a.get 7) (a.get 11) (.bool false) σ, (some 12), fun _ => some true⟩,
  ⟨fun a σ => .val (a.get 12) σ, (some 13), fun _ => some true⟩,
  ⟨fun a σ => ffield 0 (a.get 1) σ, (some 14), fun a => gd (a.get 13) true⟩,
  ⟨fun a σ => ffield 0 (a.get 14) σ, (some 15), fun a => gd (a.get 13) true⟩,
  ⟨fun a σ => fload none (a.get 15) σ, (some 16), fun a => gd (a.get 13) true⟩,
  ⟨fun a σ => i_eql Tryz.prog 3 (.tmp 16) (.const (.int .i64 6)) (a.get 16) (.int .i64 6) σ, (some 17), fun a => gd (a.get 13) true⟩,
  ⟨fun a σ => .val (a.get 17) σ, (some 18), fun a => gd (a.get 13) true⟩,
  ⟨fun a σ => ffield 0 (a.get 1) σ, (some 19), fun a => gd (a.get 18) false⟩,
  ⟨fun a σ => ffield 3 (a.get 19) σ, (some 20), fun a => gd (a.get 18) false⟩,
  ⟨fun a σ => fload none (a.get 20) σ, (some 21), fun a => gd (a.get 18) false⟩,
  ⟨fun a σ => flenL (a.get 21) σ, (some 22), fun a => gd (a.get 18) false⟩,
  ⟨fun a σ => i_eql Tryz.prog 3 (.tmp 22) (.const (.int .i64 2)) (a.get 22) (.int .i64 2) σ, (some 23), fun a => gd (a.get 18) false⟩,
  ⟨fun a σ => fpick (a.get 18) (.bool true) (a.get 23) σ, (some 24), fun a => gd (a.get 13) true⟩,
  ⟨fun a σ => fpick (a.get 13) (a.get 24) (.bool false) σ, (some 25), fun _ => some true⟩,
  ⟨fun a σ => .val (a.get 25) σ, (some 2), fun _ => some true⟩]
noncomputable def run216 (E : Env) (ro : Option Nat) (fn : FuncId) : RunF := (seqR (fops E ro r216_0) (seqR (fops E ro r216_1) retR))
theorem r216_0_go (E : Env) (ro : Option Nat) (a : FAct) (u : Option FrameMode) (σ : FState) : fops E ro r216_0 a u σ = fops E ro [⟨fun a σ => fbox 175 (a.get 0) σ, (some 1), fun _ => some true⟩,
  ⟨fun a σ => .val (.bool false) σ, (some 2), fun _ => some true⟩] a u σ := rfl
theorem r216_1_go (E : Env) (ro : Option Nat) (a : FAct) (u : Option FrameMode) (σ : FState) : fops E ro r216_1 a u σ = fops E ro [⟨fun a σ => ffield 0 (a.get 1) σ, (some 3), fun _ => some true⟩,
  ⟨fun a σ => ffield 1 (a.get 3) σ, (some 4), fun _ => some true⟩,
  ⟨fun a σ => fload none (a.get 4) σ, (some 5), fun _ => some true⟩,
  ⟨fun a σ => i_eql Tryz.prog 3 (.tmp 5) (.const (.int .i64 0)) (a.get 5) (.int .i64 0) σ, (some 6), fun _ => some true⟩,
  ⟨fun a σ => .val (a.get 6) σ, (some 7), fun _ => some true⟩,
  ⟨fun a σ => ffield 0 (a.get 1) σ, (some 8), fun a => gd (a.get 7) true⟩,
  ⟨fun a σ => ffield 2 (a.get 8) σ, (some 9), fun a => gd (a.get 7) true⟩,
  ⟨fun a σ => fload none (a.get 9) σ, (some 10), fun a => gd (a.get 7) true⟩,
  ⟨fun a σ => i_eql Tryz.prog 9 (.tmp 10) (.const (.string ⟨#[]⟩)) (a.get 10) (.string ⟨#[]⟩) σ, (some 11), fun a => gd (a.get 7) true⟩,
  ⟨fun a σ => fpick (a.get 7) (a.get 11) (.bool false) σ, (some 12), fun _ => some true⟩,
  ⟨fun a σ => .val (a.get 12) σ, (some 13), fun _ => some true⟩,
  ⟨fun a σ => ffield 0 (a.get 1) σ, (some 14), fun a => gd (a.get 13) true⟩,
  ⟨fun a σ => ffield 0 (a.get 14) σ, (some 15), fun a => gd (a.get 13) true⟩,
  ⟨fun a σ => fload none (a.get 15) σ, (some 16), fun a => gd (a.get 13) true⟩,
  ⟨fun a σ => i_eql Tryz.prog 3 (.tmp 16) (.const (.int .i64 6)) (a.get 16) (.int .i64 6) σ, (some 17), fun a => gd (a.get 13) true⟩,
  ⟨fun a σ => .val (a.get 17) σ, (some 18), fun a => gd (a.get 13) true⟩,
  ⟨fun a σ => ffield 0 (a.get 1) σ, (some 19), fun a => gd (a.get 18) false⟩,
  ⟨fun a σ => ffield 3 (a.get 19) σ, (some 20), fun a => gd (a.get 18) false⟩,
  ⟨fun a σ => fload none (a.get 20) σ, (some 21), fun a => gd (a.get 18) false⟩,
  ⟨fun a σ => flenL (a.get 21) σ, (some 22), fun a => gd (a.get 18) false⟩,
  ⟨fun a σ => i_eql Tryz.prog 3 (.tmp 22) (.const (.int .i64 2)) (a.get 22) (.int .i64 2) σ, (some 23), fun a => gd (a.get 18) false⟩,
  ⟨fun a σ => fpick (a.get 18) (.bool true) (a.get 23) σ, (some 24), fun a => gd (a.get 13) true⟩,
  ⟨fun a σ => fpick (a.get 13) (a.get 24) (.bool false) σ, (some 25), fun _ => some true⟩,
  ⟨fun a σ => .val (a.get 25) σ, (some 2), fun _ => some true⟩] a u σ := rfl
theorem code216 (E : Env) (ro : Option Nat) (fn : FuncId) : code Tryz.prog nls (Tryz.f216.body.getD .skip) E ro fn = run216 E ro fn := by kernel_rfl
theorem enter216 (E : Env) (args : List Value) (u : Option FrameMode) (σ : FState) (hn : args.length ≤ (2 : Nat)) : fcall Tryz.prog nls E 216 args u σ = leaveR Tryz.prog E [.tmp 2] (run216 E none 216 ⟨padTo undef 2 args, fun _ => undef, 2, 26, []⟩ u σ) := by
  rw [fcall_of (body := Tryz.f216.body.getD .skip) Tryz.func216 rfl E args u σ 2 26 (by kernel_rfl) rfl ⟨hn, by decide⟩, code216]
  rfl
/-! caracole/datum.isSymbol -/
noncomputable def r148_0 : List COp := [⟨fun a σ => .val (.bool false) σ, (some 2), fun _ => some true⟩]
noncomputable def r148_1 : List COp := [⟨fun a σ => .val (a.get 0) σ, (some 4), fun _ => some true⟩,
  ⟨fun a σ => flenS (a.get 4) σ, (some 5), fun _ => some true⟩,
  ⟨fun a σ => i_eql Tryz.prog 3 (.tmp 5) (.const (.int .i64 0)) (a.get 5) (.int .i64 0) σ, (some 6), fun _ => some true⟩,
  ⟨fun a σ => .val (a.get 6) σ, (some 7), fun _ => some true⟩,
  ⟨fun a σ => .val (a.get 0) σ, (some 8), fun a => gd (a.get 7) false⟩,
  ⟨fun a σ => flenS (a.get 8) σ, (some 9), fun a => gd (a.get 7) false⟩,
  ⟨fun a σ => i_gtr Tryz.prog 3 (.tmp 9) (.const (.int .i64 20)) (a.get 9) (.int .i64 20) σ, (some 10), fun a => gd (a.get 7) false⟩,
  ⟨fun a σ => fpick (a.get 7) (.bool true) (a.get 10) σ, (some 11), fun _ => some true⟩]
noncomputable def r148_2 : List COp := [⟨fun a σ => .val (.bool false) σ, (some 2), fun _ => some true⟩]
noncomputable def r148_3 : List COp := [⟨fun a σ => .val (a.get 0) σ, (some 12), fun _ => some true⟩,
  ⟨fun a σ => flenS (a.get 12) σ, (some 13), fun _ => some true⟩,
  ⟨fun a σ => .val (.int .i64 0) σ, (some 14), fun _ => some true⟩]
noncomputable def r148_4 : List COp := [⟨fun a σ => i_lss Tryz.prog 3 (.tmp 14) (.tmp 13) (a.get 14) (a.get 13) σ, (some 15), fun _ => some true⟩]
noncomputable def r148_5 : List COp := [⟨fun a σ => .val (a.get 14) σ, (some 16), fun _ => some true⟩,
  ⟨fun a σ => .val (a.get 16) σ, (some 3), fun _ => some true⟩]
noncomputable def r148_6 : List COp := [⟨fun a σ => .val (a.get 0) σ, (some 17), fun _ => some true⟩,
  ⟨fun a σ => .val (a.get 3) σ, (some 18), fun _ => some true⟩,
  ⟨fun a σ => findexS (a.get 17) (a.get 18) σ, (some 19), fun _ => some true⟩,
  ⟨fun a σ => fun1 Tryz.prog (convert 5 21) (a.get 19) σ, (some 20), fun _ => some true⟩,
  ⟨fun a σ => .enter 166 [(a.get 20)] σ, (some 21), fun _ => some true⟩]
noncomputable def r148_7 : List COp := [⟨fun a σ => i_eql Tryz.prog 211 (.tmp 21) (.const (.int .i64 2)) (a.get 21) (.int .i64 2) σ, (some 23), fun _ => some true⟩,
  ⟨fun a σ => .val (a.get 23) σ, (some 22), fun _ => some true⟩]
noncomputable def r148_8 : List COp := [⟨fun a σ => i_eql Tryz.prog 211 (.tmp 21) (.const (.int .i64 0)) (a.get 21) (.int .i64 0) σ, (some 25), fun _ => some true⟩,
  ⟨fun a σ => .val (a.get 25) σ, (some 24), fun _ => some true⟩]
noncomputable def r148_9 : List COp := [⟨fun a σ => .val (a.get 3) σ, (some 26), fun _ => some true⟩,
  ⟨fun a σ => i_gtr Tryz.prog 3 (.tmp 26) (.const (.int .i64 1)) (a.get 26) (.int .i64 1) σ, (some 27), fun _ => some true⟩,
  ⟨fun a σ => .val (a.get 27) σ, (some 28), fun _ => some true⟩,
  ⟨fun a σ => .val (a.get 3) σ, (some 29), fun a => gd (a.get 28) false⟩,
  ⟨fun a σ => i_eql Tryz.prog 3 (.tmp 29) (.const (.int .i64 1)) (a.get 29) (.int .i64 1) σ, (some 30), fun a => gd (a.get 28) false⟩,
  ⟨fun a σ => .val (a.get 30) σ, (some 31), fun a => gd (a.get 28) false⟩,
  ⟨fun a σ => .val (a.get 0) σ, (some 32), fun a => gd (a.get 31) true⟩,
  ⟨fun a σ => findexS (a.get 32) (.int .i64 0) σ, (some 33), fun a => gd (a.get 31) true⟩,
  ⟨fun a σ => i_neq Tryz.prog 5 (.tmp 33) (.const (.int .u8 45)) (a.get 33) (.int .u8 45) σ, (some 34), fun a => gd (a.get 31) true⟩,
  ⟨fun a σ => fpick (a.get 31) (a.get 34) (.bool false) σ, (some 35), fun a => gd (a.get 28) false⟩,
  ⟨fun a σ => fpick (a.get 28) (.bool true) (a.get 35) σ, (some 36), fun _ => some true⟩]
noncomputable def r148_10 : List COp := [⟨fun a σ => .val (.bool false) σ, (some 2), fun _ => some true⟩]
noncomputable def r148_11 : List COp := [⟨fun a σ => i_add Tryz.prog 3 (.tmp 14) (.const (.int .i64 1)) (a.get 14) (.int .i64 1) σ, (some 37), fun _ => some true⟩,
  ⟨fun a σ => .val (a.get 37) σ, (some 14), fun _ => some true⟩]
noncomputable def l148_0 (E : Env) (ro : Option Nat) (fn : FuncId) : RunF := (seqR (fops E ro r148_4) (seqR (condR (fun a => (a.get 15)) skipR (exitR 0)) (seqR (blockR 1 (seqR (fops E ro r148_5) (seqR (fops E ro r148_6) (blockR 2 (seqR (blockR 4 (seqR (blockR 3 (seqR (seqR (seqR (fops E ro r148_7) (condR (fun a => (a.get 22)) (exitR 3) skipR)) (seqR (fops E ro r148_8) (condR (fun a => (a.get 24)) (exitR 4) skipR))) (exitR 2))) (seqR (fops E ro r148_9) (condR (fun a => (a.get 36)) (exitR 1) skipR)))) (seqR (seqR (fops E ro r148_10) retR) (exitR 2))))))) (fops E ro r148_11))))
noncomputable def r148_12 : List COp := [⟨fun a σ => .val (.bool true) σ, (some 2), fun _ => some true⟩]
noncomputable def run148 (E : Env) (ro : Option Nat) (fn : FuncId) : RunF := (seqR (fops E ro r148_0) (seqR (seqR (fops E ro r148_1) (condR (fun a => (a.get 11)) (seqR (fops E ro r148_2) retR) skipR)) (seqR (seqR (fops E ro r148_3) (blockR 0 (loopR (keepOf nls fn) (l148_0 E ro fn)))) (seqR (fops E ro r148_12) retR))))
theorem r148_0_go (E : Env) (ro : Option Nat) (a : FAct) (u : Option FrameMode) (σ : FState) : fops E ro r148_0 a u σ = fops E ro [⟨fun a σ => .val (.bool false) σ, (some 2), fun _ => some true⟩] a u σ := rfl
theorem r148_1_go (E : Env) (ro : Option Nat) (a : FAct) (u : Option FrameMode) (σ : FState) : fops E ro r148_1 a u σ = fops E ro [⟨fun a σ => .val (a.get 0) σ, (some 4), fun _ => some true⟩,
  ⟨fun a σ => flenS (a.get 4) σ, (some 5), fun _ => some true⟩,
  ⟨fun a σ => i_eql Tryz.prog 3 (.tmp 5) (.const (.int .i64 0)) (a.get 5) (.int .i64 0) σ, (some 6), fun _ => some true⟩,
  ⟨fun a σ => .val (a.get 6) σ, (some 7), fun _ => some true⟩,
  ⟨fun a σ => .val (a.get 0) σ, (some 8), fun a => gd (a.get 7) false⟩,
  ⟨fun a σ => flenS (a.get 8) σ, (some 9), fun a => gd (a.get 7) false⟩,
  ⟨fun a σ => i_gtr Tryz.prog 3 (.tmp 9) (.const (.int .i64 20)) (a.get 9) (.int .i64 20) σ, (some 10), fun a => gd (a.get 7) false⟩,
  ⟨fun a σ => fpick (a.get 7) (.bool true) (a.get 10) σ, (some 11), fun _ => some true⟩] a u σ := rfl
theorem r148_2_go (E : Env) (ro : Option Nat) (a : FAct) (u : Option FrameMode) (σ : FState) : fops E ro r148_2 a u σ = fops E ro [⟨fun a σ => .val (.bool false) σ, (some 2), fun _ => some true⟩] a u σ := rfl
theorem r148_3_go (E : Env) (ro : Option Nat) (a : FAct) (u : Option FrameMode) (σ : FState) : fops E ro r148_3 a u σ = fops E ro [⟨fun a σ => .val (a.get 0) σ, (some 12), fun _ => some true⟩,
  ⟨fun a σ => flenS (a.get 12) σ, (some 13), fun _ => some true⟩,
  ⟨fun a σ => .val (.int .i64 0) σ, (some 14), fun _ => some true⟩] a u σ := rfl
theorem r148_4_go (E : Env) (ro : Option Nat) (a : FAct) (u : Option FrameMode) (σ : FState) : fops E ro r148_4 a u σ = fops E ro [⟨fun a σ => i_lss Tryz.prog 3 (.tmp 14) (.tmp 13) (a.get 14) (a.get 13) σ, (some 15), fun _ => some true⟩] a u σ := rfl
theorem r148_5_go (E : Env) (ro : Option Nat) (a : FAct) (u : Option FrameMode) (σ : FState) : fops E ro r148_5 a u σ = fops E ro [⟨fun a σ => .val (a.get 14) σ, (some 16), fun _ => some true⟩,
  ⟨fun a σ => .val (a.get 16) σ, (some 3), fun _ => some true⟩] a u σ := rfl
theorem r148_6_go (E : Env) (ro : Option Nat) (a : FAct) (u : Option FrameMode) (σ : FState) : fops E ro r148_6 a u σ = fops E ro [⟨fun a σ => .val (a.get 0) σ, (some 17), fun _ => some true⟩,
  ⟨fun a σ => .val (a.get 3) σ, (some 18), fun _ => some true⟩,
  ⟨fun a σ => findexS (a.get 17) (a.get 18) σ, (some 19), fun _ => some true⟩,
  ⟨fun a σ => fun1 Tryz.prog (convert 5 21) (a.get 19) σ, (some 20), fun _ => some true⟩,
  ⟨fun a σ => .enter 166 [(a.get 20)] σ, (some 21), fun _ => some true⟩] a u σ := rfl
theorem r148_7_go (E : Env) (ro : Option Nat) (a : FAct) (u : Option FrameMode) (σ : FState) : fops E ro r148_7 a u σ = fops E ro [⟨fun a σ => i_eql Tryz.prog 211 (.tmp 21) (.const (.int .i64 2)) (a.get 21) (.int .i64 2) σ, (some 23), fun _ => some true⟩,
  ⟨fun a σ => .val (a.get 23) σ, (some 22), fun _ => some true⟩] a u σ := rfl
theorem r148_8_go (E : Env) (ro : Option Nat) (a : FAct) (u : Option FrameMode) (σ : FState) : fops E ro r148_8 a u σ = fops E ro [⟨fun a σ => i_eql Tryz.prog 211 (.tmp 21) (.const (.int .i64 0)) (a.get 21) (.int .i64 0) σ, (some 25), fun _ => some true⟩,
  ⟨fun a σ => .val (a.get 25) σ, (some 24), fun _ => some true⟩] a u σ := rfl
theorem r148_9_go (E : Env) (ro : Option Nat) (a : FAct) (u : Option FrameMode) (σ : FState) : fops E ro r148_9 a u σ = fops E ro [⟨fun a σ => .val (a.get 3) σ, (some 26), fun _ => some true⟩,
  ⟨fun a σ => i_gtr Tryz.prog 3 (.tmp 26) (.const (.int .i64 1)) (a.get 26) (.int .i64 1) σ, (some 27), fun _ => some true⟩,
  ⟨fun a σ => .val (a.get 27) σ, (some 28), fun _ => some true⟩,
  ⟨fun a σ => .val (a.get 3) σ, (some 29), fun a => gd (a.get 28) false⟩,
  ⟨fun a σ => i_eql Tryz.prog 3 (.tmp 29) (.const (.int .i64 1)) (a.get 29) (.int .i64 1) σ, (some 30), fun a => gd (a.get 28) false⟩,
  ⟨fun a σ => .val (a.get 30) σ, (some 31), fun a => gd (a.get 28) false⟩,
  ⟨fun a σ => .val (a.get 0) σ, (some 32), fun a => gd (a.get 31) true⟩,
  ⟨fun a σ => findexS (a.get 32) (.int .i64 0) σ, (some 33), fun a => gd (a.get 31) true⟩,
  ⟨fun a σ => i_neq Tryz.prog 5 (.tmp 33) (.const (.int .u8 45)) (a.get 33) (.int .u8 45) σ, (some 34), fun a => gd (a.get 31) true⟩,
  ⟨fun a σ => fpick (a.get 31) (a.get 34) (.bool false) σ, (some 35), fun a => gd (a.get 28) false⟩,
  ⟨fun a σ => fpick (a.get 28) (.bool true) (a.get 35) σ, (some 36), fun _ => some true⟩] a u σ := rfl
theorem r148_10_go (E : Env) (ro : Option Nat) (a : FAct) (u : Option FrameMode) (σ : FState) : fops E ro r148_10 a u σ = fops E ro [⟨fun a σ => .val (.bool false) σ, (some 2), fun _ => some true⟩] a u σ := rfl
theorem r148_11_go (E : Env) (ro : Option Nat) (a : FAct) (u : Option FrameMode) (σ : FState) : fops E ro r148_11 a u σ = fops E ro [⟨fun a σ => i_add Tryz.prog 3 (.tmp 14) (.const (.int .i64 1)) (a.get 14) (.int .i64 1) σ, (some 37), fun _ => some true⟩,
  ⟨fun a σ => .val (a.get 37) σ, (some 14), fun _ => some true⟩] a u σ := rfl
theorem r148_12_go (E : Env) (ro : Option Nat) (a : FAct) (u : Option FrameMode) (σ : FState) : fops E ro r148_12 a u σ = fops E ro [⟨fun a σ => .val (.bool true) σ, (some 2), fun _ => some true⟩] a u σ := rfl
theorem code148 (E : Env) (ro : Option Nat) (fn : FuncId) : code Tryz.prog nls (Tryz.f148.body.getD .skip) E ro fn = run148 E ro fn := by kernel_rfl
theorem enter148 (E : Env) (args : List Value) (u : Option FrameMode) (σ : FState) (hn : args.length ≤ (4 : Nat)) : fcall Tryz.prog nls E 148 args u σ = leaveR Tryz.prog E [.tmp 2] (run148 E none 148 ⟨padTo undef 4 args, fun _ => undef, 4, 38, []⟩ u σ) := by
  rw [fcall_of (body := Tryz.f148.body.getD .skip) Tryz.func148 rfl E args u σ 4 38 (by kernel_rfl) rfl ⟨hn, by decide⟩, code148]
  rfl
/-! caracole/datum.isPlain -/
noncomputable def r149_0 : List COp := [⟨fun a σ => .val (.bool false) σ, (some 2), fun _ => some true⟩]
noncomputable def r149_1 : List COp := [⟨fun a σ => .val (a.get 0) σ, (some 5), fun _ => some true⟩,
  ⟨fun a σ => frangeS (a.get 5) σ, (some 6), fun _ => some true⟩]
noncomputable def r149_2 : List COp := [⟨fun a σ => fnext (a.get 6) σ, (some 7), fun _ => some true⟩,
  ⟨fun a σ => fextract 0 (a.get 7) σ, (some 8), fun _ => some true⟩]
noncomputable def r149_3 : List COp := [⟨fun a σ => fextract 2 (a.get 7) σ, (some 9), fun _ => some true⟩,
  ⟨fun a σ => .val (a.get 9) σ, (some 4), fun _ => some true⟩]
noncomputable def r149_4 : List COp := [⟨fun a σ => .val (a.get 4) σ, (some 10), fun _ => some true⟩,
  ⟨fun a σ => i_lss Tryz.prog 21 (.tmp 10) (.const (.int .i32 32)) (a.get 10) (.int .i32 32) σ, (some 11), fun _ => some true⟩,
  ⟨fun a σ => .val (a.get 11) σ, (some 12), fun _ => some true⟩,
  ⟨fun a σ => .val (a.get 4) σ, (some 13), fun a => gd (a.get 12) false⟩,
  ⟨fun a σ => i_gtr Tryz.prog 21 (.tmp 13) (.const (.int .i32 126)) (a.get 13) (.int .i32 126) σ, (some 14), fun a => gd (a.get 12) false⟩,
  ⟨fun a σ => fpick (a.get 12) (.bool true) (a.get 14) σ, (some 15), fun _ => some true⟩]
noncomputable def r149_5 : List COp := [⟨fun a σ => .val (.bool false) σ, (some 2), fun _ => some true⟩]
noncomputable def l149_0 (E : Env) (ro : Option Nat) (fn : FuncId) : RunF := (seqR (fops E ro r149_2) (seqR (condR (fun a => (a.get 8)) skipR (exitR 0)) (blockR 1 (seqR (fops E ro r149_3) (seqR (fops E ro r149_4) (condR (fun a => (a.get 15)) (seqR (fops E ro r149_5) retR) skipR))))))
noncomputable def r149_6 : List COp := [⟨fun a σ => .val (.bool true) σ, (some 2), fun _ => some true⟩]
noncomputable def run149 (E : Env) (ro : Option Nat) (fn : FuncId) : RunF := (seqR (fops E ro r149_0) (seqR (seqR (fops E ro r149_1) (blockR 0 (loopR (keepOf nls fn) (l149_0 E ro fn)))) (seqR (fops E ro r149_6) retR)))
theorem r149_0_go (E : Env) (ro : Option Nat) (a : FAct) (u : Option FrameMode) (σ : FState) : fops E ro r149_0 a u σ = fops E ro [⟨fun a σ => .val (.bool false) σ, (some 2), fun _ => some true⟩] a u σ := rfl
theorem r149_1_go (E : Env) (ro : Option Nat) (a : FAct) (u : Option FrameMode) (σ : FState) : fops E ro r149_1 a u σ = fops E ro [⟨fun a σ => .val (a.get 0) σ, (some 5), fun _ => some true⟩,
  ⟨fun a σ => frangeS (a.get 5) σ, (some 6), fun _ => some true⟩] a u σ := rfl
theorem r149_2_go (E : Env) (ro : Option Nat) (a : FAct) (u : Option FrameMode) (σ : FState) : fops E ro r149_2 a u σ = fops E ro [⟨fun a σ => fnext (a.get 6) σ, (some 7), fun _ => some true⟩,
  ⟨fun a σ => fextract 0 (a.get 7) σ, (some 8), fun _ => some true⟩] a u σ := rfl
theorem r149_3_go (E : Env) (ro : Option Nat) (a : FAct) (u : Option FrameMode) (σ : FState) : fops E ro r149_3 a u σ = fops E ro [⟨fun a σ => fextract 2 (a.get 7) σ, (some 9), fun _ => some true⟩,
  ⟨fun a σ => .val (a.get 9) σ, (some 4), fun _ => some true⟩] a u σ := rfl
theorem r149_4_go (E : Env) (ro : Option Nat) (a : FAct) (u : Option FrameMode) (σ : FState) : fops E ro r149_4 a u σ = fops E ro [⟨fun a σ => .val (a.get 4) σ, (some 10), fun _ => some true⟩,
  ⟨fun a σ => i_lss Tryz.prog 21 (.tmp 10) (.const (.int .i32 32)) (a.get 10) (.int .i32 32) σ, (some 11), fun _ => some true⟩,
  ⟨fun a σ => .val (a.get 11) σ, (some 12), fun _ => some true⟩,
  ⟨fun a σ => .val (a.get 4) σ, (some 13), fun a => gd (a.get 12) false⟩,
  ⟨fun a σ => i_gtr Tryz.prog 21 (.tmp 13) (.const (.int .i32 126)) (a.get 13) (.int .i32 126) σ, (some 14), fun a => gd (a.get 12) false⟩,
  ⟨fun a σ => fpick (a.get 12) (.bool true) (a.get 14) σ, (some 15), fun _ => some true⟩] a u σ := rfl
theorem r149_5_go (E : Env) (ro : Option Nat) (a : FAct) (u : Option FrameMode) (σ : FState) : fops E ro r149_5 a u σ = fops E ro [⟨fun a σ => .val (.bool false) σ, (some 2), fun _ => some true⟩] a u σ := rfl
theorem r149_6_go (E : Env) (ro : Option Nat) (a : FAct) (u : Option FrameMode) (σ : FState) : fops E ro r149_6 a u σ = fops E ro [⟨fun a σ => .val (.bool true) σ, (some 2), fun _ => some true⟩] a u σ := rfl
theorem code149 (E : Env) (ro : Option Nat) (fn : FuncId) : code Tryz.prog nls (Tryz.f149.body.getD .skip) E ro fn = run149 E ro fn := by kernel_rfl
theorem enter149 (E : Env) (args : List Value) (u : Option FrameMode) (σ : FState) (hn : args.length ≤ (5 : Nat)) : fcall Tryz.prog nls E 149 args u σ = leaveR Tryz.prog E [.tmp 2] (run149 E none 149 ⟨padTo undef 5 args, fun _ => undef, 5, 16, []⟩ u σ) := by
  rw [fcall_of (body := Tryz.f149.body.getD .skip) Tryz.func149 rfl E args u σ 5 16 (by kernel_rfl) rfl ⟨hn, by decide⟩, code149]
  rfl
end Go.Proofs.YtnjapblabllclaaGreatDoor
/- package guard: calls whose work does not fail. -/
namespace Go.Proofs.YtnjapblabllclaaGreatDoor
open Go Go.Eng
attribute [local congr] andThen_congr fops_congr fdraw_congr afterOp_congr drawF_congr
theorem aggExtent : aggSize Tryz.prog 82 = some (some 2) := by kernel_rfl
theorem aggInt : aggSize Tryz.prog 3 = some none := by kernel_rfl
theorem aggErrno : aggSize Tryz.prog 27 = some none := by kernel_rfl
theorem nilAny (x : Nat) (σ : FState) : i_eql Tryz.prog 20 (.tmp x) (.const .nilIface) .nilIface .nilIface σ = .val (.bool true) σ := by kernel_rfl
theorem deferredAtExtent (n : Nat) (p q : Value) (σ : FState) : (env (n + 1)).call 132 [p, q] (some .returning) σ = .ret (.tuple #[]) (some .returning) σ := by
  rw [env_defer, enter132 _ _ _ _ (by simp), Sl_start]
  unfold run132
  simp -implicitDefEqProofs only [seqR_go, fops_c, fops_nil, fdraw_f, fdraw_a, fdraw_nil', drawR_go, retR_go, skipR_go, exitR_go, after_val, after_skip, after_enter, after_ret, andThen_normal, andThen_ret, andThen_exit, put_none, Nat.reduceLT, ↓reduceIte, Nat.reduceEqDiff, Nat.reduceAdd, nth_zero, nth_succ, drawF_val, drawF_push, stepOp_eq, drawA_normal, view_next, push_next, push_clock, put_next, put_clock, box_go, newCells_go, notTuple_agg, notTuple_int, notTuple_string, notTuple_bool, notTuple_slice, notTuple_pointer, valCells_agg, valCells_int, valCells_string, valCells_bool, valCells_slice, valCells_pointer, ffield_eq, fload1, floadN, cells_push, cells_put, cells?_cells, gd_true, gd_false, fpick_eq, eql_int, neq_int, lss_int, leq_int, gtr_int, geq_int, add_int, sub_int, mul_int, eql_str, neq_str, not_go, flenL_eq, flenS_eq, Nat.add_zero, Nat.zero_add, Nat.add_left_cancel_iff, Nat.add_eq_left, Nat.left_eq_add, List.getElem?_cons_zero, List.getElem?_cons_succ, beq_self_eq_true, Bool.not_true, Bool.not_false, cond_true, cond_false, leaveR_ret, leaveR_normal, leave_tmp, leave_tmp2, leave_tmp3, condR_val, Bool.false_eq_true, blockR_k, blockK_normal, blockK_ret, blockK_exit, loopR_go, findex_eq, List.not_mem_nil, or_false, or_true, List.cons_append, List.nil_append, add_u64, mul_u64, xor_u64, shr32_u64, shr27_u64, shr9_u64, nilCheck_ptr, fstore1, push_get, put_get, List.set_cons_zero, List.set_cons_succ, List.length_cons, List.length_nil, oneCell_int, oneCell_string, oneCell_bool, oneCell_slice, oneCell_pointer, fcallV_func, fdefer_func, List.toList_toArray, after_defer, after_recover, fleave_fn, unrecovered_returning, leave_none, fextract_go, Nat.add_assoc, lay_nil, lay_cons, fbuild_go, fbuildSlice_go, reps_zero, reps_succ, leave_cell, List.take_zero, List.take_succ_cons, List.drop_zero, List.drop_succ_cons, List.drop_nil, List.take_nil, List.append_nil, Nat.zero_mul, Nat.one_mul, Nat.reduceMul, Nat.reduceLeDiff, and_self, true_and, Nat.reduceSub, Nat.sub_zero, List.all_cons, List.all_nil, Bool.and_self, Bool.and_true, Nat.mul_one, Sl_get, Sl_put, Sl_defers, Sl_nl, Sl_forget, upd_go, kept_go, r132_0_go, r132_3_go, r132_4_go, nilAny]
theorem callAtExtent (n w : Nat) (cap : Array Value) (p d : Int) (σ : FState) (hw : Wf σ)
    (h : ∀ σ', Ext σ σ' → Wf σ' → Gives ((env (n + 1)).call w cap.toList none σ') σ' fun v _ => v = .agg #[.int .i64 p, .int .i64 d]) :
    Gives ((env (n + 2)).call 106 [.func (.func w) #[] cap] none σ) σ fun v _ => v = .tuple #[.agg #[.int .i64 p, .int .i64 d], .int .i64 0, .int .i64 0] := by
  rw [env_call, enter106 _ _ _ _ (by simp), Sl_start]
  unfold run106
  have hX1 : Ext σ (((σ.push (.cells [.int .i64 0, .int .i64 0] 82) none).push (.cells [.int .i64 0] 3) none).push (.cells [.int .i64 0] 27) none) := (((Ext.refl _).push _ _).push _ _).push _ _
  have hw1 := ((hw.push (.cells [.int .i64 0, .int .i64 0] 82) none).push (.cells [.int .i64 0] 3) none).push (.cells [.int .i64 0] 27) none
  obtain ⟨_, σ2, e2, hX2, hw2, rfl⟩ := h _ hX1 hw1
  have g0 : σ2.heap.get σ.next = _ := (hX2.get σ.next (by simp only [push_next]; omega)).trans (by simp -implicitDefEqProofs only [push_get, push_next, Nat.add_assoc, Nat.reduceAdd, Nat.left_eq_add, reduceCtorEq, ↓reduceIte, Nat.reduceEqDiff] <;> rfl)
  have g1 : σ2.heap.get (σ.next + 1) = _ := (hX2.get (σ.next + 1) (by simp only [push_next]; omega)).trans (by simp -implicitDefEqProofs only [push_get, push_next, Nat.add_assoc, Nat.reduceAdd, Nat.add_left_cancel_iff, reduceCtorEq, ↓reduceIte, Nat.reduceEqDiff] <;> rfl)
  have g2 : σ2.heap.get (σ.next + 2) = _ := (hX2.get (σ.next + 2) (by simp only [push_next]; omega)).trans (by simp -implicitDefEqProofs only [push_get, push_next, Nat.add_assoc, Nat.reduceAdd, Nat.add_left_cancel_iff, reduceCtorEq, ↓reduceIte, Nat.reduceEqDiff] <;> rfl)
  simp -implicitDefEqProofs only [seqR_go, fops_c, fops_nil, fdraw_f, fdraw_a, fdraw_nil', drawR_go, retR_go, skipR_go, exitR_go, after_val, after_skip, after_enter, after_ret, andThen_normal, andThen_ret, andThen_exit, put_none, Nat.reduceLT, ↓reduceIte, Nat.reduceEqDiff, Nat.reduceAdd, nth_zero, nth_succ, drawF_val, drawF_push, stepOp_eq, drawA_normal, view_next, push_next, push_clock, put_next, put_clock, box_go, newCells_go, notTuple_agg, notTuple_int, notTuple_string, notTuple_bool, notTuple_slice, notTuple_pointer, valCells_agg, valCells_int, valCells_string, valCells_bool, valCells_slice, valCells_pointer, ffield_eq, fload1, floadN, cells_push, cells_put, cells?_cells, gd_true, gd_false, fpick_eq, eql_int, neq_int, lss_int, leq_int, gtr_int, geq_int, add_int, sub_int, mul_int, eql_str, neq_str, not_go, flenL_eq, flenS_eq, Nat.add_zero, Nat.zero_add, Nat.add_left_cancel_iff, Nat.add_eq_left, Nat.left_eq_add, List.getElem?_cons_zero, List.getElem?_cons_succ, beq_self_eq_true, Bool.not_true, Bool.not_false, cond_true, cond_false, leaveR_ret, leaveR_normal, leave_tmp, leave_tmp2, leave_tmp3, condR_val, Bool.false_eq_true, blockR_k, blockK_normal, blockK_ret, blockK_exit, loopR_go, findex_eq, List.not_mem_nil, or_false, or_true, List.cons_append, List.nil_append, add_u64, mul_u64, xor_u64, shr32_u64, shr27_u64, shr9_u64, nilCheck_ptr, fstore1, push_get, put_get, List.set_cons_zero, List.set_cons_succ, List.length_cons, List.length_nil, oneCell_int, oneCell_string, oneCell_bool, oneCell_slice, oneCell_pointer, fcallV_func, fdefer_func, List.toList_toArray, after_defer, after_recover, fleave_fn, unrecovered_returning, leave_none, fextract_go, Nat.add_assoc, lay_nil, lay_cons, fbuild_go, fbuildSlice_go, reps_zero, reps_succ, leave_cell, List.take_zero, List.take_succ_cons, List.drop_zero, List.drop_succ_cons, List.drop_nil, List.take_nil, List.append_nil, Nat.zero_mul, Nat.one_mul, Nat.reduceMul, Nat.reduceLeDiff, and_self, true_and, Nat.reduceSub, Nat.sub_zero, List.all_cons, List.all_nil, Bool.and_self, Bool.and_true, Nat.mul_one, Sl_get, Sl_put, Sl_defers, Sl_nl, Sl_forget, upd_go, kept_go, fstoreN, r106_0_go, r106_1_go, r106_2_go, Option.getD_some, e2, g0, g1, g2, aggExtent, aggInt, aggErrno, deferredAtExtent, fleave_nil, fresults_nil, fresults_cons, fresult_cell]
  have m0 := (hw2 _ _ g0).1
  have m1 := (hw2 _ _ g1).1
  have m2 := (hw2 _ _ g2).1
  exact ⟨_, _, rfl, (((hX1.trans hX2).put _ _ _ (Nat.le_refl _)).put _ _ _ (Nat.le_add_right _ _)).put _ _ _ (Nat.le_add_right _ _), ((hw2.put _ _ _ m0).put _ _ _ m1).put _ _ _ m2, rfl⟩
theorem callExtent (n w : Nat) (cap : Array Value) (p d : Int) (σ : FState) (hw : Wf σ)
    (h : ∀ σ', Ext σ σ' → Wf σ' → Gives ((env (n + 1)).call w cap.toList none σ') σ' fun v _ => v = .agg #[.int .i64 p, .int .i64 d]) :
    Gives ((env (n + 3)).call 60 [.func (.func w) #[] cap] none σ) σ fun v _ => v = .tuple #[.agg #[.int .i64 p, .int .i64 d], .int .i64 0] := by
  rw [env_call, enter60 _ _ _ _ (by simp), Sl_start]
  unfold run60
  have hX1 : Ext σ (σ.push (.cells [.int .i64 0, .int .i64 0] 82) none) := (Ext.refl _).push _ _
  obtain ⟨_, σ2, e2, hX2, hw2, rfl⟩ := callAtExtent n w cap p d _ (hw.push (.cells [.int .i64 0, .int .i64 0] 82) none) fun σ' hx hw' => h σ' (hX1.trans hx) hw'
  have g0 : σ2.heap.get σ.next = _ := (hX2.get σ.next (Nat.lt_succ_self _)).trans (by rw [push_get, if_pos rfl])
  have m0 := (hw2 _ _ g0).1
  have hne : (σ.next = σ2.next) = False := by simp; omega
  have hne' : (σ2.next = σ.next) = False := by simp; omega
  simp -implicitDefEqProofs only [seqR_go, fops_c, fops_nil, fdraw_f, fdraw_a, fdraw_nil', drawR_go, retR_go, skipR_go, exitR_go, after_val, after_skip, after_enter, after_ret, andThen_normal, andThen_ret, andThen_exit, put_none, Nat.reduceLT, ↓reduceIte, Nat.reduceEqDiff, Nat.reduceAdd, nth_zero, nth_succ, drawF_val, drawF_push, stepOp_eq, drawA_normal, view_next, push_next, push_clock, put_next, put_clock, box_go, newCells_go, notTuple_agg, notTuple_int, notTuple_string, notTuple_bool, notTuple_slice, notTuple_pointer, valCells_agg, valCells_int, valCells_string, valCells_bool, valCells_slice, valCells_pointer, ffield_eq, fload1, floadN, cells_push, cells_put, cells?_cells, gd_true, gd_false, fpick_eq, eql_int, neq_int, lss_int, leq_int, gtr_int, geq_int, add_int, sub_int, mul_int, eql_str, neq_str, not_go, flenL_eq, flenS_eq, Nat.add_zero, Nat.zero_add, Nat.add_left_cancel_iff, Nat.add_eq_left, Nat.left_eq_add, List.getElem?_cons_zero, List.getElem?_cons_succ, beq_self_eq_true, Bool.not_true, Bool.not_false, cond_true, cond_false, leaveR_ret, leaveR_normal, leave_tmp, leave_tmp2, leave_tmp3, condR_val, Bool.false_eq_true, blockR_k, blockK_normal, blockK_ret, blockK_exit, loopR_go, findex_eq, List.not_mem_nil, or_false, or_true, List.cons_append, List.nil_append, add_u64, mul_u64, xor_u64, shr32_u64, shr27_u64, shr9_u64, nilCheck_ptr, fstore1, push_get, put_get, List.set_cons_zero, List.set_cons_succ, List.length_cons, List.length_nil, oneCell_int, oneCell_string, oneCell_bool, oneCell_slice, oneCell_pointer, fcallV_func, fdefer_func, List.toList_toArray, after_defer, after_recover, fleave_fn, unrecovered_returning, leave_none, fextract_go, Nat.add_assoc, lay_nil, lay_cons, fbuild_go, fbuildSlice_go, reps_zero, reps_succ, leave_cell, List.take_zero, List.take_succ_cons, List.drop_zero, List.drop_succ_cons, List.drop_nil, List.take_nil, List.append_nil, Nat.zero_mul, Nat.one_mul, Nat.reduceMul, Nat.reduceLeDiff, and_self, true_and, Nat.reduceSub, Nat.sub_zero, List.all_cons, List.all_nil, Bool.and_self, Bool.and_true, Nat.mul_one, Sl_get, Sl_put, Sl_defers, Sl_nl, Sl_forget, upd_go, kept_go, fstoreN, r60_0_go, r60_1_go, r60_2_go, Option.getD_some, e2, g0, aggExtent, fleave_nil, fresults_nil, fresults_cons, fresult_cell, fresult_tmp, hne, hne', List.getElem?_cons_zero]
  exact ⟨_, _, rfl, (((hX1.trans hX2).push _ _).put _ _ _ (by have := (hX1.trans hX2).next; omega)).put _ _ _ (Nat.le_refl _), ((hw2.push _ _).put _ _ _ (Nat.lt_succ_self _)).put _ _ _ (by rw [put_next, push_next]; omega), rfl⟩
theorem size1 (n : Nat) (b : Nat) (v : List Value) (p d : Int) (σ : FState) (hw : Wf σ) (hb : σ.cells b = some v) (hv : v.length = 4)
    (h1 : ∀ σ', Ext σ σ' → Wf σ' → Gives ((env n).call 55 [.agg v.toArray] none σ') σ' fun w _ => w = .int .i64 p)
    (h2 : ∀ σ', Ext σ σ' → Wf σ' → Gives ((env n).call 62 [.agg v.toArray] none σ') σ' fun w _ => w = .int .i64 d) :
    Gives ((env (n + 1)).call 61 [.pointer (some ⟨b, 0, none⟩)] none σ) σ fun w _ => w = .agg #[.int .i64 p, .int .i64 d] := by
  rw [env_call, enter61 _ _ _ _ (by simp), Sl_start]
  unfold run61
  have hX1 : Ext σ (σ.push (.cells [.int .i64 0, .int .i64 0] 82) none) := (Ext.refl _).push _ _
  obtain ⟨_, σ2, e2, hX2, hw2, rfl⟩ := h1 _ hX1 (hw.push (.cells [.int .i64 0, .int .i64 0] 82) none)
  obtain ⟨_, σ3, e3, hX3, hw3, rfl⟩ := h2 _ (hX1.trans hX2) hw2
  have hbn := hw.cells hb
  have c1 : (σ.push (.cells [.int .i64 0, .int .i64 0] 82) none).cells b = some v := (hX1.cells hbn).trans hb
  have c2 : σ2.cells b = some v := ((hX1.trans hX2).cells hbn).trans hb
  have g0 : σ3.heap.get σ.next = _ := ((hX2.trans hX3).get σ.next (Nat.lt_succ_self _)).trans (by rw [push_get, if_pos rfl])
  have m0 := (hw3 _ _ g0).1
  have hb1 : (b = σ.next) = False := by simp; omega
  have ht : v.take 4 = v := List.take_of_length_le (by omega)
  simp -implicitDefEqProofs only [seqR_go, fops_c, fops_nil, fdraw_f, fdraw_a, fdraw_nil', drawR_go, retR_go, skipR_go, exitR_go, after_val, after_skip, after_enter, after_ret, andThen_normal, andThen_ret, andThen_exit, put_none, Nat.reduceLT, ↓reduceIte, Nat.reduceEqDiff, Nat.reduceAdd, nth_zero, nth_succ, drawF_val, drawF_push, stepOp_eq, drawA_normal, view_next, push_next, push_clock, put_next, put_clock, box_go, newCells_go, notTuple_agg, notTuple_int, notTuple_string, notTuple_bool, notTuple_slice, notTuple_pointer, valCells_agg, valCells_int, valCells_string, valCells_bool, valCells_slice, valCells_pointer, ffield_eq, fload1, floadN, cells_push, cells_put, cells?_cells, gd_true, gd_false, fpick_eq, eql_int, neq_int, lss_int, leq_int, gtr_int, geq_int, add_int, sub_int, mul_int, eql_str, neq_str, not_go, flenL_eq, flenS_eq, Nat.add_zero, Nat.zero_add, Nat.add_left_cancel_iff, Nat.add_eq_left, Nat.left_eq_add, List.getElem?_cons_zero, List.getElem?_cons_succ, beq_self_eq_true, Bool.not_true, Bool.not_false, cond_true, cond_false, leaveR_ret, leaveR_normal, leave_tmp, leave_tmp2, leave_tmp3, condR_val, Bool.false_eq_true, blockR_k, blockK_normal, blockK_ret, blockK_exit, loopR_go, findex_eq, List.not_mem_nil, or_false, or_true, List.cons_append, List.nil_append, add_u64, mul_u64, xor_u64, shr32_u64, shr27_u64, shr9_u64, nilCheck_ptr, fstore1, push_get, put_get, List.set_cons_zero, List.set_cons_succ, List.length_cons, List.length_nil, oneCell_int, oneCell_string, oneCell_bool, oneCell_slice, oneCell_pointer, fcallV_func, fdefer_func, List.toList_toArray, after_defer, after_recover, fleave_fn, unrecovered_returning, leave_none, fextract_go, Nat.add_assoc, lay_nil, lay_cons, fbuild_go, fbuildSlice_go, reps_zero, reps_succ, leave_cell, List.take_zero, List.take_succ_cons, List.drop_zero, List.drop_succ_cons, List.drop_nil, List.take_nil, List.append_nil, Nat.zero_mul, Nat.one_mul, Nat.reduceMul, Nat.reduceLeDiff, and_self, true_and, Nat.reduceSub, Nat.sub_zero, List.all_cons, List.all_nil, Bool.and_self, Bool.and_true, Nat.mul_one, Sl_get, Sl_put, Sl_defers, Sl_nl, Sl_forget, upd_go, kept_go, fstoreN, r61_0_go, r61_1_go, r61_2_go, Option.getD_some, hb, hb1, c2, hv, ht, e2, e3, g0, aggExtent, Nat.le_refl]
  exact ⟨_, _, rfl, (((hX1.trans hX2).trans hX3).put _ _ _ (Nat.le_refl _)), hw3.put _ _ _ m0, rfl⟩

theorem sizeD (n : Nat) (v : List Value) (p d : Int) (σ : FState) (hw : Wf σ) (hv : v.length = 4)
    (h1 : ∀ σ', Ext σ σ' → Wf σ' → Gives ((env n).call 55 [.agg v.toArray] none σ') σ' fun w _ => w = .int .i64 p)
    (h2 : ∀ σ', Ext σ σ' → Wf σ' → Gives ((env n).call 62 [.agg v.toArray] none σ') σ' fun w _ => w = .int .i64 d) :
    Gives ((env (n + 4)).call 21 [.agg v.toArray] none σ) σ fun w _ => w = .tuple #[.int .i64 p, .int .i64 d, .int .i64 0] := by
  rw [env_call, enter21 _ _ _ _ (by simp), Sl_start]
  unfold run21
  have hX1 : Ext σ (σ.push (.cells v 24) none) := (Ext.refl _).push _ _
  have hw1 := hw.push (.cells v 24) none
  obtain ⟨_, σ2, e2, hX2, hw2, rfl⟩ := callExtent n 61 #[.pointer (some ⟨σ.next, 0, none⟩)] p d _ hw1 fun σ' hx hw' =>
    size1 n σ.next v p d σ' hw' ((hx.cells (Nat.lt_succ_self _)).trans (by rw [cells_push, if_pos rfl]; rfl)) hv (fun σ'' hy => h1 σ'' ((hX1.trans hx).trans hy)) (fun σ'' hy => h2 σ'' ((hX1.trans hx).trans hy))
  have hX := hX1.trans hX2
  have w3 := (hw2.push (.cells [.int .i64 0, .int .i64 0] 82) none).put σ2.next (.cells [.int .i64 p, .int .i64 d] 82) none (Nat.lt_succ_self _)
  have hv3 := view_wf (lam := σ2.clock + 2) w3 (Nat.le_refl _)
  have x3 : Ext σ ((σ2.push (.cells [.int .i64 0, .int .i64 0] 82) none).put σ2.next (.cells [.int .i64 p, .int .i64 d] 82) none) := (hX.push _ _).put _ _ _ hX.next
  have hc : ((σ2.push (.cells [.int .i64 0, .int .i64 0] 82) none).put σ2.next (.cells [.int .i64 p, .int .i64 d] 82) none).cells σ2.next = some [.int .i64 p, .int .i64 d] := by
    rw [cells_put, if_pos rfl]; rfl
  simp -implicitDefEqProofs only [seqR_go, fops_c, fops_nil, fdraw_f, fdraw_a, fdraw_nil', drawR_go, retR_go, skipR_go, exitR_go, after_val, after_skip, after_enter, after_ret, andThen_normal, andThen_ret, andThen_exit, put_none, Nat.reduceLT, ↓reduceIte, Nat.reduceEqDiff, Nat.reduceAdd, nth_zero, nth_succ, drawF_val, drawF_push, stepOp_eq, drawA_normal, view_next, push_next, push_clock, put_next, put_clock, box_go, newCells_go, notTuple_agg, notTuple_int, notTuple_string, notTuple_bool, notTuple_slice, notTuple_pointer, valCells_agg, valCells_int, valCells_string, valCells_bool, valCells_slice, valCells_pointer, ffield_eq, fload1, floadN, cells_push, cells_put, cells?_cells, gd_true, gd_false, fpick_eq, eql_int, neq_int, lss_int, leq_int, gtr_int, geq_int, add_int, sub_int, mul_int, eql_str, neq_str, not_go, flenL_eq, flenS_eq, Nat.add_zero, Nat.zero_add, Nat.add_left_cancel_iff, Nat.add_eq_left, Nat.left_eq_add, List.getElem?_cons_zero, List.getElem?_cons_succ, beq_self_eq_true, Bool.not_true, Bool.not_false, cond_true, cond_false, leaveR_ret, leaveR_normal, leave_tmp, leave_tmp2, leave_tmp3, condR_val, Bool.false_eq_true, blockR_k, blockK_normal, blockK_ret, blockK_exit, loopR_go, findex_eq, List.not_mem_nil, or_false, or_true, List.cons_append, List.nil_append, add_u64, mul_u64, xor_u64, shr32_u64, shr27_u64, shr9_u64, nilCheck_ptr, fstore1, push_get, put_get, List.set_cons_zero, List.set_cons_succ, List.length_cons, List.length_nil, oneCell_int, oneCell_string, oneCell_bool, oneCell_slice, oneCell_pointer, fcallV_func, fdefer_func, List.toList_toArray, after_defer, after_recover, fleave_fn, unrecovered_returning, leave_none, fextract_go, Nat.add_assoc, lay_nil, lay_cons, fbuild_go, fbuildSlice_go, reps_zero, reps_succ, leave_cell, List.take_zero, List.take_succ_cons, List.drop_zero, List.drop_succ_cons, List.drop_nil, List.take_nil, List.append_nil, Nat.zero_mul, Nat.one_mul, Nat.reduceMul, Nat.reduceLeDiff, and_self, true_and, Nat.reduceSub, Nat.sub_zero, List.all_cons, List.all_nil, Bool.and_self, Bool.and_true, Nat.mul_one, Sl_get, Sl_put, Sl_defers, Sl_nl, Sl_forget, upd_go, kept_go, fstoreN, r21_0_go, r21_1_go, Option.getD_some, e2, List.getElem?_cons_zero, List.getElem?_cons_succ]
  generalize FState.put (FState.push σ2 _ _) _ _ _ = σ3 at w3 hv3 hc x3 ⊢
  simp -implicitDefEqProofs only [seqR_go, fops_c, fops_nil, fdraw_f, fdraw_a, fdraw_nil', drawR_go, retR_go, skipR_go, exitR_go, after_val, after_skip, after_enter, after_ret, andThen_normal, andThen_ret, andThen_exit, put_none, Nat.reduceLT, ↓reduceIte, Nat.reduceEqDiff, Nat.reduceAdd, nth_zero, nth_succ, drawF_val, drawF_push, stepOp_eq, drawA_normal, view_next, push_next, push_clock, put_next, put_clock, box_go, newCells_go, notTuple_agg, notTuple_int, notTuple_string, notTuple_bool, notTuple_slice, notTuple_pointer, valCells_agg, valCells_int, valCells_string, valCells_bool, valCells_slice, valCells_pointer, ffield_eq, fload1, floadN, cells_push, cells_put, cells?_cells, gd_true, gd_false, fpick_eq, eql_int, neq_int, lss_int, leq_int, gtr_int, geq_int, add_int, sub_int, mul_int, eql_str, neq_str, not_go, flenL_eq, flenS_eq, Nat.add_zero, Nat.zero_add, Nat.add_left_cancel_iff, Nat.add_eq_left, Nat.left_eq_add, List.getElem?_cons_zero, List.getElem?_cons_succ, beq_self_eq_true, Bool.not_true, Bool.not_false, cond_true, cond_false, leaveR_ret, leaveR_normal, leave_tmp, leave_tmp2, leave_tmp3, condR_val, Bool.false_eq_true, blockR_k, blockK_normal, blockK_ret, blockK_exit, loopR_go, findex_eq, List.not_mem_nil, or_false, or_true, List.cons_append, List.nil_append, add_u64, mul_u64, xor_u64, shr32_u64, shr27_u64, shr9_u64, nilCheck_ptr, fstore1, push_get, put_get, List.set_cons_zero, List.set_cons_succ, List.length_cons, List.length_nil, oneCell_int, oneCell_string, oneCell_bool, oneCell_slice, oneCell_pointer, fcallV_func, fdefer_func, List.toList_toArray, after_defer, after_recover, fleave_fn, unrecovered_returning, leave_none, fextract_go, Nat.add_assoc, lay_nil, lay_cons, fbuild_go, fbuildSlice_go, reps_zero, reps_succ, leave_cell, List.take_zero, List.take_succ_cons, List.drop_zero, List.drop_succ_cons, List.drop_nil, List.take_nil, List.append_nil, Nat.zero_mul, Nat.one_mul, Nat.reduceMul, Nat.reduceLeDiff, and_self, true_and, Nat.reduceSub, Nat.sub_zero, List.all_cons, List.all_nil, Bool.and_self, Bool.and_true, Nat.mul_one, Sl_get, Sl_put, Sl_defers, Sl_nl, Sl_forget, upd_go, kept_go, r21_2_go, hv3, hc]
  exact ⟨_, _, rfl, x3, w3, rfl⟩
end Go.Proofs.YtnjapblabllclaaGreatDoor
