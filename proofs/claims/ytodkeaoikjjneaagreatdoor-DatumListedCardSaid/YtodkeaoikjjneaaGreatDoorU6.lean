/- The reading of the program, and what is so of it: SymLN2, SymLN3, SymLN4, SymLN5, SymLN6, SymLN7, SymLN8. -/
import Derived.Test.YtodkeaoikjjneaaGreatDoorU5
set_option linter.unusedSimpArgs false
set_option linter.unusedVariables false
/- DatumListed: a list is made, turned into a datum and back. -/
namespace Go.Proofs.YtodkeaoikjjneaaGreatDoor
open Go Go.Eng
attribute [local congr] andThen_congr fops_congr fdraw_congr afterOp_congr drawF_congr
attribute [-go_sem] List.range_succ
theorem made_elems (q : Nat) {ds : List D} (hl : ds.length ≤ 3) (h : ∀ d ∈ ds, Made 3 d) : Elems (q + 31) ds ∧ D.counts ds ≤ 120 ∧ (∀ d ∈ ds, d.deep ≤ 4 ∧ d.count < 900) := by
  have h1 : ∀ d ∈ ds, d.count ≤ 40 ∧ d.deep ≤ 4 ∧ Sane (q + 31) d := fun d hd => by
    have hF := made_fine (q + 11) (h d hd)
    have := (hF []).1
    rw [pieces_length] at this
    have := hF.deep_le
    exact ⟨by have : most 3 = 40 := rfl; omega, by omega, hF.sane⟩
  have h2 : ∀ es : List D, (∀ d ∈ es, d.count ≤ 40) → D.counts es ≤ es.length * 40 := by
    intro es
    induction es with
    | nil => intro _; simp [D.counts]
    | cons e es ih =>
      intro he
      have := he e List.mem_cons_self
      have := ih fun d hd => he d (List.mem_cons_of_mem _ hd)
      rw [D.counts, List.length_cons]
      omega
  have h3 := h2 ds fun d hd => (h1 d hd).1
  exact ⟨⟨fun d hd => (h1 d hd).2.2, fun d hd => (h1 d hd).2.1, by omega, by omega⟩, by omega, fun d hd => ⟨(h1 d hd).2.1, by have := (h1 d hd).1; omega⟩⟩
theorem counts_deeps (N : Nat) : ∀ ds : List D, (∀ d ∈ ds, d.deep ≤ N) → D.deeps ds ≤ N
  | [], _ => by rw [D.deeps]; omega
  | d :: ds, h => by
    have := h d List.mem_cons_self
    have := counts_deeps N ds fun e he => h e (List.mem_cons_of_mem _ he)
    rw [D.deeps]
    omega
structure HeadO (x bl bd K i : Nat) (L : List (List D)) (f : Nat → Value) (σ : FState) : Prop where
  f3 : f 3 = .pointer (some ⟨x, 0, none⟩)
  f4 : f 4 = .pointer (some ⟨bl, 0, none⟩)
  f5 : f 5 = .pointer (some ⟨bd, 0, none⟩)
  f6 : f 6 = .int .i64 (.ofNat i)
  lt : x < bl ∧ bl < bd ∧ bd < σ.next
  arr : ∃ ver ss, σ.heap.get bl = some ⟨.cells ss 26, false, none, ver⟩ ∧ ss.length = 3 ∧ (∀ j : Nat, i ≤ j → j < 3 → ss[j]? = some (.slice none 0 0)) ∧ ∀ (j : Nat) (ds : List D), L[j]? = some ds → ∃ s, ss[j]? = some s ∧ Held (fun b => bd < b) σ s ds
  dat : ∃ ver w, σ.heap.get bd = some ⟨.cells w 29, false, none, ver⟩ ∧ w.length = 12 ∧ ∀ (j : Nat) (ds : List D), L[j]? = some ds → LaidR (fun b => bd < b) σ (.agg ((w.drop (j * 4)).take 4).toArray) (listD nilD ds)
  llen : L.length = i
  made : ∀ ds ∈ L, ds.length ≤ 3 ∧ ∀ d ∈ ds, Made 3 d
  wf : Wf σ
  coil : ∃ k, Coil σ x k ∧ k + (3 - i) * 10000 ≤ K
theorem outer_step (q : Nat) {x bl bd K i : Nat} {L : List (List D)} (hi : i < 3) (hK : K < 1000000) (f g : Nat → Value) (σ : FState) (h : HeadO x bl bd K i L f σ) :
    ∃ f' g' σ' ds, l3_1 (top (q + 40)) none 3 (Sl 26 205 f g []) none σ = .done .normal (Sl 26 205 f' g' []) none σ' ∧ HeadO x bl bd K (i + 1) (L ++ [ds]) f' σ' := by
  obtain ⟨f3, f4, f5, f6, ⟨lt1, lt2, lt3⟩, ⟨va, ss, hga, hss, hnil, hheld⟩, ⟨vd, w, hgd, hwl, hlaid⟩, hll, hmade, hw, ⟨k, hC, hkK⟩⟩ := h
  have hd : decide (Int.ofNat i < (3 : Int)) = true := by simp only [Int.ofNat_eq_natCast]; exact decide_eq_true (by omega)
  obtain ⟨r, σa, e1, h0, h3, W⟩ := up_go (q + 38) x k 3 (by omega) (by omega) σ hw hC
  obtain ⟨r, rfl⟩ : ∃ r' : Nat, r = Int.ofNat r' := ⟨r.toNat, by simp only [Int.ofNat_eq_natCast]; omega⟩
  have hr : r ≤ 3 := by simp only [Int.ofNat_eq_natCast] at h3; omega
  have e1' : (top (q + 40)).call 12 [.pointer (some ⟨x, 0, none⟩), .int .i64 3] none σ = .ret (.int .i64 (.ofNat r)) none σa := (top_call _ _ _ _ rfl).trans e1
  have na := W.ext.next
  have hba := hw _ _ hga
  have hbda := hw _ _ hgd
  have ga := (W.ext.get bl hba.1 (by omega)).trans hga
  have gd' := (W.ext.get bd hbda.1 (by omega)).trans hgd
  have hwa := W.wf
  have hset : ss.set i (.slice none 0 0) = ss := by
    apply List.ext_getElem?
    intro j
    by_cases hj : i = j
    · subst hj
      rw [List.getElem?_set_self (by omega), hnil i (Nat.le_refl _) hi]
    · rw [List.getElem?_set_ne hj]
  obtain ⟨lo, hlo⟩ : ∃ lo, lo + 1 = σa.next := ⟨σa.next - 1, by omega⟩
  unfold l3_1
  simp -implicitDefEqProofs only [go_sem, ↓reduceIte, Nat.reduceLT, Nat.reduceEqDiff, Nat.reduceAdd, Nat.reduceMul, Nat.reduceLeDiff, Nat.reduceSub, r3_5_go, r3_5U, r3_7_go, r3_7U, f3, f6, hd, e1']
  generalize hff : upd _ 7 _ = f1
  generalize hbf : bigFuel = fuel
  have hw3 : 3 * wound 3 + 1 ≤ 10000 := by simp [wound]
  have hrW : r * wound 3 ≤ 3 * wound 3 := Nat.mul_le_mul_right _ hr
  obtain ⟨f2, g2, σb, ds, e2, hI, ⟨k2, hC2, hk0, hk2⟩⟩ := inner_loop q (x := x) (bl := bl) (bd := bd) (lo := lo) (i := i) (K := k + 1 + 3 * wound 3) (σ0 := σa) (ss := ss) ⟨lt1, lt2, by omega, by omega⟩ hi hss (by omega) (k + 1) r fuel [] f1 _ σa (by rw [← hbf]; show r < 1000000000000; omega) {
    f3 := by rw [← hff]; simp -implicitDefEqProofs only [upd_go, kept_go, ↓reduceIte, Nat.reduceEqDiff, Nat.reduceLT, reduceCtorEq, f3]
    f4 := by rw [← hff]; simp -implicitDefEqProofs only [upd_go, kept_go, ↓reduceIte, Nat.reduceEqDiff, Nat.reduceLT, reduceCtorEq, f4]
    f5 := by rw [← hff]; simp -implicitDefEqProofs only [upd_go, kept_go, ↓reduceIte, Nat.reduceEqDiff, Nat.reduceLT, reduceCtorEq, f5]
    f6 := by rw [← hff]; simp -implicitDefEqProofs only [upd_go, kept_go, ↓reduceIte, Nat.reduceEqDiff, Nat.reduceLT, reduceCtorEq, f6]
    f7 := by rw [← hff]; simp -implicitDefEqProofs only [upd_go, kept_go, ↓reduceIte, Nat.reduceEqDiff, Nat.reduceLT, reduceCtorEq]
    arr := ⟨_, .slice none 0 0, by rw [hset]; exact ga, .inl ⟨rfl, rfl⟩⟩
    same := fun b _ _ _ => rfl
    wf := hwa
    next := Nat.le_refl _
    clock := Nat.le_refl _
    made := fun d hd => by cases hd
    len := by simp; omega } ⟨k + 1, W.coil, Nat.le_refl _, by omega⟩
  obtain ⟨vb, s, gb, hV⟩ := hI.arr
  have hwb := hI.wf
  have nb := hI.next
  obtain ⟨hEl, hcnt, hdd⟩ := made_elems q (ds := ds) (by have := hI.len; omega) hI.made
  have hl3 : ds.length ≤ 3 := by have := hI.len; omega
  have hHeld := hV.held
  obtain ⟨p, rfl, hE⟩ := hHeld.slice
  -- KeepData
  obtain ⟨lo2, hlo2⟩ : ∃ lo, σb.next = lo + 1 := ⟨σb.next - 1, by omega⟩
  obtain ⟨sc, σc, e3, xc, hwc, hVc⟩ := keepL_go (q + 35) 4 lo2 p ds.length ds hdd (by omega) σb hwb hlo2 (hE.keep (R' := fun b => lo < b ∧ b < σb.next) fun b cs hb hc => ⟨hc, hb, hwb.cells hc⟩) (fun b hb => hb.2)
  have e3' : (top (q + 40)).call 15 [.slice p ds.length ds.length] none σb = .ret sc none σc := (top_call _ _ _ _ rfl).trans e3
  obtain ⟨pc, rfl, hEc⟩ := hVc.slice
  have nc := xc.next
  -- FromList
  obtain ⟨_, σd, e4, xd, hwd, u, rfl, hLd⟩ := fromlist_go (q + 31) (q + 1) (by omega) pc ds.length ds hEl (fun b => lo2 < b ∧ b < σc.next) σc hwc (hEc.keep fun b cs hb hc => ⟨hc, hb, hwc.cells hc⟩) (fun b hb => hb.2)
  have e4' : (top (q + 40)).call 14 [.slice pc ds.length ds.length] none σc = .ret (.tuple #[u, .int .i64 0]) none σd := (top_call _ _ _ _ rfl).trans e4
  obtain ⟨u4, rfl, hu4, huo⟩ := hLd.agg
  have nd := xd.next
  have tu4 : u4.take 4 = u4 := List.take_of_length_le (by omega)
  have xe : Ext σd ((σd.push (.cells [.int .i64 0, .int .i64 0, .string ⟨#[]⟩, .slice none 0 0] TD) none).put σd.next (.cells u4 TD) none) := ((Ext.refl _).push _ _).put _ _ _ (Nat.le_refl _)
  have hwe := (hwd.push (.cells [.int .i64 0, .int .i64 0, .string ⟨#[]⟩, .slice none 0 0] TD) none).put σd.next (.cells u4 TD) none (Nat.lt_succ_self _)
  have ce : ((σd.push (.cells [.int .i64 0, .int .i64 0, .string ⟨#[]⟩, .slice none 0 0] TD) none).put σd.next (.cells u4 TD) none).cells σd.next = some u4 := by rw [cells_put, if_pos rfl]; rfl
  have ne : ((σd.push (.cells [.int .i64 0, .int .i64 0, .string ⟨#[]⟩, .slice none 0 0] TD) none).put σd.next (.cells u4 TD) none).next = σd.next + 1 := rfl
  rw [e2]
  have hgi : (ss.set i (.slice p ds.length ds.length))[i]? = some (.slice p ds.length ds.length) := List.getElem?_set_self (by omega)
  have cb := cells_of_get gb
  simp -implicitDefEqProofs only [go_sem, ↓reduceIte, Nat.reduceLT, Nat.reduceEqDiff, Nat.reduceAdd, Nat.reduceMul, Nat.reduceLeDiff, Nat.reduceSub, fstoreN, r3_11_go, r3_11U, hI.f4, hI.f6, findexP_eq, hi, cb, hgi, e3', e4', hu4, huo, tu4]
  generalize hff2 : upd _ 9 _ = f3'
  generalize hgg2 : upd _ 54 _ = g3
  have q4 : f3' 4 = .pointer (some ⟨bl, 0, none⟩) := by rw [← hff2]; simp -implicitDefEqProofs only [upd_go, kept_go, ↓reduceIte, Nat.reduceEqDiff, Nat.reduceLT, reduceCtorEq, hI.f4]
  have q5 : f3' 5 = .pointer (some ⟨bd, 0, none⟩) := by rw [← hff2]; simp -implicitDefEqProofs only [upd_go, kept_go, ↓reduceIte, Nat.reduceEqDiff, Nat.reduceLT, reduceCtorEq, hI.f5]
  have q6 : f3' 6 = .int .i64 (.ofNat i) := by rw [← hff2]; simp -implicitDefEqProofs only [upd_go, kept_go, ↓reduceIte, Nat.reduceEqDiff, Nat.reduceLT, reduceCtorEq, hI.f6]
  have q3 : f3' 3 = .pointer (some ⟨x, 0, none⟩) := by rw [← hff2]; simp -implicitDefEqProofs only [upd_go, kept_go, ↓reduceIte, Nat.reduceEqDiff, Nat.reduceLT, reduceCtorEq, hI.f3]
  have q8 : f3' 8 = .pointer (some ⟨σd.next, 0, none⟩) := by rw [← hff2]; simp -implicitDefEqProofs only [upd_go, kept_go, ↓reduceIte, Nat.reduceEqDiff, Nat.reduceLT, reduceCtorEq]
  have q9 : f3' 9 = .int .i64 0 := by rw [← hff2]; simp -implicitDefEqProofs only [upd_go, kept_go, ↓reduceIte, Nat.reduceEqDiff, Nat.reduceLT, reduceCtorEq]
  clear hff2 hgg2
  generalize FState.put _ _ _ _ = σe at xe hwe ce ne ⊢
  -- ToList
  have hLe : LaidR (fun b => σc.next ≤ b ∧ b < σd.next) σe (.agg u4.toArray) (listD nilD ds) := hLd.keep fun b cs hb hc => ⟨(xe.cells (hwd.cells hc)).trans hc, hb, hwd.cells hc⟩
  obtain ⟨_, σf, e5, xf, hwf, qf, cf, rfl, hEf⟩ := tolist_go (q + 31) (q + 1) (by omega) ds hEl u4 hu4 _ σe hwe hLe (fun b hb => by omega)
  have e5' : (top (q + 40)).call 16 [.agg u4.toArray] none σe = .ret (.tuple #[.slice qf ds.length cf, .int .i64 0]) none σf := (top_call _ _ _ _ rfl).trans e5
  have xbe := (xc.trans xd).trans xe
  have nf := xf.next
  have xbf := xbe.trans xf
  obtain ⟨σg, e6, xg, hwg⟩ := eqDataT q ds qf p cf ds.length (fun b => σe.next ≤ b) (fun b => lo < b) σf (by have := counts_deeps 4 ds fun d hd => (hdd d hd).1; omega) (by omega) hwf hEf (hE.keep fun b cs hb hc => ⟨(xbf.cells (hwb.cells hc)).trans hc, hb⟩)
  have xbg := xbf.trans xg
  have ng := xg.next
  have cfb := (xbf.cells (hwb.cells cb)).trans cb
  have ceg := ((xf.trans xg).cells (hwe.cells ce)).trans ce
  have gdb : σb.heap.get bd = _ := (hI.same bd (by omega) (by omega) (by omega)).trans gd'
  have gdg : σg.heap.get bd = _ := (xbg.get bd (hwb _ _ gdb).1).trans gdb
  have hspl : i * 4 + 4 ≤ w.length := by omega
  have y1 : (!((0 : Int) == 0)) = false := by decide
  have w3 := add1 i (by omega)
  simp -implicitDefEqProofs only [go_sem, ↓reduceIte, Nat.reduceLT, Nat.reduceEqDiff, Nat.reduceAdd, Nat.reduceMul, Nat.reduceLeDiff, Nat.reduceSub, fstoreN, r3_6_go, r3_6U, r3_12_go, r3_12U, r3_13_go, r3_13U, r3_15_go, r3_15U, q4, q5, q6, q8, q9, ce, e5', hu4, huo, tu4, y1, findexP_eq, hi, cfb, hgi, e6, ceg, gdg, hspl, w3]
  generalize hff3 : upd _ 6 _ = f4'
  have hg0 : ∀ b, bd < b → b < σ.next → (σg.put bd (.cells (w.take (i * 4) ++ u4 ++ w.drop (i * 4 + 4)) 29) none).heap.get b = σ.heap.get b := fun b hb hbn => by
    rw [put_get, if_neg (by omega), xbg.get b (by omega), hI.same b (by omega) (by omega) (by omega), W.ext.get b hbn (by omega)]
  have kp : ∀ b cs, bd < b → σ.cells b = some cs → (σg.put bd (.cells (w.take (i * 4) ++ u4 ++ w.drop (i * 4 + 4)) 29) none).cells b = some cs ∧ bd < b := fun b cs hb hc => by
    refine ⟨?_, hb⟩
    rw [cells_get, hg0 b hb (hw.cells hc), ← cells_get]
    exact hc
  have kb : ∀ b cs, lo < b → σb.cells b = some cs → (σg.put bd (.cells (w.take (i * 4) ++ u4 ++ w.drop (i * 4 + 4)) 29) none).cells b = some cs ∧ bd < b := fun b cs hb hc => by
    refine ⟨?_, by omega⟩
    rw [cells_put, if_neg (by omega)]
    exact (xbg.cells (hwb.cells hc)).trans hc
  have gbf : (σg.put bd (.cells (w.take (i * 4) ++ u4 ++ w.drop (i * 4 + 4)) 29) none).heap.get bl = _ := (put_get ..).trans ((if_neg (by omega)).trans ((xbg.get bl (hwb _ _ gb).1).trans gb))
  have gbd : (σg.put bd (.cells (w.take (i * 4) ++ u4 ++ w.drop (i * 4 + 4)) 29) none).heap.get bd = some ⟨.cells (w.take (i * 4) ++ u4 ++ w.drop (i * 4 + 4)) 29, false, none, σg.clock⟩ := by rw [put_get, if_pos rfl]
  refine ⟨f4', _, _, ds, rfl, ?_⟩
  have hLj : ∀ (j : Nat) (es : List D), (L ++ [ds])[j]? = some es → (j < i ∧ L[j]? = some es) ∨ (j = i ∧ es = ds) := fun j es hj => by
    by_cases h1 : j < L.length
    · rw [List.getElem?_append_left h1] at hj
      exact .inl ⟨by omega, hj⟩
    · rw [List.getElem?_append_right (by omega)] at hj
      have : j - L.length = 0 := by
        cases hk : j - L.length with
        | zero => rfl
        | succ n => rw [hk] at hj; simp at hj
      rw [this] at hj
      simp only [List.getElem?_cons_zero, Option.some.injEq] at hj
      exact .inr ⟨by omega, hj.symm⟩
  exact {
    f3 := by rw [← hff3]; simp -implicitDefEqProofs only [upd_go, kept_go, ↓reduceIte, Nat.reduceEqDiff, Nat.reduceLT, reduceCtorEq, q3]
    f4 := by rw [← hff3]; simp -implicitDefEqProofs only [upd_go, kept_go, ↓reduceIte, Nat.reduceEqDiff, Nat.reduceLT, reduceCtorEq, q4]
    f5 := by rw [← hff3]; simp -implicitDefEqProofs only [upd_go, kept_go, ↓reduceIte, Nat.reduceEqDiff, Nat.reduceLT, reduceCtorEq, q5]
    f6 := by rw [← hff3]; simp -implicitDefEqProofs only [upd_go, kept_go, ↓reduceIte, Nat.reduceEqDiff, Nat.reduceLT, reduceCtorEq]
    lt := ⟨lt1, lt2, by rw [put_next]; omega⟩
    arr := ⟨_, _, gbf, by rw [List.length_set]; exact hss, fun j hj1 hj2 => by rw [List.getElem?_set_ne (by omega)]; exact hnil j (by omega) hj2, fun j es hj => by
      rcases hLj j es hj with ⟨h1, h2⟩ | ⟨rfl, rfl⟩
      · obtain ⟨t, ht, hH⟩ := hheld j es h2
        exact ⟨t, by rw [List.getElem?_set_ne (by omega)]; exact ht, hH.keep kp⟩
      · exact ⟨_, hgi, hHeld.keep kb⟩⟩
    dat := ⟨_, _, gbd, by rw [List.length_append, List.length_append, List.length_take, List.length_drop, hu4]; omega, fun j es hj => by
      rcases hLj j es hj with ⟨h1, h2⟩ | ⟨rfl, rfl⟩
      · rw [splice_off w u4 _ _ hu4 (by omega) (by omega)]
        exact (hlaid j es h2).keep kp
      · rw [splice_at w u4 _ hu4 (by omega)]
        exact hLe.keep fun b cs hb hc => ⟨by
          rw [cells_put, if_neg (by omega)]
          exact ((xf.trans xg).cells (hwe.cells hc)).trans hc, by omega⟩⟩
    llen := by rw [List.length_append, hll]; rfl
    made := fun es hes => by
      rcases List.mem_append.1 hes with h | h
      · exact hmade es h
      · rw [List.mem_singleton.1 h]; exact ⟨hl3, hI.made⟩
    wf := hwg.put _ _ _ (by omega)
    coil := ⟨k2, (hC2.ext hwb xbg).low fun c hc => by rw [put_get, if_neg (by omega)], by omega⟩ }
end Go.Proofs.YtodkeaoikjjneaaGreatDoor
/- DatumListed: calls over lists, one by one. -/
namespace Go.Proofs.YtodkeaoikjjneaaGreatDoor
open Go Go.Eng
attribute [local congr] andThen_congr fops_congr fdraw_congr afterOp_congr drawF_congr
attribute [-go_sem] List.range_succ
theorem outer_loop (q : Nat) {x bl bd K : Nat} (hK : K < 1000000) : ∀ (j fuel i : Nat) (L : List (List D)) (f g : Nat → Value) (σ : FState), i + j = 3 → j < fuel → HeadO x bl bd K i L f σ →
    ∃ f' g' σ' L', floop (keepOf nls 3) (l3_1 (top (q + 40)) none 3) fuel (Sl 26 205 f g []) none σ = .done (.exit 0) (Sl 26 205 f' g' []) none σ' ∧ HeadO x bl bd K 3 L' f' σ' := by
  intro j
  induction j with
  | zero =>
    intro fuel i L f g σ hij hf h
    obtain ⟨fuel, rfl⟩ : ∃ q, fuel = q + 1 := ⟨fuel - 1, by omega⟩
    obtain rfl : i = 3 := by omega
    have d1 : decide (Int.ofNat 3 < (3 : Int)) = false := by decide
    rw [floop_step]
    unfold l3_1
    simp -implicitDefEqProofs only [go_sem, ↓reduceIte, Nat.reduceLT, Nat.reduceEqDiff, Nat.reduceAdd, Nat.reduceMul, Nat.reduceLeDiff, Nat.reduceSub, r3_5_go, r3_5U, h.f6, d1]
    exact ⟨_, _, _, _, rfl, h⟩
  | succ j ih =>
    intro fuel i L f g σ hij hf h
    obtain ⟨fuel, rfl⟩ : ∃ q, fuel = q + 1 := ⟨fuel - 1, by omega⟩
    rw [floop_step, Sl_forget]
    obtain ⟨f1, g1, σ1, ds, e1, h1⟩ := outer_step q (by omega) hK f (kept (keepOf nls 3) g) σ h
    rw [e1, andThen_normal]
    exact ih fuel (i + 1) _ f1 g1 σ1 (by omega) (by omega) h1
/-- A list as the law passes it on: its cells, its elements. -/
structure Lst (q : Nat) (σ : FState) (lv : List Value) (es : List D) : Prop where
  four : lv.length = 4
  ones : lv.all oneCell = true
  laid : LaidR (fun b => b < σ.next) σ (.agg lv.toArray) (listD nilD es)
  els : Elems (q + 31) es
theorem Lst.ext {q : Nat} {σ σ' : FState} {lv : List Value} {es : List D} (h : Lst q σ lv es) (hw : Wf σ) (hx : Ext σ σ') : Lst q σ' lv es :=
  ⟨h.four, h.ones, h.laid.keep fun b cs hb hc => ⟨(hx.cells (hw.cells hc)).trans hc, Nat.lt_of_lt_of_le hb hx.next⟩, h.els⟩
theorem Elems.append {M : Nat} {es fs : List D} (h : Elems M es) (h' : Elems M fs) (hl : es.length + fs.length ≤ 12) (hc : D.counts es + D.counts fs ≤ 1900) : Elems M (es ++ fs) :=
  ⟨fun e he => (List.mem_append.1 he).elim (h.sane e) (h'.sane e), fun e he => (List.mem_append.1 he).elim (h.deep e) (h'.deep e), by rw [List.length_append]; exact hl, by rw [counts_append]; exact hc⟩
theorem box_of {σ : FState} (hw : Wf σ) (l4 : List Value) : Ext σ ((σ.push (.cells [.int .i64 0, .int .i64 0, .string ⟨#[]⟩, .slice none 0 0] TD) none).put σ.next (.cells l4 TD) none) ∧ Wf ((σ.push (.cells [.int .i64 0, .int .i64 0, .string ⟨#[]⟩, .slice none 0 0] TD) none).put σ.next (.cells l4 TD) none) ∧ ((σ.push (.cells [.int .i64 0, .int .i64 0, .string ⟨#[]⟩, .slice none 0 0] TD) none).put σ.next (.cells l4 TD) none).cells σ.next = some l4 :=
  ⟨((Ext.refl _).push _ _).put _ _ _ (Nat.le_refl _), (hw.push _ _).put _ _ _ (Nat.lt_succ_self _), by rw [cells_put, if_pos rfl]; rfl⟩
theorem appendT (q : Nat) {σ : FState} (hw : Wf σ) {lv mv : List Value} {es fs : List D} (h : Lst q σ lv es) (h' : Lst q σ mv fs) (hl : es.length + fs.length ≤ 12) (hc : D.counts es + D.counts fs ≤ 1900) :
    ∃ l4 σ', (top (q + 40)).call 18 [.agg lv.toArray, .agg mv.toArray] none σ = .ret (.tuple #[.agg l4.toArray, .int .i64 0]) none σ' ∧ Ext σ σ' ∧ Wf σ' ∧ Lst q σ' l4 (es ++ fs) := by
  obtain ⟨_, σ', e, x, hw', u, rfl, hq⟩ := append_go (q + 31) (q + 1) (by omega) es fs h.els h'.els hc lv mv h.four h'.four _ _ σ hw h.laid h'.laid (fun b hb => hb) (fun b hb => hb)
  obtain ⟨l4, rfl, hl4, ho4⟩ := hq.agg
  exact ⟨l4, σ', (top_call _ _ _ _ rfl).trans e, x, hw', hl4, ho4, hq.keep fun b cs hb hc => ⟨hc, hw'.cells hc⟩, h.els.append h'.els hl hc⟩
theorem turnT (q : Nat) {σ : FState} (hw : Wf σ) {lv : List Value} {es : List D} (h : Lst q σ lv es) :
    ∃ l4 σ', (top (q + 40)).call 19 [.agg lv.toArray] none σ = .ret (.tuple #[.agg l4.toArray, .int .i64 0]) none σ' ∧ Ext σ σ' ∧ Wf σ' ∧ Lst q σ' l4 es.reverse := by
  obtain ⟨_, σ', e, x, hw', u, rfl, hq⟩ := turn_go (q + 31) (q + 1) (by omega) es h.els lv h.four _ σ hw h.laid (fun b hb => hb)
  obtain ⟨l4, rfl, hl4, ho4⟩ := hq.agg
  exact ⟨l4, σ', (top_call _ _ _ _ rfl).trans e, x, hw', hl4, ho4, hq.keep fun b cs hb hc => ⟨hc, hw'.cells hc⟩, h.els.reverse⟩
theorem eqT (q : Nat) {σ : FState} (hw : Wf σ) {lv mv : List Value} {es : List D} (h : Lst q σ lv es) (h' : Lst q σ mv es) :
    ∃ σ', (top (q + 40)).call 20 [.agg lv.toArray, .agg mv.toArray] none σ = .ret (.bool true) none σ' ∧ Ext σ σ' ∧ Wf σ' := by
  obtain ⟨_, σ', e, x, hw', rfl⟩ := eqDatum_go (q + 8) 16 (listD nilD es) (listD nilD es) _ _ σ h.els.depth (by have := h.els.count; omega) hw h.laid.laid h'.laid.laid
  rw [same_refl] at e
  exact ⟨σ', (top_call _ _ _ _ rfl).trans e, x, hw'⟩
theorem tolistT (q : Nat) {σ : FState} (hw : Wf σ) {lv : List Value} {es : List D} (h : Lst q σ lv es) :
    ∃ p c σ', (top (q + 40)).call 16 [.agg lv.toArray] none σ = .ret (.tuple #[.slice p es.length c, .int .i64 0]) none σ' ∧ Ext σ σ' ∧ Wf σ' ∧ LaidRE (fun b => σ.next ≤ b) σ' p 0 es := by
  obtain ⟨_, σ', e, x, hw', p, c, rfl, hq⟩ := tolist_go (q + 31) (q + 1) (by omega) es h.els lv h.four _ σ hw h.laid (fun b hb => hb)
  exact ⟨p, c, σ', (top_call _ _ _ _ rfl).trans e, x, hw', hq⟩
theorem findexP0 (b o l s : Nat) (σ : FState) : findex (some (l + 1), s) (.pointer (some ⟨b, o, none⟩)) (.int .i64 0) σ = .val (.pointer (some ⟨b, o, none⟩)) σ := (findexP_eq b o (l + 1) 0 s .i64 σ).trans (by rw [if_pos (by omega)]; simp)
theorem findexP1 (b o l s : Nat) (σ : FState) : findex (some (l + 2), s) (.pointer (some ⟨b, o, none⟩)) (.int .i64 1) σ = .val (.pointer (some ⟨b, o + s, none⟩)) σ := (findexP_eq b o (l + 2) 1 s .i64 σ).trans (by rw [if_pos (by omega)]; simp)
theorem findexP2 (b o l s : Nat) (σ : FState) : findex (some (l + 3), s) (.pointer (some ⟨b, o, none⟩)) (.int .i64 2) σ = .val (.pointer (some ⟨b, o + 2 * s, none⟩)) σ := (findexP_eq b o (l + 3) 2 s .i64 σ).trans (by rw [if_pos (by omega)])
end Go.Proofs.YtodkeaoikjjneaaGreatDoor
/- DatumListed: what it asks at last. -/
namespace Go.Proofs.YtodkeaoikjjneaaGreatDoor
open Go Go.Eng
attribute [local congr] andThen_congr fops_congr fdraw_congr afterOp_congr drawF_congr
attribute [-go_sem] List.range_succ
noncomputable def restL3 (E : Env) (ro : Option Nat) (fn : FuncId) : RunF := seqR (fops E ro r3_27) (seqR (fops E ro r3_28) (seqR (fops E ro r3_29) (seqR (fops E ro r3_30) retR)))
noncomputable def restL2 (E : Env) (ro : Option Nat) (fn : FuncId) : RunF := seqR (fops E ro r3_21) (seqR (fops E ro r3_22) (seqR (fops E ro r3_23) (seqR (fops E ro r3_24) (seqR (seqR (fops E ro r3_25) (condR (fun a => a.get 168) (seqR (fops E ro r3_26) retR) skipR)) (restL3 E ro fn)))))
noncomputable def restL1 (E : Env) (ro : Option Nat) (fn : FuncId) : RunF := seqR (fops E ro r3_16) (seqR (fops E ro r3_17) (seqR (fops E ro r3_18) (seqR (seqR (drawR E ro r3_19) (condR (fun a => a.get 118) (seqR (fops E ro r3_20) retR) skipR)) (restL2 E ro fn))))
theorem run_restL (E : Env) (ro : Option Nat) (fn : FuncId) : run3 E ro fn = seqR (fops E ro r3_0) (seqR (fops E ro r3_1) (seqR (fops E ro r3_2) (seqR (fops E ro r3_3) (seqR (seqR (fops E ro r3_4) (blockR 0 (loopR (keepOf nls fn) (l3_1 E ro fn)))) (restL1 E ro fn))))) := rfl
theorem rest3_go (q bd bt : Nat) (w tv : List Value) (a b : List D) (f g : Nat → Value) (σ : FState) (hw : Wf σ) (cd : σ.cells bd = some w) (hwl : w.length = 12) (la : Lst q σ (w.take 4) a) (lb : Lst q σ ((w.drop 4).take 4) b) (ct : σ.cells bt = some tv) (lt : Lst q σ tv (a ++ b).reverse) (hab : b.length + a.length ≤ 12) (hct : D.counts b + D.counts a ≤ 1900) (f5 : f 5 = .pointer (some ⟨bd, 0, none⟩)) (f20 : f 20 = .pointer (some ⟨bt, 0, none⟩)) :
    ∃ σ', leaveR Tryz.prog (top (q + 40)) [.tmp 2] (restL3 (top (q + 40)) none 3 (Sl 26 205 f g []) none σ) = .ret (.bool true) none σ' := by
  obtain ⟨v4, σ1, e1, x1, hw1, lv⟩ := turnT q hw la
  obtain ⟨y1, hv1, c1⟩ := box_of hw1 v4
  have X1 := x1.trans y1
  have cd1 := (X1.cells (hw.cells cd)).trans cd
  have n1 : ((σ1.push (.cells [.int .i64 0, .int .i64 0, .string ⟨#[]⟩, .slice none 0 0] TD) none).put σ1.next (.cells v4 TD) none).next = σ1.next + 1 := rfl
  have lv1 := lv.ext hw1 y1
  have tv4 : v4.take 4 = v4 := List.take_of_length_le (by have := lv.four; omega)
  have m0 : 4 ≤ w.length := by omega
  have m1 : 4 ≤ w.length - 4 := by omega
  unfold restL3
  simp -implicitDefEqProofs only [go_sem, ↓reduceIte, Nat.reduceLT, Nat.reduceEqDiff, Nat.reduceAdd, Nat.reduceMul, Nat.reduceLeDiff, Nat.reduceSub, fstoreN, r3_27_go, r3_27U, f5, findexP0, cd, m0, e1, lv.four, lv.ones, tv4]
  generalize hff : upd _ 13 _ = f1
  have p5 : f1 5 = .pointer (some ⟨bd, 0, none⟩) := by rw [← hff]; simp -implicitDefEqProofs only [upd_go, kept_go, ↓reduceIte, Nat.reduceEqDiff, Nat.reduceLT, reduceCtorEq, f5]
  have p20 : f1 20 = .pointer (some ⟨bt, 0, none⟩) := by rw [← hff]; simp -implicitDefEqProofs only [upd_go, kept_go, ↓reduceIte, Nat.reduceEqDiff, Nat.reduceLT, reduceCtorEq, f20]
  have p23 : f1 23 = .pointer (some ⟨σ1.next, 0, none⟩) := by rw [← hff]; simp -implicitDefEqProofs only [upd_go, kept_go, ↓reduceIte, Nat.reduceEqDiff, Nat.reduceLT, reduceCtorEq]
  have p13 : f1 13 = .int .i64 0 := by rw [← hff]; simp -implicitDefEqProofs only [upd_go, kept_go, ↓reduceIte, Nat.reduceEqDiff, Nat.reduceLT, reduceCtorEq]
  clear hff
  generalize FState.put _ _ _ _ = σ2 at y1 hv1 c1 X1 cd1 n1 lv1 ⊢
  obtain ⟨u4, σ3, e3, x3, hw3, lu⟩ := turnT q hv1 (lb.ext hw X1)
  obtain ⟨y3, hv3, c3⟩ := box_of hw3 u4
  have X3 := x3.trans y3
  have tu4 : u4.take 4 = u4 := List.take_of_length_le (by have := lu.four; omega)
  have lu3 := lu.ext hw3 y3
  have lv3 := lv1.ext hv1 X3
  have c13 := (X3.cells (hv1.cells c1)).trans c1
  have ct3 := ((X1.trans X3).cells (hw.cells ct)).trans ct
  simp -implicitDefEqProofs only [go_sem, ↓reduceIte, Nat.reduceLT, Nat.reduceEqDiff, Nat.reduceAdd, Nat.reduceMul, Nat.reduceLeDiff, Nat.reduceSub, fstoreN, r3_28_go, r3_28U, p5, findexP1, cd1, m1, e3, lu.four, lu.ones, tu4]
  generalize hff : upd _ 15 _ = f2
  have s20 : f2 20 = .pointer (some ⟨bt, 0, none⟩) := by rw [← hff]; simp -implicitDefEqProofs only [upd_go, kept_go, ↓reduceIte, Nat.reduceEqDiff, Nat.reduceLT, reduceCtorEq, p20]
  have s23 : f2 23 = .pointer (some ⟨σ1.next, 0, none⟩) := by rw [← hff]; simp -implicitDefEqProofs only [upd_go, kept_go, ↓reduceIte, Nat.reduceEqDiff, Nat.reduceLT, reduceCtorEq, p23]
  have s24 : f2 24 = .pointer (some ⟨σ3.next, 0, none⟩) := by rw [← hff]; simp -implicitDefEqProofs only [upd_go, kept_go, ↓reduceIte, Nat.reduceEqDiff, Nat.reduceLT, reduceCtorEq]
  have s13 : f2 13 = .int .i64 0 := by rw [← hff]; simp -implicitDefEqProofs only [upd_go, kept_go, ↓reduceIte, Nat.reduceEqDiff, Nat.reduceLT, reduceCtorEq, p13]
  have s15 : f2 15 = .int .i64 0 := by rw [← hff]; simp -implicitDefEqProofs only [upd_go, kept_go, ↓reduceIte, Nat.reduceEqDiff, Nat.reduceLT, reduceCtorEq]
  clear hff
  generalize FState.put _ _ _ _ = σ4 at y3 hv3 c3 X3 lu3 lv3 c13 ct3 ⊢
  obtain ⟨z4, σ5, e5, x5, hw5, lz⟩ := appendT q hv3 lu3 lv3 (by simp only [List.length_reverse]; omega) (by simp only [counts_reverse]; omega)
  obtain ⟨y5, hv5, c5⟩ := box_of hw5 z4
  have X5 := x5.trans y5
  have tz4 : z4.take 4 = z4 := List.take_of_length_le (by have := lz.four; omega)
  have lz5 := lz.ext hw5 y5
  have ct5 := (X5.cells (hv3.cells ct3)).trans ct3
  have lt5 := lt.ext hw ((X1.trans X3).trans X5)
  rw [List.reverse_append] at lt5
  obtain ⟨σ6, e6, x6, hw6⟩ := eqT q hv5 lz5 lt5
  have tt4 : tv.take 4 = tv := List.take_of_length_le (by have := lt.four; omega)
  have y0 : ((0 : Int) == 0) = true := by decide
  simp -implicitDefEqProofs only [go_sem, ↓reduceIte, Nat.reduceLT, Nat.reduceEqDiff, Nat.reduceAdd, Nat.reduceMul, Nat.reduceLeDiff, Nat.reduceSub, fstoreN, r3_29_go, r3_29U, r3_30_go, r3_30U, s20, s23, s24, s13, s15, c13, c3, lv1.four, lu.four, tv4, tu4, e5, lz.four, lz.ones, tz4, c5, ct5, lt.four, tt4, e6, y0, top_looks, Nat.le_refl]
  exact ⟨_, rfl⟩
end Go.Proofs.YtodkeaoikjjneaaGreatDoor
/- DatumListed: the middle of it. -/
namespace Go.Proofs.YtodkeaoikjjneaaGreatDoor
open Go Go.Eng
attribute [local congr] andThen_congr fops_congr fdraw_congr afterOp_congr drawF_congr
attribute [-go_sem] List.range_succ
theorem rest2_go (q bd ba bb : Nat) (w av bv : List Value) (a b c : List D) (f g : Nat → Value) (σ : FState) (hw : Wf σ) (cd : σ.cells bd = some w) (hwl : w.length = 12) (la : Lst q σ (w.take 4) a) (lb : Lst q σ ((w.drop 4).take 4) b) (lc : Lst q σ ((w.drop 8).take 4) c) (ca : σ.cells ba = some av) (lab : Lst q σ av (a ++ b)) (cb : σ.cells bb = some bv) (lbc : Lst q σ bv (b ++ c)) (hl : a.length + b.length + c.length ≤ 12) (hct : D.counts a + D.counts b + D.counts c ≤ 1900) (f5 : f 5 = .pointer (some ⟨bd, 0, none⟩)) (f12 : f 12 = .pointer (some ⟨ba, 0, none⟩)) (f14 : f 14 = .pointer (some ⟨bb, 0, none⟩)) :
    ∃ σ', leaveR Tryz.prog (top (q + 40)) [.tmp 2] (restL2 (top (q + 40)) none 3 (Sl 26 205 f g []) none σ) = .ret (.bool true) none σ' := by
  obtain ⟨x4, σ1, e1, x1, hw1, lx⟩ := appendT q hw lab lc (by rw [List.length_append]; omega) (by rw [counts_append]; omega)
  obtain ⟨y1, hv1, c1⟩ := box_of hw1 x4
  have X1 := x1.trans y1
  have cd1 := (X1.cells (hw.cells cd)).trans cd
  have ca1 := (X1.cells (hw.cells ca)).trans ca
  have cb1 := (X1.cells (hw.cells cb)).trans cb
  have lx1 := lx.ext hw1 y1
  have tx4 : x4.take 4 = x4 := List.take_of_length_le (by have := lx.four; omega)
  have ta : av.take 4 = av := List.take_of_length_le (by have := lab.four; omega)
  have tb : bv.take 4 = bv := List.take_of_length_le (by have := lbc.four; omega)
  have m0 : 4 ≤ w.length := by omega
  have m2 : 4 ≤ w.length - 8 := by omega
  unfold restL2
  simp -implicitDefEqProofs only [go_sem, ↓reduceIte, Nat.reduceLT, Nat.reduceEqDiff, Nat.reduceAdd, Nat.reduceMul, Nat.reduceLeDiff, Nat.reduceSub, fstoreN, r3_21_go, r3_21U, f5, f12, findexP2, cd, ca, lab.four, ta, m2, e1, lx.four, lx.ones, tx4, Nat.le_refl]
  generalize hff : upd _ 13 _ = f1
  have p5 : f1 5 = .pointer (some ⟨bd, 0, none⟩) := by rw [← hff]; simp -implicitDefEqProofs only [upd_go, kept_go, ↓reduceIte, Nat.reduceEqDiff, Nat.reduceLT, reduceCtorEq, f5]
  have p12 : f1 12 = .pointer (some ⟨ba, 0, none⟩) := by rw [← hff]; simp -implicitDefEqProofs only [upd_go, kept_go, ↓reduceIte, Nat.reduceEqDiff, Nat.reduceLT, reduceCtorEq, f12]
  have p14 : f1 14 = .pointer (some ⟨bb, 0, none⟩) := by rw [← hff]; simp -implicitDefEqProofs only [upd_go, kept_go, ↓reduceIte, Nat.reduceEqDiff, Nat.reduceLT, reduceCtorEq, f14]
  have p18 : f1 18 = .pointer (some ⟨σ1.next, 0, none⟩) := by rw [← hff]; simp -implicitDefEqProofs only [upd_go, kept_go, ↓reduceIte, Nat.reduceEqDiff, Nat.reduceLT, reduceCtorEq]
  have p13 : f1 13 = .int .i64 0 := by rw [← hff]; simp -implicitDefEqProofs only [upd_go, kept_go, ↓reduceIte, Nat.reduceEqDiff, Nat.reduceLT, reduceCtorEq]
  clear hff
  generalize FState.put _ _ _ _ = σ2 at y1 hv1 c1 X1 cd1 ca1 cb1 lx1 ⊢
  obtain ⟨u4, σ3, e3, x3, hw3, lu⟩ := appendT q hv1 (la.ext hw X1) (lbc.ext hw X1) (by rw [List.length_append]; omega) (by rw [counts_append]; omega)
  obtain ⟨y3, hv3, c3⟩ := box_of hw3 u4
  have X3 := x3.trans y3
  have X03 := X1.trans X3
  have tu4 : u4.take 4 = u4 := List.take_of_length_le (by have := lu.four; omega)
  have lu3 := lu.ext hw3 y3
  have lx3 := lx1.ext hv1 X3
  have c13 := (X3.cells (hv1.cells c1)).trans c1
  have cd3 := (X03.cells (hw.cells cd)).trans cd
  have ca3 := (X03.cells (hw.cells ca)).trans ca
  have lab3 := lab.ext hw X03
  simp -implicitDefEqProofs only [go_sem, ↓reduceIte, Nat.reduceLT, Nat.reduceEqDiff, Nat.reduceAdd, Nat.reduceMul, Nat.reduceLeDiff, Nat.reduceSub, fstoreN, r3_22_go, r3_22U, p5, p14, findexP0, cd1, cb1, m0, lbc.four, tb, e3, lu.four, lu.ones, tu4, Nat.le_refl]
  generalize hff : upd _ 15 _ = f2
  have s5 : f2 5 = .pointer (some ⟨bd, 0, none⟩) := by rw [← hff]; simp -implicitDefEqProofs only [upd_go, kept_go, ↓reduceIte, Nat.reduceEqDiff, Nat.reduceLT, reduceCtorEq, p5]
  have s12 : f2 12 = .pointer (some ⟨ba, 0, none⟩) := by rw [← hff]; simp -implicitDefEqProofs only [upd_go, kept_go, ↓reduceIte, Nat.reduceEqDiff, Nat.reduceLT, reduceCtorEq, p12]
  have s18 : f2 18 = .pointer (some ⟨σ1.next, 0, none⟩) := by rw [← hff]; simp -implicitDefEqProofs only [upd_go, kept_go, ↓reduceIte, Nat.reduceEqDiff, Nat.reduceLT, reduceCtorEq, p18]
  have s19 : f2 19 = .pointer (some ⟨σ3.next, 0, none⟩) := by rw [← hff]; simp -implicitDefEqProofs only [upd_go, kept_go, ↓reduceIte, Nat.reduceEqDiff, Nat.reduceLT, reduceCtorEq]
  have s13 : f2 13 = .int .i64 0 := by rw [← hff]; simp -implicitDefEqProofs only [upd_go, kept_go, ↓reduceIte, Nat.reduceEqDiff, Nat.reduceLT, reduceCtorEq, p13]
  have s15 : f2 15 = .int .i64 0 := by rw [← hff]; simp -implicitDefEqProofs only [upd_go, kept_go, ↓reduceIte, Nat.reduceEqDiff, Nat.reduceLT, reduceCtorEq]
  clear hff
  generalize FState.put _ _ _ _ = σ4 at y3 hv3 c3 X3 X03 lu3 lx3 c13 cd3 ca3 lab3 ⊢
  obtain ⟨t4, σ5, e5, x5, hw5, lt⟩ := turnT q hv3 lab3
  obtain ⟨y5, hv5, c5⟩ := box_of hw5 t4
  have X5 := x5.trans y5
  have X05 := X03.trans X5
  have tt4 : t4.take 4 = t4 := List.take_of_length_le (by have := lt.four; omega)
  have lt5 := lt.ext hw5 y5
  have c15 := (X5.cells (hv3.cells c13)).trans c13
  have c35 := (X5.cells (hv3.cells c3)).trans c3
  have ca5 := (X05.cells (hw.cells ca)).trans ca
  have lu5 := lu3.ext hv3 X5
  have lx5 := lx3.ext hv3 X5
  have lab5 := lab.ext hw X05
  simp -implicitDefEqProofs only [go_sem, ↓reduceIte, Nat.reduceLT, Nat.reduceEqDiff, Nat.reduceAdd, Nat.reduceMul, Nat.reduceLeDiff, Nat.reduceSub, fstoreN, r3_23_go, r3_23U, s12, ca3, lab.four, ta, e5, lt.four, lt.ones, tt4, Nat.le_refl]
  generalize hff : upd _ 17 _ = f3
  have t5 : f3 5 = .pointer (some ⟨bd, 0, none⟩) := by rw [← hff]; simp -implicitDefEqProofs only [upd_go, kept_go, ↓reduceIte, Nat.reduceEqDiff, Nat.reduceLT, reduceCtorEq, s5]
  have t12 : f3 12 = .pointer (some ⟨ba, 0, none⟩) := by rw [← hff]; simp -implicitDefEqProofs only [upd_go, kept_go, ↓reduceIte, Nat.reduceEqDiff, Nat.reduceLT, reduceCtorEq, s12]
  have t18 : f3 18 = .pointer (some ⟨σ1.next, 0, none⟩) := by rw [← hff]; simp -implicitDefEqProofs only [upd_go, kept_go, ↓reduceIte, Nat.reduceEqDiff, Nat.reduceLT, reduceCtorEq, s18]
  have t19 : f3 19 = .pointer (some ⟨σ3.next, 0, none⟩) := by rw [← hff]; simp -implicitDefEqProofs only [upd_go, kept_go, ↓reduceIte, Nat.reduceEqDiff, Nat.reduceLT, reduceCtorEq, s19]
  have t20 : f3 20 = .pointer (some ⟨σ5.next, 0, none⟩) := by rw [← hff]; simp -implicitDefEqProofs only [upd_go, kept_go, ↓reduceIte, Nat.reduceEqDiff, Nat.reduceLT, reduceCtorEq]
  have t13 : f3 13 = .int .i64 0 := by rw [← hff]; simp -implicitDefEqProofs only [upd_go, kept_go, ↓reduceIte, Nat.reduceEqDiff, Nat.reduceLT, reduceCtorEq, s13]
  have t15 : f3 15 = .int .i64 0 := by rw [← hff]; simp -implicitDefEqProofs only [upd_go, kept_go, ↓reduceIte, Nat.reduceEqDiff, Nat.reduceLT, reduceCtorEq, s15]
  have t17 : f3 17 = .int .i64 0 := by rw [← hff]; simp -implicitDefEqProofs only [upd_go, kept_go, ↓reduceIte, Nat.reduceEqDiff, Nat.reduceLT, reduceCtorEq]
  clear hff
  generalize FState.put _ _ _ _ = σ6 at y5 hv5 c5 X5 X05 lt5 c15 c35 ca5 lu5 lx5 lab5 ⊢
  obtain ⟨o4, σ7, e7, x7, hw7, lo⟩ := turnT q hv5 lt5
  obtain ⟨y7, hv7, c7⟩ := box_of hw7 o4
  have X7 := x7.trans y7
  have X07 := X05.trans X7
  have to4 : o4.take 4 = o4 := List.take_of_length_le (by have := lo.four; omega)
  have lo7 := lo.ext hw7 y7
  rw [List.reverse_reverse] at lo7
  have c17 := (X7.cells (hv5.cells c15)).trans c15
  have c37 := (X7.cells (hv5.cells c35)).trans c35
  have ca7 := (X07.cells (hw.cells ca)).trans ca
  have lu7 := lu5.ext hv5 X7
  have lx7 := lx5.ext hv5 X7
  have lab7 := lab.ext hw X07
  have c57 := (X7.cells (hv5.cells c5)).trans c5
  have lt7 := lt5.ext hv5 X7
  rw [← List.append_assoc] at lu7
  obtain ⟨σ8, e8, x8, hw8⟩ := eqT q hv7 lx7 lu7
  have ca8 := (x8.cells (hv7.cells ca7)).trans ca7
  have c78 := (x8.cells (hv7.cells c7)).trans c7
  obtain ⟨σ9, e9, x9, hw9⟩ := eqT q hw8 (lo7.ext hv7 x8) (lab7.ext hv7 x8)
  have y0 : (!((0 : Int) == 0)) = false := by decide
  simp -implicitDefEqProofs only [go_sem, ↓reduceIte, Nat.reduceLT, Nat.reduceEqDiff, Nat.reduceAdd, Nat.reduceMul, Nat.reduceLeDiff, Nat.reduceSub, fstoreN, r3_24_go, r3_24U, r3_25_go, r3_25U, t12, t13, t15, t17, t18, t19, t20, c5, lt.four, tt4, e7, lo.four, lo.ones, to4, c17, c37, c7, lx.four, lu.four, tx4, tu4, e8, y0, ca8, c78, lab.four, ta, e9, Nat.le_refl]
  generalize hff : upd _ 22 _ = f4
  have X9 := X07.trans (x8.trans x9)
  exact rest3_go q bd σ5.next w t4 a b f4 _ _ hw9 ((X9.cells (hw.cells cd)).trans cd) hwl (la.ext hw X9) (lb.ext hw X9) (((x8.trans x9).cells (hv7.cells c57)).trans c57) (lt7.ext hv7 (x8.trans x9)) (by omega) (by omega) (by rw [← hff]; simp -implicitDefEqProofs only [upd_go, kept_go, ↓reduceIte, Nat.reduceEqDiff, Nat.reduceLT, reduceCtorEq, t5]) (by rw [← hff]; simp -implicitDefEqProofs only [upd_go, kept_go, ↓reduceIte, Nat.reduceEqDiff, Nat.reduceLT, reduceCtorEq, t20])
end Go.Proofs.YtodkeaoikjjneaaGreatDoor
/- append of all elements of a list. -/
namespace Go.Proofs.YtodkeaoikjjneaaGreatDoor
open Go Go.Eng
attribute [local congr] andThen_congr fops_congr fdraw_congr afterOp_congr drawF_congr
attribute [-go_sem] List.range_succ
theorem held_fnew {R : Nat → Prop} {σ : FState} {s : Value} {ds : List D} (h : Held R σ s ds) : ∃ cs, fnew 4 s σ = some (ds.length, cs) ∧ Row R σ cs ds := by
  rcases h with ⟨rfl, rfl⟩ | ⟨b, cs, rfl, hb, _, hr⟩
  · exact ⟨[], rfl, Row.nil _ _⟩
  · refine ⟨cs, ?_, hr⟩
    unfold fnew
    simp only [loadAll_eq, hb, List.drop_zero, Nat.sub_zero]
    rw [if_pos (by rw [hr.1]; omega), List.take_of_length_le (by rw [hr.1]; omega)]
theorem vec_appendAll {σ : FState} {lo : Nat} {w s : Value} {es bs : List D} {R : Nat → Prop} (hw : Wf σ) (hV : Vec σ lo w es) (hH : Held R σ s bs) (hR : ∀ b, R b → b ≤ lo) (hlo : lo < σ.next) (h1 : es.length < 900) (h2 : bs.length < 900) :
    ∃ p c τ, fappend TD 4 56 w s σ = .val (.slice p (es ++ bs).length c) τ ∧ LaidRE (fun _ => True) τ p 0 (es ++ bs) ∧ Wf τ ∧ σ.next ≤ τ.next ∧ σ.clock ≤ τ.clock ∧ (∀ b, b ≤ lo → τ.heap.get b = σ.heap.get b) := by
  obtain ⟨cs, hn, hr⟩ := held_fnew hH
  have hall := hr.2.1
  have e0 : ∀ base sLen sCap, fappend TD 4 56 (.slice base sLen sCap) s σ = fappend2 TD 4 56 sLen sCap base bs.length cs σ := fun base sLen sCap => by
    show (match fnew 4 s σ with | some (n, new) => cond (new.all oneCell) (fappend2 TD 4 56 sLen sCap base n new σ) .no | none => .no) = _
    rw [hn]
    show cond (cs.all oneCell) _ _ = _
    rw [hall]; rfl
  rcases hV with ⟨rfl, rfl⟩ | ⟨b, cw, ver, rfl, hb, hlb, hrw⟩
  · rw [e0]
    unfold fappend2
    by_cases h0 : bs.length = 0
    · rw [h0]
      have : bs = [] := List.length_eq_zero_iff.1 h0
      subst this
      exact ⟨none, 0, σ, rfl, trivial, hw, Nat.le_refl _, Nat.le_refl _, fun _ _ => rfl⟩
    · have hm : (0 + bs.length) * (56 + 1) ≤ 1000000000 := by omega
      rw [show Nat.ble (0 + bs.length) 0 = false by rw [← Bool.not_eq_true, Nat.ble_eq]; omega, show Nat.ble ((0 + bs.length) * (56 + 1)) 1000000000 = true by rw [Nat.ble_eq]; exact hm]
      show ∃ p c τ, fgrow TD 4 (0 + bs.length) cs σ = _ ∧ _
      unfold fgrow
      rw [Nat.zero_add]
      refine ⟨_, _, _, rfl, ?_, hw.push _ _, by rw [push_next]; omega, by rw [push_clock]; omega, fun b hb => by rw [push_get, if_neg (by omega)]⟩
      have hb : (σ.push (.cells cs TD) (some 4)).cells σ.next = some cs := by rw [cells_push, if_pos rfl]; rfl
      exact (hr.keep (R' := fun _ => True) fun b xs hb hc => ⟨by rw [cells_push, if_neg (by have := hw.cells hc; omega)]; exact hc, trivial⟩).elems hb trivial (fun _ _ => trivial) 0 bs fun j e he => by rwa [Nat.zero_add]
  · have hbn := (hw _ _ hb).1
    rw [e0]
    unfold fappend2
    by_cases h0 : bs.length = 0
    · rw [h0]
      have : bs = [] := List.length_eq_zero_iff.1 h0
      subst this
      have hcs : cs = [] := List.length_eq_zero_iff.1 (by rw [hr.1]; rfl)
      subst hcs
      rw [show Nat.ble (es.length + 0) es.length = true by rw [Nat.ble_eq]; omega]
      show ∃ p c τ, fappendRoom 4 es.length es.length (some ⟨b, 0, none⟩) 0 [] σ = _ ∧ _
      unfold fappendRoom
      simp only [hb, spliceN_eq, List.length_nil, Nat.add_zero, List.append_nil]
      rw [if_pos (by rw [hrw.1]; omega)]
      rw [List.take_append_drop]
      refine ⟨_, _, _, rfl, ?_, hw.put _ _ _ hbn, by rw [put_next]; omega, by rw [put_clock]; omega, fun c hc => by rw [put_get, if_neg (by omega)]⟩
      have hb' : (σ.put b (.cells cw TD) (some 4)).cells b = some cw := by rw [cells_put, if_pos rfl]; rfl
      exact (hrw.keep (R' := fun _ => True) fun c xs hc hxs => ⟨by rw [cells_put, if_neg hc.2]; exact hxs, trivial⟩).elems hb' trivial (fun _ _ => trivial) 0 es fun j e he => by rwa [Nat.zero_add]
    · have hm : (es.length + bs.length) * (56 + 1) ≤ 1000000000 := by omega
      rw [show Nat.ble (es.length + bs.length) es.length = false by rw [← Bool.not_eq_true, Nat.ble_eq]; omega, show Nat.ble ((es.length + bs.length) * (56 + 1)) 1000000000 = true by rw [Nat.ble_eq]; exact hm]
      show ∃ p c τ, fappendGrow TD 4 es.length es.length (some ⟨b, 0, none⟩) bs.length cs σ = _ ∧ _
      unfold fappendGrow
      have hc := cells_of_get hb
      simp only [loadAll_eq, hc, hb, List.drop_zero, Nat.sub_zero, hrw.1, Nat.le_refl, if_true]
      rw [show Nat.beq es.length es.length = true by rw [Nat.beq_eq], show Nat.beq 4 4 = true from rfl, List.take_of_length_le (by rw [hrw.1]; omega)]
      show ∃ p c τ, fgrow TD 4 (es.length + bs.length) (cw ++ cs) (σ.put b (.defd false) none) = _ ∧ _
      unfold fgrow
      have hw2 := hw.put b (.defd false) none hbn
      have hk1 : ∀ c xs, (lo < c ∧ c ≠ b) → σ.cells c = some xs → ((σ.put b (.defd false) none).push (.cells (cw ++ cs) TD) (some 4)).cells c = some xs ∧ True := fun c xs hc hxs => ⟨by
        rw [cells_push, if_neg (by have := hw.cells hxs; rw [put_next]; omega), cells_put, if_neg hc.2]; exact hxs, trivial⟩
      have hk2 : ∀ c xs, R c → σ.cells c = some xs → ((σ.put b (.defd false) none).push (.cells (cw ++ cs) TD) (some 4)).cells c = some xs ∧ True := fun c xs hc hxs => ⟨by
        have := hR c hc
        rw [cells_push, if_neg (by have := hw.cells hxs; rw [put_next]; omega), cells_put, if_neg (by omega)]; exact hxs, trivial⟩
      refine ⟨_, _, _, by rw [List.length_append], ?_, hw2.push _ _, by rw [push_next, put_next]; omega, by rw [push_clock, put_clock]; omega, fun c hc => by rw [push_get, if_neg (by rw [put_next]; omega), put_get, if_neg (by omega)]⟩
      have hb' : ((σ.put b (.defd false) none).push (.cells (cw ++ cs) TD) (some 4)).cells (σ.put b (.defd false) none).next = some (cw ++ cs) := by rw [cells_push, if_pos rfl]; rfl
      exact (Row.append (hrw.keep (R' := fun _ => True) hk1) (hr.keep (R' := fun _ => True) hk2)).elems hb' trivial (fun _ _ => trivial) 0 (es ++ bs) fun j e he => by rwa [Nat.zero_add]
end Go.Proofs.YtodkeaoikjjneaaGreatDoor
/- DatumListed: what the reading says. -/
namespace Go.Proofs.YtodkeaoikjjneaaGreatDoor
open Go Go.Eng
attribute [local congr] andThen_congr fops_congr fdraw_congr afterOp_congr drawF_congr
attribute [-go_sem] List.range_succ
theorem rest1_go (q x bl bd K : Nat) (L : List (List D)) (f g : Nat → Value) (σ : FState) (h : HeadO x bl bd K 3 L f σ) :
    ∃ σ', leaveR Tryz.prog (top (q + 40)) [.tmp 2] (restL1 (top (q + 40)) none 3 (Sl 26 205 f g []) none σ) = .ret (.bool true) none σ' := by
  obtain ⟨f3, f4, f5, f6, ⟨lt1, lt2, lt3⟩, ⟨va, ss, hga, hss, hnil, hheld⟩, ⟨vd, w, hgd, hwl, hlaid⟩, hll, hmade, hw, ⟨k, hC, hkK⟩⟩ := h
  obtain ⟨a, b, c, rfl⟩ : ∃ a b c, L = [a, b, c] := by
    match L, hll with
    | [a, b, c], _ => exact ⟨a, b, c, rfl⟩
  obtain ⟨hA, nA, dA⟩ := made_elems q (hmade a (by simp)).1 (hmade a (by simp)).2
  obtain ⟨hB, nB, dB⟩ := made_elems q (hmade b (by simp)).1 (hmade b (by simp)).2
  obtain ⟨hCc, nC, dC⟩ := made_elems q (hmade c (by simp)).1 (hmade c (by simp)).2
  have l3a := (hmade a (by simp)).1
  have l3b := (hmade b (by simp)).1
  have l3c := (hmade c (by simp)).1
  have mk : ∀ (j : Nat) (es : List D), [a, b, c][j]? = some es → Elems (q + 31) es → Lst q σ ((w.drop (j * 4)).take 4) es := fun j es hj hE => by
    have hL := hlaid j es hj
    obtain ⟨l4, e4, hl4, ho4⟩ := hL.agg
    have e5 : (w.drop (j * 4)).take 4 = l4 := by
      have := Value.agg.inj e4
      simpa using congrArg Array.toList this
    rw [e5] at hL ⊢
    exact ⟨hl4, ho4, hL.keep fun b cs hb hc => ⟨hc, hw.cells hc⟩, hE⟩
  have la : Lst q σ (w.take 4) a := by have := mk 0 a rfl hA; simpa using this
  have lb : Lst q σ ((w.drop 4).take 4) b := mk 1 b rfl hB
  have lc : Lst q σ ((w.drop 8).take 4) c := mk 2 c rfl hCc
  obtain ⟨s0, hs0, hH0⟩ := hheld 0 a rfl
  obtain ⟨s1, hs1, hH1⟩ := hheld 1 b rfl
  have cd := cells_of_get hgd
  have cl := cells_of_get hga
  have m0 : 4 ≤ w.length := by omega
  have m1 : 4 ≤ w.length - 4 := by omega
  have m2 : 4 ≤ w.length - 8 := by omega
  -- ab
  obtain ⟨x4, σ1, e1, x1, hw1, lx⟩ := appendT q hw la lb (by omega) (by omega)
  obtain ⟨y1, hv1, c1⟩ := box_of hw1 x4
  have X1 := x1.trans y1
  have cd1 := (X1.cells (hw.cells cd)).trans cd
  have lx1 := lx.ext hw1 y1
  have tx4 : x4.take 4 = x4 := List.take_of_length_le (by have := lx.four; omega)
  unfold restL1
  simp -implicitDefEqProofs only [go_sem, ↓reduceIte, Nat.reduceLT, Nat.reduceEqDiff, Nat.reduceAdd, Nat.reduceMul, Nat.reduceLeDiff, Nat.reduceSub, fstoreN, r3_16_go, r3_16U, f5, findexP0, findexP1, cd, m0, m1, e1, lx.four, lx.ones, tx4, Nat.le_refl]
  generalize hff : upd _ 13 _ = f1
  have p4 : f1 4 = .pointer (some ⟨bl, 0, none⟩) := by rw [← hff]; simp -implicitDefEqProofs only [upd_go, kept_go, ↓reduceIte, Nat.reduceEqDiff, Nat.reduceLT, reduceCtorEq, f4]
  have p5 : f1 5 = .pointer (some ⟨bd, 0, none⟩) := by rw [← hff]; simp -implicitDefEqProofs only [upd_go, kept_go, ↓reduceIte, Nat.reduceEqDiff, Nat.reduceLT, reduceCtorEq, f5]
  have p12 : f1 12 = .pointer (some ⟨σ1.next, 0, none⟩) := by rw [← hff]; simp -implicitDefEqProofs only [upd_go, kept_go, ↓reduceIte, Nat.reduceEqDiff, Nat.reduceLT, reduceCtorEq]
  have p13 : f1 13 = .int .i64 0 := by rw [← hff]; simp -implicitDefEqProofs only [upd_go, kept_go, ↓reduceIte, Nat.reduceEqDiff, Nat.reduceLT, reduceCtorEq]
  clear hff
  generalize FState.put _ _ _ _ = σ2 at y1 hv1 c1 X1 cd1 lx1 ⊢
  -- bc
  obtain ⟨u4, σ3, e3, x3, hw3, lu⟩ := appendT q hv1 (lb.ext hw X1) (lc.ext hw X1) (by omega) (by omega)
  obtain ⟨y3, hv3, c3⟩ := box_of hw3 u4
  have X3 := x3.trans y3
  have X03 := X1.trans X3
  have tu4 : u4.take 4 = u4 := List.take_of_length_le (by have := lu.four; omega)
  have lu3 := lu.ext hw3 y3
  have lx3 := lx1.ext hv1 X3
  have c13 := (X3.cells (hv1.cells c1)).trans c1
  simp -implicitDefEqProofs only [go_sem, ↓reduceIte, Nat.reduceLT, Nat.reduceEqDiff, Nat.reduceAdd, Nat.reduceMul, Nat.reduceLeDiff, Nat.reduceSub, fstoreN, r3_17_go, r3_17U, p5, findexP1, findexP2, cd1, m1, m2, e3, lu.four, lu.ones, tu4, Nat.le_refl]
  generalize hff : upd _ 15 _ = f2
  have s4 : f2 4 = .pointer (some ⟨bl, 0, none⟩) := by rw [← hff]; simp -implicitDefEqProofs only [upd_go, kept_go, ↓reduceIte, Nat.reduceEqDiff, Nat.reduceLT, reduceCtorEq, p4]
  have s5 : f2 5 = .pointer (some ⟨bd, 0, none⟩) := by rw [← hff]; simp -implicitDefEqProofs only [upd_go, kept_go, ↓reduceIte, Nat.reduceEqDiff, Nat.reduceLT, reduceCtorEq, p5]
  have s12 : f2 12 = .pointer (some ⟨σ1.next, 0, none⟩) := by rw [← hff]; simp -implicitDefEqProofs only [upd_go, kept_go, ↓reduceIte, Nat.reduceEqDiff, Nat.reduceLT, reduceCtorEq, p12]
  have s13 : f2 13 = .int .i64 0 := by rw [← hff]; simp -implicitDefEqProofs only [upd_go, kept_go, ↓reduceIte, Nat.reduceEqDiff, Nat.reduceLT, reduceCtorEq, p13]
  have s14 : f2 14 = .pointer (some ⟨σ3.next, 0, none⟩) := by rw [← hff]; simp -implicitDefEqProofs only [upd_go, kept_go, ↓reduceIte, Nat.reduceEqDiff, Nat.reduceLT, reduceCtorEq]
  have s15 : f2 15 = .int .i64 0 := by rw [← hff]; simp -implicitDefEqProofs only [upd_go, kept_go, ↓reduceIte, Nat.reduceEqDiff, Nat.reduceLT, reduceCtorEq]
  clear hff
  generalize FState.put _ _ _ _ = σ4 at y3 hv3 c3 X3 X03 lu3 lx3 c13 ⊢
  -- ToList(ab)
  obtain ⟨pt, ct, σ5, e5, x5, hw5, hE5⟩ := tolistT q hv3 lx3
  have X05 := X03.trans x5
  simp -implicitDefEqProofs only [go_sem, ↓reduceIte, Nat.reduceLT, Nat.reduceEqDiff, Nat.reduceAdd, Nat.reduceMul, Nat.reduceLeDiff, Nat.reduceSub, r3_18_go, r3_18U, s12, c13, lx.four, tx4, e5, Nat.le_refl]
  generalize hff : upd _ 17 _ = f3'
  have t4 : f3' 4 = .pointer (some ⟨bl, 0, none⟩) := by rw [← hff]; simp -implicitDefEqProofs only [upd_go, kept_go, ↓reduceIte, Nat.reduceEqDiff, Nat.reduceLT, reduceCtorEq, s4]
  have t5 : f3' 5 = .pointer (some ⟨bd, 0, none⟩) := by rw [← hff]; simp -implicitDefEqProofs only [upd_go, kept_go, ↓reduceIte, Nat.reduceEqDiff, Nat.reduceLT, reduceCtorEq, s5]
  have t12 : f3' 12 = .pointer (some ⟨σ1.next, 0, none⟩) := by rw [← hff]; simp -implicitDefEqProofs only [upd_go, kept_go, ↓reduceIte, Nat.reduceEqDiff, Nat.reduceLT, reduceCtorEq, s12]
  have t13 : f3' 13 = .int .i64 0 := by rw [← hff]; simp -implicitDefEqProofs only [upd_go, kept_go, ↓reduceIte, Nat.reduceEqDiff, Nat.reduceLT, reduceCtorEq, s13]
  have t14 : f3' 14 = .pointer (some ⟨σ3.next, 0, none⟩) := by rw [← hff]; simp -implicitDefEqProofs only [upd_go, kept_go, ↓reduceIte, Nat.reduceEqDiff, Nat.reduceLT, reduceCtorEq, s14]
  have t15 : f3' 15 = .int .i64 0 := by rw [← hff]; simp -implicitDefEqProofs only [upd_go, kept_go, ↓reduceIte, Nat.reduceEqDiff, Nat.reduceLT, reduceCtorEq, s15]
  have t16 : f3' 16 = .slice pt (a ++ b).length ct := by rw [← hff]; simp -implicitDefEqProofs only [upd_go, kept_go, ↓reduceIte, Nat.reduceEqDiff, Nat.reduceLT, reduceCtorEq]
  have t17 : f3' 17 = .int .i64 0 := by rw [← hff]; simp -implicitDefEqProofs only [upd_go, kept_go, ↓reduceIte, Nat.reduceEqDiff, Nat.reduceLT, reduceCtorEq]
  clear hff
  -- KeepData(lists[0])
  obtain ⟨lo, hlo⟩ : ∃ lo, σ5.next = lo + 1 := ⟨σ5.next - 1, by have := X05.next; omega⟩
  have k5 : ∀ b cs, bd < b → σ.cells b = some cs → σ5.cells b = some cs ∧ b ≤ lo := fun b cs hb hc => ⟨(X05.cells (hw.cells hc)).trans hc, by have := hw.cells hc; have := X05.next; omega⟩
  have H0 := hH0.keep k5
  have H1 := hH1.keep k5
  obtain ⟨p0, rfl, hE0⟩ := H0.slice
  obtain ⟨wk, σ6, e6, x6, hw6, hV6⟩ := keepL_go (q + 35) 4 lo p0 a.length a dA (by omega) σ5 hw5 hlo hE0 (fun b hb => by omega)
  have e6' : (top (q + 40)).call 15 [.slice p0 a.length a.length] none σ5 = .ret wk none σ6 := (top_call _ _ _ _ rfl).trans e6
  have n6 := x6.next
  obtain ⟨p7, c7, σ7, e7, hE7, hw7, n7, k7, hg7⟩ := vec_appendAll hw6 hV6 (H1.keep (R' := fun b => b ≤ lo) fun b cs hb hc => ⟨(x6.cells (hw5.cells hc)).trans hc, hb⟩) (fun b hb => hb) (by omega) (by omega) (by omega)
  have x57 : Ext σ5 σ7 := ⟨by omega, by have := x6.clock; omega, fun b hb => by rw [hg7 b (by omega)]; exact x6.get b hb⟩
  have hdab : ∀ d ∈ a ++ b, d.deep ≤ 4 := fun d hd => (List.mem_append.1 hd).elim (fun h => (dA d h).1) (fun h => (dB d h).1)
  obtain ⟨σ8, e8, x8, hw8⟩ := eqDataT q (a ++ b) pt p7 ct c7 (fun b => σ4.next ≤ b) (fun _ => True) σ7 (by have := counts_deeps 4 (a ++ b) hdab; omega) (by rw [counts_append]; omega) hw7 (hE5.keep fun b cs hb hc => ⟨(x57.cells (hw5.cells hc)).trans hc, hb⟩) hE7
  have X58 := x57.trans x8
  have X08 := X05.trans X58
  have hvw := view_wf hw5 (lam := σ5.clock) (Nat.le_refl _)
  have cl5 := (X05.cells (hw.cells cl)).trans cl
  have v6 : (view σ6 σ5.clock).cells bl = some ss := view_old hw5 (Nat.le_refl _) (x6.get _ (hw5.cells cl5)) cl5
  have y0 : (!((0 : Int) == 0)) = false := by decide
  have o6 := hV6.ones
  have o1 := H1.ones
  simp -implicitDefEqProofs only [go_sem, ↓reduceIte, Nat.reduceLT, Nat.reduceEqDiff, Nat.reduceAdd, Nat.reduceMul, Nat.reduceLeDiff, Nat.reduceSub, r3_19_go, r3_19U, t4, t13, t15, t16, t17, y0, findexP0, findexP1, hvw, cl5, hs0, hs1, e6', v6, e7, e8, o6.1, o6.2.1, o6.2.2, o1.1, o1.2.1, o1.2.2]
  have c138 := ((x5.trans X58).cells (hv3.cells c13)).trans c13
  have c38 := ((x5.trans X58).cells (hv3.cells c3)).trans c3
  exact rest2_go q bd σ1.next σ3.next w x4 u4 a b c f3' _ σ8 hw8 ((X08.cells (hw.cells cd)).trans cd) hwl (la.ext hw X08) (lb.ext hw X08) (lc.ext hw X08) c138 (lx3.ext hv3 (x5.trans X58)) c38 (lu3.ext hv3 (x5.trans X58)) (by omega) (by omega) t5 t12 t14
end Go.Proofs.YtodkeaoikjjneaaGreatDoor
/- DatumListed: what the reading says. -/
namespace Go.Proofs.YtodkeaoikjjneaaGreatDoor
open Go Go.Eng
attribute [local congr] andThen_congr fops_congr fdraw_congr afterOp_congr drawF_congr
attribute [-go_sem] List.range_succ
theorem listed_says (q : Nat) (p : Option Addr) (l : List Int) (cp : Nat) (hl : l.length < 9223372036854775808) (σ : FState) (hw : Wf σ) (hI : Ints σ p l) (hp : ∀ a, p = some a → a.block < σ.next) :
    ∃ σ', fcall Tryz.prog nls (top (q + 40)) 3 [.slice p l.length cp] none σ = .ret (.bool true) none σ' := by
  obtain ⟨σ1, e1, x1, hw1, hC⟩ := newCoil_go (q + 39) p l cp hl σ hw hI hp
  have hn1 : σ.next < σ1.next := by obtain ⟨_, _, _, _, _, h, _⟩ := hC; exact (hw1 _ _ h).1
  have e1' : (top (q + 40)).call 11 [.slice p l.length cp] none σ = .ret (.pointer (some ⟨σ.next, 0, none⟩)) none σ1 := (top_call _ _ _ _ rfl).trans e1
  rw [enter3 _ _ _ _ (by simp), Sl_start, run_restL]
  simp -implicitDefEqProofs only [go_sem, ↓reduceIte, Nat.reduceLT, Nat.reduceEqDiff, Nat.reduceAdd, Nat.reduceMul, Nat.reduceLeDiff, Nat.reduceSub, r3_0_go, r3_0U, r3_1_go, r3_1U, r3_2_go, r3_2U, r3_3_go, r3_3U, r3_4_go, r3_4U, Option.getD_some, e1']
  generalize hff : upd _ 6 _ = f1
  generalize hbf : bigFuel = fuel
  generalize upd _ 27 _ = gg
  have x2 : Ext σ1 ((σ1.push (.cells [.slice none 0 0, .slice none 0 0, .slice none 0 0] 26) none).push (.cells [.int .i64 0, .int .i64 0, .string ⟨#[]⟩, .slice none 0 0, .int .i64 0, .int .i64 0, .string ⟨#[]⟩, .slice none 0 0, .int .i64 0, .int .i64 0, .string ⟨#[]⟩, .slice none 0 0] 29) none) := ((Ext.refl _).push _ _).push _ _
  obtain ⟨f2, g2, σ3, L, e3, h3⟩ := outer_loop q (x := σ.next) (bl := σ1.next) (bd := σ1.next + 1) (K := 30000) (by omega) 3 fuel 0 [] f1 gg ((σ1.push (.cells [.slice none 0 0, .slice none 0 0, .slice none 0 0] 26) none).push (.cells [.int .i64 0, .int .i64 0, .string ⟨#[]⟩, .slice none 0 0, .int .i64 0, .int .i64 0, .string ⟨#[]⟩, .slice none 0 0, .int .i64 0, .int .i64 0, .string ⟨#[]⟩, .slice none 0 0] 29) none) rfl (by rw [← hbf]; show 3 < 1000000000000; omega) {
    f3 := by rw [← hff]; simp -implicitDefEqProofs only [upd_go, kept_go, ↓reduceIte, Nat.reduceEqDiff, Nat.reduceLT, reduceCtorEq]
    f4 := by rw [← hff]; simp -implicitDefEqProofs only [upd_go, kept_go, ↓reduceIte, Nat.reduceEqDiff, Nat.reduceLT, reduceCtorEq]
    f5 := by rw [← hff]; simp -implicitDefEqProofs only [upd_go, kept_go, ↓reduceIte, Nat.reduceEqDiff, Nat.reduceLT, reduceCtorEq]
    f6 := by rw [← hff]; simp -implicitDefEqProofs only [upd_go, kept_go, ↓reduceIte, Nat.reduceEqDiff, Nat.reduceLT, reduceCtorEq] <;> rfl
    lt := ⟨hn1, by omega, by simp only [push_next]; omega⟩
    arr := ⟨_, _, by rw [push_get, if_neg (by rw [push_next]; omega), push_get, if_pos rfl], rfl, fun j _ hj => by
      match j, hj with
      | 0, _ => rfl
      | 1, _ => rfl
      | 2, _ => rfl, fun j ds hj => by simp at hj⟩
    dat := ⟨_, _, by rw [push_get, if_pos (by rw [push_next])], rfl, fun j ds hj => by simp at hj⟩
    llen := rfl
    made := fun ds hd => by cases hd
    wf := (hw1.push _ _).push _ _
    coil := ⟨0, hC.ext hw1 x2, by omega⟩ }
  rw [e3]
  simp -implicitDefEqProofs only [go_sem, ↓reduceIte, Nat.reduceLT, Nat.reduceEqDiff, Nat.reduceAdd, Nat.reduceMul, Nat.reduceLeDiff, Nat.reduceSub]
  exact rest1_go q σ.next σ1.next (σ1.next + 1) 30000 L f2 g2 σ3 h3
end Go.Proofs.YtodkeaoikjjneaaGreatDoor
