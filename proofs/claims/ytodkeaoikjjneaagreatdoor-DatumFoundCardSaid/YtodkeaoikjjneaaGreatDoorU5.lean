/- The reading of the program, and what is so of it: SymQ, SymPb, SymPe0, SymCF, SymPe, SymPe2, SymE, SymE3, SymP3, SymPf, SymPf2, SymPf3. -/
import Derived.Test.YtodkeaoikjjneaaGreatDoorU4
import Derived.Laws.StructEq
import Derived.Test.YtodkeaoikjjneaaGreatDoorU3
set_option linter.unusedSimpArgs false
set_option linter.unusedVariables false
/- Data of few pieces: counts, depths; data that DatumOf makes. -/
namespace Go.Eng
mutual
def D.count : D → Nat
  | .mk _ _ _ ds => D.counts ds + 1
def D.counts : List D → Nat
  | [] => 0
  | d :: ds => D.count d + D.counts ds
end
end Go.Eng
namespace Go.Proofs.YtodkeaoikjjneaaGreatDoor
open Go Go.Eng
mutual
theorem pieces_length : ∀ (d : D) (path : List Nat), (d.pieces path).length = d.count
  | .mk k z t ds, path => by rw [D.pieces, List.length_cons, piecesL_length ds path 0, D.count]
theorem piecesL_length : ∀ (ds : List D) (path : List Nat) (i : Nat), (D.piecesL path i ds).length = D.counts ds
  | [], path, i => rfl
  | d :: ds, path, i => by rw [D.piecesL, List.length_append, pieces_length d (path ++ [i]), piecesL_length ds path (i + 1), D.counts]
end
theorem foldl_max (f : List Nat × D → Nat) (l : List (List Nat × D)) : ∀ m, l.foldl (fun m x => max m (f x)) m = max m (l.foldl (fun m x => max m (f x)) 0) := by
  induction l with
  | nil => intro m; simp
  | cons x l ih => intro m; simp only [List.foldl_cons]; rw [ih (max m (f x)), ih (max 0 (f x))]; omega
theorem longest_append (a b : List (List Nat × D)) : longest (a ++ b) = max (longest a) (longest b) := by
  unfold longest
  rw [List.foldl_append, foldl_max (fun x => x.1.length + 1)]
theorem longest_cons (x : List Nat × D) (l : List (List Nat × D)) : longest (x :: l) = max (x.1.length + 1) (longest l) := by
  have := longest_append [x] l
  rw [List.singleton_append] at this
  rw [this]
  simp [longest]
mutual
theorem longest_pieces : ∀ (d : D) (path : List Nat), longest (d.pieces path) = path.length + d.deep
  | .mk k z t ds, path => by
    rw [D.pieces, longest_cons, D.deep]
    have := longest_piecesL ds path 0
    simp only
    omega
theorem longest_piecesL : ∀ (ds : List D) (path : List Nat) (i : Nat), max (path.length + 1) (longest (D.piecesL path i ds)) = path.length + 1 + D.deeps ds
  | [], path, i => by simp [D.piecesL, longest, D.deeps]
  | d :: ds, path, i => by
    rw [D.piecesL, longest_append, D.deeps]
    have h1 := longest_pieces d (path ++ [i])
    have h2 := longest_piecesL ds path (i + 1)
    rw [List.length_append, List.length_singleton] at h1
    have h3 : 1 ≤ d.deep := by cases d; rw [D.deep]; omega
    omega
end
/-- A piece as it should be. -/
def GoodD (m : Nat) (d : D) : Prop := ∀ k z t ds, d = D.mk k z t ds → ∃ k' : Nat, k = (k' : Int) ∧ Good m k' z t ds.length
def most : Nat → Nat
  | 0 => 1
  | L + 1 => 3 * most L + 1
theorem most_pos (L : Nat) : 1 ≤ most L := by cases L <;> simp [most]
/-- What is so of the pieces of data of so many levels. -/
def Fine (m L : Nat) (d : D) : Prop := ∀ path, (d.pieces path).length ≤ most L ∧ ∀ x ∈ d.pieces path, x.1.length ≤ path.length + L ∧ x.2.parts.length ≤ 3 ∧ GoodD m x.2
theorem fineL {m L : Nat} (path : List Nat) : ∀ (ds : List D) (i : Nat), (∀ d ∈ ds, Fine m L d) → (D.piecesL path i ds).length ≤ ds.length * most L ∧ ∀ x ∈ D.piecesL path i ds, x.1.length ≤ path.length + (L + 1) ∧ x.2.parts.length ≤ 3 ∧ GoodD m x.2
  | [], i, _ => ⟨by simp [D.piecesL], fun x hx => by simp [D.piecesL] at hx⟩
  | d :: ds, i, h => by
    obtain ⟨h1, h2⟩ := h d List.mem_cons_self (path ++ [i])
    obtain ⟨h3, h4⟩ := fineL path ds (i + 1) fun d' hd => h d' (List.mem_cons_of_mem _ hd)
    refine ⟨?_, fun x hx => ?_⟩
    · rw [D.piecesL, List.length_append, List.length_cons, Nat.add_mul]
      omega
    · rw [D.piecesL, List.mem_append] at hx
      rcases hx with hx | hx
      · have := h2 x hx
        rw [List.length_append, List.length_singleton] at this
        exact ⟨by omega, this.2⟩
      · exact h4 x hx
theorem fine_mk {m L : Nat} {k z : Int} {t : ByteArray} {ds : List D} (hl : ds.length ≤ 3) (hg : GoodD m (.mk k z t ds)) (h : ∀ d ∈ ds, Fine m L d) : Fine m (L + 1) (.mk k z t ds) := fun path => by
  obtain ⟨h1, h2⟩ := fineL path ds 0 h
  rw [D.pieces]
  refine ⟨?_, fun x hx => ?_⟩
  · rw [List.length_cons, most]
    have := Nat.mul_le_mul_right (most L) hl
    omega
  · rcases List.mem_cons.1 hx with rfl | hx
    · exact ⟨by simp, hl, hg⟩
    · exact h2 x hx
theorem fine_leaf {m L : Nat} {k z : Int} {t : ByteArray} (hg : GoodD m (.mk k z t [])) : Fine m L (.mk k z t []) := fun path => by
  rw [D.pieces, D.piecesL]
  refine ⟨by have := most_pos L; simp; omega, fun x hx => ?_⟩
  rcases List.mem_cons.1 hx with rfl | hx
  · exact ⟨by simp, by simp [D.parts], hg⟩
  · simp at hx
theorem made_fine (n : Nat) {L : Nat} {d : D} (h : Made L d) : Fine (n + 20) L d := by
  induction h with
  | leaf L d h =>
    obtain ⟨k, z, t, l⟩ := d
    obtain ⟨k', rfl, hg, rfl⟩ := leaf_good n h
    exact fine_leaf fun k z t ds e => by cases e; exact ⟨k', rfl, hg⟩
  | pair L a b ha hb iha ihb =>
    refine fine_mk (by simp) (fun k z t ds e => ?_) fun d hd => ?_
    · cases e
      exact ⟨5, rfl, .pair⟩
    · simp only [List.mem_cons, List.not_mem_nil, or_false] at hd
      rcases hd with rfl | rfl
      · exact iha
      · exact ihb
  | vec L l hl h ih =>
    refine fine_mk hl (fun k z t ds e => ?_) fun d hd => ih d hd
    cases e
    exact ⟨6, rfl, .vec _⟩
theorem Fine.small {m L : Nat} {d : D} (h : Fine m L d) (hL : L ≤ 6) : Small (d.pieces []) := fun x hx => by
  have := (h []).2 x hx
  rw [List.length_nil] at this
  exact ⟨by omega, by omega⟩
theorem Fine.good {m L : Nat} {d : D} (h : Fine m L d) : AllGood m (d.pieces []) := fun path k z t ds hx => ((h []).2 _ hx).2.2 k z t ds rfl
theorem most_le {L : Nat} (h : L ≤ 6) : most L ≤ 1093 := by
  obtain rfl | rfl | rfl | rfl | rfl | rfl | rfl : L = 0 ∨ L = 1 ∨ L = 2 ∨ L = 3 ∨ L = 4 ∨ L = 5 ∨ L = 6 := by omega
  all_goals decide
theorem Fine.few {m L : Nat} {d : D} (h : Fine m L d) (hL : L ≤ 6) : (d.pieces []).length ≤ 1093 := Nat.le_trans (h []).1 (most_le hL)
/-- The parts of data that are made. -/
theorem Fine.part {m L : Nat} {k z : Int} {t : ByteArray} {ds : List D} {d : D} (h : Made L (.mk k z t ds)) (hd : d ∈ ds) : Made (L - 1) d := by
  cases h with
  | leaf L d h => cases h <;> simp at hd
  | pair L a b ha hb =>
    simp only [List.mem_cons, List.not_mem_nil, or_false] at hd
    rcases hd with rfl | rfl
    · exact ha
    · exact hb
  | vec L l hl h => exact h d hd
end Go.Proofs.YtodkeaoikjjneaaGreatDoor
/- caracolekit.EqInts and caracoleref01.Part. -/
namespace Go.Proofs.YtodkeaoikjjneaaGreatDoor
open Go Go.Eng
attribute [local congr] andThen_congr fops_congr fdraw_congr afterOp_congr drawF_congr
attribute [-go_sem] List.range_succ
theorem keepEqi : keepOf nls 29 = [] := by kernel_rfl
theorem pathV_slice {Q : Nat → Prop} {σ : FState} {v : Value} {p : List Nat} (h : PathV Q σ v p) : ∃ a cx, v = .slice a p.length cx ∧ (p ≠ [] → ∃ b rest, a = some ⟨b, 0, none⟩ ∧ Q b ∧ σ.cells b = some (intsOf p ++ rest)) := by
  rcases h with ⟨rfl, rfl⟩ | ⟨b, cx, rest, rfl, hQ, hc⟩
  · exact ⟨none, 0, rfl, fun h => absurd rfl h⟩
  · exact ⟨_, cx, rfl, fun _ => ⟨b, rest, rfl, hQ, hc⟩⟩
theorem intsOf_get {p : List Nat} {i : Nat} (rest : List Value) (h : i < p.length) : (intsOf p ++ rest)[i]? = some (.int .i64 (.ofNat p[i])) := by
  rw [List.getElem?_append_left (by rw [intsOf_length]; exact h), intsOf, List.getElem?_map, List.getElem?_eq_getElem h]; rfl
structure HeadEi (v w : Value) (i : Nat) (f : Nat → Value) : Prop where
  f0 : f 0 = v
  f1 : f 1 = w
  f5 : f 5 = .int .i64 (.ofNat i)
theorem eqInts_loop (E : Env) {p p' : List Nat} (hlen : p.length = p'.length) {a a' : Option Addr} {cx cx' : Nat} {σ : FState} (hw : Wf σ) (hs : p.length < 100000)
    (h1 : p ≠ [] → ∃ b rest, a = some ⟨b, 0, none⟩ ∧ σ.cells b = some (intsOf p ++ rest)) (h2 : p' ≠ [] → ∃ b rest, a' = some ⟨b, 0, none⟩ ∧ σ.cells b = some (intsOf p' ++ rest)) :
    ∀ (j fuel i : Nat) (f g : Nat → Value), i + j = p.length → j < fuel → HeadEi (.slice a p.length cx) (.slice a' p'.length cx') i f →
    ∃ e f' g', floop [] (l29_0 E none 29) fuel (Sl 6 26 f g []) none σ = .done e (Sl 6 26 f' g' []) none σ ∧ (if p.drop i = p'.drop i then e = .exit 0 else e = .ret ∧ f' 4 = .bool false) := by
  intro j
  induction j with
  | zero =>
    intro fuel i f g hij hf h
    obtain ⟨fuel, rfl⟩ : ∃ q, fuel = q + 1 := ⟨fuel - 1, by omega⟩
    obtain rfl : i = p.length := by omega
    have d1 : decide (Int.ofNat p.length < Int.ofNat p.length) = false := by simp
    rw [floop_step, Sl_forget]
    unfold l29_0
    simp -implicitDefEqProofs only [go_sem, ↓reduceIte, Nat.reduceLT, Nat.reduceEqDiff, Nat.reduceAdd, Nat.reduceMul, Nat.reduceLeDiff, Nat.reduceSub, r29_4_go, r29_4U, h.f0, h.f5, d1]
    refine ⟨_, _, _, rfl, ?_⟩
    rw [List.drop_length, hlen, List.drop_length, if_pos rfl]
  | succ j ih =>
    intro fuel i f g hij hf h
    obtain ⟨fuel, rfl⟩ : ∃ q, fuel = q + 1 := ⟨fuel - 1, by omega⟩
    have hi : i < p.length := by omega
    have hi' : i < p'.length := by omega
    have d1 : decide (Int.ofNat i < Int.ofNat p.length) = true := by simp; omega
    obtain ⟨b, rest, rfl, hc⟩ := h1 (fun h => by rw [h] at hi; simp at hi)
    obtain ⟨b', rest', rfl, hc'⟩ := h2 (fun h => by rw [h] at hi'; simp at hi')
    have hv := view_wf hw (Nat.le_refl _)
    have g1 := intsOf_get rest hi
    have g2 := intsOf_get rest' hi'
    have w3 := add1 i (by omega)
    have hdr : p.drop i = p[i] :: p.drop (i + 1) := List.drop_eq_getElem_cons hi
    have hdr' : p'.drop i = p'[i] :: p'.drop (i + 1) := List.drop_eq_getElem_cons hi'
    rw [floop_step, Sl_forget]
    unfold l29_0
    cases e : (Int.ofNat p[i] == Int.ofNat p'[i]) with
    | false =>
      simp -implicitDefEqProofs only [go_sem, ↓reduceIte, Nat.reduceLT, Nat.reduceEqDiff, Nat.reduceAdd, Nat.reduceMul, Nat.reduceLeDiff, Nat.reduceSub, r29_4_go, r29_4U, r29_6_go, r29_6U, r29_7_go, r29_7U, h.f0, h.f1, h.f5, d1, hi, hi', hv, hc, hc', g1, g2, e]
      refine ⟨_, _, _, rfl, ?_⟩
      rw [hdr, hdr', if_neg (fun h => by
        have := (List.cons.inj h).1
        rw [this] at e
        simp at e)]
      exact ⟨rfl, by simp -implicitDefEqProofs only [upd_go, kept_go, ↓reduceIte, Nat.reduceEqDiff, Nat.reduceLT, reduceCtorEq]⟩
    | true =>
      simp -implicitDefEqProofs only [go_sem, ↓reduceIte, Nat.reduceLT, Nat.reduceEqDiff, Nat.reduceAdd, Nat.reduceMul, Nat.reduceLeDiff, Nat.reduceSub, r29_4_go, r29_4U, r29_6_go, r29_6U, r29_5_go, r29_5U, h.f0, h.f1, h.f5, d1, hi, hi', hv, hc, hc', g1, g2, e, w3]
      obtain ⟨e', f', g', e1, h3⟩ := ih fuel (i + 1) (upd f 5 (.int .i64 (.ofNat (i + 1)))) _ (by omega) (by omega) {
        f0 := by simp -implicitDefEqProofs only [upd_go, kept_go, ↓reduceIte, Nat.reduceEqDiff, Nat.reduceLT, reduceCtorEq, h.f0]
        f1 := by simp -implicitDefEqProofs only [upd_go, kept_go, ↓reduceIte, Nat.reduceEqDiff, Nat.reduceLT, reduceCtorEq, h.f1]
        f5 := by simp -implicitDefEqProofs only [upd_go, kept_go, ↓reduceIte, Nat.reduceEqDiff, Nat.reduceLT, reduceCtorEq] }
      refine ⟨e', f', g', e1, ?_⟩
      have hpe : p[i] = p'[i] := Int.ofNat.inj (eq_of_beq e)
      rw [hdr, hdr', hpe]
      by_cases hh : p.drop (i + 1) = p'.drop (i + 1)
      · rw [if_pos hh] at h3
        rw [hh, if_pos rfl]; exact h3
      · rw [if_neg hh] at h3
        rw [if_neg (fun h => hh (List.cons.inj h).2)]; exact h3
/-- Two paths, compared. -/
theorem eqInts_go (n : Nat) {Q Q' : Nat → Prop} {v w : Value} {p p' : List Nat} {σ : FState} (hw : Wf σ) (hs : p.length < 100000) (h1 : PathV Q σ v p) (h2 : PathV Q' σ w p') :
    (env (n + 1)).call 29 [v, w] none σ = .ret (.bool (decide (p = p'))) none σ := by
  obtain ⟨a, cx, rfl, k1⟩ := pathV_slice h1
  obtain ⟨a', cx', rfl, k2⟩ := pathV_slice h2
  rw [env_call, enter29 _ _ _ _ (by simp), Sl_start]
  unfold run29
  cases e : (Int.ofNat p.length == Int.ofNat p'.length) with
  | false =>
    simp -implicitDefEqProofs only [go_sem, ↓reduceIte, Nat.reduceLT, Nat.reduceEqDiff, Nat.reduceAdd, Nat.reduceMul, Nat.reduceLeDiff, Nat.reduceSub, r29_0_go, r29_0U, r29_1_go, r29_1U, r29_2_go, r29_2U, Option.getD_some, e]
    rw [decide_eq_false (fun h => by rw [h] at e; simp at e)]
  | true =>
    have hl : p.length = p'.length := Int.ofNat.inj (eq_of_beq e)
    simp -implicitDefEqProofs only [go_sem, ↓reduceIte, Nat.reduceLT, Nat.reduceEqDiff, Nat.reduceAdd, Nat.reduceMul, Nat.reduceLeDiff, Nat.reduceSub, r29_0_go, r29_0U, r29_1_go, r29_1U, r29_3_go, r29_3U, Option.getD_some, e, keepEqi]
    generalize hff : upd _ 5 _ = f1
    generalize hgg : upd _ 10 _ = g1
    generalize hbf : bigFuel = fuel
    obtain ⟨e', f', g', e1, h3⟩ := eqInts_loop (env n) hl hw hs (fun h => by obtain ⟨b, r, x, _, y⟩ := k1 h; exact ⟨b, r, x, y⟩) (fun h => by obtain ⟨b, r, x, _, y⟩ := k2 h; exact ⟨b, r, x, y⟩) (cx := cx) (cx' := cx') p.length fuel 0 f1 g1 (by omega) (by rw [← hbf]; show p.length < 1000000000000; omega) {
      f0 := by rw [← hff]; simp -implicitDefEqProofs only [upd_go, kept_go, ↓reduceIte, Nat.reduceEqDiff, Nat.reduceLT, reduceCtorEq, List.getElem?_cons_zero, List.getElem?_cons_succ, Option.getD_some]
      f1 := by rw [← hff]; simp -implicitDefEqProofs only [upd_go, kept_go, ↓reduceIte, Nat.reduceEqDiff, Nat.reduceLT, reduceCtorEq, List.getElem?_cons_zero, List.getElem?_cons_succ, Option.getD_some]
      f5 := by rw [← hff]; simp -implicitDefEqProofs only [upd_go, kept_go, ↓reduceIte, Nat.reduceEqDiff, Nat.reduceLT, reduceCtorEq] <;> rfl }
    rw [e1]
    rw [List.drop_zero, List.drop_zero] at h3
    by_cases hp : p = p'
    · rw [if_pos hp] at h3
      subst h3
      simp -implicitDefEqProofs only [go_sem, ↓reduceIte, Nat.reduceLT, Nat.reduceEqDiff, Nat.reduceAdd, Nat.reduceMul, Nat.reduceLeDiff, Nat.reduceSub, r29_8_go, r29_8U]
      rw [decide_eq_true hp]
    · rw [if_neg hp] at h3
      obtain ⟨rfl, h4⟩ := h3
      simp -implicitDefEqProofs only [go_sem, ↓reduceIte, Nat.reduceLT, Nat.reduceEqDiff, Nat.reduceAdd, Nat.reduceMul, Nat.reduceLeDiff, Nat.reduceSub, h4]
      rw [decide_eq_false hp]
theorem within_go (n : Nat) (x y z : Int) (σ : FState) : (env (n + 1)).call 75 [.int .i64 x, .int .i64 y, .int .i64 z] none σ = .ret (.bool (decide (y ≤ x) && decide (x ≤ z))) none σ := by
  rw [env_call, enter75 _ _ _ _ (by simp), Sl_start]
  unfold run75
  cases e : decide (y ≤ x) with
  | false => simp -implicitDefEqProofs only [go_sem, ↓reduceIte, Nat.reduceLT, Nat.reduceEqDiff, Nat.reduceAdd, Nat.reduceMul, Nat.reduceLeDiff, Nat.reduceSub, r75_0_go, r75_0U, r75_1_go, r75_1U, Option.getD_some, e, Bool.false_and]
  | true => simp -implicitDefEqProofs only [go_sem, ↓reduceIte, Nat.reduceLT, Nat.reduceEqDiff, Nat.reduceAdd, Nat.reduceMul, Nat.reduceLeDiff, Nat.reduceSub, r75_0_go, r75_0U, r75_1_go, r75_1U, Option.getD_some, e, Bool.true_and]
theorem keepPart : keepOf nls 27 = [32] := by kernel_rfl
/-- The part at a path. -/
def atP : List Nat → D → Option D
  | [], d => some d
  | i :: p, d => match d.parts[i]? with
    | some d' => atP p d'
    | none => none
theorem sub1w (n : Nat) (h : 1 ≤ n) (h2 : n < 1000000000) : wrapI (Int.ofNat n - 1) = Int.ofNat (n - 1) := by
  rw [wrapI_of (by simp only [Int.ofNat_eq_natCast]; omega)]
  simp only [Int.ofNat_eq_natCast]
  omega
theorem length_counts : ∀ ds : List D, ds.length ≤ D.counts ds
  | [] => Nat.zero_le _
  | .mk _ _ _ l :: ds => by rw [List.length_cons, D.counts, D.count]; have := length_counts ds; omega
theorem count_mem : ∀ {ds : List D} {d : D}, d ∈ ds → d.count ≤ D.counts ds
  | x :: ds, d, h => by
    rw [D.counts]
    rcases List.mem_cons.1 h with rfl | h
    · omega
    · have := count_mem h; omega
structure HeadPt (b2 b4 : Nat) (pv : Value) (R : Nat → Prop) (k z : Int) (t : ByteArray) (q : Option Addr) (c : Nat) (ds : List D) (i : Nat) (f : Nat → Value) (σ : FState) : Prop where
  f1 : f 1 = pv
  f2 : f 2 = .pointer (some ⟨b2, 0, none⟩)
  f4 : f 4 = .pointer (some ⟨b4, 0, none⟩)
  f6 : f 6 = .int .i64 (.ofNat i)
  cd : ∃ fz ver, σ.heap.get b2 = some ⟨.cells [.int .i64 k, .int .i64 z, .string t, .slice q ds.length c] TD, false, fz, ver⟩
  lay : LaidRE R σ q 0 ds
  wf : Wf σ
theorem part_loop (m : Nat) {b2 b4 : Nat} {a : Option Addr} {cx : Nat} {path : List Nat} {R : Nat → Prop} (hs : path.length < 100000) (hR : ∀ b, R b → b ≠ b2) (x : D) :
    ∀ (j fuel i : Nat) (f g : Nat → Value) (σ : FState) (k z : Int) (t : ByteArray) (q : Option Addr) (c : Nat) (ds : List D), i + j = path.length → j < fuel → atP (path.drop i) (.mk k z t ds) = some x → (D.mk k z t ds).count < 100000 →
      (path ≠ [] → ∃ b rest, a = some ⟨b, 0, none⟩ ∧ b ≠ b2 ∧ σ.cells b = some (intsOf path ++ rest)) → HeadPt b2 b4 (.slice a path.length cx) R k z t q c ds i f σ →
    ∃ f' g' σ' k z t q c ds, floop [32] (l27_0 (env (m + 1)) none 27) fuel (Sl 7 33 f g []) none σ = .done (.exit 0) (Sl 7 33 f' g' []) none σ' ∧ HeadPt b2 b4 (.slice a path.length cx) R k z t q c ds path.length f' σ' ∧ x = .mk k z t ds ∧ Chg (· = b2) σ σ' := by
  intro j
  induction j with
  | zero =>
    intro fuel i f g σ k z t q c ds hij hf hx _ hp h
    obtain ⟨fuel, rfl⟩ : ∃ q, fuel = q + 1 := ⟨fuel - 1, by omega⟩
    obtain rfl : i = path.length := by omega
    rw [List.drop_length, atP] at hx
    have d1 : decide (Int.ofNat path.length < Int.ofNat path.length) = false := by simp
    rw [floop_step, Sl_forget]
    unfold l27_0
    simp -implicitDefEqProofs only [go_sem, ↓reduceIte, Nat.reduceLT, Nat.reduceEqDiff, Nat.reduceAdd, Nat.reduceMul, Nat.reduceLeDiff, Nat.reduceSub, r27_2_go, r27_2U, h.f1, h.f6, d1]
    exact ⟨_, _, _, k, z, t, q, c, ds, rfl, h, (Option.some.inj hx).symm, Chg.refl _ _⟩
  | succ j ih =>
    intro fuel i f g σ k z t q c ds hij hf hx hN hp h
    obtain ⟨fuel, rfl⟩ : ∃ q, fuel = q + 1 := ⟨fuel - 1, by omega⟩
    have hi : i < path.length := by omega
    have d1 : decide (Int.ofNat i < Int.ofNat path.length) = true := by simp; omega
    obtain ⟨b, rest, rfl, hb, hc⟩ := hp (fun h => by rw [h] at hi; simp at hi)
    have hv := view_wf h.wf (Nat.le_refl _)
    have g1 := intsOf_get rest hi
    have w3 := add1 i (by omega)
    have hdr : path.drop i = path[i] :: path.drop (i + 1) := List.drop_eq_getElem_cons hi
    rw [hdr, atP] at hx
    simp only [D.parts] at hx
    cases hd : ds[path[i]]? with
    | none => rw [hd] at hx; cases hx
    | some d =>
      rw [hd] at hx
      simp only at hx
      have hpi := (List.getElem?_eq_some_iff.1 hd).1
      obtain ⟨b', off, cs, rfl, hRb, hcs, hle, hL⟩ := LaidRE.get h.lay hd
      rw [Nat.zero_add] at hle hL
      obtain ⟨fz, ver, hg2⟩ := h.cd
      have c2 := cells_of_get hg2
      have l4 : ((cs.drop (off + path[i] * 4)).take 4).length = 4 := by rw [List.length_take, List.length_drop]; omega
      have hL' := hL
      obtain ⟨k', z', t', ds'⟩ := d
      obtain ⟨q', c', hv4, hE'⟩ := hL
      have hv4' : (cs.drop (off + path[i] * 4)).take 4 = [.int .i64 k', .int .i64 z', .string t', .slice q' ds'.length c'] := by
        have := Value.agg.inj hv4
        simpa using congrArg Array.toList this
      have hfew : ds.length < 100000 := by have := length_counts ds; rw [D.count] at hN; omega
      have e0 : decide ((0 : Int) ≤ Int.ofNat path[i]) = true := by simp
      have e1 : decide (Int.ofNat path[i] ≤ Int.ofNat (ds.length - 1)) = true := by simp; omega
      have w4 := sub1w ds.length (by omega) (by omega)
      have hb2 := h.wf.cells c2
      rw [floop_step, Sl_forget]
      unfold l27_0
      simp -implicitDefEqProofs only [go_sem, ↓reduceIte, Nat.reduceLT, Nat.reduceEqDiff, Nat.reduceAdd, Nat.reduceMul, Nat.reduceLeDiff, Nat.reduceSub, fstoreN, r27_2_go, r27_2U, r27_4_go, r27_4U, r27_6_go, r27_6U, r27_3_go, r27_3U, h.f1, h.f2, h.f6, d1, hi, hv, hc, c2, g1, hg2, within_go, w3, w4, e0, e1, hpi, hcs, hle, hv4']
      have hC : Chg (· = b2) σ (σ.put b2 (.cells [.int .i64 k', .int .i64 z', .string t', .slice q' ds'.length c'] TD) fz) := (Chg.refl (· = b2) σ).put _ _ _ (.inr rfl)
      obtain ⟨f', g', σ', k1, z1, t1, q1, c1, ds1, e2, h2, h3, h4⟩ := ih fuel (i + 1) (upd f 6 (.int .i64 (.ofNat (i + 1)))) _ (σ.put b2 (.cells [.int .i64 k', .int .i64 z', .string t', .slice q' ds'.length c'] TD) fz) k' z' t' q' c' ds' (by omega) (by omega) hx (by have := count_mem (List.mem_of_getElem? hd); rw [D.count] at hN; omega) (fun hne => ⟨b, rest, rfl, hb, by rw [cells_put, if_neg hb]; exact hc⟩) {
        f1 := by simp -implicitDefEqProofs only [upd_go, kept_go, ↓reduceIte, Nat.reduceEqDiff, Nat.reduceLT, reduceCtorEq, h.f1]
        f2 := by simp -implicitDefEqProofs only [upd_go, kept_go, ↓reduceIte, Nat.reduceEqDiff, Nat.reduceLT, reduceCtorEq, h.f2]
        f4 := by simp -implicitDefEqProofs only [upd_go, kept_go, ↓reduceIte, Nat.reduceEqDiff, Nat.reduceLT, reduceCtorEq, h.f4]
        f6 := by simp -implicitDefEqProofs only [upd_go, kept_go, ↓reduceIte, Nat.reduceEqDiff, Nat.reduceLT, reduceCtorEq]
        cd := ⟨fz, _, by rw [put_get, if_pos rfl]⟩
        lay := hE'.keep fun b cs hb hc => ⟨by rw [cells_put, if_neg (hR b hb)]; exact hc, hb⟩
        wf := h.wf.put _ _ _ hb2 }
      exact ⟨f', g', σ', k1, z1, t1, q1, c1, ds1, e2, h2, h3, hC.trans h4 fun _ _ h => h⟩
/-- The part at a path that leads to one. -/
theorem part_go (m : Nat) {d x : D} {path : List Nat} {lv : List Value} {pv : Value} {R Q : Nat → Prop} {σ : FState} (hw : Wf σ) (hL : LaidR R σ (.agg lv.toArray) d) (hP : PathV Q σ pv path) (hs : path.length < 100000) (hN : d.count < 100000) (hx : atP path d = some x) :
    Gives ((env (m + 2)).call 27 [.agg lv.toArray, pv] none σ) σ fun w σ' => ∃ u, w = .tuple #[u, .bool true] ∧ LaidR (fun b => R b ∧ b < σ.next) σ' u x := by
  obtain ⟨a, cx, rfl, k1⟩ := pathV_slice hP
  obtain ⟨k, z, t, ds⟩ := d
  obtain ⟨q, c, hv, hE⟩ := hL
  have hlv : lv = [.int .i64 k, .int .i64 z, .string t, .slice q ds.length c] := by
    have := Value.agg.inj hv
    simpa using congrArg Array.toList this
  subst hlv
  rw [env_call, enter27 _ _ _ _ (by simp), Sl_start]
  unfold run27
  have x1 : Ext σ ((σ.push (.cells [.int .i64 k, .int .i64 z, .string t, .slice q ds.length c] TD) none).push (.cells [.int .i64 0, .int .i64 0, .string ⟨#[]⟩, .slice none 0 0] TD) none) := ((Ext.refl _).push _ _).push _ _
  have hw1 := (hw.push (.cells [.int .i64 k, .int .i64 z, .string t, .slice q ds.length c] TD) none).push (.cells [.int .i64 0, .int .i64 0, .string ⟨#[]⟩, .slice none 0 0] TD) none
  have c1 : ((σ.push (.cells [.int .i64 k, .int .i64 z, .string t, .slice q ds.length c] TD) none).push (.cells [.int .i64 0, .int .i64 0, .string ⟨#[]⟩, .slice none 0 0] TD) none).heap.get σ.next = some ⟨.cells [.int .i64 k, .int .i64 z, .string t, .slice q ds.length c] TD, false, none, σ.clock⟩ := by rw [push_get, if_neg (by rw [push_next]; omega), push_get, if_pos rfl]
  have g4 : ((σ.push (.cells [.int .i64 k, .int .i64 z, .string t, .slice q ds.length c] TD) none).push (.cells [.int .i64 0, .int .i64 0, .string ⟨#[]⟩, .slice none 0 0] TD) none).heap.get (σ.next + 1) = some ⟨.cells [.int .i64 0, .int .i64 0, .string ⟨#[]⟩, .slice none 0 0] TD, false, none, σ.clock + 1⟩ := by rw [push_get, if_pos (by rw [push_next])]; rfl
  simp -implicitDefEqProofs only [go_sem, ↓reduceIte, Nat.reduceLT, Nat.reduceEqDiff, Nat.reduceAdd, Nat.reduceMul, Nat.reduceLeDiff, Nat.reduceSub, r27_0_go, r27_0U, r27_1_go, r27_1U, Option.getD_some, keepPart]
  generalize hff : upd _ 6 _ = f1
  generalize hbf : bigFuel = fuel
  generalize FState.push (FState.push σ _ _) _ _ = σ1 at x1 hw1 c1 g4 ⊢
  obtain ⟨f2, g2, σ2, k2, z2, t2, q2, c2, ds2, e2, h2, rfl, h4⟩ := part_loop m (b2 := σ.next) (b4 := σ.next + 1) (R := fun b => R b ∧ b < σ.next) (path := path) (cx := cx) (a := a) hs (fun b hb => by omega) x path.length fuel 0 f1 (fun _ => undef) σ1 k z t q c ds (by omega) (by rw [← hbf]; show path.length < 1000000000000; omega) hx hN (fun hne => by
      obtain ⟨b, rest, h1, _, h3⟩ := k1 hne
      have := hw.cells h3
      exact ⟨b, rest, h1, by omega, (x1.cells this).trans h3⟩) {
    f1 := by rw [← hff]; simp -implicitDefEqProofs only [upd_go, kept_go, ↓reduceIte, Nat.reduceEqDiff, Nat.reduceLT, reduceCtorEq, List.getElem?_cons_zero, List.getElem?_cons_succ, Option.getD_some]
    f2 := by rw [← hff]; simp -implicitDefEqProofs only [upd_go, kept_go, ↓reduceIte, Nat.reduceEqDiff, Nat.reduceLT, reduceCtorEq]
    f4 := by rw [← hff]; simp -implicitDefEqProofs only [upd_go, kept_go, ↓reduceIte, Nat.reduceEqDiff, Nat.reduceLT, reduceCtorEq]
    f6 := by rw [← hff]; simp -implicitDefEqProofs only [upd_go, kept_go, ↓reduceIte, Nat.reduceEqDiff, Nat.reduceLT, reduceCtorEq] <;> rfl
    cd := ⟨_, _, c1⟩
    lay := hE.keep fun b c hb hc => ⟨(x1.cells (hw.cells hc)).trans hc, hb, hw.cells hc⟩
    wf := hw1 }
  have n1 := x1.next
  have hn1 : σ.next + 1 < σ1.next := (hw1 _ _ g4).1
  have g4' : σ2.heap.get (σ.next + 1) = _ := (h4.get (σ.next + 1) hn1 (by omega)).trans g4
  obtain ⟨fz, ver, hg2⟩ := h2.cd
  have cc := cells_of_get hg2
  rw [e2]
  simp -implicitDefEqProofs only [go_sem, ↓reduceIte, Nat.reduceLT, Nat.reduceEqDiff, Nat.reduceAdd, Nat.reduceMul, Nat.reduceLeDiff, Nat.reduceSub, fstoreN, r27_7_go, r27_7U, h2.f2, h2.f4, cc, g4', fleave_nil, fresults_nil, fresults_cons, fresult_cell, fresult_tmp, aggDatum]
  have x2 : Ext σ σ2 := ⟨by have := h4.next; omega, by have := x1.clock; have := h4.clock; omega, fun b hb => (h4.get b (by omega) (by omega)).trans (x1.get b hb)⟩
  exact ⟨_, _, rfl, x2.put _ _ _ (by omega), h2.wf.put _ _ _ (by have := h4.next; omega), _, rfl, q2, c2, rfl, h2.lay.keep fun b c hb hc => ⟨by rw [cells_put, if_neg (by omega)]; exact hc, hb⟩⟩
end Go.Proofs.YtodkeaoikjjneaaGreatDoor
/- Structs, compared: a computation that asks for no memory. -/
namespace Go.Eng
open Go
theorem prun_bind {α β : Type} {P : Program} (s : Sem α) (f : α → Sem β) : prun P (s >>= f) = (match prun P s with | some (.ok v) => prun P (f v) | some (.error e) => some (.error e) | none => none) := by
  induction s with
  | pure a => rfl
  | program k ih => exact ih P
  | mark m k ih => exact ih
  | halt x => cases x <;> rfl
  | _ => rfl
theorem prun_pure {α : Type} {P : Program} (a : α) : prun P (pure a : Sem α) = some (.ok a) := rfl
theorem prun_program {P : Program} : prun P program = some (.ok P) := rfl
theorem prun_underlying {P : Program} {t : TypeId} {d : TypeDesc} (h : P.underlying t = some d) : prun P (underlying t) = some (.ok d) := by
  unfold underlying
  simp only [prun_bind, prun_program, h]
  rfl
theorem prun_equalIn_int {P : Program} (d : Nat) (t : TypeId) (k k' : IntKind) (a b : Int) (h : P.underlying t = some (.int k')) : prun P (Op.equalIn (d + 1) t (.int k a) (.int k b)) = some (.ok (a == b)) := by
  simp only [Op.equalIn, prun_bind, prun_underlying h, if_true, prun_pure]
theorem prun_equalIn_string {P : Program} (d : Nat) (t : TypeId) (a b : ByteArray) (h : P.underlying t = some .string) : prun P (Op.equalIn (d + 1) t (.string a) (.string b)) = some (.ok (a.toList == b.toList)) := by
  simp only [Op.equalIn, prun_bind, prun_underlying h, prun_pure, beq_toListBytes]
theorem prun_equalIn_struct {P : Program} (d : Nat) (t : TypeId) (xs ys : Array Value) (ht : P.underlying t = some (.struct (P.fieldsOf t))) (hp : P.stoodInHeld t = false) :
    prun P (Op.equalIn (d + 1) t (.agg xs) (.agg ys)) = prun P (Op.eqFields d xs ys (P.fieldsOf t).toList) := by
  simp only [Op.equalIn, prun_bind, prun_underlying ht, prun_program, hp, Bool.false_eq_true, if_false]
  rw [← Array.forIn_toList]
  generalize (P.fieldsOf t).toList = fs
  clear ht
  induction fs with
  | nil => rfl
  | cons f fs ih =>
    simp only [List.forIn_cons, Op.eqFields, prun_bind]
    by_cases hn : f.name ≠ "_"
    · rw [if_pos hn, if_pos hn]
      simp only [prun_bind]
      cases prun P (part f.type xs f.offset) with
      | none => rfl
      | some r1 =>
        cases r1 with
        | error e => rfl
        | ok a =>
          simp only
          cases prun P (part f.type ys f.offset) with
          | none => rfl
          | some r2 =>
            cases r2 with
            | error e => rfl
            | ok b =>
              simp only
              cases prun P (Op.equalIn d f.type a b) with
              | none => rfl
              | some r3 =>
                cases r3 with
                | error e => rfl
                | ok r =>
                  cases r
                  · rfl
                  · exact ih
    · rw [if_neg hn, if_neg hn]
      exact ih
end Go.Eng
/- Functions of the program, written out in the reading's words (made by program; the kernel holds each against the code). -/
namespace Go.Proofs.YtodkeaoikjjneaaGreatDoor
open Go Go.Eng
variable (E : Env) (ro : Option Nat) (last : List Nat → RunF) (cl : List Nat) (a : FAct) (u : Option FrameMode) (σ : FState)
/-! caracole/datum.Find -/
noncomputable def r28_0U (_ : Unit) : List COp := [⟨fun a σ => fbox 28 (a.get 0) σ, (some 2), fun _ => some true⟩,
  ⟨fun a σ => fbox 28 (a.get 1) σ, (some 3), fun _ => some true⟩,
  ⟨fun a σ => .val (.slice none 0 0) σ, (some 4), fun _ => some true⟩,
  ⟨fun a σ => .val (.int .i64 0) σ, (some 5), fun _ => some true⟩]
noncomputable def r28_0 : List COp := r28_0U ()
noncomputable def r28_1U (_ : Unit) : List COp := [⟨fun a σ => .val (.func (.func 77) #[] #[(a.get 2), (a.get 3)]) σ, (some 6), fun _ => some true⟩,
  ⟨fun a σ => .enter 76 [(a.get 6)] σ, (some 7), fun _ => some true⟩,
  ⟨fun a σ => fextract 0 (a.get 7) σ, (some 8), fun _ => some true⟩,
  ⟨fun a σ => fextract 1 (a.get 7) σ, (some 9), fun _ => some true⟩,
  ⟨fun a σ => .val (a.get 8) σ, (some 4), fun _ => some true⟩,
  ⟨fun a σ => .val (a.get 9) σ, (some 5), fun _ => some true⟩]
noncomputable def r28_1 : List COp := r28_1U ()
noncomputable def run28 (E : Env) (ro : Option Nat) (fn : FuncId) : RunF := (seqR (fops E ro r28_0) (seqR (fops E ro r28_1) retR))
theorem r28_0_go : fops E ro r28_0 a u σ = fops E ro (r28_0U ()) a u σ := rfl
theorem r28_1_go : fops E ro r28_1 a u σ = fops E ro (r28_1U ()) a u σ := rfl
theorem code28 (E : Env) (ro : Option Nat) (fn : FuncId) : code Tryz.prog nls (Tryz.f28.body.getD .skip) E ro fn = run28 E ro fn := by kernel_rfl
theorem enter28 (E : Env) (args : List Value) (u : Option FrameMode) (σ : FState) (hn : args.length ≤ (4 : Nat)) : fcall Tryz.prog nls E 28 args u σ = leaveR Tryz.prog E [.tmp 4, .tmp 5] (run28 E none 28 ⟨padTo undef 4 args, fun _ => undef, 4, 10, []⟩ u σ) := by
  rw [fcall_of (body := Tryz.f28.body.getD .skip) Tryz.func28 rfl E args u σ 4 10 (by kernel_rfl) rfl ⟨hn, by decide⟩, code28]
  rfl
/-! caracole/datum.Find$1 -/
noncomputable def r77_0U (_ : Unit) : List COp := [⟨fun a σ => .val (.slice none 0 0) σ, (some 2), fun _ => some true⟩]
noncomputable def r77_0 : List COp := r77_0U ()
noncomputable def r77_1U (_ : Unit) : List COp := [⟨fun a σ => fload (some 4) (a.get 0) σ, (some 3), fun _ => some true⟩,
  ⟨fun a σ => .enter 60 [(a.get 3)] σ, (some 4), fun _ => some true⟩]
noncomputable def r77_1 : List COp := r77_1U ()
noncomputable def r77_2U (_ : Unit) : List COp := [⟨fun a σ => fload (some 4) (a.get 1) σ, (some 5), fun _ => some true⟩,
  ⟨fun a σ => .enter 60 [(a.get 5)] σ, (some 6), fun _ => some true⟩]
noncomputable def r77_2 : List COp := r77_2U ()
noncomputable def r77_3U (_ : Unit) : List COp := [⟨fun a σ => fload (some 4) (a.get 0) σ, (some 7), fun _ => some true⟩,
  ⟨fun a σ => fload (some 4) (a.get 1) σ, (some 8), fun _ => some true⟩,
  ⟨fun a σ => .enter 78 [(a.get 7), (a.get 8)] σ, (some 9), fun _ => some true⟩,
  ⟨fun a σ => .val (a.get 9) σ, (some 2), fun _ => some true⟩]
noncomputable def r77_3 : List COp := r77_3U ()
noncomputable def run77 (E : Env) (ro : Option Nat) (fn : FuncId) : RunF := (seqR (fops E ro r77_0) (seqR (fops E ro r77_1) (seqR (fops E ro r77_2) (seqR (fops E ro r77_3) retR))))
theorem r77_0_go : fops E ro r77_0 a u σ = fops E ro (r77_0U ()) a u σ := rfl
theorem r77_1_go : fops E ro r77_1 a u σ = fops E ro (r77_1U ()) a u σ := rfl
theorem r77_2_go : fops E ro r77_2 a u σ = fops E ro (r77_2U ()) a u σ := rfl
theorem r77_3_go : fops E ro r77_3 a u σ = fops E ro (r77_3U ()) a u σ := rfl
theorem code77 (E : Env) (ro : Option Nat) (fn : FuncId) : code Tryz.prog nls (Tryz.f77.body.getD .skip) E ro fn = run77 E ro fn := by kernel_rfl
theorem enter77 (E : Env) (args : List Value) (u : Option FrameMode) (σ : FState) (hn : args.length ≤ (2 : Nat)) : fcall Tryz.prog nls E 77 args u σ = leaveR Tryz.prog E [.tmp 2] (run77 E none 77 ⟨padTo undef 2 args, fun _ => undef, 2, 10, []⟩ u σ) := by
  rw [fcall_of (body := Tryz.f77.body.getD .skip) Tryz.func77 rfl E args u σ 2 10 (by kernel_rfl) rfl ⟨hn, by decide⟩, code77]
  rfl
/-! caracole/datum.find -/
noncomputable def r78_0U (_ : Unit) : List COp := [⟨fun a σ => fbox 28 (a.get 0) σ, (some 2), fun _ => some true⟩,
  ⟨fun a σ => fbox 28 (a.get 1) σ, (some 3), fun _ => some true⟩,
  ⟨fun a σ => .val (.slice none 0 0) σ, (some 4), fun _ => some true⟩]
noncomputable def r78_0 : List COp := r78_0U ()
noncomputable def r78_1U (_ : Unit) : List COp := [⟨fun a σ => newCells [(.slice none 0 0)] 44 none σ, (some 5), fun _ => some true⟩]
noncomputable def r78_1 : List COp := r78_1U ()
noncomputable def r78_2U (_ : Unit) : List COp := [⟨fun a σ => fload (some 4) (a.get 2) σ, (some 8), fun _ => some true⟩,
  ⟨fun a σ => .enter 110 [(a.get 8)] σ, (some 9), fun _ => some true⟩]
noncomputable def r78_2 : List COp := r78_2U ()
noncomputable def r78_3U (_ : Unit) : List COp := [⟨fun a σ => .val (a.get 10) σ, (some 6), fun _ => some true⟩]
noncomputable def r78_3 : List COp := r78_3U ()
noncomputable def r78_4U (_ : Unit) : List COp := [⟨fun a σ => newCells [(.int .i64 0), (.int .i64 0), (.string ⟨#[]⟩), (.slice none 0 0)] 28 none σ, (some 7), fun _ => some true⟩,
  ⟨fun a σ => fstore 4 (a.get 7) (a.get 11) σ, none, fun _ => some true⟩]
noncomputable def r78_4 : List COp := r78_4U ()
noncomputable def r78_5U (_ : Unit) : List COp := [⟨fun a σ => fload (some 4) (a.get 7) σ, (some 12), fun _ => some true⟩,
  ⟨fun a σ => fload (some 4) (a.get 3) σ, (some 13), fun _ => some true⟩,
  ⟨fun a σ => .enter 111 [(a.get 12), (a.get 13)] σ, (some 14), fun _ => some true⟩]
noncomputable def r78_5 : List COp := r78_5U ()
noncomputable def r78_6U (_ : Unit) : List DOp := [⟨fun a σ => .val (a.get 6) σ, (some 16), fun _ => some true, (some 0), false⟩,
  ⟨fun a σ => .enter 112 [(a.get 16)] σ, (some 17), fun _ => some true, none, false⟩,
  ⟨fun a σ => fload none (a.get 5) σ, (some 15), fun _ => some true, (some 0), false⟩,
  ⟨fun a σ => fbuildSlice 22 1 1 [(.slice none 0 0)] [(0, (a.get 17))] σ, (some 18), fun _ => some true, (some 1), false⟩,
  ⟨fun a σ => fappend 22 1 24 (a.get 15) (a.get 18) σ, (some 19), fun _ => some true, none, true⟩,
  ⟨fun a σ => fstore 1 (a.get 5) (a.get 19) σ, none, fun _ => some true, none, true⟩]
noncomputable def r78_6 : List DOp := r78_6U ()
noncomputable def c78_0a : Code := ((rangesOf (Tryz.f78.body.getD .skip)).getD 0 (.skip, .skip)).1
noncomputable def c78_0b : Code := ((rangesOf (Tryz.f78.body.getD .skip)).getD 0 (.skip, .skip)).2
noncomputable def r78_7U (_ : Unit) : List COp := [⟨fun a σ => fload none (a.get 5) σ, (some 20), fun _ => some true⟩,
  ⟨fun a σ => .val (a.get 20) σ, (some 4), fun _ => some true⟩]
noncomputable def r78_7 : List COp := r78_7U ()
noncomputable def run78 (E : Env) (ro : Option Nat) (fn : FuncId) : RunF := (seqR (fops E ro r78_0) (seqR (fops E ro r78_1) (seqR (seqR (fops E ro r78_2) (blockR 0 (frange E ro fn (.tmp 9) [10, 11] c78_0a c78_0b))) (seqR (fops E ro r78_7) retR))))
theorem r78_0_go : fops E ro r78_0 a u σ = fops E ro (r78_0U ()) a u σ := rfl
theorem r78_1_go : fops E ro r78_1 a u σ = fops E ro (r78_1U ()) a u σ := rfl
theorem r78_2_go : fops E ro r78_2 a u σ = fops E ro (r78_2U ()) a u σ := rfl
theorem r78_3_go : fops E ro r78_3 a u σ = fops E ro (r78_3U ()) a u σ := rfl
theorem r78_4_go : fops E ro r78_4 a u σ = fops E ro (r78_4U ()) a u σ := rfl
theorem r78_5_go : fops E ro r78_5 a u σ = fops E ro (r78_5U ()) a u σ := rfl
theorem r78_6_go : fdraw E ro last r78_6 cl a u σ = fdraw E ro last (r78_6U ()) cl a u σ := rfl
theorem c78_0a_go (E : Env) (ro : Option Nat) (fn : FuncId) : code Tryz.prog nls c78_0a E ro fn = (seqR (fops E ro r78_3) (fops E ro r78_4)) := by kernel_rfl
theorem c78_0b_go (E : Env) (ro : Option Nat) (fn : FuncId) : code Tryz.prog nls c78_0b E ro fn = (blockR 1 (seqR (fops E ro r78_5) (condR (fun a => (a.get 14)) (drawR E ro r78_6) skipR))) := by kernel_rfl
theorem r78_7_go : fops E ro r78_7 a u σ = fops E ro (r78_7U ()) a u σ := rfl
theorem code78 (E : Env) (ro : Option Nat) (fn : FuncId) : code Tryz.prog nls (Tryz.f78.body.getD .skip) E ro fn = run78 E ro fn := by kernel_rfl
theorem enter78 (E : Env) (args : List Value) (u : Option FrameMode) (σ : FState) (hn : args.length ≤ (8 : Nat)) : fcall Tryz.prog nls E 78 args u σ = leaveR Tryz.prog E [.tmp 4] (run78 E none 78 ⟨padTo undef 8 args, fun _ => undef, 8, 21, []⟩ u σ) := by
  rw [fcall_of (body := Tryz.f78.body.getD .skip) Tryz.func78 rfl E args u σ 8 21 (by kernel_rfl) rfl ⟨hn, by decide⟩, code78]
  rfl
/-! caracole/guard.Call[[][]int] -/
noncomputable def r76_0U (_ : Unit) : List COp := [⟨fun a σ => .val (.slice none 0 0) σ, (some 2), fun _ => some true⟩,
  ⟨fun a σ => .val (.int .i64 0) σ, (some 3), fun _ => some true⟩]
noncomputable def r76_0 : List COp := r76_0U ()
noncomputable def r76_1U (_ : Unit) : List COp := [⟨fun a σ => .val (a.get 0) σ, (some 8), fun _ => some true⟩,
  ⟨fun a σ => .enter 109 [(a.get 8)] σ, (some 9), fun _ => some true⟩,
  ⟨fun a σ => .val (a.get 9) σ, (some 7), fun _ => some true⟩,
  ⟨fun a σ => fextract 0 (a.get 7) σ, (some 10), fun _ => some true⟩,
  ⟨fun a σ => fextract 1 (a.get 7) σ, (some 11), fun _ => some true⟩,
  ⟨fun a σ => fextract 2 (a.get 7) σ, (some 12), fun _ => some true⟩,
  ⟨fun a σ => .val (a.get 10) σ, (some 4), fun _ => some true⟩,
  ⟨fun a σ => .val (a.get 11) σ, (some 5), fun _ => some true⟩,
  ⟨fun a σ => .val (a.get 12) σ, (some 6), fun _ => some true⟩]
noncomputable def r76_1 : List COp := r76_1U ()
noncomputable def r76_2U (_ : Unit) : List COp := [⟨fun a σ => .val (a.get 4) σ, (some 13), fun _ => some true⟩,
  ⟨fun a σ => .val (a.get 6) σ, (some 14), fun _ => some true⟩,
  ⟨fun a σ => .val (a.get 13) σ, (some 2), fun _ => some true⟩,
  ⟨fun a σ => .val (a.get 14) σ, (some 3), fun _ => some true⟩]
noncomputable def r76_2 : List COp := r76_2U ()
noncomputable def run76 (E : Env) (ro : Option Nat) (fn : FuncId) : RunF := (seqR (fops E ro r76_0) (seqR (fops E ro r76_1) (seqR (fops E ro r76_2) retR)))
theorem r76_0_go : fops E ro r76_0 a u σ = fops E ro (r76_0U ()) a u σ := rfl
theorem r76_1_go : fops E ro r76_1 a u σ = fops E ro (r76_1U ()) a u σ := rfl
theorem r76_2_go : fops E ro r76_2 a u σ = fops E ro (r76_2U ()) a u σ := rfl
theorem code76 (E : Env) (ro : Option Nat) (fn : FuncId) : code Tryz.prog nls (Tryz.f76.body.getD .skip) E ro fn = run76 E ro fn := by kernel_rfl
theorem enter76 (E : Env) (args : List Value) (u : Option FrameMode) (σ : FState) (hn : args.length ≤ (7 : Nat)) : fcall Tryz.prog nls E 76 args u σ = leaveR Tryz.prog E [.tmp 2, .tmp 3] (run76 E none 76 ⟨padTo undef 7 args, fun _ => undef, 7, 15, []⟩ u σ) := by
  rw [fcall_of (body := Tryz.f76.body.getD .skip) Tryz.func76 rfl E args u σ 7 15 (by kernel_rfl) rfl ⟨hn, by decide⟩, code76]
  rfl
/-! caracole/guard.CallAt[[][]int] -/
noncomputable def r109_0U (_ : Unit) : List COp := [⟨fun a σ => .val (.slice none 0 0) σ, (some 2), fun _ => some true⟩,
  ⟨fun a σ => newCells [(.int .i64 0)] 3 none σ, (some 3), fun _ => some true⟩,
  ⟨fun a σ => newCells [(.int .i64 0)] 32 none σ, (some 4), fun _ => some true⟩]
noncomputable def r109_0 : List COp := r109_0U ()
noncomputable def r109_1U (_ : Unit) : List COp := [⟨fun a σ => .val (.func (.func 134) #[] #[(a.get 3), (a.get 4)]) σ, (some 5), fun _ => some true⟩,
  ⟨fun a σ => fdefer (a.get 5) [] σ, none, fun _ => some true⟩]
noncomputable def r109_1 : List COp := r109_1U ()
noncomputable def r109_2U (_ : Unit) : List COp := [⟨fun a σ => .val (a.get 0) σ, (some 6), fun _ => some true⟩,
  ⟨fun a σ => fcallV (a.get 6) [] σ, (some 7), fun _ => some true⟩,
  ⟨fun a σ => .val (a.get 7) σ, (some 2), fun _ => some true⟩,
  ⟨fun a σ => fstore 1 (a.get 3) (.int .i64 0) σ, none, fun _ => some true⟩,
  ⟨fun a σ => fstore 1 (a.get 4) (.int .i64 0) σ, none, fun _ => some true⟩]
noncomputable def r109_2 : List COp := r109_2U ()
noncomputable def run109 (E : Env) (ro : Option Nat) (fn : FuncId) : RunF := (seqR (fops E ro r109_0) (seqR (fops E ro r109_1) (seqR (fops E ro r109_2) retR)))
theorem r109_0_go : fops E ro r109_0 a u σ = fops E ro (r109_0U ()) a u σ := rfl
theorem r109_1_go : fops E ro r109_1 a u σ = fops E ro (r109_1U ()) a u σ := rfl
theorem r109_2_go : fops E ro r109_2 a u σ = fops E ro (r109_2U ()) a u σ := rfl
theorem code109 (E : Env) (ro : Option Nat) (fn : FuncId) : code Tryz.prog nls (Tryz.f109.body.getD .skip) E ro fn = run109 E ro fn := by kernel_rfl
theorem enter109 (E : Env) (args : List Value) (u : Option FrameMode) (σ : FState) (hn : args.length ≤ (5 : Nat)) : fcall Tryz.prog nls E 109 args u σ = leaveR Tryz.prog E [.tmp 2, .cell 3 3, .cell 4 32] (run109 E none 109 ⟨padTo undef 5 args, fun _ => undef, 5, 8, []⟩ u σ) := by
  rw [fcall_of (body := Tryz.f109.body.getD .skip) Tryz.func109 rfl E args u σ 5 8 (by kernel_rfl) rfl ⟨hn, by decide⟩, code109]
  rfl
/-! caracole/guard.CallAt[[][]int]$1 -/
noncomputable def r134_0U (_ : Unit) : List COp := [⟨fun a σ => .recover σ, (some 6), fun _ => some true⟩]
noncomputable def r134_0 : List COp := r134_0U ()
noncomputable def r134_3U (_ : Unit) : List COp := [⟨fun a σ => i_eql Tryz.prog 20 (.tmp 6) (.const .nilIface) (a.get 6) .nilIface σ, (some 7), fun _ => some true⟩]
noncomputable def r134_3 : List COp := r134_3U ()
noncomputable def r134_4U (_ : Unit) : List COp := [⟨fun a σ => .val (a.get 6) σ, (some 2), fun _ => some true⟩]
noncomputable def r134_4 : List COp := r134_4U ()
noncomputable def r134_5U (_ : Unit) : List COp := [⟨fun a σ => fassert Tryz.prog (a.get 6) 164 true σ, (some 8), fun _ => some true⟩,
  ⟨fun a σ => fextract 1 (a.get 8) σ, (some 9), fun _ => some true⟩,
  ⟨fun a σ => fextract 0 (a.get 8) σ, (some 10), fun _ => some true⟩]
noncomputable def r134_5 : List COp := r134_5U ()
noncomputable def r134_6U (_ : Unit) : List COp := [⟨fun a σ => .val (a.get 10) σ, (some 3), fun _ => some true⟩]
noncomputable def r134_6 : List COp := r134_6U ()
noncomputable def r134_7U (_ : Unit) : List COp := [⟨fun a σ => .val (a.get 3) σ, (some 11), fun _ => some true⟩,
  ⟨fun a σ => .enter 126 [(a.get 11)] σ, (some 12), fun _ => some true⟩,
  ⟨fun a σ => newCells [(.int .i64 0), (.int .i64 0)] 166 none σ, (some 4), fun _ => some true⟩,
  ⟨fun a σ => fstore 2 (a.get 4) (a.get 12) σ, none, fun _ => some true⟩]
noncomputable def r134_7 : List COp := r134_7U ()
noncomputable def r134_8U (_ : Unit) : List DOp := [⟨fun a σ => ffield 1 (a.get 4) σ, (some 13), fun _ => some true, (some 0), false⟩,
  ⟨fun a σ => fload none (a.get 13) σ, (some 14), fun _ => some true, (some 0), false⟩,
  ⟨fun a σ => fstore 1 (a.get 0) (a.get 14) σ, none, fun _ => some true, none, false⟩,
  ⟨fun a σ => ffield 0 (a.get 4) σ, (some 15), fun _ => some true, (some 0), false⟩,
  ⟨fun a σ => fload none (a.get 15) σ, (some 16), fun _ => some true, (some 0), false⟩,
  ⟨fun a σ => fstore 1 (a.get 1) (a.get 16) σ, none, fun _ => some true, none, true⟩]
noncomputable def r134_8 : List DOp := r134_8U ()
noncomputable def r134_1U (_ : Unit) : List COp := [⟨fun a σ => .val (a.get 6) σ, (some 5), fun _ => some true⟩]
noncomputable def r134_1 : List COp := r134_1U ()
noncomputable def r134_2U (_ : Unit) : List COp := [⟨fun a σ => fstore 1 (a.get 1) (.int .i64 1) σ, none, fun _ => some true⟩]
noncomputable def r134_2 : List COp := r134_2U ()
noncomputable def run134 (E : Env) (ro : Option Nat) (fn : FuncId) : RunF := (seqR (fops E ro r134_0) (blockR 0 (seqR (fops E ro r134_3) (condR (fun a => (a.get 7)) (fops E ro r134_4) (seqR (fops E ro r134_5) (condR (fun a => (a.get 9)) (seqR (fops E ro r134_6) (seqR (fops E ro r134_7) (drawR E ro r134_8))) (seqR (fops E ro r134_1) (fops E ro r134_2))))))))
theorem r134_0_go : fops E ro r134_0 a u σ = fops E ro (r134_0U ()) a u σ := rfl
theorem r134_3_go : fops E ro r134_3 a u σ = fops E ro (r134_3U ()) a u σ := rfl
theorem r134_4_go : fops E ro r134_4 a u σ = fops E ro (r134_4U ()) a u σ := rfl
theorem r134_5_go : fops E ro r134_5 a u σ = fops E ro (r134_5U ()) a u σ := rfl
theorem r134_6_go : fops E ro r134_6 a u σ = fops E ro (r134_6U ()) a u σ := rfl
theorem r134_7_go : fops E ro r134_7 a u σ = fops E ro (r134_7U ()) a u σ := rfl
theorem r134_8_go : fdraw E ro last r134_8 cl a u σ = fdraw E ro last (r134_8U ()) cl a u σ := rfl
theorem r134_1_go : fops E ro r134_1 a u σ = fops E ro (r134_1U ()) a u σ := rfl
theorem r134_2_go : fops E ro r134_2 a u σ = fops E ro (r134_2U ()) a u σ := rfl
theorem code134 (E : Env) (ro : Option Nat) (fn : FuncId) : code Tryz.prog nls (Tryz.f134.body.getD .skip) E ro fn = run134 E ro fn := by kernel_rfl
theorem enter134 (E : Env) (args : List Value) (u : Option FrameMode) (σ : FState) (hn : args.length ≤ (6 : Nat)) : fcall Tryz.prog nls E 134 args u σ = leaveR Tryz.prog E [] (run134 E none 134 ⟨padTo undef 6 args, fun _ => undef, 6, 17, []⟩ u σ) := by
  rw [fcall_of (body := Tryz.f134.body.getD .skip) Tryz.func134 rfl E args u σ 6 17 (by kernel_rfl) rfl ⟨hn, by decide⟩, code134]
  rfl
/-! caracole/plain.Equal -/
noncomputable def r111_0U (_ : Unit) : List COp := [⟨fun a σ => fbox 28 (a.get 0) σ, (some 2), fun _ => some true⟩,
  ⟨fun a σ => fbox 28 (a.get 1) σ, (some 3), fun _ => some true⟩,
  ⟨fun a σ => .val (.bool false) σ, (some 4), fun _ => some true⟩]
noncomputable def r111_0 : List COp := r111_0U ()
noncomputable def r111_1U (_ : Unit) : List DOp := [⟨fun a σ => fload (some 4) (a.get 2) σ, (some 5), fun _ => some true, (some 0), false⟩,
  ⟨fun a σ => .enter 136 [(a.get 5)] σ, (some 6), fun _ => some true, none, false⟩,
  ⟨fun a σ => fload (some 4) (a.get 3) σ, (some 7), fun _ => some true, (some 0), false⟩,
  ⟨fun a σ => .enter 136 [(a.get 7)] σ, (some 8), fun _ => some true, none, true⟩,
  ⟨fun a σ => i_eql Tryz.prog 177 (.tmp 6) (.tmp 8) (a.get 6) (a.get 8) σ, (some 9), fun _ => some true, (some 2), false⟩,
  ⟨fun a σ => .val (a.get 9) σ, (some 10), fun _ => some true, (some 2), false⟩,
  ⟨fun a σ => ffield 3 (a.get 2) σ, (some 11), fun a => gd (a.get 10) true, (some 2), false⟩,
  ⟨fun a σ => fload none (a.get 11) σ, (some 12), fun a => gd (a.get 10) true, (some 2), false⟩,
  ⟨fun a σ => ffield 3 (a.get 3) σ, (some 13), fun a => gd (a.get 10) true, (some 2), false⟩,
  ⟨fun a σ => fload none (a.get 13) σ, (some 14), fun a => gd (a.get 10) true, (some 2), false⟩,
  ⟨fun a σ => .enter 137 [(a.get 12), (a.get 14), (.func (.func 111) #[] #[])] σ, (some 15), fun a => gd (a.get 10) true, none, true⟩,
  ⟨fun a σ => fpick (a.get 10) (a.get 15) (.bool false) σ, (some 16), fun _ => some true, (some 3), false⟩,
  ⟨fun a σ => .val (a.get 16) σ, (some 4), fun _ => some true, (some 3), false⟩]
noncomputable def r111_1 : List DOp := r111_1U ()
noncomputable def run111 (E : Env) (ro : Option Nat) (fn : FuncId) : RunF := (seqR (fops E ro r111_0) (seqR (drawR E ro r111_1) retR))
theorem r111_0_go : fops E ro r111_0 a u σ = fops E ro (r111_0U ()) a u σ := rfl
theorem r111_1_go : fdraw E ro last r111_1 cl a u σ = fdraw E ro last (r111_1U ()) cl a u σ := rfl
theorem code111 (E : Env) (ro : Option Nat) (fn : FuncId) : code Tryz.prog nls (Tryz.f111.body.getD .skip) E ro fn = run111 E ro fn := by kernel_rfl
theorem enter111 (E : Env) (args : List Value) (u : Option FrameMode) (σ : FState) (hn : args.length ≤ (4 : Nat)) : fcall Tryz.prog nls E 111 args u σ = leaveR Tryz.prog E [.tmp 4] (run111 E none 111 ⟨padTo undef 4 args, fun _ => undef, 4, 17, []⟩ u σ) := by
  rw [fcall_of (body := Tryz.f111.body.getD .skip) Tryz.func111 rfl E args u σ 4 17 (by kernel_rfl) rfl ⟨hn, by decide⟩, code111]
  rfl
/-! caracole/plain.atomOf -/
noncomputable def r136_0U (_ : Unit) : List COp := [⟨fun a σ => fbox 28 (a.get 0) σ, (some 1), fun _ => some true⟩,
  ⟨fun a σ => newCells [(.int .i64 0), (.int .i64 0), (.string ⟨#[]⟩)] 177 none σ, (some 2), fun _ => some true⟩]
noncomputable def r136_0 : List COp := r136_0U ()
noncomputable def r136_1U (_ : Unit) : List COp := [⟨fun a σ => ffield 0 (a.get 1) σ, (some 3), fun _ => some true⟩,
  ⟨fun a σ => fload none (a.get 3) σ, (some 4), fun _ => some true⟩,
  ⟨fun a σ => ffield 1 (a.get 1) σ, (some 5), fun _ => some true⟩,
  ⟨fun a σ => fload none (a.get 5) σ, (some 6), fun _ => some true⟩,
  ⟨fun a σ => ffield 2 (a.get 1) σ, (some 7), fun _ => some true⟩,
  ⟨fun a σ => fload none (a.get 7) σ, (some 8), fun _ => some true⟩,
  ⟨fun a σ => fbuild (fun i => nth [(0, 1), (1, 1), (2, 1)] i) [(.int .i64 0), (.int .i64 0), (.string ⟨#[]⟩)] [(0, (a.get 4)), (1, (a.get 6)), (2, (a.get 8))] σ, (some 9), fun _ => some true⟩,
  ⟨fun a σ => fstore 3 (a.get 2) (a.get 9) σ, none, fun _ => some true⟩]
noncomputable def r136_1 : List COp := r136_1U ()
noncomputable def run136 (E : Env) (ro : Option Nat) (fn : FuncId) : RunF := (seqR (fops E ro r136_0) (seqR (fops E ro r136_1) retR))
theorem r136_0_go : fops E ro r136_0 a u σ = fops E ro (r136_0U ()) a u σ := rfl
theorem r136_1_go : fops E ro r136_1 a u σ = fops E ro (r136_1U ()) a u σ := rfl
theorem code136 (E : Env) (ro : Option Nat) (fn : FuncId) : code Tryz.prog nls (Tryz.f136.body.getD .skip) E ro fn = run136 E ro fn := by kernel_rfl
theorem enter136 (E : Env) (args : List Value) (u : Option FrameMode) (σ : FState) (hn : args.length ≤ (2 : Nat)) : fcall Tryz.prog nls E 136 args u σ = leaveR Tryz.prog E [.cell 2 177] (run136 E none 136 ⟨padTo undef 2 args, fun _ => undef, 2, 10, []⟩ u σ) := by
  rw [fcall_of (body := Tryz.f136.body.getD .skip) Tryz.func136 rfl E args u σ 2 10 (by kernel_rfl) rfl ⟨hn, by decide⟩, code136]
  rfl
/-! slices.Clone[[]int,int] -/
noncomputable def r112_0U (_ : Unit) : List COp := [⟨fun a σ => .val (.slice none 0 0) σ, (some 2), fun _ => some true⟩]
noncomputable def r112_0 : List COp := r112_0U ()
noncomputable def r112_1U (_ : Unit) : List COp := [⟨fun a σ => .val (a.get 0) σ, (some 3), fun _ => some true⟩,
  ⟨fun a σ => i_eql Tryz.prog 22 (.tmp 3) (.const (.slice none 0 0)) (a.get 3) (.slice none 0 0) σ, (some 4), fun _ => some true⟩]
noncomputable def r112_1 : List COp := r112_1U ()
noncomputable def r112_2U (_ : Unit) : List COp := [⟨fun a σ => .val (.slice none 0 0) σ, (some 2), fun _ => some true⟩]
noncomputable def r112_2 : List COp := r112_2U ()
noncomputable def r112_3U (_ : Unit) : List COp := [⟨fun a σ => fbuildSlice 3 0 1 [(.int .i64 0)] [] σ, (some 5), fun _ => some true⟩,
  ⟨fun a σ => .val (a.get 0) σ, (some 6), fun _ => some true⟩,
  ⟨fun a σ => fappend 3 1 8 (a.get 5) (a.get 6) σ, (some 7), fun _ => some true⟩,
  ⟨fun a σ => .val (a.get 7) σ, (some 2), fun _ => some true⟩]
noncomputable def r112_3 : List COp := r112_3U ()
noncomputable def run112 (E : Env) (ro : Option Nat) (fn : FuncId) : RunF := (seqR (fops E ro r112_0) (seqR (seqR (fops E ro r112_1) (condR (fun a => (a.get 4)) (seqR (fops E ro r112_2) retR) skipR)) (seqR (fops E ro r112_3) retR)))
theorem r112_0_go : fops E ro r112_0 a u σ = fops E ro (r112_0U ()) a u σ := rfl
theorem r112_1_go : fops E ro r112_1 a u σ = fops E ro (r112_1U ()) a u σ := rfl
theorem r112_2_go : fops E ro r112_2 a u σ = fops E ro (r112_2U ()) a u σ := rfl
theorem r112_3_go : fops E ro r112_3 a u σ = fops E ro (r112_3U ()) a u σ := rfl
theorem code112 (E : Env) (ro : Option Nat) (fn : FuncId) : code Tryz.prog nls (Tryz.f112.body.getD .skip) E ro fn = run112 E ro fn := by kernel_rfl
theorem enter112 (E : Env) (args : List Value) (u : Option FrameMode) (σ : FState) (hn : args.length ≤ (2 : Nat)) : fcall Tryz.prog nls E 112 args u σ = leaveR Tryz.prog E [.tmp 2] (run112 E none 112 ⟨padTo undef 2 args, fun _ => undef, 2, 8, []⟩ u σ) := by
  rw [fcall_of (body := Tryz.f112.body.getD .skip) Tryz.func112 rfl E args u σ 2 8 (by kernel_rfl) rfl ⟨hn, by decide⟩, code112]
  rfl
/-! slices.EqualFunc[[]caracole/api.Datum,[]caracole/api.Datum,caracole/api.Datum,caracole/api.Datum] -/
noncomputable def r137_0U (_ : Unit) : List COp := [⟨fun a σ => .val (.bool false) σ, (some 6), fun _ => some true⟩]
noncomputable def r137_0 : List COp := r137_0U ()
noncomputable def r137_1U (_ : Unit) : List COp := [⟨fun a σ => .val (a.get 0) σ, (some 10), fun _ => some true⟩,
  ⟨fun a σ => flenL (a.get 10) σ, (some 11), fun _ => some true⟩,
  ⟨fun a σ => .val (a.get 1) σ, (some 12), fun _ => some true⟩,
  ⟨fun a σ => flenL (a.get 12) σ, (some 13), fun _ => some true⟩,
  ⟨fun a σ => i_neq Tryz.prog 3 (.tmp 11) (.tmp 13) (a.get 11) (a.get 13) σ, (some 14), fun _ => some true⟩]
noncomputable def r137_1 : List COp := r137_1U ()
noncomputable def r137_2U (_ : Unit) : List COp := [⟨fun a σ => .val (.bool false) σ, (some 6), fun _ => some true⟩]
noncomputable def r137_2 : List COp := r137_2U ()
noncomputable def r137_3U (_ : Unit) : List COp := [⟨fun a σ => .val (a.get 0) σ, (some 15), fun _ => some true⟩,
  ⟨fun a σ => flenL (a.get 15) σ, (some 16), fun _ => some true⟩,
  ⟨fun a σ => .val (.int .i64 0) σ, (some 17), fun _ => some true⟩]
noncomputable def r137_3 : List COp := r137_3U ()
noncomputable def r137_4U (_ : Unit) : List COp := [⟨fun a σ => i_lss Tryz.prog 3 (.tmp 17) (.tmp 16) (a.get 17) (a.get 16) σ, (some 18), fun _ => some true⟩]
noncomputable def r137_4 : List COp := r137_4U ()
noncomputable def r137_5U (_ : Unit) : List COp := [⟨fun a σ => .val (a.get 17) σ, (some 19), fun _ => some true⟩,
  ⟨fun a σ => findex (none, 4) (a.get 15) (a.get 17) σ, (some 20), fun _ => some true⟩,
  ⟨fun a σ => fload (some 4) (a.get 20) σ, (some 21), fun _ => some true⟩,
  ⟨fun a σ => newCells [(.int .i64 0), (.int .i64 0), (.string ⟨#[]⟩), (.slice none 0 0)] 28 none σ, (some 8), fun _ => some true⟩,
  ⟨fun a σ => .val (a.get 19) σ, (some 7), fun _ => some true⟩,
  ⟨fun a σ => fstore 4 (a.get 8) (a.get 21) σ, none, fun _ => some true⟩]
noncomputable def r137_5 : List COp := r137_5U ()
noncomputable def r137_6U (_ : Unit) : List COp := [⟨fun a σ => .val (a.get 1) σ, (some 22), fun _ => some true⟩,
  ⟨fun a σ => .val (a.get 7) σ, (some 23), fun _ => some true⟩,
  ⟨fun a σ => findex (none, 4) (a.get 22) (a.get 23) σ, (some 24), fun _ => some true⟩,
  ⟨fun a σ => fload (some 4) (a.get 24) σ, (some 25), fun _ => some true⟩,
  ⟨fun a σ => newCells [(.int .i64 0), (.int .i64 0), (.string ⟨#[]⟩), (.slice none 0 0)] 28 none σ, (some 9), fun _ => some true⟩,
  ⟨fun a σ => fstore 4 (a.get 9) (a.get 25) σ, none, fun _ => some true⟩]
noncomputable def r137_6 : List COp := r137_6U ()
noncomputable def r137_7U (_ : Unit) : List COp := [⟨fun a σ => .val (a.get 2) σ, (some 26), fun _ => some true⟩,
  ⟨fun a σ => fload (some 4) (a.get 8) σ, (some 27), fun _ => some true⟩,
  ⟨fun a σ => fload (some 4) (a.get 9) σ, (some 28), fun _ => some true⟩,
  ⟨fun a σ => fcallV (a.get 26) [(a.get 27), (a.get 28)] σ, (some 29), fun _ => some true⟩,
  ⟨fun a σ => fun1 Tryz.prog (Op.unary .not) (a.get 29) σ, (some 30), fun _ => some true⟩]
noncomputable def r137_7 : List COp := r137_7U ()
noncomputable def r137_8U (_ : Unit) : List COp := [⟨fun a σ => .val (.bool false) σ, (some 6), fun _ => some true⟩]
noncomputable def r137_8 : List COp := r137_8U ()
noncomputable def r137_9U (_ : Unit) : List COp := [⟨fun a σ => i_add Tryz.prog 3 (.tmp 17) (.const (.int .i64 1)) (a.get 17) (.int .i64 1) σ, (some 31), fun _ => some true⟩,
  ⟨fun a σ => .val (a.get 31) σ, (some 17), fun _ => some true⟩]
noncomputable def r137_9 : List COp := r137_9U ()
noncomputable def l137_0 (E : Env) (ro : Option Nat) (fn : FuncId) : RunF := (seqR (fops E ro r137_4) (seqR (condR (fun a => (a.get 18)) skipR (exitR 0)) (seqR (blockR 1 (seqR (fops E ro r137_5) (seqR (fops E ro r137_6) (seqR (fops E ro r137_7) (condR (fun a => (a.get 30)) (seqR (fops E ro r137_8) retR) skipR))))) (fops E ro r137_9))))
noncomputable def r137_10U (_ : Unit) : List COp := [⟨fun a σ => .val (.bool true) σ, (some 6), fun _ => some true⟩]
noncomputable def r137_10 : List COp := r137_10U ()
noncomputable def run137 (E : Env) (ro : Option Nat) (fn : FuncId) : RunF := (seqR (fops E ro r137_0) (seqR (seqR (fops E ro r137_1) (condR (fun a => (a.get 14)) (seqR (fops E ro r137_2) retR) skipR)) (seqR (seqR (fops E ro r137_3) (blockR 0 (loopR (keepOf nls fn) (l137_0 E ro fn)))) (seqR (fops E ro r137_10) retR))))
theorem r137_0_go : fops E ro r137_0 a u σ = fops E ro (r137_0U ()) a u σ := rfl
theorem r137_1_go : fops E ro r137_1 a u σ = fops E ro (r137_1U ()) a u σ := rfl
theorem r137_2_go : fops E ro r137_2 a u σ = fops E ro (r137_2U ()) a u σ := rfl
theorem r137_3_go : fops E ro r137_3 a u σ = fops E ro (r137_3U ()) a u σ := rfl
theorem r137_4_go : fops E ro r137_4 a u σ = fops E ro (r137_4U ()) a u σ := rfl
theorem r137_5_go : fops E ro r137_5 a u σ = fops E ro (r137_5U ()) a u σ := rfl
theorem r137_6_go : fops E ro r137_6 a u σ = fops E ro (r137_6U ()) a u σ := rfl
theorem r137_7_go : fops E ro r137_7 a u σ = fops E ro (r137_7U ()) a u σ := rfl
theorem r137_8_go : fops E ro r137_8 a u σ = fops E ro (r137_8U ()) a u σ := rfl
theorem r137_9_go : fops E ro r137_9 a u σ = fops E ro (r137_9U ()) a u σ := rfl
theorem r137_10_go : fops E ro r137_10 a u σ = fops E ro (r137_10U ()) a u σ := rfl
theorem code137 (E : Env) (ro : Option Nat) (fn : FuncId) : code Tryz.prog nls (Tryz.f137.body.getD .skip) E ro fn = run137 E ro fn := by kernel_rfl
theorem enter137 (E : Env) (args : List Value) (u : Option FrameMode) (σ : FState) (hn : args.length ≤ (10 : Nat)) : fcall Tryz.prog nls E 137 args u σ = leaveR Tryz.prog E [.tmp 6] (run137 E none 137 ⟨padTo undef 10 args, fun _ => undef, 10, 32, []⟩ u σ) := by
  rw [fcall_of (body := Tryz.f137.body.getD .skip) Tryz.func137 rfl E args u σ 10 32 (by kernel_rfl) rfl ⟨hn, by decide⟩, code137]
  rfl
/-! caracole/datum.At -/
noncomputable def r23_0U (_ : Unit) : List COp := [⟨fun a σ => fbox 28 (a.get 0) σ, (some 2), fun _ => some true⟩,
  ⟨fun a σ => fbox 22 (a.get 1) σ, (some 3), fun _ => some true⟩,
  ⟨fun a σ => newCells [(.int .i64 0), (.int .i64 0), (.string ⟨#[]⟩), (.slice none 0 0)] 28 none σ, (some 4), fun _ => some true⟩,
  ⟨fun a σ => .val (.int .i64 0) σ, (some 5), fun _ => some true⟩]
noncomputable def r23_0 : List COp := r23_0U ()
noncomputable def r23_1U (_ : Unit) : List COp := [⟨fun a σ => .val (.func (.func 72) #[] #[(a.get 2), (a.get 3)]) σ, (some 6), fun _ => some true⟩,
  ⟨fun a σ => .enter 58 [(a.get 6)] σ, (some 7), fun _ => some true⟩,
  ⟨fun a σ => fextract 0 (a.get 7) σ, (some 8), fun _ => some true⟩,
  ⟨fun a σ => fextract 1 (a.get 7) σ, (some 9), fun _ => some true⟩,
  ⟨fun a σ => fstore 4 (a.get 4) (a.get 8) σ, none, fun _ => some true⟩,
  ⟨fun a σ => .val (a.get 9) σ, (some 5), fun _ => some true⟩]
noncomputable def r23_1 : List COp := r23_1U ()
noncomputable def run23 (E : Env) (ro : Option Nat) (fn : FuncId) : RunF := (seqR (fops E ro r23_0) (seqR (fops E ro r23_1) retR))
theorem r23_0_go : fops E ro r23_0 a u σ = fops E ro (r23_0U ()) a u σ := rfl
theorem r23_1_go : fops E ro r23_1 a u σ = fops E ro (r23_1U ()) a u σ := rfl
theorem code23 (E : Env) (ro : Option Nat) (fn : FuncId) : code Tryz.prog nls (Tryz.f23.body.getD .skip) E ro fn = run23 E ro fn := by kernel_rfl
theorem enter23 (E : Env) (args : List Value) (u : Option FrameMode) (σ : FState) (hn : args.length ≤ (4 : Nat)) : fcall Tryz.prog nls E 23 args u σ = leaveR Tryz.prog E [.cell 4 28, .tmp 5] (run23 E none 23 ⟨padTo undef 4 args, fun _ => undef, 4, 10, []⟩ u σ) := by
  rw [fcall_of (body := Tryz.f23.body.getD .skip) Tryz.func23 rfl E args u σ 4 10 (by kernel_rfl) rfl ⟨hn, by decide⟩, code23]
  rfl
/-! caracole/datum.At$1 -/
noncomputable def r72_0U (_ : Unit) : List COp := [⟨fun a σ => newCells [(.int .i64 0), (.int .i64 0), (.string ⟨#[]⟩), (.slice none 0 0)] 28 none σ, (some 2), fun _ => some true⟩]
noncomputable def r72_0 : List COp := r72_0U ()
noncomputable def r72_1U (_ : Unit) : List COp := [⟨fun a σ => fload (some 4) (a.get 0) σ, (some 3), fun _ => some true⟩,
  ⟨fun a σ => .enter 60 [(a.get 3)] σ, (some 4), fun _ => some true⟩]
noncomputable def r72_1 : List COp := r72_1U ()
noncomputable def r72_2U (_ : Unit) : List COp := [⟨fun a σ => fload none (a.get 1) σ, (some 5), fun _ => some true⟩,
  ⟨fun a σ => .enter 73 [(a.get 0), (a.get 5)] σ, (some 6), fun _ => some true⟩,
  ⟨fun a σ => fnilCheck (a.get 6) σ, (some 7), fun _ => some true⟩,
  ⟨fun a σ => fload (some 4) (a.get 7) σ, (some 8), fun _ => some true⟩,
  ⟨fun a σ => .enter 69 [(a.get 8)] σ, (some 9), fun _ => some true⟩,
  ⟨fun a σ => fstore 4 (a.get 2) (a.get 9) σ, none, fun _ => some true⟩]
noncomputable def r72_2 : List COp := r72_2U ()
noncomputable def run72 (E : Env) (ro : Option Nat) (fn : FuncId) : RunF := (seqR (fops E ro r72_0) (seqR (fops E ro r72_1) (seqR (fops E ro r72_2) retR)))
theorem r72_0_go : fops E ro r72_0 a u σ = fops E ro (r72_0U ()) a u σ := rfl
theorem r72_1_go : fops E ro r72_1 a u σ = fops E ro (r72_1U ()) a u σ := rfl
theorem r72_2_go : fops E ro r72_2 a u σ = fops E ro (r72_2U ()) a u σ := rfl
theorem code72 (E : Env) (ro : Option Nat) (fn : FuncId) : code Tryz.prog nls (Tryz.f72.body.getD .skip) E ro fn = run72 E ro fn := by kernel_rfl
theorem enter72 (E : Env) (args : List Value) (u : Option FrameMode) (σ : FState) (hn : args.length ≤ (2 : Nat)) : fcall Tryz.prog nls E 72 args u σ = leaveR Tryz.prog E [.cell 2 28] (run72 E none 72 ⟨padTo undef 2 args, fun _ => undef, 2, 10, []⟩ u σ) := by
  rw [fcall_of (body := Tryz.f72.body.getD .skip) Tryz.func72 rfl E args u σ 2 10 (by kernel_rfl) rfl ⟨hn, by decide⟩, code72]
  rfl
/-! caracole/datum.place -/
noncomputable def r73_0U (_ : Unit) : List COp := [⟨fun a σ => .val (.pointer none) σ, (some 4), fun _ => some true⟩]
noncomputable def r73_0 : List COp := r73_0U ()
noncomputable def r73_1U (_ : Unit) : List COp := [⟨fun a σ => .val (a.get 1) σ, (some 7), fun _ => some true⟩,
  ⟨fun a σ => flenL (a.get 7) σ, (some 8), fun _ => some true⟩,
  ⟨fun a σ => .val (.int .i64 0) σ, (some 9), fun _ => some true⟩]
noncomputable def r73_1 : List COp := r73_1U ()
noncomputable def r73_2U (_ : Unit) : List COp := [⟨fun a σ => i_lss Tryz.prog 3 (.tmp 9) (.tmp 8) (a.get 9) (a.get 8) σ, (some 10), fun _ => some true⟩]
noncomputable def r73_2 : List COp := r73_2U ()
noncomputable def r73_3U (_ : Unit) : List COp := [⟨fun a σ => findex (none, 1) (a.get 7) (a.get 9) σ, (some 11), fun _ => some true⟩,
  ⟨fun a σ => fload none (a.get 11) σ, (some 12), fun _ => some true⟩,
  ⟨fun a σ => .val (a.get 12) σ, (some 6), fun _ => some true⟩]
noncomputable def r73_3 : List COp := r73_3U ()
noncomputable def r73_4U (_ : Unit) : List COp := [⟨fun a σ => .val (a.get 6) σ, (some 13), fun _ => some true⟩,
  ⟨fun a σ => i_lss Tryz.prog 3 (.tmp 13) (.const (.int .i64 0)) (a.get 13) (.int .i64 0) σ, (some 14), fun _ => some true⟩,
  ⟨fun a σ => .val (a.get 14) σ, (some 15), fun _ => some true⟩,
  ⟨fun a σ => .val (a.get 6) σ, (some 16), fun a => gd (a.get 15) false⟩,
  ⟨fun a σ => .val (a.get 0) σ, (some 17), fun a => gd (a.get 15) false⟩,
  ⟨fun a σ => fnilCheck (a.get 17) σ, (some 18), fun a => gd (a.get 15) false⟩,
  ⟨fun a σ => ffield 3 (a.get 18) σ, (some 19), fun a => gd (a.get 15) false⟩,
  ⟨fun a σ => fload none (a.get 19) σ, (some 20), fun a => gd (a.get 15) false⟩,
  ⟨fun a σ => flenL (a.get 20) σ, (some 21), fun a => gd (a.get 15) false⟩,
  ⟨fun a σ => i_geq Tryz.prog 3 (.tmp 16) (.tmp 21) (a.get 16) (a.get 21) σ, (some 22), fun a => gd (a.get 15) false⟩,
  ⟨fun a σ => fpick (a.get 15) (.bool true) (a.get 22) σ, (some 23), fun _ => some true⟩]
noncomputable def r73_4 : List COp := r73_4U ()
noncomputable def r73_5U (_ : Unit) : List COp := [⟨fun a σ => .enter 104 [(.int .i64 9)] σ, (some 24), fun _ => some true⟩]
noncomputable def r73_5 : List COp := r73_5U ()
noncomputable def r73_6U (_ : Unit) : List COp := [⟨fun a σ => .val (a.get 0) σ, (some 25), fun _ => some true⟩,
  ⟨fun a σ => fnilCheck (a.get 25) σ, (some 26), fun _ => some true⟩,
  ⟨fun a σ => ffield 3 (a.get 26) σ, (some 27), fun _ => some true⟩,
  ⟨fun a σ => fload none (a.get 27) σ, (some 28), fun _ => some true⟩,
  ⟨fun a σ => .val (a.get 6) σ, (some 29), fun _ => some true⟩,
  ⟨fun a σ => findex (none, 4) (a.get 28) (a.get 29) σ, (some 30), fun _ => some true⟩,
  ⟨fun a σ => .val (a.get 30) σ, (some 0), fun _ => some true⟩]
noncomputable def r73_6 : List COp := r73_6U ()
noncomputable def r73_7U (_ : Unit) : List COp := [⟨fun a σ => i_add Tryz.prog 3 (.tmp 9) (.const (.int .i64 1)) (a.get 9) (.int .i64 1) σ, (some 31), fun _ => some true⟩,
  ⟨fun a σ => .val (a.get 31) σ, (some 9), fun _ => some true⟩]
noncomputable def r73_7 : List COp := r73_7U ()
noncomputable def l73_0 (E : Env) (ro : Option Nat) (fn : FuncId) : RunF := (seqR (fops E ro r73_2) (seqR (condR (fun a => (a.get 10)) skipR (exitR 0)) (seqR (blockR 1 (seqR (fops E ro r73_3) (seqR (seqR (fops E ro r73_4) (condR (fun a => (a.get 23)) (fops E ro r73_5) skipR)) (fops E ro r73_6)))) (fops E ro r73_7))))
noncomputable def r73_8U (_ : Unit) : List COp := [⟨fun a σ => .val (a.get 0) σ, (some 32), fun _ => some true⟩,
  ⟨fun a σ => .val (a.get 32) σ, (some 4), fun _ => some true⟩]
noncomputable def r73_8 : List COp := r73_8U ()
noncomputable def run73 (E : Env) (ro : Option Nat) (fn : FuncId) : RunF := (seqR (fops E ro r73_0) (seqR (seqR (fops E ro r73_1) (blockR 0 (loopR (keepOf nls fn) (l73_0 E ro fn)))) (seqR (fops E ro r73_8) retR)))
theorem r73_0_go : fops E ro r73_0 a u σ = fops E ro (r73_0U ()) a u σ := rfl
theorem r73_1_go : fops E ro r73_1 a u σ = fops E ro (r73_1U ()) a u σ := rfl
theorem r73_2_go : fops E ro r73_2 a u σ = fops E ro (r73_2U ()) a u σ := rfl
theorem r73_3_go : fops E ro r73_3 a u σ = fops E ro (r73_3U ()) a u σ := rfl
theorem r73_4_go : fops E ro r73_4 a u σ = fops E ro (r73_4U ()) a u σ := rfl
theorem r73_5_go : fops E ro r73_5 a u σ = fops E ro (r73_5U ()) a u σ := rfl
theorem r73_6_go : fops E ro r73_6 a u σ = fops E ro (r73_6U ()) a u σ := rfl
theorem r73_7_go : fops E ro r73_7 a u σ = fops E ro (r73_7U ()) a u σ := rfl
theorem r73_8_go : fops E ro r73_8 a u σ = fops E ro (r73_8U ()) a u σ := rfl
theorem code73 (E : Env) (ro : Option Nat) (fn : FuncId) : code Tryz.prog nls (Tryz.f73.body.getD .skip) E ro fn = run73 E ro fn := by kernel_rfl
theorem enter73 (E : Env) (args : List Value) (u : Option FrameMode) (σ : FState) (hn : args.length ≤ (7 : Nat)) : fcall Tryz.prog nls E 73 args u σ = leaveR Tryz.prog E [.tmp 4] (run73 E none 73 ⟨padTo undef 7 args, fun _ => undef, 7, 33, []⟩ u σ) := by
  rw [fcall_of (body := Tryz.f73.body.getD .skip) Tryz.func73 rfl E args u σ 7 33 (by kernel_rfl) rfl ⟨hn, by decide⟩, code73]
  rfl
/-! caracole/guard.Call[caracole/api.Datum] -/
noncomputable def r58_0U (_ : Unit) : List COp := [⟨fun a σ => newCells [(.int .i64 0), (.int .i64 0), (.string ⟨#[]⟩), (.slice none 0 0)] 28 none σ, (some 2), fun _ => some true⟩,
  ⟨fun a σ => .val (.int .i64 0) σ, (some 3), fun _ => some true⟩]
noncomputable def r58_0 : List COp := r58_0U ()
noncomputable def r58_1U (_ : Unit) : List COp := [⟨fun a σ => .val (a.get 0) σ, (some 8), fun _ => some true⟩,
  ⟨fun a σ => .enter 100 [(a.get 8)] σ, (some 9), fun _ => some true⟩,
  ⟨fun a σ => .val (a.get 9) σ, (some 7), fun _ => some true⟩,
  ⟨fun a σ => fextract 0 (a.get 7) σ, (some 10), fun _ => some true⟩,
  ⟨fun a σ => fextract 1 (a.get 7) σ, (some 11), fun _ => some true⟩,
  ⟨fun a σ => fextract 2 (a.get 7) σ, (some 12), fun _ => some true⟩,
  ⟨fun a σ => newCells [(.int .i64 0), (.int .i64 0), (.string ⟨#[]⟩), (.slice none 0 0)] 28 none σ, (some 4), fun _ => some true⟩,
  ⟨fun a σ => fstore 4 (a.get 4) (a.get 10) σ, none, fun _ => some true⟩,
  ⟨fun a σ => .val (a.get 11) σ, (some 5), fun _ => some true⟩,
  ⟨fun a σ => .val (a.get 12) σ, (some 6), fun _ => some true⟩]
noncomputable def r58_1 : List COp := r58_1U ()
noncomputable def r58_2U (_ : Unit) : List COp := [⟨fun a σ => fload (some 4) (a.get 4) σ, (some 13), fun _ => some true⟩,
  ⟨fun a σ => .val (a.get 6) σ, (some 14), fun _ => some true⟩,
  ⟨fun a σ => fstore 4 (a.get 2) (a.get 13) σ, none, fun _ => some true⟩,
  ⟨fun a σ => .val (a.get 14) σ, (some 3), fun _ => some true⟩]
noncomputable def r58_2 : List COp := r58_2U ()
noncomputable def run58 (E : Env) (ro : Option Nat) (fn : FuncId) : RunF := (seqR (fops E ro r58_0) (seqR (fops E ro r58_1) (seqR (fops E ro r58_2) retR)))
theorem r58_0_go : fops E ro r58_0 a u σ = fops E ro (r58_0U ()) a u σ := rfl
theorem r58_1_go : fops E ro r58_1 a u σ = fops E ro (r58_1U ()) a u σ := rfl
theorem r58_2_go : fops E ro r58_2 a u σ = fops E ro (r58_2U ()) a u σ := rfl
theorem code58 (E : Env) (ro : Option Nat) (fn : FuncId) : code Tryz.prog nls (Tryz.f58.body.getD .skip) E ro fn = run58 E ro fn := by kernel_rfl
theorem enter58 (E : Env) (args : List Value) (u : Option FrameMode) (σ : FState) (hn : args.length ≤ (7 : Nat)) : fcall Tryz.prog nls E 58 args u σ = leaveR Tryz.prog E [.cell 2 28, .tmp 3] (run58 E none 58 ⟨padTo undef 7 args, fun _ => undef, 7, 15, []⟩ u σ) := by
  rw [fcall_of (body := Tryz.f58.body.getD .skip) Tryz.func58 rfl E args u σ 7 15 (by kernel_rfl) rfl ⟨hn, by decide⟩, code58]
  rfl
/-! caracole/guard.CallAt[caracole/api.Datum] -/
noncomputable def r100_0U (_ : Unit) : List COp := [⟨fun a σ => newCells [(.int .i64 0), (.int .i64 0), (.string ⟨#[]⟩), (.slice none 0 0)] 28 none σ, (some 2), fun _ => some true⟩,
  ⟨fun a σ => newCells [(.int .i64 0)] 3 none σ, (some 3), fun _ => some true⟩,
  ⟨fun a σ => newCells [(.int .i64 0)] 32 none σ, (some 4), fun _ => some true⟩]
noncomputable def r100_0 : List COp := r100_0U ()
noncomputable def r100_1U (_ : Unit) : List COp := [⟨fun a σ => .val (.func (.func 125) #[] #[(a.get 3), (a.get 4)]) σ, (some 5), fun _ => some true⟩,
  ⟨fun a σ => fdefer (a.get 5) [] σ, none, fun _ => some true⟩]
noncomputable def r100_1 : List COp := r100_1U ()
noncomputable def r100_2U (_ : Unit) : List COp := [⟨fun a σ => .val (a.get 0) σ, (some 6), fun _ => some true⟩,
  ⟨fun a σ => fcallV (a.get 6) [] σ, (some 7), fun _ => some true⟩,
  ⟨fun a σ => fstore 4 (a.get 2) (a.get 7) σ, none, fun _ => some true⟩,
  ⟨fun a σ => fstore 1 (a.get 3) (.int .i64 0) σ, none, fun _ => some true⟩,
  ⟨fun a σ => fstore 1 (a.get 4) (.int .i64 0) σ, none, fun _ => some true⟩]
noncomputable def r100_2 : List COp := r100_2U ()
noncomputable def run100 (E : Env) (ro : Option Nat) (fn : FuncId) : RunF := (seqR (fops E ro r100_0) (seqR (fops E ro r100_1) (seqR (fops E ro r100_2) retR)))
theorem r100_0_go : fops E ro r100_0 a u σ = fops E ro (r100_0U ()) a u σ := rfl
theorem r100_1_go : fops E ro r100_1 a u σ = fops E ro (r100_1U ()) a u σ := rfl
theorem r100_2_go : fops E ro r100_2 a u σ = fops E ro (r100_2U ()) a u σ := rfl
theorem code100 (E : Env) (ro : Option Nat) (fn : FuncId) : code Tryz.prog nls (Tryz.f100.body.getD .skip) E ro fn = run100 E ro fn := by kernel_rfl
theorem enter100 (E : Env) (args : List Value) (u : Option FrameMode) (σ : FState) (hn : args.length ≤ (5 : Nat)) : fcall Tryz.prog nls E 100 args u σ = leaveR Tryz.prog E [.cell 2 28, .cell 3 3, .cell 4 32] (run100 E none 100 ⟨padTo undef 5 args, fun _ => undef, 5, 8, []⟩ u σ) := by
  rw [fcall_of (body := Tryz.f100.body.getD .skip) Tryz.func100 rfl E args u σ 5 8 (by kernel_rfl) rfl ⟨hn, by decide⟩, code100]
  rfl
/-! caracole/guard.CallAt[caracole/api.Datum]$1 -/
noncomputable def r125_0U (_ : Unit) : List COp := [⟨fun a σ => .recover σ, (some 6), fun _ => some true⟩]
noncomputable def r125_0 : List COp := r125_0U ()
noncomputable def r125_3U (_ : Unit) : List COp := [⟨fun a σ => i_eql Tryz.prog 20 (.tmp 6) (.const .nilIface) (a.get 6) .nilIface σ, (some 7), fun _ => some true⟩]
noncomputable def r125_3 : List COp := r125_3U ()
noncomputable def r125_4U (_ : Unit) : List COp := [⟨fun a σ => .val (a.get 6) σ, (some 2), fun _ => some true⟩]
noncomputable def r125_4 : List COp := r125_4U ()
noncomputable def r125_5U (_ : Unit) : List COp := [⟨fun a σ => fassert Tryz.prog (a.get 6) 164 true σ, (some 8), fun _ => some true⟩,
  ⟨fun a σ => fextract 1 (a.get 8) σ, (some 9), fun _ => some true⟩,
  ⟨fun a σ => fextract 0 (a.get 8) σ, (some 10), fun _ => some true⟩]
noncomputable def r125_5 : List COp := r125_5U ()
noncomputable def r125_6U (_ : Unit) : List COp := [⟨fun a σ => .val (a.get 10) σ, (some 3), fun _ => some true⟩]
noncomputable def r125_6 : List COp := r125_6U ()
noncomputable def r125_7U (_ : Unit) : List COp := [⟨fun a σ => .val (a.get 3) σ, (some 11), fun _ => some true⟩,
  ⟨fun a σ => .enter 126 [(a.get 11)] σ, (some 12), fun _ => some true⟩,
  ⟨fun a σ => newCells [(.int .i64 0), (.int .i64 0)] 166 none σ, (some 4), fun _ => some true⟩,
  ⟨fun a σ => fstore 2 (a.get 4) (a.get 12) σ, none, fun _ => some true⟩]
noncomputable def r125_7 : List COp := r125_7U ()
noncomputable def r125_8U (_ : Unit) : List DOp := [⟨fun a σ => ffield 1 (a.get 4) σ, (some 13), fun _ => some true, (some 0), false⟩,
  ⟨fun a σ => fload none (a.get 13) σ, (some 14), fun _ => some true, (some 0), false⟩,
  ⟨fun a σ => fstore 1 (a.get 0) (a.get 14) σ, none, fun _ => some true, none, false⟩,
  ⟨fun a σ => ffield 0 (a.get 4) σ, (some 15), fun _ => some true, (some 0), false⟩,
  ⟨fun a σ => fload none (a.get 15) σ, (some 16), fun _ => some true, (some 0), false⟩,
  ⟨fun a σ => fstore 1 (a.get 1) (a.get 16) σ, none, fun _ => some true, none, true⟩]
noncomputable def r125_8 : List DOp := r125_8U ()
noncomputable def r125_1U (_ : Unit) : List COp := [⟨fun a σ => .val (a.get 6) σ, (some 5), fun _ => some true⟩]
noncomputable def r125_1 : List COp := r125_1U ()
noncomputable def r125_2U (_ : Unit) : List COp := [⟨fun a σ => fstore 1 (a.get 1) (.int .i64 1) σ, none, fun _ => some true⟩]
noncomputable def r125_2 : List COp := r125_2U ()
noncomputable def run125 (E : Env) (ro : Option Nat) (fn : FuncId) : RunF := (seqR (fops E ro r125_0) (blockR 0 (seqR (fops E ro r125_3) (condR (fun a => (a.get 7)) (fops E ro r125_4) (seqR (fops E ro r125_5) (condR (fun a => (a.get 9)) (seqR (fops E ro r125_6) (seqR (fops E ro r125_7) (drawR E ro r125_8))) (seqR (fops E ro r125_1) (fops E ro r125_2))))))))
theorem r125_0_go : fops E ro r125_0 a u σ = fops E ro (r125_0U ()) a u σ := rfl
theorem r125_3_go : fops E ro r125_3 a u σ = fops E ro (r125_3U ()) a u σ := rfl
theorem r125_4_go : fops E ro r125_4 a u σ = fops E ro (r125_4U ()) a u σ := rfl
theorem r125_5_go : fops E ro r125_5 a u σ = fops E ro (r125_5U ()) a u σ := rfl
theorem r125_6_go : fops E ro r125_6 a u σ = fops E ro (r125_6U ()) a u σ := rfl
theorem r125_7_go : fops E ro r125_7 a u σ = fops E ro (r125_7U ()) a u σ := rfl
theorem r125_8_go : fdraw E ro last r125_8 cl a u σ = fdraw E ro last (r125_8U ()) cl a u σ := rfl
theorem r125_1_go : fops E ro r125_1 a u σ = fops E ro (r125_1U ()) a u σ := rfl
theorem r125_2_go : fops E ro r125_2 a u σ = fops E ro (r125_2U ()) a u σ := rfl
theorem code125 (E : Env) (ro : Option Nat) (fn : FuncId) : code Tryz.prog nls (Tryz.f125.body.getD .skip) E ro fn = run125 E ro fn := by kernel_rfl
theorem enter125 (E : Env) (args : List Value) (u : Option FrameMode) (σ : FState) (hn : args.length ≤ (6 : Nat)) : fcall Tryz.prog nls E 125 args u σ = leaveR Tryz.prog E [] (run125 E none 125 ⟨padTo undef 6 args, fun _ => undef, 6, 17, []⟩ u σ) := by
  rw [fcall_of (body := Tryz.f125.body.getD .skip) Tryz.func125 rfl E args u σ 6 17 (by kernel_rfl) rfl ⟨hn, by decide⟩, code125]
  rfl
/-! caracole/plain.Copy -/
noncomputable def r69_0U (_ : Unit) : List COp := [⟨fun a σ => fbox 28 (a.get 0) σ, (some 1), fun _ => some true⟩,
  ⟨fun a σ => newCells [(.int .i64 0), (.int .i64 0), (.string ⟨#[]⟩), (.slice none 0 0)] 28 none σ, (some 2), fun _ => some true⟩]
noncomputable def r69_0 : List COp := r69_0U ()
noncomputable def r69_1U (_ : Unit) : List DOp := [⟨fun a σ => ffield 3 (a.get 1) σ, (some 9), fun _ => some true, (some 0), false⟩,
  ⟨fun a σ => fload none (a.get 9) σ, (some 10), fun _ => some true, (some 0), false⟩,
  ⟨fun a σ => .enter 106 [(a.get 10), (.func (.func 69) #[] #[])] σ, (some 11), fun _ => some true, none, false⟩,
  ⟨fun a σ => ffield 0 (a.get 1) σ, (some 3), fun _ => some true, (some 0), false⟩,
  ⟨fun a σ => fload none (a.get 3) σ, (some 4), fun _ => some true, (some 0), false⟩,
  ⟨fun a σ => ffield 1 (a.get 1) σ, (some 5), fun _ => some true, (some 0), false⟩,
  ⟨fun a σ => fload none (a.get 5) σ, (some 6), fun _ => some true, (some 0), false⟩,
  ⟨fun a σ => ffield 2 (a.get 1) σ, (some 7), fun _ => some true, (some 0), false⟩,
  ⟨fun a σ => fload none (a.get 7) σ, (some 8), fun _ => some true, (some 0), false⟩,
  ⟨fun a σ => fbuild (fun i => nth [(0, 1), (1, 1), (2, 1), (3, 1)] i) [(.int .i64 0), (.int .i64 0), (.string ⟨#[]⟩), (.slice none 0 0)] [(0, (a.get 4)), (1, (a.get 6)), (2, (a.get 8)), (3, (a.get 11))] σ, (some 12), fun _ => some true, (some 1), false⟩,
  ⟨fun a σ => fstore 4 (a.get 2) (a.get 12) σ, none, fun _ => some true, none, true⟩]
noncomputable def r69_1 : List DOp := r69_1U ()
noncomputable def run69 (E : Env) (ro : Option Nat) (fn : FuncId) : RunF := (seqR (fops E ro r69_0) (seqR (drawR E ro r69_1) retR))
theorem r69_0_go : fops E ro r69_0 a u σ = fops E ro (r69_0U ()) a u σ := rfl
theorem r69_1_go : fdraw E ro last r69_1 cl a u σ = fdraw E ro last (r69_1U ()) cl a u σ := rfl
theorem code69 (E : Env) (ro : Option Nat) (fn : FuncId) : code Tryz.prog nls (Tryz.f69.body.getD .skip) E ro fn = run69 E ro fn := by kernel_rfl
theorem enter69 (E : Env) (args : List Value) (u : Option FrameMode) (σ : FState) (hn : args.length ≤ (2 : Nat)) : fcall Tryz.prog nls E 69 args u σ = leaveR Tryz.prog E [.cell 2 28] (run69 E none 69 ⟨padTo undef 2 args, fun _ => undef, 2, 13, []⟩ u σ) := by
  rw [fcall_of (body := Tryz.f69.body.getD .skip) Tryz.func69 rfl E args u σ 2 13 (by kernel_rfl) rfl ⟨hn, by decide⟩, code69]
  rfl
/-! caracole/plain.Each[caracole/api.Datum,caracole/api.Datum] -/
noncomputable def r106_0U (_ : Unit) : List COp := [⟨fun a σ => .val (.slice none 0 0) σ, (some 4), fun _ => some true⟩]
noncomputable def r106_0 : List COp := r106_0U ()
noncomputable def r106_1U (_ : Unit) : List COp := [⟨fun a σ => .val (a.get 0) σ, (some 7), fun _ => some true⟩,
  ⟨fun a σ => flenL (a.get 7) σ, (some 8), fun _ => some true⟩,
  ⟨fun a σ => i_eql Tryz.prog 3 (.tmp 8) (.const (.int .i64 0)) (a.get 8) (.int .i64 0) σ, (some 9), fun _ => some true⟩]
noncomputable def r106_1 : List COp := r106_1U ()
noncomputable def r106_2U (_ : Unit) : List COp := [⟨fun a σ => .val (.slice none 0 0) σ, (some 4), fun _ => some true⟩]
noncomputable def r106_2 : List COp := r106_2U ()
noncomputable def r106_3U (_ : Unit) : List COp := [⟨fun a σ => .val (a.get 0) σ, (some 10), fun _ => some true⟩,
  ⟨fun a σ => flenL (a.get 10) σ, (some 11), fun _ => some true⟩,
  ⟨fun a σ => fmakeSlice 28 56 [(.int .i64 0), (.int .i64 0), (.string ⟨#[]⟩), (.slice none 0 0)] (a.get 11) (a.get 11) σ, (some 12), fun _ => some true⟩,
  ⟨fun a σ => .val (a.get 12) σ, (some 5), fun _ => some true⟩]
noncomputable def r106_3 : List COp := r106_3U ()
noncomputable def r106_4U (_ : Unit) : List COp := [⟨fun a σ => .val (a.get 0) σ, (some 13), fun _ => some true⟩,
  ⟨fun a σ => flenL (a.get 13) σ, (some 14), fun _ => some true⟩,
  ⟨fun a σ => .val (.int .i64 0) σ, (some 15), fun _ => some true⟩]
noncomputable def r106_4 : List COp := r106_4U ()
noncomputable def r106_5U (_ : Unit) : List COp := [⟨fun a σ => i_lss Tryz.prog 3 (.tmp 15) (.tmp 14) (a.get 15) (a.get 14) σ, (some 16), fun _ => some true⟩]
noncomputable def r106_5 : List COp := r106_5U ()
noncomputable def r106_6U (_ : Unit) : List COp := [⟨fun a σ => .val (a.get 15) σ, (some 17), fun _ => some true⟩,
  ⟨fun a σ => .val (a.get 17) σ, (some 6), fun _ => some true⟩]
noncomputable def r106_6 : List COp := r106_6U ()
noncomputable def r106_7U (_ : Unit) : List COp := [⟨fun a σ => .val (a.get 5) σ, (some 18), fun _ => some true⟩,
  ⟨fun a σ => .val (a.get 6) σ, (some 19), fun _ => some true⟩,
  ⟨fun a σ => .val (a.get 1) σ, (some 20), fun _ => some true⟩,
  ⟨fun a σ => .val (a.get 0) σ, (some 21), fun _ => some true⟩,
  ⟨fun a σ => .val (a.get 6) σ, (some 22), fun _ => some true⟩,
  ⟨fun a σ => findex (none, 4) (a.get 21) (a.get 22) σ, (some 23), fun _ => some true⟩,
  ⟨fun a σ => fload (some 4) (a.get 23) σ, (some 24), fun _ => some true⟩,
  ⟨fun a σ => fcallV (a.get 20) [(a.get 24)] σ, (some 25), fun _ => some true⟩,
  ⟨fun a σ => findex (none, 4) (a.get 18) (a.get 19) σ, (some 26), fun _ => some true⟩,
  ⟨fun a σ => fstore 4 (a.get 26) (a.get 25) σ, none, fun _ => some true⟩]
noncomputable def r106_7 : List COp := r106_7U ()
noncomputable def r106_8U (_ : Unit) : List COp := [⟨fun a σ => i_add Tryz.prog 3 (.tmp 15) (.const (.int .i64 1)) (a.get 15) (.int .i64 1) σ, (some 27), fun _ => some true⟩,
  ⟨fun a σ => .val (a.get 27) σ, (some 15), fun _ => some true⟩]
noncomputable def r106_8 : List COp := r106_8U ()
noncomputable def l106_0 (E : Env) (ro : Option Nat) (fn : FuncId) : RunF := (seqR (fops E ro r106_5) (seqR (condR (fun a => (a.get 16)) skipR (exitR 0)) (seqR (blockR 1 (seqR (fops E ro r106_6) (fops E ro r106_7))) (fops E ro r106_8))))
noncomputable def r106_9U (_ : Unit) : List COp := [⟨fun a σ => .val (a.get 5) σ, (some 28), fun _ => some true⟩,
  ⟨fun a σ => .val (a.get 28) σ, (some 4), fun _ => some true⟩]
noncomputable def r106_9 : List COp := r106_9U ()
noncomputable def run106 (E : Env) (ro : Option Nat) (fn : FuncId) : RunF := (seqR (fops E ro r106_0) (seqR (seqR (fops E ro r106_1) (condR (fun a => (a.get 9)) (seqR (fops E ro r106_2) retR) skipR)) (seqR (fops E ro r106_3) (seqR (seqR (fops E ro r106_4) (blockR 0 (loopR (keepOf nls fn) (l106_0 E ro fn)))) (seqR (fops E ro r106_9) retR)))))
theorem r106_0_go : fops E ro r106_0 a u σ = fops E ro (r106_0U ()) a u σ := rfl
theorem r106_1_go : fops E ro r106_1 a u σ = fops E ro (r106_1U ()) a u σ := rfl
theorem r106_2_go : fops E ro r106_2 a u σ = fops E ro (r106_2U ()) a u σ := rfl
theorem r106_3_go : fops E ro r106_3 a u σ = fops E ro (r106_3U ()) a u σ := rfl
theorem r106_4_go : fops E ro r106_4 a u σ = fops E ro (r106_4U ()) a u σ := rfl
theorem r106_5_go : fops E ro r106_5 a u σ = fops E ro (r106_5U ()) a u σ := rfl
theorem r106_6_go : fops E ro r106_6 a u σ = fops E ro (r106_6U ()) a u σ := rfl
theorem r106_7_go : fops E ro r106_7 a u σ = fops E ro (r106_7U ()) a u σ := rfl
theorem r106_8_go : fops E ro r106_8 a u σ = fops E ro (r106_8U ()) a u σ := rfl
theorem r106_9_go : fops E ro r106_9 a u σ = fops E ro (r106_9U ()) a u σ := rfl
theorem code106 (E : Env) (ro : Option Nat) (fn : FuncId) : code Tryz.prog nls (Tryz.f106.body.getD .skip) E ro fn = run106 E ro fn := by kernel_rfl
theorem enter106 (E : Env) (args : List Value) (u : Option FrameMode) (σ : FState) (hn : args.length ≤ (7 : Nat)) : fcall Tryz.prog nls E 106 args u σ = leaveR Tryz.prog E [.tmp 4] (run106 E none 106 ⟨padTo undef 7 args, fun _ => undef, 7, 29, []⟩ u σ) := by
  rw [fcall_of (body := Tryz.f106.body.getD .skip) Tryz.func106 rfl E args u σ 7 29 (by kernel_rfl) rfl ⟨hn, by decide⟩, code106]
  rfl
end Go.Proofs.YtodkeaoikjjneaaGreatDoor
/- plain.Equal. -/
namespace Go.Proofs.YtodkeaoikjjneaaGreatDoor
open Go Go.Eng
attribute [local congr] andThen_congr fops_congr fdraw_congr afterOp_congr drawF_congr
attribute [-go_sem] List.range_succ
theorem fields_atom : (match (Tryz.prog.fieldsOf 177).toList with
    | [a, b, c] => a.name != "_" && b.name != "_" && c.name != "_" && a.type == 3 && b.type == 3 && c.type == 9 && a.offset == 0 && b.offset == 1 && c.offset == 2
    | _ => false) = true := by kernel_rfl
theorem run_atom (k n k' n' : Int) (t t' : ByteArray) : prun Tryz.prog (Op.equalIn 10000 177 (.agg #[.int .i64 k, .int .i64 n, .string t]) (.agg #[.int .i64 k', .int .i64 n', .string t'])) = some (.ok ((k == k') && (n == n') && (t.toList == t'.toList))) := by
  have hS : Tryz.prog.underlying 177 = some (.struct (Tryz.prog.fieldsOf 177)) := by kernel_rfl
  have hp : Tryz.prog.stoodInHeld 177 = false := by kernel_rfl
  have u3 : Tryz.prog.underlying 3 = some (.int .i64) := by kernel_rfl
  have us : Tryz.prog.underlying 9 = some .string := by kernel_rfl
  have p0 : ∀ a b c : Value, prun Tryz.prog (part 3 #[a, b, c] 0) = some (.ok a) := fun a b c => by kernel_rfl
  have p1 : ∀ a b c : Value, prun Tryz.prog (part 3 #[a, b, c] 1) = some (.ok b) := fun a b c => by kernel_rfl
  have p2 : ∀ a b c : Value, prun Tryz.prog (part 9 #[a, b, c] 2) = some (.ok c) := fun a b c => by kernel_rfl
  rw [show (10000 : Nat) = 9999 + 1 from rfl, prun_equalIn_struct 9999 _ _ _ hS hp]
  have hf := fields_atom
  generalize (Tryz.prog.fieldsOf 177).toList = fs at hf ⊢
  match fs, hf with
  | [a, b, c], hf =>
    simp only [Bool.and_eq_true, bne_iff_ne, beq_iff_eq] at hf
    obtain ⟨⟨⟨⟨⟨⟨⟨⟨n1, n2⟩, n3⟩, t1⟩, t2⟩, t3⟩, o1⟩, o2⟩, o3⟩ := hf
    simp only [Op.eqFields, n1, n2, n3, t1, t2, t3, o1, o2, o3, ne_eq, not_false_eq_true, if_true, prun_bind, p0, p1, p2, prun_equalIn_int 9998 _ _ _ _ _ u3, prun_equalIn_string 9998 _ _ _ us]
    cases h1 : k == k' <;> cases h2 : n == n' <;> cases h3 : t.toList == t'.toList <;> simp only [h1, h2, h3, Bool.not_true, Bool.not_false, Bool.false_eq_true, if_true, if_false, reduceIte, prun_pure, prun_bind, Bool.and_true, Bool.and_false, Bool.true_and, Bool.false_and, Bool.and_self, p0, p1, p2, prun_equalIn_int 9998 _ _ _ _ _ u3, prun_equalIn_string 9998 _ _ _ us]
set_option maxRecDepth 100000 in
theorem eql_atom (x y : Operand) (k n k' n' : Int) (t t' : ByteArray) (σ : FState) : i_eql Tryz.prog 177 x y (.agg #[.int .i64 k, .int .i64 n, .string t]) (.agg #[.int .i64 k', .int .i64 n', .string t']) σ = .val (.bool ((k == k') && (n == n') && (t.toList == t'.toList))) σ := by
  rw [show i_eql Tryz.prog 177 x y (.agg #[.int .i64 k, .int .i64 n, .string t]) (.agg #[.int .i64 k', .int .i64 n', .string t']) σ = fbin0 Tryz.prog .eql 177 x y (.agg #[.int .i64 k, .int .i64 n, .string t]) (.agg #[.int .i64 k', .int .i64 n', .string t']) σ by kernel_rfl]
  unfold fbin0 orPure
  have h1 : plain2 (.agg #[.int .i64 k, .int .i64 n, .string t]) (.agg #[.int .i64 k', .int .i64 n', .string t']) = true := by kernel_rfl
  have h2 : prun Tryz.prog (eqGuard .eql 177 x y (.agg #[.int .i64 k, .int .i64 n, .string t]) (.agg #[.int .i64 k', .int .i64 n', .string t'])) = some (.ok ()) := by kernel_rfl
  rw [h1, prun_bind, h2]
  simp only [binOp, Op.equal, Op.maxDepth, prun_bind, run_atom, prun_pure]
  rfl
theorem aggAtom : aggSize Tryz.prog 177 = some (some 3) := by kernel_rfl
theorem atomOf_go (n : Nat) (k z : Int) (t : ByteArray) (s : Value) (hs : oneCell s = true) (σ : FState) (hw : Wf σ) :
    Gives ((env (n + 1)).call 136 [.agg #[.int .i64 k, .int .i64 z, .string t, s]] none σ) σ fun w _ => w = .agg #[.int .i64 k, .int .i64 z, .string t] := by
  rw [env_call, enter136 _ _ _ _ (by simp), Sl_start]
  unfold run136
  simp -implicitDefEqProofs only [go_sem, ↓reduceIte, Nat.reduceLT, Nat.reduceEqDiff, Nat.reduceAdd, Nat.reduceMul, Nat.reduceLeDiff, Nat.reduceSub, fstoreN, r136_0_go, r136_0U, r136_1_go, r136_1U, Option.getD_some, aggAtom, fleave_nil, fresults_nil, fresults_cons, fresult_cell]
  exact ⟨_, _, rfl, (((Ext.refl _).push _ _).push _ _).put _ _ _ (by omega), ((hw.push _ _).push _ _).put _ _ _ (Nat.lt_succ_self _), rfl⟩
theorem equal_step (n : Nat) (k1 n1 k2 n2 : Int) (t1 t2 : ByteArray) (s1 s2 : Value) (h1 : oneCell s1 = true) (h2 : oneCell s2 = true) (σ : FState) (B : Bool) (hw : Wf σ)
    (h : ∀ σ', Ext σ σ' → Wf σ' → Gives ((env (n + 1)).call 137 [s1, s2, .func (.func 111) #[] #[]] none σ') σ' fun v _ => v = .bool B) :
    Gives ((env (n + 2)).call 111 [.agg #[.int .i64 k1, .int .i64 n1, .string t1, s1], .agg #[.int .i64 k2, .int .i64 n2, .string t2, s2]] none σ) σ
      fun v _ => v = .bool ((k1 == k2) && (n1 == n2) && (t1.toList == t2.toList) && B) := by
  rw [env_call, enter111 _ _ _ _ (by simp), Sl_start]
  unfold run111
  have x1 : Ext σ ((σ.push (.cells [.int .i64 k1, .int .i64 n1, .string t1, s1] TD) none).push (.cells [.int .i64 k2, .int .i64 n2, .string t2, s2] TD) none) := ((Ext.refl _).push _ _).push _ _
  have hw1 := (hw.push (.cells [.int .i64 k1, .int .i64 n1, .string t1, s1] TD) none).push (.cells [.int .i64 k2, .int .i64 n2, .string t2, s2] TD) none
  have c1 : ((σ.push (.cells [.int .i64 k1, .int .i64 n1, .string t1, s1] TD) none).push (.cells [.int .i64 k2, .int .i64 n2, .string t2, s2] TD) none).cells σ.next = some [.int .i64 k1, .int .i64 n1, .string t1, s1] := by rw [cells_push, if_neg (by rw [push_next]; omega), cells_push, if_pos rfl]; rfl
  have c2 : ((σ.push (.cells [.int .i64 k1, .int .i64 n1, .string t1, s1] TD) none).push (.cells [.int .i64 k2, .int .i64 n2, .string t2, s2] TD) none).cells (σ.next + 1) = some [.int .i64 k2, .int .i64 n2, .string t2, s2] := by rw [cells_push, if_pos (by rw [push_next])]; rfl
  have kc : ((σ.push (.cells [.int .i64 k1, .int .i64 n1, .string t1, s1] TD) none).push (.cells [.int .i64 k2, .int .i64 n2, .string t2, s2] TD) none).clock = σ.clock + 2 := rfl
  simp -implicitDefEqProofs only [go_sem, ↓reduceIte, Nat.reduceLT, Nat.reduceEqDiff, Nat.reduceAdd, Nat.reduceMul, Nat.reduceLeDiff, Nat.reduceSub, r111_0_go, r111_0U, Option.getD_some]
  generalize FState.push (FState.push σ _ _) _ _ = σ1 at x1 hw1 c1 c2 kc ⊢
  have hv1 := view_wf hw1 (lam := σ.clock + 2) (by omega)
  obtain ⟨_, σ2, e2, x2, hw2, rfl⟩ := atomOf_go n k1 n1 t1 s1 h1 σ1 hw1
  obtain ⟨_, σ3, e3, x3, hw3, rfl⟩ := atomOf_go n k2 n2 t2 s2 h2 σ2 hw2
  have hv3 := view_wf hw3 (Nat.le_refl _)
  have c2' : (view σ2 (σ.clock + 2)).cells (σ.next + 1) = some [.int .i64 k2, .int .i64 n2, .string t2, s2] := view_old hw1 (by omega) (x2.get _ (hw1.cells c2)) c2
  have c13 := (x3.cells (hw2.cells ((x2.cells (hw1.cells c1)).trans c1))).trans ((x2.cells (hw1.cells c1)).trans c1)
  have c23 := (x3.cells (hw2.cells ((x2.cells (hw1.cells c2)).trans c2))).trans ((x2.cells (hw1.cells c2)).trans c2)
  cases e : ((k1 == k2) && (n1 == n2) && (t1.toList == t2.toList)) with
  | false =>
    simp -implicitDefEqProofs only [go_sem, ↓reduceIte, Nat.reduceLT, Nat.reduceEqDiff, Nat.reduceAdd, Nat.reduceMul, Nat.reduceLeDiff, Nat.reduceSub, r111_1_go, r111_1U, hv1, c1, e2, c2', e3, eql_atom, e, hv3, c13, c23, h1, h2]
    exact ⟨_, _, rfl, (x1.trans x2).trans x3, hw3, rfl⟩
  | true =>
    obtain ⟨_, σ4, e4, x4, hw4, rfl⟩ := h σ3 ((x1.trans x2).trans x3) hw3
    simp -implicitDefEqProofs only [go_sem, ↓reduceIte, Nat.reduceLT, Nat.reduceEqDiff, Nat.reduceAdd, Nat.reduceMul, Nat.reduceLeDiff, Nat.reduceSub, r111_1_go, r111_1U, hv1, c1, e2, c2', e3, eql_atom, e, hv3, c13, c23, h1, h2, e4]
    exact ⟨_, _, rfl, ((x1.trans x2).trans x3).trans x4, hw4, rfl⟩
end Go.Proofs.YtodkeaoikjjneaaGreatDoor
/- slices.EqualFunc at plain.Equal; plain.Equal whole. -/
namespace Go.Proofs.YtodkeaoikjjneaaGreatDoor
open Go Go.Eng
attribute [local congr] andThen_congr fops_congr fdraw_congr afterOp_congr drawF_congr
attribute [-go_sem] List.range_succ
theorem keepEf : keepOf nls 137 = [15, 16, 17] := by kernel_rfl
structure HeadEf (p p' : Option Addr) (len c c' : Nat) (k : Nat) (f g : Nat → Value) : Prop where
  f1 : f 1 = .slice p' len c'
  f2 : f 2 = .func (.func 111) #[] #[]
  g15 : g 15 = .slice p len c
  g16 : g 16 = .int .i64 (.ofNat len)
  g17 : g 17 = .int .i64 (.ofNat k)
/-- A loaded datum, cell by cell. -/
theorem laid_list {σ : FState} {lv : List Value} {d : D} (h : Laid σ (.agg lv.toArray) d) : ∃ k z t p c ds, d = .mk k z t ds ∧ lv = [.int .i64 k, .int .i64 z, .string t, .slice p ds.length c] := by
  obtain ⟨k, z, t, ds⟩ := d
  obtain ⟨p, c, hv, _⟩ := h
  refine ⟨k, z, t, p, c, ds, rfl, ?_⟩
  have := Value.agg.inj hv
  simpa using congrArg Array.toList this
theorem equalFunc_loop (n N : Nat) (hE : ∀ d d' v v' σ, D.deep d ≤ N → d.count < 1000000000 → Wf σ → Laid σ v d → Laid σ v' d' → Gives ((env n).call 111 [v, v'] none σ) σ fun w _ => w = .bool (D.same d d'))
    (p p' : Option Addr) (len c c' : Nat) (hlen : len < 1000000000000) : ∀ (ds ds' : List D) (k fuel : Nat) (f g : Nat → Value) (σ : FState), k + ds.length = len → ds.length = ds'.length → ds.length < fuel → D.deeps ds ≤ N → D.counts ds < 1000000000 →
      Wf σ → LaidE σ p k ds → LaidE σ p' k ds' → HeadEf p p' len c c' k f g →
      ∃ e f' g' σ', floop [15, 16, 17] (l137_0 (env n) none 137) fuel (Sl 10 32 f g []) none σ = .done e (Sl 10 32 f' g' []) none σ' ∧ (if D.sames ds ds' = true then e = .exit 0 else e = .ret ∧ f' 6 = .bool false) ∧ Ext σ σ' ∧ Wf σ' := by
  intro ds
  induction ds with
  | nil =>
    intro ds' k fuel f g σ hk hl hf _ _ hw h1 h2 h
    obtain ⟨fuel, rfl⟩ : ∃ f, fuel = f + 1 := ⟨fuel - 1, by simp at hf; omega⟩
    have hd : decide ((Int.ofNat k) < (Int.ofNat len)) = false := by simp at hk ⊢; omega
    cases ds' with
    | cons _ _ => simp at hl
    | nil =>
      rw [floop_step, Sl_forget]
      unfold l137_0
      simp -implicitDefEqProofs only [go_sem, ↓reduceIte, Nat.reduceLT, Nat.reduceEqDiff, Nat.reduceAdd, Nat.reduceMul, Nat.reduceLeDiff, Nat.reduceSub, r137_4_go, r137_4U, h.g16, h.g17, hd, List.mem_cons]
      exact ⟨_, _, _, _, rfl, rfl, Ext.refl _, hw⟩
  | cons d ds ih =>
    intro ds' k fuel f g σ hk hl hf hN hM hw h1 h2 h
    obtain ⟨fuel, rfl⟩ : ∃ f, fuel = f + 1 := ⟨fuel - 1, by simp at hf; omega⟩
    have hd : decide ((Int.ofNat k) < (Int.ofNat len)) = true := by simp at hk ⊢; omega
    have hlt : k < len := by simp at hk; omega
    cases ds' with
    | nil => simp at hl
    | cons d' ds' =>
      obtain ⟨⟨b, off, cs, rfl, hc, hcl, hL⟩, h1r⟩ := h1
      obtain ⟨⟨b', off', cs', rfl, hc', hcl', hL'⟩, h2r⟩ := h2
      have hN' : D.deep d ≤ N ∧ D.deeps ds ≤ N := by simp [D.deeps] at hN; omega
      have hM' : d.count < 1000000000 ∧ D.counts ds < 1000000000 := by rw [D.counts] at hM; omega
      obtain ⟨k1, z1, t1, q1, c1, l1, rfl, e1⟩ := laid_list hL
      obtain ⟨k2, z2, t2, q2, c2, l2, rfl, e2⟩ := laid_list hL'
      have hb := hw.cells hc
      have hb' := hw.cells hc'
      have ne1 : (b = σ.next) = False := by simp; omega
      have ne2 : (b' = σ.next) = False := by simp; omega
      rw [e1] at hL
      rw [e2] at hL'
      rw [floop_step, Sl_forget]
      unfold l137_0
      simp -implicitDefEqProofs only [go_sem, ↓reduceIte, Nat.reduceLT, Nat.reduceEqDiff, Nat.reduceAdd, Nat.reduceMul, Nat.reduceLeDiff, Nat.reduceSub, fstoreN, r137_4_go, r137_4U, r137_5_go, r137_5U, r137_6_go, r137_6U, h.f1, h.g15, h.g16, h.g17, hd, hlt, hc, hc', hcl, hcl', e1, e2, ne1, ne2, List.mem_cons]
      generalize hff : upd _ 9 _ = f1
      generalize hgg : upd _ 25 _ = g1
      have x1 : Ext σ ((((σ.push (.cells [.int .i64 0, .int .i64 0, .string ⟨#[]⟩, .slice none 0 0] TD) none).put σ.next (.cells [.int .i64 k1, .int .i64 z1, .string t1, .slice q1 l1.length c1] TD) none).push (.cells [.int .i64 0, .int .i64 0, .string ⟨#[]⟩, .slice none 0 0] TD) none).put (σ.next + 1) (.cells [.int .i64 k2, .int .i64 z2, .string t2, .slice q2 l2.length c2] TD) none) := ((((Ext.refl _).push _ _).put _ _ _ (Nat.le_refl _)).push _ _).put _ _ _ (by omega)
      have hw1 := (((hw.push (.cells [.int .i64 0, .int .i64 0, .string ⟨#[]⟩, .slice none 0 0] TD) none).put σ.next (.cells [.int .i64 k1, .int .i64 z1, .string t1, .slice q1 l1.length c1] TD) none (Nat.lt_succ_self _)).push (.cells [.int .i64 0, .int .i64 0, .string ⟨#[]⟩, .slice none 0 0] TD) none).put (σ.next + 1) (.cells [.int .i64 k2, .int .i64 z2, .string t2, .slice q2 l2.length c2] TD) none (Nat.lt_succ_self _)
      have ca : ((((σ.push (.cells [.int .i64 0, .int .i64 0, .string ⟨#[]⟩, .slice none 0 0] TD) none).put σ.next (.cells [.int .i64 k1, .int .i64 z1, .string t1, .slice q1 l1.length c1] TD) none).push (.cells [.int .i64 0, .int .i64 0, .string ⟨#[]⟩, .slice none 0 0] TD) none).put (σ.next + 1) (.cells [.int .i64 k2, .int .i64 z2, .string t2, .slice q2 l2.length c2] TD) none).cells σ.next = some [.int .i64 k1, .int .i64 z1, .string t1, .slice q1 l1.length c1] := by rw [cells_put, if_neg (by omega), cells_push, if_neg (by rw [put_next, push_next]; omega), cells_put, if_pos rfl]; rfl
      have cb : ((((σ.push (.cells [.int .i64 0, .int .i64 0, .string ⟨#[]⟩, .slice none 0 0] TD) none).put σ.next (.cells [.int .i64 k1, .int .i64 z1, .string t1, .slice q1 l1.length c1] TD) none).push (.cells [.int .i64 0, .int .i64 0, .string ⟨#[]⟩, .slice none 0 0] TD) none).put (σ.next + 1) (.cells [.int .i64 k2, .int .i64 z2, .string t2, .slice q2 l2.length c2] TD) none).cells (σ.next + 1) = some [.int .i64 k2, .int .i64 z2, .string t2, .slice q2 l2.length c2] := by rw [cells_put, if_pos rfl]; rfl
      generalize FState.put _ _ _ _ = σ1 at x1 hw1 ca cb ⊢
      have k2' : f1 2 = .func (.func 111) #[] #[] := by rw [← hff]; simp -implicitDefEqProofs only [upd_go, kept_go, ↓reduceIte, Nat.reduceEqDiff, Nat.reduceLT, reduceCtorEq, h.f2]
      have k8 : f1 8 = .pointer (some ⟨σ.next, 0, none⟩) := by rw [← hff]; simp -implicitDefEqProofs only [upd_go, kept_go, ↓reduceIte, Nat.reduceEqDiff, Nat.reduceLT, reduceCtorEq]
      have k9 : f1 9 = .pointer (some ⟨σ.next + 1, 0, none⟩) := by rw [← hff]; simp -implicitDefEqProofs only [upd_go, kept_go, ↓reduceIte, Nat.reduceEqDiff, Nat.reduceLT, reduceCtorEq]
      obtain ⟨_, σ2, e3, x2, hw2, rfl⟩ := hE _ _ _ _ σ1 hN'.1 hM'.1 hw1 (hL.ext hw x1) (hL'.ext hw x1)
      have m17 : g1 17 = .int .i64 (.ofNat k) := by rw [← hgg]; simp -implicitDefEqProofs only [upd_go, kept_go, ↓reduceIte, Nat.reduceEqDiff, Nat.reduceLT, reduceCtorEq, h.g17, List.mem_cons, true_or, or_true]
      have w1 := add1 k (by omega)
      cases e : D.same (.mk k1 z1 t1 l1) (.mk k2 z2 t2 l2) with
      | false =>
        rw [e] at e3
        simp -implicitDefEqProofs only [go_sem, ↓reduceIte, Nat.reduceLT, Nat.reduceEqDiff, Nat.reduceAdd, Nat.reduceMul, Nat.reduceLeDiff, Nat.reduceSub, r137_7_go, r137_7U, r137_8_go, r137_8U, k2', k8, k9, ca, cb, e3]
        refine ⟨_, _, _, _, rfl, ?_, x1.trans x2, hw2⟩
        rw [show D.sames (.mk k1 z1 t1 l1 :: ds) (.mk k2 z2 t2 l2 :: ds') = (D.same (.mk k1 z1 t1 l1) (.mk k2 z2 t2 l2) && D.sames ds ds') from rfl, e, if_neg (by simp)]
        exact ⟨rfl, by simp -implicitDefEqProofs only [upd_go, kept_go, ↓reduceIte, Nat.reduceEqDiff, Nat.reduceLT, reduceCtorEq]⟩
      | true =>
        rw [e] at e3
        simp -implicitDefEqProofs only [go_sem, ↓reduceIte, Nat.reduceLT, Nat.reduceEqDiff, Nat.reduceAdd, Nat.reduceMul, Nat.reduceLeDiff, Nat.reduceSub, r137_7_go, r137_7U, r137_9_go, r137_9U, k2', k8, k9, ca, cb, e3, m17, w1]
        generalize hg2 : upd _ 17 _ = g2
        obtain ⟨e', f', g', σ', a1, a2, a3, a4⟩ := ih ds' (k + 1) fuel f1 g2 σ2 (by simp at hk; omega) (by simpa using hl) (by simp at hf; omega) hN'.2 hM'.2 hw2 (h1r.ext hw (x1.trans x2)) (h2r.ext hw (x1.trans x2)) {
          f1 := by rw [← hff]; simp -implicitDefEqProofs only [upd_go, kept_go, ↓reduceIte, Nat.reduceEqDiff, Nat.reduceLT, reduceCtorEq, h.f1]
          f2 := k2'
          g15 := by rw [← hg2, ← hgg]; simp -implicitDefEqProofs only [upd_go, kept_go, ↓reduceIte, Nat.reduceEqDiff, Nat.reduceLT, reduceCtorEq, h.g15, List.mem_cons, true_or, or_true]
          g16 := by rw [← hg2, ← hgg]; simp -implicitDefEqProofs only [upd_go, kept_go, ↓reduceIte, Nat.reduceEqDiff, Nat.reduceLT, reduceCtorEq, h.g16, List.mem_cons, true_or, or_true]
          g17 := by rw [← hg2]; simp -implicitDefEqProofs only [upd_go, kept_go, ↓reduceIte, Nat.reduceEqDiff, Nat.reduceLT, reduceCtorEq] }
        refine ⟨e', f', g', σ', a1, ?_, (x1.trans x2).trans a3, a4⟩
        rw [show D.sames (.mk k1 z1 t1 l1 :: ds) (.mk k2 z2 t2 l2 :: ds') = (D.same (.mk k1 z1 t1 l1) (.mk k2 z2 t2 l2) && D.sames ds ds') from rfl, e]
        exact a2
theorem equalFunc_step (n N : Nat) (hE : ∀ d d' v v' σ, D.deep d ≤ N → d.count < 1000000000 → Wf σ → Laid σ v d → Laid σ v' d' → Gives ((env n).call 111 [v, v'] none σ) σ fun w _ => w = .bool (D.same d d'))
    (p p' : Option Addr) (c c' : Nat) (ds ds' : List D) (σ : FState) (hN : D.deeps ds ≤ N) (hM : D.counts ds < 1000000000) (hw : Wf σ) (h1 : LaidE σ p 0 ds) (h2 : LaidE σ p' 0 ds') :
    Gives ((env (n + 1)).call 137 [.slice p ds.length c, .slice p' ds'.length c', .func (.func 111) #[] #[]] none σ) σ fun w _ => w = .bool (D.sames ds ds') := by
  rw [env_call, enter137 _ _ _ _ (by simp), Sl_start]
  unfold run137
  cases e1 : ((Int.ofNat ds.length) == (Int.ofNat ds'.length)) with
  | false =>
    simp -implicitDefEqProofs only [go_sem, ↓reduceIte, Nat.reduceLT, Nat.reduceEqDiff, Nat.reduceAdd, Nat.reduceMul, Nat.reduceLeDiff, Nat.reduceSub, r137_0_go, r137_0U, r137_1_go, r137_1U, r137_2_go, r137_2U, Option.getD_some, e1]
    refine ⟨_, _, rfl, Ext.refl _, hw, ?_⟩
    have hne : ds.length ≠ ds'.length := fun h => by rw [h] at e1; simp at e1
    cases e : D.sames ds ds' with
    | false => rfl
    | true => exact absurd (sames_length e) hne
  | true =>
    have hl : ds.length = ds'.length := Int.ofNat.inj (eq_of_beq e1)
    simp -implicitDefEqProofs only [go_sem, ↓reduceIte, Nat.reduceLT, Nat.reduceEqDiff, Nat.reduceAdd, Nat.reduceMul, Nat.reduceLeDiff, Nat.reduceSub, r137_0_go, r137_0U, r137_1_go, r137_1U, r137_3_go, r137_3U, Option.getD_some, e1, keepEf]
    generalize hff : upd _ 6 _ = f1
    generalize hgg : upd _ 17 _ = g1
    generalize hb : bigFuel = fuel
    have hlen : ds.length < 1000000000000 := by have := length_counts ds; omega
    have hf : ds.length < fuel := by rw [← hb]; exact hlen
    obtain ⟨e', f', g', σ', a1, a2, a3, a4⟩ := equalFunc_loop n N hE p p' ds.length c c' hlen ds ds' 0 fuel f1 g1 σ (by simp) hl hf hN hM hw h1 h2 {
      f1 := by rw [← hff]; simp -implicitDefEqProofs only [upd_go, kept_go, ↓reduceIte, Nat.reduceEqDiff, Nat.reduceLT, reduceCtorEq, List.getElem?_cons_zero, List.getElem?_cons_succ, Option.getD_some, hl]
      f2 := by rw [← hff]; simp -implicitDefEqProofs only [upd_go, kept_go, ↓reduceIte, Nat.reduceEqDiff, Nat.reduceLT, reduceCtorEq, List.getElem?_cons_zero, List.getElem?_cons_succ, Option.getD_some]
      g15 := by rw [← hgg]; simp -implicitDefEqProofs only [upd_go, kept_go, ↓reduceIte, Nat.reduceEqDiff, Nat.reduceLT, reduceCtorEq]
      g16 := by rw [← hgg]; simp -implicitDefEqProofs only [upd_go, kept_go, ↓reduceIte, Nat.reduceEqDiff, Nat.reduceLT, reduceCtorEq]
      g17 := by rw [← hgg]; simp -implicitDefEqProofs only [upd_go, kept_go, ↓reduceIte, Nat.reduceEqDiff, Nat.reduceLT, reduceCtorEq] <;> rfl }
    rw [a1]
    cases e : D.sames ds ds' with
    | false =>
      rw [e, if_neg (by simp)] at a2
      obtain ⟨rfl, g8⟩ := a2
      simp -implicitDefEqProofs only [go_sem, ↓reduceIte, Nat.reduceLT, Nat.reduceEqDiff, Nat.reduceAdd, Nat.reduceMul, Nat.reduceLeDiff, Nat.reduceSub, g8]
      exact ⟨_, _, rfl, a3, a4, rfl⟩
    | true =>
      rw [e, if_pos rfl] at a2
      subst a2
      simp -implicitDefEqProofs only [go_sem, ↓reduceIte, Nat.reduceLT, Nat.reduceEqDiff, Nat.reduceAdd, Nat.reduceMul, Nat.reduceLeDiff, Nat.reduceSub, r137_10_go, r137_10U]
      exact ⟨_, _, rfl, a3, a4, rfl⟩
theorem beq_int (a b : Int) : (a == b) = decide (a = b) := by
  by_cases h : a = b
  · rw [decide_eq_true h]; simp [h]
  · rw [decide_eq_false h]; simp [h]
/-- plain.Equal. -/
theorem equal_go (n : Nat) : ∀ (N : Nat) (d d' : D) (v v' : Value) (σ : FState), D.deep d ≤ N → d.count < 1000000000 → Wf σ → Laid σ v d → Laid σ v' d' → Gives ((env (n + 2 * N)).call 111 [v, v'] none σ) σ fun w _ => w = .bool (D.same d d')
  | 0, d, _, _, _, _, h, _, _, _, _ => by cases d; rw [D.deep] at h; omega
  | N + 1, .mk k z t ds, .mk k' z' t' ds', v, v', σ, h, hc, hw, ⟨p, c, hv, hE⟩, ⟨p', c', hv', hE'⟩ => by
    subst hv hv'
    rw [D.deep] at h
    rw [D.count] at hc
    have := equal_step (n + 2 * N) k z k' z' t t' (.slice p ds.length c) (.slice p' ds'.length c') (oneCell_slice _ _ _) (oneCell_slice _ _ _) σ (D.sames ds ds') hw fun σ' hx hw' =>
      equalFunc_step (n + 2 * N) N (fun d d' v v' σ a b c e f => equal_go n N d d' v v' σ a b c e f) p p' c c' ds ds' σ' (by omega) (by omega) hw' (hE.ext hw hx) (hE'.ext hw hx)
    rw [show D.same (.mk k z t ds) (.mk k' z' t' ds') = (decide (k = k') && decide (z = z') && (t.toList == t'.toList) && D.sames ds ds') from rfl, ← beq_int, ← beq_int]
    exact this
end Go.Proofs.YtodkeaoikjjneaaGreatDoor
/- caracolekit.EqDatum and EqData: two data, compared. -/
namespace Go.Proofs.YtodkeaoikjjneaaGreatDoor
open Go Go.Eng
attribute [local congr] andThen_congr

theorem eqDatum_step (n : Nat) (k1 n1 k2 n2 : Int) (t1 t2 : ByteArray) (s1 s2 : Value) (σ : FState) (B : Bool) (hw : Wf σ)
    (h : ∀ σ', Ext σ σ' → Wf σ' → Gives ((env n).call 17 [s1, s2] none σ') σ' fun v _ => v = .bool B) :
    Gives ((env (n + 1)).call 20 [.agg #[.int .i64 k1, .int .i64 n1, .string t1, s1], .agg #[.int .i64 k2, .int .i64 n2, .string t2, s2]] none σ) σ
      fun v _ => v = .bool ((k1 == k2) && (n1 == n2) && (t1.toList == t2.toList) && B) := by
  rw [env_call, enter20 _ _ _ _ (by simp)]
  generalize ha : (⟨padTo undef 4 _, fun _ => undef, 4, 31, []⟩ : FAct) = a
  have hok : a.ok := by rw [← ha]; exact ok_start _ _ _ _
  have hnt : a.nt = 31 := by rw [← ha]
  have hds : a.defers = [] := by rw [← ha]
  have hg0 : a.get 0 = .agg #[.int .i64 k1, .int .i64 n1, .string t1, s1] := by rw [← ha, get_start]; rfl
  have hg1 : a.get 1 = .agg #[.int .i64 k2, .int .i64 n2, .string t2, s2] := by rw [← ha, get_start]; rfl
  clear ha
  unfold run20
  have fin : ∀ (o1 o2 : FObj) (f1 f2 : Option Nat), Ext σ ((σ.push o1 f1).push o2 f2) ∧ Wf ((σ.push o1 f1).push o2 f2) := fun o1 o2 f1 f2 => ⟨((Ext.refl σ).push _ _).push _ _, (hw.push _ _).push _ _⟩
  cases e1 : (k1 == k2) with
  | false =>
    simp only [seqR_go, fops_c, fops_nil, fdraw_f, fdraw_a, fdraw_nil', drawR_go, retR_go, skipR_go, exitR_go, after_val, after_skip, after_enter, after_ret, andThen_normal, andThen_ret, andThen_exit, get_put, ok_put, nt_put, defers_put, put_none, Nat.reduceLT, ↓reduceIte, Nat.reduceEqDiff, Nat.reduceAdd, nth_zero, nth_succ, drawF_val, drawF_push, stepOp_eq, drawA_normal, view_next, push_next, push_clock, put_next, put_clock, box_go, newCells_go, notTuple_agg, notTuple_int, notTuple_string, notTuple_bool, notTuple_slice, notTuple_pointer, valCells_agg, valCells_int, valCells_string, valCells_bool, valCells_slice, valCells_pointer, ffield_eq, fload1, floadN, cells_push, cells_put, cells?_cells, gd_true, gd_false, fpick_eq, eql_int, neq_int, lss_int, leq_int, gtr_int, geq_int, add_int, sub_int, mul_int, eql_str, neq_str, not_go, flenL_eq, flenS_eq, Nat.add_zero, Nat.zero_add, Nat.add_left_cancel_iff, Nat.add_eq_left, Nat.left_eq_add, List.getElem?_cons_zero, List.getElem?_cons_succ, beq_self_eq_true, Bool.not_true, Bool.not_false, cond_true, cond_false, leaveR_ret, leaveR_normal, leave_tmp, leave_tmp2, leave_tmp3, condR_val, Bool.false_eq_true, blockR_k, blockK_normal, blockK_ret, blockK_exit, loopR_go, nl_put, findex_eq, forget_ok, forget_nt, forget_nl, forget_defers, List.not_mem_nil, or_false, or_true, List.cons_append, List.nil_append, add_u64, mul_u64, xor_u64, shr32_u64, shr27_u64, shr9_u64, nilCheck_ptr, fstore1, push_get, put_get, List.set_cons_zero, List.set_cons_succ, List.length_cons, List.length_nil, oneCell_int, oneCell_string, oneCell_bool, oneCell_slice, oneCell_pointer, r20_0_go, r20_0U, r20_1_go, r20_1U, hok, hnt, hg0, hg1, hds, e1]
    exact ⟨_, _, rfl, (fin ..).1, (fin ..).2, rfl⟩
  | true => cases e2 : (n1 == n2) with
    | false =>
      simp only [seqR_go, fops_c, fops_nil, fdraw_f, fdraw_a, fdraw_nil', drawR_go, retR_go, skipR_go, exitR_go, after_val, after_skip, after_enter, after_ret, andThen_normal, andThen_ret, andThen_exit, get_put, ok_put, nt_put, defers_put, put_none, Nat.reduceLT, ↓reduceIte, Nat.reduceEqDiff, Nat.reduceAdd, nth_zero, nth_succ, drawF_val, drawF_push, stepOp_eq, drawA_normal, view_next, push_next, push_clock, put_next, put_clock, box_go, newCells_go, notTuple_agg, notTuple_int, notTuple_string, notTuple_bool, notTuple_slice, notTuple_pointer, valCells_agg, valCells_int, valCells_string, valCells_bool, valCells_slice, valCells_pointer, ffield_eq, fload1, floadN, cells_push, cells_put, cells?_cells, gd_true, gd_false, fpick_eq, eql_int, neq_int, lss_int, leq_int, gtr_int, geq_int, add_int, sub_int, mul_int, eql_str, neq_str, not_go, flenL_eq, flenS_eq, Nat.add_zero, Nat.zero_add, Nat.add_left_cancel_iff, Nat.add_eq_left, Nat.left_eq_add, List.getElem?_cons_zero, List.getElem?_cons_succ, beq_self_eq_true, Bool.not_true, Bool.not_false, cond_true, cond_false, leaveR_ret, leaveR_normal, leave_tmp, leave_tmp2, leave_tmp3, condR_val, Bool.false_eq_true, blockR_k, blockK_normal, blockK_ret, blockK_exit, loopR_go, nl_put, findex_eq, forget_ok, forget_nt, forget_nl, forget_defers, List.not_mem_nil, or_false, or_true, List.cons_append, List.nil_append, add_u64, mul_u64, xor_u64, shr32_u64, shr27_u64, shr9_u64, nilCheck_ptr, fstore1, push_get, put_get, List.set_cons_zero, List.set_cons_succ, List.length_cons, List.length_nil, oneCell_int, oneCell_string, oneCell_bool, oneCell_slice, oneCell_pointer, r20_0_go, r20_0U, r20_1_go, r20_1U, hok, hnt, hg0, hg1, hds, e1, e2]
      exact ⟨_, _, rfl, (fin ..).1, (fin ..).2, rfl⟩
    | true => cases e3 : (t1.toList == t2.toList) with
      | false =>
        simp only [seqR_go, fops_c, fops_nil, fdraw_f, fdraw_a, fdraw_nil', drawR_go, retR_go, skipR_go, exitR_go, after_val, after_skip, after_enter, after_ret, andThen_normal, andThen_ret, andThen_exit, get_put, ok_put, nt_put, defers_put, put_none, Nat.reduceLT, ↓reduceIte, Nat.reduceEqDiff, Nat.reduceAdd, nth_zero, nth_succ, drawF_val, drawF_push, stepOp_eq, drawA_normal, view_next, push_next, push_clock, put_next, put_clock, box_go, newCells_go, notTuple_agg, notTuple_int, notTuple_string, notTuple_bool, notTuple_slice, notTuple_pointer, valCells_agg, valCells_int, valCells_string, valCells_bool, valCells_slice, valCells_pointer, ffield_eq, fload1, floadN, cells_push, cells_put, cells?_cells, gd_true, gd_false, fpick_eq, eql_int, neq_int, lss_int, leq_int, gtr_int, geq_int, add_int, sub_int, mul_int, eql_str, neq_str, not_go, flenL_eq, flenS_eq, Nat.add_zero, Nat.zero_add, Nat.add_left_cancel_iff, Nat.add_eq_left, Nat.left_eq_add, List.getElem?_cons_zero, List.getElem?_cons_succ, beq_self_eq_true, Bool.not_true, Bool.not_false, cond_true, cond_false, leaveR_ret, leaveR_normal, leave_tmp, leave_tmp2, leave_tmp3, condR_val, Bool.false_eq_true, blockR_k, blockK_normal, blockK_ret, blockK_exit, loopR_go, nl_put, findex_eq, forget_ok, forget_nt, forget_nl, forget_defers, List.not_mem_nil, or_false, or_true, List.cons_append, List.nil_append, add_u64, mul_u64, xor_u64, shr32_u64, shr27_u64, shr9_u64, nilCheck_ptr, fstore1, push_get, put_get, List.set_cons_zero, List.set_cons_succ, List.length_cons, List.length_nil, oneCell_int, oneCell_string, oneCell_bool, oneCell_slice, oneCell_pointer, r20_0_go, r20_0U, r20_1_go, r20_1U, hok, hnt, hg0, hg1, hds, e1, e2, e3]
        exact ⟨_, _, rfl, (fin ..).1, (fin ..).2, rfl⟩
      | true =>
        simp only [seqR_go, fops_c, fops_nil, fdraw_f, fdraw_a, fdraw_nil', drawR_go, retR_go, skipR_go, exitR_go, after_val, after_skip, after_enter, after_ret, andThen_normal, andThen_ret, andThen_exit, get_put, ok_put, nt_put, defers_put, put_none, Nat.reduceLT, ↓reduceIte, Nat.reduceEqDiff, Nat.reduceAdd, nth_zero, nth_succ, drawF_val, drawF_push, stepOp_eq, drawA_normal, view_next, push_next, push_clock, put_next, put_clock, box_go, newCells_go, notTuple_agg, notTuple_int, notTuple_string, notTuple_bool, notTuple_slice, notTuple_pointer, valCells_agg, valCells_int, valCells_string, valCells_bool, valCells_slice, valCells_pointer, ffield_eq, fload1, floadN, cells_push, cells_put, cells?_cells, gd_true, gd_false, fpick_eq, eql_int, neq_int, lss_int, leq_int, gtr_int, geq_int, add_int, sub_int, mul_int, eql_str, neq_str, not_go, flenL_eq, flenS_eq, Nat.add_zero, Nat.zero_add, Nat.add_left_cancel_iff, Nat.add_eq_left, Nat.left_eq_add, List.getElem?_cons_zero, List.getElem?_cons_succ, beq_self_eq_true, Bool.not_true, Bool.not_false, cond_true, cond_false, leaveR_ret, leaveR_normal, leave_tmp, leave_tmp2, leave_tmp3, condR_val, Bool.false_eq_true, blockR_k, blockK_normal, blockK_ret, blockK_exit, loopR_go, nl_put, findex_eq, forget_ok, forget_nt, forget_nl, forget_defers, List.not_mem_nil, or_false, or_true, List.cons_append, List.nil_append, add_u64, mul_u64, xor_u64, shr32_u64, shr27_u64, shr9_u64, nilCheck_ptr, fstore1, push_get, put_get, List.set_cons_zero, List.set_cons_succ, List.length_cons, List.length_nil, oneCell_int, oneCell_string, oneCell_bool, oneCell_slice, oneCell_pointer, r20_0_go, r20_0U, r20_1_go, r20_1U, hok, hnt, hg0, hg1, hds, e1, e2, e3]
        generalize hr : (env n).call 17 _ none _ = r
        obtain ⟨v, σ', rfl, hx, hw', rfl⟩ := use_call (X := (env n).call 17 [s1, s2] none) hr h (fin ..).1 (fin ..).2
        simp only [seqR_go, fops_c, fops_nil, fdraw_f, fdraw_a, fdraw_nil', drawR_go, retR_go, skipR_go, exitR_go, after_val, after_skip, after_enter, after_ret, andThen_normal, andThen_ret, andThen_exit, get_put, ok_put, nt_put, defers_put, put_none, Nat.reduceLT, ↓reduceIte, Nat.reduceEqDiff, Nat.reduceAdd, nth_zero, nth_succ, drawF_val, drawF_push, stepOp_eq, drawA_normal, view_next, push_next, push_clock, put_next, put_clock, box_go, newCells_go, notTuple_agg, notTuple_int, notTuple_string, notTuple_bool, notTuple_slice, notTuple_pointer, valCells_agg, valCells_int, valCells_string, valCells_bool, valCells_slice, valCells_pointer, ffield_eq, fload1, floadN, cells_push, cells_put, cells?_cells, gd_true, gd_false, fpick_eq, eql_int, neq_int, lss_int, leq_int, gtr_int, geq_int, add_int, sub_int, mul_int, eql_str, neq_str, not_go, flenL_eq, flenS_eq, Nat.add_zero, Nat.zero_add, Nat.add_left_cancel_iff, Nat.add_eq_left, Nat.left_eq_add, List.getElem?_cons_zero, List.getElem?_cons_succ, beq_self_eq_true, Bool.not_true, Bool.not_false, cond_true, cond_false, leaveR_ret, leaveR_normal, leave_tmp, leave_tmp2, leave_tmp3, condR_val, Bool.false_eq_true, blockR_k, blockK_normal, blockK_ret, blockK_exit, loopR_go, nl_put, findex_eq, forget_ok, forget_nt, forget_nl, forget_defers, List.not_mem_nil, or_false, or_true, List.cons_append, List.nil_append, add_u64, mul_u64, xor_u64, shr32_u64, shr27_u64, shr9_u64, nilCheck_ptr, fstore1, push_get, put_get, List.set_cons_zero, List.set_cons_succ, List.length_cons, List.length_nil, oneCell_int, oneCell_string, oneCell_bool, oneCell_slice, oneCell_pointer, hok, hnt, hg0, hg1, hds]
        exact ⟨_, _, rfl, (fin ..).1.trans hx, hw', rfl⟩
end Go.Proofs.YtodkeaoikjjneaaGreatDoor
/- caracolekit.EqData: two lists of data, compared. -/
namespace Go.Proofs.YtodkeaoikjjneaaGreatDoor
open Go Go.Eng
attribute [local congr] andThen_congr
theorem keepC17 : keepOf nls 17 = [] := by kernel_rfl

/-- At the head of the loop of EqData. -/
structure HeadEqC (a : FAct) (s s' : Value) (k : Nat) : Prop where
  ok : a.ok
  nt : a.nt = 27
  nl : a.nl = 6
  ds : a.defers = []
  g0 : a.get 0 = s
  g1 : a.get 1 = s'
  g5 : a.get 5 = .int .i64 (.ofNat k)

theorem eqDataC_loop (n N : Nat) (hE : ∀ d d' v v' σ, D.deep d ≤ N → d.count < 1000000000 → Wf σ → Laid σ v d → Laid σ v' d' → Gives ((env n).call 20 [v, v'] none σ) σ fun w _ => w = .bool (D.same d d'))
    (p p' : Option Addr) (len c c' : Nat) (hlen : len < 1000000000000) : ∀ (ds ds' : List D) (k fuel : Nat) (a : FAct) (σ : FState), k + ds.length = len → ds.length = ds'.length → ds.length < fuel → D.deeps ds ≤ N → D.counts ds < 1000000000 →
      Wf σ → LaidE σ p k ds → LaidE σ p' k ds' → HeadEqC a (.slice p len c) (.slice p' len c') k →
      ∃ e a' σ', floop [] (l17_0 (env n) none 17) fuel a none σ = .done e a' none σ' ∧ (if D.sames ds ds' = true then e = .exit 0 else e = .ret ∧ a'.get 4 = .bool false) ∧
        a'.ok ∧ a'.nt = 27 ∧ a'.defers = [] ∧ Ext σ σ' ∧ Wf σ' := by
  intro ds
  induction ds with
  | nil =>
    intro ds' k fuel a σ hk hl hf _ _ hw h1 h2 ⟨hok, hnt, hnl, hds, hg0, hg1, hg5⟩
    obtain ⟨fuel, rfl⟩ : ∃ f, fuel = f + 1 := ⟨fuel - 1, by simp at hf; omega⟩
    have hd : decide ((Int.ofNat k) < (Int.ofNat len)) = false := by simp at hk ⊢; omega
    have fg := forget_get [] a hok
    cases ds' with
    | cons _ _ => simp at hl
    | nil =>
      rw [floop_step]
      unfold l17_0
      simp only [seqR_go, fops_c, fops_nil, fdraw_f, fdraw_a, fdraw_nil', drawR_go, retR_go, skipR_go, exitR_go, after_val, after_skip, after_enter, after_ret, andThen_normal, andThen_ret, andThen_exit, get_put, ok_put, nt_put, defers_put, put_none, Nat.reduceLT, ↓reduceIte, Nat.reduceEqDiff, Nat.reduceAdd, nth_zero, nth_succ, drawF_val, drawF_push, stepOp_eq, drawA_normal, view_next, push_next, push_clock, put_next, put_clock, box_go, newCells_go, notTuple_agg, notTuple_int, notTuple_string, notTuple_bool, notTuple_slice, notTuple_pointer, valCells_agg, valCells_int, valCells_string, valCells_bool, valCells_slice, valCells_pointer, ffield_eq, fload1, floadN, cells_push, cells_put, cells?_cells, gd_true, gd_false, fpick_eq, eql_int, neq_int, lss_int, leq_int, gtr_int, geq_int, add_int, sub_int, mul_int, eql_str, neq_str, not_go, flenL_eq, flenS_eq, Nat.add_zero, Nat.zero_add, Nat.add_left_cancel_iff, Nat.add_eq_left, Nat.left_eq_add, List.getElem?_cons_zero, List.getElem?_cons_succ, beq_self_eq_true, Bool.not_true, Bool.not_false, cond_true, cond_false, leaveR_ret, leaveR_normal, leave_tmp, leave_tmp2, leave_tmp3, condR_val, Bool.false_eq_true, blockR_k, blockK_normal, blockK_ret, blockK_exit, loopR_go, nl_put, findex_eq, forget_ok, forget_nt, forget_nl, forget_defers, List.not_mem_nil, or_false, or_true, List.cons_append, List.nil_append, add_u64, mul_u64, xor_u64, shr32_u64, shr27_u64, shr9_u64, nilCheck_ptr, fstore1, push_get, put_get, List.set_cons_zero, List.set_cons_succ, List.length_cons, List.length_nil, oneCell_int, oneCell_string, oneCell_bool, oneCell_slice, oneCell_pointer, r17_4_go, r17_4U, hok, hnt, hnl, hds, hg0, hg1, hg5, fg, hd]
      exact ⟨_, _, _, rfl, rfl, by simp only [seqR_go, fops_c, fops_nil, fdraw_f, fdraw_a, fdraw_nil', drawR_go, retR_go, skipR_go, exitR_go, after_val, after_skip, after_enter, after_ret, andThen_normal, andThen_ret, andThen_exit, get_put, ok_put, nt_put, defers_put, put_none, Nat.reduceLT, ↓reduceIte, Nat.reduceEqDiff, Nat.reduceAdd, nth_zero, nth_succ, drawF_val, drawF_push, stepOp_eq, drawA_normal, view_next, push_next, push_clock, put_next, put_clock, box_go, newCells_go, notTuple_agg, notTuple_int, notTuple_string, notTuple_bool, notTuple_slice, notTuple_pointer, valCells_agg, valCells_int, valCells_string, valCells_bool, valCells_slice, valCells_pointer, ffield_eq, fload1, floadN, cells_push, cells_put, cells?_cells, gd_true, gd_false, fpick_eq, eql_int, neq_int, lss_int, leq_int, gtr_int, geq_int, add_int, sub_int, mul_int, eql_str, neq_str, not_go, flenL_eq, flenS_eq, Nat.add_zero, Nat.zero_add, Nat.add_left_cancel_iff, Nat.add_eq_left, Nat.left_eq_add, List.getElem?_cons_zero, List.getElem?_cons_succ, beq_self_eq_true, Bool.not_true, Bool.not_false, cond_true, cond_false, leaveR_ret, leaveR_normal, leave_tmp, leave_tmp2, leave_tmp3, condR_val, Bool.false_eq_true, blockR_k, blockK_normal, blockK_ret, blockK_exit, loopR_go, nl_put, findex_eq, forget_ok, forget_nt, forget_nl, forget_defers, List.not_mem_nil, or_false, or_true, List.cons_append, List.nil_append, add_u64, mul_u64, xor_u64, shr32_u64, shr27_u64, shr9_u64, nilCheck_ptr, fstore1, push_get, put_get, List.set_cons_zero, List.set_cons_succ, List.length_cons, List.length_nil, oneCell_int, oneCell_string, oneCell_bool, oneCell_slice, oneCell_pointer, hok], by simp only [seqR_go, fops_c, fops_nil, fdraw_f, fdraw_a, fdraw_nil', drawR_go, retR_go, skipR_go, exitR_go, after_val, after_skip, after_enter, after_ret, andThen_normal, andThen_ret, andThen_exit, get_put, ok_put, nt_put, defers_put, put_none, Nat.reduceLT, ↓reduceIte, Nat.reduceEqDiff, Nat.reduceAdd, nth_zero, nth_succ, drawF_val, drawF_push, stepOp_eq, drawA_normal, view_next, push_next, push_clock, put_next, put_clock, box_go, newCells_go, notTuple_agg, notTuple_int, notTuple_string, notTuple_bool, notTuple_slice, notTuple_pointer, valCells_agg, valCells_int, valCells_string, valCells_bool, valCells_slice, valCells_pointer, ffield_eq, fload1, floadN, cells_push, cells_put, cells?_cells, gd_true, gd_false, fpick_eq, eql_int, neq_int, lss_int, leq_int, gtr_int, geq_int, add_int, sub_int, mul_int, eql_str, neq_str, not_go, flenL_eq, flenS_eq, Nat.add_zero, Nat.zero_add, Nat.add_left_cancel_iff, Nat.add_eq_left, Nat.left_eq_add, List.getElem?_cons_zero, List.getElem?_cons_succ, beq_self_eq_true, Bool.not_true, Bool.not_false, cond_true, cond_false, leaveR_ret, leaveR_normal, leave_tmp, leave_tmp2, leave_tmp3, condR_val, Bool.false_eq_true, blockR_k, blockK_normal, blockK_ret, blockK_exit, loopR_go, nl_put, findex_eq, forget_ok, forget_nt, forget_nl, forget_defers, List.not_mem_nil, or_false, or_true, List.cons_append, List.nil_append, add_u64, mul_u64, xor_u64, shr32_u64, shr27_u64, shr9_u64, nilCheck_ptr, fstore1, push_get, put_get, List.set_cons_zero, List.set_cons_succ, List.length_cons, List.length_nil, oneCell_int, oneCell_string, oneCell_bool, oneCell_slice, oneCell_pointer, hnt], by simp only [seqR_go, fops_c, fops_nil, fdraw_f, fdraw_a, fdraw_nil', drawR_go, retR_go, skipR_go, exitR_go, after_val, after_skip, after_enter, after_ret, andThen_normal, andThen_ret, andThen_exit, get_put, ok_put, nt_put, defers_put, put_none, Nat.reduceLT, ↓reduceIte, Nat.reduceEqDiff, Nat.reduceAdd, nth_zero, nth_succ, drawF_val, drawF_push, stepOp_eq, drawA_normal, view_next, push_next, push_clock, put_next, put_clock, box_go, newCells_go, notTuple_agg, notTuple_int, notTuple_string, notTuple_bool, notTuple_slice, notTuple_pointer, valCells_agg, valCells_int, valCells_string, valCells_bool, valCells_slice, valCells_pointer, ffield_eq, fload1, floadN, cells_push, cells_put, cells?_cells, gd_true, gd_false, fpick_eq, eql_int, neq_int, lss_int, leq_int, gtr_int, geq_int, add_int, sub_int, mul_int, eql_str, neq_str, not_go, flenL_eq, flenS_eq, Nat.add_zero, Nat.zero_add, Nat.add_left_cancel_iff, Nat.add_eq_left, Nat.left_eq_add, List.getElem?_cons_zero, List.getElem?_cons_succ, beq_self_eq_true, Bool.not_true, Bool.not_false, cond_true, cond_false, leaveR_ret, leaveR_normal, leave_tmp, leave_tmp2, leave_tmp3, condR_val, Bool.false_eq_true, blockR_k, blockK_normal, blockK_ret, blockK_exit, loopR_go, nl_put, findex_eq, forget_ok, forget_nt, forget_nl, forget_defers, List.not_mem_nil, or_false, or_true, List.cons_append, List.nil_append, add_u64, mul_u64, xor_u64, shr32_u64, shr27_u64, shr9_u64, nilCheck_ptr, fstore1, push_get, put_get, List.set_cons_zero, List.set_cons_succ, List.length_cons, List.length_nil, oneCell_int, oneCell_string, oneCell_bool, oneCell_slice, oneCell_pointer, hds], Ext.refl _, hw⟩
  | cons d ds ih =>
    intro ds' k fuel a σ hk hl hf hN hM hw h1 h2 ⟨hok, hnt, hnl, hds, hg0, hg1, hg5⟩
    obtain ⟨fuel, rfl⟩ : ∃ f, fuel = f + 1 := ⟨fuel - 1, by simp at hf; omega⟩
    have hd : decide ((Int.ofNat k) < (Int.ofNat len)) = true := by simp at hk ⊢; omega
    have hlt : k < len := by simp at hk; omega
    have fg := forget_get [] a hok
    cases ds' with
    | nil => simp at hl
    | cons d' ds' =>
      obtain ⟨⟨b, off, cs, rfl, hc, hcl, hL⟩, h1r⟩ := h1
      obtain ⟨⟨b', off', cs', rfl, hc', hcl', hL'⟩, h2r⟩ := h2
      have hN' : D.deep d ≤ N ∧ D.deeps ds ≤ N := by simp [D.deeps] at hN; omega
      have hM' : d.count < 1000000000 ∧ D.counts ds < 1000000000 := by rw [D.counts] at hM; omega
      have hv := view_wf hw (Nat.le_refl _)
      rw [floop_step]
      unfold l17_0
      simp only [seqR_go, fops_c, fops_nil, fdraw_f, fdraw_a, fdraw_nil', drawR_go, retR_go, skipR_go, exitR_go, after_val, after_skip, after_enter, after_ret, andThen_normal, andThen_ret, andThen_exit, get_put, ok_put, nt_put, defers_put, put_none, Nat.reduceLT, ↓reduceIte, Nat.reduceEqDiff, Nat.reduceAdd, nth_zero, nth_succ, drawF_val, drawF_push, stepOp_eq, drawA_normal, view_next, push_next, push_clock, put_next, put_clock, box_go, newCells_go, notTuple_agg, notTuple_int, notTuple_string, notTuple_bool, notTuple_slice, notTuple_pointer, valCells_agg, valCells_int, valCells_string, valCells_bool, valCells_slice, valCells_pointer, ffield_eq, fload1, floadN, cells_push, cells_put, cells?_cells, gd_true, gd_false, fpick_eq, eql_int, neq_int, lss_int, leq_int, gtr_int, geq_int, add_int, sub_int, mul_int, eql_str, neq_str, not_go, flenL_eq, flenS_eq, Nat.add_zero, Nat.zero_add, Nat.add_left_cancel_iff, Nat.add_eq_left, Nat.left_eq_add, List.getElem?_cons_zero, List.getElem?_cons_succ, beq_self_eq_true, Bool.not_true, Bool.not_false, cond_true, cond_false, leaveR_ret, leaveR_normal, leave_tmp, leave_tmp2, leave_tmp3, condR_val, Bool.false_eq_true, blockR_k, blockK_normal, blockK_ret, blockK_exit, loopR_go, nl_put, findex_eq, forget_ok, forget_nt, forget_nl, forget_defers, List.not_mem_nil, or_false, or_true, List.cons_append, List.nil_append, add_u64, mul_u64, xor_u64, shr32_u64, shr27_u64, shr9_u64, nilCheck_ptr, fstore1, push_get, put_get, List.set_cons_zero, List.set_cons_succ, List.length_cons, List.length_nil, oneCell_int, oneCell_string, oneCell_bool, oneCell_slice, oneCell_pointer, r17_4_go, r17_4U, r17_6_go, r17_6U, hok, hnt, hnl, hds, hg0, hg1, hg5, fg, hd, hlt, hv, hc, hc', hcl, hcl']
      generalize hr : (env n).call 20 _ none _ = r
      obtain ⟨v, σ', rfl, hx, hw', rfl⟩ := hr ▸ hE d d' _ _ σ hN'.1 hM'.1 hw hL hL'
      have hwr : wrapI (Int.ofNat k + 1) = Int.ofNat (k + 1) := by
        rw [wrapI_of (by rw [Int.ofNat_eq_natCast]; omega)]; rfl
      cases e : D.same d d' with
      | false =>
        simp only [seqR_go, fops_c, fops_nil, fdraw_f, fdraw_a, fdraw_nil', drawR_go, retR_go, skipR_go, exitR_go, after_val, after_skip, after_enter, after_ret, andThen_normal, andThen_ret, andThen_exit, get_put, ok_put, nt_put, defers_put, put_none, Nat.reduceLT, ↓reduceIte, Nat.reduceEqDiff, Nat.reduceAdd, nth_zero, nth_succ, drawF_val, drawF_push, stepOp_eq, drawA_normal, view_next, push_next, push_clock, put_next, put_clock, box_go, newCells_go, notTuple_agg, notTuple_int, notTuple_string, notTuple_bool, notTuple_slice, notTuple_pointer, valCells_agg, valCells_int, valCells_string, valCells_bool, valCells_slice, valCells_pointer, ffield_eq, fload1, floadN, cells_push, cells_put, cells?_cells, gd_true, gd_false, fpick_eq, eql_int, neq_int, lss_int, leq_int, gtr_int, geq_int, add_int, sub_int, mul_int, eql_str, neq_str, not_go, flenL_eq, flenS_eq, Nat.add_zero, Nat.zero_add, Nat.add_left_cancel_iff, Nat.add_eq_left, Nat.left_eq_add, List.getElem?_cons_zero, List.getElem?_cons_succ, beq_self_eq_true, Bool.not_true, Bool.not_false, cond_true, cond_false, leaveR_ret, leaveR_normal, leave_tmp, leave_tmp2, leave_tmp3, condR_val, Bool.false_eq_true, blockR_k, blockK_normal, blockK_ret, blockK_exit, loopR_go, nl_put, findex_eq, forget_ok, forget_nt, forget_nl, forget_defers, List.not_mem_nil, or_false, or_true, List.cons_append, List.nil_append, add_u64, mul_u64, xor_u64, shr32_u64, shr27_u64, shr9_u64, nilCheck_ptr, fstore1, push_get, put_get, List.set_cons_zero, List.set_cons_succ, List.length_cons, List.length_nil, oneCell_int, oneCell_string, oneCell_bool, oneCell_slice, oneCell_pointer, r17_7_go, r17_7U, hok, hnt, hnl, hds, hg0, hg1, hg5, fg, hwr]
        refine ⟨_, _, _, rfl, ?_, by simp only [seqR_go, fops_c, fops_nil, fdraw_f, fdraw_a, fdraw_nil', drawR_go, retR_go, skipR_go, exitR_go, after_val, after_skip, after_enter, after_ret, andThen_normal, andThen_ret, andThen_exit, get_put, ok_put, nt_put, defers_put, put_none, Nat.reduceLT, ↓reduceIte, Nat.reduceEqDiff, Nat.reduceAdd, nth_zero, nth_succ, drawF_val, drawF_push, stepOp_eq, drawA_normal, view_next, push_next, push_clock, put_next, put_clock, box_go, newCells_go, notTuple_agg, notTuple_int, notTuple_string, notTuple_bool, notTuple_slice, notTuple_pointer, valCells_agg, valCells_int, valCells_string, valCells_bool, valCells_slice, valCells_pointer, ffield_eq, fload1, floadN, cells_push, cells_put, cells?_cells, gd_true, gd_false, fpick_eq, eql_int, neq_int, lss_int, leq_int, gtr_int, geq_int, add_int, sub_int, mul_int, eql_str, neq_str, not_go, flenL_eq, flenS_eq, Nat.add_zero, Nat.zero_add, Nat.add_left_cancel_iff, Nat.add_eq_left, Nat.left_eq_add, List.getElem?_cons_zero, List.getElem?_cons_succ, beq_self_eq_true, Bool.not_true, Bool.not_false, cond_true, cond_false, leaveR_ret, leaveR_normal, leave_tmp, leave_tmp2, leave_tmp3, condR_val, Bool.false_eq_true, blockR_k, blockK_normal, blockK_ret, blockK_exit, loopR_go, nl_put, findex_eq, forget_ok, forget_nt, forget_nl, forget_defers, List.not_mem_nil, or_false, or_true, List.cons_append, List.nil_append, add_u64, mul_u64, xor_u64, shr32_u64, shr27_u64, shr9_u64, nilCheck_ptr, fstore1, push_get, put_get, List.set_cons_zero, List.set_cons_succ, List.length_cons, List.length_nil, oneCell_int, oneCell_string, oneCell_bool, oneCell_slice, oneCell_pointer, hok], by simp only [seqR_go, fops_c, fops_nil, fdraw_f, fdraw_a, fdraw_nil', drawR_go, retR_go, skipR_go, exitR_go, after_val, after_skip, after_enter, after_ret, andThen_normal, andThen_ret, andThen_exit, get_put, ok_put, nt_put, defers_put, put_none, Nat.reduceLT, ↓reduceIte, Nat.reduceEqDiff, Nat.reduceAdd, nth_zero, nth_succ, drawF_val, drawF_push, stepOp_eq, drawA_normal, view_next, push_next, push_clock, put_next, put_clock, box_go, newCells_go, notTuple_agg, notTuple_int, notTuple_string, notTuple_bool, notTuple_slice, notTuple_pointer, valCells_agg, valCells_int, valCells_string, valCells_bool, valCells_slice, valCells_pointer, ffield_eq, fload1, floadN, cells_push, cells_put, cells?_cells, gd_true, gd_false, fpick_eq, eql_int, neq_int, lss_int, leq_int, gtr_int, geq_int, add_int, sub_int, mul_int, eql_str, neq_str, not_go, flenL_eq, flenS_eq, Nat.add_zero, Nat.zero_add, Nat.add_left_cancel_iff, Nat.add_eq_left, Nat.left_eq_add, List.getElem?_cons_zero, List.getElem?_cons_succ, beq_self_eq_true, Bool.not_true, Bool.not_false, cond_true, cond_false, leaveR_ret, leaveR_normal, leave_tmp, leave_tmp2, leave_tmp3, condR_val, Bool.false_eq_true, blockR_k, blockK_normal, blockK_ret, blockK_exit, loopR_go, nl_put, findex_eq, forget_ok, forget_nt, forget_nl, forget_defers, List.not_mem_nil, or_false, or_true, List.cons_append, List.nil_append, add_u64, mul_u64, xor_u64, shr32_u64, shr27_u64, shr9_u64, nilCheck_ptr, fstore1, push_get, put_get, List.set_cons_zero, List.set_cons_succ, List.length_cons, List.length_nil, oneCell_int, oneCell_string, oneCell_bool, oneCell_slice, oneCell_pointer, hnt], by simp only [seqR_go, fops_c, fops_nil, fdraw_f, fdraw_a, fdraw_nil', drawR_go, retR_go, skipR_go, exitR_go, after_val, after_skip, after_enter, after_ret, andThen_normal, andThen_ret, andThen_exit, get_put, ok_put, nt_put, defers_put, put_none, Nat.reduceLT, ↓reduceIte, Nat.reduceEqDiff, Nat.reduceAdd, nth_zero, nth_succ, drawF_val, drawF_push, stepOp_eq, drawA_normal, view_next, push_next, push_clock, put_next, put_clock, box_go, newCells_go, notTuple_agg, notTuple_int, notTuple_string, notTuple_bool, notTuple_slice, notTuple_pointer, valCells_agg, valCells_int, valCells_string, valCells_bool, valCells_slice, valCells_pointer, ffield_eq, fload1, floadN, cells_push, cells_put, cells?_cells, gd_true, gd_false, fpick_eq, eql_int, neq_int, lss_int, leq_int, gtr_int, geq_int, add_int, sub_int, mul_int, eql_str, neq_str, not_go, flenL_eq, flenS_eq, Nat.add_zero, Nat.zero_add, Nat.add_left_cancel_iff, Nat.add_eq_left, Nat.left_eq_add, List.getElem?_cons_zero, List.getElem?_cons_succ, beq_self_eq_true, Bool.not_true, Bool.not_false, cond_true, cond_false, leaveR_ret, leaveR_normal, leave_tmp, leave_tmp2, leave_tmp3, condR_val, Bool.false_eq_true, blockR_k, blockK_normal, blockK_ret, blockK_exit, loopR_go, nl_put, findex_eq, forget_ok, forget_nt, forget_nl, forget_defers, List.not_mem_nil, or_false, or_true, List.cons_append, List.nil_append, add_u64, mul_u64, xor_u64, shr32_u64, shr27_u64, shr9_u64, nilCheck_ptr, fstore1, push_get, put_get, List.set_cons_zero, List.set_cons_succ, List.length_cons, List.length_nil, oneCell_int, oneCell_string, oneCell_bool, oneCell_slice, oneCell_pointer, hds], hx, hw'⟩
        rw [show D.sames (d :: ds) (d' :: ds') = (D.same d d' && D.sames ds ds') from rfl, e, if_neg (by simp)]
        exact ⟨rfl, by simp only [seqR_go, fops_c, fops_nil, fdraw_f, fdraw_a, fdraw_nil', drawR_go, retR_go, skipR_go, exitR_go, after_val, after_skip, after_enter, after_ret, andThen_normal, andThen_ret, andThen_exit, get_put, ok_put, nt_put, defers_put, put_none, Nat.reduceLT, ↓reduceIte, Nat.reduceEqDiff, Nat.reduceAdd, nth_zero, nth_succ, drawF_val, drawF_push, stepOp_eq, drawA_normal, view_next, push_next, push_clock, put_next, put_clock, box_go, newCells_go, notTuple_agg, notTuple_int, notTuple_string, notTuple_bool, notTuple_slice, notTuple_pointer, valCells_agg, valCells_int, valCells_string, valCells_bool, valCells_slice, valCells_pointer, ffield_eq, fload1, floadN, cells_push, cells_put, cells?_cells, gd_true, gd_false, fpick_eq, eql_int, neq_int, lss_int, leq_int, gtr_int, geq_int, add_int, sub_int, mul_int, eql_str, neq_str, not_go, flenL_eq, flenS_eq, Nat.add_zero, Nat.zero_add, Nat.add_left_cancel_iff, Nat.add_eq_left, Nat.left_eq_add, List.getElem?_cons_zero, List.getElem?_cons_succ, beq_self_eq_true, Bool.not_true, Bool.not_false, cond_true, cond_false, leaveR_ret, leaveR_normal, leave_tmp, leave_tmp2, leave_tmp3, condR_val, Bool.false_eq_true, blockR_k, blockK_normal, blockK_ret, blockK_exit, loopR_go, nl_put, findex_eq, forget_ok, forget_nt, forget_nl, forget_defers, List.not_mem_nil, or_false, or_true, List.cons_append, List.nil_append, add_u64, mul_u64, xor_u64, shr32_u64, shr27_u64, shr9_u64, nilCheck_ptr, fstore1, push_get, put_get, List.set_cons_zero, List.set_cons_succ, List.length_cons, List.length_nil, oneCell_int, oneCell_string, oneCell_bool, oneCell_slice, oneCell_pointer, hok, hnt]⟩
      | true =>
        simp only [seqR_go, fops_c, fops_nil, fdraw_f, fdraw_a, fdraw_nil', drawR_go, retR_go, skipR_go, exitR_go, after_val, after_skip, after_enter, after_ret, andThen_normal, andThen_ret, andThen_exit, get_put, ok_put, nt_put, defers_put, put_none, Nat.reduceLT, ↓reduceIte, Nat.reduceEqDiff, Nat.reduceAdd, nth_zero, nth_succ, drawF_val, drawF_push, stepOp_eq, drawA_normal, view_next, push_next, push_clock, put_next, put_clock, box_go, newCells_go, notTuple_agg, notTuple_int, notTuple_string, notTuple_bool, notTuple_slice, notTuple_pointer, valCells_agg, valCells_int, valCells_string, valCells_bool, valCells_slice, valCells_pointer, ffield_eq, fload1, floadN, cells_push, cells_put, cells?_cells, gd_true, gd_false, fpick_eq, eql_int, neq_int, lss_int, leq_int, gtr_int, geq_int, add_int, sub_int, mul_int, eql_str, neq_str, not_go, flenL_eq, flenS_eq, Nat.add_zero, Nat.zero_add, Nat.add_left_cancel_iff, Nat.add_eq_left, Nat.left_eq_add, List.getElem?_cons_zero, List.getElem?_cons_succ, beq_self_eq_true, Bool.not_true, Bool.not_false, cond_true, cond_false, leaveR_ret, leaveR_normal, leave_tmp, leave_tmp2, leave_tmp3, condR_val, Bool.false_eq_true, blockR_k, blockK_normal, blockK_ret, blockK_exit, loopR_go, nl_put, findex_eq, forget_ok, forget_nt, forget_nl, forget_defers, List.not_mem_nil, or_false, or_true, List.cons_append, List.nil_append, add_u64, mul_u64, xor_u64, shr32_u64, shr27_u64, shr9_u64, nilCheck_ptr, fstore1, push_get, put_get, List.set_cons_zero, List.set_cons_succ, List.length_cons, List.length_nil, oneCell_int, oneCell_string, oneCell_bool, oneCell_slice, oneCell_pointer, r17_5_go, r17_5U, hok, hnt, hnl, hds, hg0, hg1, hg5, fg, hwr]
        generalize ha' : FAct.put _ (some 5) _ = a'
        have hH : HeadEqC a' (.slice (some ⟨b, off, none⟩) len c) (.slice (some ⟨b', off', none⟩) len c') (k + 1) := by
          rw [← ha']
          constructor <;> simp only [seqR_go, fops_c, fops_nil, fdraw_f, fdraw_a, fdraw_nil', drawR_go, retR_go, skipR_go, exitR_go, after_val, after_skip, after_enter, after_ret, andThen_normal, andThen_ret, andThen_exit, get_put, ok_put, nt_put, defers_put, put_none, Nat.reduceLT, ↓reduceIte, Nat.reduceEqDiff, Nat.reduceAdd, nth_zero, nth_succ, drawF_val, drawF_push, stepOp_eq, drawA_normal, view_next, push_next, push_clock, put_next, put_clock, box_go, newCells_go, notTuple_agg, notTuple_int, notTuple_string, notTuple_bool, notTuple_slice, notTuple_pointer, valCells_agg, valCells_int, valCells_string, valCells_bool, valCells_slice, valCells_pointer, ffield_eq, fload1, floadN, cells_push, cells_put, cells?_cells, gd_true, gd_false, fpick_eq, eql_int, neq_int, lss_int, leq_int, gtr_int, geq_int, add_int, sub_int, mul_int, eql_str, neq_str, not_go, flenL_eq, flenS_eq, Nat.add_zero, Nat.zero_add, Nat.add_left_cancel_iff, Nat.add_eq_left, Nat.left_eq_add, List.getElem?_cons_zero, List.getElem?_cons_succ, beq_self_eq_true, Bool.not_true, Bool.not_false, cond_true, cond_false, leaveR_ret, leaveR_normal, leave_tmp, leave_tmp2, leave_tmp3, condR_val, Bool.false_eq_true, blockR_k, blockK_normal, blockK_ret, blockK_exit, loopR_go, nl_put, findex_eq, forget_ok, forget_nt, forget_nl, forget_defers, List.not_mem_nil, or_false, or_true, List.cons_append, List.nil_append, add_u64, mul_u64, xor_u64, shr32_u64, shr27_u64, shr9_u64, nilCheck_ptr, fstore1, push_get, put_get, List.set_cons_zero, List.set_cons_succ, List.length_cons, List.length_nil, oneCell_int, oneCell_string, oneCell_bool, oneCell_slice, oneCell_pointer, hok, hnt, hnl, hds, hg0, hg1, hg5, fg, true_or]
        obtain ⟨e1, a1, σ1, g1, g2, g3, g4, g5, g6, g7⟩ := ih ds' (k + 1) fuel a' σ' (by simp at hk; omega) (by simpa using hl) (by simp at hf; omega) hN'.2 hM'.2 hw' (h1r.ext hw hx) (h2r.ext hw hx) hH
        refine ⟨e1, a1, σ1, g1, ?_, g3, g4, g5, hx.trans g6, g7⟩
        rw [show D.sames (d :: ds) (d' :: ds') = (D.same d d' && D.sames ds ds') from rfl, e]
        exact g2

theorem eqDataC_step (n N : Nat) (hE : ∀ d d' v v' σ, D.deep d ≤ N → d.count < 1000000000 → Wf σ → Laid σ v d → Laid σ v' d' → Gives ((env n).call 20 [v, v'] none σ) σ fun w _ => w = .bool (D.same d d'))
    (p p' : Option Addr) (c c' : Nat) (ds ds' : List D) (σ : FState) (hN : D.deeps ds ≤ N) (hM : D.counts ds < 1000000000) (hw : Wf σ) (h1 : LaidE σ p 0 ds) (h2 : LaidE σ p' 0 ds') :
    Gives ((env (n + 1)).call 17 [.slice p ds.length c, .slice p' ds'.length c'] none σ) σ fun w _ => w = .bool (D.sames ds ds') := by
  rw [env_call, enter17 _ _ _ _ (by simp)]
  generalize ha : (⟨padTo undef 6 _, fun _ => undef, 6, 27, []⟩ : FAct) = a
  have hok : a.ok := by rw [← ha]; exact ok_start _ _ _ _
  have hnt : a.nt = 27 := by rw [← ha]
  have hnl : a.nl = 6 := by rw [← ha]
  have hds : a.defers = [] := by rw [← ha]
  have hg0 : a.get 0 = .slice p ds.length c := by rw [← ha, get_start]; rfl
  have hg1 : a.get 1 = .slice p' ds'.length c' := by rw [← ha, get_start]; rfl
  clear ha
  unfold run17
  cases e1 : ((Int.ofNat ds.length) == (Int.ofNat ds'.length)) with
  | false =>
    simp only [seqR_go, fops_c, fops_nil, fdraw_f, fdraw_a, fdraw_nil', drawR_go, retR_go, skipR_go, exitR_go, after_val, after_skip, after_enter, after_ret, andThen_normal, andThen_ret, andThen_exit, get_put, ok_put, nt_put, defers_put, put_none, Nat.reduceLT, ↓reduceIte, Nat.reduceEqDiff, Nat.reduceAdd, nth_zero, nth_succ, drawF_val, drawF_push, stepOp_eq, drawA_normal, view_next, push_next, push_clock, put_next, put_clock, box_go, newCells_go, notTuple_agg, notTuple_int, notTuple_string, notTuple_bool, notTuple_slice, notTuple_pointer, valCells_agg, valCells_int, valCells_string, valCells_bool, valCells_slice, valCells_pointer, ffield_eq, fload1, floadN, cells_push, cells_put, cells?_cells, gd_true, gd_false, fpick_eq, eql_int, neq_int, lss_int, leq_int, gtr_int, geq_int, add_int, sub_int, mul_int, eql_str, neq_str, not_go, flenL_eq, flenS_eq, Nat.add_zero, Nat.zero_add, Nat.add_left_cancel_iff, Nat.add_eq_left, Nat.left_eq_add, List.getElem?_cons_zero, List.getElem?_cons_succ, beq_self_eq_true, Bool.not_true, Bool.not_false, cond_true, cond_false, leaveR_ret, leaveR_normal, leave_tmp, leave_tmp2, leave_tmp3, condR_val, Bool.false_eq_true, blockR_k, blockK_normal, blockK_ret, blockK_exit, loopR_go, nl_put, findex_eq, forget_ok, forget_nt, forget_nl, forget_defers, List.not_mem_nil, or_false, or_true, List.cons_append, List.nil_append, add_u64, mul_u64, xor_u64, shr32_u64, shr27_u64, shr9_u64, nilCheck_ptr, fstore1, push_get, put_get, List.set_cons_zero, List.set_cons_succ, List.length_cons, List.length_nil, oneCell_int, oneCell_string, oneCell_bool, oneCell_slice, oneCell_pointer, r17_0_go, r17_0U, r17_1_go, r17_1U, r17_2_go, r17_2U, hok, hnt, hnl, hds, hg0, hg1, e1]
    refine ⟨_, _, rfl, Ext.refl _, hw, ?_⟩
    have hne : ds.length ≠ ds'.length := fun h => by rw [h] at e1; simp at e1
    cases e : D.sames ds ds' with
    | false => simp only [seqR_go, fops_c, fops_nil, fdraw_f, fdraw_a, fdraw_nil', drawR_go, retR_go, skipR_go, exitR_go, after_val, after_skip, after_enter, after_ret, andThen_normal, andThen_ret, andThen_exit, get_put, ok_put, nt_put, defers_put, put_none, Nat.reduceLT, ↓reduceIte, Nat.reduceEqDiff, Nat.reduceAdd, nth_zero, nth_succ, drawF_val, drawF_push, stepOp_eq, drawA_normal, view_next, push_next, push_clock, put_next, put_clock, box_go, newCells_go, notTuple_agg, notTuple_int, notTuple_string, notTuple_bool, notTuple_slice, notTuple_pointer, valCells_agg, valCells_int, valCells_string, valCells_bool, valCells_slice, valCells_pointer, ffield_eq, fload1, floadN, cells_push, cells_put, cells?_cells, gd_true, gd_false, fpick_eq, eql_int, neq_int, lss_int, leq_int, gtr_int, geq_int, add_int, sub_int, mul_int, eql_str, neq_str, not_go, flenL_eq, flenS_eq, Nat.add_zero, Nat.zero_add, Nat.add_left_cancel_iff, Nat.add_eq_left, Nat.left_eq_add, List.getElem?_cons_zero, List.getElem?_cons_succ, beq_self_eq_true, Bool.not_true, Bool.not_false, cond_true, cond_false, leaveR_ret, leaveR_normal, leave_tmp, leave_tmp2, leave_tmp3, condR_val, Bool.false_eq_true, blockR_k, blockK_normal, blockK_ret, blockK_exit, loopR_go, nl_put, findex_eq, forget_ok, forget_nt, forget_nl, forget_defers, List.not_mem_nil, or_false, or_true, List.cons_append, List.nil_append, add_u64, mul_u64, xor_u64, shr32_u64, shr27_u64, shr9_u64, nilCheck_ptr, fstore1, push_get, put_get, List.set_cons_zero, List.set_cons_succ, List.length_cons, List.length_nil, oneCell_int, oneCell_string, oneCell_bool, oneCell_slice, oneCell_pointer, hok, hnt]
    | true => exact absurd (sames_length e) hne
  | true =>
    have hl : ds.length = ds'.length := Int.ofNat.inj (eq_of_beq e1)
    simp only [seqR_go, fops_c, fops_nil, fdraw_f, fdraw_a, fdraw_nil', drawR_go, retR_go, skipR_go, exitR_go, after_val, after_skip, after_enter, after_ret, andThen_normal, andThen_ret, andThen_exit, get_put, ok_put, nt_put, defers_put, put_none, Nat.reduceLT, ↓reduceIte, Nat.reduceEqDiff, Nat.reduceAdd, nth_zero, nth_succ, drawF_val, drawF_push, stepOp_eq, drawA_normal, view_next, push_next, push_clock, put_next, put_clock, box_go, newCells_go, notTuple_agg, notTuple_int, notTuple_string, notTuple_bool, notTuple_slice, notTuple_pointer, valCells_agg, valCells_int, valCells_string, valCells_bool, valCells_slice, valCells_pointer, ffield_eq, fload1, floadN, cells_push, cells_put, cells?_cells, gd_true, gd_false, fpick_eq, eql_int, neq_int, lss_int, leq_int, gtr_int, geq_int, add_int, sub_int, mul_int, eql_str, neq_str, not_go, flenL_eq, flenS_eq, Nat.add_zero, Nat.zero_add, Nat.add_left_cancel_iff, Nat.add_eq_left, Nat.left_eq_add, List.getElem?_cons_zero, List.getElem?_cons_succ, beq_self_eq_true, Bool.not_true, Bool.not_false, cond_true, cond_false, leaveR_ret, leaveR_normal, leave_tmp, leave_tmp2, leave_tmp3, condR_val, Bool.false_eq_true, blockR_k, blockK_normal, blockK_ret, blockK_exit, loopR_go, nl_put, findex_eq, forget_ok, forget_nt, forget_nl, forget_defers, List.not_mem_nil, or_false, or_true, List.cons_append, List.nil_append, add_u64, mul_u64, xor_u64, shr32_u64, shr27_u64, shr9_u64, nilCheck_ptr, fstore1, push_get, put_get, List.set_cons_zero, List.set_cons_succ, List.length_cons, List.length_nil, oneCell_int, oneCell_string, oneCell_bool, oneCell_slice, oneCell_pointer, r17_0_go, r17_0U, r17_1_go, r17_1U, r17_2_go, r17_2U, r17_3_go, r17_3U, hok, hnt, hnl, hds, hg0, hg1, e1, keepC17]
    generalize ha' : FAct.put _ (some 5) _ = a'
    have hH : HeadEqC a' (.slice p ds.length c) (.slice p' ds.length c') 0 := by
      rw [← ha']
      constructor <;> simp only [seqR_go, fops_c, fops_nil, fdraw_f, fdraw_a, fdraw_nil', drawR_go, retR_go, skipR_go, exitR_go, after_val, after_skip, after_enter, after_ret, andThen_normal, andThen_ret, andThen_exit, get_put, ok_put, nt_put, defers_put, put_none, Nat.reduceLT, ↓reduceIte, Nat.reduceEqDiff, Nat.reduceAdd, nth_zero, nth_succ, drawF_val, drawF_push, stepOp_eq, drawA_normal, view_next, push_next, push_clock, put_next, put_clock, box_go, newCells_go, notTuple_agg, notTuple_int, notTuple_string, notTuple_bool, notTuple_slice, notTuple_pointer, valCells_agg, valCells_int, valCells_string, valCells_bool, valCells_slice, valCells_pointer, ffield_eq, fload1, floadN, cells_push, cells_put, cells?_cells, gd_true, gd_false, fpick_eq, eql_int, neq_int, lss_int, leq_int, gtr_int, geq_int, add_int, sub_int, mul_int, eql_str, neq_str, not_go, flenL_eq, flenS_eq, Nat.add_zero, Nat.zero_add, Nat.add_left_cancel_iff, Nat.add_eq_left, Nat.left_eq_add, List.getElem?_cons_zero, List.getElem?_cons_succ, beq_self_eq_true, Bool.not_true, Bool.not_false, cond_true, cond_false, leaveR_ret, leaveR_normal, leave_tmp, leave_tmp2, leave_tmp3, condR_val, Bool.false_eq_true, blockR_k, blockK_normal, blockK_ret, blockK_exit, loopR_go, nl_put, findex_eq, forget_ok, forget_nt, forget_nl, forget_defers, List.not_mem_nil, or_false, or_true, List.cons_append, List.nil_append, add_u64, mul_u64, xor_u64, shr32_u64, shr27_u64, shr9_u64, nilCheck_ptr, fstore1, push_get, put_get, List.set_cons_zero, List.set_cons_succ, List.length_cons, List.length_nil, oneCell_int, oneCell_string, oneCell_bool, oneCell_slice, oneCell_pointer, hok, hnt, hnl, hds, hg0, hg1, hl] <;> rfl
    generalize hb : bigFuel = fuel
    have hlen : ds.length < 1000000000000 := by have := length_counts ds; omega
    have hf : ds.length < fuel := by rw [← hb]; exact hlen
    obtain ⟨e1, a1, σ1, g1, g2, g3, g4, g5, g6, g7⟩ := eqDataC_loop n N hE p p' ds.length c c' hlen ds ds' 0 fuel a' σ (by simp) hl hf hN hM hw h1 h2 hH
    rw [g1]
    cases e : D.sames ds ds' with
    | false =>
      rw [e, if_neg (by simp)] at g2
      obtain ⟨rfl, g8⟩ := g2
      simp only [seqR_go, fops_c, fops_nil, fdraw_f, fdraw_a, fdraw_nil', drawR_go, retR_go, skipR_go, exitR_go, after_val, after_skip, after_enter, after_ret, andThen_normal, andThen_ret, andThen_exit, get_put, ok_put, nt_put, defers_put, put_none, Nat.reduceLT, ↓reduceIte, Nat.reduceEqDiff, Nat.reduceAdd, nth_zero, nth_succ, drawF_val, drawF_push, stepOp_eq, drawA_normal, view_next, push_next, push_clock, put_next, put_clock, box_go, newCells_go, notTuple_agg, notTuple_int, notTuple_string, notTuple_bool, notTuple_slice, notTuple_pointer, valCells_agg, valCells_int, valCells_string, valCells_bool, valCells_slice, valCells_pointer, ffield_eq, fload1, floadN, cells_push, cells_put, cells?_cells, gd_true, gd_false, fpick_eq, eql_int, neq_int, lss_int, leq_int, gtr_int, geq_int, add_int, sub_int, mul_int, eql_str, neq_str, not_go, flenL_eq, flenS_eq, Nat.add_zero, Nat.zero_add, Nat.add_left_cancel_iff, Nat.add_eq_left, Nat.left_eq_add, List.getElem?_cons_zero, List.getElem?_cons_succ, beq_self_eq_true, Bool.not_true, Bool.not_false, cond_true, cond_false, leaveR_ret, leaveR_normal, leave_tmp, leave_tmp2, leave_tmp3, condR_val, Bool.false_eq_true, blockR_k, blockK_normal, blockK_ret, blockK_exit, loopR_go, nl_put, findex_eq, forget_ok, forget_nt, forget_nl, forget_defers, List.not_mem_nil, or_false, or_true, List.cons_append, List.nil_append, add_u64, mul_u64, xor_u64, shr32_u64, shr27_u64, shr9_u64, nilCheck_ptr, fstore1, push_get, put_get, List.set_cons_zero, List.set_cons_succ, List.length_cons, List.length_nil, oneCell_int, oneCell_string, oneCell_bool, oneCell_slice, oneCell_pointer, g3, g4, g5, g8]
      exact ⟨_, _, rfl, g6, g7, rfl⟩
    | true =>
      rw [e, if_pos rfl] at g2
      subst g2
      simp only [seqR_go, fops_c, fops_nil, fdraw_f, fdraw_a, fdraw_nil', drawR_go, retR_go, skipR_go, exitR_go, after_val, after_skip, after_enter, after_ret, andThen_normal, andThen_ret, andThen_exit, get_put, ok_put, nt_put, defers_put, put_none, Nat.reduceLT, ↓reduceIte, Nat.reduceEqDiff, Nat.reduceAdd, nth_zero, nth_succ, drawF_val, drawF_push, stepOp_eq, drawA_normal, view_next, push_next, push_clock, put_next, put_clock, box_go, newCells_go, notTuple_agg, notTuple_int, notTuple_string, notTuple_bool, notTuple_slice, notTuple_pointer, valCells_agg, valCells_int, valCells_string, valCells_bool, valCells_slice, valCells_pointer, ffield_eq, fload1, floadN, cells_push, cells_put, cells?_cells, gd_true, gd_false, fpick_eq, eql_int, neq_int, lss_int, leq_int, gtr_int, geq_int, add_int, sub_int, mul_int, eql_str, neq_str, not_go, flenL_eq, flenS_eq, Nat.add_zero, Nat.zero_add, Nat.add_left_cancel_iff, Nat.add_eq_left, Nat.left_eq_add, List.getElem?_cons_zero, List.getElem?_cons_succ, beq_self_eq_true, Bool.not_true, Bool.not_false, cond_true, cond_false, leaveR_ret, leaveR_normal, leave_tmp, leave_tmp2, leave_tmp3, condR_val, Bool.false_eq_true, blockR_k, blockK_normal, blockK_ret, blockK_exit, loopR_go, nl_put, findex_eq, forget_ok, forget_nt, forget_nl, forget_defers, List.not_mem_nil, or_false, or_true, List.cons_append, List.nil_append, add_u64, mul_u64, xor_u64, shr32_u64, shr27_u64, shr9_u64, nilCheck_ptr, fstore1, push_get, put_get, List.set_cons_zero, List.set_cons_succ, List.length_cons, List.length_nil, oneCell_int, oneCell_string, oneCell_bool, oneCell_slice, oneCell_pointer, r17_8_go, r17_8U, g3, g4, g5]
      exact ⟨_, _, rfl, g6, g7, rfl⟩
/-- caracolekit.EqDatum. -/
theorem eqDatum_go (n : Nat) : ∀ (N : Nat) (d d' : D) (v v' : Value) (σ : FState), D.deep d ≤ N → d.count < 1000000000 → Wf σ → Laid σ v d → Laid σ v' d' → Gives ((env (n + 2 * N)).call 20 [v, v'] none σ) σ fun w _ => w = .bool (D.same d d')
  | 0, d, _, _, _, _, h, _, _, _, _ => by cases d; rw [D.deep] at h; omega
  | N + 1, .mk k z t ds, .mk k' z' t' ds', v, v', σ, h, hc, hw, ⟨p, c, hv, hE⟩, ⟨p', c', hv', hE'⟩ => by
    subst hv hv'
    rw [D.deep] at h
    rw [D.count] at hc
    have := eqDatum_step (n + 2 * N + 1) k z k' z' t t' (.slice p ds.length c) (.slice p' ds'.length c') σ (D.sames ds ds') hw fun σ' hx hw' =>
      eqDataC_step (n + 2 * N) N (fun d d' v v' σ a b c e f => eqDatum_go n N d d' v v' σ a b c e f) p p' c c' ds ds' σ' (by omega) (by omega) hw' (hE.ext hw hx) (hE'.ext hw hx)
    rw [show D.same (.mk k z t ds) (.mk k' z' t' ds') = (decide (k = k') && decide (z = z') && (t.toList == t'.toList) && D.sames ds ds') from rfl, ← beq_int, ← beq_int]
    exact this
end Go.Proofs.YtodkeaoikjjneaaGreatDoor
/- A slice that grows from nothing. Nothing of a program. -/
namespace Go.Eng
open Go
/-- A slice without room behind it, or none. -/
def Vecs (T : TypeId) (Q : Nat → Prop) (σ : FState) (s : Value) (vs : List Value) : Prop := (s = .slice none 0 0 ∧ vs = []) ∨ ∃ b, Ful T σ b s vs ∧ Q b
section
variable {T : TypeId} {Q Q' : Nat → Prop} {σ σ' : FState} {s : Value} {vs : List Value}
theorem Vecs.one (h : Vecs T Q σ s vs) : oneCell s = true ∧ notTuple s = true ∧ valCells s = [s] := by
  rcases h with ⟨rfl, _⟩ | ⟨b, h, _⟩
  · exact ⟨oneCell_slice _ _ _, notTuple_slice _ _ _, rfl⟩
  · exact h.one
theorem Vecs.keep (h : Vecs T Q σ s vs) (hk : ∀ b, Q b → b < σ.next → σ'.heap.get b = σ.heap.get b ∧ Q' b) (hw : Wf σ) : Vecs T Q' σ' s vs := by
  rcases h with h | ⟨b, h, hq⟩
  · exact .inl h
  · exact .inr ⟨b, h.keep (hk b hq (h.lt hw)).1, (hk b hq (h.lt hw)).2⟩
theorem Vecs.append (h : Vecs T Q σ s vs) (hw : Wf σ) (bx cx : Nat) (v : Value) (bytes : Nat) (hx : σ.cells bx = some [v]) (ho : oneCell v = true) (hby : bytes < 1000) (hlen : vs.length + 1 < 100000) :
    ∃ b' s' τ, fappend T 1 bytes s (.slice (some ⟨bx, 0, none⟩) 1 cx) σ = .val s' τ ∧ Ful T τ b' s' (vs ++ [v]) ∧ (Q b' ∨ b' = σ.next) ∧ Chg Q σ τ ∧ Wf τ := by
  rcases h with ⟨rfl, rfl⟩ | ⟨b, h, hq⟩
  · refine ⟨σ.next, .slice (some ⟨σ.next, 0, none⟩) 1 1, σ.push (.cells [v] T) (some 1), ?_, ⟨some 1, σ.clock, rfl, by rw [push_get, if_pos rfl]; rfl, .inr rfl⟩, .inr rfl, (Chg.refl _ _).push _ _, hw.push _ _⟩
    have hn := fnew_some bx 1 cx [v] [] hx rfl
    unfold fappend
    simp only [hn]
    rw [show [v].all oneCell = true by simp [ho]]
    show fappend2 T 1 bytes 0 0 none 1 [v] σ = _
    unfold fappend2
    rw [show Nat.ble (0 + 1) 0 = false from rfl, show Nat.ble ((0 + 1) * (bytes + 1)) 1000000000 = true by rw [Nat.ble_eq]; omega]
    rfl
  · obtain ⟨b', s', τ, e, F, hb', hC, hw'⟩ := h.append hw (.slice (some ⟨bx, 0, none⟩) 1 cx) [v] bytes (fnew_some bx 1 cx [v] [] hx rfl) (by simp [ho]) hby (by simpa using hlen)
    refine ⟨b', s', τ, e, F, ?_, hC.weaken fun x _ hx => hx ▸ hq, hw'⟩
    rcases hb' with rfl | rfl
    · exact .inl hq
    · exact .inr rfl
end
end Go.Eng
/- slices.Clone at []int. -/
namespace Go.Proofs.YtodkeaoikjjneaaGreatDoor
open Go Go.Eng
attribute [local congr] andThen_congr fops_congr fdraw_congr afterOp_congr drawF_congr
attribute [-go_sem] List.range_succ
theorem PathAt.pathV {σ : FState} {v : Value} {path : List Nat} (h : PathAt σ v path) : PathV (fun _ => True) σ v path := by
  obtain ⟨p, c, rfl, ⟨rfl, rfl, rfl⟩ | ⟨b, more, rfl, hc⟩⟩ := h
  · exact .inl ⟨rfl, rfl⟩
  · exact .inr ⟨b, c, more, rfl, trivial, hc⟩
theorem eql_nilS (x : Nat) (l c : Nat) (σ : FState) : i_eql Tryz.prog 22 (.tmp x) (.const (.slice none 0 0)) (.slice none l c) (.slice none 0 0) σ = .val (.bool true) σ := by kernel_rfl
theorem eql_someS (x : Nat) (a : Addr) (l c : Nat) (σ : FState) : i_eql Tryz.prog 22 (.tmp x) (.const (.slice none 0 0)) (.slice (some a) l c) (.slice none 0 0) σ = .val (.bool false) σ := by kernel_rfl
theorem clone_go (n : Nat) {Q : Nat → Prop} {v : Value} {path : List Nat} (σ : FState) (hw : Wf σ) (h : PathV Q σ v path) (hl : path.length < 99999) :
    Gives ((env (n + 1)).call 112 [v] none σ) σ fun w σ' => PathV (fun b => σ.next ≤ b) σ' w path := by
  rw [env_call, enter112 _ _ _ _ (by simp), Sl_start]
  unfold run112
  have h0 := h
  rcases h with ⟨rfl, rfl⟩ | ⟨b, cx, rest, rfl, hQ, hc⟩
  · simp -implicitDefEqProofs only [go_sem, ↓reduceIte, Nat.reduceLT, Nat.reduceEqDiff, Nat.reduceAdd, Nat.reduceMul, Nat.reduceLeDiff, Nat.reduceSub, r112_0_go, r112_0U, r112_1_go, r112_1U, r112_2_go, r112_2U, Option.getD_some, eql_nilS]
    exact ⟨_, _, rfl, Ext.refl _, hw, .inl ⟨rfl, rfl⟩⟩
  · have F1 : Ful TI (σ.push (.cells [] TI) none) σ.next (.slice (some ⟨σ.next, 0, none⟩) 0 0) [] := Ful.push TI σ []
    have hb := hw.cells hc
    have hw1 := hw.push (.cells [] TI) none
    have a1 : PathV Q (σ.push (.cells [] TI) none) (.slice (some ⟨b, 0, none⟩) path.length cx) path := .inr ⟨b, cx, rest, rfl, hQ, by rw [cells_push, if_neg (by omega)]; exact hc⟩
    obtain ⟨b2, s2, σ2, e2, F2, hb2, ch2, hw2⟩ := F1.append hw1 (.slice (some ⟨b, 0, none⟩) path.length cx) (intsOf path) 8 a1.fnew (intsOf_all _) (by omega) (by simp [intsOf_length]; omega)
    simp -implicitDefEqProofs only [go_sem, ↓reduceIte, Nat.reduceLT, Nat.reduceEqDiff, Nat.reduceAdd, Nat.reduceMul, Nat.reduceLeDiff, Nat.reduceSub, r112_0_go, r112_0U, r112_1_go, r112_1U, r112_3_go, r112_3U, Option.getD_some, eql_someS, e2]
    have n2 := ch2.next
    have k2 := ch2.clock
    rw [push_next] at n2
    rw [push_clock] at k2
    rw [List.nil_append] at F2
    obtain ⟨g1, g2⟩ := F2.cells
    rw [intsOf_length] at g1
    refine ⟨_, _, rfl, ⟨by omega, by omega, fun x hx => ?_⟩, hw2, .inr ⟨b2, _, [], g1, ?_, by rw [List.append_nil]; exact g2⟩⟩
    · rw [ch2.get x (by rw [push_next]; omega) (by omega), push_get, if_neg (by omega)]
    · rcases hb2 with rfl | rfl
      · exact Nat.le_refl _
      · rw [push_next]; omega
end Go.Proofs.YtodkeaoikjjneaaGreatDoor
/- package datum's find: the paths of all pieces that equal a datum. -/
namespace Go.Proofs.YtodkeaoikjjneaaGreatDoor
open Go Go.Eng
attribute [local congr] andThen_congr fops_congr fdraw_congr afterOp_congr drawF_congr
attribute [-go_sem] List.range_succ
/-- The paths of what equals x. -/
def foundIn (x : D) (l : List (List Nat × D)) : List (List Nat) := (l.filter fun y => D.same y.2 x).map (·.1)
theorem foundIn_snoc (x : D) (l : List (List Nat × D)) (y : List Nat × D) : foundIn x (l ++ [y]) = foundIn x l ++ (if D.same y.2 x = true then [y.1] else []) := by
  unfold foundIn
  rw [List.filter_append, List.map_append]
  cases h : D.same y.2 x <;> simp [h]
def Paths' (B : Nat → Prop) (l : Nat) (σ : FState) (fv : Value) (ps : List (List Nat)) : Prop := ∃ us bo, Vecs 22 (fun b => b = bo ∧ B b ∧ l < b) σ fv us ∧ PathsL (fun b => B b ∧ l < b ∧ b ≠ bo) σ us ps
def FindI (l r cm bx : Nat) (R X : Nat → Prop) (xv : List Value) (x : D) (σ0 : FState) (f g : Nat → Value) (done : List (List Nat × D)) (B : Nat → Prop) (σ : FState) : Prop :=
  (∀ b, X b ∨ b = l ∨ b = r ∨ b = cm ∨ b = bx → B b) ∧ (∀ b, B b → b < σ.next ∧ (X b ∨ b = l ∨ b = r ∨ b = cm ∨ b = bx ∨ l < b)) ∧ LoopAt 78 [10, 11] c78_0a c78_0b 8 21 f g l r .ready σ ∧ (∃ ver, σ.heap.get r = some ⟨.defd true, false, none, ver⟩) ∧
    (∃ fv ver, σ.heap.get cm = some ⟨.cells [fv] 44, false, none, ver⟩ ∧ Paths' B l σ fv (foundIn x done)) ∧ σ.cells bx = some xv ∧ LaidR (fun b => R b ∨ X b) σ (.agg xv.toArray) x ∧ ∀ b, X b → σ.heap.get b = σ0.heap.get b
theorem find_body (M n N l r cm bx : Nat) (X R : Nat → Prop) (xv : List Value) (x : D) (σ0 : FState) (f g : Nat → Value) (all : List (List Nat × D)) (hM : M = n + 2 * N) (hx4 : xv.length = 4) (hne : bx < cm ∧ cm < r ∧ r < l) (h3 : f 3 = .pointer (some ⟨bx, 0, none⟩)) (h5 : f 5 = .pointer (some ⟨cm, 0, none⟩)) (hR : ∀ b, R b → b < bx ∧ ¬ X b) (hX : ∀ b, X b → b < bx)
    (hall : ∀ y ∈ all, y.1.length < 80000 ∧ D.deep y.2 ≤ N ∧ y.2.count < 1000000000) (hfew : all.length < 90000) :
    Body (env (M + 3)) l R (.func (.func 135) #[] #[]) (FindI l r cm bx R X xv x σ0 f g) all where
  stays := fun done B σ σ' ⟨h1, h2, h6, ⟨v7, h7⟩, ⟨fv, v8, h8, us, bo, h9, h11⟩, h12, h13, h14⟩ hw hC => by
    have k : ∀ b, B b → b < σ.next → σ'.heap.get b = σ.heap.get b := fun b hb hn => hC.get b hn fun h => h.1 hb
    have kc : ∀ b c, B b → σ.cells b = some c → σ'.cells b = some c := fun b c hb hc => by
      have := k b hb (hw.cells hc)
      rw [cells_get] at hc ⊢
      rw [this]; exact hc
    have hn := hC.next
    have kR : ∀ b c, R b → σ.cells b = some c → σ'.cells b = some c := fun b c hb hc => by
      have := hC.get b (hw.cells hc) fun h => h.2 hb
      rw [cells_get] at hc ⊢
      rw [this]; exact hc
    have own := fun b hb => (h2 b (h1 b hb)).1
    exact ⟨h1, fun b hb => ⟨Nat.lt_of_lt_of_le (h2 b hb).1 hn, (h2 b hb).2⟩, h6.keep (k l (h1 l (by simp)) (own l (by simp))), ⟨v7, (k r (h1 r (by simp)) (own r (by simp))).trans h7⟩, ⟨fv, v8, (k cm (h1 cm (by simp)) (own cm (by simp))).trans h8, us, bo, h9.keep (fun b hb hn => ⟨k b hb.2.1 hn, hb⟩) hw, h11.keep fun b c hb hc => ⟨kc b c hb.1 hc, hb⟩⟩, kc bx _ (h1 bx (by simp)) h12, h13.keep (fun b c hb hc => ⟨by
      rcases hb with hb | hb
      · exact kR b c hb hc
      · exact kc b c (h1 b (by simp [hb])) hc, hb⟩), fun b hb => (k b (h1 b (by simp [hb])) (own b (by simp [hb]))).trans (h14 b hb)⟩
  own := fun done B σ ⟨h1, h2, h6, _⟩ b hb => ⟨(h2 b hb).1, fun h => by
    have := hR b h
    rcases (h2 b hb).2 with h | h | h | h | h | h
    · exact this.2 h
    all_goals omega⟩
  inside := fun done B σ k z t p ln c _ hw => inside_go (M + 2) _ 135 #[] rfl k z t (.slice p ln c) (oneCell_slice _ _ _) σ hw fun σ' _ hw' => ⟨_, σ', alwaysIn (M + 1) _ σ', Ext.refl _, hw', rfl⟩
  go := fun done path d rest B σ pv v hall' hw ⟨h1, h2, h6, ⟨v7, h7⟩, ⟨fv, v8, h8, us, bo, h9, h11⟩, h12, h13, h14⟩ hpath hL => by
    have hmem : (path, d) ∈ all := by rw [hall']; simp
    obtain ⟨hp8, hdp, hct⟩ := hall _ hmem
    have hp8 : path.length < 80000 := hp8
    have hdone : done.length < 90000 := by have := congrArg List.length hall'; simp at this; omega
    have hL0 := hL.laid
    obtain ⟨k, z, t, ps⟩ := d
    obtain ⟨p, c, rfl, hq⟩ := hL
    have own := fun b hb => (h2 b (h1 b hb)).1
    have ol := own l (by simp)
    have or' := own r (by simp)
    have oc := own cm (by simp)
    have ob := own bx (by simp)
    rw [round_go _ _ _ _ _ _ _ _ _ (M + 2) l r _ h6 rfl, c78_0a_go]
    simp -implicitDefEqProofs only [go_sem, ↓reduceIte, Nat.reduceLT, Nat.reduceEqDiff, Nat.reduceAdd, Nat.reduceMul, Nat.reduceLeDiff, Nat.reduceSub, fstoreN, r78_3_go, r78_3U, r78_4_go, r78_4U, List.zip_cons_cons, List.zip_nil_right, putAll_cons, putAll_nil]
    have x1 : Ext σ ((σ.push (.cells [.int .i64 0, .int .i64 0, .string ⟨#[]⟩, .slice none 0 0] TD) none).put σ.next (.cells [.int .i64 k, .int .i64 z, .string t, .slice p ps.length c] TD) none) := ((Ext.refl _).push _ _).put _ _ _ (Nat.le_refl _)
    have hw1 := (hw.push (.cells [.int .i64 0, .int .i64 0, .string ⟨#[]⟩, .slice none 0 0] TD) none).put σ.next (.cells [.int .i64 k, .int .i64 z, .string t, .slice p ps.length c] TD) none (Nat.lt_succ_self _)
    have b1 : ((σ.push (.cells [.int .i64 0, .int .i64 0, .string ⟨#[]⟩, .slice none 0 0] TD) none).put σ.next (.cells [.int .i64 k, .int .i64 z, .string t, .slice p ps.length c] TD) none).cells σ.next = some [.int .i64 k, .int .i64 z, .string t, .slice p ps.length c] := by rw [cells_put, if_pos rfl]; rfl
    have n1 : ((σ.push (.cells [.int .i64 0, .int .i64 0, .string ⟨#[]⟩, .slice none 0 0] TD) none).put σ.next (.cells [.int .i64 k, .int .i64 z, .string t, .slice p ps.length c] TD) none).next = σ.next + 1 := rfl
    generalize FState.put _ _ _ _ = σ1 at x1 hw1 b1 n1 ⊢
    have l1 := h6.keep (x1.get l ol)
    rw [beginRound_go _ _ _ _ _ _ _ _ _ l r _ l1, c78_0b_go]
    have hw2 := hw1.put l (.loop .busy none 78 ((List.range 8).map f) g 8 21 [10, 11] c78_0a c78_0b r) none (by omega)
    have l2 : LoopAt 78 [10, 11] c78_0a c78_0b 8 21 f g l r .busy (σ1.put l (.loop .busy none 78 ((List.range 8).map f) g 8 21 [10, 11] c78_0a c78_0b r) none) := LoopAt.put _ _ _ _ _ _ _ _ _ _ _ _
    have n2 : (σ1.put l (.loop .busy none 78 ((List.range 8).map f) g 8 21 [10, 11] c78_0a c78_0b r) none).next = σ.next + 1 := n1
    have C2 : Chg (· = l) σ (σ1.put l (.loop .busy none 78 ((List.range 8).map f) g 8 21 [10, 11] c78_0a c78_0b r) none) := (x1.chg _).put _ _ _ (.inr rfl)
    have b2 : (σ1.put l (.loop .busy none 78 ((List.range 8).map f) g 8 21 [10, 11] c78_0a c78_0b r) none).cells σ.next = some [.int .i64 k, .int .i64 z, .string t, .slice p ps.length c] := by rw [cells_put, if_neg (by omega)]; exact b1
    generalize FState.put _ l _ _ = σ2 at hw2 l2 b2 C2 n2 ⊢
    have lk : LoopAt 78 [10, 11] c78_0a c78_0b 8 21 f g l r .ready σ := h6
    have hlc : ∀ b cs, σ.cells b = some cs → b ≠ l := fun b cs hc hb => by
      obtain ⟨ver, h6⟩ := lk
      rw [hb, cells_get, h6] at hc
      cases hc
    have k2 : ∀ b cs, σ.cells b = some cs → σ2.cells b = some cs := fun b cs hc => (C2.cells (hw.cells hc) (hlc b cs hc)).trans hc
    have cx2 := k2 _ _ h12
    obtain ⟨_, σ3, e3, x3, hw3, rfl⟩ := equal_go (n + 2) N (.mk k z t ps) x (.agg #[.int .i64 k, .int .i64 z, .string t, .slice p ps.length c]) (.agg xv.toArray) σ2 hdp hct hw2 (LaidR.laid (R := fun _ => True) (LaidR.keep (R := R) (fun b cs _ hc => ⟨k2 b cs hc, trivial⟩) ⟨p, c, rfl, hq⟩)) (LaidR.laid (R := fun _ => True) (h13.keep fun b cs _ hc => ⟨k2 b cs hc, trivial⟩))
    have en : M + 2 = n + 2 + 2 * N := by omega
    rw [← en] at e3
    have ht : xv.take 4 = xv := List.take_of_length_le (by omega)
    have n3 := x3.next
    have l3 := l2.keep (x3.get l (by omega))
    have k3 : ∀ b cs, σ.cells b = some cs → σ3.cells b = some cs := fun b cs hc => (x3.cells (hw2.cells (k2 b cs hc))).trans (k2 b cs hc)
    have g3 : ∀ b, b < σ.next → b ≠ l → σ3.heap.get b = σ.heap.get b := fun b hb hne => (x3.get b (by omega)).trans (C2.get b hb hne)
    cases e : D.same (.mk k z t ps) x with
    | false =>
      rw [e] at e3
      simp -implicitDefEqProofs only [go_sem, ↓reduceIte, Nat.reduceLT, Nat.reduceEqDiff, Nat.reduceAdd, Nat.reduceMul, Nat.reduceLeDiff, Nat.reduceSub, r78_5_go, r78_5U, h3, b2, cx2, hx4, ht, e3, Nat.le_refl]
      rw [endRound_go _ _ _ _ _ _ _ _ _ _ l r _ _ l3]
      have g4 : ∀ (o : FObj) b, b < σ.next → b ≠ l → (σ3.put l o none).heap.get b = σ.heap.get b := fun o b hb hne => by rw [put_get, if_neg hne]; exact g3 b hb hne
      have k4 : ∀ (o : FObj) b cs, σ.cells b = some cs → (σ3.put l o none).cells b = some cs := fun o b cs hc => by rw [cells_put, if_neg (hlc b cs hc)]; exact k3 b cs hc
      refine ⟨B, _, rfl, hw3.put _ _ _ (by omega), ⟨by rw [put_next]; omega, by have := C2.clock; have := x3.clock; rw [put_clock]; omega, fun b hb hB => g4 _ b hb fun h => hB (h ▸ h1 l (by simp))⟩, fun b hb => .inl hb, h1, fun b hb => ⟨by rw [put_next]; have := (h2 b hb).1; omega, (h2 b hb).2⟩, LoopAt.put _ _ _ _ _ _ _ _ _ _ _ _, ⟨v7, (g4 _ r or' (by omega)).trans h7⟩, ⟨fv, v8, (g4 _ cm oc (by omega)).trans h8, us, bo, h9.keep (fun b hb hn => ⟨g4 _ b hn (by omega), hb⟩) hw, ?_⟩, k4 _ _ _ h12, h13.keep (fun b cs hb hc => ⟨k4 _ b cs hc, hb⟩), fun b hb => (g4 _ b (own b (by simp [hb])) (by have := hX b hb; omega)).trans (h14 b hb)⟩
      rw [foundIn_snoc, e, if_neg (by simp), List.append_nil]
      exact h11.keep fun b cs hb hc => ⟨k4 _ b cs hc, hb⟩
    | true =>
      rw [e] at e3
      have hus : us.length ≤ done.length := by
        rw [h11.length]
        unfold foundIn
        rw [List.length_map]
        exact List.length_filter_le _ _
      obtain ⟨w4, σ4, e4, x4, hw4, P4⟩ := clone_go (M + 1) σ3 hw3 (hpath.pathV.keep (Q' := fun _ => True) fun b cs _ hc => ⟨k3 b cs hc, trivial⟩) (by omega)
      have n4 := x4.next
      have c3 : σ3.cells cm = some [fv] := k3 cm _ (cells_of_get h8)
      have vc : (view σ4 σ3.clock).cells cm = some [fv] := view_old hw3 (Nat.le_refl _) (x4.get cm (by omega)) c3
      have g4 : ∀ b, b < σ.next → b ≠ l → σ4.heap.get b = σ.heap.get b := fun b hb hne => (x4.get b (by omega)).trans (g3 b hb hne)
      have k4 : ∀ b cs, σ.cells b = some cs → σ4.cells b = some cs := fun b cs hc => (x4.cells (hw3.cells (k3 b cs hc))).trans (k3 b cs hc)
      have hw5 := hw4.push (.cells [w4] 22) none
      have g5 : ∀ b, b < σ.next → b ≠ l → (σ4.push (.cells [w4] 22) none).heap.get b = σ.heap.get b := fun b hb hne => by rw [push_get, if_neg (by omega)]; exact g4 b hb hne
      have V5 : Vecs 22 (fun b => b = bo ∧ B b ∧ l < b) (σ4.push (.cells [w4] 22) none) fv us := h9.keep (fun b hb hn => ⟨g5 b hn (by omega), hb⟩) hw
      obtain ⟨b6, s6, σ6, e6, F6, hb6, ch6, hw6⟩ := V5.append hw5 σ4.next 1 w4 24 (by rw [cells_push, if_pos rfl]; rfl) P4.one.1 (by omega) (by omega)
      have n6 := ch6.next
      rw [push_next] at n6
      have hbol : ∀ b, b = bo ∧ B b ∧ l < b → b ≠ cm ∧ b ≠ l ∧ b ≠ r ∧ b ≠ bx ∧ ¬ X b := fun b hb => ⟨by omega, by omega, by omega, by omega, fun h => by have := hX b h; omega⟩
      have g6 : ∀ b, b < σ.next → b ≠ l → ¬ (b = bo ∧ B b ∧ l < b) → σ6.heap.get b = σ.heap.get b := fun b hb hne hbo => (ch6.get b (by rw [push_next]; omega) hbo).trans (g5 b hb hne)
      have k6 : ∀ b cs, σ.cells b = some cs → ¬ (b = bo ∧ B b ∧ l < b) → σ6.cells b = some cs := fun b cs hc hbo => by
        have := g6 b (hw.cells hc) (hlc b cs hc) hbo
        rw [cells_get] at hc ⊢
        rw [this]; exact hc
      have gc6 : σ6.heap.get cm = some ⟨.cells [fv] 44, false, none, v8⟩ := (g6 cm oc (by omega) (by omega)).trans h8
      simp -implicitDefEqProofs only [go_sem, ↓reduceIte, Nat.reduceLT, Nat.reduceEqDiff, Nat.reduceAdd, Nat.reduceMul, Nat.reduceLeDiff, Nat.reduceSub, r78_5_go, r78_5U, r78_6_go, r78_6U, h3, h5, b2, cx2, hx4, ht, e3, e4, vc, P4.one.1, P4.one.2.1, P4.one.2.2, e6, gc6, F6.one.1, Nat.le_refl]
      have l6 : LoopAt 78 [10, 11] c78_0a c78_0b 8 21 f g l r .busy σ6 := l3.keep (by rw [ch6.get l (by rw [push_next]; omega) (by omega), push_get, if_neg (by omega), x4.get l (by omega)])
      have l7 : ∀ o : FObj, LoopAt 78 [10, 11] c78_0a c78_0b 8 21 f g l r .busy (σ6.put cm o none) := fun o => l6.keep (by rw [put_get, if_neg (by omega)])
      rw [endRound_go _ _ _ _ _ _ _ _ _ _ l r _ _ (l7 _)]
      have hb6l : l < b6 ∧ b6 < σ6.next ∧ (b6 = bo ∧ B bo ∨ b6 = σ4.next + 1) := ⟨by
        rcases hb6 with h | h
        · exact h.2.2
        · rw [push_next] at h; omega, F6.lt hw6, by
        rcases hb6 with h | h
        · exact .inl ⟨h.1, h.1 ▸ h.2.1⟩
        · exact .inr h⟩
      have g7 : ∀ (o o' : FObj) b, b < σ.next → b ≠ l → b ≠ cm → ¬ (b = bo ∧ B b ∧ l < b) → ((σ6.put cm o none).put l o' none).heap.get b = σ.heap.get b := fun o o' b hb hne hnc hbo => by
        rw [put_get, if_neg hne, put_get, if_neg hnc]; exact g6 b hb hne hbo
      have k7 : ∀ (o o' : FObj) b cs, σ.cells b = some cs → b ≠ cm → ¬ (b = bo ∧ B b ∧ l < b) → ((σ6.put cm o none).put l o' none).cells b = some cs := fun o o' b cs hc hnc hbo => by
        rw [cells_put, if_neg (hlc b cs hc), cells_put, if_neg hnc]; exact k6 b cs hc hbo
      refine ⟨fun b => B b ∨ (σ.next ≤ b ∧ b < σ6.next), _, rfl, (hw6.put _ _ _ (by omega)).put _ _ _ (by rw [put_next]; omega), ⟨by rw [put_next, put_next]; omega, by have := C2.clock; have := x3.clock; have := x4.clock; have := ch6.clock; rw [push_clock] at this; rw [put_clock, put_clock]; omega, fun b hb hB => g7 _ _ b hb (fun h => hB (h ▸ h1 l (by simp))) (fun h => hB (h ▸ h1 cm (by simp))) fun h => hB h.2.1⟩, fun b hb => by
        rcases hb with h | h
        · exact .inl h
        · exact .inr h.1, fun b hb => .inl (h1 b hb), fun b hb => ?_, LoopAt.put _ _ _ _ _ _ _ _ _ _ _ _, ⟨v7, (g7 _ _ r or' (by omega) (by omega) (by omega)).trans h7⟩, ⟨s6, σ6.clock, by rw [put_get, if_neg (by omega), put_get, if_pos rfl], us ++ [w4], b6, .inr ⟨b6, F6.keep (by rw [put_get, if_neg (by omega), put_get, if_neg (by omega)]), rfl, ?_, hb6l.1⟩, ?_⟩, k7 _ _ _ _ h12 (by omega) (by omega), h13.keep (fun b cs hb hc => ⟨k7 _ _ b cs hc (by rcases hb with hb | hb; have := (hR b hb).1; omega; have := hX b hb; omega) (by rcases hb with hb | hb; have := (hR b hb).1; omega; have := hX b hb; omega), hb⟩), fun b hb => (g7 _ _ b (own b (by simp [hb])) (by have := hX b hb; omega) (by have := hX b hb; omega) (by have := hX b hb; omega)).trans (h14 b hb)⟩
      · rw [put_next, put_next]
        rcases hb with h | h
        · exact ⟨by have := (h2 b h).1; omega, (h2 b h).2⟩
        · exact ⟨h.2, .inr (.inr (.inr (.inr (.inr (by omega)))))⟩
      · rcases hb6l.2.2 with h | h
        · exact .inl (h.1 ▸ h.2)
        · exact .inr ⟨by omega, hb6l.2.1⟩
      · rw [foundIn_snoc, e, if_pos rfl]
        refine (h11.keep fun b cs hb hc => ⟨k7 _ _ b cs hc (by omega) (fun h => hb.2.2 h.1), .inl hb.1, hb.2.1, ?e1⟩).append ⟨P4.keep fun b cs hb hc => ⟨?e2, .inr ⟨by omega, ?e3⟩, by omega, ?e4⟩, trivial⟩
        case e1 =>
          have := hw.cells hc
          rcases hb6l.2.2 with h | h
          · rw [h.1]; exact hb.2.2
          · omega
        case e2 =>
          have := hw4.cells hc
          rw [cells_put, if_neg (by omega), cells_put, if_neg (by omega)]
          exact (ch6.cells (by rw [push_next]; omega) (fun h => by have := (h2 b h.2.1).1; omega)).trans (by rw [cells_push, if_neg (by omega)]; exact hc)
        case e3 => have := hw4.cells hc; omega
        case e4 =>
          have := hw4.cells hc
          rcases hb6l.2.2 with h | h
          · have := (h2 b6 (h.1 ▸ h.2)).1; omega
          · omega
end Go.Proofs.YtodkeaoikjjneaaGreatDoor
/- package datum's find, whole. -/
namespace Go.Proofs.YtodkeaoikjjneaaGreatDoor
open Go Go.Eng
attribute [local congr] andThen_congr fops_congr fdraw_congr afterOp_congr drawF_congr
attribute [-go_sem] List.range_succ
theorem find_go (M n N : Nat) (hM : M = n + 2 * N) (d x : D) (lv xv : List Value) (h4 : lv.length = 4) (hx4 : xv.length = 4) (R X : Nat → Prop) (σ : FState) (hw : Wf σ) (hL : LaidR R σ (.agg lv.toArray) d) (hLx : LaidR (fun b => R b ∨ X b) σ (.agg xv.toArray) x) (hR : ∀ b, R b → b < σ.next ∧ ¬ X b) (hX : ∀ b, X b → b < σ.next)
    (hS : Small (d.pieces [])) (hN : (d.pieces []).length < 90000) (hall : ∀ y ∈ d.pieces [], D.deep y.2 ≤ N ∧ y.2.count < 1000000000) :
    Gives ((env (M + 5)).call 78 [.agg lv.toArray, .agg xv.toArray] none σ) σ fun w σ' => ∃ us, Vecs 22 (fun b => σ.next ≤ b) σ' w us ∧ PathsL (fun b => σ.next ≤ b) σ' us (foundIn x (d.pieces [])) := by
  rw [env_call, enter78 _ _ _ _ (by simp), Sl_start]
  unfold run78
  have x1 : Ext σ (((σ.push (.cells lv TD) none).push (.cells xv TD) none).push (.cells [.slice none 0 0] 44) none) := (((Ext.refl _).push _ _).push _ _).push _ _
  have hw1 := ((hw.push (.cells lv TD) none).push (.cells xv TD) none).push (.cells [.slice none 0 0] 44) none
  have g1 : (((σ.push (.cells lv TD) none).push (.cells xv TD) none).push (.cells [.slice none 0 0] 44) none).heap.get (σ.next + 2) = some ⟨.cells [.slice none 0 0] 44, false, none, σ.clock + 2⟩ := by rw [push_get, if_pos (by simp only [push_next])]; rfl
  have c1 : (((σ.push (.cells lv TD) none).push (.cells xv TD) none).push (.cells [.slice none 0 0] 44) none).cells σ.next = some lv := by rw [cells_push, if_neg (by simp only [push_next]; omega), cells_push, if_neg (by rw [push_next]; omega), cells_push, if_pos rfl]; rfl
  have cx1 : (((σ.push (.cells lv TD) none).push (.cells xv TD) none).push (.cells [.slice none 0 0] 44) none).cells (σ.next + 1) = some xv := by rw [cells_push, if_neg (by simp only [push_next]; omega), cells_push, if_pos (by rw [push_next])]; rfl
  have n1 : (((σ.push (.cells lv TD) none).push (.cells xv TD) none).push (.cells [.slice none 0 0] 44) none).next = σ.next + 3 := rfl
  simp -implicitDefEqProofs only [go_sem, ↓reduceIte, Nat.reduceLT, Nat.reduceEqDiff, Nat.reduceAdd, Nat.reduceMul, Nat.reduceLeDiff, Nat.reduceSub, r78_0_go, r78_0U, r78_1_go, r78_1U, Option.getD_some]
  generalize hff : upd _ 5 _ = f1
  have q2 : f1 2 = .pointer (some ⟨σ.next, 0, none⟩) := by rw [← hff]; simp -implicitDefEqProofs only [upd_go, kept_go, ↓reduceIte, Nat.reduceEqDiff, Nat.reduceLT, reduceCtorEq]
  have q3 : f1 3 = .pointer (some ⟨σ.next + 1, 0, none⟩) := by rw [← hff]; simp -implicitDefEqProofs only [upd_go, kept_go, ↓reduceIte, Nat.reduceEqDiff, Nat.reduceLT, reduceCtorEq]
  have q5 : f1 5 = .pointer (some ⟨σ.next + 2, 0, none⟩) := by rw [← hff]; simp -implicitDefEqProofs only [upd_go, kept_go, ↓reduceIte, Nat.reduceEqDiff, Nat.reduceLT, reduceCtorEq]
  clear hff
  generalize FState.push _ _ _ = σ1 at x1 hw1 g1 c1 cx1 n1 ⊢
  obtain ⟨σ2, b1, b2, e2, x2, hw2, hb1, hb2, cb2, cb1⟩ := walkD_go (M + 2) lv h4 σ1 hw1
  have ht : lv.take 4 = lv := List.take_of_length_le (by omega)
  simp -implicitDefEqProofs only [go_sem, ↓reduceIte, Nat.reduceLT, Nat.reduceEqDiff, Nat.reduceAdd, Nat.reduceMul, Nat.reduceLeDiff, Nat.reduceSub, r78_2_go, r78_2U, q2, c1, h4, ht, e2, Nat.le_refl]
  generalize hgg : upd _ 9 _ = gg
  have n2 := x2.next
  have hL2 : LaidR R σ2 (.agg lv.toArray) d := hL.keep fun b cs hb hc => ⟨((x1.trans x2).cells (hw.cells hc)).trans hc, hb⟩
  have hLx2 : LaidR (fun b => R b ∨ X b) σ2 (.agg xv.toArray) x := hLx.keep fun b cs hb hc => ⟨((x1.trans x2).cells (hw.cells hc)).trans hc, hb⟩
  have hcm2 : σ2.heap.get (σ.next + 2) = some ⟨.cells [.slice none 0 0] 44, false, none, σ.clock + 2⟩ := (x2.get _ (by omega)).trans g1
  have hcx2 : σ2.cells (σ.next + 1) = some xv := (x2.cells (by omega)).trans cx1
  have y2 : Ext σ2 ((σ2.push (.defd true) none).push (.loop .ready none 78 ((List.range 8).map f1) gg 8 21 [10, 11] c78_0a c78_0b σ2.next) none) := ((Ext.refl _).push _ _).push _ _
  obtain ⟨σ3, B3, e3, ch3, n3, hB3, hw3, i3⟩ := range_walk (M + 3) 78 [10, 11] c78_0a c78_0b 8 21 f1 gg [] none 9 b1 b2 σ2 (.func (.func 135) #[] #[]) R d lv (FindI (σ2.next + 1) σ2.next (σ.next + 2) (σ.next + 1) R X xv x σ2 f1 gg) (fun b => X b ∨ b = σ2.next + 1 ∨ b = σ2.next ∨ b = σ.next + 2 ∨ b = σ.next + 1)
    (find_body M n N (σ2.next + 1) σ2.next (σ.next + 2) (σ.next + 1) X R xv x σ2 f1 gg _ hM hx4 ⟨by omega, by omega, by omega⟩ q3 q5 (fun b hb => ⟨by have := (hR b hb).1; omega, (hR b hb).2⟩) (fun b hb => by have := hX b hb; omega) (fun y hy => ⟨(hS y hy).1, hall y hy⟩) hN) hS (by omega)
    (fun done B σ' ⟨_, _, h5, h6, _⟩ => ⟨h5, h6⟩)
    ⟨fun b hb => hb, fun b hb => ⟨by
      simp only [push_next]
      rcases hb with h | h | h | h | h
      · have := hX b h; omega
      all_goals omega, by
      rcases hb with h | h | h | h | h
      · exact .inl h
      · exact .inr (.inl h)
      · exact .inr (.inr (.inl h))
      · exact .inr (.inr (.inr (.inl h)))
      · exact .inr (.inr (.inr (.inr (.inl h))))⟩, loop_made .., ⟨_, by rw [push_get, if_neg (by rw [push_next]; omega), push_get, if_pos rfl]⟩, ⟨_, _, (y2.get _ (by omega)).trans hcm2, [], 0, .inl ⟨rfl, rfl⟩, trivial⟩, (y2.cells (by omega)).trans hcx2, hLx2.keep fun b cs hb hc => ⟨(y2.cells (hw2.cells hc)).trans hc, hb⟩, fun b hb => y2.get b (by have := hX b hb; omega)⟩
    (by rw [Sl_get, ← hgg]; simp -implicitDefEqProofs only [upd_go, kept_go, ↓reduceIte, Nat.reduceEqDiff, Nat.reduceLT, reduceCtorEq]) hw2 cb1 (fun h => by have := hw2.cells cb1; rcases h with h | h | h | h | h; have := hX _ h; all_goals omega) hL2 (fun b hb => by have := (hR b hb).1; omega) cb2 (fun h => by have := hw2.cells cb2; rcases h with h | h | h | h | h; have := hX _ h; all_goals omega)
  rw [e3]
  obtain ⟨h1, h2, h6, ⟨v6, h7⟩, ⟨fv, v8, h8, us, bo, h9, h11⟩, h12, h13, h14⟩ := i3
  have hcm := cells_of_get h8
  have hputc : ∀ (o : FObj), (σ3.put (σ2.next + 1) o none).cells (σ.next + 2) = some [fv] := fun o => by rw [cells_put, if_neg (by omega)]; exact hcm
  have hcol : ∀ (o : FObj), (σ3.put (σ2.next + 1) o none).heap.get σ2.next = some ⟨.defd true, false, none, v6⟩ := fun o => by rw [put_get, if_neg (by omega)]; exact h7
  simp -implicitDefEqProofs only [go_sem, ↓reduceIte, Nat.reduceLT, Nat.reduceEqDiff, Nat.reduceAdd, Nat.reduceMul, Nat.reduceLeDiff, Nat.reduceSub, r78_7_go, r78_7U, q5, hputc]
  rw [fleave_collected _ _ _ _ _ _ _ _ _ _ (hcol _)]
  simp -implicitDefEqProofs only [go_sem, ↓reduceIte, Nat.reduceLT, Nat.reduceEqDiff, Nat.reduceAdd, Nat.reduceMul, Nat.reduceLeDiff, Nat.reduceSub]
  have x3 : Ext σ σ3 := ⟨by have := x1.next; omega, by have := x1.clock; have := x2.clock; have := ch3.clock; omega, fun b hb => by
    by_cases hx : X b
    · exact (h14 b hx).trans ((x1.trans x2).get b hb)
    · exact (ch3.get b (by omega) (fun h => by rcases h with h | h | h | h | h; exact hx h; all_goals omega)).trans ((x1.trans x2).get b hb)⟩
  have kc : ∀ (o o' : FObj) b cs, σ2.next + 1 < b → σ3.cells b = some cs → ((σ3.put (σ2.next + 1) o none).put σ2.next o' none).cells b = some cs := fun o o' b cs hb hc => by
    rw [cells_put, if_neg (by omega), cells_put, if_neg (by omega)]; exact hc
  refine ⟨_, _, rfl, (x3.put _ _ _ (by omega)).put _ _ _ (by omega), (hw3.put _ _ _ (by omega)).put _ _ _ (by rw [put_next]; omega), us, h9.keep (fun b hb hn => ⟨by rw [put_get, if_neg (by omega), put_get, if_neg (by omega)], by omega⟩) hw3, h11.keep fun b cs hb hc => ⟨kc _ _ b cs hb.2.1 hc, by omega⟩⟩
end Go.Proofs.YtodkeaoikjjneaaGreatDoor
