/- The reading of the program, and what is so of it: SymPf2, SymPf3. -/
import Derived.Test.YtnjapblabllclaaGreatDoorU5
set_option linter.unusedSimpArgs false
set_option linter.unusedVariables false
/- package datum's find: the paths of all pieces that equal a datum. -/
namespace Go.Proofs.YtnjapblabllclaaGreatDoor
open Go Go.Eng
attribute [local congr] andThen_congr fops_congr fdraw_congr afterOp_congr drawF_congr
attribute [-go_sem] List.range_succ
/-- The paths of what equals x. -/
def foundIn (x : D) (l : List (List Nat × D)) : List (List Nat) := (l.filter fun y => D.same y.2 x).map (·.1)
theorem foundIn_snoc (x : D) (l : List (List Nat × D)) (y : List Nat × D) : foundIn x (l ++ [y]) = foundIn x l ++ (if D.same y.2 x = true then [y.1] else []) := by
  unfold foundIn
  rw [List.filter_append, List.map_append]
  cases h : D.same y.2 x <;> simp [h]
def Paths' (B : Nat → Prop) (l : Nat) (σ : FState) (fv : Value) (ps : List (List Nat)) : Prop := ∃ us bo, Vecs 47 (fun b => b = bo ∧ B b ∧ l < b) σ fv us ∧ PathsL (fun b => B b ∧ l < b ∧ b ≠ bo) σ us ps
def FindI (l r cm bx : Nat) (R X : Nat → Prop) (xv : List Value) (x : D) (σ0 : FState) (f g : Nat → Value) (done : List (List Nat × D)) (B : Nat → Prop) (σ : FState) : Prop :=
  (∀ b, X b ∨ b = l ∨ b = r ∨ b = cm ∨ b = bx → B b) ∧ (∀ b, B b → b < σ.next ∧ (X b ∨ b = l ∨ b = r ∨ b = cm ∨ b = bx ∨ l < b)) ∧ LoopAt 79 [10, 11] c79_0a c79_0b 8 21 f g l r .ready σ ∧ (∃ ver, σ.heap.get r = some ⟨.defd true, false, none, ver⟩) ∧
    (∃ fv ver, σ.heap.get cm = some ⟨.cells [fv] 48, false, none, ver⟩ ∧ Paths' B l σ fv (foundIn x done)) ∧ σ.cells bx = some xv ∧ LaidR (fun b => R b ∨ X b) σ (.agg xv.toArray) x ∧ ∀ b, X b → σ.heap.get b = σ0.heap.get b
theorem find_body (M n N l r cm bx : Nat) (X R : Nat → Prop) (xv : List Value) (x : D) (σ0 : FState) (f g : Nat → Value) (all : List (List Nat × D)) (hM : M = n + 2 * N) (hx4 : xv.length = 4) (hne : bx < cm ∧ cm < r ∧ r < l) (h3 : f 3 = .pointer (some ⟨bx, 0, none⟩)) (h5 : f 5 = .pointer (some ⟨cm, 0, none⟩)) (hR : ∀ b, R b → b < bx ∧ ¬ X b) (hX : ∀ b, X b → b < bx)
    (hall : ∀ y ∈ all, y.1.length < 80000 ∧ D.deep y.2 ≤ N ∧ y.2.count < 1000000000) (hfew : all.length < 90000) :
    Body (env (M + 3)) l R (.func (.func 133) #[] #[]) (FindI l r cm bx R X xv x σ0 f g) all where
  stays := fun done B σ σ' ⟨h1, h2, h6, ⟨v7, h7⟩, ⟨fv, v8, h8, us, bo, h9, h11⟩, h12, h13, h14⟩ hw hC => by
    have k : ∀ b, B b → b < σ.next → σ'.heap.get b = σ.heap.get b := fun b hb hn => hC.get b hn fun h => h.1 hb
    have kc : ∀ b c, B b → σ.cells b = some c → σ'.cells b = some c := fun b c hb hc => by
      have := k b hb (hw.cells hc)
      rw [cells_get] at hc ⊢
      rw [this]; exact hc
    have hn := hC.next
    have kR : ∀ b c, R b → σ.cells b = some c → σ'.cells b = some c := fun b c hb hc => by
      have := hC.get b (hw.cells hc) fun h => h.2 hb
      rw [cells_get] at hc ⊢
      rw [this]; exact hc
    have own := fun b hb => (h2 b (h1 b hb)).1
    exact ⟨h1, fun b hb => ⟨Nat.lt_of_lt_of_le (h2 b hb).1 hn, (h2 b hb).2⟩, h6.keep (k l (h1 l (by simp)) (own l (by simp))), ⟨v7, (k r (h1 r (by simp)) (own r (by simp))).trans h7⟩, ⟨fv, v8, (k cm (h1 cm (by simp)) (own cm (by simp))).trans h8, us, bo, h9.keep (fun b hb hn => ⟨k b hb.2.1 hn, hb⟩) hw, h11.keep fun b c hb hc => ⟨kc b c hb.1 hc, hb⟩⟩, kc bx _ (h1 bx (by simp)) h12, h13.keep (fun b c hb hc => ⟨by
      rcases hb with hb | hb
      · exact kR b c hb hc
      · exact kc b c (h1 b (by simp [hb])) hc, hb⟩), fun b hb => (k b (h1 b (by simp [hb])) (own b (by simp [hb]))).trans (h14 b hb)⟩
  own := fun done B σ ⟨h1, h2, h6, _⟩ b hb => ⟨(h2 b hb).1, fun h => by
    have := hR b h
    rcases (h2 b hb).2 with h | h | h | h | h | h
    · exact this.2 h
    all_goals omega⟩
  inside := fun done B σ k z t p ln c _ hw => inside_go (M + 2) _ 133 #[] rfl k z t (.slice p ln c) (oneCell_slice _ _ _) σ hw fun σ' _ hw' => ⟨_, σ', alwaysIn (M + 1) _ σ', Ext.refl _, hw', rfl⟩
  go := fun done path d rest B σ pv v hall' hw ⟨h1, h2, h6, ⟨v7, h7⟩, ⟨fv, v8, h8, us, bo, h9, h11⟩, h12, h13, h14⟩ hpath hL => by
    have hmem : (path, d) ∈ all := by rw [hall']; simp
    obtain ⟨hp8, hdp, hct⟩ := hall _ hmem
    have hp8 : path.length < 80000 := hp8
    have hdone : done.length < 90000 := by have := congrArg List.length hall'; simp at this; omega
    have hL0 := hL.laid
    obtain ⟨k, z, t, ps⟩ := d
    obtain ⟨p, c, rfl, hq⟩ := hL
    have own := fun b hb => (h2 b (h1 b hb)).1
    have ol := own l (by simp)
    have or' := own r (by simp)
    have oc := own cm (by simp)
    have ob := own bx (by simp)
    rw [round_go _ _ _ _ _ _ _ _ _ (M + 2) l r _ h6 rfl, c79_0a_go]
    simp -implicitDefEqProofs only [go_sem, ↓reduceIte, Nat.reduceLT, Nat.reduceEqDiff, Nat.reduceAdd, Nat.reduceMul, Nat.reduceLeDiff, Nat.reduceSub, fstoreN, r79_3_go, r79_4_go, List.zip_cons_cons, List.zip_nil_right, putAll_cons, putAll_nil]
    have x1 : Ext σ ((σ.push (.cells [.int .i64 0, .int .i64 0, .string ⟨#[]⟩, .slice none 0 0] TD) none).put σ.next (.cells [.int .i64 k, .int .i64 z, .string t, .slice p ps.length c] TD) none) := ((Ext.refl _).push _ _).put _ _ _ (Nat.le_refl _)
    have hw1 := (hw.push (.cells [.int .i64 0, .int .i64 0, .string ⟨#[]⟩, .slice none 0 0] TD) none).put σ.next (.cells [.int .i64 k, .int .i64 z, .string t, .slice p ps.length c] TD) none (Nat.lt_succ_self _)
    have b1 : ((σ.push (.cells [.int .i64 0, .int .i64 0, .string ⟨#[]⟩, .slice none 0 0] TD) none).put σ.next (.cells [.int .i64 k, .int .i64 z, .string t, .slice p ps.length c] TD) none).cells σ.next = some [.int .i64 k, .int .i64 z, .string t, .slice p ps.length c] := by rw [cells_put, if_pos rfl]; rfl
    have n1 : ((σ.push (.cells [.int .i64 0, .int .i64 0, .string ⟨#[]⟩, .slice none 0 0] TD) none).put σ.next (.cells [.int .i64 k, .int .i64 z, .string t, .slice p ps.length c] TD) none).next = σ.next + 1 := rfl
    generalize FState.put _ _ _ _ = σ1 at x1 hw1 b1 n1 ⊢
    have l1 := h6.keep (x1.get l ol)
    rw [beginRound_go _ _ _ _ _ _ _ _ _ l r _ l1, c79_0b_go]
    have hw2 := hw1.put l (.loop .busy none 79 ((List.range 8).map f) g 8 21 [10, 11] c79_0a c79_0b r) none (by omega)
    have l2 : LoopAt 79 [10, 11] c79_0a c79_0b 8 21 f g l r .busy (σ1.put l (.loop .busy none 79 ((List.range 8).map f) g 8 21 [10, 11] c79_0a c79_0b r) none) := LoopAt.put _ _ _ _ _ _ _ _ _ _ _ _
    have n2 : (σ1.put l (.loop .busy none 79 ((List.range 8).map f) g 8 21 [10, 11] c79_0a c79_0b r) none).next = σ.next + 1 := n1
    have C2 : Chg (· = l) σ (σ1.put l (.loop .busy none 79 ((List.range 8).map f) g 8 21 [10, 11] c79_0a c79_0b r) none) := (x1.chg _).put _ _ _ (.inr rfl)
    have b2 : (σ1.put l (.loop .busy none 79 ((List.range 8).map f) g 8 21 [10, 11] c79_0a c79_0b r) none).cells σ.next = some [.int .i64 k, .int .i64 z, .string t, .slice p ps.length c] := by rw [cells_put, if_neg (by omega)]; exact b1
    generalize FState.put _ l _ _ = σ2 at hw2 l2 b2 C2 n2 ⊢
    have lk : LoopAt 79 [10, 11] c79_0a c79_0b 8 21 f g l r .ready σ := h6
    have hlc : ∀ b cs, σ.cells b = some cs → b ≠ l := fun b cs hc hb => by
      obtain ⟨ver, h6⟩ := lk
      rw [hb, cells_get, h6] at hc
      cases hc
    have k2 : ∀ b cs, σ.cells b = some cs → σ2.cells b = some cs := fun b cs hc => (C2.cells (hw.cells hc) (hlc b cs hc)).trans hc
    have cx2 := k2 _ _ h12
    obtain ⟨_, σ3, e3, x3, hw3, rfl⟩ := equal_go (n + 2) N (.mk k z t ps) x (.agg #[.int .i64 k, .int .i64 z, .string t, .slice p ps.length c]) (.agg xv.toArray) σ2 hdp hct hw2 (LaidR.laid (R := fun _ => True) (LaidR.keep (R := R) (fun b cs _ hc => ⟨k2 b cs hc, trivial⟩) ⟨p, c, rfl, hq⟩)) (LaidR.laid (R := fun _ => True) (h13.keep fun b cs _ hc => ⟨k2 b cs hc, trivial⟩))
    have en : M + 2 = n + 2 + 2 * N := by omega
    rw [← en] at e3
    have ht : xv.take 4 = xv := List.take_of_length_le (by omega)
    have n3 := x3.next
    have l3 := l2.keep (x3.get l (by omega))
    have k3 : ∀ b cs, σ.cells b = some cs → σ3.cells b = some cs := fun b cs hc => (x3.cells (hw2.cells (k2 b cs hc))).trans (k2 b cs hc)
    have g3 : ∀ b, b < σ.next → b ≠ l → σ3.heap.get b = σ.heap.get b := fun b hb hne => (x3.get b (by omega)).trans (C2.get b hb hne)
    cases e : D.same (.mk k z t ps) x with
    | false =>
      rw [e] at e3
      simp -implicitDefEqProofs only [go_sem, ↓reduceIte, Nat.reduceLT, Nat.reduceEqDiff, Nat.reduceAdd, Nat.reduceMul, Nat.reduceLeDiff, Nat.reduceSub, r79_5_go, h3, b2, cx2, hx4, ht, e3, Nat.le_refl]
      rw [endRound_go _ _ _ _ _ _ _ _ _ _ l r _ _ l3]
      have g4 : ∀ (o : FObj) b, b < σ.next → b ≠ l → (σ3.put l o none).heap.get b = σ.heap.get b := fun o b hb hne => by rw [put_get, if_neg hne]; exact g3 b hb hne
      have k4 : ∀ (o : FObj) b cs, σ.cells b = some cs → (σ3.put l o none).cells b = some cs := fun o b cs hc => by rw [cells_put, if_neg (hlc b cs hc)]; exact k3 b cs hc
      refine ⟨B, _, rfl, hw3.put _ _ _ (by omega), ⟨by rw [put_next]; omega, by have := C2.clock; have := x3.clock; rw [put_clock]; omega, fun b hb hB => g4 _ b hb fun h => hB (h ▸ h1 l (by simp))⟩, fun b hb => .inl hb, h1, fun b hb => ⟨by rw [put_next]; have := (h2 b hb).1; omega, (h2 b hb).2⟩, LoopAt.put _ _ _ _ _ _ _ _ _ _ _ _, ⟨v7, (g4 _ r or' (by omega)).trans h7⟩, ⟨fv, v8, (g4 _ cm oc (by omega)).trans h8, us, bo, h9.keep (fun b hb hn => ⟨g4 _ b hn (by omega), hb⟩) hw, ?_⟩, k4 _ _ _ h12, h13.keep (fun b cs hb hc => ⟨k4 _ b cs hc, hb⟩), fun b hb => (g4 _ b (own b (by simp [hb])) (by have := hX b hb; omega)).trans (h14 b hb)⟩
      rw [foundIn_snoc, e, if_neg (by simp), List.append_nil]
      exact h11.keep fun b cs hb hc => ⟨k4 _ b cs hc, hb⟩
    | true =>
      rw [e] at e3
      have hus : us.length ≤ done.length := by
        rw [h11.length]
        unfold foundIn
        rw [List.length_map]
        exact List.length_filter_le _ _
      obtain ⟨w4, σ4, e4, x4, hw4, P4⟩ := clone_go (M + 1) σ3 hw3 (hpath.pathV.keep (Q' := fun _ => True) fun b cs _ hc => ⟨k3 b cs hc, trivial⟩) (by omega)
      have n4 := x4.next
      have c3 : σ3.cells cm = some [fv] := k3 cm _ (cells_of_get h8)
      have vc : (view σ4 σ3.clock).cells cm = some [fv] := view_old hw3 (Nat.le_refl _) (x4.get cm (by omega)) c3
      have g4 : ∀ b, b < σ.next → b ≠ l → σ4.heap.get b = σ.heap.get b := fun b hb hne => (x4.get b (by omega)).trans (g3 b hb hne)
      have k4 : ∀ b cs, σ.cells b = some cs → σ4.cells b = some cs := fun b cs hc => (x4.cells (hw3.cells (k3 b cs hc))).trans (k3 b cs hc)
      have hw5 := hw4.push (.cells [w4] 47) none
      have g5 : ∀ b, b < σ.next → b ≠ l → (σ4.push (.cells [w4] 47) none).heap.get b = σ.heap.get b := fun b hb hne => by rw [push_get, if_neg (by omega)]; exact g4 b hb hne
      have V5 : Vecs 47 (fun b => b = bo ∧ B b ∧ l < b) (σ4.push (.cells [w4] 47) none) fv us := h9.keep (fun b hb hn => ⟨g5 b hn (by omega), hb⟩) hw
      obtain ⟨b6, s6, σ6, e6, F6, hb6, ch6, hw6⟩ := V5.append hw5 σ4.next 1 w4 24 (by rw [cells_push, if_pos rfl]; rfl) P4.one.1 (by omega) (by omega)
      have n6 := ch6.next
      rw [push_next] at n6
      have hbol : ∀ b, b = bo ∧ B b ∧ l < b → b ≠ cm ∧ b ≠ l ∧ b ≠ r ∧ b ≠ bx ∧ ¬ X b := fun b hb => ⟨by omega, by omega, by omega, by omega, fun h => by have := hX b h; omega⟩
      have g6 : ∀ b, b < σ.next → b ≠ l → ¬ (b = bo ∧ B b ∧ l < b) → σ6.heap.get b = σ.heap.get b := fun b hb hne hbo => (ch6.get b (by rw [push_next]; omega) hbo).trans (g5 b hb hne)
      have k6 : ∀ b cs, σ.cells b = some cs → ¬ (b = bo ∧ B b ∧ l < b) → σ6.cells b = some cs := fun b cs hc hbo => by
        have := g6 b (hw.cells hc) (hlc b cs hc) hbo
        rw [cells_get] at hc ⊢
        rw [this]; exact hc
      have gc6 : σ6.heap.get cm = some ⟨.cells [fv] 48, false, none, v8⟩ := (g6 cm oc (by omega) (by omega)).trans h8
      simp -implicitDefEqProofs only [go_sem, ↓reduceIte, Nat.reduceLT, Nat.reduceEqDiff, Nat.reduceAdd, Nat.reduceMul, Nat.reduceLeDiff, Nat.reduceSub, r79_5_go, r79_6_go, h3, h5, b2, cx2, hx4, ht, e3, e4, vc, P4.one.1, P4.one.2.1, P4.one.2.2, e6, gc6, F6.one.1, Nat.le_refl]
      have l6 : LoopAt 79 [10, 11] c79_0a c79_0b 8 21 f g l r .busy σ6 := l3.keep (by rw [ch6.get l (by rw [push_next]; omega) (by omega), push_get, if_neg (by omega), x4.get l (by omega)])
      have l7 : ∀ o : FObj, LoopAt 79 [10, 11] c79_0a c79_0b 8 21 f g l r .busy (σ6.put cm o none) := fun o => l6.keep (by rw [put_get, if_neg (by omega)])
      rw [endRound_go _ _ _ _ _ _ _ _ _ _ l r _ _ (l7 _)]
      have hb6l : l < b6 ∧ b6 < σ6.next ∧ (b6 = bo ∧ B bo ∨ b6 = σ4.next + 1) := ⟨by
        rcases hb6 with h | h
        · exact h.2.2
        · rw [push_next] at h; omega, F6.lt hw6, by
        rcases hb6 with h | h
        · exact .inl ⟨h.1, h.1 ▸ h.2.1⟩
        · exact .inr h⟩
      have g7 : ∀ (o o' : FObj) b, b < σ.next → b ≠ l → b ≠ cm → ¬ (b = bo ∧ B b ∧ l < b) → ((σ6.put cm o none).put l o' none).heap.get b = σ.heap.get b := fun o o' b hb hne hnc hbo => by
        rw [put_get, if_neg hne, put_get, if_neg hnc]; exact g6 b hb hne hbo
      have k7 : ∀ (o o' : FObj) b cs, σ.cells b = some cs → b ≠ cm → ¬ (b = bo ∧ B b ∧ l < b) → ((σ6.put cm o none).put l o' none).cells b = some cs := fun o o' b cs hc hnc hbo => by
        rw [cells_put, if_neg (hlc b cs hc), cells_put, if_neg hnc]; exact k6 b cs hc hbo
      refine ⟨fun b => B b ∨ (σ.next ≤ b ∧ b < σ6.next), _, rfl, (hw6.put _ _ _ (by omega)).put _ _ _ (by rw [put_next]; omega), ⟨by rw [put_next, put_next]; omega, by have := C2.clock; have := x3.clock; have := x4.clock; have := ch6.clock; rw [push_clock] at this; rw [put_clock, put_clock]; omega, fun b hb hB => g7 _ _ b hb (fun h => hB (h ▸ h1 l (by simp))) (fun h => hB (h ▸ h1 cm (by simp))) fun h => hB h.2.1⟩, fun b hb => by
        rcases hb with h | h
        · exact .inl h
        · exact .inr h.1, fun b hb => .inl (h1 b hb), fun b hb => ?_, LoopAt.put _ _ _ _ _ _ _ _ _ _ _ _, ⟨v7, (g7 _ _ r or' (by omega) (by omega) (by omega)).trans h7⟩, ⟨s6, σ6.clock, by rw [put_get, if_neg (by omega), put_get, if_pos rfl], us ++ [w4], b6, .inr ⟨b6, F6.keep (by rw [put_get, if_neg (by omega), put_get, if_neg (by omega)]), rfl, ?_, hb6l.1⟩, ?_⟩, k7 _ _ _ _ h12 (by omega) (by omega), h13.keep (fun b cs hb hc => ⟨k7 _ _ b cs hc (by rcases hb with hb | hb; have := (hR b hb).1; omega; have := hX b hb; omega) (by rcases hb with hb | hb; have := (hR b hb).1; omega; have := hX b hb; omega), hb⟩), fun b hb => (g7 _ _ b (own b (by simp [hb])) (by have := hX b hb; omega) (by have := hX b hb; omega) (by have := hX b hb; omega)).trans (h14 b hb)⟩
      · rw [put_next, put_next]
        rcases hb with h | h
        · exact ⟨by have := (h2 b h).1; omega, (h2 b h).2⟩
        · exact ⟨h.2, .inr (.inr (.inr (.inr (.inr (by omega)))))⟩
      · rcases hb6l.2.2 with h | h
        · exact .inl (h.1 ▸ h.2)
        · exact .inr ⟨by omega, hb6l.2.1⟩
      · rw [foundIn_snoc, e, if_pos rfl]
        refine (h11.keep fun b cs hb hc => ⟨k7 _ _ b cs hc (by omega) (fun h => hb.2.2 h.1), .inl hb.1, hb.2.1, ?e1⟩).append ⟨P4.keep fun b cs hb hc => ⟨?e2, .inr ⟨by omega, ?e3⟩, by omega, ?e4⟩, trivial⟩
        case e1 =>
          have := hw.cells hc
          rcases hb6l.2.2 with h | h
          · rw [h.1]; exact hb.2.2
          · omega
        case e2 =>
          have := hw4.cells hc
          rw [cells_put, if_neg (by omega), cells_put, if_neg (by omega)]
          exact (ch6.cells (by rw [push_next]; omega) (fun h => by have := (h2 b h.2.1).1; omega)).trans (by rw [cells_push, if_neg (by omega)]; exact hc)
        case e3 => have := hw4.cells hc; omega
        case e4 =>
          have := hw4.cells hc
          rcases hb6l.2.2 with h | h
          · have := (h2 b6 (h.1 ▸ h.2)).1; omega
          · omega
end Go.Proofs.YtnjapblabllclaaGreatDoor
/- package datum's find, whole. -/
namespace Go.Proofs.YtnjapblabllclaaGreatDoor
open Go Go.Eng
attribute [local congr] andThen_congr fops_congr fdraw_congr afterOp_congr drawF_congr
attribute [-go_sem] List.range_succ
theorem find_go (M n N : Nat) (hM : M = n + 2 * N) (d x : D) (lv xv : List Value) (h4 : lv.length = 4) (hx4 : xv.length = 4) (R X : Nat → Prop) (σ : FState) (hw : Wf σ) (hL : LaidR R σ (.agg lv.toArray) d) (hLx : LaidR (fun b => R b ∨ X b) σ (.agg xv.toArray) x) (hR : ∀ b, R b → b < σ.next ∧ ¬ X b) (hX : ∀ b, X b → b < σ.next)
    (hS : Small (d.pieces [])) (hN : (d.pieces []).length < 90000) (hall : ∀ y ∈ d.pieces [], D.deep y.2 ≤ N ∧ y.2.count < 1000000000) :
    Gives ((env (M + 5)).call 79 [.agg lv.toArray, .agg xv.toArray] none σ) σ fun w σ' => ∃ us, Vecs 47 (fun b => σ.next ≤ b) σ' w us ∧ PathsL (fun b => σ.next ≤ b) σ' us (foundIn x (d.pieces [])) := by
  rw [env_call, enter79 _ _ _ _ (by simp), Sl_start]
  unfold run79
  have x1 : Ext σ (((σ.push (.cells lv TD) none).push (.cells xv TD) none).push (.cells [.slice none 0 0] 48) none) := (((Ext.refl _).push _ _).push _ _).push _ _
  have hw1 := ((hw.push (.cells lv TD) none).push (.cells xv TD) none).push (.cells [.slice none 0 0] 48) none
  have g1 : (((σ.push (.cells lv TD) none).push (.cells xv TD) none).push (.cells [.slice none 0 0] 48) none).heap.get (σ.next + 2) = some ⟨.cells [.slice none 0 0] 48, false, none, σ.clock + 2⟩ := by rw [push_get, if_pos (by simp only [push_next])]; rfl
  have c1 : (((σ.push (.cells lv TD) none).push (.cells xv TD) none).push (.cells [.slice none 0 0] 48) none).cells σ.next = some lv := by rw [cells_push, if_neg (by simp only [push_next]; omega), cells_push, if_neg (by rw [push_next]; omega), cells_push, if_pos rfl]; rfl
  have cx1 : (((σ.push (.cells lv TD) none).push (.cells xv TD) none).push (.cells [.slice none 0 0] 48) none).cells (σ.next + 1) = some xv := by rw [cells_push, if_neg (by simp only [push_next]; omega), cells_push, if_pos (by rw [push_next])]; rfl
  have n1 : (((σ.push (.cells lv TD) none).push (.cells xv TD) none).push (.cells [.slice none 0 0] 48) none).next = σ.next + 3 := rfl
  simp -implicitDefEqProofs only [go_sem, ↓reduceIte, Nat.reduceLT, Nat.reduceEqDiff, Nat.reduceAdd, Nat.reduceMul, Nat.reduceLeDiff, Nat.reduceSub, r79_0_go, r79_1_go, Option.getD_some]
  generalize hff : upd _ 5 _ = f1
  have q2 : f1 2 = .pointer (some ⟨σ.next, 0, none⟩) := by rw [← hff]; simp -implicitDefEqProofs only [upd_go, kept_go, ↓reduceIte, Nat.reduceEqDiff, Nat.reduceLT, reduceCtorEq]
  have q3 : f1 3 = .pointer (some ⟨σ.next + 1, 0, none⟩) := by rw [← hff]; simp -implicitDefEqProofs only [upd_go, kept_go, ↓reduceIte, Nat.reduceEqDiff, Nat.reduceLT, reduceCtorEq]
  have q5 : f1 5 = .pointer (some ⟨σ.next + 2, 0, none⟩) := by rw [← hff]; simp -implicitDefEqProofs only [upd_go, kept_go, ↓reduceIte, Nat.reduceEqDiff, Nat.reduceLT, reduceCtorEq]
  clear hff
  generalize FState.push _ _ _ = σ1 at x1 hw1 g1 c1 cx1 n1 ⊢
  obtain ⟨σ2, b1, b2, e2, x2, hw2, hb1, hb2, cb2, cb1⟩ := walkD_go (M + 2) lv h4 σ1 hw1
  have ht : lv.take 4 = lv := List.take_of_length_le (by omega)
  simp -implicitDefEqProofs only [go_sem, ↓reduceIte, Nat.reduceLT, Nat.reduceEqDiff, Nat.reduceAdd, Nat.reduceMul, Nat.reduceLeDiff, Nat.reduceSub, r79_2_go, q2, c1, h4, ht, e2, Nat.le_refl]
  generalize hgg : upd _ 9 _ = gg
  have n2 := x2.next
  have hL2 : LaidR R σ2 (.agg lv.toArray) d := hL.keep fun b cs hb hc => ⟨((x1.trans x2).cells (hw.cells hc)).trans hc, hb⟩
  have hLx2 : LaidR (fun b => R b ∨ X b) σ2 (.agg xv.toArray) x := hLx.keep fun b cs hb hc => ⟨((x1.trans x2).cells (hw.cells hc)).trans hc, hb⟩
  have hcm2 : σ2.heap.get (σ.next + 2) = some ⟨.cells [.slice none 0 0] 48, false, none, σ.clock + 2⟩ := (x2.get _ (by omega)).trans g1
  have hcx2 : σ2.cells (σ.next + 1) = some xv := (x2.cells (by omega)).trans cx1
  have y2 : Ext σ2 ((σ2.push (.defd true) none).push (.loop .ready none 79 ((List.range 8).map f1) gg 8 21 [10, 11] c79_0a c79_0b σ2.next) none) := ((Ext.refl _).push _ _).push _ _
  obtain ⟨σ3, B3, e3, ch3, n3, hB3, hw3, i3⟩ := range_walk (M + 3) 79 [10, 11] c79_0a c79_0b 8 21 f1 gg [] none 9 b1 b2 σ2 (.func (.func 133) #[] #[]) R d lv (FindI (σ2.next + 1) σ2.next (σ.next + 2) (σ.next + 1) R X xv x σ2 f1 gg) (fun b => X b ∨ b = σ2.next + 1 ∨ b = σ2.next ∨ b = σ.next + 2 ∨ b = σ.next + 1)
    (find_body M n N (σ2.next + 1) σ2.next (σ.next + 2) (σ.next + 1) X R xv x σ2 f1 gg _ hM hx4 ⟨by omega, by omega, by omega⟩ q3 q5 (fun b hb => ⟨by have := (hR b hb).1; omega, (hR b hb).2⟩) (fun b hb => by have := hX b hb; omega) (fun y hy => ⟨(hS y hy).1, hall y hy⟩) hN) hS (by omega)
    (fun done B σ' ⟨_, _, h5, h6, _⟩ => ⟨h5, h6⟩)
    ⟨fun b hb => hb, fun b hb => ⟨by
      simp only [push_next]
      rcases hb with h | h | h | h | h
      · have := hX b h; omega
      all_goals omega, by
      rcases hb with h | h | h | h | h
      · exact .inl h
      · exact .inr (.inl h)
      · exact .inr (.inr (.inl h))
      · exact .inr (.inr (.inr (.inl h)))
      · exact .inr (.inr (.inr (.inr (.inl h))))⟩, loop_made .., ⟨_, by rw [push_get, if_neg (by rw [push_next]; omega), push_get, if_pos rfl]⟩, ⟨_, _, (y2.get _ (by omega)).trans hcm2, [], 0, .inl ⟨rfl, rfl⟩, trivial⟩, (y2.cells (by omega)).trans hcx2, hLx2.keep fun b cs hb hc => ⟨(y2.cells (hw2.cells hc)).trans hc, hb⟩, fun b hb => y2.get b (by have := hX b hb; omega)⟩
    (by rw [Sl_get, ← hgg]; simp -implicitDefEqProofs only [upd_go, kept_go, ↓reduceIte, Nat.reduceEqDiff, Nat.reduceLT, reduceCtorEq]) hw2 cb1 (fun h => by have := hw2.cells cb1; rcases h with h | h | h | h | h; have := hX _ h; all_goals omega) hL2 (fun b hb => by have := (hR b hb).1; omega) cb2 (fun h => by have := hw2.cells cb2; rcases h with h | h | h | h | h; have := hX _ h; all_goals omega)
  rw [e3]
  obtain ⟨h1, h2, h6, ⟨v6, h7⟩, ⟨fv, v8, h8, us, bo, h9, h11⟩, h12, h13, h14⟩ := i3
  have hcm := cells_of_get h8
  have hputc : ∀ (o : FObj), (σ3.put (σ2.next + 1) o none).cells (σ.next + 2) = some [fv] := fun o => by rw [cells_put, if_neg (by omega)]; exact hcm
  have hcol : ∀ (o : FObj), (σ3.put (σ2.next + 1) o none).heap.get σ2.next = some ⟨.defd true, false, none, v6⟩ := fun o => by rw [put_get, if_neg (by omega)]; exact h7
  simp -implicitDefEqProofs only [go_sem, ↓reduceIte, Nat.reduceLT, Nat.reduceEqDiff, Nat.reduceAdd, Nat.reduceMul, Nat.reduceLeDiff, Nat.reduceSub, r79_7_go, q5, hputc]
  rw [fleave_collected _ _ _ _ _ _ _ _ _ _ (hcol _)]
  simp -implicitDefEqProofs only [go_sem, ↓reduceIte, Nat.reduceLT, Nat.reduceEqDiff, Nat.reduceAdd, Nat.reduceMul, Nat.reduceLeDiff, Nat.reduceSub]
  have x3 : Ext σ σ3 := ⟨by have := x1.next; omega, by have := x1.clock; have := x2.clock; have := ch3.clock; omega, fun b hb => by
    by_cases hx : X b
    · exact (h14 b hx).trans ((x1.trans x2).get b hb)
    · exact (ch3.get b (by omega) (fun h => by rcases h with h | h | h | h | h; exact hx h; all_goals omega)).trans ((x1.trans x2).get b hb)⟩
  have kc : ∀ (o o' : FObj) b cs, σ2.next + 1 < b → σ3.cells b = some cs → ((σ3.put (σ2.next + 1) o none).put σ2.next o' none).cells b = some cs := fun o o' b cs hb hc => by
    rw [cells_put, if_neg (by omega), cells_put, if_neg (by omega)]; exact hc
  refine ⟨_, _, rfl, (x3.put _ _ _ (by omega)).put _ _ _ (by omega), (hw3.put _ _ _ (by omega)).put _ _ _ (by rw [put_next]; omega), us, h9.keep (fun b hb hn => ⟨by rw [put_get, if_neg (by omega), put_get, if_neg (by omega)], by omega⟩) hw3, h11.keep fun b cs hb hc => ⟨kc _ _ b cs hb.2.1 hc, by omega⟩⟩
end Go.Proofs.YtnjapblabllclaaGreatDoor
