/- The reading of the program, and what is so of it: SymWm, SymWn, SymWo, SymWq. -/
import Derived.Test.YtokieofohmgjdaaGreatDoorU6
import Derived.Test.YtokieofohmgjdaaGreatDoorU5
import Derived.ChangeSlices
import Derived.OpenShut
import Derived.Carry
set_option linter.unusedSimpArgs false
set_option linter.unusedVariables false
/- DatumOrder: which data are compared. -/
namespace Go.Proofs.YtokieofohmgjdaaGreatDoor
open Go Go.Eng
attribute [local congr] andThen_congr fops_congr fdraw_congr afterOp_congr drawF_congr
attribute [-go_sem] List.range_succ
theorem made_apart (m : Nat) {L : Nat} (hL : L ≤ 3) {d : D} (h : Made L d) : Apart (m + 20) d ∧ d.deep ≤ 150 := by
  have hF := made_fine m h
  have h1 := hF.deep_le
  have h2 := (hF []).1
  rw [pieces_length] at h2
  have h3 : most L ≤ 40 := by
    obtain rfl | rfl | rfl | rfl : L = 0 ∨ L = 1 ∨ L = 2 ∨ L = 3 := by omega
    all_goals simp [most]
  exact ⟨⟨hF.sane, by omega, by omega⟩, by omega⟩
theorem law_guard (q b4 b5 b6 : Nat) (a b c : D) (lv mv nv : List Value) (h4 : lv.length = 4) (hm4 : mv.length = 4) (hn4 : nv.length = 4) (f g : Nat → Value) (σ : FState) (hw : Wf σ) (c4 : σ.cells b4 = some lv) (c5 : σ.cells b5 = some mv) (c6 : σ.cells b6 = some nv)
    (hL : LaidR (fun b => b < σ.next) σ (.agg lv.toArray) a) (hLb : LaidR (fun b => b < σ.next) σ (.agg mv.toArray) b) (hLc : LaidR (fun b => b < σ.next) σ (.agg nv.toArray) c)
    (f4 : f 4 = .pointer (some ⟨b4, 0, none⟩)) (f5 : f 5 = .pointer (some ⟨b5, 0, none⟩)) (f6 : f 6 = .pointer (some ⟨b6, 0, none⟩)) :
    ∃ g' σ' v, fops (top (q + 500)) none r8_3 (Sl 13 81 f g []) none σ = .done .normal (Sl 13 81 f g' []) none σ' ∧ Ext σ σ' ∧ Wf σ' ∧ g' 48 = .bool v ∧
      (v = true → (a.count ≤ 150 ∧ firstE a = 0) ∧ (b.count ≤ 150 ∧ firstE b = 0) ∧ (c.count ≤ 150 ∧ firstE c = 0)) := by
  have ht : lv.take 4 = lv := List.take_of_length_le (by omega)
  have htm : mv.take 4 = mv := List.take_of_length_le (by omega)
  have htn : nv.take 4 = nv := List.take_of_length_le (by omega)
  have VAc : ∀ (d : D) (wv : List Value) (hw4 : wv.length = 4) (τ : FState), Wf τ → LaidR (fun b => b < τ.next) τ (.agg wv.toArray) d → ∃ τ', (top (q + 500)).call 9 [.agg wv.toArray] none τ = .ret (.bool (vastB d)) none τ' ∧ Ext τ τ' ∧ Wf τ' := fun d wv hw4 τ hwt hLd => by
    obtain ⟨_, τ', e, x, w, rfl⟩ := vast_go (q + 348) _ d wv hw4 τ hwt hLd
    rw [show q + 348 + 152 = q + 500 by omega] at e
    exact ⟨τ', (top_call _ _ _ _ rfl).trans e, x, w⟩
  have CHc : ∀ (d : D) (wv : List Value) (hw4 : wv.length = 4) (τ : FState), d.count ≤ 150 → Wf τ → LaidR (fun b => b < τ.next) τ (.agg wv.toArray) d → ∃ τ', (top (q + 500)).call 19 [.agg wv.toArray] none τ = .ret (.int .i64 (firstE d : Nat)) none τ' ∧ Ext τ τ' ∧ Wf τ' := fun d wv hw4 τ hc hwt hLd => by
    obtain ⟨_, τ', e, x, w, rfl⟩ := checkAny_go _ d wv hw4 τ hwt hLd (q + 498) (q + 344) 150 (by omega) (by have := deep_le_count d; omega) (by omega)
    exact ⟨τ', (top_call _ _ _ _ rfl).trans e, x, w⟩
  have step : ∀ {τ τ' : FState}, Ext τ τ' → Wf τ → ∀ {v : Value} {d : D}, LaidR (fun b => b < τ.next) τ v d → LaidR (fun b => b < τ'.next) τ' v d := fun hX hw v d h => h.keep fun b cs hb hc => ⟨(hX.cells hb).trans hc, by have := hX.next; omega⟩
  have small : ∀ {d : D}, vastB d = false → d.count ≤ 150 := fun h => by
    unfold vastB at h
    rw [Bool.or_eq_false_iff, decide_eq_false_iff_not] at h
    omega
  obtain ⟨σ1, e1, x1, hw1⟩ := VAc a lv h4 σ hw hL
  have k1 : ∀ b cs, σ.cells b = some cs → σ1.cells b = some cs := fun b cs hc => (x1.cells (hw.cells hc)).trans hc
  cases hva : vastB a with
  | true =>
    rw [hva] at e1
    simp -implicitDefEqProofs only [go_sem, ↓reduceIte, Nat.reduceLT, Nat.reduceEqDiff, Nat.reduceAdd, Nat.reduceMul, Nat.reduceLeDiff, Nat.reduceSub, r8_3_go, r8_3U, f4, f5, f6, c4, h4, ht, e1, Nat.le_refl]
    exact ⟨_, _, false, rfl, x1, hw1, by simp -implicitDefEqProofs only [upd_go, kept_go, ↓reduceIte, Nat.reduceEqDiff, Nat.reduceLT, reduceCtorEq], fun h => by cases h⟩
  | false =>
  rw [hva] at e1
  obtain ⟨σ2, e2, x2, hw2⟩ := VAc b mv hm4 σ1 hw1 (step x1 hw hLb)
  have k2 : ∀ b cs, σ.cells b = some cs → σ2.cells b = some cs := fun b cs hc => (x2.cells (hw1.cells (k1 b cs hc))).trans (k1 b cs hc)
  have X2 := x1.trans x2
  cases hvb : vastB b with
  | true =>
    rw [hvb] at e2
    simp -implicitDefEqProofs only [go_sem, ↓reduceIte, Nat.reduceLT, Nat.reduceEqDiff, Nat.reduceAdd, Nat.reduceMul, Nat.reduceLeDiff, Nat.reduceSub, r8_3_go, r8_3U, f4, f5, f6, c4, k1 _ _ c5, h4, ht, hm4, htm, e1, e2, Nat.le_refl]
    exact ⟨_, _, false, rfl, X2, hw2, by simp -implicitDefEqProofs only [upd_go, kept_go, ↓reduceIte, Nat.reduceEqDiff, Nat.reduceLT, reduceCtorEq], fun h => by cases h⟩
  | false =>
  rw [hvb] at e2
  obtain ⟨σ3, e3, x3, hw3⟩ := VAc c nv hn4 σ2 hw2 (step X2 hw hLc)
  have k3 : ∀ b cs, σ.cells b = some cs → σ3.cells b = some cs := fun b cs hc => (x3.cells (hw2.cells (k2 b cs hc))).trans (k2 b cs hc)
  have X3 := X2.trans x3
  cases hvc : vastB c with
  | true =>
    rw [hvc] at e3
    simp -implicitDefEqProofs only [go_sem, ↓reduceIte, Nat.reduceLT, Nat.reduceEqDiff, Nat.reduceAdd, Nat.reduceMul, Nat.reduceLeDiff, Nat.reduceSub, r8_3_go, r8_3U, f4, f5, f6, c4, k1 _ _ c5, k2 _ _ c6, h4, ht, hm4, htm, hn4, htn, e1, e2, e3, Nat.le_refl]
    exact ⟨_, _, false, rfl, X3, hw3, by simp -implicitDefEqProofs only [upd_go, kept_go, ↓reduceIte, Nat.reduceEqDiff, Nat.reduceLT, reduceCtorEq], fun h => by cases h⟩
  | false =>
  rw [hvc] at e3
  obtain ⟨σ4, e4, x4, hw4⟩ := CHc a lv h4 σ3 (small hva) hw3 (step X3 hw hL)
  have k4 : ∀ b cs, σ.cells b = some cs → σ4.cells b = some cs := fun b cs hc => (x4.cells (hw3.cells (k3 b cs hc))).trans (k3 b cs hc)
  have X4 := X3.trans x4
  by_cases hea : firstE a ≠ 0
  · have z0 : (((firstE a : Nat) : Int) == 0) = false := by simp; omega
    simp -implicitDefEqProofs only [go_sem, ↓reduceIte, Nat.reduceLT, Nat.reduceEqDiff, Nat.reduceAdd, Nat.reduceMul, Nat.reduceLeDiff, Nat.reduceSub, r8_3_go, r8_3U, f4, f5, f6, c4, k1 _ _ c5, k2 _ _ c6, k3 _ _ c4, h4, ht, hm4, htm, hn4, htn, e1, e2, e3, e4, z0, Nat.le_refl]
    exact ⟨_, _, false, rfl, X4, hw4, by simp -implicitDefEqProofs only [upd_go, kept_go, ↓reduceIte, Nat.reduceEqDiff, Nat.reduceLT, reduceCtorEq], fun h => by cases h⟩
  rw [ne_eq, Decidable.not_not] at hea
  have za : (((firstE a : Nat) : Int) == 0) = true := by rw [hea]; rfl
  obtain ⟨σ5, e5, x5, hw5⟩ := CHc b mv hm4 σ4 (small hvb) hw4 (step X4 hw hLb)
  have k5 : ∀ b cs, σ.cells b = some cs → σ5.cells b = some cs := fun b cs hc => (x5.cells (hw4.cells (k4 b cs hc))).trans (k4 b cs hc)
  have X5 := X4.trans x5
  by_cases heb : firstE b ≠ 0
  · have z0 : (((firstE b : Nat) : Int) == 0) = false := by simp; omega
    simp -implicitDefEqProofs only [go_sem, ↓reduceIte, Nat.reduceLT, Nat.reduceEqDiff, Nat.reduceAdd, Nat.reduceMul, Nat.reduceLeDiff, Nat.reduceSub, r8_3_go, r8_3U, f4, f5, f6, c4, k1 _ _ c5, k2 _ _ c6, k3 _ _ c4, k4 _ _ c5, h4, ht, hm4, htm, hn4, htn, e1, e2, e3, e4, za, e5, z0, Nat.le_refl]
    exact ⟨_, _, false, rfl, X5, hw5, by simp -implicitDefEqProofs only [upd_go, kept_go, ↓reduceIte, Nat.reduceEqDiff, Nat.reduceLT, reduceCtorEq], fun h => by cases h⟩
  rw [ne_eq, Decidable.not_not] at heb
  have zb : (((firstE b : Nat) : Int) == 0) = true := by rw [heb]; rfl
  obtain ⟨σ6, e6, x6, hw6⟩ := CHc c nv hn4 σ5 (small hvc) hw5 (step X5 hw hLc)
  have X6 := X5.trans x6
  by_cases hec : firstE c ≠ 0
  · have z0 : (((firstE c : Nat) : Int) == 0) = false := by simp; omega
    simp -implicitDefEqProofs only [go_sem, ↓reduceIte, Nat.reduceLT, Nat.reduceEqDiff, Nat.reduceAdd, Nat.reduceMul, Nat.reduceLeDiff, Nat.reduceSub, r8_3_go, r8_3U, f4, f5, f6, c4, k1 _ _ c5, k2 _ _ c6, k3 _ _ c4, k4 _ _ c5, k5 _ _ c6, h4, ht, hm4, htm, hn4, htn, e1, e2, e3, e4, za, e5, zb, e6, z0, Nat.le_refl]
    exact ⟨_, _, false, rfl, X6, hw6, by simp -implicitDefEqProofs only [upd_go, kept_go, ↓reduceIte, Nat.reduceEqDiff, Nat.reduceLT, reduceCtorEq], fun h => by cases h⟩
  rw [ne_eq, Decidable.not_not] at hec
  have zc : (((firstE c : Nat) : Int) == 0) = true := by rw [hec]; rfl
  simp -implicitDefEqProofs only [go_sem, ↓reduceIte, Nat.reduceLT, Nat.reduceEqDiff, Nat.reduceAdd, Nat.reduceMul, Nat.reduceLeDiff, Nat.reduceSub, r8_3_go, r8_3U, f4, f5, f6, c4, k1 _ _ c5, k2 _ _ c6, k3 _ _ c4, k4 _ _ c5, k5 _ _ c6, h4, ht, hm4, htm, hn4, htn, e1, e2, e3, e4, za, e5, zb, e6, zc, Nat.le_refl]
  exact ⟨_, _, true, rfl, X6, hw6, by simp -implicitDefEqProofs only [upd_go, kept_go, ↓reduceIte, Nat.reduceEqDiff, Nat.reduceLT, reduceCtorEq], fun _ => ⟨⟨small hva, hea⟩, ⟨small hvb, heb⟩, ⟨small hvc, hec⟩⟩⟩
end Go.Proofs.YtokieofohmgjdaaGreatDoor
/- DatumOrder: from the guard on. -/
namespace Go.Proofs.YtokieofohmgjdaaGreatDoor
open Go Go.Eng
attribute [local congr] andThen_congr fops_congr fdraw_congr afterOp_congr drawF_congr
attribute [-go_sem] List.range_succ
theorem law_rest (q b4 b5 b6 b10 b11 b12 : Nat) (a b c x y z : D) (lv mv nv xv yv zv : List Value) (h4 : lv.length = 4) (hm4 : mv.length = 4) (hn4 : nv.length = 4) (hx4 : xv.length = 4) (hy4 : yv.length = 4) (hz4 : zv.length = 4) (f g : Nat → Value) (σ : FState) (hw : Wf σ)
    (c4 : σ.cells b4 = some lv) (c5 : σ.cells b5 = some mv) (c6 : σ.cells b6 = some nv) (c10 : σ.cells b10 = some xv) (c11 : σ.cells b11 = some yv) (c12 : σ.cells b12 = some zv)
    (hL : LaidR (fun b => b < σ.next) σ (.agg lv.toArray) a) (hLb : LaidR (fun b => b < σ.next) σ (.agg mv.toArray) b) (hLc : LaidR (fun b => b < σ.next) σ (.agg nv.toArray) c)
    (hX : LaidR (fun b => b < σ.next) σ (.agg xv.toArray) x) (hY : LaidR (fun b => b < σ.next) σ (.agg yv.toArray) y) (hZ : LaidR (fun b => b < σ.next) σ (.agg zv.toArray) z)
    (ax : Apart (q + 490) x ∧ x.deep ≤ 150) (ay : Apart (q + 490) y ∧ y.deep ≤ 150) (az : Apart (q + 490) z ∧ z.deep ≤ 150)
    (f4 : f 4 = .pointer (some ⟨b4, 0, none⟩)) (f5 : f 5 = .pointer (some ⟨b5, 0, none⟩)) (f6 : f 6 = .pointer (some ⟨b6, 0, none⟩)) (f10 : f 10 = .pointer (some ⟨b10, 0, none⟩)) (f11 : f 11 = .pointer (some ⟨b11, 0, none⟩)) (f12 : f 12 = .pointer (some ⟨b12, 0, none⟩)) :
    ∃ f' g' σ', (seqR (seqR (fops (top (q + 500)) none r8_3) (condR (fun a => (a.get 48)) (seqR (fops (top (q + 500)) none r8_4) (condR (fun a => (a.get 67)) (seqR (fops (top (q + 500)) none r8_5) retR) skipR)) skipR)) (seqR (fops (top (q + 500)) none r8_6) retR)) (Sl 13 81 f g []) none σ = .done .ret (Sl 13 81 f' g' []) none σ' ∧ f' 8 = .bool true := by
  have ht : lv.take 4 = lv := List.take_of_length_le (by omega)
  have htm : mv.take 4 = mv := List.take_of_length_le (by omega)
  have htn : nv.take 4 = nv := List.take_of_length_le (by omega)
  have htx : xv.take 4 = xv := List.take_of_length_le (by omega)
  have hty : yv.take 4 = yv := List.take_of_length_le (by omega)
  have htz : zv.take 4 = zv := List.take_of_length_le (by omega)
  have step : ∀ {τ τ' : FState}, Ext τ τ' → Wf τ → ∀ {v : Value} {d : D}, LaidR (fun b => b < τ.next) τ v d → LaidR (fun b => b < τ'.next) τ' v d := fun hX hw v d h => h.keep fun b cs hb hc => ⟨(hX.cells hb).trans hc, by have := hX.next; omega⟩
  have ORc : ∀ (a b c : D) (lv mv nv : List Value), lv.length = 4 → mv.length = 4 → nv.length = 4 → Apart (q + 490) a ∧ a.deep ≤ 150 → Apart (q + 490) b ∧ b.deep ≤ 150 → Apart (q + 490) c ∧ c.deep ≤ 150 → ∀ τ, Wf τ → LaidR (fun b => b < τ.next) τ (.agg lv.toArray) a → LaidR (fun b => b < τ.next) τ (.agg mv.toArray) b → LaidR (fun b => b < τ.next) τ (.agg nv.toArray) c →
      ∃ τ', (top (q + 500)).call 51 [.agg lv.toArray, .agg mv.toArray, .agg nv.toArray] none τ = .ret (.bool true) none τ' ∧ Ext τ τ' ∧ Wf τ' := fun a b c lv mv nv h4 hm4 hn4 ha hb hc τ hwt hA hB hC => by
    obtain ⟨_, τ', e, x, w, rfl⟩ := ordered_go (q + 490) (q + 39) 150 (by omega) a b c ha.1 hb.1 hc.1 ha.2 hb.2 hc.2 lv mv nv h4 hm4 hn4 τ hwt hA hB hC
    exact ⟨τ', (top_call _ _ _ _ rfl).trans e, x, w⟩
  have valid : ∀ {d : D}, d.count ≤ 150 ∧ firstE d = 0 → Apart (q + 490) d ∧ d.deep ≤ 150 := fun h => ⟨apartE (q + 469) h.2 (by omega), Nat.le_trans (deep_le_count _) h.1⟩
  -- the last part
  have last : ∀ (f g : Nat → Value) (τ : FState), Ext σ τ → Wf τ → f 10 = .pointer (some ⟨b10, 0, none⟩) → f 11 = .pointer (some ⟨b11, 0, none⟩) → f 12 = .pointer (some ⟨b12, 0, none⟩) →
      ∃ f' g' σ', (seqR (fops (top (q + 500)) none r8_6) retR) (Sl 13 81 f g []) none τ = .done .ret (Sl 13 81 f' g' []) none σ' ∧ f' 8 = .bool true := fun f g τ x0 hw0 f10 f11 f12 => by
    have k0 : ∀ b cs, σ.cells b = some cs → τ.cells b = some cs := fun b cs hc => (x0.cells (hw.cells hc)).trans hc
    obtain ⟨σ1, e1, x1, hw1⟩ := ORc x y z xv yv zv hx4 hy4 hz4 ax ay az τ hw0 (step x0 hw hX) (step x0 hw hY) (step x0 hw hZ)
    have k1 : ∀ b cs, σ.cells b = some cs → σ1.cells b = some cs := fun b cs hc => (x1.cells (hw0.cells (k0 b cs hc))).trans (k0 b cs hc)
    obtain ⟨σ2, e2, x2, hw2⟩ := ORc x x z xv xv zv hx4 hx4 hz4 ax ax az σ1 hw1 (step (x0.trans x1) hw hX) (step (x0.trans x1) hw hX) (step (x0.trans x1) hw hZ)
    have lk := top_looks (q + 500) σ2
    simp -implicitDefEqProofs only [go_sem, ↓reduceIte, Nat.reduceLT, Nat.reduceEqDiff, Nat.reduceAdd, Nat.reduceMul, Nat.reduceLeDiff, Nat.reduceSub, r8_6_go, r8_6U, f10, f11, f12, k0 _ _ c10, k0 _ _ c11, k0 _ _ c12, k1 _ _ c10, k1 _ _ c12, hx4, hy4, hz4, htx, hty, htz, e1, e2, lk, Nat.le_refl]
    exact ⟨_, _, _, rfl, by simp -implicitDefEqProofs only [upd_go, kept_go, ↓reduceIte, Nat.reduceEqDiff, Nat.reduceLT, reduceCtorEq]⟩
  obtain ⟨g1, σ1, v, e1, x1, hw1, h48, hv⟩ := law_guard q b4 b5 b6 a b c lv mv nv h4 hm4 hn4 f g σ hw c4 c5 c6 hL hLb hLc f4 f5 f6
  rw [seqR_go, seqR_go, e1, andThen_normal]
  cases v with
  | false =>
    obtain ⟨f', g', σ', e, q8⟩ := last f g1 σ1 x1 hw1 f10 f11 f12
    simp -implicitDefEqProofs only [condR_val, Sl_get, ↓reduceIte, Nat.reduceLT, h48, Bool.false_eq_true, skipR_go, andThen_normal]
    exact ⟨f', g', σ', e, q8⟩
  | true =>
    obtain ⟨va, vb, vc⟩ := hv rfl
    have k1 : ∀ b cs, σ.cells b = some cs → σ1.cells b = some cs := fun b cs hc => (x1.cells (hw.cells hc)).trans hc
    obtain ⟨σ2, e2, x2, hw2⟩ := ORc a b c lv mv nv h4 hm4 hn4 (valid va) (valid vb) (valid vc) σ1 hw1 (step x1 hw hL) (step x1 hw hLb) (step x1 hw hLc)
    have k2 : ∀ b cs, σ.cells b = some cs → σ2.cells b = some cs := fun b cs hc => (x2.cells (hw1.cells (k1 b cs hc))).trans (k1 b cs hc)
    have X2 := x1.trans x2
    obtain ⟨σ3, e3, x3, hw3⟩ := ORc x a c xv lv nv hx4 h4 hn4 ax (valid va) (valid vc) σ2 hw2 (step X2 hw hX) (step X2 hw hL) (step X2 hw hLc)
    have k3 : ∀ b cs, σ.cells b = some cs → σ3.cells b = some cs := fun b cs hc => (x3.cells (hw2.cells (k2 b cs hc))).trans (k2 b cs hc)
    have X3 := X2.trans x3
    obtain ⟨σ4, e4, x4, hw4⟩ := ORc b y x mv yv xv hm4 hy4 hx4 (valid vb) ay ax σ3 hw3 (step X3 hw hLb) (step X3 hw hY) (step X3 hw hX)
    simp -implicitDefEqProofs only [go_sem, ↓reduceIte, Nat.reduceLT, Nat.reduceEqDiff, Nat.reduceAdd, Nat.reduceMul, Nat.reduceLeDiff, Nat.reduceSub, r8_4_go, r8_4U, f4, f5, f6, f10, f11, f12, h48, k1 _ _ c4, k1 _ _ c5, k1 _ _ c6, k2 _ _ c10, k2 _ _ c4, k2 _ _ c6, k3 _ _ c5, k3 _ _ c11, k3 _ _ c10, h4, hm4, hn4, hx4, hy4, hz4, ht, htm, htn, htx, hty, htz, e2, e3, e4, skipR_go, Nat.le_refl]
    generalize hgg : upd _ 67 _ = g2
    obtain ⟨f', g', σ', e, q8⟩ := last f g2 σ4 (X3.trans x4) hw4 f10 f11 f12
    rw [seqR_go] at e
    exact ⟨f', g', σ', e, q8⟩
end Go.Proofs.YtokieofohmgjdaaGreatDoor
/- DatumOrder: what the reading says. -/
namespace Go.Proofs.YtokieofohmgjdaaGreatDoor
open Go Go.Eng
attribute [local congr] andThen_congr fops_congr fdraw_congr afterOp_congr drawF_congr
attribute [-go_sem] List.range_succ
theorem order_says (q : Nat) (la lb lc : List Value) (a b c : D) (p : Option Addr) (l : List Int) (cp : Nat) (hl : l.length < 9223372036854775808) (σ : FState) (hw : Wf σ) (hI : Ints σ p l) (hp : ∀ a, p = some a → a.block < σ.next)
    (ha4 : la.length = 4) (hb4 : lb.length = 4) (hc4 : lc.length = 4) (hA : LaidR (fun b => b < σ.next) σ (.agg la.toArray) a) (hB : LaidR (fun b => b < σ.next) σ (.agg lb.toArray) b) (hC : LaidR (fun b => b < σ.next) σ (.agg lc.toArray) c) :
    ∃ σ', fcall Tryz.prog nls (top (q + 500)) 8 [.agg la.toArray, .agg lb.toArray, .agg lc.toArray, .slice p l.length cp] none σ = .ret (.bool true) none σ' := by
  have x1 : Ext σ (((σ.push (.cells la TD) none).push (.cells lb TD) none).push (.cells lc TD) none) := (((Ext.refl _).push _ _).push _ _).push _ _
  have hw1 := ((hw.push (.cells la TD) none).push (.cells lb TD) none).push (.cells lc TD) none
  have c4 : (((σ.push (.cells la TD) none).push (.cells lb TD) none).push (.cells lc TD) none).cells σ.next = some la := by rw [cells_push, if_neg (by simp only [push_next]; omega), cells_push, if_neg (by rw [push_next]; omega), cells_push, if_pos rfl]; rfl
  have c5 : (((σ.push (.cells la TD) none).push (.cells lb TD) none).push (.cells lc TD) none).cells (σ.next + 1) = some lb := by rw [cells_push, if_neg (by simp only [push_next]; omega), cells_push, if_pos (by rw [push_next])]; rfl
  have c6 : (((σ.push (.cells la TD) none).push (.cells lb TD) none).push (.cells lc TD) none).cells (σ.next + 2) = some lc := by rw [cells_push, if_pos (by simp only [push_next])]; rfl
  rw [enter8 _ _ _ _ (by simp), Sl_start]
  unfold run8
  simp -implicitDefEqProofs only [go_sem, ↓reduceIte, Nat.reduceLT, Nat.reduceEqDiff, Nat.reduceAdd, Nat.reduceMul, Nat.reduceLeDiff, Nat.reduceSub, r8_0_go, r8_0U, Option.getD_some, List.getElem?_cons_zero, List.getElem?_cons_succ]
  have n1 : (((σ.push (.cells la TD) none).push (.cells lb TD) none).push (.cells lc TD) none).next = σ.next + 3 := rfl
  generalize (((σ.push (.cells la TD) none).push (.cells lb TD) none).push (.cells lc TD) none) = σ1 at x1 hw1 c4 c5 c6 n1 ⊢
  have hI1 : Ints σ1 p l := fun i n h => by
    obtain ⟨b, off, cs, h1, h2, h3⟩ := hI i n h
    exact ⟨b, off, cs, h1, (x1.cells (hw.cells h2)).trans h2, h3⟩
  obtain ⟨σ2, e2, x2, hw2, hC2⟩ := newCoil_go (q + 499) p l cp hl σ1 hw1 hI1 fun a h => by have := hp a h; omega
  have e2' : (top (q + 500)).call 12 [.slice p l.length cp] none σ1 = .ret (.pointer (some ⟨σ1.next, 0, none⟩)) none σ2 := (top_call _ _ _ _ rfl).trans e2
  have hn2 : σ1.next < σ2.next := by obtain ⟨_, _, _, _, _, h, _⟩ := hC2; exact (hw2 _ _ h).1
  have hw3v : wound 3 ≤ 1000 := by simp [wound]
  obtain ⟨vx, x, σ3, k3, e3, hX, mX, x3, hw3, hC3, _, hk3⟩ := datumOf_go (q + 493) σ1.next 3 (by omega) 0 σ2 (by omega) hw2 hC2
  obtain ⟨vy, y, σ4, k4, e4, hY, mY, x4, hw4, hC4, _, hk4⟩ := datumOf_go (q + 493) σ1.next 3 (by omega) k3 σ3 (by omega) hw3 hC3
  obtain ⟨vz, z, σ5, k5, e5, hZ, mZ, x5, hw5, hC5, _, hk5⟩ := datumOf_go (q + 493) σ1.next 3 (by omega) k4 σ4 (by omega) hw4 hC4
  have n2 := x2.next
  have n3 := x3.next
  have n4 := x4.next
  have n5 := x5.next
  have e3' : (top (q + 500)).call 11 [.pointer (some ⟨σ1.next, 0, none⟩), .int .i64 3] none σ2 = .ret vx none σ3 := (top_call _ _ _ _ rfl).trans e3
  have e4' : (top (q + 500)).call 11 [.pointer (some ⟨σ1.next, 0, none⟩), .int .i64 3] none σ3 = .ret vy none σ4 := (top_call _ _ _ _ rfl).trans e4
  have e5' : (top (q + 500)).call 11 [.pointer (some ⟨σ1.next, 0, none⟩), .int .i64 3] none σ4 = .ret vz none σ5 := (top_call _ _ _ _ rfl).trans e5
  have kA : ∀ b cs, b < σ1.next → σ1.cells b = some cs → σ5.cells b = some cs := fun b cs hb hc => by
    have h2 := (x2.cells hb).trans hc
    have h3 := (x3.cells (by omega) (by omega)).trans h2
    have h4 := (x4.cells (by omega) (by omega)).trans h3
    exact (x5.cells (by omega) (by omega)).trans h4
  have kX : ∀ b cs, New σ2 σ3 b → σ3.cells b = some cs → σ5.cells b = some cs := fun b cs hb hc => by
    have h4 := (x4.cells hb.2 (by have := hb.1; omega)).trans hc
    exact (x5.cells (by have := hb.2; omega) (by have := hb.1; omega)).trans h4
  have kY : ∀ b cs, New σ3 σ4 b → σ4.cells b = some cs → σ5.cells b = some cs := fun b cs hb hc => (x5.cells hb.2 (by have := hb.1; omega)).trans hc
  have LA5 : ∀ {v : Value} {d : D}, LaidR (fun b => b < σ.next) σ v d → LaidR (fun b => b < σ5.next) σ5 v d := fun h => h.keep fun b cs hb hc => ⟨kA b cs (by omega) ((x1.cells hb).trans hc), by omega⟩
  have LX5 : LaidR (fun b => b < σ5.next) σ5 vx x := hX.keep fun b cs hb hc => ⟨kX b cs hb hc, by have := hb.2; omega⟩
  have LY5 : LaidR (fun b => b < σ5.next) σ5 vy y := hY.keep fun b cs hb hc => ⟨kY b cs hb hc, by have := hb.2; omega⟩
  have LZ5 : LaidR (fun b => b < σ5.next) σ5 vz z := hZ.keep fun b cs hb hc => ⟨hc, hb.2⟩
  obtain ⟨xv, rfl, hx4, hox⟩ := hX.agg
  obtain ⟨yv, rfl, hy4, hoy⟩ := hY.agg
  obtain ⟨zv, rfl, hz4, hoz⟩ := hZ.agg
  have d4 := kA _ _ (by omega) c4
  have d5 := kA _ _ (by omega) c5
  have d6 := kA _ _ (by omega) c6
  simp -implicitDefEqProofs only [go_sem, ↓reduceIte, Nat.reduceLT, Nat.reduceEqDiff, Nat.reduceAdd, Nat.reduceMul, Nat.reduceLeDiff, Nat.reduceSub, fstoreN, r8_1_go, r8_1U, r8_2_go, r8_2U, Option.getD_some, List.getElem?_cons_zero, List.getElem?_cons_succ, e2', e3', e4', e5', hx4, hy4, hz4, hox, hoy, hoz]
  have x6 : Ext σ5 ((((((σ5.push (.cells [.int .i64 0, .int .i64 0, .string ⟨#[]⟩, .slice none 0 0] TD) none).push (.cells [.int .i64 0, .int .i64 0, .string ⟨#[]⟩, .slice none 0 0] TD) none).push (.cells [.int .i64 0, .int .i64 0, .string ⟨#[]⟩, .slice none 0 0] TD) none).put σ5.next (.cells xv TD) none).put (σ5.next + 1) (.cells yv TD) none).put (σ5.next + 2) (.cells zv TD) none) := ((((((Ext.refl _).push _ _).push _ _).push _ _).put _ _ _ (Nat.le_refl _)).put _ _ _ (by omega)).put _ _ _ (by omega)
  have hw6 : Wf ((((((σ5.push (.cells [.int .i64 0, .int .i64 0, .string ⟨#[]⟩, .slice none 0 0] TD) none).push (.cells [.int .i64 0, .int .i64 0, .string ⟨#[]⟩, .slice none 0 0] TD) none).push (.cells [.int .i64 0, .int .i64 0, .string ⟨#[]⟩, .slice none 0 0] TD) none).put σ5.next (.cells xv TD) none).put (σ5.next + 1) (.cells yv TD) none).put (σ5.next + 2) (.cells zv TD) none) := (((((hw5.push _ _).push _ _).push _ _).put _ _ _ (by simp only [push_next]; omega)).put _ _ _ (by simp only [push_next, put_next]; omega)).put _ _ _ (by simp only [push_next, put_next]; omega)
  have g10 : ((((((σ5.push (.cells [.int .i64 0, .int .i64 0, .string ⟨#[]⟩, .slice none 0 0] TD) none).push (.cells [.int .i64 0, .int .i64 0, .string ⟨#[]⟩, .slice none 0 0] TD) none).push (.cells [.int .i64 0, .int .i64 0, .string ⟨#[]⟩, .slice none 0 0] TD) none).put σ5.next (.cells xv TD) none).put (σ5.next + 1) (.cells yv TD) none).put (σ5.next + 2) (.cells zv TD) none).cells σ5.next = some xv := by rw [cells_put, if_neg (by omega), cells_put, if_neg (by omega), cells_put, if_pos rfl]; rfl
  have g11 : ((((((σ5.push (.cells [.int .i64 0, .int .i64 0, .string ⟨#[]⟩, .slice none 0 0] TD) none).push (.cells [.int .i64 0, .int .i64 0, .string ⟨#[]⟩, .slice none 0 0] TD) none).push (.cells [.int .i64 0, .int .i64 0, .string ⟨#[]⟩, .slice none 0 0] TD) none).put σ5.next (.cells xv TD) none).put (σ5.next + 1) (.cells yv TD) none).put (σ5.next + 2) (.cells zv TD) none).cells (σ5.next + 1) = some yv := by rw [cells_put, if_neg (by omega), cells_put, if_pos rfl]; rfl
  have g12 : ((((((σ5.push (.cells [.int .i64 0, .int .i64 0, .string ⟨#[]⟩, .slice none 0 0] TD) none).push (.cells [.int .i64 0, .int .i64 0, .string ⟨#[]⟩, .slice none 0 0] TD) none).push (.cells [.int .i64 0, .int .i64 0, .string ⟨#[]⟩, .slice none 0 0] TD) none).put σ5.next (.cells xv TD) none).put (σ5.next + 1) (.cells yv TD) none).put (σ5.next + 2) (.cells zv TD) none).cells (σ5.next + 2) = some zv := by rw [cells_put, if_pos rfl]; rfl
  generalize hff : upd _ 12 _ = f1
  generalize hgg : upd _ 20 _ = g1
  generalize FState.put _ _ _ _ = σ6 at x6 hw6 g10 g11 g12 ⊢
  have step : ∀ {v : Value} {d : D}, LaidR (fun b => b < σ5.next) σ5 v d → LaidR (fun b => b < σ6.next) σ6 v d := fun h => h.keep fun b cs hb hc => ⟨(x6.cells hb).trans hc, by have := x6.next; omega⟩
  have mk : ∀ {d : D}, Made 3 d → Apart (q + 490) d ∧ d.deep ≤ 150 := fun h => made_apart (q + 470) (Nat.le_refl _) h
  have h := law_rest q σ.next (σ.next + 1) (σ.next + 2) σ5.next (σ5.next + 1) (σ5.next + 2) a b c x y z la lb lc xv yv zv ha4 hb4 hc4 hx4 hy4 hz4 f1 g1 σ6 hw6
    ((x6.cells (hw5.cells d4)).trans d4) ((x6.cells (hw5.cells d5)).trans d5) ((x6.cells (hw5.cells d6)).trans d6) g10 g11 g12 (step (LA5 hA)) (step (LA5 hB)) (step (LA5 hC)) (step LX5) (step LY5) (step LZ5) (mk mX) (mk mY) (mk mZ)
    (by rw [← hff]; simp -implicitDefEqProofs only [upd_go, kept_go, ↓reduceIte, Nat.reduceEqDiff, Nat.reduceLT, reduceCtorEq]) (by rw [← hff]; simp -implicitDefEqProofs only [upd_go, kept_go, ↓reduceIte, Nat.reduceEqDiff, Nat.reduceLT, reduceCtorEq]) (by rw [← hff]; simp -implicitDefEqProofs only [upd_go, kept_go, ↓reduceIte, Nat.reduceEqDiff, Nat.reduceLT, reduceCtorEq]) (by rw [← hff]; simp -implicitDefEqProofs only [upd_go, kept_go, ↓reduceIte, Nat.reduceEqDiff, Nat.reduceLT, reduceCtorEq]) (by rw [← hff]; simp -implicitDefEqProofs only [upd_go, kept_go, ↓reduceIte, Nat.reduceEqDiff, Nat.reduceLT, reduceCtorEq]) (by rw [← hff]; simp -implicitDefEqProofs only [upd_go, kept_go, ↓reduceIte, Nat.reduceEqDiff, Nat.reduceLT, reduceCtorEq])
  rw [seqR_go, seqR_go] at h
  obtain ⟨f', g', σ', e, q8⟩ := h
  rw [e]
  simp -implicitDefEqProofs only [go_sem, ↓reduceIte, Nat.reduceLT, Nat.reduceEqDiff, Nat.reduceAdd, Nat.reduceMul, Nat.reduceLeDiff, Nat.reduceSub, q8]
  exact ⟨_, rfl⟩
end Go.Proofs.YtokieofohmgjdaaGreatDoor
/- Calls of laws with data: what the reading says is so of every run. -/
namespace Go.Proofs.YtokieofohmgjdaaGreatDoor
open Go Go.Eng Go.ChangeShapes Go.WideShapes Go.RowKit
abbrev Fine4 (W : World) (e : Ending) (W' : World) : Prop := e = .returned (.bool true) ∧ W'.os = W.os ∧ W'.output = W.output ∧ W'.tape = W.tape ∧ W.heap.size ≤ W'.heap.size ∧ ∀ i, i < W.heap.size → W'.heap[i]? = W.heap[i]?
theorem law_seen {f : FuncId} {fn : Func} {body : Code} (hf : Tryz.prog.funcs[f]? = some fn) (hb : fn.body = some body) (n : Nat) (W : World) (vs : List Value) (hg : W.cell? ⟨0, 0, none⟩ = some handle)
    (h : ∃ σ', fcall Tryz.prog nls (top n) f (vs.map (seenA W)) none (seenS W) = .ret (.bool true) none σ') : Calls Tryz.prog f vs.toArray W (Fine4 W) :=
  law_calls hf hb n (seenS W) (seenM W) W (vs.map (seenA W)) vs.toArray hg (seen_rel (cell_cells hg).2.1) (by simpa using seenArgs_rel (cell_cells hg).2.1 vs) seen_ro h
/-- A datum among the arguments. -/
theorem arg_datum {H : Type} {enc : TypeId × Value → H} {W : World} {v : Value} {d : DataW H} {p : List MemPlace} (h : DataW.Trod enc Tryz.prog W 0 (fun _ => true) true TD v d p) (hv : ∃ cs, v = .agg cs ∧ cs.size = Tryz.prog.cellsOf TD) :
    ∃ (lv : List Value) (x : D), seenA W v = .agg lv.toArray ∧ lv.length = 4 ∧ LaidR (fun b => b < (seenS W).next) (seenS W) (.agg lv.toArray) x := by
  obtain ⟨cs, rfl, _⟩ := hv
  obtain ⟨fuel, h⟩ := h
  obtain ⟨hl, x, hx⟩ := trod_datum fuel _ _ h
  have hl' : cs.toList.length = 4 := hl
  exact ⟨_, x, rfl, by simpa using hl', hx⟩
/-- A list of numbers among the arguments. -/
theorem arg_ints {H : Type} {enc : TypeId × Value → H} {W : World} {v : Value} {d : DataW H} {p : List MemPlace} (hg : W.cell? ⟨0, 0, none⟩ = some handle) (h : DataW.Trod enc Tryz.prog W 0 (fun _ => true) true 25 v d p) (hv : ∃ a len cap, v = .slice a len cap) :
    ∃ (q : Option Addr) (l : List Int) (cp : Nat), seenA W v = .slice q l.length cp ∧ l.length < 9223372036854775808 ∧ Ints (seenS W) q l ∧ ∀ a, q = some a → a.block < (seenS W).next := by
  obtain ⟨a0, len0, cap0, rfl⟩ := hv
  obtain ⟨fuel, h⟩ := h
  have und : Tryz.prog.underlying 25 = some (.slice TI) := by kernel_rfl
  rcases open_ints und und_int (by kernel_rfl) h with ⟨hc, hx⟩ | ⟨a, len, cap, zs, hc, hb, hl, hm, hz, hx, hcell, hwf⟩
  · have hv : Value.slice a0 len0 cap0 = .slice none 0 0 := by simpa [Value.cells] using hc
    rw [hv]
    exact ⟨none, [], 0, rfl, by simp, fun i n h => by simp at h, fun a h => by cases h⟩
  · have hv : Value.slice a0 len0 cap0 = .slice (some a) len cap := by simpa [Value.cells] using hc
    rw [hv]
    rw [if_pos rfl] at hz
    obtain ⟨q, c, h1, h2, h3, h4⟩ := seen_ints hl hz hcell
    refine ⟨q, zs.take len, c, by rw [h3]; exact h1, by unfold maxLen at hm; omega, h2, fun b hb => ?_⟩
    have hgs : isCells W 0 = true := (cell_cells hg).2.1
    have key : isCells W b.block = true := by
      rcases h4 b hb with h | h
      · rw [h]; exact hgs
      · exact h
    obtain ⟨c', t', fr', h5⟩ := isCells_iff.1 key
    exact (Array.getElem?_eq_some_iff.1 h5).1
theorem order_calls {H : Type} {enc : TypeId × Value → H} (W : World) (hg : W.cell? ⟨0, 0, none⟩ = some handle) {v0 v1 v2 v3 : Value} {d0 d1 d2 d3 : DataW H} {p0 p1 p2 p3 : List MemPlace}
    (h0 : DataW.Trod enc Tryz.prog W 0 (fun _ => true) true TD v0 d0 p0) (h1 : DataW.Trod enc Tryz.prog W 0 (fun _ => true) true TD v1 d1 p1) (h2 : DataW.Trod enc Tryz.prog W 0 (fun _ => true) true TD v2 d2 p2) (h3 : DataW.Trod enc Tryz.prog W 0 (fun _ => true) true 25 v3 d3 p3)
    (k0 : ∃ cs, v0 = .agg cs ∧ cs.size = Tryz.prog.cellsOf TD) (k1 : ∃ cs, v1 = .agg cs ∧ cs.size = Tryz.prog.cellsOf TD) (k2 : ∃ cs, v2 = .agg cs ∧ cs.size = Tryz.prog.cellsOf TD) (k3 : ∃ a len cap, v3 = .slice a len cap) :
    Calls Tryz.prog 8 #[v0, v1, v2, v3] W (Fine4 W) := by
  obtain ⟨la, a, ea, ha4, hA⟩ := arg_datum h0 k0
  obtain ⟨lb, b, eb, hb4, hB⟩ := arg_datum h1 k1
  obtain ⟨lc, c, ec, hc4, hC⟩ := arg_datum h2 k2
  obtain ⟨q, l, cp, el, hl, hI, hq⟩ := arg_ints hg h3 k3
  refine law_seen Tryz.func8 rfl 500 W [v0, v1, v2, v3] hg ?_
  have e : [v0, v1, v2, v3].map (seenA W) = [.agg la.toArray, .agg lb.toArray, .agg lc.toArray, .slice q l.length cp] := by simp only [List.map_cons, List.map_nil, ea, eb, ec, el]
  rw [e]
  obtain ⟨σ', h⟩ := order_says 0 la lb lc a b c q l cp hl (seenS W) (seen_wf W) hI hq ha4 hb4 hc4 hA hB hC
  exact ⟨σ', by rwa [Nat.zero_add] at h⟩
end Go.Proofs.YtokieofohmgjdaaGreatDoor
