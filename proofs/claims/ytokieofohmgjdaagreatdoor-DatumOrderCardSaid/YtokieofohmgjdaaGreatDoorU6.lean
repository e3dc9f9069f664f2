/- The reading of the program, and what is so of it: SymOc, SymOd, SymOe, SymJa, SymCQ, SymJb, SymJc, SymJd, SymWb, SymCW, SymWc, SymWd, SymWe, SymJe, SymWf, SymWg, SymWh, SymWi, SymWj, SymWk, SymWl. -/
import Derived.Test.YtokieofohmgjdaaGreatDoorU5
import Derived.Test.YtokieofohmgjdaaGreatDoorU3
import Derived.Test.YtokieofohmgjdaaGreatDoorU4
set_option linter.unusedSimpArgs false
set_option linter.unusedVariables false
/- The order of data. -/
namespace Go.Proofs.YtokieofohmgjdaaGreatDoor
open Go Go.Eng
attribute [local congr] andThen_congr fops_congr fdraw_congr afterOp_congr drawF_congr
attribute [-go_sem] List.range_succ
theorem ordEmpty (v w : Value) (σ : FState) : finvoke Tryz.prog (.iface 187 v) "caracole/datum.order" [w] σ = .enter 234 [v, w] σ := by kernel_rfl
theorem ordNumber (v w : Value) (σ : FState) : finvoke Tryz.prog (.iface 184 v) "caracole/datum.order" [w] σ = .enter 232 [v, w] σ := by kernel_rfl
theorem ordText (v w : Value) (σ : FState) : finvoke Tryz.prog (.iface 151 v) "caracole/datum.order" [w] σ = .enter 226 [v, w] σ := by kernel_rfl
theorem ordBranch (v w : Value) (σ : FState) : finvoke Tryz.prog (.iface 188 v) "caracole/datum.order" [w] σ = .enter 236 [v, w] σ := by kernel_rfl
section
variable (k z k' z' : Int) (t t' : ByteArray) (p p' : Option Addr) (l l' c c' : Nat) (σ : FState) (hw : Wf σ)
include hw
theorem ordE_go (n : Nat) : Gives ((env (n + 1)).call 234 [.agg #[.int .i64 k, .int .i64 z, .string t, .slice p l c], .agg #[.int .i64 k', .int .i64 z', .string t', .slice p' l' c']] none σ) σ fun r _ => r = .int .i64 0 := by
  rw [env_call _ 234 _ _ rfl, enter234 _ _ _ _ (by simp), Sl_start]
  unfold run234
  simp -implicitDefEqProofs only [go_sem, ↓reduceIte, Nat.reduceLT, Nat.reduceEqDiff, Nat.reduceAdd, Nat.reduceMul, Nat.reduceLeDiff, Nat.reduceSub, r234_0_go, r234_0U, r234_1_go, r234_1U, Option.getD_some, List.getElem?_cons_zero, List.getElem?_cons_succ]
  exact ⟨_, _, rfl, ((Ext.refl _).push _ _).push _ _, (hw.push _ _).push _ _, rfl⟩
theorem ordN_go (n : Nat) : Gives ((env (n + 3)).call 232 [.agg #[.int .i64 k, .int .i64 z, .string t, .slice p l c], .agg #[.int .i64 k', .int .i64 z', .string t', .slice p' l' c']] none σ) σ fun r _ => r = .int .i64 (ordI z z') := by
  rw [env_call _ 232 _ _ rfl, enter232 _ _ _ _ (by simp), Sl_start]
  unfold run232
  simp -implicitDefEqProofs only [go_sem, ↓reduceIte, Nat.reduceLT, Nat.reduceEqDiff, Nat.reduceAdd, Nat.reduceMul, Nat.reduceLeDiff, Nat.reduceSub, r232_0_go, r232_0U, r232_1_go, r232_1U, Option.getD_some, List.getElem?_cons_zero, List.getElem?_cons_succ, cmpInt_go]
  exact ⟨_, _, rfl, ((Ext.refl _).push _ _).push _ _, (hw.push _ _).push _ _, rfl⟩
theorem ordT_go (n : Nat) : Gives ((env (n + 4)).call 226 [.agg #[.int .i64 k, .int .i64 z, .string t, .slice p l c], .agg #[.int .i64 k', .int .i64 z', .string t', .slice p' l' c']] none σ) σ fun r _ => r = .int .i64 (Extern.BytealgCompare.cmp t t') := by
  rw [env_call _ 226 _ _ rfl, enter226 _ _ _ _ (by simp), Sl_start]
  unfold run226
  simp -implicitDefEqProofs only [go_sem, ↓reduceIte, Nat.reduceLT, Nat.reduceEqDiff, Nat.reduceAdd, Nat.reduceMul, Nat.reduceLeDiff, Nat.reduceSub, r226_0_go, r226_0U, r226_1_go, r226_1U, Option.getD_some, List.getElem?_cons_zero, List.getElem?_cons_succ, cmpText_go]
  exact ⟨_, _, rfl, ((Ext.refl _).push _ _).push _ _, (hw.push _ _).push _ _, rfl⟩
end
theorem ordB_go (m : Nat) (R : Nat → Prop) (ds es : List D) (k z k' z' : Int) (t t' : ByteArray) (p p' : Option Addr) (c c' : Nat) (hds : ds.length < 1000000) (hes : es.length < 1000000) (σ : FState) (hw : Wf σ) (hE : LaidRE R σ p 0 ds) (hE' : LaidRE R σ p' 0 es)
    (hO : ∀ (i : Nat) (d e : D), ds[i]? = some d → es[i]? = some e → ∀ v w σ', Wf σ' → LaidR R σ' v d → LaidR R σ' w e → Gives ((env m).call 88 [v, w] none σ') σ' fun r _ => OrdR d e r) :
    Gives ((env (m + 2)).call 236 [.agg #[.int .i64 k, .int .i64 z, .string t, .slice p ds.length c], .agg #[.int .i64 k', .int .i64 z', .string t', .slice p' es.length c']] none σ) σ fun r _ => r = .int .i64 (ordUs ds es) := by
  rw [env_call _ 236 _ _ rfl, enter236 _ _ _ _ (by simp), Sl_start]
  unfold run236
  have x1 : ∀ o o' : FObj, Ext σ ((σ.push o none).push o' none) := fun o o' => ((Ext.refl _).push _ _).push _ _
  have hw1 : ∀ o o' : FObj, Wf ((σ.push o none).push o' none) := fun o o' => (hw.push _ _).push _ _
  obtain ⟨_, σ2, e2, x2, hw2, rfl⟩ := cf_go m R ds es p p' c c' hds hes _ (hw1 (.cells [.int .i64 k, .int .i64 z, .string t, .slice p ds.length c] 188) (.cells [.int .i64 k', .int .i64 z', .string t', .slice p' es.length c'] TD)) (hE.keep fun b cs hb hc => ⟨((x1 _ _).cells (hw.cells hc)).trans hc, hb⟩) (hE'.keep fun b cs hb hc => ⟨((x1 _ _).cells (hw.cells hc)).trans hc, hb⟩) hO
  simp -implicitDefEqProofs only [go_sem, ↓reduceIte, Nat.reduceLT, Nat.reduceEqDiff, Nat.reduceAdd, Nat.reduceMul, Nat.reduceLeDiff, Nat.reduceSub, r236_0_go, r236_0U, r236_1_go, r236_1U, Option.getD_some, List.getElem?_cons_zero, List.getElem?_cons_succ, e2]
  exact ⟨_, _, rfl, (x1 _ _).trans x2, hw2, rfl⟩
end Go.Proofs.YtokieofohmgjdaaGreatDoor
/- The order of data, whole. -/
namespace Go.Proofs.YtokieofohmgjdaaGreatDoor
open Go Go.Eng
attribute [local congr] andThen_congr fops_congr fdraw_congr afterOp_congr drawF_congr
attribute [-go_sem] List.range_succ
theorem order_same (M kn : Nat) (hk : kn ≤ 6) (X : Nat) (hinv : ∀ v w σ, finvoke Tryz.prog (.iface (workType kn) v) "caracole/datum.order" [w] σ = .enter X [v, w] σ) (z z' : Int) (t t' : ByteArray) (p p' : Option Addr) (l l' c c' : Nat) (σ : FState) (hw : Wf σ) (Q : Int → Prop)
    (hX : ∀ σ', Ext σ σ' → Wf σ' → Gives ((env (M + 2)).call X [.agg #[.int .i64 (kn : Int), .int .i64 z, .string t, .slice p l c], .agg #[.int .i64 (kn : Int), .int .i64 z', .string t', .slice p' l' c']] none σ') σ' fun r _ => ∃ x : Int, r = .int .i64 x ∧ Q x) :
    Gives ((env (M + 3)).call 88 [.agg #[.int .i64 (kn : Int), .int .i64 z, .string t, .slice p l c], .agg #[.int .i64 (kn : Int), .int .i64 z', .string t', .slice p' l' c']] none σ) σ fun r _ => ∃ x : Int, r = .int .i64 x ∧ Q x := by
  rw [env_call _ 88 _ _ rfl, enter88 _ _ _ _ (by simp), Sl_start]
  unfold run88
  have x1 : Ext σ ((σ.push (.cells [.int .i64 (kn : Int), .int .i64 z, .string t, .slice p l c] TD) none).push (.cells [.int .i64 (kn : Int), .int .i64 z', .string t', .slice p' l' c'] TD) none) := ((Ext.refl _).push _ _).push _ _
  have hw1 := (hw.push (.cells [.int .i64 (kn : Int), .int .i64 z, .string t, .slice p l c] TD) none).push (.cells [.int .i64 (kn : Int), .int .i64 z', .string t', .slice p' l' c'] TD) none
  have c1 : ((σ.push (.cells [.int .i64 (kn : Int), .int .i64 z, .string t, .slice p l c] TD) none).push (.cells [.int .i64 (kn : Int), .int .i64 z', .string t', .slice p' l' c'] TD) none).cells σ.next = some [.int .i64 (kn : Int), .int .i64 z, .string t, .slice p l c] := by rw [cells_push, if_neg (by rw [push_next]; omega), cells_push, if_pos rfl]; rfl
  have c2 : ((σ.push (.cells [.int .i64 (kn : Int), .int .i64 z, .string t, .slice p l c] TD) none).push (.cells [.int .i64 (kn : Int), .int .i64 z', .string t', .slice p' l' c'] TD) none).cells (σ.next + 1) = some [.int .i64 (kn : Int), .int .i64 z', .string t', .slice p' l' c'] := by rw [cells_push, if_pos (by rw [push_next])]; rfl
  have n1 : ((σ.push (.cells [.int .i64 (kn : Int), .int .i64 z, .string t, .slice p l c] TD) none).push (.cells [.int .i64 (kn : Int), .int .i64 z', .string t', .slice p' l' c'] TD) none).next = σ.next + 2 := rfl
  simp -implicitDefEqProofs only [go_sem, ↓reduceIte, Nat.reduceLT, Nat.reduceEqDiff, Nat.reduceAdd, Nat.reduceMul, Nat.reduceLeDiff, Nat.reduceSub, r88_0_go, r88_0U, Option.getD_some, List.getElem?_cons_zero, List.getElem?_cons_succ]
  generalize FState.push _ _ _ = σ1 at x1 hw1 c1 c2 n1 ⊢
  obtain ⟨_, σ2, e2, x2, hw2, rfl⟩ := atWork_go (M + 1) kn hk z t (.slice p l c) rfl σ1 hw1
  obtain ⟨_, σ3, e3, x3, hw3, x, rfl, hx⟩ := hX σ2 (x1.trans x2) hw2
  have o0 : ordI (kn : Int) (kn : Int) = 0 := (ordI_zero _ _).2 rfl
  have hv1 := view_wf hw1 (Nat.le_refl σ1.clock)
  have hv2 : (view σ2 σ1.clock).cells (σ.next + 1) = some [.int .i64 (kn : Int), .int .i64 z', .string t', .slice p' l' c'] := view_old hw1 (Nat.le_refl _) (x2.get _ (by omega)) c2
  have ib : ((0 : Int) == 0) = true := rfl
  simp -implicitDefEqProofs only [go_sem, ↓reduceIte, Nat.reduceLT, Nat.reduceEqDiff, Nat.reduceAdd, Nat.reduceMul, Nat.reduceLeDiff, Nat.reduceSub, r88_1_go, r88_1U, r88_2_go, r88_2U, r88_4_go, r88_4U, cmpInt_go, o0, c1, c2, hv1, hv2, e2, hinv, e3, ib, skipR_go]
  exact ⟨_, _, rfl, (x1.trans x2).trans x3, hw3, x, rfl, hx⟩
theorem order_apart (M : Nat) (k k' z z' : Int) (t t' : ByteArray) (p p' : Option Addr) (l l' c c' : Nat) (σ : FState) (hw : Wf σ) (hne : k ≠ k') :
    Gives ((env (M + 3)).call 88 [.agg #[.int .i64 k, .int .i64 z, .string t, .slice p l c], .agg #[.int .i64 k', .int .i64 z', .string t', .slice p' l' c']] none σ) σ fun r _ => r = .int .i64 (ordI k k') := by
  rw [env_call _ 88 _ _ rfl, enter88 _ _ _ _ (by simp), Sl_start]
  unfold run88
  have o0 : ordI k k' ≠ 0 := fun h => hne ((ordI_zero _ _).1 h)
  have ib : (ordI k k' == 0) = false := by simpa using o0
  simp -implicitDefEqProofs only [go_sem, ↓reduceIte, Nat.reduceLT, Nat.reduceEqDiff, Nat.reduceAdd, Nat.reduceMul, Nat.reduceLeDiff, Nat.reduceSub, r88_0_go, r88_0U, r88_1_go, r88_1U, r88_2_go, r88_2U, r88_3_go, r88_3U, Option.getD_some, List.getElem?_cons_zero, List.getElem?_cons_succ, cmpInt_go, ib]
  exact ⟨_, _, rfl, ((Ext.refl _).push _ _).push _ _, (hw.push _ _).push _ _, rfl⟩
theorem thenI_left (a : Int) : thenI a 0 = a := by
  unfold thenI
  split <;> omega
theorem ordU_parts (k z : Int) (t : ByteArray) (ds es : List D) : ordU (.mk k z t ds) (.mk k z t es) = ordUs ds es := by
  rw [ordU, thenI, if_pos (ordZ_zero.2 rfl), thenI, if_pos (ordZ_zero.2 rfl), thenI, if_pos (cmpT_zero.2 rfl)]
theorem ordU_num (k z z' : Int) (t : ByteArray) (ds : List D) : ordU (.mk k z t ds) (.mk k z' t ds) = ordI z z' := by
  rw [ordU, thenI, if_pos (ordZ_zero.2 rfl), (ordUs_zero ds ds).2 rfl, cmpT_zero.2 rfl, thenI_left, thenI_left]
  rfl
theorem ordU_text (k z : Int) (t t' : ByteArray) (ds : List D) : ordU (.mk k z t ds) (.mk k z t' ds) = Extern.BytealgCompare.cmp t t' := by
  rw [ordU, thenI, if_pos (ordZ_zero.2 rfl), thenI, if_pos (ordZ_zero.2 rfl), (ordUs_zero ds ds).2 rfl, thenI_left]
theorem ordU_kind {k k' : Int} (h : k ≠ k') (z z' : Int) (t t' : ByteArray) (ds es : List D) : ordU (.mk k z t ds) (.mk k' z' t' es) = ordI k k' := by
  rw [ordU, thenI, if_neg (fun h' => h (ordZ_zero.1 h'))]
  rfl
theorem piecesL_part (path : List Nat) : ∀ (ds : List D) (j i : Nat) (d : D), ds[i]? = some d → ∀ x ∈ d.pieces (path ++ [j + i]), x ∈ D.piecesL path j ds
  | [], j, i, d, h => by simp at h
  | d0 :: ds, j, 0, d, h => fun x hx => by
    cases h
    rw [D.piecesL]
    exact List.mem_append_left _ hx
  | d0 :: ds, j, i + 1, d, h => fun x hx => by
    rw [D.piecesL]
    exact List.mem_append_right _ (piecesL_part path ds (j + 1) i d h x (by rw [show j + 1 + i = j + (i + 1) by omega]; exact hx))
theorem order_go (m n : Nat) (R : Nat → Prop) : ∀ (N : Nat) (d e : D) (pd pe : List Nat) (v w : Value) (σ : FState), d.deep ≤ N → (∀ x ∈ d.pieces pd, x.2.parts.length ≤ 900 ∧ GoodD m x.2) → (∀ x ∈ e.pieces pe, x.2.parts.length ≤ 900 ∧ GoodD m x.2) → Wf σ → LaidR R σ v d → LaidR R σ w e →
    Gives ((env (n + 6 + 3 * N)).call 88 [v, w] none σ) σ fun r _ => OrdR d e r := by
  intro N
  induction N with
  | zero =>
    intro d e pd pe v w σ hN
    obtain ⟨k, z, t, ds⟩ := d
    rw [D.deep] at hN
    omega
  | succ N ih =>
    intro d e pd pe v w σ hN hd he hw hL hLe
    obtain ⟨k, z, t, ds⟩ := d
    obtain ⟨k', z', t', es⟩ := e
    have hd0 := hd _ (by rw [D.pieces_eq]; exact List.mem_cons_self)
    have he0 := he _ (by rw [D.pieces_eq]; exact List.mem_cons_self)
    obtain ⟨kn, rfl, hG⟩ := hd0.2 k z t ds rfl
    obtain ⟨kn', rfl, hG'⟩ := he0.2 k' z' t' es rfl
    obtain ⟨p, c, rfl, hE⟩ := hL
    obtain ⟨p', c', rfl, hE'⟩ := hLe
    have hM : n + 6 + 3 * (N + 1) = (n + 6 + 3 * N) + 3 := by omega
    rw [hM]
    have hl3 : ds.length ≤ 900 := hd0.1
    have hl3' : es.length ≤ 900 := he0.1
    by_cases hk : kn = kn'
    · subst hk
      have fin : ∀ {d e : D} {r : CRes} {τ : FState}, Gives r τ (fun r _ => ∃ x : Int, r = .int .i64 x ∧ x = ordU d e) → Gives r τ (fun r _ => OrdR d e r) := fun ⟨v, τ', h1, h2, h3, x, h4, h5⟩ => ⟨v, τ', h1, h2, h3, by rw [h4, h5]; rfl⟩
      have branch : ∀ (hb : workType kn = workType 5) (hk6 : kn ≤ 6) (hz : z = 0) (hz' : z' = 0) (ht : t = ⟨#[]⟩) (ht' : t' = ⟨#[]⟩),
          Gives ((env ((n + 6 + 3 * N) + 3)).call 88 [.agg #[.int .i64 (kn : Int), .int .i64 z, .string t, .slice p ds.length c], .agg #[.int .i64 (kn : Int), .int .i64 z', .string t', .slice p' es.length c']] none σ) σ fun r _ => OrdR (.mk kn z t ds) (.mk kn z' t' es) r := fun hb hk6 hz hz' ht ht' => by
        subst hz hz' ht ht'
        refine fin (order_same (n + 6 + 3 * N) kn hk6 236 (fun v w σ => by rw [hb]; exact ordBranch v w σ) _ _ _ _ p p' _ _ c c' σ hw (fun x => x = ordU (.mk kn 0 ⟨#[]⟩ ds) (.mk kn 0 ⟨#[]⟩ es)) fun σ' hX hw' => (fun ⟨v, τ', h1, h2, h3, h4⟩ => ⟨v, τ', h1, h2, h3, _, h4, (ordU_parts _ _ _ _ _).symm⟩) (ordB_go (n + 6 + 3 * N) R ds es _ _ _ _ _ _ p p' c c' (by omega) (by omega) σ' hw' (hE.keep fun b cs hb hc => ⟨(hX.cells (hw.cells hc)).trans hc, hb⟩) (hE'.keep fun b cs hb hc => ⟨(hX.cells (hw.cells hc)).trans hc, hb⟩)
          fun i d e hd' he' v w σ2 hw2 hl hl' => ih d e (pd ++ [0 + i]) (pe ++ [0 + i]) v w σ2 (by rw [D.deep] at hN; have := deeps_mem (List.mem_of_getElem? hd'); omega) (fun x hx => hd x (by rw [D.pieces_eq]; exact List.mem_cons_of_mem _ (piecesL_part pd ds 0 i d hd' x hx))) (fun x hx => he x (by rw [D.pieces_eq]; exact List.mem_cons_of_mem _ (piecesL_part pe es 0 i e he' x hx))) hw2 hl hl'))
      obtain ⟨ln, hln⟩ : ∃ ln, ds.length = ln := ⟨_, rfl⟩
      obtain ⟨ln', hln'⟩ : ∃ ln, es.length = ln := ⟨_, rfl⟩
      rw [hln] at hG
      rw [hln'] at hG'
      have num : ∀ (hb : workType kn = workType 1) (hk6 : kn ≤ 6) (ht : t = t') (hds : ds = es), Gives ((env ((n + 6 + 3 * N) + 3)).call 88 [.agg #[.int .i64 (kn : Int), .int .i64 z, .string t, .slice p ds.length c], .agg #[.int .i64 (kn : Int), .int .i64 z', .string t', .slice p' es.length c']] none σ) σ fun r _ => OrdR (.mk kn z t ds) (.mk kn z' t' es) r := fun hb hk6 ht hds => by
        subst ht hds
        refine fin (order_same (n + 6 + 3 * N) kn hk6 232 (fun v w σ => by rw [hb]; exact ordNumber v w σ) _ _ _ _ p p' _ _ c c' σ hw (fun x => x = ordU (.mk kn z t ds) (.mk kn z' t ds)) fun σ' hX hw' => by
          obtain ⟨v, τ, h1, h2, h3, h4⟩ := ordN_go _ _ _ _ _ _ p p' _ _ c c' σ' hw' (n + 5 + 3 * N)
          have e : n + 5 + 3 * N + 3 = n + 6 + 3 * N + 2 := by omega
          rw [e] at h1
          exact ⟨v, τ, h1, h2, h3, _, h4, (ordU_num _ _ _ _ _).symm⟩)
      have emp : ∀ (hb : workType kn = workType 0) (hk6 : kn ≤ 6) (hz : z = z') (ht : t = t') (hds : ds = es), Gives ((env ((n + 6 + 3 * N) + 3)).call 88 [.agg #[.int .i64 (kn : Int), .int .i64 z, .string t, .slice p ds.length c], .agg #[.int .i64 (kn : Int), .int .i64 z', .string t', .slice p' es.length c']] none σ) σ fun r _ => OrdR (.mk kn z t ds) (.mk kn z' t' es) r := fun hb hk6 hz ht hds => by
        subst hz ht hds
        refine fin (order_same (n + 6 + 3 * N) kn hk6 234 (fun v w σ => by rw [hb]; exact ordEmpty v w σ) _ _ _ _ p p' _ _ c c' σ hw (fun x => x = ordU (.mk kn z t ds) (.mk kn z t ds)) fun σ' hX hw' => by
          obtain ⟨v, τ, h1, h2, h3, h4⟩ := ordE_go _ _ _ _ _ _ p p' _ _ c c' σ' hw' (n + 7 + 3 * N)
          have e : n + 7 + 3 * N + 1 = n + 6 + 3 * N + 2 := by omega
          rw [e] at h1
          exact ⟨v, τ, h1, h2, h3, 0, h4, ((ordU_zero _ _).2 rfl).symm⟩)
      have txt : ∀ (hb : workType kn = workType 3) (hk6 : kn ≤ 6) (hz : z = z') (hds : ds = es), Gives ((env ((n + 6 + 3 * N) + 3)).call 88 [.agg #[.int .i64 (kn : Int), .int .i64 z, .string t, .slice p ds.length c], .agg #[.int .i64 (kn : Int), .int .i64 z', .string t', .slice p' es.length c']] none σ) σ fun r _ => OrdR (.mk kn z t ds) (.mk kn z' t' es) r := fun hb hk6 hz hds => by
        subst hz hds
        refine fin (order_same (n + 6 + 3 * N) kn hk6 226 (fun v w σ => by rw [hb]; exact ordText v w σ) _ _ _ _ p p' _ _ c c' σ hw (fun x => x = ordU (.mk kn z t ds) (.mk kn z t' ds)) fun σ' hX hw' => by
          obtain ⟨v, τ, h1, h2, h3, h4⟩ := ordT_go _ _ _ _ _ _ p p' _ _ c c' σ' hw' (n + 4 + 3 * N)
          have e : n + 4 + 3 * N + 4 = n + 6 + 3 * N + 2 := by omega
          rw [e] at h1
          exact ⟨v, τ, h1, h2, h3, _, h4, (ordU_text _ _ _ _ _).symm⟩)
      cases hG with
      | nil =>
        cases hG' with
        | nil =>
          exact emp rfl (by omega) rfl rfl (by rw [List.length_eq_zero_iff.1 hln, List.length_eq_zero_iff.1 hln'])
      | bool z h =>
        cases hG' with
        | bool z' h' => exact num rfl (by omega) rfl (by rw [List.length_eq_zero_iff.1 hln, List.length_eq_zero_iff.1 hln'])
      | num z h =>
        cases hG' with
        | num z' h' => exact num rfl (by omega) rfl (by rw [List.length_eq_zero_iff.1 hln, List.length_eq_zero_iff.1 hln'])
      | sym t h =>
        cases hG' with
        | sym t' h' => exact txt rfl (by omega) rfl (by rw [List.length_eq_zero_iff.1 hln, List.length_eq_zero_iff.1 hln'])
      | str t hs h =>
        cases hG' with
        | str t' hs' h' => exact txt rfl (by omega) rfl (by rw [List.length_eq_zero_iff.1 hln, List.length_eq_zero_iff.1 hln'])
      | pair =>
        cases hG' with
        | pair => exact branch rfl (by omega) rfl rfl rfl rfl
      | vec l =>
        cases hG' with
        | vec l' => exact branch rfl (by omega) rfl rfl rfl rfl
    · obtain ⟨v, σ', h1, h2, h3, h4⟩ := order_apart (n + 6 + 3 * N) (kn : Int) (kn' : Int) z z' t t' p p' ds.length es.length c c' σ hw (by omega)
      exact ⟨v, σ', h1, h2, h3, by rw [h4]; unfold OrdR; rw [ordU_kind (by omega)]⟩
end Go.Proofs.YtokieofohmgjdaaGreatDoor
/- datum.Compare: 0 where both data are the same. -/
namespace Go.Proofs.YtokieofohmgjdaaGreatDoor
open Go Go.Eng
attribute [local congr] andThen_congr fops_congr fdraw_congr afterOp_congr drawF_congr
attribute [-go_sem] List.range_succ
theorem deferredAtN (n : Nat) (p q : Value) (σ : FState) : (env (n + 1)).call 157 [p, q] (some .returning) σ = .ret (.tuple #[]) (some .returning) σ := by
  rw [env_defer, enter157 _ _ _ _ (by simp), Sl_start]
  unfold run157
  simp -implicitDefEqProofs only [go_sem, ↓reduceIte, Nat.reduceLT, Nat.reduceEqDiff, Nat.reduceAdd, Nat.reduceMul, Nat.reduceLeDiff, Nat.reduceSub, r157_0_go, r157_0U, r157_3_go, r157_3U, r157_4_go, r157_4U, nilAny]
theorem callAtN (n w : Nat) (cap : Array Value) {Q : Nat → Value → FState → Prop} (hQ : Stays Q) (hone : ∀ base v σ, Q base v σ → oneCell v = true ∧ notTuple v = true ∧ valCells v = [v]) (σ : FState) (hw : Wf σ)
    (h : ∀ σ', Ext σ σ' → Wf σ' → Gives ((env (n + 1)).call w cap.toList none σ') σ' (Q σ'.next)) :
    Gives ((env (n + 2)).call 129 [.func (.func w) #[] cap] none σ) σ fun v σ' => ∃ u, v = .tuple #[u, .int .i64 0, .int .i64 0] ∧ Q σ.next u σ' := by
  rw [env_call _ 129 _ _ rfl, enter129 _ _ _ _ (by simp), Sl_start]
  unfold run129
  have hX1 : Ext σ ((σ.push (.cells [.int .i64 0] 3) none).push (.cells [.int .i64 0] 32) none) := ((Ext.refl _).push _ _).push _ _
  have hw1 := (hw.push (.cells [.int .i64 0] 3) none).push (.cells [.int .i64 0] 32) none
  obtain ⟨u, σ2, e2, hX2, hw2, hq⟩ := h _ hX1 hw1
  have g1 : σ2.heap.get σ.next = _ := (hX2.get σ.next (by simp only [push_next]; omega)).trans (by simp -implicitDefEqProofs only [push_get, push_next, Nat.add_assoc, Nat.reduceAdd, Nat.left_eq_add, reduceCtorEq, ↓reduceIte, Nat.reduceEqDiff] <;> rfl)
  have g2 : σ2.heap.get (σ.next + 1) = _ := (hX2.get (σ.next + 1) (by simp only [push_next]; omega)).trans (by simp -implicitDefEqProofs only [push_get, push_next, Nat.add_assoc, Nat.reduceAdd, Nat.add_left_cancel_iff, reduceCtorEq, ↓reduceIte, Nat.reduceEqDiff] <;> rfl)
  obtain ⟨o1, o2, o3⟩ := hone _ _ _ hq
  simp -implicitDefEqProofs only [go_sem, ↓reduceIte, Nat.reduceLT, Nat.reduceEqDiff, Nat.reduceAdd, Nat.reduceMul, Nat.reduceLeDiff, Nat.reduceSub, r129_0_go, r129_0U, r129_1_go, r129_1U, r129_2_go, r129_2U, Option.getD_some, e2, g1, g2, aggInt, aggErrno, deferredAtN, fleave_nil, fresults_nil, fresults_cons, fresult_cell, fresult_tmp, o1, o2, o3]
  have m1 := (hw2 _ _ g1).1
  have m2 := (hw2 _ _ g2).1
  exact ⟨_, _, rfl, ((hX1.trans hX2).put _ _ _ (Nat.le_refl _)).put _ _ _ (Nat.le_add_right _ _), (hw2.put _ _ _ m1).put _ _ _ m2, _, rfl, hQ.keep _ _ _ _ _ hq hw2 (by simp only [push_next]; omega) fun b hb _ => by
    simp only [push_next] at hb
    rw [put_get, if_neg (by omega), put_get, if_neg (by omega)]⟩
theorem callN (n w : Nat) (cap : Array Value) {Q : Nat → Value → FState → Prop} (hQ : Stays Q) (hone : ∀ base v σ, Q base v σ → oneCell v = true ∧ notTuple v = true ∧ valCells v = [v]) (σ : FState) (hw : Wf σ)
    (h : ∀ σ', Ext σ σ' → Wf σ' → Gives ((env (n + 1)).call w cap.toList none σ') σ' (Q σ'.next)) :
    Gives ((env (n + 3)).call 79 [.func (.func w) #[] cap] none σ) σ fun v σ' => ∃ u, v = .tuple #[u, .int .i64 0] ∧ Q σ.next u σ' := by
  rw [env_call _ 79 _ _ rfl, enter79 _ _ _ _ (by simp), Sl_start]
  unfold run79
  obtain ⟨_, σ2, e2, hX2, hw2, u, rfl, hq⟩ := callAtN n w cap hQ hone σ hw h
  obtain ⟨o1, o2, o3⟩ := hone _ _ _ hq
  simp -implicitDefEqProofs only [go_sem, ↓reduceIte, Nat.reduceLT, Nat.reduceEqDiff, Nat.reduceAdd, Nat.reduceMul, Nat.reduceLeDiff, Nat.reduceSub, r79_0_go, r79_0U, r79_1_go, r79_1U, r79_2_go, r79_2U, Option.getD_some, e2, fleave_nil, fresults_nil, fresults_cons, fresult_tmp, List.getElem?_cons_zero, o1, o2, o3]
  exact ⟨_, _, rfl, hX2, hw2, u, rfl, hq⟩

theorem ord_stays (y : Int) : Stays (fun _ v _ => v = .int .i64 y) := ⟨fun _ _ _ _ _ h _ _ _ => h⟩
theorem Apart.at {M : Nat} {d : D} (h : Apart M d) : ∀ x ∈ d.pieces [], x.2.parts.length ≤ 900 ∧ GoodD M x.2 := h.sane []
theorem compare1_go (M n N : Nat) (hM : M = n + 1 + 3 * N) (d e : D) (hd : Apart M d) (he : Apart M e) (hN : d.deep ≤ N) (lv mv : List Value) (h4 : lv.length = 4) (hm4 : mv.length = 4) (b1 b2 : Nat) (σ : FState) (hw : Wf σ) (c1 : σ.cells b1 = some lv) (c2 : σ.cells b2 = some mv) (hL : LaidR (fun b => b < σ.next) σ (.agg lv.toArray) d) (hLe : LaidR (fun b => b < σ.next) σ (.agg mv.toArray) e) :
    Gives ((env (M + 6)).call 87 [.pointer (some ⟨b1, 0, none⟩), .pointer (some ⟨b2, 0, none⟩)] none σ) σ fun w _ => w = .int .i64 (ordU d e) := by
  rw [env_call _ 87 _ _ rfl, enter87 _ _ _ _ (by simp), Sl_start]
  unfold run87
  have ht : lv.take 4 = lv := List.take_of_length_le (by omega)
  have htm : mv.take 4 = mv := List.take_of_length_le (by omega)
  obtain ⟨_, σ2, e2, x2, hw2, rfl⟩ := validS_go M d hd.sane (by have := hd.count; omega) hd.deep lv h4 (fun b => b < σ.next) σ hw hL (fun b hb => hb)
  have k2 : ∀ b cs, b < σ.next → σ.cells b = some cs → σ2.cells b = some cs := fun b cs hb hc => (x2.cells hb).trans hc
  have n2 := x2.next
  obtain ⟨_, σ3, e3, x3, hw3, rfl⟩ := validS_go M e he.sane (by have := he.count; omega) he.deep mv hm4 (fun b => b < σ.next) σ2 hw2 (hLe.keep fun b cs hb hc => ⟨k2 b cs hb hc, hb⟩) (fun b hb => by omega)
  have n3 := x3.next
  have k3 : ∀ b cs, b < σ.next → σ.cells b = some cs → σ3.cells b = some cs := fun b cs hb hc => (x3.cells (by omega)).trans (k2 b cs hb hc)
  obtain ⟨_, σ4, e4, x4, hw4, hr4⟩ := order_go M n (fun b => b < σ.next) N d e [] [] (.agg lv.toArray) (.agg mv.toArray) σ3 hN hd.at he.at hw3 (hL.keep fun b cs hb hc => ⟨k3 b cs hb hc, hb⟩) (hLe.keep fun b cs hb hc => ⟨k3 b cs hb hc, hb⟩)
  unfold OrdR at hr4
  subst hr4
  have e : n + 6 + 3 * N = M + 5 := by omega
  rw [e] at e4
  have d1 := k2 _ _ (hw.cells c2) c2
  have d2 := k3 _ _ (hw.cells c1) c1
  have d3 := k3 _ _ (hw.cells c2) c2
  simp -implicitDefEqProofs only [go_sem, ↓reduceIte, Nat.reduceLT, Nat.reduceEqDiff, Nat.reduceAdd, Nat.reduceMul, Nat.reduceLeDiff, Nat.reduceSub, r87_0_go, r87_0U, r87_1_go, r87_1U, r87_2_go, r87_2U, r87_3_go, r87_3U, Option.getD_some, List.getElem?_cons_zero, List.getElem?_cons_succ, c1, h4, hm4, ht, htm, e2, d1, e3, d2, d3, e4, Nat.le_refl]
  exact ⟨_, _, rfl, (x2.trans x3).trans x4, hw4, rfl⟩
theorem compare_go (M n N : Nat) (hM : M = n + 1 + 3 * N) (d e : D) (hd : Apart M d) (he : Apart M e) (hN : d.deep ≤ N) (lv mv : List Value) (h4 : lv.length = 4) (hm4 : mv.length = 4) (σ : FState) (hw : Wf σ) (hL : LaidR (fun b => b < σ.next) σ (.agg lv.toArray) d) (hLe : LaidR (fun b => b < σ.next) σ (.agg mv.toArray) e) :
    Gives ((env (M + 9)).call 25 [.agg lv.toArray, .agg mv.toArray] none σ) σ fun w _ => w = .tuple #[.int .i64 (ordU d e), .int .i64 0] := by
  rw [env_call _ 25 _ _ rfl, enter25 _ _ _ _ (by simp), Sl_start]
  unfold run25
  have x1 : Ext σ ((σ.push (.cells lv TD) none).push (.cells mv TD) none) := ((Ext.refl _).push _ _).push _ _
  have hw1 := (hw.push (.cells lv TD) none).push (.cells mv TD) none
  have c1 : ((σ.push (.cells lv TD) none).push (.cells mv TD) none).cells σ.next = some lv := by rw [cells_push, if_neg (by rw [push_next]; omega), cells_push, if_pos rfl]; rfl
  have c2 : ((σ.push (.cells lv TD) none).push (.cells mv TD) none).cells (σ.next + 1) = some mv := by rw [cells_push, if_pos (by rw [push_next])]; rfl
  obtain ⟨_, σ2, e2, x2, hw2, _, rfl, rfl⟩ := callN (M + 5) 87 #[.pointer (some ⟨σ.next, 0, none⟩), .pointer (some ⟨σ.next + 1, 0, none⟩)] (ord_stays (ordU d e)) (fun base v σ h => by subst h; exact ⟨rfl, rfl, rfl⟩) _ hw1 fun σ' hX hw' => compare1_go M n N hM d e hd he hN lv mv h4 hm4 σ.next (σ.next + 1) σ' hw' ((hX.cells (hw1.cells c1)).trans c1) ((hX.cells (hw1.cells c2)).trans c2)
    (hL.keep fun b cs hb hc => ⟨((x1.trans hX).cells hb).trans hc, by have := (x1.trans hX).next; omega⟩) (hLe.keep fun b cs hb hc => ⟨((x1.trans hX).cells hb).trans hc, by have := (x1.trans hX).next; omega⟩)
  simp -implicitDefEqProofs only [go_sem, ↓reduceIte, Nat.reduceLT, Nat.reduceEqDiff, Nat.reduceAdd, Nat.reduceMul, Nat.reduceLeDiff, Nat.reduceSub, r25_0_go, r25_0U, r25_1_go, r25_1U, Option.getD_some, List.getElem?_cons_zero, List.getElem?_cons_succ, e2, fleave_nil, fresults_nil, fresults_cons, fresult_tmp]
  exact ⟨_, _, rfl, x1.trans x2, hw2, rfl⟩
end Go.Proofs.YtokieofohmgjdaaGreatDoor
/- Two data, piece by piece: the same, or apart at a first piece. -/
namespace Go.Proofs.YtokieofohmgjdaaGreatDoor
open Go Go.Eng
def Agree (A B : List (List Nat × D)) : Prop := A.length = B.length ∧ ∀ (i : Nat) (a : List Nat × D), A[i]? = some a → ∃ b, B[i]? = some b ∧ a.1 = b.1 ∧ likeD a.2 b.2 = true
theorem Agree.nil : Agree [] [] := ⟨rfl, fun i a h => by simp at h⟩
theorem Agree.cons {a b : List Nat × D} {A B : List (List Nat × D)} (h1 : a.1 = b.1) (h2 : likeD a.2 b.2 = true) (h : Agree A B) : Agree (a :: A) (b :: B) := by
  refine ⟨by simp [h.1], fun i x hx => ?_⟩
  cases i with
  | zero => cases hx; exact ⟨b, rfl, h1, h2⟩
  | succ i => exact h.2 i x hx
theorem Agree.append {A B A' B' : List (List Nat × D)} (h : Agree A B) (h' : Agree A' B') : Agree (A ++ A') (B ++ B') := by
  refine ⟨by simp [h.1, h'.1], fun i x hx => ?_⟩
  by_cases hi : i < A.length
  · rw [List.getElem?_append_left hi] at hx
    rw [List.getElem?_append_left (by rw [← h.1]; exact hi)]
    exact h.2 i x hx
  · rw [List.getElem?_append_right (by omega)] at hx
    rw [List.getElem?_append_right (by rw [← h.1]; omega), ← h.1]
    exact h'.2 _ x hx
theorem likeD_self (d : D) : likeD d d = true := by
  obtain ⟨k, z, t, ds⟩ := d
  simp [likeD]
theorem Agree.refl : ∀ A : List (List Nat × D), Agree A A
  | [] => .nil
  | a :: A => .cons rfl (likeD_self _) (Agree.refl A)
def Split (A B : List (List Nat × D)) : Prop := ∃ pre pre' path x y ra rb, A = pre ++ (path, x) :: ra ∧ B = pre' ++ (path, y) :: rb ∧ Agree pre pre' ∧ likeD x y = false
mutual
theorem pieces_split (p : List Nat) : ∀ d e : D, d = e ∨ Split (d.pieces p) (e.pieces p)
  | .mk k z t ds, .mk k' z' t' es => by
    cases h : likeD (.mk k z t ds) (.mk k' z' t' es) with
    | false => exact .inr ⟨[], [], p, _, _, _, _, by rw [D.pieces]; rfl, by rw [D.pieces]; rfl, .nil, h⟩
    | true =>
      have h' := h
      simp only [likeD, Bool.and_eq_true, beq_iff_eq] at h'
      obtain ⟨⟨⟨h1, h2⟩, h3⟩, h4⟩ := h'
      have h5 := toList_inj h3
      subst h1 h2 h5
      rcases piecesL_split p ds es 0 (Int.ofNat.inj h4) with rfl | ⟨pre, pre', path, x, y, ra, rb, e1, e2, e3, e4⟩
      · exact .inl rfl
      · exact .inr ⟨(p, .mk k z t ds) :: pre, (p, .mk k z t es) :: pre', path, x, y, ra, rb, by rw [D.pieces, e1]; rfl, by rw [D.pieces, e2]; rfl, .cons rfl h e3, e4⟩
theorem piecesL_split (p : List Nat) : ∀ (ds es : List D) (i : Nat), ds.length = es.length → ds = es ∨ Split (D.piecesL p i ds) (D.piecesL p i es)
  | [], [], _, _ => .inl rfl
  | [], _ :: _, _, h => by simp at h
  | _ :: _, [], _, h => by simp at h
  | d :: ds, e :: es, i, h => by
    rcases pieces_split (p ++ [i]) d e with rfl | ⟨pre, pre', path, x, y, ra, rb, e1, e2, e3, e4⟩
    · rcases piecesL_split p ds es (i + 1) (by simpa using h) with rfl | ⟨pre, pre', path, x, y, ra, rb, e1, e2, e3, e4⟩
      · exact .inl rfl
      · exact .inr ⟨d.pieces (p ++ [i]) ++ pre, d.pieces (p ++ [i]) ++ pre', path, x, y, ra, rb, by rw [D.piecesL, e1, List.append_assoc], by rw [D.piecesL, e2, List.append_assoc], (Agree.refl _).append e3, e4⟩
    · exact .inr ⟨pre, pre', path, x, y, ra ++ D.piecesL p (i + 1) ds, rb ++ D.piecesL p (i + 1) es, by rw [D.piecesL, e1, List.append_assoc, List.cons_append], by rw [D.piecesL, e2, List.append_assoc, List.cons_append], e3, e4⟩
end
mutual
theorem pieces_nodup (p : List Nat) : ∀ d : D, (d.pieces p).Pairwise fun a b => a.1 ≠ b.1
  | .mk k z t ds => by
    rw [D.pieces]
    refine List.Pairwise.cons (fun b hb h => ?_) (piecesL_nodup p ds 0)
    obtain ⟨j, r, d', h1, _⟩ := piecesL_at ds p 0 b hb
    rw [h1] at h
    have := congrArg List.length h
    simp at this
theorem piecesL_nodup (p : List Nat) : ∀ (ds : List D) (i : Nat), (D.piecesL p i ds).Pairwise fun a b => a.1 ≠ b.1
  | [], _ => by rw [D.piecesL]; exact List.Pairwise.nil
  | d :: ds, i => by
    rw [D.piecesL]
    refine List.pairwise_append.2 ⟨pieces_nodup _ d, piecesL_nodup p ds (i + 1), fun a ha b hb h => ?_⟩
    obtain ⟨r, h1, _⟩ := pieces_at d (p ++ [i]) a ha
    obtain ⟨j, r', d', h2, _⟩ := piecesL_at ds p (i + 1) b hb
    rw [h1, h2, List.append_assoc] at h
    have := List.append_cancel_left h
    simp at this
    omega
end
end Go.Proofs.YtokieofohmgjdaaGreatDoor
/- Functions of the program, written out in the reading's words (made by program; the kernel holds each against the code). -/
namespace Go.Proofs.YtokieofohmgjdaaGreatDoor
open Go Go.Eng
variable (E : Env) (ro : Option Nat) (last : List Nat → RunF) (cl : List Nat) (a : FAct) (u : Option FrameMode) (σ : FState)
/-! caracole/caracoleref01.Put -/
/-! caracole/caracoleref01.placed -/
/-! caracole/caracoleref01.two -/
/-! caracole/caracoleref01.kept -/
/-! caracole/caracoleref01.Check -/
noncomputable def r19_0U (_ : Unit) : List COp := [⟨fun a σ => fbox 24 (a.get 0) σ, (some 1), fun _ => some true⟩,
  ⟨fun a σ => .val (.int .i64 0) σ, (some 2), fun _ => some true⟩]
noncomputable def r19_0 : List COp := r19_0U ()
noncomputable def r19_1U (_ : Unit) : List COp := [⟨fun a σ => fload (some 4) (a.get 1) σ, (some 4), fun _ => some true⟩,
  ⟨fun a σ => .enter 81 [(a.get 4)] σ, (some 5), fun _ => some true⟩,
  ⟨fun a σ => .val (a.get 5) σ, (some 3), fun _ => some true⟩]
noncomputable def r19_1 : List COp := r19_1U ()
noncomputable def r19_2U (_ : Unit) : List COp := [⟨fun a σ => .val (a.get 3) σ, (some 6), fun _ => some true⟩,
  ⟨fun a σ => i_neq Tryz.prog 32 (.tmp 6) (.const (.int .i64 0)) (a.get 6) (.int .i64 0) σ, (some 7), fun _ => some true⟩]
noncomputable def r19_2 : List COp := r19_2U ()
noncomputable def r19_3U (_ : Unit) : List COp := [⟨fun a σ => .val (a.get 3) σ, (some 8), fun _ => some true⟩,
  ⟨fun a σ => .val (a.get 8) σ, (some 2), fun _ => some true⟩]
noncomputable def r19_3 : List COp := r19_3U ()
noncomputable def r19_4U (_ : Unit) : List COp := [⟨fun a σ => fload (some 4) (a.get 1) σ, (some 9), fun _ => some true⟩,
  ⟨fun a σ => .enter 82 [(a.get 9)] σ, (some 10), fun _ => some true⟩,
  ⟨fun a σ => .val (a.get 10) σ, (some 2), fun _ => some true⟩]
noncomputable def r19_4 : List COp := r19_4U ()
noncomputable def run19 (E : Env) (ro : Option Nat) (fn : FuncId) : RunF := (seqR (fops E ro r19_0) (seqR (seqR (fops E ro r19_1) (seqR (fops E ro r19_2) (condR (fun a => (a.get 7)) (seqR (fops E ro r19_3) retR) skipR))) (seqR (fops E ro r19_4) retR)))
theorem r19_0_go : fops E ro r19_0 a u σ = fops E ro (r19_0U ()) a u σ := rfl
theorem r19_1_go : fops E ro r19_1 a u σ = fops E ro (r19_1U ()) a u σ := rfl
theorem r19_2_go : fops E ro r19_2 a u σ = fops E ro (r19_2U ()) a u σ := rfl
theorem r19_3_go : fops E ro r19_3 a u σ = fops E ro (r19_3U ()) a u σ := rfl
theorem r19_4_go : fops E ro r19_4 a u σ = fops E ro (r19_4U ()) a u σ := rfl
theorem code19 (E : Env) (ro : Option Nat) (fn : FuncId) : code Tryz.prog nls (Tryz.f19.body.getD .skip) E ro fn = run19 E ro fn := by kernel_rfl
theorem enter19 (E : Env) (args : List Value) (u : Option FrameMode) (σ : FState) (hn : args.length ≤ (4 : Nat)) : fcall Tryz.prog nls E 19 args u σ = leaveR Tryz.prog E [.tmp 2] (run19 E none 19 ⟨padTo undef 4 args, fun _ => undef, 4, 11, []⟩ u σ) := by
  rw [fcall_of (body := Tryz.f19.body.getD .skip) Tryz.func19 rfl E args u σ 4 11 (by kernel_rfl) rfl ⟨hn, by decide⟩, code19]
  rfl
/-! caracole/caracoleref01.pieces -/
noncomputable def r81_0U (_ : Unit) : List COp := [⟨fun a σ => fbox 24 (a.get 0) σ, (some 1), fun _ => some true⟩,
  ⟨fun a σ => .val (.int .i64 0) σ, (some 2), fun _ => some true⟩]
noncomputable def r81_0 : List COp := r81_0U ()
noncomputable def r81_1U (_ : Unit) : List COp := [⟨fun a σ => fload (some 4) (a.get 1) σ, (some 6), fun _ => some true⟩,
  ⟨fun a σ => .enter 130 [(a.get 6)] σ, (some 7), fun _ => some true⟩,
  ⟨fun a σ => .val (a.get 7) σ, (some 3), fun _ => some true⟩]
noncomputable def r81_1 : List COp := r81_1U ()
noncomputable def r81_2U (_ : Unit) : List COp := [⟨fun a σ => .val (a.get 3) σ, (some 8), fun _ => some true⟩,
  ⟨fun a σ => i_neq Tryz.prog 32 (.tmp 8) (.const (.int .i64 0)) (a.get 8) (.int .i64 0) σ, (some 9), fun _ => some true⟩]
noncomputable def r81_2 : List COp := r81_2U ()
noncomputable def r81_3U (_ : Unit) : List COp := [⟨fun a σ => .val (a.get 3) σ, (some 10), fun _ => some true⟩,
  ⟨fun a σ => .val (a.get 10) σ, (some 2), fun _ => some true⟩]
noncomputable def r81_3 : List COp := r81_3U ()
noncomputable def r81_4U (_ : Unit) : List COp := [⟨fun a σ => .val (.int .i64 0) σ, (some 4), fun _ => some true⟩]
noncomputable def r81_4 : List COp := r81_4U ()
noncomputable def r81_5U (_ : Unit) : List COp := [⟨fun a σ => .val (a.get 4) σ, (some 11), fun _ => some true⟩,
  ⟨fun a σ => ffield 3 (a.get 1) σ, (some 12), fun _ => some true⟩,
  ⟨fun a σ => fload none (a.get 12) σ, (some 13), fun _ => some true⟩,
  ⟨fun a σ => flenL (a.get 13) σ, (some 14), fun _ => some true⟩,
  ⟨fun a σ => i_lss Tryz.prog 3 (.tmp 11) (.tmp 14) (a.get 11) (a.get 14) σ, (some 15), fun _ => some true⟩]
noncomputable def r81_5 : List COp := r81_5U ()
noncomputable def r81_7U (_ : Unit) : List COp := [⟨fun a σ => ffield 3 (a.get 1) σ, (some 18), fun _ => some true⟩,
  ⟨fun a σ => fload none (a.get 18) σ, (some 19), fun _ => some true⟩,
  ⟨fun a σ => .val (a.get 4) σ, (some 20), fun _ => some true⟩,
  ⟨fun a σ => findex (none, 4) (a.get 19) (a.get 20) σ, (some 21), fun _ => some true⟩,
  ⟨fun a σ => fload (some 4) (a.get 21) σ, (some 22), fun _ => some true⟩,
  ⟨fun a σ => .enter 81 [(a.get 22)] σ, (some 23), fun _ => some true⟩,
  ⟨fun a σ => .val (a.get 23) σ, (some 5), fun _ => some true⟩]
noncomputable def r81_7 : List COp := r81_7U ()
noncomputable def r81_8U (_ : Unit) : List COp := [⟨fun a σ => .val (a.get 5) σ, (some 24), fun _ => some true⟩,
  ⟨fun a σ => i_neq Tryz.prog 32 (.tmp 24) (.const (.int .i64 0)) (a.get 24) (.int .i64 0) σ, (some 25), fun _ => some true⟩]
noncomputable def r81_8 : List COp := r81_8U ()
noncomputable def r81_9U (_ : Unit) : List COp := [⟨fun a σ => .val (a.get 5) σ, (some 26), fun _ => some true⟩,
  ⟨fun a σ => .val (a.get 26) σ, (some 2), fun _ => some true⟩]
noncomputable def r81_9 : List COp := r81_9U ()
noncomputable def r81_6U (_ : Unit) : List COp := [⟨fun a σ => .val (a.get 4) σ, (some 16), fun _ => some true⟩,
  ⟨fun a σ => i_add Tryz.prog 3 (.tmp 16) (.const (.int .i64 1)) (a.get 16) (.int .i64 1) σ, (some 17), fun _ => some true⟩,
  ⟨fun a σ => .val (a.get 17) σ, (some 4), fun _ => some true⟩]
noncomputable def r81_6 : List COp := r81_6U ()
noncomputable def l81_0 (E : Env) (ro : Option Nat) (fn : FuncId) : RunF := (seqR (seqR (fops E ro r81_5) (condR (fun a => (a.get 15)) skipR (exitR 0))) (seqR (blockR 1 (seqR (fops E ro r81_7) (seqR (fops E ro r81_8) (condR (fun a => (a.get 25)) (seqR (fops E ro r81_9) retR) skipR)))) (fops E ro r81_6)))
noncomputable def r81_10U (_ : Unit) : List COp := [⟨fun a σ => .val (.int .i64 0) σ, (some 2), fun _ => some true⟩]
noncomputable def r81_10 : List COp := r81_10U ()
noncomputable def run81 (E : Env) (ro : Option Nat) (fn : FuncId) : RunF := (seqR (fops E ro r81_0) (seqR (seqR (fops E ro r81_1) (seqR (fops E ro r81_2) (condR (fun a => (a.get 9)) (seqR (fops E ro r81_3) retR) skipR))) (seqR (seqR (fops E ro r81_4) (blockR 0 (loopR (keepOf nls fn) (l81_0 E ro fn)))) (seqR (fops E ro r81_10) retR))))
theorem r81_0_go : fops E ro r81_0 a u σ = fops E ro (r81_0U ()) a u σ := rfl
theorem r81_1_go : fops E ro r81_1 a u σ = fops E ro (r81_1U ()) a u σ := rfl
theorem r81_2_go : fops E ro r81_2 a u σ = fops E ro (r81_2U ()) a u σ := rfl
theorem r81_3_go : fops E ro r81_3 a u σ = fops E ro (r81_3U ()) a u σ := rfl
theorem r81_4_go : fops E ro r81_4 a u σ = fops E ro (r81_4U ()) a u σ := rfl
theorem r81_5_go : fops E ro r81_5 a u σ = fops E ro (r81_5U ()) a u σ := rfl
theorem r81_7_go : fops E ro r81_7 a u σ = fops E ro (r81_7U ()) a u σ := rfl
theorem r81_8_go : fops E ro r81_8 a u σ = fops E ro (r81_8U ()) a u σ := rfl
theorem r81_9_go : fops E ro r81_9 a u σ = fops E ro (r81_9U ()) a u σ := rfl
theorem r81_6_go : fops E ro r81_6 a u σ = fops E ro (r81_6U ()) a u σ := rfl
theorem r81_10_go : fops E ro r81_10 a u σ = fops E ro (r81_10U ()) a u σ := rfl
theorem code81 (E : Env) (ro : Option Nat) (fn : FuncId) : code Tryz.prog nls (Tryz.f81.body.getD .skip) E ro fn = run81 E ro fn := by kernel_rfl
theorem enter81 (E : Env) (args : List Value) (u : Option FrameMode) (σ : FState) (hn : args.length ≤ (6 : Nat)) : fcall Tryz.prog nls E 81 args u σ = leaveR Tryz.prog E [.tmp 2] (run81 E none 81 ⟨padTo undef 6 args, fun _ => undef, 6, 27, []⟩ u σ) := by
  rw [fcall_of (body := Tryz.f81.body.getD .skip) Tryz.func81 rfl E args u σ 6 27 (by kernel_rfl) rfl ⟨hn, by decide⟩, code81]
  rfl
/-! caracole/caracoleref01.Piece -/
noncomputable def r130_0U (_ : Unit) : List COp := [⟨fun a σ => fbox 24 (a.get 0) σ, (some 1), fun _ => some true⟩,
  ⟨fun a σ => .val (.int .i64 0) σ, (some 2), fun _ => some true⟩]
noncomputable def r130_0 : List COp := r130_0U ()
noncomputable def r130_1U (_ : Unit) : List COp := [⟨fun a σ => ffield 0 (a.get 1) σ, (some 6), fun _ => some true⟩,
  ⟨fun a σ => fload none (a.get 6) σ, (some 7), fun _ => some true⟩,
  ⟨fun a σ => .enter 107 [(a.get 7), (.int .i64 0), (.int .i64 6)] σ, (some 8), fun _ => some true⟩,
  ⟨fun a σ => fun1 Tryz.prog (Op.unary .not) (a.get 8) σ, (some 9), fun _ => some true⟩]
noncomputable def r130_1 : List COp := r130_1U ()
noncomputable def r130_2U (_ : Unit) : List COp := [⟨fun a σ => .val (.int .i64 4) σ, (some 2), fun _ => some true⟩]
noncomputable def r130_2 : List COp := r130_2U ()
noncomputable def r130_3U (_ : Unit) : List COp := [⟨fun a σ => ffield 0 (a.get 1) σ, (some 10), fun _ => some true⟩,
  ⟨fun a σ => fload none (a.get 10) σ, (some 11), fun _ => some true⟩,
  ⟨fun a σ => i_eql Tryz.prog 3 (.tmp 11) (.const (.int .i64 1)) (a.get 11) (.int .i64 1) σ, (some 12), fun _ => some true⟩,
  ⟨fun a σ => .val (a.get 12) σ, (some 13), fun _ => some true⟩,
  ⟨fun a σ => ffield 0 (a.get 1) σ, (some 14), fun a => gd (a.get 13) false⟩,
  ⟨fun a σ => fload none (a.get 14) σ, (some 15), fun a => gd (a.get 13) false⟩,
  ⟨fun a σ => i_eql Tryz.prog 3 (.tmp 15) (.const (.int .i64 2)) (a.get 15) (.int .i64 2) σ, (some 16), fun a => gd (a.get 13) false⟩,
  ⟨fun a σ => fpick (a.get 13) (.bool true) (a.get 16) σ, (some 17), fun _ => some true⟩,
  ⟨fun a σ => .val (a.get 17) σ, (some 3), fun _ => some true⟩]
noncomputable def r130_3 : List COp := r130_3U ()
noncomputable def r130_4U (_ : Unit) : List COp := [⟨fun a σ => ffield 0 (a.get 1) σ, (some 18), fun _ => some true⟩,
  ⟨fun a σ => fload none (a.get 18) σ, (some 19), fun _ => some true⟩,
  ⟨fun a σ => i_eql Tryz.prog 3 (.tmp 19) (.const (.int .i64 3)) (a.get 19) (.int .i64 3) σ, (some 20), fun _ => some true⟩,
  ⟨fun a σ => .val (a.get 20) σ, (some 21), fun _ => some true⟩,
  ⟨fun a σ => ffield 0 (a.get 1) σ, (some 22), fun a => gd (a.get 21) false⟩,
  ⟨fun a σ => fload none (a.get 22) σ, (some 23), fun a => gd (a.get 21) false⟩,
  ⟨fun a σ => i_eql Tryz.prog 3 (.tmp 23) (.const (.int .i64 4)) (a.get 23) (.int .i64 4) σ, (some 24), fun a => gd (a.get 21) false⟩,
  ⟨fun a σ => fpick (a.get 21) (.bool true) (a.get 24) σ, (some 25), fun _ => some true⟩,
  ⟨fun a σ => .val (a.get 25) σ, (some 4), fun _ => some true⟩]
noncomputable def r130_4 : List COp := r130_4U ()
noncomputable def r130_5U (_ : Unit) : List COp := [⟨fun a σ => ffield 0 (a.get 1) σ, (some 26), fun _ => some true⟩,
  ⟨fun a σ => fload none (a.get 26) σ, (some 27), fun _ => some true⟩,
  ⟨fun a σ => i_eql Tryz.prog 3 (.tmp 27) (.const (.int .i64 5)) (a.get 27) (.int .i64 5) σ, (some 28), fun _ => some true⟩,
  ⟨fun a σ => .val (a.get 28) σ, (some 29), fun _ => some true⟩,
  ⟨fun a σ => ffield 0 (a.get 1) σ, (some 30), fun a => gd (a.get 29) false⟩,
  ⟨fun a σ => fload none (a.get 30) σ, (some 31), fun a => gd (a.get 29) false⟩,
  ⟨fun a σ => i_eql Tryz.prog 3 (.tmp 31) (.const (.int .i64 6)) (a.get 31) (.int .i64 6) σ, (some 32), fun a => gd (a.get 29) false⟩,
  ⟨fun a σ => fpick (a.get 29) (.bool true) (a.get 32) σ, (some 33), fun _ => some true⟩,
  ⟨fun a σ => .val (a.get 33) σ, (some 5), fun _ => some true⟩]
noncomputable def r130_5 : List COp := r130_5U ()
noncomputable def r130_6U (_ : Unit) : List COp := [⟨fun a σ => .val (a.get 3) σ, (some 34), fun _ => some true⟩,
  ⟨fun a σ => fun1 Tryz.prog (Op.unary .not) (a.get 34) σ, (some 35), fun _ => some true⟩,
  ⟨fun a σ => .val (a.get 35) σ, (some 36), fun _ => some true⟩,
  ⟨fun a σ => ffield 1 (a.get 1) σ, (some 37), fun a => gd (a.get 36) true⟩,
  ⟨fun a σ => fload none (a.get 37) σ, (some 38), fun a => gd (a.get 36) true⟩,
  ⟨fun a σ => i_neq Tryz.prog 3 (.tmp 38) (.const (.int .i64 0)) (a.get 38) (.int .i64 0) σ, (some 39), fun a => gd (a.get 36) true⟩,
  ⟨fun a σ => fpick (a.get 36) (a.get 39) (.bool false) σ, (some 40), fun _ => some true⟩,
  ⟨fun a σ => .val (a.get 40) σ, (some 41), fun _ => some true⟩,
  ⟨fun a σ => .val (a.get 4) σ, (some 42), fun a => gd (a.get 41) false⟩,
  ⟨fun a σ => fun1 Tryz.prog (Op.unary .not) (a.get 42) σ, (some 43), fun a => gd (a.get 41) false⟩,
  ⟨fun a σ => .val (a.get 43) σ, (some 44), fun a => gd (a.get 41) false⟩,
  ⟨fun a σ => ffield 2 (a.get 1) σ, (some 45), fun a => gd (a.get 44) true⟩,
  ⟨fun a σ => fload none (a.get 45) σ, (some 46), fun a => gd (a.get 44) true⟩,
  ⟨fun a σ => i_neq Tryz.prog 9 (.tmp 46) (.const (.string ⟨#[]⟩)) (a.get 46) (.string ⟨#[]⟩) σ, (some 47), fun a => gd (a.get 44) true⟩,
  ⟨fun a σ => fpick (a.get 44) (a.get 47) (.bool false) σ, (some 48), fun a => gd (a.get 41) false⟩,
  ⟨fun a σ => fpick (a.get 41) (.bool true) (a.get 48) σ, (some 49), fun _ => some true⟩,
  ⟨fun a σ => .val (a.get 49) σ, (some 50), fun _ => some true⟩,
  ⟨fun a σ => .val (a.get 5) σ, (some 51), fun a => gd (a.get 50) false⟩,
  ⟨fun a σ => fun1 Tryz.prog (Op.unary .not) (a.get 51) σ, (some 52), fun a => gd (a.get 50) false⟩,
  ⟨fun a σ => .val (a.get 52) σ, (some 53), fun a => gd (a.get 50) false⟩,
  ⟨fun a σ => ffield 3 (a.get 1) σ, (some 54), fun a => gd (a.get 53) true⟩,
  ⟨fun a σ => fload none (a.get 54) σ, (some 55), fun a => gd (a.get 53) true⟩,
  ⟨fun a σ => flenL (a.get 55) σ, (some 56), fun a => gd (a.get 53) true⟩,
  ⟨fun a σ => i_gtr Tryz.prog 3 (.tmp 56) (.const (.int .i64 0)) (a.get 56) (.int .i64 0) σ, (some 57), fun a => gd (a.get 53) true⟩,
  ⟨fun a σ => fpick (a.get 53) (a.get 57) (.bool false) σ, (some 58), fun a => gd (a.get 50) false⟩,
  ⟨fun a σ => fpick (a.get 50) (.bool true) (a.get 58) σ, (some 59), fun _ => some true⟩,
  ⟨fun a σ => .val (a.get 59) σ, (some 60), fun _ => some true⟩,
  ⟨fun a σ => ffield 0 (a.get 1) σ, (some 61), fun a => gd (a.get 60) false⟩,
  ⟨fun a σ => fload none (a.get 61) σ, (some 62), fun a => gd (a.get 60) false⟩,
  ⟨fun a σ => i_eql Tryz.prog 3 (.tmp 62) (.const (.int .i64 5)) (a.get 62) (.int .i64 5) σ, (some 63), fun a => gd (a.get 60) false⟩,
  ⟨fun a σ => .val (a.get 63) σ, (some 64), fun a => gd (a.get 60) false⟩,
  ⟨fun a σ => ffield 3 (a.get 1) σ, (some 65), fun a => gd (a.get 64) true⟩,
  ⟨fun a σ => fload none (a.get 65) σ, (some 66), fun a => gd (a.get 64) true⟩,
  ⟨fun a σ => flenL (a.get 66) σ, (some 67), fun a => gd (a.get 64) true⟩,
  ⟨fun a σ => i_neq Tryz.prog 3 (.tmp 67) (.const (.int .i64 2)) (a.get 67) (.int .i64 2) σ, (some 68), fun a => gd (a.get 64) true⟩,
  ⟨fun a σ => fpick (a.get 64) (a.get 68) (.bool false) σ, (some 69), fun a => gd (a.get 60) false⟩,
  ⟨fun a σ => fpick (a.get 60) (.bool true) (a.get 69) σ, (some 70), fun _ => some true⟩]
noncomputable def r130_6 : List COp := r130_6U ()
noncomputable def r130_7U (_ : Unit) : List COp := [⟨fun a σ => .val (.int .i64 1) σ, (some 2), fun _ => some true⟩]
noncomputable def r130_7 : List COp := r130_7U ()
noncomputable def r130_8U (_ : Unit) : List COp := [⟨fun a σ => ffield 0 (a.get 1) σ, (some 71), fun _ => some true⟩,
  ⟨fun a σ => fload none (a.get 71) σ, (some 72), fun _ => some true⟩]
noncomputable def r130_8 : List COp := r130_8U ()
noncomputable def r130_9U (_ : Unit) : List COp := [⟨fun a σ => i_eql Tryz.prog 3 (.tmp 72) (.const (.int .i64 1)) (a.get 72) (.int .i64 1) σ, (some 74), fun _ => some true⟩,
  ⟨fun a σ => .val (a.get 74) σ, (some 73), fun _ => some true⟩]
noncomputable def r130_9 : List COp := r130_9U ()
noncomputable def r130_10U (_ : Unit) : List COp := [⟨fun a σ => ffield 1 (a.get 1) σ, (some 75), fun _ => some true⟩,
  ⟨fun a σ => fload none (a.get 75) σ, (some 76), fun _ => some true⟩,
  ⟨fun a σ => .enter 107 [(a.get 76), (.int .i64 0), (.int .i64 1)] σ, (some 77), fun _ => some true⟩,
  ⟨fun a σ => fun1 Tryz.prog (Op.unary .not) (a.get 77) σ, (some 78), fun _ => some true⟩]
noncomputable def r130_10 : List COp := r130_10U ()
noncomputable def r130_11U (_ : Unit) : List COp := [⟨fun a σ => .val (.int .i64 13) σ, (some 2), fun _ => some true⟩]
noncomputable def r130_11 : List COp := r130_11U ()
noncomputable def r130_12U (_ : Unit) : List COp := [⟨fun a σ => i_eql Tryz.prog 3 (.tmp 72) (.const (.int .i64 2)) (a.get 72) (.int .i64 2) σ, (some 80), fun _ => some true⟩,
  ⟨fun a σ => .val (a.get 80) σ, (some 79), fun _ => some true⟩]
noncomputable def r130_12 : List COp := r130_12U ()
noncomputable def r130_13U (_ : Unit) : List COp := [⟨fun a σ => ffield 1 (a.get 1) σ, (some 81), fun _ => some true⟩,
  ⟨fun a σ => fload none (a.get 81) σ, (some 82), fun _ => some true⟩,
  ⟨fun a σ => .enter 107 [(a.get 82), (.int .i64 (-999999999)), (.int .i64 999999999)] σ, (some 83), fun _ => some true⟩,
  ⟨fun a σ => fun1 Tryz.prog (Op.unary .not) (a.get 83) σ, (some 84), fun _ => some true⟩]
noncomputable def r130_13 : List COp := r130_13U ()
noncomputable def r130_14U (_ : Unit) : List COp := [⟨fun a σ => .val (.int .i64 13) σ, (some 2), fun _ => some true⟩]
noncomputable def r130_14 : List COp := r130_14U ()
noncomputable def r130_15U (_ : Unit) : List COp := [⟨fun a σ => i_eql Tryz.prog 3 (.tmp 72) (.const (.int .i64 3)) (a.get 72) (.int .i64 3) σ, (some 86), fun _ => some true⟩,
  ⟨fun a σ => .val (a.get 86) σ, (some 85), fun _ => some true⟩]
noncomputable def r130_15 : List COp := r130_15U ()
noncomputable def r130_16U (_ : Unit) : List COp := [⟨fun a σ => ffield 2 (a.get 1) σ, (some 87), fun _ => some true⟩,
  ⟨fun a σ => fload none (a.get 87) σ, (some 88), fun _ => some true⟩,
  ⟨fun a σ => .enter 158 [(a.get 88)] σ, (some 89), fun _ => some true⟩,
  ⟨fun a σ => fun1 Tryz.prog (Op.unary .not) (a.get 89) σ, (some 90), fun _ => some true⟩]
noncomputable def r130_16 : List COp := r130_16U ()
noncomputable def r130_17U (_ : Unit) : List COp := [⟨fun a σ => .val (.int .i64 2) σ, (some 2), fun _ => some true⟩]
noncomputable def r130_17 : List COp := r130_17U ()
noncomputable def r130_18U (_ : Unit) : List COp := [⟨fun a σ => i_eql Tryz.prog 3 (.tmp 72) (.const (.int .i64 4)) (a.get 72) (.int .i64 4) σ, (some 92), fun _ => some true⟩,
  ⟨fun a σ => .val (a.get 92) σ, (some 91), fun _ => some true⟩]
noncomputable def r130_18 : List COp := r130_18U ()
noncomputable def r130_19U (_ : Unit) : List COp := [⟨fun a σ => ffield 2 (a.get 1) σ, (some 93), fun _ => some true⟩,
  ⟨fun a σ => fload none (a.get 93) σ, (some 94), fun _ => some true⟩,
  ⟨fun a σ => .enter 159 [(a.get 94)] σ, (some 95), fun _ => some true⟩,
  ⟨fun a σ => .val (a.get 95) σ, (some 2), fun _ => some true⟩]
noncomputable def r130_19 : List COp := r130_19U ()
noncomputable def r130_20U (_ : Unit) : List COp := [⟨fun a σ => .val (.int .i64 0) σ, (some 2), fun _ => some true⟩]
noncomputable def r130_20 : List COp := r130_20U ()
noncomputable def run130 (E : Env) (ro : Option Nat) (fn : FuncId) : RunF := (seqR (fops E ro r130_0) (seqR (seqR (fops E ro r130_1) (condR (fun a => (a.get 9)) (seqR (fops E ro r130_2) retR) skipR)) (seqR (fops E ro r130_3) (seqR (fops E ro r130_4) (seqR (fops E ro r130_5) (seqR (seqR (fops E ro r130_6) (condR (fun a => (a.get 70)) (seqR (fops E ro r130_7) retR) skipR)) (seqR (seqR (fops E ro r130_8) (blockR 0 (seqR (fops E ro r130_9) (condR (fun a => (a.get 73)) (seqR (fops E ro r130_10) (condR (fun a => (a.get 78)) (seqR (fops E ro r130_11) retR) skipR)) (seqR (fops E ro r130_12) (condR (fun a => (a.get 79)) (seqR (fops E ro r130_13) (condR (fun a => (a.get 84)) (seqR (fops E ro r130_14) retR) skipR)) (seqR (fops E ro r130_15) (condR (fun a => (a.get 85)) (seqR (fops E ro r130_16) (condR (fun a => (a.get 90)) (seqR (fops E ro r130_17) retR) skipR)) (seqR (fops E ro r130_18) (condR (fun a => (a.get 91)) (seqR (fops E ro r130_19) retR) skipR)))))))))) (seqR (fops E ro r130_20) retR))))))))
theorem r130_0_go : fops E ro r130_0 a u σ = fops E ro (r130_0U ()) a u σ := rfl
theorem r130_1_go : fops E ro r130_1 a u σ = fops E ro (r130_1U ()) a u σ := rfl
theorem r130_2_go : fops E ro r130_2 a u σ = fops E ro (r130_2U ()) a u σ := rfl
theorem r130_3_go : fops E ro r130_3 a u σ = fops E ro (r130_3U ()) a u σ := rfl
theorem r130_4_go : fops E ro r130_4 a u σ = fops E ro (r130_4U ()) a u σ := rfl
theorem r130_5_go : fops E ro r130_5 a u σ = fops E ro (r130_5U ()) a u σ := rfl
theorem r130_6_go : fops E ro r130_6 a u σ = fops E ro (r130_6U ()) a u σ := rfl
theorem r130_7_go : fops E ro r130_7 a u σ = fops E ro (r130_7U ()) a u σ := rfl
theorem r130_8_go : fops E ro r130_8 a u σ = fops E ro (r130_8U ()) a u σ := rfl
theorem r130_9_go : fops E ro r130_9 a u σ = fops E ro (r130_9U ()) a u σ := rfl
theorem r130_10_go : fops E ro r130_10 a u σ = fops E ro (r130_10U ()) a u σ := rfl
theorem r130_11_go : fops E ro r130_11 a u σ = fops E ro (r130_11U ()) a u σ := rfl
theorem r130_12_go : fops E ro r130_12 a u σ = fops E ro (r130_12U ()) a u σ := rfl
theorem r130_13_go : fops E ro r130_13 a u σ = fops E ro (r130_13U ()) a u σ := rfl
theorem r130_14_go : fops E ro r130_14 a u σ = fops E ro (r130_14U ()) a u σ := rfl
theorem r130_15_go : fops E ro r130_15 a u σ = fops E ro (r130_15U ()) a u σ := rfl
theorem r130_16_go : fops E ro r130_16 a u σ = fops E ro (r130_16U ()) a u σ := rfl
theorem r130_17_go : fops E ro r130_17 a u σ = fops E ro (r130_17U ()) a u σ := rfl
theorem r130_18_go : fops E ro r130_18 a u σ = fops E ro (r130_18U ()) a u σ := rfl
theorem r130_19_go : fops E ro r130_19 a u σ = fops E ro (r130_19U ()) a u σ := rfl
theorem r130_20_go : fops E ro r130_20 a u σ = fops E ro (r130_20U ()) a u σ := rfl
theorem code130 (E : Env) (ro : Option Nat) (fn : FuncId) : code Tryz.prog nls (Tryz.f130.body.getD .skip) E ro fn = run130 E ro fn := by kernel_rfl
theorem enter130 (E : Env) (args : List Value) (u : Option FrameMode) (σ : FState) (hn : args.length ≤ (6 : Nat)) : fcall Tryz.prog nls E 130 args u σ = leaveR Tryz.prog E [.tmp 2] (run130 E none 130 ⟨padTo undef 6 args, fun _ => undef, 6, 96, []⟩ u σ) := by
  rw [fcall_of (body := Tryz.f130.body.getD .skip) Tryz.func130 rfl E args u σ 6 96 (by kernel_rfl) rfl ⟨hn, by decide⟩, code130]
  rfl
/-! caracole/caracoleref01.Large -/
noncomputable def r82_0U (_ : Unit) : List COp := [⟨fun a σ => fbox 24 (a.get 0) σ, (some 1), fun _ => some true⟩,
  ⟨fun a σ => .val (.int .i64 0) σ, (some 2), fun _ => some true⟩]
noncomputable def r82_0 : List COp := r82_0U ()
noncomputable def r82_1U (_ : Unit) : List COp := [⟨fun a σ => fload (some 4) (a.get 1) σ, (some 3), fun _ => some true⟩,
  ⟨fun a σ => .enter 52 [(a.get 3), (.int .i64 2000)] σ, (some 4), fun _ => some true⟩,
  ⟨fun a σ => i_gtr Tryz.prog 3 (.tmp 4) (.const (.int .i64 2000)) (a.get 4) (.int .i64 2000) σ, (some 5), fun _ => some true⟩]
noncomputable def r82_1 : List COp := r82_1U ()
noncomputable def r82_2U (_ : Unit) : List COp := [⟨fun a σ => .val (.int .i64 8) σ, (some 2), fun _ => some true⟩]
noncomputable def r82_2 : List COp := r82_2U ()
noncomputable def r82_3U (_ : Unit) : List COp := [⟨fun a σ => .val (.int .i64 0) σ, (some 2), fun _ => some true⟩]
noncomputable def r82_3 : List COp := r82_3U ()
noncomputable def run82 (E : Env) (ro : Option Nat) (fn : FuncId) : RunF := (seqR (fops E ro r82_0) (seqR (seqR (fops E ro r82_1) (condR (fun a => (a.get 5)) (seqR (fops E ro r82_2) retR) skipR)) (seqR (fops E ro r82_3) retR)))
theorem r82_0_go : fops E ro r82_0 a u σ = fops E ro (r82_0U ()) a u σ := rfl
theorem r82_1_go : fops E ro r82_1 a u σ = fops E ro (r82_1U ()) a u σ := rfl
theorem r82_3_go : fops E ro r82_3 a u σ = fops E ro (r82_3U ()) a u σ := rfl
theorem code82 (E : Env) (ro : Option Nat) (fn : FuncId) : code Tryz.prog nls (Tryz.f82.body.getD .skip) E ro fn = run82 E ro fn := by kernel_rfl
theorem enter82 (E : Env) (args : List Value) (u : Option FrameMode) (σ : FState) (hn : args.length ≤ (2 : Nat)) : fcall Tryz.prog nls E 82 args u σ = leaveR Tryz.prog E [.tmp 2] (run82 E none 82 ⟨padTo undef 2 args, fun _ => undef, 2, 6, []⟩ u σ) := by
  rw [fcall_of (body := Tryz.f82.body.getD .skip) Tryz.func82 rfl E args u σ 2 6 (by kernel_rfl) rfl ⟨hn, by decide⟩, code82]
  rfl
/-! caracole/caracolekit.Pieces -/
noncomputable def r52_0U (_ : Unit) : List COp := [⟨fun a σ => fbox 24 (a.get 0) σ, (some 2), fun _ => some true⟩,
  ⟨fun a σ => .val (.int .i64 0) σ, (some 4), fun _ => some true⟩]
noncomputable def r52_0 : List COp := r52_0U ()
noncomputable def r52_1U (_ : Unit) : List COp := [⟨fun a σ => .val (.int .i64 1) σ, (some 5), fun _ => some true⟩]
noncomputable def r52_1 : List COp := r52_1U ()
noncomputable def r52_2U (_ : Unit) : List COp := [⟨fun a σ => .val (.int .i64 0) σ, (some 6), fun _ => some true⟩]
noncomputable def r52_2 : List COp := r52_2U ()
noncomputable def r52_3U (_ : Unit) : List COp := [⟨fun a σ => .val (a.get 6) σ, (some 7), fun _ => some true⟩,
  ⟨fun a σ => ffield 3 (a.get 2) σ, (some 8), fun _ => some true⟩,
  ⟨fun a σ => fload none (a.get 8) σ, (some 9), fun _ => some true⟩,
  ⟨fun a σ => flenL (a.get 9) σ, (some 10), fun _ => some true⟩,
  ⟨fun a σ => i_lss Tryz.prog 3 (.tmp 7) (.tmp 10) (a.get 7) (a.get 10) σ, (some 11), fun _ => some true⟩,
  ⟨fun a σ => .val (a.get 11) σ, (some 12), fun _ => some true⟩,
  ⟨fun a σ => .val (a.get 5) σ, (some 13), fun a => gd (a.get 12) true⟩,
  ⟨fun a σ => .val (a.get 1) σ, (some 14), fun a => gd (a.get 12) true⟩,
  ⟨fun a σ => i_leq Tryz.prog 3 (.tmp 13) (.tmp 14) (a.get 13) (a.get 14) σ, (some 15), fun a => gd (a.get 12) true⟩,
  ⟨fun a σ => fpick (a.get 12) (a.get 15) (.bool false) σ, (some 16), fun _ => some true⟩]
noncomputable def r52_3 : List COp := r52_3U ()
noncomputable def r52_5U (_ : Unit) : List COp := [⟨fun a σ => .val (a.get 5) σ, (some 19), fun _ => some true⟩,
  ⟨fun a σ => ffield 3 (a.get 2) σ, (some 20), fun _ => some true⟩,
  ⟨fun a σ => fload none (a.get 20) σ, (some 21), fun _ => some true⟩,
  ⟨fun a σ => .val (a.get 6) σ, (some 22), fun _ => some true⟩,
  ⟨fun a σ => findex (none, 4) (a.get 21) (a.get 22) σ, (some 23), fun _ => some true⟩,
  ⟨fun a σ => fload (some 4) (a.get 23) σ, (some 24), fun _ => some true⟩,
  ⟨fun a σ => .val (a.get 1) σ, (some 25), fun _ => some true⟩,
  ⟨fun a σ => .val (a.get 5) σ, (some 26), fun _ => some true⟩,
  ⟨fun a σ => i_sub Tryz.prog 3 (.tmp 25) (.tmp 26) (a.get 25) (a.get 26) σ, (some 27), fun _ => some true⟩,
  ⟨fun a σ => .enter 52 [(a.get 24), (a.get 27)] σ, (some 28), fun _ => some true⟩,
  ⟨fun a σ => i_add Tryz.prog 3 (.tmp 19) (.tmp 28) (a.get 19) (a.get 28) σ, (some 29), fun _ => some true⟩,
  ⟨fun a σ => .val (a.get 29) σ, (some 5), fun _ => some true⟩]
noncomputable def r52_5 : List COp := r52_5U ()
noncomputable def r52_4U (_ : Unit) : List COp := [⟨fun a σ => .val (a.get 6) σ, (some 17), fun _ => some true⟩,
  ⟨fun a σ => i_add Tryz.prog 3 (.tmp 17) (.const (.int .i64 1)) (a.get 17) (.int .i64 1) σ, (some 18), fun _ => some true⟩,
  ⟨fun a σ => .val (a.get 18) σ, (some 6), fun _ => some true⟩]
noncomputable def r52_4 : List COp := r52_4U ()
noncomputable def l52_0 (E : Env) (ro : Option Nat) (fn : FuncId) : RunF := (seqR (seqR (fops E ro r52_3) (condR (fun a => (a.get 16)) skipR (exitR 0))) (seqR (blockR 1 (fops E ro r52_5)) (fops E ro r52_4)))
noncomputable def r52_6U (_ : Unit) : List COp := [⟨fun a σ => .val (a.get 5) σ, (some 30), fun _ => some true⟩,
  ⟨fun a σ => .val (a.get 30) σ, (some 4), fun _ => some true⟩]
noncomputable def r52_6 : List COp := r52_6U ()
noncomputable def run52 (E : Env) (ro : Option Nat) (fn : FuncId) : RunF := (seqR (fops E ro r52_0) (seqR (fops E ro r52_1) (seqR (seqR (fops E ro r52_2) (blockR 0 (loopR (keepOf nls fn) (l52_0 E ro fn)))) (seqR (fops E ro r52_6) retR))))
theorem r52_0_go : fops E ro r52_0 a u σ = fops E ro (r52_0U ()) a u σ := rfl
theorem r52_1_go : fops E ro r52_1 a u σ = fops E ro (r52_1U ()) a u σ := rfl
theorem r52_2_go : fops E ro r52_2 a u σ = fops E ro (r52_2U ()) a u σ := rfl
theorem r52_3_go : fops E ro r52_3 a u σ = fops E ro (r52_3U ()) a u σ := rfl
theorem r52_5_go : fops E ro r52_5 a u σ = fops E ro (r52_5U ()) a u σ := rfl
theorem r52_4_go : fops E ro r52_4 a u σ = fops E ro (r52_4U ()) a u σ := rfl
theorem r52_6_go : fops E ro r52_6 a u σ = fops E ro (r52_6U ()) a u σ := rfl
theorem code52 (E : Env) (ro : Option Nat) (fn : FuncId) : code Tryz.prog nls (Tryz.f52.body.getD .skip) E ro fn = run52 E ro fn := by kernel_rfl
theorem enter52 (E : Env) (args : List Value) (u : Option FrameMode) (σ : FState) (hn : args.length ≤ (7 : Nat)) : fcall Tryz.prog nls E 52 args u σ = leaveR Tryz.prog E [.tmp 4] (run52 E none 52 ⟨padTo undef 7 args, fun _ => undef, 7, 31, []⟩ u σ) := by
  rw [fcall_of (body := Tryz.f52.body.getD .skip) Tryz.func52 rfl E args u σ 7 31 (by kernel_rfl) rfl ⟨hn, by decide⟩, code52]
  rfl
/-! caracole/caracoleref01.Symbol -/
noncomputable def r158_0U (_ : Unit) : List COp := [⟨fun a σ => .val (.bool false) σ, (some 2), fun _ => some true⟩]
noncomputable def r158_0 : List COp := r158_0U ()
noncomputable def r158_1U (_ : Unit) : List COp := [⟨fun a σ => .val (a.get 0) σ, (some 5), fun _ => some true⟩,
  ⟨fun a σ => flenS (a.get 5) σ, (some 6), fun _ => some true⟩,
  ⟨fun a σ => i_lss Tryz.prog 3 (.tmp 6) (.const (.int .i64 1)) (a.get 6) (.int .i64 1) σ, (some 7), fun _ => some true⟩,
  ⟨fun a σ => .val (a.get 7) σ, (some 8), fun _ => some true⟩,
  ⟨fun a σ => .val (a.get 0) σ, (some 9), fun a => gd (a.get 8) false⟩,
  ⟨fun a σ => flenS (a.get 9) σ, (some 10), fun a => gd (a.get 8) false⟩,
  ⟨fun a σ => i_gtr Tryz.prog 3 (.tmp 10) (.const (.int .i64 20)) (a.get 10) (.int .i64 20) σ, (some 11), fun a => gd (a.get 8) false⟩,
  ⟨fun a σ => fpick (a.get 8) (.bool true) (a.get 11) σ, (some 12), fun _ => some true⟩,
  ⟨fun a σ => .val (a.get 12) σ, (some 13), fun _ => some true⟩,
  ⟨fun a σ => .val (a.get 0) σ, (some 14), fun a => gd (a.get 13) false⟩,
  ⟨fun a σ => findexS (a.get 14) (.int .i64 0) σ, (some 15), fun a => gd (a.get 13) false⟩,
  ⟨fun a σ => .enter 183 [(a.get 15)] σ, (some 16), fun a => gd (a.get 13) false⟩,
  ⟨fun a σ => fpick (a.get 13) (.bool true) (a.get 16) σ, (some 17), fun _ => some true⟩,
  ⟨fun a σ => .val (a.get 17) σ, (some 18), fun _ => some true⟩,
  ⟨fun a σ => .val (a.get 0) σ, (some 19), fun a => gd (a.get 18) false⟩,
  ⟨fun a σ => findexS (a.get 19) (.int .i64 0) σ, (some 20), fun a => gd (a.get 18) false⟩,
  ⟨fun a σ => i_eql Tryz.prog 5 (.tmp 20) (.const (.int .u8 45)) (a.get 20) (.int .u8 45) σ, (some 21), fun a => gd (a.get 18) false⟩,
  ⟨fun a σ => .val (a.get 21) σ, (some 22), fun a => gd (a.get 18) false⟩,
  ⟨fun a σ => .val (a.get 0) σ, (some 23), fun a => gd (a.get 22) true⟩,
  ⟨fun a σ => flenS (a.get 23) σ, (some 24), fun a => gd (a.get 22) true⟩,
  ⟨fun a σ => i_gtr Tryz.prog 3 (.tmp 24) (.const (.int .i64 1)) (a.get 24) (.int .i64 1) σ, (some 25), fun a => gd (a.get 22) true⟩,
  ⟨fun a σ => fpick (a.get 22) (a.get 25) (.bool false) σ, (some 26), fun a => gd (a.get 18) false⟩,
  ⟨fun a σ => .val (a.get 26) σ, (some 27), fun a => gd (a.get 18) false⟩,
  ⟨fun a σ => .val (a.get 0) σ, (some 28), fun a => gd (a.get 27) true⟩,
  ⟨fun a σ => findexS (a.get 28) (.int .i64 1) σ, (some 29), fun a => gd (a.get 27) true⟩,
  ⟨fun a σ => .enter 183 [(a.get 29)] σ, (some 30), fun a => gd (a.get 27) true⟩,
  ⟨fun a σ => fpick (a.get 27) (a.get 30) (.bool false) σ, (some 31), fun a => gd (a.get 18) false⟩,
  ⟨fun a σ => fpick (a.get 18) (.bool true) (a.get 31) σ, (some 32), fun _ => some true⟩]
noncomputable def r158_1 : List COp := r158_1U ()
noncomputable def r158_2U (_ : Unit) : List COp := [⟨fun a σ => .val (.bool false) σ, (some 2), fun _ => some true⟩]
noncomputable def r158_2 : List COp := r158_2U ()
noncomputable def r158_3U (_ : Unit) : List COp := [⟨fun a σ => .val (.int .i64 0) σ, (some 3), fun _ => some true⟩]
noncomputable def r158_3 : List COp := r158_3U ()
noncomputable def r158_4U (_ : Unit) : List COp := [⟨fun a σ => .val (a.get 3) σ, (some 33), fun _ => some true⟩,
  ⟨fun a σ => .val (a.get 0) σ, (some 34), fun _ => some true⟩,
  ⟨fun a σ => flenS (a.get 34) σ, (some 35), fun _ => some true⟩,
  ⟨fun a σ => i_lss Tryz.prog 3 (.tmp 33) (.tmp 35) (a.get 33) (a.get 35) σ, (some 36), fun _ => some true⟩]
noncomputable def r158_4 : List COp := r158_4U ()
noncomputable def r158_6U (_ : Unit) : List COp := [⟨fun a σ => .val (a.get 0) σ, (some 39), fun _ => some true⟩,
  ⟨fun a σ => .val (a.get 3) σ, (some 40), fun _ => some true⟩,
  ⟨fun a σ => findexS (a.get 39) (a.get 40) σ, (some 41), fun _ => some true⟩,
  ⟨fun a σ => .val (a.get 41) σ, (some 4), fun _ => some true⟩]
noncomputable def r158_6 : List COp := r158_6U ()
noncomputable def r158_7U (_ : Unit) : List COp := [⟨fun a σ => .val (a.get 4) σ, (some 42), fun _ => some true⟩,
  ⟨fun a σ => i_leq Tryz.prog 5 (.const (.int .u8 97)) (.tmp 42) (.int .u8 97) (a.get 42) σ, (some 43), fun _ => some true⟩,
  ⟨fun a σ => .val (a.get 43) σ, (some 44), fun _ => some true⟩,
  ⟨fun a σ => .val (a.get 4) σ, (some 45), fun a => gd (a.get 44) true⟩,
  ⟨fun a σ => i_leq Tryz.prog 5 (.tmp 45) (.const (.int .u8 122)) (a.get 45) (.int .u8 122) σ, (some 46), fun a => gd (a.get 44) true⟩,
  ⟨fun a σ => fpick (a.get 44) (a.get 46) (.bool false) σ, (some 47), fun _ => some true⟩,
  ⟨fun a σ => .val (a.get 47) σ, (some 48), fun _ => some true⟩,
  ⟨fun a σ => .val (a.get 4) σ, (some 49), fun a => gd (a.get 48) false⟩,
  ⟨fun a σ => .enter 183 [(a.get 49)] σ, (some 50), fun a => gd (a.get 48) false⟩,
  ⟨fun a σ => fpick (a.get 48) (.bool true) (a.get 50) σ, (some 51), fun _ => some true⟩]
noncomputable def r158_7 : List COp := r158_7U ()
noncomputable def r158_8U (_ : Unit) : List COp := [⟨fun a σ => .val (a.get 4) σ, (some 52), fun _ => some true⟩]
noncomputable def r158_8 : List COp := r158_8U ()
noncomputable def r158_9U (_ : Unit) : List COp := [⟨fun a σ => i_eql Tryz.prog 5 (.tmp 52) (.const (.int .u8 45)) (a.get 52) (.int .u8 45) σ, (some 54), fun _ => some true⟩,
  ⟨fun a σ => .val (a.get 54) σ, (some 53), fun _ => some true⟩]
noncomputable def r158_9 : List COp := r158_9U ()
noncomputable def r158_10U (_ : Unit) : List COp := [⟨fun a σ => i_eql Tryz.prog 5 (.tmp 52) (.const (.int .u8 43)) (a.get 52) (.int .u8 43) σ, (some 55), fun _ => some true⟩,
  ⟨fun a σ => .val (a.get 55) σ, (some 53), fun _ => some true⟩]
noncomputable def r158_10 : List COp := r158_10U ()
noncomputable def r158_11U (_ : Unit) : List COp := [⟨fun a σ => i_eql Tryz.prog 5 (.tmp 52) (.const (.int .u8 42)) (a.get 52) (.int .u8 42) σ, (some 56), fun _ => some true⟩,
  ⟨fun a σ => .val (a.get 56) σ, (some 53), fun _ => some true⟩]
noncomputable def r158_11 : List COp := r158_11U ()
noncomputable def r158_12U (_ : Unit) : List COp := [⟨fun a σ => i_eql Tryz.prog 5 (.tmp 52) (.const (.int .u8 47)) (a.get 52) (.int .u8 47) σ, (some 57), fun _ => some true⟩,
  ⟨fun a σ => .val (a.get 57) σ, (some 53), fun _ => some true⟩]
noncomputable def r158_12 : List COp := r158_12U ()
noncomputable def r158_13U (_ : Unit) : List COp := [⟨fun a σ => i_eql Tryz.prog 5 (.tmp 52) (.const (.int .u8 60)) (a.get 52) (.int .u8 60) σ, (some 58), fun _ => some true⟩,
  ⟨fun a σ => .val (a.get 58) σ, (some 53), fun _ => some true⟩]
noncomputable def r158_13 : List COp := r158_13U ()
noncomputable def r158_14U (_ : Unit) : List COp := [⟨fun a σ => i_eql Tryz.prog 5 (.tmp 52) (.const (.int .u8 62)) (a.get 52) (.int .u8 62) σ, (some 59), fun _ => some true⟩,
  ⟨fun a σ => .val (a.get 59) σ, (some 53), fun _ => some true⟩]
noncomputable def r158_14 : List COp := r158_14U ()
noncomputable def r158_15U (_ : Unit) : List COp := [⟨fun a σ => i_eql Tryz.prog 5 (.tmp 52) (.const (.int .u8 61)) (a.get 52) (.int .u8 61) σ, (some 60), fun _ => some true⟩,
  ⟨fun a σ => .val (a.get 60) σ, (some 53), fun _ => some true⟩]
noncomputable def r158_15 : List COp := r158_15U ()
noncomputable def r158_16U (_ : Unit) : List COp := [⟨fun a σ => i_eql Tryz.prog 5 (.tmp 52) (.const (.int .u8 63)) (a.get 52) (.int .u8 63) σ, (some 61), fun _ => some true⟩,
  ⟨fun a σ => .val (a.get 61) σ, (some 53), fun _ => some true⟩]
noncomputable def r158_16 : List COp := r158_16U ()
noncomputable def r158_17U (_ : Unit) : List COp := [⟨fun a σ => i_eql Tryz.prog 5 (.tmp 52) (.const (.int .u8 33)) (a.get 52) (.int .u8 33) σ, (some 62), fun _ => some true⟩,
  ⟨fun a σ => .val (a.get 62) σ, (some 53), fun _ => some true⟩]
noncomputable def r158_17 : List COp := r158_17U ()
noncomputable def r158_18U (_ : Unit) : List COp := [⟨fun a σ => .val (.bool false) σ, (some 2), fun _ => some true⟩]
noncomputable def r158_18 : List COp := r158_18U ()
noncomputable def r158_5U (_ : Unit) : List COp := [⟨fun a σ => .val (a.get 3) σ, (some 37), fun _ => some true⟩,
  ⟨fun a σ => i_add Tryz.prog 3 (.tmp 37) (.const (.int .i64 1)) (a.get 37) (.int .i64 1) σ, (some 38), fun _ => some true⟩,
  ⟨fun a σ => .val (a.get 38) σ, (some 3), fun _ => some true⟩]
noncomputable def r158_5 : List COp := r158_5U ()
noncomputable def l158_0 (E : Env) (ro : Option Nat) (fn : FuncId) : RunF := (seqR (seqR (fops E ro r158_4) (condR (fun a => (a.get 36)) skipR (exitR 0))) (seqR (blockR 1 (seqR (fops E ro r158_6) (seqR (seqR (fops E ro r158_7) (condR (fun a => (a.get 51)) (exitR 1) skipR)) (seqR (seqR (fops E ro r158_8) (blockR 2 (seqR (seqR (fops E ro r158_9) (condR (fun a => (a.get 53)) skipR (seqR (fops E ro r158_10) (condR (fun a => (a.get 53)) skipR (seqR (fops E ro r158_11) (condR (fun a => (a.get 53)) skipR (seqR (fops E ro r158_12) (condR (fun a => (a.get 53)) skipR (seqR (fops E ro r158_13) (condR (fun a => (a.get 53)) skipR (seqR (fops E ro r158_14) (condR (fun a => (a.get 53)) skipR (seqR (fops E ro r158_15) (condR (fun a => (a.get 53)) skipR (seqR (fops E ro r158_16) (condR (fun a => (a.get 53)) skipR (fops E ro r158_17))))))))))))))))) (condR (fun a => (a.get 53)) (exitR 1) skipR)))) (seqR (fops E ro r158_18) retR))))) (fops E ro r158_5)))
noncomputable def r158_19U (_ : Unit) : List COp := [⟨fun a σ => .val (.bool true) σ, (some 2), fun _ => some true⟩]
noncomputable def r158_19 : List COp := r158_19U ()
noncomputable def run158 (E : Env) (ro : Option Nat) (fn : FuncId) : RunF := (seqR (fops E ro r158_0) (seqR (seqR (fops E ro r158_1) (condR (fun a => (a.get 32)) (seqR (fops E ro r158_2) retR) skipR)) (seqR (seqR (fops E ro r158_3) (blockR 0 (loopR (keepOf nls fn) (l158_0 E ro fn)))) (seqR (fops E ro r158_19) retR))))
theorem r158_0_go : fops E ro r158_0 a u σ = fops E ro (r158_0U ()) a u σ := rfl
theorem r158_1_go : fops E ro r158_1 a u σ = fops E ro (r158_1U ()) a u σ := rfl
theorem r158_2_go : fops E ro r158_2 a u σ = fops E ro (r158_2U ()) a u σ := rfl
theorem r158_3_go : fops E ro r158_3 a u σ = fops E ro (r158_3U ()) a u σ := rfl
theorem r158_4_go : fops E ro r158_4 a u σ = fops E ro (r158_4U ()) a u σ := rfl
theorem r158_6_go : fops E ro r158_6 a u σ = fops E ro (r158_6U ()) a u σ := rfl
theorem r158_7_go : fops E ro r158_7 a u σ = fops E ro (r158_7U ()) a u σ := rfl
theorem r158_8_go : fops E ro r158_8 a u σ = fops E ro (r158_8U ()) a u σ := rfl
theorem r158_9_go : fops E ro r158_9 a u σ = fops E ro (r158_9U ()) a u σ := rfl
theorem r158_10_go : fops E ro r158_10 a u σ = fops E ro (r158_10U ()) a u σ := rfl
theorem r158_11_go : fops E ro r158_11 a u σ = fops E ro (r158_11U ()) a u σ := rfl
theorem r158_12_go : fops E ro r158_12 a u σ = fops E ro (r158_12U ()) a u σ := rfl
theorem r158_13_go : fops E ro r158_13 a u σ = fops E ro (r158_13U ()) a u σ := rfl
theorem r158_14_go : fops E ro r158_14 a u σ = fops E ro (r158_14U ()) a u σ := rfl
theorem r158_15_go : fops E ro r158_15 a u σ = fops E ro (r158_15U ()) a u σ := rfl
theorem r158_16_go : fops E ro r158_16 a u σ = fops E ro (r158_16U ()) a u σ := rfl
theorem r158_17_go : fops E ro r158_17 a u σ = fops E ro (r158_17U ()) a u σ := rfl
theorem r158_18_go : fops E ro r158_18 a u σ = fops E ro (r158_18U ()) a u σ := rfl
theorem r158_5_go : fops E ro r158_5 a u σ = fops E ro (r158_5U ()) a u σ := rfl
theorem r158_19_go : fops E ro r158_19 a u σ = fops E ro (r158_19U ()) a u σ := rfl
theorem code158 (E : Env) (ro : Option Nat) (fn : FuncId) : code Tryz.prog nls (Tryz.f158.body.getD .skip) E ro fn = run158 E ro fn := by kernel_rfl
theorem enter158 (E : Env) (args : List Value) (u : Option FrameMode) (σ : FState) (hn : args.length ≤ (5 : Nat)) : fcall Tryz.prog nls E 158 args u σ = leaveR Tryz.prog E [.tmp 2] (run158 E none 158 ⟨padTo undef 5 args, fun _ => undef, 5, 63, []⟩ u σ) := by
  rw [fcall_of (body := Tryz.f158.body.getD .skip) Tryz.func158 rfl E args u σ 5 63 (by kernel_rfl) rfl ⟨hn, by decide⟩, code158]
  rfl
/-! caracole/caracoleref01.CheckText -/
noncomputable def r159_0U (_ : Unit) : List COp := [⟨fun a σ => .val (.int .i64 0) σ, (some 2), fun _ => some true⟩]
noncomputable def r159_0 : List COp := r159_0U ()
noncomputable def r159_1U (_ : Unit) : List COp := [⟨fun a σ => .val (a.get 0) σ, (some 4), fun _ => some true⟩,
  ⟨fun a σ => flenS (a.get 4) σ, (some 5), fun _ => some true⟩,
  ⟨fun a σ => i_gtr Tryz.prog 3 (.tmp 5) (.const (.int .i64 60)) (a.get 5) (.int .i64 60) σ, (some 6), fun _ => some true⟩]
noncomputable def r159_1 : List COp := r159_1U ()
noncomputable def r159_2U (_ : Unit) : List COp := [⟨fun a σ => .val (.int .i64 8) σ, (some 2), fun _ => some true⟩]
noncomputable def r159_2 : List COp := r159_2U ()
noncomputable def r159_3U (_ : Unit) : List COp := [⟨fun a σ => .val (.int .i64 0) σ, (some 3), fun _ => some true⟩]
noncomputable def r159_3 : List COp := r159_3U ()
noncomputable def r159_4U (_ : Unit) : List COp := [⟨fun a σ => .val (a.get 3) σ, (some 7), fun _ => some true⟩,
  ⟨fun a σ => .val (a.get 0) σ, (some 8), fun _ => some true⟩,
  ⟨fun a σ => flenS (a.get 8) σ, (some 9), fun _ => some true⟩,
  ⟨fun a σ => i_lss Tryz.prog 3 (.tmp 7) (.tmp 9) (a.get 7) (a.get 9) σ, (some 10), fun _ => some true⟩]
noncomputable def r159_4 : List COp := r159_4U ()
noncomputable def r159_6U (_ : Unit) : List COp := [⟨fun a σ => .val (a.get 0) σ, (some 13), fun _ => some true⟩,
  ⟨fun a σ => .val (a.get 3) σ, (some 14), fun _ => some true⟩,
  ⟨fun a σ => findexS (a.get 13) (a.get 14) σ, (some 15), fun _ => some true⟩,
  ⟨fun a σ => i_lss Tryz.prog 5 (.tmp 15) (.const (.int .u8 32)) (a.get 15) (.int .u8 32) σ, (some 16), fun _ => some true⟩,
  ⟨fun a σ => .val (a.get 16) σ, (some 17), fun _ => some true⟩,
  ⟨fun a σ => .val (a.get 0) σ, (some 18), fun a => gd (a.get 17) false⟩,
  ⟨fun a σ => .val (a.get 3) σ, (some 19), fun a => gd (a.get 17) false⟩,
  ⟨fun a σ => findexS (a.get 18) (a.get 19) σ, (some 20), fun a => gd (a.get 17) false⟩,
  ⟨fun a σ => i_gtr Tryz.prog 5 (.tmp 20) (.const (.int .u8 126)) (a.get 20) (.int .u8 126) σ, (some 21), fun a => gd (a.get 17) false⟩,
  ⟨fun a σ => fpick (a.get 17) (.bool true) (a.get 21) σ, (some 22), fun _ => some true⟩]
noncomputable def r159_6 : List COp := r159_6U ()
noncomputable def r159_7U (_ : Unit) : List COp := [⟨fun a σ => .val (.int .i64 13) σ, (some 2), fun _ => some true⟩]
noncomputable def r159_7 : List COp := r159_7U ()
noncomputable def r159_5U (_ : Unit) : List COp := [⟨fun a σ => .val (a.get 3) σ, (some 11), fun _ => some true⟩,
  ⟨fun a σ => i_add Tryz.prog 3 (.tmp 11) (.const (.int .i64 1)) (a.get 11) (.int .i64 1) σ, (some 12), fun _ => some true⟩,
  ⟨fun a σ => .val (a.get 12) σ, (some 3), fun _ => some true⟩]
noncomputable def r159_5 : List COp := r159_5U ()
noncomputable def l159_0 (E : Env) (ro : Option Nat) (fn : FuncId) : RunF := (seqR (seqR (fops E ro r159_4) (condR (fun a => (a.get 10)) skipR (exitR 0))) (seqR (blockR 1 (seqR (fops E ro r159_6) (condR (fun a => (a.get 22)) (seqR (fops E ro r159_7) retR) skipR))) (fops E ro r159_5)))
noncomputable def r159_8U (_ : Unit) : List COp := [⟨fun a σ => .val (.int .i64 0) σ, (some 2), fun _ => some true⟩]
noncomputable def r159_8 : List COp := r159_8U ()
noncomputable def run159 (E : Env) (ro : Option Nat) (fn : FuncId) : RunF := (seqR (fops E ro r159_0) (seqR (seqR (fops E ro r159_1) (condR (fun a => (a.get 6)) (seqR (fops E ro r159_2) retR) skipR)) (seqR (seqR (fops E ro r159_3) (blockR 0 (loopR (keepOf nls fn) (l159_0 E ro fn)))) (seqR (fops E ro r159_8) retR))))
theorem r159_0_go : fops E ro r159_0 a u σ = fops E ro (r159_0U ()) a u σ := rfl
theorem r159_1_go : fops E ro r159_1 a u σ = fops E ro (r159_1U ()) a u σ := rfl
theorem r159_2_go : fops E ro r159_2 a u σ = fops E ro (r159_2U ()) a u σ := rfl
theorem r159_3_go : fops E ro r159_3 a u σ = fops E ro (r159_3U ()) a u σ := rfl
theorem r159_4_go : fops E ro r159_4 a u σ = fops E ro (r159_4U ()) a u σ := rfl
theorem r159_6_go : fops E ro r159_6 a u σ = fops E ro (r159_6U ()) a u σ := rfl
theorem r159_7_go : fops E ro r159_7 a u σ = fops E ro (r159_7U ()) a u σ := rfl
theorem r159_5_go : fops E ro r159_5 a u σ = fops E ro (r159_5U ()) a u σ := rfl
theorem r159_8_go : fops E ro r159_8 a u σ = fops E ro (r159_8U ()) a u σ := rfl
theorem code159 (E : Env) (ro : Option Nat) (fn : FuncId) : code Tryz.prog nls (Tryz.f159.body.getD .skip) E ro fn = run159 E ro fn := by kernel_rfl
theorem enter159 (E : Env) (args : List Value) (u : Option FrameMode) (σ : FState) (hn : args.length ≤ (4 : Nat)) : fcall Tryz.prog nls E 159 args u σ = leaveR Tryz.prog E [.tmp 2] (run159 E none 159 ⟨padTo undef 4 args, fun _ => undef, 4, 23, []⟩ u σ) := by
  rw [fcall_of (body := Tryz.f159.body.getD .skip) Tryz.func159 rfl E args u σ 4 23 (by kernel_rfl) rfl ⟨hn, by decide⟩, code159]
  rfl
end Go.Proofs.YtokieofohmgjdaaGreatDoor
/- The reference's Piece, of what DatumOf makes. -/
namespace Go.Proofs.YtokieofohmgjdaaGreatDoor
open Go Go.Eng
attribute [local congr] andThen_congr fops_congr fdraw_congr afterOp_congr drawF_congr
attribute [-go_sem] List.range_succ
/-- A piece as DatumOf makes it. -/
inductive Whole : Int → Int → ByteArray → Nat → Prop
  | nil : Whole 0 0 ⟨#[]⟩ 0
  | bool (z : Int) (h : 0 ≤ z ∧ z ≤ 1) : Whole 1 z ⟨#[]⟩ 0
  | num (z : Int) (h : -999999999 ≤ z ∧ z ≤ 999999999) : Whole 2 z ⟨#[]⟩ 0
  | sym (t : ByteArray) (h : t ∈ symTexts) : Whole 3 0 t 0
  | str (t : ByteArray) (h : t ∈ strTexts) : Whole 4 0 t 0
  | pair : Whole 5 0 ⟨#[]⟩ 2
  | vec (l : Nat) : Whole 6 0 ⟨#[]⟩ l
end Go.Proofs.YtokieofohmgjdaaGreatDoor
/- The reference's pieces; the kit's Pieces. -/
namespace Go.Proofs.YtokieofohmgjdaaGreatDoor
open Go Go.Eng
attribute [local congr] andThen_congr fops_congr fdraw_congr afterOp_congr drawF_congr
attribute [-go_sem] List.range_succ
def WholeD : D → Prop
  | .mk k z t ds => Whole k z t ds.length
end Go.Proofs.YtokieofohmgjdaaGreatDoor
/- The kit's Pieces, within its limit. -/
namespace Go.Proofs.YtokieofohmgjdaaGreatDoor
open Go Go.Eng
attribute [local congr] andThen_congr fops_congr fdraw_congr afterOp_congr drawF_congr
attribute [-go_sem] List.range_succ
theorem counts_takeK (ds : List D) (i : Nat) (d : D) (h : ds[i]? = some d) : D.counts (ds.take (i + 1)) = D.counts (ds.take i) + d.count := by
  rw [List.take_add_one, h, counts_append]
  simp [D.counts]
theorem counts_take_le : ∀ (ds : List D) (i : Nat), D.counts (ds.take i) ≤ D.counts ds
  | [], i => by simp
  | d :: ds, 0 => by simp [D.counts]
  | d :: ds, i + 1 => by
    rw [List.take_succ_cons, D.counts, D.counts]
    have := counts_take_le ds i
    omega
def KPs (m : Nat) (R : Nat → Prop) (d : D) : Prop := ∀ (v : Value) (mx : Nat) (σ' : FState), Wf σ' → LaidR R σ' v d → d.count ≤ mx → mx ≤ 100000 → Gives ((env m).call 52 [v, .int .i64 (.ofNat mx)] none σ') σ' fun r _ => r = .int .i64 (.ofNat d.count)
theorem kp_loop (m : Nat) (R : Nat → Prop) (ds : List D) (p : Option Addr) (c bx mx : Nat) (k z : Int) (t : ByteArray) (hmx : 1 + D.counts ds ≤ mx) (hmx2 : mx ≤ 100000) (hds : ds.length < 1000000)
    (hO : ∀ (i : Nat) (d : D), ds[i]? = some d → KPs m R d) :
    ∀ (j fuel i : Nat) (f g : Nat → Value) (σ : FState), ds.length - i = j → j < fuel → i ≤ ds.length → Wf σ → LaidRE R σ p 0 ds → σ.cells bx = some [.int .i64 k, .int .i64 z, .string t, .slice p ds.length c] → f 2 = .pointer (some ⟨bx, 0, none⟩) → f 1 = .int .i64 (.ofNat mx) → f 5 = .int .i64 (.ofNat (1 + D.counts (ds.take i))) → f 6 = .int .i64 (.ofNat i) →
      ∃ f' g' σ', floop [30] (l52_0 (env m) none 52) fuel (Sl 7 31 f g []) none σ = .done (.exit 0) (Sl 7 31 f' g' []) none σ' ∧ Ext σ σ' ∧ Wf σ' ∧ f' 5 = .int .i64 (.ofNat (1 + D.counts ds)) := by
  intro j
  induction j with
  | zero =>
    intro fuel i f g σ hj hf hi hw hE hc f2 f1 f5 f6
    obtain ⟨fuel, rfl⟩ : ∃ q, fuel = q + 1 := ⟨fuel - 1, by omega⟩
    obtain rfl : i = ds.length := by omega
    have d0 : decide (Int.ofNat ds.length < Int.ofNat ds.length) = false := by simp
    rw [floop_step]
    unfold l52_0
    simp -implicitDefEqProofs only [go_sem, ↓reduceIte, Nat.reduceLT, Nat.reduceEqDiff, Nat.reduceAdd, Nat.reduceMul, Nat.reduceLeDiff, Nat.reduceSub, r52_3_go, r52_3U, f2, f6, hc, d0]
    exact ⟨_, _, _, rfl, Ext.refl _, hw, by rw [f5, List.take_length]⟩
  | succ j ih =>
    intro fuel i f g σ hj hf hi hw hE hc f2 f1 f5 f6
    obtain ⟨fuel, rfl⟩ : ∃ q, fuel = q + 1 := ⟨fuel - 1, by omega⟩
    have hlt : i < ds.length := by omega
    have d0 : decide (Int.ofNat i < Int.ofNat ds.length) = true := by simp; omega
    have hd : ds[i]? = some ds[i] := List.getElem?_eq_getElem hlt
    have ht1 := counts_takeK ds i ds[i] hd
    have ht2 := counts_take_le ds (i + 1)
    have ht3 := counts_take_le ds i
    have d1 : decide (Int.ofNat (1 + D.counts (ds.take i)) ≤ Int.ofNat mx) = true := by simp only [Int.ofNat_eq_natCast, decide_eq_true_eq]; omega
    obtain ⟨b, off, cs, rfl, hRb, hcs, hle, hL⟩ := LaidRE.get hE hd
    rw [Nat.zero_add] at hle hL
    obtain ⟨_, σ3, e3, x3, hw3, rfl⟩ := hO i ds[i] hd _ (mx - (1 + D.counts (ds.take i))) σ hw hL (by omega) (by omega)
    have a1 := add1 i (by omega)
    have s1 : wrapI (Int.ofNat mx - Int.ofNat (1 + D.counts (ds.take i))) = Int.ofNat (mx - (1 + D.counts (ds.take i))) := by
      simp only [Int.ofNat_eq_natCast]
      rw [wrapI_of (by omega)]
      omega
    have s2 : wrapI (Int.ofNat (1 + D.counts (ds.take i)) + Int.ofNat ds[i].count) = Int.ofNat (1 + D.counts (ds.take (i + 1))) := by
      simp only [Int.ofNat_eq_natCast]
      rw [wrapI_of (by omega)]
      omega
    have ih' := fun f g h2 h1 h5 h6 => ih fuel (i + 1) f g σ3 (by omega) (by omega) (by omega) hw3 (hE.keep fun b cs hb hc => ⟨(x3.cells (hw.cells hc)).trans hc, hb⟩) ((x3.cells (hw.cells hc)).trans hc) h2 h1 h5 h6
    unfold l52_0 at ih'
    rw [floop_step]
    unfold l52_0
    generalize hq : 1 + D.counts (ds.take i) = q at *
    generalize hq2 : 1 + D.counts (ds.take (i + 1)) = q2 at *
    simp -implicitDefEqProofs only [go_sem, ↓reduceIte, Nat.reduceLT, Nat.reduceEqDiff, Nat.reduceAdd, Nat.reduceMul, Nat.reduceLeDiff, Nat.reduceSub, r52_3_go, r52_3U, r52_4_go, r52_4U, r52_5_go, r52_5U, f1, f2, f5, f6, hc, d0, d1, hlt, hcs, hle, e3, s1, s2, a1, skipR_go]
    generalize hff : upd _ 6 _ = f2'
    generalize hgg : upd _ 18 _ = g2
    obtain ⟨f3, g3, σ4, e4, x4, hw4, r5⟩ := ih' f2' g2 (by rw [← hff]; simp -implicitDefEqProofs only [upd_go, kept_go, ↓reduceIte, Nat.reduceEqDiff, Nat.reduceLT, reduceCtorEq, f2]) (by rw [← hff]; simp -implicitDefEqProofs only [upd_go, kept_go, ↓reduceIte, Nat.reduceEqDiff, Nat.reduceLT, reduceCtorEq, f1]) (by rw [← hff]; simp -implicitDefEqProofs only [upd_go, kept_go, ↓reduceIte, Nat.reduceEqDiff, Nat.reduceLT, reduceCtorEq]) (by rw [← hff]; simp -implicitDefEqProofs only [upd_go, kept_go, ↓reduceIte, Nat.reduceEqDiff, Nat.reduceLT, reduceCtorEq])
    exact ⟨f3, g3, σ4, e4, x3.trans x4, hw4, r5⟩
theorem kitPieces_go (n : Nat) (R : Nat → Prop) : ∀ (N : Nat) (d : D), d.deep ≤ N → KPs (n + N) R d := by
  intro N
  induction N with
  | zero =>
    intro d hN
    obtain ⟨k, z, t, ds⟩ := d
    rw [D.deep] at hN
    omega
  | succ N ih =>
    intro d hN v mx σ hw hL hcm hmx
    obtain ⟨k, z, t, ds⟩ := d
    obtain ⟨p, c, rfl, hE⟩ := hL
    obtain ⟨M, hM⟩ : ∃ M, n + N = M := ⟨_, rfl⟩
    rw [hM] at ih
    have hcd : (D.mk k z t ds).count = 1 + D.counts ds := by rw [D.count]; omega
    have hdl : ds.length < 1000000 := by
      have := piecesL_len ds [] 0
      rw [piecesL_length] at this
      omega
    rw [show n + (N + 1) = M + 1 by omega, env_call _ 52 _ _ rfl, enter52 _ _ _ _ (by simp), Sl_start]
    unfold run52
    have x1 : Ext σ (σ.push (.cells [.int .i64 k, .int .i64 z, .string t, .slice p ds.length c] TD) none) := (Ext.refl _).push _ _
    have hw1 := hw.push (.cells [.int .i64 k, .int .i64 z, .string t, .slice p ds.length c] TD) none
    have c1 : (σ.push (.cells [.int .i64 k, .int .i64 z, .string t, .slice p ds.length c] TD) none).cells σ.next = some [.int .i64 k, .int .i64 z, .string t, .slice p ds.length c] := by rw [cells_push, if_pos rfl]; rfl
    have hkeep : keepOf nls 52 = [30] := by kernel_rfl
    have lp := fun fuel f g hf h2 h1 h5 h6 => kp_loop M R ds p c σ.next mx k z t (by omega) hmx hdl (fun i d hdi => ih d (by rw [D.deep] at hN; have := deeps_mem (List.mem_of_getElem? hdi); omega))
      ds.length fuel 0 f g _ (by omega) hf (by omega) hw1 (hE.keep fun b cs hb hc => ⟨(x1.cells (hw.cells hc)).trans hc, hb⟩) c1 h2 h1 h5 h6
    simp -implicitDefEqProofs only [go_sem, ↓reduceIte, Nat.reduceLT, Nat.reduceEqDiff, Nat.reduceAdd, Nat.reduceMul, Nat.reduceLeDiff, Nat.reduceSub, r52_0_go, r52_0U, r52_1_go, r52_1U, r52_2_go, r52_2U, Option.getD_some, List.getElem?_cons_zero, List.getElem?_cons_succ, skipR_go, hkeep]
    generalize hbf : bigFuel = fuel
    generalize hff : upd _ 6 _ = f1
    obtain ⟨f', g', σ3, e3, x3, hw3, r5⟩ := lp fuel f1 (fun _ => undef) (by rw [← hbf]; show ds.length < 1000000000000; omega) (by rw [← hff]; simp -implicitDefEqProofs only [upd_go, kept_go, ↓reduceIte, Nat.reduceEqDiff, Nat.reduceLT, reduceCtorEq]) (by rw [← hff]; simp -implicitDefEqProofs only [upd_go, kept_go, ↓reduceIte, Nat.reduceEqDiff, Nat.reduceLT, reduceCtorEq, Option.getD_some, List.getElem?_cons_zero, List.getElem?_cons_succ]) (by rw [← hff]; simp -implicitDefEqProofs only [upd_go, kept_go, ↓reduceIte, Nat.reduceEqDiff, Nat.reduceLT, reduceCtorEq] <;> rfl) (by rw [← hff]; simp -implicitDefEqProofs only [upd_go, kept_go, ↓reduceIte, Nat.reduceEqDiff, Nat.reduceLT, reduceCtorEq] <;> rfl)
    rw [e3]
    simp -implicitDefEqProofs only [go_sem, ↓reduceIte, Nat.reduceLT, Nat.reduceEqDiff, Nat.reduceAdd, Nat.reduceMul, Nat.reduceLeDiff, Nat.reduceSub, r52_6_go, r52_6U, r5]
    exact ⟨_, _, rfl, x1.trans x3, hw3, by rw [hcd]⟩
end Go.Proofs.YtokieofohmgjdaaGreatDoor
/- The kit's Pieces, whatever its limit. -/
namespace Go.Proofs.YtokieofohmgjdaaGreatDoor
open Go Go.Eng
attribute [local congr] andThen_congr fops_congr fdraw_congr afterOp_congr drawF_congr
attribute [-go_sem] List.range_succ
theorem count_pos (d : D) : 1 ≤ d.count := by
  cases d
  rw [D.count]
  omega
theorem counts_ge : ∀ ds : List D, ds.length ≤ D.counts ds
  | [] => by simp
  | d :: ds => by
    rw [D.counts, List.length_cons]
    have := count_pos d
    have := counts_ge ds
    omega
def KPm (m mx : Nat) (R : Nat → Prop) (d : D) : Prop := ∀ (v : Value) (σ' : FState), Wf σ' → LaidR R σ' v d → Gives ((env m).call 52 [v, .int .i64 (.ofNat mx)] none σ') σ' fun r _ => r = .int .i64 (.ofNat (min d.count (mx + 1)))
theorem kpm_stop (m : Nat) (R : Nat → Prop) (ds : List D) (p : Option Addr) (c bx mx : Nat) (k z : Int) (t : ByteArray) (fuel i : Nat) (f g : Nat → Value) (σ : FState) (hbig : mx ≤ D.counts (ds.take i)) (hi : i ≤ ds.length) (hw : Wf σ) (hE : LaidRE R σ p 0 ds) (hc : σ.cells bx = some [.int .i64 k, .int .i64 z, .string t, .slice p ds.length c]) (f2 : f 2 = .pointer (some ⟨bx, 0, none⟩)) (f1 : f 1 = .int .i64 (.ofNat mx)) (f5 : f 5 = .int .i64 (.ofNat (min (1 + D.counts (ds.take i)) (mx + 1)))) (f6 : f 6 = .int .i64 (.ofNat i)) :
    ∃ f' g' σ', floop [30] (l52_0 (env m) none 52) (fuel + 1) (Sl 7 31 f g []) none σ = .done (.exit 0) (Sl 7 31 f' g' []) none σ' ∧ Ext σ σ' ∧ Wf σ' ∧ f' 5 = .int .i64 (.ofNat (min (1 + D.counts ds) (mx + 1))) := by
  have h3 := counts_take_le ds i
  have e0 : min (1 + D.counts (ds.take i)) (mx + 1) = mx + 1 := by omega
  have e1 : min (1 + D.counts ds) (mx + 1) = mx + 1 := by omega
  rw [e0] at f5
  rw [e1]
  have d1 : decide (Int.ofNat (mx + 1) ≤ Int.ofNat mx) = false := by simp only [Int.ofNat_eq_natCast, decide_eq_false_iff_not]; omega
  rw [floop_step]
  unfold l52_0
  by_cases hlt : i < ds.length
  · have d0 : decide (Int.ofNat i < Int.ofNat ds.length) = true := by simp; omega
    simp -implicitDefEqProofs only [go_sem, ↓reduceIte, Nat.reduceLT, Nat.reduceEqDiff, Nat.reduceAdd, Nat.reduceMul, Nat.reduceLeDiff, Nat.reduceSub, r52_3_go, r52_3U, f1, f2, f5, f6, hc, d0, d1]
    exact ⟨_, _, _, rfl, Ext.refl _, hw, f5⟩
  · have d0 : decide (Int.ofNat i < Int.ofNat ds.length) = false := by simp; omega
    simp -implicitDefEqProofs only [go_sem, ↓reduceIte, Nat.reduceLT, Nat.reduceEqDiff, Nat.reduceAdd, Nat.reduceMul, Nat.reduceLeDiff, Nat.reduceSub, r52_3_go, r52_3U, f1, f2, f5, f6, hc, d0]
    exact ⟨_, _, _, rfl, Ext.refl _, hw, f5⟩
theorem kpm_loop (m : Nat) (R : Nat → Prop) (ds : List D) (p : Option Addr) (c bx mx : Nat) (k z : Int) (t : ByteArray) (hmx2 : mx ≤ 100000)
    (hO : ∀ (d : D) (mx' : Nat), mx' < mx → KPm m mx' R d) :
    ∀ (j fuel i : Nat) (f g : Nat → Value) (σ : FState), mx + 1 - min (1 + D.counts (ds.take i)) (mx + 1) ≤ j → j < fuel → i ≤ ds.length → Wf σ → LaidRE R σ p 0 ds → σ.cells bx = some [.int .i64 k, .int .i64 z, .string t, .slice p ds.length c] → f 2 = .pointer (some ⟨bx, 0, none⟩) → f 1 = .int .i64 (.ofNat mx) → f 5 = .int .i64 (.ofNat (min (1 + D.counts (ds.take i)) (mx + 1))) → f 6 = .int .i64 (.ofNat i) →
      ∃ f' g' σ', floop [30] (l52_0 (env m) none 52) fuel (Sl 7 31 f g []) none σ = .done (.exit 0) (Sl 7 31 f' g' []) none σ' ∧ Ext σ σ' ∧ Wf σ' ∧ f' 5 = .int .i64 (.ofNat (min (1 + D.counts ds) (mx + 1))) := by
  intro j
  induction j with
  | zero =>
    intro fuel i f g σ hj hf hi hw hE hc f2 f1 f5 f6
    obtain ⟨fuel, rfl⟩ : ∃ q, fuel = q + 1 := ⟨fuel - 1, by omega⟩
    exact kpm_stop m R ds p c bx mx k z t fuel i f g σ (by omega) hi hw hE hc f2 f1 f5 f6
  | succ j ih =>
    intro fuel i f g σ hj hf hi hw hE hc f2 f1 f5 f6
    obtain ⟨fuel, rfl⟩ : ∃ q, fuel = q + 1 := ⟨fuel - 1, by omega⟩
    by_cases hbig : mx ≤ D.counts (ds.take i)
    · exact kpm_stop m R ds p c bx mx k z t fuel i f g σ hbig hi hw hE hc f2 f1 f5 f6
    have e0 : min (1 + D.counts (ds.take i)) (mx + 1) = 1 + D.counts (ds.take i) := by omega
    rw [e0] at f5
    by_cases hlt : i < ds.length
    · have d0 : decide (Int.ofNat i < Int.ofNat ds.length) = true := by simp; omega
      have hd : ds[i]? = some ds[i] := List.getElem?_eq_getElem hlt
      have ht1 := counts_takeK ds i ds[i] hd
      have hpos := count_pos ds[i]
      have hge := counts_ge (ds.take i)
      rw [List.length_take] at hge
      have d1 : decide (Int.ofNat (1 + D.counts (ds.take i)) ≤ Int.ofNat mx) = true := by simp only [Int.ofNat_eq_natCast, decide_eq_true_eq]; omega
      obtain ⟨b, off, cs, rfl, hRb, hcs, hle, hL⟩ := LaidRE.get hE hd
      rw [Nat.zero_add] at hle hL
      obtain ⟨_, σ3, e3, x3, hw3, rfl⟩ := hO ds[i] (mx - (1 + D.counts (ds.take i))) (by omega) _ σ hw hL
      have a1 := add1 i (by omega)
      have s1 : wrapI (Int.ofNat mx - Int.ofNat (1 + D.counts (ds.take i))) = Int.ofNat (mx - (1 + D.counts (ds.take i))) := by
        simp only [Int.ofNat_eq_natCast]
        rw [wrapI_of (by omega)]
        omega
      have s2 : wrapI (Int.ofNat (1 + D.counts (ds.take i)) + Int.ofNat (min ds[i].count (mx - (1 + D.counts (ds.take i)) + 1))) = Int.ofNat (min (1 + D.counts (ds.take (i + 1))) (mx + 1)) := by
        simp only [Int.ofNat_eq_natCast]
        rw [wrapI_of (by omega)]
        omega
      have ih' := fun f g h2 h1 h5 h6 => ih fuel (i + 1) f g σ3 (by omega) (by omega) (by omega) hw3 (hE.keep fun b cs hb hc => ⟨(x3.cells (hw.cells hc)).trans hc, hb⟩) ((x3.cells (hw.cells hc)).trans hc) h2 h1 h5 h6
      unfold l52_0 at ih'
      rw [floop_step]
      unfold l52_0
      generalize hq : 1 + D.counts (ds.take i) = q at *
      generalize hq2 : min (1 + D.counts (ds.take (i + 1))) (mx + 1) = q2 at *
      generalize hq3 : min ds[i].count (mx - q + 1) = q3 at *
      simp -implicitDefEqProofs only [go_sem, ↓reduceIte, Nat.reduceLT, Nat.reduceEqDiff, Nat.reduceAdd, Nat.reduceMul, Nat.reduceLeDiff, Nat.reduceSub, r52_3_go, r52_3U, r52_4_go, r52_4U, r52_5_go, r52_5U, f1, f2, f5, f6, hc, d0, d1, hlt, hcs, hle, e3, s1, s2, a1, skipR_go]
      generalize hff : upd _ 6 _ = f2'
      generalize hgg : upd _ 18 _ = g2
      obtain ⟨f3, g3, σ4, e4, x4, hw4, r5⟩ := ih' f2' g2 (by rw [← hff]; simp -implicitDefEqProofs only [upd_go, kept_go, ↓reduceIte, Nat.reduceEqDiff, Nat.reduceLT, reduceCtorEq, f2]) (by rw [← hff]; simp -implicitDefEqProofs only [upd_go, kept_go, ↓reduceIte, Nat.reduceEqDiff, Nat.reduceLT, reduceCtorEq, f1]) (by rw [← hff]; simp -implicitDefEqProofs only [upd_go, kept_go, ↓reduceIte, Nat.reduceEqDiff, Nat.reduceLT, reduceCtorEq]) (by rw [← hff]; simp -implicitDefEqProofs only [upd_go, kept_go, ↓reduceIte, Nat.reduceEqDiff, Nat.reduceLT, reduceCtorEq])
      exact ⟨f3, g3, σ4, e4, x3.trans x4, hw4, r5⟩
    · obtain rfl : i = ds.length := by omega
      rw [List.take_length] at e0 f5
      rw [e0]
      have d0 : decide (Int.ofNat ds.length < Int.ofNat ds.length) = false := by simp
      rw [floop_step]
      unfold l52_0
      simp -implicitDefEqProofs only [go_sem, ↓reduceIte, Nat.reduceLT, Nat.reduceEqDiff, Nat.reduceAdd, Nat.reduceMul, Nat.reduceLeDiff, Nat.reduceSub, r52_3_go, r52_3U, f2, f6, hc, d0]
      exact ⟨_, _, _, rfl, Ext.refl _, hw, f5⟩
theorem kpm_go (n : Nat) (R : Nat → Prop) : ∀ (N mx : Nat) (d : D), mx ≤ N → N ≤ 100000 → KPm (n + N + 1) mx R d := by
  intro N
  induction N with
  | zero =>
    intro mx d hN hN2 v σ hw hL
    obtain ⟨k, z, t, ds⟩ := d
    obtain ⟨p, c, rfl, hE⟩ := hL
    have hcd : (D.mk k z t ds).count = 1 + D.counts ds := by rw [D.count]; omega
    obtain rfl : mx = 0 := by omega
    rw [show n + 0 + 1 = n + 1 by omega, env_call _ 52 _ _ rfl, enter52 _ _ _ _ (by simp), Sl_start]
    unfold run52
    have x1 : Ext σ (σ.push (.cells [.int .i64 k, .int .i64 z, .string t, .slice p ds.length c] TD) none) := (Ext.refl _).push _ _
    have hw1 := hw.push (.cells [.int .i64 k, .int .i64 z, .string t, .slice p ds.length c] TD) none
    have c1 : (σ.push (.cells [.int .i64 k, .int .i64 z, .string t, .slice p ds.length c] TD) none).cells σ.next = some [.int .i64 k, .int .i64 z, .string t, .slice p ds.length c] := by rw [cells_push, if_pos rfl]; rfl
    have hkeep : keepOf nls 52 = [30] := by kernel_rfl
    have lp := fun fuel f g hf h2 h1 h5 h6 => kpm_loop n R ds p c σ.next 0 k z t (by omega) (fun d mx' h => by omega)
      0 fuel 0 f g _ (by omega) hf (by omega) hw1 (hE.keep fun b cs hb hc => ⟨(x1.cells (hw.cells hc)).trans hc, hb⟩) c1 h2 h1 h5 h6
    simp -implicitDefEqProofs only [go_sem, ↓reduceIte, Nat.reduceLT, Nat.reduceEqDiff, Nat.reduceAdd, Nat.reduceMul, Nat.reduceLeDiff, Nat.reduceSub, r52_0_go, r52_0U, r52_1_go, r52_1U, r52_2_go, r52_2U, Option.getD_some, List.getElem?_cons_zero, List.getElem?_cons_succ, skipR_go, hkeep]
    generalize hbf : bigFuel = fuel
    generalize hff : upd _ 6 _ = f1
    obtain ⟨f', g', σ3, e3, x3, hw3, r5⟩ := lp fuel f1 (fun _ => undef) (by rw [← hbf]; show 0 < 1000000000000; omega) (by rw [← hff]; simp -implicitDefEqProofs only [upd_go, kept_go, ↓reduceIte, Nat.reduceEqDiff, Nat.reduceLT, reduceCtorEq]) (by rw [← hff]; simp -implicitDefEqProofs only [upd_go, kept_go, ↓reduceIte, Nat.reduceEqDiff, Nat.reduceLT, reduceCtorEq, Option.getD_some, List.getElem?_cons_zero, List.getElem?_cons_succ] <;> rfl) (by rw [← hff]; simp -implicitDefEqProofs only [upd_go, kept_go, ↓reduceIte, Nat.reduceEqDiff, Nat.reduceLT, reduceCtorEq] <;> rfl) (by rw [← hff]; simp -implicitDefEqProofs only [upd_go, kept_go, ↓reduceIte, Nat.reduceEqDiff, Nat.reduceLT, reduceCtorEq] <;> rfl)
    rw [e3]
    simp -implicitDefEqProofs only [go_sem, ↓reduceIte, Nat.reduceLT, Nat.reduceEqDiff, Nat.reduceAdd, Nat.reduceMul, Nat.reduceLeDiff, Nat.reduceSub, r52_6_go, r52_6U, r5]
    exact ⟨_, _, rfl, x1.trans x3, hw3, by rw [hcd]⟩
  | succ N ih =>
    intro mx d hN hN2 v σ hw hL
    obtain ⟨k, z, t, ds⟩ := d
    obtain ⟨p, c, rfl, hE⟩ := hL
    obtain ⟨M, hM⟩ : ∃ M, n + N + 1 = M := ⟨_, rfl⟩
    rw [hM] at ih
    have hcd : (D.mk k z t ds).count = 1 + D.counts ds := by rw [D.count]; omega
    rw [show n + (N + 1) + 1 = M + 1 by omega, env_call _ 52 _ _ rfl, enter52 _ _ _ _ (by simp), Sl_start]
    unfold run52
    have x1 : Ext σ (σ.push (.cells [.int .i64 k, .int .i64 z, .string t, .slice p ds.length c] TD) none) := (Ext.refl _).push _ _
    have hw1 := hw.push (.cells [.int .i64 k, .int .i64 z, .string t, .slice p ds.length c] TD) none
    have c1 : (σ.push (.cells [.int .i64 k, .int .i64 z, .string t, .slice p ds.length c] TD) none).cells σ.next = some [.int .i64 k, .int .i64 z, .string t, .slice p ds.length c] := by rw [cells_push, if_pos rfl]; rfl
    have hkeep : keepOf nls 52 = [30] := by kernel_rfl
    have lp := fun fuel f g hf h2 h1 h5 h6 => kpm_loop M R ds p c σ.next mx k z t (by omega) (fun d mx' h => ih mx' d (by omega) (by omega))
      mx fuel 0 f g _ (by simp [D.counts]) hf (by omega) hw1 (hE.keep fun b cs hb hc => ⟨(x1.cells (hw.cells hc)).trans hc, hb⟩) c1 h2 h1 h5 h6
    simp -implicitDefEqProofs only [go_sem, ↓reduceIte, Nat.reduceLT, Nat.reduceEqDiff, Nat.reduceAdd, Nat.reduceMul, Nat.reduceLeDiff, Nat.reduceSub, r52_0_go, r52_0U, r52_1_go, r52_1U, r52_2_go, r52_2U, Option.getD_some, List.getElem?_cons_zero, List.getElem?_cons_succ, skipR_go, hkeep]
    generalize hbf : bigFuel = fuel
    generalize hff : upd _ 6 _ = f1
    obtain ⟨f', g', σ3, e3, x3, hw3, r5⟩ := lp fuel f1 (fun _ => undef) (by rw [← hbf]; show mx < 1000000000000; omega) (by rw [← hff]; simp -implicitDefEqProofs only [upd_go, kept_go, ↓reduceIte, Nat.reduceEqDiff, Nat.reduceLT, reduceCtorEq]) (by rw [← hff]; simp -implicitDefEqProofs only [upd_go, kept_go, ↓reduceIte, Nat.reduceEqDiff, Nat.reduceLT, reduceCtorEq, Option.getD_some, List.getElem?_cons_zero, List.getElem?_cons_succ]) (by rw [← hff]; simp -implicitDefEqProofs only [upd_go, kept_go, ↓reduceIte, Nat.reduceEqDiff, Nat.reduceLT, reduceCtorEq, List.take_zero, D.counts, Nat.add_zero]; rw [show min 1 (mx + 1) = 1 by omega]; rfl) (by rw [← hff]; simp -implicitDefEqProofs only [upd_go, kept_go, ↓reduceIte, Nat.reduceEqDiff, Nat.reduceLT, reduceCtorEq] <;> rfl)
    rw [e3]
    simp -implicitDefEqProofs only [go_sem, ↓reduceIte, Nat.reduceLT, Nat.reduceEqDiff, Nat.reduceAdd, Nat.reduceMul, Nat.reduceLeDiff, Nat.reduceSub, r52_6_go, r52_6U, r5]
    exact ⟨_, _, rfl, x1.trans x3, hw3, by rw [hcd]⟩
end Go.Proofs.YtokieofohmgjdaaGreatDoor
/- Functions of the program, written out in the reading's words (made by program; the kernel holds each against the code). -/
namespace Go.Proofs.YtokieofohmgjdaaGreatDoor
open Go Go.Eng
variable (E : Env) (ro : Option Nat) (last : List Nat → RunF) (cl : List Nat) (a : FAct) (u : Option FrameMode) (σ : FState)
/-! caracole/caracolelaw01.DatumOrder -/
noncomputable def r8_0U (_ : Unit) : List COp := [⟨fun a σ => fbox 24 (a.get 0) σ, (some 4), fun _ => some true⟩,
  ⟨fun a σ => fbox 24 (a.get 1) σ, (some 5), fun _ => some true⟩,
  ⟨fun a σ => fbox 24 (a.get 2) σ, (some 6), fun _ => some true⟩,
  ⟨fun a σ => .val (.bool false) σ, (some 8), fun _ => some true⟩]
noncomputable def r8_0 : List COp := r8_0U ()
noncomputable def r8_1U (_ : Unit) : List COp := [⟨fun a σ => .val (a.get 3) σ, (some 13), fun _ => some true⟩,
  ⟨fun a σ => .enter 12 [(a.get 13)] σ, (some 14), fun _ => some true⟩,
  ⟨fun a σ => .val (a.get 14) σ, (some 9), fun _ => some true⟩]
noncomputable def r8_1 : List COp := r8_1U ()
noncomputable def r8_2U (_ : Unit) : List COp := [⟨fun a σ => .val (a.get 9) σ, (some 15), fun _ => some true⟩,
  ⟨fun a σ => .enter 11 [(a.get 15), (.int .i64 3)] σ, (some 16), fun _ => some true⟩,
  ⟨fun a σ => .val (a.get 9) σ, (some 17), fun _ => some true⟩,
  ⟨fun a σ => .enter 11 [(a.get 17), (.int .i64 3)] σ, (some 18), fun _ => some true⟩,
  ⟨fun a σ => .val (a.get 9) σ, (some 19), fun _ => some true⟩,
  ⟨fun a σ => .enter 11 [(a.get 19), (.int .i64 3)] σ, (some 20), fun _ => some true⟩,
  ⟨fun a σ => newCells [(.int .i64 0), (.int .i64 0), (.string ⟨#[]⟩), (.slice none 0 0)] 24 none σ, (some 10), fun _ => some true⟩,
  ⟨fun a σ => newCells [(.int .i64 0), (.int .i64 0), (.string ⟨#[]⟩), (.slice none 0 0)] 24 none σ, (some 11), fun _ => some true⟩,
  ⟨fun a σ => newCells [(.int .i64 0), (.int .i64 0), (.string ⟨#[]⟩), (.slice none 0 0)] 24 none σ, (some 12), fun _ => some true⟩,
  ⟨fun a σ => fstore 4 (a.get 10) (a.get 16) σ, none, fun _ => some true⟩,
  ⟨fun a σ => fstore 4 (a.get 11) (a.get 18) σ, none, fun _ => some true⟩,
  ⟨fun a σ => fstore 4 (a.get 12) (a.get 20) σ, none, fun _ => some true⟩]
noncomputable def r8_2 : List COp := r8_2U ()
noncomputable def r8_3U (_ : Unit) : List COp := [⟨fun a σ => fload (some 4) (a.get 4) σ, (some 21), fun _ => some true⟩,
  ⟨fun a σ => .enter 9 [(a.get 21)] σ, (some 22), fun _ => some true⟩,
  ⟨fun a σ => fun1 Tryz.prog (Op.unary .not) (a.get 22) σ, (some 23), fun _ => some true⟩,
  ⟨fun a σ => .val (a.get 23) σ, (some 24), fun _ => some true⟩,
  ⟨fun a σ => fload (some 4) (a.get 5) σ, (some 25), fun a => gd (a.get 24) true⟩,
  ⟨fun a σ => .enter 9 [(a.get 25)] σ, (some 26), fun a => gd (a.get 24) true⟩,
  ⟨fun a σ => fun1 Tryz.prog (Op.unary .not) (a.get 26) σ, (some 27), fun a => gd (a.get 24) true⟩,
  ⟨fun a σ => fpick (a.get 24) (a.get 27) (.bool false) σ, (some 28), fun _ => some true⟩,
  ⟨fun a σ => .val (a.get 28) σ, (some 29), fun _ => some true⟩,
  ⟨fun a σ => fload (some 4) (a.get 6) σ, (some 30), fun a => gd (a.get 29) true⟩,
  ⟨fun a σ => .enter 9 [(a.get 30)] σ, (some 31), fun a => gd (a.get 29) true⟩,
  ⟨fun a σ => fun1 Tryz.prog (Op.unary .not) (a.get 31) σ, (some 32), fun a => gd (a.get 29) true⟩,
  ⟨fun a σ => fpick (a.get 29) (a.get 32) (.bool false) σ, (some 33), fun _ => some true⟩,
  ⟨fun a σ => .val (a.get 33) σ, (some 34), fun _ => some true⟩,
  ⟨fun a σ => fload (some 4) (a.get 4) σ, (some 35), fun a => gd (a.get 34) true⟩,
  ⟨fun a σ => .enter 19 [(a.get 35)] σ, (some 36), fun a => gd (a.get 34) true⟩,
  ⟨fun a σ => i_eql Tryz.prog 32 (.tmp 36) (.const (.int .i64 0)) (a.get 36) (.int .i64 0) σ, (some 37), fun a => gd (a.get 34) true⟩,
  ⟨fun a σ => fpick (a.get 34) (a.get 37) (.bool false) σ, (some 38), fun _ => some true⟩,
  ⟨fun a σ => .val (a.get 38) σ, (some 39), fun _ => some true⟩,
  ⟨fun a σ => fload (some 4) (a.get 5) σ, (some 40), fun a => gd (a.get 39) true⟩,
  ⟨fun a σ => .enter 19 [(a.get 40)] σ, (some 41), fun a => gd (a.get 39) true⟩,
  ⟨fun a σ => i_eql Tryz.prog 32 (.tmp 41) (.const (.int .i64 0)) (a.get 41) (.int .i64 0) σ, (some 42), fun a => gd (a.get 39) true⟩,
  ⟨fun a σ => fpick (a.get 39) (a.get 42) (.bool false) σ, (some 43), fun _ => some true⟩,
  ⟨fun a σ => .val (a.get 43) σ, (some 44), fun _ => some true⟩,
  ⟨fun a σ => fload (some 4) (a.get 6) σ, (some 45), fun a => gd (a.get 44) true⟩,
  ⟨fun a σ => .enter 19 [(a.get 45)] σ, (some 46), fun a => gd (a.get 44) true⟩,
  ⟨fun a σ => i_eql Tryz.prog 32 (.tmp 46) (.const (.int .i64 0)) (a.get 46) (.int .i64 0) σ, (some 47), fun a => gd (a.get 44) true⟩,
  ⟨fun a σ => fpick (a.get 44) (a.get 47) (.bool false) σ, (some 48), fun _ => some true⟩]
noncomputable def r8_3 : List COp := r8_3U ()
noncomputable def r8_4U (_ : Unit) : List COp := [⟨fun a σ => fload (some 4) (a.get 4) σ, (some 49), fun _ => some true⟩,
  ⟨fun a σ => fload (some 4) (a.get 5) σ, (some 50), fun _ => some true⟩,
  ⟨fun a σ => fload (some 4) (a.get 6) σ, (some 51), fun _ => some true⟩,
  ⟨fun a σ => .enter 51 [(a.get 49), (a.get 50), (a.get 51)] σ, (some 52), fun _ => some true⟩,
  ⟨fun a σ => fun1 Tryz.prog (Op.unary .not) (a.get 52) σ, (some 53), fun _ => some true⟩,
  ⟨fun a σ => .val (a.get 53) σ, (some 54), fun _ => some true⟩,
  ⟨fun a σ => fload (some 4) (a.get 10) σ, (some 55), fun a => gd (a.get 54) false⟩,
  ⟨fun a σ => fload (some 4) (a.get 4) σ, (some 56), fun a => gd (a.get 54) false⟩,
  ⟨fun a σ => fload (some 4) (a.get 6) σ, (some 57), fun a => gd (a.get 54) false⟩,
  ⟨fun a σ => .enter 51 [(a.get 55), (a.get 56), (a.get 57)] σ, (some 58), fun a => gd (a.get 54) false⟩,
  ⟨fun a σ => fun1 Tryz.prog (Op.unary .not) (a.get 58) σ, (some 59), fun a => gd (a.get 54) false⟩,
  ⟨fun a σ => fpick (a.get 54) (.bool true) (a.get 59) σ, (some 60), fun _ => some true⟩,
  ⟨fun a σ => .val (a.get 60) σ, (some 61), fun _ => some true⟩,
  ⟨fun a σ => fload (some 4) (a.get 5) σ, (some 62), fun a => gd (a.get 61) false⟩,
  ⟨fun a σ => fload (some 4) (a.get 11) σ, (some 63), fun a => gd (a.get 61) false⟩,
  ⟨fun a σ => fload (some 4) (a.get 10) σ, (some 64), fun a => gd (a.get 61) false⟩,
  ⟨fun a σ => .enter 51 [(a.get 62), (a.get 63), (a.get 64)] σ, (some 65), fun a => gd (a.get 61) false⟩,
  ⟨fun a σ => fun1 Tryz.prog (Op.unary .not) (a.get 65) σ, (some 66), fun a => gd (a.get 61) false⟩,
  ⟨fun a σ => fpick (a.get 61) (.bool true) (a.get 66) σ, (some 67), fun _ => some true⟩]
noncomputable def r8_4 : List COp := r8_4U ()
noncomputable def r8_5U (_ : Unit) : List COp := [⟨fun a σ => .val (.bool false) σ, (some 8), fun _ => some true⟩]
noncomputable def r8_5 : List COp := r8_5U ()
noncomputable def r8_6U (_ : Unit) : List COp := [⟨fun a σ => fload (some 4) (a.get 10) σ, (some 68), fun _ => some true⟩,
  ⟨fun a σ => fload (some 4) (a.get 11) σ, (some 69), fun _ => some true⟩,
  ⟨fun a σ => fload (some 4) (a.get 12) σ, (some 70), fun _ => some true⟩,
  ⟨fun a σ => .enter 51 [(a.get 68), (a.get 69), (a.get 70)] σ, (some 71), fun _ => some true⟩,
  ⟨fun a σ => .val (a.get 71) σ, (some 72), fun _ => some true⟩,
  ⟨fun a σ => fload (some 4) (a.get 10) σ, (some 73), fun a => gd (a.get 72) true⟩,
  ⟨fun a σ => fload (some 4) (a.get 10) σ, (some 74), fun a => gd (a.get 72) true⟩,
  ⟨fun a σ => fload (some 4) (a.get 12) σ, (some 75), fun a => gd (a.get 72) true⟩,
  ⟨fun a σ => .enter 51 [(a.get 73), (a.get 74), (a.get 75)] σ, (some 76), fun a => gd (a.get 72) true⟩,
  ⟨fun a σ => fpick (a.get 72) (a.get 76) (.bool false) σ, (some 77), fun _ => some true⟩,
  ⟨fun a σ => .val (a.get 77) σ, (some 78), fun _ => some true⟩,
  ⟨fun a σ => .enter 10 [] σ, (some 79), fun a => gd (a.get 78) true⟩,
  ⟨fun a σ => fpick (a.get 78) (a.get 79) (.bool false) σ, (some 80), fun _ => some true⟩,
  ⟨fun a σ => .val (a.get 80) σ, (some 8), fun _ => some true⟩]
noncomputable def r8_6 : List COp := r8_6U ()
noncomputable def run8 (E : Env) (ro : Option Nat) (fn : FuncId) : RunF := (seqR (fops E ro r8_0) (seqR (fops E ro r8_1) (seqR (fops E ro r8_2) (seqR (seqR (fops E ro r8_3) (condR (fun a => (a.get 48)) (seqR (fops E ro r8_4) (condR (fun a => (a.get 67)) (seqR (fops E ro r8_5) retR) skipR)) skipR)) (seqR (fops E ro r8_6) retR)))))
theorem r8_0_go : fops E ro r8_0 a u σ = fops E ro (r8_0U ()) a u σ := rfl
theorem r8_1_go : fops E ro r8_1 a u σ = fops E ro (r8_1U ()) a u σ := rfl
theorem r8_2_go : fops E ro r8_2 a u σ = fops E ro (r8_2U ()) a u σ := rfl
theorem r8_3_go : fops E ro r8_3 a u σ = fops E ro (r8_3U ()) a u σ := rfl
theorem r8_4_go : fops E ro r8_4 a u σ = fops E ro (r8_4U ()) a u σ := rfl
theorem r8_6_go : fops E ro r8_6 a u σ = fops E ro (r8_6U ()) a u σ := rfl
theorem code8 (E : Env) (ro : Option Nat) (fn : FuncId) : code Tryz.prog nls (Tryz.f8.body.getD .skip) E ro fn = run8 E ro fn := by kernel_rfl
theorem enter8 (E : Env) (args : List Value) (u : Option FrameMode) (σ : FState) (hn : args.length ≤ (13 : Nat)) : fcall Tryz.prog nls E 8 args u σ = leaveR Tryz.prog E [.tmp 8] (run8 E none 8 ⟨padTo undef 13 args, fun _ => undef, 13, 81, []⟩ u σ) := by
  rw [fcall_of (body := Tryz.f8.body.getD .skip) Tryz.func8 rfl E args u σ 13 81 (by kernel_rfl) rfl ⟨hn, by decide⟩, code8]
  rfl
/-! caracole/caracolelaw01.ordered -/
noncomputable def r51_0U (_ : Unit) : List COp := [⟨fun a σ => fbox 24 (a.get 0) σ, (some 3), fun _ => some true⟩,
  ⟨fun a σ => fbox 24 (a.get 1) σ, (some 4), fun _ => some true⟩,
  ⟨fun a σ => fbox 24 (a.get 2) σ, (some 5), fun _ => some true⟩,
  ⟨fun a σ => .val (.bool false) σ, (some 6), fun _ => some true⟩]
noncomputable def r51_0 : List COp := r51_0U ()
noncomputable def r51_1U (_ : Unit) : List COp := [⟨fun a σ => fload (some 4) (a.get 3) σ, (some 16), fun _ => some true⟩,
  ⟨fun a σ => fload (some 4) (a.get 4) σ, (some 17), fun _ => some true⟩,
  ⟨fun a σ => .enter 25 [(a.get 16), (a.get 17)] σ, (some 18), fun _ => some true⟩,
  ⟨fun a σ => .val (a.get 18) σ, (some 15), fun _ => some true⟩,
  ⟨fun a σ => fextract 0 (a.get 15) σ, (some 19), fun _ => some true⟩,
  ⟨fun a σ => fextract 1 (a.get 15) σ, (some 20), fun _ => some true⟩,
  ⟨fun a σ => .val (a.get 19) σ, (some 7), fun _ => some true⟩,
  ⟨fun a σ => .val (a.get 20) σ, (some 8), fun _ => some true⟩]
noncomputable def r51_1 : List COp := r51_1U ()
noncomputable def r51_2U (_ : Unit) : List COp := [⟨fun a σ => fload (some 4) (a.get 4) σ, (some 22), fun _ => some true⟩,
  ⟨fun a σ => fload (some 4) (a.get 3) σ, (some 23), fun _ => some true⟩,
  ⟨fun a σ => .enter 25 [(a.get 22), (a.get 23)] σ, (some 24), fun _ => some true⟩,
  ⟨fun a σ => .val (a.get 24) σ, (some 21), fun _ => some true⟩,
  ⟨fun a σ => fextract 0 (a.get 21) σ, (some 25), fun _ => some true⟩,
  ⟨fun a σ => fextract 1 (a.get 21) σ, (some 26), fun _ => some true⟩,
  ⟨fun a σ => .val (a.get 25) σ, (some 9), fun _ => some true⟩,
  ⟨fun a σ => .val (a.get 26) σ, (some 10), fun _ => some true⟩]
noncomputable def r51_2 : List COp := r51_2U ()
noncomputable def r51_3U (_ : Unit) : List COp := [⟨fun a σ => fload (some 4) (a.get 4) σ, (some 28), fun _ => some true⟩,
  ⟨fun a σ => fload (some 4) (a.get 5) σ, (some 29), fun _ => some true⟩,
  ⟨fun a σ => .enter 25 [(a.get 28), (a.get 29)] σ, (some 30), fun _ => some true⟩,
  ⟨fun a σ => .val (a.get 30) σ, (some 27), fun _ => some true⟩,
  ⟨fun a σ => fextract 0 (a.get 27) σ, (some 31), fun _ => some true⟩,
  ⟨fun a σ => fextract 1 (a.get 27) σ, (some 32), fun _ => some true⟩,
  ⟨fun a σ => .val (a.get 31) σ, (some 11), fun _ => some true⟩,
  ⟨fun a σ => .val (a.get 32) σ, (some 12), fun _ => some true⟩]
noncomputable def r51_3 : List COp := r51_3U ()
noncomputable def r51_4U (_ : Unit) : List COp := [⟨fun a σ => fload (some 4) (a.get 3) σ, (some 34), fun _ => some true⟩,
  ⟨fun a σ => fload (some 4) (a.get 5) σ, (some 35), fun _ => some true⟩,
  ⟨fun a σ => .enter 25 [(a.get 34), (a.get 35)] σ, (some 36), fun _ => some true⟩,
  ⟨fun a σ => .val (a.get 36) σ, (some 33), fun _ => some true⟩,
  ⟨fun a σ => fextract 0 (a.get 33) σ, (some 37), fun _ => some true⟩,
  ⟨fun a σ => fextract 1 (a.get 33) σ, (some 38), fun _ => some true⟩,
  ⟨fun a σ => .val (a.get 37) σ, (some 13), fun _ => some true⟩,
  ⟨fun a σ => .val (a.get 38) σ, (some 14), fun _ => some true⟩]
noncomputable def r51_4 : List COp := r51_4U ()
noncomputable def r51_5U (_ : Unit) : List COp := [⟨fun a σ => .val (a.get 8) σ, (some 39), fun _ => some true⟩,
  ⟨fun a σ => i_neq Tryz.prog 32 (.tmp 39) (.const (.int .i64 0)) (a.get 39) (.int .i64 0) σ, (some 40), fun _ => some true⟩,
  ⟨fun a σ => .val (a.get 40) σ, (some 41), fun _ => some true⟩,
  ⟨fun a σ => .val (a.get 10) σ, (some 42), fun a => gd (a.get 41) false⟩,
  ⟨fun a σ => i_neq Tryz.prog 32 (.tmp 42) (.const (.int .i64 0)) (a.get 42) (.int .i64 0) σ, (some 43), fun a => gd (a.get 41) false⟩,
  ⟨fun a σ => fpick (a.get 41) (.bool true) (a.get 43) σ, (some 44), fun _ => some true⟩,
  ⟨fun a σ => .val (a.get 44) σ, (some 45), fun _ => some true⟩,
  ⟨fun a σ => .val (a.get 12) σ, (some 46), fun a => gd (a.get 45) false⟩,
  ⟨fun a σ => i_neq Tryz.prog 32 (.tmp 46) (.const (.int .i64 0)) (a.get 46) (.int .i64 0) σ, (some 47), fun a => gd (a.get 45) false⟩,
  ⟨fun a σ => fpick (a.get 45) (.bool true) (a.get 47) σ, (some 48), fun _ => some true⟩,
  ⟨fun a σ => .val (a.get 48) σ, (some 49), fun _ => some true⟩,
  ⟨fun a σ => .val (a.get 14) σ, (some 50), fun a => gd (a.get 49) false⟩,
  ⟨fun a σ => i_neq Tryz.prog 32 (.tmp 50) (.const (.int .i64 0)) (a.get 50) (.int .i64 0) σ, (some 51), fun a => gd (a.get 49) false⟩,
  ⟨fun a σ => fpick (a.get 49) (.bool true) (a.get 51) σ, (some 52), fun _ => some true⟩,
  ⟨fun a σ => .val (a.get 52) σ, (some 53), fun _ => some true⟩,
  ⟨fun a σ => .val (a.get 7) σ, (some 54), fun a => gd (a.get 53) false⟩,
  ⟨fun a σ => i_lss Tryz.prog 3 (.tmp 54) (.const (.int .i64 (-1))) (a.get 54) (.int .i64 (-1)) σ, (some 55), fun a => gd (a.get 53) false⟩,
  ⟨fun a σ => fpick (a.get 53) (.bool true) (a.get 55) σ, (some 56), fun _ => some true⟩,
  ⟨fun a σ => .val (a.get 56) σ, (some 57), fun _ => some true⟩,
  ⟨fun a σ => .val (a.get 7) σ, (some 58), fun a => gd (a.get 57) false⟩,
  ⟨fun a σ => i_gtr Tryz.prog 3 (.tmp 58) (.const (.int .i64 1)) (a.get 58) (.int .i64 1) σ, (some 59), fun a => gd (a.get 57) false⟩,
  ⟨fun a σ => fpick (a.get 57) (.bool true) (a.get 59) σ, (some 60), fun _ => some true⟩,
  ⟨fun a σ => .val (a.get 60) σ, (some 61), fun _ => some true⟩,
  ⟨fun a σ => .val (a.get 7) σ, (some 62), fun a => gd (a.get 61) false⟩,
  ⟨fun a σ => .val (a.get 9) σ, (some 63), fun a => gd (a.get 61) false⟩,
  ⟨fun a σ => fun1 Tryz.prog (Op.unary .neg) (a.get 63) σ, (some 64), fun a => gd (a.get 61) false⟩,
  ⟨fun a σ => i_neq Tryz.prog 3 (.tmp 62) (.tmp 64) (a.get 62) (a.get 64) σ, (some 65), fun a => gd (a.get 61) false⟩,
  ⟨fun a σ => fpick (a.get 61) (.bool true) (a.get 65) σ, (some 66), fun _ => some true⟩,
  ⟨fun a σ => .val (a.get 66) σ, (some 67), fun _ => some true⟩,
  ⟨fun a σ => .val (a.get 7) σ, (some 68), fun a => gd (a.get 67) false⟩,
  ⟨fun a σ => i_eql Tryz.prog 3 (.tmp 68) (.const (.int .i64 0)) (a.get 68) (.int .i64 0) σ, (some 69), fun a => gd (a.get 67) false⟩,
  ⟨fun a σ => fload (some 4) (a.get 3) σ, (some 70), fun a => gd (a.get 67) false⟩,
  ⟨fun a σ => fload (some 4) (a.get 4) σ, (some 71), fun a => gd (a.get 67) false⟩,
  ⟨fun a σ => .enter 21 [(a.get 70), (a.get 71)] σ, (some 72), fun a => gd (a.get 67) false⟩,
  ⟨fun a σ => i_neq Tryz.prog 4 (.tmp 69) (.tmp 72) (a.get 69) (a.get 72) σ, (some 73), fun a => gd (a.get 67) false⟩,
  ⟨fun a σ => fpick (a.get 67) (.bool true) (a.get 73) σ, (some 74), fun _ => some true⟩]
noncomputable def r51_5 : List COp := r51_5U ()
noncomputable def r51_6U (_ : Unit) : List COp := [⟨fun a σ => .val (.bool false) σ, (some 6), fun _ => some true⟩]
noncomputable def r51_6 : List COp := r51_6U ()
noncomputable def r51_7U (_ : Unit) : List COp := [⟨fun a σ => .val (a.get 7) σ, (some 75), fun _ => some true⟩,
  ⟨fun a σ => i_leq Tryz.prog 3 (.tmp 75) (.const (.int .i64 0)) (a.get 75) (.int .i64 0) σ, (some 76), fun _ => some true⟩,
  ⟨fun a σ => .val (a.get 76) σ, (some 77), fun _ => some true⟩,
  ⟨fun a σ => .val (a.get 11) σ, (some 78), fun a => gd (a.get 77) true⟩,
  ⟨fun a σ => i_leq Tryz.prog 3 (.tmp 78) (.const (.int .i64 0)) (a.get 78) (.int .i64 0) σ, (some 79), fun a => gd (a.get 77) true⟩,
  ⟨fun a σ => fpick (a.get 77) (a.get 79) (.bool false) σ, (some 80), fun _ => some true⟩,
  ⟨fun a σ => fun1 Tryz.prog (Op.unary .not) (a.get 80) σ, (some 81), fun _ => some true⟩,
  ⟨fun a σ => .val (a.get 81) σ, (some 82), fun _ => some true⟩,
  ⟨fun a σ => .val (a.get 13) σ, (some 83), fun a => gd (a.get 82) false⟩,
  ⟨fun a σ => i_leq Tryz.prog 3 (.tmp 83) (.const (.int .i64 0)) (a.get 83) (.int .i64 0) σ, (some 84), fun a => gd (a.get 82) false⟩,
  ⟨fun a σ => .val (a.get 84) σ, (some 85), fun a => gd (a.get 82) false⟩,
  ⟨fun a σ => .val (a.get 13) σ, (some 86), fun a => gd (a.get 85) true⟩,
  ⟨fun a σ => i_lss Tryz.prog 3 (.tmp 86) (.const (.int .i64 0)) (a.get 86) (.int .i64 0) σ, (some 87), fun a => gd (a.get 85) true⟩,
  ⟨fun a σ => .val (a.get 87) σ, (some 88), fun a => gd (a.get 85) true⟩,
  ⟨fun a σ => .val (a.get 7) σ, (some 89), fun a => gd (a.get 88) false⟩,
  ⟨fun a σ => i_eql Tryz.prog 3 (.tmp 89) (.const (.int .i64 0)) (a.get 89) (.int .i64 0) σ, (some 90), fun a => gd (a.get 88) false⟩,
  ⟨fun a σ => .val (a.get 90) σ, (some 91), fun a => gd (a.get 88) false⟩,
  ⟨fun a σ => .val (a.get 11) σ, (some 92), fun a => gd (a.get 91) true⟩,
  ⟨fun a σ => i_eql Tryz.prog 3 (.tmp 92) (.const (.int .i64 0)) (a.get 92) (.int .i64 0) σ, (some 93), fun a => gd (a.get 91) true⟩,
  ⟨fun a σ => fpick (a.get 91) (a.get 93) (.bool false) σ, (some 94), fun a => gd (a.get 88) false⟩,
  ⟨fun a σ => fpick (a.get 88) (.bool true) (a.get 94) σ, (some 95), fun a => gd (a.get 85) true⟩,
  ⟨fun a σ => fpick (a.get 85) (a.get 95) (.bool false) σ, (some 96), fun a => gd (a.get 82) false⟩,
  ⟨fun a σ => fpick (a.get 82) (.bool true) (a.get 96) σ, (some 97), fun _ => some true⟩,
  ⟨fun a σ => .val (a.get 97) σ, (some 6), fun _ => some true⟩]
noncomputable def r51_7 : List COp := r51_7U ()
noncomputable def run51 (E : Env) (ro : Option Nat) (fn : FuncId) : RunF := (seqR (fops E ro r51_0) (seqR (fops E ro r51_1) (seqR (fops E ro r51_2) (seqR (fops E ro r51_3) (seqR (fops E ro r51_4) (seqR (seqR (fops E ro r51_5) (condR (fun a => (a.get 74)) (seqR (fops E ro r51_6) retR) skipR)) (seqR (fops E ro r51_7) retR)))))))
theorem r51_0_go : fops E ro r51_0 a u σ = fops E ro (r51_0U ()) a u σ := rfl
theorem r51_1_go : fops E ro r51_1 a u σ = fops E ro (r51_1U ()) a u σ := rfl
theorem r51_2_go : fops E ro r51_2 a u σ = fops E ro (r51_2U ()) a u σ := rfl
theorem r51_3_go : fops E ro r51_3 a u σ = fops E ro (r51_3U ()) a u σ := rfl
theorem r51_4_go : fops E ro r51_4 a u σ = fops E ro (r51_4U ()) a u σ := rfl
theorem r51_5_go : fops E ro r51_5 a u σ = fops E ro (r51_5U ()) a u σ := rfl
theorem r51_7_go : fops E ro r51_7 a u σ = fops E ro (r51_7U ()) a u σ := rfl
theorem code51 (E : Env) (ro : Option Nat) (fn : FuncId) : code Tryz.prog nls (Tryz.f51.body.getD .skip) E ro fn = run51 E ro fn := by kernel_rfl
theorem enter51 (E : Env) (args : List Value) (u : Option FrameMode) (σ : FState) (hn : args.length ≤ (15 : Nat)) : fcall Tryz.prog nls E 51 args u σ = leaveR Tryz.prog E [.tmp 6] (run51 E none 51 ⟨padTo undef 15 args, fun _ => undef, 15, 98, []⟩ u σ) := by
  rw [fcall_of (body := Tryz.f51.body.getD .skip) Tryz.func51 rfl E args u σ 15 98 (by kernel_rfl) rfl ⟨hn, by decide⟩, code51]
  rfl
/-! caracole/caracolelaw01.vast -/
noncomputable def r9_0U (_ : Unit) : List COp := [⟨fun a σ => fbox 24 (a.get 0) σ, (some 1), fun _ => some true⟩,
  ⟨fun a σ => .val (.bool false) σ, (some 2), fun _ => some true⟩]
noncomputable def r9_0 : List COp := r9_0U ()
noncomputable def r9_1U (_ : Unit) : List COp := [⟨fun a σ => fload (some 4) (a.get 1) σ, (some 3), fun _ => some true⟩,
  ⟨fun a σ => .enter 52 [(a.get 3), (.int .i64 150)] σ, (some 4), fun _ => some true⟩,
  ⟨fun a σ => i_gtr Tryz.prog 3 (.tmp 4) (.const (.int .i64 150)) (a.get 4) (.int .i64 150) σ, (some 5), fun _ => some true⟩,
  ⟨fun a σ => .val (a.get 5) σ, (some 6), fun _ => some true⟩,
  ⟨fun a σ => fload (some 4) (a.get 1) σ, (some 7), fun a => gd (a.get 6) false⟩,
  ⟨fun a σ => .enter 53 [(a.get 7)] σ, (some 8), fun a => gd (a.get 6) false⟩,
  ⟨fun a σ => fpick (a.get 6) (.bool true) (a.get 8) σ, (some 9), fun _ => some true⟩,
  ⟨fun a σ => .val (a.get 9) σ, (some 2), fun _ => some true⟩]
noncomputable def r9_1 : List COp := r9_1U ()
noncomputable def run9 (E : Env) (ro : Option Nat) (fn : FuncId) : RunF := (seqR (fops E ro r9_0) (seqR (fops E ro r9_1) retR))
theorem r9_0_go : fops E ro r9_0 a u σ = fops E ro (r9_0U ()) a u σ := rfl
theorem r9_1_go : fops E ro r9_1 a u σ = fops E ro (r9_1U ()) a u σ := rfl
theorem code9 (E : Env) (ro : Option Nat) (fn : FuncId) : code Tryz.prog nls (Tryz.f9.body.getD .skip) E ro fn = run9 E ro fn := by kernel_rfl
theorem enter9 (E : Env) (args : List Value) (u : Option FrameMode) (σ : FState) (hn : args.length ≤ (2 : Nat)) : fcall Tryz.prog nls E 9 args u σ = leaveR Tryz.prog E [.tmp 2] (run9 E none 9 ⟨padTo undef 2 args, fun _ => undef, 2, 10, []⟩ u σ) := by
  rw [fcall_of (body := Tryz.f9.body.getD .skip) Tryz.func9 rfl E args u σ 2 10 (by kernel_rfl) rfl ⟨hn, by decide⟩, code9]
  rfl
/-! caracole/caracolelaw01.wordy -/
noncomputable def r53_0U (_ : Unit) : List COp := [⟨fun a σ => fbox 24 (a.get 0) σ, (some 1), fun _ => some true⟩,
  ⟨fun a σ => .val (.bool false) σ, (some 2), fun _ => some true⟩]
noncomputable def r53_0 : List COp := r53_0U ()
noncomputable def r53_1U (_ : Unit) : List COp := [⟨fun a σ => ffield 2 (a.get 1) σ, (some 4), fun _ => some true⟩,
  ⟨fun a σ => fload none (a.get 4) σ, (some 5), fun _ => some true⟩,
  ⟨fun a σ => flenS (a.get 5) σ, (some 6), fun _ => some true⟩,
  ⟨fun a σ => i_gtr Tryz.prog 3 (.tmp 6) (.const (.int .i64 100)) (a.get 6) (.int .i64 100) σ, (some 7), fun _ => some true⟩]
noncomputable def r53_1 : List COp := r53_1U ()
noncomputable def r53_2U (_ : Unit) : List COp := [⟨fun a σ => .val (.bool true) σ, (some 2), fun _ => some true⟩]
noncomputable def r53_2 : List COp := r53_2U ()
noncomputable def r53_3U (_ : Unit) : List COp := [⟨fun a σ => .val (.int .i64 0) σ, (some 3), fun _ => some true⟩]
noncomputable def r53_3 : List COp := r53_3U ()
noncomputable def r53_4U (_ : Unit) : List COp := [⟨fun a σ => .val (a.get 3) σ, (some 8), fun _ => some true⟩,
  ⟨fun a σ => ffield 3 (a.get 1) σ, (some 9), fun _ => some true⟩,
  ⟨fun a σ => fload none (a.get 9) σ, (some 10), fun _ => some true⟩,
  ⟨fun a σ => flenL (a.get 10) σ, (some 11), fun _ => some true⟩,
  ⟨fun a σ => i_lss Tryz.prog 3 (.tmp 8) (.tmp 11) (a.get 8) (a.get 11) σ, (some 12), fun _ => some true⟩]
noncomputable def r53_4 : List COp := r53_4U ()
noncomputable def r53_6U (_ : Unit) : List COp := [⟨fun a σ => ffield 3 (a.get 1) σ, (some 15), fun _ => some true⟩,
  ⟨fun a σ => fload none (a.get 15) σ, (some 16), fun _ => some true⟩,
  ⟨fun a σ => .val (a.get 3) σ, (some 17), fun _ => some true⟩,
  ⟨fun a σ => findex (none, 4) (a.get 16) (a.get 17) σ, (some 18), fun _ => some true⟩,
  ⟨fun a σ => fload (some 4) (a.get 18) σ, (some 19), fun _ => some true⟩,
  ⟨fun a σ => .enter 53 [(a.get 19)] σ, (some 20), fun _ => some true⟩]
noncomputable def r53_6 : List COp := r53_6U ()
noncomputable def r53_7U (_ : Unit) : List COp := [⟨fun a σ => .val (.bool true) σ, (some 2), fun _ => some true⟩]
noncomputable def r53_7 : List COp := r53_7U ()
noncomputable def r53_5U (_ : Unit) : List COp := [⟨fun a σ => .val (a.get 3) σ, (some 13), fun _ => some true⟩,
  ⟨fun a σ => i_add Tryz.prog 3 (.tmp 13) (.const (.int .i64 1)) (a.get 13) (.int .i64 1) σ, (some 14), fun _ => some true⟩,
  ⟨fun a σ => .val (a.get 14) σ, (some 3), fun _ => some true⟩]
noncomputable def r53_5 : List COp := r53_5U ()
noncomputable def l53_0 (E : Env) (ro : Option Nat) (fn : FuncId) : RunF := (seqR (seqR (fops E ro r53_4) (condR (fun a => (a.get 12)) skipR (exitR 0))) (seqR (blockR 1 (seqR (fops E ro r53_6) (condR (fun a => (a.get 20)) (seqR (fops E ro r53_7) retR) skipR))) (fops E ro r53_5)))
noncomputable def r53_8U (_ : Unit) : List COp := [⟨fun a σ => .val (.bool false) σ, (some 2), fun _ => some true⟩]
noncomputable def r53_8 : List COp := r53_8U ()
noncomputable def run53 (E : Env) (ro : Option Nat) (fn : FuncId) : RunF := (seqR (fops E ro r53_0) (seqR (seqR (fops E ro r53_1) (condR (fun a => (a.get 7)) (seqR (fops E ro r53_2) retR) skipR)) (seqR (seqR (fops E ro r53_3) (blockR 0 (loopR (keepOf nls fn) (l53_0 E ro fn)))) (seqR (fops E ro r53_8) retR))))
theorem r53_0_go : fops E ro r53_0 a u σ = fops E ro (r53_0U ()) a u σ := rfl
theorem r53_1_go : fops E ro r53_1 a u σ = fops E ro (r53_1U ()) a u σ := rfl
theorem r53_2_go : fops E ro r53_2 a u σ = fops E ro (r53_2U ()) a u σ := rfl
theorem r53_3_go : fops E ro r53_3 a u σ = fops E ro (r53_3U ()) a u σ := rfl
theorem r53_4_go : fops E ro r53_4 a u σ = fops E ro (r53_4U ()) a u σ := rfl
theorem r53_6_go : fops E ro r53_6 a u σ = fops E ro (r53_6U ()) a u σ := rfl
theorem r53_7_go : fops E ro r53_7 a u σ = fops E ro (r53_7U ()) a u σ := rfl
theorem r53_5_go : fops E ro r53_5 a u σ = fops E ro (r53_5U ()) a u σ := rfl
theorem r53_8_go : fops E ro r53_8 a u σ = fops E ro (r53_8U ()) a u σ := rfl
theorem code53 (E : Env) (ro : Option Nat) (fn : FuncId) : code Tryz.prog nls (Tryz.f53.body.getD .skip) E ro fn = run53 E ro fn := by kernel_rfl
theorem enter53 (E : Env) (args : List Value) (u : Option FrameMode) (σ : FState) (hn : args.length ≤ (4 : Nat)) : fcall Tryz.prog nls E 53 args u σ = leaveR Tryz.prog E [.tmp 2] (run53 E none 53 ⟨padTo undef 4 args, fun _ => undef, 4, 21, []⟩ u σ) := by
  rw [fcall_of (body := Tryz.f53.body.getD .skip) Tryz.func53 rfl E args u σ 4 21 (by kernel_rfl) rfl ⟨hn, by decide⟩, code53]
  rfl
/-! caracole/caracoleref01.digit -/
noncomputable def r183_0U (_ : Unit) : List COp := [⟨fun a σ => .val (.bool false) σ, (some 2), fun _ => some true⟩]
noncomputable def r183_0 : List COp := r183_0U ()
noncomputable def r183_1U (_ : Unit) : List COp := [⟨fun a σ => .val (a.get 0) σ, (some 3), fun _ => some true⟩,
  ⟨fun a σ => i_leq Tryz.prog 5 (.const (.int .u8 48)) (.tmp 3) (.int .u8 48) (a.get 3) σ, (some 4), fun _ => some true⟩,
  ⟨fun a σ => .val (a.get 4) σ, (some 5), fun _ => some true⟩,
  ⟨fun a σ => .val (a.get 0) σ, (some 6), fun a => gd (a.get 5) true⟩,
  ⟨fun a σ => i_leq Tryz.prog 5 (.tmp 6) (.const (.int .u8 57)) (a.get 6) (.int .u8 57) σ, (some 7), fun a => gd (a.get 5) true⟩,
  ⟨fun a σ => fpick (a.get 5) (a.get 7) (.bool false) σ, (some 8), fun _ => some true⟩,
  ⟨fun a σ => .val (a.get 8) σ, (some 2), fun _ => some true⟩]
noncomputable def r183_1 : List COp := r183_1U ()
noncomputable def run183 (E : Env) (ro : Option Nat) (fn : FuncId) : RunF := (seqR (fops E ro r183_0) (seqR (fops E ro r183_1) retR))
theorem r183_0_go : fops E ro r183_0 a u σ = fops E ro (r183_0U ()) a u σ := rfl
theorem r183_1_go : fops E ro r183_1 a u σ = fops E ro (r183_1U ()) a u σ := rfl
theorem code183 (E : Env) (ro : Option Nat) (fn : FuncId) : code Tryz.prog nls (Tryz.f183.body.getD .skip) E ro fn = run183 E ro fn := by kernel_rfl
theorem enter183 (E : Env) (args : List Value) (u : Option FrameMode) (σ : FState) (hn : args.length ≤ (2 : Nat)) : fcall Tryz.prog nls E 183 args u σ = leaveR Tryz.prog E [.tmp 2] (run183 E none 183 ⟨padTo undef 2 args, fun _ => undef, 2, 9, []⟩ u σ) := by
  rw [fcall_of (body := Tryz.f183.body.getD .skip) Tryz.func183 rfl E args u σ 2 9 (by kernel_rfl) rfl ⟨hn, by decide⟩, code183]
  rfl
end Go.Proofs.YtokieofohmgjdaaGreatDoor
/- The reference's Symbol and CheckText, of any text. -/
namespace Go.Proofs.YtokieofohmgjdaaGreatDoor
open Go Go.Eng
attribute [local congr] andThen_congr fops_congr fdraw_congr afterOp_congr drawF_congr
attribute [-go_sem] List.range_succ
def digC (c : Nat) : Bool := decide (48 ≤ c) && decide (c ≤ 57)
def signs : List Nat := [45, 43, 42, 47, 60, 62, 61, 63, 33]
def symC (c : Nat) : Bool := (decide (97 ≤ c) && decide (c ≤ 122)) || digC c || signs.contains c
/-- A byte. -/
def byteAt (t : ByteArray) (i : Nat) : Nat := t[i]!.toNat
def symB (t : ByteArray) : Bool := decide (1 ≤ t.size) && decide (t.size ≤ 20) && !digC (byteAt t 0) && !(byteAt t 0 == 45 && decide (1 < t.size) && digC (byteAt t 1)) && (List.range t.size).all fun i => symC (byteAt t i)
theorem findexS_at (s : ByteArray) (i : Nat) (h : i < s.size) (σ : FState) : findexS (.string s) (.int .i64 (.ofNat i)) σ = .val (.int .u8 (byteAt s i : Nat)) σ := by
  have e : s[i]? = some s[i]! := by rw [getElem?_pos s i h, getElem!_pos s i h]
  unfold findexS natOf
  simp only [e]
  rfl
theorem findexS_0 (s : ByteArray) (h : 0 < s.size) (σ : FState) : findexS (.string s) (.int .i64 0) σ = .val (.int .u8 (byteAt s 0 : Nat)) σ := findexS_at s 0 h σ
theorem findexS_1 (s : ByteArray) (h : 1 < s.size) (σ : FState) : findexS (.string s) (.int .i64 1) σ = .val (.int .u8 (byteAt s 1 : Nat)) σ := findexS_at s 1 h σ
theorem leq_u8 (x y : Operand) (a b : Int) (σ : FState) : i_leq Tryz.prog 5 x y (.int .u8 a) (.int .u8 b) σ = .val (.bool (decide (a ≤ b))) σ := by kernel_rfl
theorem lss_u8 (x y : Operand) (a b : Int) (σ : FState) : i_lss Tryz.prog 5 x y (.int .u8 a) (.int .u8 b) σ = .val (.bool (decide (a < b))) σ := by kernel_rfl
theorem gtr_u8 (x y : Operand) (a b : Int) (σ : FState) : i_gtr Tryz.prog 5 x y (.int .u8 a) (.int .u8 b) σ = .val (.bool (decide (a > b))) σ := by kernel_rfl
theorem eql_u8 (x y : Operand) (a b : Int) (σ : FState) : i_eql Tryz.prog 5 x y (.int .u8 a) (.int .u8 b) σ = .val (.bool (a == b)) σ := by kernel_rfl
theorem digit_go (n c : Nat) (σ : FState) : (env (n + 1)).call 183 [.int .u8 (c : Int)] none σ = .ret (.bool (digC c)) none σ := by
  rw [env_call _ 183 _ _ rfl, enter183 _ _ _ _ (by simp), Sl_start]
  unfold run183 digC
  by_cases h : 48 ≤ c
  · have d0 : decide ((48 : Int) ≤ (c : Int)) = true := by simp; omega
    have d1 : decide ((c : Int) ≤ 57) = decide (c ≤ 57) := by simp; omega
    have d2 : decide (48 ≤ c) = true := by simp; omega
    simp -implicitDefEqProofs only [go_sem, ↓reduceIte, Nat.reduceLT, Nat.reduceEqDiff, Nat.reduceAdd, Nat.reduceMul, Nat.reduceLeDiff, Nat.reduceSub, r183_0_go, r183_0U, r183_1_go, r183_1U, Option.getD_some, List.getElem?_cons_zero, leq_u8, d0, d1, d2, Bool.true_and]
  · have d0 : decide ((48 : Int) ≤ (c : Int)) = false := by simp; omega
    have d2 : decide (48 ≤ c) = false := by simp; omega
    simp -implicitDefEqProofs only [go_sem, ↓reduceIte, Nat.reduceLT, Nat.reduceEqDiff, Nat.reduceAdd, Nat.reduceMul, Nat.reduceLeDiff, Nat.reduceSub, r183_0_go, r183_0U, r183_1_go, r183_1U, Option.getD_some, List.getElem?_cons_zero, leq_u8, d0, d2, Bool.false_and]
theorem sy_step (n i c : Nat) (t : ByteArray) (f g : Nat → Value) (σ : FState) (hi : i < t.size) (hsz : i < 1000000) (hc : byteAt t i = c) (f0 : f 0 = .string t) (f3 : f 3 = .int .i64 (.ofNat i)) :
    ∃ f' g', f' 0 = .string t ∧ ((symC c = true ∧ l158_0 (env (n + 1)) none 158 (Sl 5 63 f g []) none σ = .done .normal (Sl 5 63 f' g' []) none σ ∧ f' 3 = .int .i64 (.ofNat (i + 1))) ∨
      (symC c = false ∧ l158_0 (env (n + 1)) none 158 (Sl 5 63 f g []) none σ = .done .ret (Sl 5 63 f' g' []) none σ ∧ f' 2 = .bool false)) := by
  have d0 : decide (Int.ofNat i < Int.ofNat t.size) = true := by simp; omega
  have hb := findexS_at t i hi σ
  rw [hc] at hb
  have a1 := add1 i (by omega)
  have hdg := digit_go n c σ
  unfold l158_0
  by_cases hl : 97 ≤ c ∧ c ≤ 122
  · have l1 : decide ((97 : Int) ≤ (c : Int)) = true := by simp; omega
    have l2 : decide ((c : Int) ≤ 122) = true := by simp; omega
    simp -implicitDefEqProofs only [go_sem, ↓reduceIte, Nat.reduceLT, Nat.reduceEqDiff, Nat.reduceAdd, Nat.reduceMul, Nat.reduceLeDiff, Nat.reduceSub, r158_4_go, r158_4U, r158_5_go, r158_5U, r158_6_go, r158_6U, r158_7_go, r158_7U, r158_8_go, r158_8U, r158_9_go, r158_9U, r158_10_go, r158_10U, r158_11_go, r158_11U, r158_12_go, r158_12U, r158_13_go, r158_13U, r158_14_go, r158_14U, r158_15_go, r158_15U, r158_16_go, r158_16U, r158_17_go, r158_17U, r158_18_go, r158_18U, f0, f3, d0, hb, a1, l1, l2, skipR_go, leq_u8]
    refine ⟨_, _, ?_, .inl ⟨by unfold symC; simp; omega, rfl, ?_⟩⟩
    · simp -implicitDefEqProofs only [upd_go, kept_go, ↓reduceIte, Nat.reduceEqDiff, Nat.reduceLT, reduceCtorEq, f0]
    · simp -implicitDefEqProofs only [upd_go, kept_go, ↓reduceIte, Nat.reduceEqDiff, Nat.reduceLT, reduceCtorEq]
  · have hnl : (decide (97 ≤ c) && decide (c ≤ 122)) = false := by simp; omega
    cases hd : digC c with
    | true =>
      rw [hd] at hdg
      by_cases h97 : 97 ≤ c
      · have l1 : decide ((97 : Int) ≤ (c : Int)) = true := by simp; omega
        have l2 : decide ((c : Int) ≤ 122) = false := by simp; omega
        simp -implicitDefEqProofs only [go_sem, ↓reduceIte, Nat.reduceLT, Nat.reduceEqDiff, Nat.reduceAdd, Nat.reduceMul, Nat.reduceLeDiff, Nat.reduceSub, r158_4_go, r158_4U, r158_5_go, r158_5U, r158_6_go, r158_6U, r158_7_go, r158_7U, r158_8_go, r158_8U, r158_9_go, r158_9U, r158_10_go, r158_10U, r158_11_go, r158_11U, r158_12_go, r158_12U, r158_13_go, r158_13U, r158_14_go, r158_14U, r158_15_go, r158_15U, r158_16_go, r158_16U, r158_17_go, r158_17U, r158_18_go, r158_18U, f0, f3, d0, hb, a1, l1, l2, hdg, skipR_go, leq_u8]
        refine ⟨_, _, ?_, .inl ⟨by unfold symC; rw [hd]; simp, rfl, ?_⟩⟩
        · simp -implicitDefEqProofs only [upd_go, kept_go, ↓reduceIte, Nat.reduceEqDiff, Nat.reduceLT, reduceCtorEq, f0]
        · simp -implicitDefEqProofs only [upd_go, kept_go, ↓reduceIte, Nat.reduceEqDiff, Nat.reduceLT, reduceCtorEq]
      · have l1 : decide ((97 : Int) ≤ (c : Int)) = false := by simp; omega
        simp -implicitDefEqProofs only [go_sem, ↓reduceIte, Nat.reduceLT, Nat.reduceEqDiff, Nat.reduceAdd, Nat.reduceMul, Nat.reduceLeDiff, Nat.reduceSub, r158_4_go, r158_4U, r158_5_go, r158_5U, r158_6_go, r158_6U, r158_7_go, r158_7U, r158_8_go, r158_8U, r158_9_go, r158_9U, r158_10_go, r158_10U, r158_11_go, r158_11U, r158_12_go, r158_12U, r158_13_go, r158_13U, r158_14_go, r158_14U, r158_15_go, r158_15U, r158_16_go, r158_16U, r158_17_go, r158_17U, r158_18_go, r158_18U, f0, f3, d0, hb, a1, l1, hdg, skipR_go, leq_u8]
        refine ⟨_, _, ?_, .inl ⟨by unfold symC; rw [hd]; simp, rfl, ?_⟩⟩
        · simp -implicitDefEqProofs only [upd_go, kept_go, ↓reduceIte, Nat.reduceEqDiff, Nat.reduceLT, reduceCtorEq, f0]
        · simp -implicitDefEqProofs only [upd_go, kept_go, ↓reduceIte, Nat.reduceEqDiff, Nat.reduceLT, reduceCtorEq]
    | false =>
      rw [hd] at hdg
      have hsg : symC c = signs.contains c := by unfold symC; rw [hnl, hd]; rfl
      rw [hsg]
      by_cases h0 : c = 45
      · have e0 : ((c : Int) == 45) = true := by simp; omega
        by_cases h97 : 97 ≤ c
        · have l1 : decide ((97 : Int) ≤ (c : Int)) = true := by simp; omega
          have l2 : decide ((c : Int) ≤ 122) = false := by simp; omega
          simp -implicitDefEqProofs only [go_sem, ↓reduceIte, Nat.reduceLT, Nat.reduceEqDiff, Nat.reduceAdd, Nat.reduceMul, Nat.reduceLeDiff, Nat.reduceSub, r158_4_go, r158_4U, r158_5_go, r158_5U, r158_6_go, r158_6U, r158_7_go, r158_7U, r158_8_go, r158_8U, r158_9_go, r158_9U, r158_10_go, r158_10U, r158_11_go, r158_11U, r158_12_go, r158_12U, r158_13_go, r158_13U, r158_14_go, r158_14U, r158_15_go, r158_15U, r158_16_go, r158_16U, r158_17_go, r158_17U, r158_18_go, r158_18U, f0, f3, d0, hb, a1, l1, l2, hdg, e0, skipR_go, eql_u8, leq_u8]
          refine ⟨_, _, ?_, .inl ⟨?_, rfl, ?_⟩⟩
          · simp -implicitDefEqProofs only [upd_go, kept_go, ↓reduceIte, Nat.reduceEqDiff, Nat.reduceLT, reduceCtorEq, f0]
          · simp [signs]; omega
          · simp -implicitDefEqProofs only [upd_go, kept_go, ↓reduceIte, Nat.reduceEqDiff, Nat.reduceLT, reduceCtorEq]
        · have l1 : decide ((97 : Int) ≤ (c : Int)) = false := by simp; omega
          simp -implicitDefEqProofs only [go_sem, ↓reduceIte, Nat.reduceLT, Nat.reduceEqDiff, Nat.reduceAdd, Nat.reduceMul, Nat.reduceLeDiff, Nat.reduceSub, r158_4_go, r158_4U, r158_5_go, r158_5U, r158_6_go, r158_6U, r158_7_go, r158_7U, r158_8_go, r158_8U, r158_9_go, r158_9U, r158_10_go, r158_10U, r158_11_go, r158_11U, r158_12_go, r158_12U, r158_13_go, r158_13U, r158_14_go, r158_14U, r158_15_go, r158_15U, r158_16_go, r158_16U, r158_17_go, r158_17U, r158_18_go, r158_18U, f0, f3, d0, hb, a1, l1, hdg, e0, skipR_go, eql_u8, leq_u8]
          refine ⟨_, _, ?_, .inl ⟨?_, rfl, ?_⟩⟩
          · simp -implicitDefEqProofs only [upd_go, kept_go, ↓reduceIte, Nat.reduceEqDiff, Nat.reduceLT, reduceCtorEq, f0]
          · simp [signs]; omega
          · simp -implicitDefEqProofs only [upd_go, kept_go, ↓reduceIte, Nat.reduceEqDiff, Nat.reduceLT, reduceCtorEq]
      · have e0 : ((c : Int) == 45) = false := by simp; omega
        by_cases h1 : c = 43
        · have e1 : ((c : Int) == 43) = true := by simp; omega
          by_cases h97 : 97 ≤ c
          · have l1 : decide ((97 : Int) ≤ (c : Int)) = true := by simp; omega
            have l2 : decide ((c : Int) ≤ 122) = false := by simp; omega
            simp -implicitDefEqProofs only [go_sem, ↓reduceIte, Nat.reduceLT, Nat.reduceEqDiff, Nat.reduceAdd, Nat.reduceMul, Nat.reduceLeDiff, Nat.reduceSub, r158_4_go, r158_4U, r158_5_go, r158_5U, r158_6_go, r158_6U, r158_7_go, r158_7U, r158_8_go, r158_8U, r158_9_go, r158_9U, r158_10_go, r158_10U, r158_11_go, r158_11U, r158_12_go, r158_12U, r158_13_go, r158_13U, r158_14_go, r158_14U, r158_15_go, r158_15U, r158_16_go, r158_16U, r158_17_go, r158_17U, r158_18_go, r158_18U, f0, f3, d0, hb, a1, l1, l2, hdg, e0, e1, skipR_go, eql_u8, leq_u8]
            refine ⟨_, _, ?_, .inl ⟨?_, rfl, ?_⟩⟩
            · simp -implicitDefEqProofs only [upd_go, kept_go, ↓reduceIte, Nat.reduceEqDiff, Nat.reduceLT, reduceCtorEq, f0]
            · simp [signs]; omega
            · simp -implicitDefEqProofs only [upd_go, kept_go, ↓reduceIte, Nat.reduceEqDiff, Nat.reduceLT, reduceCtorEq]
          · have l1 : decide ((97 : Int) ≤ (c : Int)) = false := by simp; omega
            simp -implicitDefEqProofs only [go_sem, ↓reduceIte, Nat.reduceLT, Nat.reduceEqDiff, Nat.reduceAdd, Nat.reduceMul, Nat.reduceLeDiff, Nat.reduceSub, r158_4_go, r158_4U, r158_5_go, r158_5U, r158_6_go, r158_6U, r158_7_go, r158_7U, r158_8_go, r158_8U, r158_9_go, r158_9U, r158_10_go, r158_10U, r158_11_go, r158_11U, r158_12_go, r158_12U, r158_13_go, r158_13U, r158_14_go, r158_14U, r158_15_go, r158_15U, r158_16_go, r158_16U, r158_17_go, r158_17U, r158_18_go, r158_18U, f0, f3, d0, hb, a1, l1, hdg, e0, e1, skipR_go, eql_u8, leq_u8]
            refine ⟨_, _, ?_, .inl ⟨?_, rfl, ?_⟩⟩
            · simp -implicitDefEqProofs only [upd_go, kept_go, ↓reduceIte, Nat.reduceEqDiff, Nat.reduceLT, reduceCtorEq, f0]
            · simp [signs]; omega
            · simp -implicitDefEqProofs only [upd_go, kept_go, ↓reduceIte, Nat.reduceEqDiff, Nat.reduceLT, reduceCtorEq]
        · have e1 : ((c : Int) == 43) = false := by simp; omega
          by_cases h2 : c = 42
          · have e2 : ((c : Int) == 42) = true := by simp; omega
            by_cases h97 : 97 ≤ c
            · have l1 : decide ((97 : Int) ≤ (c : Int)) = true := by simp; omega
              have l2 : decide ((c : Int) ≤ 122) = false := by simp; omega
              simp -implicitDefEqProofs only [go_sem, ↓reduceIte, Nat.reduceLT, Nat.reduceEqDiff, Nat.reduceAdd, Nat.reduceMul, Nat.reduceLeDiff, Nat.reduceSub, r158_4_go, r158_4U, r158_5_go, r158_5U, r158_6_go, r158_6U, r158_7_go, r158_7U, r158_8_go, r158_8U, r158_9_go, r158_9U, r158_10_go, r158_10U, r158_11_go, r158_11U, r158_12_go, r158_12U, r158_13_go, r158_13U, r158_14_go, r158_14U, r158_15_go, r158_15U, r158_16_go, r158_16U, r158_17_go, r158_17U, r158_18_go, r158_18U, f0, f3, d0, hb, a1, l1, l2, hdg, e0, e1, e2, skipR_go, eql_u8, leq_u8]
              refine ⟨_, _, ?_, .inl ⟨?_, rfl, ?_⟩⟩
              · simp -implicitDefEqProofs only [upd_go, kept_go, ↓reduceIte, Nat.reduceEqDiff, Nat.reduceLT, reduceCtorEq, f0]
              · simp [signs]; omega
              · simp -implicitDefEqProofs only [upd_go, kept_go, ↓reduceIte, Nat.reduceEqDiff, Nat.reduceLT, reduceCtorEq]
            · have l1 : decide ((97 : Int) ≤ (c : Int)) = false := by simp; omega
              simp -implicitDefEqProofs only [go_sem, ↓reduceIte, Nat.reduceLT, Nat.reduceEqDiff, Nat.reduceAdd, Nat.reduceMul, Nat.reduceLeDiff, Nat.reduceSub, r158_4_go, r158_4U, r158_5_go, r158_5U, r158_6_go, r158_6U, r158_7_go, r158_7U, r158_8_go, r158_8U, r158_9_go, r158_9U, r158_10_go, r158_10U, r158_11_go, r158_11U, r158_12_go, r158_12U, r158_13_go, r158_13U, r158_14_go, r158_14U, r158_15_go, r158_15U, r158_16_go, r158_16U, r158_17_go, r158_17U, r158_18_go, r158_18U, f0, f3, d0, hb, a1, l1, hdg, e0, e1, e2, skipR_go, eql_u8, leq_u8]
              refine ⟨_, _, ?_, .inl ⟨?_, rfl, ?_⟩⟩
              · simp -implicitDefEqProofs only [upd_go, kept_go, ↓reduceIte, Nat.reduceEqDiff, Nat.reduceLT, reduceCtorEq, f0]
              · simp [signs]; omega
              · simp -implicitDefEqProofs only [upd_go, kept_go, ↓reduceIte, Nat.reduceEqDiff, Nat.reduceLT, reduceCtorEq]
          · have e2 : ((c : Int) == 42) = false := by simp; omega
            by_cases h3 : c = 47
            · have e3 : ((c : Int) == 47) = true := by simp; omega
              by_cases h97 : 97 ≤ c
              · have l1 : decide ((97 : Int) ≤ (c : Int)) = true := by simp; omega
                have l2 : decide ((c : Int) ≤ 122) = false := by simp; omega
                simp -implicitDefEqProofs only [go_sem, ↓reduceIte, Nat.reduceLT, Nat.reduceEqDiff, Nat.reduceAdd, Nat.reduceMul, Nat.reduceLeDiff, Nat.reduceSub, r158_4_go, r158_4U, r158_5_go, r158_5U, r158_6_go, r158_6U, r158_7_go, r158_7U, r158_8_go, r158_8U, r158_9_go, r158_9U, r158_10_go, r158_10U, r158_11_go, r158_11U, r158_12_go, r158_12U, r158_13_go, r158_13U, r158_14_go, r158_14U, r158_15_go, r158_15U, r158_16_go, r158_16U, r158_17_go, r158_17U, r158_18_go, r158_18U, f0, f3, d0, hb, a1, l1, l2, hdg, e0, e1, e2, e3, skipR_go, eql_u8, leq_u8]
                refine ⟨_, _, ?_, .inl ⟨?_, rfl, ?_⟩⟩
                · simp -implicitDefEqProofs only [upd_go, kept_go, ↓reduceIte, Nat.reduceEqDiff, Nat.reduceLT, reduceCtorEq, f0]
                · simp [signs]; omega
                · simp -implicitDefEqProofs only [upd_go, kept_go, ↓reduceIte, Nat.reduceEqDiff, Nat.reduceLT, reduceCtorEq]
              · have l1 : decide ((97 : Int) ≤ (c : Int)) = false := by simp; omega
                simp -implicitDefEqProofs only [go_sem, ↓reduceIte, Nat.reduceLT, Nat.reduceEqDiff, Nat.reduceAdd, Nat.reduceMul, Nat.reduceLeDiff, Nat.reduceSub, r158_4_go, r158_4U, r158_5_go, r158_5U, r158_6_go, r158_6U, r158_7_go, r158_7U, r158_8_go, r158_8U, r158_9_go, r158_9U, r158_10_go, r158_10U, r158_11_go, r158_11U, r158_12_go, r158_12U, r158_13_go, r158_13U, r158_14_go, r158_14U, r158_15_go, r158_15U, r158_16_go, r158_16U, r158_17_go, r158_17U, r158_18_go, r158_18U, f0, f3, d0, hb, a1, l1, hdg, e0, e1, e2, e3, skipR_go, eql_u8, leq_u8]
                refine ⟨_, _, ?_, .inl ⟨?_, rfl, ?_⟩⟩
                · simp -implicitDefEqProofs only [upd_go, kept_go, ↓reduceIte, Nat.reduceEqDiff, Nat.reduceLT, reduceCtorEq, f0]
                · simp [signs]; omega
                · simp -implicitDefEqProofs only [upd_go, kept_go, ↓reduceIte, Nat.reduceEqDiff, Nat.reduceLT, reduceCtorEq]
            · have e3 : ((c : Int) == 47) = false := by simp; omega
              by_cases h4 : c = 60
              · have e4 : ((c : Int) == 60) = true := by simp; omega
                by_cases h97 : 97 ≤ c
                · have l1 : decide ((97 : Int) ≤ (c : Int)) = true := by simp; omega
                  have l2 : decide ((c : Int) ≤ 122) = false := by simp; omega
                  simp -implicitDefEqProofs only [go_sem, ↓reduceIte, Nat.reduceLT, Nat.reduceEqDiff, Nat.reduceAdd, Nat.reduceMul, Nat.reduceLeDiff, Nat.reduceSub, r158_4_go, r158_4U, r158_5_go, r158_5U, r158_6_go, r158_6U, r158_7_go, r158_7U, r158_8_go, r158_8U, r158_9_go, r158_9U, r158_10_go, r158_10U, r158_11_go, r158_11U, r158_12_go, r158_12U, r158_13_go, r158_13U, r158_14_go, r158_14U, r158_15_go, r158_15U, r158_16_go, r158_16U, r158_17_go, r158_17U, r158_18_go, r158_18U, f0, f3, d0, hb, a1, l1, l2, hdg, e0, e1, e2, e3, e4, skipR_go, eql_u8, leq_u8]
                  refine ⟨_, _, ?_, .inl ⟨?_, rfl, ?_⟩⟩
                  · simp -implicitDefEqProofs only [upd_go, kept_go, ↓reduceIte, Nat.reduceEqDiff, Nat.reduceLT, reduceCtorEq, f0]
                  · simp [signs]; omega
                  · simp -implicitDefEqProofs only [upd_go, kept_go, ↓reduceIte, Nat.reduceEqDiff, Nat.reduceLT, reduceCtorEq]
                · have l1 : decide ((97 : Int) ≤ (c : Int)) = false := by simp; omega
                  simp -implicitDefEqProofs only [go_sem, ↓reduceIte, Nat.reduceLT, Nat.reduceEqDiff, Nat.reduceAdd, Nat.reduceMul, Nat.reduceLeDiff, Nat.reduceSub, r158_4_go, r158_4U, r158_5_go, r158_5U, r158_6_go, r158_6U, r158_7_go, r158_7U, r158_8_go, r158_8U, r158_9_go, r158_9U, r158_10_go, r158_10U, r158_11_go, r158_11U, r158_12_go, r158_12U, r158_13_go, r158_13U, r158_14_go, r158_14U, r158_15_go, r158_15U, r158_16_go, r158_16U, r158_17_go, r158_17U, r158_18_go, r158_18U, f0, f3, d0, hb, a1, l1, hdg, e0, e1, e2, e3, e4, skipR_go, eql_u8, leq_u8]
                  refine ⟨_, _, ?_, .inl ⟨?_, rfl, ?_⟩⟩
                  · simp -implicitDefEqProofs only [upd_go, kept_go, ↓reduceIte, Nat.reduceEqDiff, Nat.reduceLT, reduceCtorEq, f0]
                  · simp [signs]; omega
                  · simp -implicitDefEqProofs only [upd_go, kept_go, ↓reduceIte, Nat.reduceEqDiff, Nat.reduceLT, reduceCtorEq]
              · have e4 : ((c : Int) == 60) = false := by simp; omega
                by_cases h5 : c = 62
                · have e5 : ((c : Int) == 62) = true := by simp; omega
                  by_cases h97 : 97 ≤ c
                  · have l1 : decide ((97 : Int) ≤ (c : Int)) = true := by simp; omega
                    have l2 : decide ((c : Int) ≤ 122) = false := by simp; omega
                    simp -implicitDefEqProofs only [go_sem, ↓reduceIte, Nat.reduceLT, Nat.reduceEqDiff, Nat.reduceAdd, Nat.reduceMul, Nat.reduceLeDiff, Nat.reduceSub, r158_4_go, r158_4U, r158_5_go, r158_5U, r158_6_go, r158_6U, r158_7_go, r158_7U, r158_8_go, r158_8U, r158_9_go, r158_9U, r158_10_go, r158_10U, r158_11_go, r158_11U, r158_12_go, r158_12U, r158_13_go, r158_13U, r158_14_go, r158_14U, r158_15_go, r158_15U, r158_16_go, r158_16U, r158_17_go, r158_17U, r158_18_go, r158_18U, f0, f3, d0, hb, a1, l1, l2, hdg, e0, e1, e2, e3, e4, e5, skipR_go, eql_u8, leq_u8]
                    refine ⟨_, _, ?_, .inl ⟨?_, rfl, ?_⟩⟩
                    · simp -implicitDefEqProofs only [upd_go, kept_go, ↓reduceIte, Nat.reduceEqDiff, Nat.reduceLT, reduceCtorEq, f0]
                    · simp [signs]; omega
                    · simp -implicitDefEqProofs only [upd_go, kept_go, ↓reduceIte, Nat.reduceEqDiff, Nat.reduceLT, reduceCtorEq]
                  · have l1 : decide ((97 : Int) ≤ (c : Int)) = false := by simp; omega
                    simp -implicitDefEqProofs only [go_sem, ↓reduceIte, Nat.reduceLT, Nat.reduceEqDiff, Nat.reduceAdd, Nat.reduceMul, Nat.reduceLeDiff, Nat.reduceSub, r158_4_go, r158_4U, r158_5_go, r158_5U, r158_6_go, r158_6U, r158_7_go, r158_7U, r158_8_go, r158_8U, r158_9_go, r158_9U, r158_10_go, r158_10U, r158_11_go, r158_11U, r158_12_go, r158_12U, r158_13_go, r158_13U, r158_14_go, r158_14U, r158_15_go, r158_15U, r158_16_go, r158_16U, r158_17_go, r158_17U, r158_18_go, r158_18U, f0, f3, d0, hb, a1, l1, hdg, e0, e1, e2, e3, e4, e5, skipR_go, eql_u8, leq_u8]
                    refine ⟨_, _, ?_, .inl ⟨?_, rfl, ?_⟩⟩
                    · simp -implicitDefEqProofs only [upd_go, kept_go, ↓reduceIte, Nat.reduceEqDiff, Nat.reduceLT, reduceCtorEq, f0]
                    · simp [signs]; omega
                    · simp -implicitDefEqProofs only [upd_go, kept_go, ↓reduceIte, Nat.reduceEqDiff, Nat.reduceLT, reduceCtorEq]
                · have e5 : ((c : Int) == 62) = false := by simp; omega
                  by_cases h6 : c = 61
                  · have e6 : ((c : Int) == 61) = true := by simp; omega
                    by_cases h97 : 97 ≤ c
                    · have l1 : decide ((97 : Int) ≤ (c : Int)) = true := by simp; omega
                      have l2 : decide ((c : Int) ≤ 122) = false := by simp; omega
                      simp -implicitDefEqProofs only [go_sem, ↓reduceIte, Nat.reduceLT, Nat.reduceEqDiff, Nat.reduceAdd, Nat.reduceMul, Nat.reduceLeDiff, Nat.reduceSub, r158_4_go, r158_4U, r158_5_go, r158_5U, r158_6_go, r158_6U, r158_7_go, r158_7U, r158_8_go, r158_8U, r158_9_go, r158_9U, r158_10_go, r158_10U, r158_11_go, r158_11U, r158_12_go, r158_12U, r158_13_go, r158_13U, r158_14_go, r158_14U, r158_15_go, r158_15U, r158_16_go, r158_16U, r158_17_go, r158_17U, r158_18_go, r158_18U, f0, f3, d0, hb, a1, l1, l2, hdg, e0, e1, e2, e3, e4, e5, e6, skipR_go, eql_u8, leq_u8]
                      refine ⟨_, _, ?_, .inl ⟨?_, rfl, ?_⟩⟩
                      · simp -implicitDefEqProofs only [upd_go, kept_go, ↓reduceIte, Nat.reduceEqDiff, Nat.reduceLT, reduceCtorEq, f0]
                      · simp [signs]; omega
                      · simp -implicitDefEqProofs only [upd_go, kept_go, ↓reduceIte, Nat.reduceEqDiff, Nat.reduceLT, reduceCtorEq]
                    · have l1 : decide ((97 : Int) ≤ (c : Int)) = false := by simp; omega
                      simp -implicitDefEqProofs only [go_sem, ↓reduceIte, Nat.reduceLT, Nat.reduceEqDiff, Nat.reduceAdd, Nat.reduceMul, Nat.reduceLeDiff, Nat.reduceSub, r158_4_go, r158_4U, r158_5_go, r158_5U, r158_6_go, r158_6U, r158_7_go, r158_7U, r158_8_go, r158_8U, r158_9_go, r158_9U, r158_10_go, r158_10U, r158_11_go, r158_11U, r158_12_go, r158_12U, r158_13_go, r158_13U, r158_14_go, r158_14U, r158_15_go, r158_15U, r158_16_go, r158_16U, r158_17_go, r158_17U, r158_18_go, r158_18U, f0, f3, d0, hb, a1, l1, hdg, e0, e1, e2, e3, e4, e5, e6, skipR_go, eql_u8, leq_u8]
                      refine ⟨_, _, ?_, .inl ⟨?_, rfl, ?_⟩⟩
                      · simp -implicitDefEqProofs only [upd_go, kept_go, ↓reduceIte, Nat.reduceEqDiff, Nat.reduceLT, reduceCtorEq, f0]
                      · simp [signs]; omega
                      · simp -implicitDefEqProofs only [upd_go, kept_go, ↓reduceIte, Nat.reduceEqDiff, Nat.reduceLT, reduceCtorEq]
                  · have e6 : ((c : Int) == 61) = false := by simp; omega
                    by_cases h7 : c = 63
                    · have e7 : ((c : Int) == 63) = true := by simp; omega
                      by_cases h97 : 97 ≤ c
                      · have l1 : decide ((97 : Int) ≤ (c : Int)) = true := by simp; omega
                        have l2 : decide ((c : Int) ≤ 122) = false := by simp; omega
                        simp -implicitDefEqProofs only [go_sem, ↓reduceIte, Nat.reduceLT, Nat.reduceEqDiff, Nat.reduceAdd, Nat.reduceMul, Nat.reduceLeDiff, Nat.reduceSub, r158_4_go, r158_4U, r158_5_go, r158_5U, r158_6_go, r158_6U, r158_7_go, r158_7U, r158_8_go, r158_8U, r158_9_go, r158_9U, r158_10_go, r158_10U, r158_11_go, r158_11U, r158_12_go, r158_12U, r158_13_go, r158_13U, r158_14_go, r158_14U, r158_15_go, r158_15U, r158_16_go, r158_16U, r158_17_go, r158_17U, r158_18_go, r158_18U, f0, f3, d0, hb, a1, l1, l2, hdg, e0, e1, e2, e3, e4, e5, e6, e7, skipR_go, eql_u8, leq_u8]
                        refine ⟨_, _, ?_, .inl ⟨?_, rfl, ?_⟩⟩
                        · simp -implicitDefEqProofs only [upd_go, kept_go, ↓reduceIte, Nat.reduceEqDiff, Nat.reduceLT, reduceCtorEq, f0]
                        · simp [signs]; omega
                        · simp -implicitDefEqProofs only [upd_go, kept_go, ↓reduceIte, Nat.reduceEqDiff, Nat.reduceLT, reduceCtorEq]
                      · have l1 : decide ((97 : Int) ≤ (c : Int)) = false := by simp; omega
                        simp -implicitDefEqProofs only [go_sem, ↓reduceIte, Nat.reduceLT, Nat.reduceEqDiff, Nat.reduceAdd, Nat.reduceMul, Nat.reduceLeDiff, Nat.reduceSub, r158_4_go, r158_4U, r158_5_go, r158_5U, r158_6_go, r158_6U, r158_7_go, r158_7U, r158_8_go, r158_8U, r158_9_go, r158_9U, r158_10_go, r158_10U, r158_11_go, r158_11U, r158_12_go, r158_12U, r158_13_go, r158_13U, r158_14_go, r158_14U, r158_15_go, r158_15U, r158_16_go, r158_16U, r158_17_go, r158_17U, r158_18_go, r158_18U, f0, f3, d0, hb, a1, l1, hdg, e0, e1, e2, e3, e4, e5, e6, e7, skipR_go, eql_u8, leq_u8]
                        refine ⟨_, _, ?_, .inl ⟨?_, rfl, ?_⟩⟩
                        · simp -implicitDefEqProofs only [upd_go, kept_go, ↓reduceIte, Nat.reduceEqDiff, Nat.reduceLT, reduceCtorEq, f0]
                        · simp [signs]; omega
                        · simp -implicitDefEqProofs only [upd_go, kept_go, ↓reduceIte, Nat.reduceEqDiff, Nat.reduceLT, reduceCtorEq]
                    · have e7 : ((c : Int) == 63) = false := by simp; omega
                      by_cases h8 : c = 33
                      · have e8 : ((c : Int) == 33) = true := by simp; omega
                        by_cases h97 : 97 ≤ c
                        · have l1 : decide ((97 : Int) ≤ (c : Int)) = true := by simp; omega
                          have l2 : decide ((c : Int) ≤ 122) = false := by simp; omega
                          simp -implicitDefEqProofs only [go_sem, ↓reduceIte, Nat.reduceLT, Nat.reduceEqDiff, Nat.reduceAdd, Nat.reduceMul, Nat.reduceLeDiff, Nat.reduceSub, r158_4_go, r158_4U, r158_5_go, r158_5U, r158_6_go, r158_6U, r158_7_go, r158_7U, r158_8_go, r158_8U, r158_9_go, r158_9U, r158_10_go, r158_10U, r158_11_go, r158_11U, r158_12_go, r158_12U, r158_13_go, r158_13U, r158_14_go, r158_14U, r158_15_go, r158_15U, r158_16_go, r158_16U, r158_17_go, r158_17U, r158_18_go, r158_18U, f0, f3, d0, hb, a1, l1, l2, hdg, e0, e1, e2, e3, e4, e5, e6, e7, e8, skipR_go, eql_u8, leq_u8]
                          refine ⟨_, _, ?_, .inl ⟨?_, rfl, ?_⟩⟩
                          · simp -implicitDefEqProofs only [upd_go, kept_go, ↓reduceIte, Nat.reduceEqDiff, Nat.reduceLT, reduceCtorEq, f0]
                          · simp [signs]; omega
                          · simp -implicitDefEqProofs only [upd_go, kept_go, ↓reduceIte, Nat.reduceEqDiff, Nat.reduceLT, reduceCtorEq]
                        · have l1 : decide ((97 : Int) ≤ (c : Int)) = false := by simp; omega
                          simp -implicitDefEqProofs only [go_sem, ↓reduceIte, Nat.reduceLT, Nat.reduceEqDiff, Nat.reduceAdd, Nat.reduceMul, Nat.reduceLeDiff, Nat.reduceSub, r158_4_go, r158_4U, r158_5_go, r158_5U, r158_6_go, r158_6U, r158_7_go, r158_7U, r158_8_go, r158_8U, r158_9_go, r158_9U, r158_10_go, r158_10U, r158_11_go, r158_11U, r158_12_go, r158_12U, r158_13_go, r158_13U, r158_14_go, r158_14U, r158_15_go, r158_15U, r158_16_go, r158_16U, r158_17_go, r158_17U, r158_18_go, r158_18U, f0, f3, d0, hb, a1, l1, hdg, e0, e1, e2, e3, e4, e5, e6, e7, e8, skipR_go, eql_u8, leq_u8]
                          refine ⟨_, _, ?_, .inl ⟨?_, rfl, ?_⟩⟩
                          · simp -implicitDefEqProofs only [upd_go, kept_go, ↓reduceIte, Nat.reduceEqDiff, Nat.reduceLT, reduceCtorEq, f0]
                          · simp [signs]; omega
                          · simp -implicitDefEqProofs only [upd_go, kept_go, ↓reduceIte, Nat.reduceEqDiff, Nat.reduceLT, reduceCtorEq]
                      · have e8 : ((c : Int) == 33) = false := by simp; omega
                        by_cases h97 : 97 ≤ c
                        · have l1 : decide ((97 : Int) ≤ (c : Int)) = true := by simp; omega
                          have l2 : decide ((c : Int) ≤ 122) = false := by simp; omega
                          simp -implicitDefEqProofs only [go_sem, ↓reduceIte, Nat.reduceLT, Nat.reduceEqDiff, Nat.reduceAdd, Nat.reduceMul, Nat.reduceLeDiff, Nat.reduceSub, r158_4_go, r158_4U, r158_5_go, r158_5U, r158_6_go, r158_6U, r158_7_go, r158_7U, r158_8_go, r158_8U, r158_9_go, r158_9U, r158_10_go, r158_10U, r158_11_go, r158_11U, r158_12_go, r158_12U, r158_13_go, r158_13U, r158_14_go, r158_14U, r158_15_go, r158_15U, r158_16_go, r158_16U, r158_17_go, r158_17U, r158_18_go, r158_18U, f0, f3, d0, hb, a1, l1, l2, hdg, e0, e1, e2, e3, e4, e5, e6, e7, e8, skipR_go, eql_u8, leq_u8]
                          refine ⟨_, _, ?_, .inr ⟨?_, rfl, ?_⟩⟩
                          · simp -implicitDefEqProofs only [upd_go, kept_go, ↓reduceIte, Nat.reduceEqDiff, Nat.reduceLT, reduceCtorEq, f0]
                          · simp [signs]; omega
                          · simp -implicitDefEqProofs only [upd_go, kept_go, ↓reduceIte, Nat.reduceEqDiff, Nat.reduceLT, reduceCtorEq]
                        · have l1 : decide ((97 : Int) ≤ (c : Int)) = false := by simp; omega
                          simp -implicitDefEqProofs only [go_sem, ↓reduceIte, Nat.reduceLT, Nat.reduceEqDiff, Nat.reduceAdd, Nat.reduceMul, Nat.reduceLeDiff, Nat.reduceSub, r158_4_go, r158_4U, r158_5_go, r158_5U, r158_6_go, r158_6U, r158_7_go, r158_7U, r158_8_go, r158_8U, r158_9_go, r158_9U, r158_10_go, r158_10U, r158_11_go, r158_11U, r158_12_go, r158_12U, r158_13_go, r158_13U, r158_14_go, r158_14U, r158_15_go, r158_15U, r158_16_go, r158_16U, r158_17_go, r158_17U, r158_18_go, r158_18U, f0, f3, d0, hb, a1, l1, hdg, e0, e1, e2, e3, e4, e5, e6, e7, e8, skipR_go, eql_u8, leq_u8]
                          refine ⟨_, _, ?_, .inr ⟨?_, rfl, ?_⟩⟩
                          · simp -implicitDefEqProofs only [upd_go, kept_go, ↓reduceIte, Nat.reduceEqDiff, Nat.reduceLT, reduceCtorEq, f0]
                          · simp [signs]; omega
                          · simp -implicitDefEqProofs only [upd_go, kept_go, ↓reduceIte, Nat.reduceEqDiff, Nat.reduceLT, reduceCtorEq]
end Go.Proofs.YtokieofohmgjdaaGreatDoor
/- The reference's Symbol and CheckText, of any text. -/
namespace Go.Proofs.YtokieofohmgjdaaGreatDoor
open Go Go.Eng
attribute [local congr] andThen_congr fops_congr fdraw_congr afterOp_congr drawF_congr
attribute [-go_sem] List.range_succ
theorem sy_loop (n : Nat) (t : ByteArray) (hsz : t.size ≤ 20) (σ : FState) : ∀ (j fuel i : Nat) (f g : Nat → Value), t.size - i = j → j < fuel → i ≤ t.size → f 0 = .string t → f 3 = .int .i64 (.ofNat i) →
    ∃ f' g', ((∀ k, i ≤ k → k < t.size → symC (byteAt t k) = true) ∧ floop [] (l158_0 (env (n + 1)) none 158) fuel (Sl 5 63 f g []) none σ = .done (.exit 0) (Sl 5 63 f' g' []) none σ) ∨
      ((∃ k, i ≤ k ∧ k < t.size ∧ symC (byteAt t k) = false) ∧ floop [] (l158_0 (env (n + 1)) none 158) fuel (Sl 5 63 f g []) none σ = .done .ret (Sl 5 63 f' g' []) none σ ∧ f' 2 = .bool false) := by
  intro j
  induction j with
  | zero =>
    intro fuel i f g hj hf hi f0 f3
    obtain ⟨fuel, rfl⟩ : ∃ q, fuel = q + 1 := ⟨fuel - 1, by omega⟩
    obtain rfl : i = t.size := by omega
    have d0 : decide (Int.ofNat t.size < Int.ofNat t.size) = false := by simp
    rw [floop_step]
    have h : ∃ f' g', l158_0 (env (n + 1)) none 158 (Sl 5 63 f (kept [] g) []) none σ = .done (.exit 0) (Sl 5 63 f' g' []) none σ := by
      unfold l158_0
      simp -implicitDefEqProofs only [go_sem, ↓reduceIte, Nat.reduceLT, Nat.reduceEqDiff, Nat.reduceAdd, Nat.reduceMul, Nat.reduceLeDiff, Nat.reduceSub, r158_4_go, r158_4U, f0, f3, d0]
      exact ⟨_, _, rfl⟩
    obtain ⟨f', g', e⟩ := h
    refine ⟨f', g', .inl ⟨fun k h1 h2 => by omega, ?_⟩⟩
    simp -implicitDefEqProofs only [Sl_forget, e, andThen_exit]
  | succ j ih =>
    intro fuel i f g hj hf hi f0 f3
    obtain ⟨fuel, rfl⟩ : ∃ q, fuel = q + 1 := ⟨fuel - 1, by omega⟩
    have hlt : i < t.size := by omega
    rw [floop_step]
    obtain ⟨f1, g1, h0, h⟩ := sy_step n i (byteAt t i) t f (kept [] g) σ hlt (by omega) rfl f0 f3
    rcases h with ⟨hc, e, h3⟩ | ⟨hc, e, h2⟩
    · obtain ⟨f2, g2, h⟩ := ih fuel (i + 1) f1 g1 (by omega) (by omega) (by omega) h0 h3
      refine ⟨f2, g2, ?_⟩
      simp -implicitDefEqProofs only [Sl_forget, e, andThen_normal]
      rcases h with ⟨h4, h5⟩ | ⟨⟨k, h4, h5, h6⟩, h7, h8⟩
      · refine .inl ⟨fun k h1 h2 => ?_, h5⟩
        by_cases hk : k = i
        · subst hk; exact hc
        · exact h4 k (by omega) h2
      · exact .inr ⟨⟨k, by omega, h5, h6⟩, h7, h8⟩
    · refine ⟨f1, g1, .inr ⟨⟨i, Nat.le_refl _, hlt, hc⟩, ?_, h2⟩⟩
      simp -implicitDefEqProofs only [Sl_forget, e, andThen_ret]
theorem symB_of {t : ByteArray} (h1 : 1 ≤ t.size) (h2 : t.size ≤ 20) (h3 : digC (byteAt t 0) = false) (h4 : (byteAt t 0 == 45 && decide (1 < t.size) && digC (byteAt t 1)) = false) : symB t = (List.range t.size).all fun i => symC (byteAt t i) := by
  unfold symB
  rw [h3, h4]
  simp [h1, h2]
theorem refSym_go (n : Nat) (t : ByteArray) (σ : FState) : (env (n + 2)).call 158 [.string t] none σ = .ret (.bool (symB t)) none σ := by
  rw [env_call _ 158 _ _ rfl, enter158 _ _ _ _ (by simp), Sl_start]
  unfold run158
  have hkeep : keepOf nls 158 = [] := by kernel_rfl
  by_cases hs1 : t.size < 1
  · have d0 : decide (Int.ofNat t.size < 1) = true := by simp; omega
    have e : symB t = false := by unfold symB; rw [show decide (1 ≤ t.size) = false from decide_eq_false (by omega)]; rfl
    simp -implicitDefEqProofs only [go_sem, ↓reduceIte, Nat.reduceLT, Nat.reduceEqDiff, Nat.reduceAdd, Nat.reduceMul, Nat.reduceLeDiff, Nat.reduceSub, r158_0_go, r158_0U, r158_1_go, r158_1U, r158_2_go, r158_2U, Option.getD_some, List.getElem?_cons_zero, d0, e]
  · have d0 : decide (Int.ofNat t.size < 1) = false := by simp; omega
    by_cases hs2 : t.size > 20
    · have d1 : decide (Int.ofNat t.size > 20) = true := by simp; omega
      have e : symB t = false := by unfold symB; rw [show decide (t.size ≤ 20) = false from decide_eq_false (by omega), Bool.and_false]; rfl
      simp -implicitDefEqProofs only [go_sem, ↓reduceIte, Nat.reduceLT, Nat.reduceEqDiff, Nat.reduceAdd, Nat.reduceMul, Nat.reduceLeDiff, Nat.reduceSub, r158_0_go, r158_0U, r158_1_go, r158_1U, r158_2_go, r158_2U, Option.getD_some, List.getElem?_cons_zero, d0, d1, e]
    · have d1 : decide (Int.ofNat t.size > 20) = false := by simp; omega
      have b0 := findexS_0 t (by omega) σ
      have g0 := digit_go n (byteAt t 0) σ
      cases hd0 : digC (byteAt t 0) with
      | true =>
        rw [hd0] at g0
        have e : symB t = false := by unfold symB; rw [hd0]; simp
        simp -implicitDefEqProofs only [go_sem, ↓reduceIte, Nat.reduceLT, Nat.reduceEqDiff, Nat.reduceAdd, Nat.reduceMul, Nat.reduceLeDiff, Nat.reduceSub, r158_0_go, r158_0U, r158_1_go, r158_1U, r158_2_go, r158_2U, Option.getD_some, List.getElem?_cons_zero, d0, d1, b0, g0, e]
      | false =>
        rw [hd0] at g0
        have fin : ∀ (f g : Nat → Value), f 0 = .string t → f 3 = .int .i64 (.ofNat 0) → (byteAt t 0 == 45 && decide (1 < t.size) && digC (byteAt t 1)) = false → ∃ f' g', (symB t = true ∧ floop [] (l158_0 (env (n + 1)) none 158) bigFuel (Sl 5 63 f g []) none σ = .done (.exit 0) (Sl 5 63 f' g' []) none σ) ∨
            (symB t = false ∧ floop [] (l158_0 (env (n + 1)) none 158) bigFuel (Sl 5 63 f g []) none σ = .done .ret (Sl 5 63 f' g' []) none σ ∧ f' 2 = .bool false) := fun f g f0 f3 h4 => by
          obtain ⟨f', g', h⟩ := sy_loop n t (by omega) σ t.size bigFuel 0 f g (by omega) (by show t.size < 1000000000000; omega) (by omega) f0 f3
          refine ⟨f', g', ?_⟩
          rw [symB_of (by omega) (by omega) hd0 h4]
          rcases h with ⟨h1, h2⟩ | ⟨⟨k, h1, h2, h3⟩, h5, h6⟩
          · exact .inl ⟨List.all_eq_true.2 fun k hk => h1 k (Nat.zero_le _) (List.mem_range.1 hk), h2⟩
          · refine .inr ⟨?_, h5, h6⟩
            rw [← Bool.not_eq_true, List.all_eq_true]
            intro h
            have := h k (List.mem_range.2 h2)
            rw [h3] at this
            cases this
        by_cases h45 : byteAt t 0 = 45
        · have e45 : ((byteAt t 0 : Int) == 45) = true := by simp; omega
          by_cases hs3 : t.size > 1
          · have d3 : decide (Int.ofNat t.size > 1) = true := by simp; omega
            have b1 := findexS_1 t (by omega) σ
            have g1 := digit_go n (byteAt t 1) σ
            cases hd1 : digC (byteAt t 1) with
            | true =>
              rw [hd1] at g1
              have e : symB t = false := by unfold symB; rw [hd1, hd0]; simp [h45, hs3]
              simp -implicitDefEqProofs only [go_sem, ↓reduceIte, Nat.reduceLT, Nat.reduceEqDiff, Nat.reduceAdd, Nat.reduceMul, Nat.reduceLeDiff, Nat.reduceSub, r158_0_go, r158_0U, r158_1_go, r158_1U, r158_2_go, r158_2U, Option.getD_some, List.getElem?_cons_zero, d0, d1, d3, b0, g0, b1, g1, eql_u8, e45, e]
            | false =>
              rw [hd1] at g1
              simp -implicitDefEqProofs only [go_sem, ↓reduceIte, Nat.reduceLT, Nat.reduceEqDiff, Nat.reduceAdd, Nat.reduceMul, Nat.reduceLeDiff, Nat.reduceSub, r158_0_go, r158_0U, r158_1_go, r158_1U, r158_3_go, r158_3U, Option.getD_some, List.getElem?_cons_zero, d0, d1, d3, b0, g0, b1, g1, eql_u8, e45, skipR_go, hkeep]
              generalize hff : upd _ 3 _ = f1
              generalize hgg : upd _ 32 _ = gg1
              obtain ⟨f', g', h⟩ := fin f1 gg1 (by rw [← hff]; simp -implicitDefEqProofs only [upd_go, kept_go, ↓reduceIte, Nat.reduceEqDiff, Nat.reduceLT, reduceCtorEq, Option.getD_some, List.getElem?_cons_zero]) (by rw [← hff]; simp -implicitDefEqProofs only [upd_go, kept_go, ↓reduceIte, Nat.reduceEqDiff, Nat.reduceLT, reduceCtorEq] <;> rfl) (by rw [hd1, Bool.and_false])
              rcases h with ⟨h1, h2⟩ | ⟨h1, h2, h3⟩
              · rw [h2]; simp -implicitDefEqProofs only [go_sem, ↓reduceIte, Nat.reduceLT, Nat.reduceEqDiff, Nat.reduceAdd, Nat.reduceMul, Nat.reduceLeDiff, Nat.reduceSub, r158_19_go, r158_19U, h1]
              · rw [h2]; simp -implicitDefEqProofs only [go_sem, ↓reduceIte, Nat.reduceLT, Nat.reduceEqDiff, Nat.reduceAdd, Nat.reduceMul, Nat.reduceLeDiff, Nat.reduceSub, h1, h3]
          · have d3 : decide (Int.ofNat t.size > 1) = false := by simp; omega
            simp -implicitDefEqProofs only [go_sem, ↓reduceIte, Nat.reduceLT, Nat.reduceEqDiff, Nat.reduceAdd, Nat.reduceMul, Nat.reduceLeDiff, Nat.reduceSub, r158_0_go, r158_0U, r158_1_go, r158_1U, r158_3_go, r158_3U, Option.getD_some, List.getElem?_cons_zero, d0, d1, d3, b0, g0, eql_u8, e45, skipR_go, hkeep]
            generalize hff : upd _ 3 _ = f1
            generalize hgg : upd _ 32 _ = gg1
            obtain ⟨f', g', h⟩ := fin f1 gg1 (by rw [← hff]; simp -implicitDefEqProofs only [upd_go, kept_go, ↓reduceIte, Nat.reduceEqDiff, Nat.reduceLT, reduceCtorEq, Option.getD_some, List.getElem?_cons_zero]) (by rw [← hff]; simp -implicitDefEqProofs only [upd_go, kept_go, ↓reduceIte, Nat.reduceEqDiff, Nat.reduceLT, reduceCtorEq] <;> rfl) (by rw [show decide (1 < t.size) = false from decide_eq_false (by omega)]; simp)
            rcases h with ⟨h1, h2⟩ | ⟨h1, h2, h3⟩
            · rw [h2]; simp -implicitDefEqProofs only [go_sem, ↓reduceIte, Nat.reduceLT, Nat.reduceEqDiff, Nat.reduceAdd, Nat.reduceMul, Nat.reduceLeDiff, Nat.reduceSub, r158_19_go, r158_19U, h1]
            · rw [h2]; simp -implicitDefEqProofs only [go_sem, ↓reduceIte, Nat.reduceLT, Nat.reduceEqDiff, Nat.reduceAdd, Nat.reduceMul, Nat.reduceLeDiff, Nat.reduceSub, h1, h3]
        · have e45 : ((byteAt t 0 : Int) == 45) = false := by simp; omega
          simp -implicitDefEqProofs only [go_sem, ↓reduceIte, Nat.reduceLT, Nat.reduceEqDiff, Nat.reduceAdd, Nat.reduceMul, Nat.reduceLeDiff, Nat.reduceSub, r158_0_go, r158_0U, r158_1_go, r158_1U, r158_3_go, r158_3U, Option.getD_some, List.getElem?_cons_zero, d0, d1, b0, g0, eql_u8, e45, skipR_go, hkeep]
          generalize hff : upd _ 3 _ = f1
          generalize hgg : upd _ 32 _ = gg1
          obtain ⟨f', g', h⟩ := fin f1 gg1 (by rw [← hff]; simp -implicitDefEqProofs only [upd_go, kept_go, ↓reduceIte, Nat.reduceEqDiff, Nat.reduceLT, reduceCtorEq, Option.getD_some, List.getElem?_cons_zero]) (by rw [← hff]; simp -implicitDefEqProofs only [upd_go, kept_go, ↓reduceIte, Nat.reduceEqDiff, Nat.reduceLT, reduceCtorEq] <;> rfl) (by rw [show (byteAt t 0 == 45) = false by simpa using h45]; rfl)
          rcases h with ⟨h1, h2⟩ | ⟨h1, h2, h3⟩
          · rw [h2]; simp -implicitDefEqProofs only [go_sem, ↓reduceIte, Nat.reduceLT, Nat.reduceEqDiff, Nat.reduceAdd, Nat.reduceMul, Nat.reduceLeDiff, Nat.reduceSub, r158_19_go, r158_19U, h1]
          · rw [h2]; simp -implicitDefEqProofs only [go_sem, ↓reduceIte, Nat.reduceLT, Nat.reduceEqDiff, Nat.reduceAdd, Nat.reduceMul, Nat.reduceLeDiff, Nat.reduceSub, h1, h3]
end Go.Proofs.YtokieofohmgjdaaGreatDoor
/- The reference's CheckText and Piece, of anything. -/
namespace Go.Proofs.YtokieofohmgjdaaGreatDoor
open Go Go.Eng
attribute [local congr] andThen_congr fops_congr fdraw_congr afterOp_congr drawF_congr
attribute [-go_sem] List.range_succ
def plainC (c : Nat) : Bool := decide (32 ≤ c) && decide (c ≤ 126)
def plainB (t : ByteArray) : Bool := (List.range t.size).all fun i => plainC (byteAt t i)
def textE (t : ByteArray) : Nat := if 60 < t.size then 8 else if plainB t = true then 0 else 13
theorem ct_step (n i c : Nat) (t : ByteArray) (f g : Nat → Value) (σ : FState) (hi : i < t.size) (hsz : i < 1000000) (hc : byteAt t i = c) (f0 : f 0 = .string t) (f3 : f 3 = .int .i64 (.ofNat i)) :
    ∃ f' g', f' 0 = .string t ∧ ((plainC c = true ∧ l159_0 (env n) none 159 (Sl 4 23 f g []) none σ = .done .normal (Sl 4 23 f' g' []) none σ ∧ f' 3 = .int .i64 (.ofNat (i + 1))) ∨
      (plainC c = false ∧ l159_0 (env n) none 159 (Sl 4 23 f g []) none σ = .done .ret (Sl 4 23 f' g' []) none σ ∧ f' 2 = .int .i64 13)) := by
  have d0 : decide (Int.ofNat i < Int.ofNat t.size) = true := by simp; omega
  have hb := findexS_at t i hi σ
  rw [hc] at hb
  have a1 := add1 i (by omega)
  unfold l159_0
  by_cases h1 : c < 32
  · have l1 : decide ((c : Int) < 32) = true := by simp; omega
    simp -implicitDefEqProofs only [go_sem, ↓reduceIte, Nat.reduceLT, Nat.reduceEqDiff, Nat.reduceAdd, Nat.reduceMul, Nat.reduceLeDiff, Nat.reduceSub, r159_4_go, r159_4U, r159_5_go, r159_5U, r159_6_go, r159_6U, r159_7_go, r159_7U, f0, f3, d0, hb, a1, l1, lss_u8, gtr_u8, skipR_go]
    refine ⟨_, _, ?_, .inr ⟨by unfold plainC; simp; omega, rfl, ?_⟩⟩
    · simp -implicitDefEqProofs only [upd_go, kept_go, ↓reduceIte, Nat.reduceEqDiff, Nat.reduceLT, reduceCtorEq, f0]
    · simp -implicitDefEqProofs only [upd_go, kept_go, ↓reduceIte, Nat.reduceEqDiff, Nat.reduceLT, reduceCtorEq]
  · have l1 : decide ((c : Int) < 32) = false := by simp; omega
    by_cases h2 : 126 < c
    · have l2 : decide ((c : Int) > 126) = true := by simp; omega
      simp -implicitDefEqProofs only [go_sem, ↓reduceIte, Nat.reduceLT, Nat.reduceEqDiff, Nat.reduceAdd, Nat.reduceMul, Nat.reduceLeDiff, Nat.reduceSub, r159_4_go, r159_4U, r159_5_go, r159_5U, r159_6_go, r159_6U, r159_7_go, r159_7U, f0, f3, d0, hb, a1, l1, l2, lss_u8, gtr_u8, skipR_go]
      refine ⟨_, _, ?_, .inr ⟨by unfold plainC; simp; omega, rfl, ?_⟩⟩
      · simp -implicitDefEqProofs only [upd_go, kept_go, ↓reduceIte, Nat.reduceEqDiff, Nat.reduceLT, reduceCtorEq, f0]
      · simp -implicitDefEqProofs only [upd_go, kept_go, ↓reduceIte, Nat.reduceEqDiff, Nat.reduceLT, reduceCtorEq]
    · have l2 : decide ((c : Int) > 126) = false := by simp; omega
      simp -implicitDefEqProofs only [go_sem, ↓reduceIte, Nat.reduceLT, Nat.reduceEqDiff, Nat.reduceAdd, Nat.reduceMul, Nat.reduceLeDiff, Nat.reduceSub, r159_4_go, r159_4U, r159_5_go, r159_5U, r159_6_go, r159_6U, r159_7_go, r159_7U, f0, f3, d0, hb, a1, l1, l2, lss_u8, gtr_u8, skipR_go]
      refine ⟨_, _, ?_, .inl ⟨by unfold plainC; simp; omega, rfl, ?_⟩⟩
      · simp -implicitDefEqProofs only [upd_go, kept_go, ↓reduceIte, Nat.reduceEqDiff, Nat.reduceLT, reduceCtorEq, f0]
      · simp -implicitDefEqProofs only [upd_go, kept_go, ↓reduceIte, Nat.reduceEqDiff, Nat.reduceLT, reduceCtorEq]
theorem ct_loop (n : Nat) (t : ByteArray) (hsz : t.size ≤ 60) (σ : FState) : ∀ (j fuel i : Nat) (f g : Nat → Value), t.size - i = j → j < fuel → i ≤ t.size → f 0 = .string t → f 3 = .int .i64 (.ofNat i) →
    ∃ f' g', ((∀ k, i ≤ k → k < t.size → plainC (byteAt t k) = true) ∧ floop [] (l159_0 (env n) none 159) fuel (Sl 4 23 f g []) none σ = .done (.exit 0) (Sl 4 23 f' g' []) none σ) ∨
      ((∃ k, i ≤ k ∧ k < t.size ∧ plainC (byteAt t k) = false) ∧ floop [] (l159_0 (env n) none 159) fuel (Sl 4 23 f g []) none σ = .done .ret (Sl 4 23 f' g' []) none σ ∧ f' 2 = .int .i64 13) := by
  intro j
  induction j with
  | zero =>
    intro fuel i f g hj hf hi f0 f3
    obtain ⟨fuel, rfl⟩ : ∃ q, fuel = q + 1 := ⟨fuel - 1, by omega⟩
    obtain rfl : i = t.size := by omega
    have d0 : decide (Int.ofNat t.size < Int.ofNat t.size) = false := by simp
    rw [floop_step]
    have h : ∃ f' g', l159_0 (env n) none 159 (Sl 4 23 f (kept [] g) []) none σ = .done (.exit 0) (Sl 4 23 f' g' []) none σ := by
      unfold l159_0
      simp -implicitDefEqProofs only [go_sem, ↓reduceIte, Nat.reduceLT, Nat.reduceEqDiff, Nat.reduceAdd, Nat.reduceMul, Nat.reduceLeDiff, Nat.reduceSub, r159_4_go, r159_4U, f0, f3, d0]
      exact ⟨_, _, rfl⟩
    obtain ⟨f', g', e⟩ := h
    refine ⟨f', g', .inl ⟨fun k h1 h2 => by omega, ?_⟩⟩
    simp -implicitDefEqProofs only [Sl_forget, e, andThen_exit]
  | succ j ih =>
    intro fuel i f g hj hf hi f0 f3
    obtain ⟨fuel, rfl⟩ : ∃ q, fuel = q + 1 := ⟨fuel - 1, by omega⟩
    have hlt : i < t.size := by omega
    rw [floop_step]
    obtain ⟨f1, g1, h0, h⟩ := ct_step n i (byteAt t i) t f (kept [] g) σ hlt (by omega) rfl f0 f3
    rcases h with ⟨hc, e, h3⟩ | ⟨hc, e, h2⟩
    · obtain ⟨f2, g2, h⟩ := ih fuel (i + 1) f1 g1 (by omega) (by omega) (by omega) h0 h3
      refine ⟨f2, g2, ?_⟩
      simp -implicitDefEqProofs only [Sl_forget, e, andThen_normal]
      rcases h with ⟨h4, h5⟩ | ⟨⟨k, h4, h5, h6⟩, h7, h8⟩
      · refine .inl ⟨fun k h1 h2 => ?_, h5⟩
        by_cases hk : k = i
        · subst hk; exact hc
        · exact h4 k (by omega) h2
      · exact .inr ⟨⟨k, by omega, h5, h6⟩, h7, h8⟩
    · refine ⟨f1, g1, .inr ⟨⟨i, Nat.le_refl _, hlt, hc⟩, ?_, h2⟩⟩
      simp -implicitDefEqProofs only [Sl_forget, e, andThen_ret]
theorem refTx_go (n : Nat) (t : ByteArray) (σ : FState) : (env (n + 1)).call 159 [.string t] none σ = .ret (.int .i64 (textE t : Nat)) none σ := by
  rw [env_call _ 159 _ _ rfl, enter159 _ _ _ _ (by simp), Sl_start]
  unfold run159
  have hkeep : keepOf nls 159 = [] := by kernel_rfl
  by_cases hs : 60 < t.size
  · have d0 : decide (Int.ofNat t.size > 60) = true := by simp; omega
    have e : textE t = 8 := by unfold textE; rw [if_pos hs]
    simp -implicitDefEqProofs only [go_sem, ↓reduceIte, Nat.reduceLT, Nat.reduceEqDiff, Nat.reduceAdd, Nat.reduceMul, Nat.reduceLeDiff, Nat.reduceSub, r159_0_go, r159_0U, r159_1_go, r159_1U, r159_2_go, r159_2U, Option.getD_some, List.getElem?_cons_zero, d0, e]
    rfl
  · have d0 : decide (Int.ofNat t.size > 60) = false := by simp; omega
    simp -implicitDefEqProofs only [go_sem, ↓reduceIte, Nat.reduceLT, Nat.reduceEqDiff, Nat.reduceAdd, Nat.reduceMul, Nat.reduceLeDiff, Nat.reduceSub, r159_0_go, r159_0U, r159_1_go, r159_1U, r159_3_go, r159_3U, Option.getD_some, List.getElem?_cons_zero, d0, skipR_go, hkeep]
    generalize hff : upd _ 3 _ = f1
    generalize hgg : upd _ 6 _ = g1
    obtain ⟨f', g', h⟩ := ct_loop n t (by omega) σ t.size bigFuel 0 f1 g1 (by omega) (by show t.size < 1000000000000; omega) (by omega) (by rw [← hff]; simp -implicitDefEqProofs only [upd_go, kept_go, ↓reduceIte, Nat.reduceEqDiff, Nat.reduceLT, reduceCtorEq, Option.getD_some, List.getElem?_cons_zero]) (by rw [← hff]; simp -implicitDefEqProofs only [upd_go, kept_go, ↓reduceIte, Nat.reduceEqDiff, Nat.reduceLT, reduceCtorEq] <;> rfl)
    rcases h with ⟨h1, h2⟩ | ⟨⟨k, h1, h2, h3⟩, h5, h6⟩
    · have e : textE t = 0 := by
        unfold textE
        rw [if_neg hs, if_pos]
        exact List.all_eq_true.2 fun k hk => h1 k (Nat.zero_le _) (List.mem_range.1 hk)
      rw [h2]; simp -implicitDefEqProofs only [go_sem, ↓reduceIte, Nat.reduceLT, Nat.reduceEqDiff, Nat.reduceAdd, Nat.reduceMul, Nat.reduceLeDiff, Nat.reduceSub, r159_8_go, r159_8U, e]
      rfl
    · have e : textE t = 13 := by
        unfold textE
        rw [if_neg hs, if_neg]
        intro h
        have := List.all_eq_true.1 h k (List.mem_range.2 h2)
        rw [h3] at this
        cases this
      rw [h5]; simp -implicitDefEqProofs only [go_sem, ↓reduceIte, Nat.reduceLT, Nat.reduceEqDiff, Nat.reduceAdd, Nat.reduceMul, Nat.reduceLeDiff, Nat.reduceSub, h6, e]
      rfl
/-- Fields that a kind does not use are not zero, or there are not as many parts as there have to be. -/
def formB (k z : Int) (t : ByteArray) (l : Nat) : Bool := (!(k == 1 || k == 2) && z != 0) || (!(k == 3 || k == 4) && decide (t.size ≠ 0)) || (!(k == 5 || k == 6) && decide (0 < l)) || (k == 5 && decide (l ≠ 2))
def pieceE (k z : Int) (t : ByteArray) (l : Nat) : Nat :=
  if 0 ≤ k ∧ k ≤ 6 then
    if formB k z t l = true then 1
    else if k = 1 then (if 0 ≤ z ∧ z ≤ 1 then 0 else 13)
    else if k = 2 then (if -999999999 ≤ z ∧ z ≤ 999999999 then 0 else 13)
    else if k = 3 then (if symB t = true then 0 else 2)
    else if k = 4 then textE t
    else 0
  else 4
theorem empty_text {t : ByteArray} (h : t.size = 0) : t = ⟨#[]⟩ := by
  apply ByteArray.ext
  exact Array.eq_empty_of_size_eq_zero h
theorem full_text {t : ByteArray} (h : t.size ≠ 0) : (t.toList == (⟨#[]⟩ : ByteArray).toList) = false := by
  rw [← Bool.not_eq_true, beq_iff_eq]
  intro h'
  have := toList_inj h'
  subst this
  exact h rfl
theorem piece0 (n : Nat) (z : Int) (t : ByteArray) (l : Nat) (p : Option Addr) (c : Nat) (σ : FState) (hw : Wf σ) :
    Gives ((env (n + 4)).call 130 [.agg #[.int .i64 0, .int .i64 z, .string t, .slice p l c]] none σ) σ fun w _ => w = .int .i64 (pieceE 0 z t l : Nat) := by
  rw [env_call _ 130 _ _ rfl, enter130 _ _ _ _ (by simp), Sl_start]
  unfold run130
  have fin : Ext σ (σ.push (.cells [.int .i64 0, .int .i64 z, .string t, .slice p l c] TD) none) ∧ Wf (σ.push (.cells [.int .i64 0, .int .i64 z, .string t, .slice p l c] TD) none) := ⟨(Ext.refl _).push _ _, hw.push _ _⟩
  have w0 : (decide ((0 : Int) ≤ 0) && decide ((0 : Int) ≤ 6)) = true := by decide
  by_cases hz : z = 0
  · have z1 : (z == 0) = true := by simpa using hz
    by_cases ht : t.size = 0
    · have t1 : (t.toList == (⟨#[]⟩ : ByteArray).toList) = true := by rw [empty_text ht]; exact beq_self_eq_true _
      by_cases hl : 0 < l
      · have l1 : decide (Int.ofNat l > 0) = true := by simp; omega
        have hE : pieceE 0 z t l = 1 := by unfold pieceE formB; simp [hz, ht, hl]
        simp -implicitDefEqProofs only [go_sem, ↓reduceIte, Nat.reduceLT, Nat.reduceEqDiff, Nat.reduceAdd, Nat.reduceMul, Nat.reduceLeDiff, Nat.reduceSub, Int.reduceBEq, r130_0_go, r130_0U, r130_1_go, r130_1U, r130_2_go, r130_2U, r130_3_go, r130_3U, r130_4_go, r130_4U, r130_5_go, r130_5U, r130_6_go, r130_6U, r130_7_go, r130_7U, r130_8_go, r130_8U, r130_9_go, r130_9U, r130_10_go, r130_10U, r130_11_go, r130_11U, r130_12_go, r130_12U, r130_13_go, r130_13U, r130_14_go, r130_14U, r130_15_go, r130_15U, r130_16_go, r130_16U, r130_17_go, r130_17U, r130_18_go, r130_18U, r130_19_go, r130_19U, r130_20_go, r130_20U, Option.getD_some, List.getElem?_cons_zero, within_go, Bool.or_true, Bool.or_false, skipR_go, w0, z1, t1, l1, Bool.not_false, Bool.not_true]
        exact ⟨_, _, rfl, fin.1, fin.2, by rw [hE] <;> rfl⟩
      · have l1 : decide (Int.ofNat l > 0) = false := by simp; omega
        have hE : pieceE 0 z t l = 0 := by unfold pieceE formB; simp [hz, ht, hl]
        simp -implicitDefEqProofs only [go_sem, ↓reduceIte, Nat.reduceLT, Nat.reduceEqDiff, Nat.reduceAdd, Nat.reduceMul, Nat.reduceLeDiff, Nat.reduceSub, Int.reduceBEq, r130_0_go, r130_0U, r130_1_go, r130_1U, r130_2_go, r130_2U, r130_3_go, r130_3U, r130_4_go, r130_4U, r130_5_go, r130_5U, r130_6_go, r130_6U, r130_7_go, r130_7U, r130_8_go, r130_8U, r130_9_go, r130_9U, r130_10_go, r130_10U, r130_11_go, r130_11U, r130_12_go, r130_12U, r130_13_go, r130_13U, r130_14_go, r130_14U, r130_15_go, r130_15U, r130_16_go, r130_16U, r130_17_go, r130_17U, r130_18_go, r130_18U, r130_19_go, r130_19U, r130_20_go, r130_20U, Option.getD_some, List.getElem?_cons_zero, within_go, Bool.or_true, Bool.or_false, skipR_go, w0, z1, t1, l1, Bool.not_false, Bool.not_true]
        exact ⟨_, _, rfl, fin.1, fin.2, by rw [hE] <;> rfl⟩
    · have t1 := full_text ht
      have hE : pieceE 0 z t l = 1 := by unfold pieceE formB; simp [hz, ht]
      simp -implicitDefEqProofs only [go_sem, ↓reduceIte, Nat.reduceLT, Nat.reduceEqDiff, Nat.reduceAdd, Nat.reduceMul, Nat.reduceLeDiff, Nat.reduceSub, Int.reduceBEq, r130_0_go, r130_0U, r130_1_go, r130_1U, r130_2_go, r130_2U, r130_3_go, r130_3U, r130_4_go, r130_4U, r130_5_go, r130_5U, r130_6_go, r130_6U, r130_7_go, r130_7U, r130_8_go, r130_8U, r130_9_go, r130_9U, r130_10_go, r130_10U, r130_11_go, r130_11U, r130_12_go, r130_12U, r130_13_go, r130_13U, r130_14_go, r130_14U, r130_15_go, r130_15U, r130_16_go, r130_16U, r130_17_go, r130_17U, r130_18_go, r130_18U, r130_19_go, r130_19U, r130_20_go, r130_20U, Option.getD_some, List.getElem?_cons_zero, within_go, Bool.or_true, Bool.or_false, skipR_go, w0, z1, t1, Bool.not_false, Bool.not_true]
      exact ⟨_, _, rfl, fin.1, fin.2, by rw [hE] <;> rfl⟩
  · have z1 : (z == 0) = false := by simpa using hz
    have hE : pieceE 0 z t l = 1 := by unfold pieceE formB; simp [hz]
    simp -implicitDefEqProofs only [go_sem, ↓reduceIte, Nat.reduceLT, Nat.reduceEqDiff, Nat.reduceAdd, Nat.reduceMul, Nat.reduceLeDiff, Nat.reduceSub, Int.reduceBEq, r130_0_go, r130_0U, r130_1_go, r130_1U, r130_2_go, r130_2U, r130_3_go, r130_3U, r130_4_go, r130_4U, r130_5_go, r130_5U, r130_6_go, r130_6U, r130_7_go, r130_7U, r130_8_go, r130_8U, r130_9_go, r130_9U, r130_10_go, r130_10U, r130_11_go, r130_11U, r130_12_go, r130_12U, r130_13_go, r130_13U, r130_14_go, r130_14U, r130_15_go, r130_15U, r130_16_go, r130_16U, r130_17_go, r130_17U, r130_18_go, r130_18U, r130_19_go, r130_19U, r130_20_go, r130_20U, Option.getD_some, List.getElem?_cons_zero, within_go, Bool.or_true, Bool.or_false, skipR_go, w0, z1, Bool.not_false, Bool.not_true]
    exact ⟨_, _, rfl, fin.1, fin.2, by rw [hE] <;> rfl⟩
theorem piece1 (n : Nat) (z : Int) (t : ByteArray) (l : Nat) (p : Option Addr) (c : Nat) (σ : FState) (hw : Wf σ) :
    Gives ((env (n + 4)).call 130 [.agg #[.int .i64 1, .int .i64 z, .string t, .slice p l c]] none σ) σ fun w _ => w = .int .i64 (pieceE 1 z t l : Nat) := by
  rw [env_call _ 130 _ _ rfl, enter130 _ _ _ _ (by simp), Sl_start]
  unfold run130
  have fin : Ext σ (σ.push (.cells [.int .i64 1, .int .i64 z, .string t, .slice p l c] TD) none) ∧ Wf (σ.push (.cells [.int .i64 1, .int .i64 z, .string t, .slice p l c] TD) none) := ⟨(Ext.refl _).push _ _, hw.push _ _⟩
  have w0 : (decide ((0 : Int) ≤ 1) && decide ((1 : Int) ≤ 6)) = true := by decide
  by_cases ht : t.size = 0
  · have t1 : (t.toList == (⟨#[]⟩ : ByteArray).toList) = true := by rw [empty_text ht]; exact beq_self_eq_true _
    by_cases hl : 0 < l
    · have l1 : decide (Int.ofNat l > 0) = true := by simp; omega
      have hE : pieceE 1 z t l = 1 := by unfold pieceE formB; simp [ht, hl]
      simp -implicitDefEqProofs only [go_sem, ↓reduceIte, Nat.reduceLT, Nat.reduceEqDiff, Nat.reduceAdd, Nat.reduceMul, Nat.reduceLeDiff, Nat.reduceSub, Int.reduceBEq, r130_0_go, r130_0U, r130_1_go, r130_1U, r130_2_go, r130_2U, r130_3_go, r130_3U, r130_4_go, r130_4U, r130_5_go, r130_5U, r130_6_go, r130_6U, r130_7_go, r130_7U, r130_8_go, r130_8U, r130_9_go, r130_9U, r130_10_go, r130_10U, r130_11_go, r130_11U, r130_12_go, r130_12U, r130_13_go, r130_13U, r130_14_go, r130_14U, r130_15_go, r130_15U, r130_16_go, r130_16U, r130_17_go, r130_17U, r130_18_go, r130_18U, r130_19_go, r130_19U, r130_20_go, r130_20U, Option.getD_some, List.getElem?_cons_zero, within_go, Bool.or_true, Bool.or_false, skipR_go, w0, t1, l1, Bool.not_false, Bool.not_true]
      exact ⟨_, _, rfl, fin.1, fin.2, by rw [hE] <;> rfl⟩
    · have l1 : decide (Int.ofNat l > 0) = false := by simp; omega
      by_cases hr : 0 ≤ z ∧ z ≤ 1
      · have r1 : (decide ((0 : Int) ≤ z) && decide (z ≤ 1)) = true := by simp; omega
        have hE : pieceE 1 z t l = 0 := by unfold pieceE formB; simp [ht, hl, hr]
        simp -implicitDefEqProofs only [go_sem, ↓reduceIte, Nat.reduceLT, Nat.reduceEqDiff, Nat.reduceAdd, Nat.reduceMul, Nat.reduceLeDiff, Nat.reduceSub, Int.reduceBEq, r130_0_go, r130_0U, r130_1_go, r130_1U, r130_2_go, r130_2U, r130_3_go, r130_3U, r130_4_go, r130_4U, r130_5_go, r130_5U, r130_6_go, r130_6U, r130_7_go, r130_7U, r130_8_go, r130_8U, r130_9_go, r130_9U, r130_10_go, r130_10U, r130_11_go, r130_11U, r130_12_go, r130_12U, r130_13_go, r130_13U, r130_14_go, r130_14U, r130_15_go, r130_15U, r130_16_go, r130_16U, r130_17_go, r130_17U, r130_18_go, r130_18U, r130_19_go, r130_19U, r130_20_go, r130_20U, Option.getD_some, List.getElem?_cons_zero, within_go, Bool.or_true, Bool.or_false, skipR_go, w0, t1, l1, r1, Bool.not_false, Bool.not_true]
        exact ⟨_, _, rfl, fin.1, fin.2, by rw [hE] <;> rfl⟩
      · have r1 : (decide ((0 : Int) ≤ z) && decide (z ≤ 1)) = false := by simp; omega
        have hr1 : ¬ (0 ≤ z ∧ z ≤ 1) := hr
        have hE : pieceE 1 z t l = 13 := by unfold pieceE formB; simp [ht, hl]; omega
        simp -implicitDefEqProofs only [go_sem, ↓reduceIte, Nat.reduceLT, Nat.reduceEqDiff, Nat.reduceAdd, Nat.reduceMul, Nat.reduceLeDiff, Nat.reduceSub, Int.reduceBEq, r130_0_go, r130_0U, r130_1_go, r130_1U, r130_2_go, r130_2U, r130_3_go, r130_3U, r130_4_go, r130_4U, r130_5_go, r130_5U, r130_6_go, r130_6U, r130_7_go, r130_7U, r130_8_go, r130_8U, r130_9_go, r130_9U, r130_10_go, r130_10U, r130_11_go, r130_11U, r130_12_go, r130_12U, r130_13_go, r130_13U, r130_14_go, r130_14U, r130_15_go, r130_15U, r130_16_go, r130_16U, r130_17_go, r130_17U, r130_18_go, r130_18U, r130_19_go, r130_19U, r130_20_go, r130_20U, Option.getD_some, List.getElem?_cons_zero, within_go, Bool.or_true, Bool.or_false, skipR_go, w0, t1, l1, r1, Bool.not_false, Bool.not_true]
        exact ⟨_, _, rfl, fin.1, fin.2, by rw [hE] <;> rfl⟩
  · have t1 := full_text ht
    have hE : pieceE 1 z t l = 1 := by unfold pieceE formB; simp [ht]
    simp -implicitDefEqProofs only [go_sem, ↓reduceIte, Nat.reduceLT, Nat.reduceEqDiff, Nat.reduceAdd, Nat.reduceMul, Nat.reduceLeDiff, Nat.reduceSub, Int.reduceBEq, r130_0_go, r130_0U, r130_1_go, r130_1U, r130_2_go, r130_2U, r130_3_go, r130_3U, r130_4_go, r130_4U, r130_5_go, r130_5U, r130_6_go, r130_6U, r130_7_go, r130_7U, r130_8_go, r130_8U, r130_9_go, r130_9U, r130_10_go, r130_10U, r130_11_go, r130_11U, r130_12_go, r130_12U, r130_13_go, r130_13U, r130_14_go, r130_14U, r130_15_go, r130_15U, r130_16_go, r130_16U, r130_17_go, r130_17U, r130_18_go, r130_18U, r130_19_go, r130_19U, r130_20_go, r130_20U, Option.getD_some, List.getElem?_cons_zero, within_go, Bool.or_true, Bool.or_false, skipR_go, w0, t1, Bool.not_false, Bool.not_true]
    exact ⟨_, _, rfl, fin.1, fin.2, by rw [hE] <;> rfl⟩
theorem piece2 (n : Nat) (z : Int) (t : ByteArray) (l : Nat) (p : Option Addr) (c : Nat) (σ : FState) (hw : Wf σ) :
    Gives ((env (n + 4)).call 130 [.agg #[.int .i64 2, .int .i64 z, .string t, .slice p l c]] none σ) σ fun w _ => w = .int .i64 (pieceE 2 z t l : Nat) := by
  rw [env_call _ 130 _ _ rfl, enter130 _ _ _ _ (by simp), Sl_start]
  unfold run130
  have fin : Ext σ (σ.push (.cells [.int .i64 2, .int .i64 z, .string t, .slice p l c] TD) none) ∧ Wf (σ.push (.cells [.int .i64 2, .int .i64 z, .string t, .slice p l c] TD) none) := ⟨(Ext.refl _).push _ _, hw.push _ _⟩
  have w0 : (decide ((0 : Int) ≤ 2) && decide ((2 : Int) ≤ 6)) = true := by decide
  by_cases ht : t.size = 0
  · have t1 : (t.toList == (⟨#[]⟩ : ByteArray).toList) = true := by rw [empty_text ht]; exact beq_self_eq_true _
    by_cases hl : 0 < l
    · have l1 : decide (Int.ofNat l > 0) = true := by simp; omega
      have hE : pieceE 2 z t l = 1 := by unfold pieceE formB; simp [ht, hl]
      simp -implicitDefEqProofs only [go_sem, ↓reduceIte, Nat.reduceLT, Nat.reduceEqDiff, Nat.reduceAdd, Nat.reduceMul, Nat.reduceLeDiff, Nat.reduceSub, Int.reduceBEq, r130_0_go, r130_0U, r130_1_go, r130_1U, r130_2_go, r130_2U, r130_3_go, r130_3U, r130_4_go, r130_4U, r130_5_go, r130_5U, r130_6_go, r130_6U, r130_7_go, r130_7U, r130_8_go, r130_8U, r130_9_go, r130_9U, r130_10_go, r130_10U, r130_11_go, r130_11U, r130_12_go, r130_12U, r130_13_go, r130_13U, r130_14_go, r130_14U, r130_15_go, r130_15U, r130_16_go, r130_16U, r130_17_go, r130_17U, r130_18_go, r130_18U, r130_19_go, r130_19U, r130_20_go, r130_20U, Option.getD_some, List.getElem?_cons_zero, within_go, Bool.or_true, Bool.or_false, skipR_go, w0, t1, l1, Bool.not_false, Bool.not_true]
      exact ⟨_, _, rfl, fin.1, fin.2, by rw [hE] <;> rfl⟩
    · have l1 : decide (Int.ofNat l > 0) = false := by simp; omega
      by_cases hr : -999999999 ≤ z ∧ z ≤ 999999999
      · have r1 : (decide ((-999999999 : Int) ≤ z) && decide (z ≤ 999999999)) = true := by simp; omega
        have hE : pieceE 2 z t l = 0 := by unfold pieceE formB; simp [ht, hl, hr]
        simp -implicitDefEqProofs only [go_sem, ↓reduceIte, Nat.reduceLT, Nat.reduceEqDiff, Nat.reduceAdd, Nat.reduceMul, Nat.reduceLeDiff, Nat.reduceSub, Int.reduceBEq, r130_0_go, r130_0U, r130_1_go, r130_1U, r130_2_go, r130_2U, r130_3_go, r130_3U, r130_4_go, r130_4U, r130_5_go, r130_5U, r130_6_go, r130_6U, r130_7_go, r130_7U, r130_8_go, r130_8U, r130_9_go, r130_9U, r130_10_go, r130_10U, r130_11_go, r130_11U, r130_12_go, r130_12U, r130_13_go, r130_13U, r130_14_go, r130_14U, r130_15_go, r130_15U, r130_16_go, r130_16U, r130_17_go, r130_17U, r130_18_go, r130_18U, r130_19_go, r130_19U, r130_20_go, r130_20U, Option.getD_some, List.getElem?_cons_zero, within_go, Bool.or_true, Bool.or_false, skipR_go, w0, t1, l1, r1, Bool.not_false, Bool.not_true]
        exact ⟨_, _, rfl, fin.1, fin.2, by rw [hE] <;> rfl⟩
      · have r1 : (decide ((-999999999 : Int) ≤ z) && decide (z ≤ 999999999)) = false := by simp; omega
        have hr1 : ¬ (-999999999 ≤ z ∧ z ≤ 999999999) := hr
        have hE : pieceE 2 z t l = 13 := by unfold pieceE formB; simp [ht, hl]; omega
        simp -implicitDefEqProofs only [go_sem, ↓reduceIte, Nat.reduceLT, Nat.reduceEqDiff, Nat.reduceAdd, Nat.reduceMul, Nat.reduceLeDiff, Nat.reduceSub, Int.reduceBEq, r130_0_go, r130_0U, r130_1_go, r130_1U, r130_2_go, r130_2U, r130_3_go, r130_3U, r130_4_go, r130_4U, r130_5_go, r130_5U, r130_6_go, r130_6U, r130_7_go, r130_7U, r130_8_go, r130_8U, r130_9_go, r130_9U, r130_10_go, r130_10U, r130_11_go, r130_11U, r130_12_go, r130_12U, r130_13_go, r130_13U, r130_14_go, r130_14U, r130_15_go, r130_15U, r130_16_go, r130_16U, r130_17_go, r130_17U, r130_18_go, r130_18U, r130_19_go, r130_19U, r130_20_go, r130_20U, Option.getD_some, List.getElem?_cons_zero, within_go, Bool.or_true, Bool.or_false, skipR_go, w0, t1, l1, r1, Bool.not_false, Bool.not_true]
        exact ⟨_, _, rfl, fin.1, fin.2, by rw [hE] <;> rfl⟩
  · have t1 := full_text ht
    have hE : pieceE 2 z t l = 1 := by unfold pieceE formB; simp [ht]
    simp -implicitDefEqProofs only [go_sem, ↓reduceIte, Nat.reduceLT, Nat.reduceEqDiff, Nat.reduceAdd, Nat.reduceMul, Nat.reduceLeDiff, Nat.reduceSub, Int.reduceBEq, r130_0_go, r130_0U, r130_1_go, r130_1U, r130_2_go, r130_2U, r130_3_go, r130_3U, r130_4_go, r130_4U, r130_5_go, r130_5U, r130_6_go, r130_6U, r130_7_go, r130_7U, r130_8_go, r130_8U, r130_9_go, r130_9U, r130_10_go, r130_10U, r130_11_go, r130_11U, r130_12_go, r130_12U, r130_13_go, r130_13U, r130_14_go, r130_14U, r130_15_go, r130_15U, r130_16_go, r130_16U, r130_17_go, r130_17U, r130_18_go, r130_18U, r130_19_go, r130_19U, r130_20_go, r130_20U, Option.getD_some, List.getElem?_cons_zero, within_go, Bool.or_true, Bool.or_false, skipR_go, w0, t1, Bool.not_false, Bool.not_true]
    exact ⟨_, _, rfl, fin.1, fin.2, by rw [hE] <;> rfl⟩
theorem piece3 (n : Nat) (z : Int) (t : ByteArray) (l : Nat) (p : Option Addr) (c : Nat) (σ : FState) (hw : Wf σ) :
    Gives ((env (n + 4)).call 130 [.agg #[.int .i64 3, .int .i64 z, .string t, .slice p l c]] none σ) σ fun w _ => w = .int .i64 (pieceE 3 z t l : Nat) := by
  rw [env_call _ 130 _ _ rfl, enter130 _ _ _ _ (by simp), Sl_start]
  unfold run130
  have fin : Ext σ (σ.push (.cells [.int .i64 3, .int .i64 z, .string t, .slice p l c] TD) none) ∧ Wf (σ.push (.cells [.int .i64 3, .int .i64 z, .string t, .slice p l c] TD) none) := ⟨(Ext.refl _).push _ _, hw.push _ _⟩
  have w0 : (decide ((0 : Int) ≤ 3) && decide ((3 : Int) ≤ 6)) = true := by decide
  by_cases hz : z = 0
  · have z1 : (z == 0) = true := by simpa using hz
    by_cases hl : 0 < l
    · have l1 : decide (Int.ofNat l > 0) = true := by simp; omega
      have hE : pieceE 3 z t l = 1 := by unfold pieceE formB; simp [hz, hl]
      simp -implicitDefEqProofs only [go_sem, ↓reduceIte, Nat.reduceLT, Nat.reduceEqDiff, Nat.reduceAdd, Nat.reduceMul, Nat.reduceLeDiff, Nat.reduceSub, Int.reduceBEq, r130_0_go, r130_0U, r130_1_go, r130_1U, r130_2_go, r130_2U, r130_3_go, r130_3U, r130_4_go, r130_4U, r130_5_go, r130_5U, r130_6_go, r130_6U, r130_7_go, r130_7U, r130_8_go, r130_8U, r130_9_go, r130_9U, r130_10_go, r130_10U, r130_11_go, r130_11U, r130_12_go, r130_12U, r130_13_go, r130_13U, r130_14_go, r130_14U, r130_15_go, r130_15U, r130_16_go, r130_16U, r130_17_go, r130_17U, r130_18_go, r130_18U, r130_19_go, r130_19U, r130_20_go, r130_20U, Option.getD_some, List.getElem?_cons_zero, within_go, Bool.or_true, Bool.or_false, skipR_go, w0, z1, l1, Bool.not_false, Bool.not_true]
      exact ⟨_, _, rfl, fin.1, fin.2, by rw [hE] <;> rfl⟩
    · have l1 : decide (Int.ofNat l > 0) = false := by simp; omega
      cases hs : symB t with
      | true =>
        have hy := fun σ => refSym_go (n + 1) t σ
        rw [hs] at hy
        have hE : pieceE 3 z t l = 0 := by unfold pieceE formB; simp [hz, hl, hs]
        simp -implicitDefEqProofs only [go_sem, ↓reduceIte, Nat.reduceLT, Nat.reduceEqDiff, Nat.reduceAdd, Nat.reduceMul, Nat.reduceLeDiff, Nat.reduceSub, Int.reduceBEq, r130_0_go, r130_0U, r130_1_go, r130_1U, r130_2_go, r130_2U, r130_3_go, r130_3U, r130_4_go, r130_4U, r130_5_go, r130_5U, r130_6_go, r130_6U, r130_7_go, r130_7U, r130_8_go, r130_8U, r130_9_go, r130_9U, r130_10_go, r130_10U, r130_11_go, r130_11U, r130_12_go, r130_12U, r130_13_go, r130_13U, r130_14_go, r130_14U, r130_15_go, r130_15U, r130_16_go, r130_16U, r130_17_go, r130_17U, r130_18_go, r130_18U, r130_19_go, r130_19U, r130_20_go, r130_20U, Option.getD_some, List.getElem?_cons_zero, within_go, Bool.or_true, Bool.or_false, skipR_go, w0, z1, l1, hy, Bool.not_false, Bool.not_true]
        exact ⟨_, _, rfl, fin.1, fin.2, by rw [hE] <;> rfl⟩
      | false =>
        have hy := fun σ => refSym_go (n + 1) t σ
        rw [hs] at hy
        have hE : pieceE 3 z t l = 2 := by unfold pieceE formB; simp [hz, hl, hs]
        simp -implicitDefEqProofs only [go_sem, ↓reduceIte, Nat.reduceLT, Nat.reduceEqDiff, Nat.reduceAdd, Nat.reduceMul, Nat.reduceLeDiff, Nat.reduceSub, Int.reduceBEq, r130_0_go, r130_0U, r130_1_go, r130_1U, r130_2_go, r130_2U, r130_3_go, r130_3U, r130_4_go, r130_4U, r130_5_go, r130_5U, r130_6_go, r130_6U, r130_7_go, r130_7U, r130_8_go, r130_8U, r130_9_go, r130_9U, r130_10_go, r130_10U, r130_11_go, r130_11U, r130_12_go, r130_12U, r130_13_go, r130_13U, r130_14_go, r130_14U, r130_15_go, r130_15U, r130_16_go, r130_16U, r130_17_go, r130_17U, r130_18_go, r130_18U, r130_19_go, r130_19U, r130_20_go, r130_20U, Option.getD_some, List.getElem?_cons_zero, within_go, Bool.or_true, Bool.or_false, skipR_go, w0, z1, l1, hy, Bool.not_false, Bool.not_true]
        exact ⟨_, _, rfl, fin.1, fin.2, by rw [hE] <;> rfl⟩
  · have z1 : (z == 0) = false := by simpa using hz
    have hE : pieceE 3 z t l = 1 := by unfold pieceE formB; simp [hz]
    simp -implicitDefEqProofs only [go_sem, ↓reduceIte, Nat.reduceLT, Nat.reduceEqDiff, Nat.reduceAdd, Nat.reduceMul, Nat.reduceLeDiff, Nat.reduceSub, Int.reduceBEq, r130_0_go, r130_0U, r130_1_go, r130_1U, r130_2_go, r130_2U, r130_3_go, r130_3U, r130_4_go, r130_4U, r130_5_go, r130_5U, r130_6_go, r130_6U, r130_7_go, r130_7U, r130_8_go, r130_8U, r130_9_go, r130_9U, r130_10_go, r130_10U, r130_11_go, r130_11U, r130_12_go, r130_12U, r130_13_go, r130_13U, r130_14_go, r130_14U, r130_15_go, r130_15U, r130_16_go, r130_16U, r130_17_go, r130_17U, r130_18_go, r130_18U, r130_19_go, r130_19U, r130_20_go, r130_20U, Option.getD_some, List.getElem?_cons_zero, within_go, Bool.or_true, Bool.or_false, skipR_go, w0, z1, Bool.not_false, Bool.not_true]
    exact ⟨_, _, rfl, fin.1, fin.2, by rw [hE] <;> rfl⟩
theorem piece4 (n : Nat) (z : Int) (t : ByteArray) (l : Nat) (p : Option Addr) (c : Nat) (σ : FState) (hw : Wf σ) :
    Gives ((env (n + 4)).call 130 [.agg #[.int .i64 4, .int .i64 z, .string t, .slice p l c]] none σ) σ fun w _ => w = .int .i64 (pieceE 4 z t l : Nat) := by
  rw [env_call _ 130 _ _ rfl, enter130 _ _ _ _ (by simp), Sl_start]
  unfold run130
  have fin : Ext σ (σ.push (.cells [.int .i64 4, .int .i64 z, .string t, .slice p l c] TD) none) ∧ Wf (σ.push (.cells [.int .i64 4, .int .i64 z, .string t, .slice p l c] TD) none) := ⟨(Ext.refl _).push _ _, hw.push _ _⟩
  have w0 : (decide ((0 : Int) ≤ 4) && decide ((4 : Int) ≤ 6)) = true := by decide
  by_cases hz : z = 0
  · have z1 : (z == 0) = true := by simpa using hz
    by_cases hl : 0 < l
    · have l1 : decide (Int.ofNat l > 0) = true := by simp; omega
      have hE : pieceE 4 z t l = 1 := by unfold pieceE formB; simp [hz, hl]
      simp -implicitDefEqProofs only [go_sem, ↓reduceIte, Nat.reduceLT, Nat.reduceEqDiff, Nat.reduceAdd, Nat.reduceMul, Nat.reduceLeDiff, Nat.reduceSub, Int.reduceBEq, r130_0_go, r130_0U, r130_1_go, r130_1U, r130_2_go, r130_2U, r130_3_go, r130_3U, r130_4_go, r130_4U, r130_5_go, r130_5U, r130_6_go, r130_6U, r130_7_go, r130_7U, r130_8_go, r130_8U, r130_9_go, r130_9U, r130_10_go, r130_10U, r130_11_go, r130_11U, r130_12_go, r130_12U, r130_13_go, r130_13U, r130_14_go, r130_14U, r130_15_go, r130_15U, r130_16_go, r130_16U, r130_17_go, r130_17U, r130_18_go, r130_18U, r130_19_go, r130_19U, r130_20_go, r130_20U, Option.getD_some, List.getElem?_cons_zero, within_go, Bool.or_true, Bool.or_false, skipR_go, w0, z1, l1, Bool.not_false, Bool.not_true]
      exact ⟨_, _, rfl, fin.1, fin.2, by rw [hE] <;> rfl⟩
    · have l1 : decide (Int.ofNat l > 0) = false := by simp; omega
      have hy := fun σ => refTx_go (n + 2) t σ
      have hE : pieceE 4 z t l = textE t := by unfold pieceE formB; simp [hz, hl]
      simp -implicitDefEqProofs only [go_sem, ↓reduceIte, Nat.reduceLT, Nat.reduceEqDiff, Nat.reduceAdd, Nat.reduceMul, Nat.reduceLeDiff, Nat.reduceSub, Int.reduceBEq, r130_0_go, r130_0U, r130_1_go, r130_1U, r130_2_go, r130_2U, r130_3_go, r130_3U, r130_4_go, r130_4U, r130_5_go, r130_5U, r130_6_go, r130_6U, r130_7_go, r130_7U, r130_8_go, r130_8U, r130_9_go, r130_9U, r130_10_go, r130_10U, r130_11_go, r130_11U, r130_12_go, r130_12U, r130_13_go, r130_13U, r130_14_go, r130_14U, r130_15_go, r130_15U, r130_16_go, r130_16U, r130_17_go, r130_17U, r130_18_go, r130_18U, r130_19_go, r130_19U, r130_20_go, r130_20U, Option.getD_some, List.getElem?_cons_zero, within_go, Bool.or_true, Bool.or_false, skipR_go, w0, z1, l1, hy, Bool.not_false, Bool.not_true]
      exact ⟨_, _, rfl, fin.1, fin.2, by rw [hE] <;> rfl⟩
  · have z1 : (z == 0) = false := by simpa using hz
    have hE : pieceE 4 z t l = 1 := by unfold pieceE formB; simp [hz]
    simp -implicitDefEqProofs only [go_sem, ↓reduceIte, Nat.reduceLT, Nat.reduceEqDiff, Nat.reduceAdd, Nat.reduceMul, Nat.reduceLeDiff, Nat.reduceSub, Int.reduceBEq, r130_0_go, r130_0U, r130_1_go, r130_1U, r130_2_go, r130_2U, r130_3_go, r130_3U, r130_4_go, r130_4U, r130_5_go, r130_5U, r130_6_go, r130_6U, r130_7_go, r130_7U, r130_8_go, r130_8U, r130_9_go, r130_9U, r130_10_go, r130_10U, r130_11_go, r130_11U, r130_12_go, r130_12U, r130_13_go, r130_13U, r130_14_go, r130_14U, r130_15_go, r130_15U, r130_16_go, r130_16U, r130_17_go, r130_17U, r130_18_go, r130_18U, r130_19_go, r130_19U, r130_20_go, r130_20U, Option.getD_some, List.getElem?_cons_zero, within_go, Bool.or_true, Bool.or_false, skipR_go, w0, z1, Bool.not_false, Bool.not_true]
    exact ⟨_, _, rfl, fin.1, fin.2, by rw [hE] <;> rfl⟩
theorem piece5 (n : Nat) (z : Int) (t : ByteArray) (l : Nat) (p : Option Addr) (c : Nat) (σ : FState) (hw : Wf σ) :
    Gives ((env (n + 4)).call 130 [.agg #[.int .i64 5, .int .i64 z, .string t, .slice p l c]] none σ) σ fun w _ => w = .int .i64 (pieceE 5 z t l : Nat) := by
  rw [env_call _ 130 _ _ rfl, enter130 _ _ _ _ (by simp), Sl_start]
  unfold run130
  have fin : Ext σ (σ.push (.cells [.int .i64 5, .int .i64 z, .string t, .slice p l c] TD) none) ∧ Wf (σ.push (.cells [.int .i64 5, .int .i64 z, .string t, .slice p l c] TD) none) := ⟨(Ext.refl _).push _ _, hw.push _ _⟩
  have w0 : (decide ((0 : Int) ≤ 5) && decide ((5 : Int) ≤ 6)) = true := by decide
  by_cases hz : z = 0
  · have z1 : (z == 0) = true := by simpa using hz
    by_cases ht : t.size = 0
    · have t1 : (t.toList == (⟨#[]⟩ : ByteArray).toList) = true := by rw [empty_text ht]; exact beq_self_eq_true _
      by_cases hl : l = 2
      · have l1 : (Int.ofNat l == 2) = true := by simp; omega
        have hE : pieceE 5 z t l = 0 := by unfold pieceE formB; simp [hz, ht, hl]
        simp -implicitDefEqProofs only [go_sem, ↓reduceIte, Nat.reduceLT, Nat.reduceEqDiff, Nat.reduceAdd, Nat.reduceMul, Nat.reduceLeDiff, Nat.reduceSub, Int.reduceBEq, r130_0_go, r130_0U, r130_1_go, r130_1U, r130_2_go, r130_2U, r130_3_go, r130_3U, r130_4_go, r130_4U, r130_5_go, r130_5U, r130_6_go, r130_6U, r130_7_go, r130_7U, r130_8_go, r130_8U, r130_9_go, r130_9U, r130_10_go, r130_10U, r130_11_go, r130_11U, r130_12_go, r130_12U, r130_13_go, r130_13U, r130_14_go, r130_14U, r130_15_go, r130_15U, r130_16_go, r130_16U, r130_17_go, r130_17U, r130_18_go, r130_18U, r130_19_go, r130_19U, r130_20_go, r130_20U, Option.getD_some, List.getElem?_cons_zero, within_go, Bool.or_true, Bool.or_false, skipR_go, w0, z1, t1, l1, Bool.not_false, Bool.not_true]
        exact ⟨_, _, rfl, fin.1, fin.2, by rw [hE] <;> rfl⟩
      · have l1 : (Int.ofNat l == 2) = false := by simp; omega
        have hE : pieceE 5 z t l = 1 := by unfold pieceE formB; simp [hz, ht, hl]
        simp -implicitDefEqProofs only [go_sem, ↓reduceIte, Nat.reduceLT, Nat.reduceEqDiff, Nat.reduceAdd, Nat.reduceMul, Nat.reduceLeDiff, Nat.reduceSub, Int.reduceBEq, r130_0_go, r130_0U, r130_1_go, r130_1U, r130_2_go, r130_2U, r130_3_go, r130_3U, r130_4_go, r130_4U, r130_5_go, r130_5U, r130_6_go, r130_6U, r130_7_go, r130_7U, r130_8_go, r130_8U, r130_9_go, r130_9U, r130_10_go, r130_10U, r130_11_go, r130_11U, r130_12_go, r130_12U, r130_13_go, r130_13U, r130_14_go, r130_14U, r130_15_go, r130_15U, r130_16_go, r130_16U, r130_17_go, r130_17U, r130_18_go, r130_18U, r130_19_go, r130_19U, r130_20_go, r130_20U, Option.getD_some, List.getElem?_cons_zero, within_go, Bool.or_true, Bool.or_false, skipR_go, w0, z1, t1, l1, Bool.not_false, Bool.not_true]
        exact ⟨_, _, rfl, fin.1, fin.2, by rw [hE] <;> rfl⟩
    · have t1 := full_text ht
      have hE : pieceE 5 z t l = 1 := by unfold pieceE formB; simp [hz, ht]
      simp -implicitDefEqProofs only [go_sem, ↓reduceIte, Nat.reduceLT, Nat.reduceEqDiff, Nat.reduceAdd, Nat.reduceMul, Nat.reduceLeDiff, Nat.reduceSub, Int.reduceBEq, r130_0_go, r130_0U, r130_1_go, r130_1U, r130_2_go, r130_2U, r130_3_go, r130_3U, r130_4_go, r130_4U, r130_5_go, r130_5U, r130_6_go, r130_6U, r130_7_go, r130_7U, r130_8_go, r130_8U, r130_9_go, r130_9U, r130_10_go, r130_10U, r130_11_go, r130_11U, r130_12_go, r130_12U, r130_13_go, r130_13U, r130_14_go, r130_14U, r130_15_go, r130_15U, r130_16_go, r130_16U, r130_17_go, r130_17U, r130_18_go, r130_18U, r130_19_go, r130_19U, r130_20_go, r130_20U, Option.getD_some, List.getElem?_cons_zero, within_go, Bool.or_true, Bool.or_false, skipR_go, w0, z1, t1, Bool.not_false, Bool.not_true]
      exact ⟨_, _, rfl, fin.1, fin.2, by rw [hE] <;> rfl⟩
  · have z1 : (z == 0) = false := by simpa using hz
    have hE : pieceE 5 z t l = 1 := by unfold pieceE formB; simp [hz]
    simp -implicitDefEqProofs only [go_sem, ↓reduceIte, Nat.reduceLT, Nat.reduceEqDiff, Nat.reduceAdd, Nat.reduceMul, Nat.reduceLeDiff, Nat.reduceSub, Int.reduceBEq, r130_0_go, r130_0U, r130_1_go, r130_1U, r130_2_go, r130_2U, r130_3_go, r130_3U, r130_4_go, r130_4U, r130_5_go, r130_5U, r130_6_go, r130_6U, r130_7_go, r130_7U, r130_8_go, r130_8U, r130_9_go, r130_9U, r130_10_go, r130_10U, r130_11_go, r130_11U, r130_12_go, r130_12U, r130_13_go, r130_13U, r130_14_go, r130_14U, r130_15_go, r130_15U, r130_16_go, r130_16U, r130_17_go, r130_17U, r130_18_go, r130_18U, r130_19_go, r130_19U, r130_20_go, r130_20U, Option.getD_some, List.getElem?_cons_zero, within_go, Bool.or_true, Bool.or_false, skipR_go, w0, z1, Bool.not_false, Bool.not_true]
    exact ⟨_, _, rfl, fin.1, fin.2, by rw [hE] <;> rfl⟩
theorem piece6 (n : Nat) (z : Int) (t : ByteArray) (l : Nat) (p : Option Addr) (c : Nat) (σ : FState) (hw : Wf σ) :
    Gives ((env (n + 4)).call 130 [.agg #[.int .i64 6, .int .i64 z, .string t, .slice p l c]] none σ) σ fun w _ => w = .int .i64 (pieceE 6 z t l : Nat) := by
  rw [env_call _ 130 _ _ rfl, enter130 _ _ _ _ (by simp), Sl_start]
  unfold run130
  have fin : Ext σ (σ.push (.cells [.int .i64 6, .int .i64 z, .string t, .slice p l c] TD) none) ∧ Wf (σ.push (.cells [.int .i64 6, .int .i64 z, .string t, .slice p l c] TD) none) := ⟨(Ext.refl _).push _ _, hw.push _ _⟩
  have w0 : (decide ((0 : Int) ≤ 6) && decide ((6 : Int) ≤ 6)) = true := by decide
  by_cases hz : z = 0
  · have z1 : (z == 0) = true := by simpa using hz
    by_cases ht : t.size = 0
    · have t1 : (t.toList == (⟨#[]⟩ : ByteArray).toList) = true := by rw [empty_text ht]; exact beq_self_eq_true _
      have hE : pieceE 6 z t l = 0 := by unfold pieceE formB; simp [hz, ht]
      simp -implicitDefEqProofs only [go_sem, ↓reduceIte, Nat.reduceLT, Nat.reduceEqDiff, Nat.reduceAdd, Nat.reduceMul, Nat.reduceLeDiff, Nat.reduceSub, Int.reduceBEq, r130_0_go, r130_0U, r130_1_go, r130_1U, r130_2_go, r130_2U, r130_3_go, r130_3U, r130_4_go, r130_4U, r130_5_go, r130_5U, r130_6_go, r130_6U, r130_7_go, r130_7U, r130_8_go, r130_8U, r130_9_go, r130_9U, r130_10_go, r130_10U, r130_11_go, r130_11U, r130_12_go, r130_12U, r130_13_go, r130_13U, r130_14_go, r130_14U, r130_15_go, r130_15U, r130_16_go, r130_16U, r130_17_go, r130_17U, r130_18_go, r130_18U, r130_19_go, r130_19U, r130_20_go, r130_20U, Option.getD_some, List.getElem?_cons_zero, within_go, Bool.or_true, Bool.or_false, skipR_go, w0, z1, t1, Bool.not_false, Bool.not_true]
      exact ⟨_, _, rfl, fin.1, fin.2, by rw [hE] <;> rfl⟩
    · have t1 := full_text ht
      have hE : pieceE 6 z t l = 1 := by unfold pieceE formB; simp [hz, ht]
      simp -implicitDefEqProofs only [go_sem, ↓reduceIte, Nat.reduceLT, Nat.reduceEqDiff, Nat.reduceAdd, Nat.reduceMul, Nat.reduceLeDiff, Nat.reduceSub, Int.reduceBEq, r130_0_go, r130_0U, r130_1_go, r130_1U, r130_2_go, r130_2U, r130_3_go, r130_3U, r130_4_go, r130_4U, r130_5_go, r130_5U, r130_6_go, r130_6U, r130_7_go, r130_7U, r130_8_go, r130_8U, r130_9_go, r130_9U, r130_10_go, r130_10U, r130_11_go, r130_11U, r130_12_go, r130_12U, r130_13_go, r130_13U, r130_14_go, r130_14U, r130_15_go, r130_15U, r130_16_go, r130_16U, r130_17_go, r130_17U, r130_18_go, r130_18U, r130_19_go, r130_19U, r130_20_go, r130_20U, Option.getD_some, List.getElem?_cons_zero, within_go, Bool.or_true, Bool.or_false, skipR_go, w0, z1, t1, Bool.not_false, Bool.not_true]
      exact ⟨_, _, rfl, fin.1, fin.2, by rw [hE] <;> rfl⟩
  · have z1 : (z == 0) = false := by simpa using hz
    have hE : pieceE 6 z t l = 1 := by unfold pieceE formB; simp [hz]
    simp -implicitDefEqProofs only [go_sem, ↓reduceIte, Nat.reduceLT, Nat.reduceEqDiff, Nat.reduceAdd, Nat.reduceMul, Nat.reduceLeDiff, Nat.reduceSub, Int.reduceBEq, r130_0_go, r130_0U, r130_1_go, r130_1U, r130_2_go, r130_2U, r130_3_go, r130_3U, r130_4_go, r130_4U, r130_5_go, r130_5U, r130_6_go, r130_6U, r130_7_go, r130_7U, r130_8_go, r130_8U, r130_9_go, r130_9U, r130_10_go, r130_10U, r130_11_go, r130_11U, r130_12_go, r130_12U, r130_13_go, r130_13U, r130_14_go, r130_14U, r130_15_go, r130_15U, r130_16_go, r130_16U, r130_17_go, r130_17U, r130_18_go, r130_18U, r130_19_go, r130_19U, r130_20_go, r130_20U, Option.getD_some, List.getElem?_cons_zero, within_go, Bool.or_true, Bool.or_false, skipR_go, w0, z1, Bool.not_false, Bool.not_true]
    exact ⟨_, _, rfl, fin.1, fin.2, by rw [hE] <;> rfl⟩
theorem pieceAny_go (n : Nat) (k z : Int) (t : ByteArray) (l : Nat) (p : Option Addr) (c : Nat) (σ : FState) (hw : Wf σ) :
    Gives ((env (n + 4)).call 130 [.agg #[.int .i64 k, .int .i64 z, .string t, .slice p l c]] none σ) σ fun w _ => w = .int .i64 (pieceE k z t l : Nat) := by
  by_cases hk : 0 ≤ k ∧ k ≤ 6
  · have : k = 0 ∨ k = 1 ∨ k = 2 ∨ k = 3 ∨ k = 4 ∨ k = 5 ∨ k = 6 := by omega
    rcases this with rfl | rfl | rfl | rfl | rfl | rfl | rfl
    · exact piece0 n z t l p c σ hw
    · exact piece1 n z t l p c σ hw
    · exact piece2 n z t l p c σ hw
    · exact piece3 n z t l p c σ hw
    · exact piece4 n z t l p c σ hw
    · exact piece5 n z t l p c σ hw
    · exact piece6 n z t l p c σ hw
  · have hE : pieceE k z t l = 4 := by unfold pieceE; rw [if_neg hk]
    have w0 : (decide ((0 : Int) ≤ k) && decide (k ≤ 6)) = false := by simp; omega
    rw [env_call _ 130 _ _ rfl, enter130 _ _ _ _ (by simp), Sl_start]
    unfold run130
    simp -implicitDefEqProofs only [go_sem, ↓reduceIte, Nat.reduceLT, Nat.reduceEqDiff, Nat.reduceAdd, Nat.reduceMul, Nat.reduceLeDiff, Nat.reduceSub, r130_0_go, r130_0U, r130_1_go, r130_1U, r130_2_go, r130_2U, Option.getD_some, List.getElem?_cons_zero, within_go, w0, Bool.not_false]
    exact ⟨_, _, rfl, (Ext.refl _).push _ _, hw.push _ _, by rw [hE] <;> rfl⟩
end Go.Proofs.YtokieofohmgjdaaGreatDoor
/- The reference's Check. -/
namespace Go.Proofs.YtokieofohmgjdaaGreatDoor
open Go Go.Eng
attribute [local congr] andThen_congr fops_congr fdraw_congr afterOp_congr drawF_congr
attribute [-go_sem] List.range_succ
/-- What the reference asks of a datum. -/
structure RefOK (N : Nat) (d : D) : Prop where
  deep : d.deep ≤ N
  whole : ∀ x ∈ d.pieces [], x.2.parts.length < 1000 ∧ WholeD x.2
  count : d.count ≤ 2000
section
variable (R : Nat → Prop) (d : D) (lv : List Value) (h4 : lv.length = 4) (σ : FState) (hw : Wf σ) (hL : LaidR R σ (.agg lv.toArray) d)
include h4 hw hL
end
end Go.Proofs.YtokieofohmgjdaaGreatDoor
/- The reference's Check, of any data that are not too large. -/
namespace Go.Proofs.YtokieofohmgjdaaGreatDoor
open Go Go.Eng
attribute [local congr] andThen_congr fops_congr fdraw_congr afterOp_congr drawF_congr
attribute [-go_sem] List.range_succ
mutual
/-- The first error of the pieces. -/
def firstE : D → Nat
  | .mk k z t ds => if pieceE k z t ds.length = 0 then firstEs ds else pieceE k z t ds.length
def firstEs : List D → Nat
  | [] => 0
  | d :: ds => if firstE d = 0 then firstEs ds else firstE d
end
mutual
theorem deep_le_count : ∀ d : D, d.deep ≤ d.count
  | .mk k z t ds => by
    rw [D.deep, D.count]
    have := deeps_le_counts ds
    omega
theorem deeps_le_counts : ∀ ds : List D, D.deeps ds ≤ D.counts ds
  | [] => by simp [D.deeps]
  | d :: ds => by
    rw [D.deeps, D.counts]
    have := deep_le_count d
    have := deeps_le_counts ds
    omega
end
theorem counts_mem : ∀ {ds : List D} {d : D}, d ∈ ds → d.count ≤ D.counts ds
  | d0 :: ds, d, h => by
    rw [D.counts]
    rcases List.mem_cons.1 h with rfl | h
    · omega
    · have := counts_mem h
      omega
theorem rpA_loop (m : Nat) (R : Nat → Prop) (ds : List D) (p : Option Addr) (c bx : Nat) (k z : Int) (t : ByteArray) (hds : ds.length < 1000000)
    (hO : ∀ (i : Nat) (d : D), ds[i]? = some d → ∀ v σ', Wf σ' → LaidR R σ' v d → Gives ((env m).call 81 [v] none σ') σ' fun r _ => r = .int .i64 (firstE d : Nat)) :
    ∀ (j fuel i : Nat) (f g : Nat → Value) (σ : FState), ds.length - i = j → j < fuel → i ≤ ds.length → Wf σ → LaidRE R σ p 0 ds → σ.cells bx = some [.int .i64 k, .int .i64 z, .string t, .slice p ds.length c] → f 1 = .pointer (some ⟨bx, 0, none⟩) → f 4 = .int .i64 (.ofNat i) →
      ∃ f' g' σ', Ext σ σ' ∧ Wf σ' ∧ ((firstEs (ds.drop i) = 0 ∧ floop [] (l81_0 (env m) none 81) fuel (Sl 6 27 f g []) none σ = .done (.exit 0) (Sl 6 27 f' g' []) none σ') ∨
        (firstEs (ds.drop i) ≠ 0 ∧ floop [] (l81_0 (env m) none 81) fuel (Sl 6 27 f g []) none σ = .done .ret (Sl 6 27 f' g' []) none σ' ∧ f' 2 = .int .i64 (firstEs (ds.drop i) : Nat))) := by
  intro j
  induction j with
  | zero =>
    intro fuel i f g σ hj hf hi hw hE hc f1 f4
    obtain ⟨fuel, rfl⟩ : ∃ q, fuel = q + 1 := ⟨fuel - 1, by omega⟩
    obtain rfl : i = ds.length := by omega
    have d0 : decide (Int.ofNat ds.length < Int.ofNat ds.length) = false := by simp
    rw [floop_step, List.drop_length]
    unfold l81_0
    simp -implicitDefEqProofs only [go_sem, ↓reduceIte, Nat.reduceLT, Nat.reduceEqDiff, Nat.reduceAdd, Nat.reduceMul, Nat.reduceLeDiff, Nat.reduceSub, r81_5_go, r81_5U, f1, f4, hc, d0]
    exact ⟨_, _, _, Ext.refl _, hw, .inl ⟨rfl, rfl⟩⟩
  | succ j ih =>
    intro fuel i f g σ hj hf hi hw hE hc f1 f4
    obtain ⟨fuel, rfl⟩ : ∃ q, fuel = q + 1 := ⟨fuel - 1, by omega⟩
    have hlt : i < ds.length := by omega
    have d0 : decide (Int.ofNat i < Int.ofNat ds.length) = true := by simp; omega
    have hd : ds[i]? = some ds[i] := List.getElem?_eq_getElem hlt
    obtain ⟨b, off, cs, rfl, hRb, hcs, hle, hL⟩ := LaidRE.get hE hd
    rw [Nat.zero_add] at hle hL
    obtain ⟨_, σ3, e3, x3, hw3, rfl⟩ := hO i ds[i] hd _ σ hw hL
    have a1 := add1 i (by omega)
    rw [List.drop_eq_getElem_cons hlt, firstEs]
    by_cases he : firstE ds[i] = 0
    · rw [if_pos he]
      have z0 : (((firstE ds[i] : Nat) : Int) == 0) = true := by rw [he]; rfl
      have ih' := fun f g h1 h4 => ih fuel (i + 1) f g σ3 (by omega) (by omega) (by omega) hw3 (hE.keep fun b cs hb hc => ⟨(x3.cells (hw.cells hc)).trans hc, hb⟩) ((x3.cells (hw.cells hc)).trans hc) h1 h4
      unfold l81_0 at ih'
      rw [floop_step]
      unfold l81_0
      simp -implicitDefEqProofs only [go_sem, ↓reduceIte, Nat.reduceLT, Nat.reduceEqDiff, Nat.reduceAdd, Nat.reduceMul, Nat.reduceLeDiff, Nat.reduceSub, r81_5_go, r81_5U, r81_6_go, r81_6U, r81_7_go, r81_7U, r81_8_go, r81_8U, f1, f4, hc, d0, hlt, hcs, hle, e3, z0, a1, skipR_go]
      generalize hff : upd _ 4 _ = f2
      generalize hgg : upd _ 17 _ = g2
      obtain ⟨f3, g3, σ4, x4, hw4, h⟩ := ih' f2 g2 (by rw [← hff]; simp -implicitDefEqProofs only [upd_go, kept_go, ↓reduceIte, Nat.reduceEqDiff, Nat.reduceLT, reduceCtorEq, f1]) (by rw [← hff]; simp -implicitDefEqProofs only [upd_go, kept_go, ↓reduceIte, Nat.reduceEqDiff, Nat.reduceLT, reduceCtorEq])
      exact ⟨f3, g3, σ4, x3.trans x4, hw4, h⟩
    · rw [if_neg he]
      have z0 : (((firstE ds[i] : Nat) : Int) == 0) = false := by simp; omega
      rw [floop_step]
      unfold l81_0
      simp -implicitDefEqProofs only [go_sem, ↓reduceIte, Nat.reduceLT, Nat.reduceEqDiff, Nat.reduceAdd, Nat.reduceMul, Nat.reduceLeDiff, Nat.reduceSub, r81_5_go, r81_5U, r81_7_go, r81_7U, r81_8_go, r81_8U, r81_9_go, r81_9U, f1, f4, hc, d0, hlt, hcs, hle, e3, z0, a1, skipR_go]
      exact ⟨_, _, _, x3, hw3, .inr ⟨he, rfl, by simp -implicitDefEqProofs only [upd_go, kept_go, ↓reduceIte, Nat.reduceEqDiff, Nat.reduceLT, reduceCtorEq]⟩⟩
theorem refAny_go (n : Nat) (R : Nat → Prop) : ∀ (N : Nat) (d : D) (v : Value) (σ : FState), d.deep ≤ N → d.count ≤ 100000 → Wf σ → LaidR R σ v d →
    Gives ((env (n + 4 + N)).call 81 [v] none σ) σ fun r _ => r = .int .i64 (firstE d : Nat) := by
  intro N
  induction N with
  | zero =>
    intro d v σ hN
    obtain ⟨k, z, t, ds⟩ := d
    rw [D.deep] at hN
    omega
  | succ N ih =>
    intro d v σ hN hcn hw hL
    obtain ⟨k, z, t, ds⟩ := d
    rw [D.count] at hcn
    have hlen := counts_ge ds
    obtain ⟨p, c, rfl, hE⟩ := hL
    obtain ⟨M, hM⟩ : ∃ M, n + 4 + N = M := ⟨_, rfl⟩
    rw [hM] at ih
    rw [show n + 4 + (N + 1) = M + 1 by omega, env_call _ 81 _ _ rfl, enter81 _ _ _ _ (by simp), Sl_start]
    unfold run81
    have x1 : Ext σ (σ.push (.cells [.int .i64 k, .int .i64 z, .string t, .slice p ds.length c] TD) none) := (Ext.refl _).push _ _
    have hw1 := hw.push (.cells [.int .i64 k, .int .i64 z, .string t, .slice p ds.length c] TD) none
    have c1 : (σ.push (.cells [.int .i64 k, .int .i64 z, .string t, .slice p ds.length c] TD) none).cells σ.next = some [.int .i64 k, .int .i64 z, .string t, .slice p ds.length c] := by rw [cells_push, if_pos rfl]; rfl
    obtain ⟨_, σ2, e2, x2, hw2, rfl⟩ := pieceAny_go (n + N) k z t ds.length p c _ hw1
    rw [show n + N + 4 = M by omega] at e2
    have c2 := (x2.cells (hw1.cells c1)).trans c1
    have hkeep : keepOf nls 81 = [] := by kernel_rfl
    rw [firstE]
    by_cases hp : pieceE k z t ds.length = 0
    · rw [if_pos hp]
      have z0 : (((pieceE k z t ds.length : Nat) : Int) == 0) = true := by rw [hp]; rfl
      have lp := fun fuel f g hf h1 h4 => rpA_loop M R ds p c σ.next k z t (by omega) (fun i d hdi v σ' hw' hl => ih d v σ' (by rw [D.deep] at hN; have := deeps_mem (List.mem_of_getElem? hdi); omega) (by have := counts_mem (List.mem_of_getElem? hdi); omega) hw' hl)
        ds.length fuel 0 f g σ2 (by omega) hf (by omega) hw2 (hE.keep fun b cs hb hc => ⟨((x1.trans x2).cells (hw.cells hc)).trans hc, hb⟩) c2 h1 h4
      simp -implicitDefEqProofs only [go_sem, ↓reduceIte, Nat.reduceLT, Nat.reduceEqDiff, Nat.reduceAdd, Nat.reduceMul, Nat.reduceLeDiff, Nat.reduceSub, r81_0_go, r81_0U, r81_1_go, r81_1U, r81_2_go, r81_2U, r81_4_go, r81_4U, Option.getD_some, List.getElem?_cons_zero, e2, z0, skipR_go, hkeep]
      generalize hbf : bigFuel = fuel
      generalize hff : upd _ 4 _ = f1
      generalize hgg : upd _ 9 _ = g1
      obtain ⟨f', g', σ3, x3, hw3, h⟩ := lp fuel f1 g1 (by rw [← hbf]; show ds.length < 1000000000000; omega) (by rw [← hff]; simp -implicitDefEqProofs only [upd_go, kept_go, ↓reduceIte, Nat.reduceEqDiff, Nat.reduceLT, reduceCtorEq]) (by rw [← hff]; simp -implicitDefEqProofs only [upd_go, kept_go, ↓reduceIte, Nat.reduceEqDiff, Nat.reduceLT, reduceCtorEq] <;> rfl)
      rw [List.drop_zero] at h
      rcases h with ⟨h1, h2⟩ | ⟨h1, h2, h3⟩
      · rw [h2]
        simp -implicitDefEqProofs only [go_sem, ↓reduceIte, Nat.reduceLT, Nat.reduceEqDiff, Nat.reduceAdd, Nat.reduceMul, Nat.reduceLeDiff, Nat.reduceSub, r81_10_go, r81_10U]
        exact ⟨_, _, rfl, (x1.trans x2).trans x3, hw3, by rw [h1]; rfl⟩
      · rw [h2]
        simp -implicitDefEqProofs only [go_sem, ↓reduceIte, Nat.reduceLT, Nat.reduceEqDiff, Nat.reduceAdd, Nat.reduceMul, Nat.reduceLeDiff, Nat.reduceSub, h3]
        exact ⟨_, _, rfl, (x1.trans x2).trans x3, hw3, rfl⟩
    · rw [if_neg hp]
      have z0 : (((pieceE k z t ds.length : Nat) : Int) == 0) = false := by simp; omega
      simp -implicitDefEqProofs only [go_sem, ↓reduceIte, Nat.reduceLT, Nat.reduceEqDiff, Nat.reduceAdd, Nat.reduceMul, Nat.reduceLeDiff, Nat.reduceSub, r81_0_go, r81_0U, r81_1_go, r81_1U, r81_2_go, r81_2U, r81_3_go, r81_3U, Option.getD_some, List.getElem?_cons_zero, e2, z0, skipR_go, hkeep]
      exact ⟨_, _, rfl, x1.trans x2, hw2, rfl⟩
section
variable (R : Nat → Prop) (d : D) (lv : List Value) (h4 : lv.length = 4) (σ : FState) (hw : Wf σ) (hL : LaidR R σ (.agg lv.toArray) d)
include h4 hw hL
theorem largeC_go (M n N : Nat) (hM : M = n + N) (h1 : d.deep ≤ N) (h2 : d.count ≤ 2000) : Gives ((env (M + 1)).call 82 [.agg lv.toArray] none σ) σ fun r _ => r = .int .i64 0 := by
  have ht : lv.take 4 = lv := List.take_of_length_le (by omega)
  rw [env_call _ 82 _ _ rfl, enter82 _ _ _ _ (by simp), Sl_start]
  unfold run82
  have x1 : Ext σ (σ.push (.cells lv TD) none) := (Ext.refl _).push _ _
  have hw1 := hw.push (.cells lv TD) none
  have c1 : (σ.push (.cells lv TD) none).cells σ.next = some lv := by rw [cells_push, if_pos rfl]; rfl
  obtain ⟨_, σ2, e2, x2, hw2, rfl⟩ := kitPieces_go n R N d h1 (.agg lv.toArray) 2000 _ hw1 (hL.keep fun b cs hb hc => ⟨(x1.cells (hw.cells hc)).trans hc, hb⟩) h2 (by omega)
  rw [← hM] at e2
  have d0 : decide (Int.ofNat d.count > 2000) = false := by
    simp only [Int.ofNat_eq_natCast, decide_eq_false_iff_not]
    omega
  have e2' : (env M).call 52 [.agg lv.toArray, .int .i64 2000] none (σ.push (.cells lv TD) none) = _ := e2
  simp -implicitDefEqProofs only [go_sem, ↓reduceIte, Nat.reduceLT, Nat.reduceEqDiff, Nat.reduceAdd, Nat.reduceMul, Nat.reduceLeDiff, Nat.reduceSub, r82_0_go, r82_0U, r82_1_go, r82_1U, r82_3_go, r82_3U, Option.getD_some, List.getElem?_cons_zero, h4, ht, e2', d0, skipR_go, Nat.le_refl]
  exact ⟨_, _, rfl, x1.trans x2, hw2, rfl⟩
theorem checkAny_go (M n N : Nat) (hM : M = n + 4 + N) (h1 : d.deep ≤ N) (h2 : d.count ≤ 2000) : Gives ((env (M + 2)).call 19 [.agg lv.toArray] none σ) σ fun r _ => r = .int .i64 (firstE d : Nat) := by
  have ht : lv.take 4 = lv := List.take_of_length_le (by omega)
  rw [env_call _ 19 _ _ rfl, enter19 _ _ _ _ (by simp), Sl_start]
  unfold run19
  have x1 : Ext σ (σ.push (.cells lv TD) none) := (Ext.refl _).push _ _
  have hw1 := hw.push (.cells lv TD) none
  have c1 : (σ.push (.cells lv TD) none).cells σ.next = some lv := by rw [cells_push, if_pos rfl]; rfl
  obtain ⟨_, σ2, e2, x2, hw2, rfl⟩ := refAny_go (n + 1) R N d (.agg lv.toArray) _ h1 (by omega) hw1 (hL.keep fun b cs hb hc => ⟨(x1.cells (hw.cells hc)).trans hc, hb⟩)
  rw [show n + 1 + 4 + N = M + 1 by omega] at e2
  have c2 := (x2.cells (hw1.cells c1)).trans c1
  by_cases he : firstE d = 0
  · have z0 : (((firstE d : Nat) : Int) == 0) = true := by rw [he]; rfl
    obtain ⟨_, σ3, e3, x3, hw3, rfl⟩ := largeC_go R d lv h4 σ2 hw2 (hL.keep fun b cs hb hc => ⟨((x1.trans x2).cells (hw.cells hc)).trans hc, hb⟩) M (n + 4) N (by omega) h1 h2
    simp -implicitDefEqProofs only [go_sem, ↓reduceIte, Nat.reduceLT, Nat.reduceEqDiff, Nat.reduceAdd, Nat.reduceMul, Nat.reduceLeDiff, Nat.reduceSub, r19_0_go, r19_0U, r19_1_go, r19_1U, r19_2_go, r19_2U, r19_4_go, r19_4U, Option.getD_some, List.getElem?_cons_zero, h4, ht, c2, e2, e3, z0, skipR_go, Nat.le_refl]
    exact ⟨_, _, rfl, (x1.trans x2).trans x3, hw3, by rw [he]; rfl⟩
  · have z0 : (((firstE d : Nat) : Int) == 0) = false := by simp; omega
    simp -implicitDefEqProofs only [go_sem, ↓reduceIte, Nat.reduceLT, Nat.reduceEqDiff, Nat.reduceAdd, Nat.reduceMul, Nat.reduceLeDiff, Nat.reduceSub, r19_0_go, r19_0U, r19_1_go, r19_1U, r19_2_go, r19_2U, r19_3_go, r19_3U, Option.getD_some, List.getElem?_cons_zero, h4, ht, e2, z0, skipR_go, Nat.le_refl]
    exact ⟨_, _, rfl, x1.trans x2, hw2, rfl⟩
end
end Go.Proofs.YtokieofohmgjdaaGreatDoor
/- vast, of any data. -/
namespace Go.Proofs.YtokieofohmgjdaaGreatDoor
open Go Go.Eng
attribute [local congr] andThen_congr fops_congr fdraw_congr afterOp_congr drawF_congr
attribute [-go_sem] List.range_succ
mutual
def wordB : D → Bool
  | .mk _ _ t ds => decide (100 < t.size) || wordBs ds
def wordBs : List D → Bool
  | [] => false
  | d :: ds => wordB d || wordBs ds
end
theorem wo_loop (m : Nat) (R : Nat → Prop) (ds : List D) (p : Option Addr) (c bx : Nat) (k z : Int) (t : ByteArray) (hds : ds.length < 1000000)
    (hO : ∀ (i : Nat) (d : D), ds[i]? = some d → ∀ v σ', Wf σ' → LaidR R σ' v d → Gives ((env m).call 53 [v] none σ') σ' fun r _ => r = .bool (wordB d)) :
    ∀ (j fuel i : Nat) (f g : Nat → Value) (σ : FState), ds.length - i = j → j < fuel → i ≤ ds.length → Wf σ → LaidRE R σ p 0 ds → σ.cells bx = some [.int .i64 k, .int .i64 z, .string t, .slice p ds.length c] → f 1 = .pointer (some ⟨bx, 0, none⟩) → f 3 = .int .i64 (.ofNat i) →
      ∃ f' g' σ', Ext σ σ' ∧ Wf σ' ∧ ((wordBs (ds.drop i) = false ∧ floop [] (l53_0 (env m) none 53) fuel (Sl 4 21 f g []) none σ = .done (.exit 0) (Sl 4 21 f' g' []) none σ') ∨
        (wordBs (ds.drop i) = true ∧ floop [] (l53_0 (env m) none 53) fuel (Sl 4 21 f g []) none σ = .done .ret (Sl 4 21 f' g' []) none σ' ∧ f' 2 = .bool true)) := by
  intro j
  induction j with
  | zero =>
    intro fuel i f g σ hj hf hi hw hE hc f1 f3
    obtain ⟨fuel, rfl⟩ : ∃ q, fuel = q + 1 := ⟨fuel - 1, by omega⟩
    obtain rfl : i = ds.length := by omega
    have d0 : decide (Int.ofNat ds.length < Int.ofNat ds.length) = false := by simp
    rw [floop_step, List.drop_length]
    unfold l53_0
    simp -implicitDefEqProofs only [go_sem, ↓reduceIte, Nat.reduceLT, Nat.reduceEqDiff, Nat.reduceAdd, Nat.reduceMul, Nat.reduceLeDiff, Nat.reduceSub, r53_4_go, r53_4U, f1, f3, hc, d0]
    exact ⟨_, _, _, Ext.refl _, hw, .inl ⟨rfl, rfl⟩⟩
  | succ j ih =>
    intro fuel i f g σ hj hf hi hw hE hc f1 f3
    obtain ⟨fuel, rfl⟩ : ∃ q, fuel = q + 1 := ⟨fuel - 1, by omega⟩
    have hlt : i < ds.length := by omega
    have d0 : decide (Int.ofNat i < Int.ofNat ds.length) = true := by simp; omega
    have hd : ds[i]? = some ds[i] := List.getElem?_eq_getElem hlt
    obtain ⟨b, off, cs, rfl, hRb, hcs, hle, hL⟩ := LaidRE.get hE hd
    rw [Nat.zero_add] at hle hL
    obtain ⟨_, σ3, e3, x3, hw3, rfl⟩ := hO i ds[i] hd _ σ hw hL
    have a1 := add1 i (by omega)
    rw [List.drop_eq_getElem_cons hlt, wordBs]
    cases he : wordB ds[i] with
    | false =>
      rw [he] at e3
      rw [Bool.false_or]
      have ih' := fun f g h1 h4 => ih fuel (i + 1) f g σ3 (by omega) (by omega) (by omega) hw3 (hE.keep fun b cs hb hc => ⟨(x3.cells (hw.cells hc)).trans hc, hb⟩) ((x3.cells (hw.cells hc)).trans hc) h1 h4
      unfold l53_0 at ih'
      rw [floop_step]
      unfold l53_0
      simp -implicitDefEqProofs only [go_sem, ↓reduceIte, Nat.reduceLT, Nat.reduceEqDiff, Nat.reduceAdd, Nat.reduceMul, Nat.reduceLeDiff, Nat.reduceSub, r53_4_go, r53_4U, r53_5_go, r53_5U, r53_6_go, r53_6U, f1, f3, hc, d0, hlt, hcs, hle, e3, a1, skipR_go]
      generalize hff : upd _ 3 _ = f2
      generalize hgg : upd _ 14 _ = g2
      obtain ⟨f3', g3, σ4, x4, hw4, h⟩ := ih' f2 g2 (by rw [← hff]; simp -implicitDefEqProofs only [upd_go, kept_go, ↓reduceIte, Nat.reduceEqDiff, Nat.reduceLT, reduceCtorEq, f1]) (by rw [← hff]; simp -implicitDefEqProofs only [upd_go, kept_go, ↓reduceIte, Nat.reduceEqDiff, Nat.reduceLT, reduceCtorEq])
      exact ⟨f3', g3, σ4, x3.trans x4, hw4, h⟩
    | true =>
      rw [he] at e3
      rw [Bool.true_or]
      have hl : ∃ f' g', floop [] (l53_0 (env m) none 53) (fuel + 1) (Sl 4 21 f g []) none σ = .done .ret (Sl 4 21 f' g' []) none σ3 ∧ f' 2 = .bool true := by
        rw [floop_step]
        unfold l53_0
        simp -implicitDefEqProofs only [go_sem, ↓reduceIte, Nat.reduceLT, Nat.reduceEqDiff, Nat.reduceAdd, Nat.reduceMul, Nat.reduceLeDiff, Nat.reduceSub, r53_4_go, r53_4U, r53_6_go, r53_6U, r53_7_go, r53_7U, f1, f3, hc, d0, hlt, hcs, hle, e3, a1, skipR_go]
        exact ⟨_, _, rfl, by simp -implicitDefEqProofs only [upd_go, kept_go, ↓reduceIte, Nat.reduceEqDiff, Nat.reduceLT, reduceCtorEq]⟩
      obtain ⟨f', g', h1, h2⟩ := hl
      exact ⟨f', g', _, x3, hw3, .inr ⟨rfl, h1, h2⟩⟩
theorem wordy_go (n : Nat) (R : Nat → Prop) : ∀ (N : Nat) (d : D) (v : Value) (σ : FState), d.deep ≤ N → d.count ≤ 100000 → Wf σ → LaidR R σ v d →
    Gives ((env (n + N)).call 53 [v] none σ) σ fun r _ => r = .bool (wordB d) := by
  intro N
  induction N with
  | zero =>
    intro d v σ hN
    obtain ⟨k, z, t, ds⟩ := d
    rw [D.deep] at hN
    omega
  | succ N ih =>
    intro d v σ hN hcn hw hL
    obtain ⟨k, z, t, ds⟩ := d
    rw [D.count] at hcn
    have hlen := counts_ge ds
    obtain ⟨p, c, rfl, hE⟩ := hL
    obtain ⟨M, hM⟩ : ∃ M, n + N = M := ⟨_, rfl⟩
    rw [hM] at ih
    rw [show n + (N + 1) = M + 1 by omega, env_call _ 53 _ _ rfl, enter53 _ _ _ _ (by simp), Sl_start]
    unfold run53
    have x1 : Ext σ (σ.push (.cells [.int .i64 k, .int .i64 z, .string t, .slice p ds.length c] TD) none) := (Ext.refl _).push _ _
    have hw1 := hw.push (.cells [.int .i64 k, .int .i64 z, .string t, .slice p ds.length c] TD) none
    have c1 : (σ.push (.cells [.int .i64 k, .int .i64 z, .string t, .slice p ds.length c] TD) none).cells σ.next = some [.int .i64 k, .int .i64 z, .string t, .slice p ds.length c] := by rw [cells_push, if_pos rfl]; rfl
    have hkeep : keepOf nls 53 = [] := by kernel_rfl
    rw [wordB]
    by_cases hp : 100 < t.size
    · have d0 : decide (Int.ofNat t.size > 100) = true := by simp; omega
      have d1 : decide (100 < t.size) = true := decide_eq_true hp
      simp -implicitDefEqProofs only [go_sem, ↓reduceIte, Nat.reduceLT, Nat.reduceEqDiff, Nat.reduceAdd, Nat.reduceMul, Nat.reduceLeDiff, Nat.reduceSub, r53_0_go, r53_0U, r53_1_go, r53_1U, r53_2_go, r53_2U, Option.getD_some, List.getElem?_cons_zero, d0, d1, Bool.true_or]
      exact ⟨_, _, rfl, x1, hw1, rfl⟩
    · have d0 : decide (Int.ofNat t.size > 100) = false := by simp; omega
      have d1 : decide (100 < t.size) = false := decide_eq_false hp
      have lp := fun fuel f g hf h1 h4 => wo_loop M R ds p c σ.next k z t (by omega) (fun i d hdi v σ' hw' hl => ih d v σ' (by rw [D.deep] at hN; have := deeps_mem (List.mem_of_getElem? hdi); omega) (by have := counts_mem (List.mem_of_getElem? hdi); omega) hw' hl)
        ds.length fuel 0 f g _ (by omega) hf (by omega) hw1 (hE.keep fun b cs hb hc => ⟨(x1.cells (hw.cells hc)).trans hc, hb⟩) c1 h1 h4
      simp -implicitDefEqProofs only [go_sem, ↓reduceIte, Nat.reduceLT, Nat.reduceEqDiff, Nat.reduceAdd, Nat.reduceMul, Nat.reduceLeDiff, Nat.reduceSub, r53_0_go, r53_0U, r53_1_go, r53_1U, r53_3_go, r53_3U, Option.getD_some, List.getElem?_cons_zero, d0, d1, Bool.false_or, skipR_go, hkeep]
      generalize hbf : bigFuel = fuel
      generalize hff : upd _ 3 _ = f1
      generalize hgg : upd _ 7 _ = g1
      obtain ⟨f', g', σ3, x3, hw3, h⟩ := lp fuel f1 g1 (by rw [← hbf]; show ds.length < 1000000000000; omega) (by rw [← hff]; simp -implicitDefEqProofs only [upd_go, kept_go, ↓reduceIte, Nat.reduceEqDiff, Nat.reduceLT, reduceCtorEq]) (by rw [← hff]; simp -implicitDefEqProofs only [upd_go, kept_go, ↓reduceIte, Nat.reduceEqDiff, Nat.reduceLT, reduceCtorEq] <;> rfl)
      rw [List.drop_zero] at h
      rcases h with ⟨h1, h2⟩ | ⟨h1, h2, h3⟩
      · rw [h2, h1]
        simp -implicitDefEqProofs only [go_sem, ↓reduceIte, Nat.reduceLT, Nat.reduceEqDiff, Nat.reduceAdd, Nat.reduceMul, Nat.reduceLeDiff, Nat.reduceSub, r53_8_go, r53_8U]
        exact ⟨_, _, rfl, x1.trans x3, hw3, rfl⟩
      · rw [h2, h1]
        simp -implicitDefEqProofs only [go_sem, ↓reduceIte, Nat.reduceLT, Nat.reduceEqDiff, Nat.reduceAdd, Nat.reduceMul, Nat.reduceLeDiff, Nat.reduceSub, h3]
        exact ⟨_, _, rfl, x1.trans x3, hw3, rfl⟩
def vastB (d : D) : Bool := decide (150 < d.count) || wordB d
theorem vast_go (n : Nat) (R : Nat → Prop) (d : D) (lv : List Value) (h4 : lv.length = 4) (σ : FState) (hw : Wf σ) (hL : LaidR R σ (.agg lv.toArray) d) :
    Gives ((env (n + 152)).call 9 [.agg lv.toArray] none σ) σ fun r _ => r = .bool (vastB d) := by
  have ht : lv.take 4 = lv := List.take_of_length_le (by omega)
  rw [show n + 152 = (n + 151) + 1 by omega, env_call _ 9 _ _ rfl, enter9 _ _ _ _ (by simp), Sl_start]
  unfold run9
  have x1 : Ext σ (σ.push (.cells lv TD) none) := (Ext.refl _).push _ _
  have hw1 := hw.push (.cells lv TD) none
  have c1 : (σ.push (.cells lv TD) none).cells σ.next = some lv := by rw [cells_push, if_pos rfl]; rfl
  obtain ⟨_, σ2, e2, x2, hw2, rfl⟩ := kpm_go n R 150 150 d (Nat.le_refl _) (by omega) (.agg lv.toArray) _ hw1 (hL.keep fun b cs hb hc => ⟨(x1.cells (hw.cells hc)).trans hc, hb⟩)
  rw [show n + 150 + 1 = n + 151 by omega] at e2
  have e2' : (env (n + 151)).call 52 [.agg lv.toArray, .int .i64 150] none (σ.push (.cells lv TD) none) = _ := e2
  have c2 := (x2.cells (hw1.cells c1)).trans c1
  generalize hM : n + 151 = M at *
  unfold vastB
  by_cases hv : 150 < d.count
  · have d0 : decide (Int.ofNat (min d.count (150 + 1)) > 150) = true := by simp only [Int.ofNat_eq_natCast, decide_eq_true_eq]; omega
    have d1 : decide (150 < d.count) = true := decide_eq_true hv
    generalize min d.count (150 + 1) = q at *
    simp -implicitDefEqProofs only [go_sem, ↓reduceIte, Nat.reduceLT, Nat.reduceEqDiff, Nat.reduceAdd, Nat.reduceMul, Nat.reduceLeDiff, Nat.reduceSub, r9_0_go, r9_0U, r9_1_go, r9_1U, Option.getD_some, List.getElem?_cons_zero, h4, ht, e2', d0, d1, Bool.true_or, Nat.le_refl]
    exact ⟨_, _, rfl, x1.trans x2, hw2, rfl⟩
  · have d0 : decide (Int.ofNat (min d.count (150 + 1)) > 150) = false := by simp only [Int.ofNat_eq_natCast, decide_eq_false_iff_not]; omega
    have d1 : decide (150 < d.count) = false := decide_eq_false hv
    have hdc := deep_le_count d
    obtain ⟨_, σ3, e3, x3, hw3, rfl⟩ := wordy_go (n + 1) R 150 d (.agg lv.toArray) σ2 (by omega) (by omega) hw2 (hL.keep fun b cs hb hc => ⟨((x1.trans x2).cells (hw.cells hc)).trans hc, hb⟩)
    rw [show n + 1 + 150 = M by omega] at e3
    generalize min d.count (150 + 1) = q at *
    simp -implicitDefEqProofs only [go_sem, ↓reduceIte, Nat.reduceLT, Nat.reduceEqDiff, Nat.reduceAdd, Nat.reduceMul, Nat.reduceLeDiff, Nat.reduceSub, r9_0_go, r9_0U, r9_1_go, r9_1U, Option.getD_some, List.getElem?_cons_zero, h4, ht, e2', c2, e3, d0, d1, Bool.false_or, Nat.le_refl]
    exact ⟨_, _, rfl, (x1.trans x2).trans x3, hw3, rfl⟩
end Go.Proofs.YtokieofohmgjdaaGreatDoor
/- isSymbol, of any symbol. -/
namespace Go.Proofs.YtokieofohmgjdaaGreatDoor
open Go Go.Eng
attribute [local congr] andThen_congr fops_congr fdraw_congr afterOp_congr drawF_congr
attribute [-go_sem] List.range_succ
theorem symC_list : (List.range 123).filter symC = [33, 42, 43, 45, 47, 48, 49, 50, 51, 52, 53, 54, 55, 56, 57, 60, 61, 62, 63, 97, 98, 99, 100, 101, 102, 103, 104, 105, 106, 107, 108, 109, 110, 111, 112, 113, 114, 115, 116, 117, 118, 119, 120, 121, 122] := by decide
theorem symC_mem {c : Nat} (h : symC c = true) : c ∈ (List.range 123).filter symC := by
  rw [List.mem_filter, List.mem_range]
  refine ⟨?_, h⟩
  unfold symC digC signs at h
  simp at h
  omega
def clsN (c : Nat) : Int := if digC c = true then 2 else if 97 ≤ c ∧ c ≤ 122 then 1 else 3
def symNums : List Nat := [33, 42, 43, 45, 47, 48, 49, 50, 51, 52, 53, 54, 55, 56, 57, 60, 61, 62, 63, 97, 98, 99, 100, 101, 102, 103, 104, 105, 106, 107, 108, 109, 110, 111, 112, 113, 114, 115, 116, 117, 118, 119, 120, 121, 122]
theorem class_list (n c : Nat) (hm : c ∈ symNums) (σ : FState) : (env (n + 20)).call 188 [.int .i32 (c : Int)] none σ = .ret (.int .i64 (clsN c)) none σ := by
  simp only [symNums, List.mem_cons, List.not_mem_nil, or_false] at hm
  rcases hm with rfl | rfl | rfl | rfl | rfl | rfl | rfl | rfl | rfl | rfl | rfl | rfl | rfl | rfl | rfl | rfl | rfl | rfl | rfl | rfl | rfl | rfl | rfl | rfl | rfl | rfl | rfl | rfl | rfl | rfl | rfl | rfl | rfl | rfl | rfl | rfl | rfl | rfl | rfl | rfl | rfl | rfl | rfl | rfl | rfl <;> kernel_rfl
theorem conv_list (c : Nat) (hm : c ∈ symNums) (σ : FState) : fun1 Tryz.prog (convert 5 21) (.int .u8 (c : Int)) σ = .val (.int .i32 (c : Int)) σ := by
  simp only [symNums, List.mem_cons, List.not_mem_nil, or_false] at hm
  rcases hm with rfl | rfl | rfl | rfl | rfl | rfl | rfl | rfl | rfl | rfl | rfl | rfl | rfl | rfl | rfl | rfl | rfl | rfl | rfl | rfl | rfl | rfl | rfl | rfl | rfl | rfl | rfl | rfl | rfl | rfl | rfl | rfl | rfl | rfl | rfl | rfl | rfl | rfl | rfl | rfl | rfl | rfl | rfl | rfl | rfl <;> kernel_rfl
theorem symC_nums {c : Nat} (h : symC c = true) : c ∈ symNums := by
  have hm := symC_mem h
  rw [symC_list] at hm
  exact hm
theorem class_go (n c : Nat) (h : symC c = true) (σ : FState) : (env (n + 20)).call 188 [.int .i32 (c : Int)] none σ = .ret (.int .i64 (clsN c)) none σ := class_list n c (symC_nums h) σ
theorem conv_go (c : Nat) (h : symC c = true) (σ : FState) : fun1 Tryz.prog (convert 5 21) (.int .u8 (c : Int)) σ = .val (.int .i32 (c : Int)) σ := conv_list c (symC_nums h) σ
end Go.Proofs.YtokieofohmgjdaaGreatDoor
/- isSymbol, of any symbol; valid data are as valid asks. -/
namespace Go.Proofs.YtokieofohmgjdaaGreatDoor
open Go Go.Eng
attribute [local congr] andThen_congr fops_congr fdraw_congr afterOp_congr drawF_congr
attribute [-go_sem] List.range_succ
theorem is_step (n i c : Nat) (t : ByteArray) (f g : Nat → Value) (σ : FState) (hi : i < t.size) (hsz : i < 1000000) (hc : byteAt t i = c) (hs : symC c = true) (hd : digC c = true → 1 < i ∨ (i = 1 ∧ byteAt t 0 ≠ 45)) (f0 : f 0 = .string t) (g13 : g 13 = .int .i64 (.ofNat t.size)) (g14 : g 14 = .int .i64 (.ofNat i)) :
    ∃ f' g', f' 0 = .string t ∧ g' 13 = .int .i64 (.ofNat t.size) ∧ l170_0 (env (n + 20)) none 170 (Sl 4 38 f g []) none σ = .done .normal (Sl 4 38 f' g' []) none σ ∧ g' 14 = .int .i64 (.ofNat (i + 1)) := by
  have d0 : decide (Int.ofNat i < Int.ofNat t.size) = true := by simp; omega
  have hb := findexS_at t i hi σ
  rw [hc] at hb
  have a1 := add1 i (by omega)
  have hcl := class_go n c hs σ
  have hcv := conv_go c hs σ
  unfold l170_0
  cases hdd : digC c with
  | false =>
    have e2 : (clsN c == 2) = false := by unfold clsN; rw [hdd]; simp; split <;> decide
    have e0 : (clsN c == 0) = false := by unfold clsN; rw [hdd]; simp; split <;> decide
    generalize clsN c = q at *
    simp -implicitDefEqProofs only [go_sem, ↓reduceIte, Nat.reduceLT, Nat.reduceEqDiff, Nat.reduceAdd, Nat.reduceMul, Nat.reduceLeDiff, Nat.reduceSub, r170_4_go, r170_4U, r170_5_go, r170_5U, r170_6_go, r170_6U, r170_7_go, r170_7U, r170_8_go, r170_8U, r170_9_go, r170_9U, r170_11_go, r170_11U, f0, g13, g14, d0, hb, hcv, hcl, a1, e2, e0, skipR_go]
    refine ⟨_, _, ?_, ?_, rfl, ?_⟩
    · simp -implicitDefEqProofs only [upd_go, kept_go, ↓reduceIte, Nat.reduceEqDiff, Nat.reduceLT, reduceCtorEq, f0]
    · simp -implicitDefEqProofs only [upd_go, kept_go, ↓reduceIte, Nat.reduceEqDiff, Nat.reduceLT, reduceCtorEq, g13]
    · simp -implicitDefEqProofs only [upd_go, kept_go, ↓reduceIte, Nat.reduceEqDiff, Nat.reduceLT, reduceCtorEq]
  | true =>
    have hq : clsN c = 2 := by unfold clsN; rw [hdd]; rfl
    rw [hq] at hcl
    have e2 : ((2 : Int) == 2) = true := rfl
    by_cases h1 : 1 < i
    · have d1 : decide (Int.ofNat i > 1) = true := by simp; omega
      simp -implicitDefEqProofs only [go_sem, ↓reduceIte, Nat.reduceLT, Nat.reduceEqDiff, Nat.reduceAdd, Nat.reduceMul, Nat.reduceLeDiff, Nat.reduceSub, r170_4_go, r170_4U, r170_5_go, r170_5U, r170_6_go, r170_6U, r170_7_go, r170_7U, r170_8_go, r170_8U, r170_9_go, r170_9U, r170_11_go, r170_11U, f0, g13, g14, d0, hb, hcv, hcl, a1, e2, d1, skipR_go]
      refine ⟨_, _, ?_, ?_, rfl, ?_⟩
      · simp -implicitDefEqProofs only [upd_go, kept_go, ↓reduceIte, Nat.reduceEqDiff, Nat.reduceLT, reduceCtorEq, f0]
      · simp -implicitDefEqProofs only [upd_go, kept_go, ↓reduceIte, Nat.reduceEqDiff, Nat.reduceLT, reduceCtorEq, g13]
      · simp -implicitDefEqProofs only [upd_go, kept_go, ↓reduceIte, Nat.reduceEqDiff, Nat.reduceLT, reduceCtorEq]
    · obtain ⟨h2, h3⟩ : i = 1 ∧ byteAt t 0 ≠ 45 := by
        rcases hd hdd with h | h
        · omega
        · exact h
      have d1 : decide (Int.ofNat i > 1) = false := by simp; omega
      have d2 : (Int.ofNat i == 1) = true := by subst h2; rfl
      have b0 := findexS_0 t (by omega) σ
      have e45 : ((byteAt t 0 : Int) == 45) = false := by simp; omega
      have neq_u8 : ∀ (x y : Operand) (a b : Int) (σ : FState), i_neq Tryz.prog 5 x y (.int .u8 a) (.int .u8 b) σ = .val (.bool (!(a == b))) σ := fun x y a b σ => by kernel_rfl
      simp -implicitDefEqProofs only [go_sem, ↓reduceIte, Nat.reduceLT, Nat.reduceEqDiff, Nat.reduceAdd, Nat.reduceMul, Nat.reduceLeDiff, Nat.reduceSub, r170_4_go, r170_4U, r170_5_go, r170_5U, r170_6_go, r170_6U, r170_7_go, r170_7U, r170_8_go, r170_8U, r170_9_go, r170_9U, r170_11_go, r170_11U, f0, g13, g14, d0, hb, hcv, hcl, a1, e2, d1, d2, b0, e45, neq_u8, Bool.not_false, skipR_go]
      refine ⟨_, _, ?_, ?_, rfl, ?_⟩
      · simp -implicitDefEqProofs only [upd_go, kept_go, ↓reduceIte, Nat.reduceEqDiff, Nat.reduceLT, reduceCtorEq, f0]
      · simp -implicitDefEqProofs only [upd_go, kept_go, ↓reduceIte, Nat.reduceEqDiff, Nat.reduceLT, reduceCtorEq, g13]
      · simp -implicitDefEqProofs only [upd_go, kept_go, ↓reduceIte, Nat.reduceEqDiff, Nat.reduceLT, reduceCtorEq]
theorem is_loop (n : Nat) (t : ByteArray) (hsz : t.size ≤ 20) (hs : ∀ i, i < t.size → symC (byteAt t i) = true ∧ (digC (byteAt t i) = true → 1 < i ∨ (i = 1 ∧ byteAt t 0 ≠ 45))) (keep : List Nat) (hk : 13 ∈ keep ∧ 14 ∈ keep) (σ : FState) : ∀ (j fuel i : Nat) (f g : Nat → Value), t.size - i = j → j < fuel → i ≤ t.size → f 0 = .string t → g 13 = .int .i64 (.ofNat t.size) → g 14 = .int .i64 (.ofNat i) →
    ∃ f' g', floop keep (l170_0 (env (n + 20)) none 170) fuel (Sl 4 38 f g []) none σ = .done (.exit 0) (Sl 4 38 f' g' []) none σ := by
  intro j
  induction j with
  | zero =>
    intro fuel i f g hj hf hi f0 g13 g14
    obtain ⟨fuel, rfl⟩ : ∃ q, fuel = q + 1 := ⟨fuel - 1, by omega⟩
    obtain rfl : i = t.size := by omega
    have d0 : decide (Int.ofNat t.size < Int.ofNat t.size) = false := by simp
    rw [floop_step]
    have k13 : kept keep g 13 = .int .i64 (.ofNat t.size) := by rw [kept_go, if_pos hk.1, g13]
    have k14 : kept keep g 14 = .int .i64 (.ofNat t.size) := by rw [kept_go, if_pos hk.2, g14]
    have h : ∃ f' g', l170_0 (env (n + 20)) none 170 (Sl 4 38 f (kept keep g) []) none σ = .done (.exit 0) (Sl 4 38 f' g' []) none σ := by
      generalize kept keep g = g1 at *
      unfold l170_0
      simp -implicitDefEqProofs only [go_sem, ↓reduceIte, Nat.reduceLT, Nat.reduceEqDiff, Nat.reduceAdd, Nat.reduceMul, Nat.reduceLeDiff, Nat.reduceSub, r170_4_go, r170_4U, f0, k13, k14, d0]
      exact ⟨_, _, rfl⟩
    obtain ⟨f', g', e⟩ := h
    refine ⟨f', g', ?_⟩
    simp -implicitDefEqProofs only [Sl_forget, e, andThen_exit]
  | succ j ih =>
    intro fuel i f g hj hf hi f0 g13 g14
    obtain ⟨fuel, rfl⟩ : ∃ q, fuel = q + 1 := ⟨fuel - 1, by omega⟩
    have hlt : i < t.size := by omega
    rw [floop_step]
    obtain ⟨f1, g1, h0, h13, e, h14⟩ := is_step n i (byteAt t i) t f (kept keep g) σ hlt (by omega) rfl (hs i hlt).1 (hs i hlt).2 f0 (by rw [kept_go, if_pos hk.1, g13]) (by rw [kept_go, if_pos hk.2, g14])
    obtain ⟨f2, g2, h⟩ := ih fuel (i + 1) f1 g1 (by omega) (by omega) (by omega) h0 h13 h14
    refine ⟨f2, g2, ?_⟩
    simp -implicitDefEqProofs only [Sl_forget, e, andThen_normal]
    exact h
theorem isSym_go (n : Nat) (t : ByteArray) (h : symB t = true) (σ : FState) : (env (n + 21)).call 170 [.string t] none σ = .ret (.bool true) none σ := by
  unfold symB at h
  simp only [Bool.and_eq_true, decide_eq_true_eq, Bool.not_eq_true', List.all_eq_true, List.mem_range] at h
  obtain ⟨⟨⟨⟨h1, h2⟩, h3⟩, h4⟩, h5⟩ := h
  have hs : ∀ i, i < t.size → symC (byteAt t i) = true ∧ (digC (byteAt t i) = true → 1 < i ∨ (i = 1 ∧ byteAt t 0 ≠ 45)) := fun i hi => ⟨h5 i hi, fun hd => by
    by_cases hi0 : i = 0
    · subst hi0
      rw [h3] at hd
      cases hd
    · by_cases hi1 : i = 1
      · subst hi1
        refine .inr ⟨rfl, fun h45 => ?_⟩
        rw [hd, h45] at h4
        simp [hi] at h4
      · exact .inl (by omega)⟩
  rw [env_call _ 170 _ _ rfl, enter170 _ _ _ _ (by simp), Sl_start]
  unfold run170
  have d0 : (Int.ofNat t.size == 0) = false := by rw [beq_eq_false_iff_ne]; simp only [Int.ofNat_eq_natCast, ne_eq]; omega
  have d1 : decide (Int.ofNat t.size > 20) = false := by simp; omega
  have hkeep : ∃ keep, keepOf nls 170 = keep ∧ 13 ∈ keep ∧ 14 ∈ keep := ⟨_, rfl, by decide, by decide⟩
  obtain ⟨keep, hkp, hk⟩ := hkeep
  simp -implicitDefEqProofs only [go_sem, ↓reduceIte, Nat.reduceLT, Nat.reduceEqDiff, Nat.reduceAdd, Nat.reduceMul, Nat.reduceLeDiff, Nat.reduceSub, r170_0_go, r170_0U, r170_1_go, r170_1U, r170_3_go, r170_3U, Option.getD_some, List.getElem?_cons_zero, d0, d1, skipR_go, hkp]
  generalize hff : upd _ 2 _ = f1
  generalize hgg : upd _ 14 _ = g1
  obtain ⟨f', g', e⟩ := is_loop n t h2 hs keep hk σ t.size bigFuel 0 f1 g1 (by omega) (by show t.size < 1000000000000; omega) (by omega) (by rw [← hff]; simp -implicitDefEqProofs only [upd_go, kept_go, ↓reduceIte, Nat.reduceEqDiff, Nat.reduceLT, reduceCtorEq, Option.getD_some, List.getElem?_cons_zero]) (by rw [← hgg]; simp -implicitDefEqProofs only [upd_go, kept_go, ↓reduceIte, Nat.reduceEqDiff, Nat.reduceLT, reduceCtorEq]) (by rw [← hgg]; simp -implicitDefEqProofs only [upd_go, kept_go, ↓reduceIte, Nat.reduceEqDiff, Nat.reduceLT, reduceCtorEq] <;> rfl)
  rw [e]
  simp -implicitDefEqProofs only [go_sem, ↓reduceIte, Nat.reduceLT, Nat.reduceEqDiff, Nat.reduceAdd, Nat.reduceMul, Nat.reduceLeDiff, Nat.reduceSub, r170_12_go, r170_12U]
end Go.Proofs.YtokieofohmgjdaaGreatDoor
/- Data without errors are what valid asks for. -/
namespace Go.Proofs.YtokieofohmgjdaaGreatDoor
open Go Go.Eng
attribute [local congr] andThen_congr fops_congr fdraw_congr afterOp_congr drawF_congr
attribute [-go_sem] List.range_succ
theorem decode_ascii {t : ByteArray} {i : Nat} (hi : i < t.size) (h : byteAt t i < 128) : Utf8.decode t i = (byteAt t i, 1) := by
  have e : (t.get! (i + 0)).toNat = byteAt t i := by
    unfold byteAt
    rw [Nat.add_zero, getElem!_pos t i hi]
    obtain ⟨a⟩ := t
    show (a[i]!).toNat = _
    rw [getElem!_pos a i hi]
    rfl
  unfold Utf8.decode
  simp only [e]
  rw [if_pos (by omega)]
theorem plain_text {t : ByteArray} (h : plainB t = true) : PlainText t := fun pos hp => by
  have := List.all_eq_true.1 h pos (List.mem_range.2 hp)
  unfold plainC at this
  simp only [Bool.and_eq_true, decide_eq_true_eq] at this
  exact ⟨byteAt t pos, decode_ascii hp (by omega), this.1, this.2⟩
theorem pieceE_good (m : Nat) {k z : Int} {t : ByteArray} {l : Nat} (h : pieceE k z t l = 0) : ∃ k' : Nat, k = (k' : Int) ∧ Good (m + 21) k' z t l := by
  unfold pieceE at h
  split at h
  · rename_i hk
    split at h
    · cases h
    · rename_i hf
      rw [Bool.not_eq_true] at hf
      have hk' : k = 0 ∨ k = 1 ∨ k = 2 ∨ k = 3 ∨ k = 4 ∨ k = 5 ∨ k = 6 := by omega
      unfold formB at hf
      rcases hk' with rfl | rfl | rfl | rfl | rfl | rfl | rfl
      · simp at hf
        obtain ⟨⟨rfl, ht⟩, rfl⟩ := hf
        obtain rfl : t = ⟨#[]⟩ := ht.trans rfl
        exact ⟨0, rfl, .nil⟩
      · simp at hf h
        obtain ⟨ht, rfl⟩ := hf
        obtain rfl : t = ⟨#[]⟩ := ht.trans rfl
        exact ⟨1, rfl, .bool z h⟩
      · simp at hf h
        obtain ⟨ht, rfl⟩ := hf
        obtain rfl : t = ⟨#[]⟩ := ht.trans rfl
        exact ⟨2, rfl, .num z h⟩
      · simp at hf h
        obtain ⟨rfl, rfl⟩ := hf
        exact ⟨3, rfl, .sym t fun σ' hw => ⟨_, σ', isSym_go m t h σ', Ext.refl _, hw, rfl⟩⟩
      · simp at hf h
        obtain ⟨rfl, rfl⟩ := hf
        unfold textE at h
        split at h
        · cases h
        · split at h
          · rename_i h1 h2
            exact ⟨4, rfl, .str t (by omega) fun σ' hw => isPlain_go (m + 20) t (plain_text h2) (by omega) σ' hw⟩
          · cases h
      · simp at hf
        obtain ⟨⟨rfl, ht⟩, rfl⟩ := hf
        obtain rfl : t = ⟨#[]⟩ := ht.trans rfl
        exact ⟨5, rfl, .pair⟩
      · simp at hf
        obtain ⟨rfl, ht⟩ := hf
        obtain rfl : t = ⟨#[]⟩ := ht.trans rfl
        exact ⟨6, rfl, .vec l⟩
  · cases h
mutual
theorem saneE (m : Nat) : ∀ (d : D) (path : List Nat), firstE d = 0 → d.count ≤ 900 → ∀ x ∈ d.pieces path, x.2.parts.length ≤ 900 ∧ GoodD (m + 21) x.2
  | .mk k z t ds, path, h, hc => fun x hx => by
    rw [firstE] at h
    rw [D.count] at hc
    have hl := counts_ge ds
    split at h
    · rename_i hp
      rw [D.pieces] at hx
      rcases List.mem_cons.1 hx with rfl | hx
      · refine ⟨by show ds.length ≤ 900; omega, fun k' z' t' ds' e => ?_⟩
        cases e
        exact pieceE_good m hp
      · exact saneEs m ds path 0 h (by omega) x hx
    · omega
theorem saneEs (m : Nat) : ∀ (ds : List D) (path : List Nat) (i : Nat), firstEs ds = 0 → D.counts ds ≤ 900 → ∀ x ∈ D.piecesL path i ds, x.2.parts.length ≤ 900 ∧ GoodD (m + 21) x.2
  | [], path, i, _, _ => fun x hx => by simp [D.piecesL] at hx
  | d :: ds, path, i, h, hc => fun x hx => by
    rw [firstEs] at h
    rw [D.counts] at hc
    rw [D.piecesL] at hx
    split at h
    · rename_i hp
      rcases List.mem_append.1 hx with hx | hx
      · exact saneE m d _ hp (by omega) x hx
      · exact saneEs m ds path (i + 1) h (by omega) x hx
    · omega
end
theorem apartE (m : Nat) {d : D} (h : firstE d = 0) (hc : d.count < 900) : Apart (m + 21) d := ⟨fun path => saneE m d path h (by omega), hc, by have := deep_le_count d; omega⟩
end Go.Proofs.YtokieofohmgjdaaGreatDoor
/- ordered: of valid data it is true. -/
namespace Go.Proofs.YtokieofohmgjdaaGreatDoor
open Go Go.Eng
attribute [local congr] andThen_congr fops_congr fdraw_congr afterOp_congr drawF_congr
attribute [-go_sem] List.range_succ
theorem neqBool (x y : Operand) (a b : Bool) (σ : FState) : i_neq Tryz.prog 4 x y (.bool a) (.bool b) σ = .val (.bool (a != b)) σ := by
  cases a <;> cases b <;> kernel_rfl
theorem neg_one (σ : FState) : fun1 Tryz.prog (Op.unary .neg) (.int .i64 1) σ = .val (.int .i64 (-1)) σ := by kernel_rfl
theorem neg_zero (σ : FState) : fun1 Tryz.prog (Op.unary .neg) (.int .i64 0) σ = .val (.int .i64 0) σ := by kernel_rfl
theorem neg_less (σ : FState) : fun1 Tryz.prog (Op.unary .neg) (.int .i64 (-1)) σ = .val (.int .i64 1) σ := by kernel_rfl
theorem ordered_rest (E : Env) (b3 b4 : Nat) (lv mv : List Value) (h4 : lv.length = 4) (hm4 : mv.length = 4) (p r s : Int) (eq : Bool) (f g : Nat → Value) (σ σ2 : FState) (hp : p = -1 ∨ p = 0 ∨ p = 1) (hr : r = -1 ∨ r = 0 ∨ r = 1) (hs : s = -1 ∨ s = 0 ∨ s = 1)
    (hl : p ≤ 0 → r ≤ 0 → s ≤ 0 ∧ (s < 0 ∨ (p = 0 ∧ r = 0))) (heq : eq = (p == 0)) (c3 : σ.cells b3 = some lv) (c4 : σ.cells b4 = some mv)
    (e2 : E.call 21 [.agg lv.toArray, .agg mv.toArray] none σ = .ret (.bool eq) none σ2)
    (f3 : f 3 = .pointer (some ⟨b3, 0, none⟩)) (f4 : f 4 = .pointer (some ⟨b4, 0, none⟩)) (f7 : f 7 = .int .i64 p) (f8 : f 8 = .int .i64 0) (f9 : f 9 = .int .i64 (-p)) (f10 : f 10 = .int .i64 0) (f11 : f 11 = .int .i64 r) (f12 : f 12 = .int .i64 0) (f13 : f 13 = .int .i64 s) (f14 : f 14 = .int .i64 0) :
    ∃ f' g', (seqR (seqR (fops E none r51_5) (condR (fun a => (a.get 74)) (seqR (fops E none r51_6) retR) skipR)) (seqR (fops E none r51_7) retR)) (Sl 15 98 f g []) none σ = .done .ret (Sl 15 98 f' g' []) none σ2 ∧ f' 6 = .bool true := by
  have ht : lv.take 4 = lv := List.take_of_length_le (by omega)
  have htm : mv.take 4 = mv := List.take_of_length_le (by omega)
  subst heq
  have n1 : (-(-1) : Int) = 1 := rfl
  have n0 : (-0 : Int) = 0 := rfl
  rcases hp with rfl | rfl | rfl <;> rcases hr with rfl | rfl | rfl <;> rcases hs with rfl | rfl | rfl <;>
    first
    | (exfalso; omega)
    | (simp -implicitDefEqProofs only [go_sem, ↓reduceIte, Nat.reduceLT, Nat.reduceEqDiff, Nat.reduceAdd, Nat.reduceMul, Nat.reduceLeDiff, Nat.reduceSub, r51_5_go, r51_5U, r51_7_go, r51_7U, f3, f4, f7, f8, f9, f10, f11, f12, f13, f14, c3, c4, h4, hm4, ht, htm, e2, neqBool, neg_one, neg_zero, neg_less, n1, n0, Int.reduceBEq, Int.reduceNeg, Int.reduceLT, Int.reduceLE, Int.reduceGT, decide_true, decide_false, bne_self_eq_false, Bool.false_bne, Bool.true_bne, Bool.not_true, Bool.not_false, skipR_go, Nat.le_refl]
       exact ⟨_, _, rfl, by simp -implicitDefEqProofs only [upd_go, kept_go, ↓reduceIte, Nat.reduceEqDiff, Nat.reduceLT, reduceCtorEq]⟩)
end Go.Proofs.YtokieofohmgjdaaGreatDoor
/- ordered: of valid data it is true. -/
namespace Go.Proofs.YtokieofohmgjdaaGreatDoor
open Go Go.Eng
attribute [local congr] andThen_congr fops_congr fdraw_congr afterOp_congr drawF_congr
attribute [-go_sem] List.range_succ
theorem ordU_three (d e : D) : ordU d e = -1 ∨ ordU d e = 0 ∨ ordU d e = 1 := by
  have := ordU_range d e
  omega
theorem ordered_go (M n N : Nat) (hM : M = n + 1 + 3 * N) (a b c : D) (ha : Apart M a) (hb : Apart M b) (hc : Apart M c) (ha' : a.deep ≤ N) (hb' : b.deep ≤ N) (hc' : c.deep ≤ N) (lv mv nv : List Value) (h4 : lv.length = 4) (hm4 : mv.length = 4) (hn4 : nv.length = 4) (σ : FState) (hw : Wf σ)
    (hL : LaidR (fun b => b < σ.next) σ (.agg lv.toArray) a) (hLb : LaidR (fun b => b < σ.next) σ (.agg mv.toArray) b) (hLc : LaidR (fun b => b < σ.next) σ (.agg nv.toArray) c) :
    Gives ((env (M + 10)).call 51 [.agg lv.toArray, .agg mv.toArray, .agg nv.toArray] none σ) σ fun w _ => w = .bool true := by
  have ht : lv.take 4 = lv := List.take_of_length_le (by omega)
  have htm : mv.take 4 = mv := List.take_of_length_le (by omega)
  have htn : nv.take 4 = nv := List.take_of_length_le (by omega)
  rw [show M + 10 = (M + 9) + 1 by omega, env_call _ 51 _ _ rfl, enter51 _ _ _ _ (by simp), Sl_start]
  unfold run51
  have x1 : Ext σ (((σ.push (.cells lv TD) none).push (.cells mv TD) none).push (.cells nv TD) none) := (((Ext.refl _).push _ _).push _ _).push _ _
  have hw1 := ((hw.push (.cells lv TD) none).push (.cells mv TD) none).push (.cells nv TD) none
  have c1 : (((σ.push (.cells lv TD) none).push (.cells mv TD) none).push (.cells nv TD) none).cells σ.next = some lv := by rw [cells_push, if_neg (by simp only [push_next]; omega), cells_push, if_neg (by rw [push_next]; omega), cells_push, if_pos rfl]; rfl
  have c2 : (((σ.push (.cells lv TD) none).push (.cells mv TD) none).push (.cells nv TD) none).cells (σ.next + 1) = some mv := by rw [cells_push, if_neg (by simp only [push_next]; omega), cells_push, if_pos (by rw [push_next])]; rfl
  have c3 : (((σ.push (.cells lv TD) none).push (.cells mv TD) none).push (.cells nv TD) none).cells (σ.next + 2) = some nv := by rw [cells_push, if_pos (by simp only [push_next])]; rfl
  simp -implicitDefEqProofs only [go_sem, ↓reduceIte, Nat.reduceLT, Nat.reduceEqDiff, Nat.reduceAdd, Nat.reduceMul, Nat.reduceLeDiff, Nat.reduceSub, r51_0_go, r51_0U, r51_1_go, r51_1U, r51_2_go, r51_2U, r51_3_go, r51_3U, r51_4_go, r51_4U, Option.getD_some, List.getElem?_cons_zero, List.getElem?_cons_succ]
  generalize (((σ.push (.cells lv TD) none).push (.cells mv TD) none).push (.cells nv TD) none) = σ1 at x1 hw1 c1 c2 c3 ⊢
  have k1 : ∀ b cs, b < σ.next → σ.cells b = some cs → σ1.cells b = some cs := fun b cs hb hc => (x1.cells hb).trans hc
  have n1 := x1.next
  have L1 : LaidR (fun b => b < σ1.next) σ1 (.agg lv.toArray) a := hL.keep fun b cs hb hc => ⟨k1 b cs hb hc, by omega⟩
  have L1b : LaidR (fun b => b < σ1.next) σ1 (.agg mv.toArray) b := hLb.keep fun b cs hb hc => ⟨k1 b cs hb hc, by omega⟩
  have L1c : LaidR (fun b => b < σ1.next) σ1 (.agg nv.toArray) c := hLc.keep fun b cs hb hc => ⟨k1 b cs hb hc, by omega⟩
  have step : ∀ {τ τ' : FState}, Ext τ τ' → Wf τ → ∀ {v : Value} {d : D}, LaidR (fun b => b < τ.next) τ v d → LaidR (fun b => b < τ'.next) τ' v d := fun hX hw v d h => h.keep fun b cs hb hc => ⟨(hX.cells hb).trans hc, by have := hX.next; omega⟩
  obtain ⟨_, σ2, e2, x2, hw2, rfl⟩ := compare_go M n N hM a b ha hb ha' lv mv h4 hm4 σ1 hw1 L1 L1b
  obtain ⟨_, σ3, e3, x3, hw3, rfl⟩ := compare_go M n N hM b a hb ha hb' mv lv hm4 h4 σ2 hw2 (step x2 hw1 L1b) (step x2 hw1 L1)
  obtain ⟨_, σ4, e4, x4, hw4, rfl⟩ := compare_go M n N hM b c hb hc hb' mv nv hm4 hn4 σ3 hw3 (step x3 hw2 (step x2 hw1 L1b)) (step x3 hw2 (step x2 hw1 L1c))
  obtain ⟨_, σ5, e5, x5, hw5, rfl⟩ := compare_go M n N hM a c ha hc ha' lv nv h4 hn4 σ4 hw4 (step x4 hw3 (step x3 hw2 (step x2 hw1 L1))) (step x4 hw3 (step x3 hw2 (step x2 hw1 L1c)))
  have c12 := (x2.cells (hw1.cells c1)).trans c1
  have c22 := (x2.cells (hw1.cells c2)).trans c2
  have c32 := (x2.cells (hw1.cells c3)).trans c3
  have c13 := (x3.cells (hw2.cells c12)).trans c12
  have c23 := (x3.cells (hw2.cells c22)).trans c22
  have c33 := (x3.cells (hw2.cells c32)).trans c32
  have c14 := (x4.cells (hw3.cells c13)).trans c13
  have c24 := (x4.cells (hw3.cells c23)).trans c23
  have c34 := (x4.cells (hw3.cells c33)).trans c33
  have c15 := (x5.cells (hw4.cells c14)).trans c14
  have c25 := (x5.cells (hw4.cells c24)).trans c24
  obtain ⟨_, σ6, e6, x6, hw6, rfl⟩ := eqDatum_go (M + 9 - 2 * N) N a b (.agg lv.toArray) (.agg mv.toArray) σ5 ha' (by have := ha.count; omega) hw5 (step x5 hw4 (step x4 hw3 (step x3 hw2 (step x2 hw1 L1)))).laid (step x5 hw4 (step x4 hw3 (step x3 hw2 (step x2 hw1 L1b)))).laid
  rw [show M + 9 - 2 * N + 2 * N = M + 9 by omega] at e6
  have sw := ordU_swap a b
  have hl := ordU_law a b c
  have hpe : D.same a b = (ordU a b == 0) := by
    by_cases h : a = b
    · rw [(same_iff a b).2 h, (ordU_zero a b).2 h]; rfl
    · rw [show D.same a b = false by rw [← Bool.not_eq_true, same_iff]; exact h, show (ordU a b == 0) = false by rw [beq_eq_false_iff_ne, ne_eq, ordU_zero]; exact h]
  rw [sw] at e3
  have hp3 := ordU_three a b
  have hr3 := ordU_three b c
  have hs3 := ordU_three a c
  generalize ordU a b = p at *
  generalize ordU b c = r at *
  generalize ordU a c = s at *
  simp -implicitDefEqProofs only [go_sem, ↓reduceIte, Nat.reduceLT, Nat.reduceEqDiff, Nat.reduceAdd, Nat.reduceMul, Nat.reduceLeDiff, Nat.reduceSub, r51_1_go, r51_1U, r51_2_go, r51_2U, r51_3_go, r51_3U, r51_4_go, r51_4U, c1, c2, c3, c12, c22, c32, c13, c23, c33, c14, c24, c34, h4, hm4, hn4, ht, htm, htn, e2, e3, e4, e5, Nat.le_refl]
  generalize hff : upd _ 14 _ = f1
  generalize hgg : upd _ 38 _ = g1
  have h := ordered_rest (env (M + 9)) σ.next (σ.next + 1) lv mv h4 hm4 p r s _ f1 g1 σ5 σ6 hp3 hr3 hs3 hl hpe c15 c25 e6 (by rw [← hff]; simp -implicitDefEqProofs only [upd_go, kept_go, ↓reduceIte, Nat.reduceEqDiff, Nat.reduceLT, reduceCtorEq]) (by rw [← hff]; simp -implicitDefEqProofs only [upd_go, kept_go, ↓reduceIte, Nat.reduceEqDiff, Nat.reduceLT, reduceCtorEq]) (by rw [← hff]; simp -implicitDefEqProofs only [upd_go, kept_go, ↓reduceIte, Nat.reduceEqDiff, Nat.reduceLT, reduceCtorEq]) (by rw [← hff]; simp -implicitDefEqProofs only [upd_go, kept_go, ↓reduceIte, Nat.reduceEqDiff, Nat.reduceLT, reduceCtorEq]) (by rw [← hff]; simp -implicitDefEqProofs only [upd_go, kept_go, ↓reduceIte, Nat.reduceEqDiff, Nat.reduceLT, reduceCtorEq]) (by rw [← hff]; simp -implicitDefEqProofs only [upd_go, kept_go, ↓reduceIte, Nat.reduceEqDiff, Nat.reduceLT, reduceCtorEq]) (by rw [← hff]; simp -implicitDefEqProofs only [upd_go, kept_go, ↓reduceIte, Nat.reduceEqDiff, Nat.reduceLT, reduceCtorEq]) (by rw [← hff]; simp -implicitDefEqProofs only [upd_go, kept_go, ↓reduceIte, Nat.reduceEqDiff, Nat.reduceLT, reduceCtorEq]) (by rw [← hff]; simp -implicitDefEqProofs only [upd_go, kept_go, ↓reduceIte, Nat.reduceEqDiff, Nat.reduceLT, reduceCtorEq]) (by rw [← hff]; simp -implicitDefEqProofs only [upd_go, kept_go, ↓reduceIte, Nat.reduceEqDiff, Nat.reduceLT, reduceCtorEq])
  rw [seqR_go, seqR_go] at h
  obtain ⟨f', g', e, q6⟩ := h
  rw [e]
  simp -implicitDefEqProofs only [go_sem, ↓reduceIte, Nat.reduceLT, Nat.reduceEqDiff, Nat.reduceAdd, Nat.reduceMul, Nat.reduceLeDiff, Nat.reduceSub, q6]
  exact ⟨_, _, rfl, ((((x1.trans x2).trans x3).trans x4).trans x5).trans x6, hw6, rfl⟩
end Go.Proofs.YtokieofohmgjdaaGreatDoor
