/- A contract of a call that makes new memory, writes two cells that there were, side by side, and answers true. -/
import Derived.Test.YtaijefddfkcfhaaGreatDoorEngAI
namespace Go.Eng
open Go

section
variable [Pins] {P : Program} {m : Mp} {σ : FState} {w : World} {f : FuncId} {fn : Func} {body : Code} {args' : Array Value}

theorem CallOK.of_store2 (hf : P.funcs[f]? = some fn) (hb : fn.body = some body) (hname : (fn.name == "runtime.NumGoroutine") = false) (hr : Rel Top m σ w) {p p' x x' y y' : Value} {σ' : FState} (hst : fstore 2 p (.agg #[x, y]) σ = .skip σ') (hp : VRel m p p') (hx : VRel m x x') (hy : VRel m y y')
    (h : ∀ (t : Addr) (old old2 : Value), p' = .pointer (some t) → x'.oneCell' = true → y'.oneCell' = true → w.cell? t = some old → w.frozen? t = false → w.cell? (t.add 1) = some old2 → w.frozen? (t.add 1) = false → ∃ w4 : World, (∀ j, j < w.heap.size → w4.heap[j]? = w.heap[j]?) ∧ w.heap.size ≤ w4.heap.size ∧ w4.os = w.os ∧ w4.tape = w.tape ∧ w4.output = w.output ∧
      Calls P f args' w fun e w' => e = .returned (.bool true) ∧ w' = (w4.setCell t x').setCell (t.add 1) y') : CallOK P m σ w f args' none (.ret (.bool true) none σ') := by
  obtain ⟨b, off, ent, c, el, c', rfl, hg, ho, hro, hc, hs, rfl⟩ := fstore_inv hst
  have hvc : valCells (.agg #[x, y]) = [x, y] := rfl
  rw [hvc] at hc hs
  generalize hpp : p' = pp at hp
  cases hp with
  | ptr hm =>
    rename_i e
    have hcc : oneCell x = true ∧ oneCell y = true := by simpa using (Bool.and_eq_true_iff.1 hc).2
    have hone : x'.oneCell' = true := one_eq (oneCell_of_rel hx hcc.1)
    have hone2 : y'.oneCell' = true := one_eq (oneCell_of_rel hy hcc.2)
    obtain ⟨hre, hsy⟩ := hr.sync b ent e trivial hg hm
    rw [ho] at hsy
    obtain ⟨ca, el', fr, h2, h3, h4, _⟩ := hsy
    have hoff : off + 1 < c.length := by
      rw [spliceN_eq] at hs
      by_cases hle : off + [x, y].length ≤ c.length
      · simp at hle
        omega
      · rw [if_neg hle] at hs
        cases hs
    obtain ⟨old, h5, _⟩ := h4 off c[off] (List.getElem?_eq_getElem (by omega))
    obtain ⟨old2, h52, _⟩ := h4 (off + 1) c[off + 1] (List.getElem?_eq_getElem hoff)
    have hlt : e.blk < w.heap.size := (hr.dom _ _ hm).2
    have hfr := h3 (by rw [← hre]; exact hro)
    have cell : ∀ w4 : World, w4.heap[e.blk]? = w.heap[e.blk]? → ∀ (o : Nat) (v : Value), ca[e.sh + o]? = some v → w4.cell? ⟨e.blk, e.sh + o, none⟩ = some v ∧ w4.frozen? ⟨e.blk, e.sh + o, none⟩ = false := fun w4 hw4 o v hv => by
      rw [h2] at hw4
      exact ⟨by simp [World.cell?, hw4, hv], by simp [World.frozen?, hw4, hfr]⟩
    have hadd : Addr.add ⟨e.blk, e.sh + off, none⟩ 1 = ⟨e.blk, e.sh + (off + 1), none⟩ := by simp [Addr.add, Nat.add_assoc]
    obtain ⟨w4, g1, g2, g3, g4, g5, g6⟩ := h _ old old2 hpp hone hone2 (cell w rfl off old h5).1 (cell w rfl off old h5).2 (by rw [hadd]; exact (cell w rfl (off + 1) old2 h52).1) (by rw [hadd]; exact (cell w rfl (off + 1) old2 h52).2)
    have hr4 : Rel Top m σ w4 := hr.moreWorld g1 g2
    have hS4 : Step σ σ m m w w4 := (Step.refl σ m w).moreWorld g1 g2 g3 g4 g5
    obtain ⟨w', k1, k2, k3⟩ := hr4.splice (P := P) hm hg ho hro hs (.cons hx (.cons hy .nil)) (fun v hv => by
      rcases List.mem_cons.1 hv with rfl | hv
      · exact hone
      · rw [List.mem_singleton] at hv
        rw [hv]
        exact hone2)
    have c1 := cell w4 (g1 _ hlt) off old h5
    have c2 := cell w4 (g1 _ hlt) (off + 1) old2 h52
    have hne : ((e.sh + off : Nat)) ≠ e.sh + (off + 1) := by omega
    have hc2 : (w4.setCell ⟨e.blk, e.sh + off, none⟩ x').cell? ⟨e.blk, e.sh + (off + 1), none⟩ = some old2 := by
      have hw4 := g1 _ hlt
      rw [h2] at hw4
      simp [World.setCell, World.cell?, Array.getElem?_modify, hw4, h52, Array.getElem?_setIfInBounds, Array.getElem?_set]
    have hf2 : (w4.setCell ⟨e.blk, e.sh + off, none⟩ x').frozen? ⟨e.blk, e.sh + (off + 1), none⟩ = false := (World.frozen?_setCell _ _ _ _).trans c2.2
    have hrun : (storeCells ⟨e.blk, e.sh + off, none⟩ [x', y']).run P w4 = .ok () ((w4.setCell ⟨e.blk, e.sh + off, none⟩ x').setCell (Addr.add ⟨e.blk, e.sh + off, none⟩ 1) y') := by
      show (do store (Addr.add ⟨e.blk, e.sh + off, none⟩ 0) x'; (do store (Addr.add ⟨e.blk, e.sh + off, none⟩ 1) y'; pure ()) : Sem Unit).run P w4 = _
      rw [Sem.run_bind, run_store P w4 _ _ _ hone]
      rw [hadd]
      simp [Addr.add, c1.1, c1.2, Result.andThen, Sem.run_bind, run_store P _ _ _ _ hone2, hc2, hf2]
    rw [hrun] at k1
    cases k1
    exact CallOK.of_calls hf hb hname g6 k2 (hS4.trans k3) (.bool true)
end
end Go.Eng
