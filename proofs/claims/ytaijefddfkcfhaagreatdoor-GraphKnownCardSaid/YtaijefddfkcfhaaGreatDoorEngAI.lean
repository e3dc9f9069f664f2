/- What the reading says of a function without arguments is so of every run. -/
import Derived.Test.YtaijefddfkcfhaaGreatDoorEngAH
import GoSem.ClaimChange
namespace Go.Eng
open Go

/-- All that is there stays. -/
abbrev pinsOf (W : World) : Pins := ⟨fun k o => W.heap[k]? = some o⟩

theorem keptBut_same {w w' : World} (hos : w'.os = w.os) (hout : w'.output = w.output) (hk : ∀ i, i < w.heap.size → w'.heap[i]? = w.heap[i]?) (may : MemPlace → Prop) : World.keptBut w w' may := by
  refine ⟨hos, hout, fun i hi => ?_⟩
  rw [hk i hi]
  cases h : w.heap[i]? with
  | none => rfl
  | some o =>
    cases o with
    | cells c t fr => exact ⟨rfl, rfl, rfl, fun _ _ => rfl⟩
    | map es ck => exact .inr ⟨rfl, rfl⟩
    | _ => rfl

section
variable [Pins] {P : Program} {m : Mp} {σ : FState} {w : World} {f : FuncId} {fn : Func} {body : Code} {args' : Array Value}

/-- A contract of a call, as the reading asks it. -/
theorem CallOK.of_calls (hf : P.funcs[f]? = some fn) (hb : fn.body = some body) (hname : (fn.name == "runtime.NumGoroutine") = false) {m' : Mp} {σ' : FState} {w1 : World} {v v' : Value}
    (h : Calls P f args' w fun e w' => e = .returned v' ∧ w' = w1) (hR : Rel Top m' σ' w1) (hS : Step σ σ' m m' w w1) (hV : VRel m' v v') : CallOK P m σ w f args' none (.ret v none σ') := by
  refine .inr ⟨callFunc_enter hf hb hname, fun cs hu => ?_⟩
  obtain ⟨e, w', fr, ⟨rfl, rfl⟩, hc, hfn, hl⟩ := h cs
  exact ⟨m', _, v', fr, cs, hR, hS, hV, hu, .refl _ _, StepsIn.of_steps hc, hfn, hl.2.2.1, ⟨hl.1, hl.2.1, hl.2.2.2⟩⟩

/-- A call that makes new memory and writes one cell that there was, and answers true. -/
theorem CallOK.of_store (hf : P.funcs[f]? = some fn) (hb : fn.body = some body) (hname : (fn.name == "runtime.NumGoroutine") = false) (hr : Rel Top m σ w) {p p' x x' : Value} {σ' : FState} (hst : fstore 1 p (.agg #[x]) σ = .skip σ') (hp : VRel m p p') (hx : VRel m x x')
    (h : ∀ (t : Addr) (old : Value), p' = .pointer (some t) → x'.oneCell' = true → w.cell? t = some old → w.frozen? t = false → ∃ w4 : World, (∀ j, j < w.heap.size → w4.heap[j]? = w.heap[j]?) ∧ w.heap.size ≤ w4.heap.size ∧ w4.os = w.os ∧ w4.tape = w.tape ∧ w4.output = w.output ∧
      Calls P f args' w fun e w' => e = .returned (.bool true) ∧ w' = w4.setCell t x') : CallOK P m σ w f args' none (.ret (.bool true) none σ') := by
  obtain ⟨b, off, ent, c, el, c', rfl, hg, ho, hro, hc, hs, rfl⟩ := fstore_inv hst
  have hvc : valCells (.agg #[x]) = [x] := rfl
  rw [hvc] at hc hs
  generalize hpp : p' = pp at hp
  cases hp with
  | ptr hm =>
    rename_i e
    have hone : x'.oneCell' = true := one_eq (oneCell_of_rel hx (by simp at hc; exact hc.2))
    obtain ⟨hre, hsy⟩ := hr.sync b ent e trivial hg hm
    rw [ho] at hsy
    obtain ⟨ca, el', fr, h2, h3, h4, _⟩ := hsy
    have hoff : off < c.length := by
      rw [spliceN_eq] at hs
      by_cases hle : off + [x].length ≤ c.length
      · simp at hle
        omega
      · rw [if_neg hle] at hs
        cases hs
    obtain ⟨old, h5, _⟩ := h4 off c[off] (List.getElem?_eq_getElem hoff)
    have hlt : e.blk < w.heap.size := (hr.dom _ _ hm).2
    have hfr := h3 (by rw [← hre]; exact hro)
    have cell : ∀ w4 : World, w4.heap[e.blk]? = w.heap[e.blk]? → w4.cell? ⟨e.blk, e.sh + off, none⟩ = some old ∧ w4.frozen? ⟨e.blk, e.sh + off, none⟩ = false := fun w4 hw4 => by
      rw [h2] at hw4
      exact ⟨by simp [World.cell?, hw4, h5], by simp [World.frozen?, hw4, hfr]⟩
    obtain ⟨w4, g1, g2, g3, g4, g5, g6⟩ := h _ old hpp hone (cell w rfl).1 (cell w rfl).2
    have hr4 : Rel Top m σ w4 := hr.moreWorld g1 g2
    have hS4 : Step σ σ m m w w4 := (Step.refl σ m w).moreWorld g1 g2 g3 g4 g5
    obtain ⟨w', k1, k2, k3⟩ := hr4.splice (P := P) hm hg ho hro hs (.cons hx .nil) (fun v hv => by
      rw [List.mem_singleton] at hv
      rw [hv]
      exact hone)
    have hrun : (storeCells ⟨e.blk, e.sh + off, none⟩ [x']).run P w4 = .ok () (w4.setCell ⟨e.blk, e.sh + off, none⟩ x') := by
      show (do store (Addr.add ⟨e.blk, e.sh + off, none⟩ 0) x'; pure () : Sem Unit).run P w4 = _
      rw [Sem.run_bind, run_store P w4 _ _ _ hone]
      simp [Addr.add, (cell w4 (g1 _ hlt)).1, (cell w4 (g1 _ hlt)).2, Result.andThen]
    rw [hrun] at k1
    cases k1
    exact CallOK.of_calls hf hb hname g6 k2 (hS4.trans k3) (.bool true)
end

theorem says_true {P : Program} {S : Sums} {nls : Hints} {f : FuncId} {fn : Func} {body : Code} (hm : P.follows .mixedOrders = true) (hname : ∀ (f : FuncId) (fn : Func), P.funcs[f]? = some fn → (fn.name == "runtime.NumGoroutine") = false)
    (hf : P.funcs[f]? = some fn) (hb : fn.body = some body) (W : World) (hS : @SumOK (pinsOf W) P S) (h : saysTrue P S nls f = true) :
    Calls P f #[] W fun e W' => e = .returned (.bool true) ∧ W'.os = W.os ∧ W'.output = W.output ∧ W'.tape = W.tape ∧ W.heap.size ≤ W'.heap.size ∧ ∀ i, i < W.heap.size → W'.heap[i]? = W.heap[i]? := by
  letI := pinsOf W
  unfold saysTrue at h
  generalize (1000 : Nat) = n at h
  have hE := fenv_ok hS hm hname nls n
  have hget : ∀ b, Eng.empty.heap.get b = none := fun b => rfl
  have hrel : Rel Top (fun _ => none) Eng.empty W :=
    ⟨fun b ent e _ hb => (by rw [hget] at hb; cases hb), fun b b' ent ent' e e' _ hb => (by rw [hget] at hb; cases hb), fun b e hb => (by cases hb), fun b ent hb => (by rw [hget] at hb; cases hb), fun k o hk => ⟨hk, fun b e hb => (by cases hb)⟩⟩
  have hc := hE.call f [] none Eng.empty (fun _ => none) W #[] hrel .nil (fun md h => by cases h)
  generalize (fenv P S nls n).call f [] none Eng.empty = r at h hc
  cases r with
  | no => cases h
  | pan ch u' σ' => cases h
  | ret v u' σ' =>
    have hv : v = .bool true := by
      split at h
      · rename_i heq
        cases heq
        rfl
      · cases h
    subst hv
    rcases hc with ⟨_, _, _, v', hval, _⟩ | ⟨_, hgo⟩
    · have hent := callFunc_enter (P := P) (w := W) (args := #[]) hf hb (hname f fn hf)
      rw [hent] at hval
      cases hval
    · intro cs
      obtain ⟨m', w', v', fr, cs', hR, hS', hV, _, hun, hst, hfn, hk, hgoing⟩ := hgo cs rfl
      have hcs : cs' = cs := by
        rcases hun with h | ⟨h, _⟩
        · exact h
        · cases h
      subst hcs
      have hv' := hV.flat rfl
      subst hv'
      exact ⟨.returned (.bool true), w', fr, ⟨rfl, hS'.os, hS'.output, hS'.tape, hS'.size, fun i hi => hS'.keep i hi fun b e ent hb => by cases hb⟩, hst.steps, hfn, leaving_of_going hk hgoing⟩
end Go.Eng
