/- What the reading is told of errors.As is so: it rests on what the variable errors.errorType holds when the call begins. -/
import Derived.Test.YtaijefddfkcfhaaGreatDoorAs
import Derived.Test.YtaijefddfkcfhaaGreatDoorEngAJ
import Derived.Test.YtaijefddfkcfhaaGreatDoorSymH
namespace Go.Proofs.YtaijefddfkcfhaaGreatDoor
open Go Go.Eng

def handle : Value := .iface 212 (.agg #[.pointer (some ⟨2, 120, none⟩)])
theorem as_mixed : Tryz.prog.follows .mixedOrders = true := by kernel_rfl
theorem as_named : (Tryz.prog.funcs.toList.all fun fn => !(fn.name == "runtime.NumGoroutine")) = true := by kernel_rfl
theorem as_names (f : FuncId) (fn : Func) (h : Tryz.prog.funcs[f]? = some fn) : (fn.name == "runtime.NumGoroutine") = false := by
  have := List.all_eq_true.1 as_named fn (by
    rw [Array.mem_toList_iff]
    exact Array.mem_of_getElem? h)
  simpa using this

theorem sums_ok' [Pins] (W : World) (hpin : ∀ o, W.heap[0]? = some o → Pins.on 0 o) (hg : W.cell? ⟨0, 0, none⟩ = some handle) : SumOK Tryz.prog sums := by
  intro f args σ r m w args' h hr hA
  unfold sums at h
  cases hf : Nat.beq f 104 with
  | false => rw [hf] at h; cases h
  | true =>
    rw [hf] at h
    rw [Nat.beq_eq] at hf
    subst hf
    have hname := as_names 104 _ Tryz.func104
    obtain ⟨L'⟩ := args'
    simp only [cond_true] at h
    split at h
    · rename_i p
      cases h
      match L', hA with
      | [a', p'], hA =>
        have h1 := hA.head
        cases h1
        exact CallOK.of_calls Tryz.func104 rfl hname (as_nil p' w) hr (.refl _ _ _) (.bool false)
      | [], hA => simp [LRel] at hA
      | [_], hA => simp [LRel] at hA
      | _ :: _ :: _ :: _, hA => simp [LRel] at hA
    · rename_i t cs pt p
      cases hc : (Nat.beq t 122 && Nat.beq pt 137) with
      | false => rw [hc] at h; cases h
      | true =>
        rw [hc] at h
        simp only [Bool.and_eq_true, Nat.beq_eq] at hc
        obtain ⟨rfl, rfl⟩ := hc
        simp only [cond_true] at h
        split at h
        · rename_i x y hx
          split at h
          · rename_i σ' hst
            cases h
            match L', hA with
            | [a', p'], hA =>
              have h1 := hA.head
              have h2 := hA.tail.head
              cases h1 with
              | iface _ h1 =>
              cases h2 with
              | iface _ h2 =>
              rename_i v' q'
              cases h1 with
              | agg hsz hel =>
                rename_i cs'
                have hcs : cs = #[x, y] := by
                  apply Array.ext'
                  simpa using hx
                subst hcs
                obtain ⟨l'⟩ := cs'
                match l', hsz, hel with
                | [x', y'], hsz, hel =>
                  have hxx : VRel m x x' := hel 0 x x' rfl rfl
                  have hyy : VRel m y y' := hel 1 y y' rfl rfl
                  refine CallOK.of_store2 Tryz.func104 rfl hname hr hst h2 hxx hyy fun ta old old2 hp hone hone2 hct hfr hct2 hfr2 => ?_
                  subst hp
                  have hgw : w.cell? ⟨0, 0, none⟩ = some handle := by
                    cases ho : W.heap[0]? with
                    | none => simp [World.cell?, ho] at hg
                    | some o =>
                      have := (hr.pin 0 o (hpin o ho)).1
                      rw [← hg]
                      simp [World.cell?, ho, this]
                  have hlt : ∀ (w : World) (o : Obj) (j : Nat), j < w.heap.size → (w.alloc o).heap[j]? = w.heap[j]? := fun w o j hj => by
                    show (w.heap.push o)[j]? = _
                    exact (Array.getElem?_push_lt hj).trans (Array.getElem?_eq_getElem hj).symm
                  have hs : ∀ (w : World) (o : Obj), (w.alloc o).heap.size = w.heap.size + 1 := fun w o => by
                    show (w.heap.push o).size = _
                    simp
                  have hhit := as_hit x' y' ta old old2 w hone hone2 hgw hct hfr hct2 hfr2
                  refine ⟨_, ?_, ?_, ?_, ?_, ?_, hhit⟩
                  · intro j hj
                    rw [hlt _ _ j (by rw [hs, hs, hs]; omega), hlt _ _ j (by rw [hs, hs]; omega), hlt _ _ j (by rw [hs]; omega), hlt _ _ j hj]
                  · rw [hs, hs, hs, hs]
                    omega
                  · rfl
                  · rfl
                  · rfl
                | [], hsz, hel => simp at hsz
                | [_], hsz, hel => simp at hsz
                | _ :: _ :: _ :: _, hsz, hel => simp at hsz
            | [], hA => simp [LRel] at hA
            | [_], hA => simp [LRel] at hA
            | _ :: _ :: _ :: _, hA => simp [LRel] at hA
          · cases h
        · cases h
    · cases h
theorem sums_ok (W : World) (hg : W.cell? ⟨0, 0, none⟩ = some handle) : @SumOK (pinsOf W) Tryz.prog sums := @sums_ok' (pinsOf W) W (fun _ h => h) hg
end Go.Proofs.YtaijefddfkcfhaaGreatDoor
