/- What the reading is told of errors.As is so: it rests on what the variable errors.errorType holds when the call begins. -/
import Derived.Test.YthojmbjflcanfaaGreatDoorAs
import Derived.Test.YthojmbjflcanfaaGreatDoorEngAI
namespace Go.Proofs.YthojmbjflcanfaaGreatDoor
open Go Go.Eng

def nls : List Nat := [0, 0, 0, 18, 24, 31, 33, 23, 27, 13, 26, 21, 13, 26, 17, 13, 13, 2, 20, 7, 2, 5, 6, 8, 2, 5, 5, 4, 6, 4, 7, 11, 6, 4, 7, 4, 9, 6, 7, 5, 2, 7, 2, 6, 6, 4, 9, 2, 9, 7, 2, 4, 9, 6, 4, 7, 6, 6, 10, 2, 0, 2, 2, 2, 2, 0, 4, 2, 15, 4, 4, 9, 10, 4, 8, 7, 4, 2, 4, 2, 4, 6, 4, 3, 6, 5, 4, 1, 8, 2, 5, 4, 1, 6, 2, 6, 5, 9, 4, 2, 6, 7, 4, 2, 12, 9, 4, 1, 6, 4, 5, 4, 5, 2, 8, 6, 3, 4, 6, 2, 2, 7, 9, 4, 2, 8, 7, 4, 9, 5, 4, 2, 6, 6, 4, 5, 2, 2, 3, 7, 2, 2, 6, 7, 4, 2, 4, 2, 2, 2, 2, 2, 7, 2, 4, 8, 8, 4, 4, 2, 1, 19, 2, 5, 4, 2, 4, 10, 1, 1, 1, 16, 4, 5, 8, 11, 11, 13, 8, 11, 4, 11, 12, 3, 3, 2, 1, 1, 2, 2, 10, 2, 2, 6, 10, 2, 4, 8, 17, 4, 2, 2, 2, 4, 2, 1, 1, 1, 1, 1, 1, 1, 1, 1, 1, 1, 1, 1, 1, 1, 1, 1, 1, 2, 4, 4, 4, 2, 1, 2, 4, 2, 4, 2, 4, 11, 1, 1, 1, 1, 2, 1, 1, 2, 1, 1, 1, 1, 1, 1, 1, 0, 0, 0, 0]
/-- errors.As, told: at no error, and where the error's own type is the target's. -/
noncomputable def sums : Sums := fun f args σ =>
  cond (Nat.beq f 155) (match args with
    | [.nilIface, _] => some (.ret (.bool false) none σ)
    | [.iface t (.agg cs), .iface pt p] => cond (Nat.beq t 169 && Nat.beq pt 171) (match cs.toList with
      | [x] => (match fstore 1 p (.agg #[x]) σ with | .skip σ' => some (.ret (.bool true) none σ') | _ => none)
      | _ => none) none
    | _ => none) none

def handle : Value := .iface 210 (.agg #[.pointer (some ⟨2, 166, none⟩)])
theorem as_mixed : Tryz.prog.follows .mixedOrders = true := by kernel_rfl
theorem as_named : (Tryz.prog.funcs.toList.all fun fn => !(fn.name == "runtime.NumGoroutine")) = true := by kernel_rfl
theorem as_names (f : FuncId) (fn : Func) (h : Tryz.prog.funcs[f]? = some fn) : (fn.name == "runtime.NumGoroutine") = false := by
  have := List.all_eq_true.1 as_named fn (by
    rw [Array.mem_toList_iff]
    exact Array.mem_of_getElem? h)
  simpa using this

theorem sums_ok (W : World) (hg : W.cell? ⟨0, 0, none⟩ = some handle) : @SumOK (pinsOf W) Tryz.prog sums := by
  letI := pinsOf W
  intro f args σ r m w args' h hr hA
  unfold sums at h
  cases hf : Nat.beq f 155 with
  | false => rw [hf] at h; cases h
  | true =>
    rw [hf] at h
    rw [Nat.beq_eq] at hf
    subst hf
    have hname := as_names 155 _ Tryz.func155
    obtain ⟨L'⟩ := args'
    simp only [cond_true] at h
    split at h
    · rename_i p
      cases h
      match L', hA with
      | [a', p'], hA =>
        have h1 := hA.head
        cases h1
        exact CallOK.of_calls Tryz.func155 rfl hname (as_nil p' w) hr (.refl _ _ _) (.bool false)
      | [], hA => simp [LRel] at hA
      | [_], hA => simp [LRel] at hA
      | _ :: _ :: _ :: _, hA => simp [LRel] at hA
    · rename_i t cs pt p
      cases hc : (Nat.beq t 169 && Nat.beq pt 171) with
      | false => rw [hc] at h; cases h
      | true =>
        rw [hc] at h
        simp only [Bool.and_eq_true, Nat.beq_eq] at hc
        obtain ⟨rfl, rfl⟩ := hc
        simp only [cond_true] at h
        split at h
        · rename_i x hx
          split at h
          · rename_i σ' hst
            cases h
            match L', hA with
            | [a', p'], hA =>
              have h1 := hA.head
              have h2 := hA.tail.head
              cases h1 with
              | iface _ h1 =>
              cases h2 with
              | iface _ h2 =>
              rename_i v' q'
              cases h1 with
              | agg hsz hel =>
                rename_i cs'
                have hcs : cs = #[x] := by
                  apply Array.ext'
                  simpa using hx
                subst hcs
                obtain ⟨l'⟩ := cs'
                match l', hsz, hel with
                | [x'], hsz, hel =>
                  have hxx : VRel m x x' := hel 0 x x' rfl rfl
                  refine CallOK.of_store Tryz.func155 rfl hname hr hst h2 hxx fun ta old hp hone hct hfr => ?_
                  subst hp
                  have hgw : w.cell? ⟨0, 0, none⟩ = some handle := by
                    cases ho : W.heap[0]? with
                    | none => simp [World.cell?, ho] at hg
                    | some o =>
                      have := (hr.pin 0 o ho).1
                      rw [← hg]
                      simp [World.cell?, ho, this]
                  have hlt : ∀ (w : World) (o : Obj) (j : Nat), j < w.heap.size → (w.alloc o).heap[j]? = w.heap[j]? := fun w o j hj => by
                    show (w.heap.push o)[j]? = _
                    exact (Array.getElem?_push_lt hj).trans (Array.getElem?_eq_getElem hj).symm
                  have hs : ∀ (w : World) (o : Obj), (w.alloc o).heap.size = w.heap.size + 1 := fun w o => by
                    show (w.heap.push o).size = _
                    simp
                  have hhit := as_hit x' ta old w hone hgw hct hfr
                  refine ⟨_, ?_, ?_, ?_, ?_, ?_, hhit⟩
                  · intro j hj
                    rw [hlt _ _ j (by rw [hs, hs, hs]; omega), hlt _ _ j (by rw [hs, hs]; omega), hlt _ _ j (by rw [hs]; omega), hlt _ _ j hj]
                  · rw [hs, hs, hs, hs]
                    omega
                  · rfl
                  · rfl
                  · rfl
                | [], hsz, hel => simp at hsz
                | _ :: _ :: _, hsz, hel => simp at hsz
            | [], hA => simp [LRel] at hA
            | [_], hA => simp [LRel] at hA
            | _ :: _ :: _ :: _, hA => simp [LRel] at hA
          · cases h
        · cases h
    · cases h
end Go.Proofs.YthojmbjflcanfaaGreatDoor
