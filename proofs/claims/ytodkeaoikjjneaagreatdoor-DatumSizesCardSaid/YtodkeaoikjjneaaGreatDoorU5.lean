/- The reading of the program, and what is so of it: As, EngAJ, Sums, SymT, SymCS, SymLS. -/
import Derived.Test.YtodkeaoikjjneaaGreatDoorProg
import Derived.WalkKit
import Derived.LaidEql
import Derived.Stop.Asserts
import Derived.RowKitTokens
import Derived.Test.YtodkeaoikjjneaaGreatDoorU2
import Derived.Test.YtodkeaoikjjneaaGreatDoorU3
import Derived.Test.YtodkeaoikjjneaaGreatDoorU4
import Derived.Test.YtodkeaoikjjneaaGreatDoorZSymTL
set_option linter.unusedSimpArgs false
set_option linter.unusedVariables false
/- errors.As at a variable of the type of this program's own error: what a call of it does, at no error and at an error of that type. -/
namespace Go.Proofs.YtodkeaoikjjneaaGreatDoor
open Go Go.RowKit Go.Extern.Stop Go.Stop Go.Extern

theorem as_nil (t : Value) (w : World) : Calls Tryz.prog 147 #[.nilIface, t] w fun e w' => e = .returned (.bool false) ∧ w' = w := by
  go_enter Tryz.func147, Tryz.ntmps147
  go_wp2
  go_ret
  exact ⟨rfl, rfl⟩

theorem as_valueOfP (t : Addr) (w : World) : (ReflectliteValue.unpack (.iface 186 (.pointer (some t)))).run Tryz.prog w = .ok (.agg #[.pointer (some ⟨2, 186, none⟩), .pointer (some ⟨w.heap.size, 0, none⟩), .int .u64 150]) (w.alloc (.cells #[.pointer (some t)] 186)) := by kernel_rfl
theorem as_typeP (a : Addr) (w : World) : (ReflectliteValue.methodAny (ReflectliteValue.valueError "reflectlite.Value.Type" 0) (fun t _ _ _ => ReflectliteType.toType t) #[.agg #[.pointer (some ⟨2, 186, none⟩), .pointer (some a), .int .u64 150]]).run Tryz.prog w = .ok (.iface 220 (.agg #[.pointer (some ⟨2, 186, none⟩)])) w := by kernel_rfl
theorem as_mKind (h : Value) (w : World) : (Go.method 370 220 (.agg #[h]) "Kind").run Tryz.prog w = .ok (202, h) w := by kernel_rfl
theorem as_mElem (h : Value) (w : World) : (Go.method 370 220 (.agg #[h]) "Elem").run Tryz.prog w = .ok (225, .agg #[h]) w := by kernel_rfl
theorem as_mImpl (h : Value) (w : World) : (Go.method 370 220 (.agg #[h]) "Implements").run Tryz.prog w = .ok (226, .agg #[h]) w := by kernel_rfl
theorem as_mAssign (h : Value) (w : World) : (Go.method 370 220 (.agg #[h]) "AssignableTo").run Tryz.prog w = .ok (223, .agg #[h]) w := by kernel_rfl
theorem as_kindP (w : World) : ((ReflectliteType.abiMethod fun t => (fun a : Nat => Value.int IntKind.u8 (a : Int)) <$> Rtype.kind t) #[.pointer (some ⟨2, 186, none⟩)]).run Tryz.prog w = .ok (.int .u8 22) w := by kernel_rfl
theorem as_kindT (w : World) : ((ReflectliteType.abiMethod fun t => (fun a : Nat => Value.int IntKind.u8 (a : Int)) <$> Rtype.kind t) #[.pointer (some ⟨2, 166, none⟩)]).run Tryz.prog w = .ok (.int .u8 25) w := by kernel_rfl
theorem as_elemP (w : World) : (ReflectliteType.method ReflectliteType.elem #[.agg #[.pointer (some ⟨2, 186, none⟩)]]).run Tryz.prog w = .ok (.iface 220 (.agg #[.pointer (some ⟨2, 166, none⟩)])) w := by kernel_rfl
theorem as_impl (w : World) : (ReflectliteType.relation "Implements" ReflectliteType.implements_ #[.agg #[.pointer (some ⟨2, 166, none⟩)], .iface 220 (.agg #[.pointer (some ⟨2, 164, none⟩)])]).run Tryz.prog w = .ok (.bool true) w := by kernel_rfl
theorem as_typeOf (v : Value) (w : World) : (ReflectliteType.typeOf #[.iface 166 v]).run Tryz.prog w = .ok (.iface 220 (.agg #[.pointer (some ⟨2, 166, none⟩)])) w := by kernel_rfl
theorem as_assign (w : World) : (ReflectliteType.relation "AssignableTo" ReflectliteType.assignableTo #[.agg #[.pointer (some ⟨2, 166, none⟩)], (.iface 220 (.agg #[.pointer (some ⟨2, 166, none⟩)]))]).run Tryz.prog w = .ok (.bool true) w := by kernel_rfl
theorem as_valueOfT (x y : Value) (w : World) : (ReflectliteValue.unpack (.iface 166 (.agg #[x, y]))).run Tryz.prog w = .ok (.agg #[.pointer (some ⟨2, 166, none⟩), .pointer (some ⟨w.heap.size, 0, none⟩), .int .u64 153]) (w.alloc (.cells #[x, y] 166)) := by kernel_rfl
theorem as_partsP (a : Addr) (w : World) : (ReflectliteValue.parts (.agg #[.pointer (some ⟨2, 186, none⟩), .pointer (some a), .int .u64 150])).run Tryz.prog w = .ok (some (186, a, 150)) w := by kernel_rfl
theorem as_partsA (a : Addr) (w : World) : (ReflectliteValue.parts (.agg #[.pointer (some ⟨2, 166, none⟩), .pointer (some a), .int .u64 409])).run Tryz.prog w = .ok (some (166, a, 409)) w := by kernel_rfl
theorem as_partsT (a : Addr) (w : World) : (ReflectliteValue.parts (.agg #[.pointer (some ⟨2, 166, none⟩), .pointer (some a), .int .u64 153])).run Tryz.prog w = .ok (some (166, a, 153)) w := by kernel_rfl
theorem as_elemOf (w : World) : (Rtype.elem? 186).run Tryz.prog w = .ok (some 166) w := by kernel_rfl
theorem as_mk (p : Addr) (w : World) : (ReflectliteValue.mk 166 p ReflectliteValue.flagAddr).run Tryz.prog w = .ok (.agg #[.pointer (some ⟨2, 166, none⟩), .pointer (some p), .int .u64 409]) w := by kernel_rfl
theorem as_direct (w : World) : (Rtype.directlyAssignable 166 166).run Tryz.prog w = .ok true w := by kernel_rfl
theorem as_size (w : World) : (sizeOf 166).run Tryz.prog w = .ok 2 w := by kernel_rfl
theorem as_aggP (w : World) : (isAgg 186).run Tryz.prog w = .ok false w := by kernel_rfl
theorem as_aggT (w : World) : (isAgg 166).run Tryz.prog w = .ok true w := by kernel_rfl

theorem as_loadP (a p : Addr) (W : World) (ha : W.cell? a = some (.pointer (some p))) : (loadVar 186 a).run Tryz.prog W = .ok (.pointer (some p)) W := by
  simp [loadVar, as_aggP, ha, Result.andThen]
theorem as_loadT (b : Addr) (x y : Value) (W : World) (hb : W.cell? b = some x) (hb2 : W.cell? (b.add 1) = some y) : (loadVar 166 b).run Tryz.prog W = .ok (.agg #[x, y]) W := by
  have h2 : W.cell? ⟨b.block, b.off + 1, none⟩ = some y := hb2
  simp [loadVar, as_aggT, as_size, loadCells, loadCellsFrom, Addr.add, hb, h2, Result.andThen]
theorem as_method (z : Sem Value) (f : TypeId → Addr → Nat → Nat → Sem Value) (v : Value) : ReflectliteValue.method z f #[v] = (do match ← ReflectliteValue.parts v with | none => z | some (t, a, fl) => f t a fl (fl % 32)) := rfl
theorem as_isNil (a p : Addr) (W : World) (ha : W.cell? a = some (.pointer (some p))) :
    (ReflectliteValue.method (ReflectliteValue.valueError "reflectlite.Value.IsNil" 0) ReflectliteValue.isNil #[.agg #[.pointer (some ⟨2, 186, none⟩), .pointer (some a), .int .u64 150]]).run Tryz.prog W = .ok (.bool false) W := by
  rw [as_method]
  simp only [Sem.run_bind, as_partsP, Result.andThen]
  simp [ReflectliteValue.isNil, as_loadP a p W ha, Result.andThen]
theorem as_elemV (a p : Addr) (W : World) (ha : W.cell? a = some (.pointer (some p))) :
    (ReflectliteValue.method (ReflectliteValue.valueError "reflectlite.Value.Elem" 0) ReflectliteValue.elem #[.agg #[.pointer (some ⟨2, 186, none⟩), .pointer (some a), .int .u64 150]]).run Tryz.prog W = .ok (.agg #[.pointer (some ⟨2, 166, none⟩), .pointer (some p), .int .u64 409]) W := by
  rw [as_method]
  simp only [Sem.run_bind, as_partsP, Result.andThen]
  simp [ReflectliteValue.elem, as_loadP a p W ha, Result.andThen, as_elemOf, as_mk]
theorem as_still (a c : Addr) (x o : Value) (W : World) (h : W.cell? c = some o) : ∃ o', (W.setCell a x).cell? c = some o' := by
  by_cases hb : a.block = c.block
  · cases hh : W.heap[c.block]? with
    | none => simp [World.cell?, hh] at h
    | some ob =>
      cases ob with
      | cells c1 t1 f1 =>
        have h3 : c.spot = none ∧ c1[c.off]? = some o := by
          simp only [World.cell?, hh] at h
          cases hs : c.spot with
          | none => simpa [hs] using h
          | some q => simp [hs] at h
        have hlt : c.off < c1.size := (Array.getElem?_eq_some_iff.1 h3.2).1
        refine ⟨(if a.spot.isSome then c1 else c1.setIfInBounds a.off x)[c.off]'(by split <;> simpa using hlt), ?_⟩
        simp only [World.cell?, World.setCell, Array.getElem?_modify, hb, hh, h3.1, ↓reduceIte, Option.map_some, Option.isSome_none, Bool.false_eq_true]
        exact Array.getElem?_eq_getElem _
      | _ => simp [World.cell?, hh] at h
  · exact ⟨o, by simp [World.cell?, World.setCell, Array.getElem?_modify, hb] at h ⊢; exact h⟩
theorem as_set (ta b : Addr) (x y old old2 : Value) (W : World) (hx : x.oneCell' = true) (hy : y.oneCell' = true) (hb : W.cell? b = some x) (hb2 : W.cell? (b.add 1) = some y) (ht : W.cell? ta = some old) (hf : W.frozen? ta = false) (ht2 : W.cell? (ta.add 1) = some old2) (hf2 : W.frozen? (ta.add 1) = false) :
    (ReflectliteValue.set #[.agg #[.pointer (some ⟨2, 166, none⟩), .pointer (some ta), .int .u64 409], .agg #[.pointer (some ⟨2, 166, none⟩), .pointer (some b), .int .u64 153]]).run Tryz.prog W = .ok (.tuple #[]) ((W.setCell ta x).setCell (ta.add 1) y) := by
  have h1 : ReflectliteValue.set #[.agg #[.pointer (some ⟨2, 166, none⟩), .pointer (some ta), .int .u64 409], .agg #[.pointer (some ⟨2, 166, none⟩), .pointer (some b), .int .u64 153]] = (do
    let (some (dst, a, fl), some (src, b, _)) := (← ReflectliteValue.parts (.agg #[.pointer (some ⟨2, 166, none⟩), .pointer (some ta), .int .u64 409]), ← ReflectliteValue.parts (.agg #[.pointer (some ⟨2, 166, none⟩), .pointer (some b), .int .u64 153]))
      | unsupported (.noEntry "extern/(internal/reflectlite.Value).Set.zeroValue")
    if fl / ReflectliteValue.flagAddr % 2 == 0 then unsupported (.noEntry "extern/(internal/reflectlite.Value).Set.unaddressable")
    let val ← loadVar src b
    if ← Rtype.directlyAssignable dst src then storeVar dst a val
    else if ← Rtype.implements dst src then
      if (← Rtype.kind src) == 20 then
        match val with
        | .nilIface => unsupported (.noEntry "extern/reflectlite: a nil value of one interface type handed on as a value of another")
        | _ => storeVar dst a val
      else storeVar dst a (.iface src val)
    else panicString ("reflectlite.Set: value of type " ++ (← Rtype.spelt src) ++ " is not assignable to type " ++ (← Rtype.spelt dst))
    pure (.tuple #[])) := rfl
  rw [h1]
  simp only [Sem.run_bind, as_partsA, as_partsT, Result.andThen]
  have hne : ta ≠ ta.add 1 := fun h => by
    have h9 : ta.off = (ta.add 1).off := congrArg Addr.off h
    simp [Addr.add] at h9
  have hc2 : ∃ o, (W.setCell ta x).cell? (ta.add 1) = some o := as_still ta (ta.add 1) x old2 W ht2
  obtain ⟨o, hc2⟩ := hc2
  have hf3 : (W.setCell ta x).frozen? (ta.add 1) = false := (World.frozen?_setCell _ _ _ _).trans hf2
  have h8 : (storeCells ta [x, y]).run Tryz.prog W = .ok () ((W.setCell ta x).setCell (ta.add 1) y) := by
    show (do store (Addr.add ta 0) x; (do store (Addr.add ta 1) y; pure ()) : Sem Unit).run Tryz.prog W = _
    rw [Sem.run_bind, show Addr.add ta 0 = ta from rfl, run_store Tryz.prog W ta _ _ hx]
    simp only [ht, hf, Result.andThen, Bool.false_eq_true, if_false]
    rw [Sem.run_bind, run_store Tryz.prog _ (ta.add 1) _ _ hy]
    simp [hc2, hf3, Result.andThen]
  simp [ReflectliteValue.flagAddr, as_loadT b x y W hb hb2, Result.andThen, as_direct, storeVar, as_size, Value.cells, h8]

set_option maxHeartbeats 4000000 in
theorem as_hit (x y : Value) (t : Addr) (old old2 : Value) (w : World) (hx : x.oneCell' = true) (hy : y.oneCell' = true) (hg : w.cell? ⟨0, 0, none⟩ = some (.iface 220 (.agg #[.pointer (some ⟨2, 164, none⟩)]))) (ht0 : w.cell? t = some old) (hf0 : w.frozen? t = false) (ht2 : w.cell? (t.add 1) = some old2) (hf2 : w.frozen? (t.add 1) = false) :
    Calls Tryz.prog 147 #[.iface 166 (.agg #[x, y]), .iface 186 (.pointer (some t))] w fun ev w' => ev = .returned (.bool true) ∧ w' = (((((w.alloc (.cells #[.pointer (some t)] 186)).alloc (.cells #[.pointer (some ⟨2, 186, none⟩), .pointer (some ⟨w.heap.size, 0, none⟩), .int .u64 150] 202)).alloc (.cells #[.pointer (some ⟨2, 186, none⟩), .pointer (some ⟨w.heap.size, 0, none⟩), .int .u64 150] 202)).alloc (.cells #[x, y] 166)).setCell t x).setCell (t.add 1) y := by
  have h1 := @run_callFunc_extern Tryz.prog 162 _ (fun args => ReflectliteValue.unpack (args.getD 0 (.tuple #[]))) Tryz.func162 (by kernel_rfl) (by kernel_rfl) (by kernel_rfl) (by kernel_rfl)
  have h2 := @run_callFunc_extern Tryz.prog 163 _ (ReflectliteValue.methodAny (ReflectliteValue.valueError "reflectlite.Value.Type" 0) (fun t _ _ _ => ReflectliteType.toType t)) Tryz.func163 (by kernel_rfl) (by kernel_rfl) (by kernel_rfl) (by kernel_rfl)
  have h3 := @run_callFunc_extern Tryz.prog 164 _ (ReflectliteValue.method (ReflectliteValue.valueError "reflectlite.Value.IsNil" 0) ReflectliteValue.isNil) Tryz.func164 (by kernel_rfl) (by kernel_rfl) (by kernel_rfl) (by kernel_rfl)
  have h4 := @run_callFunc_extern Tryz.prog 202 _ (ReflectliteType.abiMethod fun t => do pure (.int .u8 (← Rtype.kind t))) Tryz.func202 (by kernel_rfl) (by kernel_rfl) (by kernel_rfl) (by kernel_rfl)
  have h5 := @run_callFunc_extern Tryz.prog 225 _ (ReflectliteType.method ReflectliteType.elem) Tryz.func225 (by kernel_rfl) (by kernel_rfl) (by kernel_rfl) (by kernel_rfl)
  have h6 := @run_callFunc_extern Tryz.prog 226 _ (ReflectliteType.relation "Implements" ReflectliteType.implements_) Tryz.func226 (by kernel_rfl) (by kernel_rfl) (by kernel_rfl) (by kernel_rfl)
  have h7 := @run_callFunc_extern Tryz.prog 175 _ ReflectliteType.typeOf Tryz.func175 (by kernel_rfl) (by kernel_rfl) (by kernel_rfl) (by kernel_rfl)
  have h8 := @run_callFunc_extern Tryz.prog 223 _ (ReflectliteType.relation "AssignableTo" ReflectliteType.assignableTo) Tryz.func223 (by kernel_rfl) (by kernel_rfl) (by kernel_rfl) (by kernel_rfl)
  have h9 := @run_callFunc_extern Tryz.prog 176 _ (ReflectliteValue.method (ReflectliteValue.valueError "reflectlite.Value.Elem" 0) ReflectliteValue.elem) Tryz.func176 (by kernel_rfl) (by kernel_rfl) (by kernel_rfl) (by kernel_rfl)
  have h10 := @run_callFunc_extern Tryz.prog 177 _ ReflectliteValue.set Tryz.func177 (by kernel_rfl) (by kernel_rfl) (by kernel_rfl) (by kernel_rfl)
  have k1 := as_typeOf
  have k2 := as_mAssign
  have k3 := as_assign
  have k4 := as_valueOfT
  have k5 := as_valueOfP
  have k6 := as_typeP
  have k7 := as_mKind
  have k8 := as_mElem
  have k9 := as_mImpl
  have k10 := as_kindP
  have k11 := as_kindT
  have k12 := as_elemP
  have k13 := as_impl
  have n8 := as_isNil ⟨w.heap.size, 0, none⟩ t ((w.alloc (.cells #[.pointer (some t)] 186)).alloc (.cells #[.pointer (some ⟨2, 186, none⟩), .pointer (some ⟨w.heap.size, 0, none⟩), .int .u64 150] 202)) (by simp)
  have hlt : 0 < w.heap.size := by
    rcases Nat.lt_or_ge 0 w.heap.size with h | h
    · exact h
    · simp [World.cell?, Array.getElem?_eq_none h] at hg
  have htl : t.block < w.heap.size := by
    rcases Nat.lt_or_ge t.block w.heap.size with h | h
    · exact h
    · simp [World.cell?, Array.getElem?_eq_none h] at ht0
  have hg2 : ((w.alloc (.cells #[.pointer (some t)] 186)).alloc (.cells #[.pointer (some ⟨2, 186, none⟩), .pointer (some ⟨w.heap.size, 0, none⟩), .int .u64 150] 202)).cell? ⟨0, 0, none⟩ = some (.iface 220 (.agg #[.pointer (some ⟨2, 164, none⟩)])) := by
    rw [World.cell?_alloc_lt _ _ ⟨0, 0, none⟩ (by simp <;> omega), World.cell?_alloc_lt _ _ ⟨0, 0, none⟩ hlt]; exact hg
  have el := as_elemV ⟨w.heap.size, 0, none⟩ t (((w.alloc (.cells #[.pointer (some t)] 186)).alloc (.cells #[.pointer (some ⟨2, 186, none⟩), .pointer (some ⟨w.heap.size, 0, none⟩), .int .u64 150] 202)).alloc (.cells #[.pointer (some ⟨2, 186, none⟩), .pointer (some ⟨w.heap.size, 0, none⟩), .int .u64 150] 202)) (by rw [World.cell?_alloc_lt _ _ ⟨w.heap.size, 0, none⟩ (by simp; omega)]; simp)
  have up : ∀ (a : Addr) (v : Value), a.block < w.heap.size → w.cell? a = some v → ((((w.alloc (.cells #[.pointer (some t)] 186)).alloc (.cells #[.pointer (some ⟨2, 186, none⟩), .pointer (some ⟨w.heap.size, 0, none⟩), .int .u64 150] 202)).alloc (.cells #[.pointer (some ⟨2, 186, none⟩), .pointer (some ⟨w.heap.size, 0, none⟩), .int .u64 150] 202)).alloc (.cells #[x, y] 166)).cell? a = some v := fun a v h1 h2 => by
    rw [World.cell?_alloc_lt _ _ a (by simp; omega), World.cell?_alloc_lt _ _ a (by simp; omega), World.cell?_alloc_lt _ _ a (by simp; omega), World.cell?_alloc_lt _ _ a h1]; exact h2
  have upf : ∀ (a : Addr), a.block < w.heap.size → w.frozen? a = false → ((((w.alloc (.cells #[.pointer (some t)] 186)).alloc (.cells #[.pointer (some ⟨2, 186, none⟩), .pointer (some ⟨w.heap.size, 0, none⟩), .int .u64 150] 202)).alloc (.cells #[.pointer (some ⟨2, 186, none⟩), .pointer (some ⟨w.heap.size, 0, none⟩), .int .u64 150] 202)).alloc (.cells #[x, y] 166)).frozen? a = false := fun a h1 h2 => by
    rw [World.frozen?_alloc_old _ _ a (by simp; omega), World.frozen?_alloc_old _ _ a (by simp; omega), World.frozen?_alloc_old _ _ a (by simp; omega), World.frozen?_alloc_old _ _ a (Nat.ne_of_lt h1)]; exact h2
  have st := as_set t ⟨w.heap.size + 1 + 1 + 1, 0, none⟩ x y old old2 ((((w.alloc (.cells #[.pointer (some t)] 186)).alloc (.cells #[.pointer (some ⟨2, 186, none⟩), .pointer (some ⟨w.heap.size, 0, none⟩), .int .u64 150] 202)).alloc (.cells #[.pointer (some ⟨2, 186, none⟩), .pointer (some ⟨w.heap.size, 0, none⟩), .int .u64 150] 202)).alloc (.cells #[x, y] 166)) hx hy
    (by rw [World.cell?_alloc_at _ _ _ _ (by simp)]; rfl)
    (by rw [show (Addr.add ⟨w.heap.size + 1 + 1 + 1, 0, none⟩ 1 : Addr) = ⟨w.heap.size + 1 + 1 + 1, 1, none⟩ from rfl, World.cell?_alloc_at _ _ _ _ (by simp)]; rfl)
    (up t old htl ht0) (upf t htl hf0) (up (t.add 1) old2 htl ht2) (upf (t.add 1) htl hf2)
  go_enter Tryz.func147, Tryz.ntmps147
  go_wp2
  refine wp_loop_rounds 1 ?_
  rw [rounds_succ]
  go_wp2
  go_ret
  exact ⟨rfl, rfl⟩
end Go.Proofs.YtodkeaoikjjneaaGreatDoor
/- A contract of a call that makes new memory, writes two cells that there were, side by side, and answers true. -/
namespace Go.Eng
open Go

section
variable [Pins] {P : Program} {m : Mp} {σ : FState} {w : World} {f : FuncId} {fn : Func} {body : Code} {args' : Array Value}

theorem CallOK.of_store2 (hf : P.funcs[f]? = some fn) (hb : fn.body = some body) (hname : (fn.name == "runtime.NumGoroutine") = false) (hr : Rel Top m σ w) {p p' x x' y y' : Value} {σ' : FState} (hst : fstore 2 p (.agg #[x, y]) σ = .skip σ') (hp : VRel m p p') (hx : VRel m x x') (hy : VRel m y y')
    (h : ∀ (t : Addr) (old old2 : Value), p' = .pointer (some t) → x'.oneCell' = true → y'.oneCell' = true → w.cell? t = some old → w.frozen? t = false → w.cell? (t.add 1) = some old2 → w.frozen? (t.add 1) = false → ∃ w4 : World, (∀ j, j < w.heap.size → w4.heap[j]? = w.heap[j]?) ∧ w.heap.size ≤ w4.heap.size ∧ w4.os = w.os ∧ w4.tape = w.tape ∧ w4.output = w.output ∧
      Calls P f args' w fun e w' => e = .returned (.bool true) ∧ w' = (w4.setCell t x').setCell (t.add 1) y') : CallOK P m σ w f args' none (.ret (.bool true) none σ') := by
  obtain ⟨b, off, ent, c, el, c', rfl, hg, ho, hro, hc, hs, rfl⟩ := fstore_inv hst
  have hvc : valCells (.agg #[x, y]) = [x, y] := rfl
  rw [hvc] at hc hs
  generalize hpp : p' = pp at hp
  cases hp with
  | ptr hm =>
    rename_i e
    have hcc : oneCell x = true ∧ oneCell y = true := by simpa using (Bool.and_eq_true_iff.1 hc).2
    have hone : x'.oneCell' = true := one_eq (oneCell_of_rel hx hcc.1)
    have hone2 : y'.oneCell' = true := one_eq (oneCell_of_rel hy hcc.2)
    obtain ⟨hre, hsy⟩ := hr.sync b ent e trivial hg hm
    rw [ho] at hsy
    obtain ⟨ca, el', fr, h2, h3, h4, _⟩ := hsy
    have hoff : off + 1 < c.length := by
      rw [spliceN_eq] at hs
      by_cases hle : off + [x, y].length ≤ c.length
      · simp at hle
        omega
      · rw [if_neg hle] at hs
        cases hs
    obtain ⟨old, h5, _⟩ := h4 off c[off] (List.getElem?_eq_getElem (by omega))
    obtain ⟨old2, h52, _⟩ := h4 (off + 1) c[off + 1] (List.getElem?_eq_getElem hoff)
    have hlt : e.blk < w.heap.size := (hr.dom _ _ hm).2
    have hfr := h3 (by rw [← hre]; exact hro)
    have cell : ∀ w4 : World, w4.heap[e.blk]? = w.heap[e.blk]? → ∀ (o : Nat) (v : Value), ca[e.sh + o]? = some v → w4.cell? ⟨e.blk, e.sh + o, none⟩ = some v ∧ w4.frozen? ⟨e.blk, e.sh + o, none⟩ = false := fun w4 hw4 o v hv => by
      rw [h2] at hw4
      exact ⟨by simp [World.cell?, hw4, hv], by simp [World.frozen?, hw4, hfr]⟩
    have hadd : Addr.add ⟨e.blk, e.sh + off, none⟩ 1 = ⟨e.blk, e.sh + (off + 1), none⟩ := by simp [Addr.add, Nat.add_assoc]
    obtain ⟨w4, g1, g2, g3, g4, g5, g6⟩ := h _ old old2 hpp hone hone2 (cell w rfl off old h5).1 (cell w rfl off old h5).2 (by rw [hadd]; exact (cell w rfl (off + 1) old2 h52).1) (by rw [hadd]; exact (cell w rfl (off + 1) old2 h52).2)
    have hr4 : Rel Top m σ w4 := hr.moreWorld g1 g2
    have hS4 : Step σ σ m m w w4 := (Step.refl σ m w).moreWorld g1 g2 g3 g4 g5
    obtain ⟨w', k1, k2, k3⟩ := hr4.splice (P := P) hm hg ho hro hs (.cons hx (.cons hy .nil)) (fun v hv => by
      rcases List.mem_cons.1 hv with rfl | hv
      · exact hone
      · rw [List.mem_singleton] at hv
        rw [hv]
        exact hone2)
    have c1 := cell w4 (g1 _ hlt) off old h5
    have c2 := cell w4 (g1 _ hlt) (off + 1) old2 h52
    have hne : ((e.sh + off : Nat)) ≠ e.sh + (off + 1) := by omega
    have hc2 : (w4.setCell ⟨e.blk, e.sh + off, none⟩ x').cell? ⟨e.blk, e.sh + (off + 1), none⟩ = some old2 := by
      have hw4 := g1 _ hlt
      rw [h2] at hw4
      simp [World.setCell, World.cell?, Array.getElem?_modify, hw4, h52, Array.getElem?_setIfInBounds, Array.getElem?_set]
    have hf2 : (w4.setCell ⟨e.blk, e.sh + off, none⟩ x').frozen? ⟨e.blk, e.sh + (off + 1), none⟩ = false := (World.frozen?_setCell _ _ _ _).trans c2.2
    have hrun : (storeCells ⟨e.blk, e.sh + off, none⟩ [x', y']).run P w4 = .ok () ((w4.setCell ⟨e.blk, e.sh + off, none⟩ x').setCell (Addr.add ⟨e.blk, e.sh + off, none⟩ 1) y') := by
      show (do store (Addr.add ⟨e.blk, e.sh + off, none⟩ 0) x'; (do store (Addr.add ⟨e.blk, e.sh + off, none⟩ 1) y'; pure ()) : Sem Unit).run P w4 = _
      rw [Sem.run_bind, run_store P w4 _ _ _ hone]
      rw [hadd]
      simp [Addr.add, c1.1, c1.2, Result.andThen, Sem.run_bind, run_store P _ _ _ _ hone2, hc2, hf2]
    rw [hrun] at k1
    cases k1
    exact CallOK.of_calls hf hb hname g6 k2 (hS4.trans k3) (.bool true)
end
end Go.Eng
/- What the reading is told of errors.As is so: it rests on what the variable errors.errorType holds when the call begins. -/
namespace Go.Proofs.YtodkeaoikjjneaaGreatDoor
open Go Go.Eng

def handle : Value := .iface 220 (.agg #[.pointer (some ⟨2, 164, none⟩)])
theorem as_named : (Tryz.prog.funcs.toList.all fun fn => !(fn.name == "runtime.NumGoroutine")) = true := by kernel_rfl
theorem as_names (f : FuncId) (fn : Func) (h : Tryz.prog.funcs[f]? = some fn) : (fn.name == "runtime.NumGoroutine") = false := by
  have := List.all_eq_true.1 as_named fn (by
    rw [Array.mem_toList_iff]
    exact Array.mem_of_getElem? h)
  simpa using this

theorem sums_ok' [Pins] (W : World) (hpin : ∀ o, W.heap[0]? = some o → Pins.on 0 o) (hg : W.cell? ⟨0, 0, none⟩ = some handle) : SumOK Tryz.prog sums := by
  intro f args σ r m w args' h hr hA
  unfold sums at h
  cases hf : Nat.beq f 147 with
  | false => rw [hf] at h; cases h
  | true =>
    rw [hf] at h
    rw [Nat.beq_eq] at hf
    subst hf
    have hname := as_names 147 _ Tryz.func147
    obtain ⟨L'⟩ := args'
    simp only [cond_true] at h
    split at h
    · rename_i p
      cases h
      match L', hA with
      | [a', p'], hA =>
        have h1 := hA.head
        cases h1
        exact CallOK.of_calls Tryz.func147 rfl hname (as_nil p' w) hr (.refl _ _ _) (.bool false)
      | [], hA => simp [LRel] at hA
      | [_], hA => simp [LRel] at hA
      | _ :: _ :: _ :: _, hA => simp [LRel] at hA
    · rename_i t cs pt p
      cases hc : (Nat.beq t 166 && Nat.beq pt 186) with
      | false => rw [hc] at h; cases h
      | true =>
        rw [hc] at h
        simp only [Bool.and_eq_true, Nat.beq_eq] at hc
        obtain ⟨rfl, rfl⟩ := hc
        simp only [cond_true] at h
        split at h
        · rename_i x y hx
          split at h
          · rename_i σ' hst
            cases h
            match L', hA with
            | [a', p'], hA =>
              have h1 := hA.head
              have h2 := hA.tail.head
              cases h1 with
              | iface _ h1 =>
              cases h2 with
              | iface _ h2 =>
              rename_i v' q'
              cases h1 with
              | agg hsz hel =>
                rename_i cs'
                have hcs : cs = #[x, y] := by
                  apply Array.ext'
                  simpa using hx
                subst hcs
                obtain ⟨l'⟩ := cs'
                match l', hsz, hel with
                | [x', y'], hsz, hel =>
                  have hxx : VRel m x x' := hel 0 x x' rfl rfl
                  have hyy : VRel m y y' := hel 1 y y' rfl rfl
                  refine CallOK.of_store2 Tryz.func147 rfl hname hr hst h2 hxx hyy fun ta old old2 hp hone hone2 hct hfr hct2 hfr2 => ?_
                  subst hp
                  have hgw : w.cell? ⟨0, 0, none⟩ = some handle := by
                    cases ho : W.heap[0]? with
                    | none => simp [World.cell?, ho] at hg
                    | some o =>
                      have := (hr.pin 0 o (hpin o ho)).1
                      rw [← hg]
                      simp [World.cell?, ho, this]
                  have hlt : ∀ (w : World) (o : Obj) (j : Nat), j < w.heap.size → (w.alloc o).heap[j]? = w.heap[j]? := fun w o j hj => by
                    show (w.heap.push o)[j]? = _
                    exact (Array.getElem?_push_lt hj).trans (Array.getElem?_eq_getElem hj).symm
                  have hs : ∀ (w : World) (o : Obj), (w.alloc o).heap.size = w.heap.size + 1 := fun w o => by
                    show (w.heap.push o).size = _
                    simp
                  have hhit := as_hit x' y' ta old old2 w hone hone2 hgw hct hfr hct2 hfr2
                  refine ⟨_, ?_, ?_, ?_, ?_, ?_, hhit⟩
                  · intro j hj
                    rw [hlt _ _ j (by rw [hs, hs, hs]; omega), hlt _ _ j (by rw [hs, hs]; omega), hlt _ _ j (by rw [hs]; omega), hlt _ _ j hj]
                  · rw [hs, hs, hs, hs]
                    omega
                  · rfl
                  · rfl
                  · rfl
                | [], hsz, hel => simp at hsz
                | [_], hsz, hel => simp at hsz
                | _ :: _ :: _ :: _, hsz, hel => simp at hsz
            | [], hA => simp [LRel] at hA
            | [_], hA => simp [LRel] at hA
            | _ :: _ :: _ :: _, hA => simp [LRel] at hA
          · cases h
        · cases h
    · cases h
end Go.Proofs.YtodkeaoikjjneaaGreatDoor
/- The reading of a law, where the chapter's examples are told; what it says of a law is so of every run. -/
namespace Go.Proofs.YtodkeaoikjjneaaGreatDoor
open Go Go.Eng
attribute [local congr] andThen_congr fops_congr fdraw_congr afterOp_congr drawF_congr
attribute [-go_sem] List.range_succ
/-- Calls so many deep; the examples hold. -/
noncomputable def top (n : Nat) : Env where
  call := fun f args u σ => match u with
    | none => bif Nat.beq f 21 && args.isEmpty then .ret (.bool true) none σ else (env n).call f args none σ
    | some md => (env n).call f args (some md) σ
  round := fun l args σ => (env n).round l args σ
theorem top_call (n : Nat) (f : FuncId) (args : List Value) (σ : FState) (h : Nat.beq f 21 = false) : (top n).call f args none σ = (env n).call f args none σ := by
  show (bif Nat.beq f 21 && args.isEmpty then CRes.ret (.bool true) none σ else (env n).call f args none σ) = _
  rw [h]
  rfl
theorem top_looks (n : Nat) (σ : FState) : (top n).call 21 [] none σ = .ret (.bool true) none σ := rfl
theorem sy_mixed : Tryz.prog.follows .mixedOrders = true := by kernel_rfl
theorem sy_named : (Tryz.prog.funcs.toList.all fun fn => !(fn.name == "runtime.NumGoroutine")) = true := by kernel_rfl
theorem sy_names (f : FuncId) (fn : Func) (h : Tryz.prog.funcs[f]? = some fn) : (fn.name == "runtime.NumGoroutine") = false := by
  have := List.all_eq_true.1 sy_named fn (by
    rw [Array.mem_toList_iff]
    exact Array.mem_of_getElem? h)
  simpa using this
/-- One variable is pinned. -/
abbrev varPins (W : World) : Pins := ⟨fun k o => k = 0 ∧ W.heap[k]? = some o⟩
theorem nosums_ok [Pins] : SumOK Tryz.prog nosums := fun _ _ _ _ _ _ _ h => by cases h
theorem looks_call (W : World) : Calls Tryz.prog 21 #[] W fun e W' => e = .returned (.bool true) ∧ W'.os = W.os ∧ W'.output = W.output ∧ W'.tape = W.tape ∧ W.heap.size ≤ W'.heap.size ∧ ∀ i, i < W.heap.size → W'.heap[i]? = W.heap[i]? :=
  says_true sy_mixed sy_names Tryz.func21 rfl W (@nosums_ok (pinsOf W)) looks_says
theorem top_ok (n : Nat) (W0 : World) (hg : W0.cell? ⟨0, 0, none⟩ = some handle) : @EnvOK (varPins W0) Tryz.prog (top n) := by
  letI := varPins W0
  have h : EnvOK Tryz.prog (env n) := fenv_ok (sums_ok' W0 (fun o h => ⟨rfl, h⟩) hg) sy_mixed sy_names nls n
  refine ⟨fun f args u σ m w args' hr hA hu => ?_, fun l args σ m w args' e hr hA hm => h.round l args σ m w args' e hr hA hm⟩
  cases u with
  | some md => exact h.call f args (some md) σ m w args' hr hA hu
  | none =>
    by_cases hf : (Nat.beq f 21 && args.isEmpty) = true
    · rw [Bool.and_eq_true, Nat.beq_eq, List.isEmpty_iff] at hf
      obtain ⟨rfl, rfl⟩ := hf
      obtain ⟨L'⟩ := args'
      have hl : L' = [] := by
        have := hA.1
        exact List.length_eq_zero_iff.1 this.symm
      subst hl
      show CallOK Tryz.prog m σ w 21 #[] none (.ret (.bool true) none σ)
      refine .inr ⟨callFunc_enter Tryz.func21 rfl (sy_names _ _ Tryz.func21), fun cs hu => ?_⟩
      obtain ⟨e, w', fr, ⟨rfl, ho, hout, ht, hsz, hk⟩, hc, hfn, hl⟩ := looks_call w cs
      exact ⟨m, w', .bool true, fr, cs, hr.moreWorld hk hsz, (Step.refl σ m w).moreWorld hk hsz ho ht hout, .bool true, hu, .refl _ _, StepsIn.of_steps hc, hfn, hl.2.2.1, ⟨hl.1, hl.2.1, hl.2.2.2⟩⟩
    · have e : (top n).call f args none σ = (env n).call f args none σ := by
        show (bif Nat.beq f 21 && args.isEmpty then CRes.ret (.bool true) none σ else (env n).call f args none σ) = _
        rw [Bool.not_eq_true] at hf
        rw [hf]
        rfl
      rw [e]
      exact h.call f args none σ m w args' hr hA hu
/-- What the reading says of a call, of memory of which nothing may be written, is so of every run. -/
theorem calls_of [Pins] {P : Program} {E : Env} (hE : EnvOK P E) (hm : P.follows .mixedOrders = true) (hname : ∀ (f : FuncId) (fn : Func), P.funcs[f]? = some fn → (fn.name == "runtime.NumGoroutine") = false) (nls : Hints) {f : FuncId} {fn : Func} {body : Code} (hf : P.funcs[f]? = some fn) (hb : fn.body = some body) (σ : FState) (m : Mp) (W : World) (args : List Value) (args' : Array Value) (hr : Rel Top m σ W) (hA : LRel m args args'.toList) (hro : ∀ b e, m b = some e → e.ro = true)
    (h : ∃ σ', fcall P nls E f args none σ = .ret (.bool true) none σ') :
    Calls P f args' W fun e W' => e = .returned (.bool true) ∧ W'.os = W.os ∧ W'.output = W.output ∧ W'.tape = W.tape ∧ W.heap.size ≤ W'.heap.size ∧ ∀ i, i < W.heap.size → W'.heap[i]? = W.heap[i]? := by
  obtain ⟨σ', h⟩ := h
  have hc := call_ok hE (draw_ok hm hE) hname nls f args none σ m W args' hr hA
  generalize fcall P nls E f args none σ = r at h hc
  subst h
  rcases hc with ⟨_, _, _, v', hval, _⟩ | ⟨_, hgo⟩
  · have hent := callFunc_enter (P := P) (w := W) (args := args') hf hb (hname f fn hf)
    rw [hent] at hval
    cases hval
  · intro cs
    obtain ⟨m', w', v', fr, cs', hR, hS', hV, _, hun, hst, hfn, hk, hgoing⟩ := hgo cs rfl
    have hcs : cs' = cs := by
      rcases hun with h | ⟨h, _⟩
      · exact h
      · cases h
    subst hcs
    have hv' := hV.flat rfl
    subst hv'
    exact ⟨.returned (.bool true), w', fr, ⟨rfl, hS'.os, hS'.output, hS'.tape, hS'.size, fun i hi => hS'.keep i hi fun b e ent hb hre => by rw [hro b e hb] at hre; cases hre⟩, hst.steps, hfn, leaving_of_going hk hgoing⟩
theorem law_calls {f : FuncId} {fn : Func} {body : Code} (hf : Tryz.prog.funcs[f]? = some fn) (hb : fn.body = some body) (n : Nat) (σ : FState) (m : Mp) (W : World) (args : List Value) (args' : Array Value) (hg : W.cell? ⟨0, 0, none⟩ = some handle) (hr : @Rel (varPins W) Top m σ W) (hA : LRel m args args'.toList) (hro : ∀ b e, m b = some e → e.ro = true)
    (h : ∃ σ', fcall Tryz.prog nls (top n) f args none σ = .ret (.bool true) none σ') :
    Calls Tryz.prog f args' W fun e W' => e = .returned (.bool true) ∧ W'.os = W.os ∧ W'.output = W.output ∧ W'.tape = W.tape ∧ W.heap.size ≤ W'.heap.size ∧ ∀ i, i < W.heap.size → W'.heap[i]? = W.heap[i]? :=
  @calls_of (varPins W) Tryz.prog (top n) (top_ok n W hg) sy_mixed sy_names nls f fn body hf hb σ m W args args' hr hA hro h
/-- Numbers in the model's memory, as the reading begins with them. -/
noncomputable def numbers (zs : List Int) : FState := ⟨Tr.set .lf 0 ⟨.cells (zs.map fun z => Value.int .i64 z) TI, true, none, 0⟩, 1, 1⟩
theorem numbers_get (zs : List Int) (b : Nat) : (numbers zs).heap.get b = if b = 0 then some ⟨.cells (zs.map fun z => Value.int .i64 z) TI, true, none, 0⟩ else none := by
  show (Tr.set .lf 0 _).get b = _
  rw [Tr.get_set]
  split <;> rfl
theorem numbers_wf (zs : List Int) : Wf (numbers zs) := fun b e h => by
  rw [numbers_get] at h
  by_cases hb : b = 0
  · rw [if_pos hb] at h
    cases h
    exact ⟨by subst hb; exact Nat.lt_succ_self 0, Nat.lt_succ_self 0⟩
  · rw [if_neg hb] at h
    cases h
theorem numbers_ints (zs : List Int) : Ints (numbers zs) (some ⟨0, 0, none⟩) zs := fun i n h => by
  refine ⟨0, 0, zs.map fun z => Value.int .i64 z, rfl, ?_, ?_⟩
  · rw [cells_get, numbers_get, if_pos rfl]; rfl
  · rw [Nat.zero_add, List.getElem?_map, h]; rfl
/-- A law over a list of numbers: at every such list, whatever the rest of memory is. -/
theorem law_ints {f : FuncId} {fn : Func} {body : Code} (hf : Tryz.prog.funcs[f]? = some fn) (hb : fn.body = some body) (n : Nat)
    (h : ∀ (p : Option Addr) (l : List Int) (cp : Nat), l.length < 9223372036854775808 → ∀ σ, Wf σ → Ints σ p l → (∀ a, p = some a → a.block < σ.next) → ∃ σ', fcall Tryz.prog nls (top n) f [.slice p l.length cp] none σ = .ret (.bool true) none σ')
    (W : World) (v : Value) (hsz : 0 < W.heap.size) (hg : W.cell? ⟨0, 0, none⟩ = some handle)
    (hv : v = .slice none 0 0 ∨ ∃ (a : Addr) (len cap : Nat) (zs : List Int), v = .slice (some a) len cap ∧ len ≤ cap ∧ cap < 9223372036854775808 ∧ zs.length = cap ∧ ∀ i, i < zs.length → W.cell? (a.add i) = some (.int .i64 (zs.getD i 0))) :
    Calls Tryz.prog f #[v] W fun e W' => e = .returned (.bool true) ∧ W'.os = W.os ∧ W'.output = W.output ∧ W'.tape = W.tape ∧ W.heap.size ≤ W'.heap.size ∧ ∀ i, i < W.heap.size → W'.heap[i]? = W.heap[i]? := by
  rcases hv with rfl | ⟨a, len, cap, zs, rfl, hl, hm, hz, hc⟩
  · letI := varPins W
    refine law_calls hf hb n Eng.empty (fun _ => none) W [.slice none 0 0] _ hg ?_ (.cons (.nilSlice 0 0) .nil) (fun b e h => by cases h) (h none [] 0 (by simp) Eng.empty (fun b e h => by cases h) (fun i n h => by simp at h) fun a h => by cases h)
    have hget : ∀ b, Eng.empty.heap.get b = none := fun b => rfl
    exact ⟨fun b ent e _ hb => (by rw [hget] at hb; cases hb), fun b b' ent ent' e e' _ hb => (by rw [hget] at hb; cases hb), fun b e hb => (by cases hb), fun b ent hb => (by rw [hget] at hb; cases hb), fun k o hk => ⟨hk.2, fun b e hb hr1 => by cases hb⟩⟩
  · letI := varPins W
    cases zs with
    | nil =>
      obtain rfl : cap = 0 := hz.symm
      obtain rfl : len = 0 := by omega
      have hget : ∀ b, (⟨.lf, 1, 1⟩ : FState).heap.get b = none := fun b => rfl
      refine law_calls hf hb n ⟨.lf, 1, 1⟩ (fun b => if b = 0 then some ⟨0, 0, true, none⟩ else none) W [.slice (some ⟨0, 0, none⟩) 0 0] _ hg ?_ (.cons (.empty (b := 0) (off := 0) (if_pos rfl)) .nil) (fun b e h => ?_)
        (h (some ⟨0, 0, none⟩) [] 0 (by simp) ⟨.lf, 1, 1⟩ (fun b e h => by rw [hget] at h; cases h) (fun i n h => by simp at h) fun a h => by cases h; exact Nat.lt_succ_self 0)
      · refine ⟨fun b ent e _ hb => (by rw [hget] at hb; cases hb), fun b b' ent ent' e e' _ hb => (by rw [hget] at hb; cases hb), fun b e hb => ?_, fun b ent hb => (by rw [hget] at hb; cases hb), fun k o hk => ⟨hk.2, fun b e hb hr1 => by
          by_cases hb0 : b = 0
          · rw [if_pos hb0] at hb
            cases hb
            cases hr1
          · rw [if_neg hb0] at hb
            cases hb⟩⟩
        by_cases h0 : b = 0
        · rw [if_pos h0] at hb
          cases hb
          exact ⟨by subst h0; exact Nat.lt_succ_self 0, hsz⟩
        · rw [if_neg h0] at hb; cases hb
      · by_cases h0 : b = 0
        · rw [if_pos h0] at h; cases h; rfl
        · rw [if_neg h0] at h; cases h
    | cons z zs =>
      have h0 := hc 0 (by simp)
      obtain ⟨ab, ao, asp⟩ := a
      have h1 : W.cell? ⟨ab, ao, asp⟩ = some (.int .i64 z) := h0
      have hcell : ∃ c el fr, W.heap[ab]? = some (.cells c el fr) ∧ asp = none := by
        unfold World.cell? at h1
        split at h1
        · rename_i c el fr hb'
          cases asp with
          | none => exact ⟨c, el, fr, hb', rfl⟩
          | some _ => simp at h1
        · cases h1
      obtain ⟨c, el, fr, hW, rfl⟩ := hcell
      have hlt : ab < W.heap.size := (Array.getElem?_eq_some_iff.1 hW).1
      have hci : ∀ (i : Nat) (v : Value), ((z :: zs).map fun z => Value.int .i64 z)[i]? = some v → c[ao + i]? = some v := fun i v hv => by
        rw [List.getElem?_map] at hv
        cases hzi : (z :: zs)[i]? with
        | none => rw [hzi] at hv; cases hv
        | some y =>
          rw [hzi] at hv
          cases hv
          have hil := (List.getElem?_eq_some_iff.1 hzi).1
          have hh := hc i hil
          rw [List.getD, hzi] at hh
          have ha : (⟨ab, ao, none⟩ : Addr).add i = ⟨ab, ao + i, none⟩ := by
            unfold Addr.add
            by_cases h0 : i = 0
            · subst h0; rfl
            · rw [if_neg h0]
          rw [ha] at hh
          unfold World.cell? at hh
          simp only [hW] at hh
          exact hh
      have hty : ((z :: zs).take len).length = len := by rw [List.length_take, hz]; omega
      refine law_calls hf hb n (numbers (z :: zs)) (fun b => if b = 0 then some ⟨ab, ao, true, none⟩ else none) W [.slice (some ⟨0, 0, none⟩) ((z :: zs).take len).length cap] _ hg ?_ ?_ (fun b e h => ?_)
        (h (some ⟨0, 0, none⟩) ((z :: zs).take len) cap (by rw [hty]; omega) (numbers (z :: zs)) (numbers_wf _) (fun i n hi => numbers_ints (z :: zs) i n (by
          rw [List.getElem?_take] at hi
          split at hi
          · exact hi
          · cases hi)) fun a h => by cases h; exact Nat.lt_succ_self 0)
      · refine ⟨fun b ent e _ hb hm' => ?_, fun b b' ent ent' e e' hne hb hb' _ _ hm' hm'' => ?_, fun b e hb => ?_, fun b ent hb => ((numbers_wf _) b ent hb).1, fun k o hk => ⟨hk.2, fun b e hb hr1 => by
          by_cases hb0 : b = 0
          · rw [if_pos hb0] at hb
            cases hb
            cases hr1
          · rw [if_neg hb0] at hb
            cases hb⟩⟩
        · rw [numbers_get] at hb
          by_cases hb0 : b = 0
          · rw [if_pos hb0] at hb hm'
            cases hb
            cases hm'
            exact ⟨rfl, c, el, fr, hW, (fun h => by cases h), fun i v hv => ⟨v, hci i v hv, by
              rw [List.getElem?_map] at hv
              cases hzi : (z :: zs)[i]? with
              | none => rw [hzi] at hv; cases hv
              | some y => rw [hzi] at hv; cases hv; exact .int _ _⟩, trivial⟩
          · rw [if_neg hb0] at hb; cases hb
        · by_cases hb0 : b = 0
          · by_cases hb1 : b' = 0
            · omega
            · rw [if_neg hb1] at hm''; cases hm''
          · rw [if_neg hb0] at hm'; cases hm'
        · by_cases hb0 : b = 0
          · rw [if_pos hb0] at hb
            cases hb
            exact ⟨by subst hb0; exact Nat.lt_succ_self 0, hlt⟩
          · rw [if_neg hb0] at hb; cases hb
      · refine .cons ?_ .nil
        rw [hty]
        have := VRel.slice (m := fun b => if b = 0 then some ⟨ab, ao, true, none⟩ else none) (b := 0) (off := 0) (l := len) (c := cap) (c' := cap) (e := ⟨ab, ao, true, none⟩) (if_pos rfl) (.inl rfl)
        exact this
      · by_cases hb0 : b = 0
        · rw [if_pos hb0] at h; cases h; rfl
        · rw [if_neg hb0] at h; cases h
end Go.Proofs.YtodkeaoikjjneaaGreatDoor
/- Functions of the program, written out in the reading's words (made by program; the kernel holds each against the code). -/
namespace Go.Proofs.YtodkeaoikjjneaaGreatDoor
open Go Go.Eng
variable (E : Env) (ro : Option Nat) (last : List Nat → RunF) (cl : List Nat) (a : FAct) (u : Option FrameMode) (σ : FState)
/-! caracole/caracolelaw01.DatumSizes -/
noncomputable def r8_0U (_ : Unit) : List COp := [⟨fun a σ => .val (.bool false) σ, (some 2), fun _ => some true⟩]
noncomputable def r8_0 : List COp := r8_0U ()
noncomputable def r8_1U (_ : Unit) : List COp := [⟨fun a σ => .val (a.get 0) σ, (some 13), fun _ => some true⟩,
  ⟨fun a σ => .enter 11 [(a.get 13)] σ, (some 14), fun _ => some true⟩,
  ⟨fun a σ => .enter 13 [(a.get 14), (.int .i64 5)] σ, (some 15), fun _ => some true⟩,
  ⟨fun a σ => newCells [(.int .i64 0), (.int .i64 0), (.string ⟨#[]⟩), (.slice none 0 0)] 28 none σ, (some 3), fun _ => some true⟩,
  ⟨fun a σ => fstore 4 (a.get 3) (a.get 15) σ, none, fun _ => some true⟩]
noncomputable def r8_1 : List COp := r8_1U ()
noncomputable def r8_2U (_ : Unit) : List COp := [⟨fun a σ => fload (some 4) (a.get 3) σ, (some 17), fun _ => some true⟩,
  ⟨fun a σ => .enter 31 [(a.get 17)] σ, (some 18), fun _ => some true⟩,
  ⟨fun a σ => .val (a.get 18) σ, (some 16), fun _ => some true⟩,
  ⟨fun a σ => fextract 0 (a.get 16) σ, (some 19), fun _ => some true⟩,
  ⟨fun a σ => fextract 1 (a.get 16) σ, (some 20), fun _ => some true⟩,
  ⟨fun a σ => fextract 2 (a.get 16) σ, (some 21), fun _ => some true⟩,
  ⟨fun a σ => .val (a.get 19) σ, (some 4), fun _ => some true⟩,
  ⟨fun a σ => .val (a.get 20) σ, (some 5), fun _ => some true⟩,
  ⟨fun a σ => .val (a.get 21) σ, (some 6), fun _ => some true⟩]
noncomputable def r8_2 : List COp := r8_2U ()
noncomputable def r8_3U (_ : Unit) : List COp := [⟨fun a σ => .val (.int .i64 1) σ, (some 7), fun _ => some true⟩,
  ⟨fun a σ => .val (.int .i64 0) σ, (some 8), fun _ => some true⟩]
noncomputable def r8_3 : List COp := r8_3U ()
noncomputable def r8_4U (_ : Unit) : List COp := [⟨fun a σ => .val (.int .i64 0) σ, (some 9), fun _ => some true⟩]
noncomputable def r8_4 : List COp := r8_4U ()
noncomputable def r8_5U (_ : Unit) : List COp := [⟨fun a σ => .val (a.get 9) σ, (some 22), fun _ => some true⟩,
  ⟨fun a σ => ffield 3 (a.get 3) σ, (some 23), fun _ => some true⟩,
  ⟨fun a σ => fload none (a.get 23) σ, (some 24), fun _ => some true⟩,
  ⟨fun a σ => flenL (a.get 24) σ, (some 25), fun _ => some true⟩,
  ⟨fun a σ => i_lss Tryz.prog 3 (.tmp 22) (.tmp 25) (a.get 22) (a.get 25) σ, (some 26), fun _ => some true⟩]
noncomputable def r8_5 : List COp := r8_5U ()
noncomputable def r8_7U (_ : Unit) : List COp := [⟨fun a σ => ffield 3 (a.get 3) σ, (some 30), fun _ => some true⟩,
  ⟨fun a σ => fload none (a.get 30) σ, (some 31), fun _ => some true⟩,
  ⟨fun a σ => .val (a.get 9) σ, (some 32), fun _ => some true⟩,
  ⟨fun a σ => findex (none, 4) (a.get 31) (a.get 32) σ, (some 33), fun _ => some true⟩,
  ⟨fun a σ => fload (some 4) (a.get 33) σ, (some 34), fun _ => some true⟩,
  ⟨fun a σ => .enter 31 [(a.get 34)] σ, (some 35), fun _ => some true⟩,
  ⟨fun a σ => .val (a.get 35) σ, (some 29), fun _ => some true⟩,
  ⟨fun a σ => fextract 0 (a.get 29) σ, (some 36), fun _ => some true⟩,
  ⟨fun a σ => fextract 1 (a.get 29) σ, (some 37), fun _ => some true⟩,
  ⟨fun a σ => fextract 2 (a.get 29) σ, (some 38), fun _ => some true⟩,
  ⟨fun a σ => .val (a.get 36) σ, (some 10), fun _ => some true⟩,
  ⟨fun a σ => .val (a.get 37) σ, (some 11), fun _ => some true⟩,
  ⟨fun a σ => .val (a.get 38) σ, (some 12), fun _ => some true⟩]
noncomputable def r8_7 : List COp := r8_7U ()
noncomputable def r8_8U (_ : Unit) : List COp := [⟨fun a σ => .val (a.get 12) σ, (some 39), fun _ => some true⟩,
  ⟨fun a σ => i_neq Tryz.prog 32 (.tmp 39) (.const (.int .i64 0)) (a.get 39) (.int .i64 0) σ, (some 40), fun _ => some true⟩]
noncomputable def r8_8 : List COp := r8_8U ()
noncomputable def r8_9U (_ : Unit) : List COp := [⟨fun a σ => .val (.bool false) σ, (some 2), fun _ => some true⟩]
noncomputable def r8_9 : List COp := r8_9U ()
noncomputable def r8_10U (_ : Unit) : List COp := [⟨fun a σ => .val (a.get 7) σ, (some 41), fun _ => some true⟩,
  ⟨fun a σ => .val (a.get 10) σ, (some 42), fun _ => some true⟩,
  ⟨fun a σ => i_add Tryz.prog 3 (.tmp 41) (.tmp 42) (a.get 41) (a.get 42) σ, (some 43), fun _ => some true⟩,
  ⟨fun a σ => .val (a.get 8) σ, (some 44), fun _ => some true⟩,
  ⟨fun a σ => .val (a.get 11) σ, (some 45), fun _ => some true⟩,
  ⟨fun a σ => fun2 Tryz.prog Builtin.max2 (a.get 44) (a.get 45) σ, (some 46), fun _ => some true⟩,
  ⟨fun a σ => .val (a.get 43) σ, (some 7), fun _ => some true⟩,
  ⟨fun a σ => .val (a.get 46) σ, (some 8), fun _ => some true⟩]
noncomputable def r8_10 : List COp := r8_10U ()
noncomputable def r8_6U (_ : Unit) : List COp := [⟨fun a σ => .val (a.get 9) σ, (some 27), fun _ => some true⟩,
  ⟨fun a σ => i_add Tryz.prog 3 (.tmp 27) (.const (.int .i64 1)) (a.get 27) (.int .i64 1) σ, (some 28), fun _ => some true⟩,
  ⟨fun a σ => .val (a.get 28) σ, (some 9), fun _ => some true⟩]
noncomputable def r8_6 : List COp := r8_6U ()
noncomputable def l8_0 (E : Env) (ro : Option Nat) (fn : FuncId) : RunF := (seqR (seqR (fops E ro r8_5) (condR (fun a => (a.get 26)) skipR (exitR 0))) (seqR (blockR 1 (seqR (fops E ro r8_7) (seqR (seqR (fops E ro r8_8) (condR (fun a => (a.get 40)) (seqR (fops E ro r8_9) retR) skipR)) (fops E ro r8_10)))) (fops E ro r8_6)))
noncomputable def r8_11U (_ : Unit) : List COp := [⟨fun a σ => .val (a.get 6) σ, (some 47), fun _ => some true⟩,
  ⟨fun a σ => i_eql Tryz.prog 32 (.tmp 47) (.const (.int .i64 0)) (a.get 47) (.int .i64 0) σ, (some 48), fun _ => some true⟩,
  ⟨fun a σ => .val (a.get 48) σ, (some 49), fun _ => some true⟩,
  ⟨fun a σ => .val (a.get 4) σ, (some 50), fun a => gd (a.get 49) true⟩,
  ⟨fun a σ => .val (a.get 7) σ, (some 51), fun a => gd (a.get 49) true⟩,
  ⟨fun a σ => i_eql Tryz.prog 3 (.tmp 50) (.tmp 51) (a.get 50) (a.get 51) σ, (some 52), fun a => gd (a.get 49) true⟩,
  ⟨fun a σ => fpick (a.get 49) (a.get 52) (.bool false) σ, (some 53), fun _ => some true⟩,
  ⟨fun a σ => .val (a.get 53) σ, (some 54), fun _ => some true⟩,
  ⟨fun a σ => .val (a.get 5) σ, (some 55), fun a => gd (a.get 54) true⟩,
  ⟨fun a σ => .val (a.get 8) σ, (some 56), fun a => gd (a.get 54) true⟩,
  ⟨fun a σ => i_add Tryz.prog 3 (.tmp 56) (.const (.int .i64 1)) (a.get 56) (.int .i64 1) σ, (some 57), fun a => gd (a.get 54) true⟩,
  ⟨fun a σ => i_eql Tryz.prog 3 (.tmp 55) (.tmp 57) (a.get 55) (a.get 57) σ, (some 58), fun a => gd (a.get 54) true⟩,
  ⟨fun a σ => fpick (a.get 54) (a.get 58) (.bool false) σ, (some 59), fun _ => some true⟩,
  ⟨fun a σ => .val (a.get 59) σ, (some 60), fun _ => some true⟩,
  ⟨fun a σ => .enter 21 [] σ, (some 61), fun a => gd (a.get 60) true⟩,
  ⟨fun a σ => fpick (a.get 60) (a.get 61) (.bool false) σ, (some 62), fun _ => some true⟩,
  ⟨fun a σ => .val (a.get 62) σ, (some 2), fun _ => some true⟩]
noncomputable def r8_11 : List COp := r8_11U ()
noncomputable def run8 (E : Env) (ro : Option Nat) (fn : FuncId) : RunF := (seqR (fops E ro r8_0) (seqR (fops E ro r8_1) (seqR (fops E ro r8_2) (seqR (fops E ro r8_3) (seqR (seqR (fops E ro r8_4) (blockR 0 (loopR (keepOf nls fn) (l8_0 E ro fn)))) (seqR (fops E ro r8_11) retR))))))
theorem r8_0_go : fops E ro r8_0 a u σ = fops E ro (r8_0U ()) a u σ := rfl
theorem r8_1_go : fops E ro r8_1 a u σ = fops E ro (r8_1U ()) a u σ := rfl
theorem r8_2_go : fops E ro r8_2 a u σ = fops E ro (r8_2U ()) a u σ := rfl
theorem r8_3_go : fops E ro r8_3 a u σ = fops E ro (r8_3U ()) a u σ := rfl
theorem r8_4_go : fops E ro r8_4 a u σ = fops E ro (r8_4U ()) a u σ := rfl
theorem r8_5_go : fops E ro r8_5 a u σ = fops E ro (r8_5U ()) a u σ := rfl
theorem r8_7_go : fops E ro r8_7 a u σ = fops E ro (r8_7U ()) a u σ := rfl
theorem r8_8_go : fops E ro r8_8 a u σ = fops E ro (r8_8U ()) a u σ := rfl
theorem r8_10_go : fops E ro r8_10 a u σ = fops E ro (r8_10U ()) a u σ := rfl
theorem r8_6_go : fops E ro r8_6 a u σ = fops E ro (r8_6U ()) a u σ := rfl
theorem r8_11_go : fops E ro r8_11 a u σ = fops E ro (r8_11U ()) a u σ := rfl
theorem code8 (E : Env) (ro : Option Nat) (fn : FuncId) : code Tryz.prog nls (Tryz.f8.body.getD .skip) E ro fn = run8 E ro fn := by kernel_rfl
theorem enter8 (E : Env) (args : List Value) (u : Option FrameMode) (σ : FState) (hn : args.length ≤ (13 : Nat)) : fcall Tryz.prog nls E 8 args u σ = leaveR Tryz.prog E [.tmp 2] (run8 E none 8 ⟨padTo undef 13 args, fun _ => undef, 13, 63, []⟩ u σ) := by
  rw [fcall_of (body := Tryz.f8.body.getD .skip) Tryz.func8 rfl E args u σ 13 63 (by kernel_rfl) rfl ⟨hn, by decide⟩, code8]
  rfl
end Go.Proofs.YtodkeaoikjjneaaGreatDoor
/- DatumSizes: what the reading says. -/
namespace Go.Proofs.YtodkeaoikjjneaaGreatDoor
open Go Go.Eng
attribute [local congr] andThen_congr fops_congr fdraw_congr afterOp_congr drawF_congr
attribute [-go_sem] List.range_succ
/-- datum.Size. -/
theorem size_go (m L : Nat) (hL6 : L ≤ 6) (d : D) (hF : Fine m L d) (lv : List Value) (h4 : lv.length = 4) (R : Nat → Prop) (σ : FState) (hw : Wf σ) (hL : LaidR R σ (.agg lv.toArray) d) (hR : ∀ b, R b → b < σ.next) :
    Gives ((env (m + 9)).call 31 [.agg lv.toArray] none σ) σ fun w _ => w = .tuple #[.int .i64 (.ofNat d.count), .int .i64 (.ofNat d.deep), .int .i64 0] := by
  have hf := hF.few hL6
  refine sizeD (m + 5) lv _ _ σ hw h4 (fun σ' hx hw' => ?_) (fun σ' hx hw' => ?_)
  · have h := valid_go m d lv h4 R σ' hw' (hL.keep fun b cs hb hc => ⟨(hx.cells (hw.cells hc)).trans hc, hb⟩) (fun b hb => Nat.lt_of_lt_of_le (hR b hb) hx.next) (hF.small hL6) (by omega) hF.good
    rwa [pieces_length] at h
  · have h := deepest_go (m + 1) d lv h4 R σ' hw' (hL.keep fun b cs hb hc => ⟨(hx.cells (hw.cells hc)).trans hc, hb⟩) (fun b hb => Nat.lt_of_lt_of_le (hR b hb) hx.next) (hF.small hL6) (by omega)
    rw [longest_pieces, List.length_nil, Nat.zero_add] at h
    exact h
theorem keepLaw : keepOf nls 8 = [47, 48, 49, 50, 51, 52, 53, 54, 55, 56, 57, 58, 59, 60, 61, 62] := by kernel_rfl
/-- At the head of the law's loop. -/
structure HeadS (m : Nat) (b3 : Nat) (R : Nat → Prop) (k z : Int) (t : ByteArray) (p : Option Addr) (c : Nat) (ds : List D) (σ0 : FState) (i : Nat) (f : Nat → Value) (σ : FState) : Prop where
  f3 : f 3 = .pointer (some ⟨b3, 0, none⟩)
  f7 : f 7 = .int .i64 (.ofNat (D.counts (ds.take i) + 1))
  f8 : f 8 = .int .i64 (.ofNat (D.deeps (ds.take i)))
  f9 : f 9 = .int .i64 (.ofNat i)
  cd : σ.cells b3 = some [.int .i64 k, .int .i64 z, .string t, .slice p ds.length c]
  lay : LaidRE R σ p 0 ds
  low : ∀ b, R b → b < σ.next
  wf : Wf σ
  ext : Ext σ0 σ
  le : i ≤ ds.length
theorem counts_take (ds : List D) (i : Nat) (d : D) (h : ds[i]? = some d) : D.counts (ds.take (i + 1)) = D.counts (ds.take i) + d.count := by
  induction ds generalizing i with
  | nil => simp at h
  | cons x ds ih =>
    cases i with
    | zero =>
      simp at h
      subst h
      simp [D.counts]
    | succ i =>
      simp at h
      simp [D.counts, ih i h, Nat.add_assoc]
theorem deeps_take (ds : List D) (i : Nat) (d : D) (h : ds[i]? = some d) : D.deeps (ds.take (i + 1)) = max (D.deeps (ds.take i)) d.deep := by
  induction ds generalizing i with
  | nil => simp at h
  | cons x ds ih =>
    cases i with
    | zero =>
      simp at h
      subst h
      simp [D.deeps]
    | succ i =>
      simp at h
      simp [D.deeps, ih i h, Nat.max_assoc]
theorem counts_le (ds : List D) (i : Nat) : D.counts (ds.take i) ≤ D.counts ds := by
  induction ds generalizing i with
  | nil => simp
  | cons x ds ih =>
    cases i with
    | zero => simp [D.counts]
    | succ i => have := ih i; simp [D.counts]; omega
theorem sizes_loop (m L : Nat) (hL6 : L ≤ 6) (b3 : Nat) (R : Nat → Prop) (k z : Int) (t : ByteArray) (p : Option Addr) (c : Nat) (ds : List D) (hF : ∀ d ∈ ds, Fine m L d) (hlen : ds.length < 1000) (hcs : D.counts ds < 100000) (σ0 : FState) : ∀ (j fuel i : Nat) (f g : Nat → Value) (σ : FState), i + j = ds.length → j < fuel → HeadS m b3 R k z t p c ds σ0 i f σ →
    ∃ f' g' σ', floop [47, 48, 49, 50, 51, 52, 53, 54, 55, 56, 57, 58, 59, 60, 61, 62] (l8_0 (top (m + 9)) none 8) fuel (Sl 13 63 f g []) none σ = .done (.exit 0) (Sl 13 63 f' g' []) none σ' ∧ HeadS m b3 R k z t p c ds σ0 ds.length f' σ' ∧ f' 4 = f 4 ∧ f' 5 = f 5 ∧ f' 6 = f 6 := by
  intro j
  induction j with
  | zero =>
    intro fuel i f g σ hij hf h
    obtain ⟨fuel, rfl⟩ : ∃ q, fuel = q + 1 := ⟨fuel - 1, by omega⟩
    obtain rfl : i = ds.length := by omega
    have d1 : decide (Int.ofNat ds.length < Int.ofNat ds.length) = false := by simp
    rw [floop_step, Sl_forget]
    unfold l8_0
    simp -implicitDefEqProofs only [go_sem, ↓reduceIte, Nat.reduceLT, Nat.reduceEqDiff, Nat.reduceAdd, Nat.reduceMul, Nat.reduceLeDiff, Nat.reduceSub, r8_5_go, r8_5U, h.f3, h.f9, h.cd, d1]
    exact ⟨_, _, _, rfl, h, rfl, rfl, rfl⟩
  | succ j ih =>
    intro fuel i f g σ hij hf h
    obtain ⟨fuel, rfl⟩ : ∃ q, fuel = q + 1 := ⟨fuel - 1, by omega⟩
    have hi : i < ds.length := by omega
    have d1 : decide (Int.ofNat i < Int.ofNat ds.length) = true := by simp; omega
    have hd : ds[i]? = some ds[i] := List.getElem?_eq_getElem hi
    obtain ⟨b, off, cs, rfl, hRb, hc, hle, hLd⟩ := LaidRE.get h.lay hd
    rw [Nat.zero_add] at hle hLd
    obtain ⟨l4, ho⟩ : ((cs.drop (off + i * 4)).take 4).length = 4 ∧ True := ⟨by rw [List.length_take, List.length_drop]; omega, trivial⟩
    obtain ⟨_, σ1, e1, x1, hw1, rfl⟩ := size_go m L hL6 ds[i] (hF _ (List.getElem_mem _)) _ l4 R σ h.wf hLd h.low
    have ct := counts_take ds i _ hd
    have dt := deeps_take ds i _ hd
    have cl := counts_le ds (i + 1)
    have w1 : wrapI (Int.ofNat (D.counts (ds.take i) + 1) + Int.ofNat ds[i].count) = Int.ofNat (D.counts (ds.take (i + 1)) + 1) := by
      rw [wrapI_of (by simp only [Int.ofNat_eq_natCast]; omega)]
      simp only [Int.ofNat_eq_natCast]
      omega
    have w2 : (if Int.ofNat ds[i].deep > Int.ofNat (D.deeps (ds.take i)) then Int.ofNat ds[i].deep else Int.ofNat (D.deeps (ds.take i))) = Int.ofNat (D.deeps (ds.take (i + 1))) := by
      rw [dt, Nat.max_def]
      simp only [Int.ofNat_eq_natCast]
      split <;> split <;> omega
    have w3 := add1 i (by omega)
    have n1 : (!((0 : Int) == 0)) = false := by decide
    have tc : ∀ args σ, (top (m + 9)).call 31 args none σ = (env (m + 9)).call 31 args none σ := fun _ _ => top_call _ _ _ _ rfl
    rw [floop_step, Sl_forget]
    unfold l8_0
    simp -implicitDefEqProofs only [go_sem, ↓reduceIte, Nat.reduceLT, Nat.reduceEqDiff, Nat.reduceAdd, Nat.reduceMul, Nat.reduceLeDiff, Nat.reduceSub, r8_5_go, r8_5U, r8_7_go, r8_7U, h.f3, h.f9, h.cd, d1, hi, hc, hle, tc, e1, r8_8_go, r8_8U, n1, r8_10_go, r8_10U, h.f7, h.f8, w1, w2, max_int, r8_6_go, r8_6U, w3]
    obtain ⟨f', g', σ', e2, h2, q4, q5, q6⟩ := ih fuel (i + 1) (upd (upd (upd (upd (upd (upd f 10 (.int .i64 (.ofNat ds[i].count))) 11 (.int .i64 (.ofNat ds[i].deep))) 12 (.int .i64 0)) 7 (.int .i64 (.ofNat (D.counts (ds.take (i + 1)) + 1)))) 8 (.int .i64 (.ofNat (D.deeps (ds.take (i + 1)))))) 9 (.int .i64 (.ofNat (i + 1)))) _ σ1 (by omega) (by omega) {
      f3 := by simp -implicitDefEqProofs only [upd_go, kept_go, ↓reduceIte, Nat.reduceEqDiff, Nat.reduceLT, reduceCtorEq, h.f3]
      f7 := by simp -implicitDefEqProofs only [upd_go, kept_go, ↓reduceIte, Nat.reduceEqDiff, Nat.reduceLT, reduceCtorEq]
      f8 := by simp -implicitDefEqProofs only [upd_go, kept_go, ↓reduceIte, Nat.reduceEqDiff, Nat.reduceLT, reduceCtorEq]
      f9 := by simp -implicitDefEqProofs only [upd_go, kept_go, ↓reduceIte, Nat.reduceEqDiff, Nat.reduceLT, reduceCtorEq]
      cd := (x1.cells (h.wf.cells h.cd)).trans h.cd
      lay := h.lay.keep fun b cs hb hc => ⟨(x1.cells (h.wf.cells hc)).trans hc, hb⟩
      low := fun b hb => Nat.lt_of_lt_of_le (h.low b hb) x1.next
      wf := hw1
      ext := h.ext.trans x1
      le := by omega }
    exact ⟨f', g', σ', e2, h2, q4, q5, q6⟩
mutual
theorem deep_le : ∀ d : D, d.deep ≤ d.count
  | .mk k z t ds => by rw [D.deep, D.count]; have := deeps_le ds; omega
theorem deeps_le : ∀ ds : List D, D.deeps ds ≤ D.counts ds
  | [] => Nat.le_refl _
  | d :: ds => by rw [D.deeps, D.counts]; have := deep_le d; have := deeps_le ds; omega
end
/-- What the reading says of the law. -/
theorem sizes_says (q : Nat) (p : Option Addr) (l : List Int) (cp : Nat) (hl : l.length < 9223372036854775808) (σ : FState) (hw : Wf σ) (hI : Ints σ p l) (hp : ∀ a, p = some a → a.block < σ.next) :
    ∃ σ', fcall Tryz.prog nls (top (q + 40)) 8 [.slice p l.length cp] none σ = .ret (.bool true) none σ' := by
  obtain ⟨σ1, e1, x1, hw1, hC⟩ := newCoil_go (q + 39) p l cp hl σ hw hI hp
  obtain ⟨v, d, σ2, k', e2, hL, hM, x2, hw2, hC2, _, _⟩ := datumOf_go (q + 31) σ.next 5 (by omega) 0 σ1 (by simp [wound]) hw1 hC
  have hF := made_fine (q + 11) hM
  obtain ⟨k, z, t, ds⟩ := d
  have hLL := hL
  obtain ⟨pp, c, rfl, hE⟩ := hL
  have e2' : (env (q + 40)).call 13 [.pointer (some ⟨σ.next, 0, none⟩), .int .i64 5] none σ1 = .ret (.agg #[.int .i64 k, .int .i64 z, .string t, .slice pp ds.length c]) none σ2 := e2
  have hx3 : Ext σ2 ((σ2.push (.cells [.int .i64 0, .int .i64 0, .string ⟨#[]⟩, .slice none 0 0] TD) none).put σ2.next (.cells [.int .i64 k, .int .i64 z, .string t, .slice pp ds.length c] TD) none) := ((Ext.refl _).push _ _).put _ _ _ (Nat.le_refl _)
  have hw3 := (hw2.push (.cells [.int .i64 0, .int .i64 0, .string ⟨#[]⟩, .slice none 0 0] TD) none).put σ2.next (.cells [.int .i64 k, .int .i64 z, .string t, .slice pp ds.length c] TD) none (Nat.lt_succ_self _)
  have b3 : ((σ2.push (.cells [.int .i64 0, .int .i64 0, .string ⟨#[]⟩, .slice none 0 0] TD) none).put σ2.next (.cells [.int .i64 k, .int .i64 z, .string t, .slice pp ds.length c] TD) none).cells σ2.next = some [.int .i64 k, .int .i64 z, .string t, .slice pp ds.length c] := by rw [cells_put, if_pos rfl]; rfl
  have tc1 : ∀ args σ, (top (q + 40)).call 11 args none σ = (env (q + 40)).call 11 args none σ := fun _ _ => top_call _ _ _ _ rfl
  have tc2 : ∀ args σ, (top (q + 40)).call 13 args none σ = (env (q + 40)).call 13 args none σ := fun _ _ => top_call _ _ _ _ rfl
  have tc3 : ∀ args σ, (top (q + 40)).call 31 args none σ = (env (q + 40)).call 31 args none σ := fun _ _ => top_call _ _ _ _ rfl
  rw [enter8 _ _ _ _ (by simp), Sl_start]
  unfold run8
  simp -implicitDefEqProofs only [go_sem, ↓reduceIte, Nat.reduceLT, Nat.reduceEqDiff, Nat.reduceAdd, Nat.reduceMul, Nat.reduceLeDiff, Nat.reduceSub, fstoreN, r8_0_go, r8_0U, r8_1_go, r8_1U, Option.getD_some, tc1, tc2, e1, e2']
  generalize hff : upd _ 3 _ = f1
  generalize hgg : upd _ 15 _ = g1
  have q3 : f1 3 = .pointer (some ⟨σ2.next, 0, none⟩) := by rw [← hff]; simp -implicitDefEqProofs only [upd_go, kept_go, ↓reduceIte, Nat.reduceEqDiff, Nat.reduceLT, reduceCtorEq]
  clear hff hgg
  generalize FState.put _ _ _ _ = σ3 at hx3 hw3 b3 ⊢
  have kR : ∀ b cs, New σ1 σ2 b → σ2.cells b = some cs → σ3.cells b = some cs ∧ New σ1 σ2 b := fun b cs hb hc => ⟨(hx3.cells (hw2.cells hc)).trans hc, hb⟩
  have lowR : ∀ b, New σ1 σ2 b → b < σ3.next := fun b hb => Nat.lt_of_lt_of_le hb.2 hx3.next
  have hsz : ∀ σ4, Ext σ3 σ4 → Wf σ4 → Gives ((env (q + 40)).call 31 [.agg #[.int .i64 k, .int .i64 z, .string t, .slice pp ds.length c]] none σ4) σ4 fun w _ => w = .tuple #[.int .i64 (.ofNat (D.mk k z t ds).count), .int .i64 (.ofNat (D.mk k z t ds).deep), .int .i64 0] := fun σ4 hx hw4 =>
    size_go (q + 31) 5 (by omega) _ hF [.int .i64 k, .int .i64 z, .string t, .slice pp ds.length c] rfl (New σ1 σ2) σ4 hw4 ((hLL.keep kR).keep fun b cs hb hc => ⟨(hx.cells (hw3.cells hc)).trans hc, hb⟩) fun b hb => Nat.lt_of_lt_of_le (lowR b hb) hx.next
  obtain ⟨_, σ4, e4, x4, hw4, rfl⟩ := hsz σ3 (Ext.refl _) hw3
  simp -implicitDefEqProofs only [go_sem, ↓reduceIte, Nat.reduceLT, Nat.reduceEqDiff, Nat.reduceAdd, Nat.reduceMul, Nat.reduceLeDiff, Nat.reduceSub, r8_2_go, r8_2U, r8_3_go, r8_3U, r8_4_go, r8_4U, q3, b3, tc3, e4, keepLaw]
  generalize hff : upd _ 9 _ = f2
  generalize hgg : upd _ 21 _ = g2
  generalize hbf : bigFuel = fuel
  have hfew := hF.few (by omega)
  rw [pieces_length, D.count] at hfew
  have hdl : ds.length ≤ 3 := ((hF []).2 ([], .mk k z t ds) (by rw [D.pieces]; exact List.mem_cons_self)).2.1
  obtain ⟨f3, g3, σ5, e5, h5, r4, r5, r6⟩ := sizes_loop (q + 31) 4 (by omega) σ2.next (New σ1 σ2) k z t pp c ds (fun x hx => made_fine (q + 11) (Fine.part (m := q + 31) hM hx)) (by omega) (by omega) σ3 ds.length fuel 0 f2 g2 σ4 (by omega) (by rw [← hbf]; show ds.length < 1000000000000; omega) {
    f3 := by rw [← hff]; simp -implicitDefEqProofs only [upd_go, kept_go, ↓reduceIte, Nat.reduceEqDiff, Nat.reduceLT, reduceCtorEq, q3]
    f7 := by rw [← hff]; simp -implicitDefEqProofs only [upd_go, kept_go, ↓reduceIte, Nat.reduceEqDiff, Nat.reduceLT, reduceCtorEq] <;> rfl
    f8 := by rw [← hff]; simp -implicitDefEqProofs only [upd_go, kept_go, ↓reduceIte, Nat.reduceEqDiff, Nat.reduceLT, reduceCtorEq] <;> rfl
    f9 := by rw [← hff]; simp -implicitDefEqProofs only [upd_go, kept_go, ↓reduceIte, Nat.reduceEqDiff, Nat.reduceLT, reduceCtorEq] <;> rfl
    cd := (x4.cells (hw3.cells b3)).trans b3
    lay := (hE.keep kR).keep fun b cs hb hc => ⟨(x4.cells (hw3.cells hc)).trans hc, hb⟩
    low := fun b hb => Nat.lt_of_lt_of_le (lowR b hb) x4.next
    wf := hw4
    ext := x4
    le := Nat.zero_le _ }
  have s4 : f2 4 = .int .i64 (.ofNat (D.mk k z t ds).count) := by rw [← hff]; simp -implicitDefEqProofs only [upd_go, kept_go, ↓reduceIte, Nat.reduceEqDiff, Nat.reduceLT, reduceCtorEq]
  have s5 : f2 5 = .int .i64 (.ofNat (D.mk k z t ds).deep) := by rw [← hff]; simp -implicitDefEqProofs only [upd_go, kept_go, ↓reduceIte, Nat.reduceEqDiff, Nat.reduceLT, reduceCtorEq]
  have s6 : f2 6 = .int .i64 0 := by rw [← hff]; simp -implicitDefEqProofs only [upd_go, kept_go, ↓reduceIte, Nat.reduceEqDiff, Nat.reduceLT, reduceCtorEq]
  have t7 := h5.f7
  have t8 := h5.f8
  rw [List.take_length] at t7 t8
  have hdp : D.deeps ds ≤ 100000 := by have := deeps_le ds; omega
  have w1 := add1 (D.deeps ds) (by omega)
  have ec : (D.mk k z t ds).count = D.counts ds + 1 := by rw [D.count]
  have ed : (D.mk k z t ds).deep = D.deeps ds + 1 := by rw [D.deep]
  rw [ec] at s4
  rw [ed] at s5
  have y1 : ((0 : Int) == 0) = true := by decide
  rw [e5]
  simp -implicitDefEqProofs only [go_sem, ↓reduceIte, Nat.reduceLT, Nat.reduceEqDiff, Nat.reduceAdd, Nat.reduceMul, Nat.reduceLeDiff, Nat.reduceSub, r8_11_go, r8_11U, r4, r5, r6, s4, s5, s6, t7, t8, w1, y1, top_looks]
  exact ⟨_, rfl⟩
end Go.Proofs.YtodkeaoikjjneaaGreatDoor
