/- errors.As at a variable of the type of this program's own error: what a call of it does, at no error and at an error of that type. -/
import Derived.Test.YtaijefddfkcfhaaGreatDoorProg
import Derived.WalkKit
import Derived.LaidEql
import Derived.Stop.Asserts
import Derived.RowKitTokens
namespace Go.Proofs.YtaijefddfkcfhaaGreatDoor
open Go Go.RowKit Go.Extern.Stop Go.Stop Go.Extern

theorem as_nil (t : Value) (w : World) : Calls Tryz.prog 104 #[.nilIface, t] w fun e w' => e = .returned (.bool false) ∧ w' = w := by
  go_enter Tryz.func104, Tryz.ntmps104
  go_wp2
  go_ret
  exact ⟨rfl, rfl⟩

theorem as_valueOfP (t : Addr) (w : World) : (ReflectliteValue.unpack (.iface 137 (.pointer (some t)))).run Tryz.prog w = .ok (.agg #[.pointer (some ⟨2, 137, none⟩), .pointer (some ⟨w.heap.size, 0, none⟩), .int .u64 150]) (w.alloc (.cells #[.pointer (some t)] 137)) := by kernel_rfl
theorem as_typeP (a : Addr) (w : World) : (ReflectliteValue.methodAny (ReflectliteValue.valueError "reflectlite.Value.Type" 0) (fun t _ _ _ => ReflectliteType.toType t) #[.agg #[.pointer (some ⟨2, 137, none⟩), .pointer (some a), .int .u64 150]]).run Tryz.prog w = .ok (.iface 212 (.agg #[.pointer (some ⟨2, 137, none⟩)])) w := by kernel_rfl
theorem as_mKind (h : Value) (w : World) : (Go.method 371 212 (.agg #[h]) "Kind").run Tryz.prog w = .ok (181, h) w := by kernel_rfl
theorem as_mElem (h : Value) (w : World) : (Go.method 371 212 (.agg #[h]) "Elem").run Tryz.prog w = .ok (196, .agg #[h]) w := by kernel_rfl
theorem as_mImpl (h : Value) (w : World) : (Go.method 371 212 (.agg #[h]) "Implements").run Tryz.prog w = .ok (197, .agg #[h]) w := by kernel_rfl
theorem as_mAssign (h : Value) (w : World) : (Go.method 371 212 (.agg #[h]) "AssignableTo").run Tryz.prog w = .ok (194, .agg #[h]) w := by kernel_rfl
theorem as_kindP (w : World) : ((ReflectliteType.abiMethod fun t => (fun a : Nat => Value.int IntKind.u8 (a : Int)) <$> Rtype.kind t) #[.pointer (some ⟨2, 137, none⟩)]).run Tryz.prog w = .ok (.int .u8 22) w := by kernel_rfl
theorem as_kindT (w : World) : ((ReflectliteType.abiMethod fun t => (fun a : Nat => Value.int IntKind.u8 (a : Int)) <$> Rtype.kind t) #[.pointer (some ⟨2, 122, none⟩)]).run Tryz.prog w = .ok (.int .u8 25) w := by kernel_rfl
theorem as_elemP (w : World) : (ReflectliteType.method ReflectliteType.elem #[.agg #[.pointer (some ⟨2, 137, none⟩)]]).run Tryz.prog w = .ok (.iface 212 (.agg #[.pointer (some ⟨2, 122, none⟩)])) w := by kernel_rfl
theorem as_impl (w : World) : (ReflectliteType.relation "Implements" ReflectliteType.implements_ #[.agg #[.pointer (some ⟨2, 122, none⟩)], .iface 212 (.agg #[.pointer (some ⟨2, 120, none⟩)])]).run Tryz.prog w = .ok (.bool true) w := by kernel_rfl
theorem as_typeOf (v : Value) (w : World) : (ReflectliteType.typeOf #[.iface 122 v]).run Tryz.prog w = .ok (.iface 212 (.agg #[.pointer (some ⟨2, 122, none⟩)])) w := by kernel_rfl
theorem as_assign (w : World) : (ReflectliteType.relation "AssignableTo" ReflectliteType.assignableTo #[.agg #[.pointer (some ⟨2, 122, none⟩)], (.iface 212 (.agg #[.pointer (some ⟨2, 122, none⟩)]))]).run Tryz.prog w = .ok (.bool true) w := by kernel_rfl
theorem as_valueOfT (x y : Value) (w : World) : (ReflectliteValue.unpack (.iface 122 (.agg #[x, y]))).run Tryz.prog w = .ok (.agg #[.pointer (some ⟨2, 122, none⟩), .pointer (some ⟨w.heap.size, 0, none⟩), .int .u64 153]) (w.alloc (.cells #[x, y] 122)) := by kernel_rfl
theorem as_partsP (a : Addr) (w : World) : (ReflectliteValue.parts (.agg #[.pointer (some ⟨2, 137, none⟩), .pointer (some a), .int .u64 150])).run Tryz.prog w = .ok (some (137, a, 150)) w := by kernel_rfl
theorem as_partsA (a : Addr) (w : World) : (ReflectliteValue.parts (.agg #[.pointer (some ⟨2, 122, none⟩), .pointer (some a), .int .u64 409])).run Tryz.prog w = .ok (some (122, a, 409)) w := by kernel_rfl
theorem as_partsT (a : Addr) (w : World) : (ReflectliteValue.parts (.agg #[.pointer (some ⟨2, 122, none⟩), .pointer (some a), .int .u64 153])).run Tryz.prog w = .ok (some (122, a, 153)) w := by kernel_rfl
theorem as_elemOf (w : World) : (Rtype.elem? 137).run Tryz.prog w = .ok (some 122) w := by kernel_rfl
theorem as_mk (p : Addr) (w : World) : (ReflectliteValue.mk 122 p ReflectliteValue.flagAddr).run Tryz.prog w = .ok (.agg #[.pointer (some ⟨2, 122, none⟩), .pointer (some p), .int .u64 409]) w := by kernel_rfl
theorem as_direct (w : World) : (Rtype.directlyAssignable 122 122).run Tryz.prog w = .ok true w := by kernel_rfl
theorem as_size (w : World) : (sizeOf 122).run Tryz.prog w = .ok 2 w := by kernel_rfl
theorem as_aggP (w : World) : (isAgg 137).run Tryz.prog w = .ok false w := by kernel_rfl
theorem as_aggT (w : World) : (isAgg 122).run Tryz.prog w = .ok true w := by kernel_rfl

theorem as_loadP (a p : Addr) (W : World) (ha : W.cell? a = some (.pointer (some p))) : (loadVar 137 a).run Tryz.prog W = .ok (.pointer (some p)) W := by
  simp [loadVar, as_aggP, ha, Result.andThen]
theorem as_loadT (b : Addr) (x y : Value) (W : World) (hb : W.cell? b = some x) (hb2 : W.cell? (b.add 1) = some y) : (loadVar 122 b).run Tryz.prog W = .ok (.agg #[x, y]) W := by
  have h2 : W.cell? ⟨b.block, b.off + 1, none⟩ = some y := hb2
  simp [loadVar, as_aggT, as_size, loadCells, loadCellsFrom, Addr.add, hb, h2, Result.andThen]
theorem as_method (z : Sem Value) (f : TypeId → Addr → Nat → Nat → Sem Value) (v : Value) : ReflectliteValue.method z f #[v] = (do match ← ReflectliteValue.parts v with | none => z | some (t, a, fl) => f t a fl (fl % 32)) := rfl
theorem as_isNil (a p : Addr) (W : World) (ha : W.cell? a = some (.pointer (some p))) :
    (ReflectliteValue.method (ReflectliteValue.valueError "reflectlite.Value.IsNil" 0) ReflectliteValue.isNil #[.agg #[.pointer (some ⟨2, 137, none⟩), .pointer (some a), .int .u64 150]]).run Tryz.prog W = .ok (.bool false) W := by
  rw [as_method]
  simp only [Sem.run_bind, as_partsP, Result.andThen]
  simp [ReflectliteValue.isNil, as_loadP a p W ha, Result.andThen]
theorem as_elemV (a p : Addr) (W : World) (ha : W.cell? a = some (.pointer (some p))) :
    (ReflectliteValue.method (ReflectliteValue.valueError "reflectlite.Value.Elem" 0) ReflectliteValue.elem #[.agg #[.pointer (some ⟨2, 137, none⟩), .pointer (some a), .int .u64 150]]).run Tryz.prog W = .ok (.agg #[.pointer (some ⟨2, 122, none⟩), .pointer (some p), .int .u64 409]) W := by
  rw [as_method]
  simp only [Sem.run_bind, as_partsP, Result.andThen]
  simp [ReflectliteValue.elem, as_loadP a p W ha, Result.andThen, as_elemOf, as_mk]
theorem as_still (a c : Addr) (x o : Value) (W : World) (h : W.cell? c = some o) : ∃ o', (W.setCell a x).cell? c = some o' := by
  by_cases hb : a.block = c.block
  · cases hh : W.heap[c.block]? with
    | none => simp [World.cell?, hh] at h
    | some ob =>
      cases ob with
      | cells c1 t1 f1 =>
        have h3 : c.spot = none ∧ c1[c.off]? = some o := by
          simp only [World.cell?, hh] at h
          cases hs : c.spot with
          | none => simpa [hs] using h
          | some q => simp [hs] at h
        have hlt : c.off < c1.size := (Array.getElem?_eq_some_iff.1 h3.2).1
        refine ⟨(if a.spot.isSome then c1 else c1.setIfInBounds a.off x)[c.off]'(by split <;> simpa using hlt), ?_⟩
        simp only [World.cell?, World.setCell, Array.getElem?_modify, hb, hh, h3.1, ↓reduceIte, Option.map_some, Option.isSome_none, Bool.false_eq_true]
        exact Array.getElem?_eq_getElem _
      | _ => simp [World.cell?, hh] at h
  · exact ⟨o, by simp [World.cell?, World.setCell, Array.getElem?_modify, hb] at h ⊢; exact h⟩
theorem as_set (ta b : Addr) (x y old old2 : Value) (W : World) (hx : x.oneCell' = true) (hy : y.oneCell' = true) (hb : W.cell? b = some x) (hb2 : W.cell? (b.add 1) = some y) (ht : W.cell? ta = some old) (hf : W.frozen? ta = false) (ht2 : W.cell? (ta.add 1) = some old2) (hf2 : W.frozen? (ta.add 1) = false) :
    (ReflectliteValue.set #[.agg #[.pointer (some ⟨2, 122, none⟩), .pointer (some ta), .int .u64 409], .agg #[.pointer (some ⟨2, 122, none⟩), .pointer (some b), .int .u64 153]]).run Tryz.prog W = .ok (.tuple #[]) ((W.setCell ta x).setCell (ta.add 1) y) := by
  have h1 : ReflectliteValue.set #[.agg #[.pointer (some ⟨2, 122, none⟩), .pointer (some ta), .int .u64 409], .agg #[.pointer (some ⟨2, 122, none⟩), .pointer (some b), .int .u64 153]] = (do
    let (some (dst, a, fl), some (src, b, _)) := (← ReflectliteValue.parts (.agg #[.pointer (some ⟨2, 122, none⟩), .pointer (some ta), .int .u64 409]), ← ReflectliteValue.parts (.agg #[.pointer (some ⟨2, 122, none⟩), .pointer (some b), .int .u64 153]))
      | unsupported (.noEntry "extern/(internal/reflectlite.Value).Set.zeroValue")
    if fl / ReflectliteValue.flagAddr % 2 == 0 then unsupported (.noEntry "extern/(internal/reflectlite.Value).Set.unaddressable")
    let val ← loadVar src b
    if ← Rtype.directlyAssignable dst src then storeVar dst a val
    else if ← Rtype.implements dst src then
      if (← Rtype.kind src) == 20 then
        match val with
        | .nilIface => unsupported (.noEntry "extern/reflectlite: a nil value of one interface type handed on as a value of another")
        | _ => storeVar dst a val
      else storeVar dst a (.iface src val)
    else panicString ("reflectlite.Set: value of type " ++ (← Rtype.spelt src) ++ " is not assignable to type " ++ (← Rtype.spelt dst))
    pure (.tuple #[])) := rfl
  rw [h1]
  simp only [Sem.run_bind, as_partsA, as_partsT, Result.andThen]
  have hne : ta ≠ ta.add 1 := fun h => by
    have h9 : ta.off = (ta.add 1).off := congrArg Addr.off h
    simp [Addr.add] at h9
  have hc2 : ∃ o, (W.setCell ta x).cell? (ta.add 1) = some o := as_still ta (ta.add 1) x old2 W ht2
  obtain ⟨o, hc2⟩ := hc2
  have hf3 : (W.setCell ta x).frozen? (ta.add 1) = false := (World.frozen?_setCell _ _ _ _).trans hf2
  have h8 : (storeCells ta [x, y]).run Tryz.prog W = .ok () ((W.setCell ta x).setCell (ta.add 1) y) := by
    show (do store (Addr.add ta 0) x; (do store (Addr.add ta 1) y; pure ()) : Sem Unit).run Tryz.prog W = _
    rw [Sem.run_bind, show Addr.add ta 0 = ta from rfl, run_store Tryz.prog W ta _ _ hx]
    simp only [ht, hf, Result.andThen, Bool.false_eq_true, if_false]
    rw [Sem.run_bind, run_store Tryz.prog _ (ta.add 1) _ _ hy]
    simp [hc2, hf3, Result.andThen]
  simp [ReflectliteValue.flagAddr, as_loadT b x y W hb hb2, Result.andThen, as_direct, storeVar, as_size, Value.cells, h8]

set_option maxHeartbeats 4000000 in
theorem as_hit (x y : Value) (t : Addr) (old old2 : Value) (w : World) (hx : x.oneCell' = true) (hy : y.oneCell' = true) (hg : w.cell? ⟨0, 0, none⟩ = some (.iface 212 (.agg #[.pointer (some ⟨2, 120, none⟩)]))) (ht0 : w.cell? t = some old) (hf0 : w.frozen? t = false) (ht2 : w.cell? (t.add 1) = some old2) (hf2 : w.frozen? (t.add 1) = false) :
    Calls Tryz.prog 104 #[.iface 122 (.agg #[x, y]), .iface 137 (.pointer (some t))] w fun ev w' => ev = .returned (.bool true) ∧ w' = (((((w.alloc (.cells #[.pointer (some t)] 137)).alloc (.cells #[.pointer (some ⟨2, 137, none⟩), .pointer (some ⟨w.heap.size, 0, none⟩), .int .u64 150] 173)).alloc (.cells #[.pointer (some ⟨2, 137, none⟩), .pointer (some ⟨w.heap.size, 0, none⟩), .int .u64 150] 173)).alloc (.cells #[x, y] 122)).setCell t x).setCell (t.add 1) y := by
  have h1 := @run_callFunc_extern Tryz.prog 121 _ (fun args => ReflectliteValue.unpack (args.getD 0 (.tuple #[]))) Tryz.func121 (by kernel_rfl) (by kernel_rfl) (by kernel_rfl) (by kernel_rfl)
  have h2 := @run_callFunc_extern Tryz.prog 122 _ (ReflectliteValue.methodAny (ReflectliteValue.valueError "reflectlite.Value.Type" 0) (fun t _ _ _ => ReflectliteType.toType t)) Tryz.func122 (by kernel_rfl) (by kernel_rfl) (by kernel_rfl) (by kernel_rfl)
  have h3 := @run_callFunc_extern Tryz.prog 123 _ (ReflectliteValue.method (ReflectliteValue.valueError "reflectlite.Value.IsNil" 0) ReflectliteValue.isNil) Tryz.func123 (by kernel_rfl) (by kernel_rfl) (by kernel_rfl) (by kernel_rfl)
  have h4 := @run_callFunc_extern Tryz.prog 181 _ (ReflectliteType.abiMethod fun t => do pure (.int .u8 (← Rtype.kind t))) Tryz.func181 (by kernel_rfl) (by kernel_rfl) (by kernel_rfl) (by kernel_rfl)
  have h5 := @run_callFunc_extern Tryz.prog 196 _ (ReflectliteType.method ReflectliteType.elem) Tryz.func196 (by kernel_rfl) (by kernel_rfl) (by kernel_rfl) (by kernel_rfl)
  have h6 := @run_callFunc_extern Tryz.prog 197 _ (ReflectliteType.relation "Implements" ReflectliteType.implements_) Tryz.func197 (by kernel_rfl) (by kernel_rfl) (by kernel_rfl) (by kernel_rfl)
  have h7 := @run_callFunc_extern Tryz.prog 146 _ ReflectliteType.typeOf Tryz.func146 (by kernel_rfl) (by kernel_rfl) (by kernel_rfl) (by kernel_rfl)
  have h8 := @run_callFunc_extern Tryz.prog 194 _ (ReflectliteType.relation "AssignableTo" ReflectliteType.assignableTo) Tryz.func194 (by kernel_rfl) (by kernel_rfl) (by kernel_rfl) (by kernel_rfl)
  have h9 := @run_callFunc_extern Tryz.prog 147 _ (ReflectliteValue.method (ReflectliteValue.valueError "reflectlite.Value.Elem" 0) ReflectliteValue.elem) Tryz.func147 (by kernel_rfl) (by kernel_rfl) (by kernel_rfl) (by kernel_rfl)
  have h10 := @run_callFunc_extern Tryz.prog 148 _ ReflectliteValue.set Tryz.func148 (by kernel_rfl) (by kernel_rfl) (by kernel_rfl) (by kernel_rfl)
  have k1 := as_typeOf
  have k2 := as_mAssign
  have k3 := as_assign
  have k4 := as_valueOfT
  have k5 := as_valueOfP
  have k6 := as_typeP
  have k7 := as_mKind
  have k8 := as_mElem
  have k9 := as_mImpl
  have k10 := as_kindP
  have k11 := as_kindT
  have k12 := as_elemP
  have k13 := as_impl
  have n8 := as_isNil ⟨w.heap.size, 0, none⟩ t ((w.alloc (.cells #[.pointer (some t)] 137)).alloc (.cells #[.pointer (some ⟨2, 137, none⟩), .pointer (some ⟨w.heap.size, 0, none⟩), .int .u64 150] 173)) (by simp)
  have hlt : 0 < w.heap.size := by
    rcases Nat.lt_or_ge 0 w.heap.size with h | h
    · exact h
    · simp [World.cell?, Array.getElem?_eq_none h] at hg
  have htl : t.block < w.heap.size := by
    rcases Nat.lt_or_ge t.block w.heap.size with h | h
    · exact h
    · simp [World.cell?, Array.getElem?_eq_none h] at ht0
  have hg2 : ((w.alloc (.cells #[.pointer (some t)] 137)).alloc (.cells #[.pointer (some ⟨2, 137, none⟩), .pointer (some ⟨w.heap.size, 0, none⟩), .int .u64 150] 173)).cell? ⟨0, 0, none⟩ = some (.iface 212 (.agg #[.pointer (some ⟨2, 120, none⟩)])) := by
    rw [World.cell?_alloc_lt _ _ ⟨0, 0, none⟩ (by simp <;> omega), World.cell?_alloc_lt _ _ ⟨0, 0, none⟩ hlt]; exact hg
  have el := as_elemV ⟨w.heap.size, 0, none⟩ t (((w.alloc (.cells #[.pointer (some t)] 137)).alloc (.cells #[.pointer (some ⟨2, 137, none⟩), .pointer (some ⟨w.heap.size, 0, none⟩), .int .u64 150] 173)).alloc (.cells #[.pointer (some ⟨2, 137, none⟩), .pointer (some ⟨w.heap.size, 0, none⟩), .int .u64 150] 173)) (by rw [World.cell?_alloc_lt _ _ ⟨w.heap.size, 0, none⟩ (by simp; omega)]; simp)
  have up : ∀ (a : Addr) (v : Value), a.block < w.heap.size → w.cell? a = some v → ((((w.alloc (.cells #[.pointer (some t)] 137)).alloc (.cells #[.pointer (some ⟨2, 137, none⟩), .pointer (some ⟨w.heap.size, 0, none⟩), .int .u64 150] 173)).alloc (.cells #[.pointer (some ⟨2, 137, none⟩), .pointer (some ⟨w.heap.size, 0, none⟩), .int .u64 150] 173)).alloc (.cells #[x, y] 122)).cell? a = some v := fun a v h1 h2 => by
    rw [World.cell?_alloc_lt _ _ a (by simp; omega), World.cell?_alloc_lt _ _ a (by simp; omega), World.cell?_alloc_lt _ _ a (by simp; omega), World.cell?_alloc_lt _ _ a h1]; exact h2
  have upf : ∀ (a : Addr), a.block < w.heap.size → w.frozen? a = false → ((((w.alloc (.cells #[.pointer (some t)] 137)).alloc (.cells #[.pointer (some ⟨2, 137, none⟩), .pointer (some ⟨w.heap.size, 0, none⟩), .int .u64 150] 173)).alloc (.cells #[.pointer (some ⟨2, 137, none⟩), .pointer (some ⟨w.heap.size, 0, none⟩), .int .u64 150] 173)).alloc (.cells #[x, y] 122)).frozen? a = false := fun a h1 h2 => by
    rw [World.frozen?_alloc_old _ _ a (by simp; omega), World.frozen?_alloc_old _ _ a (by simp; omega), World.frozen?_alloc_old _ _ a (by simp; omega), World.frozen?_alloc_old _ _ a (Nat.ne_of_lt h1)]; exact h2
  have st := as_set t ⟨w.heap.size + 1 + 1 + 1, 0, none⟩ x y old old2 ((((w.alloc (.cells #[.pointer (some t)] 137)).alloc (.cells #[.pointer (some ⟨2, 137, none⟩), .pointer (some ⟨w.heap.size, 0, none⟩), .int .u64 150] 173)).alloc (.cells #[.pointer (some ⟨2, 137, none⟩), .pointer (some ⟨w.heap.size, 0, none⟩), .int .u64 150] 173)).alloc (.cells #[x, y] 122)) hx hy
    (by rw [World.cell?_alloc_at _ _ _ _ (by simp)]; rfl)
    (by rw [show (Addr.add ⟨w.heap.size + 1 + 1 + 1, 0, none⟩ 1 : Addr) = ⟨w.heap.size + 1 + 1 + 1, 1, none⟩ from rfl, World.cell?_alloc_at _ _ _ _ (by simp)]; rfl)
    (up t old htl ht0) (upf t htl hf0) (up (t.add 1) old2 htl ht2) (upf (t.add 1) htl hf2)
  go_enter Tryz.func104, Tryz.ntmps104
  go_wp2
  refine wp_loop_rounds 1 ?_
  rw [rounds_succ]
  go_wp2
  go_ret
  exact ⟨rfl, rfl⟩
end Go.Proofs.YtaijefddfkcfhaaGreatDoor
