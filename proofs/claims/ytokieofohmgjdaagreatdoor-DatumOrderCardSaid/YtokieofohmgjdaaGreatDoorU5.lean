/- The reading of the program, and what is so of it: As, EngAJ, Sums, SymT, SymWs, SymWp, SymP2, SymCP, SymPa, SymPb, SymPe0, SymCF, SymPe, SymPe2, SymE, SymE3, SymP3, SymPf, SymPf2, SymPf3, SymPg, SymPc, SymPh, SymNa, SymNb, SymGa, SymCD, SymLF0, SymRm, SymCA, SymUa, SymGb, SymX5, SymY2, SymGc, SymCN, SymNc, SymGd, SymFa, SymFb, SymGe, SymGf, SymCO, SymWa, SymOa, SymOb. -/
import Derived.Test.YtokieofohmgjdaaGreatDoorProg
import Derived.WalkKit
import Derived.LaidEql
import Derived.Stop.Asserts
import Derived.RowKitTokens
import Derived.Test.YtokieofohmgjdaaGreatDoorU2
import Derived.Test.YtokieofohmgjdaaGreatDoorU3
import Derived.Test.YtokieofohmgjdaaGreatDoorU4
import Derived.Test.YtokieofohmgjdaaGreatDoorZSymTL
import Derived.ChangeArms
import Derived.DataReads
import Derived.Laws.StructEq
set_option linter.unusedSimpArgs false
set_option linter.unusedVariables false
/- errors.As at a variable of the type of this program's own error: what a call of it does, at no error and at an error of that type. -/
namespace Go.Proofs.YtokieofohmgjdaaGreatDoor
open Go Go.RowKit Go.Extern.Stop Go.Stop Go.Extern

theorem as_nil (t : Value) (w : World) : Calls Tryz.prog 169 #[.nilIface, t] w fun e w' => e = .returned (.bool false) ∧ w' = w := by
  go_enter Tryz.func169, Tryz.ntmps169
  go_wp2
  go_ret
  exact ⟨rfl, rfl⟩

theorem as_valueOfP (t : Addr) (w : World) : (ReflectliteValue.unpack (.iface 197 (.pointer (some t)))).run Tryz.prog w = .ok (.agg #[.pointer (some ⟨2, 197, none⟩), .pointer (some ⟨w.heap.size, 0, none⟩), .int .u64 150]) (w.alloc (.cells #[.pointer (some t)] 197)) := by kernel_rfl
theorem as_typeP (a : Addr) (w : World) : (ReflectliteValue.methodAny (ReflectliteValue.valueError "reflectlite.Value.Type" 0) (fun t _ _ _ => ReflectliteType.toType t) #[.agg #[.pointer (some ⟨2, 197, none⟩), .pointer (some a), .int .u64 150]]).run Tryz.prog w = .ok (.iface 231 (.agg #[.pointer (some ⟨2, 197, none⟩)])) w := by kernel_rfl
theorem as_mKind (h : Value) (w : World) : (Go.method 380 231 (.agg #[h]) "Kind").run Tryz.prog w = .ok (221, h) w := by kernel_rfl
theorem as_mElem (h : Value) (w : World) : (Go.method 380 231 (.agg #[h]) "Elem").run Tryz.prog w = .ok (244, .agg #[h]) w := by kernel_rfl
theorem as_mImpl (h : Value) (w : World) : (Go.method 380 231 (.agg #[h]) "Implements").run Tryz.prog w = .ok (245, .agg #[h]) w := by kernel_rfl
theorem as_mAssign (h : Value) (w : World) : (Go.method 380 231 (.agg #[h]) "AssignableTo").run Tryz.prog w = .ok (242, .agg #[h]) w := by kernel_rfl
theorem as_kindP (w : World) : ((ReflectliteType.abiMethod fun t => (fun a : Nat => Value.int IntKind.u8 (a : Int)) <$> Rtype.kind t) #[.pointer (some ⟨2, 197, none⟩)]).run Tryz.prog w = .ok (.int .u8 22) w := by kernel_rfl
theorem as_kindT (w : World) : ((ReflectliteType.abiMethod fun t => (fun a : Nat => Value.int IntKind.u8 (a : Int)) <$> Rtype.kind t) #[.pointer (some ⟨2, 178, none⟩)]).run Tryz.prog w = .ok (.int .u8 25) w := by kernel_rfl
theorem as_elemP (w : World) : (ReflectliteType.method ReflectliteType.elem #[.agg #[.pointer (some ⟨2, 197, none⟩)]]).run Tryz.prog w = .ok (.iface 231 (.agg #[.pointer (some ⟨2, 178, none⟩)])) w := by kernel_rfl
theorem as_impl (w : World) : (ReflectliteType.relation "Implements" ReflectliteType.implements_ #[.agg #[.pointer (some ⟨2, 178, none⟩)], .iface 231 (.agg #[.pointer (some ⟨2, 176, none⟩)])]).run Tryz.prog w = .ok (.bool true) w := by kernel_rfl
theorem as_typeOf (v : Value) (w : World) : (ReflectliteType.typeOf #[.iface 178 v]).run Tryz.prog w = .ok (.iface 231 (.agg #[.pointer (some ⟨2, 178, none⟩)])) w := by kernel_rfl
theorem as_assign (w : World) : (ReflectliteType.relation "AssignableTo" ReflectliteType.assignableTo #[.agg #[.pointer (some ⟨2, 178, none⟩)], (.iface 231 (.agg #[.pointer (some ⟨2, 178, none⟩)]))]).run Tryz.prog w = .ok (.bool true) w := by kernel_rfl
theorem as_valueOfT (x y : Value) (w : World) : (ReflectliteValue.unpack (.iface 178 (.agg #[x, y]))).run Tryz.prog w = .ok (.agg #[.pointer (some ⟨2, 178, none⟩), .pointer (some ⟨w.heap.size, 0, none⟩), .int .u64 153]) (w.alloc (.cells #[x, y] 178)) := by kernel_rfl
theorem as_partsP (a : Addr) (w : World) : (ReflectliteValue.parts (.agg #[.pointer (some ⟨2, 197, none⟩), .pointer (some a), .int .u64 150])).run Tryz.prog w = .ok (some (197, a, 150)) w := by kernel_rfl
theorem as_partsA (a : Addr) (w : World) : (ReflectliteValue.parts (.agg #[.pointer (some ⟨2, 178, none⟩), .pointer (some a), .int .u64 409])).run Tryz.prog w = .ok (some (178, a, 409)) w := by kernel_rfl
theorem as_partsT (a : Addr) (w : World) : (ReflectliteValue.parts (.agg #[.pointer (some ⟨2, 178, none⟩), .pointer (some a), .int .u64 153])).run Tryz.prog w = .ok (some (178, a, 153)) w := by kernel_rfl
theorem as_elemOf (w : World) : (Rtype.elem? 197).run Tryz.prog w = .ok (some 178) w := by kernel_rfl
theorem as_mk (p : Addr) (w : World) : (ReflectliteValue.mk 178 p ReflectliteValue.flagAddr).run Tryz.prog w = .ok (.agg #[.pointer (some ⟨2, 178, none⟩), .pointer (some p), .int .u64 409]) w := by kernel_rfl
theorem as_direct (w : World) : (Rtype.directlyAssignable 178 178).run Tryz.prog w = .ok true w := by kernel_rfl
theorem as_size (w : World) : (sizeOf 178).run Tryz.prog w = .ok 2 w := by kernel_rfl
theorem as_aggP (w : World) : (isAgg 197).run Tryz.prog w = .ok false w := by kernel_rfl
theorem as_aggT (w : World) : (isAgg 178).run Tryz.prog w = .ok true w := by kernel_rfl

theorem as_loadP (a p : Addr) (W : World) (ha : W.cell? a = some (.pointer (some p))) : (loadVar 197 a).run Tryz.prog W = .ok (.pointer (some p)) W := by
  simp [loadVar, as_aggP, ha, Result.andThen]
theorem as_loadT (b : Addr) (x y : Value) (W : World) (hb : W.cell? b = some x) (hb2 : W.cell? (b.add 1) = some y) : (loadVar 178 b).run Tryz.prog W = .ok (.agg #[x, y]) W := by
  have h2 : W.cell? ⟨b.block, b.off + 1, none⟩ = some y := hb2
  simp [loadVar, as_aggT, as_size, loadCells, loadCellsFrom, Addr.add, hb, h2, Result.andThen]
theorem as_method (z : Sem Value) (f : TypeId → Addr → Nat → Nat → Sem Value) (v : Value) : ReflectliteValue.method z f #[v] = (do match ← ReflectliteValue.parts v with | none => z | some (t, a, fl) => f t a fl (fl % 32)) := rfl
theorem as_isNil (a p : Addr) (W : World) (ha : W.cell? a = some (.pointer (some p))) :
    (ReflectliteValue.method (ReflectliteValue.valueError "reflectlite.Value.IsNil" 0) ReflectliteValue.isNil #[.agg #[.pointer (some ⟨2, 197, none⟩), .pointer (some a), .int .u64 150]]).run Tryz.prog W = .ok (.bool false) W := by
  rw [as_method]
  simp only [Sem.run_bind, as_partsP, Result.andThen]
  simp [ReflectliteValue.isNil, as_loadP a p W ha, Result.andThen]
theorem as_elemV (a p : Addr) (W : World) (ha : W.cell? a = some (.pointer (some p))) :
    (ReflectliteValue.method (ReflectliteValue.valueError "reflectlite.Value.Elem" 0) ReflectliteValue.elem #[.agg #[.pointer (some ⟨2, 197, none⟩), .pointer (some a), .int .u64 150]]).run Tryz.prog W = .ok (.agg #[.pointer (some ⟨2, 178, none⟩), .pointer (some p), .int .u64 409]) W := by
  rw [as_method]
  simp only [Sem.run_bind, as_partsP, Result.andThen]
  simp [ReflectliteValue.elem, as_loadP a p W ha, Result.andThen, as_elemOf, as_mk]
theorem as_still (a c : Addr) (x o : Value) (W : World) (h : W.cell? c = some o) : ∃ o', (W.setCell a x).cell? c = some o' := by
  by_cases hb : a.block = c.block
  · cases hh : W.heap[c.block]? with
    | none => simp [World.cell?, hh] at h
    | some ob =>
      cases ob with
      | cells c1 t1 f1 =>
        have h3 : c.spot = none ∧ c1[c.off]? = some o := by
          simp only [World.cell?, hh] at h
          cases hs : c.spot with
          | none => simpa [hs] using h
          | some q => simp [hs] at h
        have hlt : c.off < c1.size := (Array.getElem?_eq_some_iff.1 h3.2).1
        refine ⟨(if a.spot.isSome then c1 else c1.setIfInBounds a.off x)[c.off]'(by split <;> simpa using hlt), ?_⟩
        simp only [World.cell?, World.setCell, Array.getElem?_modify, hb, hh, h3.1, ↓reduceIte, Option.map_some, Option.isSome_none, Bool.false_eq_true]
        exact Array.getElem?_eq_getElem _
      | _ => simp [World.cell?, hh] at h
  · exact ⟨o, by simp [World.cell?, World.setCell, Array.getElem?_modify, hb] at h ⊢; exact h⟩
theorem as_set (ta b : Addr) (x y old old2 : Value) (W : World) (hx : x.oneCell' = true) (hy : y.oneCell' = true) (hb : W.cell? b = some x) (hb2 : W.cell? (b.add 1) = some y) (ht : W.cell? ta = some old) (hf : W.frozen? ta = false) (ht2 : W.cell? (ta.add 1) = some old2) (hf2 : W.frozen? (ta.add 1) = false) :
    (ReflectliteValue.set #[.agg #[.pointer (some ⟨2, 178, none⟩), .pointer (some ta), .int .u64 409], .agg #[.pointer (some ⟨2, 178, none⟩), .pointer (some b), .int .u64 153]]).run Tryz.prog W = .ok (.tuple #[]) ((W.setCell ta x).setCell (ta.add 1) y) := by
  have h1 : ReflectliteValue.set #[.agg #[.pointer (some ⟨2, 178, none⟩), .pointer (some ta), .int .u64 409], .agg #[.pointer (some ⟨2, 178, none⟩), .pointer (some b), .int .u64 153]] = (do
    let (some (dst, a, fl), some (src, b, _)) := (← ReflectliteValue.parts (.agg #[.pointer (some ⟨2, 178, none⟩), .pointer (some ta), .int .u64 409]), ← ReflectliteValue.parts (.agg #[.pointer (some ⟨2, 178, none⟩), .pointer (some b), .int .u64 153]))
      | unsupported (.noEntry "extern/(internal/reflectlite.Value).Set.zeroValue")
    if fl / ReflectliteValue.flagAddr % 2 == 0 then unsupported (.noEntry "extern/(internal/reflectlite.Value).Set.unaddressable")
    let val ← loadVar src b
    if ← Rtype.directlyAssignable dst src then storeVar dst a val
    else if ← Rtype.implements dst src then
      if (← Rtype.kind src) == 20 then
        match val with
        | .nilIface => unsupported (.noEntry "extern/reflectlite: a nil value of one interface type handed on as a value of another")
        | _ => storeVar dst a val
      else storeVar dst a (.iface src val)
    else panicString ("reflectlite.Set: value of type " ++ (← Rtype.spelt src) ++ " is not assignable to type " ++ (← Rtype.spelt dst))
    pure (.tuple #[])) := rfl
  rw [h1]
  simp only [Sem.run_bind, as_partsA, as_partsT, Result.andThen]
  have hne : ta ≠ ta.add 1 := fun h => by
    have h9 : ta.off = (ta.add 1).off := congrArg Addr.off h
    simp [Addr.add] at h9
  have hc2 : ∃ o, (W.setCell ta x).cell? (ta.add 1) = some o := as_still ta (ta.add 1) x old2 W ht2
  obtain ⟨o, hc2⟩ := hc2
  have hf3 : (W.setCell ta x).frozen? (ta.add 1) = false := (World.frozen?_setCell _ _ _ _).trans hf2
  have h8 : (storeCells ta [x, y]).run Tryz.prog W = .ok () ((W.setCell ta x).setCell (ta.add 1) y) := by
    show (do store (Addr.add ta 0) x; (do store (Addr.add ta 1) y; pure ()) : Sem Unit).run Tryz.prog W = _
    rw [Sem.run_bind, show Addr.add ta 0 = ta from rfl, run_store Tryz.prog W ta _ _ hx]
    simp only [ht, hf, Result.andThen, Bool.false_eq_true, if_false]
    rw [Sem.run_bind, run_store Tryz.prog _ (ta.add 1) _ _ hy]
    simp [hc2, hf3, Result.andThen]
  simp [ReflectliteValue.flagAddr, as_loadT b x y W hb hb2, Result.andThen, as_direct, storeVar, as_size, Value.cells, h8]

set_option maxHeartbeats 4000000 in
theorem as_hit (x y : Value) (t : Addr) (old old2 : Value) (w : World) (hx : x.oneCell' = true) (hy : y.oneCell' = true) (hg : w.cell? ⟨0, 0, none⟩ = some (.iface 231 (.agg #[.pointer (some ⟨2, 176, none⟩)]))) (ht0 : w.cell? t = some old) (hf0 : w.frozen? t = false) (ht2 : w.cell? (t.add 1) = some old2) (hf2 : w.frozen? (t.add 1) = false) :
    Calls Tryz.prog 169 #[.iface 178 (.agg #[x, y]), .iface 197 (.pointer (some t))] w fun ev w' => ev = .returned (.bool true) ∧ w' = (((((w.alloc (.cells #[.pointer (some t)] 197)).alloc (.cells #[.pointer (some ⟨2, 197, none⟩), .pointer (some ⟨w.heap.size, 0, none⟩), .int .u64 150] 214)).alloc (.cells #[.pointer (some ⟨2, 197, none⟩), .pointer (some ⟨w.heap.size, 0, none⟩), .int .u64 150] 214)).alloc (.cells #[x, y] 178)).setCell t x).setCell (t.add 1) y := by
  have h1 := @run_callFunc_extern Tryz.prog 184 _ (fun args => ReflectliteValue.unpack (args.getD 0 (.tuple #[]))) Tryz.func184 (by kernel_rfl) (by kernel_rfl) (by kernel_rfl) (by kernel_rfl)
  have h2 := @run_callFunc_extern Tryz.prog 185 _ (ReflectliteValue.methodAny (ReflectliteValue.valueError "reflectlite.Value.Type" 0) (fun t _ _ _ => ReflectliteType.toType t)) Tryz.func185 (by kernel_rfl) (by kernel_rfl) (by kernel_rfl) (by kernel_rfl)
  have h3 := @run_callFunc_extern Tryz.prog 186 _ (ReflectliteValue.method (ReflectliteValue.valueError "reflectlite.Value.IsNil" 0) ReflectliteValue.isNil) Tryz.func186 (by kernel_rfl) (by kernel_rfl) (by kernel_rfl) (by kernel_rfl)
  have h4 := @run_callFunc_extern Tryz.prog 221 _ (ReflectliteType.abiMethod fun t => do pure (.int .u8 (← Rtype.kind t))) Tryz.func221 (by kernel_rfl) (by kernel_rfl) (by kernel_rfl) (by kernel_rfl)
  have h5 := @run_callFunc_extern Tryz.prog 244 _ (ReflectliteType.method ReflectliteType.elem) Tryz.func244 (by kernel_rfl) (by kernel_rfl) (by kernel_rfl) (by kernel_rfl)
  have h6 := @run_callFunc_extern Tryz.prog 245 _ (ReflectliteType.relation "Implements" ReflectliteType.implements_) Tryz.func245 (by kernel_rfl) (by kernel_rfl) (by kernel_rfl) (by kernel_rfl)
  have h7 := @run_callFunc_extern Tryz.prog 195 _ ReflectliteType.typeOf Tryz.func195 (by kernel_rfl) (by kernel_rfl) (by kernel_rfl) (by kernel_rfl)
  have h8 := @run_callFunc_extern Tryz.prog 242 _ (ReflectliteType.relation "AssignableTo" ReflectliteType.assignableTo) Tryz.func242 (by kernel_rfl) (by kernel_rfl) (by kernel_rfl) (by kernel_rfl)
  have h9 := @run_callFunc_extern Tryz.prog 196 _ (ReflectliteValue.method (ReflectliteValue.valueError "reflectlite.Value.Elem" 0) ReflectliteValue.elem) Tryz.func196 (by kernel_rfl) (by kernel_rfl) (by kernel_rfl) (by kernel_rfl)
  have h10 := @run_callFunc_extern Tryz.prog 197 _ ReflectliteValue.set Tryz.func197 (by kernel_rfl) (by kernel_rfl) (by kernel_rfl) (by kernel_rfl)
  have k1 := as_typeOf
  have k2 := as_mAssign
  have k3 := as_assign
  have k4 := as_valueOfT
  have k5 := as_valueOfP
  have k6 := as_typeP
  have k7 := as_mKind
  have k8 := as_mElem
  have k9 := as_mImpl
  have k10 := as_kindP
  have k11 := as_kindT
  have k12 := as_elemP
  have k13 := as_impl
  have n8 := as_isNil ⟨w.heap.size, 0, none⟩ t ((w.alloc (.cells #[.pointer (some t)] 197)).alloc (.cells #[.pointer (some ⟨2, 197, none⟩), .pointer (some ⟨w.heap.size, 0, none⟩), .int .u64 150] 214)) (by simp)
  have hlt : 0 < w.heap.size := by
    rcases Nat.lt_or_ge 0 w.heap.size with h | h
    · exact h
    · simp [World.cell?, Array.getElem?_eq_none h] at hg
  have htl : t.block < w.heap.size := by
    rcases Nat.lt_or_ge t.block w.heap.size with h | h
    · exact h
    · simp [World.cell?, Array.getElem?_eq_none h] at ht0
  have hg2 : ((w.alloc (.cells #[.pointer (some t)] 197)).alloc (.cells #[.pointer (some ⟨2, 197, none⟩), .pointer (some ⟨w.heap.size, 0, none⟩), .int .u64 150] 214)).cell? ⟨0, 0, none⟩ = some (.iface 231 (.agg #[.pointer (some ⟨2, 176, none⟩)])) := by
    rw [World.cell?_alloc_lt _ _ ⟨0, 0, none⟩ (by simp <;> omega), World.cell?_alloc_lt _ _ ⟨0, 0, none⟩ hlt]; exact hg
  have el := as_elemV ⟨w.heap.size, 0, none⟩ t (((w.alloc (.cells #[.pointer (some t)] 197)).alloc (.cells #[.pointer (some ⟨2, 197, none⟩), .pointer (some ⟨w.heap.size, 0, none⟩), .int .u64 150] 214)).alloc (.cells #[.pointer (some ⟨2, 197, none⟩), .pointer (some ⟨w.heap.size, 0, none⟩), .int .u64 150] 214)) (by rw [World.cell?_alloc_lt _ _ ⟨w.heap.size, 0, none⟩ (by simp; omega)]; simp)
  have up : ∀ (a : Addr) (v : Value), a.block < w.heap.size → w.cell? a = some v → ((((w.alloc (.cells #[.pointer (some t)] 197)).alloc (.cells #[.pointer (some ⟨2, 197, none⟩), .pointer (some ⟨w.heap.size, 0, none⟩), .int .u64 150] 214)).alloc (.cells #[.pointer (some ⟨2, 197, none⟩), .pointer (some ⟨w.heap.size, 0, none⟩), .int .u64 150] 214)).alloc (.cells #[x, y] 178)).cell? a = some v := fun a v h1 h2 => by
    rw [World.cell?_alloc_lt _ _ a (by simp; omega), World.cell?_alloc_lt _ _ a (by simp; omega), World.cell?_alloc_lt _ _ a (by simp; omega), World.cell?_alloc_lt _ _ a h1]; exact h2
  have upf : ∀ (a : Addr), a.block < w.heap.size → w.frozen? a = false → ((((w.alloc (.cells #[.pointer (some t)] 197)).alloc (.cells #[.pointer (some ⟨2, 197, none⟩), .pointer (some ⟨w.heap.size, 0, none⟩), .int .u64 150] 214)).alloc (.cells #[.pointer (some ⟨2, 197, none⟩), .pointer (some ⟨w.heap.size, 0, none⟩), .int .u64 150] 214)).alloc (.cells #[x, y] 178)).frozen? a = false := fun a h1 h2 => by
    rw [World.frozen?_alloc_old _ _ a (by simp; omega), World.frozen?_alloc_old _ _ a (by simp; omega), World.frozen?_alloc_old _ _ a (by simp; omega), World.frozen?_alloc_old _ _ a (Nat.ne_of_lt h1)]; exact h2
  have st := as_set t ⟨w.heap.size + 1 + 1 + 1, 0, none⟩ x y old old2 ((((w.alloc (.cells #[.pointer (some t)] 197)).alloc (.cells #[.pointer (some ⟨2, 197, none⟩), .pointer (some ⟨w.heap.size, 0, none⟩), .int .u64 150] 214)).alloc (.cells #[.pointer (some ⟨2, 197, none⟩), .pointer (some ⟨w.heap.size, 0, none⟩), .int .u64 150] 214)).alloc (.cells #[x, y] 178)) hx hy
    (by rw [World.cell?_alloc_at _ _ _ _ (by simp)]; rfl)
    (by rw [show (Addr.add ⟨w.heap.size + 1 + 1 + 1, 0, none⟩ 1 : Addr) = ⟨w.heap.size + 1 + 1 + 1, 1, none⟩ from rfl, World.cell?_alloc_at _ _ _ _ (by simp)]; rfl)
    (up t old htl ht0) (upf t htl hf0) (up (t.add 1) old2 htl ht2) (upf (t.add 1) htl hf2)
  go_enter Tryz.func169, Tryz.ntmps169
  go_wp2
  refine wp_loop_rounds 1 ?_
  rw [rounds_succ]
  go_wp2
  go_ret
  exact ⟨rfl, rfl⟩
end Go.Proofs.YtokieofohmgjdaaGreatDoor
/- A contract of a call that makes new memory, writes two cells that there were, side by side, and answers true. -/
namespace Go.Eng
open Go

section
variable [Pins] {P : Program} {m : Mp} {σ : FState} {w : World} {f : FuncId} {fn : Func} {body : Code} {args' : Array Value}

theorem CallOK.of_store2 (hf : P.funcs[f]? = some fn) (hb : fn.body = some body) (hname : (fn.name == "runtime.NumGoroutine") = false) (hr : Rel Top m σ w) {p p' x x' y y' : Value} {σ' : FState} (hst : fstore 2 p (.agg #[x, y]) σ = .skip σ') (hp : VRel m p p') (hx : VRel m x x') (hy : VRel m y y')
    (h : ∀ (t : Addr) (old old2 : Value), p' = .pointer (some t) → x'.oneCell' = true → y'.oneCell' = true → w.cell? t = some old → w.frozen? t = false → w.cell? (t.add 1) = some old2 → w.frozen? (t.add 1) = false → ∃ w4 : World, (∀ j, j < w.heap.size → w4.heap[j]? = w.heap[j]?) ∧ w.heap.size ≤ w4.heap.size ∧ w4.os = w.os ∧ w4.tape = w.tape ∧ w4.output = w.output ∧
      Calls P f args' w fun e w' => e = .returned (.bool true) ∧ w' = (w4.setCell t x').setCell (t.add 1) y') : CallOK P m σ w f args' none (.ret (.bool true) none σ') := by
  obtain ⟨b, off, ent, c, el, c', rfl, hg, ho, hro, hc, hs, rfl⟩ := fstore_inv hst
  have hvc : valCells (.agg #[x, y]) = [x, y] := rfl
  rw [hvc] at hc hs
  generalize hpp : p' = pp at hp
  cases hp with
  | ptr hm =>
    rename_i e
    have hcc : oneCell x = true ∧ oneCell y = true := by simpa using (Bool.and_eq_true_iff.1 hc).2
    have hone : x'.oneCell' = true := one_eq (oneCell_of_rel hx hcc.1)
    have hone2 : y'.oneCell' = true := one_eq (oneCell_of_rel hy hcc.2)
    obtain ⟨hre, hsy⟩ := hr.sync b ent e trivial hg hm
    rw [ho] at hsy
    obtain ⟨ca, el', fr, h2, h3, h4, _⟩ := hsy
    have hoff : off + 1 < c.length := by
      rw [spliceN_eq] at hs
      by_cases hle : off + [x, y].length ≤ c.length
      · simp at hle
        omega
      · rw [if_neg hle] at hs
        cases hs
    obtain ⟨old, h5, _⟩ := h4 off c[off] (List.getElem?_eq_getElem (by omega))
    obtain ⟨old2, h52, _⟩ := h4 (off + 1) c[off + 1] (List.getElem?_eq_getElem hoff)
    have hlt : e.blk < w.heap.size := (hr.dom _ _ hm).2
    have hfr := h3 (by rw [← hre]; exact hro)
    have cell : ∀ w4 : World, w4.heap[e.blk]? = w.heap[e.blk]? → ∀ (o : Nat) (v : Value), ca[e.sh + o]? = some v → w4.cell? ⟨e.blk, e.sh + o, none⟩ = some v ∧ w4.frozen? ⟨e.blk, e.sh + o, none⟩ = false := fun w4 hw4 o v hv => by
      rw [h2] at hw4
      exact ⟨by simp [World.cell?, hw4, hv], by simp [World.frozen?, hw4, hfr]⟩
    have hadd : Addr.add ⟨e.blk, e.sh + off, none⟩ 1 = ⟨e.blk, e.sh + (off + 1), none⟩ := by simp [Addr.add, Nat.add_assoc]
    obtain ⟨w4, g1, g2, g3, g4, g5, g6⟩ := h _ old old2 hpp hone hone2 (cell w rfl off old h5).1 (cell w rfl off old h5).2 (by rw [hadd]; exact (cell w rfl (off + 1) old2 h52).1) (by rw [hadd]; exact (cell w rfl (off + 1) old2 h52).2)
    have hr4 : Rel Top m σ w4 := hr.moreWorld g1 g2
    have hS4 : Step σ σ m m w w4 := (Step.refl σ m w).moreWorld g1 g2 g3 g4 g5
    obtain ⟨w', k1, k2, k3⟩ := hr4.splice (P := P) hm hg ho hro hs (.cons hx (.cons hy .nil)) (fun v hv => by
      rcases List.mem_cons.1 hv with rfl | hv
      · exact hone
      · rw [List.mem_singleton] at hv
        rw [hv]
        exact hone2)
    have c1 := cell w4 (g1 _ hlt) off old h5
    have c2 := cell w4 (g1 _ hlt) (off + 1) old2 h52
    have hne : ((e.sh + off : Nat)) ≠ e.sh + (off + 1) := by omega
    have hc2 : (w4.setCell ⟨e.blk, e.sh + off, none⟩ x').cell? ⟨e.blk, e.sh + (off + 1), none⟩ = some old2 := by
      have hw4 := g1 _ hlt
      rw [h2] at hw4
      simp [World.setCell, World.cell?, Array.getElem?_modify, hw4, h52, Array.getElem?_setIfInBounds, Array.getElem?_set]
    have hf2 : (w4.setCell ⟨e.blk, e.sh + off, none⟩ x').frozen? ⟨e.blk, e.sh + (off + 1), none⟩ = false := (World.frozen?_setCell _ _ _ _).trans c2.2
    have hrun : (storeCells ⟨e.blk, e.sh + off, none⟩ [x', y']).run P w4 = .ok () ((w4.setCell ⟨e.blk, e.sh + off, none⟩ x').setCell (Addr.add ⟨e.blk, e.sh + off, none⟩ 1) y') := by
      show (do store (Addr.add ⟨e.blk, e.sh + off, none⟩ 0) x'; (do store (Addr.add ⟨e.blk, e.sh + off, none⟩ 1) y'; pure ()) : Sem Unit).run P w4 = _
      rw [Sem.run_bind, run_store P w4 _ _ _ hone]
      rw [hadd]
      simp [Addr.add, c1.1, c1.2, Result.andThen, Sem.run_bind, run_store P _ _ _ _ hone2, hc2, hf2]
    rw [hrun] at k1
    cases k1
    exact CallOK.of_calls hf hb hname g6 k2 (hS4.trans k3) (.bool true)
end
end Go.Eng
/- What the reading is told of errors.As is so: it rests on what the variable errors.errorType holds when the call begins. -/
namespace Go.Proofs.YtokieofohmgjdaaGreatDoor
open Go Go.Eng

def handle : Value := .iface 231 (.agg #[.pointer (some ⟨2, 176, none⟩)])
theorem as_named : (Tryz.prog.funcs.toList.all fun fn => !(fn.name == "runtime.NumGoroutine")) = true := by kernel_rfl
theorem as_names (f : FuncId) (fn : Func) (h : Tryz.prog.funcs[f]? = some fn) : (fn.name == "runtime.NumGoroutine") = false := by
  have := List.all_eq_true.1 as_named fn (by
    rw [Array.mem_toList_iff]
    exact Array.mem_of_getElem? h)
  simpa using this

theorem sums_ok' [Pins] (W : World) (hpin : ∀ o, W.heap[0]? = some o → Pins.on 0 o) (hg : W.cell? ⟨0, 0, none⟩ = some handle) : SumOK Tryz.prog sums := by
  intro f args σ r m w args' h hr hA
  unfold sums at h
  cases hf : Nat.beq f 169 with
  | false => rw [hf] at h; cases h
  | true =>
    rw [hf] at h
    rw [Nat.beq_eq] at hf
    subst hf
    have hname := as_names 169 _ Tryz.func169
    obtain ⟨L'⟩ := args'
    simp only [cond_true] at h
    split at h
    · rename_i p
      cases h
      match L', hA with
      | [a', p'], hA =>
        have h1 := hA.head
        cases h1
        exact CallOK.of_calls Tryz.func169 rfl hname (as_nil p' w) hr (.refl _ _ _) (.bool false)
      | [], hA => simp [LRel] at hA
      | [_], hA => simp [LRel] at hA
      | _ :: _ :: _ :: _, hA => simp [LRel] at hA
    · rename_i t cs pt p
      cases hc : (Nat.beq t 178 && Nat.beq pt 197) with
      | false => rw [hc] at h; cases h
      | true =>
        rw [hc] at h
        simp only [Bool.and_eq_true, Nat.beq_eq] at hc
        obtain ⟨rfl, rfl⟩ := hc
        simp only [cond_true] at h
        split at h
        · rename_i x y hx
          split at h
          · rename_i σ' hst
            cases h
            match L', hA with
            | [a', p'], hA =>
              have h1 := hA.head
              have h2 := hA.tail.head
              cases h1 with
              | iface _ h1 =>
              cases h2 with
              | iface _ h2 =>
              rename_i v' q'
              cases h1 with
              | agg hsz hel =>
                rename_i cs'
                have hcs : cs = #[x, y] := by
                  apply Array.ext'
                  simpa using hx
                subst hcs
                obtain ⟨l'⟩ := cs'
                match l', hsz, hel with
                | [x', y'], hsz, hel =>
                  have hxx : VRel m x x' := hel 0 x x' rfl rfl
                  have hyy : VRel m y y' := hel 1 y y' rfl rfl
                  refine CallOK.of_store2 Tryz.func169 rfl hname hr hst h2 hxx hyy fun ta old old2 hp hone hone2 hct hfr hct2 hfr2 => ?_
                  subst hp
                  have hgw : w.cell? ⟨0, 0, none⟩ = some handle := by
                    cases ho : W.heap[0]? with
                    | none => simp [World.cell?, ho] at hg
                    | some o =>
                      have := (hr.pin 0 o (hpin o ho)).1
                      rw [← hg]
                      simp [World.cell?, ho, this]
                  have hlt : ∀ (w : World) (o : Obj) (j : Nat), j < w.heap.size → (w.alloc o).heap[j]? = w.heap[j]? := fun w o j hj => by
                    show (w.heap.push o)[j]? = _
                    exact (Array.getElem?_push_lt hj).trans (Array.getElem?_eq_getElem hj).symm
                  have hs : ∀ (w : World) (o : Obj), (w.alloc o).heap.size = w.heap.size + 1 := fun w o => by
                    show (w.heap.push o).size = _
                    simp
                  have hhit := as_hit x' y' ta old old2 w hone hone2 hgw hct hfr hct2 hfr2
                  refine ⟨_, ?_, ?_, ?_, ?_, ?_, hhit⟩
                  · intro j hj
                    rw [hlt _ _ j (by rw [hs, hs, hs]; omega), hlt _ _ j (by rw [hs, hs]; omega), hlt _ _ j (by rw [hs]; omega), hlt _ _ j hj]
                  · rw [hs, hs, hs, hs]
                    omega
                  · rfl
                  · rfl
                  · rfl
                | [], hsz, hel => simp at hsz
                | [_], hsz, hel => simp at hsz
                | _ :: _ :: _ :: _, hsz, hel => simp at hsz
            | [], hA => simp [LRel] at hA
            | [_], hA => simp [LRel] at hA
            | _ :: _ :: _ :: _, hA => simp [LRel] at hA
          · cases h
        · cases h
    · cases h
end Go.Proofs.YtokieofohmgjdaaGreatDoor
/- The reading of a law, where the chapter's examples are told; what it says of a law is so of every run. -/
namespace Go.Proofs.YtokieofohmgjdaaGreatDoor
open Go Go.Eng
attribute [local congr] andThen_congr fops_congr fdraw_congr afterOp_congr drawF_congr
attribute [-go_sem] List.range_succ
/-- Calls so many deep; the examples hold. -/
noncomputable def top (n : Nat) : Env where
  call := fun f args u σ => match u with
    | none => bif Nat.beq f 10 && args.isEmpty then .ret (.bool true) none σ else (env n).call f args none σ
    | some md => (env n).call f args (some md) σ
  round := fun l args σ => (env n).round l args σ
theorem top_call (n : Nat) (f : FuncId) (args : List Value) (σ : FState) (h : Nat.beq f 10 = false) : (top n).call f args none σ = (env n).call f args none σ := by
  show (bif Nat.beq f 10 && args.isEmpty then CRes.ret (.bool true) none σ else (env n).call f args none σ) = _
  rw [h]
  rfl
theorem top_looks (n : Nat) (σ : FState) : (top n).call 10 [] none σ = .ret (.bool true) none σ := rfl
theorem sy_mixed : Tryz.prog.follows .mixedOrders = true := by kernel_rfl
theorem sy_named : (Tryz.prog.funcs.toList.all fun fn => !(fn.name == "runtime.NumGoroutine")) = true := by kernel_rfl
theorem sy_names (f : FuncId) (fn : Func) (h : Tryz.prog.funcs[f]? = some fn) : (fn.name == "runtime.NumGoroutine") = false := by
  have := List.all_eq_true.1 sy_named fn (by
    rw [Array.mem_toList_iff]
    exact Array.mem_of_getElem? h)
  simpa using this
/-- One variable is pinned. -/
abbrev varPins (W : World) : Pins := ⟨fun k o => k = 0 ∧ W.heap[k]? = some o⟩
theorem nosums_ok [Pins] : SumOK Tryz.prog nosums := fun _ _ _ _ _ _ _ h => by cases h
theorem looks_call (W : World) : Calls Tryz.prog 10 #[] W fun e W' => e = .returned (.bool true) ∧ W'.os = W.os ∧ W'.output = W.output ∧ W'.tape = W.tape ∧ W.heap.size ≤ W'.heap.size ∧ ∀ i, i < W.heap.size → W'.heap[i]? = W.heap[i]? :=
  says_true sy_mixed sy_names Tryz.func10 rfl W (@nosums_ok (pinsOf W)) looks_says
theorem top_ok (n : Nat) (W0 : World) (hg : W0.cell? ⟨0, 0, none⟩ = some handle) : @EnvOK (varPins W0) Tryz.prog (top n) := by
  letI := varPins W0
  have h : EnvOK Tryz.prog (env n) := fenv_ok (sums_ok' W0 (fun o h => ⟨rfl, h⟩) hg) sy_mixed sy_names nls n
  refine ⟨fun f args u σ m w args' hr hA hu => ?_, fun l args σ m w args' e hr hA hm => h.round l args σ m w args' e hr hA hm⟩
  cases u with
  | some md => exact h.call f args (some md) σ m w args' hr hA hu
  | none =>
    by_cases hf : (Nat.beq f 10 && args.isEmpty) = true
    · rw [Bool.and_eq_true, Nat.beq_eq, List.isEmpty_iff] at hf
      obtain ⟨rfl, rfl⟩ := hf
      obtain ⟨L'⟩ := args'
      have hl : L' = [] := by
        have := hA.1
        exact List.length_eq_zero_iff.1 this.symm
      subst hl
      show CallOK Tryz.prog m σ w 10 #[] none (.ret (.bool true) none σ)
      refine .inr ⟨callFunc_enter Tryz.func10 rfl (sy_names _ _ Tryz.func10), fun cs hu => ?_⟩
      obtain ⟨e, w', fr, ⟨rfl, ho, hout, ht, hsz, hk⟩, hc, hfn, hl⟩ := looks_call w cs
      exact ⟨m, w', .bool true, fr, cs, hr.moreWorld hk hsz, (Step.refl σ m w).moreWorld hk hsz ho ht hout, .bool true, hu, .refl _ _, StepsIn.of_steps hc, hfn, hl.2.2.1, ⟨hl.1, hl.2.1, hl.2.2.2⟩⟩
    · have e : (top n).call f args none σ = (env n).call f args none σ := by
        show (bif Nat.beq f 10 && args.isEmpty then CRes.ret (.bool true) none σ else (env n).call f args none σ) = _
        rw [Bool.not_eq_true] at hf
        rw [hf]
        rfl
      rw [e]
      exact h.call f args none σ m w args' hr hA hu
/-- What the reading says of a call, of memory of which nothing may be written, is so of every run. -/
theorem calls_of [Pins] {P : Program} {E : Env} (hE : EnvOK P E) (hm : P.follows .mixedOrders = true) (hname : ∀ (f : FuncId) (fn : Func), P.funcs[f]? = some fn → (fn.name == "runtime.NumGoroutine") = false) (nls : Hints) {f : FuncId} {fn : Func} {body : Code} (hf : P.funcs[f]? = some fn) (hb : fn.body = some body) (σ : FState) (m : Mp) (W : World) (args : List Value) (args' : Array Value) (hr : Rel Top m σ W) (hA : LRel m args args'.toList) (hro : ∀ b e, m b = some e → e.ro = true)
    (h : ∃ σ', fcall P nls E f args none σ = .ret (.bool true) none σ') :
    Calls P f args' W fun e W' => e = .returned (.bool true) ∧ W'.os = W.os ∧ W'.output = W.output ∧ W'.tape = W.tape ∧ W.heap.size ≤ W'.heap.size ∧ ∀ i, i < W.heap.size → W'.heap[i]? = W.heap[i]? := by
  obtain ⟨σ', h⟩ := h
  have hc := call_ok hE (draw_ok hm hE) hname nls f args none σ m W args' hr hA
  generalize fcall P nls E f args none σ = r at h hc
  subst h
  rcases hc with ⟨_, _, _, v', hval, _⟩ | ⟨_, hgo⟩
  · have hent := callFunc_enter (P := P) (w := W) (args := args') hf hb (hname f fn hf)
    rw [hent] at hval
    cases hval
  · intro cs
    obtain ⟨m', w', v', fr, cs', hR, hS', hV, _, hun, hst, hfn, hk, hgoing⟩ := hgo cs rfl
    have hcs : cs' = cs := by
      rcases hun with h | ⟨h, _⟩
      · exact h
      · cases h
    subst hcs
    have hv' := hV.flat rfl
    subst hv'
    exact ⟨.returned (.bool true), w', fr, ⟨rfl, hS'.os, hS'.output, hS'.tape, hS'.size, fun i hi => hS'.keep i hi fun b e ent hb hre => by rw [hro b e hb] at hre; cases hre⟩, hst.steps, hfn, leaving_of_going hk hgoing⟩
theorem law_calls {f : FuncId} {fn : Func} {body : Code} (hf : Tryz.prog.funcs[f]? = some fn) (hb : fn.body = some body) (n : Nat) (σ : FState) (m : Mp) (W : World) (args : List Value) (args' : Array Value) (hg : W.cell? ⟨0, 0, none⟩ = some handle) (hr : @Rel (varPins W) Top m σ W) (hA : LRel m args args'.toList) (hro : ∀ b e, m b = some e → e.ro = true)
    (h : ∃ σ', fcall Tryz.prog nls (top n) f args none σ = .ret (.bool true) none σ') :
    Calls Tryz.prog f args' W fun e W' => e = .returned (.bool true) ∧ W'.os = W.os ∧ W'.output = W.output ∧ W'.tape = W.tape ∧ W.heap.size ≤ W'.heap.size ∧ ∀ i, i < W.heap.size → W'.heap[i]? = W.heap[i]? :=
  @calls_of (varPins W) Tryz.prog (top n) (top_ok n W hg) sy_mixed sy_names nls f fn body hf hb σ m W args args' hr hA hro h
/-- Numbers in the model's memory, as the reading begins with them. -/
noncomputable def numbers (zs : List Int) : FState := ⟨Tr.set .lf 0 ⟨.cells (zs.map fun z => Value.int .i64 z) TI, true, none, 0⟩, 1, 1⟩
end Go.Proofs.YtokieofohmgjdaaGreatDoor
/- Memory as a law's call finds it; data that its arguments lead to. -/
namespace Go.Proofs.YtokieofohmgjdaaGreatDoor
open Go Go.Eng
def isCells (W : World) (b : Nat) : Bool := match W.heap[b]? with
  | some (.cells ..) => true
  | _ => false
/-- What is seen of a value at the beginning. -/
def seenV (W : World) (v : Value) : Value :=
  match v with
  | .int k n => .int k n
  | .string s => .string s
  | .slice none l c => .slice none l c
  | .slice (some a) l c => if l = 0 ∧ c = 0 then .slice (some ⟨0, 0, none⟩) 0 0 else if a.spot = none ∧ isCells W a.block = true then .slice (some ⟨a.block, a.off, none⟩) l c else .tuple #[]
  | _ => .tuple #[]
def seenM (W : World) : Mp := fun b => if isCells W b = true then some ⟨b, 0, true, none⟩ else none
def seenE (W : World) (b : Nat) : Option Ent := match W.heap[b]? with
  | some (.cells c t _) => some ⟨.cells (c.toList.map (seenV W)) t, true, none, 0⟩
  | _ => none
noncomputable def seenT (W : World) : Nat → Tr Ent
  | 0 => .lf
  | n + 1 => match seenE W n with
    | some e => (seenT W n).set n e
    | none => seenT W n
noncomputable def seenS (W : World) : FState := ⟨seenT W W.heap.size, W.heap.size, 1⟩
theorem seenT_get (W : World) : ∀ n b, (seenT W n).get b = if b < n then seenE W b else none
  | 0, b => by rw [if_neg (Nat.not_lt_zero b)]; rfl
  | n + 1, b => by
    rw [seenT]
    cases h : seenE W n with
    | some e =>
      rw [Tr.get_set, seenT_get W n b]
      by_cases hb : b = n
      · subst hb
        rw [if_pos rfl, if_pos (Nat.lt_succ_self b), h]
      · rw [if_neg hb]
        by_cases hl : b < n
        · rw [if_pos hl, if_pos (by omega)]
        · rw [if_neg hl, if_neg (by omega)]
    | none =>
      show (seenT W n).get b = _
      rw [seenT_get W n b]
      by_cases hb : b = n
      · subst hb
        rw [if_neg (Nat.lt_irrefl b), if_pos (Nat.lt_succ_self b), h]
      · by_cases hl : b < n
        · rw [if_pos hl, if_pos (by omega)]
        · rw [if_neg hl, if_neg (by omega)]
theorem seenS_get (W : World) (b : Nat) : (seenS W).heap.get b = seenE W b := by
  show (seenT W W.heap.size).get b = _
  rw [seenT_get]
  by_cases h : b < W.heap.size
  · rw [if_pos h]
  · rw [if_neg h]
    unfold seenE
    rw [Array.getElem?_eq_none (by omega)]
theorem seenE_some {W : World} {b : Nat} {e : Ent} (h : seenE W b = some e) : ∃ c t fr, W.heap[b]? = some (.cells c t fr) ∧ e = ⟨.cells (c.toList.map (seenV W)) t, true, none, 0⟩ ∧ b < W.heap.size := by
  unfold seenE at h
  split at h
  · rename_i c t fr hb
    cases h
    exact ⟨c, t, fr, hb, rfl, (Array.getElem?_eq_some_iff.1 hb).1⟩
  · cases h
theorem seen_wf (W : World) : Wf (seenS W) := fun b e h => by
  rw [seenS_get] at h
  obtain ⟨c, t, fr, h1, rfl, h2⟩ := seenE_some h
  exact ⟨h2, Nat.lt_succ_self 0⟩
theorem isCells_iff {W : World} {b : Nat} : isCells W b = true ↔ ∃ c t fr, W.heap[b]? = some (.cells c t fr) := by
  unfold isCells
  split
  · rename_i c t fr h
    exact ⟨fun _ => ⟨c, t, fr, h⟩, fun _ => rfl⟩
  · rename_i h
    exact ⟨fun h' => (by cases h'), fun ⟨c, t, fr, h'⟩ => absurd h' (h c t fr)⟩
theorem seen_cells {W : World} {b : Nat} {c : Array Value} {t : TypeId} {fr : Nat × Nat} (h : W.heap[b]? = some (.cells c t fr)) : (seenS W).cells b = some (c.toList.map (seenV W)) := by
  rw [cells_get, seenS_get]
  unfold seenE
  rw [h]
  rfl
theorem cell_cells {W : World} {a : Addr} {v : Value} (h : W.cell? a = some v) : a.spot = none ∧ isCells W a.block = true ∧ ∃ c t fr, W.heap[a.block]? = some (.cells c t fr) ∧ c[a.off]? = some v := by
  unfold World.cell? at h
  split at h
  · rename_i c t fr hb
    split at h
    · cases h
    · rename_i hs
      exact ⟨by simpa using hs, isCells_iff.2 ⟨c, t, fr, hb⟩, c, t, fr, hb, h⟩
  · cases h
theorem seenV_rel {W : World} (hg : isCells W 0 = true) (v : Value) : VRel (seenM W) (seenV W v) v := by
  unfold seenV
  split
  · exact .int _ _
  · exact .string _
  · exact .nilSlice _ _
  · rename_i a l c
    by_cases h : l = 0 ∧ c = 0
    · rw [if_pos h]
      obtain ⟨rfl, rfl⟩ := h
      exact .empty (e := ⟨0, 0, true, none⟩) (by unfold seenM; rw [if_pos hg])
    · rw [if_neg h]
      by_cases h2 : a.spot = none ∧ isCells W a.block = true
      · rw [if_pos h2]
        have := VRel.slice (m := seenM W) (b := a.block) (off := a.off) (l := l) (c := c) (c' := c) (e := ⟨a.block, 0, true, none⟩) (by unfold seenM; rw [if_pos h2.2]) (.inl rfl)
        obtain ⟨b, off, sp⟩ := a
        obtain ⟨rfl, _⟩ := h2
        simpa using this
      · rw [if_neg h2]
        exact .unknown _
  · exact .unknown _
theorem seen_rel {W : World} (hg : isCells W 0 = true) : @Rel (varPins W) Top (seenM W) (seenS W) W := by
  letI := varPins W
  refine ⟨fun b ent e _ hb he => ?_, fun b b' ent ent' e e' hne hb hb' _ _ he he' => ?_, fun b e he => ?_, fun b ent hb => (seen_wf W b ent hb).1, fun k o hk => ⟨hk.2, fun b e he hro => ?_⟩⟩
  · rw [seenS_get] at hb
    obtain ⟨c, t, fr, h1, rfl, h2⟩ := seenE_some hb
    unfold seenM at he
    rw [if_pos (isCells_iff.2 ⟨c, t, fr, h1⟩)] at he
    cases he
    refine ⟨rfl, c, t, fr, h1, (fun h => by cases h), fun i v hv => ?_, trivial⟩
    rw [List.getElem?_map] at hv
    cases hc : c.toList[i]? with
    | none => rw [hc] at hv; cases hv
    | some v' =>
      rw [hc] at hv
      cases hv
      exact ⟨v', by rw [Nat.zero_add]; simpa using hc, seenV_rel hg v'⟩
  · unfold seenM at he he'
    split at he
    · split at he'
      · cases he
        cases he'
        exact hne
      · cases he'
    · cases he
  · unfold seenM at he
    split at he
    · rename_i h
      cases he
      obtain ⟨c, t, fr, h1⟩ := isCells_iff.1 h
      have := (Array.getElem?_eq_some_iff.1 h1).1
      exact ⟨this, this⟩
    · cases he
  · unfold seenM at he
    split at he
    · cases he
      cases hro
    · cases he
theorem seen_ro {W : World} : ∀ b e, seenM W b = some e → e.ro = true := fun b e h => by
  unfold seenM at h
  split at h
  · cases h
    rfl
  · cases h
/-- What is seen of an argument. -/
def seenA (W : World) (v : Value) : Value := match v with
  | .agg cs => .agg (cs.toList.map (seenV W)).toArray
  | v => seenV W v
theorem seenA_rel {W : World} (hg : isCells W 0 = true) (v : Value) : VRel (seenM W) (seenA W v) v := by
  unfold seenA
  split
  · rename_i cs
    refine .agg (by simp) fun i x x' hx hx' => ?_
    simp only [List.getElem?_toArray, List.getElem?_map, Array.getElem?_toList, hx', Option.map_some, Option.some.injEq] at hx
    subst hx
    exact seenV_rel hg x'
  · exact seenV_rel hg _
theorem seenArgs_rel {W : World} (hg : isCells W 0 = true) (vs : List Value) : LRel (seenM W) (vs.map (seenA W)) vs := by
  refine ⟨by simp, fun i v v' h h' => ?_⟩
  rw [List.getElem?_map, h'] at h
  cases h
  exact seenA_rel hg v'
/-- Numbers. -/
theorem seen_ints {W : World} {a : Addr} {len cap : Nat} {zs : List Int} (hl : len ≤ cap) (hz : zs.length = cap) (hc : ∀ i, i < zs.length → W.cell? (a.add i) = some (.int .i64 (zs.getD i 0))) :
    ∃ p c, seenV W (.slice (some a) len cap) = .slice p len c ∧ Ints (seenS W) p (zs.take len) ∧ (zs.take len).length = len ∧ ∀ q, p = some q → q.block = 0 ∨ isCells W q.block = true := by
  have hlen : (zs.take len).length = len := by rw [List.length_take]; omega
  by_cases h0 : len = 0 ∧ cap = 0
  · obtain ⟨rfl, rfl⟩ := h0
    refine ⟨some ⟨0, 0, none⟩, 0, rfl, fun i n h => by simp at h, hlen, fun q hq => .inl (by cases hq; rfl)⟩
  · have hfirst := hc 0 (by omega)
    have ha0 : a.add 0 = a := by unfold Addr.add; rw [if_pos rfl]
    rw [ha0] at hfirst
    obtain ⟨hs, hcl, c, t, fr, hb, _⟩ := cell_cells hfirst
    refine ⟨some ⟨a.block, a.off, none⟩, cap, ?_, fun i n h => ?_, hlen, fun q hq => .inr (by cases hq; exact hcl)⟩
    · unfold seenV
      simp only
      rw [if_neg h0, if_pos ⟨hs, hcl⟩]
    · refine ⟨a.block, a.off, _, rfl, seen_cells hb, ?_⟩
      have hi : i < len := by
        have := (List.getElem?_eq_some_iff.1 h).1
        omega
      have h1 := hc i (by omega)
      have hadd : a.add i = ⟨a.block, a.off + i, none⟩ := by
        unfold Addr.add
        by_cases hi0 : i = 0
        · rw [if_pos hi0]
          subst hi0
          obtain ⟨x, y, z⟩ := a
          cases hs
          rfl
        · rw [if_neg hi0]
      rw [hadd] at h1
      obtain ⟨_, _, c', t', fr', hb', hcv⟩ := cell_cells h1
      simp only at hb' hcv
      rw [hb] at hb'
      cases hb'
      rw [List.getElem?_map, Array.getElem?_toList, hcv]
      rw [List.getElem?_take, if_pos hi] at h
      rw [List.getD_eq_getElem?_getD, h]
      rfl
end Go.Proofs.YtokieofohmgjdaaGreatDoor
/- Data that the arguments of a law lead to. -/
namespace Go.Proofs.YtokieofohmgjdaaGreatDoor
open Go Go.Eng
noncomputable def fieldsD : Array Field := match Tryz.prog.underlying TD with
  | some (.struct fs) => fs
  | _ => #[]
theorem und_datum : Tryz.prog.underlying TD = some (.struct fieldsD) := by kernel_rfl
theorem und_list : Tryz.prog.underlying TL = some (.slice TD) := by kernel_rfl
theorem und_int : Tryz.prog.underlying TI = some (.int .i64) := by kernel_rfl
theorem und_string : Tryz.prog.underlying 9 = some .string := by kernel_rfl
theorem fieldsD_0 : (fieldsD[0]?).map (fun f => (f.type, f.offset)) = some (TI, 0) := by kernel_rfl
theorem fieldsD_1 : (fieldsD[1]?).map (fun f => (f.type, f.offset)) = some (TI, 1) := by kernel_rfl
theorem fieldsD_2 : (fieldsD[2]?).map (fun f => (f.type, f.offset)) = some (9, 2) := by kernel_rfl
theorem fieldsD_3 : (fieldsD[3]?).map (fun f => (f.type, f.offset)) = some (TL, 3) := by kernel_rfl
theorem cellsOf_datum : Tryz.prog.cellsOf TD = 4 := by kernel_rfl
theorem cellsOf_int : Tryz.prog.cellsOf TI = 1 := by kernel_rfl
theorem cellsOf_string : Tryz.prog.cellsOf 9 = 1 := by kernel_rfl
theorem cellsOf_list : Tryz.prog.cellsOf TL = 1 := by kernel_rfl
theorem exists_list {α : Type} {P : Nat → α → Prop} : ∀ (n : Nat), (∀ i, i < n → ∃ d, P i d) → ∃ ds : List α, ds.length = n ∧ ∀ i d, ds[i]? = some d → P i d
  | 0, _ => ⟨[], rfl, fun i d h => by simp at h⟩
  | n + 1, h => by
    obtain ⟨ds, h1, h2⟩ := exists_list n fun i hi => h i (by omega)
    obtain ⟨d, hd⟩ := h n (by omega)
    refine ⟨ds ++ [d], by simp [h1], fun i e he => ?_⟩
    by_cases hi : i < ds.length
    · rw [List.getElem?_append_left hi] at he
      exact h2 i e he
    · rw [List.getElem?_append_right (by omega)] at he
      have : i - ds.length = 0 := by
        have := (List.getElem?_eq_some_iff.1 he).1
        simp at this
        omega
      rw [this] at he
      cases he
      obtain rfl : i = n := by omega
      exact hd
theorem laidRE_off {R : Nat → Prop} {σ : FState} {b off : Nat} {cs : List Value} (hb : σ.cells b = some cs) (hR : R b) : ∀ (es : List D) (i : Nat), (∀ j e, es[j]? = some e → 4 ≤ cs.length - (off + (i + j) * 4) ∧ LaidR R σ (.agg ((cs.drop (off + (i + j) * 4)).take 4).toArray) e) → LaidRE R σ (some ⟨b, off, none⟩) i es
  | [], _, _ => trivial
  | e :: es, i, h => by
    have h0 := h 0 e rfl
    refine ⟨⟨b, off, cs, rfl, hR, hb, h0.1, h0.2⟩, laidRE_off hb hR es (i + 1) fun j e' he => ?_⟩
    have := h (j + 1) e' (by simpa using he)
    rwa [show i + (j + 1) = i + 1 + j by omega] at this
theorem add_none {a : Addr} (h : a.spot = none) (n : Nat) : a.add n = ⟨a.block, a.off + n, none⟩ := by
  unfold Addr.add
  by_cases hn : n = 0
  · rw [if_pos hn]
    subst hn
    obtain ⟨x, y, z⟩ := a
    cases h
    rfl
  · rw [if_neg hn]
theorem cell_of {W : World} {b o : Nat} {c : Array Value} {t : TypeId} {fr : Nat × Nat} (h : W.heap[b]? = some (.cells c t fr)) : W.cell? ⟨b, o, none⟩ = c[o]? := by
  unfold World.cell?
  simp only [h]
  rfl
theorem field_of {i t o : Nat} (h : (fieldsD[i]?).map (fun f => (f.type, f.offset)) = some (t, o)) : ∃ f, fieldsD[i]? = some f ∧ f.type = t ∧ f.offset = o := by
  cases hf : fieldsD[i]? with
  | none => rw [hf] at h; cases h
  | some f =>
    rw [hf] at h
    cases h
    exact ⟨f, rfl, rfl, rfl⟩
theorem list_four {α : Type} {l : List α} (h : l.length = 4) : ∃ a b c d, l = [a, b, c, d] := by
  match l, h with
  | [a, b, c, d], _ => exact ⟨a, b, c, d, rfl⟩
theorem trod_datum {H : Type} {enc : TypeId × Value → H} {W : World} {held : Bool} : ∀ (n : Nat) (cs : List Value) (x : DataW H × List MemPlace), DataW.trod enc Tryz.prog W 0 (fun _ => true) held n TD cs = some x →
    cs.length = 4 ∧ ∃ d : D, LaidR (fun b => b < W.heap.size) (seenS W) (.agg (cs.map (seenV W)).toArray) d := by
  intro n
  induction n with
  | zero => intro cs x h; simp [DataW.trod] at h
  | succ n ih =>
    intro cs x h
    obtain ⟨xs, m, hm, hx, hl, hxl, hf⟩ := DataW.trod_struct und_datum h
    obtain rfl : m = n := by omega
    rw [cellsOf_datum] at hl
    refine ⟨hl, ?_⟩
    have hsz : fieldsD.size = 4 := by kernel_rfl
    rw [hsz] at hxl
    obtain ⟨c0, c1, c2, c3, rfl⟩ := list_four hl
    have get : ∀ {i t o : Nat}, (fieldsD[i]?).map (fun f => (f.type, f.offset)) = some (t, o) → ∃ y, DataW.trod enc Tryz.prog W 0 (fun _ => true) held m t (([c0, c1, c2, c3].drop o).take (Tryz.prog.cellsOf t)) = some y := fun {i t o} hi => by
      obtain ⟨f, h1, h2, h3⟩ := field_of hi
      have := hf i f h1
      rw [h2, h3] at this
      have hlt : i < xs.length := by
        have := (Array.getElem?_eq_some_iff.1 h1).1
        omega
      exact ⟨xs[i], by rw [this, List.getElem?_eq_getElem hlt]⟩
    obtain ⟨y0, h0⟩ := get fieldsD_0
    obtain ⟨y1, h1⟩ := get fieldsD_1
    obtain ⟨y2, h2⟩ := get fieldsD_2
    obtain ⟨y3, h3⟩ := get fieldsD_3
    rw [cellsOf_int] at h0 h1
    rw [cellsOf_string] at h2
    rw [cellsOf_list] at h3
    obtain ⟨k, e0, _, _⟩ := DataW.trod_int und_int h0
    obtain ⟨z, e1, _, _⟩ := DataW.trod_int und_int h1
    obtain ⟨t, e2, _, _⟩ := DataW.trod_string und_string h2
    obtain rfl : c0 = .int .i64 k := by simpa using e0
    obtain rfl : c1 = .int .i64 z := by simpa using e1
    obtain rfl : c2 = .string t := by simpa using e2
    rcases DataW.trod_slice und_list h3 with ⟨e3, _⟩ | ⟨a, len, cap, elems, rest, m', hm', e3, _, _, hle, hmx, hel, hes, hsp, _⟩
    · obtain rfl : c3 = .slice none 0 0 := by simpa using e3
      exact ⟨.mk k z t [], none, 0, rfl, trivial⟩
    · obtain rfl : c3 = .slice (some a) len cap := by simpa using e3
      obtain ⟨hrl, hrs⟩ := hsp rfl
      rw [cellsOf_datum] at hes hrs
      by_cases h00 : len = 0 ∧ cap = 0
      · obtain ⟨rfl, rfl⟩ := h00
        exact ⟨.mk k z t [], some ⟨0, 0, none⟩, 0, rfl, trivial⟩
      · have hfirst : ∃ v, W.cell? a = some v := by
          have ha0 : a.add 0 = a := by unfold Addr.add; rw [if_pos rfl]
          have key : ∀ {y : DataW H × List MemPlace}, (W.cells? 0 (a.add 0) 4).bind (DataW.trod enc Tryz.prog W 0 (fun _ => true) held m' TD) = some y → ∃ v, W.cell? a = some v := fun hb => by
            rw [Option.bind_eq_some_iff] at hb
            obtain ⟨cs', hc', _⟩ := hb
            obtain ⟨_, hl', hg⟩ := World.cells?_some hc'
            have := hg 0 (by omega)
            rw [ha0, ha0, List.getElem?_eq_getElem (by omega)] at this
            exact ⟨_, this⟩
          by_cases hl0 : 0 < len
          · have := hes 0 hl0
            rw [Nat.zero_mul, List.getElem?_eq_getElem (by omega)] at this
            exact key this
          · have := hrs 0 (by omega)
            obtain rfl : len = 0 := by omega
            rw [Nat.add_zero, Nat.zero_mul, List.getElem?_eq_getElem (by omega)] at this
            exact key this
        obtain ⟨v0, hv0⟩ := hfirst
        obtain ⟨hsn, hic, c, ty, fr, hb, _⟩ := cell_cells hv0
        have hlt : a.block < W.heap.size := (Array.getElem?_eq_some_iff.1 hb).1
        have hσ := seen_cells hb
        have each : ∀ i, i < len → ∃ d : D, 4 ≤ (c.toList.map (seenV W)).length - (a.off + i * 4) ∧ LaidR (fun b => b < W.heap.size) (seenS W) (.agg (((c.toList.map (seenV W)).drop (a.off + i * 4)).take 4).toArray) d := fun i hi => by
          have hb' := hes i hi
          rw [List.getElem?_eq_getElem (by omega), Option.bind_eq_some_iff] at hb'
          obtain ⟨cs', hc', ht'⟩ := hb'
          obtain ⟨_, hl', hg⟩ := World.cells?_some hc'
          have hcell : ∀ j, j < 4 → c[a.off + i * 4 + j]? = cs'[j]? := fun j hj => by
            have := hg j hj
            rw [add_none hsn, add_none rfl, cell_of hb] at this
            exact this
          obtain ⟨_, d, hd⟩ := ih cs' _ (by obtain rfl : m' + 1 = m := hm'.symm; exact DataW.trod_le (Nat.le_succ _) ht')
          have h3' := hcell 3 (by omega)
          rw [List.getElem?_eq_getElem (by omega)] at h3'
          have hsz' := (Array.getElem?_eq_some_iff.1 h3').1
          refine ⟨d, by simp; omega, ?_⟩
          have e : ((c.toList.map (seenV W)).drop (a.off + i * 4)).take 4 = cs'.map (seenV W) := by
            apply List.ext_getElem?
            intro j
            rw [List.getElem?_take]
            by_cases hj : j < 4
            · rw [if_pos hj, List.getElem?_drop, List.getElem?_map, Array.getElem?_toList, hcell j hj, List.getElem?_map]
            · rw [if_neg hj, List.getElem?_eq_none (by simp; omega)]
          rw [e]
          exact hd
        obtain ⟨ds, hds, hD⟩ := exists_list len each
        refine ⟨.mk k z t ds, some ⟨a.block, a.off, none⟩, cap, ?_, ?_⟩
        · show Value.agg _ = _
          have : seenV W (.slice (some a) len cap) = .slice (some ⟨a.block, a.off, none⟩) len cap := by
            unfold seenV
            simp only
            rw [if_neg h00, if_pos ⟨hsn, hic⟩]
          rw [hds]
          simp only [List.map_cons, List.map_nil, this]
          rfl
        · refine laidRE_off hσ hlt ds 0 fun j e he => ?_
          rw [Nat.zero_add]
          exact hD j e he
end Go.Proofs.YtokieofohmgjdaaGreatDoor
/- Slices that are full: appending to them, and lists of paths. Nothing of a program. -/
namespace Go.Eng
open Go
/-- A slice without room behind it, in a block of its own. -/
def Ful (T : TypeId) (σ : FState) (b : Nat) (s : Value) (vs : List Value) : Prop :=
  ∃ fz ver, s = .slice (some ⟨b, 0, none⟩) vs.length vs.length ∧ σ.heap.get b = some ⟨.cells vs T, false, fz, ver⟩ ∧ (fz = none ∨ fz = some 1)
section
variable {T : TypeId} {σ σ' : FState} {b : Nat} {s : Value} {vs : List Value}
theorem Ful.keep (h : Ful T σ b s vs) (hb : σ'.heap.get b = σ.heap.get b) : Ful T σ' b s vs := by
  obtain ⟨fz, ver, h1, h2, h3⟩ := h
  exact ⟨fz, ver, h1, hb.trans h2, h3⟩
theorem Ful.lt (h : Ful T σ b s vs) (hw : Wf σ) : b < σ.next := by
  obtain ⟨fz, ver, h1, h2, h3⟩ := h
  exact (hw _ _ h2).1
theorem Ful.cells (h : Ful T σ b s vs) : s = .slice (some ⟨b, 0, none⟩) vs.length vs.length ∧ σ.cells b = some vs := by
  obtain ⟨fz, ver, h1, h2, h3⟩ := h
  exact ⟨h1, cells_of_get h2⟩
theorem Ful.one (h : Ful T σ b s vs) : oneCell s = true ∧ notTuple s = true ∧ valCells s = [s] := by
  obtain ⟨fz, ver, rfl, _⟩ := h
  exact ⟨oneCell_slice _ _ _, notTuple_slice _ _ _, rfl⟩
theorem Ful.push (T : TypeId) (σ : FState) (vs : List Value) : Ful T (σ.push (.cells vs T) none) σ.next (.slice (some ⟨σ.next, 0, none⟩) vs.length vs.length) vs := ⟨none, σ.clock, rfl, by rw [push_get, if_pos rfl], .inl rfl⟩
/-- What is appended: nothing, or what stands in a block. -/
theorem fnew_some (bx n cx : Nat) (new rest : List Value) (hx : σ.cells bx = some (new ++ rest)) (hn : new.length = n) : fnew 1 (.slice (some ⟨bx, 0, none⟩) n cx) σ = some (n, new) := by
  unfold fnew
  simp only [loadAll_eq, hx, Nat.mul_one, List.drop_zero, Nat.sub_zero, List.length_append]
  rw [if_pos (by omega), List.take_left' hn]
theorem Ful.append (h : Ful T σ b s vs) (hw : Wf σ) (src : Value) (new : List Value) (bytes : Nat) (hx : fnew 1 src σ = some (new.length, new)) (ho : new.all oneCell = true) (hby : bytes < 1000) (hlen : vs.length + new.length < 100000) :
    ∃ b' s' τ, fappend T 1 bytes s src σ = .val s' τ ∧ Ful T τ b' s' (vs ++ new) ∧ (b' = b ∨ b' = σ.next) ∧ Chg (· = b) σ τ ∧ Wf τ := by
  have hb := h.lt hw
  obtain ⟨fz, ver, rfl, h2, h3⟩ := h
  have e0 : fappend T 1 bytes (.slice (some ⟨b, 0, none⟩) vs.length vs.length) src σ = fappend2 T 1 bytes vs.length vs.length (some ⟨b, 0, none⟩) new.length new σ := by
    unfold fappend
    simp only [hx, ho]
    rfl
  rw [e0]
  unfold fappend2
  by_cases hz : new.length = 0
  · obtain rfl : new = [] := List.length_eq_zero_iff.1 hz
    rw [show Nat.ble (vs.length + ([] : List Value).length) vs.length = true by rw [Nat.ble_eq]; simp]
    show ∃ b' s' τ, fappendRoom 1 vs.length vs.length (some ⟨b, 0, none⟩) 0 [] σ = .val s' τ ∧ _
    unfold fappendRoom
    simp only [h2, spliceN_eq, Nat.mul_one, Nat.zero_add, List.length_nil, Nat.add_zero, Nat.le_refl, if_true, List.append_nil]
    refine ⟨b, _, _, rfl, ⟨fz, σ.clock, rfl, ?_, h3⟩, .inl rfl, (Chg.refl (· = b) _).put _ _ _ (.inr rfl), hw.put _ _ _ hb⟩
    rw [put_get, if_pos rfl]
    simp
  · have hm : (vs.length + new.length) * (bytes + 1) ≤ 100000 * 1000 := Nat.mul_le_mul (by omega) (by omega)
    rw [show Nat.ble (vs.length + new.length) vs.length = false by rw [← Bool.not_eq_true, Nat.ble_eq]; omega, show Nat.ble ((vs.length + new.length) * (bytes + 1)) 1000000000 = true by rw [Nat.ble_eq]; omega]
    show ∃ b' s' τ, fappendGrow T 1 vs.length vs.length (some ⟨b, 0, none⟩) new.length new σ = .val s' τ ∧ _
    unfold fappendGrow
    have hc := cells_of_get h2
    simp only [loadAll_eq, hc, h2, List.drop_zero, Nat.sub_zero, Nat.mul_one, Nat.le_refl, if_true]
    rw [List.take_of_length_le (Nat.le_refl _)]
    have hl : vs.length + new.length = (vs ++ new).length := by simp
    rcases h3 with rfl | rfl
    · refine ⟨σ.next, .slice (some ⟨σ.next, 0, none⟩) (vs.length + new.length) (vs.length + new.length), σ.push (.cells (vs ++ new) T) (some 1), rfl, ⟨some 1, σ.clock, by rw [hl], by rw [push_get, if_pos rfl], .inr rfl⟩, .inr rfl, (Chg.refl _ _).push _ _, hw.push _ _⟩
    · rw [show Nat.beq vs.length vs.length = true by rw [Nat.beq_eq]]
      refine ⟨σ.next, .slice (some ⟨σ.next, 0, none⟩) (vs.length + new.length) (vs.length + new.length), (σ.put b (.defd false) none).push (.cells (vs ++ new) T) (some 1), rfl, ⟨some 1, (σ.put b (.defd false) none).clock, by rw [hl], by rw [push_get, if_pos (by rw [put_next])], .inr rfl⟩, .inr rfl, ((Chg.refl (· = b) _).put _ _ _ (.inr rfl)).push _ _, (hw.put _ _ _ hb).push _ _⟩
/-- A view of what is as it was. -/
theorem view_old {σ σ' : FState} (hw : Wf σ) {lam : Nat} (hl : σ.clock ≤ lam) {b : Nat} {c : List Value} (hb : σ'.heap.get b = σ.heap.get b) (hc : σ.cells b = some c) : (view σ' lam).cells b = some c := by
  rw [cells_get, view_get, hb]
  rw [cells_get] at hc
  cases hg : σ.heap.get b with
  | none => rw [hg] at hc; cases hc
  | some e =>
    rw [hg] at hc
    simp only
    rw [if_pos (by have := (hw b e hg).2; omega)]
    exact hc
/-- Numbers as they stand in memory. -/
def intsOf (path : List Nat) : List Value := path.map fun i => .int .i64 (.ofNat i)
theorem intsOf_length (path : List Nat) : (intsOf path).length = path.length := by simp [intsOf]
/-- A path in memory, in a block of which Q is so. -/
def PathV (Q : Nat → Prop) (σ : FState) (v : Value) (path : List Nat) : Prop :=
  (v = .slice none 0 0 ∧ path = []) ∨ ∃ b cx rest, v = .slice (some ⟨b, 0, none⟩) path.length cx ∧ Q b ∧ σ.cells b = some (intsOf path ++ rest)
theorem PathV.keep {Q Q' : Nat → Prop} {σ σ' : FState} {v : Value} {path : List Nat} (h : PathV Q σ v path) (hk : ∀ b c, Q b → σ.cells b = some c → σ'.cells b = some c ∧ Q' b) : PathV Q' σ' v path := by
  rcases h with h | ⟨b, cx, rest, h1, h2, h3⟩
  · exact .inl h
  · exact .inr ⟨b, cx, rest, h1, (hk b _ h2 h3).2, (hk b _ h2 h3).1⟩
theorem PathV.fnew {Q : Nat → Prop} {σ : FState} {v : Value} {path : List Nat} (h : PathV Q σ v path) : Eng.fnew 1 v σ = some ((intsOf path).length, intsOf path) := by
  rcases h with ⟨rfl, rfl⟩ | ⟨b, cx, rest, rfl, h2, h3⟩
  · rfl
  · rw [intsOf_length]
    exact fnew_some b path.length cx _ rest h3 (intsOf_length _)
theorem PathV.one {Q : Nat → Prop} {σ : FState} {v : Value} {path : List Nat} (h : PathV Q σ v path) : oneCell v = true ∧ notTuple v = true ∧ valCells v = [v] := by
  rcases h with ⟨rfl, rfl⟩ | ⟨b, cx, rest, rfl, h2, h3⟩
  · exact ⟨oneCell_slice _ _ _, notTuple_slice _ _ _, rfl⟩
  · exact ⟨oneCell_slice _ _ _, notTuple_slice _ _ _, rfl⟩
/-- Paths in memory. -/
def PathsL (Q : Nat → Prop) (σ : FState) : List Value → List (List Nat) → Prop
  | [], [] => True
  | u :: us, p :: ps => PathV Q σ u p ∧ PathsL Q σ us ps
  | _, _ => False
theorem PathsL.keep {Q Q' : Nat → Prop} {σ σ' : FState} (hk : ∀ b c, Q b → σ.cells b = some c → σ'.cells b = some c ∧ Q' b) : ∀ {us : List Value} {ps : List (List Nat)}, PathsL Q σ us ps → PathsL Q' σ' us ps
  | [], [], _ => trivial
  | _ :: _, _ :: _, ⟨h1, h2⟩ => ⟨h1.keep hk, h2.keep hk⟩
theorem PathsL.length {Q : Nat → Prop} {σ : FState} : ∀ {us : List Value} {ps : List (List Nat)}, PathsL Q σ us ps → us.length = ps.length
  | [], [], _ => rfl
  | _ :: _, _ :: _, ⟨_, h2⟩ => congrArg (· + 1) h2.length
theorem PathsL.append {Q : Nat → Prop} {σ : FState} : ∀ {us us' : List Value} {ps ps' : List (List Nat)}, PathsL Q σ us ps → PathsL Q σ us' ps' → PathsL Q σ (us ++ us') (ps ++ ps')
  | [], _, [], _, _, h => h
  | _ :: _, _, _ :: _, _, ⟨h1, h2⟩, h => ⟨h1, h2.append h⟩
theorem PathsL.all {Q : Nat → Prop} {σ : FState} : ∀ {us : List Value} {ps : List (List Nat)}, PathsL Q σ us ps → us.all oneCell = true
  | [], [], _ => rfl
  | _ :: _, _ :: _, ⟨h1, h2⟩ => by rw [List.all_cons, h1.one.1, Bool.true_and]; exact h2.all
theorem PathsL.get {Q : Nat → Prop} {σ : FState} : ∀ {us : List Value} {ps : List (List Nat)} {i : Nat} {p : List Nat}, PathsL Q σ us ps → ps[i]? = some p → ∃ u, us[i]? = some u ∧ PathV Q σ u p
  | u :: _, _ :: _, 0, _, ⟨h1, _⟩, h => by cases h; exact ⟨u, rfl, h1⟩
  | _ :: us, _ :: ps, i + 1, p, ⟨_, h2⟩, h => by
    obtain ⟨u, h3, h4⟩ := PathsL.get (i := i) h2 (by simpa using h)
    exact ⟨u, by simpa using h3, h4⟩
  | [], [], _, _, _, h => by simp at h
end
end Go.Eng
/- Functions of the program, written out in the reading's words (made by program; the kernel holds each against the code). -/
namespace Go.Proofs.YtokieofohmgjdaaGreatDoor
open Go Go.Eng
variable (E : Env) (ro : Option Nat) (last : List Nat → RunF) (cl : List Nat) (a : FAct) (u : Option FrameMode) (σ : FState)
/-! caracole/caracoleref01.Paths -/
/-! caracole/caracoleref01.Part -/
/-! caracole/caracoleref01.within -/
noncomputable def r107_0U (_ : Unit) : List COp := [⟨fun a σ => .val (.bool false) σ, (some 6), fun _ => some true⟩]
noncomputable def r107_0 : List COp := r107_0U ()
noncomputable def r107_1U (_ : Unit) : List COp := [⟨fun a σ => .val (a.get 1) σ, (some 7), fun _ => some true⟩,
  ⟨fun a σ => .val (a.get 0) σ, (some 8), fun _ => some true⟩,
  ⟨fun a σ => i_leq Tryz.prog 3 (.tmp 7) (.tmp 8) (a.get 7) (a.get 8) σ, (some 9), fun _ => some true⟩,
  ⟨fun a σ => .val (a.get 9) σ, (some 10), fun _ => some true⟩,
  ⟨fun a σ => .val (a.get 0) σ, (some 11), fun a => gd (a.get 10) true⟩,
  ⟨fun a σ => .val (a.get 2) σ, (some 12), fun a => gd (a.get 10) true⟩,
  ⟨fun a σ => i_leq Tryz.prog 3 (.tmp 11) (.tmp 12) (a.get 11) (a.get 12) σ, (some 13), fun a => gd (a.get 10) true⟩,
  ⟨fun a σ => fpick (a.get 10) (a.get 13) (.bool false) σ, (some 14), fun _ => some true⟩,
  ⟨fun a σ => .val (a.get 14) σ, (some 6), fun _ => some true⟩]
noncomputable def r107_1 : List COp := r107_1U ()
noncomputable def run107 (E : Env) (ro : Option Nat) (fn : FuncId) : RunF := (seqR (fops E ro r107_0) (seqR (fops E ro r107_1) retR))
theorem r107_0_go : fops E ro r107_0 a u σ = fops E ro (r107_0U ()) a u σ := rfl
theorem r107_1_go : fops E ro r107_1 a u σ = fops E ro (r107_1U ()) a u σ := rfl
theorem code107 (E : Env) (ro : Option Nat) (fn : FuncId) : code Tryz.prog nls (Tryz.f107.body.getD .skip) E ro fn = run107 E ro fn := by kernel_rfl
theorem enter107 (E : Env) (args : List Value) (u : Option FrameMode) (σ : FState) (hn : args.length ≤ (6 : Nat)) : fcall Tryz.prog nls E 107 args u σ = leaveR Tryz.prog E [.tmp 6] (run107 E none 107 ⟨padTo undef 6 args, fun _ => undef, 6, 15, []⟩ u σ) := by
  rw [fcall_of (body := Tryz.f107.body.getD .skip) Tryz.func107 rfl E args u σ 6 15 (by kernel_rfl) rfl ⟨hn, by decide⟩, code107]
  rfl
/-! caracole/caracolekit.EqInts -/
end Go.Proofs.YtokieofohmgjdaaGreatDoor
/- caracoleref01.Paths: all paths of a datum. -/
namespace Go.Proofs.YtokieofohmgjdaaGreatDoor
open Go Go.Eng
attribute [local congr] andThen_congr fops_congr fdraw_congr afterOp_congr drawF_congr
attribute [-go_sem] List.range_succ
abbrev TP : TypeId := 25
/-- At the head of the loop over the parts. -/
structure HeadPa (bd bo base : Nat) (R : Nat → Prop) (k z : Int) (t : ByteArray) (q : Option Addr) (c : Nat) (ds : List D) (at' : List Nat) (atv : Value) (us : List Value) (ps : List (List Nat)) (σ0 : FState) (i : Nat) (f : Nat → Value) (σ : FState) : Prop where
  f1 : f 1 = atv
  f2 : f 2 = .pointer (some ⟨bd, 0, none⟩)
  f5 : Ful TP σ bo (f 5) us
  f6 : f 6 = .int .i64 (.ofNat i)
  cd : σ.cells bd = some [.int .i64 k, .int .i64 z, .string t, .slice q ds.length c]
  lay : LaidRE R σ q 0 ds
  low : ∀ b, R b → b < base
  atp : PathV (· < base) σ atv at'
  hbd : base ≤ bd ∧ bd ≠ bo
  hbo : base ≤ bo
  lst : PathsL (fun b => base ≤ b ∧ b ≠ bo) σ us ps
  wf : Wf σ
  ext : Ext σ0 σ
  le : i ≤ ds.length
  few : ds.length < 10000
/-- What is claimed of calls for parts. -/
def PathsAt (m : Nat) (d : D) : Prop := ∀ (at' : List Nat) (v atv : Value) (R Q : Nat → Prop) (σ : FState), Wf σ → LaidR R σ v d → PathV Q σ atv at' → at'.length + d.deep < 1000 → (d.pieces at').length < 10000 →
  Gives ((env m).call 22 [v, atv] none σ) σ fun w σ' => ∃ b us, σ.next ≤ b ∧ Ful TP σ' b w us ∧ PathsL (fun b => σ.next ≤ b) σ' us ((d.pieces at').map (·.1))
theorem deeps_mem : ∀ {ds : List D} {d : D}, d ∈ ds → d.deep ≤ D.deeps ds
  | x :: ds, d, h => by
    rw [D.deeps]
    rcases List.mem_cons.1 h with rfl | h
    · omega
    · have := deeps_mem h; omega
theorem piecesL_len : ∀ (ds : List D) (at' : List Nat) (i : Nat), ds.length ≤ (D.piecesL at' i ds).length
  | [], _, _ => Nat.zero_le _
  | d :: ds, at', i => by
    rw [D.piecesL, List.length_append, D.pieces_eq, List.length_cons, List.length_cons]
    have := piecesL_len ds at' (i + 1)
    omega
end Go.Proofs.YtokieofohmgjdaaGreatDoor
/- caracolekit.EqInts and caracoleref01.Part. -/
namespace Go.Proofs.YtokieofohmgjdaaGreatDoor
open Go Go.Eng
attribute [local congr] andThen_congr fops_congr fdraw_congr afterOp_congr drawF_congr
attribute [-go_sem] List.range_succ
theorem pathV_slice {Q : Nat → Prop} {σ : FState} {v : Value} {p : List Nat} (h : PathV Q σ v p) : ∃ a cx, v = .slice a p.length cx ∧ (p ≠ [] → ∃ b rest, a = some ⟨b, 0, none⟩ ∧ Q b ∧ σ.cells b = some (intsOf p ++ rest)) := by
  rcases h with ⟨rfl, rfl⟩ | ⟨b, cx, rest, rfl, hQ, hc⟩
  · exact ⟨none, 0, rfl, fun h => absurd rfl h⟩
  · exact ⟨_, cx, rfl, fun _ => ⟨b, rest, rfl, hQ, hc⟩⟩
theorem intsOf_get {p : List Nat} {i : Nat} (rest : List Value) (h : i < p.length) : (intsOf p ++ rest)[i]? = some (.int .i64 (.ofNat p[i])) := by
  rw [List.getElem?_append_left (by rw [intsOf_length]; exact h), intsOf, List.getElem?_map, List.getElem?_eq_getElem h]; rfl
structure HeadEi (v w : Value) (i : Nat) (f : Nat → Value) : Prop where
  f0 : f 0 = v
  f1 : f 1 = w
  f5 : f 5 = .int .i64 (.ofNat i)
theorem within_go (n : Nat) (x y z : Int) (σ : FState) : (env (n + 1)).call 107 [.int .i64 x, .int .i64 y, .int .i64 z] none σ = .ret (.bool (decide (y ≤ x) && decide (x ≤ z))) none σ := by
  rw [env_call _ 107 _ _ rfl, enter107 _ _ _ _ (by simp), Sl_start]
  unfold run107
  cases e : decide (y ≤ x) with
  | false => simp -implicitDefEqProofs only [go_sem, ↓reduceIte, Nat.reduceLT, Nat.reduceEqDiff, Nat.reduceAdd, Nat.reduceMul, Nat.reduceLeDiff, Nat.reduceSub, r107_0_go, r107_0U, r107_1_go, r107_1U, Option.getD_some, e, Bool.false_and]
  | true => simp -implicitDefEqProofs only [go_sem, ↓reduceIte, Nat.reduceLT, Nat.reduceEqDiff, Nat.reduceAdd, Nat.reduceMul, Nat.reduceLeDiff, Nat.reduceSub, r107_0_go, r107_0U, r107_1_go, r107_1U, Option.getD_some, e, Bool.true_and]
/-- The part at a path. -/
def atP : List Nat → D → Option D
  | [], d => some d
  | i :: p, d => match d.parts[i]? with
    | some d' => atP p d'
    | none => none
theorem length_counts : ∀ ds : List D, ds.length ≤ D.counts ds
  | [] => Nat.zero_le _
  | .mk _ _ _ l :: ds => by rw [List.length_cons, D.counts, D.count]; have := length_counts ds; omega
theorem count_mem : ∀ {ds : List D} {d : D}, d ∈ ds → d.count ≤ D.counts ds
  | x :: ds, d, h => by
    rw [D.counts]
    rcases List.mem_cons.1 h with rfl | h
    · omega
    · have := count_mem h; omega
structure HeadPt (b2 b4 : Nat) (pv : Value) (R : Nat → Prop) (k z : Int) (t : ByteArray) (q : Option Addr) (c : Nat) (ds : List D) (i : Nat) (f : Nat → Value) (σ : FState) : Prop where
  f1 : f 1 = pv
  f2 : f 2 = .pointer (some ⟨b2, 0, none⟩)
  f4 : f 4 = .pointer (some ⟨b4, 0, none⟩)
  f6 : f 6 = .int .i64 (.ofNat i)
  cd : ∃ fz ver, σ.heap.get b2 = some ⟨.cells [.int .i64 k, .int .i64 z, .string t, .slice q ds.length c] TD, false, fz, ver⟩
  lay : LaidRE R σ q 0 ds
  wf : Wf σ
end Go.Proofs.YtokieofohmgjdaaGreatDoor
/- Structs, compared: a computation that asks for no memory. -/
namespace Go.Eng
open Go
end Go.Eng
/- Functions of the program, written out in the reading's words (made by program; the kernel holds each against the code). -/
namespace Go.Proofs.YtokieofohmgjdaaGreatDoor
open Go Go.Eng
variable (E : Env) (ro : Option Nat) (last : List Nat → RunF) (cl : List Nat) (a : FAct) (u : Option FrameMode) (σ : FState)
/-! caracole/datum.Find -/
/-! caracole/datum.Find$1 -/
/-! caracole/datum.find -/
noncomputable def c113_0a : Code := ((rangesOf (Tryz.f113.body.getD .skip)).getD 0 (.skip, .skip)).1
noncomputable def c113_0b : Code := ((rangesOf (Tryz.f113.body.getD .skip)).getD 0 (.skip, .skip)).2
/-! caracole/guard.Call[[][]int] -/
/-! caracole/guard.CallAt[[][]int] -/
/-! caracole/guard.CallAt[[][]int]$1 -/
/-! caracole/plain.Equal -/
/-! caracole/plain.atomOf -/
/-! slices.Clone[[]int,int] -/
/-! slices.EqualFunc[[]caracole/api.Datum,[]caracole/api.Datum,caracole/api.Datum,caracole/api.Datum] -/
/-! caracole/datum.At -/
/-! caracole/datum.At$1 -/
noncomputable def r108_0U (_ : Unit) : List COp := [⟨fun a σ => newCells [(.int .i64 0), (.int .i64 0), (.string ⟨#[]⟩), (.slice none 0 0)] 24 none σ, (some 2), fun _ => some true⟩]
noncomputable def r108_0 : List COp := r108_0U ()
noncomputable def r108_1U (_ : Unit) : List COp := [⟨fun a σ => fload (some 4) (a.get 0) σ, (some 3), fun _ => some true⟩,
  ⟨fun a σ => .enter 71 [(a.get 3)] σ, (some 4), fun _ => some true⟩]
noncomputable def r108_1 : List COp := r108_1U ()
noncomputable def r108_2U (_ : Unit) : List COp := [⟨fun a σ => fload none (a.get 1) σ, (some 5), fun _ => some true⟩,
  ⟨fun a σ => .enter 109 [(a.get 0), (a.get 5)] σ, (some 6), fun _ => some true⟩,
  ⟨fun a σ => fnilCheck (a.get 6) σ, (some 7), fun _ => some true⟩,
  ⟨fun a σ => fload (some 4) (a.get 7) σ, (some 8), fun _ => some true⟩,
  ⟨fun a σ => .enter 104 [(a.get 8)] σ, (some 9), fun _ => some true⟩,
  ⟨fun a σ => fstore 4 (a.get 2) (a.get 9) σ, none, fun _ => some true⟩]
noncomputable def r108_2 : List COp := r108_2U ()
noncomputable def run108 (E : Env) (ro : Option Nat) (fn : FuncId) : RunF := (seqR (fops E ro r108_0) (seqR (fops E ro r108_1) (seqR (fops E ro r108_2) retR)))
theorem r108_0_go : fops E ro r108_0 a u σ = fops E ro (r108_0U ()) a u σ := rfl
theorem r108_1_go : fops E ro r108_1 a u σ = fops E ro (r108_1U ()) a u σ := rfl
theorem r108_2_go : fops E ro r108_2 a u σ = fops E ro (r108_2U ()) a u σ := rfl
theorem code108 (E : Env) (ro : Option Nat) (fn : FuncId) : code Tryz.prog nls (Tryz.f108.body.getD .skip) E ro fn = run108 E ro fn := by kernel_rfl
theorem enter108 (E : Env) (args : List Value) (u : Option FrameMode) (σ : FState) (hn : args.length ≤ (2 : Nat)) : fcall Tryz.prog nls E 108 args u σ = leaveR Tryz.prog E [.cell 2 24] (run108 E none 108 ⟨padTo undef 2 args, fun _ => undef, 2, 10, []⟩ u σ) := by
  rw [fcall_of (body := Tryz.f108.body.getD .skip) Tryz.func108 rfl E args u σ 2 10 (by kernel_rfl) rfl ⟨hn, by decide⟩, code108]
  rfl
/-! caracole/datum.place -/
noncomputable def r109_0U (_ : Unit) : List COp := [⟨fun a σ => .val (.pointer none) σ, (some 4), fun _ => some true⟩]
noncomputable def r109_0 : List COp := r109_0U ()
noncomputable def r109_1U (_ : Unit) : List COp := [⟨fun a σ => .val (a.get 1) σ, (some 7), fun _ => some true⟩,
  ⟨fun a σ => flenL (a.get 7) σ, (some 8), fun _ => some true⟩,
  ⟨fun a σ => .val (.int .i64 0) σ, (some 9), fun _ => some true⟩]
noncomputable def r109_1 : List COp := r109_1U ()
noncomputable def r109_2U (_ : Unit) : List COp := [⟨fun a σ => i_lss Tryz.prog 3 (.tmp 9) (.tmp 8) (a.get 9) (a.get 8) σ, (some 10), fun _ => some true⟩]
noncomputable def r109_2 : List COp := r109_2U ()
noncomputable def r109_3U (_ : Unit) : List COp := [⟨fun a σ => findex (none, 1) (a.get 7) (a.get 9) σ, (some 11), fun _ => some true⟩,
  ⟨fun a σ => fload none (a.get 11) σ, (some 12), fun _ => some true⟩,
  ⟨fun a σ => .val (a.get 12) σ, (some 6), fun _ => some true⟩]
noncomputable def r109_3 : List COp := r109_3U ()
noncomputable def r109_4U (_ : Unit) : List COp := [⟨fun a σ => .val (a.get 6) σ, (some 13), fun _ => some true⟩,
  ⟨fun a σ => i_lss Tryz.prog 3 (.tmp 13) (.const (.int .i64 0)) (a.get 13) (.int .i64 0) σ, (some 14), fun _ => some true⟩,
  ⟨fun a σ => .val (a.get 14) σ, (some 15), fun _ => some true⟩,
  ⟨fun a σ => .val (a.get 6) σ, (some 16), fun a => gd (a.get 15) false⟩,
  ⟨fun a σ => .val (a.get 0) σ, (some 17), fun a => gd (a.get 15) false⟩,
  ⟨fun a σ => fnilCheck (a.get 17) σ, (some 18), fun a => gd (a.get 15) false⟩,
  ⟨fun a σ => ffield 3 (a.get 18) σ, (some 19), fun a => gd (a.get 15) false⟩,
  ⟨fun a σ => fload none (a.get 19) σ, (some 20), fun a => gd (a.get 15) false⟩,
  ⟨fun a σ => flenL (a.get 20) σ, (some 21), fun a => gd (a.get 15) false⟩,
  ⟨fun a σ => i_geq Tryz.prog 3 (.tmp 16) (.tmp 21) (a.get 16) (a.get 21) σ, (some 22), fun a => gd (a.get 15) false⟩,
  ⟨fun a σ => fpick (a.get 15) (.bool true) (a.get 22) σ, (some 23), fun _ => some true⟩]
noncomputable def r109_4 : List COp := r109_4U ()
noncomputable def r109_5U (_ : Unit) : List COp := [⟨fun a σ => .enter 136 [(.int .i64 9)] σ, (some 24), fun _ => some true⟩]
noncomputable def r109_5 : List COp := r109_5U ()
noncomputable def r109_6U (_ : Unit) : List COp := [⟨fun a σ => .val (a.get 0) σ, (some 25), fun _ => some true⟩,
  ⟨fun a σ => fnilCheck (a.get 25) σ, (some 26), fun _ => some true⟩,
  ⟨fun a σ => ffield 3 (a.get 26) σ, (some 27), fun _ => some true⟩,
  ⟨fun a σ => fload none (a.get 27) σ, (some 28), fun _ => some true⟩,
  ⟨fun a σ => .val (a.get 6) σ, (some 29), fun _ => some true⟩,
  ⟨fun a σ => findex (none, 4) (a.get 28) (a.get 29) σ, (some 30), fun _ => some true⟩,
  ⟨fun a σ => .val (a.get 30) σ, (some 0), fun _ => some true⟩]
noncomputable def r109_6 : List COp := r109_6U ()
noncomputable def r109_7U (_ : Unit) : List COp := [⟨fun a σ => i_add Tryz.prog 3 (.tmp 9) (.const (.int .i64 1)) (a.get 9) (.int .i64 1) σ, (some 31), fun _ => some true⟩,
  ⟨fun a σ => .val (a.get 31) σ, (some 9), fun _ => some true⟩]
noncomputable def r109_7 : List COp := r109_7U ()
noncomputable def l109_0 (E : Env) (ro : Option Nat) (fn : FuncId) : RunF := (seqR (fops E ro r109_2) (seqR (condR (fun a => (a.get 10)) skipR (exitR 0)) (seqR (blockR 1 (seqR (fops E ro r109_3) (seqR (seqR (fops E ro r109_4) (condR (fun a => (a.get 23)) (fops E ro r109_5) skipR)) (fops E ro r109_6)))) (fops E ro r109_7))))
noncomputable def r109_8U (_ : Unit) : List COp := [⟨fun a σ => .val (a.get 0) σ, (some 32), fun _ => some true⟩,
  ⟨fun a σ => .val (a.get 32) σ, (some 4), fun _ => some true⟩]
noncomputable def r109_8 : List COp := r109_8U ()
noncomputable def run109 (E : Env) (ro : Option Nat) (fn : FuncId) : RunF := (seqR (fops E ro r109_0) (seqR (seqR (fops E ro r109_1) (blockR 0 (loopR (keepOf nls fn) (l109_0 E ro fn)))) (seqR (fops E ro r109_8) retR)))
theorem r109_0_go : fops E ro r109_0 a u σ = fops E ro (r109_0U ()) a u σ := rfl
theorem r109_1_go : fops E ro r109_1 a u σ = fops E ro (r109_1U ()) a u σ := rfl
theorem r109_2_go : fops E ro r109_2 a u σ = fops E ro (r109_2U ()) a u σ := rfl
theorem r109_3_go : fops E ro r109_3 a u σ = fops E ro (r109_3U ()) a u σ := rfl
theorem r109_4_go : fops E ro r109_4 a u σ = fops E ro (r109_4U ()) a u σ := rfl
theorem r109_6_go : fops E ro r109_6 a u σ = fops E ro (r109_6U ()) a u σ := rfl
theorem r109_7_go : fops E ro r109_7 a u σ = fops E ro (r109_7U ()) a u σ := rfl
theorem r109_8_go : fops E ro r109_8 a u σ = fops E ro (r109_8U ()) a u σ := rfl
theorem code109 (E : Env) (ro : Option Nat) (fn : FuncId) : code Tryz.prog nls (Tryz.f109.body.getD .skip) E ro fn = run109 E ro fn := by kernel_rfl
theorem enter109 (E : Env) (args : List Value) (u : Option FrameMode) (σ : FState) (hn : args.length ≤ (7 : Nat)) : fcall Tryz.prog nls E 109 args u σ = leaveR Tryz.prog E [.tmp 4] (run109 E none 109 ⟨padTo undef 7 args, fun _ => undef, 7, 33, []⟩ u σ) := by
  rw [fcall_of (body := Tryz.f109.body.getD .skip) Tryz.func109 rfl E args u σ 7 33 (by kernel_rfl) rfl ⟨hn, by decide⟩, code109]
  rfl
/-! caracole/guard.Call[caracole/api.Datum] -/
/-! caracole/guard.CallAt[caracole/api.Datum] -/
/-! caracole/guard.CallAt[caracole/api.Datum]$1 -/
/-! caracole/plain.Copy -/
noncomputable def r104_0U (_ : Unit) : List COp := [⟨fun a σ => fbox 24 (a.get 0) σ, (some 1), fun _ => some true⟩,
  ⟨fun a σ => newCells [(.int .i64 0), (.int .i64 0), (.string ⟨#[]⟩), (.slice none 0 0)] 24 none σ, (some 2), fun _ => some true⟩]
noncomputable def r104_0 : List COp := r104_0U ()
noncomputable def r104_1U (_ : Unit) : List DOp := [⟨fun a σ => ffield 3 (a.get 1) σ, (some 9), fun _ => some true, (some 0), false⟩,
  ⟨fun a σ => fload none (a.get 9) σ, (some 10), fun _ => some true, (some 0), false⟩,
  ⟨fun a σ => .enter 139 [(a.get 10), (.func (.func 104) #[] #[])] σ, (some 11), fun _ => some true, none, false⟩,
  ⟨fun a σ => ffield 0 (a.get 1) σ, (some 3), fun _ => some true, (some 0), false⟩,
  ⟨fun a σ => fload none (a.get 3) σ, (some 4), fun _ => some true, (some 0), false⟩,
  ⟨fun a σ => ffield 1 (a.get 1) σ, (some 5), fun _ => some true, (some 0), false⟩,
  ⟨fun a σ => fload none (a.get 5) σ, (some 6), fun _ => some true, (some 0), false⟩,
  ⟨fun a σ => ffield 2 (a.get 1) σ, (some 7), fun _ => some true, (some 0), false⟩,
  ⟨fun a σ => fload none (a.get 7) σ, (some 8), fun _ => some true, (some 0), false⟩,
  ⟨fun a σ => fbuild (fun i => nth [(0, 1), (1, 1), (2, 1), (3, 1)] i) [(.int .i64 0), (.int .i64 0), (.string ⟨#[]⟩), (.slice none 0 0)] [(0, (a.get 4)), (1, (a.get 6)), (2, (a.get 8)), (3, (a.get 11))] σ, (some 12), fun _ => some true, (some 1), false⟩,
  ⟨fun a σ => fstore 4 (a.get 2) (a.get 12) σ, none, fun _ => some true, none, true⟩]
noncomputable def r104_1 : List DOp := r104_1U ()
noncomputable def run104 (E : Env) (ro : Option Nat) (fn : FuncId) : RunF := (seqR (fops E ro r104_0) (seqR (drawR E ro r104_1) retR))
theorem r104_0_go : fops E ro r104_0 a u σ = fops E ro (r104_0U ()) a u σ := rfl
theorem r104_1_go : fdraw E ro last r104_1 cl a u σ = fdraw E ro last (r104_1U ()) cl a u σ := rfl
theorem code104 (E : Env) (ro : Option Nat) (fn : FuncId) : code Tryz.prog nls (Tryz.f104.body.getD .skip) E ro fn = run104 E ro fn := by kernel_rfl
theorem enter104 (E : Env) (args : List Value) (u : Option FrameMode) (σ : FState) (hn : args.length ≤ (2 : Nat)) : fcall Tryz.prog nls E 104 args u σ = leaveR Tryz.prog E [.cell 2 24] (run104 E none 104 ⟨padTo undef 2 args, fun _ => undef, 2, 13, []⟩ u σ) := by
  rw [fcall_of (body := Tryz.f104.body.getD .skip) Tryz.func104 rfl E args u σ 2 13 (by kernel_rfl) rfl ⟨hn, by decide⟩, code104]
  rfl
/-! caracole/plain.Each[caracole/api.Datum,caracole/api.Datum] -/
noncomputable def r139_0U (_ : Unit) : List COp := [⟨fun a σ => .val (.slice none 0 0) σ, (some 4), fun _ => some true⟩]
noncomputable def r139_0 : List COp := r139_0U ()
noncomputable def r139_1U (_ : Unit) : List COp := [⟨fun a σ => .val (a.get 0) σ, (some 7), fun _ => some true⟩,
  ⟨fun a σ => flenL (a.get 7) σ, (some 8), fun _ => some true⟩,
  ⟨fun a σ => i_eql Tryz.prog 3 (.tmp 8) (.const (.int .i64 0)) (a.get 8) (.int .i64 0) σ, (some 9), fun _ => some true⟩]
noncomputable def r139_1 : List COp := r139_1U ()
noncomputable def r139_2U (_ : Unit) : List COp := [⟨fun a σ => .val (.slice none 0 0) σ, (some 4), fun _ => some true⟩]
noncomputable def r139_2 : List COp := r139_2U ()
noncomputable def r139_3U (_ : Unit) : List COp := [⟨fun a σ => .val (a.get 0) σ, (some 10), fun _ => some true⟩,
  ⟨fun a σ => flenL (a.get 10) σ, (some 11), fun _ => some true⟩,
  ⟨fun a σ => fmakeSlice 24 56 [(.int .i64 0), (.int .i64 0), (.string ⟨#[]⟩), (.slice none 0 0)] (a.get 11) (a.get 11) σ, (some 12), fun _ => some true⟩,
  ⟨fun a σ => .val (a.get 12) σ, (some 5), fun _ => some true⟩]
noncomputable def r139_3 : List COp := r139_3U ()
noncomputable def r139_4U (_ : Unit) : List COp := [⟨fun a σ => .val (a.get 0) σ, (some 13), fun _ => some true⟩,
  ⟨fun a σ => flenL (a.get 13) σ, (some 14), fun _ => some true⟩,
  ⟨fun a σ => .val (.int .i64 0) σ, (some 15), fun _ => some true⟩]
noncomputable def r139_4 : List COp := r139_4U ()
noncomputable def r139_5U (_ : Unit) : List COp := [⟨fun a σ => i_lss Tryz.prog 3 (.tmp 15) (.tmp 14) (a.get 15) (a.get 14) σ, (some 16), fun _ => some true⟩]
noncomputable def r139_5 : List COp := r139_5U ()
noncomputable def r139_6U (_ : Unit) : List COp := [⟨fun a σ => .val (a.get 15) σ, (some 17), fun _ => some true⟩,
  ⟨fun a σ => .val (a.get 17) σ, (some 6), fun _ => some true⟩]
noncomputable def r139_6 : List COp := r139_6U ()
noncomputable def r139_7U (_ : Unit) : List COp := [⟨fun a σ => .val (a.get 5) σ, (some 18), fun _ => some true⟩,
  ⟨fun a σ => .val (a.get 6) σ, (some 19), fun _ => some true⟩,
  ⟨fun a σ => .val (a.get 1) σ, (some 20), fun _ => some true⟩,
  ⟨fun a σ => .val (a.get 0) σ, (some 21), fun _ => some true⟩,
  ⟨fun a σ => .val (a.get 6) σ, (some 22), fun _ => some true⟩,
  ⟨fun a σ => findex (none, 4) (a.get 21) (a.get 22) σ, (some 23), fun _ => some true⟩,
  ⟨fun a σ => fload (some 4) (a.get 23) σ, (some 24), fun _ => some true⟩,
  ⟨fun a σ => fcallV (a.get 20) [(a.get 24)] σ, (some 25), fun _ => some true⟩,
  ⟨fun a σ => findex (none, 4) (a.get 18) (a.get 19) σ, (some 26), fun _ => some true⟩,
  ⟨fun a σ => fstore 4 (a.get 26) (a.get 25) σ, none, fun _ => some true⟩]
noncomputable def r139_7 : List COp := r139_7U ()
noncomputable def r139_8U (_ : Unit) : List COp := [⟨fun a σ => i_add Tryz.prog 3 (.tmp 15) (.const (.int .i64 1)) (a.get 15) (.int .i64 1) σ, (some 27), fun _ => some true⟩,
  ⟨fun a σ => .val (a.get 27) σ, (some 15), fun _ => some true⟩]
noncomputable def r139_8 : List COp := r139_8U ()
noncomputable def l139_0 (E : Env) (ro : Option Nat) (fn : FuncId) : RunF := (seqR (fops E ro r139_5) (seqR (condR (fun a => (a.get 16)) skipR (exitR 0)) (seqR (blockR 1 (seqR (fops E ro r139_6) (fops E ro r139_7))) (fops E ro r139_8))))
noncomputable def r139_9U (_ : Unit) : List COp := [⟨fun a σ => .val (a.get 5) σ, (some 28), fun _ => some true⟩,
  ⟨fun a σ => .val (a.get 28) σ, (some 4), fun _ => some true⟩]
noncomputable def r139_9 : List COp := r139_9U ()
noncomputable def run139 (E : Env) (ro : Option Nat) (fn : FuncId) : RunF := (seqR (fops E ro r139_0) (seqR (seqR (fops E ro r139_1) (condR (fun a => (a.get 9)) (seqR (fops E ro r139_2) retR) skipR)) (seqR (fops E ro r139_3) (seqR (seqR (fops E ro r139_4) (blockR 0 (loopR (keepOf nls fn) (l139_0 E ro fn)))) (seqR (fops E ro r139_9) retR)))))
theorem r139_0_go : fops E ro r139_0 a u σ = fops E ro (r139_0U ()) a u σ := rfl
theorem r139_1_go : fops E ro r139_1 a u σ = fops E ro (r139_1U ()) a u σ := rfl
theorem r139_2_go : fops E ro r139_2 a u σ = fops E ro (r139_2U ()) a u σ := rfl
theorem r139_3_go : fops E ro r139_3 a u σ = fops E ro (r139_3U ()) a u σ := rfl
theorem r139_4_go : fops E ro r139_4 a u σ = fops E ro (r139_4U ()) a u σ := rfl
theorem r139_5_go : fops E ro r139_5 a u σ = fops E ro (r139_5U ()) a u σ := rfl
theorem r139_6_go : fops E ro r139_6 a u σ = fops E ro (r139_6U ()) a u σ := rfl
theorem r139_7_go : fops E ro r139_7 a u σ = fops E ro (r139_7U ()) a u σ := rfl
theorem r139_8_go : fops E ro r139_8 a u σ = fops E ro (r139_8U ()) a u σ := rfl
theorem r139_9_go : fops E ro r139_9 a u σ = fops E ro (r139_9U ()) a u σ := rfl
theorem code139 (E : Env) (ro : Option Nat) (fn : FuncId) : code Tryz.prog nls (Tryz.f139.body.getD .skip) E ro fn = run139 E ro fn := by kernel_rfl
theorem enter139 (E : Env) (args : List Value) (u : Option FrameMode) (σ : FState) (hn : args.length ≤ (7 : Nat)) : fcall Tryz.prog nls E 139 args u σ = leaveR Tryz.prog E [.tmp 4] (run139 E none 139 ⟨padTo undef 7 args, fun _ => undef, 7, 29, []⟩ u σ) := by
  rw [fcall_of (body := Tryz.f139.body.getD .skip) Tryz.func139 rfl E args u σ 7 29 (by kernel_rfl) rfl ⟨hn, by decide⟩, code139]
  rfl
end Go.Proofs.YtokieofohmgjdaaGreatDoor
/- plain.Equal. -/
namespace Go.Proofs.YtokieofohmgjdaaGreatDoor
open Go Go.Eng
attribute [local congr] andThen_congr fops_congr fdraw_congr afterOp_congr drawF_congr
attribute [-go_sem] List.range_succ
end Go.Proofs.YtokieofohmgjdaaGreatDoor
/- slices.EqualFunc at plain.Equal; plain.Equal whole. -/
namespace Go.Proofs.YtokieofohmgjdaaGreatDoor
open Go Go.Eng
attribute [local congr] andThen_congr fops_congr fdraw_congr afterOp_congr drawF_congr
attribute [-go_sem] List.range_succ
structure HeadEf (p p' : Option Addr) (len c c' : Nat) (k : Nat) (f g : Nat → Value) : Prop where
  f1 : f 1 = .slice p' len c'
  f2 : f 2 = .func (.func 144) #[] #[]
  g15 : g 15 = .slice p len c
  g16 : g 16 = .int .i64 (.ofNat len)
  g17 : g 17 = .int .i64 (.ofNat k)
theorem beq_int (a b : Int) : (a == b) = decide (a = b) := by
  by_cases h : a = b
  · rw [decide_eq_true h]; simp [h]
  · rw [decide_eq_false h]; simp [h]
end Go.Proofs.YtokieofohmgjdaaGreatDoor
/- caracolekit.EqDatum and EqData: two data, compared. -/
namespace Go.Proofs.YtokieofohmgjdaaGreatDoor
open Go Go.Eng
attribute [local congr] andThen_congr

theorem eqDatum_step (n : Nat) (k1 n1 k2 n2 : Int) (t1 t2 : ByteArray) (s1 s2 : Value) (σ : FState) (B : Bool) (hw : Wf σ)
    (h : ∀ σ', Ext σ σ' → Wf σ' → Gives ((env n).call 36 [s1, s2] none σ') σ' fun v _ => v = .bool B) :
    Gives ((env (n + 1)).call 21 [.agg #[.int .i64 k1, .int .i64 n1, .string t1, s1], .agg #[.int .i64 k2, .int .i64 n2, .string t2, s2]] none σ) σ
      fun v _ => v = .bool ((k1 == k2) && (n1 == n2) && (t1.toList == t2.toList) && B) := by
  rw [env_call _ 21 _ _ rfl, enter21 _ _ _ _ (by simp)]
  generalize ha : (⟨padTo undef 4 _, fun _ => undef, 4, 31, []⟩ : FAct) = a
  have hok : a.ok := by rw [← ha]; exact ok_start _ _ _ _
  have hnt : a.nt = 31 := by rw [← ha]
  have hds : a.defers = [] := by rw [← ha]
  have hg0 : a.get 0 = .agg #[.int .i64 k1, .int .i64 n1, .string t1, s1] := by rw [← ha, get_start]; rfl
  have hg1 : a.get 1 = .agg #[.int .i64 k2, .int .i64 n2, .string t2, s2] := by rw [← ha, get_start]; rfl
  clear ha
  unfold run21
  have fin : ∀ (o1 o2 : FObj) (f1 f2 : Option Nat), Ext σ ((σ.push o1 f1).push o2 f2) ∧ Wf ((σ.push o1 f1).push o2 f2) := fun o1 o2 f1 f2 => ⟨((Ext.refl σ).push _ _).push _ _, (hw.push _ _).push _ _⟩
  cases e1 : (k1 == k2) with
  | false =>
    simp only [seqR_go, fops_c, fops_nil, fdraw_f, fdraw_a, fdraw_nil', drawR_go, retR_go, skipR_go, exitR_go, after_val, after_skip, after_enter, after_ret, andThen_normal, andThen_ret, andThen_exit, get_put, ok_put, nt_put, defers_put, put_none, Nat.reduceLT, ↓reduceIte, Nat.reduceEqDiff, Nat.reduceAdd, nth_zero, nth_succ, drawF_val, drawF_push, stepOp_eq, drawA_normal, view_next, push_next, push_clock, put_next, put_clock, box_go, newCells_go, notTuple_agg, notTuple_int, notTuple_string, notTuple_bool, notTuple_slice, notTuple_pointer, valCells_agg, valCells_int, valCells_string, valCells_bool, valCells_slice, valCells_pointer, ffield_eq, fload1, floadN, cells_push, cells_put, cells?_cells, gd_true, gd_false, gd_skip, fpick_eq, eql_int, neq_int, lss_int, leq_int, gtr_int, geq_int, add_int, sub_int, mul_int, eql_str, neq_str, not_go, flenL_eq, flenS_eq, Nat.add_zero, Nat.zero_add, Nat.add_left_cancel_iff, Nat.add_eq_left, Nat.left_eq_add, List.getElem?_cons_zero, List.getElem?_cons_succ, beq_self_eq_true, Bool.not_true, Bool.not_false, cond_true, cond_false, leaveR_ret, leaveR_normal, leave_tmp, leave_tmp2, leave_tmp3, condR_val, Bool.false_eq_true, blockR_k, blockK_normal, blockK_ret, blockK_exit, loopR_go, nl_put, findex_eq, forget_ok, forget_nt, forget_nl, forget_defers, List.not_mem_nil, or_false, or_true, List.cons_append, List.nil_append, add_u64, mul_u64, xor_u64, shr32_u64, shr27_u64, shr9_u64, nilCheck_ptr, fstore1, push_get, put_get, List.set_cons_zero, List.set_cons_succ, List.length_cons, List.length_nil, oneCell_int, oneCell_string, oneCell_bool, oneCell_slice, oneCell_pointer, r21_0_go, r21_0U, r21_1_go, r21_1U, hok, hnt, hg0, hg1, hds, e1]
    exact ⟨_, _, rfl, (fin ..).1, (fin ..).2, rfl⟩
  | true => cases e2 : (n1 == n2) with
    | false =>
      simp only [seqR_go, fops_c, fops_nil, fdraw_f, fdraw_a, fdraw_nil', drawR_go, retR_go, skipR_go, exitR_go, after_val, after_skip, after_enter, after_ret, andThen_normal, andThen_ret, andThen_exit, get_put, ok_put, nt_put, defers_put, put_none, Nat.reduceLT, ↓reduceIte, Nat.reduceEqDiff, Nat.reduceAdd, nth_zero, nth_succ, drawF_val, drawF_push, stepOp_eq, drawA_normal, view_next, push_next, push_clock, put_next, put_clock, box_go, newCells_go, notTuple_agg, notTuple_int, notTuple_string, notTuple_bool, notTuple_slice, notTuple_pointer, valCells_agg, valCells_int, valCells_string, valCells_bool, valCells_slice, valCells_pointer, ffield_eq, fload1, floadN, cells_push, cells_put, cells?_cells, gd_true, gd_false, gd_skip, fpick_eq, eql_int, neq_int, lss_int, leq_int, gtr_int, geq_int, add_int, sub_int, mul_int, eql_str, neq_str, not_go, flenL_eq, flenS_eq, Nat.add_zero, Nat.zero_add, Nat.add_left_cancel_iff, Nat.add_eq_left, Nat.left_eq_add, List.getElem?_cons_zero, List.getElem?_cons_succ, beq_self_eq_true, Bool.not_true, Bool.not_false, cond_true, cond_false, leaveR_ret, leaveR_normal, leave_tmp, leave_tmp2, leave_tmp3, condR_val, Bool.false_eq_true, blockR_k, blockK_normal, blockK_ret, blockK_exit, loopR_go, nl_put, findex_eq, forget_ok, forget_nt, forget_nl, forget_defers, List.not_mem_nil, or_false, or_true, List.cons_append, List.nil_append, add_u64, mul_u64, xor_u64, shr32_u64, shr27_u64, shr9_u64, nilCheck_ptr, fstore1, push_get, put_get, List.set_cons_zero, List.set_cons_succ, List.length_cons, List.length_nil, oneCell_int, oneCell_string, oneCell_bool, oneCell_slice, oneCell_pointer, r21_0_go, r21_0U, r21_1_go, r21_1U, hok, hnt, hg0, hg1, hds, e1, e2]
      exact ⟨_, _, rfl, (fin ..).1, (fin ..).2, rfl⟩
    | true => cases e3 : (t1.toList == t2.toList) with
      | false =>
        simp only [seqR_go, fops_c, fops_nil, fdraw_f, fdraw_a, fdraw_nil', drawR_go, retR_go, skipR_go, exitR_go, after_val, after_skip, after_enter, after_ret, andThen_normal, andThen_ret, andThen_exit, get_put, ok_put, nt_put, defers_put, put_none, Nat.reduceLT, ↓reduceIte, Nat.reduceEqDiff, Nat.reduceAdd, nth_zero, nth_succ, drawF_val, drawF_push, stepOp_eq, drawA_normal, view_next, push_next, push_clock, put_next, put_clock, box_go, newCells_go, notTuple_agg, notTuple_int, notTuple_string, notTuple_bool, notTuple_slice, notTuple_pointer, valCells_agg, valCells_int, valCells_string, valCells_bool, valCells_slice, valCells_pointer, ffield_eq, fload1, floadN, cells_push, cells_put, cells?_cells, gd_true, gd_false, gd_skip, fpick_eq, eql_int, neq_int, lss_int, leq_int, gtr_int, geq_int, add_int, sub_int, mul_int, eql_str, neq_str, not_go, flenL_eq, flenS_eq, Nat.add_zero, Nat.zero_add, Nat.add_left_cancel_iff, Nat.add_eq_left, Nat.left_eq_add, List.getElem?_cons_zero, List.getElem?_cons_succ, beq_self_eq_true, Bool.not_true, Bool.not_false, cond_true, cond_false, leaveR_ret, leaveR_normal, leave_tmp, leave_tmp2, leave_tmp3, condR_val, Bool.false_eq_true, blockR_k, blockK_normal, blockK_ret, blockK_exit, loopR_go, nl_put, findex_eq, forget_ok, forget_nt, forget_nl, forget_defers, List.not_mem_nil, or_false, or_true, List.cons_append, List.nil_append, add_u64, mul_u64, xor_u64, shr32_u64, shr27_u64, shr9_u64, nilCheck_ptr, fstore1, push_get, put_get, List.set_cons_zero, List.set_cons_succ, List.length_cons, List.length_nil, oneCell_int, oneCell_string, oneCell_bool, oneCell_slice, oneCell_pointer, r21_0_go, r21_0U, r21_1_go, r21_1U, hok, hnt, hg0, hg1, hds, e1, e2, e3]
        exact ⟨_, _, rfl, (fin ..).1, (fin ..).2, rfl⟩
      | true =>
        simp only [seqR_go, fops_c, fops_nil, fdraw_f, fdraw_a, fdraw_nil', drawR_go, retR_go, skipR_go, exitR_go, after_val, after_skip, after_enter, after_ret, andThen_normal, andThen_ret, andThen_exit, get_put, ok_put, nt_put, defers_put, put_none, Nat.reduceLT, ↓reduceIte, Nat.reduceEqDiff, Nat.reduceAdd, nth_zero, nth_succ, drawF_val, drawF_push, stepOp_eq, drawA_normal, view_next, push_next, push_clock, put_next, put_clock, box_go, newCells_go, notTuple_agg, notTuple_int, notTuple_string, notTuple_bool, notTuple_slice, notTuple_pointer, valCells_agg, valCells_int, valCells_string, valCells_bool, valCells_slice, valCells_pointer, ffield_eq, fload1, floadN, cells_push, cells_put, cells?_cells, gd_true, gd_false, gd_skip, fpick_eq, eql_int, neq_int, lss_int, leq_int, gtr_int, geq_int, add_int, sub_int, mul_int, eql_str, neq_str, not_go, flenL_eq, flenS_eq, Nat.add_zero, Nat.zero_add, Nat.add_left_cancel_iff, Nat.add_eq_left, Nat.left_eq_add, List.getElem?_cons_zero, List.getElem?_cons_succ, beq_self_eq_true, Bool.not_true, Bool.not_false, cond_true, cond_false, leaveR_ret, leaveR_normal, leave_tmp, leave_tmp2, leave_tmp3, condR_val, Bool.false_eq_true, blockR_k, blockK_normal, blockK_ret, blockK_exit, loopR_go, nl_put, findex_eq, forget_ok, forget_nt, forget_nl, forget_defers, List.not_mem_nil, or_false, or_true, List.cons_append, List.nil_append, add_u64, mul_u64, xor_u64, shr32_u64, shr27_u64, shr9_u64, nilCheck_ptr, fstore1, push_get, put_get, List.set_cons_zero, List.set_cons_succ, List.length_cons, List.length_nil, oneCell_int, oneCell_string, oneCell_bool, oneCell_slice, oneCell_pointer, r21_0_go, r21_0U, r21_1_go, r21_1U, hok, hnt, hg0, hg1, hds, e1, e2, e3]
        generalize hr : (env n).call 36 _ none _ = r
        obtain ⟨v, σ', rfl, hx, hw', rfl⟩ := use_call (X := (env n).call 36 [s1, s2] none) hr h (fin ..).1 (fin ..).2
        simp only [seqR_go, fops_c, fops_nil, fdraw_f, fdraw_a, fdraw_nil', drawR_go, retR_go, skipR_go, exitR_go, after_val, after_skip, after_enter, after_ret, andThen_normal, andThen_ret, andThen_exit, get_put, ok_put, nt_put, defers_put, put_none, Nat.reduceLT, ↓reduceIte, Nat.reduceEqDiff, Nat.reduceAdd, nth_zero, nth_succ, drawF_val, drawF_push, stepOp_eq, drawA_normal, view_next, push_next, push_clock, put_next, put_clock, box_go, newCells_go, notTuple_agg, notTuple_int, notTuple_string, notTuple_bool, notTuple_slice, notTuple_pointer, valCells_agg, valCells_int, valCells_string, valCells_bool, valCells_slice, valCells_pointer, ffield_eq, fload1, floadN, cells_push, cells_put, cells?_cells, gd_true, gd_false, gd_skip, fpick_eq, eql_int, neq_int, lss_int, leq_int, gtr_int, geq_int, add_int, sub_int, mul_int, eql_str, neq_str, not_go, flenL_eq, flenS_eq, Nat.add_zero, Nat.zero_add, Nat.add_left_cancel_iff, Nat.add_eq_left, Nat.left_eq_add, List.getElem?_cons_zero, List.getElem?_cons_succ, beq_self_eq_true, Bool.not_true, Bool.not_false, cond_true, cond_false, leaveR_ret, leaveR_normal, leave_tmp, leave_tmp2, leave_tmp3, condR_val, Bool.false_eq_true, blockR_k, blockK_normal, blockK_ret, blockK_exit, loopR_go, nl_put, findex_eq, forget_ok, forget_nt, forget_nl, forget_defers, List.not_mem_nil, or_false, or_true, List.cons_append, List.nil_append, add_u64, mul_u64, xor_u64, shr32_u64, shr27_u64, shr9_u64, nilCheck_ptr, fstore1, push_get, put_get, List.set_cons_zero, List.set_cons_succ, List.length_cons, List.length_nil, oneCell_int, oneCell_string, oneCell_bool, oneCell_slice, oneCell_pointer, hok, hnt, hg0, hg1, hds]
        exact ⟨_, _, rfl, (fin ..).1.trans hx, hw', rfl⟩
end Go.Proofs.YtokieofohmgjdaaGreatDoor
/- caracolekit.EqData: two lists of data, compared. -/
namespace Go.Proofs.YtokieofohmgjdaaGreatDoor
open Go Go.Eng
attribute [local congr] andThen_congr
theorem keepC36 : keepOf nls 36 = [] := by kernel_rfl

/-- At the head of the loop of EqData. -/
structure HeadEqC (a : FAct) (s s' : Value) (k : Nat) : Prop where
  ok : a.ok
  nt : a.nt = 27
  nl : a.nl = 6
  ds : a.defers = []
  g0 : a.get 0 = s
  g1 : a.get 1 = s'
  g5 : a.get 5 = .int .i64 (.ofNat k)

theorem eqDataC_loop (n N : Nat) (hE : ∀ d d' v v' σ, D.deep d ≤ N → d.count < 1000000000 → Wf σ → Laid σ v d → Laid σ v' d' → Gives ((env n).call 21 [v, v'] none σ) σ fun w _ => w = .bool (D.same d d'))
    (p p' : Option Addr) (len c c' : Nat) (hlen : len < 1000000000000) : ∀ (ds ds' : List D) (k fuel : Nat) (a : FAct) (σ : FState), k + ds.length = len → ds.length = ds'.length → ds.length < fuel → D.deeps ds ≤ N → D.counts ds < 1000000000 →
      Wf σ → LaidE σ p k ds → LaidE σ p' k ds' → HeadEqC a (.slice p len c) (.slice p' len c') k →
      ∃ e a' σ', floop [] (l36_0 (env n) none 36) fuel a none σ = .done e a' none σ' ∧ (if D.sames ds ds' = true then e = .exit 0 else e = .ret ∧ a'.get 4 = .bool false) ∧
        a'.ok ∧ a'.nt = 27 ∧ a'.defers = [] ∧ Ext σ σ' ∧ Wf σ' := by
  intro ds
  induction ds with
  | nil =>
    intro ds' k fuel a σ hk hl hf _ _ hw h1 h2 ⟨hok, hnt, hnl, hds, hg0, hg1, hg5⟩
    obtain ⟨fuel, rfl⟩ : ∃ f, fuel = f + 1 := ⟨fuel - 1, by simp at hf; omega⟩
    have hd : decide ((Int.ofNat k) < (Int.ofNat len)) = false := by simp at hk ⊢; omega
    have fg := forget_get [] a hok
    cases ds' with
    | cons _ _ => simp at hl
    | nil =>
      rw [floop_step]
      unfold l36_0
      simp only [seqR_go, fops_c, fops_nil, fdraw_f, fdraw_a, fdraw_nil', drawR_go, retR_go, skipR_go, exitR_go, after_val, after_skip, after_enter, after_ret, andThen_normal, andThen_ret, andThen_exit, get_put, ok_put, nt_put, defers_put, put_none, Nat.reduceLT, ↓reduceIte, Nat.reduceEqDiff, Nat.reduceAdd, nth_zero, nth_succ, drawF_val, drawF_push, stepOp_eq, drawA_normal, view_next, push_next, push_clock, put_next, put_clock, box_go, newCells_go, notTuple_agg, notTuple_int, notTuple_string, notTuple_bool, notTuple_slice, notTuple_pointer, valCells_agg, valCells_int, valCells_string, valCells_bool, valCells_slice, valCells_pointer, ffield_eq, fload1, floadN, cells_push, cells_put, cells?_cells, gd_true, gd_false, gd_skip, fpick_eq, eql_int, neq_int, lss_int, leq_int, gtr_int, geq_int, add_int, sub_int, mul_int, eql_str, neq_str, not_go, flenL_eq, flenS_eq, Nat.add_zero, Nat.zero_add, Nat.add_left_cancel_iff, Nat.add_eq_left, Nat.left_eq_add, List.getElem?_cons_zero, List.getElem?_cons_succ, beq_self_eq_true, Bool.not_true, Bool.not_false, cond_true, cond_false, leaveR_ret, leaveR_normal, leave_tmp, leave_tmp2, leave_tmp3, condR_val, Bool.false_eq_true, blockR_k, blockK_normal, blockK_ret, blockK_exit, loopR_go, nl_put, findex_eq, forget_ok, forget_nt, forget_nl, forget_defers, List.not_mem_nil, or_false, or_true, List.cons_append, List.nil_append, add_u64, mul_u64, xor_u64, shr32_u64, shr27_u64, shr9_u64, nilCheck_ptr, fstore1, push_get, put_get, List.set_cons_zero, List.set_cons_succ, List.length_cons, List.length_nil, oneCell_int, oneCell_string, oneCell_bool, oneCell_slice, oneCell_pointer, r36_4_go, r36_4U, hok, hnt, hnl, hds, hg0, hg1, hg5, fg, hd]
      exact ⟨_, _, _, rfl, rfl, by simp only [seqR_go, fops_c, fops_nil, fdraw_f, fdraw_a, fdraw_nil', drawR_go, retR_go, skipR_go, exitR_go, after_val, after_skip, after_enter, after_ret, andThen_normal, andThen_ret, andThen_exit, get_put, ok_put, nt_put, defers_put, put_none, Nat.reduceLT, ↓reduceIte, Nat.reduceEqDiff, Nat.reduceAdd, nth_zero, nth_succ, drawF_val, drawF_push, stepOp_eq, drawA_normal, view_next, push_next, push_clock, put_next, put_clock, box_go, newCells_go, notTuple_agg, notTuple_int, notTuple_string, notTuple_bool, notTuple_slice, notTuple_pointer, valCells_agg, valCells_int, valCells_string, valCells_bool, valCells_slice, valCells_pointer, ffield_eq, fload1, floadN, cells_push, cells_put, cells?_cells, gd_true, gd_false, gd_skip, fpick_eq, eql_int, neq_int, lss_int, leq_int, gtr_int, geq_int, add_int, sub_int, mul_int, eql_str, neq_str, not_go, flenL_eq, flenS_eq, Nat.add_zero, Nat.zero_add, Nat.add_left_cancel_iff, Nat.add_eq_left, Nat.left_eq_add, List.getElem?_cons_zero, List.getElem?_cons_succ, beq_self_eq_true, Bool.not_true, Bool.not_false, cond_true, cond_false, leaveR_ret, leaveR_normal, leave_tmp, leave_tmp2, leave_tmp3, condR_val, Bool.false_eq_true, blockR_k, blockK_normal, blockK_ret, blockK_exit, loopR_go, nl_put, findex_eq, forget_ok, forget_nt, forget_nl, forget_defers, List.not_mem_nil, or_false, or_true, List.cons_append, List.nil_append, add_u64, mul_u64, xor_u64, shr32_u64, shr27_u64, shr9_u64, nilCheck_ptr, fstore1, push_get, put_get, List.set_cons_zero, List.set_cons_succ, List.length_cons, List.length_nil, oneCell_int, oneCell_string, oneCell_bool, oneCell_slice, oneCell_pointer, hok], by simp only [seqR_go, fops_c, fops_nil, fdraw_f, fdraw_a, fdraw_nil', drawR_go, retR_go, skipR_go, exitR_go, after_val, after_skip, after_enter, after_ret, andThen_normal, andThen_ret, andThen_exit, get_put, ok_put, nt_put, defers_put, put_none, Nat.reduceLT, ↓reduceIte, Nat.reduceEqDiff, Nat.reduceAdd, nth_zero, nth_succ, drawF_val, drawF_push, stepOp_eq, drawA_normal, view_next, push_next, push_clock, put_next, put_clock, box_go, newCells_go, notTuple_agg, notTuple_int, notTuple_string, notTuple_bool, notTuple_slice, notTuple_pointer, valCells_agg, valCells_int, valCells_string, valCells_bool, valCells_slice, valCells_pointer, ffield_eq, fload1, floadN, cells_push, cells_put, cells?_cells, gd_true, gd_false, gd_skip, fpick_eq, eql_int, neq_int, lss_int, leq_int, gtr_int, geq_int, add_int, sub_int, mul_int, eql_str, neq_str, not_go, flenL_eq, flenS_eq, Nat.add_zero, Nat.zero_add, Nat.add_left_cancel_iff, Nat.add_eq_left, Nat.left_eq_add, List.getElem?_cons_zero, List.getElem?_cons_succ, beq_self_eq_true, Bool.not_true, Bool.not_false, cond_true, cond_false, leaveR_ret, leaveR_normal, leave_tmp, leave_tmp2, leave_tmp3, condR_val, Bool.false_eq_true, blockR_k, blockK_normal, blockK_ret, blockK_exit, loopR_go, nl_put, findex_eq, forget_ok, forget_nt, forget_nl, forget_defers, List.not_mem_nil, or_false, or_true, List.cons_append, List.nil_append, add_u64, mul_u64, xor_u64, shr32_u64, shr27_u64, shr9_u64, nilCheck_ptr, fstore1, push_get, put_get, List.set_cons_zero, List.set_cons_succ, List.length_cons, List.length_nil, oneCell_int, oneCell_string, oneCell_bool, oneCell_slice, oneCell_pointer, hnt], by simp only [seqR_go, fops_c, fops_nil, fdraw_f, fdraw_a, fdraw_nil', drawR_go, retR_go, skipR_go, exitR_go, after_val, after_skip, after_enter, after_ret, andThen_normal, andThen_ret, andThen_exit, get_put, ok_put, nt_put, defers_put, put_none, Nat.reduceLT, ↓reduceIte, Nat.reduceEqDiff, Nat.reduceAdd, nth_zero, nth_succ, drawF_val, drawF_push, stepOp_eq, drawA_normal, view_next, push_next, push_clock, put_next, put_clock, box_go, newCells_go, notTuple_agg, notTuple_int, notTuple_string, notTuple_bool, notTuple_slice, notTuple_pointer, valCells_agg, valCells_int, valCells_string, valCells_bool, valCells_slice, valCells_pointer, ffield_eq, fload1, floadN, cells_push, cells_put, cells?_cells, gd_true, gd_false, gd_skip, fpick_eq, eql_int, neq_int, lss_int, leq_int, gtr_int, geq_int, add_int, sub_int, mul_int, eql_str, neq_str, not_go, flenL_eq, flenS_eq, Nat.add_zero, Nat.zero_add, Nat.add_left_cancel_iff, Nat.add_eq_left, Nat.left_eq_add, List.getElem?_cons_zero, List.getElem?_cons_succ, beq_self_eq_true, Bool.not_true, Bool.not_false, cond_true, cond_false, leaveR_ret, leaveR_normal, leave_tmp, leave_tmp2, leave_tmp3, condR_val, Bool.false_eq_true, blockR_k, blockK_normal, blockK_ret, blockK_exit, loopR_go, nl_put, findex_eq, forget_ok, forget_nt, forget_nl, forget_defers, List.not_mem_nil, or_false, or_true, List.cons_append, List.nil_append, add_u64, mul_u64, xor_u64, shr32_u64, shr27_u64, shr9_u64, nilCheck_ptr, fstore1, push_get, put_get, List.set_cons_zero, List.set_cons_succ, List.length_cons, List.length_nil, oneCell_int, oneCell_string, oneCell_bool, oneCell_slice, oneCell_pointer, hds], Ext.refl _, hw⟩
  | cons d ds ih =>
    intro ds' k fuel a σ hk hl hf hN hM hw h1 h2 ⟨hok, hnt, hnl, hds, hg0, hg1, hg5⟩
    obtain ⟨fuel, rfl⟩ : ∃ f, fuel = f + 1 := ⟨fuel - 1, by simp at hf; omega⟩
    have hd : decide ((Int.ofNat k) < (Int.ofNat len)) = true := by simp at hk ⊢; omega
    have hlt : k < len := by simp at hk; omega
    have fg := forget_get [] a hok
    cases ds' with
    | nil => simp at hl
    | cons d' ds' =>
      obtain ⟨⟨b, off, cs, rfl, hc, hcl, hL⟩, h1r⟩ := h1
      obtain ⟨⟨b', off', cs', rfl, hc', hcl', hL'⟩, h2r⟩ := h2
      have hN' : D.deep d ≤ N ∧ D.deeps ds ≤ N := by simp [D.deeps] at hN; omega
      have hM' : d.count < 1000000000 ∧ D.counts ds < 1000000000 := by rw [D.counts] at hM; omega
      have hv := view_wf hw (Nat.le_refl _)
      rw [floop_step]
      unfold l36_0
      simp only [seqR_go, fops_c, fops_nil, fdraw_f, fdraw_a, fdraw_nil', drawR_go, retR_go, skipR_go, exitR_go, after_val, after_skip, after_enter, after_ret, andThen_normal, andThen_ret, andThen_exit, get_put, ok_put, nt_put, defers_put, put_none, Nat.reduceLT, ↓reduceIte, Nat.reduceEqDiff, Nat.reduceAdd, nth_zero, nth_succ, drawF_val, drawF_push, stepOp_eq, drawA_normal, view_next, push_next, push_clock, put_next, put_clock, box_go, newCells_go, notTuple_agg, notTuple_int, notTuple_string, notTuple_bool, notTuple_slice, notTuple_pointer, valCells_agg, valCells_int, valCells_string, valCells_bool, valCells_slice, valCells_pointer, ffield_eq, fload1, floadN, cells_push, cells_put, cells?_cells, gd_true, gd_false, gd_skip, fpick_eq, eql_int, neq_int, lss_int, leq_int, gtr_int, geq_int, add_int, sub_int, mul_int, eql_str, neq_str, not_go, flenL_eq, flenS_eq, Nat.add_zero, Nat.zero_add, Nat.add_left_cancel_iff, Nat.add_eq_left, Nat.left_eq_add, List.getElem?_cons_zero, List.getElem?_cons_succ, beq_self_eq_true, Bool.not_true, Bool.not_false, cond_true, cond_false, leaveR_ret, leaveR_normal, leave_tmp, leave_tmp2, leave_tmp3, condR_val, Bool.false_eq_true, blockR_k, blockK_normal, blockK_ret, blockK_exit, loopR_go, nl_put, findex_eq, forget_ok, forget_nt, forget_nl, forget_defers, List.not_mem_nil, or_false, or_true, List.cons_append, List.nil_append, add_u64, mul_u64, xor_u64, shr32_u64, shr27_u64, shr9_u64, nilCheck_ptr, fstore1, push_get, put_get, List.set_cons_zero, List.set_cons_succ, List.length_cons, List.length_nil, oneCell_int, oneCell_string, oneCell_bool, oneCell_slice, oneCell_pointer, r36_4_go, r36_4U, r36_6_go, r36_6U, hok, hnt, hnl, hds, hg0, hg1, hg5, fg, hd, hlt, hv, hc, hc', hcl, hcl']
      generalize hr : (env n).call 21 _ none _ = r
      obtain ⟨v, σ', rfl, hx, hw', rfl⟩ := hr ▸ hE d d' _ _ σ hN'.1 hM'.1 hw hL hL'
      have hwr : wrapI (Int.ofNat k + 1) = Int.ofNat (k + 1) := by
        rw [wrapI_of (by rw [Int.ofNat_eq_natCast]; omega)]; rfl
      cases e : D.same d d' with
      | false =>
        simp only [seqR_go, fops_c, fops_nil, fdraw_f, fdraw_a, fdraw_nil', drawR_go, retR_go, skipR_go, exitR_go, after_val, after_skip, after_enter, after_ret, andThen_normal, andThen_ret, andThen_exit, get_put, ok_put, nt_put, defers_put, put_none, Nat.reduceLT, ↓reduceIte, Nat.reduceEqDiff, Nat.reduceAdd, nth_zero, nth_succ, drawF_val, drawF_push, stepOp_eq, drawA_normal, view_next, push_next, push_clock, put_next, put_clock, box_go, newCells_go, notTuple_agg, notTuple_int, notTuple_string, notTuple_bool, notTuple_slice, notTuple_pointer, valCells_agg, valCells_int, valCells_string, valCells_bool, valCells_slice, valCells_pointer, ffield_eq, fload1, floadN, cells_push, cells_put, cells?_cells, gd_true, gd_false, gd_skip, fpick_eq, eql_int, neq_int, lss_int, leq_int, gtr_int, geq_int, add_int, sub_int, mul_int, eql_str, neq_str, not_go, flenL_eq, flenS_eq, Nat.add_zero, Nat.zero_add, Nat.add_left_cancel_iff, Nat.add_eq_left, Nat.left_eq_add, List.getElem?_cons_zero, List.getElem?_cons_succ, beq_self_eq_true, Bool.not_true, Bool.not_false, cond_true, cond_false, leaveR_ret, leaveR_normal, leave_tmp, leave_tmp2, leave_tmp3, condR_val, Bool.false_eq_true, blockR_k, blockK_normal, blockK_ret, blockK_exit, loopR_go, nl_put, findex_eq, forget_ok, forget_nt, forget_nl, forget_defers, List.not_mem_nil, or_false, or_true, List.cons_append, List.nil_append, add_u64, mul_u64, xor_u64, shr32_u64, shr27_u64, shr9_u64, nilCheck_ptr, fstore1, push_get, put_get, List.set_cons_zero, List.set_cons_succ, List.length_cons, List.length_nil, oneCell_int, oneCell_string, oneCell_bool, oneCell_slice, oneCell_pointer, r36_7_go, r36_7U, hok, hnt, hnl, hds, hg0, hg1, hg5, fg, hwr]
        refine ⟨_, _, _, rfl, ?_, by simp only [seqR_go, fops_c, fops_nil, fdraw_f, fdraw_a, fdraw_nil', drawR_go, retR_go, skipR_go, exitR_go, after_val, after_skip, after_enter, after_ret, andThen_normal, andThen_ret, andThen_exit, get_put, ok_put, nt_put, defers_put, put_none, Nat.reduceLT, ↓reduceIte, Nat.reduceEqDiff, Nat.reduceAdd, nth_zero, nth_succ, drawF_val, drawF_push, stepOp_eq, drawA_normal, view_next, push_next, push_clock, put_next, put_clock, box_go, newCells_go, notTuple_agg, notTuple_int, notTuple_string, notTuple_bool, notTuple_slice, notTuple_pointer, valCells_agg, valCells_int, valCells_string, valCells_bool, valCells_slice, valCells_pointer, ffield_eq, fload1, floadN, cells_push, cells_put, cells?_cells, gd_true, gd_false, gd_skip, fpick_eq, eql_int, neq_int, lss_int, leq_int, gtr_int, geq_int, add_int, sub_int, mul_int, eql_str, neq_str, not_go, flenL_eq, flenS_eq, Nat.add_zero, Nat.zero_add, Nat.add_left_cancel_iff, Nat.add_eq_left, Nat.left_eq_add, List.getElem?_cons_zero, List.getElem?_cons_succ, beq_self_eq_true, Bool.not_true, Bool.not_false, cond_true, cond_false, leaveR_ret, leaveR_normal, leave_tmp, leave_tmp2, leave_tmp3, condR_val, Bool.false_eq_true, blockR_k, blockK_normal, blockK_ret, blockK_exit, loopR_go, nl_put, findex_eq, forget_ok, forget_nt, forget_nl, forget_defers, List.not_mem_nil, or_false, or_true, List.cons_append, List.nil_append, add_u64, mul_u64, xor_u64, shr32_u64, shr27_u64, shr9_u64, nilCheck_ptr, fstore1, push_get, put_get, List.set_cons_zero, List.set_cons_succ, List.length_cons, List.length_nil, oneCell_int, oneCell_string, oneCell_bool, oneCell_slice, oneCell_pointer, hok], by simp only [seqR_go, fops_c, fops_nil, fdraw_f, fdraw_a, fdraw_nil', drawR_go, retR_go, skipR_go, exitR_go, after_val, after_skip, after_enter, after_ret, andThen_normal, andThen_ret, andThen_exit, get_put, ok_put, nt_put, defers_put, put_none, Nat.reduceLT, ↓reduceIte, Nat.reduceEqDiff, Nat.reduceAdd, nth_zero, nth_succ, drawF_val, drawF_push, stepOp_eq, drawA_normal, view_next, push_next, push_clock, put_next, put_clock, box_go, newCells_go, notTuple_agg, notTuple_int, notTuple_string, notTuple_bool, notTuple_slice, notTuple_pointer, valCells_agg, valCells_int, valCells_string, valCells_bool, valCells_slice, valCells_pointer, ffield_eq, fload1, floadN, cells_push, cells_put, cells?_cells, gd_true, gd_false, gd_skip, fpick_eq, eql_int, neq_int, lss_int, leq_int, gtr_int, geq_int, add_int, sub_int, mul_int, eql_str, neq_str, not_go, flenL_eq, flenS_eq, Nat.add_zero, Nat.zero_add, Nat.add_left_cancel_iff, Nat.add_eq_left, Nat.left_eq_add, List.getElem?_cons_zero, List.getElem?_cons_succ, beq_self_eq_true, Bool.not_true, Bool.not_false, cond_true, cond_false, leaveR_ret, leaveR_normal, leave_tmp, leave_tmp2, leave_tmp3, condR_val, Bool.false_eq_true, blockR_k, blockK_normal, blockK_ret, blockK_exit, loopR_go, nl_put, findex_eq, forget_ok, forget_nt, forget_nl, forget_defers, List.not_mem_nil, or_false, or_true, List.cons_append, List.nil_append, add_u64, mul_u64, xor_u64, shr32_u64, shr27_u64, shr9_u64, nilCheck_ptr, fstore1, push_get, put_get, List.set_cons_zero, List.set_cons_succ, List.length_cons, List.length_nil, oneCell_int, oneCell_string, oneCell_bool, oneCell_slice, oneCell_pointer, hnt], by simp only [seqR_go, fops_c, fops_nil, fdraw_f, fdraw_a, fdraw_nil', drawR_go, retR_go, skipR_go, exitR_go, after_val, after_skip, after_enter, after_ret, andThen_normal, andThen_ret, andThen_exit, get_put, ok_put, nt_put, defers_put, put_none, Nat.reduceLT, ↓reduceIte, Nat.reduceEqDiff, Nat.reduceAdd, nth_zero, nth_succ, drawF_val, drawF_push, stepOp_eq, drawA_normal, view_next, push_next, push_clock, put_next, put_clock, box_go, newCells_go, notTuple_agg, notTuple_int, notTuple_string, notTuple_bool, notTuple_slice, notTuple_pointer, valCells_agg, valCells_int, valCells_string, valCells_bool, valCells_slice, valCells_pointer, ffield_eq, fload1, floadN, cells_push, cells_put, cells?_cells, gd_true, gd_false, gd_skip, fpick_eq, eql_int, neq_int, lss_int, leq_int, gtr_int, geq_int, add_int, sub_int, mul_int, eql_str, neq_str, not_go, flenL_eq, flenS_eq, Nat.add_zero, Nat.zero_add, Nat.add_left_cancel_iff, Nat.add_eq_left, Nat.left_eq_add, List.getElem?_cons_zero, List.getElem?_cons_succ, beq_self_eq_true, Bool.not_true, Bool.not_false, cond_true, cond_false, leaveR_ret, leaveR_normal, leave_tmp, leave_tmp2, leave_tmp3, condR_val, Bool.false_eq_true, blockR_k, blockK_normal, blockK_ret, blockK_exit, loopR_go, nl_put, findex_eq, forget_ok, forget_nt, forget_nl, forget_defers, List.not_mem_nil, or_false, or_true, List.cons_append, List.nil_append, add_u64, mul_u64, xor_u64, shr32_u64, shr27_u64, shr9_u64, nilCheck_ptr, fstore1, push_get, put_get, List.set_cons_zero, List.set_cons_succ, List.length_cons, List.length_nil, oneCell_int, oneCell_string, oneCell_bool, oneCell_slice, oneCell_pointer, hds], hx, hw'⟩
        rw [show D.sames (d :: ds) (d' :: ds') = (D.same d d' && D.sames ds ds') from rfl, e, if_neg (by simp)]
        exact ⟨rfl, by simp only [seqR_go, fops_c, fops_nil, fdraw_f, fdraw_a, fdraw_nil', drawR_go, retR_go, skipR_go, exitR_go, after_val, after_skip, after_enter, after_ret, andThen_normal, andThen_ret, andThen_exit, get_put, ok_put, nt_put, defers_put, put_none, Nat.reduceLT, ↓reduceIte, Nat.reduceEqDiff, Nat.reduceAdd, nth_zero, nth_succ, drawF_val, drawF_push, stepOp_eq, drawA_normal, view_next, push_next, push_clock, put_next, put_clock, box_go, newCells_go, notTuple_agg, notTuple_int, notTuple_string, notTuple_bool, notTuple_slice, notTuple_pointer, valCells_agg, valCells_int, valCells_string, valCells_bool, valCells_slice, valCells_pointer, ffield_eq, fload1, floadN, cells_push, cells_put, cells?_cells, gd_true, gd_false, gd_skip, fpick_eq, eql_int, neq_int, lss_int, leq_int, gtr_int, geq_int, add_int, sub_int, mul_int, eql_str, neq_str, not_go, flenL_eq, flenS_eq, Nat.add_zero, Nat.zero_add, Nat.add_left_cancel_iff, Nat.add_eq_left, Nat.left_eq_add, List.getElem?_cons_zero, List.getElem?_cons_succ, beq_self_eq_true, Bool.not_true, Bool.not_false, cond_true, cond_false, leaveR_ret, leaveR_normal, leave_tmp, leave_tmp2, leave_tmp3, condR_val, Bool.false_eq_true, blockR_k, blockK_normal, blockK_ret, blockK_exit, loopR_go, nl_put, findex_eq, forget_ok, forget_nt, forget_nl, forget_defers, List.not_mem_nil, or_false, or_true, List.cons_append, List.nil_append, add_u64, mul_u64, xor_u64, shr32_u64, shr27_u64, shr9_u64, nilCheck_ptr, fstore1, push_get, put_get, List.set_cons_zero, List.set_cons_succ, List.length_cons, List.length_nil, oneCell_int, oneCell_string, oneCell_bool, oneCell_slice, oneCell_pointer, hok, hnt]⟩
      | true =>
        simp only [seqR_go, fops_c, fops_nil, fdraw_f, fdraw_a, fdraw_nil', drawR_go, retR_go, skipR_go, exitR_go, after_val, after_skip, after_enter, after_ret, andThen_normal, andThen_ret, andThen_exit, get_put, ok_put, nt_put, defers_put, put_none, Nat.reduceLT, ↓reduceIte, Nat.reduceEqDiff, Nat.reduceAdd, nth_zero, nth_succ, drawF_val, drawF_push, stepOp_eq, drawA_normal, view_next, push_next, push_clock, put_next, put_clock, box_go, newCells_go, notTuple_agg, notTuple_int, notTuple_string, notTuple_bool, notTuple_slice, notTuple_pointer, valCells_agg, valCells_int, valCells_string, valCells_bool, valCells_slice, valCells_pointer, ffield_eq, fload1, floadN, cells_push, cells_put, cells?_cells, gd_true, gd_false, gd_skip, fpick_eq, eql_int, neq_int, lss_int, leq_int, gtr_int, geq_int, add_int, sub_int, mul_int, eql_str, neq_str, not_go, flenL_eq, flenS_eq, Nat.add_zero, Nat.zero_add, Nat.add_left_cancel_iff, Nat.add_eq_left, Nat.left_eq_add, List.getElem?_cons_zero, List.getElem?_cons_succ, beq_self_eq_true, Bool.not_true, Bool.not_false, cond_true, cond_false, leaveR_ret, leaveR_normal, leave_tmp, leave_tmp2, leave_tmp3, condR_val, Bool.false_eq_true, blockR_k, blockK_normal, blockK_ret, blockK_exit, loopR_go, nl_put, findex_eq, forget_ok, forget_nt, forget_nl, forget_defers, List.not_mem_nil, or_false, or_true, List.cons_append, List.nil_append, add_u64, mul_u64, xor_u64, shr32_u64, shr27_u64, shr9_u64, nilCheck_ptr, fstore1, push_get, put_get, List.set_cons_zero, List.set_cons_succ, List.length_cons, List.length_nil, oneCell_int, oneCell_string, oneCell_bool, oneCell_slice, oneCell_pointer, r36_5_go, r36_5U, hok, hnt, hnl, hds, hg0, hg1, hg5, fg, hwr]
        generalize ha' : FAct.put _ (some 5) _ = a'
        have hH : HeadEqC a' (.slice (some ⟨b, off, none⟩) len c) (.slice (some ⟨b', off', none⟩) len c') (k + 1) := by
          rw [← ha']
          constructor <;> simp only [seqR_go, fops_c, fops_nil, fdraw_f, fdraw_a, fdraw_nil', drawR_go, retR_go, skipR_go, exitR_go, after_val, after_skip, after_enter, after_ret, andThen_normal, andThen_ret, andThen_exit, get_put, ok_put, nt_put, defers_put, put_none, Nat.reduceLT, ↓reduceIte, Nat.reduceEqDiff, Nat.reduceAdd, nth_zero, nth_succ, drawF_val, drawF_push, stepOp_eq, drawA_normal, view_next, push_next, push_clock, put_next, put_clock, box_go, newCells_go, notTuple_agg, notTuple_int, notTuple_string, notTuple_bool, notTuple_slice, notTuple_pointer, valCells_agg, valCells_int, valCells_string, valCells_bool, valCells_slice, valCells_pointer, ffield_eq, fload1, floadN, cells_push, cells_put, cells?_cells, gd_true, gd_false, gd_skip, fpick_eq, eql_int, neq_int, lss_int, leq_int, gtr_int, geq_int, add_int, sub_int, mul_int, eql_str, neq_str, not_go, flenL_eq, flenS_eq, Nat.add_zero, Nat.zero_add, Nat.add_left_cancel_iff, Nat.add_eq_left, Nat.left_eq_add, List.getElem?_cons_zero, List.getElem?_cons_succ, beq_self_eq_true, Bool.not_true, Bool.not_false, cond_true, cond_false, leaveR_ret, leaveR_normal, leave_tmp, leave_tmp2, leave_tmp3, condR_val, Bool.false_eq_true, blockR_k, blockK_normal, blockK_ret, blockK_exit, loopR_go, nl_put, findex_eq, forget_ok, forget_nt, forget_nl, forget_defers, List.not_mem_nil, or_false, or_true, List.cons_append, List.nil_append, add_u64, mul_u64, xor_u64, shr32_u64, shr27_u64, shr9_u64, nilCheck_ptr, fstore1, push_get, put_get, List.set_cons_zero, List.set_cons_succ, List.length_cons, List.length_nil, oneCell_int, oneCell_string, oneCell_bool, oneCell_slice, oneCell_pointer, hok, hnt, hnl, hds, hg0, hg1, hg5, fg, true_or]
        obtain ⟨e1, a1, σ1, g1, g2, g3, g4, g5, g6, g7⟩ := ih ds' (k + 1) fuel a' σ' (by simp at hk; omega) (by simpa using hl) (by simp at hf; omega) hN'.2 hM'.2 hw' (h1r.ext hw hx) (h2r.ext hw hx) hH
        refine ⟨e1, a1, σ1, g1, ?_, g3, g4, g5, hx.trans g6, g7⟩
        rw [show D.sames (d :: ds) (d' :: ds') = (D.same d d' && D.sames ds ds') from rfl, e]
        exact g2

theorem eqDataC_step (n N : Nat) (hE : ∀ d d' v v' σ, D.deep d ≤ N → d.count < 1000000000 → Wf σ → Laid σ v d → Laid σ v' d' → Gives ((env n).call 21 [v, v'] none σ) σ fun w _ => w = .bool (D.same d d'))
    (p p' : Option Addr) (c c' : Nat) (ds ds' : List D) (σ : FState) (hN : D.deeps ds ≤ N) (hM : D.counts ds < 1000000000) (hw : Wf σ) (h1 : LaidE σ p 0 ds) (h2 : LaidE σ p' 0 ds') :
    Gives ((env (n + 1)).call 36 [.slice p ds.length c, .slice p' ds'.length c'] none σ) σ fun w _ => w = .bool (D.sames ds ds') := by
  rw [env_call _ 36 _ _ rfl, enter36 _ _ _ _ (by simp)]
  generalize ha : (⟨padTo undef 6 _, fun _ => undef, 6, 27, []⟩ : FAct) = a
  have hok : a.ok := by rw [← ha]; exact ok_start _ _ _ _
  have hnt : a.nt = 27 := by rw [← ha]
  have hnl : a.nl = 6 := by rw [← ha]
  have hds : a.defers = [] := by rw [← ha]
  have hg0 : a.get 0 = .slice p ds.length c := by rw [← ha, get_start]; rfl
  have hg1 : a.get 1 = .slice p' ds'.length c' := by rw [← ha, get_start]; rfl
  clear ha
  unfold run36
  cases e1 : ((Int.ofNat ds.length) == (Int.ofNat ds'.length)) with
  | false =>
    simp only [seqR_go, fops_c, fops_nil, fdraw_f, fdraw_a, fdraw_nil', drawR_go, retR_go, skipR_go, exitR_go, after_val, after_skip, after_enter, after_ret, andThen_normal, andThen_ret, andThen_exit, get_put, ok_put, nt_put, defers_put, put_none, Nat.reduceLT, ↓reduceIte, Nat.reduceEqDiff, Nat.reduceAdd, nth_zero, nth_succ, drawF_val, drawF_push, stepOp_eq, drawA_normal, view_next, push_next, push_clock, put_next, put_clock, box_go, newCells_go, notTuple_agg, notTuple_int, notTuple_string, notTuple_bool, notTuple_slice, notTuple_pointer, valCells_agg, valCells_int, valCells_string, valCells_bool, valCells_slice, valCells_pointer, ffield_eq, fload1, floadN, cells_push, cells_put, cells?_cells, gd_true, gd_false, gd_skip, fpick_eq, eql_int, neq_int, lss_int, leq_int, gtr_int, geq_int, add_int, sub_int, mul_int, eql_str, neq_str, not_go, flenL_eq, flenS_eq, Nat.add_zero, Nat.zero_add, Nat.add_left_cancel_iff, Nat.add_eq_left, Nat.left_eq_add, List.getElem?_cons_zero, List.getElem?_cons_succ, beq_self_eq_true, Bool.not_true, Bool.not_false, cond_true, cond_false, leaveR_ret, leaveR_normal, leave_tmp, leave_tmp2, leave_tmp3, condR_val, Bool.false_eq_true, blockR_k, blockK_normal, blockK_ret, blockK_exit, loopR_go, nl_put, findex_eq, forget_ok, forget_nt, forget_nl, forget_defers, List.not_mem_nil, or_false, or_true, List.cons_append, List.nil_append, add_u64, mul_u64, xor_u64, shr32_u64, shr27_u64, shr9_u64, nilCheck_ptr, fstore1, push_get, put_get, List.set_cons_zero, List.set_cons_succ, List.length_cons, List.length_nil, oneCell_int, oneCell_string, oneCell_bool, oneCell_slice, oneCell_pointer, r36_0_go, r36_0U, r36_1_go, r36_1U, r36_2_go, r36_2U, hok, hnt, hnl, hds, hg0, hg1, e1]
    refine ⟨_, _, rfl, Ext.refl _, hw, ?_⟩
    have hne : ds.length ≠ ds'.length := fun h => by rw [h] at e1; simp at e1
    cases e : D.sames ds ds' with
    | false => simp only [seqR_go, fops_c, fops_nil, fdraw_f, fdraw_a, fdraw_nil', drawR_go, retR_go, skipR_go, exitR_go, after_val, after_skip, after_enter, after_ret, andThen_normal, andThen_ret, andThen_exit, get_put, ok_put, nt_put, defers_put, put_none, Nat.reduceLT, ↓reduceIte, Nat.reduceEqDiff, Nat.reduceAdd, nth_zero, nth_succ, drawF_val, drawF_push, stepOp_eq, drawA_normal, view_next, push_next, push_clock, put_next, put_clock, box_go, newCells_go, notTuple_agg, notTuple_int, notTuple_string, notTuple_bool, notTuple_slice, notTuple_pointer, valCells_agg, valCells_int, valCells_string, valCells_bool, valCells_slice, valCells_pointer, ffield_eq, fload1, floadN, cells_push, cells_put, cells?_cells, gd_true, gd_false, gd_skip, fpick_eq, eql_int, neq_int, lss_int, leq_int, gtr_int, geq_int, add_int, sub_int, mul_int, eql_str, neq_str, not_go, flenL_eq, flenS_eq, Nat.add_zero, Nat.zero_add, Nat.add_left_cancel_iff, Nat.add_eq_left, Nat.left_eq_add, List.getElem?_cons_zero, List.getElem?_cons_succ, beq_self_eq_true, Bool.not_true, Bool.not_false, cond_true, cond_false, leaveR_ret, leaveR_normal, leave_tmp, leave_tmp2, leave_tmp3, condR_val, Bool.false_eq_true, blockR_k, blockK_normal, blockK_ret, blockK_exit, loopR_go, nl_put, findex_eq, forget_ok, forget_nt, forget_nl, forget_defers, List.not_mem_nil, or_false, or_true, List.cons_append, List.nil_append, add_u64, mul_u64, xor_u64, shr32_u64, shr27_u64, shr9_u64, nilCheck_ptr, fstore1, push_get, put_get, List.set_cons_zero, List.set_cons_succ, List.length_cons, List.length_nil, oneCell_int, oneCell_string, oneCell_bool, oneCell_slice, oneCell_pointer, hok, hnt]
    | true => exact absurd (sames_length e) hne
  | true =>
    have hl : ds.length = ds'.length := Int.ofNat.inj (eq_of_beq e1)
    simp only [seqR_go, fops_c, fops_nil, fdraw_f, fdraw_a, fdraw_nil', drawR_go, retR_go, skipR_go, exitR_go, after_val, after_skip, after_enter, after_ret, andThen_normal, andThen_ret, andThen_exit, get_put, ok_put, nt_put, defers_put, put_none, Nat.reduceLT, ↓reduceIte, Nat.reduceEqDiff, Nat.reduceAdd, nth_zero, nth_succ, drawF_val, drawF_push, stepOp_eq, drawA_normal, view_next, push_next, push_clock, put_next, put_clock, box_go, newCells_go, notTuple_agg, notTuple_int, notTuple_string, notTuple_bool, notTuple_slice, notTuple_pointer, valCells_agg, valCells_int, valCells_string, valCells_bool, valCells_slice, valCells_pointer, ffield_eq, fload1, floadN, cells_push, cells_put, cells?_cells, gd_true, gd_false, gd_skip, fpick_eq, eql_int, neq_int, lss_int, leq_int, gtr_int, geq_int, add_int, sub_int, mul_int, eql_str, neq_str, not_go, flenL_eq, flenS_eq, Nat.add_zero, Nat.zero_add, Nat.add_left_cancel_iff, Nat.add_eq_left, Nat.left_eq_add, List.getElem?_cons_zero, List.getElem?_cons_succ, beq_self_eq_true, Bool.not_true, Bool.not_false, cond_true, cond_false, leaveR_ret, leaveR_normal, leave_tmp, leave_tmp2, leave_tmp3, condR_val, Bool.false_eq_true, blockR_k, blockK_normal, blockK_ret, blockK_exit, loopR_go, nl_put, findex_eq, forget_ok, forget_nt, forget_nl, forget_defers, List.not_mem_nil, or_false, or_true, List.cons_append, List.nil_append, add_u64, mul_u64, xor_u64, shr32_u64, shr27_u64, shr9_u64, nilCheck_ptr, fstore1, push_get, put_get, List.set_cons_zero, List.set_cons_succ, List.length_cons, List.length_nil, oneCell_int, oneCell_string, oneCell_bool, oneCell_slice, oneCell_pointer, r36_0_go, r36_0U, r36_1_go, r36_1U, r36_2_go, r36_2U, r36_3_go, r36_3U, hok, hnt, hnl, hds, hg0, hg1, e1, keepC36]
    generalize ha' : FAct.put _ (some 5) _ = a'
    have hH : HeadEqC a' (.slice p ds.length c) (.slice p' ds.length c') 0 := by
      rw [← ha']
      constructor <;> simp only [seqR_go, fops_c, fops_nil, fdraw_f, fdraw_a, fdraw_nil', drawR_go, retR_go, skipR_go, exitR_go, after_val, after_skip, after_enter, after_ret, andThen_normal, andThen_ret, andThen_exit, get_put, ok_put, nt_put, defers_put, put_none, Nat.reduceLT, ↓reduceIte, Nat.reduceEqDiff, Nat.reduceAdd, nth_zero, nth_succ, drawF_val, drawF_push, stepOp_eq, drawA_normal, view_next, push_next, push_clock, put_next, put_clock, box_go, newCells_go, notTuple_agg, notTuple_int, notTuple_string, notTuple_bool, notTuple_slice, notTuple_pointer, valCells_agg, valCells_int, valCells_string, valCells_bool, valCells_slice, valCells_pointer, ffield_eq, fload1, floadN, cells_push, cells_put, cells?_cells, gd_true, gd_false, gd_skip, fpick_eq, eql_int, neq_int, lss_int, leq_int, gtr_int, geq_int, add_int, sub_int, mul_int, eql_str, neq_str, not_go, flenL_eq, flenS_eq, Nat.add_zero, Nat.zero_add, Nat.add_left_cancel_iff, Nat.add_eq_left, Nat.left_eq_add, List.getElem?_cons_zero, List.getElem?_cons_succ, beq_self_eq_true, Bool.not_true, Bool.not_false, cond_true, cond_false, leaveR_ret, leaveR_normal, leave_tmp, leave_tmp2, leave_tmp3, condR_val, Bool.false_eq_true, blockR_k, blockK_normal, blockK_ret, blockK_exit, loopR_go, nl_put, findex_eq, forget_ok, forget_nt, forget_nl, forget_defers, List.not_mem_nil, or_false, or_true, List.cons_append, List.nil_append, add_u64, mul_u64, xor_u64, shr32_u64, shr27_u64, shr9_u64, nilCheck_ptr, fstore1, push_get, put_get, List.set_cons_zero, List.set_cons_succ, List.length_cons, List.length_nil, oneCell_int, oneCell_string, oneCell_bool, oneCell_slice, oneCell_pointer, hok, hnt, hnl, hds, hg0, hg1, hl] <;> rfl
    generalize hb : bigFuel = fuel
    have hlen : ds.length < 1000000000000 := by have := length_counts ds; omega
    have hf : ds.length < fuel := by rw [← hb]; exact hlen
    obtain ⟨e1, a1, σ1, g1, g2, g3, g4, g5, g6, g7⟩ := eqDataC_loop n N hE p p' ds.length c c' hlen ds ds' 0 fuel a' σ (by simp) hl hf hN hM hw h1 h2 hH
    rw [g1]
    cases e : D.sames ds ds' with
    | false =>
      rw [e, if_neg (by simp)] at g2
      obtain ⟨rfl, g8⟩ := g2
      simp only [seqR_go, fops_c, fops_nil, fdraw_f, fdraw_a, fdraw_nil', drawR_go, retR_go, skipR_go, exitR_go, after_val, after_skip, after_enter, after_ret, andThen_normal, andThen_ret, andThen_exit, get_put, ok_put, nt_put, defers_put, put_none, Nat.reduceLT, ↓reduceIte, Nat.reduceEqDiff, Nat.reduceAdd, nth_zero, nth_succ, drawF_val, drawF_push, stepOp_eq, drawA_normal, view_next, push_next, push_clock, put_next, put_clock, box_go, newCells_go, notTuple_agg, notTuple_int, notTuple_string, notTuple_bool, notTuple_slice, notTuple_pointer, valCells_agg, valCells_int, valCells_string, valCells_bool, valCells_slice, valCells_pointer, ffield_eq, fload1, floadN, cells_push, cells_put, cells?_cells, gd_true, gd_false, gd_skip, fpick_eq, eql_int, neq_int, lss_int, leq_int, gtr_int, geq_int, add_int, sub_int, mul_int, eql_str, neq_str, not_go, flenL_eq, flenS_eq, Nat.add_zero, Nat.zero_add, Nat.add_left_cancel_iff, Nat.add_eq_left, Nat.left_eq_add, List.getElem?_cons_zero, List.getElem?_cons_succ, beq_self_eq_true, Bool.not_true, Bool.not_false, cond_true, cond_false, leaveR_ret, leaveR_normal, leave_tmp, leave_tmp2, leave_tmp3, condR_val, Bool.false_eq_true, blockR_k, blockK_normal, blockK_ret, blockK_exit, loopR_go, nl_put, findex_eq, forget_ok, forget_nt, forget_nl, forget_defers, List.not_mem_nil, or_false, or_true, List.cons_append, List.nil_append, add_u64, mul_u64, xor_u64, shr32_u64, shr27_u64, shr9_u64, nilCheck_ptr, fstore1, push_get, put_get, List.set_cons_zero, List.set_cons_succ, List.length_cons, List.length_nil, oneCell_int, oneCell_string, oneCell_bool, oneCell_slice, oneCell_pointer, g3, g4, g5, g8]
      exact ⟨_, _, rfl, g6, g7, rfl⟩
    | true =>
      rw [e, if_pos rfl] at g2
      subst g2
      simp only [seqR_go, fops_c, fops_nil, fdraw_f, fdraw_a, fdraw_nil', drawR_go, retR_go, skipR_go, exitR_go, after_val, after_skip, after_enter, after_ret, andThen_normal, andThen_ret, andThen_exit, get_put, ok_put, nt_put, defers_put, put_none, Nat.reduceLT, ↓reduceIte, Nat.reduceEqDiff, Nat.reduceAdd, nth_zero, nth_succ, drawF_val, drawF_push, stepOp_eq, drawA_normal, view_next, push_next, push_clock, put_next, put_clock, box_go, newCells_go, notTuple_agg, notTuple_int, notTuple_string, notTuple_bool, notTuple_slice, notTuple_pointer, valCells_agg, valCells_int, valCells_string, valCells_bool, valCells_slice, valCells_pointer, ffield_eq, fload1, floadN, cells_push, cells_put, cells?_cells, gd_true, gd_false, gd_skip, fpick_eq, eql_int, neq_int, lss_int, leq_int, gtr_int, geq_int, add_int, sub_int, mul_int, eql_str, neq_str, not_go, flenL_eq, flenS_eq, Nat.add_zero, Nat.zero_add, Nat.add_left_cancel_iff, Nat.add_eq_left, Nat.left_eq_add, List.getElem?_cons_zero, List.getElem?_cons_succ, beq_self_eq_true, Bool.not_true, Bool.not_false, cond_true, cond_false, leaveR_ret, leaveR_normal, leave_tmp, leave_tmp2, leave_tmp3, condR_val, Bool.false_eq_true, blockR_k, blockK_normal, blockK_ret, blockK_exit, loopR_go, nl_put, findex_eq, forget_ok, forget_nt, forget_nl, forget_defers, List.not_mem_nil, or_false, or_true, List.cons_append, List.nil_append, add_u64, mul_u64, xor_u64, shr32_u64, shr27_u64, shr9_u64, nilCheck_ptr, fstore1, push_get, put_get, List.set_cons_zero, List.set_cons_succ, List.length_cons, List.length_nil, oneCell_int, oneCell_string, oneCell_bool, oneCell_slice, oneCell_pointer, r36_8_go, r36_8U, g3, g4, g5]
      exact ⟨_, _, rfl, g6, g7, rfl⟩
/-- caracolekit.EqDatum. -/
theorem eqDatum_go (n : Nat) : ∀ (N : Nat) (d d' : D) (v v' : Value) (σ : FState), D.deep d ≤ N → d.count < 1000000000 → Wf σ → Laid σ v d → Laid σ v' d' → Gives ((env (n + 2 * N)).call 21 [v, v'] none σ) σ fun w _ => w = .bool (D.same d d')
  | 0, d, _, _, _, _, h, _, _, _, _ => by cases d; rw [D.deep] at h; omega
  | N + 1, .mk k z t ds, .mk k' z' t' ds', v, v', σ, h, hc, hw, ⟨p, c, hv, hE⟩, ⟨p', c', hv', hE'⟩ => by
    subst hv hv'
    rw [D.deep] at h
    rw [D.count] at hc
    have := eqDatum_step (n + 2 * N + 1) k z k' z' t t' (.slice p ds.length c) (.slice p' ds'.length c') σ (D.sames ds ds') hw fun σ' hx hw' =>
      eqDataC_step (n + 2 * N) N (fun d d' v v' σ a b c e f => eqDatum_go n N d d' v v' σ a b c e f) p p' c c' ds ds' σ' (by omega) (by omega) hw' (hE.ext hw hx) (hE'.ext hw hx)
    rw [show D.same (.mk k z t ds) (.mk k' z' t' ds') = (decide (k = k') && decide (z = z') && (t.toList == t'.toList) && D.sames ds ds') from rfl, ← beq_int, ← beq_int]
    exact this
end Go.Proofs.YtokieofohmgjdaaGreatDoor
/- A slice that grows from nothing. Nothing of a program. -/
namespace Go.Eng
open Go
/-- A slice without room behind it, or none. -/
def Vecs (T : TypeId) (Q : Nat → Prop) (σ : FState) (s : Value) (vs : List Value) : Prop := (s = .slice none 0 0 ∧ vs = []) ∨ ∃ b, Ful T σ b s vs ∧ Q b
section
variable {T : TypeId} {Q Q' : Nat → Prop} {σ σ' : FState} {s : Value} {vs : List Value}
theorem Vecs.one (h : Vecs T Q σ s vs) : oneCell s = true ∧ notTuple s = true ∧ valCells s = [s] := by
  rcases h with ⟨rfl, _⟩ | ⟨b, h, _⟩
  · exact ⟨oneCell_slice _ _ _, notTuple_slice _ _ _, rfl⟩
  · exact h.one
theorem Vecs.keep (h : Vecs T Q σ s vs) (hk : ∀ b, Q b → b < σ.next → σ'.heap.get b = σ.heap.get b ∧ Q' b) (hw : Wf σ) : Vecs T Q' σ' s vs := by
  rcases h with h | ⟨b, h, hq⟩
  · exact .inl h
  · exact .inr ⟨b, h.keep (hk b hq (h.lt hw)).1, (hk b hq (h.lt hw)).2⟩
theorem Vecs.append (h : Vecs T Q σ s vs) (hw : Wf σ) (bx cx : Nat) (v : Value) (bytes : Nat) (hx : σ.cells bx = some [v]) (ho : oneCell v = true) (hby : bytes < 1000) (hlen : vs.length + 1 < 100000) :
    ∃ b' s' τ, fappend T 1 bytes s (.slice (some ⟨bx, 0, none⟩) 1 cx) σ = .val s' τ ∧ Ful T τ b' s' (vs ++ [v]) ∧ (Q b' ∨ b' = σ.next) ∧ Chg Q σ τ ∧ Wf τ := by
  rcases h with ⟨rfl, rfl⟩ | ⟨b, h, hq⟩
  · refine ⟨σ.next, .slice (some ⟨σ.next, 0, none⟩) 1 1, σ.push (.cells [v] T) (some 1), ?_, ⟨some 1, σ.clock, rfl, by rw [push_get, if_pos rfl]; rfl, .inr rfl⟩, .inr rfl, (Chg.refl _ _).push _ _, hw.push _ _⟩
    have hn := fnew_some bx 1 cx [v] [] hx rfl
    unfold fappend
    simp only [hn]
    rw [show [v].all oneCell = true by simp [ho]]
    show fappend2 T 1 bytes 0 0 none 1 [v] σ = _
    unfold fappend2
    rw [show Nat.ble (0 + 1) 0 = false from rfl, show Nat.ble ((0 + 1) * (bytes + 1)) 1000000000 = true by rw [Nat.ble_eq]; omega]
    rfl
  · obtain ⟨b', s', τ, e, F, hb', hC, hw'⟩ := h.append hw (.slice (some ⟨bx, 0, none⟩) 1 cx) [v] bytes (fnew_some bx 1 cx [v] [] hx rfl) (by simp [ho]) hby (by simpa using hlen)
    refine ⟨b', s', τ, e, F, ?_, hC.weaken fun x _ hx => hx ▸ hq, hw'⟩
    rcases hb' with rfl | rfl
    · exact .inl hq
    · exact .inr rfl
end
end Go.Eng
/- slices.Clone at []int. -/
namespace Go.Proofs.YtokieofohmgjdaaGreatDoor
open Go Go.Eng
attribute [local congr] andThen_congr fops_congr fdraw_congr afterOp_congr drawF_congr
attribute [-go_sem] List.range_succ
end Go.Proofs.YtokieofohmgjdaaGreatDoor
/- package datum's find: the paths of all pieces that equal a datum. -/
namespace Go.Proofs.YtokieofohmgjdaaGreatDoor
open Go Go.Eng
attribute [local congr] andThen_congr fops_congr fdraw_congr afterOp_congr drawF_congr
attribute [-go_sem] List.range_succ
/-- The paths of what equals x. -/
def foundIn (x : D) (l : List (List Nat × D)) : List (List Nat) := (l.filter fun y => D.same y.2 x).map (·.1)
def Paths' (B : Nat → Prop) (l : Nat) (σ : FState) (fv : Value) (ps : List (List Nat)) : Prop := ∃ us bo, Vecs 25 (fun b => b = bo ∧ B b ∧ l < b) σ fv us ∧ PathsL (fun b => B b ∧ l < b ∧ b ≠ bo) σ us ps
def FindI (l r cm bx : Nat) (R X : Nat → Prop) (xv : List Value) (x : D) (σ0 : FState) (f g : Nat → Value) (done : List (List Nat × D)) (B : Nat → Prop) (σ : FState) : Prop :=
  (∀ b, X b ∨ b = l ∨ b = r ∨ b = cm ∨ b = bx → B b) ∧ (∀ b, B b → b < σ.next ∧ (X b ∨ b = l ∨ b = r ∨ b = cm ∨ b = bx ∨ l < b)) ∧ LoopAt 113 [10, 11] c113_0a c113_0b 8 21 f g l r .ready σ ∧ (∃ ver, σ.heap.get r = some ⟨.defd true, false, none, ver⟩) ∧
    (∃ fv ver, σ.heap.get cm = some ⟨.cells [fv] 42, false, none, ver⟩ ∧ Paths' B l σ fv (foundIn x done)) ∧ σ.cells bx = some xv ∧ LaidR (fun b => R b ∨ X b) σ (.agg xv.toArray) x ∧ ∀ b, X b → σ.heap.get b = σ0.heap.get b
end Go.Proofs.YtokieofohmgjdaaGreatDoor
/- package datum's find, whole. -/
namespace Go.Proofs.YtokieofohmgjdaaGreatDoor
open Go Go.Eng
attribute [local congr] andThen_congr fops_congr fdraw_congr afterOp_congr drawF_congr
attribute [-go_sem] List.range_succ
end Go.Proofs.YtokieofohmgjdaaGreatDoor
/- datum.Find. -/
namespace Go.Proofs.YtokieofohmgjdaaGreatDoor
open Go Go.Eng
attribute [local congr] andThen_congr fops_congr fdraw_congr afterOp_congr drawF_congr
attribute [-go_sem] List.range_succ
/-- What is so of a value in memory from a block on, whatever comes of other memory. -/
structure Stays (Q : Nat → Value → FState → Prop) : Prop where
  keep : ∀ base base' v σ σ', Q base v σ → Wf σ → base' ≤ base → (∀ b, base ≤ b → b < σ.next → σ'.heap.get b = σ.heap.get b) → Q base' v σ'
def ResP (x : D) (l : List (List Nat × D)) (base : Nat) (w : Value) (σ : FState) : Prop := ∃ us, Vecs 25 (fun b => base ≤ b) σ w us ∧ PathsL (fun b => base ≤ b) σ us (foundIn x l)
mutual
theorem pieces_le : ∀ (d : D) (p : List Nat) (y : List Nat × D), y ∈ d.pieces p → y.2.deep ≤ d.deep ∧ y.2.count ≤ d.count
  | .mk k z t ds, p, y, h => by
    rw [D.pieces] at h
    rcases List.mem_cons.1 h with rfl | h
    · exact ⟨Nat.le_refl _, Nat.le_refl _⟩
    · have := piecesL_le ds p 0 y h
      rw [D.deep, D.count]
      omega
theorem piecesL_le : ∀ (ds : List D) (p : List Nat) (i : Nat) (y : List Nat × D), y ∈ D.piecesL p i ds → y.2.deep ≤ D.deeps ds ∧ y.2.count ≤ D.counts ds
  | [], p, i, y, h => by simp [D.piecesL] at h
  | d :: ds, p, i, y, h => by
    rw [D.piecesL, List.mem_append] at h
    rw [D.deeps, D.counts]
    rcases h with h | h
    · have := pieces_le d _ y h; omega
    · have := piecesL_le ds _ _ y h; omega
end
theorem longest_le (l : List (List Nat × D)) (L : Nat) (h : ∀ x ∈ l, x.1.length ≤ L) : longest l ≤ L + 1 := by
  induction l with
  | nil => simp [longest]
  | cons x l ih =>
    rw [longest_cons]
    have := h x List.mem_cons_self
    have := ih fun y hy => h y (List.mem_cons_of_mem _ hy)
    omega
theorem Fine.deep_le {m L : Nat} {d : D} (h : Fine m L d) : d.deep ≤ L + 1 := by
  have h1 := longest_pieces d []
  have h2 := longest_le (d.pieces []) L fun x hx => by have := ((h []).2 x hx).1; simpa using this
  simp at h1
  omega
end Go.Proofs.YtokieofohmgjdaaGreatDoor
/- plain.Copy. -/
namespace Go.Proofs.YtokieofohmgjdaaGreatDoor
open Go Go.Eng
attribute [local congr] andThen_congr fops_congr fdraw_congr afterOp_congr drawF_congr
attribute [-go_sem] List.range_succ
theorem keepEach : keepOf nls 139 = [14, 15, 28] := by kernel_rfl
theorem makeSlice_go (e : TypeId) (bytes : Nat) (z : List Value) (n : Nat) (σ : FState) (h : n * (bytes + 1) ≤ 1000000000) : fmakeSlice e bytes z (.int .i64 (.ofNat n)) (.int .i64 (.ofNat n)) σ = .val (.slice (some ⟨σ.next, 0, none⟩) n n) (σ.push (.cells (reps n z) e) none) := by
  show cond (Nat.ble n n && Nat.ble (n * (bytes + 1)) 1000000000) _ _ = _
  rw [show Nat.ble n n = true by rw [Nat.ble_eq]; exact Nat.le_refl _, show Nat.ble (n * (bytes + 1)) 1000000000 = true by rw [Nat.ble_eq]; exact h]
  rfl
theorem reps_length (n : Nat) (z : List Value) : (reps n z).length = n * z.length := by
  induction n with
  | zero => simp [reps_zero]
  | succ n ih => rw [reps_succ, List.length_append, ih, Nat.succ_mul]; omega
def CopyAt (m : Nat) (d : D) : Prop := ∀ (lv : List Value) (R : Nat → Prop) (σ : FState), Wf σ → LaidR R σ (.agg lv.toArray) d → Gives ((env m).call 104 [.agg lv.toArray] none σ) σ fun w σ' => LaidR (fun b => σ.next ≤ b) σ' w d
structure HeadEa (bo base : Nat) (R : Nat → Prop) (q : Option Addr) (c : Nat) (ds : List D) (σ0 : FState) (i : Nat) (f g : Nat → Value) (σ : FState) : Prop where
  f0 : f 0 = .slice q ds.length c
  f1 : f 1 = .func (.func 104) #[] #[]
  f5 : f 5 = .slice (some ⟨bo, 0, none⟩) ds.length ds.length
  g14 : g 14 = .int .i64 (.ofNat ds.length)
  g15 : g 15 = .int .i64 (.ofNat i)
  cs : ∃ done rest ver, σ.heap.get bo = some ⟨.cells (done ++ rest) TD, false, none, ver⟩ ∧ Row (fun b => base ≤ b ∧ b ≠ bo) σ done (ds.take i) ∧ rest.length = (ds.length - i) * 4
  hbo : base ≤ bo
  lay : LaidRE R σ q 0 ds
  low : ∀ b, R b → b < base
  wf : Wf σ
  ext : Ext σ0 σ
  le : i ≤ ds.length
theorem each_loop (m : Nat) {bo base : Nat} {R : Nat → Prop} {q : Option Addr} {c : Nat} {ds : List D} {σ0 : FState} (hC : ∀ d ∈ ds, CopyAt m d) (hb0 : σ0.next = base) (hfew : ds.length < 1000000) :
    ∀ (j fuel i : Nat) (f g : Nat → Value) (σ : FState), i + j = ds.length → j < fuel → HeadEa bo base R q c ds σ0 i f g σ →
    ∃ f' g' σ', floop [14, 15, 28] (l139_0 (env m) none 139) fuel (Sl 7 29 f g []) none σ = .done (.exit 0) (Sl 7 29 f' g' []) none σ' ∧ HeadEa bo base R q c ds σ0 ds.length f' g' σ' := by
  intro j
  induction j with
  | zero =>
    intro fuel i f g σ hij hf h
    obtain ⟨fuel, rfl⟩ : ∃ q, fuel = q + 1 := ⟨fuel - 1, by omega⟩
    obtain rfl : i = ds.length := by omega
    have d1 : decide (Int.ofNat ds.length < Int.ofNat ds.length) = false := by simp
    rw [floop_step, Sl_forget]
    unfold l139_0
    simp -implicitDefEqProofs only [go_sem, ↓reduceIte, Nat.reduceLT, Nat.reduceEqDiff, Nat.reduceAdd, Nat.reduceMul, Nat.reduceLeDiff, Nat.reduceSub, r139_5_go, r139_5U, h.g14, h.g15, d1, List.mem_cons]
    refine ⟨_, _, _, rfl, { h with g14 := ?_, g15 := ?_ }⟩
    · simp -implicitDefEqProofs only [upd_go, kept_go, ↓reduceIte, Nat.reduceEqDiff, Nat.reduceLT, reduceCtorEq, h.g14, List.mem_cons, true_or, or_true]
    · simp -implicitDefEqProofs only [upd_go, kept_go, ↓reduceIte, Nat.reduceEqDiff, Nat.reduceLT, reduceCtorEq, h.g15, List.mem_cons, true_or, or_true]
  | succ j ih =>
    intro fuel i f g σ hij hf h
    obtain ⟨fuel, rfl⟩ : ∃ q, fuel = q + 1 := ⟨fuel - 1, by omega⟩
    have hi : i < ds.length := by omega
    have d1 : decide (Int.ofNat i < Int.ofNat ds.length) = true := by simp; omega
    have hd : ds[i]? = some ds[i] := List.getElem?_eq_getElem hi
    obtain ⟨b, off, cs, rfl, hRb, hcs, hle, hL⟩ := LaidRE.get h.lay hd
    rw [Nat.zero_add] at hle hL
    obtain ⟨done, rest, ver, hg, hr, hrl⟩ := h.cs
    obtain ⟨w, σ1, e1, x1, hw1, hL1⟩ := hC _ (List.getElem_mem hi) ((cs.drop (off + i * 4)).take 4) R σ h.wf hL
    obtain ⟨l4, rfl, hl4, hone⟩ := hL1.agg
    have hbn := (h.wf _ _ hg).1
    have hg1 := (x1.get bo hbn).trans hg
    have hdl : done.length = i * 4 := by rw [hr.1, List.length_take]; omega
    have w1 := add1 i (by omega)
    have hr4 : 4 ≤ rest.length := by rw [hrl]; omega
    have e4 : ((done ++ rest).take (i * 4) ++ l4 ++ (done ++ rest).drop (i * 4 + 4)) = (done ++ l4) ++ rest.drop 4 := by
      rw [← hdl, List.take_left', List.drop_append]
      · simp [List.drop_eq_nil_of_le]
      · rfl
    have hlen : i * 4 + 4 ≤ (done ++ rest).length := by rw [List.length_append, hdl]; omega
    rw [floop_step, Sl_forget]
    unfold l139_0
    simp -implicitDefEqProofs only [go_sem, ↓reduceIte, Nat.reduceLT, Nat.reduceEqDiff, Nat.reduceAdd, Nat.reduceMul, Nat.reduceLeDiff, Nat.reduceSub, fstoreN, r139_5_go, r139_5U, r139_6_go, r139_6U, r139_7_go, r139_7U, r139_8_go, r139_8U, h.f0, h.f1, h.f5, h.g14, h.g15, d1, hi, hcs, hle, e1, hg1, hl4, hone, hlen, e4, w1, List.mem_cons]
    generalize hff : upd _ 6 _ = f1
    generalize hgg : upd _ 15 _ = g1
    have n1 := x1.next
    have hbase : base ≤ σ.next := by have := h.ext.next; omega
    have hbo := h.hbo
    have kc : ∀ (o : FObj) b cs, σ1.cells b = some cs → b ≠ bo → (σ1.put bo o none).cells b = some cs := fun o b cs hc hb => by rw [cells_put, if_neg hb]; exact hc
    exact ih fuel (i + 1) f1 g1 _ (by omega) (by omega) {
      f0 := by rw [← hff]; simp -implicitDefEqProofs only [upd_go, kept_go, ↓reduceIte, Nat.reduceEqDiff, Nat.reduceLT, reduceCtorEq, h.f0]
      f1 := by rw [← hff]; simp -implicitDefEqProofs only [upd_go, kept_go, ↓reduceIte, Nat.reduceEqDiff, Nat.reduceLT, reduceCtorEq, h.f1]
      f5 := by rw [← hff]; simp -implicitDefEqProofs only [upd_go, kept_go, ↓reduceIte, Nat.reduceEqDiff, Nat.reduceLT, reduceCtorEq, h.f5]
      g14 := by rw [← hgg]; simp -implicitDefEqProofs only [upd_go, kept_go, ↓reduceIte, Nat.reduceEqDiff, Nat.reduceLT, reduceCtorEq, h.g14, List.mem_cons, true_or, or_true]
      g15 := by rw [← hgg]; simp -implicitDefEqProofs only [upd_go, kept_go, ↓reduceIte, Nat.reduceEqDiff, Nat.reduceLT, reduceCtorEq]
      cs := ⟨done ++ l4, rest.drop 4, _, by rw [put_get, if_pos rfl], by
        rw [List.take_add_one, hd]
        exact (hr.keep fun b cs hb hc => ⟨kc _ b cs ((x1.cells (h.wf.cells hc)).trans hc) hb.2, hb⟩).snoc hl4 hone (hL1.keep fun b cs hb hc => ⟨kc _ b cs hc (by omega), by omega, by omega⟩), by rw [List.length_drop, hrl]; omega⟩
      hbo := h.hbo
      lay := h.lay.keep fun b cs hb hc => ⟨kc _ b cs ((x1.cells (h.wf.cells hc)).trans hc) (by have := h.low b hb; omega), hb⟩
      low := h.low
      wf := hw1.put _ _ _ (by omega)
      ext := (h.ext.trans x1).put _ _ _ (by omega)
      le := hi }
theorem each_step (m : Nat) (ds : List D) (hC : ∀ d ∈ ds, CopyAt m d) (hfew : ds.length < 1000000) (q : Option Addr) (c : Nat) (R : Nat → Prop) (σ : FState) (hw : Wf σ) (hE : LaidRE R σ q 0 ds) :
    Gives ((env (m + 1)).call 139 [.slice q ds.length c, .func (.func 104) #[] #[]] none σ) σ fun w σ' => ∃ q' c', w = .slice q' ds.length c' ∧ LaidRE (fun b => σ.next ≤ b) σ' q' 0 ds := by
  rw [env_call _ 139 _ _ rfl, enter139 _ _ _ _ (by simp), Sl_start]
  unfold run139
  cases hz : (Int.ofNat ds.length == (0 : Int)) with
  | true =>
    have h0 : ds = [] := by
      have := Int.ofNat.inj (eq_of_beq hz)
      exact List.length_eq_zero_iff.1 this
    subst h0
    simp -implicitDefEqProofs only [go_sem, ↓reduceIte, Nat.reduceLT, Nat.reduceEqDiff, Nat.reduceAdd, Nat.reduceMul, Nat.reduceLeDiff, Nat.reduceSub, r139_0_go, r139_0U, r139_1_go, r139_1U, r139_2_go, r139_2U, Option.getD_some, hz]
    exact ⟨_, _, rfl, Ext.refl _, hw, none, 0, rfl, trivial⟩
  | false =>
    have hmk := fun σ => makeSlice_go 24 56 [.int .i64 0, .int .i64 0, .string ⟨#[]⟩, .slice none 0 0] ds.length σ (by omega)
    simp -implicitDefEqProofs only [go_sem, ↓reduceIte, Nat.reduceLT, Nat.reduceEqDiff, Nat.reduceAdd, Nat.reduceMul, Nat.reduceLeDiff, Nat.reduceSub, r139_0_go, r139_0U, r139_1_go, r139_1U, r139_3_go, r139_3U, r139_4_go, r139_4U, Option.getD_some, hz, hmk, keepEach]
    generalize hff : upd _ 5 _ = f1
    generalize hgg : upd _ 15 _ = g1
    generalize hbf : bigFuel = fuel
    obtain ⟨f2, g2, σ2, e2, h2⟩ := each_loop m (bo := σ.next) (base := σ.next) (R := fun b => R b ∧ b < σ.next) (q := q) (c := c) (σ0 := σ) hC rfl hfew ds.length fuel 0 f1 g1 (σ.push (.cells (reps ds.length [.int .i64 0, .int .i64 0, .string ⟨#[]⟩, .slice none 0 0]) TD) none) (by omega) (by rw [← hbf]; show ds.length < 1000000000000; omega) {
      f0 := by rw [← hff]; simp -implicitDefEqProofs only [upd_go, kept_go, ↓reduceIte, Nat.reduceEqDiff, Nat.reduceLT, reduceCtorEq, List.getElem?_cons_zero, List.getElem?_cons_succ, Option.getD_some]
      f1 := by rw [← hff]; simp -implicitDefEqProofs only [upd_go, kept_go, ↓reduceIte, Nat.reduceEqDiff, Nat.reduceLT, reduceCtorEq, List.getElem?_cons_zero, List.getElem?_cons_succ, Option.getD_some]
      f5 := by rw [← hff]; simp -implicitDefEqProofs only [upd_go, kept_go, ↓reduceIte, Nat.reduceEqDiff, Nat.reduceLT, reduceCtorEq]
      g14 := by rw [← hgg]; simp -implicitDefEqProofs only [upd_go, kept_go, ↓reduceIte, Nat.reduceEqDiff, Nat.reduceLT, reduceCtorEq]
      g15 := by rw [← hgg]; simp -implicitDefEqProofs only [upd_go, kept_go, ↓reduceIte, Nat.reduceEqDiff, Nat.reduceLT, reduceCtorEq] <;> rfl
      cs := ⟨[], reps ds.length [.int .i64 0, .int .i64 0, .string ⟨#[]⟩, .slice none 0 0], σ.clock, by rw [push_get, if_pos rfl]; rfl, Row.nil _ _, by rw [reps_length]; rfl⟩
      hbo := Nat.le_refl _
      lay := hE.keep fun b cs hb hc => ⟨by rw [cells_push, if_neg (by have := hw.cells hc; omega)]; exact hc, hb, hw.cells hc⟩
      low := fun b hb => hb.2
      wf := hw.push _ _
      ext := (Ext.refl _).push _ _
      le := Nat.zero_le _ }
    rw [e2]
    simp -implicitDefEqProofs only [go_sem, ↓reduceIte, Nat.reduceLT, Nat.reduceEqDiff, Nat.reduceAdd, Nat.reduceMul, Nat.reduceLeDiff, Nat.reduceSub, r139_9_go, r139_9U, h2.f5]
    obtain ⟨done, rest, ver, hg, hr, hrl⟩ := h2.cs
    rw [List.take_length] at hr
    have hrest : rest = [] := List.length_eq_zero_iff.1 (by rw [hrl]; omega)
    subst hrest
    rw [List.append_nil] at hg
    exact ⟨_, _, rfl, h2.ext, h2.wf, _, _, rfl, hr.elems (cells_of_get hg) (Nat.le_refl _) (fun c hc => hc.1) 0 ds fun j e he => by rwa [Nat.zero_add]⟩
theorem copy_step (m : Nat) (k z : Int) (t : ByteArray) (ds : List D) (hC : ∀ d ∈ ds, CopyAt m d) (hfew : ds.length < 1000000) : CopyAt (m + 2) (.mk k z t ds) := by
  intro lv R σ hw hL
  obtain ⟨q, c, hv, hE⟩ := hL
  have hlv : lv = [.int .i64 k, .int .i64 z, .string t, .slice q ds.length c] := by
    have := Value.agg.inj hv
    simpa using congrArg Array.toList this
  subst hlv
  rw [env_call _ 104 _ _ rfl, enter104 _ _ _ _ (by simp), Sl_start]
  unfold run104
  have x1 : Ext σ ((σ.push (.cells [.int .i64 k, .int .i64 z, .string t, .slice q ds.length c] TD) none).push (.cells [.int .i64 0, .int .i64 0, .string ⟨#[]⟩, .slice none 0 0] TD) none) := ((Ext.refl _).push _ _).push _ _
  have hw1 := (hw.push (.cells [.int .i64 k, .int .i64 z, .string t, .slice q ds.length c] TD) none).push (.cells [.int .i64 0, .int .i64 0, .string ⟨#[]⟩, .slice none 0 0] TD) none
  have c1 : ((σ.push (.cells [.int .i64 k, .int .i64 z, .string t, .slice q ds.length c] TD) none).push (.cells [.int .i64 0, .int .i64 0, .string ⟨#[]⟩, .slice none 0 0] TD) none).cells σ.next = some [.int .i64 k, .int .i64 z, .string t, .slice q ds.length c] := by rw [cells_push, if_neg (by rw [push_next]; omega), cells_push, if_pos rfl]; rfl
  have g2 : ((σ.push (.cells [.int .i64 k, .int .i64 z, .string t, .slice q ds.length c] TD) none).push (.cells [.int .i64 0, .int .i64 0, .string ⟨#[]⟩, .slice none 0 0] TD) none).heap.get (σ.next + 1) = some ⟨.cells [.int .i64 0, .int .i64 0, .string ⟨#[]⟩, .slice none 0 0] TD, false, none, σ.clock + 1⟩ := by rw [push_get, if_pos (by rw [push_next])]; rfl
  have kc : ((σ.push (.cells [.int .i64 k, .int .i64 z, .string t, .slice q ds.length c] TD) none).push (.cells [.int .i64 0, .int .i64 0, .string ⟨#[]⟩, .slice none 0 0] TD) none).clock = σ.clock + 2 := rfl
  have kn : ((σ.push (.cells [.int .i64 k, .int .i64 z, .string t, .slice q ds.length c] TD) none).push (.cells [.int .i64 0, .int .i64 0, .string ⟨#[]⟩, .slice none 0 0] TD) none).next = σ.next + 2 := rfl
  simp -implicitDefEqProofs only [go_sem, ↓reduceIte, Nat.reduceLT, Nat.reduceEqDiff, Nat.reduceAdd, Nat.reduceMul, Nat.reduceLeDiff, Nat.reduceSub, r104_0_go, r104_0U, Option.getD_some]
  generalize FState.push (FState.push σ _ _) _ _ = σ1 at x1 hw1 c1 g2 kc kn ⊢
  have hv1 := view_wf hw1 (lam := σ.clock + 2) (by omega)
  obtain ⟨_, σ2, e2, x2, hw2, q', c', rfl, hE'⟩ := each_step m ds hC hfew q c R σ1 hw1 (hE.keep fun b cs hb hc => ⟨(x1.cells (hw.cells hc)).trans hc, hb⟩)
  have c2 : (view σ2 (σ.clock + 2)).cells σ.next = some [.int .i64 k, .int .i64 z, .string t, .slice q ds.length c] := view_old hw1 (by omega) (x2.get _ (hw1.cells c1)) c1
  have g2' := (x2.get _ (hw1 _ _ g2).1).trans g2
  simp -implicitDefEqProofs only [go_sem, ↓reduceIte, Nat.reduceLT, Nat.reduceEqDiff, Nat.reduceAdd, Nat.reduceMul, Nat.reduceLeDiff, Nat.reduceSub, fstoreN, r104_1_go, r104_1U, hv1, c1, e2, c2, g2', fleave_nil, fresults_nil, fresults_cons, fresult_cell, aggDatum]
  have n2 := x2.next
  exact ⟨_, _, rfl, (x1.trans x2).put _ _ _ (by omega), hw2.put _ _ _ (by omega), q', c', rfl, hE'.keep fun b cs hb hc => ⟨by rw [cells_put, if_neg (by omega)]; exact hc, by omega⟩⟩
theorem copy_go (n : Nat) : ∀ (N : Nat) (d : D), D.deep d ≤ N → d.count < 1000000 → CopyAt (n + 2 * N) d
  | 0, d, h, _ => by cases d; rw [D.deep] at h; omega
  | N + 1, .mk k z t ds, h, hc => by
    rw [D.deep] at h
    rw [D.count] at hc
    have := length_counts ds
    exact copy_step (n + 2 * N) k z t ds (fun d hd => copy_go n N d (by have := deeps_mem hd; omega) (by have := count_mem hd; omega)) (by omega)
end Go.Proofs.YtokieofohmgjdaaGreatDoor
/- datum.At. -/
namespace Go.Proofs.YtokieofohmgjdaaGreatDoor
open Go Go.Eng
attribute [local congr] andThen_congr fops_congr fdraw_congr afterOp_congr drawF_congr
attribute [-go_sem] List.range_succ
theorem keepPlace : keepOf nls 109 = [7, 8, 9, 32] := by kernel_rfl
theorem field3 {cs : List Value} {off : Nat} {a b c e : Value} (h : (cs.drop off).take 4 = [a, b, c, e]) : cs[off + 3]? = some e := by
  have : ((cs.drop off).take 4)[3]? = some e := by rw [h]; rfl
  rw [List.getElem?_take, if_pos (by omega), List.getElem?_drop] at this
  exact this
structure HeadPl (a : Option Addr) (plen cx i b off : Nat) (f g : Nat → Value) : Prop where
  f0 : f 0 = .pointer (some ⟨b, off, none⟩)
  g7 : g 7 = .slice a plen cx
  g8 : g 8 = .int .i64 (.ofNat plen)
  g9 : g 9 = .int .i64 (.ofNat i)
theorem place_loop (E : Env) {a : Option Addr} {cx : Nat} {path : List Nat} {R : Nat → Prop} {σ : FState} (hs : path.length < 100000) (x : D) (hp : path ≠ [] → ∃ b rest, a = some ⟨b, 0, none⟩ ∧ σ.cells b = some (intsOf path ++ rest)) :
    ∀ (j fuel i : Nat) (f g : Nat → Value) (d : D) (b off : Nat) (cs : List Value), i + j = path.length → j < fuel → atP (path.drop i) d = some x → d.count < 100000 → σ.cells b = some cs → 4 ≤ cs.length - off → LaidR R σ (.agg ((cs.drop off).take 4).toArray) d → HeadPl a path.length cx i b off f g →
    ∃ f' g' b off cs, floop [7, 8, 9, 32] (l109_0 E none 109) fuel (Sl 7 33 f g []) none σ = .done (.exit 0) (Sl 7 33 f' g' []) none σ ∧ f' 0 = .pointer (some ⟨b, off, none⟩) ∧ σ.cells b = some cs ∧ 4 ≤ cs.length - off ∧ LaidR R σ (.agg ((cs.drop off).take 4).toArray) x := by
  intro j
  induction j with
  | zero =>
    intro fuel i f g d b off cs hij hf hx _ hc hle hL h
    obtain ⟨fuel, rfl⟩ : ∃ q, fuel = q + 1 := ⟨fuel - 1, by omega⟩
    obtain rfl : i = path.length := by omega
    rw [List.drop_length, atP] at hx
    obtain rfl := Option.some.inj hx
    have d1 : decide (Int.ofNat path.length < Int.ofNat path.length) = false := by simp
    rw [floop_step, Sl_forget]
    unfold l109_0
    simp -implicitDefEqProofs only [go_sem, ↓reduceIte, Nat.reduceLT, Nat.reduceEqDiff, Nat.reduceAdd, Nat.reduceMul, Nat.reduceLeDiff, Nat.reduceSub, r109_2_go, r109_2U, h.g8, h.g9, d1, List.mem_cons]
    exact ⟨_, _, b, off, cs, rfl, h.f0, hc, hle, hL⟩
  | succ j ih =>
    intro fuel i f g d b off cs hij hf hx hN hc hle hL h
    obtain ⟨fuel, rfl⟩ : ∃ q, fuel = q + 1 := ⟨fuel - 1, by omega⟩
    have hi : i < path.length := by omega
    have d1 : decide (Int.ofNat i < Int.ofNat path.length) = true := by simp; omega
    obtain ⟨bp, rest, rfl, hcp⟩ := hp (fun h => by rw [h] at hi; simp at hi)
    have g1 := intsOf_get rest hi
    have w3 := add1 i (by omega)
    have hdr : path.drop i = path[i] :: path.drop (i + 1) := List.drop_eq_getElem_cons hi
    obtain ⟨k, z, t, ds⟩ := d
    obtain ⟨q, c, hv, hE⟩ := hL
    have hv' : (cs.drop off).take 4 = [.int .i64 k, .int .i64 z, .string t, .slice q ds.length c] := by
      have := Value.agg.inj hv
      simpa using congrArg Array.toList this
    have hf3 := field3 hv'
    rw [hdr, atP] at hx
    simp only [D.parts] at hx
    cases hd : ds[path[i]]? with
    | none => rw [hd] at hx; cases hx
    | some d' =>
      rw [hd] at hx
      simp only at hx
      have hpi := (List.getElem?_eq_some_iff.1 hd).1
      obtain ⟨b', off', cs', rfl, hRb, hcs', hle', hL'⟩ := LaidRE.get hE hd
      rw [Nat.zero_add] at hle' hL'
      have e0 : decide (Int.ofNat path[i] < 0) = false := by simp
      have e1 : decide (Int.ofNat path[i] ≥ Int.ofNat ds.length) = false := by simp; omega
      rw [floop_step, Sl_forget]
      unfold l109_0
      simp -implicitDefEqProofs only [go_sem, ↓reduceIte, Nat.reduceLT, Nat.reduceEqDiff, Nat.reduceAdd, Nat.reduceMul, Nat.reduceLeDiff, Nat.reduceSub, r109_2_go, r109_2U, r109_3_go, r109_3U, r109_4_go, r109_4U, r109_6_go, r109_6U, r109_7_go, r109_7U, h.f0, h.g7, h.g8, h.g9, d1, hi, hcp, g1, hc, hf3, e0, e1, hpi, w3, List.mem_cons]
      generalize hff : upd _ 0 _ = f1
      generalize hgg : upd _ 9 _ = gg
      exact ih fuel (i + 1) f1 gg d' b' (off' + path[i] * 4) cs' (by omega) (by omega) hx (by have := count_mem (List.mem_of_getElem? hd); rw [D.count] at hN; omega) hcs' (by omega) hL' {
        f0 := by rw [← hff]; simp -implicitDefEqProofs only [upd_go, kept_go, ↓reduceIte, Nat.reduceEqDiff, Nat.reduceLT, reduceCtorEq]
        g7 := by rw [← hgg]; simp -implicitDefEqProofs only [upd_go, kept_go, ↓reduceIte, Nat.reduceEqDiff, Nat.reduceLT, reduceCtorEq, h.g7, List.mem_cons, true_or, or_true]
        g8 := by rw [← hgg]; simp -implicitDefEqProofs only [upd_go, kept_go, ↓reduceIte, Nat.reduceEqDiff, Nat.reduceLT, reduceCtorEq, h.g8, List.mem_cons, true_or, or_true]
        g9 := by rw [← hgg]; simp -implicitDefEqProofs only [upd_go, kept_go, ↓reduceIte, Nat.reduceEqDiff, Nat.reduceLT, reduceCtorEq] }
theorem place_go (n : Nat) {path : List Nat} {pv : Value} {R Q : Nat → Prop} {σ : FState} (hs : path.length < 100000) {d x : D} (hP : PathV Q σ pv path) {b off : Nat} {cs : List Value} (hx : atP path d = some x) (hN : d.count < 100000) (hc : σ.cells b = some cs) (hle : 4 ≤ cs.length - off) (hL : LaidR R σ (.agg ((cs.drop off).take 4).toArray) d) :
    ∃ b' off' cs', (env (n + 1)).call 109 [.pointer (some ⟨b, off, none⟩), pv] none σ = .ret (.pointer (some ⟨b', off', none⟩)) none σ ∧ σ.cells b' = some cs' ∧ 4 ≤ cs'.length - off' ∧ LaidR R σ (.agg ((cs'.drop off').take 4).toArray) x := by
  obtain ⟨a, cx, rfl, k1⟩ := pathV_slice hP
  rw [env_call _ 109 _ _ rfl, enter109 _ _ _ _ (by simp), Sl_start]
  unfold run109
  simp -implicitDefEqProofs only [go_sem, ↓reduceIte, Nat.reduceLT, Nat.reduceEqDiff, Nat.reduceAdd, Nat.reduceMul, Nat.reduceLeDiff, Nat.reduceSub, r109_0_go, r109_0U, r109_1_go, r109_1U, Option.getD_some, keepPlace]
  generalize hff : upd _ 4 _ = f1
  generalize hgg : upd _ 9 _ = g1
  generalize hbf : bigFuel = fuel
  obtain ⟨f2, g2, b', off', cs', e2, h1, h2, h3, h4⟩ := place_loop (env n) (a := a) (cx := cx) (σ := σ) hs x (fun h => by obtain ⟨b, r, x, _, y⟩ := k1 h; exact ⟨b, r, x, y⟩) path.length fuel 0 f1 g1 d b off cs (by omega) (by rw [← hbf]; show path.length < 1000000000000; omega) hx hN hc hle hL {
    f0 := by rw [← hff]; simp -implicitDefEqProofs only [upd_go, kept_go, ↓reduceIte, Nat.reduceEqDiff, Nat.reduceLT, reduceCtorEq, List.getElem?_cons_zero, List.getElem?_cons_succ, Option.getD_some]
    g7 := by rw [← hgg]; simp -implicitDefEqProofs only [upd_go, kept_go, ↓reduceIte, Nat.reduceEqDiff, Nat.reduceLT, reduceCtorEq]
    g8 := by rw [← hgg]; simp -implicitDefEqProofs only [upd_go, kept_go, ↓reduceIte, Nat.reduceEqDiff, Nat.reduceLT, reduceCtorEq]
    g9 := by rw [← hgg]; simp -implicitDefEqProofs only [upd_go, kept_go, ↓reduceIte, Nat.reduceEqDiff, Nat.reduceLT, reduceCtorEq] <;> rfl }
  rw [e2]
  simp -implicitDefEqProofs only [go_sem, ↓reduceIte, Nat.reduceLT, Nat.reduceEqDiff, Nat.reduceAdd, Nat.reduceMul, Nat.reduceLeDiff, Nat.reduceSub, r109_8_go, r109_8U, h1]
  exact ⟨_, _, _, rfl, h2, h3, h4⟩
theorem at1 (M n : Nat) (hM : M = n + 14) (bd bp : Nat) (L : Nat) (hL6 : L ≤ 6) (d x : D) (hF : Fine M L d) (lv : List Value) (h4 : lv.length = 4) (R Q : Nat → Prop) (path : List Nat) (pv : Value) (hs : path.length < 100000) (hx : atP path d = some x) (hxd : x.deep ≤ 7) (hxc : x.count < 100000) (σ : FState) (hw : Wf σ) (hb1 : σ.cells bd = some lv) (hb2 : σ.cells bp = some [pv]) (hL : LaidR R σ (.agg lv.toArray) d) (hP : PathV Q σ pv path) (hR : ∀ b, R b → b < σ.next) :
    Gives ((env (M + 6)).call 108 [.pointer (some ⟨bd, 0, none⟩), .pointer (some ⟨bp, 0, none⟩)] none σ) σ fun v σ' => LaidR (fun b => σ.next ≤ b) σ' v x := by
  have hf := hF.few hL6
  rw [env_call _ 108 _ _ rfl, enter108 _ _ _ _ (by simp), Sl_start]
  unfold run108
  have x0 : Ext σ (σ.push (.cells [.int .i64 0, .int .i64 0, .string ⟨#[]⟩, .slice none 0 0] TD) none) := (Ext.refl _).push _ _
  have hw0 := hw.push (.cells [.int .i64 0, .int .i64 0, .string ⟨#[]⟩, .slice none 0 0] TD) none
  have ne1 : (bd = σ.next) = False := by have := hw.cells hb1; simp; omega
  have ne2 : (bp = σ.next) = False := by have := hw.cells hb2; simp; omega
  obtain ⟨_, σ1, e1, x1, hw1, rfl⟩ := valid_go M d lv h4 R _ hw0 (hL.keep fun b cs hb hc => ⟨(x0.cells (hw.cells hc)).trans hc, hb⟩) (fun b hb => by have := hR b hb; rw [push_next]; omega) (hF.small hL6) (by omega) hF.good
  have x01 := x0.trans x1
  have c1 := (x01.cells (hw.cells hb1)).trans hb1
  have c2 := (x01.cells (hw.cells hb2)).trans hb2
  have ht : lv.take 4 = lv := List.take_of_length_le (by omega)
  have hL1 : LaidR R σ1 (.agg ((lv.drop 0).take 4).toArray) d := by
    rw [List.drop_zero, ht]
    exact hL.keep fun b cs hb hc => ⟨(x01.cells (hw.cells hc)).trans hc, hb⟩
  obtain ⟨b', off', cs', e2, hc', hle', hL'⟩ := place_go (M + 4) (Q := fun _ => True) (σ := σ1) hs (hP.keep fun b cs _ hc => ⟨(x01.cells (hw.cells hc)).trans hc, trivial⟩) hx (by rw [← pieces_length d []]; omega) c1 (by omega) hL1
  have hcp := copy_go (n + 5) 7 x hxd (by omega)
  rw [show n + 5 + 2 * 7 = M + 5 by omega] at hcp
  obtain ⟨_, σ2, e3, x2, hw2, hq⟩ := hcp ((cs'.drop off').take 4) R σ1 hw1 hL'
  obtain ⟨k, z, t, ds⟩ := x
  obtain ⟨q, c, rfl, hE⟩ := hq
  have g0 : σ2.heap.get σ.next = _ := ((x1.trans x2).get σ.next (Nat.lt_succ_self _)).trans (by rw [push_get, if_pos rfl])
  have m0 := (hw2 _ _ g0).1
  simp -implicitDefEqProofs only [go_sem, ↓reduceIte, Nat.reduceLT, Nat.reduceEqDiff, Nat.reduceAdd, Nat.reduceMul, Nat.reduceLeDiff, Nat.reduceSub, fstoreN, r108_0_go, r108_0U, r108_1_go, r108_1U, r108_2_go, r108_2U, Option.getD_some, hb1, hb2, ne1, ne2, c1, c2, h4, ht, e1, e2, e3, hc', hle', g0, aggDatum, fleave_nil, fresults_nil, fresults_cons, fresult_cell, Nat.le_refl]
  have n1 := x1.next
  rw [push_next] at n1
  exact ⟨_, _, rfl, (x01.trans x2).put _ _ _ (Nat.le_refl _), hw2.put _ _ _ m0, q, c, rfl, hE.keep fun b cs hb hc => ⟨by rw [cells_put, if_neg (by omega)]; exact hc, by omega⟩⟩
end Go.Proofs.YtokieofohmgjdaaGreatDoor
/- Lists as data. -/
namespace Go.Proofs.YtokieofohmgjdaaGreatDoor
open Go Go.Eng
def nilD : D := .mk 0 0 ⟨#[]⟩ []
def pairD (a b : D) : D := .mk 5 0 ⟨#[]⟩ [a, b]
def listD (t : D) : List D → D
  | [] => t
  | d :: ds => pairD d (listD t ds)
theorem counts_append : ∀ a b : List D, D.counts (a ++ b) = D.counts a + D.counts b
  | [], b => by simp [D.counts]
  | d :: a, b => by rw [List.cons_append, D.counts, D.counts, counts_append a b]; omega
/-- What is so of all pieces of a datum, whatever the path to it. -/
def Sane (m : Nat) (d : D) : Prop := ∀ path, ∀ x ∈ d.pieces path, x.2.parts.length ≤ 900 ∧ GoodD m x.2
theorem Fine.sane {m L : Nat} {d : D} (h : Fine m L d) : Sane m d := fun path x hx => by
  have h' := ((h path).2 x hx).2
  exact ⟨by omega, h'.2⟩
theorem Sane.good {m : Nat} {d : D} (h : Sane m d) : AllGood m (d.pieces []) := fun path k z t ds hx => (h [] _ hx).2 k z t ds rfl
theorem pieces_near (d : D) (hd : d.deep < 1000) : ∀ y ∈ d.pieces [], y.1.length < 1000 := fun y hy => by
  have h1 := longest_pieces d []
  have h2 : y.1.length + 1 ≤ longest (d.pieces []) := by
    obtain ⟨a, b, h⟩ := List.append_of_mem hy
    rw [h, longest_append, longest_cons]
    omega
  simp at h1
  omega
theorem Sane.small {m : Nat} {d : D} (h : Sane m d) (hd : d.deep < 1000) : Small (d.pieces []) := fun x hx => ⟨by have := pieces_near d hd x hx; omega, by have := (h [] x hx).1; omega⟩
theorem validS_go (M : Nat) (d : D) (h : Sane M d) (hc : d.count ≤ 2000) (hd : d.deep < 1000) (lv : List Value) (h4 : lv.length = 4) (R : Nat → Prop) (σ : FState) (hw : Wf σ) (hL : LaidR R σ (.agg lv.toArray) d) (hR : ∀ b, R b → b < σ.next) :
    Gives ((env (M + 5)).call 71 [.agg lv.toArray] none σ) σ fun w _ => w = .int .i64 (.ofNat d.count) := by
  have := valid_go M d lv h4 R σ hw hL hR (h.small hd) (by rw [pieces_length]; exact hc) h.good
  rwa [pieces_length] at this
end Go.Proofs.YtokieofohmgjdaaGreatDoor
/- A vector of data that is being made, of elements that lie elsewhere. -/
namespace Go.Proofs.YtokieofohmgjdaaGreatDoor
open Go Go.Eng
/-- A vector that is being made: its block satisfies Q, its elements lie in R. -/
def VecG (Q R : Nat → Prop) (σ : FState) (s : Value) (ds : List D) : Prop :=
  (ds = [] ∧ s = .slice none 0 0) ∨ (∃ b cs ver, s = .slice (some ⟨b, 0, none⟩) ds.length ds.length ∧ σ.heap.get b = some ⟨.cells cs TD, false, some 4, ver⟩ ∧ Q b ∧ Row R σ cs ds)
theorem VecG.slice {Q R : Nat → Prop} {σ : FState} {s : Value} {ds : List D} (h : VecG Q R σ s ds) : ∃ p, s = .slice p ds.length ds.length ∧ LaidRE (fun b => Q b ∨ R b) σ p 0 ds := by
  rcases h with ⟨rfl, rfl⟩ | ⟨b, cs, ver, rfl, hb, hq, hr⟩
  · exact ⟨none, rfl, trivial⟩
  · exact ⟨_, rfl, hr.elems (cells_of_get hb) (.inl hq) (fun c hc => .inr hc) 0 ds fun j e he => by rwa [Nat.zero_add]⟩
theorem VecG.one {Q R : Nat → Prop} {σ : FState} {s : Value} {ds : List D} (h : VecG Q R σ s ds) : oneCell s = true ∧ notTuple s = true ∧ valCells s = [s] := by
  rcases h with ⟨rfl, rfl⟩ | ⟨b, cs, ver, rfl, hb, hq, hr⟩ <;> exact ⟨rfl, rfl, rfl⟩
theorem VecG.keep {Q Q' R R' : Nat → Prop} {σ σ' : FState} {s : Value} {ds : List D} (h : VecG Q R σ s ds) (hq : ∀ b e, Q b → σ.heap.get b = some e → σ'.heap.get b = some e ∧ Q' b) (hr : ∀ b cs, R b → σ.cells b = some cs → σ'.cells b = some cs ∧ R' b) : VecG Q' R' σ' s ds := by
  rcases h with h | ⟨b, cs, ver, rfl, hb, hQ, hR⟩
  · exact .inl h
  · exact .inr ⟨b, cs, ver, rfl, (hq b _ hQ hb).1, (hq b _ hQ hb).2, hR.keep hr⟩
/-- append of one element each. -/
theorem Row.append {R : Nat → Prop} {σ : FState} {cs cs' : List Value} {ds ds' : List D} (h : Row R σ cs ds) (h' : Row R σ cs' ds') : Row R σ (cs ++ cs') (ds ++ ds') := by
  refine ⟨by rw [List.length_append, List.length_append, h.1, h'.1]; omega, by rw [List.all_append, h.2.1, h'.2.1]; rfl, fun i d hd => ?_⟩
  by_cases hi : i < ds.length
  · rw [List.getElem?_append_left hi] at hd
    have := h.2.2 i d hd
    rw [List.drop_append_of_le_length (by rw [h.1]; omega), List.take_append_of_le_length (by rw [List.length_drop, h.1]; omega)]
    exact this
  · rw [List.getElem?_append_right (by omega)] at hd
    have := h'.2.2 (i - ds.length) d hd
    have e : i * 4 = cs.length + (i - ds.length) * 4 := by rw [h.1]; omega
    rw [e, ← List.drop_drop, List.drop_left]
    exact this
end Go.Proofs.YtokieofohmgjdaaGreatDoor
/- A vector of data whose last element is written over; two stores that may come either way. -/
namespace Go.Eng
open Go
section
variable (E : Env) (ro : Option Nat) (a : FAct) (u : Option FrameMode) (σ : FState) (cl : List Nat)
end
end Go.Eng
namespace Go.Proofs.YtokieofohmgjdaaGreatDoor
open Go Go.Eng
end Go.Proofs.YtokieofohmgjdaaGreatDoor
/- Functions of the program, written out in the reading's words (made by program; the kernel holds each against the code). -/
namespace Go.Proofs.YtokieofohmgjdaaGreatDoor
open Go Go.Eng
variable (E : Env) (ro : Option Nat) (last : List Nat → RunF) (cl : List Nat) (a : FAct) (u : Option FrameMode) (σ : FState)
/-! caracole/guard.Fail -/
noncomputable def r136_0U (_ : Unit) : List COp := [⟨fun a σ => .val (a.get 0) σ, (some 2), fun _ => some true⟩,
  ⟨fun a σ => .enter 162 [(a.get 2), (.int .i64 0)] σ, (some 3), fun _ => some true⟩]
noncomputable def r136_0 : List COp := r136_0U ()
noncomputable def run136 (E : Env) (ro : Option Nat) (fn : FuncId) : RunF := (fops E ro r136_0)
theorem r136_0_go : fops E ro r136_0 a u σ = fops E ro (r136_0U ()) a u σ := rfl
theorem code136 (E : Env) (ro : Option Nat) (fn : FuncId) : code Tryz.prog nls (Tryz.f136.body.getD .skip) E ro fn = run136 E ro fn := by kernel_rfl
theorem enter136 (E : Env) (args : List Value) (u : Option FrameMode) (σ : FState) (hn : args.length ≤ (2 : Nat)) : fcall Tryz.prog nls E 136 args u σ = leaveR Tryz.prog E [] (run136 E none 136 ⟨padTo undef 2 args, fun _ => undef, 2, 4, []⟩ u σ) := by
  rw [fcall_of (body := Tryz.f136.body.getD .skip) Tryz.func136 rfl E args u σ 2 4 (by kernel_rfl) rfl ⟨hn, by decide⟩, code136]
  rfl
/-! caracole/guard.FailAt -/
noncomputable def r162_0U (_ : Unit) : List COp := [⟨fun a σ => .val (a.get 0) σ, (some 4), fun _ => some true⟩,
  ⟨fun a σ => .val (a.get 1) σ, (some 5), fun _ => some true⟩,
  ⟨fun a σ => fbuild (fun i => nth [(0, 1), (1, 1)] i) [(.int .i64 0), (.int .i64 0)] [(0, (a.get 4)), (1, (a.get 5))] σ, (some 6), fun _ => some true⟩,
  ⟨fun a σ => .val (.iface 178 (a.get 6)) σ, (some 7), fun _ => some true⟩,
  ⟨fun a σ => fpanic (a.get 7) σ, none, fun _ => some true⟩]
noncomputable def r162_0 : List COp := r162_0U ()
noncomputable def run162 (E : Env) (ro : Option Nat) (fn : FuncId) : RunF := (fops E ro r162_0)
theorem r162_0_go : fops E ro r162_0 a u σ = fops E ro (r162_0U ()) a u σ := rfl
theorem code162 (E : Env) (ro : Option Nat) (fn : FuncId) : code Tryz.prog nls (Tryz.f162.body.getD .skip) E ro fn = run162 E ro fn := by kernel_rfl
theorem enter162 (E : Env) (args : List Value) (u : Option FrameMode) (σ : FState) (hn : args.length ≤ (4 : Nat)) : fcall Tryz.prog nls E 162 args u σ = leaveR Tryz.prog E [] (run162 E none 162 ⟨padTo undef 4 args, fun _ => undef, 4, 8, []⟩ u σ) := by
  rw [fcall_of (body := Tryz.f162.body.getD .skip) Tryz.func162 rfl E args u σ 4 8 (by kernel_rfl) rfl ⟨hn, by decide⟩, code162]
  rfl
/-! caracole/guard.failureOf -/
/-! caracole/guard.CallAt[[]int] -/
/-! caracole/guard.CallAt[[]int]$1 -/
/-! caracole/guard.Call[[]int] -/
/-! caracole/datum.Differ -/
/-! caracole/datum.Differ$1 -/
/-! caracole/datum.difference -/
noncomputable def c92_0a : Code := ((rangesOf (Tryz.f92.body.getD .skip)).getD 0 (.skip, .skip)).1
noncomputable def c92_0b : Code := ((rangesOf (Tryz.f92.body.getD .skip)).getD 0 (.skip, .skip)).2
noncomputable def c92_1a : Code := ((rangesOf (Tryz.f92.body.getD .skip)).getD 1 (.skip, .skip)).1
noncomputable def c92_1b : Code := ((rangesOf (Tryz.f92.body.getD .skip)).getD 1 (.skip, .skip)).2
noncomputable def r92_13U (_ : Unit) : List COp := [⟨fun a σ => fload none (a.get 8) σ, (some 37), fun _ => some true⟩,
  ⟨fun a σ => fload none (a.get 5) σ, (some 38), fun _ => some true⟩,
  ⟨fun a σ => flenL (a.get 38) σ, (some 39), fun _ => some true⟩,
  ⟨fun a σ => i_eql Tryz.prog 3 (.tmp 37) (.tmp 39) (a.get 37) (a.get 39) σ, (some 40), fun _ => some true⟩]
noncomputable def r92_13 : List COp := r92_13U ()
noncomputable def r92_14U (_ : Unit) : List COp := [⟨fun a σ => .enter 136 [(.int .i64 10)] σ, (some 41), fun _ => some true⟩]
noncomputable def r92_14 : List COp := r92_14U ()
noncomputable def r92_15U (_ : Unit) : List COp := [⟨fun a σ => fload none (a.get 9) σ, (some 42), fun _ => some true⟩,
  ⟨fun a σ => .val (a.get 42) σ, (some 4), fun _ => some true⟩]
noncomputable def r92_15 : List COp := r92_15U ()
noncomputable def x92_0 : Code := (scopesOf (Tryz.f92.body.getD .skip)).getD 0 .skip
noncomputable def find92_0 (E : Env) (ro : Option Nat) (fn : FuncId) : Nat → Option (Bx RunF) := fun l => match findLabel x92_0 l with | some rest => some ⟨(ccode Tryz.prog nls 998 rest).un E ro fn⟩ | none => none
end Go.Proofs.YtokieofohmgjdaaGreatDoor
/- Parts at paths; what is found, in order. -/
namespace Go.Proofs.YtokieofohmgjdaaGreatDoor
open Go Go.Eng
mutual
theorem same_comm : ∀ (a b : D), D.same a b = D.same b a
  | .mk k n t ds, .mk k' n' t' ds' => by
    rw [show D.same (.mk k n t ds) (.mk k' n' t' ds') = (decide (k = k') && decide (n = n') && (t.toList == t'.toList) && D.sames ds ds') from rfl, show D.same (.mk k' n' t' ds') (.mk k n t ds) = (decide (k' = k) && decide (n' = n) && (t'.toList == t.toList) && D.sames ds' ds) from rfl, sames_comm ds ds']
    rw [show decide (k = k') = decide (k' = k) by simp [eq_comm], show decide (n = n') = decide (n' = n) by simp [eq_comm], show (t.toList == t'.toList) = (t'.toList == t.toList) from BEq.comm]
theorem sames_comm : ∀ (a b : List D), D.sames a b = D.sames b a
  | [], [] => rfl
  | [], _ :: _ => rfl
  | _ :: _, [] => rfl
  | a :: l, b :: r => by
    rw [show D.sames (a :: l) (b :: r) = (D.same a b && D.sames l r) from rfl, show D.sames (b :: r) (a :: l) = (D.same b a && D.sames r l) from rfl, same_comm a b, sames_comm l r]
end
mutual
theorem pieces_at : ∀ (d : D) (p : List Nat) (y : List Nat × D), y ∈ d.pieces p → ∃ r, y.1 = p ++ r ∧ atP r d = some y.2
  | .mk k z t ds, p, y, h => by
    rw [D.pieces] at h
    rcases List.mem_cons.1 h with rfl | h
    · exact ⟨[], by simp, rfl⟩
    · obtain ⟨j, r, d', h1, h2, h3⟩ := piecesL_at ds p 0 y h
      refine ⟨(0 + j) :: r, h1, ?_⟩
      rw [atP]
      simp only [D.parts]
      rw [Nat.zero_add, h2]
      exact h3
theorem piecesL_at : ∀ (ds : List D) (p : List Nat) (i : Nat) (y : List Nat × D), y ∈ D.piecesL p i ds → ∃ j r d', y.1 = p ++ (i + j) :: r ∧ ds[j]? = some d' ∧ atP r d' = some y.2
  | [], p, i, y, h => by simp [D.piecesL] at h
  | d :: ds, p, i, y, h => by
    rw [D.piecesL, List.mem_append] at h
    rcases h with h | h
    · obtain ⟨r, h1, h2⟩ := pieces_at d _ y h
      exact ⟨0, r, d, by rw [h1]; simp, rfl, h2⟩
    · obtain ⟨j, r, d', h1, h2, h3⟩ := piecesL_at ds p (i + 1) y h
      exact ⟨j + 1, r, d', by rw [h1, show i + 1 + j = i + (j + 1) by omega], by simpa using h2, h3⟩
end
theorem foundIn_append (x : D) (a b : List (List Nat × D)) : foundIn x (a ++ b) = foundIn x a ++ foundIn x b := by
  unfold foundIn
  rw [List.filter_append, List.map_append]
end Go.Proofs.YtokieofohmgjdaaGreatDoor
/- Data, one put in the place of another. -/
namespace Go.Proofs.YtokieofohmgjdaaGreatDoor
open Go Go.Eng
theorem toList_inj {a b : ByteArray} (h : a.toList = b.toList) : a = b := by
  rw [ByteArray.toList_eq, ByteArray.toList_eq] at h
  obtain ⟨⟨x⟩⟩ := a
  obtain ⟨⟨y⟩⟩ := b
  simp at h
  rw [h]
mutual
theorem same_eq : ∀ (a b : D), D.same a b = true → a = b
  | .mk k n t ds, .mk k' n' t' ds', h => by
    rw [show D.same (.mk k n t ds) (.mk k' n' t' ds') = (decide (k = k') && decide (n = n') && (t.toList == t'.toList) && D.sames ds ds') from rfl] at h
    simp only [Bool.and_eq_true, decide_eq_true_eq] at h
    obtain ⟨⟨⟨rfl, rfl⟩, h3⟩, h4⟩ := h
    rw [toList_inj (eq_of_beq h3), sames_eq ds ds' h4]
theorem sames_eq : ∀ (a b : List D), D.sames a b = true → a = b
  | [], [], _ => rfl
  | [], _ :: _, h => by cases h
  | _ :: _, [], h => by cases h
  | a :: l, b :: r, h => by
    rw [show D.sames (a :: l) (b :: r) = (D.same a b && D.sames l r) from rfl, Bool.and_eq_true] at h
    rw [same_eq a b h.1, sames_eq l r h.2]
end
mutual
theorem same_self : ∀ (a : D), D.same a a = true
  | .mk k n t ds => by
    rw [show D.same (.mk k n t ds) (.mk k n t ds) = (decide (k = k) && decide (n = n) && (t.toList == t.toList) && D.sames ds ds) from rfl, sames_self ds]
    simp
theorem sames_self : ∀ (l : List D), D.sames l l = true
  | [] => rfl
  | a :: l => by
    rw [show D.sames (a :: l) (a :: l) = (D.same a a && D.sames l l) from rfl, same_self a, sames_self l]
    rfl
end
theorem same_iff (a b : D) : D.same a b = true ↔ a = b := ⟨same_eq a b, fun h => h ▸ same_self a⟩
mutual
/-- y in the place of what equals x. -/
def repl (x y : D) : D → D
  | .mk k z t ds => if D.same (.mk k z t ds) x = true then y else .mk k z t (repls x y ds)
def repls (x y : D) : List D → List D
  | [] => []
  | d :: ds => repl x y d :: repls x y ds
end
mutual
theorem repl_self (x : D) : ∀ d, repl x x d = d
  | .mk k z t ds => by
    rw [repl]
    split
    · rename_i h; exact (same_eq _ _ h).symm
    · rw [repls_self x ds]
theorem repls_self (x : D) : ∀ ds, repls x x ds = ds
  | [] => rfl
  | d :: ds => by rw [repls, repl_self x d, repls_self x ds]
end
/-- How often x is in d. -/
def occ (x d : D) : Nat := ((d.pieces []).filter fun y => D.same y.2 x).length
mutual
def occN (x : D) : D → Nat
  | .mk k z t ds => (if D.same (.mk k z t ds) x = true then 1 else 0) + occsN x ds
def occsN (x : D) : List D → Nat
  | [] => 0
  | d :: ds => occN x d + occsN x ds
end
mutual
theorem found_len (x : D) : ∀ (d : D) (p : List Nat), (foundIn x (d.pieces p)).length = occN x d
  | .mk k z t ds, p => by
    rw [D.pieces, occN]
    have := founds_len x ds p 0
    unfold foundIn at this ⊢
    rw [List.filter_cons]
    split
    · rw [List.map_cons, List.length_cons, this]; omega
    · rw [this]; omega
theorem founds_len (x : D) : ∀ (ds : List D) (p : List Nat) (i : Nat), (foundIn x (D.piecesL p i ds)).length = occsN x ds
  | [], p, i => rfl
  | d :: ds, p, i => by rw [D.piecesL, foundIn_append, List.length_append, found_len x d _, founds_len x ds p (i + 1), occsN]
end
mutual
theorem occ_small (x : D) : ∀ d : D, d.count < x.count → occN x d = 0
  | .mk k z t ds, h => by
    rw [occN, if_neg (fun e => by rw [same_eq _ _ e] at h; omega)]
    rw [D.count] at h
    rw [occs_small x ds (by omega)]
theorem occs_small (x : D) : ∀ ds : List D, D.counts ds < x.count → occsN x ds = 0
  | [], _ => rfl
  | d :: ds, h => by
    rw [D.counts] at h
    rw [occsN, occ_small x d (by omega), occs_small x ds (by omega)]
end
mutual
/-- How many pieces there are then. -/
theorem repl_count (x y : D) : ∀ d : D, (repl x y d).count + occN x d * x.count = d.count + occN x d * y.count
  | .mk k z t ds => by
    rw [repl, occN]
    split
    · rename_i h
      have hx := same_eq _ _ h
      have hc : D.counts ds < x.count := by rw [← hx, D.count]; omega
      rw [occs_small x ds hc, ← hx]
      omega
    · rw [D.count, D.count, Nat.zero_add]
      have := repls_count x y ds
      omega
theorem repls_count (x y : D) : ∀ ds : List D, D.counts (repls x y ds) + occsN x ds * x.count = D.counts ds + occsN x ds * y.count
  | [] => by simp [repls, D.counts, occsN]
  | d :: ds => by
    rw [repls, D.counts, D.counts, occsN, Nat.add_mul, Nat.add_mul]
    have := repl_count x y d
    have := repls_count x y ds
    omega
end
mutual
theorem repl_none (x y : D) : ∀ d : D, repl x y d = d ∨ 0 < occN y (repl x y d)
  | .mk k z t ds => by
    rw [repl]
    split
    · right
      cases y with
      | mk k' z' t' ds' => rw [occN, if_pos (same_self _)]; omega
    · rcases repls_none x y ds with h | h
      · left; rw [h]
      · right; rw [occN]; omega
theorem repls_none (x y : D) : ∀ ds : List D, repls x y ds = ds ∨ 0 < occsN y (repls x y ds)
  | [] => .inl rfl
  | d :: ds => by
    rw [repls, occsN]
    rcases repl_none x y d with h | h
    · rcases repls_none x y ds with h' | h'
      · left; rw [h, h']
      · right; omega
    · right; omega
end
mutual
/-- x is gone. -/
theorem repl_gone (x y : D) (h1 : occN x y = 0) (h2 : occN y x = 0) : ∀ d : D, occN x (repl x y d) = 0
  | .mk k z t ds => by
    rw [repl]
    split
    · exact h1
    · rename_i hne
      rw [occN, repls_gone x y h1 h2 ds, Nat.add_zero]
      split
      · rename_i h
        have hx := same_eq _ _ h
        rcases repls_none x y ds with h' | h'
        · rw [h'] at hx
          exact absurd ((same_iff _ _).2 hx) hne
        · rw [← hx, occN] at h2
          omega
      · rfl
theorem repls_gone (x y : D) (h1 : occN x y = 0) (h2 : occN y x = 0) : ∀ ds : List D, occsN x (repls x y ds) = 0
  | [] => rfl
  | d :: ds => by rw [repls, occsN, repl_gone x y h1 h2 d, repls_gone x y h1 h2 ds]
end
end Go.Proofs.YtokieofohmgjdaaGreatDoor
/- Functions of the program, written out in the reading's words (made by program; the kernel holds each against the code). -/
namespace Go.Proofs.YtokieofohmgjdaaGreatDoor
open Go Go.Eng
variable (E : Env) (ro : Option Nat) (last : List Nat → RunF) (cl : List Nat) (a : FAct) (u : Option FrameMode) (σ : FState)
/-! caracole/caracoleref01.Alike -/
/-! caracole/datum.alike -/
end Go.Proofs.YtokieofohmgjdaaGreatDoor
/- caracoleref01.Alike and package datum's alike: two data, compared but for what their parts are. -/
namespace Go.Proofs.YtokieofohmgjdaaGreatDoor
open Go Go.Eng
attribute [local congr] andThen_congr fops_congr fdraw_congr afterOp_congr drawF_congr
attribute [-go_sem] List.range_succ
end Go.Proofs.YtokieofohmgjdaaGreatDoor
/- package datum's difference: the pieces of the other datum are gathered. -/
namespace Go.Proofs.YtokieofohmgjdaaGreatDoor
open Go Go.Eng
attribute [local congr] andThen_congr fops_congr fdraw_congr afterOp_congr drawF_congr
attribute [-go_sem] List.range_succ
def GatherI (l r cm : Nat) (R : Nat → Prop) (f g : Nat → Value) (done : List (List Nat × D)) (B : Nat → Prop) (σ : FState) : Prop :=
  (∀ b, b = l ∨ b = r ∨ b = cm → B b) ∧ (∀ b, B b → b < σ.next ∧ (b = l ∨ b = r ∨ b = cm ∨ l < b)) ∧ LoopAt 92 [14, 15] c92_0a c92_0b 12 43 f g l r .ready σ ∧ (∃ ver, σ.heap.get r = some ⟨.defd true, false, none, ver⟩) ∧
    ∃ s ver, σ.heap.get cm = some ⟨.cells [s] TL, false, none, ver⟩ ∧ VecG (fun b => B b ∧ l < b) R σ s (done.map (·.2))
end Go.Proofs.YtokieofohmgjdaaGreatDoor
/- The walker stops where it is told to. -/
namespace Go.Proofs.YtokieofohmgjdaaGreatDoor
open Go Go.Eng
attribute [local congr] andThen_congr fops_congr fdraw_congr afterOp_congr drawF_congr
attribute [-go_sem] List.range_succ
section
variable {kk n l bw bo bp base : Nat} {R : Nat → Prop} {g : Value} {I : List (List Nat × D) → (Nat → Prop) → FState → Prop} {all done : List (List Nat × D)} {B : Nat → Prop} {u : Value} {us : List Value} {ds : List D} {i : Nat} {d : D} {r : List (List D × Nat)} {f : Nat → Value} {σ : FState}
/-- What is done with the piece at which the walk ends. -/
def StopAt (E : Env) (l : Nat) (R : Nat → Prop) (I : List (List Nat × D) → (Nat → Prop) → FState → Prop) (J : (Nat → Prop) → FState → Prop) (pre : List (List Nat × D)) (path : List Nat) (d : D) : Prop :=
  ∀ B σ pv v, Wf σ → I pre B σ → PathAt σ pv path → LaidR R σ v d → ∃ B' σ', E.round l [pv, v] σ = .ret (.bool false) none σ' ∧ Wf σ' ∧ Chg B σ σ' ∧ (∀ b, B' b → B b ∨ σ.next ≤ b) ∧ J B' σ'
end
end Go.Proofs.YtokieofohmgjdaaGreatDoor
/- Ranging over a walk that is left. -/
namespace Go.Proofs.YtokieofohmgjdaaGreatDoor
open Go Go.Eng
attribute [local congr] andThen_congr fops_congr fdraw_congr afterOp_congr drawF_congr
attribute [-go_sem] List.range_succ
section
variable (fn : FuncId) (params : List Tmp) (assign body : Code) (nl nt : Nat) (f g : Nat → Value) (σ : FState)
/-- A loop that was left by a jump behind it. -/
def LoopDone (l r id : Nat) (σ : FState) : Prop := ∃ ver, σ.heap.get l = some ⟨.loop .done (some (.exit id)) fn ((List.range nl).map f) g nl nt params assign body r, false, none, ver⟩
theorem LoopDone.put (l r id : Nat) : LoopDone fn params assign body nl nt f g l r id (σ.put l (.loop .done (some (.exit id)) fn ((List.range nl).map f) g nl nt params assign body r) none) := ⟨_, by rw [put_get, if_pos rfl]⟩
end
end Go.Proofs.YtokieofohmgjdaaGreatDoor
/- package datum's difference: piece by piece. -/
namespace Go.Proofs.YtokieofohmgjdaaGreatDoor
open Go Go.Eng
attribute [local congr] andThen_congr fops_congr fdraw_congr afterOp_congr drawF_congr
attribute [-go_sem] List.range_succ
/-- The same but for what their parts are. -/
def likeD : D → D → Bool
  | .mk k z t ps, .mk k' z' t' ps' => (k == k') && (z == z') && (t.toList == t'.toList) && (Int.ofNat ps.length == Int.ofNat ps'.length)
/-- The loop's memory but for what has been done. -/
def CmpB (l r mb fb cm bv : Nat) (R : Nat → Prop) (es : List D) (n : Nat) (fv : Value → FState → Prop) (B : Nat → Prop) (σ : FState) : Prop :=
  (∀ b, b = l ∨ b = r ∨ b = mb ∨ b = fb ∨ b = cm ∨ b = bv → B b) ∧ (∀ b, B b → b < σ.next ∧ (b = l ∨ b = r ∨ b = mb ∨ b = fb ∨ b = cm ∨ b = bv ∨ l < b)) ∧ (∃ ver, σ.heap.get r = some ⟨.defd true, false, none, ver⟩) ∧
    (∃ ver, σ.heap.get mb = some ⟨.cells [.int .i64 (.ofNat n)] TI, false, none, ver⟩) ∧ (∃ w ver, σ.heap.get fb = some ⟨.cells [w] 25, false, none, ver⟩ ∧ fv w σ) ∧ ∃ s, σ.cells cm = some [s] ∧ VecG (· = bv) R σ s es
def CmpI (l r mb fb cm bv : Nat) (R : Nat → Prop) (es : List D) (f g : Nat → Value) (done : List (List Nat × D)) (B : Nat → Prop) (σ : FState) : Prop :=
  LoopAt 92 [24, 25] c92_1a c92_1b 12 43 f g l r .ready σ ∧ CmpB l r mb fb cm bv R es done.length (fun w _ => w = .slice none 0 0) B σ
theorem CmpB.keep {l r mb fb cm bv n : Nat} {R : Nat → Prop} {es : List D} {fv : Value → FState → Prop} {B : Nat → Prop} {σ σ' : FState} (h : CmpB l r mb fb cm bv R es n fv B σ) (hw : Wf σ) (hn : σ.next ≤ σ'.next) (hk : ∀ b, B b → b ≠ l → σ'.heap.get b = σ.heap.get b) (hne : l ≠ r ∧ l ≠ mb ∧ l ≠ fb ∧ l ≠ cm ∧ l ≠ bv) (hR : ∀ b c, R b → σ.cells b = some c → σ'.cells b = some c) (hf : ∀ w, fv w σ → fv w σ') : CmpB l r mb fb cm bv R es n fv B σ' := by
  obtain ⟨h1, h2, ⟨v3, h3⟩, ⟨v4, h4⟩, ⟨w, v5, h5, h6⟩, s, h7, h8⟩ := h
  refine ⟨h1, fun b hb => ⟨Nat.lt_of_lt_of_le (h2 b hb).1 hn, (h2 b hb).2⟩, ⟨v3, (hk r (h1 r (by simp)) (Ne.symm hne.1)).trans h3⟩, ⟨v4, (hk mb (h1 mb (by simp)) (Ne.symm hne.2.1)).trans h4⟩, ⟨w, v5, (hk fb (h1 fb (by simp)) (Ne.symm hne.2.2.1)).trans h5, hf w h6⟩, s, ?_, h8.keep (fun b e hb he => ⟨?_, hb⟩) fun b c hb hc => ⟨hR b c hb hc, hb⟩⟩
  · rw [cells_get, hk cm (h1 cm (by simp)) (Ne.symm hne.2.2.2.1), ← cells_get]; exact h7
  · rw [hb] at he ⊢
    exact (hk bv (h1 bv (by simp)) (Ne.symm hne.2.2.2.2)).trans he
/-- What is so where the walk ends. -/
def CmpJ (l r mb fb cm bv : Nat) (R : Nat → Prop) (es : List D) (f g : Nat → Value) (n : Nat) (path : List Nat) (base : Nat) (B : Nat → Prop) (σ : FState) : Prop :=
  LoopDone 92 [24, 25] c92_1a c92_1b 12 43 f g l r 2 σ ∧ CmpB l r mb fb cm bv R es n (fun w σ => PathV (fun b => base ≤ b) σ w path) B σ
end Go.Proofs.YtokieofohmgjdaaGreatDoor
/- Functions of the program, written out in the reading's words (made by program; the kernel holds each against the code). -/
namespace Go.Proofs.YtokieofohmgjdaaGreatDoor
open Go Go.Eng
variable (E : Env) (ro : Option Nat) (last : List Nat → RunF) (cl : List Nat) (a : FAct) (u : Option FrameMode) (σ : FState)
/-! caracole/plain.Elements -/
noncomputable def x140_0 : Code := (scopesOf (Tryz.f140.body.getD .skip)).getD 0 .skip
noncomputable def find140_0 (E : Env) (ro : Option Nat) (fn : FuncId) : Nat → Option (Bx RunF) := fun l => match findLabel x140_0 l with | some rest => some ⟨(ccode Tryz.prog nls 998 rest).un E ro fn⟩ | none => none
/-! caracole/datum.elements -/
/-! caracole/datum.copyAll -/
/-! caracole/plain.List -/
/-! slices.Backward[[]caracole/api.Datum,caracole/api.Datum] -/
/-! slices.Backward[[]caracole/api.Datum,caracole/api.Datum]$1 -/
/-! slices.Reverse[[]caracole/api.Datum,caracole/api.Datum] -/
/-! caracole/datum.FromList -/
/-! caracole/datum.FromList$1 -/
/-! caracole/datum.ToList -/
/-! caracole/datum.ToList$1 -/
/-! caracole/datum.Append -/
/-! caracole/datum.Append$1 -/
/-! caracole/datum.Turn -/
/-! caracole/datum.Turn$1 -/
/-! caracole/guard.Call[[]caracole/api.Datum] -/
/-! caracole/guard.CallAt[[]caracole/api.Datum] -/
/-! caracole/guard.CallAt[[]caracole/api.Datum]$1 -/
/-! caracole/caracolekit.KeepData -/
/-! caracole/caracolekit.KeepDatum -/
end Go.Proofs.YtokieofohmgjdaaGreatDoor
/- plain.Elements: a loop by goto. -/
namespace Go.Proofs.YtokieofohmgjdaaGreatDoor
open Go Go.Eng
attribute [local congr] andThen_congr fops_congr fdraw_congr afterOp_congr drawF_congr
attribute [-go_sem] List.range_succ
noncomputable def scopeK (find : Nat → Option (Bx RunF)) (again : RunF → RunF) (r : KRes) : KRes := match r with
  | .done (.goto l) a u σ => (match find l with | some rest => again rest.un a u σ | none => .done (.goto l) a u σ)
  | r => r
structure HeadEl (R : Nat → Prop) (σ0 : FState) (bd bt : Nat) (rest : D) (done : List D) (f : Nat → Value) (σ : FState) : Prop where
  f1 : f 1 = .pointer (some ⟨bd, 0, none⟩)
  f3 : f 3 = .pointer (some ⟨bt, 0, none⟩)
  vec : VecG (fun b => σ0.next ≤ b ∧ b ≠ bd ∧ b ≠ bt) R σ (f 2) done
  hd : ∃ ver lv, σ.heap.get bd = some ⟨.cells lv TD, false, none, ver⟩ ∧ lv.length = 4 ∧ LaidR R σ (.agg lv.toArray) rest
  ht : ∃ ver, σ.heap.get bt = some ⟨.cells [.int .i64 0, .int .i64 0, .string ⟨#[]⟩, .slice none 0 0] TD, false, none, ver⟩
  ne : bd ≠ bt
  lo : σ0.next ≤ bd ∧ σ0.next ≤ bt
  wf : Wf σ
  ext : Ext σ0 σ
end Go.Proofs.YtokieofohmgjdaaGreatDoor
/- package datum's difference, up to its second walk. -/
namespace Go.Proofs.YtokieofohmgjdaaGreatDoor
open Go Go.Eng
attribute [local congr] andThen_congr fops_congr fdraw_congr afterOp_congr drawF_congr
attribute [-go_sem] List.range_succ
noncomputable def restDI (E : Env) : RunF := seqR (seqR (fops E none r92_13) (condR (fun a => a.get 40) (fops E none r92_14) skipR)) (seqR (fops E none r92_15) retR)
end Go.Proofs.YtokieofohmgjdaaGreatDoor
/- package guard: work that fails. -/
namespace Go.Eng
open Go
section
variable (P : Program) (E : Env) (ro : Option Nat) (rs : List ResultVar) (dst : Option Tmp) (k : RunF) (a : FAct) (u : Option FrameMode) (σ s : FState) (ch : List PanicEntry)
theorem fpanic_iface (t : TypeId) (v : Value) : fpanic (.iface t v) σ = .panic (.iface t v) σ := rfl
theorem after_panic (v : Value) : afterOp E ro dst a u k (.panic v s) = .done (.panic [{ v, recovered := false }]) a u s := rfl
theorem after_pan (u' : Option FrameMode) : afterCall a dst u k (.pan ch u' s) = .done (.panic ch) a u s := rfl
theorem leaveR_panic : leaveR P E rs (.done (.panic ch) a u σ) = fleave P E rs a u a.defers (.panicking ch) σ := rfl
end
end Go.Eng
namespace Go.Proofs.YtokieofohmgjdaaGreatDoor
open Go Go.Eng
attribute [local congr] andThen_congr fops_congr fdraw_congr afterOp_congr drawF_congr
attribute [-go_sem] List.range_succ
/-- The error of a code and a place, as it is raised. -/
abbrev failing (c z : Int) : PanicEntry := { v := .iface 178 (.agg #[.int .i64 c, .int .i64 z]), recovered := false }
abbrev failed (c z : Int) : PanicEntry := { v := .iface 178 (.agg #[.int .i64 c, .int .i64 z]), recovered := true }
theorem failAt (n : Nat) (c z : Int) (σ : FState) : (env (n + 1)).call 162 [.int .i64 c, .int .i64 z] none σ = .pan [failing c z] none σ := by
  rw [env_call _ 162 _ _ rfl, enter162 _ _ _ _ (by simp), Sl_start]
  unfold run162
  simp -implicitDefEqProofs only [go_sem, ↓reduceIte, Nat.reduceLT, Nat.reduceEqDiff, Nat.reduceAdd, Nat.reduceMul, Nat.reduceLeDiff, Nat.reduceSub, r162_0_go, r162_0U, Option.getD_some, List.getElem?_cons_zero, List.getElem?_cons_succ, fpanic_iface, after_panic, leaveR_panic, fleave_pan]
theorem fails (n : Nat) (c : Int) (σ : FState) : (env (n + 2)).call 136 [.int .i64 c] none σ = .pan [failing c 0] none σ := by
  rw [env_call _ 136 _ _ rfl, enter136 _ _ _ _ (by simp), Sl_start]
  unfold run136
  simp -implicitDefEqProofs only [go_sem, ↓reduceIte, Nat.reduceLT, Nat.reduceEqDiff, Nat.reduceAdd, Nat.reduceMul, Nat.reduceLeDiff, Nat.reduceSub, r136_0_go, r136_0U, Option.getD_some, List.getElem?_cons_zero, failAt, after_pan, leaveR_panic, fleave_pan]
end Go.Proofs.YtokieofohmgjdaaGreatDoor
/- package guard: work that fails, and the error of it, for calls that return a path. -/
namespace Go.Proofs.YtokieofohmgjdaaGreatDoor
open Go Go.Eng
attribute [local congr] andThen_congr fops_congr fdraw_congr afterOp_congr drawF_congr
attribute [-go_sem] List.range_succ
/-- A call that ends with an error. -/
def Fails (r : CRes) (σ : FState) (c z : Int) : Prop := ∃ σ', r = .pan [failing c z] none σ' ∧ Ext σ σ' ∧ Wf σ'
end Go.Proofs.YtokieofohmgjdaaGreatDoor
/- package datum's difference, whole. -/
namespace Go.Proofs.YtokieofohmgjdaaGreatDoor
open Go Go.Eng
attribute [local congr] andThen_congr fops_congr fdraw_congr afterOp_congr drawF_congr
attribute [-go_sem] List.range_succ
end Go.Proofs.YtokieofohmgjdaaGreatDoor
/- datum.Differ. -/
namespace Go.Proofs.YtokieofohmgjdaaGreatDoor
open Go Go.Eng
attribute [local congr] andThen_congr fops_congr fdraw_congr afterOp_congr drawF_congr
attribute [-go_sem] List.range_succ
/-- What Differ asks of both data. -/
structure Apart (M : Nat) (d : D) : Prop where
  sane : Sane M d
  count : d.count < 900
  deep : d.deep < 1000
theorem Apart.small {M : Nat} {d : D} (h : Apart M d) : Small (d.pieces []) := h.sane.small h.deep
theorem Apart.few {M : Nat} {d : D} (h : Apart M d) : (d.pieces []).length < 900 := by rw [pieces_length]; exact h.count
end Go.Proofs.YtokieofohmgjdaaGreatDoor
/- Functions of the program, written out in the reading's words (made by program; the kernel holds each against the code). -/
namespace Go.Proofs.YtokieofohmgjdaaGreatDoor
open Go Go.Eng
variable (E : Env) (ro : Option Nat) (last : List Nat → RunF) (cl : List Nat) (a : FAct) (u : Option FrameMode) (σ : FState)
/-! caracole/datum.Compare -/
noncomputable def r25_0U (_ : Unit) : List COp := [⟨fun a σ => fbox 24 (a.get 0) σ, (some 2), fun _ => some true⟩,
  ⟨fun a σ => fbox 24 (a.get 1) σ, (some 3), fun _ => some true⟩,
  ⟨fun a σ => .val (.int .i64 0) σ, (some 4), fun _ => some true⟩,
  ⟨fun a σ => .val (.int .i64 0) σ, (some 5), fun _ => some true⟩]
noncomputable def r25_0 : List COp := r25_0U ()
noncomputable def r25_1U (_ : Unit) : List COp := [⟨fun a σ => .val (.func (.func 87) #[] #[(a.get 2), (a.get 3)]) σ, (some 6), fun _ => some true⟩,
  ⟨fun a σ => .enter 79 [(a.get 6)] σ, (some 7), fun _ => some true⟩,
  ⟨fun a σ => fextract 0 (a.get 7) σ, (some 8), fun _ => some true⟩,
  ⟨fun a σ => fextract 1 (a.get 7) σ, (some 9), fun _ => some true⟩,
  ⟨fun a σ => .val (a.get 8) σ, (some 4), fun _ => some true⟩,
  ⟨fun a σ => .val (a.get 9) σ, (some 5), fun _ => some true⟩]
noncomputable def r25_1 : List COp := r25_1U ()
noncomputable def run25 (E : Env) (ro : Option Nat) (fn : FuncId) : RunF := (seqR (fops E ro r25_0) (seqR (fops E ro r25_1) retR))
theorem r25_0_go : fops E ro r25_0 a u σ = fops E ro (r25_0U ()) a u σ := rfl
theorem r25_1_go : fops E ro r25_1 a u σ = fops E ro (r25_1U ()) a u σ := rfl
theorem code25 (E : Env) (ro : Option Nat) (fn : FuncId) : code Tryz.prog nls (Tryz.f25.body.getD .skip) E ro fn = run25 E ro fn := by kernel_rfl
theorem enter25 (E : Env) (args : List Value) (u : Option FrameMode) (σ : FState) (hn : args.length ≤ (4 : Nat)) : fcall Tryz.prog nls E 25 args u σ = leaveR Tryz.prog E [.tmp 4, .tmp 5] (run25 E none 25 ⟨padTo undef 4 args, fun _ => undef, 4, 10, []⟩ u σ) := by
  rw [fcall_of (body := Tryz.f25.body.getD .skip) Tryz.func25 rfl E args u σ 4 10 (by kernel_rfl) rfl ⟨hn, by decide⟩, code25]
  rfl
/-! caracole/datum.Compare$1 -/
noncomputable def r87_0U (_ : Unit) : List COp := [⟨fun a σ => .val (.int .i64 0) σ, (some 2), fun _ => some true⟩]
noncomputable def r87_0 : List COp := r87_0U ()
noncomputable def r87_1U (_ : Unit) : List COp := [⟨fun a σ => fload (some 4) (a.get 0) σ, (some 3), fun _ => some true⟩,
  ⟨fun a σ => .enter 71 [(a.get 3)] σ, (some 4), fun _ => some true⟩]
noncomputable def r87_1 : List COp := r87_1U ()
noncomputable def r87_2U (_ : Unit) : List COp := [⟨fun a σ => fload (some 4) (a.get 1) σ, (some 5), fun _ => some true⟩,
  ⟨fun a σ => .enter 71 [(a.get 5)] σ, (some 6), fun _ => some true⟩]
noncomputable def r87_2 : List COp := r87_2U ()
noncomputable def r87_3U (_ : Unit) : List COp := [⟨fun a σ => fload (some 4) (a.get 0) σ, (some 7), fun _ => some true⟩,
  ⟨fun a σ => fload (some 4) (a.get 1) σ, (some 8), fun _ => some true⟩,
  ⟨fun a σ => .enter 88 [(a.get 7), (a.get 8)] σ, (some 9), fun _ => some true⟩,
  ⟨fun a σ => .val (a.get 9) σ, (some 2), fun _ => some true⟩]
noncomputable def r87_3 : List COp := r87_3U ()
noncomputable def run87 (E : Env) (ro : Option Nat) (fn : FuncId) : RunF := (seqR (fops E ro r87_0) (seqR (fops E ro r87_1) (seqR (fops E ro r87_2) (seqR (fops E ro r87_3) retR))))
theorem r87_0_go : fops E ro r87_0 a u σ = fops E ro (r87_0U ()) a u σ := rfl
theorem r87_1_go : fops E ro r87_1 a u σ = fops E ro (r87_1U ()) a u σ := rfl
theorem r87_2_go : fops E ro r87_2 a u σ = fops E ro (r87_2U ()) a u σ := rfl
theorem r87_3_go : fops E ro r87_3 a u σ = fops E ro (r87_3U ()) a u σ := rfl
theorem code87 (E : Env) (ro : Option Nat) (fn : FuncId) : code Tryz.prog nls (Tryz.f87.body.getD .skip) E ro fn = run87 E ro fn := by kernel_rfl
theorem enter87 (E : Env) (args : List Value) (u : Option FrameMode) (σ : FState) (hn : args.length ≤ (2 : Nat)) : fcall Tryz.prog nls E 87 args u σ = leaveR Tryz.prog E [.tmp 2] (run87 E none 87 ⟨padTo undef 2 args, fun _ => undef, 2, 10, []⟩ u σ) := by
  rw [fcall_of (body := Tryz.f87.body.getD .skip) Tryz.func87 rfl E args u σ 2 10 (by kernel_rfl) rfl ⟨hn, by decide⟩, code87]
  rfl
/-! caracole/datum.order -/
noncomputable def r88_0U (_ : Unit) : List COp := [⟨fun a σ => fbox 24 (a.get 0) σ, (some 2), fun _ => some true⟩,
  ⟨fun a σ => fbox 24 (a.get 1) σ, (some 3), fun _ => some true⟩,
  ⟨fun a σ => .val (.int .i64 0) σ, (some 4), fun _ => some true⟩]
noncomputable def r88_0 : List COp := r88_0U ()
noncomputable def r88_1U (_ : Unit) : List COp := [⟨fun a σ => ffield 0 (a.get 2) σ, (some 6), fun _ => some true⟩,
  ⟨fun a σ => fload none (a.get 6) σ, (some 7), fun _ => some true⟩,
  ⟨fun a σ => ffield 0 (a.get 3) σ, (some 8), fun _ => some true⟩,
  ⟨fun a σ => fload none (a.get 8) σ, (some 9), fun _ => some true⟩,
  ⟨fun a σ => .enter 131 [(a.get 7), (a.get 9)] σ, (some 10), fun _ => some true⟩,
  ⟨fun a σ => .val (a.get 10) σ, (some 5), fun _ => some true⟩]
noncomputable def r88_1 : List COp := r88_1U ()
noncomputable def r88_2U (_ : Unit) : List COp := [⟨fun a σ => .val (a.get 5) σ, (some 11), fun _ => some true⟩,
  ⟨fun a σ => i_neq Tryz.prog 3 (.tmp 11) (.const (.int .i64 0)) (a.get 11) (.int .i64 0) σ, (some 12), fun _ => some true⟩]
noncomputable def r88_2 : List COp := r88_2U ()
noncomputable def r88_3U (_ : Unit) : List COp := [⟨fun a σ => .val (a.get 5) σ, (some 13), fun _ => some true⟩,
  ⟨fun a σ => .val (a.get 13) σ, (some 4), fun _ => some true⟩]
noncomputable def r88_3 : List COp := r88_3U ()
noncomputable def r88_4U (_ : Unit) : List DOp := [⟨fun a σ => fload (some 4) (a.get 2) σ, (some 14), fun _ => some true, (some 0), false⟩,
  ⟨fun a σ => .enter 127 [(a.get 14)] σ, (some 15), fun _ => some true, none, false⟩,
  ⟨fun a σ => fload (some 4) (a.get 3) σ, (some 16), fun _ => some true, (some 0), false⟩,
  ⟨fun a σ => finvoke Tryz.prog (a.get 15) "caracole/datum.order" [(a.get 16)] σ, (some 17), fun _ => some true, none, true⟩,
  ⟨fun a σ => .val (a.get 17) σ, (some 4), fun _ => some true, (some 2), false⟩]
noncomputable def r88_4 : List DOp := r88_4U ()
noncomputable def run88 (E : Env) (ro : Option Nat) (fn : FuncId) : RunF := (seqR (fops E ro r88_0) (seqR (seqR (fops E ro r88_1) (seqR (fops E ro r88_2) (condR (fun a => (a.get 12)) (seqR (fops E ro r88_3) retR) skipR))) (seqR (drawR E ro r88_4) retR)))
theorem r88_0_go : fops E ro r88_0 a u σ = fops E ro (r88_0U ()) a u σ := rfl
theorem r88_1_go : fops E ro r88_1 a u σ = fops E ro (r88_1U ()) a u σ := rfl
theorem r88_2_go : fops E ro r88_2 a u σ = fops E ro (r88_2U ()) a u σ := rfl
theorem r88_3_go : fops E ro r88_3 a u σ = fops E ro (r88_3U ()) a u σ := rfl
theorem r88_4_go : fdraw E ro last r88_4 cl a u σ = fdraw E ro last (r88_4U ()) cl a u σ := rfl
theorem code88 (E : Env) (ro : Option Nat) (fn : FuncId) : code Tryz.prog nls (Tryz.f88.body.getD .skip) E ro fn = run88 E ro fn := by kernel_rfl
theorem enter88 (E : Env) (args : List Value) (u : Option FrameMode) (σ : FState) (hn : args.length ≤ (6 : Nat)) : fcall Tryz.prog nls E 88 args u σ = leaveR Tryz.prog E [.tmp 4] (run88 E none 88 ⟨padTo undef 6 args, fun _ => undef, 6, 18, []⟩ u σ) := by
  rw [fcall_of (body := Tryz.f88.body.getD .skip) Tryz.func88 rfl E args u σ 6 18 (by kernel_rfl) rfl ⟨hn, by decide⟩, code88]
  rfl
/-! (caracole/datum.number).order -/
noncomputable def r232_0U (_ : Unit) : List COp := [⟨fun a σ => fbox 184 (a.get 0) σ, (some 2), fun _ => some true⟩,
  ⟨fun a σ => fbox 24 (a.get 1) σ, (some 3), fun _ => some true⟩,
  ⟨fun a σ => .val (.int .i64 0) σ, (some 4), fun _ => some true⟩]
noncomputable def r232_0 : List COp := r232_0U ()
noncomputable def r232_1U (_ : Unit) : List COp := [⟨fun a σ => ffield 0 (a.get 2) σ, (some 5), fun _ => some true⟩,
  ⟨fun a σ => ffield 1 (a.get 5) σ, (some 6), fun _ => some true⟩,
  ⟨fun a σ => fload none (a.get 6) σ, (some 7), fun _ => some true⟩,
  ⟨fun a σ => ffield 1 (a.get 3) σ, (some 8), fun _ => some true⟩,
  ⟨fun a σ => fload none (a.get 8) σ, (some 9), fun _ => some true⟩,
  ⟨fun a σ => .enter 131 [(a.get 7), (a.get 9)] σ, (some 10), fun _ => some true⟩,
  ⟨fun a σ => .val (a.get 10) σ, (some 4), fun _ => some true⟩]
noncomputable def r232_1 : List COp := r232_1U ()
noncomputable def run232 (E : Env) (ro : Option Nat) (fn : FuncId) : RunF := (seqR (fops E ro r232_0) (seqR (fops E ro r232_1) retR))
theorem r232_0_go : fops E ro r232_0 a u σ = fops E ro (r232_0U ()) a u σ := rfl
theorem r232_1_go : fops E ro r232_1 a u σ = fops E ro (r232_1U ()) a u σ := rfl
theorem code232 (E : Env) (ro : Option Nat) (fn : FuncId) : code Tryz.prog nls (Tryz.f232.body.getD .skip) E ro fn = run232 E ro fn := by kernel_rfl
theorem enter232 (E : Env) (args : List Value) (u : Option FrameMode) (σ : FState) (hn : args.length ≤ (4 : Nat)) : fcall Tryz.prog nls E 232 args u σ = leaveR Tryz.prog E [.tmp 4] (run232 E none 232 ⟨padTo undef 4 args, fun _ => undef, 4, 11, []⟩ u σ) := by
  rw [fcall_of (body := Tryz.f232.body.getD .skip) Tryz.func232 rfl E args u σ 4 11 (by kernel_rfl) rfl ⟨hn, by decide⟩, code232]
  rfl
/-! (caracole/datum.text).order -/
noncomputable def r226_0U (_ : Unit) : List COp := [⟨fun a σ => fbox 151 (a.get 0) σ, (some 2), fun _ => some true⟩,
  ⟨fun a σ => fbox 24 (a.get 1) σ, (some 3), fun _ => some true⟩,
  ⟨fun a σ => .val (.int .i64 0) σ, (some 4), fun _ => some true⟩]
noncomputable def r226_0 : List COp := r226_0U ()
noncomputable def r226_1U (_ : Unit) : List COp := [⟨fun a σ => ffield 0 (a.get 2) σ, (some 5), fun _ => some true⟩,
  ⟨fun a σ => ffield 2 (a.get 5) σ, (some 6), fun _ => some true⟩,
  ⟨fun a σ => fload none (a.get 6) σ, (some 7), fun _ => some true⟩,
  ⟨fun a σ => ffield 2 (a.get 3) σ, (some 8), fun _ => some true⟩,
  ⟨fun a σ => fload none (a.get 8) σ, (some 9), fun _ => some true⟩,
  ⟨fun a σ => .enter 227 [(a.get 7), (a.get 9)] σ, (some 10), fun _ => some true⟩,
  ⟨fun a σ => .val (a.get 10) σ, (some 4), fun _ => some true⟩]
noncomputable def r226_1 : List COp := r226_1U ()
noncomputable def run226 (E : Env) (ro : Option Nat) (fn : FuncId) : RunF := (seqR (fops E ro r226_0) (seqR (fops E ro r226_1) retR))
theorem r226_0_go : fops E ro r226_0 a u σ = fops E ro (r226_0U ()) a u σ := rfl
theorem r226_1_go : fops E ro r226_1 a u σ = fops E ro (r226_1U ()) a u σ := rfl
theorem code226 (E : Env) (ro : Option Nat) (fn : FuncId) : code Tryz.prog nls (Tryz.f226.body.getD .skip) E ro fn = run226 E ro fn := by kernel_rfl
theorem enter226 (E : Env) (args : List Value) (u : Option FrameMode) (σ : FState) (hn : args.length ≤ (4 : Nat)) : fcall Tryz.prog nls E 226 args u σ = leaveR Tryz.prog E [.tmp 4] (run226 E none 226 ⟨padTo undef 4 args, fun _ => undef, 4, 11, []⟩ u σ) := by
  rw [fcall_of (body := Tryz.f226.body.getD .skip) Tryz.func226 rfl E args u σ 4 11 (by kernel_rfl) rfl ⟨hn, by decide⟩, code226]
  rfl
/-! (caracole/datum.empty).order -/
noncomputable def r234_0U (_ : Unit) : List COp := [⟨fun a σ => fbox 187 (a.get 0) σ, (some 2), fun _ => some true⟩,
  ⟨fun a σ => fbox 24 (a.get 1) σ, (some 3), fun _ => some true⟩,
  ⟨fun a σ => .val (.int .i64 0) σ, (some 4), fun _ => some true⟩]
noncomputable def r234_0 : List COp := r234_0U ()
noncomputable def r234_1U (_ : Unit) : List COp := [⟨fun a σ => .val (.int .i64 0) σ, (some 4), fun _ => some true⟩]
noncomputable def r234_1 : List COp := r234_1U ()
noncomputable def run234 (E : Env) (ro : Option Nat) (fn : FuncId) : RunF := (seqR (fops E ro r234_0) (seqR (fops E ro r234_1) retR))
theorem r234_0_go : fops E ro r234_0 a u σ = fops E ro (r234_0U ()) a u σ := rfl
theorem r234_1_go : fops E ro r234_1 a u σ = fops E ro (r234_1U ()) a u σ := rfl
theorem code234 (E : Env) (ro : Option Nat) (fn : FuncId) : code Tryz.prog nls (Tryz.f234.body.getD .skip) E ro fn = run234 E ro fn := by kernel_rfl
theorem enter234 (E : Env) (args : List Value) (u : Option FrameMode) (σ : FState) (hn : args.length ≤ (4 : Nat)) : fcall Tryz.prog nls E 234 args u σ = leaveR Tryz.prog E [.tmp 4] (run234 E none 234 ⟨padTo undef 4 args, fun _ => undef, 4, 5, []⟩ u σ) := by
  rw [fcall_of (body := Tryz.f234.body.getD .skip) Tryz.func234 rfl E args u σ 4 5 (by kernel_rfl) rfl ⟨hn, by decide⟩, code234]
  rfl
/-! (caracole/datum.branch).order -/
noncomputable def r236_0U (_ : Unit) : List COp := [⟨fun a σ => fbox 188 (a.get 0) σ, (some 2), fun _ => some true⟩,
  ⟨fun a σ => fbox 24 (a.get 1) σ, (some 3), fun _ => some true⟩,
  ⟨fun a σ => .val (.int .i64 0) σ, (some 4), fun _ => some true⟩]
noncomputable def r236_0 : List COp := r236_0U ()
noncomputable def r236_1U (_ : Unit) : List COp := [⟨fun a σ => ffield 0 (a.get 2) σ, (some 5), fun _ => some true⟩,
  ⟨fun a σ => ffield 3 (a.get 5) σ, (some 6), fun _ => some true⟩,
  ⟨fun a σ => fload none (a.get 6) σ, (some 7), fun _ => some true⟩,
  ⟨fun a σ => ffield 3 (a.get 3) σ, (some 8), fun _ => some true⟩,
  ⟨fun a σ => fload none (a.get 8) σ, (some 9), fun _ => some true⟩,
  ⟨fun a σ => .enter 237 [(a.get 7), (a.get 9), (.func (.func 88) #[] #[])] σ, (some 10), fun _ => some true⟩,
  ⟨fun a σ => .val (a.get 10) σ, (some 4), fun _ => some true⟩]
noncomputable def r236_1 : List COp := r236_1U ()
noncomputable def run236 (E : Env) (ro : Option Nat) (fn : FuncId) : RunF := (seqR (fops E ro r236_0) (seqR (fops E ro r236_1) retR))
theorem r236_0_go : fops E ro r236_0 a u σ = fops E ro (r236_0U ()) a u σ := rfl
theorem r236_1_go : fops E ro r236_1 a u σ = fops E ro (r236_1U ()) a u σ := rfl
theorem code236 (E : Env) (ro : Option Nat) (fn : FuncId) : code Tryz.prog nls (Tryz.f236.body.getD .skip) E ro fn = run236 E ro fn := by kernel_rfl
theorem enter236 (E : Env) (args : List Value) (u : Option FrameMode) (σ : FState) (hn : args.length ≤ (4 : Nat)) : fcall Tryz.prog nls E 236 args u σ = leaveR Tryz.prog E [.tmp 4] (run236 E none 236 ⟨padTo undef 4 args, fun _ => undef, 4, 11, []⟩ u σ) := by
  rw [fcall_of (body := Tryz.f236.body.getD .skip) Tryz.func236 rfl E args u σ 4 11 (by kernel_rfl) rfl ⟨hn, by decide⟩, code236]
  rfl
/-! cmp.Compare[int] -/
noncomputable def r131_0U (_ : Unit) : List COp := [⟨fun a σ => .val (.int .i64 0) σ, (some 4), fun _ => some true⟩]
noncomputable def r131_0 : List COp := r131_0U ()
noncomputable def r131_1U (_ : Unit) : List COp := [⟨fun a σ => .val (a.get 0) σ, (some 7), fun _ => some true⟩,
  ⟨fun a σ => .enter 160 [(a.get 7)] σ, (some 8), fun _ => some true⟩,
  ⟨fun a σ => .val (a.get 8) σ, (some 5), fun _ => some true⟩]
noncomputable def r131_1 : List COp := r131_1U ()
noncomputable def r131_2U (_ : Unit) : List COp := [⟨fun a σ => .val (a.get 1) σ, (some 9), fun _ => some true⟩,
  ⟨fun a σ => .enter 160 [(a.get 9)] σ, (some 10), fun _ => some true⟩,
  ⟨fun a σ => .val (a.get 10) σ, (some 6), fun _ => some true⟩]
noncomputable def r131_2 : List COp := r131_2U ()
noncomputable def r131_3U (_ : Unit) : List COp := [⟨fun a σ => .val (a.get 5) σ, (some 11), fun _ => some true⟩]
noncomputable def r131_3 : List COp := r131_3U ()
noncomputable def r131_4U (_ : Unit) : List COp := [⟨fun a σ => .val (a.get 6) σ, (some 12), fun _ => some true⟩]
noncomputable def r131_4 : List COp := r131_4U ()
noncomputable def r131_5U (_ : Unit) : List COp := [⟨fun a σ => .val (.int .i64 0) σ, (some 4), fun _ => some true⟩]
noncomputable def r131_5 : List COp := r131_5U ()
noncomputable def r131_6U (_ : Unit) : List COp := [⟨fun a σ => .val (.int .i64 (-1)) σ, (some 4), fun _ => some true⟩]
noncomputable def r131_6 : List COp := r131_6U ()
noncomputable def r131_7U (_ : Unit) : List COp := [⟨fun a σ => .val (a.get 6) σ, (some 13), fun _ => some true⟩]
noncomputable def r131_7 : List COp := r131_7U ()
noncomputable def r131_8U (_ : Unit) : List COp := [⟨fun a σ => .val (.int .i64 1) σ, (some 4), fun _ => some true⟩]
noncomputable def r131_8 : List COp := r131_8U ()
noncomputable def r131_9U (_ : Unit) : List COp := [⟨fun a σ => .val (a.get 0) σ, (some 14), fun _ => some true⟩,
  ⟨fun a σ => .val (a.get 1) σ, (some 15), fun _ => some true⟩,
  ⟨fun a σ => i_lss Tryz.prog 3 (.tmp 14) (.tmp 15) (a.get 14) (a.get 15) σ, (some 16), fun _ => some true⟩]
noncomputable def r131_9 : List COp := r131_9U ()
noncomputable def r131_10U (_ : Unit) : List COp := [⟨fun a σ => .val (.int .i64 (-1)) σ, (some 4), fun _ => some true⟩]
noncomputable def r131_10 : List COp := r131_10U ()
noncomputable def r131_11U (_ : Unit) : List COp := [⟨fun a σ => .val (a.get 0) σ, (some 17), fun _ => some true⟩,
  ⟨fun a σ => .val (a.get 1) σ, (some 18), fun _ => some true⟩,
  ⟨fun a σ => i_gtr Tryz.prog 3 (.tmp 17) (.tmp 18) (a.get 17) (a.get 18) σ, (some 19), fun _ => some true⟩]
noncomputable def r131_11 : List COp := r131_11U ()
noncomputable def r131_12U (_ : Unit) : List COp := [⟨fun a σ => .val (.int .i64 1) σ, (some 4), fun _ => some true⟩]
noncomputable def r131_12 : List COp := r131_12U ()
noncomputable def r131_13U (_ : Unit) : List COp := [⟨fun a σ => .val (.int .i64 0) σ, (some 4), fun _ => some true⟩]
noncomputable def r131_13 : List COp := r131_13U ()
noncomputable def run131 (E : Env) (ro : Option Nat) (fn : FuncId) : RunF := (seqR (fops E ro r131_0) (seqR (fops E ro r131_1) (seqR (fops E ro r131_2) (seqR (seqR (fops E ro r131_3) (condR (fun a => (a.get 11)) (seqR (seqR (fops E ro r131_4) (condR (fun a => (a.get 12)) (seqR (fops E ro r131_5) retR) skipR)) (seqR (fops E ro r131_6) retR)) skipR)) (seqR (seqR (fops E ro r131_7) (condR (fun a => (a.get 13)) (seqR (fops E ro r131_8) retR) skipR)) (seqR (seqR (fops E ro r131_9) (condR (fun a => (a.get 16)) (seqR (fops E ro r131_10) retR) skipR)) (seqR (seqR (fops E ro r131_11) (condR (fun a => (a.get 19)) (seqR (fops E ro r131_12) retR) skipR)) (seqR (fops E ro r131_13) retR))))))))
theorem r131_0_go : fops E ro r131_0 a u σ = fops E ro (r131_0U ()) a u σ := rfl
theorem r131_1_go : fops E ro r131_1 a u σ = fops E ro (r131_1U ()) a u σ := rfl
theorem r131_2_go : fops E ro r131_2 a u σ = fops E ro (r131_2U ()) a u σ := rfl
theorem r131_3_go : fops E ro r131_3 a u σ = fops E ro (r131_3U ()) a u σ := rfl
theorem r131_7_go : fops E ro r131_7 a u σ = fops E ro (r131_7U ()) a u σ := rfl
theorem r131_9_go : fops E ro r131_9 a u σ = fops E ro (r131_9U ()) a u σ := rfl
theorem r131_10_go : fops E ro r131_10 a u σ = fops E ro (r131_10U ()) a u σ := rfl
theorem r131_11_go : fops E ro r131_11 a u σ = fops E ro (r131_11U ()) a u σ := rfl
theorem r131_12_go : fops E ro r131_12 a u σ = fops E ro (r131_12U ()) a u σ := rfl
theorem r131_13_go : fops E ro r131_13 a u σ = fops E ro (r131_13U ()) a u σ := rfl
theorem code131 (E : Env) (ro : Option Nat) (fn : FuncId) : code Tryz.prog nls (Tryz.f131.body.getD .skip) E ro fn = run131 E ro fn := by kernel_rfl
theorem enter131 (E : Env) (args : List Value) (u : Option FrameMode) (σ : FState) (hn : args.length ≤ (7 : Nat)) : fcall Tryz.prog nls E 131 args u σ = leaveR Tryz.prog E [.tmp 4] (run131 E none 131 ⟨padTo undef 7 args, fun _ => undef, 7, 20, []⟩ u σ) := by
  rw [fcall_of (body := Tryz.f131.body.getD .skip) Tryz.func131 rfl E args u σ 7 20 (by kernel_rfl) rfl ⟨hn, by decide⟩, code131]
  rfl
/-! cmp.isNaN[int] -/
noncomputable def r160_0U (_ : Unit) : List COp := [⟨fun a σ => .val (.bool false) σ, (some 2), fun _ => some true⟩]
noncomputable def r160_0 : List COp := r160_0U ()
noncomputable def r160_1U (_ : Unit) : List COp := [⟨fun a σ => .val (a.get 0) σ, (some 3), fun _ => some true⟩,
  ⟨fun a σ => .val (a.get 0) σ, (some 4), fun _ => some true⟩,
  ⟨fun a σ => i_neq Tryz.prog 3 (.tmp 3) (.tmp 4) (a.get 3) (a.get 4) σ, (some 5), fun _ => some true⟩,
  ⟨fun a σ => .val (a.get 5) σ, (some 2), fun _ => some true⟩]
noncomputable def r160_1 : List COp := r160_1U ()
noncomputable def run160 (E : Env) (ro : Option Nat) (fn : FuncId) : RunF := (seqR (fops E ro r160_0) (seqR (fops E ro r160_1) retR))
theorem r160_0_go : fops E ro r160_0 a u σ = fops E ro (r160_0U ()) a u σ := rfl
theorem r160_1_go : fops E ro r160_1 a u σ = fops E ro (r160_1U ()) a u σ := rfl
theorem code160 (E : Env) (ro : Option Nat) (fn : FuncId) : code Tryz.prog nls (Tryz.f160.body.getD .skip) E ro fn = run160 E ro fn := by kernel_rfl
theorem enter160 (E : Env) (args : List Value) (u : Option FrameMode) (σ : FState) (hn : args.length ≤ (2 : Nat)) : fcall Tryz.prog nls E 160 args u σ = leaveR Tryz.prog E [.tmp 2] (run160 E none 160 ⟨padTo undef 2 args, fun _ => undef, 2, 6, []⟩ u σ) := by
  rw [fcall_of (body := Tryz.f160.body.getD .skip) Tryz.func160 rfl E args u σ 2 6 (by kernel_rfl) rfl ⟨hn, by decide⟩, code160]
  rfl
/-! slices.CompareFunc[[]caracole/api.Datum,[]caracole/api.Datum,caracole/api.Datum,caracole/api.Datum] -/
noncomputable def r237_0U (_ : Unit) : List COp := [⟨fun a σ => .val (.int .i64 0) σ, (some 6), fun _ => some true⟩]
noncomputable def r237_0 : List COp := r237_0U ()
noncomputable def r237_1U (_ : Unit) : List COp := [⟨fun a σ => .val (a.get 0) σ, (some 11), fun _ => some true⟩,
  ⟨fun a σ => flenL (a.get 11) σ, (some 12), fun _ => some true⟩,
  ⟨fun a σ => .val (.int .i64 0) σ, (some 13), fun _ => some true⟩]
noncomputable def r237_1 : List COp := r237_1U ()
noncomputable def r237_2U (_ : Unit) : List COp := [⟨fun a σ => i_lss Tryz.prog 3 (.tmp 13) (.tmp 12) (a.get 13) (a.get 12) σ, (some 14), fun _ => some true⟩]
noncomputable def r237_2 : List COp := r237_2U ()
noncomputable def r237_3U (_ : Unit) : List COp := [⟨fun a σ => .val (a.get 13) σ, (some 15), fun _ => some true⟩,
  ⟨fun a σ => findex (none, 4) (a.get 11) (a.get 13) σ, (some 16), fun _ => some true⟩,
  ⟨fun a σ => fload (some 4) (a.get 16) σ, (some 17), fun _ => some true⟩,
  ⟨fun a σ => newCells [(.int .i64 0), (.int .i64 0), (.string ⟨#[]⟩), (.slice none 0 0)] 24 none σ, (some 8), fun _ => some true⟩,
  ⟨fun a σ => .val (a.get 15) σ, (some 7), fun _ => some true⟩,
  ⟨fun a σ => fstore 4 (a.get 8) (a.get 17) σ, none, fun _ => some true⟩]
noncomputable def r237_3 : List COp := r237_3U ()
noncomputable def r237_4U (_ : Unit) : List COp := [⟨fun a σ => .val (a.get 7) σ, (some 18), fun _ => some true⟩,
  ⟨fun a σ => .val (a.get 1) σ, (some 19), fun _ => some true⟩,
  ⟨fun a σ => flenL (a.get 19) σ, (some 20), fun _ => some true⟩,
  ⟨fun a σ => i_geq Tryz.prog 3 (.tmp 18) (.tmp 20) (a.get 18) (a.get 20) σ, (some 21), fun _ => some true⟩]
noncomputable def r237_4 : List COp := r237_4U ()
noncomputable def r237_5U (_ : Unit) : List COp := [⟨fun a σ => .val (.int .i64 1) σ, (some 6), fun _ => some true⟩]
noncomputable def r237_5 : List COp := r237_5U ()
noncomputable def r237_6U (_ : Unit) : List COp := [⟨fun a σ => .val (a.get 1) σ, (some 22), fun _ => some true⟩,
  ⟨fun a σ => .val (a.get 7) σ, (some 23), fun _ => some true⟩,
  ⟨fun a σ => findex (none, 4) (a.get 22) (a.get 23) σ, (some 24), fun _ => some true⟩,
  ⟨fun a σ => fload (some 4) (a.get 24) σ, (some 25), fun _ => some true⟩,
  ⟨fun a σ => newCells [(.int .i64 0), (.int .i64 0), (.string ⟨#[]⟩), (.slice none 0 0)] 24 none σ, (some 9), fun _ => some true⟩,
  ⟨fun a σ => fstore 4 (a.get 9) (a.get 25) σ, none, fun _ => some true⟩]
noncomputable def r237_6 : List COp := r237_6U ()
noncomputable def r237_7U (_ : Unit) : List COp := [⟨fun a σ => .val (a.get 2) σ, (some 26), fun _ => some true⟩,
  ⟨fun a σ => fload (some 4) (a.get 8) σ, (some 27), fun _ => some true⟩,
  ⟨fun a σ => fload (some 4) (a.get 9) σ, (some 28), fun _ => some true⟩,
  ⟨fun a σ => fcallV (a.get 26) [(a.get 27), (a.get 28)] σ, (some 29), fun _ => some true⟩,
  ⟨fun a σ => .val (a.get 29) σ, (some 10), fun _ => some true⟩]
noncomputable def r237_7 : List COp := r237_7U ()
noncomputable def r237_8U (_ : Unit) : List COp := [⟨fun a σ => .val (a.get 10) σ, (some 30), fun _ => some true⟩,
  ⟨fun a σ => i_neq Tryz.prog 3 (.tmp 30) (.const (.int .i64 0)) (a.get 30) (.int .i64 0) σ, (some 31), fun _ => some true⟩]
noncomputable def r237_8 : List COp := r237_8U ()
noncomputable def r237_9U (_ : Unit) : List COp := [⟨fun a σ => .val (a.get 10) σ, (some 32), fun _ => some true⟩,
  ⟨fun a σ => .val (a.get 32) σ, (some 6), fun _ => some true⟩]
noncomputable def r237_9 : List COp := r237_9U ()
noncomputable def r237_10U (_ : Unit) : List COp := [⟨fun a σ => i_add Tryz.prog 3 (.tmp 13) (.const (.int .i64 1)) (a.get 13) (.int .i64 1) σ, (some 33), fun _ => some true⟩,
  ⟨fun a σ => .val (a.get 33) σ, (some 13), fun _ => some true⟩]
noncomputable def r237_10 : List COp := r237_10U ()
noncomputable def l237_0 (E : Env) (ro : Option Nat) (fn : FuncId) : RunF := (seqR (fops E ro r237_2) (seqR (condR (fun a => (a.get 14)) skipR (exitR 0)) (seqR (blockR 1 (seqR (fops E ro r237_3) (seqR (seqR (fops E ro r237_4) (condR (fun a => (a.get 21)) (seqR (fops E ro r237_5) retR) skipR)) (seqR (fops E ro r237_6) (seqR (fops E ro r237_7) (seqR (fops E ro r237_8) (condR (fun a => (a.get 31)) (seqR (fops E ro r237_9) retR) skipR))))))) (fops E ro r237_10))))
noncomputable def r237_11U (_ : Unit) : List COp := [⟨fun a σ => .val (a.get 0) σ, (some 34), fun _ => some true⟩,
  ⟨fun a σ => flenL (a.get 34) σ, (some 35), fun _ => some true⟩,
  ⟨fun a σ => .val (a.get 1) σ, (some 36), fun _ => some true⟩,
  ⟨fun a σ => flenL (a.get 36) σ, (some 37), fun _ => some true⟩,
  ⟨fun a σ => i_lss Tryz.prog 3 (.tmp 35) (.tmp 37) (a.get 35) (a.get 37) σ, (some 38), fun _ => some true⟩]
noncomputable def r237_11 : List COp := r237_11U ()
noncomputable def r237_12U (_ : Unit) : List COp := [⟨fun a σ => .val (.int .i64 (-1)) σ, (some 6), fun _ => some true⟩]
noncomputable def r237_12 : List COp := r237_12U ()
noncomputable def r237_13U (_ : Unit) : List COp := [⟨fun a σ => .val (.int .i64 0) σ, (some 6), fun _ => some true⟩]
noncomputable def r237_13 : List COp := r237_13U ()
noncomputable def run237 (E : Env) (ro : Option Nat) (fn : FuncId) : RunF := (seqR (fops E ro r237_0) (seqR (seqR (fops E ro r237_1) (blockR 0 (loopR (keepOf nls fn) (l237_0 E ro fn)))) (seqR (seqR (fops E ro r237_11) (condR (fun a => (a.get 38)) (seqR (fops E ro r237_12) retR) skipR)) (seqR (fops E ro r237_13) retR))))
theorem r237_0_go : fops E ro r237_0 a u σ = fops E ro (r237_0U ()) a u σ := rfl
theorem r237_1_go : fops E ro r237_1 a u σ = fops E ro (r237_1U ()) a u σ := rfl
theorem r237_2_go : fops E ro r237_2 a u σ = fops E ro (r237_2U ()) a u σ := rfl
theorem r237_3_go : fops E ro r237_3 a u σ = fops E ro (r237_3U ()) a u σ := rfl
theorem r237_4_go : fops E ro r237_4 a u σ = fops E ro (r237_4U ()) a u σ := rfl
theorem r237_5_go : fops E ro r237_5 a u σ = fops E ro (r237_5U ()) a u σ := rfl
theorem r237_6_go : fops E ro r237_6 a u σ = fops E ro (r237_6U ()) a u σ := rfl
theorem r237_7_go : fops E ro r237_7 a u σ = fops E ro (r237_7U ()) a u σ := rfl
theorem r237_8_go : fops E ro r237_8 a u σ = fops E ro (r237_8U ()) a u σ := rfl
theorem r237_9_go : fops E ro r237_9 a u σ = fops E ro (r237_9U ()) a u σ := rfl
theorem r237_10_go : fops E ro r237_10 a u σ = fops E ro (r237_10U ()) a u σ := rfl
theorem r237_11_go : fops E ro r237_11 a u σ = fops E ro (r237_11U ()) a u σ := rfl
theorem r237_12_go : fops E ro r237_12 a u σ = fops E ro (r237_12U ()) a u σ := rfl
theorem r237_13_go : fops E ro r237_13 a u σ = fops E ro (r237_13U ()) a u σ := rfl
theorem code237 (E : Env) (ro : Option Nat) (fn : FuncId) : code Tryz.prog nls (Tryz.f237.body.getD .skip) E ro fn = run237 E ro fn := by kernel_rfl
theorem enter237 (E : Env) (args : List Value) (u : Option FrameMode) (σ : FState) (hn : args.length ≤ (11 : Nat)) : fcall Tryz.prog nls E 237 args u σ = leaveR Tryz.prog E [.tmp 6] (run237 E none 237 ⟨padTo undef 11 args, fun _ => undef, 11, 39, []⟩ u σ) := by
  rw [fcall_of (body := Tryz.f237.body.getD .skip) Tryz.func237 rfl E args u σ 11 39 (by kernel_rfl) rfl ⟨hn, by decide⟩, code237]
  rfl
/-! strings.Compare -/
noncomputable def r227_0U (_ : Unit) : List COp := [⟨fun a σ => .val (.int .i64 0) σ, (some 4), fun _ => some true⟩]
noncomputable def r227_0 : List COp := r227_0U ()
noncomputable def r227_1U (_ : Unit) : List COp := [⟨fun a σ => .val (a.get 0) σ, (some 5), fun _ => some true⟩,
  ⟨fun a σ => .val (a.get 1) σ, (some 6), fun _ => some true⟩,
  ⟨fun a σ => .enter 228 [(a.get 5), (a.get 6)] σ, (some 7), fun _ => some true⟩,
  ⟨fun a σ => .val (a.get 7) σ, (some 4), fun _ => some true⟩]
noncomputable def r227_1 : List COp := r227_1U ()
noncomputable def run227 (E : Env) (ro : Option Nat) (fn : FuncId) : RunF := (seqR (fops E ro r227_0) (seqR (fops E ro r227_1) retR))
theorem r227_0_go : fops E ro r227_0 a u σ = fops E ro (r227_0U ()) a u σ := rfl
theorem r227_1_go : fops E ro r227_1 a u σ = fops E ro (r227_1U ()) a u σ := rfl
theorem code227 (E : Env) (ro : Option Nat) (fn : FuncId) : code Tryz.prog nls (Tryz.f227.body.getD .skip) E ro fn = run227 E ro fn := by kernel_rfl
theorem enter227 (E : Env) (args : List Value) (u : Option FrameMode) (σ : FState) (hn : args.length ≤ (4 : Nat)) : fcall Tryz.prog nls E 227 args u σ = leaveR Tryz.prog E [.tmp 4] (run227 E none 227 ⟨padTo undef 4 args, fun _ => undef, 4, 8, []⟩ u σ) := by
  rw [fcall_of (body := Tryz.f227.body.getD .skip) Tryz.func227 rfl E args u σ 4 8 (by kernel_rfl) rfl ⟨hn, by decide⟩, code227]
  rfl
/-! internal/bytealg.CompareString -/
noncomputable def r228_0U (_ : Unit) : List COp := [⟨fun a σ => .val (.int .i64 0) σ, (some 4), fun _ => some true⟩]
noncomputable def r228_0 : List COp := r228_0U ()
noncomputable def r228_1U (_ : Unit) : List COp := [⟨fun a σ => .val (a.get 0) σ, (some 5), fun _ => some true⟩,
  ⟨fun a σ => .val (a.get 1) σ, (some 6), fun _ => some true⟩,
  ⟨fun a σ => .enter 229 [(a.get 5), (a.get 6)] σ, (some 7), fun _ => some true⟩,
  ⟨fun a σ => .val (a.get 7) σ, (some 4), fun _ => some true⟩]
noncomputable def r228_1 : List COp := r228_1U ()
noncomputable def run228 (E : Env) (ro : Option Nat) (fn : FuncId) : RunF := (seqR (fops E ro r228_0) (seqR (fops E ro r228_1) retR))
theorem r228_0_go : fops E ro r228_0 a u σ = fops E ro (r228_0U ()) a u σ := rfl
theorem r228_1_go : fops E ro r228_1 a u σ = fops E ro (r228_1U ()) a u σ := rfl
theorem code228 (E : Env) (ro : Option Nat) (fn : FuncId) : code Tryz.prog nls (Tryz.f228.body.getD .skip) E ro fn = run228 E ro fn := by kernel_rfl
theorem enter228 (E : Env) (args : List Value) (u : Option FrameMode) (σ : FState) (hn : args.length ≤ (4 : Nat)) : fcall Tryz.prog nls E 228 args u σ = leaveR Tryz.prog E [.tmp 4] (run228 E none 228 ⟨padTo undef 4 args, fun _ => undef, 4, 8, []⟩ u σ) := by
  rw [fcall_of (body := Tryz.f228.body.getD .skip) Tryz.func228 rfl E args u σ 4 8 (by kernel_rfl) rfl ⟨hn, by decide⟩, code228]
  rfl
/-! caracole/guard.Call[int] -/
noncomputable def r79_0U (_ : Unit) : List COp := [⟨fun a σ => .val (.int .i64 0) σ, (some 2), fun _ => some true⟩,
  ⟨fun a σ => .val (.int .i64 0) σ, (some 3), fun _ => some true⟩]
noncomputable def r79_0 : List COp := r79_0U ()
noncomputable def r79_1U (_ : Unit) : List COp := [⟨fun a σ => .val (a.get 0) σ, (some 8), fun _ => some true⟩,
  ⟨fun a σ => .enter 129 [(a.get 8)] σ, (some 9), fun _ => some true⟩,
  ⟨fun a σ => .val (a.get 9) σ, (some 7), fun _ => some true⟩,
  ⟨fun a σ => fextract 0 (a.get 7) σ, (some 10), fun _ => some true⟩,
  ⟨fun a σ => fextract 1 (a.get 7) σ, (some 11), fun _ => some true⟩,
  ⟨fun a σ => fextract 2 (a.get 7) σ, (some 12), fun _ => some true⟩,
  ⟨fun a σ => .val (a.get 10) σ, (some 4), fun _ => some true⟩,
  ⟨fun a σ => .val (a.get 11) σ, (some 5), fun _ => some true⟩,
  ⟨fun a σ => .val (a.get 12) σ, (some 6), fun _ => some true⟩]
noncomputable def r79_1 : List COp := r79_1U ()
noncomputable def r79_2U (_ : Unit) : List COp := [⟨fun a σ => .val (a.get 4) σ, (some 13), fun _ => some true⟩,
  ⟨fun a σ => .val (a.get 6) σ, (some 14), fun _ => some true⟩,
  ⟨fun a σ => .val (a.get 13) σ, (some 2), fun _ => some true⟩,
  ⟨fun a σ => .val (a.get 14) σ, (some 3), fun _ => some true⟩]
noncomputable def r79_2 : List COp := r79_2U ()
noncomputable def run79 (E : Env) (ro : Option Nat) (fn : FuncId) : RunF := (seqR (fops E ro r79_0) (seqR (fops E ro r79_1) (seqR (fops E ro r79_2) retR)))
theorem r79_0_go : fops E ro r79_0 a u σ = fops E ro (r79_0U ()) a u σ := rfl
theorem r79_1_go : fops E ro r79_1 a u σ = fops E ro (r79_1U ()) a u σ := rfl
theorem r79_2_go : fops E ro r79_2 a u σ = fops E ro (r79_2U ()) a u σ := rfl
theorem code79 (E : Env) (ro : Option Nat) (fn : FuncId) : code Tryz.prog nls (Tryz.f79.body.getD .skip) E ro fn = run79 E ro fn := by kernel_rfl
theorem enter79 (E : Env) (args : List Value) (u : Option FrameMode) (σ : FState) (hn : args.length ≤ (7 : Nat)) : fcall Tryz.prog nls E 79 args u σ = leaveR Tryz.prog E [.tmp 2, .tmp 3] (run79 E none 79 ⟨padTo undef 7 args, fun _ => undef, 7, 15, []⟩ u σ) := by
  rw [fcall_of (body := Tryz.f79.body.getD .skip) Tryz.func79 rfl E args u σ 7 15 (by kernel_rfl) rfl ⟨hn, by decide⟩, code79]
  rfl
/-! caracole/guard.CallAt[int] -/
noncomputable def r129_0U (_ : Unit) : List COp := [⟨fun a σ => .val (.int .i64 0) σ, (some 2), fun _ => some true⟩,
  ⟨fun a σ => newCells [(.int .i64 0)] 3 none σ, (some 3), fun _ => some true⟩,
  ⟨fun a σ => newCells [(.int .i64 0)] 32 none σ, (some 4), fun _ => some true⟩]
noncomputable def r129_0 : List COp := r129_0U ()
noncomputable def r129_1U (_ : Unit) : List COp := [⟨fun a σ => .val (.func (.func 157) #[] #[(a.get 3), (a.get 4)]) σ, (some 5), fun _ => some true⟩,
  ⟨fun a σ => fdefer (a.get 5) [] σ, none, fun _ => some true⟩]
noncomputable def r129_1 : List COp := r129_1U ()
noncomputable def r129_2U (_ : Unit) : List COp := [⟨fun a σ => .val (a.get 0) σ, (some 6), fun _ => some true⟩,
  ⟨fun a σ => fcallV (a.get 6) [] σ, (some 7), fun _ => some true⟩,
  ⟨fun a σ => .val (a.get 7) σ, (some 2), fun _ => some true⟩,
  ⟨fun a σ => fstore 1 (a.get 3) (.int .i64 0) σ, none, fun _ => some true⟩,
  ⟨fun a σ => fstore 1 (a.get 4) (.int .i64 0) σ, none, fun _ => some true⟩]
noncomputable def r129_2 : List COp := r129_2U ()
noncomputable def run129 (E : Env) (ro : Option Nat) (fn : FuncId) : RunF := (seqR (fops E ro r129_0) (seqR (fops E ro r129_1) (seqR (fops E ro r129_2) retR)))
theorem r129_0_go : fops E ro r129_0 a u σ = fops E ro (r129_0U ()) a u σ := rfl
theorem r129_1_go : fops E ro r129_1 a u σ = fops E ro (r129_1U ()) a u σ := rfl
theorem r129_2_go : fops E ro r129_2 a u σ = fops E ro (r129_2U ()) a u σ := rfl
theorem code129 (E : Env) (ro : Option Nat) (fn : FuncId) : code Tryz.prog nls (Tryz.f129.body.getD .skip) E ro fn = run129 E ro fn := by kernel_rfl
theorem enter129 (E : Env) (args : List Value) (u : Option FrameMode) (σ : FState) (hn : args.length ≤ (5 : Nat)) : fcall Tryz.prog nls E 129 args u σ = leaveR Tryz.prog E [.tmp 2, .cell 3 3, .cell 4 32] (run129 E none 129 ⟨padTo undef 5 args, fun _ => undef, 5, 8, []⟩ u σ) := by
  rw [fcall_of (body := Tryz.f129.body.getD .skip) Tryz.func129 rfl E args u σ 5 8 (by kernel_rfl) rfl ⟨hn, by decide⟩, code129]
  rfl
/-! caracole/guard.CallAt[int]$1 -/
noncomputable def r157_0U (_ : Unit) : List COp := [⟨fun a σ => .recover σ, (some 6), fun _ => some true⟩]
noncomputable def r157_0 : List COp := r157_0U ()
noncomputable def r157_3U (_ : Unit) : List COp := [⟨fun a σ => i_eql Tryz.prog 20 (.tmp 6) (.const .nilIface) (a.get 6) .nilIface σ, (some 7), fun _ => some true⟩]
noncomputable def r157_3 : List COp := r157_3U ()
noncomputable def r157_4U (_ : Unit) : List COp := [⟨fun a σ => .val (a.get 6) σ, (some 2), fun _ => some true⟩]
noncomputable def r157_4 : List COp := r157_4U ()
noncomputable def r157_5U (_ : Unit) : List COp := [⟨fun a σ => fassert Tryz.prog (a.get 6) 176 true σ, (some 8), fun _ => some true⟩,
  ⟨fun a σ => fextract 1 (a.get 8) σ, (some 9), fun _ => some true⟩,
  ⟨fun a σ => fextract 0 (a.get 8) σ, (some 10), fun _ => some true⟩]
noncomputable def r157_5 : List COp := r157_5U ()
noncomputable def r157_6U (_ : Unit) : List COp := [⟨fun a σ => .val (a.get 10) σ, (some 3), fun _ => some true⟩]
noncomputable def r157_6 : List COp := r157_6U ()
noncomputable def r157_7U (_ : Unit) : List COp := [⟨fun a σ => .val (a.get 3) σ, (some 11), fun _ => some true⟩,
  ⟨fun a σ => .enter 148 [(a.get 11)] σ, (some 12), fun _ => some true⟩,
  ⟨fun a σ => newCells [(.int .i64 0), (.int .i64 0)] 178 none σ, (some 4), fun _ => some true⟩,
  ⟨fun a σ => fstore 2 (a.get 4) (a.get 12) σ, none, fun _ => some true⟩]
noncomputable def r157_7 : List COp := r157_7U ()
noncomputable def r157_8U (_ : Unit) : List DOp := [⟨fun a σ => ffield 1 (a.get 4) σ, (some 13), fun _ => some true, (some 0), false⟩,
  ⟨fun a σ => fload none (a.get 13) σ, (some 14), fun _ => some true, (some 0), false⟩,
  ⟨fun a σ => fstore 1 (a.get 0) (a.get 14) σ, none, fun _ => some true, none, false⟩,
  ⟨fun a σ => ffield 0 (a.get 4) σ, (some 15), fun _ => some true, (some 0), false⟩,
  ⟨fun a σ => fload none (a.get 15) σ, (some 16), fun _ => some true, (some 0), false⟩,
  ⟨fun a σ => fstore 1 (a.get 1) (a.get 16) σ, none, fun _ => some true, none, true⟩]
noncomputable def r157_8 : List DOp := r157_8U ()
noncomputable def r157_1U (_ : Unit) : List COp := [⟨fun a σ => .val (a.get 6) σ, (some 5), fun _ => some true⟩]
noncomputable def r157_1 : List COp := r157_1U ()
noncomputable def r157_2U (_ : Unit) : List COp := [⟨fun a σ => fstore 1 (a.get 1) (.int .i64 1) σ, none, fun _ => some true⟩]
noncomputable def r157_2 : List COp := r157_2U ()
noncomputable def run157 (E : Env) (ro : Option Nat) (fn : FuncId) : RunF := (seqR (fops E ro r157_0) (blockR 0 (seqR (fops E ro r157_3) (condR (fun a => (a.get 7)) (fops E ro r157_4) (seqR (fops E ro r157_5) (condR (fun a => (a.get 9)) (seqR (fops E ro r157_6) (seqR (fops E ro r157_7) (drawR E ro r157_8))) (seqR (fops E ro r157_1) (fops E ro r157_2))))))))
theorem r157_0_go : fops E ro r157_0 a u σ = fops E ro (r157_0U ()) a u σ := rfl
theorem r157_3_go : fops E ro r157_3 a u σ = fops E ro (r157_3U ()) a u σ := rfl
theorem r157_4_go : fops E ro r157_4 a u σ = fops E ro (r157_4U ()) a u σ := rfl
theorem code157 (E : Env) (ro : Option Nat) (fn : FuncId) : code Tryz.prog nls (Tryz.f157.body.getD .skip) E ro fn = run157 E ro fn := by kernel_rfl
theorem enter157 (E : Env) (args : List Value) (u : Option FrameMode) (σ : FState) (hn : args.length ≤ (6 : Nat)) : fcall Tryz.prog nls E 157 args u σ = leaveR Tryz.prog E [] (run157 E none 157 ⟨padTo undef 6 args, fun _ => undef, 6, 17, []⟩ u σ) := by
  rw [fcall_of (body := Tryz.f157.body.getD .skip) Tryz.func157 rfl E args u σ 6 17 (by kernel_rfl) rfl ⟨hn, by decide⟩, code157]
  rfl
end Go.Proofs.YtokieofohmgjdaaGreatDoor
/- An order of data: by kind, number, text, and parts. -/
namespace Go.Eng
open Go
def ordZ (a b : Int) : Int := if a < b then -1 else if a > b then 1 else 0
theorem ordZ_zero {a b : Int} : ordZ a b = 0 ↔ a = b := by
  unfold ordZ
  split
  · omega
  · split <;> omega
theorem ordZ_neg {a b : Int} : ordZ a b < 0 ↔ a < b := by
  unfold ordZ
  split
  · omega
  · split <;> omega
theorem ordZ_swap (a b : Int) : ordZ b a = - ordZ a b := by
  unfold ordZ
  split <;> split <;> (try split) <;> omega
theorem ordZ_range (a b : Int) : -1 ≤ ordZ a b ∧ ordZ a b ≤ 1 := by
  unfold ordZ
  split
  · omega
  · split <;> omega
/-! Texts. -/
abbrev cmpT (a b : ByteArray) : Int := Extern.BytealgCompare.cmp a b
/-- a comes before b. -/
def LtT (a b : ByteArray) : Prop := ∃ i, (∀ j, j < i → a[j]! = b[j]!) ∧ i ≤ a.size ∧ i < b.size ∧ (i = a.size ∨ a[i]! < b[i]!)
theorem cmpT_cases (a b : ByteArray) : (LtT a b ∧ cmpT a b = -1) ∨ (LtT b a ∧ cmpT a b = 1) ∨ (a = b ∧ cmpT a b = 0) := by
  unfold cmpT Extern.BytealgCompare.cmp
  cases h : (List.range (min a.size b.size)).find? fun i => a[i]! != b[i]! with
  | some i =>
    rw [List.find?_range_eq_some] at h
    obtain ⟨h1, h2, h3⟩ := h
    rw [List.mem_range] at h2
    have h3' : ∀ j, j < i → a[j]! = b[j]! := fun j hj => by
      have := h3 j hj
      simpa using this
    have h1' : a[i]! ≠ b[i]! := by simpa using h1
    simp only
    by_cases hl : a[i]! < b[i]!
    · rw [if_pos hl]
      exact .inl ⟨⟨i, h3', by omega, by omega, .inr hl⟩, rfl⟩
    · rw [if_neg hl]
      refine .inr (.inl ⟨⟨i, fun j hj => (h3' j hj).symm, by omega, by omega, .inr ?_⟩, rfl⟩)
      rcases UInt8.lt_or_eq_of_le (UInt8.not_lt.1 hl) with h | h
      · exact h
      · exact absurd h.symm h1'
  | none =>
    rw [List.find?_eq_none] at h
    have h' : ∀ j, j < min a.size b.size → a[j]! = b[j]! := fun j hj => by
      have := h j (List.mem_range.2 hj)
      simpa using this
    simp only
    by_cases h1 : a.size < b.size
    · rw [if_pos h1]
      exact .inl ⟨⟨a.size, fun j hj => h' j (by omega), Nat.le_refl _, h1, .inl rfl⟩, rfl⟩
    · rw [if_neg h1]
      by_cases h2 : a.size > b.size
      · rw [if_pos h2]
        exact .inr (.inl ⟨⟨b.size, fun j hj => (h' j (by omega)).symm, Nat.le_refl _, h2, .inl rfl⟩, rfl⟩)
      · rw [if_neg h2]
        refine .inr (.inr ⟨?_, rfl⟩)
        apply ByteArray.ext
        apply Array.ext
        · show a.size = b.size; omega
        · intro i h3 h4
          have h5 : i < a.size := h3
          have h6 : i < b.size := h4
          have := h' i (by omega)
          rw [getElem!_pos a i h5, getElem!_pos b i h6] at this
          exact this
theorem LtT.irrefl {a : ByteArray} (h : LtT a a) : False := by
  obtain ⟨i, _, _, h2, h3⟩ := h
  rcases h3 with h3 | h3
  · omega
  · exact UInt8.lt_irrefl _ h3
theorem LtT.trans {a b c : ByteArray} (h : LtT a b) (h' : LtT b c) : LtT a c := by
  obtain ⟨i, h1, h2, h3, h4⟩ := h
  obtain ⟨k, k1, k2, k3, k4⟩ := h'
  by_cases hik : i < k
  · refine ⟨i, fun j hj => (h1 j hj).trans (k1 j (by omega)), h2, by omega, ?_⟩
    rw [← k1 i hik]
    exact h4
  · by_cases hki : k < i
    · refine ⟨k, fun j hj => (h1 j (by omega)).trans (k1 j hj), by omega, k3, ?_⟩
      rcases k4 with k4 | k4
      · omega
      · rw [h1 k hki]
        exact .inr k4
    · obtain rfl : i = k := by omega
      refine ⟨i, fun j hj => (h1 j hj).trans (k1 j hj), h2, k3, ?_⟩
      rcases k4 with k4 | k4
      · omega
      · rcases h4 with h4 | h4
        · exact .inl h4
        · exact .inr (UInt8.lt_trans h4 k4)
theorem cmpT_neg {a b : ByteArray} : cmpT a b < 0 ↔ LtT a b := by
  rcases cmpT_cases a b with ⟨h, e⟩ | ⟨h, e⟩ | ⟨h, e⟩
  · exact ⟨fun _ => h, fun _ => by omega⟩
  · exact ⟨fun h' => by omega, fun h' => (h.trans h').irrefl.elim⟩
  · subst h
    exact ⟨fun h' => by omega, fun h' => h'.irrefl.elim⟩
theorem cmpT_zero {a b : ByteArray} : cmpT a b = 0 ↔ a = b := by
  rcases cmpT_cases a b with ⟨h, e⟩ | ⟨h, e⟩ | ⟨h, e⟩
  · exact ⟨fun h' => by omega, fun h' => by subst h'; exact h.irrefl.elim⟩
  · exact ⟨fun h' => by omega, fun h' => by subst h'; exact h.irrefl.elim⟩
  · exact ⟨fun _ => h, fun _ => e⟩
theorem cmpT_swap (a b : ByteArray) : cmpT b a = - cmpT a b := by
  rcases cmpT_cases a b with ⟨h, e⟩ | ⟨h, e⟩ | ⟨h, e⟩
  · rcases cmpT_cases b a with ⟨h', e'⟩ | ⟨h', e'⟩ | ⟨h', e'⟩
    · exact (h.trans h').irrefl.elim
    · omega
    · subst h'; exact h.irrefl.elim
  · rcases cmpT_cases b a with ⟨h', e'⟩ | ⟨h', e'⟩ | ⟨h', e'⟩
    · omega
    · exact (h.trans h').irrefl.elim
    · subst h'; exact h.irrefl.elim
  · subst h
    omega
theorem cmpT_range (a b : ByteArray) : -1 ≤ cmpT a b ∧ cmpT a b ≤ 1 := by
  rcases cmpT_cases a b with ⟨_, e⟩ | ⟨_, e⟩ | ⟨_, e⟩ <;> omega
/-! Data. -/
def thenI (a b : Int) : Int := if a = 0 then b else a
theorem thenI_zero {a b : Int} : thenI a b = 0 ↔ a = 0 ∧ b = 0 := by
  unfold thenI
  split <;> omega
theorem thenI_swap (a b : Int) : thenI (-a) (-b) = - thenI a b := by
  unfold thenI
  split <;> split <;> omega
theorem thenI_range {a b : Int} (h : -1 ≤ a ∧ a ≤ 1) (h' : -1 ≤ b ∧ b ≤ 1) : -1 ≤ thenI a b ∧ thenI a b ≤ 1 := by
  unfold thenI
  split <;> omega
theorem thenI_le {a b : Int} : thenI a b ≤ 0 ↔ a < 0 ∨ (a = 0 ∧ b ≤ 0) := by
  unfold thenI
  split <;> omega
mutual
def ordU : D → D → Int
  | .mk k z t ds, .mk k' z' t' es => thenI (ordZ k k') (thenI (ordZ z z') (thenI (cmpT t t') (ordUs ds es)))
def ordUs : List D → List D → Int
  | [], [] => 0
  | [], _ :: _ => -1
  | _ :: _, [] => 1
  | d :: ds, e :: es => thenI (ordU d e) (ordUs ds es)
end
mutual
theorem ordU_zero : ∀ d e : D, ordU d e = 0 ↔ d = e
  | .mk k z t ds, .mk k' z' t' es => by
    rw [ordU, thenI_zero, thenI_zero, thenI_zero, ordZ_zero, ordZ_zero, cmpT_zero, ordUs_zero ds es, D.mk.injEq]
theorem ordUs_zero : ∀ ds es : List D, ordUs ds es = 0 ↔ ds = es
  | [], [] => by simp [ordUs]
  | [], _ :: _ => by simp [ordUs]
  | _ :: _, [] => by simp [ordUs]
  | d :: ds, e :: es => by rw [ordUs, thenI_zero, ordU_zero d e, ordUs_zero ds es, List.cons.injEq]
end
mutual
theorem ordU_swap : ∀ d e : D, ordU e d = - ordU d e
  | .mk k z t ds, .mk k' z' t' es => by
    rw [ordU, ordU, ordZ_swap k k', ordZ_swap z z', cmpT_swap t t', ordUs_swap ds es, thenI_swap, thenI_swap, thenI_swap]
theorem ordUs_swap : ∀ ds es : List D, ordUs es ds = - ordUs ds es
  | [], [] => by simp [ordUs]
  | [], _ :: _ => by simp [ordUs]
  | _ :: _, [] => by simp [ordUs]
  | d :: ds, e :: es => by rw [ordUs, ordUs, ordU_swap d e, ordUs_swap ds es, thenI_swap]
end
mutual
theorem ordU_range : ∀ d e : D, -1 ≤ ordU d e ∧ ordU d e ≤ 1
  | .mk k z t ds, .mk k' z' t' es => by
    rw [ordU]
    exact thenI_range (ordZ_range _ _) (thenI_range (ordZ_range _ _) (thenI_range (cmpT_range _ _) (ordUs_range ds es)))
theorem ordUs_range : ∀ ds es : List D, -1 ≤ ordUs ds es ∧ ordUs ds es ≤ 1
  | [], [] => by simp [ordUs]
  | [], _ :: _ => by simp [ordUs]
  | _ :: _, [] => by simp [ordUs]
  | d :: ds, e :: es => by
    rw [ordUs]
    exact thenI_range (ordU_range d e) (ordUs_range ds es)
end
theorem trans_step {A B C a b c : Int} (h1 : A < 0 → B < 0 → C < 0) (h2 : A < 0 → B = 0 → C < 0) (h3 : A = 0 → B < 0 → C < 0) (h4 : A = 0 → B = 0 → C = 0) (h5 : a ≤ 0 → b ≤ 0 → c ≤ 0) (ha : thenI A a ≤ 0) (hb : thenI B b ≤ 0) : thenI C c ≤ 0 := by
  rw [thenI_le] at *
  rcases ha with ha | ⟨ha, ha'⟩ <;> rcases hb with hb | ⟨hb, hb'⟩
  · exact .inl (h1 ha hb)
  · exact .inl (h2 ha hb)
  · exact .inl (h3 ha hb)
  · exact .inr ⟨h4 ha hb, h5 ha' hb'⟩
mutual
theorem ordU_trans : ∀ a b c : D, ordU a b ≤ 0 → ordU b c ≤ 0 → ordU a c ≤ 0
  | .mk k1 z1 t1 d1, .mk k2 z2 t2 d2, .mk k3 z3 t3 d3 => by
    rw [ordU, ordU, ordU]
    refine trans_step (fun h h' => ?_) (fun h h' => ?_) (fun h h' => ?_) (fun h h' => ?_) ?_
    · rw [ordZ_neg] at *; omega
    · rw [ordZ_neg] at *; rw [ordZ_zero] at h'; omega
    · rw [ordZ_neg] at *; rw [ordZ_zero] at h; omega
    · rw [ordZ_zero] at *; omega
    refine trans_step (fun h h' => ?_) (fun h h' => ?_) (fun h h' => ?_) (fun h h' => ?_) ?_
    · rw [ordZ_neg] at *; omega
    · rw [ordZ_neg] at *; rw [ordZ_zero] at h'; omega
    · rw [ordZ_neg] at *; rw [ordZ_zero] at h; omega
    · rw [ordZ_zero] at *; omega
    refine trans_step (fun h h' => ?_) (fun h h' => ?_) (fun h h' => ?_) (fun h h' => ?_) (ordUs_trans d1 d2 d3)
    · rw [cmpT_neg] at *; exact h.trans h'
    · rw [cmpT_zero] at h'; subst h'; exact h
    · rw [cmpT_zero] at h; subst h; exact h'
    · rw [cmpT_zero] at *; exact h.trans h'
theorem ordUs_trans : ∀ a b c : List D, ordUs a b ≤ 0 → ordUs b c ≤ 0 → ordUs a c ≤ 0
  | [], [], [] => by simp [ordUs]
  | [], [], _ :: _ => by simp [ordUs]
  | [], _ :: _, [] => by simp [ordUs]
  | [], _ :: _, _ :: _ => by simp [ordUs]
  | _ :: _, [], [] => by simp [ordUs]
  | _ :: _, [], _ :: _ => by simp [ordUs]
  | _ :: _, _ :: _, [] => by simp [ordUs]
  | a :: ar, b :: br, c :: cr => by
    rw [ordUs, ordUs, ordUs]
    have ht := ordU_trans a b c
    have hz := ordU_zero
    refine trans_step (fun h h' => ?_) (fun h h' => ?_) (fun h h' => ?_) (fun h h' => ?_) (ordUs_trans ar br cr)
    · have h1 := ht (by omega) (by omega)
      by_cases h0 : ordU a c = 0
      · have e := (hz a c).1 h0
        subst e
        have := ordU_swap a b
        omega
      · omega
    · rw [hz] at h'; subst h'; exact h
    · rw [hz] at h; subst h; exact h'
    · rw [hz] at *; exact h.trans h'
end
/-- What the statement asks of three numbers. -/
theorem ordU_law (a b c : D) (h : ordU a b ≤ 0) (h' : ordU b c ≤ 0) : ordU a c ≤ 0 ∧ (ordU a c < 0 ∨ (ordU a b = 0 ∧ ordU b c = 0)) := by
  have ht := ordU_trans a b c h h'
  refine ⟨ht, ?_⟩
  by_cases h0 : ordU a c = 0
  · have e := (ordU_zero a c).1 h0
    subst e
    have := ordU_swap a b
    exact .inr ⟨by omega, by omega⟩
  · exact .inl (by omega)
end Go.Eng
/- The order of data: numbers and texts. -/
namespace Go.Proofs.YtokieofohmgjdaaGreatDoor
open Go Go.Eng
attribute [local congr] andThen_congr fops_congr fdraw_congr afterOp_congr drawF_congr
attribute [-go_sem] List.range_succ
def ordI (a b : Int) : Int := if a < b then -1 else if a > b then 1 else 0
theorem ordI_zero (a b : Int) : ordI a b = 0 ↔ a = b := by
  unfold ordI
  constructor
  · intro h
    split at h
    · omega
    · split at h
      · omega
      · omega
  · intro h
    rw [if_neg (by omega), if_neg (by omega)]
theorem isNaN_go (n : Nat) (a : Int) (σ : FState) : (env (n + 1)).call 160 [.int .i64 a] none σ = .ret (.bool false) none σ := by
  rw [env_call _ 160 _ _ rfl, enter160 _ _ _ _ (by simp), Sl_start]
  unfold run160
  have h : (a == a) = true := by simp
  simp -implicitDefEqProofs only [go_sem, ↓reduceIte, Nat.reduceLT, Nat.reduceEqDiff, Nat.reduceAdd, Nat.reduceMul, Nat.reduceLeDiff, Nat.reduceSub, r160_0_go, r160_0U, r160_1_go, r160_1U, Option.getD_some, List.getElem?_cons_zero, h]
theorem cmpInt_go (n : Nat) (a b : Int) (σ : FState) : (env (n + 2)).call 131 [.int .i64 a, .int .i64 b] none σ = .ret (.int .i64 (ordI a b)) none σ := by
  rw [env_call _ 131 _ _ rfl, enter131 _ _ _ _ (by simp), Sl_start]
  unfold run131 ordI
  by_cases h1 : a < b
  · simp -implicitDefEqProofs only [go_sem, ↓reduceIte, Nat.reduceLT, Nat.reduceEqDiff, Nat.reduceAdd, Nat.reduceMul, Nat.reduceLeDiff, Nat.reduceSub, r131_0_go, r131_0U, r131_1_go, r131_1U, r131_2_go, r131_2U, r131_3_go, r131_3U, r131_7_go, r131_7U, r131_9_go, r131_9U, r131_10_go, r131_10U, Option.getD_some, List.getElem?_cons_zero, List.getElem?_cons_succ, isNaN_go, skipR_go, h1, decide_true]
  · by_cases h2 : a > b
    · simp -implicitDefEqProofs only [go_sem, ↓reduceIte, Nat.reduceLT, Nat.reduceEqDiff, Nat.reduceAdd, Nat.reduceMul, Nat.reduceLeDiff, Nat.reduceSub, r131_0_go, r131_0U, r131_1_go, r131_1U, r131_2_go, r131_2U, r131_3_go, r131_3U, r131_7_go, r131_7U, r131_9_go, r131_9U, r131_11_go, r131_11U, r131_12_go, r131_12U, Option.getD_some, List.getElem?_cons_zero, List.getElem?_cons_succ, isNaN_go, skipR_go, h1, h2, decide_true, decide_false]
    · simp -implicitDefEqProofs only [go_sem, ↓reduceIte, Nat.reduceLT, Nat.reduceEqDiff, Nat.reduceAdd, Nat.reduceMul, Nat.reduceLeDiff, Nat.reduceSub, r131_0_go, r131_0U, r131_1_go, r131_1U, r131_2_go, r131_2U, r131_3_go, r131_3U, r131_7_go, r131_7U, r131_9_go, r131_9U, r131_11_go, r131_11U, r131_13_go, r131_13U, Option.getD_some, List.getElem?_cons_zero, List.getElem?_cons_succ, isNaN_go, skipR_go, h1, h2, decide_true, decide_false]
theorem cmpRun_go (n : Nat) (a b : ByteArray) (σ : FState) : (env (n + 1)).call 229 [.string a, .string b] none σ = .ret (.int .i64 (Extern.BytealgCompare.cmp a b)) none σ := by
  rw [env_call _ 229 _ _ rfl]
  unfold fcall
  have h : (cfn Tryz.prog nls 229).un = none := by kernel_rfl
  rw [h]
  show fextern Tryz.prog 229 [.string a, .string b] none σ = _
  unfold fextern
  have h2 : prun Tryz.prog (callFunc 229 [Value.string a, .string b].toArray) = some (.ok (.value (.int .i64 (Extern.BytealgCompare.cmp a b)))) := by kernel_rfl
  rw [h2]
  rfl
theorem cmpText_go (n : Nat) (a b : ByteArray) (σ : FState) : (env (n + 3)).call 227 [.string a, .string b] none σ = .ret (.int .i64 (Extern.BytealgCompare.cmp a b)) none σ := by
  rw [env_call _ 227 _ _ rfl, enter227 _ _ _ _ (by simp), Sl_start]
  unfold run227
  have e : (env (n + 2)).call 228 [.string a, .string b] none σ = .ret (.int .i64 (Extern.BytealgCompare.cmp a b)) none σ := by
    rw [env_call _ 228 _ _ rfl, enter228 _ _ _ _ (by simp), Sl_start]
    unfold run228
    simp -implicitDefEqProofs only [go_sem, ↓reduceIte, Nat.reduceLT, Nat.reduceEqDiff, Nat.reduceAdd, Nat.reduceMul, Nat.reduceLeDiff, Nat.reduceSub, r228_0_go, r228_0U, r228_1_go, r228_1U, Option.getD_some, List.getElem?_cons_zero, List.getElem?_cons_succ, cmpRun_go]
  simp -implicitDefEqProofs only [go_sem, ↓reduceIte, Nat.reduceLT, Nat.reduceEqDiff, Nat.reduceAdd, Nat.reduceMul, Nat.reduceLeDiff, Nat.reduceSub, r227_0_go, r227_0U, r227_1_go, r227_1U, Option.getD_some, List.getElem?_cons_zero, List.getElem?_cons_succ, e]
end Go.Proofs.YtokieofohmgjdaaGreatDoor
/- The order of data: lists of parts. -/
namespace Go.Proofs.YtokieofohmgjdaaGreatDoor
open Go Go.Eng
attribute [local congr] andThen_congr fops_congr fdraw_congr afterOp_congr drawF_congr
attribute [-go_sem] List.range_succ
def OrdR (d e : D) (r : Value) : Prop := r = .int .i64 (ordU d e)
theorem ordUs_drop : ∀ (i : Nat) (ds es : List D), ds.take i = es.take i → i ≤ ds.length → i ≤ es.length → ordUs ds es = ordUs (ds.drop i) (es.drop i)
  | 0, ds, es, _, _, _ => rfl
  | i + 1, d :: ds, e :: es, h, h1, h2 => by
    rw [List.take_succ_cons, List.take_succ_cons, List.cons.injEq] at h
    obtain ⟨rfl, h⟩ := h
    rw [ordUs, thenI, if_pos ((ordU_zero d d).2 rfl), List.drop_succ_cons, List.drop_succ_cons]
    exact ordUs_drop i ds es h (by simpa using h1) (by simpa using h2)
  | i + 1, [], es, _, h1, _ => by simp at h1
  | i + 1, d :: ds, [], _, _, h2 => by simp at h2
theorem ordUs_at {ds es : List D} {i : Nat} (h : ds.take i = es.take i) (h1 : i < ds.length) (h2 : i < es.length) (hne : ordU ds[i] es[i] ≠ 0) : ordUs ds es = ordU ds[i] es[i] := by
  rw [ordUs_drop i ds es h (by omega) (by omega), List.drop_eq_getElem_cons h1, List.drop_eq_getElem_cons h2, ordUs, thenI, if_neg hne]
theorem ordUs_long {ds es : List D} (h : ds.take es.length = es.take es.length) (h1 : es.length < ds.length) : ordUs ds es = 1 := by
  rw [ordUs_drop es.length ds es h (by omega) (Nat.le_refl _), List.drop_eq_getElem_cons h1, List.drop_length, ordUs]
theorem ordUs_short {ds es : List D} (h : ds = es.take ds.length) (h1 : ds.length < es.length) : ordUs ds es = -1 := by
  rw [ordUs_drop ds.length ds es (by rw [List.take_length]; exact h) (Nat.le_refl _) (by omega), List.drop_length, List.drop_eq_getElem_cons h1, ordUs]
theorem cf_loop (m : Nat) (R : Nat → Prop) (ds es : List D) (p p' : Option Addr) (c c' : Nat) (hds : ds.length < 1000000) (hes : es.length < 1000000)
    (hO : ∀ (i : Nat) (d e : D), ds[i]? = some d → es[i]? = some e → ∀ v w σ', Wf σ' → LaidR R σ' v d → LaidR R σ' w e → Gives ((env m).call 88 [v, w] none σ') σ' fun r _ => OrdR d e r) :
    ∀ (j fuel i : Nat) (f g : Nat → Value) (σ : FState), ds.length - i = j → j < fuel → i ≤ ds.length → i ≤ es.length → ds.take i = es.take i → Wf σ → LaidRE R σ p 0 ds → LaidRE R σ p' 0 es →
      f 0 = .slice p ds.length c → f 1 = .slice p' es.length c' → f 2 = .func (.func 88) #[] #[] → g 11 = .slice p ds.length c → g 12 = .int .i64 (.ofNat ds.length) → g 13 = .int .i64 (.ofNat i) →
      ∃ f' g' σ', Ext σ σ' ∧ Wf σ' ∧
        ((floop (keepOf nls 237) (l237_0 (env m) none 237) fuel (Sl 11 39 f g []) none σ = .done .ret (Sl 11 39 f' g' []) none σ' ∧ f' 6 = .int .i64 (ordUs ds es)) ∨
         (floop (keepOf nls 237) (l237_0 (env m) none 237) fuel (Sl 11 39 f g []) none σ = .done (.exit 0) (Sl 11 39 f' g' []) none σ' ∧ f' 0 = .slice p ds.length c ∧ f' 1 = .slice p' es.length c' ∧ ds = es.take ds.length ∧ ds.length ≤ es.length)) := by
  intro j
  have hkeep : keepOf nls 237 = [11, 12, 13, 34, 35, 36, 37, 38] := by kernel_rfl
  induction j with
  | zero =>
    intro fuel i f g σ hj hf hi hi' htk hw hE hE' f0 f1 f2 g11 g12 g13
    obtain ⟨fuel, rfl⟩ : ∃ q, fuel = q + 1 := ⟨fuel - 1, by omega⟩
    obtain rfl : i = ds.length := by omega
    have d0 : decide (Int.ofNat ds.length < Int.ofNat ds.length) = false := by simp
    rw [floop_step, hkeep]
    unfold l237_0
    simp -implicitDefEqProofs only [go_sem, ↓reduceIte, Nat.reduceLT, Nat.reduceEqDiff, Nat.reduceAdd, Nat.reduceMul, Nat.reduceLeDiff, Nat.reduceSub, List.mem_cons, true_or, false_or, r237_2_go, r237_2U, g12, g13, d0]
    exact ⟨_, _, _, Ext.refl _, hw, .inr ⟨rfl, f0, f1, by rw [List.take_length] at htk; exact htk, hi'⟩⟩
  | succ j ih =>
    intro fuel i f g σ hj hf hi hi' htk hw hE hE' f0 f1 f2 g11 g12 g13
    obtain ⟨fuel, rfl⟩ : ∃ q, fuel = q + 1 := ⟨fuel - 1, by omega⟩
    have hlt : i < ds.length := by omega
    have d0 : decide (Int.ofNat i < Int.ofNat ds.length) = true := by simp; omega
    have hd : ds[i]? = some ds[i] := List.getElem?_eq_getElem hlt
    obtain ⟨b, off, cs, rfl, hRb, hcs, hle, hL⟩ := LaidRE.get hE hd
    rw [Nat.zero_add] at hle hL
    obtain ⟨l4, e4, hl4, ho4⟩ := hL.agg
    have e4' : (cs.drop (off + i * 4)).take 4 = l4 := by
      have := Value.agg.inj e4
      simpa using congrArg Array.toList this
    rw [e4'] at hL
    have tl4 : l4.take 4 = l4 := List.take_of_length_le (by omega)
    have x1 : Ext σ ((σ.push (.cells [.int .i64 0, .int .i64 0, .string ⟨#[]⟩, .slice none 0 0] TD) none).put σ.next (.cells l4 TD) none) := ((Ext.refl _).push _ _).put _ _ _ (Nat.le_refl _)
    have hw1 := (hw.push (.cells [.int .i64 0, .int .i64 0, .string ⟨#[]⟩, .slice none 0 0] TD) none).put σ.next (.cells l4 TD) none (Nat.lt_succ_self _)
    have b1 : ((σ.push (.cells [.int .i64 0, .int .i64 0, .string ⟨#[]⟩, .slice none 0 0] TD) none).put σ.next (.cells l4 TD) none).cells σ.next = some l4 := by rw [cells_put, if_pos rfl]; rfl
    have n1 : ((σ.push (.cells [.int .i64 0, .int .i64 0, .string ⟨#[]⟩, .slice none 0 0] TD) none).put σ.next (.cells l4 TD) none).next = σ.next + 1 := rfl
    rw [floop_step, hkeep]
    unfold l237_0
    by_cases hc : i = es.length
    · subst hc
      have d1 : decide (Int.ofNat es.length ≥ Int.ofNat es.length) = true := by simp
      simp -implicitDefEqProofs only [go_sem, ↓reduceIte, Nat.reduceLT, Nat.reduceEqDiff, Nat.reduceAdd, Nat.reduceMul, Nat.reduceLeDiff, Nat.reduceSub, fstoreN, List.mem_cons, true_or, false_or, r237_2_go, r237_2U, r237_3_go, r237_3U, r237_4_go, r237_4U, r237_5_go, r237_5U, f1, g11, g12, g13, d0, d1, hlt, hcs, hle, e4', hl4, ho4, skipR_go]
      refine ⟨_, _, _, ?_, ?_, .inl ⟨rfl, by rw [ordUs_long htk hlt]; simp -implicitDefEqProofs only [upd_go, kept_go, ↓reduceIte, Nat.reduceEqDiff, Nat.reduceLT, reduceCtorEq]⟩⟩
      · exact x1
      · exact hw1
    · have hlt' : i < es.length := by omega
      have d1 : decide (Int.ofNat i ≥ Int.ofNat es.length) = false := by simp; omega
      have hd' : es[i]? = some es[i] := List.getElem?_eq_getElem hlt'
      obtain ⟨b', off', cs', rfl, hRb', hcs', hle', hL'⟩ := LaidRE.get hE' hd'
      rw [Nat.zero_add] at hle' hL'
      obtain ⟨m4, e5, hm4, hom4⟩ := hL'.agg
      have e5' : (cs'.drop (off' + i * 4)).take 4 = m4 := by
        have := Value.agg.inj e5
        simpa using congrArg Array.toList this
      rw [e5'] at hL'
      have tm4 : m4.take 4 = m4 := List.take_of_length_le (by omega)
      have x2 := (x1.push (.cells [.int .i64 0, .int .i64 0, .string ⟨#[]⟩, .slice none 0 0] TD) none).put (σ.next + 1) (.cells m4 TD) none (by omega)
      have hw2 := (hw1.push (.cells [.int .i64 0, .int .i64 0, .string ⟨#[]⟩, .slice none 0 0] TD) none).put (σ.next + 1) (.cells m4 TD) none (by rw [push_next, n1]; omega)
      have b12 : ((((σ.push (.cells [.int .i64 0, .int .i64 0, .string ⟨#[]⟩, .slice none 0 0] TD) none).put σ.next (.cells l4 TD) none).push (.cells [.int .i64 0, .int .i64 0, .string ⟨#[]⟩, .slice none 0 0] TD) none).put (σ.next + 1) (.cells m4 TD) none).cells σ.next = some l4 := by rw [cells_put, if_neg (by omega), cells_push, if_neg (by omega)]; exact b1
      have b22 : ((((σ.push (.cells [.int .i64 0, .int .i64 0, .string ⟨#[]⟩, .slice none 0 0] TD) none).put σ.next (.cells l4 TD) none).push (.cells [.int .i64 0, .int .i64 0, .string ⟨#[]⟩, .slice none 0 0] TD) none).put (σ.next + 1) (.cells m4 TD) none).cells (σ.next + 1) = some m4 := by rw [cells_put, if_pos rfl]; rfl
      have hcs1 : ((σ.push (.cells [.int .i64 0, .int .i64 0, .string ⟨#[]⟩, .slice none 0 0] TD) none).put σ.next (.cells l4 TD) none).cells b' = some cs' := (x1.cells (hw.cells hcs')).trans hcs'
      have kR : ∀ (b : Nat) (cs : List Value), R b → σ.cells b = some cs → ((((σ.push (.cells [.int .i64 0, .int .i64 0, .string ⟨#[]⟩, .slice none 0 0] TD) none).put σ.next (.cells l4 TD) none).push (.cells [.int .i64 0, .int .i64 0, .string ⟨#[]⟩, .slice none 0 0] TD) none).put (σ.next + 1) (.cells m4 TD) none).cells b = some cs ∧ R b := fun b cs hb hc => ⟨(x2.cells (hw.cells hc)).trans hc, hb⟩
      obtain ⟨_, σ3, e3, x3, hw3, hr0⟩ := hO i ds[i] es[i] hd hd' _ _ _ hw2 (hL.keep kR) (hL'.keep kR)
      obtain ⟨r, hr⟩ : ∃ r, ordU ds[i] es[i] = r := ⟨_, rfl⟩
      unfold OrdR at hr0
      rw [hr] at hr0
      subst hr0
      by_cases hz : r = 0
      · subst hz
        have heq := (ordU_zero _ _).1 hr
        have a1 := add1 i (by omega)
        have z0 : ((0 : Int) != 0) = false := rfl
        simp -implicitDefEqProofs only [go_sem, ↓reduceIte, Nat.reduceLT, Nat.reduceEqDiff, Nat.reduceAdd, Nat.reduceMul, Nat.reduceLeDiff, Nat.reduceSub, fstoreN, List.mem_cons, true_or, false_or, r237_2_go, r237_2U, r237_3_go, r237_3U, r237_4_go, r237_4U, r237_6_go, r237_6U, r237_7_go, r237_7U, r237_8_go, r237_8U, r237_10_go, r237_10U, f1, f2, g11, g12, g13, d0, d1, hlt, hlt', hcs, hle, e4', hl4, ho4, tl4, hcs1, hle', e5', hm4, hom4, tm4, b12, b22, e3, z0, a1, skipR_go]
        generalize hff : upd _ 10 _ = f2'
        generalize hgg : upd _ 13 _ = g2'
        have ih' := ih fuel (i + 1) f2' g2' σ3 (by omega) (by omega) (by omega) (by omega) (by rw [List.take_add_one, List.take_add_one, htk, hd, hd', heq]) hw3 (hE.keep fun b cs hb hc => ⟨(x3.cells ((hw2).cells (kR b cs hb hc).1)).trans (kR b cs hb hc).1, hb⟩) (hE'.keep fun b cs hb hc => ⟨(x3.cells ((hw2).cells (kR b cs hb hc).1)).trans (kR b cs hb hc).1, hb⟩)
          (by rw [← hff]; simp -implicitDefEqProofs only [upd_go, kept_go, ↓reduceIte, Nat.reduceEqDiff, Nat.reduceLT, reduceCtorEq, f0]) (by rw [← hff]; simp -implicitDefEqProofs only [upd_go, kept_go, ↓reduceIte, Nat.reduceEqDiff, Nat.reduceLT, reduceCtorEq, f1]) (by rw [← hff]; simp -implicitDefEqProofs only [upd_go, kept_go, ↓reduceIte, Nat.reduceEqDiff, Nat.reduceLT, reduceCtorEq, f2]) (by rw [← hgg]; simp -implicitDefEqProofs only [upd_go, kept_go, ↓reduceIte, Nat.reduceEqDiff, Nat.reduceLT, reduceCtorEq, List.mem_cons, true_or, false_or, g11]) (by rw [← hgg]; simp -implicitDefEqProofs only [upd_go, kept_go, ↓reduceIte, Nat.reduceEqDiff, Nat.reduceLT, reduceCtorEq, List.mem_cons, true_or, false_or, or_true, g12]) (by rw [← hgg]; simp -implicitDefEqProofs only [upd_go, kept_go, ↓reduceIte, Nat.reduceEqDiff, Nat.reduceLT, reduceCtorEq])
        rw [hkeep] at ih'
        unfold l237_0 at ih'
        obtain ⟨f3, g3, σ4, x4, hw4, h⟩ := ih'
        exact ⟨f3, g3, σ4, (x2.trans x3).trans x4, hw4, h⟩
      · have z0 : (!(r == 0)) = true := by simpa using hz
        have z1 : (r == 0) = false := by simpa using hz
        simp -implicitDefEqProofs only [go_sem, ↓reduceIte, Nat.reduceLT, Nat.reduceEqDiff, Nat.reduceAdd, Nat.reduceMul, Nat.reduceLeDiff, Nat.reduceSub, fstoreN, List.mem_cons, true_or, false_or, r237_2_go, r237_2U, r237_3_go, r237_3U, r237_4_go, r237_4U, r237_6_go, r237_6U, r237_7_go, r237_7U, r237_8_go, r237_8U, r237_9_go, r237_9U, f1, f2, g11, g12, g13, d0, d1, hlt, hlt', hcs, hle, e4', hl4, ho4, tl4, hcs1, hle', e5', hm4, hom4, tm4, b12, b22, e3, z0, z1, skipR_go]
        refine ⟨_, _, _, x2.trans x3, hw3, .inl ⟨rfl, by rw [ordUs_at htk hlt hlt' (by rw [hr]; exact hz), hr]; simp -implicitDefEqProofs only [upd_go, kept_go, ↓reduceIte, Nat.reduceEqDiff, Nat.reduceLT, reduceCtorEq]⟩⟩
theorem cf_go (m : Nat) (R : Nat → Prop) (ds es : List D) (p p' : Option Addr) (c c' : Nat) (hds : ds.length < 1000000) (hes : es.length < 1000000) (σ : FState) (hw : Wf σ) (hE : LaidRE R σ p 0 ds) (hE' : LaidRE R σ p' 0 es)
    (hO : ∀ (i : Nat) (d e : D), ds[i]? = some d → es[i]? = some e → ∀ v w σ', Wf σ' → LaidR R σ' v d → LaidR R σ' w e → Gives ((env m).call 88 [v, w] none σ') σ' fun r _ => OrdR d e r) :
    Gives ((env (m + 1)).call 237 [.slice p ds.length c, .slice p' es.length c', .func (.func 88) #[] #[]] none σ) σ fun r _ => r = .int .i64 (ordUs ds es) := by
  rw [env_call _ 237 _ _ rfl, enter237 _ _ _ _ (by simp), Sl_start]
  unfold run237
  simp -implicitDefEqProofs only [go_sem, ↓reduceIte, Nat.reduceLT, Nat.reduceEqDiff, Nat.reduceAdd, Nat.reduceMul, Nat.reduceLeDiff, Nat.reduceSub, r237_0_go, r237_0U, r237_1_go, r237_1U, Option.getD_some, List.getElem?_cons_zero, List.getElem?_cons_succ]
  generalize hbf : bigFuel = fuel
  generalize hff : upd _ 6 _ = f1
  generalize hgg : upd _ 13 _ = g1
  obtain ⟨f', g', σ', x1, hw1, h⟩ := cf_loop m R ds es p p' c c' hds hes hO ds.length fuel 0 f1 g1 σ (by omega) (by rw [← hbf]; show ds.length < 1000000000000; omega) (by omega) (by omega) rfl hw hE hE'
    (by rw [← hff]; simp -implicitDefEqProofs only [upd_go, kept_go, ↓reduceIte, Nat.reduceEqDiff, Nat.reduceLT, reduceCtorEq, Option.getD_some, List.getElem?_cons_zero]) (by rw [← hff]; simp -implicitDefEqProofs only [upd_go, kept_go, ↓reduceIte, Nat.reduceEqDiff, Nat.reduceLT, reduceCtorEq, Option.getD_some, List.getElem?_cons_zero, List.getElem?_cons_succ]) (by rw [← hff]; simp -implicitDefEqProofs only [upd_go, kept_go, ↓reduceIte, Nat.reduceEqDiff, Nat.reduceLT, reduceCtorEq, Option.getD_some, List.getElem?_cons_zero, List.getElem?_cons_succ]) (by rw [← hgg]; simp -implicitDefEqProofs only [upd_go, kept_go, ↓reduceIte, Nat.reduceEqDiff, Nat.reduceLT, reduceCtorEq]) (by rw [← hgg]; simp -implicitDefEqProofs only [upd_go, kept_go, ↓reduceIte, Nat.reduceEqDiff, Nat.reduceLT, reduceCtorEq]) (by rw [← hgg]; simp -implicitDefEqProofs only [upd_go, kept_go, ↓reduceIte, Nat.reduceEqDiff, Nat.reduceLT, reduceCtorEq] <;> rfl)
  rcases h with ⟨e, h6⟩ | ⟨e, h0, h1, htk, hle⟩
  · rw [e]
    simp -implicitDefEqProofs only [go_sem, ↓reduceIte, Nat.reduceLT, Nat.reduceEqDiff, Nat.reduceAdd, Nat.reduceMul, Nat.reduceLeDiff, Nat.reduceSub, h6]
    exact ⟨_, _, rfl, x1, hw1, rfl⟩
  · rw [e]
    by_cases hlt : ds.length < es.length
    · have d0 : decide (Int.ofNat ds.length < Int.ofNat es.length) = true := by simp; omega
      simp -implicitDefEqProofs only [go_sem, ↓reduceIte, Nat.reduceLT, Nat.reduceEqDiff, Nat.reduceAdd, Nat.reduceMul, Nat.reduceLeDiff, Nat.reduceSub, r237_11_go, r237_11U, r237_12_go, r237_12U, h0, h1, d0]
      exact ⟨_, _, rfl, x1, hw1, by rw [ordUs_short htk hlt]⟩
    · have d0 : decide (Int.ofNat ds.length < Int.ofNat es.length) = false := by simp; omega
      simp -implicitDefEqProofs only [go_sem, ↓reduceIte, Nat.reduceLT, Nat.reduceEqDiff, Nat.reduceAdd, Nat.reduceMul, Nat.reduceLeDiff, Nat.reduceSub, r237_11_go, r237_11U, r237_13_go, r237_13U, skipR_go, h0, h1, d0]
      refine ⟨_, _, rfl, x1, hw1, ?_⟩
      rw [(ordUs_zero ds es).2 (by rw [htk, List.take_of_length_le (by omega)])]
end Go.Proofs.YtokieofohmgjdaaGreatDoor
