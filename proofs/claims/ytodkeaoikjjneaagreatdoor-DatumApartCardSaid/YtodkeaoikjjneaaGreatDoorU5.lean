/- The reading of the program, and what is so of it: As, EngAJ, Sums, SymT, SymPg, SymPc, SymPh, SymNa, SymNb, SymGa, SymCD, SymLF0, SymRm, SymCA, SymUa, SymGb, SymX5, SymY2, SymGc, SymCN, SymNc, SymGd, SymFa, SymFb, SymGe, SymGf, SymCO. -/
import Derived.Test.YtodkeaoikjjneaaGreatDoorProg
import Derived.WalkKit
import Derived.LaidEql
import Derived.Stop.Asserts
import Derived.RowKitTokens
import Derived.Test.YtodkeaoikjjneaaGreatDoorU2
import Derived.Test.YtodkeaoikjjneaaGreatDoorU3
import Derived.Test.YtodkeaoikjjneaaGreatDoorU4
import Derived.Test.YtodkeaoikjjneaaGreatDoorZSymTL
set_option linter.unusedSimpArgs false
set_option linter.unusedVariables false
noncomputable section
/- errors.As at a variable of the type of this program's own error: what a call of it does, at no error and at an error of that type. -/
namespace Go.Proofs.YtodkeaoikjjneaaGreatDoor
open Go Go.RowKit Go.Extern.Stop Go.Stop Go.Extern
theorem as_nil (t : Value) (w : World) : Calls Tryz.prog 147 #[.nilIface,t] w fun e w' => e = .returned (.bool false) ∧ w' = w:=by
  go_enter Tryz.func147,Tryz.ntmps147
  go_wp2
  go_ret
  exact ⟨rfl,rfl⟩
theorem as_valueOfP (t : Addr) (w : World) : (ReflectliteValue.unpack (.iface 186 (.pointer (some t)))).run Tryz.prog w = .ok (.agg #[.pointer (some ⟨2,186,none⟩),.pointer (some ⟨w.heap.size,0,none⟩),.int .u64 150]) (w.alloc (.cells #[.pointer (some t)] 186)):=by kernel_rfl
theorem as_typeP (a : Addr) (w : World) : (ReflectliteValue.methodAny (ReflectliteValue.valueError "reflectlite.Value.Type" 0) (fun t _ _ _ => ReflectliteType.toType t) #[.agg #[.pointer (some ⟨2,186,none⟩),.pointer (some a),.int .u64 150]]).run Tryz.prog w = .ok (.iface 220 (.agg #[.pointer (some ⟨2,186,none⟩)])) w:=by kernel_rfl
theorem as_mKind (h : Value) (w : World) : (Go.method 370 220 (.agg #[h]) "Kind").run Tryz.prog w = .ok (202,h) w:=by kernel_rfl
theorem as_mElem (h : Value) (w : World) : (Go.method 370 220 (.agg #[h]) "Elem").run Tryz.prog w = .ok (225,.agg #[h]) w:=by kernel_rfl
theorem as_mImpl (h : Value) (w : World) : (Go.method 370 220 (.agg #[h]) "Implements").run Tryz.prog w = .ok (226,.agg #[h]) w:=by kernel_rfl
theorem as_mAssign (h : Value) (w : World) : (Go.method 370 220 (.agg #[h]) "AssignableTo").run Tryz.prog w = .ok (223,.agg #[h]) w:=by kernel_rfl
theorem as_kindP (w : World) : ((ReflectliteType.abiMethod fun t => (fun a : Nat => Value.int IntKind.u8 (a : Int)) <$> Rtype.kind t) #[.pointer (some ⟨2,186,none⟩)]).run Tryz.prog w = .ok (.int .u8 22) w:=by kernel_rfl
theorem as_kindT (w : World) : ((ReflectliteType.abiMethod fun t => (fun a : Nat => Value.int IntKind.u8 (a : Int)) <$> Rtype.kind t) #[.pointer (some ⟨2,166,none⟩)]).run Tryz.prog w = .ok (.int .u8 25) w:=by kernel_rfl
theorem as_elemP (w : World) : (ReflectliteType.method ReflectliteType.elem #[.agg #[.pointer (some ⟨2,186,none⟩)]]).run Tryz.prog w = .ok (.iface 220 (.agg #[.pointer (some ⟨2,166,none⟩)])) w:=by kernel_rfl
theorem as_impl (w : World) : (ReflectliteType.relation "Implements" ReflectliteType.implements_ #[.agg #[.pointer (some ⟨2,166,none⟩)],.iface 220 (.agg #[.pointer (some ⟨2,164,none⟩)])]).run Tryz.prog w = .ok (.bool true) w:=by kernel_rfl
theorem as_typeOf (v : Value) (w : World) : (ReflectliteType.typeOf #[.iface 166 v]).run Tryz.prog w = .ok (.iface 220 (.agg #[.pointer (some ⟨2,166,none⟩)])) w:=by kernel_rfl
theorem as_assign (w : World) : (ReflectliteType.relation "AssignableTo" ReflectliteType.assignableTo #[.agg #[.pointer (some ⟨2,166,none⟩)],(.iface 220 (.agg #[.pointer (some ⟨2,166,none⟩)]))]).run Tryz.prog w = .ok (.bool true) w:=by kernel_rfl
theorem as_valueOfT (x y : Value) (w : World) : (ReflectliteValue.unpack (.iface 166 (.agg #[x,y]))).run Tryz.prog w = .ok (.agg #[.pointer (some ⟨2,166,none⟩),.pointer (some ⟨w.heap.size,0,none⟩),.int .u64 153]) (w.alloc (.cells #[x,y] 166)):=by kernel_rfl
theorem as_partsP (a : Addr) (w : World) : (ReflectliteValue.parts (.agg #[.pointer (some ⟨2,186,none⟩),.pointer (some a),.int .u64 150])).run Tryz.prog w = .ok (some (186,a,150)) w:=by kernel_rfl
theorem as_partsA (a : Addr) (w : World) : (ReflectliteValue.parts (.agg #[.pointer (some ⟨2,166,none⟩),.pointer (some a),.int .u64 409])).run Tryz.prog w = .ok (some (166,a,409)) w:=by kernel_rfl
theorem as_partsT (a : Addr) (w : World) : (ReflectliteValue.parts (.agg #[.pointer (some ⟨2,166,none⟩),.pointer (some a),.int .u64 153])).run Tryz.prog w = .ok (some (166,a,153)) w:=by kernel_rfl
theorem as_elemOf (w : World) : (Rtype.elem? 186).run Tryz.prog w = .ok (some 166) w:=by kernel_rfl
theorem as_mk (p : Addr) (w : World) : (ReflectliteValue.mk 166 p ReflectliteValue.flagAddr).run Tryz.prog w = .ok (.agg #[.pointer (some ⟨2,166,none⟩),.pointer (some p),.int .u64 409]) w:=by kernel_rfl
theorem as_direct (w : World) : (Rtype.directlyAssignable 166 166).run Tryz.prog w = .ok true w:=by kernel_rfl
theorem as_size (w : World) : (sizeOf 166).run Tryz.prog w = .ok 2 w:=by kernel_rfl
theorem as_aggP (w : World) : (isAgg 186).run Tryz.prog w = .ok false w:=by kernel_rfl
theorem as_aggT (w : World) : (isAgg 166).run Tryz.prog w = .ok true w:=by kernel_rfl
theorem as_loadP (a p : Addr) (W : World) (ha : W.cell? a = some (.pointer (some p))) : (loadVar 186 a).run Tryz.prog W = .ok (.pointer (some p)) W:=by
  simp [loadVar,as_aggP,ha,Result.andThen]
theorem as_loadT (b : Addr) (x y : Value) (W : World) (hb : W.cell? b = some x) (hb2 : W.cell? (b.add 1) = some y) : (loadVar 166 b).run Tryz.prog W = .ok (.agg #[x,y]) W:=by
  have h2 : W.cell? ⟨b.block,b.off + 1,none⟩ = some y:=hb2
  simp [loadVar,as_aggT,as_size,loadCells,loadCellsFrom,Addr.add,hb,h2,Result.andThen]
theorem as_method (z : Sem Value) (f : TypeId → Addr → Nat → Nat → Sem Value) (v : Value) : ReflectliteValue.method z f #[v] = (do match ← ReflectliteValue.parts v with | none => z | some (t,a,fl) => f t a fl (fl % 32)):=rfl
theorem as_isNil (a p : Addr) (W : World) (ha : W.cell? a = some (.pointer (some p))) :
    (ReflectliteValue.method (ReflectliteValue.valueError "reflectlite.Value.IsNil" 0) ReflectliteValue.isNil #[.agg #[.pointer (some ⟨2,186,none⟩),.pointer (some a),.int .u64 150]]).run Tryz.prog W = .ok (.bool false) W:=by
  rw [as_method]
  simp only [Sem.run_bind,as_partsP,Result.andThen]
  simp [ReflectliteValue.isNil,as_loadP a p W ha,Result.andThen]
theorem as_elemV (a p : Addr) (W : World) (ha : W.cell? a = some (.pointer (some p))) :
    (ReflectliteValue.method (ReflectliteValue.valueError "reflectlite.Value.Elem" 0) ReflectliteValue.elem #[.agg #[.pointer (some ⟨2,186,none⟩),.pointer (some a),.int .u64 150]]).run Tryz.prog W = .ok (.agg #[.pointer (some ⟨2,166,none⟩),.pointer (some p),.int .u64 409]) W:=by
  rw [as_method]
  simp only [Sem.run_bind,as_partsP,Result.andThen]
  simp [ReflectliteValue.elem,as_loadP a p W ha,Result.andThen,as_elemOf,as_mk]
theorem as_still (a c : Addr) (x o : Value) (W : World) (h : W.cell? c = some o) : ∃ o',(W.setCell a x).cell? c = some o':=by
  by_cases hb : a.block = c.block
  · cases hh : W.heap[c.block]? with
    | none => simp [World.cell?,hh] at h
    | some ob =>
      cases ob with
      | cells c1 t1 f1 =>
        have h3 : c.spot = none ∧ c1[c.off]? = some o:=by
          simp only [World.cell?,hh] at h
          cases hs : c.spot with
          | none => simpa [hs] using h
          | some q => simp [hs] at h
        have hlt : c.off < c1.size:=(Array.getElem?_eq_some_iff.1 h3.2).1
        refine ⟨(if a.spot.isSome then c1 else c1.setIfInBounds a.off x)[c.off]'(by split <;> simpa using hlt),?_⟩
        simp only [World.cell?,World.setCell,Array.getElem?_modify,hb,hh,h3.1,↓reduceIte,Option.map_some,Option.isSome_none,Bool.false_eq_true]
        exact Array.getElem?_eq_getElem _
      | _ => simp [World.cell?,hh] at h
  · exact ⟨o,by simp [World.cell?,World.setCell,Array.getElem?_modify,hb] at h ⊢; exact h⟩
theorem as_set (ta b : Addr) (x y old old2 : Value) (W : World) (hx : x.oneCell' = true) (hy : y.oneCell' = true) (hb : W.cell? b = some x) (hb2 : W.cell? (b.add 1) = some y) (ht : W.cell? ta = some old) (hf : W.frozen? ta = false) (ht2 : W.cell? (ta.add 1) = some old2) (hf2 : W.frozen? (ta.add 1) = false) :
    (ReflectliteValue.set #[.agg #[.pointer (some ⟨2,166,none⟩),.pointer (some ta),.int .u64 409],.agg #[.pointer (some ⟨2,166,none⟩),.pointer (some b),.int .u64 153]]).run Tryz.prog W = .ok (.tuple #[]) ((W.setCell ta x).setCell (ta.add 1) y):=by
  have h1 : ReflectliteValue.set #[.agg #[.pointer (some ⟨2,166,none⟩),.pointer (some ta),.int .u64 409],.agg #[.pointer (some ⟨2,166,none⟩),.pointer (some b),.int .u64 153]] = (do
    let (some (dst,a,fl),some (src,b,_)):=(← ReflectliteValue.parts (.agg #[.pointer (some ⟨2,166,none⟩),.pointer (some ta),.int .u64 409]),← ReflectliteValue.parts (.agg #[.pointer (some ⟨2,166,none⟩),.pointer (some b),.int .u64 153]))
      | unsupported (.noEntry "extern/(internal/reflectlite.Value).Set.zeroValue")
    if fl / ReflectliteValue.flagAddr % 2 == 0 then unsupported (.noEntry "extern/(internal/reflectlite.Value).Set.unaddressable")
    let val ← loadVar src b
    if ← Rtype.directlyAssignable dst src then storeVar dst a val
    else if ← Rtype.implements dst src then
      if (← Rtype.kind src) == 20 then
        match val with
        | .nilIface => unsupported (.noEntry "extern/reflectlite: a nil value of one interface type handed on as a value of another")
        | _ => storeVar dst a val
      else storeVar dst a (.iface src val)
    else panicString ("reflectlite.Set: value of type " ++ (← Rtype.spelt src) ++ " is not assignable to type " ++ (← Rtype.spelt dst))
    pure (.tuple #[])):=rfl
  rw [h1]
  simp only [Sem.run_bind,as_partsA,as_partsT,Result.andThen]
  have hne : ta ≠ ta.add 1:=fun h => by
    have h9 : ta.off = (ta.add 1).off:=congrArg Addr.off h
    simp [Addr.add] at h9
  have hc2 : ∃ o,(W.setCell ta x).cell? (ta.add 1) = some o:=as_still ta (ta.add 1) x old2 W ht2
  obtain ⟨o,hc2⟩:=hc2
  have hf3 : (W.setCell ta x).frozen? (ta.add 1) = false:=(World.frozen?_setCell _ _ _ _).trans hf2
  have h8 : (storeCells ta [x,y]).run Tryz.prog W = .ok () ((W.setCell ta x).setCell (ta.add 1) y):=by
    show (do store (Addr.add ta 0) x; (do store (Addr.add ta 1) y; pure ()) : Sem Unit).run Tryz.prog W = _
    rw [Sem.run_bind,show Addr.add ta 0 = ta from rfl,run_store Tryz.prog W ta _ _ hx]
    simp only [ht,hf,Result.andThen,Bool.false_eq_true,if_false]
    rw [Sem.run_bind,run_store Tryz.prog _ (ta.add 1) _ _ hy]
    simp [hc2,hf3,Result.andThen]
  simp [ReflectliteValue.flagAddr,as_loadT b x y W hb hb2,Result.andThen,as_direct,storeVar,as_size,Value.cells,h8]
set_option maxHeartbeats 4000000 in
theorem as_hit (x y : Value) (t : Addr) (old old2 : Value) (w : World) (hx : x.oneCell' = true) (hy : y.oneCell' = true) (hg : w.cell? ⟨0,0,none⟩ = some (.iface 220 (.agg #[.pointer (some ⟨2,164,none⟩)]))) (ht0 : w.cell? t = some old) (hf0 : w.frozen? t = false) (ht2 : w.cell? (t.add 1) = some old2) (hf2 : w.frozen? (t.add 1) = false) :
    Calls Tryz.prog 147 #[.iface 166 (.agg #[x,y]),.iface 186 (.pointer (some t))] w fun ev w' => ev = .returned (.bool true) ∧ w' = (((((w.alloc (.cells #[.pointer (some t)] 186)).alloc (.cells #[.pointer (some ⟨2,186,none⟩),.pointer (some ⟨w.heap.size,0,none⟩),.int .u64 150] 202)).alloc (.cells #[.pointer (some ⟨2,186,none⟩),.pointer (some ⟨w.heap.size,0,none⟩),.int .u64 150] 202)).alloc (.cells #[x,y] 166)).setCell t x).setCell (t.add 1) y:=by
  have h1:=@run_callFunc_extern Tryz.prog 162 _ (fun args => ReflectliteValue.unpack (args.getD 0 (.tuple #[]))) Tryz.func162 (by kernel_rfl) (by kernel_rfl) (by kernel_rfl) (by kernel_rfl)
  have h2:=@run_callFunc_extern Tryz.prog 163 _ (ReflectliteValue.methodAny (ReflectliteValue.valueError "reflectlite.Value.Type" 0) (fun t _ _ _ => ReflectliteType.toType t)) Tryz.func163 (by kernel_rfl) (by kernel_rfl) (by kernel_rfl) (by kernel_rfl)
  have h3:=@run_callFunc_extern Tryz.prog 164 _ (ReflectliteValue.method (ReflectliteValue.valueError "reflectlite.Value.IsNil" 0) ReflectliteValue.isNil) Tryz.func164 (by kernel_rfl) (by kernel_rfl) (by kernel_rfl) (by kernel_rfl)
  have h4:=@run_callFunc_extern Tryz.prog 202 _ (ReflectliteType.abiMethod fun t => do pure (.int .u8 (← Rtype.kind t))) Tryz.func202 (by kernel_rfl) (by kernel_rfl) (by kernel_rfl) (by kernel_rfl)
  have h5:=@run_callFunc_extern Tryz.prog 225 _ (ReflectliteType.method ReflectliteType.elem) Tryz.func225 (by kernel_rfl) (by kernel_rfl) (by kernel_rfl) (by kernel_rfl)
  have h6:=@run_callFunc_extern Tryz.prog 226 _ (ReflectliteType.relation "Implements" ReflectliteType.implements_) Tryz.func226 (by kernel_rfl) (by kernel_rfl) (by kernel_rfl) (by kernel_rfl)
  have h7:=@run_callFunc_extern Tryz.prog 175 _ ReflectliteType.typeOf Tryz.func175 (by kernel_rfl) (by kernel_rfl) (by kernel_rfl) (by kernel_rfl)
  have h8:=@run_callFunc_extern Tryz.prog 223 _ (ReflectliteType.relation "AssignableTo" ReflectliteType.assignableTo) Tryz.func223 (by kernel_rfl) (by kernel_rfl) (by kernel_rfl) (by kernel_rfl)
  have h9:=@run_callFunc_extern Tryz.prog 176 _ (ReflectliteValue.method (ReflectliteValue.valueError "reflectlite.Value.Elem" 0) ReflectliteValue.elem) Tryz.func176 (by kernel_rfl) (by kernel_rfl) (by kernel_rfl) (by kernel_rfl)
  have h10:=@run_callFunc_extern Tryz.prog 177 _ ReflectliteValue.set Tryz.func177 (by kernel_rfl) (by kernel_rfl) (by kernel_rfl) (by kernel_rfl)
  have k1:=as_typeOf
  have k2:=as_mAssign
  have k3:=as_assign
  have k4:=as_valueOfT
  have k5:=as_valueOfP
  have k6:=as_typeP
  have k7:=as_mKind
  have k8:=as_mElem
  have k9:=as_mImpl
  have k10:=as_kindP
  have k11:=as_kindT
  have k12:=as_elemP
  have k13:=as_impl
  have n8:=as_isNil ⟨w.heap.size,0,none⟩ t ((w.alloc (.cells #[.pointer (some t)] 186)).alloc (.cells #[.pointer (some ⟨2,186,none⟩),.pointer (some ⟨w.heap.size,0,none⟩),.int .u64 150] 202)) (by simp)
  have hlt : 0 < w.heap.size:=by
    rcases Nat.lt_or_ge 0 w.heap.size with h | h
    · exact h
    · simp [World.cell?,Array.getElem?_eq_none h] at hg
  have htl : t.block < w.heap.size:=by
    rcases Nat.lt_or_ge t.block w.heap.size with h | h
    · exact h
    · simp [World.cell?,Array.getElem?_eq_none h] at ht0
  have hg2 : ((w.alloc (.cells #[.pointer (some t)] 186)).alloc (.cells #[.pointer (some ⟨2,186,none⟩),.pointer (some ⟨w.heap.size,0,none⟩),.int .u64 150] 202)).cell? ⟨0,0,none⟩ = some (.iface 220 (.agg #[.pointer (some ⟨2,164,none⟩)])):=by
    rw [World.cell?_alloc_lt _ _ ⟨0,0,none⟩ (by simp <;> omega),World.cell?_alloc_lt _ _ ⟨0,0,none⟩ hlt]; exact hg
  have el:=as_elemV ⟨w.heap.size,0,none⟩ t (((w.alloc (.cells #[.pointer (some t)] 186)).alloc (.cells #[.pointer (some ⟨2,186,none⟩),.pointer (some ⟨w.heap.size,0,none⟩),.int .u64 150] 202)).alloc (.cells #[.pointer (some ⟨2,186,none⟩),.pointer (some ⟨w.heap.size,0,none⟩),.int .u64 150] 202)) (by rw [World.cell?_alloc_lt _ _ ⟨w.heap.size,0,none⟩ (by simp; omega)]; simp)
  have up : ∀ (a : Addr) (v : Value),a.block < w.heap.size → w.cell? a = some v → ((((w.alloc (.cells #[.pointer (some t)] 186)).alloc (.cells #[.pointer (some ⟨2,186,none⟩),.pointer (some ⟨w.heap.size,0,none⟩),.int .u64 150] 202)).alloc (.cells #[.pointer (some ⟨2,186,none⟩),.pointer (some ⟨w.heap.size,0,none⟩),.int .u64 150] 202)).alloc (.cells #[x,y] 166)).cell? a = some v:=fun a v h1 h2 => by
    rw [World.cell?_alloc_lt _ _ a (by simp; omega),World.cell?_alloc_lt _ _ a (by simp; omega),World.cell?_alloc_lt _ _ a (by simp; omega),World.cell?_alloc_lt _ _ a h1]; exact h2
  have upf : ∀ (a : Addr),a.block < w.heap.size → w.frozen? a = false → ((((w.alloc (.cells #[.pointer (some t)] 186)).alloc (.cells #[.pointer (some ⟨2,186,none⟩),.pointer (some ⟨w.heap.size,0,none⟩),.int .u64 150] 202)).alloc (.cells #[.pointer (some ⟨2,186,none⟩),.pointer (some ⟨w.heap.size,0,none⟩),.int .u64 150] 202)).alloc (.cells #[x,y] 166)).frozen? a = false:=fun a h1 h2 => by
    rw [World.frozen?_alloc_old _ _ a (by simp; omega),World.frozen?_alloc_old _ _ a (by simp; omega),World.frozen?_alloc_old _ _ a (by simp; omega),World.frozen?_alloc_old _ _ a (Nat.ne_of_lt h1)]; exact h2
  have st:=as_set t ⟨w.heap.size + 1 + 1 + 1,0,none⟩ x y old old2 ((((w.alloc (.cells #[.pointer (some t)] 186)).alloc (.cells #[.pointer (some ⟨2,186,none⟩),.pointer (some ⟨w.heap.size,0,none⟩),.int .u64 150] 202)).alloc (.cells #[.pointer (some ⟨2,186,none⟩),.pointer (some ⟨w.heap.size,0,none⟩),.int .u64 150] 202)).alloc (.cells #[x,y] 166)) hx hy
    (by rw [World.cell?_alloc_at _ _ _ _ (by simp)]; rfl)
    (by rw [show (Addr.add ⟨w.heap.size + 1 + 1 + 1,0,none⟩ 1 : Addr) = ⟨w.heap.size + 1 + 1 + 1,1,none⟩ from rfl,World.cell?_alloc_at _ _ _ _ (by simp)]; rfl)
    (up t old htl ht0) (upf t htl hf0) (up (t.add 1) old2 htl ht2) (upf (t.add 1) htl hf2)
  go_enter Tryz.func147,Tryz.ntmps147
  go_wp2
  refine wp_loop_rounds 1 ?_
  rw [rounds_succ]
  go_wp2
  go_ret
  exact ⟨rfl,rfl⟩
end Go.Proofs.YtodkeaoikjjneaaGreatDoor
/- A contract of a call that makes new memory, writes two cells that there were, side by side, and answers true. -/
namespace Go.Eng
open Go
section
variable [Pins] {P : Program} {m : Mp} {σ : FState} {w : World} {f : FuncId} {fn : Func} {body : Code} {args' : Array Value}
theorem CallOK.of_store2 (hf : P.funcs[f]? = some fn) (hb : fn.body = some body) (hname : (fn.name == "runtime.NumGoroutine") = false) (hr : Rel Top m σ w) {p p' x x' y y' : Value} {σ' : FState} (hst : fstore 2 p (.agg #[x,y]) σ = .skip σ') (hp : VRel m p p') (hx : VRel m x x') (hy : VRel m y y')
    (h : ∀ (t : Addr) (old old2 : Value),p' = .pointer (some t) → x'.oneCell' = true → y'.oneCell' = true → w.cell? t = some old → w.frozen? t = false → w.cell? (t.add 1) = some old2 → w.frozen? (t.add 1) = false → ∃ w4 : World,(∀ j,j < w.heap.size → w4.heap[j]? = w.heap[j]?) ∧ w.heap.size ≤ w4.heap.size ∧ w4.os = w.os ∧ w4.tape = w.tape ∧ w4.output = w.output ∧
      Calls P f args' w fun e w' => e = .returned (.bool true) ∧ w' = (w4.setCell t x').setCell (t.add 1) y') : CallOK P m σ w f args' none (.ret (.bool true) none σ'):=by
  obtain ⟨b,off,ent,c,el,c',rfl,hg,ho,hro,hc,hs,rfl⟩:=fstore_inv hst
  have hvc : valCells (.agg #[x,y]) = [x,y]:=rfl
  rw [hvc] at hc hs
  generalize hpp : p' = pp at hp
  cases hp with
  | ptr hm =>
    rename_i e
    have hcc : oneCell x = true ∧ oneCell y = true:=by simpa using (Bool.and_eq_true_iff.1 hc).2
    have hone : x'.oneCell' = true:=one_eq (oneCell_of_rel hx hcc.1)
    have hone2 : y'.oneCell' = true:=one_eq (oneCell_of_rel hy hcc.2)
    obtain ⟨hre,hsy⟩:=hr.sync b ent e trivial hg hm
    rw [ho] at hsy
    obtain ⟨ca,el',fr,h2,h3,h4,_⟩:=hsy
    have hoff : off + 1 < c.length:=by
      rw [spliceN_eq] at hs
      by_cases hle : off + [x,y].length ≤ c.length
      · simp at hle
        omega
      · rw [if_neg hle] at hs
        cases hs
    obtain ⟨old,h5,_⟩:=h4 off c[off] (List.getElem?_eq_getElem (by omega))
    obtain ⟨old2,h52,_⟩:=h4 (off + 1) c[off + 1] (List.getElem?_eq_getElem hoff)
    have hlt : e.blk < w.heap.size:=(hr.dom _ _ hm).2
    have hfr:=h3 (by rw [← hre]; exact hro)
    have cell : ∀ w4 : World,w4.heap[e.blk]? = w.heap[e.blk]? → ∀ (o : Nat) (v : Value),ca[e.sh + o]? = some v → w4.cell? ⟨e.blk,e.sh + o,none⟩ = some v ∧ w4.frozen? ⟨e.blk,e.sh + o,none⟩ = false:=fun w4 hw4 o v hv => by
      rw [h2] at hw4
      exact ⟨by simp [World.cell?,hw4,hv],by simp [World.frozen?,hw4,hfr]⟩
    have hadd : Addr.add ⟨e.blk,e.sh + off,none⟩ 1 = ⟨e.blk,e.sh + (off + 1),none⟩:=by simp [Addr.add,Nat.add_assoc]
    obtain ⟨w4,g1,g2,g3,g4,g5,g6⟩:=h _ old old2 hpp hone hone2 (cell w rfl off old h5).1 (cell w rfl off old h5).2 (by rw [hadd]; exact (cell w rfl (off + 1) old2 h52).1) (by rw [hadd]; exact (cell w rfl (off + 1) old2 h52).2)
    have hr4 : Rel Top m σ w4:=hr.moreWorld g1 g2
    have hS4 : Step σ σ m m w w4:=(Step.refl σ m w).moreWorld g1 g2 g3 g4 g5
    obtain ⟨w',k1,k2,k3⟩:=hr4.splice (P:=P) hm hg ho hro hs (.cons hx (.cons hy .nil)) (fun v hv => by
      rcases List.mem_cons.1 hv with rfl | hv
      · exact hone
      · rw [List.mem_singleton] at hv
        rw [hv]
        exact hone2)
    have c1:=cell w4 (g1 _ hlt) off old h5
    have c2:=cell w4 (g1 _ hlt) (off + 1) old2 h52
    have hne : ((e.sh + off : Nat)) ≠ e.sh + (off + 1):=by omega
    have hc2 : (w4.setCell ⟨e.blk,e.sh + off,none⟩ x').cell? ⟨e.blk,e.sh + (off + 1),none⟩ = some old2:=by
      have hw4:=g1 _ hlt
      rw [h2] at hw4
      simp [World.setCell,World.cell?,Array.getElem?_modify,hw4,h52,Array.getElem?_setIfInBounds,Array.getElem?_set]
    have hf2 : (w4.setCell ⟨e.blk,e.sh + off,none⟩ x').frozen? ⟨e.blk,e.sh + (off + 1),none⟩ = false:=(World.frozen?_setCell _ _ _ _).trans c2.2
    have hrun : (storeCells ⟨e.blk,e.sh + off,none⟩ [x',y']).run P w4 = .ok () ((w4.setCell ⟨e.blk,e.sh + off,none⟩ x').setCell (Addr.add ⟨e.blk,e.sh + off,none⟩ 1) y'):=by
      show (do store (Addr.add ⟨e.blk,e.sh + off,none⟩ 0) x'; (do store (Addr.add ⟨e.blk,e.sh + off,none⟩ 1) y'; pure ()) : Sem Unit).run P w4 = _
      rw [Sem.run_bind,run_store P w4 _ _ _ hone]
      rw [hadd]
      simp [Addr.add,c1.1,c1.2,Result.andThen,Sem.run_bind,run_store P _ _ _ _ hone2,hc2,hf2]
    rw [hrun] at k1
    cases k1
    exact CallOK.of_calls hf hb hname g6 k2 (hS4.trans k3) (.bool true)
end
end Go.Eng
/- What the reading is told of errors.As is so: it rests on what the variable errors.errorType holds when the call begins. -/
namespace Go.Proofs.YtodkeaoikjjneaaGreatDoor
open Go Go.Eng
def handle : Value:=.iface 220 (.agg #[.pointer (some ⟨2,164,none⟩)])
theorem as_named : (Tryz.prog.funcs.toList.all fun fn => !(fn.name == "runtime.NumGoroutine")) = true:=by kernel_rfl
theorem as_names (f : FuncId) (fn : Func) (h : Tryz.prog.funcs[f]? = some fn) : (fn.name == "runtime.NumGoroutine") = false:=by
  have:=List.all_eq_true.1 as_named fn (by
    rw [Array.mem_toList_iff]
    exact Array.mem_of_getElem? h)
  simpa using this
theorem sums_ok' [Pins] (W : World) (hpin : ∀ o,W.heap[0]? = some o → Pins.on 0 o) (hg : W.cell? ⟨0,0,none⟩ = some handle) : SumOK Tryz.prog sums:=by
  intro f args σ r m w args' h hr hA
  unfold sums at h
  cases hf : Nat.beq f 147 with
  | false => rw [hf] at h; cases h
  | true =>
    rw [hf] at h
    rw [Nat.beq_eq] at hf
    subst hf
    have hname:=as_names 147 _ Tryz.func147
    obtain ⟨L'⟩:=args'
    simp only [cond_true] at h
    split at h
    · rename_i p
      cases h
      match L',hA with
      | [a',p'],hA =>
        have h1:=hA.head
        cases h1
        exact CallOK.of_calls Tryz.func147 rfl hname (as_nil p' w) hr (.refl _ _ _) (.bool false)
      | [],hA => simp [LRel] at hA
      | [_],hA => simp [LRel] at hA
      | _ :: _ :: _ :: _,hA => simp [LRel] at hA
    · rename_i t cs pt p
      cases hc : (Nat.beq t 166 && Nat.beq pt 186) with
      | false => rw [hc] at h; cases h
      | true =>
        rw [hc] at h
        simp only [Bool.and_eq_true,Nat.beq_eq] at hc
        obtain ⟨rfl,rfl⟩:=hc
        simp only [cond_true] at h
        split at h
        · rename_i x y hx
          split at h
          · rename_i σ' hst
            cases h
            match L',hA with
            | [a',p'],hA =>
              have h1:=hA.head
              have h2:=hA.tail.head
              cases h1 with
              | iface _ h1 =>
              cases h2 with
              | iface _ h2 =>
              rename_i v' q'
              cases h1 with
              | agg hsz hel =>
                rename_i cs'
                have hcs : cs = #[x,y]:=by
                  apply Array.ext'
                  simpa using hx
                subst hcs
                obtain ⟨l'⟩:=cs'
                match l',hsz,hel with
                | [x',y'],hsz,hel =>
                  have hxx : VRel m x x':=hel 0 x x' rfl rfl
                  have hyy : VRel m y y':=hel 1 y y' rfl rfl
                  refine CallOK.of_store2 Tryz.func147 rfl hname hr hst h2 hxx hyy fun ta old old2 hp hone hone2 hct hfr hct2 hfr2 => ?_
                  subst hp
                  have hgw : w.cell? ⟨0,0,none⟩ = some handle:=by
                    cases ho : W.heap[0]? with
                    | none => simp [World.cell?,ho] at hg
                    | some o =>
                      have:=(hr.pin 0 o (hpin o ho)).1
                      rw [← hg]
                      simp [World.cell?,ho,this]
                  have hlt : ∀ (w : World) (o : Obj) (j : Nat),j < w.heap.size → (w.alloc o).heap[j]? = w.heap[j]?:=fun w o j hj => by
                    show (w.heap.push o)[j]? = _
                    exact (Array.getElem?_push_lt hj).trans (Array.getElem?_eq_getElem hj).symm
                  have hs : ∀ (w : World) (o : Obj),(w.alloc o).heap.size = w.heap.size + 1:=fun w o => by
                    show (w.heap.push o).size = _
                    simp
                  have hhit:=as_hit x' y' ta old old2 w hone hone2 hgw hct hfr hct2 hfr2
                  refine ⟨_,?_,?_,?_,?_,?_,hhit⟩
                  · intro j hj
                    rw [hlt _ _ j (by rw [hs,hs,hs]; omega),hlt _ _ j (by rw [hs,hs]; omega),hlt _ _ j (by rw [hs]; omega),hlt _ _ j hj]
                  · rw [hs,hs,hs,hs]
                    omega
                  · rfl
                  · rfl
                  · rfl
                | [],hsz,hel => simp at hsz
                | [_],hsz,hel => simp at hsz
                | _ :: _ :: _ :: _,hsz,hel => simp at hsz
            | [],hA => simp [LRel] at hA
            | [_],hA => simp [LRel] at hA
            | _ :: _ :: _ :: _,hA => simp [LRel] at hA
          · cases h
        · cases h
    · cases h
end Go.Proofs.YtodkeaoikjjneaaGreatDoor
/- The reading of a law, where the chapter's examples are told; what it says of a law is so of every run. -/
namespace Go.Proofs.YtodkeaoikjjneaaGreatDoor
open Go Go.Eng
attribute [local congr] andThen_congr fops_congr fdraw_congr afterOp_congr drawF_congr
attribute [-go_sem] List.range_succ
def top (n : Nat) : Env where
  call:=fun f args u σ => match u with
    | none => bif Nat.beq f 21 && args.isEmpty then .ret (.bool true) none σ else (env n).call f args none σ
    | some md => (env n).call f args (some md) σ
  round:=fun l args σ => (env n).round l args σ
theorem top_call (n : Nat) (f : FuncId) (args : List Value) (σ : FState) (h : Nat.beq f 21 = false) : (top n).call f args none σ = (env n).call f args none σ:=by
  show (bif Nat.beq f 21 && args.isEmpty then CRes.ret (.bool true) none σ else (env n).call f args none σ) = _
  rw [h]
  rfl
theorem top_looks (n : Nat) (σ : FState) : (top n).call 21 [] none σ = .ret (.bool true) none σ:=rfl
theorem sy_mixed : Tryz.prog.follows .mixedOrders = true:=by kernel_rfl
theorem sy_named : (Tryz.prog.funcs.toList.all fun fn => !(fn.name == "runtime.NumGoroutine")) = true:=by kernel_rfl
theorem sy_names (f : FuncId) (fn : Func) (h : Tryz.prog.funcs[f]? = some fn) : (fn.name == "runtime.NumGoroutine") = false:=by
  have:=List.all_eq_true.1 sy_named fn (by
    rw [Array.mem_toList_iff]
    exact Array.mem_of_getElem? h)
  simpa using this
abbrev varPins (W : World) : Pins:=⟨fun k o => k = 0 ∧ W.heap[k]? = some o⟩
theorem nosums_ok [Pins] : SumOK Tryz.prog nosums:=fun _ _ _ _ _ _ _ h => by cases h
theorem looks_call (W : World) : Calls Tryz.prog 21 #[] W fun e W' => e = .returned (.bool true) ∧ W'.os = W.os ∧ W'.output = W.output ∧ W'.tape = W.tape ∧ W.heap.size ≤ W'.heap.size ∧ ∀ i,i < W.heap.size → W'.heap[i]? = W.heap[i]? :=
  says_true sy_mixed sy_names Tryz.func21 rfl W (@nosums_ok (pinsOf W)) looks_says
theorem top_ok (n : Nat) (W0 : World) (hg : W0.cell? ⟨0,0,none⟩ = some handle) : @EnvOK (varPins W0) Tryz.prog (top n):=by
  letI:=varPins W0
  have h : EnvOK Tryz.prog (env n):=fenv_ok (sums_ok' W0 (fun o h => ⟨rfl,h⟩) hg) sy_mixed sy_names nls n
  refine ⟨fun f args u σ m w args' hr hA hu => ?_,fun l args σ m w args' e hr hA hm => h.round l args σ m w args' e hr hA hm⟩
  cases u with
  | some md => exact h.call f args (some md) σ m w args' hr hA hu
  | none =>
    by_cases hf : (Nat.beq f 21 && args.isEmpty) = true
    · rw [Bool.and_eq_true,Nat.beq_eq,List.isEmpty_iff] at hf
      obtain ⟨rfl,rfl⟩:=hf
      obtain ⟨L'⟩:=args'
      have hl : L' = []:=by
        have:=hA.1
        exact List.length_eq_zero_iff.1 this.symm
      subst hl
      show CallOK Tryz.prog m σ w 21 #[] none (.ret (.bool true) none σ)
      refine .inr ⟨callFunc_enter Tryz.func21 rfl (sy_names _ _ Tryz.func21),fun cs hu => ?_⟩
      obtain ⟨e,w',fr,⟨rfl,ho,hout,ht,hsz,hk⟩,hc,hfn,hl⟩:=looks_call w cs
      exact ⟨m,w',.bool true,fr,cs,hr.moreWorld hk hsz,(Step.refl σ m w).moreWorld hk hsz ho ht hout,.bool true,hu,.refl _ _,StepsIn.of_steps hc,hfn,hl.2.2.1,⟨hl.1,hl.2.1,hl.2.2.2⟩⟩
    · have e : (top n).call f args none σ = (env n).call f args none σ:=by
        show (bif Nat.beq f 21 && args.isEmpty then CRes.ret (.bool true) none σ else (env n).call f args none σ) = _
        rw [Bool.not_eq_true] at hf
        rw [hf]
        rfl
      rw [e]
      exact h.call f args none σ m w args' hr hA hu
theorem calls_of [Pins] {P : Program} {E : Env} (hE : EnvOK P E) (hm : P.follows .mixedOrders = true) (hname : ∀ (f : FuncId) (fn : Func),P.funcs[f]? = some fn → (fn.name == "runtime.NumGoroutine") = false) (nls : Hints) {f : FuncId} {fn : Func} {body : Code} (hf : P.funcs[f]? = some fn) (hb : fn.body = some body) (σ : FState) (m : Mp) (W : World) (args : List Value) (args' : Array Value) (hr : Rel Top m σ W) (hA : LRel m args args'.toList) (hro : ∀ b e,m b = some e → e.ro = true)
    (h : ∃ σ',fcall P nls E f args none σ = .ret (.bool true) none σ') :
    Calls P f args' W fun e W' => e = .returned (.bool true) ∧ W'.os = W.os ∧ W'.output = W.output ∧ W'.tape = W.tape ∧ W.heap.size ≤ W'.heap.size ∧ ∀ i,i < W.heap.size → W'.heap[i]? = W.heap[i]?:=by
  obtain ⟨σ',h⟩:=h
  have hc:=call_ok hE (draw_ok hm hE) hname nls f args none σ m W args' hr hA
  generalize fcall P nls E f args none σ = r at h hc
  subst h
  rcases hc with ⟨_,_,_,v',hval,_⟩ | ⟨_,hgo⟩
  · have hent:=callFunc_enter (P:=P) (w:=W) (args:=args') hf hb (hname f fn hf)
    rw [hent] at hval
    cases hval
  · intro cs
    obtain ⟨m',w',v',fr,cs',hR,hS',hV,_,hun,hst,hfn,hk,hgoing⟩:=hgo cs rfl
    have hcs : cs' = cs:=by
      rcases hun with h | ⟨h,_⟩
      · exact h
      · cases h
    subst hcs
    have hv':=hV.flat rfl
    subst hv'
    exact ⟨.returned (.bool true),w',fr,⟨rfl,hS'.os,hS'.output,hS'.tape,hS'.size,fun i hi => hS'.keep i hi fun b e ent hb hre => by rw [hro b e hb] at hre; cases hre⟩,hst.steps,hfn,leaving_of_going hk hgoing⟩
theorem law_calls {f : FuncId} {fn : Func} {body : Code} (hf : Tryz.prog.funcs[f]? = some fn) (hb : fn.body = some body) (n : Nat) (σ : FState) (m : Mp) (W : World) (args : List Value) (args' : Array Value) (hg : W.cell? ⟨0,0,none⟩ = some handle) (hr : @Rel (varPins W) Top m σ W) (hA : LRel m args args'.toList) (hro : ∀ b e,m b = some e → e.ro = true)
    (h : ∃ σ',fcall Tryz.prog nls (top n) f args none σ = .ret (.bool true) none σ') :
    Calls Tryz.prog f args' W fun e W' => e = .returned (.bool true) ∧ W'.os = W.os ∧ W'.output = W.output ∧ W'.tape = W.tape ∧ W.heap.size ≤ W'.heap.size ∧ ∀ i,i < W.heap.size → W'.heap[i]? = W.heap[i]? :=
  @calls_of (varPins W) Tryz.prog (top n) (top_ok n W hg) sy_mixed sy_names nls f fn body hf hb σ m W args args' hr hA hro h
def numbers (zs : List Int) : FState:=⟨Tr.set .lf 0 ⟨.cells (zs.map fun z => Value.int .i64 z) TI,true,none,0⟩,1,1⟩
theorem numbers_get (zs : List Int) (b : Nat) : (numbers zs).heap.get b = if b = 0 then some ⟨.cells (zs.map fun z => Value.int .i64 z) TI,true,none,0⟩ else none:=by
  show (Tr.set .lf 0 _).get b = _
  rw [Tr.get_set]
  split <;> rfl
theorem numbers_wf (zs : List Int) : Wf (numbers zs):=fun b e h => by
  rw [numbers_get] at h
  by_cases hb : b = 0
  · rw [if_pos hb] at h
    cases h
    exact ⟨by subst hb; exact Nat.lt_succ_self 0,Nat.lt_succ_self 0⟩
  · rw [if_neg hb] at h
    cases h
theorem numbers_ints (zs : List Int) : Ints (numbers zs) (some ⟨0,0,none⟩) zs:=fun i n h => by
  refine ⟨0,0,zs.map fun z => Value.int .i64 z,rfl,?_,?_⟩
  · rw [cells_get,numbers_get,if_pos rfl]; rfl
  · rw [Nat.zero_add,List.getElem?_map,h]; rfl
theorem law_ints {f : FuncId} {fn : Func} {body : Code} (hf : Tryz.prog.funcs[f]? = some fn) (hb : fn.body = some body) (n : Nat)
    (h : ∀ (p : Option Addr) (l : List Int) (cp : Nat),l.length < 9223372036854775808 → ∀ σ,Wf σ → Ints σ p l → (∀ a,p = some a → a.block < σ.next) → ∃ σ',fcall Tryz.prog nls (top n) f [.slice p l.length cp] none σ = .ret (.bool true) none σ')
    (W : World) (v : Value) (hsz : 0 < W.heap.size) (hg : W.cell? ⟨0,0,none⟩ = some handle)
    (hv : v = .slice none 0 0 ∨ ∃ (a : Addr) (len cap : Nat) (zs : List Int),v = .slice (some a) len cap ∧ len ≤ cap ∧ cap < 9223372036854775808 ∧ zs.length = cap ∧ ∀ i,i < zs.length → W.cell? (a.add i) = some (.int .i64 (zs.getD i 0))) :
    Calls Tryz.prog f #[v] W fun e W' => e = .returned (.bool true) ∧ W'.os = W.os ∧ W'.output = W.output ∧ W'.tape = W.tape ∧ W.heap.size ≤ W'.heap.size ∧ ∀ i,i < W.heap.size → W'.heap[i]? = W.heap[i]?:=by
  rcases hv with rfl | ⟨a,len,cap,zs,rfl,hl,hm,hz,hc⟩
  · letI:=varPins W
    refine law_calls hf hb n Eng.empty (fun _ => none) W [.slice none 0 0] _ hg ?_ (.cons (.nilSlice 0 0) .nil) (fun b e h => by cases h) (h none [] 0 (by simp) Eng.empty (fun b e h => by cases h) (fun i n h => by simp at h) fun a h => by cases h)
    have hget : ∀ b,Eng.empty.heap.get b = none:=fun b => rfl
    exact ⟨fun b ent e _ hb => (by rw [hget] at hb; cases hb),fun b b' ent ent' e e' _ hb => (by rw [hget] at hb; cases hb),fun b e hb => (by cases hb),fun b ent hb => (by rw [hget] at hb; cases hb),fun k o hk => ⟨hk.2,fun b e hb hr1 => by cases hb⟩⟩
  · letI:=varPins W
    cases zs with
    | nil =>
      obtain rfl : cap = 0:=hz.symm
      obtain rfl : len = 0:=by omega
      have hget : ∀ b,(⟨.lf,1,1⟩ : FState).heap.get b = none:=fun b => rfl
      refine law_calls hf hb n ⟨.lf,1,1⟩ (fun b => if b = 0 then some ⟨0,0,true,none⟩ else none) W [.slice (some ⟨0,0,none⟩) 0 0] _ hg ?_ (.cons (.empty (b:=0) (off:=0) (if_pos rfl)) .nil) (fun b e h => ?_)
        (h (some ⟨0,0,none⟩) [] 0 (by simp) ⟨.lf,1,1⟩ (fun b e h => by rw [hget] at h; cases h) (fun i n h => by simp at h) fun a h => by cases h; exact Nat.lt_succ_self 0)
      · refine ⟨fun b ent e _ hb => (by rw [hget] at hb; cases hb),fun b b' ent ent' e e' _ hb => (by rw [hget] at hb; cases hb),fun b e hb => ?_,fun b ent hb => (by rw [hget] at hb; cases hb),fun k o hk => ⟨hk.2,fun b e hb hr1 => by
          by_cases hb0 : b = 0
          · rw [if_pos hb0] at hb
            cases hb
            cases hr1
          · rw [if_neg hb0] at hb
            cases hb⟩⟩
        by_cases h0 : b = 0
        · rw [if_pos h0] at hb
          cases hb
          exact ⟨by subst h0; exact Nat.lt_succ_self 0,hsz⟩
        · rw [if_neg h0] at hb; cases hb
      · by_cases h0 : b = 0
        · rw [if_pos h0] at h; cases h; rfl
        · rw [if_neg h0] at h; cases h
    | cons z zs =>
      have h0:=hc 0 (by simp)
      obtain ⟨ab,ao,asp⟩:=a
      have h1 : W.cell? ⟨ab,ao,asp⟩ = some (.int .i64 z):=h0
      have hcell : ∃ c el fr,W.heap[ab]? = some (.cells c el fr) ∧ asp = none:=by
        unfold World.cell? at h1
        split at h1
        · rename_i c el fr hb'
          cases asp with
          | none => exact ⟨c,el,fr,hb',rfl⟩
          | some _ => simp at h1
        · cases h1
      obtain ⟨c,el,fr,hW,rfl⟩:=hcell
      have hlt : ab < W.heap.size:=(Array.getElem?_eq_some_iff.1 hW).1
      have hci : ∀ (i : Nat) (v : Value),((z :: zs).map fun z => Value.int .i64 z)[i]? = some v → c[ao + i]? = some v:=fun i v hv => by
        rw [List.getElem?_map] at hv
        cases hzi : (z :: zs)[i]? with
        | none => rw [hzi] at hv; cases hv
        | some y =>
          rw [hzi] at hv
          cases hv
          have hil:=(List.getElem?_eq_some_iff.1 hzi).1
          have hh:=hc i hil
          rw [List.getD,hzi] at hh
          have ha : (⟨ab,ao,none⟩ : Addr).add i = ⟨ab,ao + i,none⟩:=by
            unfold Addr.add
            by_cases h0 : i = 0
            · subst h0; rfl
            · rw [if_neg h0]
          rw [ha] at hh
          unfold World.cell? at hh
          simp only [hW] at hh
          exact hh
      have hty : ((z :: zs).take len).length = len:=by rw [List.length_take,hz]; omega
      refine law_calls hf hb n (numbers (z :: zs)) (fun b => if b = 0 then some ⟨ab,ao,true,none⟩ else none) W [.slice (some ⟨0,0,none⟩) ((z :: zs).take len).length cap] _ hg ?_ ?_ (fun b e h => ?_)
        (h (some ⟨0,0,none⟩) ((z :: zs).take len) cap (by rw [hty]; omega) (numbers (z :: zs)) (numbers_wf _) (fun i n hi => numbers_ints (z :: zs) i n (by
          rw [List.getElem?_take] at hi
          split at hi
          · exact hi
          · cases hi)) fun a h => by cases h; exact Nat.lt_succ_self 0)
      · refine ⟨fun b ent e _ hb hm' => ?_,fun b b' ent ent' e e' hne hb hb' _ _ hm' hm'' => ?_,fun b e hb => ?_,fun b ent hb => ((numbers_wf _) b ent hb).1,fun k o hk => ⟨hk.2,fun b e hb hr1 => by
          by_cases hb0 : b = 0
          · rw [if_pos hb0] at hb
            cases hb
            cases hr1
          · rw [if_neg hb0] at hb
            cases hb⟩⟩
        · rw [numbers_get] at hb
          by_cases hb0 : b = 0
          · rw [if_pos hb0] at hb hm'
            cases hb
            cases hm'
            exact ⟨rfl,c,el,fr,hW,(fun h => by cases h),fun i v hv => ⟨v,hci i v hv,by
              rw [List.getElem?_map] at hv
              cases hzi : (z :: zs)[i]? with
              | none => rw [hzi] at hv; cases hv
              | some y => rw [hzi] at hv; cases hv; exact .int _ _⟩,trivial⟩
          · rw [if_neg hb0] at hb; cases hb
        · by_cases hb0 : b = 0
          · by_cases hb1 : b' = 0
            · omega
            · rw [if_neg hb1] at hm''; cases hm''
          · rw [if_neg hb0] at hm'; cases hm'
        · by_cases hb0 : b = 0
          · rw [if_pos hb0] at hb
            cases hb
            exact ⟨by subst hb0; exact Nat.lt_succ_self 0,hlt⟩
          · rw [if_neg hb0] at hb; cases hb
      · refine .cons ?_ .nil
        rw [hty]
        have:=VRel.slice (m:=fun b => if b = 0 then some ⟨ab,ao,true,none⟩ else none) (b:=0) (off:=0) (l:=len) (c:=cap) (c':=cap) (e:=⟨ab,ao,true,none⟩) (if_pos rfl) (.inl rfl)
        exact this
      · by_cases hb0 : b = 0
        · rw [if_pos hb0] at h; cases h; rfl
        · rw [if_neg hb0] at h; cases h
end Go.Proofs.YtodkeaoikjjneaaGreatDoor
/- datum.Find. -/
namespace Go.Proofs.YtodkeaoikjjneaaGreatDoor
open Go Go.Eng
attribute [local congr] andThen_congr fops_congr fdraw_congr afterOp_congr drawF_congr
attribute [-go_sem] List.range_succ
structure Stays (Q : Nat → Value → FState → Prop) : Prop where
  keep : ∀ base base' v σ σ',Q base v σ → Wf σ → base' ≤ base → (∀ b,base ≤ b → b < σ.next → σ'.heap.get b = σ.heap.get b) → Q base' v σ'
def ResP (x : D) (l : List (List Nat × D)) (base : Nat) (w : Value) (σ : FState) : Prop:=∃ us,Vecs 22 (fun b => base ≤ b) σ w us ∧ PathsL (fun b => base ≤ b) σ us (foundIn x l)
mutual
theorem pieces_le : ∀ (d : D) (p : List Nat) (y : List Nat × D),y ∈ d.pieces p → y.2.deep ≤ d.deep ∧ y.2.count ≤ d.count
  | .mk k z t ds,p,y,h => by
    rw [D.pieces] at h
    rcases List.mem_cons.1 h with rfl | h
    · exact ⟨Nat.le_refl _,Nat.le_refl _⟩
    · have:=piecesL_le ds p 0 y h
      rw [D.deep,D.count]
      omega
theorem piecesL_le : ∀ (ds : List D) (p : List Nat) (i : Nat) (y : List Nat × D),y ∈ D.piecesL p i ds → y.2.deep ≤ D.deeps ds ∧ y.2.count ≤ D.counts ds
  | [],p,i,y,h => by simp [D.piecesL] at h
  | d :: ds,p,i,y,h => by
    rw [D.piecesL,List.mem_append] at h
    rw [D.deeps,D.counts]
    rcases h with h | h
    · have:=pieces_le d _ y h; omega
    · have:=piecesL_le ds _ _ y h; omega
end
theorem longest_le (l : List (List Nat × D)) (L : Nat) (h : ∀ x ∈ l,x.1.length ≤ L) : longest l ≤ L + 1:=by
  induction l with
  | nil => simp [longest]
  | cons x l ih =>
    rw [longest_cons]
    have:=h x List.mem_cons_self
    have:=ih fun y hy => h y (List.mem_cons_of_mem _ hy)
    omega
theorem Fine.deep_le {m L : Nat} {d : D} (h : Fine m L d) : d.deep ≤ L + 1:=by
  have h1:=longest_pieces d []
  have h2:=longest_le (d.pieces []) L fun x hx => by have:=((h []).2 x hx).1; simpa using this
  simp at h1
  omega
end Go.Proofs.YtodkeaoikjjneaaGreatDoor
/- plain.Copy. -/
namespace Go.Proofs.YtodkeaoikjjneaaGreatDoor
open Go Go.Eng
attribute [local congr] andThen_congr fops_congr fdraw_congr afterOp_congr drawF_congr
attribute [-go_sem] List.range_succ
theorem keepEach : keepOf nls 106 = [14,15,28]:=by kernel_rfl
theorem makeSlice_go (e : TypeId) (bytes : Nat) (z : List Value) (n : Nat) (σ : FState) (h : n * (bytes + 1) ≤ 1000000000) : fmakeSlice e bytes z (.int .i64 (.ofNat n)) (.int .i64 (.ofNat n)) σ = .val (.slice (some ⟨σ.next,0,none⟩) n n) (σ.push (.cells (reps n z) e) none):=by
  show cond (Nat.ble n n && Nat.ble (n * (bytes + 1)) 1000000000) _ _ = _
  rw [show Nat.ble n n = true by rw [Nat.ble_eq]; exact Nat.le_refl _,show Nat.ble (n * (bytes + 1)) 1000000000 = true by rw [Nat.ble_eq]; exact h]
  rfl
theorem reps_length (n : Nat) (z : List Value) : (reps n z).length = n * z.length:=by
  induction n with
  | zero => simp [reps_zero]
  | succ n ih => rw [reps_succ,List.length_append,ih,Nat.succ_mul]; omega
def CopyAt (m : Nat) (d : D) : Prop:=∀ (lv : List Value) (R : Nat → Prop) (σ : FState),Wf σ → LaidR R σ (.agg lv.toArray) d → Gives ((env m).call 69 [.agg lv.toArray] none σ) σ fun w σ' => LaidR (fun b => σ.next ≤ b) σ' w d
structure HeadEa (bo base : Nat) (R : Nat → Prop) (q : Option Addr) (c : Nat) (ds : List D) (σ0 : FState) (i : Nat) (f g : Nat → Value) (σ : FState) : Prop where
  f0 : f 0 = .slice q ds.length c
  f1 : f 1 = .func (.func 69) #[] #[]
  f5 : f 5 = .slice (some ⟨bo,0,none⟩) ds.length ds.length
  g14 : g 14 = .int .i64 (.ofNat ds.length)
  g15 : g 15 = .int .i64 (.ofNat i)
  cs : ∃ done rest ver,σ.heap.get bo = some ⟨.cells (done ++ rest) TD,false,none,ver⟩ ∧ Row (fun b => base ≤ b ∧ b ≠ bo) σ done (ds.take i) ∧ rest.length = (ds.length - i) * 4
  hbo : base ≤ bo
  lay : LaidRE R σ q 0 ds
  low : ∀ b,R b → b < base
  wf : Wf σ
  ext : Ext σ0 σ
  le : i ≤ ds.length
theorem each_loop (m : Nat) {bo base : Nat} {R : Nat → Prop} {q : Option Addr} {c : Nat} {ds : List D} {σ0 : FState} (hC : ∀ d ∈ ds,CopyAt m d) (hb0 : σ0.next = base) (hfew : ds.length < 1000000) :
    ∀ (j fuel i : Nat) (f g : Nat → Value) (σ : FState),i + j = ds.length → j < fuel → HeadEa bo base R q c ds σ0 i f g σ →
    ∃ f' g' σ',floop [14,15,28] (l106_0 (env m) none 106) fuel (Sl 7 29 f g []) none σ = .done (.exit 0) (Sl 7 29 f' g' []) none σ' ∧ HeadEa bo base R q c ds σ0 ds.length f' g' σ':=by
  intro j
  induction j with
  | zero =>
    intro fuel i f g σ hij hf h
    obtain ⟨fuel,rfl⟩ : ∃ q,fuel = q + 1:=⟨fuel - 1,by omega⟩
    obtain rfl : i = ds.length:=by omega
    have d1 : decide (Int.ofNat ds.length < Int.ofNat ds.length) = false:=by simp
    rw [floop_step,Sl_forget]
    unfold l106_0
    simp -implicitDefEqProofs only [go_sem,↓reduceIte,Nat.reduceLT,Nat.reduceEqDiff,Nat.reduceAdd,Nat.reduceMul,Nat.reduceLeDiff,Nat.reduceSub,r106_5_go,r106_5U,h.g14,h.g15,d1,List.mem_cons]
    refine ⟨_,_,_,rfl,{ h with g14:=?_,g15:=?_ }⟩
    · simp -implicitDefEqProofs only [upd_go,kept_go,↓reduceIte,Nat.reduceEqDiff,Nat.reduceLT,reduceCtorEq,h.g14,List.mem_cons,true_or,or_true]
    · simp -implicitDefEqProofs only [upd_go,kept_go,↓reduceIte,Nat.reduceEqDiff,Nat.reduceLT,reduceCtorEq,h.g15,List.mem_cons,true_or,or_true]
  | succ j ih =>
    intro fuel i f g σ hij hf h
    obtain ⟨fuel,rfl⟩ : ∃ q,fuel = q + 1:=⟨fuel - 1,by omega⟩
    have hi : i < ds.length:=by omega
    have d1 : decide (Int.ofNat i < Int.ofNat ds.length) = true:=by simp; omega
    have hd : ds[i]? = some ds[i]:=List.getElem?_eq_getElem hi
    obtain ⟨b,off,cs,rfl,hRb,hcs,hle,hL⟩:=LaidRE.get h.lay hd
    rw [Nat.zero_add] at hle hL
    obtain ⟨done,rest,ver,hg,hr,hrl⟩:=h.cs
    obtain ⟨w,σ1,e1,x1,hw1,hL1⟩:=hC _ (List.getElem_mem hi) ((cs.drop (off + i * 4)).take 4) R σ h.wf hL
    obtain ⟨l4,rfl,hl4,hone⟩:=hL1.agg
    have hbn:=(h.wf _ _ hg).1
    have hg1:=(x1.get bo hbn).trans hg
    have hdl : done.length = i * 4:=by rw [hr.1,List.length_take]; omega
    have w1:=add1 i (by omega)
    have hr4 : 4 ≤ rest.length:=by rw [hrl]; omega
    have e4 : ((done ++ rest).take (i * 4) ++ l4 ++ (done ++ rest).drop (i * 4 + 4)) = (done ++ l4) ++ rest.drop 4:=by
      rw [← hdl,List.take_left',List.drop_append]
      · simp [List.drop_eq_nil_of_le]
      · rfl
    have hlen : i * 4 + 4 ≤ (done ++ rest).length:=by rw [List.length_append,hdl]; omega
    rw [floop_step,Sl_forget]
    unfold l106_0
    simp -implicitDefEqProofs only [go_sem,↓reduceIte,Nat.reduceLT,Nat.reduceEqDiff,Nat.reduceAdd,Nat.reduceMul,Nat.reduceLeDiff,Nat.reduceSub,fstoreN,r106_5_go,r106_5U,r106_6_go,r106_6U,r106_7_go,r106_7U,r106_8_go,r106_8U,h.f0,h.f1,h.f5,h.g14,h.g15,d1,hi,hcs,hle,e1,hg1,hl4,hone,hlen,e4,w1,List.mem_cons]
    generalize hff : upd _ 6 _ = f1
    generalize hgg : upd _ 15 _ = g1
    have n1:=x1.next
    have hbase : base ≤ σ.next:=by have:=h.ext.next; omega
    have hbo:=h.hbo
    have kc : ∀ (o : FObj) b cs,σ1.cells b = some cs → b ≠ bo → (σ1.put bo o none).cells b = some cs:=fun o b cs hc hb => by rw [cells_put,if_neg hb]; exact hc
    exact ih fuel (i + 1) f1 g1 _ (by omega) (by omega) {
      f0:=by rw [← hff]; simp -implicitDefEqProofs only [upd_go,kept_go,↓reduceIte,Nat.reduceEqDiff,Nat.reduceLT,reduceCtorEq,h.f0]
      f1:=by rw [← hff]; simp -implicitDefEqProofs only [upd_go,kept_go,↓reduceIte,Nat.reduceEqDiff,Nat.reduceLT,reduceCtorEq,h.f1]
      f5:=by rw [← hff]; simp -implicitDefEqProofs only [upd_go,kept_go,↓reduceIte,Nat.reduceEqDiff,Nat.reduceLT,reduceCtorEq,h.f5]
      g14:=by rw [← hgg]; simp -implicitDefEqProofs only [upd_go,kept_go,↓reduceIte,Nat.reduceEqDiff,Nat.reduceLT,reduceCtorEq,h.g14,List.mem_cons,true_or,or_true]
      g15:=by rw [← hgg]; simp -implicitDefEqProofs only [upd_go,kept_go,↓reduceIte,Nat.reduceEqDiff,Nat.reduceLT,reduceCtorEq]
      cs:=⟨done ++ l4,rest.drop 4,_,by rw [put_get,if_pos rfl],by
        rw [List.take_add_one,hd]
        exact (hr.keep fun b cs hb hc => ⟨kc _ b cs ((x1.cells (h.wf.cells hc)).trans hc) hb.2,hb⟩).snoc hl4 hone (hL1.keep fun b cs hb hc => ⟨kc _ b cs hc (by omega),by omega,by omega⟩),by rw [List.length_drop,hrl]; omega⟩
      hbo:=h.hbo
      lay:=h.lay.keep fun b cs hb hc => ⟨kc _ b cs ((x1.cells (h.wf.cells hc)).trans hc) (by have:=h.low b hb; omega),hb⟩
      low:=h.low
      wf:=hw1.put _ _ _ (by omega)
      ext:=(h.ext.trans x1).put _ _ _ (by omega)
      le:=hi }
theorem each_step (m : Nat) (ds : List D) (hC : ∀ d ∈ ds,CopyAt m d) (hfew : ds.length < 1000000) (q : Option Addr) (c : Nat) (R : Nat → Prop) (σ : FState) (hw : Wf σ) (hE : LaidRE R σ q 0 ds) :
    Gives ((env (m + 1)).call 106 [.slice q ds.length c,.func (.func 69) #[] #[]] none σ) σ fun w σ' => ∃ q' c',w = .slice q' ds.length c' ∧ LaidRE (fun b => σ.next ≤ b) σ' q' 0 ds:=by
  rw [env_call _ 106 _ _ rfl,enter106 _ _ _ _ (by simp),Sl_start]
  unfold run106
  cases hz : (Int.ofNat ds.length == (0 : Int)) with
  | true =>
    have h0 : ds = []:=by
      have:=Int.ofNat.inj (eq_of_beq hz)
      exact List.length_eq_zero_iff.1 this
    subst h0
    simp -implicitDefEqProofs only [go_sem,↓reduceIte,Nat.reduceLT,Nat.reduceEqDiff,Nat.reduceAdd,Nat.reduceMul,Nat.reduceLeDiff,Nat.reduceSub,r106_0_go,r106_0U,r106_1_go,r106_1U,r106_2_go,r106_2U,Option.getD_some,hz]
    exact ⟨_,_,rfl,Ext.refl _,hw,none,0,rfl,trivial⟩
  | false =>
    have hmk:=fun σ => makeSlice_go 28 56 [.int .i64 0,.int .i64 0,.string ⟨#[]⟩,.slice none 0 0] ds.length σ (by omega)
    simp -implicitDefEqProofs only [go_sem,↓reduceIte,Nat.reduceLT,Nat.reduceEqDiff,Nat.reduceAdd,Nat.reduceMul,Nat.reduceLeDiff,Nat.reduceSub,r106_0_go,r106_0U,r106_1_go,r106_1U,r106_3_go,r106_3U,r106_4_go,r106_4U,Option.getD_some,hz,hmk,keepEach]
    generalize hff : upd _ 5 _ = f1
    generalize hgg : upd _ 15 _ = g1
    generalize hbf : bigFuel = fuel
    obtain ⟨f2,g2,σ2,e2,h2⟩:=each_loop m (bo:=σ.next) (base:=σ.next) (R:=fun b => R b ∧ b < σ.next) (q:=q) (c:=c) (σ0:=σ) hC rfl hfew ds.length fuel 0 f1 g1 (σ.push (.cells (reps ds.length [.int .i64 0,.int .i64 0,.string ⟨#[]⟩,.slice none 0 0]) TD) none) (by omega) (by rw [← hbf]; show ds.length < 1000000000000; omega) {
      f0:=by rw [← hff]; simp -implicitDefEqProofs only [upd_go,kept_go,↓reduceIte,Nat.reduceEqDiff,Nat.reduceLT,reduceCtorEq,List.getElem?_cons_zero,List.getElem?_cons_succ,Option.getD_some]
      f1:=by rw [← hff]; simp -implicitDefEqProofs only [upd_go,kept_go,↓reduceIte,Nat.reduceEqDiff,Nat.reduceLT,reduceCtorEq,List.getElem?_cons_zero,List.getElem?_cons_succ,Option.getD_some]
      f5:=by rw [← hff]; simp -implicitDefEqProofs only [upd_go,kept_go,↓reduceIte,Nat.reduceEqDiff,Nat.reduceLT,reduceCtorEq]
      g14:=by rw [← hgg]; simp -implicitDefEqProofs only [upd_go,kept_go,↓reduceIte,Nat.reduceEqDiff,Nat.reduceLT,reduceCtorEq]
      g15:=by rw [← hgg]; simp -implicitDefEqProofs only [upd_go,kept_go,↓reduceIte,Nat.reduceEqDiff,Nat.reduceLT,reduceCtorEq] <;> rfl
      cs:=⟨[],reps ds.length [.int .i64 0,.int .i64 0,.string ⟨#[]⟩,.slice none 0 0],σ.clock,by rw [push_get,if_pos rfl]; rfl,Row.nil _ _,by rw [reps_length]; rfl⟩
      hbo:=Nat.le_refl _
      lay:=hE.keep fun b cs hb hc => ⟨by rw [cells_push,if_neg (by have:=hw.cells hc; omega)]; exact hc,hb,hw.cells hc⟩
      low:=fun b hb => hb.2
      wf:=hw.push _ _
      ext:=(Ext.refl _).push _ _
      le:=Nat.zero_le _ }
    rw [e2]
    simp -implicitDefEqProofs only [go_sem,↓reduceIte,Nat.reduceLT,Nat.reduceEqDiff,Nat.reduceAdd,Nat.reduceMul,Nat.reduceLeDiff,Nat.reduceSub,r106_9_go,r106_9U,h2.f5]
    obtain ⟨done,rest,ver,hg,hr,hrl⟩:=h2.cs
    rw [List.take_length] at hr
    have hrest : rest = []:=List.length_eq_zero_iff.1 (by rw [hrl]; omega)
    subst hrest
    rw [List.append_nil] at hg
    exact ⟨_,_,rfl,h2.ext,h2.wf,_,_,rfl,hr.elems (cells_of_get hg) (Nat.le_refl _) (fun c hc => hc.1) 0 ds fun j e he => by rwa [Nat.zero_add]⟩
theorem copy_step (m : Nat) (k z : Int) (t : ByteArray) (ds : List D) (hC : ∀ d ∈ ds,CopyAt m d) (hfew : ds.length < 1000000) : CopyAt (m + 2) (.mk k z t ds):=by
  intro lv R σ hw hL
  obtain ⟨q,c,hv,hE⟩:=hL
  have hlv : lv = [.int .i64 k,.int .i64 z,.string t,.slice q ds.length c]:=by
    have:=Value.agg.inj hv
    simpa using congrArg Array.toList this
  subst hlv
  rw [env_call _ 69 _ _ rfl,enter69 _ _ _ _ (by simp),Sl_start]
  unfold run69
  have x1 : Ext σ ((σ.push (.cells [.int .i64 k,.int .i64 z,.string t,.slice q ds.length c] TD) none).push (.cells [.int .i64 0,.int .i64 0,.string ⟨#[]⟩,.slice none 0 0] TD) none):=((Ext.refl _).push _ _).push _ _
  have hw1:=(hw.push (.cells [.int .i64 k,.int .i64 z,.string t,.slice q ds.length c] TD) none).push (.cells [.int .i64 0,.int .i64 0,.string ⟨#[]⟩,.slice none 0 0] TD) none
  have c1 : ((σ.push (.cells [.int .i64 k,.int .i64 z,.string t,.slice q ds.length c] TD) none).push (.cells [.int .i64 0,.int .i64 0,.string ⟨#[]⟩,.slice none 0 0] TD) none).cells σ.next = some [.int .i64 k,.int .i64 z,.string t,.slice q ds.length c]:=by rw [cells_push,if_neg (by rw [push_next]; omega),cells_push,if_pos rfl]; rfl
  have g2 : ((σ.push (.cells [.int .i64 k,.int .i64 z,.string t,.slice q ds.length c] TD) none).push (.cells [.int .i64 0,.int .i64 0,.string ⟨#[]⟩,.slice none 0 0] TD) none).heap.get (σ.next + 1) = some ⟨.cells [.int .i64 0,.int .i64 0,.string ⟨#[]⟩,.slice none 0 0] TD,false,none,σ.clock + 1⟩:=by rw [push_get,if_pos (by rw [push_next])]; rfl
  have kc : ((σ.push (.cells [.int .i64 k,.int .i64 z,.string t,.slice q ds.length c] TD) none).push (.cells [.int .i64 0,.int .i64 0,.string ⟨#[]⟩,.slice none 0 0] TD) none).clock = σ.clock + 2:=rfl
  have kn : ((σ.push (.cells [.int .i64 k,.int .i64 z,.string t,.slice q ds.length c] TD) none).push (.cells [.int .i64 0,.int .i64 0,.string ⟨#[]⟩,.slice none 0 0] TD) none).next = σ.next + 2:=rfl
  simp -implicitDefEqProofs only [go_sem,↓reduceIte,Nat.reduceLT,Nat.reduceEqDiff,Nat.reduceAdd,Nat.reduceMul,Nat.reduceLeDiff,Nat.reduceSub,r69_0_go,r69_0U,Option.getD_some]
  generalize FState.push (FState.push σ _ _) _ _ = σ1 at x1 hw1 c1 g2 kc kn ⊢
  have hv1:=view_wf hw1 (lam:=σ.clock + 2) (by omega)
  obtain ⟨_,σ2,e2,x2,hw2,q',c',rfl,hE'⟩:=each_step m ds hC hfew q c R σ1 hw1 (hE.keep fun b cs hb hc => ⟨(x1.cells (hw.cells hc)).trans hc,hb⟩)
  have c2 : (view σ2 (σ.clock + 2)).cells σ.next = some [.int .i64 k,.int .i64 z,.string t,.slice q ds.length c]:=view_old hw1 (by omega) (x2.get _ (hw1.cells c1)) c1
  have g2':=(x2.get _ (hw1 _ _ g2).1).trans g2
  simp -implicitDefEqProofs only [go_sem,↓reduceIte,Nat.reduceLT,Nat.reduceEqDiff,Nat.reduceAdd,Nat.reduceMul,Nat.reduceLeDiff,Nat.reduceSub,fstoreN,r69_1_go,r69_1U,hv1,c1,e2,c2,g2',fleave_nil,fresults_nil,fresults_cons,fresult_cell,aggDatum]
  have n2:=x2.next
  exact ⟨_,_,rfl,(x1.trans x2).put _ _ _ (by omega),hw2.put _ _ _ (by omega),q',c',rfl,hE'.keep fun b cs hb hc => ⟨by rw [cells_put,if_neg (by omega)]; exact hc,by omega⟩⟩
theorem copy_go (n : Nat) : ∀ (N : Nat) (d : D),D.deep d ≤ N → d.count < 1000000 → CopyAt (n + 2 * N) d
  | 0,d,h,_ => by cases d; rw [D.deep] at h; omega
  | N + 1,.mk k z t ds,h,hc => by
    rw [D.deep] at h
    rw [D.count] at hc
    have:=length_counts ds
    exact copy_step (n + 2 * N) k z t ds (fun d hd => copy_go n N d (by have:=deeps_mem hd; omega) (by have:=count_mem hd; omega)) (by omega)
end Go.Proofs.YtodkeaoikjjneaaGreatDoor
/- datum.At. -/
namespace Go.Proofs.YtodkeaoikjjneaaGreatDoor
open Go Go.Eng
attribute [local congr] andThen_congr fops_congr fdraw_congr afterOp_congr drawF_congr
attribute [-go_sem] List.range_succ
theorem keepPlace : keepOf nls 73 = [7,8,9,32]:=by kernel_rfl
theorem field3 {cs : List Value} {off : Nat} {a b c e : Value} (h : (cs.drop off).take 4 = [a,b,c,e]) : cs[off + 3]? = some e:=by
  have : ((cs.drop off).take 4)[3]? = some e:=by rw [h]; rfl
  rw [List.getElem?_take,if_pos (by omega),List.getElem?_drop] at this
  exact this
structure HeadPl (a : Option Addr) (plen cx i b off : Nat) (f g : Nat → Value) : Prop where
  f0 : f 0 = .pointer (some ⟨b,off,none⟩)
  g7 : g 7 = .slice a plen cx
  g8 : g 8 = .int .i64 (.ofNat plen)
  g9 : g 9 = .int .i64 (.ofNat i)
theorem place_loop (E : Env) {a : Option Addr} {cx : Nat} {path : List Nat} {R : Nat → Prop} {σ : FState} (hs : path.length < 100000) (x : D) (hp : path ≠ [] → ∃ b rest,a = some ⟨b,0,none⟩ ∧ σ.cells b = some (intsOf path ++ rest)) :
    ∀ (j fuel i : Nat) (f g : Nat → Value) (d : D) (b off : Nat) (cs : List Value),i + j = path.length → j < fuel → atP (path.drop i) d = some x → d.count < 100000 → σ.cells b = some cs → 4 ≤ cs.length - off → LaidR R σ (.agg ((cs.drop off).take 4).toArray) d → HeadPl a path.length cx i b off f g →
    ∃ f' g' b off cs,floop [7,8,9,32] (l73_0 E none 73) fuel (Sl 7 33 f g []) none σ = .done (.exit 0) (Sl 7 33 f' g' []) none σ ∧ f' 0 = .pointer (some ⟨b,off,none⟩) ∧ σ.cells b = some cs ∧ 4 ≤ cs.length - off ∧ LaidR R σ (.agg ((cs.drop off).take 4).toArray) x:=by
  intro j
  induction j with
  | zero =>
    intro fuel i f g d b off cs hij hf hx _ hc hle hL h
    obtain ⟨fuel,rfl⟩ : ∃ q,fuel = q + 1:=⟨fuel - 1,by omega⟩
    obtain rfl : i = path.length:=by omega
    rw [List.drop_length,atP] at hx
    obtain rfl:=Option.some.inj hx
    have d1 : decide (Int.ofNat path.length < Int.ofNat path.length) = false:=by simp
    rw [floop_step,Sl_forget]
    unfold l73_0
    simp -implicitDefEqProofs only [go_sem,↓reduceIte,Nat.reduceLT,Nat.reduceEqDiff,Nat.reduceAdd,Nat.reduceMul,Nat.reduceLeDiff,Nat.reduceSub,r73_2_go,r73_2U,h.g8,h.g9,d1,List.mem_cons]
    exact ⟨_,_,b,off,cs,rfl,h.f0,hc,hle,hL⟩
  | succ j ih =>
    intro fuel i f g d b off cs hij hf hx hN hc hle hL h
    obtain ⟨fuel,rfl⟩ : ∃ q,fuel = q + 1:=⟨fuel - 1,by omega⟩
    have hi : i < path.length:=by omega
    have d1 : decide (Int.ofNat i < Int.ofNat path.length) = true:=by simp; omega
    obtain ⟨bp,rest,rfl,hcp⟩:=hp (fun h => by rw [h] at hi; simp at hi)
    have g1:=intsOf_get rest hi
    have w3:=add1 i (by omega)
    have hdr : path.drop i = path[i] :: path.drop (i + 1):=List.drop_eq_getElem_cons hi
    obtain ⟨k,z,t,ds⟩:=d
    obtain ⟨q,c,hv,hE⟩:=hL
    have hv' : (cs.drop off).take 4 = [.int .i64 k,.int .i64 z,.string t,.slice q ds.length c]:=by
      have:=Value.agg.inj hv
      simpa using congrArg Array.toList this
    have hf3:=field3 hv'
    rw [hdr,atP] at hx
    simp only [D.parts] at hx
    cases hd : ds[path[i]]? with
    | none => rw [hd] at hx; cases hx
    | some d' =>
      rw [hd] at hx
      simp only at hx
      have hpi:=(List.getElem?_eq_some_iff.1 hd).1
      obtain ⟨b',off',cs',rfl,hRb,hcs',hle',hL'⟩:=LaidRE.get hE hd
      rw [Nat.zero_add] at hle' hL'
      have e0 : decide (Int.ofNat path[i] < 0) = false:=by simp
      have e1 : decide (Int.ofNat path[i] ≥ Int.ofNat ds.length) = false:=by simp; omega
      rw [floop_step,Sl_forget]
      unfold l73_0
      simp -implicitDefEqProofs only [go_sem,↓reduceIte,Nat.reduceLT,Nat.reduceEqDiff,Nat.reduceAdd,Nat.reduceMul,Nat.reduceLeDiff,Nat.reduceSub,r73_2_go,r73_2U,r73_3_go,r73_3U,r73_4_go,r73_4U,r73_6_go,r73_6U,r73_7_go,r73_7U,h.f0,h.g7,h.g8,h.g9,d1,hi,hcp,g1,hc,hf3,e0,e1,hpi,w3,List.mem_cons]
      generalize hff : upd _ 0 _ = f1
      generalize hgg : upd _ 9 _ = gg
      exact ih fuel (i + 1) f1 gg d' b' (off' + path[i] * 4) cs' (by omega) (by omega) hx (by have:=count_mem (List.mem_of_getElem? hd); rw [D.count] at hN; omega) hcs' (by omega) hL' {
        f0:=by rw [← hff]; simp -implicitDefEqProofs only [upd_go,kept_go,↓reduceIte,Nat.reduceEqDiff,Nat.reduceLT,reduceCtorEq]
        g7:=by rw [← hgg]; simp -implicitDefEqProofs only [upd_go,kept_go,↓reduceIte,Nat.reduceEqDiff,Nat.reduceLT,reduceCtorEq,h.g7,List.mem_cons,true_or,or_true]
        g8:=by rw [← hgg]; simp -implicitDefEqProofs only [upd_go,kept_go,↓reduceIte,Nat.reduceEqDiff,Nat.reduceLT,reduceCtorEq,h.g8,List.mem_cons,true_or,or_true]
        g9:=by rw [← hgg]; simp -implicitDefEqProofs only [upd_go,kept_go,↓reduceIte,Nat.reduceEqDiff,Nat.reduceLT,reduceCtorEq] }
theorem place_go (n : Nat) {path : List Nat} {pv : Value} {R Q : Nat → Prop} {σ : FState} (hs : path.length < 100000) {d x : D} (hP : PathV Q σ pv path) {b off : Nat} {cs : List Value} (hx : atP path d = some x) (hN : d.count < 100000) (hc : σ.cells b = some cs) (hle : 4 ≤ cs.length - off) (hL : LaidR R σ (.agg ((cs.drop off).take 4).toArray) d) :
    ∃ b' off' cs',(env (n + 1)).call 73 [.pointer (some ⟨b,off,none⟩),pv] none σ = .ret (.pointer (some ⟨b',off',none⟩)) none σ ∧ σ.cells b' = some cs' ∧ 4 ≤ cs'.length - off' ∧ LaidR R σ (.agg ((cs'.drop off').take 4).toArray) x:=by
  obtain ⟨a,cx,rfl,k1⟩:=pathV_slice hP
  rw [env_call _ 73 _ _ rfl,enter73 _ _ _ _ (by simp),Sl_start]
  unfold run73
  simp -implicitDefEqProofs only [go_sem,↓reduceIte,Nat.reduceLT,Nat.reduceEqDiff,Nat.reduceAdd,Nat.reduceMul,Nat.reduceLeDiff,Nat.reduceSub,r73_0_go,r73_0U,r73_1_go,r73_1U,Option.getD_some,keepPlace]
  generalize hff : upd _ 4 _ = f1
  generalize hgg : upd _ 9 _ = g1
  generalize hbf : bigFuel = fuel
  obtain ⟨f2,g2,b',off',cs',e2,h1,h2,h3,h4⟩:=place_loop (env n) (a:=a) (cx:=cx) (σ:=σ) hs x (fun h => by obtain ⟨b,r,x,_,y⟩:=k1 h; exact ⟨b,r,x,y⟩) path.length fuel 0 f1 g1 d b off cs (by omega) (by rw [← hbf]; show path.length < 1000000000000; omega) hx hN hc hle hL {
    f0:=by rw [← hff]; simp -implicitDefEqProofs only [upd_go,kept_go,↓reduceIte,Nat.reduceEqDiff,Nat.reduceLT,reduceCtorEq,List.getElem?_cons_zero,List.getElem?_cons_succ,Option.getD_some]
    g7:=by rw [← hgg]; simp -implicitDefEqProofs only [upd_go,kept_go,↓reduceIte,Nat.reduceEqDiff,Nat.reduceLT,reduceCtorEq]
    g8:=by rw [← hgg]; simp -implicitDefEqProofs only [upd_go,kept_go,↓reduceIte,Nat.reduceEqDiff,Nat.reduceLT,reduceCtorEq]
    g9:=by rw [← hgg]; simp -implicitDefEqProofs only [upd_go,kept_go,↓reduceIte,Nat.reduceEqDiff,Nat.reduceLT,reduceCtorEq] <;> rfl }
  rw [e2]
  simp -implicitDefEqProofs only [go_sem,↓reduceIte,Nat.reduceLT,Nat.reduceEqDiff,Nat.reduceAdd,Nat.reduceMul,Nat.reduceLeDiff,Nat.reduceSub,r73_8_go,r73_8U,h1]
  exact ⟨_,_,_,rfl,h2,h3,h4⟩
theorem at1 (M n : Nat) (hM : M = n + 14) (bd bp : Nat) (L : Nat) (hL6 : L ≤ 6) (d x : D) (hF : Fine M L d) (lv : List Value) (h4 : lv.length = 4) (R Q : Nat → Prop) (path : List Nat) (pv : Value) (hs : path.length < 100000) (hx : atP path d = some x) (hxd : x.deep ≤ 7) (hxc : x.count < 100000) (σ : FState) (hw : Wf σ) (hb1 : σ.cells bd = some lv) (hb2 : σ.cells bp = some [pv]) (hL : LaidR R σ (.agg lv.toArray) d) (hP : PathV Q σ pv path) (hR : ∀ b,R b → b < σ.next) :
    Gives ((env (M + 6)).call 72 [.pointer (some ⟨bd,0,none⟩),.pointer (some ⟨bp,0,none⟩)] none σ) σ fun v σ' => LaidR (fun b => σ.next ≤ b) σ' v x:=by
  have hf:=hF.few hL6
  rw [env_call _ 72 _ _ rfl,enter72 _ _ _ _ (by simp),Sl_start]
  unfold run72
  have x0 : Ext σ (σ.push (.cells [.int .i64 0,.int .i64 0,.string ⟨#[]⟩,.slice none 0 0] TD) none):=(Ext.refl _).push _ _
  have hw0:=hw.push (.cells [.int .i64 0,.int .i64 0,.string ⟨#[]⟩,.slice none 0 0] TD) none
  have ne1 : (bd = σ.next) = False:=by have:=hw.cells hb1; simp; omega
  have ne2 : (bp = σ.next) = False:=by have:=hw.cells hb2; simp; omega
  obtain ⟨_,σ1,e1,x1,hw1,rfl⟩:=valid_go M d lv h4 R _ hw0 (hL.keep fun b cs hb hc => ⟨(x0.cells (hw.cells hc)).trans hc,hb⟩) (fun b hb => by have:=hR b hb; rw [push_next]; omega) (hF.small hL6) (by omega) hF.good
  have x01:=x0.trans x1
  have c1:=(x01.cells (hw.cells hb1)).trans hb1
  have c2:=(x01.cells (hw.cells hb2)).trans hb2
  have ht : lv.take 4 = lv:=List.take_of_length_le (by omega)
  have hL1 : LaidR R σ1 (.agg ((lv.drop 0).take 4).toArray) d:=by
    rw [List.drop_zero,ht]
    exact hL.keep fun b cs hb hc => ⟨(x01.cells (hw.cells hc)).trans hc,hb⟩
  obtain ⟨b',off',cs',e2,hc',hle',hL'⟩:=place_go (M + 4) (Q:=fun _ => True) (σ:=σ1) hs (hP.keep fun b cs _ hc => ⟨(x01.cells (hw.cells hc)).trans hc,trivial⟩) hx (by rw [← pieces_length d []]; omega) c1 (by omega) hL1
  have hcp:=copy_go (n + 5) 7 x hxd (by omega)
  rw [show n + 5 + 2 * 7 = M + 5 by omega] at hcp
  obtain ⟨_,σ2,e3,x2,hw2,hq⟩:=hcp ((cs'.drop off').take 4) R σ1 hw1 hL'
  obtain ⟨k,z,t,ds⟩:=x
  obtain ⟨q,c,rfl,hE⟩:=hq
  have g0 : σ2.heap.get σ.next = _:=((x1.trans x2).get σ.next (Nat.lt_succ_self _)).trans (by rw [push_get,if_pos rfl])
  have m0:=(hw2 _ _ g0).1
  simp -implicitDefEqProofs only [go_sem,↓reduceIte,Nat.reduceLT,Nat.reduceEqDiff,Nat.reduceAdd,Nat.reduceMul,Nat.reduceLeDiff,Nat.reduceSub,fstoreN,r72_0_go,r72_0U,r72_1_go,r72_1U,r72_2_go,r72_2U,Option.getD_some,hb1,hb2,ne1,ne2,c1,c2,h4,ht,e1,e2,e3,hc',hle',g0,aggDatum,fleave_nil,fresults_nil,fresults_cons,fresult_cell,Nat.le_refl]
  have n1:=x1.next
  rw [push_next] at n1
  exact ⟨_,_,rfl,(x01.trans x2).put _ _ _ (Nat.le_refl _),hw2.put _ _ _ m0,q,c,rfl,hE.keep fun b cs hb hc => ⟨by rw [cells_put,if_neg (by omega)]; exact hc,by omega⟩⟩
end Go.Proofs.YtodkeaoikjjneaaGreatDoor
/- Lists as data. -/
namespace Go.Proofs.YtodkeaoikjjneaaGreatDoor
open Go Go.Eng
def nilD : D:=.mk 0 0 ⟨#[]⟩ []
def pairD (a b : D) : D:=.mk 5 0 ⟨#[]⟩ [a,b]
def listD (t : D) : List D → D
  | [] => t
  | d :: ds => pairD d (listD t ds)
theorem counts_append : ∀ a b : List D,D.counts (a ++ b) = D.counts a + D.counts b
  | [],b => by simp [D.counts]
  | d :: a,b => by rw [List.cons_append,D.counts,D.counts,counts_append a b]; omega
def Sane (m : Nat) (d : D) : Prop:=∀ path,∀ x ∈ d.pieces path,x.2.parts.length ≤ 3 ∧ GoodD m x.2
theorem Fine.sane {m L : Nat} {d : D} (h : Fine m L d) : Sane m d:=fun path x hx => ((h path).2 x hx).2
theorem Sane.good {m : Nat} {d : D} (h : Sane m d) : AllGood m (d.pieces []):=fun path k z t ds hx => (h [] _ hx).2 k z t ds rfl
theorem pieces_near (d : D) (hd : d.deep < 1000) : ∀ y ∈ d.pieces [],y.1.length < 1000:=fun y hy => by
  have h1:=longest_pieces d []
  have h2 : y.1.length + 1 ≤ longest (d.pieces []):=by
    obtain ⟨a,b,h⟩:=List.append_of_mem hy
    rw [h,longest_append,longest_cons]
    omega
  simp at h1
  omega
theorem Sane.small {m : Nat} {d : D} (h : Sane m d) (hd : d.deep < 1000) : Small (d.pieces []):=fun x hx => ⟨by have:=pieces_near d hd x hx; omega,by have:=(h [] x hx).1; omega⟩
theorem validS_go (M : Nat) (d : D) (h : Sane M d) (hc : d.count ≤ 2000) (hd : d.deep < 1000) (lv : List Value) (h4 : lv.length = 4) (R : Nat → Prop) (σ : FState) (hw : Wf σ) (hL : LaidR R σ (.agg lv.toArray) d) (hR : ∀ b,R b → b < σ.next) :
    Gives ((env (M + 5)).call 60 [.agg lv.toArray] none σ) σ fun w _ => w = .int .i64 (.ofNat d.count):=by
  have:=valid_go M d lv h4 R σ hw hL hR (h.small hd) (by rw [pieces_length]; exact hc) h.good
  rwa [pieces_length] at this
end Go.Proofs.YtodkeaoikjjneaaGreatDoor
/- A vector of data that is being made, of elements that lie elsewhere. -/
namespace Go.Proofs.YtodkeaoikjjneaaGreatDoor
open Go Go.Eng
def VecG (Q R : Nat → Prop) (σ : FState) (s : Value) (ds : List D) : Prop :=
  (ds = [] ∧ s = .slice none 0 0) ∨ (∃ b cs ver,s = .slice (some ⟨b,0,none⟩) ds.length ds.length ∧ σ.heap.get b = some ⟨.cells cs TD,false,some 4,ver⟩ ∧ Q b ∧ Row R σ cs ds)
theorem VecG.slice {Q R : Nat → Prop} {σ : FState} {s : Value} {ds : List D} (h : VecG Q R σ s ds) : ∃ p,s = .slice p ds.length ds.length ∧ LaidRE (fun b => Q b ∨ R b) σ p 0 ds:=by
  rcases h with ⟨rfl,rfl⟩ | ⟨b,cs,ver,rfl,hb,hq,hr⟩
  · exact ⟨none,rfl,trivial⟩
  · exact ⟨_,rfl,hr.elems (cells_of_get hb) (.inl hq) (fun c hc => .inr hc) 0 ds fun j e he => by rwa [Nat.zero_add]⟩
theorem VecG.one {Q R : Nat → Prop} {σ : FState} {s : Value} {ds : List D} (h : VecG Q R σ s ds) : oneCell s = true ∧ notTuple s = true ∧ valCells s = [s]:=by
  rcases h with ⟨rfl,rfl⟩ | ⟨b,cs,ver,rfl,hb,hq,hr⟩ <;> exact ⟨rfl,rfl,rfl⟩
theorem VecG.keep {Q Q' R R' : Nat → Prop} {σ σ' : FState} {s : Value} {ds : List D} (h : VecG Q R σ s ds) (hq : ∀ b e,Q b → σ.heap.get b = some e → σ'.heap.get b = some e ∧ Q' b) (hr : ∀ b cs,R b → σ.cells b = some cs → σ'.cells b = some cs ∧ R' b) : VecG Q' R' σ' s ds:=by
  rcases h with h | ⟨b,cs,ver,rfl,hb,hQ,hR⟩
  · exact .inl h
  · exact .inr ⟨b,cs,ver,rfl,(hq b _ hQ hb).1,(hq b _ hQ hb).2,hR.keep hr⟩
theorem vecG_append (Q R Q' : Nat → Prop) (σ1 : FState) (s : Value) (ds : List D) (d : D) (l : List Value) (hw : Wf σ1) (hl : l.length = 4) (ho : l.all oneCell = true) (hlen : ds.length < 900) (hV : VecG Q R σ1 s ds)
    (hd : LaidR R σ1 (.agg l.toArray) d) (hQR : ∀ b,Q b → ¬ R b) (hQ' : ∀ b,σ1.next ≤ b → Q' b) :
    ∃ s' τ,fappend TD 4 56 s (.slice (some ⟨σ1.next,0,none⟩) 1 1) (σ1.push (.cells l TD) none) = .val s' τ ∧ VecG Q' R τ s' (ds ++ [d]) ∧ Wf τ ∧ Chg Q σ1 τ:=by
  have hx : (σ1.push (.cells l TD) none).cells σ1.next = some l:=by rw [cells_push,if_pos rfl]; rfl
  rcases hV with ⟨rfl,rfl⟩ | ⟨b,cs,ver,rfl,hb,hq,hR⟩
  · refine ⟨_,_,append_first TD 4 56 _ 1 l _ hx hl ho (by decide),.inr ⟨_,_,_,rfl,by rw [push_get,if_pos rfl],hQ' _ (by rw [push_next]; omega),?_⟩,(hw.push _ _).push _ _,((Chg.refl _ _).push _ _).push _ _⟩
    exact (Row.nil _ _).snoc hl ho (hd.keep fun c cs hc h => by
      have:=hw.cells h
      refine ⟨?_,hc⟩
      rw [cells_push,if_neg (by rw [push_next]; omega),cells_push,if_neg (by omega)]
      exact h)
  · have hbn : b < σ1.next:=(hw b _ hb).1
    have hb1 : (σ1.push (.cells l TD) none).heap.get b = some ⟨.cells cs TD,false,some 4,ver⟩:=by rw [push_get,if_neg (by omega)]; exact hb
    have hw1:=hw.push (.cells l TD) none
    have hw2:=hw1.put b (.defd false) none (by rw [push_next]; omega)
    refine ⟨_,_,append_more TD 4 56 b _ 1 ds.length ver cs l _ hb1 hx hl ho hR.1 (by decide) (by omega),.inr ⟨_,_,_,by rw [List.length_append]; rfl,by rw [push_get,if_pos rfl],hQ' _ (by rw [put_next,push_next]; omega),?_⟩,hw2.push _ _,(((Chg.refl _ _).push _ _).put _ _ _ (.inr hq)).push _ _⟩
    have kp : ∀ (c : Nat) (cs' : List Value),R c → σ1.cells c = some cs' →
        (((σ1.push (.cells l TD) none).put b (.defd false) none).push (.cells (cs ++ l) TD) (some 4)).cells c = some cs' ∧ R c:=fun c cs' hc h => by
      have:=hw.cells h
      refine ⟨?_,hc⟩
      rw [cells_push,if_neg (by rw [put_next,push_next]; omega),cells_put,if_neg (fun (e : c = b) => hQR b hq (e ▸ hc)),cells_push,if_neg (by omega)]
      exact h
    exact (hR.keep kp).snoc hl ho (hd.keep kp)
theorem Row.append {R : Nat → Prop} {σ : FState} {cs cs' : List Value} {ds ds' : List D} (h : Row R σ cs ds) (h' : Row R σ cs' ds') : Row R σ (cs ++ cs') (ds ++ ds'):=by
  refine ⟨by rw [List.length_append,List.length_append,h.1,h'.1]; omega,by rw [List.all_append,h.2.1,h'.2.1]; rfl,fun i d hd => ?_⟩
  by_cases hi : i < ds.length
  · rw [List.getElem?_append_left hi] at hd
    have:=h.2.2 i d hd
    rw [List.drop_append_of_le_length (by rw [h.1]; omega),List.take_append_of_le_length (by rw [List.length_drop,h.1]; omega)]
    exact this
  · rw [List.getElem?_append_right (by omega)] at hd
    have:=h'.2.2 (i - ds.length) d hd
    have e : i * 4 = cs.length + (i - ds.length) * 4:=by rw [h.1]; omega
    rw [e,← List.drop_drop,List.drop_left]
    exact this
end Go.Proofs.YtodkeaoikjjneaaGreatDoor
/- A vector of data whose last element is written over; two stores that may come either way. -/
namespace Go.Eng
open Go
section
variable (E : Env) (ro : Option Nat) (a : FAct) (u : Option FrameMode) (σ : FState) (cl : List Nat)
theorem drawSR_go (l : List DOp) (sb sa : SOp) (fl : List DOp) : drawSR E ro l sb sa fl a u σ = fdraw E ro (fswap E ro sb sa fl) l [σ.clock] a u σ:=rfl
theorem fswap_go (nb na : Nat) (pb vb pa va : FAct → Value) (fl : List DOp) : fswap E ro ⟨nb,pb,vb⟩ ⟨na,pa,va⟩ fl cl a u σ =
    (match fstore nb (pb a) (vb a) σ with
     | .skip σ' => fdraw E ro (fswapA ⟨na,pa,va⟩ (pb a) nb σ'.next) fl (cl ++ [σ'.clock]) a u σ'
     | _ => .no):=rfl
theorem fswapA_go (nb na next : Nat) (pb : Value) (pa va : FAct → Value) : fswapA ⟨na,pa,va⟩ pb nb next cl a u σ =
    cond (Nat.beq σ.next next && apartP na nb (pa a) pb) (match fstore na (pa a) (va a) σ with | .skip σ' => .done .normal a u σ' | _ => .no) .no:=rfl
theorem apartP_ne (n n' b b' o o' : Nat) (h : b ≠ b') : apartP n n' (.pointer (some ⟨b,o,none⟩)) (.pointer (some ⟨b',o',none⟩)) = true:=by
  show (!Nat.beq b b' || Nat.ble (o + n) o' || Nat.ble (o' + n') o) = true
  rw [show Nat.beq b b' = false by rw [← Bool.not_eq_true,Nat.beq_eq]; exact h]
  rfl
theorem beq_self (n : Nat) : Nat.beq n n = true:=by rw [Nat.beq_eq]
end
end Go.Eng
namespace Go.Proofs.YtodkeaoikjjneaaGreatDoor
open Go Go.Eng
theorem Row.init {R : Nat → Prop} {σ : FState} {cs : List Value} {ds : List D} {x : D} (h : Row R σ cs (ds ++ [x])) : Row R σ (cs.take (ds.length * 4)) ds:=by
  have h1:=h.1
  rw [List.length_append,List.length_singleton] at h1
  refine ⟨by rw [List.length_take]; omega,?_,fun i d hd => ?_⟩
  · rw [List.all_eq_true]
    exact fun v hv => List.all_eq_true.1 h.2.1 v (List.mem_of_mem_take hv)
  · have hi:=(List.getElem?_eq_some_iff.1 hd).1
    have:=h.2.2 i d (by rw [List.getElem?_append_left hi]; exact hd)
    rw [List.drop_take,List.take_take,show min 4 (ds.length * 4 - i * 4) = 4 by omega]
    exact this
theorem vecG_last (Q R : Nat → Prop) (σ : FState) (s : Value) (ds : List D) (x d : D) (l : List Value) (hw : Wf σ) (hl : l.length = 4) (ho : l.all oneCell = true) (hV : VecG Q R σ s (ds ++ [x]))
    (hd : LaidR R σ (.agg l.toArray) d) (hQR : ∀ b,Q b → ¬ R b) :
    ∃ b,s = .slice (some ⟨b,0,none⟩) (ds.length + 1) (ds.length + 1) ∧ Q b ∧ ∃ τ,fstore 4 (.pointer (some ⟨b,ds.length * 4,none⟩)) (.agg l.toArray) σ = .skip τ ∧ VecG Q R τ s (ds ++ [d]) ∧ Wf τ ∧ Chg Q σ τ ∧ τ.next = σ.next:=by
  rcases hV with ⟨h,_⟩ | ⟨b,cs,ver,rfl,hb,hq,hR⟩
  · simp at h
  · have h1:=hR.1
    rw [List.length_append,List.length_singleton] at h1 ⊢
    have hbn:=(hw b _ hb).1
    obtain ⟨L,eL⟩ : ∃ L,cs.take (ds.length * 4) ++ l ++ cs.drop (ds.length * 4 + 4) = L:=⟨_,rfl⟩
    have eL2 : cs.take (ds.length * 4) ++ l = L:=by rw [← eL,List.drop_eq_nil_of_le (by omega),List.append_nil]
    have kp : ∀ (c : Nat) (cs' : List Value),R c → σ.cells c = some cs' → (σ.put b (.cells L TD) (some 4)).cells c = some cs' ∧ R c:=fun c cs' hc h => by
      refine ⟨?_,hc⟩
      rw [cells_put,if_neg (fun (e : c = b) => hQR b hq (e ▸ hc))]
      exact h
    refine ⟨b,rfl,hq,σ.put b (.cells L TD) (some 4),?_,.inr ⟨b,_,σ.clock,by rw [List.length_append,List.length_singleton],by rw [put_get,if_pos rfl],hq,?_⟩,hw.put _ _ _ hbn,(Chg.refl _ _).put _ _ _ (.inr hq),rfl⟩
    · rw [fstoreN,hb]
      have hv : valCells (.agg l.toArray) = l:=by simp [valCells_agg]
      simp only [hv,hl,ho,notTuple_agg,and_self,if_true]
      rw [if_pos (by omega),eL]
    · have h:= ((Row.init hR).keep kp).snoc hl ho (hd.keep kp)
      rw [eL2] at h
      exact h
end Go.Proofs.YtodkeaoikjjneaaGreatDoor
/- Functions of the program, written out in the reading's words (made by program; the kernel holds each against the code). -/
namespace Go.Proofs.YtodkeaoikjjneaaGreatDoor
open Go Go.Eng
variable (E : Env) (ro : Option Nat) (last : List Nat → RunF) (cl : List Nat) (a : FAct) (u : Option FrameMode) (σ : FState)
def r104_0U (_ : Unit) : List COp:=[⟨fun a σ => .val (a.get 0) σ,(some 2),fun _ => some true⟩,
  ⟨fun a σ => .enter 131 [(a.get 2),(.int .i64 0)] σ,(some 3),fun _ => some true⟩]
def r104_0 : List COp:=r104_0U ()
def run104 (E : Env) (ro : Option Nat) (fn : FuncId) : RunF:=(fops E ro r104_0)
theorem r104_0_go : fops E ro r104_0 a u σ = fops E ro (r104_0U ()) a u σ:=rfl
theorem code104 (E : Env) (ro : Option Nat) (fn : FuncId) : code Tryz.prog nls (Tryz.f104.body.getD .skip) E ro fn = run104 E ro fn:=by kernel_rfl
theorem enter104 (E : Env) (args : List Value) (u : Option FrameMode) (σ : FState) (hn : args.length ≤ (2 : Nat)) : fcall Tryz.prog nls E 104 args u σ = leaveR Tryz.prog E [] (run104 E none 104 ⟨padTo undef 2 args,fun _ => undef,2,4,[]⟩ u σ):=by
  rw [fcall_of (body:=Tryz.f104.body.getD .skip) Tryz.func104 rfl E args u σ 2 4 (by kernel_rfl) rfl ⟨hn,by decide⟩,code104]
  rfl
def r131_0U (_ : Unit) : List COp:=[⟨fun a σ => .val (a.get 0) σ,(some 4),fun _ => some true⟩,
  ⟨fun a σ => .val (a.get 1) σ,(some 5),fun _ => some true⟩,
  ⟨fun a σ => fbuild (fun i => nth [(0,1),(1,1)] i) [(.int .i64 0),(.int .i64 0)] [(0,(a.get 4)),(1,(a.get 5))] σ,(some 6),fun _ => some true⟩,
  ⟨fun a σ => .val (.iface 166 (a.get 6)) σ,(some 7),fun _ => some true⟩,
  ⟨fun a σ => fpanic (a.get 7) σ,none,fun _ => some true⟩]
def r131_0 : List COp:=r131_0U ()
def run131 (E : Env) (ro : Option Nat) (fn : FuncId) : RunF:=(fops E ro r131_0)
theorem r131_0_go : fops E ro r131_0 a u σ = fops E ro (r131_0U ()) a u σ:=rfl
theorem code131 (E : Env) (ro : Option Nat) (fn : FuncId) : code Tryz.prog nls (Tryz.f131.body.getD .skip) E ro fn = run131 E ro fn:=by kernel_rfl
theorem enter131 (E : Env) (args : List Value) (u : Option FrameMode) (σ : FState) (hn : args.length ≤ (4 : Nat)) : fcall Tryz.prog nls E 131 args u σ = leaveR Tryz.prog E [] (run131 E none 131 ⟨padTo undef 4 args,fun _ => undef,4,8,[]⟩ u σ):=by
  rw [fcall_of (body:=Tryz.f131.body.getD .skip) Tryz.func131 rfl E args u σ 4 8 (by kernel_rfl) rfl ⟨hn,by decide⟩,code131]
  rfl
def r126_0U (_ : Unit) : List COp:=[⟨fun a σ => newCells [(.int .i64 0),(.int .i64 0)] 166 none σ,(some 2),fun _ => some true⟩]
def r126_0 : List COp:=r126_0U ()
def r126_1U (_ : Unit) : List COp:=[⟨fun a σ => newCells [(.int .i64 0),(.int .i64 0)] 166 none σ,(some 3),fun _ => some true⟩]
def r126_1 : List COp:=r126_1U ()
def r126_2U (_ : Unit) : List COp:=[⟨fun a σ => .val (a.get 0) σ,(some 4),fun _ => some true⟩,
  ⟨fun a σ => .val (.iface 186 (a.get 3)) σ,(some 5),fun _ => some true⟩,
  ⟨fun a σ => .enter 147 [(a.get 4),(a.get 5)] σ,(some 6),fun _ => some true⟩,
  ⟨fun a σ => fun1 Tryz.prog (Op.unary .not) (a.get 6) σ,(some 7),fun _ => some true⟩]
def r126_2 : List COp:=r126_2U ()
def r126_3U (_ : Unit) : List COp:=[⟨fun a σ => ffield 0 (a.get 3) σ,(some 8),fun _ => some true⟩,
  ⟨fun a σ => fstore 1 (a.get 8) (.int .i64 1) σ,none,fun _ => some true⟩]
def r126_3 : List COp:=r126_3U ()
def r126_4U (_ : Unit) : List COp:=[⟨fun a σ => fload (some 2) (a.get 3) σ,(some 9),fun _ => some true⟩,
  ⟨fun a σ => fstore 2 (a.get 2) (a.get 9) σ,none,fun _ => some true⟩]
def r126_4 : List COp:=r126_4U ()
def run126 (E : Env) (ro : Option Nat) (fn : FuncId) : RunF:=(seqR (fops E ro r126_0) (seqR (fops E ro r126_1) (seqR (seqR (fops E ro r126_2) (condR (fun a => (a.get 7)) (fops E ro r126_3) skipR)) (seqR (fops E ro r126_4) retR))))
theorem r126_0_go : fops E ro r126_0 a u σ = fops E ro (r126_0U ()) a u σ:=rfl
theorem r126_1_go : fops E ro r126_1 a u σ = fops E ro (r126_1U ()) a u σ:=rfl
theorem r126_2_go : fops E ro r126_2 a u σ = fops E ro (r126_2U ()) a u σ:=rfl
theorem r126_4_go : fops E ro r126_4 a u σ = fops E ro (r126_4U ()) a u σ:=rfl
theorem code126 (E : Env) (ro : Option Nat) (fn : FuncId) : code Tryz.prog nls (Tryz.f126.body.getD .skip) E ro fn = run126 E ro fn:=by kernel_rfl
theorem enter126 (E : Env) (args : List Value) (u : Option FrameMode) (σ : FState) (hn : args.length ≤ (4 : Nat)) : fcall Tryz.prog nls E 126 args u σ = leaveR Tryz.prog E [.cell 2 166] (run126 E none 126 ⟨padTo undef 4 args,fun _ => undef,4,10,[]⟩ u σ):=by
  rw [fcall_of (body:=Tryz.f126.body.getD .skip) Tryz.func126 rfl E args u σ 4 10 (by kernel_rfl) rfl ⟨hn,by decide⟩,code126]
  rfl
def r117_0U (_ : Unit) : List COp:=[⟨fun a σ => .val (.slice none 0 0) σ,(some 2),fun _ => some true⟩,
  ⟨fun a σ => newCells [(.int .i64 0)] 3 none σ,(some 3),fun _ => some true⟩,
  ⟨fun a σ => newCells [(.int .i64 0)] 32 none σ,(some 4),fun _ => some true⟩]
def r117_0 : List COp:=r117_0U ()
def r117_1U (_ : Unit) : List COp:=[⟨fun a σ => .val (.func (.func 141) #[] #[(a.get 3),(a.get 4)]) σ,(some 5),fun _ => some true⟩,
  ⟨fun a σ => fdefer (a.get 5) [] σ,none,fun _ => some true⟩]
def r117_1 : List COp:=r117_1U ()
def r117_2U (_ : Unit) : List COp:=[⟨fun a σ => .val (a.get 0) σ,(some 6),fun _ => some true⟩,
  ⟨fun a σ => fcallV (a.get 6) [] σ,(some 7),fun _ => some true⟩,
  ⟨fun a σ => .val (a.get 7) σ,(some 2),fun _ => some true⟩,
  ⟨fun a σ => fstore 1 (a.get 3) (.int .i64 0) σ,none,fun _ => some true⟩,
  ⟨fun a σ => fstore 1 (a.get 4) (.int .i64 0) σ,none,fun _ => some true⟩]
def r117_2 : List COp:=r117_2U ()
def run117 (E : Env) (ro : Option Nat) (fn : FuncId) : RunF:=(seqR (fops E ro r117_0) (seqR (fops E ro r117_1) (seqR (fops E ro r117_2) retR)))
theorem r117_0_go : fops E ro r117_0 a u σ = fops E ro (r117_0U ()) a u σ:=rfl
theorem r117_1_go : fops E ro r117_1 a u σ = fops E ro (r117_1U ()) a u σ:=rfl
theorem r117_2_go : fops E ro r117_2 a u σ = fops E ro (r117_2U ()) a u σ:=rfl
theorem code117 (E : Env) (ro : Option Nat) (fn : FuncId) : code Tryz.prog nls (Tryz.f117.body.getD .skip) E ro fn = run117 E ro fn:=by kernel_rfl
theorem enter117 (E : Env) (args : List Value) (u : Option FrameMode) (σ : FState) (hn : args.length ≤ (5 : Nat)) : fcall Tryz.prog nls E 117 args u σ = leaveR Tryz.prog E [.tmp 2,.cell 3 3,.cell 4 32] (run117 E none 117 ⟨padTo undef 5 args,fun _ => undef,5,8,[]⟩ u σ):=by
  rw [fcall_of (body:=Tryz.f117.body.getD .skip) Tryz.func117 rfl E args u σ 5 8 (by kernel_rfl) rfl ⟨hn,by decide⟩,code117]
  rfl
def r141_0U (_ : Unit) : List COp:=[⟨fun a σ => .recover σ,(some 6),fun _ => some true⟩]
def r141_0 : List COp:=r141_0U ()
def r141_3U (_ : Unit) : List COp:=[⟨fun a σ => i_eql Tryz.prog 20 (.tmp 6) (.const .nilIface) (a.get 6) .nilIface σ,(some 7),fun _ => some true⟩]
def r141_3 : List COp:=r141_3U ()
def r141_4U (_ : Unit) : List COp:=[⟨fun a σ => .val (a.get 6) σ,(some 2),fun _ => some true⟩]
def r141_4 : List COp:=r141_4U ()
def r141_5U (_ : Unit) : List COp:=[⟨fun a σ => fassert Tryz.prog (a.get 6) 164 true σ,(some 8),fun _ => some true⟩,
  ⟨fun a σ => fextract 1 (a.get 8) σ,(some 9),fun _ => some true⟩,
  ⟨fun a σ => fextract 0 (a.get 8) σ,(some 10),fun _ => some true⟩]
def r141_5 : List COp:=r141_5U ()
def r141_6U (_ : Unit) : List COp:=[⟨fun a σ => .val (a.get 10) σ,(some 3),fun _ => some true⟩]
def r141_6 : List COp:=r141_6U ()
def r141_7U (_ : Unit) : List COp:=[⟨fun a σ => .val (a.get 3) σ,(some 11),fun _ => some true⟩,
  ⟨fun a σ => .enter 126 [(a.get 11)] σ,(some 12),fun _ => some true⟩,
  ⟨fun a σ => newCells [(.int .i64 0),(.int .i64 0)] 166 none σ,(some 4),fun _ => some true⟩,
  ⟨fun a σ => fstore 2 (a.get 4) (a.get 12) σ,none,fun _ => some true⟩]
def r141_7 : List COp:=r141_7U ()
def r141_8U (_ : Unit) : List DOp:=[⟨fun a σ => ffield 1 (a.get 4) σ,(some 13),fun _ => some true,(some 0),false⟩,
  ⟨fun a σ => fload none (a.get 13) σ,(some 14),fun _ => some true,(some 0),false⟩,
  ⟨fun a σ => fstore 1 (a.get 0) (a.get 14) σ,none,fun _ => some true,none,false⟩,
  ⟨fun a σ => ffield 0 (a.get 4) σ,(some 15),fun _ => some true,(some 0),false⟩,
  ⟨fun a σ => fload none (a.get 15) σ,(some 16),fun _ => some true,(some 0),false⟩,
  ⟨fun a σ => fstore 1 (a.get 1) (a.get 16) σ,none,fun _ => some true,none,true⟩]
def r141_8 : List DOp:=r141_8U ()
def r141_1U (_ : Unit) : List COp:=[⟨fun a σ => .val (a.get 6) σ,(some 5),fun _ => some true⟩]
def r141_1 : List COp:=r141_1U ()
def r141_2U (_ : Unit) : List COp:=[⟨fun a σ => fstore 1 (a.get 1) (.int .i64 1) σ,none,fun _ => some true⟩]
def r141_2 : List COp:=r141_2U ()
def run141 (E : Env) (ro : Option Nat) (fn : FuncId) : RunF:=(seqR (fops E ro r141_0) (blockR 0 (seqR (fops E ro r141_3) (condR (fun a => (a.get 7)) (fops E ro r141_4) (seqR (fops E ro r141_5) (condR (fun a => (a.get 9)) (seqR (fops E ro r141_6) (seqR (fops E ro r141_7) (drawR E ro r141_8))) (seqR (fops E ro r141_1) (fops E ro r141_2))))))))
theorem r141_0_go : fops E ro r141_0 a u σ = fops E ro (r141_0U ()) a u σ:=rfl
theorem r141_3_go : fops E ro r141_3 a u σ = fops E ro (r141_3U ()) a u σ:=rfl
theorem r141_4_go : fops E ro r141_4 a u σ = fops E ro (r141_4U ()) a u σ:=rfl
theorem r141_5_go : fops E ro r141_5 a u σ = fops E ro (r141_5U ()) a u σ:=rfl
theorem r141_6_go : fops E ro r141_6 a u σ = fops E ro (r141_6U ()) a u σ:=rfl
theorem r141_7_go : fops E ro r141_7 a u σ = fops E ro (r141_7U ()) a u σ:=rfl
theorem r141_8_go : fdraw E ro last r141_8 cl a u σ = fdraw E ro last (r141_8U ()) cl a u σ:=rfl
theorem code141 (E : Env) (ro : Option Nat) (fn : FuncId) : code Tryz.prog nls (Tryz.f141.body.getD .skip) E ro fn = run141 E ro fn:=by kernel_rfl
theorem enter141 (E : Env) (args : List Value) (u : Option FrameMode) (σ : FState) (hn : args.length ≤ (6 : Nat)) : fcall Tryz.prog nls E 141 args u σ = leaveR Tryz.prog E [] (run141 E none 141 ⟨padTo undef 6 args,fun _ => undef,6,17,[]⟩ u σ):=by
  rw [fcall_of (body:=Tryz.f141.body.getD .skip) Tryz.func141 rfl E args u σ 6 17 (by kernel_rfl) rfl ⟨hn,by decide⟩,code141]
  rfl
def r88_0U (_ : Unit) : List COp:=[⟨fun a σ => .val (.slice none 0 0) σ,(some 2),fun _ => some true⟩,
  ⟨fun a σ => .val (.int .i64 0) σ,(some 3),fun _ => some true⟩]
def r88_0 : List COp:=r88_0U ()
def r88_1U (_ : Unit) : List COp:=[⟨fun a σ => .val (a.get 0) σ,(some 8),fun _ => some true⟩,
  ⟨fun a σ => .enter 117 [(a.get 8)] σ,(some 9),fun _ => some true⟩,
  ⟨fun a σ => .val (a.get 9) σ,(some 7),fun _ => some true⟩,
  ⟨fun a σ => fextract 0 (a.get 7) σ,(some 10),fun _ => some true⟩,
  ⟨fun a σ => fextract 1 (a.get 7) σ,(some 11),fun _ => some true⟩,
  ⟨fun a σ => fextract 2 (a.get 7) σ,(some 12),fun _ => some true⟩,
  ⟨fun a σ => .val (a.get 10) σ,(some 4),fun _ => some true⟩,
  ⟨fun a σ => .val (a.get 11) σ,(some 5),fun _ => some true⟩,
  ⟨fun a σ => .val (a.get 12) σ,(some 6),fun _ => some true⟩]
def r88_1 : List COp:=r88_1U ()
def r88_2U (_ : Unit) : List COp:=[⟨fun a σ => .val (a.get 4) σ,(some 13),fun _ => some true⟩,
  ⟨fun a σ => .val (a.get 6) σ,(some 14),fun _ => some true⟩,
  ⟨fun a σ => .val (a.get 13) σ,(some 2),fun _ => some true⟩,
  ⟨fun a σ => .val (a.get 14) σ,(some 3),fun _ => some true⟩]
def r88_2 : List COp:=r88_2U ()
def run88 (E : Env) (ro : Option Nat) (fn : FuncId) : RunF:=(seqR (fops E ro r88_0) (seqR (fops E ro r88_1) (seqR (fops E ro r88_2) retR)))
theorem r88_0_go : fops E ro r88_0 a u σ = fops E ro (r88_0U ()) a u σ:=rfl
theorem r88_1_go : fops E ro r88_1 a u σ = fops E ro (r88_1U ()) a u σ:=rfl
theorem r88_2_go : fops E ro r88_2 a u σ = fops E ro (r88_2U ()) a u σ:=rfl
theorem code88 (E : Env) (ro : Option Nat) (fn : FuncId) : code Tryz.prog nls (Tryz.f88.body.getD .skip) E ro fn = run88 E ro fn:=by kernel_rfl
theorem enter88 (E : Env) (args : List Value) (u : Option FrameMode) (σ : FState) (hn : args.length ≤ (7 : Nat)) : fcall Tryz.prog nls E 88 args u σ = leaveR Tryz.prog E [.tmp 2,.tmp 3] (run88 E none 88 ⟨padTo undef 7 args,fun _ => undef,7,15,[]⟩ u σ):=by
  rw [fcall_of (body:=Tryz.f88.body.getD .skip) Tryz.func88 rfl E args u σ 7 15 (by kernel_rfl) rfl ⟨hn,by decide⟩,code88]
  rfl
def r35_0U (_ : Unit) : List COp:=[⟨fun a σ => fbox 28 (a.get 0) σ,(some 2),fun _ => some true⟩,
  ⟨fun a σ => fbox 28 (a.get 1) σ,(some 3),fun _ => some true⟩,
  ⟨fun a σ => .val (.slice none 0 0) σ,(some 4),fun _ => some true⟩,
  ⟨fun a σ => .val (.int .i64 0) σ,(some 5),fun _ => some true⟩]
def r35_0 : List COp:=r35_0U ()
def r35_1U (_ : Unit) : List COp:=[⟨fun a σ => .val (.func (.func 89) #[] #[(a.get 2),(a.get 3)]) σ,(some 6),fun _ => some true⟩,
  ⟨fun a σ => .enter 88 [(a.get 6)] σ,(some 7),fun _ => some true⟩,
  ⟨fun a σ => fextract 0 (a.get 7) σ,(some 8),fun _ => some true⟩,
  ⟨fun a σ => fextract 1 (a.get 7) σ,(some 9),fun _ => some true⟩,
  ⟨fun a σ => .val (a.get 8) σ,(some 4),fun _ => some true⟩,
  ⟨fun a σ => .val (a.get 9) σ,(some 5),fun _ => some true⟩]
def r35_1 : List COp:=r35_1U ()
def run35 (E : Env) (ro : Option Nat) (fn : FuncId) : RunF:=(seqR (fops E ro r35_0) (seqR (fops E ro r35_1) retR))
theorem r35_0_go : fops E ro r35_0 a u σ = fops E ro (r35_0U ()) a u σ:=rfl
theorem r35_1_go : fops E ro r35_1 a u σ = fops E ro (r35_1U ()) a u σ:=rfl
theorem code35 (E : Env) (ro : Option Nat) (fn : FuncId) : code Tryz.prog nls (Tryz.f35.body.getD .skip) E ro fn = run35 E ro fn:=by kernel_rfl
theorem enter35 (E : Env) (args : List Value) (u : Option FrameMode) (σ : FState) (hn : args.length ≤ (4 : Nat)) : fcall Tryz.prog nls E 35 args u σ = leaveR Tryz.prog E [.tmp 4,.tmp 5] (run35 E none 35 ⟨padTo undef 4 args,fun _ => undef,4,10,[]⟩ u σ):=by
  rw [fcall_of (body:=Tryz.f35.body.getD .skip) Tryz.func35 rfl E args u σ 4 10 (by kernel_rfl) rfl ⟨hn,by decide⟩,code35]
  rfl
def r89_0U (_ : Unit) : List COp:=[⟨fun a σ => .val (.slice none 0 0) σ,(some 2),fun _ => some true⟩]
def r89_0 : List COp:=r89_0U ()
def r89_1U (_ : Unit) : List COp:=[⟨fun a σ => fload (some 4) (a.get 0) σ,(some 3),fun _ => some true⟩,
  ⟨fun a σ => .enter 60 [(a.get 3)] σ,(some 4),fun _ => some true⟩]
def r89_1 : List COp:=r89_1U ()
def r89_2U (_ : Unit) : List COp:=[⟨fun a σ => fload (some 4) (a.get 1) σ,(some 5),fun _ => some true⟩,
  ⟨fun a σ => .enter 60 [(a.get 5)] σ,(some 6),fun _ => some true⟩]
def r89_2 : List COp:=r89_2U ()
def r89_3U (_ : Unit) : List COp:=[⟨fun a σ => fload (some 4) (a.get 0) σ,(some 7),fun _ => some true⟩,
  ⟨fun a σ => fload (some 4) (a.get 1) σ,(some 8),fun _ => some true⟩,
  ⟨fun a σ => .enter 90 [(a.get 7),(a.get 8)] σ,(some 9),fun _ => some true⟩,
  ⟨fun a σ => .val (a.get 9) σ,(some 2),fun _ => some true⟩]
def r89_3 : List COp:=r89_3U ()
def run89 (E : Env) (ro : Option Nat) (fn : FuncId) : RunF:=(seqR (fops E ro r89_0) (seqR (fops E ro r89_1) (seqR (fops E ro r89_2) (seqR (fops E ro r89_3) retR))))
theorem r89_0_go : fops E ro r89_0 a u σ = fops E ro (r89_0U ()) a u σ:=rfl
theorem r89_1_go : fops E ro r89_1 a u σ = fops E ro (r89_1U ()) a u σ:=rfl
theorem r89_2_go : fops E ro r89_2 a u σ = fops E ro (r89_2U ()) a u σ:=rfl
theorem r89_3_go : fops E ro r89_3 a u σ = fops E ro (r89_3U ()) a u σ:=rfl
theorem code89 (E : Env) (ro : Option Nat) (fn : FuncId) : code Tryz.prog nls (Tryz.f89.body.getD .skip) E ro fn = run89 E ro fn:=by kernel_rfl
theorem enter89 (E : Env) (args : List Value) (u : Option FrameMode) (σ : FState) (hn : args.length ≤ (2 : Nat)) : fcall Tryz.prog nls E 89 args u σ = leaveR Tryz.prog E [.tmp 2] (run89 E none 89 ⟨padTo undef 2 args,fun _ => undef,2,10,[]⟩ u σ):=by
  rw [fcall_of (body:=Tryz.f89.body.getD .skip) Tryz.func89 rfl E args u σ 2 10 (by kernel_rfl) rfl ⟨hn,by decide⟩,code89]
  rfl
def r90_0U (_ : Unit) : List COp:=[⟨fun a σ => fbox 28 (a.get 0) σ,(some 2),fun _ => some true⟩,
  ⟨fun a σ => fbox 28 (a.get 1) σ,(some 3),fun _ => some true⟩,
  ⟨fun a σ => .val (.slice none 0 0) σ,(some 4),fun _ => some true⟩]
def r90_0 : List COp:=r90_0U ()
def r90_1U (_ : Unit) : List COp:=[⟨fun a σ => newCells [(.slice none 0 0)] 25 none σ,(some 5),fun _ => some true⟩]
def r90_1 : List COp:=r90_1U ()
def r90_2U (_ : Unit) : List COp:=[⟨fun a σ => fload (some 4) (a.get 3) σ,(some 12),fun _ => some true⟩,
  ⟨fun a σ => .enter 110 [(a.get 12)] σ,(some 13),fun _ => some true⟩]
def r90_2 : List COp:=r90_2U ()
def r90_3U (_ : Unit) : List COp:=[⟨fun a σ => newCells [(.int .i64 0),(.int .i64 0),(.string ⟨#[]⟩),(.slice none 0 0)] 28 none σ,(some 7),fun _ => some true⟩,
  ⟨fun a σ => fstore 4 (a.get 7) (a.get 15) σ,none,fun _ => some true⟩]
def r90_3 : List COp:=r90_3U ()
def r90_4U (_ : Unit) : List DOp:=[⟨fun a σ => fload none (a.get 5) σ,(some 16),fun _ => some true,(some 0),false⟩,
  ⟨fun a σ => fload (some 4) (a.get 7) σ,(some 17),fun _ => some true,(some 0),false⟩,
  ⟨fun a σ => flenL (a.get 16) σ,(some 18),fun _ => some true,(some 0),false⟩,
  ⟨fun a σ => fbuildSlice 28 1 4 [(.int .i64 0),(.int .i64 0),(.string ⟨#[]⟩),(.slice none 0 0)] [(0,(.agg #[(.int .i64 0),(.int .i64 0),(.string ⟨#[]⟩),(.slice none 0 0)]))] σ,(some 19),fun _ => some true,(some 0),false⟩,
  ⟨fun a σ => fappend 28 4 56 (a.get 16) (a.get 19) σ,(some 20),fun _ => some true,none,true⟩]
def r90_4 : List DOp:=r90_4U ()
def r90_4t : List DOp:=[⟨fun a σ => findex (none,4) (a.get 20) (a.get 18) σ,(some 21),fun _ => some true,(some 1),false⟩]
def c90_0a : Code:=((rangesOf (Tryz.f90.body.getD .skip)).getD 0 (.skip,.skip)).1
def c90_0b : Code:=((rangesOf (Tryz.f90.body.getD .skip)).getD 0 (.skip,.skip)).2
def r90_5U (_ : Unit) : List COp:=[⟨fun a σ => newCells [(.int .i64 0)] 3 none σ,(some 8),fun _ => some true⟩,
  ⟨fun a σ => fstore 1 (a.get 8) (.int .i64 0) σ,none,fun _ => some true⟩]
def r90_5 : List COp:=r90_5U ()
def r90_6U (_ : Unit) : List COp:=[⟨fun a σ => newCells [(.slice none 0 0)] 22 none σ,(some 9),fun _ => some true⟩]
def r90_6 : List COp:=r90_6U ()
def r90_7U (_ : Unit) : List COp:=[⟨fun a σ => fload (some 4) (a.get 2) σ,(some 22),fun _ => some true⟩,
  ⟨fun a σ => .enter 110 [(a.get 22)] σ,(some 23),fun _ => some true⟩]
def r90_7 : List COp:=r90_7U ()
def r90_8U (_ : Unit) : List COp:=[⟨fun a σ => .val (a.get 24) σ,(some 10),fun _ => some true⟩]
def r90_8 : List COp:=r90_8U ()
def r90_9U (_ : Unit) : List COp:=[⟨fun a σ => newCells [(.int .i64 0),(.int .i64 0),(.string ⟨#[]⟩),(.slice none 0 0)] 28 none σ,(some 11),fun _ => some true⟩,
  ⟨fun a σ => fstore 4 (a.get 11) (a.get 25) σ,none,fun _ => some true⟩]
def r90_9 : List COp:=r90_9U ()
def r90_11U (_ : Unit) : List DOp:=[⟨fun a σ => fload (some 4) (a.get 11) σ,(some 29),fun _ => some true,(some 0),false⟩,
  ⟨fun a σ => fload none (a.get 5) σ,(some 30),fun _ => some true,(some 0),false⟩,
  ⟨fun a σ => fload none (a.get 8) σ,(some 31),fun _ => some true,(some 0),false⟩,
  ⟨fun a σ => findex (none,4) (a.get 30) (a.get 31) σ,(some 32),fun _ => some true,(some 0),false⟩,
  ⟨fun a σ => fload (some 4) (a.get 32) σ,(some 33),fun _ => some true,(some 0),false⟩,
  ⟨fun a σ => .enter 118 [(a.get 29),(a.get 33)] σ,(some 34),fun _ => some true,none,true⟩,
  ⟨fun a σ => .val (a.get 34) σ,(some 28),fun _ => some true,(some 1),false⟩]
def r90_11 : List DOp:=r90_11U ()
def r90_12U (_ : Unit) : List COp:=[⟨fun a σ => fload none (a.get 8) σ,(some 35),fun _ => some true⟩,
  ⟨fun a σ => i_add Tryz.prog 3 (.tmp 35) (.const (.int .i64 1)) (a.get 35) (.int .i64 1) σ,(some 36),fun _ => some true⟩,
  ⟨fun a σ => fstore 1 (a.get 8) (a.get 36) σ,none,fun _ => some true⟩]
def r90_12 : List COp:=r90_12U ()
def r90_10U (_ : Unit) : List COp:=[⟨fun a σ => .val (a.get 10) σ,(some 26),fun _ => some true⟩,
  ⟨fun a σ => .enter 112 [(a.get 26)] σ,(some 27),fun _ => some true⟩,
  ⟨fun a σ => fstore 1 (a.get 9) (a.get 27) σ,none,fun _ => some true⟩]
def r90_10 : List COp:=r90_10U ()
def c90_1a : Code:=((rangesOf (Tryz.f90.body.getD .skip)).getD 1 (.skip,.skip)).1
def c90_1b : Code:=((rangesOf (Tryz.f90.body.getD .skip)).getD 1 (.skip,.skip)).2
def r90_13U (_ : Unit) : List COp:=[⟨fun a σ => fload none (a.get 8) σ,(some 37),fun _ => some true⟩,
  ⟨fun a σ => fload none (a.get 5) σ,(some 38),fun _ => some true⟩,
  ⟨fun a σ => flenL (a.get 38) σ,(some 39),fun _ => some true⟩,
  ⟨fun a σ => i_eql Tryz.prog 3 (.tmp 37) (.tmp 39) (a.get 37) (a.get 39) σ,(some 40),fun _ => some true⟩]
def r90_13 : List COp:=r90_13U ()
def r90_14U (_ : Unit) : List COp:=[⟨fun a σ => .enter 104 [(.int .i64 10)] σ,(some 41),fun _ => some true⟩]
def r90_14 : List COp:=r90_14U ()
def r90_15U (_ : Unit) : List COp:=[⟨fun a σ => fload none (a.get 9) σ,(some 42),fun _ => some true⟩,
  ⟨fun a σ => .val (a.get 42) σ,(some 4),fun _ => some true⟩]
def r90_15 : List COp:=r90_15U ()
def x90_0 : Code:=(scopesOf (Tryz.f90.body.getD .skip)).getD 0 .skip
def find90_0 (E : Env) (ro : Option Nat) (fn : FuncId) : Nat → Option (Bx RunF):=fun l => match findLabel x90_0 l with | some rest => some ⟨(ccode Tryz.prog nls 998 rest).un E ro fn⟩ | none => none
def run90 (E : Env) (ro : Option Nat) (fn : FuncId) : RunF:=(seqR (fops E ro r90_0) (fscope (find90_0 E ro fn) bigFuel (seqR (fops E ro r90_1) (seqR (seqR (fops E ro r90_2) (blockR 0 (frange E ro fn (.tmp 13) [14,15] c90_0a c90_0b))) (seqR (fops E ro r90_5) (seqR (fops E ro r90_6) (seqR skipR (seqR (seqR (fops E ro r90_7) (blockR 2 (frange E ro fn (.tmp 23) [24,25] c90_1a c90_1b))) (seqR (seqR (fops E ro r90_13) (condR (fun a => (a.get 40)) (fops E ro r90_14) skipR)) (seqR (fops E ro r90_15) retR))))))))))
theorem r90_0_go : fops E ro r90_0 a u σ = fops E ro (r90_0U ()) a u σ:=rfl
theorem r90_1_go : fops E ro r90_1 a u σ = fops E ro (r90_1U ()) a u σ:=rfl
theorem r90_2_go : fops E ro r90_2 a u σ = fops E ro (r90_2U ()) a u σ:=rfl
theorem r90_3_go : fops E ro r90_3 a u σ = fops E ro (r90_3U ()) a u σ:=rfl
theorem r90_4_go : fdraw E ro last r90_4 cl a u σ = fdraw E ro last (r90_4U ()) cl a u σ:=rfl
theorem r90_4t_go (E : Env) (ro : Option Nat) (last : List Nat → RunF) (cl : List Nat) (a : FAct) (u : Option FrameMode) (σ : FState) : fdraw E ro last r90_4t cl a u σ = fdraw E ro last [⟨fun a σ => findex (none,4) (a.get 20) (a.get 18) σ,(some 21),fun _ => some true,(some 1),false⟩] cl a u σ:=rfl
theorem c90_0a_go (E : Env) (ro : Option Nat) (fn : FuncId) : code Tryz.prog nls c90_0a E ro fn = (fops E ro r90_3):=by kernel_rfl
theorem c90_0b_go (E : Env) (ro : Option Nat) (fn : FuncId) : code Tryz.prog nls c90_0b E ro fn = (blockR 1 (drawSR E ro r90_4 ⟨1,fun a => (a.get 5),fun a => (a.get 20)⟩ ⟨4,fun a => (a.get 21),fun a => (a.get 17)⟩ r90_4t)):=by kernel_rfl
theorem r90_5_go : fops E ro r90_5 a u σ = fops E ro (r90_5U ()) a u σ:=rfl
theorem r90_6_go : fops E ro r90_6 a u σ = fops E ro (r90_6U ()) a u σ:=rfl
theorem r90_7_go : fops E ro r90_7 a u σ = fops E ro (r90_7U ()) a u σ:=rfl
theorem r90_8_go : fops E ro r90_8 a u σ = fops E ro (r90_8U ()) a u σ:=rfl
theorem r90_9_go : fops E ro r90_9 a u σ = fops E ro (r90_9U ()) a u σ:=rfl
theorem r90_11_go : fdraw E ro last r90_11 cl a u σ = fdraw E ro last (r90_11U ()) cl a u σ:=rfl
theorem r90_12_go : fops E ro r90_12 a u σ = fops E ro (r90_12U ()) a u σ:=rfl
theorem r90_10_go : fops E ro r90_10 a u σ = fops E ro (r90_10U ()) a u σ:=rfl
theorem c90_1a_go (E : Env) (ro : Option Nat) (fn : FuncId) : code Tryz.prog nls c90_1a E ro fn = (seqR (fops E ro r90_8) (fops E ro r90_9)):=by kernel_rfl
theorem c90_1b_go (E : Env) (ro : Option Nat) (fn : FuncId) : code Tryz.prog nls c90_1b E ro fn = (blockR 3 (blockR 4 (seqR (drawR E ro r90_11) (condR (fun a => (a.get 28)) (fops E ro r90_12) (seqR (fops E ro r90_10) (exitR 2)))))):=by kernel_rfl
theorem r90_13_go : fops E ro r90_13 a u σ = fops E ro (r90_13U ()) a u σ:=rfl
theorem r90_14_go : fops E ro r90_14 a u σ = fops E ro (r90_14U ()) a u σ:=rfl
theorem r90_15_go : fops E ro r90_15 a u σ = fops E ro (r90_15U ()) a u σ:=rfl
theorem code90 (E : Env) (ro : Option Nat) (fn : FuncId) : code Tryz.prog nls (Tryz.f90.body.getD .skip) E ro fn = run90 E ro fn:=by kernel_rfl
theorem enter90 (E : Env) (args : List Value) (u : Option FrameMode) (σ : FState) (hn : args.length ≤ (12 : Nat)) : fcall Tryz.prog nls E 90 args u σ = leaveR Tryz.prog E [.tmp 4] (run90 E none 90 ⟨padTo undef 12 args,fun _ => undef,12,43,[]⟩ u σ):=by
  rw [fcall_of (body:=Tryz.f90.body.getD .skip) Tryz.func90 rfl E args u σ 12 43 (by kernel_rfl) rfl ⟨hn,by decide⟩,code90]
  rfl
end Go.Proofs.YtodkeaoikjjneaaGreatDoor
/- Parts at paths; what is found, in order. -/
namespace Go.Proofs.YtodkeaoikjjneaaGreatDoor
open Go Go.Eng
mutual
theorem same_comm : ∀ (a b : D),D.same a b = D.same b a
  | .mk k n t ds,.mk k' n' t' ds' => by
    rw [show D.same (.mk k n t ds) (.mk k' n' t' ds') = (decide (k = k') && decide (n = n') && (t.toList == t'.toList) && D.sames ds ds') from rfl,show D.same (.mk k' n' t' ds') (.mk k n t ds) = (decide (k' = k) && decide (n' = n) && (t'.toList == t.toList) && D.sames ds' ds) from rfl,sames_comm ds ds']
    rw [show decide (k = k') = decide (k' = k) by simp [eq_comm],show decide (n = n') = decide (n' = n) by simp [eq_comm],show (t.toList == t'.toList) = (t'.toList == t.toList) from BEq.comm]
theorem sames_comm : ∀ (a b : List D),D.sames a b = D.sames b a
  | [],[] => rfl
  | [],_ :: _ => rfl
  | _ :: _,[] => rfl
  | a :: l,b :: r => by
    rw [show D.sames (a :: l) (b :: r) = (D.same a b && D.sames l r) from rfl,show D.sames (b :: r) (a :: l) = (D.same b a && D.sames r l) from rfl,same_comm a b,sames_comm l r]
end
mutual
theorem pieces_at : ∀ (d : D) (p : List Nat) (y : List Nat × D),y ∈ d.pieces p → ∃ r,y.1 = p ++ r ∧ atP r d = some y.2
  | .mk k z t ds,p,y,h => by
    rw [D.pieces] at h
    rcases List.mem_cons.1 h with rfl | h
    · exact ⟨[],by simp,rfl⟩
    · obtain ⟨j,r,d',h1,h2,h3⟩:=piecesL_at ds p 0 y h
      refine ⟨(0 + j) :: r,h1,?_⟩
      rw [atP]
      simp only [D.parts]
      rw [Nat.zero_add,h2]
      exact h3
theorem piecesL_at : ∀ (ds : List D) (p : List Nat) (i : Nat) (y : List Nat × D),y ∈ D.piecesL p i ds → ∃ j r d',y.1 = p ++ (i + j) :: r ∧ ds[j]? = some d' ∧ atP r d' = some y.2
  | [],p,i,y,h => by simp [D.piecesL] at h
  | d :: ds,p,i,y,h => by
    rw [D.piecesL,List.mem_append] at h
    rcases h with h | h
    · obtain ⟨r,h1,h2⟩:=pieces_at d _ y h
      exact ⟨0,r,d,by rw [h1]; simp,rfl,h2⟩
    · obtain ⟨j,r,d',h1,h2,h3⟩:=piecesL_at ds p (i + 1) y h
      exact ⟨j + 1,r,d',by rw [h1,show i + 1 + j = i + (j + 1) by omega],by simpa using h2,h3⟩
end
theorem foundIn_append (x : D) (a b : List (List Nat × D)) : foundIn x (a ++ b) = foundIn x a ++ foundIn x b:=by
  unfold foundIn
  rw [List.filter_append,List.map_append]
end Go.Proofs.YtodkeaoikjjneaaGreatDoor
/- Data, one put in the place of another. -/
namespace Go.Proofs.YtodkeaoikjjneaaGreatDoor
open Go Go.Eng
theorem toList_inj {a b : ByteArray} (h : a.toList = b.toList) : a = b:=by
  rw [ByteArray.toList_eq,ByteArray.toList_eq] at h
  obtain ⟨⟨x⟩⟩:=a
  obtain ⟨⟨y⟩⟩:=b
  simp at h
  rw [h]
mutual
theorem same_eq : ∀ (a b : D),D.same a b = true → a = b
  | .mk k n t ds,.mk k' n' t' ds',h => by
    rw [show D.same (.mk k n t ds) (.mk k' n' t' ds') = (decide (k = k') && decide (n = n') && (t.toList == t'.toList) && D.sames ds ds') from rfl] at h
    simp only [Bool.and_eq_true,decide_eq_true_eq] at h
    obtain ⟨⟨⟨rfl,rfl⟩,h3⟩,h4⟩:=h
    rw [toList_inj (eq_of_beq h3),sames_eq ds ds' h4]
theorem sames_eq : ∀ (a b : List D),D.sames a b = true → a = b
  | [],[],_ => rfl
  | [],_ :: _,h => by cases h
  | _ :: _,[],h => by cases h
  | a :: l,b :: r,h => by
    rw [show D.sames (a :: l) (b :: r) = (D.same a b && D.sames l r) from rfl,Bool.and_eq_true] at h
    rw [same_eq a b h.1,sames_eq l r h.2]
end
mutual
theorem same_self : ∀ (a : D),D.same a a = true
  | .mk k n t ds => by
    rw [show D.same (.mk k n t ds) (.mk k n t ds) = (decide (k = k) && decide (n = n) && (t.toList == t.toList) && D.sames ds ds) from rfl,sames_self ds]
    simp
theorem sames_self : ∀ (l : List D),D.sames l l = true
  | [] => rfl
  | a :: l => by
    rw [show D.sames (a :: l) (a :: l) = (D.same a a && D.sames l l) from rfl,same_self a,sames_self l]
    rfl
end
theorem same_iff (a b : D) : D.same a b = true ↔ a = b:=⟨same_eq a b,fun h => h ▸ same_self a⟩
mutual
def repl (x y : D) : D → D
  | .mk k z t ds => if D.same (.mk k z t ds) x = true then y else .mk k z t (repls x y ds)
def repls (x y : D) : List D → List D
  | [] => []
  | d :: ds => repl x y d :: repls x y ds
end
mutual
theorem repl_self (x : D) : ∀ d,repl x x d = d
  | .mk k z t ds => by
    rw [repl]
    split
    · rename_i h; exact (same_eq _ _ h).symm
    · rw [repls_self x ds]
theorem repls_self (x : D) : ∀ ds,repls x x ds = ds
  | [] => rfl
  | d :: ds => by rw [repls,repl_self x d,repls_self x ds]
end
def occ (x d : D) : Nat:=((d.pieces []).filter fun y => D.same y.2 x).length
mutual
def occN (x : D) : D → Nat
  | .mk k z t ds => (if D.same (.mk k z t ds) x = true then 1 else 0) + occsN x ds
def occsN (x : D) : List D → Nat
  | [] => 0
  | d :: ds => occN x d + occsN x ds
end
mutual
theorem found_len (x : D) : ∀ (d : D) (p : List Nat),(foundIn x (d.pieces p)).length = occN x d
  | .mk k z t ds,p => by
    rw [D.pieces,occN]
    have:=founds_len x ds p 0
    unfold foundIn at this ⊢
    rw [List.filter_cons]
    split
    · rw [List.map_cons,List.length_cons,this]; omega
    · rw [this]; omega
theorem founds_len (x : D) : ∀ (ds : List D) (p : List Nat) (i : Nat),(foundIn x (D.piecesL p i ds)).length = occsN x ds
  | [],p,i => rfl
  | d :: ds,p,i => by rw [D.piecesL,foundIn_append,List.length_append,found_len x d _,founds_len x ds p (i + 1),occsN]
end
mutual
theorem occ_small (x : D) : ∀ d : D,d.count < x.count → occN x d = 0
  | .mk k z t ds,h => by
    rw [occN,if_neg (fun e => by rw [same_eq _ _ e] at h; omega)]
    rw [D.count] at h
    rw [occs_small x ds (by omega)]
theorem occs_small (x : D) : ∀ ds : List D,D.counts ds < x.count → occsN x ds = 0
  | [],_ => rfl
  | d :: ds,h => by
    rw [D.counts] at h
    rw [occsN,occ_small x d (by omega),occs_small x ds (by omega)]
end
mutual
theorem repl_count (x y : D) : ∀ d : D,(repl x y d).count + occN x d * x.count = d.count + occN x d * y.count
  | .mk k z t ds => by
    rw [repl,occN]
    split
    · rename_i h
      have hx:=same_eq _ _ h
      have hc : D.counts ds < x.count:=by rw [← hx,D.count]; omega
      rw [occs_small x ds hc,← hx]
      omega
    · rw [D.count,D.count,Nat.zero_add]
      have:=repls_count x y ds
      omega
theorem repls_count (x y : D) : ∀ ds : List D,D.counts (repls x y ds) + occsN x ds * x.count = D.counts ds + occsN x ds * y.count
  | [] => by simp [repls,D.counts,occsN]
  | d :: ds => by
    rw [repls,D.counts,D.counts,occsN,Nat.add_mul,Nat.add_mul]
    have:=repl_count x y d
    have:=repls_count x y ds
    omega
end
mutual
theorem repl_none (x y : D) : ∀ d : D,repl x y d = d ∨ 0 < occN y (repl x y d)
  | .mk k z t ds => by
    rw [repl]
    split
    · right
      cases y with
      | mk k' z' t' ds' => rw [occN,if_pos (same_self _)]; omega
    · rcases repls_none x y ds with h | h
      · left; rw [h]
      · right; rw [occN]; omega
theorem repls_none (x y : D) : ∀ ds : List D,repls x y ds = ds ∨ 0 < occsN y (repls x y ds)
  | [] => .inl rfl
  | d :: ds => by
    rw [repls,occsN]
    rcases repl_none x y d with h | h
    · rcases repls_none x y ds with h' | h'
      · left; rw [h,h']
      · right; omega
    · right; omega
end
mutual
theorem repl_gone (x y : D) (h1 : occN x y = 0) (h2 : occN y x = 0) : ∀ d : D,occN x (repl x y d) = 0
  | .mk k z t ds => by
    rw [repl]
    split
    · exact h1
    · rename_i hne
      rw [occN,repls_gone x y h1 h2 ds,Nat.add_zero]
      split
      · rename_i h
        have hx:=same_eq _ _ h
        rcases repls_none x y ds with h' | h'
        · rw [h'] at hx
          exact absurd ((same_iff _ _).2 hx) hne
        · rw [← hx,occN] at h2
          omega
      · rfl
theorem repls_gone (x y : D) (h1 : occN x y = 0) (h2 : occN y x = 0) : ∀ ds : List D,occsN x (repls x y ds) = 0
  | [] => rfl
  | d :: ds => by rw [repls,occsN,repl_gone x y h1 h2 d,repls_gone x y h1 h2 ds]
end
theorem most_mono : ∀ {L L' : Nat},L ≤ L' → most L ≤ most L'
  | 0,L',_ => most_pos L'
  | L + 1,0,h => by omega
  | L + 1,L' + 1,h => by rw [most,most]; have:=most_mono (L:=L) (L':=L') (by omega); omega
theorem fine_mono {m L L' : Nat} (h : L ≤ L') {d : D} (hF : Fine m L d) : Fine m L' d:=fun path => ⟨Nat.le_trans (hF path).1 (most_mono h),fun x hx => by
  have:=(hF path).2 x hx
  exact ⟨by omega,this.2⟩⟩
end Go.Proofs.YtodkeaoikjjneaaGreatDoor
/- Functions of the program, written out in the reading's words (made by program; the kernel holds each against the code). -/
namespace Go.Proofs.YtodkeaoikjjneaaGreatDoor
open Go Go.Eng
variable (E : Env) (ro : Option Nat) (last : List Nat → RunF) (cl : List Nat) (a : FAct) (u : Option FrameMode) (σ : FState)
def r37_0U (_ : Unit) : List COp:=[⟨fun a σ => fbox 28 (a.get 0) σ,(some 2),fun _ => some true⟩,
  ⟨fun a σ => fbox 28 (a.get 1) σ,(some 3),fun _ => some true⟩,
  ⟨fun a σ => .val (.bool false) σ,(some 4),fun _ => some true⟩]
def r37_0 : List COp:=r37_0U ()
def r37_1U (_ : Unit) : List COp:=[⟨fun a σ => ffield 0 (a.get 2) σ,(some 5),fun _ => some true⟩,
  ⟨fun a σ => fload none (a.get 5) σ,(some 6),fun _ => some true⟩,
  ⟨fun a σ => ffield 0 (a.get 3) σ,(some 7),fun _ => some true⟩,
  ⟨fun a σ => fload none (a.get 7) σ,(some 8),fun _ => some true⟩,
  ⟨fun a σ => i_eql Tryz.prog 3 (.tmp 6) (.tmp 8) (a.get 6) (a.get 8) σ,(some 9),fun _ => some true⟩,
  ⟨fun a σ => .val (a.get 9) σ,(some 10),fun _ => some true⟩,
  ⟨fun a σ => ffield 1 (a.get 2) σ,(some 11),fun a => gd (a.get 10) true⟩,
  ⟨fun a σ => fload none (a.get 11) σ,(some 12),fun a => gd (a.get 10) true⟩,
  ⟨fun a σ => ffield 1 (a.get 3) σ,(some 13),fun a => gd (a.get 10) true⟩,
  ⟨fun a σ => fload none (a.get 13) σ,(some 14),fun a => gd (a.get 10) true⟩,
  ⟨fun a σ => i_eql Tryz.prog 3 (.tmp 12) (.tmp 14) (a.get 12) (a.get 14) σ,(some 15),fun a => gd (a.get 10) true⟩,
  ⟨fun a σ => fpick (a.get 10) (a.get 15) (.bool false) σ,(some 16),fun _ => some true⟩,
  ⟨fun a σ => .val (a.get 16) σ,(some 17),fun _ => some true⟩,
  ⟨fun a σ => ffield 2 (a.get 2) σ,(some 18),fun a => gd (a.get 17) true⟩,
  ⟨fun a σ => fload none (a.get 18) σ,(some 19),fun a => gd (a.get 17) true⟩,
  ⟨fun a σ => ffield 2 (a.get 3) σ,(some 20),fun a => gd (a.get 17) true⟩,
  ⟨fun a σ => fload none (a.get 20) σ,(some 21),fun a => gd (a.get 17) true⟩,
  ⟨fun a σ => i_eql Tryz.prog 9 (.tmp 19) (.tmp 21) (a.get 19) (a.get 21) σ,(some 22),fun a => gd (a.get 17) true⟩,
  ⟨fun a σ => fpick (a.get 17) (a.get 22) (.bool false) σ,(some 23),fun _ => some true⟩,
  ⟨fun a σ => .val (a.get 23) σ,(some 24),fun _ => some true⟩,
  ⟨fun a σ => ffield 3 (a.get 2) σ,(some 25),fun a => gd (a.get 24) true⟩,
  ⟨fun a σ => fload none (a.get 25) σ,(some 26),fun a => gd (a.get 24) true⟩,
  ⟨fun a σ => flenL (a.get 26) σ,(some 27),fun a => gd (a.get 24) true⟩,
  ⟨fun a σ => ffield 3 (a.get 3) σ,(some 28),fun a => gd (a.get 24) true⟩,
  ⟨fun a σ => fload none (a.get 28) σ,(some 29),fun a => gd (a.get 24) true⟩,
  ⟨fun a σ => flenL (a.get 29) σ,(some 30),fun a => gd (a.get 24) true⟩,
  ⟨fun a σ => i_eql Tryz.prog 3 (.tmp 27) (.tmp 30) (a.get 27) (a.get 30) σ,(some 31),fun a => gd (a.get 24) true⟩,
  ⟨fun a σ => fpick (a.get 24) (a.get 31) (.bool false) σ,(some 32),fun _ => some true⟩,
  ⟨fun a σ => .val (a.get 32) σ,(some 4),fun _ => some true⟩]
def r37_1 : List COp:=r37_1U ()
def run37 (E : Env) (ro : Option Nat) (fn : FuncId) : RunF:=(seqR (fops E ro r37_0) (seqR (fops E ro r37_1) retR))
theorem r37_0_go : fops E ro r37_0 a u σ = fops E ro (r37_0U ()) a u σ:=rfl
theorem r37_1_go : fops E ro r37_1 a u σ = fops E ro (r37_1U ()) a u σ:=rfl
theorem code37 (E : Env) (ro : Option Nat) (fn : FuncId) : code Tryz.prog nls (Tryz.f37.body.getD .skip) E ro fn = run37 E ro fn:=by kernel_rfl
theorem enter37 (E : Env) (args : List Value) (u : Option FrameMode) (σ : FState) (hn : args.length ≤ (4 : Nat)) : fcall Tryz.prog nls E 37 args u σ = leaveR Tryz.prog E [.tmp 4] (run37 E none 37 ⟨padTo undef 4 args,fun _ => undef,4,33,[]⟩ u σ):=by
  rw [fcall_of (body:=Tryz.f37.body.getD .skip) Tryz.func37 rfl E args u σ 4 33 (by kernel_rfl) rfl ⟨hn,by decide⟩,code37]
  rfl
def r118_0U (_ : Unit) : List COp:=[⟨fun a σ => fbox 28 (a.get 0) σ,(some 2),fun _ => some true⟩,
  ⟨fun a σ => fbox 28 (a.get 1) σ,(some 3),fun _ => some true⟩,
  ⟨fun a σ => .val (.bool false) σ,(some 4),fun _ => some true⟩]
def r118_0 : List COp:=r118_0U ()
def r118_1U (_ : Unit) : List COp:=[⟨fun a σ => ffield 0 (a.get 2) σ,(some 5),fun _ => some true⟩,
  ⟨fun a σ => fload none (a.get 5) σ,(some 6),fun _ => some true⟩,
  ⟨fun a σ => ffield 0 (a.get 3) σ,(some 7),fun _ => some true⟩,
  ⟨fun a σ => fload none (a.get 7) σ,(some 8),fun _ => some true⟩,
  ⟨fun a σ => i_eql Tryz.prog 3 (.tmp 6) (.tmp 8) (a.get 6) (a.get 8) σ,(some 9),fun _ => some true⟩,
  ⟨fun a σ => .val (a.get 9) σ,(some 10),fun _ => some true⟩,
  ⟨fun a σ => ffield 1 (a.get 2) σ,(some 11),fun a => gd (a.get 10) true⟩,
  ⟨fun a σ => fload none (a.get 11) σ,(some 12),fun a => gd (a.get 10) true⟩,
  ⟨fun a σ => ffield 1 (a.get 3) σ,(some 13),fun a => gd (a.get 10) true⟩,
  ⟨fun a σ => fload none (a.get 13) σ,(some 14),fun a => gd (a.get 10) true⟩,
  ⟨fun a σ => i_eql Tryz.prog 3 (.tmp 12) (.tmp 14) (a.get 12) (a.get 14) σ,(some 15),fun a => gd (a.get 10) true⟩,
  ⟨fun a σ => fpick (a.get 10) (a.get 15) (.bool false) σ,(some 16),fun _ => some true⟩,
  ⟨fun a σ => .val (a.get 16) σ,(some 17),fun _ => some true⟩,
  ⟨fun a σ => ffield 2 (a.get 2) σ,(some 18),fun a => gd (a.get 17) true⟩,
  ⟨fun a σ => fload none (a.get 18) σ,(some 19),fun a => gd (a.get 17) true⟩,
  ⟨fun a σ => ffield 2 (a.get 3) σ,(some 20),fun a => gd (a.get 17) true⟩,
  ⟨fun a σ => fload none (a.get 20) σ,(some 21),fun a => gd (a.get 17) true⟩,
  ⟨fun a σ => i_eql Tryz.prog 9 (.tmp 19) (.tmp 21) (a.get 19) (a.get 21) σ,(some 22),fun a => gd (a.get 17) true⟩,
  ⟨fun a σ => fpick (a.get 17) (a.get 22) (.bool false) σ,(some 23),fun _ => some true⟩,
  ⟨fun a σ => .val (a.get 23) σ,(some 24),fun _ => some true⟩,
  ⟨fun a σ => ffield 3 (a.get 2) σ,(some 25),fun a => gd (a.get 24) true⟩,
  ⟨fun a σ => fload none (a.get 25) σ,(some 26),fun a => gd (a.get 24) true⟩,
  ⟨fun a σ => flenL (a.get 26) σ,(some 27),fun a => gd (a.get 24) true⟩,
  ⟨fun a σ => ffield 3 (a.get 3) σ,(some 28),fun a => gd (a.get 24) true⟩,
  ⟨fun a σ => fload none (a.get 28) σ,(some 29),fun a => gd (a.get 24) true⟩,
  ⟨fun a σ => flenL (a.get 29) σ,(some 30),fun a => gd (a.get 24) true⟩,
  ⟨fun a σ => i_eql Tryz.prog 3 (.tmp 27) (.tmp 30) (a.get 27) (a.get 30) σ,(some 31),fun a => gd (a.get 24) true⟩,
  ⟨fun a σ => fpick (a.get 24) (a.get 31) (.bool false) σ,(some 32),fun _ => some true⟩,
  ⟨fun a σ => .val (a.get 32) σ,(some 4),fun _ => some true⟩]
def r118_1 : List COp:=r118_1U ()
def run118 (E : Env) (ro : Option Nat) (fn : FuncId) : RunF:=(seqR (fops E ro r118_0) (seqR (fops E ro r118_1) retR))
theorem r118_0_go : fops E ro r118_0 a u σ = fops E ro (r118_0U ()) a u σ:=rfl
theorem r118_1_go : fops E ro r118_1 a u σ = fops E ro (r118_1U ()) a u σ:=rfl
theorem code118 (E : Env) (ro : Option Nat) (fn : FuncId) : code Tryz.prog nls (Tryz.f118.body.getD .skip) E ro fn = run118 E ro fn:=by kernel_rfl
theorem enter118 (E : Env) (args : List Value) (u : Option FrameMode) (σ : FState) (hn : args.length ≤ (4 : Nat)) : fcall Tryz.prog nls E 118 args u σ = leaveR Tryz.prog E [.tmp 4] (run118 E none 118 ⟨padTo undef 4 args,fun _ => undef,4,33,[]⟩ u σ):=by
  rw [fcall_of (body:=Tryz.f118.body.getD .skip) Tryz.func118 rfl E args u σ 4 33 (by kernel_rfl) rfl ⟨hn,by decide⟩,code118]
  rfl
end Go.Proofs.YtodkeaoikjjneaaGreatDoor
/- caracoleref01.Alike and package datum's alike: two data, compared but for what their parts are. -/
namespace Go.Proofs.YtodkeaoikjjneaaGreatDoor
open Go Go.Eng
attribute [local congr] andThen_congr fops_congr fdraw_congr afterOp_congr drawF_congr
attribute [-go_sem] List.range_succ
theorem alikeR_go (n : Nat) (k z k' z' : Int) (t t' : ByteArray) (p p' : Option Addr) (l l' c c' : Nat) (σ : FState) (hw : Wf σ) :
    Gives ((env (n + 1)).call 37 [.agg #[.int .i64 k,.int .i64 z,.string t,.slice p l c],.agg #[.int .i64 k',.int .i64 z',.string t',.slice p' l' c']] none σ) σ fun w _ => w = .bool ((k == k') && (z == z') && (t.toList == t'.toList) && (Int.ofNat l == Int.ofNat l')):=by
  rw [env_call _ 37 _ _ rfl,enter37 _ _ _ _ (by simp),Sl_start]
  unfold run37
  have fin : ∀ (o1 o2 : FObj),Ext σ ((σ.push o1 none).push o2 none) ∧ Wf ((σ.push o1 none).push o2 none):=fun o1 o2 => ⟨((Ext.refl _).push _ _).push _ _,(hw.push _ _).push _ _⟩
  cases e1 : (k == k') <;> cases e2 : (z == z') <;> cases e3 : (t.toList == t'.toList) <;> cases e4 : (Int.ofNat l == Int.ofNat l') <;> simp -implicitDefEqProofs only [go_sem,↓reduceIte,Nat.reduceLT,Nat.reduceEqDiff,Nat.reduceAdd,Nat.reduceMul,Nat.reduceLeDiff,Nat.reduceSub,r37_0_go,r37_0U,r37_1_go,r37_1U,Option.getD_some,e1,e2,e3,e4] <;> exact ⟨_,_,rfl,(fin ..).1,(fin ..).2,rfl⟩
theorem alikeD_go (n : Nat) (k z k' z' : Int) (t t' : ByteArray) (p p' : Option Addr) (l l' c c' : Nat) (σ : FState) (hw : Wf σ) :
    Gives ((env (n + 1)).call 118 [.agg #[.int .i64 k,.int .i64 z,.string t,.slice p l c],.agg #[.int .i64 k',.int .i64 z',.string t',.slice p' l' c']] none σ) σ fun w _ => w = .bool ((k == k') && (z == z') && (t.toList == t'.toList) && (Int.ofNat l == Int.ofNat l')):=by
  rw [env_call _ 118 _ _ rfl,enter118 _ _ _ _ (by simp),Sl_start]
  unfold run118
  have fin : ∀ (o1 o2 : FObj),Ext σ ((σ.push o1 none).push o2 none) ∧ Wf ((σ.push o1 none).push o2 none):=fun o1 o2 => ⟨((Ext.refl _).push _ _).push _ _,(hw.push _ _).push _ _⟩
  cases e1 : (k == k') <;> cases e2 : (z == z') <;> cases e3 : (t.toList == t'.toList) <;> cases e4 : (Int.ofNat l == Int.ofNat l') <;> simp -implicitDefEqProofs only [go_sem,↓reduceIte,Nat.reduceLT,Nat.reduceEqDiff,Nat.reduceAdd,Nat.reduceMul,Nat.reduceLeDiff,Nat.reduceSub,r118_0_go,r118_0U,r118_1_go,r118_1U,Option.getD_some,e1,e2,e3,e4] <;> exact ⟨_,_,rfl,(fin ..).1,(fin ..).2,rfl⟩
end Go.Proofs.YtodkeaoikjjneaaGreatDoor
/- package datum's difference: the pieces of the other datum are gathered. -/
namespace Go.Proofs.YtodkeaoikjjneaaGreatDoor
open Go Go.Eng
attribute [local congr] andThen_congr fops_congr fdraw_congr afterOp_congr drawF_congr
attribute [-go_sem] List.range_succ
def GatherI (l r cm : Nat) (R : Nat → Prop) (f g : Nat → Value) (done : List (List Nat × D)) (B : Nat → Prop) (σ : FState) : Prop :=
  (∀ b,b = l ∨ b = r ∨ b = cm → B b) ∧ (∀ b,B b → b < σ.next ∧ (b = l ∨ b = r ∨ b = cm ∨ l < b)) ∧ LoopAt 90 [14,15] c90_0a c90_0b 12 43 f g l r .ready σ ∧ (∃ ver,σ.heap.get r = some ⟨.defd true,false,none,ver⟩) ∧
    ∃ s ver,σ.heap.get cm = some ⟨.cells [s] TL,false,none,ver⟩ ∧ VecG (fun b => B b ∧ l < b) R σ s (done.map (·.2))
theorem gather_body (M l r cm : Nat) (R : Nat → Prop) (f g : Nat → Value) (all : List (List Nat × D)) (hne : cm < r ∧ r < l) (h5 : f 5 = .pointer (some ⟨cm,0,none⟩)) (hR : ∀ b,R b → b < cm) (hfew : all.length < 900) :
    Body (env (M + 3)) l R (.func (.func 135) #[] #[]) (GatherI l r cm R f g) all where
  stays:=fun done B σ σ' ⟨h1,h2,h6,⟨v7,h7⟩,⟨s,v8,h8,h9⟩⟩ hw hC => by
    have k : ∀ b,B b → b < σ.next → σ'.heap.get b = σ.heap.get b:=fun b hb hn => hC.get b hn fun h => h.1 hb
    have hn:=hC.next
    have kR : ∀ b c,R b → σ.cells b = some c → σ'.cells b = some c:=fun b c hb hc => by
      have:=hC.get b (hw.cells hc) fun h => h.2 hb
      rw [cells_get] at hc ⊢
      rw [this]; exact hc
    have own:=fun b hb => (h2 b (h1 b hb)).1
    exact ⟨h1,fun b hb => ⟨Nat.lt_of_lt_of_le (h2 b hb).1 hn,(h2 b hb).2⟩,h6.keep (k l (h1 l (by simp)) (own l (by simp))),⟨v7,(k r (h1 r (by simp)) (own r (by simp))).trans h7⟩,⟨s,v8,(k cm (h1 cm (by simp)) (own cm (by simp))).trans h8,h9.keep (fun b e hb he => ⟨(k b hb.1 (hw _ _ he).1).trans he,hb⟩) fun b cs hb hc => ⟨kR b cs hb hc,hb⟩⟩⟩
  own:=fun done B σ ⟨h1,h2,h6,_⟩ b hb => ⟨(h2 b hb).1,fun h => by
    have:=hR b h
    rcases (h2 b hb).2 with h | h | h | h
    all_goals omega⟩
  inside:=fun done B σ k z t p ln c _ hw => inside_go (M + 2) _ 135 #[] rfl k z t (.slice p ln c) (oneCell_slice _ _ _) σ hw fun σ' _ hw' => ⟨_,σ',alwaysIn (M + 1) _ σ',Ext.refl _,hw',rfl⟩
  go:=fun done path d rest B σ pv v hall' hw ⟨h1,h2,h6,⟨v7,h7⟩,⟨s,v8,h8,h9⟩⟩ hpath hL => by
    have hdone : done.length < 900:=by have:=congrArg List.length hall'; simp at this; omega
    have hL0:=hL
    obtain ⟨k,z,t,ps⟩:=d
    obtain ⟨p,c,rfl,hq⟩:=hL
    have own:=fun b hb => (h2 b (h1 b hb)).1
    have ol:=own l (by simp)
    have or':=own r (by simp)
    have oc:=own cm (by simp)
    rw [round_go _ _ _ _ _ _ _ _ _ (M + 2) l r _ h6 rfl,c90_0a_go]
    simp -implicitDefEqProofs only [go_sem,↓reduceIte,Nat.reduceLT,Nat.reduceEqDiff,Nat.reduceAdd,Nat.reduceMul,Nat.reduceLeDiff,Nat.reduceSub,fstoreN,r90_3_go,r90_3U,List.zip_cons_cons,List.zip_nil_right,putAll_cons,putAll_nil]
    have x1 : Ext σ ((σ.push (.cells [.int .i64 0,.int .i64 0,.string ⟨#[]⟩,.slice none 0 0] TD) none).put σ.next (.cells [.int .i64 k,.int .i64 z,.string t,.slice p ps.length c] TD) none):=((Ext.refl _).push _ _).put _ _ _ (Nat.le_refl _)
    have hw1:=(hw.push (.cells [.int .i64 0,.int .i64 0,.string ⟨#[]⟩,.slice none 0 0] TD) none).put σ.next (.cells [.int .i64 k,.int .i64 z,.string t,.slice p ps.length c] TD) none (Nat.lt_succ_self _)
    have b1 : ((σ.push (.cells [.int .i64 0,.int .i64 0,.string ⟨#[]⟩,.slice none 0 0] TD) none).put σ.next (.cells [.int .i64 k,.int .i64 z,.string t,.slice p ps.length c] TD) none).cells σ.next = some [.int .i64 k,.int .i64 z,.string t,.slice p ps.length c]:=by rw [cells_put,if_pos rfl]; rfl
    have n1 : ((σ.push (.cells [.int .i64 0,.int .i64 0,.string ⟨#[]⟩,.slice none 0 0] TD) none).put σ.next (.cells [.int .i64 k,.int .i64 z,.string t,.slice p ps.length c] TD) none).next = σ.next + 1:=rfl
    generalize FState.put _ _ _ _ = σ1 at x1 hw1 b1 n1 ⊢
    have l1:=h6.keep (x1.get l ol)
    rw [beginRound_go _ _ _ _ _ _ _ _ _ l r _ l1,c90_0b_go]
    have hw2:=hw1.put l (.loop .busy none 90 ((List.range 12).map f) g 12 43 [14,15] c90_0a c90_0b r) none (by omega)
    have l2 : LoopAt 90 [14,15] c90_0a c90_0b 12 43 f g l r .busy (σ1.put l (.loop .busy none 90 ((List.range 12).map f) g 12 43 [14,15] c90_0a c90_0b r) none):=LoopAt.put _ _ _ _ _ _ _ _ _ _ _ _
    have n2 : (σ1.put l (.loop .busy none 90 ((List.range 12).map f) g 12 43 [14,15] c90_0a c90_0b r) none).next = σ.next + 1:=n1
    have C2 : Chg (· = l) σ (σ1.put l (.loop .busy none 90 ((List.range 12).map f) g 12 43 [14,15] c90_0a c90_0b r) none):=(x1.chg _).put _ _ _ (.inr rfl)
    have b2 : (σ1.put l (.loop .busy none 90 ((List.range 12).map f) g 12 43 [14,15] c90_0a c90_0b r) none).cells σ.next = some [.int .i64 k,.int .i64 z,.string t,.slice p ps.length c]:=by rw [cells_put,if_neg (by omega)]; exact b1
    generalize FState.put _ l _ _ = σ2 at hw2 l2 b2 C2 n2 ⊢
    have hlc : ∀ b cs,σ.cells b = some cs → b ≠ l:=fun b cs hc hb => by
      obtain ⟨ver,h6⟩:=h6
      rw [hb,cells_get,h6] at hc
      cases hc
    have k2 : ∀ b cs,σ.cells b = some cs → σ2.cells b = some cs:=fun b cs hc => (C2.cells (hw.cells hc) (hlc b cs hc)).trans hc
    have g2 : ∀ b,b < σ.next → b ≠ l → σ2.heap.get b = σ.heap.get b:=fun b hb hne => C2.get b hb hne
    have c8 : σ2.cells cm = some [s]:=k2 _ _ (cells_of_get h8)
    have V2 : VecG (fun b => B b ∧ l < b) R σ2 s (done.map (·.2)):=h9.keep (fun b e hb he => ⟨(g2 b (hw _ _ he).1 (by omega)).trans he,hb⟩) fun b cs hb hc => ⟨k2 b cs hc,hb⟩
    obtain ⟨s',τ,ha,V3,hw3,ch3⟩:=vecG_append (fun b => B b ∧ l < b) R (fun b => (B b ∨ σ.next ≤ b) ∧ l < b) σ2 s (done.map (·.2)) nilD [.int .i64 0,.int .i64 0,.string ⟨#[]⟩,.slice none 0 0] hw2 rfl rfl (by simp; omega) V2 ⟨none,0,rfl,trivial⟩ (fun b hb h => by have:=hR b h; omega) (fun b hb => ⟨.inr (by omega),by omega⟩)
    have h83 : τ.heap.get cm = some ⟨.cells [s] TL,false,none,v8⟩:=(ch3.get cm (by omega) (fun h => by omega)).trans ((g2 cm oc (by omega)).trans h8)
    have n3:=ch3.next
    have hw4:=hw3.put cm (.cells [s'] TL) none (by omega)
    have V4 : VecG (fun b => (B b ∨ σ.next ≤ b) ∧ l < b) R (τ.put cm (.cells [s'] TL) none) s' (done.map (·.2) ++ [nilD]):=V3.keep (fun b e hb he => ⟨by rw [put_get,if_neg (by omega)]; exact he,hb⟩) fun b cs hb hc => ⟨by rw [cells_put,if_neg (by have:=hR b hb; omega)]; exact hc,hb⟩
    have kR4 : ∀ b cs,R b → σ.cells b = some cs → (τ.put cm (.cells [s'] TL) none).cells b = some cs:=fun b cs hb hc => by
      have:=hR b hb
      rw [cells_put,if_neg (by omega)]
      exact (ch3.cells (by have:=hw.cells hc; omega) (fun h => by omega)).trans (k2 b cs hc)
    obtain ⟨bv,hs',hbv,τ5,e5,V5,hw5,ch5,n5⟩:=vecG_last (fun b => (B b ∨ σ.next ≤ b) ∧ l < b) R _ s' (done.map (·.2)) nilD (.mk k z t ps) [.int .i64 k,.int .i64 z,.string t,.slice p ps.length c] hw4 rfl rfl V4 (hL0.keep fun b cs hb hc => ⟨kR4 b cs hb hc,hb⟩) (fun b hb h => by have:=hR b h; omega)
    have hv2:=view_wf hw2 (Nat.le_refl σ2.clock)
    obtain ⟨p0,hs,_⟩:=V2.slice
    subst hs
    subst hs'
    have hcmb : bv ≠ cm:=by omega
    have hone:=V3.one
    rw [List.length_map] at e5 ha V4 V5 h83 h8 V2 V3
    simp -implicitDefEqProofs only [go_sem,↓reduceIte,Nat.reduceLT,Nat.reduceEqDiff,Nat.reduceAdd,Nat.reduceMul,Nat.reduceLeDiff,Nat.reduceSub,drawSR_go,fswap_go,fswapA_go,fstore1,r90_4_go,r90_4U,r90_4t_go,hv2,b2,h5,c8,ha,h83,e5,apartP_ne _ _ _ _ _ _ hcmb,List.length_map,beq_self,Nat.lt_add_one,fdraw_nil']
    have l5 : LoopAt 90 [14,15] c90_0a c90_0b 12 43 f g l r .busy τ5:=l2.keep (by rw [ch5.get l (by rw [put_next]; omega) (by omega),put_get,if_neg (by omega),ch3.get l (by omega) (by omega)])
    rw [endRound_go _ _ _ _ _ _ _ _ _ _ l r _ _ l5]
    have m5:=ch5.next
    rw [put_next] at n5 m5
    have g5 : ∀ (o : FObj) b,b < σ.next → b ≠ l → b ≠ cm → ¬ (B b ∧ l < b) → (τ5.put l o none).heap.get b = σ.heap.get b:=fun o b hb hl hc hB => by
      rw [put_get,if_neg hl,ch5.get b (by rw [put_next]; omega) (fun h => hB ⟨h.1.resolve_right (by omega),h.2⟩),put_get,if_neg hc,ch3.get b (by omega) hB]
      exact g2 b hb hl
    have gc5 : ∀ o : FObj,(τ5.put l o none).heap.get cm = some ⟨.cells [.slice (some ⟨bv,0,none⟩) (done.length + 1) (done.length + 1)] TL,false,none,τ.clock⟩:=fun o => by
      rw [put_get,if_neg (by omega),ch5.get cm (by rw [put_next]; omega) (fun h => by omega),put_get,if_pos rfl,List.length_map]
    have kl5 : ∀ b cs,R b → σ.cells b = some cs → τ5.cells b = some cs:=fun b cs hb hc => by
      have:=hR b hb
      have:=hw.cells hc
      exact (ch5.cells (by rw [put_next]; omega) (fun h => by omega)).trans (kR4 b cs hb hc)
    refine ⟨fun b => B b ∨ (σ.next ≤ b ∧ b < τ5.next),_,rfl,hw5.put _ _ _ (by omega),⟨by rw [put_next]; omega,by have:=C2.clock; have:=ch3.clock; have:=ch5.clock; rw [put_clock] at this; rw [put_clock]; omega,fun b hb hB => g5 _ b hb (fun h => hB (h ▸ h1 l (by simp))) (fun h => hB (h ▸ h1 cm (by simp))) fun h => hB h.1⟩,fun b hb => by
      rcases hb with h | h
      · exact .inl h
      · exact .inr h.1,fun b hb => .inl (h1 b hb),fun b hb => ?_,LoopAt.put _ _ _ _ _ _ _ _ _ _ _ _,⟨v7,(g5 _ r or' (by omega) (by omega) (by omega)).trans h7⟩,_,_,gc5 _,?_⟩
    · rw [put_next]
      rcases hb with h | h
      · exact ⟨by have:=(h2 b h).1; omega,(h2 b h).2⟩
      · exact ⟨h.2,.inr (.inr (.inr (by omega)))⟩
    · rw [List.map_append,List.map_singleton]
      exact V5.keep (fun b e hb he => ⟨by rw [put_get,if_neg (by omega)]; exact he,by
        have:=(hw5 _ _ he).1
        rcases hb.1 with h | h
        · exact .inl h
        · exact .inr ⟨h,this⟩,hb.2⟩) fun b cs hb hc => ⟨by rw [cells_put,if_neg (by have:=hR b hb; omega)]; exact hc,hb⟩
end Go.Proofs.YtodkeaoikjjneaaGreatDoor
/- The walker stops where it is told to. -/
namespace Go.Proofs.YtodkeaoikjjneaaGreatDoor
open Go Go.Eng
attribute [local congr] andThen_congr fops_congr fdraw_congr afterOp_congr drawF_congr
attribute [-go_sem] List.range_succ
section
variable {kk n l bw bo bp base : Nat} {R : Nat → Prop} {g : Value} {I : List (List Nat × D) → (Nat → Prop) → FState → Prop} {all done : List (List Nat × D)} {B : Nat → Prop} {u : Value} {us : List Value} {ds : List D} {i : Nat} {d : D} {r : List (List D × Nat)} {f : Nat → Value} {σ : FState}
def StopAt (E : Env) (l : Nat) (R : Nat → Prop) (I : List (List Nat × D) → (Nat → Prop) → FState → Prop) (J : (Nat → Prop) → FState → Prop) (pre : List (List Nat × D)) (path : List Nat) (d : D) : Prop :=
  ∀ B σ pv v,Wf σ → I pre B σ → PathAt σ pv path → LaidR R σ v d → ∃ B' σ',E.round l [pv,v] σ = .ret (.bool false) none σ' ∧ Wf σ' ∧ Chg B σ σ' ∧ (∀ b,B' b → B b ∨ σ.next ≤ b) ∧ J B' σ'
theorem round_stop {J : (Nat → Prop) → FState → Prop} (hB : BodyTo kk (env n) l R g I all) (hst : StopAt (env n) l R I J done (wayOf r ++ [i]) d) (h : WHead l R g I all bw bo bp base B (u :: us) ((ds,i) :: r) done f σ) (hd : ds[i]? = some d) (hr : r.length < 90000) (gg : Nat → Value) :
    ∃ f' g' σ' B',l127_0 (env n) none 127 (Sl 8 80 f gg []) none σ = .done .ret (Sl 8 80 f' g' []) none σ' ∧ Chg (fun b => B b ∨ base ≤ b) σ σ' ∧ (∀ b,B' b → B b ∨ base ≤ b) ∧ Wf σ' ∧ J B' σ':=by
  obtain ⟨p,c,mo,mp,rfl,hE,hl,h4,co,ho,h5,cp,hp⟩:=h.top
  have hv:=view_wf h.wf (Nat.le_refl σ.clock)
  have d0 : decide (Int.ofNat (r.length + 1) > 0) = true:=by simp
  have w1:=sub1 r.length (by omega)
  have lt1 : r.length < r.length + 1:=Nat.lt_succ_self _
  have hi : i < ds.length:=(List.getElem?_eq_some_iff.1 hd).1
  have ne1 : (Int.ofNat i == Int.ofNat ds.length) = false:=by simp; omega
  obtain ⟨b,off,cs,rfl,hRb,hcs,hle,hL⟩:=LaidRE.get hE hd
  rw [Nat.zero_add] at hle hL
  obtain ⟨k,z,t,q,c',hag,hq⟩:=LaidR.shape hL
  have htk : (cs.drop (off + i * 4)).take 4 = [.int .i64 k,.int .i64 z,.string t,.slice q d.parts.length c']:=by
    have:=congrArg (fun v => match v with | .agg a => a.toList | _ => []) hag
    simpa using this
  rw [htk] at hL
  have hall:=h.all
  rw [todo_push r hd] at hall
  unfold l127_0
  simp -implicitDefEqProofs only [go_sem,↓reduceIte,Nat.reduceLT,Nat.reduceEqDiff,Nat.reduceAdd,Nat.reduceMul,Nat.reduceLeDiff,Nat.reduceSub,r127_3_go,r127_3U,r127_4_go,r127_4U,r127_5_go,r127_5U,h4,h5,d0,w1,lt1,hv,co,cp,ho,hp,ne1]
  generalize hg : upd _ 33 _ = g1
  clear hg
  have f4 : upd f 6 (Value.int IntKind.i64 (Int.ofNat (r.length + 1))) 4 = f 4:=by simp -implicitDefEqProofs only [upd_go,kept_go,↓reduceIte,Nat.reduceEqDiff,Nat.reduceLT,reduceCtorEq]
  have f5 : upd f 6 (Value.int IntKind.i64 (Int.ofNat (r.length + 1))) 5 = f 5:=by simp -implicitDefEqProofs only [upd_go,kept_go,↓reduceIte,Nat.reduceEqDiff,Nat.reduceLT,reduceCtorEq]
  have f0 : upd f 6 (Value.int IntKind.i64 (Int.ofNat (r.length + 1))) 0 = f 0:=by simp -implicitDefEqProofs only [upd_go,kept_go,↓reduceIte,Nat.reduceEqDiff,Nat.reduceLT,reduceCtorEq]
  have f2 : upd f 6 (Value.int IntKind.i64 (Int.ofNat (r.length + 1))) 2 = f 2:=by simp -implicitDefEqProofs only [upd_go,kept_go,↓reduceIte,Nat.reduceEqDiff,Nat.reduceLT,reduceCtorEq]
  have f6 : upd f 6 (Value.int IntKind.i64 (Int.ofNat (r.length + 1))) 6 = Value.int IntKind.i64 (Int.ofNat (r.length + 1)):=by simp -implicitDefEqProofs only [upd_go,kept_go,↓reduceIte,Nat.reduceEqDiff,Nat.reduceLT,reduceCtorEq]
  generalize upd f 6 _ = f1 at f4 f5 f0 f2 f6 ⊢
  simp -implicitDefEqProofs only [go_sem,↓reduceIte,Nat.reduceLT,Nat.reduceEqDiff,Nat.reduceAdd,Nat.reduceMul,Nat.reduceLeDiff,Nat.reduceSub,fstoreN,r127_9_go,r127_9U,f4,f5,f6,h4,h5,w1,lt1,hv,co,cp,ho,hp,hi,hcs,hle,htk]
  generalize hg : upd _ 62 _ = g2
  clear hg
  have p0 : upd f1 7 (Value.pointer (some ⟨σ.next,0,none⟩)) 0 = f 0:=by simp -implicitDefEqProofs only [upd_go,kept_go,↓reduceIte,Nat.reduceEqDiff,Nat.reduceLT,reduceCtorEq,f0]
  have p2 : upd f1 7 (Value.pointer (some ⟨σ.next,0,none⟩)) 2 = f 2:=by simp -implicitDefEqProofs only [upd_go,kept_go,↓reduceIte,Nat.reduceEqDiff,Nat.reduceLT,reduceCtorEq,f2]
  have p4 : upd f1 7 (Value.pointer (some ⟨σ.next,0,none⟩)) 4 = f 4:=by simp -implicitDefEqProofs only [upd_go,kept_go,↓reduceIte,Nat.reduceEqDiff,Nat.reduceLT,reduceCtorEq,f4]
  have p5 : upd f1 7 (Value.pointer (some ⟨σ.next,0,none⟩)) 5 = f 5:=by simp -implicitDefEqProofs only [upd_go,kept_go,↓reduceIte,Nat.reduceEqDiff,Nat.reduceLT,reduceCtorEq,f5]
  have p6 : upd f1 7 (Value.pointer (some ⟨σ.next,0,none⟩)) 6 = Value.int IntKind.i64 (Int.ofNat (r.length + 1)):=by simp -implicitDefEqProofs only [upd_go,kept_go,↓reduceIte,Nat.reduceEqDiff,Nat.reduceLT,reduceCtorEq,f6]
  have p7 : upd f1 7 (Value.pointer (some ⟨σ.next,0,none⟩)) 7 = Value.pointer (some ⟨σ.next,0,none⟩):=by simp -implicitDefEqProofs only [upd_go,kept_go,↓reduceIte,Nat.reduceEqDiff,Nat.reduceLT,reduceCtorEq]
  generalize upd f1 7 _ = f2' at p0 p2 p4 p5 p6 p7 ⊢
  -- the box of the part
  have x1 : Ext σ ((σ.push (.cells [.int .i64 0,.int .i64 0,.string ⟨#[]⟩,.slice none 0 0] TD) none).put σ.next (.cells [.int .i64 k,.int .i64 z,.string t,.slice q d.parts.length c'] TD) none):=((Ext.refl _).push _ _).put _ _ _ (Nat.le_refl _)
  have hw1:=(h.wf.push (.cells [.int .i64 0,.int .i64 0,.string ⟨#[]⟩,.slice none 0 0] TD) none).put σ.next (.cells [.int .i64 k,.int .i64 z,.string t,.slice q d.parts.length c'] TD) none (Nat.lt_succ_self _)
  have b1 : ((σ.push (.cells [.int .i64 0,.int .i64 0,.string ⟨#[]⟩,.slice none 0 0] TD) none).put σ.next (.cells [.int .i64 k,.int .i64 z,.string t,.slice q d.parts.length c'] TD) none).cells σ.next = some [.int .i64 k,.int .i64 z,.string t,.slice q d.parts.length c']:=by rw [cells_put,if_pos rfl]; rfl
  have hcl : ((σ.push (.cells [.int .i64 0,.int .i64 0,.string ⟨#[]⟩,.slice none 0 0] TD) none).put σ.next (.cells [.int .i64 k,.int .i64 z,.string t,.slice q d.parts.length c'] TD) none).clock = σ.clock + 2:=rfl
  have hnx : ((σ.push (.cells [.int .i64 0,.int .i64 0,.string ⟨#[]⟩,.slice none 0 0] TD) none).put σ.next (.cells [.int .i64 k,.int .i64 z,.string t,.slice q d.parts.length c'] TD) none).next = σ.next + 1:=rfl
  generalize FState.put _ _ _ _ = σ1 at x1 hw1 b1 hcl hnx ⊢
  have hv1:=view_wf hw1 (Nat.le_of_eq hcl)
  have hlp : r.length + 1 ≤ (List.map (fun i => Value.int IntKind.i64 (Int.ofNat i)) (wayOf r) ++ Value.int IntKind.i64 (Int.ofNat i) :: mp).length:=by simp [wayOf_length]
  have sl3:=fslice_3 Tryz.prog 22 TI 1 bp 0 (r.length + 1) _ (r.length + 1) (view σ1 (σ.clock + 2)) under_ti size_ti hlp
  have i1 : I done B σ1:=hB.stays _ _ _ _ h.inv h.wf (x1.chg _)
  have hbpn:=h.pth.lt h.wf
  have hP : PathAt σ1 (.slice (some ⟨bp,0,none⟩) (r.length + 1) (r.length + 1)) (wayOf r ++ [i]):=⟨some ⟨bp,0,none⟩,r.length + 1,by simp [wayOf_length],.inr ⟨bp,mp,rfl,by rw [x1.cells hbpn,cp]; simp⟩⟩
  have kR : ∀ b cs,R b → σ.cells b = some cs → σ1.cells b = some cs ∧ R b:=fun b cs hb hc => ⟨(x1.cells (h.wf.cells hc)).trans hc,hb⟩
  obtain ⟨B',σ2,e2,hw2,ch2,hB',j2⟩:=hst B σ1 _ _ hw1 i1 hP (hL.keep kR)
  simp -implicitDefEqProofs only [go_sem,↓reduceIte,Nat.reduceLT,Nat.reduceEqDiff,Nat.reduceAdd,Nat.reduceMul,Nat.reduceLeDiff,Nat.reduceSub,r127_10_go,r127_10U,p0,p5,p6,p7,h.f0,h5,hv1,b1,sl3,fcallV_yield,after_yield,e2]
  have hbase:=h.base
  have n1:=x1.next
  exact ⟨_,_,σ2,B',rfl,(x1.chg _).trans (ch2.weaken fun b _ hb => .inl hb) (fun b _ hb => hb),fun b hb => (hB' b hb).imp id fun h' => by omega,hw2,j2⟩
theorem walk_loop_stop {J : (Nat → Prop) → FState → Prop} {pre rest : List (List Nat × D)} {path : List Nat} (hB : BodyTo pre.length (env n) l R g I all) (hst : StopAt (env n) l R I J pre path d) (hS : Small all) (hsplit : all = pre ++ (path,d) :: rest) : ∀ (m fuel : Nat) (st : List (List D × Nat)) (us : List Value) (done : List (List Nat × D)) (B : Nat → Prop) (bo bp : Nat) (f gg : Nat → Value) (σ : FState),
    2 * (todo st).length + st.length ≤ m → m < fuel → st.length ≤ 80000 → done.length ≤ pre.length → WHead l R g I all bw bo bp base B us st done f σ →
    ∃ f' g' σ' B',floop [] (l127_0 (env n) none 127) fuel (Sl 8 80 f gg []) none σ = .done .ret (Sl 8 80 f' g' []) none σ' ∧ Chg (fun b => B b ∨ base ≤ b) σ σ' ∧ (∀ b,B' b → B b ∨ base ≤ b) ∧ Wf σ' ∧ J B' σ':=by
  intro m
  induction m with
  | zero =>
    intro fuel st us done B bo bp f gg σ hm hf hst' hdl h
    obtain rfl : st = []:=by cases st with | nil => rfl | cons _ _ => simp at hm
    have hall:=h.all
    rw [show todo ([] : List (List D × Nat)) = [] from rfl,List.append_nil,hsplit] at hall
    have:=congrArg List.length hall
    simp at this
    omega
  | succ m ih =>
    intro fuel st us done B bo bp f gg σ hm hf hst' hdl h
    obtain ⟨fuel,rfl⟩ : ∃ q,fuel = q + 1:=⟨fuel - 1,by omega⟩
    cases st with
    | nil => exact ih (fuel + 1) [] us done B bo bp f gg σ (by simp [todo]) (by omega) hst' hdl h
    | cons x r =>
      obtain ⟨ds,i⟩:=x
      cases us with
      | nil => exact absurd h.lev (fun h => h)
      | cons u us =>
        have hi : i ≤ ds.length:=h.lev.2.1
        have hr : r.length + 1 ≤ 80000:=hst'
        rw [floop_step,Sl_forget]
        by_cases he : i = ds.length
        · subst he
          obtain ⟨f',g',σ',e,hC,hH⟩:=round_up hB h (by omega) (kept [] gg)
          rw [e,andThen_normal]
          rw [todo_pop,below_bump] at hm
          have hlb : (bump r).length = r.length:=by cases r <;> rfl
          obtain ⟨f2,g2,σ2,B2,e2,hC2,hB2,hw2,hJ2⟩:=ih fuel _ _ _ _ _ _ f' g' σ' (by simp at hm; omega) (by omega) (by omega) hdl hH
          exact ⟨f2,g2,σ2,B2,e2,(hC.weaken fun b _ hb => .inr hb.1).trans hC2 (fun b _ hb => hb),hB2,hw2,hJ2⟩
        · have hlt : i < ds.length:=by omega
          have hd : ds[i]? = some ds[i]:=List.getElem?_eq_getElem hlt
          have hall:=h.all
          rw [todo_push r hd] at hall
          have hx:=hS (wayOf r ++ [i],ds[i]) (by rw [hall]; simp)
          by_cases hk : done.length < pre.length
          · obtain ⟨f',g',σ',B',bo',bp',u',e,hC,hBB,hH⟩:=round_on hB hk h hd (by omega) hx.2 (kept [] gg)
            rw [e,andThen_normal]
            rw [todo_push r hd] at hm
            have hl : (wayOf r ++ [i]).length = r.length + 1:=by simp [wayOf_length]
            have hx1:=hx.1
            simp only [hl] at hx1
            obtain ⟨f2,g2,σ2,B2,e2,hC2,hB2,hw2,hJ2⟩:=ih fuel _ _ _ _ _ _ f' g' σ' (by simp at hm ⊢; omega) (by omega) (by simp; omega) (by simp; omega) hH
            refine ⟨f2,g2,σ2,B2,e2,hC.trans hC2 fun b _ hb => ?_,fun b hb => ?_,hw2,hJ2⟩
            · rcases hb with hb | hb
              · exact hBB b hb
              · exact .inr hb
            · rcases hB2 b hb with hb | hb
              · exact hBB b hb
              · exact .inr hb
          · have hle : done.length = pre.length:=by omega
            rw [hsplit] at hall
            obtain ⟨h1,h2⟩:=List.append_inj hall hle.symm
            obtain ⟨h3,h4⟩:=List.cons.inj h2
            obtain ⟨h5,h6⟩:=Prod.mk.inj h3
            subst h1
            rw [h5] at hst
            have hst2 : StopAt (env n) l R I J pre (wayOf r ++ [i]) ds[i]:=by rw [← h6]; exact hst
            obtain ⟨f',g',σ',B',e,hC,hBB,hw',hJ⟩:=round_stop hB hst2 h hd (by omega) (kept [] gg)
            rw [e,andThen_ret]
            exact ⟨f',g',σ',B',rfl,hC,hBB,hw',hJ⟩
theorem walked_stop (d : D) {J : (Nat → Prop) → FState → Prop} {pre rest : List (List Nat × D)} {path : List Nat} {x : D} (hB : BodyTo pre.length (env n) l R g I (d.pieces [])) (hst : StopAt (env n) l R I J pre path x) (hsplit : d.pieces [] = pre ++ (path,x) :: rest) (hS : Small (d.pieces [])) (hN : (d.pieces []).length < 100000000000) (b1 b2 : Nat) (σ : FState) (v : Value) (lv : List Value) (B : Nat → Prop) (hw : Wf σ) (hi : I [] B σ) (hcv : σ.cells b1 = some lv) (hv : v = .agg lv.toArray) (hb1 : ¬ B b1) (hL : LaidR R σ v d) (hR : ∀ b,R b → b < σ.next) (hcw : σ.cells b2 = some [g]) (hb2 : ¬ B b2) :
    ∃ σ' B',(env (n + 1)).call 127 [.func (.yield l) #[] #[],.pointer (some ⟨b1,0,none⟩),.pointer (some ⟨b2,0,none⟩)] none σ = .ret (.tuple #[]) none σ' ∧ Chg B σ σ' ∧ (∀ b,B' b → B b ∨ σ.next ≤ b) ∧ Wf σ' ∧ J B' σ':=by
  subst hv
  obtain ⟨k,z,t,q,c',hag,hq⟩:=LaidR.shape hL
  have hlv : lv = [.int .i64 k,.int .i64 z,.string t,.slice q d.parts.length c']:=by
    have:=congrArg (fun v => match v with | .agg a => a.toList | _ => []) hag
    simpa using this
  subst hlv
  have hpc:=D.pieces_eq [] d
  by_cases hpre : pre = []
  · subst hpre
    rw [hpc] at hsplit
    obtain ⟨h3,h4⟩:=List.cons.inj hsplit
    obtain ⟨h5,h6⟩:=Prod.mk.inj h3
    subst h5
    subst h6
    obtain ⟨B',σ1,e1,hw1,ch1,hB1,j1⟩:=hst B σ (.slice none 0 0) _ hw hi ⟨none,0,rfl,.inl ⟨rfl,rfl,rfl⟩⟩ hL
    rw [env_call _ 127 _ _ rfl,enter127 _ _ _ _ (by simp),Sl_start]
    unfold run127
    have tk : List.take 4 [Value.int .i64 k,.int .i64 z,.string t,.slice q d.parts.length c'] = [.int .i64 k,.int .i64 z,.string t,.slice q d.parts.length c']:=rfl
    simp -implicitDefEqProofs only [go_sem,↓reduceIte,Nat.reduceLT,Nat.reduceEqDiff,Nat.reduceAdd,Nat.reduceMul,Nat.reduceLeDiff,Nat.reduceSub,r127_0_go,r127_0U,Option.getD_some,hcv,fcallV_yield,after_yield,e1]
    exact ⟨_,_,rfl,ch1,hB1,hw1,j1⟩
  have hpos : 0 < pre.length:=List.length_pos_iff.2 hpre
  obtain ⟨B',σ1,e1,hw1,ch1,hB1,i1⟩:=hB.go [] [] d _ B σ (.slice none 0 0) _ hpos (by rw [hpc]; rfl) hw hi ⟨none,0,rfl,.inl ⟨rfl,rfl,rfl⟩⟩ hL
  have ownB:=hB.own _ _ _ hi
  have ownB1:=hB.own _ _ _ i1
  have hb1n:=hw.cells hcv
  have hb2n:=hw.cells hcw
  have n1:=ch1.next
  have cv1 : σ1.cells b1 = some [.int .i64 k,.int .i64 z,.string t,.slice q d.parts.length c']:=(ch1.cells hb1n hb1).trans hcv
  have cw1 : σ1.cells b2 = some [g]:=(ch1.cells hb2n hb2).trans hcw
  obtain ⟨_,σ2,e2,x2,hw2,rfl⟩:=hB.inside _ B' σ1 k z t q d.parts.length c' i1 hw1
  have n2:=x2.next
  have x3 : Ext σ2 ((σ2.push (.cells [.slice q d.parts.length c'] TL) none).push (.cells [.int .i64 0] TI) none):=((Ext.refl _).push _ _).push _ _
  have hw3:=(hw2.push (.cells [.slice q d.parts.length c'] TL) none).push (.cells [.int .i64 0] TI) none
  have hlow : ∀ b,B' b → B b ∨ σ.next ≤ b:=hB1
  have nB : ∀ b,b < σ.next → ¬ B b → ¬ B' b:=fun b hb h1 h2 => by
    rcases hB1 b h2 with h3 | h3
    · exact h1 h3
    · omega
  have c03 : ∀ b,b < σ.next → ¬ B b → ((σ2.push (.cells [.slice q d.parts.length c'] TL) none).push (.cells [.int .i64 0] TI) none).heap.get b = σ.heap.get b:=fun b hb h0 =>
    (x3.get b (by omega)).trans ((x2.get b (by omega)).trans (ch1.get b hb h0))
  have kR : ∀ b cs,R b → σ.cells b = some cs → ((σ2.push (.cells [.slice q d.parts.length c'] TL) none).push (.cells [.int .i64 0] TI) none).cells b = some cs:=fun b cs hb hc => by
    rw [cells_get,c03 b (hR b hb) (fun hB0 => (ownB b hB0).2 hb),← cells_get]
    exact hc
  rw [env_call _ 127 _ _ rfl,enter127 _ _ _ _ (by simp),Sl_start]
  unfold run127
  have tk : List.take 4 [Value.int .i64 k,.int .i64 z,.string t,.slice q d.parts.length c'] = [.int .i64 k,.int .i64 z,.string t,.slice q d.parts.length c']:=rfl
  simp -implicitDefEqProofs only [go_sem,↓reduceIte,Nat.reduceLT,Nat.reduceEqDiff,Nat.reduceAdd,Nat.reduceMul,Nat.reduceLeDiff,Nat.reduceSub,r127_0_go,r127_0U,r127_1_go,r127_1U,r127_2_go,r127_2U,Option.getD_some,hcv,fcallV_yield,after_yield,e1,cw1,cv1,e2,keepK,oneCell_func]
  generalize hff : upd _ 5 _ = f1
  generalize hgg : upd _ 16 _ = g1
  generalize hbf : bigFuel = fuel
  have hH : WHead l R g I (d.pieces []) b2 σ2.next (σ2.next + 1) σ.next B' [.slice q d.parts.length c'] [(d.parts,0)] ([] ++ [([],d)]) f1 ((σ2.push (.cells [.slice q d.parts.length c'] TL) none).push (.cells [.int .i64 0] TI) none):={
    f0:=by rw [← hff]; simp -implicitDefEqProofs only [upd_go,kept_go,↓reduceIte,Nat.reduceEqDiff,Nat.reduceLT,reduceCtorEq,List.getElem?_cons_zero,Option.getD_some]
    f2:=by rw [← hff]; simp -implicitDefEqProofs only [upd_go,kept_go,↓reduceIte,Nat.reduceEqDiff,Nat.reduceLT,reduceCtorEq,List.getElem?_cons_zero,List.getElem?_cons_succ,Option.getD_some]
    cw:=by rw [cells_get,c03 b2 hb2n hb2,← cells_get]; exact hcw
    hbw:=⟨hb2n,nB b2 hb2n hb2⟩
    opn:=⟨_,none,σ2.clock,by rw [← hff]; simp -implicitDefEqProofs only [upd_go,kept_go,↓reduceIte,Nat.reduceEqDiff,Nat.reduceLT,reduceCtorEq] <;> rfl,by rw [push_get,if_neg (by rw [push_next]; omega),push_get,if_pos rfl]; rfl,.inl rfl,[],rfl⟩
    hbo:=⟨by omega,fun h => by have:=(ownB1 _ h).1; omega⟩
    lev:=⟨⟨q,c',rfl,hq.keep fun b cs hb hc => ⟨kR b cs hb hc,hb⟩⟩,Nat.zero_le _,(hS ([],d) (by rw [hpc]; exact List.mem_cons_self)).2,trivial⟩
    low:=hR
    pth:=⟨_,none,σ2.clock + 1,by rw [← hff]; simp -implicitDefEqProofs only [upd_go,kept_go,↓reduceIte,Nat.reduceEqDiff,Nat.reduceLT,reduceCtorEq] <;> rfl,by rw [push_get,if_pos (by rw [push_next])]; rfl,.inl rfl,[],rfl⟩
    hbp:=⟨by omega,fun h => by have:=(ownB1 _ h).1; omega⟩
    ne:=by omega
    inv:=hB.stays _ _ _ _ i1 hw1 (by
      have:=x2.clock
      have:=x3.clock
      have:=x3.next
      exact ⟨by omega,by omega,fun b hb _ => (x3.get b (by omega)).trans (x2.get b hb)⟩)
    all:=by rw [hpc]; show _ = [] ++ [([],d)] ++ (D.piecesL [] 0 (d.parts.drop 0) ++ []); simp
    wf:=hw3
    base:=by rw [push_next,push_next]; omega }
  obtain ⟨f2,g2,σ4,B4,e4,ch4,hB4,hw4,i4⟩:=walk_loop_stop hB hst hS hsplit _ fuel _ _ _ _ _ _ f1 g1 _ (Nat.le_refl _) (by
    rw [← hbf]
    show _ < 1000000000000
    have h1 : (todo [(d.parts,0)]).length = (D.piecesL [] 0 d.parts).length:=by simp [todo,below,wayOf]
    have h2:=congrArg List.length hpc
    rw [List.length_cons] at h2
    rw [h1,List.length_singleton]
    omega) (by simp) (by simp; omega) hH
  rw [e4]
  simp -implicitDefEqProofs only [go_sem,↓reduceIte,Nat.reduceLT,Nat.reduceEqDiff,Nat.reduceAdd,Nat.reduceMul,Nat.reduceLeDiff,Nat.reduceSub]
  refine ⟨_,B4,rfl,⟨?_,?_,?_⟩,?_,hw4,i4⟩
  · have:=x3.next; have:=ch4.next; omega
  · have:=ch1.clock; have:=x2.clock; have:=x3.clock; have:=ch4.clock; omega
  · intro b hb h0
    have:=x3.next
    rw [ch4.get b (by omega) (fun h => by
      rcases h with h | h
      · exact nB b hb h0 h
      · omega)]
    exact c03 b hb h0
  · intro b hb
    rcases hB4 b hb with h | h
    · exact hB1 b h
    · exact .inr h
end
end Go.Proofs.YtodkeaoikjjneaaGreatDoor
/- Ranging over a walk that is left. -/
namespace Go.Proofs.YtodkeaoikjjneaaGreatDoor
open Go Go.Eng
attribute [local congr] andThen_congr fops_congr fdraw_congr afterOp_congr drawF_congr
attribute [-go_sem] List.range_succ
section
variable (fn : FuncId) (params : List Tmp) (assign body : Code) (nl nt : Nat) (f g : Nat → Value) (σ : FState)
def LoopDone (l r id : Nat) (σ : FState) : Prop:=∃ ver,σ.heap.get l = some ⟨.loop .done (some (.exit id)) fn ((List.range nl).map f) g nl nt params assign body r,false,none,ver⟩
theorem endRound_exit (known : Bool) (l r id : Nat) (a : FAct) (u : Option FrameMode) (h : LoopAt fn params assign body nl nt f g l r .busy σ) :
    endRound known l (.done (.exit id) a u σ) = .ret (.bool false) none (σ.put l (.loop .done (some (.exit id)) fn ((List.range nl).map f) g nl nt params assign body r) none):=by
  obtain ⟨ver,h⟩:=h
  show endJump l .done (some (.exit id)) false σ = _
  unfold endJump setJump
  simp only [h]
  rfl
theorem LoopDone.put (l r id : Nat) : LoopDone fn params assign body nl nt f g l r id (σ.put l (.loop .done (some (.exit id)) fn ((List.range nl).map f) g nl nt params assign body r) none):=⟨_,by rw [put_get,if_pos rfl]⟩
theorem leaveLoop_done (ds : List Deferred) (u : Option FrameMode) (l r id : Nat) (mark : List Deferred) (v : Value) (u' : Option FrameMode) (h : LoopDone fn params assign body nl nt f g l r id σ) :
    leaveLoop l mark (Sl nl nt f g ds) u (.ret v u' σ) = .done (.exit id) (Sl nl nt f g (mark ++ ds)) u (σ.put l (.loop .exhausted (some (.exit id)) fn ((List.range nl).map f) g nl nt params assign body r) none):=by
  obtain ⟨ver,h⟩:=h
  unfold leaveLoop
  simp only [h]
  rfl
end
theorem range_walk_stop {J : (Nat → Prop) → FState → Prop} {pre rest : List (List Nat × D)} {path : List Nat} {x : D} (id : Nat) (m : Nat) (fn : FuncId) (params : List Tmp) (assign body : Code) (nl nt : Nat) (f g : Nat → Value) (ds : List Deferred) (u : Option FrameMode) (t b1 b2 : Nat) (σ : FState) (w : Value) (R : Nat → Prop) (d : D) (lv : List Value) (I : List (List Nat × D) → (Nat → Prop) → FState → Prop) (B : Nat → Prop)
    (hB : BodyTo pre.length (env m) (σ.next + 1) R w I (d.pieces [])) (hst : StopAt (env m) (σ.next + 1) R I J pre path x) (hsplit : d.pieces [] = pre ++ (path,x) :: rest) (hS : Small (d.pieces [])) (hN : (d.pieces []).length < 100000000000)
    (hl : ∀ B σ',J B σ' → LoopDone fn params assign body nl nt f g (σ.next + 1) σ.next id σ')
    (hi : I [] B ((σ.push (.defd true) none).push (.loop .ready none fn ((List.range nl).map f) g nl nt params assign body σ.next) none))
    (ht : (Sl nl nt f g ds).get t = .func (.func 127) #[] #[.pointer (some ⟨b1,0,none⟩),.pointer (some ⟨b2,0,none⟩)])
    (hw : Wf σ) (hcv : σ.cells b1 = some lv) (hb1 : ¬ B b1) (hL : LaidR R σ (.agg lv.toArray) d) (hR : ∀ b,R b → b < σ.next) (hcw : σ.cells b2 = some [w]) (hb2 : ¬ B b2) :
    ∃ σ' B',frange (env (m + 1)) none fn (.tmp t) params assign body (Sl nl nt f g ds) u σ =
        .done (.exit id) (Sl nl nt f g ({ target:=.collected σ.next,args:=#[] } :: ds)) u (σ'.put (σ.next + 1) (.loop .exhausted (some (.exit id)) fn ((List.range nl).map f) g nl nt params assign body σ.next) none) ∧
      Chg B σ σ' ∧ σ.next + 2 ≤ σ'.next ∧ (∀ b,B' b → B b ∨ σ.next ≤ b) ∧ Wf σ' ∧ J B' σ':=by
  rw [frange_go _ _ _ _ _ _ _ _ _ _ _ _ t _ _ _ ht]
  have x1 : Ext σ ((σ.push (.defd true) none).push (.loop .ready none fn ((List.range nl).map f) g nl nt params assign body σ.next) none):=((Ext.refl _).push _ _).push _ _
  have hw1:=(hw.push (.defd true) none).push (.loop .ready none fn ((List.range nl).map f) g nl nt params assign body σ.next) none
  have hn1 : ((σ.push (.defd true) none).push (.loop .ready none fn ((List.range nl).map f) g nl nt params assign body σ.next) none).next = σ.next + 2:=rfl
  generalize FState.push _ (.loop .ready none fn ((List.range nl).map f) g nl nt params assign body σ.next) none = σ1 at hi x1 hw1 hn1 ⊢
  have hb1n:=hw.cells hcv
  have hb2n:=hw.cells hcw
  obtain ⟨σ2,B2,e2,ch2,hB2,hw2,i2⟩:=walked_stop d hB hst hsplit hS hN b1 b2 σ1 _ lv B hw1 hi ((x1.cells hb1n).trans hcv) rfl hb1 (hL.keep fun b cs hb hc => ⟨(x1.cells (hw.cells hc)).trans hc,hb⟩) (fun b hb => by have:=hR b hb; omega) ((x1.cells hb2n).trans hcw) hb2
  have hargs : (#[] : Array Value).toList ++ [Value.func (.yield (σ.next + 1)) #[] #[]] ++ (#[.pointer (some ⟨b1,0,none⟩),.pointer (some ⟨b2,0,none⟩)] : Array Value).toList = [.func (.yield (σ.next + 1)) #[] #[],.pointer (some ⟨b1,0,none⟩),.pointer (some ⟨b2,0,none⟩)]:=rfl
  rw [hargs,e2,leaveLoop_done _ _ _ _ _ _ _ _ _ _ _ _ _ _ _ _ _ (hl _ _ i2)]
  have n2:=ch2.next
  refine ⟨σ2,B2,rfl,⟨by omega,Nat.le_trans x1.clock ch2.clock,fun b hb h0 => (ch2.get b (by omega) h0).trans (x1.get b hb)⟩,by omega,fun b hb => ?_,hw2,i2⟩
  rcases hB2 b hb with h | h
  · exact .inl h
  · exact .inr (by omega)
end Go.Proofs.YtodkeaoikjjneaaGreatDoor
/- package datum's difference: piece by piece. -/
namespace Go.Proofs.YtodkeaoikjjneaaGreatDoor
open Go Go.Eng
attribute [local congr] andThen_congr fops_congr fdraw_congr afterOp_congr drawF_congr
attribute [-go_sem] List.range_succ
def likeD : D → D → Bool
  | .mk k z t ps,.mk k' z' t' ps' => (k == k') && (z == z') && (t.toList == t'.toList) && (Int.ofNat ps.length == Int.ofNat ps'.length)
def CmpB (l r mb fb cm bv : Nat) (R : Nat → Prop) (es : List D) (n : Nat) (fv : Value → FState → Prop) (B : Nat → Prop) (σ : FState) : Prop :=
  (∀ b,b = l ∨ b = r ∨ b = mb ∨ b = fb ∨ b = cm ∨ b = bv → B b) ∧ (∀ b,B b → b < σ.next ∧ (b = l ∨ b = r ∨ b = mb ∨ b = fb ∨ b = cm ∨ b = bv ∨ l < b)) ∧ (∃ ver,σ.heap.get r = some ⟨.defd true,false,none,ver⟩) ∧
    (∃ ver,σ.heap.get mb = some ⟨.cells [.int .i64 (.ofNat n)] TI,false,none,ver⟩) ∧ (∃ w ver,σ.heap.get fb = some ⟨.cells [w] 22,false,none,ver⟩ ∧ fv w σ) ∧ ∃ s,σ.cells cm = some [s] ∧ VecG (· = bv) R σ s es
def CmpI (l r mb fb cm bv : Nat) (R : Nat → Prop) (es : List D) (f g : Nat → Value) (done : List (List Nat × D)) (B : Nat → Prop) (σ : FState) : Prop :=
  LoopAt 90 [24,25] c90_1a c90_1b 12 43 f g l r .ready σ ∧ CmpB l r mb fb cm bv R es done.length (fun w _ => w = .slice none 0 0) B σ
theorem CmpB.keep {l r mb fb cm bv n : Nat} {R : Nat → Prop} {es : List D} {fv : Value → FState → Prop} {B : Nat → Prop} {σ σ' : FState} (h : CmpB l r mb fb cm bv R es n fv B σ) (hw : Wf σ) (hn : σ.next ≤ σ'.next) (hk : ∀ b,B b → b ≠ l → σ'.heap.get b = σ.heap.get b) (hne : l ≠ r ∧ l ≠ mb ∧ l ≠ fb ∧ l ≠ cm ∧ l ≠ bv) (hR : ∀ b c,R b → σ.cells b = some c → σ'.cells b = some c) (hf : ∀ w,fv w σ → fv w σ') : CmpB l r mb fb cm bv R es n fv B σ':=by
  obtain ⟨h1,h2,⟨v3,h3⟩,⟨v4,h4⟩,⟨w,v5,h5,h6⟩,s,h7,h8⟩:=h
  refine ⟨h1,fun b hb => ⟨Nat.lt_of_lt_of_le (h2 b hb).1 hn,(h2 b hb).2⟩,⟨v3,(hk r (h1 r (by simp)) (Ne.symm hne.1)).trans h3⟩,⟨v4,(hk mb (h1 mb (by simp)) (Ne.symm hne.2.1)).trans h4⟩,⟨w,v5,(hk fb (h1 fb (by simp)) (Ne.symm hne.2.2.1)).trans h5,hf w h6⟩,s,?_,h8.keep (fun b e hb he => ⟨?_,hb⟩) fun b c hb hc => ⟨hR b c hb hc,hb⟩⟩
  · rw [cells_get,hk cm (h1 cm (by simp)) (Ne.symm hne.2.2.2.1),← cells_get]; exact h7
  · rw [hb] at he ⊢
    exact (hk bv (h1 bv (by simp)) (Ne.symm hne.2.2.2.2)).trans he
theorem cmp_begin (M l r mb fb cm bv : Nat) (R : Nat → Prop) (es : List D) (f g : Nat → Value) (hne : l ≠ r ∧ l ≠ mb ∧ l ≠ fb ∧ l ≠ cm ∧ l ≠ bv) (h5 : f 5 = .pointer (some ⟨cm,0,none⟩)) (h8 : f 8 = .pointer (some ⟨mb,0,none⟩)) (hR : ∀ b,R b → b ≠ l) (hes : es.length < 1000)
    (done : List (List Nat × D)) (d e : D) (B : Nat → Prop) (σ : FState) (pv v : Value) (hw : Wf σ) (h : CmpI l r mb fb cm bv R es f g done B σ) (hL : LaidR R σ v d) (he : es[done.length]? = some e) :
    ∃ σ3 f' g',(env (M + 3)).round l [pv,v] σ = endRound (Tryz.prog.funcs[90]?).isSome l (blockK 3 (blockK 4 (if likeD d e = true then fops (env (M + 2)) (some l) r90_12 (Sl 12 43 f' g' []) none σ3 else andThen (fops (env (M + 2)) (some l) r90_10 (Sl 12 43 f' g' []) none σ3) (exitR 2)))) ∧ f' 8 = f 8 ∧ f' 9 = f 9 ∧ f' 10 = pv ∧
      Wf σ3 ∧ Chg (· = l) σ σ3 ∧ LoopAt 90 [24,25] c90_1a c90_1b 12 43 f g l r .busy σ3:=by
  obtain ⟨h6,h1,h2,⟨v3,h3⟩,⟨v4,h4⟩,⟨w,v7,h7,rfl⟩,s,hs,hV⟩:=h
  obtain ⟨k,z,t,ps⟩:=d
  obtain ⟨p,c,rfl,hq⟩:=hL
  have own:=fun b hb => (h2 b (h1 b hb)).1
  have ol:=own l (by simp)
  rw [round_go _ _ _ _ _ _ _ _ _ (M + 2) l r _ h6 rfl,c90_1a_go]
  simp -implicitDefEqProofs only [go_sem,↓reduceIte,Nat.reduceLT,Nat.reduceEqDiff,Nat.reduceAdd,Nat.reduceMul,Nat.reduceLeDiff,Nat.reduceSub,fstoreN,r90_8_go,r90_8U,r90_9_go,r90_9U,List.zip_cons_cons,List.zip_nil_right,putAll_cons,putAll_nil]
  have x1 : Ext σ ((σ.push (.cells [.int .i64 0,.int .i64 0,.string ⟨#[]⟩,.slice none 0 0] TD) none).put σ.next (.cells [.int .i64 k,.int .i64 z,.string t,.slice p ps.length c] TD) none):=((Ext.refl _).push _ _).put _ _ _ (Nat.le_refl _)
  have hw1:=(hw.push (.cells [.int .i64 0,.int .i64 0,.string ⟨#[]⟩,.slice none 0 0] TD) none).put σ.next (.cells [.int .i64 k,.int .i64 z,.string t,.slice p ps.length c] TD) none (Nat.lt_succ_self _)
  have b1 : ((σ.push (.cells [.int .i64 0,.int .i64 0,.string ⟨#[]⟩,.slice none 0 0] TD) none).put σ.next (.cells [.int .i64 k,.int .i64 z,.string t,.slice p ps.length c] TD) none).cells σ.next = some [.int .i64 k,.int .i64 z,.string t,.slice p ps.length c]:=by rw [cells_put,if_pos rfl]; rfl
  have n1 : ((σ.push (.cells [.int .i64 0,.int .i64 0,.string ⟨#[]⟩,.slice none 0 0] TD) none).put σ.next (.cells [.int .i64 k,.int .i64 z,.string t,.slice p ps.length c] TD) none).next = σ.next + 1:=rfl
  generalize FState.put _ _ _ _ = σ1 at x1 hw1 b1 n1 ⊢
  have l1:=h6.keep (x1.get l ol)
  rw [beginRound_go _ _ _ _ _ _ _ _ _ l r _ l1,c90_1b_go]
  have hw2:=hw1.put l (.loop .busy none 90 ((List.range 12).map f) g 12 43 [24,25] c90_1a c90_1b r) none (by omega)
  have l2 : LoopAt 90 [24,25] c90_1a c90_1b 12 43 f g l r .busy (σ1.put l (.loop .busy none 90 ((List.range 12).map f) g 12 43 [24,25] c90_1a c90_1b r) none):=LoopAt.put _ _ _ _ _ _ _ _ _ _ _ _
  have n2 : (σ1.put l (.loop .busy none 90 ((List.range 12).map f) g 12 43 [24,25] c90_1a c90_1b r) none).next = σ.next + 1:=n1
  have C2 : Chg (· = l) σ (σ1.put l (.loop .busy none 90 ((List.range 12).map f) g 12 43 [24,25] c90_1a c90_1b r) none):=(x1.chg _).put _ _ _ (.inr rfl)
  have b2 : (σ1.put l (.loop .busy none 90 ((List.range 12).map f) g 12 43 [24,25] c90_1a c90_1b r) none).cells σ.next = some [.int .i64 k,.int .i64 z,.string t,.slice p ps.length c]:=by rw [cells_put,if_neg (by omega)]; exact b1
  generalize FState.put _ l _ _ = σ2 at hw2 l2 b2 C2 n2 ⊢
  have hlc : ∀ b cs,σ.cells b = some cs → b ≠ l:=fun b cs hc hb => by
    obtain ⟨ver,h6⟩:=h6
    rw [hb,cells_get,h6] at hc
    cases hc
  have k2 : ∀ b cs,σ.cells b = some cs → σ2.cells b = some cs:=fun b cs hc => (C2.cells (hw.cells hc) (hlc b cs hc)).trans hc
  have cs2:=k2 _ _ hs
  have cm2:=k2 _ _ (cells_of_get h4)
  obtain ⟨p0,hs0,hE⟩:=hV.slice
  subst hs0
  obtain ⟨b,off,cs,rfl,hRb,hcs,hle,hLe⟩:=LaidRE.get hE he
  obtain ⟨k',z',t',ps'⟩:=e
  obtain ⟨p',c',hag,hq'⟩:=hLe
  rw [Nat.zero_add] at hag hle
  have htk : (cs.drop (off + done.length * 4)).take 4 = [.int .i64 k',.int .i64 z',.string t',.slice p' ps'.length c']:=by
    have:=Value.agg.inj hag
    simpa using congrArg Array.toList this
  have hlt : done.length < es.length:=(List.getElem?_eq_some_iff.1 he).1
  have hcs2:=k2 _ _ hcs
  obtain ⟨_,σ3,e3,x3,hw3,rfl⟩:=alikeD_go (M + 1) k z k' z' t t' p p' ps.length ps'.length c c' σ2 hw2
  have hv2:=view_wf hw2 (Nat.le_refl σ2.clock)
  simp -implicitDefEqProofs only [go_sem,↓reduceIte,Nat.reduceLT,Nat.reduceEqDiff,Nat.reduceAdd,Nat.reduceMul,Nat.reduceLeDiff,Nat.reduceSub,r90_11_go,r90_11U,hv2,b2,h5,h8,cs2,cm2,hlt,hcs2,hle,htk,e3]
  have hlk : likeD (.mk k z t ps) (.mk k' z' t' ps') = ((k == k') && (z == z') && (t.toList == t'.toList) && (Int.ofNat ps.length == Int.ofNat ps'.length)):=rfl
  rw [← hlk]
  refine ⟨σ3,_,_,rfl,?_,?_,?_,hw3,C2.trans (x3.chg _) (fun b _ hb => hb),l2.keep (x3.get l (by omega))⟩
  · simp -implicitDefEqProofs only [upd_go,kept_go,↓reduceIte,Nat.reduceEqDiff,Nat.reduceLT,reduceCtorEq,h8]
  · simp -implicitDefEqProofs only [upd_go,kept_go,↓reduceIte,Nat.reduceEqDiff,Nat.reduceLT,reduceCtorEq]
  · simp -implicitDefEqProofs only [upd_go,kept_go,↓reduceIte,Nat.reduceEqDiff,Nat.reduceLT,reduceCtorEq]
theorem cmp_body (M l r mb fb cm bv : Nat) (R : Nat → Prop) (es : List D) (f g : Nat → Value) (all : List (List Nat × D)) (kk : Nat) (hne : cm < bv ∧ bv < mb ∧ mb < fb ∧ fb < r ∧ r < l) (h5 : f 5 = .pointer (some ⟨cm,0,none⟩)) (h8 : f 8 = .pointer (some ⟨mb,0,none⟩)) (hR : ∀ b,R b → b < cm) (hes : es.length < 1000)
    (hlike : ∀ i x,i < kk → all[i]? = some x → ∃ e,es[i]? = some e ∧ likeD x.2 e = true) :
    BodyTo kk (env (M + 3)) l R (.func (.func 135) #[] #[]) (CmpI l r mb fb cm bv R es f g) all where
  stays:=fun done B σ σ' ⟨h6,h⟩ hw hC => ⟨h6.keep (hC.get l (h.2.1 l (h.1 l (by simp))).1 fun h' => h'.1 (h.1 l (by simp))),h.keep hw hC.next (fun b hb _ => hC.get b (h.2.1 b hb).1 fun h' => h'.1 hb) (by omega) (fun b c hb hc => (hC.cells (hw.cells hc) fun h' => h'.2 hb).trans hc) fun w hw' => hw'⟩
  own:=fun done B σ ⟨_,h⟩ b hb => ⟨(h.2.1 b hb).1,fun hr => by
    have:=hR b hr
    have:=(h.2.1 b hb).2
    omega⟩
  inside:=fun done B σ k z t p ln c _ hw => inside_go (M + 2) _ 135 #[] rfl k z t (.slice p ln c) (oneCell_slice _ _ _) σ hw fun σ' _ hw' => ⟨_,σ',alwaysIn (M + 1) _ σ',Ext.refl _,hw',rfl⟩
  go:=fun done path d rest B σ pv v hk hall' hw h hpath hL => by
    obtain ⟨e,he,hl⟩:=hlike done.length (path,d) hk (by rw [hall',List.getElem?_append_right (Nat.le_refl _),Nat.sub_self]; rfl)
    obtain ⟨σ3,f',g',e3,q8,q9,q10,hw3,C3,l3⟩:=cmp_begin M l r mb fb cm bv R es f g (by omega) h5 h8 (fun b hb => by have:=hR b hb; omega) hes done d e B σ pv v hw h hL he
    rw [e3,hl]
    obtain ⟨h6,hB⟩:=h
    have hB0:=hB
    obtain ⟨h1,h2,⟨v3,h3⟩,⟨v4,h4⟩,⟨w,v5,h5',rfl⟩,s,hs,hV⟩:=hB
    have own:=fun b hb => (h2 b (h1 b hb)).1
    have om:=own mb (by simp)
    have hdl : done.length < es.length:=(List.getElem?_eq_some_iff.1 he).1
    have gm : σ3.heap.get mb = some ⟨.cells [.int .i64 (.ofNat done.length)] TI,false,none,v4⟩:=(C3.get mb om (by omega)).trans h4
    have cm3:=cells_of_get gm
    have a1:=add1 done.length (by omega)
    simp -implicitDefEqProofs only [go_sem,↓reduceIte,Nat.reduceLT,Nat.reduceEqDiff,Nat.reduceAdd,Nat.reduceMul,Nat.reduceLeDiff,Nat.reduceSub,fstore1,r90_12_go,r90_12U,q8,h8,gm,cm3,a1]
    have l4 : LoopAt 90 [24,25] c90_1a c90_1b 12 43 f g l r .busy (σ3.put mb (.cells [.int .i64 (.ofNat (done.length + 1))] TI) none):=l3.keep (by rw [put_get,if_neg (by omega)])
    rw [endRound_go _ _ _ _ _ _ _ _ _ _ l r _ _ l4]
    have n3:=C3.next
    have og : ∀ (o : FObj) b,b < σ.next → b ≠ l → b ≠ mb → ((σ3.put mb (.cells [.int .i64 (.ofNat (done.length + 1))] TI) none).put l o none).heap.get b = σ.heap.get b:=fun o b hb hl hm => by
      rw [put_get,if_neg hl,put_get,if_neg hm]; exact C3.get b hb hl
    refine ⟨B,_,rfl,(hw3.put _ _ _ (by omega)).put _ _ _ (by rw [put_next]; have:=own l (by simp); omega),⟨by rw [put_next,put_next]; omega,by have:=C3.clock; rw [put_clock,put_clock]; omega,fun b hb hB => og _ b hb (fun h => hB (h ▸ h1 l (by simp))) (fun h => hB (h ▸ h1 mb (by simp)))⟩,fun b hb => .inl hb,LoopAt.put _ _ _ _ _ _ _ _ _ _ _ _,h1,fun b hb => ⟨by rw [put_next,put_next]; have:=(h2 b hb).1; omega,(h2 b hb).2⟩,⟨v3,(og _ r (own r (by simp)) (by omega) (by omega)).trans h3⟩,⟨σ3.clock,?_⟩,⟨_,v5,(og _ fb (own fb (by simp)) (by omega) (by omega)).trans h5',rfl⟩,s,?_,hV.keep (fun b e hb he => ⟨(og _ b (hw _ _ he).1 (by omega) (by omega)).trans he,hb⟩) fun b c hb hc => ⟨?_,hb⟩⟩
    · rw [put_get,if_neg (by omega),put_get,if_pos rfl,List.length_append,List.length_singleton]
    · rw [cells_get,og _ cm (own cm (by simp)) (by omega) (by omega),← cells_get]; exact hs
    · rw [cells_get,og _ b (hw.cells hc) (by have:=hR b hb; omega) (by have:=hR b hb; omega),← cells_get]; exact hc
def CmpJ (l r mb fb cm bv : Nat) (R : Nat → Prop) (es : List D) (f g : Nat → Value) (n : Nat) (path : List Nat) (base : Nat) (B : Nat → Prop) (σ : FState) : Prop :=
  LoopDone 90 [24,25] c90_1a c90_1b 12 43 f g l r 2 σ ∧ CmpB l r mb fb cm bv R es n (fun w σ => PathV (fun b => base ≤ b) σ w path) B σ
theorem cmp_stop (M l r mb fb cm bv : Nat) (R : Nat → Prop) (es : List D) (f g : Nat → Value) (pre : List (List Nat × D)) (path : List Nat) (d e : D) (hne : cm < bv ∧ bv < mb ∧ mb < fb ∧ fb < r ∧ r < l) (h5 : f 5 = .pointer (some ⟨cm,0,none⟩)) (h8 : f 8 = .pointer (some ⟨mb,0,none⟩)) (h9 : f 9 = .pointer (some ⟨fb,0,none⟩)) (hR : ∀ b,R b → b < cm) (hes : es.length < 1000) (hp : path.length < 90000)
    (he : es[pre.length]? = some e) (hl : likeD d e = false) : StopAt (env (M + 3)) l R (CmpI l r mb fb cm bv R es f g) (CmpJ l r mb fb cm bv R es f g pre.length path (l + 1)) pre path d:=by
  intro B σ pv v hw h hpath hL
  obtain ⟨σ3,f',g',e3,q8,q9,q10,hw3,C3,l3⟩:=cmp_begin M l r mb fb cm bv R es f g (by omega) h5 h8 (fun b hb => by have:=hR b hb; omega) hes pre d e B σ pv v hw h hL he
  rw [e3,hl]
  obtain ⟨h6,hB⟩:=h
  obtain ⟨h1,h2,⟨v3,h3⟩,⟨v4,h4⟩,⟨w,v5,h5',rfl⟩,s,hs,hV⟩:=hB
  have own:=fun b hb => (h2 b (h1 b hb)).1
  have ol:=own l (by simp)
  have of':=own fb (by simp)
  have n3:=C3.next
  have hlc : ∀ b cs,σ.cells b = some cs → b ≠ l:=fun b cs hc hb => by
    obtain ⟨ver,h6⟩:=h6
    rw [hb,cells_get,h6] at hc
    cases hc
  obtain ⟨w4,σ4,e4,x4,hw4,P4⟩:=clone_go (M + 1) σ3 hw3 (hpath.pathV.keep (Q':=fun _ => True) fun b cs _ hc => ⟨(C3.cells (hw.cells hc) (hlc b cs hc)).trans hc,trivial⟩) (by omega)
  have n4:=x4.next
  have gf : σ4.heap.get fb = some ⟨.cells [.slice none 0 0] 22,false,none,v5⟩:=(x4.get fb (by omega)).trans ((C3.get fb of' (by omega)).trans h5')
  simp -implicitDefEqProofs only [go_sem,↓reduceIte,Nat.reduceLT,Nat.reduceEqDiff,Nat.reduceAdd,Nat.reduceMul,Nat.reduceLeDiff,Nat.reduceSub,fstoreN,r90_10_go,r90_10U,q9,q10,h9,e4,gf,P4.one.1,P4.one.2.1,P4.one.2.2]
  have l4 : LoopAt 90 [24,25] c90_1a c90_1b 12 43 f g l r .busy (σ4.put fb (.cells [w4] 22) none):=l3.keep (by rw [put_get,if_neg (by omega),x4.get l (by omega)])
  rw [endRound_exit _ _ _ _ _ _ _ _ _ _ l r 2 _ _ l4]
  have og : ∀ (o : FObj) b,b < σ.next → b ≠ l → b ≠ fb → ((σ4.put fb (.cells [w4] 22) none).put l o none).heap.get b = σ.heap.get b:=fun o b hb hl hf => by
    rw [put_get,if_neg hl,put_get,if_neg hf,x4.get b (by omega)]; exact C3.get b hb hl
  refine ⟨B,_,rfl,(hw4.put _ _ _ (by omega)).put _ _ _ (by rw [put_next]; omega),⟨by rw [put_next,put_next]; omega,by have:=C3.clock; have:=x4.clock; rw [put_clock,put_clock]; omega,fun b hb hB => og _ b hb (fun h => hB (h ▸ h1 l (by simp))) (fun h => hB (h ▸ h1 fb (by simp)))⟩,fun b hb => .inl hb,LoopDone.put _ _ _ _ _ _ _ _ _ _ _ _,h1,fun b hb => ⟨by rw [put_next,put_next]; have:=(h2 b hb).1; omega,(h2 b hb).2⟩,⟨v3,(og _ r (own r (by simp)) (by omega) (by omega)).trans h3⟩,⟨v4,(og _ mb (own mb (by simp)) (by omega) (by omega)).trans h4⟩,⟨w4,σ4.clock,by rw [put_get,if_neg (by omega),put_get,if_pos rfl],P4.keep fun b c hb hc => ⟨?_,by omega⟩⟩,s,?_,hV.keep (fun b e hb he => ⟨(og _ b (hw _ _ he).1 (by omega) (by omega)).trans he,hb⟩) fun b c hb hc => ⟨?_,hb⟩⟩
  · rw [cells_put,if_neg (by omega),cells_put,if_neg (by omega)]; exact hc
  · rw [cells_get,og _ cm (own cm (by simp)) (by omega) (by omega),← cells_get]; exact hs
  · rw [cells_get,og _ b (hw.cells hc) (by have:=hR b hb; omega) (by have:=hR b hb; omega),← cells_get]; exact hc
end Go.Proofs.YtodkeaoikjjneaaGreatDoor
/- Functions of the program, written out in the reading's words (made by program; the kernel holds each against the code). -/
namespace Go.Proofs.YtodkeaoikjjneaaGreatDoor
open Go Go.Eng
variable (E : Env) (ro : Option Nat) (last : List Nat → RunF) (cl : List Nat) (a : FAct) (u : Option FrameMode) (σ : FState)
def x108_0 : Code:=(scopesOf (Tryz.f108.body.getD .skip)).getD 0 .skip
def find108_0 (E : Env) (ro : Option Nat) (fn : FuncId) : Nat → Option (Bx RunF):=fun l => match findLabel x108_0 l with | some rest => some ⟨(ccode Tryz.prog nls 998 rest).un E ro fn⟩ | none => none
end Go.Proofs.YtodkeaoikjjneaaGreatDoor
/- plain.Elements: a loop by goto. -/
namespace Go.Proofs.YtodkeaoikjjneaaGreatDoor
open Go Go.Eng
attribute [local congr] andThen_congr fops_congr fdraw_congr afterOp_congr drawF_congr
attribute [-go_sem] List.range_succ
def scopeK (find : Nat → Option (Bx RunF)) (again : RunF → RunF) (r : KRes) : KRes:=match r with
  | .done (.goto l) a u σ => (match find l with | some rest => again rest.un a u σ | none => .done (.goto l) a u σ)
  | r => r
theorem fscope_step (find : Nat → Option (Bx RunF)) (n : Nat) (run : RunF) (a : FAct) (u : Option FrameMode) (σ : FState) : fscope find (n + 1) run a u σ = scopeK find (fscope find n) (run a u σ):=by
  show (match run a u σ with | .done (.goto l) a u σ => (match find l with | some rest => fscope find n rest.un a u σ | none => .done (.goto l) a u σ) | r => r) = _
  unfold scopeK
  rfl
theorem scopeK_ret (find : Nat → Option (Bx RunF)) (again : RunF → RunF) (a : FAct) (u : Option FrameMode) (σ : FState) : scopeK find again (.done .ret a u σ) = .done .ret a u σ:=rfl
structure HeadEl (R : Nat → Prop) (σ0 : FState) (bd bt : Nat) (rest : D) (done : List D) (f : Nat → Value) (σ : FState) : Prop where
  f1 : f 1 = .pointer (some ⟨bd,0,none⟩)
  f3 : f 3 = .pointer (some ⟨bt,0,none⟩)
  vec : VecG (fun b => σ0.next ≤ b ∧ b ≠ bd ∧ b ≠ bt) R σ (f 2) done
  hd : ∃ ver lv,σ.heap.get bd = some ⟨.cells lv TD,false,none,ver⟩ ∧ lv.length = 4 ∧ LaidR R σ (.agg lv.toArray) rest
  ht : ∃ ver,σ.heap.get bt = some ⟨.cells [.int .i64 0,.int .i64 0,.string ⟨#[]⟩,.slice none 0 0] TD,false,none,ver⟩
  ne : bd ≠ bt
  lo : σ0.next ≤ bd ∧ σ0.next ≤ bt
  wf : Wf σ
  ext : Ext σ0 σ
end Go.Proofs.YtodkeaoikjjneaaGreatDoor
/- package datum's difference, up to its second walk. -/
namespace Go.Proofs.YtodkeaoikjjneaaGreatDoor
open Go Go.Eng
attribute [local congr] andThen_congr fops_congr fdraw_congr afterOp_congr drawF_congr
attribute [-go_sem] List.range_succ
def restDI (E : Env) : RunF:=seqR (seqR (fops E none r90_13) (condR (fun a => a.get 40) (fops E none r90_14) skipR)) (seqR (fops E none r90_15) retR)
theorem scopeK_panic (find : Nat → Option (Bx RunF)) (again : RunF → RunF) (ch : List PanicEntry) (a : FAct) (u : Option FrameMode) (σ : FState) : scopeK find again (.done (.panic ch) a u σ) = .done (.panic ch) a u σ:=rfl
theorem difference_begin (M : Nat) (d e : D) (lv mv : List Value) (h4 : lv.length = 4) (hm4 : mv.length = 4) (σ : FState) (hw : Wf σ) (hL : LaidR (fun b => b < σ.next) σ (.agg lv.toArray) d) (hLe : LaidR (fun b => b < σ.next) σ (.agg mv.toArray) e)
    (hS : Small (e.pieces [])) (hN : (e.pieces []).length < 900) :
    ∃ find again f g r1 σ6 b1 b2 bv mb fb s,(env (M + 5)).call 90 [.agg lv.toArray,.agg mv.toArray] none σ =
        leaveR Tryz.prog (env (M + 4)) [.tmp 4] (scopeK find again (andThen (blockK 2 (frange (env (M + 4)) none 90 (.tmp 23) [24,25] c90_1a c90_1b (Sl 12 43 f g [{ target:=.collected r1,args:=#[] }]) none σ6)) (restDI (env (M + 4))))) ∧
      f 5 = .pointer (some ⟨σ.next + 2,0,none⟩) ∧ f 8 = .pointer (some ⟨mb,0,none⟩) ∧ f 9 = .pointer (some ⟨fb,0,none⟩) ∧ g 23 = .func (.func 127) #[] #[.pointer (some ⟨b1,0,none⟩),.pointer (some ⟨b2,0,none⟩)] ∧
      Ext σ σ6 ∧ Wf σ6 ∧ σ6.cells b2 = some [.func (.func 135) #[] #[]] ∧ σ6.cells b1 = some lv ∧ (∃ ver,σ6.heap.get r1 = some ⟨.defd true,false,none,ver⟩) ∧ σ.next + 2 < r1 ∧ r1 < bv ∧ bv < mb ∧ mb < fb ∧ fb < σ6.next ∧ fb < b1 ∧ fb < b2 ∧
      (∃ ver,σ6.heap.get mb = some ⟨.cells [.int .i64 (.ofNat 0)] TI,false,none,ver⟩) ∧ (∃ ver,σ6.heap.get fb = some ⟨.cells [.slice none 0 0] 22,false,none,ver⟩) ∧ σ6.cells (σ.next + 2) = some [s] ∧ VecG (· = bv) (fun b => b < σ.next) σ6 s ((e.pieces []).map (·.2)):=by
  rw [env_call _ 90 _ _ rfl,enter90 _ _ _ _ (by simp),Sl_start]
  unfold run90
  generalize hbf : bigFuel = fuel
  obtain ⟨fuel,rfl⟩ : ∃ q,fuel = q + 1:=⟨fuel - 1,by rw [← hbf]; show 1000000000000 = 1000000000000 - 1 + 1; omega⟩
  have ht : lv.take 4 = lv:=List.take_of_length_le (by omega)
  have htm : mv.take 4 = mv:=List.take_of_length_le (by omega)
  have x1 : Ext σ (((σ.push (.cells lv TD) none).push (.cells mv TD) none).push (.cells [.slice none 0 0] TL) none):=(((Ext.refl _).push _ _).push _ _).push _ _
  have hw1:=((hw.push (.cells lv TD) none).push (.cells mv TD) none).push (.cells [.slice none 0 0] TL) none
  have g1 : (((σ.push (.cells lv TD) none).push (.cells mv TD) none).push (.cells [.slice none 0 0] TL) none).heap.get (σ.next + 2) = some ⟨.cells [.slice none 0 0] TL,false,none,σ.clock + 2⟩:=by rw [push_get,if_pos (by simp only [push_next])]; rfl
  have c1 : (((σ.push (.cells lv TD) none).push (.cells mv TD) none).push (.cells [.slice none 0 0] TL) none).cells σ.next = some lv:=by rw [cells_push,if_neg (by simp only [push_next]; omega),cells_push,if_neg (by rw [push_next]; omega),cells_push,if_pos rfl]; rfl
  have cx1 : (((σ.push (.cells lv TD) none).push (.cells mv TD) none).push (.cells [.slice none 0 0] TL) none).cells (σ.next + 1) = some mv:=by rw [cells_push,if_neg (by simp only [push_next]; omega),cells_push,if_pos (by rw [push_next])]; rfl
  have n1 : (((σ.push (.cells lv TD) none).push (.cells mv TD) none).push (.cells [.slice none 0 0] TL) none).next = σ.next + 3:=rfl
  simp -implicitDefEqProofs only [go_sem,↓reduceIte,Nat.reduceLT,Nat.reduceEqDiff,Nat.reduceAdd,Nat.reduceMul,Nat.reduceLeDiff,Nat.reduceSub,fscope_step,r90_0_go,r90_0U,r90_1_go,r90_1U,Option.getD_some]
  generalize hff : upd _ 5 _ = f1
  have q2 : f1 2 = .pointer (some ⟨σ.next,0,none⟩):=by rw [← hff]; simp -implicitDefEqProofs only [upd_go,kept_go,↓reduceIte,Nat.reduceEqDiff,Nat.reduceLT,reduceCtorEq]
  have q3 : f1 3 = .pointer (some ⟨σ.next + 1,0,none⟩):=by rw [← hff]; simp -implicitDefEqProofs only [upd_go,kept_go,↓reduceIte,Nat.reduceEqDiff,Nat.reduceLT,reduceCtorEq]
  have q5 : f1 5 = .pointer (some ⟨σ.next + 2,0,none⟩):=by rw [← hff]; simp -implicitDefEqProofs only [upd_go,kept_go,↓reduceIte,Nat.reduceEqDiff,Nat.reduceLT,reduceCtorEq]
  clear hff
  generalize FState.push _ _ _ = σ1 at x1 hw1 g1 c1 cx1 n1 ⊢
  obtain ⟨σ2,b1,b2,e2,x2,hw2,hb1,hb2,cb2,cb1⟩:=walkD_go (M + 2) mv hm4 σ1 hw1
  simp -implicitDefEqProofs only [go_sem,↓reduceIte,Nat.reduceLT,Nat.reduceEqDiff,Nat.reduceAdd,Nat.reduceMul,Nat.reduceLeDiff,Nat.reduceSub,r90_2_go,r90_2U,q3,cx1,hm4,htm,e2,Nat.le_refl]
  generalize hgg : upd _ 13 _ = gg
  have n2:=x2.next
  have hL2 : LaidR (fun b => b < σ.next) σ2 (.agg mv.toArray) e:=hLe.keep fun b cs hb hc => ⟨((x1.trans x2).cells (hw.cells hc)).trans hc,hb⟩
  have hcm2 : σ2.heap.get (σ.next + 2) = some ⟨.cells [.slice none 0 0] TL,false,none,σ.clock + 2⟩:=(x2.get _ (by omega)).trans g1
  have y2 : Ext σ2 ((σ2.push (.defd true) none).push (.loop .ready none 90 ((List.range 12).map f1) gg 12 43 [14,15] c90_0a c90_0b σ2.next) none):=((Ext.refl _).push _ _).push _ _
  obtain ⟨σ3,B3,e3,ch3,n3,hB3,hw3,i3⟩:=range_walk (M + 3) 90 [14,15] c90_0a c90_0b 12 43 f1 gg [] none 13 b1 b2 σ2 (.func (.func 135) #[] #[]) (fun b => b < σ.next) e mv (GatherI (σ2.next + 1) σ2.next (σ.next + 2) (fun b => b < σ.next) f1 gg) (fun b => b = σ2.next + 1 ∨ b = σ2.next ∨ b = σ.next + 2)
    (gather_body M (σ2.next + 1) σ2.next (σ.next + 2) (fun b => b < σ.next) f1 gg _ ⟨by omega,by omega⟩ q5 (fun b hb => by omega) hN) hS (by omega)
    (fun done B σ' ⟨_,_,h5,h6,_⟩ => ⟨h5,h6⟩)
    ⟨fun b hb => hb,fun b hb => ⟨by simp only [push_next]; omega,by omega⟩,loop_made ..,⟨_,by rw [push_get,if_neg (by rw [push_next]; omega),push_get,if_pos rfl]⟩,_,_,(y2.get _ (by omega)).trans hcm2,.inl ⟨rfl,rfl⟩⟩
    (by rw [Sl_get,← hgg]; simp -implicitDefEqProofs only [upd_go,kept_go,↓reduceIte,Nat.reduceEqDiff,Nat.reduceLT,reduceCtorEq]) hw2 cb1 (fun h => by have:=hw2.cells cb1; omega) hL2 (fun b hb => by omega) cb2 (fun h => by have:=hw2.cells cb2; omega)
  rw [e3]
  obtain ⟨h1,h2,h6,⟨v6,h7⟩,s,v8,h8,h9⟩:=i3
  have hn2:=ch3.next
  have hcm:=cells_of_get h8
  have ha3 : σ3.cells σ.next = some lv:=(ch3.cells (by omega) (by omega)).trans ((x2.cells (by omega)).trans c1)
  rcases h9 with ⟨h,_⟩ | ⟨bv,cs,ver,rfl,hbv,hq,hRow⟩
  · exact absurd (congrArg List.length h) (by rw [D.pieces_eq]; simp)
  have hbvn:=(hw3 _ _ hbv).1
  have hw4:=((hw3.put (σ2.next + 1) (.loop .exhausted none 90 ((List.range 12).map f1) gg 12 43 [14,15] c90_0a c90_0b σ2.next) none (by omega)).push (.cells [.int .i64 0] TI) none).put σ3.next (.cells [.int .i64 0] TI) none (by rw [push_next,put_next]; omega)
  simp -implicitDefEqProofs only [go_sem,↓reduceIte,Nat.reduceLT,Nat.reduceEqDiff,Nat.reduceAdd,Nat.reduceMul,Nat.reduceLeDiff,Nat.reduceSub,fstore1,r90_5_go,r90_5U,r90_6_go,r90_6U,skipR_go]
  have x3 : Ext σ σ3:=(((x1.trans x2).chg (fun b => σ.next ≤ b)).trans ch3 fun b hb h => by omega).ext fun b hb h => by omega
  have hw5:=hw4.push (.cells [.slice none 0 0] 22) none
  have x5 : Ext σ ((((σ3.put (σ2.next + 1) (.loop .exhausted none 90 ((List.range 12).map f1) gg 12 43 [14,15] c90_0a c90_0b σ2.next) none).push (.cells [.int .i64 0] TI) none).put σ3.next (.cells [.int .i64 0] TI) none).push (.cells [.slice none 0 0] 22) none):=(((x3.put _ _ _ (by omega)).push _ _).put _ _ _ (by have:=x3.next; omega)).push _ _
  have g5 : ∀ b,b < σ3.next → b ≠ σ2.next + 1 → ((((σ3.put (σ2.next + 1) (.loop .exhausted none 90 ((List.range 12).map f1) gg 12 43 [14,15] c90_0a c90_0b σ2.next) none).push (.cells [.int .i64 0] TI) none).put σ3.next (.cells [.int .i64 0] TI) none).push (.cells [.slice none 0 0] 22) none).heap.get b = σ3.heap.get b:=fun b hb hne => by
    rw [push_get,if_neg (by simp only [put_next,push_next]; omega),put_get,if_neg (by omega),push_get,if_neg (by rw [put_next]; omega),put_get,if_neg hne]
  have gm5 : ∃ ver,((((σ3.put (σ2.next + 1) (.loop .exhausted none 90 ((List.range 12).map f1) gg 12 43 [14,15] c90_0a c90_0b σ2.next) none).push (.cells [.int .i64 0] TI) none).put σ3.next (.cells [.int .i64 0] TI) none).push (.cells [.slice none 0 0] 22) none).heap.get σ3.next = some ⟨.cells [.int .i64 (.ofNat 0)] TI,false,none,ver⟩:=⟨_,by rw [push_get,if_neg (by simp only [put_next,push_next]; omega),put_get,if_pos rfl]; rfl⟩
  have gf5 : ∃ ver,((((σ3.put (σ2.next + 1) (.loop .exhausted none 90 ((List.range 12).map f1) gg 12 43 [14,15] c90_0a c90_0b σ2.next) none).push (.cells [.int .i64 0] TI) none).put σ3.next (.cells [.int .i64 0] TI) none).push (.cells [.slice none 0 0] 22) none).heap.get (σ3.next + 1) = some ⟨.cells [.slice none 0 0] 22,false,none,ver⟩:=⟨_,by rw [push_get,if_pos (by simp only [put_next,push_next])]⟩
  have n5 : ((((σ3.put (σ2.next + 1) (.loop .exhausted none 90 ((List.range 12).map f1) gg 12 43 [14,15] c90_0a c90_0b σ2.next) none).push (.cells [.int .i64 0] TI) none).put σ3.next (.cells [.int .i64 0] TI) none).push (.cells [.slice none 0 0] 22) none).next = σ3.next + 2:=rfl
  generalize FState.push (FState.put _ _ _ _) _ _ = σ5 at hw5 x5 g5 gm5 gf5 n5 ⊢
  generalize hff : upd _ 9 _ = f2
  have r2 : f2 2 = .pointer (some ⟨σ.next,0,none⟩):=by rw [← hff]; simp -implicitDefEqProofs only [upd_go,kept_go,↓reduceIte,Nat.reduceEqDiff,Nat.reduceLT,reduceCtorEq,q2]
  have r5 : f2 5 = .pointer (some ⟨σ.next + 2,0,none⟩):=by rw [← hff]; simp -implicitDefEqProofs only [upd_go,kept_go,↓reduceIte,Nat.reduceEqDiff,Nat.reduceLT,reduceCtorEq,q5]
  have r8 : f2 8 = .pointer (some ⟨σ3.next,0,none⟩):=by rw [← hff]; simp -implicitDefEqProofs only [upd_go,kept_go,↓reduceIte,Nat.reduceEqDiff,Nat.reduceLT,reduceCtorEq]
  have r9 : f2 9 = .pointer (some ⟨σ3.next + 1,0,none⟩):=by rw [← hff]; simp -implicitDefEqProofs only [upd_go,kept_go,↓reduceIte,Nat.reduceEqDiff,Nat.reduceLT,reduceCtorEq]
  clear hff
  have k5 : ∀ b cs,b < σ3.next → b ≠ σ2.next + 1 → σ3.cells b = some cs → σ5.cells b = some cs:=fun b cs hb hne hc => by
    rw [cells_get,g5 b hb hne,← cells_get]; exact hc
  have ca5 : σ5.cells σ.next = some lv:=k5 _ _ (by omega) (by omega) ha3
  obtain ⟨σ6,d1,d2,e6,x6,hw6,hd1,hd2,cd2,cd1⟩:=walkD_go (M + 2) lv h4 σ5 hw5
  have n6:=x6.next
  have k6 : ∀ b cs,b < σ3.next → b ≠ σ2.next + 1 → σ3.cells b = some cs → σ6.cells b = some cs:=fun b cs hb hne hc => (x6.cells (by omega)).trans (k5 b cs hb hne hc)
  obtain ⟨vm,gm5⟩:=gm5
  obtain ⟨vf,gf5⟩:=gf5
  simp -implicitDefEqProofs only [go_sem,↓reduceIte,Nat.reduceLT,Nat.reduceEqDiff,Nat.reduceAdd,Nat.reduceMul,Nat.reduceLeDiff,Nat.reduceSub,r90_7_go,r90_7U,r2,ca5,h4,ht,e6,Nat.le_refl]
  refine ⟨_,_,f2,_,σ2.next,σ6,d1,d2,bv,σ3.next,σ3.next + 1,_,rfl,r5,r8,r9,by simp -implicitDefEqProofs only [upd_go,kept_go,↓reduceIte,Nat.reduceEqDiff,Nat.reduceLT,reduceCtorEq],x5.trans x6,hw6,cd2,cd1,⟨v6,((x6.get _ (by omega)).trans (g5 _ (by omega) (by omega))).trans h7⟩,by omega,by omega,hbvn,by omega,by omega,by omega,by omega,⟨vm,(x6.get _ (by omega)).trans gm5⟩,⟨vf,(x6.get _ (by omega)).trans gf5⟩,k6 _ _ (by omega) (by omega) hcm,.inr ⟨bv,cs,ver,rfl,((x6.get _ (by omega)).trans (g5 _ (by omega) (by omega))).trans hbv,rfl,hRow.keep fun b c hb hc => ⟨k6 b c (by omega) (by omega) hc,hb⟩⟩⟩
end Go.Proofs.YtodkeaoikjjneaaGreatDoor
/- package guard: work that fails. -/
namespace Go.Eng
open Go
section
variable (P : Program) (E : Env) (ro : Option Nat) (rs : List ResultVar) (dst : Option Tmp) (k : RunF) (a : FAct) (u : Option FrameMode) (σ s : FState) (ch : List PanicEntry)
theorem fpanic_iface (t : TypeId) (v : Value) : fpanic (.iface t v) σ = .panic (.iface t v) σ:=rfl
theorem after_panic (v : Value) : afterOp E ro dst a u k (.panic v s) = .done (.panic [{ v,recovered:=false }]) a u s:=rfl
theorem after_pan (u' : Option FrameMode) : afterCall a dst u k (.pan ch u' s) = .done (.panic ch) a u s:=rfl
theorem leaveR_panic : leaveR P E rs (.done (.panic ch) a u σ) = fleave P E rs a u a.defers (.panicking ch) σ:=rfl
theorem fleave_fnP (f : FuncId) (cap args : Array Value) (ds : List Deferred) : fleave P E rs a u ({ target:=.fn (.func f) cap,args:=args } :: ds) (.panicking ch) σ =
    (match E.call f (args.toList ++ cap.toList) (some (.panicking ch)) σ with
     | .ret _ (some md') σ => fleave P E rs a u ds (unrecovered md') σ
     | .pan ch (some md') σ => fleave P E rs a u ds (raised md' ch) σ
     | _ => .no):=rfl
theorem after_recoverP (v : Value) : afterOp E none dst a (some (.panicking [{ v,recovered:=false }])) k (.recover σ) = k (a.put dst v) (some (.panicking [{ v,recovered:=true }])) σ:=rfl
theorem unrecovered_once (v : Value) : unrecovered (.panicking [{ v,recovered:=true }]) = .returning:=rfl
end
end Go.Eng
namespace Go.Proofs.YtodkeaoikjjneaaGreatDoor
open Go Go.Eng
attribute [local congr] andThen_congr fops_congr fdraw_congr afterOp_congr drawF_congr
attribute [-go_sem] List.range_succ
abbrev failing (c z : Int) : PanicEntry:={ v:=.iface 166 (.agg #[.int .i64 c,.int .i64 z]),recovered:=false }
abbrev failed (c z : Int) : PanicEntry:={ v:=.iface 166 (.agg #[.int .i64 c,.int .i64 z]),recovered:=true }
theorem failAt (n : Nat) (c z : Int) (σ : FState) : (env (n + 1)).call 131 [.int .i64 c,.int .i64 z] none σ = .pan [failing c z] none σ:=by
  rw [env_call _ 131 _ _ rfl,enter131 _ _ _ _ (by simp),Sl_start]
  unfold run131
  simp -implicitDefEqProofs only [go_sem,↓reduceIte,Nat.reduceLT,Nat.reduceEqDiff,Nat.reduceAdd,Nat.reduceMul,Nat.reduceLeDiff,Nat.reduceSub,r131_0_go,r131_0U,Option.getD_some,List.getElem?_cons_zero,List.getElem?_cons_succ,fpanic_iface,after_panic,leaveR_panic,fleave_pan]
theorem fails (n : Nat) (c : Int) (σ : FState) : (env (n + 2)).call 104 [.int .i64 c] none σ = .pan [failing c 0] none σ:=by
  rw [env_call _ 104 _ _ rfl,enter104 _ _ _ _ (by simp),Sl_start]
  unfold run104
  simp -implicitDefEqProofs only [go_sem,↓reduceIte,Nat.reduceLT,Nat.reduceEqDiff,Nat.reduceAdd,Nat.reduceMul,Nat.reduceLeDiff,Nat.reduceSub,r104_0_go,r104_0U,Option.getD_some,List.getElem?_cons_zero,failAt,after_pan,leaveR_panic,fleave_pan]
end Go.Proofs.YtodkeaoikjjneaaGreatDoor
/- package guard: work that fails, and the error of it, for calls that return a path. -/
namespace Go.Proofs.YtodkeaoikjjneaaGreatDoor
open Go Go.Eng
attribute [local congr] andThen_congr fops_congr fdraw_congr afterOp_congr drawF_congr
attribute [-go_sem] List.range_succ
theorem aggFailure : aggSize Tryz.prog 166 = some (some 2):=by kernel_rfl
theorem failureOf_failing (n : Nat) (c z : Int) (σ : FState) (hw : Wf σ) :
    Gives ((env (n + 2)).call 126 [.iface 166 (.agg #[.int .i64 c,.int .i64 z])] none σ) σ fun v _ => v = .agg #[.int .i64 c,.int .i64 z]:=by
  rw [env_call _ 126 _ _ rfl,enter126 _ _ _ _ (by simp),Sl_start]
  unfold run126
  have hw1:=(hw.push (.cells [.int .i64 0,.int .i64 0] 166) none).push (.cells [.int .i64 0,.int .i64 0] 166) none
  have hX1 : Ext σ ((σ.push (.cells [.int .i64 0,.int .i64 0] 166) none).push (.cells [.int .i64 0,.int .i64 0] 166) none):=((Ext.refl _).push _ _).push _ _
  have e1:=env_as n (.int .i64 c) (.int .i64 z) (.pointer (some ⟨σ.next + 1,0,none⟩)) ((σ.push (.cells [.int .i64 0,.int .i64 0] 166) none).push (.cells [.int .i64 0,.int .i64 0] 166) none)
    (((σ.push (.cells [.int .i64 0,.int .i64 0] 166) none).push (.cells [.int .i64 0,.int .i64 0] 166) none).put (σ.next + 1) (.cells [.int .i64 c,.int .i64 z] 166) none) (by
      simp -implicitDefEqProofs only [go_sem,↓reduceIte,Nat.reduceLT,Nat.reduceEqDiff,Nat.reduceAdd,Nat.reduceMul,Nat.reduceLeDiff,Nat.reduceSub,fstoreN])
  simp -implicitDefEqProofs only [go_sem,↓reduceIte,Nat.reduceLT,Nat.reduceEqDiff,Nat.reduceAdd,Nat.reduceMul,Nat.reduceLeDiff,Nat.reduceSub,fstoreN,r126_0_go,r126_0U,r126_1_go,r126_1U,r126_2_go,r126_2U,r126_4_go,r126_4U,Option.getD_some,List.getElem?_cons_zero,e1,aggFailure,skipR_go,fleave_nil,fresults_nil,fresults_cons,fresult_cell]
  refine ⟨_,_,rfl,(hX1.put _ _ _ (Nat.le_add_right _ _)).put _ _ _ (Nat.le_refl _),?_,rfl⟩
  exact (hw1.put _ _ _ (by simp only [push_next]; omega)).put _ _ _ (by simp only [put_next,push_next]; omega)
theorem errAny (v : Value) (x : Nat) (σ : FState) : i_eql Tryz.prog 20 (.tmp x) (.const .nilIface) (.iface 166 v) .nilIface σ = .val (.bool false) σ:=by kernel_rfl
theorem errAssert (v : Value) (σ : FState) : fassert Tryz.prog (.iface 166 v) 164 true σ = .val (.tuple #[.iface 166 v,.bool true]) σ:=by kernel_rfl
theorem deferredFails (n b1 b2 : Nat) (c z x1 x2 : Int) (v1 v2 : Nat) (σ : FState) (hw : Wf σ) (hne : b1 ≠ b2) (g1 : σ.heap.get b1 = some ⟨.cells [.int .i64 x1] 3,false,none,v1⟩) (g2 : σ.heap.get b2 = some ⟨.cells [.int .i64 x2] 32,false,none,v2⟩) :
    ∃ σ1,Ext σ σ1 ∧ Wf σ1 ∧ (env (n + 3)).call 141 [.pointer (some ⟨b1,0,none⟩),.pointer (some ⟨b2,0,none⟩)] (some (.panicking [failing c z])) σ =
      .ret (.tuple #[]) (some (.panicking [failed c z])) ((σ1.put b1 (.cells [.int .i64 z] 3) none).put b2 (.cells [.int .i64 c] 32) none):=by
  rw [env_defer,enter141 _ _ _ _ (by simp),Sl_start]
  unfold run141
  obtain ⟨_,σ2,e2,hX2,hw2,rfl⟩:=failureOf_failing n c z σ hw
  have m1:=(hw _ _ g1).1
  have m2:=(hw _ _ g2).1
  have k1 : σ2.heap.get b1 = _:=(hX2.get b1 m1).trans g1
  have k2 : σ2.heap.get b2 = _:=(hX2.get b2 m2).trans g2
  have l1 : σ2.next ≠ b1:=by have:=hX2.next; omega
  have l2 : σ2.next ≠ b2:=by have:=hX2.next; omega
  have w4 : Wf ((σ2.push (.cells [.int .i64 0,.int .i64 0] 166) none).put σ2.next (.cells [.int .i64 c,.int .i64 z] 166) none):=(hw2.push (.cells [.int .i64 0,.int .i64 0] 166) none).put _ _ _ (by simp only [push_next]; omega)
  have hv4:=view_wf (lam:=σ2.clock + 2) w4 (Nat.le_refl _)
  simp -implicitDefEqProofs only [go_sem,↓reduceIte,Nat.reduceLT,Nat.reduceEqDiff,Nat.reduceAdd,Nat.reduceMul,Nat.reduceLeDiff,Nat.reduceSub,view_put,hv4,fstoreN,r141_0_go,r141_0U,r141_3_go,r141_3U,r141_5_go,r141_5U,r141_6_go,r141_6U,r141_7_go,r141_7U,r141_8_go,r141_8U,Option.getD_some,List.getElem?_cons_zero,List.getElem?_cons_succ,after_recoverP,errAny,errAssert,e2,k1,k2,l1,l2,l1.symm,l2.symm,hne,hne.symm,fleave_nil,fresults_nil]
  refine ⟨_,(hX2.push _ _).put _ _ _ hX2.next,w4,rfl⟩
def Fails (r : CRes) (σ : FState) (c z : Int) : Prop:=∃ σ',r = .pan [failing c z] none σ' ∧ Ext σ σ' ∧ Wf σ'
theorem callAtFails (n w : Nat) (cap : Array Value) (c z : Int) (σ : FState) (hw : Wf σ) (h : ∀ σ',Ext σ σ' → Wf σ' → Fails ((env (n + 3)).call w cap.toList none σ') σ' c z) :
    Gives ((env (n + 4)).call 117 [.func (.func w) #[] cap] none σ) σ fun v _ => v = .tuple #[.slice none 0 0,.int .i64 z,.int .i64 c]:=by
  rw [env_call _ 117 _ _ rfl,enter117 _ _ _ _ (by simp),Sl_start]
  unfold run117
  have hX1 : Ext σ ((σ.push (.cells [.int .i64 0] 3) none).push (.cells [.int .i64 0] 32) none):=((Ext.refl _).push _ _).push _ _
  have hw1:=(hw.push (.cells [.int .i64 0] 3) none).push (.cells [.int .i64 0] 32) none
  obtain ⟨σ2,e2,hX2,hw2⟩:=h _ hX1 hw1
  have g1 : σ2.heap.get σ.next = _:=(hX2.get σ.next (by simp only [push_next]; omega)).trans (by simp -implicitDefEqProofs only [push_get,push_next,Nat.add_assoc,Nat.reduceAdd,Nat.left_eq_add,reduceCtorEq,↓reduceIte,Nat.reduceEqDiff] <;> rfl)
  have g2 : σ2.heap.get (σ.next + 1) = _:=(hX2.get (σ.next + 1) (by simp only [push_next]; omega)).trans (by simp -implicitDefEqProofs only [push_get,push_next,Nat.add_assoc,Nat.reduceAdd,Nat.add_left_cancel_iff,reduceCtorEq,↓reduceIte,Nat.reduceEqDiff] <;> rfl)
  obtain ⟨σ3,hX3,hw3,e3⟩:=deferredFails n σ.next (σ.next + 1) c z 0 0 _ _ σ2 hw2 (by omega) g1 g2
  have m1:=(hw2 _ _ g1).1
  have m2:=(hw2 _ _ g2).1
  simp -implicitDefEqProofs only [go_sem,↓reduceIte,Nat.reduceLT,Nat.reduceEqDiff,Nat.reduceAdd,Nat.reduceMul,Nat.reduceLeDiff,Nat.reduceSub,fstoreN,r117_0_go,r117_0U,r117_1_go,r117_1U,r117_2_go,r117_2U,Option.getD_some,e2,after_pan,andThen_panic,leaveR_panic,fleave_fnP,e3,unrecovered_once,aggInt,aggErrno,fleave_nil,fresults_nil,fresults_cons,fresult_cell,fresult_tmp]
  have hn3:=hX3.next
  refine ⟨_,_,rfl,?_,?_,rfl⟩
  · exact (((hX1.trans hX2).trans hX3).put σ.next _ _ (Nat.le_refl _)).put (σ.next + 1) _ _ (Nat.le_add_right _ _)
  · exact (hw3.put σ.next _ _ (by omega)).put (σ.next + 1) _ _ (by simp only [put_next]; omega)
theorem callFails (n w : Nat) (cap : Array Value) (c z : Int) (σ : FState) (hw : Wf σ) (h : ∀ σ',Ext σ σ' → Wf σ' → Fails ((env (n + 3)).call w cap.toList none σ') σ' c z) :
    Gives ((env (n + 5)).call 88 [.func (.func w) #[] cap] none σ) σ fun v _ => v = .tuple #[.slice none 0 0,.int .i64 c]:=by
  rw [env_call _ 88 _ _ rfl,enter88 _ _ _ _ (by simp),Sl_start]
  unfold run88
  obtain ⟨_,σ2,e2,hX2,hw2,rfl⟩:=callAtFails n w cap c z σ hw h
  simp -implicitDefEqProofs only [go_sem,↓reduceIte,Nat.reduceLT,Nat.reduceEqDiff,Nat.reduceAdd,Nat.reduceMul,Nat.reduceLeDiff,Nat.reduceSub,r88_0_go,r88_0U,r88_1_go,r88_1U,r88_2_go,r88_2U,Option.getD_some,e2,fleave_nil,fresults_nil,fresults_cons,fresult_tmp,List.getElem?_cons_zero,List.getElem?_cons_succ]
  exact ⟨_,_,rfl,hX2,hw2,rfl⟩
end Go.Proofs.YtodkeaoikjjneaaGreatDoor
/- package datum's difference, whole. -/
namespace Go.Proofs.YtodkeaoikjjneaaGreatDoor
open Go Go.Eng
attribute [local congr] andThen_congr fops_congr fdraw_congr afterOp_congr drawF_congr
attribute [-go_sem] List.range_succ
theorem fleave_collectedP (P : Program) (E : Env) (rs : List ResultVar) (a : FAct) (u : Option FrameMode) (σ : FState) (ch : List PanicEntry) (r : Nat) (args : Array Value) (ds : List Deferred) (ver : Nat) (h : σ.heap.get r = some ⟨.defd true,false,none,ver⟩) :
    fleave P E rs a u ({ target:=.collected r,args:=args } :: ds) (.panicking ch) σ = fleave P E rs a u ds (.panicking ch) (σ.put r (.defd false) none):=by
  show (cond (isRun (.panicking ch)) CRes.no (match σ.heap.get r with | some e => (match e.obj with | .defd true => cond e.ro CRes.no (fleave P E rs a u ds (.panicking ch) (σ.put r (.defd false) none)) | _ => .no) | none => .no)) = _
  rw [h]
  rfl
theorem difference_same (M : Nat) (d e : D) (lv mv : List Value) (h4 : lv.length = 4) (hm4 : mv.length = 4) (σ : FState) (hw : Wf σ) (hL : LaidR (fun b => b < σ.next) σ (.agg lv.toArray) d) (hLe : LaidR (fun b => b < σ.next) σ (.agg mv.toArray) e)
    (hS : Small (e.pieces [])) (hN : (e.pieces []).length < 900) (hS' : Small (d.pieces [])) (hlen : (d.pieces []).length = (e.pieces []).length)
    (hlike : ∀ (i : Nat) (x : List Nat × D),(d.pieces [])[i]? = some x → ∃ y,((e.pieces []).map (·.2))[i]? = some y ∧ likeD x.2 y = true) :
    Fails ((env (M + 5)).call 90 [.agg lv.toArray,.agg mv.toArray] none σ) σ 10 0:=by
  obtain ⟨find,again,f,g,r1,σ6,b1,b2,bv,mb,fb,s,ecall,h5,h8,h9,h23,x6,hw6,cb2,cb1,⟨vr,hr1⟩,o1,o2,o3,o4,o5,o6,o7,⟨vm,gm⟩,⟨vf,gf⟩,hcm,hV⟩:=difference_begin M d e lv mv h4 hm4 σ hw hL hLe hS hN
  rw [ecall]
  have hL6 : LaidR (fun b => b < σ.next) σ6 (.agg lv.toArray) d:=hL.keep fun b cs hb hc => ⟨(x6.cells (hw.cells hc)).trans hc,hb⟩
  have n6:=x6.next
  have hes : ((e.pieces []).map (·.2)).length < 1000:=by rw [List.length_map]; omega
  have y6 : Ext σ6 ((σ6.push (.defd true) none).push (.loop .ready none 90 ((List.range 12).map f) g 12 43 [24,25] c90_1a c90_1b σ6.next) none):=((Ext.refl _).push _ _).push _ _
  have hB:=cmp_body M (σ6.next + 1) σ6.next mb fb (σ.next + 2) bv (fun b => b < σ.next) ((e.pieces []).map (·.2)) f g (d.pieces []) (d.pieces []).length ⟨by omega,by omega,by omega,by omega,by omega⟩ h5 h8 (fun b hb => by omega) hes (fun (i : Nat) (x : List Nat × D) _ hx => hlike i x hx)
  have hbv6 : bv < σ6.next:=by omega
  obtain ⟨σ7,B7,e7,ch7,n7,hB7,hw7,i7⟩:=range_walk (M + 3) 90 [24,25] c90_1a c90_1b 12 43 f g [{ target:=.collected r1,args:=#[] }] none 23 b1 b2 σ6 (.func (.func 135) #[] #[]) (fun b => b < σ.next) d lv (CmpI (σ6.next + 1) σ6.next mb fb (σ.next + 2) bv (fun b => b < σ.next) ((e.pieces []).map (·.2)) f g) (fun b => b = σ6.next + 1 ∨ b = σ6.next ∨ b = mb ∨ b = fb ∨ b = σ.next + 2 ∨ b = bv)
    ⟨hB.stays,hB.own,hB.inside,fun done path d rest B σ pv v hall => hB.go done path d rest B σ pv v (by rw [hall]; simp) hall⟩ hS' (by omega)
    (fun done B σ' ⟨h6,_,_,h7,_⟩ => ⟨h6,h7⟩)
    ⟨loop_made ..,fun b hb => hb,fun b hb => ⟨by simp only [push_next]; omega,by omega⟩,⟨_,by rw [push_get,if_neg (by rw [push_next]; omega),push_get,if_pos rfl]⟩,⟨vm,(y6.get _ (by omega)).trans gm⟩,⟨_,vf,(y6.get _ (by omega)).trans gf,rfl⟩,s,(y6.cells (by omega)).trans hcm,hV.keep (fun b e hb he => ⟨(y6.get _ (by omega)).trans he,hb⟩) fun b c hb hc => ⟨(y6.cells (by omega)).trans hc,hb⟩⟩
    (by rw [Sl_get]; exact h23) hw6 cb1 (fun h => by have:=hw6.cells cb1; omega) hL6 (fun b hb => by omega) cb2 (fun h => by have:=hw6.cells cb2; omega)
  rw [e7]
  obtain ⟨h6',h1,h2,⟨v3,h3⟩,⟨v4,h4'⟩,⟨w,v5,h5',rfl⟩,s',hs',hV'⟩:=i7
  obtain ⟨p0,hs0,_⟩:=hV'.slice
  subst hs0
  have n7':=ch7.next
  unfold restDI
  have cmb : ∀ o : FObj,(σ7.put (σ6.next + 1) o none).cells mb = some [.int .i64 (.ofNat (d.pieces []).length)]:=fun o => by rw [cells_put,if_neg (by omega)]; exact cells_of_get h4'
  have ccm : ∀ o : FObj,(σ7.put (σ6.next + 1) o none).cells (σ.next + 2) = some [.slice p0 (e.pieces []).length (e.pieces []).length]:=fun o => by rw [cells_put,if_neg (by omega),hs',List.length_map]
  have heq : (Int.ofNat (e.pieces []).length == Int.ofNat (e.pieces []).length) = true:=by simp
  rw [hlen] at cmb
  have ef:=fun σ => fails (M + 2) 10 σ
  have hr2 : ∀ o : FObj,(σ7.put (σ6.next + 1) o none).heap.get σ6.next = some ⟨.defd true,false,none,v3⟩:=fun o => by rw [put_get,if_neg (by omega)]; exact h3
  have hr1' : ∀ o o' : FObj,((σ7.put (σ6.next + 1) o none).put σ6.next o' none).heap.get r1 = some ⟨.defd true,false,none,vr⟩:=fun o o' => by
    rw [put_get,if_neg (by omega),put_get,if_neg (by omega),ch7.get r1 (by omega) (by omega)]; exact hr1
  simp -implicitDefEqProofs only [go_sem,↓reduceIte,Nat.reduceLT,Nat.reduceEqDiff,Nat.reduceAdd,Nat.reduceMul,Nat.reduceLeDiff,Nat.reduceSub,r90_13_go,r90_13U,r90_14_go,r90_14U,h5,h8,cmb,ccm,heq,ef,after_pan,andThen_panic,scopeK_panic,leaveR_panic]
  rw [fleave_collectedP _ _ _ _ _ _ _ _ _ _ _ (hr2 _),fleave_collectedP _ _ _ _ _ _ _ _ _ _ _ (hr1' _ _),fleave_pan]
  have x7 : Ext σ σ7:=((x6.chg (fun b => σ.next ≤ b)).trans ch7 fun b hb h => by omega).ext fun b hb h => by omega
  exact ⟨_,rfl,((x7.put _ _ _ (by omega)).put _ _ _ (by omega)).put _ _ _ (by omega),((hw7.put _ _ _ (by omega)).put _ _ _ (by rw [put_next]; omega)).put _ _ _ (by rw [put_next,put_next]; omega)⟩
theorem difference_apart (M : Nat) (d e : D) (lv mv : List Value) (h4 : lv.length = 4) (hm4 : mv.length = 4) (σ : FState) (hw : Wf σ) (hL : LaidR (fun b => b < σ.next) σ (.agg lv.toArray) d) (hLe : LaidR (fun b => b < σ.next) σ (.agg mv.toArray) e)
    (hS : Small (e.pieces [])) (hN : (e.pieces []).length < 900) (hS' : Small (d.pieces [])) (hN' : (d.pieces []).length < 900) (pre rest : List (List Nat × D)) (path : List Nat) (x y : D) (hsplit : d.pieces [] = pre ++ (path,x) :: rest) (hy : ((e.pieces []).map (·.2))[pre.length]? = some y) (hxy : likeD x y = false)
    (hlike : ∀ (i : Nat) (x : List Nat × D),i < pre.length → (d.pieces [])[i]? = some x → ∃ y,((e.pieces []).map (·.2))[i]? = some y ∧ likeD x.2 y = true) :
    Gives ((env (M + 5)).call 90 [.agg lv.toArray,.agg mv.toArray] none σ) σ fun w σ' => PathV (fun b => σ.next ≤ b) σ' w path:=by
  obtain ⟨find,again,f,g,r1,σ6,b1,b2,bv,mb,fb,s,ecall,h5,h8,h9,h23,x6,hw6,cb2,cb1,⟨vr,hr1⟩,o1,o2,o3,o4,o5,o6,o7,⟨vm,gm⟩,⟨vf,gf⟩,hcm,hV⟩:=difference_begin M d e lv mv h4 hm4 σ hw hL hLe hS hN
  rw [ecall]
  have hL6 : LaidR (fun b => b < σ.next) σ6 (.agg lv.toArray) d:=hL.keep fun b cs hb hc => ⟨(x6.cells (hw.cells hc)).trans hc,hb⟩
  have n6:=x6.next
  have hes : ((e.pieces []).map (·.2)).length < 1000:=by rw [List.length_map]; omega
  have hpl : pre.length < (e.pieces []).length:=by have:=(List.getElem?_eq_some_iff.1 hy).1; rwa [List.length_map] at this
  have y6 : Ext σ6 ((σ6.push (.defd true) none).push (.loop .ready none 90 ((List.range 12).map f) g 12 43 [24,25] c90_1a c90_1b σ6.next) none):=((Ext.refl _).push _ _).push _ _
  have hB:=cmp_body M (σ6.next + 1) σ6.next mb fb (σ.next + 2) bv (fun b => b < σ.next) ((e.pieces []).map (·.2)) f g (d.pieces []) pre.length ⟨by omega,by omega,by omega,by omega,by omega⟩ h5 h8 (fun b hb => by omega) hes hlike
  have hst:=cmp_stop M (σ6.next + 1) σ6.next mb fb (σ.next + 2) bv (fun b => b < σ.next) ((e.pieces []).map (·.2)) f g pre path x y ⟨by omega,by omega,by omega,by omega,by omega⟩ h5 h8 h9 (fun b hb => by omega) hes (by have:=(hS' (path,x) (by rw [hsplit]; simp)).1; simp at this; omega) hy hxy
  obtain ⟨σ7,B7,e7,ch7,n7,hB7,hw7,i7⟩:=range_walk_stop 2 (M + 3) 90 [24,25] c90_1a c90_1b 12 43 f g [{ target:=.collected r1,args:=#[] }] none 23 b1 b2 σ6 (.func (.func 135) #[] #[]) (fun b => b < σ.next) d lv (CmpI (σ6.next + 1) σ6.next mb fb (σ.next + 2) bv (fun b => b < σ.next) ((e.pieces []).map (·.2)) f g) (fun b => b = σ6.next + 1 ∨ b = σ6.next ∨ b = mb ∨ b = fb ∨ b = σ.next + 2 ∨ b = bv)
    hB hst hsplit hS' (by omega)
    (fun B σ' h => h.1)
    ⟨loop_made ..,fun b hb => hb,fun b hb => ⟨by simp only [push_next]; omega,by omega⟩,⟨_,by rw [push_get,if_neg (by rw [push_next]; omega),push_get,if_pos rfl]⟩,⟨vm,(y6.get _ (by omega)).trans gm⟩,⟨_,vf,(y6.get _ (by omega)).trans gf,rfl⟩,s,(y6.cells (by omega)).trans hcm,hV.keep (fun b e hb he => ⟨(y6.get _ (by omega)).trans he,hb⟩) fun b c hb hc => ⟨(y6.cells (by omega)).trans hc,hb⟩⟩
    (by rw [Sl_get]; exact h23) hw6 cb1 (fun h => by have:=hw6.cells cb1; omega) hL6 (fun b hb => by omega) cb2 (fun h => by have:=hw6.cells cb2; omega)
  rw [e7]
  obtain ⟨h6',h1,h2,⟨v3,h3⟩,⟨v4,h4'⟩,⟨w,v5,h5',hP⟩,s',hs',hV'⟩:=i7
  obtain ⟨p0,hs0,_⟩:=hV'.slice
  subst hs0
  have n7':=ch7.next
  unfold restDI
  have cmb : ∀ o : FObj,(σ7.put (σ6.next + 1) o none).cells mb = some [.int .i64 (.ofNat pre.length)]:=fun o => by rw [cells_put,if_neg (by omega)]; exact cells_of_get h4'
  have cfb : ∀ o : FObj,(σ7.put (σ6.next + 1) o none).cells fb = some [w]:=fun o => by rw [cells_put,if_neg (by omega)]; exact cells_of_get h5'
  have ccm : ∀ o : FObj,(σ7.put (σ6.next + 1) o none).cells (σ.next + 2) = some [.slice p0 (e.pieces []).length (e.pieces []).length]:=fun o => by rw [cells_put,if_neg (by omega),hs',List.length_map]
  have heq : (Int.ofNat pre.length == Int.ofNat (e.pieces []).length) = false:=by simp; omega
  have hr2 : ∀ o : FObj,(σ7.put (σ6.next + 1) o none).heap.get σ6.next = some ⟨.defd true,false,none,v3⟩:=fun o => by rw [put_get,if_neg (by omega)]; exact h3
  have hr1' : ∀ o o' : FObj,((σ7.put (σ6.next + 1) o none).put σ6.next o' none).heap.get r1 = some ⟨.defd true,false,none,vr⟩:=fun o o' => by
    rw [put_get,if_neg (by omega),put_get,if_neg (by omega),ch7.get r1 (by omega) (by omega)]; exact hr1
  simp -implicitDefEqProofs only [go_sem,↓reduceIte,Nat.reduceLT,Nat.reduceEqDiff,Nat.reduceAdd,Nat.reduceMul,Nat.reduceLeDiff,Nat.reduceSub,r90_13_go,r90_13U,r90_15_go,r90_15U,skipR_go,h5,h8,h9,cmb,ccm,cfb,heq,scopeK_ret]
  rw [fleave_collected _ _ _ _ _ _ _ _ _ _ (hr2 _),fleave_collected _ _ _ _ _ _ _ _ _ _ (hr1' _ _)]
  simp -implicitDefEqProofs only [go_sem,↓reduceIte,Nat.reduceLT,Nat.reduceEqDiff,Nat.reduceAdd,Nat.reduceMul,Nat.reduceLeDiff,Nat.reduceSub]
  have x7 : Ext σ σ7:=((x6.chg (fun b => σ.next ≤ b)).trans ch7 fun b hb h => by omega).ext fun b hb h => by omega
  exact ⟨_,_,rfl,((x7.put _ _ _ (by omega)).put _ _ _ (by omega)).put _ _ _ (by omega),((hw7.put _ _ _ (by omega)).put _ _ _ (by rw [put_next]; omega)).put _ _ _ (by rw [put_next,put_next]; omega),hP.keep fun b c hb hc => ⟨by rw [cells_put,if_neg (by omega),cells_put,if_neg (by omega),cells_put,if_neg (by omega)]; exact hc,by omega⟩⟩
end Go.Proofs.YtodkeaoikjjneaaGreatDoor
/- datum.Differ. -/
namespace Go.Proofs.YtodkeaoikjjneaaGreatDoor
open Go Go.Eng
attribute [local congr] andThen_congr fops_congr fdraw_congr afterOp_congr drawF_congr
attribute [-go_sem] List.range_succ
theorem deferredAtI (n : Nat) (p q : Value) (σ : FState) : (env (n + 1)).call 141 [p,q] (some .returning) σ = .ret (.tuple #[]) (some .returning) σ:=by
  rw [env_defer,enter141 _ _ _ _ (by simp),Sl_start]
  unfold run141
  simp -implicitDefEqProofs only [go_sem,↓reduceIte,Nat.reduceLT,Nat.reduceEqDiff,Nat.reduceAdd,Nat.reduceMul,Nat.reduceLeDiff,Nat.reduceSub,r141_0_go,r141_0U,r141_3_go,r141_3U,r141_4_go,r141_4U,nilAny]
theorem callAtI (n w : Nat) (cap : Array Value) {Q : Nat → Value → FState → Prop} (hQ : Stays Q) (hone : ∀ base v σ,Q base v σ → oneCell v = true ∧ notTuple v = true ∧ valCells v = [v]) (σ : FState) (hw : Wf σ)
    (h : ∀ σ',Ext σ σ' → Wf σ' → Gives ((env (n + 1)).call w cap.toList none σ') σ' (Q σ'.next)) :
    Gives ((env (n + 2)).call 117 [.func (.func w) #[] cap] none σ) σ fun v σ' => ∃ u,v = .tuple #[u,.int .i64 0,.int .i64 0] ∧ Q σ.next u σ':=by
  rw [env_call _ 117 _ _ rfl,enter117 _ _ _ _ (by simp),Sl_start]
  unfold run117
  have hX1 : Ext σ ((σ.push (.cells [.int .i64 0] 3) none).push (.cells [.int .i64 0] 32) none):=((Ext.refl _).push _ _).push _ _
  have hw1:=(hw.push (.cells [.int .i64 0] 3) none).push (.cells [.int .i64 0] 32) none
  obtain ⟨u,σ2,e2,hX2,hw2,hq⟩:=h _ hX1 hw1
  have g1 : σ2.heap.get σ.next = _:=(hX2.get σ.next (by simp only [push_next]; omega)).trans (by simp -implicitDefEqProofs only [push_get,push_next,Nat.add_assoc,Nat.reduceAdd,Nat.left_eq_add,reduceCtorEq,↓reduceIte,Nat.reduceEqDiff] <;> rfl)
  have g2 : σ2.heap.get (σ.next + 1) = _:=(hX2.get (σ.next + 1) (by simp only [push_next]; omega)).trans (by simp -implicitDefEqProofs only [push_get,push_next,Nat.add_assoc,Nat.reduceAdd,Nat.add_left_cancel_iff,reduceCtorEq,↓reduceIte,Nat.reduceEqDiff] <;> rfl)
  obtain ⟨o1,o2,o3⟩:=hone _ _ _ hq
  simp -implicitDefEqProofs only [go_sem,↓reduceIte,Nat.reduceLT,Nat.reduceEqDiff,Nat.reduceAdd,Nat.reduceMul,Nat.reduceLeDiff,Nat.reduceSub,r117_0_go,r117_0U,r117_1_go,r117_1U,r117_2_go,r117_2U,Option.getD_some,e2,g1,g2,aggInt,aggErrno,deferredAtI,fleave_nil,fresults_nil,fresults_cons,fresult_cell,fresult_tmp,o1,o2,o3]
  have m1:=(hw2 _ _ g1).1
  have m2:=(hw2 _ _ g2).1
  exact ⟨_,_,rfl,((hX1.trans hX2).put _ _ _ (Nat.le_refl _)).put _ _ _ (Nat.le_add_right _ _),(hw2.put _ _ _ m1).put _ _ _ m2,_,rfl,hQ.keep _ _ _ _ _ hq hw2 (by simp only [push_next]; omega) fun b hb _ => by
    simp only [push_next] at hb
    rw [put_get,if_neg (by omega),put_get,if_neg (by omega)]⟩
theorem callI (n w : Nat) (cap : Array Value) {Q : Nat → Value → FState → Prop} (hQ : Stays Q) (hone : ∀ base v σ,Q base v σ → oneCell v = true ∧ notTuple v = true ∧ valCells v = [v]) (σ : FState) (hw : Wf σ)
    (h : ∀ σ',Ext σ σ' → Wf σ' → Gives ((env (n + 1)).call w cap.toList none σ') σ' (Q σ'.next)) :
    Gives ((env (n + 3)).call 88 [.func (.func w) #[] cap] none σ) σ fun v σ' => ∃ u,v = .tuple #[u,.int .i64 0] ∧ Q σ.next u σ':=by
  rw [env_call _ 88 _ _ rfl,enter88 _ _ _ _ (by simp),Sl_start]
  unfold run88
  obtain ⟨_,σ2,e2,hX2,hw2,u,rfl,hq⟩:=callAtI n w cap hQ hone σ hw h
  obtain ⟨o1,o2,o3⟩:=hone _ _ _ hq
  simp -implicitDefEqProofs only [go_sem,↓reduceIte,Nat.reduceLT,Nat.reduceEqDiff,Nat.reduceAdd,Nat.reduceMul,Nat.reduceLeDiff,Nat.reduceSub,r88_0_go,r88_0U,r88_1_go,r88_1U,r88_2_go,r88_2U,Option.getD_some,e2,fleave_nil,fresults_nil,fresults_cons,fresult_tmp,List.getElem?_cons_zero,o1,o2,o3]
  exact ⟨_,_,rfl,hX2,hw2,u,rfl,hq⟩
theorem pathV_stays (path : List Nat) : Stays (fun base v σ => PathV (fun b => base ≤ b) σ v path):=⟨fun base base' v σ σ' h hw hb hk => h.keep fun b c hb' hc => ⟨by
  have:=hk b hb' (hw.cells hc)
  rw [cells_get] at hc ⊢
  rw [this]; exact hc,by omega⟩⟩
structure Apart (M : Nat) (d : D) : Prop where
  sane : Sane M d
  count : d.count < 900
  deep : d.deep < 1000
theorem Apart.small {M : Nat} {d : D} (h : Apart M d) : Small (d.pieces []):=h.sane.small h.deep
theorem Apart.few {M : Nat} {d : D} (h : Apart M d) : (d.pieces []).length < 900:=by rw [pieces_length]; exact h.count
theorem differ1_same (M : Nat) (d e : D) (hd : Apart M d) (he : Apart M e) (lv mv : List Value) (h4 : lv.length = 4) (hm4 : mv.length = 4) (b1 b2 : Nat) (σ : FState) (hw : Wf σ) (c1 : σ.cells b1 = some lv) (c2 : σ.cells b2 = some mv) (hL : LaidR (fun b => b < σ.next) σ (.agg lv.toArray) d) (hLe : LaidR (fun b => b < σ.next) σ (.agg mv.toArray) e)
    (hlen : (d.pieces []).length = (e.pieces []).length) (hlike : ∀ (i : Nat) (x : List Nat × D),(d.pieces [])[i]? = some x → ∃ y,((e.pieces []).map (·.2))[i]? = some y ∧ likeD x.2 y = true) :
    Fails ((env (M + 6)).call 89 [.pointer (some ⟨b1,0,none⟩),.pointer (some ⟨b2,0,none⟩)] none σ) σ 10 0:=by
  rw [env_call _ 89 _ _ rfl,enter89 _ _ _ _ (by simp),Sl_start]
  unfold run89
  have ht : lv.take 4 = lv:=List.take_of_length_le (by omega)
  have htm : mv.take 4 = mv:=List.take_of_length_le (by omega)
  obtain ⟨_,σ2,e2,x2,hw2,rfl⟩:=validS_go M d hd.sane (by have:=hd.count; omega) hd.deep lv h4 (fun b => b < σ.next) σ hw hL (fun b hb => hb)
  have k2 : ∀ b cs,b < σ.next → σ.cells b = some cs → σ2.cells b = some cs:=fun b cs hb hc => (x2.cells hb).trans hc
  have n2:=x2.next
  obtain ⟨_,σ3,e3,x3,hw3,rfl⟩:=validS_go M e he.sane (by have:=he.count; omega) he.deep mv hm4 (fun b => b < σ.next) σ2 hw2 (hLe.keep fun b cs hb hc => ⟨k2 b cs hb hc,hb⟩) (fun b hb => by omega)
  have n3:=x3.next
  have k3 : ∀ b cs,b < σ.next → σ.cells b = some cs → σ3.cells b = some cs:=fun b cs hb hc => (x3.cells (by omega)).trans (k2 b cs hb hc)
  obtain ⟨σ4,e4,x4,hw4⟩:=difference_same M d e lv mv h4 hm4 σ3 hw3 (hL.keep fun b cs hb hc => ⟨k3 b cs hb hc,by omega⟩) (hLe.keep fun b cs hb hc => ⟨k3 b cs hb hc,by omega⟩) he.small he.few hd.small hlen hlike
  have d1:=k2 _ _ (hw.cells c2) c2
  have d2:=k3 _ _ (hw.cells c1) c1
  have d3:=k3 _ _ (hw.cells c2) c2
  simp -implicitDefEqProofs only [go_sem,↓reduceIte,Nat.reduceLT,Nat.reduceEqDiff,Nat.reduceAdd,Nat.reduceMul,Nat.reduceLeDiff,Nat.reduceSub,r89_0_go,r89_0U,r89_1_go,r89_1U,r89_2_go,r89_2U,r89_3_go,r89_3U,Option.getD_some,List.getElem?_cons_zero,List.getElem?_cons_succ,c1,h4,hm4,ht,htm,e2,d1,e3,d2,d3,e4,Nat.le_refl,after_pan,andThen_panic,leaveR_panic,fleave_pan]
  exact ⟨_,rfl,(x2.trans x3).trans x4,hw4⟩
theorem differ1_apart (M : Nat) (d e : D) (hd : Apart M d) (he : Apart M e) (lv mv : List Value) (h4 : lv.length = 4) (hm4 : mv.length = 4) (b1 b2 : Nat) (σ : FState) (hw : Wf σ) (c1 : σ.cells b1 = some lv) (c2 : σ.cells b2 = some mv) (hL : LaidR (fun b => b < σ.next) σ (.agg lv.toArray) d) (hLe : LaidR (fun b => b < σ.next) σ (.agg mv.toArray) e)
    (pre rest : List (List Nat × D)) (path : List Nat) (x y : D) (hsplit : d.pieces [] = pre ++ (path,x) :: rest) (hy : ((e.pieces []).map (·.2))[pre.length]? = some y) (hxy : likeD x y = false)
    (hlike : ∀ (i : Nat) (x : List Nat × D),i < pre.length → (d.pieces [])[i]? = some x → ∃ y,((e.pieces []).map (·.2))[i]? = some y ∧ likeD x.2 y = true) :
    Gives ((env (M + 6)).call 89 [.pointer (some ⟨b1,0,none⟩),.pointer (some ⟨b2,0,none⟩)] none σ) σ fun w σ' => PathV (fun b => σ.next ≤ b) σ' w path:=by
  rw [env_call _ 89 _ _ rfl,enter89 _ _ _ _ (by simp),Sl_start]
  unfold run89
  have ht : lv.take 4 = lv:=List.take_of_length_le (by omega)
  have htm : mv.take 4 = mv:=List.take_of_length_le (by omega)
  obtain ⟨_,σ2,e2,x2,hw2,rfl⟩:=validS_go M d hd.sane (by have:=hd.count; omega) hd.deep lv h4 (fun b => b < σ.next) σ hw hL (fun b hb => hb)
  have k2 : ∀ b cs,b < σ.next → σ.cells b = some cs → σ2.cells b = some cs:=fun b cs hb hc => (x2.cells hb).trans hc
  have n2:=x2.next
  obtain ⟨_,σ3,e3,x3,hw3,rfl⟩:=validS_go M e he.sane (by have:=he.count; omega) he.deep mv hm4 (fun b => b < σ.next) σ2 hw2 (hLe.keep fun b cs hb hc => ⟨k2 b cs hb hc,hb⟩) (fun b hb => by omega)
  have n3:=x3.next
  have k3 : ∀ b cs,b < σ.next → σ.cells b = some cs → σ3.cells b = some cs:=fun b cs hb hc => (x3.cells (by omega)).trans (k2 b cs hb hc)
  obtain ⟨w4,σ4,e4,x4,hw4,P4⟩:=difference_apart M d e lv mv h4 hm4 σ3 hw3 (hL.keep fun b cs hb hc => ⟨k3 b cs hb hc,by omega⟩) (hLe.keep fun b cs hb hc => ⟨k3 b cs hb hc,by omega⟩) he.small he.few hd.small hd.few pre rest path x y hsplit hy hxy hlike
  have d1:=k2 _ _ (hw.cells c2) c2
  have d2:=k3 _ _ (hw.cells c1) c1
  have d3:=k3 _ _ (hw.cells c2) c2
  simp -implicitDefEqProofs only [go_sem,↓reduceIte,Nat.reduceLT,Nat.reduceEqDiff,Nat.reduceAdd,Nat.reduceMul,Nat.reduceLeDiff,Nat.reduceSub,r89_0_go,r89_0U,r89_1_go,r89_1U,r89_2_go,r89_2U,r89_3_go,r89_3U,Option.getD_some,List.getElem?_cons_zero,List.getElem?_cons_succ,c1,h4,hm4,ht,htm,e2,d1,e3,d2,d3,e4,Nat.le_refl]
  exact ⟨_,_,rfl,(x2.trans x3).trans x4,hw4,P4.keep fun b c hb hc => ⟨hc,by omega⟩⟩
theorem differ_same (M : Nat) (d e : D) (hd : Apart M d) (he : Apart M e) (lv mv : List Value) (h4 : lv.length = 4) (hm4 : mv.length = 4) (σ : FState) (hw : Wf σ) (hL : LaidR (fun b => b < σ.next) σ (.agg lv.toArray) d) (hLe : LaidR (fun b => b < σ.next) σ (.agg mv.toArray) e)
    (hlen : (d.pieces []).length = (e.pieces []).length) (hlike : ∀ (i : Nat) (x : List Nat × D),(d.pieces [])[i]? = some x → ∃ y,((e.pieces []).map (·.2))[i]? = some y ∧ likeD x.2 y = true) :
    Gives ((env (M + 9)).call 35 [.agg lv.toArray,.agg mv.toArray] none σ) σ fun w _ => w = .tuple #[.slice none 0 0,.int .i64 10]:=by
  rw [env_call _ 35 _ _ rfl,enter35 _ _ _ _ (by simp),Sl_start]
  unfold run35
  have x1 : Ext σ ((σ.push (.cells lv TD) none).push (.cells mv TD) none):=((Ext.refl _).push _ _).push _ _
  have hw1:=(hw.push (.cells lv TD) none).push (.cells mv TD) none
  have c1 : ((σ.push (.cells lv TD) none).push (.cells mv TD) none).cells σ.next = some lv:=by rw [cells_push,if_neg (by rw [push_next]; omega),cells_push,if_pos rfl]; rfl
  have c2 : ((σ.push (.cells lv TD) none).push (.cells mv TD) none).cells (σ.next + 1) = some mv:=by rw [cells_push,if_pos (by rw [push_next])]; rfl
  obtain ⟨_,σ2,e2,x2,hw2,rfl⟩:=callFails (M + 3) 89 #[.pointer (some ⟨σ.next,0,none⟩),.pointer (some ⟨σ.next + 1,0,none⟩)] 10 0 _ hw1 fun σ' hX hw' => differ1_same M d e hd he lv mv h4 hm4 σ.next (σ.next + 1) σ' hw' ((hX.cells (hw1.cells c1)).trans c1) ((hX.cells (hw1.cells c2)).trans c2)
    (hL.keep fun b cs hb hc => ⟨((x1.trans hX).cells hb).trans hc,by have:=(x1.trans hX).next; omega⟩) (hLe.keep fun b cs hb hc => ⟨((x1.trans hX).cells hb).trans hc,by have:=(x1.trans hX).next; omega⟩) hlen hlike
  simp -implicitDefEqProofs only [go_sem,↓reduceIte,Nat.reduceLT,Nat.reduceEqDiff,Nat.reduceAdd,Nat.reduceMul,Nat.reduceLeDiff,Nat.reduceSub,r35_0_go,r35_0U,r35_1_go,r35_1U,Option.getD_some,List.getElem?_cons_zero,List.getElem?_cons_succ,e2,fleave_nil,fresults_nil,fresults_cons,fresult_tmp]
  exact ⟨_,_,rfl,x1.trans x2,hw2,rfl⟩
theorem differ_apart (M : Nat) (d e : D) (hd : Apart M d) (he : Apart M e) (lv mv : List Value) (h4 : lv.length = 4) (hm4 : mv.length = 4) (σ : FState) (hw : Wf σ) (hL : LaidR (fun b => b < σ.next) σ (.agg lv.toArray) d) (hLe : LaidR (fun b => b < σ.next) σ (.agg mv.toArray) e)
    (pre rest : List (List Nat × D)) (path : List Nat) (x y : D) (hsplit : d.pieces [] = pre ++ (path,x) :: rest) (hy : ((e.pieces []).map (·.2))[pre.length]? = some y) (hxy : likeD x y = false)
    (hlike : ∀ (i : Nat) (x : List Nat × D),i < pre.length → (d.pieces [])[i]? = some x → ∃ y,((e.pieces []).map (·.2))[i]? = some y ∧ likeD x.2 y = true) :
    Gives ((env (M + 9)).call 35 [.agg lv.toArray,.agg mv.toArray] none σ) σ fun w σ' => ∃ u,w = .tuple #[u,.int .i64 0] ∧ PathV (fun b => σ.next ≤ b) σ' u path:=by
  rw [env_call _ 35 _ _ rfl,enter35 _ _ _ _ (by simp),Sl_start]
  unfold run35
  have x1 : Ext σ ((σ.push (.cells lv TD) none).push (.cells mv TD) none):=((Ext.refl _).push _ _).push _ _
  have hw1:=(hw.push (.cells lv TD) none).push (.cells mv TD) none
  have c1 : ((σ.push (.cells lv TD) none).push (.cells mv TD) none).cells σ.next = some lv:=by rw [cells_push,if_neg (by rw [push_next]; omega),cells_push,if_pos rfl]; rfl
  have c2 : ((σ.push (.cells lv TD) none).push (.cells mv TD) none).cells (σ.next + 1) = some mv:=by rw [cells_push,if_pos (by rw [push_next])]; rfl
  obtain ⟨_,σ2,e2,x2,hw2,u,rfl,P2⟩:=callI (M + 5) 89 #[.pointer (some ⟨σ.next,0,none⟩),.pointer (some ⟨σ.next + 1,0,none⟩)] (pathV_stays path) (fun base v σ h => h.one) _ hw1 fun σ' hX hw' => differ1_apart M d e hd he lv mv h4 hm4 σ.next (σ.next + 1) σ' hw' ((hX.cells (hw1.cells c1)).trans c1) ((hX.cells (hw1.cells c2)).trans c2)
    (hL.keep fun b cs hb hc => ⟨((x1.trans hX).cells hb).trans hc,by have:=(x1.trans hX).next; omega⟩) (hLe.keep fun b cs hb hc => ⟨((x1.trans hX).cells hb).trans hc,by have:=(x1.trans hX).next; omega⟩) pre rest path x y hsplit hy hxy hlike
  simp -implicitDefEqProofs only [go_sem,↓reduceIte,Nat.reduceLT,Nat.reduceEqDiff,Nat.reduceAdd,Nat.reduceMul,Nat.reduceLeDiff,Nat.reduceSub,r35_0_go,r35_0U,r35_1_go,r35_1U,Option.getD_some,List.getElem?_cons_zero,List.getElem?_cons_succ,e2,fleave_nil,fresults_nil,fresults_cons,fresult_tmp]
  exact ⟨_,_,rfl,x1.trans x2,hw2,u,rfl,P2.keep fun b c hb hc => ⟨hc,by have:=x1.next; omega⟩⟩
end Go.Proofs.YtodkeaoikjjneaaGreatDoor
/- Functions of the program, written out in the reading's words (made by program; the kernel holds each against the code). -/
namespace Go.Proofs.YtodkeaoikjjneaaGreatDoor
open Go Go.Eng
variable (E : Env) (ro : Option Nat) (last : List Nat → RunF) (cl : List Nat) (a : FAct) (u : Option FrameMode) (σ : FState)
def r36_0U (_ : Unit) : List COp:=[⟨fun a σ => fbox 28 (a.get 0) σ,(some 2),fun _ => some true⟩,
  ⟨fun a σ => fbox 28 (a.get 1) σ,(some 3),fun _ => some true⟩,
  ⟨fun a σ => .val (.int .i64 0) σ,(some 4),fun _ => some true⟩,
  ⟨fun a σ => .val (.int .i64 0) σ,(some 5),fun _ => some true⟩]
def r36_0 : List COp:=r36_0U ()
def r36_1U (_ : Unit) : List COp:=[⟨fun a σ => .val (.func (.func 92) #[] #[(a.get 2),(a.get 3)]) σ,(some 6),fun _ => some true⟩,
  ⟨fun a σ => .enter 91 [(a.get 6)] σ,(some 7),fun _ => some true⟩,
  ⟨fun a σ => fextract 0 (a.get 7) σ,(some 8),fun _ => some true⟩,
  ⟨fun a σ => fextract 1 (a.get 7) σ,(some 9),fun _ => some true⟩,
  ⟨fun a σ => .val (a.get 8) σ,(some 4),fun _ => some true⟩,
  ⟨fun a σ => .val (a.get 9) σ,(some 5),fun _ => some true⟩]
def r36_1 : List COp:=r36_1U ()
def run36 (E : Env) (ro : Option Nat) (fn : FuncId) : RunF:=(seqR (fops E ro r36_0) (seqR (fops E ro r36_1) retR))
theorem r36_0_go : fops E ro r36_0 a u σ = fops E ro (r36_0U ()) a u σ:=rfl
theorem r36_1_go : fops E ro r36_1 a u σ = fops E ro (r36_1U ()) a u σ:=rfl
theorem code36 (E : Env) (ro : Option Nat) (fn : FuncId) : code Tryz.prog nls (Tryz.f36.body.getD .skip) E ro fn = run36 E ro fn:=by kernel_rfl
theorem enter36 (E : Env) (args : List Value) (u : Option FrameMode) (σ : FState) (hn : args.length ≤ (4 : Nat)) : fcall Tryz.prog nls E 36 args u σ = leaveR Tryz.prog E [.tmp 4,.tmp 5] (run36 E none 36 ⟨padTo undef 4 args,fun _ => undef,4,10,[]⟩ u σ):=by
  rw [fcall_of (body:=Tryz.f36.body.getD .skip) Tryz.func36 rfl E args u σ 4 10 (by kernel_rfl) rfl ⟨hn,by decide⟩,code36]
  rfl
def r92_0U (_ : Unit) : List COp:=[⟨fun a σ => .val (.int .i64 0) σ,(some 2),fun _ => some true⟩]
def r92_0 : List COp:=r92_0U ()
def r92_1U (_ : Unit) : List COp:=[⟨fun a σ => fload (some 4) (a.get 0) σ,(some 3),fun _ => some true⟩,
  ⟨fun a σ => .enter 60 [(a.get 3)] σ,(some 4),fun _ => some true⟩]
def r92_1 : List COp:=r92_1U ()
def r92_2U (_ : Unit) : List COp:=[⟨fun a σ => fload (some 4) (a.get 1) σ,(some 5),fun _ => some true⟩,
  ⟨fun a σ => .enter 60 [(a.get 5)] σ,(some 6),fun _ => some true⟩]
def r92_2 : List COp:=r92_2U ()
def r92_3U (_ : Unit) : List COp:=[⟨fun a σ => fload (some 4) (a.get 0) σ,(some 7),fun _ => some true⟩,
  ⟨fun a σ => fload (some 4) (a.get 1) σ,(some 8),fun _ => some true⟩,
  ⟨fun a σ => .enter 93 [(a.get 7),(a.get 8)] σ,(some 9),fun _ => some true⟩,
  ⟨fun a σ => .val (a.get 9) σ,(some 2),fun _ => some true⟩]
def r92_3 : List COp:=r92_3U ()
def run92 (E : Env) (ro : Option Nat) (fn : FuncId) : RunF:=(seqR (fops E ro r92_0) (seqR (fops E ro r92_1) (seqR (fops E ro r92_2) (seqR (fops E ro r92_3) retR))))
theorem r92_0_go : fops E ro r92_0 a u σ = fops E ro (r92_0U ()) a u σ:=rfl
theorem r92_1_go : fops E ro r92_1 a u σ = fops E ro (r92_1U ()) a u σ:=rfl
theorem r92_2_go : fops E ro r92_2 a u σ = fops E ro (r92_2U ()) a u σ:=rfl
theorem r92_3_go : fops E ro r92_3 a u σ = fops E ro (r92_3U ()) a u σ:=rfl
theorem code92 (E : Env) (ro : Option Nat) (fn : FuncId) : code Tryz.prog nls (Tryz.f92.body.getD .skip) E ro fn = run92 E ro fn:=by kernel_rfl
theorem enter92 (E : Env) (args : List Value) (u : Option FrameMode) (σ : FState) (hn : args.length ≤ (2 : Nat)) : fcall Tryz.prog nls E 92 args u σ = leaveR Tryz.prog E [.tmp 2] (run92 E none 92 ⟨padTo undef 2 args,fun _ => undef,2,10,[]⟩ u σ):=by
  rw [fcall_of (body:=Tryz.f92.body.getD .skip) Tryz.func92 rfl E args u σ 2 10 (by kernel_rfl) rfl ⟨hn,by decide⟩,code92]
  rfl
def r93_0U (_ : Unit) : List COp:=[⟨fun a σ => fbox 28 (a.get 0) σ,(some 2),fun _ => some true⟩,
  ⟨fun a σ => fbox 28 (a.get 1) σ,(some 3),fun _ => some true⟩,
  ⟨fun a σ => .val (.int .i64 0) σ,(some 4),fun _ => some true⟩]
def r93_0 : List COp:=r93_0U ()
def r93_1U (_ : Unit) : List COp:=[⟨fun a σ => ffield 0 (a.get 2) σ,(some 6),fun _ => some true⟩,
  ⟨fun a σ => fload none (a.get 6) σ,(some 7),fun _ => some true⟩,
  ⟨fun a σ => ffield 0 (a.get 3) σ,(some 8),fun _ => some true⟩,
  ⟨fun a σ => fload none (a.get 8) σ,(some 9),fun _ => some true⟩,
  ⟨fun a σ => .enter 120 [(a.get 7),(a.get 9)] σ,(some 10),fun _ => some true⟩,
  ⟨fun a σ => .val (a.get 10) σ,(some 5),fun _ => some true⟩]
def r93_1 : List COp:=r93_1U ()
def r93_2U (_ : Unit) : List COp:=[⟨fun a σ => .val (a.get 5) σ,(some 11),fun _ => some true⟩,
  ⟨fun a σ => i_neq Tryz.prog 3 (.tmp 11) (.const (.int .i64 0)) (a.get 11) (.int .i64 0) σ,(some 12),fun _ => some true⟩]
def r93_2 : List COp:=r93_2U ()
def r93_3U (_ : Unit) : List COp:=[⟨fun a σ => .val (a.get 5) σ,(some 13),fun _ => some true⟩,
  ⟨fun a σ => .val (a.get 13) σ,(some 4),fun _ => some true⟩]
def r93_3 : List COp:=r93_3U ()
def r93_4U (_ : Unit) : List DOp:=[⟨fun a σ => fload (some 4) (a.get 2) σ,(some 14),fun _ => some true,(some 0),false⟩,
  ⟨fun a σ => .enter 121 [(a.get 14)] σ,(some 15),fun _ => some true,none,false⟩,
  ⟨fun a σ => fload (some 4) (a.get 3) σ,(some 16),fun _ => some true,(some 0),false⟩,
  ⟨fun a σ => finvoke Tryz.prog (a.get 15) "caracole/datum.order" [(a.get 16)] σ,(some 17),fun _ => some true,none,true⟩,
  ⟨fun a σ => .val (a.get 17) σ,(some 4),fun _ => some true,(some 2),false⟩]
def r93_4 : List DOp:=r93_4U ()
def run93 (E : Env) (ro : Option Nat) (fn : FuncId) : RunF:=(seqR (fops E ro r93_0) (seqR (seqR (fops E ro r93_1) (seqR (fops E ro r93_2) (condR (fun a => (a.get 12)) (seqR (fops E ro r93_3) retR) skipR))) (seqR (drawR E ro r93_4) retR)))
theorem r93_0_go : fops E ro r93_0 a u σ = fops E ro (r93_0U ()) a u σ:=rfl
theorem r93_1_go : fops E ro r93_1 a u σ = fops E ro (r93_1U ()) a u σ:=rfl
theorem r93_2_go : fops E ro r93_2 a u σ = fops E ro (r93_2U ()) a u σ:=rfl
theorem r93_3_go : fops E ro r93_3 a u σ = fops E ro (r93_3U ()) a u σ:=rfl
theorem r93_4_go : fdraw E ro last r93_4 cl a u σ = fdraw E ro last (r93_4U ()) cl a u σ:=rfl
theorem code93 (E : Env) (ro : Option Nat) (fn : FuncId) : code Tryz.prog nls (Tryz.f93.body.getD .skip) E ro fn = run93 E ro fn:=by kernel_rfl
theorem enter93 (E : Env) (args : List Value) (u : Option FrameMode) (σ : FState) (hn : args.length ≤ (6 : Nat)) : fcall Tryz.prog nls E 93 args u σ = leaveR Tryz.prog E [.tmp 4] (run93 E none 93 ⟨padTo undef 6 args,fun _ => undef,6,18,[]⟩ u σ):=by
  rw [fcall_of (body:=Tryz.f93.body.getD .skip) Tryz.func93 rfl E args u σ 6 18 (by kernel_rfl) rfl ⟨hn,by decide⟩,code93]
  rfl
def r213_0U (_ : Unit) : List COp:=[⟨fun a σ => fbox 173 (a.get 0) σ,(some 2),fun _ => some true⟩,
  ⟨fun a σ => fbox 28 (a.get 1) σ,(some 3),fun _ => some true⟩,
  ⟨fun a σ => .val (.int .i64 0) σ,(some 4),fun _ => some true⟩]
def r213_0 : List COp:=r213_0U ()
def r213_1U (_ : Unit) : List COp:=[⟨fun a σ => ffield 0 (a.get 2) σ,(some 5),fun _ => some true⟩,
  ⟨fun a σ => ffield 1 (a.get 5) σ,(some 6),fun _ => some true⟩,
  ⟨fun a σ => fload none (a.get 6) σ,(some 7),fun _ => some true⟩,
  ⟨fun a σ => ffield 1 (a.get 3) σ,(some 8),fun _ => some true⟩,
  ⟨fun a σ => fload none (a.get 8) σ,(some 9),fun _ => some true⟩,
  ⟨fun a σ => .enter 120 [(a.get 7),(a.get 9)] σ,(some 10),fun _ => some true⟩,
  ⟨fun a σ => .val (a.get 10) σ,(some 4),fun _ => some true⟩]
def r213_1 : List COp:=r213_1U ()
def run213 (E : Env) (ro : Option Nat) (fn : FuncId) : RunF:=(seqR (fops E ro r213_0) (seqR (fops E ro r213_1) retR))
theorem r213_0_go : fops E ro r213_0 a u σ = fops E ro (r213_0U ()) a u σ:=rfl
theorem r213_1_go : fops E ro r213_1 a u σ = fops E ro (r213_1U ()) a u σ:=rfl
theorem code213 (E : Env) (ro : Option Nat) (fn : FuncId) : code Tryz.prog nls (Tryz.f213.body.getD .skip) E ro fn = run213 E ro fn:=by kernel_rfl
theorem enter213 (E : Env) (args : List Value) (u : Option FrameMode) (σ : FState) (hn : args.length ≤ (4 : Nat)) : fcall Tryz.prog nls E 213 args u σ = leaveR Tryz.prog E [.tmp 4] (run213 E none 213 ⟨padTo undef 4 args,fun _ => undef,4,11,[]⟩ u σ):=by
  rw [fcall_of (body:=Tryz.f213.body.getD .skip) Tryz.func213 rfl E args u σ 4 11 (by kernel_rfl) rfl ⟨hn,by decide⟩,code213]
  rfl
def r207_0U (_ : Unit) : List COp:=[⟨fun a σ => fbox 161 (a.get 0) σ,(some 2),fun _ => some true⟩,
  ⟨fun a σ => fbox 28 (a.get 1) σ,(some 3),fun _ => some true⟩,
  ⟨fun a σ => .val (.int .i64 0) σ,(some 4),fun _ => some true⟩]
def r207_0 : List COp:=r207_0U ()
def r207_1U (_ : Unit) : List COp:=[⟨fun a σ => ffield 0 (a.get 2) σ,(some 5),fun _ => some true⟩,
  ⟨fun a σ => ffield 2 (a.get 5) σ,(some 6),fun _ => some true⟩,
  ⟨fun a σ => fload none (a.get 6) σ,(some 7),fun _ => some true⟩,
  ⟨fun a σ => ffield 2 (a.get 3) σ,(some 8),fun _ => some true⟩,
  ⟨fun a σ => fload none (a.get 8) σ,(some 9),fun _ => some true⟩,
  ⟨fun a σ => .enter 208 [(a.get 7),(a.get 9)] σ,(some 10),fun _ => some true⟩,
  ⟨fun a σ => .val (a.get 10) σ,(some 4),fun _ => some true⟩]
def r207_1 : List COp:=r207_1U ()
def run207 (E : Env) (ro : Option Nat) (fn : FuncId) : RunF:=(seqR (fops E ro r207_0) (seqR (fops E ro r207_1) retR))
theorem r207_0_go : fops E ro r207_0 a u σ = fops E ro (r207_0U ()) a u σ:=rfl
theorem r207_1_go : fops E ro r207_1 a u σ = fops E ro (r207_1U ()) a u σ:=rfl
theorem code207 (E : Env) (ro : Option Nat) (fn : FuncId) : code Tryz.prog nls (Tryz.f207.body.getD .skip) E ro fn = run207 E ro fn:=by kernel_rfl
theorem enter207 (E : Env) (args : List Value) (u : Option FrameMode) (σ : FState) (hn : args.length ≤ (4 : Nat)) : fcall Tryz.prog nls E 207 args u σ = leaveR Tryz.prog E [.tmp 4] (run207 E none 207 ⟨padTo undef 4 args,fun _ => undef,4,11,[]⟩ u σ):=by
  rw [fcall_of (body:=Tryz.f207.body.getD .skip) Tryz.func207 rfl E args u σ 4 11 (by kernel_rfl) rfl ⟨hn,by decide⟩,code207]
  rfl
def r215_0U (_ : Unit) : List COp:=[⟨fun a σ => fbox 181 (a.get 0) σ,(some 2),fun _ => some true⟩,
  ⟨fun a σ => fbox 28 (a.get 1) σ,(some 3),fun _ => some true⟩,
  ⟨fun a σ => .val (.int .i64 0) σ,(some 4),fun _ => some true⟩]
def r215_0 : List COp:=r215_0U ()
def r215_1U (_ : Unit) : List COp:=[⟨fun a σ => .val (.int .i64 0) σ,(some 4),fun _ => some true⟩]
def r215_1 : List COp:=r215_1U ()
def run215 (E : Env) (ro : Option Nat) (fn : FuncId) : RunF:=(seqR (fops E ro r215_0) (seqR (fops E ro r215_1) retR))
theorem r215_0_go : fops E ro r215_0 a u σ = fops E ro (r215_0U ()) a u σ:=rfl
theorem r215_1_go : fops E ro r215_1 a u σ = fops E ro (r215_1U ()) a u σ:=rfl
theorem code215 (E : Env) (ro : Option Nat) (fn : FuncId) : code Tryz.prog nls (Tryz.f215.body.getD .skip) E ro fn = run215 E ro fn:=by kernel_rfl
theorem enter215 (E : Env) (args : List Value) (u : Option FrameMode) (σ : FState) (hn : args.length ≤ (4 : Nat)) : fcall Tryz.prog nls E 215 args u σ = leaveR Tryz.prog E [.tmp 4] (run215 E none 215 ⟨padTo undef 4 args,fun _ => undef,4,5,[]⟩ u σ):=by
  rw [fcall_of (body:=Tryz.f215.body.getD .skip) Tryz.func215 rfl E args u σ 4 5 (by kernel_rfl) rfl ⟨hn,by decide⟩,code215]
  rfl
def r217_0U (_ : Unit) : List COp:=[⟨fun a σ => fbox 182 (a.get 0) σ,(some 2),fun _ => some true⟩,
  ⟨fun a σ => fbox 28 (a.get 1) σ,(some 3),fun _ => some true⟩,
  ⟨fun a σ => .val (.int .i64 0) σ,(some 4),fun _ => some true⟩]
def r217_0 : List COp:=r217_0U ()
def r217_1U (_ : Unit) : List COp:=[⟨fun a σ => ffield 0 (a.get 2) σ,(some 5),fun _ => some true⟩,
  ⟨fun a σ => ffield 3 (a.get 5) σ,(some 6),fun _ => some true⟩,
  ⟨fun a σ => fload none (a.get 6) σ,(some 7),fun _ => some true⟩,
  ⟨fun a σ => ffield 3 (a.get 3) σ,(some 8),fun _ => some true⟩,
  ⟨fun a σ => fload none (a.get 8) σ,(some 9),fun _ => some true⟩,
  ⟨fun a σ => .enter 218 [(a.get 7),(a.get 9),(.func (.func 93) #[] #[])] σ,(some 10),fun _ => some true⟩,
  ⟨fun a σ => .val (a.get 10) σ,(some 4),fun _ => some true⟩]
def r217_1 : List COp:=r217_1U ()
def run217 (E : Env) (ro : Option Nat) (fn : FuncId) : RunF:=(seqR (fops E ro r217_0) (seqR (fops E ro r217_1) retR))
theorem r217_0_go : fops E ro r217_0 a u σ = fops E ro (r217_0U ()) a u σ:=rfl
theorem r217_1_go : fops E ro r217_1 a u σ = fops E ro (r217_1U ()) a u σ:=rfl
theorem code217 (E : Env) (ro : Option Nat) (fn : FuncId) : code Tryz.prog nls (Tryz.f217.body.getD .skip) E ro fn = run217 E ro fn:=by kernel_rfl
theorem enter217 (E : Env) (args : List Value) (u : Option FrameMode) (σ : FState) (hn : args.length ≤ (4 : Nat)) : fcall Tryz.prog nls E 217 args u σ = leaveR Tryz.prog E [.tmp 4] (run217 E none 217 ⟨padTo undef 4 args,fun _ => undef,4,11,[]⟩ u σ):=by
  rw [fcall_of (body:=Tryz.f217.body.getD .skip) Tryz.func217 rfl E args u σ 4 11 (by kernel_rfl) rfl ⟨hn,by decide⟩,code217]
  rfl
def r120_0U (_ : Unit) : List COp:=[⟨fun a σ => .val (.int .i64 0) σ,(some 4),fun _ => some true⟩]
def r120_0 : List COp:=r120_0U ()
def r120_1U (_ : Unit) : List COp:=[⟨fun a σ => .val (a.get 0) σ,(some 7),fun _ => some true⟩,
  ⟨fun a σ => .enter 143 [(a.get 7)] σ,(some 8),fun _ => some true⟩,
  ⟨fun a σ => .val (a.get 8) σ,(some 5),fun _ => some true⟩]
def r120_1 : List COp:=r120_1U ()
def r120_2U (_ : Unit) : List COp:=[⟨fun a σ => .val (a.get 1) σ,(some 9),fun _ => some true⟩,
  ⟨fun a σ => .enter 143 [(a.get 9)] σ,(some 10),fun _ => some true⟩,
  ⟨fun a σ => .val (a.get 10) σ,(some 6),fun _ => some true⟩]
def r120_2 : List COp:=r120_2U ()
def r120_3U (_ : Unit) : List COp:=[⟨fun a σ => .val (a.get 5) σ,(some 11),fun _ => some true⟩]
def r120_3 : List COp:=r120_3U ()
def r120_4U (_ : Unit) : List COp:=[⟨fun a σ => .val (a.get 6) σ,(some 12),fun _ => some true⟩]
def r120_4 : List COp:=r120_4U ()
def r120_5U (_ : Unit) : List COp:=[⟨fun a σ => .val (.int .i64 0) σ,(some 4),fun _ => some true⟩]
def r120_5 : List COp:=r120_5U ()
def r120_6U (_ : Unit) : List COp:=[⟨fun a σ => .val (.int .i64 (-1)) σ,(some 4),fun _ => some true⟩]
def r120_6 : List COp:=r120_6U ()
def r120_7U (_ : Unit) : List COp:=[⟨fun a σ => .val (a.get 6) σ,(some 13),fun _ => some true⟩]
def r120_7 : List COp:=r120_7U ()
def r120_8U (_ : Unit) : List COp:=[⟨fun a σ => .val (.int .i64 1) σ,(some 4),fun _ => some true⟩]
def r120_8 : List COp:=r120_8U ()
def r120_9U (_ : Unit) : List COp:=[⟨fun a σ => .val (a.get 0) σ,(some 14),fun _ => some true⟩,
  ⟨fun a σ => .val (a.get 1) σ,(some 15),fun _ => some true⟩,
  ⟨fun a σ => i_lss Tryz.prog 3 (.tmp 14) (.tmp 15) (a.get 14) (a.get 15) σ,(some 16),fun _ => some true⟩]
def r120_9 : List COp:=r120_9U ()
def r120_10U (_ : Unit) : List COp:=[⟨fun a σ => .val (.int .i64 (-1)) σ,(some 4),fun _ => some true⟩]
def r120_10 : List COp:=r120_10U ()
def r120_11U (_ : Unit) : List COp:=[⟨fun a σ => .val (a.get 0) σ,(some 17),fun _ => some true⟩,
  ⟨fun a σ => .val (a.get 1) σ,(some 18),fun _ => some true⟩,
  ⟨fun a σ => i_gtr Tryz.prog 3 (.tmp 17) (.tmp 18) (a.get 17) (a.get 18) σ,(some 19),fun _ => some true⟩]
def r120_11 : List COp:=r120_11U ()
def r120_12U (_ : Unit) : List COp:=[⟨fun a σ => .val (.int .i64 1) σ,(some 4),fun _ => some true⟩]
def r120_12 : List COp:=r120_12U ()
def r120_13U (_ : Unit) : List COp:=[⟨fun a σ => .val (.int .i64 0) σ,(some 4),fun _ => some true⟩]
def r120_13 : List COp:=r120_13U ()
def run120 (E : Env) (ro : Option Nat) (fn : FuncId) : RunF:=(seqR (fops E ro r120_0) (seqR (fops E ro r120_1) (seqR (fops E ro r120_2) (seqR (seqR (fops E ro r120_3) (condR (fun a => (a.get 11)) (seqR (seqR (fops E ro r120_4) (condR (fun a => (a.get 12)) (seqR (fops E ro r120_5) retR) skipR)) (seqR (fops E ro r120_6) retR)) skipR)) (seqR (seqR (fops E ro r120_7) (condR (fun a => (a.get 13)) (seqR (fops E ro r120_8) retR) skipR)) (seqR (seqR (fops E ro r120_9) (condR (fun a => (a.get 16)) (seqR (fops E ro r120_10) retR) skipR)) (seqR (seqR (fops E ro r120_11) (condR (fun a => (a.get 19)) (seqR (fops E ro r120_12) retR) skipR)) (seqR (fops E ro r120_13) retR))))))))
theorem r120_0_go : fops E ro r120_0 a u σ = fops E ro (r120_0U ()) a u σ:=rfl
theorem r120_1_go : fops E ro r120_1 a u σ = fops E ro (r120_1U ()) a u σ:=rfl
theorem r120_2_go : fops E ro r120_2 a u σ = fops E ro (r120_2U ()) a u σ:=rfl
theorem r120_3_go : fops E ro r120_3 a u σ = fops E ro (r120_3U ()) a u σ:=rfl
theorem r120_7_go : fops E ro r120_7 a u σ = fops E ro (r120_7U ()) a u σ:=rfl
theorem r120_9_go : fops E ro r120_9 a u σ = fops E ro (r120_9U ()) a u σ:=rfl
theorem r120_10_go : fops E ro r120_10 a u σ = fops E ro (r120_10U ()) a u σ:=rfl
theorem r120_11_go : fops E ro r120_11 a u σ = fops E ro (r120_11U ()) a u σ:=rfl
theorem r120_12_go : fops E ro r120_12 a u σ = fops E ro (r120_12U ()) a u σ:=rfl
theorem r120_13_go : fops E ro r120_13 a u σ = fops E ro (r120_13U ()) a u σ:=rfl
theorem code120 (E : Env) (ro : Option Nat) (fn : FuncId) : code Tryz.prog nls (Tryz.f120.body.getD .skip) E ro fn = run120 E ro fn:=by kernel_rfl
theorem enter120 (E : Env) (args : List Value) (u : Option FrameMode) (σ : FState) (hn : args.length ≤ (7 : Nat)) : fcall Tryz.prog nls E 120 args u σ = leaveR Tryz.prog E [.tmp 4] (run120 E none 120 ⟨padTo undef 7 args,fun _ => undef,7,20,[]⟩ u σ):=by
  rw [fcall_of (body:=Tryz.f120.body.getD .skip) Tryz.func120 rfl E args u σ 7 20 (by kernel_rfl) rfl ⟨hn,by decide⟩,code120]
  rfl
def r143_0U (_ : Unit) : List COp:=[⟨fun a σ => .val (.bool false) σ,(some 2),fun _ => some true⟩]
def r143_0 : List COp:=r143_0U ()
def r143_1U (_ : Unit) : List COp:=[⟨fun a σ => .val (a.get 0) σ,(some 3),fun _ => some true⟩,
  ⟨fun a σ => .val (a.get 0) σ,(some 4),fun _ => some true⟩,
  ⟨fun a σ => i_neq Tryz.prog 3 (.tmp 3) (.tmp 4) (a.get 3) (a.get 4) σ,(some 5),fun _ => some true⟩,
  ⟨fun a σ => .val (a.get 5) σ,(some 2),fun _ => some true⟩]
def r143_1 : List COp:=r143_1U ()
def run143 (E : Env) (ro : Option Nat) (fn : FuncId) : RunF:=(seqR (fops E ro r143_0) (seqR (fops E ro r143_1) retR))
theorem r143_0_go : fops E ro r143_0 a u σ = fops E ro (r143_0U ()) a u σ:=rfl
theorem r143_1_go : fops E ro r143_1 a u σ = fops E ro (r143_1U ()) a u σ:=rfl
theorem code143 (E : Env) (ro : Option Nat) (fn : FuncId) : code Tryz.prog nls (Tryz.f143.body.getD .skip) E ro fn = run143 E ro fn:=by kernel_rfl
theorem enter143 (E : Env) (args : List Value) (u : Option FrameMode) (σ : FState) (hn : args.length ≤ (2 : Nat)) : fcall Tryz.prog nls E 143 args u σ = leaveR Tryz.prog E [.tmp 2] (run143 E none 143 ⟨padTo undef 2 args,fun _ => undef,2,6,[]⟩ u σ):=by
  rw [fcall_of (body:=Tryz.f143.body.getD .skip) Tryz.func143 rfl E args u σ 2 6 (by kernel_rfl) rfl ⟨hn,by decide⟩,code143]
  rfl
def r218_0U (_ : Unit) : List COp:=[⟨fun a σ => .val (.int .i64 0) σ,(some 6),fun _ => some true⟩]
def r218_0 : List COp:=r218_0U ()
def r218_1U (_ : Unit) : List COp:=[⟨fun a σ => .val (a.get 0) σ,(some 11),fun _ => some true⟩,
  ⟨fun a σ => flenL (a.get 11) σ,(some 12),fun _ => some true⟩,
  ⟨fun a σ => .val (.int .i64 0) σ,(some 13),fun _ => some true⟩]
def r218_1 : List COp:=r218_1U ()
def r218_2U (_ : Unit) : List COp:=[⟨fun a σ => i_lss Tryz.prog 3 (.tmp 13) (.tmp 12) (a.get 13) (a.get 12) σ,(some 14),fun _ => some true⟩]
def r218_2 : List COp:=r218_2U ()
def r218_3U (_ : Unit) : List COp:=[⟨fun a σ => .val (a.get 13) σ,(some 15),fun _ => some true⟩,
  ⟨fun a σ => findex (none,4) (a.get 11) (a.get 13) σ,(some 16),fun _ => some true⟩,
  ⟨fun a σ => fload (some 4) (a.get 16) σ,(some 17),fun _ => some true⟩,
  ⟨fun a σ => newCells [(.int .i64 0),(.int .i64 0),(.string ⟨#[]⟩),(.slice none 0 0)] 28 none σ,(some 8),fun _ => some true⟩,
  ⟨fun a σ => .val (a.get 15) σ,(some 7),fun _ => some true⟩,
  ⟨fun a σ => fstore 4 (a.get 8) (a.get 17) σ,none,fun _ => some true⟩]
def r218_3 : List COp:=r218_3U ()
def r218_4U (_ : Unit) : List COp:=[⟨fun a σ => .val (a.get 7) σ,(some 18),fun _ => some true⟩,
  ⟨fun a σ => .val (a.get 1) σ,(some 19),fun _ => some true⟩,
  ⟨fun a σ => flenL (a.get 19) σ,(some 20),fun _ => some true⟩,
  ⟨fun a σ => i_geq Tryz.prog 3 (.tmp 18) (.tmp 20) (a.get 18) (a.get 20) σ,(some 21),fun _ => some true⟩]
def r218_4 : List COp:=r218_4U ()
def r218_5U (_ : Unit) : List COp:=[⟨fun a σ => .val (.int .i64 1) σ,(some 6),fun _ => some true⟩]
def r218_5 : List COp:=r218_5U ()
def r218_6U (_ : Unit) : List COp:=[⟨fun a σ => .val (a.get 1) σ,(some 22),fun _ => some true⟩,
  ⟨fun a σ => .val (a.get 7) σ,(some 23),fun _ => some true⟩,
  ⟨fun a σ => findex (none,4) (a.get 22) (a.get 23) σ,(some 24),fun _ => some true⟩,
  ⟨fun a σ => fload (some 4) (a.get 24) σ,(some 25),fun _ => some true⟩,
  ⟨fun a σ => newCells [(.int .i64 0),(.int .i64 0),(.string ⟨#[]⟩),(.slice none 0 0)] 28 none σ,(some 9),fun _ => some true⟩,
  ⟨fun a σ => fstore 4 (a.get 9) (a.get 25) σ,none,fun _ => some true⟩]
def r218_6 : List COp:=r218_6U ()
def r218_7U (_ : Unit) : List COp:=[⟨fun a σ => .val (a.get 2) σ,(some 26),fun _ => some true⟩,
  ⟨fun a σ => fload (some 4) (a.get 8) σ,(some 27),fun _ => some true⟩,
  ⟨fun a σ => fload (some 4) (a.get 9) σ,(some 28),fun _ => some true⟩,
  ⟨fun a σ => fcallV (a.get 26) [(a.get 27),(a.get 28)] σ,(some 29),fun _ => some true⟩,
  ⟨fun a σ => .val (a.get 29) σ,(some 10),fun _ => some true⟩]
def r218_7 : List COp:=r218_7U ()
def r218_8U (_ : Unit) : List COp:=[⟨fun a σ => .val (a.get 10) σ,(some 30),fun _ => some true⟩,
  ⟨fun a σ => i_neq Tryz.prog 3 (.tmp 30) (.const (.int .i64 0)) (a.get 30) (.int .i64 0) σ,(some 31),fun _ => some true⟩]
def r218_8 : List COp:=r218_8U ()
def r218_9U (_ : Unit) : List COp:=[⟨fun a σ => .val (a.get 10) σ,(some 32),fun _ => some true⟩,
  ⟨fun a σ => .val (a.get 32) σ,(some 6),fun _ => some true⟩]
def r218_9 : List COp:=r218_9U ()
def r218_10U (_ : Unit) : List COp:=[⟨fun a σ => i_add Tryz.prog 3 (.tmp 13) (.const (.int .i64 1)) (a.get 13) (.int .i64 1) σ,(some 33),fun _ => some true⟩,
  ⟨fun a σ => .val (a.get 33) σ,(some 13),fun _ => some true⟩]
def r218_10 : List COp:=r218_10U ()
def l218_0 (E : Env) (ro : Option Nat) (fn : FuncId) : RunF:=(seqR (fops E ro r218_2) (seqR (condR (fun a => (a.get 14)) skipR (exitR 0)) (seqR (blockR 1 (seqR (fops E ro r218_3) (seqR (seqR (fops E ro r218_4) (condR (fun a => (a.get 21)) (seqR (fops E ro r218_5) retR) skipR)) (seqR (fops E ro r218_6) (seqR (fops E ro r218_7) (seqR (fops E ro r218_8) (condR (fun a => (a.get 31)) (seqR (fops E ro r218_9) retR) skipR))))))) (fops E ro r218_10))))
def r218_11U (_ : Unit) : List COp:=[⟨fun a σ => .val (a.get 0) σ,(some 34),fun _ => some true⟩,
  ⟨fun a σ => flenL (a.get 34) σ,(some 35),fun _ => some true⟩,
  ⟨fun a σ => .val (a.get 1) σ,(some 36),fun _ => some true⟩,
  ⟨fun a σ => flenL (a.get 36) σ,(some 37),fun _ => some true⟩,
  ⟨fun a σ => i_lss Tryz.prog 3 (.tmp 35) (.tmp 37) (a.get 35) (a.get 37) σ,(some 38),fun _ => some true⟩]
def r218_11 : List COp:=r218_11U ()
def r218_12U (_ : Unit) : List COp:=[⟨fun a σ => .val (.int .i64 (-1)) σ,(some 6),fun _ => some true⟩]
def r218_12 : List COp:=r218_12U ()
def r218_13U (_ : Unit) : List COp:=[⟨fun a σ => .val (.int .i64 0) σ,(some 6),fun _ => some true⟩]
def r218_13 : List COp:=r218_13U ()
def run218 (E : Env) (ro : Option Nat) (fn : FuncId) : RunF:=(seqR (fops E ro r218_0) (seqR (seqR (fops E ro r218_1) (blockR 0 (loopR (keepOf nls fn) (l218_0 E ro fn)))) (seqR (seqR (fops E ro r218_11) (condR (fun a => (a.get 38)) (seqR (fops E ro r218_12) retR) skipR)) (seqR (fops E ro r218_13) retR))))
theorem r218_0_go : fops E ro r218_0 a u σ = fops E ro (r218_0U ()) a u σ:=rfl
theorem r218_1_go : fops E ro r218_1 a u σ = fops E ro (r218_1U ()) a u σ:=rfl
theorem r218_2_go : fops E ro r218_2 a u σ = fops E ro (r218_2U ()) a u σ:=rfl
theorem r218_3_go : fops E ro r218_3 a u σ = fops E ro (r218_3U ()) a u σ:=rfl
theorem r218_4_go : fops E ro r218_4 a u σ = fops E ro (r218_4U ()) a u σ:=rfl
theorem r218_5_go : fops E ro r218_5 a u σ = fops E ro (r218_5U ()) a u σ:=rfl
theorem r218_6_go : fops E ro r218_6 a u σ = fops E ro (r218_6U ()) a u σ:=rfl
theorem r218_7_go : fops E ro r218_7 a u σ = fops E ro (r218_7U ()) a u σ:=rfl
theorem r218_8_go : fops E ro r218_8 a u σ = fops E ro (r218_8U ()) a u σ:=rfl
theorem r218_9_go : fops E ro r218_9 a u σ = fops E ro (r218_9U ()) a u σ:=rfl
theorem r218_10_go : fops E ro r218_10 a u σ = fops E ro (r218_10U ()) a u σ:=rfl
theorem r218_11_go : fops E ro r218_11 a u σ = fops E ro (r218_11U ()) a u σ:=rfl
theorem r218_12_go : fops E ro r218_12 a u σ = fops E ro (r218_12U ()) a u σ:=rfl
theorem r218_13_go : fops E ro r218_13 a u σ = fops E ro (r218_13U ()) a u σ:=rfl
theorem code218 (E : Env) (ro : Option Nat) (fn : FuncId) : code Tryz.prog nls (Tryz.f218.body.getD .skip) E ro fn = run218 E ro fn:=by kernel_rfl
theorem enter218 (E : Env) (args : List Value) (u : Option FrameMode) (σ : FState) (hn : args.length ≤ (11 : Nat)) : fcall Tryz.prog nls E 218 args u σ = leaveR Tryz.prog E [.tmp 6] (run218 E none 218 ⟨padTo undef 11 args,fun _ => undef,11,39,[]⟩ u σ):=by
  rw [fcall_of (body:=Tryz.f218.body.getD .skip) Tryz.func218 rfl E args u σ 11 39 (by kernel_rfl) rfl ⟨hn,by decide⟩,code218]
  rfl
def r208_0U (_ : Unit) : List COp:=[⟨fun a σ => .val (.int .i64 0) σ,(some 4),fun _ => some true⟩]
def r208_0 : List COp:=r208_0U ()
def r208_1U (_ : Unit) : List COp:=[⟨fun a σ => .val (a.get 0) σ,(some 5),fun _ => some true⟩,
  ⟨fun a σ => .val (a.get 1) σ,(some 6),fun _ => some true⟩,
  ⟨fun a σ => .enter 209 [(a.get 5),(a.get 6)] σ,(some 7),fun _ => some true⟩,
  ⟨fun a σ => .val (a.get 7) σ,(some 4),fun _ => some true⟩]
def r208_1 : List COp:=r208_1U ()
def run208 (E : Env) (ro : Option Nat) (fn : FuncId) : RunF:=(seqR (fops E ro r208_0) (seqR (fops E ro r208_1) retR))
theorem r208_0_go : fops E ro r208_0 a u σ = fops E ro (r208_0U ()) a u σ:=rfl
theorem r208_1_go : fops E ro r208_1 a u σ = fops E ro (r208_1U ()) a u σ:=rfl
theorem code208 (E : Env) (ro : Option Nat) (fn : FuncId) : code Tryz.prog nls (Tryz.f208.body.getD .skip) E ro fn = run208 E ro fn:=by kernel_rfl
theorem enter208 (E : Env) (args : List Value) (u : Option FrameMode) (σ : FState) (hn : args.length ≤ (4 : Nat)) : fcall Tryz.prog nls E 208 args u σ = leaveR Tryz.prog E [.tmp 4] (run208 E none 208 ⟨padTo undef 4 args,fun _ => undef,4,8,[]⟩ u σ):=by
  rw [fcall_of (body:=Tryz.f208.body.getD .skip) Tryz.func208 rfl E args u σ 4 8 (by kernel_rfl) rfl ⟨hn,by decide⟩,code208]
  rfl
def r209_0U (_ : Unit) : List COp:=[⟨fun a σ => .val (.int .i64 0) σ,(some 4),fun _ => some true⟩]
def r209_0 : List COp:=r209_0U ()
def r209_1U (_ : Unit) : List COp:=[⟨fun a σ => .val (a.get 0) σ,(some 5),fun _ => some true⟩,
  ⟨fun a σ => .val (a.get 1) σ,(some 6),fun _ => some true⟩,
  ⟨fun a σ => .enter 210 [(a.get 5),(a.get 6)] σ,(some 7),fun _ => some true⟩,
  ⟨fun a σ => .val (a.get 7) σ,(some 4),fun _ => some true⟩]
def r209_1 : List COp:=r209_1U ()
def run209 (E : Env) (ro : Option Nat) (fn : FuncId) : RunF:=(seqR (fops E ro r209_0) (seqR (fops E ro r209_1) retR))
theorem r209_0_go : fops E ro r209_0 a u σ = fops E ro (r209_0U ()) a u σ:=rfl
theorem r209_1_go : fops E ro r209_1 a u σ = fops E ro (r209_1U ()) a u σ:=rfl
theorem code209 (E : Env) (ro : Option Nat) (fn : FuncId) : code Tryz.prog nls (Tryz.f209.body.getD .skip) E ro fn = run209 E ro fn:=by kernel_rfl
theorem enter209 (E : Env) (args : List Value) (u : Option FrameMode) (σ : FState) (hn : args.length ≤ (4 : Nat)) : fcall Tryz.prog nls E 209 args u σ = leaveR Tryz.prog E [.tmp 4] (run209 E none 209 ⟨padTo undef 4 args,fun _ => undef,4,8,[]⟩ u σ):=by
  rw [fcall_of (body:=Tryz.f209.body.getD .skip) Tryz.func209 rfl E args u σ 4 8 (by kernel_rfl) rfl ⟨hn,by decide⟩,code209]
  rfl
def r91_0U (_ : Unit) : List COp:=[⟨fun a σ => .val (.int .i64 0) σ,(some 2),fun _ => some true⟩,
  ⟨fun a σ => .val (.int .i64 0) σ,(some 3),fun _ => some true⟩]
def r91_0 : List COp:=r91_0U ()
def r91_1U (_ : Unit) : List COp:=[⟨fun a σ => .val (a.get 0) σ,(some 8),fun _ => some true⟩,
  ⟨fun a σ => .enter 119 [(a.get 8)] σ,(some 9),fun _ => some true⟩,
  ⟨fun a σ => .val (a.get 9) σ,(some 7),fun _ => some true⟩,
  ⟨fun a σ => fextract 0 (a.get 7) σ,(some 10),fun _ => some true⟩,
  ⟨fun a σ => fextract 1 (a.get 7) σ,(some 11),fun _ => some true⟩,
  ⟨fun a σ => fextract 2 (a.get 7) σ,(some 12),fun _ => some true⟩,
  ⟨fun a σ => .val (a.get 10) σ,(some 4),fun _ => some true⟩,
  ⟨fun a σ => .val (a.get 11) σ,(some 5),fun _ => some true⟩,
  ⟨fun a σ => .val (a.get 12) σ,(some 6),fun _ => some true⟩]
def r91_1 : List COp:=r91_1U ()
def r91_2U (_ : Unit) : List COp:=[⟨fun a σ => .val (a.get 4) σ,(some 13),fun _ => some true⟩,
  ⟨fun a σ => .val (a.get 6) σ,(some 14),fun _ => some true⟩,
  ⟨fun a σ => .val (a.get 13) σ,(some 2),fun _ => some true⟩,
  ⟨fun a σ => .val (a.get 14) σ,(some 3),fun _ => some true⟩]
def r91_2 : List COp:=r91_2U ()
def run91 (E : Env) (ro : Option Nat) (fn : FuncId) : RunF:=(seqR (fops E ro r91_0) (seqR (fops E ro r91_1) (seqR (fops E ro r91_2) retR)))
theorem r91_0_go : fops E ro r91_0 a u σ = fops E ro (r91_0U ()) a u σ:=rfl
theorem r91_1_go : fops E ro r91_1 a u σ = fops E ro (r91_1U ()) a u σ:=rfl
theorem r91_2_go : fops E ro r91_2 a u σ = fops E ro (r91_2U ()) a u σ:=rfl
theorem code91 (E : Env) (ro : Option Nat) (fn : FuncId) : code Tryz.prog nls (Tryz.f91.body.getD .skip) E ro fn = run91 E ro fn:=by kernel_rfl
theorem enter91 (E : Env) (args : List Value) (u : Option FrameMode) (σ : FState) (hn : args.length ≤ (7 : Nat)) : fcall Tryz.prog nls E 91 args u σ = leaveR Tryz.prog E [.tmp 2,.tmp 3] (run91 E none 91 ⟨padTo undef 7 args,fun _ => undef,7,15,[]⟩ u σ):=by
  rw [fcall_of (body:=Tryz.f91.body.getD .skip) Tryz.func91 rfl E args u σ 7 15 (by kernel_rfl) rfl ⟨hn,by decide⟩,code91]
  rfl
def r119_0U (_ : Unit) : List COp:=[⟨fun a σ => .val (.int .i64 0) σ,(some 2),fun _ => some true⟩,
  ⟨fun a σ => newCells [(.int .i64 0)] 3 none σ,(some 3),fun _ => some true⟩,
  ⟨fun a σ => newCells [(.int .i64 0)] 32 none σ,(some 4),fun _ => some true⟩]
def r119_0 : List COp:=r119_0U ()
def r119_1U (_ : Unit) : List COp:=[⟨fun a σ => .val (.func (.func 142) #[] #[(a.get 3),(a.get 4)]) σ,(some 5),fun _ => some true⟩,
  ⟨fun a σ => fdefer (a.get 5) [] σ,none,fun _ => some true⟩]
def r119_1 : List COp:=r119_1U ()
def r119_2U (_ : Unit) : List COp:=[⟨fun a σ => .val (a.get 0) σ,(some 6),fun _ => some true⟩,
  ⟨fun a σ => fcallV (a.get 6) [] σ,(some 7),fun _ => some true⟩,
  ⟨fun a σ => .val (a.get 7) σ,(some 2),fun _ => some true⟩,
  ⟨fun a σ => fstore 1 (a.get 3) (.int .i64 0) σ,none,fun _ => some true⟩,
  ⟨fun a σ => fstore 1 (a.get 4) (.int .i64 0) σ,none,fun _ => some true⟩]
def r119_2 : List COp:=r119_2U ()
def run119 (E : Env) (ro : Option Nat) (fn : FuncId) : RunF:=(seqR (fops E ro r119_0) (seqR (fops E ro r119_1) (seqR (fops E ro r119_2) retR)))
theorem r119_0_go : fops E ro r119_0 a u σ = fops E ro (r119_0U ()) a u σ:=rfl
theorem r119_1_go : fops E ro r119_1 a u σ = fops E ro (r119_1U ()) a u σ:=rfl
theorem r119_2_go : fops E ro r119_2 a u σ = fops E ro (r119_2U ()) a u σ:=rfl
theorem code119 (E : Env) (ro : Option Nat) (fn : FuncId) : code Tryz.prog nls (Tryz.f119.body.getD .skip) E ro fn = run119 E ro fn:=by kernel_rfl
theorem enter119 (E : Env) (args : List Value) (u : Option FrameMode) (σ : FState) (hn : args.length ≤ (5 : Nat)) : fcall Tryz.prog nls E 119 args u σ = leaveR Tryz.prog E [.tmp 2,.cell 3 3,.cell 4 32] (run119 E none 119 ⟨padTo undef 5 args,fun _ => undef,5,8,[]⟩ u σ):=by
  rw [fcall_of (body:=Tryz.f119.body.getD .skip) Tryz.func119 rfl E args u σ 5 8 (by kernel_rfl) rfl ⟨hn,by decide⟩,code119]
  rfl
def r142_0U (_ : Unit) : List COp:=[⟨fun a σ => .recover σ,(some 6),fun _ => some true⟩]
def r142_0 : List COp:=r142_0U ()
def r142_3U (_ : Unit) : List COp:=[⟨fun a σ => i_eql Tryz.prog 20 (.tmp 6) (.const .nilIface) (a.get 6) .nilIface σ,(some 7),fun _ => some true⟩]
def r142_3 : List COp:=r142_3U ()
def r142_4U (_ : Unit) : List COp:=[⟨fun a σ => .val (a.get 6) σ,(some 2),fun _ => some true⟩]
def r142_4 : List COp:=r142_4U ()
def r142_5U (_ : Unit) : List COp:=[⟨fun a σ => fassert Tryz.prog (a.get 6) 164 true σ,(some 8),fun _ => some true⟩,
  ⟨fun a σ => fextract 1 (a.get 8) σ,(some 9),fun _ => some true⟩,
  ⟨fun a σ => fextract 0 (a.get 8) σ,(some 10),fun _ => some true⟩]
def r142_5 : List COp:=r142_5U ()
def r142_6U (_ : Unit) : List COp:=[⟨fun a σ => .val (a.get 10) σ,(some 3),fun _ => some true⟩]
def r142_6 : List COp:=r142_6U ()
def r142_7U (_ : Unit) : List COp:=[⟨fun a σ => .val (a.get 3) σ,(some 11),fun _ => some true⟩,
  ⟨fun a σ => .enter 126 [(a.get 11)] σ,(some 12),fun _ => some true⟩,
  ⟨fun a σ => newCells [(.int .i64 0),(.int .i64 0)] 166 none σ,(some 4),fun _ => some true⟩,
  ⟨fun a σ => fstore 2 (a.get 4) (a.get 12) σ,none,fun _ => some true⟩]
def r142_7 : List COp:=r142_7U ()
def r142_8U (_ : Unit) : List DOp:=[⟨fun a σ => ffield 1 (a.get 4) σ,(some 13),fun _ => some true,(some 0),false⟩,
  ⟨fun a σ => fload none (a.get 13) σ,(some 14),fun _ => some true,(some 0),false⟩,
  ⟨fun a σ => fstore 1 (a.get 0) (a.get 14) σ,none,fun _ => some true,none,false⟩,
  ⟨fun a σ => ffield 0 (a.get 4) σ,(some 15),fun _ => some true,(some 0),false⟩,
  ⟨fun a σ => fload none (a.get 15) σ,(some 16),fun _ => some true,(some 0),false⟩,
  ⟨fun a σ => fstore 1 (a.get 1) (a.get 16) σ,none,fun _ => some true,none,true⟩]
def r142_8 : List DOp:=r142_8U ()
def r142_1U (_ : Unit) : List COp:=[⟨fun a σ => .val (a.get 6) σ,(some 5),fun _ => some true⟩]
def r142_1 : List COp:=r142_1U ()
def r142_2U (_ : Unit) : List COp:=[⟨fun a σ => fstore 1 (a.get 1) (.int .i64 1) σ,none,fun _ => some true⟩]
def r142_2 : List COp:=r142_2U ()
def run142 (E : Env) (ro : Option Nat) (fn : FuncId) : RunF:=(seqR (fops E ro r142_0) (blockR 0 (seqR (fops E ro r142_3) (condR (fun a => (a.get 7)) (fops E ro r142_4) (seqR (fops E ro r142_5) (condR (fun a => (a.get 9)) (seqR (fops E ro r142_6) (seqR (fops E ro r142_7) (drawR E ro r142_8))) (seqR (fops E ro r142_1) (fops E ro r142_2))))))))
theorem r142_0_go : fops E ro r142_0 a u σ = fops E ro (r142_0U ()) a u σ:=rfl
theorem r142_3_go : fops E ro r142_3 a u σ = fops E ro (r142_3U ()) a u σ:=rfl
theorem r142_4_go : fops E ro r142_4 a u σ = fops E ro (r142_4U ()) a u σ:=rfl
theorem code142 (E : Env) (ro : Option Nat) (fn : FuncId) : code Tryz.prog nls (Tryz.f142.body.getD .skip) E ro fn = run142 E ro fn:=by kernel_rfl
theorem enter142 (E : Env) (args : List Value) (u : Option FrameMode) (σ : FState) (hn : args.length ≤ (6 : Nat)) : fcall Tryz.prog nls E 142 args u σ = leaveR Tryz.prog E [] (run142 E none 142 ⟨padTo undef 6 args,fun _ => undef,6,17,[]⟩ u σ):=by
  rw [fcall_of (body:=Tryz.f142.body.getD .skip) Tryz.func142 rfl E args u σ 6 17 (by kernel_rfl) rfl ⟨hn,by decide⟩,code142]
  rfl
end Go.Proofs.YtodkeaoikjjneaaGreatDoor
end
