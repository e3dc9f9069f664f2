/- The reading of the program, and what is so of it: SymA, SymH, SymC, SymK, SymM, SymD, SymV, SymO, SymCG, SymG. -/
import Derived.Test.YtokieofohmgjdaaGreatDoorU2
import Derived.KernelRfl
import Derived.Attr
import Derived.Test.YtokieofohmgjdaaGreatDoorProg
set_option linter.unusedSimpArgs false
set_option linter.unusedVariables false
/- The reading, one operation at a time, on memory and slots of which only some facts are known. -/
namespace Go.Eng
open Go

/-! ### Slots -/
def FAct.ok (a : FAct) : Prop := a.nl ≤ a.loc.length
theorem get_put {a : FAct} {d t : Nat} {v : Value} (h : a.ok) (hd : d < a.nt) : (a.put (some d) v).get t = if t = d then v else a.get t := by
  have e : a.put (some d) v = a.putT d v := by
    show (Bool.rec (motive := fun _ => FAct) a (a.putT d v) (Nat.blt d a.nt)) = _
    have : Nat.blt d a.nt = true := by simpa [Nat.blt_eq] using hd
    rw [this]
  rw [e, get_putT]
  unfold FAct.ok at h
  by_cases ht : t = d
  · rw [if_pos ht, if_pos ht, if_pos (by omega)]
  · rw [if_neg ht, if_neg ht]
theorem put_none (a : FAct) (v : Value) : a.put none v = a := rfl
theorem nt_put (a : FAct) (dst : Option Tmp) (v : Value) : (a.put dst v).nt = a.nt := (put_nt a dst v).1
theorem defers_put (a : FAct) (dst : Option Tmp) (v : Value) : (a.put dst v).defers = a.defers := (put_nt a dst v).2
theorem ok_put (a : FAct) (dst : Option Tmp) (v : Value) : (a.put dst v).ok = a.ok := by
  cases dst with
  | none => rfl
  | some d =>
    show FAct.ok (Bool.rec (motive := fun _ => FAct) a (a.putT d v) (Nat.blt d a.nt)) = _
    cases Nat.blt d a.nt with
    | false => rfl
    | true =>
      show FAct.ok (a.putT d v) = _
      unfold FAct.putT
      cases Nat.ble a.nl d with
      | true => rfl
      | false =>
        show (a.nl ≤ (setNth v a.loc d).length) = (a.nl ≤ a.loc.length)
        rw [setNth_eq, List.length_set]
theorem get_start (nl nt : Nat) (args : List Value) (t : Nat) : (⟨padTo undef nl args, fun _ => undef, nl, nt, []⟩ : FAct).get t = if t < nl then args[t]?.getD undef else undef := by
  show Bool.rec (motive := fun _ => Value) (Option.rec (motive := fun _ => Value) undef (fun v => v) (nth (padTo undef nl args) t)) undef (Nat.ble nl t) = _
  rw [nth_eq, padTo_get]
  by_cases h : t < nl
  · have : Nat.ble nl t = false := by rw [← Bool.not_eq_true, Nat.ble_eq]; omega
    rw [this, if_pos h, if_pos h]
  · have : Nat.ble nl t = true := by rw [Nat.ble_eq]; omega
    rw [this, if_neg h, if_neg h]
theorem padTo_len {α : Type} (d : α) (n : Nat) (l : List α) : (padTo d n l).length = n := by
  induction n generalizing l with
  | zero => rfl
  | succ n ih => cases l with
    | nil => exact congrArg (· + 1) (ih [])
    | cons x t => exact congrArg (· + 1) (ih t)
theorem ok_start (nl nt : Nat) (args : List Value) (ds : List Deferred) : (⟨padTo undef nl args, fun _ => undef, nl, nt, ds⟩ : FAct).ok := by
  show nl ≤ _
  rw [padTo_len]
  exact Nat.le_refl _

/-! ### Operands -/
theorem cget_tmp (t : Tmp) (a : FAct) : (cget (.tmp t)).un a = a.get t := rfl
/-! ### Memory -/
theorem push_next (σ : FState) (o : FObj) (fz : Option Nat) : (σ.push o fz).next = σ.next + 1 := rfl
theorem push_clock (σ : FState) (o : FObj) (fz : Option Nat) : (σ.push o fz).clock = σ.clock + 1 := rfl
theorem put_next (σ : FState) (b : Nat) (o : FObj) (fz : Option Nat) : (σ.put b o fz).next = σ.next := rfl
theorem put_clock (σ : FState) (b : Nat) (o : FObj) (fz : Option Nat) : (σ.put b o fz).clock = σ.clock + 1 := rfl
theorem put_get (σ : FState) (c : Nat) (o : FObj) (fz : Option Nat) (b : Nat) : (σ.put c o fz).heap.get b = if b = c then some ⟨o, false, fz, σ.clock⟩ else σ.heap.get b := Tr.get_set _ _ _ _
/-! ### Code -/
section
variable (P : Program) (H : Hints) (E : Env) (ro : Option Nat) (fn : FuncId) (a : FAct) (u : Option FrameMode) (σ : FState)
theorem andThen_congr {r r' : KRes} (k : RunF) (h : r = r') : andThen r k = andThen r' k := by rw [h]
theorem andThen_normal (k : RunF) : andThen (.done .normal a u σ) k = k a u σ := rfl
theorem andThen_ret (k : RunF) : andThen (.done .ret a u σ) k = .done .ret a u σ := rfl
theorem andThen_exit (id : Nat) (k : RunF) : andThen (.done (.exit id) a u σ) k = .done (.exit id) a u σ := rfl
theorem fops_nil : fops E ro [] a u σ = .done .normal a u σ := rfl
theorem fops_cons (o : COp) (l : List COp) : fops E ro (o :: l) a u σ = (match o.guard a with | none => .no | some false => fops E ro l (a.put o.dst skipV) u σ | some true => afterOp E ro o.dst a u (fops E ro l) (o.op a σ)) := by
  show Option.rec (motive := fun _ => KRes) .no _ (o.guard a) = _
  cases o.guard a with
  | none => rfl
  | some g => cases g <;> rfl
variable (dst : Option Tmp) (k : RunF)
theorem after_val (v : Value) (s : FState) : afterOp E ro dst a u k (.val v s) = k (a.put dst v) u s := rfl
theorem after_skip (s : FState) : afterOp E ro dst a u k (.skip s) = k (a.put dst undef) u s := rfl
theorem after_enter (f : FuncId) (args : List Value) (s : FState) : afterOp E ro dst a u k (.enter f args s) = afterCall a dst u k (E.call f args none s) := rfl
theorem after_ret (v : Value) (u' : Option FrameMode) (s : FState) : afterCall a dst u k (.ret v u' s) = k (a.put dst v) u s := rfl
end
end Go.Eng
namespace Go.Eng
open Go
/-- Nothing is told. -/
noncomputable def nosums : Sums := fun _ _ _ => none
theorem fenv_call (P : Program) (S : Sums) (H : Hints) (n : Nat) (f : FuncId) (args : List Value) (σ : FState) (h : S f args σ = none) :
    (fenv P S H (n + 1)).call f args none σ = fcall P H (fenv P S H n) f args none σ := by
  show fcallS P S H (fenv P S H n) f args none σ = _
  unfold fcallS
  rw [h]
theorem fenv_round (P : Program) (S : Sums) (H : Hints) (n l : Nat) (args : List Value) (σ : FState) : (fenv P S H (n + 1)).round l args σ = fround P H (fenv P S H n) l args σ := rfl
theorem fenv_defer (P : Program) (S : Sums) (H : Hints) (n : Nat) (f : FuncId) (args : List Value) (md : FrameMode) (σ : FState) : (fenv P S H (n + 1)).call f args (some md) σ = fcall P H (fenv P S H n) f args (some md) σ := rfl
theorem cfn_of {P : Program} {H : Hints} {f : FuncId} {fn : Func} {body : Code} (hf : P.funcs[f]? = some fn) (hb : fn.body = some body) :
    (cfn P H f).un = some ⟨code P H body, slotsOf H f, fn.ntmps, fn.results.toList, fn.params.size + fn.nfree⟩ := by
  unfold cfn
  rw [hf]
  simp only [hb]
/-- A call, entered. -/
theorem fcall_of {P : Program} {H : Hints} {f : FuncId} {fn : Func} {body : Code} (hf : P.funcs[f]? = some fn) (hb : fn.body = some body) (E : Env) (args : List Value) (u : Option FrameMode) (σ : FState)
    (nl nt : Nat) (hl : slotsOf H f = nl) (ht : fn.ntmps = nt) (hn : args.length ≤ nl ∧ nl ≤ nt) :
    fcall P H E f args u σ = (match code P H body E none f ⟨padTo undef nl args, fun _ => undef, nl, nt, []⟩ u σ with
    | .done .normal a u σ => fleave P E fn.results.toList a u a.defers .returning σ
    | .done .ret a u σ => fleave P E fn.results.toList a u a.defers .returning σ
    | .done (.panic ch) a u σ => fleave P E fn.results.toList a u a.defers (.panicking ch) σ
    | _ => .no) := by
  unfold fcall
  rw [cfn_of hf hb]
  simp only [hl, ht]
  have h1 : Nat.ble (len args) nl = true := by rw [Nat.ble_eq, len_eq]; exact hn.1
  have h2 : Nat.ble nl nt = true := by rw [Nat.ble_eq]; exact hn.2
  rw [h1, h2]
  rfl
section
variable (P : Program) (H : Hints) (E : Env) (ro : Option Nat) (fn : FuncId) (a : FAct) (u : Option FrameMode) (σ : FState)
theorem fleave_nil (rs : List ResultVar) : fleave P E rs a u [] .returning σ = (match fresults P rs a σ with
        | some [v] => .ret v u σ
        | some vs => .ret (.tuple vs.toArray) u σ
        | none => .no) := rfl
theorem fleave_pan (rs : List ResultVar) (ch : List PanicEntry) : fleave P E rs a u [] (.panicking ch) σ = .pan ch u σ := rfl
variable (d : Nat)
end
end Go.Eng
namespace Go.Eng
open Go
noncomputable def flenD (d : Option TypeDesc) (x : Value) (σ : FState) : ORes :=
  match d with
  | some .string => flenS x σ
  | some (.slice _) => flenL x σ
  | some (.map _ _) => flenM x σ
  | _ => .no
section
variable (P : Program) (H : Hints) (E : Env) (ro : Option Nat) (fn : FuncId) (a : FAct) (u : Option FrameMode) (σ : FState)
variable (x y z : Operand)
end
/-! What operations come to. -/
theorem fbox_eq (e : TypeId) (v : Value) (σ : FState) (h : notTuple v = true) : fbox e v σ = .val (.pointer (some ⟨σ.next, 0, none⟩)) (σ.push (.cells (valCells v) e) none) := by
  unfold fbox; rw [h]; rfl
theorem ffield_eq (off b o : Nat) (σ : FState) : ffield off (.pointer (some ⟨b, o, none⟩)) σ = .val (.pointer (some ⟨b, o + off, none⟩)) σ := rfl
theorem fpick_eq (b : Bool) (x y : Value) (σ : FState) : fpick (.bool b) x y σ = .val (bif b then x else y) σ := by cases b <;> rfl
end Go.Eng
namespace Go.Eng
open Go
/-! What operations come to, without a condition. -/
theorem notTuple_agg (c : Array Value) : notTuple (.agg c) = true := of_decide_eq_true (by simp [notTuple])
theorem notTuple_int (k : IntKind) (n : Int) : notTuple (.int k n) = true := of_decide_eq_true (by simp [notTuple])
theorem notTuple_string (s : ByteArray) : notTuple (.string s) = true := of_decide_eq_true (by simp [notTuple])
theorem notTuple_bool (b : Bool) : notTuple (.bool b) = true := of_decide_eq_true (by simp [notTuple])
theorem notTuple_slice (p : Option Addr) (l c : Nat) : notTuple (.slice p l c) = true := of_decide_eq_true (by simp [notTuple])
theorem notTuple_pointer (p : Option Addr) : notTuple (.pointer p) = true := of_decide_eq_true (by simp [notTuple])
theorem notTuple_func (f : Fn) (a b : Array Value) : notTuple (.func f a b) = true := of_decide_eq_true (by simp [notTuple])
theorem notTuple_map (r : Option Nat) : notTuple (.map r) = true := of_decide_eq_true (by simp [notTuple])
theorem oneCell_int (k : IntKind) (n : Int) : oneCell (.int k n) = true := of_decide_eq_true (by simp [oneCell])
theorem oneCell_string (s : ByteArray) : oneCell (.string s) = true := of_decide_eq_true (by simp [oneCell])
theorem oneCell_bool (b : Bool) : oneCell (.bool b) = true := of_decide_eq_true (by simp [oneCell])
theorem oneCell_slice (p : Option Addr) (l c : Nat) : oneCell (.slice p l c) = true := of_decide_eq_true (by simp [oneCell])
theorem oneCell_pointer (p : Option Addr) : oneCell (.pointer p) = true := of_decide_eq_true (by simp [oneCell])
theorem oneCell_func (f : Fn) (a b : Array Value) : oneCell (.func f a b) = true := of_decide_eq_true (by simp [oneCell])
theorem oneCell_map (r : Option Nat) : oneCell (.map r) = true := of_decide_eq_true (by simp [oneCell])
theorem valCells_agg (l : List Value) : valCells (.agg l.toArray) = l := rfl
theorem valCells_int (k : IntKind) (n : Int) : valCells (.int k n) = [.int k n] := rfl
theorem valCells_string (s : ByteArray) : valCells (.string s) = [.string s] := rfl
theorem valCells_bool (b : Bool) : valCells (.bool b) = [.bool b] := rfl
theorem valCells_slice (p : Option Addr) (l c : Nat) : valCells (.slice p l c) = [.slice p l c] := rfl
theorem valCells_pointer (p : Option Addr) : valCells (.pointer p) = [.pointer p] := rfl
theorem valCells_func (f : Fn) (a b : Array Value) : valCells (.func f a b) = [.func f a b] := rfl
theorem valCells_map (r : Option Nat) : valCells (.map r) = [.map r] := rfl
/-- What is in an object of cells. -/
def FObj.cells? : FObj → Option (List Value)
  | .cells c _ => some c
  | _ => none
theorem cells?_cells (c : List Value) (t : TypeId) : (FObj.cells c t).cells? = some c := rfl
theorem cells_get (σ : FState) (b : Nat) : σ.cells b = (σ.heap.get b).bind fun e => e.obj.cells? := by
  show Option.rec (motive := fun _ => Option (List Value)) none _ (σ.heap.get b) = _
  cases σ.heap.get b with
  | none => rfl
  | some e =>
    obtain ⟨o, ro, fz, ver⟩ := e
    cases o <;> rfl
theorem cells_push (σ : FState) (o : FObj) (fz : Option Nat) (b : Nat) : (σ.push o fz).cells b = if b = σ.next then o.cells? else σ.cells b := by
  rw [cells_get, push_get, cells_get]
  by_cases h : b = σ.next
  · rw [if_pos h, if_pos h]; rfl
  · rw [if_neg h, if_neg h]
theorem cells_put (σ : FState) (c : Nat) (o : FObj) (fz : Option Nat) (b : Nat) : (σ.put c o fz).cells b = if b = c then o.cells? else σ.cells b := by
  rw [cells_get, put_get, cells_get]
  by_cases h : b = c
  · rw [if_pos h, if_pos h]; rfl
  · rw [if_neg h, if_neg h]
theorem fload1 (b off : Nat) (σ : FState) : fload none (.pointer (some ⟨b, off, none⟩)) σ = (match σ.cells b with | some c => (match c[off]? with | some v => .val v σ | none => .no) | none => .no) := by
  unfold fload
  cases h : σ.cells b with
  | none => simp only [h]
  | some c => simp only [h, nth_eq]; cases c[off]? <;> rfl
theorem floadN (n b off : Nat) (σ : FState) : fload (some n) (.pointer (some ⟨b, off, none⟩)) σ = (match σ.cells b with | some c => (if n ≤ c.length - off then .val (.agg ((c.drop off).take n).toArray) σ else .no) | none => .no) := by
  unfold fload
  cases h : σ.cells b with
  | none => simp only [h]
  | some c =>
    simp only [h, dropN_eq, takeN_eq, List.length_drop]
    by_cases hn : n ≤ c.length - off
    · rw [if_pos hn, if_pos hn]
    · rw [if_neg hn, if_neg hn]
section
variable (P : Program) (a : FAct) (σ : FState) (t u : TypeId) (x y : Operand)
end
end Go.Eng
namespace Go.Eng
open Go
section
variable (P : Program) (t : TypeId) (x y : Operand) (s r : ByteArray) (σ : FState)
theorem str_eql : fbin0 P .eql t x y (.string s) (.string r) σ = .val (.bool (s.toList == r.toList)) σ := by
  unfold fbin0 orPure
  simp [eqGuard, binOp, flat, Op.stringOp]
  rfl
theorem str_neq : fbin0 P .neq t x y (.string s) (.string r) σ = .val (.bool (!(s.toList == r.toList))) σ := by
  unfold fbin0 orPure
  simp [eqGuard, binOp, flat, Op.stringOp]
  rfl
end
/-- What was there is as it was. -/
structure Ext (σ σ' : FState) : Prop where
  next : σ.next ≤ σ'.next
  clock : σ.clock ≤ σ'.clock
  get : ∀ b, b < σ.next → σ'.heap.get b = σ.heap.get b
theorem Ext.refl (σ : FState) : Ext σ σ := ⟨Nat.le_refl _, Nat.le_refl _, fun _ _ => rfl⟩
theorem Ext.trans {σ σ₁ σ₂ : FState} (h : Ext σ σ₁) (k : Ext σ₁ σ₂) : Ext σ σ₂ :=
  ⟨Nat.le_trans h.next k.next, Nat.le_trans h.clock k.clock, fun b hb => (k.get b (Nat.lt_of_lt_of_le hb h.next)).trans (h.get b hb)⟩
theorem Ext.push {σ σ₁ : FState} (h : Ext σ σ₁) (o : FObj) (fz : Option Nat) : Ext σ (σ₁.push o fz) :=
  ⟨Nat.le_succ_of_le h.next, Nat.le_succ_of_le h.clock, fun b hb => by
    rw [push_get, if_neg (by have := h.next; omega)]
    exact h.get b hb⟩
theorem Ext.put {σ σ₁ : FState} (h : Ext σ σ₁) (c : Nat) (o : FObj) (fz : Option Nat) (hc : σ.next ≤ c) : Ext σ (σ₁.put c o fz) :=
  ⟨h.next, Nat.le_succ_of_le h.clock, fun b hb => by
    rw [put_get, if_neg (by omega)]
    exact h.get b hb⟩
theorem Ext.cells {σ σ' : FState} (h : Ext σ σ') {b : Nat} (hb : b < σ.next) : σ'.cells b = σ.cells b := by
  rw [cells_get, cells_get, h.get b hb]
/-- Nothing lies beyond what has been given out. -/
def Wf (σ : FState) : Prop := ∀ b e, σ.heap.get b = some e → b < σ.next ∧ e.ver < σ.clock
theorem Wf.cells {σ : FState} (h : Wf σ) {b : Nat} {c : List Value} (hc : σ.cells b = some c) : b < σ.next := by
  rw [cells_get] at hc
  cases hg : σ.heap.get b with
  | none => rw [hg] at hc; cases hc
  | some e => exact (h b e hg).1
theorem Wf.push {σ : FState} (h : Wf σ) (o : FObj) (fz : Option Nat) : Wf (σ.push o fz) := fun b e hb => by
  rw [push_get] at hb
  rw [push_next, push_clock]
  by_cases hn : b = σ.next
  · rw [if_pos hn] at hb
    cases hb
    exact ⟨by omega, Nat.lt_succ_self _⟩
  · rw [if_neg hn] at hb
    have := h b e hb
    exact ⟨by omega, by omega⟩
theorem Wf.put {σ : FState} (h : Wf σ) (c : Nat) (o : FObj) (fz : Option Nat) (hc : c < σ.next) : Wf (σ.put c o fz) := fun b e hb => by
  rw [put_get] at hb
  rw [put_next, put_clock]
  by_cases hn : b = c
  · rw [if_pos hn] at hb
    cases hb
    exact ⟨by omega, Nat.lt_succ_self _⟩
  · rw [if_neg hn] at hb
    have := h b e hb
    exact ⟨by omega, by omega⟩

/-- A datum. -/
inductive D where
  | mk (kind num : Int) (text : ByteArray) (parts : List D)
mutual
/-- A value reads as a datum. -/
def Laid (σ : FState) : Value → D → Prop
  | v, .mk k n t ds => ∃ p c, v = .agg #[.int .i64 k, .int .i64 n, .string t, .slice p ds.length c] ∧ LaidE σ p 0 ds
/-- Elements of a slice, from one on. -/
def LaidE (σ : FState) : Option Addr → Nat → List D → Prop
  | _, _, [] => True
  | p, i, d :: ds => (∃ b off cs, p = some ⟨b, off, none⟩ ∧ σ.cells b = some cs ∧ 4 ≤ cs.length - (off + i * 4) ∧ Laid σ (.agg ((cs.drop (off + i * 4)).take 4).toArray) d) ∧ LaidE σ p (i + 1) ds
end
mutual
theorem Laid.ext {σ σ' : FState} (hw : Wf σ) (h : Ext σ σ') : ∀ {v : Value} {d : D}, Laid σ v d → Laid σ' v d
  | _, .mk _ _ _ _, ⟨p, c, hv, he⟩ => ⟨p, c, hv, LaidE.ext hw h he⟩
theorem LaidE.ext {σ σ' : FState} (hw : Wf σ) (h : Ext σ σ') : ∀ {p : Option Addr} {i : Nat} {ds : List D}, LaidE σ p i ds → LaidE σ' p i ds
  | _, _, [], _ => trivial
  | _, _, _ :: _, ⟨⟨b, off, cs, hp, hc, hl, hd⟩, hr⟩ => ⟨⟨b, off, cs, hp, (h.cells (hw.cells hc)).trans hc, hl, Laid.ext hw h hd⟩, LaidE.ext hw h hr⟩
end
theorem LaidE.get {σ : FState} {p : Option Addr} : ∀ {i : Nat} {ds : List D} {k : Nat} {d : D}, LaidE σ p i ds → ds[k]? = some d →
    ∃ b off cs, p = some ⟨b, off, none⟩ ∧ σ.cells b = some cs ∧ 4 ≤ cs.length - (off + (i + k) * 4) ∧ Laid σ (.agg ((cs.drop (off + (i + k) * 4)).take 4).toArray) d
  | i, d :: ds, 0, _, h, hk => by
    cases hk
    exact h.1
  | i, d :: ds, k + 1, _, h, hk => by
    have := LaidE.get (i := i + 1) h.2 (k := k) (by simpa using hk)
    rwa [show i + 1 + k = i + (k + 1) by omega] at this
  | _, [], _, _, _, hk => by simp at hk
mutual
/-- Equal pieces, and equal parts. -/
def D.same : D → D → Bool
  | .mk k n t ds, .mk k' n' t' ds' => decide (k = k') && decide (n = n') && (t.toList == t'.toList) && D.sames ds ds'
def D.sames : List D → List D → Bool
  | [], [] => true
  | d :: ds, d' :: ds' => D.same d d' && D.sames ds ds'
  | _, _ => false
end
mutual
/-- How many data are inside of one another. -/
def D.deep : D → Nat
  | .mk _ _ _ ds => D.deeps ds + 1
def D.deeps : List D → Nat
  | [] => 0
  | d :: ds => max (D.deep d) (D.deeps ds)
end
end Go.Eng
namespace Go.Eng
open Go
theorem flenL_eq (p : Option Addr) (n c : Nat) (σ : FState) : flenL (.slice p n c) σ = .val (.int .i64 (.ofNat n)) σ := rfl
theorem flenS_eq (s : ByteArray) (σ : FState) : flenS (.string s) σ = .val (.int .i64 (.ofNat s.size)) σ := rfl
theorem findex_eq (b off l c n size : Nat) (k : IntKind) (σ : FState) : findex (none, size) (.slice (some ⟨b, off, none⟩) l c) (.int k (.ofNat n)) σ = (if n < l then .val (.pointer (some ⟨b, off + n * size, none⟩)) σ else .no) := by
  show cond (Nat.blt n l) _ _ = _
  by_cases h : n < l
  · rw [show Nat.blt n l = true by simpa [Nat.blt_eq] using h, if_pos h]; rfl
  · rw [show Nat.blt n l = false by rw [← Bool.not_eq_true, Nat.blt_eq]; exact h, if_neg h]; rfl
/-! Regions whose order is drawn. -/
section
variable (P : Program) (H : Hints) (E : Env) (ro : Option Nat) (fn : FuncId) (a : FAct) (u : Option FrameMode) (σ : FState) (d : Nat)
variable (last : List Nat → RunF) (cl : List Nat)
variable (dst : Option Tmp) (k : RunF)
theorem drawF_val (v : Value) (lam : Nat) : drawF dst a u σ k (.val v (view σ lam)) = k (a.put dst v) u σ := by
  have : regrow σ (view σ lam) = some σ := by
    unfold regrow
    rw [show Nat.beq (view σ lam).next σ.next = true by rw [Nat.beq_eq]; rfl]
    rfl
  unfold drawF
  simp only [this]
theorem drawF_push (v : Value) (lam : Nat) (o : FObj) (fz : Option Nat) : drawF dst a u σ k (.val v ((view σ lam).push o fz)) = k (a.put dst v) u (σ.push o fz) := by
  have : regrow σ ((view σ lam).push o fz) = some (σ.push o fz) := by
    unfold regrow
    rw [show Nat.beq ((view σ lam).push o fz).next σ.next = false by rw [← Bool.not_eq_true, Nat.beq_eq]; show ¬ σ.next + 1 = σ.next; omega]
    rw [push_get]
    have e : (view σ lam).next = σ.next := rfl
    rw [e, if_pos rfl]
    rfl
  unfold drawF
  simp only [this]
theorem stepOp_eq (r : ORes) : stepOp E ro dst a u r = afterOp E ro dst a u (fun a u σ => .done .normal a u σ) r := rfl
theorem drawA_normal (free : Bool) : drawA free k (.done .normal a u σ) = k a u σ := rfl
theorem view_next (lam : Nat) : (view σ lam).next = σ.next := rfl
theorem nth_zero {α : Type} (x : α) (l : List α) : nth (x :: l) 0 = some x := rfl
theorem nth_succ {α : Type} (x : α) (l : List α) (n : Nat) : nth (x :: l) (n + 1) = nth l n := rfl
theorem view_cells (lam b : Nat) : (view σ lam).cells b = (σ.heap.get b).bind fun e => if e.ver < lam then e.obj.cells? else none := by
  rw [cells_get, view_get]
  cases σ.heap.get b with
  | none => rfl
  | some e =>
    simp only [Option.bind_some]
    by_cases h : e.ver < lam
    · rw [if_pos h, if_pos h]; rfl
    · rw [if_neg h, if_neg h]; rfl
end
theorem view_wf {σ : FState} (h : Wf σ) {lam : Nat} (hl : σ.clock ≤ lam) (b : Nat) : (view σ lam).cells b = σ.cells b := by
  rw [view_cells, cells_get]
  cases hg : σ.heap.get b with
  | none => rfl
  | some e =>
    simp only [Option.bind_some]
    rw [if_pos (by have := (h b e hg).2; omega)]
/-- One round more. -/
theorem floop_step (keep : List Nat) (run : RunF) (n : Nat) (a : FAct) (u : Option FrameMode) (σ : FState) : floop keep run (n + 1) a u σ = andThen (run (a.forget keep) u σ) (floop keep run n) := rfl
theorem forget_tmp (keep : List Nat) (a : FAct) (t : Nat) : (a.forget keep).tmp t = if t ∈ keep then a.tmp t else undef := by
  induction keep with
  | nil => simp; rfl
  | cons x r ih =>
    show Bool.rec (motive := fun _ => Value) ((a.forget r).tmp t) (a.tmp x) (Nat.beq t x) = _
    by_cases hx : t = x
    · subst hx
      rw [show Nat.beq t t = true by rw [Nat.beq_eq]]
      simp
    · rw [show Nat.beq t x = false by rw [← Bool.not_eq_true, Nat.beq_eq]; exact hx, ih]
      simp [hx]
theorem forget_get (keep : List Nat) (a : FAct) (h : a.ok) (t : Nat) : (a.forget keep).get t = if t < a.nl ∨ t ∈ keep then a.get t else undef := by
  have hl : (a.forget keep).loc = a.loc := rfl
  have hn : (a.forget keep).nl = a.nl := Nat.le_antisymm (Nat.le_refl _) (Nat.le_refl _)
  by_cases hlt : t < a.nl
  · rw [if_pos (.inl hlt)]
    unfold FAct.get
    rw [hl, hn, show Nat.ble a.nl t = false by rw [← Bool.not_eq_true, Nat.ble_eq]; omega]
  · have hb : Nat.ble a.nl t = true := by rw [Nat.ble_eq]; omega
    have e1 : a.get t = a.tmp t := by unfold FAct.get; rw [hb]
    have e2 : (a.forget keep).get t = (a.forget keep).tmp t := by unfold FAct.get; rw [hn, hb]
    rw [e1, e2]
    exact (forget_tmp keep a t).trans (by simp [hlt])
theorem forget_ok (keep : List Nat) (a : FAct) : (a.forget keep).ok = a.ok := propext Iff.rfl
theorem forget_nt (keep : List Nat) (a : FAct) : (a.forget keep).nt = a.nt := Nat.le_antisymm (Nat.le_refl _) (Nat.le_refl _)
theorem forget_nl (keep : List Nat) (a : FAct) : (a.forget keep).nl = a.nl := Nat.le_antisymm (Nat.le_refl _) (Nat.le_refl _)
theorem forget_defers (keep : List Nat) (a : FAct) : (a.forget keep).defers = a.defers := rfl
end Go.Eng
namespace Go.Eng
open Go
/-! The code of a function, written out. -/
def skipR : RunF := fun a u σ => .done .normal a u σ
def retR : RunF := fun a u σ => .done .ret a u σ
def exitR (id : Nat) : RunF := fun a u σ => .done (.exit id) a u σ
def gotoR (l : Nat) : RunF := fun a u σ => .done (.goto l) a u σ
noncomputable def seqR (x y : RunF) : RunF := fun a u σ => andThen (x a u σ) y
def condR (c : FAct → Value) (x y : RunF) : RunF := fun a u σ => match c a with
  | .bool true => x a u σ
  | .bool false => y a u σ
  | _ => .no
noncomputable def blockR (id : Nat) (x : RunF) : RunF := fun a u σ => match x a u σ with
  | .done (.exit id') a u σ => cond (Nat.beq id' id) (.done .normal a u σ) (.done (.exit id') a u σ)
  | r => r
noncomputable def loopR (keep : List Nat) (x : RunF) : RunF := fun a u σ => floop keep x bigFuel a u σ
noncomputable def drawR (E : Env) (ro : Option Nat) (l : List DOp) : RunF := fun a u σ => fdraw E ro (fun _ a u σ => .done .normal a u σ) l [σ.clock] a u σ
noncomputable def drawSR (E : Env) (ro : Option Nat) (l : List DOp) (sb sa : SOp) (fl : List DOp) : RunF := fun a u σ => fdraw E ro (fswap E ro sb sa fl) l [σ.clock] a u σ
noncomputable def leaveR (P : Program) (E : Env) (rs : List ResultVar) (r : KRes) : CRes := match r with
  | .done .normal a u σ => fleave P E rs a u a.defers .returning σ
  | .done .ret a u σ => fleave P E rs a u a.defers .returning σ
  | .done (.panic ch) a u σ => fleave P E rs a u a.defers (.panicking ch) σ
  | _ => .no
def gd (v : Value) (want : Bool) : Option Bool := match v with
  | .bool b => some (b == want)
  | .chan none => some false
  | _ => none
noncomputable def i_add (P : Program) (t : TypeId) (x y : Operand) (a b : Value) (σ : FState) : ORes := fbinI (fun a b => .int .i64 (wrapI (a + b))) a b (fbin0 P .add t x y a b σ) σ
noncomputable def i_sub (P : Program) (t : TypeId) (x y : Operand) (a b : Value) (σ : FState) : ORes := fbinI (fun a b => .int .i64 (wrapI (a - b))) a b (fbin0 P .sub t x y a b σ) σ
noncomputable def i_mul (P : Program) (t : TypeId) (x y : Operand) (a b : Value) (σ : FState) : ORes := fbinI (fun a b => .int .i64 (wrapI (a * b))) a b (fbin0 P .mul t x y a b σ) σ
noncomputable def i_eql (P : Program) (t : TypeId) (x y : Operand) (a b : Value) (σ : FState) : ORes := fbinI (fun a b => .bool (ieq a b)) a b (fbin0 P .eql t x y a b σ) σ
noncomputable def i_neq (P : Program) (t : TypeId) (x y : Operand) (a b : Value) (σ : FState) : ORes := fbinI (fun a b => .bool (!ieq a b)) a b (fbin0 P .neq t x y a b σ) σ
noncomputable def i_lss (P : Program) (t : TypeId) (x y : Operand) (a b : Value) (σ : FState) : ORes := fbinI (fun a b => .bool (!ile b a)) a b (fbin0 P .lss t x y a b σ) σ
noncomputable def i_leq (P : Program) (t : TypeId) (x y : Operand) (a b : Value) (σ : FState) : ORes := fbinI (fun a b => .bool (ile a b)) a b (fbin0 P .leq t x y a b σ) σ
noncomputable def i_gtr (P : Program) (t : TypeId) (x y : Operand) (a b : Value) (σ : FState) : ORes := fbinI (fun a b => .bool (!ile a b)) a b (fbin0 P .gtr t x y a b σ) σ
noncomputable def i_geq (P : Program) (t : TypeId) (x y : Operand) (a b : Value) (σ : FState) : ORes := fbinI (fun a b => .bool (ile b a)) a b (fbin0 P .geq t x y a b σ) σ
/-- The rounds of a code, in the order of the text. -/
def rangesOf : Code → List (Code × Code)
  | .seq x y => rangesOf x ++ rangesOf y
  | .cond _ x y => rangesOf x ++ rangesOf y
  | .block _ x => rangesOf x
  | .loop x => rangesOf x
  | .scope x => rangesOf x
  | .rangeFunc _ _ x y => (x, y) :: (rangesOf x ++ rangesOf y)
  | _ => []
/-- The scopes of a code, in the order of the text. -/
def scopesOf : Code → List Code
  | .seq x y => scopesOf x ++ scopesOf y
  | .cond _ x y => scopesOf x ++ scopesOf y
  | .block _ x => scopesOf x
  | .loop x => scopesOf x
  | .scope x => x :: scopesOf x
  | .rangeFunc _ _ x y => scopesOf x ++ scopesOf y
  | _ => []
section
variable (a : FAct) (u : Option FrameMode) (σ : FState)
theorem skipR_go : skipR a u σ = .done .normal a u σ := rfl
theorem retR_go : retR a u σ = .done .ret a u σ := rfl
theorem exitR_go (id : Nat) : exitR id a u σ = .done (.exit id) a u σ := rfl
theorem seqR_go (x y : RunF) : seqR x y a u σ = andThen (x a u σ) y := rfl
theorem drawR_go (E : Env) (ro : Option Nat) (l : List DOp) : drawR E ro l a u σ = fdraw E ro (fun _ a u σ => .done .normal a u σ) l [σ.clock] a u σ := rfl
theorem leaveR_ret (P : Program) (E : Env) (rs : List ResultVar) : leaveR P E rs (.done .ret a u σ) = fleave P E rs a u a.defers .returning σ := rfl
theorem leaveR_normal (P : Program) (E : Env) (rs : List ResultVar) : leaveR P E rs (.done .normal a u σ) = fleave P E rs a u a.defers .returning σ := rfl
variable (E : Env) (ro : Option Nat) (last : List Nat → RunF) (cl : List Nat)
theorem fdraw_nil' : fdraw E ro last [] cl a u σ = last cl a u σ := rfl
theorem fdraw_f (op : OpF) (dst : Option Tmp) (g : FAct → Option Bool) (q : Nat) (free : Bool) (l : List DOp) : fdraw E ro last (⟨op, dst, g, some q, free⟩ :: l) cl a u σ =
    (match g a with
       | none => .no
       | some false => fdraw E ro last l cl (a.put dst skipV) u σ
       | some true => (match nth cl q with
         | some lam => drawF dst a u σ (fdraw E ro last l cl) (op a (view σ lam))
         | none => .no)) := by
  show Option.rec (motive := fun _ => KRes) .no _ (g a) = _
  cases g a with
  | none => rfl
  | some g => cases g <;> rfl
theorem fdraw_a (op : OpF) (dst : Option Tmp) (g : FAct → Option Bool) (free : Bool) (l : List DOp) : fdraw E ro last (⟨op, dst, g, none, free⟩ :: l) cl a u σ =
    (match g a with
       | none => .no
       | some false => fdraw E ro last l (cl ++ [σ.clock]) (a.put dst skipV) u σ
       | some true => drawA free (fun a u σ => fdraw E ro last l (cl ++ [σ.clock]) a u σ) (stepOp E ro dst a u (op a σ))) := by
  show Option.rec (motive := fun _ => KRes) .no _ (g a) = _
  cases g a with
  | none => rfl
  | some g => cases g <;> rfl
theorem fops_c (op : OpF) (dst : Option Tmp) (g : FAct → Option Bool) (l : List COp) : fops E ro (⟨op, dst, g⟩ :: l) a u σ = (match g a with | none => .no | some false => fops E ro l (a.put dst skipV) u σ | some true => afterOp E ro dst a u (fops E ro l) (op a σ)) := fops_cons E ro a u σ _ _
end
end Go.Eng
namespace Go.Eng
open Go
theorem box_go (e : TypeId) (v : Value) (σ : FState) : fbox e v σ = if notTuple v = true then .val (.pointer (some ⟨σ.next, 0, none⟩)) (σ.push (.cells (valCells v) e) none) else .no := by
  cases h : notTuple v with
  | true => rw [fbox_eq _ _ _ h]; rfl
  | false => unfold fbox; rw [h]; rfl
theorem newCells_go (c : List Value) (el : TypeId) (fz : Option Nat) (σ : FState) : newCells c el fz σ = .val (.pointer (some ⟨σ.next, 0, none⟩)) (σ.push (.cells c el) fz) := rfl
section
variable (P : Program) (t : TypeId) (x y : Operand) (n m : Int) (s r : ByteArray) (σ : FState)
theorem eql_int : i_eql P t x y (.int .i64 n) (.int .i64 m) σ = .val (.bool (n == m)) σ := by
  show ORes.val (.bool (ieq n m)) σ = _
  rw [ieq_eq]
theorem neq_int : i_neq P t x y (.int .i64 n) (.int .i64 m) σ = .val (.bool (!(n == m))) σ := by
  show ORes.val (.bool (!ieq n m)) σ = _
  rw [ieq_eq]
theorem lss_int : i_lss P t x y (.int .i64 n) (.int .i64 m) σ = .val (.bool (decide (n < m))) σ := by
  show ORes.val (.bool (!ile m n)) σ = _
  rw [ile_eq]
  congr 2
  rw [Bool.eq_iff_iff]; simp
theorem leq_int : i_leq P t x y (.int .i64 n) (.int .i64 m) σ = .val (.bool (decide (n ≤ m))) σ := by
  show ORes.val (.bool (ile n m)) σ = _
  rw [ile_eq]
theorem gtr_int : i_gtr P t x y (.int .i64 n) (.int .i64 m) σ = .val (.bool (decide (n > m))) σ := by
  show ORes.val (.bool (!ile n m)) σ = _
  rw [ile_eq]
  congr 2
  rw [Bool.eq_iff_iff]; simp
theorem geq_int : i_geq P t x y (.int .i64 n) (.int .i64 m) σ = .val (.bool (decide (n ≥ m))) σ := by
  show ORes.val (.bool (ile m n)) σ = _
  rw [ile_eq]
theorem add_int : i_add P t x y (.int .i64 n) (.int .i64 m) σ = .val (.int .i64 (wrapI (n + m))) σ := rfl
theorem sub_int : i_sub P t x y (.int .i64 n) (.int .i64 m) σ = .val (.int .i64 (wrapI (n - m))) σ := rfl
theorem mul_int : i_mul P t x y (.int .i64 n) (.int .i64 m) σ = .val (.int .i64 (wrapI (n * m))) σ := rfl
theorem eql_str : i_eql P t x y (.string s) (.string r) σ = .val (.bool (s.toList == r.toList)) σ := str_eql P t x y s r σ
theorem neq_str : i_neq P t x y (.string s) (.string r) σ = .val (.bool (!(s.toList == r.toList))) σ := str_neq P t x y s r σ
theorem not_go (b : Bool) : fun1 P (Op.unary .not) (.bool b) σ = .val (.bool (!b)) σ := rfl
end
theorem wrapI_of {n : Int} (h : -9223372036854775808 ≤ n ∧ n ≤ 9223372036854775807) : wrapI n = n := by
  cases n with
  | ofNat k =>
    show cond (Nat.ble k 9223372036854775807) _ _ = _
    have : k ≤ 9223372036854775807 := by have := h.2; rw [Int.ofNat_eq_natCast] at this; omega
    rw [show Nat.ble k 9223372036854775807 = true by rw [Nat.ble_eq]; exact this]
    rfl
  | negSucc k =>
    show cond (Nat.ble k 9223372036854775807) _ _ = _
    have : k ≤ 9223372036854775807 := by have := h.1; rw [Int.negSucc_eq] at this; omega
    rw [show Nat.ble k 9223372036854775807 = true by rw [Nat.ble_eq]; exact this]
    rfl
/-- What a call comes to: a value, and memory in which what was there is as it was. -/
def Gives (r : CRes) (σ : FState) (Q : Value → FState → Prop) : Prop := ∃ v σ', r = .ret v none σ' ∧ Ext σ σ' ∧ Wf σ' ∧ Q v σ'
end Go.Eng
namespace Go.Eng
open Go
theorem gd_skip (w : Bool) : gd skipV w = some false := rfl
theorem gd_true (b : Bool) : gd (.bool b) true = some b := by cases b <;> rfl
theorem gd_false (b : Bool) : gd (.bool b) false = some (!b) := by cases b <;> rfl
theorem leave_tmp (P : Program) (E : Env) (t : Tmp) (a : FAct) (u : Option FrameMode) (σ : FState) : fleave P E [.tmp t] a u [] .returning σ = .ret (a.get t) u σ := rfl
theorem leave_tmp2 (P : Program) (E : Env) (t t' : Tmp) (a : FAct) (u : Option FrameMode) (σ : FState) : fleave P E [.tmp t, .tmp t'] a u [] .returning σ = .ret (.tuple #[a.get t, a.get t']) u σ := rfl
theorem leave_tmp3 (P : Program) (E : Env) (t t' t'' : Tmp) (a : FAct) (u : Option FrameMode) (σ : FState) : fleave P E [.tmp t, .tmp t', .tmp t''] a u [] .returning σ = .ret (.tuple #[a.get t, a.get t', a.get t'']) u σ := rfl
theorem use_call {X : FState → CRes} {σ σ1 : FState} {r : CRes} {Q : Value → FState → Prop} (hr : X σ1 = r) (h : ∀ σ', Ext σ σ' → Wf σ' → Gives (X σ') σ' Q) (hx : Ext σ σ1) (hw : Wf σ1) : Gives r σ1 Q := hr ▸ h σ1 hx hw
theorem condR_val {c : FAct → Value} {x y : RunF} {a : FAct} {u : Option FrameMode} {σ : FState} : condR c x y a u σ = (match c a with
  | .bool b => if b = true then x a u σ else y a u σ
  | _ => .no) := by
  unfold condR
  cases c a with
  | bool b => cases b <;> rfl
  | _ => rfl
end Go.Eng
namespace Go.Eng
open Go
/-- What a block makes of what comes out of it. -/
noncomputable def blockK (id : Nat) (r : KRes) : KRes := match r with
  | .done (.exit id') a u σ => cond (Nat.beq id' id) (.done .normal a u σ) (.done (.exit id') a u σ)
  | r => r
section
variable (a : FAct) (u : Option FrameMode) (σ : FState)
theorem blockR_k (id : Nat) (x : RunF) : blockR id x a u σ = blockK id (x a u σ) := rfl
theorem blockK_normal (id : Nat) : blockK id (.done .normal a u σ) = .done .normal a u σ := rfl
theorem blockK_ret (id : Nat) : blockK id (.done .ret a u σ) = .done .ret a u σ := rfl
theorem blockK_exit (id id' : Nat) : blockK id (.done (.exit id') a u σ) = if id' = id then .done .normal a u σ else .done (.exit id') a u σ := by
  show cond (Nat.beq id' id) _ _ = _
  by_cases h : id' = id
  · rw [if_pos h, show Nat.beq id' id = true by rw [Nat.beq_eq]; exact h]; rfl
  · rw [if_neg h, show Nat.beq id' id = false by rw [← Bool.not_eq_true, Nat.beq_eq]; exact h]; rfl
theorem loopR_go (keep : List Nat) (x : RunF) : loopR keep x a u σ = floop keep x bigFuel a u σ := rfl
end
theorem nl_put (a : FAct) (dst : Option Tmp) (v : Value) : (a.put dst v).nl = a.nl := by
  cases dst with
  | none => rfl
  | some d =>
    show FAct.nl (Bool.rec (motive := fun _ => FAct) a (a.putT d v) (Nat.blt d a.nt)) = _
    cases Nat.blt d a.nt with
    | false => rfl
    | true =>
      show FAct.nl (a.putT d v) = _
      unfold FAct.putT
      cases Nat.ble a.nl d <;> rfl
theorem sames_length : ∀ {ds ds' : List D}, D.sames ds ds' = true → ds.length = ds'.length
  | [], [], _ => rfl
  | _ :: ds, _ :: ds', h => by
    have h' : (D.same _ _ && D.sames ds ds') = true := h
    rw [Bool.and_eq_true] at h'
    simp [sames_length h'.2]
  | [], _ :: _, h => by simp [D.sames] at h
  | _ :: _, [], h => by simp [D.sames] at h
end Go.Eng
namespace Go.Eng
open Go
/-! Numbers of 64 bits without a sign. -/
def xorI (a b : Int) : Int := IntKind.u64.wrap ((BitVec.ofInt 64 a ^^^ BitVec.ofInt 64 b).toNat)
theorem wrapU_range (n : Int) : 0 ≤ IntKind.u64.wrap n ∧ IntKind.u64.wrap n < 18446744073709551616 := by
  have h : IntKind.u64.wrap n = n % 18446744073709551616 := rfl
  rw [h]
  omega
theorem wrapU_of {n : Int} (h : 0 ≤ n ∧ n < 18446744073709551616) : IntKind.u64.wrap n = n := by
  have e : IntKind.u64.wrap n = n % 18446744073709551616 := rfl
  rw [e]
  omega
theorem wrapS_of {n : Int} (h : -9223372036854775808 ≤ n ∧ n ≤ 9223372036854775807) : IntKind.i64.wrap n = n := by
  have e : IntKind.i64.wrap n = (if n % 18446744073709551616 ≥ 9223372036854775808 then n % 18446744073709551616 - 18446744073709551616 else n % 18446744073709551616) := by
    show (if (true && decide (n % 18446744073709551616 ≥ 9223372036854775808)) = true then _ else _) = _
    simp
    rfl
  rw [e]
  split <;> omega
theorem xorI_range (a b : Int) : 0 ≤ xorI a b ∧ xorI a b < 18446744073709551616 := wrapU_range _
section
variable (P : Program) (t : TypeId) (x y : Operand) (a b : Int) (σ : FState)
theorem add_u64 : i_add P t x y (.int .u64 a) (.int .u64 b) σ = .val (.int .u64 (IntKind.u64.wrap (a + b))) σ := by kernel_rfl
theorem mul_u64 : i_mul P t x y (.int .u64 a) (.int .u64 b) σ = .val (.int .u64 (IntKind.u64.wrap (a * b))) σ := by kernel_rfl
theorem xor_u64 : fbin0 P .xor t x y (.int .u64 a) (.int .u64 b) σ = .val (.int .u64 (xorI a b)) σ := by kernel_rfl
theorem shr32_u64 : fbin0 P .shr t x y (.int .u64 a) (.int .u64 32) σ = .val (.int .u64 (a.fdiv 4294967296)) σ := by kernel_rfl
theorem shr27_u64 : fbin0 P .shr t x y (.int .u64 a) (.int .u64 27) σ = .val (.int .u64 (a.fdiv 134217728)) σ := by kernel_rfl
theorem shr9_u64 : fbin0 P .shr t x y (.int .u64 a) (.int .u64 9) σ = .val (.int .u64 (a.fdiv 512)) σ := by kernel_rfl
theorem rem_u64 (h : b ≠ 0) : fbin0 P .rem t x y (.int .u64 a) (.int .u64 b) σ = .val (.int .u64 (a.tmod b)) σ := by
  unfold fbin0 orPure
  simp [eqGuard, binOp, flat, Op.intDiv, h]
  rfl
theorem nilCheck_ptr (p : Addr) : fnilCheck (.pointer (some p)) σ = .val (.pointer (some p)) σ := rfl
end
theorem fstore1 (b off : Nat) (v : Value) (σ : FState) (hv : oneCell v = true) : fstore 1 (.pointer (some ⟨b, off, none⟩)) v σ =
    (match σ.heap.get b with
     | some e => (match e.obj, e.ro with
       | .cells c el, false => if off < c.length then .skip (σ.put b (.cells (c.set off v) el) e.fz) else .no
       | _, _ => .no)
     | none => .no) := by
  have hc : valCells v = [v] ∧ notTuple v = true := by cases v <;> first | exact ⟨rfl, rfl⟩ | cases hv
  unfold fstore
  cases hg : σ.heap.get b with
  | none => simp only [hg]
  | some e =>
    obtain ⟨o, ro, fz, ver⟩ := e
    simp only [hg]
    cases o with
    | cells c el => cases ro with
      | true => rfl
      | false =>
        simp only [hc.1, hc.2]
        show cond (true && Nat.beq (len [v]) 1 && [v].all oneCell) _ _ = _
        have : (true && Nat.beq (len [v]) 1 && [v].all oneCell) = true := by
          simp [hv]; rfl
        rw [this]
        simp only [cond_true, spliceN_eq, List.length_singleton]
        by_cases h : off < c.length
        · rw [if_pos (by omega), if_pos h]
          simp only []
          congr 3
          rw [List.set_eq_take_append_cons_drop, if_pos h]
          simp
        · rw [if_neg (by omega), if_neg h]
    | _ => cases ro <;> rfl
/-- Blocks other than one are as they were. -/
structure ExtC (x : Nat) (σ σ' : FState) : Prop where
  next : σ.next ≤ σ'.next
  clock : σ.clock ≤ σ'.clock
  get : ∀ b, b < σ.next → b ≠ x → σ'.heap.get b = σ.heap.get b
theorem ExtC.refl (x : Nat) (σ : FState) : ExtC x σ σ := ⟨Nat.le_refl _, Nat.le_refl _, fun _ _ _ => rfl⟩
theorem ExtC.trans {x : Nat} {σ σ₁ σ₂ : FState} (h : ExtC x σ σ₁) (k : ExtC x σ₁ σ₂) : ExtC x σ σ₂ :=
  ⟨Nat.le_trans h.next k.next, Nat.le_trans h.clock k.clock, fun b hb hx => (k.get b (Nat.lt_of_lt_of_le hb h.next) hx).trans (h.get b hb hx)⟩
theorem ExtC.push {x : Nat} {σ σ₁ : FState} (h : ExtC x σ σ₁) (o : FObj) (fz : Option Nat) : ExtC x σ (σ₁.push o fz) :=
  ⟨Nat.le_succ_of_le h.next, Nat.le_succ_of_le h.clock, fun b hb hx => by
    rw [push_get, if_neg (by have := h.next; omega)]
    exact h.get b hb hx⟩
theorem ExtC.put {x : Nat} {σ σ₁ : FState} (h : ExtC x σ σ₁) (o : FObj) (fz : Option Nat) : ExtC x σ (σ₁.put x o fz) :=
  ⟨h.next, Nat.le_succ_of_le h.clock, fun b hb hx => by
    rw [put_get, if_neg hx]
    exact h.get b hb hx⟩
theorem ExtC.putNew {x : Nat} {σ σ₁ : FState} (h : ExtC x σ σ₁) (c : Nat) (o : FObj) (fz : Option Nat) (hc : σ.next ≤ c) : ExtC x σ (σ₁.put c o fz) :=
  ⟨h.next, Nat.le_succ_of_le h.clock, fun b hb hx => by
    rw [put_get, if_neg (by omega)]
    exact h.get b hb hx⟩
theorem Ext.toC {σ σ' : FState} (h : Ext σ σ') (x : Nat) : ExtC x σ σ' := ⟨h.next, h.clock, fun b hb _ => h.get b hb⟩
theorem ExtC.cells {x : Nat} {σ σ' : FState} (h : ExtC x σ σ') {b : Nat} (hb : b < σ.next) (hx : b ≠ x) : σ'.cells b = σ.cells b := by
  rw [cells_get, cells_get, h.get b hb hx]
end Go.Eng
namespace Go.Eng
open Go
/-! Slots by what they hold. -/
def upd (f : Nat → Value) (d : Nat) (v : Value) : Nat → Value := fun t => if t = d then v else f t
theorem upd_go (f : Nat → Value) (d : Nat) (v : Value) (t : Nat) : upd f d v t = if t = d then v else f t := rfl
noncomputable def Sl (nl nt : Nat) (f g : Nat → Value) (ds : List Deferred) : FAct := ⟨(List.range nl).map f, g, nl, nt, ds⟩
theorem Sl_get (nl nt : Nat) (f g : Nat → Value) (ds : List Deferred) (t : Nat) : (Sl nl nt f g ds).get t = if t < nl then f t else g t := by
  show Bool.rec (motive := fun _ => Value) (Option.rec (motive := fun _ => Value) undef (fun v => v) (nth ((List.range nl).map f) t)) (g t) (Nat.ble nl t) = _
  rw [nth_eq]
  by_cases h : t < nl
  · have : Nat.ble nl t = false := by rw [← Bool.not_eq_true, Nat.ble_eq]; omega
    rw [this, if_pos h]
    simp [h]
  · have : Nat.ble nl t = true := by rw [Nat.ble_eq]; omega
    rw [this, if_neg h]
theorem Sl_put (nl nt : Nat) (f g : Nat → Value) (ds : List Deferred) (d : Nat) (v : Value) : (Sl nl nt f g ds).put (some d) v =
    if d < nt then (if d < nl then Sl nl nt (upd f d v) g ds else Sl nl nt f (upd g d v) ds) else Sl nl nt f g ds := by
  show (Bool.rec (motive := fun _ => FAct) (Sl nl nt f g ds) ((Sl nl nt f g ds).putT d v) (Nat.blt d nt)) = _
  by_cases h : d < nt
  · have : Nat.blt d nt = true := by simpa [Nat.blt_eq] using h
    rw [this, if_pos h]
    show (Sl nl nt f g ds).putT d v = _
    unfold FAct.putT
    by_cases hl : d < nl
    · have : Nat.ble nl d = false := by rw [← Bool.not_eq_true, Nat.ble_eq]; omega
      rw [if_pos hl]
      show Bool.rec (motive := fun _ => FAct) (⟨setNth v ((List.range nl).map f) d, g, nl, nt, ds⟩ : FAct) _ (Nat.ble nl d) = _
      rw [this, setNth_eq]
      show (⟨((List.range nl).map f).set d v, g, nl, nt, ds⟩ : FAct) = ⟨(List.range nl).map (upd f d v), g, nl, nt, ds⟩
      congr 1
      apply List.ext_getElem?
      intro i
      rw [List.getElem?_set]
      simp only [List.length_map, List.length_range, List.getElem?_map, upd]
      by_cases hi : d = i
      · subst hi
        simp [hl, upd]
      · rw [if_neg hi]
        by_cases hin : i < nl
        · simp [hin, Ne.symm hi, upd]
        · simp [hin]
    · have : Nat.ble nl d = true := by rw [Nat.ble_eq]; omega
      rw [if_neg hl]
      show Bool.rec (motive := fun _ => FAct) _ (⟨(List.range nl).map f, fun k => Bool.rec (motive := fun _ => Value) (g k) v (Nat.beq k d), nl, nt, ds⟩ : FAct) (Nat.ble nl d) = _
      rw [this]
      show (⟨(List.range nl).map f, fun k => Bool.rec (motive := fun _ => Value) (g k) v (Nat.beq k d), nl, nt, ds⟩ : FAct) = ⟨(List.range nl).map f, upd g d v, nl, nt, ds⟩
      congr 1
      funext k
      unfold upd
      by_cases hk : k = d
      · subst hk
        rw [if_pos rfl, show Nat.beq k k = true by rw [Nat.beq_eq]]
      · rw [if_neg hk, show Nat.beq k d = false by rw [← Bool.not_eq_true, Nat.beq_eq]; exact hk]
  · have : Nat.blt d nt = false := by rw [← Bool.not_eq_true, Nat.blt_eq]; exact h
    rw [this, if_neg h]
theorem Sl_start (nl nt : Nat) (args : List Value) (ds : List Deferred) : (⟨padTo undef nl args, fun _ => undef, nl, nt, ds⟩ : FAct) = Sl nl nt (fun t => args[t]?.getD undef) (fun _ => undef) ds := by
  unfold Sl
  congr 1
  apply List.ext_getElem?
  intro i
  rw [padTo_get]
  by_cases h : i < nl <;> simp [h]
theorem Sl_defers (nl nt : Nat) (f g : Nat → Value) (ds : List Deferred) : (Sl nl nt f g ds).defers = ds := by simp [Sl]
theorem Sl_nl (nl nt : Nat) (f g : Nat → Value) (ds : List Deferred) : (Sl nl nt f g ds).nl = nl := by simp [Sl]
/-- What lasts from one round to the next. -/
def kept (keep : List Nat) (g : Nat → Value) : Nat → Value := fun t => if t ∈ keep then g t else undef
theorem kept_go (keep : List Nat) (g : Nat → Value) (t : Nat) : kept keep g t = if t ∈ keep then g t else undef := rfl
theorem Sl_forget (nl nt : Nat) (f g : Nat → Value) (ds : List Deferred) (keep : List Nat) : (Sl nl nt f g ds).forget keep = Sl nl nt f (kept keep g) ds := by
  have e : ((Sl nl nt f g ds).forget keep).tmp = kept keep g := by
    funext t
    rw [forget_tmp]
    rfl
  show (⟨(List.range nl).map f, ((Sl nl nt f g ds).forget keep).tmp, nl, nt, ds⟩ : FAct) = _
  rw [e]
  rfl
end Go.Eng
namespace Go.Eng
open Go
theorem cells_of_get {σ : FState} {x : Nat} {c : List Value} {t : TypeId} {ro : Bool} {fz : Option Nat} {ver : Nat} (h : σ.heap.get x = some ⟨.cells c t, ro, fz, ver⟩) : σ.cells x = some c := by
  rw [cells_get, h]; rfl
end Go.Eng
namespace Go.Eng
open Go
/-! Structs and slices that are built, and stores of several cells. -/
theorem lay_nil (place : Nat → Option (Nat × Nat)) (c : List Value) : lay place [] c = some c := rfl
theorem lay_cons (place : Nat → Option (Nat × Nat)) (i : Nat) (v : Value) (ps : List (Nat × Value)) (c : List Value) : lay place ((i, v) :: ps) c =
    (match place i with
     | some q => if notTuple v = true ∧ (valCells v).length = q.2 then (if q.1 + (valCells v).length ≤ c.length then lay place ps (c.take q.1 ++ valCells v ++ c.drop (q.1 + (valCells v).length)) else none) else none
     | none => none) := by
  show (match place i with
      | some (off, size) => cond (notTuple v && Nat.beq (len (valCells v)) size) (match spliceN off (valCells v) c with | some c' => lay place ps c' | none => none) none
      | none => none) = _
  cases place i with
  | none => rfl
  | some q =>
    obtain ⟨off, size⟩ := q
    simp only []
    rw [len_eq, spliceN_eq]
    by_cases h : notTuple v = true ∧ (valCells v).length = size
    · rw [if_pos h, show (notTuple v && Nat.beq (valCells v).length size) = true by rw [h.1, show Nat.beq (valCells v).length size = true by rw [Nat.beq_eq]; exact h.2]; rfl]
      by_cases hl : off + (valCells v).length ≤ c.length
      · rw [if_pos hl, if_pos hl]; rfl
      · rw [if_neg hl, if_neg hl]; rfl
    · rw [if_neg h]
      have : (notTuple v && Nat.beq (valCells v).length size) = false := by
        rw [← Bool.not_eq_true]
        intro hh
        rw [Bool.and_eq_true, Nat.beq_eq] at hh
        exact h hh
      rw [this]; rfl
theorem fbuild_go (place : Nat → Option (Nat × Nat)) (z : List Value) (ps : List (Nat × Value)) (σ : FState) : fbuild place z ps σ = (match lay place ps z with | some c => .val (.agg c.toArray) σ | none => .no) := by
  unfold fbuild
  cases lay place ps z <;> rfl
theorem fbuildSlice_go (e n s : Nat) (z : List Value) (ps : List (Nat × Value)) (σ : FState) : fbuildSlice e n s z ps σ = (match lay (fun i => some (i * s, s)) ps (reps n z) with | some c => .val (.slice (some ⟨σ.next, 0, none⟩) n n) (σ.push (.cells c e) none) | none => .no) := by
  unfold fbuildSlice
  cases lay (fun i => some (i * s, s)) ps (reps n z) <;> rfl
theorem reps_zero {α : Type} (z : List α) : reps 0 z = [] := rfl
theorem reps_succ {α : Type} (n : Nat) (z : List α) : reps (n + 1) z = z ++ reps n z := rfl
theorem fstoreN (n b off : Nat) (v : Value) (σ : FState) : fstore n (.pointer (some ⟨b, off, none⟩)) v σ =
    (match σ.heap.get b with
     | some e => (match e.obj, e.ro with
       | .cells c el, false => if notTuple v = true ∧ (valCells v).length = n ∧ (valCells v).all oneCell = true then
           (if off + (valCells v).length ≤ c.length then .skip (σ.put b (.cells (c.take off ++ valCells v ++ c.drop (off + (valCells v).length)) el) e.fz) else .no) else .no
       | _, _ => .no)
     | none => .no) := by
  unfold fstore
  cases hg : σ.heap.get b with
  | none => simp only [hg]
  | some e =>
    obtain ⟨o, ro, fz, ver⟩ := e
    simp only [hg]
    cases o with
    | cells c el => cases ro with
      | true => rfl
      | false =>
        simp only [len_eq, spliceN_eq]
        by_cases h : notTuple v = true ∧ (valCells v).length = n ∧ (valCells v).all oneCell = true
        · rw [if_pos h, show (notTuple v && Nat.beq (valCells v).length n && (valCells v).all oneCell) = true by rw [h.1, h.2.2, show Nat.beq (valCells v).length n = true by rw [Nat.beq_eq]; exact h.2.1]; rfl]
          by_cases hl : off + (valCells v).length ≤ c.length
          · rw [if_pos hl, if_pos hl]; rfl
          · rw [if_neg hl, if_neg hl]; rfl
        · rw [if_neg h]
          have : (notTuple v && Nat.beq (valCells v).length n && (valCells v).all oneCell) = false := by
            rw [← Bool.not_eq_true]
            intro hh
            rw [Bool.and_eq_true, Bool.and_eq_true, Nat.beq_eq] at hh
            exact h ⟨hh.1.1, hh.1.2, hh.2⟩
          rw [this]; rfl
    | _ => cases ro <;> rfl
theorem leave_cell (P : Program) (E : Env) (c : Tmp) (t : TypeId) (a : FAct) (u : Option FrameMode) (σ : FState) : fleave P E [.cell c t] a u [] .returning σ =
    (match aggSize P t with
     | some sz => (match fload sz (a.get c) σ with
       | .val v _ => .ret v u σ
       | _ => .no)
     | none => .no) := by
  rw [fleave_nil]
  show (match (match fresult P (.cell c t) a σ, some [] with | some v, some vs => some (v :: vs) | _, _ => none) with | some [v] => CRes.ret v u σ | some vs => _ | none => _) = _
  unfold fresult
  simp only []
  cases h : aggSize P t with
  | none => simp only []
  | some sz =>
    simp only []
    cases h2 : fload sz (a.get c) σ <;> simp only []
end Go.Eng
namespace Go.Eng
open Go
theorem fops_congr {a a' : FAct} {σ σ' : FState} (E : Env) (ro : Option Nat) (l : List COp) (u : Option FrameMode) (h : a = a') (k : σ = σ') : fops E ro l a u σ = fops E ro l a' u σ' := by rw [h, k]
theorem fdraw_congr {a a' : FAct} {σ σ' : FState} {cl cl' : List Nat} (E : Env) (ro : Option Nat) (last : List Nat → RunF) (l : List DOp) (u : Option FrameMode) (h0 : cl = cl') (h : a = a') (k : σ = σ') : fdraw E ro last l cl a u σ = fdraw E ro last l cl' a' u σ' := by rw [h0, h, k]
theorem afterOp_congr {a a' : FAct} {r r' : ORes} (E : Env) (ro : Option Nat) (dst : Option Tmp) (u : Option FrameMode) (k : RunF) (h : a = a') (h2 : r = r') : afterOp E ro dst a u k r = afterOp E ro dst a' u k r' := by rw [h, h2]
theorem drawF_congr {a a' : FAct} {r r' : ORes} {σ σ' : FState} (dst : Option Tmp) (u : Option FrameMode) (k : RunF) (h : a = a') (h1 : σ = σ') (h2 : r = r') : drawF dst a u σ k r = drawF dst a' u σ' k r' := by rw [h, h1, h2]
end Go.Eng
namespace Go.Eng
open Go
mutual
theorem Laid.extC {x : Nat} {c3 : List Value} {σ σ' : FState} (hw : Wf σ) (hx : σ.cells x = some c3) (h3 : c3.length < 4) (h : ExtC x σ σ') : ∀ {v : Value} {d : D}, Laid σ v d → Laid σ' v d
  | _, .mk _ _ _ _, ⟨p, c, hv, he⟩ => ⟨p, c, hv, LaidE.extC hw hx h3 h he⟩
theorem LaidE.extC {x : Nat} {c3 : List Value} {σ σ' : FState} (hw : Wf σ) (hx : σ.cells x = some c3) (h3 : c3.length < 4) (h : ExtC x σ σ') : ∀ {p : Option Addr} {i : Nat} {ds : List D}, LaidE σ p i ds → LaidE σ' p i ds
  | _, _, [], _ => trivial
  | _, _, _ :: _, ⟨⟨b, off, cs, hp, hc, hl, hd⟩, hr⟩ =>
    have hb : b ≠ x := fun hb => by
      rw [hb, hx] at hc
      cases hc
      omega
    ⟨⟨b, off, cs, hp, (h.cells (hw.cells hc) hb).trans hc, hl, Laid.extC hw hx h3 h hd⟩, LaidE.extC hw hx h3 h hr⟩
end
end Go.Eng
namespace Go.Eng
open Go
mutual
/-- A value reads as a datum, all of whose blocks are of some sort. -/
def LaidR (R : Nat → Prop) (σ : FState) : Value → D → Prop
  | v, .mk k n t ds => ∃ p c, v = .agg #[.int .i64 k, .int .i64 n, .string t, .slice p ds.length c] ∧ LaidRE R σ p 0 ds
def LaidRE (R : Nat → Prop) (σ : FState) : Option Addr → Nat → List D → Prop
  | _, _, [] => True
  | p, i, d :: ds => (∃ b off cs, p = some ⟨b, off, none⟩ ∧ R b ∧ σ.cells b = some cs ∧ 4 ≤ cs.length - (off + i * 4) ∧ LaidR R σ (.agg ((cs.drop (off + i * 4)).take 4).toArray) d) ∧ LaidRE R σ p (i + 1) ds
end
mutual
theorem LaidR.laid {R : Nat → Prop} {σ : FState} : ∀ {v : Value} {d : D}, LaidR R σ v d → Laid σ v d
  | _, .mk _ _ _ _, ⟨p, c, hv, he⟩ => ⟨p, c, hv, LaidRE.laid he⟩
theorem LaidRE.laid {R : Nat → Prop} {σ : FState} : ∀ {p : Option Addr} {i : Nat} {ds : List D}, LaidRE R σ p i ds → LaidE σ p i ds
  | _, _, [], _ => trivial
  | _, _, _ :: _, ⟨⟨b, off, cs, hp, _, hc, hl, hd⟩, hr⟩ => ⟨⟨b, off, cs, hp, hc, hl, LaidR.laid hd⟩, LaidRE.laid hr⟩
end
mutual
theorem LaidR.keep {R R' : Nat → Prop} {σ σ' : FState} (h : ∀ b cs, R b → σ.cells b = some cs → σ'.cells b = some cs ∧ R' b) : ∀ {v : Value} {d : D}, LaidR R σ v d → LaidR R' σ' v d
  | _, .mk _ _ _ _, ⟨p, c, hv, he⟩ => ⟨p, c, hv, LaidRE.keep h he⟩
theorem LaidRE.keep {R R' : Nat → Prop} {σ σ' : FState} (h : ∀ b cs, R b → σ.cells b = some cs → σ'.cells b = some cs ∧ R' b) : ∀ {p : Option Addr} {i : Nat} {ds : List D}, LaidRE R σ p i ds → LaidRE R' σ' p i ds
  | _, _, [], _ => trivial
  | _, _, _ :: _, ⟨⟨b, off, cs, hp, hR, hc, hl, hd⟩, hr⟩ => ⟨⟨b, off, cs, hp, (h b cs hR hc).2, (h b cs hR hc).1, hl, LaidR.keep h hd⟩, LaidRE.keep h hr⟩
end
/-- New blocks. -/
def New (σ σ' : FState) (b : Nat) : Prop := σ.next ≤ b ∧ b < σ'.next
/-- A list of data, one behind the other in the cells of a block. -/
def Row (R : Nat → Prop) (σ : FState) (cs : List Value) (ds : List D) : Prop := cs.length = ds.length * 4 ∧ cs.all oneCell = true ∧ ∀ (i : Nat) (d : D), ds[i]? = some d → LaidR R σ (.agg ((cs.drop (i * 4)).take 4).toArray) d
theorem Row.nil (R : Nat → Prop) (σ : FState) : Row R σ [] [] := ⟨rfl, rfl, fun i d h => by simp at h⟩
theorem Row.keep {R R' : Nat → Prop} {σ σ' : FState} (h : ∀ b cs, R b → σ.cells b = some cs → σ'.cells b = some cs ∧ R' b) {cs : List Value} {ds : List D} (hr : Row R σ cs ds) : Row R' σ' cs ds := ⟨hr.1, hr.2.1, fun i d hd => (hr.2.2 i d hd).keep h⟩
theorem LaidR.agg {R : Nat → Prop} {σ : FState} {v : Value} {d : D} (h : LaidR R σ v d) : ∃ l : List Value, v = .agg l.toArray ∧ l.length = 4 ∧ l.all oneCell = true := by
  obtain ⟨k, n, t, ds⟩ := d
  obtain ⟨p, c, rfl, _⟩ := h
  exact ⟨_, rfl, rfl, rfl⟩
theorem Row.snoc {R : Nat → Prop} {σ : FState} {cs l : List Value} {ds : List D} {d : D} (hr : Row R σ cs ds) (hl : l.length = 4) (ho : l.all oneCell = true) (hd : LaidR R σ (.agg l.toArray) d) : Row R σ (cs ++ l) (ds ++ [d]) := by
  refine ⟨by simp [hr.1, hl]; omega, by simp [hr.2.1, ho], fun i e he => ?_⟩
  by_cases hi : i < ds.length
  · rw [List.getElem?_append_left hi] at he
    have := hr.2.2 i e he
    rwa [List.drop_append_of_le_length (by rw [hr.1]; omega), List.take_append_of_le_length (by rw [List.length_drop, hr.1]; omega)]
  · rw [List.getElem?_append_right (by omega)] at he
    obtain rfl : i = ds.length := by
      have : i - ds.length < 1 := (List.getElem?_eq_some_iff.1 he).1
      omega
    simp at he
    subst he
    rw [← hr.1, List.drop_left, List.take_of_length_le (by omega)]
    exact hd
theorem Row.elems {R R' : Nat → Prop} {σ : FState} {cs : List Value} {ds : List D} (hr : Row R σ cs ds) {b : Nat} (hb : σ.cells b = some cs) (hR : R' b) (hRR : ∀ c, R c → R' c) : ∀ (i : Nat) (es : List D), (∀ j e, es[j]? = some e → ds[i + j]? = some e) → LaidRE R' σ (some ⟨b, 0, none⟩) i es
  | _, [], _ => trivial
  | i, e :: es, h => by
    have h0 := h 0 e rfl
    have hlt : i + 0 < ds.length := (List.getElem?_eq_some_iff.1 h0).1
    refine ⟨⟨b, 0, cs, rfl, hR, hb, by rw [hr.1]; omega, ?_⟩, Row.elems hr hb hR hRR (i + 1) es fun j e' hj => ?_⟩
    · have := hr.2.2 i e h0
      rw [Nat.zero_add]
      exact this.keep fun c cs hc h => ⟨h, hRR c hc⟩
    · have := h (j + 1) e' (by simpa using hj)
      rwa [show i + 1 + j = i + (j + 1) by omega]
/-! append of one element. -/
theorem loadAll_eq (σ : FState) (b off n : Nat) : loadAll σ b off n = (match σ.cells b with | some c => if n ≤ c.length - off then some ((c.drop off).take n) else none | none => none) := by
  unfold loadAll
  cases σ.cells b with
  | none => rfl
  | some c => simp only [dropN_eq, takeN_eq, List.length_drop]
theorem append_first (e size bytes bx cx : Nat) (new : List Value) (σ : FState) (hx : σ.cells bx = some new) (hs : new.length = size) (ho : new.all oneCell = true) (hb : bytes < 1000) :
    fappend e size bytes (.slice none 0 0) (.slice (some ⟨bx, 0, none⟩) 1 cx) σ = .val (.slice (some ⟨σ.next, 0, none⟩) 1 1) (σ.push (.cells new e) (some size)) := by
  unfold fappend fnew
  simp only [loadAll_eq, hx, List.drop_zero, Nat.one_mul, Nat.sub_zero, hs, Nat.le_refl, if_true]
  rw [show new.take size = new from List.take_of_length_le (by omega), ho]
  show fappend2 e size bytes 0 0 none 1 new σ = _
  unfold fappend2
  rw [show Nat.ble (0 + 1) 0 = false from rfl, show Nat.ble ((0 + 1) * (bytes + 1)) 1000000000 = true by rw [Nat.ble_eq]; omega]
  rfl
theorem append_more (e size bytes b bx cx len ver : Nat) (old new : List Value) (σ : FState) (hb : σ.heap.get b = some ⟨.cells old e, false, some size, ver⟩) (hx : σ.cells bx = some new) (hs : new.length = size) (ho : new.all oneCell = true) (hold : old.length = len * size) (hby : bytes < 1000) (hlen : len < 1000) :
    fappend e size bytes (.slice (some ⟨b, 0, none⟩) len len) (.slice (some ⟨bx, 0, none⟩) 1 cx) σ = .val (.slice (some ⟨(σ.put b (.defd false) none).next, 0, none⟩) (len + 1) (len + 1)) ((σ.put b (.defd false) none).push (.cells (old ++ new) e) (some size)) := by
  have hc := cells_of_get hb
  unfold fappend fnew
  simp only [loadAll_eq, hx, List.drop_zero, Nat.one_mul, Nat.sub_zero, hs, Nat.le_refl, if_true]
  rw [show new.take size = new from List.take_of_length_le (by omega), ho]
  show fappend2 e size bytes len len (some ⟨b, 0, none⟩) 1 new σ = _
  unfold fappend2
  have hm : (len + 1) * (bytes + 1) ≤ 1000 * 1000 := Nat.mul_le_mul (by omega) (by omega)
  rw [show Nat.ble (len + 1) len = false by rw [← Bool.not_eq_true, Nat.ble_eq]; omega, show Nat.ble ((len + 1) * (bytes + 1)) 1000000000 = true by rw [Nat.ble_eq]; omega]
  show fappendGrow e size len len (some ⟨b, 0, none⟩) 1 new σ = _
  unfold fappendGrow
  simp only [loadAll_eq, hc, hb, List.drop_zero, Nat.sub_zero, hold, Nat.le_refl, if_true]
  rw [show Nat.beq len len = true by rw [Nat.beq_eq], show Nat.beq size size = true by rw [Nat.beq_eq], List.take_of_length_le (by omega)]
  rfl
end Go.Eng
namespace Go.Eng
open Go
/-! Deferred calls, closures, results. -/
section
variable (P : Program) (E : Env) (rs : List ResultVar) (a : FAct) (u : Option FrameMode) (σ : FState)
theorem fcallV_func (g : FuncId) (first cap : Array Value) (args : List Value) : fcallV (.func (.func g) first cap) args σ = .enter g (first.toList ++ args ++ cap.toList) σ := rfl
theorem fdefer_func (g : FuncId) (first cap : Array Value) (args : List Value) : fdefer (.func (.func g) first cap) args σ = .defer { target := .fn (.func g) cap, args := (first.toList ++ args).toArray } σ := rfl
theorem after_defer (nl nt : Nat) (f g : Nat → Value) (ds : List Deferred) (d : Deferred) (k : RunF) : afterOp E none none (Sl nl nt f g ds) u k (.defer d σ) = k (Sl nl nt f g (d :: ds)) u σ := rfl
theorem after_recover (dst : Option Tmp) (k : RunF) : afterOp E none dst a (some .returning) k (.recover σ) = k (a.put dst .nilIface) (some .returning) σ := rfl
theorem fleave_fn (f : FuncId) (cap args : Array Value) (ds : List Deferred) : fleave P E rs a u ({ target := .fn (.func f) cap, args := args } :: ds) .returning σ =
    (match E.call f (args.toList ++ cap.toList) (some .returning) σ with
     | .ret _ (some md') σ => fleave P E rs a u ds (unrecovered md') σ
     | .pan ch (some md') σ => fleave P E rs a u ds (raised md' ch) σ
     | _ => .no) := rfl
theorem unrecovered_returning : unrecovered .returning = .returning := rfl
theorem fresults_nil : fresults P [] a σ = some [] := rfl
theorem fresults_cons (r : ResultVar) : fresults P (r :: rs) a σ = (match fresult P r a σ, fresults P rs a σ with | some v, some vs => some (v :: vs) | _, _ => none) := rfl
theorem fresult_tmp (t : Tmp) : fresult P (.tmp t) a σ = some (a.get t) := rfl
theorem fresult_cell (c : Tmp) (t : TypeId) : fresult P (.cell c t) a σ = (match aggSize P t with
    | some sz => (match fload sz (a.get c) σ with
      | .val v _ => some v
      | _ => none)
    | none => none) := rfl
theorem leave_none : fleave P E [] a u [] .returning σ = .ret (.tuple #[]) u σ := rfl
theorem fextract_go (i : Nat) (l : List Value) : fextract i (.tuple l.toArray) σ = (match l[i]? with | some x => .val x σ | none => .no) := by
  unfold fextract
  simp only [List.getElem?_toArray]
  cases l[i]? <;> rfl
end
end Go.Eng
namespace Go.Eng
open Go
/-! Slices cut short, and appends within room. -/
theorem fslice_hi (P : Program) (t e size b off ln cap h : Nat) (σ : FState) (hu : under P t = some (.slice e)) (hs : sizeOfT P e = some size) (hh : h ≤ cap) (c : List Value) (el : TypeId) (ro : Bool) (fz : Option Nat) (ver : Nat)
    (hb : σ.heap.get b = some ⟨.cells c el, ro, fz, ver⟩) (hfz : fz = none ∨ fz = some size) :
    fslice P t (.slice (some ⟨b, off, none⟩) ln cap) none (some (.int .i64 (.ofNat h))) none σ = .val (.slice (some ⟨b, off, none⟩) h cap) σ := by
  have hc : capOk size none b σ = true := by
    unfold capOk
    simp only [hb]
    rcases hfz with rfl | rfl
    · rfl
    · show Nat.beq size size = true
      rw [Nat.beq_eq]
  have hbd : bounds3 ln cap none (some (.int .i64 (.ofNat h))) none = some (0, h, cap) := by
    show (match hiOf ln cap (some (.int .i64 (.ofNat h))) none with | none => none | some h => (match loOf h none with | none => none | some l => some (l, h, cap))) = _
    have : hiOf ln cap (some (.int .i64 (.ofNat h))) none = some h := by
      show cond (Nat.ble h cap) (some h) none = some h
      rw [show Nat.ble h cap = true by rw [Nat.ble_eq]; exact hh]
      rfl
    rw [this]
    rfl
  unfold fslice
  simp only [hu, hs]
  unfold fsliceL
  simp only [hbd, hc]
  show ORes.val (.slice (some ⟨b, off + 0 * size, none⟩) (h - 0) (cap - 0)) σ = _
  simp
theorem fslice_3 (P : Program) (t e size b off ln cap h : Nat) (σ : FState) (hu : under P t = some (.slice e)) (hs : sizeOfT P e = some size) (hh : h ≤ cap) :
    fslice P t (.slice (some ⟨b, off, none⟩) ln cap) none (some (.int .i64 (.ofNat h))) (some (.int .i64 (.ofNat h))) σ = .val (.slice (some ⟨b, off, none⟩) h h) σ := by
  have hbd : bounds3 ln cap none (some (.int .i64 (.ofNat h))) (some (.int .i64 (.ofNat h))) = some (0, h, h) := by
    have h1 : mxOf cap (some (.int .i64 (.ofNat h))) = some h := by
      show cond (Nat.ble h cap) (some h) none = some h
      rw [show Nat.ble h cap = true by rw [Nat.ble_eq]; exact hh]
      rfl
    have h2 : hiOf ln h (some (.int .i64 (.ofNat h))) (some (.int .i64 (.ofNat h))) = some h := by
      show cond (Nat.ble h h) (some h) none = some h
      rw [show Nat.ble h h = true by rw [Nat.ble_eq]; exact Nat.le_refl _]
      rfl
    unfold bounds3
    rw [h1]
    simp only [h2]
    rfl
  unfold fslice
  simp only [hu, hs]
  unfold fsliceL
  simp only [hbd]
  show ORes.val (.slice (some ⟨b, off + 0 * size, none⟩) (h - 0) (h - 0)) σ = _
  simp
/-- append of one cell where there is room. -/
theorem append1_room (e bytes b bx cx len cap ver : Nat) (fz : Option Nat) (el : TypeId) (c : List Value) (v : Value) (σ : FState) (hb : σ.heap.get b = some ⟨.cells c el, false, fz, ver⟩) (hx : σ.cells bx = some [v]) (ho : oneCell v = true) (hlt : len < cap) (hc : cap ≤ c.length) :
    fappend e 1 bytes (.slice (some ⟨b, 0, none⟩) len cap) (.slice (some ⟨bx, 0, none⟩) 1 cx) σ = .val (.slice (some ⟨b, 0, none⟩) (len + 1) cap) (σ.put b (.cells (c.set len v) el) fz) := by
  unfold fappend fnew
  simp only [loadAll_eq, hx, List.drop_zero, Nat.one_mul, Nat.sub_zero, List.length_singleton, Nat.le_refl, if_true]
  show cond ([v].all oneCell) (fappend2 e 1 bytes len cap (some ⟨b, 0, none⟩) 1 [v] σ) .no = _
  rw [show [v].all oneCell = true by simp [ho]]
  show fappend2 e 1 bytes len cap (some ⟨b, 0, none⟩) 1 [v] σ = _
  unfold fappend2
  rw [show Nat.ble (len + 1) cap = true by rw [Nat.ble_eq]; omega]
  show fappendRoom 1 len cap (some ⟨b, 0, none⟩) 1 [v] σ = _
  unfold fappendRoom
  simp only [hb, spliceN_eq, List.length_singleton, Nat.mul_one, Nat.zero_add]
  rw [if_pos (by omega)]
  simp only []
  congr 3
  rw [List.set_eq_take_append_cons_drop, if_pos (by omega)]
  simp
/-- append of one cell where there is none. -/
theorem append1_full (e bytes b bx cx len ver : Nat) (fz : Option Nat) (old : List Value) (v : Value) (σ : FState) (hb : σ.heap.get b = some ⟨.cells old e, false, fz, ver⟩) (hfz : fz = none ∨ fz = some 1) (hx : σ.cells bx = some [v]) (ho : oneCell v = true) (hl : old.length = len) (hby : bytes < 1000) (hlen : len < 100000) :
    ∃ τ, fappend e 1 bytes (.slice (some ⟨b, 0, none⟩) len len) (.slice (some ⟨bx, 0, none⟩) 1 cx) σ = .val (.slice (some ⟨σ.next, 0, none⟩) (len + 1) (len + 1)) τ ∧ (τ = σ.push (.cells (old ++ [v]) e) (some 1) ∨ τ = (σ.put b (.defd false) none).push (.cells (old ++ [v]) e) (some 1)) := by
  have hc := cells_of_get hb
  unfold fappend fnew
  simp only [loadAll_eq, hx, List.drop_zero, Nat.one_mul, Nat.sub_zero, List.length_singleton, Nat.le_refl, if_true]
  have h1 : (List.take 1 [v]).all oneCell = true := by simp [ho]
  rw [h1]
  show ∃ τ, fappend2 e 1 bytes len len (some ⟨b, 0, none⟩) 1 [v] σ = _ ∧ _
  have hm : (len + 1) * (bytes + 1) ≤ 100000 * 1000 := Nat.mul_le_mul (by omega) (by omega)
  unfold fappend2
  rw [show Nat.ble (len + 1) len = false by rw [← Bool.not_eq_true, Nat.ble_eq]; omega, show Nat.ble ((len + 1) * (bytes + 1)) 1000000000 = true by rw [Nat.ble_eq]; omega]
  show ∃ τ, fappendGrow e 1 len len (some ⟨b, 0, none⟩) 1 [v] σ = _ ∧ _
  unfold fappendGrow
  simp only [loadAll_eq, hc, hb, List.drop_zero, Nat.sub_zero, Nat.mul_one, hl, Nat.le_refl, if_true]
  rw [List.take_of_length_le (by omega)]
  rcases hfz with rfl | rfl
  · exact ⟨_, rfl, .inl rfl⟩
  · rw [show Nat.beq len len = true by rw [Nat.beq_eq]]
    exact ⟨_, rfl, .inr rfl⟩
attribute [go_sem] seqR_go  fops_c  fops_nil  fdraw_f  fdraw_a  fdraw_nil'  drawR_go  retR_go  skipR_go  exitR_go  after_val  after_skip  after_enter  after_ret  andThen_normal  andThen_ret  andThen_exit  put_none          nth_zero  nth_succ  drawF_val  drawF_push  stepOp_eq  drawA_normal  view_next  push_next  push_clock  put_next  put_clock  box_go  newCells_go  notTuple_agg  notTuple_int  notTuple_string  notTuple_bool  notTuple_slice  notTuple_pointer  valCells_agg  valCells_int  valCells_string  valCells_bool  valCells_slice  valCells_pointer  ffield_eq  fload1  floadN  cells_push  cells_put  cells?_cells  gd_true  gd_false  gd_skip  fpick_eq  eql_int  neq_int  lss_int  leq_int  gtr_int  geq_int  add_int  sub_int  mul_int  eql_str  neq_str  not_go  flenL_eq  flenS_eq  Nat.add_zero  Nat.zero_add  Nat.add_left_cancel_iff  Nat.add_eq_left  Nat.left_eq_add  List.getElem?_cons_zero  List.getElem?_cons_succ  beq_self_eq_true  Bool.not_true  Bool.not_false  cond_true  cond_false  leaveR_ret  leaveR_normal  leave_tmp  leave_tmp2  leave_tmp3  condR_val  Bool.false_eq_true  blockR_k  blockK_normal  blockK_ret  blockK_exit  loopR_go  findex_eq  List.not_mem_nil  or_false  or_true  List.cons_append  List.nil_append  add_u64  mul_u64  xor_u64  shr32_u64  shr27_u64  shr9_u64  nilCheck_ptr  fstore1  push_get  put_get  List.set_cons_zero  List.set_cons_succ  List.length_cons  List.length_nil  oneCell_int  oneCell_string  oneCell_bool  oneCell_slice  oneCell_pointer  fcallV_func  fdefer_func  List.toList_toArray  after_defer  after_recover  fleave_fn  unrecovered_returning  leave_none  fextract_go  Nat.add_assoc  lay_nil  lay_cons  fbuild_go  fbuildSlice_go  reps_zero  reps_succ  leave_cell  List.take_zero  List.take_succ_cons  List.drop_zero  List.drop_succ_cons  List.drop_nil  List.take_nil  List.append_nil  Nat.zero_mul  Nat.one_mul      and_self  true_and    Nat.sub_zero  List.all_cons  List.all_nil  Bool.and_self  Bool.and_true  Nat.mul_one  Sl_get  Sl_put  Sl_defers  Sl_nl  Sl_forget  upd_go  kept_go
end Go.Eng
/- The program's environment of the reading; errors.As is told: at no error, and where the error's own type is the target's. -/
namespace Go.Proofs.YtokieofohmgjdaaGreatDoor
open Go Go.Eng
def nls : Hints := [(0, []), (0, []), (0, []), (18, [108]), (24, [137]), (31, [55, 56, 57, 58, 59, 60, 61, 62, 63, 64, 65, 66, 67, 68, 69, 70, 71, 72, 73, 74, 75, 76, 77, 78, 79, 80, 81, 82, 83, 84, 85, 86, 87, 88, 89, 90, 91, 92, 93, 94, 95, 96, 97, 98, 99, 100, 101, 102, 103, 104, 105, 106, 107, 108, 109, 110, 111, 112, 113, 114, 115, 116, 117, 118, 119, 120, 121, 122, 123, 124, 125, 126, 127, 128, 129, 130, 131, 132, 133, 134, 135, 136, 137, 138, 139, 140, 141, 142, 143, 144, 145, 146, 147, 148, 149, 150, 151, 152, 153, 154, 155, 156, 157, 158, 159, 160, 161, 162, 163, 164, 165, 166, 167, 168, 169, 170, 171, 172, 173, 174, 175, 176, 177, 178, 179, 180, 181, 182, 183, 184, 185, 186, 187, 188, 189, 190, 191, 192, 193, 194, 195, 196, 197, 198, 199, 200, 201, 202, 203, 204, 205, 206, 207, 208, 209, 210, 211, 212, 213, 214, 215, 216, 217, 218, 219]), (33, [219]), (23, [124]), (13, []), (2, []), (20, []), (7, [61, 62, 63, 64, 65, 66, 67, 68, 69, 70]), (2, []), (5, [30]), (6, []), (8, []), (2, []), (5, []), (5, []), (4, []), (6, []), (4, []), (7, [32]), (11, []), (6, []), (4, []), (7, []), (4, []), (9, []), (6, []), (7, [21]), (5, [19]), (2, []), (7, []), (2, []), (6, [21, 22, 23, 24, 25, 26]), (6, []), (4, []), (9, []), (2, []), (9, [37]), (7, [32]), (2, []), (4, []), (9, []), (6, []), (4, []), (7, []), (6, []), (6, []), (10, []), (15, []), (7, [30]), (4, []), (0, []), (2, []), (2, []), (0, []), (2, []), (2, []), (2, []), (4, []), (2, []), (2, []), (4, []), (2, []), (4, []), (6, []), (4, []), (7, []), (3, []), (6, []), (5, []), (9, [31, 32, 33]), (7, []), (1, []), (8, []), (2, []), (5, [28]), (7, []), (1, []), (6, []), (2, []), (6, []), (5, []), (9, [52]), (4, []), (2, []), (6, []), (7, [68, 69, 70, 71, 72, 73, 74, 75, 76, 77, 78, 79, 80, 81, 82]), (7, []), (2, []), (12, []), (9, []), (7, []), (1, []), (2, []), (5, []), (5, [19, 20]), (7, []), (5, [5, 6, 7, 17, 19, 20, 21, 22]), (2, []), (7, []), (6, []), (2, []), (3, []), (4, []), (6, []), (2, []), (7, [7, 8, 9, 32]), (9, []), (7, []), (2, []), (8, []), (10, [37]), (7, []), (4, []), (9, [40]), (5, [19]), (5, []), (6, []), (4, []), (5, []), (2, []), (5, []), (3, []), (7, []), (2, []), (8, [74]), (5, []), (6, []), (7, []), (4, []), (5, []), (4, []), (2, []), (2, []), (4, []), (5, []), (7, [14, 15, 28]), (4, []), (5, []), (2, []), (5, []), (4, []), (4, []), (4, []), (6, []), (4, []), (8, []), (4, []), (4, []), (2, []), (1, []), (6, []), (19, []), (2, []), (6, []), (5, []), (4, []), (2, []), (6, []), (4, []), (6, []), (6, []), (4, []), (6, []), (2, []), (10, [15, 16, 17]), (8, []), (4, [13, 14]), (5, [6]), (8, [13, 14]), (11, [27, 28, 29, 30, 31, 32, 33, 34, 35, 36, 37, 38, 39, 40, 41, 42, 43, 44, 45, 46, 47, 48, 49, 50, 51, 52, 53, 54]), (11, []), (13, []), (8, []), (11, [15, 16, 35, 36, 37, 38, 39, 40, 41, 42, 43, 44, 45, 46, 47, 48, 49, 50, 51, 52, 53, 54, 55, 56, 57, 58, 59, 60, 61, 62, 63, 64, 65, 66, 67, 68, 69, 70, 71, 72, 73, 74, 75, 76, 77, 78, 79, 80, 81, 82, 83, 84, 85, 86, 87, 88, 89, 90, 91, 92, 93, 94, 95, 96, 97, 98, 99, 100, 101, 102, 103, 104, 105, 106, 107, 108, 109, 110, 111, 112, 113, 114, 115, 116, 117, 118, 119, 120, 121, 122, 123, 124, 125, 126, 127, 128, 129, 130, 131, 132]), (4, []), (11, [46, 47, 48, 49, 50, 51, 52, 53, 54, 55, 56, 57, 58, 59, 60, 61, 62, 63, 64, 65, 66, 67, 68, 69, 70, 71, 72, 73, 74, 75, 76, 77, 78, 79, 80, 81, 82, 83]), (12, [46, 47, 48, 49, 50, 51, 52, 53, 54, 55, 56, 57, 58, 59, 60, 61, 62, 63, 64, 65, 66, 67, 68, 69, 70, 71, 72, 73, 74, 75, 76, 77, 78, 79, 80, 81, 82, 83, 84, 85, 86, 87, 88, 89, 90, 91, 92, 93, 94, 95, 96, 97, 98, 99, 100, 101, 102, 103, 104, 105, 106, 107, 108, 109, 110, 111, 112, 113, 114, 115, 116, 117, 118, 119, 120, 121, 122, 123, 124, 125, 126, 127, 128, 129, 130, 131, 132, 133, 134, 135, 136, 137, 138, 139, 140, 141, 142, 143, 144, 145, 146, 147, 148, 149, 150, 151, 152, 153, 154, 155, 156, 157, 158, 159, 160, 161, 162, 163, 164, 165, 166, 167]), (3, []), (3, []), (2, []), (1, []), (1, []), (1, []), (16, [48, 49, 50]), (2, []), (10, []), (2, []), (2, []), (6, []), (10, []), (2, []), (1, []), (1, []), (2, []), (4, []), (8, []), (17, [17, 18, 19, 20, 21, 22, 23, 24, 25, 26, 27, 28, 29, 30, 31, 32, 33, 34, 35, 36, 37, 38, 39, 40, 41, 42, 43, 44, 45, 46, 47, 48, 49, 50, 51, 52, 53, 54, 55, 56, 57, 58, 59, 60, 61, 62, 63, 64, 65, 66, 67, 68, 69, 70, 71, 72, 73, 74, 75, 76, 77, 78, 79, 80, 81, 82, 83, 84, 85, 86, 87, 88, 89, 90, 91, 92, 93, 94, 95, 96, 97, 98, 99, 100, 101, 102, 103, 104, 105, 106, 107, 108, 109, 110, 111, 112, 113, 114, 115, 116, 117, 118, 119, 120, 121, 122, 123, 124, 125, 126, 127, 128, 129, 130, 131, 132, 133, 134, 135, 136, 137, 138, 139, 140, 141, 142, 143, 144, 145, 146, 147, 148, 149, 150, 151, 152, 153, 154, 155, 156, 157, 158, 159, 175]), (4, []), (2, []), (2, []), (2, []), (4, []), (2, []), (1, []), (1, []), (1, []), (1, []), (1, []), (1, []), (1, []), (1, []), (1, []), (1, []), (1, []), (1, []), (1, []), (1, []), (1, []), (1, []), (1, []), (1, []), (2, []), (4, []), (4, []), (4, []), (2, []), (1, []), (2, []), (4, []), (2, []), (4, []), (2, []), (4, []), (11, [11, 12, 13, 34, 35, 36, 37, 38]), (1, []), (1, []), (1, []), (1, []), (2, []), (1, []), (1, []), (2, []), (1, []), (1, []), (1, []), (1, []), (1, []), (1, []), (1, []), (0, []), (0, []), (0, []), (0, [])]
noncomputable def sums : Sums := fun f args σ =>
  cond (Nat.beq f 169) (match args with
    | [.nilIface, _] => some (.ret (.bool false) none σ)
    | [.iface t (.agg cs), .iface pt p] => cond (Nat.beq t 178 && Nat.beq pt 197) (match cs.toList with
      | [x, y] => (match fstore 2 p (.agg #[x, y]) σ with | .skip σ' => some (.ret (.bool true) none σ') | _ => none)
      | _ => none) none
    | _ => none) none
/-- Calls, so many deep. -/
noncomputable def env (n : Nat) : Env := fenv Tryz.prog sums nls n
theorem env_call (n : Nat) (f : FuncId) (args : List Value) (σ : FState) (h : Nat.beq f 169 = false) : (env (n + 1)).call f args none σ = fcall Tryz.prog nls (env n) f args none σ := fenv_call _ _ _ _ _ _ _ (by
  unfold sums
  rw [h]
  rfl)
theorem env_defer (n : Nat) (f : FuncId) (args : List Value) (md : FrameMode) (σ : FState) : (env (n + 1)).call f args (some md) σ = fcall Tryz.prog nls (env n) f args (some md) σ := fenv_defer _ _ _ _ _ _ _ _
theorem env_round (n l : Nat) (args : List Value) (σ : FState) : (env (n + 1)).round l args σ = fround Tryz.prog nls (env n) l args σ := fenv_round _ _ _ _ _ _ _
end Go.Proofs.YtokieofohmgjdaaGreatDoor
/- Functions of the program, written out in the reading's words (made by program; the kernel holds each against the code). -/
namespace Go.Proofs.YtokieofohmgjdaaGreatDoor
open Go Go.Eng
variable (E : Env) (ro : Option Nat) (last : List Nat → RunF) (cl : List Nat) (a : FAct) (u : Option FrameMode) (σ : FState)
/-! caracole/caracolekit.EqDatum -/
noncomputable def r21_0U (_ : Unit) : List COp := [⟨fun a σ => fbox 24 (a.get 0) σ, (some 2), fun _ => some true⟩,
  ⟨fun a σ => fbox 24 (a.get 1) σ, (some 3), fun _ => some true⟩,
  ⟨fun a σ => .val (.bool false) σ, (some 4), fun _ => some true⟩]
noncomputable def r21_0 : List COp := r21_0U ()
noncomputable def r21_1U (_ : Unit) : List COp := [⟨fun a σ => ffield 0 (a.get 2) σ, (some 5), fun _ => some true⟩,
  ⟨fun a σ => fload none (a.get 5) σ, (some 6), fun _ => some true⟩,
  ⟨fun a σ => ffield 0 (a.get 3) σ, (some 7), fun _ => some true⟩,
  ⟨fun a σ => fload none (a.get 7) σ, (some 8), fun _ => some true⟩,
  ⟨fun a σ => i_eql Tryz.prog 3 (.tmp 6) (.tmp 8) (a.get 6) (a.get 8) σ, (some 9), fun _ => some true⟩,
  ⟨fun a σ => .val (a.get 9) σ, (some 10), fun _ => some true⟩,
  ⟨fun a σ => ffield 1 (a.get 2) σ, (some 11), fun a => gd (a.get 10) true⟩,
  ⟨fun a σ => fload none (a.get 11) σ, (some 12), fun a => gd (a.get 10) true⟩,
  ⟨fun a σ => ffield 1 (a.get 3) σ, (some 13), fun a => gd (a.get 10) true⟩,
  ⟨fun a σ => fload none (a.get 13) σ, (some 14), fun a => gd (a.get 10) true⟩,
  ⟨fun a σ => i_eql Tryz.prog 3 (.tmp 12) (.tmp 14) (a.get 12) (a.get 14) σ, (some 15), fun a => gd (a.get 10) true⟩,
  ⟨fun a σ => fpick (a.get 10) (a.get 15) (.bool false) σ, (some 16), fun _ => some true⟩,
  ⟨fun a σ => .val (a.get 16) σ, (some 17), fun _ => some true⟩,
  ⟨fun a σ => ffield 2 (a.get 2) σ, (some 18), fun a => gd (a.get 17) true⟩,
  ⟨fun a σ => fload none (a.get 18) σ, (some 19), fun a => gd (a.get 17) true⟩,
  ⟨fun a σ => ffield 2 (a.get 3) σ, (some 20), fun a => gd (a.get 17) true⟩,
  ⟨fun a σ => fload none (a.get 20) σ, (some 21), fun a => gd (a.get 17) true⟩,
  ⟨fun a σ => i_eql Tryz.prog 9 (.tmp 19) (.tmp 21) (a.get 19) (a.get 21) σ, (some 22), fun a => gd (a.get 17) true⟩,
  ⟨fun a σ => fpick (a.get 17) (a.get 22) (.bool false) σ, (some 23), fun _ => some true⟩,
  ⟨fun a σ => .val (a.get 23) σ, (some 24), fun _ => some true⟩,
  ⟨fun a σ => ffield 3 (a.get 2) σ, (some 25), fun a => gd (a.get 24) true⟩,
  ⟨fun a σ => fload none (a.get 25) σ, (some 26), fun a => gd (a.get 24) true⟩,
  ⟨fun a σ => ffield 3 (a.get 3) σ, (some 27), fun a => gd (a.get 24) true⟩,
  ⟨fun a σ => fload none (a.get 27) σ, (some 28), fun a => gd (a.get 24) true⟩,
  ⟨fun a σ => .enter 36 [(a.get 26), (a.get 28)] σ, (some 29), fun a => gd (a.get 24) true⟩,
  ⟨fun a σ => fpick (a.get 24) (a.get 29) (.bool false) σ, (some 30), fun _ => some true⟩,
  ⟨fun a σ => .val (a.get 30) σ, (some 4), fun _ => some true⟩]
noncomputable def r21_1 : List COp := r21_1U ()
noncomputable def run21 (E : Env) (ro : Option Nat) (fn : FuncId) : RunF := (seqR (fops E ro r21_0) (seqR (fops E ro r21_1) retR))
theorem r21_0_go : fops E ro r21_0 a u σ = fops E ro (r21_0U ()) a u σ := rfl
theorem r21_1_go : fops E ro r21_1 a u σ = fops E ro (r21_1U ()) a u σ := rfl
theorem code21 (E : Env) (ro : Option Nat) (fn : FuncId) : code Tryz.prog nls (Tryz.f21.body.getD .skip) E ro fn = run21 E ro fn := by kernel_rfl
theorem enter21 (E : Env) (args : List Value) (u : Option FrameMode) (σ : FState) (hn : args.length ≤ (4 : Nat)) : fcall Tryz.prog nls E 21 args u σ = leaveR Tryz.prog E [.tmp 4] (run21 E none 21 ⟨padTo undef 4 args, fun _ => undef, 4, 31, []⟩ u σ) := by
  rw [fcall_of (body := Tryz.f21.body.getD .skip) Tryz.func21 rfl E args u σ 4 31 (by kernel_rfl) rfl ⟨hn, by decide⟩, code21]
  rfl
/-! caracole/caracolekit.EqData -/
noncomputable def r36_0U (_ : Unit) : List COp := [⟨fun a σ => .val (.bool false) σ, (some 4), fun _ => some true⟩]
noncomputable def r36_0 : List COp := r36_0U ()
noncomputable def r36_1U (_ : Unit) : List COp := [⟨fun a σ => .val (a.get 0) σ, (some 6), fun _ => some true⟩,
  ⟨fun a σ => flenL (a.get 6) σ, (some 7), fun _ => some true⟩,
  ⟨fun a σ => .val (a.get 1) σ, (some 8), fun _ => some true⟩,
  ⟨fun a σ => flenL (a.get 8) σ, (some 9), fun _ => some true⟩,
  ⟨fun a σ => i_neq Tryz.prog 3 (.tmp 7) (.tmp 9) (a.get 7) (a.get 9) σ, (some 10), fun _ => some true⟩]
noncomputable def r36_1 : List COp := r36_1U ()
noncomputable def r36_2U (_ : Unit) : List COp := [⟨fun a σ => .val (.bool false) σ, (some 4), fun _ => some true⟩]
noncomputable def r36_2 : List COp := r36_2U ()
noncomputable def r36_3U (_ : Unit) : List COp := [⟨fun a σ => .val (.int .i64 0) σ, (some 5), fun _ => some true⟩]
noncomputable def r36_3 : List COp := r36_3U ()
noncomputable def r36_4U (_ : Unit) : List COp := [⟨fun a σ => .val (a.get 5) σ, (some 11), fun _ => some true⟩,
  ⟨fun a σ => .val (a.get 0) σ, (some 12), fun _ => some true⟩,
  ⟨fun a σ => flenL (a.get 12) σ, (some 13), fun _ => some true⟩,
  ⟨fun a σ => i_lss Tryz.prog 3 (.tmp 11) (.tmp 13) (a.get 11) (a.get 13) σ, (some 14), fun _ => some true⟩]
noncomputable def r36_4 : List COp := r36_4U ()
noncomputable def r36_6U (_ : Unit) : List DOp := [⟨fun a σ => .val (a.get 0) σ, (some 17), fun _ => some true, (some 0), false⟩,
  ⟨fun a σ => .val (a.get 5) σ, (some 18), fun _ => some true, (some 0), false⟩,
  ⟨fun a σ => findex (none, 4) (a.get 17) (a.get 18) σ, (some 19), fun _ => some true, (some 0), false⟩,
  ⟨fun a σ => fload (some 4) (a.get 19) σ, (some 20), fun _ => some true, (some 0), false⟩,
  ⟨fun a σ => .val (a.get 1) σ, (some 21), fun _ => some true, (some 0), false⟩,
  ⟨fun a σ => .val (a.get 5) σ, (some 22), fun _ => some true, (some 0), false⟩,
  ⟨fun a σ => findex (none, 4) (a.get 21) (a.get 22) σ, (some 23), fun _ => some true, (some 0), false⟩,
  ⟨fun a σ => fload (some 4) (a.get 23) σ, (some 24), fun _ => some true, (some 0), false⟩,
  ⟨fun a σ => .enter 21 [(a.get 20), (a.get 24)] σ, (some 25), fun _ => some true, none, true⟩,
  ⟨fun a σ => fun1 Tryz.prog (Op.unary .not) (a.get 25) σ, (some 26), fun _ => some true, (some 1), false⟩]
noncomputable def r36_6 : List DOp := r36_6U ()
noncomputable def r36_7U (_ : Unit) : List COp := [⟨fun a σ => .val (.bool false) σ, (some 4), fun _ => some true⟩]
noncomputable def r36_7 : List COp := r36_7U ()
noncomputable def r36_5U (_ : Unit) : List COp := [⟨fun a σ => .val (a.get 5) σ, (some 15), fun _ => some true⟩,
  ⟨fun a σ => i_add Tryz.prog 3 (.tmp 15) (.const (.int .i64 1)) (a.get 15) (.int .i64 1) σ, (some 16), fun _ => some true⟩,
  ⟨fun a σ => .val (a.get 16) σ, (some 5), fun _ => some true⟩]
noncomputable def r36_5 : List COp := r36_5U ()
noncomputable def l36_0 (E : Env) (ro : Option Nat) (fn : FuncId) : RunF := (seqR (seqR (fops E ro r36_4) (condR (fun a => (a.get 14)) skipR (exitR 0))) (seqR (blockR 1 (seqR (drawR E ro r36_6) (condR (fun a => (a.get 26)) (seqR (fops E ro r36_7) retR) skipR))) (fops E ro r36_5)))
noncomputable def r36_8U (_ : Unit) : List COp := [⟨fun a σ => .val (.bool true) σ, (some 4), fun _ => some true⟩]
noncomputable def r36_8 : List COp := r36_8U ()
noncomputable def run36 (E : Env) (ro : Option Nat) (fn : FuncId) : RunF := (seqR (fops E ro r36_0) (seqR (seqR (fops E ro r36_1) (condR (fun a => (a.get 10)) (seqR (fops E ro r36_2) retR) skipR)) (seqR (seqR (fops E ro r36_3) (blockR 0 (loopR (keepOf nls fn) (l36_0 E ro fn)))) (seqR (fops E ro r36_8) retR))))
theorem r36_0_go : fops E ro r36_0 a u σ = fops E ro (r36_0U ()) a u σ := rfl
theorem r36_1_go : fops E ro r36_1 a u σ = fops E ro (r36_1U ()) a u σ := rfl
theorem r36_2_go : fops E ro r36_2 a u σ = fops E ro (r36_2U ()) a u σ := rfl
theorem r36_3_go : fops E ro r36_3 a u σ = fops E ro (r36_3U ()) a u σ := rfl
theorem r36_4_go : fops E ro r36_4 a u σ = fops E ro (r36_4U ()) a u σ := rfl
theorem r36_6_go : fdraw E ro last r36_6 cl a u σ = fdraw E ro last (r36_6U ()) cl a u σ := rfl
theorem r36_7_go : fops E ro r36_7 a u σ = fops E ro (r36_7U ()) a u σ := rfl
theorem r36_5_go : fops E ro r36_5 a u σ = fops E ro (r36_5U ()) a u σ := rfl
theorem r36_8_go : fops E ro r36_8 a u σ = fops E ro (r36_8U ()) a u σ := rfl
theorem code36 (E : Env) (ro : Option Nat) (fn : FuncId) : code Tryz.prog nls (Tryz.f36.body.getD .skip) E ro fn = run36 E ro fn := by kernel_rfl
theorem enter36 (E : Env) (args : List Value) (u : Option FrameMode) (σ : FState) (hn : args.length ≤ (6 : Nat)) : fcall Tryz.prog nls E 36 args u σ = leaveR Tryz.prog E [.tmp 4] (run36 E none 36 ⟨padTo undef 6 args, fun _ => undef, 6, 27, []⟩ u σ) := by
  rw [fcall_of (body := Tryz.f36.body.getD .skip) Tryz.func36 rfl E args u σ 6 27 (by kernel_rfl) rfl ⟨hn, by decide⟩, code36]
  rfl
/-! (*caracole/caracolekit.Coil).wind -/
noncomputable def r86_0U (_ : Unit) : List COp := [⟨fun a σ => .val (.int .u64 0) σ, (some 2), fun _ => some true⟩]
noncomputable def r86_0 : List COp := r86_0U ()
noncomputable def r86_1U (_ : Unit) : List COp := [⟨fun a σ => .val (a.get 0) σ, (some 4), fun _ => some true⟩,
  ⟨fun a σ => fnilCheck (a.get 4) σ, (some 5), fun _ => some true⟩,
  ⟨fun a σ => ffield 1 (a.get 5) σ, (some 6), fun _ => some true⟩,
  ⟨fun a σ => fload none (a.get 6) σ, (some 7), fun _ => some true⟩,
  ⟨fun a σ => fun1 Tryz.prog (convert 3 85) (a.get 7) σ, (some 8), fun _ => some true⟩,
  ⟨fun a σ => i_add Tryz.prog 85 (.tmp 8) (.const (.int .u64 1376283091369227076)) (a.get 8) (.int .u64 1376283091369227076) σ, (some 9), fun _ => some true⟩,
  ⟨fun a σ => .val (a.get 9) σ, (some 3), fun _ => some true⟩]
noncomputable def r86_1 : List COp := r86_1U ()
noncomputable def r86_2U (_ : Unit) : List DOp := [⟨fun a σ => .val (a.get 0) σ, (some 10), fun _ => some true, (some 0), false⟩,
  ⟨fun a σ => fnilCheck (a.get 10) σ, (some 11), fun _ => some true, (some 0), false⟩,
  ⟨fun a σ => ffield 1 (a.get 11) σ, (some 12), fun _ => some true, (some 0), false⟩,
  ⟨fun a σ => fload none (a.get 12) σ, (some 13), fun _ => some true, (some 0), false⟩,
  ⟨fun a σ => .val (a.get 0) σ, (some 14), fun _ => some true, (some 0), false⟩,
  ⟨fun a σ => fnilCheck (a.get 14) σ, (some 15), fun _ => some true, (some 0), false⟩,
  ⟨fun a σ => ffield 0 (a.get 15) σ, (some 16), fun _ => some true, (some 0), false⟩,
  ⟨fun a σ => fload none (a.get 16) σ, (some 17), fun _ => some true, (some 0), false⟩,
  ⟨fun a σ => flenL (a.get 17) σ, (some 18), fun _ => some true, (some 0), false⟩,
  ⟨fun a σ => i_lss Tryz.prog 3 (.tmp 13) (.tmp 18) (a.get 13) (a.get 18) σ, (some 19), fun _ => some true, (some 0), false⟩]
noncomputable def r86_2 : List DOp := r86_2U ()
noncomputable def r86_3U (_ : Unit) : List DOp := [⟨fun a σ => .val (a.get 3) σ, (some 20), fun _ => some true, (some 0), false⟩,
  ⟨fun a σ => .val (a.get 0) σ, (some 21), fun _ => some true, (some 0), false⟩,
  ⟨fun a σ => fnilCheck (a.get 21) σ, (some 22), fun _ => some true, (some 0), false⟩,
  ⟨fun a σ => ffield 0 (a.get 22) σ, (some 23), fun _ => some true, (some 0), false⟩,
  ⟨fun a σ => fload none (a.get 23) σ, (some 24), fun _ => some true, (some 0), false⟩,
  ⟨fun a σ => .val (a.get 0) σ, (some 25), fun _ => some true, (some 0), false⟩,
  ⟨fun a σ => fnilCheck (a.get 25) σ, (some 26), fun _ => some true, (some 0), false⟩,
  ⟨fun a σ => ffield 1 (a.get 26) σ, (some 27), fun _ => some true, (some 0), false⟩,
  ⟨fun a σ => fload none (a.get 27) σ, (some 28), fun _ => some true, (some 0), false⟩,
  ⟨fun a σ => findex (none, 1) (a.get 24) (a.get 28) σ, (some 29), fun _ => some true, (some 0), false⟩,
  ⟨fun a σ => fload none (a.get 29) σ, (some 30), fun _ => some true, (some 0), false⟩,
  ⟨fun a σ => fun1 Tryz.prog (convert 3 85) (a.get 30) σ, (some 31), fun _ => some true, (some 0), false⟩,
  ⟨fun a σ => i_mul Tryz.prog 85 (.tmp 31) (.const (.int .u64 11820040416388919761)) (a.get 31) (.int .u64 11820040416388919761) σ, (some 32), fun _ => some true, (some 0), false⟩,
  ⟨fun a σ => fbin0 Tryz.prog .xor 85 (.tmp 20) (.tmp 32) (a.get 20) (a.get 32) σ, (some 33), fun _ => some true, (some 0), false⟩,
  ⟨fun a σ => .val (a.get 33) σ, (some 3), fun _ => some true, (some 0), false⟩]
noncomputable def r86_3 : List DOp := r86_3U ()
noncomputable def r86_4U (_ : Unit) : List COp := [⟨fun a σ => .val (a.get 0) σ, (some 34), fun _ => some true⟩,
  ⟨fun a σ => fnilCheck (a.get 34) σ, (some 35), fun _ => some true⟩,
  ⟨fun a σ => ffield 1 (a.get 35) σ, (some 36), fun _ => some true⟩,
  ⟨fun a σ => fload none (a.get 36) σ, (some 37), fun _ => some true⟩,
  ⟨fun a σ => i_add Tryz.prog 3 (.tmp 37) (.const (.int .i64 1)) (a.get 37) (.int .i64 1) σ, (some 38), fun _ => some true⟩,
  ⟨fun a σ => fnilCheck (a.get 34) σ, (some 39), fun _ => some true⟩,
  ⟨fun a σ => ffield 1 (a.get 39) σ, (some 40), fun _ => some true⟩,
  ⟨fun a σ => fstore 1 (a.get 40) (a.get 38) σ, none, fun _ => some true⟩]
noncomputable def r86_4 : List COp := r86_4U ()
noncomputable def r86_5U (_ : Unit) : List COp := [⟨fun a σ => .val (a.get 0) σ, (some 41), fun _ => some true⟩,
  ⟨fun a σ => .val (a.get 0) σ, (some 42), fun _ => some true⟩,
  ⟨fun a σ => fnilCheck (a.get 42) σ, (some 43), fun _ => some true⟩,
  ⟨fun a σ => ffield 2 (a.get 43) σ, (some 44), fun _ => some true⟩,
  ⟨fun a σ => fload none (a.get 44) σ, (some 45), fun _ => some true⟩,
  ⟨fun a σ => .val (a.get 3) σ, (some 46), fun _ => some true⟩,
  ⟨fun a σ => i_add Tryz.prog 85 (.tmp 45) (.tmp 46) (a.get 45) (a.get 46) σ, (some 47), fun _ => some true⟩,
  ⟨fun a σ => i_mul Tryz.prog 85 (.tmp 47) (.const (.int .u64 589684135938649225)) (a.get 47) (.int .u64 589684135938649225) σ, (some 48), fun _ => some true⟩,
  ⟨fun a σ => fnilCheck (a.get 41) σ, (some 49), fun _ => some true⟩,
  ⟨fun a σ => ffield 2 (a.get 49) σ, (some 50), fun _ => some true⟩,
  ⟨fun a σ => fstore 1 (a.get 50) (a.get 48) σ, none, fun _ => some true⟩]
noncomputable def r86_5 : List COp := r86_5U ()
noncomputable def r86_6U (_ : Unit) : List DOp := [⟨fun a σ => .val (a.get 0) σ, (some 51), fun _ => some true, (some 0), false⟩,
  ⟨fun a σ => .val (a.get 0) σ, (some 52), fun _ => some true, (some 0), false⟩,
  ⟨fun a σ => fnilCheck (a.get 52) σ, (some 53), fun _ => some true, (some 0), false⟩,
  ⟨fun a σ => ffield 2 (a.get 53) σ, (some 54), fun _ => some true, (some 0), false⟩,
  ⟨fun a σ => fload none (a.get 54) σ, (some 55), fun _ => some true, (some 0), false⟩,
  ⟨fun a σ => .val (a.get 0) σ, (some 56), fun _ => some true, (some 0), false⟩,
  ⟨fun a σ => fnilCheck (a.get 56) σ, (some 57), fun _ => some true, (some 0), false⟩,
  ⟨fun a σ => ffield 2 (a.get 57) σ, (some 58), fun _ => some true, (some 0), false⟩,
  ⟨fun a σ => fload none (a.get 58) σ, (some 59), fun _ => some true, (some 0), false⟩,
  ⟨fun a σ => fbin0 Tryz.prog .shr 85 (.tmp 59) (.const (.int .u64 32)) (a.get 59) (.int .u64 32) σ, (some 60), fun _ => some true, (some 0), false⟩,
  ⟨fun a σ => fbin0 Tryz.prog .xor 85 (.tmp 55) (.tmp 60) (a.get 55) (a.get 60) σ, (some 61), fun _ => some true, (some 0), false⟩,
  ⟨fun a σ => fnilCheck (a.get 51) σ, (some 62), fun _ => some true, (some 0), false⟩,
  ⟨fun a σ => ffield 2 (a.get 62) σ, (some 63), fun _ => some true, (some 0), false⟩,
  ⟨fun a σ => fstore 1 (a.get 63) (a.get 61) σ, none, fun _ => some true, none, true⟩]
noncomputable def r86_6 : List DOp := r86_6U ()
noncomputable def r86_7U (_ : Unit) : List COp := [⟨fun a σ => .val (a.get 0) σ, (some 64), fun _ => some true⟩,
  ⟨fun a σ => .val (a.get 0) σ, (some 65), fun _ => some true⟩,
  ⟨fun a σ => fnilCheck (a.get 65) σ, (some 66), fun _ => some true⟩,
  ⟨fun a σ => ffield 2 (a.get 66) σ, (some 67), fun _ => some true⟩,
  ⟨fun a σ => fload none (a.get 67) σ, (some 68), fun _ => some true⟩,
  ⟨fun a σ => i_mul Tryz.prog 85 (.tmp 68) (.const (.int .u64 4983270260364809079)) (a.get 68) (.int .u64 4983270260364809079) σ, (some 69), fun _ => some true⟩,
  ⟨fun a σ => fnilCheck (a.get 64) σ, (some 70), fun _ => some true⟩,
  ⟨fun a σ => ffield 2 (a.get 70) σ, (some 71), fun _ => some true⟩,
  ⟨fun a σ => fstore 1 (a.get 71) (a.get 69) σ, none, fun _ => some true⟩]
noncomputable def r86_7 : List COp := r86_7U ()
noncomputable def r86_8U (_ : Unit) : List DOp := [⟨fun a σ => .val (a.get 0) σ, (some 72), fun _ => some true, (some 0), false⟩,
  ⟨fun a σ => fnilCheck (a.get 72) σ, (some 73), fun _ => some true, (some 0), false⟩,
  ⟨fun a σ => ffield 2 (a.get 73) σ, (some 74), fun _ => some true, (some 0), false⟩,
  ⟨fun a σ => fload none (a.get 74) σ, (some 75), fun _ => some true, (some 0), false⟩,
  ⟨fun a σ => .val (a.get 0) σ, (some 76), fun _ => some true, (some 0), false⟩,
  ⟨fun a σ => fnilCheck (a.get 76) σ, (some 77), fun _ => some true, (some 0), false⟩,
  ⟨fun a σ => ffield 2 (a.get 77) σ, (some 78), fun _ => some true, (some 0), false⟩,
  ⟨fun a σ => fload none (a.get 78) σ, (some 79), fun _ => some true, (some 0), false⟩,
  ⟨fun a σ => fbin0 Tryz.prog .shr 85 (.tmp 79) (.const (.int .u64 27)) (a.get 79) (.int .u64 27) σ, (some 80), fun _ => some true, (some 0), false⟩,
  ⟨fun a σ => fbin0 Tryz.prog .xor 85 (.tmp 75) (.tmp 80) (a.get 75) (a.get 80) σ, (some 81), fun _ => some true, (some 0), false⟩,
  ⟨fun a σ => fbin0 Tryz.prog .shr 85 (.tmp 81) (.const (.int .u64 9)) (a.get 81) (.int .u64 9) σ, (some 82), fun _ => some true, (some 0), false⟩,
  ⟨fun a σ => .val (a.get 82) σ, (some 2), fun _ => some true, (some 0), false⟩]
noncomputable def r86_8 : List DOp := r86_8U ()
noncomputable def run86 (E : Env) (ro : Option Nat) (fn : FuncId) : RunF := (seqR (fops E ro r86_0) (seqR (fops E ro r86_1) (seqR (seqR (drawR E ro r86_2) (condR (fun a => (a.get 19)) (drawR E ro r86_3) skipR)) (seqR (fops E ro r86_4) (seqR (fops E ro r86_5) (seqR (drawR E ro r86_6) (seqR (fops E ro r86_7) (seqR (drawR E ro r86_8) retR))))))))
theorem r86_0_go : fops E ro r86_0 a u σ = fops E ro (r86_0U ()) a u σ := rfl
theorem r86_1_go : fops E ro r86_1 a u σ = fops E ro (r86_1U ()) a u σ := rfl
theorem r86_2_go : fdraw E ro last r86_2 cl a u σ = fdraw E ro last (r86_2U ()) cl a u σ := rfl
theorem r86_3_go : fdraw E ro last r86_3 cl a u σ = fdraw E ro last (r86_3U ()) cl a u σ := rfl
theorem r86_4_go : fops E ro r86_4 a u σ = fops E ro (r86_4U ()) a u σ := rfl
theorem r86_5_go : fops E ro r86_5 a u σ = fops E ro (r86_5U ()) a u σ := rfl
theorem r86_6_go : fdraw E ro last r86_6 cl a u σ = fdraw E ro last (r86_6U ()) cl a u σ := rfl
theorem r86_7_go : fops E ro r86_7 a u σ = fops E ro (r86_7U ()) a u σ := rfl
theorem r86_8_go : fdraw E ro last r86_8 cl a u σ = fdraw E ro last (r86_8U ()) cl a u σ := rfl
theorem code86 (E : Env) (ro : Option Nat) (fn : FuncId) : code Tryz.prog nls (Tryz.f86.body.getD .skip) E ro fn = run86 E ro fn := by kernel_rfl
theorem enter86 (E : Env) (args : List Value) (u : Option FrameMode) (σ : FState) (hn : args.length ≤ (4 : Nat)) : fcall Tryz.prog nls E 86 args u σ = leaveR Tryz.prog E [.tmp 2] (run86 E none 86 ⟨padTo undef 4 args, fun _ => undef, 4, 83, []⟩ u σ) := by
  rw [fcall_of (body := Tryz.f86.body.getD .skip) Tryz.func86 rfl E args u σ 4 83 (by kernel_rfl) rfl ⟨hn, by decide⟩, code86]
  rfl
/-! (*caracole/caracolekit.Coil).Up -/
noncomputable def r24_0U (_ : Unit) : List COp := [⟨fun a σ => .val (.int .i64 0) σ, (some 4), fun _ => some true⟩]
noncomputable def r24_0 : List COp := r24_0U ()
noncomputable def r24_1U (_ : Unit) : List COp := [⟨fun a σ => .val (a.get 0) σ, (some 6), fun _ => some true⟩,
  ⟨fun a σ => .enter 86 [(a.get 6)] σ, (some 7), fun _ => some true⟩,
  ⟨fun a σ => .val (a.get 7) σ, (some 5), fun _ => some true⟩]
noncomputable def r24_1 : List COp := r24_1U ()
noncomputable def r24_2U (_ : Unit) : List COp := [⟨fun a σ => .val (a.get 1) σ, (some 8), fun _ => some true⟩,
  ⟨fun a σ => i_lss Tryz.prog 3 (.tmp 8) (.const (.int .i64 1)) (a.get 8) (.int .i64 1) σ, (some 9), fun _ => some true⟩]
noncomputable def r24_2 : List COp := r24_2U ()
noncomputable def r24_3U (_ : Unit) : List COp := [⟨fun a σ => .val (.int .i64 0) σ, (some 4), fun _ => some true⟩]
noncomputable def r24_3 : List COp := r24_3U ()
noncomputable def r24_4U (_ : Unit) : List COp := [⟨fun a σ => .val (a.get 5) σ, (some 10), fun _ => some true⟩,
  ⟨fun a σ => .val (a.get 1) σ, (some 11), fun _ => some true⟩,
  ⟨fun a σ => i_add Tryz.prog 3 (.tmp 11) (.const (.int .i64 1)) (a.get 11) (.int .i64 1) σ, (some 12), fun _ => some true⟩,
  ⟨fun a σ => fun1 Tryz.prog (convert 3 85) (a.get 12) σ, (some 13), fun _ => some true⟩,
  ⟨fun a σ => fbin0 Tryz.prog .rem 85 (.tmp 10) (.tmp 13) (a.get 10) (a.get 13) σ, (some 14), fun _ => some true⟩,
  ⟨fun a σ => fun1 Tryz.prog (convert 85 3) (a.get 14) σ, (some 15), fun _ => some true⟩,
  ⟨fun a σ => .val (a.get 15) σ, (some 4), fun _ => some true⟩]
noncomputable def r24_4 : List COp := r24_4U ()
noncomputable def run24 (E : Env) (ro : Option Nat) (fn : FuncId) : RunF := (seqR (fops E ro r24_0) (seqR (fops E ro r24_1) (seqR (seqR (fops E ro r24_2) (condR (fun a => (a.get 9)) (seqR (fops E ro r24_3) retR) skipR)) (seqR (fops E ro r24_4) retR))))
theorem r24_0_go : fops E ro r24_0 a u σ = fops E ro (r24_0U ()) a u σ := rfl
theorem r24_1_go : fops E ro r24_1 a u σ = fops E ro (r24_1U ()) a u σ := rfl
theorem r24_2_go : fops E ro r24_2 a u σ = fops E ro (r24_2U ()) a u σ := rfl
theorem r24_3_go : fops E ro r24_3 a u σ = fops E ro (r24_3U ()) a u σ := rfl
theorem r24_4_go : fops E ro r24_4 a u σ = fops E ro (r24_4U ()) a u σ := rfl
theorem code24 (E : Env) (ro : Option Nat) (fn : FuncId) : code Tryz.prog nls (Tryz.f24.body.getD .skip) E ro fn = run24 E ro fn := by kernel_rfl
theorem enter24 (E : Env) (args : List Value) (u : Option FrameMode) (σ : FState) (hn : args.length ≤ (6 : Nat)) : fcall Tryz.prog nls E 24 args u σ = leaveR Tryz.prog E [.tmp 4] (run24 E none 24 ⟨padTo undef 6 args, fun _ => undef, 6, 16, []⟩ u σ) := by
  rw [fcall_of (body := Tryz.f24.body.getD .skip) Tryz.func24 rfl E args u σ 6 16 (by kernel_rfl) rfl ⟨hn, by decide⟩, code24]
  rfl
/-! (*caracole/caracolekit.Coil).Once -/
noncomputable def r61_0U (_ : Unit) : List COp := [⟨fun a σ => .val (.bool false) σ, (some 4), fun _ => some true⟩]
noncomputable def r61_0 : List COp := r61_0U ()
noncomputable def r61_1U (_ : Unit) : List COp := [⟨fun a σ => .val (a.get 0) σ, (some 5), fun _ => some true⟩,
  ⟨fun a σ => .val (a.get 1) σ, (some 6), fun _ => some true⟩,
  ⟨fun a σ => i_sub Tryz.prog 3 (.tmp 6) (.const (.int .i64 1)) (a.get 6) (.int .i64 1) σ, (some 7), fun _ => some true⟩,
  ⟨fun a σ => .enter 24 [(a.get 5), (a.get 7)] σ, (some 8), fun _ => some true⟩,
  ⟨fun a σ => i_eql Tryz.prog 3 (.tmp 8) (.const (.int .i64 0)) (a.get 8) (.int .i64 0) σ, (some 9), fun _ => some true⟩,
  ⟨fun a σ => .val (a.get 9) σ, (some 4), fun _ => some true⟩]
noncomputable def r61_1 : List COp := r61_1U ()
noncomputable def run61 (E : Env) (ro : Option Nat) (fn : FuncId) : RunF := (seqR (fops E ro r61_0) (seqR (fops E ro r61_1) retR))
theorem r61_0_go : fops E ro r61_0 a u σ = fops E ro (r61_0U ()) a u σ := rfl
theorem r61_1_go : fops E ro r61_1 a u σ = fops E ro (r61_1U ()) a u σ := rfl
theorem code61 (E : Env) (ro : Option Nat) (fn : FuncId) : code Tryz.prog nls (Tryz.f61.body.getD .skip) E ro fn = run61 E ro fn := by kernel_rfl
theorem enter61 (E : Env) (args : List Value) (u : Option FrameMode) (σ : FState) (hn : args.length ≤ (4 : Nat)) : fcall Tryz.prog nls E 61 args u σ = leaveR Tryz.prog E [.tmp 4] (run61 E none 61 ⟨padTo undef 4 args, fun _ => undef, 4, 10, []⟩ u σ) := by
  rw [fcall_of (body := Tryz.f61.body.getD .skip) Tryz.func61 rfl E args u σ 4 10 (by kernel_rfl) rfl ⟨hn, by decide⟩, code61]
  rfl
/-! (*caracole/caracolekit.Coil).From -/
noncomputable def r67_0U (_ : Unit) : List COp := [⟨fun a σ => .val (.int .i64 0) σ, (some 6), fun _ => some true⟩]
noncomputable def r67_0 : List COp := r67_0U ()
noncomputable def r67_1U (_ : Unit) : List COp := [⟨fun a σ => .val (a.get 1) σ, (some 7), fun _ => some true⟩,
  ⟨fun a σ => .val (a.get 0) σ, (some 8), fun _ => some true⟩,
  ⟨fun a σ => .val (a.get 2) σ, (some 9), fun _ => some true⟩,
  ⟨fun a σ => .val (a.get 1) σ, (some 10), fun _ => some true⟩,
  ⟨fun a σ => i_sub Tryz.prog 3 (.tmp 9) (.tmp 10) (a.get 9) (a.get 10) σ, (some 11), fun _ => some true⟩,
  ⟨fun a σ => .enter 24 [(a.get 8), (a.get 11)] σ, (some 12), fun _ => some true⟩,
  ⟨fun a σ => i_add Tryz.prog 3 (.tmp 7) (.tmp 12) (a.get 7) (a.get 12) σ, (some 13), fun _ => some true⟩,
  ⟨fun a σ => .val (a.get 13) σ, (some 6), fun _ => some true⟩]
noncomputable def r67_1 : List COp := r67_1U ()
noncomputable def run67 (E : Env) (ro : Option Nat) (fn : FuncId) : RunF := (seqR (fops E ro r67_0) (seqR (fops E ro r67_1) retR))
theorem r67_0_go : fops E ro r67_0 a u σ = fops E ro (r67_0U ()) a u σ := rfl
theorem r67_1_go : fops E ro r67_1 a u σ = fops E ro (r67_1U ()) a u σ := rfl
theorem code67 (E : Env) (ro : Option Nat) (fn : FuncId) : code Tryz.prog nls (Tryz.f67.body.getD .skip) E ro fn = run67 E ro fn := by kernel_rfl
theorem enter67 (E : Env) (args : List Value) (u : Option FrameMode) (σ : FState) (hn : args.length ≤ (6 : Nat)) : fcall Tryz.prog nls E 67 args u σ = leaveR Tryz.prog E [.tmp 6] (run67 E none 67 ⟨padTo undef 6 args, fun _ => undef, 6, 14, []⟩ u σ) := by
  rw [fcall_of (body := Tryz.f67.body.getD .skip) Tryz.func67 rfl E args u σ 6 14 (by kernel_rfl) rfl ⟨hn, by decide⟩, code67]
  rfl
/-! (*caracole/caracolekit.Coil).One -/
noncomputable def r66_0U (_ : Unit) : List COp := [⟨fun a σ => .val (.int .i64 0) σ, (some 4), fun _ => some true⟩]
noncomputable def r66_0 : List COp := r66_0U ()
noncomputable def r66_1U (_ : Unit) : List COp := [⟨fun a σ => .val (a.get 1) σ, (some 5), fun _ => some true⟩,
  ⟨fun a σ => .val (a.get 0) σ, (some 6), fun _ => some true⟩,
  ⟨fun a σ => .val (a.get 1) σ, (some 7), fun _ => some true⟩,
  ⟨fun a σ => flenL (a.get 7) σ, (some 8), fun _ => some true⟩,
  ⟨fun a σ => i_sub Tryz.prog 3 (.tmp 8) (.const (.int .i64 1)) (a.get 8) (.int .i64 1) σ, (some 9), fun _ => some true⟩,
  ⟨fun a σ => .enter 24 [(a.get 6), (a.get 9)] σ, (some 10), fun _ => some true⟩,
  ⟨fun a σ => findex (none, 1) (a.get 5) (a.get 10) σ, (some 11), fun _ => some true⟩,
  ⟨fun a σ => fload none (a.get 11) σ, (some 12), fun _ => some true⟩,
  ⟨fun a σ => .val (a.get 12) σ, (some 4), fun _ => some true⟩]
noncomputable def r66_1 : List COp := r66_1U ()
noncomputable def run66 (E : Env) (ro : Option Nat) (fn : FuncId) : RunF := (seqR (fops E ro r66_0) (seqR (fops E ro r66_1) retR))
theorem r66_0_go : fops E ro r66_0 a u σ = fops E ro (r66_0U ()) a u σ := rfl
theorem r66_1_go : fops E ro r66_1 a u σ = fops E ro (r66_1U ()) a u σ := rfl
theorem code66 (E : Env) (ro : Option Nat) (fn : FuncId) : code Tryz.prog nls (Tryz.f66.body.getD .skip) E ro fn = run66 E ro fn := by kernel_rfl
theorem enter66 (E : Env) (args : List Value) (u : Option FrameMode) (σ : FState) (hn : args.length ≤ (4 : Nat)) : fcall Tryz.prog nls E 66 args u σ = leaveR Tryz.prog E [.tmp 4] (run66 E none 66 ⟨padTo undef 4 args, fun _ => undef, 4, 13, []⟩ u σ) := by
  rw [fcall_of (body := Tryz.f66.body.getD .skip) Tryz.func66 rfl E args u σ 4 13 (by kernel_rfl) rfl ⟨hn, by decide⟩, code66]
  rfl
/-! (*caracole/caracolekit.Coil).Text -/
noncomputable def r64_0U (_ : Unit) : List COp := [⟨fun a σ => .val (.string ⟨#[]⟩) σ, (some 4), fun _ => some true⟩]
noncomputable def r64_0 : List COp := r64_0U ()
noncomputable def r64_1U (_ : Unit) : List COp := [⟨fun a σ => .val (a.get 1) σ, (some 5), fun _ => some true⟩,
  ⟨fun a σ => .val (a.get 0) σ, (some 6), fun _ => some true⟩,
  ⟨fun a σ => .val (a.get 1) σ, (some 7), fun _ => some true⟩,
  ⟨fun a σ => flenL (a.get 7) σ, (some 8), fun _ => some true⟩,
  ⟨fun a σ => i_sub Tryz.prog 3 (.tmp 8) (.const (.int .i64 1)) (a.get 8) (.int .i64 1) σ, (some 9), fun _ => some true⟩,
  ⟨fun a σ => .enter 24 [(a.get 6), (a.get 9)] σ, (some 10), fun _ => some true⟩,
  ⟨fun a σ => findex (none, 1) (a.get 5) (a.get 10) σ, (some 11), fun _ => some true⟩,
  ⟨fun a σ => fload none (a.get 11) σ, (some 12), fun _ => some true⟩,
  ⟨fun a σ => .val (a.get 12) σ, (some 4), fun _ => some true⟩]
noncomputable def r64_1 : List COp := r64_1U ()
noncomputable def run64 (E : Env) (ro : Option Nat) (fn : FuncId) : RunF := (seqR (fops E ro r64_0) (seqR (fops E ro r64_1) retR))
theorem r64_0_go : fops E ro r64_0 a u σ = fops E ro (r64_0U ()) a u σ := rfl
theorem r64_1_go : fops E ro r64_1 a u σ = fops E ro (r64_1U ()) a u σ := rfl
theorem code64 (E : Env) (ro : Option Nat) (fn : FuncId) : code Tryz.prog nls (Tryz.f64.body.getD .skip) E ro fn = run64 E ro fn := by kernel_rfl
theorem enter64 (E : Env) (args : List Value) (u : Option FrameMode) (σ : FState) (hn : args.length ≤ (4 : Nat)) : fcall Tryz.prog nls E 64 args u σ = leaveR Tryz.prog E [.tmp 4] (run64 E none 64 ⟨padTo undef 4 args, fun _ => undef, 4, 13, []⟩ u σ) := by
  rw [fcall_of (body := Tryz.f64.body.getD .skip) Tryz.func64 rfl E args u σ 4 13 (by kernel_rfl) rfl ⟨hn, by decide⟩, code64]
  rfl
/-! caracole/caracolekit.DatumOf -/
noncomputable def r11_0U (_ : Unit) : List COp := [⟨fun a σ => newCells [(.int .i64 0), (.int .i64 0), (.string ⟨#[]⟩), (.slice none 0 0)] 24 none σ, (some 4), fun _ => some true⟩]
noncomputable def r11_0 : List COp := r11_0U ()
noncomputable def r11_1U (_ : Unit) : List COp := [⟨fun a σ => .val (a.get 1) σ, (some 7), fun _ => some true⟩,
  ⟨fun a σ => i_lss Tryz.prog 3 (.tmp 7) (.const (.int .i64 2)) (a.get 7) (.int .i64 2) σ, (some 8), fun _ => some true⟩,
  ⟨fun a σ => .val (a.get 8) σ, (some 9), fun _ => some true⟩,
  ⟨fun a σ => .val (a.get 0) σ, (some 10), fun a => gd (a.get 9) false⟩,
  ⟨fun a σ => .enter 61 [(a.get 10), (.int .i64 4)] σ, (some 11), fun a => gd (a.get 9) false⟩,
  ⟨fun a σ => fpick (a.get 9) (.bool true) (a.get 11) σ, (some 12), fun _ => some true⟩]
noncomputable def r11_1 : List COp := r11_1U ()
noncomputable def r11_2U (_ : Unit) : List COp := [⟨fun a σ => .val (a.get 0) σ, (some 13), fun _ => some true⟩,
  ⟨fun a σ => .enter 24 [(a.get 13), (.int .i64 6)] σ, (some 14), fun _ => some true⟩]
noncomputable def r11_2 : List COp := r11_2U ()
noncomputable def r11_3U (_ : Unit) : List COp := [⟨fun a σ => i_eql Tryz.prog 3 (.tmp 14) (.const (.int .i64 0)) (a.get 14) (.int .i64 0) σ, (some 16), fun _ => some true⟩,
  ⟨fun a σ => .val (a.get 16) σ, (some 15), fun _ => some true⟩]
noncomputable def r11_3 : List COp := r11_3U ()
noncomputable def r11_4U (_ : Unit) : List COp := [⟨fun a σ => fbuild (fun i => nth [(0, 1), (1, 1), (2, 1), (3, 1)] i) [(.int .i64 0), (.int .i64 0), (.string ⟨#[]⟩), (.slice none 0 0)] [] σ, (some 17), fun _ => some true⟩,
  ⟨fun a σ => fstore 4 (a.get 4) (a.get 17) σ, none, fun _ => some true⟩]
noncomputable def r11_4 : List COp := r11_4U ()
noncomputable def r11_5U (_ : Unit) : List COp := [⟨fun a σ => i_eql Tryz.prog 3 (.tmp 14) (.const (.int .i64 1)) (a.get 14) (.int .i64 1) σ, (some 19), fun _ => some true⟩,
  ⟨fun a σ => .val (a.get 19) σ, (some 18), fun _ => some true⟩]
noncomputable def r11_5 : List COp := r11_5U ()
noncomputable def r11_6U (_ : Unit) : List COp := [⟨fun a σ => .val (a.get 0) σ, (some 20), fun _ => some true⟩,
  ⟨fun a σ => .enter 61 [(a.get 20), (.int .i64 2)] σ, (some 21), fun _ => some true⟩,
  ⟨fun a σ => .enter 62 [(a.get 21)] σ, (some 22), fun _ => some true⟩,
  ⟨fun a σ => fstore 4 (a.get 4) (a.get 22) σ, none, fun _ => some true⟩]
noncomputable def r11_6 : List COp := r11_6U ()
noncomputable def r11_7U (_ : Unit) : List COp := [⟨fun a σ => i_eql Tryz.prog 3 (.tmp 14) (.const (.int .i64 2)) (a.get 14) (.int .i64 2) σ, (some 24), fun _ => some true⟩,
  ⟨fun a σ => .val (a.get 24) σ, (some 23), fun _ => some true⟩]
noncomputable def r11_7 : List COp := r11_7U ()
noncomputable def r11_8U (_ : Unit) : List COp := [⟨fun a σ => .val (a.get 0) σ, (some 25), fun _ => some true⟩,
  ⟨fun a σ => fbuildSlice 9 8 1 [(.string ⟨#[]⟩)] [(0, (.string ⟨#[97]⟩)), (1, (.string ⟨#[98]⟩)), (2, (.string ⟨#[120]⟩)), (3, (.string ⟨#[105, 102]⟩)), (4, (.string ⟨#[108, 105, 115, 116]⟩)), (5, (.string ⟨#[97, 45, 98]⟩)), (6, (.string ⟨#[110, 117, 108, 108, 63]⟩)), (7, (.string ⟨#[43]⟩))] σ, (some 26), fun _ => some true⟩,
  ⟨fun a σ => .enter 64 [(a.get 25), (a.get 26)] σ, (some 27), fun _ => some true⟩,
  ⟨fun a σ => .enter 63 [(a.get 27)] σ, (some 28), fun _ => some true⟩,
  ⟨fun a σ => fstore 4 (a.get 4) (a.get 28) σ, none, fun _ => some true⟩]
noncomputable def r11_8 : List COp := r11_8U ()
noncomputable def r11_9U (_ : Unit) : List COp := [⟨fun a σ => i_eql Tryz.prog 3 (.tmp 14) (.const (.int .i64 3)) (a.get 14) (.int .i64 3) σ, (some 30), fun _ => some true⟩,
  ⟨fun a σ => .val (a.get 30) σ, (some 29), fun _ => some true⟩]
noncomputable def r11_9 : List COp := r11_9U ()
noncomputable def r11_10U (_ : Unit) : List COp := [⟨fun a σ => .val (a.get 0) σ, (some 31), fun _ => some true⟩,
  ⟨fun a σ => fbuildSlice 9 5 1 [(.string ⟨#[]⟩)] [(0, (.string ⟨#[]⟩)), (1, (.string ⟨#[97]⟩)), (2, (.string ⟨#[116, 119, 111, 32, 119, 111, 114, 100, 115]⟩)), (3, (.string ⟨#[113, 34, 113]⟩)), (4, (.string ⟨#[98, 92]⟩))] σ, (some 32), fun _ => some true⟩,
  ⟨fun a σ => .enter 64 [(a.get 31), (a.get 32)] σ, (some 33), fun _ => some true⟩,
  ⟨fun a σ => .enter 59 [(a.get 33)] σ, (some 34), fun _ => some true⟩,
  ⟨fun a σ => fstore 4 (a.get 4) (a.get 34) σ, none, fun _ => some true⟩]
noncomputable def r11_10 : List COp := r11_10U ()
noncomputable def r11_11U (_ : Unit) : List COp := [⟨fun a σ => .val (a.get 0) σ, (some 35), fun _ => some true⟩,
  ⟨fun a σ => .val (a.get 0) σ, (some 36), fun _ => some true⟩,
  ⟨fun a σ => .enter 67 [(a.get 36), (.int .i64 (-20)), (.int .i64 20)] σ, (some 37), fun _ => some true⟩,
  ⟨fun a σ => .val (a.get 0) σ, (some 38), fun _ => some true⟩,
  ⟨fun a σ => .enter 67 [(a.get 38), (.int .i64 (-999)), (.int .i64 999)] σ, (some 39), fun _ => some true⟩,
  ⟨fun a σ => fbuildSlice 3 5 1 [(.int .i64 0)] [(0, (.int .i64 0)), (1, (.int .i64 1)), (2, (.int .i64 (-1))), (3, (a.get 37)), (4, (a.get 39))] σ, (some 40), fun _ => some true⟩,
  ⟨fun a σ => .enter 66 [(a.get 35), (a.get 40)] σ, (some 41), fun _ => some true⟩,
  ⟨fun a σ => .enter 65 [(a.get 41)] σ, (some 42), fun _ => some true⟩,
  ⟨fun a σ => fstore 4 (a.get 4) (a.get 42) σ, none, fun _ => some true⟩]
noncomputable def r11_11 : List COp := r11_11U ()
noncomputable def r11_12U (_ : Unit) : List COp := [⟨fun a σ => .val (a.get 0) σ, (some 43), fun _ => some true⟩,
  ⟨fun a σ => .enter 61 [(a.get 43), (.int .i64 6)] σ, (some 44), fun _ => some true⟩]
noncomputable def r11_12 : List COp := r11_12U ()
noncomputable def r11_13U (_ : Unit) : List COp := [⟨fun a σ => fbuild (fun i => nth [(0, 1), (1, 1), (2, 1), (3, 1)] i) [(.int .i64 0), (.int .i64 0), (.string ⟨#[]⟩), (.slice none 0 0)] [(0, (.int .i64 6))] σ, (some 45), fun _ => some true⟩,
  ⟨fun a σ => newCells [(.int .i64 0), (.int .i64 0), (.string ⟨#[]⟩), (.slice none 0 0)] 24 none σ, (some 5), fun _ => some true⟩,
  ⟨fun a σ => fstore 4 (a.get 5) (a.get 45) σ, none, fun _ => some true⟩]
noncomputable def r11_13 : List COp := r11_13U ()
noncomputable def r11_14U (_ : Unit) : List COp := [⟨fun a σ => .val (a.get 0) σ, (some 46), fun _ => some true⟩,
  ⟨fun a σ => .enter 24 [(a.get 46), (.int .i64 3)] σ, (some 47), fun _ => some true⟩,
  ⟨fun a σ => .val (a.get 47) σ, (some 6), fun _ => some true⟩]
noncomputable def r11_14 : List COp := r11_14U ()
noncomputable def r11_15U (_ : Unit) : List COp := [⟨fun a σ => .val (a.get 6) σ, (some 48), fun _ => some true⟩,
  ⟨fun a σ => i_gtr Tryz.prog 3 (.tmp 48) (.const (.int .i64 0)) (a.get 48) (.int .i64 0) σ, (some 49), fun _ => some true⟩]
noncomputable def r11_15 : List COp := r11_15U ()
noncomputable def r11_17U (_ : Unit) : List DOp := [⟨fun a σ => .val (a.get 0) σ, (some 54), fun _ => some true, (some 0), false⟩,
  ⟨fun a σ => .val (a.get 1) σ, (some 55), fun _ => some true, (some 0), false⟩,
  ⟨fun a σ => i_sub Tryz.prog 3 (.tmp 55) (.const (.int .i64 1)) (a.get 55) (.int .i64 1) σ, (some 56), fun _ => some true, (some 0), false⟩,
  ⟨fun a σ => .enter 11 [(a.get 54), (a.get 56)] σ, (some 57), fun _ => some true, none, false⟩,
  ⟨fun a σ => ffield 3 (a.get 5) σ, (some 52), fun _ => some true, (some 0), false⟩,
  ⟨fun a σ => fload none (a.get 52) σ, (some 53), fun _ => some true, (some 0), false⟩,
  ⟨fun a σ => fbuildSlice 24 1 4 [(.int .i64 0), (.int .i64 0), (.string ⟨#[]⟩), (.slice none 0 0)] [(0, (a.get 57))] σ, (some 58), fun _ => some true, (some 1), false⟩,
  ⟨fun a σ => fappend 24 4 56 (a.get 53) (a.get 58) σ, (some 59), fun _ => some true, none, true⟩,
  ⟨fun a σ => ffield 3 (a.get 5) σ, (some 60), fun _ => some true, (some 2), false⟩,
  ⟨fun a σ => fstore 1 (a.get 60) (a.get 59) σ, none, fun _ => some true, none, true⟩]
noncomputable def r11_17 : List DOp := r11_17U ()
noncomputable def r11_16U (_ : Unit) : List COp := [⟨fun a σ => .val (a.get 6) σ, (some 50), fun _ => some true⟩,
  ⟨fun a σ => i_sub Tryz.prog 3 (.tmp 50) (.const (.int .i64 1)) (a.get 50) (.int .i64 1) σ, (some 51), fun _ => some true⟩,
  ⟨fun a σ => .val (a.get 51) σ, (some 6), fun _ => some true⟩]
noncomputable def r11_16 : List COp := r11_16U ()
noncomputable def l11_0 (E : Env) (ro : Option Nat) (fn : FuncId) : RunF := (seqR (seqR (fops E ro r11_15) (condR (fun a => (a.get 49)) skipR (exitR 1))) (seqR (blockR 2 (drawR E ro r11_17)) (fops E ro r11_16)))
noncomputable def r11_18U (_ : Unit) : List COp := [⟨fun a σ => fload (some 4) (a.get 5) σ, (some 61), fun _ => some true⟩,
  ⟨fun a σ => fstore 4 (a.get 4) (a.get 61) σ, none, fun _ => some true⟩]
noncomputable def r11_18 : List COp := r11_18U ()
noncomputable def r11_19U (_ : Unit) : List COp := [⟨fun a σ => .val (a.get 0) σ, (some 62), fun _ => some true⟩,
  ⟨fun a σ => .val (a.get 1) σ, (some 63), fun _ => some true⟩,
  ⟨fun a σ => i_sub Tryz.prog 3 (.tmp 63) (.const (.int .i64 1)) (a.get 63) (.int .i64 1) σ, (some 64), fun _ => some true⟩,
  ⟨fun a σ => .enter 11 [(a.get 62), (a.get 64)] σ, (some 65), fun _ => some true⟩,
  ⟨fun a σ => .val (a.get 0) σ, (some 66), fun _ => some true⟩,
  ⟨fun a σ => .val (a.get 1) σ, (some 67), fun _ => some true⟩,
  ⟨fun a σ => i_sub Tryz.prog 3 (.tmp 67) (.const (.int .i64 1)) (a.get 67) (.int .i64 1) σ, (some 68), fun _ => some true⟩,
  ⟨fun a σ => .enter 11 [(a.get 66), (a.get 68)] σ, (some 69), fun _ => some true⟩,
  ⟨fun a σ => .enter 68 [(a.get 65), (a.get 69)] σ, (some 70), fun _ => some true⟩,
  ⟨fun a σ => fstore 4 (a.get 4) (a.get 70) σ, none, fun _ => some true⟩]
noncomputable def r11_19 : List COp := r11_19U ()
noncomputable def run11 (E : Env) (ro : Option Nat) (fn : FuncId) : RunF := (seqR (fops E ro r11_0) (seqR (seqR (fops E ro r11_1) (condR (fun a => (a.get 12)) (seqR (seqR (fops E ro r11_2) (blockR 0 (seqR (fops E ro r11_3) (condR (fun a => (a.get 15)) (seqR (fops E ro r11_4) retR) (seqR (fops E ro r11_5) (condR (fun a => (a.get 18)) (seqR (fops E ro r11_6) retR) (seqR (fops E ro r11_7) (condR (fun a => (a.get 23)) (seqR (fops E ro r11_8) retR) (seqR (fops E ro r11_9) (condR (fun a => (a.get 29)) (seqR (fops E ro r11_10) retR) skipR)))))))))) (seqR (fops E ro r11_11) retR)) skipR)) (seqR (seqR (fops E ro r11_12) (condR (fun a => (a.get 44)) (seqR (fops E ro r11_13) (seqR (seqR (fops E ro r11_14) (blockR 1 (loopR (keepOf nls fn) (l11_0 E ro fn)))) (seqR (fops E ro r11_18) retR))) skipR)) (seqR (fops E ro r11_19) retR))))
theorem r11_0_go : fops E ro r11_0 a u σ = fops E ro (r11_0U ()) a u σ := rfl
theorem r11_1_go : fops E ro r11_1 a u σ = fops E ro (r11_1U ()) a u σ := rfl
theorem r11_2_go : fops E ro r11_2 a u σ = fops E ro (r11_2U ()) a u σ := rfl
theorem r11_3_go : fops E ro r11_3 a u σ = fops E ro (r11_3U ()) a u σ := rfl
theorem r11_4_go : fops E ro r11_4 a u σ = fops E ro (r11_4U ()) a u σ := rfl
theorem r11_5_go : fops E ro r11_5 a u σ = fops E ro (r11_5U ()) a u σ := rfl
theorem r11_6_go : fops E ro r11_6 a u σ = fops E ro (r11_6U ()) a u σ := rfl
theorem r11_7_go : fops E ro r11_7 a u σ = fops E ro (r11_7U ()) a u σ := rfl
theorem r11_8_go : fops E ro r11_8 a u σ = fops E ro (r11_8U ()) a u σ := rfl
theorem r11_9_go : fops E ro r11_9 a u σ = fops E ro (r11_9U ()) a u σ := rfl
theorem r11_10_go : fops E ro r11_10 a u σ = fops E ro (r11_10U ()) a u σ := rfl
theorem r11_11_go : fops E ro r11_11 a u σ = fops E ro (r11_11U ()) a u σ := rfl
theorem r11_12_go : fops E ro r11_12 a u σ = fops E ro (r11_12U ()) a u σ := rfl
theorem r11_13_go : fops E ro r11_13 a u σ = fops E ro (r11_13U ()) a u σ := rfl
theorem r11_14_go : fops E ro r11_14 a u σ = fops E ro (r11_14U ()) a u σ := rfl
theorem r11_15_go : fops E ro r11_15 a u σ = fops E ro (r11_15U ()) a u σ := rfl
theorem r11_17_go : fdraw E ro last r11_17 cl a u σ = fdraw E ro last (r11_17U ()) cl a u σ := rfl
theorem r11_16_go : fops E ro r11_16 a u σ = fops E ro (r11_16U ()) a u σ := rfl
theorem r11_18_go : fops E ro r11_18 a u σ = fops E ro (r11_18U ()) a u σ := rfl
theorem r11_19_go : fops E ro r11_19 a u σ = fops E ro (r11_19U ()) a u σ := rfl
theorem code11 (E : Env) (ro : Option Nat) (fn : FuncId) : code Tryz.prog nls (Tryz.f11.body.getD .skip) E ro fn = run11 E ro fn := by kernel_rfl
theorem enter11 (E : Env) (args : List Value) (u : Option FrameMode) (σ : FState) (hn : args.length ≤ (7 : Nat)) : fcall Tryz.prog nls E 11 args u σ = leaveR Tryz.prog E [.cell 4 24] (run11 E none 11 ⟨padTo undef 7 args, fun _ => undef, 7, 71, []⟩ u σ) := by
  rw [fcall_of (body := Tryz.f11.body.getD .skip) Tryz.func11 rfl E args u σ 7 71 (by kernel_rfl) rfl ⟨hn, by decide⟩, code11]
  rfl
/-! caracole/caracolekit.NewCoil -/
noncomputable def r12_0U (_ : Unit) : List COp := [⟨fun a σ => .val (.pointer none) σ, (some 2), fun _ => some true⟩]
noncomputable def r12_0 : List COp := r12_0U ()
noncomputable def r12_1U (_ : Unit) : List COp := [⟨fun a σ => .val (a.get 0) σ, (some 3), fun _ => some true⟩,
  ⟨fun a σ => fbuild (fun i => nth [(0, 1), (1, 1), (2, 1)] i) [(.slice none 0 0), (.int .i64 0), (.int .u64 0)] [(0, (a.get 3)), (2, (.int .u64 2611923443488327891))] σ, (some 4), fun _ => some true⟩,
  ⟨fun a σ => fbox 87 (a.get 4) σ, (some 5), fun _ => some true⟩,
  ⟨fun a σ => .val (a.get 5) σ, (some 2), fun _ => some true⟩]
noncomputable def r12_1 : List COp := r12_1U ()
noncomputable def run12 (E : Env) (ro : Option Nat) (fn : FuncId) : RunF := (seqR (fops E ro r12_0) (seqR (fops E ro r12_1) retR))
theorem r12_0_go : fops E ro r12_0 a u σ = fops E ro (r12_0U ()) a u σ := rfl
theorem r12_1_go : fops E ro r12_1 a u σ = fops E ro (r12_1U ()) a u σ := rfl
theorem code12 (E : Env) (ro : Option Nat) (fn : FuncId) : code Tryz.prog nls (Tryz.f12.body.getD .skip) E ro fn = run12 E ro fn := by kernel_rfl
theorem enter12 (E : Env) (args : List Value) (u : Option FrameMode) (σ : FState) (hn : args.length ≤ (2 : Nat)) : fcall Tryz.prog nls E 12 args u σ = leaveR Tryz.prog E [.tmp 2] (run12 E none 12 ⟨padTo undef 2 args, fun _ => undef, 2, 6, []⟩ u σ) := by
  rw [fcall_of (body := Tryz.f12.body.getD .skip) Tryz.func12 rfl E args u σ 2 6 (by kernel_rfl) rfl ⟨hn, by decide⟩, code12]
  rfl
/-! caracole/caracolekit.NumD -/
noncomputable def r65_0U (_ : Unit) : List COp := [⟨fun a σ => newCells [(.int .i64 0), (.int .i64 0), (.string ⟨#[]⟩), (.slice none 0 0)] 24 none σ, (some 2), fun _ => some true⟩]
noncomputable def r65_0 : List COp := r65_0U ()
noncomputable def r65_1U (_ : Unit) : List COp := [⟨fun a σ => .val (a.get 0) σ, (some 3), fun _ => some true⟩,
  ⟨fun a σ => fbuild (fun i => nth [(0, 1), (1, 1), (2, 1), (3, 1)] i) [(.int .i64 0), (.int .i64 0), (.string ⟨#[]⟩), (.slice none 0 0)] [(0, (.int .i64 2)), (1, (a.get 3))] σ, (some 4), fun _ => some true⟩,
  ⟨fun a σ => fstore 4 (a.get 2) (a.get 4) σ, none, fun _ => some true⟩]
noncomputable def r65_1 : List COp := r65_1U ()
noncomputable def run65 (E : Env) (ro : Option Nat) (fn : FuncId) : RunF := (seqR (fops E ro r65_0) (seqR (fops E ro r65_1) retR))
theorem r65_0_go : fops E ro r65_0 a u σ = fops E ro (r65_0U ()) a u σ := rfl
theorem r65_1_go : fops E ro r65_1 a u σ = fops E ro (r65_1U ()) a u σ := rfl
theorem code65 (E : Env) (ro : Option Nat) (fn : FuncId) : code Tryz.prog nls (Tryz.f65.body.getD .skip) E ro fn = run65 E ro fn := by kernel_rfl
theorem enter65 (E : Env) (args : List Value) (u : Option FrameMode) (σ : FState) (hn : args.length ≤ (2 : Nat)) : fcall Tryz.prog nls E 65 args u σ = leaveR Tryz.prog E [.cell 2 24] (run65 E none 65 ⟨padTo undef 2 args, fun _ => undef, 2, 5, []⟩ u σ) := by
  rw [fcall_of (body := Tryz.f65.body.getD .skip) Tryz.func65 rfl E args u σ 2 5 (by kernel_rfl) rfl ⟨hn, by decide⟩, code65]
  rfl
/-! caracole/caracolekit.SymD -/
noncomputable def r63_0U (_ : Unit) : List COp := [⟨fun a σ => newCells [(.int .i64 0), (.int .i64 0), (.string ⟨#[]⟩), (.slice none 0 0)] 24 none σ, (some 2), fun _ => some true⟩]
noncomputable def r63_0 : List COp := r63_0U ()
noncomputable def r63_1U (_ : Unit) : List COp := [⟨fun a σ => .val (a.get 0) σ, (some 3), fun _ => some true⟩,
  ⟨fun a σ => fbuild (fun i => nth [(0, 1), (1, 1), (2, 1), (3, 1)] i) [(.int .i64 0), (.int .i64 0), (.string ⟨#[]⟩), (.slice none 0 0)] [(0, (.int .i64 3)), (2, (a.get 3))] σ, (some 4), fun _ => some true⟩,
  ⟨fun a σ => fstore 4 (a.get 2) (a.get 4) σ, none, fun _ => some true⟩]
noncomputable def r63_1 : List COp := r63_1U ()
noncomputable def run63 (E : Env) (ro : Option Nat) (fn : FuncId) : RunF := (seqR (fops E ro r63_0) (seqR (fops E ro r63_1) retR))
theorem r63_0_go : fops E ro r63_0 a u σ = fops E ro (r63_0U ()) a u σ := rfl
theorem r63_1_go : fops E ro r63_1 a u σ = fops E ro (r63_1U ()) a u σ := rfl
theorem code63 (E : Env) (ro : Option Nat) (fn : FuncId) : code Tryz.prog nls (Tryz.f63.body.getD .skip) E ro fn = run63 E ro fn := by kernel_rfl
theorem enter63 (E : Env) (args : List Value) (u : Option FrameMode) (σ : FState) (hn : args.length ≤ (2 : Nat)) : fcall Tryz.prog nls E 63 args u σ = leaveR Tryz.prog E [.cell 2 24] (run63 E none 63 ⟨padTo undef 2 args, fun _ => undef, 2, 5, []⟩ u σ) := by
  rw [fcall_of (body := Tryz.f63.body.getD .skip) Tryz.func63 rfl E args u σ 2 5 (by kernel_rfl) rfl ⟨hn, by decide⟩, code63]
  rfl
/-! caracole/caracolekit.StrD -/
noncomputable def r59_0U (_ : Unit) : List COp := [⟨fun a σ => newCells [(.int .i64 0), (.int .i64 0), (.string ⟨#[]⟩), (.slice none 0 0)] 24 none σ, (some 2), fun _ => some true⟩]
noncomputable def r59_0 : List COp := r59_0U ()
noncomputable def r59_1U (_ : Unit) : List COp := [⟨fun a σ => .val (a.get 0) σ, (some 3), fun _ => some true⟩,
  ⟨fun a σ => fbuild (fun i => nth [(0, 1), (1, 1), (2, 1), (3, 1)] i) [(.int .i64 0), (.int .i64 0), (.string ⟨#[]⟩), (.slice none 0 0)] [(0, (.int .i64 4)), (2, (a.get 3))] σ, (some 4), fun _ => some true⟩,
  ⟨fun a σ => fstore 4 (a.get 2) (a.get 4) σ, none, fun _ => some true⟩]
noncomputable def r59_1 : List COp := r59_1U ()
noncomputable def run59 (E : Env) (ro : Option Nat) (fn : FuncId) : RunF := (seqR (fops E ro r59_0) (seqR (fops E ro r59_1) retR))
theorem r59_0_go : fops E ro r59_0 a u σ = fops E ro (r59_0U ()) a u σ := rfl
theorem r59_1_go : fops E ro r59_1 a u σ = fops E ro (r59_1U ()) a u σ := rfl
theorem code59 (E : Env) (ro : Option Nat) (fn : FuncId) : code Tryz.prog nls (Tryz.f59.body.getD .skip) E ro fn = run59 E ro fn := by kernel_rfl
theorem enter59 (E : Env) (args : List Value) (u : Option FrameMode) (σ : FState) (hn : args.length ≤ (2 : Nat)) : fcall Tryz.prog nls E 59 args u σ = leaveR Tryz.prog E [.cell 2 24] (run59 E none 59 ⟨padTo undef 2 args, fun _ => undef, 2, 5, []⟩ u σ) := by
  rw [fcall_of (body := Tryz.f59.body.getD .skip) Tryz.func59 rfl E args u σ 2 5 (by kernel_rfl) rfl ⟨hn, by decide⟩, code59]
  rfl
/-! caracole/caracolekit.BoolD -/
noncomputable def r62_0U (_ : Unit) : List COp := [⟨fun a σ => newCells [(.int .i64 0), (.int .i64 0), (.string ⟨#[]⟩), (.slice none 0 0)] 24 none σ, (some 2), fun _ => some true⟩]
noncomputable def r62_0 : List COp := r62_0U ()
noncomputable def r62_1U (_ : Unit) : List COp := [⟨fun a σ => .val (a.get 0) σ, (some 3), fun _ => some true⟩]
noncomputable def r62_1 : List COp := r62_1U ()
noncomputable def r62_2U (_ : Unit) : List COp := [⟨fun a σ => fbuild (fun i => nth [(0, 1), (1, 1), (2, 1), (3, 1)] i) [(.int .i64 0), (.int .i64 0), (.string ⟨#[]⟩), (.slice none 0 0)] [(0, (.int .i64 1)), (1, (.int .i64 1))] σ, (some 4), fun _ => some true⟩,
  ⟨fun a σ => fstore 4 (a.get 2) (a.get 4) σ, none, fun _ => some true⟩]
noncomputable def r62_2 : List COp := r62_2U ()
noncomputable def r62_3U (_ : Unit) : List COp := [⟨fun a σ => fbuild (fun i => nth [(0, 1), (1, 1), (2, 1), (3, 1)] i) [(.int .i64 0), (.int .i64 0), (.string ⟨#[]⟩), (.slice none 0 0)] [(0, (.int .i64 1))] σ, (some 5), fun _ => some true⟩,
  ⟨fun a σ => fstore 4 (a.get 2) (a.get 5) σ, none, fun _ => some true⟩]
noncomputable def r62_3 : List COp := r62_3U ()
noncomputable def run62 (E : Env) (ro : Option Nat) (fn : FuncId) : RunF := (seqR (fops E ro r62_0) (seqR (seqR (fops E ro r62_1) (condR (fun a => (a.get 3)) (seqR (fops E ro r62_2) retR) skipR)) (seqR (fops E ro r62_3) retR)))
theorem r62_0_go : fops E ro r62_0 a u σ = fops E ro (r62_0U ()) a u σ := rfl
theorem r62_1_go : fops E ro r62_1 a u σ = fops E ro (r62_1U ()) a u σ := rfl
theorem r62_2_go : fops E ro r62_2 a u σ = fops E ro (r62_2U ()) a u σ := rfl
theorem r62_3_go : fops E ro r62_3 a u σ = fops E ro (r62_3U ()) a u σ := rfl
theorem code62 (E : Env) (ro : Option Nat) (fn : FuncId) : code Tryz.prog nls (Tryz.f62.body.getD .skip) E ro fn = run62 E ro fn := by kernel_rfl
theorem enter62 (E : Env) (args : List Value) (u : Option FrameMode) (σ : FState) (hn : args.length ≤ (2 : Nat)) : fcall Tryz.prog nls E 62 args u σ = leaveR Tryz.prog E [.cell 2 24] (run62 E none 62 ⟨padTo undef 2 args, fun _ => undef, 2, 6, []⟩ u σ) := by
  rw [fcall_of (body := Tryz.f62.body.getD .skip) Tryz.func62 rfl E args u σ 2 6 (by kernel_rfl) rfl ⟨hn, by decide⟩, code62]
  rfl
/-! caracole/caracolekit.PairD -/
noncomputable def r68_0U (_ : Unit) : List COp := [⟨fun a σ => fbox 24 (a.get 0) σ, (some 2), fun _ => some true⟩,
  ⟨fun a σ => fbox 24 (a.get 1) σ, (some 3), fun _ => some true⟩,
  ⟨fun a σ => newCells [(.int .i64 0), (.int .i64 0), (.string ⟨#[]⟩), (.slice none 0 0)] 24 none σ, (some 4), fun _ => some true⟩]
noncomputable def r68_0 : List COp := r68_0U ()
noncomputable def r68_1U (_ : Unit) : List COp := [⟨fun a σ => fload (some 4) (a.get 2) σ, (some 5), fun _ => some true⟩,
  ⟨fun a σ => fload (some 4) (a.get 3) σ, (some 6), fun _ => some true⟩,
  ⟨fun a σ => fbuildSlice 24 2 4 [(.int .i64 0), (.int .i64 0), (.string ⟨#[]⟩), (.slice none 0 0)] [(0, (a.get 5)), (1, (a.get 6))] σ, (some 7), fun _ => some true⟩,
  ⟨fun a σ => fbuild (fun i => nth [(0, 1), (1, 1), (2, 1), (3, 1)] i) [(.int .i64 0), (.int .i64 0), (.string ⟨#[]⟩), (.slice none 0 0)] [(0, (.int .i64 5)), (3, (a.get 7))] σ, (some 8), fun _ => some true⟩,
  ⟨fun a σ => fstore 4 (a.get 4) (a.get 8) σ, none, fun _ => some true⟩]
noncomputable def r68_1 : List COp := r68_1U ()
noncomputable def run68 (E : Env) (ro : Option Nat) (fn : FuncId) : RunF := (seqR (fops E ro r68_0) (seqR (fops E ro r68_1) retR))
theorem r68_0_go : fops E ro r68_0 a u σ = fops E ro (r68_0U ()) a u σ := rfl
theorem r68_1_go : fops E ro r68_1 a u σ = fops E ro (r68_1U ()) a u σ := rfl
theorem code68 (E : Env) (ro : Option Nat) (fn : FuncId) : code Tryz.prog nls (Tryz.f68.body.getD .skip) E ro fn = run68 E ro fn := by kernel_rfl
theorem enter68 (E : Env) (args : List Value) (u : Option FrameMode) (σ : FState) (hn : args.length ≤ (4 : Nat)) : fcall Tryz.prog nls E 68 args u σ = leaveR Tryz.prog E [.cell 4 24] (run68 E none 68 ⟨padTo undef 4 args, fun _ => undef, 4, 9, []⟩ u σ) := by
  rw [fcall_of (body := Tryz.f68.body.getD .skip) Tryz.func68 rfl E args u σ 4 9 (by kernel_rfl) rfl ⟨hn, by decide⟩, code68]
  rfl
end Go.Proofs.YtokieofohmgjdaaGreatDoor
/- The coil of caracolekit: numbers that are wound off. -/
namespace Go.Proofs.YtokieofohmgjdaaGreatDoor
open Go Go.Eng
attribute [local congr] andThen_congr

/-- A list of numbers, in memory. -/
def Ints (σ : FState) (p : Option Addr) (l : List Int) : Prop := ∀ (i : Nat) (n : Int), l[i]? = some n → ∃ b off cs, p = some ⟨b, off, none⟩ ∧ σ.cells b = some cs ∧ cs[off + i]? = some (.int .i64 n)
/-- A coil from which so many numbers have been wound off. -/
def Coil (σ : FState) (x k : Nat) : Prop := ∃ p l cp m ver, σ.heap.get x = some ⟨.cells [.slice p l.length cp, .int .i64 (.ofNat k), .int .u64 m] 87, false, none, ver⟩ ∧ Ints σ p l ∧ l.length < 9223372036854775808 ∧ ∀ a, p = some a → a.block < x

theorem wind_go (n : Nat) (x k : Nat) (hk : k < 1000000000000) (σ : FState) (hw : Wf σ) (hC : Coil σ x k) :
    ∃ m σ', (env (n + 1)).call 86 [.pointer (some ⟨x, 0, none⟩)] none σ = .ret (.int .u64 m) none σ' ∧ 0 ≤ m ∧ m < 18446744073709551616 ∧ ExtC x σ σ' ∧ Wf σ' ∧ Coil σ' x (k + 1) := by
  obtain ⟨p, l, cp, m, ver, hc, hl, hll, hp⟩ := hC
  rw [env_call _ 86 _ _ rfl, enter86 _ _ _ _ (by simp), Sl_start]
  unfold run86
  have hcc : σ.cells x = some [.slice p l.length cp, .int .i64 (.ofNat k), .int .u64 m] := by rw [cells_get, hc]; rfl
  have hv := view_wf hw (Nat.le_refl _)
  have cv1 : ∀ n σ, fun1 Tryz.prog (convert 3 85) (.int .i64 n) σ = .val (.int .u64 (IntKind.u64.wrap n)) σ := fun n σ => by kernel_rfl
  have hx : x < σ.next := (hw x _ hc).1
  have hwr : wrapI (Int.ofNat k + 1) = Int.ofNat (k + 1) := by
    rw [wrapI_of (by rw [Int.ofNat_eq_natCast]; omega)]; rfl
  -- the number that comes in
  have part1 : ∀ (f g : Nat → Value) (Y : Int), f 0 = .pointer (some ⟨x, 0, none⟩) → f 3 = .int .u64 Y → ∃ f1 g1 X,
      andThen (fdraw (env n) none (fun _ a u σ => .done .normal a u σ) r86_2 [σ.clock] (Sl 4 83 f g []) none σ) (condR (fun a => a.get 19) (drawR (env n) none r86_3) skipR) = .done .normal (Sl 4 83 f1 g1 []) none σ ∧
      f1 0 = .pointer (some ⟨x, 0, none⟩) ∧ f1 3 = .int .u64 X := by
    intro f g Y p0 p3
    by_cases hlt : k < l.length
    · have hd : decide (Int.ofNat k < Int.ofNat l.length) = true := by simp; omega
      obtain ⟨b, off, cs, rfl, hcs, hci⟩ := hl k l[k] (List.getElem?_eq_getElem hlt)
      simp -implicitDefEqProofs only [go_sem, ↓reduceIte, Nat.reduceLT, Nat.reduceEqDiff, Nat.reduceAdd, Nat.reduceMul, Nat.reduceLeDiff, Nat.reduceSub, r86_2_go, r86_2U, r86_3_go, r86_3U, p0, p3, hcc, hv, cv1, hd, hlt, hcs, hci]
      exact ⟨_, _, _, rfl, by simp -implicitDefEqProofs only [upd_go, kept_go, ↓reduceIte, Nat.reduceEqDiff, Nat.reduceLT, reduceCtorEq, p0], by simp -implicitDefEqProofs only [upd_go, kept_go, ↓reduceIte, Nat.reduceEqDiff, Nat.reduceLT, reduceCtorEq] <;> rfl⟩
    · have hd : decide (Int.ofNat k < Int.ofNat l.length) = false := by simp; omega
      simp -implicitDefEqProofs only [go_sem, ↓reduceIte, Nat.reduceLT, Nat.reduceEqDiff, Nat.reduceAdd, Nat.reduceMul, Nat.reduceLeDiff, Nat.reduceSub, r86_2_go, r86_2U, p0, p3, hcc, hv, cv1, hd]
      exact ⟨_, _, _, rfl, p0, p3⟩
  -- behind it, the coil goes on
  have put_step : ∀ (τ : FState) (c : List Value), Wf τ → ExtC x σ τ → Wf (τ.put x (.cells c 87) none) ∧ ExtC x σ (τ.put x (.cells c 87) none) ∧ (τ.put x (.cells c 87) none).heap.get x = some ⟨.cells c 87, false, none, τ.clock⟩ ∧ (τ.put x (.cells c 87) none).clock = τ.clock + 1 := fun τ c h1 h2 =>
    ⟨h1.put _ _ _ (Nat.lt_of_lt_of_le hx h2.next), h2.put _ _, by rw [put_get, if_pos rfl], rfl⟩
  simp -implicitDefEqProofs only [go_sem, ↓reduceIte, Nat.reduceLT, Nat.reduceEqDiff, Nat.reduceAdd, Nat.reduceMul, Nat.reduceLeDiff, Nat.reduceSub, r86_0_go, r86_0U, r86_1_go, r86_1U, Option.getD_some, hcc, cv1]
  generalize hf : upd _ _ _ = f0
  generalize hg : upd _ _ _ = g0
  obtain ⟨f1, g1, X, e1, p0, p3⟩ := part1 f0 g0 _ (by rw [← hf]; simp -implicitDefEqProofs only [upd_go, kept_go, ↓reduceIte, Nat.reduceEqDiff, Nat.reduceLT, reduceCtorEq, List.getElem?_cons_zero, Option.getD_some]) (by rw [← hf]; simp -implicitDefEqProofs only [upd_go, kept_go, ↓reduceIte, Nat.reduceEqDiff, Nat.reduceLT, reduceCtorEq] <;> rfl)
  clear hf hg
  rw [e1]
  simp -implicitDefEqProofs only [go_sem, ↓reduceIte, Nat.reduceLT, Nat.reduceEqDiff, Nat.reduceAdd, Nat.reduceMul, Nat.reduceLeDiff, Nat.reduceSub, r86_4_go, r86_4U, p0, p3, hcc, hc, hwr]
  obtain ⟨w1, x1, c1, k1⟩ := put_step σ [.slice p l.length cp, .int .i64 (.ofNat (k + 1)), .int .u64 m] hw (ExtC.refl _ _)
  generalize FState.put σ x _ _ = σ1 at w1 x1 c1 k1 ⊢
  have d1 := cells_of_get c1
  generalize upd g1 _ _ = g2
  simp -implicitDefEqProofs only [go_sem, ↓reduceIte, Nat.reduceLT, Nat.reduceEqDiff, Nat.reduceAdd, Nat.reduceMul, Nat.reduceLeDiff, Nat.reduceSub, r86_5_go, r86_5U, p0, p3, d1, c1]
  obtain ⟨w2, x2, c2, k2⟩ := put_step σ1 [.slice p l.length cp, .int .i64 (.ofNat (k + 1)), .int .u64 (IntKind.u64.wrap (IntKind.u64.wrap (m + X) * 589684135938649225))] w1 x1
  generalize FState.put σ1 x _ _ = σ2 at w2 x2 c2 k2 ⊢
  generalize IntKind.u64.wrap (IntKind.u64.wrap (m + X) * 589684135938649225) = m2 at c2 ⊢
  have d2 := cells_of_get c2
  have v2 := view_wf (lam := σ1.clock + 1) w2 (Nat.le_of_eq k2)
  generalize upd _ _ _ = g3
  simp -implicitDefEqProofs only [go_sem, ↓reduceIte, Nat.reduceLT, Nat.reduceEqDiff, Nat.reduceAdd, Nat.reduceMul, Nat.reduceLeDiff, Nat.reduceSub, r86_6_go, r86_6U, p0, p3, d2, c2, v2]
  obtain ⟨w3, x3, c3, k3⟩ := put_step σ2 [.slice p l.length cp, .int .i64 (.ofNat (k + 1)), .int .u64 (xorI m2 (m2.fdiv 4294967296))] w2 x2
  generalize FState.put σ2 x _ _ = σ3 at w3 x3 c3 k3 ⊢
  generalize xorI m2 (m2.fdiv 4294967296) = m3 at c3 ⊢
  have d3 := cells_of_get c3
  generalize upd _ _ _ = g4
  simp -implicitDefEqProofs only [go_sem, ↓reduceIte, Nat.reduceLT, Nat.reduceEqDiff, Nat.reduceAdd, Nat.reduceMul, Nat.reduceLeDiff, Nat.reduceSub, r86_7_go, r86_7U, p0, p3, d3, c3]
  obtain ⟨w4, x4, c4, k4⟩ := put_step σ3 [.slice p l.length cp, .int .i64 (.ofNat (k + 1)), .int .u64 (IntKind.u64.wrap (m3 * 4983270260364809079))] w3 x3
  generalize FState.put σ3 x _ _ = σ4 at w4 x4 c4 k4 ⊢
  generalize IntKind.u64.wrap (m3 * 4983270260364809079) = m4 at c4 ⊢
  have d4 := cells_of_get c4
  have v4 := view_wf (lam := σ3.clock + 1) w4 (Nat.le_of_eq k4)
  generalize upd _ _ _ = g5
  simp -implicitDefEqProofs only [go_sem, ↓reduceIte, Nat.reduceLT, Nat.reduceEqDiff, Nat.reduceAdd, Nat.reduceMul, Nat.reduceLeDiff, Nat.reduceSub, r86_8_go, r86_8U, p0, p3, d4, c4, v4]
  refine ⟨_, _, rfl, ?_, ?_, x4, w4, p, l, cp, m4, _, c4, ?_, hll, hp⟩
  · have := xorI_range m4 (m4.fdiv 134217728)
    rw [Int.fdiv_eq_ediv_of_nonneg _ (by omega)]
    omega
  · have := xorI_range m4 (m4.fdiv 134217728)
    rw [Int.fdiv_eq_ediv_of_nonneg _ (by omega)]
    omega
  · intro i z hi
    obtain ⟨b, off, cs, hb, h1, h2⟩ := hl i z hi
    exact ⟨b, off, cs, hb, (x4.cells (hw.cells h1) (Nat.ne_of_lt (hp _ hb))).trans h1, h2⟩


/-- Behind so many numbers. -/
structure Wound (x k k' : Nat) (σ σ' : FState) : Prop where
  ext : ExtC x σ σ'
  wf : Wf σ'
  coil : Coil σ' x k'
theorem up_go (n : Nat) (x k : Nat) (m : Int) (hm : m < 1000000) (hk : k < 1000000000000) (σ : FState) (hw : Wf σ) (hC : Coil σ x k) :
    ∃ r σ', (env (n + 2)).call 24 [.pointer (some ⟨x, 0, none⟩), .int .i64 m] none σ = .ret (.int .i64 r) none σ' ∧ 0 ≤ r ∧ (r ≤ m ∨ r = 0) ∧ Wound x k (k + 1) σ σ' := by
  obtain ⟨w, σ1, e, h0, h1, hx, hw1, hC1⟩ := wind_go n x k hk σ hw hC
  have cv1 : ∀ n σ, fun1 Tryz.prog (convert 3 85) (.int .i64 n) σ = .val (.int .u64 (IntKind.u64.wrap n)) σ := fun n σ => by kernel_rfl
  have cv2 : ∀ n σ, fun1 Tryz.prog (convert 85 3) (.int .u64 n) σ = .val (.int .i64 (IntKind.i64.wrap n)) σ := fun n σ => by kernel_rfl
  rw [env_call _ 24 _ _ rfl, enter24 _ _ _ _ (by simp), Sl_start]
  unfold run24
  by_cases hlt : m < 1
  · have hd : decide (m < 1) = true := by simpa using hlt
    simp -implicitDefEqProofs only [go_sem, ↓reduceIte, Nat.reduceLT, Nat.reduceEqDiff, Nat.reduceAdd, Nat.reduceMul, Nat.reduceLeDiff, Nat.reduceSub, r24_0_go, r24_0U, r24_1_go, r24_1U, r24_2_go, r24_2U, r24_3_go, r24_3U, Option.getD_some, e, hd]
    exact ⟨_, _, rfl, Int.le_refl _, .inr rfl, hx, hw1, hC1⟩
  · have hd : decide (m < 1) = false := by simpa using hlt
    have hwr : wrapI (m + 1) = m + 1 := wrapI_of (by omega)
    have hu : IntKind.u64.wrap (m + 1) = m + 1 := wrapU_of (by omega)
    have hr := fun (x y : Operand) (σ : FState) => rem_u64 Tryz.prog 85 x y w (m + 1) σ (by omega)
    have ht : w.tmod (m + 1) = w % (m + 1) := Int.tmod_eq_emod_of_nonneg h0
    have hlo := Int.emod_nonneg w (show m + 1 ≠ 0 by omega)
    have hhi := Int.emod_lt_of_pos w (show 0 < m + 1 by omega)
    have hs : IntKind.i64.wrap (w % (m + 1)) = w % (m + 1) := wrapS_of (by omega)
    simp -implicitDefEqProofs only [go_sem, ↓reduceIte, Nat.reduceLT, Nat.reduceEqDiff, Nat.reduceAdd, Nat.reduceMul, Nat.reduceLeDiff, Nat.reduceSub, r24_0_go, r24_0U, r24_1_go, r24_1U, r24_2_go, r24_2U, r24_4_go, r24_4U, Option.getD_some, e, hd, hwr, cv1, cv2, hu, hr, ht, hs]
    exact ⟨_, _, rfl, hlo, .inl (by omega), hx, hw1, hC1⟩

theorem once_go (n : Nat) (x k : Nat) (m : Int) (hm : 1 ≤ m ∧ m < 1000000) (hk : k < 1000000000000) (σ : FState) (hw : Wf σ) (hC : Coil σ x k) :
    ∃ r σ', (env (n + 3)).call 61 [.pointer (some ⟨x, 0, none⟩), .int .i64 m] none σ = .ret (.bool r) none σ' ∧ Wound x k (k + 1) σ σ' := by
  obtain ⟨w, σ1, e, h0, h1, hW⟩ := up_go n x k (m - 1) (by omega) hk σ hw hC
  rw [env_call _ 61 _ _ rfl, enter61 _ _ _ _ (by simp), Sl_start]
  unfold run61
  have hwr : wrapI (m - 1) = m - 1 := wrapI_of (by omega)
  simp -implicitDefEqProofs only [go_sem, ↓reduceIte, Nat.reduceLT, Nat.reduceEqDiff, Nat.reduceAdd, Nat.reduceMul, Nat.reduceLeDiff, Nat.reduceSub, r61_0_go, r61_0U, r61_1_go, r61_1U, Option.getD_some, hwr, e]
  exact ⟨_, _, rfl, hW⟩
theorem from_go (n : Nat) (x k : Nat) (lo hi : Int) (hm : -1000000 < lo ∧ lo ≤ hi ∧ hi < 1000000 ∧ hi - lo < 1000000) (hk : k < 1000000000000) (σ : FState) (hw : Wf σ) (hC : Coil σ x k) :
    ∃ r σ', (env (n + 3)).call 67 [.pointer (some ⟨x, 0, none⟩), .int .i64 lo, .int .i64 hi] none σ = .ret (.int .i64 r) none σ' ∧ lo ≤ r ∧ r ≤ hi ∧ Wound x k (k + 1) σ σ' := by
  obtain ⟨w, σ1, e, h0, h1, hW⟩ := up_go n x k (hi - lo) (by omega) hk σ hw hC
  rw [env_call _ 67 _ _ rfl, enter67 _ _ _ _ (by simp), Sl_start]
  unfold run67
  have hwr : wrapI (hi - lo) = hi - lo := wrapI_of (by omega)
  have hwr2 : wrapI (lo + w) = lo + w := wrapI_of (by omega)
  simp -implicitDefEqProofs only [go_sem, ↓reduceIte, Nat.reduceLT, Nat.reduceEqDiff, Nat.reduceAdd, Nat.reduceMul, Nat.reduceLeDiff, Nat.reduceSub, r67_0_go, r67_0U, r67_1_go, r67_1U, Option.getD_some, hwr, e, hwr2]
  exact ⟨_, _, rfl, by omega, by omega, hW⟩
theorem one_go (n : Nat) (x k : Nat) (b off len c : Nat) (cs : List Value) (hl : 1 ≤ len ∧ len < 1000000) (hk : k < 1000000000000) (σ : FState) (hw : Wf σ) (hC : Coil σ x k) (hc : σ.cells b = some cs) (hb : b ≠ x) (hcs : off + len ≤ cs.length) :
    ∃ i v σ', (env (n + 3)).call 66 [.pointer (some ⟨x, 0, none⟩), .slice (some ⟨b, off, none⟩) len c] none σ = .ret v none σ' ∧ i < len ∧ cs[off + i]? = some v ∧ Wound x k (k + 1) σ σ' := by
  obtain ⟨w, σ1, e, h0, h1, hW⟩ := up_go n x k (Int.ofNat len - 1) (by rw [Int.ofNat_eq_natCast]; omega) hk σ hw hC
  obtain ⟨i, rfl⟩ : ∃ i : Nat, w = Int.ofNat i := ⟨w.toNat, by rw [Int.ofNat_eq_natCast]; omega⟩
  have hi : i < len := by rw [Int.ofNat_eq_natCast, Int.ofNat_eq_natCast] at h1; omega
  rw [env_call _ 66 _ _ rfl, enter66 _ _ _ _ (by simp), Sl_start]
  unfold run66
  have hwr : wrapI (Int.ofNat len - 1) = Int.ofNat len - 1 := wrapI_of (by rw [Int.ofNat_eq_natCast]; omega)
  have hc1 : σ1.cells b = some cs := (hW.ext.cells (hw.cells hc) hb).trans hc
  have hv : cs[off + i]? = some cs[off + i] := List.getElem?_eq_getElem (by omega)
  simp -implicitDefEqProofs only [go_sem, ↓reduceIte, Nat.reduceLT, Nat.reduceEqDiff, Nat.reduceAdd, Nat.reduceMul, Nat.reduceLeDiff, Nat.reduceSub, r66_0_go, r66_0U, r66_1_go, r66_1U, Option.getD_some, hwr, e, hi, hc1, hv]
  exact ⟨i, _, _, rfl, hi, hv, hW⟩
theorem text_go (n : Nat) (x k : Nat) (b off len c : Nat) (cs : List Value) (hl : 1 ≤ len ∧ len < 1000000) (hk : k < 1000000000000) (σ : FState) (hw : Wf σ) (hC : Coil σ x k) (hc : σ.cells b = some cs) (hb : b ≠ x) (hcs : off + len ≤ cs.length) :
    ∃ i v σ', (env (n + 3)).call 64 [.pointer (some ⟨x, 0, none⟩), .slice (some ⟨b, off, none⟩) len c] none σ = .ret v none σ' ∧ i < len ∧ cs[off + i]? = some v ∧ Wound x k (k + 1) σ σ' := by
  obtain ⟨w, σ1, e, h0, h1, hW⟩ := up_go n x k (Int.ofNat len - 1) (by rw [Int.ofNat_eq_natCast]; omega) hk σ hw hC
  obtain ⟨i, rfl⟩ : ∃ i : Nat, w = Int.ofNat i := ⟨w.toNat, by rw [Int.ofNat_eq_natCast]; omega⟩
  have hi : i < len := by rw [Int.ofNat_eq_natCast, Int.ofNat_eq_natCast] at h1; omega
  rw [env_call _ 64 _ _ rfl, enter64 _ _ _ _ (by simp), Sl_start]
  unfold run64
  have hwr : wrapI (Int.ofNat len - 1) = Int.ofNat len - 1 := wrapI_of (by rw [Int.ofNat_eq_natCast]; omega)
  have hc1 : σ1.cells b = some cs := (hW.ext.cells (hw.cells hc) hb).trans hc
  have hv : cs[off + i]? = some cs[off + i] := List.getElem?_eq_getElem (by omega)
  simp -implicitDefEqProofs only [go_sem, ↓reduceIte, Nat.reduceLT, Nat.reduceEqDiff, Nat.reduceAdd, Nat.reduceMul, Nat.reduceLeDiff, Nat.reduceSub, r64_0_go, r64_0U, r64_1_go, r64_1U, Option.getD_some, hwr, e, hi, hc1, hv]
  exact ⟨i, _, _, rfl, hi, hv, hW⟩
end Go.Proofs.YtokieofohmgjdaaGreatDoor
/- What caracolekit makes: single data, pairs. -/
namespace Go.Proofs.YtokieofohmgjdaaGreatDoor
open Go Go.Eng
attribute [local congr] andThen_congr fops_congr fdraw_congr afterOp_congr drawF_congr
attribute [-go_sem] List.range_succ
theorem aggDatum : aggSize Tryz.prog 24 = some (some 4) := by kernel_rfl
theorem num_go (n : Nat) (z : Int) (σ : FState) (hw : Wf σ) :
    Gives ((env (n + 1)).call 65 [.int .i64 z] none σ) σ fun v _ => v = .agg #[.int .i64 2, .int .i64 z, .string ⟨#[]⟩, .slice none 0 0] := by
  rw [env_call _ 65 _ _ rfl, enter65 _ _ _ _ (by simp), Sl_start]
  unfold run65
  simp -implicitDefEqProofs only [go_sem, ↓reduceIte, Nat.reduceLT, Nat.reduceEqDiff, Nat.reduceAdd, Nat.reduceMul, Nat.reduceLeDiff, Nat.reduceSub, fstoreN, r65_0_go, r65_0U, r65_1_go, r65_1U, aggDatum, Option.getD_some]
  exact ⟨_, _, rfl, ((Ext.refl σ).push _ _).put _ _ _ (Nat.le_refl _), (hw.push _ _).put _ _ _ (Nat.lt_succ_self _), rfl⟩
theorem sym_go (n : Nat) (s : ByteArray) (σ : FState) (hw : Wf σ) :
    Gives ((env (n + 1)).call 63 [.string s] none σ) σ fun v _ => v = .agg #[.int .i64 3, .int .i64 0, .string s, .slice none 0 0] := by
  rw [env_call _ 63 _ _ rfl, enter63 _ _ _ _ (by simp), Sl_start]
  unfold run63
  simp -implicitDefEqProofs only [go_sem, ↓reduceIte, Nat.reduceLT, Nat.reduceEqDiff, Nat.reduceAdd, Nat.reduceMul, Nat.reduceLeDiff, Nat.reduceSub, fstoreN, r63_0_go, r63_0U, r63_1_go, r63_1U, aggDatum, Option.getD_some]
  exact ⟨_, _, rfl, ((Ext.refl σ).push _ _).put _ _ _ (Nat.le_refl _), (hw.push _ _).put _ _ _ (Nat.lt_succ_self _), rfl⟩
theorem str_go (n : Nat) (s : ByteArray) (σ : FState) (hw : Wf σ) :
    Gives ((env (n + 1)).call 59 [.string s] none σ) σ fun v _ => v = .agg #[.int .i64 4, .int .i64 0, .string s, .slice none 0 0] := by
  rw [env_call _ 59 _ _ rfl, enter59 _ _ _ _ (by simp), Sl_start]
  unfold run59
  simp -implicitDefEqProofs only [go_sem, ↓reduceIte, Nat.reduceLT, Nat.reduceEqDiff, Nat.reduceAdd, Nat.reduceMul, Nat.reduceLeDiff, Nat.reduceSub, fstoreN, r59_0_go, r59_0U, r59_1_go, r59_1U, aggDatum, Option.getD_some]
  exact ⟨_, _, rfl, ((Ext.refl σ).push _ _).put _ _ _ (Nat.le_refl _), (hw.push _ _).put _ _ _ (Nat.lt_succ_self _), rfl⟩
theorem bool_go (n : Nat) (b : Bool) (σ : FState) (hw : Wf σ) :
    Gives ((env (n + 1)).call 62 [.bool b] none σ) σ fun v _ => v = .agg #[.int .i64 1, .int .i64 (if b = true then 1 else 0), .string ⟨#[]⟩, .slice none 0 0] := by
  rw [env_call _ 62 _ _ rfl, enter62 _ _ _ _ (by simp), Sl_start]
  unfold run62
  cases b with
  | true =>
    simp -implicitDefEqProofs only [go_sem, ↓reduceIte, Nat.reduceLT, Nat.reduceEqDiff, Nat.reduceAdd, Nat.reduceMul, Nat.reduceLeDiff, Nat.reduceSub, fstoreN, r62_0_go, r62_0U, r62_1_go, r62_1U, r62_2_go, r62_2U, aggDatum, Option.getD_some]
    exact ⟨_, _, rfl, ((Ext.refl σ).push _ _).put _ _ _ (Nat.le_refl _), (hw.push _ _).put _ _ _ (Nat.lt_succ_self _), rfl⟩
  | false =>
    simp -implicitDefEqProofs only [go_sem, ↓reduceIte, Nat.reduceLT, Nat.reduceEqDiff, Nat.reduceAdd, Nat.reduceMul, Nat.reduceLeDiff, Nat.reduceSub, fstoreN, r62_0_go, r62_0U, r62_1_go, r62_1U, r62_3_go, r62_3U, aggDatum, Option.getD_some]
    exact ⟨_, _, rfl, ((Ext.refl σ).push _ _).put _ _ _ (Nat.le_refl _), (hw.push _ _).put _ _ _ (Nat.lt_succ_self _), rfl⟩
end Go.Proofs.YtokieofohmgjdaaGreatDoor
/- caracolekit.DatumOf: data made of a coil's numbers. -/
namespace Go.Proofs.YtokieofohmgjdaaGreatDoor
open Go Go.Eng
attribute [local congr] andThen_congr fops_congr fdraw_congr afterOp_congr drawF_congr
attribute [-go_sem] List.range_succ

def symTexts : List ByteArray := [⟨#[97]⟩, ⟨#[98]⟩, ⟨#[120]⟩, ⟨#[105, 102]⟩, ⟨#[108, 105, 115, 116]⟩, ⟨#[97, 45, 98]⟩, ⟨#[110, 117, 108, 108, 63]⟩, ⟨#[43]⟩]
def strTexts : List ByteArray := [⟨#[]⟩, ⟨#[97]⟩, ⟨#[116, 119, 111, 32, 119, 111, 114, 100, 115]⟩, ⟨#[113, 34, 113]⟩, ⟨#[98, 92]⟩]
/-- A datum without parts, as DatumOf makes it. -/
inductive Leaf : D → Prop
  | nil : Leaf (.mk 0 0 ⟨#[]⟩ [])
  | bool (b : Bool) : Leaf (.mk 1 (if b = true then 1 else 0) ⟨#[]⟩ [])
  | num (z : Int) (h : -999 ≤ z ∧ z ≤ 999) : Leaf (.mk 2 z ⟨#[]⟩ [])
  | sym (t : ByteArray) (h : t ∈ symTexts) : Leaf (.mk 3 0 t [])
  | str (t : ByteArray) (h : t ∈ strTexts) : Leaf (.mk 4 0 t [])
/-- A datum of at most so many levels, as DatumOf makes it. -/
inductive Made : Nat → D → Prop
  | leaf (L : Nat) (d : D) (h : Leaf d) : Made L d
  | pair (L : Nat) (a b : D) (ha : Made L a) (hb : Made L b) : Made (L + 1) (.mk 5 0 ⟨#[]⟩ [a, b])
  | vec (L : Nat) (l : List D) (hl : l.length ≤ 3) (h : ∀ d, d ∈ l → Made L d) : Made (L + 1) (.mk 6 0 ⟨#[]⟩ l)

theorem Coil.cells {σ : FState} {x k : Nat} (h : Coil σ x k) : ∃ c3, σ.cells x = some c3 ∧ c3.length < 4 := by
  obtain ⟨p, l, cp, m, ver, hc, _⟩ := h
  exact ⟨_, cells_of_get hc, by simp⟩
/-- What lies behind the coil may change without the coil's noticing. -/
theorem Coil.low {σ σ' : FState} {x k : Nat} (h : Coil σ x k) (hx : ∀ b, b ≤ x → σ'.heap.get b = σ.heap.get b) : Coil σ' x k := by
  obtain ⟨p, l, cp, m, ver, hc, hl, hll, hp⟩ := h
  refine ⟨p, l, cp, m, ver, (hx x (Nat.le_refl _)).trans hc, ?_, hll, hp⟩
  intro i z hi
  obtain ⟨b, off, cs, hb, h1, h2⟩ := hl i z hi
  refine ⟨b, off, cs, hb, ?_, h2⟩
  rw [cells_get, hx b (Nat.le_of_lt (hp _ hb)), ← cells_get]
  exact h1
theorem Coil.put {σ : FState} {x k : Nat} (h : Coil σ x k) (b : Nat) (hb : x < b) (o : FObj) (fz : Option Nat) : Coil (σ.put b o fz) x k := h.low fun c hc => by
  rw [put_get, if_neg (by omega)]
theorem Coil.ext {σ σ' : FState} {x k : Nat} (hw : Wf σ) (h : Coil σ x k) (hx : Ext σ σ') : Coil σ' x k := by
  obtain ⟨p, l, cp, m, ver, hc, r⟩ := h
  have hlt := (hw x _ hc).1
  exact Coil.low ⟨p, l, cp, m, ver, hc, r⟩ fun b hb => hx.get b (by omega)

/-- The result's variable holds a leaf; the coil has gone on. -/
def LeafIn (x k K bo : Nat) (σ0 : FState) (r : KRes) : Prop := ∃ f g σ' kd n t k', r = .done .ret (Sl 7 71 f g []) none σ' ∧ f 4 = .pointer (some ⟨bo, 0, none⟩) ∧
  (∃ ver, σ'.heap.get bo = some ⟨.cells [.int .i64 kd, .int .i64 n, .string t, .slice none 0 0] 24, false, none, ver⟩) ∧ Leaf (.mk kd n t []) ∧ ExtC x σ0 σ' ∧ Wf σ' ∧ Coil σ' x k' ∧ k ≤ k' ∧ k' ≤ K

noncomputable def leaf11 (E : Env) (ro : Option Nat) : RunF := (seqR (seqR (fops E ro r11_2) (blockR 0 (seqR (fops E ro r11_3) (condR (fun a => (a.get 15)) (seqR (fops E ro r11_4) retR) (seqR (fops E ro r11_5) (condR (fun a => (a.get 18)) (seqR (fops E ro r11_6) retR) (seqR (fops E ro r11_7) (condR (fun a => (a.get 23)) (seqR (fops E ro r11_8) retR) (seqR (fops E ro r11_9) (condR (fun a => (a.get 29)) (seqR (fops E ro r11_10) retR) skipR)))))))))) (seqR (fops E ro r11_11) retR))

theorem leaf11_go (n x k bo : Nat) (hk : k < 100000000000) (σ0 σ : FState) (f g : Nat → Value) (h0 : f 0 = .pointer (some ⟨x, 0, none⟩)) (h4 : f 4 = .pointer (some ⟨bo, 0, none⟩)) (hw : Wf σ) (hC : Coil σ x k) (hX : ExtC x σ0 σ)
    (hbo : σ0.next ≤ bo) (hbx : x < bo) (ver : Nat) (z0 z1 z2 z3 : Value) (hb : σ.heap.get bo = some ⟨.cells [z0, z1, z2, z3] 24, false, none, ver⟩) :
    LeafIn x k (k + 4) bo σ0 (leaf11 (env (n + 3)) none (Sl 7 71 f g []) none σ) := by
  obtain ⟨w, σ1, e, w0, w1, hX1, hw1, hC1⟩ := up_go (n + 1) x k 6 (by omega) (by omega) σ hw hC
  have hne : bo ≠ x := by omega
  unfold leaf11
  have hb1 : σ1.heap.get bo = some ⟨.cells [z0, z1, z2, z3] 24, false, none, ver⟩ := (hX1.get bo (hw bo _ hb).1 hne).trans hb
  -- what is put into the variable
  have fin : ∀ (τ : FState) (ver' k' : Nat) (y : List Value) (kd m : Int) (t : ByteArray), ExtC x σ1 τ → Wf τ → Coil τ x k' → τ.heap.get bo = some ⟨.cells y 24, false, none, ver'⟩ → k ≤ k' → k' ≤ k + 4 → Leaf (.mk kd m t []) → ∀ g',
      LeafIn x k (k + 4) bo σ0 (.done .ret (Sl 7 71 f g' []) none (τ.put bo (.cells [.int .i64 kd, .int .i64 m, .string t, .slice none 0 0] 24) none)) := fun τ ver' k' y kd m t a1 a2 a3 a4 a5 a6 a7 g' =>
    ⟨f, g', _, kd, m, t, k', rfl, h4, ⟨_, by rw [put_get, if_pos rfl]⟩, a7, ((hX.trans hX1).trans a1).putNew _ _ _ hbo, a2.put _ _ _ (a2 _ _ a4).1, a3.put _ hbx _ _, a5, a6⟩
  by_cases c0 : w = 0
  · subst c0
    have d0 : ((0 : Int) == 0) = true := rfl
    simp -implicitDefEqProofs only [go_sem, ↓reduceIte, Nat.reduceLT, Nat.reduceEqDiff, Nat.reduceAdd, Nat.reduceMul, Nat.reduceLeDiff, Nat.reduceSub, fstoreN, r11_2_go, r11_2U, r11_3_go, r11_3U, r11_4_go, r11_4U, h0, h4, e, d0, hb1]
    exact fin σ1 _ (k + 1) _ 0 0 _ (ExtC.refl _ _) hw1 hC1 hb1 (by omega) (by omega) .nil _
  · have d0 : (w == 0) = false := by simpa using c0
    by_cases c1 : w = 1
    · subst c1
      have d1 : ((1 : Int) == 1) = true := rfl
      obtain ⟨b, σ2, e2, hX2, hw2, hC2⟩ := once_go n x (k + 1) 2 (by omega) (by omega) σ1 hw1 hC1
      obtain ⟨_, σ3, e3, hX3, hw3, rfl⟩ := bool_go (n + 2) b σ2 hw2
      have hb3 : σ3.heap.get bo = some ⟨.cells [z0, z1, z2, z3] 24, false, none, ver⟩ := (hX3.get bo (hw2 _ _ ((hX2.get bo (hw1 _ _ hb1).1 hne).trans hb1)).1).trans ((hX2.get bo (hw1 _ _ hb1).1 hne).trans hb1)
      simp -implicitDefEqProofs only [go_sem, ↓reduceIte, Nat.reduceLT, Nat.reduceEqDiff, Nat.reduceAdd, Nat.reduceMul, Nat.reduceLeDiff, Nat.reduceSub, fstoreN, r11_2_go, r11_2U, r11_3_go, r11_3U, r11_5_go, r11_5U, r11_6_go, r11_6U, h0, h4, e, d0, d1, hb1, e2, e3, hb3]
      exact fin σ3 _ (k + 2) _ 1 _ _ (hX2.trans (hX3.toC x)) hw3 (hC2.ext hw2 hX3) hb3 (by omega) (by omega) (.bool b) _
    · have d1 : (w == 1) = false := by simpa using c1
      have at1 : ∀ (σ2 : FState), ExtC x σ1 σ2 → σ2.heap.get bo = some ⟨.cells [z0, z1, z2, z3] 24, false, none, ver⟩ := fun σ2 h => (h.get bo (hw1 _ _ hb1).1 hne).trans hb1
      by_cases c2 : w = 2
      · subst c2
        have d2 : ((2 : Int) == 2) = true := rfl
        have hX2 : Ext σ1 (σ1.push (.cells (symTexts.map Value.string) 9) none) := (Ext.refl _).push _ _
        have hw2 := hw1.push (.cells (symTexts.map Value.string) 9) none
        obtain ⟨i, v, σ3, e3, hi, hv, hX3, hw3, hC3⟩ := text_go n x (k + 1) σ1.next 0 8 8 (symTexts.map Value.string) (by omega) (by omega) _ hw2 (hC1.ext hw1 hX2) (by rw [cells_push, if_pos rfl]; rfl)
          (by have := (hw1 _ _ hb1).1; omega) (by simp [symTexts])
        rw [List.getElem?_map, Option.map_eq_some_iff] at hv
        obtain ⟨t, ht, rfl⟩ := hv
        have htm := List.mem_of_getElem? ht
        obtain ⟨_, σ4, e4, hX4, hw4, rfl⟩ := sym_go (n + 2) t σ3 hw3
        have hx4 : ExtC x σ1 σ4 := ((hX2.toC x).trans hX3).trans (hX4.toC x)
        have hb4 := at1 σ4 hx4
        have e3' : (env (n + 3)).call 64 [.pointer (some ⟨x, 0, none⟩), .slice (some ⟨σ1.next, 0, none⟩) 8 8] none (σ1.push (.cells [.string ⟨#[97]⟩, .string ⟨#[98]⟩, .string ⟨#[120]⟩, .string ⟨#[105, 102]⟩, .string ⟨#[108, 105, 115, 116]⟩, .string ⟨#[97, 45, 98]⟩, .string ⟨#[110, 117, 108, 108, 63]⟩, .string ⟨#[43]⟩] 9) none) = .ret (.string t) none σ3 := e3
        simp -implicitDefEqProofs only [go_sem, ↓reduceIte, Nat.reduceLT, Nat.reduceEqDiff, Nat.reduceAdd, Nat.reduceMul, Nat.reduceLeDiff, Nat.reduceSub, fstoreN, r11_2_go, r11_2U, r11_3_go, r11_3U, r11_5_go, r11_5U, r11_7_go, r11_7U, r11_8_go, r11_8U, h0, h4, e, d0, d1, d2, hb1, e3', e4, hb4]
        exact fin σ4 _ (k + 2) _ 3 0 _ hx4 hw4 (hC3.ext hw3 hX4) hb4 (by omega) (by omega) (.sym t htm) _
      · have d2 : (w == 2) = false := by simpa using c2
        by_cases c3 : w = 3
        · subst c3
          have d3 : ((3 : Int) == 3) = true := rfl
          have hX2 : Ext σ1 (σ1.push (.cells (strTexts.map Value.string) 9) none) := (Ext.refl _).push _ _
          have hw2 := hw1.push (.cells (strTexts.map Value.string) 9) none
          obtain ⟨i, v, σ3, e3, hi, hv, hX3, hw3, hC3⟩ := text_go n x (k + 1) σ1.next 0 5 5 (strTexts.map Value.string) (by omega) (by omega) _ hw2 (hC1.ext hw1 hX2) (by rw [cells_push, if_pos rfl]; rfl)
            (by have := (hw1 _ _ hb1).1; omega) (by simp [strTexts])
          rw [List.getElem?_map, Option.map_eq_some_iff] at hv
          obtain ⟨t, ht, rfl⟩ := hv
          have htm := List.mem_of_getElem? ht
          obtain ⟨_, σ4, e4, hX4, hw4, rfl⟩ := str_go (n + 2) t σ3 hw3
          have hx4 : ExtC x σ1 σ4 := ((hX2.toC x).trans hX3).trans (hX4.toC x)
          have hb4 := at1 σ4 hx4
          have e3' : (env (n + 3)).call 64 [.pointer (some ⟨x, 0, none⟩), .slice (some ⟨σ1.next, 0, none⟩) 5 5] none (σ1.push (.cells [.string ⟨#[]⟩, .string ⟨#[97]⟩, .string ⟨#[116, 119, 111, 32, 119, 111, 114, 100, 115]⟩, .string ⟨#[113, 34, 113]⟩, .string ⟨#[98, 92]⟩] 9) none) = .ret (.string t) none σ3 := e3
          simp -implicitDefEqProofs only [go_sem, ↓reduceIte, Nat.reduceLT, Nat.reduceEqDiff, Nat.reduceAdd, Nat.reduceMul, Nat.reduceLeDiff, Nat.reduceSub, fstoreN, r11_2_go, r11_2U, r11_3_go, r11_3U, r11_5_go, r11_5U, r11_7_go, r11_7U, r11_9_go, r11_9U, r11_10_go, r11_10U, h0, h4, e, d0, d1, d2, d3, hb1, e3', e4, hb4]
          exact fin σ4 _ (k + 2) _ 4 0 _ hx4 hw4 (hC3.ext hw3 hX4) hb4 (by omega) (by omega) (.str t htm) _
        · have d3 : (w == 3) = false := by simpa using c3
          obtain ⟨a, σ2, e2, a0, a1, hX2, hw2, hC2⟩ := from_go n x (k + 1) (-20) 20 (by omega) (by omega) σ1 hw1 hC1
          obtain ⟨b, σ3, e3, b0, b1, hX3, hw3, hC3⟩ := from_go n x (k + 2) (-999) 999 (by omega) (by omega) σ2 hw2 hC2
          have hX4 : Ext σ3 (σ3.push (.cells [.int .i64 0, .int .i64 1, .int .i64 (-1), .int .i64 a, .int .i64 b] 3) none) := (Ext.refl _).push _ _
          have hw4 := hw3.push (.cells [.int .i64 0, .int .i64 1, .int .i64 (-1), .int .i64 a, .int .i64 b] 3) none
          have hlt : x < σ3.next := by have := (hw1 _ _ hb1).1; have := hX2.next; have := hX3.next; omega
          obtain ⟨i, v, σ5, e5, hi, hv, hX5, hw5, hC5⟩ := one_go n x (k + 3) σ3.next 0 5 5 _ (by omega) (by omega) _ hw4 (hC3.ext hw3 hX4) (by rw [cells_push, if_pos rfl]; rfl) (by omega) (by simp)
          have hz : ∃ z, v = .int .i64 z ∧ -999 ≤ z ∧ z ≤ 999 := by
            obtain rfl | rfl | rfl | rfl | rfl : i = 0 ∨ i = 1 ∨ i = 2 ∨ i = 3 ∨ i = 4 := by omega
            all_goals (simp at hv; exact ⟨_, hv.symm, by omega, by omega⟩)
          obtain ⟨z, rfl, hz0, hz1⟩ := hz
          obtain ⟨_, σ6, e6, hX6, hw6, rfl⟩ := num_go (n + 2) z σ5 hw5
          have hx6 : ExtC x σ1 σ6 := (((hX2.trans hX3).trans (hX4.toC x)).trans hX5).trans (hX6.toC x)
          have hb6 := at1 σ6 hx6
          simp -implicitDefEqProofs only [go_sem, ↓reduceIte, Nat.reduceLT, Nat.reduceEqDiff, Nat.reduceAdd, Nat.reduceMul, Nat.reduceLeDiff, Nat.reduceSub, fstoreN, r11_2_go, r11_2U, r11_3_go, r11_3U, r11_5_go, r11_5U, r11_7_go, r11_7U, r11_9_go, r11_9U, r11_11_go, r11_11U, h0, h4, e, d0, d1, d2, d3, hb1, e2, e3, e5, e6, hb6]
          exact fin σ6 _ (k + 4) _ 2 z _ hx6 hw6 (hC5.ext hw5 hX6) hb6 (by omega) (by omega) (.num z ⟨hz0, hz1⟩) _
end Go.Proofs.YtokieofohmgjdaaGreatDoor
/- caracolekit.DatumOf: vectors, pairs, and all data. -/
namespace Go.Proofs.YtokieofohmgjdaaGreatDoor
open Go Go.Eng
attribute [local congr] andThen_congr fops_congr fdraw_congr afterOp_congr drawF_congr
attribute [-go_sem] List.range_succ
theorem keep11 : keepOf nls 11 = [61, 62, 63, 64, 65, 66, 67, 68, 69, 70] := by kernel_rfl

theorem pair_goR (n : Nat) (R : Nat → Prop) (d1 d2 : D) (v1 v2 : Value) (σ : FState) (hw : Wf σ) (h1 : LaidR R σ v1 d1) (h2 : LaidR R σ v2 d2) :
    ∃ v σ', (env (n + 1)).call 68 [v1, v2] none σ = .ret v none σ' ∧ Ext σ σ' ∧ Wf σ' ∧ LaidR (fun b => R b ∨ New σ σ' b) σ' v (.mk 5 0 ⟨#[]⟩ [d1, d2]) := by
  have H1 := h1
  have H2 := h2
  obtain ⟨k1, n1, t1, l1⟩ := d1
  obtain ⟨k2, n2, t2, l2⟩ := d2
  obtain ⟨p1, c1, rfl, e1⟩ := h1
  obtain ⟨p2, c2, rfl, e2⟩ := h2
  rw [env_call _ 68 _ _ rfl, enter68 _ _ _ _ (by simp), Sl_start]
  unfold run68
  simp -implicitDefEqProofs only [go_sem, ↓reduceIte, Nat.reduceLT, Nat.reduceEqDiff, Nat.reduceAdd, Nat.reduceMul, Nat.reduceLeDiff, Nat.reduceSub, fstoreN, r68_0_go, r68_0U, r68_1_go, r68_1U, aggDatum, Option.getD_some]
  generalize hs : FState.put _ _ _ _ = σ'
  have hx : Ext σ σ' := by
    rw [← hs]
    exact (((((Ext.refl σ).push _ _).push _ _).push _ _).push _ _).put _ _ _ (Nat.le_add_right _ _)
  have hw' : Wf σ' := by
    rw [← hs]
    exact ((((hw.push _ _).push _ _).push _ _).push _ _).put _ _ _ (by simp only [push_next]; omega)
  have hc : σ'.cells (σ.next + 3) = some [.int .i64 k1, .int .i64 n1, .string t1, .slice p1 l1.length c1, .int .i64 k2, .int .i64 n2, .string t2, .slice p2 l2.length c2] := by
    rw [← hs]
    simp -implicitDefEqProofs only [go_sem, ↓reduceIte, Nat.reduceLT, Nat.reduceEqDiff, Nat.reduceAdd, Nat.reduceMul, Nat.reduceLeDiff, Nat.reduceSub]
  have hN : New σ σ' (σ.next + 3) := ⟨by omega, hw'.cells hc⟩
  have kp : ∀ b cs, R b → σ.cells b = some cs → σ'.cells b = some cs ∧ (R b ∨ New σ σ' b) := fun b cs hR h => ⟨(hx.cells (hw.cells h)).trans h, .inl hR⟩
  exact ⟨_, _, rfl, hx, hw', some ⟨σ.next + 3, 0, none⟩, 2, rfl, ⟨_, _, _, rfl, .inr hN, hc, by simp, H1.keep kp⟩, ⟨_, _, _, rfl, .inr hN, hc, by simp, H2.keep kp⟩, trivial⟩

/-- A vector that is being made, in the field of a variable: the value of the field, and the block of the parts. -/
def Vec (σ : FState) (lo : Nat) (s : Value) (ds : List D) : Prop :=
  (ds = [] ∧ s = .slice none 0 0) ∨ (∃ b cs ver, s = .slice (some ⟨b, 0, none⟩) ds.length ds.length ∧ σ.heap.get b = some ⟨.cells cs 24, false, some 4, ver⟩ ∧ lo < b ∧ Row (fun c => lo < c ∧ c ≠ b) σ cs ds)

theorem vec_append (σ1 : FState) (lo : Nat) (s : Value) (ds : List D) (d : D) (l : List Value) (hw : Wf σ1) (hlo : lo < σ1.next) (hl : l.length = 4) (ho : l.all oneCell = true) (hlen : ds.length < 900) (hV : Vec σ1 lo s ds)
    (hd : LaidR (fun c => lo < c ∧ ∀ b n m, s = .slice (some ⟨b, 0, none⟩) n m → c ≠ b) σ1 (.agg l.toArray) d) :
    ∃ s' τ, fappend 24 4 56 s (.slice (some ⟨σ1.next, 0, none⟩) 1 1) (σ1.push (.cells l 24) none) = .val s' τ ∧ oneCell s' = true ∧ Vec τ lo s' (ds ++ [d]) ∧ Wf τ ∧ σ1.next ≤ τ.next ∧ σ1.clock ≤ τ.clock ∧
      (∀ c, c ≤ lo → τ.heap.get c = σ1.heap.get c) ∧ (∀ c, c < σ1.next → (∀ b n m, s = .slice (some ⟨b, 0, none⟩) n m → c ≠ b) → τ.heap.get c = σ1.heap.get c) := by
  have hx : (σ1.push (.cells l 24) none).cells σ1.next = some l := by rw [cells_push, if_pos rfl]; rfl
  rcases hV with ⟨rfl, rfl⟩ | ⟨b, cs, ver, rfl, hb, hlb, hR⟩
  · refine ⟨_, _, append_first 24 4 56 _ 1 l _ hx hl ho (by decide), rfl, .inr ⟨_, _, _, rfl, by rw [push_get, if_pos rfl], by rw [push_next]; omega, ?_⟩, (hw.push _ _).push _ _, ?_, ?_, ?_, ?_⟩
    · have h2 : LaidR (fun c => lo < c ∧ c ≠ (σ1.push (.cells l 24) none).next) ((σ1.push (.cells l 24) none).push (.cells l 24) (some 4)) (.agg l.toArray) d := hd.keep fun c cs hc h => by
        have := hw.cells h
        refine ⟨?_, hc.1, by rw [push_next]; omega⟩
        rw [cells_push, if_neg (by rw [push_next]; omega), cells_push, if_neg (by omega)]
        exact h
      exact (Row.nil _ _).snoc hl ho h2
    · simp only [push_next]; omega
    · simp only [push_clock]; omega
    · intro c hc
      rw [push_get, if_neg (by rw [push_next]; omega), push_get, if_neg (by omega)]
    · intro c hc _
      rw [push_get, if_neg (by rw [push_next]; omega), push_get, if_neg (by omega)]
  · have hbn : b < σ1.next := (hw b _ hb).1
    have hb1 : (σ1.push (.cells l 24) none).heap.get b = some ⟨.cells cs 24, false, some 4, ver⟩ := by rw [push_get, if_neg (by omega)]; exact hb
    have hw1 := hw.push (.cells l 24) none
    have hw2 := hw1.put b (.defd false) none (by rw [push_next]; omega)
    refine ⟨_, _, append_more 24 4 56 b _ 1 ds.length ver cs l _ hb1 hx hl ho hR.1 (by decide) (by omega), rfl, .inr ⟨_, _, _, by rw [List.length_append]; rfl, by rw [push_get, if_pos rfl], by rw [put_next, push_next]; omega, ?_⟩, hw2.push _ _, ?_, ?_, ?_, ?_⟩
    · have kp : ∀ (c : Nat) (cs' : List Value), (lo < c ∧ c ≠ b) → σ1.cells c = some cs' →
          (((σ1.push (.cells l 24) none).put b (.defd false) none).push (.cells (cs ++ l) 24) (some 4)).cells c = some cs' ∧ (lo < c ∧ c ≠ ((σ1.push (.cells l 24) none).put b (.defd false) none).next) := fun c cs' hc h => by
        have := hw.cells h
        refine ⟨?_, hc.1, by rw [put_next, push_next]; omega⟩
        rw [cells_push, if_neg (by rw [put_next, push_next]; omega), cells_put, if_neg hc.2, cells_push, if_neg (by omega)]
        exact h
      exact (hR.keep kp).snoc hl ho ((hd.keep fun c cs' hc h => kp c cs' ⟨hc.1, hc.2 b _ _ rfl⟩ h))
    · simp only [push_next, put_next]; omega
    · simp only [push_clock, put_clock]; omega
    · intro c hc
      rw [push_get, if_neg (by rw [put_next, push_next]; omega), put_get, if_neg (by omega), push_get, if_neg (by omega)]
    · intro c hc hne
      rw [push_get, if_neg (by rw [put_next, push_next]; omega), put_get, if_neg (hne b _ _ rfl), push_get, if_neg (by omega)]

theorem Vec.keep {σ σ' : FState} {lo : Nat} {s : Value} {ds : List D} (hw : Wf σ) (h : Vec σ lo s ds) (hx : ∀ c, lo < c → c < σ.next → σ'.heap.get c = σ.heap.get c) : Vec σ' lo s ds := by
  rcases h with h | ⟨b, cs, ver, hs, hb, hlb, hR⟩
  · exact .inl h
  · refine .inr ⟨b, cs, ver, hs, (hx b hlb (hw b _ hb).1).trans hb, hlb, hR.keep fun c cs' hc h => ⟨?_, hc⟩⟩
    rw [cells_get, hx c hc.1 (hw.cells h), ← cells_get]
    exact h
/-- What DatumOf gives at some number of levels, with so many calls to go and so many numbers wound off at most. -/
def DatumAt (m x L W : Nat) : Prop := ∀ k σ, k + W < 100000000000 → Wf σ → Coil σ x k → ∃ v d σ' k', (env m).call 11 [.pointer (some ⟨x, 0, none⟩), .int .i64 (.ofNat L)] none σ = .ret v none σ' ∧ LaidR (New σ σ') σ' v d ∧ Made L d ∧
  ExtC x σ σ' ∧ Wf σ' ∧ Coil σ' x k' ∧ k ≤ k' ∧ k' ≤ k + W

/-- At the head of DatumOf's loop. -/
structure HeadV (x bo b5 L W K j : Nat) (σ0 : FState) (ds : List D) (f : Nat → Value) (σ : FState) : Prop where
  f0 : f 0 = .pointer (some ⟨x, 0, none⟩)
  f1 : f 1 = .int .i64 (.ofNat (L + 1))
  f4 : f 4 = .pointer (some ⟨bo, 0, none⟩)
  f5 : f 5 = .pointer (some ⟨b5, 0, none⟩)
  f6 : f 6 = .int .i64 (.ofNat j)
  hbo : ∃ ver z0 z1 z2 z3, σ.heap.get bo = some ⟨.cells [z0, z1, z2, z3] 24, false, none, ver⟩
  hb5 : ∃ ver s, σ.heap.get b5 = some ⟨.cells [.int .i64 6, .int .i64 0, .string ⟨#[]⟩, s] 24, false, none, ver⟩ ∧ Vec σ b5 s ds
  ext : ExtC x σ0 σ
  wf : Wf σ
  coil : ∃ k', Coil σ x k' ∧ k' + j * W ≤ K
  made : ∀ d, d ∈ ds → Made L d
  lt1 : x < σ0.next
  lt2 : σ0.next ≤ bo
  lt3 : bo < b5
  len : ds.length + j ≤ 3

theorem datumOf_loop (m x bo b5 L W K : Nat) (hK : K < 100000000000) (hL : L < 1000) (σ0 : FState) (k0 : Nat) (hD : DatumAt m x L W) : ∀ (j fuel : Nat) (ds : List D) (f g : Nat → Value) (σ : FState), j < fuel → HeadV x bo b5 L W K j σ0 ds f σ → (∃ k', Coil σ x k' ∧ k0 ≤ k' ∧ k' + j * W ≤ K) →
    ∃ f' g' σ' ds', floop [61, 62, 63, 64, 65, 66, 67, 68, 69, 70] (l11_0 (env m) none 11) fuel (Sl 7 71 f g []) none σ = .done (.exit 1) (Sl 7 71 f' g' []) none σ' ∧ HeadV x bo b5 L W K 0 σ0 ds' f' σ' ∧ (∃ k', Coil σ' x k' ∧ k0 ≤ k' ∧ k' ≤ K) := by
  intro j
  induction j with
  | zero =>
    intro fuel ds f g σ hf hH hk
    obtain ⟨fuel, rfl⟩ : ∃ q, fuel = q + 1 := ⟨fuel - 1, by omega⟩
    have hd : decide (Int.ofNat 0 > 0) = false := rfl
    rw [floop_step]
    unfold l11_0
    simp -implicitDefEqProofs only [go_sem, ↓reduceIte, Nat.reduceLT, Nat.reduceEqDiff, Nat.reduceAdd, Nat.reduceMul, Nat.reduceLeDiff, Nat.reduceSub, r11_15_go, r11_15U, hH.f6, hd]
    exact ⟨f, _, σ, ds, rfl, hH, by simpa using hk⟩
  | succ j ih =>
    intro fuel ds f g σ hf hH hk
    obtain ⟨k', hC, hk0, hkK⟩ := hk
    obtain ⟨fuel, rfl⟩ : ∃ q, fuel = q + 1 := ⟨fuel - 1, by omega⟩
    have hd : decide (Int.ofNat (j + 1) > 0) = true := by simp
    have hwr : wrapI (Int.ofNat (L + 1) - 1) = Int.ofNat L := by
      rw [wrapI_of (by rw [Int.ofNat_eq_natCast]; omega), Int.ofNat_eq_natCast, Int.ofNat_eq_natCast]; omega
    have hwj : wrapI (Int.ofNat (j + 1) - 1) = Int.ofNat j := by
      have := hH.len
      rw [wrapI_of (by rw [Int.ofNat_eq_natCast]; omega), Int.ofNat_eq_natCast, Int.ofNat_eq_natCast]; omega
    have hjW : (j + 1) * W = j * W + W := Nat.succ_mul j W
    obtain ⟨v, d, σ1, k1, e, hLd, hMd, hX1, hw1, hC1, hk1, hk2⟩ := hD k' σ (by omega) hH.wf hC
    obtain ⟨ver5, s, hb5, hV⟩ := hH.hb5
    have hxb : x < b5 := by have := hH.lt1; have := hH.lt2; have := hH.lt3; omega
    have hb5n := (hH.wf b5 _ hb5)
    have hb51 : σ1.heap.get b5 = _ := (hX1.get b5 hb5n.1 (by omega)).trans hb5
    have hv5 : (view σ1 σ.clock).cells b5 = some [.int .i64 6, .int .i64 0, .string ⟨#[]⟩, s] := by
      rw [view_cells, hb51]
      simp only [Option.bind_some]
      rw [if_pos hb5n.2]
      rfl
    have hV1 : Vec σ1 b5 s ds := hV.keep hH.wf fun c h1 h2 => hX1.get c h2 (by omega)
    have hs : ∀ b n m, s = .slice (some ⟨b, 0, none⟩) n m → b < σ.next ∧ b5 < b := by
      intro b n m hs
      rcases hV with ⟨_, h⟩ | ⟨b', cs, ver, h, hb, hlb, _⟩
      · rw [hs] at h; cases h
      · rw [hs] at h; cases h; exact ⟨(hH.wf _ _ hb).1, hlb⟩
    obtain ⟨kd, nd, td, dd⟩ := d
    have hLd' := hLd
    obtain ⟨p, c, rfl, _⟩ := hLd'
    obtain ⟨s', τ, ha, ho, hVτ, hwτ, hnτ, hcτ, hg1, hg2⟩ := vec_append σ1 b5 s ds (.mk kd nd td dd) [.int .i64 kd, .int .i64 nd, .string td, .slice p dd.length c] hw1 (by have := hX1.next; omega) rfl rfl (by have := hH.len; omega) hV1
      (hLd.keep fun c cs hc h => ⟨h, by have := hc.1; omega, fun b n m hsb => by have := (hs b n m hsb).1; have := hc.1; omega⟩)
    have hgb5 : τ.heap.get b5 = _ := (hg1 b5 (Nat.le_refl _)).trans hb51
    have hb5τ : b5 < τ.next := by have := hX1.next; omega
    obtain ⟨vero, z0, z1, z2, z3, hbo⟩ := hH.hbo
    have hlt3 := hH.lt3
    have hlt2 := hH.lt2
    have hlt1 := hH.lt1
    have hCτ : Coil τ x k1 := hC1.low fun c hc => hg1 c (by omega)
    have hH' : HeadV x bo b5 L W K j σ0 (ds ++ [.mk kd nd td dd]) (upd f 6 (.int .i64 (.ofNat j))) (τ.put b5 (.cells [.int .i64 6, .int .i64 0, .string ⟨#[]⟩, s'] 24) none) := {
      f0 := by simp -implicitDefEqProofs only [upd_go, kept_go, ↓reduceIte, Nat.reduceEqDiff, Nat.reduceLT, reduceCtorEq, hH.f0]
      f1 := by simp -implicitDefEqProofs only [upd_go, kept_go, ↓reduceIte, Nat.reduceEqDiff, Nat.reduceLT, reduceCtorEq, hH.f1]
      f4 := by simp -implicitDefEqProofs only [upd_go, kept_go, ↓reduceIte, Nat.reduceEqDiff, Nat.reduceLT, reduceCtorEq, hH.f4]
      f5 := by simp -implicitDefEqProofs only [upd_go, kept_go, ↓reduceIte, Nat.reduceEqDiff, Nat.reduceLT, reduceCtorEq, hH.f5]
      f6 := by simp -implicitDefEqProofs only [upd_go, kept_go, ↓reduceIte, Nat.reduceEqDiff, Nat.reduceLT, reduceCtorEq]
      hbo := ⟨vero, z0, z1, z2, z3, by
        rw [put_get, if_neg (by omega), hg1 bo (by omega), hX1.get bo (by have := hb5n.1; omega) (by omega)]
        exact hbo⟩
      hb5 := ⟨_, s', by rw [put_get, if_pos rfl], hVτ.keep hwτ fun c h1 h2 => by rw [put_get, if_neg (by omega)]⟩
      ext := ⟨by rw [put_next]; have := hH.ext.next; have := hX1.next; omega, by rw [put_clock]; have := hH.ext.clock; have := hX1.clock; omega, fun c hc hcx => by
        have h1 := hH.ext.next
        have h2 := hX1.next
        rw [put_get, if_neg (by omega), hg2 c (by omega) (fun b n m h => by have := (hs b n m h).2; omega), hX1.get c (by omega) hcx]
        exact hH.ext.get c hc hcx⟩
      wf := hwτ.put _ _ _ hb5τ
      coil := ⟨k1, hCτ.put b5 hxb _ _, by omega⟩
      made := fun e he => by
        rcases List.mem_append.1 he with h | h
        · exact hH.made e h
        · rw [List.mem_singleton.1 h]; exact hMd
      lt1 := hlt1
      lt2 := hlt2
      lt3 := hlt3
      len := by have := hH.len; rw [List.length_append, List.length_singleton]; omega }
    rw [floop_step]
    unfold l11_0
    simp -implicitDefEqProofs only [go_sem, ↓reduceIte, Nat.reduceLT, Nat.reduceEqDiff, Nat.reduceAdd, Nat.reduceMul, Nat.reduceLeDiff, Nat.reduceSub, r11_15_go, r11_15U, r11_16_go, r11_16U, r11_17_go, r11_17U, hH.f0, hH.f1, hH.f5, hH.f6, hd, hwr, e, hv5, ha, ho, hgb5, hwj]
    exact ih fuel _ _ _ _ (by omega) hH' ⟨k1, hCτ.put b5 hxb _ _, by omega, by omega⟩
end Go.Proofs.YtokieofohmgjdaaGreatDoor
/- caracolekit.DatumOf: valid data of at most so many levels. -/
namespace Go.Proofs.YtokieofohmgjdaaGreatDoor
open Go Go.Eng
attribute [local congr] andThen_congr fops_congr fdraw_congr afterOp_congr drawF_congr
attribute [-go_sem] List.range_succ
noncomputable def vec11 (E : Env) (ro : Option Nat) : RunF := (seqR (fops E ro r11_13) (seqR (seqR (fops E ro r11_14) (blockR 1 (loopR (keepOf nls 11) (l11_0 E ro 11)))) (seqR (fops E ro r11_18) retR)))
noncomputable def rest11 (E : Env) (ro : Option Nat) : RunF := (seqR (seqR (fops E ro r11_12) (condR (fun a => (a.get 44)) (vec11 E ro) skipR)) (seqR (fops E ro r11_19) retR))
theorem run11_eq (E : Env) (ro : Option Nat) : run11 E ro 11 = seqR (fops E ro r11_0) (seqR (seqR (fops E ro r11_1) (condR (fun a => (a.get 12)) (leaf11 E ro) skipR)) (rest11 E ro)) := rfl

/-- The end of a call that has left a leaf in the result's variable. -/
theorem leaf_end {x k K bo L : Nat} {σ : FState} {r : KRes} (E : Env) (hbo : bo = σ.next) (h : LeafIn x k K bo σ r) : ∃ v d σ' k', leaveR Tryz.prog E [.cell 4 24] r = .ret v none σ' ∧ LaidR (New σ σ') σ' v d ∧ Made L d ∧ ExtC x σ σ' ∧ Wf σ' ∧ Coil σ' x k' ∧ k ≤ k' ∧ k' ≤ K := by
  obtain ⟨f, g, σ', kd, n, t, k', rfl, h4, ⟨ver, hg⟩, hL, hX, hw, hC, h1, h2⟩ := h
  have hc := cells_of_get hg
  simp -implicitDefEqProofs only [go_sem, ↓reduceIte, Nat.reduceLT, Nat.reduceEqDiff, Nat.reduceAdd, Nat.reduceMul, Nat.reduceLeDiff, Nat.reduceSub, aggDatum, h4, hc]
  exact ⟨_, .mk kd n t [], _, k', rfl, ⟨none, 0, rfl, trivial⟩, .leaf _ _ hL, hX, hw, hC, h1, h2⟩

theorem datumOf_leaf (M x L W : Nat) (hL : L < 2) (hW : 4 ≤ W) : DatumAt (M + 3 + 1) x L W := by
  intro k σ hk hw hC
  have hx := hC.cells
  have hd : decide (Int.ofNat L < 2) = true := by simp; omega
  rw [env_call _ 11 _ _ rfl, enter11 _ _ _ _ (by simp), Sl_start, run11_eq]
  have hXa : Ext σ (σ.push (.cells [.int .i64 0, .int .i64 0, .string ⟨#[]⟩, .slice none 0 0] 24) none) := (Ext.refl _).push _ _
  have hwa := hw.push (.cells [.int .i64 0, .int .i64 0, .string ⟨#[]⟩, .slice none 0 0] 24) none
  obtain ⟨c3, hc3, _⟩ := hx
  have hxn := hw.cells hc3
  simp -implicitDefEqProofs only [go_sem, ↓reduceIte, Nat.reduceLT, Nat.reduceEqDiff, Nat.reduceAdd, Nat.reduceMul, Nat.reduceLeDiff, Nat.reduceSub, r11_0_go, r11_0U, r11_1_go, r11_1U, Option.getD_some, hd]
  generalize hf : upd _ _ _ = f1
  generalize hg : upd _ _ _ = g1
  have hleaf := leaf11_go M x k σ.next (by omega) σ _ f1 g1 (by rw [← hf]; simp -implicitDefEqProofs only [upd_go, kept_go, ↓reduceIte, Nat.reduceEqDiff, Nat.reduceLT, reduceCtorEq, List.getElem?_cons_zero, Option.getD_some]) (by rw [← hf]; simp -implicitDefEqProofs only [upd_go, kept_go, ↓reduceIte, Nat.reduceEqDiff, Nat.reduceLT, reduceCtorEq]) hwa (hC.ext hw hXa) (hXa.toC x) (Nat.le_refl _) hxn _ _ _ _ _ (by rw [push_get, if_pos rfl])
  obtain ⟨v, d, σ', k', h1, h2⟩ := leaf_end (L := L) (env (M + 3)) rfl hleaf
  obtain ⟨f, g, σ'', kd, nn, t, k'', e1, r1⟩ := hleaf
  rw [e1] at h1 ⊢
  simp -implicitDefEqProofs only [andThen_ret]
  obtain ⟨r2, r3, r4, r5, r6, r7, r8⟩ := h2
  exact ⟨v, d, σ', k', h1, r2, r3, r4, r5, r6, r7, by omega⟩

theorem datumOf_step (M x L W : Nat) (hL : 1 ≤ L ∧ L < 900) (hW : 4 ≤ W ∧ W < 10000000000) (hD : DatumAt (M + 3) x L W) : DatumAt (M + 3 + 1) x (L + 1) (3 * W + 10) := by
  intro k σ hk hw hC
  have hd : decide (Int.ofNat (L + 1) < 2) = false := by simp; omega
  have hwr : wrapI (Int.ofNat (L + 1) - 1) = Int.ofNat L := by
    rw [wrapI_of (by rw [Int.ofNat_eq_natCast]; omega), Int.ofNat_eq_natCast, Int.ofNat_eq_natCast]; omega
  rw [env_call _ 11 _ _ rfl, enter11 _ _ _ _ (by simp), Sl_start, run11_eq]
  have hXa : Ext σ (σ.push (.cells [.int .i64 0, .int .i64 0, .string ⟨#[]⟩, .slice none 0 0] 24) none) := (Ext.refl _).push _ _
  have hwa := hw.push (.cells [.int .i64 0, .int .i64 0, .string ⟨#[]⟩, .slice none 0 0] 24) none
  have hba : (σ.push (.cells [.int .i64 0, .int .i64 0, .string ⟨#[]⟩, .slice none 0 0] 24) none).heap.get σ.next = some ⟨.cells [.int .i64 0, .int .i64 0, .string ⟨#[]⟩, .slice none 0 0] 24, false, none, σ.clock⟩ := by rw [push_get, if_pos rfl]
  obtain ⟨c3, hc3, _⟩ := hC.cells
  have hxn := hw.cells hc3
  obtain ⟨b, σ1, e1, hX1, hw1, hC1⟩ := once_go M x k 4 (by omega) (by omega) _ hwa (hC.ext hw hXa)
  have hX01 : ExtC x σ σ1 := (hXa.toC x).trans hX1
  have hb1 := (hX1.get σ.next (by rw [push_next]; omega) (by omega)).trans hba
  have hn1 := (hw1 _ _ hb1).1
  cases b with
  | true =>
    simp -implicitDefEqProofs only [go_sem, ↓reduceIte, Nat.reduceLT, Nat.reduceEqDiff, Nat.reduceAdd, Nat.reduceMul, Nat.reduceLeDiff, Nat.reduceSub, r11_0_go, r11_0U, r11_1_go, r11_1U, Option.getD_some, hd, e1]
    generalize hf : upd _ _ _ = f1
    generalize hg : upd _ _ _ = g1
    have hleaf := leaf11_go M x (k + 1) σ.next (by omega) σ _ f1 g1 (by rw [← hf]; simp -implicitDefEqProofs only [upd_go, kept_go, ↓reduceIte, Nat.reduceEqDiff, Nat.reduceLT, reduceCtorEq, List.getElem?_cons_zero, Option.getD_some]) (by rw [← hf]; simp -implicitDefEqProofs only [upd_go, kept_go, ↓reduceIte, Nat.reduceEqDiff, Nat.reduceLT, reduceCtorEq]) hw1 hC1 hX01 (Nat.le_refl _) hxn _ _ _ _ _ hb1
    obtain ⟨v, d, σ', k', h1, h2⟩ := leaf_end (L := L + 1) (env (M + 3)) rfl hleaf
    obtain ⟨f, g, σ'', kd, nn, t, k'', e2, r1⟩ := hleaf
    rw [e2] at h1 ⊢
    simp -implicitDefEqProofs only [andThen_ret]
    obtain ⟨r2, r3, r4, r5, r6, r7, r8⟩ := h2
    exact ⟨v, d, σ', k', h1, r2, r3, r4, r5, r6, by omega, by omega⟩
  | false =>
    obtain ⟨b, σ2, e2, hX2, hw2, hC2⟩ := once_go M x (k + 1) 6 (by omega) (by omega) _ hw1 hC1
    have hX02 : ExtC x σ σ2 := hX01.trans hX2
    have hb2 := (hX2.get σ.next hn1 (by omega)).trans hb1
    have hn2 := (hw2 _ _ hb2).1
    simp -implicitDefEqProofs only [go_sem, ↓reduceIte, Nat.reduceLT, Nat.reduceEqDiff, Nat.reduceAdd, Nat.reduceMul, Nat.reduceLeDiff, Nat.reduceSub, r11_0_go, r11_0U, r11_1_go, r11_1U, Option.getD_some, hd, e1]
    generalize hf : upd _ _ _ = f1
    generalize hg : upd _ _ _ = g1
    have p0 : f1 0 = .pointer (some ⟨x, 0, none⟩) := by rw [← hf]; simp -implicitDefEqProofs only [upd_go, kept_go, ↓reduceIte, Nat.reduceEqDiff, Nat.reduceLT, reduceCtorEq, List.getElem?_cons_zero, Option.getD_some]
    have p1 : f1 1 = .int .i64 (.ofNat (L + 1)) := by rw [← hf]; simp -implicitDefEqProofs only [upd_go, kept_go, ↓reduceIte, Nat.reduceEqDiff, Nat.reduceLT, reduceCtorEq, List.getElem?_cons_zero, List.getElem?_cons_succ, Option.getD_some]
    have p4 : f1 4 = .pointer (some ⟨σ.next, 0, none⟩) := by rw [← hf]; simp -implicitDefEqProofs only [upd_go, kept_go, ↓reduceIte, Nat.reduceEqDiff, Nat.reduceLT, reduceCtorEq]
    clear hf hg
    unfold rest11
    cases b with
    | true =>
      obtain ⟨i, σ3, e3, i0, i1, hX3, hw3, hC3⟩ := up_go (M + 1) x (k + 2) 3 (by omega) (by omega) ((σ2.push (.cells [.int .i64 0, .int .i64 0, .string ⟨#[]⟩, .slice none 0 0] 24) none).put σ2.next (.cells [.int .i64 6, .int .i64 0, .string ⟨#[]⟩, .slice none 0 0] 24) none)
        ((hw2.push _ _).put _ _ _ (Nat.lt_succ_self _)) (hC2.ext hw2 (((Ext.refl _).push _ _).put _ _ _ (Nat.le_refl _)))
      obtain ⟨j, rfl⟩ : ∃ j : Nat, i = Int.ofNat j := ⟨i.toNat, by rw [Int.ofNat_eq_natCast]; omega⟩
      have hx5 : x < σ2.next := by have := hX02.next; omega
      have hb53 : σ3.heap.get σ2.next = _ := (hX3.get σ2.next (Nat.lt_succ_self _) (by omega)).trans (by rw [put_get, if_pos rfl])
      have hb3 : σ3.heap.get σ.next = _ := (hX3.get σ.next (Nat.lt_succ_of_lt hn2) (by omega)).trans ((by rw [put_get, if_neg (by omega), push_get, if_neg (by omega)] : _ = _).trans hb2)
      unfold vec11
      simp -implicitDefEqProofs only [go_sem, ↓reduceIte, Nat.reduceLT, Nat.reduceEqDiff, Nat.reduceAdd, Nat.reduceMul, Nat.reduceLeDiff, Nat.reduceSub, fstoreN, r11_12_go, r11_12U, r11_13_go, r11_13U, r11_14_go, r11_14U, p0, p1, p4, e2, e3, keep11]
      generalize hf : upd _ _ _ = f2
      generalize hg : upd _ _ _ = g2
      generalize hbf : bigFuel = fuel
      have hfu : j < fuel := by rw [← hbf]; show j < 1000000000000; rw [Int.ofNat_eq_natCast] at i1; omega
      have hX03 : ExtC x σ σ3 := (hX02.trans ((((Ext.refl σ2).push _ _).put _ _ _ (Nat.le_refl _)).toC x)).trans hX3
      have hj3 : j ≤ 3 := by rw [Int.ofNat_eq_natCast] at i1; omega
      have hjW : j * W ≤ 3 * W := Nat.mul_le_mul_right W hj3
      have hH : HeadV x σ.next σ2.next L W (k + (3 * W + 10)) j σ [] f2 σ3 := {
        f0 := by rw [← hf]; simp -implicitDefEqProofs only [upd_go, kept_go, ↓reduceIte, Nat.reduceEqDiff, Nat.reduceLT, reduceCtorEq, p0]
        f1 := by rw [← hf]; simp -implicitDefEqProofs only [upd_go, kept_go, ↓reduceIte, Nat.reduceEqDiff, Nat.reduceLT, reduceCtorEq, p1]
        f4 := by rw [← hf]; simp -implicitDefEqProofs only [upd_go, kept_go, ↓reduceIte, Nat.reduceEqDiff, Nat.reduceLT, reduceCtorEq, p4]
        f5 := by rw [← hf]; simp -implicitDefEqProofs only [upd_go, kept_go, ↓reduceIte, Nat.reduceEqDiff, Nat.reduceLT, reduceCtorEq]
        f6 := by rw [← hf]; simp -implicitDefEqProofs only [upd_go, kept_go, ↓reduceIte, Nat.reduceEqDiff, Nat.reduceLT, reduceCtorEq]
        hbo := ⟨_, _, _, _, _, hb3⟩
        hb5 := ⟨_, _, hb53, .inl ⟨rfl, rfl⟩⟩
        ext := hX03
        wf := hw3
        coil := ⟨_, hC3, by omega⟩
        made := fun d hd => by cases hd
        lt1 := hxn
        lt2 := Nat.le_refl _
        lt3 := hn2
        len := by simpa using hj3 }
      obtain ⟨f3, g3, σ4, ds, el, hH4, k', hC4, hk', hK'⟩ := datumOf_loop (M + 3) x σ.next σ2.next L W (k + (3 * W + 10)) hk (by omega) σ k hD j fuel [] f2 g2 σ3 hfu hH ⟨_, hC3, by omega, by omega⟩
      rw [el]
      obtain ⟨v5, s5, hb5, hV⟩ := hH4.hb5
      obtain ⟨vo, z0, z1, z2, z3, hbo⟩ := hH4.hbo
      have hc5 := cells_of_get hb5
      have q4 := hH4.f4
      have q5 := hH4.f5
      have hs5 : ∃ p, s5 = .slice p ds.length ds.length ∧ LaidRE (fun c => σ2.next < c) σ4 p 0 ds := by
        rcases hV with ⟨rfl, rfl⟩ | ⟨b, cs, ver, rfl, hb, hlb, hR⟩
        · exact ⟨none, rfl, trivial⟩
        · have hbn := (hH4.wf _ _ hb).1
          exact ⟨_, rfl, hR.elems (R' := fun c => σ2.next < c) (cells_of_get hb) hlb (fun _ h => h.1) 0 ds fun j e h => by rwa [Nat.zero_add]⟩
      obtain ⟨p, rfl, hE⟩ := hs5
      simp -implicitDefEqProofs only [go_sem, ↓reduceIte, Nat.reduceLT, Nat.reduceEqDiff, Nat.reduceAdd, Nat.reduceMul, Nat.reduceLeDiff, Nat.reduceSub, fstoreN, r11_18_go, r11_18U, q4, q5, hc5, hbo, aggDatum]
      have hno := (hH4.wf _ _ hbo).1
      have hlen : ds.length ≤ 3 := by have := hH4.len; omega
      refine ⟨_, .mk 6 0 ⟨#[]⟩ ds, _, k', rfl, ⟨p, _, rfl, hE.keep fun b cs hb h => ?_⟩, .vec L ds hlen hH4.made, hH4.ext.putNew _ _ _ (Nat.le_refl _), hH4.wf.put _ _ _ hno, hC4.put _ hxn _ _, hk', hK'⟩
      have hb' : σ2.next < b := hb
      refine ⟨?_, by omega, ?_⟩
      · rw [cells_put, if_neg (by omega)]; exact h
      · rw [put_next]; exact hH4.wf.cells h
    | false =>
      obtain ⟨v1, d1, σ3, k3, e3, hL3, hM3, hX3, hw3, hC3, hk3, hk3'⟩ := hD (k + 2) σ2 (by omega) hw2 hC2
      obtain ⟨v2, d2, σ4, k4, e4, hL4, hM4, hX4, hw4, hC4, hk4, hk4'⟩ := hD k3 σ3 (by omega) hw3 hC3
      have kp : ∀ b cs, New σ2 σ3 b → σ3.cells b = some cs → σ4.cells b = some cs ∧ (σ2.next ≤ b ∧ b < σ4.next) := fun b cs hb h => by
        have h1 := hX4.next
        exact ⟨(hX4.cells hb.2 (by have := hb.1; omega)).trans h, hb.1, by have := hb.2; omega⟩
      obtain ⟨v5, σ5, e5, hX5, hw5, hL5⟩ := pair_goR (M + 2) (fun b => σ2.next ≤ b ∧ b < σ4.next) d1 d2 v1 v2 σ4 hw4 (hL3.keep kp) (hL4.keep fun b cs hb h => ⟨h, by have := hb.1; have := hX3.next; omega, hb.2⟩)
      have hX25 : ExtC x σ2 σ5 := (hX3.trans hX4).trans (hX5.toC x)
      have hb5 := (hX25.get σ.next hn2 (by omega)).trans hb2
      obtain ⟨p, c, rfl, hE⟩ := hL5
      simp -implicitDefEqProofs only [go_sem, ↓reduceIte, Nat.reduceLT, Nat.reduceEqDiff, Nat.reduceAdd, Nat.reduceMul, Nat.reduceLeDiff, Nat.reduceSub, fstoreN, r11_12_go, r11_12U, r11_19_go, r11_19U, p0, p1, p4, e2, e3, e4, e5, hwr, hb5, aggDatum]
      have hnn := hX02.next
      have hn5 := (hw5 _ _ hb5).1
      refine ⟨_, .mk 5 0 ⟨#[]⟩ [d1, d2], _, k4, rfl, ⟨p, c, rfl, hE.keep fun b cs hb h => ?_⟩, .pair L _ _ hM3 hM4, (hX02.trans hX25).putNew _ _ _ (Nat.le_refl _), hw5.put _ _ _ hn5, (hC4.ext hw4 hX5).put _ hxn _ _, by omega, by omega⟩
      have hlo : σ.next < b := by
        rcases hb with hb | hb
        · exact Nat.lt_of_lt_of_le hn2 hb.1
        · have := hb.1; have := hX3.next; have := hX4.next; omega
      refine ⟨?_, by omega, ?_⟩
      · rw [cells_put, if_neg (by omega)]; exact h
      · rw [put_next]; exact hw5.cells h

/-- How many numbers a datum of so many levels takes at most. -/
def wound : Nat → Nat
  | 0 => 10
  | 1 => 10
  | L + 2 => 3 * wound (L + 1) + 10
theorem datumOf_go (n x : Nat) : ∀ L, L ≤ 6 → DatumAt (n + L + 4) x L (wound L)
  | 0, _ => datumOf_leaf n x 0 10 (by omega) (by omega)
  | 1, _ => datumOf_leaf (n + 1) x 1 10 (by omega) (by omega)
  | L + 2, h => by
    have ih := datumOf_go n x (L + 1) (by omega)
    have hW : 4 ≤ wound (L + 1) ∧ wound (L + 1) < 10000000000 := by
      obtain rfl | rfl | rfl | rfl | rfl : L = 0 ∨ L = 1 ∨ L = 2 ∨ L = 3 ∨ L = 4 := by omega
      all_goals (simp [wound])
    exact datumOf_step (n + L + 2) x (L + 1) (wound (L + 1)) (by omega) hW ih
end Go.Proofs.YtokieofohmgjdaaGreatDoor
/- Functions of the program, written out in the reading's words (made by program; the kernel holds each against the code). -/
namespace Go.Proofs.YtokieofohmgjdaaGreatDoor
open Go Go.Eng
variable (E : Env) (ro : Option Nat) (last : List Nat → RunF) (cl : List Nat) (a : FAct) (u : Option FrameMode) (σ : FState)
/-! caracole/guard.CallAt[caracole/datum.extent] -/
/-! caracole/guard.CallAt[caracole/datum.extent]$1 -/
/-! caracole/guard.Call[caracole/datum.extent] -/
/-! caracole/datum.Size -/
/-! caracole/datum.Size$1 -/
/-! caracole/datum.limit -/
noncomputable def r101_0U (_ : Unit) : List COp := [⟨fun a σ => .val (a.get 0) σ, (some 2), fun _ => some true⟩,
  ⟨fun a σ => i_gtr Tryz.prog 3 (.tmp 2) (.const (.int .i64 2000)) (a.get 2) (.int .i64 2000) σ, (some 3), fun _ => some true⟩]
noncomputable def r101_0 : List COp := r101_0U ()
noncomputable def r101_1U (_ : Unit) : List COp := [⟨fun a σ => .enter 136 [(.int .i64 8)] σ, (some 4), fun _ => some true⟩]
noncomputable def r101_1 : List COp := r101_1U ()
noncomputable def run101 (E : Env) (ro : Option Nat) (fn : FuncId) : RunF := (seqR (fops E ro r101_0) (condR (fun a => (a.get 3)) (fops E ro r101_1) skipR))
theorem r101_0_go : fops E ro r101_0 a u σ = fops E ro (r101_0U ()) a u σ := rfl
theorem code101 (E : Env) (ro : Option Nat) (fn : FuncId) : code Tryz.prog nls (Tryz.f101.body.getD .skip) E ro fn = run101 E ro fn := by kernel_rfl
theorem enter101 (E : Env) (args : List Value) (u : Option FrameMode) (σ : FState) (hn : args.length ≤ (2 : Nat)) : fcall Tryz.prog nls E 101 args u σ = leaveR Tryz.prog E [] (run101 E none 101 ⟨padTo undef 2 args, fun _ => undef, 2, 5, []⟩ u σ) := by
  rw [fcall_of (body := Tryz.f101.body.getD .skip) Tryz.func101 rfl E args u σ 2 5 (by kernel_rfl) rfl ⟨hn, by decide⟩, code101]
  rfl
/-! caracole/datum.valid -/
noncomputable def r71_0U (_ : Unit) : List COp := [⟨fun a σ => fbox 24 (a.get 0) σ, (some 1), fun _ => some true⟩,
  ⟨fun a σ => .val (.int .i64 0) σ, (some 2), fun _ => some true⟩]
noncomputable def r71_0 : List COp := r71_0U ()
noncomputable def r71_1U (_ : Unit) : List COp := [⟨fun a σ => .val (.map (some σ.next)) (σ.push (.map [] 0) none), (some 6), fun _ => some true⟩,
  ⟨fun a σ => fbuild (fun i => nth [(0, 1), (1, 1)] i) [(.int .i64 0), (.map none)] [(1, (a.get 6))] σ, (some 7), fun _ => some true⟩,
  ⟨fun a σ => newCells [(.int .i64 0), (.map none)] 136 none σ, (some 3), fun _ => some true⟩,
  ⟨fun a σ => fstore 2 (a.get 3) (a.get 7) σ, none, fun _ => some true⟩]
noncomputable def r71_1 : List COp := r71_1U ()
noncomputable def r71_2U (_ : Unit) : List COp := [⟨fun a σ => .val (.func (.func 120) #[(a.get 3)] #[]) σ, (some 8), fun _ => some true⟩,
  ⟨fun a σ => fbuild (fun i => nth [(0, 1)] i) [.nilFunc] [(0, (a.get 8))] σ, (some 9), fun _ => some true⟩,
  ⟨fun a σ => fload (some 4) (a.get 1) σ, (some 10), fun _ => some true⟩,
  ⟨fun a σ => .enter 121 [(a.get 9), (a.get 10)] σ, (some 11), fun _ => some true⟩]
noncomputable def r71_2 : List COp := r71_2U ()
noncomputable def r71_3U (_ : Unit) : List COp := [⟨fun a σ => newCells [(.int .i64 0), (.int .i64 0), (.string ⟨#[]⟩), (.slice none 0 0)] 24 none σ, (some 5), fun _ => some true⟩,
  ⟨fun a σ => fstore 4 (a.get 5) (a.get 13) σ, none, fun _ => some true⟩]
noncomputable def r71_3 : List COp := r71_3U ()
noncomputable def r71_4U (_ : Unit) : List COp := [⟨fun a σ => fload (some 4) (a.get 5) σ, (some 14), fun _ => some true⟩,
  ⟨fun a σ => .enter 122 [(a.get 14)] σ, (some 15), fun _ => some true⟩]
noncomputable def r71_4 : List COp := r71_4U ()
noncomputable def r71_5U (_ : Unit) : List COp := [⟨fun a σ => ffield 0 (a.get 3) σ, (some 16), fun _ => some true⟩,
  ⟨fun a σ => fload none (a.get 16) σ, (some 17), fun _ => some true⟩,
  ⟨fun a σ => i_add Tryz.prog 3 (.tmp 17) (.const (.int .i64 1)) (a.get 17) (.int .i64 1) σ, (some 18), fun _ => some true⟩,
  ⟨fun a σ => ffield 0 (a.get 3) σ, (some 19), fun _ => some true⟩,
  ⟨fun a σ => fstore 1 (a.get 19) (a.get 18) σ, none, fun _ => some true⟩]
noncomputable def r71_5 : List COp := r71_5U ()
noncomputable def c71_0a : Code := ((rangesOf (Tryz.f71.body.getD .skip)).getD 0 (.skip, .skip)).1
noncomputable def c71_0b : Code := ((rangesOf (Tryz.f71.body.getD .skip)).getD 0 (.skip, .skip)).2
noncomputable def r71_6U (_ : Unit) : List COp := [⟨fun a σ => ffield 0 (a.get 3) σ, (some 20), fun _ => some true⟩,
  ⟨fun a σ => fload none (a.get 20) σ, (some 21), fun _ => some true⟩,
  ⟨fun a σ => .enter 101 [(a.get 21)] σ, (some 22), fun _ => some true⟩]
noncomputable def r71_6 : List COp := r71_6U ()
noncomputable def r71_7U (_ : Unit) : List COp := [⟨fun a σ => ffield 0 (a.get 3) σ, (some 23), fun _ => some true⟩,
  ⟨fun a σ => fload none (a.get 23) σ, (some 24), fun _ => some true⟩,
  ⟨fun a σ => .val (a.get 24) σ, (some 2), fun _ => some true⟩]
noncomputable def r71_7 : List COp := r71_7U ()
noncomputable def run71 (E : Env) (ro : Option Nat) (fn : FuncId) : RunF := (seqR (fops E ro r71_0) (seqR (fops E ro r71_1) (seqR (seqR (fops E ro r71_2) (blockR 0 (frange E ro fn (.tmp 11) [12, 13] c71_0a c71_0b))) (seqR (fops E ro r71_6) (seqR (fops E ro r71_7) retR)))))
theorem r71_0_go : fops E ro r71_0 a u σ = fops E ro (r71_0U ()) a u σ := rfl
theorem r71_1_go : fops E ro r71_1 a u σ = fops E ro (r71_1U ()) a u σ := rfl
theorem r71_2_go : fops E ro r71_2 a u σ = fops E ro (r71_2U ()) a u σ := rfl
theorem r71_3_go : fops E ro r71_3 a u σ = fops E ro (r71_3U ()) a u σ := rfl
theorem r71_4_go : fops E ro r71_4 a u σ = fops E ro (r71_4U ()) a u σ := rfl
theorem r71_5_go : fops E ro r71_5 a u σ = fops E ro (r71_5U ()) a u σ := rfl
theorem c71_0a_go (E : Env) (ro : Option Nat) (fn : FuncId) : code Tryz.prog nls c71_0a E ro fn = (fops E ro r71_3) := by kernel_rfl
theorem c71_0b_go (E : Env) (ro : Option Nat) (fn : FuncId) : code Tryz.prog nls c71_0b E ro fn = (blockR 1 (seqR (fops E ro r71_4) (fops E ro r71_5))) := by kernel_rfl
theorem r71_6_go : fops E ro r71_6 a u σ = fops E ro (r71_6U ()) a u σ := rfl
theorem r71_7_go : fops E ro r71_7 a u σ = fops E ro (r71_7U ()) a u σ := rfl
theorem code71 (E : Env) (ro : Option Nat) (fn : FuncId) : code Tryz.prog nls (Tryz.f71.body.getD .skip) E ro fn = run71 E ro fn := by kernel_rfl
theorem enter71 (E : Env) (args : List Value) (u : Option FrameMode) (σ : FState) (hn : args.length ≤ (6 : Nat)) : fcall Tryz.prog nls E 71 args u σ = leaveR Tryz.prog E [.tmp 2] (run71 E none 71 ⟨padTo undef 6 args, fun _ => undef, 6, 25, []⟩ u σ) := by
  rw [fcall_of (body := Tryz.f71.body.getD .skip) Tryz.func71 rfl E args u σ 6 25 (by kernel_rfl) rfl ⟨hn, by decide⟩, code71]
  rfl
/-! caracole/datum.deepest -/
noncomputable def c72_0a : Code := ((rangesOf (Tryz.f72.body.getD .skip)).getD 0 (.skip, .skip)).1
noncomputable def c72_0b : Code := ((rangesOf (Tryz.f72.body.getD .skip)).getD 0 (.skip, .skip)).2
/-! (*caracole/datum.census).enter -/
noncomputable def r120_0U (_ : Unit) : List COp := [⟨fun a σ => .val (.bool false) σ, (some 4), fun _ => some true⟩]
noncomputable def r120_0 : List COp := r120_0U ()
noncomputable def r120_1U (_ : Unit) : List COp := [⟨fun a σ => .val (a.get 1) σ, (some 6), fun _ => some true⟩,
  ⟨fun a σ => flenL (a.get 6) σ, (some 7), fun _ => some true⟩,
  ⟨fun a σ => i_eql Tryz.prog 3 (.tmp 7) (.const (.int .i64 0)) (a.get 7) (.int .i64 0) σ, (some 8), fun _ => some true⟩,
  ⟨fun a σ => .val (a.get 8) σ, (some 9), fun _ => some true⟩,
  ⟨fun a σ => .val (a.get 0) σ, (some 10), fun a => gd (a.get 9) false⟩,
  ⟨fun a σ => fnilCheck (a.get 10) σ, (some 11), fun a => gd (a.get 9) false⟩,
  ⟨fun a σ => ffield 0 (a.get 11) σ, (some 12), fun a => gd (a.get 9) false⟩,
  ⟨fun a σ => fload none (a.get 12) σ, (some 13), fun a => gd (a.get 9) false⟩,
  ⟨fun a σ => i_leq Tryz.prog 3 (.tmp 13) (.const (.int .i64 2000)) (a.get 13) (.int .i64 2000) σ, (some 14), fun a => gd (a.get 9) false⟩,
  ⟨fun a σ => fpick (a.get 9) (.bool true) (a.get 14) σ, (some 15), fun _ => some true⟩]
noncomputable def r120_1 : List COp := r120_1U ()
noncomputable def r120_2U (_ : Unit) : List COp := [⟨fun a σ => .val (.bool true) σ, (some 4), fun _ => some true⟩]
noncomputable def r120_2 : List COp := r120_2U ()
noncomputable def r120_3U (_ : Unit) : List COp := [⟨fun a σ => .val (a.get 1) σ, (some 16), fun _ => some true⟩,
  ⟨fun a σ => findex (none, 4) (a.get 16) (.int .i64 0) σ, (some 17), fun _ => some true⟩,
  ⟨fun a σ => .val (a.get 1) σ, (some 18), fun _ => some true⟩,
  ⟨fun a σ => flenL (a.get 18) σ, (some 19), fun _ => some true⟩,
  ⟨fun a σ => fbuild (fun i => nth [(0, 1), (1, 1)] i) [(.pointer none), (.int .i64 0)] [(0, (a.get 17)), (1, (a.get 19))] σ, (some 20), fun _ => some true⟩,
  ⟨fun a σ => newCells [(.pointer none), (.int .i64 0)] 182 none σ, (some 5), fun _ => some true⟩,
  ⟨fun a σ => fstore 2 (a.get 5) (a.get 20) σ, none, fun _ => some true⟩]
noncomputable def r120_3 : List COp := r120_3U ()
noncomputable def r120_4U (_ : Unit) : List DOp := [⟨fun a σ => .val (a.get 0) σ, (some 21), fun _ => some true, (some 0), false⟩,
  ⟨fun a σ => fnilCheck (a.get 21) σ, (some 22), fun _ => some true, (some 0), false⟩,
  ⟨fun a σ => ffield 1 (a.get 22) σ, (some 23), fun _ => some true, (some 0), false⟩,
  ⟨fun a σ => fload none (a.get 23) σ, (some 24), fun _ => some true, (some 0), false⟩,
  ⟨fun a σ => fload (some 2) (a.get 5) σ, (some 25), fun _ => some true, (some 0), false⟩,
  ⟨fun a σ => (cop Tryz.prog (.lookup 134 (.tmp 24) (.tmp 25) false)).un a σ, (some 26), fun _ => some true, (some 0), false⟩]
noncomputable def r120_4 : List DOp := r120_4U ()
noncomputable def r120_5U (_ : Unit) : List COp := [⟨fun a σ => .val (.bool false) σ, (some 4), fun _ => some true⟩]
noncomputable def r120_5 : List COp := r120_5U ()
noncomputable def r120_6U (_ : Unit) : List DOp := [⟨fun a σ => .val (a.get 0) σ, (some 27), fun _ => some true, (some 0), false⟩,
  ⟨fun a σ => fnilCheck (a.get 27) σ, (some 28), fun _ => some true, (some 0), false⟩,
  ⟨fun a σ => ffield 1 (a.get 28) σ, (some 29), fun _ => some true, (some 0), false⟩,
  ⟨fun a σ => fload none (a.get 29) σ, (some 30), fun _ => some true, (some 0), false⟩,
  ⟨fun a σ => fload (some 2) (a.get 5) σ, (some 31), fun _ => some true, (some 0), false⟩,
  ⟨fun a σ => (cop Tryz.prog (.mapUpdate 134 (.tmp 30) (.tmp 31) (.const (.bool true)))).un a σ, none, fun _ => some true, none, true⟩]
noncomputable def r120_6 : List DOp := r120_6U ()
noncomputable def r120_7U (_ : Unit) : List COp := [⟨fun a σ => .val (.bool true) σ, (some 4), fun _ => some true⟩]
noncomputable def r120_7 : List COp := r120_7U ()
noncomputable def run120 (E : Env) (ro : Option Nat) (fn : FuncId) : RunF := (seqR (fops E ro r120_0) (seqR (seqR (fops E ro r120_1) (condR (fun a => (a.get 15)) (seqR (fops E ro r120_2) retR) skipR)) (seqR (fops E ro r120_3) (seqR (seqR (drawR E ro r120_4) (condR (fun a => (a.get 26)) (seqR (fops E ro r120_5) retR) skipR)) (seqR (drawR E ro r120_6) (seqR (fops E ro r120_7) retR))))))
theorem r120_0_go : fops E ro r120_0 a u σ = fops E ro (r120_0U ()) a u σ := rfl
theorem r120_1_go : fops E ro r120_1 a u σ = fops E ro (r120_1U ()) a u σ := rfl
theorem r120_2_go : fops E ro r120_2 a u σ = fops E ro (r120_2U ()) a u σ := rfl
theorem code120 (E : Env) (ro : Option Nat) (fn : FuncId) : code Tryz.prog nls (Tryz.f120.body.getD .skip) E ro fn = run120 E ro fn := by kernel_rfl
theorem enter120 (E : Env) (args : List Value) (u : Option FrameMode) (σ : FState) (hn : args.length ≤ (6 : Nat)) : fcall Tryz.prog nls E 120 args u σ = leaveR Tryz.prog E [.tmp 4] (run120 E none 120 ⟨padTo undef 6 args, fun _ => undef, 6, 32, []⟩ u σ) := by
  rw [fcall_of (body := Tryz.f120.body.getD .skip) Tryz.func120 rfl E args u σ 6 32 (by kernel_rfl) rfl ⟨hn, by decide⟩, code120]
  rfl
/-! (caracole/datum.walker).walk -/
noncomputable def r121_0U (_ : Unit) : List COp := [⟨fun a σ => fbox 141 (a.get 0) σ, (some 2), fun _ => some true⟩,
  ⟨fun a σ => fbox 24 (a.get 1) σ, (some 3), fun _ => some true⟩,
  ⟨fun a σ => .val .nilFunc σ, (some 4), fun _ => some true⟩]
noncomputable def r121_0 : List COp := r121_0U ()
noncomputable def r121_1U (_ : Unit) : List COp := [⟨fun a σ => .val (.func (.func 149) #[] #[(a.get 3), (a.get 2)]) σ, (some 5), fun _ => some true⟩,
  ⟨fun a σ => .val (a.get 5) σ, (some 4), fun _ => some true⟩]
noncomputable def r121_1 : List COp := r121_1U ()
noncomputable def run121 (E : Env) (ro : Option Nat) (fn : FuncId) : RunF := (seqR (fops E ro r121_0) (seqR (fops E ro r121_1) retR))
theorem r121_0_go : fops E ro r121_0 a u σ = fops E ro (r121_0U ()) a u σ := rfl
theorem r121_1_go : fops E ro r121_1 a u σ = fops E ro (r121_1U ()) a u σ := rfl
theorem code121 (E : Env) (ro : Option Nat) (fn : FuncId) : code Tryz.prog nls (Tryz.f121.body.getD .skip) E ro fn = run121 E ro fn := by kernel_rfl
theorem enter121 (E : Env) (args : List Value) (u : Option FrameMode) (σ : FState) (hn : args.length ≤ (4 : Nat)) : fcall Tryz.prog nls E 121 args u σ = leaveR Tryz.prog E [.tmp 4] (run121 E none 121 ⟨padTo undef 4 args, fun _ => undef, 4, 6, []⟩ u σ) := by
  rw [fcall_of (body := Tryz.f121.body.getD .skip) Tryz.func121 rfl E args u σ 4 6 (by kernel_rfl) rfl ⟨hn, by decide⟩, code121]
  rfl
/-! (caracole/datum.walker).walk$1 -/
noncomputable def r149_0U (_ : Unit) : List COp := [⟨fun a σ => .val (a.get 0) σ, (some 8), fun _ => some true⟩,
  ⟨fun a σ => fload (some 4) (a.get 1) σ, (some 9), fun _ => some true⟩,
  ⟨fun a σ => fcallV (a.get 8) [(.slice none 0 0), (a.get 9)] σ, (some 10), fun _ => some true⟩,
  ⟨fun a σ => fun1 Tryz.prog (Op.unary .not) (a.get 10) σ, (some 11), fun _ => some true⟩]
noncomputable def r149_0 : List COp := r149_0U ()
noncomputable def r149_1U (_ : Unit) : List COp := [⟨fun a σ => fload (some 1) (a.get 2) σ, (some 12), fun _ => some true⟩,
  ⟨fun a σ => fload (some 4) (a.get 1) σ, (some 13), fun _ => some true⟩,
  ⟨fun a σ => .enter 150 [(a.get 12), (a.get 13)] σ, (some 14), fun _ => some true⟩,
  ⟨fun a σ => fbuildSlice 22 1 1 [(.slice none 0 0)] [(0, (a.get 14))] σ, (some 15), fun _ => some true⟩,
  ⟨fun a σ => .val (a.get 15) σ, (some 4), fun _ => some true⟩]
noncomputable def r149_1 : List COp := r149_1U ()
noncomputable def r149_2U (_ : Unit) : List COp := [⟨fun a σ => fbuildSlice 3 1 1 [(.int .i64 0)] [(0, (.int .i64 0))] σ, (some 16), fun _ => some true⟩,
  ⟨fun a σ => .val (a.get 16) σ, (some 5), fun _ => some true⟩]
noncomputable def r149_2 : List COp := r149_2U ()
noncomputable def r149_3U (_ : Unit) : List COp := [⟨fun a σ => .val (a.get 4) σ, (some 17), fun _ => some true⟩,
  ⟨fun a σ => flenL (a.get 17) σ, (some 18), fun _ => some true⟩,
  ⟨fun a σ => i_gtr Tryz.prog 3 (.tmp 18) (.const (.int .i64 0)) (a.get 18) (.int .i64 0) σ, (some 19), fun _ => some true⟩]
noncomputable def r149_3 : List COp := r149_3U ()
noncomputable def r149_4U (_ : Unit) : List COp := [⟨fun a σ => .val (a.get 5) σ, (some 20), fun _ => some true⟩,
  ⟨fun a σ => flenL (a.get 20) σ, (some 21), fun _ => some true⟩,
  ⟨fun a σ => .val (a.get 21) σ, (some 6), fun _ => some true⟩]
noncomputable def r149_4 : List COp := r149_4U ()
noncomputable def r149_5U (_ : Unit) : List DOp := [⟨fun a σ => .val (a.get 5) σ, (some 22), fun _ => some true, (some 0), false⟩,
  ⟨fun a σ => .val (a.get 6) σ, (some 23), fun _ => some true, (some 0), false⟩,
  ⟨fun a σ => i_sub Tryz.prog 3 (.tmp 23) (.const (.int .i64 1)) (a.get 23) (.int .i64 1) σ, (some 24), fun _ => some true, (some 0), false⟩,
  ⟨fun a σ => findex (none, 1) (a.get 22) (a.get 24) σ, (some 25), fun _ => some true, (some 0), false⟩,
  ⟨fun a σ => fload none (a.get 25) σ, (some 26), fun _ => some true, (some 0), false⟩,
  ⟨fun a σ => .val (a.get 4) σ, (some 27), fun _ => some true, (some 0), false⟩,
  ⟨fun a σ => .val (a.get 6) σ, (some 28), fun _ => some true, (some 0), false⟩,
  ⟨fun a σ => i_sub Tryz.prog 3 (.tmp 28) (.const (.int .i64 1)) (a.get 28) (.int .i64 1) σ, (some 29), fun _ => some true, (some 0), false⟩,
  ⟨fun a σ => findex (none, 1) (a.get 27) (a.get 29) σ, (some 30), fun _ => some true, (some 0), false⟩,
  ⟨fun a σ => fload none (a.get 30) σ, (some 31), fun _ => some true, (some 0), false⟩,
  ⟨fun a σ => flenL (a.get 31) σ, (some 32), fun _ => some true, (some 0), false⟩,
  ⟨fun a σ => i_eql Tryz.prog 3 (.tmp 26) (.tmp 32) (a.get 26) (a.get 32) σ, (some 33), fun _ => some true, (some 0), false⟩]
noncomputable def r149_5 : List DOp := r149_5U ()
noncomputable def r149_6U (_ : Unit) : List DOp := [⟨fun a σ => .val (a.get 4) σ, (some 34), fun _ => some true, (some 0), false⟩,
  ⟨fun a σ => .val (a.get 6) σ, (some 35), fun _ => some true, (some 0), false⟩,
  ⟨fun a σ => i_sub Tryz.prog 3 (.tmp 35) (.const (.int .i64 1)) (a.get 35) (.int .i64 1) σ, (some 36), fun _ => some true, (some 0), false⟩,
  ⟨fun a σ => fslice Tryz.prog 54 (a.get 34) none (some (a.get 36)) none σ, (some 37), fun _ => some true, (some 0), false⟩,
  ⟨fun a σ => .val (a.get 5) σ, (some 38), fun _ => some true, (some 0), false⟩,
  ⟨fun a σ => .val (a.get 6) σ, (some 39), fun _ => some true, (some 0), false⟩,
  ⟨fun a σ => i_sub Tryz.prog 3 (.tmp 39) (.const (.int .i64 1)) (a.get 39) (.int .i64 1) σ, (some 40), fun _ => some true, (some 0), false⟩,
  ⟨fun a σ => fslice Tryz.prog 25 (a.get 38) none (some (a.get 40)) none σ, (some 41), fun _ => some true, (some 0), false⟩,
  ⟨fun a σ => .val (a.get 37) σ, (some 4), fun _ => some true, (some 0), false⟩,
  ⟨fun a σ => .val (a.get 41) σ, (some 5), fun _ => some true, (some 0), false⟩]
noncomputable def r149_6 : List DOp := r149_6U ()
noncomputable def r149_7U (_ : Unit) : List COp := [⟨fun a σ => .val (a.get 6) σ, (some 42), fun _ => some true⟩,
  ⟨fun a σ => i_gtr Tryz.prog 3 (.tmp 42) (.const (.int .i64 1)) (a.get 42) (.int .i64 1) σ, (some 43), fun _ => some true⟩]
noncomputable def r149_7 : List COp := r149_7U ()
noncomputable def r149_8U (_ : Unit) : List COp := [⟨fun a σ => .val (a.get 5) σ, (some 44), fun _ => some true⟩,
  ⟨fun a σ => .val (a.get 6) σ, (some 45), fun _ => some true⟩,
  ⟨fun a σ => i_sub Tryz.prog 3 (.tmp 45) (.const (.int .i64 2)) (a.get 45) (.int .i64 2) σ, (some 46), fun _ => some true⟩,
  ⟨fun a σ => findex (none, 1) (a.get 44) (a.get 46) σ, (some 47), fun _ => some true⟩,
  ⟨fun a σ => fload none (a.get 47) σ, (some 48), fun _ => some true⟩,
  ⟨fun a σ => i_add Tryz.prog 3 (.tmp 48) (.const (.int .i64 1)) (a.get 48) (.int .i64 1) σ, (some 49), fun _ => some true⟩,
  ⟨fun a σ => findex (none, 1) (a.get 44) (a.get 46) σ, (some 50), fun _ => some true⟩,
  ⟨fun a σ => fstore 1 (a.get 50) (a.get 49) σ, none, fun _ => some true⟩]
noncomputable def r149_8 : List COp := r149_8U ()
noncomputable def r149_9U (_ : Unit) : List DOp := [⟨fun a σ => .val (a.get 4) σ, (some 51), fun _ => some true, (some 0), false⟩,
  ⟨fun a σ => .val (a.get 6) σ, (some 52), fun _ => some true, (some 0), false⟩,
  ⟨fun a σ => i_sub Tryz.prog 3 (.tmp 52) (.const (.int .i64 1)) (a.get 52) (.int .i64 1) σ, (some 53), fun _ => some true, (some 0), false⟩,
  ⟨fun a σ => findex (none, 1) (a.get 51) (a.get 53) σ, (some 54), fun _ => some true, (some 0), false⟩,
  ⟨fun a σ => fload none (a.get 54) σ, (some 55), fun _ => some true, (some 0), false⟩,
  ⟨fun a σ => .val (a.get 5) σ, (some 56), fun _ => some true, (some 0), false⟩,
  ⟨fun a σ => .val (a.get 6) σ, (some 57), fun _ => some true, (some 0), false⟩,
  ⟨fun a σ => i_sub Tryz.prog 3 (.tmp 57) (.const (.int .i64 1)) (a.get 57) (.int .i64 1) σ, (some 58), fun _ => some true, (some 0), false⟩,
  ⟨fun a σ => findex (none, 1) (a.get 56) (a.get 58) σ, (some 59), fun _ => some true, (some 0), false⟩,
  ⟨fun a σ => fload none (a.get 59) σ, (some 60), fun _ => some true, (some 0), false⟩,
  ⟨fun a σ => findex (none, 4) (a.get 55) (a.get 60) σ, (some 61), fun _ => some true, (some 0), false⟩,
  ⟨fun a σ => fload (some 4) (a.get 61) σ, (some 62), fun _ => some true, (some 0), false⟩,
  ⟨fun a σ => newCells [(.int .i64 0), (.int .i64 0), (.string ⟨#[]⟩), (.slice none 0 0)] 24 none σ, (some 7), fun _ => some true, (some 0), false⟩,
  ⟨fun a σ => fstore 4 (a.get 7) (a.get 62) σ, none, fun _ => some true, none, true⟩]
noncomputable def r149_9 : List DOp := r149_9U ()
noncomputable def r149_10U (_ : Unit) : List DOp := [⟨fun a σ => .val (a.get 0) σ, (some 63), fun _ => some true, (some 0), false⟩,
  ⟨fun a σ => .val (a.get 5) σ, (some 64), fun _ => some true, (some 0), false⟩,
  ⟨fun a σ => .val (a.get 6) σ, (some 65), fun _ => some true, (some 0), false⟩,
  ⟨fun a σ => .val (a.get 6) σ, (some 66), fun _ => some true, (some 0), false⟩,
  ⟨fun a σ => fslice Tryz.prog 25 (a.get 64) none (some (a.get 65)) (some (a.get 66)) σ, (some 67), fun _ => some true, (some 0), false⟩,
  ⟨fun a σ => fload (some 4) (a.get 7) σ, (some 68), fun _ => some true, (some 0), false⟩,
  ⟨fun a σ => fcallV (a.get 63) [(a.get 67), (a.get 68)] σ, (some 69), fun _ => some true, none, true⟩,
  ⟨fun a σ => fun1 Tryz.prog (Op.unary .not) (a.get 69) σ, (some 70), fun _ => some true, (some 1), false⟩]
noncomputable def r149_10 : List DOp := r149_10U ()
noncomputable def r149_11U (_ : Unit) : List COp := [⟨fun a σ => .val (a.get 4) σ, (some 71), fun _ => some true⟩,
  ⟨fun a σ => fload (some 1) (a.get 2) σ, (some 72), fun _ => some true⟩,
  ⟨fun a σ => fload (some 4) (a.get 7) σ, (some 73), fun _ => some true⟩,
  ⟨fun a σ => .enter 150 [(a.get 72), (a.get 73)] σ, (some 74), fun _ => some true⟩,
  ⟨fun a σ => fbuildSlice 22 1 1 [(.slice none 0 0)] [(0, (a.get 74))] σ, (some 75), fun _ => some true⟩,
  ⟨fun a σ => fappend 22 1 24 (a.get 71) (a.get 75) σ, (some 76), fun _ => some true⟩,
  ⟨fun a σ => .val (a.get 76) σ, (some 4), fun _ => some true⟩]
noncomputable def r149_11 : List COp := r149_11U ()
noncomputable def r149_12U (_ : Unit) : List COp := [⟨fun a σ => .val (a.get 5) σ, (some 77), fun _ => some true⟩,
  ⟨fun a σ => fbuildSlice 3 1 1 [(.int .i64 0)] [(0, (.int .i64 0))] σ, (some 78), fun _ => some true⟩,
  ⟨fun a σ => fappend 3 1 8 (a.get 77) (a.get 78) σ, (some 79), fun _ => some true⟩,
  ⟨fun a σ => .val (a.get 79) σ, (some 5), fun _ => some true⟩]
noncomputable def r149_12 : List COp := r149_12U ()
noncomputable def l149_0 (E : Env) (ro : Option Nat) (fn : FuncId) : RunF := (seqR (seqR (fops E ro r149_3) (condR (fun a => (a.get 19)) skipR (exitR 0))) (blockR 1 (seqR (fops E ro r149_4) (seqR (seqR (drawR E ro r149_5) (condR (fun a => (a.get 33)) (seqR (drawR E ro r149_6) (seqR (seqR (fops E ro r149_7) (condR (fun a => (a.get 43)) (fops E ro r149_8) skipR)) (exitR 1))) skipR)) (seqR (drawR E ro r149_9) (seqR (seqR (drawR E ro r149_10) (condR (fun a => (a.get 70)) retR skipR)) (seqR (fops E ro r149_11) (fops E ro r149_12))))))))
noncomputable def run149 (E : Env) (ro : Option Nat) (fn : FuncId) : RunF := (seqR (seqR (fops E ro r149_0) (condR (fun a => (a.get 11)) retR skipR)) (seqR (fops E ro r149_1) (seqR (fops E ro r149_2) (blockR 0 (loopR (keepOf nls fn) (l149_0 E ro fn))))))
theorem r149_0_go : fops E ro r149_0 a u σ = fops E ro (r149_0U ()) a u σ := rfl
theorem r149_1_go : fops E ro r149_1 a u σ = fops E ro (r149_1U ()) a u σ := rfl
theorem r149_2_go : fops E ro r149_2 a u σ = fops E ro (r149_2U ()) a u σ := rfl
theorem r149_3_go : fops E ro r149_3 a u σ = fops E ro (r149_3U ()) a u σ := rfl
theorem r149_4_go : fops E ro r149_4 a u σ = fops E ro (r149_4U ()) a u σ := rfl
theorem r149_5_go : fdraw E ro last r149_5 cl a u σ = fdraw E ro last (r149_5U ()) cl a u σ := rfl
theorem r149_6_go : fdraw E ro last r149_6 cl a u σ = fdraw E ro last (r149_6U ()) cl a u σ := rfl
theorem r149_7_go : fops E ro r149_7 a u σ = fops E ro (r149_7U ()) a u σ := rfl
theorem r149_8_go : fops E ro r149_8 a u σ = fops E ro (r149_8U ()) a u σ := rfl
theorem r149_9_go : fdraw E ro last r149_9 cl a u σ = fdraw E ro last (r149_9U ()) cl a u σ := rfl
theorem r149_10_go : fdraw E ro last r149_10 cl a u σ = fdraw E ro last (r149_10U ()) cl a u σ := rfl
theorem r149_11_go : fops E ro r149_11 a u σ = fops E ro (r149_11U ()) a u σ := rfl
theorem r149_12_go : fops E ro r149_12 a u σ = fops E ro (r149_12U ()) a u σ := rfl
theorem code149 (E : Env) (ro : Option Nat) (fn : FuncId) : code Tryz.prog nls (Tryz.f149.body.getD .skip) E ro fn = run149 E ro fn := by kernel_rfl
theorem enter149 (E : Env) (args : List Value) (u : Option FrameMode) (σ : FState) (hn : args.length ≤ (8 : Nat)) : fcall Tryz.prog nls E 149 args u σ = leaveR Tryz.prog E [] (run149 E none 149 ⟨padTo undef 8 args, fun _ => undef, 8, 80, []⟩ u σ) := by
  rw [fcall_of (body := Tryz.f149.body.getD .skip) Tryz.func149 rfl E args u σ 8 80 (by kernel_rfl) rfl ⟨hn, by decide⟩, code149]
  rfl
/-! (caracole/datum.walker).inside -/
noncomputable def r150_0U (_ : Unit) : List COp := [⟨fun a σ => fbox 141 (a.get 0) σ, (some 2), fun _ => some true⟩,
  ⟨fun a σ => fbox 24 (a.get 1) σ, (some 3), fun _ => some true⟩,
  ⟨fun a σ => .val (.slice none 0 0) σ, (some 4), fun _ => some true⟩]
noncomputable def r150_0 : List COp := r150_0U ()
noncomputable def r150_1U (_ : Unit) : List COp := [⟨fun a σ => ffield 0 (a.get 2) σ, (some 5), fun _ => some true⟩,
  ⟨fun a σ => fload none (a.get 5) σ, (some 6), fun _ => some true⟩,
  ⟨fun a σ => ffield 3 (a.get 3) σ, (some 7), fun _ => some true⟩,
  ⟨fun a σ => fload none (a.get 7) σ, (some 8), fun _ => some true⟩,
  ⟨fun a σ => fcallV (a.get 6) [(a.get 8)] σ, (some 9), fun _ => some true⟩,
  ⟨fun a σ => fun1 Tryz.prog (Op.unary .not) (a.get 9) σ, (some 10), fun _ => some true⟩]
noncomputable def r150_1 : List COp := r150_1U ()
noncomputable def r150_2U (_ : Unit) : List COp := [⟨fun a σ => .val (.slice none 0 0) σ, (some 4), fun _ => some true⟩]
noncomputable def r150_2 : List COp := r150_2U ()
noncomputable def r150_3U (_ : Unit) : List COp := [⟨fun a σ => ffield 3 (a.get 3) σ, (some 11), fun _ => some true⟩,
  ⟨fun a σ => fload none (a.get 11) σ, (some 12), fun _ => some true⟩,
  ⟨fun a σ => .val (a.get 12) σ, (some 4), fun _ => some true⟩]
noncomputable def r150_3 : List COp := r150_3U ()
noncomputable def run150 (E : Env) (ro : Option Nat) (fn : FuncId) : RunF := (seqR (fops E ro r150_0) (seqR (seqR (fops E ro r150_1) (condR (fun a => (a.get 10)) (seqR (fops E ro r150_2) retR) skipR)) (seqR (fops E ro r150_3) retR)))
theorem r150_0_go : fops E ro r150_0 a u σ = fops E ro (r150_0U ()) a u σ := rfl
theorem r150_1_go : fops E ro r150_1 a u σ = fops E ro (r150_1U ()) a u σ := rfl
theorem r150_3_go : fops E ro r150_3 a u σ = fops E ro (r150_3U ()) a u σ := rfl
theorem code150 (E : Env) (ro : Option Nat) (fn : FuncId) : code Tryz.prog nls (Tryz.f150.body.getD .skip) E ro fn = run150 E ro fn := by kernel_rfl
theorem enter150 (E : Env) (args : List Value) (u : Option FrameMode) (σ : FState) (hn : args.length ≤ (4 : Nat)) : fcall Tryz.prog nls E 150 args u σ = leaveR Tryz.prog E [.tmp 4] (run150 E none 150 ⟨padTo undef 4 args, fun _ => undef, 4, 13, []⟩ u σ) := by
  rw [fcall_of (body := Tryz.f150.body.getD .skip) Tryz.func150 rfl E args u σ 4 13 (by kernel_rfl) rfl ⟨hn, by decide⟩, code150]
  rfl
/-! caracole/datum.inspect -/
noncomputable def r122_0U (_ : Unit) : List COp := [⟨fun a σ => fbox 24 (a.get 0) σ, (some 1), fun _ => some true⟩]
noncomputable def r122_0 : List COp := r122_0U ()
noncomputable def r122_1U (_ : Unit) : List COp := [⟨fun a σ => fload (some 4) (a.get 1) σ, (some 5), fun _ => some true⟩,
  ⟨fun a σ => .enter 127 [(a.get 5)] σ, (some 6), fun _ => some true⟩,
  ⟨fun a σ => .val (a.get 6) σ, (some 2), fun _ => some true⟩]
noncomputable def r122_1 : List COp := r122_1U ()
noncomputable def r122_2U (_ : Unit) : List COp := [⟨fun a σ => .val (a.get 2) σ, (some 7), fun _ => some true⟩,
  ⟨fun a σ => finvoke Tryz.prog (a.get 7) "caracole/datum.formed" [] σ, (some 8), fun _ => some true⟩,
  ⟨fun a σ => fun1 Tryz.prog (Op.unary .not) (a.get 8) σ, (some 9), fun _ => some true⟩]
noncomputable def r122_2 : List COp := r122_2U ()
noncomputable def r122_3U (_ : Unit) : List COp := [⟨fun a σ => .enter 136 [(.int .i64 1)] σ, (some 10), fun _ => some true⟩]
noncomputable def r122_3 : List COp := r122_3U ()
noncomputable def r122_4U (_ : Unit) : List COp := [⟨fun a σ => .val (a.get 2) σ, (some 11), fun _ => some true⟩]
noncomputable def r122_4 : List COp := r122_4U ()
noncomputable def r122_5U (_ : Unit) : List COp := [⟨fun a σ => fassert Tryz.prog (a.get 11) 184 true σ, (some 12), fun _ => some true⟩,
  ⟨fun a σ => fextract 1 (a.get 12) σ, (some 13), fun _ => some true⟩,
  ⟨fun a σ => fextract 0 (a.get 12) σ, (some 14), fun _ => some true⟩]
noncomputable def r122_5 : List COp := r122_5U ()
noncomputable def r122_6U (_ : Unit) : List COp := [⟨fun a σ => newCells [(.int .i64 0), (.int .i64 0), (.string ⟨#[]⟩), (.slice none 0 0)] 184 none σ, (some 3), fun _ => some true⟩,
  ⟨fun a σ => fstore 4 (a.get 3) (a.get 14) σ, none, fun _ => some true⟩]
noncomputable def r122_6 : List COp := r122_6U ()
noncomputable def r122_7U (_ : Unit) : List COp := [⟨fun a σ => fload (some 4) (a.get 3) σ, (some 15), fun _ => some true⟩,
  ⟨fun a σ => .enter 151 [(a.get 15)] σ, (some 16), fun _ => some true⟩]
noncomputable def r122_7 : List COp := r122_7U ()
noncomputable def r122_8U (_ : Unit) : List COp := [⟨fun a σ => fassert Tryz.prog (a.get 11) 151 true σ, (some 17), fun _ => some true⟩,
  ⟨fun a σ => fextract 1 (a.get 17) σ, (some 18), fun _ => some true⟩,
  ⟨fun a σ => fextract 0 (a.get 17) σ, (some 19), fun _ => some true⟩]
noncomputable def r122_8 : List COp := r122_8U ()
noncomputable def r122_9U (_ : Unit) : List COp := [⟨fun a σ => newCells [(.int .i64 0), (.int .i64 0), (.string ⟨#[]⟩), (.slice none 0 0)] 151 none σ, (some 4), fun _ => some true⟩,
  ⟨fun a σ => fstore 4 (a.get 4) (a.get 19) σ, none, fun _ => some true⟩]
noncomputable def r122_9 : List COp := r122_9U ()
noncomputable def r122_10U (_ : Unit) : List COp := [⟨fun a σ => fload (some 4) (a.get 4) σ, (some 20), fun _ => some true⟩,
  ⟨fun a σ => .enter 152 [(a.get 20)] σ, (some 21), fun _ => some true⟩]
noncomputable def r122_10 : List COp := r122_10U ()
noncomputable def run122 (E : Env) (ro : Option Nat) (fn : FuncId) : RunF := (seqR (fops E ro r122_0) (seqR (fops E ro r122_1) (seqR (seqR (fops E ro r122_2) (condR (fun a => (a.get 9)) (fops E ro r122_3) skipR)) (seqR (fops E ro r122_4) (blockR 0 (seqR (fops E ro r122_5) (condR (fun a => (a.get 13)) (seqR (fops E ro r122_6) (fops E ro r122_7)) (seqR (fops E ro r122_8) (condR (fun a => (a.get 18)) (seqR (fops E ro r122_9) (fops E ro r122_10)) skipR)))))))))
theorem r122_0_go : fops E ro r122_0 a u σ = fops E ro (r122_0U ()) a u σ := rfl
theorem r122_1_go : fops E ro r122_1 a u σ = fops E ro (r122_1U ()) a u σ := rfl
theorem r122_2_go : fops E ro r122_2 a u σ = fops E ro (r122_2U ()) a u σ := rfl
theorem r122_4_go : fops E ro r122_4 a u σ = fops E ro (r122_4U ()) a u σ := rfl
theorem r122_5_go : fops E ro r122_5 a u σ = fops E ro (r122_5U ()) a u σ := rfl
theorem r122_6_go : fops E ro r122_6 a u σ = fops E ro (r122_6U ()) a u σ := rfl
theorem r122_7_go : fops E ro r122_7 a u σ = fops E ro (r122_7U ()) a u σ := rfl
theorem r122_8_go : fops E ro r122_8 a u σ = fops E ro (r122_8U ()) a u σ := rfl
theorem r122_9_go : fops E ro r122_9 a u σ = fops E ro (r122_9U ()) a u σ := rfl
theorem r122_10_go : fops E ro r122_10 a u σ = fops E ro (r122_10U ()) a u σ := rfl
theorem code122 (E : Env) (ro : Option Nat) (fn : FuncId) : code Tryz.prog nls (Tryz.f122.body.getD .skip) E ro fn = run122 E ro fn := by kernel_rfl
theorem enter122 (E : Env) (args : List Value) (u : Option FrameMode) (σ : FState) (hn : args.length ≤ (5 : Nat)) : fcall Tryz.prog nls E 122 args u σ = leaveR Tryz.prog E [] (run122 E none 122 ⟨padTo undef 5 args, fun _ => undef, 5, 22, []⟩ u σ) := by
  rw [fcall_of (body := Tryz.f122.body.getD .skip) Tryz.func122 rfl E args u σ 5 22 (by kernel_rfl) rfl ⟨hn, by decide⟩, code122]
  rfl
/-! caracole/datum.atWork -/
noncomputable def r127_0U (_ : Unit) : List COp := [⟨fun a σ => fbox 24 (a.get 0) σ, (some 1), fun _ => some true⟩,
  ⟨fun a σ => .val .nilIface σ, (some 2), fun _ => some true⟩]
noncomputable def r127_0 : List COp := r127_0U ()
noncomputable def r127_1U (_ : Unit) : List COp := [⟨fun a σ => ffield 0 (a.get 1) σ, (some 3), fun _ => some true⟩,
  ⟨fun a σ => fload none (a.get 3) σ, (some 4), fun _ => some true⟩]
noncomputable def r127_1 : List COp := r127_1U ()
noncomputable def r127_2U (_ : Unit) : List COp := [⟨fun a σ => i_eql Tryz.prog 3 (.tmp 4) (.const (.int .i64 0)) (a.get 4) (.int .i64 0) σ, (some 6), fun _ => some true⟩,
  ⟨fun a σ => .val (a.get 6) σ, (some 5), fun _ => some true⟩]
noncomputable def r127_2 : List COp := r127_2U ()
noncomputable def r127_3U (_ : Unit) : List COp := [⟨fun a σ => fload (some 4) (a.get 1) σ, (some 7), fun _ => some true⟩,
  ⟨fun a σ => fbuild (fun i => nth [(0, 4)] i) [(.int .i64 0), (.int .i64 0), (.string ⟨#[]⟩), (.slice none 0 0)] [(0, (a.get 7))] σ, (some 8), fun _ => some true⟩,
  ⟨fun a σ => .val (.iface 187 (a.get 8)) σ, (some 9), fun _ => some true⟩,
  ⟨fun a σ => .val (a.get 9) σ, (some 2), fun _ => some true⟩]
noncomputable def r127_3 : List COp := r127_3U ()
noncomputable def r127_4U (_ : Unit) : List COp := [⟨fun a σ => i_eql Tryz.prog 3 (.tmp 4) (.const (.int .i64 1)) (a.get 4) (.int .i64 1) σ, (some 11), fun _ => some true⟩,
  ⟨fun a σ => .val (a.get 11) σ, (some 10), fun _ => some true⟩]
noncomputable def r127_4 : List COp := r127_4U ()
noncomputable def r127_5U (_ : Unit) : List COp := [⟨fun a σ => i_eql Tryz.prog 3 (.tmp 4) (.const (.int .i64 2)) (a.get 4) (.int .i64 2) σ, (some 12), fun _ => some true⟩,
  ⟨fun a σ => .val (a.get 12) σ, (some 10), fun _ => some true⟩]
noncomputable def r127_5 : List COp := r127_5U ()
noncomputable def r127_6U (_ : Unit) : List COp := [⟨fun a σ => fload (some 4) (a.get 1) σ, (some 13), fun _ => some true⟩,
  ⟨fun a σ => fbuild (fun i => nth [(0, 4)] i) [(.int .i64 0), (.int .i64 0), (.string ⟨#[]⟩), (.slice none 0 0)] [(0, (a.get 13))] σ, (some 14), fun _ => some true⟩,
  ⟨fun a σ => .val (.iface 184 (a.get 14)) σ, (some 15), fun _ => some true⟩,
  ⟨fun a σ => .val (a.get 15) σ, (some 2), fun _ => some true⟩]
noncomputable def r127_6 : List COp := r127_6U ()
noncomputable def r127_7U (_ : Unit) : List COp := [⟨fun a σ => i_eql Tryz.prog 3 (.tmp 4) (.const (.int .i64 3)) (a.get 4) (.int .i64 3) σ, (some 17), fun _ => some true⟩,
  ⟨fun a σ => .val (a.get 17) σ, (some 16), fun _ => some true⟩]
noncomputable def r127_7 : List COp := r127_7U ()
noncomputable def r127_8U (_ : Unit) : List COp := [⟨fun a σ => i_eql Tryz.prog 3 (.tmp 4) (.const (.int .i64 4)) (a.get 4) (.int .i64 4) σ, (some 18), fun _ => some true⟩,
  ⟨fun a σ => .val (a.get 18) σ, (some 16), fun _ => some true⟩]
noncomputable def r127_8 : List COp := r127_8U ()
noncomputable def r127_9U (_ : Unit) : List COp := [⟨fun a σ => fload (some 4) (a.get 1) σ, (some 19), fun _ => some true⟩,
  ⟨fun a σ => fbuild (fun i => nth [(0, 4)] i) [(.int .i64 0), (.int .i64 0), (.string ⟨#[]⟩), (.slice none 0 0)] [(0, (a.get 19))] σ, (some 20), fun _ => some true⟩,
  ⟨fun a σ => .val (.iface 151 (a.get 20)) σ, (some 21), fun _ => some true⟩,
  ⟨fun a σ => .val (a.get 21) σ, (some 2), fun _ => some true⟩]
noncomputable def r127_9 : List COp := r127_9U ()
noncomputable def r127_10U (_ : Unit) : List COp := [⟨fun a σ => i_eql Tryz.prog 3 (.tmp 4) (.const (.int .i64 5)) (a.get 4) (.int .i64 5) σ, (some 23), fun _ => some true⟩,
  ⟨fun a σ => .val (a.get 23) σ, (some 22), fun _ => some true⟩]
noncomputable def r127_10 : List COp := r127_10U ()
noncomputable def r127_11U (_ : Unit) : List COp := [⟨fun a σ => i_eql Tryz.prog 3 (.tmp 4) (.const (.int .i64 6)) (a.get 4) (.int .i64 6) σ, (some 24), fun _ => some true⟩,
  ⟨fun a σ => .val (a.get 24) σ, (some 22), fun _ => some true⟩]
noncomputable def r127_11 : List COp := r127_11U ()
noncomputable def r127_12U (_ : Unit) : List COp := [⟨fun a σ => fload (some 4) (a.get 1) σ, (some 25), fun _ => some true⟩,
  ⟨fun a σ => fbuild (fun i => nth [(0, 4)] i) [(.int .i64 0), (.int .i64 0), (.string ⟨#[]⟩), (.slice none 0 0)] [(0, (a.get 25))] σ, (some 26), fun _ => some true⟩,
  ⟨fun a σ => .val (.iface 188 (a.get 26)) σ, (some 27), fun _ => some true⟩,
  ⟨fun a σ => .val (a.get 27) σ, (some 2), fun _ => some true⟩]
noncomputable def r127_12 : List COp := r127_12U ()
noncomputable def r127_13U (_ : Unit) : List COp := [⟨fun a σ => .enter 136 [(.int .i64 4)] σ, (some 28), fun _ => some true⟩]
noncomputable def r127_13 : List COp := r127_13U ()
noncomputable def r127_14U (_ : Unit) : List COp := [⟨fun a σ => .val .nilIface σ, (some 2), fun _ => some true⟩]
noncomputable def r127_14 : List COp := r127_14U ()
noncomputable def run127 (E : Env) (ro : Option Nat) (fn : FuncId) : RunF := (seqR (fops E ro r127_0) (seqR (seqR (fops E ro r127_1) (blockR 0 (seqR (fops E ro r127_2) (condR (fun a => (a.get 5)) (seqR (fops E ro r127_3) retR) (seqR (seqR (fops E ro r127_4) (condR (fun a => (a.get 10)) skipR (fops E ro r127_5))) (condR (fun a => (a.get 10)) (seqR (fops E ro r127_6) retR) (seqR (seqR (fops E ro r127_7) (condR (fun a => (a.get 16)) skipR (fops E ro r127_8))) (condR (fun a => (a.get 16)) (seqR (fops E ro r127_9) retR) (seqR (seqR (fops E ro r127_10) (condR (fun a => (a.get 22)) skipR (fops E ro r127_11))) (condR (fun a => (a.get 22)) (seqR (fops E ro r127_12) retR) skipR)))))))))) (seqR (fops E ro r127_13) (seqR (fops E ro r127_14) retR))))
theorem r127_0_go : fops E ro r127_0 a u σ = fops E ro (r127_0U ()) a u σ := rfl
theorem r127_1_go : fops E ro r127_1 a u σ = fops E ro (r127_1U ()) a u σ := rfl
theorem r127_2_go : fops E ro r127_2 a u σ = fops E ro (r127_2U ()) a u σ := rfl
theorem r127_3_go : fops E ro r127_3 a u σ = fops E ro (r127_3U ()) a u σ := rfl
theorem r127_4_go : fops E ro r127_4 a u σ = fops E ro (r127_4U ()) a u σ := rfl
theorem r127_5_go : fops E ro r127_5 a u σ = fops E ro (r127_5U ()) a u σ := rfl
theorem r127_6_go : fops E ro r127_6 a u σ = fops E ro (r127_6U ()) a u σ := rfl
theorem r127_7_go : fops E ro r127_7 a u σ = fops E ro (r127_7U ()) a u σ := rfl
theorem r127_8_go : fops E ro r127_8 a u σ = fops E ro (r127_8U ()) a u σ := rfl
theorem r127_9_go : fops E ro r127_9 a u σ = fops E ro (r127_9U ()) a u σ := rfl
theorem r127_10_go : fops E ro r127_10 a u σ = fops E ro (r127_10U ()) a u σ := rfl
theorem r127_11_go : fops E ro r127_11 a u σ = fops E ro (r127_11U ()) a u σ := rfl
theorem r127_12_go : fops E ro r127_12 a u σ = fops E ro (r127_12U ()) a u σ := rfl
theorem code127 (E : Env) (ro : Option Nat) (fn : FuncId) : code Tryz.prog nls (Tryz.f127.body.getD .skip) E ro fn = run127 E ro fn := by kernel_rfl
theorem enter127 (E : Env) (args : List Value) (u : Option FrameMode) (σ : FState) (hn : args.length ≤ (2 : Nat)) : fcall Tryz.prog nls E 127 args u σ = leaveR Tryz.prog E [.tmp 2] (run127 E none 127 ⟨padTo undef 2 args, fun _ => undef, 2, 29, []⟩ u σ) := by
  rw [fcall_of (body := Tryz.f127.body.getD .skip) Tryz.func127 rfl E args u σ 2 29 (by kernel_rfl) rfl ⟨hn, by decide⟩, code127]
  rfl
/-! caracole/datum.walk -/
/-! caracole/datum.walk$1 -/
/-! (caracole/datum.number).inspectNum -/
noncomputable def r151_0U (_ : Unit) : List COp := [⟨fun a σ => fbox 184 (a.get 0) σ, (some 1), fun _ => some true⟩]
noncomputable def r151_0 : List COp := r151_0U ()
noncomputable def r151_1U (_ : Unit) : List COp := [⟨fun a σ => .val (.int .i64 (-999999999)) σ, (some 2), fun _ => some true⟩,
  ⟨fun a σ => .val (.int .i64 999999999) σ, (some 3), fun _ => some true⟩]
noncomputable def r151_1 : List COp := r151_1U ()
noncomputable def r151_2U (_ : Unit) : List COp := [⟨fun a σ => ffield 0 (a.get 1) σ, (some 4), fun _ => some true⟩,
  ⟨fun a σ => ffield 0 (a.get 4) σ, (some 5), fun _ => some true⟩,
  ⟨fun a σ => fload none (a.get 5) σ, (some 6), fun _ => some true⟩,
  ⟨fun a σ => i_eql Tryz.prog 3 (.tmp 6) (.const (.int .i64 1)) (a.get 6) (.int .i64 1) σ, (some 7), fun _ => some true⟩]
noncomputable def r151_2 : List COp := r151_2U ()
noncomputable def r151_3U (_ : Unit) : List COp := [⟨fun a σ => .val (.int .i64 0) σ, (some 2), fun _ => some true⟩,
  ⟨fun a σ => .val (.int .i64 1) σ, (some 3), fun _ => some true⟩]
noncomputable def r151_3 : List COp := r151_3U ()
noncomputable def r151_4U (_ : Unit) : List COp := [⟨fun a σ => ffield 0 (a.get 1) σ, (some 8), fun _ => some true⟩,
  ⟨fun a σ => ffield 1 (a.get 8) σ, (some 9), fun _ => some true⟩,
  ⟨fun a σ => fload none (a.get 9) σ, (some 10), fun _ => some true⟩,
  ⟨fun a σ => .val (a.get 2) σ, (some 11), fun _ => some true⟩,
  ⟨fun a σ => i_lss Tryz.prog 3 (.tmp 10) (.tmp 11) (a.get 10) (a.get 11) σ, (some 12), fun _ => some true⟩,
  ⟨fun a σ => .val (a.get 12) σ, (some 13), fun _ => some true⟩,
  ⟨fun a σ => ffield 0 (a.get 1) σ, (some 14), fun a => gd (a.get 13) false⟩,
  ⟨fun a σ => ffield 1 (a.get 14) σ, (some 15), fun a => gd (a.get 13) false⟩,
  ⟨fun a σ => fload none (a.get 15) σ, (some 16), fun a => gd (a.get 13) false⟩,
  ⟨fun a σ => .val (a.get 3) σ, (some 17), fun a => gd (a.get 13) false⟩,
  ⟨fun a σ => i_gtr Tryz.prog 3 (.tmp 16) (.tmp 17) (a.get 16) (a.get 17) σ, (some 18), fun a => gd (a.get 13) false⟩,
  ⟨fun a σ => fpick (a.get 13) (.bool true) (a.get 18) σ, (some 19), fun _ => some true⟩]
noncomputable def r151_4 : List COp := r151_4U ()
noncomputable def r151_5U (_ : Unit) : List COp := [⟨fun a σ => .enter 136 [(.int .i64 13)] σ, (some 20), fun _ => some true⟩]
noncomputable def r151_5 : List COp := r151_5U ()
noncomputable def run151 (E : Env) (ro : Option Nat) (fn : FuncId) : RunF := (seqR (fops E ro r151_0) (seqR (fops E ro r151_1) (seqR (seqR (fops E ro r151_2) (condR (fun a => (a.get 7)) (fops E ro r151_3) skipR)) (seqR (fops E ro r151_4) (condR (fun a => (a.get 19)) (fops E ro r151_5) skipR)))))
theorem r151_0_go : fops E ro r151_0 a u σ = fops E ro (r151_0U ()) a u σ := rfl
theorem r151_1_go : fops E ro r151_1 a u σ = fops E ro (r151_1U ()) a u σ := rfl
theorem r151_2_go : fops E ro r151_2 a u σ = fops E ro (r151_2U ()) a u σ := rfl
theorem r151_3_go : fops E ro r151_3 a u σ = fops E ro (r151_3U ()) a u σ := rfl
theorem r151_4_go : fops E ro r151_4 a u σ = fops E ro (r151_4U ()) a u σ := rfl
theorem code151 (E : Env) (ro : Option Nat) (fn : FuncId) : code Tryz.prog nls (Tryz.f151.body.getD .skip) E ro fn = run151 E ro fn := by kernel_rfl
theorem enter151 (E : Env) (args : List Value) (u : Option FrameMode) (σ : FState) (hn : args.length ≤ (4 : Nat)) : fcall Tryz.prog nls E 151 args u σ = leaveR Tryz.prog E [] (run151 E none 151 ⟨padTo undef 4 args, fun _ => undef, 4, 21, []⟩ u σ) := by
  rw [fcall_of (body := Tryz.f151.body.getD .skip) Tryz.func151 rfl E args u σ 4 21 (by kernel_rfl) rfl ⟨hn, by decide⟩, code151]
  rfl
/-! (caracole/datum.text).inspectText -/
noncomputable def r152_0U (_ : Unit) : List COp := [⟨fun a σ => fbox 151 (a.get 0) σ, (some 1), fun _ => some true⟩]
noncomputable def r152_0 : List COp := r152_0U ()
noncomputable def r152_1U (_ : Unit) : List COp := [⟨fun a σ => ffield 0 (a.get 1) σ, (some 3), fun _ => some true⟩,
  ⟨fun a σ => ffield 0 (a.get 3) σ, (some 4), fun _ => some true⟩,
  ⟨fun a σ => fload none (a.get 4) σ, (some 5), fun _ => some true⟩,
  ⟨fun a σ => i_eql Tryz.prog 3 (.tmp 5) (.const (.int .i64 3)) (a.get 5) (.int .i64 3) σ, (some 6), fun _ => some true⟩,
  ⟨fun a σ => .val (a.get 6) σ, (some 7), fun _ => some true⟩,
  ⟨fun a σ => ffield 0 (a.get 1) σ, (some 8), fun a => gd (a.get 7) true⟩,
  ⟨fun a σ => ffield 2 (a.get 8) σ, (some 9), fun a => gd (a.get 7) true⟩,
  ⟨fun a σ => fload none (a.get 9) σ, (some 10), fun a => gd (a.get 7) true⟩,
  ⟨fun a σ => .enter 170 [(a.get 10)] σ, (some 11), fun a => gd (a.get 7) true⟩,
  ⟨fun a σ => fun1 Tryz.prog (Op.unary .not) (a.get 11) σ, (some 12), fun a => gd (a.get 7) true⟩,
  ⟨fun a σ => fpick (a.get 7) (a.get 12) (.bool false) σ, (some 13), fun _ => some true⟩,
  ⟨fun a σ => .val (a.get 13) σ, (some 2), fun _ => some true⟩]
noncomputable def r152_1 : List COp := r152_1U ()
noncomputable def r152_2U (_ : Unit) : List COp := [⟨fun a σ => .enter 136 [(.int .i64 2)] σ, (some 14), fun _ => some true⟩]
noncomputable def r152_2 : List COp := r152_2U ()
noncomputable def r152_3U (_ : Unit) : List COp := [⟨fun a σ => ffield 0 (a.get 1) σ, (some 16), fun _ => some true⟩,
  ⟨fun a σ => ffield 0 (a.get 16) σ, (some 17), fun _ => some true⟩,
  ⟨fun a σ => fload none (a.get 17) σ, (some 18), fun _ => some true⟩,
  ⟨fun a σ => i_eql Tryz.prog 3 (.tmp 18) (.const (.int .i64 4)) (a.get 18) (.int .i64 4) σ, (some 19), fun _ => some true⟩,
  ⟨fun a σ => .val (a.get 19) σ, (some 20), fun _ => some true⟩,
  ⟨fun a σ => ffield 0 (a.get 1) σ, (some 21), fun a => gd (a.get 20) true⟩,
  ⟨fun a σ => ffield 2 (a.get 21) σ, (some 22), fun a => gd (a.get 20) true⟩,
  ⟨fun a σ => fload none (a.get 22) σ, (some 23), fun a => gd (a.get 20) true⟩,
  ⟨fun a σ => flenS (a.get 23) σ, (some 24), fun a => gd (a.get 20) true⟩,
  ⟨fun a σ => i_gtr Tryz.prog 3 (.tmp 24) (.const (.int .i64 60)) (a.get 24) (.int .i64 60) σ, (some 25), fun a => gd (a.get 20) true⟩,
  ⟨fun a σ => fpick (a.get 20) (a.get 25) (.bool false) σ, (some 26), fun _ => some true⟩,
  ⟨fun a σ => .val (a.get 26) σ, (some 15), fun _ => some true⟩]
noncomputable def r152_3 : List COp := r152_3U ()
noncomputable def r152_4U (_ : Unit) : List COp := [⟨fun a σ => .enter 136 [(.int .i64 8)] σ, (some 27), fun _ => some true⟩]
noncomputable def r152_4 : List COp := r152_4U ()
noncomputable def r152_5U (_ : Unit) : List COp := [⟨fun a σ => ffield 0 (a.get 1) σ, (some 29), fun _ => some true⟩,
  ⟨fun a σ => ffield 0 (a.get 29) σ, (some 30), fun _ => some true⟩,
  ⟨fun a σ => fload none (a.get 30) σ, (some 31), fun _ => some true⟩,
  ⟨fun a σ => i_eql Tryz.prog 3 (.tmp 31) (.const (.int .i64 4)) (a.get 31) (.int .i64 4) σ, (some 32), fun _ => some true⟩,
  ⟨fun a σ => .val (a.get 32) σ, (some 33), fun _ => some true⟩,
  ⟨fun a σ => ffield 0 (a.get 1) σ, (some 34), fun a => gd (a.get 33) true⟩,
  ⟨fun a σ => ffield 2 (a.get 34) σ, (some 35), fun a => gd (a.get 33) true⟩,
  ⟨fun a σ => fload none (a.get 35) σ, (some 36), fun a => gd (a.get 33) true⟩,
  ⟨fun a σ => .enter 171 [(a.get 36)] σ, (some 37), fun a => gd (a.get 33) true⟩,
  ⟨fun a σ => fun1 Tryz.prog (Op.unary .not) (a.get 37) σ, (some 38), fun a => gd (a.get 33) true⟩,
  ⟨fun a σ => fpick (a.get 33) (a.get 38) (.bool false) σ, (some 39), fun _ => some true⟩,
  ⟨fun a σ => .val (a.get 39) σ, (some 28), fun _ => some true⟩]
noncomputable def r152_5 : List COp := r152_5U ()
noncomputable def r152_6U (_ : Unit) : List COp := [⟨fun a σ => .enter 136 [(.int .i64 13)] σ, (some 40), fun _ => some true⟩]
noncomputable def r152_6 : List COp := r152_6U ()
noncomputable def run152 (E : Env) (ro : Option Nat) (fn : FuncId) : RunF := (seqR (fops E ro r152_0) (blockR 0 (seqR (fops E ro r152_1) (condR (fun a => (a.get 2)) (fops E ro r152_2) (seqR (fops E ro r152_3) (condR (fun a => (a.get 15)) (fops E ro r152_4) (seqR (fops E ro r152_5) (condR (fun a => (a.get 28)) (fops E ro r152_6) skipR))))))))
theorem r152_0_go : fops E ro r152_0 a u σ = fops E ro (r152_0U ()) a u σ := rfl
theorem r152_1_go : fops E ro r152_1 a u σ = fops E ro (r152_1U ()) a u σ := rfl
theorem r152_3_go : fops E ro r152_3 a u σ = fops E ro (r152_3U ()) a u σ := rfl
theorem r152_5_go : fops E ro r152_5 a u σ = fops E ro (r152_5U ()) a u σ := rfl
theorem code152 (E : Env) (ro : Option Nat) (fn : FuncId) : code Tryz.prog nls (Tryz.f152.body.getD .skip) E ro fn = run152 E ro fn := by kernel_rfl
theorem enter152 (E : Env) (args : List Value) (u : Option FrameMode) (σ : FState) (hn : args.length ≤ (2 : Nat)) : fcall Tryz.prog nls E 152 args u σ = leaveR Tryz.prog E [] (run152 E none 152 ⟨padTo undef 2 args, fun _ => undef, 2, 41, []⟩ u σ) := by
  rw [fcall_of (body := Tryz.f152.body.getD .skip) Tryz.func152 rfl E args u σ 2 41 (by kernel_rfl) rfl ⟨hn, by decide⟩, code152]
  rfl
/-! (caracole/datum.text).formed -/
noncomputable def r225_0U (_ : Unit) : List COp := [⟨fun a σ => fbox 151 (a.get 0) σ, (some 1), fun _ => some true⟩,
  ⟨fun a σ => .val (.bool false) σ, (some 2), fun _ => some true⟩]
noncomputable def r225_0 : List COp := r225_0U ()
noncomputable def r225_1U (_ : Unit) : List COp := [⟨fun a σ => ffield 0 (a.get 1) σ, (some 3), fun _ => some true⟩,
  ⟨fun a σ => ffield 1 (a.get 3) σ, (some 4), fun _ => some true⟩,
  ⟨fun a σ => fload none (a.get 4) σ, (some 5), fun _ => some true⟩,
  ⟨fun a σ => i_eql Tryz.prog 3 (.tmp 5) (.const (.int .i64 0)) (a.get 5) (.int .i64 0) σ, (some 6), fun _ => some true⟩,
  ⟨fun a σ => .val (a.get 6) σ, (some 7), fun _ => some true⟩,
  ⟨fun a σ => ffield 0 (a.get 1) σ, (some 8), fun a => gd (a.get 7) true⟩,
  ⟨fun a σ => ffield 3 (a.get 8) σ, (some 9), fun a => gd (a.get 7) true⟩,
  ⟨fun a σ => fload none (a.get 9) σ, (some 10), fun a => gd (a.get 7) true⟩,
  ⟨fun a σ => flenL (a.get 10) σ, (some 11), fun a => gd (a.get 7) true⟩,
  ⟨fun a σ => i_eql Tryz.prog 3 (.tmp 11) (.const (.int .i64 0)) (a.get 11) (.int .i64 0) σ, (some 12), fun a => gd (a.get 7) true⟩,
  ⟨fun a σ => fpick (a.get 7) (a.get 12) (.bool false) σ, (some 13), fun _ => some true⟩,
  ⟨fun a σ => .val (a.get 13) σ, (some 2), fun _ => some true⟩]
noncomputable def r225_1 : List COp := r225_1U ()
noncomputable def run225 (E : Env) (ro : Option Nat) (fn : FuncId) : RunF := (seqR (fops E ro r225_0) (seqR (fops E ro r225_1) retR))
theorem r225_0_go : fops E ro r225_0 a u σ = fops E ro (r225_0U ()) a u σ := rfl
theorem r225_1_go : fops E ro r225_1 a u σ = fops E ro (r225_1U ()) a u σ := rfl
theorem code225 (E : Env) (ro : Option Nat) (fn : FuncId) : code Tryz.prog nls (Tryz.f225.body.getD .skip) E ro fn = run225 E ro fn := by kernel_rfl
theorem enter225 (E : Env) (args : List Value) (u : Option FrameMode) (σ : FState) (hn : args.length ≤ (2 : Nat)) : fcall Tryz.prog nls E 225 args u σ = leaveR Tryz.prog E [.tmp 2] (run225 E none 225 ⟨padTo undef 2 args, fun _ => undef, 2, 14, []⟩ u σ) := by
  rw [fcall_of (body := Tryz.f225.body.getD .skip) Tryz.func225 rfl E args u σ 2 14 (by kernel_rfl) rfl ⟨hn, by decide⟩, code225]
  rfl
/-! (caracole/datum.number).formed -/
noncomputable def r231_0U (_ : Unit) : List COp := [⟨fun a σ => fbox 184 (a.get 0) σ, (some 1), fun _ => some true⟩,
  ⟨fun a σ => .val (.bool false) σ, (some 2), fun _ => some true⟩]
noncomputable def r231_0 : List COp := r231_0U ()
noncomputable def r231_1U (_ : Unit) : List COp := [⟨fun a σ => ffield 0 (a.get 1) σ, (some 3), fun _ => some true⟩,
  ⟨fun a σ => ffield 2 (a.get 3) σ, (some 4), fun _ => some true⟩,
  ⟨fun a σ => fload none (a.get 4) σ, (some 5), fun _ => some true⟩,
  ⟨fun a σ => i_eql Tryz.prog 9 (.tmp 5) (.const (.string ⟨#[]⟩)) (a.get 5) (.string ⟨#[]⟩) σ, (some 6), fun _ => some true⟩,
  ⟨fun a σ => .val (a.get 6) σ, (some 7), fun _ => some true⟩,
  ⟨fun a σ => ffield 0 (a.get 1) σ, (some 8), fun a => gd (a.get 7) true⟩,
  ⟨fun a σ => ffield 3 (a.get 8) σ, (some 9), fun a => gd (a.get 7) true⟩,
  ⟨fun a σ => fload none (a.get 9) σ, (some 10), fun a => gd (a.get 7) true⟩,
  ⟨fun a σ => flenL (a.get 10) σ, (some 11), fun a => gd (a.get 7) true⟩,
  ⟨fun a σ => i_eql Tryz.prog 3 (.tmp 11) (.const (.int .i64 0)) (a.get 11) (.int .i64 0) σ, (some 12), fun a => gd (a.get 7) true⟩,
  ⟨fun a σ => fpick (a.get 7) (a.get 12) (.bool false) σ, (some 13), fun _ => some true⟩,
  ⟨fun a σ => .val (a.get 13) σ, (some 2), fun _ => some true⟩]
noncomputable def r231_1 : List COp := r231_1U ()
noncomputable def run231 (E : Env) (ro : Option Nat) (fn : FuncId) : RunF := (seqR (fops E ro r231_0) (seqR (fops E ro r231_1) retR))
theorem r231_0_go : fops E ro r231_0 a u σ = fops E ro (r231_0U ()) a u σ := rfl
theorem r231_1_go : fops E ro r231_1 a u σ = fops E ro (r231_1U ()) a u σ := rfl
theorem code231 (E : Env) (ro : Option Nat) (fn : FuncId) : code Tryz.prog nls (Tryz.f231.body.getD .skip) E ro fn = run231 E ro fn := by kernel_rfl
theorem enter231 (E : Env) (args : List Value) (u : Option FrameMode) (σ : FState) (hn : args.length ≤ (2 : Nat)) : fcall Tryz.prog nls E 231 args u σ = leaveR Tryz.prog E [.tmp 2] (run231 E none 231 ⟨padTo undef 2 args, fun _ => undef, 2, 14, []⟩ u σ) := by
  rw [fcall_of (body := Tryz.f231.body.getD .skip) Tryz.func231 rfl E args u σ 2 14 (by kernel_rfl) rfl ⟨hn, by decide⟩, code231]
  rfl
/-! (caracole/datum.empty).formed -/
noncomputable def r233_0U (_ : Unit) : List COp := [⟨fun a σ => fbox 187 (a.get 0) σ, (some 1), fun _ => some true⟩,
  ⟨fun a σ => .val (.bool false) σ, (some 2), fun _ => some true⟩]
noncomputable def r233_0 : List COp := r233_0U ()
noncomputable def r233_1U (_ : Unit) : List COp := [⟨fun a σ => ffield 0 (a.get 1) σ, (some 3), fun _ => some true⟩,
  ⟨fun a σ => ffield 1 (a.get 3) σ, (some 4), fun _ => some true⟩,
  ⟨fun a σ => fload none (a.get 4) σ, (some 5), fun _ => some true⟩,
  ⟨fun a σ => i_eql Tryz.prog 3 (.tmp 5) (.const (.int .i64 0)) (a.get 5) (.int .i64 0) σ, (some 6), fun _ => some true⟩,
  ⟨fun a σ => .val (a.get 6) σ, (some 7), fun _ => some true⟩,
  ⟨fun a σ => ffield 0 (a.get 1) σ, (some 8), fun a => gd (a.get 7) true⟩,
  ⟨fun a σ => ffield 2 (a.get 8) σ, (some 9), fun a => gd (a.get 7) true⟩,
  ⟨fun a σ => fload none (a.get 9) σ, (some 10), fun a => gd (a.get 7) true⟩,
  ⟨fun a σ => i_eql Tryz.prog 9 (.tmp 10) (.const (.string ⟨#[]⟩)) (a.get 10) (.string ⟨#[]⟩) σ, (some 11), fun a => gd (a.get 7) true⟩,
  ⟨fun a σ => fpick (a.get 7) (a.get 11) (.bool false) σ, (some 12), fun _ => some true⟩,
  ⟨fun a σ => .val (a.get 12) σ, (some 13), fun _ => some true⟩,
  ⟨fun a σ => ffield 0 (a.get 1) σ, (some 14), fun a => gd (a.get 13) true⟩,
  ⟨fun a σ => ffield 3 (a.get 14) σ, (some 15), fun a => gd (a.get 13) true⟩,
  ⟨fun a σ => fload none (a.get 15) σ, (some 16), fun a => gd (a.get 13) true⟩,
  ⟨fun a σ => flenL (a.get 16) σ, (some 17), fun a => gd (a.get 13) true⟩,
  ⟨fun a σ => i_eql Tryz.prog 3 (.tmp 17) (.const (.int .i64 0)) (a.get 17) (.int .i64 0) σ, (some 18), fun a => gd (a.get 13) true⟩,
  ⟨fun a σ => fpick (a.get 13) (a.get 18) (.bool false) σ, (some 19), fun _ => some true⟩,
  ⟨fun a σ => .val (a.get 19) σ, (some 2), fun _ => some true⟩]
noncomputable def r233_1 : List COp := r233_1U ()
noncomputable def run233 (E : Env) (ro : Option Nat) (fn : FuncId) : RunF := (seqR (fops E ro r233_0) (seqR (fops E ro r233_1) retR))
theorem r233_0_go : fops E ro r233_0 a u σ = fops E ro (r233_0U ()) a u σ := rfl
theorem r233_1_go : fops E ro r233_1 a u σ = fops E ro (r233_1U ()) a u σ := rfl
theorem code233 (E : Env) (ro : Option Nat) (fn : FuncId) : code Tryz.prog nls (Tryz.f233.body.getD .skip) E ro fn = run233 E ro fn := by kernel_rfl
theorem enter233 (E : Env) (args : List Value) (u : Option FrameMode) (σ : FState) (hn : args.length ≤ (2 : Nat)) : fcall Tryz.prog nls E 233 args u σ = leaveR Tryz.prog E [.tmp 2] (run233 E none 233 ⟨padTo undef 2 args, fun _ => undef, 2, 20, []⟩ u σ) := by
  rw [fcall_of (body := Tryz.f233.body.getD .skip) Tryz.func233 rfl E args u σ 2 20 (by kernel_rfl) rfl ⟨hn, by decide⟩, code233]
  rfl
/-! (caracole/datum.branch).formed -/
noncomputable def r235_0U (_ : Unit) : List COp := [⟨fun a σ => fbox 188 (a.get 0) σ, (some 1), fun _ => some true⟩,
  ⟨fun a σ => .val (.bool false) σ, (some 2), fun _ => some true⟩]
noncomputable def r235_0 : List COp := r235_0U ()
noncomputable def r235_1U (_ : Unit) : List COp := [⟨fun a σ => ffield 0 (a.get 1) σ, (some 3), fun _ => some true⟩,
  ⟨fun a σ => ffield 1 (a.get 3) σ, (some 4), fun _ => some true⟩,
  ⟨fun a σ => fload none (a.get 4) σ, (some 5), fun _ => some true⟩,
  ⟨fun a σ => i_eql Tryz.prog 3 (.tmp 5) (.const (.int .i64 0)) (a.get 5) (.int .i64 0) σ, (some 6), fun _ => some true⟩,
  ⟨fun a σ => .val (a.get 6) σ, (some 7), fun _ => some true⟩,
  ⟨fun a σ => ffield 0 (a.get 1) σ, (some 8), fun a => gd (a.get 7) true⟩,
  ⟨fun a σ => ffield 2 (a.get 8) σ, (some 9), fun a => gd (a.get 7) true⟩,
  ⟨fun a σ => fload none (a.get 9) σ, (some 10), fun a => gd (a.get 7) true⟩,
  ⟨fun a σ => i_eql Tryz.prog 9 (.tmp 10) (.const (.string ⟨#[]⟩)) (a.get 10) (.string ⟨#[]⟩) σ, (some 11), fun a => gd (a.get 7) true⟩,
  ⟨fun a σ => fpick (a.get 7) (a.get 11) (.bool false) σ, (some 12), fun _ => some true⟩,
  ⟨fun a σ => .val (a.get 12) σ, (some 13), fun _ => some true⟩,
  ⟨fun a σ => ffield 0 (a.get 1) σ, (some 14), fun a => gd (a.get 13) true⟩,
  ⟨fun a σ => ffield 0 (a.get 14) σ, (some 15), fun a => gd (a.get 13) true⟩,
  ⟨fun a σ => fload none (a.get 15) σ, (some 16), fun a => gd (a.get 13) true⟩,
  ⟨fun a σ => i_eql Tryz.prog 3 (.tmp 16) (.const (.int .i64 6)) (a.get 16) (.int .i64 6) σ, (some 17), fun a => gd (a.get 13) true⟩,
  ⟨fun a σ => .val (a.get 17) σ, (some 18), fun a => gd (a.get 13) true⟩,
  ⟨fun a σ => ffield 0 (a.get 1) σ, (some 19), fun a => gd (a.get 18) false⟩,
  ⟨fun a σ => ffield 3 (a.get 19) σ, (some 20), fun a => gd (a.get 18) false⟩,
  ⟨fun a σ => fload none (a.get 20) σ, (some 21), fun a => gd (a.get 18) false⟩,
  ⟨fun a σ => flenL (a.get 21) σ, (some 22), fun a => gd (a.get 18) false⟩,
  ⟨fun a σ => i_eql Tryz.prog 3 (.tmp 22) (.const (.int .i64 2)) (a.get 22) (.int .i64 2) σ, (some 23), fun a => gd (a.get 18) false⟩,
  ⟨fun a σ => fpick (a.get 18) (.bool true) (a.get 23) σ, (some 24), fun a => gd (a.get 13) true⟩,
  ⟨fun a σ => fpick (a.get 13) (a.get 24) (.bool false) σ, (some 25), fun _ => some true⟩,
  ⟨fun a σ => .val (a.get 25) σ, (some 2), fun _ => some true⟩]
noncomputable def r235_1 : List COp := r235_1U ()
noncomputable def run235 (E : Env) (ro : Option Nat) (fn : FuncId) : RunF := (seqR (fops E ro r235_0) (seqR (fops E ro r235_1) retR))
theorem r235_0_go : fops E ro r235_0 a u σ = fops E ro (r235_0U ()) a u σ := rfl
theorem r235_1_go : fops E ro r235_1 a u σ = fops E ro (r235_1U ()) a u σ := rfl
theorem code235 (E : Env) (ro : Option Nat) (fn : FuncId) : code Tryz.prog nls (Tryz.f235.body.getD .skip) E ro fn = run235 E ro fn := by kernel_rfl
theorem enter235 (E : Env) (args : List Value) (u : Option FrameMode) (σ : FState) (hn : args.length ≤ (2 : Nat)) : fcall Tryz.prog nls E 235 args u σ = leaveR Tryz.prog E [.tmp 2] (run235 E none 235 ⟨padTo undef 2 args, fun _ => undef, 2, 26, []⟩ u σ) := by
  rw [fcall_of (body := Tryz.f235.body.getD .skip) Tryz.func235 rfl E args u σ 2 26 (by kernel_rfl) rfl ⟨hn, by decide⟩, code235]
  rfl
/-! caracole/datum.isSymbol -/
noncomputable def r170_0U (_ : Unit) : List COp := [⟨fun a σ => .val (.bool false) σ, (some 2), fun _ => some true⟩]
noncomputable def r170_0 : List COp := r170_0U ()
noncomputable def r170_1U (_ : Unit) : List COp := [⟨fun a σ => .val (a.get 0) σ, (some 4), fun _ => some true⟩,
  ⟨fun a σ => flenS (a.get 4) σ, (some 5), fun _ => some true⟩,
  ⟨fun a σ => i_eql Tryz.prog 3 (.tmp 5) (.const (.int .i64 0)) (a.get 5) (.int .i64 0) σ, (some 6), fun _ => some true⟩,
  ⟨fun a σ => .val (a.get 6) σ, (some 7), fun _ => some true⟩,
  ⟨fun a σ => .val (a.get 0) σ, (some 8), fun a => gd (a.get 7) false⟩,
  ⟨fun a σ => flenS (a.get 8) σ, (some 9), fun a => gd (a.get 7) false⟩,
  ⟨fun a σ => i_gtr Tryz.prog 3 (.tmp 9) (.const (.int .i64 20)) (a.get 9) (.int .i64 20) σ, (some 10), fun a => gd (a.get 7) false⟩,
  ⟨fun a σ => fpick (a.get 7) (.bool true) (a.get 10) σ, (some 11), fun _ => some true⟩]
noncomputable def r170_1 : List COp := r170_1U ()
noncomputable def r170_2U (_ : Unit) : List COp := [⟨fun a σ => .val (.bool false) σ, (some 2), fun _ => some true⟩]
noncomputable def r170_2 : List COp := r170_2U ()
noncomputable def r170_3U (_ : Unit) : List COp := [⟨fun a σ => .val (a.get 0) σ, (some 12), fun _ => some true⟩,
  ⟨fun a σ => flenS (a.get 12) σ, (some 13), fun _ => some true⟩,
  ⟨fun a σ => .val (.int .i64 0) σ, (some 14), fun _ => some true⟩]
noncomputable def r170_3 : List COp := r170_3U ()
noncomputable def r170_4U (_ : Unit) : List COp := [⟨fun a σ => i_lss Tryz.prog 3 (.tmp 14) (.tmp 13) (a.get 14) (a.get 13) σ, (some 15), fun _ => some true⟩]
noncomputable def r170_4 : List COp := r170_4U ()
noncomputable def r170_5U (_ : Unit) : List COp := [⟨fun a σ => .val (a.get 14) σ, (some 16), fun _ => some true⟩,
  ⟨fun a σ => .val (a.get 16) σ, (some 3), fun _ => some true⟩]
noncomputable def r170_5 : List COp := r170_5U ()
noncomputable def r170_6U (_ : Unit) : List COp := [⟨fun a σ => .val (a.get 0) σ, (some 17), fun _ => some true⟩,
  ⟨fun a σ => .val (a.get 3) σ, (some 18), fun _ => some true⟩,
  ⟨fun a σ => findexS (a.get 17) (a.get 18) σ, (some 19), fun _ => some true⟩,
  ⟨fun a σ => fun1 Tryz.prog (convert 5 21) (a.get 19) σ, (some 20), fun _ => some true⟩,
  ⟨fun a σ => .enter 188 [(a.get 20)] σ, (some 21), fun _ => some true⟩]
noncomputable def r170_6 : List COp := r170_6U ()
noncomputable def r170_7U (_ : Unit) : List COp := [⟨fun a σ => i_eql Tryz.prog 223 (.tmp 21) (.const (.int .i64 2)) (a.get 21) (.int .i64 2) σ, (some 23), fun _ => some true⟩,
  ⟨fun a σ => .val (a.get 23) σ, (some 22), fun _ => some true⟩]
noncomputable def r170_7 : List COp := r170_7U ()
noncomputable def r170_8U (_ : Unit) : List COp := [⟨fun a σ => i_eql Tryz.prog 223 (.tmp 21) (.const (.int .i64 0)) (a.get 21) (.int .i64 0) σ, (some 25), fun _ => some true⟩,
  ⟨fun a σ => .val (a.get 25) σ, (some 24), fun _ => some true⟩]
noncomputable def r170_8 : List COp := r170_8U ()
noncomputable def r170_9U (_ : Unit) : List COp := [⟨fun a σ => .val (a.get 3) σ, (some 26), fun _ => some true⟩,
  ⟨fun a σ => i_gtr Tryz.prog 3 (.tmp 26) (.const (.int .i64 1)) (a.get 26) (.int .i64 1) σ, (some 27), fun _ => some true⟩,
  ⟨fun a σ => .val (a.get 27) σ, (some 28), fun _ => some true⟩,
  ⟨fun a σ => .val (a.get 3) σ, (some 29), fun a => gd (a.get 28) false⟩,
  ⟨fun a σ => i_eql Tryz.prog 3 (.tmp 29) (.const (.int .i64 1)) (a.get 29) (.int .i64 1) σ, (some 30), fun a => gd (a.get 28) false⟩,
  ⟨fun a σ => .val (a.get 30) σ, (some 31), fun a => gd (a.get 28) false⟩,
  ⟨fun a σ => .val (a.get 0) σ, (some 32), fun a => gd (a.get 31) true⟩,
  ⟨fun a σ => findexS (a.get 32) (.int .i64 0) σ, (some 33), fun a => gd (a.get 31) true⟩,
  ⟨fun a σ => i_neq Tryz.prog 5 (.tmp 33) (.const (.int .u8 45)) (a.get 33) (.int .u8 45) σ, (some 34), fun a => gd (a.get 31) true⟩,
  ⟨fun a σ => fpick (a.get 31) (a.get 34) (.bool false) σ, (some 35), fun a => gd (a.get 28) false⟩,
  ⟨fun a σ => fpick (a.get 28) (.bool true) (a.get 35) σ, (some 36), fun _ => some true⟩]
noncomputable def r170_9 : List COp := r170_9U ()
noncomputable def r170_10U (_ : Unit) : List COp := [⟨fun a σ => .val (.bool false) σ, (some 2), fun _ => some true⟩]
noncomputable def r170_10 : List COp := r170_10U ()
noncomputable def r170_11U (_ : Unit) : List COp := [⟨fun a σ => i_add Tryz.prog 3 (.tmp 14) (.const (.int .i64 1)) (a.get 14) (.int .i64 1) σ, (some 37), fun _ => some true⟩,
  ⟨fun a σ => .val (a.get 37) σ, (some 14), fun _ => some true⟩]
noncomputable def r170_11 : List COp := r170_11U ()
noncomputable def l170_0 (E : Env) (ro : Option Nat) (fn : FuncId) : RunF := (seqR (fops E ro r170_4) (seqR (condR (fun a => (a.get 15)) skipR (exitR 0)) (seqR (blockR 1 (seqR (fops E ro r170_5) (seqR (fops E ro r170_6) (blockR 2 (seqR (blockR 4 (seqR (blockR 3 (seqR (seqR (seqR (fops E ro r170_7) (condR (fun a => (a.get 22)) (exitR 3) skipR)) (seqR (fops E ro r170_8) (condR (fun a => (a.get 24)) (exitR 4) skipR))) (exitR 2))) (seqR (fops E ro r170_9) (condR (fun a => (a.get 36)) (exitR 1) skipR)))) (seqR (seqR (fops E ro r170_10) retR) (exitR 2))))))) (fops E ro r170_11))))
noncomputable def r170_12U (_ : Unit) : List COp := [⟨fun a σ => .val (.bool true) σ, (some 2), fun _ => some true⟩]
noncomputable def r170_12 : List COp := r170_12U ()
noncomputable def run170 (E : Env) (ro : Option Nat) (fn : FuncId) : RunF := (seqR (fops E ro r170_0) (seqR (seqR (fops E ro r170_1) (condR (fun a => (a.get 11)) (seqR (fops E ro r170_2) retR) skipR)) (seqR (seqR (fops E ro r170_3) (blockR 0 (loopR (keepOf nls fn) (l170_0 E ro fn)))) (seqR (fops E ro r170_12) retR))))
theorem r170_0_go : fops E ro r170_0 a u σ = fops E ro (r170_0U ()) a u σ := rfl
theorem r170_1_go : fops E ro r170_1 a u σ = fops E ro (r170_1U ()) a u σ := rfl
theorem r170_3_go : fops E ro r170_3 a u σ = fops E ro (r170_3U ()) a u σ := rfl
theorem r170_4_go : fops E ro r170_4 a u σ = fops E ro (r170_4U ()) a u σ := rfl
theorem r170_5_go : fops E ro r170_5 a u σ = fops E ro (r170_5U ()) a u σ := rfl
theorem r170_6_go : fops E ro r170_6 a u σ = fops E ro (r170_6U ()) a u σ := rfl
theorem r170_7_go : fops E ro r170_7 a u σ = fops E ro (r170_7U ()) a u σ := rfl
theorem r170_8_go : fops E ro r170_8 a u σ = fops E ro (r170_8U ()) a u σ := rfl
theorem r170_9_go : fops E ro r170_9 a u σ = fops E ro (r170_9U ()) a u σ := rfl
theorem r170_11_go : fops E ro r170_11 a u σ = fops E ro (r170_11U ()) a u σ := rfl
theorem r170_12_go : fops E ro r170_12 a u σ = fops E ro (r170_12U ()) a u σ := rfl
theorem code170 (E : Env) (ro : Option Nat) (fn : FuncId) : code Tryz.prog nls (Tryz.f170.body.getD .skip) E ro fn = run170 E ro fn := by kernel_rfl
theorem enter170 (E : Env) (args : List Value) (u : Option FrameMode) (σ : FState) (hn : args.length ≤ (4 : Nat)) : fcall Tryz.prog nls E 170 args u σ = leaveR Tryz.prog E [.tmp 2] (run170 E none 170 ⟨padTo undef 4 args, fun _ => undef, 4, 38, []⟩ u σ) := by
  rw [fcall_of (body := Tryz.f170.body.getD .skip) Tryz.func170 rfl E args u σ 4 38 (by kernel_rfl) rfl ⟨hn, by decide⟩, code170]
  rfl
/-! caracole/datum.isPlain -/
noncomputable def r171_0U (_ : Unit) : List COp := [⟨fun a σ => .val (.bool false) σ, (some 2), fun _ => some true⟩]
noncomputable def r171_0 : List COp := r171_0U ()
noncomputable def r171_1U (_ : Unit) : List COp := [⟨fun a σ => .val (a.get 0) σ, (some 5), fun _ => some true⟩,
  ⟨fun a σ => frangeS (a.get 5) σ, (some 6), fun _ => some true⟩]
noncomputable def r171_1 : List COp := r171_1U ()
noncomputable def r171_2U (_ : Unit) : List COp := [⟨fun a σ => fnext (a.get 6) σ, (some 7), fun _ => some true⟩,
  ⟨fun a σ => fextract 0 (a.get 7) σ, (some 8), fun _ => some true⟩]
noncomputable def r171_2 : List COp := r171_2U ()
noncomputable def r171_3U (_ : Unit) : List COp := [⟨fun a σ => fextract 2 (a.get 7) σ, (some 9), fun _ => some true⟩,
  ⟨fun a σ => .val (a.get 9) σ, (some 4), fun _ => some true⟩]
noncomputable def r171_3 : List COp := r171_3U ()
noncomputable def r171_4U (_ : Unit) : List COp := [⟨fun a σ => .val (a.get 4) σ, (some 10), fun _ => some true⟩,
  ⟨fun a σ => i_lss Tryz.prog 21 (.tmp 10) (.const (.int .i32 32)) (a.get 10) (.int .i32 32) σ, (some 11), fun _ => some true⟩,
  ⟨fun a σ => .val (a.get 11) σ, (some 12), fun _ => some true⟩,
  ⟨fun a σ => .val (a.get 4) σ, (some 13), fun a => gd (a.get 12) false⟩,
  ⟨fun a σ => i_gtr Tryz.prog 21 (.tmp 13) (.const (.int .i32 126)) (a.get 13) (.int .i32 126) σ, (some 14), fun a => gd (a.get 12) false⟩,
  ⟨fun a σ => fpick (a.get 12) (.bool true) (a.get 14) σ, (some 15), fun _ => some true⟩]
noncomputable def r171_4 : List COp := r171_4U ()
noncomputable def r171_5U (_ : Unit) : List COp := [⟨fun a σ => .val (.bool false) σ, (some 2), fun _ => some true⟩]
noncomputable def r171_5 : List COp := r171_5U ()
noncomputable def l171_0 (E : Env) (ro : Option Nat) (fn : FuncId) : RunF := (seqR (fops E ro r171_2) (seqR (condR (fun a => (a.get 8)) skipR (exitR 0)) (blockR 1 (seqR (fops E ro r171_3) (seqR (fops E ro r171_4) (condR (fun a => (a.get 15)) (seqR (fops E ro r171_5) retR) skipR))))))
noncomputable def r171_6U (_ : Unit) : List COp := [⟨fun a σ => .val (.bool true) σ, (some 2), fun _ => some true⟩]
noncomputable def r171_6 : List COp := r171_6U ()
noncomputable def run171 (E : Env) (ro : Option Nat) (fn : FuncId) : RunF := (seqR (fops E ro r171_0) (seqR (seqR (fops E ro r171_1) (blockR 0 (loopR (keepOf nls fn) (l171_0 E ro fn)))) (seqR (fops E ro r171_6) retR)))
theorem r171_0_go : fops E ro r171_0 a u σ = fops E ro (r171_0U ()) a u σ := rfl
theorem r171_1_go : fops E ro r171_1 a u σ = fops E ro (r171_1U ()) a u σ := rfl
theorem r171_2_go : fops E ro r171_2 a u σ = fops E ro (r171_2U ()) a u σ := rfl
theorem r171_3_go : fops E ro r171_3 a u σ = fops E ro (r171_3U ()) a u σ := rfl
theorem r171_4_go : fops E ro r171_4 a u σ = fops E ro (r171_4U ()) a u σ := rfl
theorem r171_6_go : fops E ro r171_6 a u σ = fops E ro (r171_6U ()) a u σ := rfl
theorem code171 (E : Env) (ro : Option Nat) (fn : FuncId) : code Tryz.prog nls (Tryz.f171.body.getD .skip) E ro fn = run171 E ro fn := by kernel_rfl
theorem enter171 (E : Env) (args : List Value) (u : Option FrameMode) (σ : FState) (hn : args.length ≤ (5 : Nat)) : fcall Tryz.prog nls E 171 args u σ = leaveR Tryz.prog E [.tmp 2] (run171 E none 171 ⟨padTo undef 5 args, fun _ => undef, 5, 16, []⟩ u σ) := by
  rw [fcall_of (body := Tryz.f171.body.getD .skip) Tryz.func171 rfl E args u σ 5 16 (by kernel_rfl) rfl ⟨hn, by decide⟩, code171]
  rfl
end Go.Proofs.YtokieofohmgjdaaGreatDoor
/- package guard: calls whose work does not fail. -/
namespace Go.Proofs.YtokieofohmgjdaaGreatDoor
open Go Go.Eng
attribute [local congr] andThen_congr fops_congr fdraw_congr afterOp_congr drawF_congr
attribute [-go_sem] List.range_succ
theorem aggInt : aggSize Tryz.prog 3 = some none := by kernel_rfl
theorem aggErrno : aggSize Tryz.prog 32 = some none := by kernel_rfl
theorem nilAny (x : Nat) (σ : FState) : i_eql Tryz.prog 20 (.tmp x) (.const .nilIface) .nilIface .nilIface σ = .val (.bool true) σ := by kernel_rfl
end Go.Proofs.YtokieofohmgjdaaGreatDoor
