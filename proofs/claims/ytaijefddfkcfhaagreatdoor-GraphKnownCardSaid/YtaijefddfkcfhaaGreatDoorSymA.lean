/- The reading, one operation at a time, on memory and slots of which only some facts are known. -/
import Derived.Test.YtaijefddfkcfhaaGreatDoorEngAI
import Derived.KernelRfl
import Derived.Attr
namespace Go.Eng
open Go

/-! ### Slots -/
def FAct.ok (a : FAct) : Prop := a.nl ≤ a.loc.length
theorem get_put {a : FAct} {d t : Nat} {v : Value} (h : a.ok) (hd : d < a.nt) : (a.put (some d) v).get t = if t = d then v else a.get t := by
  have e : a.put (some d) v = a.putT d v := by
    show (Bool.rec (motive := fun _ => FAct) a (a.putT d v) (Nat.blt d a.nt)) = _
    have : Nat.blt d a.nt = true := by simpa [Nat.blt_eq] using hd
    rw [this]
  rw [e, get_putT]
  unfold FAct.ok at h
  by_cases ht : t = d
  · rw [if_pos ht, if_pos ht, if_pos (by omega)]
  · rw [if_neg ht, if_neg ht]
theorem put_none (a : FAct) (v : Value) : a.put none v = a := rfl
theorem nt_put (a : FAct) (dst : Option Tmp) (v : Value) : (a.put dst v).nt = a.nt := (put_nt a dst v).1
theorem defers_put (a : FAct) (dst : Option Tmp) (v : Value) : (a.put dst v).defers = a.defers := (put_nt a dst v).2
theorem ok_put (a : FAct) (dst : Option Tmp) (v : Value) : (a.put dst v).ok = a.ok := by
  cases dst with
  | none => rfl
  | some d =>
    show FAct.ok (Bool.rec (motive := fun _ => FAct) a (a.putT d v) (Nat.blt d a.nt)) = _
    cases Nat.blt d a.nt with
    | false => rfl
    | true =>
      show FAct.ok (a.putT d v) = _
      unfold FAct.putT
      cases Nat.ble a.nl d with
      | true => rfl
      | false =>
        show (a.nl ≤ (setNth v a.loc d).length) = (a.nl ≤ a.loc.length)
        rw [setNth_eq, List.length_set]
theorem get_start (nl nt : Nat) (args : List Value) (t : Nat) : (⟨padTo undef nl args, fun _ => undef, nl, nt, []⟩ : FAct).get t = if t < nl then args[t]?.getD undef else undef := by
  show Bool.rec (motive := fun _ => Value) (Option.rec (motive := fun _ => Value) undef (fun v => v) (nth (padTo undef nl args) t)) undef (Nat.ble nl t) = _
  rw [nth_eq, padTo_get]
  by_cases h : t < nl
  · have : Nat.ble nl t = false := by rw [← Bool.not_eq_true, Nat.ble_eq]; omega
    rw [this, if_pos h, if_pos h]
  · have : Nat.ble nl t = true := by rw [Nat.ble_eq]; omega
    rw [this, if_neg h, if_neg h]
theorem padTo_len {α : Type} (d : α) (n : Nat) (l : List α) : (padTo d n l).length = n := by
  induction n generalizing l with
  | zero => rfl
  | succ n ih => cases l with
    | nil => exact congrArg (· + 1) (ih [])
    | cons x t => exact congrArg (· + 1) (ih t)
theorem ok_start (nl nt : Nat) (args : List Value) (ds : List Deferred) : (⟨padTo undef nl args, fun _ => undef, nl, nt, ds⟩ : FAct).ok := by
  show nl ≤ _
  rw [padTo_len]
  exact Nat.le_refl _

/-! ### Operands -/
theorem cget_tmp (t : Tmp) (a : FAct) : (cget (.tmp t)).un a = a.get t := rfl
theorem cget_const (v : Value) (a : FAct) (h : okConst v = true) : (cget (.const v)).un a = v := by
  show (Bool.rec (motive := fun _ => Bx (FAct → Value)) ⟨fun _ => undef⟩ ⟨fun _ => v⟩ (okConst v)).un a = v
  rw [h]
theorem cget_func (f : FuncId) (a : FAct) : (cget (.func f)).un a = .func (.func f) #[] #[] := rfl
theorem cgets_nil (a : FAct) : (cgets []).un a = [] := rfl
theorem cgets_cons (x : Operand) (l : List Operand) (a : FAct) : (cgets (x :: l)).un a = (cget x).un a :: (cgets l).un a := rfl
theorem cparts_nil (a : FAct) : (cparts []).un a = [] := rfl
theorem cparts_cons (p : Nat × Operand) (l : List (Nat × Operand)) (a : FAct) : (cparts (p :: l)).un a = (p.1, (cget p.2).un a) :: (cparts l).un a := rfl
theorem copt_none (a : FAct) : (copt none).un a = none := rfl
theorem copt_some (x : Operand) (a : FAct) : (copt (some x)).un a = some ((cget x).un a) := rfl

/-! ### Memory -/
theorem push_next (σ : FState) (o : FObj) (fz : Option Nat) : (σ.push o fz).next = σ.next + 1 := rfl
theorem push_clock (σ : FState) (o : FObj) (fz : Option Nat) : (σ.push o fz).clock = σ.clock + 1 := rfl
theorem put_next (σ : FState) (b : Nat) (o : FObj) (fz : Option Nat) : (σ.put b o fz).next = σ.next := rfl
theorem put_clock (σ : FState) (b : Nat) (o : FObj) (fz : Option Nat) : (σ.put b o fz).clock = σ.clock + 1 := rfl
theorem put_get (σ : FState) (c : Nat) (o : FObj) (fz : Option Nat) (b : Nat) : (σ.put c o fz).heap.get b = if b = c then some ⟨o, false, fz, σ.clock⟩ else σ.heap.get b := Tr.get_set _ _ _ _
theorem cells_eq' (σ : FState) (b : Nat) : σ.cells b = (match σ.heap.get b with | some ⟨.cells c _, _, _, _⟩ => some c | _ => none) := by
  show Option.rec (motive := fun _ => Option (List Value)) none _ (σ.heap.get b) = _
  cases σ.heap.get b with
  | none => rfl
  | some e =>
    obtain ⟨o, ro, fz, ver⟩ := e
    cases o <;> rfl

/-! ### Code -/
section
variable (P : Program) (H : Hints) (E : Env) (ro : Option Nat) (fn : FuncId) (a : FAct) (u : Option FrameMode) (σ : FState)
theorem andThen_congr {r r' : KRes} (k : RunF) (h : r = r') : andThen r k = andThen r' k := by rw [h]
theorem andThen_done (e : Exit) (k : RunF) : andThen (.done e a u σ) k = (match e with | .normal => k a u σ | e => .done e a u σ) := rfl
theorem andThen_normal (k : RunF) : andThen (.done .normal a u σ) k = k a u σ := rfl
theorem andThen_ret (k : RunF) : andThen (.done .ret a u σ) k = .done .ret a u σ := rfl
theorem andThen_exit (id : Nat) (k : RunF) : andThen (.done (.exit id) a u σ) k = .done (.exit id) a u σ := rfl
theorem andThen_panic (ch : List PanicEntry) (k : RunF) : andThen (.done (.panic ch) a u σ) k = .done (.panic ch) a u σ := rfl
theorem fops_nil : fops E ro [] a u σ = .done .normal a u σ := rfl
theorem fops_cons (o : COp) (l : List COp) : fops E ro (o :: l) a u σ = (match o.guard a with | none => .no | some false => fops E ro l (a.put o.dst skipV) u σ | some true => afterOp E ro o.dst a u (fops E ro l) (o.op a σ)) := by
  show Option.rec (motive := fun _ => KRes) .no _ (o.guard a) = _
  cases o.guard a with
  | none => rfl
  | some g => cases g <;> rfl
theorem copers_nil (ops : Array Oper) : (copers P ops []).un = [] := rfl
theorem copers_cons (ops : Array Oper) (o : Oper) (l : List Oper) : (copers P ops (o :: l)).un = ⟨(cop P o.op).un, o.dst, (cguard ops o.guard).un⟩ :: (copers P ops l).un := rfl
theorem cguard_none (ops : Array Oper) (a : FAct) : (cguard ops none).un a = some true := rfl
variable (dst : Option Tmp) (k : RunF)
theorem after_val (v : Value) (s : FState) : afterOp E ro dst a u k (.val v s) = k (a.put dst v) u s := rfl
theorem after_skip (s : FState) : afterOp E ro dst a u k (.skip s) = k (a.put dst undef) u s := rfl
theorem after_enter (f : FuncId) (args : List Value) (s : FState) : afterOp E ro dst a u k (.enter f args s) = afterCall a dst u k (E.call f args none s) := rfl
theorem after_ret (v : Value) (u' : Option FrameMode) (s : FState) : afterCall a dst u k (.ret v u' s) = k (a.put dst v) u s := rfl
end
end Go.Eng
namespace Go.Eng
open Go
/-- Nothing is told. -/
noncomputable def nosums : Sums := fun _ _ _ => none
theorem fenv_call (P : Program) (S : Sums) (H : Hints) (n : Nat) (f : FuncId) (args : List Value) (σ : FState) (h : S f args σ = none) :
    (fenv P S H (n + 1)).call f args none σ = fcall P H (fenv P S H n) f args none σ := by
  show fcallS P S H (fenv P S H n) f args none σ = _
  unfold fcallS
  rw [h]
theorem fenv_round (P : Program) (S : Sums) (H : Hints) (n l : Nat) (args : List Value) (σ : FState) : (fenv P S H (n + 1)).round l args σ = fround P H (fenv P S H n) l args σ := rfl
theorem fenv_defer (P : Program) (S : Sums) (H : Hints) (n : Nat) (f : FuncId) (args : List Value) (md : FrameMode) (σ : FState) : (fenv P S H (n + 1)).call f args (some md) σ = fcall P H (fenv P S H n) f args (some md) σ := rfl
theorem cfn_of {P : Program} {H : Hints} {f : FuncId} {fn : Func} {body : Code} (hf : P.funcs[f]? = some fn) (hb : fn.body = some body) :
    (cfn P H f).un = some ⟨code P H body, slotsOf H f, fn.ntmps, fn.results.toList, fn.params.size + fn.nfree⟩ := by
  unfold cfn
  rw [hf]
  simp only [hb]
/-- A call, entered. -/
theorem fcall_of {P : Program} {H : Hints} {f : FuncId} {fn : Func} {body : Code} (hf : P.funcs[f]? = some fn) (hb : fn.body = some body) (E : Env) (args : List Value) (u : Option FrameMode) (σ : FState)
    (nl nt : Nat) (hl : slotsOf H f = nl) (ht : fn.ntmps = nt) (hn : args.length ≤ nl ∧ nl ≤ nt) :
    fcall P H E f args u σ = (match code P H body E none f ⟨padTo undef nl args, fun _ => undef, nl, nt, []⟩ u σ with
    | .done .normal a u σ => fleave P E fn.results.toList a u a.defers .returning σ
    | .done .ret a u σ => fleave P E fn.results.toList a u a.defers .returning σ
    | .done (.panic ch) a u σ => fleave P E fn.results.toList a u a.defers (.panicking ch) σ
    | _ => .no) := by
  unfold fcall
  rw [cfn_of hf hb]
  simp only [hl, ht]
  have h1 : Nat.ble (len args) nl = true := by rw [Nat.ble_eq, len_eq]; exact hn.1
  have h2 : Nat.ble nl nt = true := by rw [Nat.ble_eq]; exact hn.2
  rw [h1, h2]
  rfl
section
variable (P : Program) (H : Hints) (E : Env) (ro : Option Nat) (fn : FuncId) (a : FAct) (u : Option FrameMode) (σ : FState)
theorem fleave_nil (rs : List ResultVar) : fleave P E rs a u [] .returning σ = (match fresults P rs a σ with
        | some [v] => .ret v u σ
        | some vs => .ret (.tuple vs.toArray) u σ
        | none => .no) := rfl
theorem fleave_pan (rs : List ResultVar) (ch : List PanicEntry) : fleave P E rs a u [] (.panicking ch) σ = .pan ch u σ := rfl
variable (d : Nat)
theorem cc_skip : (ccode P H (d + 1) .skip).un E ro fn a u σ = .done .normal a u σ := rfl
theorem cc_ret : (ccode P H (d + 1) .ret).un E ro fn a u σ = .done .ret a u σ := rfl
theorem cc_exit (id : Nat) : (ccode P H (d + 1) (.exit id)).un E ro fn a u σ = .done (.exit id) a u σ := rfl
theorem cc_seq (x y : Code) : (ccode P H (d + 1) (.seq x y)).un E ro fn a u σ = andThen ((ccode P H d x).un E ro fn a u σ) ((ccode P H d y).un E ro fn) := rfl
theorem cc_cond (c : Operand) (x y : Code) : (ccode P H (d + 1) (.cond c x y)).un E ro fn a u σ = (match (cget c).un a with
        | .bool true => (ccode P H d x).un E ro fn a u σ
        | .bool false => (ccode P H d y).un E ro fn a u σ
        | _ => .no) := rfl
theorem cc_block (id : Nat) (x : Code) : (ccode P H (d + 1) (.block id x)).un E ro fn a u σ = (match (ccode P H d x).un E ro fn a u σ with
        | .done (.exit id') a u σ => cond (Nat.beq id' id) (.done .normal a u σ) (.done (.exit id') a u σ)
        | r => r) := rfl
theorem cc_loop (x : Code) : (ccode P H (d + 1) (.loop x)).un E ro fn a u σ = floop (keepOf H fn) ((ccode P H d x).un E ro fn) bigFuel a u σ := by kernel_rfl
theorem cc_region (i : Nat) (ops : Array Oper) : (ccode P H (d + 1) (.region i ops false)).un E ro fn a u σ = fops E ro (copers P ops ops.toList).un a u σ := rfl
end
end Go.Eng
namespace Go.Eng
open Go
noncomputable def flenD (d : Option TypeDesc) (x : Value) (σ : FState) : ORes :=
  match d with
  | some .string => flenS x σ
  | some (.slice _) => flenL x σ
  | some (.map _ _) => flenM x σ
  | _ => .no
section
variable (P : Program) (H : Hints) (E : Env) (ro : Option Nat) (fn : FuncId) (a : FAct) (u : Option FrameMode) (σ : FState)
theorem fops_step (ops : Array Oper) (o : Oper) (l : List Oper) : fops E ro (copers P ops (o :: l)).un a u σ =
    (match (cguard ops o.guard).un a with | none => .no | some false => fops E ro (copers P ops l).un (a.put o.dst skipV) u σ | some true => afterOp E ro o.dst a u (fops E ro (copers P ops l).un) ((cop P o.op).un a σ)) := fops_cons E ro a u σ _ _
theorem fops_end (ops : Array Oper) : fops E ro (copers P ops []).un a u σ = .done .normal a u σ := rfl
theorem cguard_some (ops : Array Oper) (j : Nat) (want : Bool) : (cguard ops (some (j, want))).un a = (match (ops[j]?).bind (·.dst) with
    | some d => (match a.get d with | .bool b => some (b == want) | .chan none => some false | _ => none)
    | none => none) := by
  cases h : (ops[j]?).bind (·.dst) with
  | none => unfold cguard; simp only [h]
  | some d => unfold cguard; simp only [h]; rfl
variable (x y z : Operand)
theorem rc_move : (cop P (.move x)).un a σ = .val ((cget x).un a) σ := rfl
theorem rc_assign : (cop P (.assign x)).un a σ = .val ((cget x).un a) σ := rfl
theorem rc_pick : (cop P (.pick x y z)).un a σ = fpick ((cget x).un a) ((cget y).un a) ((cget z).un a) σ := rfl
theorem rc_box (e : TypeId) : (cop P (.box e x)).un a σ = fbox e ((cget x).un a) σ := rfl
theorem rc_nilCheck : (cop P (.nilCheck x)).un a σ = fnilCheck ((cget x).un a) σ := rfl
theorem rc_extract (i : Nat) : (cop P (.extract x i)).un a σ = fextract i ((cget x).un a) σ := rfl
theorem rc_load (t : TypeId) : (cop P (.load t x)).un a σ = (match aggSize P t with | some sz => fload sz ((cget x).un a) σ | none => .no) := by
  show Bx.un (match aggSize P t with | some sz => _ | none => noOp) a σ = _
  cases aggSize P t <;> rfl
theorem rc_store (t : TypeId) : (cop P (.store t x y)).un a σ = (match sizeOfT P t with | some n => fstore n ((cget x).un a) ((cget y).un a) σ | none => .no) := by
  show Bx.un (match sizeOfT P t with | some n => _ | none => noOp) a σ = _
  cases sizeOfT P t <;> rfl
theorem rc_alloc (t : TypeId) : (cop P (.alloc t)).un a σ = (match zeroCells P t with | some z => newCells z t none σ | none => .no) := by
  show Bx.un (match zeroCells P t with | some z => _ | none => noOp) a σ = _
  cases zeroCells P t <;> rfl
theorem rc_fieldAddr (s : TypeId) (f : Nat) : (cop P (.fieldAddr s x f)).un a σ = (match fieldInfo P s f with | some off => ffield off ((cget x).un a) σ | none => .no) := by
  show Bx.un (match fieldInfo P s f with | some off => _ | none => noOp) a σ = _
  cases fieldInfo P s f <;> rfl
theorem rc_field (s : TypeId) (f : Nat) : (cop P (.field s x f)).un a σ = (match partInfo P s f with | some (off, sz) => fpart off sz ((cget x).un a) σ | none => .no) := by
  show Bx.un (match partInfo P s f with | some (off, sz) => _ | none => noOp) a σ = _
  cases partInfo P s f <;> rfl
theorem rc_indexAddr (t : TypeId) : (cop P (.indexAddr t x y)).un a σ = (match indexInfo P t with | some ty => findex ty ((cget x).un a) ((cget y).un a) σ | none => .no) := by
  show Bx.un (match indexInfo P t with | some ty => _ | none => noOp) a σ = _
  cases indexInfo P t <;> rfl
theorem rc_not (t : TypeId) (b : Bool) (h : (cget x).un a = .bool b) : (cop P (.unOp .not t x)).un a σ = .val (.bool (!b)) σ := by
  show fun1 P (Op.unary .not) ((cget x).un a) σ = _
  rw [h]
  rfl
theorem rc_len (ts : Array TypeId) (args : Array Operand) : (cop P (.call { callee := .builtin .len, args := args, argTypes := ts })).un a σ = (match ts.toList, args.toList with
    | t :: _, [x] => flenD (under P t) ((cget x).un a) σ
    | _, _ => .no) := by
  show Bx.un (match ts.toList, args.toList with | t :: _, [x] => clen P t x | _, _ => noOp) a σ = _
  cases ts.toList with
  | nil => rfl
  | cons t r => cases args.toList with
    | nil => rfl
    | cons y l => cases l with
      | cons z w => rfl
      | nil =>
        show (clen P t y).un a σ = flenD (under P t) ((cget y).un a) σ
        unfold clen
        cases under P t with
        | none => rfl
        | some d => cases d <;> rfl
theorem rc_call (f : FuncId) (args : Array Operand) (ts : Array TypeId) : (cop P (.call { callee := .value (.func f), args := args, argTypes := ts })).un a σ = .enter f ([] ++ (cgets args.toList).un a ++ []) σ := rfl
end
/-! What operations come to. -/
theorem fbox_eq (e : TypeId) (v : Value) (σ : FState) (h : notTuple v = true) : fbox e v σ = .val (.pointer (some ⟨σ.next, 0, none⟩)) (σ.push (.cells (valCells v) e) none) := by
  unfold fbox; rw [h]; rfl
theorem ffield_eq (off b o : Nat) (σ : FState) : ffield off (.pointer (some ⟨b, o, none⟩)) σ = .val (.pointer (some ⟨b, o + off, none⟩)) σ := rfl
theorem fload_one {b off : Nat} {σ : FState} {c : List Value} (h : σ.cells b = some c) {v : Value} (hv : c[off]? = some v) : fload none (.pointer (some ⟨b, off, none⟩)) σ = .val v σ := by
  unfold fload; simp only [h]; rw [nth_eq, hv]
theorem fload_agg {b off n : Nat} {σ : FState} {c : List Value} (h : σ.cells b = some c) (hn : off + n ≤ c.length) : fload (some n) (.pointer (some ⟨b, off, none⟩)) σ = .val (.agg ((c.drop off).take n).toArray) σ := by
  unfold fload; simp only [h]; rw [dropN_eq, takeN_eq, if_pos (by rw [List.length_drop]; omega)]
theorem fpick_eq (b : Bool) (x y : Value) (σ : FState) : fpick (.bool b) x y σ = .val (bif b then x else y) σ := by cases b <;> rfl
end Go.Eng
namespace Go.Eng
open Go
/-! What operations come to, without a condition. -/
theorem notTuple_agg (c : Array Value) : notTuple (.agg c) = true := of_decide_eq_true (by simp [notTuple])
theorem notTuple_int (k : IntKind) (n : Int) : notTuple (.int k n) = true := of_decide_eq_true (by simp [notTuple])
theorem notTuple_string (s : ByteArray) : notTuple (.string s) = true := of_decide_eq_true (by simp [notTuple])
theorem notTuple_bool (b : Bool) : notTuple (.bool b) = true := of_decide_eq_true (by simp [notTuple])
theorem notTuple_slice (p : Option Addr) (l c : Nat) : notTuple (.slice p l c) = true := of_decide_eq_true (by simp [notTuple])
theorem notTuple_pointer (p : Option Addr) : notTuple (.pointer p) = true := of_decide_eq_true (by simp [notTuple])
theorem notTuple_func (f : Fn) (a b : Array Value) : notTuple (.func f a b) = true := of_decide_eq_true (by simp [notTuple])
theorem notTuple_map (r : Option Nat) : notTuple (.map r) = true := of_decide_eq_true (by simp [notTuple])
theorem notTuple_nilIface : notTuple .nilIface = true := of_decide_eq_true (by simp [notTuple])
theorem notTuple_iface (t : TypeId) (v : Value) : notTuple (.iface t v) = true := of_decide_eq_true (by simp [notTuple])
theorem oneCell_int (k : IntKind) (n : Int) : oneCell (.int k n) = true := of_decide_eq_true (by simp [oneCell])
theorem oneCell_string (s : ByteArray) : oneCell (.string s) = true := of_decide_eq_true (by simp [oneCell])
theorem oneCell_bool (b : Bool) : oneCell (.bool b) = true := of_decide_eq_true (by simp [oneCell])
theorem oneCell_slice (p : Option Addr) (l c : Nat) : oneCell (.slice p l c) = true := of_decide_eq_true (by simp [oneCell])
theorem oneCell_pointer (p : Option Addr) : oneCell (.pointer p) = true := of_decide_eq_true (by simp [oneCell])
theorem oneCell_func (f : Fn) (a b : Array Value) : oneCell (.func f a b) = true := of_decide_eq_true (by simp [oneCell])
theorem oneCell_map (r : Option Nat) : oneCell (.map r) = true := of_decide_eq_true (by simp [oneCell])
theorem oneCell_nilIface : oneCell .nilIface = true := of_decide_eq_true (by simp [oneCell])
theorem oneCell_iface (t : TypeId) (v : Value) : oneCell (.iface t v) = true := of_decide_eq_true (by simp [oneCell])
theorem valCells_agg (l : List Value) : valCells (.agg l.toArray) = l := rfl
theorem valCells_int (k : IntKind) (n : Int) : valCells (.int k n) = [.int k n] := rfl
theorem valCells_string (s : ByteArray) : valCells (.string s) = [.string s] := rfl
theorem valCells_bool (b : Bool) : valCells (.bool b) = [.bool b] := rfl
theorem valCells_slice (p : Option Addr) (l c : Nat) : valCells (.slice p l c) = [.slice p l c] := rfl
theorem valCells_pointer (p : Option Addr) : valCells (.pointer p) = [.pointer p] := rfl
theorem valCells_func (f : Fn) (a b : Array Value) : valCells (.func f a b) = [.func f a b] := rfl
theorem valCells_map (r : Option Nat) : valCells (.map r) = [.map r] := rfl
theorem valCells_nilIface : valCells .nilIface = [.nilIface] := rfl
theorem valCells_iface (t : TypeId) (v : Value) : valCells (.iface t v) = [.iface t v] := rfl

/-- What is in an object of cells. -/
def FObj.cells? : FObj → Option (List Value)
  | .cells c _ => some c
  | _ => none
theorem cells?_cells (c : List Value) (t : TypeId) : (FObj.cells c t).cells? = some c := rfl
theorem cells_get (σ : FState) (b : Nat) : σ.cells b = (σ.heap.get b).bind fun e => e.obj.cells? := by
  show Option.rec (motive := fun _ => Option (List Value)) none _ (σ.heap.get b) = _
  cases σ.heap.get b with
  | none => rfl
  | some e =>
    obtain ⟨o, ro, fz, ver⟩ := e
    cases o <;> rfl
theorem cells_push (σ : FState) (o : FObj) (fz : Option Nat) (b : Nat) : (σ.push o fz).cells b = if b = σ.next then o.cells? else σ.cells b := by
  rw [cells_get, push_get, cells_get]
  by_cases h : b = σ.next
  · rw [if_pos h, if_pos h]; rfl
  · rw [if_neg h, if_neg h]
theorem cells_put (σ : FState) (c : Nat) (o : FObj) (fz : Option Nat) (b : Nat) : (σ.put c o fz).cells b = if b = c then o.cells? else σ.cells b := by
  rw [cells_get, put_get, cells_get]
  by_cases h : b = c
  · rw [if_pos h, if_pos h]; rfl
  · rw [if_neg h, if_neg h]
theorem fload1 (b off : Nat) (σ : FState) : fload none (.pointer (some ⟨b, off, none⟩)) σ = (match σ.cells b with | some c => (match c[off]? with | some v => .val v σ | none => .no) | none => .no) := by
  unfold fload
  cases h : σ.cells b with
  | none => simp only [h]
  | some c => simp only [h, nth_eq]; cases c[off]? <;> rfl
theorem floadN (n b off : Nat) (σ : FState) : fload (some n) (.pointer (some ⟨b, off, none⟩)) σ = (match σ.cells b with | some c => (if n ≤ c.length - off then .val (.agg ((c.drop off).take n).toArray) σ else .no) | none => .no) := by
  unfold fload
  cases h : σ.cells b with
  | none => simp only [h]
  | some c =>
    simp only [h, dropN_eq, takeN_eq, List.length_drop]
    by_cases hn : n ≤ c.length - off
    · rw [if_pos hn, if_pos hn]
    · rw [if_neg hn, if_neg hn]
section
variable (P : Program) (a : FAct) (σ : FState) (t u : TypeId) (x y : Operand)
theorem rc_eql : (cop P (.binOp .eql t x y u)).un a σ = fbinI (fun a b => .bool (ieq a b)) ((cget x).un a) ((cget y).un a) (fbin0 P .eql t x y ((cget x).un a) ((cget y).un a) σ) σ := rfl
theorem rc_neq : (cop P (.binOp .neq t x y u)).un a σ = fbinI (fun a b => .bool (!ieq a b)) ((cget x).un a) ((cget y).un a) (fbin0 P .neq t x y ((cget x).un a) ((cget y).un a) σ) σ := rfl
theorem rc_lss : (cop P (.binOp .lss t x y u)).un a σ = fbinI (fun a b => .bool (!ile b a)) ((cget x).un a) ((cget y).un a) (fbin0 P .lss t x y ((cget x).un a) ((cget y).un a) σ) σ := rfl
theorem rc_leq : (cop P (.binOp .leq t x y u)).un a σ = fbinI (fun a b => .bool (ile a b)) ((cget x).un a) ((cget y).un a) (fbin0 P .leq t x y ((cget x).un a) ((cget y).un a) σ) σ := rfl
theorem rc_gtr : (cop P (.binOp .gtr t x y u)).un a σ = fbinI (fun a b => .bool (!ile a b)) ((cget x).un a) ((cget y).un a) (fbin0 P .gtr t x y ((cget x).un a) ((cget y).un a) σ) σ := rfl
theorem rc_geq : (cop P (.binOp .geq t x y u)).un a σ = fbinI (fun a b => .bool (ile b a)) ((cget x).un a) ((cget y).un a) (fbin0 P .geq t x y ((cget x).un a) ((cget y).un a) σ) σ := rfl
theorem rc_add : (cop P (.binOp .add t x y u)).un a σ = fbinI (fun a b => .int .i64 (wrapI (a + b))) ((cget x).un a) ((cget y).un a) (fbin0 P .add t x y ((cget x).un a) ((cget y).un a) σ) σ := rfl
theorem rc_sub : (cop P (.binOp .sub t x y u)).un a σ = fbinI (fun a b => .int .i64 (wrapI (a - b))) ((cget x).un a) ((cget y).un a) (fbin0 P .sub t x y ((cget x).un a) ((cget y).un a) σ) σ := rfl
theorem rc_mul : (cop P (.binOp .mul t x y u)).un a σ = fbinI (fun a b => .int .i64 (wrapI (a * b))) ((cget x).un a) ((cget y).un a) (fbin0 P .mul t x y ((cget x).un a) ((cget y).un a) σ) σ := rfl
theorem fbinI_int (f : Int → Int → Value) (n m : Int) (r : ORes) (σ : FState) : fbinI f (.int .i64 n) (.int .i64 m) r σ = .val (f n m) σ := rfl
theorem fbinI_string (f : Int → Int → Value) (s : ByteArray) (b : Value) (r : ORes) (σ : FState) : fbinI f (.string s) b r σ = r := rfl
end
end Go.Eng
namespace Go.Eng
open Go
section
variable (P : Program) (t : TypeId) (x y : Operand) (s r : ByteArray) (σ : FState)
theorem str_eql : fbin0 P .eql t x y (.string s) (.string r) σ = .val (.bool (s.toList == r.toList)) σ := by
  unfold fbin0 orPure
  simp [eqGuard, binOp, flat, Op.stringOp]
  rfl
theorem str_neq : fbin0 P .neq t x y (.string s) (.string r) σ = .val (.bool (!(s.toList == r.toList))) σ := by
  unfold fbin0 orPure
  simp [eqGuard, binOp, flat, Op.stringOp]
  rfl
end
/-- What was there is as it was. -/
structure Ext (σ σ' : FState) : Prop where
  next : σ.next ≤ σ'.next
  clock : σ.clock ≤ σ'.clock
  get : ∀ b, b < σ.next → σ'.heap.get b = σ.heap.get b
theorem Ext.refl (σ : FState) : Ext σ σ := ⟨Nat.le_refl _, Nat.le_refl _, fun _ _ => rfl⟩
theorem Ext.trans {σ σ₁ σ₂ : FState} (h : Ext σ σ₁) (k : Ext σ₁ σ₂) : Ext σ σ₂ :=
  ⟨Nat.le_trans h.next k.next, Nat.le_trans h.clock k.clock, fun b hb => (k.get b (Nat.lt_of_lt_of_le hb h.next)).trans (h.get b hb)⟩
theorem Ext.push {σ σ₁ : FState} (h : Ext σ σ₁) (o : FObj) (fz : Option Nat) : Ext σ (σ₁.push o fz) :=
  ⟨Nat.le_succ_of_le h.next, Nat.le_succ_of_le h.clock, fun b hb => by
    rw [push_get, if_neg (by have := h.next; omega)]
    exact h.get b hb⟩
theorem Ext.put {σ σ₁ : FState} (h : Ext σ σ₁) (c : Nat) (o : FObj) (fz : Option Nat) (hc : σ.next ≤ c) : Ext σ (σ₁.put c o fz) :=
  ⟨h.next, Nat.le_succ_of_le h.clock, fun b hb => by
    rw [put_get, if_neg (by omega)]
    exact h.get b hb⟩
theorem Ext.cells {σ σ' : FState} (h : Ext σ σ') {b : Nat} (hb : b < σ.next) : σ'.cells b = σ.cells b := by
  rw [cells_get, cells_get, h.get b hb]
/-- Nothing lies beyond what has been given out. -/
def Wf (σ : FState) : Prop := ∀ b e, σ.heap.get b = some e → b < σ.next ∧ e.ver < σ.clock
theorem Wf.cells {σ : FState} (h : Wf σ) {b : Nat} {c : List Value} (hc : σ.cells b = some c) : b < σ.next := by
  rw [cells_get] at hc
  cases hg : σ.heap.get b with
  | none => rw [hg] at hc; cases hc
  | some e => exact (h b e hg).1
theorem Wf.push {σ : FState} (h : Wf σ) (o : FObj) (fz : Option Nat) : Wf (σ.push o fz) := fun b e hb => by
  rw [push_get] at hb
  rw [push_next, push_clock]
  by_cases hn : b = σ.next
  · rw [if_pos hn] at hb
    cases hb
    exact ⟨by omega, Nat.lt_succ_self _⟩
  · rw [if_neg hn] at hb
    have := h b e hb
    exact ⟨by omega, by omega⟩
theorem Wf.put {σ : FState} (h : Wf σ) (c : Nat) (o : FObj) (fz : Option Nat) (hc : c < σ.next) : Wf (σ.put c o fz) := fun b e hb => by
  rw [put_get] at hb
  rw [put_next, put_clock]
  by_cases hn : b = c
  · rw [if_pos hn] at hb
    cases hb
    exact ⟨by omega, Nat.lt_succ_self _⟩
  · rw [if_neg hn] at hb
    have := h b e hb
    exact ⟨by omega, by omega⟩

/-- A datum. -/
inductive D where
  | mk (kind num : Int) (text : ByteArray) (parts : List D)
mutual
/-- A value reads as a datum. -/
def Laid (σ : FState) : Value → D → Prop
  | v, .mk k n t ds => ∃ p c, v = .agg #[.int .i64 k, .int .i64 n, .string t, .slice p ds.length c] ∧ LaidE σ p 0 ds
/-- Elements of a slice, from one on. -/
def LaidE (σ : FState) : Option Addr → Nat → List D → Prop
  | _, _, [] => True
  | p, i, d :: ds => (∃ b off cs, p = some ⟨b, off, none⟩ ∧ σ.cells b = some cs ∧ 4 ≤ cs.length - (off + i * 4) ∧ Laid σ (.agg ((cs.drop (off + i * 4)).take 4).toArray) d) ∧ LaidE σ p (i + 1) ds
end
mutual
theorem Laid.ext {σ σ' : FState} (hw : Wf σ) (h : Ext σ σ') : ∀ {v : Value} {d : D}, Laid σ v d → Laid σ' v d
  | _, .mk _ _ _ _, ⟨p, c, hv, he⟩ => ⟨p, c, hv, LaidE.ext hw h he⟩
theorem LaidE.ext {σ σ' : FState} (hw : Wf σ) (h : Ext σ σ') : ∀ {p : Option Addr} {i : Nat} {ds : List D}, LaidE σ p i ds → LaidE σ' p i ds
  | _, _, [], _ => trivial
  | _, _, _ :: _, ⟨⟨b, off, cs, hp, hc, hl, hd⟩, hr⟩ => ⟨⟨b, off, cs, hp, (h.cells (hw.cells hc)).trans hc, hl, Laid.ext hw h hd⟩, LaidE.ext hw h hr⟩
end
theorem LaidE.get {σ : FState} {p : Option Addr} : ∀ {i : Nat} {ds : List D} {k : Nat} {d : D}, LaidE σ p i ds → ds[k]? = some d →
    ∃ b off cs, p = some ⟨b, off, none⟩ ∧ σ.cells b = some cs ∧ 4 ≤ cs.length - (off + (i + k) * 4) ∧ Laid σ (.agg ((cs.drop (off + (i + k) * 4)).take 4).toArray) d
  | i, d :: ds, 0, _, h, hk => by
    cases hk
    exact h.1
  | i, d :: ds, k + 1, _, h, hk => by
    have := LaidE.get (i := i + 1) h.2 (k := k) (by simpa using hk)
    rwa [show i + 1 + k = i + (k + 1) by omega] at this
  | _, [], _, _, _, hk => by simp at hk
mutual
/-- Equal pieces, and equal parts. -/
def D.same : D → D → Bool
  | .mk k n t ds, .mk k' n' t' ds' => decide (k = k') && decide (n = n') && (t.toList == t'.toList) && D.sames ds ds'
def D.sames : List D → List D → Bool
  | [], [] => true
  | d :: ds, d' :: ds' => D.same d d' && D.sames ds ds'
  | _, _ => false
end
mutual
/-- How many data are inside of one another. -/
def D.deep : D → Nat
  | .mk _ _ _ ds => D.deeps ds + 1
def D.deeps : List D → Nat
  | [] => 0
  | d :: ds => max (D.deep d) (D.deeps ds)
end
end Go.Eng
namespace Go.Eng
open Go
theorem flenL_eq (p : Option Addr) (n c : Nat) (σ : FState) : flenL (.slice p n c) σ = .val (.int .i64 (.ofNat n)) σ := rfl
theorem flenS_eq (s : ByteArray) (σ : FState) : flenS (.string s) σ = .val (.int .i64 (.ofNat s.size)) σ := rfl
theorem findex_eq (b off l c n size : Nat) (k : IntKind) (σ : FState) : findex (none, size) (.slice (some ⟨b, off, none⟩) l c) (.int k (.ofNat n)) σ = (if n < l then .val (.pointer (some ⟨b, off + n * size, none⟩)) σ else .no) := by
  show cond (Nat.blt n l) _ _ = _
  by_cases h : n < l
  · rw [show Nat.blt n l = true by simpa [Nat.blt_eq] using h, if_pos h]; rfl
  · rw [show Nat.blt n l = false by rw [← Bool.not_eq_true, Nat.blt_eq]; exact h, if_neg h]; rfl
/-! Regions whose order is drawn. -/
section
variable (P : Program) (H : Hints) (E : Env) (ro : Option Nat) (fn : FuncId) (a : FAct) (u : Option FrameMode) (σ : FState) (d : Nat)
theorem cc_drawn (i : Nat) (ops : Array Oper) : (ccode P H (d + 1) (.region i ops true)).un E ro fn a u σ =
    (match plan ops with | some p => fdraw E ro ((cswap P ops p.tail).un E ro) (cdops P ops p.main).un [σ.clock] a u σ | none => .no) := by
  have e : ccode P H (d + 1) (.region i ops true) = (match plan ops with
        | some p => ⟨fun E ro _ a u σ => fdraw E ro ((cswap P ops p.tail).un E ro) (cdops P ops p.main).un [σ.clock] a u σ⟩
        | none => ⟨fun _ _ _ _ _ _ => .no⟩) := rfl
  rw [e]
  cases plan ops <;> rfl
theorem cswap_none (ops : Array Oper) (cl : List Nat) : (cswap P ops none).un E ro cl a u σ = .done .normal a u σ := rfl
variable (last : List Nat → RunF) (cl : List Nat)
theorem fdraw_nil (ops : Array Oper) : fdraw E ro last (cdops P ops []).un cl a u σ = last cl a u σ := rfl
theorem fdraw_flt (ops : Array Oper) (i q : Nat) (free : Bool) (sw : Option Nat) (l : List PStep) : fdraw E ro last (cdops P ops (⟨i, some q, free, sw⟩ :: l)).un cl a u σ =
    (match ops[i]? with
     | none => last cl a u σ
     | some o => (match (cguard ops o.guard).un a with
       | none => .no
       | some false => fdraw E ro last (cdops P ops l).un cl (a.put o.dst skipV) u σ
       | some true => (match nth cl q with
         | some lam => drawF o.dst a u σ (fdraw E ro last (cdops P ops l).un cl) ((cop P o.op).un a (view σ lam))
         | none => .no))) := by
  cases h : ops[i]? with
  | none =>
    have : (cdops P ops (⟨i, some q, free, sw⟩ :: l)).un = [] := by
      show Bx.un (match ops[i]? with | some o => _ | none => _) = _
      rw [h]
    rw [this]; rfl
  | some o =>
    have : (cdops P ops (⟨i, some q, free, sw⟩ :: l)).un = ⟨(cop P o.op).un, o.dst, (cguard ops o.guard).un, some q, free⟩ :: (cdops P ops l).un := by
      show Bx.un (match ops[i]? with | some o => _ | none => _) = _
      rw [h]
      rfl
    rw [this]
    dsimp only
    show Option.rec (motive := fun _ => KRes) .no _ ((cguard ops o.guard).un a) = _
    cases (cguard ops o.guard).un a with
    | none => rfl
    | some g =>
      cases g with
      | false => rfl
      | true => rfl
theorem fdraw_anchor (ops : Array Oper) (i : Nat) (free : Bool) (sw : Option Nat) (l : List PStep) : fdraw E ro last (cdops P ops (⟨i, none, free, sw⟩ :: l)).un cl a u σ =
    (match ops[i]? with
     | none => last cl a u σ
     | some o => (match (cguard ops o.guard).un a with
       | none => .no
       | some false => fdraw E ro last (cdops P ops l).un (cl ++ [σ.clock]) (a.put o.dst skipV) u σ
       | some true => drawA free (fun a u σ => fdraw E ro last (cdops P ops l).un (cl ++ [σ.clock]) a u σ) (stepOp E ro o.dst a u ((cop P o.op).un a σ)))) := by
  cases h : ops[i]? with
  | none =>
    have : (cdops P ops (⟨i, none, free, sw⟩ :: l)).un = [] := by
      show Bx.un (match ops[i]? with | some o => _ | none => _) = _
      rw [h]
    rw [this]; rfl
  | some o =>
    have : (cdops P ops (⟨i, none, free, sw⟩ :: l)).un = ⟨(cop P o.op).un, o.dst, (cguard ops o.guard).un, none, free⟩ :: (cdops P ops l).un := by
      show Bx.un (match ops[i]? with | some o => _ | none => _) = _
      rw [h]
      rfl
    rw [this]
    dsimp only
    show Option.rec (motive := fun _ => KRes) .no _ ((cguard ops o.guard).un a) = _
    cases (cguard ops o.guard).un a with
    | none => rfl
    | some g => cases g <;> rfl
variable (dst : Option Tmp) (k : RunF)
theorem drawF_val (v : Value) (lam : Nat) : drawF dst a u σ k (.val v (view σ lam)) = k (a.put dst v) u σ := by
  have : regrow σ (view σ lam) = some σ := by
    unfold regrow
    rw [show Nat.beq (view σ lam).next σ.next = true by rw [Nat.beq_eq]; rfl]
    rfl
  unfold drawF
  simp only [this]
theorem drawF_push (v : Value) (lam : Nat) (o : FObj) (fz : Option Nat) : drawF dst a u σ k (.val v ((view σ lam).push o fz)) = k (a.put dst v) u (σ.push o fz) := by
  have : regrow σ ((view σ lam).push o fz) = some (σ.push o fz) := by
    unfold regrow
    rw [show Nat.beq ((view σ lam).push o fz).next σ.next = false by rw [← Bool.not_eq_true, Nat.beq_eq]; show ¬ σ.next + 1 = σ.next; omega]
    rw [push_get]
    have e : (view σ lam).next = σ.next := rfl
    rw [e, if_pos rfl]
    rfl
  unfold drawF
  simp only [this]
theorem stepOp_eq (r : ORes) : stepOp E ro dst a u r = afterOp E ro dst a u (fun a u σ => .done .normal a u σ) r := rfl
theorem drawA_normal (free : Bool) : drawA free k (.done .normal a u σ) = k a u σ := rfl
theorem view_next (lam : Nat) : (view σ lam).next = σ.next := rfl
theorem nth_zero {α : Type} (x : α) (l : List α) : nth (x :: l) 0 = some x := rfl
theorem nth_succ {α : Type} (x : α) (l : List α) (n : Nat) : nth (x :: l) (n + 1) = nth l n := rfl
theorem view_cells (lam b : Nat) : (view σ lam).cells b = (σ.heap.get b).bind fun e => if e.ver < lam then e.obj.cells? else none := by
  rw [cells_get, view_get]
  cases σ.heap.get b with
  | none => rfl
  | some e =>
    simp only [Option.bind_some]
    by_cases h : e.ver < lam
    · rw [if_pos h, if_pos h]; rfl
    · rw [if_neg h, if_neg h]; rfl
theorem view_push (lam b : Nat) (o : FObj) (fz : Option Nat) : (view (σ.push o fz) lam).cells b = if b = σ.next then (if σ.clock < lam then o.cells? else none) else (view σ lam).cells b := by
  rw [view_cells, push_get, view_cells]
  by_cases h : b = σ.next
  · rw [if_pos h, if_pos h]; rfl
  · rw [if_neg h, if_neg h]
theorem view_put (lam b c : Nat) (o : FObj) (fz : Option Nat) : (view (σ.put c o fz) lam).cells b = if b = c then (if σ.clock < lam then o.cells? else none) else (view σ lam).cells b := by
  rw [view_cells, put_get, view_cells]
  by_cases h : b = c
  · rw [if_pos h, if_pos h]; rfl
  · rw [if_neg h, if_neg h]
end
theorem view_wf {σ : FState} (h : Wf σ) {lam : Nat} (hl : σ.clock ≤ lam) (b : Nat) : (view σ lam).cells b = σ.cells b := by
  rw [view_cells, cells_get]
  cases hg : σ.heap.get b with
  | none => rfl
  | some e =>
    simp only [Option.bind_some]
    rw [if_pos (by have := (h b e hg).2; omega)]
/-- One round more. -/
theorem floop_step (keep : List Nat) (run : RunF) (n : Nat) (a : FAct) (u : Option FrameMode) (σ : FState) : floop keep run (n + 1) a u σ = andThen (run (a.forget keep) u σ) (floop keep run n) := rfl
theorem forget_tmp (keep : List Nat) (a : FAct) (t : Nat) : (a.forget keep).tmp t = if t ∈ keep then a.tmp t else undef := by
  induction keep with
  | nil => simp; rfl
  | cons x r ih =>
    show Bool.rec (motive := fun _ => Value) ((a.forget r).tmp t) (a.tmp x) (Nat.beq t x) = _
    by_cases hx : t = x
    · subst hx
      rw [show Nat.beq t t = true by rw [Nat.beq_eq]]
      simp
    · rw [show Nat.beq t x = false by rw [← Bool.not_eq_true, Nat.beq_eq]; exact hx, ih]
      simp [hx]
theorem forget_get (keep : List Nat) (a : FAct) (h : a.ok) (t : Nat) : (a.forget keep).get t = if t < a.nl ∨ t ∈ keep then a.get t else undef := by
  have hl : (a.forget keep).loc = a.loc := rfl
  have hn : (a.forget keep).nl = a.nl := Nat.le_antisymm (Nat.le_refl _) (Nat.le_refl _)
  by_cases hlt : t < a.nl
  · rw [if_pos (.inl hlt)]
    unfold FAct.get
    rw [hl, hn, show Nat.ble a.nl t = false by rw [← Bool.not_eq_true, Nat.ble_eq]; omega]
  · have hb : Nat.ble a.nl t = true := by rw [Nat.ble_eq]; omega
    have e1 : a.get t = a.tmp t := by unfold FAct.get; rw [hb]
    have e2 : (a.forget keep).get t = (a.forget keep).tmp t := by unfold FAct.get; rw [hn, hb]
    rw [e1, e2]
    exact (forget_tmp keep a t).trans (by simp [hlt])
theorem forget_ok (keep : List Nat) (a : FAct) : (a.forget keep).ok = a.ok := propext Iff.rfl
theorem forget_nt (keep : List Nat) (a : FAct) : (a.forget keep).nt = a.nt := Nat.le_antisymm (Nat.le_refl _) (Nat.le_refl _)
theorem forget_nl (keep : List Nat) (a : FAct) : (a.forget keep).nl = a.nl := Nat.le_antisymm (Nat.le_refl _) (Nat.le_refl _)
theorem forget_defers (keep : List Nat) (a : FAct) : (a.forget keep).defers = a.defers := rfl
end Go.Eng
namespace Go.Eng
open Go
/-! The code of a function, written out. -/
def skipR : RunF := fun a u σ => .done .normal a u σ
def retR : RunF := fun a u σ => .done .ret a u σ
def exitR (id : Nat) : RunF := fun a u σ => .done (.exit id) a u σ
def gotoR (l : Nat) : RunF := fun a u σ => .done (.goto l) a u σ
noncomputable def seqR (x y : RunF) : RunF := fun a u σ => andThen (x a u σ) y
def condR (c : FAct → Value) (x y : RunF) : RunF := fun a u σ => match c a with
  | .bool true => x a u σ
  | .bool false => y a u σ
  | _ => .no
noncomputable def blockR (id : Nat) (x : RunF) : RunF := fun a u σ => match x a u σ with
  | .done (.exit id') a u σ => cond (Nat.beq id' id) (.done .normal a u σ) (.done (.exit id') a u σ)
  | r => r
noncomputable def loopR (keep : List Nat) (x : RunF) : RunF := fun a u σ => floop keep x bigFuel a u σ
noncomputable def drawR (E : Env) (ro : Option Nat) (l : List DOp) : RunF := fun a u σ => fdraw E ro (fun _ a u σ => .done .normal a u σ) l [σ.clock] a u σ
noncomputable def drawSR (E : Env) (ro : Option Nat) (l : List DOp) (sb sa : SOp) (fl : List DOp) : RunF := fun a u σ => fdraw E ro (fswap E ro sb sa fl) l [σ.clock] a u σ
noncomputable def leaveR (P : Program) (E : Env) (rs : List ResultVar) (r : KRes) : CRes := match r with
  | .done .normal a u σ => fleave P E rs a u a.defers .returning σ
  | .done .ret a u σ => fleave P E rs a u a.defers .returning σ
  | .done (.panic ch) a u σ => fleave P E rs a u a.defers (.panicking ch) σ
  | _ => .no
def gd (v : Value) (want : Bool) : Option Bool := match v with
  | .bool b => some (b == want)
  | .chan none => some false
  | _ => none
noncomputable def i_add (P : Program) (t : TypeId) (x y : Operand) (a b : Value) (σ : FState) : ORes := fbinI (fun a b => .int .i64 (wrapI (a + b))) a b (fbin0 P .add t x y a b σ) σ
noncomputable def i_sub (P : Program) (t : TypeId) (x y : Operand) (a b : Value) (σ : FState) : ORes := fbinI (fun a b => .int .i64 (wrapI (a - b))) a b (fbin0 P .sub t x y a b σ) σ
noncomputable def i_mul (P : Program) (t : TypeId) (x y : Operand) (a b : Value) (σ : FState) : ORes := fbinI (fun a b => .int .i64 (wrapI (a * b))) a b (fbin0 P .mul t x y a b σ) σ
noncomputable def i_eql (P : Program) (t : TypeId) (x y : Operand) (a b : Value) (σ : FState) : ORes := fbinI (fun a b => .bool (ieq a b)) a b (fbin0 P .eql t x y a b σ) σ
noncomputable def i_neq (P : Program) (t : TypeId) (x y : Operand) (a b : Value) (σ : FState) : ORes := fbinI (fun a b => .bool (!ieq a b)) a b (fbin0 P .neq t x y a b σ) σ
noncomputable def i_lss (P : Program) (t : TypeId) (x y : Operand) (a b : Value) (σ : FState) : ORes := fbinI (fun a b => .bool (!ile b a)) a b (fbin0 P .lss t x y a b σ) σ
noncomputable def i_leq (P : Program) (t : TypeId) (x y : Operand) (a b : Value) (σ : FState) : ORes := fbinI (fun a b => .bool (ile a b)) a b (fbin0 P .leq t x y a b σ) σ
noncomputable def i_gtr (P : Program) (t : TypeId) (x y : Operand) (a b : Value) (σ : FState) : ORes := fbinI (fun a b => .bool (!ile a b)) a b (fbin0 P .gtr t x y a b σ) σ
noncomputable def i_geq (P : Program) (t : TypeId) (x y : Operand) (a b : Value) (σ : FState) : ORes := fbinI (fun a b => .bool (ile b a)) a b (fbin0 P .geq t x y a b σ) σ
/-- The rounds of a code, in the order of the text. -/
def rangesOf : Code → List (Code × Code)
  | .seq x y => rangesOf x ++ rangesOf y
  | .cond _ x y => rangesOf x ++ rangesOf y
  | .block _ x => rangesOf x
  | .loop x => rangesOf x
  | .scope x => rangesOf x
  | .rangeFunc _ _ x y => (x, y) :: (rangesOf x ++ rangesOf y)
  | _ => []
/-- The scopes of a code, in the order of the text. -/
def scopesOf : Code → List Code
  | .seq x y => scopesOf x ++ scopesOf y
  | .cond _ x y => scopesOf x ++ scopesOf y
  | .block _ x => scopesOf x
  | .loop x => scopesOf x
  | .scope x => x :: scopesOf x
  | .rangeFunc _ _ x y => scopesOf x ++ scopesOf y
  | _ => []
section
variable (a : FAct) (u : Option FrameMode) (σ : FState)
theorem skipR_go : skipR a u σ = .done .normal a u σ := rfl
theorem retR_go : retR a u σ = .done .ret a u σ := rfl
theorem exitR_go (id : Nat) : exitR id a u σ = .done (.exit id) a u σ := rfl
theorem gotoR_go (l : Nat) : gotoR l a u σ = .done (.goto l) a u σ := rfl
theorem andThen_goto (l : Nat) (k : RunF) : andThen (.done (.goto l) a u σ) k = .done (.goto l) a u σ := rfl
theorem fscope_goto {find : Nat → Option (Bx RunF)} {n l : Nat} {run r : RunF} {a' : FAct} {u' : Option FrameMode} {σ' : FState} (h : run a u σ = .done (.goto l) a' u' σ') (hf : find l = some ⟨r⟩) : fscope find (n + 1) run a u σ = fscope find n r a' u' σ' := by
  show (match run a u σ with | .done (.goto l) a u σ => (match find l with | some rest => fscope find n rest.un a u σ | none => .done (.goto l) a u σ) | r => r) = _
  rw [h]; simp only; rw [hf]
theorem fscope_ret {find : Nat → Option (Bx RunF)} {n : Nat} {run : RunF} {a' : FAct} {u' : Option FrameMode} {σ' : FState} (h : run a u σ = .done .ret a' u' σ') : fscope find (n + 1) run a u σ = .done .ret a' u' σ' := by
  show (match run a u σ with | .done (.goto l) a u σ => (match find l with | some rest => fscope find n rest.un a u σ | none => .done (.goto l) a u σ) | r => r) = _
  rw [h]
theorem seqR_go (x y : RunF) : seqR x y a u σ = andThen (x a u σ) y := rfl
theorem condR_go (c : FAct → Value) (x y : RunF) : condR c x y a u σ = (match c a with
  | .bool true => x a u σ
  | .bool false => y a u σ
  | _ => .no) := rfl
theorem condR_bool {c : FAct → Value} {b : Bool} (x y : RunF) (h : c a = .bool b) : condR c x y a u σ = if b = true then x a u σ else y a u σ := by
  unfold condR; rw [h]; cases b <;> rfl
theorem blockR_go (id : Nat) (x : RunF) : blockR id x a u σ = (match x a u σ with
  | .done (.exit id') a u σ => cond (Nat.beq id' id) (.done .normal a u σ) (.done (.exit id') a u σ)
  | r => r) := rfl
theorem drawR_go (E : Env) (ro : Option Nat) (l : List DOp) : drawR E ro l a u σ = fdraw E ro (fun _ a u σ => .done .normal a u σ) l [σ.clock] a u σ := rfl
theorem leaveR_ret (P : Program) (E : Env) (rs : List ResultVar) : leaveR P E rs (.done .ret a u σ) = fleave P E rs a u a.defers .returning σ := rfl
theorem leaveR_normal (P : Program) (E : Env) (rs : List ResultVar) : leaveR P E rs (.done .normal a u σ) = fleave P E rs a u a.defers .returning σ := rfl
theorem gd_bool (b w : Bool) : gd (.bool b) w = some (b == w) := rfl
variable (E : Env) (ro : Option Nat) (last : List Nat → RunF) (cl : List Nat)
theorem fdraw_nil' : fdraw E ro last [] cl a u σ = last cl a u σ := rfl
theorem fdraw_f (op : OpF) (dst : Option Tmp) (g : FAct → Option Bool) (q : Nat) (free : Bool) (l : List DOp) : fdraw E ro last (⟨op, dst, g, some q, free⟩ :: l) cl a u σ =
    (match g a with
       | none => .no
       | some false => fdraw E ro last l cl (a.put dst skipV) u σ
       | some true => (match nth cl q with
         | some lam => drawF dst a u σ (fdraw E ro last l cl) (op a (view σ lam))
         | none => .no)) := by
  show Option.rec (motive := fun _ => KRes) .no _ (g a) = _
  cases g a with
  | none => rfl
  | some g => cases g <;> rfl
theorem fdraw_a (op : OpF) (dst : Option Tmp) (g : FAct → Option Bool) (free : Bool) (l : List DOp) : fdraw E ro last (⟨op, dst, g, none, free⟩ :: l) cl a u σ =
    (match g a with
       | none => .no
       | some false => fdraw E ro last l (cl ++ [σ.clock]) (a.put dst skipV) u σ
       | some true => drawA free (fun a u σ => fdraw E ro last l (cl ++ [σ.clock]) a u σ) (stepOp E ro dst a u (op a σ))) := by
  show Option.rec (motive := fun _ => KRes) .no _ (g a) = _
  cases g a with
  | none => rfl
  | some g => cases g <;> rfl
theorem fops_c (op : OpF) (dst : Option Tmp) (g : FAct → Option Bool) (l : List COp) : fops E ro (⟨op, dst, g⟩ :: l) a u σ = (match g a with | none => .no | some false => fops E ro l (a.put dst skipV) u σ | some true => afterOp E ro dst a u (fops E ro l) (op a σ)) := fops_cons E ro a u σ _ _
end
end Go.Eng
namespace Go.Eng
open Go
theorem box_go (e : TypeId) (v : Value) (σ : FState) : fbox e v σ = if notTuple v = true then .val (.pointer (some ⟨σ.next, 0, none⟩)) (σ.push (.cells (valCells v) e) none) else .no := by
  cases h : notTuple v with
  | true => rw [fbox_eq _ _ _ h]; rfl
  | false => unfold fbox; rw [h]; rfl
theorem newCells_go (c : List Value) (el : TypeId) (fz : Option Nat) (σ : FState) : newCells c el fz σ = .val (.pointer (some ⟨σ.next, 0, none⟩)) (σ.push (.cells c el) fz) := rfl
section
variable (P : Program) (t : TypeId) (x y : Operand) (n m : Int) (s r : ByteArray) (σ : FState)
theorem eql_int : i_eql P t x y (.int .i64 n) (.int .i64 m) σ = .val (.bool (n == m)) σ := by
  show ORes.val (.bool (ieq n m)) σ = _
  rw [ieq_eq]
theorem neq_int : i_neq P t x y (.int .i64 n) (.int .i64 m) σ = .val (.bool (!(n == m))) σ := by
  show ORes.val (.bool (!ieq n m)) σ = _
  rw [ieq_eq]
theorem lss_int : i_lss P t x y (.int .i64 n) (.int .i64 m) σ = .val (.bool (decide (n < m))) σ := by
  show ORes.val (.bool (!ile m n)) σ = _
  rw [ile_eq]
  congr 2
  rw [Bool.eq_iff_iff]; simp
theorem leq_int : i_leq P t x y (.int .i64 n) (.int .i64 m) σ = .val (.bool (decide (n ≤ m))) σ := by
  show ORes.val (.bool (ile n m)) σ = _
  rw [ile_eq]
theorem gtr_int : i_gtr P t x y (.int .i64 n) (.int .i64 m) σ = .val (.bool (decide (n > m))) σ := by
  show ORes.val (.bool (!ile n m)) σ = _
  rw [ile_eq]
  congr 2
  rw [Bool.eq_iff_iff]; simp
theorem geq_int : i_geq P t x y (.int .i64 n) (.int .i64 m) σ = .val (.bool (decide (n ≥ m))) σ := by
  show ORes.val (.bool (ile m n)) σ = _
  rw [ile_eq]
theorem add_int : i_add P t x y (.int .i64 n) (.int .i64 m) σ = .val (.int .i64 (wrapI (n + m))) σ := rfl
theorem sub_int : i_sub P t x y (.int .i64 n) (.int .i64 m) σ = .val (.int .i64 (wrapI (n - m))) σ := rfl
theorem mul_int : i_mul P t x y (.int .i64 n) (.int .i64 m) σ = .val (.int .i64 (wrapI (n * m))) σ := rfl
theorem eql_str : i_eql P t x y (.string s) (.string r) σ = .val (.bool (s.toList == r.toList)) σ := str_eql P t x y s r σ
theorem neq_str : i_neq P t x y (.string s) (.string r) σ = .val (.bool (!(s.toList == r.toList))) σ := str_neq P t x y s r σ
theorem not_go (b : Bool) : fun1 P (Op.unary .not) (.bool b) σ = .val (.bool (!b)) σ := rfl
end
theorem wrapI_of {n : Int} (h : -9223372036854775808 ≤ n ∧ n ≤ 9223372036854775807) : wrapI n = n := by
  cases n with
  | ofNat k =>
    show cond (Nat.ble k 9223372036854775807) _ _ = _
    have : k ≤ 9223372036854775807 := by have := h.2; rw [Int.ofNat_eq_natCast] at this; omega
    rw [show Nat.ble k 9223372036854775807 = true by rw [Nat.ble_eq]; exact this]
    rfl
  | negSucc k =>
    show cond (Nat.ble k 9223372036854775807) _ _ = _
    have : k ≤ 9223372036854775807 := by have := h.1; rw [Int.negSucc_eq] at this; omega
    rw [show Nat.ble k 9223372036854775807 = true by rw [Nat.ble_eq]; exact this]
    rfl
/-- What a call comes to: a value, and memory in which what was there is as it was. -/
def Gives (r : CRes) (σ : FState) (Q : Value → FState → Prop) : Prop := ∃ v σ', r = .ret v none σ' ∧ Ext σ σ' ∧ Wf σ' ∧ Q v σ'
end Go.Eng
namespace Go.Eng
open Go
theorem gd_skip (w : Bool) : gd skipV w = some false := rfl
theorem gd_true (b : Bool) : gd (.bool b) true = some b := by cases b <;> rfl
theorem gd_false (b : Bool) : gd (.bool b) false = some (!b) := by cases b <;> rfl
theorem leave_tmp (P : Program) (E : Env) (t : Tmp) (a : FAct) (u : Option FrameMode) (σ : FState) : fleave P E [.tmp t] a u [] .returning σ = .ret (a.get t) u σ := rfl
theorem leave_tmp2 (P : Program) (E : Env) (t t' : Tmp) (a : FAct) (u : Option FrameMode) (σ : FState) : fleave P E [.tmp t, .tmp t'] a u [] .returning σ = .ret (.tuple #[a.get t, a.get t']) u σ := rfl
theorem leave_tmp3 (P : Program) (E : Env) (t t' t'' : Tmp) (a : FAct) (u : Option FrameMode) (σ : FState) : fleave P E [.tmp t, .tmp t', .tmp t''] a u [] .returning σ = .ret (.tuple #[a.get t, a.get t', a.get t'']) u σ := rfl
theorem use_call {X : FState → CRes} {σ σ1 : FState} {r : CRes} {Q : Value → FState → Prop} (hr : X σ1 = r) (h : ∀ σ', Ext σ σ' → Wf σ' → Gives (X σ') σ' Q) (hx : Ext σ σ1) (hw : Wf σ1) : Gives r σ1 Q := hr ▸ h σ1 hx hw
theorem condR_val {c : FAct → Value} {x y : RunF} {a : FAct} {u : Option FrameMode} {σ : FState} : condR c x y a u σ = (match c a with
  | .bool b => if b = true then x a u σ else y a u σ
  | _ => .no) := by
  unfold condR
  cases c a with
  | bool b => cases b <;> rfl
  | _ => rfl
end Go.Eng
namespace Go.Eng
open Go
/-- What a block makes of what comes out of it. -/
noncomputable def blockK (id : Nat) (r : KRes) : KRes := match r with
  | .done (.exit id') a u σ => cond (Nat.beq id' id) (.done .normal a u σ) (.done (.exit id') a u σ)
  | r => r
section
variable (a : FAct) (u : Option FrameMode) (σ : FState)
theorem blockR_k (id : Nat) (x : RunF) : blockR id x a u σ = blockK id (x a u σ) := rfl
theorem blockK_normal (id : Nat) : blockK id (.done .normal a u σ) = .done .normal a u σ := rfl
theorem blockK_ret (id : Nat) : blockK id (.done .ret a u σ) = .done .ret a u σ := rfl
theorem blockK_panic (id : Nat) (ch : List PanicEntry) : blockK id (.done (.panic ch) a u σ) = .done (.panic ch) a u σ := rfl
theorem blockK_exit (id id' : Nat) : blockK id (.done (.exit id') a u σ) = if id' = id then .done .normal a u σ else .done (.exit id') a u σ := by
  show cond (Nat.beq id' id) _ _ = _
  by_cases h : id' = id
  · rw [if_pos h, show Nat.beq id' id = true by rw [Nat.beq_eq]; exact h]; rfl
  · rw [if_neg h, show Nat.beq id' id = false by rw [← Bool.not_eq_true, Nat.beq_eq]; exact h]; rfl
theorem loopR_go (keep : List Nat) (x : RunF) : loopR keep x a u σ = floop keep x bigFuel a u σ := rfl
end
theorem nl_put (a : FAct) (dst : Option Tmp) (v : Value) : (a.put dst v).nl = a.nl := by
  cases dst with
  | none => rfl
  | some d =>
    show FAct.nl (Bool.rec (motive := fun _ => FAct) a (a.putT d v) (Nat.blt d a.nt)) = _
    cases Nat.blt d a.nt with
    | false => rfl
    | true =>
      show FAct.nl (a.putT d v) = _
      unfold FAct.putT
      cases Nat.ble a.nl d <;> rfl
theorem sames_nil (ds : List D) : D.sames [] ds = ds.isEmpty := by cases ds <;> rfl
theorem sames_length : ∀ {ds ds' : List D}, D.sames ds ds' = true → ds.length = ds'.length
  | [], [], _ => rfl
  | _ :: ds, _ :: ds', h => by
    have h' : (D.same _ _ && D.sames ds ds') = true := h
    rw [Bool.and_eq_true] at h'
    simp [sames_length h'.2]
  | [], _ :: _, h => by simp [D.sames] at h
  | _ :: _, [], h => by simp [D.sames] at h
end Go.Eng
namespace Go.Eng
open Go
/-! Numbers of 64 bits without a sign. -/
def xorI (a b : Int) : Int := IntKind.u64.wrap ((BitVec.ofInt 64 a ^^^ BitVec.ofInt 64 b).toNat)
theorem wrapU_range (n : Int) : 0 ≤ IntKind.u64.wrap n ∧ IntKind.u64.wrap n < 18446744073709551616 := by
  have h : IntKind.u64.wrap n = n % 18446744073709551616 := rfl
  rw [h]
  omega
theorem wrapU_of {n : Int} (h : 0 ≤ n ∧ n < 18446744073709551616) : IntKind.u64.wrap n = n := by
  have e : IntKind.u64.wrap n = n % 18446744073709551616 := rfl
  rw [e]
  omega
theorem wrapS_of {n : Int} (h : -9223372036854775808 ≤ n ∧ n ≤ 9223372036854775807) : IntKind.i64.wrap n = n := by
  have e : IntKind.i64.wrap n = (if n % 18446744073709551616 ≥ 9223372036854775808 then n % 18446744073709551616 - 18446744073709551616 else n % 18446744073709551616) := by
    show (if (true && decide (n % 18446744073709551616 ≥ 9223372036854775808)) = true then _ else _) = _
    simp
    rfl
  rw [e]
  split <;> omega
theorem xorI_range (a b : Int) : 0 ≤ xorI a b ∧ xorI a b < 18446744073709551616 := wrapU_range _
section
variable (P : Program) (t : TypeId) (x y : Operand) (a b : Int) (σ : FState)
theorem add_u64 : i_add P t x y (.int .u64 a) (.int .u64 b) σ = .val (.int .u64 (IntKind.u64.wrap (a + b))) σ := by kernel_rfl
theorem mul_u64 : i_mul P t x y (.int .u64 a) (.int .u64 b) σ = .val (.int .u64 (IntKind.u64.wrap (a * b))) σ := by kernel_rfl
theorem xor_u64 : fbin0 P .xor t x y (.int .u64 a) (.int .u64 b) σ = .val (.int .u64 (xorI a b)) σ := by kernel_rfl
theorem shr32_u64 : fbin0 P .shr t x y (.int .u64 a) (.int .u64 32) σ = .val (.int .u64 (a.fdiv 4294967296)) σ := by kernel_rfl
theorem shr27_u64 : fbin0 P .shr t x y (.int .u64 a) (.int .u64 27) σ = .val (.int .u64 (a.fdiv 134217728)) σ := by kernel_rfl
theorem shr9_u64 : fbin0 P .shr t x y (.int .u64 a) (.int .u64 9) σ = .val (.int .u64 (a.fdiv 512)) σ := by kernel_rfl
theorem rem_u64 (h : b ≠ 0) : fbin0 P .rem t x y (.int .u64 a) (.int .u64 b) σ = .val (.int .u64 (a.tmod b)) σ := by
  unfold fbin0 orPure
  simp [eqGuard, binOp, flat, Op.intDiv, h]
  rfl
theorem nilCheck_ptr (p : Addr) : fnilCheck (.pointer (some p)) σ = .val (.pointer (some p)) σ := rfl
end
theorem fstore1 (b off : Nat) (v : Value) (σ : FState) (hv : oneCell v = true) : fstore 1 (.pointer (some ⟨b, off, none⟩)) v σ =
    (match σ.heap.get b with
     | some e => (match e.obj, e.ro with
       | .cells c el, false => if off < c.length then .skip (σ.put b (.cells (c.set off v) el) e.fz) else .no
       | _, _ => .no)
     | none => .no) := by
  have hc : valCells v = [v] ∧ notTuple v = true := by cases v <;> first | exact ⟨rfl, rfl⟩ | cases hv
  unfold fstore
  cases hg : σ.heap.get b with
  | none => simp only [hg]
  | some e =>
    obtain ⟨o, ro, fz, ver⟩ := e
    simp only [hg]
    cases o with
    | cells c el => cases ro with
      | true => rfl
      | false =>
        simp only [hc.1, hc.2]
        show cond (true && Nat.beq (len [v]) 1 && [v].all oneCell) _ _ = _
        have : (true && Nat.beq (len [v]) 1 && [v].all oneCell) = true := by
          simp [hv]; rfl
        rw [this]
        simp only [cond_true, spliceN_eq, List.length_singleton]
        by_cases h : off < c.length
        · rw [if_pos (by omega), if_pos h]
          simp only []
          congr 3
          rw [List.set_eq_take_append_cons_drop, if_pos h]
          simp
        · rw [if_neg (by omega), if_neg h]
    | _ => cases ro <;> rfl
/-- Blocks other than one are as they were. -/
structure ExtC (x : Nat) (σ σ' : FState) : Prop where
  next : σ.next ≤ σ'.next
  clock : σ.clock ≤ σ'.clock
  get : ∀ b, b < σ.next → b ≠ x → σ'.heap.get b = σ.heap.get b
theorem ExtC.refl (x : Nat) (σ : FState) : ExtC x σ σ := ⟨Nat.le_refl _, Nat.le_refl _, fun _ _ _ => rfl⟩
theorem ExtC.trans {x : Nat} {σ σ₁ σ₂ : FState} (h : ExtC x σ σ₁) (k : ExtC x σ₁ σ₂) : ExtC x σ σ₂ :=
  ⟨Nat.le_trans h.next k.next, Nat.le_trans h.clock k.clock, fun b hb hx => (k.get b (Nat.lt_of_lt_of_le hb h.next) hx).trans (h.get b hb hx)⟩
theorem ExtC.push {x : Nat} {σ σ₁ : FState} (h : ExtC x σ σ₁) (o : FObj) (fz : Option Nat) : ExtC x σ (σ₁.push o fz) :=
  ⟨Nat.le_succ_of_le h.next, Nat.le_succ_of_le h.clock, fun b hb hx => by
    rw [push_get, if_neg (by have := h.next; omega)]
    exact h.get b hb hx⟩
theorem ExtC.put {x : Nat} {σ σ₁ : FState} (h : ExtC x σ σ₁) (o : FObj) (fz : Option Nat) : ExtC x σ (σ₁.put x o fz) :=
  ⟨h.next, Nat.le_succ_of_le h.clock, fun b hb hx => by
    rw [put_get, if_neg hx]
    exact h.get b hb hx⟩
theorem ExtC.putNew {x : Nat} {σ σ₁ : FState} (h : ExtC x σ σ₁) (c : Nat) (o : FObj) (fz : Option Nat) (hc : σ.next ≤ c) : ExtC x σ (σ₁.put c o fz) :=
  ⟨h.next, Nat.le_succ_of_le h.clock, fun b hb hx => by
    rw [put_get, if_neg (by omega)]
    exact h.get b hb hx⟩
theorem Ext.toC {σ σ' : FState} (h : Ext σ σ') (x : Nat) : ExtC x σ σ' := ⟨h.next, h.clock, fun b hb _ => h.get b hb⟩
theorem ExtC.cells {x : Nat} {σ σ' : FState} (h : ExtC x σ σ') {b : Nat} (hb : b < σ.next) (hx : b ≠ x) : σ'.cells b = σ.cells b := by
  rw [cells_get, cells_get, h.get b hb hx]
end Go.Eng
namespace Go.Eng
open Go
/-! Slots by what they hold. -/
def upd (f : Nat → Value) (d : Nat) (v : Value) : Nat → Value := fun t => if t = d then v else f t
theorem upd_go (f : Nat → Value) (d : Nat) (v : Value) (t : Nat) : upd f d v t = if t = d then v else f t := rfl
noncomputable def Sl (nl nt : Nat) (f g : Nat → Value) (ds : List Deferred) : FAct := ⟨(List.range nl).map f, g, nl, nt, ds⟩
theorem Sl_get (nl nt : Nat) (f g : Nat → Value) (ds : List Deferred) (t : Nat) : (Sl nl nt f g ds).get t = if t < nl then f t else g t := by
  show Bool.rec (motive := fun _ => Value) (Option.rec (motive := fun _ => Value) undef (fun v => v) (nth ((List.range nl).map f) t)) (g t) (Nat.ble nl t) = _
  rw [nth_eq]
  by_cases h : t < nl
  · have : Nat.ble nl t = false := by rw [← Bool.not_eq_true, Nat.ble_eq]; omega
    rw [this, if_pos h]
    simp [h]
  · have : Nat.ble nl t = true := by rw [Nat.ble_eq]; omega
    rw [this, if_neg h]
theorem Sl_put (nl nt : Nat) (f g : Nat → Value) (ds : List Deferred) (d : Nat) (v : Value) : (Sl nl nt f g ds).put (some d) v =
    if d < nt then (if d < nl then Sl nl nt (upd f d v) g ds else Sl nl nt f (upd g d v) ds) else Sl nl nt f g ds := by
  show (Bool.rec (motive := fun _ => FAct) (Sl nl nt f g ds) ((Sl nl nt f g ds).putT d v) (Nat.blt d nt)) = _
  by_cases h : d < nt
  · have : Nat.blt d nt = true := by simpa [Nat.blt_eq] using h
    rw [this, if_pos h]
    show (Sl nl nt f g ds).putT d v = _
    unfold FAct.putT
    by_cases hl : d < nl
    · have : Nat.ble nl d = false := by rw [← Bool.not_eq_true, Nat.ble_eq]; omega
      rw [if_pos hl]
      show Bool.rec (motive := fun _ => FAct) (⟨setNth v ((List.range nl).map f) d, g, nl, nt, ds⟩ : FAct) _ (Nat.ble nl d) = _
      rw [this, setNth_eq]
      show (⟨((List.range nl).map f).set d v, g, nl, nt, ds⟩ : FAct) = ⟨(List.range nl).map (upd f d v), g, nl, nt, ds⟩
      congr 1
      apply List.ext_getElem?
      intro i
      rw [List.getElem?_set]
      simp only [List.length_map, List.length_range, List.getElem?_map, upd]
      by_cases hi : d = i
      · subst hi
        simp [hl, upd]
      · rw [if_neg hi]
        by_cases hin : i < nl
        · simp [hin, Ne.symm hi, upd]
        · simp [hin]
    · have : Nat.ble nl d = true := by rw [Nat.ble_eq]; omega
      rw [if_neg hl]
      show Bool.rec (motive := fun _ => FAct) _ (⟨(List.range nl).map f, fun k => Bool.rec (motive := fun _ => Value) (g k) v (Nat.beq k d), nl, nt, ds⟩ : FAct) (Nat.ble nl d) = _
      rw [this]
      show (⟨(List.range nl).map f, fun k => Bool.rec (motive := fun _ => Value) (g k) v (Nat.beq k d), nl, nt, ds⟩ : FAct) = ⟨(List.range nl).map f, upd g d v, nl, nt, ds⟩
      congr 1
      funext k
      unfold upd
      by_cases hk : k = d
      · subst hk
        rw [if_pos rfl, show Nat.beq k k = true by rw [Nat.beq_eq]]
      · rw [if_neg hk, show Nat.beq k d = false by rw [← Bool.not_eq_true, Nat.beq_eq]; exact hk]
  · have : Nat.blt d nt = false := by rw [← Bool.not_eq_true, Nat.blt_eq]; exact h
    rw [this, if_neg h]
theorem Sl_start (nl nt : Nat) (args : List Value) (ds : List Deferred) : (⟨padTo undef nl args, fun _ => undef, nl, nt, ds⟩ : FAct) = Sl nl nt (fun t => args[t]?.getD undef) (fun _ => undef) ds := by
  unfold Sl
  congr 1
  apply List.ext_getElem?
  intro i
  rw [padTo_get]
  by_cases h : i < nl <;> simp [h]
theorem Sl_defers (nl nt : Nat) (f g : Nat → Value) (ds : List Deferred) : (Sl nl nt f g ds).defers = ds := by simp [Sl]
theorem Sl_nl (nl nt : Nat) (f g : Nat → Value) (ds : List Deferred) : (Sl nl nt f g ds).nl = nl := by simp [Sl]
theorem Sl_addDefer (nl nt : Nat) (f g : Nat → Value) (ds : List Deferred) (d : Deferred) : (⟨(Sl nl nt f g ds).loc, (Sl nl nt f g ds).tmp, (Sl nl nt f g ds).nl, (Sl nl nt f g ds).nt, d :: (Sl nl nt f g ds).defers⟩ : FAct) = Sl nl nt f g (d :: ds) := rfl
/-- What lasts from one round to the next. -/
def kept (keep : List Nat) (g : Nat → Value) : Nat → Value := fun t => if t ∈ keep then g t else undef
theorem kept_go (keep : List Nat) (g : Nat → Value) (t : Nat) : kept keep g t = if t ∈ keep then g t else undef := rfl
theorem Sl_forget (nl nt : Nat) (f g : Nat → Value) (ds : List Deferred) (keep : List Nat) : (Sl nl nt f g ds).forget keep = Sl nl nt f (kept keep g) ds := by
  have e : ((Sl nl nt f g ds).forget keep).tmp = kept keep g := by
    funext t
    rw [forget_tmp]
    rfl
  show (⟨(List.range nl).map f, ((Sl nl nt f g ds).forget keep).tmp, nl, nt, ds⟩ : FAct) = _
  rw [e]
  rfl
end Go.Eng
namespace Go.Eng
open Go
theorem cells_of_get {σ : FState} {x : Nat} {c : List Value} {t : TypeId} {ro : Bool} {fz : Option Nat} {ver : Nat} (h : σ.heap.get x = some ⟨.cells c t, ro, fz, ver⟩) : σ.cells x = some c := by
  rw [cells_get, h]; rfl
end Go.Eng
namespace Go.Eng
open Go
/-! Structs and slices that are built, and stores of several cells. -/
theorem lay_nil (place : Nat → Option (Nat × Nat)) (c : List Value) : lay place [] c = some c := rfl
theorem lay_cons (place : Nat → Option (Nat × Nat)) (i : Nat) (v : Value) (ps : List (Nat × Value)) (c : List Value) : lay place ((i, v) :: ps) c =
    (match place i with
     | some q => if notTuple v = true ∧ (valCells v).length = q.2 then (if q.1 + (valCells v).length ≤ c.length then lay place ps (c.take q.1 ++ valCells v ++ c.drop (q.1 + (valCells v).length)) else none) else none
     | none => none) := by
  show (match place i with
      | some (off, size) => cond (notTuple v && Nat.beq (len (valCells v)) size) (match spliceN off (valCells v) c with | some c' => lay place ps c' | none => none) none
      | none => none) = _
  cases place i with
  | none => rfl
  | some q =>
    obtain ⟨off, size⟩ := q
    simp only []
    rw [len_eq, spliceN_eq]
    by_cases h : notTuple v = true ∧ (valCells v).length = size
    · rw [if_pos h, show (notTuple v && Nat.beq (valCells v).length size) = true by rw [h.1, show Nat.beq (valCells v).length size = true by rw [Nat.beq_eq]; exact h.2]; rfl]
      by_cases hl : off + (valCells v).length ≤ c.length
      · rw [if_pos hl, if_pos hl]; rfl
      · rw [if_neg hl, if_neg hl]; rfl
    · rw [if_neg h]
      have : (notTuple v && Nat.beq (valCells v).length size) = false := by
        rw [← Bool.not_eq_true]
        intro hh
        rw [Bool.and_eq_true, Nat.beq_eq] at hh
        exact h hh
      rw [this]; rfl
theorem fbuild_go (place : Nat → Option (Nat × Nat)) (z : List Value) (ps : List (Nat × Value)) (σ : FState) : fbuild place z ps σ = (match lay place ps z with | some c => .val (.agg c.toArray) σ | none => .no) := by
  unfold fbuild
  cases lay place ps z <;> rfl
theorem fbuildSlice_go (e n s : Nat) (z : List Value) (ps : List (Nat × Value)) (σ : FState) : fbuildSlice e n s z ps σ = (match lay (fun i => some (i * s, s)) ps (reps n z) with | some c => .val (.slice (some ⟨σ.next, 0, none⟩) n n) (σ.push (.cells c e) none) | none => .no) := by
  unfold fbuildSlice
  cases lay (fun i => some (i * s, s)) ps (reps n z) <;> rfl
theorem reps_zero {α : Type} (z : List α) : reps 0 z = [] := rfl
theorem reps_succ {α : Type} (n : Nat) (z : List α) : reps (n + 1) z = z ++ reps n z := rfl
theorem fstoreN (n b off : Nat) (v : Value) (σ : FState) : fstore n (.pointer (some ⟨b, off, none⟩)) v σ =
    (match σ.heap.get b with
     | some e => (match e.obj, e.ro with
       | .cells c el, false => if notTuple v = true ∧ (valCells v).length = n ∧ (valCells v).all oneCell = true then
           (if off + (valCells v).length ≤ c.length then .skip (σ.put b (.cells (c.take off ++ valCells v ++ c.drop (off + (valCells v).length)) el) e.fz) else .no) else .no
       | _, _ => .no)
     | none => .no) := by
  unfold fstore
  cases hg : σ.heap.get b with
  | none => simp only [hg]
  | some e =>
    obtain ⟨o, ro, fz, ver⟩ := e
    simp only [hg]
    cases o with
    | cells c el => cases ro with
      | true => rfl
      | false =>
        simp only [len_eq, spliceN_eq]
        by_cases h : notTuple v = true ∧ (valCells v).length = n ∧ (valCells v).all oneCell = true
        · rw [if_pos h, show (notTuple v && Nat.beq (valCells v).length n && (valCells v).all oneCell) = true by rw [h.1, h.2.2, show Nat.beq (valCells v).length n = true by rw [Nat.beq_eq]; exact h.2.1]; rfl]
          by_cases hl : off + (valCells v).length ≤ c.length
          · rw [if_pos hl, if_pos hl]; rfl
          · rw [if_neg hl, if_neg hl]; rfl
        · rw [if_neg h]
          have : (notTuple v && Nat.beq (valCells v).length n && (valCells v).all oneCell) = false := by
            rw [← Bool.not_eq_true]
            intro hh
            rw [Bool.and_eq_true, Bool.and_eq_true, Nat.beq_eq] at hh
            exact h ⟨hh.1.1, hh.1.2, hh.2⟩
          rw [this]; rfl
    | _ => cases ro <;> rfl
theorem leave_cell (P : Program) (E : Env) (c : Tmp) (t : TypeId) (a : FAct) (u : Option FrameMode) (σ : FState) : fleave P E [.cell c t] a u [] .returning σ =
    (match aggSize P t with
     | some sz => (match fload sz (a.get c) σ with
       | .val v _ => .ret v u σ
       | _ => .no)
     | none => .no) := by
  rw [fleave_nil]
  show (match (match fresult P (.cell c t) a σ, some [] with | some v, some vs => some (v :: vs) | _, _ => none) with | some [v] => CRes.ret v u σ | some vs => _ | none => _) = _
  unfold fresult
  simp only []
  cases h : aggSize P t with
  | none => simp only []
  | some sz =>
    simp only []
    cases h2 : fload sz (a.get c) σ <;> simp only []
end Go.Eng
namespace Go.Eng
open Go
theorem fops_congr {a a' : FAct} {σ σ' : FState} (E : Env) (ro : Option Nat) (l : List COp) (u : Option FrameMode) (h : a = a') (k : σ = σ') : fops E ro l a u σ = fops E ro l a' u σ' := by rw [h, k]
theorem fdraw_congr {a a' : FAct} {σ σ' : FState} {cl cl' : List Nat} (E : Env) (ro : Option Nat) (last : List Nat → RunF) (l : List DOp) (u : Option FrameMode) (h0 : cl = cl') (h : a = a') (k : σ = σ') : fdraw E ro last l cl a u σ = fdraw E ro last l cl' a' u σ' := by rw [h0, h, k]
theorem afterOp_congr {a a' : FAct} {r r' : ORes} (E : Env) (ro : Option Nat) (dst : Option Tmp) (u : Option FrameMode) (k : RunF) (h : a = a') (h2 : r = r') : afterOp E ro dst a u k r = afterOp E ro dst a' u k r' := by rw [h, h2]
theorem drawF_congr {a a' : FAct} {r r' : ORes} {σ σ' : FState} (dst : Option Tmp) (u : Option FrameMode) (k : RunF) (h : a = a') (h1 : σ = σ') (h2 : r = r') : drawF dst a u σ k r = drawF dst a' u σ' k r' := by rw [h, h1, h2]
end Go.Eng
namespace Go.Eng
open Go
mutual
theorem Laid.extC {x : Nat} {c3 : List Value} {σ σ' : FState} (hw : Wf σ) (hx : σ.cells x = some c3) (h3 : c3.length < 4) (h : ExtC x σ σ') : ∀ {v : Value} {d : D}, Laid σ v d → Laid σ' v d
  | _, .mk _ _ _ _, ⟨p, c, hv, he⟩ => ⟨p, c, hv, LaidE.extC hw hx h3 h he⟩
theorem LaidE.extC {x : Nat} {c3 : List Value} {σ σ' : FState} (hw : Wf σ) (hx : σ.cells x = some c3) (h3 : c3.length < 4) (h : ExtC x σ σ') : ∀ {p : Option Addr} {i : Nat} {ds : List D}, LaidE σ p i ds → LaidE σ' p i ds
  | _, _, [], _ => trivial
  | _, _, _ :: _, ⟨⟨b, off, cs, hp, hc, hl, hd⟩, hr⟩ =>
    have hb : b ≠ x := fun hb => by
      rw [hb, hx] at hc
      cases hc
      omega
    ⟨⟨b, off, cs, hp, (h.cells (hw.cells hc) hb).trans hc, hl, Laid.extC hw hx h3 h hd⟩, LaidE.extC hw hx h3 h hr⟩
end
end Go.Eng
namespace Go.Eng
open Go
mutual
/-- A value reads as a datum, all of whose blocks are of some sort. -/
def LaidR (R : Nat → Prop) (σ : FState) : Value → D → Prop
  | v, .mk k n t ds => ∃ p c, v = .agg #[.int .i64 k, .int .i64 n, .string t, .slice p ds.length c] ∧ LaidRE R σ p 0 ds
def LaidRE (R : Nat → Prop) (σ : FState) : Option Addr → Nat → List D → Prop
  | _, _, [] => True
  | p, i, d :: ds => (∃ b off cs, p = some ⟨b, off, none⟩ ∧ R b ∧ σ.cells b = some cs ∧ 4 ≤ cs.length - (off + i * 4) ∧ LaidR R σ (.agg ((cs.drop (off + i * 4)).take 4).toArray) d) ∧ LaidRE R σ p (i + 1) ds
end
mutual
theorem LaidR.laid {R : Nat → Prop} {σ : FState} : ∀ {v : Value} {d : D}, LaidR R σ v d → Laid σ v d
  | _, .mk _ _ _ _, ⟨p, c, hv, he⟩ => ⟨p, c, hv, LaidRE.laid he⟩
theorem LaidRE.laid {R : Nat → Prop} {σ : FState} : ∀ {p : Option Addr} {i : Nat} {ds : List D}, LaidRE R σ p i ds → LaidE σ p i ds
  | _, _, [], _ => trivial
  | _, _, _ :: _, ⟨⟨b, off, cs, hp, _, hc, hl, hd⟩, hr⟩ => ⟨⟨b, off, cs, hp, hc, hl, LaidR.laid hd⟩, LaidRE.laid hr⟩
end
mutual
theorem LaidR.keep {R R' : Nat → Prop} {σ σ' : FState} (h : ∀ b cs, R b → σ.cells b = some cs → σ'.cells b = some cs ∧ R' b) : ∀ {v : Value} {d : D}, LaidR R σ v d → LaidR R' σ' v d
  | _, .mk _ _ _ _, ⟨p, c, hv, he⟩ => ⟨p, c, hv, LaidRE.keep h he⟩
theorem LaidRE.keep {R R' : Nat → Prop} {σ σ' : FState} (h : ∀ b cs, R b → σ.cells b = some cs → σ'.cells b = some cs ∧ R' b) : ∀ {p : Option Addr} {i : Nat} {ds : List D}, LaidRE R σ p i ds → LaidRE R' σ' p i ds
  | _, _, [], _ => trivial
  | _, _, _ :: _, ⟨⟨b, off, cs, hp, hR, hc, hl, hd⟩, hr⟩ => ⟨⟨b, off, cs, hp, (h b cs hR hc).2, (h b cs hR hc).1, hl, LaidR.keep h hd⟩, LaidRE.keep h hr⟩
end
/-- New blocks. -/
def New (σ σ' : FState) (b : Nat) : Prop := σ.next ≤ b ∧ b < σ'.next
/-- A list of data, one behind the other in the cells of a block. -/
def Row (R : Nat → Prop) (σ : FState) (cs : List Value) (ds : List D) : Prop := cs.length = ds.length * 4 ∧ cs.all oneCell = true ∧ ∀ (i : Nat) (d : D), ds[i]? = some d → LaidR R σ (.agg ((cs.drop (i * 4)).take 4).toArray) d
theorem Row.nil (R : Nat → Prop) (σ : FState) : Row R σ [] [] := ⟨rfl, rfl, fun i d h => by simp at h⟩
theorem Row.keep {R R' : Nat → Prop} {σ σ' : FState} (h : ∀ b cs, R b → σ.cells b = some cs → σ'.cells b = some cs ∧ R' b) {cs : List Value} {ds : List D} (hr : Row R σ cs ds) : Row R' σ' cs ds := ⟨hr.1, hr.2.1, fun i d hd => (hr.2.2 i d hd).keep h⟩
theorem LaidR.agg {R : Nat → Prop} {σ : FState} {v : Value} {d : D} (h : LaidR R σ v d) : ∃ l : List Value, v = .agg l.toArray ∧ l.length = 4 ∧ l.all oneCell = true := by
  obtain ⟨k, n, t, ds⟩ := d
  obtain ⟨p, c, rfl, _⟩ := h
  exact ⟨_, rfl, rfl, rfl⟩
theorem Row.snoc {R : Nat → Prop} {σ : FState} {cs l : List Value} {ds : List D} {d : D} (hr : Row R σ cs ds) (hl : l.length = 4) (ho : l.all oneCell = true) (hd : LaidR R σ (.agg l.toArray) d) : Row R σ (cs ++ l) (ds ++ [d]) := by
  refine ⟨by simp [hr.1, hl]; omega, by simp [hr.2.1, ho], fun i e he => ?_⟩
  by_cases hi : i < ds.length
  · rw [List.getElem?_append_left hi] at he
    have := hr.2.2 i e he
    rwa [List.drop_append_of_le_length (by rw [hr.1]; omega), List.take_append_of_le_length (by rw [List.length_drop, hr.1]; omega)]
  · rw [List.getElem?_append_right (by omega)] at he
    obtain rfl : i = ds.length := by
      have : i - ds.length < 1 := (List.getElem?_eq_some_iff.1 he).1
      omega
    simp at he
    subst he
    rw [← hr.1, List.drop_left, List.take_of_length_le (by omega)]
    exact hd
theorem Row.elems {R R' : Nat → Prop} {σ : FState} {cs : List Value} {ds : List D} (hr : Row R σ cs ds) {b : Nat} (hb : σ.cells b = some cs) (hR : R' b) (hRR : ∀ c, R c → R' c) : ∀ (i : Nat) (es : List D), (∀ j e, es[j]? = some e → ds[i + j]? = some e) → LaidRE R' σ (some ⟨b, 0, none⟩) i es
  | _, [], _ => trivial
  | i, e :: es, h => by
    have h0 := h 0 e rfl
    have hlt : i + 0 < ds.length := (List.getElem?_eq_some_iff.1 h0).1
    refine ⟨⟨b, 0, cs, rfl, hR, hb, by rw [hr.1]; omega, ?_⟩, Row.elems hr hb hR hRR (i + 1) es fun j e' hj => ?_⟩
    · have := hr.2.2 i e h0
      rw [Nat.zero_add]
      exact this.keep fun c cs hc h => ⟨h, hRR c hc⟩
    · have := h (j + 1) e' (by simpa using hj)
      rwa [show i + 1 + j = i + (j + 1) by omega]
/-! append of one element. -/
theorem loadAll_eq (σ : FState) (b off n : Nat) : loadAll σ b off n = (match σ.cells b with | some c => if n ≤ c.length - off then some ((c.drop off).take n) else none | none => none) := by
  unfold loadAll
  cases σ.cells b with
  | none => rfl
  | some c => simp only [dropN_eq, takeN_eq, List.length_drop]
theorem append_first (e size bytes bx cx : Nat) (new : List Value) (σ : FState) (hx : σ.cells bx = some new) (hs : new.length = size) (ho : new.all oneCell = true) (hb : bytes < 1000) :
    fappend e size bytes (.slice none 0 0) (.slice (some ⟨bx, 0, none⟩) 1 cx) σ = .val (.slice (some ⟨σ.next, 0, none⟩) 1 1) (σ.push (.cells new e) (some size)) := by
  unfold fappend fnew
  simp only [loadAll_eq, hx, List.drop_zero, Nat.one_mul, Nat.sub_zero, hs, Nat.le_refl, if_true]
  rw [show new.take size = new from List.take_of_length_le (by omega), ho]
  show fappend2 e size bytes 0 0 none 1 new σ = _
  unfold fappend2
  rw [show Nat.ble (0 + 1) 0 = false from rfl, show Nat.ble ((0 + 1) * (bytes + 1)) 1000000000 = true by rw [Nat.ble_eq]; omega]
  rfl
theorem append_more (e size bytes b bx cx len ver : Nat) (old new : List Value) (σ : FState) (hb : σ.heap.get b = some ⟨.cells old e, false, some size, ver⟩) (hx : σ.cells bx = some new) (hs : new.length = size) (ho : new.all oneCell = true) (hold : old.length = len * size) (hby : bytes < 1000) (hlen : len < 1000) :
    fappend e size bytes (.slice (some ⟨b, 0, none⟩) len len) (.slice (some ⟨bx, 0, none⟩) 1 cx) σ = .val (.slice (some ⟨(σ.put b (.defd false) none).next, 0, none⟩) (len + 1) (len + 1)) ((σ.put b (.defd false) none).push (.cells (old ++ new) e) (some size)) := by
  have hc := cells_of_get hb
  unfold fappend fnew
  simp only [loadAll_eq, hx, List.drop_zero, Nat.one_mul, Nat.sub_zero, hs, Nat.le_refl, if_true]
  rw [show new.take size = new from List.take_of_length_le (by omega), ho]
  show fappend2 e size bytes len len (some ⟨b, 0, none⟩) 1 new σ = _
  unfold fappend2
  have hm : (len + 1) * (bytes + 1) ≤ 1000 * 1000 := Nat.mul_le_mul (by omega) (by omega)
  rw [show Nat.ble (len + 1) len = false by rw [← Bool.not_eq_true, Nat.ble_eq]; omega, show Nat.ble ((len + 1) * (bytes + 1)) 1000000000 = true by rw [Nat.ble_eq]; omega]
  show fappendGrow e size len len (some ⟨b, 0, none⟩) 1 new σ = _
  unfold fappendGrow
  simp only [loadAll_eq, hc, hb, List.drop_zero, Nat.sub_zero, hold, Nat.le_refl, if_true]
  rw [show Nat.beq len len = true by rw [Nat.beq_eq], show Nat.beq size size = true by rw [Nat.beq_eq], List.take_of_length_le (by omega)]
  rfl
end Go.Eng
namespace Go.Eng
open Go
/-! Deferred calls, closures, results. -/
section
variable (P : Program) (E : Env) (rs : List ResultVar) (a : FAct) (u : Option FrameMode) (σ : FState)
theorem fcallV_func (g : FuncId) (first cap : Array Value) (args : List Value) : fcallV (.func (.func g) first cap) args σ = .enter g (first.toList ++ args ++ cap.toList) σ := rfl
theorem fdefer_func (g : FuncId) (first cap : Array Value) (args : List Value) : fdefer (.func (.func g) first cap) args σ = .defer { target := .fn (.func g) cap, args := (first.toList ++ args).toArray } σ := rfl
theorem after_defer (nl nt : Nat) (f g : Nat → Value) (ds : List Deferred) (d : Deferred) (k : RunF) : afterOp E none none (Sl nl nt f g ds) u k (.defer d σ) = k (Sl nl nt f g (d :: ds)) u σ := rfl
theorem after_recover (dst : Option Tmp) (k : RunF) : afterOp E none dst a (some .returning) k (.recover σ) = k (a.put dst .nilIface) (some .returning) σ := rfl
theorem fleave_fn (f : FuncId) (cap args : Array Value) (ds : List Deferred) : fleave P E rs a u ({ target := .fn (.func f) cap, args := args } :: ds) .returning σ =
    (match E.call f (args.toList ++ cap.toList) (some .returning) σ with
     | .ret _ (some md') σ => fleave P E rs a u ds (unrecovered md') σ
     | .pan ch (some md') σ => fleave P E rs a u ds (raised md' ch) σ
     | _ => .no) := rfl
theorem unrecovered_returning : unrecovered .returning = .returning := rfl
theorem fresults_nil : fresults P [] a σ = some [] := rfl
theorem fresults_cons (r : ResultVar) : fresults P (r :: rs) a σ = (match fresult P r a σ, fresults P rs a σ with | some v, some vs => some (v :: vs) | _, _ => none) := rfl
theorem fresult_tmp (t : Tmp) : fresult P (.tmp t) a σ = some (a.get t) := rfl
theorem fresult_cell (c : Tmp) (t : TypeId) : fresult P (.cell c t) a σ = (match aggSize P t with
    | some sz => (match fload sz (a.get c) σ with
      | .val v _ => some v
      | _ => none)
    | none => none) := rfl
theorem leave_none : fleave P E [] a u [] .returning σ = .ret (.tuple #[]) u σ := rfl
theorem fextract_go (i : Nat) (l : List Value) : fextract i (.tuple l.toArray) σ = (match l[i]? with | some x => .val x σ | none => .no) := by
  unfold fextract
  simp only [List.getElem?_toArray]
  cases l[i]? <;> rfl
end
end Go.Eng
namespace Go.Eng
open Go
/-! Slices cut short, and appends within room. -/
theorem fslice_hi (P : Program) (t e size b off ln cap h : Nat) (σ : FState) (hu : under P t = some (.slice e)) (hs : sizeOfT P e = some size) (hh : h ≤ cap) (c : List Value) (el : TypeId) (ro : Bool) (fz : Option Nat) (ver : Nat)
    (hb : σ.heap.get b = some ⟨.cells c el, ro, fz, ver⟩) (hfz : fz = none ∨ fz = some size) :
    fslice P t (.slice (some ⟨b, off, none⟩) ln cap) none (some (.int .i64 (.ofNat h))) none σ = .val (.slice (some ⟨b, off, none⟩) h cap) σ := by
  have hc : capOk size none b σ = true := by
    unfold capOk
    simp only [hb]
    rcases hfz with rfl | rfl
    · rfl
    · show Nat.beq size size = true
      rw [Nat.beq_eq]
  have hbd : bounds3 ln cap none (some (.int .i64 (.ofNat h))) none = some (0, h, cap) := by
    show (match hiOf ln cap (some (.int .i64 (.ofNat h))) none with | none => none | some h => (match loOf h none with | none => none | some l => some (l, h, cap))) = _
    have : hiOf ln cap (some (.int .i64 (.ofNat h))) none = some h := by
      show cond (Nat.ble h cap) (some h) none = some h
      rw [show Nat.ble h cap = true by rw [Nat.ble_eq]; exact hh]
      rfl
    rw [this]
    rfl
  unfold fslice
  simp only [hu, hs]
  unfold fsliceL
  simp only [hbd, hc]
  show ORes.val (.slice (some ⟨b, off + 0 * size, none⟩) (h - 0) (cap - 0)) σ = _
  simp
theorem fslice_3 (P : Program) (t e size b off ln cap h : Nat) (σ : FState) (hu : under P t = some (.slice e)) (hs : sizeOfT P e = some size) (hh : h ≤ cap) :
    fslice P t (.slice (some ⟨b, off, none⟩) ln cap) none (some (.int .i64 (.ofNat h))) (some (.int .i64 (.ofNat h))) σ = .val (.slice (some ⟨b, off, none⟩) h h) σ := by
  have hbd : bounds3 ln cap none (some (.int .i64 (.ofNat h))) (some (.int .i64 (.ofNat h))) = some (0, h, h) := by
    have h1 : mxOf cap (some (.int .i64 (.ofNat h))) = some h := by
      show cond (Nat.ble h cap) (some h) none = some h
      rw [show Nat.ble h cap = true by rw [Nat.ble_eq]; exact hh]
      rfl
    have h2 : hiOf ln h (some (.int .i64 (.ofNat h))) (some (.int .i64 (.ofNat h))) = some h := by
      show cond (Nat.ble h h) (some h) none = some h
      rw [show Nat.ble h h = true by rw [Nat.ble_eq]; exact Nat.le_refl _]
      rfl
    unfold bounds3
    rw [h1]
    simp only [h2]
    rfl
  unfold fslice
  simp only [hu, hs]
  unfold fsliceL
  simp only [hbd]
  show ORes.val (.slice (some ⟨b, off + 0 * size, none⟩) (h - 0) (h - 0)) σ = _
  simp
/-- append of one cell where there is room. -/
theorem append1_room (e bytes b bx cx len cap ver : Nat) (fz : Option Nat) (el : TypeId) (c : List Value) (v : Value) (σ : FState) (hb : σ.heap.get b = some ⟨.cells c el, false, fz, ver⟩) (hx : σ.cells bx = some [v]) (ho : oneCell v = true) (hlt : len < cap) (hc : cap ≤ c.length) :
    fappend e 1 bytes (.slice (some ⟨b, 0, none⟩) len cap) (.slice (some ⟨bx, 0, none⟩) 1 cx) σ = .val (.slice (some ⟨b, 0, none⟩) (len + 1) cap) (σ.put b (.cells (c.set len v) el) fz) := by
  unfold fappend fnew
  simp only [loadAll_eq, hx, List.drop_zero, Nat.one_mul, Nat.sub_zero, List.length_singleton, Nat.le_refl, if_true]
  show cond ([v].all oneCell) (fappend2 e 1 bytes len cap (some ⟨b, 0, none⟩) 1 [v] σ) .no = _
  rw [show [v].all oneCell = true by simp [ho]]
  show fappend2 e 1 bytes len cap (some ⟨b, 0, none⟩) 1 [v] σ = _
  unfold fappend2
  rw [show Nat.ble (len + 1) cap = true by rw [Nat.ble_eq]; omega]
  show fappendRoom 1 len cap (some ⟨b, 0, none⟩) 1 [v] σ = _
  unfold fappendRoom
  simp only [hb, spliceN_eq, List.length_singleton, Nat.mul_one, Nat.zero_add]
  rw [if_pos (by omega)]
  simp only []
  congr 3
  rw [List.set_eq_take_append_cons_drop, if_pos (by omega)]
  simp
/-- append of one cell where there is none. -/
theorem append1_full (e bytes b bx cx len ver : Nat) (fz : Option Nat) (old : List Value) (v : Value) (σ : FState) (hb : σ.heap.get b = some ⟨.cells old e, false, fz, ver⟩) (hfz : fz = none ∨ fz = some 1) (hx : σ.cells bx = some [v]) (ho : oneCell v = true) (hl : old.length = len) (hby : bytes < 1000) (hlen : len < 100000) :
    ∃ τ, fappend e 1 bytes (.slice (some ⟨b, 0, none⟩) len len) (.slice (some ⟨bx, 0, none⟩) 1 cx) σ = .val (.slice (some ⟨σ.next, 0, none⟩) (len + 1) (len + 1)) τ ∧ (τ = σ.push (.cells (old ++ [v]) e) (some 1) ∨ τ = (σ.put b (.defd false) none).push (.cells (old ++ [v]) e) (some 1)) := by
  have hc := cells_of_get hb
  unfold fappend fnew
  simp only [loadAll_eq, hx, List.drop_zero, Nat.one_mul, Nat.sub_zero, List.length_singleton, Nat.le_refl, if_true]
  have h1 : (List.take 1 [v]).all oneCell = true := by simp [ho]
  rw [h1]
  show ∃ τ, fappend2 e 1 bytes len len (some ⟨b, 0, none⟩) 1 [v] σ = _ ∧ _
  have hm : (len + 1) * (bytes + 1) ≤ 100000 * 1000 := Nat.mul_le_mul (by omega) (by omega)
  unfold fappend2
  rw [show Nat.ble (len + 1) len = false by rw [← Bool.not_eq_true, Nat.ble_eq]; omega, show Nat.ble ((len + 1) * (bytes + 1)) 1000000000 = true by rw [Nat.ble_eq]; omega]
  show ∃ τ, fappendGrow e 1 len len (some ⟨b, 0, none⟩) 1 [v] σ = _ ∧ _
  unfold fappendGrow
  simp only [loadAll_eq, hc, hb, List.drop_zero, Nat.sub_zero, Nat.mul_one, hl, Nat.le_refl, if_true]
  rw [List.take_of_length_le (by omega)]
  rcases hfz with rfl | rfl
  · exact ⟨_, rfl, .inl rfl⟩
  · rw [show Nat.beq len len = true by rw [Nat.beq_eq]]
    exact ⟨_, rfl, .inr rfl⟩
attribute [go_sem] seqR_go  fops_c  fops_nil  fdraw_f  fdraw_a  fdraw_nil'  drawR_go  retR_go  skipR_go  exitR_go  after_val  after_skip  after_enter  after_ret  andThen_normal  andThen_ret  andThen_exit  put_none          nth_zero  nth_succ  drawF_val  drawF_push  stepOp_eq  drawA_normal  view_next  push_next  push_clock  put_next  put_clock  box_go  newCells_go  notTuple_agg  notTuple_int  notTuple_string  notTuple_bool  notTuple_slice  notTuple_pointer  valCells_agg  valCells_int  valCells_string  valCells_bool  valCells_slice  valCells_pointer  ffield_eq  fload1  floadN  cells_push  cells_put  cells?_cells  gd_true  gd_false  gd_skip  fpick_eq  eql_int  neq_int  lss_int  leq_int  gtr_int  geq_int  add_int  sub_int  mul_int  eql_str  neq_str  not_go  flenL_eq  flenS_eq  Nat.add_zero  Nat.zero_add  Nat.add_left_cancel_iff  Nat.add_eq_left  Nat.left_eq_add  List.getElem?_cons_zero  List.getElem?_cons_succ  beq_self_eq_true  Bool.not_true  Bool.not_false  cond_true  cond_false  leaveR_ret  leaveR_normal  leave_tmp  leave_tmp2  leave_tmp3  condR_val  Bool.false_eq_true  blockR_k  blockK_normal  blockK_ret  blockK_exit  loopR_go  findex_eq  List.not_mem_nil  or_false  or_true  List.cons_append  List.nil_append  add_u64  mul_u64  xor_u64  shr32_u64  shr27_u64  shr9_u64  nilCheck_ptr  fstore1  push_get  put_get  List.set_cons_zero  List.set_cons_succ  List.length_cons  List.length_nil  oneCell_int  oneCell_string  oneCell_bool  oneCell_slice  oneCell_pointer  fcallV_func  fdefer_func  List.toList_toArray  after_defer  after_recover  fleave_fn  unrecovered_returning  leave_none  fextract_go  Nat.add_assoc  lay_nil  lay_cons  fbuild_go  fbuildSlice_go  reps_zero  reps_succ  leave_cell  List.take_zero  List.take_succ_cons  List.drop_zero  List.drop_succ_cons  List.drop_nil  List.take_nil  List.append_nil  Nat.zero_mul  Nat.one_mul      and_self  true_and    Nat.sub_zero  List.all_cons  List.all_nil  Bool.and_self  Bool.and_true  Nat.mul_one  Sl_get  Sl_put  Sl_defers  Sl_nl  Sl_forget  upd_go  kept_go
end Go.Eng
