/- How the reading's memory stands to the model's: the relation, and what keeps it. -/
import Derived.Test.YtaijefddfkcfhaaGreatDoorEngA
namespace Go.Eng
open Go

structure MEnt where
  blk : Nat
  sh : Nat
  ro : Bool
  cap : Option (Nat × Nat × Nat)
abbrev Mp := Nat → Option MEnt

def CapRel (e : MEnt) (off c c' : Nat) : Prop :=
  c = c' ∨ ∃ esz asz csz, e.cap = some (esz, asz, csz) ∧ off + c * esz = asz ∧ c ≤ c' ∧ e.sh + off + c' * esz ≤ csz

inductive FnRel (m : Mp) : Fn → Fn → Prop
  | func (f : FuncId) : FnRel m (.func f) (.func f)
  | yield {l : Nat} {e : MEnt} (h : m l = some e) : FnRel m (.yield l) (.yield e.blk)

inductive VRel (m : Mp) : Value → Value → Prop
  | unknown (v : Value) : VRel m (.tuple #[]) v
  | skip : VRel m (.chan none) (.tuple #[])
  | bool (b : Bool) : VRel m (.bool b) (.bool b)
  | int (k : IntKind) (n : Int) : VRel m (.int k n) (.int k n)
  | string (s : ByteArray) : VRel m (.string s) (.string s)
  | float (k : FloatKind) (n : Nat) : VRel m (.float k n) (.float k n)
  | nilPtr : VRel m (.pointer none) (.pointer none)
  | ptr {b off : Nat} {e : MEnt} (h : m b = some e) : VRel m (.pointer (some ⟨b, off, none⟩)) (.pointer (some ⟨e.blk, e.sh + off, none⟩))
  | nilSlice (l c : Nat) : VRel m (.slice none l c) (.slice none l c)
  | slice {b off l c c' : Nat} {e : MEnt} (h : m b = some e) (hc : CapRel e off c c') : VRel m (.slice (some ⟨b, off, none⟩) l c) (.slice (some ⟨e.blk, e.sh + off, none⟩) l c')
  | empty {b off : Nat} {e : MEnt} {a' : Addr} (h : m b = some e) : VRel m (.slice (some ⟨b, off, none⟩) 0 0) (.slice (some a') 0 0)
  | nilMap : VRel m (.map none) (.map none)
  | map {r : Nat} {e : MEnt} (h : m r = some e) : VRel m (.map (some r)) (.map (some e.blk))
  | nilFunc : VRel m .nilFunc .nilFunc
  | func {fn fn' : Fn} {a b a' b' : Array Value} (hf : FnRel m fn fn') (ha : a.size = a'.size) (hb : b.size = b'.size)
      (hA : ∀ (i : Nat) (v v' : Value), a[i]? = some v → a'[i]? = some v' → VRel m v v') (hB : ∀ (i : Nat) (v v' : Value), b[i]? = some v → b'[i]? = some v' → VRel m v v') :
      VRel m (.func fn a b) (.func fn' a' b')
  | nilIface : VRel m .nilIface .nilIface
  | iface (t : TypeId) {v v' : Value} (h : VRel m v v') : VRel m (.iface t v) (.iface t v')
  | agg {a a' : Array Value} (ha : a.size = a'.size) (hA : ∀ (i : Nat) (v v' : Value), a[i]? = some v → a'[i]? = some v' → VRel m v v') : VRel m (.agg a) (.agg a')
  | tuple {a a' : Array Value} (ha : a.size = a'.size) (hA : ∀ (i : Nat) (v v' : Value), a[i]? = some v → a'[i]? = some v' → VRel m v v') : VRel m (.tuple a) (.tuple a')

def Mp.le (m m' : Mp) : Prop := ∀ b e, m b = some e → m' b = some e

theorem VRel.mono {m m' : Mp} (h : m.le m') {v v' : Value} (hv : VRel m v v') : VRel m' v v' := by
  induction hv with
  | unknown v => exact .unknown v
  | skip => exact .skip
  | bool b => exact .bool b
  | int k n => exact .int k n
  | string s => exact .string s
  | float k n => exact .float k n
  | nilPtr => exact .nilPtr
  | ptr hm => exact .ptr (h _ _ hm)
  | nilSlice l c => exact .nilSlice l c
  | slice hm hc => exact .slice (h _ _ hm) hc
  | empty hm => exact .empty (h _ _ hm)
  | nilMap => exact .nilMap
  | map hm => exact .map (h _ _ hm)
  | nilFunc => exact .nilFunc
  | func hf ha hb _ _ ihA ihB =>
    refine .func ?_ ha hb ihA ihB
    cases hf with
    | func f => exact .func f
    | yield hl => exact .yield (h _ _ hl)
  | nilIface => exact .nilIface
  | iface t _ ih => exact .iface t ih
  | agg ha _ ih => exact .agg ha ih
  | tuple ha _ ih => exact .tuple ha ih

theorem VRel.flat {m : Mp} {v v' : Value} (h : VRel m v v') (hf : flat v = true) : v' = v := by
  cases h <;> first | rfl | (simp [Eng.flat] at hf)

theorem VRel.of_simple {m : Mp} {v : Value} (h : simple1 v = true) : VRel m v v := by
  cases v with
  | bool b => exact .bool b
  | int k n => exact .int k n
  | float k n => exact .float k n
  | string s => exact .string s
  | pointer a => cases a with
    | none => exact .nilPtr
    | some a => simp [simple1] at h
  | slice a l c => cases a with
    | none => exact .nilSlice l c
    | some a => simp [simple1] at h
  | map r => cases r with
    | none => exact .nilMap
    | some a => simp [simple1] at h
  | nilFunc => exact .nilFunc
  | nilIface => exact .nilIface
  | _ => simp [simple1] at h
theorem VRel.of_const {m : Mp} {v : Value} (h : okConst v = true) : VRel m v v := by
  cases v with
  | agg cs =>
    simp only [okConst] at h
    refine .agg rfl fun i x y hx hy => ?_
    rw [hx] at hy
    cases hy
    refine .of_simple (List.all_eq_true.1 h x ?_)
    rw [Array.mem_toList_iff]
    exact Array.mem_of_getElem? hx
  | iface t v => exact .iface t (.of_simple h)
  | _ => exact .of_simple h

/-- Two lists, element by element. -/
def LRel (m : Mp) (l l' : List Value) : Prop := l.length = l'.length ∧ ∀ (i : Nat) (v v' : Value), l[i]? = some v → l'[i]? = some v' → VRel m v v'

section
variable {m m' : Mp}
theorem LRel.nil : LRel m [] [] := ⟨rfl, fun i v v' h => by simp at h⟩
theorem LRel.cons {v v' : Value} {l l' : List Value} (h : VRel m v v') (hl : LRel m l l') : LRel m (v :: l) (v' :: l') := by
  refine ⟨by simp [hl.1], fun i x x' hx hx' => ?_⟩
  cases i with
  | zero =>
    simp at hx hx'
    subst hx; subst hx'
    exact h
  | succ k => exact hl.2 k x x' (by simpa using hx) (by simpa using hx')
theorem LRel.head {v v' : Value} {l l' : List Value} (h : LRel m (v :: l) (v' :: l')) : VRel m v v' := h.2 0 v v' rfl rfl
theorem LRel.tail {v v' : Value} {l l' : List Value} (h : LRel m (v :: l) (v' :: l')) : LRel m l l' :=
  ⟨by simpa using h.1, fun i x x' hx hx' => h.2 (i + 1) x x' (by simpa using hx) (by simpa using hx')⟩
theorem LRel.mono (h : m.le m') {l l' : List Value} (hl : LRel m l l') : LRel m' l l' := ⟨hl.1, fun i v v' a b => (hl.2 i v v' a b).mono h⟩
theorem LRel.append {a a' b b' : List Value} (ha : LRel m a a') (hb : LRel m b b') : LRel m (a ++ b) (a' ++ b') := by
  refine ⟨by simp [ha.1, hb.1], fun i v v' h h' => ?_⟩
  by_cases hi : i < a.length
  · rw [List.getElem?_append_left hi] at h
    rw [List.getElem?_append_left (by rw [← ha.1]; exact hi)] at h'
    exact ha.2 i v v' h h'
  · rw [List.getElem?_append_right (by omega)] at h
    rw [List.getElem?_append_right (by rw [← ha.1]; omega)] at h'
    exact hb.2 _ v v' h (by rw [ha.1]; exact h')
theorem LRel.get {l l' : List Value} (h : LRel m l l') {i : Nat} {v : Value} (hv : l[i]? = some v) : ∃ v', l'[i]? = some v' ∧ VRel m v v' := by
  have hi : i < l'.length := by
    rw [← h.1]
    exact (List.getElem?_eq_some_iff.1 hv).1
  exact ⟨l'[i], List.getElem?_eq_getElem hi, h.2 i v _ hv (List.getElem?_eq_getElem hi)⟩
theorem LRel.of_array {a a' : Array Value} (ha : a.size = a'.size) (hA : ∀ (i : Nat) (v v' : Value), a[i]? = some v → a'[i]? = some v' → VRel m v v') : LRel m a.toList a'.toList :=
  ⟨by simpa using ha, fun i v v' h h' => hA i v v' (by simpa using h) (by simpa using h')⟩
theorem LRel.agg {l l' : List Value} (h : LRel m l l') : VRel m (.agg l.toArray) (.agg l'.toArray) :=
  .agg (by simpa using h.1) fun i v v' a b => h.2 i v v' (by simpa using a) (by simpa using b)
theorem LRel.tuple {l l' : List Value} (h : LRel m l l') : VRel m (.tuple l.toArray) (.tuple l'.toArray) :=
  .tuple (by simpa using h.1) fun i v v' a b => h.2 i v v' (by simpa using a) (by simpa using b)
theorem LRel.take {l l' : List Value} (h : LRel m l l') (n : Nat) : LRel m (l.take n) (l'.take n) := by
  refine ⟨by simp [h.1], fun i v v' a b => ?_⟩
  by_cases hi : i < n
  · rw [List.getElem?_take_of_lt hi] at a b
    exact h.2 i v v' a b
  · rw [List.getElem?_take_eq_none (by omega)] at a
    cases a
theorem LRel.drop {l l' : List Value} (h : LRel m l l') (n : Nat) : LRel m (l.drop n) (l'.drop n) := by
  refine ⟨by simp [h.1], fun i v v' a b => ?_⟩
  rw [List.getElem?_drop] at a b
  exact h.2 _ v v' a b
theorem LRel.of_simple {l : List Value} (h : l.all simple1 = true) : LRel m l l :=
  ⟨rfl, fun i v v' a b => by
    rw [a] at b
    cases b
    exact .of_simple (List.all_eq_true.1 h v (List.mem_of_getElem? a))⟩
theorem LRel.all_flat {l l' : List Value} (h : LRel m l l') (hf : l.all Eng.flat = true) : l' = l := by
  induction l generalizing l' with
  | nil => cases l' with
    | nil => rfl
    | cons x t => simp [LRel] at h
  | cons x t ih => cases l' with
    | nil => simp [LRel] at h
    | cons x' t' =>
      simp only [List.all_cons, Bool.and_eq_true] at hf
      rw [h.head.flat hf.1, ih h.tail hf.2]
end

theorem oneCell_of_rel {m : Mp} {v v' : Value} (h : VRel m v v') (ho : oneCell v = true) : oneCell v' = true := by
  cases h <;> first | rfl | (simp [oneCell] at ho)
theorem valCells_rel {m : Mp} {v v' : Value} (h : VRel m v v') (ht : notTuple v = true) : LRel m (valCells v) (valCells v') := by
  cases h with
  | unknown v => simp [notTuple] at ht
  | skip => simp [notTuple] at ht
  | tuple ha hA => simp [notTuple] at ht
  | agg ha hA => exact LRel.of_array ha hA
  | bool b => exact .cons (.bool b) .nil
  | int k n => exact .cons (.int k n) .nil
  | string s => exact .cons (.string s) .nil
  | float k n => exact .cons (.float k n) .nil
  | nilPtr => exact .cons .nilPtr .nil
  | ptr hm => exact .cons (.ptr hm) .nil
  | nilSlice l c => exact .cons (.nilSlice l c) .nil
  | slice hm hc => exact .cons (.slice hm hc) .nil
  | empty hm => exact .cons (.empty hm) .nil
  | nilMap => exact .cons .nilMap .nil
  | map hm => exact .cons (.map hm) .nil
  | nilFunc => exact .cons .nilFunc .nil
  | func hf ha hb hA hB => exact .cons (.func hf ha hb hA hB) .nil
  | nilIface => exact .cons .nilIface .nil
  | iface t hv => exact .cons (.iface t hv) .nil
theorem cells_eq (v : Value) : v.cells.toList = valCells v := by cases v <;> rfl

def ELRel (m : Mp) (es es' : List MapEntry) : Prop :=
  es.length = es'.length ∧ ∀ (i : Nat) (e e' : MapEntry), es[i]? = some e → es'[i]? = some e' → e.key = e'.key ∧ (flat e.key || aggFlat e.key) = true ∧ VRel m e.val e'.val ∧ e.born = e'.born

def TRel (m : Mp) (loc : List Value) (tmp : Nat → Value) (nl nt : Nat) (ts : Array Value) : Prop :=
  ts.size = nt ∧ ∀ t, VRel m (FAct.get ⟨loc, tmp, nl, nt, []⟩ t) (ts.getD t undef)

def alive : FObj → Bool
  | .defd false => false
  | _ => true

def FzRel (fz : Option Nat) (cap : Option (Nat × Nat × Nat)) (n n' : Nat) : Prop :=
  match fz, cap with
  | none, none => True
  | some k, some (k', asz, csz) => k = k' ∧ asz = n ∧ csz = n'
  | _, _ => False

/-- An object stands in the model's memory as in the reading's. -/
def Sync (m : Mp) (o : FObj) (fz : Option Nat) (e : MEnt) (w : World) : Prop :=
  match o with
  | .cells c _ => ∃ (c' : Array Value) (el' : TypeId) (fr : Nat × Nat), w.heap[e.blk]? = some (.cells c' el' fr) ∧ (e.ro = false → fr = (0, 0)) ∧
      (∀ (i : Nat) (v : Value), c[i]? = some v → ∃ v', c'[e.sh + i]? = some v' ∧ VRel m v v') ∧ FzRel fz e.cap c.length c'.size
  | .map es ck => ∃ es', w.heap[e.blk]? = some (.map es' ck) ∧ ELRel m es es'.toList
  | .siter s p => e.sh = 0 ∧ w.heap[e.blk]? = some (.stringIter s p)
  | .loop st pend fn loc tmp nl nt params assign body d => ∃ (ts : Array Value) (ps : Array Tmp) (de : MEnt),
      w.heap[e.blk]? = some (.loop { state := st, pending := pend, fn, tmps := ts, params := ps, assign, body, defers := de.blk }) ∧
      TRel m loc tmp nl nt ts ∧ ps.toList = params ∧ m d = some de
  | .defd true => w.heap[e.blk]? = some (.deferred (some []))
  | .defd false => True

theorem TRel.mono {m m' : Mp} (h : m.le m') {loc : List Value} {tmp : Nat → Value} {nl nt : Nat} {ts : Array Value} (ht : TRel m loc tmp nl nt ts) : TRel m' loc tmp nl nt ts :=
  ⟨ht.1, fun t => (ht.2 t).mono h⟩
theorem ELRel.mono {m m' : Mp} (h : m.le m') {es es' : List MapEntry} (he : ELRel m es es') : ELRel m' es es' :=
  ⟨he.1, fun i e e' a b => let ⟨h1, h2, h3, h4⟩ := he.2 i e e' a b; ⟨h1, h2, h3.mono h, h4⟩⟩

theorem Sync.keep {m m' : Mp} {o : FObj} {fz : Option Nat} {e : MEnt} {w w' : World} (h : Sync m o fz e w) (hm : m.le m') (hw : w'.heap[e.blk]? = w.heap[e.blk]?) : Sync m' o fz e w' := by
  unfold Sync at *
  split at h
  · obtain ⟨c', el', fr, h1, h2, h3, h4⟩ := h
    exact ⟨c', el', fr, hw.trans h1, h2, fun i v hv => let ⟨v', a, b⟩ := h3 i v hv; ⟨v', a, b.mono hm⟩, h4⟩
  · obtain ⟨es', h1, h2⟩ := h
    exact ⟨es', hw.trans h1, h2.mono hm⟩
  · exact ⟨h.1, hw.trans h.2⟩
  · obtain ⟨ts, ps, de, h1, h2, h3, h4⟩ := h
    exact ⟨ts, ps, de, hw.trans h1, h2.mono hm, h3, hm _ _ h4⟩
  · exact hw.trans h
  · trivial

theorem sync_dead {m : Mp} {o : FObj} {fz : Option Nat} {e : MEnt} {w : World} (h : ¬ alive o = true) : Sync m o fz e w := by
  cases o with
  | defd l => cases l with
    | false => trivial
    | true => exact absurd rfl h
  | cells c el => exact absurd rfl h
  | map es ck => exact absurd rfl h
  | siter s p => exact absurd rfl h
  | loop a b c d e f g i j k l => exact absurd rfl h

/-- Pieces of the model's memory that stay as they are: which, and what they hold. -/
class Pins where
  on : Nat → Obj → Prop
variable [Pins]

structure Rel (K : Nat → Prop) (m : Mp) (σ : FState) (w : World) : Prop where
  sync : ∀ b ent e, K b → σ.heap.get b = some ent → m b = some e → ent.ro = e.ro ∧ Sync m ent.obj ent.fz e w
  inj : ∀ b b' ent ent' e e', b ≠ b' → σ.heap.get b = some ent → σ.heap.get b' = some ent' → alive ent.obj = true → alive ent'.obj = true → m b = some e → m b' = some e' → e.blk ≠ e'.blk
  dom : ∀ b e, m b = some e → b < σ.next ∧ e.blk < w.heap.size
  wf : ∀ b ent, σ.heap.get b = some ent → b < σ.next
  pin : ∀ k o, Pins.on k o → w.heap[k]? = some o ∧ ∀ b e, m b = some e → e.ro = false → e.blk ≠ k

/-- What a piece of a run does to the map and to the model's memory: new entries are of new blocks, or go on in old ones; what no entry speaks of is left alone. -/
structure Step (σ σ' : FState) (m m' : Mp) (w w' : World) : Prop where
  le : m.le m'
  next : σ.next ≤ σ'.next
  fresh : ∀ b e, m' b = some e → m b = some e ∨ (m b = none ∧ σ.next ≤ b ∧ e.ro = false ∧ (w.heap.size ≤ e.blk ∨ ∃ b0 e0 ent0, m b0 = some e0 ∧ e0.ro = false ∧ e0.blk = e.blk ∧ σ'.heap.get b0 = some ent0 ∧ σ.clock ≤ ent0.ver))
  size : w.heap.size ≤ w'.heap.size
  keep : ∀ k, k < w.heap.size → (∀ b e ent, m b = some e → e.ro = false → e.blk = k → σ'.heap.get b = some ent → ent.ver < σ.clock) → w'.heap[k]? = w.heap[k]?
  os : w'.os = w.os
  tape : w'.tape = w.tape
  output : w'.output = w.output
  clock : σ.clock ≤ σ'.clock
  ver : ∀ b ent, σ'.heap.get b = some ent → σ.heap.get b = some ent ∨ σ.clock ≤ ent.ver
  has : ∀ b ent, σ.heap.get b = some ent → ∃ ent', σ'.heap.get b = some ent'

omit [Pins] in
theorem Step.refl (σ : FState) (m : Mp) (w : World) : Step σ σ m m w w :=
  ⟨fun _ _ h => h, Nat.le_refl _, fun _ _ h => .inl h, Nat.le_refl _, fun _ _ _ => rfl, rfl, rfl, rfl, Nat.le_refl _, fun _ _ h => .inl h, fun _ ent h => ⟨ent, h⟩⟩
omit [Pins] in
theorem Step.trans {σ σ₁ σ₂ : FState} {m m₁ m₂ : Mp} {w w₁ w₂ : World} (h : Step σ σ₁ m m₁ w w₁) (k : Step σ₁ σ₂ m₁ m₂ w₁ w₂) : Step σ σ₂ m m₂ w w₂ := by
  have later : ∀ b ent, σ₁.heap.get b = some ent → σ.clock ≤ ent.ver → ∃ ent', σ₂.heap.get b = some ent' ∧ σ.clock ≤ ent'.ver := fun b ent hb hv => by
    obtain ⟨ent', h1⟩ := k.has b ent hb
    refine ⟨ent', h1, ?_⟩
    rcases k.ver b ent' h1 with h2 | h2
    · rw [hb] at h2
      cases h2
      exact hv
    · exact Nat.le_trans h.clock h2
  refine ⟨fun b e hb => k.le _ _ (h.le _ _ hb), Nat.le_trans h.next k.next, fun b e hb => ?_, Nat.le_trans h.size k.size, fun j hj hno => ?_, k.os.trans h.os, k.tape.trans h.tape, k.output.trans h.output, Nat.le_trans h.clock k.clock, fun b ent hb => ?_, fun b ent hb => ?_⟩
  · rcases k.fresh b e hb with h1 | ⟨h1, h2, h3, h4⟩
    · rcases h.fresh b e h1 with h5 | ⟨h5, h6, h7, h8⟩
      · exact .inl h5
      · refine .inr ⟨h5, h6, h7, h8.imp id ?_⟩
        rintro ⟨b0, e0, ent0, g1, g2, g3, g4, g5⟩
        obtain ⟨ent', g6, g7⟩ := later b0 ent0 g4 g5
        exact ⟨b0, e0, ent', g1, g2, g3, g6, g7⟩
    · have hn : m b = none := by
        cases hm : m b with
        | none => rfl
        | some x => rw [h.le _ _ hm] at h1; cases h1
      refine .inr ⟨hn, Nat.le_trans h.next h2, h3, ?_⟩
      rcases h4 with h4 | ⟨b0, e0, ent0, h5, h6, h7, h8, h9⟩
      · exact .inl (Nat.le_trans h.size h4)
      · rcases h.fresh b0 e0 h5 with g8 | ⟨_, _, _, g8⟩
        · exact .inr ⟨b0, e0, ent0, g8, h6, h7, h8, Nat.le_trans h.clock h9⟩
        · rcases g8 with g8 | ⟨b1, e1, ent1, g1, g2, g3, g4, g5⟩
          · exact .inl (by omega)
          · obtain ⟨ent', g6, g7⟩ := later b1 ent1 g4 g5
            exact .inr ⟨b1, e1, ent', g1, g2, by omega, g6, g7⟩
  · have untouched : ∀ b e, m b = some e → e.ro = false → e.blk = j → ∀ ent, σ₁.heap.get b = some ent → ent.ver < σ.clock := fun b e hb hro hbl ent hg => by
      obtain ⟨ent', h1⟩ := k.has b ent hg
      have h2 := hno b e ent' hb hro hbl h1
      rcases k.ver b ent' h1 with h3 | h3
      · rw [hg] at h3
        cases h3
        exact h2
      · have := h.clock
        omega
    have h1 := h.keep j hj fun b e ent hb hro hbl hg => untouched b e hb hro hbl ent hg
    have h2 : w₂.heap[j]? = w₁.heap[j]? := by
      refine k.keep j (Nat.lt_of_lt_of_le hj h.size) fun b e ent hb hro heq hg => ?_
      rcases h.fresh b e hb with h5 | ⟨_, _, _, h8⟩
      · exact Nat.lt_of_lt_of_le (hno b e ent h5 hro heq hg) h.clock
      · rcases h8 with h8 | ⟨b1, e1, ent1, g1, g2, g3, g4, g5⟩
        · omega
        · have := untouched b1 e1 g1 g2 (by omega) ent1 g4
          omega
    exact h2.trans h1
  · rcases k.ver b ent hb with h1 | h1
    · exact h.ver b ent h1
    · exact .inr (Nat.le_trans h.clock h1)
  · obtain ⟨ent', h1⟩ := h.has b ent hb
    exact k.has b ent' h1

omit [Pins] in
theorem pin_lt {w : World} {k : Nat} {o : Obj} (h : w.heap[k]? = some o) : k < w.heap.size := (Array.getElem?_eq_some_iff.1 h).1
theorem Rel.weaken {K K' : Nat → Prop} {m : Mp} {σ : FState} {w : World} (h : Rel K m σ w) (hk : ∀ b, K' b → K b) : Rel K' m σ w :=
  ⟨fun b ent e a c d => h.sync b ent e (hk b a) c d, h.inj, h.dom, h.wf, h.pin⟩
/-- Only the memory counts. -/
theorem Rel.sameHeap {K : Nat → Prop} {m : Mp} {σ : FState} {w w' : World} (h : Rel K m σ w) (hw : w'.heap = w.heap) : Rel K m σ w' :=
  ⟨fun b ent e a c d => let ⟨h1, h2⟩ := h.sync b ent e a c d; ⟨h1, h2.keep (fun _ _ x => x) (by rw [hw])⟩, h.inj, fun b e hb => (by rw [hw]; exact h.dom b e hb), h.wf, fun k o hk => ⟨by rw [hw]; exact (h.pin k o hk).1, (h.pin k o hk).2⟩⟩
omit [Pins] in
theorem Step.sameHeap (σ : FState) (m : Mp) {w w' : World} (hw : w'.heap = w.heap) (ho : w'.os = w.os) (ht : w'.tape = w.tape) (hu : w'.output = w.output) : Step σ σ m m w w' :=
  ⟨fun _ _ h => h, Nat.le_refl _, fun _ _ h => .inl h, (by rw [hw]; exact Nat.le_refl _), fun _ _ _ => (by rw [hw]), ho, ht, hu, Nat.le_refl _, fun _ _ h => .inl h, fun _ ent h => ⟨ent, h⟩⟩

def Mp.add (m : Mp) (b : Nat) (e : MEnt) : Mp := fun k => if k = b then some e else m k
omit [Pins] in
theorem Mp.le_add {m : Mp} {b : Nat} (e : MEnt) (h : m b = none) : m.le (m.add b e) := fun k x hk => by
  unfold Mp.add
  by_cases hkb : k = b
  · subst hkb; rw [h] at hk; cases hk
  · rw [if_neg hkb]; exact hk
theorem Rel.none_next {K : Nat → Prop} {m : Mp} {σ : FState} {w : World} (h : Rel K m σ w) : m σ.next = none := by
  cases hm : m σ.next with
  | none => rfl
  | some e => have := (h.dom _ _ hm).1; omega

/-- A new object, in new memory. -/
theorem Rel.push {K : Nat → Prop} {m : Mp} {σ : FState} {w : World} (h : Rel K m σ w) (o : FObj) (fz : Option Nat) (o' : Obj) (e : MEnt) (he : e.blk = w.heap.size) (hro : e.ro = false)
    (hs : Sync (m.add σ.next e) o fz e { w with heap := w.heap.push o' }) :
    Rel (fun b => K b ∨ b = σ.next) (m.add σ.next e) (σ.push o fz) { w with heap := w.heap.push o' } ∧ Step σ (σ.push o fz) m (m.add σ.next e) w { w with heap := w.heap.push o' } := by
  have hle := Mp.le_add e h.none_next
  have hget : ∀ b, (σ.push o fz).heap.get b = if b = σ.next then some ⟨o, false, fz, σ.clock⟩ else σ.heap.get b := fun b => Tr.get_set _ _ _ _
  have hold : ∀ k, k < w.heap.size → (w.heap.push o')[k]? = w.heap[k]? := fun k hk => Array.getElem?_push_lt hk |>.trans (Array.getElem?_eq_getElem hk).symm
  refine ⟨⟨fun b ent e1 hk hb hm => ?_, fun b b' ent ent' e1 e2 hne hb hb' ha ha' hm hm' => ?_, fun b e1 hm => ?_, fun b ent hb => ?_, fun k o hk => ⟨(hold k (pin_lt (h.pin k o hk).1)).trans (h.pin k o hk).1, fun b e1 hm hr1 => ?_⟩⟩, hle, Nat.le_succ _, fun b e1 hm => ?_, by simp, fun k hk _ => hold k hk, rfl, rfl, rfl, Nat.le_succ _, fun b ent hb => ?_, fun b ent hb => ?_⟩
  · rw [hget] at hb
    by_cases hbn : b = σ.next
    · subst hbn
      rw [if_pos rfl] at hb
      simp only [Mp.add, if_true, Option.some.injEq] at hm
      subst hm
      cases hb
      exact ⟨hro.symm, hs⟩
    · rw [if_neg hbn] at hb
      simp only [Mp.add, if_neg hbn] at hm
      obtain ⟨h1, h2⟩ := h.sync b ent e1 (hk.resolve_right hbn) hb hm
      exact ⟨h1, h2.keep hle (hold _ (h.dom _ _ hm).2)⟩
  · rw [hget] at hb hb'
    by_cases hbn : b = σ.next
    · have hbn' : b' ≠ σ.next := by omega
      simp only [Mp.add, if_pos hbn, Option.some.injEq] at hm
      simp only [Mp.add, if_neg hbn'] at hm'
      subst hm
      have := (h.dom _ _ hm').2
      omega
    · simp only [Mp.add, if_neg hbn] at hm
      by_cases hbn' : b' = σ.next
      · simp only [Mp.add, if_pos hbn', Option.some.injEq] at hm'
        subst hm'
        have := (h.dom _ _ hm).2
        omega
      · simp only [Mp.add, if_neg hbn'] at hm'
        rw [if_neg hbn] at hb
        rw [if_neg hbn'] at hb'
        exact h.inj b b' ent ent' e1 e2 hne hb hb' ha ha' hm hm'
  · have hnx : (σ.push o fz).next = σ.next + 1 := rfl
    by_cases hbn : b = σ.next
    · simp only [Mp.add, if_pos hbn, Option.some.injEq] at hm
      subst hm
      rw [hnx]
      simp
      omega
    · simp only [Mp.add, if_neg hbn] at hm
      have := h.dom _ _ hm
      rw [hnx]
      simp
      omega
  · rw [hget] at hb
    show b < σ.next + 1
    by_cases hbn : b = σ.next
    · omega
    · rw [if_neg hbn] at hb
      have := h.wf b ent hb
      omega
  · by_cases hbn : b = σ.next
    · simp only [Mp.add, if_pos hbn, Option.some.injEq] at hm
      subst hm
      have := pin_lt (h.pin k o hk).1
      omega
    · simp only [Mp.add, if_neg hbn] at hm
      exact (h.pin k o hk).2 b e1 hm hr1
  · by_cases hbn : b = σ.next
    · simp only [Mp.add, if_pos hbn, Option.some.injEq] at hm
      subst hm
      subst hbn
      exact .inr ⟨h.none_next, Nat.le_refl _, hro, .inl (by omega)⟩
    · simp only [Mp.add, if_neg hbn] at hm
      exact .inl hm
  · rw [hget] at hb
    by_cases hbn : b = σ.next
    · rw [if_pos hbn] at hb
      cases hb
      exact .inr (Nat.le_refl _)
    · rw [if_neg hbn] at hb
      exact .inl hb
  · rw [hget]
    by_cases hbn : b = σ.next
    · exact ⟨_, if_pos hbn⟩
    · exact ⟨ent, by rw [if_neg hbn]; exact hb⟩

/-- An object turned in its place. -/
theorem Rel.put {K : Nat → Prop} {m : Mp} {σ : FState} {w w' : World} (h : Rel K m σ w) {b : Nat} {ent : Ent} {e : MEnt} (o : FObj) (fz : Option Nat) (hb : σ.heap.get b = some ent) (ha : alive ent.obj = true) (hm : m b = some e)
    (hro : e.ro = false) (hs : Sync m o fz e w') (hsz : w'.heap.size = w.heap.size) (hother : ∀ k, k ≠ e.blk → w'.heap[k]? = w.heap[k]?) (hos : w'.os = w.os) (ht : w'.tape = w.tape) (hu : w'.output = w.output) :
    Rel K m (σ.put b o fz) w' ∧ Step σ (σ.put b o fz) m m w w' := by
  have hget : ∀ k, (σ.put b o fz).heap.get k = if k = b then some ⟨o, false, fz, σ.clock⟩ else σ.heap.get k := fun k => Tr.get_set _ _ _ _
  refine ⟨⟨fun k en e1 hk hgk hmk => ?_, fun k k' en en' e1 e2 hne hgk hgk' hak hak' hmk hmk' => ?_, fun k e1 hmk => ?_, fun k en hgk => ?_, fun k o hk => ⟨(hother k fun x => (h.pin k o hk).2 b e hm hro x.symm).trans (h.pin k o hk).1, (h.pin k o hk).2⟩⟩, fun _ _ x => x, Nat.le_refl _, fun _ _ x => .inl x, by omega, fun k _ hno => ?_, hos, ht, hu, Nat.le_succ _, fun k en hgk => ?_, fun k en hgk => ?_⟩
  · rw [hget] at hgk
    by_cases hkb : k = b
    · subst hkb
      rw [if_pos rfl] at hgk
      rw [hm] at hmk
      cases hmk
      cases hgk
      exact ⟨hro.symm, hs⟩
    · rw [if_neg hkb] at hgk
      obtain ⟨h1, h2⟩ := h.sync k en e1 hk hgk hmk
      by_cases hal : alive en.obj = true
      · exact ⟨h1, h2.keep (fun _ _ x => x) (hother _ (h.inj k b en ent e1 e hkb hgk hb hal ha hmk hm))⟩
      · exact ⟨h1, sync_dead hal⟩
  · rw [hget] at hgk hgk'
    by_cases hkb : k = b
    · subst hkb
      have hkb' : k' ≠ k := fun x => hne x.symm
      rw [if_neg hkb'] at hgk'
      rw [hm] at hmk
      cases hmk
      exact h.inj k k' ent en' e e2 hne hb hgk' ha hak' hm hmk'
    · rw [if_neg hkb] at hgk
      by_cases hkb' : k' = b
      · subst hkb'
        rw [hm] at hmk'
        cases hmk'
        exact h.inj k k' en ent e1 e hne hgk hb hak ha hmk hm
      · rw [if_neg hkb'] at hgk'
        exact h.inj k k' en en' e1 e2 hne hgk hgk' hak hak' hmk hmk'
  · have := h.dom _ _ hmk
    exact ⟨this.1, by omega⟩
  · rw [hget] at hgk
    show k < σ.next
    by_cases hkb : k = b
    · subst hkb
      exact (h.dom _ _ hm).1
    · rw [if_neg hkb] at hgk
      exact h.wf k en hgk
  · refine hother k fun x => ?_
    have := hno b e _ hm hro x.symm ((hget b).trans (if_pos rfl))
    exact Nat.lt_irrefl _ this
  · rw [hget] at hgk
    by_cases hkb : k = b
    · rw [if_pos hkb] at hgk
      cases hgk
      exact .inr (Nat.le_refl _)
    · rw [if_neg hkb] at hgk
      exact .inl hgk
  · rw [hget]
    by_cases hkb : k = b
    · exact ⟨_, if_pos hkb⟩
    · exact ⟨en, by rw [if_neg hkb]; exact hgk⟩
end Go.Eng
