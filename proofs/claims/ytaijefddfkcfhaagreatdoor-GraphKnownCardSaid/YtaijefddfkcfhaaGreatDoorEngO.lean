/- Every operation, together. -/
import Derived.Test.YtaijefddfkcfhaaGreatDoorEngN
namespace Go.Eng
open Go
variable [Pins]

section
variable {P : Program} {m : Mp} {σ : FState} {w : World} {a : FAct} {c : Act}

omit [Pins] in
theorem appendInfo_some {t t' e : TypeId} {s b : Nat} (h : appendInfo P t t' = some (e, s, b)) :
    ∃ (i : TypeInfo) (d : TypeDesc) (z : Value), P.underlying t = some (.slice e) ∧ P.underlying t' = some d ∧ (∀ k, d ≠ .int k) ∧ P.info? e = some i ∧ i.zero = some z ∧ z.cells.size = i.size ∧ i.size = s ∧ i.bytes = b := by
  unfold appendInfo at h
  cases h1 : elemSlice P t with
  | none => rw [h1] at h; cases h
  | some e' =>
    rw [h1] at h
    simp only at h
    cases h2 : under P t' with
    | none => rw [h2] at h; cases h
    | some d =>
      rw [h2] at h
      simp only at h
      cases h3 : isIntT d with
      | true => rw [h3] at h; cases h
      | false =>
        rw [h3] at h
        simp only [cond_false] at h
        cases h4 : info P e' with
        | none => rw [h4] at h; cases h
        | some i =>
          rw [h4] at h
          simp only at h
          cases h5 : i.zero with
          | none => rw [h5] at h; cases h
          | some z =>
            rw [h5] at h
            simp only at h
            cases h6 : Nat.beq z.cells.size i.size with
            | false => rw [h6] at h; cases h
            | true =>
              rw [h6] at h
              cases h
              refine ⟨i, d, z, elemSlice_some h1, under_eq h2, fun k hk => ?_, info_eq h4, h5, Nat.eq_of_beq_eq_true h6, rfl, rfl⟩
              subst hk
              cases h3

omit [Pins] in
theorem list1 {α : Type} {x : Array α} {a : α} (h : x.toList = [a]) : x = #[a] := by apply Array.ext'; simpa using h
omit [Pins] in
theorem list2 {α : Type} {x : Array α} {a b : α} (h : x.toList = [a, b]) : x = #[a, b] := by apply Array.ext'; simpa using h
omit [Pins] in
theorem list0 {α : Type} {x : Array α} (h : x.toList = []) : x = #[] := by apply Array.ext'; simpa using h
omit [Pins] in
theorem listC {α : Type} {x : Array α} {a : α} {t : List α} (h : x.toList = a :: t) : x = (a :: t).toArray := by apply Array.ext'; simpa using h

omit [Pins] in
theorem map1 {α β : Type} (f : α → β) (x : α) : (#[x] : Array α).map f = #[f x] := by simp
omit [Pins] in
theorem map2 {α β : Type} (f : α → β) (x y : α) : (#[x, y] : Array α).map f = #[f x, f y] := by simp

theorem cbuiltin_sound (hr : Rel Top m σ w) (ha : ActRel m a c) (b : Builtin) (ts : Array TypeId) (args : Array Operand) (ty : TypeId) (cs : Array Bool) :
    OSound P m σ w (builtin b ts ty cs (args.map c.eval)) ((cbuiltin P b ts.toList args.toList).un a σ) := by
  unfold cbuiltin
  cases b with
  | append =>
    simp only
    split
    · rename_i t t' x y h1 h2
      rw [list2 h1, list2 h2, map2]
      cases hi : appendInfo P t t' with
      | none => trivial
      | some q =>
        obtain ⟨e, s, by'⟩ := q
        obtain ⟨i, d, z, h3, h4, h5, h6, h7, h8, rfl, rfl⟩ := appendInfo_some hi
        exact fappend_sound hr h3 h4 h5 h6 h7 h8 (ha.eval x) (ha.eval y) ty
    · trivial
  | len =>
    simp only
    split
    · rename_i t ts' x h1 h2
      rw [listC h1, list1 h2, map1]
      unfold clen
      cases hu : under P t with
      | none => trivial
      | some d =>
        cases d with
        | string => exact flenS_sound hr hu (ha.eval x) _ ty
        | slice e => exact flenL_sound hr hu (ha.eval x) _ ty
        | map k e => exact flenM_sound hr hu (ha.eval x) _ ty
        | _ => trivial
    · trivial
  | copy =>
    simp only
    split
    · rename_i t ts' x y h1 h2
      rw [listC h1, list2 h2, map2]
      cases he : elemSlice P t with
      | none => trivial
      | some e =>
        simp only
        cases hs : sizeOfT P e with
        | none => trivial
        | some s => exact fcopy_sound hr he hs (ha.eval x) (ha.eval y) _ ty
    · trivial
  | max =>
    simp only
    split
    · rename_i x y h2
      rw [list2 h2, map2]
      exact fun2_sound hr (ha.eval x) (ha.eval y) (by simp [Builtin.max_])
    · trivial
  | min =>
    simp only
    split
    · rename_i x y h2
      rw [list2 h2, map2]
      exact fun2_sound hr (ha.eval x) (ha.eval y) (by simp [Builtin.min_])
    · trivial
  | recover =>
    simp only
    split
    · exact ⟨rfl, rfl⟩
    · trivial
  | _ => trivial

omit [Pins] in
theorem ActRel.evalsA (h : ActRel m a c) (l : Array Operand) : LRel m ((cgets l.toList).un a) (l.map c.eval).toList := by
  rw [Array.toList_map]
  exact h.evals _

omit [Pins] in
theorem ActRel.partsA (h : ActRel m a c) (l : Array (Nat × Operand)) : PRel m ((cparts l.toList).un a) (l.map fun (i, x) => (i, c.eval x)).toList := by
  rw [Array.toList_map]
  exact h.parts _

theorem cop_sound (hr : Rel Top m σ w) (ha : ActRel m a c) (o : Oper) : OSound P m σ w (execOp c.eval o) ((cop P o.op).un a σ) := by
  unfold execOp
  generalize o.op = op
  cases op with
  | move x => exact .value hr rfl (ha.eval x)
  | assign x => exact .value hr rfl (ha.eval x)
  | pick q x y =>
    simp only [cop]
    unfold fpick
    split
    · rename_i b hq
      have h := ha.eval q
      rw [hq] at h
      have h' := h.flat rfl
      cases b with
      | true => exact .value hr (v' := c.eval x) (by simp [h', asBool]) (ha.eval x)
      | false => exact .value hr (v' := c.eval y) (by simp [h', asBool]) (ha.eval y)
    · trivial
  | alloc e =>
    simp only [cop]
    cases hz : zeroCells P e with
    | none => trivial
    | some z => exact alloc_sound hr hz
  | box e x =>
    simp only [cop]
    unfold fbox
    cases hn : notTuple ((cget x).un a) with
    | false => trivial
    | true => exact box_sound hr (ha.eval x) hn
  | build t ps =>
    simp only [cop]
    split
    · rename_i fs z hu hz
      cases hp : structPlaces P fs with
      | none => trivial
      | some pl => exact build_struct_sound hr hu hz hp (ha.partsA ps)
    · rename_i n e z hu hz
      cases hs : sizeOfT P e with
      | none => trivial
      | some s => exact build_array_sound hr hu hz hs (ha.partsA ps)
    · trivial
  | buildSlice t n ps =>
    simp only [cop]
    cases he : elemSlice P t with
    | none => trivial
    | some e =>
      simp only
      split
      · rename_i z s hz hs
        cases hc : (Nat.ble (n * s) 100000 && Nat.beq (len z) s && Nat.blt 0 s) with
        | false => trivial
        | true =>
          simp only [Bool.and_eq_true, Nat.ble_eq, Nat.beq_eq, Nat.blt_eq, len_eq] at hc
          exact buildSlice_sound hr he hz hs hc.1.1 hc.1.2 hc.2 (ha.partsA ps)
      · trivial
  | load t x =>
    simp only [cop]
    cases hs : aggSize P t with
    | none => trivial
    | some sz => exact fload_sound hr hs (ha.eval x)
  | store t x v =>
    simp only [cop]
    cases hs : sizeOfT P t with
    | none => trivial
    | some sz => exact fstore_sound hr hs (ha.eval x) (ha.eval v)
  | nilCheck x =>
    have h := ha.eval x
    simp only [cop]
    generalize c.eval x = x' at h ⊢
    generalize (cget x).un a = y at h ⊢
    cases h with
    | ptr hm => exact .value hr rfl (.ptr hm)
    | func hf h1 h2 h3 h4 =>
      cases hf with
      | func f => exact .value hr rfl (.func (.func f) h1 h2 h3 h4)
      | yield hl => exact .value hr rfl (.func (.yield hl) h1 h2 h3 h4)
    | iface t hv => exact .value hr rfl (.iface t hv)
    | _ => trivial
  | binOp op t x y yt =>
    simp only [cop]
    have h0 := fbin0_sound (P := P) hr (ha.eval x) (ha.eval y) op t x y
    cases hf : (cint op).un with
    | none => exact h0
    | some f =>
      simp only
      unfold fbinI
      cases h1 : asI64 ((cget x).un a) with
      | none => exact h0
      | some n =>
        simp only
        cases h2 : asI64 ((cget y).un a) with
        | none => exact h0
        | some n' =>
          obtain ⟨h3, h4⟩ := cint_sound (P := P) (w := w) hf t x y n n'
          rw [asI64_some (ha.eval x) h1, asI64_some (ha.eval y) h2]
          exact .valueS hr h3 (h4 m)
  | unOp op t x => exact fun1_sound hr (ha.eval x)
  | convert s d x => exact fun1_sound hr (ha.eval x)
  | makeInterface t x =>
    simp only [cop]
    cases hu : under P t with
    | none => trivial
    | some d =>
      have hru := run_underlying (under_eq hu) w
      cases d with
      | interface ms => trivial
      | _ => exact .valueS hr (v' := .iface t (c.eval x)) (by simp [Instr.makeInterface, hru]) (.iface t (ha.eval x))
  | makeFunc fn first cap =>
    simp only [cop]
    cases fn with
    | func f =>
      have h1 := ha.evalsA first
      have h2 := ha.evalsA cap
      exact .valueS hr (v' := .func (.func f) (first.map c.eval) (cap.map c.eval)) (by simp [Instr.makeFunc]) (.func (.func f) (by simpa using h1.1) (by simpa using h2.1) (fun i v v' e e' => h1.2 i v v' (by simpa using e) (by simpa using e')) (fun i v v' e e' => h2.2 i v v' (by simpa using e) (by simpa using e')))
    | _ => trivial
  | makeMap t r =>
    cases r with
    | none => exact makeMap_sound hr t
    | some x => trivial
  | makeSlice t l q =>
    simp only [cop]
    cases he : elemSlice P t with
    | none => trivial
    | some e =>
      simp only
      split
      · rename_i i z hi hz
        cases hc : (Nat.beq (len z) i.size && Nat.blt 0 i.size) with
        | false => trivial
        | true =>
          simp only [Bool.and_eq_true, Nat.beq_eq, Nat.blt_eq, len_eq] at hc
          exact makeSlice_sound hr he hi hz hc.1 hc.2 (ha.eval l) (ha.eval q)
      · trivial
  | slice t x lo hi mx => exact fslice_sound hr (ha.eval x) (ha.opt lo) (ha.opt hi) (ha.opt mx)
  | fieldAddr s x f =>
    simp only [cop]
    cases hf : fieldInfo P s f with
    | none => trivial
    | some off => exact ffield_sound hr hf (ha.eval x)
  | field s x f =>
    simp only [cop]
    cases hf : partInfo P s f with
    | none => trivial
    | some q => exact fpart_sound hr hf (ha.eval x)
  | indexAddr t x i =>
    simp only [cop]
    cases hf : indexInfo P t with
    | none => trivial
    | some q => exact findex_sound hr hf (ha.eval x) (ha.eval i)
  | index t x i =>
    simp only [cop]
    split
    · rename_i hu
      exact findexS_sound hr hu (ha.eval x) (ha.eval i)
    · trivial
  | lookup t x k ok =>
    simp only [cop]
    cases hm : mapInfo P t with
    | none => trivial
    | some q =>
      obtain ⟨kt, d, et⟩ := q
      simp only
      cases hz : zeroVal P et with
      | none => trivial
      | some z => exact flookup_sound hr hm hz (ha.eval x) (ha.eval k) ok
  | mapUpdate t x k v =>
    simp only [cop]
    cases hm : mapInfo P t with
    | none => trivial
    | some q => exact fmapUpdate_sound hr hm (ha.eval x) (ha.eval k) (ha.eval v)
  | insert t x k v =>
    simp only [cop]
    cases hm : mapInfo P t with
    | none => trivial
    | some q => exact fmapUpdate_sound hr hm (ha.eval x) (ha.eval k) (ha.eval v)
  | range t x =>
    simp only [cop]
    split
    · rename_i hu
      have h := ha.eval x
      simp only
      generalize c.eval x = x' at h ⊢
      generalize (cget x).un a = y at h ⊢
      cases h with
      | string s => exact range_sound hr hu s
      | _ => trivial
    · trivial
  | next it b =>
    cases b with
    | true => exact fnext_sound hr (ha.eval it) o.type
    | false => trivial
  | typeAssert x xt t ok => exact fassert_sound hr (ha.eval x) xt t ok
  | extract t i => exact fextract_sound hr (ha.eval t) i
  | call q =>
    simp only [cop]
    unfold ccall resolve
    cases hc : q.callee with
    | value f => exact fcallV_sound hr (ha.eval f) (ha.evalsA q.args) rfl
    | invoke r name =>
      refine (finvoke_sound hr (ha.eval r) name (ha.evalsA q.args)).congr ?_
      have h0 : (#[c.eval r] ++ Array.map c.eval q.args)[0]? = some (c.eval r) := by simp [Array.getElem?_append]
      have h1 : (Array.map c.eval q.args).extract 0 q.args.size = Array.map c.eval q.args := by
        apply Array.ext'
        simp
        exact List.take_of_length_le (by simp)
      simp [invoke, h0, h1]
    | builtin b => exact cbuiltin_sound hr ha b q.argTypes q.args o.type _
  | defer q =>
    simp only [cop]
    unfold cdefer resolve
    cases hc : q.callee with
    | value f => exact fdefer_sound hr (ha.eval f) (ha.evalsA q.args)
    | invoke r name => trivial
    | builtin b => trivial
  | panic x =>
    have h := ha.eval x
    simp only [cop]
    generalize c.eval x = x' at h ⊢
    generalize (cget x).un a = y at h ⊢
    cases h with
    | iface t hv => exact ⟨m, w, _, rfl, hr, Step.refl _ _ _, .iface t hv⟩
    | _ => trivial
  | _ => trivial
end
end Go.Eng
