/- Slices and append. -/
import Derived.Test.YtaijefddfkcfhaaGreatDoorEngE
namespace Go.Eng
open Go
variable [Pins]

section
variable {P : Program} {m : Mp} {σ : FState} {w : World} {a : FAct} {c : Act}

theorem flenS_sound (hr : Rel Top m σ w) {t : TypeId} (hu : under P t = some .string) {x x' : Value} (hx : VRel m x x') (ts : List TypeId) (ty : TypeId) :
    OSound P m σ w (do pure (.value (← Builtin.len_ (t :: ts).toArray ty #[x']))) (flenS x σ) := by
  have hru := run_underlying (under_eq hu) w
  unfold flenS
  split
  · cases hx
    exact .valueS hr (v' := goInt _) (by simp [Builtin.len_, hru]) (.int _ _)
  · trivial
theorem flenL_sound (hr : Rel Top m σ w) {t e : TypeId} (hu : under P t = some (.slice e)) {x x' : Value} (hx : VRel m x x') (ts : List TypeId) (ty : TypeId) :
    OSound P m σ w (do pure (.value (← Builtin.len_ (t :: ts).toArray ty #[x']))) (flenL x σ) := by
  have hru := run_underlying (under_eq hu) w
  unfold flenL
  split
  · rename_i q n cp
    cases hx with
    | nilSlice => exact .valueS hr (v' := goInt n) (by simp [Builtin.len_, hru]) (.int _ _)
    | empty hm => exact .valueS hr (v' := goInt 0) (by simp [Builtin.len_, hru]) (.int _ _)
    | slice hm hc => exact .valueS hr (v' := goInt n) (by simp [Builtin.len_, hru]) (.int _ _)
  · trivial
omit [Pins] in
theorem run_getObj {r : Nat} {o : Obj} (h : w.heap[r]? = some o) (hm : (match o with | .cells .. => false | _ => true) = true) (_ : True = True) : (getObj r).run P w = .ok o w := by
  simp only [getObj, Sem.run, h]
  cases o <;> first | rfl | (simp at hm)
theorem flenM_sound (hr : Rel Top m σ w) {t k e : TypeId} (hu : under P t = some (.map k e)) {x x' : Value} (hx : VRel m x x') (ts : List TypeId) (ty : TypeId) :
    OSound P m σ w (do pure (.value (← Builtin.len_ (t :: ts).toArray ty #[x']))) (flenM x σ) := by
  have hru := run_underlying (under_eq hu) w
  unfold flenM
  split
  · cases hx
    exact .valueS hr (v' := goInt 0) (by simp [Builtin.len_, hru]) (.int _ _)
  · rename_i r
    cases hx with
    | map hm =>
      rename_i en
      cases hg : σ.heap.get r with
      | none => trivial
      | some ent =>
        simp only
        split
        · rename_i es ck ho
          obtain ⟨_, hs⟩ := hr.sync r ent en trivial hg hm
          rw [ho] at hs
          obtain ⟨es', h1, h2⟩ := hs
          refine .valueS hr (v' := goInt es'.size) (by simp [Builtin.len_, hru, run_getObj h1 rfl rfl]) ?_
          rw [len_eq, h2.1]
          exact .int _ _
        · trivial
  · trivial

omit [Pins] in
theorem elemSlice_some {t e : TypeId} (h : elemSlice P t = some e) : P.underlying t = some (.slice e) := by
  unfold elemSlice at h
  split at h
  · rename_i e' hu
    cases h
    exact under_eq hu
  · cases h

omit [Pins] in
theorem run_getObjM {r : Nat} {es : Array MapEntry} {ck : Nat} (h : w.heap[r]? = some (.map es ck)) : (getObj r).run P w = .ok (.map es ck) w := by simp [getObj, Sem.run, h]

omit [Pins] in
theorem growBy_le (need : Nat) : ∀ (r c : Nat), c ≤ 2 * need + 200 → Builtin.growBy need r c ≤ 2 * need + 200 := by
  intro r
  induction r with
  | zero => intro c h; exact h
  | succ r ih =>
    intro c h
    unfold Builtin.growBy
    split
    · exact h
    · exact ih _ (by omega)
omit [Pins] in
theorem nextslicecap_le {need c : Nat} (h : c < need) : Builtin.nextslicecap need c ≤ 2 * need + 200 := by
  unfold Builtin.nextslicecap
  split
  · omega
  · split
    · omega
    · exact growBy_le need 4 c (by omega)

/-- The cells of a slice that the reading knows are read. -/
theorem loadAll_sound (hr : Rel Top m σ w) {b o n : Nat} {l : List Value} {e : MEnt} (hm : m b = some e) (h : loadAll σ b o n = some l) :
    ∃ l' : List Value, LRel m l l' ∧ l.length = n ∧ (loadCells ⟨e.blk, e.sh + o, none⟩ n).run P w = .ok l'.toArray w ∧ (∀ v ∈ l, oneCell v = true → True) := by
  unfold loadAll at h
  cases hc : σ.cells b with
  | none => rw [hc] at h; cases h
  | some c =>
    rw [hc] at h
    obtain ⟨cs', h1, h2, h3⟩ := hr.cellsFrom hm hc h
    refine ⟨cs', h1, h2, ?_, fun _ _ _ => trivial⟩
    have h6 := run_loadCells_list (P := P) (w := w) (⟨e.blk, e.sh + o, none⟩ : Addr) cs' h3
    rwa [← h1.1, h2] at h6

theorem fnew_sound (hr : Rel Top m σ w) {size n : Nat} {x x' : Value} {new : List Value} (hx : VRel m x x') (h : fnew size x σ = some (n, new)) :
    ∃ new' : List Value, LRel m new new' ∧ (Builtin.lenOf x').run P w = .ok n w ∧ (Builtin.firstCells size n x').run P w = .ok new'.toArray w ∧ new.length = n * size ∧
      ∀ w' : World, (∀ k, k < w.heap.size → w'.heap[k]? = w.heap[k]?) → (Builtin.firstCells size n x').run P w' = .ok new'.toArray w' := by
  unfold fnew at h
  split at h
  · rename_i b o k cp
    cases hx with
    | empty hm =>
      cases hl : loadAll σ b o (0 * size) with
      | none => rw [hl] at h; cases h
      | some l =>
        rw [hl] at h
        cases h
        unfold loadAll at hl
        cases hcc : σ.cells b with
        | none => rw [hcc] at hl; cases hl
        | some c =>
          rw [hcc] at hl
          simp only [takeN_eq, Nat.zero_mul, Nat.zero_le, if_true, List.take_zero, Option.some.injEq] at hl
          subst hl
          exact ⟨[], .nil, by simp [Builtin.lenOf], by simp [Builtin.firstCells, loadCells, loadCellsFrom], by simp, fun w' _ => by simp [Builtin.firstCells, loadCells, loadCellsFrom]⟩
    | slice hm hc =>
      rename_i c' e
      cases hl : loadAll σ b o (k * size) with
      | none => rw [hl] at h; cases h
      | some l =>
        rw [hl] at h
        cases h
        unfold loadAll at hl
        cases hcc : σ.cells b with
        | none => rw [hcc] at hl; cases hl
        | some c =>
          rw [hcc] at hl
          obtain ⟨l', h1, h2, h3⟩ := hr.cellsFrom hm hcc hl
          have hlen : l'.length = n * size := by rw [← h1.1]; exact h2
          have key : ∀ w' : World, (∀ k, k < w.heap.size → w'.heap[k]? = w.heap[k]?) → (loadCells ⟨e.blk, e.sh + o, none⟩ (n * size)).run P w' = .ok l'.toArray w' := fun w' hw' => by
            have h6 := run_loadCells_list (P := P) (w := w') (⟨e.blk, e.sh + o, none⟩ : Addr) l' (fun j v hv => by
              rw [← h3 j v hv]
              have hb : ((⟨e.blk, e.sh + o, none⟩ : Addr).add j).block = e.blk := by unfold Addr.add; split <;> rfl
              unfold World.cell?
              rw [hb, hw' _ (hr.dom _ _ hm).2])
            rwa [hlen] at h6
          exact ⟨l', h1, by simp [Builtin.lenOf], by simp [Builtin.firstCells, key w (fun _ _ => rfl)], h2, fun w' hw' => by simp [Builtin.firstCells, key w' hw']⟩
  · cases h
    cases hx
    exact ⟨[], .nil, by simp [Builtin.lenOf], by simp [Builtin.firstCells], by simp, fun w' _ => by simp [Builtin.firstCells]⟩
  · cases h

omit [Pins] in
theorem newCap_ge (need c : Nat) (elem t : Nat) : need ≤ Question.cut (.appendCap need c elem) t := Nat.le_add_right _ _

omit [Pins] in
theorem all_one {new new' : List Value} (h : LRel m new new') (ho : new.all oneCell = true) : ∀ v ∈ new', v.oneCell' = true := fun x hx => by
  obtain ⟨i, hi, rfl⟩ := List.getElem_of_mem hx
  have hi' : i < new.length := by rw [h.1]; exact hi
  exact one_eq (oneCell_of_rel (h.2 i _ _ (List.getElem?_eq_getElem hi') (List.getElem?_eq_getElem hi)) (List.all_eq_true.1 ho _ (List.getElem_mem hi')))

/-- The new row that append makes, in a world that has drawn. -/
theorem grow_sound {K : Nat → Prop} (hr : Rel K m σ w) (elem size need newCap : Nat) {l l' : List Value} {rest : Array Value} (hl : LRel m l l') (hlen : l.length = need * size) (hrest : rest.size = (newCap - need) * size) (hcap : need ≤ newCap) :
    ∃ m' w', (newRow elem (l'.toArray ++ rest)).run P w = .ok ⟨w.heap.size, 0, none⟩ w' ∧ Rel (fun b => K b ∨ b = σ.next) m' (σ.push (.cells l elem) (some size)) w' ∧ Step σ (σ.push (.cells l elem) (some size)) m m' w w' ∧
      VRel m' (.slice (some ⟨σ.next, 0, none⟩) need need) (.slice (some ⟨w.heap.size, 0, none⟩) need newCap) := by
  have hsz : (l'.toArray ++ rest).size = newCap * size := by
    rw [Array.size_append, hrest]
    have : l'.toArray.size = need * size := by simp [← hl.1, hlen]
    rw [this, ← Nat.add_mul]
    congr 1
    omega
  let e : MEnt := ⟨w.heap.size, 0, false, some (size, need * size, newCap * size)⟩
  have hs : Sync (m.add σ.next e) (.cells l elem) (some size) e { w with heap := w.heap.push (.cells (l'.toArray ++ rest) elem) } := by
    refine ⟨l'.toArray ++ rest, elem, (0, 0), by simp [e], fun _ => rfl, fun i v hv => ?_, rfl, hlen.symm, hsz.symm⟩
    obtain ⟨v', h1, h2⟩ := hl.get hv
    refine ⟨v', ?_, h2.mono (Mp.le_add e hr.none_next)⟩
    show (l'.toArray ++ rest)[0 + i]? = some v'
    have hi : i < l'.length := (List.getElem?_eq_some_iff.1 h1).1
    rw [Nat.zero_add, Array.getElem?_append_left (by simpa using hi)]
    simpa using h1
  obtain ⟨h1, h2⟩ := hr.push (.cells l elem) (some size) (.cells (l'.toArray ++ rest) elem) e rfl rfl hs
  refine ⟨_, _, by simp [newRow], h1, h2, ?_⟩
  refine .slice (e := e) (by simp [Mp.add]) (.inr ⟨size, need * size, newCap * size, rfl, by simp, hcap, by simp [e]⟩)

omit [Pins] in
theorem zeroCells_size (z : Array Value) (n : Nat) : (Builtin.zeroCells z n).size = n * z.size := by simp [Builtin.zeroCells]

omit [Pins] in
theorem notInt {d : TypeDesc} (h : ∀ k, d ≠ .int k) : (match d with | .int _ => true | _ => false) = false := by
  cases d <;> first | rfl | exact absurd rfl (h _)

omit [Pins] in
/-- The short way of append, in the model: there is room. -/
theorem run_append_room {e ty t' : TypeId} {i : TypeInfo} {s x : Value} {base : Option Addr} {sLen sCap n : Nat} {new : Array Value} {w2 : World} {d : TypeDesc} (hs : s = .slice base sLen sCap)
    (hu : P.underlying ty = some (.slice e)) (hu' : P.underlying t' = some d) (hd : ∀ k, d ≠ .int k) (hi : P.info? e = some i)
    (hlen : (Builtin.lenOf x).run P w = .ok n w) (hneed : sLen + n ≤ sCap) (hnew : (Builtin.firstCells i.size n x).run P w = .ok new w)
    (hst : ∀ b, base = some b → (storeCells (b.add (sLen * i.size)) new.toList).run P w = .ok () w2) (hno : base = none → w2 = w) (t : TypeId) :
    (Builtin.append_ #[ty, t'] t #[s, x]).run P w = .ok (.slice base (sLen + n) sCap) w2 := by
  subst hs
  have hsz : (sizeOf e).run P w = .ok i.size w := by simp [sizeOf, run_typeInfo hi]
  have hni := notInt hd
  cases base with
  | none =>
    rw [hno rfl]
    simp [Builtin.append_, run_underlying hu, run_underlying hu', hsz, hni, hlen, hneed, hnew]
  | some b =>
    simp [Builtin.append_, run_underlying hu, run_underlying hu', hsz, hni, hlen, hneed, hnew, hst b rfl]

omit [Pins] in
/-- The long way of append, in the model. -/
theorem run_append_grow {e ty t' : TypeId} {i : TypeInfo} {z : Value} {s x : Value} {base : Option Addr} {sLen sCap n : Nat} {old new : Array Value} {d : TypeDesc} (hs : s = .slice base sLen sCap)
    (hu : P.underlying ty = some (.slice e)) (hu' : P.underlying t' = some d) (hd : ∀ k, d ≠ .int k) (hi : P.info? e = some i) (hz : i.zero = some z)
    (hlen : (Builtin.lenOf x).run P w = .ok n w) (hneed : sCap < sLen + n) (hsmall : (sLen + n) * (i.bytes + 1) ≤ 1000000000)
    (hold : ∀ w' : World, w'.heap = w.heap → (Builtin.firstCells i.size sLen s).run P w' = .ok old w') (hnew : ∀ w' : World, w'.heap = w.heap → (Builtin.firstCells i.size n x).run P w' = .ok new w') (t : TypeId) :
    ∃ newCap w1, sLen + n ≤ newCap ∧ w1.heap = w.heap ∧ w1.os = w.os ∧ w1.tape = w.tape ∧ w1.output = w.output ∧
      (Builtin.append_ #[ty, t'] t #[s, x]).run P w = ((newRow e (old ++ new ++ Builtin.zeroCells z.cells (newCap - (sLen + n)))).run P w1).andThen fun a w2 => .ok (.slice (some a) (sLen + n) newCap) w2 := by
  subst hs
  let q : Question := .appendCap (sLen + n) sCap e
  refine ⟨q.cut (w.tape w.drawn q), w.drew, newCap_ge _ _ _ _, rfl, rfl, rfl, rfl, ?_⟩
  have hsz : (sizeOf e).run P w = .ok i.size w := by simp [sizeOf, run_typeInfo hi]
  have hni := notInt hd
  have hb1 : ¬ (9223372036854775807 : Int) < (sLen : Int) + (n : Int) := by
    have : (sLen + n) ≤ 1000000000 := Nat.le_trans (Nat.le_mul_of_pos_right _ (by omega)) hsmall
    omega
  have hb2 : ¬ Builtin.nextslicecap (sLen + n) sCap * i.bytes > 2 ^ 48 := by
    have h1 := nextslicecap_le hneed
    have h2 : Builtin.nextslicecap (sLen + n) sCap * i.bytes ≤ (2 * (sLen + n) + 200) * i.bytes := Nat.mul_le_mul_right _ h1
    have h3 : (sLen + n) * i.bytes ≤ 1000000000 := Nat.le_trans (Nat.mul_le_mul_left _ (Nat.le_succ _)) hsmall
    have h4 : i.bytes ≤ 1000000000 := by
      have : i.bytes + 1 ≤ (sLen + n) * (i.bytes + 1) := Nat.le_mul_of_pos_left _ (by omega)
      omega
    have h5 : (2 * (sLen + n) + 200) * i.bytes = 2 * ((sLen + n) * i.bytes) + 200 * i.bytes := by rw [Nat.add_mul, Nat.mul_assoc]
    omega
  have hb0 : ¬ sLen + n ≤ sCap := by omega
  have ho := hold w.drew rfl
  have hn := hnew w.drew rfl
  have hzv : (zeroValue e).run P w.drew = .ok z w.drew := run_zeroValue hi hz _
  have hq : Question.forced (.appendCap (sLen + n) sCap e) = false := rfl
  generalize hN : q.cut (w.tape w.drawn q) = newCap
  have hN' : Question.cut (.appendCap (sLen + n) sCap e) (w.tape w.drawn (.appendCap (sLen + n) sCap e)) = newCap := hN
  simp [Builtin.append_, run_underlying hu, run_underlying hu', hsz, hni, hlen, hb0, run_typeInfo hi, hb1, hb2, hq, hN', ho, hn, hzv]
end
end Go.Eng
