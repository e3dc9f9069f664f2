/- What is asked of interfaces; maps; strings ranged over. -/
import Derived.Test.YthojmbjflcanfaaGreatDoorEngK
namespace Go.Eng
open Go
variable [Pins]

section
variable {P : Program} {m : Mp} {σ : FState} {w : World} {a : FAct} {c : Act}

omit [Pins] in
theorem VRel.pair {v v' x x' : Value} (h : VRel m v v') (hx : VRel m x x') : VRel m (.tuple #[v, x]) (.tuple #[v', x']) :=
  LRel.tuple (.cons h (.cons hx .nil))

theorem fassert_sound (hr : Rel Top m σ w) {x x' : Value} (hx : VRel m x x') (xt asserted : TypeId) (ok : Bool) :
    OSound P m σ w (do pure (.value (← Instr.typeAssert x' xt asserted ok))) (fassert P x asserted ok σ) := by
  have fails : ∀ s : Sem Value, (∀ z, (zeroValue asserted).run P w = .ok z w → ok = true → s.run P w = .ok (.tuple #[z, .bool false]) w) → OSound P m σ w (do pure (.value (← s))) (ffails P asserted ok σ) := fun s hs => by
    unfold ffails
    cases ok with
    | false => trivial
    | true =>
      show OSound P m σ w _ (match zeroVal P asserted with | some z => .val (.tuple #[z, .bool false]) σ | none => .no)
      cases hz : zeroVal P asserted with
      | none => trivial
      | some z =>
        obtain ⟨h1, h2⟩ := zeroVal_some hz w
        exact .valueS hr (hs z h1 rfl) ((h2 m).pair (.bool _))
  have holds : ∀ (s : Sem Value) (v v' : Value), VRel m v v' → s.run P w = .ok (if ok then .tuple #[v', .bool true] else v') w → OSound P m σ w (do pure (.value (← s))) (fholds ok v σ) := fun s v v' hv hs => by
    unfold fholds
    cases ok with
    | false => exact .valueS hr hs hv
    | true => exact .valueS hr hs (hv.pair (.bool _))
  unfold fassert
  split
  · rename_i t v
    cases hx with
    | iface t hv =>
    rename_i v'
    cases hu : under P asserted with
    | none => trivial
    | some d =>
      have hru := run_underlying (under_eq hu) w
      cases d with
      | interface want =>
        simp only
        unfold fassertI
        cases hi : info P t with
        | none => trivial
        | some i =>
          have hti := run_typeInfo (info_eq hi) w
          simp only
          cases hm : Instr.missingMethod want i.methods with
          | none => exact holds _ _ _ (.iface t hv) (by simp [Instr.typeAssert, hru, hti, hm])
          | some s => exact fails _ fun z hz hok => by subst hok; simp [Instr.typeAssert, hru, hti, hm, hz]
      | _ =>
        simp only
        by_cases ht : t = asserted
        · subst ht
          rw [beq_t]
          exact holds _ _ _ hv (by simp [Instr.typeAssert, hru])
        · rw [beq_f ht]
          exact fails _ fun z hz hok => by subst hok; simp [Instr.typeAssert, hru, hz, ht]
  · cases hx
    cases hu : under P asserted with
    | none => trivial
    | some d =>
      have hru := run_underlying (under_eq hu) w
      exact fails _ fun z hz hok => by subst hok; cases d <;> simp [Instr.typeAssert, hru, hz]
  · trivial

omit [Pins] in
theorem checkKey_ok {kt : TypeId} {d : TypeDesc} {k : Value} (hu : P.underlying kt = some d) (hk : keyOk d k = true) (b : Bool) (w : World) : (Instr.checkKey b 10000 kt k).run P w = .ok () w := by
  have hru := run_underlying hu w
  unfold keyOk at hk
  rw [show (10000 : Nat) = 9999 + 1 from rfl, Instr.checkKey]
  split at hk <;> first | (simp [hru]; done) | cases hk

omit [Pins] in
theorem ELRel.cons {x x' : MapEntry} {es es' : List MapEntry} (h : ELRel m (x :: es) (x' :: es')) : (x.key = x'.key ∧ flat x.key = true ∧ VRel m x.val x'.val ∧ x.born = x'.born) ∧ ELRel m es es' :=
  ⟨h.2 0 x x' rfl rfl, by simpa using h.1, fun i e e' a b => h.2 (i + 1) e e' (by simpa using a) (by simpa using b)⟩

omit [Pins] in
theorem findNow_rel {d : TypeDesc} {k : Value} : ∀ (es es' : List MapEntry) (i : Nat), ELRel m es es' →
    (Instr.findNow d k es i = some none → Instr.findNow d k es' i = some none) ∧
    (∀ j v, Instr.findNow d k es i = some (some (j, v)) → i ≤ j ∧ ∃ v', Instr.findNow d k es' i = some (some (j, v')) ∧ VRel m v v' ∧ ∃ e, es[j - i]? = some e)
  | [], es', i, h => by
    have : es' = [] := List.eq_nil_of_length_eq_zero (by simpa using h.1.symm)
    subst this
    exact ⟨fun h => h, fun j v h => (by cases h)⟩
  | x :: es, [], i, h => by simp [ELRel] at h
  | x :: es, x' :: es', i, h => by
    obtain ⟨⟨h1, _, h2, _⟩, h3⟩ := h.cons
    obtain ⟨ih1, ih2⟩ := findNow_rel (d := d) (k := k) es es' (i + 1) h3
    unfold Instr.findNow
    rw [← h1]
    cases hs : Instr.sameNow d k x.key with
    | none => exact ⟨fun h => (by cases h), fun j v h => (by cases h)⟩
    | some b => cases b with
      | true => exact ⟨fun h => (by cases h), fun j v h => (by cases h; exact ⟨Nat.le_refl _, _, rfl, h2, x, by simp⟩)⟩
      | false =>
        refine ⟨ih1, fun j v h => ?_⟩
        obtain ⟨h4, v', h5, h6, e, h7⟩ := ih2 j v h
        refine ⟨by omega, v', h5, h6, e, ?_⟩
        have : j - i = (j - (i + 1)) + 1 := by omega
        rw [this]
        simpa using h7

omit [Pins] in
theorem mapInfo_some {t et : TypeId} {d : TypeDesc} (h : mapInfo P t = some (d, et)) : ∃ kt, P.underlying t = some (.map kt et) ∧ P.underlying kt = some d := by
  unfold mapInfo at h
  split at h
  · rename_i kt et' hu
    split at h
    · rename_i d' hd
      cases h
      exact ⟨kt, under_eq hu, under_eq hd⟩
    · cases h
  · cases h

theorem flook_sound (hr : Rel Top m σ w) {d : TypeDesc} {kt et : TypeId} {z k : Value} (hd : P.underlying kt = some d) (hz : zeroVal P et = some z) {es : List MapEntry} {es' : Array MapEntry} (he : ELRel m es es'.toList) (ok : Bool)
    {s : Sem Value} (hs : ∀ r, (Instr.checkKey es'.isEmpty 10000 kt k).run P w = .ok () w → (Instr.findKey kt k es'.toList).run P w = .ok r w → (zeroValue et).run P w = .ok z w →
      s.run P w = .ok (match r with | some (_, v) => (if ok then .tuple #[v, .bool true] else v) | none => (if ok then .tuple #[z, .bool false] else z)) w) :
    OSound P m σ w (do pure (.value (← s))) (flook d z k ok es σ) := by
  unfold flook
  cases hk : keyOk d k with
  | false => trivial
  | true =>
    have hck := checkKey_ok hd hk es'.isEmpty w
    obtain ⟨h1, h2⟩ := findNow_rel (d := d) (k := k) es es'.toList 0 he
    obtain ⟨h3, h4⟩ := zeroVal_some hz w
    have hru := run_underlying hd w
    show OSound P m σ w _ (match Instr.findNow d k es 0 with
      | some (some (_, v)) => cond ok (.val (.tuple #[v, .bool true]) σ) (.val v σ)
      | some none => cond ok (.val (.tuple #[z, .bool false]) σ) (.val z σ)
      | none => .no)
    cases hf : Instr.findNow d k es 0 with
    | none => trivial
    | some r => cases r with
      | none =>
        have h5 := h1 hf
        have hrun : s.run P w = .ok (if ok then .tuple #[z, .bool false] else z) w := hs none hck (by simp [Instr.findKey, hru, h5]) h3
        cases ok with
        | false => exact .valueS hr hrun (h4 m)
        | true => exact .valueS hr hrun ((h4 m).pair (.bool _))
      | some p =>
        obtain ⟨j, v⟩ := p
        obtain ⟨_, v', h5, h6, _⟩ := h2 j v hf
        have hrun : s.run P w = .ok (if ok then .tuple #[v', .bool true] else v') w := hs (some (j, v')) hck (by simp [Instr.findKey, hru, h5]) h3
        cases ok with
        | false => exact .valueS hr hrun h6
        | true => exact .valueS hr hrun (h6.pair (.bool _))

theorem flookup_sound (hr : Rel Top m σ w) {t et : TypeId} {d : TypeDesc} {z : Value} (ht : mapInfo P t = some (d, et)) (hz : zeroVal P et = some z) {x x' k k' : Value} (hx : VRel m x x') (hk : VRel m k k') (ok : Bool) :
    OSound P m σ w (do pure (.value (← Instr.lookup t x' k' ok))) (flookup2 d z x k ok σ) := by
  obtain ⟨kt, hu, hd⟩ := mapInfo_some ht
  have hru := run_underlying hu w
  have same : keyOk d k = true → k' = k := fun h => hk.flat (by
    unfold keyOk at h
    split at h <;> first | rfl | cases h)
  unfold flookup2
  split
  · cases hx
    by_cases hko : keyOk d k = true
    · rw [same hko]
      exact flook_sound hr hd hz (es' := #[]) ⟨rfl, fun i e e' a => by simp at a⟩ ok (fun q a b c => by cases q <;> simp_all [Instr.lookup])
    · have : flook d z k ok [] σ = .no := by simp [flook, hko]
      rw [this]
      trivial
  · rename_i r
    cases hx with
    | map hm =>
      rename_i e0
      cases hg : σ.heap.get r with
      | none => trivial
      | some ent =>
        simp only
        split
        · rename_i es ck ho
          obtain ⟨_, hs⟩ := hr.sync r ent e0 trivial hg hm
          rw [ho] at hs
          obtain ⟨es', h1, h2⟩ := hs
          by_cases hko : keyOk d k = true
          · rw [same hko]
            exact flook_sound hr hd hz h2 ok (fun q a b c => by have hg := run_getObjM (P := P) h1; cases q <;> simp_all [Instr.lookup])
          · have : flook d z k ok es σ = .no := by simp [flook, hko]
            rw [this]
            trivial
        · trivial
  · trivial

omit [Pins] in
theorem run_setObj {r : Nat} {o o' : Obj} (h : w.heap[r]? = some o) (hm : (match o with | .cells .. => false | _ => true) = true) : (setObj r o').run P w = .ok () { w with heap := w.heap.setIfInBounds r o' } := by
  simp only [setObj, Sem.run, h]
  cases o <;> first | rfl | (simp at hm)

/-- An object of another kind than cells, put anew. -/
theorem Rel.putObj (hr : Rel Top m σ w) {b : Nat} {ent : Ent} {e : MEnt} (o : FObj) (o' : Obj) (hb : σ.heap.get b = some ent) (ha : alive ent.obj = true) (hm : m b = some e) (hro : ent.ro = false)
    (hs : Sync m o none e { w with heap := w.heap.setIfInBounds e.blk o' }) :
    Rel Top m (σ.put b o none) { w with heap := w.heap.setIfInBounds e.blk o' } ∧ Step σ (σ.put b o none) m m w { w with heap := w.heap.setIfInBounds e.blk o' } := by
  have h := hr.sync b ent e trivial hb hm
  exact hr.put o none hb ha hm (by rw [← h.1]; exact hro) hs (by simp) (fun k hk => Array.getElem?_setIfInBounds_ne (fun x => hk x.symm)) rfl rfl rfl

omit [Pins] in
theorem ELRel.snoc {es es' : List MapEntry} (h : ELRel m es es') {k v v' : Value} {ck : Nat} (hk : flat k = true) (hv : VRel m v v') : ELRel m (es ++ [{ key := k, val := v, born := ck }]) (es' ++ [{ key := k, val := v', born := ck }]) := by
  refine ⟨by simp [h.1], fun i e e' a b => ?_⟩
  by_cases hi : i < es.length
  · rw [List.getElem?_append_left hi] at a
    rw [List.getElem?_append_left (by rw [← h.1]; exact hi)] at b
    exact h.2 i e e' a b
  · rw [List.getElem?_append_right (by omega)] at a
    rw [List.getElem?_append_right (by rw [← h.1]; omega), ← h.1] at b
    have hz : i - es.length = 0 := by
      cases hq : i - es.length with
      | zero => rfl
      | succ n => rw [hq] at a; simp at a
    rw [hz] at a b
    simp at a b
    subst a
    subst b
    exact ⟨rfl, hk, hv, rfl⟩

theorem fmapUpdate_sound (hr : Rel Top m σ w) {t et : TypeId} {d : TypeDesc} (ht : mapInfo P t = some (d, et)) {x x' k k' v v' : Value} (hx : VRel m x x') (hk : VRel m k k') (hv : VRel m v v') :
    OSound P m σ w (do Instr.mapUpdate t x' k' v'; pure .skip) (fmapUpdate d x k v σ) := by
  obtain ⟨kt, hu, hd⟩ := mapInfo_some ht
  have hru := run_underlying hu w
  unfold fmapUpdate
  split
  · rename_i r
    cases hx with
    | map hm =>
      rename_i e0
      cases hg : σ.heap.get r with
      | none => trivial
      | some ent =>
        simp only
        split
        · rename_i es ck ho hro
          obtain ⟨_, hs⟩ := hr.sync r ent e0 trivial hg hm
          rw [ho] at hs
          obtain ⟨es', h1, h2⟩ := hs
          have hlt : e0.blk < w.heap.size := (hr.dom _ _ hm).2
          cases hko : keyOk d k with
          | false => trivial
          | true =>
            have hfk : flat k = true := by
              unfold keyOk at hko
              split at hko <;> first | rfl | cases hko
            obtain rfl := hk.flat hfk
            have hck := checkKey_ok hd hko false w
            obtain ⟨h3, h4⟩ := findNow_rel (d := d) (k := k') es es'.toList 0 h2
            have hrk := run_underlying hd w
            have hal : alive ent.obj = true := by rw [ho]; rfl
            show OSound P m σ w _ (fmapPut d r k' v es ck σ)
            unfold fmapPut
            cases hf : Instr.findNow d k' es 0 with
            | none => trivial
            | some q => cases q with
              | none =>
                have h5 := h3 hf
                obtain ⟨hR, hS⟩ := hr.putObj (.map (es ++ [{ key := k', val := v, born := ck }]) (ck + 1)) (.map (es'.push { key := k', val := v', born := ck }) (ck + 1)) hg hal hm hro
                  ⟨es'.push { key := k', val := v', born := ck }, by simp [hlt], by simpa using h2.snoc hfk hv⟩
                exact ⟨m, _, by simp [Instr.mapUpdate, hru, run_getObjM h1, hck, Instr.findKey, hrk, h5, run_setObj h1 rfl], hR, hS⟩
              | some p =>
                obtain ⟨j, u⟩ := p
                simp only
                obtain ⟨_, u', h5, h6, e, h7⟩ := h4 j u hf
                rw [nth_eq]
                simp only [Nat.sub_zero] at h7
                rw [h7]
                simp only
                cases hsb : Instr.sameBits 10000 e.key k' with
                | false => trivial
                | true =>
                  have hj : j < es'.size := by
                    have := (List.getElem?_eq_some_iff.1 h7).1
                    have h8 := h2.1
                    simp at h8
                    omega
                  have h9 : es'[j]? = some es'[j] := Array.getElem?_eq_getElem hj
                  obtain ⟨h10, h11, h12, h13⟩ := h2.2 j e es'[j] h7 (by simp [hj])
                  have hE : ELRel m (setNth { key := k', val := v, born := e.born } es j) (es'.modify j fun e => { e with key := k', val := v' }).toList := by
                    refine ⟨by rw [setNth_eq]; simpa using h2.1, fun i y y' a b => ?_⟩
                    rw [setNth_eq, List.getElem?_set] at a
                    simp only [Array.getElem?_toList, Array.getElem?_modify] at b
                    by_cases hij : j = i
                    · subst hij
                      rw [if_pos rfl] at a b
                      rw [h9] at b
                      have hl : j < es.length := (List.getElem?_eq_some_iff.1 h7).1
                      rw [if_pos hl] at a
                      simp at a b
                      subst a
                      subst b
                      exact ⟨rfl, hfk, hv, h13⟩
                    · rw [if_neg hij] at a b
                      exact h2.2 i y y' a (by simpa using b)
                  obtain ⟨hR, hS⟩ := hr.putObj (.map (setNth { key := k', val := v, born := e.born } es j) ck) (.map (es'.modify j fun e => { e with key := k', val := v' }) ck) hg hal hm hro
                    ⟨es'.modify j fun e => { e with key := k', val := v' }, by simp [hlt], hE⟩
                  rw [h10] at hsb
                  exact ⟨m, _, by simp [Instr.mapUpdate, hru, run_getObjM h1, hck, Instr.findKey, hrk, h5, h9, Instr.keyThatStays, hsb, run_setObj h1 rfl], hR, hS⟩
        · trivial
  · trivial

/-- A new object of another kind than cells. -/
theorem newObj_sound (hr : Rel Top m σ w) (o : FObj) (o' : Obj) (hs : ∀ (m' : Mp) (w' : World), m.le m' → w'.heap[w.heap.size]? = some o' → Sync m' o none ⟨w.heap.size, 0, false, none⟩ w') :
    ∃ m' w', (newObj o').run P w = .ok w.heap.size w' ∧ Rel Top m' (σ.push o none) w' ∧ Step σ (σ.push o none) m m' w w' ∧ m' σ.next = some ⟨w.heap.size, 0, false, none⟩ := by
  obtain ⟨h1, h2⟩ := hr.push o none o' ⟨w.heap.size, 0, false, none⟩ rfl rfl (hs _ _ (Mp.le_add _ hr.none_next) (by simp))
  exact ⟨_, _, rfl, h1.weaken fun b _ => by
    by_cases hb : b = σ.next
    · exact .inr hb
    · exact .inl trivial, h2, by simp [Mp.add]⟩

theorem makeMap_sound (hr : Rel Top m σ w) (t : TypeId) :
    OSound P m σ w (do pure (.value (← Instr.makeMap t none))) (.val (.map (some σ.next)) (σ.push (.map [] 0) none)) := by
  obtain ⟨m', w', h1, h2, h3, h4⟩ := newObj_sound (P := P) hr (.map [] 0) (.map #[] 0) fun m' w' _ hw => ⟨#[], hw, rfl, fun i e e' a => by simp at a⟩
  exact ⟨m', w', _, by simp [Instr.makeMap, h1], h2, h3, .map h4⟩

theorem range_sound (hr : Rel Top m σ w) {t : TypeId} (hu : under P t = some .string) (s : ByteArray) :
    OSound P m σ w (do pure (.value (← Instr.range t (.string s)))) (.val (.pointer (some ⟨σ.next, 0, none⟩)) (σ.push (.siter s 0) none)) := by
  have hru := run_underlying (under_eq hu) w
  obtain ⟨m', w', h1, h2, h3, h4⟩ := newObj_sound (P := P) hr (.siter s 0) (.stringIter s 0) fun m' w' _ hw => ⟨rfl, hw⟩
  exact ⟨m', w', _, by simp [Instr.range, hru, h1], h2, h3, .ptr (off := 0) h4⟩

theorem fnext_sound (hr : Rel Top m σ w) {x x' : Value} (hx : VRel m x x') (t : TypeId) :
    OSound P m σ w (do pure (.value (← Instr.next x' true t))) (fnext x σ) := by
  unfold fnext
  split
  · rename_i r
    cases hx with
    | ptr hm =>
      rename_i e0
      cases hg : σ.heap.get r with
      | none => trivial
      | some ent =>
        simp only
        split
        · rename_i s pos ho hro
          obtain ⟨_, hs⟩ := hr.sync r ent e0 trivial hg hm
          rw [ho] at hs
          obtain ⟨hsh, h1⟩ := hs
          have hlt : e0.blk < w.heap.size := (hr.dom _ _ hm).2
          have hal : alive ent.obj = true := by rw [ho]; rfl
          have hget : (getObj e0.blk).run P w = .ok (.stringIter s pos) w := by simp [getObj, Sem.run, h1]
          rw [hsh]
          by_cases hp : pos < s.size
          · rw [blt_t hp]
            obtain ⟨hR, hS⟩ := hr.putObj (.siter s (pos + (Utf8.decode s pos).2)) (.stringIter s (pos + (Utf8.decode s pos).2)) hg hal hm hro ⟨hsh, by simp [hlt]⟩
            exact ⟨m, _, .tuple #[.bool true, goInt pos, .int .i32 (Utf8.decode s pos).1], by simp [Instr.next, hget, hp, run_setObj h1 rfl], hR, hS, LRel.tuple (.cons (.bool _) (.cons (.int _ _) (.cons (.int _ _) .nil)))⟩
          · rw [blt_f hp]
            exact .valueS hr (v' := .tuple #[.bool false]) (by simp [Instr.next, hget, hp]) (LRel.tuple (.cons (.bool _) .nil))
        · trivial
  · trivial
end
end Go.Eng
