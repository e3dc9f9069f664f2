/- What is asked of interfaces; maps; strings ranged over. -/
import Derived.Test.YtaijefddfkcfhaaGreatDoorEngK
namespace Go.Eng
open Go
variable [Pins]

section
variable {P : Program} {m : Mp} {σ : FState} {w : World} {a : FAct} {c : Act}

omit [Pins] in
theorem VRel.pair {v v' x x' : Value} (h : VRel m v v') (hx : VRel m x x') : VRel m (.tuple #[v, x]) (.tuple #[v', x']) :=
  LRel.tuple (.cons h (.cons hx .nil))

theorem fassert_sound (hr : Rel Top m σ w) {x x' : Value} (hx : VRel m x x') (xt asserted : TypeId) (ok : Bool) :
    OSound P m σ w (do pure (.value (← Instr.typeAssert x' xt asserted ok))) (fassert P x asserted ok σ) := by
  have fails : ∀ s : Sem Value, (∀ z, (zeroValue asserted).run P w = .ok z w → ok = true → s.run P w = .ok (.tuple #[z, .bool false]) w) → OSound P m σ w (do pure (.value (← s))) (ffails P asserted ok σ) := fun s hs => by
    unfold ffails
    cases ok with
    | false => trivial
    | true =>
      show OSound P m σ w _ (match zeroVal P asserted with | some z => .val (.tuple #[z, .bool false]) σ | none => .no)
      cases hz : zeroVal P asserted with
      | none => trivial
      | some z =>
        obtain ⟨h1, h2⟩ := zeroVal_some hz w
        exact .valueS hr (hs z h1 rfl) ((h2 m).pair (.bool _))
  have holds : ∀ (s : Sem Value) (v v' : Value), VRel m v v' → s.run P w = .ok (if ok then .tuple #[v', .bool true] else v') w → OSound P m σ w (do pure (.value (← s))) (fholds ok v σ) := fun s v v' hv hs => by
    unfold fholds
    cases ok with
    | false => exact .valueS hr hs hv
    | true => exact .valueS hr hs (hv.pair (.bool _))
  unfold fassert
  split
  · rename_i t v
    cases hx with
    | iface t hv =>
    rename_i v'
    cases hu : under P asserted with
    | none => trivial
    | some d =>
      have hru := run_underlying (under_eq hu) w
      cases d with
      | interface want =>
        simp only
        unfold fassertI
        cases hi : info P t with
        | none => trivial
        | some i =>
          have hti := run_typeInfo (info_eq hi) w
          simp only
          cases hm : Instr.missingMethod want i.methods with
          | none => exact holds _ _ _ (.iface t hv) (by simp [Instr.typeAssert, hru, hti, hm])
          | some s => exact fails _ fun z hz hok => by subst hok; simp [Instr.typeAssert, hru, hti, hm, hz]
      | _ =>
        simp only
        by_cases ht : t = asserted
        · subst ht
          rw [beq_t]
          exact holds _ _ _ hv (by simp [Instr.typeAssert, hru])
        · rw [beq_f ht]
          exact fails _ fun z hz hok => by subst hok; simp [Instr.typeAssert, hru, hz, ht]
  · cases hx
    cases hu : under P asserted with
    | none => trivial
    | some d =>
      have hru := run_underlying (under_eq hu) w
      exact fails _ fun z hz hok => by subst hok; cases d <;> simp [Instr.typeAssert, hru, hz]
  · trivial

omit [Pins] in
theorem checkKey_ok {kt : TypeId} {d : TypeDesc} {k : Value} (hu : P.underlying kt = some d) (hk : keyOk d k = true) (b : Bool) (w : World) : (Instr.checkKey b 10000 kt k).run P w = .ok () w := by
  have hru := run_underlying hu w
  unfold keyOk at hk
  rw [show (10000 : Nat) = 9999 + 1 from rfl, Instr.checkKey]
  split at hk <;> first | (simp [hru]; done) | cases hk

omit [Pins] in
theorem ELRel.cons {x x' : MapEntry} {es es' : List MapEntry} (h : ELRel m (x :: es) (x' :: es')) : (x.key = x'.key ∧ (flat x.key || aggFlat x.key) = true ∧ VRel m x.val x'.val ∧ x.born = x'.born) ∧ ELRel m es es' :=
  ⟨h.2 0 x x' rfl rfl, by simpa using h.1, fun i e e' a b => h.2 (i + 1) e e' (by simpa using a) (by simpa using b)⟩

omit [Pins] in
theorem findNow_rel {d : TypeDesc} {k : Value} : ∀ (es es' : List MapEntry) (i : Nat), ELRel m es es' →
    (Instr.findNow d k es i = some none → Instr.findNow d k es' i = some none) ∧
    (∀ j v, Instr.findNow d k es i = some (some (j, v)) → i ≤ j ∧ ∃ v', Instr.findNow d k es' i = some (some (j, v')) ∧ VRel m v v' ∧ ∃ e, es[j - i]? = some e)
  | [], es', i, h => by
    have : es' = [] := List.eq_nil_of_length_eq_zero (by simpa using h.1.symm)
    subst this
    exact ⟨fun h => h, fun j v h => (by cases h)⟩
  | x :: es, [], i, h => by simp [ELRel] at h
  | x :: es, x' :: es', i, h => by
    obtain ⟨⟨h1, _, h2, _⟩, h3⟩ := h.cons
    obtain ⟨ih1, ih2⟩ := findNow_rel (d := d) (k := k) es es' (i + 1) h3
    unfold Instr.findNow
    rw [← h1]
    cases hs : Instr.sameNow d k x.key with
    | none => exact ⟨fun h => (by cases h), fun j v h => (by cases h)⟩
    | some b => cases b with
      | true => exact ⟨fun h => (by cases h), fun j v h => (by cases h; exact ⟨Nat.le_refl _, _, rfl, h2, x, by simp⟩)⟩
      | false =>
        refine ⟨ih1, fun j v h => ?_⟩
        obtain ⟨h4, v', h5, h6, e, h7⟩ := ih2 j v h
        refine ⟨by omega, v', h5, h6, e, ?_⟩
        have : j - i = (j - (i + 1)) + 1 := by omega
        rw [this]
        simpa using h7

omit [Pins] in
theorem mapInfo_some {t et : TypeId} {d : TypeDesc} {kt : TypeId} (h : mapInfo P t = some (kt, d, et)) : P.underlying t = some (.map kt et) ∧ P.underlying kt = some d := by
  unfold mapInfo at h
  split at h
  · rename_i kt et' hu
    split at h
    · rename_i d' hd
      cases h
      exact ⟨under_eq hu, under_eq hd⟩
    · cases h
  · cases h

omit [Pins] in
theorem VRel.aggFlat {v v' : Value} (h : VRel m v v') (hf : Eng.aggFlat v = true) : v' = v := by
  cases h with
  | agg ha hA =>
    rename_i a a'
    have h1 : a'.toList = a.toList := (LRel.of_array ha hA).all_flat hf
    rw [Array.toList_inj.1 h1]
  | _ => cases hf

omit [Pins] in
theorem canKey_ok {kt : TypeId} {d : TypeDesc} {k k' : Value} {b : Bool} (hd : P.underlying kt = some d) (hc : canKey P kt d k b = true) (hk : VRel m k k') (w : World) :
    k' = k ∧ (Instr.checkKey b 10000 kt k).run P w = .ok () w ∧ (flat k || Eng.aggFlat k) = true := by
  unfold canKey at hc
  cases hko : keyOk d k with
  | true =>
    have hfk : flat k = true := by
      unfold keyOk at hko
      split at hko <;> first | rfl | cases hko
    exact ⟨hk.flat hfk, checkKey_ok hd hko b w, by rw [hfk]; rfl⟩
  | false =>
    rw [hko] at hc
    simp only [cond_false, Bool.and_eq_true] at hc
    refine ⟨hk.aggFlat hc.1, ?_, by rw [hc.1]; simp⟩
    have h2 := hc.2
    unfold checked at h2
    cases hp : prun P (Instr.checkKey b 10000 kt k) with
    | none => rw [hp] at h2; cases h2
    | some r => cases r with
      | error e => rw [hp] at h2; cases h2
      | ok u => exact prun_ok hp w

omit [Pins] in
theorem fask_rel {kt : TypeId} {k : Value} (w : World) : ∀ (es es' : List MapEntry) (i : Nat), ELRel m es es' →
    (fask P kt k es i = some none → (Instr.findAsking kt k es' i).run P w = .ok none w) ∧
    (∀ j v, fask P kt k es i = some (some (j, v)) → i ≤ j ∧ ∃ v', (Instr.findAsking kt k es' i).run P w = .ok (some (j, v')) w ∧ VRel m v v' ∧ ∃ e, es[j - i]? = some e)
  | [], es', i, h => by
    have : es' = [] := List.eq_nil_of_length_eq_zero (by simpa using h.1.symm)
    subst this
    exact ⟨fun _ => rfl, fun j v h => (by cases h)⟩
  | x :: es, [], i, h => by simp [ELRel] at h
  | x :: es, x' :: es', i, h => by
    obtain ⟨⟨h1, _, h2, _⟩, h3⟩ := h.cons
    obtain ⟨ih1, ih2⟩ := fask_rel (kt := kt) (k := k) w es es' (i + 1) h3
    have e : fask P kt k (x :: es) i = (match prun P (Op.equal kt k x.key) with
      | some (.ok true) => some (some (i, x.val))
      | some (.ok false) => fask P kt k es (i + 1)
      | _ => none) := rfl
    have e' : Instr.findAsking kt k (x' :: es') i = (do if ← Op.equal kt k x'.key then pure (some (i, x'.val)) else Instr.findAsking kt k es' (i + 1)) := rfl
    rw [e, e']
    cases hp : prun P (Op.equal kt k x.key) with
    | none => exact ⟨fun h => (by cases h), fun j v h => (by cases h)⟩
    | some r => cases r with
      | error y => exact ⟨fun h => (by cases h), fun j v h => (by cases h)⟩
      | ok b =>
        have hrun := prun_ok hp w
        rw [h1] at hrun
        cases b with
        | true => exact ⟨fun h => (by cases h), fun j v h => (by
            cases h
            exact ⟨Nat.le_refl _, x'.val, by simp [hrun], h2, x, by simp⟩)⟩
        | false =>
          refine ⟨fun h => by simp [hrun, ih1 h], fun j v h => ?_⟩
          obtain ⟨h4, v', h5, h6, e0, h7⟩ := ih2 j v h
          refine ⟨by omega, v', by simp [hrun, h5], h6, e0, ?_⟩
          have : j - i = (j - (i + 1)) + 1 := by omega
          rw [this]
          simpa using h7

omit [Pins] in
theorem ffind_rel {kt : TypeId} {d : TypeDesc} {k : Value} {b : Bool} (hd : P.underlying kt = some d) (hc : canKey P kt d k b = true) {es : List MapEntry} {es' : List MapEntry} (he : ELRel m es es') (w : World) :
    (ffind P kt d k es = some none → (Instr.findKey kt k es').run P w = .ok none w) ∧
    (∀ j v, ffind P kt d k es = some (some (j, v)) → ∃ v', (Instr.findKey kt k es').run P w = .ok (some (j, v')) w ∧ VRel m v v' ∧ ∃ e, es[j]? = some e) := by
  have hru := run_underlying hd w
  unfold ffind
  unfold canKey at hc
  cases hko : keyOk d k with
  | true =>
    obtain ⟨h1, h2⟩ := findNow_rel (d := d) (k := k) es es' 0 he
    refine ⟨fun h => by simp [Instr.findKey, hru, h1 h], fun j v h => ?_⟩
    obtain ⟨_, v', h5, h6, e, h7⟩ := h2 j v h
    exact ⟨v', by simp [Instr.findKey, hru, h5], h6, e, by simpa using h7⟩
  | false =>
    rw [hko] at hc
    simp only [cond_false, Bool.and_eq_true] at hc
    obtain ⟨h1, h2⟩ := fask_rel (P := P) (kt := kt) (k := k) w es es' 0 he
    have hnow : ∀ y : Value, Instr.sameNow d k y = none := fun y => by
      cases k with
      | agg cs => cases d <;> first | rfl | (cases y <;> rfl)
      | _ => cases hc.1
    have hfk : (Instr.findKey kt k es').run P w = (Instr.findAsking kt k es' 0).run P w := by
      cases es' with
      | nil => simp [Instr.findKey, hru, Instr.findNow, Instr.findAsking]
      | cons x r => simp [Instr.findKey, hru, Instr.findNow, hnow]
    rw [hfk]
    refine ⟨h1, fun j v h => ?_⟩
    obtain ⟨_, v', h5, h6, e, h7⟩ := h2 j v h
    exact ⟨v', h5, h6, e, by simpa using h7⟩

theorem flook_sound (hr : Rel Top m σ w) {d : TypeDesc} {kt et : TypeId} {z k k' : Value} (hd : P.underlying kt = some d) (hz : zeroVal P et = some z) {es : List MapEntry} {es' : Array MapEntry} (he : ELRel m es es'.toList) (ok : Bool) (hk : VRel m k k')
    {s : Sem Value} (hs : ∀ r, (Instr.checkKey es'.isEmpty 10000 kt k').run P w = .ok () w → (Instr.findKey kt k' es'.toList).run P w = .ok r w → (zeroValue et).run P w = .ok z w →
      s.run P w = .ok (match r with | some (_, v) => (if ok then .tuple #[v, .bool true] else v) | none => (if ok then .tuple #[z, .bool false] else z)) w) :
    OSound P m σ w (do pure (.value (← s))) (flook P kt d z k ok es σ) := by
  unfold flook
  cases hc : canKey P kt d k es.isEmpty with
  | false => trivial
  | true =>
    obtain ⟨rfl, hck, _⟩ := canKey_ok hd hc hk w
    have hem : es'.isEmpty = es.isEmpty := by
      have h0 : es.length = es'.size := by simpa using he.1
      rw [Bool.eq_iff_iff, List.isEmpty_iff_length_eq_zero, Array.isEmpty_iff_size_eq_zero]
      omega
    rw [← hem] at hck
    obtain ⟨h1, h2⟩ := ffind_rel hd hc he w
    obtain ⟨h3, h4⟩ := zeroVal_some hz w
    show OSound P m σ w _ (match ffind P kt d k' es with
      | some (some (_, v)) => cond ok (.val (.tuple #[v, .bool true]) σ) (.val v σ)
      | some none => cond ok (.val (.tuple #[z, .bool false]) σ) (.val z σ)
      | none => .no)
    cases hf : ffind P kt d k' es with
    | none => trivial
    | some r => cases r with
      | none =>
        have hrun : s.run P w = .ok (if ok then .tuple #[z, .bool false] else z) w := hs none hck (h1 hf) h3
        cases ok with
        | false => exact .valueS hr hrun (h4 m)
        | true => exact .valueS hr hrun ((h4 m).pair (.bool _))
      | some p =>
        obtain ⟨j, v⟩ := p
        obtain ⟨v', h5, h6, _⟩ := h2 j v hf
        have hrun : s.run P w = .ok (if ok then .tuple #[v', .bool true] else v') w := hs (some (j, v')) hck h5 h3
        cases ok with
        | false => exact .valueS hr hrun h6
        | true => exact .valueS hr hrun (h6.pair (.bool _))

theorem flookup_sound (hr : Rel Top m σ w) {t kt et : TypeId} {d : TypeDesc} {z : Value} (ht : mapInfo P t = some (kt, d, et)) (hz : zeroVal P et = some z) {x x' k k' : Value} (hx : VRel m x x') (hk : VRel m k k') (ok : Bool) :
    OSound P m σ w (do pure (.value (← Instr.lookup t x' k' ok))) (flookup2 P kt d z x k ok σ) := by
  obtain ⟨hu, hd⟩ := mapInfo_some ht
  have hru := run_underlying hu w
  unfold flookup2
  split
  · cases hx
    exact flook_sound hr hd hz (es' := #[]) ⟨rfl, fun i e e' a => by simp at a⟩ ok hk (fun q a b c => by cases q <;> simp_all [Instr.lookup])
  · rename_i r
    cases hx with
    | map hm =>
      rename_i e0
      cases hg : σ.heap.get r with
      | none => trivial
      | some ent =>
        simp only
        split
        · rename_i es ck ho
          obtain ⟨_, hs⟩ := hr.sync r ent e0 trivial hg hm
          rw [ho] at hs
          obtain ⟨es', h1, h2⟩ := hs
          exact flook_sound hr hd hz h2 ok hk (fun q a b c => by have hg := run_getObjM (P := P) h1; cases q <;> simp_all [Instr.lookup])
        · trivial
  · trivial

omit [Pins] in
theorem run_setObj {r : Nat} {o o' : Obj} (h : w.heap[r]? = some o) (hm : (match o with | .cells .. => false | _ => true) = true) : (setObj r o').run P w = .ok () { w with heap := w.heap.setIfInBounds r o' } := by
  simp only [setObj, Sem.run, h]
  cases o <;> first | rfl | (simp at hm)

/-- An object of another kind than cells, put anew. -/
theorem Rel.putObj (hr : Rel Top m σ w) {b : Nat} {ent : Ent} {e : MEnt} (o : FObj) (o' : Obj) (hb : σ.heap.get b = some ent) (ha : alive ent.obj = true) (hm : m b = some e) (hro : ent.ro = false)
    (hs : Sync m o none e { w with heap := w.heap.setIfInBounds e.blk o' }) :
    Rel Top m (σ.put b o none) { w with heap := w.heap.setIfInBounds e.blk o' } ∧ Step σ (σ.put b o none) m m w { w with heap := w.heap.setIfInBounds e.blk o' } := by
  have h := hr.sync b ent e trivial hb hm
  exact hr.put o none hb ha hm (by rw [← h.1]; exact hro) hs (by simp) (fun k hk => Array.getElem?_setIfInBounds_ne (fun x => hk x.symm)) rfl rfl rfl

omit [Pins] in
theorem ELRel.snoc {es es' : List MapEntry} (h : ELRel m es es') {k v v' : Value} {ck : Nat} (hk : (flat k || Eng.aggFlat k) = true) (hv : VRel m v v') : ELRel m (es ++ [{ key := k, val := v, born := ck }]) (es' ++ [{ key := k, val := v', born := ck }]) := by
  refine ⟨by simp [h.1], fun i e e' a b => ?_⟩
  by_cases hi : i < es.length
  · rw [List.getElem?_append_left hi] at a
    rw [List.getElem?_append_left (by rw [← h.1]; exact hi)] at b
    exact h.2 i e e' a b
  · rw [List.getElem?_append_right (by omega)] at a
    rw [List.getElem?_append_right (by rw [← h.1]; omega), ← h.1] at b
    have hz : i - es.length = 0 := by
      cases hq : i - es.length with
      | zero => rfl
      | succ n => rw [hq] at a; simp at a
    rw [hz] at a b
    simp at a b
    subst a
    subst b
    exact ⟨rfl, hk, hv, rfl⟩

theorem fmapUpdate_sound (hr : Rel Top m σ w) {t kt et : TypeId} {d : TypeDesc} (ht : mapInfo P t = some (kt, d, et)) {x x' k k' v v' : Value} (hx : VRel m x x') (hk : VRel m k k') (hv : VRel m v v') :
    OSound P m σ w (do Instr.mapUpdate t x' k' v'; pure .skip) (fmapUpdate P kt d x k v σ) := by
  obtain ⟨hu, hd⟩ := mapInfo_some ht
  have hru := run_underlying hu w
  unfold fmapUpdate
  split
  · rename_i r
    cases hx with
    | map hm =>
      rename_i e0
      cases hg : σ.heap.get r with
      | none => trivial
      | some ent =>
        simp only
        split
        · rename_i es ck ho hro
          obtain ⟨_, hs⟩ := hr.sync r ent e0 trivial hg hm
          rw [ho] at hs
          obtain ⟨es', h1, h2⟩ := hs
          have hlt : e0.blk < w.heap.size := (hr.dom _ _ hm).2
          cases hko : canKey P kt d k false with
          | false => trivial
          | true =>
            obtain ⟨rfl, hck, hfk⟩ := canKey_ok hd hko hk w
            obtain ⟨h3, h4⟩ := ffind_rel hd hko h2 w
            have hal : alive ent.obj = true := by rw [ho]; rfl
            show OSound P m σ w _ (fmapPut P kt d r k' v es ck σ)
            unfold fmapPut
            cases hf : ffind P kt d k' es with
            | none => trivial
            | some q => cases q with
              | none =>
                have h5 := h3 hf
                obtain ⟨hR, hS⟩ := hr.putObj (.map (es ++ [{ key := k', val := v, born := ck }]) (ck + 1)) (.map (es'.push { key := k', val := v', born := ck }) (ck + 1)) hg hal hm hro
                  ⟨es'.push { key := k', val := v', born := ck }, by simp [hlt], by simpa using h2.snoc hfk hv⟩
                exact ⟨m, _, by simp [Instr.mapUpdate, hru, run_getObjM h1, hck, h5, run_setObj h1 rfl], hR, hS⟩
              | some p =>
                obtain ⟨j, u⟩ := p
                simp only
                obtain ⟨u', h5, h6, e, h7⟩ := h4 j u hf
                rw [nth_eq]
                rw [h7]
                simp only
                cases hsb : Instr.sameBits 10000 e.key k' with
                | false => trivial
                | true =>
                  have hj : j < es'.size := by
                    have := (List.getElem?_eq_some_iff.1 h7).1
                    have h8 := h2.1
                    simp at h8
                    omega
                  have h9 : es'[j]? = some es'[j] := Array.getElem?_eq_getElem hj
                  obtain ⟨h10, h11, h12, h13⟩ := h2.2 j e es'[j] h7 (by simp [hj])
                  have hE : ELRel m (setNth { key := k', val := v, born := e.born } es j) (es'.modify j fun e => { e with key := k', val := v' }).toList := by
                    refine ⟨by rw [setNth_eq]; simpa using h2.1, fun i y y' a b => ?_⟩
                    rw [setNth_eq, List.getElem?_set] at a
                    simp only [Array.getElem?_toList, Array.getElem?_modify] at b
                    by_cases hij : j = i
                    · subst hij
                      rw [if_pos rfl] at a b
                      rw [h9] at b
                      have hl : j < es.length := (List.getElem?_eq_some_iff.1 h7).1
                      rw [if_pos hl] at a
                      simp at a b
                      subst a
                      subst b
                      exact ⟨rfl, hfk, hv, h13⟩
                    · rw [if_neg hij] at a b
                      exact h2.2 i y y' a (by simpa using b)
                  obtain ⟨hR, hS⟩ := hr.putObj (.map (setNth { key := k', val := v, born := e.born } es j) ck) (.map (es'.modify j fun e => { e with key := k', val := v' }) ck) hg hal hm hro
                    ⟨es'.modify j fun e => { e with key := k', val := v' }, by simp [hlt], hE⟩
                  rw [h10] at hsb
                  exact ⟨m, _, by simp [Instr.mapUpdate, hru, run_getObjM h1, hck, h5, h9, Instr.keyThatStays, hsb, run_setObj h1 rfl], hR, hS⟩
        · trivial
  · trivial

/-- A new object of another kind than cells. -/
theorem newObj_sound (hr : Rel Top m σ w) (o : FObj) (o' : Obj) (hs : ∀ (m' : Mp) (w' : World), m.le m' → w'.heap[w.heap.size]? = some o' → Sync m' o none ⟨w.heap.size, 0, false, none⟩ w') :
    ∃ m' w', (newObj o').run P w = .ok w.heap.size w' ∧ Rel Top m' (σ.push o none) w' ∧ Step σ (σ.push o none) m m' w w' ∧ m' σ.next = some ⟨w.heap.size, 0, false, none⟩ := by
  obtain ⟨h1, h2⟩ := hr.push o none o' ⟨w.heap.size, 0, false, none⟩ rfl rfl (hs _ _ (Mp.le_add _ hr.none_next) (by simp))
  exact ⟨_, _, rfl, h1.weaken fun b _ => by
    by_cases hb : b = σ.next
    · exact .inr hb
    · exact .inl trivial, h2, by simp [Mp.add]⟩

theorem makeMap_sound (hr : Rel Top m σ w) (t : TypeId) :
    OSound P m σ w (do pure (.value (← Instr.makeMap t none))) (.val (.map (some σ.next)) (σ.push (.map [] 0) none)) := by
  obtain ⟨m', w', h1, h2, h3, h4⟩ := newObj_sound (P := P) hr (.map [] 0) (.map #[] 0) fun m' w' _ hw => ⟨#[], hw, rfl, fun i e e' a => by simp at a⟩
  exact ⟨m', w', _, by simp [Instr.makeMap, h1], h2, h3, .map h4⟩

theorem range_sound (hr : Rel Top m σ w) {t : TypeId} (hu : under P t = some .string) (s : ByteArray) :
    OSound P m σ w (do pure (.value (← Instr.range t (.string s)))) (.val (.pointer (some ⟨σ.next, 0, none⟩)) (σ.push (.siter s 0) none)) := by
  have hru := run_underlying (under_eq hu) w
  obtain ⟨m', w', h1, h2, h3, h4⟩ := newObj_sound (P := P) hr (.siter s 0) (.stringIter s 0) fun m' w' _ hw => ⟨rfl, hw⟩
  exact ⟨m', w', _, by simp [Instr.range, hru, h1], h2, h3, .ptr (off := 0) h4⟩

theorem fnext_sound (hr : Rel Top m σ w) {x x' : Value} (hx : VRel m x x') (t : TypeId) :
    OSound P m σ w (do pure (.value (← Instr.next x' true t))) (fnext x σ) := by
  unfold fnext
  split
  · rename_i r
    cases hx with
    | ptr hm =>
      rename_i e0
      cases hg : σ.heap.get r with
      | none => trivial
      | some ent =>
        simp only
        split
        · rename_i s pos ho hro
          obtain ⟨_, hs⟩ := hr.sync r ent e0 trivial hg hm
          rw [ho] at hs
          obtain ⟨hsh, h1⟩ := hs
          have hlt : e0.blk < w.heap.size := (hr.dom _ _ hm).2
          have hal : alive ent.obj = true := by rw [ho]; rfl
          have hget : (getObj e0.blk).run P w = .ok (.stringIter s pos) w := by simp [getObj, Sem.run, h1]
          rw [hsh]
          by_cases hp : pos < s.size
          · rw [blt_t hp]
            obtain ⟨hR, hS⟩ := hr.putObj (.siter s (pos + (Utf8.decode s pos).2)) (.stringIter s (pos + (Utf8.decode s pos).2)) hg hal hm hro ⟨hsh, by simp [hlt]⟩
            exact ⟨m, _, .tuple #[.bool true, goInt pos, .int .i32 (Utf8.decode s pos).1], by simp [Instr.next, hget, hp, run_setObj h1 rfl], hR, hS, LRel.tuple (.cons (.bool _) (.cons (.int _ _) (.cons (.int _ _) .nil)))⟩
          · rw [blt_f hp]
            exact .valueS hr (v' := .tuple #[.bool false]) (by simp [Instr.next, hget, hp]) (LRel.tuple (.cons (.bool _) .nil))
        · trivial
  · trivial
end
end Go.Eng
