/- Copies, calls, equality with nothing, whole numbers. -/
import Derived.Test.YtaijefddfkcfhaaGreatDoorEngL
namespace Go.Eng
open Go
variable [Pins]

theorem OSound.congr {P : Program} {m : Mp} {σ : FState} {w : World} {s s' : Sem Next} {r : ORes} (h : OSound P m σ w s r) (e : s'.run P w = s.run P w) : OSound P m σ w s' r := by
  cases r <;> simp only [OSound] at * <;> first | trivial | (rw [e]; exact h)

section
variable {P : Program} {m : Mp} {σ : FState} {w : World} {a : FAct} {c : Act}

theorem fcopy_sound (hr : Rel Top m σ w) {t e : TypeId} {size : Nat} (ht : elemSlice P t = some e) (hs : sizeOfT P e = some size) {d d' x x' : Value} (hd : VRel m d d') (hx : VRel m x x') (ts : List TypeId) (ty : TypeId) :
    OSound P m σ w (do pure (.value (← Builtin.copy_ (t :: ts).toArray ty #[d', x']))) (fcopy size d x σ) := by
  have hru := run_underlying (elemSlice_some ht) w
  have hsz := fun w => run_sizeOf hs w
  unfold fcopy
  split
  · rename_i q dl dc q' n nc
    by_cases h0 : Nat.min n dl = 0
    · rw [show Nat.beq (Nat.min n dl) 0 = true by rw [h0]; rfl]
      refine .valueS hr (v' := goInt 0) ?_ (.int _ _)
      cases hd <;> cases hx <;> simp [Builtin.copy_, hru, hsz, h0, Builtin.lenOf, Builtin.firstCells, loadCells, loadCellsFrom, storeCells]
    · rw [beq_f h0]
      simp only [cond_false]
      split
      · rename_i b o b' o'
        cases hd with
        | empty hm => simp at h0
        | slice hm hc =>
          rename_i dc' e1
          cases hx with
          | empty hm' => simp at h0
          | slice hm' hc' =>
            rename_i nc' e2
            unfold fcopy2
            cases hl : loadAll σ b' o' (Nat.min n dl * size) with
            | none => trivial
            | some new =>
              cases hg : σ.heap.get b with
              | none => trivial
              | some ent =>
                simp only
                split
                · rename_i l el ho hro
                  cases h1 : new.all oneCell with
                  | false => trivial
                  | true =>
                    simp only [cond_true]
                    cases hsp : spliceN o new l with
                    | none => trivial
                    | some l' =>
                      obtain ⟨new', h2, h3, h4, _⟩ := loadAll_sound (P := P) hr hm' hl
                      obtain ⟨w', h5, h6, h7⟩ := hr.splice (P := P) hm hg ho hro hsp h2 (all_one h2 h1)
                      refine ⟨m, w', goInt (Nat.min n dl), ?_, h6, h7, .int _ _⟩
                      simp [Builtin.copy_, hru, Builtin.lenOf, Builtin.firstCells, hsz, h4, h5]
                · trivial
      · trivial
  · trivial

theorem fun1_sound (hr : Rel Top m σ w) {f : Value → Sem Value} {v v' : Value} (hv : VRel m v v') : OSound P m σ w (do pure (.value (← f v'))) (fun1 P f v σ) := by
  unfold fun1
  cases hf : flat v with
  | false => trivial
  | true =>
    obtain rfl := hv.flat hf
    exact .orPure hr

theorem fun2_sound (hr : Rel Top m σ w) {f : Value → Value → Sem Value} {v v' u u' : Value} (hv : VRel m v v') (hu : VRel m u u') {s : Sem Value} (hs : s.run P w = (f v' u').run P w) : OSound P m σ w (do pure (.value (← s))) (fun2 P f v u σ) := by
  unfold fun2
  cases hf : (flat v && flat u) with
  | false => trivial
  | true =>
    simp only [Bool.and_eq_true] at hf
    obtain rfl := hv.flat hf.1
    obtain rfl := hu.flat hf.2
    exact (OSound.orPure hr).congr (by simp [hs])

theorem fcallV_sound (hr : Rel Top m σ w) {f f' : Value} (hf : VRel m f f') {args : List Value} {args' : Array Value} (ha : LRel m args args'.toList) {s : Sem Next} (hs : s = (do let d ← Deferred.ofValue f' args'; invoke d.target d.args)) :
    OSound P m σ w s (fcallV f args σ) := by
  subst hs
  unfold fcallV
  split
  · rename_i g first cap
    cases hf with
    | func hfn h1 h2 hA hB =>
      cases hfn
      rename_i first' cap'
      refine ⟨first' ++ args' ++ cap', by simp [Deferred.ofValue, invoke], rfl, ?_⟩
      rw [Array.toList_append, Array.toList_append]
      exact ((LRel.of_array h1 hA).append ha).append (LRel.of_array h2 hB)
  · rename_i l first cap
    cases hf with
    | func hfn h1 h2 hA hB =>
      cases hfn with
      | yield hm =>
      rename_i first' cap' e
      refine ⟨e, first' ++ args', hm, by simp [Deferred.ofValue, invoke], rfl, ?_⟩
      rw [Array.toList_append]
      exact (LRel.of_array h1 hA).append ha
  · trivial

theorem fdefer_sound (hr : Rel Top m σ w) {f f' : Value} (hf : VRel m f f') {args : List Value} {args' : Array Value} (ha : LRel m args args'.toList) :
    OSound P m σ w (do pure (.defer (← Deferred.ofValue f' args'))) (fdefer f args σ) := by
  unfold fdefer
  split
  · rename_i g first cap
    cases hf with
    | func hfn h1 h2 hA hB =>
      cases hfn
      rename_i first' cap'
      refine ⟨{ target := .fn (.func g) cap', args := first' ++ args' }, by simp [Deferred.ofValue], rfl, .fn g (LRel.of_array h2 hB) ?_⟩
      rw [Array.toList_append]
      exact (LRel.of_array h1 hA).append ha
  · trivial

omit [Pins] in
theorem isPtr_some {t : TypeId} {b : Bool} (h : isPtr P t = some b) : ∃ d, P.underlying t = some d ∧ b = (match d with | .pointer _ => true | _ => false) := by
  unfold isPtr at h
  cases hu : under P t with
  | none => rw [hu] at h; cases h
  | some d =>
    rw [hu] at h
    refine ⟨d, under_eq hu, ?_⟩
    cases d <;> (cases h; rfl)

theorem finvoke_sound (hr : Rel Top m σ w) {x x' : Value} (hx : VRel m x x') (name : String) {args : List Value} {args' : Array Value} (ha : LRel m args args'.toList) :
    OSound P m σ w (callMethod x' name args') (finvoke P x name args σ) := by
  unfold finvoke
  split
  · rename_i t v
    cases hx with
    | iface t hv =>
    rename_i v'
    cases hi : info P t with
    | none => trivial
    | some i =>
      have hti := run_typeInfo (info_eq hi) w
      simp only
      cases hf : i.methods.find? (·.name == name) with
      | none => trivial
      | some mm =>
        simp only
        unfold finvoke2
        cases hfu : mm.func with
        | none => trivial
        | some fp =>
          simp only
          cases hp : isPtr P t with
          | none => trivial
          | some p =>
            obtain ⟨d, hd, hb⟩ := isPtr_some hp
            have hru := run_underlying hd w
            simp only
            cases hc : (mm.path.isEmpty && (fp.2 == p)) with
            | false => trivial
            | true =>
              simp only [Bool.and_eq_true, beq_iff_eq] at hc
              obtain ⟨h1, h2⟩ := hc
              obtain ⟨f, pr⟩ := fp
              simp only at h2
              subst h2
              have hpath : mm.path.toList = [] := by simpa using h1
              refine ⟨#[v'] ++ args', ?_, rfl, by simpa using LRel.cons hv ha⟩
              have hm : (method (P.types.size + Made.depth) t v' name).run P w = .ok (f, v') w := by
                rw [show P.types.size + Made.depth = (P.types.size + 99) + 1 from rfl, method]
                subst hb
                cases d <;> simp [hti, hf, hpath, follow, hfu, receiverAt, hru, Place.get]
              simp [callMethod, hm]
  · trivial

omit [Pins] in
theorem fnil_sound {t : TypeId} {d : TypeDesc} (hd : P.underlying t = some d) {lit : Bool} {a b a' b' : Value} (ha : VRel m a a') (hb : VRel m b b') {r : Bool} (h : fnil d lit a b = some r) (w : World) : (Op.equal t a' b').run P w = .ok r w := by
  have hru := run_underlying hd w
  unfold Op.equal
  rw [show Op.maxDepth = 9999 + 1 from rfl, Op.equalIn]
  unfold fnil at h
  split at h
  · split at h <;> first | (cases h; done) | (cases ha; cases hb; first | (cases h; simp [hru]; done) | (cases lit <;> cases h; simp [hru]))
  · split at h <;> first | (cases h; done) | (cases ha <;> cases hb <;> cases h <;> simp [hru])
  · split at h <;> first | (cases h; done) | (cases ha <;> cases hb <;> cases h <;> simp [hru])
  · split at h <;> first | (cases h; done) | (cases ha <;> cases hb <;> cases h <;> simp [hru])
  · split at h <;> first | (cases h; done) | (cases ha <;> cases hb <;> cases h <;> simp [hru])
  · cases h
end
end Go.Eng
