/- Slices made and cut, tuples, interfaces, maps, strings. -/
import Derived.Test.YtaijefddfkcfhaaGreatDoorEngI
namespace Go.Eng
open Go
variable [Pins]

def ORel (m : Mp) : Option Value → Option Value → Prop
  | none, none => True
  | some v, some v' => VRel m v v'
  | _, _ => False

section
variable {P : Program} {m : Mp} {σ : FState} {w : World} {a : FAct} {c : Act}

omit [Pins] in
theorem ActRel.opt (h : ActRel m a c) (x : Option Operand) : ORel m ((copt x).un a) (x.map c.eval) := by
  cases x with
  | none => trivial
  | some x => exact h.eval x

omit [Pins] in
theorem map_range0 {α : Type} (f : Nat → α) : (Array.range 0).map f = #[] := by simp [Array.range]

omit [Pins] in
theorem reps_rel {z : List Value} {zv : Array Value} (hz : zv.toList = z) (hs : z.all simple1 = true) (hpos : 0 < z.length) (n : Nat) :
    LRel m (reps n z) ((Array.range (n * z.length)).map fun i => zv[i % zv.size]!).toList := by
  have hzs : zv.size = z.length := by rw [← hz]; simp
  refine ⟨by rw [reps_length]; simp, fun i v v' h h' => ?_⟩
  have hi : i < n * z.length := by
    have := (List.getElem?_eq_some_iff.1 h).1
    rwa [reps_length] at this
  rw [reps_get n z i hi] at h
  simp [hi] at h'
  rw [hzs] at h'
  have e : zv[i % z.length]? = some v := by
    rw [← Array.getElem?_toList, hz]
    exact h
  have e' : zv[i % z.length]! = v := by simp [getElem!_def, e]
  rw [e'] at h'
  subst h'
  exact .of_simple (List.all_eq_true.1 hs v (List.mem_of_getElem? h))

theorem buildSlice_sound (hr : Rel Top m σ w) {t e : TypeId} {n s : Nat} {z : List Value} (ht : elemSlice P t = some e) (hz : zeroCells P e = some z) (hs : sizeOfT P e = some s) (hsmall : n * s ≤ 100000) (hzl : z.length = s) (hpos : 0 < s)
    {parts : List (Nat × Value)} {parts' : Array (Nat × Value)} (hp : PRel m parts parts'.toList) :
    OSound P m σ w (do pure (.value (← Instr.buildSlice t n parts'))) (fbuildSlice e n s z parts σ) := by
  obtain ⟨i, zv, h1, h2, h3, h4⟩ := zeroCells_some hz
  unfold fbuildSlice
  cases hl : lay (fun i => some (i * s, s)) parts (reps n z) with
  | none => trivial
  | some l =>
    have hrp := reps_rel (m := m) h3 h4 (by omega) n
    obtain ⟨l', h5, h6⟩ := lay_sound (m := m) (fun i => some (i * s, s)) parts parts'.toList (reps n z) l _ hp hrp hl
    obtain ⟨m', w', h7, h8, h9, h10⟩ := newCells_sound (P := P) hr h6 e e
    refine ⟨m', w', .slice (some ⟨w.heap.size, 0, none⟩) n n, ?_, h8, h9, .slice (e := ⟨w.heap.size, 0, false, none⟩) h10 (.inl rfl)⟩
    have hsz := run_sizeOf hs w
    have hbig : ¬ n * s > 2 ^ 24 := by omega
    rw [hzl] at h5
    by_cases h0 : n * s = 0
    · have hn : n = 0 := by
        rcases Nat.mul_eq_zero.1 h0 with h | h
        · exact h
        · omega
      subst hn
      have h5' : Instr.fill (fun i => some (i * s, s)) #[] parts'.toList = some l' := by
        rw [← h5]
        congr 1
        simp [Array.range, Nat.zero_mul]
      have h7' : (newRow e l').run P w = .ok ⟨w.heap.size, 0, none⟩ w' := by simpa using h7
      simp [Instr.buildSlice, run_underlying (elemSlice_some ht), hsz, map_range0, h5', h7']
    · have h7' : (newRow e l').run P w = .ok ⟨w.heap.size, 0, none⟩ w' := by simpa using h7
      have hb : ¬ 16777216 < n * s := by omega
      simp [Instr.buildSlice, run_underlying (elemSlice_some ht), hsz, hb, h0, run_zeroValue h1 h2, h5, h7']

theorem makeSlice_sound (hr : Rel Top m σ w) {t e : TypeId} {i : TypeInfo} {z : List Value} (ht : elemSlice P t = some e) (hi : info P e = some i) (hz : zeroCells P e = some z) (hzl : z.length = i.size) (hpos : 0 < i.size)
    {x x' y y' : Value} (hx : VRel m x x') (hy : VRel m y y') :
    OSound P m σ w (do pure (.value (← Instr.makeSlice t x' y'))) (fmakeSlice e i.bytes z x y σ) := by
  obtain ⟨i', zv, h1, h2, h3, h4⟩ := zeroCells_some hz
  have hi' := info_eq hi
  rw [hi'] at h1
  cases h1
  unfold fmakeSlice
  cases hn : natOf x with
  | none => trivial
  | some n =>
    cases hk : natOf y with
    | none => trivial
    | some k =>
      simp only
      cases hc : (Nat.ble n k && Nat.ble (k * (i.bytes + 1)) 1000000000) with
      | false => trivial
      | true =>
        simp only [Bool.and_eq_true, Nat.ble_eq] at hc
        obtain ⟨hnk, hsmall⟩ := hc
        obtain ⟨kx, rfl⟩ := natOf_eq hx hn
        obtain ⟨ky, rfl⟩ := natOf_eq hy hk
        have hrp := reps_rel (m := m) h3 h4 (by omega) k
        obtain ⟨m', w', h7, h8, h9, h10⟩ := newCells_sound (P := P) hr hrp e e
        refine ⟨m', w', .slice (some ⟨w.heap.size, 0, none⟩) n k, ?_, h8, h9, .slice (e := ⟨w.heap.size, 0, false, none⟩) h10 (.inl rfl)⟩
        have hk9 : k ≤ 1000000000 := Nat.le_trans (Nat.le_mul_of_pos_right _ (by omega)) hsmall
        have wrapn : ∀ j : Nat, j ≤ 1000000000 → IntKind.i64.wrap (j : Int) = (j : Int) := fun j hj => by
          rw [IntKind.wrap_i64]
          omega
        have hb : (i.bytes : Int) * (k : Int) ≤ 281474976710656 := by
          have h : i.bytes * k ≤ 1000000000 := Nat.le_trans (by rw [Nat.mul_comm]; exact Nat.mul_le_mul_left _ (Nat.le_succ _)) hsmall
          have : ((i.bytes * k : Nat) : Int) ≤ 281474976710656 := by omega
          rwa [Int.natCast_mul] at this
        have hb' : ¬ (281474976710656 : Int) < (i.bytes : Int) * (k : Int) := by omega
        have hsz : (sizeOf e).run P w = .ok i.size w := by simp [sizeOf, run_typeInfo hi']
        have hnk' : ¬ (k : Int) < (n : Int) := by omega
        have h7' : (newRow e ((Array.range (k * i.size)).map fun i => zv.cells[i % zv.cells.size]!)).run P w = .ok ⟨w.heap.size, 0, none⟩ w' := by
          rw [hzl, Array.toArray_toList] at h7
          exact h7
        have hk0 : ¬ (k : Int) < 0 := by omega
        have hn0 : ¬ (n : Int) < 0 := by omega
        by_cases h0 : k * i.size = 0
        · have : k = 0 := by
            rcases Nat.mul_eq_zero.1 h0 with h | h
            · exact h
            · omega
          subst this
          have : n = 0 := by omega
          subst this
          have w0 : IntKind.i64.wrap 0 = 0 := by decide
          have h7'' : (newRow e #[]).run P w = .ok ⟨w.heap.size, 0, none⟩ w' := by
            rw [← h7']
            congr 2
            simp [Array.range, Nat.zero_mul]
          simp [Instr.makeSlice, run_underlying (elemSlice_some ht), asInt, asIntOf, run_typeInfo hi', w0, hsz, map_range0, h7'']
        · simp [Instr.makeSlice, run_underlying (elemSlice_some ht), asInt, asIntOf, run_typeInfo hi', wrapn k hk9, wrapn n (by omega), hb', hnk', hk0, hn0, hsz, h0, run_zeroValue hi' h2, h7']


theorem fextract_sound (hr : Rel Top m σ w) {v v' : Value} (hv : VRel m v v') (i : Nat) : OSound P m σ w (do pure (.value (← Instr.extract v' i))) (fextract i v σ) := by
  unfold fextract
  split
  · rename_i vs
    cases hx : vs[i]? with
    | none => trivial
    | some x =>
      simp only
      cases hv with
      | unknown => simp at hx
      | tuple ha hA =>
        rename_i vs'
        have hi : i < vs'.size := by
          rw [← ha]
          exact (Array.getElem?_eq_some_iff.1 hx).1
        have hx' : vs'[i]? = some vs'[i] := Array.getElem?_eq_getElem hi
        exact .valueS hr (v' := vs'[i]) (by simp [Instr.extract, hx']) (hA i x _ hx hx')
  · trivial
end
end Go.Eng
