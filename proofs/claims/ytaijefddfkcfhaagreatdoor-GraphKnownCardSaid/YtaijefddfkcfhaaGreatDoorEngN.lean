/- Every operation, as the reading has it. -/
import Derived.Test.YtaijefddfkcfhaaGreatDoorEngM
namespace Go.Eng
open Go
variable [Pins]

omit [Pins] in
theorem ieq_eq (a b : Int) : ieq a b = (a == b) := by
  rw [Bool.eq_iff_iff, beq_iff_eq]
  cases a with
  | ofNat a => cases b with
    | ofNat b => simp only [ieq, Nat.beq_eq, Int.ofNat_eq_natCast]; omega
    | negSucc b => simp only [ieq, Int.ofNat_eq_natCast, Bool.false_eq_true, false_iff]; omega
  | negSucc a => cases b with
    | ofNat b => simp only [ieq, Int.ofNat_eq_natCast, Bool.false_eq_true, false_iff]; omega
    | negSucc b => simp only [ieq, Nat.beq_eq]; omega
omit [Pins] in
theorem ile_eq (a b : Int) : ile a b = decide (a ≤ b) := by
  rw [Bool.eq_iff_iff, decide_eq_true_eq]
  cases a with
  | ofNat a => cases b with
    | ofNat b => simp only [ile, Nat.ble_eq, Int.ofNat_eq_natCast]; omega
    | negSucc b => simp only [ile, Int.ofNat_eq_natCast, Bool.false_eq_true, false_iff]; omega
  | negSucc a => cases b with
    | ofNat b => simp only [ile, Int.ofNat_eq_natCast, true_iff]; omega
    | negSucc b => simp only [ile, Nat.ble_eq]; omega
omit [Pins] in
theorem cond_ble {α : Type} (n l : Nat) (x y : α) : cond (Nat.ble n l) x y = if n ≤ l then x else y := by
  by_cases h : n ≤ l
  · rw [ble_t h, if_pos h, cond_true]
  · rw [ble_f h, if_neg h, cond_false]
omit [Pins] in
theorem wrapI_eq (n : Int) : wrapI n = IntKind.i64.wrap n := by
  cases n with
  | ofNat n =>
    simp only [wrapI, cond_ble]
    split
    · rw [IntKind.wrap_i64]
      simp only [Int.ofNat_eq_natCast]
      omega
    · rfl
  | negSucc n =>
    simp only [wrapI, cond_ble]
    split
    · rw [IntKind.wrap_i64]
      omega
    · rfl

section
variable {P : Program} {m : Mp} {σ : FState} {w : World} {a : FAct} {c : Act}

omit [Pins] in
theorem eqGuard_int (op : BinOp) (t : TypeId) (x y : Operand) (k k' : IntKind) (n n' : Int) : (eqGuard op t x y (.int k n) (.int k' n')).run P w = .ok () w := by
  cases op <;> simp [eqGuard]

omit [Pins] in
theorem cint_sound {op : BinOp} {f : Int → Int → Value} (h : (cint op).un = some f) (t : TypeId) (x y : Operand) (n n' : Int) :
    (do eqGuard op t x y (.int .i64 n) (.int .i64 n'); binOp op t (.int .i64 n) (.int .i64 n') : Sem Value).run P w = .ok (f n n') w ∧ ∀ m : Mp, VRel m (f n n') (f n n') := by
  have hg := eqGuard_int (P := P) (w := w) op t x y .i64 .i64 n n'
  cases op <;> simp only [cint] at h <;> cases h <;>
    simp [hg, binOp, Op.intArith, Op.intCmp, wrapI_eq, ieq_eq, ile_eq, VRel.int, VRel.bool, bne] <;> first | (rw [Bool.eq_iff_iff]; simp; done) | skip

omit [Pins] in
theorem eqGuard_nil {op : BinOp} {d : TypeDesc} {x y : Operand} {v u v' u' : Value} {r : Bool} (hv : VRel m v v') (hu : VRel m u u') (h : fnil d (isConst x || isConst y) v u = some r) (t : TypeId) : (eqGuard op t x y v' u').run P w = .ok () w := by
  unfold fnil at h
  split at h
  · split at h <;> first | (cases h; done) | skip
    · cases hv; cases hu; cases op <;> simp [eqGuard]
    · cases hv; cases hu; cases op <;> simp [eqGuard]
    · cases hv; cases hu
      have hl : (isConst x || isConst y) = true := by
        cases hq : (isConst x || isConst y) with
        | true => rfl
        | false => rw [hq] at h; cases h
      cases x <;> cases y <;> first | (simp [isConst] at hl; done) | (cases op <;> simp [eqGuard])
  · split at h <;> first | (cases h; done) | (cases hv <;> cases hu <;> cases op <;> simp [eqGuard])
  · split at h <;> first | (cases h; done) | (cases hv <;> cases hu <;> cases op <;> simp [eqGuard])
  · split at h <;> first | (cases h; done) | (cases hv <;> cases hu <;> cases op <;> simp [eqGuard])
  · split at h <;> first | (cases h; done) | (cases hv <;> cases hu <;> cases op <;> simp [eqGuard])
  · cases h

omit [Pins] in
theorem binOp_nil {d : TypeDesc} {lit : Bool} {v u v' u' : Value} {r : Bool} (hv : VRel m v v') (hu : VRel m u u') (h : fnil d lit v u = some r) (t : TypeId) :
    binOp .eql t v' u' = (do pure (.bool (← Op.equal t v' u'))) ∧ binOp .neq t v' u' = (do pure (.bool (!(← Op.equal t v' u')))) := by
  unfold fnil at h
  split at h
  · split at h <;> first | (cases h; done) | (cases hv; cases hu; exact ⟨rfl, rfl⟩)
  · split at h <;> first | (cases h; done) | (cases hv <;> cases hu <;> exact ⟨rfl, rfl⟩)
  · split at h <;> first | (cases h; done) | (cases hv <;> cases hu <;> exact ⟨rfl, rfl⟩)
  · split at h <;> first | (cases h; done) | (cases hv <;> cases hu <;> exact ⟨rfl, rfl⟩)
  · split at h <;> first | (cases h; done) | (cases hv <;> cases hu <;> exact ⟨rfl, rfl⟩)
  · cases h

theorem fbin0_sound (hr : Rel Top m σ w) {v u v' u' : Value} (hv : VRel m v v') (hu : VRel m u u') (op : BinOp) (t : TypeId) (x y : Operand) :
    OSound P m σ w (do pure (.value (← (do eqGuard op t x y v' u'; binOp op t v' u' : Sem Value)))) (fbin0 P op t x y v u σ) := by
  unfold fbin0
  cases hf : plain2 v u with
  | true =>
    unfold plain2 at hf
    simp only [Bool.and_eq_true, Bool.or_eq_true] at hf
    rcases hf with hf | hf
    · obtain rfl := hv.flat hf.1
      obtain rfl := hu.flat hf.2
      exact .orPure hr
    · obtain rfl := hv.aggFlat hf.1
      obtain rfl := hu.aggFlat hf.2
      exact .orPure hr
  | false =>
    have key : ∀ neg, op = (if neg then .neq else .eql) → OSound P m σ w (do pure (.value (← (do eqGuard op t x y v' u'; binOp op t v' u' : Sem Value)))) (fnilE P neg t (isConst x || isConst y) v u σ) := fun neg hop => by
      unfold fnilE
      cases hd : under P t with
      | none => trivial
      | some d =>
        simp only
        cases hn : fnil d (isConst x || isConst y) v u with
        | none => trivial
        | some r =>
          have h1 := eqGuard_nil (P := P) (w := w) (op := op) hv hu hn t
          have h2 := fnil_sound (under_eq hd) hv hu hn w
          obtain ⟨h3, h4⟩ := binOp_nil hv hu hn t
          refine .valueS hr (v' := .bool (r ^^ neg)) ?_ (.bool _)
          cases neg
          · subst hop
            simp at h1 ⊢
            simp [h1, h3, h2]
          · subst hop
            simp at h1 ⊢
            simp [h1, h4, h2]
    cases op <;> first | exact key false rfl | exact key true rfl | trivial

omit [Pins] in
theorem asI64_some {v v' : Value} {n : Int} (hv : VRel m v v') (h : asI64 v = some n) : v' = .int .i64 n := by
  unfold asI64 at h
  split at h
  · split at h
    · cases h
      cases hv
      rfl
    · cases h
  · cases h

theorem fpart_sound (hr : Rel Top m σ w) {s : TypeId} {f off : Nat} {sz : Option Nat} (hp : partInfo P s f = some (off, sz)) {x x' : Value} (hx : VRel m x x') :
    OSound P m σ w (do pure (.value (← Instr.field s x' f))) (fpart off sz x σ) := by
  unfold partInfo at hp
  split at hp
  · rename_i fs hu
    have hru := run_underlying (under_eq hu) w
    cases hf : fs[f]? with
    | none => rw [hf] at hp; cases hp
    | some fl =>
      rw [hf] at hp
      simp only at hp
      cases ha : aggSize P fl.type with
      | none => rw [ha] at hp; cases hp
      | some sz' =>
        rw [ha] at hp
        cases hp
        unfold fpart
        split
        · rename_i cs
          cases hx with
          | agg h1 hA =>
            rename_i cs'
            have hl := LRel.of_array h1 hA
            cases sz with
            | some n =>
              simp only
              obtain ⟨h2, h3⟩ := aggSize_some ha w
              cases ht : takeN n (dropN fl.offset cs.toList) with
              | none => trivial
              | some l =>
                obtain ⟨h4, h5⟩ := takeN_some ht
                rw [dropN_eq] at h5
                subst h5
                have e : cs'.extract fl.offset (fl.offset + n) = ((cs'.toList.drop fl.offset).take n).toArray := by
                  apply Array.ext'
                  simp
                refine .valueS hr (v' := .agg ((cs'.toList.drop fl.offset).take n).toArray) ?_ ((hl.drop _).take _).agg
                rw [← e]
                simp [Instr.field, hru, hf, asAgg, part, h2, h3]
            | none =>
              simp only
              have h2 := aggSize_none ha w
              rw [nth_eq]
              cases hv : cs.toList[fl.offset]? with
              | none => trivial
              | some v =>
                obtain ⟨v', h3, h4⟩ := hl.get hv
                refine .valueS hr (v' := v') ?_ h4
                have h3' : cs'[fl.offset]? = some v' := by simpa using h3
                simp [Instr.field, hru, hf, asAgg, part, h2, h3']
        · trivial
  · cases hp

theorem findexS_sound (hr : Rel Top m σ w) {t : TypeId} (hu : under P t = some .string) {x x' i i' : Value} (hx : VRel m x x') (hi : VRel m i i') :
    OSound P m σ w (do pure (.value (← Instr.index t x' i'))) (findexS x i σ) := by
  have hru := run_underlying (under_eq hu) w
  unfold findexS
  split
  · rename_i s
    cases hx
    cases hn : natOf i with
    | none => trivial
    | some n =>
      simp only
      obtain ⟨k, rfl⟩ := natOf_eq hi hn
      cases hb : s[n]? with
      | none => trivial
      | some b => exact .valueS hr (v' := .int .u8 b.toNat) (by simp [Instr.index, asIntOf, hru, hb]) (.int _ _)
  · trivial

end
end Go.Eng
