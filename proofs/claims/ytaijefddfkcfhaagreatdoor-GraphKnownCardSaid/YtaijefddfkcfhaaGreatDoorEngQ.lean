/- What may be moved leaves the memory as it is, or lays one new piece. -/
import Derived.Test.YtaijefddfkcfhaaGreatDoorEngP
namespace Go.Eng
open Go

def Stays (σ : FState) (r : ORes) : Prop := ∀ v σ', r = .val v σ' → σ' = σ ∨ ∃ o fz, σ' = σ.push o fz

section
variable {P : Program} {σ : FState}
theorem Stays.no : Stays σ .no := fun v σ' h => by cases h
theorem Stays.panic (v : Value) (s : FState) : Stays σ (.panic v s) := fun v σ' h => by cases h
theorem Stays.val (v : Value) : Stays σ (.val v σ) := fun v σ' h => by cases h; exact .inl rfl
theorem Stays.push (v : Value) (o : FObj) (fz : Option Nat) : Stays σ (.val v (σ.push o fz)) := fun v σ' h => by cases h; exact .inr ⟨o, fz, rfl⟩
theorem Stays.cond {b : Bool} {x y : ORes} (hx : Stays σ x) (hy : Stays σ y) : Stays σ (cond b x y) := by cases b <;> assumption


theorem orPure_stays (s : Sem Value) : Stays σ (orPure P s σ) := by
  unfold orPure
  split
  · exact .cond (.val _) .no
  · exact .cond (.panic _ _) .no
  · exact .no

theorem fload_stays (sz : Option Nat) (v : Value) : Stays σ (fload sz v σ) := by
  unfold fload
  split
  · split
    · split
      · split <;> first | exact .val _ | exact .no
      · split <;> first | exact .val _ | exact .no
    · exact .no
  · exact .no
theorem ffield_stays (off : Nat) (v : Value) : Stays σ (ffield off v σ) := by
  unfold ffield
  split <;> first | exact .val _ | exact .no
theorem findex_stays (ty : Option Nat × Nat) (x i : Value) : Stays σ (findex ty x i σ) := by
  unfold findex
  split
  · split <;> first | exact .cond (.val _) .no | exact .no
  · exact .no
theorem newCells_stays (c : List Value) (el : TypeId) (fz : Option Nat) : Stays σ (newCells c el fz σ) := .push _ _ _
theorem fbuild_stays (place : Nat → Option (Nat × Nat)) (z : List Value) (ps : List (Nat × Value)) : Stays σ (fbuild place z ps σ) := by
  unfold fbuild
  split <;> first | exact .val _ | exact .no
theorem fbuildSlice_stays (e : TypeId) (n s : Nat) (z : List Value) (ps : List (Nat × Value)) : Stays σ (fbuildSlice e n s z ps σ) := by
  unfold fbuildSlice
  split <;> first | exact .push _ _ _ | exact .no
theorem fslice_stays (t : TypeId) (x : Value) (lo hi mx : Option Value) : Stays σ (fslice P t x lo hi mx σ) := by
  unfold fslice
  split
  · split
    · unfold fsliceS
      split
      · exact .no
      · split <;> first | exact .val _ | exact .no
    · exact .no
  · split
    · split
      · unfold fsliceL
        split
        · split
          · exact .val _
          · exact .cond (.val _) .no
          · exact .no
        · exact .no
      · exact .no
    · exact .no
  · split
    · split
      · unfold fsliceA
        split <;> first | exact .val _ | exact .no
      · exact .no
    · exact .no
  · exact .no
theorem flenS_stays (x : Value) : Stays σ (flenS x σ) := by
  unfold flenS
  split <;> first | exact .val _ | exact .no
theorem flenL_stays (x : Value) : Stays σ (flenL x σ) := by
  unfold flenL
  split <;> first | exact .val _ | exact .no
theorem flenM_stays (x : Value) : Stays σ (flenM x σ) := by
  unfold flenM
  split
  · exact .val _
  · split
    · split <;> first | exact .val _ | exact .no
    · exact .no
  · exact .no
theorem fun1_stays (f : Value → Sem Value) (v : Value) : Stays σ (fun1 P f v σ) := .cond (orPure_stays _) .no
theorem fun2_stays (f : Value → Value → Sem Value) (v u : Value) : Stays σ (fun2 P f v u σ) := .cond (orPure_stays _) .no
theorem fnilE_stays (neg : Bool) (t : TypeId) (lit : Bool) (a b : Value) : Stays σ (fnilE P neg t lit a b σ) := by
  unfold fnilE
  split
  · split <;> first | exact .val _ | exact .no
  · exact .no
theorem fbin0_stays (op : BinOp) (t : TypeId) (x y : Operand) (a b : Value) : Stays σ (fbin0 P op t x y a b σ) := by
  unfold fbin0
  refine .cond (orPure_stays _) ?_
  cases op <;> first | exact fnilE_stays _ _ _ _ _ | exact .no
theorem fbinI_stays (f : Int → Int → Value) (a b : Value) {r : ORes} (hr : Stays σ r) : Stays σ (fbinI f a b r σ) := by
  unfold fbinI
  split
  · exact hr
  · split
    · exact hr
    · exact .val _
theorem fextract_stays (i : Nat) (v : Value) : Stays σ (fextract i v σ) := by
  unfold fextract
  split
  · split <;> first | exact .val _ | exact .no
  · exact .no
theorem ffails_stays (t : TypeId) (ok : Bool) : Stays σ (ffails P t ok σ) := by
  unfold ffails
  refine .cond ?_ .no
  split <;> first | exact .val _ | exact .no
theorem fholds_stays (ok : Bool) (v : Value) : Stays σ (fholds ok v σ) := .cond (.val _) (.val _)
theorem fassert_stays (x : Value) (t : TypeId) (ok : Bool) : Stays σ (fassert P x t ok σ) := by
  unfold fassert
  split
  · split
    · exact .no
    · split
      · unfold fassertI
        split
        · split
          · exact fholds_stays _ _
          · exact ffails_stays _ _
        · exact .no
      · exact .cond (fholds_stays _ _) (ffails_stays _ _)
  · split
    · exact .no
    · exact ffails_stays _ _
  · exact .no
theorem flook_stays (kt : TypeId) (d : TypeDesc) (z k : Value) (ok : Bool) (es : List MapEntry) : Stays σ (flook P kt d z k ok es σ) := by
  unfold flook
  refine .cond ?_ .no
  split
  · exact .cond (.val _) (.val _)
  · exact .cond (.val _) (.val _)
  · exact .no
theorem flookup2_stays (kt : TypeId) (d : TypeDesc) (z x k : Value) (ok : Bool) : Stays σ (flookup2 P kt d z x k ok σ) := by
  unfold flookup2
  split
  · exact flook_stays _ _ _ _ _ _
  · split
    · split
      · exact flook_stays _ _ _ _ _ _
      · exact .no
    · exact .no
  · exact .no
theorem fmakeSlice_stays (e : TypeId) (bytes : Nat) (z : List Value) (l c : Value) : Stays σ (fmakeSlice e bytes z l c σ) := by
  unfold fmakeSlice
  split
  · exact .cond (.push _ _ _) .no
  · exact .no
theorem fpick_stays (c x y : Value) : Stays σ (fpick c x y σ) := by
  unfold fpick
  split <;> first | exact .val _ | exact .no
theorem fnilCheck_stays (x : Value) : Stays σ (fnilCheck x σ) := by
  unfold fnilCheck
  split <;> first | exact .val _ | exact .no
theorem fbox_stays (e : TypeId) (v : Value) : Stays σ (fbox e v σ) := .cond (newCells_stays _ _ _) .no
theorem fpart_stays (off : Nat) (sz : Option Nat) (x : Value) : Stays σ (fpart off sz x σ) := by
  unfold fpart
  split
  · split
    · split <;> first | exact .val _ | exact .no
    · split <;> first | exact .val _ | exact .no
  · exact .no
theorem findexS_stays (x i : Value) : Stays σ (findexS x i σ) := by
  unfold findexS
  split
  · split
    · split <;> first | exact .val _ | exact .no
    · exact .no
  · exact .no

theorem flt_stays (o : Op) (h : isFlt o = true) (a : FAct) : Stays σ ((cop P o).un a σ) := by
  cases o <;> simp only [isFlt, Bool.false_eq_true] at h <;> simp only [cop]
  case move x => exact .val _
  case assign x => exact .val _
  case pick c x y => exact fpick_stays _ _ _
  case alloc e => split <;> first | exact newCells_stays _ _ _ | exact .no
  case box e x => exact fbox_stays _ _
  case build t ps =>
    split
    · split <;> first | exact fbuild_stays _ _ _ | exact .no
    · split <;> first | exact fbuild_stays _ _ _ | exact .no
    · exact .no
  case buildSlice t n ps =>
    split
    · split
      · rename_i z s _ _
        cases (Nat.ble (n * s) 100000 && Nat.beq (len z) s && Nat.blt 0 s) <;> simp only [cond_true, cond_false] <;> first | exact fbuildSlice_stays _ _ _ _ _ | exact .no
      · exact .no
    · exact .no
  case load t x => split <;> first | exact fload_stays _ _ | exact .no
  case nilCheck x => exact fnilCheck_stays _
  case binOp op t x y yt =>
    split
    · exact fbinI_stays _ _ _ (fbin0_stays _ _ _ _ _ _)
    · exact fbin0_stays _ _ _ _ _ _
  case unOp op t x => exact fun1_stays _ _
  case convert s d x => exact fun1_stays _ _
  case makeInterface t x => split <;> first | exact .val _ | exact .no
  case makeFunc fn first cap => split <;> first | exact .val _ | exact .no
  case makeMap t r =>
    cases r
    · exact .push _ _ _
    · exact .no
  case makeSlice t l c =>
    split
    · split
      · rename_i i z _ _
        cases (Nat.beq (len z) i.size && Nat.blt 0 i.size) <;> simp only [cond_true, cond_false] <;> first | exact fmakeSlice_stays _ _ _ _ _ | exact .no
      · exact .no
    · exact .no
  case slice t x lo hi mx => exact fslice_stays _ _ _ _ _
  case fieldAddr s x f => split <;> first | exact ffield_stays _ _ | exact .no
  case field s x f => split <;> first | exact fpart_stays _ _ _ | exact .no
  case indexAddr t x i => split <;> first | exact findex_stays _ _ _ | exact .no
  case index t x i => split <;> first | exact findexS_stays _ _ | exact .no
  case lookup t x k ok =>
    split
    · split <;> first | exact flookup2_stays _ _ _ _ _ _ | exact .no
    · exact .no
  case typeAssert x xt t ok => exact fassert_stays _ _ _
  case extract t i => exact fextract_stays _ _
  case call c =>
    unfold ccall
    cases hc : c.callee with
    | value f => rw [hc] at h; cases h
    | invoke r name => rw [hc] at h; cases h
    | builtin b =>
      rw [hc] at h
      simp only at h
      simp only
      unfold cbuiltin
      cases b <;> simp only [Bool.false_eq_true] at h <;> simp only
      · split
        · unfold clen
          split
          · split <;> first | exact flenS_stays _ | exact flenL_stays _ | exact flenM_stays _ | exact .no
          · exact .no
        · exact .no
      · split <;> first | exact fun2_stays _ _ _ | exact .no
      · split <;> first | exact fun2_stays _ _ _ | exact .no
end
end Go.Eng
