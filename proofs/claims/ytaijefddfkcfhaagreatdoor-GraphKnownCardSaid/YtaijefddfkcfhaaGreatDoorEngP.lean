/- What may be moved: it changes no memory, and looks at its operands alone. -/
import Derived.Test.YtaijefddfkcfhaaGreatDoorEngO
namespace Go.Eng
open Go

theorem old_get (lam : Nat) (t : Tr Ent) (b : Nat) : (oldTr lam t).get b = (match t.get b with | some e => if e.ver < lam then some e else none | none => none) := by
  induction t generalizing b with
  | lf => rfl
  | nd l v r ihl ihr =>
    show (Tr.nd (oldTr lam l) (Option.rec (motive := fun _ => Option Ent) none (fun e => Bool.rec (motive := fun _ => Option Ent) none (some e) (Nat.blt e.ver lam)) v) (oldTr lam r)).get b = _
    cases b with
    | zero =>
      simp only [Tr.get_zero]
      cases v with
      | none => rfl
      | some e =>
        by_cases h : e.ver < lam
        · simp [blt_t h, h]
        · simp [blt_f h, h]
    | succ k =>
      rw [Tr.get_succ, Tr.get_succ]
      by_cases h : k % 2 = 0
      · rw [if_pos h, if_pos h, ihl]
      · rw [if_neg h, if_neg h, ihr]
theorem view_get (σ : FState) (lam b : Nat) : (view σ lam).heap.get b = (match σ.heap.get b with | some e => if e.ver < lam then some e else none | none => none) := old_get lam σ.heap b
theorem view_some {σ : FState} {lam b : Nat} {e : Ent} (h : (view σ lam).heap.get b = some e) : σ.heap.get b = some e ∧ e.ver < lam := by
  rw [view_get] at h
  cases hg : σ.heap.get b with
  | none => rw [hg] at h; cases h
  | some e' =>
    rw [hg] at h
    simp only at h
    by_cases hl : e'.ver < lam
    · rw [if_pos hl] at h
      cases h
      exact ⟨rfl, hl⟩
    · rw [if_neg hl] at h
      cases h

section
variable {P : Program} {a a' : FAct}

theorem cgets_congr {l : List Operand} (h : ∀ x ∈ l, (cget x).un a = (cget x).un a') : (cgets l).un a = (cgets l).un a' := by
  induction l with
  | nil => rfl
  | cons x t ih =>
    show (cget x).un a :: (cgets t).un a = (cget x).un a' :: (cgets t).un a'
    rw [h x (by simp), ih fun y hy => h y (by simp [hy])]
theorem cparts_congr {l : List (Nat × Operand)} (h : ∀ p ∈ l, (cget p.2).un a = (cget p.2).un a') : (cparts l).un a = (cparts l).un a' := by
  induction l with
  | nil => rfl
  | cons x t ih =>
    show (x.1, (cget x.2).un a) :: (cparts t).un a = (x.1, (cget x.2).un a') :: (cparts t).un a'
    rw [h x (by simp), ih fun y hy => h y (by simp [hy])]
theorem copt_congr {x : Option Operand} (h : ∀ y, x = some y → (cget y).un a = (cget y).un a') : (copt x).un a = (copt x).un a' := by
  cases x with
  | none => rfl
  | some y =>
    show some ((cget y).un a) = some ((cget y).un a')
    rw [h y rfl]

theorem cbuiltin_congr (b : Builtin) (ts : List TypeId) (args : List Operand) (h : ∀ x ∈ args, (cget x).un a = (cget x).un a') (σ : FState) : (cbuiltin P b ts args).un a σ = (cbuiltin P b ts args).un a' σ := by
  unfold cbuiltin
  cases b <;> simp only <;> first | rfl | skip
  · split
    · rename_i t t' x y
      cases appendInfo P t t' with
      | none => rfl
      | some q => simp only; rw [h x (by simp), h y (by simp)]
    · rfl
  · split
    · rename_i t ts' x y
      cases elemSlice P t with
      | none => rfl
      | some e =>
        simp only
        cases sizeOfT P e with
        | none => rfl
        | some s => simp only; rw [h x (by simp), h y (by simp)]
    · rfl
  · split
    · rename_i t ts' x
      unfold clen
      cases under P t with
      | none => rfl
      | some d => cases d <;> first | rfl | (simp only; rw [h x (by simp)])
    · rfl
  · split
    · rename_i x y
      simp only; rw [h x (by simp), h y (by simp)]
    · rfl
  · split
    · rename_i x y
      simp only; rw [h x (by simp), h y (by simp)]
    · rfl
  · split <;> rfl

theorem cop_congr (o : Op) (h : ∀ x ∈ o.operands, (cget x).un a = (cget x).un a') (σ : FState) : (cop P o).un a σ = (cop P o).un a' σ := by
  cases o <;> simp only [Op.operands] at h <;> simp only [cop] <;> first | rfl | skip
  case move x => rw [h x (by simp)]
  case assign x => rw [h x (by simp)]
  case pick c x y => rw [h c (by simp), h x (by simp), h y (by simp)]
  case alloc e => split <;> rfl
  case box e x => rw [h x (by simp)]
  case build t ps =>
    have hp : (cparts ps.toList).un a = (cparts ps.toList).un a' := cparts_congr fun p hp => h p.2 (by simp; exact ⟨p.1, by simpa using hp⟩)
    split
    · split
      · simp only; rw [hp]
      · rfl
    · split
      · simp only; rw [hp]
      · rfl
    · rfl
  case buildSlice t n ps =>
    have hp : (cparts ps.toList).un a = (cparts ps.toList).un a' := cparts_congr fun p hp => h p.2 (by simp; exact ⟨p.1, by simpa using hp⟩)
    split
    · split
      · rename_i z s _ _
        cases (Nat.ble (n * s) 100000 && Nat.beq (len z) s && Nat.blt 0 s) <;> simp only [cond_true, cond_false] <;> first | rfl | rw [hp]
      · rfl
    · rfl
  case load t x => split <;> first | rfl | (simp only; rw [h x (by simp)])
  case store t x v => split <;> first | rfl | (simp only; rw [h x (by simp), h v (by simp)])
  case nilCheck x => rw [h x (by simp)]
  case binOp op t x y yt => split <;> simp only <;> rw [h x (by simp), h y (by simp)]
  case unOp op t x => rw [h x (by simp)]
  case convert s d x => rw [h x (by simp)]
  case makeInterface t x => split <;> first | rfl | (simp only; rw [h x (by simp)])
  case makeFunc fn first cap =>
    have h1 : (cgets first.toList).un a = (cgets first.toList).un a' := cgets_congr fun x hx => h x (by simp; exact .inl (by simpa using hx))
    have h2 : (cgets cap.toList).un a = (cgets cap.toList).un a' := cgets_congr fun x hx => h x (by simp; exact .inr (by simpa using hx))
    split <;> first | rfl | (simp only; rw [h1, h2])
  case makeMap t r => cases r <;> rfl
  case makeSlice t l c =>
    split
    · split
      · rename_i i z _ _
        cases (Nat.beq (len z) i.size && Nat.blt 0 i.size) <;> simp only [cond_true, cond_false] <;> first | rfl | rw [h l (by simp), h c (by simp)]
      · rfl
    · rfl
  case slice t x lo hi mx =>
    have h1 : (copt lo).un a = (copt lo).un a' := copt_congr fun y hy => h y (by simp [hy])
    have h2 : (copt hi).un a = (copt hi).un a' := copt_congr fun y hy => h y (by simp [hy])
    have h3 : (copt mx).un a = (copt mx).un a' := copt_congr fun y hy => h y (by simp [hy])
    rw [h x (by simp), h1, h2, h3]
  case fieldAddr s x f => split <;> first | rfl | (simp only; rw [h x (by simp)])
  case field s x f => split <;> first | rfl | (simp only; rw [h x (by simp)])
  case indexAddr t x i => split <;> first | rfl | (simp only; rw [h x (by simp), h i (by simp)])
  case index t x i => split <;> first | rfl | (simp only; rw [h x (by simp), h i (by simp)])
  case lookup t x k ok =>
    split
    · split <;> first | rfl | (simp only; rw [h x (by simp), h k (by simp)])
    · rfl
  case mapUpdate t x k v => split <;> first | rfl | (simp only; rw [h x (by simp), h k (by simp), h v (by simp)])
  case insert t x k v => split <;> first | rfl | (simp only; rw [h x (by simp), h k (by simp), h v (by simp)])
  case range t x => split <;> first | rfl | (simp only; rw [h x (by simp)])
  case next it b => cases b <;> first | rfl | (simp only; rw [h it (by simp)])
  case typeAssert x xt t ok => rw [h x (by simp)]
  case extract t i => rw [h t (by simp)]
  case call c =>
    unfold ccall
    cases hc : c.callee with
    | value f =>
      have h1 : (cgets c.args.toList).un a = (cgets c.args.toList).un a' := cgets_congr fun x hx => h x (by simp [Call.operands, hc]; exact .inr (by simpa using hx))
      simp only
      rw [h f (by simp [Call.operands, hc]), h1]
    | invoke r name =>
      have h1 : (cgets c.args.toList).un a = (cgets c.args.toList).un a' := cgets_congr fun x hx => h x (by simp [Call.operands, hc]; exact .inr (by simpa using hx))
      simp only
      rw [h r (by simp [Call.operands, hc]), h1]
    | builtin b => exact cbuiltin_congr b _ _ (fun x hx => h x (by simp [Call.operands, hc]; simpa using hx)) σ
  case defer c =>
    unfold cdefer
    cases hc : c.callee with
    | value f =>
      have h1 : (cgets c.args.toList).un a = (cgets c.args.toList).un a' := cgets_congr fun x hx => h x (by simp [Call.operands, hc]; exact .inr (by simpa using hx))
      simp only
      rw [h f (by simp [Call.operands, hc]), h1]
    | invoke r name => rfl
    | builtin b => rfl
  case panic x => rw [h x (by simp)]
end
end Go.Eng
