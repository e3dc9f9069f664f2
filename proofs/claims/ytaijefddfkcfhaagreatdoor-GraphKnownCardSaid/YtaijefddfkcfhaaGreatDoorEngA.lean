/- Plain lemmas on the trees and lists of the reading. -/
import Derived.Test.YtaijefddfkcfhaaGreatDoorEngDefs
namespace Go.Eng
open Go

namespace Tr
variable {α : Type}
@[simp] theorem get_lf (n : Nat) : (lf : Tr α).get n = none := rfl
@[simp] theorem get_zero (l r : Tr α) (v : Option α) : (nd l v r).get 0 = v := rfl
theorem get_succ (l r : Tr α) (v : Option α) (k : Nat) : (nd l v r).get (k + 1) = if k % 2 = 0 then l.get (k / 2) else r.get (k / 2) := by
  show Bool.rec (motive := fun _ => Option α) (r.get (k >>> 1)) (l.get (k >>> 1)) (Nat.beq (k &&& 1) 0) = _
  rw [Nat.shiftRight_eq_div_pow, Nat.and_one_is_mod]
  by_cases h : k % 2 = 0
  · simp [h]
  · have : k % 2 = 1 := by omega
    rw [this, if_neg (by omega)]
    rfl
theorem left_get (w : Option α) (r t : Tr α) : left w r t = nd t w r := by cases t <;> rfl
theorem right_get (l : Tr α) (w : Option α) (t : Tr α) : right l w t = nd l w t := by cases t <;> rfl
theorem setF_zero (v : Option α) (f : Nat) (t : Tr α) : setF v (f + 1) t 0 = (match t with | lf => nd lf v lf | nd l _ r => nd l v r) := by cases t <;> rfl
theorem setF_succ (v : Option α) (f : Nat) (t : Tr α) (k : Nat) : setF v (f + 1) t (k + 1) =
    (match t with
     | lf => if k % 2 = 0 then nd (setF v f lf (k / 2)) none lf else nd lf none (setF v f lf (k / 2))
     | nd l w r => if k % 2 = 0 then nd (setF v f l (k / 2)) w r else nd l w (setF v f r (k / 2))) := by
  have key : ∀ (l r : Tr α) (w : Option α), Bool.rec (motive := fun _ => Tr α) (right l w (setF v f r (k >>> 1))) (left w r (setF v f l (k >>> 1))) (Nat.beq (k &&& 1) 0) =
      if k % 2 = 0 then nd (setF v f l (k / 2)) w r else nd l w (setF v f r (k / 2)) := by
    intro l r w
    rw [left_get, right_get, Nat.shiftRight_eq_div_pow, Nat.and_one_is_mod]
    by_cases h : k % 2 = 0
    · simp [h]
    · have : k % 2 = 1 := by omega
      rw [this, if_neg (by omega)]
      rfl
  cases t with
  | lf => exact key lf lf none
  | nd l w r => exact key l r w
theorem get_setF (v : Option α) (f : Nat) : ∀ (t : Tr α) (n m : Nat), n < f → (setF v f t n).get m = if m = n then v else t.get m := by
  induction f with
  | zero => intro t n m h; omega
  | succ f ih =>
    intro t n m h
    cases n with
    | zero =>
      rw [setF_zero]
      cases t with
      | lf => cases m with
        | zero => simp
        | succ j => simp [get_succ]
      | nd l w r => cases m with
        | zero => simp
        | succ j => simp [get_succ]
    | succ k =>
      have hk : k / 2 < f := by omega
      rw [setF_succ]
      cases m with
      | zero =>
        cases t with
        | lf => by_cases hp : k % 2 = 0 <;> simp [hp]
        | nd l w r => by_cases hp : k % 2 = 0 <;> simp [hp]
      | succ j =>
        have step : ∀ (l r : Tr α) (w : Option α), (if k % 2 = 0 then nd (setF v f l (k / 2)) w r else nd l w (setF v f r (k / 2))).get (j + 1) = if j + 1 = k + 1 then v else (nd l w r).get (j + 1) := by
          intro l r w
          by_cases hp : k % 2 = 0
          · rw [if_pos hp, get_succ, get_succ, ih _ _ _ hk]
            by_cases hj : j % 2 = 0
            · rw [if_pos hj, if_pos hj]
              by_cases hq : j / 2 = k / 2
              · rw [if_pos hq, if_pos (by omega)]
              · rw [if_neg hq, if_neg (by omega)]
            · rw [if_neg hj, if_neg hj, if_neg (by omega)]
          · rw [if_neg hp, get_succ, get_succ, ih _ _ _ hk]
            by_cases hj : j % 2 = 0
            · rw [if_pos hj, if_pos hj, if_neg (by omega)]
            · rw [if_neg hj, if_neg hj]
              by_cases hq : j / 2 = k / 2
              · rw [if_pos hq, if_pos (by omega)]
              · rw [if_neg hq, if_neg (by omega)]
        cases t with
        | lf =>
          rw [step lf lf none]
          simp [get_succ]
        | nd l w r => exact step l r w
theorem get_set (t : Tr α) (n m : Nat) (v : α) : (t.set n v).get m = if m = n then some v else t.get m := get_setF _ _ _ _ _ (Nat.lt_succ_self n)
end Tr

section
variable {α : Type}
theorem nth_eq (l : List α) (n : Nat) : nth l n = l[n]? := by
  induction l generalizing n with
  | nil => rfl
  | cons x t ih => cases n with
    | zero => rfl
    | succ k => exact ih k
theorem setNth_eq (v : α) (l : List α) (n : Nat) : setNth v l n = l.set n v := by
  induction l generalizing n with
  | nil => rfl
  | cons x t ih => cases n with
    | zero => rfl
    | succ k => exact congrArg (x :: ·) (ih k)
theorem takeN_eq (n : Nat) (l : List α) : takeN n l = if n ≤ l.length then some (l.take n) else none := by
  induction n generalizing l with
  | zero => simp; rfl
  | succ n ih => cases l with
    | nil => rfl
    | cons x t =>
      show Option.rec (motive := fun _ => Option (List α)) none (fun r => some (x :: r)) (takeN n t) = _
      rw [ih]
      by_cases h : n ≤ t.length <;> simp [h]
theorem dropN_eq (n : Nat) (l : List α) : dropN n l = l.drop n := by
  induction n generalizing l with
  | zero => rfl
  | succ n ih => cases l with
    | nil => rfl
    | cons x t => exact ih t
theorem splice0_eq (new l : List α) : spliceN 0 new l = if new.length ≤ l.length then some (new ++ l.drop new.length) else none := by
  induction new generalizing l with
  | nil => simp; rfl
  | cons v t ih => cases l with
    | nil => rfl
    | cons y r =>
      show Option.rec (motive := fun _ => Option (List α)) none (fun r => some (v :: r)) (spliceN 0 t r) = _
      rw [ih]
      by_cases h : t.length ≤ r.length <;> simp [h]
theorem spliceN_eq (off : Nat) (new l : List α) : spliceN off new l = if off + new.length ≤ l.length then some (l.take off ++ new ++ l.drop (off + new.length)) else none := by
  induction off generalizing l with
  | zero => rw [splice0_eq]; simp
  | succ n ih => cases l with
    | nil =>
      show none = _
      rw [if_neg (by simp)]
    | cons x t =>
      show Option.rec (motive := fun _ => Option (List α)) none (fun r => some (x :: r)) (spliceN n new t) = _
      rw [ih]
      by_cases h : n + new.length ≤ t.length
      · have h' : n + 1 + new.length ≤ (x :: t).length := by simp; omega
        rw [if_pos h, if_pos h']
        have : n + 1 + new.length = (n + new.length) + 1 := by omega
        simp [this]
      · have h' : ¬ n + 1 + new.length ≤ (x :: t).length := by simp; omega
        rw [if_neg h, if_neg h']
theorem len_eq (l : List α) : len l = l.length := by
  induction l with
  | nil => rfl
  | cons x t ih => show len t + 1 = _; rw [ih]; rfl
theorem getElem?_splice {off : Nat} {new l : List α} (h : off + new.length ≤ l.length) (i : Nat) :
    (l.take off ++ new ++ l.drop (off + new.length))[i]? = if i < off then l[i]? else if i < off + new.length then new[i - off]? else l[i]? := by
  have hl : (l.take off).length = off := by simp; omega
  by_cases h1 : i < off
  · rw [if_pos h1, List.append_assoc, List.getElem?_append_left (by omega), List.getElem?_take_of_lt h1]
  · rw [if_neg h1, List.append_assoc, List.getElem?_append_right (by omega), hl]
    by_cases h2 : i < off + new.length
    · rw [if_pos h2, List.getElem?_append_left (by omega)]
    · rw [if_neg h2, List.getElem?_append_right (by omega), List.getElem?_drop]
      congr 1
      omega
theorem padTo_get (d : α) (n : Nat) (l : List α) (i : Nat) : (padTo d n l)[i]? = if i < n then some (l[i]?.getD d) else none := by
  induction n generalizing l i with
  | zero => rfl
  | succ n ih => cases l with
    | nil =>
      show (d :: padTo d n [])[i]? = _
      cases i with
      | zero => simp
      | succ k => rw [List.getElem?_cons_succ, ih]; simp
    | cons x t =>
      show (x :: padTo d n t)[i]? = _
      cases i with
      | zero => simp
      | succ k => rw [List.getElem?_cons_succ, ih]; simp
end
end Go.Eng
