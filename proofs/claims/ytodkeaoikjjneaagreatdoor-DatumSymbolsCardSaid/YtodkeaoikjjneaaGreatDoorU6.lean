/- The reading of the program, and what is so of it: SymCY, SymLY1, SymLY2, SymLY3. -/
import Derived.Test.YtodkeaoikjjneaaGreatDoorU3
import Derived.Test.YtodkeaoikjjneaaGreatDoorU5
set_option linter.unusedSimpArgs false
set_option linter.unusedVariables false
/- Functions of the program, written out in the reading's words (made by program; the kernel holds each against the code). -/
namespace Go.Proofs.YtodkeaoikjjneaaGreatDoor
open Go Go.Eng
variable (E : Env) (ro : Option Nat) (last : List Nat → RunF) (cl : List Nat) (a : FAct) (u : Option FrameMode) (σ : FState)
/-! caracole/caracolelaw01.DatumSymbols -/
noncomputable def r9_0U (_ : Unit) : List COp := [⟨fun a σ => .val (.bool false) σ, (some 2), fun _ => some true⟩]
noncomputable def r9_0 : List COp := r9_0U ()
noncomputable def r9_1U (_ : Unit) : List COp := [⟨fun a σ => .val (a.get 0) σ, (some 13), fun _ => some true⟩,
  ⟨fun a σ => .enter 11 [(a.get 13)] σ, (some 14), fun _ => some true⟩,
  ⟨fun a σ => .enter 13 [(a.get 14), (.int .i64 4)] σ, (some 15), fun _ => some true⟩,
  ⟨fun a σ => newCells [(.int .i64 0), (.int .i64 0), (.string ⟨#[]⟩), (.slice none 0 0)] 28 none σ, (some 3), fun _ => some true⟩,
  ⟨fun a σ => fstore 4 (a.get 3) (a.get 15) σ, none, fun _ => some true⟩]
noncomputable def r9_1 : List COp := r9_1U ()
noncomputable def r9_2U (_ : Unit) : List COp := [⟨fun a σ => fload (some 4) (a.get 3) σ, (some 17), fun _ => some true⟩,
  ⟨fun a σ => .enter 38 [(a.get 17)] σ, (some 18), fun _ => some true⟩,
  ⟨fun a σ => .val (a.get 18) σ, (some 16), fun _ => some true⟩,
  ⟨fun a σ => fextract 0 (a.get 16) σ, (some 19), fun _ => some true⟩,
  ⟨fun a σ => fextract 1 (a.get 16) σ, (some 20), fun _ => some true⟩,
  ⟨fun a σ => .val (a.get 19) σ, (some 4), fun _ => some true⟩,
  ⟨fun a σ => .val (a.get 20) σ, (some 5), fun _ => some true⟩]
noncomputable def r9_2 : List COp := r9_2U ()
noncomputable def r9_3U (_ : Unit) : List COp := [⟨fun a σ => .val (a.get 5) σ, (some 21), fun _ => some true⟩,
  ⟨fun a σ => i_neq Tryz.prog 32 (.tmp 21) (.const (.int .i64 0)) (a.get 21) (.int .i64 0) σ, (some 22), fun _ => some true⟩,
  ⟨fun a σ => .val (a.get 22) σ, (some 23), fun _ => some true⟩,
  ⟨fun a σ => .val (a.get 4) σ, (some 24), fun a => gd (a.get 23) false⟩,
  ⟨fun a σ => flenL (a.get 24) σ, (some 25), fun a => gd (a.get 23) false⟩,
  ⟨fun a σ => i_gtr Tryz.prog 3 (.tmp 25) (.const (.int .i64 20)) (a.get 25) (.int .i64 20) σ, (some 26), fun a => gd (a.get 23) false⟩,
  ⟨fun a σ => fpick (a.get 23) (.bool true) (a.get 26) σ, (some 27), fun _ => some true⟩]
noncomputable def r9_3 : List COp := r9_3U ()
noncomputable def r9_4U (_ : Unit) : List COp := [⟨fun a σ => .val (.bool false) σ, (some 2), fun _ => some true⟩]
noncomputable def r9_4 : List COp := r9_4U ()
noncomputable def r9_5U (_ : Unit) : List COp := [⟨fun a σ => .val (.slice none 0 0) σ, (some 6), fun _ => some true⟩]
noncomputable def r9_5 : List COp := r9_5U ()
noncomputable def r9_6U (_ : Unit) : List COp := [⟨fun a σ => .val (.int .i64 0) σ, (some 7), fun _ => some true⟩]
noncomputable def r9_6 : List COp := r9_6U ()
noncomputable def r9_7U (_ : Unit) : List COp := [⟨fun a σ => .val (a.get 7) σ, (some 28), fun _ => some true⟩,
  ⟨fun a σ => ffield 3 (a.get 3) σ, (some 29), fun _ => some true⟩,
  ⟨fun a σ => fload none (a.get 29) σ, (some 30), fun _ => some true⟩,
  ⟨fun a σ => flenL (a.get 30) σ, (some 31), fun _ => some true⟩,
  ⟨fun a σ => i_lss Tryz.prog 3 (.tmp 28) (.tmp 31) (a.get 28) (a.get 31) σ, (some 32), fun _ => some true⟩]
noncomputable def r9_7 : List COp := r9_7U ()
noncomputable def r9_9U (_ : Unit) : List COp := [⟨fun a σ => ffield 3 (a.get 3) σ, (some 36), fun _ => some true⟩,
  ⟨fun a σ => fload none (a.get 36) σ, (some 37), fun _ => some true⟩,
  ⟨fun a σ => .val (a.get 7) σ, (some 38), fun _ => some true⟩,
  ⟨fun a σ => findex (none, 4) (a.get 37) (a.get 38) σ, (some 39), fun _ => some true⟩,
  ⟨fun a σ => fload (some 4) (a.get 39) σ, (some 40), fun _ => some true⟩,
  ⟨fun a σ => .enter 38 [(a.get 40)] σ, (some 41), fun _ => some true⟩,
  ⟨fun a σ => .val (a.get 41) σ, (some 35), fun _ => some true⟩,
  ⟨fun a σ => fextract 0 (a.get 35) σ, (some 42), fun _ => some true⟩,
  ⟨fun a σ => fextract 1 (a.get 35) σ, (some 43), fun _ => some true⟩,
  ⟨fun a σ => .val (a.get 42) σ, (some 8), fun _ => some true⟩,
  ⟨fun a σ => .val (a.get 43) σ, (some 9), fun _ => some true⟩]
noncomputable def r9_9 : List COp := r9_9U ()
noncomputable def r9_10U (_ : Unit) : List COp := [⟨fun a σ => .val (a.get 9) σ, (some 44), fun _ => some true⟩,
  ⟨fun a σ => i_neq Tryz.prog 32 (.tmp 44) (.const (.int .i64 0)) (a.get 44) (.int .i64 0) σ, (some 45), fun _ => some true⟩,
  ⟨fun a σ => .val (a.get 45) σ, (some 46), fun _ => some true⟩,
  ⟨fun a σ => .val (a.get 8) σ, (some 47), fun a => gd (a.get 46) false⟩,
  ⟨fun a σ => flenL (a.get 47) σ, (some 48), fun a => gd (a.get 46) false⟩,
  ⟨fun a σ => i_gtr Tryz.prog 3 (.tmp 48) (.const (.int .i64 20)) (a.get 48) (.int .i64 20) σ, (some 49), fun a => gd (a.get 46) false⟩,
  ⟨fun a σ => fpick (a.get 46) (.bool true) (a.get 49) σ, (some 50), fun _ => some true⟩]
noncomputable def r9_10 : List COp := r9_10U ()
noncomputable def r9_11U (_ : Unit) : List COp := [⟨fun a σ => .val (.bool false) σ, (some 2), fun _ => some true⟩]
noncomputable def r9_11 : List COp := r9_11U ()
noncomputable def r9_12U (_ : Unit) : List COp := [⟨fun a σ => .val (a.get 6) σ, (some 51), fun _ => some true⟩,
  ⟨fun a σ => .val (a.get 8) σ, (some 52), fun _ => some true⟩,
  ⟨fun a σ => .enter 39 [(a.get 51), (a.get 52)] σ, (some 53), fun _ => some true⟩,
  ⟨fun a σ => .val (a.get 53) σ, (some 6), fun _ => some true⟩]
noncomputable def r9_12 : List COp := r9_12U ()
noncomputable def r9_8U (_ : Unit) : List COp := [⟨fun a σ => .val (a.get 7) σ, (some 33), fun _ => some true⟩,
  ⟨fun a σ => i_add Tryz.prog 3 (.tmp 33) (.const (.int .i64 1)) (a.get 33) (.int .i64 1) σ, (some 34), fun _ => some true⟩,
  ⟨fun a σ => .val (a.get 34) σ, (some 7), fun _ => some true⟩]
noncomputable def r9_8 : List COp := r9_8U ()
noncomputable def l9_0 (E : Env) (ro : Option Nat) (fn : FuncId) : RunF := (seqR (seqR (fops E ro r9_7) (condR (fun a => (a.get 32)) skipR (exitR 0))) (seqR (blockR 1 (seqR (fops E ro r9_9) (seqR (seqR (fops E ro r9_10) (condR (fun a => (a.get 50)) (seqR (fops E ro r9_11) retR) skipR)) (fops E ro r9_12)))) (fops E ro r9_8)))
noncomputable def r9_13U (_ : Unit) : List COp := [⟨fun a σ => ffield 0 (a.get 3) σ, (some 54), fun _ => some true⟩,
  ⟨fun a σ => fload none (a.get 54) σ, (some 55), fun _ => some true⟩,
  ⟨fun a σ => i_eql Tryz.prog 3 (.tmp 55) (.const (.int .i64 3)) (a.get 55) (.int .i64 3) σ, (some 56), fun _ => some true⟩]
noncomputable def r9_13 : List COp := r9_13U ()
noncomputable def r9_14U (_ : Unit) : List COp := [⟨fun a σ => ffield 2 (a.get 3) σ, (some 57), fun _ => some true⟩,
  ⟨fun a σ => fload none (a.get 57) σ, (some 58), fun _ => some true⟩,
  ⟨fun a σ => fbuildSlice 9 1 1 [(.string ⟨#[]⟩)] [(0, (a.get 58))] σ, (some 59), fun _ => some true⟩,
  ⟨fun a σ => .val (a.get 59) σ, (some 6), fun _ => some true⟩]
noncomputable def r9_14 : List COp := r9_14U ()
noncomputable def r9_15U (_ : Unit) : List COp := [⟨fun a σ => .val (.int .i64 0) σ, (some 10), fun _ => some true⟩]
noncomputable def r9_15 : List COp := r9_15U ()
noncomputable def r9_16U (_ : Unit) : List COp := [⟨fun a σ => .val (a.get 10) σ, (some 60), fun _ => some true⟩,
  ⟨fun a σ => .val (a.get 4) σ, (some 61), fun _ => some true⟩,
  ⟨fun a σ => flenL (a.get 61) σ, (some 62), fun _ => some true⟩,
  ⟨fun a σ => i_lss Tryz.prog 3 (.tmp 60) (.tmp 62) (a.get 60) (a.get 62) σ, (some 63), fun _ => some true⟩]
noncomputable def r9_16 : List COp := r9_16U ()
noncomputable def r9_18U (_ : Unit) : List DOp := [⟨fun a σ => .val (a.get 4) σ, (some 68), fun _ => some true, (some 0), false⟩,
  ⟨fun a σ => .val (a.get 10) σ, (some 69), fun _ => some true, (some 0), false⟩,
  ⟨fun a σ => findex (none, 1) (a.get 68) (a.get 69) σ, (some 70), fun _ => some true, (some 0), false⟩,
  ⟨fun a σ => fload none (a.get 70) σ, (some 71), fun _ => some true, (some 0), false⟩,
  ⟨fun a σ => .enter 40 [(a.get 71)] σ, (some 72), fun _ => some true, none, false⟩,
  ⟨fun a σ => fload (some 4) (a.get 3) σ, (some 67), fun _ => some true, (some 0), false⟩,
  ⟨fun a σ => .enter 28 [(a.get 67), (a.get 72)] σ, (some 73), fun _ => some true, none, true⟩,
  ⟨fun a σ => .val (a.get 73) σ, (some 66), fun _ => some true, (some 2), false⟩,
  ⟨fun a σ => fextract 0 (a.get 66) σ, (some 74), fun _ => some true, (some 2), false⟩,
  ⟨fun a σ => fextract 1 (a.get 66) σ, (some 75), fun _ => some true, (some 2), false⟩,
  ⟨fun a σ => .val (a.get 74) σ, (some 11), fun _ => some true, (some 2), false⟩,
  ⟨fun a σ => .val (a.get 75) σ, (some 12), fun _ => some true, (some 2), false⟩]
noncomputable def r9_18 : List DOp := r9_18U ()
noncomputable def r9_19U (_ : Unit) : List DOp := [⟨fun a σ => .val (a.get 12) σ, (some 76), fun _ => some true, (some 0), false⟩,
  ⟨fun a σ => i_neq Tryz.prog 32 (.tmp 76) (.const (.int .i64 0)) (a.get 76) (.int .i64 0) σ, (some 77), fun _ => some true, (some 0), false⟩,
  ⟨fun a σ => .val (a.get 77) σ, (some 78), fun _ => some true, (some 0), false⟩,
  ⟨fun a σ => .val (a.get 11) σ, (some 79), fun a => gd (a.get 78) false, (some 0), false⟩,
  ⟨fun a σ => flenL (a.get 79) σ, (some 80), fun a => gd (a.get 78) false, (some 0), false⟩,
  ⟨fun a σ => i_eql Tryz.prog 3 (.tmp 80) (.const (.int .i64 0)) (a.get 80) (.int .i64 0) σ, (some 81), fun a => gd (a.get 78) false, (some 0), false⟩,
  ⟨fun a σ => fpick (a.get 78) (.bool true) (a.get 81) σ, (some 82), fun _ => some true, (some 0), false⟩,
  ⟨fun a σ => .val (a.get 82) σ, (some 83), fun _ => some true, (some 0), false⟩,
  ⟨fun a σ => .val (a.get 10) σ, (some 84), fun a => gd (a.get 83) false, (some 0), false⟩,
  ⟨fun a σ => i_gtr Tryz.prog 3 (.tmp 84) (.const (.int .i64 0)) (a.get 84) (.int .i64 0) σ, (some 85), fun a => gd (a.get 83) false, (some 0), false⟩,
  ⟨fun a σ => .val (a.get 85) σ, (some 86), fun a => gd (a.get 83) false, (some 0), false⟩,
  ⟨fun a σ => .val (a.get 4) σ, (some 87), fun a => gd (a.get 86) true, (some 0), false⟩,
  ⟨fun a σ => .val (a.get 10) σ, (some 88), fun a => gd (a.get 86) true, (some 0), false⟩,
  ⟨fun a σ => i_sub Tryz.prog 3 (.tmp 88) (.const (.int .i64 1)) (a.get 88) (.int .i64 1) σ, (some 89), fun a => gd (a.get 86) true, (some 0), false⟩,
  ⟨fun a σ => findex (none, 1) (a.get 87) (a.get 89) σ, (some 90), fun a => gd (a.get 86) true, (some 0), false⟩,
  ⟨fun a σ => fload none (a.get 90) σ, (some 91), fun a => gd (a.get 86) true, (some 0), false⟩,
  ⟨fun a σ => .val (a.get 4) σ, (some 92), fun a => gd (a.get 86) true, (some 0), false⟩,
  ⟨fun a σ => .val (a.get 10) σ, (some 93), fun a => gd (a.get 86) true, (some 0), false⟩,
  ⟨fun a σ => findex (none, 1) (a.get 92) (a.get 93) σ, (some 94), fun a => gd (a.get 86) true, (some 0), false⟩,
  ⟨fun a σ => fload none (a.get 94) σ, (some 95), fun a => gd (a.get 86) true, (some 0), false⟩,
  ⟨fun a σ => i_geq Tryz.prog 9 (.tmp 91) (.tmp 95) (a.get 91) (a.get 95) σ, (some 96), fun a => gd (a.get 86) true, (some 0), false⟩,
  ⟨fun a σ => fpick (a.get 86) (a.get 96) (.bool false) σ, (some 97), fun a => gd (a.get 83) false, (some 0), false⟩,
  ⟨fun a σ => fpick (a.get 83) (.bool true) (a.get 97) σ, (some 98), fun _ => some true, (some 0), false⟩]
noncomputable def r9_19 : List DOp := r9_19U ()
noncomputable def r9_20U (_ : Unit) : List COp := [⟨fun a σ => .val (.bool false) σ, (some 2), fun _ => some true⟩]
noncomputable def r9_20 : List COp := r9_20U ()
noncomputable def r9_17U (_ : Unit) : List COp := [⟨fun a σ => .val (a.get 10) σ, (some 64), fun _ => some true⟩,
  ⟨fun a σ => i_add Tryz.prog 3 (.tmp 64) (.const (.int .i64 1)) (a.get 64) (.int .i64 1) σ, (some 65), fun _ => some true⟩,
  ⟨fun a σ => .val (a.get 65) σ, (some 10), fun _ => some true⟩]
noncomputable def r9_17 : List COp := r9_17U ()
noncomputable def l9_1 (E : Env) (ro : Option Nat) (fn : FuncId) : RunF := (seqR (seqR (fops E ro r9_16) (condR (fun a => (a.get 63)) skipR (exitR 2))) (seqR (blockR 3 (seqR (drawR E ro r9_18) (seqR (drawR E ro r9_19) (condR (fun a => (a.get 98)) (seqR (fops E ro r9_20) retR) skipR)))) (fops E ro r9_17)))
noncomputable def r9_21U (_ : Unit) : List COp := [⟨fun a σ => .val (a.get 4) σ, (some 99), fun _ => some true⟩,
  ⟨fun a σ => .val (a.get 6) σ, (some 100), fun _ => some true⟩,
  ⟨fun a σ => .enter 41 [(a.get 99), (a.get 100)] σ, (some 101), fun _ => some true⟩,
  ⟨fun a σ => .val (a.get 101) σ, (some 102), fun _ => some true⟩,
  ⟨fun a σ => .enter 21 [] σ, (some 103), fun a => gd (a.get 102) true⟩,
  ⟨fun a σ => fpick (a.get 102) (a.get 103) (.bool false) σ, (some 104), fun _ => some true⟩,
  ⟨fun a σ => .val (a.get 104) σ, (some 2), fun _ => some true⟩]
noncomputable def r9_21 : List COp := r9_21U ()
noncomputable def run9 (E : Env) (ro : Option Nat) (fn : FuncId) : RunF := (seqR (fops E ro r9_0) (seqR (fops E ro r9_1) (seqR (fops E ro r9_2) (seqR (seqR (fops E ro r9_3) (condR (fun a => (a.get 27)) (seqR (fops E ro r9_4) retR) skipR)) (seqR (fops E ro r9_5) (seqR (seqR (fops E ro r9_6) (blockR 0 (loopR (keepOf nls fn) (l9_0 E ro fn)))) (seqR (seqR (fops E ro r9_13) (condR (fun a => (a.get 56)) (fops E ro r9_14) skipR)) (seqR (seqR (fops E ro r9_15) (blockR 2 (loopR (keepOf nls fn) (l9_1 E ro fn)))) (seqR (fops E ro r9_21) retR)))))))))
theorem r9_0_go : fops E ro r9_0 a u σ = fops E ro (r9_0U ()) a u σ := rfl
theorem r9_1_go : fops E ro r9_1 a u σ = fops E ro (r9_1U ()) a u σ := rfl
theorem r9_2_go : fops E ro r9_2 a u σ = fops E ro (r9_2U ()) a u σ := rfl
theorem r9_3_go : fops E ro r9_3 a u σ = fops E ro (r9_3U ()) a u σ := rfl
theorem r9_5_go : fops E ro r9_5 a u σ = fops E ro (r9_5U ()) a u σ := rfl
theorem r9_6_go : fops E ro r9_6 a u σ = fops E ro (r9_6U ()) a u σ := rfl
theorem r9_7_go : fops E ro r9_7 a u σ = fops E ro (r9_7U ()) a u σ := rfl
theorem r9_9_go : fops E ro r9_9 a u σ = fops E ro (r9_9U ()) a u σ := rfl
theorem r9_10_go : fops E ro r9_10 a u σ = fops E ro (r9_10U ()) a u σ := rfl
theorem r9_12_go : fops E ro r9_12 a u σ = fops E ro (r9_12U ()) a u σ := rfl
theorem r9_8_go : fops E ro r9_8 a u σ = fops E ro (r9_8U ()) a u σ := rfl
theorem r9_13_go : fops E ro r9_13 a u σ = fops E ro (r9_13U ()) a u σ := rfl
theorem r9_14_go : fops E ro r9_14 a u σ = fops E ro (r9_14U ()) a u σ := rfl
theorem r9_15_go : fops E ro r9_15 a u σ = fops E ro (r9_15U ()) a u σ := rfl
theorem r9_16_go : fops E ro r9_16 a u σ = fops E ro (r9_16U ()) a u σ := rfl
theorem r9_18_go : fdraw E ro last r9_18 cl a u σ = fdraw E ro last (r9_18U ()) cl a u σ := rfl
theorem r9_19_go : fdraw E ro last r9_19 cl a u σ = fdraw E ro last (r9_19U ()) cl a u σ := rfl
theorem r9_17_go : fops E ro r9_17 a u σ = fops E ro (r9_17U ()) a u σ := rfl
theorem r9_21_go : fops E ro r9_21 a u σ = fops E ro (r9_21U ()) a u σ := rfl
theorem code9 (E : Env) (ro : Option Nat) (fn : FuncId) : code Tryz.prog nls (Tryz.f9.body.getD .skip) E ro fn = run9 E ro fn := by kernel_rfl
theorem enter9 (E : Env) (args : List Value) (u : Option FrameMode) (σ : FState) (hn : args.length ≤ (13 : Nat)) : fcall Tryz.prog nls E 9 args u σ = leaveR Tryz.prog E [.tmp 2] (run9 E none 9 ⟨padTo undef 13 args, fun _ => undef, 13, 105, []⟩ u σ) := by
  rw [fcall_of (body := Tryz.f9.body.getD .skip) Tryz.func9 rfl E args u σ 13 105 (by kernel_rfl) rfl ⟨hn, by decide⟩, code9]
  rfl
end Go.Proofs.YtodkeaoikjjneaaGreatDoor
/- DatumSymbols: the loop over the parts. -/
namespace Go.Proofs.YtodkeaoikjjneaaGreatDoor
open Go Go.Eng
attribute [local congr] andThen_congr fops_congr fdraw_congr afterOp_congr drawF_congr
attribute [-go_sem] List.range_succ
theorem findS_go (M n : Nat) (hM : M = n + 14) (L L' : Nat) (hL6 : L ≤ 6) (hL6' : L' ≤ 6) (d x : D) (hF : Fine M L d) (hFx : Fine M L' x) (lv xv : List Value) (h4 : lv.length = 4) (hx4 : xv.length = 4) (R X : Nat → Prop) (σ : FState) (hw : Wf σ) (hL : LaidR R σ (.agg lv.toArray) d) (hLx : LaidR (fun b => R b ∨ X b) σ (.agg xv.toArray) x) (hR : ∀ b, R b → b < σ.next ∧ ¬ X b) (hX : ∀ b, X b → b < σ.next) :
    Gives ((env (M + 9)).call 28 [.agg lv.toArray, .agg xv.toArray] none σ) σ fun w _ => ∃ a c, w = .tuple #[.slice a (occN x d) c, .int .i64 0] := by
  obtain ⟨w, σ', e, x', hw', u, rfl, us, h1, h2⟩ := findF_go M n hM L L' hL6 hL6' d x hF hFx lv xv h4 hx4 R X σ hw hL hLx hR hX
  obtain ⟨a, c, rfl, _⟩ := vecs_slice h1
  exact ⟨_, σ', e, x', hw', a, c, by rw [h2.length, found_len]⟩
theorem asc_nil : strs (asc fun r => decide (r ∈ ([] : List Nat))) = [] := by
  rw [show asc (fun r => decide (r ∈ ([] : List Nat))) = [] from List.filter_eq_nil_iff.2 fun r _ => by simp]
  rfl
theorem asc_more (ds : List D) (i : Nat) (d : D) (h : ds[i]? = some d) : asc (fun r => decide (r ∈ (ds.take i).flatMap rk) || decide (r ∈ rk d)) = asc (fun r => decide (r ∈ (ds.take (i + 1)).flatMap rk)) := by
  congr 1
  funext r
  rw [List.take_add_one, h, List.flatMap_append]
  simp
structure HeadY (b3 : Nat) (k z : Int) (t : ByteArray) (q : Option Addr) (c : Nat) (ds : List D) (σ0 : FState) (i : Nat) (f0 : Nat → Value) (f : Nat → Value) (σ : FState) : Prop where
  f3 : f 3 = .pointer (some ⟨b3, 0, none⟩)
  f4 : f 4 = f0 4
  f7 : f 7 = .int .i64 (.ofNat i)
  vec : Vecs 9 (fun b => σ0.next ≤ b) σ (f 6) (strs (asc fun r => decide (r ∈ (ds.take i).flatMap rk)))
  cell : σ0.cells b3 = some [.int .i64 k, .int .i64 z, .string t, .slice q ds.length c]
  wf : Wf σ
  ext : Ext σ0 σ
theorem parts_loop (q : Nat) {b3 : Nat} {k z : Int} {t : ByteArray} {pq : Option Addr} {c : Nat} {ds : List D} {L : Nat} {R : Nat → Prop} {σ0 : FState} (hw0 : Wf σ0) (hds : ∀ d ∈ ds, Made L d) (hL6 : L ≤ 6) (hlen : ds.length ≤ 3) (hE : LaidRE R σ0 pq 0 ds) (hR : ∀ b, R b → b < σ0.next) (f0 : Nat → Value) :
    ∀ (j fuel i : Nat) (f g : Nat → Value) (σ : FState), i + j = ds.length → j < fuel → HeadY b3 k z t pq c ds σ0 i f0 f σ →
      ∃ f' g' σ', floop (keepOf nls 9) (l9_0 (top (q + 40)) none 9) fuel (Sl 13 105 f g []) none σ = .done (.exit 0) (Sl 13 105 f' g' []) none σ' ∧ HeadY b3 k z t pq c ds σ0 ds.length f0 f' σ' := by
  intro j
  induction j with
  | zero =>
    intro fuel i f g σ hij hf h
    obtain ⟨fuel, rfl⟩ : ∃ q, fuel = q + 1 := ⟨fuel - 1, by omega⟩
    obtain rfl : i = ds.length := by omega
    have d1 : decide (Int.ofNat ds.length < Int.ofNat ds.length) = false := by simp
    have hc := (h.ext.cells (hw0.cells h.cell)).trans h.cell
    rw [floop_step]
    unfold l9_0
    simp -implicitDefEqProofs only [go_sem, ↓reduceIte, Nat.reduceLT, Nat.reduceEqDiff, Nat.reduceAdd, Nat.reduceMul, Nat.reduceLeDiff, Nat.reduceSub, r9_7_go, r9_7U, h.f3, h.f7, hc, d1]
    exact ⟨_, _, _, rfl, h⟩
  | succ j ih =>
    intro fuel i f g σ hij hf h
    obtain ⟨fuel, rfl⟩ : ∃ q, fuel = q + 1 := ⟨fuel - 1, by omega⟩
    have hi : i < ds.length := by omega
    have d1 : decide (Int.ofNat i < Int.ofNat ds.length) = true := by simp; omega
    have hc := (h.ext.cells (hw0.cells h.cell)).trans h.cell
    have hd : ds[i]? = some ds[i] := List.getElem?_eq_getElem hi
    obtain ⟨b, off, cs, rfl, hRb, hcs, hle, hLd⟩ := LaidRE.get hE hd
    rw [Nat.zero_add] at hle hLd
    have hn := h.ext.next
    have kc : ∀ {b : Nat} {cs : List Value} (σ' : FState), Ext σ0 σ' → σ0.cells b = some cs → σ'.cells b = some cs := fun σ' hx hc => (hx.cells (hw0.cells hc)).trans hc
    have hcsσ := kc σ h.ext hcs
    obtain ⟨l4, e4, hl4, ho4⟩ := hLd.agg
    have e4' : (cs.drop (off + i * 4)).take 4 = l4 := by
      have := Value.agg.inj e4
      simpa using congrArg Array.toList this
    rw [e4'] at hLd
    obtain ⟨_, σ1, e1, x1, hw1, s, rfl, hV1⟩ := symbols_go (q + 31) (q + 11) (by omega) (hds _ (List.getElem_mem hi)) hL6 l4 hl4 (R := R) σ h.wf (hLd.keep fun b cs hb hc => ⟨kc σ h.ext hc, hb⟩) (fun b hb => by have := hR b hb; omega)
    have e1' : (top (q + 40)).call 38 [.agg l4.toArray] none σ = .ret (.tuple #[s, .int .i64 0]) none σ1 := (top_call _ _ _ _ rfl).trans e1
    have V0 := h.vec.keep (σ' := σ1) (Q' := fun b => σ0.next ≤ b) (fun b hb hn => ⟨x1.get b hn, hb⟩) h.wf
    obtain ⟨w2, σ2, e2, x2, hw2, hV2⟩ := union_go (q + 39) _ _ σ1 hw1 (vecs_txt V0) (vecs_txt hV1)
    rw [asc_more ds i _ hd] at hV2
    have e2' : (top (q + 40)).call 39 [f 6, s] none σ1 = .ret w2 none σ2 := (top_call _ _ _ _ rfl).trans e2
    obtain ⟨ps, cc, hs, _⟩ := (vecs_txt hV1).slice
    have hlen8 := asc_len (fun r => decide (r ∈ rk ds[i]))
    generalize hN : (asc fun r => decide (r ∈ rk ds[i])).length = N at hs hlen8
    subst hs
    have d2 : decide (Int.ofNat N > (20 : Int)) = false := by simp only [Int.ofNat_eq_natCast]; exact decide_eq_false (by omega)
    have y0 : (!((0 : Int) == 0)) = false := by decide
    have w1 := add1 i (by omega)
    have o2 := hV2.one
    rw [floop_step]
    unfold l9_0
    simp -implicitDefEqProofs only [go_sem, ↓reduceIte, Nat.reduceLT, Nat.reduceEqDiff, Nat.reduceAdd, Nat.reduceMul, Nat.reduceLeDiff, Nat.reduceSub, r9_7_go, r9_7U, r9_8_go, r9_8U, r9_9_go, r9_9U, r9_10_go, r9_10U, r9_12_go, r9_12U, h.f3, h.f7, hc, d1, hi, hcsσ, hle, e4', e1', y0, d2, e2', o2.1, o2.2.1, o2.2.2, w1]
    generalize hff : upd _ 7 _ = f1'
    have q6 : f1' 6 = w2 := by rw [← hff]; simp -implicitDefEqProofs only [upd_go, kept_go, ↓reduceIte, Nat.reduceEqDiff, Nat.reduceLT, reduceCtorEq]
    have x02 := h.ext.trans (x1.trans x2)
    have n1 := x1.next
    exact ih fuel (i + 1) f1' _ σ2 (by omega) (by omega) {
      f3 := by rw [← hff]; simp -implicitDefEqProofs only [upd_go, kept_go, ↓reduceIte, Nat.reduceEqDiff, Nat.reduceLT, reduceCtorEq, h.f3]
      f4 := by rw [← hff]; simp -implicitDefEqProofs only [upd_go, kept_go, ↓reduceIte, Nat.reduceEqDiff, Nat.reduceLT, reduceCtorEq, h.f4]
      f7 := by rw [← hff]; simp -implicitDefEqProofs only [upd_go, kept_go, ↓reduceIte, Nat.reduceEqDiff, Nat.reduceLT, reduceCtorEq]
      vec := by rw [q6]; exact hV2.keep (fun b hb hn => ⟨rfl, by omega⟩) hw2
      cell := h.cell
      wf := hw2
      ext := x02 }
end Go.Proofs.YtodkeaoikjjneaaGreatDoor
/- DatumSymbols: the loop over the symbols. -/
namespace Go.Proofs.YtodkeaoikjjneaaGreatDoor
open Go Go.Eng
attribute [local congr] andThen_congr fops_congr fdraw_congr afterOp_congr drawF_congr
attribute [-go_sem] List.range_succ
structure HeadZ (b3 : Nat) (lv : List Value) (pl : Option Addr) (N cl : Nat) (σ0 : FState) (i : Nat) (f0 : Nat → Value) (f : Nat → Value) (σ : FState) : Prop where
  f3 : f 3 = .pointer (some ⟨b3, 0, none⟩)
  f4 : f 4 = .slice pl N cl
  f6 : f 6 = f0 6
  f10 : f 10 = .int .i64 (.ofNat i)
  cell : σ0.cells b3 = some lv
  wf : Wf σ
  ext : Ext σ0 σ
theorem found_loop (q : Nat) {b3 : Nat} {lv : List Value} {pl : Option Addr} {cl : Nat} {d : D} {l : List Nat} {R : Nat → Prop} {σ0 : FState} (hw0 : Wf σ0) (hM : Made 4 d) (h4 : lv.length = 4) (hl : l = asc fun r => decide (r ∈ rk d)) (hLd : LaidR R σ0 (.agg lv.toArray) d) (hR : ∀ b, R b → b < σ0.next) (hp : l ≠ [] → ∃ b, pl = some ⟨b, 0, none⟩ ∧ σ0.cells b = some (strs l)) (f0 : Nat → Value) :
    ∀ (j fuel i : Nat) (f g : Nat → Value) (σ : FState), i + j = l.length → j < fuel → HeadZ b3 lv pl l.length cl σ0 i f0 f σ →
      ∃ f' g' σ', floop (keepOf nls 9) (l9_1 (top (q + 40)) none 9) fuel (Sl 13 105 f g []) none σ = .done (.exit 2) (Sl 13 105 f' g' []) none σ' ∧ HeadZ b3 lv pl l.length cl σ0 l.length f0 f' σ' := by
  intro j
  have hlen8 : l.length ≤ 8 := by rw [hl]; exact asc_len _
  induction j with
  | zero =>
    intro fuel i f g σ hij hf h
    obtain ⟨fuel, rfl⟩ : ∃ q, fuel = q + 1 := ⟨fuel - 1, by omega⟩
    obtain rfl : i = l.length := by omega
    have d1 : decide (Int.ofNat l.length < Int.ofNat l.length) = false := by simp
    rw [floop_step]
    unfold l9_1
    simp -implicitDefEqProofs only [go_sem, ↓reduceIte, Nat.reduceLT, Nat.reduceEqDiff, Nat.reduceAdd, Nat.reduceMul, Nat.reduceLeDiff, Nat.reduceSub, r9_16_go, r9_16U, h.f4, h.f10, d1]
    exact ⟨_, _, _, rfl, h⟩
  | succ j ih =>
    intro fuel i f g σ hij hf h
    obtain ⟨fuel, rfl⟩ : ∃ q, fuel = q + 1 := ⟨fuel - 1, by omega⟩
    have hi : i < l.length := by omega
    have d1 : decide (Int.ofNat i < Int.ofNat l.length) = true := by simp; omega
    obtain ⟨r, hr, _⟩ := drop_some hi
    have hrm := List.mem_of_getElem? hr
    have hrm' := hrm
    rw [hl, asc_mem] at hrm'
    have hr8 := hrm'.1
    have hrk : r ∈ rk d := of_decide_eq_true hrm'.2
    obtain ⟨bl, rfl, hcl⟩ := hp (by intro e; rw [e] at hi; simp at hi)
    have kc : ∀ {b : Nat} {cs : List Value} (σ' : FState), Ext σ0 σ' → σ0.cells b = some cs → σ'.cells b = some cs := fun σ' hx hc => (hx.cells (hw0.cells hc)).trans hc
    have hclσ := kc σ h.ext hcl
    have hcσ := kc σ h.ext h.cell
    have gr := strs_get _ _ _ hr
    have hw := h.wf
    have hvw := view_wf hw (lam := σ.clock) (Nat.le_refl _)
    obtain ⟨_, σ1, e1, x1, hw1, rfl⟩ := lawsym_go (q + 38) (tx r) σ hw
    have e1' : (top (q + 40)).call 40 [.string (tx r)] none σ = .ret (.agg #[.int .i64 3, .int .i64 0, .string (tx r), .slice none 0 0]) none σ1 := (top_call _ _ _ _ rfl).trans e1
    have x01 := h.ext.trans x1
    have hF := made_fine (q + 11) hM
    have hFx := made_fine (q + 11) (Made.leaf 0 _ (Leaf.sym (tx r) (tx_mem hr8)))
    obtain ⟨_, σ2, e2, x2, hw2, a, ca, rfl⟩ := findS_go (q + 31) (q + 17) (by omega) 4 0 (by omega) (by omega) d (.mk 3 0 (tx r) []) hF hFx lv [.int .i64 3, .int .i64 0, .string (tx r), .slice none 0 0] h4 rfl R (fun _ => False) σ1 hw1 (hLd.keep fun b cs hb hc => ⟨kc σ1 x01 hc, hb⟩) ⟨none, 0, rfl, trivial⟩ (fun b hb => ⟨by have := hR b hb; have := x01.next; omega, fun h => h⟩) (fun b hb => hb.elim)
    have hocc := occ_sym hM hrk
    generalize occN (.mk 3 0 (tx r) []) d = K at e2 hocc
    have e2' : (top (q + 40)).call 28 [.agg lv.toArray, .agg #[.int .i64 3, .int .i64 0, .string (tx r), .slice none 0 0]] none σ1 = .ret (.tuple #[.slice a K ca, .int .i64 0]) none σ2 := (top_call _ _ _ _ rfl).trans e2
    have v3 : (view σ1 σ.clock).cells b3 = some lv := view_old hw (Nat.le_refl _) (x1.get _ (hw.cells hcσ)) hcσ
    have ht : lv.take 4 = lv := List.take_of_length_le (by omega)
    have y0 : (!((0 : Int) == 0)) = false := by decide
    have yK : (Int.ofNat K == (0 : Int)) = false := by simp; omega
    have w1 := add1 i (by omega)
    have hcl2 := kc σ2 (x01.trans x2) hcl
    have hvw2 := view_wf hw2 (lam := σ2.clock) (Nat.le_refl _)
    have fin : ∀ f1' g1', f1' 3 = .pointer (some ⟨b3, 0, none⟩) → f1' 4 = .slice (some ⟨bl, 0, none⟩) l.length cl → f1' 6 = f0 6 → f1' 10 = .int .i64 (.ofNat (i + 1)) → ∃ f' g' σ', floop (keepOf nls 9) (l9_1 (top (q + 40)) none 9) fuel (Sl 13 105 f1' g1' []) none σ2 = .done (.exit 2) (Sl 13 105 f' g' []) none σ' ∧ HeadZ b3 lv (some ⟨bl, 0, none⟩) l.length cl σ0 l.length f0 f' σ' := fun f1' g1' a1 a2 a3 a4 =>
      ih fuel (i + 1) f1' g1' σ2 (by omega) (by omega) ⟨a1, a2, a3, a4, h.cell, hw2, x01.trans x2⟩
    rw [floop_step]
    unfold l9_1
    cases i with
    | zero =>
      have d2 : decide (Int.ofNat 0 > (0 : Int)) = false := by decide
      simp -implicitDefEqProofs only [go_sem, ↓reduceIte, Nat.reduceLT, Nat.reduceEqDiff, Nat.reduceAdd, Nat.reduceMul, Nat.reduceLeDiff, Nat.reduceSub, r9_16_go, r9_16U, r9_17_go, r9_17U, r9_18_go, r9_18U, r9_19_go, r9_19U, h.f3, h.f4, h.f10, d1, hi, hvw, hclσ, gr, e1', v3, h4, ht, e2', y0, yK, d2, w1, Nat.le_refl]
      generalize hff : upd _ 10 _ = f1'
      exact fin f1' _ (by rw [← hff]; simp -implicitDefEqProofs only [upd_go, kept_go, ↓reduceIte, Nat.reduceEqDiff, Nat.reduceLT, reduceCtorEq, h.f3]) (by rw [← hff]; simp -implicitDefEqProofs only [upd_go, kept_go, ↓reduceIte, Nat.reduceEqDiff, Nat.reduceLT, reduceCtorEq, h.f4]) (by rw [← hff]; simp -implicitDefEqProofs only [upd_go, kept_go, ↓reduceIte, Nat.reduceEqDiff, Nat.reduceLT, reduceCtorEq, h.f6]) (by rw [← hff]; simp -implicitDefEqProofs only [upd_go, kept_go, ↓reduceIte, Nat.reduceEqDiff, Nat.reduceLT, reduceCtorEq])
    | succ i =>
      have d2 : decide (Int.ofNat (i + 1) > (0 : Int)) = true := by simp
      have hi' : i < l.length := by omega
      obtain ⟨s, hs, _⟩ := drop_some hi'
      have hsm := List.mem_of_getElem? hs
      rw [hl, asc_mem] at hsm
      have hs8 := hsm.1
      have gs := strs_get _ _ _ hs
      have hsr : s < r := by
        have hp := asc_sorted fun r => decide (r ∈ rk d)
        rw [← hl] at hp
        have h1 := (List.getElem?_eq_some_iff.1 hs).2
        have h2 := (List.getElem?_eq_some_iff.1 hr).2
        rw [← h1, ← h2]
        exact List.pairwise_iff_getElem.1 hp i (i + 1) hi' hi (by omega)
      have e3 := fun X Y σ => geq_tx X Y σ hs8 hr8
      have d3 : decide (r ≤ s) = false := decide_eq_false (by omega)
      simp only [d3] at e3
      have w0 := sub1 i (by omega)
      simp -implicitDefEqProofs only [go_sem, ↓reduceIte, Nat.reduceLT, Nat.reduceEqDiff, Nat.reduceAdd, Nat.reduceMul, Nat.reduceLeDiff, Nat.reduceSub, r9_16_go, r9_16U, r9_17_go, r9_17U, r9_18_go, r9_18U, r9_19_go, r9_19U, h.f3, h.f4, h.f10, d1, hi, hi', hvw, hclσ, gr, gs, e1', v3, h4, ht, e2', y0, yK, d2, w0, w1, hvw2, hcl2, e3, Nat.le_refl]
      generalize hff : upd _ 10 _ = f1'
      exact fin f1' _ (by rw [← hff]; simp -implicitDefEqProofs only [upd_go, kept_go, ↓reduceIte, Nat.reduceEqDiff, Nat.reduceLT, reduceCtorEq, h.f3]) (by rw [← hff]; simp -implicitDefEqProofs only [upd_go, kept_go, ↓reduceIte, Nat.reduceEqDiff, Nat.reduceLT, reduceCtorEq, h.f4]) (by rw [← hff]; simp -implicitDefEqProofs only [upd_go, kept_go, ↓reduceIte, Nat.reduceEqDiff, Nat.reduceLT, reduceCtorEq, h.f6]) (by rw [← hff]; simp -implicitDefEqProofs only [upd_go, kept_go, ↓reduceIte, Nat.reduceEqDiff, Nat.reduceLT, reduceCtorEq])
end Go.Proofs.YtodkeaoikjjneaaGreatDoor
/- DatumSymbols: what the reading says. -/
namespace Go.Proofs.YtodkeaoikjjneaaGreatDoor
open Go Go.Eng
attribute [local congr] andThen_congr fops_congr fdraw_congr afterOp_congr drawF_congr
attribute [-go_sem] List.range_succ
noncomputable def restY (E : Env) (ro : Option Nat) (fn : FuncId) : RunF := seqR (seqR (fops E ro r9_15) (blockR 2 (loopR (keepOf nls fn) (l9_1 E ro fn)))) (seqR (fops E ro r9_21) retR)
theorem run_restY (E : Env) (ro : Option Nat) (fn : FuncId) : run9 E ro fn = seqR (fops E ro r9_0) (seqR (fops E ro r9_1) (seqR (fops E ro r9_2) (seqR (seqR (fops E ro r9_3) (condR (fun a => a.get 27) (seqR (fops E ro r9_4) retR) skipR)) (seqR (fops E ro r9_5) (seqR (seqR (fops E ro r9_6) (blockR 0 (loopR (keepOf nls fn) (l9_0 E ro fn)))) (seqR (seqR (fops E ro r9_13) (condR (fun a => a.get 56) (fops E ro r9_14) skipR)) (restY E ro fn))))))) := rfl
theorem restY_go (q : Nat) {b3 : Nat} {lv : List Value} {pl : Option Addr} {cl : Nat} {d : D} {l : List Nat} {R Q : Nat → Prop} (σ : FState) (hw : Wf σ) (hM : Made 4 d) (h4 : lv.length = 4) (hl : l = asc fun r => decide (r ∈ rk d)) (hLd : LaidR R σ (.agg lv.toArray) d) (hR : ∀ b, R b → b < σ.next) (hp : l ≠ [] → ∃ b, pl = some ⟨b, 0, none⟩ ∧ σ.cells b = some (strs l)) (hT : TxtR (fun _ => True) σ (.slice pl l.length cl) l) (f g : Nat → Value) (f3 : f 3 = .pointer (some ⟨b3, 0, none⟩)) (hc : σ.cells b3 = some lv) (f4 : f 4 = .slice pl l.length cl) (f6 : TxtR Q σ (f 6) l) :
    ∃ σ', leaveR Tryz.prog (top (q + 40)) [.tmp 2] (restY (top (q + 40)) none 9 (Sl 13 105 f g []) none σ) = .ret (.bool true) none σ' := by
  unfold restY
  simp -implicitDefEqProofs only [go_sem, ↓reduceIte, Nat.reduceLT, Nat.reduceEqDiff, Nat.reduceAdd, Nat.reduceMul, Nat.reduceLeDiff, Nat.reduceSub, r9_15_go, r9_15U]
  generalize hff : upd _ 10 _ = f1
  generalize hbf : bigFuel = fuel
  have hlen8 : l.length ≤ 8 := by rw [hl]; exact asc_len _
  obtain ⟨f2, g2, σ2, e2, h2⟩ := found_loop q (cl := cl) hw hM h4 hl hLd hR hp f l.length fuel 0 f1 g σ (by omega) (by rw [← hbf]; show l.length < 1000000000000; omega) {
    f3 := by rw [← hff]; simp -implicitDefEqProofs only [upd_go, kept_go, ↓reduceIte, Nat.reduceEqDiff, Nat.reduceLT, reduceCtorEq, f3]
    f4 := by rw [← hff]; simp -implicitDefEqProofs only [upd_go, kept_go, ↓reduceIte, Nat.reduceEqDiff, Nat.reduceLT, reduceCtorEq, f4]
    f6 := by rw [← hff]; simp -implicitDefEqProofs only [upd_go, kept_go, ↓reduceIte, Nat.reduceEqDiff, Nat.reduceLT, reduceCtorEq]
    f10 := by rw [← hff]; simp -implicitDefEqProofs only [upd_go, kept_go, ↓reduceIte, Nat.reduceEqDiff, Nat.reduceLT, reduceCtorEq] <;> rfl
    cell := hc
    wf := hw
    ext := Ext.refl _ }
  rw [e2]
  have kT : ∀ b cs, σ.cells b = some cs → σ2.cells b = some cs := fun b cs hc => (h2.ext.cells (hw.cells hc)).trans hc
  have t6 : TxtR (fun _ => True) σ2 (f2 6) l := by rw [h2.f6]; exact f6.keep fun b cs _ hc => ⟨kT b cs hc, trivial⟩
  have t4 : TxtR (fun _ => True) σ2 (.slice pl l.length cl) l := hT.keep fun b cs _ hc => ⟨kT b cs hc, trivial⟩
  have e3 := eqTexts_go (q + 39) (l := l) (fun r hr => by rw [hl, asc_mem] at hr; exact hr.1) (by omega) σ2 h2.wf t4 t6
  have e3' : (top (q + 40)).call 41 [.slice pl l.length cl, f2 6] none σ2 = .ret (.bool true) none σ2 := (top_call _ _ _ _ rfl).trans e3
  simp -implicitDefEqProofs only [go_sem, ↓reduceIte, Nat.reduceLT, Nat.reduceEqDiff, Nat.reduceAdd, Nat.reduceMul, Nat.reduceLeDiff, Nat.reduceSub, r9_21_go, r9_21U, h2.f4, e3', top_looks]
  exact ⟨_, rfl⟩
theorem symbols_says (q : Nat) (p : Option Addr) (l : List Int) (cp : Nat) (hl : l.length < 9223372036854775808) (σ : FState) (hw : Wf σ) (hI : Ints σ p l) (hp : ∀ a, p = some a → a.block < σ.next) :
    ∃ σ', fcall Tryz.prog nls (top (q + 40)) 9 [.slice p l.length cp] none σ = .ret (.bool true) none σ' := by
  obtain ⟨σ1, e1, x1, hw1, hC⟩ := newCoil_go (q + 39) p l cp hl σ hw hI hp
  have e1' : (top (q + 40)).call 11 [.slice p l.length cp] none σ = .ret (.pointer (some ⟨σ.next, 0, none⟩)) none σ1 := (top_call _ _ _ _ rfl).trans e1
  obtain ⟨v, d, σ2, k2, e2, hL, hM, x2, hw2, hC2, _, hk2⟩ := datumOf_go (q + 32) σ.next 4 (by omega) 0 σ1 (by simp [wound]) hw1 hC
  have e2' : (top (q + 40)).call 13 [.pointer (some ⟨σ.next, 0, none⟩), .int .i64 4] none σ1 = .ret v none σ2 := (top_call _ _ _ _ rfl).trans e2
  have hM0 := hM
  obtain ⟨k, z, t, ds⟩ := d
  have hL0 := hL
  obtain ⟨pq, c, rfl, hE⟩ := hL
  have x3 : Ext σ2 ((σ2.push (.cells [.int .i64 0, .int .i64 0, .string ⟨#[]⟩, .slice none 0 0] TD) none).put σ2.next (.cells [.int .i64 k, .int .i64 z, .string t, .slice pq ds.length c] TD) none) := ((Ext.refl _).push _ _).put _ _ _ (Nat.le_refl _)
  have hw3 := (hw2.push (.cells [.int .i64 0, .int .i64 0, .string ⟨#[]⟩, .slice none 0 0] TD) none).put σ2.next (.cells [.int .i64 k, .int .i64 z, .string t, .slice pq ds.length c] TD) none (Nat.lt_succ_self _)
  have c3 : ((σ2.push (.cells [.int .i64 0, .int .i64 0, .string ⟨#[]⟩, .slice none 0 0] TD) none).put σ2.next (.cells [.int .i64 k, .int .i64 z, .string t, .slice pq ds.length c] TD) none).cells σ2.next = some [.int .i64 k, .int .i64 z, .string t, .slice pq ds.length c] := by rw [cells_put, if_pos rfl]; rfl
  rw [enter9 _ _ _ _ (by simp), Sl_start, run_restY]
  simp -implicitDefEqProofs only [go_sem, ↓reduceIte, Nat.reduceLT, Nat.reduceEqDiff, Nat.reduceAdd, Nat.reduceMul, Nat.reduceLeDiff, Nat.reduceSub, fstoreN, r9_0_go, r9_0U, r9_1_go, r9_1U, Option.getD_some, List.getElem?_cons_zero, e1', e2']
  generalize FState.put _ _ _ _ = σ3 at x3 hw3 c3 ⊢
  have hL3 : LaidR (fun b => b < σ3.next) σ3 (.agg #[.int .i64 k, .int .i64 z, .string t, .slice pq ds.length c]) (.mk k z t ds) := hL0.keep fun b cs hb hc => ⟨(x3.cells (hw2.cells hc)).trans hc, by have := hw2.cells hc; have := x3.next; omega⟩
  have hE3 : LaidRE (fun b => b < σ3.next) σ3 pq 0 ds := hE.keep fun b cs hb hc => ⟨(x3.cells (hw2.cells hc)).trans hc, by have := hw2.cells hc; have := x3.next; omega⟩
  obtain ⟨_, σ4, e4, x4, hw4, s, rfl, hV4⟩ := symbols_go (q + 31) (q + 11) (by omega) hM (by omega) [.int .i64 k, .int .i64 z, .string t, .slice pq ds.length c] rfl σ3 hw3 hL3 (fun b hb => hb)
  have e4' : (top (q + 40)).call 38 [.agg #[.int .i64 k, .int .i64 z, .string t, .slice pq ds.length c]] none σ3 = .ret (.tuple #[s, .int .i64 0]) none σ4 := (top_call _ _ _ _ rfl).trans e4
  have n4 := x4.next
  have c4 := (x4.cells (hw3.cells c3)).trans c3
  obtain ⟨ll, hll⟩ : ∃ ll, ll = asc fun r => decide (r ∈ rk (.mk k z t ds)) := ⟨_, rfl⟩
  have hlen8 : ll.length ≤ 8 := by rw [hll]; exact asc_len _
  rw [← hll] at hV4
  have hT4 := vecs_txt hV4
  have hT4' : TxtR (fun _ => True) σ4 s ll := hT4.keep fun b cs _ hc => ⟨hc, trivial⟩
  obtain ⟨pl, cl, hs, hpl⟩ := hT4.slice
  generalize hN : ll.length = N at hs hlen8
  subst hs
  have d2 : decide (Int.ofNat N > (20 : Int)) = false := by simp only [Int.ofNat_eq_natCast]; exact decide_eq_false (by omega)
  have y0 : (!((0 : Int) == 0)) = false := by decide
  simp -implicitDefEqProofs only [go_sem, ↓reduceIte, Nat.reduceLT, Nat.reduceEqDiff, Nat.reduceAdd, Nat.reduceMul, Nat.reduceLeDiff, Nat.reduceSub, r9_2_go, r9_2U, r9_3_go, r9_3U, r9_5_go, r9_5U, r9_6_go, r9_6U, c3, e4', y0, d2]
  generalize hff : upd _ 7 _ = f1
  generalize hbf : bigFuel = fuel
  generalize upd _ 27 _ = gg
  have hlen3 : ds.length ≤ 3 := by
    cases hM with
    | leaf _ _ h => cases h <;> simp
    | pair => simp
    | vec _ _ h _ => exact h
  have hds : ∀ e ∈ ds, Made 3 e := fun e he => Fine.part (m := 0) hM0 he
  have hE4 : LaidRE (fun b => b < σ3.next) σ4 pq 0 ds := hE3.keep fun b cs hb hc => ⟨(x4.cells (hw3.cells hc)).trans hc, hb⟩
  obtain ⟨f2, g2, σ5, e5, h5⟩ := parts_loop q (b3 := σ2.next) (k := k) (z := z) (t := t) (c := c) (L := 3) hw4 hds (by omega) hlen3 hE4 (fun b hb => by omega) f1 ds.length fuel 0 f1 gg σ4 (by omega) (by rw [← hbf]; show ds.length < 1000000000000; omega) {
    f3 := by rw [← hff]; simp -implicitDefEqProofs only [upd_go, kept_go, ↓reduceIte, Nat.reduceEqDiff, Nat.reduceLT, reduceCtorEq]
    f4 := rfl
    f7 := by rw [← hff]; simp -implicitDefEqProofs only [upd_go, kept_go, ↓reduceIte, Nat.reduceEqDiff, Nat.reduceLT, reduceCtorEq] <;> rfl
    vec := .inl ⟨by rw [← hff]; simp -implicitDefEqProofs only [upd_go, kept_go, ↓reduceIte, Nat.reduceEqDiff, Nat.reduceLT, reduceCtorEq], asc_nil⟩
    cell := c4
    wf := hw4
    ext := Ext.refl _ }
  rw [e5]
  have q4 : f2 4 = .slice pl N cl := by rw [h5.f4, ← hff]; simp -implicitDefEqProofs only [upd_go, kept_go, ↓reduceIte, Nat.reduceEqDiff, Nat.reduceLT, reduceCtorEq]
  have x35 := x4.trans h5.ext
  have hw5 := h5.wf
  have k35 : ∀ b cs, σ3.cells b = some cs → σ5.cells b = some cs := fun b cs hc => (x35.cells (hw3.cells hc)).trans hc
  have k45 : ∀ b cs, σ4.cells b = some cs → σ5.cells b = some cs := fun b cs hc => (h5.ext.cells (hw4.cells hc)).trans hc
  have c5 := k35 _ _ c3
  have hL5 : LaidR (fun b => b < σ3.next) σ5 (.agg #[.int .i64 k, .int .i64 z, .string t, .slice pq ds.length c]) (.mk k z t ds) := hL3.keep fun b cs hb hc => ⟨k35 b cs hc, hb⟩
  have n5 := h5.ext.next
  subst hN
  by_cases hk : k = 3
  · subst hk
    obtain ⟨hts, rfl, rfl⟩ := rk_made hM0 ([], _) (by rw [D.pieces]; exact List.mem_cons_self) 3 z t ds rfl rfl
    have y3 : ((3 : Int) == 3) = true := by decide
    simp -implicitDefEqProofs only [go_sem, ↓reduceIte, Nat.reduceLT, Nat.reduceEqDiff, Nat.reduceAdd, Nat.reduceMul, Nat.reduceLeDiff, Nat.reduceSub, r9_13_go, r9_13U, r9_14_go, r9_14U, h5.f3, c5, y3]
    generalize hff2 : upd _ 6 _ = f3'
    have hll2 : ll = [rank t] := by
      rw [hll]
      refine (asc_of [rank t] _ (by simp) fun x => ?_).symm
      have : rk (.mk 3 0 t []) = [rank t] := rfl
      rw [this]
      simp only [List.mem_singleton, decide_eq_true_eq]
      exact ⟨fun h => ⟨h ▸ (rank_tx hts).2, h⟩, fun h => h.2⟩
    have x6 : Ext σ5 (σ5.push (.cells [.string t] 9) none) := (Ext.refl _).push _ _
    have hw6 := hw5.push (.cells [.string t] 9) none
    have k56 : ∀ b cs, σ5.cells b = some cs → (σ5.push (.cells [.string t] 9) none).cells b = some cs := fun b cs hc => (x6.cells (hw5.cells hc)).trans hc
    exact restY_go q (b3 := σ2.next) (pl := pl) (cl := cl) (l := ll) (R := fun b => b < σ3.next) (Q := fun _ => True) _ hw6 hM0 rfl hll (hL5.keep fun b cs hb hc => ⟨k56 b cs hc, hb⟩) (fun b hb => by rw [push_next]; omega) (fun h => by obtain ⟨b, h1, h2⟩ := hpl h; exact ⟨b, h1, k56 _ _ (k45 _ _ h2)⟩) (hT4'.keep fun b cs _ hc => ⟨k56 _ _ (k45 _ _ hc), trivial⟩) f3' _ (by rw [← hff2]; simp -implicitDefEqProofs only [upd_go, kept_go, ↓reduceIte, Nat.reduceEqDiff, Nat.reduceLT, reduceCtorEq, h5.f3]) (k56 _ _ c5) (by rw [← hff2]; simp -implicitDefEqProofs only [upd_go, kept_go, ↓reduceIte, Nat.reduceEqDiff, Nat.reduceLT, reduceCtorEq, q4]) (.inr ⟨σ5.next, 1, by rw [← hff2, hll2]; simp -implicitDefEqProofs only [upd_go, kept_go, ↓reduceIte, Nat.reduceEqDiff, Nat.reduceLT, reduceCtorEq]; rfl, by rw [cells_push, if_pos rfl, hll2, strs, List.map_cons, (rank_tx hts).1]; rfl, trivial⟩)
  · have y3 : (k == (3 : Int)) = false := by simpa using hk
    simp -implicitDefEqProofs only [go_sem, ↓reduceIte, Nat.reduceLT, Nat.reduceEqDiff, Nat.reduceAdd, Nat.reduceMul, Nat.reduceLeDiff, Nat.reduceSub, r9_13_go, r9_13U, h5.f3, c5, y3]
    have hrk : rk (.mk k z t ds) = ds.flatMap rk := by
      rw [rk_mk, show symR (.mk k z t ds) = none by show (if k = 3 then _ else none) = none; rw [if_neg hk]]; rfl
    have hv := h5.vec
    rw [List.take_length, ← hrk, ← hll] at hv
    exact restY_go q (b3 := σ2.next) (pl := pl) (cl := cl) (l := ll) (R := fun b => b < σ3.next) (Q := fun _ => True) σ5 hw5 hM0 rfl hll hL5 (fun b hb => by omega) (fun h => by obtain ⟨b, h1, h2⟩ := hpl h; exact ⟨b, h1, k45 _ _ h2⟩) (hT4'.keep fun b cs _ hc => ⟨k45 _ _ hc, trivial⟩) f2 _ h5.f3 c5 q4 ((vecs_txt hv).keep fun b cs _ hc => ⟨hc, trivial⟩)
end Go.Proofs.YtodkeaoikjjneaaGreatDoor
