/- DatumApart returns true at every list of numbers, whatever memory it begins in, where the variable errors.errorType holds the type error; nothing that was there is written. -/
import Derived.Test.YtodkeaoikjjneaaGreatDoorRows
import Derived.Test.YtodkeaoikjjneaaGreatDoorU6
import Derived.Test.YtodkeaoikjjneaaGreatDoorZDatumApartFact
import Derived.ChangeSame
import Derived.ChangeSlices
import Derived.ChangeVars
import Derived.JoinedOf
import Derived.RowKit
import Derived.RowKitTokens
import Derived.LaidLaws
import Derived.LaidHandle
import Derived.Stop.Joined
set_option linter.unusedSimpArgs false
set_option linter.unusedVariables false
namespace Go.Proofs.YtodkeaoikjjneaaGreatDoor
open Go Go.Eng Go.ChangeShapes Go.WideShapes Go.RowKit
theorem Tryz.own : ownKnob Tryz.prog.godebug = none:=by kernel_rfl
theorem Tryz.et : Tryz.prog.globalNamed "errors.errorType" = some 0:=by kernel_rfl
theorem Tryz.rt : (Tryz.prog.cutTypes.find? (·.1 == "internal/reflectlite.rtype")).map (·.2) = some 220:=by kernel_rfl
theorem Tryz.oneRow : ((List.range 270).filter fun t => Tryz.prog.rowNamed t [101,114,114,111,114]) = [164]:=by kernel_rfl
theorem Tryz.size : Tryz.prog.types.size = 270:=by kernel_rfl
theorem handle_of_laid {W : World} (h : laidMetH Tryz.prog Rows.datumApartRow.laid W) : W.cell? ⟨0,0,none⟩ = some handle:=by
  have h' : laidMet Tryz.prog [] W ∧ handlesMet Tryz.prog Rows.datumApartRow.laid W:=h
  obtain ⟨name,u,ty,e1,e2,e3,e4,e5⟩:=h'.2 _ (List.mem_singleton.2 rfl)
  have en : name = [101,114,114,111,114]:=(Option.some.inj e1).symm
  subst en
  obtain rfl:=Option.some.inj (Tryz.rt.symm.trans e2)
  have hm : ty ∈ (List.range 270).filter fun t => Tryz.prog.rowNamed t [101,114,114,111,114]:=List.mem_filter.2 ⟨List.mem_range.2 (by rw [← Tryz.size]; exact e3),e4⟩
  rw [Tryz.oneRow] at hm
  obtain rfl:=List.mem_singleton.1 hm
  have hh : typeHandle Tryz.prog 164 = .pointer (some ⟨2,164,none⟩):=by kernel_rfl
  rw [hh] at e5
  simpa [handle] using World.var?_cell Tryz.et e5 0
noncomputable def laidWorld (os : Os) : World :=
  let w0:=World.holding Tryz.prog os ⟨#[],#[],[]⟩
  { w0 with heap:=w0.heap.modify 0 fun
      | .cells _ t frozen => .cells #[handle] t frozen
      | o => o }
theorem laidWorld_met (os : Os) (args : Array Value) : laidMetH Tryz.prog Rows.datumApartRow.laid ((laidWorld os).forCall (fun _ _ => 0) ⟨#[],args,[]⟩).memory :=
  laidMetH_of_parts (laidMet_nil _ _) (by kernel_rfl)
set_option maxRecDepth 100000 in
theorem datumApart_lifted (os : Os) (started : os.Started) (H : Type) (enc : TypeId × Value → H) :
    ReturnsInHanded {} Tryz.checked os 7 .any (fun w args => (Rows.datumApartSpec.pre enc Tryz.prog Tryz.f7 [] false w args ∧ laidMetH Tryz.prog Rows.datumApartRow.laid w) ∧ sizedMet enc Tryz.prog Tryz.f7 (OpenSpec.ofChange Rows.datumApartSpec) false w args)
      (Rows.datumApartSpec.post enc Tryz.prog Tryz.f7 false true false false):=by
  refine returnsInHanded_of_change_and (C:=Tryz.checked) (X:=fun w _ => laidMetH Tryz.prog Rows.datumApartRow.laid w) (fun _ _ _ hh h => h.of_heap hh) Tryz.own started (by kernel_rfl) Tryz.func7
    (ChangeSpec.witness_at (enc:=enc) (C:=Tryz.checked) (os:=os) (X:=fun w _ => laidMetH Tryz.prog Rows.datumApartRow.laid w) false (laidWorld os) #[.slice none 0 0] 8 rfl (by kernel_rfl) (by kernel_rfl) (by kernel_rfl) (by kernel_rfl) (by kernel_rfl) (laidWorld_met os _)) ?_
  intro W base args ds gs before hval0 hW _ _ hL _
  have hW':=hW
  obtain ⟨p,q,hA0,hV0,rfl,hfz,hnd⟩:=hW
  have hA : DataW.TrodAll enc Tryz.prog W 0 (fun _ => true) true Tryz.f7.params.toList args.toList ds p:=hA0
  have hV : DataW.TrodVars enc Tryz.prog W (fun _ => true) [] gs q:=hV0
  rw [Tryz.params7] at hA
  obtain ⟨v,d,rfl,rfl,fuel,hd⟩:=trodAll_one hA
  obtain ⟨rfl,rfl⟩:=trodVars_none hV
  have hg:=handle_of_laid hL
  have hsz : 0 < W.heap.size:=by
    unfold World.cell? at hg
    split at hg
    · rename_i c el fr hb
      have:=(Array.getElem?_eq_some_iff.1 hb).1
      omega
    · cases hg
  have fin : ∀ (hv : v = .slice none 0 0 ∨ ∃ (a : Addr) (len cap : Nat) (zs : List Int),v = .slice (some a) len cap ∧ len ≤ cap ∧ cap < 9223372036854775808 ∧ zs.length = cap ∧ ∀ i,i < zs.length → W.cell? (a.add i) = some (.int .i64 (zs.getD i 0)))
      (back : ∀ W' : World,W.heap.size ≤ W'.heap.size → (∀ i,i < W.heap.size → W'.heap[i]? = W.heap[i]?) → ∃ pa,DataW.Trod enc Tryz.prog W' 0 (fun b => decide (b < W.heap.size)) true 22 v d pa),
      Calls Tryz.prog 7 #[v] W fun e W' => ∃ v',e = .returned v' ∧ Rows.datumApartSpec.post enc Tryz.prog Tryz.f7 false true false false W #[v] v' W':=fun hv back => by
    refine (law_ints Tryz.func7 rfl 40 (fun p l cp hl σ hw hI hp => apart_says 0 p l cp hl σ hw hI hp) W v hsz hg hv).mono fun e W' ⟨he,h1,h2,h3,h4,h5⟩ => ?_
    subst he
    obtain ⟨pa,hpa⟩:=back W' h4 h5
    refine ⟨_,rfl,_,_,_,[],pa,[],hW',?_,?_,?_,keptBut_same h1 h2 h5 _,fun h => by cases h⟩
    · exact trodAll_mk1 (shut_bool Tryz.underlying4 true)
    · show DataW.TrodAll enc Tryz.prog W' 0 _ true Tryz.f7.params.toList [v] [d] pa
      rw [Tryz.params7]
      have:=trodAll_mk1 hpa
      exact this
    · rfl
  obtain ⟨a0,len0,cap0,rfl⟩:=okWide_slice Tryz.underlying22 (hval0 0 22 _ rfl rfl)
  rcases open_ints (Tryz.underlying22) (Tryz.underlying3) (by kernel_rfl) hd with ⟨hc,hx⟩ | ⟨a,len,cap,zs,hc,hb,hl,hm,hz,hx,hcell,hwf⟩
  · have hv : Value.slice a0 len0 cap0 = .slice none 0 0:=by simpa [Value.cells] using hc
    cases hx
    exact fin (.inl hv) fun W' _ _ => ⟨[],by rw [hv]; exact shut_slice_nil Tryz.underlying22⟩
  · have hv : Value.slice a0 len0 cap0 = .slice (some a) len cap:=by simpa [Value.cells] using hc
    rw [if_pos rfl] at hz
    cases hx
    have hm' : cap < 9223372036854775808:=by unfold maxLen at hm; omega
    refine fin (.inr ⟨a,len,cap,zs,hv,hl,hm',hz,hcell⟩) fun W' hs hk => ⟨_,by
      rw [hv]
      have key:=fun hzz hcell' => @shut_ints H enc Tryz.prog W' 0 (fun b => decide (b < W.heap.size)) true 22 3 .i64 a len cap zs 0 (Tryz.underlying22) (Tryz.underlying3) (by kernel_rfl) (Nat.zero_le _) hl hm hzz hcell' hwf
      refine ⟨2,key ?_ ?_⟩
      · by_cases h0 : a.block < W.heap.size
        · rw [if_pos (by simpa using h0)]; exact hz
        · rw [if_neg (by simpa using h0)]
          cases zs with
          | nil => simp at hz ⊢; omega
          | cons z zs =>
            have h1:=hcell 0 (by simp)
            exfalso
            apply h0
            unfold World.cell? at h1
            split at h1
            · rename_i c el fr hb'
              exact (Array.getElem?_eq_some_iff.1 hb').1
            · cases h1
      · intro i hi
        have h1:=hcell i hi
        unfold World.cell? at h1 ⊢
        split at h1
        · rename_i c el fr hb'
          have hlt : (a.add i).block < W.heap.size:=(Array.getElem?_eq_some_iff.1 hb').1
          rw [hk _ hlt,hb']
          exact h1
        · cases h1⟩
theorem datumApart_named : Tryz.prog.funcNamed "caracole/caracolelaw01.DatumApart" = some 7:=by kernel_rfl
theorem datumApart_inst : Tryz.f7.isInstance Tryz.prog Rows.datumApartRow.origin Rows.datumApartRow.targs:=of_decide_eq_true (by kernel_rfl)
theorem datumApart_wrap : Tryz.f7.isWrapper Tryz.prog Rows.datumApartRow.wrapper Rows.datumApartRow.mainSum:=by unfold Func.isWrapper; rw [if_neg (of_decide_eq_false (by kernel_rfl))]; exact ⟨rfl,rfl⟩
theorem datumApart_holds : Rows.DatumApartSaid :=
  OpenClaim.holds_of_wide 7 Tryz.f7 rfl rfl rfl rfl rfl rfl rfl ⟨rfl,rfl,rfl,rfl,rfl⟩ rfl rfl rfl rfl rfl datumApart_named Tryz.func7 datumApart_facts
    datumApart_inst datumApart_wrap
    (fun os started H enc _ => datumApart_lifted os started H enc)
end Go.Proofs.YtodkeaoikjjneaaGreatDoor
