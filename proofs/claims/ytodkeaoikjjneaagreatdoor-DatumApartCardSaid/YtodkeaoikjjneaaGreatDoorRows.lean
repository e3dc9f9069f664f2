/-
  NARROWER THAN 'FOR EVERY INPUT', by the rows' own cells (each row's printed sentence says how): DatumListed: laid · DatumPaths: laid · DatumFound: laid · DatumReplaced: laid · DatumApart: laid · DatumSizes: laid · DatumSymbols: laid · DatumKnown: laid.
  DERIVED. THE GIVEN ROWS OF THIS SEAT. 8 by the template 'for every input the law returns true; each argument reads behind the call as it read before'; 0 by the template 'total and deterministic' (their statements: YtodkeaoikjjneaaGreatDoorTotals.lean).
  GIVEN WITH THE SEED: the statements are not yours to turn. If you find one false, say at which input.
  Laid BY PROGRAM, IN A SANDBOX (cutbox-rows.mjs): the forced cells as the released guide's own fill.sh prints them over the translation 9d21265a104ec11d… (all of the seat's roots in one cut). By AI agents, Wed Nov 11 2026. No macro, syntax, notation, axiom, sorry.
-/
import Derived.Test.YtodkeaoikjjneaaGreatDoorChecked
import GoSem.Claim
import GoSem.ClaimJoined
import GoSem.ClaimMapViews
import Derived.JoinedTies
import Derived.KernelRfl
namespace Go.Proofs.YtodkeaoikjjneaaGreatDoor
/- THE CELL 'sum', in the pinned program and in every row, IS THE sha256 OF THE DUMP (.gsa) THAT YtodkeaoikjjneaaGreatDoorProg.lean LOADS. Nothing in Lean hashes anything: it is a label: what it is worth is what the hold of that sum in a sandbox is worth. -/
noncomputable def Tryz.pinned : Pinned := { name := "ytodkeaoikjjneaagreatdoor", sum := "9d21265a104ec11d58d19848c02dfe6ef5cc31101d42b3834a32dc7c36b633b7", checked := Tryz.checked }
namespace Rows
def none {H : Type} : Left H := { results := [], args := [] }

/- WHAT THE LISTED PACKAGE-LEVEL VARIABLES READ AS WHEN THE CALL BEGINS. Each datum BY PROGRAM (the guide's laid-datum.mjs) off the statement by which the dump's own 'gosem.cut.vars' lays the variable. In a bare row this is a premise. The card (YtodkeaoikjjneaaGreatDoorCards.lean) ties it to the program's text. -/
def laid_errors_errorType {H : Type} : DataW H := .iface "internal/reflectlite.rtype" (.agg [.ptr (.lit (.string [101, 114, 114, 111, 114]))])

/-- 'caracolelaw01.DatumListed': WHATEVER THE INPUT: true; the input reads as it did. -/
def datumListedSpec : ChangeSpec := { name := "datumListed", fn := fun _ => fun
  | [d] => { results := [.lit (.bool true)], args := [d] }
  | _ => none }
def datumListedRow : OpenClaim := { program := "ytodkeaoikjjneaagreatdoor", sum := "9d21265a104ec11d58d19848c02dfe6ef5cc31101d42b3834a32dc7c36b633b7", func := "caracole/caracolelaw01.DatumListed", spec := "datumListed", inPlace := ["internal/bytealg.IndexByteString", "internal/bytealg.IndexString", "internal/reflectlite.ValueOf", "(internal/reflectlite.Value).Type", "(internal/reflectlite.Value).IsNil", "internal/reflectlite.TypeOf", "(internal/reflectlite.Value).Elem", "(internal/reflectlite.Value).Set"], unfollowed := true, recurses := true, named := ["errors.errorType", "internal/bytealg.MaxLen"], plainKeys := false, apart := false, laid := [("errors.errorType", laid_errors_errorType)] }
def DatumListedSaid : Prop := datumListedRow.holds Tryz.pinned (OpenSpec.ofChange datumListedSpec)

/-- ITS FALSE NEIGHBOUR: 'it returns false'. Refute it at one input. -/
def datumListedWrong : ChangeSpec := { name := "datumListed", fn := fun _ => fun
  | [d] => { results := [.lit (.bool false)], args := [d] }
  | _ => none }
def DatumListedWrongFalsely : Prop := datumListedRow.holds Tryz.pinned (OpenSpec.ofChange datumListedWrong)

/-- 'caracolelaw01.DatumPaths': WHATEVER THE INPUT: true; the input reads as it did. -/
def datumPathsSpec : ChangeSpec := { name := "datumPaths", fn := fun _ => fun
  | [d] => { results := [.lit (.bool true)], args := [d] }
  | _ => none }
def datumPathsRow : OpenClaim := { program := "ytodkeaoikjjneaagreatdoor", sum := "9d21265a104ec11d58d19848c02dfe6ef5cc31101d42b3834a32dc7c36b633b7", func := "caracole/caracolelaw01.DatumPaths", spec := "datumPaths", inPlace := ["internal/bytealg.IndexByteString", "internal/bytealg.IndexString", "internal/reflectlite.ValueOf", "(internal/reflectlite.Value).Type", "(internal/reflectlite.Value).IsNil", "internal/reflectlite.TypeOf", "(internal/reflectlite.Value).Elem", "(internal/reflectlite.Value).Set"], unfollowed := true, recurses := true, named := ["errors.errorType", "internal/bytealg.MaxLen"], plainKeys := false, apart := false, laid := [("errors.errorType", laid_errors_errorType)] }
def DatumPathsSaid : Prop := datumPathsRow.holds Tryz.pinned (OpenSpec.ofChange datumPathsSpec)

/-- ITS FALSE NEIGHBOUR: 'it returns false'. Refute it at one input. -/
def datumPathsWrong : ChangeSpec := { name := "datumPaths", fn := fun _ => fun
  | [d] => { results := [.lit (.bool false)], args := [d] }
  | _ => none }
def DatumPathsWrongFalsely : Prop := datumPathsRow.holds Tryz.pinned (OpenSpec.ofChange datumPathsWrong)

/-- 'caracolelaw01.DatumFound': WHATEVER THE INPUT: true; the input reads as it did. -/
def datumFoundSpec : ChangeSpec := { name := "datumFound", fn := fun _ => fun
  | [d] => { results := [.lit (.bool true)], args := [d] }
  | _ => none }
def datumFoundRow : OpenClaim := { program := "ytodkeaoikjjneaagreatdoor", sum := "9d21265a104ec11d58d19848c02dfe6ef5cc31101d42b3834a32dc7c36b633b7", func := "caracole/caracolelaw01.DatumFound", spec := "datumFound", inPlace := ["internal/bytealg.IndexByteString", "internal/bytealg.IndexString", "internal/reflectlite.ValueOf", "(internal/reflectlite.Value).Type", "(internal/reflectlite.Value).IsNil", "internal/reflectlite.TypeOf", "(internal/reflectlite.Value).Elem", "(internal/reflectlite.Value).Set"], unfollowed := true, recurses := true, named := ["errors.errorType", "internal/bytealg.MaxLen"], plainKeys := false, apart := false, laid := [("errors.errorType", laid_errors_errorType)] }
def DatumFoundSaid : Prop := datumFoundRow.holds Tryz.pinned (OpenSpec.ofChange datumFoundSpec)

/-- ITS FALSE NEIGHBOUR: 'it returns false'. Refute it at one input. -/
def datumFoundWrong : ChangeSpec := { name := "datumFound", fn := fun _ => fun
  | [d] => { results := [.lit (.bool false)], args := [d] }
  | _ => none }
def DatumFoundWrongFalsely : Prop := datumFoundRow.holds Tryz.pinned (OpenSpec.ofChange datumFoundWrong)

/-- 'caracolelaw01.DatumReplaced': WHATEVER THE INPUT: true; the input reads as it did. -/
def datumReplacedSpec : ChangeSpec := { name := "datumReplaced", fn := fun _ => fun
  | [d] => { results := [.lit (.bool true)], args := [d] }
  | _ => none }
def datumReplacedRow : OpenClaim := { program := "ytodkeaoikjjneaagreatdoor", sum := "9d21265a104ec11d58d19848c02dfe6ef5cc31101d42b3834a32dc7c36b633b7", func := "caracole/caracolelaw01.DatumReplaced", spec := "datumReplaced", inPlace := ["internal/bytealg.IndexByteString", "internal/bytealg.IndexString", "internal/reflectlite.ValueOf", "(internal/reflectlite.Value).Type", "(internal/reflectlite.Value).IsNil", "internal/reflectlite.TypeOf", "(internal/reflectlite.Value).Elem", "(internal/reflectlite.Value).Set"], unfollowed := true, recurses := true, named := ["errors.errorType", "internal/bytealg.MaxLen"], plainKeys := false, apart := false, laid := [("errors.errorType", laid_errors_errorType)] }
def DatumReplacedSaid : Prop := datumReplacedRow.holds Tryz.pinned (OpenSpec.ofChange datumReplacedSpec)

/-- ITS FALSE NEIGHBOUR: 'it returns false'. Refute it at one input. -/
def datumReplacedWrong : ChangeSpec := { name := "datumReplaced", fn := fun _ => fun
  | [d] => { results := [.lit (.bool false)], args := [d] }
  | _ => none }
def DatumReplacedWrongFalsely : Prop := datumReplacedRow.holds Tryz.pinned (OpenSpec.ofChange datumReplacedWrong)

/-- 'caracolelaw01.DatumApart': WHATEVER THE INPUT: true; the input reads as it did. -/
def datumApartSpec : ChangeSpec := { name := "datumApart", fn := fun _ => fun
  | [d] => { results := [.lit (.bool true)], args := [d] }
  | _ => none }
def datumApartRow : OpenClaim := { program := "ytodkeaoikjjneaagreatdoor", sum := "9d21265a104ec11d58d19848c02dfe6ef5cc31101d42b3834a32dc7c36b633b7", func := "caracole/caracolelaw01.DatumApart", spec := "datumApart", inPlace := ["internal/bytealg.IndexByteString", "internal/bytealg.IndexString", "internal/reflectlite.ValueOf", "(internal/reflectlite.Value).Type", "(internal/reflectlite.Value).IsNil", "internal/reflectlite.TypeOf", "(internal/reflectlite.Value).Elem", "(internal/reflectlite.Value).Set"], unfollowed := true, recurses := true, named := ["errors.errorType", "internal/bytealg.MaxLen"], plainKeys := false, apart := false, laid := [("errors.errorType", laid_errors_errorType)] }
def DatumApartSaid : Prop := datumApartRow.holds Tryz.pinned (OpenSpec.ofChange datumApartSpec)

/-- ITS FALSE NEIGHBOUR: 'it returns false'. Refute it at one input. -/
def datumApartWrong : ChangeSpec := { name := "datumApart", fn := fun _ => fun
  | [d] => { results := [.lit (.bool false)], args := [d] }
  | _ => none }
def DatumApartWrongFalsely : Prop := datumApartRow.holds Tryz.pinned (OpenSpec.ofChange datumApartWrong)

/-- 'caracolelaw01.DatumSizes': WHATEVER THE INPUT: true; the input reads as it did. -/
def datumSizesSpec : ChangeSpec := { name := "datumSizes", fn := fun _ => fun
  | [d] => { results := [.lit (.bool true)], args := [d] }
  | _ => none }
def datumSizesRow : OpenClaim := { program := "ytodkeaoikjjneaagreatdoor", sum := "9d21265a104ec11d58d19848c02dfe6ef5cc31101d42b3834a32dc7c36b633b7", func := "caracole/caracolelaw01.DatumSizes", spec := "datumSizes", inPlace := ["internal/bytealg.IndexByteString", "internal/bytealg.IndexString", "internal/reflectlite.ValueOf", "(internal/reflectlite.Value).Type", "(internal/reflectlite.Value).IsNil", "internal/reflectlite.TypeOf", "(internal/reflectlite.Value).Elem", "(internal/reflectlite.Value).Set"], unfollowed := true, recurses := true, named := ["errors.errorType", "internal/bytealg.MaxLen"], plainKeys := false, apart := false, laid := [("errors.errorType", laid_errors_errorType)] }
def DatumSizesSaid : Prop := datumSizesRow.holds Tryz.pinned (OpenSpec.ofChange datumSizesSpec)

/-- ITS FALSE NEIGHBOUR: 'it returns false'. Refute it at one input. -/
def datumSizesWrong : ChangeSpec := { name := "datumSizes", fn := fun _ => fun
  | [d] => { results := [.lit (.bool false)], args := [d] }
  | _ => none }
def DatumSizesWrongFalsely : Prop := datumSizesRow.holds Tryz.pinned (OpenSpec.ofChange datumSizesWrong)

/-- 'caracolelaw01.DatumSymbols': WHATEVER THE INPUT: true; the input reads as it did. -/
def datumSymbolsSpec : ChangeSpec := { name := "datumSymbols", fn := fun _ => fun
  | [d] => { results := [.lit (.bool true)], args := [d] }
  | _ => none }
def datumSymbolsRow : OpenClaim := { program := "ytodkeaoikjjneaagreatdoor", sum := "9d21265a104ec11d58d19848c02dfe6ef5cc31101d42b3834a32dc7c36b633b7", func := "caracole/caracolelaw01.DatumSymbols", spec := "datumSymbols", inPlace := ["internal/bytealg.IndexByteString", "internal/bytealg.IndexString", "internal/reflectlite.ValueOf", "(internal/reflectlite.Value).Type", "(internal/reflectlite.Value).IsNil", "internal/reflectlite.TypeOf", "(internal/reflectlite.Value).Elem", "(internal/reflectlite.Value).Set"], unfollowed := true, recurses := true, named := ["errors.errorType", "internal/bytealg.MaxLen"], plainKeys := false, apart := false, laid := [("errors.errorType", laid_errors_errorType)] }
def DatumSymbolsSaid : Prop := datumSymbolsRow.holds Tryz.pinned (OpenSpec.ofChange datumSymbolsSpec)

/-- ITS FALSE NEIGHBOUR: 'it returns false'. Refute it at one input. -/
def datumSymbolsWrong : ChangeSpec := { name := "datumSymbols", fn := fun _ => fun
  | [d] => { results := [.lit (.bool false)], args := [d] }
  | _ => none }
def DatumSymbolsWrongFalsely : Prop := datumSymbolsRow.holds Tryz.pinned (OpenSpec.ofChange datumSymbolsWrong)

/-- 'caracolelaw01.DatumKnown': WHATEVER THE INPUT: true; the input reads as it did. -/
def datumKnownSpec : ChangeSpec := { name := "datumKnown", fn := fun _ => fun
  | [] => { results := [.lit (.bool true)], args := [] }
  | _ => none }
def datumKnownRow : OpenClaim := { program := "ytodkeaoikjjneaagreatdoor", sum := "9d21265a104ec11d58d19848c02dfe6ef5cc31101d42b3834a32dc7c36b633b7", func := "caracole/caracolelaw01.DatumKnown", spec := "datumKnown", inPlace := ["internal/bytealg.IndexByteString", "internal/bytealg.IndexString", "internal/reflectlite.ValueOf", "(internal/reflectlite.Value).Type", "(internal/reflectlite.Value).IsNil", "internal/reflectlite.TypeOf", "(internal/reflectlite.Value).Elem", "(internal/reflectlite.Value).Set"], unfollowed := true, recurses := true, named := ["errors.errorType", "internal/bytealg.MaxLen"], plainKeys := false, apart := false, laid := [("errors.errorType", laid_errors_errorType)] }
def DatumKnownSaid : Prop := datumKnownRow.holds Tryz.pinned (OpenSpec.ofChange datumKnownSpec)

/-- ITS FALSE NEIGHBOUR: 'it returns false'. Refute it at one input. -/
def datumKnownWrong : ChangeSpec := { name := "datumKnown", fn := fun _ => fun
  | [] => { results := [.lit (.bool false)], args := [] }
  | _ => none }
def DatumKnownWrongFalsely : Prop := datumKnownRow.holds Tryz.pinned (OpenSpec.ofChange datumKnownWrong)

/- THE SECOND FORM. 'bulk': how many values and letters a reading holds, each counted each time it is reached (what is shared counts as often as it is met; a slice's spare places count too). A statement '..UptoSaid' is the law's where the arguments, and the package variables that the reading takes, are together of bulk at most 1048576: NARROWER than '..Said'. Prove '..Said' where nothing that the law and all that it calls make is longer than what came in: it says more and counts as full. Else prove '..UptoSaid'. A law counts once. -/
mutual
def uptoBulk {H : Type} : DataW H → Nat
  | .lit (.string bytes) => bytes.length + 1
  | .lit _ => 1
  | .nil => 1
  | .ptr d => uptoBulk d + 1
  | .slice elems spare => uptoBulkAll elems + uptoBulkAll spare + 1
  | .agg parts => uptoBulkAll parts + 1
  | .iface _ d => uptoBulk d + 1
  | .map entries => uptoBulkEntries entries + 1
  | .held _ => 1
def uptoBulkAll {H : Type} : List (DataW H) → Nat
  | [] => 0
  | d :: r => uptoBulk d + uptoBulkAll r
def uptoBulkEntries {H : Type} : List (Lit × DataW H) → Nat
  | [] => 0
  | x :: r => uptoBulkEntry x + uptoBulkEntries r
def uptoBulkEntry {H : Type} : Lit × DataW H → Nat
  | (.string bytes, d) => bytes.length + uptoBulk d + 1
  | (_, d) => uptoBulk d + 1
 end
def uptoSmall : (H : Type) → List (DataW H) → Bool := fun _ ds => decide (uptoBulkAll ds ≤ 1048576)
def OpenSpec.upto (s : _root_.Go.ChangeSpec) : _root_.Go.OpenSpec := { _root_.Go.OpenSpec.ofChange s with cond := some uptoSmall }

/-- 'caracolelaw01.DatumListed', WHERE WHAT IT READS IS OF BULK AT MOST 1048576: true; the input reads as it did. -/
def datumListedUptoRow : OpenClaim := { program := "ytodkeaoikjjneaagreatdoor", sum := "9d21265a104ec11d58d19848c02dfe6ef5cc31101d42b3834a32dc7c36b633b7", func := "caracole/caracolelaw01.DatumListed", spec := "datumListed", inPlace := ["internal/bytealg.IndexByteString", "internal/bytealg.IndexString", "internal/reflectlite.ValueOf", "(internal/reflectlite.Value).Type", "(internal/reflectlite.Value).IsNil", "internal/reflectlite.TypeOf", "(internal/reflectlite.Value).Elem", "(internal/reflectlite.Value).Set"], unfollowed := true, recurses := true, named := ["errors.errorType", "internal/bytealg.MaxLen"], plainKeys := false, apart := false, laid := [("errors.errorType", laid_errors_errorType)], narrowed := true }
def DatumListedUptoSaid : Prop := datumListedUptoRow.holds Tryz.pinned (OpenSpec.upto datumListedSpec)

/-- 'caracolelaw01.DatumPaths', WHERE WHAT IT READS IS OF BULK AT MOST 1048576: true; the input reads as it did. -/
def datumPathsUptoRow : OpenClaim := { program := "ytodkeaoikjjneaagreatdoor", sum := "9d21265a104ec11d58d19848c02dfe6ef5cc31101d42b3834a32dc7c36b633b7", func := "caracole/caracolelaw01.DatumPaths", spec := "datumPaths", inPlace := ["internal/bytealg.IndexByteString", "internal/bytealg.IndexString", "internal/reflectlite.ValueOf", "(internal/reflectlite.Value).Type", "(internal/reflectlite.Value).IsNil", "internal/reflectlite.TypeOf", "(internal/reflectlite.Value).Elem", "(internal/reflectlite.Value).Set"], unfollowed := true, recurses := true, named := ["errors.errorType", "internal/bytealg.MaxLen"], plainKeys := false, apart := false, laid := [("errors.errorType", laid_errors_errorType)], narrowed := true }
def DatumPathsUptoSaid : Prop := datumPathsUptoRow.holds Tryz.pinned (OpenSpec.upto datumPathsSpec)

/-- 'caracolelaw01.DatumFound', WHERE WHAT IT READS IS OF BULK AT MOST 1048576: true; the input reads as it did. -/
def datumFoundUptoRow : OpenClaim := { program := "ytodkeaoikjjneaagreatdoor", sum := "9d21265a104ec11d58d19848c02dfe6ef5cc31101d42b3834a32dc7c36b633b7", func := "caracole/caracolelaw01.DatumFound", spec := "datumFound", inPlace := ["internal/bytealg.IndexByteString", "internal/bytealg.IndexString", "internal/reflectlite.ValueOf", "(internal/reflectlite.Value).Type", "(internal/reflectlite.Value).IsNil", "internal/reflectlite.TypeOf", "(internal/reflectlite.Value).Elem", "(internal/reflectlite.Value).Set"], unfollowed := true, recurses := true, named := ["errors.errorType", "internal/bytealg.MaxLen"], plainKeys := false, apart := false, laid := [("errors.errorType", laid_errors_errorType)], narrowed := true }
def DatumFoundUptoSaid : Prop := datumFoundUptoRow.holds Tryz.pinned (OpenSpec.upto datumFoundSpec)

/-- 'caracolelaw01.DatumReplaced', WHERE WHAT IT READS IS OF BULK AT MOST 1048576: true; the input reads as it did. -/
def datumReplacedUptoRow : OpenClaim := { program := "ytodkeaoikjjneaagreatdoor", sum := "9d21265a104ec11d58d19848c02dfe6ef5cc31101d42b3834a32dc7c36b633b7", func := "caracole/caracolelaw01.DatumReplaced", spec := "datumReplaced", inPlace := ["internal/bytealg.IndexByteString", "internal/bytealg.IndexString", "internal/reflectlite.ValueOf", "(internal/reflectlite.Value).Type", "(internal/reflectlite.Value).IsNil", "internal/reflectlite.TypeOf", "(internal/reflectlite.Value).Elem", "(internal/reflectlite.Value).Set"], unfollowed := true, recurses := true, named := ["errors.errorType", "internal/bytealg.MaxLen"], plainKeys := false, apart := false, laid := [("errors.errorType", laid_errors_errorType)], narrowed := true }
def DatumReplacedUptoSaid : Prop := datumReplacedUptoRow.holds Tryz.pinned (OpenSpec.upto datumReplacedSpec)

/-- 'caracolelaw01.DatumApart', WHERE WHAT IT READS IS OF BULK AT MOST 1048576: true; the input reads as it did. -/
def datumApartUptoRow : OpenClaim := { program := "ytodkeaoikjjneaagreatdoor", sum := "9d21265a104ec11d58d19848c02dfe6ef5cc31101d42b3834a32dc7c36b633b7", func := "caracole/caracolelaw01.DatumApart", spec := "datumApart", inPlace := ["internal/bytealg.IndexByteString", "internal/bytealg.IndexString", "internal/reflectlite.ValueOf", "(internal/reflectlite.Value).Type", "(internal/reflectlite.Value).IsNil", "internal/reflectlite.TypeOf", "(internal/reflectlite.Value).Elem", "(internal/reflectlite.Value).Set"], unfollowed := true, recurses := true, named := ["errors.errorType", "internal/bytealg.MaxLen"], plainKeys := false, apart := false, laid := [("errors.errorType", laid_errors_errorType)], narrowed := true }
def DatumApartUptoSaid : Prop := datumApartUptoRow.holds Tryz.pinned (OpenSpec.upto datumApartSpec)

/-- 'caracolelaw01.DatumSizes', WHERE WHAT IT READS IS OF BULK AT MOST 1048576: true; the input reads as it did. -/
def datumSizesUptoRow : OpenClaim := { program := "ytodkeaoikjjneaagreatdoor", sum := "9d21265a104ec11d58d19848c02dfe6ef5cc31101d42b3834a32dc7c36b633b7", func := "caracole/caracolelaw01.DatumSizes", spec := "datumSizes", inPlace := ["internal/bytealg.IndexByteString", "internal/bytealg.IndexString", "internal/reflectlite.ValueOf", "(internal/reflectlite.Value).Type", "(internal/reflectlite.Value).IsNil", "internal/reflectlite.TypeOf", "(internal/reflectlite.Value).Elem", "(internal/reflectlite.Value).Set"], unfollowed := true, recurses := true, named := ["errors.errorType", "internal/bytealg.MaxLen"], plainKeys := false, apart := false, laid := [("errors.errorType", laid_errors_errorType)], narrowed := true }
def DatumSizesUptoSaid : Prop := datumSizesUptoRow.holds Tryz.pinned (OpenSpec.upto datumSizesSpec)

/-- 'caracolelaw01.DatumSymbols', WHERE WHAT IT READS IS OF BULK AT MOST 1048576: true; the input reads as it did. -/
def datumSymbolsUptoRow : OpenClaim := { program := "ytodkeaoikjjneaagreatdoor", sum := "9d21265a104ec11d58d19848c02dfe6ef5cc31101d42b3834a32dc7c36b633b7", func := "caracole/caracolelaw01.DatumSymbols", spec := "datumSymbols", inPlace := ["internal/bytealg.IndexByteString", "internal/bytealg.IndexString", "internal/reflectlite.ValueOf", "(internal/reflectlite.Value).Type", "(internal/reflectlite.Value).IsNil", "internal/reflectlite.TypeOf", "(internal/reflectlite.Value).Elem", "(internal/reflectlite.Value).Set"], unfollowed := true, recurses := true, named := ["errors.errorType", "internal/bytealg.MaxLen"], plainKeys := false, apart := false, laid := [("errors.errorType", laid_errors_errorType)], narrowed := true }
def DatumSymbolsUptoSaid : Prop := datumSymbolsUptoRow.holds Tryz.pinned (OpenSpec.upto datumSymbolsSpec)

/-- 'caracolelaw01.DatumKnown', WHERE WHAT IT READS IS OF BULK AT MOST 1048576: true; the input reads as it did. -/
def datumKnownUptoRow : OpenClaim := { program := "ytodkeaoikjjneaagreatdoor", sum := "9d21265a104ec11d58d19848c02dfe6ef5cc31101d42b3834a32dc7c36b633b7", func := "caracole/caracolelaw01.DatumKnown", spec := "datumKnown", inPlace := ["internal/bytealg.IndexByteString", "internal/bytealg.IndexString", "internal/reflectlite.ValueOf", "(internal/reflectlite.Value).Type", "(internal/reflectlite.Value).IsNil", "internal/reflectlite.TypeOf", "(internal/reflectlite.Value).Elem", "(internal/reflectlite.Value).Set"], unfollowed := true, recurses := true, named := ["errors.errorType", "internal/bytealg.MaxLen"], plainKeys := false, apart := false, laid := [("errors.errorType", laid_errors_errorType)], narrowed := true }
def DatumKnownUptoSaid : Prop := datumKnownUptoRow.holds Tryz.pinned (OpenSpec.upto datumKnownSpec)

end Rows
end Go.Proofs.YtodkeaoikjjneaaGreatDoor
