/-
  DERIVED. GIVEN WITH THE SEED: THE CARDS: each row of YthojmbjflcanfabGreatDoorRows.lean that lists a variable, with what it lists TIED to the program's text (the seventh form; the later family's looks); each row that meets fmt, with fmt's text TOLD by the authors' own Lean function (tested against real Go, not proved from fmt's source: count such statements apart). THE CARD IS WHAT COUNTS. Prove the row's statement (the work); the ties are given (YthojmbjflcanfabGreatDoorTie.lean); close each card by the builder's one call (the guide's Derived/Test/ToyasCard.lean, 'card_holds'). Laid BY PROGRAM, IN A SANDBOX (cutbox-door.mjs). By AI agents, Wed Nov 11 2026. No macro, syntax, notation, axiom, sorry.
-/
import Derived.Test.YthojmbjflcanfabGreatDoorRows
import GoSem.ClaimSeven
namespace Go.Proofs.YthojmbjflcanfabGreatDoor
namespace Rows

/-- THE TIED CARD OF 'caracolelaw02.GraphChecks'. -/
def graphChecksCard : Claim7 := { stood := { row := graphChecksRow, standIns := [], harness := (true, "c41a92e4a7604dcd06c5a5ad2cba269d83bc0cc536f8c68f90f67d64559d54e0"), looks := true }, kinds := [], alts := [], laidByText := true, laidKinds := [.handle], laidTests := true, laidLooks := .later }
def GraphChecksCardSaid : Prop := Claim7.holds Tryz.pinned (.plain (OpenSpec.ofChange graphChecksSpec)) graphChecksCard

/-- THE TIED CARD OF 'caracolelaw02.GraphOfs'. -/
def graphOfsCard : Claim7 := { stood := { row := graphOfsRow, standIns := [], harness := (true, "c41a92e4a7604dcd06c5a5ad2cba269d83bc0cc536f8c68f90f67d64559d54e0"), looks := true }, kinds := [], alts := [], laidByText := true, laidKinds := [.handle], laidTests := true, laidLooks := .later }
def GraphOfsCardSaid : Prop := Claim7.holds Tryz.pinned (.plain (OpenSpec.ofChange graphOfsSpec)) graphOfsCard

/-- THE TIED CARD OF 'caracolelaw02.GraphTrees'. -/
def graphTreesCard : Claim7 := { stood := { row := graphTreesRow, standIns := [], harness := (true, "c41a92e4a7604dcd06c5a5ad2cba269d83bc0cc536f8c68f90f67d64559d54e0"), looks := true }, kinds := [], alts := [], laidByText := true, laidKinds := [.handle], laidTests := true, laidLooks := .later }
def GraphTreesCardSaid : Prop := Claim7.holds Tryz.pinned (.plain (OpenSpec.ofChange graphTreesSpec)) graphTreesCard

/-- THE TIED CARD OF 'caracolelaw02.GraphSames'. -/
def graphSamesCard : Claim7 := { stood := { row := graphSamesRow, standIns := [], harness := (true, "c41a92e4a7604dcd06c5a5ad2cba269d83bc0cc536f8c68f90f67d64559d54e0"), looks := true }, kinds := [], alts := [], laidByText := true, laidKinds := [.handle], laidTests := true, laidLooks := .later }
def GraphSamesCardSaid : Prop := Claim7.holds Tryz.pinned (.plain (OpenSpec.ofChange graphSamesSpec)) graphSamesCard

/-- THE TIED CARD OF 'caracolelaw02.GraphParts'. -/
def graphPartsCard : Claim7 := { stood := { row := graphPartsRow, standIns := [], harness := (true, "c41a92e4a7604dcd06c5a5ad2cba269d83bc0cc536f8c68f90f67d64559d54e0"), looks := true }, kinds := [], alts := [], laidByText := true, laidKinds := [.handle], laidTests := true, laidLooks := .later }
def GraphPartsCardSaid : Prop := Claim7.holds Tryz.pinned (.plain (OpenSpec.ofChange graphPartsSpec)) graphPartsCard

/-- THE TIED CARD OF 'caracolelaw02.GraphKnown'. -/
def graphKnownCard : Claim7 := { stood := { row := graphKnownRow, standIns := [], harness := (true, "c41a92e4a7604dcd06c5a5ad2cba269d83bc0cc536f8c68f90f67d64559d54e0"), looks := true }, kinds := [], alts := [], laidByText := true, laidKinds := [.handle], laidTests := true, laidLooks := .later }
def GraphKnownCardSaid : Prop := Claim7.holds Tryz.pinned (.plain (OpenSpec.ofChange graphKnownSpec)) graphKnownCard

/-- THE TIED CARD OF 'caracolelaw02.GraphLeast'. -/
def graphLeastCard : Claim7 := { stood := { row := graphLeastRow, standIns := [], harness := (true, "c41a92e4a7604dcd06c5a5ad2cba269d83bc0cc536f8c68f90f67d64559d54e0"), looks := true }, kinds := [], alts := [], laidByText := true, laidKinds := [.handle], laidTests := true, laidLooks := .later }
def GraphLeastCardSaid : Prop := Claim7.holds Tryz.pinned (.plain (OpenSpec.ofChange graphLeastSpec)) graphLeastCard

/-- THE TIED CARD OF 'caracolelaw02.GraphSame'. -/
def graphSameCard : Claim7 := { stood := { row := graphSameRow, standIns := [], harness := (true, "c41a92e4a7604dcd06c5a5ad2cba269d83bc0cc536f8c68f90f67d64559d54e0"), looks := true }, kinds := [], alts := [], laidByText := true, laidKinds := [.handle], laidTests := true, laidLooks := .later }
def GraphSameCardSaid : Prop := Claim7.holds Tryz.pinned (.plain (OpenSpec.ofChange graphSameSpec)) graphSameCard

/-- THE TIED CARD OF 'caracolelaw02.GraphApart'. -/
def graphApartCard : Claim7 := { stood := { row := graphApartRow, standIns := [], harness := (true, "c41a92e4a7604dcd06c5a5ad2cba269d83bc0cc536f8c68f90f67d64559d54e0"), looks := true }, kinds := [], alts := [], laidByText := true, laidKinds := [.handle], laidTests := true, laidLooks := .later }
def GraphApartCardSaid : Prop := Claim7.holds Tryz.pinned (.plain (OpenSpec.ofChange graphApartSpec)) graphApartCard

/-- THE TIED CARD OF 'caracolelaw02.GraphTree'. -/
def graphTreeCard : Claim7 := { stood := { row := graphTreeRow, standIns := [], harness := (true, "c41a92e4a7604dcd06c5a5ad2cba269d83bc0cc536f8c68f90f67d64559d54e0"), looks := true }, kinds := [], alts := [], laidByText := true, laidKinds := [.handle], laidTests := true, laidLooks := .later }
def GraphTreeCardSaid : Prop := Claim7.holds Tryz.pinned (.plain (OpenSpec.ofChange graphTreeSpec)) graphTreeCard

/-- THE TIED CARD OF 'caracolelaw02.GraphShared'. -/
def graphSharedCard : Claim7 := { stood := { row := graphSharedRow, standIns := [], harness := (true, "c41a92e4a7604dcd06c5a5ad2cba269d83bc0cc536f8c68f90f67d64559d54e0"), looks := true }, kinds := [], alts := [], laidByText := true, laidKinds := [.handle], laidTests := true, laidLooks := .later }
def GraphSharedCardSaid : Prop := Claim7.holds Tryz.pinned (.plain (OpenSpec.ofChange graphSharedSpec)) graphSharedCard

/-- THE TIED CARD OF 'caracolelaw02.GraphCyclic'. -/
def graphCyclicCard : Claim7 := { stood := { row := graphCyclicRow, standIns := [], harness := (true, "c41a92e4a7604dcd06c5a5ad2cba269d83bc0cc536f8c68f90f67d64559d54e0"), looks := true }, kinds := [], alts := [], laidByText := true, laidKinds := [.handle], laidTests := true, laidLooks := .later }
def GraphCyclicCardSaid : Prop := Claim7.holds Tryz.pinned (.plain (OpenSpec.ofChange graphCyclicSpec)) graphCyclicCard

/-- THE TIED CARD OF 'caracolelaw02.GraphSet'. -/
def graphSetCard : Claim7 := { stood := { row := graphSetRow, standIns := [], harness := (true, "c41a92e4a7604dcd06c5a5ad2cba269d83bc0cc536f8c68f90f67d64559d54e0"), looks := true }, kinds := [], alts := [], laidByText := true, laidKinds := [.handle], laidTests := true, laidLooks := .later }
def GraphSetCardSaid : Prop := Claim7.holds Tryz.pinned (.plain (OpenSpec.ofChange graphSetSpec)) graphSetCard

/-- THE SECOND FORM's CARD OF 'caracolelaw02.GraphChecks'. -/
def graphChecksUptoCard : Claim7 := { stood := { row := graphChecksUptoRow, standIns := [], harness := (true, "c41a92e4a7604dcd06c5a5ad2cba269d83bc0cc536f8c68f90f67d64559d54e0"), looks := true }, kinds := [], alts := [], laidByText := true, laidKinds := [.handle], laidTests := true, laidLooks := .later }
def GraphChecksUptoCardSaid : Prop := Claim7.holds Tryz.pinned (.plain (OpenSpec.upto graphChecksSpec)) graphChecksUptoCard

/-- THE SECOND FORM's CARD OF 'caracolelaw02.GraphOfs'. -/
def graphOfsUptoCard : Claim7 := { stood := { row := graphOfsUptoRow, standIns := [], harness := (true, "c41a92e4a7604dcd06c5a5ad2cba269d83bc0cc536f8c68f90f67d64559d54e0"), looks := true }, kinds := [], alts := [], laidByText := true, laidKinds := [.handle], laidTests := true, laidLooks := .later }
def GraphOfsUptoCardSaid : Prop := Claim7.holds Tryz.pinned (.plain (OpenSpec.upto graphOfsSpec)) graphOfsUptoCard

/-- THE SECOND FORM's CARD OF 'caracolelaw02.GraphTrees'. -/
def graphTreesUptoCard : Claim7 := { stood := { row := graphTreesUptoRow, standIns := [], harness := (true, "c41a92e4a7604dcd06c5a5ad2cba269d83bc0cc536f8c68f90f67d64559d54e0"), looks := true }, kinds := [], alts := [], laidByText := true, laidKinds := [.handle], laidTests := true, laidLooks := .later }
def GraphTreesUptoCardSaid : Prop := Claim7.holds Tryz.pinned (.plain (OpenSpec.upto graphTreesSpec)) graphTreesUptoCard

/-- THE SECOND FORM's CARD OF 'caracolelaw02.GraphSames'. -/
def graphSamesUptoCard : Claim7 := { stood := { row := graphSamesUptoRow, standIns := [], harness := (true, "c41a92e4a7604dcd06c5a5ad2cba269d83bc0cc536f8c68f90f67d64559d54e0"), looks := true }, kinds := [], alts := [], laidByText := true, laidKinds := [.handle], laidTests := true, laidLooks := .later }
def GraphSamesUptoCardSaid : Prop := Claim7.holds Tryz.pinned (.plain (OpenSpec.upto graphSamesSpec)) graphSamesUptoCard

/-- THE SECOND FORM's CARD OF 'caracolelaw02.GraphParts'. -/
def graphPartsUptoCard : Claim7 := { stood := { row := graphPartsUptoRow, standIns := [], harness := (true, "c41a92e4a7604dcd06c5a5ad2cba269d83bc0cc536f8c68f90f67d64559d54e0"), looks := true }, kinds := [], alts := [], laidByText := true, laidKinds := [.handle], laidTests := true, laidLooks := .later }
def GraphPartsUptoCardSaid : Prop := Claim7.holds Tryz.pinned (.plain (OpenSpec.upto graphPartsSpec)) graphPartsUptoCard

/-- THE SECOND FORM's CARD OF 'caracolelaw02.GraphKnown'. -/
def graphKnownUptoCard : Claim7 := { stood := { row := graphKnownUptoRow, standIns := [], harness := (true, "c41a92e4a7604dcd06c5a5ad2cba269d83bc0cc536f8c68f90f67d64559d54e0"), looks := true }, kinds := [], alts := [], laidByText := true, laidKinds := [.handle], laidTests := true, laidLooks := .later }
def GraphKnownUptoCardSaid : Prop := Claim7.holds Tryz.pinned (.plain (OpenSpec.upto graphKnownSpec)) graphKnownUptoCard

/-- THE SECOND FORM's CARD OF 'caracolelaw02.GraphLeast'. -/
def graphLeastUptoCard : Claim7 := { stood := { row := graphLeastUptoRow, standIns := [], harness := (true, "c41a92e4a7604dcd06c5a5ad2cba269d83bc0cc536f8c68f90f67d64559d54e0"), looks := true }, kinds := [], alts := [], laidByText := true, laidKinds := [.handle], laidTests := true, laidLooks := .later }
def GraphLeastUptoCardSaid : Prop := Claim7.holds Tryz.pinned (.plain (OpenSpec.upto graphLeastSpec)) graphLeastUptoCard

/-- THE SECOND FORM's CARD OF 'caracolelaw02.GraphSame'. -/
def graphSameUptoCard : Claim7 := { stood := { row := graphSameUptoRow, standIns := [], harness := (true, "c41a92e4a7604dcd06c5a5ad2cba269d83bc0cc536f8c68f90f67d64559d54e0"), looks := true }, kinds := [], alts := [], laidByText := true, laidKinds := [.handle], laidTests := true, laidLooks := .later }
def GraphSameUptoCardSaid : Prop := Claim7.holds Tryz.pinned (.plain (OpenSpec.upto graphSameSpec)) graphSameUptoCard

/-- THE SECOND FORM's CARD OF 'caracolelaw02.GraphApart'. -/
def graphApartUptoCard : Claim7 := { stood := { row := graphApartUptoRow, standIns := [], harness := (true, "c41a92e4a7604dcd06c5a5ad2cba269d83bc0cc536f8c68f90f67d64559d54e0"), looks := true }, kinds := [], alts := [], laidByText := true, laidKinds := [.handle], laidTests := true, laidLooks := .later }
def GraphApartUptoCardSaid : Prop := Claim7.holds Tryz.pinned (.plain (OpenSpec.upto graphApartSpec)) graphApartUptoCard

/-- THE SECOND FORM's CARD OF 'caracolelaw02.GraphTree'. -/
def graphTreeUptoCard : Claim7 := { stood := { row := graphTreeUptoRow, standIns := [], harness := (true, "c41a92e4a7604dcd06c5a5ad2cba269d83bc0cc536f8c68f90f67d64559d54e0"), looks := true }, kinds := [], alts := [], laidByText := true, laidKinds := [.handle], laidTests := true, laidLooks := .later }
def GraphTreeUptoCardSaid : Prop := Claim7.holds Tryz.pinned (.plain (OpenSpec.upto graphTreeSpec)) graphTreeUptoCard

/-- THE SECOND FORM's CARD OF 'caracolelaw02.GraphShared'. -/
def graphSharedUptoCard : Claim7 := { stood := { row := graphSharedUptoRow, standIns := [], harness := (true, "c41a92e4a7604dcd06c5a5ad2cba269d83bc0cc536f8c68f90f67d64559d54e0"), looks := true }, kinds := [], alts := [], laidByText := true, laidKinds := [.handle], laidTests := true, laidLooks := .later }
def GraphSharedUptoCardSaid : Prop := Claim7.holds Tryz.pinned (.plain (OpenSpec.upto graphSharedSpec)) graphSharedUptoCard

/-- THE SECOND FORM's CARD OF 'caracolelaw02.GraphCyclic'. -/
def graphCyclicUptoCard : Claim7 := { stood := { row := graphCyclicUptoRow, standIns := [], harness := (true, "c41a92e4a7604dcd06c5a5ad2cba269d83bc0cc536f8c68f90f67d64559d54e0"), looks := true }, kinds := [], alts := [], laidByText := true, laidKinds := [.handle], laidTests := true, laidLooks := .later }
def GraphCyclicUptoCardSaid : Prop := Claim7.holds Tryz.pinned (.plain (OpenSpec.upto graphCyclicSpec)) graphCyclicUptoCard

/-- THE SECOND FORM's CARD OF 'caracolelaw02.GraphSet'. -/
def graphSetUptoCard : Claim7 := { stood := { row := graphSetUptoRow, standIns := [], harness := (true, "c41a92e4a7604dcd06c5a5ad2cba269d83bc0cc536f8c68f90f67d64559d54e0"), looks := true }, kinds := [], alts := [], laidByText := true, laidKinds := [.handle], laidTests := true, laidLooks := .later }
def GraphSetUptoCardSaid : Prop := Claim7.holds Tryz.pinned (.plain (OpenSpec.upto graphSetSpec)) graphSetUptoCard
end Rows
end Go.Proofs.YthojmbjflcanfabGreatDoor
