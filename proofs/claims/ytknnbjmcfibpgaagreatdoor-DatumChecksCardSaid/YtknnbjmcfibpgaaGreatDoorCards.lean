/-
  DERIVED. GIVEN WITH THE SEED: THE CARDS: each row of YtknnbjmcfibpgaaGreatDoorRows.lean that lists a variable, with what it lists TIED to the program's text (the seventh form; the later family's looks); each row that meets fmt, with fmt's text TOLD by the authors' own Lean function (tested against real Go, not proved from fmt's source: count such statements apart). THE CARD IS WHAT COUNTS. Prove the row's statement (the work); the ties are given (YtknnbjmcfibpgaaGreatDoorTie.lean); close each card by the builder's one call (the guide's Derived/Test/ToyasCard.lean, 'card_holds'). Laid BY PROGRAM, IN A SANDBOX (cutbox-door.mjs). By AI agents, Wed Nov 11 2026. No macro, syntax, notation, axiom, sorry.
-/
import Derived.Test.YtknnbjmcfibpgaaGreatDoorRows
import GoSem.ClaimSeven
namespace Go.Proofs.YtknnbjmcfibpgaaGreatDoor
namespace Rows

/-- THE TIED CARD OF 'caracolelaw01.DatumChecks'. -/
def datumChecksCard : Claim7 := { stood := { row := datumChecksRow, standIns := [], harness := (true, "293aeb57aeb07fd86202d18615cfa7256f4544d4cc1531c966b1cd59c00c05d6"), looks := true }, kinds := [], alts := [], laidByText := true, laidKinds := [.handle], laidTests := true, laidLooks := .later }
def DatumChecksCardSaid : Prop := Claim7.holds Tryz.pinned (.plain (OpenSpec.ofChange datumChecksSpec)) datumChecksCard

/-- THE TIED CARD OF 'caracolelaw01.DatumLists'. -/
def datumListsCard : Claim7 := { stood := { row := datumListsRow, standIns := [], harness := (true, "293aeb57aeb07fd86202d18615cfa7256f4544d4cc1531c966b1cd59c00c05d6"), looks := true }, kinds := [], alts := [], laidByText := true, laidKinds := [.handle], laidTests := true, laidLooks := .later }
def DatumListsCardSaid : Prop := Claim7.holds Tryz.pinned (.plain (OpenSpec.ofChange datumListsSpec)) datumListsCard

/-- THE TIED CARD OF 'caracolelaw01.DatumParts'. -/
def datumPartsCard : Claim7 := { stood := { row := datumPartsRow, standIns := [], harness := (true, "293aeb57aeb07fd86202d18615cfa7256f4544d4cc1531c966b1cd59c00c05d6"), looks := true }, kinds := [], alts := [], laidByText := true, laidKinds := [.handle], laidTests := true, laidLooks := .later }
def DatumPartsCardSaid : Prop := Claim7.holds Tryz.pinned (.plain (OpenSpec.ofChange datumPartsSpec)) datumPartsCard

/-- THE SECOND FORM's CARD OF 'caracolelaw01.DatumChecks'. -/
def datumChecksUptoCard : Claim7 := { stood := { row := datumChecksUptoRow, standIns := [], harness := (true, "293aeb57aeb07fd86202d18615cfa7256f4544d4cc1531c966b1cd59c00c05d6"), looks := true }, kinds := [], alts := [], laidByText := true, laidKinds := [.handle], laidTests := true, laidLooks := .later }
def DatumChecksUptoCardSaid : Prop := Claim7.holds Tryz.pinned (.plain (OpenSpec.upto datumChecksSpec)) datumChecksUptoCard

/-- THE SECOND FORM's CARD OF 'caracolelaw01.DatumLists'. -/
def datumListsUptoCard : Claim7 := { stood := { row := datumListsUptoRow, standIns := [], harness := (true, "293aeb57aeb07fd86202d18615cfa7256f4544d4cc1531c966b1cd59c00c05d6"), looks := true }, kinds := [], alts := [], laidByText := true, laidKinds := [.handle], laidTests := true, laidLooks := .later }
def DatumListsUptoCardSaid : Prop := Claim7.holds Tryz.pinned (.plain (OpenSpec.upto datumListsSpec)) datumListsUptoCard

/-- THE SECOND FORM's CARD OF 'caracolelaw01.DatumParts'. -/
def datumPartsUptoCard : Claim7 := { stood := { row := datumPartsUptoRow, standIns := [], harness := (true, "293aeb57aeb07fd86202d18615cfa7256f4544d4cc1531c966b1cd59c00c05d6"), looks := true }, kinds := [], alts := [], laidByText := true, laidKinds := [.handle], laidTests := true, laidLooks := .later }
def DatumPartsUptoCardSaid : Prop := Claim7.holds Tryz.pinned (.plain (OpenSpec.upto datumPartsSpec)) datumPartsUptoCard
end Rows
end Go.Proofs.YtknnbjmcfibpgaaGreatDoor
