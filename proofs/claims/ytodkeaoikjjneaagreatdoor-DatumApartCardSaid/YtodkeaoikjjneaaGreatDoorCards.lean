/-
  DERIVED. GIVEN WITH THE SEED: THE CARDS: each row of YtodkeaoikjjneaaGreatDoorRows.lean that lists a variable, with what it lists TIED to the program's text (the seventh form; the later family's looks); each row that meets fmt, with fmt's text TOLD by the authors' own Lean function (tested against real Go, not proved from fmt's source: count such statements apart). THE CARD IS WHAT COUNTS. Prove the row's statement (the work); the ties are given (YtodkeaoikjjneaaGreatDoorTie.lean); close each card by the builder's one call (the guide's Derived/Test/ToyasCard.lean, 'card_holds'). Laid BY PROGRAM, IN A SANDBOX (cutbox-door.mjs). By AI agents, Wed Nov 11 2026. No macro, syntax, notation, axiom, sorry.
-/
import Derived.Test.YtodkeaoikjjneaaGreatDoorRows
import GoSem.ClaimSeven
namespace Go.Proofs.YtodkeaoikjjneaaGreatDoor
namespace Rows

/-- THE TIED CARD OF 'caracolelaw01.DatumListed'. -/
def datumListedCard : Claim7 := { stood := { row := datumListedRow, standIns := [], harness := (true, "f408c8a54d3ab574fb67a574dc6edbdc3e40df63eaeb22a469fa9f29a1239995"), looks := true }, kinds := [], alts := [], laidByText := true, laidKinds := [.handle], laidTests := true, laidLooks := .later }
def DatumListedCardSaid : Prop := Claim7.holds Tryz.pinned (.plain (OpenSpec.ofChange datumListedSpec)) datumListedCard

/-- THE TIED CARD OF 'caracolelaw01.DatumPaths'. -/
def datumPathsCard : Claim7 := { stood := { row := datumPathsRow, standIns := [], harness := (true, "f408c8a54d3ab574fb67a574dc6edbdc3e40df63eaeb22a469fa9f29a1239995"), looks := true }, kinds := [], alts := [], laidByText := true, laidKinds := [.handle], laidTests := true, laidLooks := .later }
def DatumPathsCardSaid : Prop := Claim7.holds Tryz.pinned (.plain (OpenSpec.ofChange datumPathsSpec)) datumPathsCard

/-- THE TIED CARD OF 'caracolelaw01.DatumFound'. -/
def datumFoundCard : Claim7 := { stood := { row := datumFoundRow, standIns := [], harness := (true, "f408c8a54d3ab574fb67a574dc6edbdc3e40df63eaeb22a469fa9f29a1239995"), looks := true }, kinds := [], alts := [], laidByText := true, laidKinds := [.handle], laidTests := true, laidLooks := .later }
def DatumFoundCardSaid : Prop := Claim7.holds Tryz.pinned (.plain (OpenSpec.ofChange datumFoundSpec)) datumFoundCard

/-- THE TIED CARD OF 'caracolelaw01.DatumReplaced'. -/
def datumReplacedCard : Claim7 := { stood := { row := datumReplacedRow, standIns := [], harness := (true, "f408c8a54d3ab574fb67a574dc6edbdc3e40df63eaeb22a469fa9f29a1239995"), looks := true }, kinds := [], alts := [], laidByText := true, laidKinds := [.handle], laidTests := true, laidLooks := .later }
def DatumReplacedCardSaid : Prop := Claim7.holds Tryz.pinned (.plain (OpenSpec.ofChange datumReplacedSpec)) datumReplacedCard

/-- THE TIED CARD OF 'caracolelaw01.DatumApart'. -/
def datumApartCard : Claim7 := { stood := { row := datumApartRow, standIns := [], harness := (true, "f408c8a54d3ab574fb67a574dc6edbdc3e40df63eaeb22a469fa9f29a1239995"), looks := true }, kinds := [], alts := [], laidByText := true, laidKinds := [.handle], laidTests := true, laidLooks := .later }
def DatumApartCardSaid : Prop := Claim7.holds Tryz.pinned (.plain (OpenSpec.ofChange datumApartSpec)) datumApartCard

/-- THE TIED CARD OF 'caracolelaw01.DatumSizes'. -/
def datumSizesCard : Claim7 := { stood := { row := datumSizesRow, standIns := [], harness := (true, "f408c8a54d3ab574fb67a574dc6edbdc3e40df63eaeb22a469fa9f29a1239995"), looks := true }, kinds := [], alts := [], laidByText := true, laidKinds := [.handle], laidTests := true, laidLooks := .later }
def DatumSizesCardSaid : Prop := Claim7.holds Tryz.pinned (.plain (OpenSpec.ofChange datumSizesSpec)) datumSizesCard

/-- THE TIED CARD OF 'caracolelaw01.DatumSymbols'. -/
def datumSymbolsCard : Claim7 := { stood := { row := datumSymbolsRow, standIns := [], harness := (true, "f408c8a54d3ab574fb67a574dc6edbdc3e40df63eaeb22a469fa9f29a1239995"), looks := true }, kinds := [], alts := [], laidByText := true, laidKinds := [.handle], laidTests := true, laidLooks := .later }
def DatumSymbolsCardSaid : Prop := Claim7.holds Tryz.pinned (.plain (OpenSpec.ofChange datumSymbolsSpec)) datumSymbolsCard

/-- THE TIED CARD OF 'caracolelaw01.DatumKnown'. -/
def datumKnownCard : Claim7 := { stood := { row := datumKnownRow, standIns := [], harness := (true, "f408c8a54d3ab574fb67a574dc6edbdc3e40df63eaeb22a469fa9f29a1239995"), looks := true }, kinds := [], alts := [], laidByText := true, laidKinds := [.handle], laidTests := true, laidLooks := .later }
def DatumKnownCardSaid : Prop := Claim7.holds Tryz.pinned (.plain (OpenSpec.ofChange datumKnownSpec)) datumKnownCard

/-- THE SECOND FORM's CARD OF 'caracolelaw01.DatumListed'. -/
def datumListedUptoCard : Claim7 := { stood := { row := datumListedUptoRow, standIns := [], harness := (true, "f408c8a54d3ab574fb67a574dc6edbdc3e40df63eaeb22a469fa9f29a1239995"), looks := true }, kinds := [], alts := [], laidByText := true, laidKinds := [.handle], laidTests := true, laidLooks := .later }
def DatumListedUptoCardSaid : Prop := Claim7.holds Tryz.pinned (.plain (OpenSpec.upto datumListedSpec)) datumListedUptoCard

/-- THE SECOND FORM's CARD OF 'caracolelaw01.DatumPaths'. -/
def datumPathsUptoCard : Claim7 := { stood := { row := datumPathsUptoRow, standIns := [], harness := (true, "f408c8a54d3ab574fb67a574dc6edbdc3e40df63eaeb22a469fa9f29a1239995"), looks := true }, kinds := [], alts := [], laidByText := true, laidKinds := [.handle], laidTests := true, laidLooks := .later }
def DatumPathsUptoCardSaid : Prop := Claim7.holds Tryz.pinned (.plain (OpenSpec.upto datumPathsSpec)) datumPathsUptoCard

/-- THE SECOND FORM's CARD OF 'caracolelaw01.DatumFound'. -/
def datumFoundUptoCard : Claim7 := { stood := { row := datumFoundUptoRow, standIns := [], harness := (true, "f408c8a54d3ab574fb67a574dc6edbdc3e40df63eaeb22a469fa9f29a1239995"), looks := true }, kinds := [], alts := [], laidByText := true, laidKinds := [.handle], laidTests := true, laidLooks := .later }
def DatumFoundUptoCardSaid : Prop := Claim7.holds Tryz.pinned (.plain (OpenSpec.upto datumFoundSpec)) datumFoundUptoCard

/-- THE SECOND FORM's CARD OF 'caracolelaw01.DatumReplaced'. -/
def datumReplacedUptoCard : Claim7 := { stood := { row := datumReplacedUptoRow, standIns := [], harness := (true, "f408c8a54d3ab574fb67a574dc6edbdc3e40df63eaeb22a469fa9f29a1239995"), looks := true }, kinds := [], alts := [], laidByText := true, laidKinds := [.handle], laidTests := true, laidLooks := .later }
def DatumReplacedUptoCardSaid : Prop := Claim7.holds Tryz.pinned (.plain (OpenSpec.upto datumReplacedSpec)) datumReplacedUptoCard

/-- THE SECOND FORM's CARD OF 'caracolelaw01.DatumApart'. -/
def datumApartUptoCard : Claim7 := { stood := { row := datumApartUptoRow, standIns := [], harness := (true, "f408c8a54d3ab574fb67a574dc6edbdc3e40df63eaeb22a469fa9f29a1239995"), looks := true }, kinds := [], alts := [], laidByText := true, laidKinds := [.handle], laidTests := true, laidLooks := .later }
def DatumApartUptoCardSaid : Prop := Claim7.holds Tryz.pinned (.plain (OpenSpec.upto datumApartSpec)) datumApartUptoCard

/-- THE SECOND FORM's CARD OF 'caracolelaw01.DatumSizes'. -/
def datumSizesUptoCard : Claim7 := { stood := { row := datumSizesUptoRow, standIns := [], harness := (true, "f408c8a54d3ab574fb67a574dc6edbdc3e40df63eaeb22a469fa9f29a1239995"), looks := true }, kinds := [], alts := [], laidByText := true, laidKinds := [.handle], laidTests := true, laidLooks := .later }
def DatumSizesUptoCardSaid : Prop := Claim7.holds Tryz.pinned (.plain (OpenSpec.upto datumSizesSpec)) datumSizesUptoCard

/-- THE SECOND FORM's CARD OF 'caracolelaw01.DatumSymbols'. -/
def datumSymbolsUptoCard : Claim7 := { stood := { row := datumSymbolsUptoRow, standIns := [], harness := (true, "f408c8a54d3ab574fb67a574dc6edbdc3e40df63eaeb22a469fa9f29a1239995"), looks := true }, kinds := [], alts := [], laidByText := true, laidKinds := [.handle], laidTests := true, laidLooks := .later }
def DatumSymbolsUptoCardSaid : Prop := Claim7.holds Tryz.pinned (.plain (OpenSpec.upto datumSymbolsSpec)) datumSymbolsUptoCard

/-- THE SECOND FORM's CARD OF 'caracolelaw01.DatumKnown'. -/
def datumKnownUptoCard : Claim7 := { stood := { row := datumKnownUptoRow, standIns := [], harness := (true, "f408c8a54d3ab574fb67a574dc6edbdc3e40df63eaeb22a469fa9f29a1239995"), looks := true }, kinds := [], alts := [], laidByText := true, laidKinds := [.handle], laidTests := true, laidLooks := .later }
def DatumKnownUptoCardSaid : Prop := Claim7.holds Tryz.pinned (.plain (OpenSpec.upto datumKnownSpec)) datumKnownUptoCard
end Rows
end Go.Proofs.YtodkeaoikjjneaaGreatDoor
