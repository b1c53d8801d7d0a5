/-
  DERIVED. GIVEN WITH THE SEED: THE CARDS: each row of YtlhbfgkcalalkaaGreatDoorRows.lean that lists a variable, with what it lists TIED to the program's text (the seventh form; the later family's looks); each row that meets fmt, with fmt's text TOLD by the authors' own Lean function (tested against real Go, not proved from fmt's source: count such statements apart). THE CARD IS WHAT COUNTS. Prove the row's statement (the work); the ties are given (YtlhbfgkcalalkaaGreatDoorTie.lean); close each card by the builder's one call (the guide's Derived/Test/ToyasCard.lean, 'card_holds'). Laid BY PROGRAM, IN A SANDBOX (cutbox-door.mjs). By AI agents, Wed Nov 11 2026. No macro, syntax, notation, axiom, sorry.
-/
import Derived.Test.YtlhbfgkcalalkaaGreatDoorRows
import GoSem.ClaimSeven
namespace Go.Proofs.YtlhbfgkcalalkaaGreatDoor
namespace Rows

/-- THE TIED CARD OF 'dripstonelaw01.LexScans'. -/
def lexScansCard : Claim7 := { stood := { row := lexScansRow, standIns := [], harness := (true, "75e2eb0655e7a28cff119c2c29b9b4b552107fe625b6fffcbf2acd4d9ed45af4"), looks := true }, kinds := [], alts := [], laidByText := true, laidKinds := [.data, .data, .data, .data, .sentinel, .sentinel, .pinned], laidTests := true, laidLooks := .later }
def LexScansCardSaid : Prop := Claim7.holds Tryz.pinned (.plain (OpenSpec.ofChange lexScansSpec)) lexScansCard

/-- THE TIED CARD OF 'dripstonelaw01.LexJoins'. -/
def lexJoinsCard : Claim7 := { stood := { row := lexJoinsRow, standIns := [], harness := (true, "75e2eb0655e7a28cff119c2c29b9b4b552107fe625b6fffcbf2acd4d9ed45af4"), looks := true }, kinds := [], alts := [], laidByText := true, laidKinds := [.data, .data, .data, .data, .sentinel, .sentinel, .pinned], laidTests := true, laidLooks := .later }
def LexJoinsCardSaid : Prop := Claim7.holds Tryz.pinned (.plain (OpenSpec.ofChange lexJoinsSpec)) lexJoinsCard

/-- THE TIED CARD OF 'dripstonelaw01.LexPlaces'. -/
def lexPlacesCard : Claim7 := { stood := { row := lexPlacesRow, standIns := [], harness := (true, "75e2eb0655e7a28cff119c2c29b9b4b552107fe625b6fffcbf2acd4d9ed45af4"), looks := true }, kinds := [], alts := [], laidByText := true, laidKinds := [.data, .data, .data, .data, .sentinel, .sentinel, .pinned], laidTests := true, laidLooks := .later }
def LexPlacesCardSaid : Prop := Claim7.holds Tryz.pinned (.plain (OpenSpec.ofChange lexPlacesSpec)) lexPlacesCard

/-- THE TIED CARD OF 'dripstonelaw01.LexRescans'. -/
def lexRescansCard : Claim7 := { stood := { row := lexRescansRow, standIns := [], harness := (true, "75e2eb0655e7a28cff119c2c29b9b4b552107fe625b6fffcbf2acd4d9ed45af4"), looks := true }, kinds := [], alts := [], laidByText := true, laidKinds := [.data, .data, .data, .data, .sentinel, .sentinel, .pinned], laidTests := true, laidLooks := .later }
def LexRescansCardSaid : Prop := Claim7.holds Tryz.pinned (.plain (OpenSpec.ofChange lexRescansSpec)) lexRescansCard

/-- THE TIED CARD OF 'dripstonelaw01.LexPlaced'. -/
def lexPlacedCard : Claim7 := { stood := { row := lexPlacedRow, standIns := [], harness := (true, "75e2eb0655e7a28cff119c2c29b9b4b552107fe625b6fffcbf2acd4d9ed45af4"), looks := true }, kinds := [], alts := [], laidByText := true, laidKinds := [.data, .data, .data, .data, .sentinel, .sentinel, .pinned], laidTests := true, laidLooks := .later }
def LexPlacedCardSaid : Prop := Claim7.holds Tryz.pinned (.plain (OpenSpec.ofChange lexPlacedSpec)) lexPlacedCard

/-- THE SECOND FORM's CARD OF 'dripstonelaw01.LexScans'. -/
def lexScansUptoCard : Claim7 := { stood := { row := lexScansUptoRow, standIns := [], harness := (true, "75e2eb0655e7a28cff119c2c29b9b4b552107fe625b6fffcbf2acd4d9ed45af4"), looks := true }, kinds := [], alts := [], laidByText := true, laidKinds := [.data, .data, .data, .data, .sentinel, .sentinel, .pinned], laidTests := true, laidLooks := .later }
def LexScansUptoCardSaid : Prop := Claim7.holds Tryz.pinned (.plain (OpenSpec.upto lexScansSpec)) lexScansUptoCard

/-- THE SECOND FORM's CARD OF 'dripstonelaw01.LexJoins'. -/
def lexJoinsUptoCard : Claim7 := { stood := { row := lexJoinsUptoRow, standIns := [], harness := (true, "75e2eb0655e7a28cff119c2c29b9b4b552107fe625b6fffcbf2acd4d9ed45af4"), looks := true }, kinds := [], alts := [], laidByText := true, laidKinds := [.data, .data, .data, .data, .sentinel, .sentinel, .pinned], laidTests := true, laidLooks := .later }
def LexJoinsUptoCardSaid : Prop := Claim7.holds Tryz.pinned (.plain (OpenSpec.upto lexJoinsSpec)) lexJoinsUptoCard

/-- THE SECOND FORM's CARD OF 'dripstonelaw01.LexPlaces'. -/
def lexPlacesUptoCard : Claim7 := { stood := { row := lexPlacesUptoRow, standIns := [], harness := (true, "75e2eb0655e7a28cff119c2c29b9b4b552107fe625b6fffcbf2acd4d9ed45af4"), looks := true }, kinds := [], alts := [], laidByText := true, laidKinds := [.data, .data, .data, .data, .sentinel, .sentinel, .pinned], laidTests := true, laidLooks := .later }
def LexPlacesUptoCardSaid : Prop := Claim7.holds Tryz.pinned (.plain (OpenSpec.upto lexPlacesSpec)) lexPlacesUptoCard

/-- THE SECOND FORM's CARD OF 'dripstonelaw01.LexRescans'. -/
def lexRescansUptoCard : Claim7 := { stood := { row := lexRescansUptoRow, standIns := [], harness := (true, "75e2eb0655e7a28cff119c2c29b9b4b552107fe625b6fffcbf2acd4d9ed45af4"), looks := true }, kinds := [], alts := [], laidByText := true, laidKinds := [.data, .data, .data, .data, .sentinel, .sentinel, .pinned], laidTests := true, laidLooks := .later }
def LexRescansUptoCardSaid : Prop := Claim7.holds Tryz.pinned (.plain (OpenSpec.upto lexRescansSpec)) lexRescansUptoCard

/-- THE SECOND FORM's CARD OF 'dripstonelaw01.LexPlaced'. -/
def lexPlacedUptoCard : Claim7 := { stood := { row := lexPlacedUptoRow, standIns := [], harness := (true, "75e2eb0655e7a28cff119c2c29b9b4b552107fe625b6fffcbf2acd4d9ed45af4"), looks := true }, kinds := [], alts := [], laidByText := true, laidKinds := [.data, .data, .data, .data, .sentinel, .sentinel, .pinned], laidTests := true, laidLooks := .later }
def LexPlacedUptoCardSaid : Prop := Claim7.holds Tryz.pinned (.plain (OpenSpec.upto lexPlacedSpec)) lexPlacedUptoCard
end Rows
end Go.Proofs.YtlhbfgkcalalkaaGreatDoor
