/-
  DERIVED. GIVEN WITH THE SEED: THE CARDS: each row of YtjbheilhmnaikabDoorRows.lean that lists a variable, with what it lists TIED to the program's text (the seventh form; the later family's looks); each row that meets fmt, with fmt's text TOLD by the authors' own Lean function (tested against real Go, not proved from fmt's source: count such statements apart). THE CARD IS WHAT COUNTS. Prove the row's statement (the work); the ties are given (YtjbheilhmnaikabDoorTie.lean); close each card by the builder's one call (the guide's Derived/Test/ToyasCard.lean, 'card_holds'). Laid BY PROGRAM, IN A SANDBOX (cutbox-door.mjs). By AI agents, Wed Nov 11 2026. No macro, syntax, notation, axiom, sorry.
-/
import Derived.Test.YtjbheilhmnaikabDoorRows
import GoSem.ClaimSeven
namespace Go.Proofs.YtjbheilhmnaikabDoor
namespace Rows

/-- THE TIED CARD OF 'dripstonelaw01.LexDiffed'. -/
def lexDiffedCard : Claim7 := { stood := { row := lexDiffedRow, standIns := [], harness := (true, "805b833043dd3e90df7791522d374063342357f6c9720a3a127675f0bf1aa531"), looks := true }, kinds := [], alts := [], laidByText := true, laidKinds := [.data, .data, .data, .data, .sentinel, .sentinel, .pinned], laidTests := true, laidLooks := .later }
def LexDiffedCardSaid : Prop := Claim7.holds Tryd.pinned (.plain (OpenSpec.ofChange lexDiffedSpec)) lexDiffedCard

/-- THE TIED CARD OF 'dripstonelaw01.LexUndone'. -/
def lexUndoneCard : Claim7 := { stood := { row := lexUndoneRow, standIns := [], harness := (true, "805b833043dd3e90df7791522d374063342357f6c9720a3a127675f0bf1aa531"), looks := true }, kinds := [], alts := [], laidByText := true, laidKinds := [.data, .data, .data, .data, .sentinel, .sentinel, .pinned], laidTests := true, laidLooks := .later }
def LexUndoneCardSaid : Prop := Claim7.holds Tryd.pinned (.plain (OpenSpec.ofChange lexUndoneSpec)) lexUndoneCard

/-- THE TIED CARD OF 'dripstonelaw01.LexTwo'. -/
def lexTwoCard : Claim7 := { stood := { row := lexTwoRow, standIns := [], harness := (true, "805b833043dd3e90df7791522d374063342357f6c9720a3a127675f0bf1aa531"), looks := true }, kinds := [], alts := [], laidByText := true, laidKinds := [.data, .data, .data, .data, .sentinel, .sentinel, .pinned], laidTests := true, laidLooks := .later }
def LexTwoCardSaid : Prop := Claim7.holds Tryd.pinned (.plain (OpenSpec.ofChange lexTwoSpec)) lexTwoCard

/-- THE TIED CARD OF 'dripstonelaw01.LexKept'. -/
def lexKeptCard : Claim7 := { stood := { row := lexKeptRow, standIns := [], harness := (true, "805b833043dd3e90df7791522d374063342357f6c9720a3a127675f0bf1aa531"), looks := true }, kinds := [], alts := [], laidByText := true, laidKinds := [.data, .data, .data, .data, .sentinel, .sentinel, .pinned], laidTests := true, laidLooks := .later }
def LexKeptCardSaid : Prop := Claim7.holds Tryd.pinned (.plain (OpenSpec.ofChange lexKeptSpec)) lexKeptCard

/-- THE TIED CARD OF 'dripstonelaw01.LexSigns'. -/
def lexSignsCard : Claim7 := { stood := { row := lexSignsRow, standIns := [], harness := (true, "805b833043dd3e90df7791522d374063342357f6c9720a3a127675f0bf1aa531"), looks := true }, kinds := [], alts := [], laidByText := true, laidKinds := [.data, .data, .data, .data, .sentinel, .sentinel, .pinned], laidTests := true, laidLooks := .later }
def LexSignsCardSaid : Prop := Claim7.holds Tryd.pinned (.plain (OpenSpec.ofChange lexSignsSpec)) lexSignsCard

/-- THE SECOND FORM's CARD OF 'dripstonelaw01.LexDiffed'. -/
def lexDiffedUptoCard : Claim7 := { stood := { row := lexDiffedUptoRow, standIns := [], harness := (true, "805b833043dd3e90df7791522d374063342357f6c9720a3a127675f0bf1aa531"), looks := true }, kinds := [], alts := [], laidByText := true, laidKinds := [.data, .data, .data, .data, .sentinel, .sentinel, .pinned], laidTests := true, laidLooks := .later }
def LexDiffedUptoCardSaid : Prop := Claim7.holds Tryd.pinned (.plain (OpenSpec.upto lexDiffedSpec)) lexDiffedUptoCard

/-- THE SECOND FORM's CARD OF 'dripstonelaw01.LexUndone'. -/
def lexUndoneUptoCard : Claim7 := { stood := { row := lexUndoneUptoRow, standIns := [], harness := (true, "805b833043dd3e90df7791522d374063342357f6c9720a3a127675f0bf1aa531"), looks := true }, kinds := [], alts := [], laidByText := true, laidKinds := [.data, .data, .data, .data, .sentinel, .sentinel, .pinned], laidTests := true, laidLooks := .later }
def LexUndoneUptoCardSaid : Prop := Claim7.holds Tryd.pinned (.plain (OpenSpec.upto lexUndoneSpec)) lexUndoneUptoCard

/-- THE SECOND FORM's CARD OF 'dripstonelaw01.LexTwo'. -/
def lexTwoUptoCard : Claim7 := { stood := { row := lexTwoUptoRow, standIns := [], harness := (true, "805b833043dd3e90df7791522d374063342357f6c9720a3a127675f0bf1aa531"), looks := true }, kinds := [], alts := [], laidByText := true, laidKinds := [.data, .data, .data, .data, .sentinel, .sentinel, .pinned], laidTests := true, laidLooks := .later }
def LexTwoUptoCardSaid : Prop := Claim7.holds Tryd.pinned (.plain (OpenSpec.upto lexTwoSpec)) lexTwoUptoCard

/-- THE SECOND FORM's CARD OF 'dripstonelaw01.LexKept'. -/
def lexKeptUptoCard : Claim7 := { stood := { row := lexKeptUptoRow, standIns := [], harness := (true, "805b833043dd3e90df7791522d374063342357f6c9720a3a127675f0bf1aa531"), looks := true }, kinds := [], alts := [], laidByText := true, laidKinds := [.data, .data, .data, .data, .sentinel, .sentinel, .pinned], laidTests := true, laidLooks := .later }
def LexKeptUptoCardSaid : Prop := Claim7.holds Tryd.pinned (.plain (OpenSpec.upto lexKeptSpec)) lexKeptUptoCard

/-- THE SECOND FORM's CARD OF 'dripstonelaw01.LexSigns'. -/
def lexSignsUptoCard : Claim7 := { stood := { row := lexSignsUptoRow, standIns := [], harness := (true, "805b833043dd3e90df7791522d374063342357f6c9720a3a127675f0bf1aa531"), looks := true }, kinds := [], alts := [], laidByText := true, laidKinds := [.data, .data, .data, .data, .sentinel, .sentinel, .pinned], laidTests := true, laidLooks := .later }
def LexSignsUptoCardSaid : Prop := Claim7.holds Tryd.pinned (.plain (OpenSpec.upto lexSignsSpec)) lexSignsUptoCard
end Rows
end Go.Proofs.YtjbheilhmnaikabDoor
