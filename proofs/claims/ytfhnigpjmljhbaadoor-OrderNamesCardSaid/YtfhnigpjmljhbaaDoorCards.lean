/-
  DERIVED. GIVEN WITH THE SEED: THE CARDS: each row of YtfhnigpjmljhbaaDoorRows.lean that lists a variable, with what it lists TIED to the program's text (the seventh form; the later family's looks); each row that meets fmt, with fmt's text TOLD by the authors' own Lean function (tested against real Go, not proved from fmt's source: count such statements apart). THE CARD IS WHAT COUNTS. Prove the row's statement (the work); the ties are given (YtfhnigpjmljhbaaDoorTie.lean); close each card by the builder's one call (the guide's Derived/Test/ToyasCard.lean, 'card_holds'). Laid BY PROGRAM, IN A SANDBOX (cutbox-door.mjs). By AI agents, Wed Nov 11 2026. No macro, syntax, notation, axiom, sorry.
-/
import Derived.Test.YtfhnigpjmljhbaaDoorRows
import GoSem.ClaimSeven
namespace Go.Proofs.YtfhnigpjmljhbaaDoor
namespace Rows

/-- THE TIED CARD OF 'dripstonelaw03.OrderSlim'. -/
def orderSlimCard : Claim7 := { stood := { row := orderSlimRow, standIns := [], harness := (true, "9fd61f103c55b26ff0446ba6ffd5d23c93c4bbbac505948c5bdd5031bf04c5d7"), looks := false }, kinds := [], alts := [], laidByText := true, laidKinds := [.data, .data], laidTests := true, laidLooks := .later }
def OrderSlimCardSaid : Prop := Claim7.holds Tryd.pinned (.plain (OpenSpec.ofChange orderSlimSpec)) orderSlimCard

/-- THE TIED CARD OF 'dripstonelaw03.OrderShapes'. -/
def orderShapesCard : Claim7 := { stood := { row := orderShapesRow, standIns := [], harness := (true, "9fd61f103c55b26ff0446ba6ffd5d23c93c4bbbac505948c5bdd5031bf04c5d7"), looks := false }, kinds := [], alts := [], laidByText := true, laidKinds := [.data, .data], laidTests := true, laidLooks := .later }
def OrderShapesCardSaid : Prop := Claim7.holds Tryd.pinned (.plain (OpenSpec.ofChange orderShapesSpec)) orderShapesCard

/-- THE TIED CARD OF 'dripstonelaw03.OrderNames'. -/
def orderNamesCard : Claim7 := { stood := { row := orderNamesRow, standIns := [], harness := (true, "9fd61f103c55b26ff0446ba6ffd5d23c93c4bbbac505948c5bdd5031bf04c5d7"), looks := false }, kinds := [], alts := [], laidByText := true, laidKinds := [.data, .data], laidTests := true, laidLooks := .later }
def OrderNamesCardSaid : Prop := Claim7.holds Tryd.pinned (.plain (OpenSpec.ofChange orderNamesSpec)) orderNamesCard

/-- THE TIED CARD OF 'dripstonelaw03.OrderParses'. -/
def orderParsesCard : Claim7 := { stood := { row := orderParsesRow, standIns := [], harness := (true, "9fd61f103c55b26ff0446ba6ffd5d23c93c4bbbac505948c5bdd5031bf04c5d7"), looks := false }, kinds := [], alts := [], laidByText := true, laidKinds := [.data, .data], laidTests := true, laidLooks := .later }
def OrderParsesCardSaid : Prop := Claim7.holds Tryd.pinned (.plain (OpenSpec.ofChange orderParsesSpec)) orderParsesCard

/-- THE TIED CARD OF 'dripstonelaw03.OrderBack'. -/
def orderBackCard : Claim7 := { stood := { row := orderBackRow, standIns := [], harness := (true, "9fd61f103c55b26ff0446ba6ffd5d23c93c4bbbac505948c5bdd5031bf04c5d7"), looks := false }, kinds := [], alts := [], laidByText := true, laidKinds := [.data, .data], laidTests := true, laidLooks := .later }
def OrderBackCardSaid : Prop := Claim7.holds Tryd.pinned (.plain (OpenSpec.ofChange orderBackSpec)) orderBackCard

/-- THE SECOND FORM's CARD OF 'dripstonelaw03.OrderSlim'. -/
def orderSlimUptoCard : Claim7 := { stood := { row := orderSlimUptoRow, standIns := [], harness := (true, "9fd61f103c55b26ff0446ba6ffd5d23c93c4bbbac505948c5bdd5031bf04c5d7"), looks := false }, kinds := [], alts := [], laidByText := true, laidKinds := [.data, .data], laidTests := true, laidLooks := .later }
def OrderSlimUptoCardSaid : Prop := Claim7.holds Tryd.pinned (.plain (OpenSpec.upto orderSlimSpec)) orderSlimUptoCard

/-- THE SECOND FORM's CARD OF 'dripstonelaw03.OrderShapes'. -/
def orderShapesUptoCard : Claim7 := { stood := { row := orderShapesUptoRow, standIns := [], harness := (true, "9fd61f103c55b26ff0446ba6ffd5d23c93c4bbbac505948c5bdd5031bf04c5d7"), looks := false }, kinds := [], alts := [], laidByText := true, laidKinds := [.data, .data], laidTests := true, laidLooks := .later }
def OrderShapesUptoCardSaid : Prop := Claim7.holds Tryd.pinned (.plain (OpenSpec.upto orderShapesSpec)) orderShapesUptoCard

/-- THE SECOND FORM's CARD OF 'dripstonelaw03.OrderNames'. -/
def orderNamesUptoCard : Claim7 := { stood := { row := orderNamesUptoRow, standIns := [], harness := (true, "9fd61f103c55b26ff0446ba6ffd5d23c93c4bbbac505948c5bdd5031bf04c5d7"), looks := false }, kinds := [], alts := [], laidByText := true, laidKinds := [.data, .data], laidTests := true, laidLooks := .later }
def OrderNamesUptoCardSaid : Prop := Claim7.holds Tryd.pinned (.plain (OpenSpec.upto orderNamesSpec)) orderNamesUptoCard

/-- THE SECOND FORM's CARD OF 'dripstonelaw03.OrderParses'. -/
def orderParsesUptoCard : Claim7 := { stood := { row := orderParsesUptoRow, standIns := [], harness := (true, "9fd61f103c55b26ff0446ba6ffd5d23c93c4bbbac505948c5bdd5031bf04c5d7"), looks := false }, kinds := [], alts := [], laidByText := true, laidKinds := [.data, .data], laidTests := true, laidLooks := .later }
def OrderParsesUptoCardSaid : Prop := Claim7.holds Tryd.pinned (.plain (OpenSpec.upto orderParsesSpec)) orderParsesUptoCard

/-- THE SECOND FORM's CARD OF 'dripstonelaw03.OrderBack'. -/
def orderBackUptoCard : Claim7 := { stood := { row := orderBackUptoRow, standIns := [], harness := (true, "9fd61f103c55b26ff0446ba6ffd5d23c93c4bbbac505948c5bdd5031bf04c5d7"), looks := false }, kinds := [], alts := [], laidByText := true, laidKinds := [.data, .data], laidTests := true, laidLooks := .later }
def OrderBackUptoCardSaid : Prop := Claim7.holds Tryd.pinned (.plain (OpenSpec.upto orderBackSpec)) orderBackUptoCard
end Rows
end Go.Proofs.YtfhnigpjmljhbaaDoor
