/-
  DERIVED. GIVEN WITH THE SEED: THE CARDS: each row of YtmooikdodbjgpaaDoorRows.lean that lists a variable, with what it lists TIED to the program's text (the seventh form; the later family's looks); each row that meets fmt, with fmt's text TOLD by the authors' own Lean function (tested against real Go, not proved from fmt's source: count such statements apart). THE CARD IS WHAT COUNTS. Prove the row's statement (the work); the ties are given (YtmooikdodbjgpaaDoorTie.lean); close each card by the builder's one call (the guide's Derived/Test/ToyasCard.lean, 'card_holds'). Laid BY PROGRAM, IN A SANDBOX (cutbox-door.mjs). By AI agents, Wed Nov 11 2026. No macro, syntax, notation, axiom, sorry.
-/
import Derived.Test.YtmooikdodbjgpaaDoorRows
import GoSem.ClaimSeven
namespace Go.Proofs.YtmooikdodbjgpaaDoor
namespace Rows

/-- THE TIED CARD OF 'dripstonelaw03.OrderProves'. -/
def orderProvesCard : Claim7 := { stood := { row := orderProvesRow, standIns := [], harness := (true, "4cf30cebd7cabad34ce52b9f1c231045f5a555650b4286cb5d6fe02258522e2d"), looks := false }, kinds := [], alts := [], laidByText := true, laidKinds := [.data, .data], laidTests := true, laidLooks := .later }
def OrderProvesCardSaid : Prop := Claim7.holds Tryd.pinned (.plain (OpenSpec.ofChange orderProvesSpec)) orderProvesCard

/-- THE TIED CARD OF 'dripstonelaw03.OrderReaches'. -/
def orderReachesCard : Claim7 := { stood := { row := orderReachesRow, standIns := [], harness := (true, "4cf30cebd7cabad34ce52b9f1c231045f5a555650b4286cb5d6fe02258522e2d"), looks := false }, kinds := [], alts := [], laidByText := true, laidKinds := [.data, .data], laidTests := true, laidLooks := .later }
def OrderReachesCardSaid : Prop := Claim7.holds Tryd.pinned (.plain (OpenSpec.ofChange orderReachesSpec)) orderReachesCard

/-- THE TIED CARD OF 'dripstonelaw03.OrderJoins'. -/
def orderJoinsCard : Claim7 := { stood := { row := orderJoinsRow, standIns := [], harness := (true, "4cf30cebd7cabad34ce52b9f1c231045f5a555650b4286cb5d6fe02258522e2d"), looks := false }, kinds := [], alts := [], laidByText := true, laidKinds := [.data, .data], laidTests := true, laidLooks := .later }
def OrderJoinsCardSaid : Prop := Claim7.holds Tryd.pinned (.plain (OpenSpec.ofChange orderJoinsSpec)) orderJoinsCard

/-- THE TIED CARD OF 'dripstonelaw03.OrderSlims'. -/
def orderSlimsCard : Claim7 := { stood := { row := orderSlimsRow, standIns := [], harness := (true, "4cf30cebd7cabad34ce52b9f1c231045f5a555650b4286cb5d6fe02258522e2d"), looks := false }, kinds := [], alts := [], laidByText := true, laidKinds := [.data, .data], laidTests := true, laidLooks := .later }
def OrderSlimsCardSaid : Prop := Claim7.holds Tryd.pinned (.plain (OpenSpec.ofChange orderSlimsSpec)) orderSlimsCard

/-- THE TIED CARD OF 'dripstonelaw03.OrderShapes'. -/
def orderShapesCard : Claim7 := { stood := { row := orderShapesRow, standIns := [], harness := (true, "4cf30cebd7cabad34ce52b9f1c231045f5a555650b4286cb5d6fe02258522e2d"), looks := false }, kinds := [], alts := [], laidByText := true, laidKinds := [.data, .data], laidTests := true, laidLooks := .later }
def OrderShapesCardSaid : Prop := Claim7.holds Tryd.pinned (.plain (OpenSpec.ofChange orderShapesSpec)) orderShapesCard

/-- THE TIED CARD OF 'dripstonelaw03.OrderNames'. -/
def orderNamesCard : Claim7 := { stood := { row := orderNamesRow, standIns := [], harness := (true, "4cf30cebd7cabad34ce52b9f1c231045f5a555650b4286cb5d6fe02258522e2d"), looks := false }, kinds := [], alts := [], laidByText := true, laidKinds := [.data, .data], laidTests := true, laidLooks := .later }
def OrderNamesCardSaid : Prop := Claim7.holds Tryd.pinned (.plain (OpenSpec.ofChange orderNamesSpec)) orderNamesCard

/-- THE TIED CARD OF 'dripstonelaw03.OrderLaws'. -/
def orderLawsCard : Claim7 := { stood := { row := orderLawsRow, standIns := [], harness := (true, "4cf30cebd7cabad34ce52b9f1c231045f5a555650b4286cb5d6fe02258522e2d"), looks := false }, kinds := [], alts := [], laidByText := true, laidKinds := [.data, .data], laidTests := true, laidLooks := .later }
def OrderLawsCardSaid : Prop := Claim7.holds Tryd.pinned (.plain (OpenSpec.ofChange orderLawsSpec)) orderLawsCard

/-- THE TIED CARD OF 'dripstonelaw03.OrderParted'. -/
def orderPartedCard : Claim7 := { stood := { row := orderPartedRow, standIns := [], harness := (true, "4cf30cebd7cabad34ce52b9f1c231045f5a555650b4286cb5d6fe02258522e2d"), looks := false }, kinds := [], alts := [], laidByText := true, laidKinds := [.data, .data], laidTests := true, laidLooks := .later }
def OrderPartedCardSaid : Prop := Claim7.holds Tryd.pinned (.plain (OpenSpec.ofChange orderPartedSpec)) orderPartedCard

/-- THE TIED CARD OF 'dripstonelaw03.OrderHigh'. -/
def orderHighCard : Claim7 := { stood := { row := orderHighRow, standIns := [], harness := (true, "4cf30cebd7cabad34ce52b9f1c231045f5a555650b4286cb5d6fe02258522e2d"), looks := false }, kinds := [], alts := [], laidByText := true, laidKinds := [.data, .data], laidTests := true, laidLooks := .later }
def OrderHighCardSaid : Prop := Claim7.holds Tryd.pinned (.plain (OpenSpec.ofChange orderHighSpec)) orderHighCard

/-- THE TIED CARD OF 'dripstonelaw03.OrderSlim'. -/
def orderSlimCard : Claim7 := { stood := { row := orderSlimRow, standIns := [], harness := (true, "4cf30cebd7cabad34ce52b9f1c231045f5a555650b4286cb5d6fe02258522e2d"), looks := false }, kinds := [], alts := [], laidByText := true, laidKinds := [.data, .data], laidTests := true, laidLooks := .later }
def OrderSlimCardSaid : Prop := Claim7.holds Tryd.pinned (.plain (OpenSpec.ofChange orderSlimSpec)) orderSlimCard

/-- THE TIED CARD OF 'dripstonelaw03.OrderTurned'. -/
def orderTurnedCard : Claim7 := { stood := { row := orderTurnedRow, standIns := [], harness := (true, "4cf30cebd7cabad34ce52b9f1c231045f5a555650b4286cb5d6fe02258522e2d"), looks := false }, kinds := [], alts := [], laidByText := true, laidKinds := [.data, .data], laidTests := true, laidLooks := .later }
def OrderTurnedCardSaid : Prop := Claim7.holds Tryd.pinned (.plain (OpenSpec.ofChange orderTurnedSpec)) orderTurnedCard

/-- THE TIED CARD OF 'dripstonelaw03.OrderLeast'. -/
def orderLeastCard : Claim7 := { stood := { row := orderLeastRow, standIns := [], harness := (true, "4cf30cebd7cabad34ce52b9f1c231045f5a555650b4286cb5d6fe02258522e2d"), looks := false }, kinds := [], alts := [], laidByText := true, laidKinds := [.data, .data], laidTests := true, laidLooks := .later }
def OrderLeastCardSaid : Prop := Claim7.holds Tryd.pinned (.plain (OpenSpec.ofChange orderLeastSpec)) orderLeastCard

/-- THE SECOND FORM's CARD OF 'dripstonelaw03.OrderProves'. -/
def orderProvesUptoCard : Claim7 := { stood := { row := orderProvesUptoRow, standIns := [], harness := (true, "4cf30cebd7cabad34ce52b9f1c231045f5a555650b4286cb5d6fe02258522e2d"), looks := false }, kinds := [], alts := [], laidByText := true, laidKinds := [.data, .data], laidTests := true, laidLooks := .later }
def OrderProvesUptoCardSaid : Prop := Claim7.holds Tryd.pinned (.plain (OpenSpec.upto orderProvesSpec)) orderProvesUptoCard

/-- THE SECOND FORM's CARD OF 'dripstonelaw03.OrderReaches'. -/
def orderReachesUptoCard : Claim7 := { stood := { row := orderReachesUptoRow, standIns := [], harness := (true, "4cf30cebd7cabad34ce52b9f1c231045f5a555650b4286cb5d6fe02258522e2d"), looks := false }, kinds := [], alts := [], laidByText := true, laidKinds := [.data, .data], laidTests := true, laidLooks := .later }
def OrderReachesUptoCardSaid : Prop := Claim7.holds Tryd.pinned (.plain (OpenSpec.upto orderReachesSpec)) orderReachesUptoCard

/-- THE SECOND FORM's CARD OF 'dripstonelaw03.OrderJoins'. -/
def orderJoinsUptoCard : Claim7 := { stood := { row := orderJoinsUptoRow, standIns := [], harness := (true, "4cf30cebd7cabad34ce52b9f1c231045f5a555650b4286cb5d6fe02258522e2d"), looks := false }, kinds := [], alts := [], laidByText := true, laidKinds := [.data, .data], laidTests := true, laidLooks := .later }
def OrderJoinsUptoCardSaid : Prop := Claim7.holds Tryd.pinned (.plain (OpenSpec.upto orderJoinsSpec)) orderJoinsUptoCard

/-- THE SECOND FORM's CARD OF 'dripstonelaw03.OrderSlims'. -/
def orderSlimsUptoCard : Claim7 := { stood := { row := orderSlimsUptoRow, standIns := [], harness := (true, "4cf30cebd7cabad34ce52b9f1c231045f5a555650b4286cb5d6fe02258522e2d"), looks := false }, kinds := [], alts := [], laidByText := true, laidKinds := [.data, .data], laidTests := true, laidLooks := .later }
def OrderSlimsUptoCardSaid : Prop := Claim7.holds Tryd.pinned (.plain (OpenSpec.upto orderSlimsSpec)) orderSlimsUptoCard

/-- THE SECOND FORM's CARD OF 'dripstonelaw03.OrderShapes'. -/
def orderShapesUptoCard : Claim7 := { stood := { row := orderShapesUptoRow, standIns := [], harness := (true, "4cf30cebd7cabad34ce52b9f1c231045f5a555650b4286cb5d6fe02258522e2d"), looks := false }, kinds := [], alts := [], laidByText := true, laidKinds := [.data, .data], laidTests := true, laidLooks := .later }
def OrderShapesUptoCardSaid : Prop := Claim7.holds Tryd.pinned (.plain (OpenSpec.upto orderShapesSpec)) orderShapesUptoCard

/-- THE SECOND FORM's CARD OF 'dripstonelaw03.OrderNames'. -/
def orderNamesUptoCard : Claim7 := { stood := { row := orderNamesUptoRow, standIns := [], harness := (true, "4cf30cebd7cabad34ce52b9f1c231045f5a555650b4286cb5d6fe02258522e2d"), looks := false }, kinds := [], alts := [], laidByText := true, laidKinds := [.data, .data], laidTests := true, laidLooks := .later }
def OrderNamesUptoCardSaid : Prop := Claim7.holds Tryd.pinned (.plain (OpenSpec.upto orderNamesSpec)) orderNamesUptoCard

/-- THE SECOND FORM's CARD OF 'dripstonelaw03.OrderLaws'. -/
def orderLawsUptoCard : Claim7 := { stood := { row := orderLawsUptoRow, standIns := [], harness := (true, "4cf30cebd7cabad34ce52b9f1c231045f5a555650b4286cb5d6fe02258522e2d"), looks := false }, kinds := [], alts := [], laidByText := true, laidKinds := [.data, .data], laidTests := true, laidLooks := .later }
def OrderLawsUptoCardSaid : Prop := Claim7.holds Tryd.pinned (.plain (OpenSpec.upto orderLawsSpec)) orderLawsUptoCard

/-- THE SECOND FORM's CARD OF 'dripstonelaw03.OrderParted'. -/
def orderPartedUptoCard : Claim7 := { stood := { row := orderPartedUptoRow, standIns := [], harness := (true, "4cf30cebd7cabad34ce52b9f1c231045f5a555650b4286cb5d6fe02258522e2d"), looks := false }, kinds := [], alts := [], laidByText := true, laidKinds := [.data, .data], laidTests := true, laidLooks := .later }
def OrderPartedUptoCardSaid : Prop := Claim7.holds Tryd.pinned (.plain (OpenSpec.upto orderPartedSpec)) orderPartedUptoCard

/-- THE SECOND FORM's CARD OF 'dripstonelaw03.OrderHigh'. -/
def orderHighUptoCard : Claim7 := { stood := { row := orderHighUptoRow, standIns := [], harness := (true, "4cf30cebd7cabad34ce52b9f1c231045f5a555650b4286cb5d6fe02258522e2d"), looks := false }, kinds := [], alts := [], laidByText := true, laidKinds := [.data, .data], laidTests := true, laidLooks := .later }
def OrderHighUptoCardSaid : Prop := Claim7.holds Tryd.pinned (.plain (OpenSpec.upto orderHighSpec)) orderHighUptoCard

/-- THE SECOND FORM's CARD OF 'dripstonelaw03.OrderSlim'. -/
def orderSlimUptoCard : Claim7 := { stood := { row := orderSlimUptoRow, standIns := [], harness := (true, "4cf30cebd7cabad34ce52b9f1c231045f5a555650b4286cb5d6fe02258522e2d"), looks := false }, kinds := [], alts := [], laidByText := true, laidKinds := [.data, .data], laidTests := true, laidLooks := .later }
def OrderSlimUptoCardSaid : Prop := Claim7.holds Tryd.pinned (.plain (OpenSpec.upto orderSlimSpec)) orderSlimUptoCard

/-- THE SECOND FORM's CARD OF 'dripstonelaw03.OrderTurned'. -/
def orderTurnedUptoCard : Claim7 := { stood := { row := orderTurnedUptoRow, standIns := [], harness := (true, "4cf30cebd7cabad34ce52b9f1c231045f5a555650b4286cb5d6fe02258522e2d"), looks := false }, kinds := [], alts := [], laidByText := true, laidKinds := [.data, .data], laidTests := true, laidLooks := .later }
def OrderTurnedUptoCardSaid : Prop := Claim7.holds Tryd.pinned (.plain (OpenSpec.upto orderTurnedSpec)) orderTurnedUptoCard

/-- THE SECOND FORM's CARD OF 'dripstonelaw03.OrderLeast'. -/
def orderLeastUptoCard : Claim7 := { stood := { row := orderLeastUptoRow, standIns := [], harness := (true, "4cf30cebd7cabad34ce52b9f1c231045f5a555650b4286cb5d6fe02258522e2d"), looks := false }, kinds := [], alts := [], laidByText := true, laidKinds := [.data, .data], laidTests := true, laidLooks := .later }
def OrderLeastUptoCardSaid : Prop := Claim7.holds Tryd.pinned (.plain (OpenSpec.upto orderLeastSpec)) orderLeastUptoCard
end Rows
end Go.Proofs.YtmooikdodbjgpaaDoor
