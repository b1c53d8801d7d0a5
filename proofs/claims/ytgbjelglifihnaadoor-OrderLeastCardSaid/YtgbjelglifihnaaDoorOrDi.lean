/- OrderLeast is true of every table, in every world where the laid tables lie. -/
import Derived.Test.YtgbjelglifihnaaDoorOrDh
set_option linter.unusedVariables false
namespace Go.Proofs.YtgbjelglifihnaaDoor.Or
open Go.RowKit Go.Shelf

theorem least_any (HJ : JoinOk) (t : Tab) (ve va vw : Value) (w : World) (hT : TabIn w ve va vw t) (hnm : t.name.length ≤ 281474976710656) (hL : LaidOk w) :
    Calls Tryd.prog 14 #[tabV t ve va vw] w fun e w' => e = .returned (.bool true) ∧ Below w.heap.size w w' := by
  have H := tab_calls HJ t ve va vw w hT hnm hL
  by_cases hc : thinF t = true ∧ frmF t = true ∧ ((proveF t).1 = 3 ∨ (proveF t).1 = 4)
  · exact least_pairs t ve va vw w H hc.1 hc.2.1 hc.2.2
  · refine least_other t ve va vw w H fun h1 h2 => ?_
    constructor
    · intro h; exact hc ⟨h1, h2, .inl h⟩
    · intro h; exact hc ⟨h1, h2, .inr h⟩
end Go.Proofs.YtgbjelglifihnaaDoor.Or
