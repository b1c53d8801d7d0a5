/- Undo, where there is an edit to take back. -/
import Derived.Test.YtlhbfgkcalalkaaDoorHd
import Derived.Deep.RegionHeld3
set_option linter.unusedVariables false
set_option linter.unusedSimpArgs false
namespace Go.Proofs.YtlhbfgkcalalkaaDoor
open Go.RowKit Go.Shelf

/-- What a cell holds, whatever it is. -/
def ccv (W : World) (a : Addr) : Value := (W.cell? a).getD (.bool false)
theorem ccv_some {W : World} {a : Addr} {v : Value} (h : W.cell? a = some v) : W.cell? a = some (ccv W a) := by unfold ccv; rw [h]; rfl
theorem ccv_set {W : World} {a b : Addr} {v u : Value} (h : W.cell? a = some v) : (W.setCell b u).cell? a = some (ccv (W.setCell b u) a) := by
  cases h' : (W.setCell b u).cell? a with
  | some x => unfold ccv; rw [h']; rfl
  | none =>
    by_cases e : a = b
    · subst e; rw [World.cell?_setCell_same (h := h)] at h'; simp at h'
    · rw [World.cell?_setCell_other (h := Ne.symm e), h] at h'; simp at h'

end Go.Proofs.YtlhbfgkcalalkaaDoor
