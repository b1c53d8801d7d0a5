/- The reference: IsEdit, Apply; Short at any text. -/
import Derived.Test.YtlhbfgkcalalkaaDoorUa
set_option linter.unusedVariables false
set_option linter.unusedSimpArgs false
namespace Go.Proofs.YtlhbfgkcalalkaaDoor
open Go.RowKit Go.Shelf

set_option maxRecDepth 100000 in
theorem short_yes (s : List UInt8) (w : World) (hs : s.length ≤ 3000) :
    Calls Tryd.prog 5 #[.string (mkS s)] w fun e w' => e = .returned (.bool true) ∧ w = w' := by
  have hi : (((mkS s).size : Int)) ≤ 3000 := by rw [mkS_size]; omega
  have hb : decide (((mkS s).size : Int) ≤ 3000) = true := decide_eq_true hi
  go_enter Tryd.func5, Tryd.ntmps5
  go_wp2
  go_ret
  exact ⟨ret_bool (by simp [hb, hi]), rfl⟩
set_option maxRecDepth 100000 in
theorem short_no (s : List UInt8) (w : World) (hs : ¬ s.length ≤ 3000) :
    Calls Tryd.prog 5 #[.string (mkS s)] w fun e w' => e = .returned (.bool false) ∧ w = w' := by
  have hi : ¬ (((mkS s).size : Int)) ≤ 3000 := by rw [mkS_size]; omega
  have hb : decide (((mkS s).size : Int) ≤ 3000) = false := decide_eq_false hi
  go_enter Tryd.func5, Tryd.ntmps5
  go_wp2
  go_ret
  exact ⟨ret_bool (by simp [hb, hi]), rfl⟩
theorem short_of (s : List UInt8) (w : World) :
    Calls Tryd.prog 5 #[.string (mkS s)] w fun e w' => e = .returned (.bool (decide (s.length ≤ 3000))) ∧ w = w' := by
  by_cases h : s.length ≤ 3000
  · rw [decide_eq_true h]; exact short_yes s w h
  · rw [decide_eq_false h]; exact short_no s w h

end Go.Proofs.YtlhbfgkcalalkaaDoor
