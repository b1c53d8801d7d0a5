/- The reference: IsEdit, Apply; Short at any text. -/
import Derived.Test.YtlhbfgkcalalkaaGreatDoorUa
set_option linter.unusedVariables false
set_option linter.unusedSimpArgs false
namespace Go.Proofs.YtlhbfgkcalalkaaGreatDoor
open Go.RowKit Go.Shelf

set_option maxRecDepth 100000 in
theorem short_yes (s : List UInt8) (w : World) (hs : s.length ≤ 3000) :
    Calls Tryz.prog 8 #[.string (mkS s)] w fun e w' => e = .returned (.bool true) ∧ w = w' := by
  have hi : (((mkS s).size : Int)) ≤ 3000 := by rw [mkS_size]; omega
  have hb : decide (((mkS s).size : Int) ≤ 3000) = true := decide_eq_true hi
  go_enter Tryz.func8, Tryz.ntmps8
  go_wp2
  go_ret
  exact ⟨ret_bool (by simp [hb, hi]), rfl⟩
set_option maxRecDepth 100000 in
theorem short_no (s : List UInt8) (w : World) (hs : ¬ s.length ≤ 3000) :
    Calls Tryz.prog 8 #[.string (mkS s)] w fun e w' => e = .returned (.bool false) ∧ w = w' := by
  have hi : ¬ (((mkS s).size : Int)) ≤ 3000 := by rw [mkS_size]; omega
  have hb : decide (((mkS s).size : Int) ≤ 3000) = false := decide_eq_false hi
  go_enter Tryz.func8, Tryz.ntmps8
  go_wp2
  go_ret
  exact ⟨ret_bool (by simp [hb, hi]), rfl⟩
theorem short_of (s : List UInt8) (w : World) :
    Calls Tryz.prog 8 #[.string (mkS s)] w fun e w' => e = .returned (.bool (decide (s.length ≤ 3000))) ∧ w = w' := by
  by_cases h : s.length ≤ 3000
  · rw [decide_eq_true h]; exact short_yes s w h
  · rw [decide_eq_false h]; exact short_no s w h

set_option maxRecDepth 100000 in
set_option maxHeartbeats 1000000 in
theorem refIsEdit_any (s : List UInt8) (x : Ed) (w : World) :
    Calls Tryz.prog 50 #[.string (mkS s), edV x] w fun e w' => e = .returned (.bool (isEd s x)) ∧ Below w.heap.size w w' := by
  obtain ⟨F, T, put⟩ := x
  have hsz := mkS_size s
  have fin : Below w.heap.size w (w.alloc (Obj.cells #[Value.int IntKind.i64 F, Value.int IntKind.i64 T, Value.string (mkS put)] 40)) := (Below.refl _ _).alloc (Nat.le_refl _) _
  unfold edV
  by_cases c1 : 0 ≤ F
  · by_cases c2 : F ≤ T
    · by_cases c3 : T ≤ ((mkS s).size : Int)
      · have H : Hid (isEd s (F, T, put) = true) := by
          show _ = _; unfold isEd; simp only [Bool.and_eq_true, decide_eq_true_eq]; exact ⟨⟨c1, c2⟩, by omega⟩
        rw [H.out]
        have b1 : decide (0 ≤ F) = true := decide_eq_true c1
        have b2 : decide (F ≤ T) = true := decide_eq_true c2
        have b3 : decide (T ≤ ((mkS s).size : Int)) = true := decide_eq_true c3
        clear hsz c1 c2 c3 H
        go_enter Tryz.func50, Tryz.ntmps50
        go_wp2
        all_goals go_ret
        all_goals exact ⟨ret_bool (by simp [b1, b2, b3]), fin⟩
      · have H : Hid (isEd s (F, T, put) = false) := by
          show _ = _; rw [← Bool.not_eq_true]; unfold isEd; simp only [Bool.and_eq_true, decide_eq_true_eq]; intro h; omega
        rw [H.out]
        have b1 : decide (0 ≤ F) = true := decide_eq_true c1
        have b2 : decide (F ≤ T) = true := decide_eq_true c2
        have b3 : decide (T ≤ ((mkS s).size : Int)) = false := decide_eq_false c3
        clear hsz c1 c2 c3 H
        go_enter Tryz.func50, Tryz.ntmps50
        go_wp2
        all_goals go_ret
        all_goals exact ⟨ret_bool (by simp [b1, b2, b3]), fin⟩
    · have H : Hid (isEd s (F, T, put) = false) := by
        show _ = _; rw [← Bool.not_eq_true]; unfold isEd; simp only [Bool.and_eq_true, decide_eq_true_eq]; intro h; omega
      rw [H.out]
      have b1 : decide (0 ≤ F) = true := decide_eq_true c1
      have b2 : decide (F ≤ T) = false := decide_eq_false c2
      clear hsz c1 c2 H
      go_enter Tryz.func50, Tryz.ntmps50
      go_wp2
      all_goals go_ret
      all_goals exact ⟨ret_bool (by simp [b1, b2]), fin⟩
  · have H : Hid (isEd s (F, T, put) = false) := by
      show _ = _; rw [← Bool.not_eq_true]; unfold isEd; simp only [Bool.and_eq_true, decide_eq_true_eq]; intro h; omega
    rw [H.out]
    have b1 : decide (0 ≤ F) = false := decide_eq_false c1
    clear hsz c1 H
    go_enter Tryz.func50, Tryz.ntmps50
    go_wp2
    all_goals go_ret
    all_goals exact ⟨ret_bool (by simp [b1]), fin⟩

end Go.Proofs.YtlhbfgkcalalkaaGreatDoor
