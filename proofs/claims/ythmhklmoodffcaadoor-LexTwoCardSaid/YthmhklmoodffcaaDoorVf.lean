/- LexTwo, at any text and edits. -/
import Derived.Test.YthmhklmoodffcaaDoorVc
import Derived.Test.YthmhklmoodffcaaDoorVd
set_option linter.unusedVariables false
set_option linter.unusedSimpArgs false
namespace Go.Proofs.YthmhklmoodffcaaDoor
open Go.RowKit Go.Shelf

theorem two_any (s : List UInt8) (x y : Ed) (w : World) (hs : s.length ≤ 140737488355328) (hput : x.2.2.length ≤ 140737488355328) (hput2 : y.2.2.length ≤ 140737488355328) (he : ErrOk w) :
    Calls Tryd.prog 12 #[.string (mkS s), edV x, edV y] w fun e w' => e = .returned (.bool true) ∧ Below w.heap.size w w' := by
  have hl := applyF_len s x
  have CA := Lib.hid fun W => apply_any s x W hs hput
  have CA2 := Lib.hid fun W => apply_any (applyF s x) y W (by omega) hput2
  by_cases h : doE s x = 0
  · have ha : applyF s x = splF s x := by unfold applyF; rw [if_pos h]
    by_cases h2 : doE (splF s x) y = 0
    · obtain ⟨z0, z1, z2, z3, z4, z5⟩ := bothF_ok h h2
      have ls := chkE_len (doE_parts h).1
      have lt := chkE_len (doE_parts h).2.2
      have lu := chkE_len (doE_parts h2).2.2
      have lp : x.2.2.length ≤ 2500 := Nat.le_trans splF_put' lt
      have lq : y.2.2.length ≤ 2500 := Nat.le_trans splF_put' lu
      refine two_in s (splF s x) (splF (splF s x) y) x y (bothF s x y).1 w he (by omega) (by omega) (by omega) z3 z4 ?_ ?_ ?_ ?_
      · intro W; have := CA.out W; rw [ha, h] at this; exact this
      · intro W; have := CA2.out W; rw [ha, h2] at this
        have e : applyF (splF s x) y = splF (splF s x) y := by unfold applyF; rw [if_pos h2]
        rw [e] at this; exact this
      · intro W; have := both_any s x y W hs hput hput2; rw [z0] at this; exact this
      · intro W; have := apply_any s (bothF s x y).1 W hs (by omega); rw [z1] at this
        have e : applyF s (bothF s x y).1 = splF (splF s x) y := by unfold applyF; rw [if_pos z1, z2]
        rw [e] at this; exact this
    · refine two_out s (applyF s x) (applyF (applyF s x) y) x y (doE s x) (doE (applyF s x) y) w he (.inr ⟨by omega, by rw [ha]; omega⟩) CA CA2
  · exact two_out s (applyF s x) (applyF (applyF s x) y) x y (doE s x) (doE (applyF s x) y) w he (.inl (by omega)) CA CA2
end Go.Proofs.YthmhklmoodffcaaDoor
