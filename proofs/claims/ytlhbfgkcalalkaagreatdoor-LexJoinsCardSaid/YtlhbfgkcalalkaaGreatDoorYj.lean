/- LexJoins at any slice of tokens. -/
import Derived.Test.YtlhbfgkcalalkaaGreatDoorYi
import Derived.Test.YtlhbfgkcalalkaaGreatDoorNb
set_option linter.unusedVariables false
set_option linter.unusedSimpArgs false
namespace Go.Proofs.YtlhbfgkcalalkaaGreatDoor
open Go.RowKit Go.Shelf

set_option maxRecDepth 100000 in
theorem thin_far (q : Option Addr) (len cap : Nat) (w : World) (h : 1000 < len) :
    Calls Tryz.prog 13 #[.slice q len cap] w fun e w' => e = .returned (.bool false) ∧ w = w' := by
  have hb : decide ((1000 : Int) < (len : Int)) = true := decide_eq_true (by omega)
  go_enter Tryz.func13, Tryz.ntmps13
  go_wp2
  go_ret
  exact ⟨ret_bool rfl, rfl⟩

set_option maxRecDepth 100000 in
set_option maxHeartbeats 2000000 in
theorem joins_all (q : Option Addr) (len cap : Nat) (w : World) (hm : len ≤ maxLen) (h : len ≤ 100000000000 → ∃ ls : List Lx, ls.length = len ∧ ReadsLx w (.slice q len cap) ls) (he : ErrOk w) :
    Calls Tryz.prog 4 #[.slice q len cap] w fun e w' => e = .returned (.bool true) ∧ Below w.heap.size w w' := by
  by_cases hl : len ≤ 100000000000
  · obtain ⟨ls, _, hr⟩ := h hl
    exact joins_any _ ls w hr he
  · have CW : Hid (∀ W, Below w.heap.size w W → Calls Tryz.prog 9 #[] W fun e w' => e = .returned (.bool true) ∧ Below W.heap.size W w') := fun W hW => awake_any W (he.below hW)
    have hB0 : Below w.heap.size w w := Below.refl _ _
    have CT := Lib.hid (thin_far q len cap w (by omega))
    clear h he hl
    go_enter Tryz.func4, Tryz.ntmps4
    go_wp2_with fail
    refine CT.out.mono ?_
    rintro e w' ⟨rfl, rfl⟩
    go_wp2_with fail
    refine (CW.out _ hB0).mono ?_
    rintro e w5 ⟨rfl, hb5⟩
    go_wp2
    go_ret
    exact ⟨ret_bool rfl, hb5⟩
end Go.Proofs.YtlhbfgkcalalkaaGreatDoor
