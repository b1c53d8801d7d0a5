/- Contracts of the small functions of lex, by walks of their text. -/
import Derived.Test.YtlhbfgkcalalkaaDoorProg
import Derived.WalkKit
import Derived.WalkSpells
import Derived.Deep.QuietTactic
import Derived.BigQuiet
import Derived.Lib.Hide
set_option linter.unusedVariables false
set_option linter.unusedSimpArgs false
namespace Go.Proofs.YtlhbfgkcalalkaaDoor
open Go.RowKit

theorem ret_int {k : IntKind} {a b : Int} (h : a = b) : Ending.returned (.int k a) = .returned (.int k b) := by rw [h]
theorem ret_bool {a b : Bool} (h : a = b) : Ending.returned (.bool a) = .returned (.bool b) := by rw [h]

/-- The class of a byte. -/
def cls (b : Nat) : Nat :=
  if b = 32 ∨ b = 10 then 1 else if 97 ≤ b ∧ b ≤ 122 then 2 else if 48 ≤ b ∧ b ≤ 57 then 3 else if 32 < b ∧ b ≤ 126 then 4 else 0

set_option maxHeartbeats 400000 in
theorem classOf_any (b : Nat) (w : World) :
    Calls Tryd.prog 40 #[.int .u8 b] w fun e w' => e = .returned (.int .u8 (cls b)) ∧ w = w' := by
  go_enter Tryd.func40, Tryd.ntmps40
  go_wp2
  all_goals go_ret
  all_goals (refine ⟨ret_int ?_, rfl⟩; unfold cls; grind)

/-- The error of a text: its place and its code. -/
def chk (l : List UInt8) : Nat × Nat :=
  if 2500 < l.length then (0, 5) else if l.findIdx (fun c => cls c.toNat = 0) < l.length then (l.findIdx (fun c => cls c.toNat = 0), 4) else (0, 0)

end Go.Proofs.YtlhbfgkcalalkaaDoor
