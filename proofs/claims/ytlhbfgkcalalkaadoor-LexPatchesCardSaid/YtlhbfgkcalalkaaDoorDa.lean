/- The contract of run, whatever the function value. -/
import Derived.Test.YtlhbfgkcalalkaaDoorWd
import Derived.Shelf.Abstract
set_option linter.unusedVariables false
set_option linter.unusedSimpArgs false
namespace Go.Proofs.YtlhbfgkcalalkaaDoor
open Go.RowKit Go.Shelf

/-- How many of the numbers from 0 on, below n, come before the first one of which something does not hold. -/
def runF (p : Nat → Bool) : Nat → Nat → Nat
  | 0, i => i
  | n + 1, i => if p i then runF p n (i + 1) else i
theorem runF_le (p : Nat → Bool) : ∀ n i, runF p n i ≤ i + n
  | 0, i => Nat.le_refl _
  | n + 1, i => by
    rw [runF]; split
    · have := runF_le p n (i + 1); omega
    · omega

set_option maxRecDepth 100000 in
set_option maxHeartbeats 800000 in
theorem run_calls (n : Nat) (g : Nat) (lb : Array Value) (p : Nat → Bool) (w : World) (hn : n ≤ 281474976710656) (eg : ∀ args w, (callFunc g args).run Tryd.prog w = .ok (.enter g args) w)
    (hp : ∀ (i : Nat) (W : World), i < n → Below w.heap.size w W → Calls Tryd.prog g (#[.int .i64 i] ++ lb) W fun e W' => e = .returned (.bool (p i)) ∧ Below W.heap.size W W') :
    Calls Tryd.prog 31 #[.int .i64 n, .func (.func g) #[] lb] w fun e w' => e = .returned (.int .i64 (runF p n 0)) ∧ Below w.heap.size w w' := by
  have HP := Lib.hid hp
  clear hp
  go_enter Tryd.func31, Tryd.ntmps31
  go_wp2
  go_loopw [7] (fun i wr => ∃ k : Nat, k ≤ n ∧ i = .int .i64 k ∧ Hid (runF p (n - k) k = runF p n 0) ∧ Below w.heap.size w wr) (fun i _ => n - (intOf i).toNat)
  case atStart => exact ⟨0, Nat.zero_le _, rfl, rfl, Below.refl _ _⟩
  case round =>
    obtain ⟨k, hk, rfl, hr, hb⟩ := hrel
    by_cases hlt : k < n
    · have hstep := hr.out
      rw [show n - k = (n - k - 1) + 1 by omega, runF] at hstep
      have C := Lib.hid (HP.out k wr hlt hb)
      by_cases hpk : p k = true
      · rw [if_pos hpk] at hstep
        rw [hpk] at C
        have HS : Hid (runF p (n - (k + 1)) (k + 1) = runF p n 0) := by show _ = _; rw [← hstep]; congr 1
        clear hstep hpk hr
        go_wp2_with fail
        refine C.out.mono ?_
        rintro e w1 ⟨rfl, hb1⟩
        go_wp2
        go_roundw
        case rel => exact ⟨k + 1, by omega, by go_num, HS, hb.trans (hb1.mono hb.size)⟩
        case measure => simp [intOf]; omega
      · rw [if_neg hpk] at hstep
        have hpf : p k = false := (Bool.not_eq_true _).mp hpk
        rw [hpf] at C
        have HS : Hid (runF p n 0 = k) := hstep.symm
        clear hstep hpk hpf hr
        go_wp2_with fail
        refine C.out.mono ?_
        rintro e w1 ⟨rfl, hb1⟩
        go_wp2
        go_ret
        exact ⟨ret_int (by rw [HS.out]), hb.trans (hb1.mono hb.size)⟩
    · have HS : Hid (runF p n 0 = n) := by
        show _ = _; rw [← hr.out, show n - k = 0 by omega, runF]; omega
      clear hr
      go_wp2
      go_ret
      exact ⟨ret_int (by rw [HS.out]), hb⟩
end Go.Proofs.YtlhbfgkcalalkaaDoor
