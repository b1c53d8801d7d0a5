/- The walk of LexScans. -/
import Derived.Test.YtlhbfgkcalalkaaGreatDoorYb
import Derived.Test.YtlhbfgkcalalkaaGreatDoorFb
import Derived.Test.YtlhbfgkcalalkaaGreatDoorIc
import Derived.Test.YtlhbfgkcalalkaaGreatDoorLb
import Derived.Test.YtlhbfgkcalalkaaGreatDoorQa
set_option linter.unusedVariables false
set_option linter.unusedSimpArgs false
namespace Go.Proofs.YtlhbfgkcalalkaaGreatDoor
open Go.RowKit Go.Shelf

set_option maxRecDepth 100000 in
set_option maxHeartbeats 4000000 in
theorem scans_any (s : List UInt8) (w : World) (hs : s.length ≤ 140737488355328) (he : ErrOk w) :
    Calls Tryz.prog 3 #[.string (mkS s)] w fun e w' => e = .returned (.bool true) ∧ Below w.heap.size w w' := by
  have CW : Hid (∀ W, Below w.heap.size w W → Calls Tryz.prog 9 #[] W fun e w' => e = .returned (.bool true) ∧ Below W.heap.size W w') := fun W hW => awake_any W (he.below hW)
  have hB0 : Below w.heap.size w w := Below.refl _ _
  by_cases h1 : s.length ≤ 3000
  · obtain ⟨ls, hls⟩ : ∃ ls, ls = (scanF s).1 := ⟨_, rfl⟩
    obtain ⟨A, hA⟩ : ∃ A : Int, A = (scanF s).2.1 := ⟨_, rfl⟩
    obtain ⟨E, hE⟩ : ∃ E : Int, E = (scanF s).2.2 := ⟨_, rfl⟩
    have hl : ls.length ≤ 900 := by rw [hls]; exact scanF_len s
    have HL := Lib.hid hl
    have CS1 : Hid (∀ W, Calls Tryz.prog 8 #[.string (mkS s)] W fun e w' => e = .returned (.bool true) ∧ W = w') := fun W => short_yes s W h1
    have C1 : Hid (∀ W, Below w.heap.size w W → Calls Tryz.prog 10 #[.string (mkS s)] W (ScanP ls A E W)) := fun W hW => by
      rw [hls, hA, hE]; exact scanP s W (by omega) (he.below hW)
    have C2 : Hid (∀ W, Calls Tryz.prog 11 #[.string (mkS s)] W (ScanP ls A E W)) := fun W => by
      rw [hls, hA, hE]; exact refScan_any s W (by omega)
    clear hls hA hE hl h1 hs he
    go_enter Tryz.func3, Tryz.ntmps3
    go_wp2_with fail
    refine (CS1.out _).mono ?_
    rintro e w' ⟨rfl, rfl⟩
    go_wp2_with fail
    refine (C1.out _ hB0).mono ?_
    rintro e w1 ⟨v1, rfl, hown1, hb1⟩
    have HB1 := Lib.hid hb1
    have R1 := Lib.hid (reads_own hown1 (by have := HL.out; omega))
    clear hown1 hb1
    go_wp2_with fail
    refine (C2.out _).mono ?_
    rintro e w2 ⟨v2, rfl, hown2, hb2⟩
    have HB2 := Lib.hid (HB1.out.trans (hb2.mono HB1.out.size))
    have R1' := Lib.hid (R1.out.below hb2)
    have R2 := Lib.hid (reads_own hown2 (by have := HL.out; omega))
    have CE : Hid (∀ W, ReadsLx W v1 ls → ReadsLx W v2 ls → Calls Tryz.prog 12 #[v1, v2] W fun e w' => e = .returned (.bool true) ∧ Below W.heap.size W w') := fun W h1 h2 => by
      have := same_any v1 v2 ls ls W h1 h2
      rw [show (ls == ls) = true by simp] at this; exact this
    clear hown2 hb2
    go_wp2_with fail
    refine (CE.out _ R1'.out R2.out).mono ?_
    rintro e w3 ⟨rfl, hb3⟩
    have HB3 := Lib.hid (HB2.out.trans (hb3.mono HB2.out.size))
    clear hb3
    go_wp2_with fail
    refine (CW.out _ HB3.out).mono ?_
    rintro e w5 ⟨rfl, hb5⟩
    have hF : Below w.heap.size w w5 := HB3.out.trans (hb5.mono HB3.out.size)
    clear hb5
    go_wp2
    go_ret
    exact ⟨ret_bool rfl, hF⟩
  · have CS1 : Hid (∀ W, Calls Tryz.prog 8 #[.string (mkS s)] W fun e w' => e = .returned (.bool false) ∧ W = w') := fun W => short_no s W h1
    clear h1 hs he
    go_enter Tryz.func3, Tryz.ntmps3
    go_wp2_with fail
    refine (CS1.out _).mono ?_
    rintro e w' ⟨rfl, rfl⟩
    go_wp2_with fail
    refine (CW.out _ hB0).mono ?_
    rintro e w5 ⟨rfl, hb5⟩
    go_wp2
    go_ret
    exact ⟨ret_bool rfl, hb5⟩
end Go.Proofs.YtlhbfgkcalalkaaGreatDoor
