/- The walk of LexTwo. -/
import Derived.Test.YthmhklmoodffcaaDoorVa
import Derived.Test.YthmhklmoodffcaaDoorQa
set_option linter.unusedVariables false
set_option linter.unusedSimpArgs false
namespace Go.Proofs.YthmhklmoodffcaaDoor
open Go.RowKit Go.Shelf

theorem applyF_len (s : List UInt8) (x : Ed) : (applyF s x).length ≤ 2500 := by
  unfold applyF
  split
  · rename_i h; exact chkE_len (doE_parts h).2.2
  · simp

set_option maxRecDepth 100000 in
set_option maxHeartbeats 4000000 in
theorem two_in (s t u : List UInt8) (x y z : Ed) (w : World) (he : ErrOk w) (hs : s.length ≤ 3000) (hp : x.2.2.length ≤ 3000) (hq : y.2.2.length ≤ 3000) (hz1 : z.1 ≤ x.1) (hz2 : x.2.1 ≤ z.2.1)
    (CA : Hid (∀ W, Calls Tryd.prog 24 #[.string (mkS s), .agg #[.int .i64 x.1, .int .i64 x.2.1, .string (mkS x.2.2)]] W fun e w' => e = .returned (.tuple #[.string (mkS t), .int .i64 0]) ∧ Below W.heap.size W w'))
    (CA2 : Hid (∀ W, Calls Tryd.prog 24 #[.string (mkS t), .agg #[.int .i64 y.1, .int .i64 y.2.1, .string (mkS y.2.2)]] W fun e w' => e = .returned (.tuple #[.string (mkS u), .int .i64 0]) ∧ Below W.heap.size W w'))
    (CB : Hid (∀ W, Calls Tryd.prog 30 #[.string (mkS s), .agg #[.int .i64 x.1, .int .i64 x.2.1, .string (mkS x.2.2)], .agg #[.int .i64 y.1, .int .i64 y.2.1, .string (mkS y.2.2)]] W fun e w' => e = .returned (.tuple #[.agg #[.int .i64 z.1, .int .i64 z.2.1, .string (mkS z.2.2)], .int .i64 0]) ∧ Below W.heap.size W w'))
    (CA3 : Hid (∀ W, Calls Tryd.prog 24 #[.string (mkS s), .agg #[.int .i64 z.1, .int .i64 z.2.1, .string (mkS z.2.2)]] W fun e w' => e = .returned (.tuple #[.string (mkS u), .int .i64 0]) ∧ Below W.heap.size W w')) :
    Calls Tryd.prog 12 #[.string (mkS s), .agg #[.int .i64 x.1, .int .i64 x.2.1, .string (mkS x.2.2)], .agg #[.int .i64 y.1, .int .i64 y.2.1, .string (mkS y.2.2)]] w fun e w' => e = .returned (.bool true) ∧ Below w.heap.size w w' := by
  have CW : Hid (∀ W, Below w.heap.size w W → Calls Tryd.prog 16 #[] W fun e w' => e = .returned (.bool true) ∧ Below W.heap.size W w') := fun W hW => awake_any W (he.below hW)
  have CS1 : Hid (∀ W, Calls Tryd.prog 15 #[.string (mkS s)] W fun e w' => e = .returned (.bool true) ∧ W = w') := fun W => short_yes s W hs
  have CS2 : Hid (∀ W, Calls Tryd.prog 15 #[.string (mkS x.2.2)] W fun e w' => e = .returned (.bool true) ∧ W = w') := fun W => short_yes x.2.2 W hp
  have CS3 : Hid (∀ W, Calls Tryd.prog 15 #[.string (mkS y.2.2)] W fun e w' => e = .returned (.bool true) ∧ W = w') := fun W => short_yes y.2.2 W hq
  have b1 : decide (z.1 ≤ x.1) = true := decide_eq_true hz1
  have b2 : decide (x.2.1 ≤ z.2.1) = true := decide_eq_true hz2
  have b3 : decide (z.2.1 ≥ x.2.1) = true := decide_eq_true hz2
  clear hs hp hq he
  go_enter Tryd.func12, Tryd.ntmps12
  go_wp2_with fail
  refine (CA.out _).mono ?_
  rintro e w1 ⟨rfl, hb1⟩
  have hB1 : Below w.heap.size w w1 := (((Below.refl _ _).alloc (Nat.le_refl _) _).alloc (by simp) _).trans (hb1.mono (by simp; omega))
  have K0 := Lib.hid (show w1.cell? ⟨w.heap.size, 0, none⟩ = some (.int .i64 x.1) from (hb1.cell (by simp; omega)).trans (by simp [go_sem]))
  have K1 := Lib.hid (show w1.cell? ⟨w.heap.size, 1, none⟩ = some (.int .i64 x.2.1) from (hb1.cell (by simp; omega)).trans (by simp [go_sem]))
  have K2 := Lib.hid (show w1.cell? ⟨w.heap.size, 2, none⟩ = some (.string (mkS x.2.2)) from (hb1.cell (by simp; omega)).trans (by simp [go_sem]))
  have l0 : w1.cell? ⟨w.heap.size + 1, 0, none⟩ = some (.int .i64 y.1) := (hb1.cell (by simp)).trans (by simp [go_sem])
  have l1 : w1.cell? ⟨w.heap.size + 1, 1, none⟩ = some (.int .i64 y.2.1) := (hb1.cell (by simp)).trans (by simp [go_sem])
  have l2 : w1.cell? ⟨w.heap.size + 1, 2, none⟩ = some (.string (mkS y.2.2)) := (hb1.cell (by simp)).trans (by simp [go_sem])
  have HB1 := Lib.hid hB1
  clear hb1 hB1
  go_wp2_with fail
  refine (CA2.out _).mono ?_
  rintro e w2 ⟨rfl, hb2⟩
  have k0 := (hb2.cell (cell_lt K0.out)).trans K0.out
  have k1 := (hb2.cell (cell_lt K1.out)).trans K1.out
  have k2 := (hb2.cell (cell_lt K2.out)).trans K2.out
  have m0 := (hb2.cell (cell_lt l0)).trans l0
  have m1 := (hb2.cell (cell_lt l1)).trans l1
  have m2 := (hb2.cell (cell_lt l2)).trans l2
  have HB2 := Lib.hid (HB1.out.trans (hb2.mono HB1.out.size))
  clear hb2 l0 l1 l2
  go_wp2_with fail
  refine (CS1.out _).mono ?_
  rintro e w' ⟨rfl, rfl⟩
  go_wp2_with fail
  refine (CS2.out _).mono ?_
  rintro e w' ⟨rfl, rfl⟩
  go_wp2_with fail
  refine (CS3.out _).mono ?_
  rintro e w' ⟨rfl, rfl⟩
  go_wp2_with fail
  refine (CB.out _).mono ?_
  rintro e w3 ⟨rfl, hb3⟩
  have L0 := Lib.hid ((hb3.cell (cell_lt k0)).trans k0)
  have L1 := Lib.hid ((hb3.cell (cell_lt k1)).trans k1)
  have L2 := Lib.hid ((hb3.cell (cell_lt k2)).trans k2)
  have HB3 := Lib.hid (HB2.out.trans (hb3.mono HB2.out.size))
  clear hb3 k0 k1 k2 m0 m1 m2
  go_wp2_with fail
  refine (CA3.out _).mono ?_
  rintro e w4 ⟨rfl, hb4⟩
  have hB4 : Below w3.heap.size w3 w4 := ((Below.refl _ _).alloc (Nat.le_refl _) _).trans (hb4.mono (by simp))
  have z0 : w4.cell? ⟨w3.heap.size, 0, none⟩ = some (.int .i64 z.1) := (hb4.cell (by simp)).trans (by simp [go_sem])
  have z1 : w4.cell? ⟨w3.heap.size, 1, none⟩ = some (.int .i64 z.2.1) := (hb4.cell (by simp)).trans (by simp [go_sem])
  have z2 : w4.cell? ⟨w3.heap.size, 2, none⟩ = some (.string (mkS z.2.2)) := (hb4.cell (by simp)).trans (by simp [go_sem])
  have x0 := (hB4.cell (cell_lt L0.out)).trans L0.out
  have x1 := (hB4.cell (cell_lt L1.out)).trans L1.out
  have x2 := (hB4.cell (cell_lt L2.out)).trans L2.out
  have HB4 := Lib.hid (HB3.out.trans (hB4.mono HB3.out.size))
  clear hb4 hB4
  go_wp2_with fail
  refine (CW.out _ HB4.out).mono ?_
  rintro e w5 ⟨rfl, hb5⟩
  have hF : Below w.heap.size w w5 := HB4.out.trans (hb5.mono HB4.out.size)
  clear hb5
  go_wp2
  go_ret
  exact ⟨ret_bool rfl, hF⟩

set_option maxRecDepth 100000 in
set_option maxHeartbeats 4000000 in
theorem two_out (s t u : List UInt8) (x y : Ed) (E1 E2 : Int) (w : World) (he : ErrOk w) (hE : E1 ≠ 0 ∨ (E1 = 0 ∧ E2 ≠ 0))
    (CA : Hid (∀ W, Calls Tryd.prog 24 #[.string (mkS s), .agg #[.int .i64 x.1, .int .i64 x.2.1, .string (mkS x.2.2)]] W fun e w' => e = .returned (.tuple #[.string (mkS t), .int .i64 E1]) ∧ Below W.heap.size W w'))
    (CA2 : Hid (∀ W, Calls Tryd.prog 24 #[.string (mkS t), .agg #[.int .i64 y.1, .int .i64 y.2.1, .string (mkS y.2.2)]] W fun e w' => e = .returned (.tuple #[.string (mkS u), .int .i64 E2]) ∧ Below W.heap.size W w')) :
    Calls Tryd.prog 12 #[.string (mkS s), .agg #[.int .i64 x.1, .int .i64 x.2.1, .string (mkS x.2.2)], .agg #[.int .i64 y.1, .int .i64 y.2.1, .string (mkS y.2.2)]] w fun e w' => e = .returned (.bool true) ∧ Below w.heap.size w w' := by
  have CW : Hid (∀ W, Below w.heap.size w W → Calls Tryd.prog 16 #[] W fun e w' => e = .returned (.bool true) ∧ Below W.heap.size W w') := fun W hW => awake_any W (he.below hW)
  clear he
  rcases hE with h1 | ⟨rfl, h2⟩
  · have b1 : (E1 != 0) = true := by rw [bne_iff_ne]; exact h1
    clear h1
    go_enter Tryd.func12, Tryd.ntmps12
    go_wp2_with fail
    refine (CA.out _).mono ?_
    rintro e w1 ⟨rfl, hb1⟩
    have hB1 : Below w.heap.size w w1 := (((Below.refl _ _).alloc (Nat.le_refl _) _).alloc (by simp) _).trans (hb1.mono (by simp; omega))
    have l0 : w1.cell? ⟨w.heap.size + 1, 0, none⟩ = some (.int .i64 y.1) := (hb1.cell (by simp)).trans (by simp [go_sem])
    have l1 : w1.cell? ⟨w.heap.size + 1, 1, none⟩ = some (.int .i64 y.2.1) := (hb1.cell (by simp)).trans (by simp [go_sem])
    have l2 : w1.cell? ⟨w.heap.size + 1, 2, none⟩ = some (.string (mkS y.2.2)) := (hb1.cell (by simp)).trans (by simp [go_sem])
    have HB1 := Lib.hid hB1
    clear hb1 hB1
    go_wp2_with fail
    refine (CA2.out _).mono ?_
    rintro e w2 ⟨rfl, hb2⟩
    have HB2 := Lib.hid (HB1.out.trans (hb2.mono HB1.out.size))
    clear hb2 l0 l1 l2
    go_wp2_with fail
    refine (CW.out _ HB2.out).mono ?_
    rintro e w5 ⟨rfl, hb5⟩
    have hF : Below w.heap.size w w5 := HB2.out.trans (hb5.mono HB2.out.size)
    clear hb5
    go_wp2
    go_ret
    exact ⟨ret_bool rfl, hF⟩
  · have b1 : (E2 != 0) = true := by rw [bne_iff_ne]; exact h2
    clear h2
    go_enter Tryd.func12, Tryd.ntmps12
    go_wp2_with fail
    refine (CA.out _).mono ?_
    rintro e w1 ⟨rfl, hb1⟩
    have hB1 : Below w.heap.size w w1 := (((Below.refl _ _).alloc (Nat.le_refl _) _).alloc (by simp) _).trans (hb1.mono (by simp; omega))
    have l0 : w1.cell? ⟨w.heap.size + 1, 0, none⟩ = some (.int .i64 y.1) := (hb1.cell (by simp)).trans (by simp [go_sem])
    have l1 : w1.cell? ⟨w.heap.size + 1, 1, none⟩ = some (.int .i64 y.2.1) := (hb1.cell (by simp)).trans (by simp [go_sem])
    have l2 : w1.cell? ⟨w.heap.size + 1, 2, none⟩ = some (.string (mkS y.2.2)) := (hb1.cell (by simp)).trans (by simp [go_sem])
    have HB1 := Lib.hid hB1
    clear hb1 hB1
    go_wp2_with fail
    refine (CA2.out _).mono ?_
    rintro e w2 ⟨rfl, hb2⟩
    have HB2 := Lib.hid (HB1.out.trans (hb2.mono HB1.out.size))
    clear hb2 l0 l1 l2
    go_wp2_with fail
    refine (CW.out _ HB2.out).mono ?_
    rintro e w5 ⟨rfl, hb5⟩
    have hF : Below w.heap.size w w5 := HB2.out.trans (hb5.mono HB2.out.size)
    clear hb5
    go_wp2
    go_ret
    exact ⟨ret_bool rfl, hF⟩
end Go.Proofs.YthmhklmoodffcaaDoor
