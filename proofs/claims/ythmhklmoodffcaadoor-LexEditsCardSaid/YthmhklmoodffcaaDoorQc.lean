/- The walk of LexEdits. -/
import Derived.Test.YthmhklmoodffcaaDoorQb
set_option linter.unusedVariables false
set_option linter.unusedSimpArgs false
namespace Go.Proofs.YthmhklmoodffcaaDoor
open Go.RowKit Go.Shelf

set_option maxRecDepth 100000 in
set_option maxHeartbeats 4000000 in
theorem edits_in (s : List UInt8) (x : Ed) (w : World) (hs : s.length ≤ 3000) (hput : x.2.2.length ≤ 3000) (he : ErrOk w) :
    Calls Tryd.prog 5 #[.string (mkS s), edV x] w fun e w' => e = .returned (.bool true) ∧ Below w.heap.size w w' := by
  obtain ⟨E, hE⟩ : ∃ E : Int, E = doE s x := ⟨_, rfl⟩
  obtain ⟨a, ha⟩ : ∃ a, a = applyF s x := ⟨_, rfl⟩
  obtain ⟨y, hy⟩ : ∃ y, y = undoF s x := ⟨_, rfl⟩
  have CW : Hid (∀ W, Below w.heap.size w W → Calls Tryd.prog 16 #[] W fun e w' => e = .returned (.bool true) ∧ Below W.heap.size W w') := fun W hW => awake_any W (he.below hW)
  have CS1 : Hid (∀ W, Calls Tryd.prog 15 #[.string (mkS s)] W fun e w' => e = .returned (.bool true) ∧ W = w') := fun W => short_yes s W hs
  have CS2 : Hid (∀ W, Calls Tryd.prog 15 #[.string (mkS x.2.2)] W fun e w' => e = .returned (.bool true) ∧ W = w') := fun W => short_yes x.2.2 W hput
  have CA : Hid (∀ W, Calls Tryd.prog 24 #[.string (mkS s), .agg #[.int .i64 x.1, .int .i64 x.2.1, .string (mkS x.2.2)]] W fun e w' => e = .returned (.tuple #[.string (mkS a), .int .i64 E]) ∧ Below W.heap.size W w') := fun W => by
    rw [hE, ha]; exact apply_any s x W (by omega) (by omega)
  have CU : Hid (∀ W, Calls Tryd.prog 25 #[.string (mkS s), .agg #[.int .i64 x.1, .int .i64 x.2.1, .string (mkS x.2.2)]] W fun e w' => e = .returned (.tuple #[.agg #[.int .i64 y.1, .int .i64 y.2.1, .string (mkS y.2.2)], .int .i64 E]) ∧ Below W.heap.size W w') := fun W => by
    rw [hE, hy]; exact undo_any s x W (by omega) (by omega)
  have CA2 : Hid (∀ W, Calls Tryd.prog 26 #[.string (mkS s), .agg #[.int .i64 x.1, .int .i64 x.2.1, .string (mkS x.2.2)]] W fun e w' => e = .returned (.tuple #[.string (mkS a), .int .i64 E]) ∧ Below W.heap.size W w') := fun W => by
    rw [hE, ha]; exact refApply_any s x W (by omega) (by omega)
  have CU2 : Hid (∀ W, Calls Tryd.prog 27 #[.string (mkS s), .agg #[.int .i64 x.1, .int .i64 x.2.1, .string (mkS x.2.2)]] W fun e w' => e = .returned (.tuple #[.agg #[.int .i64 y.1, .int .i64 y.2.1, .string (mkS y.2.2)], .int .i64 E]) ∧ Below W.heap.size W w') := fun W => by
    rw [hE, hy]; exact refUndo_any s x W (by omega) (by omega)
  unfold edV
  clear hE ha hy hs hput he
  go_enter Tryd.func5, Tryd.ntmps5
  go_wp2_with fail
  refine (CS1.out _).mono ?_
  rintro e w' ⟨rfl, rfl⟩
  go_wp2_with fail
  refine (CS2.out _).mono ?_
  rintro e w' ⟨rfl, rfl⟩
  go_wp2_with fail
  refine (CA.out _).mono ?_
  rintro e w1 ⟨rfl, hb1⟩
  have hB1 : Below w.heap.size w w1 := ((Below.refl _ _).alloc (Nat.le_refl _) _).trans (hb1.mono (by simp))
  have k0 : w1.cell? ⟨w.heap.size, 0, none⟩ = some (.int .i64 x.1) := (hb1.cell (by simp)).trans (by simp [go_sem])
  have k1 : w1.cell? ⟨w.heap.size, 1, none⟩ = some (.int .i64 x.2.1) := (hb1.cell (by simp)).trans (by simp [go_sem])
  have k2 : w1.cell? ⟨w.heap.size, 2, none⟩ = some (.string (mkS x.2.2)) := (hb1.cell (by simp)).trans (by simp [go_sem])
  have HB1 := Lib.hid hB1
  clear hb1 hB1
  go_wp2_with fail
  refine (CU.out _).mono ?_
  rintro e w2 ⟨rfl, hb2⟩
  have K0 := Lib.hid ((hb2.cell (cell_lt k0)).trans k0)
  have K1 := Lib.hid ((hb2.cell (cell_lt k1)).trans k1)
  have K2 := Lib.hid ((hb2.cell (cell_lt k2)).trans k2)
  have HB2 := Lib.hid (HB1.out.trans (hb2.mono HB1.out.size))
  have lz2 := Lib.hid (cell_lt K0.out)
  clear hb2 k0 k1 k2
  have k0 := K0.out
  have k1 := K1.out
  have k2 := K2.out
  have l2 : w.heap.size < w2.heap.size := lz2.out
  go_wp2_with fail
  refine (CA2.out _).mono ?_
  rintro e w3 ⟨rfl, hb3⟩
  have hB3 : Below w2.heap.size w2 w3 := ((Below.refl _ _).alloc (Nat.le_refl _) _).trans (hb3.mono (by simp))
  have L0 := Lib.hid ((hB3.cell (cell_lt K0.out)).trans K0.out)
  have L1 := Lib.hid ((hB3.cell (cell_lt K1.out)).trans K1.out)
  have L2 := Lib.hid ((hB3.cell (cell_lt K2.out)).trans K2.out)
  have Y0 := Lib.hid (show w3.cell? ⟨w2.heap.size, 0, none⟩ = some (.int .i64 y.1) from (hb3.cell (by simp)).trans (by simp [go_sem]))
  have Y1 := Lib.hid (show w3.cell? ⟨w2.heap.size, 1, none⟩ = some (.int .i64 y.2.1) from (hb3.cell (by simp)).trans (by simp [go_sem]))
  have Y2 := Lib.hid (show w3.cell? ⟨w2.heap.size, 2, none⟩ = some (.string (mkS y.2.2)) from (hb3.cell (by simp)).trans (by simp [go_sem]))
  have HB3 := Lib.hid (HB2.out.trans (hB3.mono HB2.out.size))
  clear hb3 hB3 k0 k1 k2 l2
  have k0 := L0.out
  have k1 := L1.out
  have k2 := L2.out
  go_wp2_with fail
  refine (CU2.out _).mono ?_
  rintro e w4 ⟨rfl, hb4⟩
  have m0 := (hb4.cell (cell_lt Y0.out)).trans Y0.out
  have m1 := (hb4.cell (cell_lt Y1.out)).trans Y1.out
  have m2 := (hb4.cell (cell_lt Y2.out)).trans Y2.out
  have lw : w2.heap.size < w4.heap.size := cell_lt m0
  have hB4 : Below w.heap.size w w4 := HB3.out.trans (hb4.mono HB3.out.size)
  have HB4 := Lib.hid hB4
  clear hb4 hB4 k0 k1 k2
  go_wp2_with fail
  refine (CW.out _ (HB4.out.alloc HB4.out.size _)).mono ?_
  rintro e w5 ⟨rfl, hb5⟩
  have hF : Below w.heap.size w w5 := (HB4.out.alloc HB4.out.size _).trans (hb5.mono (by simp; have := HB4.out.size; omega))
  clear hb5
  go_wp2
  go_ret
  exact ⟨ret_bool rfl, hF⟩

set_option maxRecDepth 100000 in
set_option maxHeartbeats 4000000 in
theorem edits_any (s : List UInt8) (x : Ed) (w : World) (hs : s.length ≤ 140737488355328) (hput : x.2.2.length ≤ 140737488355328) (he : ErrOk w) :
    Calls Tryd.prog 5 #[.string (mkS s), edV x] w fun e w' => e = .returned (.bool true) ∧ Below w.heap.size w w' := by
  have CW : Hid (∀ W, Below w.heap.size w W → Calls Tryd.prog 16 #[] W fun e w' => e = .returned (.bool true) ∧ Below W.heap.size W w') := fun W hW => awake_any W (he.below hW)
  by_cases h1 : s.length ≤ 3000
  · by_cases h2 : x.2.2.length ≤ 3000
    · exact edits_in s x w h1 h2 he
    · have CS1 : Hid (∀ W, Calls Tryd.prog 15 #[.string (mkS s)] W fun e w' => e = .returned (.bool true) ∧ W = w') := fun W => short_yes s W h1
      have CS2 : Hid (∀ W, Calls Tryd.prog 15 #[.string (mkS x.2.2)] W fun e w' => e = .returned (.bool false) ∧ W = w') := fun W => short_no x.2.2 W h2
      unfold edV
      clear h1 h2 hs hput he
      go_enter Tryd.func5, Tryd.ntmps5
      go_wp2_with fail
      refine (CS1.out _).mono ?_
      rintro e w' ⟨rfl, rfl⟩
      go_wp2_with fail
      refine (CS2.out _).mono ?_
      rintro e w' ⟨rfl, rfl⟩
      have hB1 : Below w.heap.size w (w.alloc (.cells #[.int .i64 x.1, .int .i64 x.2.1, .string (mkS x.2.2)] 34)) := (Below.refl _ _).alloc (Nat.le_refl _) _
      go_wp2_with fail
      refine (CW.out _ hB1).mono ?_
      rintro e w5 ⟨rfl, hb5⟩
      have hF : Below w.heap.size w w5 := hB1.trans (hb5.mono hB1.size)
      clear hb5
      go_wp2
      go_ret
      exact ⟨ret_bool rfl, hF⟩
  · have CS1 : Hid (∀ W, Calls Tryd.prog 15 #[.string (mkS s)] W fun e w' => e = .returned (.bool false) ∧ W = w') := fun W => short_no s W h1
    unfold edV
    clear h1 hs hput he
    go_enter Tryd.func5, Tryd.ntmps5
    go_wp2_with fail
    refine (CS1.out _).mono ?_
    rintro e w' ⟨rfl, rfl⟩
    have hB1 : Below w.heap.size w (w.alloc (.cells #[.int .i64 x.1, .int .i64 x.2.1, .string (mkS x.2.2)] 34)) := (Below.refl _ _).alloc (Nat.le_refl _) _
    go_wp2_with fail
    refine (CW.out _ hB1).mono ?_
    rintro e w5 ⟨rfl, hb5⟩
    have hF : Below w.heap.size w w5 := hB1.trans (hb5.mono hB1.size)
    clear hb5
    go_wp2
    go_ret
    exact ⟨ret_bool rfl, hF⟩
end Go.Proofs.YthmhklmoodffcaaDoor
