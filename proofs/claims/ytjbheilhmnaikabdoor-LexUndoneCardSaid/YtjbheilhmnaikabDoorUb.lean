/- The walk of LexUndone. -/
import Derived.Test.YtjbheilhmnaikabDoorUa
set_option linter.unusedVariables false
set_option linter.unusedSimpArgs false
namespace Go.Proofs.YtjbheilhmnaikabDoor
open Go.RowKit Go.Shelf

set_option maxRecDepth 100000 in
theorem short_any (s : ByteArray) (w : World) (hs : s.size ≤ 3000) :
    Calls Tryd.prog 11 #[.string s] w fun e w' => e = .returned (.bool true) ∧ w = w' := by
  have hi : ((s.size : Int)) ≤ 3000 := by omega
  have hb : decide ((s.size : Int) ≤ 3000) = true := decide_eq_true hi
  go_enter Tryd.func11, Tryd.ntmps11
  go_wp2
  go_ret
  exact ⟨by simp [hs], rfl⟩

theorem splF_put {s : List UInt8} {x : Ed} : x.2.2.length ≤ (splF s x).length := by unfold splF; simp; omega

set_option maxRecDepth 100000 in
set_option maxHeartbeats 4000000 in
theorem undone_any (s : List UInt8) (x : Ed) (w : World) (hs : s.length ≤ 140737488355328) (hput : x.2.2.length ≤ 140737488355328) (he : ErrOk w) :
    Calls Tryd.prog 4 #[.string (mkS s), edV x] w fun e w' => e = .returned (.bool true) ∧ Below w.heap.size w w' := by
  have CA : Hid (∀ W, Calls Tryd.prog 10 #[.string (mkS s), .agg #[.int .i64 x.1, .int .i64 x.2.1, .string (mkS x.2.2)]] W fun e w' => e = .returned (.tuple #[.string (mkS (applyF s x)), .int .i64 (doE s x)]) ∧ Below W.heap.size W w') := fun W => apply_any s x W hs hput
  have CW : Hid (∀ W, Below w.heap.size w W → Calls Tryd.prog 9 #[] W fun e w' => e = .returned (.bool true) ∧ Below W.heap.size W w') := fun W hW => awake_any W (he.below hW)
  by_cases h : doE s x = 0
  · have hsl := chkE_len (doE_parts h).1
    have htl := chkE_len (doE_parts h).2.2
    have hpl : x.2.2.length ≤ 2500 := Nat.le_trans splF_put htl
    obtain ⟨u1, u2, u3⟩ := undo_spl h
    obtain ⟨t, ht⟩ : ∃ t, t = splF s x := ⟨_, rfl⟩
    obtain ⟨y, hy⟩ : ∃ y, y = undoF s x := ⟨_, rfl⟩
    have hap : applyF s x = t := by unfold applyF; rw [if_pos h, ht]
    have hyl : y.2.2.length ≤ 2500 := by
      rw [hy]; unfold undoF; rw [if_pos h]
      have h5 := List.length_take_le' x.2.1.toNat s
      simp; omega
    rw [hap, h] at CA
    rw [← ht, ← hy] at u1 u2 u3
    rw [← ht] at htl
    have CU : Hid (∀ W, Calls Tryd.prog 12 #[.string (mkS s), .agg #[.int .i64 x.1, .int .i64 x.2.1, .string (mkS x.2.2)]] W fun e w' => e = .returned (.tuple #[.agg #[.int .i64 y.1, .int .i64 y.2.1, .string (mkS y.2.2)], .int .i64 0]) ∧ Below W.heap.size W w') := fun W => by
      have := undo_any s x W hs hput; rw [h, ← hy] at this; exact this
    have CA2 : Hid (∀ W, Calls Tryd.prog 10 #[.string (mkS t), .agg #[.int .i64 y.1, .int .i64 y.2.1, .string (mkS y.2.2)]] W fun e w' => e = .returned (.tuple #[.string (mkS s), .int .i64 0]) ∧ Below W.heap.size W w') := fun W => by
      have := apply_any t y W (by omega) (by omega)
      have e : applyF t y = s := by unfold applyF; rw [if_pos u1, u2]
      rw [u1, e] at this; exact this
    have CU2 : Hid (∀ W, Calls Tryd.prog 12 #[.string (mkS t), .agg #[.int .i64 y.1, .int .i64 y.2.1, .string (mkS y.2.2)]] W fun e w' => e = .returned (.tuple #[.agg #[.int .i64 x.1, .int .i64 x.2.1, .string (mkS x.2.2)], .int .i64 0]) ∧ Below W.heap.size W w') := fun W => by
      have := undo_any t y W (by omega) (by omega); rw [u1, u3] at this; exact this
    have CS1 : Hid (∀ W, Calls Tryd.prog 11 #[.string (mkS s)] W fun e w' => e = .returned (.bool true) ∧ W = w') := fun W => short_any (mkS s) W (by rw [mkS_size]; omega)
    have CS2 : Hid (∀ W, Calls Tryd.prog 11 #[.string (mkS x.2.2)] W fun e w' => e = .returned (.bool true) ∧ W = w') := fun W => short_any (mkS x.2.2) W (by rw [mkS_size]; omega)
    unfold edV
    clear h hsl htl hpl u1 u2 u3 ht hy hap hyl hs hput he
    go_enter Tryd.func4, Tryd.ntmps4
    go_wp2_with fail
    refine (CA.out _).mono ?_
    rintro e w1 ⟨rfl, hb1⟩
    have hB1 : Below w.heap.size w w1 := ((Below.refl _ _).alloc (Nat.le_refl _) _).trans (hb1.mono (by simp))
    have k0 : w1.cell? ⟨w.heap.size, 0, none⟩ = some (.int .i64 x.1) := (hb1.cell (by simp)).trans (by simp [go_sem])
    have k1 : w1.cell? ⟨w.heap.size, 1, none⟩ = some (.int .i64 x.2.1) := (hb1.cell (by simp)).trans (by simp [go_sem])
    have k2 : w1.cell? ⟨w.heap.size, 2, none⟩ = some (.string (mkS x.2.2)) := (hb1.cell (by simp)).trans (by simp [go_sem])
    have HB1 := Lib.hid hB1
    clear hb1 hB1
    go_wp2_with fail
    refine (CS1.out _).mono ?_
    rintro e w' ⟨rfl, rfl⟩
    go_wp2_with fail
    refine (CS2.out _).mono ?_
    rintro e w' ⟨rfl, rfl⟩
    go_wp2_with fail
    refine (CU.out _).mono ?_
    rintro e w2 ⟨rfl, hb2⟩
    have K0 := Lib.hid ((hb2.cell (cell_lt k0)).trans k0)
    have K1 := Lib.hid ((hb2.cell (cell_lt k1)).trans k1)
    have K2 := Lib.hid ((hb2.cell (cell_lt k2)).trans k2)
    have HB2 := Lib.hid (HB1.out.trans (hb2.mono HB1.out.size))
    clear hb2 k0 k1 k2
    go_wp2_with fail
    refine (CA2.out _).mono ?_
    rintro e w3 ⟨rfl, hb3⟩
    have hB3 : Below w2.heap.size w2 w3 := ((Below.refl _ _).alloc (Nat.le_refl _) _).trans (hb3.mono (by simp))
    have y0 : w3.cell? ⟨w2.heap.size, 0, none⟩ = some (.int .i64 y.1) := (hb3.cell (by simp)).trans (by simp [go_sem])
    have y1 : w3.cell? ⟨w2.heap.size, 1, none⟩ = some (.int .i64 y.2.1) := (hb3.cell (by simp)).trans (by simp [go_sem])
    have y2 : w3.cell? ⟨w2.heap.size, 2, none⟩ = some (.string (mkS y.2.2)) := (hb3.cell (by simp)).trans (by simp [go_sem])
    have L0 := Lib.hid ((hB3.cell (cell_lt K0.out)).trans K0.out)
    have L1 := Lib.hid ((hB3.cell (cell_lt K1.out)).trans K1.out)
    have L2 := Lib.hid ((hB3.cell (cell_lt K2.out)).trans K2.out)
    have HB3 := Lib.hid (HB2.out.trans (hB3.mono HB2.out.size))
    clear hb3 hB3
    go_wp2_with fail
    refine (CU2.out _).mono ?_
    rintro e w4 ⟨rfl, hb4⟩
    have m0 := (hb4.cell (cell_lt L0.out)).trans L0.out
    have m1 := (hb4.cell (cell_lt L1.out)).trans L1.out
    have m2 := (hb4.cell (cell_lt L2.out)).trans L2.out
    have lw : w.heap.size < w4.heap.size := cell_lt m0
    have hB4 : Below w.heap.size w w4 := HB3.out.trans (hb4.mono HB3.out.size)
    have HB4 := Lib.hid hB4
    clear hb4 hB4 y0 y1 y2
    go_wp2_with fail
    refine (CW.out _ (HB4.out.alloc HB4.out.size _)).mono ?_
    rintro e w5 ⟨rfl, hb5⟩
    have hF : Below w.heap.size w w5 := (HB4.out.alloc HB4.out.size _).trans (hb5.mono (by simp; have := HB4.out.size; omega))
    clear hb5
    go_wp2
    go_ret
    exact ⟨ret_bool rfl, hF⟩
  · obtain ⟨E, hE⟩ : ∃ E : Int, E = doE s x := ⟨_, rfl⟩
    have hb0 : (E != 0) = true := by rw [bne_iff_ne, hE]; omega
    rw [← hE] at CA
    unfold edV
    clear h hE hs hput he
    go_enter Tryd.func4, Tryd.ntmps4
    go_wp2_with fail
    refine (CA.out _).mono ?_
    rintro e w1 ⟨rfl, hb1⟩
    have hB1 : Below w.heap.size w w1 := ((Below.refl _ _).alloc (Nat.le_refl _) _).trans (hb1.mono (by simp))
    clear hb1
    go_wp2_with fail
    refine (CW.out _ hB1).mono ?_
    rintro e w5 ⟨rfl, hb5⟩
    have hF : Below w.heap.size w w5 := hB1.trans (hb5.mono hB1.size)
    clear hb5
    go_wp2
    go_ret
    exact ⟨ret_bool rfl, hF⟩
end Go.Proofs.YtjbheilhmnaikabDoor
