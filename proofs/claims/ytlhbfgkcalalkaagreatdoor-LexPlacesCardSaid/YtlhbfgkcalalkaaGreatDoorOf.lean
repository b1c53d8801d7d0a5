/- The walk of LexPlaces. -/
import Derived.Test.YtlhbfgkcalalkaaGreatDoorOe
import Derived.Test.YtlhbfgkcalalkaaGreatDoorLb
import Derived.Test.YtlhbfgkcalalkaaGreatDoorQa
set_option linter.unusedVariables false
set_option linter.unusedSimpArgs false
namespace Go.Proofs.YtlhbfgkcalalkaaGreatDoor
open Go.RowKit Go.Shelf

set_option maxRecDepth 100000 in
set_option maxHeartbeats 4000000 in
theorem places_in (s : List UInt8) (a L C : Int) (w : World) (hLb : -9223372036854775808 ≤ L ∧ L ≤ 9223372036854775807) (hCb : -9223372036854775808 ≤ C ∧ C ≤ 9223372036854775807) (hs : s.length ≤ 3000) (hn : ¬ (400 < s.length ∧ s.length ≤ 2500)) (he : ErrOk w) :
    Calls Tryz.prog 5 #[.string (mkS s), .int .i64 a, .agg #[.int .i64 L, .int .i64 C]] w fun e w' => e = .returned (.bool true) ∧ Below w.heap.size w w' := by
  have CW : Hid (∀ W, Below w.heap.size w W → Calls Tryz.prog 9 #[] W fun e w' => e = .returned (.bool true) ∧ Below W.heap.size W w') := fun W hW => awake_any W (he.below hW)
  have CS1 : Hid (∀ W, Calls Tryz.prog 8 #[.string (mkS s)] W fun e w' => e = .returned (.bool true) ∧ W = w') := fun W => short_yes s W hs
  obtain ⟨P, hP⟩ : ∃ P : Int, P = (whereF s a).1.1 := ⟨_, rfl⟩
  obtain ⟨Q, hQ⟩ : ∃ Q : Int, Q = (whereF s a).1.2 := ⟨_, rfl⟩
  obtain ⟨E, hE⟩ : ∃ E : Int, E = (whereF s a).2 := ⟨_, rfl⟩
  obtain ⟨A, hA⟩ : ∃ A : Int, A = (atF s L C).1 := ⟨_, rfl⟩
  obtain ⟨F, hF⟩ : ∃ F : Int, F = (atF s L C).2 := ⟨_, rfl⟩
  have C1 : Hid (∀ W, Calls Tryz.prog 16 #[.string (mkS s), .int .i64 a] W fun e w' => e = .returned (.tuple #[.agg #[.int .i64 P, .int .i64 Q], .int .i64 E]) ∧ Below W.heap.size W w') := fun W => by
    rw [hP, hQ, hE]; exact where_any s a W (by omega)
  have C2 : Hid (∀ W, Calls Tryz.prog 18 #[.string (mkS s), .int .i64 a] W fun e w' => e = .returned (.tuple #[.agg #[.int .i64 P, .int .i64 Q], .int .i64 E]) ∧ Below W.heap.size W w') := fun W => by
    rw [hP, hQ, hE]; exact refWhere_any s a W (by omega)
  have C3 : Hid (∀ W, Calls Tryz.prog 17 #[.string (mkS s), .agg #[.int .i64 L, .int .i64 C]] W fun e w' => e = .returned (.tuple #[.int .i64 A, .int .i64 F]) ∧ Below W.heap.size W w') := fun W => by
    rw [hA, hF]; exact at_any s L C W hLb hCb (by omega)
  have C4 : Hid (∀ W, Calls Tryz.prog 19 #[.string (mkS s), .agg #[.int .i64 L, .int .i64 C]] W fun e w' => e = .returned (.tuple #[.int .i64 A, .int .i64 F]) ∧ Below W.heap.size W w') := fun W => by
    rw [hA, hF]; exact refAt_any s L C W (by omega)
  have HX : Hid (∀ W, Below (w.heap.size + 1) (w.alloc (.cells #[.int .i64 L, .int .i64 C] 33)) W → W.cell? ⟨w.heap.size, 0, none⟩ = some (.int .i64 L) ∧ W.cell? ⟨w.heap.size, 1, none⟩ = some (.int .i64 C) ∧ w.heap.size < W.heap.size ∧ Below w.heap.size w W) := fun W hW => by
    refine ⟨?_, ?_, ?_, ((Below.refl _ _).alloc (Nat.le_refl _) _).trans (hW.mono (by omega))⟩
    · rw [hW.cell (by simp)]; simp [go_sem]
    · rw [hW.cell (by simp)]; simp [go_sem]
    · have := hW.size; simp at this; omega
  have hsz : (mkS s).size = s.length := mkS_size s
  clear hP hQ hE hA hF he
  have main : Hid (∀ (g1 : Bool) (g2 : Bool), decide ((400 : Int) < ((mkS s).size : Int)) = g1 → decide (((mkS s).size : Int) ≤ 2500) = g2 → (g1 && g2) = false → (decide (400 < (mkS s).size) = g1) → (decide ((mkS s).size ≤ 2500) = g2) →
      Calls Tryz.prog 5 #[.string (mkS s), .int .i64 a, .agg #[.int .i64 L, .int .i64 C]] w fun e w' => e = .returned (.bool true) ∧ Below w.heap.size w w') := by
    intro g1 g2 e1 e2 e3 e4 e5
    clear hsz hs hn hLb hCb
    have rest : True := trivial
    cases g1 with
    | false =>
      clear e2 e3 e5
      go_enter Tryz.func5, Tryz.ntmps5
      go_wp2_with fail
      refine (CS1.out _).mono ?_
      rintro e w' ⟨rfl, rfl⟩
      go_wp2_with fail
      refine (C1.out _).mono ?_
      rintro e w1 ⟨rfl, hb1⟩
      have HB1 : Hid (Below (w.heap.size + 1) (w.alloc (.cells #[.int .i64 L, .int .i64 C] 33)) w1) := by
        show Below _ _ _
        simpa using hb1
      obtain ⟨k0, k1, hz, _⟩ := HX.out _ HB1.out
      clear hb1
      go_wp2_with fail
      refine (C3.out _).mono ?_
      rintro e w2 ⟨rfl, hb2⟩
      have m0 : w2.cell? ⟨w1.heap.size, 0, none⟩ = some (.int .i64 P) := (hb2.cell (by simp)).trans (by simp [go_sem])
      have m1 : w2.cell? ⟨w1.heap.size, 1, none⟩ = some (.int .i64 Q) := (hb2.cell (by simp)).trans (by simp [go_sem])
      have HB12 : Hid (Below w1.heap.size w1 w2) := ((Below.refl _ _).alloc (Nat.le_refl _) _).trans (hb2.mono (by simp))
      have HB2 : Hid (Below (w.heap.size + 1) (w.alloc (.cells #[.int .i64 L, .int .i64 C] 33)) w2) := HB1.out.trans (HB12.out.mono (by have := HB1.out.size; simpa using this))
      have M0 := Lib.hid m0; have M1 := Lib.hid m1
      clear hb2 k0 k1 hz m0 m1
      go_wp2_with fail
      refine (C2.out _).mono ?_
      rintro e w3 ⟨rfl, hb3⟩
      have lw1 : w1.heap.size < w2.heap.size := cell_lt M0.out
      have M03 : Hid (w3.cell? ⟨w1.heap.size, 0, none⟩ = some (.int .i64 P)) := (hb3.cell lw1).trans M0.out
      have M13 : Hid (w3.cell? ⟨w1.heap.size, 1, none⟩ = some (.int .i64 Q)) := (hb3.cell lw1).trans M1.out
      have HB3 : Hid (Below (w.heap.size + 1) (w.alloc (.cells #[.int .i64 L, .int .i64 C] 33)) w3) := HB2.out.trans (hb3.mono (by have := HB2.out.size; simpa using this))
      obtain ⟨k0, k1, hz, _⟩ := HX.out _ HB3.out
      clear hb3
      go_wp2_with fail
      refine (C4.out _).mono ?_
      rintro e w4 ⟨rfl, hb4⟩
      have lw3 : w1.heap.size < w3.heap.size := cell_lt M03.out
      have m0 : w4.cell? ⟨w1.heap.size, 0, none⟩ = some (.int .i64 P) := (hb4.cell (by simp; omega)).trans (by rw [World.cell?_alloc_old _ _ _ (by simp only; omega)]; exact M03.out)
      have m1 : w4.cell? ⟨w1.heap.size, 1, none⟩ = some (.int .i64 Q) := (hb4.cell (by simp; omega)).trans (by rw [World.cell?_alloc_old _ _ _ (by simp only; omega)]; exact M13.out)
      have p0 : w4.cell? ⟨w3.heap.size, 0, none⟩ = some (.int .i64 P) := (hb4.cell (by simp)).trans (by simp [go_sem])
      have p1 : w4.cell? ⟨w3.heap.size, 1, none⟩ = some (.int .i64 Q) := (hb4.cell (by simp)).trans (by simp [go_sem])
      have lw4 : w1.heap.size < w4.heap.size := cell_lt m0
      have lw5 : w3.heap.size < w4.heap.size := cell_lt p0
      have HB4 : Hid (Below (w.heap.size + 1) (w.alloc (.cells #[.int .i64 L, .int .i64 C] 33)) w4) := (HB3.out.alloc (by have := HB3.out.size; simpa using this) _).trans (hb4.mono (by have := HB3.out.size; simp at this ⊢; omega))
      have HB5 : Hid (Below w.heap.size w w4) := (HX.out _ HB4.out).2.2.2
      clear hb4 k0 k1 hz
      go_wp2_with fail
      refine (CW.out _ HB5.out).mono ?_
      rintro e w5 ⟨rfl, hb5⟩
      have hFin : Below w.heap.size w w5 := HB5.out.trans (hb5.mono HB5.out.size)
      clear hb5
      go_wp2
      go_ret
      exact ⟨ret_bool rfl, hFin⟩
    | true =>
      cases g2 with
      | true => cases e3
      | false =>
        clear e3
        go_enter Tryz.func5, Tryz.ntmps5
        go_wp2_with fail
        refine (CS1.out _).mono ?_
        rintro e w' ⟨rfl, rfl⟩
        go_wp2_with fail
        refine (C1.out _).mono ?_
        rintro e w1 ⟨rfl, hb1⟩
        have HB1 : Hid (Below (w.heap.size + 1) (w.alloc (.cells #[.int .i64 L, .int .i64 C] 33)) w1) := by
          show Below _ _ _
          simpa using hb1
        obtain ⟨k0, k1, hz, _⟩ := HX.out _ HB1.out
        clear hb1
        go_wp2_with fail
        refine (C3.out _).mono ?_
        rintro e w2 ⟨rfl, hb2⟩
        have m0 : w2.cell? ⟨w1.heap.size, 0, none⟩ = some (.int .i64 P) := (hb2.cell (by simp)).trans (by simp [go_sem])
        have m1 : w2.cell? ⟨w1.heap.size, 1, none⟩ = some (.int .i64 Q) := (hb2.cell (by simp)).trans (by simp [go_sem])
        have HB12 : Hid (Below w1.heap.size w1 w2) := ((Below.refl _ _).alloc (Nat.le_refl _) _).trans (hb2.mono (by simp))
        have HB2 : Hid (Below (w.heap.size + 1) (w.alloc (.cells #[.int .i64 L, .int .i64 C] 33)) w2) := HB1.out.trans (HB12.out.mono (by have := HB1.out.size; simpa using this))
        have M0 := Lib.hid m0; have M1 := Lib.hid m1
        clear hb2 k0 k1 hz m0 m1
        go_wp2_with fail
        refine (C2.out _).mono ?_
        rintro e w3 ⟨rfl, hb3⟩
        have lw1 : w1.heap.size < w2.heap.size := cell_lt M0.out
        have M03 : Hid (w3.cell? ⟨w1.heap.size, 0, none⟩ = some (.int .i64 P)) := (hb3.cell lw1).trans M0.out
        have M13 : Hid (w3.cell? ⟨w1.heap.size, 1, none⟩ = some (.int .i64 Q)) := (hb3.cell lw1).trans M1.out
        have HB3 : Hid (Below (w.heap.size + 1) (w.alloc (.cells #[.int .i64 L, .int .i64 C] 33)) w3) := HB2.out.trans (hb3.mono (by have := HB2.out.size; simpa using this))
        obtain ⟨k0, k1, hz, _⟩ := HX.out _ HB3.out
        clear hb3
        go_wp2_with fail
        refine (C4.out _).mono ?_
        rintro e w4 ⟨rfl, hb4⟩
        have lw3 : w1.heap.size < w3.heap.size := cell_lt M03.out
        have m0 : w4.cell? ⟨w1.heap.size, 0, none⟩ = some (.int .i64 P) := (hb4.cell (by simp; omega)).trans (by rw [World.cell?_alloc_old _ _ _ (by simp only; omega)]; exact M03.out)
        have m1 : w4.cell? ⟨w1.heap.size, 1, none⟩ = some (.int .i64 Q) := (hb4.cell (by simp; omega)).trans (by rw [World.cell?_alloc_old _ _ _ (by simp only; omega)]; exact M13.out)
        have p0 : w4.cell? ⟨w3.heap.size, 0, none⟩ = some (.int .i64 P) := (hb4.cell (by simp)).trans (by simp [go_sem])
        have p1 : w4.cell? ⟨w3.heap.size, 1, none⟩ = some (.int .i64 Q) := (hb4.cell (by simp)).trans (by simp [go_sem])
        have lw4 : w1.heap.size < w4.heap.size := cell_lt m0
        have lw5 : w3.heap.size < w4.heap.size := cell_lt p0
        have HB4 : Hid (Below (w.heap.size + 1) (w.alloc (.cells #[.int .i64 L, .int .i64 C] 33)) w4) := (HB3.out.alloc (by have := HB3.out.size; simpa using this) _).trans (hb4.mono (by have := HB3.out.size; simp at this ⊢; omega))
        have HB5 : Hid (Below w.heap.size w w4) := (HX.out _ HB4.out).2.2.2
        clear hb4 k0 k1 hz
        go_wp2_with fail
        refine (CW.out _ HB5.out).mono ?_
        rintro e w5 ⟨rfl, hb5⟩
        have hFin : Below w.heap.size w w5 := HB5.out.trans (hb5.mono HB5.out.size)
        clear hb5
        go_wp2
        go_ret
        exact ⟨ret_bool rfl, hFin⟩
  refine main.out (decide ((400 : Int) < ((mkS s).size : Int))) (decide (((mkS s).size : Int) ≤ 2500)) rfl rfl ?_ ?_ ?_
  · rw [← Bool.not_eq_true, Bool.and_eq_true, decide_eq_true_eq, decide_eq_true_eq]; omega
  · rw [decide_eq_decide]; omega
  · rw [decide_eq_decide]; omega

set_option maxRecDepth 100000 in
set_option maxHeartbeats 4000000 in
theorem places_any (s : List UInt8) (a L C : Int) (w : World) (hs : s.length ≤ 140737488355328) (ha : (Lit.int .i64 a).wf = true) (hL : (Lit.int .i64 L).wf = true) (hC : (Lit.int .i64 C).wf = true) (he : ErrOk w) :
    Calls Tryz.prog 5 #[.string (mkS s), .int .i64 a, .agg #[.int .i64 L, .int .i64 C]] w fun e w' => e = .returned (.bool true) ∧ Below w.heap.size w w' := by
  have hLb := bounds_i64 hL
  have hCb := bounds_i64 hC
  by_cases h1 : 400 < s.length ∧ s.length ≤ 2500
  · have CW : Hid (∀ W, Below w.heap.size w W → Calls Tryz.prog 9 #[] W fun e w' => e = .returned (.bool true) ∧ Below W.heap.size W w') := fun W hW => awake_any W (he.below hW)
    have HB0 : Hid (Below w.heap.size w (w.alloc (.cells #[.int .i64 L, .int .i64 C] 33))) := (Below.refl _ _).alloc (Nat.le_refl _) _
    have hsz : (mkS s).size = s.length := mkS_size s
    have g1 : decide ((400 : Int) < ((mkS s).size : Int)) = true := decide_eq_true (by omega)
    have g2 : decide (((mkS s).size : Int) ≤ 2500) = true := decide_eq_true (by omega)
    have g3 : 400 < (mkS s).size := by omega
    have g4 : (mkS s).size ≤ 2500 := by omega
    clear h1 he hs ha hL hC hLb hCb hsz
    go_enter Tryz.func5, Tryz.ntmps5
    go_wp2_with fail
    refine (CW.out _ HB0.out).mono ?_
    rintro e w5 ⟨rfl, hb5⟩
    have hF : Below w.heap.size w w5 := HB0.out.trans (hb5.mono (by simp))
    clear hb5
    go_wp2
    go_ret
    exact ⟨ret_bool rfl, hF⟩
  · by_cases h2 : s.length ≤ 3000
    · exact places_in s a L C w hLb hCb h2 h1 he
    · have CW : Hid (∀ W, Below w.heap.size w W → Calls Tryz.prog 9 #[] W fun e w' => e = .returned (.bool true) ∧ Below W.heap.size W w') := fun W hW => awake_any W (he.below hW)
      have CS1 : Hid (∀ W, Calls Tryz.prog 8 #[.string (mkS s)] W fun e w' => e = .returned (.bool false) ∧ W = w') := fun W => short_no s W h2
      have HB0 : Hid (Below w.heap.size w (w.alloc (.cells #[.int .i64 L, .int .i64 C] 33))) := (Below.refl _ _).alloc (Nat.le_refl _) _
      have hsz : (mkS s).size = s.length := mkS_size s
      have g1 : decide ((400 : Int) < ((mkS s).size : Int)) = true := decide_eq_true (by omega)
      have g2 : decide (((mkS s).size : Int) ≤ 2500) = false := decide_eq_false (by omega)
      have g3 : 400 < (mkS s).size := by omega
      have g4 : decide ((mkS s).size ≤ 2500) = false := decide_eq_false (by omega)
      clear h1 h2 he hs ha hL hC hLb hCb hsz
      go_enter Tryz.func5, Tryz.ntmps5
      go_wp2_with fail
      refine (CS1.out _).mono ?_
      rintro e w' ⟨rfl, rfl⟩
      go_wp2_with fail
      refine (CW.out _ HB0.out).mono ?_
      rintro e w5 ⟨rfl, hb5⟩
      have hF : Below w.heap.size w w5 := HB0.out.trans (hb5.mono (by simp))
      clear hb5
      go_wp2
      go_ret
      exact ⟨ret_bool rfl, hF⟩
end Go.Proofs.YtlhbfgkcalalkaaGreatDoor
