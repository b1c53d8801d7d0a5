/- SameChange; the walk of LexRescans. -/
import Derived.Test.YtlhbfgkcalalkaaGreatDoorYl
import Derived.Test.YtlhbfgkcalalkaaGreatDoorLb
set_option linter.unusedVariables false
set_option linter.unusedSimpArgs false
namespace Go.Proofs.YtlhbfgkcalalkaaGreatDoor
open Go.RowKit Go.Shelf

set_option maxRecDepth 100000 in
set_option maxHeartbeats 2000000 in
theorem sameChange_yes (a b : Int) (v u : Value) (ls : List Lx) (w : World) (hv : ReadsLx w v ls) (hu : ReadsLx w u ls) :
    Calls Tryz.prog 22 #[.agg #[.int .i64 a, .int .i64 b, v], .agg #[.int .i64 a, .int .i64 b, u]] w fun e w' => e = .returned (.bool true) ∧ Below w.heap.size w w' := by
  have CE : Hid (∀ W, Below w.heap.size w W → Calls Tryz.prog 12 #[v, u] W fun e w' => e = .returned (.bool true) ∧ Below W.heap.size W w') := fun W hW => by
    have := same_any v u ls ls W (hv.below hW) (hu.below hW)
    rw [show (ls == ls) = true by simp] at this; exact this
  have HB : Hid (Below w.heap.size w ((w.alloc (.cells #[.int .i64 a, .int .i64 b, v] 42)).alloc (.cells #[.int .i64 a, .int .i64 b, u] 42))) := ((Below.refl _ _).alloc (Nat.le_refl _) _).alloc (by simp) _
  obtain ⟨p1, c1, rfl, _, _⟩ := hv
  obtain ⟨p2, c2, rfl, _, _⟩ := hu
  obtain ⟨n, hn⟩ : ∃ n, n = ls.length := ⟨_, rfl⟩
  rw [← hn] at CE HB ⊢
  clear hn
  go_enter Tryz.func22, Tryz.ntmps22
  go_wp2_with fail
  refine (CE.out _ HB.out).mono ?_
  rintro e w1 ⟨rfl, hb1⟩
  have hF : Below w.heap.size w w1 := HB.out.trans (hb1.mono (by simp; omega))
  clear hb1
  go_wp2
  go_ret
  exact ⟨ret_bool rfl, hF⟩

set_option maxRecDepth 100000 in
set_option maxHeartbeats 4000000 in
theorem rescans_in (s : List UInt8) (x : Ed) (w : World) (hs : s.length ≤ 3000) (hput : x.2.2.length ≤ 3000) (he : ErrOk w) :
    Calls Tryz.prog 6 #[.string (mkS s), edV x] w fun e w' => e = .returned (.bool true) ∧ Below w.heap.size w w' := by
  have CW : Hid (∀ W, Below w.heap.size w W → Calls Tryz.prog 9 #[] W fun e w' => e = .returned (.bool true) ∧ Below W.heap.size W w') := fun W hW => awake_any W (he.below hW)
  have CS1 : Hid (∀ W, Calls Tryz.prog 8 #[.string (mkS s)] W fun e w' => e = .returned (.bool true) ∧ W = w') := fun W => short_yes s W hs
  have CS2 : Hid (∀ W, Calls Tryz.prog 8 #[.string (mkS x.2.2)] W fun e w' => e = .returned (.bool true) ∧ W = w') := fun W => short_yes x.2.2 W hput
  obtain ⟨H, hH⟩ : ∃ H : Int, H = (rescF s x).1.1 := ⟨_, rfl⟩
  obtain ⟨T, hT⟩ : ∃ T : Int, T = (rescF s x).1.2.1 := ⟨_, rfl⟩
  obtain ⟨A, hA⟩ : ∃ A : Int, A = (rescF s x).2.1 := ⟨_, rfl⟩
  obtain ⟨E, hE⟩ : ∃ E : Int, E = (rescF s x).2.2 := ⟨_, rfl⟩
  obtain ⟨ls, hls⟩ : ∃ ls, ls = (rescF s x).1.2.2 := ⟨_, rfl⟩
  have C1 : Hid (∀ W, Below w.heap.size w W → Calls Tryz.prog 20 #[.string (mkS s), .agg #[.int .i64 x.1, .int .i64 x.2.1, .string (mkS x.2.2)]] W fun e w' => ∃ v, e = .returned (.tuple #[.agg #[.int .i64 H, .int .i64 T, v], .int .i64 A, .int .i64 E]) ∧ ReadsLx w' v ls ∧ Below W.heap.size W w') := fun W hW => by
    rw [hH, hT, hA, hE, hls]; exact rescan_any s x W (by omega) (by omega) (he.below hW)
  have C2 : Hid (∀ W, Calls Tryz.prog 21 #[.string (mkS s), .agg #[.int .i64 x.1, .int .i64 x.2.1, .string (mkS x.2.2)]] W fun e w' => ∃ v, e = .returned (.tuple #[.agg #[.int .i64 H, .int .i64 T, v], .int .i64 A, .int .i64 E]) ∧ ReadsLx w' v ls ∧ Below W.heap.size W w') := fun W => by
    rw [hH, hT, hA, hE, hls]; exact refRescan_any s x W (by omega) (by omega)
  have hB0 : Below w.heap.size w (w.alloc (.cells #[.int .i64 x.1, .int .i64 x.2.1, .string (mkS x.2.2)] 40)) := (Below.refl _ _).alloc (Nat.le_refl _) _
  have HB0 := Lib.hid hB0
  have HX : Hid (∀ W, Below (w.heap.size + 1) (w.alloc (.cells #[.int .i64 x.1, .int .i64 x.2.1, .string (mkS x.2.2)] 40)) W → W.cell? ⟨w.heap.size, 0, none⟩ = some (.int .i64 x.1) ∧ W.cell? ⟨w.heap.size, 1, none⟩ = some (.int .i64 x.2.1) ∧ W.cell? ⟨w.heap.size, 2, none⟩ = some (.string (mkS x.2.2)) ∧ w.heap.size < W.heap.size ∧ Below w.heap.size w W) := fun W hW => by
    refine ⟨?_, ?_, ?_, ?_, hB0.trans (hW.mono (by omega))⟩
    · rw [hW.cell (by simp)]; simp [go_sem]
    · rw [hW.cell (by simp)]; simp [go_sem]
    · rw [hW.cell (by simp)]; simp [go_sem]
    · have := hW.size; simp at this; omega
  clear hH hT hA hE hls he hs hput hB0
  unfold edV
  go_enter Tryz.func6, Tryz.ntmps6
  go_wp2_with fail
  refine (CS1.out _).mono ?_
  rintro e w' ⟨rfl, rfl⟩
  go_wp2_with fail
  refine (CS2.out _).mono ?_
  rintro e w' ⟨rfl, rfl⟩
  go_wp2_with fail
  refine (C1.out _ HB0.out).mono ?_
  rintro e w1 ⟨v1, rfl, hr1, hb1⟩
  have HB1 : Hid (Below (w.heap.size + 1) (w.alloc (.cells #[.int .i64 x.1, .int .i64 x.2.1, .string (mkS x.2.2)] 40)) w1) := by
    show Below _ _ _
    simpa using hb1
  obtain ⟨k0, k1, k2, hz, _⟩ := HX.out _ HB1.out
  have HR1 := Lib.hid hr1
  obtain ⟨p1, cp1, rfl, _, _⟩ := hr1
  obtain ⟨n1, hn1⟩ : ∃ n, n = ls.length := ⟨_, rfl⟩
  rw [← hn1] at HR1 ⊢
  have HN1 := Lib.hid hn1
  clear hb1 hn1
  go_wp2_with fail
  refine (C2.out _).mono ?_
  rintro e w2 ⟨v2, rfl, hr2, hb2⟩
  have HR2 := Lib.hid hr2
  obtain ⟨p2, cp2, rfl, _, _⟩ := hr2
  rw [← HN1.out] at HR2 ⊢
  have m0 : w2.cell? ⟨w1.heap.size, 0, none⟩ = some (.int .i64 H) := (hb2.cell (by simp)).trans (by simp [go_sem])
  have m1 : w2.cell? ⟨w1.heap.size, 1, none⟩ = some (.int .i64 T) := (hb2.cell (by simp)).trans (by simp [go_sem])
  have m2 : w2.cell? ⟨w1.heap.size, 2, none⟩ = some (.slice p1 n1 cp1) := (hb2.cell (by simp)).trans (by simp [go_sem])
  have lw : w1.heap.size < w2.heap.size := cell_lt m0
  have HB12 : Hid (Below w1.heap.size w1 w2) := ((Below.refl _ _).alloc (Nat.le_refl _) _).trans (hb2.mono (by simp))
  have HR12 : Hid (ReadsLx w2 (.slice p1 n1 cp1) ls) := HR1.out.below HB12.out
  have HB2 : Hid (Below w.heap.size w w2) := (HX.out _ HB1.out).2.2.2.2.trans (HB12.out.mono (HX.out _ HB1.out).2.2.2.2.size)
  have CE : Hid (∀ W, Below w2.heap.size w2 W → Calls Tryz.prog 22 #[.agg #[.int .i64 H, .int .i64 T, .slice p1 n1 cp1], .agg #[.int .i64 H, .int .i64 T, .slice p2 n1 cp2]] W fun e w' => e = .returned (.bool true) ∧ Below W.heap.size W w') := fun W hW =>
    sameChange_yes H T _ _ ls W (HR12.out.below hW) (HR2.out.below hW)
  clear hb2 k0 k1 k2 hz
  go_wp2_with fail
  refine (CE.out _ ((Below.refl _ _).alloc (Nat.le_refl _) _)).mono ?_
  rintro e w3 ⟨rfl, hb3⟩
  have HB3 : Hid (Below w.heap.size w w3) := (HB2.out.alloc HB2.out.size _).trans (hb3.mono (by simp; have := HB2.out.size; omega))
  clear hb3 m0 m1 m2 lw
  go_wp2_with fail
  refine (CW.out _ HB3.out).mono ?_
  rintro e w5 ⟨rfl, hb5⟩
  have hF : Below w.heap.size w w5 := HB3.out.trans (hb5.mono HB3.out.size)
  clear hb5
  go_wp2
  go_ret
  exact ⟨ret_bool rfl, hF⟩

set_option maxRecDepth 100000 in
set_option maxHeartbeats 4000000 in
theorem rescans_any (s : List UInt8) (x : Ed) (w : World) (hs : s.length ≤ 140737488355328) (hput : x.2.2.length ≤ 140737488355328) (he : ErrOk w) :
    Calls Tryz.prog 6 #[.string (mkS s), edV x] w fun e w' => e = .returned (.bool true) ∧ Below w.heap.size w w' := by
  have CW : Hid (∀ W, Below w.heap.size w W → Calls Tryz.prog 9 #[] W fun e w' => e = .returned (.bool true) ∧ Below W.heap.size W w') := fun W hW => awake_any W (he.below hW)
  have hB0 : Below w.heap.size w (w.alloc (.cells #[.int .i64 x.1, .int .i64 x.2.1, .string (mkS x.2.2)] 40)) := (Below.refl _ _).alloc (Nat.le_refl _) _
  have HB0 := Lib.hid hB0
  by_cases h1 : s.length ≤ 3000
  · by_cases h2 : x.2.2.length ≤ 3000
    · exact rescans_in s x w h1 h2 he
    · have CS1 : Hid (∀ W, Calls Tryz.prog 8 #[.string (mkS s)] W fun e w' => e = .returned (.bool true) ∧ W = w') := fun W => short_yes s W h1
      have CS2 : Hid (∀ W, Calls Tryz.prog 8 #[.string (mkS x.2.2)] W fun e w' => e = .returned (.bool false) ∧ W = w') := fun W => short_no x.2.2 W h2
      clear h1 h2 hs hput he hB0
      unfold edV
      go_enter Tryz.func6, Tryz.ntmps6
      go_wp2_with fail
      refine (CS1.out _).mono ?_
      rintro e w' ⟨rfl, rfl⟩
      go_wp2_with fail
      refine (CS2.out _).mono ?_
      rintro e w' ⟨rfl, rfl⟩
      go_wp2_with fail
      refine (CW.out _ HB0.out).mono ?_
      rintro e w5 ⟨rfl, hb5⟩
      have hF : Below w.heap.size w w5 := HB0.out.trans (hb5.mono (by simp))
      clear hb5
      go_wp2
      go_ret
      exact ⟨ret_bool rfl, hF⟩
  · have CS1 : Hid (∀ W, Calls Tryz.prog 8 #[.string (mkS s)] W fun e w' => e = .returned (.bool false) ∧ W = w') := fun W => short_no s W h1
    clear h1 hs hput he hB0
    unfold edV
    go_enter Tryz.func6, Tryz.ntmps6
    go_wp2_with fail
    refine (CS1.out _).mono ?_
    rintro e w' ⟨rfl, rfl⟩
    go_wp2_with fail
    refine (CW.out _ HB0.out).mono ?_
    rintro e w5 ⟨rfl, hb5⟩
    have hF : Below w.heap.size w w5 := HB0.out.trans (hb5.mono (by simp))
    clear hb5
    go_wp2
    go_ret
    exact ⟨ret_bool rfl, hF⟩
end Go.Proofs.YtlhbfgkcalalkaaGreatDoor
