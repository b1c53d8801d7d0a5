/- The reference's Both at any texts; the walk of LexBoths. -/
import Derived.Test.YthmhklmoodffcaaDoorVc
import Derived.Test.YthmhklmoodffcaaDoorVd
import Derived.Test.YthmhklmoodffcaaDoorVe
set_option linter.unusedVariables false
set_option linter.unusedSimpArgs false
namespace Go.Proofs.YthmhklmoodffcaaDoor
open Go.RowKit Go.Shelf

theorem refBoth_ok (s : List UInt8) (x y : Ed) (w : World) (h : doE s x = 0) (h2 : doE (splF s x) y = 0) :
    Calls Tryd.prog 31 #[.string (mkS s), edV x, edV y] w fun e w' => e = .returned (.tuple #[edV (bothF s x y).1, .int .i64 (bothF s x y).2]) ∧ Below w.heap.size w w' := by
  have ls := chkE_len (doE_parts h).1
  have lt := chkE_len (doE_parts h).2.2
  have lu := chkE_len (doE_parts h2).2.2
  have lp : x.2.2.length ≤ 2500 := Nat.le_trans splF_put' lt
  have lq : y.2.2.length ≤ 2500 := Nat.le_trans splF_put' lu
  have ha : applyF s x = splF s x := by unfold applyF; rw [if_pos h]
  have ha2 : applyF (splF s x) y = splF (splF s x) y := by unfold applyF; rw [if_pos h2]
  have CA := Lib.hid fun W => refApply_any s x W (by omega) (by omega)
  have CA2 := Lib.hid fun W => refApply_any (splF s x) y W (by omega) (by omega)
  rw [ha, h] at CA
  rw [ha2, h2] at CA2
  obtain ⟨F, T, hx, h3, h4⟩ := isEd_nat (doE_isEd h)
  obtain ⟨F', T', p⟩ := x
  simp only [Prod.mk.injEq] at hx
  obtain ⟨rfl, rfl, _⟩ := hx
  obtain ⟨G, H, hy, h5, h6⟩ := isEd_nat (doE_isEd h2)
  obtain ⟨G', H', q⟩ := y
  simp only [Prod.mk.injEq] at hy
  obtain ⟨rfl, rfl, _⟩ := hy
  have lp' : p.length ≤ 2500 := lp
  have lq' : q.length ≤ 2500 := lq
  obtain ⟨to, en, e1, e2, k1, k2, k3, k4, k5, k6⟩ := both_at s p q F T G H h3 h4 h5 h6
  have hm : min (F : Int) (G : Int) = ((min F G : Nat) : Int) := by omega
  have hr : bothF s ((F : Int), (T : Int), p) ((G : Int), (H : Int), q) = ((((min F G : Nat) : Int), (to : Int), ((splF (splF s ((F : Int), (T : Int), p)) ((G : Int), (H : Int), q)).take en).drop (min F G)), 0) := by
    unfold bothF
    rw [if_neg (by omega), if_neg (by omega), e1, e2, hm, Int.toNat_natCast, Int.toNat_natCast]
  rw [hr]
  have e1' : (to : Int) = if (F : Int) + (p.length : Int) ≤ (H : Int) then max (T : Int) ((H : Int) - (((splF s ((F : Int), (T : Int), p)).length : Int) - s.length)) else (T : Int) := by rw [← e1]; rfl
  have e2' : (en : Int) = (to : Int) + (((splF s ((F : Int), (T : Int), p)).length : Int) - s.length) + (((splF (splF s ((F : Int), (T : Int), p)) ((G : Int), (H : Int), q)).length : Int) - (splF s ((F : Int), (T : Int), p)).length) := by rw [← e2, ← e1]; rfl
  exact refBoth_walk s p q (splF s ((F : Int), (T : Int), p)) (splF (splF s ((F : Int), (T : Int), p)) ((G : Int), (H : Int), q)) F T G H (min F G) to en ((F : Int) + (p.length : Int))
    ((s.length : Int) - (((splF s ((F : Int), (T : Int), p)).length : Int) - H)) ((s.length : Int) - to) (((splF s ((F : Int), (T : Int), p)).length : Int) - H) w ls lt lu lp CA CA2 (by omega) (by omega) (by omega) (by omega) rfl rfl rfl rfl
    (by rw [e1', show (H : Int) - (((splF s ((F : Int), (T : Int), p)).length : Int) - s.length) = (s.length : Int) - (((splF s ((F : Int), (T : Int), p)).length : Int) - H) by omega]) rfl (by omega) k3 k4

theorem refBoth_any (s : List UInt8) (x y : Ed) (w : World) (hs : s.length ≤ 100000) (hput : x.2.2.length ≤ 100000) (hput2 : y.2.2.length ≤ 100000) :
    Calls Tryd.prog 31 #[.string (mkS s), edV x, edV y] w fun e w' => e = .returned (.tuple #[edV (bothF s x y).1, .int .i64 (bothF s x y).2]) ∧ Below w.heap.size w w' := by
  have hl := applyF_len s x
  have CA := Lib.hid fun W => refApply_any s x W hs hput
  have CA2 := Lib.hid fun W => refApply_any (applyF s x) y W (by omega) hput2
  by_cases h : doE s x = 0
  · have ha : applyF s x = splF s x := by unfold applyF; rw [if_pos h]
    by_cases h2 : doE (splF s x) y = 0
    · exact refBoth_ok s x y w h h2
    · have := refBoth_no s (applyF s x) (applyF (applyF s x) y) x y (doE s x) (doE (applyF s x) y) w (.inr ⟨by omega, by rw [ha]; omega⟩) CA CA2
      rw [if_pos (by omega), ha] at this
      have hr : bothF s x y = (noEd, doE (splF s x) y) := by unfold bothF; rw [if_neg (by omega), if_pos h2]
      rw [hr]; exact this
  · have := refBoth_no s (applyF s x) (applyF (applyF s x) y) x y (doE s x) (doE (applyF s x) y) w (.inl (by omega)) CA CA2
    rw [if_neg (by omega)] at this
    have hr : bothF s x y = (noEd, doE s x) := by unfold bothF; rw [if_pos h]
    rw [hr]; exact this

set_option maxRecDepth 100000 in
set_option maxHeartbeats 4000000 in
theorem boths_in (s : List UInt8) (x y : Ed) (w : World) (hs : s.length ≤ 3000) (hp : x.2.2.length ≤ 3000) (hq : y.2.2.length ≤ 3000) (he : ErrOk w) :
    Calls Tryd.prog 7 #[.string (mkS s), edV x, edV y] w fun e w' => e = .returned (.bool true) ∧ Below w.heap.size w w' := by
  obtain ⟨z, E, hz⟩ : ∃ z E, (z, E) = bothF s x y := ⟨_, _, rfl⟩
  have CW : Hid (∀ W, Below w.heap.size w W → Calls Tryd.prog 16 #[] W fun e w' => e = .returned (.bool true) ∧ Below W.heap.size W w') := fun W hW => awake_any W (he.below hW)
  have CS1 : Hid (∀ W, Calls Tryd.prog 15 #[.string (mkS s)] W fun e w' => e = .returned (.bool true) ∧ W = w') := fun W => short_yes s W hs
  have CS2 : Hid (∀ W, Calls Tryd.prog 15 #[.string (mkS x.2.2)] W fun e w' => e = .returned (.bool true) ∧ W = w') := fun W => short_yes x.2.2 W hp
  have CS3 : Hid (∀ W, Calls Tryd.prog 15 #[.string (mkS y.2.2)] W fun e w' => e = .returned (.bool true) ∧ W = w') := fun W => short_yes y.2.2 W hq
  have CA : Hid (∀ W, Calls Tryd.prog 30 #[.string (mkS s), .agg #[.int .i64 x.1, .int .i64 x.2.1, .string (mkS x.2.2)], .agg #[.int .i64 y.1, .int .i64 y.2.1, .string (mkS y.2.2)]] W fun e w' => e = .returned (.tuple #[.agg #[.int .i64 z.1, .int .i64 z.2.1, .string (mkS z.2.2)], .int .i64 E]) ∧ Below W.heap.size W w') := fun W => by
    have := both_any s x y W (by omega) (by omega) (by omega)
    rw [← hz] at this; exact this
  have CA2 : Hid (∀ W, Calls Tryd.prog 31 #[.string (mkS s), .agg #[.int .i64 x.1, .int .i64 x.2.1, .string (mkS x.2.2)], .agg #[.int .i64 y.1, .int .i64 y.2.1, .string (mkS y.2.2)]] W fun e w' => e = .returned (.tuple #[.agg #[.int .i64 z.1, .int .i64 z.2.1, .string (mkS z.2.2)], .int .i64 E]) ∧ Below W.heap.size W w') := fun W => by
    have := refBoth_any s x y W (by omega) (by omega) (by omega)
    rw [← hz] at this; exact this
  unfold edV
  clear hz hs hp hq he
  go_enter Tryd.func7, Tryd.ntmps7
  go_wp2_with fail
  refine (CS1.out _).mono ?_
  rintro e w' ⟨rfl, rfl⟩
  go_wp2_with fail
  refine (CS2.out _).mono ?_
  rintro e w' ⟨rfl, rfl⟩
  go_wp2_with fail
  refine (CS3.out _).mono ?_
  rintro e w' ⟨rfl, rfl⟩
  go_wp2_with fail
  refine (CA.out _).mono ?_
  rintro e w1 ⟨rfl, hb1⟩
  have hs1 := hb1.size
  have hz1 : w.heap.size + 1 < w1.heap.size := by simp at hs1; omega
  have hz0 : w.heap.size < w1.heap.size := by omega
  have hB1 : Below w.heap.size w w1 := (((Below.refl _ _).alloc (Nat.le_refl _) _).alloc (by simp) _).trans (hb1.mono (by simp; omega))
  have k0 : w1.cell? ⟨w.heap.size, 0, none⟩ = some (.int .i64 x.1) := (hb1.cell (by simp; omega)).trans (by simp [go_sem])
  have k1 : w1.cell? ⟨w.heap.size, 1, none⟩ = some (.int .i64 x.2.1) := (hb1.cell (by simp; omega)).trans (by simp [go_sem])
  have k2 : w1.cell? ⟨w.heap.size, 2, none⟩ = some (.string (mkS x.2.2)) := (hb1.cell (by simp; omega)).trans (by simp [go_sem])
  have l0 : w1.cell? ⟨w.heap.size + 1, 0, none⟩ = some (.int .i64 y.1) := (hb1.cell (by simp)).trans (by simp [go_sem])
  have l1 : w1.cell? ⟨w.heap.size + 1, 1, none⟩ = some (.int .i64 y.2.1) := (hb1.cell (by simp)).trans (by simp [go_sem])
  have l2 : w1.cell? ⟨w.heap.size + 1, 2, none⟩ = some (.string (mkS y.2.2)) := (hb1.cell (by simp)).trans (by simp [go_sem])
  have HB1 := Lib.hid hB1
  clear hb1 hB1 hs1
  go_wp2_with fail
  refine (CA2.out _).mono ?_
  rintro e w2 ⟨rfl, hb2⟩
  have hB2 : Below w1.heap.size w1 w2 := ((Below.refl _ _).alloc (Nat.le_refl _) _).trans (hb2.mono (by simp))
  have m0 : w2.cell? ⟨w1.heap.size, 0, none⟩ = some (.int .i64 z.1) := (hb2.cell (by simp)).trans (by simp [go_sem])
  have m1 : w2.cell? ⟨w1.heap.size, 1, none⟩ = some (.int .i64 z.2.1) := (hb2.cell (by simp)).trans (by simp [go_sem])
  have m2 : w2.cell? ⟨w1.heap.size, 2, none⟩ = some (.string (mkS z.2.2)) := (hb2.cell (by simp)).trans (by simp [go_sem])
  have lw : w1.heap.size < w2.heap.size := cell_lt m0
  have HB4 := Lib.hid (HB1.out.trans (hB2.mono HB1.out.size))
  clear hb2 hB2 k0 k1 k2 l0 l1 l2 hz1 hz0
  go_wp2_with fail
  refine (CW.out _ (HB4.out.alloc HB4.out.size _)).mono ?_
  rintro e w5 ⟨rfl, hb5⟩
  have hF : Below w.heap.size w w5 := (HB4.out.alloc HB4.out.size _).trans (hb5.mono (by simp; have := HB4.out.size; omega))
  clear hb5
  go_wp2
  go_ret
  exact ⟨ret_bool rfl, hF⟩

set_option maxRecDepth 100000 in
set_option maxHeartbeats 4000000 in
theorem boths_any (s : List UInt8) (x y : Ed) (w : World) (hs : s.length ≤ 140737488355328) (hput : x.2.2.length ≤ 140737488355328) (hput2 : y.2.2.length ≤ 140737488355328) (he : ErrOk w) :
    Calls Tryd.prog 7 #[.string (mkS s), edV x, edV y] w fun e w' => e = .returned (.bool true) ∧ Below w.heap.size w w' := by
  have CW : Hid (∀ W, Below w.heap.size w W → Calls Tryd.prog 16 #[] W fun e w' => e = .returned (.bool true) ∧ Below W.heap.size W w') := fun W hW => awake_any W (he.below hW)
  have hB1 : Below w.heap.size w ((w.alloc (.cells #[.int .i64 x.1, .int .i64 x.2.1, .string (mkS x.2.2)] 34)).alloc (.cells #[.int .i64 y.1, .int .i64 y.2.1, .string (mkS y.2.2)] 34)) := ((Below.refl _ _).alloc (Nat.le_refl _) _).alloc (by simp) _
  by_cases h1 : s.length ≤ 3000
  · have CS1 : Hid (∀ W, Calls Tryd.prog 15 #[.string (mkS s)] W fun e w' => e = .returned (.bool true) ∧ W = w') := fun W => short_yes s W h1
    by_cases h2 : x.2.2.length ≤ 3000
    · have CS2 : Hid (∀ W, Calls Tryd.prog 15 #[.string (mkS x.2.2)] W fun e w' => e = .returned (.bool true) ∧ W = w') := fun W => short_yes x.2.2 W h2
      by_cases h3 : y.2.2.length ≤ 3000
      · exact boths_in s x y w h1 h2 h3 he
      · have CS3 : Hid (∀ W, Calls Tryd.prog 15 #[.string (mkS y.2.2)] W fun e w' => e = .returned (.bool false) ∧ W = w') := fun W => short_no y.2.2 W h3
        unfold edV
        clear h1 h2 h3 hs hput hput2 he
        go_enter Tryd.func7, Tryd.ntmps7
        go_wp2_with fail
        refine (CS1.out _).mono ?_
        rintro e w' ⟨rfl, rfl⟩
        go_wp2_with fail
        refine (CS2.out _).mono ?_
        rintro e w' ⟨rfl, rfl⟩
        go_wp2_with fail
        refine (CS3.out _).mono ?_
        rintro e w' ⟨rfl, rfl⟩
        go_wp2_with fail
        refine (CW.out _ hB1).mono ?_
        rintro e w5 ⟨rfl, hb5⟩
        have hF : Below w.heap.size w w5 := hB1.trans (hb5.mono hB1.size)
        clear hb5
        go_wp2
        go_ret
        exact ⟨ret_bool rfl, hF⟩
    · have CS2 : Hid (∀ W, Calls Tryd.prog 15 #[.string (mkS x.2.2)] W fun e w' => e = .returned (.bool false) ∧ W = w') := fun W => short_no x.2.2 W h2
      unfold edV
      clear h1 h2 hs hput hput2 he
      go_enter Tryd.func7, Tryd.ntmps7
      go_wp2_with fail
      refine (CS1.out _).mono ?_
      rintro e w' ⟨rfl, rfl⟩
      go_wp2_with fail
      refine (CS2.out _).mono ?_
      rintro e w' ⟨rfl, rfl⟩
      go_wp2_with fail
      refine (CW.out _ hB1).mono ?_
      rintro e w5 ⟨rfl, hb5⟩
      have hF : Below w.heap.size w w5 := hB1.trans (hb5.mono hB1.size)
      clear hb5
      go_wp2
      go_ret
      exact ⟨ret_bool rfl, hF⟩
  · have CS1 : Hid (∀ W, Calls Tryd.prog 15 #[.string (mkS s)] W fun e w' => e = .returned (.bool false) ∧ W = w') := fun W => short_no s W h1
    unfold edV
    clear h1 hs hput hput2 he
    go_enter Tryd.func7, Tryd.ntmps7
    go_wp2_with fail
    refine (CS1.out _).mono ?_
    rintro e w' ⟨rfl, rfl⟩
    go_wp2_with fail
    refine (CW.out _ hB1).mono ?_
    rintro e w5 ⟨rfl, hb5⟩
    have hF : Below w.heap.size w w5 := hB1.trans (hb5.mono hB1.size)
    clear hb5
    go_wp2
    go_ret
    exact ⟨ret_bool rfl, hF⟩
end Go.Proofs.YthmhklmoodffcaaDoor
