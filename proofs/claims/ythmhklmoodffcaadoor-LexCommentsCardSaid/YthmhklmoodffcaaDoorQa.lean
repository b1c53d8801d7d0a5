/- The reference: IsEdit, Apply; Short at any text. -/
import Derived.Test.YthmhklmoodffcaaDoorUa
set_option linter.unusedVariables false
set_option linter.unusedSimpArgs false
namespace Go.Proofs.YthmhklmoodffcaaDoor
open Go.RowKit Go.Shelf

set_option maxRecDepth 100000 in
theorem short_yes (s : List UInt8) (w : World) (hs : s.length ≤ 3000) :
    Calls Tryd.prog 15 #[.string (mkS s)] w fun e w' => e = .returned (.bool true) ∧ w = w' := by
  have hi : (((mkS s).size : Int)) ≤ 3000 := by rw [mkS_size]; omega
  have hb : decide (((mkS s).size : Int) ≤ 3000) = true := decide_eq_true hi
  go_enter Tryd.func15, Tryd.ntmps15
  go_wp2
  go_ret
  exact ⟨ret_bool (by simp [hb, hi]), rfl⟩
set_option maxRecDepth 100000 in
theorem short_no (s : List UInt8) (w : World) (hs : ¬ s.length ≤ 3000) :
    Calls Tryd.prog 15 #[.string (mkS s)] w fun e w' => e = .returned (.bool false) ∧ w = w' := by
  have hi : ¬ (((mkS s).size : Int)) ≤ 3000 := by rw [mkS_size]; omega
  have hb : decide (((mkS s).size : Int) ≤ 3000) = false := decide_eq_false hi
  go_enter Tryd.func15, Tryd.ntmps15
  go_wp2
  go_ret
  exact ⟨ret_bool (by simp [hb, hi]), rfl⟩
theorem short_of (s : List UInt8) (w : World) :
    Calls Tryd.prog 15 #[.string (mkS s)] w fun e w' => e = .returned (.bool (decide (s.length ≤ 3000))) ∧ w = w' := by
  by_cases h : s.length ≤ 3000
  · rw [decide_eq_true h]; exact short_yes s w h
  · rw [decide_eq_false h]; exact short_no s w h

set_option maxRecDepth 100000 in
set_option maxHeartbeats 1000000 in
theorem refIsEdit_any (s : List UInt8) (x : Ed) (w : World) :
    Calls Tryd.prog 51 #[.string (mkS s), edV x] w fun e w' => e = .returned (.bool (isEd s x)) ∧ Below w.heap.size w w' := by
  obtain ⟨F, T, put⟩ := x
  have hsz := mkS_size s
  have fin : Below w.heap.size w (w.alloc (Obj.cells #[Value.int IntKind.i64 F, Value.int IntKind.i64 T, Value.string (mkS put)] 34)) := (Below.refl _ _).alloc (Nat.le_refl _) _
  unfold edV
  by_cases c1 : 0 ≤ F
  · by_cases c2 : F ≤ T
    · by_cases c3 : T ≤ ((mkS s).size : Int)
      · have H : Hid (isEd s (F, T, put) = true) := by
          show _ = _; unfold isEd; simp only [Bool.and_eq_true, decide_eq_true_eq]; exact ⟨⟨c1, c2⟩, by omega⟩
        rw [H.out]
        have b1 : decide (0 ≤ F) = true := decide_eq_true c1
        have b2 : decide (F ≤ T) = true := decide_eq_true c2
        have b3 : decide (T ≤ ((mkS s).size : Int)) = true := decide_eq_true c3
        clear hsz c1 c2 c3 H
        go_enter Tryd.func51, Tryd.ntmps51
        go_wp2
        all_goals go_ret
        all_goals exact ⟨ret_bool (by simp [b1, b2, b3]), fin⟩
      · have H : Hid (isEd s (F, T, put) = false) := by
          show _ = _; rw [← Bool.not_eq_true]; unfold isEd; simp only [Bool.and_eq_true, decide_eq_true_eq]; intro h; omega
        rw [H.out]
        have b1 : decide (0 ≤ F) = true := decide_eq_true c1
        have b2 : decide (F ≤ T) = true := decide_eq_true c2
        have b3 : decide (T ≤ ((mkS s).size : Int)) = false := decide_eq_false c3
        clear hsz c1 c2 c3 H
        go_enter Tryd.func51, Tryd.ntmps51
        go_wp2
        all_goals go_ret
        all_goals exact ⟨ret_bool (by simp [b1, b2, b3]), fin⟩
    · have H : Hid (isEd s (F, T, put) = false) := by
        show _ = _; rw [← Bool.not_eq_true]; unfold isEd; simp only [Bool.and_eq_true, decide_eq_true_eq]; intro h; omega
      rw [H.out]
      have b1 : decide (0 ≤ F) = true := decide_eq_true c1
      have b2 : decide (F ≤ T) = false := decide_eq_false c2
      clear hsz c1 c2 H
      go_enter Tryd.func51, Tryd.ntmps51
      go_wp2
      all_goals go_ret
      all_goals exact ⟨ret_bool (by simp [b1, b2]), fin⟩
  · have H : Hid (isEd s (F, T, put) = false) := by
      show _ = _; rw [← Bool.not_eq_true]; unfold isEd; simp only [Bool.and_eq_true, decide_eq_true_eq]; intro h; omega
    rw [H.out]
    have b1 : decide (0 ≤ F) = false := decide_eq_false c1
    clear hsz c1 H
    go_enter Tryd.func51, Tryd.ntmps51
    go_wp2
    all_goals go_ret
    all_goals exact ⟨ret_bool (by simp [b1]), fin⟩

set_option maxRecDepth 100000 in
set_option maxHeartbeats 2000000 in
theorem refApply_no1 (s : List UInt8) (x : Ed) (w : World) (hs : s.length ≤ 100000) (h1 : chkE s ≠ 0) :
    Calls Tryd.prog 26 #[.string (mkS s), edV x] w fun e w' => e = .returned (.tuple #[.string (mkS (applyF s x)), .int .i64 (doE s x)]) ∧ Below w.heap.size w w' := by
  obtain ⟨E, hE⟩ : ∃ E : Int, E = chkE s := ⟨_, rfl⟩
  have CA : Hid (∀ W, Calls Tryd.prog 48 #[.string (mkS s)] W fun e w' => e = .returned (.tuple #[.int .i64 (chkAt s), .int .i64 E]) ∧ W = w') := fun W => by
    have := check_any (mkS s) W (by rw [mkS_size]; unfold maxLen; omega)
    rw [mkS_list, ← hE] at this; exact this
  have hd : doE s x = chkE s := by unfold doE; rw [if_pos h1]
  have ha : applyF s x = [] := by unfold applyF; rw [if_neg (by omega)]
  have hb : (E != 0) = true := by rw [bne_iff_ne, hE]; omega
  rw [hd, ha, ← hE]
  clear hd ha hE h1
  unfold edV
  go_enter Tryd.func26, Tryd.ntmps26
  go_wp2_with fail
  refine (CA.out _).mono ?_
  rintro e w' ⟨rfl, rfl⟩
  go_wp2
  go_ret2
  exact ⟨rfl, (Below.refl _ _).alloc (Nat.le_refl _) _⟩

set_option maxRecDepth 100000 in
set_option maxHeartbeats 2000000 in
theorem refApply_no2 (s : List UInt8) (x : Ed) (w : World) (hs : s.length ≤ 100000) (h1 : chkE s = 0) (h2 : isEd s x = false) :
    Calls Tryd.prog 26 #[.string (mkS s), edV x] w fun e w' => e = .returned (.tuple #[.string (mkS (applyF s x)), .int .i64 (doE s x)]) ∧ Below w.heap.size w w' := by
  have CA : Hid (∀ W, Calls Tryd.prog 48 #[.string (mkS s)] W fun e w' => e = .returned (.tuple #[.int .i64 (chkAt s), .int .i64 0]) ∧ W = w') := fun W => by
    have := check_any (mkS s) W (by rw [mkS_size]; unfold maxLen; omega)
    rw [mkS_list, h1] at this; exact this
  have CI : Hid (∀ W, Calls Tryd.prog 51 #[.string (mkS s), .agg #[.int .i64 x.1, .int .i64 x.2.1, .string (mkS x.2.2)]] W fun e w' => e = .returned (.bool false) ∧ Below W.heap.size W w') := fun W => by
    have := refIsEdit_any s x W
    rw [h2] at this; exact this
  have hd : doE s x = 3 := by unfold doE; rw [if_neg (by omega), if_neg (by rw [h2]; decide)]
  have ha : applyF s x = [] := by unfold applyF; rw [if_neg (by omega)]
  rw [hd, ha]
  clear hd ha h1 h2
  unfold edV
  go_enter Tryd.func26, Tryd.ntmps26
  go_wp2_with fail
  refine (CA.out _).mono ?_
  rintro e w' ⟨rfl, rfl⟩
  go_wp2_with fail
  refine (CI.out _).mono ?_
  rintro e w1 ⟨rfl, hb1⟩
  have hfin : Below w.heap.size w w1 := ((Below.refl _ _).alloc (Nat.le_refl _) _).trans (hb1.mono (by simp))
  clear hb1
  go_wp2
  go_ret2
  exact ⟨rfl, hfin⟩

set_option maxRecDepth 100000 in
set_option maxHeartbeats 2000000 in
theorem refApply_put (s put : List UInt8) (F T : Nat) (w : World) (hs : s.length ≤ 100000) (hput : put.length ≤ 100000) (h0 : chkE s = 0) (h1 : F ≤ T) (h2 : T ≤ s.length) :
    Calls Tryd.prog 26 #[.string (mkS s), edV (F, T, put)] w fun e w' => e = .returned (.tuple #[.string (mkS (applyF s (F, T, put))), .int .i64 (doE s (F, T, put))]) ∧ Below w.heap.size w w' := by
  have hed : isEd s (F, T, put) = true := by simp only [isEd, Bool.and_eq_true, decide_eq_true_eq]; exact ⟨⟨by omega, by omega⟩, by omega⟩
  have hdo : doE s (F, T, put) = chkE (splF s (F, T, put)) := by unfold doE; rw [if_neg (by omega), if_pos hed]
  have hsp : (mkS s).extract 0 F ++ mkS put ++ (mkS s).extract T (mkS s).size = mkS (splF s (F, T, put)) := splice_bytes s put F T
  have htl : (splF s (F, T, put)).length ≤ 300000 := by
    have : (splF s (F, T, put)).length = F + put.length + (s.length - T) := by unfold splF; simp; omega
    omega
  obtain ⟨t, ht⟩ : ∃ t, t = splF s (F, T, put) := ⟨_, rfl⟩
  obtain ⟨E, hE⟩ : ∃ E : Int, E = chkE t := ⟨_, rfl⟩
  rw [← ht] at hdo hsp htl
  have CA : Hid (∀ W, Calls Tryd.prog 48 #[.string (mkS s)] W fun e w' => e = .returned (.tuple #[.int .i64 (chkAt s), .int .i64 0]) ∧ W = w') := fun W => by
    have := check_any (mkS s) W (by rw [mkS_size]; unfold maxLen; omega)
    rw [mkS_list, h0] at this; exact this
  have CT : Hid (∀ W, Calls Tryd.prog 48 #[.string ((mkS s).extract 0 F ++ mkS put ++ (mkS s).extract T (mkS s).size)] W fun e w' => e = .returned (.tuple #[.int .i64 (chkAt t), .int .i64 E]) ∧ W = w') := fun W => by
    have := check_any (mkS t) W (by rw [mkS_size]; unfold maxLen; omega)
    rw [mkS_list, ← hE] at this; rw [hsp]; exact this
  have CI : Hid (∀ W, Calls Tryd.prog 51 #[.string (mkS s), .agg #[.int .i64 F, .int .i64 T, .string (mkS put)]] W fun e w' => e = .returned (.bool true) ∧ Below W.heap.size W w') := fun W => by
    have := refIsEdit_any s (F, T, put) W
    rw [hed] at this; exact this
  have HAP : Hid (applyF s (F, T, put) = if chkE t = 0 then t else []) := by show _ = _; unfold applyF; rw [hdo, ht]
  have HSP := Lib.hid hsp
  have HE := Lib.hid hE
  rw [HAP.out, hdo]
  have hsz : (mkS s).size = s.length := mkS_size s
  have h2' : T ≤ (mkS s).size := by omega
  have h3 : (mkS s).size ≤ 100000 := by omega
  have h4 : (mkS put).size ≤ 100000 := by rw [mkS_size]; omega
  by_cases hc : chkE t = 0
  · rw [if_pos hc, hc]
    have hE0 : E = 0 := by rw [hE, hc]; rfl
    subst hE0
    clear hE HE hc hdo hsp htl ht hed HAP hsz h2 h0
    unfold edV
    go_enter Tryd.func26, Tryd.ntmps26
    go_wp2_with fail
    refine (CA.out _).mono ?_
    rintro e w' ⟨rfl, rfl⟩
    go_wp2_with fail
    refine (CI.out _).mono ?_
    rintro e w1 ⟨rfl, hb1⟩
    have k0 : w1.cell? ⟨w.heap.size, 0, none⟩ = some (.int .i64 F) := (hb1.cell (by simp)).trans (by simp [go_sem])
    have k1 : w1.cell? ⟨w.heap.size, 1, none⟩ = some (.int .i64 T) := (hb1.cell (by simp)).trans (by simp [go_sem])
    have k2 : w1.cell? ⟨w.heap.size, 2, none⟩ = some (.string (mkS put)) := (hb1.cell (by simp)).trans (by simp [go_sem])
    have hfin : Below w.heap.size w w1 := ((Below.refl _ _).alloc (Nat.le_refl _) _).trans (hb1.mono (by simp))
    clear hb1
    go_wp2
    go_region
    go_wp2_with fail
    refine (CT.out _).mono ?_
    rintro e w' ⟨rfl, rfl⟩
    go_wp2
    go_ret2
    exact ⟨by rw [HSP.out]; rfl, hfin.drew⟩
  · rw [if_neg hc, ← hE]
    have hb : (E != 0) = true := by rw [bne_iff_ne, hE]; omega
    clear hE HE hc hdo hsp htl ht hed HAP hsz h2 h0
    unfold edV
    go_enter Tryd.func26, Tryd.ntmps26
    go_wp2_with fail
    refine (CA.out _).mono ?_
    rintro e w' ⟨rfl, rfl⟩
    go_wp2_with fail
    refine (CI.out _).mono ?_
    rintro e w1 ⟨rfl, hb1⟩
    have k0 : w1.cell? ⟨w.heap.size, 0, none⟩ = some (.int .i64 F) := (hb1.cell (by simp)).trans (by simp [go_sem])
    have k1 : w1.cell? ⟨w.heap.size, 1, none⟩ = some (.int .i64 T) := (hb1.cell (by simp)).trans (by simp [go_sem])
    have k2 : w1.cell? ⟨w.heap.size, 2, none⟩ = some (.string (mkS put)) := (hb1.cell (by simp)).trans (by simp [go_sem])
    have hfin : Below w.heap.size w w1 := ((Below.refl _ _).alloc (Nat.le_refl _) _).trans (hb1.mono (by simp))
    clear hb1
    go_wp2
    go_region
    go_wp2_with fail
    refine (CT.out _).mono ?_
    rintro e w' ⟨rfl, rfl⟩
    go_wp2
    go_ret2
    exact ⟨rfl, hfin.drew⟩

theorem refApply_any (s : List UInt8) (x : Ed) (w : World) (hs : s.length ≤ 100000) (hput : x.2.2.length ≤ 100000) :
    Calls Tryd.prog 26 #[.string (mkS s), edV x] w fun e w' => e = .returned (.tuple #[.string (mkS (applyF s x)), .int .i64 (doE s x)]) ∧ Below w.heap.size w w' := by
  by_cases h0 : chkE s = 0
  · cases h : isEd s x with
    | true =>
      obtain ⟨F, T, hx, h1, h2⟩ := isEd_nat h
      obtain ⟨F', T', put⟩ := x
      simp only [Prod.mk.injEq] at hx
      obtain ⟨rfl, rfl, _⟩ := hx
      exact refApply_put s put F T w hs hput h0 h1 h2
    | false => exact refApply_no2 s x w hs h0 h
  · exact refApply_no1 s x w hs h0
end Go.Proofs.YthmhklmoodffcaaDoor
