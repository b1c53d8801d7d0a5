/- The reference's Diff at texts with an error; the walk of LexDiffs. -/
import Derived.Test.YthmhklmoodffcaaDoorQd
import Derived.Test.YthmhklmoodffcaaDoorQa
set_option linter.unusedVariables false
set_option linter.unusedSimpArgs false
namespace Go.Proofs.YthmhklmoodffcaaDoor
open Go.RowKit Go.Shelf

set_option maxRecDepth 100000 in
set_option maxHeartbeats 2000000 in
theorem refDiff_bad (a b : List UInt8) (w : World) (hm : a.length ≤ 100000) (hm2 : b.length ≤ 100000) (h12 : chkE a ≠ 0 ∨ chkE b ≠ 0) :
    Calls Tryd.prog 29 #[.string (mkS a), .string (mkS b)] w fun e w' => e = .returned (.tuple #[edV (diffF a b).1, .int .i64 (diffF a b).2]) ∧ Below w.heap.size w w' := by
  obtain ⟨EA, hEA⟩ : ∃ EA : Int, EA = chkE a := ⟨_, rfl⟩
  obtain ⟨EB, hEB⟩ : ∃ EB : Int, EB = chkE b := ⟨_, rfl⟩
  have CA : Hid (∀ W, Calls Tryd.prog 48 #[.string (mkS a)] W fun e w' => e = .returned (.tuple #[.int .i64 (chkAt a), .int .i64 EA]) ∧ W = w') := fun W => by
    have := check_any (mkS a) W (by rw [mkS_size]; unfold maxLen; omega)
    rw [mkS_list, ← hEA] at this; exact this
  have CB : Hid (∀ W, Calls Tryd.prog 48 #[.string (mkS b)] W fun e w' => e = .returned (.tuple #[.int .i64 (chkAt b), .int .i64 EB]) ∧ W = w') := fun W => by
    have := check_any (mkS b) W (by rw [mkS_size]; unfold maxLen; omega)
    rw [mkS_list, ← hEB] at this; exact this
  by_cases h1 : chkE a = 0
  · have h2 : chkE b ≠ 0 := by rcases h12 with h | h; exact absurd h1 h; exact h
    have hf : Hid ((diffF a b) = (noEd, chkE b)) := by show _ = _; unfold diffF; rw [if_neg (by omega), if_pos h2]
    have hEA0 : EA = 0 := by rw [hEA, h1]; rfl
    subst hEA0
    have hb : (EB != 0) = true := by rw [bne_iff_ne, hEB]; omega
    have HB := Lib.hid hEB
    clear hEA hEB h1 h2 h12
    go_enter Tryd.func29, Tryd.ntmps29
    go_wp2_with fail
    refine (CA.out _).mono ?_
    rintro e w' ⟨rfl, rfl⟩
    go_wp2_with fail
    refine (CB.out _).mono ?_
    rintro e w' ⟨rfl, rfl⟩
    go_wp2
    refine bodyPost_ret (v := .tuple #[.agg #[.int .i64 0, .int .i64 0, .string ⟨#[]⟩], .int .i64 EB]) (by simp [results, Tryd.results29, go_sem]) rfl ⟨?_, ?_⟩
    · rw [hf.out, HB.out]; rfl
    · repeat (first | exact Below.refl _ _ | refine Below.setCell ?_ (by simp) _ | refine Below.alloc ?_ (by simp) _)
  · have hf : Hid ((diffF a b) = (noEd, chkE a)) := by show _ = _; unfold diffF; rw [if_pos h1]
    have hb : (EA != 0) = true := by rw [bne_iff_ne, hEA]; omega
    have HB := Lib.hid hEA
    clear hEA hEB h1 h12
    go_enter Tryd.func29, Tryd.ntmps29
    go_wp2_with fail
    refine (CA.out _).mono ?_
    rintro e w' ⟨rfl, rfl⟩
    go_wp2
    refine bodyPost_ret (v := .tuple #[.agg #[.int .i64 0, .int .i64 0, .string ⟨#[]⟩], .int .i64 EA]) (by simp [results, Tryd.results29, go_sem]) rfl ⟨?_, ?_⟩
    · rw [hf.out, HB.out]; rfl
    · repeat (first | exact Below.refl _ _ | refine Below.setCell ?_ (by simp) _ | refine Below.alloc ?_ (by simp) _)

theorem refDiff_any (a b : List UInt8) (w : World) (hm : a.length ≤ 100000) (hm2 : b.length ≤ 100000) :
    Calls Tryd.prog 29 #[.string (mkS a), .string (mkS b)] w fun e w' => e = .returned (.tuple #[edV (diffF a b).1, .int .i64 (diffF a b).2]) ∧ Below w.heap.size w w' := by
  by_cases h : chkE a ≠ 0 ∨ chkE b ≠ 0
  · exact refDiff_bad a b w hm hm2 h
  · have h1 : chkE a = 0 := by omega
    have h2 : chkE b = 0 := by omega
    have e : (diffF a b).2 = 0 := by unfold diffF; rw [if_neg (by omega), if_neg (by omega)]
    rw [e]; exact refDiff_ok a b w hm hm2 h1 h2

set_option maxRecDepth 100000 in
set_option maxHeartbeats 4000000 in
theorem diffs_in (a b : List UInt8) (w : World) (ha : a.length ≤ 3000) (hb : b.length ≤ 3000) (he : ErrOk w) :
    Calls Tryd.prog 6 #[.string (mkS a), .string (mkS b)] w fun e w' => e = .returned (.bool true) ∧ Below w.heap.size w w' := by
  obtain ⟨y, E, hy⟩ : ∃ y E, (y, E) = diffF a b := ⟨_, _, rfl⟩
  have CW : Hid (∀ W, Below w.heap.size w W → Calls Tryd.prog 16 #[] W fun e w' => e = .returned (.bool true) ∧ Below W.heap.size W w') := fun W hW => awake_any W (he.below hW)
  have CS1 : Hid (∀ W, Calls Tryd.prog 15 #[.string (mkS a)] W fun e w' => e = .returned (.bool true) ∧ W = w') := fun W => short_yes a W ha
  have CS2 : Hid (∀ W, Calls Tryd.prog 15 #[.string (mkS b)] W fun e w' => e = .returned (.bool true) ∧ W = w') := fun W => short_yes b W hb
  have CA : Hid (∀ W, Calls Tryd.prog 28 #[.string (mkS a), .string (mkS b)] W fun e w' => e = .returned (.tuple #[.agg #[.int .i64 y.1, .int .i64 y.2.1, .string (mkS y.2.2)], .int .i64 E]) ∧ Below W.heap.size W w') := fun W => by
    have := diff_any a b W (by omega) (by omega)
    rw [← hy] at this; exact this
  have CA2 : Hid (∀ W, Calls Tryd.prog 29 #[.string (mkS a), .string (mkS b)] W fun e w' => e = .returned (.tuple #[.agg #[.int .i64 y.1, .int .i64 y.2.1, .string (mkS y.2.2)], .int .i64 E]) ∧ Below W.heap.size W w') := fun W => by
    have := refDiff_any a b W (by omega) (by omega)
    rw [← hy] at this; exact this
  clear hy ha hb he
  go_enter Tryd.func6, Tryd.ntmps6
  go_wp2_with fail
  refine (CS1.out _).mono ?_
  rintro e w' ⟨rfl, rfl⟩
  go_wp2_with fail
  refine (CS2.out _).mono ?_
  rintro e w' ⟨rfl, rfl⟩
  go_wp2_with fail
  refine (CA.out _).mono ?_
  rintro e w1 ⟨rfl, hb1⟩
  have HB1 := Lib.hid hb1
  clear hb1
  go_wp2_with fail
  refine (CA2.out _).mono ?_
  rintro e w2 ⟨rfl, hb2⟩
  have hB2 : Below w1.heap.size w1 w2 := ((Below.refl _ _).alloc (Nat.le_refl _) _).trans (hb2.mono (by simp))
  have m0 : w2.cell? ⟨w1.heap.size, 0, none⟩ = some (.int .i64 y.1) := (hb2.cell (by simp)).trans (by simp [go_sem])
  have m1 : w2.cell? ⟨w1.heap.size, 1, none⟩ = some (.int .i64 y.2.1) := (hb2.cell (by simp)).trans (by simp [go_sem])
  have m2 : w2.cell? ⟨w1.heap.size, 2, none⟩ = some (.string (mkS y.2.2)) := (hb2.cell (by simp)).trans (by simp [go_sem])
  have lw : w1.heap.size < w2.heap.size := cell_lt m0
  have HB4 := Lib.hid (HB1.out.trans (hB2.mono HB1.out.size))
  clear hb2 hB2
  go_wp2_with fail
  refine (CW.out _ (HB4.out.alloc HB4.out.size _)).mono ?_
  rintro e w5 ⟨rfl, hb5⟩
  have hF : Below w.heap.size w w5 := (HB4.out.alloc HB4.out.size _).trans (hb5.mono (by simp; have := HB4.out.size; omega))
  clear hb5
  go_wp2
  go_ret
  exact ⟨ret_bool rfl, hF⟩

set_option maxRecDepth 100000 in
set_option maxHeartbeats 4000000 in
theorem diffs_any (a b : List UInt8) (w : World) (ha : a.length ≤ 140737488355328) (hb : b.length ≤ 140737488355328) (he : ErrOk w) :
    Calls Tryd.prog 6 #[.string (mkS a), .string (mkS b)] w fun e w' => e = .returned (.bool true) ∧ Below w.heap.size w w' := by
  have CW : Hid (∀ W, Below w.heap.size w W → Calls Tryd.prog 16 #[] W fun e w' => e = .returned (.bool true) ∧ Below W.heap.size W w') := fun W hW => awake_any W (he.below hW)
  have hB1 : Below w.heap.size w w := Below.refl _ _
  by_cases h1 : a.length ≤ 3000
  · by_cases h2 : b.length ≤ 3000
    · exact diffs_in a b w h1 h2 he
    · have CS1 : Hid (∀ W, Calls Tryd.prog 15 #[.string (mkS a)] W fun e w' => e = .returned (.bool true) ∧ W = w') := fun W => short_yes a W h1
      have CS2 : Hid (∀ W, Calls Tryd.prog 15 #[.string (mkS b)] W fun e w' => e = .returned (.bool false) ∧ W = w') := fun W => short_no b W h2
      clear h1 h2 ha hb he
      go_enter Tryd.func6, Tryd.ntmps6
      go_wp2_with fail
      refine (CS1.out _).mono ?_
      rintro e w' ⟨rfl, rfl⟩
      go_wp2_with fail
      refine (CS2.out _).mono ?_
      rintro e w' ⟨rfl, rfl⟩
      go_wp2_with fail
      refine (CW.out _ hB1).mono ?_
      rintro e w5 ⟨rfl, hb5⟩
      go_wp2
      go_ret
      exact ⟨ret_bool rfl, hb5⟩
  · have CS1 : Hid (∀ W, Calls Tryd.prog 15 #[.string (mkS a)] W fun e w' => e = .returned (.bool false) ∧ W = w') := fun W => short_no a W h1
    clear h1 ha hb he
    go_enter Tryd.func6, Tryd.ntmps6
    go_wp2_with fail
    refine (CS1.out _).mono ?_
    rintro e w' ⟨rfl, rfl⟩
    go_wp2_with fail
    refine (CW.out _ hB1).mono ?_
    rintro e w5 ⟨rfl, hb5⟩
    go_wp2
    go_ret
    exact ⟨ret_bool rfl, hb5⟩
end Go.Proofs.YthmhklmoodffcaaDoor
