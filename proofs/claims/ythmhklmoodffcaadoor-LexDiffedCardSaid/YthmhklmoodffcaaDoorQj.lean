/- LexDiffed, at any two texts. -/
import Derived.Test.YthmhklmoodffcaaDoorQi
set_option linter.unusedVariables false
set_option linter.unusedSimpArgs false
namespace Go.Proofs.YthmhklmoodffcaaDoor
open Go.RowKit Go.Shelf

set_option maxRecDepth 100000 in
set_option maxHeartbeats 4000000 in
theorem diffed_out (a b : List UInt8) (y : Ed) (E : Int) (w : World) (he : ErrOk w) (h : E ≠ 0 ∨ (E = 0 ∧ 60 < a.length) ∨ (E = 0 ∧ a.length ≤ 60 ∧ 60 < b.length))
    (CD : Hid (∀ W, Calls Tryd.prog 28 #[.string (mkS a), .string (mkS b)] W fun e w' => e = .returned (.tuple #[.agg #[.int .i64 y.1, .int .i64 y.2.1, .string (mkS y.2.2)], .int .i64 E]) ∧ Below W.heap.size W w')) :
    Calls Tryd.prog 11 #[.string (mkS a), .string (mkS b)] w fun e w' => e = .returned (.bool true) ∧ Below w.heap.size w w' := by
  have CW : Hid (∀ W, Below w.heap.size w W → Calls Tryd.prog 16 #[] W fun e w' => e = .returned (.bool true) ∧ Below W.heap.size W w') := fun W hW => awake_any W (he.below hW)
  have sa := mkS_size a
  have sb := mkS_size b
  clear he
  rcases h with h1 | ⟨rfl, h2⟩ | ⟨rfl, h2, h3⟩
  · have b1 : (E != 0) = true := by rw [bne_iff_ne]; exact h1
    clear h1 sa sb
    go_enter Tryd.func11, Tryd.ntmps11
    go_wp2_with fail
    refine (CD.out _).mono ?_
    rintro e w1 ⟨rfl, hb1⟩
    have HB := Lib.hid (hb1.alloc hb1.size (.cells #[.int .i64 y.1, .int .i64 y.2.1, .string (mkS y.2.2)] 34))
    clear hb1
    go_wp2_with fail
    refine (CW.out _ HB.out).mono ?_
    rintro e w5 ⟨rfl, hb5⟩
    have hF : Below w.heap.size w w5 := HB.out.trans (hb5.mono HB.out.size)
    clear hb5
    go_wp2
    go_ret
    exact ⟨ret_bool rfl, hF⟩
  · have g1 : decide (60 < ((mkS a).size : Int)) = true := decide_eq_true (by omega)
    have g1' : 60 < (mkS a).size := by omega
    clear h2 sa sb
    go_enter Tryd.func11, Tryd.ntmps11
    go_wp2_with fail
    refine (CD.out _).mono ?_
    rintro e w1 ⟨rfl, hb1⟩
    have HB := Lib.hid (hb1.alloc hb1.size (.cells #[.int .i64 y.1, .int .i64 y.2.1, .string (mkS y.2.2)] 34))
    clear hb1
    go_wp2_with fail
    refine (CW.out _ HB.out).mono ?_
    rintro e w5 ⟨rfl, hb5⟩
    have hF : Below w.heap.size w w5 := HB.out.trans (hb5.mono HB.out.size)
    clear hb5
    go_wp2
    go_ret
    exact ⟨ret_bool rfl, hF⟩
  · have g1 : decide (60 < ((mkS a).size : Int)) = false := decide_eq_false (by omega)
    have g1' : ¬ 60 < (mkS a).size := by omega
    have g2 : decide (60 < ((mkS b).size : Int)) = true := decide_eq_true (by omega)
    have g2' : 60 < (mkS b).size := by omega
    clear h2 h3 sa sb
    go_enter Tryd.func11, Tryd.ntmps11
    go_wp2_with fail
    refine (CD.out _).mono ?_
    rintro e w1 ⟨rfl, hb1⟩
    have HB := Lib.hid (hb1.alloc hb1.size (.cells #[.int .i64 y.1, .int .i64 y.2.1, .string (mkS y.2.2)] 34))
    clear hb1
    go_wp2_with fail
    refine (CW.out _ HB.out).mono ?_
    rintro e w5 ⟨rfl, hb5⟩
    have hF : Below w.heap.size w w5 := HB.out.trans (hb5.mono HB.out.size)
    clear hb5
    go_wp2
    go_ret
    exact ⟨ret_bool rfl, hF⟩

theorem diff_spl (a b : List UInt8) (ha : chkE a = 0) (hb : chkE b = 0) :
    ∃ F T : Nat, ∃ put : List UInt8, diffF a b = (((F : Int), (T : Int), put), 0) ∧ doE a ((F : Int), (T : Int), put) = 0 ∧ splF a ((F : Int), (T : Int), put) = b ∧ F = diffFrom a b ∧ T = a.length - diffRest a b ∧ put.length = b.length - diffRest a b - diffFrom a b ∧ F ≤ a.length ∧ T ≤ a.length := by
  obtain ⟨k1, k2, k3, k4⟩ := diff_keeps a b
  have hs : splF a (((diffFrom a b : Nat) : Int), ((a.length - diffRest a b : Nat) : Int), (b.take (b.length - diffRest a b)).drop (diffFrom a b)) = b := by
    show a.take ((diffFrom a b : Nat) : Int).toNat ++ _ ++ a.drop ((a.length - diffRest a b : Nat) : Int).toNat = b
    rw [Int.toNat_natCast, Int.toNat_natCast, k3, k4]
    have : b.take (diffFrom a b) = (b.take (b.length - diffRest a b)).take (diffFrom a b) := by rw [List.take_take]; congr 1; omega
    rw [this, List.take_append_drop, List.take_append_drop]
  refine ⟨diffFrom a b, a.length - diffRest a b, (b.take (b.length - diffRest a b)).drop (diffFrom a b), ?_, ?_, hs, rfl, rfl, by simp, by omega, by omega⟩
  · unfold diffF; rw [if_neg (by omega), if_neg (by omega)]
  · refine doE_of ha ?_ (by rw [hs]; exact hb)
    simp only [isEd, Bool.and_eq_true, decide_eq_true_eq]
    exact ⟨⟨by omega, by omega⟩, by omega⟩

theorem diffed_any (a b : List UInt8) (w : World) (ha : a.length ≤ 140737488355328) (hb : b.length ≤ 140737488355328) (he : ErrOk w) :
    Calls Tryd.prog 11 #[.string (mkS a), .string (mkS b)] w fun e w' => e = .returned (.bool true) ∧ Below w.heap.size w w' := by
  have CD := Lib.hid fun W => diff_any a b W (by omega) (by omega)
  by_cases h1 : (diffF a b).2 = 0
  · by_cases h2 : a.length ≤ 60
    · by_cases h3 : b.length ≤ 60
      · have hca : chkE a = 0 := by unfold diffF at h1; split at h1; exact h1; omega
        have hcb : chkE b = 0 := by unfold diffF at h1; rw [if_neg (by omega)] at h1; split at h1; exact h1; omega
        obtain ⟨F, T, put, e1, e2, e3, e4, e5, e6, e7, e8⟩ := diff_spl a b hca hcb
        rw [e1] at CD
        obtain ⟨k1, k2, k3, k4⟩ := diff_keeps a b
        refine diffed_walk a b put F T w he h2 h3 (by omega) (by omega) (by omega) CD ?_ ?_
        · intro W
          have := apply_any a ((F : Int), (T : Int), put) W ha (by show put.length ≤ _; omega)
          have e : applyF a ((F : Int), (T : Int), put) = b := by unfold applyF; rw [if_pos e2, e3]
          rw [e, e2] at this; exact this
        · intro i k c1 c2 c3 c4
          have := diff_best a b i k c1 c2 c3 c4
          omega
      · exact diffed_out a b (diffF a b).1 (diffF a b).2 w he (.inr (.inr ⟨by omega, by omega, by omega⟩)) CD
    · exact diffed_out a b (diffF a b).1 (diffF a b).2 w he (.inr (.inl ⟨by omega, by omega⟩)) CD
  · exact diffed_out a b (diffF a b).1 (diffF a b).2 w he (.inl (by omega)) CD
end Go.Proofs.YthmhklmoodffcaaDoor
