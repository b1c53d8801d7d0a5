/- The walk of LexComments. -/
import Derived.Test.YthmhklmoodffcaaDoorPd
set_option linter.unusedVariables false
set_option linter.unusedSimpArgs false
namespace Go.Proofs.YthmhklmoodffcaaDoor
open Go.RowKit Go.Shelf

set_option maxRecDepth 100000 in
set_option maxHeartbeats 4000000 in
theorem comments_walk (s t : List UInt8) (cs : List (Nat × Nat)) (A E : Int) (w : World) (he : ErrOk w) (h1 : s.length ≤ 3000)
    (C1 : Hid (∀ W, Calls Tryd.prog 19 #[.string (mkS s)] W fun e w' => ∃ v, e = .returned (.tuple #[v, .int .i64 A, .int .i64 E]) ∧ ReadsSt w' v cs ∧ Below W.heap.size W w'))
    (C2 : Hid (∀ W, Calls Tryd.prog 20 #[.string (mkS s)] W fun e w' => e = .returned (.tuple #[.string (mkS t), .int .i64 A, .int .i64 E]) ∧ Below W.heap.size W w'))
    (C3 : Hid (∀ W, Calls Tryd.prog 21 #[.string (mkS s)] W fun e w' => ∃ v, e = .returned (.tuple #[v, .int .i64 A, .int .i64 E]) ∧ ReadsSt w' v cs ∧ Below W.heap.size W w'))
    (C4 : Hid (∀ W, Calls Tryd.prog 22 #[.string (mkS s)] W fun e w' => e = .returned (.tuple #[.string (mkS t), .int .i64 A, .int .i64 E]) ∧ Below W.heap.size W w')) :
    Calls Tryd.prog 4 #[.string (mkS s)] w fun e w' => e = .returned (.bool true) ∧ Below w.heap.size w w' := by
  have CW : Hid (∀ W, Below w.heap.size w W → Calls Tryd.prog 16 #[] W fun e w' => e = .returned (.bool true) ∧ Below W.heap.size W w') := fun W hW => awake_any W (he.below hW)
  have CS1 : Hid (∀ W, Calls Tryd.prog 15 #[.string (mkS s)] W fun e w' => e = .returned (.bool true) ∧ W = w') := fun W => short_yes s W h1
  have CE : Hid (∀ W v u, ReadsSt W v cs → ReadsSt W u cs → Calls Tryd.prog 23 #[v, u] W fun e w' => e = .returned (.bool true) ∧ Below W.heap.size W w') := fun W v u g1 g2 => by
    have := sameS_any v u cs cs W g1 g2
    rw [beq_self_eq_true] at this; exact this
  clear h1 he
  go_enter Tryd.func4, Tryd.ntmps4
  go_wp2_with fail
  refine (CS1.out _).mono ?_
  rintro e w' ⟨rfl, rfl⟩
  go_wp2_with fail
  refine (C1.out _).mono ?_
  rintro e w1 ⟨v, rfl, hr1, hb1⟩
  have HB1 := Lib.hid hb1; have HR1 := Lib.hid hr1
  clear hb1 hr1
  go_wp2_with fail
  refine (C2.out _).mono ?_
  rintro e w2 ⟨rfl, hb2⟩
  have HB2 := Lib.hid (HB1.out.trans (hb2.mono HB1.out.size)); have HR2 := Lib.hid (HR1.out.below hb2)
  clear hb2
  go_wp2_with fail
  refine (C3.out _).mono ?_
  rintro e w3 ⟨u, rfl, hr3, hb3⟩
  have HB3 := Lib.hid (HB2.out.trans (hb3.mono HB2.out.size)); have HR3 := Lib.hid (HR2.out.below hb3); have HU3 := Lib.hid hr3
  clear hb3 hr3
  go_wp2_with fail
  refine (C4.out _).mono ?_
  rintro e w4 ⟨rfl, hb4⟩
  have HB4 := Lib.hid (HB3.out.trans (hb4.mono HB3.out.size)); have HR4 := Lib.hid (HR3.out.below hb4); have HU4 := Lib.hid (HU3.out.below hb4)
  clear hb4
  go_wp2_with fail
  refine (CE.out _ _ _ HR4.out HU4.out).mono ?_
  rintro e w5 ⟨rfl, hb5⟩
  have HB5 := Lib.hid (HB4.out.trans (hb5.mono HB4.out.size))
  clear hb5
  go_wp2_with fail
  refine (CW.out _ HB5.out).mono ?_
  rintro e w6 ⟨rfl, hb6⟩
  have hF : Below w.heap.size w w6 := HB5.out.trans (hb6.mono HB5.out.size)
  clear hb6
  go_wp2
  go_ret
  exact ⟨ret_bool rfl, hF⟩

theorem readsS_nil (w : World) : ReadsSt w (.slice none 0 0) [] := ⟨none, 0, rfl, by simp, .inl rfl⟩
set_option maxRecDepth 100000 in
set_option maxHeartbeats 4000000 in
theorem comments_law (s : List UInt8) (w : World) (hs : s.length ≤ 140737488355328) (he : ErrOk w) :
    Calls Tryd.prog 4 #[.string (mkS s)] w fun e w' => e = .returned (.bool true) ∧ Below w.heap.size w w' := by
  by_cases h1 : s.length ≤ 3000
  · by_cases hc : chkE s = 0
    · refine comments_walk s (blankL s) (comF s) 0 0 w he h1 (fun W => ?_) (fun W => blank_ok s W hs hc) (fun W => ?_) (fun W => refBlank_ok s W h1 hc)
      · refine (lexComments_ok s W h1 hc).mono ?_
        rintro e w' ⟨v, a, b, c⟩
        exact ⟨v, a, readsS_own b (by have := comF_length s; omega), c⟩
      · refine (refComments_ok s W h1 hc).mono ?_
        rintro e w' ⟨v, a, b, c⟩
        exact ⟨v, a, readsS_own b (by have := comF_length s; omega), c⟩
    · have e0 : mkS ([] : List UInt8) = ⟨#[]⟩ := rfl
      refine comments_walk s [] [] (chkAt s) (chkE s) w he h1 (fun W => ?_) (fun W => by rw [e0]; exact blank_bad s W hs hc) (fun W => ?_) (fun W => by rw [e0]; exact refBlank_bad s W hs hc)
      · refine (lexComments_bad s W hs hc).mono ?_
        rintro e w' ⟨a, c⟩
        exact ⟨_, a, readsS_nil _, c⟩
      · refine (refComments_bad s W hs hc).mono ?_
        rintro e w' ⟨a, c⟩
        exact ⟨_, a, readsS_nil _, c⟩
  · have CW : Hid (∀ W, Below w.heap.size w W → Calls Tryd.prog 16 #[] W fun e w' => e = .returned (.bool true) ∧ Below W.heap.size W w') := fun W hW => awake_any W (he.below hW)
    have hB0 : Below w.heap.size w w := Below.refl _ _
    have CS1 : Hid (∀ W, Calls Tryd.prog 15 #[.string (mkS s)] W fun e w' => e = .returned (.bool false) ∧ W = w') := fun W => short_no s W h1
    clear h1 hs he
    go_enter Tryd.func4, Tryd.ntmps4
    go_wp2_with fail
    refine (CS1.out _).mono ?_
    rintro e w' ⟨rfl, rfl⟩
    go_wp2_with fail
    refine (CW.out _ hB0).mono ?_
    rintro e w5 ⟨rfl, hb5⟩
    go_wp2
    go_ret
    exact ⟨ret_bool rfl, hb5⟩
end Go.Proofs.YthmhklmoodffcaaDoor
