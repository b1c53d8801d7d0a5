/- The walk of LexKinds. -/
import Derived.Test.YthmhklmoodffcaaDoorQn
set_option linter.unusedVariables false
set_option linter.unusedSimpArgs false
namespace Go.Proofs.YthmhklmoodffcaaDoor
open Go.RowKit Go.Shelf

set_option maxRecDepth 100000 in
set_option maxHeartbeats 4000000 in
theorem kinds_any (s : List UInt8) (w : World) (hs : s.length ≤ 140737488355328) (he : ErrOk w) :
    Calls Tryd.prog 3 #[.string (mkS s)] w fun e w' => e = .returned (.bool true) ∧ Below w.heap.size w w' := by
  have CW : Hid (∀ W, Below w.heap.size w W → Calls Tryd.prog 16 #[] W fun e w' => e = .returned (.bool true) ∧ Below W.heap.size W w') := fun W hW => awake_any W (he.below hW)
  have hB0 : Below w.heap.size w w := Below.refl _ _
  by_cases h1 : s.length ≤ 3000
  · obtain ⟨K, hK⟩ : ∃ K : Nat, K = (kindR s).getD 0 := ⟨_, rfl⟩
    obtain ⟨E, hE⟩ : ∃ E : Int, E = if (kindR s).isSome then 0 else 4 := ⟨_, rfl⟩
    have CS1 : Hid (∀ W, Calls Tryd.prog 15 #[.string (mkS s)] W fun e w' => e = .returned (.bool true) ∧ W = w') := fun W => short_yes s W h1
    have C1 : Hid (∀ W, Below w.heap.size w W → Calls Tryd.prog 17 #[.string (mkS s)] W fun e w' => e = .returned (.tuple #[.int .u8 K, .int .i64 E]) ∧ Below W.heap.size W w') := fun W hW => by
      rw [hK, hE]; exact Kind_any s W (by omega) (he.below hW)
    have C2 : Hid (∀ W, Calls Tryd.prog 18 #[.string (mkS s)] W fun e w' => e = .returned (.tuple #[.int .u8 K, .int .i64 E]) ∧ Below W.heap.size W w') := fun W => by
      rw [hK, hE]; exact refKind_any s W (by omega)
    clear hK hE h1 hs he
    go_enter Tryd.func3, Tryd.ntmps3
    go_wp2_with fail
    refine (CS1.out _).mono ?_
    rintro e w' ⟨rfl, rfl⟩
    go_wp2_with fail
    refine (C1.out _ hB0).mono ?_
    rintro e w1 ⟨rfl, hb1⟩
    have HB1 := Lib.hid hb1
    clear hb1
    go_wp2_with fail
    refine (C2.out _).mono ?_
    rintro e w2 ⟨rfl, hb2⟩
    have HB2 := Lib.hid (HB1.out.trans (hb2.mono HB1.out.size))
    clear hb2
    go_wp2_with fail
    refine (CW.out _ HB2.out).mono ?_
    rintro e w5 ⟨rfl, hb5⟩
    have hF : Below w.heap.size w w5 := HB2.out.trans (hb5.mono HB2.out.size)
    clear hb5
    go_wp2
    go_ret
    exact ⟨ret_bool rfl, hF⟩
  · have CS1 : Hid (∀ W, Calls Tryd.prog 15 #[.string (mkS s)] W fun e w' => e = .returned (.bool false) ∧ W = w') := fun W => short_no s W h1
    clear h1 hs he
    go_enter Tryd.func3, Tryd.ntmps3
    go_wp2_with fail
    refine (CS1.out _).mono ?_
    rintro e w' ⟨rfl, rfl⟩
    go_wp2_with fail
    refine (CW.out _ hB0).mono ?_
    rintro e w5 ⟨rfl, hb5⟩
    go_wp2
    go_ret
    exact ⟨ret_bool rfl, hb5⟩
end Go.Proofs.YthmhklmoodffcaaDoor
