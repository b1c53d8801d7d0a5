/- The walk of LexSigns. -/
import Derived.Test.YthmhklmoodffcaaDoorLb
import Derived.Test.YthmhklmoodffcaaDoorQd
set_option linter.unusedVariables false
set_option linter.unusedSimpArgs false
namespace Go.Proofs.YthmhklmoodffcaaDoor
open Go.RowKit Go.Shelf

theorem sg1 : ∀ k, k < 22 → kindR (signsL.getD k []) = some 4 := by decide +kernel
def sgAll (k : Nat) : Bool := decide ((scanF (signsL.getD k [] ++ [32, 49])).1 = [(4, signsL.getD k [], 0), (2, [49], ((signsL.getD k []).length : Int) + 1)]) && decide ((scanF (signsL.getD k [] ++ [32, 49])).2.1 = 0) && decide ((scanF (signsL.getD k [] ++ [32, 49])).2.2 = 0)
theorem sg2' : ∀ k, k < 22 → sgAll k = true := by decide +kernel
theorem sg2 (k : Nat) (hk : k < 22) : scanF (signsL.getD k [] ++ [32, 49]) = ([(4, signsL.getD k [], 0), (2, [49], ((signsL.getD k []).length : Int) + 1)], 0, 0) := by
  have := sg2' k hk
  simp only [sgAll, Bool.and_eq_true, decide_eq_true_eq] at this
  exact Prod.ext this.1.1 (Prod.ext this.1.2 this.2)
theorem sg3 : ∀ k, k < 28 → kindR (wordsL.getD k []) = some 3 := by decide +kernel
theorem sg4 : ∀ k, k < 28 → kindR (wordsL.getD k [] ++ [49]) = some 1 := by decide +kernel
theorem sg5 : ∀ k, k < 22 → (signsL.getD k []).length ≤ 100 := by decide +kernel
theorem sg6 : ∀ k, k < 28 → (wordsL.getD k []).length ≤ 100 := by decide +kernel
theorem sgc0 : kindR [49, 48, 48, 48, 48, 48, 48, 48, 48, 49] = none := by decide +kernel
theorem sgc1 : kindR [48, 48] = none := by decide +kernel
theorem sgc2 : kindR [97, 98, 99, 100, 101, 102, 103, 104, 105, 106, 107, 108, 109] = none := by decide +kernel
theorem sgc3 : kindR [97, 98, 99, 100, 101, 102, 103, 104, 105, 106, 107, 108] = some 1 := by decide +kernel
theorem sgc4 : kindR [49, 48, 48, 48, 48, 48, 48, 48, 48, 48] = some 2 := by decide +kernel
theorem sgc5 : kindR [95] = none := by decide +kernel

set_option maxRecDepth 100000 in
set_option maxHeartbeats 8000000 in
theorem signs_law (w : World) (he : ErrOk w) :
    Calls Tryd.prog 14 #[] w fun e w' => e = .returned (.bool true) ∧ Below w.heap.size w w' := by
  have CW : Hid (∀ W, Below w.heap.size w W → Calls Tryd.prog 16 #[] W fun e w' => e = .returned (.bool true) ∧ Below W.heap.size W w') := fun W hW => awake_any W (he.below hW)
  have CK : Hid (∀ k W, k < 22 → Below w.heap.size w W → Calls Tryd.prog 17 #[.string (mkS (signsL.getD k []))] W fun e w' => e = .returned (.tuple #[.int .u8 4, .int .i64 0]) ∧ Below W.heap.size W w') := fun k W hk hW => by
    have := Kind_any (signsL.getD k []) W (by have := sg5 k hk; omega) (he.below hW)
    rw [sg1 k hk] at this; exact this
  have CS : Hid (∀ k W, k < 22 → Below w.heap.size w W → Calls Tryd.prog 36 #[.string (mkS (signsL.getD k []) ++ ⟨#[32, 49]⟩)] W (ScanP [(4, signsL.getD k [], 0), (2, [49], ((signsL.getD k []).length : Int) + 1)] 0 0 W)) := fun k W hk hW => by
    have := scanP (signsL.getD k [] ++ [32, 49]) W (by have := sg5 k hk; simp only [List.length_append, List.length_cons, List.length_nil]; omega) (he.below hW)
    rw [sg2 k hk, ← mkS_append] at this; exact this
  have CK3 : Hid (∀ k W, k < 28 → Below w.heap.size w W → Calls Tryd.prog 17 #[.string (mkS (wordsL.getD k []))] W fun e w' => e = .returned (.tuple #[.int .u8 3, .int .i64 0]) ∧ Below W.heap.size W w') := fun k W hk hW => by
    have := Kind_any (wordsL.getD k []) W (by have := sg6 k hk; omega) (he.below hW)
    rw [sg3 k hk] at this; exact this
  have CK4 : Hid (∀ k W, k < 28 → Below w.heap.size w W → Calls Tryd.prog 17 #[.string (mkS (wordsL.getD k []) ++ ⟨#[49]⟩)] W fun e w' => e = .returned (.tuple #[.int .u8 1, .int .i64 0]) ∧ Below W.heap.size W w') := fun k W hk hW => by
    have := Kind_any (wordsL.getD k [] ++ [49]) W (by have := sg6 k hk; simp only [List.length_append, List.length_cons, List.length_nil]; omega) (he.below hW)
    rw [sg4 k hk, ← mkS_append] at this; exact this
  have CC0 : Hid (∀ W, Below w.heap.size w W → Calls Tryd.prog 17 #[.string ⟨#[49, 48, 48, 48, 48, 48, 48, 48, 48, 49]⟩] W fun e w' => e = .returned (.tuple #[.int .u8 0, .int .i64 4]) ∧ Below W.heap.size W w') := fun W hW => by
    have := Kind_any [49, 48, 48, 48, 48, 48, 48, 48, 48, 49] W (by decide) (he.below hW)
    rw [sgc0] at this; exact this
  have CC1 : Hid (∀ W, Below w.heap.size w W → Calls Tryd.prog 17 #[.string ⟨#[48, 48]⟩] W fun e w' => e = .returned (.tuple #[.int .u8 0, .int .i64 4]) ∧ Below W.heap.size W w') := fun W hW => by
    have := Kind_any [48, 48] W (by decide) (he.below hW)
    rw [sgc1] at this; exact this
  have CC2 : Hid (∀ W, Below w.heap.size w W → Calls Tryd.prog 17 #[.string ⟨#[97, 98, 99, 100, 101, 102, 103, 104, 105, 106, 107, 108, 109]⟩] W fun e w' => e = .returned (.tuple #[.int .u8 0, .int .i64 4]) ∧ Below W.heap.size W w') := fun W hW => by
    have := Kind_any [97, 98, 99, 100, 101, 102, 103, 104, 105, 106, 107, 108, 109] W (by decide) (he.below hW)
    rw [sgc2] at this; exact this
  have CC3 : Hid (∀ W, Below w.heap.size w W → Calls Tryd.prog 17 #[.string ⟨#[97, 98, 99, 100, 101, 102, 103, 104, 105, 106, 107, 108]⟩] W fun e w' => e = .returned (.tuple #[.int .u8 1, .int .i64 0]) ∧ Below W.heap.size W w') := fun W hW => by
    have := Kind_any [97, 98, 99, 100, 101, 102, 103, 104, 105, 106, 107, 108] W (by decide) (he.below hW)
    rw [sgc3] at this; exact this
  have CC4 : Hid (∀ W, Below w.heap.size w W → Calls Tryd.prog 17 #[.string ⟨#[49, 48, 48, 48, 48, 48, 48, 48, 48, 48]⟩] W fun e w' => e = .returned (.tuple #[.int .u8 2, .int .i64 0]) ∧ Below W.heap.size W w') := fun W hW => by
    have := Kind_any [49, 48, 48, 48, 48, 48, 48, 48, 48, 48] W (by decide) (he.below hW)
    rw [sgc4] at this; exact this
  have CC5 : Hid (∀ W, Below w.heap.size w W → Calls Tryd.prog 17 #[.string ⟨#[95]⟩] W fun e w' => e = .returned (.tuple #[.int .u8 0, .int .i64 4]) ∧ Below W.heap.size W w') := fun W hW => by
    have := Kind_any [95] W (by decide) (he.below hW)
    rw [sgc5] at this; exact this
  clear he
  go_enter Tryd.func14, Tryd.ntmps14
  go_wp2_with fail
  refine (signs_any _).mono ?_
  rintro e w1 ⟨rfl, rfl⟩
  go_wp2_with fail
  refine (keywords_any _).mono ?_
  rintro e w2 ⟨rfl, hw2⟩
  have HSG : Hid (∀ j, j < 22 → w2.cell? ⟨w.heap.size, j, none⟩ = some (.string (mkS (signsL.getD j [])))) := fun j hj => by
    have h1 := cell_strs w signsL 9 j hj
    have hb : Below (w.alloc (.cells (strCells signsL) 9)).heap.size (w.alloc (.cells (strCells signsL) 9)) w2 := by rw [hw2]; exact (Below.refl _ _).alloc (Nat.le_refl _) _
    exact (hb.cell (by simp)).trans h1
  have HWD : Hid (∀ j, j < 28 → w2.cell? ⟨w.heap.size + 1, j, none⟩ = some (.string (mkS (wordsL.getD j [])))) := fun j hj => by
    have h1 := cell_strs (w.alloc (.cells (strCells signsL) 9)) wordsL 9 j hj
    rw [← hw2] at h1; simpa using h1
  have HB2 : Hid (Below w.heap.size w w2) := by
    show Below w.heap.size w w2
    rw [hw2]; exact ((Below.refl _ _).alloc (Nat.le_refl _) _).alloc (by simp) _
  clear hw2
  go_wp2
  go_loopw [3] (fun c wr => ∃ k : Nat, k ≤ 22 ∧ c = .int .i64 k ∧ Hid (Below w2.heap.size w2 wr)) (fun c _ => 22 - (intOf c).toNat)
  case atStart => exact ⟨0, Nat.zero_le _, rfl, Below.refl _ _⟩
  case round =>
    obtain ⟨k, hk, rfl, hb⟩ := hrel
    have HBr := Lib.hid (HB2.out.trans (hb.out.mono HB2.out.size))
    by_cases hlt : k < 22
    · have cell := HSG.out k hlt
      have CKk := Lib.hid fun W => CK.out k W hlt
      have CSk := Lib.hid fun W => CS.out k W hlt
      obtain ⟨t, ht⟩ : ∃ t, t = signsL.getD k [] := ⟨_, rfl⟩
      rw [← ht] at cell CKk CSk
      obtain ⟨L, hL⟩ : ∃ L : Int, L = (t.length : Int) + 1 := ⟨_, rfl⟩
      rw [← hL] at CSk
      have CE := Lib.hid cell
      have c0 : wr.cell? ⟨w.heap.size, k, none⟩ = some (.string (mkS t)) := (hb.out.cell (cell_lt cell)).trans cell
      have hts : (mkS t).size ≤ 100 := by rw [mkS_size, ht]; exact sg5 k hlt
      clear ht hL cell
      go_wp2_with fail
      refine (CKk.out _ HBr.out).mono ?_
      rintro e w3 ⟨rfl, hb3⟩
      have HB3 := Lib.hid (hb.out.trans (hb3.mono hb.out.size))
      have c1 : w3.cell? ⟨w.heap.size, k, none⟩ = some (.string (mkS t)) := (HB3.out.cell (cell_lt CE.out)).trans CE.out
      clear hb3 c0
      go_wp2_with fail
      refine (CSk.out _ (HB2.out.trans (HB3.out.mono HB2.out.size))).mono ?_
      rintro e w4 ⟨v, rfl, hown, hb4⟩
      have h1 := reads_own hown (by simp)
      obtain ⟨b, off, cap, hv, d1, d2, d3⟩ := reads_at h1 0 (by simp)
      have hv' : v = .slice (some ⟨b, off, none⟩) 2 cap := hv
      have e2 : w4.cell? ⟨b, off + 1, none⟩ = some (.string (mkS t)) := d2
      subst hv'
      have HB4 := Lib.hid (HB3.out.trans (hb4.mono HB3.out.size))
      have c2 : w4.cell? ⟨w.heap.size, k, none⟩ = some (.string (mkS t)) := (HB4.out.cell (cell_lt CE.out)).trans CE.out
      have lb : b < w4.heap.size := cell_lt e2
      have heq : ((mkS t).toList == (mkS t).toList) = true := by simp
      clear hown hb4 h1 hv d1 d2 d3 c1
      go_wp2
      go_quiet (fail)
      go_wp2
      go_roundw
      case rel => exact ⟨k + 1, by omega, by go_num, HB4.out.trans (below_drewAt _ _ _)⟩
      case measure => simp [intOf]; omega
    · have B := hb.out
      clear hb
      go_wp2
      go_loopw [9] (fun c wr2 => ∃ k2 : Nat, k2 ≤ 28 ∧ c = .int .i64 k2 ∧ Hid (Below w2.heap.size w2 wr2)) (fun c _ => 28 - (intOf c).toNat)
      case atStart => exact ⟨0, Nat.zero_le _, rfl, B⟩
      case round =>
        obtain ⟨k2, hk2, rfl, hb⟩ := hrel
        have HBr2 := Lib.hid (HB2.out.trans (hb.out.mono HB2.out.size))
        by_cases hlt2 : k2 < 28
        · have cell := HWD.out k2 hlt2
          have C3 := Lib.hid fun W => CK3.out k2 W hlt2
          have C4 := Lib.hid fun W => CK4.out k2 W hlt2
          obtain ⟨t, ht⟩ : ∃ t, t = wordsL.getD k2 [] := ⟨_, rfl⟩
          rw [← ht] at cell C3 C4
          have CE := Lib.hid cell
          have c0 : wr.cell? ⟨w.heap.size + 1, k2, none⟩ = some (.string (mkS t)) := (hb.out.cell (cell_lt cell)).trans cell
          have hts : (mkS t).size ≤ 100 := by rw [mkS_size, ht]; exact sg6 k2 hlt2
          clear ht cell
          go_wp2_with fail
          refine (C3.out _ HBr2.out).mono ?_
          rintro e w3 ⟨rfl, hb3⟩
          have HB3 := Lib.hid (hb.out.trans (hb3.mono hb.out.size))
          have c1 : w3.cell? ⟨w.heap.size + 1, k2, none⟩ = some (.string (mkS t)) := (HB3.out.cell (cell_lt CE.out)).trans CE.out
          clear hb3 c0
          go_wp2_with fail
          refine (C4.out _ (HB2.out.trans (HB3.out.mono HB2.out.size))).mono ?_
          rintro e w4 ⟨rfl, hb4⟩
          have HB4 := Lib.hid (HB3.out.trans (hb4.mono HB3.out.size))
          clear hb4 c1
          go_wp2
          go_roundw
          case rel => exact ⟨k2 + 1, by omega, by go_num, HB4⟩
          case measure => simp [intOf]; omega
        · have B0 := HBr2
          clear hb B
          go_wp2_with fail
          refine (CC0.out _ B0.out).mono ?_
          rintro e w10 ⟨rfl, hb10⟩
          have B1 := Lib.hid (B0.out.trans (hb10.mono B0.out.size))
          clear hb10
          go_wp2_with fail
          refine (CC1.out _ B1.out).mono ?_
          rintro e w11 ⟨rfl, hb11⟩
          have B2 := Lib.hid (B1.out.trans (hb11.mono B1.out.size))
          clear hb11
          go_wp2_with fail
          refine (CC2.out _ B2.out).mono ?_
          rintro e w12 ⟨rfl, hb12⟩
          have B3 := Lib.hid (B2.out.trans (hb12.mono B2.out.size))
          clear hb12
          go_wp2_with fail
          refine (CC3.out _ B3.out).mono ?_
          rintro e w13 ⟨rfl, hb13⟩
          have B4 := Lib.hid (B3.out.trans (hb13.mono B3.out.size))
          clear hb13
          go_wp2_with fail
          refine (CC4.out _ B4.out).mono ?_
          rintro e w14 ⟨rfl, hb14⟩
          have B5 := Lib.hid (B4.out.trans (hb14.mono B4.out.size))
          clear hb14
          go_wp2_with fail
          refine (CC5.out _ B5.out).mono ?_
          rintro e w15 ⟨rfl, hb15⟩
          have B6 := Lib.hid (B5.out.trans (hb15.mono B5.out.size))
          clear hb15
          go_wp2_with fail
          refine (CW.out _ B6.out).mono ?_
          rintro e w20 ⟨rfl, hb20⟩
          have hF : Below w.heap.size w w20 := B6.out.trans (hb20.mono B6.out.size)
          clear hb20
          go_wp2
          go_ret
          exact ⟨ret_bool rfl, hF⟩
end Go.Proofs.YthmhklmoodffcaaDoor
