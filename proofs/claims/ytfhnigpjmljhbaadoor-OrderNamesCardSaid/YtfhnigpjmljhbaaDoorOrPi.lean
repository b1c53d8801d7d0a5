/- The kinds of the words of shapes, as a map. -/
import Derived.Test.YtfhnigpjmljhbaaDoorOrPh
set_option linter.unusedVariables false
set_option linter.unusedSimpArgs false
namespace Go.Proofs.YtfhnigpjmljhbaaDoor.Or
open Go.RowKit Go.Shelf Go.WideMaps Go.Maps

/-- The words of the first kinds, as a map, and how many they are; the kind of a word. -/
def kdD : Nat → DataW Unit × Nat
  | 0 => (.map [], 0)
  | k + 1 => if shapeWords.getD k [] = [] then kdD k else ((kdD k).1.put (.string (shapeWords.getD k [])) (.lit (.int .u8 k)), (kdD k).2 + 1)
def kwF (x : List UInt8) : Nat → Nat × Bool
  | 0 => (0, false)
  | k + 1 => if shapeWords.getD k [] = [] then kwF x k else if shapeWords.getD k [] = x then (k, true) else kwF x k
theorem kdD_map : ∀ k, IsMap (kdD k).1
  | 0 => isMap_empty
  | k + 1 => by unfold kdD; split; exact kdD_map k; exact (kdD_map k).put _ _
theorem kdD_at (x : List UInt8) : ∀ k, (kdD k).1.atKey (.string x) (.lit (.int .u8 0)) = .lit (.int .u8 ((kwF x k).1 : Nat)) ∧ has (kdD k).1 (.string x) = (kwF x k).2
  | 0 => by simp [kdD, kwF, DataW.atKey, has]
  | k + 1 => by
    unfold kdD kwF
    split
    · exact kdD_at x k
    · by_cases e : shapeWords.getD k [] = x
      · subst e
        rw [if_pos rfl]
        simp only
        rw [atKey_put_same (kdD_map k) (by simp [WideAt.IsKeyLit]), has_put_same (kdD_map k) (by simp [WideAt.IsKeyLit])]
        exact ⟨rfl, rfl⟩
      · rw [if_neg e]
        simp only
        rw [atKey_put_other (by simpa using fun h => e h.symm), has_put_other (by simpa using fun h => e h.symm)]
        exact kdD_at x k
theorem kwF_lt (x : List UInt8) : ∀ k, (kwF x k).1 ≤ k
  | 0 => by simp [kwF]
  | k + 1 => by
    have := kwF_lt x k
    unfold kwF
    split
    · omega
    · split
      · show k ≤ k + 1; omega
      · omega
set_option maxRecDepth 100000 in
set_option maxHeartbeats 4000000 in
theorem words_any (w : World) (hL : LaidOk w) :
    Calls Tryd.prog 67 #[] w fun e w' => ∃ mb, e = .returned (.map (some mb)) ∧ w.heap.size ≤ mb ∧ w'.ownsMap Tryd.prog 9 (plainElem (H := Unit) Tryd.prog 5) mb (kdD 8).2 (kdD 8).1 ∧ Below w.heap.size w w' := by
  have hmm := @run_makeMap Tryd.prog
  have hw := fun i hi => hL.words i hi
  have g0 := hw 0 (by decide); have g1 := hw 1 (by decide); have g2 := hw 2 (by decide); have g3 := hw 3 (by decide); have g4 := hw 4 (by decide); have g5 := hw 5 (by decide); have g6 := hw 6 (by decide); have g7 := hw 7 (by decide)
  simp only [shapeWords, List.getD_cons_zero, List.getD_cons_succ] at g0 g1 g2 g3 g4 g5 g6 g7
  have lg : 0 < w.heap.size := cell_lt g0
  clear hw hL
  have i0 : ∀ W, (Instr.index 123 (.agg #[Value.string (mkS []), Value.string (mkS [102, 108, 97, 103]), Value.string (mkS [109, 97, 120]), Value.string (mkS [115, 101, 116]), Value.string (mkS [111, 110, 99, 101]), Value.string (mkS []), Value.string (mkS [109, 97, 112]), Value.string (mkS [112, 97, 105, 114])]) (.int .i64 0)).run Tryd.prog W = .ok (.string (mkS [])) W := fun _ => by kernel_rfl
  have i1 : ∀ W, (Instr.index 123 (.agg #[Value.string (mkS []), Value.string (mkS [102, 108, 97, 103]), Value.string (mkS [109, 97, 120]), Value.string (mkS [115, 101, 116]), Value.string (mkS [111, 110, 99, 101]), Value.string (mkS []), Value.string (mkS [109, 97, 112]), Value.string (mkS [112, 97, 105, 114])]) (.int .i64 1)).run Tryd.prog W = .ok (.string (mkS [102, 108, 97, 103])) W := fun _ => by kernel_rfl
  have i2 : ∀ W, (Instr.index 123 (.agg #[Value.string (mkS []), Value.string (mkS [102, 108, 97, 103]), Value.string (mkS [109, 97, 120]), Value.string (mkS [115, 101, 116]), Value.string (mkS [111, 110, 99, 101]), Value.string (mkS []), Value.string (mkS [109, 97, 112]), Value.string (mkS [112, 97, 105, 114])]) (.int .i64 2)).run Tryd.prog W = .ok (.string (mkS [109, 97, 120])) W := fun _ => by kernel_rfl
  have i3 : ∀ W, (Instr.index 123 (.agg #[Value.string (mkS []), Value.string (mkS [102, 108, 97, 103]), Value.string (mkS [109, 97, 120]), Value.string (mkS [115, 101, 116]), Value.string (mkS [111, 110, 99, 101]), Value.string (mkS []), Value.string (mkS [109, 97, 112]), Value.string (mkS [112, 97, 105, 114])]) (.int .i64 3)).run Tryd.prog W = .ok (.string (mkS [115, 101, 116])) W := fun _ => by kernel_rfl
  have i4 : ∀ W, (Instr.index 123 (.agg #[Value.string (mkS []), Value.string (mkS [102, 108, 97, 103]), Value.string (mkS [109, 97, 120]), Value.string (mkS [115, 101, 116]), Value.string (mkS [111, 110, 99, 101]), Value.string (mkS []), Value.string (mkS [109, 97, 112]), Value.string (mkS [112, 97, 105, 114])]) (.int .i64 4)).run Tryd.prog W = .ok (.string (mkS [111, 110, 99, 101])) W := fun _ => by kernel_rfl
  have i5 : ∀ W, (Instr.index 123 (.agg #[Value.string (mkS []), Value.string (mkS [102, 108, 97, 103]), Value.string (mkS [109, 97, 120]), Value.string (mkS [115, 101, 116]), Value.string (mkS [111, 110, 99, 101]), Value.string (mkS []), Value.string (mkS [109, 97, 112]), Value.string (mkS [112, 97, 105, 114])]) (.int .i64 5)).run Tryd.prog W = .ok (.string (mkS [])) W := fun _ => by kernel_rfl
  have i6 : ∀ W, (Instr.index 123 (.agg #[Value.string (mkS []), Value.string (mkS [102, 108, 97, 103]), Value.string (mkS [109, 97, 120]), Value.string (mkS [115, 101, 116]), Value.string (mkS [111, 110, 99, 101]), Value.string (mkS []), Value.string (mkS [109, 97, 112]), Value.string (mkS [112, 97, 105, 114])]) (.int .i64 6)).run Tryd.prog W = .ok (.string (mkS [109, 97, 112])) W := fun _ => by kernel_rfl
  have i7 : ∀ W, (Instr.index 123 (.agg #[Value.string (mkS []), Value.string (mkS [102, 108, 97, 103]), Value.string (mkS [109, 97, 120]), Value.string (mkS [115, 101, 116]), Value.string (mkS [111, 110, 99, 101]), Value.string (mkS []), Value.string (mkS [109, 97, 112]), Value.string (mkS [112, 97, 105, 114])]) (.int .i64 7)).run Tryd.prog W = .ok (.string (mkS [112, 97, 105, 114])) W := fun _ => by kernel_rfl
  have q0 : ((mkS []).toList == []) = true := by rw [mkS_toList]; rfl
  have Q1 : Hid (∀ k, k < 8 → shapeWords.getD k [] ≠ [] → keyOf Tryd.prog 9 (.string (mkS (shapeWords.getD k []))) = some (.string (shapeWords.getD k []))) := fun k hk _ => key_mk _ (by
    have : ∀ y ∈ shapeWords, y.length ≤ 1000000 := by decide
    exact this _ (by rw [List.getD_eq_getElem?_getD, List.getElem?_eq_getElem (show k < shapeWords.length from hk)]; exact List.getElem_mem _))
  go_enter Tryd.func67, Tryd.ntmps67
  go_wp2
  obtain ⟨mb, hmb⟩ : ∃ x, x = w.heap.size := ⟨_, rfl⟩
  obtain ⟨W9, hW9⟩ : ∃ x, x = w.alloc (Obj.map #[] 0) := ⟨_, rfl⟩
  have hm9 : W9.ownsMap Tryd.prog 9 (plainElem (H := Unit) Tryd.prog 5) mb (kdD 0).2 (kdD 0).1 := by
    rw [hW9, hmb]
    exact World.ownsMap_made (H := Unit) w Tryd.prog 9 (plainElem (H := Unit) Tryd.prog 5)
  have hb9 : Below w.heap.size w W9 := by rw [hW9]; exact (Below.refl _ _).alloc (Nat.le_refl _) _
  rw [← hW9, ← hmb]
  have I0 : Hid (W9.ownsMap Tryd.prog 9 (plainElem (H := Unit) Tryd.prog 5) mb (kdD 0).2 (kdD 0).1 ∧ Below w.heap.size w W9) := ⟨hm9, hb9⟩
  have HMB : Hid (w.heap.size ≤ mb) := by show _ ≤ _; omega
  clear hm9 hb9 hW9 hmb
  go_loopw [6] (fun i wx => ∃ k : Nat, k ≤ 8 ∧ i = .int .i64 k ∧ Hid (wx.ownsMap Tryd.prog 9 (plainElem (H := Unit) Tryd.prog 5) mb (kdD k).2 (kdD k).1 ∧ Below w.heap.size w wx)) (fun i _ => 8 - (intOf i).toNat)
  case atStart => exact ⟨0, Nat.zero_le _, rfl, I0.out⟩
  case round =>
    clear I0
    obtain ⟨k, hk, rfl, hst⟩ := hrel
    by_cases hlt : k < 8
    · have step : ∀ w1, w1.ownsMap Tryd.prog 9 (plainElem (H := Unit) Tryd.prog 5) mb ((kdD k).2 + 1) ((kdD k).1.put (.string (shapeWords.getD k [])) (.lit (.int .u8 k))) → wr.grownBy w1 (some mb) → shapeWords.getD k [] ≠ [] → Hid (w1.ownsMap Tryd.prog 9 (plainElem (H := Unit) Tryd.prog 5) mb (kdD (k + 1)).2 (kdD (k + 1)).1 ∧ Below w.heap.size w w1) := fun w1 h1 h2 h3 => by
        refine ⟨?_, hst.out.2.grown h2 hst.out.2.size (fun j hj => by cases hj; exact HMB.out)⟩
        unfold kdD
        rw [if_neg h3]; exact h1
      have stay : shapeWords.getD k [] = [] → Hid (wr.ownsMap Tryd.prog 9 (plainElem (H := Unit) Tryd.prog 5) mb (kdD (k + 1)).2 (kdD (k + 1)).1 ∧ Below w.heap.size w wr) := fun h3 => by
        refine ⟨?_, hst.out.2⟩
        unfold kdD
        rw [if_pos h3]; exact hst.out.1
      have HSTEP := Lib.hid step; have HSTAY := Lib.hid stay; have HST := hst
      have hkk : k = 0 ∨ k = 1 ∨ k = 2 ∨ k = 3 ∨ k = 4 ∨ k = 5 ∨ k = 6 ∨ k = 7 := by omega
      have HKY := Q1.out k hlt
      have HKEY := Lib.hid HKY
      have hmx : Hid ((kdD k).2 < 100) := by
        show _ < _
        rcases hkk with rfl | rfl | rfl | rfl | rfl | rfl | rfl | rfl <;> decide
      clear step stay hst hlt hk HKY
      rcases hkk with rfl | rfl | rfl | rfl | rfl | rfl | rfl | rfl
      · have hE := HSTAY.out rfl
        clear HSTAY HSTEP HKEY hmx
        go_wp2
        go_roundw
        case rel => exact ⟨_, by decide, by first | rfl | go_num, hE⟩
        case measure => simp [intOf]
      · have hq : ((mkS (shapeWords.getD 1 [])).toList == []) = false := by rw [mkS_toList]; rfl
        simp only [shapeWords, List.getD_cons_zero, List.getD_cons_succ] at hq
        go_wp2_with (first
          | (at_mapUpdate; refine wpList_mapUpdate_own _ rfl _ _ _ 96 rfl 9 5 klaw Tryd.underlying96 _ mb _ _ rfl HST.out.1 (by unfold maxLen; have := hmx.out; omega) _ _ _ rfl rfl (HKEY.out (by decide)) _ [] (plainElem_int Tryd.underlying5 (by decide)) ?_)
          | go_in)
        intro w1 hown1 hgrow1
        have hfin := HSTEP.out w1 hown1 hgrow1 (by decide)
        clear hown1 hgrow1 HSTAY HSTEP HKEY hmx HST
        go_wp2
        go_roundw
        case rel => exact ⟨_, by decide, by first | rfl | go_num, hfin⟩
        case measure => simp [intOf]
      · have hq : ((mkS (shapeWords.getD 2 [])).toList == []) = false := by rw [mkS_toList]; rfl
        simp only [shapeWords, List.getD_cons_zero, List.getD_cons_succ] at hq
        go_wp2_with (first
          | (at_mapUpdate; refine wpList_mapUpdate_own _ rfl _ _ _ 96 rfl 9 5 klaw Tryd.underlying96 _ mb _ _ rfl HST.out.1 (by unfold maxLen; have := hmx.out; omega) _ _ _ rfl rfl (HKEY.out (by decide)) _ [] (plainElem_int Tryd.underlying5 (by decide)) ?_)
          | go_in)
        intro w1 hown1 hgrow1
        have hfin := HSTEP.out w1 hown1 hgrow1 (by decide)
        clear hown1 hgrow1 HSTAY HSTEP HKEY hmx HST
        go_wp2
        go_roundw
        case rel => exact ⟨_, by decide, by first | rfl | go_num, hfin⟩
        case measure => simp [intOf]
      · have hq : ((mkS (shapeWords.getD 3 [])).toList == []) = false := by rw [mkS_toList]; rfl
        simp only [shapeWords, List.getD_cons_zero, List.getD_cons_succ] at hq
        go_wp2_with (first
          | (at_mapUpdate; refine wpList_mapUpdate_own _ rfl _ _ _ 96 rfl 9 5 klaw Tryd.underlying96 _ mb _ _ rfl HST.out.1 (by unfold maxLen; have := hmx.out; omega) _ _ _ rfl rfl (HKEY.out (by decide)) _ [] (plainElem_int Tryd.underlying5 (by decide)) ?_)
          | go_in)
        intro w1 hown1 hgrow1
        have hfin := HSTEP.out w1 hown1 hgrow1 (by decide)
        clear hown1 hgrow1 HSTAY HSTEP HKEY hmx HST
        go_wp2
        go_roundw
        case rel => exact ⟨_, by decide, by first | rfl | go_num, hfin⟩
        case measure => simp [intOf]
      · have hq : ((mkS (shapeWords.getD 4 [])).toList == []) = false := by rw [mkS_toList]; rfl
        simp only [shapeWords, List.getD_cons_zero, List.getD_cons_succ] at hq
        go_wp2_with (first
          | (at_mapUpdate; refine wpList_mapUpdate_own _ rfl _ _ _ 96 rfl 9 5 klaw Tryd.underlying96 _ mb _ _ rfl HST.out.1 (by unfold maxLen; have := hmx.out; omega) _ _ _ rfl rfl (HKEY.out (by decide)) _ [] (plainElem_int Tryd.underlying5 (by decide)) ?_)
          | go_in)
        intro w1 hown1 hgrow1
        have hfin := HSTEP.out w1 hown1 hgrow1 (by decide)
        clear hown1 hgrow1 HSTAY HSTEP HKEY hmx HST
        go_wp2
        go_roundw
        case rel => exact ⟨_, by decide, by first | rfl | go_num, hfin⟩
        case measure => simp [intOf]
      · have hE := HSTAY.out rfl
        clear HSTAY HSTEP HKEY hmx
        go_wp2
        go_roundw
        case rel => exact ⟨_, by decide, by first | rfl | go_num, hE⟩
        case measure => simp [intOf]
      · have hq : ((mkS (shapeWords.getD 6 [])).toList == []) = false := by rw [mkS_toList]; rfl
        simp only [shapeWords, List.getD_cons_zero, List.getD_cons_succ] at hq
        go_wp2_with (first
          | (at_mapUpdate; refine wpList_mapUpdate_own _ rfl _ _ _ 96 rfl 9 5 klaw Tryd.underlying96 _ mb _ _ rfl HST.out.1 (by unfold maxLen; have := hmx.out; omega) _ _ _ rfl rfl (HKEY.out (by decide)) _ [] (plainElem_int Tryd.underlying5 (by decide)) ?_)
          | go_in)
        intro w1 hown1 hgrow1
        have hfin := HSTEP.out w1 hown1 hgrow1 (by decide)
        clear hown1 hgrow1 HSTAY HSTEP HKEY hmx HST
        go_wp2
        go_roundw
        case rel => exact ⟨_, by decide, by first | rfl | go_num, hfin⟩
        case measure => simp [intOf]
      · have hq : ((mkS (shapeWords.getD 7 [])).toList == []) = false := by rw [mkS_toList]; rfl
        simp only [shapeWords, List.getD_cons_zero, List.getD_cons_succ] at hq
        go_wp2_with (first
          | (at_mapUpdate; refine wpList_mapUpdate_own _ rfl _ _ _ 96 rfl 9 5 klaw Tryd.underlying96 _ mb _ _ rfl HST.out.1 (by unfold maxLen; have := hmx.out; omega) _ _ _ rfl rfl (HKEY.out (by decide)) _ [] (plainElem_int Tryd.underlying5 (by decide)) ?_)
          | go_in)
        intro w1 hown1 hgrow1
        have hfin := HSTEP.out w1 hown1 hgrow1 (by decide)
        clear hown1 hgrow1 HSTAY HSTEP HKEY hmx HST
        go_wp2
        go_roundw
        case rel => exact ⟨_, by decide, by first | rfl | go_num, hfin⟩
        case measure => simp [intOf]
    · have hk8 : k = 8 := by omega
      subst hk8
      have HST := hst
      clear hst
      go_wp2
      go_ret
      exact ⟨mb, rfl, HMB.out, HST.out.1, HST.out.2⟩
end Go.Proofs.YtfhnigpjmljhbaaDoor.Or
