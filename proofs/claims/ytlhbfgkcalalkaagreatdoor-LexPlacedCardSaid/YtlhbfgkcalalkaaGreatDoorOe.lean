/- At. -/
import Derived.Test.YtlhbfgkcalalkaaGreatDoorOd
set_option linter.unusedVariables false
set_option linter.unusedSimpArgs false
namespace Go.Proofs.YtlhbfgkcalalkaaGreatDoor
open Go.RowKit Go.Shelf

theorem offL_take (ls : List (List UInt8)) (j : Nat) (hj : j < ls.length) : offL (ls.take (j + 1)) = offL (ls.take j) + (ls.getD j []).length + 1 := by
  rw [List.take_succ_eq_append_getElem hj, offL_snoc, List.getD_eq_getElem?_getD, List.getElem?_eq_getElem hj]; rfl
theorem offL_take_le (ls : List (List UInt8)) : ∀ j, offL (ls.take j) ≤ offL ls := by
  induction ls with
  | nil => intro j; simp [offL]
  | cons x xs ih =>
    intro j
    cases j with
    | zero => simp [offL]
    | succ j => rw [List.take_succ_cons, offL_cons, offL_cons]; have := ih j; omega

set_option maxRecDepth 100000 in
set_option maxHeartbeats 2000000 in
theorem at_bad (s : List UInt8) (L C : Int) (w : World) (hs : s.length ≤ 140737488355328) (h : chkE s ≠ 0) :
    Calls Tryz.prog 17 #[.string (mkS s), .agg #[.int .i64 L, .int .i64 C]] w fun e w' => e = .returned (.tuple #[.int .i64 (atF s L C).1, .int .i64 (atF s L C).2]) ∧ Below w.heap.size w w' := by
  obtain ⟨E, hE⟩ : ∃ E : Int, E = chkE s := ⟨_, rfl⟩
  have HF : Hid (atF s L C = (0, chkE s)) := by show _ = _; unfold atF; rw [if_pos h]
  have CA : Hid (∀ W, Calls Tryz.prog 25 #[.string (mkS s)] W fun e w' => e = .returned (.tuple #[.int .i64 (chkAt s), .int .i64 E]) ∧ W = w') := fun W => by
    have := textError_any (mkS s) W (by rw [mkS_size]; unfold maxLen; omega)
    rw [mkS_list, ← hE] at this; exact this
  have hb : (E != 0) = true := by rw [bne_iff_ne, hE]; omega
  have HE := Lib.hid hE
  clear h hE
  go_enter Tryz.func17, Tryz.ntmps17
  go_wp2_with fail
  refine (CA.out _).mono ?_
  rintro e w' ⟨rfl, rfl⟩
  go_wp2
  go_ret2
  exact ⟨by rw [HF.out, HE.out]; rfl, (Below.refl _ _).alloc (Nat.le_refl _) _⟩

set_option maxRecDepth 100000 in
set_option maxHeartbeats 4000000 in
theorem at_ok (s : List UInt8) (L C : Int) (w : World) (hLb : -9223372036854775808 ≤ L ∧ L ≤ 9223372036854775807) (hCb : -9223372036854775808 ≤ C ∧ C ≤ 9223372036854775807) (h : chkE s = 0) :
    Calls Tryz.prog 17 #[.string (mkS s), .agg #[.int .i64 L, .int .i64 C]] w fun e w' => e = .returned (.tuple #[.int .i64 (atF s L C).1, .int .i64 (atF s L C).2]) ∧ Below w.heap.size w w' := by
  have hl := chkE_len h
  have CA : Hid (∀ W, Calls Tryz.prog 25 #[.string (mkS s)] W fun e w' => e = .returned (.tuple #[.int .i64 (chkAt s), .int .i64 0]) ∧ W = w') := fun W => by
    have := textError_any (mkS s) W (by rw [mkS_size]; unfold maxLen; omega)
    rw [mkS_list, h] at this; exact this
  obtain ⟨ls, hls⟩ : ∃ ls, ls = splitNl s := ⟨_, rfl⟩
  obtain ⟨n, hn⟩ : ∃ n, n = ls.length := ⟨_, rfl⟩
  have CS : Hid (∀ W, Calls Tryz.prog 45 #[.string (mkS s), .string ⟨#[10]⟩] W fun e w' => e = .returned (.slice (some ⟨W.heap.size, 0, none⟩) n n) ∧ w' = W.alloc (.cells (lineCells ls) 9)) := fun W => by
    have := split_any s W (by omega)
    rw [← hls, ← hn] at this; exact this
  have hoff : offL ls = s.length + 1 := by rw [hls]; exact splitNl_off s
  have hnl : n ≤ 2501 := by
    have : ∀ xs : List (List UInt8), xs.length ≤ offL xs := by
      intro xs
      induction xs with
      | nil => simp [offL]
      | cons x xs ih => rw [offL_cons, List.length_cons]; omega
    have := this ls; omega
  have HA : Hid (atF s L C = if 1 ≤ L ∧ L ≤ n ∧ 1 ≤ C ∧ C ≤ ((ls.getD (L.toNat - 1) []).length : Int) + 1 then (offL (ls.take (L.toNat - 1)) + (C.toNat - 1), 0) else (0, 3)) := by
    show _ = _; unfold atF; rw [if_neg (by omega), hn, hls]
  have HLN : Hid (∀ k, k < n → (ls.getD k []).length ≤ 2500) := fun k hk => by
    have := (line_place s k (ls.getD k []).length (1, 1) (by rw [← hls, ← hn]; exact hk) (by rw [← hls]; exact Nat.le_refl _)).1
    omega
  have HOF : Hid (∀ k, offL (ls.take k) ≤ 2501) := fun k => by have := offL_take_le ls k; omega
  have HST : Hid (∀ j, j < n → offL (ls.take (j + 1)) = offL (ls.take j) + (ls.getD j []).length + 1) := fun j hj => offL_take ls j (by omega)
  have HCL : Hid (∀ (W : World) k, k < n → (W.alloc (.cells (lineCells ls) 9)).cell? ⟨W.heap.size, k, none⟩ = some (.string (mkS (ls.getD k [])))) := fun W k hk => by
    rw [World.cell?_alloc_at _ _ _ _ rfl]
    have hkl : k < ls.length := by omega
    simp [lineCells, List.getD_eq_getElem?_getD, hkl]
  obtain ⟨W1, hW1⟩ : ∃ W1, W1 = w.alloc (.cells #[.int .i64 L, .int .i64 C] 33) := ⟨_, rfl⟩
  obtain ⟨W2, hW2⟩ : ∃ W2, W2 = W1.alloc (.cells (lineCells ls) 9) := ⟨_, rfl⟩
  have hz1 : W1.heap.size = w.heap.size + 1 := by rw [hW1]; simp
  have k0 : W2.cell? ⟨w.heap.size, 0, none⟩ = some (.int .i64 L) := by rw [hW2, World.cell?_alloc_old _ _ _ (by rw [hz1]; simp only; omega), hW1]; simp [go_sem]
  have k1 : W2.cell? ⟨w.heap.size, 1, none⟩ = some (.int .i64 C) := by rw [hW2, World.cell?_alloc_old _ _ _ (by rw [hz1]; simp only; omega), hW1]; simp [go_sem]
  have HCK : Hid (∀ k, k < n → W2.cell? ⟨w.heap.size + 1, k, none⟩ = some (.string (mkS (ls.getD k [])))) := fun k hk => by
    have := HCL.out W1 k hk
    rw [hW2, ← hz1]; exact this
  have hz2 : w.heap.size + 1 < W2.heap.size := by rw [hW2]; simp; omega
  have HB2 : Hid (Below w.heap.size w W2) := by
    show Below _ _ _
    rw [hW2, hW1]; exact ((Below.refl _ _).alloc (Nat.le_refl _) _).alloc (by simp) _
  have HW2 : Hid ((w.alloc (.cells #[.int .i64 L, .int .i64 C] 33)).alloc (.cells (lineCells ls) 9) = W2) := by show _ = _; rw [hW2, hW1]
  have CS2 : Hid (Calls Tryz.prog 45 #[.string (mkS s), .string ⟨#[10]⟩] (w.alloc (.cells #[.int .i64 L, .int .i64 C] 33)) fun e w' => e = .returned (.slice (some ⟨w.heap.size + 1, 0, none⟩) n n) ∧ w' = W2) := by
    show Calls _ _ _ _ _
    have := CS.out (w.alloc (.cells #[.int .i64 L, .int .i64 C] 33))
    rw [HW2.out] at this
    simpa using this
  clear h hl hls hn hoff hz1 hW1 hW2 HCL CS
  by_cases hA : L < 1
  · have HR : Hid (atF s L C = (0, 3)) := by show _ = _; rw [HA.out, if_neg (by omega)]
    have g1 : decide (L < 1) = true := decide_eq_true hA
    clear hA HA HLN HOF HST HCK
    go_enter Tryz.func17, Tryz.ntmps17
    go_wp2_with fail
    refine (CA.out _).mono ?_
    rintro e w' ⟨rfl, rfl⟩
    go_wp2_with fail
    refine CS2.out.mono ?_
    rintro e w' ⟨rfl, rfl⟩
    go_wp2
    go_ret2
    exact ⟨by rw [HR.out]; rfl, HB2.out⟩
  · have g1 : decide (L < 1) = false := decide_eq_false hA
    by_cases hB : (n : Int) < L
    · have HR : Hid (atF s L C = (0, 3)) := by show _ = _; rw [HA.out, if_neg (by omega)]
      have g2 : decide ((n : Int) < L) = true := decide_eq_true hB
      clear hA hB HA HLN HOF HST HCK
      go_enter Tryz.func17, Tryz.ntmps17
      go_wp2_with fail
      refine (CA.out _).mono ?_
      rintro e w' ⟨rfl, rfl⟩
      go_wp2_with fail
      refine CS2.out.mono ?_
      rintro e w' ⟨rfl, rfl⟩
      go_wp2
      go_ret2
      exact ⟨by rw [HR.out]; rfl, HB2.out⟩
    · have g2 : decide ((n : Int) < L) = false := decide_eq_false hB
      obtain ⟨k, hk⟩ : ∃ k : Nat, L = (k : Int) + 1 := ⟨L.toNat - 1, by omega⟩
      have hkn : k < n := by omega
      have hkI : (k : Int) < (n : Int) := by omega
      have hwL : IntKind.i64.wrap (L - 1) = (k : Int) := by rw [IntWalk.i64_in _ (by omega)]; omega
      have hkt : L.toNat - 1 = k := by omega
      obtain ⟨y, hy⟩ : ∃ y, y = ls.getD k [] := ⟨_, rfl⟩
      have c1 := HCK.out k hkn
      have hyl := HLN.out k hkn
      rw [← hy] at c1 hyl
      have HA2 : Hid (atF s L C = if 1 ≤ C ∧ C ≤ (y.length : Int) + 1 then (offL (ls.take k) + (C.toNat - 1), 0) else (0, 3)) := by
        show _ = _
        rw [HA.out, hkt, ← hy]
        by_cases hc : 1 ≤ C ∧ C ≤ (y.length : Int) + 1
        · rw [if_pos hc, if_pos ⟨by omega, by omega, hc.1, hc.2⟩]
        · rw [if_neg hc, if_neg (fun h => hc ⟨h.2.2.1, h.2.2.2⟩)]
      have hsy : (mkS y).size = y.length := mkS_size y
      have hsy2 : (mkS y).size ≤ 2500 := by omega
      have hwy : IntKind.i64.wrap (((mkS y).size : Int) + 1) = ((mkS y).size : Int) + 1 := IntWalk.i64_in _ (by omega)
      by_cases hC1 : C < 1
      · have HR : Hid (atF s L C = (0, 3)) := by show _ = _; rw [HA2.out, if_neg (by omega)]
        have g3 : decide (C < 1) = true := decide_eq_true hC1
        clear hA hB HA HA2 HLN HOF HST HCK hk hkt hy hsy hC1
        go_enter Tryz.func17, Tryz.ntmps17
        go_wp2_with fail
        refine (CA.out _).mono ?_
        rintro e w' ⟨rfl, rfl⟩
        go_wp2_with fail
        refine CS2.out.mono ?_
        rintro e w' ⟨rfl, rfl⟩
        go_wp2
        go_quiet (fail)
        go_wp2
        go_ret2
        exact ⟨by rw [HR.out]; rfl, HB2.out.trans ((below_drewN _ _).mono HB2.out.size)⟩
      · have g3 : decide (C < 1) = false := decide_eq_false hC1
        by_cases hC2 : ((mkS y).size : Int) + 1 < C
        · have HR : Hid (atF s L C = (0, 3)) := by show _ = _; rw [HA2.out, if_neg (by omega)]
          have g4 : decide (((mkS y).size : Int) + 1 < C) = true := decide_eq_true hC2
          clear hA hB HA HA2 HLN HOF HST HCK hk hkt hy hsy hC1 hC2
          go_enter Tryz.func17, Tryz.ntmps17
          go_wp2_with fail
          refine (CA.out _).mono ?_
          rintro e w' ⟨rfl, rfl⟩
          go_wp2_with fail
          refine CS2.out.mono ?_
          rintro e w' ⟨rfl, rfl⟩
          go_wp2
          go_quiet (fail)
          go_wp2
          go_ret2
          exact ⟨by rw [HR.out]; rfl, HB2.out.trans ((below_drewN _ _).mono HB2.out.size)⟩
        · have g4 : decide (((mkS y).size : Int) + 1 < C) = false := decide_eq_false hC2
          obtain ⟨c, hc⟩ : ∃ c : Nat, C = (c : Int) + 1 := ⟨C.toNat - 1, by omega⟩
          have hwC : IntKind.i64.wrap (C - 1) = (c : Int) := by rw [IntWalk.i64_in _ (by omega)]; omega
          have hcb : c ≤ 2500 := by omega
          have HR : Hid (atF s L C = (offL (ls.take k) + c, 0)) := by show _ = _; rw [HA2.out, if_pos (by omega), show C.toNat - 1 = c by omega]
          have hkn2 : k ≤ n := by omega
          clear hA hB HA HA2 HLN hk hkt hy hsy hC1 hC2 hc hyl
          go_enter Tryz.func17, Tryz.ntmps17
          go_wp2_with fail
          refine (CA.out _).mono ?_
          rintro e w' ⟨rfl, rfl⟩
          go_wp2_with fail
          refine CS2.out.mono ?_
          rintro e w' ⟨rfl, rfl⟩
          go_wp2
          go_quiet (fail)
          go_wp2
          go_loop [57, 9] (fun i a => ∃ j A : Nat, j ≤ k ∧ i = .int .i64 j ∧ a = .int .i64 A ∧ Hid (A = c + offL (ls.take j))) (fun i _ => k - (intOf i).toNat)
          case atStart => exact ⟨0, c, Nat.zero_le _, rfl, rfl, by show _ = _; simp [offL]⟩
          case round =>
            obtain ⟨j, A, hj, rfl, rfl, hA⟩ := hrel
            by_cases hlt : j < k
            · obtain ⟨z, hz⟩ : ∃ z, z = ls.getD j [] := ⟨_, rfl⟩
              have hst := HST.out j (by omega)
              have ho1 := HOF.out (j + 1)
              rw [← hz] at hst
              have hzs : (mkS z).size = z.length := mkS_size z
              have d1 : (w'.drewN nq).cell? ⟨w.heap.size + 1, j, none⟩ = some (.string (mkS z)) := by rw [hz]; exact HCK.out j (by omega)
              have hAb : A ≤ 6000 := by have := hA.out; have := HOF.out j; omega
              have hzb : (mkS z).size ≤ 2501 := by omega
              have hjI : (j : Int) < (k : Int) := by omega
              have hjn : j < n := by omega
              have hw1 : IntKind.i64.wrap (((mkS z).size : Int) + 1) = ((mkS z).size : Int) + 1 := IntWalk.i64_in _ (by omega)
              have hw2 : IntKind.i64.wrap ((A : Int) + (((mkS z).size : Int) + 1)) = (A : Int) + (((mkS z).size : Int) + 1) := IntWalk.i64_in _ (by omega)
              have hw3 : IntKind.i64.wrap ((j : Int) + 1) = (j : Int) + 1 := IntWalk.i64_in _ (by omega)
              have HNX : Hid (A + ((mkS z).size + 1) = c + offL (ls.take (j + 1))) := by show _ = _; rw [hst, hA.out]; omega
              clear hst ho1 hz hzs hA HCK
              go_wp2
              go_round
              case rel => exact ⟨j + 1, A + ((mkS z).size + 1), by omega, by go_num, by go_num, HNX⟩
              case measure => simp [intOf]; omega
            · have hjk : j = k := by omega
              have HR2 : Hid (atF s L C = (A, 0)) := by show _ = _; rw [HR.out, hA.out, hjk, Nat.add_comm]
              clear hA hjk
              go_wp2
              go_ret2
              exact ⟨by rw [HR2.out]; rfl, HB2.out.trans ((below_drewN _ _).mono HB2.out.size)⟩
theorem at_any (s : List UInt8) (L C : Int) (w : World) (hLb : -9223372036854775808 ≤ L ∧ L ≤ 9223372036854775807) (hCb : -9223372036854775808 ≤ C ∧ C ≤ 9223372036854775807) (hs : s.length ≤ 140737488355328) :
    Calls Tryz.prog 17 #[.string (mkS s), .agg #[.int .i64 L, .int .i64 C]] w fun e w' => e = .returned (.tuple #[.int .i64 (atF s L C).1, .int .i64 (atF s L C).2]) ∧ Below w.heap.size w w' := by
  by_cases h : chkE s = 0
  · exact at_ok s L C w hLb hCb h
  · exact at_bad s L C w hs h
end Go.Proofs.YtlhbfgkcalalkaaGreatDoor
