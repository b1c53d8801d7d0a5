/- The reference's Join. -/
import Derived.Test.YtlhbfgkcalalkaaGreatDoorYf
import Derived.Deep.RegionHeld3
import Derived.BigQuiet
set_option linter.unusedVariables false
set_option linter.unusedSimpArgs false
namespace Go.Proofs.YtlhbfgkcalalkaaGreatDoor
open Go.RowKit Go.Shelf

theorem joinUpto_mono (ls : List Lx) (j : Nat) : ∀ d, (joinUpto ls j).length ≤ (joinUpto ls (j + d)).length
  | 0 => Nat.le_refl _
  | d + 1 => by
    refine Nat.le_trans (joinUpto_mono ls j d) ?_
    show _ ≤ (joinUpto ls (j + d) ++ _).length
    rw [List.length_append]; omega
theorem joinUpto_le (ls : List Lx) {j k : Nat} (h : j ≤ k) : (joinUpto ls j).length ≤ (joinUpto ls k).length := by
  have := joinUpto_mono ls j (k - j)
  rwa [show j + (k - j) = k by omega] at this
theorem all_getD {ls : List Lx} {p : Lx → Bool} (h : ∀ j, j < ls.length → p (ls.getD j (0, [], 0)) = true) : ls.all p = true := by
  rw [List.all_eq_true]
  intro x hx
  obtain ⟨i, hi, rfl⟩ := List.mem_iff_getElem.1 hx
  have := h i hi
  rwa [show ls.getD i (0, [], 0) = ls[i] by simp [List.getD_eq_getElem?_getD, hi]] at this

set_option maxRecDepth 100000 in
set_option maxHeartbeats 2000000 in
theorem refJoin_long (v : Value) (ls : List Lx) (w : World) (hv : ReadsLx w v ls) (h : 900 < ls.length) :
    Calls Tryz.prog 15 #[v] w fun e w' => e = .returned (.tuple #[.string (mkS (joinF ls).1), .int .i64 (joinF ls).2]) ∧ Below w.heap.size w w' := by
  have HR : Hid (joinF ls = ([], 5)) := by show _ = _; unfold joinF; rw [if_pos h]
  obtain ⟨p, cap, rfl, hl, j2⟩ := hv
  obtain ⟨n, hn⟩ : ∃ n, n = ls.length := ⟨_, rfl⟩
  rw [← hn] at h ⊢
  clear j2 hl hn
  go_enter Tryz.func15, Tryz.ntmps15
  go_wp2
  go_ret2
  exact ⟨by rw [HR.out]; rfl, Below.refl _ _⟩

set_option maxRecDepth 100000 in
set_option maxHeartbeats 4000000 in
theorem refJoin_in (v : Value) (ls : List Lx) (w : World) (hv : ReadsLx w v ls) (hy : ∀ y ∈ ls, y.2.1.length ≤ 50000) (h : ¬ 900 < ls.length) :
    Calls Tryz.prog 15 #[v] w fun e w' => e = .returned (.tuple #[.string (mkS (joinF ls).1), .int .i64 (joinF ls).2]) ∧ Below w.heap.size w w' := by
  have HTX : Hid (∀ i, (txt ls i).length ≤ 50000) := fun i => by
    unfold txt
    by_cases hi : i < ls.length
    · rw [show ls.getD i (0, [], 0) = ls[i] by simp [List.getD_eq_getElem?_getD, hi]]
      exact hy _ (List.getElem_mem _)
    · rw [show ls.getD i (0, [], 0) = (0, [], 0) by simp [List.getD_eq_getElem?_getD, Nat.not_lt.1 hi]]
      simp
  have HA := Lib.hid (reads_at hv)
  obtain ⟨p, cap, rfl, hl, j2⟩ := hv
  obtain ⟨n, hn⟩ : ∃ n, n = ls.length := ⟨_, rfl⟩
  have HF4 : Hid (∀ j, j < n → rightF (ls.getD j (0, [], 0)) = false → joinF ls = ([], 4)) := fun j hj hr => by
    unfold joinF
    rw [if_neg h, if_neg]
    intro ha
    rw [List.all_eq_true] at ha
    have hj' : j < ls.length := by omega
    have := ha ls[j] (List.getElem_mem _)
    rw [show ls.getD j (0, [], 0) = ls[j] by simp [List.getD_eq_getElem?_getD, hj']] at hr
    rw [this] at hr; cases hr
  have HF5 : Hid ((∀ j, j < n → rightF (ls.getD j (0, [], 0)) = true) → ∀ k, k ≤ n → 2500 < (joinUpto ls k).length → joinF ls = ([], 5)) := fun ha k hk hlk => by
    unfold joinF
    rw [if_neg h, if_pos (all_getD fun j hj => ha j (by omega)), if_pos]
    have := joinUpto_le ls hk
    unfold joinT; rw [← hn]; omega
  have HF0 : Hid ((∀ j, j < n → rightF (ls.getD j (0, [], 0)) = true) → (joinUpto ls n).length ≤ 2500 → joinF ls = (joinUpto ls n, 0)) := fun ha hlk => by
    unfold joinF
    rw [if_neg h, if_pos (all_getD fun j hj => ha j (by omega)), if_neg]
    · unfold joinT; rw [← hn]
    · unfold joinT; rw [← hn]; omega
  have HN := Lib.hid hn
  have hn9 : n ≤ 900 := by omega
  rw [← hn] at hl ⊢
  have HA2 : Hid (∀ i, i < n → ∃ b off, p = some ⟨b, off, none⟩ ∧ ∀ W, Below w.heap.size w W → W.cell? ⟨b, off + i * 3, none⟩ = some (.int .u8 (ls.getD i (0, [], 0)).1) ∧ W.cell? ⟨b, off + i * 3 + 1, none⟩ = some (.string (mkS (ls.getD i (0, [], 0)).2.1)) ∧ W.cell? ⟨b, off + i * 3 + 2, none⟩ = some (.int .i64 (ls.getD i (0, [], 0)).2.2)) := fun i hi => by
    obtain ⟨b, off, cap', hsl, c1, c2, c3⟩ := HA.out i (by omega)
    simp only [Value.slice.injEq] at hsl
    obtain ⟨hp, _, _⟩ := hsl
    exact ⟨b, off, hp, fun W hW => ⟨(hW.cell (cell_lt c1)).trans c1, (hW.cell (cell_lt c2)).trans c2, (hW.cell (cell_lt c3)).trans c3⟩⟩
  clear hn hy h j2 HA
  go_enter Tryz.func15, Tryz.ntmps15
  go_wp2
  go_loopw [4] (fun i wr => ∃ k : Nat, k ≤ n ∧ i = .int .i64 k ∧ Hid (∀ j, j < k → rightF (ls.getD j (0, [], 0)) = true) ∧ Hid (Below w.heap.size w wr)) (fun i _ => n - (intOf i).toNat)
  case atStart => exact ⟨0, Nat.zero_le _, rfl, fun j hj => by omega, Below.refl _ _⟩
  case round =>
    obtain ⟨k, hk, rfl, hpre, hbel⟩ := hrel
    by_cases hlt : k < n
    · obtain ⟨b, off, rfl, hcells⟩ := HA2.out k hlt
      obtain ⟨x, hx⟩ : ∃ x, x = ls.getD k (0, [], 0) := ⟨_, rfl⟩
      have hlx : x.2.1.length ≤ 50000 := by have := HTX.out k; unfold txt at this; rw [hx]; exact this
      have HFk : Hid (rightF x = false → joinF ls = ([], 4)) := fun hr => HF4.out k hlt (by rw [← hx]; exact hr)
      have HGk : Hid (rightF x = true → ∀ j, j < k + 1 → rightF (ls.getD j (0, [], 0)) = true) := fun hr j hj => by
        by_cases e : j = k
        · rw [e, ← hx]; exact hr
        · exact hpre.out j (by omega)
      rw [← hx] at hcells
      obtain ⟨x1, x2, x3⟩ := x
      have HCE := Lib.hid hcells
      obtain ⟨c1, c2, c3⟩ := hcells wr hbel.out
      have CK : Hid (∀ W, Calls Tryz.prog 41 #[.string (mkS x2)] W fun e w' => e = .returned (.tuple #[.int .u8 ((kindR x2).getD 0), .int .i64 (if (kindR x2).isSome then 0 else 4)]) ∧ Below W.heap.size W w') := fun W => refKind_any x2 W (by simp only at hlx; omega)
      have hkI : (k : Int) < (n : Int) := by omega
      clear hx hlx hpre hcells HF4 HF5 HF0
      cases hkk : kindR x2 with
      | none =>
        rw [hkk] at CK
        have CK2 : Hid (∀ W, Calls Tryz.prog 41 #[.string (mkS x2)] W fun e w' => e = .returned (.tuple #[.int .u8 0, .int .i64 4]) ∧ Below W.heap.size W w') := CK
        have HR : Hid (joinF ls = ([], 4)) := HFk.out (by unfold rightF; rw [hkk]; rfl)
        clear CK hkk HFk HGk HCE
        go_wp2_with fail
        refine (CK2.out _).mono ?_
        rintro e w1 ⟨rfl, hb1⟩
        have HB := Lib.hid (hbel.out.trans (hb1.mono hbel.out.size))
        clear hb1
        go_wp2
        go_ret2
        exact ⟨by rw [HR.out]; rfl, HB.out⟩
      | some kk =>
        rw [hkk] at CK
        have CK2 : Hid (∀ W, Calls Tryz.prog 41 #[.string (mkS x2)] W fun e w' => e = .returned (.tuple #[.int .u8 kk, .int .i64 0]) ∧ Below W.heap.size W w') := CK
        by_cases hkx : kk = x1
        · have HR := Lib.hid (HGk.out (by unfold rightF; rw [hkk, hkx]; simp))
          subst hkx
          clear CK hkk HFk HGk
          go_wp2_with fail
          refine (CK2.out _).mono ?_
          rintro e w1 ⟨rfl, hb1⟩
          have HB := Lib.hid (hbel.out.trans (hb1.mono hbel.out.size))
          obtain ⟨d1, d2, d3⟩ := HCE.out w1 HB.out
          clear hb1 c1 c2 c3
          go_wp2
          go_roundw
          case rel => exact ⟨k + 1, by omega, by go_num, HR.out, HB.out⟩
          case measure => simp [intOf]; omega
        · have HR : Hid (joinF ls = ([], 4)) := HFk.out (by unfold rightF; rw [hkk]; simpa using hkx)
          have g1 : ((kk : Int) != (x1 : Int)) = true := by rw [bne_iff_ne]; omega
          clear CK hkk HFk HGk hkx
          go_wp2_with fail
          refine (CK2.out _).mono ?_
          rintro e w1 ⟨rfl, hb1⟩
          have HB := Lib.hid (hbel.out.trans (hb1.mono hbel.out.size))
          obtain ⟨d1, d2, d3⟩ := HCE.out w1 HB.out
          clear hb1 c1 c2 c3
          go_wp2
          go_ret2
          exact ⟨by rw [HR.out]; rfl, HB.out⟩
    · have hkn : k = n := by omega
      have HRA : Hid (∀ j, j < n → rightF (ls.getD j (0, [], 0)) = true) := by rw [← hkn]; exact hpre.out
      have HG5 := Lib.hid (HF5.out HRA.out)
      have HG0 := Lib.hid (HF0.out HRA.out)
      have HB0 := Lib.hid hbel.out
      clear hpre HF4 HF5 HF0 hbel hkn
      go_wp2
      go_loopw [7, 8] (fun o i wr => ∃ k : Nat, k ≤ n ∧ i = .int .i64 k ∧ o = .string (mkS (joinUpto ls k)) ∧ (mkS (joinUpto ls k)).size ≤ 2500 ∧ Hid (Below w.heap.size w wr)) (fun _ i _ => n - (intOf i).toNat)
      case atStart => exact ⟨0, Nat.zero_le _, rfl, rfl, by rw [mkS_size]; simp [joinUpto], HB0.out⟩
      case round =>
        obtain ⟨k, hk, rfl, rfl, hlen, hbel⟩ := hrel
        by_cases hlt : k < n
        · obtain ⟨b, off, rfl, hcells⟩ := HA2.out k hlt
          obtain ⟨y, hy⟩ : ∃ y, y = ls.getD k (0, [], 0) := ⟨_, rfl⟩
          have hly : y.2.1.length ≤ 50000 := by have := HTX.out k; unfold txt at this; rw [hy]; exact this
          have hty : txt ls k = y.2.1 := by unfold txt; rw [hy]
          rw [← hy] at hcells
          obtain ⟨y1, y2, y3⟩ := y
          simp only at hly hty
          have HCE := Lib.hid hcells
          have hsy : (mkS y2).size ≤ 50000 := by rw [mkS_size]; exact hly
          have hkI : (k : Int) < (n : Int) := by omega
          by_cases hk0 : k = 0
          · have HJ : Hid (mkS (joinUpto ls k) ++ mkS y2 = mkS (joinUpto ls (k + 1))) := by
              show _ = _
              rw [mkS_append]
              show _ = mkS (joinUpto ls k ++ ((if 0 < k && !partsF (txt ls (k - 1)) (txt ls k) then [32] else []) ++ txt ls k))
              rw [hty, hk0]; rfl
            have hpk : decide (0 < k) = false := decide_eq_false (by omega)
            have hpk2 : decide ((0 : Int) < (k : Int)) = false := decide_eq_false (by omega)
            clear hcells hty hly hy hk0
            have HSZ : Hid ((mkS (joinUpto ls (k + 1))).size = (mkS (joinUpto ls k)).size + (mkS y2).size) := by show _ = _; rw [← HJ.out]; simp [ByteArray.size_append]
            by_cases hbig : 2500 < (mkS (joinUpto ls k)).size + (mkS y2).size
            · have HR : Hid (joinF ls = ([], 5)) := HG5.out (k + 1) (by omega) (by rw [← mkS_size, HSZ.out]; exact hbig)
              have d1 : decide ((2500 : Int) < ((mkS (joinUpto ls k)).size : Int) + ((mkS y2).size : Int)) = true := decide_eq_true (by omega)
              clear HG5 HG0
              go_wp2
              go_quiet (fail)
              have HBx : Hid (Below w.heap.size w (wr.drewN nq)) := hbel.out.trans ((below_drewN _ _).mono hbel.out.size)
              obtain ⟨c1, c2, c3⟩ := HCE.out _ HBx.out
              go_wp2
              go_ret2
              exact ⟨by rw [HR.out]; rfl, HBx.out⟩
            · have d1 : decide ((2500 : Int) < ((mkS (joinUpto ls k)).size : Int) + ((mkS y2).size : Int)) = false := decide_eq_false (by omega)
              have d2 : decide (2500 < (mkS (joinUpto ls k)).size + (mkS y2).size) = false := decide_eq_false (by omega)
              clear HG5 HG0
              go_wp2
              go_quiet (fail)
              have HBx : Hid (Below w.heap.size w (wr.drewN nq)) := hbel.out.trans ((below_drewN _ _).mono hbel.out.size)
              obtain ⟨c1, c2, c3⟩ := HCE.out _ HBx.out
              go_wp2
              go_roundw
              case rel => exact ⟨k + 1, by omega, by go_num, by rw [← HJ.out], by rw [HSZ.out]; omega, HBx.out⟩
              case measure => simp [intOf]; omega
          · obtain ⟨j, hj⟩ : ∃ j, j = k - 1 := ⟨_, rfl⟩
            have hjn : j < n := by omega
            have hjk : k = j + 1 := by omega
            obtain ⟨b', off', hp', hcx⟩ := HA2.out j hjn
            simp only [Option.some.injEq, Addr.mk.injEq] at hp'
            obtain ⟨rfl, rfl, hu1⟩ := hp'
            obtain ⟨x, hx⟩ : ∃ x, x = ls.getD j (0, [], 0) := ⟨_, rfl⟩
            have hlx : x.2.1.length ≤ 50000 := by have := HTX.out j; unfold txt at this; rw [hx]; exact this
            have htx : txt ls j = x.2.1 := by unfold txt; rw [hx]
            have hrx : rightF x = true := by rw [hx]; exact HRA.out j hjn
            rw [← hx] at hcx
            obtain ⟨x1, x2, x3⟩ := x
            simp only at hlx htx
            have hkx : kindR x2 = some x1 := by simpa [rightF] using hrx
            have hpk : decide (0 < k) = true := decide_eq_true (by omega)
            have hpk2 : decide ((0 : Int) < (k : Int)) = true := decide_eq_true (by omega)
            have hwj : IntKind.i64.wrap ((k : Int) - 1) = (j : Int) := by rw [IntWalk.i64_in _ (by omega)]; omega
            have hjI : (j : Int) < (n : Int) := by omega
            have HJ : Hid (joinUpto ls (k + 1) = joinUpto ls k ++ ((if !partsF x2 y2 then [32] else []) ++ y2)) := by
              show joinUpto ls k ++ ((if 0 < k && !partsF (txt ls (k - 1)) (txt ls k) then [32] else []) ++ txt ls k) = _
              rw [← hj, hty, htx, hpk]; rfl
            obtain ⟨pv, hpv⟩ : ∃ pv, pv = partsF x2 y2 := ⟨_, rfl⟩
            have KS : Hid (∀ W, Below w.heap.size w W → (W.cell? ⟨b, off + k * 3, none⟩ = some (.int .u8 y1) ∧ W.cell? ⟨b, off + k * 3 + 1, none⟩ = some (.string (mkS y2)) ∧ W.cell? ⟨b, off + k * 3 + 2, none⟩ = some (.int .i64 y3) ∧ W.cell? ⟨b, off + j * 3, none⟩ = some (.int .u8 x1) ∧ W.cell? ⟨b, off + j * 3 + 1, none⟩ = some (.string (mkS x2)) ∧ W.cell? ⟨b, off + j * 3 + 2, none⟩ = some (.int .i64 x3) ∧ Below w.heap.size w W)) := fun W hW => by
              obtain ⟨c1, c2, c3⟩ := hcells W hW
              obtain ⟨d1, d2, d3⟩ := hcx W hW
              exact ⟨c1, c2, c3, d1, d2, d3, hW⟩
            have CP : Hid (∀ W, Below w.heap.size w W → Calls Tryz.prog 42 #[.agg #[.int .u8 x1, .string (mkS x2), .int .i64 x3], .agg #[.int .u8 y1, .string (mkS y2), .int .i64 y3]] W fun e w' => e = .returned (.bool (!pv)) ∧ Below w.heap.size w w') := fun W hW => by
              rw [hpv]
              exact (refApart_any (x1, x2, x3) (y1, y2, y3) W hkx (by simp only; omega)).mono fun e w' ⟨he, hb'⟩ => ⟨he, hW.trans (hb'.mono hW.size)⟩
            rw [← hpv] at HJ
            have HBW := hbel.out
            clear hu1 hcells hcx hty hly hy htx hlx hx hrx hkx hk0 hj hjk hpv
            cases pv with
            | true =>
              have CP2 : Hid (∀ W, Below w.heap.size w W → Calls Tryz.prog 42 #[.agg #[.int .u8 x1, .string (mkS x2), .int .i64 x3], .agg #[.int .u8 y1, .string (mkS y2), .int .i64 y3]] W fun e w' => e = .returned (.bool false) ∧ Below w.heap.size w w') := CP.out
              have HJ2 : Hid (mkS (joinUpto ls k) ++ mkS y2 = mkS (joinUpto ls (k + 1))) := by show _ = _; rw [HJ.out, mkS_append]; rfl
              clear HJ CP
              have HSZ : Hid ((mkS (joinUpto ls (k + 1))).size = (mkS (joinUpto ls k)).size + (mkS y2).size) := by show _ = _; rw [← HJ2.out]; simp [ByteArray.size_append]
              by_cases hbig : 2500 < (mkS (joinUpto ls k)).size + (mkS y2).size
              · have HR : Hid (joinF ls = ([], 5)) := HG5.out (k + 1) (by omega) (by rw [← mkS_size, HSZ.out]; exact hbig)
                have d1 : decide ((2500 : Int) < ((mkS (joinUpto ls k)).size : Int) + ((mkS y2).size : Int)) = true := decide_eq_true (by omega)
                clear HG5 HG0
                go_wp2
                go_region_held3 (fun W => W.cell? ⟨b, off + k * 3, none⟩ = some (.int .u8 y1) ∧ W.cell? ⟨b, off + k * 3 + 1, none⟩ = some (.string (mkS y2)) ∧ W.cell? ⟨b, off + k * 3 + 2, none⟩ = some (.int .i64 y3) ∧ W.cell? ⟨b, off + j * 3, none⟩ = some (.int .u8 x1) ∧ W.cell? ⟨b, off + j * 3 + 1, none⟩ = some (.string (mkS x2)) ∧ W.cell? ⟨b, off + j * 3 + 2, none⟩ = some (.int .i64 x3) ∧ Below w.heap.size w W)
                  (first | exact KS.out _ (by first | assumption | exact Below.drew (by assumption)))
                  (first | (go_at_call 42; refine (CP2.out _ (by first | assumption | exact Below.drew (by assumption))).mono ?_; rintro e wa ⟨rfl, hba⟩))
                obtain ⟨c1, c2, c3, _, _, _, _⟩ := KS.out _ hba
                have HBx := Lib.hid hba
                clear hba
                go_wp2
                go_ret2
                exact ⟨by rw [HR.out]; rfl, HBx.out⟩
              · have d1 : decide ((2500 : Int) < ((mkS (joinUpto ls k)).size : Int) + ((mkS y2).size : Int)) = false := decide_eq_false (by omega)
                have d2 : decide (2500 < (mkS (joinUpto ls k)).size + (mkS y2).size) = false := decide_eq_false (by omega)
                clear HG5 HG0
                go_wp2
                go_region_held3 (fun W => W.cell? ⟨b, off + k * 3, none⟩ = some (.int .u8 y1) ∧ W.cell? ⟨b, off + k * 3 + 1, none⟩ = some (.string (mkS y2)) ∧ W.cell? ⟨b, off + k * 3 + 2, none⟩ = some (.int .i64 y3) ∧ W.cell? ⟨b, off + j * 3, none⟩ = some (.int .u8 x1) ∧ W.cell? ⟨b, off + j * 3 + 1, none⟩ = some (.string (mkS x2)) ∧ W.cell? ⟨b, off + j * 3 + 2, none⟩ = some (.int .i64 x3) ∧ Below w.heap.size w W)
                  (first | exact KS.out _ (by first | assumption | exact Below.drew (by assumption)))
                  (first | (go_at_call 42; refine (CP2.out _ (by first | assumption | exact Below.drew (by assumption))).mono ?_; rintro e wa ⟨rfl, hba⟩))
                obtain ⟨c1, c2, c3, _, _, _, _⟩ := KS.out _ hba
                have HBx := Lib.hid hba
                clear hba
                go_wp2
                go_roundw
                case rel => exact ⟨k + 1, by omega, by go_num, by rw [← HJ2.out], by rw [HSZ.out]; omega, HBx.out⟩
                case measure => simp [intOf]; omega
            | false =>
              have CP2 : Hid (∀ W, Below w.heap.size w W → Calls Tryz.prog 42 #[.agg #[.int .u8 x1, .string (mkS x2), .int .i64 x3], .agg #[.int .u8 y1, .string (mkS y2), .int .i64 y3]] W fun e w' => e = .returned (.bool true) ∧ Below w.heap.size w w') := CP.out
              have HJ2 : Hid (mkS (joinUpto ls k) ++ mkS [32] ++ mkS y2 = mkS (joinUpto ls (k + 1))) := by show _ = _; rw [HJ.out, mkS_append, mkS_append]; simp
              clear HJ CP
              have HSZ : Hid ((mkS (joinUpto ls (k + 1))).size = (mkS (joinUpto ls k)).size + 1 + (mkS y2).size) := by show _ = _; rw [← HJ2.out]; simp [ByteArray.size_append] <;> rfl
              by_cases hbig : 2500 < (mkS (joinUpto ls k)).size + 1 + (mkS y2).size
              · have HR : Hid (joinF ls = ([], 5)) := HG5.out (k + 1) (by omega) (by rw [← mkS_size, HSZ.out]; exact hbig)
                have d1 : decide ((2500 : Int) < ((mkS (joinUpto ls k)).size : Int) + 1 + ((mkS y2).size : Int)) = true := decide_eq_true (by omega)
                clear HG5 HG0
                go_wp2
                go_region_held3 (fun W => W.cell? ⟨b, off + k * 3, none⟩ = some (.int .u8 y1) ∧ W.cell? ⟨b, off + k * 3 + 1, none⟩ = some (.string (mkS y2)) ∧ W.cell? ⟨b, off + k * 3 + 2, none⟩ = some (.int .i64 y3) ∧ W.cell? ⟨b, off + j * 3, none⟩ = some (.int .u8 x1) ∧ W.cell? ⟨b, off + j * 3 + 1, none⟩ = some (.string (mkS x2)) ∧ W.cell? ⟨b, off + j * 3 + 2, none⟩ = some (.int .i64 x3) ∧ Below w.heap.size w W)
                  (first | exact KS.out _ (by first | assumption | exact Below.drew (by assumption)))
                  (first | (go_at_call 42; refine (CP2.out _ (by first | assumption | exact Below.drew (by assumption))).mono ?_; rintro e wa ⟨rfl, hba⟩))
                obtain ⟨c1, c2, c3, _, _, _, _⟩ := KS.out _ hba
                have HBx := Lib.hid hba
                clear hba
                go_wp2
                go_ret2
                exact ⟨by rw [HR.out]; rfl, HBx.out⟩
              · have d1 : decide ((2500 : Int) < ((mkS (joinUpto ls k)).size : Int) + 1 + ((mkS y2).size : Int)) = false := decide_eq_false (by omega)
                have d2 : decide (2500 < (mkS (joinUpto ls k)).size + 1 + (mkS y2).size) = false := decide_eq_false (by omega)
                clear HG5 HG0
                go_wp2
                go_region_held3 (fun W => W.cell? ⟨b, off + k * 3, none⟩ = some (.int .u8 y1) ∧ W.cell? ⟨b, off + k * 3 + 1, none⟩ = some (.string (mkS y2)) ∧ W.cell? ⟨b, off + k * 3 + 2, none⟩ = some (.int .i64 y3) ∧ W.cell? ⟨b, off + j * 3, none⟩ = some (.int .u8 x1) ∧ W.cell? ⟨b, off + j * 3 + 1, none⟩ = some (.string (mkS x2)) ∧ W.cell? ⟨b, off + j * 3 + 2, none⟩ = some (.int .i64 x3) ∧ Below w.heap.size w W)
                  (first | exact KS.out _ (by first | assumption | exact Below.drew (by assumption)))
                  (first | (go_at_call 42; refine (CP2.out _ (by first | assumption | exact Below.drew (by assumption))).mono ?_; rintro e wa ⟨rfl, hba⟩))
                obtain ⟨c1, c2, c3, _, _, _, _⟩ := KS.out _ hba
                have HBx := Lib.hid hba
                clear hba
                go_wp2
                go_roundw
                case rel => exact ⟨k + 1, by omega, by go_num, by rw [← HJ2.out]; rfl, by rw [HSZ.out]; omega, HBx.out⟩
                case measure => simp [intOf]; omega
        · have hkn : k = n := by omega
          have HR : Hid (joinF ls = (joinUpto ls n, 0)) := HG0.out (by rw [← hkn, ← mkS_size]; exact hlen)
          have HKN := Lib.hid hkn
          clear HG5 HG0 hkn
          go_wp2
          go_ret2
          exact ⟨by rw [HR.out, ← HKN.out]; rfl, hbel.out⟩

theorem refJoin_any (v : Value) (ls : List Lx) (w : World) (hv : ReadsLx w v ls) (hy : ∀ y ∈ ls, y.2.1.length ≤ 50000) :
    Calls Tryz.prog 15 #[v] w fun e w' => e = .returned (.tuple #[.string (mkS (joinF ls).1), .int .i64 (joinF ls).2]) ∧ Below w.heap.size w w' := by
  by_cases h : 900 < ls.length
  · exact refJoin_long v ls w hv h
  · exact refJoin_in v ls w hv hy h
end Go.Proofs.YtlhbfgkcalalkaaGreatDoor
