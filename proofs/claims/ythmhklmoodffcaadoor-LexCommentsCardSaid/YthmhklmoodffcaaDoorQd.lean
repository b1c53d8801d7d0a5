/- The reference's Diff. -/
import Derived.Test.YthmhklmoodffcaaDoorDc
set_option linter.unusedVariables false
set_option linter.unusedSimpArgs false
namespace Go.Proofs.YthmhklmoodffcaaDoor
open Go.RowKit Go.Shelf

theorem below_drewAt (base : Nat) (w : World) (n : Nat) : Below base w (w.drewN n) := ⟨rfl, rfl, rfl, Nat.le_refl _, fun _ _ => rfl⟩

set_option maxRecDepth 100000 in
set_option maxHeartbeats 4000000 in
theorem refDiff_ok (a b : List UInt8) (w : World) (hm : a.length ≤ 100000) (hm2 : b.length ≤ 100000) (h1 : chkE a = 0) (h2 : chkE b = 0) :
    Calls Tryd.prog 29 #[.string (mkS a), .string (mkS b)] w fun e w' => e = .returned (.tuple #[edV (diffF a b).1, .int .i64 0]) ∧ Below w.heap.size w w' := by
  have CA : Hid (∀ W, Calls Tryd.prog 48 #[.string (mkS a)] W fun e w' => e = .returned (.tuple #[.int .i64 (chkAt a), .int .i64 0]) ∧ W = w') := fun W => by
    have := check_any (mkS a) W (by rw [mkS_size]; unfold maxLen; omega)
    rw [mkS_list, h1] at this; exact this
  have CB : Hid (∀ W, Calls Tryd.prog 48 #[.string (mkS b)] W fun e w' => e = .returned (.tuple #[.int .i64 (chkAt b), .int .i64 0]) ∧ W = w') := fun W => by
    have := check_any (mkS b) W (by rw [mkS_size]; unfold maxLen; omega)
    rw [mkS_list, h2] at this; exact this
  have hsa : (mkS a).size = a.length := mkS_size a
  have hsb : (mkS b).size = b.length := mkS_size b
  have hA48 : (mkS a).size ≤ 100000 := by omega
  have hB48 : (mkS b).size ≤ 100000 := by omega
  obtain ⟨n, hn⟩ : ∃ n, n = min a.length b.length := ⟨_, rfl⟩
  have hna : n ≤ (mkS a).size := by omega
  have hnb : n ≤ (mkS b).size := by omega
  have hnn : n = (mkS a).size ∨ n = (mkS b).size := by omega
  obtain ⟨F, hF⟩ : ∃ F, F = diffFrom a b := ⟨_, rfl⟩
  obtain ⟨R, hR⟩ : ∃ R, R = diffRest a b := ⟨_, rfl⟩
  have hF1 : F ≤ n := by rw [hF, hn]; have := runF_le (eqAt a b) (min a.length b.length) 0; unfold diffFrom; omega
  have hR1 : R ≤ n - F := by rw [hR, hF, hn]; have := runF_le (eqBack a b) (min a.length b.length - diffFrom a b) 0; unfold diffRest; omega
  have HF0 : Hid (runF (eqAt a b) n 0 = F) := by show _ = _; rw [hF, hn]; rfl
  have HR0 : Hid (runF (eqBack a b) (n - F) 0 = R) := by show _ = _; rw [hR, hF, hn]; rfl
  have hx : (mkS b).extract F ((mkS b).size - R) = mkS ((b.take (b.length - R)).drop F) := by
    rw [← mkS_self ((mkS b).extract F ((mkS b).size - R)), Lib.extract_data, mkS_list, List.drop_take, hsb]
  have HU : Hid (edV (diffF a b).1 = .agg #[.int .i64 F, .int .i64 (((mkS a).size : Int) - (R : Int)), .string ((mkS b).extract F ((mkS b).size - R))]) := by
    show _ = _
    rw [hx]; unfold diffF; rw [if_neg (by omega), if_neg (by omega), ← hF, ← hR]
    have e1 : ((a.length - R : Nat) : Int) = ((mkS a).size : Int) - (R : Int) := by omega
    simp only [edV, e1]
  rw [HU.out]
  clear HU hx hF hR hn hsa hsb h1 h2 hm hm2
  go_enter Tryd.func29, Tryd.ntmps29
  go_wp2_with fail
  refine (CA.out _).mono ?_
  rintro e w' ⟨rfl, rfl⟩
  go_wp2_with fail
  refine (CB.out _).mono ?_
  rintro e w' ⟨rfl, rfl⟩
  clear CA CB
  go_wp2
  go_loopw [10] (fun i wr => ∃ k : Nat, k ≤ n ∧ i = .int .i64 k ∧ Hid (runF (eqAt a b) (n - k) k = F) ∧ Hid (Below (w.heap.size + 1) (w.alloc (.cells #[.int .i64 0, .int .i64 0, .string ⟨#[]⟩] 34)) wr)) (fun i _ => n - (intOf i).toNat)
  case atStart => exact ⟨0, Nat.zero_le _, rfl, HF0, Below.refl _ _⟩
  case round =>
    obtain ⟨k, hk, rfl, hr, hb⟩ := hrel
    by_cases hlt : k < n
    · have hka : k < (mkS a).size := by omega
      have hkb : k < (mkS b).size := by omega
      have hstep := hr.out
      rw [show n - k = (n - k - 1) + 1 by omega, runF] at hstep
      by_cases hpk : eqAt a b k = true
      · rw [if_pos hpk] at hstep
        have HS : Hid (runF (eqAt a b) (n - (k + 1)) (k + 1) = F) := by show _ = _; rw [← hstep]; congr 1
        have hq : ((((mkS a)[k].toNat : Nat) : Int) == (((mkS b)[k].toNat : Nat) : Int)) = true := by rw [byte_beq, mkS_getD, mkS_getD]; exact hpk
        have B := hb.out
        have b1 : decide ((k : Int) < ((mkS a).size : Int)) = true := decide_eq_true (by omega)
        have b2 : decide ((k : Int) < ((mkS b).size : Int)) = true := decide_eq_true (by omega)
        clear hstep hpk hr HF0 HR0
        go_wp2
        go_quiet (fail)
        go_wp2
        go_roundw
        case rel => exact ⟨k + 1, by omega, by go_num, HS, B.trans (below_drewAt _ _ _)⟩
        case measure => simp [intOf]; omega
      · have hpf : eqAt a b k = false := (Bool.not_eq_true _).mp hpk
        rw [if_neg hpk] at hstep
        have hq : ((((mkS a)[k].toNat : Nat) : Int) == (((mkS b)[k].toNat : Nat) : Int)) = false := by rw [byte_beq, mkS_getD, mkS_getD]; exact hpf
        have B := hb.out
        have b1 : decide ((k : Int) < ((mkS a).size : Int)) = true := decide_eq_true (by omega)
        have b2 : decide ((k : Int) < ((mkS b).size : Int)) = true := decide_eq_true (by omega)
        have HNN := Lib.hid hnn
        clear hpk hpf hr HF0 hnn
        subst hstep
        go_wp2
        go_quiet (fail)
        go_wp2
        go_loopw [11] (fun i wr2 => ∃ m : Nat, m ≤ n - k ∧ i = .int .i64 m ∧ Hid (runF (eqBack a b) (n - k - m) m = R) ∧ Hid (Below (w.heap.size + 1) (w.alloc (.cells #[.int .i64 0, .int .i64 0, .string ⟨#[]⟩] 34)) wr2)) (fun i _ => n - (intOf i).toNat)
        case atStart => exact ⟨0, Nat.zero_le _, rfl, HR0, B.trans (below_drewAt _ _ _)⟩
        case round =>
          obtain ⟨m, hm, rfl, hr2, hb2⟩ := hrel
          have s0 : IntKind.i64.wrap ((k : Int) + (m : Int)) = (k : Int) + (m : Int) := IntWalk.i64_in _ (by omega)
          have B2 := hb2.out
          have hnn := HNN.out
          clear B hb
          by_cases hlt2 : m < n - k
          · have hstep2 := hr2.out
            rw [show n - k - m = (n - k - m - 1) + 1 by omega, runF] at hstep2
            obtain ⟨x, hx⟩ : ∃ x : Nat, x = (mkS a).size - 1 - m := ⟨_, rfl⟩
            obtain ⟨y, hy⟩ : ∃ y : Nat, y = (mkS b).size - 1 - m := ⟨_, rfl⟩
            have hxl : x < (mkS a).size := by omega
            have hyl : y < (mkS b).size := by omega
            have ex0 : IntKind.i64.wrap (((mkS a).size : Int) - 1) = ((mkS a).size : Int) - 1 := IntWalk.i64_in _ (by omega)
            have ex1 : IntKind.i64.wrap (((mkS a).size : Int) - 1 - (m : Int)) = (x : Int) := by
              rw [IntWalk.i64_in _ (by omega)]; omega
            have ey0 : IntKind.i64.wrap (((mkS b).size : Int) - 1) = ((mkS b).size : Int) - 1 := IntWalk.i64_in _ (by omega)
            have ey1 : IntKind.i64.wrap (((mkS b).size : Int) - 1 - (m : Int)) = (y : Int) := by
              rw [IntWalk.i64_in _ (by omega)]; omega
            have c1 : decide ((k : Int) + (m : Int) < ((mkS a).size : Int)) = true := decide_eq_true (by omega)
            have d1 : k + m < (mkS a).size := by omega
            have d2 : k + m < (mkS b).size := by omega
            have c2 : decide ((k : Int) + (m : Int) < ((mkS b).size : Int)) = true := decide_eq_true (by omega)
            by_cases hpk2 : eqBack a b m = true
            · rw [if_pos hpk2] at hstep2
              have HS2 : Hid (runF (eqBack a b) (n - k - (m + 1)) (m + 1) = R) := by show _ = _; rw [← hstep2]; congr 1
              have hq2 : ((((mkS a)[x].toNat : Nat) : Int) == (((mkS b)[y].toNat : Nat) : Int)) = true := by
                rw [byte_beq, mkS_getD, mkS_getD, hx, hy, mkS_size, mkS_size]; exact hpk2
              clear hstep2 hpk2 hr2 hx hy HR0
              go_wp2
              go_quiet (fail)
              go_wp2
              go_roundw
              case rel => exact ⟨m + 1, by omega, by go_num, HS2, B2.trans (below_drewAt _ _ _)⟩
              case measure => simp [intOf]; omega
            · have hpf2 : eqBack a b m = false := (Bool.not_eq_true _).mp hpk2
              rw [if_neg hpk2] at hstep2
              have hq2 : ((((mkS a)[x].toNat : Nat) : Int) == (((mkS b)[y].toNat : Nat) : Int)) = false := by
                rw [byte_beq, mkS_getD, mkS_getD, hx, hy, mkS_size, mkS_size]; exact hpf2
              clear hpk2 hpf2 hr2 hx hy HR0
              subst hstep2
              have r0 := (B2.cell (p := ⟨w.heap.size, 0, none⟩) (by simp)).trans (show _ = some (Value.int .i64 0) by simp [go_sem])
              have r1 := (B2.cell (p := ⟨w.heap.size, 1, none⟩) (by simp)).trans (show _ = some (Value.int .i64 0) by simp [go_sem])
              have r2 := (B2.cell (p := ⟨w.heap.size, 2, none⟩) (by simp)).trans (show _ = some (Value.string ⟨#[]⟩) by simp [go_sem])
              have q0 := (B2.frozen (p := ⟨w.heap.size, 0, none⟩) (by simp)).trans (show _ = false by simp [go_sem])
              have q1 := (B2.frozen (p := ⟨w.heap.size, 1, none⟩) (by simp)).trans (show _ = false by simp [go_sem])
              have q2 := (B2.frozen (p := ⟨w.heap.size, 2, none⟩) (by simp)).trans (show _ = false by simp [go_sem])
              have hz : w.heap.size < wr.heap.size := cell_lt r0
              have hfin : Below w.heap.size w wr := ((Below.refl _ _).alloc (Nat.le_refl _) _).trans (B2.mono (by simp))
              have s1 : IntKind.i64.wrap (((mkS a).size : Int) - (m : Int)) = ((mkS a).size : Int) - (m : Int) := IntWalk.i64_in _ (by omega)
              have s2 : IntKind.i64.wrap (((mkS b).size : Int) - (m : Int)) = ((mkS b).size : Int) - (m : Int) := IntWalk.i64_in _ (by omega)
              have HFIN := Lib.hid hfin
              clear hfin
              go_wp2
              go_quiet (fail)
              go_wp2
              refine bodyPost_ret (v := .tuple #[.agg #[.int .i64 k, .int .i64 ((mkS a).size - m), .string ((mkS b).extract k ((mkS b).size - m))], .int .i64 0]) (by simp [results, Tryd.results29, go_sem, r0, r1, r2, hz]) rfl ⟨rfl, ?_⟩
              repeat (first | exact HFIN.out | refine Below.setCell ?_ (by simp) _ | exact HFIN.out.trans (below_drewAt _ _ _))
          · have hm0 : m = n - k := by omega
            have hstep2 := hr2.out
            rw [show n - k - m = 0 by omega, runF] at hstep2
            subst hstep2
            have c12 : (decide (k + m < (mkS a).size) = false ∧ decide ((k : Int) + (m : Int) < ((mkS a).size : Int)) = false) ∨ ((k + m < (mkS a).size ∧ decide ((k : Int) + (m : Int) < ((mkS a).size : Int)) = true) ∧ decide (k + m < (mkS b).size) = false ∧ decide ((k : Int) + (m : Int) < ((mkS b).size : Int)) = false) := by
              rcases Nat.lt_or_ge (k + m) (mkS a).size with h | h
              · exact .inr ⟨⟨h, decide_eq_true (by omega)⟩, decide_eq_false (by omega), decide_eq_false (by omega)⟩
              · exact .inl ⟨decide_eq_false (by omega), decide_eq_false (by omega)⟩
            clear hr2 HR0 hm0 hnn hlt2
            rcases c12 with ⟨c1, c1'⟩ | ⟨⟨c1, c1'⟩, c2, c2'⟩
            · skip
              have r0 := (B2.cell (p := ⟨w.heap.size, 0, none⟩) (by simp)).trans (show _ = some (Value.int .i64 0) by simp [go_sem])
              have r1 := (B2.cell (p := ⟨w.heap.size, 1, none⟩) (by simp)).trans (show _ = some (Value.int .i64 0) by simp [go_sem])
              have r2 := (B2.cell (p := ⟨w.heap.size, 2, none⟩) (by simp)).trans (show _ = some (Value.string ⟨#[]⟩) by simp [go_sem])
              have q0 := (B2.frozen (p := ⟨w.heap.size, 0, none⟩) (by simp)).trans (show _ = false by simp [go_sem])
              have q1 := (B2.frozen (p := ⟨w.heap.size, 1, none⟩) (by simp)).trans (show _ = false by simp [go_sem])
              have q2 := (B2.frozen (p := ⟨w.heap.size, 2, none⟩) (by simp)).trans (show _ = false by simp [go_sem])
              have hz : w.heap.size < wr.heap.size := cell_lt r0
              have hfin : Below w.heap.size w wr := ((Below.refl _ _).alloc (Nat.le_refl _) _).trans (B2.mono (by simp))
              have s1 : IntKind.i64.wrap (((mkS a).size : Int) - (m : Int)) = ((mkS a).size : Int) - (m : Int) := IntWalk.i64_in _ (by omega)
              have s2 : IntKind.i64.wrap (((mkS b).size : Int) - (m : Int)) = ((mkS b).size : Int) - (m : Int) := IntWalk.i64_in _ (by omega)
              have HFIN := Lib.hid hfin
              clear hfin
              go_wp2
              go_quiet (fail)
              go_wp2
              refine bodyPost_ret (v := .tuple #[.agg #[.int .i64 k, .int .i64 ((mkS a).size - m), .string ((mkS b).extract k ((mkS b).size - m))], .int .i64 0]) (by simp [results, Tryd.results29, go_sem, r0, r1, r2, hz]) rfl ⟨rfl, ?_⟩
              repeat (first | exact HFIN.out | refine Below.setCell ?_ (by simp) _ | exact HFIN.out.trans (below_drewAt _ _ _))
            · skip
              have r0 := (B2.cell (p := ⟨w.heap.size, 0, none⟩) (by simp)).trans (show _ = some (Value.int .i64 0) by simp [go_sem])
              have r1 := (B2.cell (p := ⟨w.heap.size, 1, none⟩) (by simp)).trans (show _ = some (Value.int .i64 0) by simp [go_sem])
              have r2 := (B2.cell (p := ⟨w.heap.size, 2, none⟩) (by simp)).trans (show _ = some (Value.string ⟨#[]⟩) by simp [go_sem])
              have q0 := (B2.frozen (p := ⟨w.heap.size, 0, none⟩) (by simp)).trans (show _ = false by simp [go_sem])
              have q1 := (B2.frozen (p := ⟨w.heap.size, 1, none⟩) (by simp)).trans (show _ = false by simp [go_sem])
              have q2 := (B2.frozen (p := ⟨w.heap.size, 2, none⟩) (by simp)).trans (show _ = false by simp [go_sem])
              have hz : w.heap.size < wr.heap.size := cell_lt r0
              have hfin : Below w.heap.size w wr := ((Below.refl _ _).alloc (Nat.le_refl _) _).trans (B2.mono (by simp))
              have s1 : IntKind.i64.wrap (((mkS a).size : Int) - (m : Int)) = ((mkS a).size : Int) - (m : Int) := IntWalk.i64_in _ (by omega)
              have s2 : IntKind.i64.wrap (((mkS b).size : Int) - (m : Int)) = ((mkS b).size : Int) - (m : Int) := IntWalk.i64_in _ (by omega)
              have HFIN := Lib.hid hfin
              clear hfin
              go_wp2
              go_quiet (fail)
              go_wp2
              refine bodyPost_ret (v := .tuple #[.agg #[.int .i64 k, .int .i64 ((mkS a).size - m), .string ((mkS b).extract k ((mkS b).size - m))], .int .i64 0]) (by simp [results, Tryd.results29, go_sem, r0, r1, r2, hz]) rfl ⟨rfl, ?_⟩
              repeat (first | exact HFIN.out | refine Below.setCell ?_ (by simp) _ | exact HFIN.out.trans (below_drewAt _ _ _))
    · have hk0 : k = n := by omega
      have hstep := hr.out
      rw [show n - k = 0 by omega, runF] at hstep
      subst hstep
      have B := hb.out
      have c12 : (decide (k < (mkS a).size) = false ∧ decide ((k : Int) < ((mkS a).size : Int)) = false) ∨ ((k < (mkS a).size ∧ decide ((k : Int) < ((mkS a).size : Int)) = true) ∧ decide (k < (mkS b).size) = false ∧ decide ((k : Int) < ((mkS b).size : Int)) = false) := by
        rcases Nat.lt_or_ge k (mkS a).size with h | h
        · exact .inr ⟨⟨h, decide_eq_true (by omega)⟩, decide_eq_false (by omega), decide_eq_false (by omega)⟩
        · exact .inl ⟨decide_eq_false (by omega), decide_eq_false (by omega)⟩
      have HNN := Lib.hid hnn
      clear hr HF0 hk0 hnn hlt
      rcases c12 with ⟨b1, b1'⟩ | ⟨⟨b1, b1'⟩, b2, b2'⟩
      · go_wp2
        go_quiet (fail)
        go_wp2
        go_loopw [11] (fun i wr2 => ∃ m : Nat, m ≤ n - k ∧ i = .int .i64 m ∧ Hid (runF (eqBack a b) (n - k - m) m = R) ∧ Hid (Below (w.heap.size + 1) (w.alloc (.cells #[.int .i64 0, .int .i64 0, .string ⟨#[]⟩] 34)) wr2)) (fun i _ => n - (intOf i).toNat)
        case atStart => exact ⟨0, Nat.zero_le _, rfl, HR0, B.trans (below_drewAt _ _ _)⟩
        case round =>
          obtain ⟨m, hm, rfl, hr2, hb2⟩ := hrel
          have s0 : IntKind.i64.wrap ((k : Int) + (m : Int)) = (k : Int) + (m : Int) := IntWalk.i64_in _ (by omega)
          have B2 := hb2.out
          have hnn := HNN.out
          clear B hb
          by_cases hlt2 : m < n - k
          · have hstep2 := hr2.out
            rw [show n - k - m = (n - k - m - 1) + 1 by omega, runF] at hstep2
            obtain ⟨x, hx⟩ : ∃ x : Nat, x = (mkS a).size - 1 - m := ⟨_, rfl⟩
            obtain ⟨y, hy⟩ : ∃ y : Nat, y = (mkS b).size - 1 - m := ⟨_, rfl⟩
            have hxl : x < (mkS a).size := by omega
            have hyl : y < (mkS b).size := by omega
            have ex0 : IntKind.i64.wrap (((mkS a).size : Int) - 1) = ((mkS a).size : Int) - 1 := IntWalk.i64_in _ (by omega)
            have ex1 : IntKind.i64.wrap (((mkS a).size : Int) - 1 - (m : Int)) = (x : Int) := by
              rw [IntWalk.i64_in _ (by omega)]; omega
            have ey0 : IntKind.i64.wrap (((mkS b).size : Int) - 1) = ((mkS b).size : Int) - 1 := IntWalk.i64_in _ (by omega)
            have ey1 : IntKind.i64.wrap (((mkS b).size : Int) - 1 - (m : Int)) = (y : Int) := by
              rw [IntWalk.i64_in _ (by omega)]; omega
            have c1 : decide ((k : Int) + (m : Int) < ((mkS a).size : Int)) = true := decide_eq_true (by omega)
            have d1 : k + m < (mkS a).size := by omega
            have d2 : k + m < (mkS b).size := by omega
            have c2 : decide ((k : Int) + (m : Int) < ((mkS b).size : Int)) = true := decide_eq_true (by omega)
            by_cases hpk2 : eqBack a b m = true
            · rw [if_pos hpk2] at hstep2
              have HS2 : Hid (runF (eqBack a b) (n - k - (m + 1)) (m + 1) = R) := by show _ = _; rw [← hstep2]; congr 1
              have hq2 : ((((mkS a)[x].toNat : Nat) : Int) == (((mkS b)[y].toNat : Nat) : Int)) = true := by
                rw [byte_beq, mkS_getD, mkS_getD, hx, hy, mkS_size, mkS_size]; exact hpk2
              clear hstep2 hpk2 hr2 hx hy HR0
              go_wp2
              go_quiet (fail)
              go_wp2
              go_roundw
              case rel => exact ⟨m + 1, by omega, by go_num, HS2, B2.trans (below_drewAt _ _ _)⟩
              case measure => simp [intOf]; omega
            · have hpf2 : eqBack a b m = false := (Bool.not_eq_true _).mp hpk2
              rw [if_neg hpk2] at hstep2
              have hq2 : ((((mkS a)[x].toNat : Nat) : Int) == (((mkS b)[y].toNat : Nat) : Int)) = false := by
                rw [byte_beq, mkS_getD, mkS_getD, hx, hy, mkS_size, mkS_size]; exact hpf2
              clear hpk2 hpf2 hr2 hx hy HR0
              subst hstep2
              have r0 := (B2.cell (p := ⟨w.heap.size, 0, none⟩) (by simp)).trans (show _ = some (Value.int .i64 0) by simp [go_sem])
              have r1 := (B2.cell (p := ⟨w.heap.size, 1, none⟩) (by simp)).trans (show _ = some (Value.int .i64 0) by simp [go_sem])
              have r2 := (B2.cell (p := ⟨w.heap.size, 2, none⟩) (by simp)).trans (show _ = some (Value.string ⟨#[]⟩) by simp [go_sem])
              have q0 := (B2.frozen (p := ⟨w.heap.size, 0, none⟩) (by simp)).trans (show _ = false by simp [go_sem])
              have q1 := (B2.frozen (p := ⟨w.heap.size, 1, none⟩) (by simp)).trans (show _ = false by simp [go_sem])
              have q2 := (B2.frozen (p := ⟨w.heap.size, 2, none⟩) (by simp)).trans (show _ = false by simp [go_sem])
              have hz : w.heap.size < wr.heap.size := cell_lt r0
              have hfin : Below w.heap.size w wr := ((Below.refl _ _).alloc (Nat.le_refl _) _).trans (B2.mono (by simp))
              have s1 : IntKind.i64.wrap (((mkS a).size : Int) - (m : Int)) = ((mkS a).size : Int) - (m : Int) := IntWalk.i64_in _ (by omega)
              have s2 : IntKind.i64.wrap (((mkS b).size : Int) - (m : Int)) = ((mkS b).size : Int) - (m : Int) := IntWalk.i64_in _ (by omega)
              have HFIN := Lib.hid hfin
              clear hfin
              go_wp2
              go_quiet (fail)
              go_wp2
              refine bodyPost_ret (v := .tuple #[.agg #[.int .i64 k, .int .i64 ((mkS a).size - m), .string ((mkS b).extract k ((mkS b).size - m))], .int .i64 0]) (by simp [results, Tryd.results29, go_sem, r0, r1, r2, hz]) rfl ⟨rfl, ?_⟩
              repeat (first | exact HFIN.out | refine Below.setCell ?_ (by simp) _ | exact HFIN.out.trans (below_drewAt _ _ _))
          · have hm0 : m = n - k := by omega
            have hstep2 := hr2.out
            rw [show n - k - m = 0 by omega, runF] at hstep2
            subst hstep2
            have c12 : (decide (k + m < (mkS a).size) = false ∧ decide ((k : Int) + (m : Int) < ((mkS a).size : Int)) = false) ∨ ((k + m < (mkS a).size ∧ decide ((k : Int) + (m : Int) < ((mkS a).size : Int)) = true) ∧ decide (k + m < (mkS b).size) = false ∧ decide ((k : Int) + (m : Int) < ((mkS b).size : Int)) = false) := by
              rcases Nat.lt_or_ge (k + m) (mkS a).size with h | h
              · exact .inr ⟨⟨h, decide_eq_true (by omega)⟩, decide_eq_false (by omega), decide_eq_false (by omega)⟩
              · exact .inl ⟨decide_eq_false (by omega), decide_eq_false (by omega)⟩
            clear hr2 HR0 hm0 hnn hlt2
            rcases c12 with ⟨c1, c1'⟩ | ⟨⟨c1, c1'⟩, c2, c2'⟩
            · skip
              have r0 := (B2.cell (p := ⟨w.heap.size, 0, none⟩) (by simp)).trans (show _ = some (Value.int .i64 0) by simp [go_sem])
              have r1 := (B2.cell (p := ⟨w.heap.size, 1, none⟩) (by simp)).trans (show _ = some (Value.int .i64 0) by simp [go_sem])
              have r2 := (B2.cell (p := ⟨w.heap.size, 2, none⟩) (by simp)).trans (show _ = some (Value.string ⟨#[]⟩) by simp [go_sem])
              have q0 := (B2.frozen (p := ⟨w.heap.size, 0, none⟩) (by simp)).trans (show _ = false by simp [go_sem])
              have q1 := (B2.frozen (p := ⟨w.heap.size, 1, none⟩) (by simp)).trans (show _ = false by simp [go_sem])
              have q2 := (B2.frozen (p := ⟨w.heap.size, 2, none⟩) (by simp)).trans (show _ = false by simp [go_sem])
              have hz : w.heap.size < wr.heap.size := cell_lt r0
              have hfin : Below w.heap.size w wr := ((Below.refl _ _).alloc (Nat.le_refl _) _).trans (B2.mono (by simp))
              have s1 : IntKind.i64.wrap (((mkS a).size : Int) - (m : Int)) = ((mkS a).size : Int) - (m : Int) := IntWalk.i64_in _ (by omega)
              have s2 : IntKind.i64.wrap (((mkS b).size : Int) - (m : Int)) = ((mkS b).size : Int) - (m : Int) := IntWalk.i64_in _ (by omega)
              have HFIN := Lib.hid hfin
              clear hfin
              go_wp2
              go_quiet (fail)
              go_wp2
              refine bodyPost_ret (v := .tuple #[.agg #[.int .i64 k, .int .i64 ((mkS a).size - m), .string ((mkS b).extract k ((mkS b).size - m))], .int .i64 0]) (by simp [results, Tryd.results29, go_sem, r0, r1, r2, hz]) rfl ⟨rfl, ?_⟩
              repeat (first | exact HFIN.out | refine Below.setCell ?_ (by simp) _ | exact HFIN.out.trans (below_drewAt _ _ _))
            · skip
              have r0 := (B2.cell (p := ⟨w.heap.size, 0, none⟩) (by simp)).trans (show _ = some (Value.int .i64 0) by simp [go_sem])
              have r1 := (B2.cell (p := ⟨w.heap.size, 1, none⟩) (by simp)).trans (show _ = some (Value.int .i64 0) by simp [go_sem])
              have r2 := (B2.cell (p := ⟨w.heap.size, 2, none⟩) (by simp)).trans (show _ = some (Value.string ⟨#[]⟩) by simp [go_sem])
              have q0 := (B2.frozen (p := ⟨w.heap.size, 0, none⟩) (by simp)).trans (show _ = false by simp [go_sem])
              have q1 := (B2.frozen (p := ⟨w.heap.size, 1, none⟩) (by simp)).trans (show _ = false by simp [go_sem])
              have q2 := (B2.frozen (p := ⟨w.heap.size, 2, none⟩) (by simp)).trans (show _ = false by simp [go_sem])
              have hz : w.heap.size < wr.heap.size := cell_lt r0
              have hfin : Below w.heap.size w wr := ((Below.refl _ _).alloc (Nat.le_refl _) _).trans (B2.mono (by simp))
              have s1 : IntKind.i64.wrap (((mkS a).size : Int) - (m : Int)) = ((mkS a).size : Int) - (m : Int) := IntWalk.i64_in _ (by omega)
              have s2 : IntKind.i64.wrap (((mkS b).size : Int) - (m : Int)) = ((mkS b).size : Int) - (m : Int) := IntWalk.i64_in _ (by omega)
              have HFIN := Lib.hid hfin
              clear hfin
              go_wp2
              go_quiet (fail)
              go_wp2
              refine bodyPost_ret (v := .tuple #[.agg #[.int .i64 k, .int .i64 ((mkS a).size - m), .string ((mkS b).extract k ((mkS b).size - m))], .int .i64 0]) (by simp [results, Tryd.results29, go_sem, r0, r1, r2, hz]) rfl ⟨rfl, ?_⟩
              repeat (first | exact HFIN.out | refine Below.setCell ?_ (by simp) _ | exact HFIN.out.trans (below_drewAt _ _ _))
      · go_wp2
        go_quiet (fail)
        go_wp2
        go_loopw [11] (fun i wr2 => ∃ m : Nat, m ≤ n - k ∧ i = .int .i64 m ∧ Hid (runF (eqBack a b) (n - k - m) m = R) ∧ Hid (Below (w.heap.size + 1) (w.alloc (.cells #[.int .i64 0, .int .i64 0, .string ⟨#[]⟩] 34)) wr2)) (fun i _ => n - (intOf i).toNat)
        case atStart => exact ⟨0, Nat.zero_le _, rfl, HR0, B.trans (below_drewAt _ _ _)⟩
        case round =>
          obtain ⟨m, hm, rfl, hr2, hb2⟩ := hrel
          have s0 : IntKind.i64.wrap ((k : Int) + (m : Int)) = (k : Int) + (m : Int) := IntWalk.i64_in _ (by omega)
          have B2 := hb2.out
          have hnn := HNN.out
          clear B hb
          by_cases hlt2 : m < n - k
          · have hstep2 := hr2.out
            rw [show n - k - m = (n - k - m - 1) + 1 by omega, runF] at hstep2
            obtain ⟨x, hx⟩ : ∃ x : Nat, x = (mkS a).size - 1 - m := ⟨_, rfl⟩
            obtain ⟨y, hy⟩ : ∃ y : Nat, y = (mkS b).size - 1 - m := ⟨_, rfl⟩
            have hxl : x < (mkS a).size := by omega
            have hyl : y < (mkS b).size := by omega
            have ex0 : IntKind.i64.wrap (((mkS a).size : Int) - 1) = ((mkS a).size : Int) - 1 := IntWalk.i64_in _ (by omega)
            have ex1 : IntKind.i64.wrap (((mkS a).size : Int) - 1 - (m : Int)) = (x : Int) := by
              rw [IntWalk.i64_in _ (by omega)]; omega
            have ey0 : IntKind.i64.wrap (((mkS b).size : Int) - 1) = ((mkS b).size : Int) - 1 := IntWalk.i64_in _ (by omega)
            have ey1 : IntKind.i64.wrap (((mkS b).size : Int) - 1 - (m : Int)) = (y : Int) := by
              rw [IntWalk.i64_in _ (by omega)]; omega
            have c1 : decide ((k : Int) + (m : Int) < ((mkS a).size : Int)) = true := decide_eq_true (by omega)
            have d1 : k + m < (mkS a).size := by omega
            have d2 : k + m < (mkS b).size := by omega
            have c2 : decide ((k : Int) + (m : Int) < ((mkS b).size : Int)) = true := decide_eq_true (by omega)
            by_cases hpk2 : eqBack a b m = true
            · rw [if_pos hpk2] at hstep2
              have HS2 : Hid (runF (eqBack a b) (n - k - (m + 1)) (m + 1) = R) := by show _ = _; rw [← hstep2]; congr 1
              have hq2 : ((((mkS a)[x].toNat : Nat) : Int) == (((mkS b)[y].toNat : Nat) : Int)) = true := by
                rw [byte_beq, mkS_getD, mkS_getD, hx, hy, mkS_size, mkS_size]; exact hpk2
              clear hstep2 hpk2 hr2 hx hy HR0
              go_wp2
              go_quiet (fail)
              go_wp2
              go_roundw
              case rel => exact ⟨m + 1, by omega, by go_num, HS2, B2.trans (below_drewAt _ _ _)⟩
              case measure => simp [intOf]; omega
            · have hpf2 : eqBack a b m = false := (Bool.not_eq_true _).mp hpk2
              rw [if_neg hpk2] at hstep2
              have hq2 : ((((mkS a)[x].toNat : Nat) : Int) == (((mkS b)[y].toNat : Nat) : Int)) = false := by
                rw [byte_beq, mkS_getD, mkS_getD, hx, hy, mkS_size, mkS_size]; exact hpf2
              clear hpk2 hpf2 hr2 hx hy HR0
              subst hstep2
              have r0 := (B2.cell (p := ⟨w.heap.size, 0, none⟩) (by simp)).trans (show _ = some (Value.int .i64 0) by simp [go_sem])
              have r1 := (B2.cell (p := ⟨w.heap.size, 1, none⟩) (by simp)).trans (show _ = some (Value.int .i64 0) by simp [go_sem])
              have r2 := (B2.cell (p := ⟨w.heap.size, 2, none⟩) (by simp)).trans (show _ = some (Value.string ⟨#[]⟩) by simp [go_sem])
              have q0 := (B2.frozen (p := ⟨w.heap.size, 0, none⟩) (by simp)).trans (show _ = false by simp [go_sem])
              have q1 := (B2.frozen (p := ⟨w.heap.size, 1, none⟩) (by simp)).trans (show _ = false by simp [go_sem])
              have q2 := (B2.frozen (p := ⟨w.heap.size, 2, none⟩) (by simp)).trans (show _ = false by simp [go_sem])
              have hz : w.heap.size < wr.heap.size := cell_lt r0
              have hfin : Below w.heap.size w wr := ((Below.refl _ _).alloc (Nat.le_refl _) _).trans (B2.mono (by simp))
              have s1 : IntKind.i64.wrap (((mkS a).size : Int) - (m : Int)) = ((mkS a).size : Int) - (m : Int) := IntWalk.i64_in _ (by omega)
              have s2 : IntKind.i64.wrap (((mkS b).size : Int) - (m : Int)) = ((mkS b).size : Int) - (m : Int) := IntWalk.i64_in _ (by omega)
              have HFIN := Lib.hid hfin
              clear hfin
              go_wp2
              go_quiet (fail)
              go_wp2
              refine bodyPost_ret (v := .tuple #[.agg #[.int .i64 k, .int .i64 ((mkS a).size - m), .string ((mkS b).extract k ((mkS b).size - m))], .int .i64 0]) (by simp [results, Tryd.results29, go_sem, r0, r1, r2, hz]) rfl ⟨rfl, ?_⟩
              repeat (first | exact HFIN.out | refine Below.setCell ?_ (by simp) _ | exact HFIN.out.trans (below_drewAt _ _ _))
          · have hm0 : m = n - k := by omega
            have hstep2 := hr2.out
            rw [show n - k - m = 0 by omega, runF] at hstep2
            subst hstep2
            have c12 : (decide (k + m < (mkS a).size) = false ∧ decide ((k : Int) + (m : Int) < ((mkS a).size : Int)) = false) ∨ ((k + m < (mkS a).size ∧ decide ((k : Int) + (m : Int) < ((mkS a).size : Int)) = true) ∧ decide (k + m < (mkS b).size) = false ∧ decide ((k : Int) + (m : Int) < ((mkS b).size : Int)) = false) := by
              rcases Nat.lt_or_ge (k + m) (mkS a).size with h | h
              · exact .inr ⟨⟨h, decide_eq_true (by omega)⟩, decide_eq_false (by omega), decide_eq_false (by omega)⟩
              · exact .inl ⟨decide_eq_false (by omega), decide_eq_false (by omega)⟩
            clear hr2 HR0 hm0 hnn hlt2
            rcases c12 with ⟨c1, c1'⟩ | ⟨⟨c1, c1'⟩, c2, c2'⟩
            · skip
              have r0 := (B2.cell (p := ⟨w.heap.size, 0, none⟩) (by simp)).trans (show _ = some (Value.int .i64 0) by simp [go_sem])
              have r1 := (B2.cell (p := ⟨w.heap.size, 1, none⟩) (by simp)).trans (show _ = some (Value.int .i64 0) by simp [go_sem])
              have r2 := (B2.cell (p := ⟨w.heap.size, 2, none⟩) (by simp)).trans (show _ = some (Value.string ⟨#[]⟩) by simp [go_sem])
              have q0 := (B2.frozen (p := ⟨w.heap.size, 0, none⟩) (by simp)).trans (show _ = false by simp [go_sem])
              have q1 := (B2.frozen (p := ⟨w.heap.size, 1, none⟩) (by simp)).trans (show _ = false by simp [go_sem])
              have q2 := (B2.frozen (p := ⟨w.heap.size, 2, none⟩) (by simp)).trans (show _ = false by simp [go_sem])
              have hz : w.heap.size < wr.heap.size := cell_lt r0
              have hfin : Below w.heap.size w wr := ((Below.refl _ _).alloc (Nat.le_refl _) _).trans (B2.mono (by simp))
              have s1 : IntKind.i64.wrap (((mkS a).size : Int) - (m : Int)) = ((mkS a).size : Int) - (m : Int) := IntWalk.i64_in _ (by omega)
              have s2 : IntKind.i64.wrap (((mkS b).size : Int) - (m : Int)) = ((mkS b).size : Int) - (m : Int) := IntWalk.i64_in _ (by omega)
              have HFIN := Lib.hid hfin
              clear hfin
              go_wp2
              go_quiet (fail)
              go_wp2
              refine bodyPost_ret (v := .tuple #[.agg #[.int .i64 k, .int .i64 ((mkS a).size - m), .string ((mkS b).extract k ((mkS b).size - m))], .int .i64 0]) (by simp [results, Tryd.results29, go_sem, r0, r1, r2, hz]) rfl ⟨rfl, ?_⟩
              repeat (first | exact HFIN.out | refine Below.setCell ?_ (by simp) _ | exact HFIN.out.trans (below_drewAt _ _ _))
            · skip
              have r0 := (B2.cell (p := ⟨w.heap.size, 0, none⟩) (by simp)).trans (show _ = some (Value.int .i64 0) by simp [go_sem])
              have r1 := (B2.cell (p := ⟨w.heap.size, 1, none⟩) (by simp)).trans (show _ = some (Value.int .i64 0) by simp [go_sem])
              have r2 := (B2.cell (p := ⟨w.heap.size, 2, none⟩) (by simp)).trans (show _ = some (Value.string ⟨#[]⟩) by simp [go_sem])
              have q0 := (B2.frozen (p := ⟨w.heap.size, 0, none⟩) (by simp)).trans (show _ = false by simp [go_sem])
              have q1 := (B2.frozen (p := ⟨w.heap.size, 1, none⟩) (by simp)).trans (show _ = false by simp [go_sem])
              have q2 := (B2.frozen (p := ⟨w.heap.size, 2, none⟩) (by simp)).trans (show _ = false by simp [go_sem])
              have hz : w.heap.size < wr.heap.size := cell_lt r0
              have hfin : Below w.heap.size w wr := ((Below.refl _ _).alloc (Nat.le_refl _) _).trans (B2.mono (by simp))
              have s1 : IntKind.i64.wrap (((mkS a).size : Int) - (m : Int)) = ((mkS a).size : Int) - (m : Int) := IntWalk.i64_in _ (by omega)
              have s2 : IntKind.i64.wrap (((mkS b).size : Int) - (m : Int)) = ((mkS b).size : Int) - (m : Int) := IntWalk.i64_in _ (by omega)
              have HFIN := Lib.hid hfin
              clear hfin
              go_wp2
              go_quiet (fail)
              go_wp2
              refine bodyPost_ret (v := .tuple #[.agg #[.int .i64 k, .int .i64 ((mkS a).size - m), .string ((mkS b).extract k ((mkS b).size - m))], .int .i64 0]) (by simp [results, Tryd.results29, go_sem, r0, r1, r2, hz]) rfl ⟨rfl, ?_⟩
              repeat (first | exact HFIN.out | refine Below.setCell ?_ (by simp) _ | exact HFIN.out.trans (below_drewAt _ _ _))
end Go.Proofs.YthmhklmoodffcaaDoor
