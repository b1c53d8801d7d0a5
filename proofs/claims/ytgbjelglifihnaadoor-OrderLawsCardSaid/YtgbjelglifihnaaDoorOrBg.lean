/- The contracts of every at shapes, of kidCount, of formedShape. -/
import Derived.Test.YtgbjelglifihnaaDoorOrBf
set_option linter.unusedVariables false
set_option linter.unusedSimpArgs false
namespace Go.Proofs.YtgbjelglifihnaaDoor.Or
open Go.RowKit

set_option maxRecDepth 100000 in
set_option maxHeartbeats 2000000 in
theorem everyShp_any (d : Nat) (v : Value) (s : Shp) (g : Nat) (lb : Array Value) (p : Nat → Bool) (w : World) (hv : KidIn (d + 1) w v s) (eg : ∀ args w, (callFunc g args).run Tryd.prog w = .ok (.enter g args) w)
    (hp : ∀ i W u, i < s.n → Below w.heap.size w W → KidIn d W u (s.kid i) → Calls Tryd.prog g (#[shpV (s.kid i) u] ++ lb) W fun e W' => e = .returned (.bool (p i)) ∧ Below W.heap.size W W') :
    Calls Tryd.prog 124 #[v, .func (.func g) #[] lb] w fun e w' => e = .returned (.bool ((List.range s.n).all p)) ∧ Below w.heap.size w w' := by
  have hl := hv.len
  obtain ⟨q, cap, rfl⟩ := hv.form
  have HV := Lib.hid hv; have HP := Lib.hid hp
  obtain ⟨n, hn⟩ : ∃ n, n = s.n := ⟨_, rfl⟩
  rw [← hn] at hl HV HP ⊢
  have HN := Lib.hid hn
  clear hv hp hn
  go_enter Tryd.func124, Tryd.ntmps124
  go_wp2
  go_loopw [9] (fun i wr => ∃ k : Nat, k ≤ n ∧ i = .int .i64 k ∧ Hid ((List.range k).all p = true) ∧ Hid (Below w.heap.size w wr)) (fun i _ => n - (intOf i).toNat)
  case atStart => exact ⟨0, Nat.zero_le _, rfl, rfl, Below.refl _ _⟩
  case round =>
    obtain ⟨k, hk, rfl, hr, hb⟩ := hrel
    by_cases hlt : k < n
    · obtain ⟨b, off, q', c', rfl, h1, h2, h3, h4⟩ := (HV.out.below hb.out).kidAt (i := k) (by have := HN.out; omega)
      have lb1 : b < wr.heap.size := cell_lt h1
      have C := Lib.hid (HP.out k (wr.alloc (.cells #[.int .u8 (s.kid k).k, .string (mkS (s.kid k).nm), .slice q' (s.kid k).n c'] 57)) _ hlt (hb.out.alloc hb.out.size _) (h4.below ((Below.refl _ _).alloc (Nat.le_refl _) _)))
      unfold shpV at C
      clear h4
      cases hpk : p k with
      | false =>
        have HS : Hid ((List.range n).all p = false) := by
          show _ = _
          refine (Bool.not_eq_true _).mp fun h => ?_
          rw [List.all_eq_true] at h
          have := h k (List.mem_range.2 hlt)
          rw [hpk] at this; cases this
        rw [hpk] at C
        clear hpk hr
        go_wp2_with fail
        refine C.out.mono ?_
        rintro e w1 ⟨rfl, hb1⟩
        have HB1 := Lib.hid ((hb.out.alloc hb.out.size _).trans (hb1.mono (by have := hb.out.size; simp; omega)))
        clear hb1
        go_wp2
        go_ret
        exact ⟨ret_bool HS.out.symm, HB1.out⟩
      | true =>
        have HS : Hid ((List.range (k + 1)).all p = true) := by show _ = _; rw [List.range_succ, List.all_append, hr.out]; simp [hpk]
        rw [hpk] at C
        clear hpk hr
        go_wp2_with fail
        refine C.out.mono ?_
        rintro e w1 ⟨rfl, hb1⟩
        have HB1 := Lib.hid ((hb.out.alloc hb.out.size _).trans (hb1.mono (by have := hb.out.size; simp; omega)))
        clear hb1
        go_wp2
        go_roundw
        case rel => exact ⟨k + 1, by omega, by go_num, HS, HB1⟩
        case measure => simp [intOf]; omega
    · have HS : Hid ((List.range n).all p = true) := by show _ = _; rw [show n = k by omega]; exact hr.out
      clear hr
      go_wp2
      go_ret
      exact ⟨ret_bool HS.out.symm, hb.out⟩

/-- How many kids a shape of a kind has. -/
def kidN (k : Nat) : Nat := if k = 6 then 1 else if k = 7 then 2 else 0
set_option maxRecDepth 100000 in
set_option maxHeartbeats 2000000 in
theorem kidCount_any (k : Nat) (w : World) (hk : k < 256) :
    Calls Tryd.prog 123 #[.int .u8 k] w fun e w' => e = .returned (.int .i64 (kidN k)) ∧ w' = w := by
  by_cases h6 : k = 6
  · subst h6
    go_enter Tryd.func123, Tryd.ntmps123
    go_wp2
    go_ret
    exact ⟨rfl, rfl⟩
  · by_cases h7 : k = 7
    · subst h7
      go_enter Tryd.func123, Tryd.ntmps123
      go_wp2
      go_ret
      exact ⟨rfl, rfl⟩
    · have g6 : ((k : Int) == 6) = false := by rw [beq_eq_false_iff_ne]; omega
      have g7 : ((k : Int) == 7) = false := by rw [beq_eq_false_iff_ne]; omega
      have HF : Hid (kidN k = 0) := by show _ = _; unfold kidN; rw [if_neg h6, if_neg h7]
      clear h6 h7
      go_enter Tryd.func123, Tryd.ntmps123
      go_wp2
      go_ret
      exact ⟨ret_int (by rw [HF.out]; rfl), rfl⟩

/-- Whether a shape has its form. -/
def formF : Nat → Shp → Bool
  | 0, _ => false
  | d + 1, s => decide (1 ≤ s.k) && decide (s.k ≤ 7) && decide (s.n = kidN s.k) && (if s.k = 5 then tnameF s.nm else decide (s.nm = []) && (List.range s.n).all fun i => formF d (s.kid i))

set_option maxRecDepth 100000 in
set_option maxHeartbeats 4000000 in
theorem formedShape_any : ∀ (d : Nat) (s : Shp) (v : Value) (w : World), KidIn d w v s → LaidOk w →
    Calls Tryd.prog 87 #[shpV s v] w fun e w' => e = .returned (.bool (formF d s)) ∧ Below w.heap.size w w' := by
  intro d
  induction d with
  | zero => intro s v w hv; exact hv.elim
  | succ d ih =>
    intro s v w hv hL
    have hk := hv.1.1; have hnm := hv.1.2
    obtain ⟨W2, hW2⟩ : ∃ W2, W2 = w.alloc (.cells #[.int .u8 s.k, .string (mkS s.nm), v] 57) := ⟨_, rfl⟩
    have b2 : Below w.heap.size w W2 := by rw [hW2]; exact (Below.refl _ _).alloc (Nat.le_refl _) _
    have c0 : W2.cell? ⟨w.heap.size, 0, none⟩ = some (.int .u8 s.k) := by rw [hW2]; simp [go_sem]
    have c1 : W2.cell? ⟨w.heap.size, 1, none⟩ = some (.string (mkS s.nm)) := by rw [hW2]; simp [go_sem]
    have c2 : W2.cell? ⟨w.heap.size, 2, none⟩ = some v := by rw [hW2]; simp [go_sem]
    have CK : Hid (∀ W, Calls Tryd.prog 123 #[.int .u8 s.k] W fun e w' => e = .returned (.int .i64 (kidN s.k)) ∧ w' = W) := fun W => kidCount_any s.k W hk
    have CN : Hid (∀ W, Below w.heap.size w W → Calls Tryd.prog 102 #[.string (mkS s.nm)] W fun e w' => e = .returned (.bool (tnameF s.nm)) ∧ Below W.heap.size W w') := fun W h => namesTable_any s.nm W (by omega) (hL.below h)
    have CE : Hid (∀ W, Below w.heap.size w W → Calls Tryd.prog 124 #[v, .func (.func 87) #[] #[]] W fun e w' => e = .returned (.bool ((List.range s.n).all fun i => formF d (s.kid i))) ∧ Below W.heap.size W w') := fun W h =>
      everyShp_any d v s 87 #[] (fun i => formF d (s.kid i)) W (hv.below h) (enters_of Tryd.func87 (by kernel_rfl) rfl) (fun i U u hi hb hu => ih (s.kid i) u U hu (hL.below (h.trans (hb.mono h.size))))
    have HF : Hid (formF (d + 1) s = (decide (1 ≤ s.k) && decide (s.k ≤ 7) && decide (s.n = kidN s.k) && (if s.k = 5 then tnameF s.nm else decide (s.nm = []) && (List.range s.n).all fun i => formF d (s.kid i)))) := rfl
    obtain ⟨AL, hAL⟩ : ∃ AL, AL = (List.range s.n).all fun i => formF d (s.kid i) := ⟨_, rfl⟩
    rw [← hAL] at CE HF
    obtain ⟨q, cap, rfl⟩ := hv.form
    have hl := hv.len
    obtain ⟨k, hkk⟩ : ∃ k, k = s.k := ⟨_, rfl⟩
    obtain ⟨nm, hnn⟩ : ∃ nm, nm = s.nm := ⟨_, rfl⟩
    obtain ⟨n, hn⟩ : ∃ n, n = s.n := ⟨_, rfl⟩
    obtain ⟨F, hFF⟩ : ∃ F, F = formF (d + 1) s := ⟨_, rfl⟩
    rw [← hkk, ← hnn, ← hn, ← hFF] at HF
    rw [← hkk, ← hnn, ← hn] at hW2
    rw [← hkk] at CK c0 hk
    rw [← hnn] at CN c1 hnm
    rw [← hn] at CE c2 hl
    unfold shpV
    rw [← hkk, ← hnn, ← hn, ← hFF]
    have HW2 := Lib.hid hW2; have HB2 := Lib.hid b2
    have HN := Lib.hid hnm
    clear hv hL ih hAL hkk hnn hn hFF hW2 b2 hnm
    by_cases a1 : 1 ≤ k
    · have g1 : decide ((k : Int) < 1) = false := decide_eq_false (by omega)
      by_cases a2 : k ≤ 7
      · have g2 : decide ((7 : Int) < k) = false := decide_eq_false (by omega)
        by_cases a3 : n = kidN k
        · have g3 : ((n : Int) != (kidN k : Int)) = false := by rw [bne_eq_false_iff_eq]; omega
          by_cases a5 : k = 5
          · have g5 : ((k : Int) == 5) = true := by rw [beq_iff_eq]; omega
            have HR : Hid (F = tnameF nm) := by show _ = _; rw [HF.out, decide_eq_true a1, decide_eq_true a2, decide_eq_true a3, if_pos a5]; rfl
            clear a1 a2 a3 a5 HF CE
            go_enter Tryd.func87, Tryd.ntmps87
            go_wp2_with fail
            go_quiet ((go_at_call 123; exact Calls.quiet_of_same (CK.out _)))
            go_wp2_with fail
            refine (CN.out _ (show Below w.heap.size w _ from ((Below.refl _ _).alloc (Nat.le_refl _) _).trans (below_drewAt _ _ _))).mono ?_
            rintro e w1 ⟨rfl, hb⟩
            have HB := Lib.hid ((show Below w.heap.size w _ from ((Below.refl _ _).alloc (Nat.le_refl _) _).trans (below_drewAt _ _ _)).trans (hb.mono (by simp)))
            clear hb
            go_wp2
            go_ret
            exact ⟨ret_bool HR.out.symm, HB.out⟩
          · have g5 : ((k : Int) == 5) = false := by rw [beq_eq_false_iff_ne]; omega
            by_cases a6 : nm = []
            · have HR : Hid (F = AL) := by show _ = _; rw [HF.out, decide_eq_true a1, decide_eq_true a2, decide_eq_true a3, if_neg a5, decide_eq_true a6]; rfl
              have g6 : (mkS nm).toList.isEmpty = true := by rw [mkS_toList, a6]; rfl
              clear a1 a2 a3 a5 a6 HF CN
              go_enter Tryd.func87, Tryd.ntmps87
              go_wp2_with fail
              go_quiet ((go_at_call 123; exact Calls.quiet_of_same (CK.out _)))
              go_wp2_with fail
              refine (CE.out _ (show Below w.heap.size w _ from ((Below.refl _ _).alloc (Nat.le_refl _) _).trans (below_drewAt _ _ _))).mono ?_
              rintro e w1 ⟨rfl, hb⟩
              have HB := Lib.hid ((show Below w.heap.size w _ from ((Below.refl _ _).alloc (Nat.le_refl _) _).trans (below_drewAt _ _ _)).trans (hb.mono (by simp)))
              clear hb
              go_wp2
              go_ret
              exact ⟨ret_bool HR.out.symm, HB.out⟩
            · have HR : Hid (F = false) := by show _ = _; rw [HF.out, if_neg a5, decide_eq_false a6]; simp
              have g6 : (mkS nm).toList.isEmpty = false := by
                rw [mkS_toList]; cases nm with
                | nil => exact (a6 rfl).elim
                | cons a r => rfl
              clear a1 a2 a3 a5 a6 HF CN CE
              go_enter Tryd.func87, Tryd.ntmps87
              go_wp2_with fail
              go_quiet ((go_at_call 123; exact Calls.quiet_of_same (CK.out _)))
              go_wp2
              go_ret
              exact ⟨ret_bool HR.out.symm, (show Below w.heap.size w _ from ((Below.refl _ _).alloc (Nat.le_refl _) _).trans (below_drewAt _ _ _))⟩
        · have g3 : ((n : Int) != (kidN k : Int)) = true := by rw [bne_iff_ne]; omega
          have HR : Hid (F = false) := by show _ = _; rw [HF.out, decide_eq_false a3]; simp
          clear a1 a2 a3 HF CN CE
          go_enter Tryd.func87, Tryd.ntmps87
          go_wp2_with fail
          go_quiet ((go_at_call 123; exact Calls.quiet_of_same (CK.out _)))
          go_wp2
          go_ret
          exact ⟨ret_bool HR.out.symm, (show Below w.heap.size w _ from ((Below.refl _ _).alloc (Nat.le_refl _) _).trans (below_drewAt _ _ _))⟩
      · have g2 : decide ((7 : Int) < k) = true := decide_eq_true (by omega)
        have HR : Hid (F = false) := by show _ = _; rw [HF.out, decide_eq_false a2]; simp
        clear a1 a2 HF CN CE
        go_enter Tryd.func87, Tryd.ntmps87
        go_wp2_with fail
        go_quiet ((go_at_call 123; exact Calls.quiet_of_same (CK.out _)))
        go_wp2
        go_ret
        exact ⟨ret_bool HR.out.symm, (show Below w.heap.size w _ from ((Below.refl _ _).alloc (Nat.le_refl _) _).trans (below_drewAt _ _ _))⟩
    · have g1 : decide ((k : Int) < 1) = true := decide_eq_true (by omega)
      have HR : Hid (F = false) := by show _ = _; rw [HF.out, decide_eq_false a1]; simp
      clear a1 HF CN CE
      go_enter Tryd.func87, Tryd.ntmps87
      go_wp2_with fail
      go_quiet ((go_at_call 123; exact Calls.quiet_of_same (CK.out _)))
      go_wp2
      go_ret
      exact ⟨ret_bool HR.out.symm, (show Below w.heap.size w _ from ((Below.refl _ _).alloc (Nat.le_refl _) _).trans (below_drewAt _ _ _))⟩
end Go.Proofs.YtgbjelglifihnaaDoor.Or
