/- Contracts of every, at texts, at integers, at lists of integers. -/
import Derived.Test.YtgbjelglifihnaaDoorOrN
set_option linter.unusedVariables false
set_option linter.unusedSimpArgs false
namespace Go.Proofs.YtgbjelglifihnaaDoor.Or
open Go.RowKit

set_option maxRecDepth 100000 in
set_option maxHeartbeats 2000000 in
theorem everyS_st (v : Value) (vs : List Value) (g : Nat) (lb : Array Value) (p : Nat → Bool) (J : Nat → World → Prop) (w : World) (eg : ∀ args w, (callFunc g args).run Tryd.prog w = .ok (.enter g args) w)
    (hJ : ∀ k W, J k W → Rd W v vs) (h0 : J 0 w)
    (hp : ∀ k W, (h : k < vs.length) → J k W → Calls Tryd.prog g (#[vs[k]] ++ lb) W fun e W' => e = .returned (.bool (p k)) ∧ J (k + 1) W') :
    Calls Tryd.prog 103 #[v, .func (.func g) #[] lb] w fun e w' => e = .returned (.bool ((List.range vs.length).all p)) ∧ ∃ k, J k w' := by
  have HP := Lib.hid hp
  clear hp
  have hv := hJ 0 w h0
  obtain ⟨q, cap, rfl⟩ := hv.form
  have hl := hv.len
  obtain ⟨n, hn⟩ : ∃ n, n = vs.length := ⟨_, rfl⟩
  rw [← hn] at hl hJ ⊢
  have HN := Lib.hid hn; have HJ := Lib.hid hJ
  clear hv hn hJ
  go_enter Tryd.func103, Tryd.ntmps103
  go_wp2
  go_loopw [9] (fun i wr => ∃ k : Nat, k ≤ n ∧ i = .int .i64 k ∧ Hid ((List.range k).all p = true) ∧ J k wr) (fun i _ => n - (intOf i).toNat)
  case atStart => exact ⟨0, Nat.zero_le _, rfl, rfl, h0⟩
  case round =>
    obtain ⟨k, hk, rfl, hr, hj⟩ := hrel
    by_cases hlt : k < n
    · obtain ⟨b, off, rfl, hc'⟩ := (HJ.out k wr hj).cell (i := k) (by have := HN.out; omega)
      have C := HP.out k wr (by have := HN.out; omega) hj
      obtain ⟨x, hx⟩ : ∃ x, x = vs[k]'(by have := HN.out; omega) := ⟨_, rfl⟩
      rw [← hx] at C hc'
      cases hpk : p k with
      | true =>
        have HS : Hid ((List.range (k + 1)).all p = true) := by show _ = _; rw [List.range_succ, List.all_append, hr.out]; simp [hpk]
        rw [hpk] at C
        have HC := Lib.hid C
        clear C hpk hr hx h0
        go_wp2_with fail
        refine HC.out.mono ?_
        rintro e w1 ⟨rfl, hj1⟩
        go_wp2
        go_roundw
        case rel => exact ⟨k + 1, by omega, by go_num, HS, hj1⟩
        case measure => simp [intOf]; omega
      | false =>
        have HS : Hid ((List.range n).all p = false) := by
          show _ = _
          refine (Bool.not_eq_true _).mp fun h => ?_
          rw [List.all_eq_true] at h
          have := h k (List.mem_range.2 hlt)
          rw [hpk] at this; cases this
        rw [hpk] at C
        have HC := Lib.hid C
        clear C hpk hr hx h0
        go_wp2_with fail
        refine HC.out.mono ?_
        rintro e w1 ⟨rfl, hj1⟩
        go_wp2
        go_ret
        exact ⟨ret_bool HS.out.symm, _, hj1⟩
    · have HS : Hid ((List.range n).all p = true) := by
        show _ = _; rw [show n = k by omega]; exact hr.out
      clear hr
      go_wp2
      go_ret
      exact ⟨ret_bool HS.out.symm, _, hj⟩

set_option maxRecDepth 100000 in
set_option maxHeartbeats 2000000 in
theorem everyI_st (v : Value) (vs : List Value) (g : Nat) (lb : Array Value) (p : Nat → Bool) (J : Nat → World → Prop) (w : World) (eg : ∀ args w, (callFunc g args).run Tryd.prog w = .ok (.enter g args) w)
    (hJ : ∀ k W, J k W → Rd W v vs) (h0 : J 0 w)
    (hp : ∀ k W, (h : k < vs.length) → J k W → Calls Tryd.prog g (#[vs[k]] ++ lb) W fun e W' => e = .returned (.bool (p k)) ∧ J (k + 1) W') :
    Calls Tryd.prog 135 #[v, .func (.func g) #[] lb] w fun e w' => e = .returned (.bool ((List.range vs.length).all p)) ∧ ∃ k, J k w' := by
  have HP := Lib.hid hp
  clear hp
  have hv := hJ 0 w h0
  obtain ⟨q, cap, rfl⟩ := hv.form
  have hl := hv.len
  obtain ⟨n, hn⟩ : ∃ n, n = vs.length := ⟨_, rfl⟩
  rw [← hn] at hl hJ ⊢
  have HN := Lib.hid hn; have HJ := Lib.hid hJ
  clear hv hn hJ
  go_enter Tryd.func135, Tryd.ntmps135
  go_wp2
  go_loopw [9] (fun i wr => ∃ k : Nat, k ≤ n ∧ i = .int .i64 k ∧ Hid ((List.range k).all p = true) ∧ J k wr) (fun i _ => n - (intOf i).toNat)
  case atStart => exact ⟨0, Nat.zero_le _, rfl, rfl, h0⟩
  case round =>
    obtain ⟨k, hk, rfl, hr, hj⟩ := hrel
    by_cases hlt : k < n
    · obtain ⟨b, off, rfl, hc'⟩ := (HJ.out k wr hj).cell (i := k) (by have := HN.out; omega)
      have C := HP.out k wr (by have := HN.out; omega) hj
      obtain ⟨x, hx⟩ : ∃ x, x = vs[k]'(by have := HN.out; omega) := ⟨_, rfl⟩
      rw [← hx] at C hc'
      cases hpk : p k with
      | true =>
        have HS : Hid ((List.range (k + 1)).all p = true) := by show _ = _; rw [List.range_succ, List.all_append, hr.out]; simp [hpk]
        rw [hpk] at C
        have HC := Lib.hid C
        clear C hpk hr hx h0
        go_wp2_with fail
        refine HC.out.mono ?_
        rintro e w1 ⟨rfl, hj1⟩
        go_wp2
        go_roundw
        case rel => exact ⟨k + 1, by omega, by go_num, HS, hj1⟩
        case measure => simp [intOf]; omega
      | false =>
        have HS : Hid ((List.range n).all p = false) := by
          show _ = _
          refine (Bool.not_eq_true _).mp fun h => ?_
          rw [List.all_eq_true] at h
          have := h k (List.mem_range.2 hlt)
          rw [hpk] at this; cases this
        rw [hpk] at C
        have HC := Lib.hid C
        clear C hpk hr hx h0
        go_wp2_with fail
        refine HC.out.mono ?_
        rintro e w1 ⟨rfl, hj1⟩
        go_wp2
        go_ret
        exact ⟨ret_bool HS.out.symm, _, hj1⟩
    · have HS : Hid ((List.range n).all p = true) := by
        show _ = _; rw [show n = k by omega]; exact hr.out
      clear hr
      go_wp2
      go_ret
      exact ⟨ret_bool HS.out.symm, _, hj⟩

set_option maxRecDepth 100000 in
set_option maxHeartbeats 2000000 in
theorem everyL_st (v : Value) (vs : List Value) (g : Nat) (lb : Array Value) (p : Nat → Bool) (J : Nat → World → Prop) (w : World) (eg : ∀ args w, (callFunc g args).run Tryd.prog w = .ok (.enter g args) w)
    (hJ : ∀ k W, J k W → Rd W v vs) (h0 : J 0 w)
    (hp : ∀ k W, (h : k < vs.length) → J k W → Calls Tryd.prog g (#[vs[k]] ++ lb) W fun e W' => e = .returned (.bool (p k)) ∧ J (k + 1) W') :
    Calls Tryd.prog 105 #[v, .func (.func g) #[] lb] w fun e w' => e = .returned (.bool ((List.range vs.length).all p)) ∧ ∃ k, J k w' := by
  have HP := Lib.hid hp
  clear hp
  have hv := hJ 0 w h0
  obtain ⟨q, cap, rfl⟩ := hv.form
  have hl := hv.len
  obtain ⟨n, hn⟩ : ∃ n, n = vs.length := ⟨_, rfl⟩
  rw [← hn] at hl hJ ⊢
  have HN := Lib.hid hn; have HJ := Lib.hid hJ
  clear hv hn hJ
  go_enter Tryd.func105, Tryd.ntmps105
  go_wp2
  go_loopw [9] (fun i wr => ∃ k : Nat, k ≤ n ∧ i = .int .i64 k ∧ Hid ((List.range k).all p = true) ∧ J k wr) (fun i _ => n - (intOf i).toNat)
  case atStart => exact ⟨0, Nat.zero_le _, rfl, rfl, h0⟩
  case round =>
    obtain ⟨k, hk, rfl, hr, hj⟩ := hrel
    by_cases hlt : k < n
    · obtain ⟨b, off, rfl, hc'⟩ := (HJ.out k wr hj).cell (i := k) (by have := HN.out; omega)
      have C := HP.out k wr (by have := HN.out; omega) hj
      obtain ⟨x, hx⟩ : ∃ x, x = vs[k]'(by have := HN.out; omega) := ⟨_, rfl⟩
      rw [← hx] at C hc'
      cases hpk : p k with
      | true =>
        have HS : Hid ((List.range (k + 1)).all p = true) := by show _ = _; rw [List.range_succ, List.all_append, hr.out]; simp [hpk]
        rw [hpk] at C
        have HC := Lib.hid C
        clear C hpk hr hx h0
        go_wp2_with fail
        refine HC.out.mono ?_
        rintro e w1 ⟨rfl, hj1⟩
        go_wp2
        go_roundw
        case rel => exact ⟨k + 1, by omega, by go_num, HS, hj1⟩
        case measure => simp [intOf]; omega
      | false =>
        have HS : Hid ((List.range n).all p = false) := by
          show _ = _
          refine (Bool.not_eq_true _).mp fun h => ?_
          rw [List.all_eq_true] at h
          have := h k (List.mem_range.2 hlt)
          rw [hpk] at this; cases this
        rw [hpk] at C
        have HC := Lib.hid C
        clear C hpk hr hx h0
        go_wp2_with fail
        refine HC.out.mono ?_
        rintro e w1 ⟨rfl, hj1⟩
        go_wp2
        go_ret
        exact ⟨ret_bool HS.out.symm, _, hj1⟩
    · have HS : Hid ((List.range n).all p = true) := by
        show _ = _; rw [show n = k by omega]; exact hr.out
      clear hr
      go_wp2
      go_ret
      exact ⟨ret_bool HS.out.symm, _, hj⟩
end Go.Proofs.YtgbjelglifihnaaDoor.Or
