/- Contracts over texts in the reference: Check, Run; IsNumber. -/
import Derived.Test.YtlhbfgkcalalkaaGreatDoorWc
import Derived.Test.YtlhbfgkcalalkaaGreatDoorMa
set_option linter.unusedVariables false
set_option linter.unusedSimpArgs false
namespace Go.Proofs.YtlhbfgkcalalkaaGreatDoor
open Go.RowKit

set_option maxHeartbeats 400000 in
theorem check_any (s : ByteArray) (w : World) (hs : s.size ≤ maxLen) :
    Calls Tryz.prog 30 #[.string s] w fun e w' => e = .returned (.tuple #[.int .i64 (chkAt s.data.toList), .int .i64 (chkE s.data.toList)]) ∧ w = w' := by
  unfold maxLen at hs
  go_enter Tryz.func30, Tryz.ntmps30
  by_cases hlen : 2500 < s.size
  · have e1 : chkAt s.data.toList = 0 := by unfold chkAt; rw [if_pos (by simpa using hlen)]
    have e2 : chkE s.data.toList = 5 := by unfold chkE; rw [if_pos (by simpa using hlen)]
    have E1 := Lib.hid e1; have E2 := Lib.hid e2; clear e1 e2
    go_wp2
    go_ret2
    exact ⟨ret_int2 (by rw [E1.out]; rfl) (by rw [E2.out]; rfl), rfl⟩
  · go_wp2
    go_loop [4] (fun i => ∃ k : Nat, k ≤ s.size ∧ i = .int .i64 k ∧ Hid (∀ j (hj : j < k) (hj' : j < s.data.toList.length), cls (s.data.toList[j].toNat) ≠ 0)) (fun i => s.size - (intOf i).toNat)
    case atStart => exact ⟨0, Nat.zero_le _, rfl, fun j hj => by omega⟩
    case round =>
      obtain ⟨k, hk, rfl, hpre⟩ := hrel
      by_cases hlt : k < s.size
      · have fin : cls (s[k].toNat) = 0 → Hid (chkAt s.data.toList = k ∧ chkE s.data.toList = 4) := fun hc => by
          constructor
          · unfold chkAt; rw [if_neg (by simpa using hlen), bad_at s.data.toList k (by simpa using hlt) (fun j hj => hpre.out j hj _) hc, if_pos (by simpa using hlt)]
          · unfold chkE; rw [if_neg (by simpa using hlen), bad_at s.data.toList k (by simpa using hlt) (fun j hj => hpre.out j hj _) hc, if_pos (by simpa using hlt)]
        have go : cls (s[k].toNat) ≠ 0 → Hid (∀ j (hj : j < k + 1) (hj' : j < s.data.toList.length), cls (s.data.toList[j].toNat) ≠ 0) := fun hc j hj hj' => by
          by_cases e : j = k
          · subst e; exact hc
          · exact hpre.out j (by omega) hj'
        by_cases b10 : s[k].toNat = 10
        · have H' := go (by unfold cls; simp [b10]); clear go fin
          have hb : ((s[k].toNat : Int) != 10) = false := by simp [b10]
          have B := Lib.hid b10; clear b10
          go_wp2
          go_round
          case rel => exact ⟨k + 1, by omega, by go_num, H'⟩
          case measure => simp [intOf]; omega
        · have hb : ((s[k].toNat : Int) != 10) = true := by rw [bne_iff_ne]; omega
          by_cases blo : s[k].toNat < 32
          · have H' := fin (by unfold cls; grind); clear go fin
            have hb2 : decide ((s[k].toNat : Int) < 32) = true := by simp; omega
            have E1 := Lib.hid H'.out.1; have E2 := Lib.hid H'.out.2; clear H'
            go_wp2
            go_ret2
            exact ⟨ret_int2 (by rw [E1.out]) (by rw [E2.out]; rfl), rfl⟩
          · have hb2 : decide ((s[k].toNat : Int) < 32) = false := by simp; omega
            by_cases bhi : 126 < s[k].toNat
            · have H' := fin (by unfold cls; grind); clear go fin
              have hb3 : decide ((126 : Int) < (s[k].toNat : Int)) = true := by simp; omega
              have E1 := Lib.hid H'.out.1; have E2 := Lib.hid H'.out.2; clear H'
              go_wp2
              go_ret2
              exact ⟨ret_int2 (by rw [E1.out]) (by rw [E2.out]; rfl), rfl⟩
            · have hb3 : decide ((126 : Int) < (s[k].toNat : Int)) = false := by simp; omega
              have H' := go (by unfold cls; grind); clear go fin
              go_wp2
              go_round
              case rel => exact ⟨k + 1, by omega, by go_num, H'⟩
              case measure => simp [intOf]; omega
      · have hb : bad s.data.toList = s.data.toList.length := bad_none _ (fun j hj => hpre.out j (by have : s.data.toList.length = s.size := by simp
                                                                                                     omega) hj)
        have e1 : chkAt s.data.toList = 0 := by unfold chkAt; rw [if_neg (by simpa using hlen), hb, if_neg (by omega)]
        have e2 : chkE s.data.toList = 0 := by unfold chkE; rw [if_neg (by simpa using hlen), hb, if_neg (by omega)]
        have E1 := Lib.hid e1; have E2 := Lib.hid e2; clear e1 e2 hb
        go_wp2
        go_ret2
        exact ⟨ret_int2 (by rw [E1.out]; rfl) (by rw [E2.out]; rfl), rfl⟩

/-- The classes that Run passes over. -/
def runCls (letters : Bool) : List Nat := if letters then [2, 3] else [3]

set_option maxHeartbeats 400000 in
theorem run_any (s : ByteArray) (at_ : Nat) (letters : Bool) (w : World) (hs : s.size ≤ maxLen) (ha : at_ ≤ s.size) :
    Calls Tryz.prog 63 #[.string s, .int .i64 at_, .bool letters] w fun e w' => e = .returned (.int .i64 (pst (ofCls (runCls letters)) s.data.toList at_)) ∧ w = w' := by
  unfold maxLen at hs
  go_enter Tryz.func63, Tryz.ntmps63
  go_wp2
  go_loop [1] (fun i => ∃ k : Nat, k ≤ s.size ∧ i = .int .i64 k ∧ Hid (pst (ofCls (runCls letters)) s.data.toList k = pst (ofCls (runCls letters)) s.data.toList at_)) (fun i => s.size - (intOf i).toNat)
  case atStart => exact ⟨at_, ha, rfl, rfl⟩
  case round =>
    obtain ⟨k, hk, rfl, hpre⟩ := hrel
    by_cases hlt : k < s.size
    · have hl : k < s.data.toList.length := by simpa using hlt
      by_cases hc : ofCls (runCls letters) s[k] = true
      · have H' : Hid (pst (ofCls (runCls letters)) s.data.toList (k + 1) = pst (ofCls (runCls letters)) s.data.toList at_) := by
          show _ = _; rw [← hpre.out, pst_go _ _ k hl hc]
        by_cases h3 : cls (s[k].toNat) = 3
        · have HC := Lib.hid hc; clear hc
          go_wp2_with (first | (go_at_call 65; refine (isDigit_any _ _).mono ?_; rintro e w' ⟨rfl, rfl⟩) | (go_at_call 62; refine (isLetter_any _ _).mono ?_; rintro e w' ⟨rfl, rfl⟩))
          go_round
          case rel => exact ⟨k + 1, by omega, by go_num, H'⟩
          case measure => simp [intOf]; omega
        · have h2 : cls (s[k].toNat) = 2 ∧ letters = true := by cases letters <;> simp [ofCls, runCls] at hc <;> grind
          obtain ⟨h2, rfl⟩ := h2
          have HC := Lib.hid hc; clear hc
          go_wp2_with (first | (go_at_call 65; refine (isDigit_any _ _).mono ?_; rintro e w' ⟨rfl, rfl⟩) | (go_at_call 62; refine (isLetter_any _ _).mono ?_; rintro e w' ⟨rfl, rfl⟩))
          go_round
          case rel => exact ⟨k + 1, by omega, by go_num, H'⟩
          case measure => simp [intOf]; omega
      · have H' : Hid (pst (ofCls (runCls letters)) s.data.toList at_ = k) := by
          show _ = _; rw [← hpre.out, pst_stop _ _ k hl ((Bool.not_eq_true _).mp hc)]
        have h3 : ¬ cls (s[k].toNat) = 3 := by intro h3; apply hc; cases letters <;> simp [ofCls, runCls, h3]
        cases letters
        · have HC := Lib.hid hc; clear hc
          go_wp2_with (first | (go_at_call 65; refine (isDigit_any _ _).mono ?_; rintro e w' ⟨rfl, rfl⟩) | (go_at_call 62; refine (isLetter_any _ _).mono ?_; rintro e w' ⟨rfl, rfl⟩))
          go_ret
          exact ⟨ret_int (by rw [H'.out]), rfl⟩
        · have h2 : ¬ cls (s[k].toNat) = 2 := by intro h2; apply hc; simp [ofCls, runCls, h2]
          have HC := Lib.hid hc; clear hc
          go_wp2_with (first | (go_at_call 65; refine (isDigit_any _ _).mono ?_; rintro e w' ⟨rfl, rfl⟩) | (go_at_call 62; refine (isLetter_any _ _).mono ?_; rintro e w' ⟨rfl, rfl⟩))
          go_ret
          exact ⟨ret_int (by rw [H'.out]), rfl⟩
    · have H' : Hid (pst (ofCls (runCls letters)) s.data.toList at_ = k) := by
        show _ = _; rw [← hpre.out, pst_end _ _ k (by simpa using hlt)]
      go_wp2
      go_ret
      exact ⟨ret_int (by rw [H'.out]), rfl⟩


set_option maxHeartbeats 400000 in
theorem isNumber_any (s : ByteArray) (w : World) (hs : s.size ≤ maxLen) :
    Calls Tryz.prog 66 #[.string s] w fun e w' => e = .returned (.bool (isNum s.data.toList)) ∧ w = w' := by
  unfold maxLen at hs
  by_cases h1 : s.data.toList = [48]
  · have hf : Hid (isNum s.data.toList = true) := by show _ = _; rw [h1]; decide
    have h1' : s.toList = [48] := by rw [ByteArray.toList_eq]; exact h1
    clear h1
    go_enter Tryz.func66, Tryz.ntmps66
    go_wp2
    go_ret
    exact ⟨ret_bool (by rw [hf.out]), rfl⟩
  · have h1' : ¬ s.toList = [48] := by rw [ByteArray.toList_eq]; exact h1
    by_cases h2 : s.data.toList = []
    · have hf : Hid (isNum s.data.toList = false) := by show _ = _; rw [h2]; decide
      have h2' : s.toList = [] := by rw [ByteArray.toList_eq]; exact h2
      clear h1 h2
      go_enter Tryz.func66, Tryz.ntmps66
      go_wp2
      all_goals go_ret
      all_goals exact ⟨ret_bool (by rw [hf.out]), rfl⟩
    · have h2' : ¬ s.toList = [] := by rw [ByteArray.toList_eq]; exact h2
      have hpos : 0 < s.size := by
        have h5 : s.data.toList.length ≠ 0 := fun e => h2 (List.length_eq_zero_iff.1 e)
        have h6 : s.data.toList.length = s.size := by simp
        omega
      have hhd : s.data.toList.head? = some s[0] := by
        rw [List.head?_eq_getElem?, List.getElem?_eq_getElem (by simpa using hpos)]; rfl
      by_cases h3 : s[0].toNat = 48
      · have hf : Hid (isNum s.data.toList = false) := by
          show _ = _; unfold isNum; rw [hhd, show s[0] = 48 from UInt8.toNat_inj.1 h3]; rw [decide_eq_false h1]; simp
        clear h1 h2 hhd
        go_enter Tryz.func66, Tryz.ntmps66
        go_wp2
        all_goals go_ret
        all_goals exact ⟨ret_bool (by rw [hf.out]; simp [h1']), rfl⟩
      · have hn : ¬ s[0] = 48 := fun e => h3 (by rw [e]; rfl)
        by_cases h4 : s.size < 10
        · have hf : Hid (isNum s.data.toList = true) := by
            show _ = _; unfold isNum; rw [hhd, decide_eq_false h1, decide_eq_true h2, decide_eq_true (show s.data.toList.length < 10 by simpa using h4)]; simp [hn]
          clear h1 h2 hhd
          go_enter Tryz.func66, Tryz.ntmps66
          go_wp2
          all_goals go_ret
          all_goals exact ⟨ret_bool (by rw [hf.out]), rfl⟩
        · have hf : Hid (isNum s.data.toList = decide (s.toList = [49, 48, 48, 48, 48, 48, 48, 48, 48, 48])) := by
            show _ = _; rw [ByteArray.toList_eq]; unfold isNum; rw [hhd, decide_eq_false h1, decide_eq_true h2, decide_eq_false (show ¬ s.data.toList.length < 10 by simpa using h4)]; simp [hn]
          clear h1 h2 hhd
          go_enter Tryz.func66, Tryz.ntmps66
          go_wp2
          all_goals go_ret
          all_goals exact ⟨ret_bool (by rw [hf.out]; first | (simp [h1', h2', h3, h4]; done) | grind), rfl⟩
end Go.Proofs.YtlhbfgkcalalkaaGreatDoor
