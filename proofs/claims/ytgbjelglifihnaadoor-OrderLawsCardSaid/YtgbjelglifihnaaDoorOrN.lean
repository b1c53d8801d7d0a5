/- Contracts of isName, namesTable, slices.Contains at texts, distinct. -/
import Derived.Test.YtgbjelglifihnaaDoorOrP1
set_option linter.unusedVariables false
set_option linter.unusedSimpArgs false
namespace Go.Proofs.YtgbjelglifihnaaDoor.Or
open Go.RowKit

theorem w32 (c : Nat) (h : c < 256) : wrap32 (c : Int) = c := by unfold wrap32; omega

set_option maxRecDepth 100000 in
set_option maxHeartbeats 2000000 in
theorem isName_any (l : List UInt8) (w : World) (hs : l.length ≤ 281474976710656) :
    Calls Tryd.prog 104 #[.string (mkS l)] w fun e w' => e = .returned (.bool (nameF l)) ∧ Below w.heap.size w w' := by
  have hsz : (mkS l).size = l.length := mkS_size l
  have hsm : (mkS l).size ≤ 281474976710656 := by omega
  by_cases h0 : l.length < 1
  · have hF : Hid (nameF l = false) := by show _ = _; unfold nameF; rw [decide_eq_false (show ¬ 1 ≤ l.length by omega)]; simp
    have g1 : decide ((mkS l).size < 1) = true := decide_eq_true (by omega)
    have g2 : (mkS l).size = 0 := by omega
    have g3 : l = [] := List.length_eq_zero_iff.1 (by omega)
    subst g3
    clear hsz hsm g1 g2 h0
    go_enter Tryd.func104, Tryd.ntmps104
    go_wp2
    go_ret
    exact ⟨ret_bool (by rw [hF.out]), Below.refl _ _⟩
  · by_cases h1 : 12 < l.length
    · have hF : Hid (nameF l = false) := by show _ = _; unfold nameF; rw [decide_eq_false (show ¬ l.length ≤ 12 by omega)]; simp
      have g1 : decide (((mkS l).size : Int) < 1) = false := decide_eq_false (by omega)
      have g2 : decide ((12 : Int) < ((mkS l).size : Int)) = true := decide_eq_true (by omega)
      clear hsz hsm h0 h1
      go_enter Tryd.func104, Tryd.ntmps104
      go_wp2
      go_ret
      exact ⟨ret_bool (by rw [hF.out]), Below.refl _ _⟩
    · have g1 : decide (((mkS l).size : Int) < 1) = false := decide_eq_false (by omega)
      have g2 : decide ((12 : Int) < ((mkS l).size : Int)) = false := decide_eq_false (by omega)
      have g3 : 0 < (mkS l).size := by omega
      have hg := mkS_get l 0 g3
      obtain ⟨c, hc⟩ : ∃ c : Nat, c = (mkS l)[0].toNat := ⟨_, rfl⟩
      have hcv : (l.getD 0 0).toNat = c := by rw [hc, hg]
      have HC := Lib.hid hc
      have hcb : c < 256 := by rw [hc]; exact UInt8.toNat_lt _
      have hF : nameF l = (letN c && decide (wendF l = l.length)) := by
        unfold nameF
        rw [hcv, decide_eq_true (show 1 ≤ l.length by omega), decide_eq_true (show l.length ≤ 12 by omega)]
        simp only [Bool.true_and]
        congr 1
        rw [Bool.eq_iff_iff, decide_eq_true_eq]; exact (wend_all l).symm
      have CW : Hid (∀ W, Calls Tryd.prog 134 #[.string (mkS l)] W fun e w' => e = .returned (.int .i64 (wendF l)) ∧ Below W.heap.size W w') := fun W => wordEnd_any l W hs
      cases hl : letN c with
      | true =>
        have CL : Hid (∀ W, Calls Tryd.prog 133 #[.int .i32 (wrap32 (((mkS l)[0].toNat : Nat) : Int))] W fun e w' => e = .returned (.bool true) ∧ W = w') := fun W => by rw [← hc, w32 c hcb]; have := isLetter_any c W; rw [hl] at this; exact this
        rw [hl, Bool.true_and] at hF
        have hq : (((wendF l : Nat) : Int) == (((mkS l).size : Nat) : Int)) = nameF l := by
          rw [hF, hsz, Bool.eq_iff_iff, beq_iff_eq, decide_eq_true_eq]; omega
        obtain ⟨W0, hW0⟩ : ∃ W0, W0 = wendF l := ⟨_, rfl⟩
        rw [← hW0] at CW hq
        have HQ := Lib.hid hq
        clear hsz hsm h0 h1 hc hcv hF hl hg hq hW0 hs
        go_enter Tryd.func104, Tryd.ntmps104
        go_wp2_with fail
        refine (CL.out _).mono ?_
        rintro e w' ⟨rfl, rfl⟩
        go_wp2_with fail
        refine (CW.out _).mono ?_
        rintro e w' ⟨rfl, hb⟩
        go_wp2
        go_ret
        exact ⟨ret_bool HQ.out, hb⟩
      | false =>
        have CL : Hid (∀ W, Calls Tryd.prog 133 #[.int .i32 (wrap32 (((mkS l)[0].toNat : Nat) : Int))] W fun e w' => e = .returned (.bool false) ∧ W = w') := fun W => by rw [← hc, w32 c hcb]; have := isLetter_any c W; rw [hl] at this; exact this
        rw [hl, Bool.false_and] at hF
        have HF := Lib.hid hF
        clear hsz hsm h0 h1 hc hcv hF hl hg hs CW
        go_enter Tryd.func104, Tryd.ntmps104
        go_wp2_with fail
        refine (CL.out _).mono ?_
        rintro e w' ⟨rfl, rfl⟩
        go_wp2
        go_ret
        exact ⟨ret_bool HF.out.symm, Below.refl _ _⟩

set_option maxRecDepth 100000 in
set_option maxHeartbeats 2000000 in
theorem index_any (v : Value) (ls : List (List UInt8)) (s : List UInt8) (w : World) (hv : RdS w v ls) :
    Calls Tryd.prog 144 #[v, .string (mkS s)] w fun e w' => e = .returned (.int .i64 (findF ls s)) ∧ w = w' := by
  obtain ⟨p, cap, rfl⟩ := hv.form
  have hln := hv.len
  have HV := Lib.hid hv
  obtain ⟨n, hn⟩ : ∃ n, n = ls.length := ⟨_, rfl⟩
  rw [← hn] at HV hln ⊢
  have HN := Lib.hid hn
  clear hv hn
  go_enter Tryd.func144, Tryd.ntmps144
  go_wp2
  go_loop [8] (fun i => ∃ k : Nat, k ≤ n ∧ i = .int .i64 k ∧ Hid (s ∉ ls.take k)) (fun i => n - (intOf i).toNat)
  case atStart => exact ⟨0, Nat.zero_le _, rfl, by show _ ∉ _; simp⟩
  case round =>
    obtain ⟨k, hk, rfl, hr⟩ := hrel
    by_cases hlt : k < n
    · obtain ⟨b, off, rfl, hc⟩ := HV.out.cell (i := k) (by have := HN.out; omega)
      obtain ⟨x, hx⟩ : ∃ x, x = ls.getD k [] := ⟨_, rfl⟩
      rw [← hx] at hc
      by_cases he : s = x
      · have hF : Hid (findF ls s = k) := find_at (by have := HN.out; omega) (by rw [← hx, he]) hr.out
        have hq : ((mkS s).toList == (mkS x).toList) = true := by rw [he]; simp
        have hq' : (mkS s).toList = (mkS x).toList := by rw [he]
        clear hr he hx
        go_wp2
        go_ret
        exact ⟨ret_int (by rw [hF.out]), rfl⟩
      · have hF : Hid (s ∉ ls.take (k + 1)) := by
          show _ ∉ _
          intro hm
          rw [List.take_succ_eq_append_getElem (by have := HN.out; omega), List.mem_append] at hm
          rcases hm with hm | hm
          · exact hr.out hm
          · rw [List.mem_singleton] at hm
            exact he (by rw [hm, hx]; simp [List.getD_eq_getElem?_getD, show k < ls.length by have := HN.out; omega])
        have hq : ((mkS s).toList == (mkS x).toList) = false := by rw [beq_eq_false_iff_ne]; intro h; exact he (mkS_tl.1 h)
        have hq' : ¬ (mkS s).toList = (mkS x).toList := fun h => he (mkS_tl.1 h)
        clear hr he hx
        go_wp2
        go_round
        case rel => exact ⟨k + 1, by omega, by go_num, hF⟩
        case measure => simp [intOf]; omega
    · have hF : Hid (findF ls s = -1) := by
        refine find_no ?_
        have := hr.out
        rwa [List.take_of_length_le (by have := HN.out; omega)] at this
      clear hr
      go_wp2
      go_ret
      exact ⟨ret_int (by rw [hF.out]), rfl⟩
set_option maxRecDepth 100000 in
set_option maxHeartbeats 2000000 in
theorem contains_any (v : Value) (ls : List (List UInt8)) (s : List UInt8) (w : World) (hv : RdS w v ls) :
    Calls Tryd.prog 125 #[v, .string (mkS s)] w fun e w' => e = .returned (.bool (ls.contains s)) ∧ w = w' := by
  have C := index_any v ls s w hv
  have hq : decide ((0 : Int) ≤ findF ls s) = ls.contains s := by
    rcases find_cases ls s with ⟨h1, h2⟩ | ⟨k, k1, k2, k3, k4⟩
    · rw [h1, List.contains_eq_mem, decide_eq_false h2]; rfl
    · rw [k2, List.contains_eq_mem, decide_eq_true (show s ∈ ls by rw [← k3]; simp [List.getD_eq_getElem?_getD, k1])]; exact decide_eq_true (by omega)
  obtain ⟨r, hr⟩ : ∃ r, r = findF ls s := ⟨_, rfl⟩
  rw [← hr] at C hq
  have HQ := Lib.hid hq; have HC := Lib.hid C
  clear hq hr C
  obtain ⟨p, cap, rfl⟩ := hv.form
  clear hv
  go_enter Tryd.func125, Tryd.ntmps125
  go_wp2_with fail
  refine HC.out.mono ?_
  rintro e w' ⟨rfl, rfl⟩
  go_wp2
  go_ret
  exact ⟨ret_bool HQ.out, rfl⟩

set_option maxRecDepth 100000 in
set_option maxHeartbeats 2000000 in
theorem distinct_any (v : Value) (ls : List (List UInt8)) (w : World) (hv : RdS w v ls) :
    Calls Tryd.prog 88 #[v] w fun e w' => e = .returned (.bool (distF ls)) ∧ w = w' := by
  obtain ⟨p, cap, rfl⟩ := hv.form
  have hln := hv.len
  have HV := Lib.hid hv
  have hcap : ls.length ≤ cap := hv.capE.2
  obtain ⟨n, hn⟩ : ∃ n, n = ls.length := ⟨_, rfl⟩
  rw [← hn] at HV hln hcap ⊢
  have HN := Lib.hid hn
  clear hv hn
  go_enter Tryd.func88, Tryd.ntmps88
  go_wp2
  go_loop [7] (fun i => ∃ k : Nat, k ≤ n ∧ i = .int .i64 k ∧ Hid ((List.range k).all (fun i => !(ls.take i).contains (ls.getD i [])) = true)) (fun i => n - (intOf i).toNat)
  case atStart => exact ⟨0, Nat.zero_le _, rfl, rfl⟩
  case round =>
    obtain ⟨k, hk, rfl, hr⟩ := hrel
    by_cases hlt : k < n
    · obtain ⟨b, off, rfl, hc⟩ := HV.out.cell (i := k) (by have := HN.out; omega)
      obtain ⟨x, hx⟩ : ∃ x, x = ls.getD k [] := ⟨_, rfl⟩
      rw [← hx] at hc
      have CC : Hid (Calls Tryd.prog 125 #[.slice (some ⟨b, off, none⟩) k cap, .string (mkS x)] w fun e w' => e = .returned (.bool ((ls.take k).contains x)) ∧ w = w') :=
        contains_any _ _ _ w (by have := Rd.take HV.out (k := k) (by omega); rw [← List.map_take] at this; exact this)
      have hstep : (List.range (k + 1)).all (fun i => !(ls.take i).contains (ls.getD i [])) = !(ls.take k).contains x := by
        rw [List.range_succ, List.all_append, hr.out, hx]; simp
      cases hq : (ls.take k).contains x with
      | true =>
        have hF : Hid (distF ls = false) := by
          show _ = _
          unfold distF
          rw [← HN.out]
          refine (Bool.not_eq_true _).mp fun h => ?_
          rw [List.all_eq_true] at h
          have := h k (List.mem_range.2 hlt)
          rw [← hx, hq] at this; cases this
        rw [hq] at CC
        clear hr hstep hq hx
        go_wp2_with fail
        refine CC.out.mono ?_
        rintro e w' ⟨rfl, rfl⟩
        go_wp2
        go_ret
        exact ⟨ret_bool hF.out.symm, rfl⟩
      | false =>
        rw [hq] at CC hstep
        have HS := Lib.hid hstep
        clear hr hstep hq hx
        go_wp2_with fail
        refine CC.out.mono ?_
        rintro e w' ⟨rfl, rfl⟩
        go_wp2
        go_round
        case rel => exact ⟨k + 1, by omega, by go_num, HS.out⟩
        case measure => simp [intOf]; omega
    · have hF : Hid (distF ls = true) := by
        show _ = _
        unfold distF
        rw [← HN.out, show n = k by omega]; exact hr.out
      clear hr
      go_wp2
      go_ret
      exact ⟨ret_bool hF.out.symm, rfl⟩

set_option maxRecDepth 100000 in
set_option maxHeartbeats 4000000 in
theorem namesTable_any (l : List UInt8) (w : World) (hs : l.length ≤ 281474976710656) (hL : LaidOk w) :
    Calls Tryd.prog 102 #[.string (mkS l)] w fun e w' => e = .returned (.bool (tnameF l)) ∧ Below w.heap.size w w' := by
  have hw := fun i hi => hL.words i hi
  have g0 := hw 0 (by decide); have g1 := hw 1 (by decide); have g2 := hw 2 (by decide); have g3 := hw 3 (by decide); have g4 := hw 4 (by decide); have g5 := hw 5 (by decide); have g6 := hw 6 (by decide); have g7 := hw 7 (by decide)
  simp only [shapeWords, List.getD_cons_zero, List.getD_cons_succ] at g0 g1 g2 g3 g4 g5 g6 g7
  have CN : Hid (∀ W, Calls Tryd.prog 104 #[.string (mkS l)] W fun e w' => e = .returned (.bool (nameF l)) ∧ Below W.heap.size W w') := fun W => isName_any l W hs
  clear hw hL hs
  have i0 : ∀ W, (Instr.index 145 (.agg #[Value.string (mkS []), Value.string (mkS [102, 108, 97, 103]), Value.string (mkS [109, 97, 120]), Value.string (mkS [115, 101, 116]), Value.string (mkS [111, 110, 99, 101]), Value.string (mkS []), Value.string (mkS [109, 97, 112]), Value.string (mkS [112, 97, 105, 114])]) (.int .i64 0)).run Tryd.prog W = .ok (.string (mkS [])) W := fun _ => by kernel_rfl
  have i1 : ∀ W, (Instr.index 145 (.agg #[Value.string (mkS []), Value.string (mkS [102, 108, 97, 103]), Value.string (mkS [109, 97, 120]), Value.string (mkS [115, 101, 116]), Value.string (mkS [111, 110, 99, 101]), Value.string (mkS []), Value.string (mkS [109, 97, 112]), Value.string (mkS [112, 97, 105, 114])]) (.int .i64 1)).run Tryd.prog W = .ok (.string (mkS [102, 108, 97, 103])) W := fun _ => by kernel_rfl
  have i2 : ∀ W, (Instr.index 145 (.agg #[Value.string (mkS []), Value.string (mkS [102, 108, 97, 103]), Value.string (mkS [109, 97, 120]), Value.string (mkS [115, 101, 116]), Value.string (mkS [111, 110, 99, 101]), Value.string (mkS []), Value.string (mkS [109, 97, 112]), Value.string (mkS [112, 97, 105, 114])]) (.int .i64 2)).run Tryd.prog W = .ok (.string (mkS [109, 97, 120])) W := fun _ => by kernel_rfl
  have i3 : ∀ W, (Instr.index 145 (.agg #[Value.string (mkS []), Value.string (mkS [102, 108, 97, 103]), Value.string (mkS [109, 97, 120]), Value.string (mkS [115, 101, 116]), Value.string (mkS [111, 110, 99, 101]), Value.string (mkS []), Value.string (mkS [109, 97, 112]), Value.string (mkS [112, 97, 105, 114])]) (.int .i64 3)).run Tryd.prog W = .ok (.string (mkS [115, 101, 116])) W := fun _ => by kernel_rfl
  have i4 : ∀ W, (Instr.index 145 (.agg #[Value.string (mkS []), Value.string (mkS [102, 108, 97, 103]), Value.string (mkS [109, 97, 120]), Value.string (mkS [115, 101, 116]), Value.string (mkS [111, 110, 99, 101]), Value.string (mkS []), Value.string (mkS [109, 97, 112]), Value.string (mkS [112, 97, 105, 114])]) (.int .i64 4)).run Tryd.prog W = .ok (.string (mkS [111, 110, 99, 101])) W := fun _ => by kernel_rfl
  have i5 : ∀ W, (Instr.index 145 (.agg #[Value.string (mkS []), Value.string (mkS [102, 108, 97, 103]), Value.string (mkS [109, 97, 120]), Value.string (mkS [115, 101, 116]), Value.string (mkS [111, 110, 99, 101]), Value.string (mkS []), Value.string (mkS [109, 97, 112]), Value.string (mkS [112, 97, 105, 114])]) (.int .i64 5)).run Tryd.prog W = .ok (.string (mkS [])) W := fun _ => by kernel_rfl
  have i6 : ∀ W, (Instr.index 145 (.agg #[Value.string (mkS []), Value.string (mkS [102, 108, 97, 103]), Value.string (mkS [109, 97, 120]), Value.string (mkS [115, 101, 116]), Value.string (mkS [111, 110, 99, 101]), Value.string (mkS []), Value.string (mkS [109, 97, 112]), Value.string (mkS [112, 97, 105, 114])]) (.int .i64 6)).run Tryd.prog W = .ok (.string (mkS [109, 97, 112])) W := fun _ => by kernel_rfl
  have i7 : ∀ W, (Instr.index 145 (.agg #[Value.string (mkS []), Value.string (mkS [102, 108, 97, 103]), Value.string (mkS [109, 97, 120]), Value.string (mkS [115, 101, 116]), Value.string (mkS [111, 110, 99, 101]), Value.string (mkS []), Value.string (mkS [109, 97, 112]), Value.string (mkS [112, 97, 105, 114])]) (.int .i64 7)).run Tryd.prog W = .ok (.string (mkS [112, 97, 105, 114])) W := fun _ => by kernel_rfl
  go_enter Tryd.func102, Tryd.ntmps102
  go_wp2
  go_loop [6] (fun i => ∃ k : Nat, k ≤ 8 ∧ i = .int .i64 k ∧ Hid (l ∉ shapeWords.take k)) (fun i => 8 - (intOf i).toNat)
  case atStart => exact ⟨0, Nat.zero_le _, rfl, by show _ ∉ _; simp⟩
  case round =>
    obtain ⟨k, hk, rfl, hr⟩ := hrel
    by_cases hlt : k < 8
    · obtain ⟨x, hx⟩ : ∃ x, x = shapeWords.getD k [] := ⟨_, rfl⟩
      have yes : l = x → Hid (tnameF l = false) := fun he => by
        show _ = _
        rw [tname_words]
        have : shapeWords.contains l = true := by rw [List.contains_eq_mem, decide_eq_true_eq, he, hx]; simp [List.getD_eq_getElem?_getD, show k < shapeWords.length from hlt]
        rw [this]; rfl
      have no : l ≠ x → Hid (l ∉ shapeWords.take (k + 1)) := fun he => by
        show _ ∉ _
        intro hm
        rw [List.take_succ_eq_append_getElem (by exact hlt), List.mem_append] at hm
        rcases hm with hm | hm
        · exact hr.out hm
        · rw [List.mem_singleton] at hm
          exact he (by rw [hm, hx, List.getD_eq_getElem?_getD, List.getElem?_eq_getElem (show k < shapeWords.length from hlt)]; rfl)
      have hkk : k = 0 ∨ k = 1 ∨ k = 2 ∨ k = 3 ∨ k = 4 ∨ k = 5 ∨ k = 6 ∨ k = 7 := by omega
      by_cases he : l = x
      · have hF := yes he
        clear yes no hr hlt hk
        rcases hkk with rfl | rfl | rfl | rfl | rfl | rfl | rfl | rfl
        all_goals
          simp only [shapeWords, List.getD_cons_zero, List.getD_cons_succ] at hx
          subst hx
          subst he
          go_wp2
          go_ret
          exact ⟨ret_bool hF.out.symm, Below.refl _ _⟩
      · have hF := no he
        have hq : ((mkS l).toList == (mkS x).toList) = false := by rw [beq_eq_false_iff_ne]; intro h; exact he (mkS_tl.1 h)
        have hq' : ¬ (mkS l).toList = (mkS x).toList := fun h => he (mkS_tl.1 h)
        clear yes no he hr hlt hk
        rcases hkk with rfl | rfl | rfl | rfl | rfl | rfl | rfl | rfl
        all_goals
          simp only [shapeWords, List.getD_cons_zero, List.getD_cons_succ] at hx
          subst hx
          go_wp2
          go_round
          case rel => exact ⟨_, by decide, by first | rfl | go_num, hF⟩
          case measure => simp [intOf]
    · have hF : Hid (tnameF l = nameF l) := by
        show _ = _
        rw [tname_words]
        have h := hr.out
        rw [List.take_of_length_le (by show 8 ≤ k; omega)] at h
        have : shapeWords.contains l = false := by rw [List.contains_eq_mem]; exact decide_eq_false h
        rw [this]; rfl
      clear hr
      go_wp2_with fail
      refine (CN.out _).mono ?_
      rintro e w' ⟨rfl, hb⟩
      go_wp2
      go_ret
      exact ⟨ret_bool hF.out.symm, hb⟩
end Go.Proofs.YtgbjelglifihnaaDoor.Or
