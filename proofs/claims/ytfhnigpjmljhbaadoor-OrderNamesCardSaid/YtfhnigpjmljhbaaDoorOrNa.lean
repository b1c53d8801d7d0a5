import Derived.Test.YtfhnigpjmljhbaaDoorOrP1
/- Contracts of isName, namesTable, slices.Contains at texts, distinct. -/
set_option linter.unusedVariables false
set_option linter.unusedSimpArgs false
namespace Go.Proofs.YtfhnigpjmljhbaaDoor.Or
open Go.RowKit

theorem w32 (c : Nat) (h : c < 256) : wrap32 (c : Int) = c := by unfold wrap32; omega

set_option maxRecDepth 100000 in
set_option maxHeartbeats 2000000 in
theorem isName_any (l : List UInt8) (w : World) (hs : l.length ≤ 281474976710656) :
    Calls Tryd.prog 87 #[.string (mkS l)] w fun e w' => e = .returned (.bool (nameF l)) ∧ Below w.heap.size w w' := by
  have hsz : (mkS l).size = l.length := mkS_size l
  have hsm : (mkS l).size ≤ 281474976710656 := by omega
  by_cases h0 : l.length < 1
  · have hF : Hid (nameF l = false) := by show _ = _; unfold nameF; rw [decide_eq_false (show ¬ 1 ≤ l.length by omega)]; simp
    have g1 : decide ((mkS l).size < 1) = true := decide_eq_true (by omega)
    have g2 : (mkS l).size = 0 := by omega
    have g3 : l = [] := List.length_eq_zero_iff.1 (by omega)
    subst g3
    clear hsz hsm g1 g2 h0
    go_enter Tryd.func87, Tryd.ntmps87
    go_wp2
    go_ret
    exact ⟨ret_bool (by rw [hF.out]), Below.refl _ _⟩
  · by_cases h1 : 12 < l.length
    · have hF : Hid (nameF l = false) := by show _ = _; unfold nameF; rw [decide_eq_false (show ¬ l.length ≤ 12 by omega)]; simp
      have g1 : decide (((mkS l).size : Int) < 1) = false := decide_eq_false (by omega)
      have g2 : decide ((12 : Int) < ((mkS l).size : Int)) = true := decide_eq_true (by omega)
      clear hsz hsm h0 h1
      go_enter Tryd.func87, Tryd.ntmps87
      go_wp2
      go_ret
      exact ⟨ret_bool (by rw [hF.out]), Below.refl _ _⟩
    · have g1 : decide (((mkS l).size : Int) < 1) = false := decide_eq_false (by omega)
      have g2 : decide ((12 : Int) < ((mkS l).size : Int)) = false := decide_eq_false (by omega)
      have g3 : 0 < (mkS l).size := by omega
      have hg := mkS_get l 0 g3
      obtain ⟨c, hc⟩ : ∃ c : Nat, c = (mkS l)[0].toNat := ⟨_, rfl⟩
      have hcv : (l.getD 0 0).toNat = c := by rw [hc, hg]
      have HC := Lib.hid hc
      have hcb : c < 256 := by rw [hc]; exact UInt8.toNat_lt _
      have hF : nameF l = (letN c && decide (wendF l = l.length)) := by
        unfold nameF
        rw [hcv, decide_eq_true (show 1 ≤ l.length by omega), decide_eq_true (show l.length ≤ 12 by omega)]
        simp only [Bool.true_and]
        congr 1
        rw [Bool.eq_iff_iff, decide_eq_true_eq]; exact (wend_all l).symm
      have CW : Hid (∀ W, Calls Tryd.prog 120 #[.string (mkS l)] W fun e w' => e = .returned (.int .i64 (wendF l)) ∧ Below W.heap.size W w') := fun W => wordEnd_any l W hs
      cases hl : letN c with
      | true =>
        have CL : Hid (∀ W, Calls Tryd.prog 119 #[.int .i32 (wrap32 (((mkS l)[0].toNat : Nat) : Int))] W fun e w' => e = .returned (.bool true) ∧ W = w') := fun W => by rw [← hc, w32 c hcb]; have := isLetter_any c W; rw [hl] at this; exact this
        rw [hl, Bool.true_and] at hF
        have hq : (((wendF l : Nat) : Int) == (((mkS l).size : Nat) : Int)) = nameF l := by
          rw [hF, hsz, Bool.eq_iff_iff, beq_iff_eq, decide_eq_true_eq]; omega
        obtain ⟨W0, hW0⟩ : ∃ W0, W0 = wendF l := ⟨_, rfl⟩
        rw [← hW0] at CW hq
        have HQ := Lib.hid hq
        clear hsz hsm h0 h1 hc hcv hF hl hg hq hW0 hs
        go_enter Tryd.func87, Tryd.ntmps87
        go_wp2_with fail
        refine (CL.out _).mono ?_
        rintro e w' ⟨rfl, rfl⟩
        go_wp2_with fail
        refine (CW.out _).mono ?_
        rintro e w' ⟨rfl, hb⟩
        go_wp2
        go_ret
        exact ⟨ret_bool HQ.out, hb⟩
      | false =>
        have CL : Hid (∀ W, Calls Tryd.prog 119 #[.int .i32 (wrap32 (((mkS l)[0].toNat : Nat) : Int))] W fun e w' => e = .returned (.bool false) ∧ W = w') := fun W => by rw [← hc, w32 c hcb]; have := isLetter_any c W; rw [hl] at this; exact this
        rw [hl, Bool.false_and] at hF
        have HF := Lib.hid hF
        clear hsz hsm h0 h1 hc hcv hF hl hg hs CW
        go_enter Tryd.func87, Tryd.ntmps87
        go_wp2_with fail
        refine (CL.out _).mono ?_
        rintro e w' ⟨rfl, rfl⟩
        go_wp2
        go_ret
        exact ⟨ret_bool HF.out.symm, Below.refl _ _⟩

set_option maxRecDepth 100000 in
set_option maxHeartbeats 2000000 in
theorem index_any (v : Value) (ls : List (List UInt8)) (s : List UInt8) (w : World) (hv : RdS w v ls) :
    Calls Tryd.prog 122 #[v, .string (mkS s)] w fun e w' => e = .returned (.int .i64 (findF ls s)) ∧ w = w' := by
  obtain ⟨p, cap, rfl⟩ := hv.form
  have hln := hv.len
  have HV := Lib.hid hv
  obtain ⟨n, hn⟩ : ∃ n, n = ls.length := ⟨_, rfl⟩
  rw [← hn] at HV hln ⊢
  have HN := Lib.hid hn
  clear hv hn
  go_enter Tryd.func122, Tryd.ntmps122
  go_wp2
  go_loop [8] (fun i => ∃ k : Nat, k ≤ n ∧ i = .int .i64 k ∧ Hid (s ∉ ls.take k)) (fun i => n - (intOf i).toNat)
  case atStart => exact ⟨0, Nat.zero_le _, rfl, by show _ ∉ _; simp⟩
  case round =>
    obtain ⟨k, hk, rfl, hr⟩ := hrel
    by_cases hlt : k < n
    · obtain ⟨b, off, rfl, hc⟩ := HV.out.cell (i := k) (by have := HN.out; omega)
      obtain ⟨x, hx⟩ : ∃ x, x = ls.getD k [] := ⟨_, rfl⟩
      rw [← hx] at hc
      by_cases he : s = x
      · have hF : Hid (findF ls s = k) := find_at (by have := HN.out; omega) (by rw [← hx, he]) hr.out
        have hq : ((mkS s).toList == (mkS x).toList) = true := by rw [he]; simp
        have hq' : (mkS s).toList = (mkS x).toList := by rw [he]
        clear hr he hx
        go_wp2
        go_ret
        exact ⟨ret_int (by rw [hF.out]), rfl⟩
      · have hF : Hid (s ∉ ls.take (k + 1)) := by
          show _ ∉ _
          intro hm
          rw [List.take_succ_eq_append_getElem (by have := HN.out; omega), List.mem_append] at hm
          rcases hm with hm | hm
          · exact hr.out hm
          · rw [List.mem_singleton] at hm
            exact he (by rw [hm, hx]; simp [List.getD_eq_getElem?_getD, show k < ls.length by have := HN.out; omega])
        have hq : ((mkS s).toList == (mkS x).toList) = false := by rw [beq_eq_false_iff_ne]; intro h; exact he (mkS_tl.1 h)
        have hq' : ¬ (mkS s).toList = (mkS x).toList := fun h => he (mkS_tl.1 h)
        clear hr he hx
        go_wp2
        go_round
        case rel => exact ⟨k + 1, by omega, by go_num, hF⟩
        case measure => simp [intOf]; omega
    · have hF : Hid (findF ls s = -1) := by
        refine find_no ?_
        have := hr.out
        rwa [List.take_of_length_le (by have := HN.out; omega)] at this
      clear hr
      go_wp2
      go_ret
      exact ⟨ret_int (by rw [hF.out]), rfl⟩
set_option maxRecDepth 100000 in
set_option maxHeartbeats 2000000 in
theorem contains_any (v : Value) (ls : List (List UInt8)) (s : List UInt8) (w : World) (hv : RdS w v ls) :
    Calls Tryd.prog 93 #[v, .string (mkS s)] w fun e w' => e = .returned (.bool (ls.contains s)) ∧ w = w' := by
  have C := index_any v ls s w hv
  have hq : decide ((0 : Int) ≤ findF ls s) = ls.contains s := by
    rcases find_cases ls s with ⟨h1, h2⟩ | ⟨k, k1, k2, k3, k4⟩
    · rw [h1, List.contains_eq_mem, decide_eq_false h2]; rfl
    · rw [k2, List.contains_eq_mem, decide_eq_true (show s ∈ ls by rw [← k3]; simp [List.getD_eq_getElem?_getD, k1])]; exact decide_eq_true (by omega)
  obtain ⟨r, hr⟩ : ∃ r, r = findF ls s := ⟨_, rfl⟩
  rw [← hr] at C hq
  have HQ := Lib.hid hq; have HC := Lib.hid C
  clear hq hr C
  obtain ⟨p, cap, rfl⟩ := hv.form
  clear hv
  go_enter Tryd.func93, Tryd.ntmps93
  go_wp2_with fail
  refine HC.out.mono ?_
  rintro e w' ⟨rfl, rfl⟩
  go_wp2
  go_ret
  exact ⟨ret_bool HQ.out, rfl⟩

set_option maxRecDepth 100000 in
set_option maxHeartbeats 2000000 in
theorem distinct_any (v : Value) (ls : List (List UInt8)) (w : World) (hv : RdS w v ls) :
    Calls Tryd.prog 51 #[v] w fun e w' => e = .returned (.bool (distF ls)) ∧ w = w' := by
  obtain ⟨p, cap, rfl⟩ := hv.form
  have hln := hv.len
  have HV := Lib.hid hv
  have hcap : ls.length ≤ cap := hv.capE.2
  obtain ⟨n, hn⟩ : ∃ n, n = ls.length := ⟨_, rfl⟩
  rw [← hn] at HV hln hcap ⊢
  have HN := Lib.hid hn
  clear hv hn
  go_enter Tryd.func51, Tryd.ntmps51
  go_wp2
  go_loop [7] (fun i => ∃ k : Nat, k ≤ n ∧ i = .int .i64 k ∧ Hid ((List.range k).all (fun i => !(ls.take i).contains (ls.getD i [])) = true)) (fun i => n - (intOf i).toNat)
  case atStart => exact ⟨0, Nat.zero_le _, rfl, rfl⟩
  case round =>
    obtain ⟨k, hk, rfl, hr⟩ := hrel
    by_cases hlt : k < n
    · obtain ⟨b, off, rfl, hc⟩ := HV.out.cell (i := k) (by have := HN.out; omega)
      obtain ⟨x, hx⟩ : ∃ x, x = ls.getD k [] := ⟨_, rfl⟩
      rw [← hx] at hc
      have CC : Hid (Calls Tryd.prog 93 #[.slice (some ⟨b, off, none⟩) k cap, .string (mkS x)] w fun e w' => e = .returned (.bool ((ls.take k).contains x)) ∧ w = w') :=
        contains_any _ _ _ w (by have := Rd.take HV.out (k := k) (by omega); rw [← List.map_take] at this; exact this)
      have hstep : (List.range (k + 1)).all (fun i => !(ls.take i).contains (ls.getD i [])) = !(ls.take k).contains x := by
        rw [List.range_succ, List.all_append, hr.out, hx]; simp
      cases hq : (ls.take k).contains x with
      | true =>
        have hF : Hid (distF ls = false) := by
          show _ = _
          unfold distF
          rw [← HN.out]
          refine (Bool.not_eq_true _).mp fun h => ?_
          rw [List.all_eq_true] at h
          have := h k (List.mem_range.2 hlt)
          rw [← hx, hq] at this; cases this
        rw [hq] at CC
        clear hr hstep hq hx
        go_wp2_with fail
        refine CC.out.mono ?_
        rintro e w' ⟨rfl, rfl⟩
        go_wp2
        go_ret
        exact ⟨ret_bool hF.out.symm, rfl⟩
      | false =>
        rw [hq] at CC hstep
        have HS := Lib.hid hstep
        clear hr hstep hq hx
        go_wp2_with fail
        refine CC.out.mono ?_
        rintro e w' ⟨rfl, rfl⟩
        go_wp2
        go_round
        case rel => exact ⟨k + 1, by omega, by go_num, HS.out⟩
        case measure => simp [intOf]; omega
    · have hF : Hid (distF ls = true) := by
        show _ = _
        unfold distF
        rw [← HN.out, show n = k by omega]; exact hr.out
      clear hr
      go_wp2
      go_ret
      exact ⟨ret_bool hF.out.symm, rfl⟩

set_option maxRecDepth 100000 in
set_option maxHeartbeats 4000000 in
theorem namesTable_any (l : List UInt8) (w : World) (hs : l.length ≤ 281474976710656) (hL : LaidOk w) :
    Calls Tryd.prog 85 #[.string (mkS l)] w fun e w' => e = .returned (.bool (tnameF l)) ∧ Below w.heap.size w w' := by
  have hw := fun i hi => hL.words i hi
  have g0 := hw 0 (by decide); have g1 := hw 1 (by decide); have g2 := hw 2 (by decide); have g3 := hw 3 (by decide); have g4 := hw 4 (by decide); have g5 := hw 5 (by decide); have g6 := hw 6 (by decide); have g7 := hw 7 (by decide)
  simp only [shapeWords, List.getD_cons_zero, List.getD_cons_succ] at g0 g1 g2 g3 g4 g5 g6 g7
  have CN : Hid (∀ W, Calls Tryd.prog 87 #[.string (mkS l)] W fun e w' => e = .returned (.bool (nameF l)) ∧ Below W.heap.size W w') := fun W => isName_any l W hs
  clear hw hL hs
  have i0 : ∀ W, (Instr.index 123 (.agg #[Value.string (mkS []), Value.string (mkS [102, 108, 97, 103]), Value.string (mkS [109, 97, 120]), Value.string (mkS [115, 101, 116]), Value.string (mkS [111, 110, 99, 101]), Value.string (mkS []), Value.string (mkS [109, 97, 112]), Value.string (mkS [112, 97, 105, 114])]) (.int .i64 0)).run Tryd.prog W = .ok (.string (mkS [])) W := fun _ => by kernel_rfl
  have i1 : ∀ W, (Instr.index 123 (.agg #[Value.string (mkS []), Value.string (mkS [102, 108, 97, 103]), Value.string (mkS [109, 97, 120]), Value.string (mkS [115, 101, 116]), Value.string (mkS [111, 110, 99, 101]), Value.string (mkS []), Value.string (mkS [109, 97, 112]), Value.string (mkS [112, 97, 105, 114])]) (.int .i64 1)).run Tryd.prog W = .ok (.string (mkS [102, 108, 97, 103])) W := fun _ => by kernel_rfl
  have i2 : ∀ W, (Instr.index 123 (.agg #[Value.string (mkS []), Value.string (mkS [102, 108, 97, 103]), Value.string (mkS [109, 97, 120]), Value.string (mkS [115, 101, 116]), Value.string (mkS [111, 110, 99, 101]), Value.string (mkS []), Value.string (mkS [109, 97, 112]), Value.string (mkS [112, 97, 105, 114])]) (.int .i64 2)).run Tryd.prog W = .ok (.string (mkS [109, 97, 120])) W := fun _ => by kernel_rfl
  have i3 : ∀ W, (Instr.index 123 (.agg #[Value.string (mkS []), Value.string (mkS [102, 108, 97, 103]), Value.string (mkS [109, 97, 120]), Value.string (mkS [115, 101, 116]), Value.string (mkS [111, 110, 99, 101]), Value.string (mkS []), Value.string (mkS [109, 97, 112]), Value.string (mkS [112, 97, 105, 114])]) (.int .i64 3)).run Tryd.prog W = .ok (.string (mkS [115, 101, 116])) W := fun _ => by kernel_rfl
  have i4 : ∀ W, (Instr.index 123 (.agg #[Value.string (mkS []), Value.string (mkS [102, 108, 97, 103]), Value.string (mkS [109, 97, 120]), Value.string (mkS [115, 101, 116]), Value.string (mkS [111, 110, 99, 101]), Value.string (mkS []), Value.string (mkS [109, 97, 112]), Value.string (mkS [112, 97, 105, 114])]) (.int .i64 4)).run Tryd.prog W = .ok (.string (mkS [111, 110, 99, 101])) W := fun _ => by kernel_rfl
  have i5 : ∀ W, (Instr.index 123 (.agg #[Value.string (mkS []), Value.string (mkS [102, 108, 97, 103]), Value.string (mkS [109, 97, 120]), Value.string (mkS [115, 101, 116]), Value.string (mkS [111, 110, 99, 101]), Value.string (mkS []), Value.string (mkS [109, 97, 112]), Value.string (mkS [112, 97, 105, 114])]) (.int .i64 5)).run Tryd.prog W = .ok (.string (mkS [])) W := fun _ => by kernel_rfl
  have i6 : ∀ W, (Instr.index 123 (.agg #[Value.string (mkS []), Value.string (mkS [102, 108, 97, 103]), Value.string (mkS [109, 97, 120]), Value.string (mkS [115, 101, 116]), Value.string (mkS [111, 110, 99, 101]), Value.string (mkS []), Value.string (mkS [109, 97, 112]), Value.string (mkS [112, 97, 105, 114])]) (.int .i64 6)).run Tryd.prog W = .ok (.string (mkS [109, 97, 112])) W := fun _ => by kernel_rfl
  have i7 : ∀ W, (Instr.index 123 (.agg #[Value.string (mkS []), Value.string (mkS [102, 108, 97, 103]), Value.string (mkS [109, 97, 120]), Value.string (mkS [115, 101, 116]), Value.string (mkS [111, 110, 99, 101]), Value.string (mkS []), Value.string (mkS [109, 97, 112]), Value.string (mkS [112, 97, 105, 114])]) (.int .i64 7)).run Tryd.prog W = .ok (.string (mkS [112, 97, 105, 114])) W := fun _ => by kernel_rfl
  go_enter Tryd.func85, Tryd.ntmps85
  go_wp2
  go_loop [6] (fun i => ∃ k : Nat, k ≤ 8 ∧ i = .int .i64 k ∧ Hid (l ∉ shapeWords.take k)) (fun i => 8 - (intOf i).toNat)
  case atStart => exact ⟨0, Nat.zero_le _, rfl, by show _ ∉ _; simp⟩
  case round =>
    obtain ⟨k, hk, rfl, hr⟩ := hrel
    by_cases hlt : k < 8
    · obtain ⟨x, hx⟩ : ∃ x, x = shapeWords.getD k [] := ⟨_, rfl⟩
      have yes : l = x → Hid (tnameF l = false) := fun he => by
        show _ = _
        rw [tname_words]
        have : shapeWords.contains l = true := by rw [List.contains_eq_mem, decide_eq_true_eq, he, hx]; simp [List.getD_eq_getElem?_getD, show k < shapeWords.length from hlt]
        rw [this]; rfl
      have no : l ≠ x → Hid (l ∉ shapeWords.take (k + 1)) := fun he => by
        show _ ∉ _
        intro hm
        rw [List.take_succ_eq_append_getElem (by exact hlt), List.mem_append] at hm
        rcases hm with hm | hm
        · exact hr.out hm
        · rw [List.mem_singleton] at hm
          exact he (by rw [hm, hx, List.getD_eq_getElem?_getD, List.getElem?_eq_getElem (show k < shapeWords.length from hlt)]; rfl)
      have hkk : k = 0 ∨ k = 1 ∨ k = 2 ∨ k = 3 ∨ k = 4 ∨ k = 5 ∨ k = 6 ∨ k = 7 := by omega
      by_cases he : l = x
      · have hF := yes he
        clear yes no hr hlt hk
        rcases hkk with rfl | rfl | rfl | rfl | rfl | rfl | rfl | rfl
        all_goals
          simp only [shapeWords, List.getD_cons_zero, List.getD_cons_succ] at hx
          subst hx
          subst he
          go_wp2
          go_ret
          exact ⟨ret_bool hF.out.symm, Below.refl _ _⟩
      · have hF := no he
        have hq : ((mkS l).toList == (mkS x).toList) = false := by rw [beq_eq_false_iff_ne]; intro h; exact he (mkS_tl.1 h)
        have hq' : ¬ (mkS l).toList = (mkS x).toList := fun h => he (mkS_tl.1 h)
        clear yes no he hr hlt hk
        rcases hkk with rfl | rfl | rfl | rfl | rfl | rfl | rfl | rfl
        all_goals
          simp only [shapeWords, List.getD_cons_zero, List.getD_cons_succ] at hx
          subst hx
          go_wp2
          go_round
          case rel => exact ⟨_, by decide, by first | rfl | go_num, hF⟩
          case measure => simp [intOf]
    · have hF : Hid (tnameF l = nameF l) := by
        show _ = _
        rw [tname_words]
        have h := hr.out
        rw [List.take_of_length_le (by show 8 ≤ k; omega)] at h
        have : shapeWords.contains l = false := by rw [List.contains_eq_mem]; exact decide_eq_false h
        rw [this]; rfl
      clear hr
      go_wp2_with fail
      refine (CN.out _).mono ?_
      rintro e w' ⟨rfl, hb⟩
      go_wp2
      go_ret
      exact ⟨ret_bool hF.out.symm, hb⟩
end Go.Proofs.YtfhnigpjmljhbaaDoor.Or

/- Contracts of every, at texts, at integers, at lists of integers. -/
set_option linter.unusedVariables false
set_option linter.unusedSimpArgs false
namespace Go.Proofs.YtfhnigpjmljhbaaDoor.Or
open Go.RowKit

set_option maxRecDepth 100000 in
set_option maxHeartbeats 2000000 in
theorem everyS_st (v : Value) (vs : List Value) (g : Nat) (lb : Array Value) (p : Nat → Bool) (J : Nat → World → Prop) (w : World) (eg : ∀ args w, (callFunc g args).run Tryd.prog w = .ok (.enter g args) w)
    (hJ : ∀ k W, J k W → Rd W v vs) (h0 : J 0 w)
    (hp : ∀ k W, (h : k < vs.length) → J k W → Calls Tryd.prog g (#[vs[k]] ++ lb) W fun e W' => e = .returned (.bool (p k)) ∧ J (k + 1) W') :
    Calls Tryd.prog 86 #[v, .func (.func g) #[] lb] w fun e w' => e = .returned (.bool ((List.range vs.length).all p)) ∧ ∃ k, J k w' := by
  have HP := Lib.hid hp
  clear hp
  have hv := hJ 0 w h0
  obtain ⟨q, cap, rfl⟩ := hv.form
  have hl := hv.len
  obtain ⟨n, hn⟩ : ∃ n, n = vs.length := ⟨_, rfl⟩
  rw [← hn] at hl hJ ⊢
  have HN := Lib.hid hn; have HJ := Lib.hid hJ
  clear hv hn hJ
  go_enter Tryd.func86, Tryd.ntmps86
  go_wp2
  go_loopw [9] (fun i wr => ∃ k : Nat, k ≤ n ∧ i = .int .i64 k ∧ Hid ((List.range k).all p = true) ∧ J k wr) (fun i _ => n - (intOf i).toNat)
  case atStart => exact ⟨0, Nat.zero_le _, rfl, rfl, h0⟩
  case round =>
    obtain ⟨k, hk, rfl, hr, hj⟩ := hrel
    by_cases hlt : k < n
    · obtain ⟨b, off, rfl, hc'⟩ := (HJ.out k wr hj).cell (i := k) (by have := HN.out; omega)
      have C := HP.out k wr (by have := HN.out; omega) hj
      obtain ⟨x, hx⟩ : ∃ x, x = vs[k]'(by have := HN.out; omega) := ⟨_, rfl⟩
      rw [← hx] at C hc'
      cases hpk : p k with
      | true =>
        have HS : Hid ((List.range (k + 1)).all p = true) := by show _ = _; rw [List.range_succ, List.all_append, hr.out]; simp [hpk]
        rw [hpk] at C
        have HC := Lib.hid C
        clear C hpk hr hx h0
        go_wp2_with fail
        refine HC.out.mono ?_
        rintro e w1 ⟨rfl, hj1⟩
        go_wp2
        go_roundw
        case rel => exact ⟨k + 1, by omega, by go_num, HS, hj1⟩
        case measure => simp [intOf]; omega
      | false =>
        have HS : Hid ((List.range n).all p = false) := by
          show _ = _
          refine (Bool.not_eq_true _).mp fun h => ?_
          rw [List.all_eq_true] at h
          have := h k (List.mem_range.2 hlt)
          rw [hpk] at this; cases this
        rw [hpk] at C
        have HC := Lib.hid C
        clear C hpk hr hx h0
        go_wp2_with fail
        refine HC.out.mono ?_
        rintro e w1 ⟨rfl, hj1⟩
        go_wp2
        go_ret
        exact ⟨ret_bool HS.out.symm, _, hj1⟩
    · have HS : Hid ((List.range n).all p = true) := by
        show _ = _; rw [show n = k by omega]; exact hr.out
      clear hr
      go_wp2
      go_ret
      exact ⟨ret_bool HS.out.symm, _, hj⟩

set_option maxRecDepth 100000 in
set_option maxHeartbeats 2000000 in
theorem everyI_st (v : Value) (vs : List Value) (g : Nat) (lb : Array Value) (p : Nat → Bool) (J : Nat → World → Prop) (w : World) (eg : ∀ args w, (callFunc g args).run Tryd.prog w = .ok (.enter g args) w)
    (hJ : ∀ k W, J k W → Rd W v vs) (h0 : J 0 w)
    (hp : ∀ k W, (h : k < vs.length) → J k W → Calls Tryd.prog g (#[vs[k]] ++ lb) W fun e W' => e = .returned (.bool (p k)) ∧ J (k + 1) W') :
    Calls Tryd.prog 110 #[v, .func (.func g) #[] lb] w fun e w' => e = .returned (.bool ((List.range vs.length).all p)) ∧ ∃ k, J k w' := by
  have HP := Lib.hid hp
  clear hp
  have hv := hJ 0 w h0
  obtain ⟨q, cap, rfl⟩ := hv.form
  have hl := hv.len
  obtain ⟨n, hn⟩ : ∃ n, n = vs.length := ⟨_, rfl⟩
  rw [← hn] at hl hJ ⊢
  have HN := Lib.hid hn; have HJ := Lib.hid hJ
  clear hv hn hJ
  go_enter Tryd.func110, Tryd.ntmps110
  go_wp2
  go_loopw [9] (fun i wr => ∃ k : Nat, k ≤ n ∧ i = .int .i64 k ∧ Hid ((List.range k).all p = true) ∧ J k wr) (fun i _ => n - (intOf i).toNat)
  case atStart => exact ⟨0, Nat.zero_le _, rfl, rfl, h0⟩
  case round =>
    obtain ⟨k, hk, rfl, hr, hj⟩ := hrel
    by_cases hlt : k < n
    · obtain ⟨b, off, rfl, hc'⟩ := (HJ.out k wr hj).cell (i := k) (by have := HN.out; omega)
      have C := HP.out k wr (by have := HN.out; omega) hj
      obtain ⟨x, hx⟩ : ∃ x, x = vs[k]'(by have := HN.out; omega) := ⟨_, rfl⟩
      rw [← hx] at C hc'
      cases hpk : p k with
      | true =>
        have HS : Hid ((List.range (k + 1)).all p = true) := by show _ = _; rw [List.range_succ, List.all_append, hr.out]; simp [hpk]
        rw [hpk] at C
        have HC := Lib.hid C
        clear C hpk hr hx h0
        go_wp2_with fail
        refine HC.out.mono ?_
        rintro e w1 ⟨rfl, hj1⟩
        go_wp2
        go_roundw
        case rel => exact ⟨k + 1, by omega, by go_num, HS, hj1⟩
        case measure => simp [intOf]; omega
      | false =>
        have HS : Hid ((List.range n).all p = false) := by
          show _ = _
          refine (Bool.not_eq_true _).mp fun h => ?_
          rw [List.all_eq_true] at h
          have := h k (List.mem_range.2 hlt)
          rw [hpk] at this; cases this
        rw [hpk] at C
        have HC := Lib.hid C
        clear C hpk hr hx h0
        go_wp2_with fail
        refine HC.out.mono ?_
        rintro e w1 ⟨rfl, hj1⟩
        go_wp2
        go_ret
        exact ⟨ret_bool HS.out.symm, _, hj1⟩
    · have HS : Hid ((List.range n).all p = true) := by
        show _ = _; rw [show n = k by omega]; exact hr.out
      clear hr
      go_wp2
      go_ret
      exact ⟨ret_bool HS.out.symm, _, hj⟩

set_option maxRecDepth 100000 in
set_option maxHeartbeats 2000000 in
theorem everyL_st (v : Value) (vs : List Value) (g : Nat) (lb : Array Value) (p : Nat → Bool) (J : Nat → World → Prop) (w : World) (eg : ∀ args w, (callFunc g args).run Tryd.prog w = .ok (.enter g args) w)
    (hJ : ∀ k W, J k W → Rd W v vs) (h0 : J 0 w)
    (hp : ∀ k W, (h : k < vs.length) → J k W → Calls Tryd.prog g (#[vs[k]] ++ lb) W fun e W' => e = .returned (.bool (p k)) ∧ J (k + 1) W') :
    Calls Tryd.prog 88 #[v, .func (.func g) #[] lb] w fun e w' => e = .returned (.bool ((List.range vs.length).all p)) ∧ ∃ k, J k w' := by
  have HP := Lib.hid hp
  clear hp
  have hv := hJ 0 w h0
  obtain ⟨q, cap, rfl⟩ := hv.form
  have hl := hv.len
  obtain ⟨n, hn⟩ : ∃ n, n = vs.length := ⟨_, rfl⟩
  rw [← hn] at hl hJ ⊢
  have HN := Lib.hid hn; have HJ := Lib.hid hJ
  clear hv hn hJ
  go_enter Tryd.func88, Tryd.ntmps88
  go_wp2
  go_loopw [9] (fun i wr => ∃ k : Nat, k ≤ n ∧ i = .int .i64 k ∧ Hid ((List.range k).all p = true) ∧ J k wr) (fun i _ => n - (intOf i).toNat)
  case atStart => exact ⟨0, Nat.zero_le _, rfl, rfl, h0⟩
  case round =>
    obtain ⟨k, hk, rfl, hr, hj⟩ := hrel
    by_cases hlt : k < n
    · obtain ⟨b, off, rfl, hc'⟩ := (HJ.out k wr hj).cell (i := k) (by have := HN.out; omega)
      have C := HP.out k wr (by have := HN.out; omega) hj
      obtain ⟨x, hx⟩ : ∃ x, x = vs[k]'(by have := HN.out; omega) := ⟨_, rfl⟩
      rw [← hx] at C hc'
      cases hpk : p k with
      | true =>
        have HS : Hid ((List.range (k + 1)).all p = true) := by show _ = _; rw [List.range_succ, List.all_append, hr.out]; simp [hpk]
        rw [hpk] at C
        have HC := Lib.hid C
        clear C hpk hr hx h0
        go_wp2_with fail
        refine HC.out.mono ?_
        rintro e w1 ⟨rfl, hj1⟩
        go_wp2
        go_roundw
        case rel => exact ⟨k + 1, by omega, by go_num, HS, hj1⟩
        case measure => simp [intOf]; omega
      | false =>
        have HS : Hid ((List.range n).all p = false) := by
          show _ = _
          refine (Bool.not_eq_true _).mp fun h => ?_
          rw [List.all_eq_true] at h
          have := h k (List.mem_range.2 hlt)
          rw [hpk] at this; cases this
        rw [hpk] at C
        have HC := Lib.hid C
        clear C hpk hr hx h0
        go_wp2_with fail
        refine HC.out.mono ?_
        rintro e w1 ⟨rfl, hj1⟩
        go_wp2
        go_ret
        exact ⟨ret_bool HS.out.symm, _, hj1⟩
    · have HS : Hid ((List.range n).all p = true) := by
        show _ = _; rw [show n = k by omega]; exact hr.out
      clear hr
      go_wp2
      go_ret
      exact ⟨ret_bool HS.out.symm, _, hj⟩
end Go.Proofs.YtfhnigpjmljhbaaDoor.Or

/- Contracts of ascends and formed. -/
set_option linter.unusedVariables false
set_option linter.unusedSimpArgs false
namespace Go.Proofs.YtfhnigpjmljhbaaDoor.Or
open Go.RowKit

def lastA (a : Int) (l : List Int) (k : Nat) : Int := (a :: l).getD k 0
def ascP (n a : Int) (l : List Int) (k : Nat) : Bool := decide (lastA a l k < l.getD k 0) && decide (l.getD k 0 < n)
theorem asc_range (n : Int) : ∀ (l : List Int) (a : Int), (List.range l.length).all (ascP n a l) = ascF n a l
  | [], _ => rfl
  | x :: r, a => by
    rw [List.length_cons, List.range_succ_eq_map, List.all_cons, List.all_map, ascF, ← asc_range n r x]
    rfl

set_option maxRecDepth 100000 in
set_option maxHeartbeats 2000000 in
theorem ascends1 (x last n : Int) (bl bn : Nat) (w : World) (hl : w.cell? ⟨bl, 0, none⟩ = some (.int .i64 last)) (hf : w.frozen? ⟨bl, 0, none⟩ = false) (hn : w.cell? ⟨bn, 0, none⟩ = some (.int .i64 n)) :
    Calls Tryd.prog 121 #[.int .i64 x, .pointer (some ⟨bl, 0, none⟩), .pointer (some ⟨bn, 0, none⟩)] w fun e w' => e = .returned (.bool (decide (last < x) && decide (x < n))) ∧ w' = w.setCell ⟨bl, 0, none⟩ (.int .i64 x) := by
  by_cases h1 : last < x
  · by_cases h2 : x < n
    · have g1 : decide (last < x) = true := decide_eq_true h1
      have g2 : decide (x < n) = true := decide_eq_true h2
      go_enter Tryd.func121, Tryd.ntmps121
      go_wp2
      go_ret
      exact ⟨ret_bool (by simp [h1, h2]), rfl⟩
    · have g1 : decide (last < x) = true := decide_eq_true h1
      have g2 : decide (x < n) = false := decide_eq_false h2
      go_enter Tryd.func121, Tryd.ntmps121
      go_wp2
      go_ret
      exact ⟨ret_bool (by simp [h1, h2]), rfl⟩
  · have g1 : decide (last < x) = false := decide_eq_false h1
    go_enter Tryd.func121, Tryd.ntmps121
    go_wp2
    go_ret
    exact ⟨ret_bool (by simp [h1]), rfl⟩

/-- What lies in memory between two elements. -/
def AscJ (w : World) (a n : Int) (l : List Int) (bl bn : Nat) (k : Nat) (W : World) : Prop :=
  Below w.heap.size w W ∧ W.cell? ⟨bl, 0, none⟩ = some (.int .i64 (lastA a l k)) ∧ W.frozen? ⟨bl, 0, none⟩ = false ∧ W.cell? ⟨bn, 0, none⟩ = some (.int .i64 n)


set_option maxRecDepth 100000 in
set_option maxHeartbeats 2000000 in
theorem ascends_any (v : Value) (l : List Int) (n : Int) (w : World) (hv : RdI w v l) :
    Calls Tryd.prog 90 #[v, .int .i64 n] w fun e w' => e = .returned (.bool (ascF n (-1) l)) ∧ Below w.heap.size w w' := by
  obtain ⟨W2, hW2⟩ : ∃ W2, W2 = ((w.alloc (.cells #[.int .i64 n] 3)).alloc (.cells #[.int .i64 (-1)] 3)) := ⟨_, rfl⟩
  have hb2 : Below w.heap.size w W2 := by rw [hW2]; exact ((Below.refl _ _).alloc (Nat.le_refl _) _).alloc (by simp) _
  have cn : W2.cell? ⟨w.heap.size, 0, none⟩ = some (.int .i64 n) := by rw [hW2]; simp [go_sem]
  have cl : W2.cell? ⟨w.heap.size + 1, 0, none⟩ = some (.int .i64 (-1)) := by rw [hW2]; simp [go_sem]
  have fl : W2.frozen? ⟨w.heap.size + 1, 0, none⟩ = false := by rw [hW2]; simp [go_sem]
  have hlen : (l.map (Value.int .i64)).length = l.length := by simp
  have C := everyI_st v (l.map (Value.int .i64)) 121 #[.pointer (some ⟨w.heap.size + 1, 0, none⟩), .pointer (some ⟨w.heap.size, 0, none⟩)] (ascP n (-1) l)
    (AscJ w (-1) n l (w.heap.size + 1) w.heap.size) W2 (fun args w => rfl) (fun k W h => Rd.below hv h.1) ⟨hb2, cl, fl, cn⟩ (fun k W hk h => by
      obtain ⟨j1, j2, j3, j4⟩ := h
      have hk' : k < l.length := by simpa using hk
      have hx : (l.map (Value.int .i64))[k] = .int .i64 (l.getD k 0) := by simp [List.getD_eq_getElem?_getD, hk']
      rw [hx]
      refine (ascends1 (l.getD k 0) (lastA (-1) l k) n _ _ W j2 j3 j4).mono ?_
      rintro e w' ⟨rfl, rfl⟩
      refine ⟨rfl, j1.setCell (by simp) _, ?_, ?_, ?_⟩
      · rw [World.cell?_setCell_same' _ _ _ (by rw [j2]; rfl)]; simp [lastA]
      · rw [World.frozen?_setCell]; exact j3
      · exact (World.cell?_of_block (w := W) (Below.heap_setCell _ _ _ _ (by simp))).trans j4)
  rw [hlen, asc_range] at C
  obtain ⟨p, cap, rfl⟩ := hv.form
  have HC := Lib.hid C; have HW := Lib.hid hW2
  clear hv C hW2 hb2 cn cl fl hlen
  go_enter Tryd.func90, Tryd.ntmps90
  go_wp2_with fail
  rw [← HW.out]
  refine HC.out.mono ?_
  rintro e w' ⟨rfl, k, hj⟩
  have hb := hj.1
  clear hj
  go_wp2
  go_ret
  exact ⟨rfl, hb⟩
end Go.Proofs.YtfhnigpjmljhbaaDoor.Or

/- The contract of formed. -/
set_option linter.unusedVariables false
set_option linter.unusedSimpArgs false
namespace Go.Proofs.YtfhnigpjmljhbaaDoor.Or
open Go.RowKit

/-- Texts of a table that any machine holds. -/
def Small (t : Tab) : Prop := t.name.length ≤ 281474976710656 ∧ ∀ s ∈ t.elems, s.length ≤ 281474976710656

theorem everyNames (ve : Value) (ls : List (List UInt8)) (w : World) (hv : RdS w ve ls) (hs : ∀ s ∈ ls, s.length ≤ 281474976710656) :
    Calls Tryd.prog 86 #[ve, .func (.func 87) #[] #[]] w fun e w' => e = .returned (.bool (ls.all nameF)) ∧ Below w.heap.size w w' := by
  refine (everyS_st ve (ls.map strV) 87 #[] (fun k => nameF (ls.getD k [])) (fun _ W => Below w.heap.size w W) w (enters_of Tryd.func87 (by kernel_rfl) rfl) (fun k W h => Rd.below hv h) (Below.refl _ _) (fun k W hk h => ?_)).mono ?_
  · have hk' : k < ls.length := by simpa using hk
    have hx : (ls.map strV)[k] = .string (mkS (ls.getD k [])) := by simp [strV, List.getD_eq_getElem?_getD, hk']
    rw [hx]
    refine (isName_any (ls.getD k []) W (hs _ (by simp [List.getD_eq_getElem?_getD, hk']))).mono ?_
    rintro e w' ⟨rfl, hb⟩
    exact ⟨rfl, h.trans (hb.mono h.size)⟩
  · rintro e w' ⟨rfl, k, hb⟩
    exact ⟨ret_bool (by rw [all_range ls [] nameF, List.length_map]), hb⟩

set_option maxRecDepth 100000 in
theorem formed1 (v : Value) (l : List Int) (n : Int) (bn : Nat) (w : World) (hv : RdI w v l) (hn : w.cell? ⟨bn, 0, none⟩ = some (.int .i64 n)) :
    Calls Tryd.prog 89 #[v, .pointer (some ⟨bn, 0, none⟩)] w fun e w' => e = .returned (.bool (ascF n (-1) l)) ∧ Below w.heap.size w w' := by
  have C := Lib.hid (ascends_any v l n w hv)
  obtain ⟨p, cap, rfl⟩ := hv.form
  clear hv
  go_enter Tryd.func89, Tryd.ntmps89
  go_wp2_with fail
  refine C.out.mono ?_
  rintro e w' ⟨rfl, hb⟩
  go_wp2
  go_ret
  exact ⟨rfl, hb⟩
theorem everyAsc (va : Value) (ls : List (List Int)) (n : Int) (bn : Nat) (w : World) (hv : RdII w va ls) (hn : w.cell? ⟨bn, 0, none⟩ = some (.int .i64 n)) :
    Calls Tryd.prog 88 #[va, .func (.func 89) #[] #[.pointer (some ⟨bn, 0, none⟩)]] w fun e w' => e = .returned (.bool (ls.all (ascF n (-1)))) ∧ Below w.heap.size w w' := by
  obtain ⟨vs, h1, h2, h3⟩ := hv
  refine (everyL_st va vs 89 #[.pointer (some ⟨bn, 0, none⟩)] (fun k => ascF n (-1) (ls.getD k [])) (fun _ W => Below w.heap.size w W) w (enters_of Tryd.func89 (by kernel_rfl) rfl) (fun k W h => h1.below h) (Below.refl _ _) (fun k W hk h => ?_)).mono ?_
  · have hk' : k < ls.length := by omega
    have hl : RdI W vs[k] (ls.getD k []) := by
      have := (h3 k hk' hk).below h
      simpa [List.getD_eq_getElem?_getD, hk'] using this
    refine (formed1 vs[k] (ls.getD k []) n bn W hl ((h.cell (cell_lt hn)).trans hn)).mono ?_
    rintro e w' ⟨rfl, hb⟩
    exact ⟨rfl, h.trans (hb.mono h.size)⟩
  · rintro e w' ⟨rfl, k, hb⟩
    exact ⟨ret_bool (by rw [all_range ls [] (ascF n (-1)), h2]), hb⟩

set_option maxRecDepth 100000 in
set_option maxHeartbeats 4000000 in
theorem formed_any (t : Tab) (ve va vw : Value) (w : World) (hT : TabIn w ve va vw t) (hS : Small t) (hL : LaidOk w) :
    Calls Tryd.prog 49 #[tabV t ve va vw] w fun e w' => e = .returned (.bool (frmF t)) ∧ Below w.heap.size w w' := by
  obtain ⟨pe, ce, rfl⟩ := hT.e.form
  obtain ⟨pa, ca, rfl⟩ := hT.a.form
  obtain ⟨pw, cw, rfl⟩ := hT.w.form
  have l1 := hT.e.len; have l2 := hT.a.len; have l3 := hT.w.len
  have HF : Hid (frmF t = (headF t && (tnameF t.name && t.elems.all nameF && distF t.elems && t.above.all (ascF t.elems.length (-1))))) := frm_code t
  have HH : Hid (headF t = (decide (1 ≤ t.elems.length) && decide (t.elems.length ≤ 12) && decide (t.above.length = t.elems.length) && decide (t.wrong.length = t.elems.length))) := rfl
  obtain ⟨n, hn⟩ : ∃ n, n = t.elems.length := ⟨_, rfl⟩
  obtain ⟨la, hla⟩ : ∃ n, n = t.above.length := ⟨_, rfl⟩
  obtain ⟨lw, hlw⟩ : ∃ n, n = t.wrong.length := ⟨_, rfl⟩
  rw [← hn, ← hla, ← hlw] at HH
  rw [← hn] at HF
  have CN : Hid (∀ W, Below w.heap.size w W → Calls Tryd.prog 85 #[.string (mkS t.name)] W fun e w' => e = .returned (.bool (tnameF t.name)) ∧ Below W.heap.size W w') := fun W hW => namesTable_any t.name W hS.1 (hL.below hW)
  have CE : Hid (∀ W, Below w.heap.size w W → Calls Tryd.prog 86 #[.slice pe n ce, .func (.func 87) #[] #[]] W fun e w' => e = .returned (.bool (t.elems.all nameF)) ∧ Below W.heap.size W w') := fun W hW => by rw [hn]; exact everyNames _ _ W (hT.e.below hW) hS.2
  have CD : Hid (∀ W, Below w.heap.size w W → Calls Tryd.prog 51 #[.slice pe n ce] W fun e w' => e = .returned (.bool (distF t.elems)) ∧ W = w') := fun W hW => by rw [hn]; exact distinct_any _ _ W (hT.e.below hW)
  have CA : Hid (∀ W bn, Below w.heap.size w W → W.cell? ⟨bn, 0, none⟩ = some (.int .i64 n) → Calls Tryd.prog 88 #[.slice pa la ca, .func (.func 89) #[] #[.pointer (some ⟨bn, 0, none⟩)]] W fun e w' => e = .returned (.bool (t.above.all (ascF n (-1)))) ∧ Below W.heap.size W w') := fun W bn hW hc => by rw [hla]; exact everyAsc _ _ n bn W (hT.a.below hW) hc
  rw [← hn, ← hla, ← hlw] 
  unfold tabV
  obtain ⟨W2, hW2⟩ : ∃ W2, W2 = ((w.alloc (.cells #[.string (mkS t.name), .slice pe n ce, .slice pa la ca, .slice pw lw cw] 26)).alloc (.cells #[.int .i64 n] 3)) := ⟨_, rfl⟩
  have b2 : Below w.heap.size w W2 := by rw [hW2]; exact ((Below.refl _ _).alloc (Nat.le_refl _) _).alloc (by simp) _
  rw [← hn] at l1; rw [← hla] at l2; rw [← hlw] at l3
  clear hT hS hL hn hla hlw

  by_cases h1 : n < 1
  · have g1 : decide ((n : Int) < 1) = true := decide_eq_true (by omega)
    have g0 : n = 0 := by omega
    subst g0

    clear l1 l2 l3
    go_enter Tryd.func49, Tryd.ntmps49
    go_wp2
    go_ret
    exact ⟨ret_bool (by rw [HF.out, HH.out]; simp), ((Below.refl _ _).alloc (Nat.le_refl _) _).alloc (by simp) _⟩

  by_cases h2 : 12 < n
  · have g1 : decide ((n : Int) < 1) = false := decide_eq_false (by omega)
    have g2 : decide ((12 : Int) < (n : Int)) = true := decide_eq_true (by omega)
    have HX : Hid (decide (n ≤ 12) = false) := decide_eq_false (by omega)

    clear l1 l2 l3
    go_enter Tryd.func49, Tryd.ntmps49
    go_wp2
    go_ret
    exact ⟨ret_bool (by rw [HF.out, HH.out]; rw [HX.out]; simp), ((Below.refl _ _).alloc (Nat.le_refl _) _).alloc (by simp) _⟩

  have g1 : decide ((n : Int) < 1) = false := decide_eq_false (by omega)
  have g2 : decide ((12 : Int) < (n : Int)) = false := decide_eq_false (by omega)
  by_cases h3 : la = n
  rotate_left
  · have g3 : ((la : Int) != (n : Int)) = true := by rw [bne_iff_ne]; omega
    have HX : Hid (decide (la = n) = false) := decide_eq_false h3

    clear l1 l2 l3
    go_enter Tryd.func49, Tryd.ntmps49
    go_wp2
    go_ret
    exact ⟨ret_bool (by rw [HF.out, HH.out]; rw [HX.out]; simp), ((Below.refl _ _).alloc (Nat.le_refl _) _).alloc (by simp) _⟩

  have g3 : ((la : Int) != (n : Int)) = false := by rw [bne_eq_false_iff_eq]; omega
  by_cases h4 : lw = n
  rotate_left
  · have g4 : ((lw : Int) != (n : Int)) = true := by rw [bne_iff_ne]; omega
    have HX : Hid (decide (lw = n) = false) := decide_eq_false h4
    have h3' := Lib.hid h3
    clear h3

    clear l1 l2 l3
    go_enter Tryd.func49, Tryd.ntmps49
    go_wp2
    go_ret
    exact ⟨ret_bool (by rw [HF.out, HH.out]; rw [HX.out]; simp), ((Below.refl _ _).alloc (Nat.le_refl _) _).alloc (by simp) _⟩

  have g4 : ((lw : Int) != (n : Int)) = false := by rw [bne_eq_false_iff_eq]; omega
  have HT : Hid (headF t = true) := by
    show _ = _
    rw [HH.out, decide_eq_true (show 1 ≤ n by omega), decide_eq_true (show n ≤ 12 by omega), decide_eq_true h3, decide_eq_true h4]; rfl
  have HF2 : Hid (frmF t = (tnameF t.name && t.elems.all nameF && distF t.elems && t.above.all (ascF n (-1)))) := by
    show _ = _
    rw [HF.out, HT.out, Bool.true_and]
  have c3 : W2.cell? ⟨w.heap.size + 1, 0, none⟩ = some (.int .i64 n) := by rw [hW2]; simp [go_sem]
  have d0 : W2.cell? ⟨w.heap.size, 0, none⟩ = some (.string (mkS t.name)) := by rw [hW2]; simp [go_sem]
  have d1 : W2.cell? ⟨w.heap.size, 1, none⟩ = some (.slice pe n ce) := by rw [hW2]; simp [go_sem]
  have d2 : W2.cell? ⟨w.heap.size, 2, none⟩ = some (.slice pa la ca) := by rw [hW2]; simp [go_sem]
  have HW := Lib.hid hW2
  have z2 : W2.heap.size = w.heap.size + 2 := by rw [hW2]; simp
  have HZ := Lib.hid z2
  clear HF HH HT h1 h2 h3 h4 hW2 z2
  cases q1 : tnameF t.name with
  | false =>
    rw [q1] at HF2 CN
    clear q1 CE CD CA
    go_enter Tryd.func49, Tryd.ntmps49
    go_wp2_with fail
    rw [← HW.out]
    refine (CN.out _ b2).mono ?_
    rintro e w3 ⟨rfl, b3⟩
    have b3' := b2.trans (b3.mono b2.size)
    clear b3
    go_wp2
    go_ret
    exact ⟨ret_bool (by rw [HF2.out]; simp), b3'⟩
  | true =>
  rw [q1] at HF2 CN
  clear q1
  go_enter Tryd.func49, Tryd.ntmps49
  go_wp2_with fail
  rw [← HW.out]
  refine (CN.out _ b2).mono ?_
  rintro e w3 ⟨rfl, b3⟩
  have e1 : w3.cell? ⟨w.heap.size, 1, none⟩ = some (.slice pe n ce) := (b3.cell (by show _ < _; have := HZ.out; simp; omega)).trans d1
  have e2 : w3.cell? ⟨w.heap.size, 2, none⟩ = some (.slice pa la ca) := (b3.cell (by show _ < _; have := HZ.out; simp; omega)).trans d2
  have e3 : w3.cell? ⟨w.heap.size + 1, 0, none⟩ = some (.int .i64 n) := (b3.cell (by show _ < _; have := HZ.out; simp; omega)).trans c3
  have b3' := b2.trans (b3.mono b2.size)
  have z3 : w.heap.size + 1 < w3.heap.size := by have := b3.size; have := HZ.out; omega
  clear b3 b2 c3 d0 d1 d2
  cases q2 : t.elems.all nameF with
  | false =>
    rw [q2] at HF2 CE
    clear q2
    go_wp2_with fail
    refine (CE.out _ b3').mono ?_
    rintro e w4 ⟨rfl, b4⟩
    have b4' := b3'.trans (b4.mono b3'.size)
    clear b4
    go_wp2
    go_ret
    exact ⟨ret_bool (by rw [HF2.out]; simp), b4'⟩
  | true =>
  rw [q2] at HF2 CE
  clear q2
  go_wp2_with fail
  refine (CE.out _ b3').mono ?_
  rintro e w4 ⟨rfl, b4⟩
  have f1 : w4.cell? ⟨w.heap.size, 1, none⟩ = some (.slice pe n ce) := (b4.cell (by show _ < _; simp; omega)).trans e1
  have f2 : w4.cell? ⟨w.heap.size, 2, none⟩ = some (.slice pa la ca) := (b4.cell (by show _ < _; simp; omega)).trans e2
  have f3 : w4.cell? ⟨w.heap.size + 1, 0, none⟩ = some (.int .i64 n) := (b4.cell (by show _ < _; simp; omega)).trans e3
  have b4' := b3'.trans (b4.mono b3'.size)
  clear b4 b3' e1 e2 e3
  cases q3 : distF t.elems with
  | false =>
    rw [q3] at HF2 CD
    clear q3
    go_wp2_with fail
    refine (CD.out _ b4').mono ?_
    rintro e w5 ⟨rfl, rfl⟩
    go_wp2
    go_ret
    exact ⟨ret_bool (by rw [HF2.out]; simp), b4'⟩
  | true =>
  rw [q3] at HF2 CD
  clear q3
  go_wp2_with fail
  refine (CD.out _ b4').mono ?_
  rintro e w5 ⟨rfl, rfl⟩
  go_wp2_with fail
  refine (CA.out _ _ b4' f3).mono ?_
  rintro e w6 ⟨rfl, b6⟩
  have b6' := b4'.trans (b6.mono b4'.size)
  clear b6
  go_wp2
  go_ret
  exact ⟨ret_bool (by rw [HF2.out]; simp), b6'⟩
end Go.Proofs.YtfhnigpjmljhbaaDoor.Or
