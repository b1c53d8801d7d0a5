/- The reference: In, IsName, Find, IsTableName. -/
import Derived.Test.YtgbjelglifihnaaDoorOrN
set_option linter.unusedVariables false
set_option linter.unusedSimpArgs false
namespace Go.Proofs.YtgbjelglifihnaaDoor.Or
open Go.RowKit

set_option maxHeartbeats 800000 in
theorem in_any (x lo hi : Int) (w : World) :
    Calls Tryd.prog 62 #[.int .i64 x, .int .i64 lo, .int .i64 hi] w fun e w' => e = .returned (.bool (decide (lo ≤ x) && decide (x ≤ hi))) ∧ w' = w := by
  by_cases h1 : lo ≤ x
  · by_cases h2 : x ≤ hi
    · have g1 : decide (lo ≤ x) = true := decide_eq_true h1
      have g2 : decide (x ≤ hi) = true := decide_eq_true h2
      go_enter Tryd.func62, Tryd.ntmps62
      go_wp2
      go_ret
      exact ⟨ret_bool (by simp [h1, h2]), rfl⟩
    · have g1 : decide (lo ≤ x) = true := decide_eq_true h1
      have g2 : decide (x ≤ hi) = false := decide_eq_false h2
      go_enter Tryd.func62, Tryd.ntmps62
      go_wp2
      go_ret
      exact ⟨ret_bool (by simp [h1, h2]), rfl⟩
  · have g1 : decide (lo ≤ x) = false := decide_eq_false h1
    go_enter Tryd.func62, Tryd.ntmps62
    go_wp2
    go_ret
    exact ⟨ret_bool (by simp [h1]), rfl⟩

set_option maxRecDepth 100000 in
set_option maxHeartbeats 2000000 in
theorem find_any (v : Value) (ls : List (List UInt8)) (s : List UInt8) (w : World) (hv : RdS w v ls) :
    Calls Tryd.prog 64 #[v, .string (mkS s)] w fun e w' => e = .returned (.int .i64 (findF ls s)) ∧ w' = w := by
  obtain ⟨p, cap, rfl⟩ := hv.form
  have hln := hv.len
  have HV := Lib.hid hv
  obtain ⟨n, hn⟩ : ∃ n, n = ls.length := ⟨_, rfl⟩
  rw [← hn] at HV hln ⊢
  have HN := Lib.hid hn
  clear hv hn
  go_enter Tryd.func64, Tryd.ntmps64
  go_wp2
  go_loop [5] (fun i => ∃ k : Nat, k ≤ n ∧ i = .int .i64 k ∧ Hid (s ∉ ls.take k)) (fun i => n - (intOf i).toNat)
  case atStart => exact ⟨0, Nat.zero_le _, rfl, by show _ ∉ _; simp⟩
  case round =>
    obtain ⟨k, hk, rfl, hr⟩ := hrel
    by_cases hlt : k < n
    · obtain ⟨b, off, rfl, hc⟩ := HV.out.cell (i := k) (by have := HN.out; omega)
      obtain ⟨x, hx⟩ : ∃ x, x = ls.getD k [] := ⟨_, rfl⟩
      rw [← hx] at hc
      by_cases he : x = s
      · have hF : Hid (findF ls s = k) := find_at (by have := HN.out; omega) (by rw [← hx, he]) hr.out
        have hq : ((mkS x).toList == (mkS s).toList) = true := by rw [he]; simp
        have hq' : (mkS x).toList = (mkS s).toList := by rw [he]
        clear hr he hx
        go_wp2
        go_ret
        exact ⟨ret_int (by rw [hF.out]), rfl⟩
      · have hF : Hid (s ∉ ls.take (k + 1)) := by
          show _ ∉ _
          intro hm
          rw [List.take_succ_eq_append_getElem (by have := HN.out; omega), List.mem_append] at hm
          rcases hm with hm | hm
          · exact hr.out hm
          · rw [List.mem_singleton] at hm
            exact he (by rw [hm, hx]; simp [List.getD_eq_getElem?_getD, show k < ls.length by have := HN.out; omega])
        have hq : ((mkS x).toList == (mkS s).toList) = false := by rw [beq_eq_false_iff_ne]; intro h; exact he (mkS_tl.1 h)
        have hq' : ¬ (mkS x).toList = (mkS s).toList := fun h => he (mkS_tl.1 h)
        clear hr he hx
        go_wp2
        go_round
        case rel => exact ⟨k + 1, by omega, by go_num, hF⟩
        case measure => simp [intOf]; omega
    · have hF : Hid (findF ls s = -1) := by
        refine find_no ?_
        have := hr.out
        rwa [List.take_of_length_le (by have := HN.out; omega)] at this
      clear hr
      go_wp2
      go_ret
      exact ⟨ret_int (by rw [hF.out]), rfl⟩

set_option maxRecDepth 100000 in
set_option maxHeartbeats 4000000 in
theorem refName_any (l : List UInt8) (w : World) (hs : l.length ≤ 281474976710656) :
    Calls Tryd.prog 63 #[.string (mkS l)] w fun e w' => e = .returned (.bool (nameF l)) ∧ w' = w := by
  have hsz : (mkS l).size = l.length := mkS_size l
  have hsm : (mkS l).size ≤ 281474976710656 := by omega
  have CI : Hid (∀ W, Calls Tryd.prog 62 #[.int .i64 ((mkS l).size : Nat), .int .i64 1, .int .i64 12] W fun e w' => e = .returned (.bool (decide ((1 : Int) ≤ ((mkS l).size : Nat)) && decide ((((mkS l).size : Nat) : Int) ≤ 12))) ∧ w' = W) := fun W => in_any _ 1 12 W
  by_cases h0 : 1 ≤ l.length ∧ l.length ≤ 12
  · have hq : (decide ((1 : Int) ≤ ((mkS l).size : Nat)) && decide ((((mkS l).size : Nat) : Int) ≤ 12)) = true := by
      rw [decide_eq_true (by omega), decide_eq_true (by omega)]; rfl
    rw [hq] at CI
    have hpos : 0 < (mkS l).size := by omega
    have hF0 : nameF l = (letN (l.getD 0 0).toNat && l.all nmB) := by
      unfold nameF; rw [decide_eq_true h0.1, decide_eq_true h0.2]; rfl
    obtain ⟨c, hc⟩ : ∃ c : Nat, c = (mkS l)[0].toNat := ⟨_, rfl⟩
    have hg := mkS_get l 0 hpos
    rw [← hg, ← hc] at hF0
    have HSZ := Lib.hid hsz
    by_cases h1 : 97 ≤ c
    · by_cases h2 : c ≤ 122
      · have g1 : decide (((mkS l)[0].toNat : Int) < 97) = false := decide_eq_false (by rw [← hc]; omega)
        have g2 : decide ((122 : Int) < ((mkS l)[0].toNat : Int)) = false := decide_eq_false (by rw [← hc]; omega)
        have HF : Hid (nameF l = l.all nmB) := by show _ = _; rw [hF0]; simp [letN, h1, h2]
        clear hq hF0 hc hg h1 h2 hsz h0
        go_enter Tryd.func63, Tryd.ntmps63
        go_wp2_with fail
        refine (CI.out _).mono ?_
        rintro e w' ⟨rfl, rfl⟩
        go_wp2
        go_loop [3] (fun i => ∃ k : Nat, k ≤ (mkS l).size ∧ i = .int .i64 k ∧ Hid (∀ j, j < k → nmB (l.getD j 0) = true)) (fun i => (mkS l).size - (intOf i).toNat)
        case atStart => exact ⟨0, Nat.zero_le _, rfl, fun j hj => by omega⟩
        case round =>
          clear g1 g2
          obtain ⟨k, hk, rfl, hr⟩ := hrel
          by_cases hlt : k < (mkS l).size
          · have hgk := mkS_get l k hlt
            obtain ⟨d, hd⟩ : ∃ d : Nat, d = (mkS l)[k].toNat := ⟨_, rfl⟩
            have hnm : nmB (l.getD k 0) = (letN d || digN d) := by rw [← hgk]; unfold nmB; rw [hd]
            have yes : nmB (l.getD k 0) = true → Hid (∀ j, j < k + 1 → nmB (l.getD j 0) = true) := fun h j hj => by
              by_cases e : j = k
              · subst e; exact h
              · exact hr.out j (by omega)
            have no : nmB (l.getD k 0) = false → Hid (l.all nmB = false) := fun h => by
              show _ = _
              refine (Bool.not_eq_true _).mp fun ha => ?_
              rw [List.all_eq_true] at ha
              have := ha (l.getD k 0) (by simp [List.getD_eq_getElem?_getD, show k < l.length by have := HSZ.out; omega])
              rw [h] at this; cases this
            clear hr hgk
            by_cases a1 : 97 ≤ d
            · by_cases a2 : d ≤ 122
              · have H := yes (by rw [hnm]; simp [letN, a1, a2])
                have k1 : decide ((97 : Int) ≤ ((mkS l)[k].toNat : Int)) = true := decide_eq_true (by rw [← hd]; omega)
                have k2 : decide (((mkS l)[k].toNat : Int) ≤ 122) = true := decide_eq_true (by rw [← hd]; omega)
                clear yes no hnm hd a1 a2
                go_wp2
                go_round
                case rel => exact ⟨k + 1, by omega, by go_num, H⟩
                case measure => simp [intOf]; omega
              · have H := no (by rw [hnm]; simp [letN, digN, a2]; omega)
                have k1 : decide ((97 : Int) ≤ ((mkS l)[k].toNat : Int)) = true := decide_eq_true (by rw [← hd]; omega)
                have k2 : decide (((mkS l)[k].toNat : Int) ≤ 122) = false := decide_eq_false (by rw [← hd]; omega)
                have k3 : decide ((48 : Int) ≤ ((mkS l)[k].toNat : Int)) = true := decide_eq_true (by rw [← hd]; omega)
                have k4 : decide (((mkS l)[k].toNat : Int) ≤ 57) = false := decide_eq_false (by rw [← hd]; omega)
                clear yes no hnm hd a1 a2
                go_wp2
                go_ret
                exact ⟨ret_bool (by rw [HF.out, H.out]), rfl⟩
            · have k1 : decide ((97 : Int) ≤ ((mkS l)[k].toNat : Int)) = false := decide_eq_false (by rw [← hd]; omega)
              by_cases a3 : 48 ≤ d
              · have k3 : decide ((48 : Int) ≤ ((mkS l)[k].toNat : Int)) = true := decide_eq_true (by rw [← hd]; omega)
                by_cases a4 : d ≤ 57
                · have H := yes (by rw [hnm]; simp [digN, a3, a4])
                  have k4 : decide (((mkS l)[k].toNat : Int) ≤ 57) = true := decide_eq_true (by rw [← hd]; omega)
                  clear yes no hnm hd a1 a3 a4
                  go_wp2
                  go_round
                  case rel => exact ⟨k + 1, by omega, by go_num, H⟩
                  case measure => simp [intOf]; omega
                · have H := no (by rw [hnm]; simp [letN, digN, a1, a4])
                  have k4 : decide (((mkS l)[k].toNat : Int) ≤ 57) = false := decide_eq_false (by rw [← hd]; omega)
                  clear yes no hnm hd a1 a3 a4
                  go_wp2
                  go_ret
                  exact ⟨ret_bool (by rw [HF.out, H.out]), rfl⟩
              · have H := no (by rw [hnm]; simp [letN, digN, a1, a3])
                have k3 : decide ((48 : Int) ≤ ((mkS l)[k].toNat : Int)) = false := decide_eq_false (by rw [← hd]; omega)
                clear yes no hnm hd a1 a3
                go_wp2
                go_ret
                exact ⟨ret_bool (by rw [HF.out, H.out]), rfl⟩
          · have H : Hid (l.all nmB = true) := by
              show _ = _
              rw [List.all_eq_true]
              intro x hx
              obtain ⟨i, hi, rfl⟩ := List.getElem_of_mem hx
              have := hr.out i (by have := HSZ.out; omega)
              simpa [List.getD_eq_getElem?_getD, hi] using this
            clear hr
            go_wp2
            go_ret
            exact ⟨ret_bool (by rw [HF.out, H.out]), rfl⟩
      · have g1 : decide (((mkS l)[0].toNat : Int) < 97) = false := decide_eq_false (by rw [← hc]; omega)
        have g2 : decide ((122 : Int) < ((mkS l)[0].toNat : Int)) = true := decide_eq_true (by rw [← hc]; omega)
        have HF : Hid (nameF l = false) := by show _ = _; rw [hF0]; simp [letN, h2]
        clear hq hF0 hc hg h1 h2 hsz h0
        go_enter Tryd.func63, Tryd.ntmps63
        go_wp2_with fail
        refine (CI.out _).mono ?_
        rintro e w' ⟨rfl, rfl⟩
        go_wp2
        go_ret
        exact ⟨ret_bool HF.out.symm, rfl⟩
    · have g1 : decide (((mkS l)[0].toNat : Int) < 97) = true := decide_eq_true (by rw [← hc]; omega)
      have HF : Hid (nameF l = false) := by show _ = _; rw [hF0]; simp [letN, h1]
      clear hq hF0 hc hg h1 hsz h0
      go_enter Tryd.func63, Tryd.ntmps63
      go_wp2_with fail
      refine (CI.out _).mono ?_
      rintro e w' ⟨rfl, rfl⟩
      go_wp2
      go_ret
      exact ⟨ret_bool HF.out.symm, rfl⟩
  · have hq : (decide ((1 : Int) ≤ ((mkS l).size : Nat)) && decide ((((mkS l).size : Nat) : Int) ≤ 12)) = false := by
      rw [Bool.and_eq_false_iff, decide_eq_false_iff_not, decide_eq_false_iff_not]; omega
    rw [hq] at CI
    have HF : Hid (nameF l = false) := by
      show _ = _
      unfold nameF
      have : (decide (1 ≤ l.length) && decide (l.length ≤ 12)) = false := by rw [Bool.and_eq_false_iff, decide_eq_false_iff_not, decide_eq_false_iff_not]; omega
      rw [this]; simp
    clear hq hsz hsm h0
    go_enter Tryd.func63, Tryd.ntmps63
    go_wp2_with fail
    refine (CI.out _).mono ?_
    rintro e w' ⟨rfl, rfl⟩
    go_wp2
    go_ret
    exact ⟨ret_bool HF.out.symm, rfl⟩

set_option maxRecDepth 100000 in
set_option maxHeartbeats 2000000 in
theorem refTName_any (l : List UInt8) (w : World) (hs : l.length ≤ 281474976710656) :
    Calls Tryd.prog 61 #[.string (mkS l)] w fun e w' => e = .returned (.bool (tnameF l)) ∧ Below w.heap.size w w' := by
  have CN : Hid (∀ W, Calls Tryd.prog 63 #[.string (mkS l)] W fun e w' => e = .returned (.bool (nameF l)) ∧ w' = W) := fun W => refName_any l W hs
  have CWd : Hid (∀ W, Calls Tryd.prog 115 #[] W fun e w' => e = .returned (.slice (some ⟨W.heap.size, 0, none⟩) 6 6) ∧ w' = W.alloc (.cells (wordsL.map strV).toArray 9)) := fun W => by
    go_enter Tryd.func115, Tryd.ntmps115
    go_wp2
    go_ret
    exact ⟨rfl, rfl⟩
  have CF : Hid (∀ (W V : World), V = W.alloc (.cells (wordsL.map strV).toArray 9) → Calls Tryd.prog 64 #[.slice (some ⟨W.heap.size, 0, none⟩) 6 6, .string (mkS l)] V fun e w' => e = .returned (.int .i64 (findF wordsL l)) ∧ w' = V) := fun W V hV =>
    find_any _ wordsL l V (by
      rw [hV]
      exact rd_block (vs := wordsL.map strV) (cap := 6) (heap_alloc_new W (.cells (wordsL.map strV).toArray 9)) rfl (by decide) (by decide))
  have hq : decide (findF wordsL l < 0) = !wordsL.contains l := by
    rcases find_cases wordsL l with ⟨h1, h2⟩ | ⟨k, k1, k2, k3, k4⟩
    · rw [h1, List.contains_eq_mem, decide_eq_false h2]; rfl
    · rw [k2, List.contains_eq_mem, decide_eq_true (show l ∈ wordsL by rw [← k3]; simp [List.getD_eq_getElem?_getD, k1])]; exact decide_eq_false (by omega)
  obtain ⟨r, hr⟩ : ∃ r, r = findF wordsL l := ⟨_, rfl⟩
  rw [← hr] at CF hq
  have HF : Hid (tnameF l = (nameF l && !wordsL.contains l)) := rfl
  rw [← hq] at HF
  clear hr hq hs
  cases hn : nameF l with
  | true =>
    rw [hn] at CN HF
    clear hn
    go_enter Tryd.func61, Tryd.ntmps61
    go_wp2_with fail
    refine (CN.out _).mono ?_
    rintro e w' ⟨rfl, rfl⟩
    go_wp2_with fail
    refine (CWd.out _).mono ?_
    rintro e w2 ⟨rfl, h2⟩
    have H2 := Lib.hid h2
    clear h2
    go_wp2_with fail
    refine (CF.out _ _ H2.out).mono ?_
    rintro e w3 ⟨rfl, rfl⟩
    go_wp2
    go_ret
    exact ⟨ret_bool (by rw [HF.out]; rfl), by rw [H2.out]; exact (Below.refl _ _).alloc (Nat.le_refl _) _⟩
  | false =>
    rw [hn] at CN HF
    clear hn
    go_enter Tryd.func61, Tryd.ntmps61
    go_wp2_with fail
    refine (CN.out _).mono ?_
    rintro e w' ⟨rfl, rfl⟩
    go_wp2
    go_ret
    exact ⟨ret_bool (by rw [HF.out]; rfl), Below.refl _ _⟩
end Go.Proofs.YtgbjelglifihnaaDoor.Or
