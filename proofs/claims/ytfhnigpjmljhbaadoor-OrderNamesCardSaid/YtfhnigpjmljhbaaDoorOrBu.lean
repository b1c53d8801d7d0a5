import Derived.Test.YtfhnigpjmljhbaaDoorOrNa
/- The reference: In, IsName, Find, IsTableName. -/
set_option linter.unusedVariables false
set_option linter.unusedSimpArgs false
namespace Go.Proofs.YtfhnigpjmljhbaaDoor.Or
open Go.RowKit

set_option maxHeartbeats 800000 in
theorem in_any (x lo hi : Int) (w : World) :
    Calls Tryd.prog 74 #[.int .i64 x, .int .i64 lo, .int .i64 hi] w fun e w' => e = .returned (.bool (decide (lo ≤ x) && decide (x ≤ hi))) ∧ w' = w := by
  by_cases h1 : lo ≤ x
  · by_cases h2 : x ≤ hi
    · have g1 : decide (lo ≤ x) = true := decide_eq_true h1
      have g2 : decide (x ≤ hi) = true := decide_eq_true h2
      go_enter Tryd.func74, Tryd.ntmps74
      go_wp2
      go_ret
      exact ⟨ret_bool (by simp [h1, h2]), rfl⟩
    · have g1 : decide (lo ≤ x) = true := decide_eq_true h1
      have g2 : decide (x ≤ hi) = false := decide_eq_false h2
      go_enter Tryd.func74, Tryd.ntmps74
      go_wp2
      go_ret
      exact ⟨ret_bool (by simp [h1, h2]), rfl⟩
  · have g1 : decide (lo ≤ x) = false := decide_eq_false h1
    go_enter Tryd.func74, Tryd.ntmps74
    go_wp2
    go_ret
    exact ⟨ret_bool (by simp [h1]), rfl⟩

set_option maxRecDepth 100000 in
set_option maxHeartbeats 2000000 in
theorem find_any (v : Value) (ls : List (List UInt8)) (s : List UInt8) (w : World) (hv : RdS w v ls) :
    Calls Tryd.prog 70 #[v, .string (mkS s)] w fun e w' => e = .returned (.int .i64 (findF ls s)) ∧ w' = w := by
  obtain ⟨p, cap, rfl⟩ := hv.form
  have hln := hv.len
  have HV := Lib.hid hv
  obtain ⟨n, hn⟩ : ∃ n, n = ls.length := ⟨_, rfl⟩
  rw [← hn] at HV hln ⊢
  have HN := Lib.hid hn
  clear hv hn
  go_enter Tryd.func70, Tryd.ntmps70
  go_wp2
  go_loop [5] (fun i => ∃ k : Nat, k ≤ n ∧ i = .int .i64 k ∧ Hid (s ∉ ls.take k)) (fun i => n - (intOf i).toNat)
  case atStart => exact ⟨0, Nat.zero_le _, rfl, by show _ ∉ _; simp⟩
  case round =>
    obtain ⟨k, hk, rfl, hr⟩ := hrel
    by_cases hlt : k < n
    · obtain ⟨b, off, rfl, hc⟩ := HV.out.cell (i := k) (by have := HN.out; omega)
      obtain ⟨x, hx⟩ : ∃ x, x = ls.getD k [] := ⟨_, rfl⟩
      rw [← hx] at hc
      by_cases he : x = s
      · have hF : Hid (findF ls s = k) := find_at (by have := HN.out; omega) (by rw [← hx, he]) hr.out
        have hq : ((mkS x).toList == (mkS s).toList) = true := by rw [he]; simp
        have hq' : (mkS x).toList = (mkS s).toList := by rw [he]
        clear hr he hx
        go_wp2
        go_ret
        exact ⟨ret_int (by rw [hF.out]), rfl⟩
      · have hF : Hid (s ∉ ls.take (k + 1)) := by
          show _ ∉ _
          intro hm
          rw [List.take_succ_eq_append_getElem (by have := HN.out; omega), List.mem_append] at hm
          rcases hm with hm | hm
          · exact hr.out hm
          · rw [List.mem_singleton] at hm
            exact he (by rw [hm, hx]; simp [List.getD_eq_getElem?_getD, show k < ls.length by have := HN.out; omega])
        have hq : ((mkS x).toList == (mkS s).toList) = false := by rw [beq_eq_false_iff_ne]; intro h; exact he (mkS_tl.1 h)
        have hq' : ¬ (mkS x).toList = (mkS s).toList := fun h => he (mkS_tl.1 h)
        clear hr he hx
        go_wp2
        go_round
        case rel => exact ⟨k + 1, by omega, by go_num, hF⟩
        case measure => simp [intOf]; omega
    · have hF : Hid (findF ls s = -1) := by
        refine find_no ?_
        have := hr.out
        rwa [List.take_of_length_le (by have := HN.out; omega)] at this
      clear hr
      go_wp2
      go_ret
      exact ⟨ret_int (by rw [hF.out]), rfl⟩

set_option maxRecDepth 100000 in
set_option maxHeartbeats 4000000 in
theorem refName_any (l : List UInt8) (w : World) (hs : l.length ≤ 281474976710656) :
    Calls Tryd.prog 75 #[.string (mkS l)] w fun e w' => e = .returned (.bool (nameF l)) ∧ w' = w := by
  have hsz : (mkS l).size = l.length := mkS_size l
  have hsm : (mkS l).size ≤ 281474976710656 := by omega
  have CI : Hid (∀ W, Calls Tryd.prog 74 #[.int .i64 ((mkS l).size : Nat), .int .i64 1, .int .i64 12] W fun e w' => e = .returned (.bool (decide ((1 : Int) ≤ ((mkS l).size : Nat)) && decide ((((mkS l).size : Nat) : Int) ≤ 12))) ∧ w' = W) := fun W => in_any _ 1 12 W
  by_cases h0 : 1 ≤ l.length ∧ l.length ≤ 12
  · have hq : (decide ((1 : Int) ≤ ((mkS l).size : Nat)) && decide ((((mkS l).size : Nat) : Int) ≤ 12)) = true := by
      rw [decide_eq_true (by omega), decide_eq_true (by omega)]; rfl
    rw [hq] at CI
    have hpos : 0 < (mkS l).size := by omega
    have hF0 : nameF l = (letN (l.getD 0 0).toNat && l.all nmB) := by
      unfold nameF; rw [decide_eq_true h0.1, decide_eq_true h0.2]; rfl
    obtain ⟨c, hc⟩ : ∃ c : Nat, c = (mkS l)[0].toNat := ⟨_, rfl⟩
    have hg := mkS_get l 0 hpos
    rw [← hg, ← hc] at hF0
    have HSZ := Lib.hid hsz
    by_cases h1 : 97 ≤ c
    · by_cases h2 : c ≤ 122
      · have g1 : decide (((mkS l)[0].toNat : Int) < 97) = false := decide_eq_false (by rw [← hc]; omega)
        have g2 : decide ((122 : Int) < ((mkS l)[0].toNat : Int)) = false := decide_eq_false (by rw [← hc]; omega)
        have HF : Hid (nameF l = l.all nmB) := by show _ = _; rw [hF0]; simp [letN, h1, h2]
        clear hq hF0 hc hg h1 h2 hsz h0
        go_enter Tryd.func75, Tryd.ntmps75
        go_wp2_with fail
        refine (CI.out _).mono ?_
        rintro e w' ⟨rfl, rfl⟩
        go_wp2
        go_loop [3] (fun i => ∃ k : Nat, k ≤ (mkS l).size ∧ i = .int .i64 k ∧ Hid (∀ j, j < k → nmB (l.getD j 0) = true)) (fun i => (mkS l).size - (intOf i).toNat)
        case atStart => exact ⟨0, Nat.zero_le _, rfl, fun j hj => by omega⟩
        case round =>
          clear g1 g2
          obtain ⟨k, hk, rfl, hr⟩ := hrel
          by_cases hlt : k < (mkS l).size
          · have hgk := mkS_get l k hlt
            obtain ⟨d, hd⟩ : ∃ d : Nat, d = (mkS l)[k].toNat := ⟨_, rfl⟩
            have hnm : nmB (l.getD k 0) = (letN d || digN d) := by rw [← hgk]; unfold nmB; rw [hd]
            have yes : nmB (l.getD k 0) = true → Hid (∀ j, j < k + 1 → nmB (l.getD j 0) = true) := fun h j hj => by
              by_cases e : j = k
              · subst e; exact h
              · exact hr.out j (by omega)
            have no : nmB (l.getD k 0) = false → Hid (l.all nmB = false) := fun h => by
              show _ = _
              refine (Bool.not_eq_true _).mp fun ha => ?_
              rw [List.all_eq_true] at ha
              have := ha (l.getD k 0) (by simp [List.getD_eq_getElem?_getD, show k < l.length by have := HSZ.out; omega])
              rw [h] at this; cases this
            clear hr hgk
            by_cases a1 : 97 ≤ d
            · by_cases a2 : d ≤ 122
              · have H := yes (by rw [hnm]; simp [letN, a1, a2])
                have k1 : decide ((97 : Int) ≤ ((mkS l)[k].toNat : Int)) = true := decide_eq_true (by rw [← hd]; omega)
                have k2 : decide (((mkS l)[k].toNat : Int) ≤ 122) = true := decide_eq_true (by rw [← hd]; omega)
                clear yes no hnm hd a1 a2
                go_wp2
                go_round
                case rel => exact ⟨k + 1, by omega, by go_num, H⟩
                case measure => simp [intOf]; omega
              · have H := no (by rw [hnm]; simp [letN, digN, a2]; omega)
                have k1 : decide ((97 : Int) ≤ ((mkS l)[k].toNat : Int)) = true := decide_eq_true (by rw [← hd]; omega)
                have k2 : decide (((mkS l)[k].toNat : Int) ≤ 122) = false := decide_eq_false (by rw [← hd]; omega)
                have k3 : decide ((48 : Int) ≤ ((mkS l)[k].toNat : Int)) = true := decide_eq_true (by rw [← hd]; omega)
                have k4 : decide (((mkS l)[k].toNat : Int) ≤ 57) = false := decide_eq_false (by rw [← hd]; omega)
                clear yes no hnm hd a1 a2
                go_wp2
                go_ret
                exact ⟨ret_bool (by rw [HF.out, H.out]), rfl⟩
            · have k1 : decide ((97 : Int) ≤ ((mkS l)[k].toNat : Int)) = false := decide_eq_false (by rw [← hd]; omega)
              by_cases a3 : 48 ≤ d
              · have k3 : decide ((48 : Int) ≤ ((mkS l)[k].toNat : Int)) = true := decide_eq_true (by rw [← hd]; omega)
                by_cases a4 : d ≤ 57
                · have H := yes (by rw [hnm]; simp [digN, a3, a4])
                  have k4 : decide (((mkS l)[k].toNat : Int) ≤ 57) = true := decide_eq_true (by rw [← hd]; omega)
                  clear yes no hnm hd a1 a3 a4
                  go_wp2
                  go_round
                  case rel => exact ⟨k + 1, by omega, by go_num, H⟩
                  case measure => simp [intOf]; omega
                · have H := no (by rw [hnm]; simp [letN, digN, a1, a4])
                  have k4 : decide (((mkS l)[k].toNat : Int) ≤ 57) = false := decide_eq_false (by rw [← hd]; omega)
                  clear yes no hnm hd a1 a3 a4
                  go_wp2
                  go_ret
                  exact ⟨ret_bool (by rw [HF.out, H.out]), rfl⟩
              · have H := no (by rw [hnm]; simp [letN, digN, a1, a3])
                have k3 : decide ((48 : Int) ≤ ((mkS l)[k].toNat : Int)) = false := decide_eq_false (by rw [← hd]; omega)
                clear yes no hnm hd a1 a3
                go_wp2
                go_ret
                exact ⟨ret_bool (by rw [HF.out, H.out]), rfl⟩
          · have H : Hid (l.all nmB = true) := by
              show _ = _
              rw [List.all_eq_true]
              intro x hx
              obtain ⟨i, hi, rfl⟩ := List.getElem_of_mem hx
              have := hr.out i (by have := HSZ.out; omega)
              simpa [List.getD_eq_getElem?_getD, hi] using this
            clear hr
            go_wp2
            go_ret
            exact ⟨ret_bool (by rw [HF.out, H.out]), rfl⟩
      · have g1 : decide (((mkS l)[0].toNat : Int) < 97) = false := decide_eq_false (by rw [← hc]; omega)
        have g2 : decide ((122 : Int) < ((mkS l)[0].toNat : Int)) = true := decide_eq_true (by rw [← hc]; omega)
        have HF : Hid (nameF l = false) := by show _ = _; rw [hF0]; simp [letN, h2]
        clear hq hF0 hc hg h1 h2 hsz h0
        go_enter Tryd.func75, Tryd.ntmps75
        go_wp2_with fail
        refine (CI.out _).mono ?_
        rintro e w' ⟨rfl, rfl⟩
        go_wp2
        go_ret
        exact ⟨ret_bool HF.out.symm, rfl⟩
    · have g1 : decide (((mkS l)[0].toNat : Int) < 97) = true := decide_eq_true (by rw [← hc]; omega)
      have HF : Hid (nameF l = false) := by show _ = _; rw [hF0]; simp [letN, h1]
      clear hq hF0 hc hg h1 hsz h0
      go_enter Tryd.func75, Tryd.ntmps75
      go_wp2_with fail
      refine (CI.out _).mono ?_
      rintro e w' ⟨rfl, rfl⟩
      go_wp2
      go_ret
      exact ⟨ret_bool HF.out.symm, rfl⟩
  · have hq : (decide ((1 : Int) ≤ ((mkS l).size : Nat)) && decide ((((mkS l).size : Nat) : Int) ≤ 12)) = false := by
      rw [Bool.and_eq_false_iff, decide_eq_false_iff_not, decide_eq_false_iff_not]; omega
    rw [hq] at CI
    have HF : Hid (nameF l = false) := by
      show _ = _
      unfold nameF
      have : (decide (1 ≤ l.length) && decide (l.length ≤ 12)) = false := by rw [Bool.and_eq_false_iff, decide_eq_false_iff_not, decide_eq_false_iff_not]; omega
      rw [this]; simp
    clear hq hsz hsm h0
    go_enter Tryd.func75, Tryd.ntmps75
    go_wp2_with fail
    refine (CI.out _).mono ?_
    rintro e w' ⟨rfl, rfl⟩
    go_wp2
    go_ret
    exact ⟨ret_bool HF.out.symm, rfl⟩

set_option maxRecDepth 100000 in
set_option maxHeartbeats 2000000 in
theorem refTName_any (l : List UInt8) (w : World) (hs : l.length ≤ 281474976710656) :
    Calls Tryd.prog 73 #[.string (mkS l)] w fun e w' => e = .returned (.bool (tnameF l)) ∧ Below w.heap.size w w' := by
  have CN : Hid (∀ W, Calls Tryd.prog 75 #[.string (mkS l)] W fun e w' => e = .returned (.bool (nameF l)) ∧ w' = W) := fun W => refName_any l W hs
  have CWd : Hid (∀ W, Calls Tryd.prog 108 #[] W fun e w' => e = .returned (.slice (some ⟨W.heap.size, 0, none⟩) 6 6) ∧ w' = W.alloc (.cells (wordsL.map strV).toArray 9)) := fun W => by
    go_enter Tryd.func108, Tryd.ntmps108
    go_wp2
    go_ret
    exact ⟨rfl, rfl⟩
  have CF : Hid (∀ (W V : World), V = W.alloc (.cells (wordsL.map strV).toArray 9) → Calls Tryd.prog 70 #[.slice (some ⟨W.heap.size, 0, none⟩) 6 6, .string (mkS l)] V fun e w' => e = .returned (.int .i64 (findF wordsL l)) ∧ w' = V) := fun W V hV =>
    find_any _ wordsL l V (by
      rw [hV]
      exact rd_block (vs := wordsL.map strV) (cap := 6) (heap_alloc_new W (.cells (wordsL.map strV).toArray 9)) rfl (by decide) (by decide))
  have hq : decide (findF wordsL l < 0) = !wordsL.contains l := by
    rcases find_cases wordsL l with ⟨h1, h2⟩ | ⟨k, k1, k2, k3, k4⟩
    · rw [h1, List.contains_eq_mem, decide_eq_false h2]; rfl
    · rw [k2, List.contains_eq_mem, decide_eq_true (show l ∈ wordsL by rw [← k3]; simp [List.getD_eq_getElem?_getD, k1])]; exact decide_eq_false (by omega)
  obtain ⟨r, hr⟩ : ∃ r, r = findF wordsL l := ⟨_, rfl⟩
  rw [← hr] at CF hq
  have HF : Hid (tnameF l = (nameF l && !wordsL.contains l)) := rfl
  rw [← hq] at HF
  clear hr hq hs
  cases hn : nameF l with
  | true =>
    rw [hn] at CN HF
    clear hn
    go_enter Tryd.func73, Tryd.ntmps73
    go_wp2_with fail
    refine (CN.out _).mono ?_
    rintro e w' ⟨rfl, rfl⟩
    go_wp2_with fail
    refine (CWd.out _).mono ?_
    rintro e w2 ⟨rfl, h2⟩
    have H2 := Lib.hid h2
    clear h2
    go_wp2_with fail
    refine (CF.out _ _ H2.out).mono ?_
    rintro e w3 ⟨rfl, rfl⟩
    go_wp2
    go_ret
    exact ⟨ret_bool (by rw [HF.out]; rfl), by rw [H2.out]; exact (Below.refl _ _).alloc (Nat.le_refl _) _⟩
  | false =>
    rw [hn] at CN HF
    clear hn
    go_enter Tryd.func73, Tryd.ntmps73
    go_wp2_with fail
    refine (CN.out _).mono ?_
    rintro e w' ⟨rfl, rfl⟩
    go_wp2
    go_ret
    exact ⟨ret_bool (by rw [HF.out]; rfl), Below.refl _ _⟩
end Go.Proofs.YtfhnigpjmljhbaaDoor.Or

/- Thin and SameInts. -/
set_option linter.unusedVariables false
set_option linter.unusedSimpArgs false
namespace Go.Proofs.YtfhnigpjmljhbaaDoor.Or
open Go.RowKit

/-- Whether a table is not more than the statements look at. -/
def thinF (t : Tab) : Bool := decide (t.elems.length ≤ 20) && decide (t.above.length ≤ 20) && decide (t.wrong.length ≤ 20) && decide (t.name.length ≤ 30) && t.elems.all (fun s => decide (s.length ≤ 30)) && t.above.all (fun l => decide (l.length ≤ 20))
theorem all_of {α : Type} (l : List α) (d : α) (p : α → Bool) (n : Nat) (hn : l.length ≤ n) (h : ∀ j, j < n → j < l.length → p (l.getD j d) = true) : l.all p = true := by
  rw [List.all_eq_true]
  intro x hx
  obtain ⟨i, hi, rfl⟩ := List.getElem_of_mem hx
  have := h i (by omega) hi
  simpa [List.getD_eq_getElem?_getD, hi] using this
theorem all_not {α : Type} (l : List α) (d : α) (p : α → Bool) (k : Nat) (hk : k < l.length) (h : p (l.getD k d) = false) : l.all p = false := by
  refine (Bool.not_eq_true _).mp fun ha => ?_
  rw [List.all_eq_true] at ha
  have := ha (l.getD k d) (by simp [List.getD_eq_getElem?_getD, hk])
  rw [h] at this; cases this

set_option maxRecDepth 100000 in
set_option maxHeartbeats 4000000 in
theorem thin_any (t : Tab) (ve va vw : Value) (w : World) (hT : TabIn w ve va vw t) (hnm : t.name.length ≤ 281474976710656) :
    Calls Tryd.prog 17 #[tabV t ve va vw] w fun e w' => e = .returned (.bool (thinF t)) ∧ Below w.heap.size w w' := by
  obtain ⟨pe, ce, rfl⟩ := hT.e.form
  obtain ⟨pa, ca, rfl⟩ := hT.a.form
  obtain ⟨pw, cw, rfl⟩ := hT.w.form
  have l1 := hT.e.len; have l2 := hT.a.len; have l3 := hT.w.len
  have HT := Lib.hid hT
  obtain ⟨n, hn⟩ : ∃ n, n = t.elems.length := ⟨_, rfl⟩
  obtain ⟨la, hla⟩ : ∃ n, n = t.above.length := ⟨_, rfl⟩
  obtain ⟨lw, hlw⟩ : ∃ n, n = t.wrong.length := ⟨_, rfl⟩
  obtain ⟨nm, hnmE⟩ : ∃ n, n = (mkS t.name).size := ⟨_, rfl⟩
  have hnmS : nm = t.name.length := by rw [hnmE, mkS_size]
  have HF : Hid (thinF t = (decide (n ≤ 20) && decide (la ≤ 20) && decide (lw ≤ 20) && decide (nm ≤ 30) && t.elems.all (fun s => decide (s.length ≤ 30)) && t.above.all (fun l => decide (l.length ≤ 20)))) := by
    show _ = _; unfold thinF; rw [hn, hla, hlw, hnmS]
  rw [← hn, ← hla, ← hlw] at HT
  rw [← hn] at l1; rw [← hla] at l2; rw [← hlw] at l3
  unfold tabV
  rw [← hn, ← hla, ← hlw]
  have HN := Lib.hid hn; have HLA := Lib.hid hla; have HNM := Lib.hid hnmE
  clear hT hn hla hlw hnmS
  have small : ∀ (F : thinF t = false), Hid (thinF t = false) := fun F => F
  by_cases h1 : 20 < n
  · have g1 : decide ((20 : Int) < (n : Int)) = true := decide_eq_true (by omega)
    have HX : Hid (thinF t = false) := by show _ = _; rw [HF.out, decide_eq_false (show ¬ n ≤ 20 by omega)]; simp
    clear small
    go_enter Tryd.func17, Tryd.ntmps17
    go_wp2
    go_ret
    exact ⟨ret_bool HX.out.symm, (Below.refl _ _).alloc (Nat.le_refl _) _⟩
  have g1 : decide ((20 : Int) < (n : Int)) = false := decide_eq_false (by omega)
  by_cases h2 : 20 < la
  · have g2 : decide ((20 : Int) < (la : Int)) = true := decide_eq_true (by omega)
    have HX : Hid (thinF t = false) := by show _ = _; rw [HF.out, decide_eq_false (show ¬ la ≤ 20 by omega)]; simp
    clear small
    go_enter Tryd.func17, Tryd.ntmps17
    go_wp2
    go_ret
    exact ⟨ret_bool HX.out.symm, (Below.refl _ _).alloc (Nat.le_refl _) _⟩
  have g2 : decide ((20 : Int) < (la : Int)) = false := decide_eq_false (by omega)
  by_cases h3 : 20 < lw
  · have g3 : decide ((20 : Int) < (lw : Int)) = true := decide_eq_true (by omega)
    have HX : Hid (thinF t = false) := by show _ = _; rw [HF.out, decide_eq_false (show ¬ lw ≤ 20 by omega)]; simp
    clear small
    go_enter Tryd.func17, Tryd.ntmps17
    go_wp2
    go_ret
    exact ⟨ret_bool HX.out.symm, (Below.refl _ _).alloc (Nat.le_refl _) _⟩
  have g3 : decide ((20 : Int) < (lw : Int)) = false := decide_eq_false (by omega)
  by_cases h4 : 30 < nm
  · have g4 : decide ((30 : Int) < ((mkS t.name).size : Int)) = true := decide_eq_true (by omega)
    have HX : Hid (thinF t = false) := by show _ = _; rw [HF.out, decide_eq_false (show ¬ nm ≤ 30 by omega)]; simp
    clear small hnmE
    go_enter Tryd.func17, Tryd.ntmps17
    go_wp2
    go_ret
    exact ⟨ret_bool HX.out.symm, (Below.refl _ _).alloc (Nat.le_refl _) _⟩
  have g4 : decide ((30 : Int) < ((mkS t.name).size : Int)) = false := decide_eq_false (by omega)
  have HX : Hid (thinF t = (t.elems.all (fun s => decide (s.length ≤ 30)) && t.above.all (fun l => decide (l.length ≤ 20)))) := by
    show _ = _
    rw [HF.out, decide_eq_true (show n ≤ 20 by omega), decide_eq_true (show la ≤ 20 by omega), decide_eq_true (show lw ≤ 20 by omega), decide_eq_true (show nm ≤ 30 by omega)]; simp
  have hbox : Below w.heap.size w (w.alloc (.cells #[.string (mkS t.name), .slice pe n ce, .slice pa la ca, .slice pw lw cw] 26)) := (Below.refl _ _).alloc (Nat.le_refl _) _
  have HB := Lib.hid hbox
  clear small hnmE HF hbox
  go_enter Tryd.func17, Tryd.ntmps17
  go_wp2
  go_loop [3] (fun i => ∃ k : Nat, k ≤ n ∧ i = .int .i64 k ∧ Hid (∀ j, j < k → j < t.elems.length → decide ((t.elems.getD j []).length ≤ 30) = true)) (fun i => n - (intOf i).toNat)
  case atStart => exact ⟨0, Nat.zero_le _, rfl, fun j hj => by omega⟩
  case round =>
    clear g1 g2 g3 g4
    obtain ⟨k, hk, rfl, hr⟩ := hrel
    by_cases hlt : k < n
    · have hkl : k < t.elems.length := by have := HN.out; omega
      obtain ⟨b, off, rfl, hc⟩ := HT.out.e.cell (i := k) hkl
      have lb : b < w.heap.size := cell_lt hc
      obtain ⟨s, hs⟩ : ∃ s, s = t.elems.getD k [] := ⟨_, rfl⟩
      rw [← hs] at hc
      obtain ⟨z, hz⟩ : ∃ z, z = (mkS s).size := ⟨_, rfl⟩
      have hzs : z = s.length := by rw [hz, mkS_size]
      by_cases h5 : 30 < z
      · have g5 : decide ((30 : Int) < ((mkS s).size : Int)) = true := decide_eq_true (by omega)
        have HY : Hid (thinF t = false) := by
          show _ = _
          rw [HX.out, all_not t.elems [] _ k hkl (by rw [← hs]; exact decide_eq_false (by omega))]; rfl
        clear hr hs hz hzs h5
        go_wp2
        go_ret
        exact ⟨ret_bool HY.out.symm, HB.out⟩
      · have g5 : decide ((30 : Int) < ((mkS s).size : Int)) = false := decide_eq_false (by omega)
        have HR : Hid (∀ j, j < k + 1 → j < t.elems.length → decide ((t.elems.getD j []).length ≤ 30) = true) := fun j hj hjl => by
          by_cases e : j = k
          · subst e; rw [← hs]; exact decide_eq_true (by omega)
          · exact hr.out j (by omega) hjl
        clear hr hs hz hzs h5
        go_wp2
        go_round
        case rel => exact ⟨k + 1, by omega, by go_num, HR⟩
        case measure => simp [intOf]; omega
    · have HE : Hid (t.elems.all (fun s => decide (s.length ≤ 30)) = true) := all_of t.elems [] _ k (by have := HN.out; omega) hr.out
      clear hr
      go_wp2
      go_loop [4] (fun i => ∃ k : Nat, k ≤ la ∧ i = .int .i64 k ∧ Hid (∀ j, j < k → j < t.above.length → decide ((t.above.getD j []).length ≤ 20) = true)) (fun i => la - (intOf i).toNat)
      case atStart => exact ⟨0, Nat.zero_le _, rfl, fun j hj => by omega⟩
      case round =>
        clear hk hlt
        obtain ⟨k, hk, rfl, hr⟩ := hrel
        by_cases hlt : k < la
        · have hkl : k < t.above.length := by have := HLA.out; omega
          obtain ⟨b, off, q, c, rfl, hc, hi⟩ := HT.out.a.cell (i := k) hkl
          have lb : b < w.heap.size := cell_lt hc
          have hil := hi.len
          clear hi
          obtain ⟨z, hz⟩ : ∃ z, z = (t.above.getD k []).length := ⟨_, rfl⟩
          rw [← hz] at hc hil
          by_cases h5 : 20 < z
          · have g5 : decide ((20 : Int) < (z : Int)) = true := decide_eq_true (by omega)
            have HY : Hid (thinF t = false) := by
              show _ = _
              rw [HX.out, all_not t.above [] _ k hkl (by rw [← hz]; exact decide_eq_false (by omega))]; simp
            clear hr hz h5
            go_wp2
            go_ret
            exact ⟨ret_bool HY.out.symm, HB.out⟩
          · have g5 : decide ((20 : Int) < (z : Int)) = false := decide_eq_false (by omega)
            have HR : Hid (∀ j, j < k + 1 → j < t.above.length → decide ((t.above.getD j []).length ≤ 20) = true) := fun j hj hjl => by
              by_cases e : j = k
              · subst e; rw [← hz]; exact decide_eq_true (by omega)
              · exact hr.out j (by omega) hjl
            clear hr hz h5
            go_wp2
            go_round
            case rel => exact ⟨k + 1, by omega, by go_num, HR⟩
            case measure => simp [intOf]; omega
        · have HA : Hid (t.above.all (fun l => decide (l.length ≤ 20)) = true) := all_of t.above [] _ k (by have := HLA.out; omega) hr.out
          clear hr
          go_wp2
          go_ret
          exact ⟨ret_bool (by rw [HX.out, HE.out, HA.out]; rfl), HB.out⟩

set_option maxRecDepth 100000 in
set_option maxHeartbeats 2000000 in
theorem sameInts_any (u v : Value) (a c : List Int) (w : World) (hu : RdI w u a) (hv : RdI w v c) :
    Calls Tryd.prog 15 #[u, v] w fun e w' => e = .returned (.bool (a == c)) ∧ Below w.heap.size w w' := by
  obtain ⟨p, cp, rfl⟩ := hu.form
  obtain ⟨q, cq, rfl⟩ := hv.form
  have l1 := hu.len; have l2 := hv.len
  have HU := Lib.hid hu; have HV := Lib.hid hv
  obtain ⟨n, hn⟩ : ∃ n, n = a.length := ⟨_, rfl⟩
  obtain ⟨k2, hk2⟩ : ∃ n, n = c.length := ⟨_, rfl⟩
  rw [← hn] at HU l1 ⊢; rw [← hk2] at HV l2 ⊢
  have HN := Lib.hid hn; have HK := Lib.hid hk2
  clear hu hv hn hk2
  by_cases h0 : n = k2
  · have g0 : ((n : Int) != (k2 : Int)) = false := by rw [bne_eq_false_iff_eq]; omega
    have H0 := Lib.hid h0
    clear h0
    go_enter Tryd.func15, Tryd.ntmps15
    go_wp2
    go_loopw [5] (fun i wr => ∃ k : Nat, k ≤ n ∧ i = .int .i64 k ∧ Hid (∀ j, j < k → a.getD j 0 = c.getD j 0) ∧ Hid (Below w.heap.size w wr)) (fun i _ => n - (intOf i).toNat)
    case atStart => exact ⟨0, Nat.zero_le _, rfl, fun j hj => by omega, Below.refl _ _⟩
    case round =>
      clear g0
      obtain ⟨k, hk, rfl, hr, hb⟩ := hrel
      by_cases hlt : k < n
      · have hlt2 : k < k2 := by have := H0.out; omega
        obtain ⟨b1, o1, rfl, c1⟩ := (HU.out.below hb.out).cell (i := k) (by have := HN.out; omega)
        obtain ⟨b2, o2, rfl, c2⟩ := (HV.out.below hb.out).cell (i := k) (by have := HK.out; omega)
        obtain ⟨x, hx⟩ : ∃ x, x = a.getD k 0 := ⟨_, rfl⟩
        obtain ⟨y, hy⟩ : ∃ y, y = c.getD k 0 := ⟨_, rfl⟩
        rw [← hx] at c1; rw [← hy] at c2
        by_cases he : x = y
        · have g1 : (x != y) = false := by rw [bne_eq_false_iff_eq]; exact he
          have HR : Hid (∀ j, j < k + 1 → a.getD j 0 = c.getD j 0) := fun j hj => by
            by_cases e : j = k
            · subst e; rw [← hx, ← hy]; exact he
            · exact hr.out j (by omega)
          clear hr hx hy he
          go_wp2
          go_quiet (fail)
          go_wp2
          go_roundw
          case rel => exact ⟨k + 1, by omega, by go_num, HR, hb.out.trans (below_drewAt _ _ _)⟩
          case measure => simp [intOf]; omega
        · have g1 : (x != y) = true := by rw [bne_iff_ne]; exact he
          have HX : Hid ((a == c) = false) := by
            show _ = _
            rw [beq_eq_false_iff_ne]
            intro e; exact he (by rw [hx, hy, e])
          clear hr hx hy he
          go_wp2
          go_quiet (fail)
          go_wp2
          go_ret
          exact ⟨ret_bool HX.out.symm, hb.out.trans (below_drewAt _ _ _)⟩
      · have HX : Hid ((a == c) = true) := by
          show _ = _
          rw [beq_iff_eq]
          refine List.ext_getElem (by have := HN.out; have := HK.out; have := H0.out; omega) fun i h1 h2 => ?_
          have := hr.out i (by have := HN.out; omega)
          simpa [List.getD_eq_getElem?_getD, h1, h2] using this
        clear hr
        go_wp2
        go_ret
        exact ⟨ret_bool HX.out.symm, hb.out⟩
  · have g0 : ((n : Int) != (k2 : Int)) = true := by rw [bne_iff_ne]; omega
    have HX : Hid ((a == c) = false) := by
      show _ = _
      rw [beq_eq_false_iff_ne]
      intro e; exact h0 (by rw [HN.out, HK.out, e])
    clear h0
    go_enter Tryd.func15, Tryd.ntmps15
    go_wp2
    go_ret
    exact ⟨ret_bool HX.out.symm, Below.refl _ _⟩
end Go.Proofs.YtfhnigpjmljhbaaDoor.Or

/- The contract of elemText. -/
set_option linter.unusedVariables false
set_option linter.unusedSimpArgs false
namespace Go.Proofs.YtfhnigpjmljhbaaDoor.Or
open Go.RowKit

theorem mkS_append (a b : List UInt8) : mkS a ++ mkS b = mkS (a ++ b) := by
  apply ByteArray.ext; simp [mkS]
theorem ret_str {a b : ByteArray} (h : a = b) : Ending.returned (.string a) = .returned (.string b) := by rw [h]
theorem RdS.cells {w : World} {p : Option Addr} {n cap : Nat} {ls : List (List UInt8)} (h : RdS w (.slice p n cap) ls) (h0 : 0 < ls.length) : ∃ b off, p = some ⟨b, off, none⟩ ∧ ∀ i, i < ls.length → w.cell? ⟨b, off + i, none⟩ = some (.string (mkS (ls.getD i []))) := by
  obtain ⟨b, off, h1, h2⟩ := h.cell (i := 0) h0
  refine ⟨b, off, h1, fun i hi => ?_⟩
  obtain ⟨b', off', h1', h2'⟩ := h.cell hi
  rw [h1] at h1'; injection h1' with h1'; injection h1' with e1 e2 e3
  rw [e1, e2]; exact h2'

/-- What follows the name of an element in its text, by the list above it. -/
def linkT (t : Tab) : List UInt8 → List Int → List UInt8
  | _, [] => []
  | s, b :: r => s ++ t.elems.getD b.toNat [] ++ linkT t [44, 32] r
theorem link_snoc (t : Tab) : ∀ (s : List UInt8) (l : List Int) (b : Int), linkT t s (l ++ [b]) = linkT t s l ++ ((if l.length = 0 then s else [44, 32]) ++ t.elems.getD b.toNat [])
  | s, [], b => by simp [linkT]
  | s, c :: r, b => by
    rw [List.cons_append, linkT, link_snoc t [44, 32] r b, linkT]
    simp
/-- The text of an element. -/
def headT (t : Tab) (a : Nat) : List UInt8 := t.elems.getD a [] ++ (if t.wr a then [33] else [])
def elT (t : Tab) (a : Nat) : List UInt8 := headT t a ++ linkT t [58, 32] (t.above.getD a [])
theorem asc_len {n : Int} : ∀ {l : List Int} {last : Int}, ascF n last l = true → last < n → (l.length : Int) ≤ n - 1 - last
  | [], last, _, h => by simp; omega
  | x :: r, last, h, hl => by
    simp only [ascF, Bool.and_eq_true, decide_eq_true_eq] at h
    have := asc_len h.2 h.1.2
    simp; omega
theorem frm_name12 {t : Tab} (h : frmF t = true) (i : Nat) : (t.elems.getD i []).length ≤ 12 := by
  by_cases hi : i < t.elems.length
  · rw [frm_code] at h
    simp only [Bool.and_eq_true] at h
    have := h.2.1.1.2
    rw [List.all_eq_true] at this
    have h2 := this (t.elems.getD i []) (by simp [List.getD_eq_getElem?_getD, hi])
    unfold nameF at h2; simp at h2; exact h2.1.1.2
  · rw [List.getD_eq_getElem?_getD, List.getElem?_eq_none (by omega)]; simp
theorem link_len {t : Tab} (h : frmF t = true) : ∀ (s : List UInt8) (l : List Int), s.length = 2 → (linkT t s l).length ≤ 14 * l.length
  | s, [], _ => by simp [linkT]
  | s, b :: r, hs => by
    have := link_len h [44, 32] r rfl
    have h2 := frm_name12 h b.toNat
    simp only [linkT, List.length_append, List.length_cons]; omega
theorem head_len {t : Tab} (h : frmF t = true) (a : Nat) : (headT t a).length ≤ 13 := by
  have := frm_name12 h a
  have h2 : (if t.wr a then [33] else ([] : List UInt8)).length ≤ 1 := by split <;> simp
  unfold headT; rw [List.length_append]; omega
theorem above_len {t : Tab} (h : frmF t = true) (a : Nat) : (t.above.getD a []).length ≤ 12 := by
  obtain ⟨h1, h2, h3, h4⟩ := frm_len h
  by_cases ha : a < t.above.length
  · have := asc_len (frm_asc h ha) (by omega); omega
  · rw [List.getD_eq_getElem?_getD, List.getElem?_eq_none (by omega)]; simp

set_option maxRecDepth 100000 in
set_option maxHeartbeats 4000000 in
theorem elemText_any (t : Tab) (ve va vw : Value) (a : Nat) (w : World) (hT : TabIn w ve va vw t) (hf : frmF t = true) (ha : a < t.n) :
    Calls Tryd.prog 62 #[tabV t ve va vw, .int .i64 a] w fun e w' => e = .returned (.string (mkS (elT t a))) ∧ Below w.heap.size w w' := by
  obtain ⟨h1, h2, h3, h4⟩ := frm_len hf
  obtain ⟨pe, ce, rfl⟩ := hT.e.form
  obtain ⟨pa, ca, rfl⟩ := hT.a.form
  obtain ⟨pw, cw, rfl⟩ := hT.w.form
  have han : a < t.elems.length := ha
  obtain ⟨be, oe, rfl, hce⟩ := hT.e.cells (by omega)
  obtain ⟨ba, oa, qa, cq, rfl, hca, hrow⟩ := hT.a.cell (i := a) (by omega)
  obtain ⟨bw, ow, rfl, hcw⟩ := hT.w.cell (i := a) (by omega)
  have hla := above_len hf a
  have hlh := head_len hf a
  have hcea := hce a han
  have lbe : be < w.heap.size := cell_lt hcea
  have lba : ba < w.heap.size := cell_lt hca
  have lbw : bw < w.heap.size := cell_lt hcw
  have hasc := frm_asc hf (a := a) (by omega)
  have HELT : Hid (elT t a = headT t a ++ linkT t [58, 32] (t.above.getD a [])) := rfl
  obtain ⟨L, hL⟩ : ∃ L, L = t.above.getD a [] := ⟨_, rfl⟩
  rw [← hL] at hca hrow hla hasc HELT
  obtain ⟨n, hn⟩ : ∃ n, n = t.elems.length := ⟨_, rfl⟩
  have hrn : ∀ k, k < L.length → ∃ x : Nat, L.getD k 0 = x ∧ x < n := fun k hk => by
    have hm : L.getD k 0 ∈ L := by simp [List.getD_eq_getElem?_getD, hk]
    have := asc_mem hasc hm
    exact ⟨(L.getD k 0).toNat, by omega, by omega⟩
  have HRN := Lib.hid hrn; have HCE := Lib.hid hce; have HROW := Lib.hid hrow
  have HL14 : Hid (∀ k, (linkT t [58, 32] (L.take k)).length ≤ 14 * 12) := fun k => by
    have := link_len hf [58, 32] (L.take k) rfl
    have h5 : (L.take k).length ≤ L.length := by rw [List.length_take]; omega
    omega
  have HN12 : Hid (∀ i, (t.elems.getD i []).length ≤ 12) := frm_name12 hf
  have HWR : Hid (t.wr a = t.wrong.getD a false) := rfl
  obtain ⟨m, hm⟩ : ∃ m, m = L.length := ⟨_, rfl⟩
  rw [← hm] at hca HROW hla
  have HM := Lib.hid hm
  obtain ⟨nm, hnm⟩ : ∃ x, x = t.elems.getD a [] := ⟨_, rfl⟩
  have hnml : (mkS nm).size ≤ 12 := by rw [mkS_size, hnm]; exact frm_name12 hf a
  have HNM := Lib.hid hnm
  rw [← hnm] at hcea
  have e3 : t.above.length = n := by omega
  have e4 : t.wrong.length = n := by omega
  unfold tabV
  rw [e3, e4, ← hn]
  have han' : a < n := by omega
  have HN := Lib.hid hn
  clear hT hf hce hrow hasc hrn hL hm hn hnm h1 h2 h3 h4 han ha e3 e4
  have tail : ∀ (W : World) (os : List UInt8), True := fun _ _ => trivial
  cases hq : t.wr a with
  | true =>
    rw [← HWR.out, hq] at hcw
    have HH : Hid (headT t a = nm ++ [33]) := by show _ = _; unfold headT; rw [hq, ← HNM.out]; rfl
    have hfst : Hid (mkS nm ++ ⟨#[33]⟩ = mkS (headT t a)) := by show _ = _; rw [HH.out, ← mkS_append]; rfl
    clear hq tail
    go_enter Tryd.func62, Tryd.ntmps62
    go_wp2
    rw [hfst.out]
    go_loop [5, 6, 27] (fun o s i => ∃ (k : Nat) (os : List UInt8), k ≤ m ∧ i = .int .i64 k ∧ o = .string (mkS os) ∧ s = .string (mkS (if k = 0 then [58, 32] else [44, 32])) ∧ Hid (os = headT t a ++ linkT t [58, 32] (L.take k))) (fun _ _ i => m - (intOf i).toNat)
    case atStart => exact ⟨0, headT t a, Nat.zero_le _, rfl, rfl, rfl, by show _ = _; simp [linkT]⟩
    case round =>
      obtain ⟨k, os, hk, rfl, rfl, rfl, ho⟩ := hrel
      obtain ⟨sp, hsp⟩ : ∃ sp : List UInt8, sp = if k = 0 then [58, 32] else [44, 32] := ⟨_, rfl⟩
      rw [← hsp]
      by_cases hlt : k < m
      · have hkl : k < L.length := by have := HM.out; omega
        obtain ⟨bq, oq, rfl, hcq⟩ := HROW.out.cell (i := k) hkl
        obtain ⟨x, hx, hxn⟩ := HRN.out k hkl
        rw [hx] at hcq
        have hcx := HCE.out x (by have := HN.out; omega)
        have lbq : bq < w.heap.size := cell_lt hcq
        obtain ⟨y, hy⟩ : ∃ y, y = t.elems.getD x [] := ⟨_, rfl⟩
        rw [← hy] at hcx
        have s1 : (mkS sp).size = 2 := by rw [mkS_size, hsp]; split <;> rfl
        have s2 : (mkS y).size ≤ 12 := by rw [mkS_size, hy]; exact HN12.out x
        have s3 : (mkS os).size ≤ 181 := by rw [mkS_size, ho.out, List.length_append]; have := HL14.out k; omega
        have s4 : (mkS sp).size + (mkS y).size ≤ 281474976710656 := by omega
        have s5 : (mkS os).size + ((mkS sp).size + (mkS y).size) ≤ 281474976710656 := by omega
        have s6 : (mkS os).size + (mkS sp ++ mkS y).size ≤ 281474976710656 := by rw [ByteArray.size_append]; omega
        have HO : Hid (os ++ (sp ++ y) = headT t a ++ linkT t [58, 32] (L.take (k + 1))) := by
          show _ = _
          have e : L[k] = (x : Int) := by rw [← hx]; simp [List.getD_eq_getElem?_getD, hkl]
          have e2 : (L.take k).length = k := by rw [List.length_take]; omega
          rw [List.take_succ_eq_append_getElem hkl, link_snoc, ho.out, hsp, hy, e, e2, List.append_assoc]; rfl
        clear ho hsp hy hx hkl s1 s2 s3
        go_wp2
        go_round
        case rel => exact ⟨k + 1, os ++ (sp ++ y), by omega, by go_num, by rw [mkS_append, mkS_append], by rw [if_neg (by omega)]; rfl, HO⟩
        case measure => simp [intOf]; omega
      · have HF : Hid (os = elT t a) := by
          show _ = _
          rw [HELT.out, ho.out, List.take_of_length_le (by have := HM.out; omega)]
        clear ho hsp
        go_wp2
        go_ret
        exact ⟨ret_str (by rw [HF.out]), (Below.refl _ _).alloc (Nat.le_refl _) _⟩
  | false =>
    rw [← HWR.out, hq] at hcw
    have HH : Hid (headT t a = nm) := by show _ = _; unfold headT; rw [hq, ← HNM.out]; simp
    clear hq tail
    go_enter Tryd.func62, Tryd.ntmps62
    go_wp2
    rw [← HH.out]
    go_loop [5, 6, 27] (fun o s i => ∃ (k : Nat) (os : List UInt8), k ≤ m ∧ i = .int .i64 k ∧ o = .string (mkS os) ∧ s = .string (mkS (if k = 0 then [58, 32] else [44, 32])) ∧ Hid (os = headT t a ++ linkT t [58, 32] (L.take k))) (fun _ _ i => m - (intOf i).toNat)
    case atStart => exact ⟨0, headT t a, Nat.zero_le _, rfl, rfl, rfl, by show _ = _; simp [linkT]⟩
    case round =>
      obtain ⟨k, os, hk, rfl, rfl, rfl, ho⟩ := hrel
      obtain ⟨sp, hsp⟩ : ∃ sp : List UInt8, sp = if k = 0 then [58, 32] else [44, 32] := ⟨_, rfl⟩
      rw [← hsp]
      by_cases hlt : k < m
      · have hkl : k < L.length := by have := HM.out; omega
        obtain ⟨bq, oq, rfl, hcq⟩ := HROW.out.cell (i := k) hkl
        obtain ⟨x, hx, hxn⟩ := HRN.out k hkl
        rw [hx] at hcq
        have hcx := HCE.out x (by have := HN.out; omega)
        have lbq : bq < w.heap.size := cell_lt hcq
        obtain ⟨y, hy⟩ : ∃ y, y = t.elems.getD x [] := ⟨_, rfl⟩
        rw [← hy] at hcx
        have s1 : (mkS sp).size = 2 := by rw [mkS_size, hsp]; split <;> rfl
        have s2 : (mkS y).size ≤ 12 := by rw [mkS_size, hy]; exact HN12.out x
        have s3 : (mkS os).size ≤ 181 := by rw [mkS_size, ho.out, List.length_append]; have := HL14.out k; omega
        have s4 : (mkS sp).size + (mkS y).size ≤ 281474976710656 := by omega
        have s5 : (mkS os).size + ((mkS sp).size + (mkS y).size) ≤ 281474976710656 := by omega
        have s6 : (mkS os).size + (mkS sp ++ mkS y).size ≤ 281474976710656 := by rw [ByteArray.size_append]; omega
        have HO : Hid (os ++ (sp ++ y) = headT t a ++ linkT t [58, 32] (L.take (k + 1))) := by
          show _ = _
          have e : L[k] = (x : Int) := by rw [← hx]; simp [List.getD_eq_getElem?_getD, hkl]
          have e2 : (L.take k).length = k := by rw [List.length_take]; omega
          rw [List.take_succ_eq_append_getElem hkl, link_snoc, ho.out, hsp, hy, e, e2, List.append_assoc]; rfl
        clear ho hsp hy hx hkl s1 s2 s3
        go_wp2
        go_round
        case rel => exact ⟨k + 1, os ++ (sp ++ y), by omega, by go_num, by rw [mkS_append, mkS_append], by rw [if_neg (by omega)]; rfl, HO⟩
        case measure => simp [intOf]; omega
      · have HF : Hid (os = elT t a) := by
          show _ = _
          rw [HELT.out, ho.out, List.take_of_length_le (by have := HM.out; omega)]
        clear ho hsp
        go_wp2
        go_ret
        exact ⟨ret_str (by rw [HF.out]), (Below.refl _ _).alloc (Nat.le_refl _) _⟩
end Go.Proofs.YtfhnigpjmljhbaaDoor.Or
