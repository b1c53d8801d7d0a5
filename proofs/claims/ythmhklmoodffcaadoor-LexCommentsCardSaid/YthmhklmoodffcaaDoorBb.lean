/- The contract of Blank; the walk of LexBlanks. -/
import Derived.Test.YthmhklmoodffcaaDoorBa
import Derived.Test.YthmhklmoodffcaaDoorQa
import Derived.Test.YthmhklmoodffcaaDoorQd
set_option linter.unusedVariables false
set_option linter.unusedSimpArgs false
namespace Go.Proofs.YthmhklmoodffcaaDoor
open Go.RowKit Go.Shelf

set_option maxRecDepth 100000 in
set_option maxHeartbeats 2000000 in
theorem blank_bad (s : List UInt8) (w : World) (hs : s.length ≤ 140737488355328) (h : chkE s ≠ 0) :
    Calls Tryd.prog 20 #[.string (mkS s)] w fun e w' => e = .returned (.tuple #[.string ⟨#[]⟩, .int .i64 (chkAt s), .int .i64 (chkE s)]) ∧ Below w.heap.size w w' := by
  obtain ⟨E, hE⟩ : ∃ E : Int, E = chkE s := ⟨_, rfl⟩
  have CA : Hid (∀ W, Calls Tryd.prog 45 #[.string (mkS s)] W fun e w' => e = .returned (.tuple #[.int .i64 (chkAt s), .int .i64 E]) ∧ W = w') := fun W => by
    have := textError_any (mkS s) W (by rw [mkS_size]; unfold maxLen; omega)
    rw [mkS_list, ← hE] at this; exact this
  have hb : (E != 0) = true := by rw [bne_iff_ne, hE]; omega
  rw [← hE]
  clear h hE
  go_enter Tryd.func20, Tryd.ntmps20
  go_wp2_with fail
  refine (CA.out _).mono ?_
  rintro e w' ⟨rfl, rfl⟩
  go_wp2
  exact bodyPost_ret (v := .tuple #[.string ⟨#[]⟩, .int .i64 (chkAt s), .int .i64 E]) (by simp [results, Tryd.results20, go_sem]) rfl ⟨rfl, Below.refl _ _⟩
set_option maxRecDepth 100000 in
set_option maxHeartbeats 2000000 in
theorem blank_ok (s : List UInt8) (w : World) (hs : s.length ≤ 140737488355328) (h : chkE s = 0) :
    Calls Tryd.prog 20 #[.string (mkS s)] w fun e w' => e = .returned (.tuple #[.string (mkS (blankL s)), .int .i64 0, .int .i64 0]) ∧ Below w.heap.size w w' := by
  have CA : Hid (∀ W, Calls Tryd.prog 45 #[.string (mkS s)] W fun e w' => e = .returned (.tuple #[.int .i64 (chkAt s), .int .i64 0]) ∧ W = w') := fun W => by
    have := textError_any (mkS s) W (by rw [mkS_size]; unfold maxLen; omega)
    rw [mkS_list, h] at this; exact this
  have CB := Lib.hid fun W => blanked_any s W (by omega)
  clear h
  go_enter Tryd.func20, Tryd.ntmps20
  go_wp2_with fail
  refine (CA.out _).mono ?_
  rintro e w' ⟨rfl, rfl⟩
  go_wp2_with fail
  refine (CB.out _).mono ?_
  rintro e w1 ⟨rfl, hb⟩
  have HB := Lib.hid hb
  clear hb
  go_wp2
  exact bodyPost_ret (v := .tuple #[.string (mkS (blankL s)), .int .i64 0, .int .i64 0]) (by simp [results, Tryd.results20, go_sem]) rfl ⟨rfl, HB.out⟩

set_option maxRecDepth 100000 in
set_option maxHeartbeats 2000000 in
theorem blanks_bad (s : List UInt8) (w : World) (hs : s.length ≤ 140737488355328) (he : ErrOk w) (h : chkE s ≠ 0) :
    Calls Tryd.prog 10 #[.string (mkS s)] w fun e w' => e = .returned (.bool true) ∧ Below w.heap.size w w' := by
  have CW : Hid (∀ W, Below w.heap.size w W → Calls Tryd.prog 16 #[] W fun e w' => e = .returned (.bool true) ∧ Below W.heap.size W w') := fun W hW => awake_any W (he.below hW)
  obtain ⟨E, hE⟩ : ∃ E : Int, E = chkE s := ⟨_, rfl⟩
  have CB : Hid (∀ W, Calls Tryd.prog 20 #[.string (mkS s)] W fun e w' => e = .returned (.tuple #[.string ⟨#[]⟩, .int .i64 (chkAt s), .int .i64 E]) ∧ Below W.heap.size W w') := fun W => by
    rw [hE]; exact blank_bad s W hs h
  have hb0 : (E != 0) = true := by rw [bne_iff_ne, hE]; omega
  clear hE h he
  go_enter Tryd.func10, Tryd.ntmps10
  go_wp2_with fail
  refine (CB.out _).mono ?_
  rintro e w1 ⟨rfl, hb⟩
  have HB := Lib.hid hb
  clear hb
  go_wp2_with fail
  refine (CW.out _ HB.out).mono ?_
  rintro e w5 ⟨rfl, hb5⟩
  have hF : Below w.heap.size w w5 := HB.out.trans (hb5.mono HB.out.size)
  clear hb5
  go_wp2
  go_ret
  exact ⟨ret_bool rfl, hF⟩

set_option maxRecDepth 100000 in
set_option maxHeartbeats 4000000 in
theorem blanks_walk (s t : List UInt8) (ls : List Lx) (A E : Int) (w : World) (hs : s.length ≤ 2500) (he : ErrOk w) (hlen : t.length = s.length) (hl : ls.length ≤ 900)
    (CB : Hid (∀ W, Calls Tryd.prog 20 #[.string (mkS s)] W fun e w' => e = .returned (.tuple #[.string (mkS t), .int .i64 0, .int .i64 0]) ∧ Below W.heap.size W w'))
    (C1 : Hid (∀ W, Below w.heap.size w W → Calls Tryd.prog 36 #[.string (mkS s)] W (ScanP ls A E W)))
    (C2 : Hid (∀ W, Below w.heap.size w W → Calls Tryd.prog 36 #[.string (mkS t)] W (ScanP ls A E W)))
    (hok : Hid (∀ i, i < s.length → okB (s.getD i 0) (t.getD i 0))) :
    Calls Tryd.prog 10 #[.string (mkS s)] w fun e w' => e = .returned (.bool true) ∧ Below w.heap.size w w' := by
  have CW : Hid (∀ W, Below w.heap.size w W → Calls Tryd.prog 16 #[] W fun e w' => e = .returned (.bool true) ∧ Below W.heap.size W w') := fun W hW => awake_any W (he.below hW)
  have CS : Hid (∀ W, Calls Tryd.prog 15 #[.string (mkS s)] W fun e w' => e = .returned (.bool true) ∧ W = w') := fun W => short_yes s W (by omega)
  have HL := Lib.hid hl
  obtain ⟨n, hn⟩ : ∃ n, n = (mkS s).size := ⟨_, rfl⟩
  have HN1 : Hid (n = s.length) := by show _ = _; rw [hn, mkS_size]
  have HS1 : Hid ((mkS s).size = n) := hn.symm
  have HS2 : Hid ((mkS t).size = n) := by show _ = _; rw [mkS_size, hlen]; exact HN1.out.symm
  have hsz : (mkS s).size = (mkS t).size := by rw [HS1.out, HS2.out]
  have b0 : ((((mkS s).size : Int)) != ((mkS t).size : Int)) = false := by rw [hsz]; simp
  have hnb : n ≤ 2500 := by rw [HN1.out]; exact hs
  have HSZ := Lib.hid hsz
  clear he hs hlen hl hn hsz
  go_enter Tryd.func10, Tryd.ntmps10
  go_wp2_with fail
  refine (CB.out _).mono ?_
  rintro e w1 ⟨rfl, hb⟩
  have HB1 := Lib.hid hb
  clear hb
  go_wp2_with fail
  refine (CS.out _).mono ?_
  rintro e w' ⟨rfl, rfl⟩
  go_wp2_with fail
  refine (C1.out _ HB1.out).mono ?_
  rintro e w2 ⟨v1, rfl, hown1, hb2⟩
  have HB2 := Lib.hid (HB1.out.trans (hb2.mono HB1.out.size))
  have R1 := Lib.hid (reads_own hown1 (by have := HL.out; omega))
  clear hown1 hb2
  go_wp2_with fail
  refine (C2.out _ HB2.out).mono ?_
  rintro e w3 ⟨v2, rfl, hown2, hb3⟩
  have HB3 := Lib.hid (HB2.out.trans (hb3.mono HB2.out.size))
  have R1' := Lib.hid (R1.out.below hb3)
  have R2 := Lib.hid (reads_own hown2 (by have := HL.out; omega))
  have CE : Hid (∀ W, ReadsLx W v1 ls → ReadsLx W v2 ls → Calls Tryd.prog 35 #[v1, v2] W fun e w' => e = .returned (.bool true) ∧ Below W.heap.size W w') := fun W h1 h2 => by
    have := same_any v1 v2 ls ls W h1 h2
    rw [show (ls == ls) = true by simp] at this; exact this
  clear hown2 hb3
  go_wp2_with fail
  refine (CE.out _ R1'.out R2.out).mono ?_
  rintro e w4 ⟨rfl, hb4⟩
  have HB4 := Lib.hid (HB3.out.trans (hb4.mono HB3.out.size))
  clear hb4
  go_wp2
  go_loopw [12] (fun c wr => ∃ i : Nat, i ≤ n ∧ c = .int .i64 i ∧ Hid (Below w4.heap.size w4 wr)) (fun c _ => n - (intOf c).toNat)
  case atStart => exact ⟨0, Nat.zero_le _, rfl, Below.refl _ _⟩
  case round =>
    obtain ⟨i, hi, rfl, hb⟩ := hrel
    have B := hb.out
    clear hb
    by_cases hlt : i < n
    · have hi1 : i < (mkS s).size := by rw [HS1.out]; exact hlt
      have hi2 : i < (mkS t).size := by rw [HS2.out]; exact hlt
      have d1 : decide ((i : Int) < ((mkS s).size : Int)) = true := decide_eq_true (by omega)
      obtain ⟨o1, o2, o3⟩ := hok.out i (by rw [← HN1.out]; exact hlt)
      rw [← mkS_getD s i hi1, ← mkS_getD t i hi2] at o1 o3
      rw [← mkS_getD t i hi2] at o2
      have g3 : (((mkS t)[i].toNat : Int) == 37) = false := by
        rw [beq_eq_false_iff_ne]; intro e; exact o2 (UInt8.toNat_inj.1 (by show _ = 37; omega))
      by_cases h1 : (mkS s)[i] = 10
      · have h2 := o1.1 h1
        have g1 : (((mkS s)[i].toNat : Int) == 10) = true := by rw [h1]; rfl
        have g2 : (((mkS t)[i].toNat : Int) == 10) = true := by rw [h2]; rfl
        have g4 : (((mkS t)[i].toNat : Int) != ((mkS s)[i].toNat : Int)) = false := by rw [h1, h2]; rfl
        clear h1 h2 o1 o2 o3
        go_wp2
        go_quiet (fail)
        go_wp2
        go_roundw
        case rel => exact ⟨i + 1, by omega, by go_num, B.trans (below_drewAt _ _ _)⟩
        case measure => simp [intOf]; omega
      · have h2 : (mkS t)[i] ≠ 10 := fun e => h1 (o1.2 e)
        have g1 : (((mkS s)[i].toNat : Int) == 10) = false := by
          rw [beq_eq_false_iff_ne]; intro e; exact h1 (UInt8.toNat_inj.1 (by show _ = 10; omega))
        have g2 : (((mkS t)[i].toNat : Int) == 10) = false := by
          rw [beq_eq_false_iff_ne]; intro e; exact h2 (UInt8.toNat_inj.1 (by show _ = 10; omega))
        by_cases h3 : (mkS t)[i] = (mkS s)[i]
        · have g4 : (((mkS t)[i].toNat : Int) != ((mkS s)[i].toNat : Int)) = false := by rw [h3]; simp
          clear h1 h2 h3 o1 o2 o3
          go_wp2
          go_quiet (fail)
          go_wp2
          go_roundw
          case rel => exact ⟨i + 1, by omega, by go_num, B.trans (below_drewAt _ _ _)⟩
          case measure => simp [intOf]; omega
        · have h4 : (mkS t)[i] = 32 := o3.resolve_left h3
          have g4 : (((mkS t)[i].toNat : Int) != ((mkS s)[i].toNat : Int)) = true := by
            rw [bne_iff_ne]; intro e; exact h3 (UInt8.toNat_inj.1 (by omega))
          have g5 : (((mkS t)[i].toNat : Int) != 32) = false := by rw [h4]; rfl
          clear h1 h2 h3 h4 o1 o2 o3
          go_wp2
          go_quiet (fail)
          go_wp2
          go_roundw
          case rel => exact ⟨i + 1, by omega, by go_num, B.trans (below_drewAt _ _ _)⟩
          case measure => simp [intOf]; omega
    · have d1 : decide ((i : Int) < ((mkS s).size : Int)) = false := decide_eq_false (by rw [HS1.out]; omega)
      have d2 : ¬ i < (mkS s).size := by rw [HS1.out]; exact hlt
      have HB5 := Lib.hid (HB4.out.trans (B.mono HB4.out.size))
      clear hlt
      go_wp2_with fail
      refine (CW.out _ HB5.out).mono ?_
      rintro e w5 ⟨rfl, hb5⟩
      have hF : Below w.heap.size w w5 := HB5.out.trans (hb5.mono HB5.out.size)
      clear hb5
      go_wp2
      go_ret
      exact ⟨ret_bool rfl, hF⟩

theorem blanks_any (s : List UInt8) (w : World) (hs : s.length ≤ 140737488355328) (he : ErrOk w) :
    Calls Tryd.prog 10 #[.string (mkS s)] w fun e w' => e = .returned (.bool true) ∧ Below w.heap.size w w' := by
  by_cases h : chkE s = 0
  · have hl := chkE_len h
    refine blanks_walk s (blankL s) (scanF s).1 (scanF s).2.1 (scanF s).2.2 w hl he (blankL_length s) (scanF_len s) (fun W => blank_ok s W hs h) ?_ ?_ ?_
    · intro W hW; exact scanP s W (by omega) (he.below hW)
    · intro W hW
      have := scanP (blankL s) W (by rw [blankL_length]; omega) (he.below hW)
      rw [scanF_blank h] at this; exact this
    · intro i hi; rw [blankL_eq]; exact blankF_at false s i hi
  · exact blanks_bad s w hs he h
end Go.Proofs.YthmhklmoodffcaaDoor
