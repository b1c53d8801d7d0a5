/- The walk of LexAgain. -/
import Derived.Test.YthmhklmoodffcaaDoorAc
import Derived.Deep.RegionHeld3
set_option linter.unusedVariables false
set_option linter.unusedSimpArgs false
namespace Go.Proofs.YthmhklmoodffcaaDoor
open Go.RowKit Go.Shelf

theorem toks_text (p : List UInt8) : ∀ (ls : List Lx) (a : Nat), Toks p a ls → ∀ y ∈ ls, y.2.1.length ≤ p.length
  | [], a, _, y, hy => by simp at hy
  | z :: ls, a, ⟨h1, h2, h3, h4⟩, y, hy => by
    rcases List.mem_cons.1 hy with rfl | hy
    · have hpre := (tokR_prefix _ y.1 (by rw [h3])).1
      rw [h3] at hpre
      have hpl := hpre.length_le
      simp only [List.length_drop] at hpl
      omega
    · exact toks_text p ls _ h4 y hy

theorem rem_bytes (t : List UInt8) (i : Nat) : (mkS t).extract 0 i ++ (mkS t).extract (i + 1) (mkS t).size = mkS (t.take i ++ t.drop (i + 1)) := by
  have := splice_bytes t [] i (i + 1)
  have h0 : mkS ([] : List UInt8) = ⟨#[]⟩ := rfl
  rw [h0] at this
  have h1 : (mkS t).extract 0 i ++ (⟨#[]⟩ : ByteArray) = (mkS t).extract 0 i := by
    apply ByteArray.ext; simp
  rw [h1] at this
  simpa using this

set_option maxRecDepth 100000 in
set_option maxHeartbeats 4000000 in
theorem again_walk (s t : List UInt8) (ls ms : List Lx) (A A2 : Int) (w : World) (he : ErrOk w) (hs : s.length ≤ 300) (htl : t.length ≤ s.length) (hll : ls.length ≤ s.length) (hml : ms.length ≤ 900)
    (halike : Hid (ls.map kt = ms.map kt))
    (CS : Hid (∀ W, Below w.heap.size w W → Calls Tryd.prog 36 #[.string (mkS s)] W (ScanP ls A 0 W)))
    (CJ : Hid (∀ W v, Below w.heap.size w W → ReadsLx W v ls → Calls Tryd.prog 37 #[v] W fun e w' => e = .returned (.tuple #[.string (mkS t), .int .i64 0]) ∧ Below W.heap.size W w'))
    (CT : Hid (∀ W, Below w.heap.size w W → Calls Tryd.prog 36 #[.string (mkS t)] W (ScanP ms A2 0 W)))
    (CX : Hid (∀ (i : Nat) W, i < t.length → t.getD i 0 = 32 → Below w.heap.size w W → Calls Tryd.prog 36 #[.string (mkS (t.take i ++ t.drop (i + 1)))] W fun e w' => ∃ v ns, ∃ A3 E3 : Int, e = .returned (.tuple #[v, .int .i64 A3, .int .i64 E3]) ∧ ReadsLx w' v ns ∧ Below W.heap.size W w' ∧ (E3 = 0 → ls.map kt ≠ ns.map kt))) :
    Calls Tryd.prog 9 #[.string (mkS s)] w fun e w' => e = .returned (.bool true) ∧ Below w.heap.size w w' := by
  have CW : Hid (∀ W, Below w.heap.size w W → Calls Tryd.prog 16 #[] W fun e w' => e = .returned (.bool true) ∧ Below W.heap.size W w') := fun W hW => awake_any W (he.below hW)
  have HSS : Hid ((mkS s).size = s.length) := mkS_size s
  have HST : Hid ((mkS t).size = t.length) := mkS_size t
  have hss : (mkS s).size ≤ 300 := by rw [HSS.out]; exact hs
  have hst : (mkS t).size ≤ (mkS s).size := by rw [HSS.out, HST.out]; exact htl
  obtain ⟨n, hn⟩ : ∃ n, n = ls.length := ⟨_, rfl⟩
  have HN := Lib.hid hn
  have hns : n ≤ (mkS s).size := by rw [HSS.out]; omega
  have b1 : decide (300 < ((mkS s).size : Int)) = false := decide_eq_false (by omega)
  have b1' : ¬ 300 < (mkS s).size := by omega
  have b2 : decide (((mkS s).size : Int) < (n : Int)) = false := decide_eq_false (by omega)
  have b2' : ¬ (mkS s).size < n := by omega
  have b3 : decide (((mkS s).size : Int) < ((mkS t).size : Int)) = false := decide_eq_false (by omega)
  have b3' : ¬ (mkS s).size < (mkS t).size := by omega
  have HLL : Hid (0 + ls.length ≤ 2000) := by show _ ≤ _; omega
  have HML := Lib.hid hml
  clear he hs htl hll hn hml
  go_enter Tryd.func9, Tryd.ntmps9
  go_wp2_with fail
  refine (CS.out _ (Below.refl _ _)).mono ?_
  rintro e w1 ⟨vL, rfl, hownL, hb1⟩
  have RL := Lib.hid (reads_own hownL (by have := HLL.out; omega))
  have HB1 := Lib.hid hb1
  have hRL := RL.out
  obtain ⟨pL, cL, hvL, _, _⟩ := hRL
  rw [← HN.out] at hvL
  subst hvL
  clear hownL hb1
  go_wp2_with (at_builtin; refine wpList_append_reads rfl _ _ rfl w1.heap.size _ _ 0 [] rfl (World.ownsRow_nil _ _ _ _) rfl ls RL.out (Nat.le_refl _) HLL.out ?_)
  intro v' w2 hown2 hb2
  have RV : Hid (ReadsLx w2 v' ls) := by
    show ReadsLx w2 v' ls
    exact reads_own (by simpa using hown2) (by have := HLL.out; omega)
  have HB2 := Lib.hid (HB1.out.trans (hb2.mono HB1.out.size))
  have RL2 := Lib.hid (RL.out.below hb2)
  clear hown2 hb2
  go_wp2_with fail
  refine (CJ.out _ _ HB2.out RV.out).mono ?_
  rintro e w3 ⟨rfl, hb3⟩
  have HB3 := Lib.hid (HB2.out.trans (hb3.mono HB2.out.size))
  have RL3 := Lib.hid (RL2.out.below hb3)
  clear hb3
  go_wp2_with fail
  refine (CT.out _ HB3.out).mono ?_
  rintro e w4 ⟨vM, rfl, hownM, hb4⟩
  have HB4 := Lib.hid (HB3.out.trans (hb4.mono HB3.out.size))
  have RL4 := Lib.hid (RL3.out.below hb4)
  have RM := Lib.hid (reads_own hownM (by have := HML.out; omega))
  have CE : Hid (∀ W, ReadsLx W (.slice pL n cL) ls → ReadsLx W vM ms → Calls Tryd.prog 38 #[.slice pL n cL, vM] W fun e w' => e = .returned (.bool true) ∧ Below W.heap.size W w') := fun W h1 h2 => by
    have := alike_any _ _ ls ms W h1 h2
    rw [decide_eq_true halike.out] at this; exact this
  have CN : Hid (∀ W v ns, ReadsLx W (.slice pL n cL) ls → ReadsLx W v ns → ls.map kt ≠ ns.map kt → Calls Tryd.prog 38 #[.slice pL n cL, v] W fun e w' => e = .returned (.bool false) ∧ Below W.heap.size W w') := fun W v ns h1 h2 h3 => by
    have := alike_any _ _ ls ns W h1 h2
    rw [decide_eq_false h3] at this; exact this
  clear hownM hb4
  go_wp2_with fail
  refine (CE.out _ RL4.out RM.out).mono ?_
  rintro e w5 ⟨rfl, hb5⟩
  have HB5 := Lib.hid (HB4.out.trans (hb5.mono HB4.out.size))
  have RL5 := Lib.hid (RL4.out.below hb5)
  clear hb5
  go_wp2
  go_loopw [11] (fun c wr => ∃ i : Nat, i ≤ (mkS t).size ∧ c = .int .i64 i ∧ Hid (Below w5.heap.size w5 wr)) (fun c _ => (mkS t).size - (intOf c).toNat)
  case atStart => exact ⟨0, Nat.zero_le _, rfl, Below.refl _ _⟩
  case round =>
    obtain ⟨i, hi, rfl, hb⟩ := hrel
    have B := hb.out
    clear hb
    by_cases hlt : i < (mkS t).size
    · have d1 : decide ((i : Int) < ((mkS t).size : Int)) = true := decide_eq_true (by omega)
      have hit : i < t.length := by rw [← HST.out]; exact hlt
      by_cases h32 : (mkS t)[i]'hlt = 32
      · have g1 : ((((mkS t)[i]'hlt).toNat : Int) != 32) = false := by rw [h32]; rfl
        have h32' : t.getD i 0 = 32 := by rw [← mkS_getD t i hlt]; exact h32
        have s1 : IntKind.i64.wrap ((i : Int) + 1) = (i : Int) + 1 := IntWalk.i64_in _ (by omega)
        have q0 : (0 : Int) ≤ (i : Int) := by omega
        have q1 : (0 : Int) ≤ (i : Int) + 1 := by omega
        have q2 : (i : Int) + 1 ≤ ((mkS t).size : Int) := by omega
        have q3 : (i : Int) ≤ ((mkS t).size : Int) := by omega
        have q4 : ((i : Int) + 1).toNat = i + 1 := by omega
        have u0 : min i (mkS t).size = i := by omega
        have u1 : ¬ (9223372036854775807 < ((mkS t).extract 0 i).size + ((mkS t).extract (i + 1) (mkS t).size).size) := by
          simp only [ByteArray.size_extract]; omega
        have u2 : ¬ (9223372036854775807 < i + ((mkS t).size - (i + 1))) := by omega
        have u3 : ¬ (9223372036854775807 < min i (mkS t).size + ((mkS t).size - (i + 1))) := by omega
        have hi1 : i + 1 ≤ (mkS t).size := by omega
        have HWr := Lib.hid (HB5.out.trans (B.mono HB5.out.size))
        have CX' : Hid (∀ W, Below wr.heap.size wr W → Calls Tryd.prog 36 #[.string ((mkS t).extract 0 i ++ (mkS t).extract (i + 1) (mkS t).size)] W fun e w' => ∃ v ns, ∃ A3 E3 : Int, e = .returned (.tuple #[v, .int .i64 A3, .int .i64 E3]) ∧ Hid (ReadsLx w' v ns) ∧ Below wr.heap.size wr w' ∧ Hid (E3 = 0 → ls.map kt ≠ ns.map kt)) := fun W hW => by
          rw [rem_bytes]
          refine (CX.out i W hit h32' (HWr.out.trans (hW.mono HWr.out.size))).mono ?_
          rintro e w' ⟨v, ns, A3, E3, h1, h2, h3, h4⟩
          exact ⟨v, ns, A3, E3, h1, h2, hW.trans (h3.mono hW.size), h4⟩
        have KS : Hid (∀ W, Below wr.heap.size wr W → Below wr.heap.size wr W) := fun W h => h
        clear h32 h32' hit
        go_wp2
        go_region_held3 (fun W => Below wr.heap.size wr W)
          (first | exact KS.out _ (by first | assumption | exact (Below.refl _ _).drew | exact Below.refl _ _ | (refine Below.drew ?_; assumption)))
          (first | (go_at_call 36; refine (CX'.out _ (by first | assumption | exact (Below.refl _ _).drew | exact Below.refl _ _ | (refine Below.drew ?_; assumption))).mono ?_; rintro e wa ⟨v, ns, A3, E3, rfl, HRV, hba, HNE⟩))
        have HBA := Lib.hid (B.trans (hba.mono B.size))
        have RLa := Lib.hid (RL5.out.below HBA.out)
        clear hba
        by_cases hE : E3 = 0
        · have hne := Lib.hid (HNE.out hE)
          subst hE
          go_wp2_with fail
          refine (CN.out _ _ _ RLa.out HRV.out hne.out).mono ?_
          rintro e w7 ⟨rfl, hb7⟩
          have HB7 := Lib.hid (HBA.out.trans (hb7.mono HBA.out.size))
          clear hb7
          go_wp2
          go_roundw
          case rel => exact ⟨i + 1, by omega, by go_num, HB7⟩
          case measure => simp [intOf]; omega
        · have e3 : (E3 == 0) = false := by rw [beq_eq_false_iff_ne]; exact hE
          clear hE
          go_wp2
          go_roundw
          case rel => exact ⟨i + 1, by omega, by go_num, HBA⟩
          case measure => simp [intOf]; omega
      · have g1 : ((((mkS t)[i]'hlt).toNat : Int) != 32) = true := by
          rw [bne_iff_ne]; intro e; exact h32 (UInt8.toNat_inj.1 (by show _ = 32; omega))
        clear h32 hit
        go_wp2
        go_roundw
        case rel => exact ⟨i + 1, by omega, by go_num, B⟩
        case measure => simp [intOf]; omega
    · have HB6 := Lib.hid (HB5.out.trans (B.mono HB5.out.size))
      go_wp2_with fail
      refine (CW.out _ HB6.out).mono ?_
      rintro e w9 ⟨rfl, hb9⟩
      have hF : Below w.heap.size w w9 := HB6.out.trans (hb9.mono HB6.out.size)
      clear hb9
      go_wp2
      go_ret
      exact ⟨ret_bool rfl, hF⟩

set_option maxRecDepth 100000 in
set_option maxHeartbeats 4000000 in
theorem again_out (s : List UInt8) (ls : List Lx) (A E : Int) (w : World) (he : ErrOk w) (hl : ls.length ≤ 900) (h : E ≠ 0 ∨ (E = 0 ∧ 300 < s.length))
    (CS : Hid (∀ W, Below w.heap.size w W → Calls Tryd.prog 36 #[.string (mkS s)] W (ScanP ls A E W))) :
    Calls Tryd.prog 9 #[.string (mkS s)] w fun e w' => e = .returned (.bool true) ∧ Below w.heap.size w w' := by
  have CW : Hid (∀ W, Below w.heap.size w W → Calls Tryd.prog 16 #[] W fun e w' => e = .returned (.bool true) ∧ Below W.heap.size W w') := fun W hW => awake_any W (he.below hW)
  have hsz := mkS_size s
  clear he hl
  rcases h with h1 | ⟨rfl, h2⟩
  · have b1 : (E != 0) = true := by rw [bne_iff_ne]; exact h1
    clear h1 hsz
    go_enter Tryd.func9, Tryd.ntmps9
    go_wp2_with fail
    refine (CS.out _ (Below.refl _ _)).mono ?_
    rintro e w1 ⟨vL, rfl, hownL, hb1⟩
    have HB := Lib.hid hb1
    clear hownL hb1
    go_wp2_with fail
    refine (CW.out _ HB.out).mono ?_
    rintro e w5 ⟨rfl, hb5⟩
    have hF : Below w.heap.size w w5 := HB.out.trans (hb5.mono HB.out.size)
    clear hb5
    go_wp2
    go_ret
    exact ⟨ret_bool rfl, hF⟩
  · have b2 : decide (300 < ((mkS s).size : Int)) = true := decide_eq_true (by omega)
    have b2' : 300 < (mkS s).size := by omega
    clear h2 hsz
    go_enter Tryd.func9, Tryd.ntmps9
    go_wp2_with fail
    refine (CS.out _ (Below.refl _ _)).mono ?_
    rintro e w1 ⟨vL, rfl, hownL, hb1⟩
    have HB := Lib.hid hb1
    clear hownL hb1
    go_wp2_with fail
    refine (CW.out _ HB.out).mono ?_
    rintro e w5 ⟨rfl, hb5⟩
    have hF : Below w.heap.size w w5 := HB.out.trans (hb5.mono HB.out.size)
    clear hb5
    go_wp2
    go_ret
    exact ⟨ret_bool rfl, hF⟩

theorem again_any (s : List UInt8) (w : World) (hs : s.length ≤ 140737488355328) (he : ErrOk w) :
    Calls Tryd.prog 9 #[.string (mkS s)] w fun e w' => e = .returned (.bool true) ∧ Below w.heap.size w w' := by
  have CS := Lib.hid fun W (hW : Below w.heap.size w W) => scanP s W (by omega) (he.below hW)
  by_cases h : (scanF s).2.2 = 0
  · by_cases h2 : s.length ≤ 300
    · obtain ⟨f1, f2, f3, f4, f5, f6⟩ := again_facts s h
      have hl := scanF_len s
      have hlt := scanF_len (joinT (scanF s).1)
      obtain ⟨c1, k1⟩ := scan_toks h
      refine again_walk s (joinT (scanF s).1) (scanF s).1 (scanF (joinT (scanF s).1)).1 (scanF s).2.1 (scanF (joinT (scanF s).1)).2.1 w he h2 f2 f3 hlt f5 ?_ ?_ ?_ ?_
      · intro W hW; have := CS.out W hW; rw [h] at this; exact this
      · intro W v hW hv
        have := join_any v (scanF s).1 W hv (he.below hW) (fun y hy => by
          have := toks_text _ _ _ k1 y hy
          rw [blankL_length] at this; omega)
        rw [f1] at this; exact this
      · intro W hW
        have := scanP (joinT (scanF s).1) W (by omega) (he.below hW)
        rw [f4] at this; exact this
      · intro i W hi h32 hW
        have hlen : ((joinT (scanF s).1).take i ++ (joinT (scanF s).1).drop (i + 1)).length ≤ 300 := by simp; omega
        refine (scanP ((joinT (scanF s).1).take i ++ (joinT (scanF s).1).drop (i + 1)) W (by omega) (he.below hW)).mono ?_
        rintro e w' ⟨v, h1, h2', h3⟩
        refine ⟨v, _, _, _, h1, reads_own h2' (by have := scanF_len ((joinT (scanF s).1).take i ++ (joinT (scanF s).1).drop (i + 1)); omega), h3, fun hz => ?_⟩
        exact f6 i hi h32 (by omega)
    · exact again_out s (scanF s).1 (scanF s).2.1 (scanF s).2.2 w he (scanF_len s) (.inr ⟨by omega, by omega⟩) CS
  · exact again_out s (scanF s).1 (scanF s).2.1 (scanF s).2.2 w he (scanF_len s) (.inl (by omega)) CS
end Go.Proofs.YthmhklmoodffcaaDoor
