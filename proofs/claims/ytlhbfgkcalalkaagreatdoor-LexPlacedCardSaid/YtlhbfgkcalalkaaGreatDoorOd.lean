/- strings.Split at a line feed; the reference's At. -/
import Derived.Test.YtlhbfgkcalalkaaGreatDoorOc
set_option linter.unusedVariables false
set_option linter.unusedSimpArgs false
namespace Go.Proofs.YtlhbfgkcalalkaaGreatDoor
open Go.RowKit Go.Shelf

theorem countB_nl (s : ByteArray) : Lib.countB s ⟨#[10]⟩ = s.data.toList.count 10 := by
  have := Lib.count_one 10 s.data.toList
  simpa [Lib.countB] using this
/-- The cells of the lines of a text. -/
def lineCells (ls : List (List UInt8)) : Array Value := (ls.map fun x => Value.string (mkS x)).toArray
theorem split_cells (s : ByteArray) (n : Nat) (h : s.data.toList.count 10 = n) : (Lib.splitB ⟨#[10]⟩ 0 n s).map Value.string = (splitNl s.data.toList).map fun x => Value.string (mkS x) := by
  rw [← split_nl n s h, List.map_map]
  apply List.map_congr_left
  intro x _
  simp [Function.comp, mkS_self]

set_option maxRecDepth 100000 in
set_option maxHeartbeats 2000000 in
theorem split_any (l : List UInt8) (w : World) (hs : l.length < 4294967281) :
    Calls Tryz.prog 45 #[.string (mkS l), .string ⟨#[10]⟩] w fun e w' => e = .returned (.slice (some ⟨w.heap.size, 0, none⟩) (splitNl l).length (splitNl l).length) ∧ w' = w.alloc (.cells (lineCells (splitNl l)) 9) := by
  obtain ⟨s, hS⟩ : ∃ s, s = mkS l := ⟨_, rfl⟩
  have hl : s.data.toList = l := by rw [hS, mkS_list]
  have hz : s.size < 4294967281 := by rw [hS, mkS_size]; exact hs
  obtain ⟨n, hn⟩ : ∃ n, s.data.toList.count 10 = n := ⟨_, rfl⟩
  have hcb : Lib.countB s ⟨#[10]⟩ = n := by rw [countB_nl, hn]
  have hC : Calls Tryz.prog 44 #[.string s, .string ⟨#[10]⟩] w fun e w' => e = .returned (.int .i64 (Lib.countB s ⟨#[10]⟩)) ∧ w' = w := by
    have := Tryz.strings_Count_one s 10 w
    rw [hcb, ← hn]; exact this
  have hI : ∀ (x : ByteArray) (c : Array Value), x.size ≤ s.size → Calls Tryz.prog 71 #[.string x, .string ⟨#[10]⟩] (w.alloc (.cells c 9)) fun e w' => e = .returned (.int .i64 (Lib.indexB x ⟨#[10]⟩)) ∧ w' = w.alloc (.cells c 9) := fun x c hx => by
    have := Tryz.strings_Index_one x 10 (w.alloc (.cells c 9))
    rw [index_nl]; exact this
  have hle : n ≤ s.size := by rw [← hn]; have := List.count_le_length (a := (10 : UInt8)) (l := s.data.toList); simpa using this
  have c := Any.strings_genSplit_core Tryz.lays221 (by kernel_rfl) s ⟨#[10]⟩ 0 (-1) (n + 1) w hz (by decide) (by decide) hI hC (by decide) (by decide) (by rw [hcb, if_pos (by decide)]; omega)
  have hlen : (Lib.splitB ⟨#[10]⟩ 0 n s).length = n + 1 := Lib.splitB_all ⟨#[10]⟩ (by decide) 0 n s hcb
  have hl2 : (splitNl l).length = n + 1 := by
    have := congrArg List.length (split_nl n s hn)
    rw [List.length_map, hlen, hl] at this; exact this.symm
  rw [Nat.add_sub_cancel, hlen] at c
  have e2 : Lib.cellsOf (Lib.splitB ⟨#[10]⟩ 0 n s) (n + 1) = lineCells (splitNl l) := by
    rw [← hlen, Lib.cellsOf_full, split_cells s n hn, hl]; rfl
  rw [e2] at c
  have CG : Hid (Calls Tryz.prog 72 #[.string s, .string ⟨#[10]⟩, .int .i64 0, .int .i64 (-1)] w fun e w' => e = .returned (.slice (some ⟨w.heap.size, 0, none⟩) (n + 1) (n + 1)) ∧ w' = w.alloc (.cells (lineCells (splitNl l)) 9)) := c
  rw [hl2, ← hS]
  clear c e2 hlen hl2 hle hI hC hcb hn hz hl hS
  go_enter Tryz.func45, Tryz.ntmps45
  go_wp2_with fail
  refine CG.out.mono ?_
  rintro e w' ⟨rfl, rfl⟩
  go_wp2
  go_ret
  exact ⟨rfl, rfl⟩

set_option maxRecDepth 100000 in
set_option maxHeartbeats 2000000 in
theorem refAt_bad (s : List UInt8) (L C : Int) (w : World) (hs : s.length ≤ 140737488355328) (h : chkE s ≠ 0) :
    Calls Tryz.prog 19 #[.string (mkS s), .agg #[.int .i64 L, .int .i64 C]] w fun e w' => e = .returned (.tuple #[.int .i64 (atF s L C).1, .int .i64 (atF s L C).2]) ∧ Below w.heap.size w w' := by
  obtain ⟨E, hE⟩ : ∃ E : Int, E = chkE s := ⟨_, rfl⟩
  have HF : Hid (atF s L C = (0, chkE s)) := by show _ = _; unfold atF; rw [if_pos h]
  have CA : Hid (∀ W, Calls Tryz.prog 30 #[.string (mkS s)] W fun e w' => e = .returned (.tuple #[.int .i64 (chkAt s), .int .i64 E]) ∧ W = w') := fun W => by
    have := check_any (mkS s) W (by rw [mkS_size]; unfold maxLen; omega)
    rw [mkS_list, ← hE] at this; exact this
  have hb : (E != 0) = true := by rw [bne_iff_ne, hE]; omega
  have HE := Lib.hid hE
  clear h hE
  go_enter Tryz.func19, Tryz.ntmps19
  go_wp2_with fail
  refine (CA.out _).mono ?_
  rintro e w' ⟨rfl, rfl⟩
  go_wp2
  go_ret2
  exact ⟨by rw [HF.out, HE.out]; rfl, (Below.refl _ _).alloc (Nat.le_refl _) _⟩

set_option maxRecDepth 100000 in
set_option maxHeartbeats 4000000 in
theorem refAt_ok (s : List UInt8) (L C : Int) (w : World) (h : chkE s = 0) :
    Calls Tryz.prog 19 #[.string (mkS s), .agg #[.int .i64 L, .int .i64 C]] w fun e w' => e = .returned (.tuple #[.int .i64 (atF s L C).1, .int .i64 (atF s L C).2]) ∧ Below w.heap.size w w' := by
  have hl := chkE_len h
  have CA : Hid (∀ W, Calls Tryz.prog 30 #[.string (mkS s)] W fun e w' => e = .returned (.tuple #[.int .i64 (chkAt s), .int .i64 0]) ∧ W = w') := fun W => by
    have := check_any (mkS s) W (by rw [mkS_size]; unfold maxLen; omega)
    rw [mkS_list, h] at this; exact this
  have hsz : (mkS s).size = s.length := mkS_size s
  have HSZ := Lib.hid hsz
  have CW : Hid (∀ (W : World) (k : Nat), k ≤ s.length → Calls Tryz.prog 18 #[.string (mkS s), .int .i64 k] W fun e w' => e = .returned (.tuple #[.agg #[.int .i64 ((whereL s k).1 : Nat), .int .i64 ((whereL s k).2 : Nat)], .int .i64 0]) ∧ Below W.heap.size W w') := fun W k hk => by
    have := refWhere_ok s k W h hk
    have e : whereF s k = (whereL s k, 0) := by unfold whereF; rw [if_neg (by omega), if_pos ⟨by omega, by omega⟩]; rfl
    rw [e] at this; exact this
  have HS : Hid (∀ k, k ≤ s.length → ((whereL s k).1 : Int) = L → ((whereL s k).2 : Int) = C → atF s L C = (k, 0)) := fun k hk h1 h2 => atF_some s L C h k hk ⟨h1, h2⟩
  have HN : Hid ((∀ k, k ≤ s.length → ¬ (((whereL s k).1 : Int) = L ∧ ((whereL s k).2 : Int) = C)) → atF s L C = (0, 3)) := atF_none s L C h
  have hsl : (mkS s).size ≤ 2500 := by omega
  have HX : Hid (∀ W, Below (w.heap.size + 1) (w.alloc (.cells #[.int .i64 L, .int .i64 C] 33)) W → W.cell? ⟨w.heap.size, 0, none⟩ = some (.int .i64 L) ∧ W.cell? ⟨w.heap.size, 1, none⟩ = some (.int .i64 C) ∧ w.heap.size < W.heap.size ∧ Below w.heap.size w W) := fun W hW => by
    refine ⟨?_, ?_, ?_, ((Below.refl _ _).alloc (Nat.le_refl _) _).trans (hW.mono (by omega))⟩
    · rw [hW.cell (by simp)]; simp [go_sem]
    · rw [hW.cell (by simp)]; simp [go_sem]
    · have := hW.size; simp at this; omega
  clear h hl hsz
  go_enter Tryz.func19, Tryz.ntmps19
  go_wp2_with fail
  refine (CA.out _).mono ?_
  rintro e w' ⟨rfl, rfl⟩
  go_wp2
  go_loopw [8] (fun i wr => ∃ k : Nat, k ≤ (mkS s).size + 1 ∧ i = .int .i64 k ∧ Hid (∀ j, j < k → j ≤ s.length → ¬ (((whereL s j).1 : Int) = L ∧ ((whereL s j).2 : Int) = C)) ∧ Hid (Below (w.heap.size + 1) (w.alloc (.cells #[.int .i64 L, .int .i64 C] 33)) wr)) (fun i _ => (mkS s).size + 1 - (intOf i).toNat)
  case atStart => exact ⟨0, Nat.zero_le _, rfl, fun j hj => by omega, by show Below _ _ _; simpa using Below.refl _ _⟩
  case round =>
    obtain ⟨k, hk, rfl, hpre, hbel⟩ := hrel
    by_cases hlt : k ≤ (mkS s).size
    · have hks : Hid (k ≤ s.length) := by show _ ≤ _; rw [← HSZ.out]; exact hlt
      obtain ⟨P, hP⟩ : ∃ P : Int, P = (whereL s k).1 := ⟨_, rfl⟩
      obtain ⟨Q, hQ⟩ : ∃ Q : Int, Q = (whereL s k).2 := ⟨_, rfl⟩
      have CW2 : Hid (∀ W, Calls Tryz.prog 18 #[.string (mkS s), .int .i64 k] W fun e w' => e = .returned (.tuple #[.agg #[.int .i64 P, .int .i64 Q], .int .i64 0]) ∧ Below W.heap.size W w') := fun W => by
        rw [hP, hQ]; exact CW.out W k hks.out
      have g1 : decide ((k : Int) ≤ ((mkS s).size : Int)) = true := decide_eq_true (by omega)
      have HP := Lib.hid hP; have HQ := Lib.hid hQ
      have hw : IntKind.i64.wrap ((k : Int) + 1) = (k : Int) + 1 := IntWalk.i64_in _ (by omega)
      clear hP hQ
      have hz1 : w.heap.size + 1 ≤ wr.heap.size := by have := hbel.out.size; simpa using this
      by_cases c1 : P = L
      · by_cases c2 : Q = C
        · have HR : Hid (atF s L C = (k, 0)) := HS.out k hks.out (by rw [← HP.out]; exact c1) (by rw [← HQ.out]; exact c2)
          subst c1 c2
          clear hpre HS HN
          go_wp2_with fail
          refine (CW2.out _).mono ?_
          rintro e w1 ⟨rfl, hb1⟩
          have HB1 := Lib.hid (hbel.out.trans (hb1.mono hz1))
          obtain ⟨k0, k1, hz, hF⟩ := HX.out _ HB1.out
          have HF := Lib.hid hF
          clear hb1 hF
          go_wp2
          go_ret2
          exact ⟨by rw [HR.out]; rfl, HF.out.alloc HF.out.size _⟩
        · have HPr : Hid (∀ j, j < k + 1 → j ≤ s.length → ¬ (((whereL s j).1 : Int) = L ∧ ((whereL s j).2 : Int) = C)) := fun j hj hjl hh => by
            by_cases e : j = k
            · subst e; exact c2 (by rw [HQ.out]; exact hh.2)
            · exact hpre.out j (by omega) hjl hh
          subst c1
          have g2 : (Q == C) = false := by rw [beq_eq_false_iff_ne]; exact c2
          clear hpre HS HN
          go_wp2_with fail
          refine (CW2.out _).mono ?_
          rintro e w1 ⟨rfl, hb1⟩
          have HB1 := Lib.hid (hbel.out.trans (hb1.mono hz1))
          obtain ⟨k0, k1, hz, hF⟩ := HX.out _ HB1.out
          clear hb1 hF
          go_wp2
          go_roundw
          case rel => exact ⟨k + 1, by omega, by go_num, HPr, HB1.out.alloc (by omega) _⟩
          case measure => simp [intOf]; omega
      · have HPr : Hid (∀ j, j < k + 1 → j ≤ s.length → ¬ (((whereL s j).1 : Int) = L ∧ ((whereL s j).2 : Int) = C)) := fun j hj hjl hh => by
          by_cases e : j = k
          · subst e; exact c1 (by rw [HP.out]; exact hh.1)
          · exact hpre.out j (by omega) hjl hh
        have g2 : (P == L) = false := by rw [beq_eq_false_iff_ne]; exact c1
        clear hpre HS HN
        go_wp2_with fail
        refine (CW2.out _).mono ?_
        rintro e w1 ⟨rfl, hb1⟩
        have HB1 := Lib.hid (hbel.out.trans (hb1.mono hz1))
        obtain ⟨k0, k1, hz, hF⟩ := HX.out _ HB1.out
        clear hb1 hF
        go_wp2
        go_roundw
        case rel => exact ⟨k + 1, by omega, by go_num, HPr, HB1.out.alloc (by omega) _⟩
        case measure => simp [intOf]; omega
    · have HR : Hid (atF s L C = (0, 3)) := HN.out fun j hj => hpre.out j (by have := HSZ.out; omega) hj
      have g1 : decide ((k : Int) ≤ ((mkS s).size : Int)) = false := decide_eq_false (by omega)
      have g1' : decide (k ≤ (mkS s).size) = false := decide_eq_false hlt
      have HF := Lib.hid (HX.out _ hbel.out).2.2.2
      clear hpre HS HN hlt
      go_wp2
      go_ret2
      exact ⟨by rw [HR.out]; rfl, HF.out⟩
theorem refAt_any (s : List UInt8) (L C : Int) (w : World) (hs : s.length ≤ 140737488355328) :
    Calls Tryz.prog 19 #[.string (mkS s), .agg #[.int .i64 L, .int .i64 C]] w fun e w' => e = .returned (.tuple #[.int .i64 (atF s L C).1, .int .i64 (atF s L C).2]) ∧ Below w.heap.size w w' := by
  by_cases h : chkE s = 0
  · exact refAt_ok s L C w h
  · exact refAt_bad s L C w hs h
end Go.Proofs.YtlhbfgkcalalkaaGreatDoor
