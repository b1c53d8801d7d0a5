/- Comments of a text with an error; the walk of LexPlaced. -/
import Derived.Test.YtlhbfgkcalalkaaGreatDoorPc
import Derived.Test.YtlhbfgkcalalkaaGreatDoorOe
import Derived.Test.YtlhbfgkcalalkaaGreatDoorLb
set_option linter.unusedVariables false
set_option linter.unusedSimpArgs false
namespace Go.Proofs.YtlhbfgkcalalkaaGreatDoor
open Go.RowKit Go.Shelf

set_option maxRecDepth 100000 in
set_option maxHeartbeats 2000000 in
theorem placed_bad (s : List UInt8) (w : World) (hs : s.length ≤ 140737488355328) (he : ErrOk w) (h : chkE s ≠ 0) :
    Calls Tryz.prog 7 #[.string (mkS s)] w fun e w' => e = .returned (.bool true) ∧ Below w.heap.size w w' := by
  have CW : Hid (∀ W, Below w.heap.size w W → Calls Tryz.prog 9 #[] W fun e w' => e = .returned (.bool true) ∧ Below W.heap.size W w') := fun W hW => awake_any W (he.below hW)
  obtain ⟨E, hE⟩ : ∃ E : Int, E = chkE s := ⟨_, rfl⟩
  have CC : Hid (∀ W, Calls Tryz.prog 23 #[.string (mkS s)] W fun e w' => ∃ v a, e = .returned (.tuple #[v, a, .int .i64 E]) ∧ Below W.heap.size W w') := fun W => by
    have CA : Hid (∀ W, Calls Tryz.prog 25 #[.string (mkS s)] W fun e w' => e = .returned (.tuple #[.int .i64 (chkAt s), .int .i64 E]) ∧ W = w') := fun W => by
      have := textError_any (mkS s) W (by rw [mkS_size]; unfold maxLen; omega)
      rw [mkS_list, ← hE] at this; exact this
    have hb : (E != 0) = true := by rw [bne_iff_ne, hE]; omega
    clear h hE he CW
    go_enter Tryz.func23, Tryz.ntmps23
    go_wp2_with fail
    refine (CA.out _).mono ?_
    rintro e w' ⟨rfl, rfl⟩
    go_wp2
    refine bodyPost_ret (v := .tuple #[.slice none 0 0, .int .i64 (chkAt s), .int .i64 E]) (by simp [results, Tryz.results23, go_sem]) rfl ⟨_, _, rfl, ?_⟩
    repeat (first | exact Below.refl _ _ | refine Below.setCell ?_ (by simp) _ | refine Below.alloc ?_ (by simp) _)
  have hb : (E != 0) = true := by rw [bne_iff_ne, hE]; omega
  clear h hE he
  go_enter Tryz.func7, Tryz.ntmps7
  go_wp2_with fail
  refine (CC.out _).mono ?_
  rintro e w1 ⟨v, a, rfl, hb1⟩
  have HB1 := Lib.hid hb1
  clear hb1
  go_wp2_with fail
  refine (CW.out _ HB1.out).mono ?_
  rintro e w5 ⟨rfl, hb5⟩
  have hF : Below w.heap.size w w5 := HB1.out.trans (hb5.mono HB1.out.size)
  clear hb5
  go_wp2
  go_ret
  exact ⟨ret_bool rfl, hF⟩

set_option maxRecDepth 100000 in
set_option maxHeartbeats 4000000 in
theorem placed_ok (s : List UInt8) (w : World) (he : ErrOk w) (h : chkE s = 0) :
    Calls Tryz.prog 7 #[.string (mkS s)] w fun e w' => e = .returned (.bool true) ∧ Below w.heap.size w w' := by
  have CW : Hid (∀ W, Below w.heap.size w W → Calls Tryz.prog 9 #[] W fun e w' => e = .returned (.bool true) ∧ Below W.heap.size W w') := fun W hW => awake_any W (he.below hW)
  have hl := chkE_len h
  have CC : Hid (∀ W, Calls Tryz.prog 23 #[.string (mkS s)] W fun e w' => ∃ v, e = .returned (.tuple #[v, .int .i64 0, .int .i64 0]) ∧ Below W.heap.size W w') := fun W => by
    refine (lexComments_ok s W (by omega) h).mono ?_
    rintro e w' ⟨v, he, _, hb⟩
    exact ⟨v, he, hb⟩
  have hsz : (mkS s).size = s.length := mkS_size s
  by_cases hlong : 400 < s.length
  · have g1 : decide ((400 : Int) < ((mkS s).size : Int)) = true := decide_eq_true (by omega)
    have g1' : 400 < (mkS s).size := by omega
    clear h hl he hsz hlong
    go_enter Tryz.func7, Tryz.ntmps7
    go_wp2_with fail
    refine (CC.out _).mono ?_
    rintro e w1 ⟨v, rfl, hb1⟩
    have HB1 := Lib.hid hb1
    clear hb1
    go_wp2_with fail
    refine (CW.out _ HB1.out).mono ?_
    rintro e w5 ⟨rfl, hb5⟩
    have hF : Below w.heap.size w w5 := HB1.out.trans (hb5.mono HB1.out.size)
    clear hb5
    go_wp2
    go_ret
    exact ⟨ret_bool rfl, hF⟩
  · have g1 : decide ((400 : Int) < ((mkS s).size : Int)) = false := decide_eq_false (by omega)
    have g1' : decide (400 < (mkS s).size) = false := decide_eq_false (by omega)
    have hm4 : (mkS s).size ≤ 400 := by omega
    have HSZ := Lib.hid hsz
    have C1 : Hid (∀ (W : World) (k : Nat), k ≤ s.length → Calls Tryz.prog 16 #[.string (mkS s), .int .i64 k] W fun e w' => e = .returned (.tuple #[.agg #[.int .i64 ((whereL s k).1 : Nat), .int .i64 ((whereL s k).2 : Nat)], .int .i64 0]) ∧ Below W.heap.size W w') := fun W k hk => by
      have := where_ok s k W h hk
      have e : whereF s k = (whereL s k, 0) := by unfold whereF; rw [if_neg (by omega), if_pos ⟨by omega, by omega⟩]; rfl
      rw [e] at this; exact this
    have C2 : Hid (∀ (W : World) (k : Nat), k ≤ s.length → Calls Tryz.prog 17 #[.string (mkS s), .agg #[.int .i64 ((whereL s k).1 : Nat), .int .i64 ((whereL s k).2 : Nat)]] W fun e w' => e = .returned (.tuple #[.int .i64 k, .int .i64 0]) ∧ Below W.heap.size W w') := fun W k hk => by
      have hle := whereL_le s k
      have := at_any s (whereL s k).1 (whereL s k).2 W (by omega) (by omega) (by omega)
      rw [atF_some s _ _ h k hk ⟨rfl, rfl⟩] at this
      exact this
    have HW : Hid (∀ k, k < s.length → whereL s (k + 1) = if s.getD k 0 = 10 then ((whereL s k).1 + 1, 1) else ((whereL s k).1, (whereL s k).2 + 1)) := fun k hk => whereL_succ s k hk
    have HWL : Hid (∀ k, (whereL s k).1 ≤ 401 ∧ (whereL s k).2 ≤ 401) := fun k => by have := whereL_le s k; omega
    clear h hl he hsz hlong
    go_enter Tryz.func7, Tryz.ntmps7
    go_wp2_with fail
    refine (CC.out _).mono ?_
    rintro e w1 ⟨v, rfl, hb1⟩
    have HB1 := Lib.hid hb1
    clear hb1
    go_wp2
    go_loopw [6, 7, 8] (fun ln bg i wr => ∃ k Ln Bg : Nat, k ≤ (mkS s).size + 1 ∧ i = .int .i64 k ∧ ln = .int .i64 Ln ∧ bg = .int .i64 Bg ∧ Bg ≤ 401 ∧ Ln ≤ 402 ∧ Hid (k ≤ s.length → (whereL s k).1 = Ln ∧ (whereL s k).2 + Bg = k + 1 ∧ Bg ≤ k) ∧ Hid (Below w.heap.size w wr)) (fun _ _ i _ => (mkS s).size + 1 - (intOf i).toNat)
    case atStart => exact ⟨0, 1, 0, Nat.zero_le _, rfl, rfl, rfl, by omega, by omega, fun _ => ⟨rfl, rfl, Nat.le_refl _⟩, HB1.out⟩
    case round =>
      obtain ⟨k, Ln, Bg, hk, rfl, rfl, rfl, hBg, hLn, hinv, hbel⟩ := hrel
      by_cases hlt : k ≤ (mkS s).size
      · have hks : Hid (k ≤ s.length) := by show _ ≤ _; rw [← HSZ.out]; exact hlt
        obtain ⟨i1, i2, i3⟩ := hinv.out hks.out
        obtain ⟨Q, hQ⟩ : ∃ Q, Q = (whereL s k).2 := ⟨_, rfl⟩
        have D1 := C1.out
        have c1 : Hid (∀ W, Calls Tryz.prog 16 #[.string (mkS s), .int .i64 k] W fun e w' => e = .returned (.tuple #[.agg #[.int .i64 Ln, .int .i64 Q], .int .i64 0]) ∧ Below W.heap.size W w') := fun W => by
          have := C1.out W k hks.out
          rw [i1, ← hQ] at this; exact this
        have c2 : Hid (∀ W, Calls Tryz.prog 17 #[.string (mkS s), .agg #[.int .i64 Ln, .int .i64 Q]] W fun e w' => e = .returned (.tuple #[.int .i64 k, .int .i64 0]) ∧ Below W.heap.size W w') := fun W => by
          have := C2.out W k hks.out
          rw [i1, ← hQ] at this; exact this
        have hwl := HWL.out k
        have hw := HW.out k
        rw [i1, ← hQ] at hw
        rw [i1, ← hQ] at hwl
        rw [← hQ] at i2
        obtain ⟨D, hD⟩ : ∃ D : Int, D = (k : Int) - Bg := ⟨_, rfl⟩
        have w1' : IntKind.i64.wrap ((k : Int) - (Bg : Int)) = D := by rw [IntWalk.i64_in _ (by omega), hD]
        have w2' : IntKind.i64.wrap (D + 1) = (Q : Int) := by rw [IntWalk.i64_in _ (by omega)]; omega
        have w3' : IntKind.i64.wrap ((k : Int) + 1) = (k : Int) + 1 := IntWalk.i64_in _ (by omega)
        have w4' : IntKind.i64.wrap ((Ln : Int) + 1) = (Ln : Int) + 1 := IntWalk.i64_in _ (by omega)
        have q1 : decide ((k : Int) ≤ ((mkS s).size : Int)) = true := decide_eq_true (by omega)
        have HI2 := Lib.hid i2
        have HI3 := Lib.hid i3
        have HWK := Lib.hid hw
        have HLQ := Lib.hid hwl
        clear D1 i1 i2 i3 hw hwl hD hQ hinv C1 C2 HW HWL
        by_cases hend : k < (mkS s).size
        · have q2 : decide ((k : Int) < ((mkS s).size : Int)) = true := decide_eq_true (by omega)
          have hge := mkS_getD s k hend
          have hstep := HWK.out (by have := HSZ.out; omega)
          by_cases h10 : s.getD k 0 = 10
          · rw [if_pos h10] at hstep
            have q3 : ((((mkS s)[k]'hend).toNat : Int) == 10) = true := by rw [hge, h10]; rfl
            have HN : Hid (k + 1 ≤ s.length → (whereL s (k + 1)).1 = Ln + 1 ∧ (whereL s (k + 1)).2 + (k + 1) = k + 1 + 1 ∧ k + 1 ≤ k + 1) := fun _ => by rw [hstep]; exact ⟨rfl, by simp only; omega, Nat.le_refl _⟩
            have HLn : Hid (Ln + 1 ≤ 402) := by show _ ≤ _; have := HLQ.out; omega
            clear hge hstep h10 HWK
            go_wp2_with fail
            refine (c1.out _).mono ?_
            rintro e w2 ⟨rfl, hb2⟩
            have HB2 := Lib.hid (hbel.out.trans (hb2.mono hbel.out.size))
            clear hb2
            go_wp2_with fail
            refine (c2.out _).mono ?_
            rintro e w3 ⟨rfl, hb3⟩
            have m0 : w3.cell? ⟨w2.heap.size, 0, none⟩ = some (.int .i64 Ln) := (hb3.cell (by simp)).trans (by simp [go_sem])
            have m1 : w3.cell? ⟨w2.heap.size, 1, none⟩ = some (.int .i64 Q) := (hb3.cell (by simp)).trans (by simp [go_sem])
            have HB3 : Hid (Below w.heap.size w w3) := (HB2.out.alloc HB2.out.size _).trans (hb3.mono (by simp; have := HB2.out.size; omega))
            clear hb3
            go_wp2
            go_roundw
            case rel => exact ⟨k + 1, Ln + 1, k + 1, by omega, by go_num, by go_num, by go_num, by omega, HLn.out, HN, HB3.out⟩
            case measure => simp [intOf]; omega
          · rw [if_neg h10] at hstep
            have q3 : ((((mkS s)[k]'hend).toNat : Int) == 10) = false := by
              rw [beq_eq_false_iff_ne]; intro e; exact h10 (by rw [← hge]; exact UInt8.toNat_inj.1 (by show _ = 10; omega))
            have HN : Hid (k + 1 ≤ s.length → (whereL s (k + 1)).1 = Ln ∧ (whereL s (k + 1)).2 + Bg = k + 1 + 1 ∧ Bg ≤ k + 1) := fun _ => by
              rw [hstep]
              have := HI2.out; have := HI3.out
              exact ⟨rfl, by simp only; omega, by omega⟩
            clear hge hstep h10 HWK
            go_wp2_with fail
            refine (c1.out _).mono ?_
            rintro e w2 ⟨rfl, hb2⟩
            have HB2 := Lib.hid (hbel.out.trans (hb2.mono hbel.out.size))
            clear hb2
            go_wp2_with fail
            refine (c2.out _).mono ?_
            rintro e w3 ⟨rfl, hb3⟩
            have m0 : w3.cell? ⟨w2.heap.size, 0, none⟩ = some (.int .i64 Ln) := (hb3.cell (by simp)).trans (by simp [go_sem])
            have m1 : w3.cell? ⟨w2.heap.size, 1, none⟩ = some (.int .i64 Q) := (hb3.cell (by simp)).trans (by simp [go_sem])
            have HB3 : Hid (Below w.heap.size w w3) := (HB2.out.alloc HB2.out.size _).trans (hb3.mono (by simp; have := HB2.out.size; omega))
            clear hb3
            go_wp2
            go_roundw
            case rel => exact ⟨k + 1, Ln, Bg, by omega, by go_num, rfl, rfl, by omega, by omega, HN, HB3.out⟩
            case measure => simp [intOf]; omega
        · have q2 : decide ((k : Int) < ((mkS s).size : Int)) = false := decide_eq_false (by omega)
          have q2' : decide (k < (mkS s).size) = false := decide_eq_false hend
          have HN : Hid (k + 1 ≤ s.length → (whereL s (k + 1)).1 = Ln ∧ (whereL s (k + 1)).2 + Bg = k + 1 + 1 ∧ Bg ≤ k + 1) := fun h => absurd h (by have := HSZ.out; omega)
          clear HWK
          go_wp2_with fail
          refine (c1.out _).mono ?_
          rintro e w2 ⟨rfl, hb2⟩
          have HB2 := Lib.hid (hbel.out.trans (hb2.mono hbel.out.size))
          clear hb2
          go_wp2_with fail
          refine (c2.out _).mono ?_
          rintro e w3 ⟨rfl, hb3⟩
          have m0 : w3.cell? ⟨w2.heap.size, 0, none⟩ = some (.int .i64 Ln) := (hb3.cell (by simp)).trans (by simp [go_sem])
          have m1 : w3.cell? ⟨w2.heap.size, 1, none⟩ = some (.int .i64 Q) := (hb3.cell (by simp)).trans (by simp [go_sem])
          have HB3 : Hid (Below w.heap.size w w3) := (HB2.out.alloc HB2.out.size _).trans (hb3.mono (by simp; have := HB2.out.size; omega))
          clear hb3
          go_wp2
          go_roundw
          case rel => exact ⟨k + 1, Ln, Bg, by omega, by go_num, rfl, rfl, by omega, by omega, HN, HB3.out⟩
          case measure => simp [intOf]; omega
      · have q1 : decide ((k : Int) ≤ ((mkS s).size : Int)) = false := decide_eq_false (by omega)
        have q1' : decide (k ≤ (mkS s).size) = false := decide_eq_false hlt
        clear hinv C1 C2 HW HWL hlt
        go_wp2_with fail
        refine (CW.out _ hbel.out).mono ?_
        rintro e w5 ⟨rfl, hb5⟩
        have hF : Below w.heap.size w w5 := hbel.out.trans (hb5.mono hbel.out.size)
        clear hb5
        go_wp2
        go_ret
        exact ⟨ret_bool rfl, hF⟩
theorem placed_any (s : List UInt8) (w : World) (hs : s.length ≤ 140737488355328) (he : ErrOk w) :
    Calls Tryz.prog 7 #[.string (mkS s)] w fun e w' => e = .returned (.bool true) ∧ Below w.heap.size w w' := by
  by_cases h : chkE s = 0
  · exact placed_ok s w he h
  · exact placed_bad s w hs he h
end Go.Proofs.YtlhbfgkcalalkaaGreatDoor
