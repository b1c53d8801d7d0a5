/- Where, and the reference's. -/
import Derived.Test.YtlhbfgkcalalkaaGreatDoorOa
import Derived.Test.YtlhbfgkcalalkaaGreatDoorShelf
import Derived.Test.YtlhbfgkcalalkaaGreatDoorEa
import Derived.Test.YtlhbfgkcalalkaaGreatDoorUa
set_option linter.unusedVariables false
set_option linter.unusedSimpArgs false
namespace Go.Proofs.YtlhbfgkcalalkaaGreatDoor
open Go.RowKit Go.Shelf

/-- What Where comes to: the line, the column, the error. -/
def whereF (s : List UInt8) (a : Int) : (Nat × Nat) × Nat :=
  if chkE s ≠ 0 then ((0, 0), chkE s) else if 0 ≤ a ∧ a ≤ s.length then (whereL s a.toNat, 0) else ((0, 0), 3)

set_option maxRecDepth 100000 in
set_option maxHeartbeats 2000000 in
theorem where_bad (s : List UInt8) (a : Int) (w : World) (hs : s.length ≤ 140737488355328) (h : chkE s ≠ 0) :
    Calls Tryz.prog 16 #[.string (mkS s), .int .i64 a] w fun e w' => e = .returned (.tuple #[.agg #[.int .i64 (whereF s a).1.1, .int .i64 (whereF s a).1.2], .int .i64 (whereF s a).2]) ∧ Below w.heap.size w w' := by
  obtain ⟨E, hE⟩ : ∃ E : Int, E = chkE s := ⟨_, rfl⟩
  have HF : Hid (whereF s a = ((0, 0), chkE s)) := by show _ = _; unfold whereF; rw [if_pos h]
  have CA : Hid (∀ W, Calls Tryz.prog 25 #[.string (mkS s)] W fun e w' => e = .returned (.tuple #[.int .i64 (chkAt s), .int .i64 E]) ∧ W = w') := fun W => by
    have := textError_any (mkS s) W (by rw [mkS_size]; unfold maxLen; omega)
    rw [mkS_list, ← hE] at this; exact this
  have hb : (E != 0) = true := by rw [bne_iff_ne, hE]; omega
  have HE := Lib.hid hE
  clear h hE
  go_enter Tryz.func16, Tryz.ntmps16
  go_wp2_with fail
  refine (CA.out _).mono ?_
  rintro e w' ⟨rfl, rfl⟩
  go_wp2
  refine bodyPost_ret (v := .tuple #[.agg #[.int .i64 0, .int .i64 0], .int .i64 E]) (by simp [results, Tryz.results16, go_sem]) rfl ⟨?_, ?_⟩
  · rw [HF.out, HE.out]; rfl
  · repeat (first | refine Below.setCell ?_ (by simp) _ | exact (Below.refl _ _).alloc (Nat.le_refl _) _)

set_option maxRecDepth 100000 in
set_option maxHeartbeats 2000000 in
theorem where_range (s : List UInt8) (a : Int) (w : World) (h : chkE s = 0) (ha : ¬ (0 ≤ a ∧ a ≤ s.length)) :
    Calls Tryz.prog 16 #[.string (mkS s), .int .i64 a] w fun e w' => e = .returned (.tuple #[.agg #[.int .i64 (whereF s a).1.1, .int .i64 (whereF s a).1.2], .int .i64 (whereF s a).2]) ∧ Below w.heap.size w w' := by
  have hl := chkE_len h
  have HF : Hid (whereF s a = ((0, 0), 3)) := by show _ = _; unfold whereF; rw [if_neg (by omega), if_neg ha]
  have CA : Hid (∀ W, Calls Tryz.prog 25 #[.string (mkS s)] W fun e w' => e = .returned (.tuple #[.int .i64 (chkAt s), .int .i64 0]) ∧ W = w') := fun W => by
    have := textError_any (mkS s) W (by rw [mkS_size]; unfold maxLen; omega)
    rw [mkS_list, h] at this; exact this
  have hsz : (mkS s).size = s.length := mkS_size s
  by_cases h0 : a < 0
  · have g1 : decide (a < 0) = true := decide_eq_true h0
    clear h hl ha hsz
    go_enter Tryz.func16, Tryz.ntmps16
    go_wp2_with fail
    refine (CA.out _).mono ?_
    rintro e w' ⟨rfl, rfl⟩
    go_wp2
    refine bodyPost_ret (v := .tuple #[.agg #[.int .i64 0, .int .i64 0], .int .i64 3]) (by simp [results, Tryz.results16, go_sem]) rfl ⟨?_, ?_⟩
    · rw [HF.out]; rfl
    · repeat (first | refine Below.setCell ?_ (by simp) _ | exact (Below.refl _ _).alloc (Nat.le_refl _) _)
  · have g1 : decide (a < 0) = false := decide_eq_false h0
    have g2 : decide (((mkS s).size : Int) < a) = true := decide_eq_true (by omega)
    clear h hl ha hsz
    go_enter Tryz.func16, Tryz.ntmps16
    go_wp2_with fail
    refine (CA.out _).mono ?_
    rintro e w' ⟨rfl, rfl⟩
    go_wp2
    refine bodyPost_ret (v := .tuple #[.agg #[.int .i64 0, .int .i64 0], .int .i64 3]) (by simp [results, Tryz.results16, go_sem]) rfl ⟨?_, ?_⟩
    · rw [HF.out]; rfl
    · repeat (first | refine Below.setCell ?_ (by simp) _ | exact (Below.refl _ _).alloc (Nat.le_refl _) _)

set_option maxRecDepth 100000 in
set_option maxHeartbeats 2000000 in
theorem where_ok (s : List UInt8) (n : Nat) (w : World) (h : chkE s = 0) (ha : n ≤ s.length) :
    Calls Tryz.prog 16 #[.string (mkS s), .int .i64 n] w fun e w' => e = .returned (.tuple #[.agg #[.int .i64 (whereF s n).1.1, .int .i64 (whereF s n).1.2], .int .i64 (whereF s n).2]) ∧ Below w.heap.size w w' := by
  have hl := chkE_len h
  have HF : Hid (whereF s n = (whereL s n, 0)) := by show _ = _; unfold whereF; rw [if_neg (by omega), if_pos ⟨by omega, by omega⟩]; rfl
  have CA : Hid (∀ W, Calls Tryz.prog 25 #[.string (mkS s)] W fun e w' => e = .returned (.tuple #[.int .i64 (chkAt s), .int .i64 0]) ∧ W = w') := fun W => by
    have := textError_any (mkS s) W (by rw [mkS_size]; unfold maxLen; omega)
    rw [mkS_list, h] at this; exact this
  have hsz : (mkS s).size = s.length := mkS_size s
  have hx : (mkS s).extract 0 n = mkS (s.take n) := by rw [← mkS_self ((mkS s).extract 0 n), Lib.extract_from_zero, mkS_list]
  obtain ⟨b, hb⟩ : ∃ b, b = Lib.lastIndexByte (mkS (s.take n)) 10 := ⟨_, rfl⟩
  obtain ⟨i1, i2, i3, i4⟩ := last_where (s.take n) b hb
  have htl : (s.take n).length = n := by simp; omega
  obtain ⟨k, hk⟩ : ∃ k : Nat, k = (s.take n).count 10 := ⟨_, rfl⟩
  have CL : Hid (∀ W, Calls Tryz.prog 43 #[.string ((mkS s).extract 0 n), .int .u8 10] W fun e w' => e = .returned (.int .i64 b) ∧ w' = W) := fun W => by
    rw [hx, hb]; exact Tryz.strings_LastIndexByte (mkS (s.take n)) 10 (by rw [mkS_size, htl]; omega) W
  have CC : Hid (∀ W, Calls Tryz.prog 44 #[.string ((mkS s).extract 0 n), .string ⟨#[10]⟩] W fun e w' => e = .returned (.int .i64 k) ∧ w' = W) := fun W => by
    have := Tryz.strings_Count_one (mkS (s.take n)) 10 W
    rw [mkS_list] at this
    rw [hx, hk]; exact this
  have hkl : k ≤ n := by have := List.count_le_length (a := (10 : UInt8)) (l := s.take n); omega
  obtain ⟨L, hL⟩ : ∃ L : Int, L = (whereL s n).1 := ⟨_, rfl⟩
  obtain ⟨C, hC⟩ : ∃ C : Int, C = (whereL s n).2 := ⟨_, rfl⟩
  have eL : L = (k : Int) + 1 := by rw [hL]; show (((whF (s.take n) (1, 1)).1 : Nat) : Int) = _; rw [i1, hk]; push_cast; rfl
  have eC : C = (n : Int) - (b + 1) + 1 := by rw [hC]; show (((whF (s.take n) (1, 1)).2 : Nat) : Int) = _; rw [i2, htl]
  obtain ⟨B, hB⟩ : ∃ B : Int, B = b + 1 := ⟨_, rfl⟩
  obtain ⟨D, hD⟩ : ∃ D : Int, D = (n : Int) - B := ⟨_, rfl⟩
  have w1 : IntKind.i64.wrap (b + 1) = B := by rw [IntWalk.i64_in _ (by omega), hB]
  have w2 : IntKind.i64.wrap ((k : Int) + 1) = L := by rw [IntWalk.i64_in _ (by omega), eL]
  have w3 : IntKind.i64.wrap ((n : Int) - B) = D := by rw [IntWalk.i64_in _ (by omega), hD]
  have w4 : IntKind.i64.wrap (D + 1) = C := by rw [IntWalk.i64_in _ (by omega)]; omega
  have g1 : decide ((n : Int) < 0) = false := decide_eq_false (by omega)
  have g2 : decide (((mkS s).size : Int) < (n : Int)) = false := decide_eq_false (by omega)
  have g3 : n ≤ (mkS s).size := by omega
  have HL := Lib.hid hL; have HC := Lib.hid hC
  clear h hl ha hsz hx hb i1 i2 i3 i4 htl hk hkl hL hC eL eC hB hD
  go_enter Tryz.func16, Tryz.ntmps16
  go_wp2_with fail
  refine (CA.out _).mono ?_
  rintro e w' ⟨rfl, rfl⟩
  go_wp2_with fail
  refine (CL.out _).mono ?_
  rintro e w' ⟨rfl, rfl⟩
  go_wp2_with fail
  refine (CC.out _).mono ?_
  rintro e w' ⟨rfl, rfl⟩
  go_wp2
  refine bodyPost_ret (v := .tuple #[.agg #[.int .i64 L, .int .i64 C], .int .i64 0]) (by simp [results, Tryz.results16, go_sem]) rfl ⟨?_, ?_⟩
  · rw [HF.out, HL.out, HC.out]; rfl
  · repeat (first | refine Below.setCell ?_ (by simp) _ | exact (Below.refl _ _).alloc (Nat.le_refl _) _)
theorem where_any (s : List UInt8) (a : Int) (w : World) (hs : s.length ≤ 140737488355328) :
    Calls Tryz.prog 16 #[.string (mkS s), .int .i64 a] w fun e w' => e = .returned (.tuple #[.agg #[.int .i64 (whereF s a).1.1, .int .i64 (whereF s a).1.2], .int .i64 (whereF s a).2]) ∧ Below w.heap.size w w' := by
  by_cases h : chkE s = 0
  · by_cases ha : 0 ≤ a ∧ a ≤ s.length
    · obtain ⟨n, rfl⟩ : ∃ n : Nat, a = n := ⟨a.toNat, by omega⟩
      exact where_ok s n w h (by omega)
    · exact where_range s a w h ha
  · exact where_bad s a w hs h
end Go.Proofs.YtlhbfgkcalalkaaGreatDoor
