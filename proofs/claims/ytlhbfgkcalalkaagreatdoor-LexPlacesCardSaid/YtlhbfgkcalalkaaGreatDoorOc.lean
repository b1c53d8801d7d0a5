/- The reference's Where and At. -/
import Derived.Test.YtlhbfgkcalalkaaGreatDoorOb
import Derived.Test.YtlhbfgkcalalkaaGreatDoorWd
import Derived.BigQuiet
set_option linter.unusedVariables false
set_option linter.unusedSimpArgs false
namespace Go.Proofs.YtlhbfgkcalalkaaGreatDoor
open Go.RowKit Go.Shelf

/-- What the loop of the reference's Where keeps in memory. -/
def WhJ (w wr : World) (p : Nat × Nat) : Prop :=
  wr.cell? ⟨w.heap.size + 1, 0, none⟩ = some (.int .i64 p.1) ∧ wr.cell? ⟨w.heap.size + 1, 1, none⟩ = some (.int .i64 p.2) ∧
  wr.frozen? ⟨w.heap.size + 1, 0, none⟩ = false ∧ wr.frozen? ⟨w.heap.size + 1, 1, none⟩ = false ∧
  wr.cell? ⟨w.heap.size, 0, none⟩ = some (.int .i64 0) ∧ wr.cell? ⟨w.heap.size, 1, none⟩ = some (.int .i64 0) ∧
  wr.frozen? ⟨w.heap.size, 0, none⟩ = false ∧ wr.frozen? ⟨w.heap.size, 1, none⟩ = false ∧ w.heap.size + 1 < wr.heap.size ∧ Below w.heap.size w wr
theorem WhJ.put {w wr : World} {p : Nat × Nat} (h : WhJ w wr p) (i : Nat) (hi : i < 2) (v : Int) (q : Nat × Nat) (hq : (i = 0 → (q.1 : Int) = v ∧ q.2 = p.2) ∧ (i = 1 → (q.2 : Int) = v ∧ q.1 = p.1)) : WhJ w (wr.setCell ⟨w.heap.size + 1, i, none⟩ (.int .i64 v)) q := by
  obtain ⟨a1, a2, a3, a4, a5, a6, a7, a8, a9, a10⟩ := h
  have o1 : (wr.setCell ⟨w.heap.size + 1, i, none⟩ (.int .i64 v)).cell? ⟨w.heap.size, 0, none⟩ = some (.int .i64 0) := by
    rw [World.cell?_setCell_other (h := by intro h; have := congrArg Addr.block h; simp at this)]; exact a5
  have o2 : (wr.setCell ⟨w.heap.size + 1, i, none⟩ (.int .i64 v)).cell? ⟨w.heap.size, 1, none⟩ = some (.int .i64 0) := by
    rw [World.cell?_setCell_other (h := by intro h; have := congrArg Addr.block h; simp at this)]; exact a6
  have i01 : i = 0 ∨ i = 1 := by omega
  rcases i01 with rfl | rfl
  · obtain ⟨e1, e2⟩ := hq.1 rfl
    refine ⟨by rw [e1]; exact World.cell?_setCell_same _ _ _ a1, ?_, by simpa [go_sem] using a3, by simpa [go_sem] using a4, o1, o2, by simpa [go_sem] using a7, by simpa [go_sem] using a8, by simpa using a9, a10.setCell (by simp) _⟩
    rw [World.cell?_setCell_other (h := by intro h; have := congrArg Addr.off h; simp at this), e2]; exact a2
  · obtain ⟨e1, e2⟩ := hq.2 rfl
    refine ⟨?_, by rw [e1]; exact World.cell?_setCell_same _ _ _ a2, by simpa [go_sem] using a3, by simpa [go_sem] using a4, o1, o2, by simpa [go_sem] using a7, by simpa [go_sem] using a8, by simpa using a9, a10.setCell (by simp) _⟩
    rw [World.cell?_setCell_other (h := by intro h; have := congrArg Addr.off h; simp at this), e2]; exact a1

set_option maxRecDepth 100000 in
set_option maxHeartbeats 2000000 in
theorem refWhere_bad (s : List UInt8) (a : Int) (w : World) (hs : s.length ≤ 140737488355328) (h : chkE s ≠ 0) :
    Calls Tryz.prog 18 #[.string (mkS s), .int .i64 a] w fun e w' => e = .returned (.tuple #[.agg #[.int .i64 (whereF s a).1.1, .int .i64 (whereF s a).1.2], .int .i64 (whereF s a).2]) ∧ Below w.heap.size w w' := by
  obtain ⟨E, hE⟩ : ∃ E : Int, E = chkE s := ⟨_, rfl⟩
  have HF : Hid (whereF s a = ((0, 0), chkE s)) := by show _ = _; unfold whereF; rw [if_pos h]
  have CA : Hid (∀ W, Calls Tryz.prog 30 #[.string (mkS s)] W fun e w' => e = .returned (.tuple #[.int .i64 (chkAt s), .int .i64 E]) ∧ W = w') := fun W => by
    have := check_any (mkS s) W (by rw [mkS_size]; unfold maxLen; omega)
    rw [mkS_list, ← hE] at this; exact this
  have hb : (E != 0) = true := by rw [bne_iff_ne, hE]; omega
  have HE := Lib.hid hE
  clear h hE
  go_enter Tryz.func18, Tryz.ntmps18
  go_wp2_with fail
  refine (CA.out _).mono ?_
  rintro e w' ⟨rfl, rfl⟩
  go_wp2
  refine bodyPost_ret (v := .tuple #[.agg #[.int .i64 0, .int .i64 0], .int .i64 E]) (by simp [results, Tryz.results18, go_sem]) rfl ⟨?_, ?_⟩
  · rw [HF.out, HE.out]; rfl
  · repeat (first | refine Below.setCell ?_ (by simp) _ | exact (Below.refl _ _).alloc (Nat.le_refl _) _)

set_option maxRecDepth 100000 in
set_option maxHeartbeats 2000000 in
theorem refWhere_range (s : List UInt8) (a : Int) (w : World) (h : chkE s = 0) (ha : ¬ (0 ≤ a ∧ a ≤ s.length)) :
    Calls Tryz.prog 18 #[.string (mkS s), .int .i64 a] w fun e w' => e = .returned (.tuple #[.agg #[.int .i64 (whereF s a).1.1, .int .i64 (whereF s a).1.2], .int .i64 (whereF s a).2]) ∧ Below w.heap.size w w' := by
  have hl := chkE_len h
  have HF : Hid (whereF s a = ((0, 0), 3)) := by show _ = _; unfold whereF; rw [if_neg (by omega), if_neg ha]
  have CA : Hid (∀ W, Calls Tryz.prog 30 #[.string (mkS s)] W fun e w' => e = .returned (.tuple #[.int .i64 (chkAt s), .int .i64 0]) ∧ W = w') := fun W => by
    have := check_any (mkS s) W (by rw [mkS_size]; unfold maxLen; omega)
    rw [mkS_list, h] at this; exact this
  have hsz : (mkS s).size = s.length := mkS_size s
  by_cases h0 : a < 0
  · have g1 : decide (a < 0) = true := decide_eq_true h0
    clear h hl ha hsz
    go_enter Tryz.func18, Tryz.ntmps18
    go_wp2_with fail
    refine (CA.out _).mono ?_
    rintro e w' ⟨rfl, rfl⟩
    go_wp2
    refine bodyPost_ret (v := .tuple #[.agg #[.int .i64 0, .int .i64 0], .int .i64 3]) (by simp [results, Tryz.results18, go_sem]) rfl ⟨?_, ?_⟩
    · rw [HF.out]; rfl
    · repeat (first | refine Below.setCell ?_ (by simp) _ | exact (Below.refl _ _).alloc (Nat.le_refl _) _)
  · have g1 : decide (a < 0) = false := decide_eq_false h0
    have g2 : decide (((mkS s).size : Int) < a) = true := decide_eq_true (by omega)
    clear h hl ha hsz
    go_enter Tryz.func18, Tryz.ntmps18
    go_wp2_with fail
    refine (CA.out _).mono ?_
    rintro e w' ⟨rfl, rfl⟩
    go_wp2
    refine bodyPost_ret (v := .tuple #[.agg #[.int .i64 0, .int .i64 0], .int .i64 3]) (by simp [results, Tryz.results18, go_sem]) rfl ⟨?_, ?_⟩
    · rw [HF.out]; rfl
    · repeat (first | refine Below.setCell ?_ (by simp) _ | exact (Below.refl _ _).alloc (Nat.le_refl _) _)

set_option maxRecDepth 100000 in
set_option maxHeartbeats 2000000 in
theorem refWhere_ok (s : List UInt8) (n : Nat) (w : World) (h : chkE s = 0) (ha : n ≤ s.length) :
    Calls Tryz.prog 18 #[.string (mkS s), .int .i64 n] w fun e w' => e = .returned (.tuple #[.agg #[.int .i64 (whereF s n).1.1, .int .i64 (whereF s n).1.2], .int .i64 (whereF s n).2]) ∧ Below w.heap.size w w' := by
  have hl := chkE_len h
  have HF : Hid (whereF s n = (whereL s n, 0)) := by show _ = _; unfold whereF; rw [if_neg (by omega), if_pos ⟨by omega, by omega⟩]; rfl
  have CA : Hid (∀ W, Calls Tryz.prog 30 #[.string (mkS s)] W fun e w' => e = .returned (.tuple #[.int .i64 (chkAt s), .int .i64 0]) ∧ W = w') := fun W => by
    have := check_any (mkS s) W (by rw [mkS_size]; unfold maxLen; omega)
    rw [mkS_list, h] at this; exact this
  have hsz : (mkS s).size = s.length := mkS_size s
  have HSZ := Lib.hid hsz
  have g1 : decide ((n : Int) < 0) = false := decide_eq_false (by omega)
  have g2 : decide (((mkS s).size : Int) < (n : Int)) = false := decide_eq_false (by omega)
  have g3 : n ≤ (mkS s).size := by omega
  have g4 : (mkS s).size ≤ 2500 := by omega
  clear h ha hsz hl
  go_enter Tryz.func18, Tryz.ntmps18
  go_wp2_with fail
  refine (CA.out _).mono ?_
  rintro e w' ⟨rfl, rfl⟩
  go_wp2
  go_loopw [9] (fun i wr => ∃ k : Nat, k ≤ n ∧ i = .int .i64 k ∧ Hid (WhJ w wr (whereL s k))) (fun i _ => n - (intOf i).toNat)
  case atStart =>
    exact ⟨0, Nat.zero_le _, rfl, by simp [go_sem, whereL_zero], by simp [go_sem, whereL_zero], by simp [go_sem], by simp [go_sem], by simp [go_sem], by simp [go_sem], by simp [go_sem], by simp [go_sem], by simp, ((Below.refl _ _).alloc (Nat.le_refl _) _).alloc (by simp) _⟩
  case round =>
    obtain ⟨k, hk, rfl, hj⟩ := hrel
    obtain ⟨a1, a2, a3, a4, a5, a6, a7, a8, a9, a10⟩ := hj.out
    have HB := Lib.hid a10
    have hb0 : w.heap.size < wr.heap.size := by omega
    clear a10
    by_cases hlt : k < n
    · have hkl : k < (mkS s).size := by omega
      have hkl2 : Hid (k < s.length) := by show _ < _; have := HSZ.out; omega
      obtain ⟨L, C, hLC⟩ : ∃ L C, whereL s k = (L, C) := ⟨_, _, rfl⟩
      have hle := whereL_le s k
      have hstep := whereL_succ s k hkl2.out
      have hge := mkS_getD s k hkl
      rw [hLC] at a1 a2 hj hle hstep
      simp only at a1 a2 hle hstep
      have hCb : C ≤ 2501 := by have := HSZ.out; omega
      have hLb : L ≤ 2501 := by have := HSZ.out; omega
      have w1 : IntKind.i64.wrap ((C : Int) + 1) = (C : Int) + 1 := IntWalk.i64_in _ (by omega)
      have w2 : IntKind.i64.wrap ((L : Int) + 1) = (L : Int) + 1 := IntWalk.i64_in _ (by omega)
      by_cases h1 : s.getD k 0 = 10
      · rw [if_pos h1] at hstep
        have HS := Lib.hid hstep
        have q1 : ((((mkS s)[k]'hkl).toNat : Int) == 10) = true := by rw [hge, h1]; rfl
        clear hstep h1 hLC hle hkl2 hge
        go_wp2
        go_roundw
        case rel =>
          refine ⟨k + 1, by omega, by go_num, ?_⟩
          rw [HS.out]
          exact ((hj.out.put 1 (by omega) _ (L, C + 1) ⟨fun h => (by cases h), fun _ => ⟨by push_cast; rfl, rfl⟩⟩).put 0 (by omega) _ (L + 1, C + 1) ⟨fun _ => ⟨by push_cast; rfl, rfl⟩, fun h => (by cases h)⟩).put 1 (by omega) _ (L + 1, 1) ⟨fun h => (by cases h), fun _ => ⟨rfl, rfl⟩⟩
        case measure => simp [intOf]; omega
      · rw [if_neg h1] at hstep
        have HS := Lib.hid hstep
        have q1 : ((((mkS s)[k]'hkl).toNat : Int) == 10) = false := by
          rw [beq_eq_false_iff_ne]; intro e; exact h1 (by rw [← hge]; exact UInt8.toNat_inj.1 (by show _ = 10; omega))
        clear hstep h1 hLC hle hkl2 hge
        go_wp2
        go_roundw
        case rel =>
          refine ⟨k + 1, by omega, by go_num, ?_⟩
          rw [HS.out]
          exact hj.out.put 1 (by omega) _ (L, C + 1) ⟨fun h => (by cases h), fun _ => ⟨by push_cast; rfl, rfl⟩⟩
        case measure => simp [intOf]; omega
    · have hkn : k = n := by omega
      subst hkn
      obtain ⟨L, C, hLC⟩ : ∃ L C, whereL s k = (L, C) := ⟨_, _, rfl⟩
      have HLC := Lib.hid hLC
      rw [hLC] at a1 a2
      simp only at a1 a2
      clear hLC hlt
      go_wp2
      refine bodyPost_ret (v := .tuple #[.agg #[.int .i64 L, .int .i64 C], .int .i64 0]) (by simp [results, Tryz.results18, go_sem, a1, a2, a5, a6, hb0]) rfl ⟨?_, ?_⟩
      · rw [HF.out, HLC.out]; rfl
      · repeat (first | exact HB.out | refine Below.setCell ?_ (by simp) _)
theorem refWhere_any (s : List UInt8) (a : Int) (w : World) (hs : s.length ≤ 140737488355328) :
    Calls Tryz.prog 18 #[.string (mkS s), .int .i64 a] w fun e w' => e = .returned (.tuple #[.agg #[.int .i64 (whereF s a).1.1, .int .i64 (whereF s a).1.2], .int .i64 (whereF s a).2]) ∧ Below w.heap.size w w' := by
  by_cases h : chkE s = 0
  · by_cases ha : 0 ≤ a ∧ a ≤ s.length
    · obtain ⟨n, rfl⟩ : ∃ n : Nat, a = n := ⟨a.toNat, by omega⟩
      exact refWhere_ok s n w h (by omega)
    · exact refWhere_range s a w h ha
  · exact refWhere_bad s a w hs h
end Go.Proofs.YtlhbfgkcalalkaaGreatDoor
