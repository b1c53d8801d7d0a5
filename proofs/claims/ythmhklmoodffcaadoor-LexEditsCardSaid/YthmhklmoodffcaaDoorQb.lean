/- The reference's Undo, and the walk of LexEdits. -/
import Derived.Test.YthmhklmoodffcaaDoorQa
set_option linter.unusedVariables false
set_option linter.unusedSimpArgs false
namespace Go.Proofs.YthmhklmoodffcaaDoor
open Go.RowKit Go.Shelf

set_option maxRecDepth 100000 in
set_option maxHeartbeats 2000000 in
theorem refUndo_no (s : List UInt8) (x : Ed) (w : World) (hs : s.length ≤ 100000) (hput : x.2.2.length ≤ 100000) (h : doE s x ≠ 0) :
    Calls Tryd.prog 27 #[.string (mkS s), edV x] w fun e w' => e = .returned (.tuple #[edV (undoF s x), .int .i64 (doE s x)]) ∧ Below w.heap.size w w' := by
  obtain ⟨E, hE⟩ : ∃ E : Int, E = doE s x := ⟨_, rfl⟩
  have CD : Hid (∀ W, Calls Tryd.prog 26 #[.string (mkS s), .agg #[.int .i64 x.1, .int .i64 x.2.1, .string (mkS x.2.2)]] W fun e w' => e = .returned (.tuple #[.string (mkS (applyF s x)), .int .i64 E]) ∧ Below W.heap.size W w') := fun W => by
    rw [hE]; exact refApply_any s x W hs hput
  have hb0 : (E != 0) = true := by rw [bne_iff_ne, hE]; omega
  have HA : Hid (undoF s x = noEd) := by show _ = _; unfold undoF; rw [if_neg h]
  rw [← hE, HA.out]
  unfold edV
  clear h hE HA
  go_enter Tryd.func27, Tryd.ntmps27
  go_wp2_with fail
  refine (CD.out _).mono ?_
  rintro e w1 ⟨rfl, hb⟩
  have hs1 := hb.size
  have r0 : w1.cell? ⟨w.heap.size + 1, 0, none⟩ = some (.int .i64 0) := (hb.cell (by simp)).trans (by simp [go_sem])
  have r1 : w1.cell? ⟨w.heap.size + 1, 1, none⟩ = some (.int .i64 0) := (hb.cell (by simp)).trans (by simp [go_sem])
  have r2 : w1.cell? ⟨w.heap.size + 1, 2, none⟩ = some (.string ⟨#[]⟩) := (hb.cell (by simp)).trans (by simp [go_sem])
  have q0 : w1.frozen? ⟨w.heap.size + 1, 0, none⟩ = false := (hb.frozen (by simp)).trans (by simp [go_sem])
  have q1 : w1.frozen? ⟨w.heap.size + 1, 1, none⟩ = false := (hb.frozen (by simp)).trans (by simp [go_sem])
  have q2 : w1.frozen? ⟨w.heap.size + 1, 2, none⟩ = false := (hb.frozen (by simp)).trans (by simp [go_sem])
  have hz : w.heap.size + 1 < w1.heap.size := by simp at hs1; omega
  have hfin : Below w.heap.size w w1 := (((Below.refl _ _).alloc (Nat.le_refl _) _).alloc (by simp) _).trans (hb.mono (by simp; omega))
  clear hb hs1
  go_wp2
  refine bodyPost_ret (v := .tuple #[.agg #[.int .i64 0, .int .i64 0, .string ⟨#[]⟩], .int .i64 E]) (by simp [results, Tryd.results27, go_sem, r0, r1, r2, hz]) rfl ⟨rfl, ?_⟩
  repeat (first | refine Below.setCell ?_ (by simp) _ | refine Below.alloc ?_ (by first | exact hfin.size | (simp; omega)) _)
  exact hfin

set_option maxRecDepth 100000 in
set_option maxHeartbeats 2000000 in
theorem refUndo_ok (s put : List UInt8) (F T : Nat) (w : World) (hs : s.length ≤ 100000) (hput : put.length ≤ 100000) (h : doE s (F, T, put) = 0) (h1 : F ≤ T) (h2 : T ≤ s.length) :
    Calls Tryd.prog 27 #[.string (mkS s), edV (F, T, put)] w fun e w' => e = .returned (.tuple #[edV (undoF s (F, T, put)), .int .i64 0]) ∧ Below w.heap.size w w' := by
  obtain ⟨t, ht⟩ : ∃ t, t = applyF s (F, T, put) := ⟨_, rfl⟩
  have CD : Hid (∀ W, Calls Tryd.prog 26 #[.string (mkS s), .agg #[.int .i64 F, .int .i64 T, .string (mkS put)]] W fun e w' => e = .returned (.tuple #[.string (mkS t), .int .i64 0]) ∧ Below W.heap.size W w') := fun W => by
    have := refApply_any s (F, T, put) W hs hput
    rw [h, ← ht] at this; exact this
  have hsz : (mkS s).size = s.length := mkS_size s
  have hpz : (mkS put).size = put.length := mkS_size put
  have h2' : T ≤ (mkS s).size := by omega
  have h4 : (mkS put).size ≤ 100000 := by omega
  have hw : IntKind.i64.wrap ((F : Int) + ((mkS put).size : Int)) = (F : Int) + ((mkS put).size : Int) := IntWalk.i64_in _ (by omega)
  have hx : (mkS s).extract F T = mkS ((s.take T).drop F) := by
    rw [← mkS_self ((mkS s).extract F T), Lib.extract_data, mkS_list, List.drop_take]
  have HU : Hid (edV (undoF s (F, T, put)) = .agg #[.int .i64 F, .int .i64 ((F : Int) + ((mkS put).size : Int)), .string ((mkS s).extract F T)]) := by
    show _ = _; rw [hx, hpz]; unfold undoF; rw [if_pos h]; rfl
  rw [HU.out]
  unfold edV
  clear h ht hsz hx HU h2 hpz
  go_enter Tryd.func27, Tryd.ntmps27
  go_wp2_with fail
  refine (CD.out _).mono ?_
  rintro e w1 ⟨rfl, hb⟩
  have hs1 := hb.size
  have k0 : w1.cell? ⟨w.heap.size, 0, none⟩ = some (.int .i64 F) := (hb.cell (by simp; omega)).trans (by simp [go_sem])
  have k1 : w1.cell? ⟨w.heap.size, 1, none⟩ = some (.int .i64 T) := (hb.cell (by simp; omega)).trans (by simp [go_sem])
  have k2 : w1.cell? ⟨w.heap.size, 2, none⟩ = some (.string (mkS put)) := (hb.cell (by simp; omega)).trans (by simp [go_sem])
  have r0 : w1.cell? ⟨w.heap.size + 1, 0, none⟩ = some (.int .i64 0) := (hb.cell (by simp)).trans (by simp [go_sem])
  have r1 : w1.cell? ⟨w.heap.size + 1, 1, none⟩ = some (.int .i64 0) := (hb.cell (by simp)).trans (by simp [go_sem])
  have r2 : w1.cell? ⟨w.heap.size + 1, 2, none⟩ = some (.string ⟨#[]⟩) := (hb.cell (by simp)).trans (by simp [go_sem])
  have q0 : w1.frozen? ⟨w.heap.size + 1, 0, none⟩ = false := (hb.frozen (by simp)).trans (by simp [go_sem])
  have q1 : w1.frozen? ⟨w.heap.size + 1, 1, none⟩ = false := (hb.frozen (by simp)).trans (by simp [go_sem])
  have q2 : w1.frozen? ⟨w.heap.size + 1, 2, none⟩ = false := (hb.frozen (by simp)).trans (by simp [go_sem])
  have hz : w.heap.size + 1 < w1.heap.size := by simp at hs1; omega
  have hfin : Below w.heap.size w w1 := (((Below.refl _ _).alloc (Nat.le_refl _) _).alloc (by simp) _).trans (hb.mono (by simp; omega))
  clear hb hs1
  go_wp2
  go_region
  go_wp2
  refine bodyPost_ret (v := .tuple #[.agg #[.int .i64 F, .int .i64 ((F : Int) + ((mkS put).size : Int)), .string ((mkS s).extract F T)], .int .i64 0]) (by simp [results, Tryd.results27, go_sem, r0, r1, r2, hz]) rfl ⟨rfl, ?_⟩
  exact (((hfin.setCell (by simp <;> omega) _).setCell (by simp <;> omega) _).setCell (by simp <;> omega) _).drew

theorem refUndo_any (s : List UInt8) (x : Ed) (w : World) (hs : s.length ≤ 100000) (hput : x.2.2.length ≤ 100000) :
    Calls Tryd.prog 27 #[.string (mkS s), edV x] w fun e w' => e = .returned (.tuple #[edV (undoF s x), .int .i64 (doE s x)]) ∧ Below w.heap.size w w' := by
  by_cases h : doE s x = 0
  · obtain ⟨F, T, hx, h1, h2⟩ := isEd_nat (doE_isEd h)
    obtain ⟨F', T', put⟩ := x
    simp only [Prod.mk.injEq] at hx
    obtain ⟨rfl, rfl, _⟩ := hx
    rw [h]
    exact refUndo_ok s put F T w hs hput h h1 h2
  · exact refUndo_no s x w hs hput h
end Go.Proofs.YthmhklmoodffcaaDoor
