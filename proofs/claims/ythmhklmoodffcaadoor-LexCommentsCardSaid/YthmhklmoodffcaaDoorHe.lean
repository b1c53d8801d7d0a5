/- Undo, where there is an edit to take back. -/
import Derived.Test.YthmhklmoodffcaaDoorHd
import Derived.Deep.RegionHeld3
set_option linter.unusedVariables false
set_option linter.unusedSimpArgs false
namespace Go.Proofs.YthmhklmoodffcaaDoor
open Go.RowKit Go.Shelf

/-- What a cell holds, whatever it is. -/
def ccv (W : World) (a : Addr) : Value := (W.cell? a).getD (.bool false)
theorem ccv_some {W : World} {a : Addr} {v : Value} (h : W.cell? a = some v) : W.cell? a = some (ccv W a) := by unfold ccv; rw [h]; rfl
theorem ccv_set {W : World} {a b : Addr} {v u : Value} (h : W.cell? a = some v) : (W.setCell b u).cell? a = some (ccv (W.setCell b u) a) := by
  cases h' : (W.setCell b u).cell? a with
  | some x => unfold ccv; rw [h']; rfl
  | none =>
    by_cases e : a = b
    · subst e; rw [World.cell?_setCell_same (h := h)] at h'; simp at h'
    · rw [World.cell?_setCell_other (h := Ne.symm e), h] at h'; simp at h'

set_option maxRecDepth 100000 in
set_option maxHeartbeats 4000000 in
theorem undo_ok (s put : List UInt8) (F T : Nat) (w : World) (hs : s.length ≤ 140737488355328) (hput : put.length ≤ 140737488355328) (h : doE s (F, T, put) = 0) (h1 : F ≤ T) (h2 : T ≤ s.length) :
    Calls Tryd.prog 25 #[.string (mkS s), edV (F, T, put)] w fun e w' => e = .returned (.tuple #[edV (undoF s (F, T, put)), .int .i64 0]) ∧ Below w.heap.size w w' := by
  obtain ⟨t, ht⟩ : ∃ t, t = splF s (F, T, put) := ⟨_, rfl⟩
  have CD : Hid (∀ W, Calls Tryd.prog 49 #[.string (mkS s), .agg #[.int .i64 F, .int .i64 T, .string (mkS put)]] W fun e w' => e = .returned (.tuple #[.agg #[.int .i64 F, .int .i64 T, .string (mkS put), .string (mkS s), .string (mkS t)], .int .i64 0]) ∧ Below W.heap.size W w') := fun W => by
    have := do_any s (F, T, put) W hs hput
    rw [doOut_yes h, h, ← ht] at this; exact this
  have CB : Hid (∀ W, Calls Tryd.prog 50 #[.agg #[.int .i64 F, .int .i64 T, .string (mkS put), .string (mkS s), .string (mkS t)]] W fun e w' => e = .returned (.int .i64 ((F : Int) + (put.length : Int))) ∧ Below W.heap.size W w') := fun W => behind_any F T put s t W (by omega) (by omega)
  obtain ⟨G, hG⟩ : ∃ G : Int, G = (F : Int) + (put.length : Int) := ⟨_, rfl⟩
  rw [← hG] at CB
  have hsz : (mkS s).size = s.length := mkS_size s
  have h2' : T ≤ (mkS s).size := by omega
  have hx : (mkS s).extract F T = mkS ((s.take T).drop F) := by
    rw [← mkS_self ((mkS s).extract F T), Lib.extract_data, mkS_list, List.drop_take]
  have HU : Hid (edV (undoF s (F, T, put)) = .agg #[.int .i64 F, .int .i64 G, .string ((mkS s).extract F T)]) := by
    show _ = _; rw [hx, hG]; unfold undoF; rw [if_pos h]; rfl
  rw [HU.out]
  unfold edV
  clear h ht hG hsz hx HU h2
  go_enter Tryd.func25, Tryd.ntmps25
  go_wp2_with fail
  refine (CD.out _).mono ?_
  rintro e w1 ⟨rfl, hb⟩
  have hs1 := hb.size
  have r0 : w1.cell? ⟨w.heap.size + 1, 0, none⟩ = some (.int .i64 0) := (hb.cell (by simp)).trans (by simp [go_sem])
  have r1 : w1.cell? ⟨w.heap.size + 1, 1, none⟩ = some (.int .i64 0) := (hb.cell (by simp)).trans (by simp [go_sem])
  have r2 : w1.cell? ⟨w.heap.size + 1, 2, none⟩ = some (.string ⟨#[]⟩) := (hb.cell (by simp)).trans (by simp [go_sem])
  have q0 : w1.frozen? ⟨w.heap.size + 1, 0, none⟩ = false := (hb.frozen (by simp)).trans (by simp [go_sem])
  have q1 : w1.frozen? ⟨w.heap.size + 1, 1, none⟩ = false := (hb.frozen (by simp)).trans (by simp [go_sem])
  have q2 : w1.frozen? ⟨w.heap.size + 1, 2, none⟩ = false := (hb.frozen (by simp)).trans (by simp [go_sem])
  have hz : w.heap.size + 1 < w1.heap.size := by simp at hs1; omega
  have hfin : Below w.heap.size w w1 := (((Below.refl _ _).alloc (Nat.le_refl _) _).alloc (by simp) _).trans (hb.mono (by simp; omega))
  have KS : Hid (∀ W, Below (w1.heap.size + 1) (w1.alloc (.cells #[.int .i64 F, .int .i64 T, .string (mkS put), .string (mkS s), .string (mkS t)] 77)) W → (W.cell? ⟨w1.heap.size, 0, none⟩ = some (.int .i64 F) ∧ W.cell? ⟨w1.heap.size, 1, none⟩ = some (.int .i64 T) ∧ W.cell? ⟨w1.heap.size, 2, none⟩ = some (.string (mkS put)) ∧ W.cell? ⟨w1.heap.size, 3, none⟩ = some (.string (mkS s)) ∧ W.cell? ⟨w1.heap.size, 4, none⟩ = some (.string (mkS t)) ∧ W.cell? ⟨w.heap.size + 1, 0, none⟩ = some (ccv W ⟨w.heap.size + 1, 0, none⟩) ∧ W.cell? ⟨w.heap.size + 1, 1, none⟩ = some (ccv W ⟨w.heap.size + 1, 1, none⟩) ∧ W.cell? ⟨w.heap.size + 1, 2, none⟩ = some (ccv W ⟨w.heap.size + 1, 2, none⟩) ∧ W.frozen? ⟨w.heap.size + 1, 0, none⟩ = false ∧ W.frozen? ⟨w.heap.size + 1, 1, none⟩ = false ∧ W.frozen? ⟨w.heap.size + 1, 2, none⟩ = false ∧ w1.heap.size < W.heap.size ∧ Below w.heap.size w W)) := fun W hW => by
    have hb1 : Below w1.heap.size w1 W := ((Below.refl _ _).alloc (Nat.le_refl _) _).trans (hW.mono (by simp))
    have hsz := hW.size
    have e : ∀ i, W.cell? ⟨w1.heap.size, i, none⟩ = (w1.alloc (.cells #[.int .i64 F, .int .i64 T, .string (mkS put), .string (mkS s), .string (mkS t)] 77)).cell? ⟨w1.heap.size, i, none⟩ := fun i => hW.cell (by simp)
    refine ⟨?_, ?_, ?_, ?_, ?_, ?_, ?_, ?_, ?_, ?_, ?_, ?_, hfin.trans (hb1.mono hfin.size)⟩
    · rw [e]; simp [go_sem]
    · rw [e]; simp [go_sem]
    · rw [e]; simp [go_sem]
    · rw [e]; simp [go_sem]
    · rw [e]; simp [go_sem]
    · exact ccv_some ((hb1.cell (by exact hz)).trans r0)
    · exact ccv_some ((hb1.cell (by exact hz)).trans r1)
    · exact ccv_some ((hb1.cell (by exact hz)).trans r2)
    · rw [hb1.frozen (by exact hz), q0]
    · rw [hb1.frozen (by exact hz), q1]
    · rw [hb1.frozen (by exact hz), q2]
    · simp at hsz; omega
  have K1 : Hid (∀ W i v, (W.cell? ⟨w1.heap.size, 0, none⟩ = some (.int .i64 F) ∧ W.cell? ⟨w1.heap.size, 1, none⟩ = some (.int .i64 T) ∧ W.cell? ⟨w1.heap.size, 2, none⟩ = some (.string (mkS put)) ∧ W.cell? ⟨w1.heap.size, 3, none⟩ = some (.string (mkS s)) ∧ W.cell? ⟨w1.heap.size, 4, none⟩ = some (.string (mkS t)) ∧ W.cell? ⟨w.heap.size + 1, 0, none⟩ = some (ccv W ⟨w.heap.size + 1, 0, none⟩) ∧ W.cell? ⟨w.heap.size + 1, 1, none⟩ = some (ccv W ⟨w.heap.size + 1, 1, none⟩) ∧ W.cell? ⟨w.heap.size + 1, 2, none⟩ = some (ccv W ⟨w.heap.size + 1, 2, none⟩) ∧ W.frozen? ⟨w.heap.size + 1, 0, none⟩ = false ∧ W.frozen? ⟨w.heap.size + 1, 1, none⟩ = false ∧ W.frozen? ⟨w.heap.size + 1, 2, none⟩ = false ∧ w1.heap.size < W.heap.size ∧ Below w.heap.size w W) → ((W.setCell ⟨w.heap.size + 1, i, none⟩ v).cell? ⟨w1.heap.size, 0, none⟩ = some (.int .i64 F) ∧ (W.setCell ⟨w.heap.size + 1, i, none⟩ v).cell? ⟨w1.heap.size, 1, none⟩ = some (.int .i64 T) ∧ (W.setCell ⟨w.heap.size + 1, i, none⟩ v).cell? ⟨w1.heap.size, 2, none⟩ = some (.string (mkS put)) ∧ (W.setCell ⟨w.heap.size + 1, i, none⟩ v).cell? ⟨w1.heap.size, 3, none⟩ = some (.string (mkS s)) ∧ (W.setCell ⟨w.heap.size + 1, i, none⟩ v).cell? ⟨w1.heap.size, 4, none⟩ = some (.string (mkS t)) ∧ (W.setCell ⟨w.heap.size + 1, i, none⟩ v).cell? ⟨w.heap.size + 1, 0, none⟩ = some (ccv (W.setCell ⟨w.heap.size + 1, i, none⟩ v) ⟨w.heap.size + 1, 0, none⟩) ∧ (W.setCell ⟨w.heap.size + 1, i, none⟩ v).cell? ⟨w.heap.size + 1, 1, none⟩ = some (ccv (W.setCell ⟨w.heap.size + 1, i, none⟩ v) ⟨w.heap.size + 1, 1, none⟩) ∧ (W.setCell ⟨w.heap.size + 1, i, none⟩ v).cell? ⟨w.heap.size + 1, 2, none⟩ = some (ccv (W.setCell ⟨w.heap.size + 1, i, none⟩ v) ⟨w.heap.size + 1, 2, none⟩) ∧ (W.setCell ⟨w.heap.size + 1, i, none⟩ v).frozen? ⟨w.heap.size + 1, 0, none⟩ = false ∧ (W.setCell ⟨w.heap.size + 1, i, none⟩ v).frozen? ⟨w.heap.size + 1, 1, none⟩ = false ∧ (W.setCell ⟨w.heap.size + 1, i, none⟩ v).frozen? ⟨w.heap.size + 1, 2, none⟩ = false ∧ w1.heap.size < (W.setCell ⟨w.heap.size + 1, i, none⟩ v).heap.size ∧ Below w.heap.size w (W.setCell ⟨w.heap.size + 1, i, none⟩ v))) := fun W i v ⟨a0, a1, a2, a3, a4, c0, c1, c2, f0, f1, f2, hsz, hbw⟩ => by
    have hne : ∀ j, (⟨w.heap.size + 1, i, none⟩ : Addr) ≠ ⟨w1.heap.size, j, none⟩ := fun j h => by
      have := congrArg Addr.block h; simp at this; omega
    refine ⟨?_, ?_, ?_, ?_, ?_, ccv_set c0, ccv_set c1, ccv_set c2, ?_, ?_, ?_, ?_, hbw.setCell (by simp) _⟩
    · rw [World.cell?_setCell_other (h := hne _)]; exact a0
    · rw [World.cell?_setCell_other (h := hne _)]; exact a1
    · rw [World.cell?_setCell_other (h := hne _)]; exact a2
    · rw [World.cell?_setCell_other (h := hne _)]; exact a3
    · rw [World.cell?_setCell_other (h := hne _)]; exact a4
    · simpa [go_sem] using f0
    · simpa [go_sem] using f1
    · simpa [go_sem] using f2
    · simpa [go_sem] using hsz
  have CB2 : Hid (∀ W, Below (w1.heap.size + 1) (w1.alloc (.cells #[.int .i64 F, .int .i64 T, .string (mkS put), .string (mkS s), .string (mkS t)] 77)) W → Calls Tryd.prog 50 #[.agg #[.int .i64 F, .int .i64 T, .string (mkS put), .string (mkS s), .string (mkS t)]] W fun e w' => e = .returned (.int .i64 G) ∧ Below (w1.heap.size + 1) (w1.alloc (.cells #[.int .i64 F, .int .i64 T, .string (mkS put), .string (mkS s), .string (mkS t)] 77)) w') := fun W hW =>
    (CB.out W).mono fun e w' ⟨he, hb'⟩ => ⟨he, hW.trans (hb'.mono (by have := hW.size; simp at this; omega))⟩
  have HZ := Lib.hid hz
  clear hb hs1 hfin CB CD r0 r1 r2 q0 q1 q2
  go_wp2
  go_region_held3 (fun W => W.cell? ⟨w1.heap.size, 0, none⟩ = some (.int .i64 F) ∧ W.cell? ⟨w1.heap.size, 1, none⟩ = some (.int .i64 T) ∧ W.cell? ⟨w1.heap.size, 2, none⟩ = some (.string (mkS put)) ∧ W.cell? ⟨w1.heap.size, 3, none⟩ = some (.string (mkS s)) ∧ W.cell? ⟨w1.heap.size, 4, none⟩ = some (.string (mkS t)) ∧ W.cell? ⟨w.heap.size + 1, 0, none⟩ = some (ccv W ⟨w.heap.size + 1, 0, none⟩) ∧ W.cell? ⟨w.heap.size + 1, 1, none⟩ = some (ccv W ⟨w.heap.size + 1, 1, none⟩) ∧ W.cell? ⟨w.heap.size + 1, 2, none⟩ = some (ccv W ⟨w.heap.size + 1, 2, none⟩) ∧ W.frozen? ⟨w.heap.size + 1, 0, none⟩ = false ∧ W.frozen? ⟨w.heap.size + 1, 1, none⟩ = false ∧ W.frozen? ⟨w.heap.size + 1, 2, none⟩ = false ∧ w1.heap.size < W.heap.size ∧ Below w.heap.size w W)
    (first | exact KS.out _ (by first | assumption | exact (Below.refl _ _).drew | exact Below.refl _ _ | (refine Below.drew ?_; assumption)) | exact K1.out _ _ _ (K1.out _ _ _ (K1.out _ _ _ (KS.out _ (by assumption)))))
    (first | (go_at_call 50; refine (CB2.out _ (by first | assumption | exact (Below.refl _ _).drew | exact Below.refl _ _ | (refine Below.drew ?_; assumption))).mono ?_; rintro e wa ⟨rfl, hba⟩))
  obtain ⟨a0, a1, a2, a3, a4, c0, c1, c2, f0, f1, f2, hsz, hbw⟩ := KS.out _ hba
  have hz := HZ.out
  clear hba KS K1 CB2
  go_wp2
  refine bodyPost_ret (v := .tuple #[.agg #[.int .i64 F, .int .i64 G, .string ((mkS s).extract F T)], .int .i64 0]) (by simp [results, Tryd.results25, go_sem, c0, c1, c2, f0, f1, f2]) rfl ⟨rfl, ?_⟩
  exact ((hbw.setCell (by simp) _).setCell (by simp) _).setCell (by simp) _

theorem undo_any (s : List UInt8) (x : Ed) (w : World) (hs : s.length ≤ 140737488355328) (hput : x.2.2.length ≤ 140737488355328) :
    Calls Tryd.prog 25 #[.string (mkS s), edV x] w fun e w' => e = .returned (.tuple #[edV (undoF s x), .int .i64 (doE s x)]) ∧ Below w.heap.size w w' := by
  by_cases h : doE s x = 0
  · obtain ⟨F, T, hx, h1, h2⟩ := isEd_nat (doE_isEd h)
    obtain ⟨F', T', put⟩ := x
    simp only [Prod.mk.injEq] at hx
    obtain ⟨rfl, rfl, _⟩ := hx
    rw [h]
    exact undo_ok s put F T w hs hput h h1 h2
  · exact undo_no s x w hs hput h
end Go.Proofs.YthmhklmoodffcaaDoor
