/- The contracts of Apply and Undo. -/
import Derived.Test.YthmhklmoodffcaaDoorHc
import Derived.Test.YthmhklmoodffcaaDoorEa
import Derived.StillTailTactics
set_option linter.unusedVariables false
set_option linter.unusedSimpArgs false
namespace Go.Proofs.YthmhklmoodffcaaDoor
open Go.RowKit Go.Shelf

/-- What Apply comes to. -/
def applyF (s : List UInt8) (x : Ed) : List UInt8 := if doE s x = 0 then splF s x else []
/-- What Undo comes to. -/
def undoF (s : List UInt8) (x : Ed) : Ed := if doE s x = 0 then (x.1, x.1 + (x.2.2.length : Int), (s.take x.2.1.toNat).drop x.1.toNat) else noEd

theorem doE_isEd {s : List UInt8} {x : Ed} (h : doE s x = 0) : isEd s x = true := by
  unfold doE at h
  split at h
  · omega
  · split at h
    · assumption
    · omega

set_option maxRecDepth 100000 in
set_option maxHeartbeats 2000000 in
theorem apply_any (s : List UInt8) (x : Ed) (w : World) (hs : s.length ≤ 140737488355328) (hput : x.2.2.length ≤ 140737488355328) :
    Calls Tryd.prog 24 #[.string (mkS s), edV x] w fun e w' => e = .returned (.tuple #[.string (mkS (applyF s x)), .int .i64 (doE s x)]) ∧ Below w.heap.size w w' := by
  obtain ⟨E, hE⟩ : ∃ E : Int, E = doE s x := ⟨_, rfl⟩
  have CD : Hid (∀ W, Calls Tryd.prog 49 #[.string (mkS s), .agg #[.int .i64 x.1, .int .i64 x.2.1, .string (mkS x.2.2)]] W fun e w' => e = .returned (.tuple #[doOut s x, .int .i64 E]) ∧ Below W.heap.size W w') := fun W => by
    rw [hE]; exact do_any s x W hs hput
  rw [← hE]
  unfold edV
  by_cases h : doE s x = 0
  · have hE0 : E = 0 := by rw [hE, h]; rfl
    subst hE0
    have HA : Hid (applyF s x = splF s x) := by show _ = _; unfold applyF; rw [if_pos h]
    rw [doOut_yes h] at CD
    unfold doneV at CD
    clear h hE
    go_enter Tryd.func24, Tryd.ntmps24
    go_wp2_with fail
    refine (CD.out _).mono ?_
    rintro e w1 ⟨rfl, hb⟩
    have hfin : Below w.heap.size w w1 := ((Below.refl _ _).alloc (Nat.le_refl _) _).trans (hb.mono (by simp))
    clear hb
    go_wp2
    go_ret2
    exact ⟨by rw [HA.out]; rfl, hfin.alloc hfin.size _⟩
  · have hb0 : (E != 0) = true := by rw [bne_iff_ne, hE]; omega
    have HA : Hid (applyF s x = []) := by show _ = _; unfold applyF; rw [if_neg h]
    rw [doOut_no h] at CD
    unfold noDone at CD
    clear h hE
    go_enter Tryd.func24, Tryd.ntmps24
    go_wp2_with fail
    refine (CD.out _).mono ?_
    rintro e w1 ⟨rfl, hb⟩
    have hfin : Below w.heap.size w w1 := ((Below.refl _ _).alloc (Nat.le_refl _) _).trans (hb.mono (by simp))
    clear hb
    go_wp2
    go_ret2
    exact ⟨by rw [HA.out]; rfl, hfin.alloc hfin.size _⟩

set_option maxRecDepth 100000 in
set_option maxHeartbeats 2000000 in
theorem undo_no (s : List UInt8) (x : Ed) (w : World) (hs : s.length ≤ 140737488355328) (hput : x.2.2.length ≤ 140737488355328) (h : doE s x ≠ 0) :
    Calls Tryd.prog 25 #[.string (mkS s), edV x] w fun e w' => e = .returned (.tuple #[edV (undoF s x), .int .i64 (doE s x)]) ∧ Below w.heap.size w w' := by
  obtain ⟨E, hE⟩ : ∃ E : Int, E = doE s x := ⟨_, rfl⟩
  have CD : Hid (∀ W, Calls Tryd.prog 49 #[.string (mkS s), .agg #[.int .i64 x.1, .int .i64 x.2.1, .string (mkS x.2.2)]] W fun e w' => e = .returned (.tuple #[doOut s x, .int .i64 E]) ∧ Below W.heap.size W w') := fun W => by
    rw [hE]; exact do_any s x W hs hput
  have hb0 : (E != 0) = true := by rw [bne_iff_ne, hE]; omega
  have HA : Hid (undoF s x = noEd) := by show _ = _; unfold undoF; rw [if_neg h]
  rw [← hE, HA.out]
  unfold edV
  rw [doOut_no h] at CD
  unfold noDone at CD
  clear h hE HA
  go_enter Tryd.func25, Tryd.ntmps25
  go_wp2_with fail
  refine (CD.out _).mono ?_
  rintro e w1 ⟨rfl, hb⟩
  have hs1 := hb.size
  have r0 : w1.cell? ⟨w.heap.size + 1, 0, none⟩ = some (.int .i64 0) := (hb.cell (by simp)).trans (by simp [go_sem])
  have r1 : w1.cell? ⟨w.heap.size + 1, 1, none⟩ = some (.int .i64 0) := (hb.cell (by simp)).trans (by simp [go_sem])
  have r2 : w1.cell? ⟨w.heap.size + 1, 2, none⟩ = some (.string ⟨#[]⟩) := (hb.cell (by simp)).trans (by simp [go_sem])
  have q0 : w1.frozen? ⟨w.heap.size + 1, 0, none⟩ = false := (hb.frozen (by simp)).trans (by simp [go_sem])
  have q1 : w1.frozen? ⟨w.heap.size + 1, 1, none⟩ = false := (hb.frozen (by simp)).trans (by simp [go_sem])
  have q2 : w1.frozen? ⟨w.heap.size + 1, 2, none⟩ = false := (hb.frozen (by simp)).trans (by simp [go_sem])
  have hz : w.heap.size + 1 < w1.heap.size := by simp at hs1; omega
  have hfin : Below w.heap.size w w1 := (((Below.refl _ _).alloc (Nat.le_refl _) _).alloc (by simp) _).trans (hb.mono (by simp; omega))
  clear hb hs1
  go_wp2
  refine bodyPost_ret (v := .tuple #[.agg #[.int .i64 0, .int .i64 0, .string ⟨#[]⟩], .int .i64 E]) (by simp [results, Tryd.results25, go_sem, r0, r1, r2, hz]) rfl ⟨rfl, ?_⟩
  repeat (first | refine Below.setCell ?_ (by simp) _ | refine Below.alloc ?_ (by first | exact hfin.size | (simp; omega)) _)
  exact hfin
end Go.Proofs.YthmhklmoodffcaaDoor
