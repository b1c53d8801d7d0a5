/- Both: what it comes to; the branches with an error. -/
import Derived.Test.YthmhklmoodffcaaDoorUa
set_option linter.unusedVariables false
set_option linter.unusedSimpArgs false
namespace Go.Proofs.YthmhklmoodffcaaDoor
open Go.RowKit Go.Shelf

def bothTo (s : List UInt8) (x y : Ed) : Int := if y.2.1 ≥ x.1 + (x.2.2.length : Int) then max x.2.1 (y.2.1 - (((splF s x).length : Int) - s.length)) else x.2.1
def bothEnd (s : List UInt8) (x y : Ed) : Int := bothTo s x y + (((splF s x).length : Int) - s.length) + (((splF (splF s x) y).length : Int) - (splF s x).length)
/-- What Both comes to. -/
def bothF (s : List UInt8) (x y : Ed) : Ed × Nat :=
  if doE s x ≠ 0 then (noEd, doE s x) else if doE (splF s x) y ≠ 0 then (noEd, doE (splF s x) y)
  else ((min x.1 y.1, bothTo s x y, ((splF (splF s x) y).take (bothEnd s x y).toNat).drop (min x.1 y.1).toNat), 0)

set_option maxRecDepth 100000 in
set_option maxHeartbeats 2000000 in
theorem both_no1 (s : List UInt8) (x y : Ed) (w : World) (hs : s.length ≤ 140737488355328) (hput : x.2.2.length ≤ 140737488355328) (h : doE s x ≠ 0) :
    Calls Tryd.prog 30 #[.string (mkS s), edV x, edV y] w fun e w' => e = .returned (.tuple #[edV (bothF s x y).1, .int .i64 (bothF s x y).2]) ∧ Below w.heap.size w w' := by
  obtain ⟨E, hE⟩ : ∃ E : Int, E = doE s x := ⟨_, rfl⟩
  have CD : Hid (∀ W, Calls Tryd.prog 49 #[.string (mkS s), .agg #[.int .i64 x.1, .int .i64 x.2.1, .string (mkS x.2.2)]] W fun e w' => e = .returned (.tuple #[doOut s x, .int .i64 E]) ∧ Below W.heap.size W w') := fun W => by
    rw [hE]; exact do_any s x W hs hput
  have hb0 : (E != 0) = true := by rw [bne_iff_ne, hE]; omega
  have HA : Hid (bothF s x y = (noEd, doE s x)) := by show _ = _; unfold bothF; rw [if_pos h]
  rw [HA.out]
  show Calls _ _ _ _ fun e w' => e = .returned (.tuple #[edV noEd, .int .i64 (doE s x)]) ∧ _
  rw [← hE]
  unfold edV
  rw [doOut_no h] at CD
  unfold noDone at CD
  clear h hE HA
  go_enter Tryd.func30, Tryd.ntmps30
  go_wp2_with fail
  refine (CD.out _).mono ?_
  rintro e w1 ⟨rfl, hb⟩
  have hs1 := hb.size
  have r0 : w1.cell? ⟨w.heap.size + 1 + 1, 0, none⟩ = some (.int .i64 0) := (hb.cell (by simp)).trans (by simp [go_sem])
  have r1 : w1.cell? ⟨w.heap.size + 1 + 1, 1, none⟩ = some (.int .i64 0) := (hb.cell (by simp)).trans (by simp [go_sem])
  have r2 : w1.cell? ⟨w.heap.size + 1 + 1, 2, none⟩ = some (.string ⟨#[]⟩) := (hb.cell (by simp)).trans (by simp [go_sem])
  have q0 : w1.frozen? ⟨w.heap.size + 1 + 1, 0, none⟩ = false := (hb.frozen (by simp)).trans (by simp [go_sem])
  have q1 : w1.frozen? ⟨w.heap.size + 1 + 1, 1, none⟩ = false := (hb.frozen (by simp)).trans (by simp [go_sem])
  have q2 : w1.frozen? ⟨w.heap.size + 1 + 1, 2, none⟩ = false := (hb.frozen (by simp)).trans (by simp [go_sem])
  have hz : w.heap.size + 1 + 1 < w1.heap.size := by simp at hs1; omega
  have hfin : Below w.heap.size w w1 := ((((Below.refl _ _).alloc (Nat.le_refl _) _).alloc (by simp) _).alloc (by simp; omega) _).trans (hb.mono (by simp; omega))
  clear hb hs1
  go_wp2
  refine bodyPost_ret (v := .tuple #[.agg #[.int .i64 0, .int .i64 0, .string ⟨#[]⟩], .int .i64 E]) (by simp [results, Tryd.results30, go_sem, r0, r1, r2, hz]) rfl ⟨rfl, ?_⟩
  repeat (first | refine Below.setCell ?_ (by simp <;> omega) _ | refine Below.alloc ?_ (by first | exact hfin.size | (simp; omega)) _)
  exact hfin
set_option maxRecDepth 100000 in
set_option maxHeartbeats 2000000 in
theorem both_no2 (s : List UInt8) (x y : Ed) (w : World) (hs : s.length ≤ 140737488355328) (hput : x.2.2.length ≤ 140737488355328) (hput2 : y.2.2.length ≤ 140737488355328) (h : doE s x = 0) (h2 : doE (splF s x) y ≠ 0) :
    Calls Tryd.prog 30 #[.string (mkS s), edV x, edV y] w fun e w' => e = .returned (.tuple #[edV (bothF s x y).1, .int .i64 (bothF s x y).2]) ∧ Below w.heap.size w w' := by
  have htl := chkE_len (doE_parts h).2.2
  obtain ⟨t, ht⟩ : ∃ t, t = splF s x := ⟨_, rfl⟩
  have HA : Hid (bothF s x y = (noEd, doE t y)) := by show _ = _; unfold bothF; rw [if_neg (by omega), if_pos h2, ht]
  rw [← ht] at h2 htl
  obtain ⟨E, hE⟩ : ∃ E : Int, E = doE t y := ⟨_, rfl⟩
  have CD : Hid (∀ W, Calls Tryd.prog 49 #[.string (mkS s), .agg #[.int .i64 x.1, .int .i64 x.2.1, .string (mkS x.2.2)]] W fun e w' => e = .returned (.tuple #[.agg #[.int .i64 x.1, .int .i64 x.2.1, .string (mkS x.2.2), .string (mkS s), .string (mkS t)], .int .i64 0]) ∧ Below W.heap.size W w') := fun W => by
    have := do_any s x W hs hput
    rw [doOut_yes h, h, ← ht] at this; exact this
  have CD2 : Hid (∀ W, Calls Tryd.prog 49 #[.string (mkS t), .agg #[.int .i64 y.1, .int .i64 y.2.1, .string (mkS y.2.2)]] W fun e w' => e = .returned (.tuple #[.agg #[.int .i64 0, .int .i64 0, .string ⟨#[]⟩, .string ⟨#[]⟩, .string ⟨#[]⟩], .int .i64 E]) ∧ Below W.heap.size W w') := fun W => by
    have := do_any t y W (by omega) hput2
    rw [doOut_no h2] at this
    rw [hE]; exact this
  have hb0 : (E != 0) = true := by rw [bne_iff_ne, hE]; omega
  rw [HA.out]
  show Calls _ _ _ _ fun e w' => e = .returned (.tuple #[edV noEd, .int .i64 (doE t y)]) ∧ _
  rw [← hE]
  unfold edV
  clear h h2 hE HA ht htl
  go_enter Tryd.func30, Tryd.ntmps30
  go_wp2_with fail
  refine (CD.out _).mono ?_
  rintro e w1 ⟨rfl, hb⟩
  have hs1 := hb.size
  have hz1 : w.heap.size + 1 + 1 < w1.heap.size := by simp at hs1; omega
  have hz0 : w.heap.size + 1 < w1.heap.size := by omega
  have y0 : w1.cell? ⟨w.heap.size + 1, 0, none⟩ = some (.int .i64 y.1) := (hb.cell (by simp)).trans (by simp [go_sem])
  have y1 : w1.cell? ⟨w.heap.size + 1, 1, none⟩ = some (.int .i64 y.2.1) := (hb.cell (by simp)).trans (by simp [go_sem])
  have y2 : w1.cell? ⟨w.heap.size + 1, 2, none⟩ = some (.string (mkS y.2.2)) := (hb.cell (by simp)).trans (by simp [go_sem])
  have R0 := Lib.hid ((hb.cell (p := ⟨w.heap.size + 1 + 1, 0, none⟩) (by simp)).trans (show _ = some (Value.int .i64 0) by simp [go_sem]))
  have R1 := Lib.hid ((hb.cell (p := ⟨w.heap.size + 1 + 1, 1, none⟩) (by simp)).trans (show _ = some (Value.int .i64 0) by simp [go_sem]))
  have R2 := Lib.hid ((hb.cell (p := ⟨w.heap.size + 1 + 1, 2, none⟩) (by simp)).trans (show _ = some (Value.string ⟨#[]⟩) by simp [go_sem]))
  have Q0 := Lib.hid ((hb.frozen (p := ⟨w.heap.size + 1 + 1, 0, none⟩) (by simp)).trans (show _ = false by simp [go_sem]))
  have Q1 := Lib.hid ((hb.frozen (p := ⟨w.heap.size + 1 + 1, 1, none⟩) (by simp)).trans (show _ = false by simp [go_sem]))
  have Q2 := Lib.hid ((hb.frozen (p := ⟨w.heap.size + 1 + 1, 2, none⟩) (by simp)).trans (show _ = false by simp [go_sem]))
  have HF1 := Lib.hid (((((Below.refl w.heap.size w).alloc (Nat.le_refl _) _).alloc (by simp) _).alloc (by simp; omega) _).trans (hb.mono (by simp; omega)))
  clear hb hs1
  go_wp2_with fail
  refine (CD2.out _).mono ?_
  rintro e w2 ⟨rfl, hb⟩
  have hB : Below w1.heap.size w1 w2 := ((Below.refl _ _).alloc (Nat.le_refl _) _).trans (hb.mono (by simp))
  have r0 := (hB.cell (cell_lt R0.out)).trans R0.out
  have r1 := (hB.cell (cell_lt R1.out)).trans R1.out
  have r2 := (hB.cell (cell_lt R2.out)).trans R2.out
  have q0 := (hB.frozen (p := ⟨w.heap.size + 1 + 1, 0, none⟩) (cell_lt R0.out)).trans Q0.out
  have q1 := (hB.frozen (p := ⟨w.heap.size + 1 + 1, 1, none⟩) (cell_lt R1.out)).trans Q1.out
  have q2 := (hB.frozen (p := ⟨w.heap.size + 1 + 1, 2, none⟩) (cell_lt R2.out)).trans Q2.out
  have hz : w.heap.size + 1 + 1 < w2.heap.size := cell_lt r0
  have hfin : Below w.heap.size w w2 := HF1.out.trans (hB.mono HF1.out.size)
  clear hb hB y0 y1 y2 hz1 hz0
  go_wp2
  refine bodyPost_ret (v := .tuple #[.agg #[.int .i64 0, .int .i64 0, .string ⟨#[]⟩], .int .i64 E]) (by simp [results, Tryd.results30, go_sem, r0, r1, r2, hz]) rfl ⟨rfl, ?_⟩
  repeat (first | refine Below.setCell ?_ (by simp <;> omega) _ | refine Below.alloc ?_ (by first | exact hfin.size | (simp; omega)) _)
  exact hfin
end Go.Proofs.YthmhklmoodffcaaDoor
