/- The contract of awake. -/
import Derived.Test.YtlhbfgkcalalkaaDoorLa
set_option linter.unusedVariables false
set_option linter.unusedSimpArgs false
namespace Go.Proofs.YtlhbfgkcalalkaaDoor
open Go.RowKit Go.Shelf

def lsJ : List Lx := [(1, [97], 0), (1, [98], 0), (4, [60], 0), (4, [61], 0), (2, [49], 0), (2, [50], 0)]
def lsA : List Lx := [(3, [112, 117, 116], 0), (1, [120], 4), (4, [123], 6), (2, [49], 7), (4, [125], 8), (4, [59], 9)]
theorem reads_row {W : World} {b : Nat} {ls : List Lx} {cs : Array Value} {T : TypeId} {fr : Nat × Nat} {cap : Nat} (h : W.heap[b]? = some (.cells cs T fr)) (hc : cs.toList = rowCells ls) (hl : ls.length ≤ 100000000000) : ReadsLx W (.slice (some ⟨b, 0, none⟩) ls.length cap) ls := by
  refine ⟨_, cap, rfl, hl, .inr ⟨b, 0, rfl, fun i hi => ?_⟩⟩
  obtain ⟨a1, a2, a3⟩ := rowCells_get ls i hi
  rw [← hc] at a1 a2 a3
  rw [Nat.zero_add, Nat.mul_comm i 3, Lib.cell_of_heap h, Lib.cell_of_heap h, Lib.cell_of_heap h]
  refine ⟨?_, ?_, ?_⟩
  · rw [← a1]; simp
  · rw [← a2]; simp
  · rw [← a3]; simp

set_option maxRecDepth 100000 in
set_option maxHeartbeats 4000000 in
theorem awake_any (w : World) (he : ErrOk w) :
    Calls Tryd.prog 6 #[] w fun e w' => e = .returned (.bool true) ∧ Below w.heap.size w w' := by
  have CS : Hid (∀ W, Below w.heap.size w W → Calls Tryd.prog 10 #[.string ⟨#[112, 117, 116, 32, 120, 32, 123, 49, 125, 59, 37, 32, 111, 110, 101]⟩] W (ScanP lsA 0 0 W)) := fun W hW => by
    have := scanP [112, 117, 116, 32, 120, 32, 123, 49, 125, 59, 37, 32, 111, 110, 101] W (by decide) (he.below hW)
    rw [aw1] at this; exact this
  have CJ : Hid (∀ W v, Below w.heap.size w W → ReadsLx W v lsJ → Calls Tryd.prog 11 #[v] W fun e w' => e = .returned (.tuple #[.string ⟨#[97, 32, 98, 60, 32, 61, 49, 32, 50]⟩, .int .i64 0]) ∧ Below W.heap.size W w') := fun W v hW hv => by
    have := join_any v lsJ W hv (he.below hW) (by decide)
    unfold lsJ at this
    rw [aw2] at this; exact this
  have CD : Hid (∀ W, Calls Tryd.prog 12 #[.string ⟨#[108, 101, 116, 32, 97, 32, 61, 32, 49, 59]⟩, .string ⟨#[108, 101, 116, 32, 97, 98, 32, 61, 32, 49, 59]⟩] W fun e w' => e = .returned (.tuple #[.agg #[.int .i64 5, .int .i64 5, .string ⟨#[98]⟩], .int .i64 0]) ∧ Below W.heap.size W w') := fun W => by
    have := diff_any [108, 101, 116, 32, 97, 32, 61, 32, 49, 59] [108, 101, 116, 32, 97, 98, 32, 61, 32, 49, 59] W (by decide) (by decide)
    rw [aw3] at this; exact this
  have CR : Hid (∀ W, Below w.heap.size w W → Calls Tryd.prog 13 #[.string ⟨#[97, 32, 98, 32, 99]⟩, .agg #[.int .i64 3, .int .i64 3, .string ⟨#[100]⟩]] W fun e w' => ∃ v, e = .returned (.tuple #[.agg #[.int .i64 1, .int .i64 1, v], .int .i64 0, .int .i64 0]) ∧ ReadsLx w' v [(1, [98, 100], 2)] ∧ Below W.heap.size W w') := fun W hW => by
    have := rescan_any [97, 32, 98, 32, 99] (3, 3, [100]) W (by decide) (by decide) (he.below hW)
    unfold RescPost at this
    rw [aw4] at this; exact this
  clear he
  go_enter Tryd.func6, Tryd.ntmps6
  go_wp2_with fail
  refine (CS.out _ (Below.refl _ _)).mono ?_
  rintro e w1 ⟨v1, rfl, hown, hb⟩
  have h1 := reads_own hown (by decide)
  obtain ⟨b, off, cap, hv1, c1, c2, c3⟩ := reads_at h1 4 (by decide)
  have hv1' : v1 = .slice (some ⟨b, off, none⟩) 6 cap := hv1
  have e1 : w1.cell? ⟨b, off + 12, none⟩ = some (.int .u8 4) := c1
  have e2 : w1.cell? ⟨b, off + 13, none⟩ = some (.string ⟨#[125]⟩) := c2
  have e3 : w1.cell? ⟨b, off + 14, none⟩ = some (.int .i64 8) := c3
  subst hv1'
  have E1 := Lib.hid e1; have E2 := Lib.hid e2; have E3 := Lib.hid e3
  have Hb := Lib.hid hb
  clear hown hb h1 hv1 c1 c2 c3 e1 e2 e3
  go_wp2_with fail
  refine (CJ.out _ _ (Hb.out.alloc Hb.out.size _) (reads_row (ls := lsJ) (heap_alloc_new w1 _) rfl (by decide))).mono ?_
  rintro e w2 ⟨rfl, hb2⟩
  have Hb1 : Hid (Below w1.heap.size w1 w2) := ((Below.refl _ _).alloc (Nat.le_refl _) _).trans (hb2.mono (by simp))
  clear hb2
  go_wp2_with fail
  refine (CD.out _).mono ?_
  rintro e w3 ⟨rfl, hb3⟩
  have Hb2 : Hid (Below w1.heap.size w1 w3) := Hb1.out.trans (hb3.mono Hb1.out.size)
  clear hb3
  go_wp2_with fail
  refine (CR.out _ ((Hb.out.trans (Hb2.out.mono Hb.out.size)).alloc (Nat.le_trans Hb.out.size Hb2.out.size) _)).mono ?_
  rintro e w4 ⟨v4, rfl, hr4, hb4⟩
  have Hb3 : Hid (Below w1.heap.size w1 w4) := (Hb2.out.alloc Hb2.out.size _).trans (hb4.mono (by simp; have := Hb2.out.size; omega))
  have e1 : w4.cell? ⟨b, off + 12, none⟩ = some (.int .u8 4) := (Hb3.out.cell (cell_lt E1.out)).trans E1.out
  have e2 : w4.cell? ⟨b, off + 13, none⟩ = some (.string ⟨#[125]⟩) := (Hb3.out.cell (cell_lt E2.out)).trans E2.out
  have e3 : w4.cell? ⟨b, off + 14, none⟩ = some (.int .i64 8) := (Hb3.out.cell (cell_lt E3.out)).trans E3.out
  have x1 : w4.cell? ⟨w3.heap.size, 0, none⟩ = some (.int .i64 5) := (hb4.cell (by simp)).trans (by simp [go_sem])
  have x2 : w4.cell? ⟨w3.heap.size, 1, none⟩ = some (.int .i64 5) := (hb4.cell (by simp)).trans (by simp [go_sem])
  have x3 : w4.cell? ⟨w3.heap.size, 2, none⟩ = some (.string ⟨#[98]⟩) := (hb4.cell (by simp)).trans (by simp [go_sem])
  have lb : b < w4.heap.size := cell_lt e1
  have lx : w3.heap.size < w4.heap.size := cell_lt x1
  have HR4 := Lib.hid hr4
  obtain ⟨p4, cap4, rfl, _, _⟩ := hr4
  have Hfin : Hid (Below w.heap.size w w4) := Hb.out.trans (Hb3.out.mono Hb.out.size)
  have CE : Hid (∀ W u, ReadsLx W (.slice p4 1 cap4) [(1, [98, 100], 2)] → ReadsLx W u [(1, [98, 100], 2)] → Calls Tryd.prog 9 #[.slice p4 1 cap4, u] W fun e w' => e = .returned (.bool true) ∧ Below W.heap.size W w') := fun W u hv hu => same_any _ u _ _ W hv hu
  clear hb4
  go_wp2_with fail
  refine (CE.out _ _ ((HR4.out.below ((Below.refl _ _).alloc (Nat.le_refl _) _)).below ((Below.refl _ _).alloc (Nat.le_refl _) _)) (reads_row (ls := [(1, [98, 100], 2)]) (by rw [show w4.heap.size + 1 = (w4.alloc (.cells #[Value.int IntKind.i64 1, Value.int IntKind.i64 1, Value.slice p4 1 cap4] 26)).heap.size by simp]; exact heap_alloc_new _ _) rfl (by decide))).mono ?_
  rintro e w5 ⟨rfl, hb5⟩
  have hF : Below w.heap.size w w5 := ((Hfin.out.alloc Hfin.out.size _).alloc (by simp; have := Hfin.out.size; omega) _).trans (hb5.mono (by simp; have := Hfin.out.size; omega))
  clear hb5
  go_wp2
  go_ret
  exact ⟨ret_bool rfl, hF⟩
end Go.Proofs.YtlhbfgkcalalkaaDoor
