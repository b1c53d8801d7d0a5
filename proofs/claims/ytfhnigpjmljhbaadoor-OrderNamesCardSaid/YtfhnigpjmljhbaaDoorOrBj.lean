/- The contracts of ShapeText, of Diamond, of Many. -/
import Derived.Test.YtfhnigpjmljhbaaDoorOrBi
import Derived.Test.YtfhnigpjmljhbaaDoorOrAi
set_option linter.unusedVariables false
set_option linter.unusedSimpArgs false
namespace Go.Proofs.YtfhnigpjmljhbaaDoor.Or
open Go.RowKit Go.Shelf

set_option maxRecDepth 100000 in
set_option maxHeartbeats 2000000 in
theorem ShapeText_yes (HJ : JoinOk) (d : Nat) (s : Shp) (v : Value) (w : World) (hd : d ≤ 10) (hv : KidIn d w v s) (hL : LaidOk w) (h4 : deepF 4 s = false) (hf : formF d s = true) :
    Calls Tryd.prog 20 #[shpV s v] w fun e w' => e = .returned (.tuple #[.string (mkS (textS d s)), .int .i64 0]) ∧ Below w.heap.size w w' := by
  obtain ⟨W2, hW2⟩ : ∃ W2, W2 = w.alloc (.cells #[.int .u8 s.k, .string (mkS s.nm), v] 42) := ⟨_, rfl⟩
  have b2 : Below w.heap.size w W2 := by rw [hW2]; exact (Below.refl _ _).alloc (Nat.le_refl _) _
  have c0 : W2.cell? ⟨w.heap.size, 0, none⟩ = some (.int .u8 s.k) := by rw [hW2]; simp [go_sem]
  have c1 : W2.cell? ⟨w.heap.size, 1, none⟩ = some (.string (mkS s.nm)) := by rw [hW2]; simp [go_sem]
  have c2 : W2.cell? ⟨w.heap.size, 2, none⟩ = some v := by rw [hW2]; simp [go_sem]
  have CD : Hid (∀ W, Below w.heap.size w W → Calls Tryd.prog 47 #[shpV s v, .int .i64 4] W fun e w' => e = .returned (.bool false) ∧ Below W.heap.size W w') := fun W h => by
    rw [← h4]; exact deeper_any 4 d s v W (by omega) (hv.below h)
  have CF : Hid (∀ W, Below w.heap.size w W → Calls Tryd.prog 50 #[shpV s v] W fun e w' => e = .returned (.bool true) ∧ Below W.heap.size W w') := fun W h => by
    rw [← hf]; exact formedShape_any d s v W (hv.below h) (hL.below h)
  have CT : Hid (∀ W, Below w.heap.size w W → Calls Tryd.prog 56 #[shpV s v] W fun e w' => e = .returned (.string (mkS (textS d s))) ∧ Below W.heap.size W w') := fun W h =>
    shapeText_any HJ d s v W hd (hv.below h) (hL.below h) hf
  obtain ⟨q, cap, rfl⟩ := hv.form
  have HW2 := Lib.hid hW2; have HB2 := Lib.hid b2
  clear hv hL h4 hf hW2 b2
  unfold shpV at CD CF CT ⊢
  go_enter Tryd.func20, Tryd.ntmps20
  go_wp2_with fail
  rw [← HW2.out]
  refine (CD.out _ HB2.out).mono ?_
  rintro e w1 ⟨rfl, hb⟩
  have k0 := (hb.cell (cell_lt c0)).trans c0
  have k1 := (hb.cell (cell_lt c1)).trans c1
  have k2 := (hb.cell (cell_lt c2)).trans c2
  have HB1 := Lib.hid (HB2.out.trans (hb.mono HB2.out.size))
  clear hb c0 c1 c2
  go_wp2_with fail
  refine (CF.out _ HB1.out).mono ?_
  rintro e w2 ⟨rfl, hb⟩
  have j0 := (hb.cell (cell_lt k0)).trans k0
  have j1 := (hb.cell (cell_lt k1)).trans k1
  have j2 := (hb.cell (cell_lt k2)).trans k2
  have HB3 := Lib.hid (HB1.out.trans (hb.mono HB1.out.size))
  clear hb k0 k1 k2
  go_wp2_with fail
  refine (CT.out _ HB3.out).mono ?_
  rintro e w3 ⟨rfl, hb⟩
  have HB4 := Lib.hid (HB3.out.trans (hb.mono HB3.out.size))
  clear hb
  go_wp2
  go_ret2
  exact ⟨rfl, HB4.out⟩

def diamondT : Tab := ⟨[108], [[97], [98], [99], [100]], [[1, 2], [3], [3], []], [false, false, false, true]⟩
def manyT : Tab := ⟨[109], [[97], [98], [99], [100], [101]], [[1, 2], [3, 4], [3, 4], [], []], [false, false, false, false, false]⟩
theorem infoBool : (Tryd.prog.info? 4).map (fun i => (i.zero, i.size, i.bytes)) = some (some (.bool false), 1, 1) := by kernel_rfl
theorem below_alloc {w V : World} (h : Below w.heap.size w V) (o : Obj) : Below w.heap.size w (V.alloc o) := h.alloc h.size o
theorem rd_cells {U : World} {b : Nat} {vs : List Value} {T : TypeId} (h : U.heap[b]? = some (.cells vs.toArray T (0, 0))) (hl : vs.length ≤ 1000) : Rd U (.slice (some ⟨b, 0, none⟩) vs.length vs.length) vs :=
  rd_block h (by simp) (by omega) (Nat.le_refl _)
theorem heap_alloc_at {V : World} {o : Obj} {k : Nat} (h : k = V.heap.size) : (V.alloc o).heap[k]? = some o := by subst h; exact heap_alloc_new V o
theorem heap_alloc_old {V : World} {o : Obj} {k : Nat} {x : Obj} (h : V.heap[k]? = some x) : (V.alloc o).heap[k]? = some x := by
  rw [Below.heap_alloc _ _ _ (Array.getElem?_eq_some_iff.1 h).1]; exact h
set_option maxRecDepth 100000 in
set_option maxHeartbeats 2000000 in
theorem diamond_any (w : World) :
    Calls Tryd.prog 29 #[] w fun e w' => ∃ ve va vw, e = .returned (tabV diamondT ve va vw) ∧ TabIn w' ve va vw diamondT ∧ Below w.heap.size w w' := by
  go_enter Tryd.func29, Tryd.ntmps29
  go_wp2
  obtain ⟨m, hm⟩ : ∃ m, m = w.heap.size := ⟨_, rfl⟩
  rw [← hm]
  refine bodyPost_ret (v := tabV diamondT (.slice (some ⟨m + 1, 0, none⟩) 4 4) (.slice (some ⟨m + 1 + 1 + 1 + 1 + 1, 0, none⟩) 4 4) (.slice (some ⟨m + 1 + 1 + 1 + 1 + 1 + 1, 0, none⟩) 4 4)) (by rw [hm]; simp [results, Tryd.results29, go_sem, tabV, diamondT, mkS]) rfl ⟨_, _, _, rfl, ⟨?_, ?_, ?_⟩, ?_⟩
  · exact rd_cells (vs := diamondT.elems.map strV) (T := 9) (heap_alloc_old (heap_alloc_old (heap_alloc_old (heap_alloc_old (heap_alloc_old (heap_alloc_at (by simp [hm]))))))) (by simp [diamondT, manyT])
  · refine ⟨[.slice (some ⟨m + 1 + 1, 0, none⟩) 2 2, .slice (some ⟨m + 1 + 1 + 1, 0, none⟩) 1 1, .slice (some ⟨m + 1 + 1 + 1 + 1, 0, none⟩) 1 1, .slice none 0 0], rd_cells (vs := [.slice (some ⟨m + 1 + 1, 0, none⟩) 2 2, .slice (some ⟨m + 1 + 1 + 1, 0, none⟩) 1 1, .slice (some ⟨m + 1 + 1 + 1 + 1, 0, none⟩) 1 1, .slice none 0 0]) (T := 35) (heap_alloc_old (heap_alloc_at (by simp [hm]))) (by simp [diamondT, manyT]), rfl, fun i hi _ => ?_⟩
    have h4 : i = 0 ∨ i = 1 ∨ i = 2 ∨ i = 3 := by simp [diamondT] at hi; omega
    rcases h4 with rfl | rfl | rfl | rfl
    · exact rd_cells (vs := [.int .i64 1, .int .i64 2]) (T := 3) (heap_alloc_old (heap_alloc_old (heap_alloc_old (heap_alloc_old (heap_alloc_at (by simp [hm])))))) (by simp [diamondT, manyT])
    · exact rd_cells (vs := [.int .i64 3]) (T := 3) (heap_alloc_old (heap_alloc_old (heap_alloc_old (heap_alloc_at (by simp [hm]))))) (by simp [diamondT, manyT])
    · exact rd_cells (vs := [.int .i64 3]) (T := 3) (heap_alloc_old (heap_alloc_old (heap_alloc_at (by simp [hm])))) (by simp [diamondT, manyT])
    · exact Rd.nil _
  · exact rd_cells (vs := diamondT.wrong.map Value.bool) (T := 4) (heap_alloc_at (by simp [hm])) (by simp [diamondT, manyT])
  · rw [hm]; repeat (first | exact Below.refl _ _ | refine below_alloc ?_ _)
set_option maxRecDepth 100000 in
set_option maxHeartbeats 2000000 in
theorem many_any (w : World) :
    Calls Tryd.prog 28 #[] w fun e w' => ∃ ve va vw, e = .returned (tabV manyT ve va vw) ∧ TabIn w' ve va vw manyT ∧ Below w.heap.size w w' := by
  obtain ⟨i0, hi, hz0, hz1, hz2⟩ := info_parts infoBool
  have hms : ∀ W, (Instr.makeSlice 24 (.int .i64 5) (.int .i64 5)).run Tryd.prog W = .ok (.slice (some ⟨W.heap.size, 0, none⟩) 5 5) (W.alloc (.cells #[.bool false, .bool false, .bool false, .bool false, .bool false] 4)) := fun W => by
    rw [run_makeSlice W 24 4 i0 (.bool false) Tryd.underlying24 hi hz0 .i64 .i64 5 5 (by omega) (by omega) (by rw [hz1]; decide) (by rw [hz2]; decide) (by omega), hz1]; kernel_rfl
  clear hi hz0 hz1 hz2
  go_enter Tryd.func28, Tryd.ntmps28
  go_wp2
  obtain ⟨m, hm⟩ : ∃ m, m = w.heap.size := ⟨_, rfl⟩
  rw [← hm]
  refine bodyPost_ret (v := tabV manyT (.slice (some ⟨m + 1, 0, none⟩) 5 5) (.slice (some ⟨m + 1 + 1 + 1 + 1 + 1, 0, none⟩) 5 5) (.slice (some ⟨m + 1 + 1 + 1 + 1 + 1 + 1, 0, none⟩) 5 5)) (by rw [hm]; simp [results, Tryd.results28, go_sem, tabV, manyT, mkS]) rfl ⟨_, _, _, rfl, ⟨?_, ?_, ?_⟩, ?_⟩
  · exact rd_cells (vs := manyT.elems.map strV) (T := 9) (heap_alloc_old (heap_alloc_old (heap_alloc_old (heap_alloc_old (heap_alloc_old (heap_alloc_at (by simp [hm]))))))) (by simp [diamondT, manyT])
  · refine ⟨[.slice (some ⟨m + 1 + 1, 0, none⟩) 2 2, .slice (some ⟨m + 1 + 1 + 1, 0, none⟩) 2 2, .slice (some ⟨m + 1 + 1 + 1 + 1, 0, none⟩) 2 2, .slice none 0 0, .slice none 0 0], rd_cells (vs := [.slice (some ⟨m + 1 + 1, 0, none⟩) 2 2, .slice (some ⟨m + 1 + 1 + 1, 0, none⟩) 2 2, .slice (some ⟨m + 1 + 1 + 1 + 1, 0, none⟩) 2 2, .slice none 0 0, .slice none 0 0]) (T := 35) (heap_alloc_old (heap_alloc_at (by simp [hm]))) (by simp [diamondT, manyT]), rfl, fun i hi _ => ?_⟩
    have h4 : i = 0 ∨ i = 1 ∨ i = 2 ∨ i = 3 ∨ i = 4 := by simp [manyT] at hi; omega
    rcases h4 with rfl | rfl | rfl | rfl | rfl
    · exact rd_cells (vs := [.int .i64 1, .int .i64 2]) (T := 3) (heap_alloc_old (heap_alloc_old (heap_alloc_old (heap_alloc_old (heap_alloc_at (by simp [hm])))))) (by simp [diamondT, manyT])
    · exact rd_cells (vs := [.int .i64 3, .int .i64 4]) (T := 3) (heap_alloc_old (heap_alloc_old (heap_alloc_old (heap_alloc_at (by simp [hm]))))) (by simp [diamondT, manyT])
    · exact rd_cells (vs := [.int .i64 3, .int .i64 4]) (T := 3) (heap_alloc_old (heap_alloc_old (heap_alloc_at (by simp [hm])))) (by simp [diamondT, manyT])
    · exact Rd.nil _
    · exact Rd.nil _
  · exact rd_cells (vs := manyT.wrong.map Value.bool) (T := 4) (heap_alloc_at (by simp [hm])) (by simp [diamondT, manyT])
  · rw [hm]; repeat (first | exact Below.refl _ _ | refine below_alloc ?_ _)
end Go.Proofs.YtfhnigpjmljhbaaDoor.Or
