/- The grammar: what newGrammar makes. -/
import Derived.Test.YtlhbfgkcalalkaaDoorWe
set_option linter.unusedVariables false
namespace Go.Proofs.YtlhbfgkcalalkaaDoor
open Go.RowKit Go.WideMaps Go.Maps

theorem klaw : Keyed Tryd.prog 9 := string_keyed Tryd.underlying9
/-- The first k keywords as a map. -/
def keyD (k : Nat) : DataW Unit := (wordsL.take k).foldl (fun D x => D.put (.string x) (.lit (.bool true))) (.map [])
theorem keyD_succ (k : Nat) (hk : k < wordsL.length) : keyD (k + 1) = (keyD k).put (.string (wordsL.getD k [])) (.lit (.bool true)) := by
  unfold keyD; rw [List.take_succ_eq_append_getElem hk, List.foldl_append]
  simp [List.getD_eq_getElem?_getD, hk]
theorem putAll_at (x : List UInt8) : ∀ (l : List (List UInt8)) (D : DataW Unit), IsMap D →
    ((l.foldl (fun D x => D.put (.string x) (.lit (.bool true))) D).atKey (.string x) (.lit (.bool false)) = if x ∈ l then .lit (.bool true) else D.atKey (.string x) (.lit (.bool false)))
  | [], D, h => by simp
  | y :: l, D, h => by
    rw [List.foldl_cons, putAll_at x l _ (h.put _ _)]
    by_cases e : x = y
    · subst e
      rw [atKey_put_same h (by simp [WideAt.IsKeyLit])]; simp
    · rw [atKey_put_other (by simpa using e)]
      simp [e]
theorem keyD_at (x : List UInt8) : (keyD 28).atKey (.string x) (.lit (.bool false)) = .lit (.bool (isKey x)) := by
  unfold keyD
  rw [putAll_at x _ _ isMap_empty, List.take_of_length_le (by decide)]
  unfold isKey
  by_cases h : x ∈ wordsL
  · rw [if_pos h]; simp [h]
  · rw [if_neg h]; simp [h, DataW.atKey]

/-- The map and the signs of a grammar, in memory. -/
def Gram (w : World) (g : Value) : Prop :=
  ∃ mb sb, g = .agg #[.map (some mb), .slice (some ⟨sb, 0, none⟩) 22 22] ∧ w.ownsMap Tryd.prog 9 (plainElem (H := Unit) Tryd.prog 4) mb 28 (keyD 28) ∧
    ∀ k, k < 22 → w.cell? ⟨sb, k, none⟩ = some (.string (mkS (signsL.getD k [])))
theorem ownsMap_below {w w' : World} {b n : Nat} {D : DataW Unit} {P : Program} {k : TypeId} {R : Value → Option (DataW Unit × List MemPlace)} (h : w.ownsMap P k R b n D) (hb : Below w.heap.size w w') : w'.ownsMap P k R b n D := by
  have hl := h.lt
  obtain ⟨es, c, h1, h2⟩ := h
  exact ⟨es, c, (hb.block b hl).trans h1, h2⟩
theorem cell_lt {w : World} {a : Addr} {v : Value} (h : w.cell? a = some v) : a.block < w.heap.size := by
  refine Nat.lt_of_not_le fun hn => ?_
  have : w.heap[a.block]? = none := by simp; exact hn
  simp [World.cell?, this] at h
theorem Gram.below {w w' : World} {g : Value} (h : Gram w g) (hb : Below w.heap.size w w') : Gram w' g := by
  obtain ⟨mb, sb, rfl, hm, hc⟩ := h
  exact ⟨mb, sb, rfl, ownsMap_below hm hb, fun k hk => (hb.cell (cell_lt (hc k hk))).trans (hc k hk)⟩

/-- The world in which newGrammar begins its loop. -/
def newW (w : World) : World :=
  ((((w.alloc (Obj.cells #[Value.map none, Value.slice none 0 0] 52)).alloc (Obj.map #[] 0)).alloc
          (Obj.cells (strCells signsL) 9)).alloc
      (Obj.cells
        #[Value.map (some (w.heap.size + 1)), Value.slice (some { block := w.heap.size + 1 + 1, off := 0 }) 22 22]
        52)).alloc
  (Obj.cells (strCells wordsL) 9)
theorem newW_size (w : World) : (newW w).heap.size = w.heap.size + 5 := by simp [newW]
theorem newW_below (w : World) : Below w.heap.size w (newW w) := by
  unfold newW
  exact (((((Below.refl _ _).alloc (Nat.le_refl _) _).alloc (by simp) _).alloc (by simp; omega) _).alloc (by simp; omega) _).alloc (by simp; omega) _
theorem newW_map (w : World) : (newW w).ownsMap Tryd.prog 9 (plainElem (H := Unit) Tryd.prog 4) (w.heap.size + 1) 0 (.map []) := by
  unfold newW
  refine World.ownsMap.alloc (World.ownsMap.alloc (World.ownsMap.alloc ?_ _) _) _
  have := World.ownsMap_made (H := Unit) (w.alloc (Obj.cells #[Value.map none, Value.slice none 0 0] 52)) Tryd.prog 9 (plainElem (H := Unit) Tryd.prog 4)
  rw [World.size_alloc] at this; exact this
theorem newW_g0 (w : World) : (newW w).cell? ⟨w.heap.size + 1 + 1 + 1, 0, none⟩ = some (.map (some (w.heap.size + 1))) := by
  unfold newW; simp [go_sem]
theorem newW_g1 (w : World) : (newW w).cell? ⟨w.heap.size + 1 + 1 + 1, 1, none⟩ = some (.slice (some ⟨w.heap.size + 1 + 1, 0, none⟩) 22 22) := by
  unfold newW; simp [go_sem]
theorem newW_k (w : World) (k : Nat) (hk : k < 28) : (newW w).cell? ⟨w.heap.size + 1 + 1 + 1 + 1, k, none⟩ = some (.string (mkS (wordsL.getD k []))) := by
  have := strCells_get wordsL k hk
  unfold newW; rw [World.cell?_alloc_at _ _ _ _ (by simp)]; exact this
theorem newW_s (w : World) (k : Nat) (hk : k < 22) : (newW w).cell? ⟨w.heap.size + 1 + 1, k, none⟩ = some (.string (mkS (signsL.getD k []))) := by
  have := strCells_get signsL k hk
  unfold newW; rw [World.cell?_alloc_past _ _ _ (by simp), World.cell?_alloc_past _ _ _ (by simp), World.cell?_alloc_at _ _ _ _ (by simp)]; exact this
theorem newW_r (w : World) (i : Nat) (hi : i < 2) : ((newW w).cell? ⟨w.heap.size, i, none⟩).isSome = true ∧ (newW w).frozen? ⟨w.heap.size, i, none⟩ = false := by
  rcases i with _ | _ | i
  · unfold newW; constructor <;> simp [go_sem]
  · unfold newW; constructor <;> simp [go_sem]
  · omega

set_option maxRecDepth 100000 in
set_option maxHeartbeats 800000 in
theorem newGrammar_any (w : World) :
    Calls Tryd.prog 19 #[] w fun e w' => ∃ g, e = .returned g ∧ Gram w' g ∧ Below w.heap.size w w' := by
  have hmm := @run_makeMap Tryd.prog
  go_enter Tryd.func19, Tryd.ntmps19
  go_wp2_with (first | (go_at_call 41; refine (signs_any _).mono ?_; rintro e w' ⟨rfl, rfl⟩) | (go_at_call 42; refine (keywords_any _).mono ?_; rintro e w' ⟨rfl, rfl⟩))
  obtain ⟨W, hW⟩ : ∃ W, W = newW w := ⟨_, rfl⟩
  have hW' := hW
  unfold newW at hW'
  rw [← hW']
  clear hW'
  have fs := newW_size w; have fb := newW_below w; have fm := newW_map w; have f0 := newW_g0 w; have f1 := newW_g1 w; have fk := newW_k w; have fg := newW_s w; have fr := newW_r w
  rw [← hW] at fs fb fm f0 f1 fk fg fr
  clear hW
  have FS := Lib.hid fs; have FK := Lib.hid fk; have FG := Lib.hid fg; have FR := Lib.hid fr; have F0 := Lib.hid f0; have F1 := Lib.hid f1
  clear fs fk fg fr f0 f1
  go_loopw [9] (fun i wr => ∃ k : Nat, k ≤ 28 ∧ i = .int .i64 k ∧ wr.ownsMap Tryd.prog 9 (plainElem (H := Unit) Tryd.prog 4) (w.heap.size + 1) k (keyD k) ∧ Below w.heap.size w wr ∧ Hid (W.grownBy wr (some (w.heap.size + 1)))) (fun i _ => 28 - (intOf i).toNat)
  case atStart => exact ⟨0, by omega, rfl, fm, fb, ⟨rfl, rfl, rfl, Nat.le_refl _, fun _ _ _ => rfl⟩⟩
  case round =>
    obtain ⟨k, hk, rfl, hown, hbel, hgr⟩ := hrel
    have keep : ∀ b i v, b < w.heap.size + 5 → b ≠ w.heap.size + 1 → W.cell? ⟨b, i, none⟩ = v → wr.cell? ⟨b, i, none⟩ = v := fun b i v h1 h2 h3 => by
      rw [← h3]; exact World.cell?_of_block (w := W) (hgr.out.block b (by rw [FS.out]; exact h1) (by simpa using h2))
    have g0 := keep _ _ _ (by omega) (by omega) F0.out
    by_cases hlt : k < 28
    · obtain ⟨x, hx, hcell⟩ : ∃ x, wordsL.getD k [] = x ∧ wr.cell? ⟨w.heap.size + 1 + 1 + 1 + 1, k, none⟩ = some (.string (mkS x)) := ⟨_, rfl, keep _ _ _ (by omega) (by omega) (FK.out k hlt)⟩
      have HX := Lib.hid hx; clear hx
      have hxl : x.length ≤ 10 := by
        have : ∀ y ∈ wordsL, y.length ≤ 10 := by decide
        refine this x ?_
        rw [← HX.out, List.getD_eq_getElem?_getD, List.getElem?_eq_getElem (by exact hlt)]; exact List.getElem_mem _
      have hkey : keyOf Tryd.prog 9 (.string (mkS x)) = some (.string x) := by
        have := keyOf_string_mk Tryd.underlying9 (s := mkS x) (by rw [mkS_size]; unfold maxLen; omega)
        rwa [mkS_list] at this
      have HG := hgr
      clear keep hgr
      go_wp2_with (first
        | (at_mapUpdate; refine wpList_mapUpdate_own _ rfl _ _ _ 49 rfl 9 4 klaw Tryd.underlying49 _ (w.heap.size + 1) k _ rfl hown (by unfold maxLen; omega) _ _ _ rfl rfl hkey _ [] (plainElem_bool Tryd.underlying4 true) ?_)
        | go_in)
      intro w1 hown1 hgrow1
      have R1 := hown1
      rw [show x = wordsL.getD k [] from HX.out.symm, ← keyD_succ k hlt] at R1
      have R2 := hbel.grown hgrow1 (by have := hgrow1.size; have := HG.out.size; rw [FS.out] at this; omega) (fun j hj => by cases hj; omega)
      have R3 : Hid (W.grownBy w1 (some (w.heap.size + 1))) := by
        obtain ⟨a1, a2, a3, a4, a5⟩ := HG.out
        obtain ⟨b1, b2, b3, b4, b5⟩ := hgrow1
        exact ⟨b1.trans a1, b2.trans a2, b3.trans a3, Nat.le_trans a4 b4, fun i hi hne => (b5 i (by omega) hne).trans (a5 i hi hne)⟩
      clear hown1 hgrow1 hown hcell g0 hkey
      go_wp2
      go_roundw
      case rel => exact ⟨k + 1, by omega, by go_num, R1, R2, R3⟩
      case measure => simp [intOf]; omega
    · have HK : Hid (keyD k = keyD 28) := by rw [show k = 28 by omega]; rfl
      have g1 := keep _ _ _ (by omega) (by omega) F1.out
      have hs : ∀ k, k < 22 → wr.cell? ⟨w.heap.size + 1 + 1, k, none⟩ = some (.string (mkS (signsL.getD k []))) := fun k hk => keep _ _ _ (by omega) (by omega) (FG.out k hk)
      obtain ⟨r0, hr0⟩ : ∃ r0, wr.cell? ⟨w.heap.size, 0, none⟩ = some r0 := by
        have := (FR.out 0 (by omega)).1; rw [← keep w.heap.size 0 _ (by omega) (by omega) rfl] at this; exact Option.isSome_iff_exists.1 this
      obtain ⟨r1, hr1⟩ : ∃ r1, wr.cell? ⟨w.heap.size, 1, none⟩ = some r1 := by
        have := (FR.out 1 (by omega)).1; rw [← keep w.heap.size 1 _ (by omega) (by omega) rfl] at this; exact Option.isSome_iff_exists.1 this
      have z0 : wr.frozen? ⟨w.heap.size, 0, none⟩ = false := by
        rw [← (FR.out 0 (by omega)).2]; exact World.frozen?_of_block (w := W) (hgr.out.block _ (by rw [FS.out]; show w.heap.size < _; omega) (by simp))
      have z1 : wr.frozen? ⟨w.heap.size, 1, none⟩ = false := by
        rw [← (FR.out 1 (by omega)).2]; exact World.frozen?_of_block (w := W) (hgr.out.block _ (by rw [FS.out]; show w.heap.size < _; omega) (by simp))
      have HS := Lib.hid hs
      have HG := hgr
      clear keep hs hgr
      rw [HK.out] at hown
      go_wp2
      refine bodyPost_ret (v := .agg #[.map (some (w.heap.size + 1)), .slice (some ⟨w.heap.size + 1 + 1, 0, none⟩) 22 22]) (by simp [results, Tryd.results19, go_sem, hr0, hr1]) rfl ⟨_, rfl, ⟨w.heap.size + 1, w.heap.size + 1 + 1, rfl, ?_, ?_⟩, ?_⟩
      · exact World.ownsMap.mono (World.ownsMap.setCell (World.ownsMap.setCell hown (by simp) _) (by simp) _) (by omega)
      · intro k hk
        refine (World.cell?_of_block (w := wr) ?_).trans (HS.out k hk)
        refine (Below.heap_setCell _ _ _ _ ?_).trans (Below.heap_setCell _ _ _ _ ?_)
        · simp; omega
        · simp; omega
      · exact (hbel.setCell (by simp) _).setCell (by simp) _
end Go.Proofs.YtlhbfgkcalalkaaDoor
