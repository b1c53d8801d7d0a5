/- The contract of blanked: a text with blanks for its comments. -/
import Derived.Test.YtlhbfgkcalalkaaDoorRh
import Derived.Lib.SlBytesRow
import Derived.Lib.SmallJoins
set_option linter.unusedVariables false
set_option linter.unusedSimpArgs false
namespace Go.Proofs.YtlhbfgkcalalkaaDoor
open Go.RowKit Go.Shelf
attribute [local go_sem] Oper.semAt_some

/-- Blanks from a place on. -/
def fillN (l : List UInt8) (a : Nat) : Nat → List UInt8
  | 0 => l
  | k + 1 => (fillN l a k).set (a + k) 32
theorem fillN_length (l : List UInt8) (a k : Nat) : (fillN l a k).length = l.length := by
  induction k with
  | zero => rfl
  | succ k ih => rw [fillN, List.length_set, ih]
def blankAll (l : List UInt8) (xs : List (Nat × Nat)) : List UInt8 := xs.foldl (fun l c => fillN l c.1 (c.2 - c.1)) l
theorem blankAll_snoc (l : List UInt8) (xs : List (Nat × Nat)) (c : Nat × Nat) : blankAll l (xs ++ [c]) = fillN (blankAll l xs) c.1 (c.2 - c.1) := by simp [blankAll]
theorem blankAll_length (l : List UInt8) (xs : List (Nat × Nat)) : (blankAll l xs).length = l.length := by
  unfold blankAll
  induction xs generalizing l with
  | nil => rfl
  | cons c xs ih => rw [List.foldl_cons, ih, fillN_length]
/-- A text with blanks for its comments. -/
def blankL (l : List UInt8) : List UInt8 := blankAll l (comL 0 (splitNl l))
theorem comL_bound : ∀ (ls : List (List UInt8)) (b : Nat) (c : Nat × Nat), c ∈ comL b ls → c.1 ≤ c.2 ∧ c.2 + 1 ≤ b + offL ls
  | [], b, c, h => by simp [comL] at h
  | x :: ls, b, c, h => by
    have e : offL (x :: ls) = x.length + 1 + offL ls := by simp [offL]
    rw [comL, List.mem_append] at h
    rcases h with h | h
    · cases hi : Lib.indexByte x 37 with
      | negSucc q => rw [hi] at h; simp at h
      | ofNat o =>
        rw [hi] at h; simp at h; subst h
        have hpos : Lib.indexByte x 37 = (o : Int) := hi
        have hol : o < x.length := by
          have := (Lib.indexByte_some hpos).1
          rcases Nat.lt_or_ge o x.length with h | h
          · exact h
          · rw [List.getElem?_eq_none h] at this; cases this
        constructor
        · show b + o ≤ b + x.length; omega
        · show b + x.length + 1 ≤ _; rw [e]; omega
    · have := comL_bound ls _ c h
      rw [e]; omega
theorem comL_in {s : List UInt8} {pre : List (Nat × Nat)} {c : Nat × Nat} (h : pre ++ [c] <+: comL 0 (splitNl s)) : c.1 ≤ c.2 ∧ c.2 ≤ s.length := by
  have hm : c ∈ comL 0 (splitNl s) := by obtain ⟨t, ht⟩ := h; rw [← ht]; simp
  have := comL_bound _ _ _ hm
  rw [splitNl_off] at this
  omega

theorem cell?_setCell_ne {V : World} {B i j : Nat} {v : Value} (h : i ≠ j) : (V.setCell ⟨B, j, none⟩ v).cell? ⟨B, i, none⟩ = V.cell? ⟨B, i, none⟩ := by
  simp only [World.setCell, World.cell?, Array.getElem?_modify]
  cases hb : V.heap[B]? with
  | none => simp
  | some o => cases o <;> simp [Array.getElem?_setIfInBounds, Ne.symm h]
theorem bytes_set {V : World} {B : Nat} {l : List UInt8} (h : Lib.Bytes V B 0 (mkS l)) (j : Nat) (hj : j < l.length) : Lib.Bytes (V.setCell ⟨B, j, none⟩ (.int .u8 32)) B 0 (mkS (l.set j 32)) := by
  intro i hi
  have hi' : i < l.length := by rw [mkS_size] at hi; simpa using hi
  have e0 := h i (by rw [mkS_size]; exact hi')
  by_cases e : i = j
  · subst e
    rw [Nat.zero_add] at e0 ⊢
    rw [World.cell?_setCell_same' _ _ _ (by rw [e0]; rfl)]
    have : (mkS (l.set i 32))[i] = 32 := by show (mkS (l.set i 32)).data[i] = 32; simp [mkS]
    rw [this]; rfl
  · rw [Nat.zero_add] at e0; rw [Nat.zero_add, cell?_setCell_ne e, e0]
    have : (mkS (l.set j 32))[i] = (mkS l)[i]'(by rw [mkS_size]; exact hi') := by
      show (mkS (l.set j 32)).data[i] = (mkS l).data[i]'(by simp [mkS]; exact hi')
      simp [mkS, List.getElem_set, Ne.symm e]
    rw [this]
theorem bytes_block {V V' : World} {B o : Nat} {s : ByteArray} (h : Lib.Bytes V B o s) (hb : V'.heap[B]? = V.heap[B]?) : Lib.Bytes V' B o s := fun i hi => (World.cell?_of_block (w := V) hb).trans (h i hi)

theorem comments_any (s : ByteArray) (w : World) :
    Calls Tryd.prog 43 #[.string s] w fun e w' => e = .returned (.func (.func 52) #[] #[.pointer (some ⟨w.heap.size, 0, none⟩)]) ∧ w' = w.alloc (.cells #[.string s] 9) := by
  go_enter Tryd.func43, Tryd.ntmps43
  go_wp2
  go_ret
  exact ⟨rfl, rfl⟩

set_option maxRecDepth 100000 in
set_option maxHeartbeats 2000000 in
theorem blanked_any (s : List UInt8) (w : World) (hs : s.length ≤ 281474976710656) :
    Calls Tryd.prog 20 #[.string (mkS s)] w fun e w' => e = .returned (.string (mkS (blankL s))) ∧ Below w.heap.size w w' := by
  obtain ⟨n, hn⟩ : ∃ n : Nat, 8 ≤ n := ⟨8, Nat.le_refl _⟩
  refine (callsIn_wide (n := n)).1 ?_
  have h1n : 1 ≤ n := by omega
  have h1n2 : 1 ≤ n - 1 - 1 := by omega
  have hconv := fun (W : World) => Lib.run_convert_string_bytes (P := Tryd.prog) W 9 64 5 (mkS s) Tryd.underlying9 Tryd.underlying64 Tryd.underlying5
  refine callsIn_of_wp_marks Tryd.func20 rfl trivial ?_ rfl
  simp only [Tryd.ntmps20, List.size_toArray, List.length_cons, List.length_nil, Nat.reduceAdd, Nat.reduceSub, Array.replicate_succ, Array.replicate_zero, List.push_toArray, List.append_toArray, List.nil_append, List.cons_append]
  gi_wp2_with (refine ⟨trivial, ?_⟩; gi_at_call 43; refine (callsIn_wide.2 (comments_any _ _)).mono ?_; rintro e w' ⟨rfl, rfl⟩)
  obtain ⟨cap, hcap⟩ : ∃ cap, cap = grownCap w (mkS s).size 0 5 := ⟨_, rfl⟩
  rw [← hcap]
  have hbw := Lib.bytesWorld_below w 5 (mkS s)
  have hbc := fun j hj => Lib.bytesWorld_cell w 5 (mkS s) j hj
  have hbs := Lib.bytesWorld_size w 5 (mkS s)
  have hbf : ∀ j, j < s.length → (Lib.bytesWorld w 5 (mkS s)).frozen? ⟨w.heap.size, j, none⟩ = false := fun j hj => by
    simp only [World.frozen?, Lib.bytesWorld_at_new]
    have : j < (Lib.bytesCells w 5 (mkS s)).size := by simp [Lib.bytesCells, mkS]; omega
    simp; omega
  obtain ⟨W0, hW0⟩ : ∃ W0, W0 = Lib.bytesWorld w 5 (mkS s) := ⟨_, rfl⟩
  rw [← hW0] at hbw hbc hbs hbf ⊢
  clear hW0 hconv
  obtain ⟨m, hm⟩ : ∃ m, m = W0.heap.size := ⟨_, rfl⟩
  obtain ⟨W5, hW5⟩ : ∃ W5, W5 = (W0.alloc (Obj.cells #[Value.slice (some { block := w.heap.size, off := 0 }) (mkS s).size cap] 64)).alloc (Obj.cells #[Value.string (mkS s)] 9) := ⟨_, rfl⟩
  rw [← hW5, ← hm]
  have z5 : W5.heap.size = m + 2 := by rw [hW5, hm]; simp
  have hmw : m = w.heap.size + 1 := by rw [hm, hbs]
  have x5 : W5.cell? ⟨m, 0, none⟩ = some (.slice (some ⟨w.heap.size, 0, none⟩) (mkS s).size cap) := by rw [hW5, hm]; simp [go_sem]
  have s5 : W5.cell? ⟨m + 1, 0, none⟩ = some (.string (mkS s)) := by rw [hW5, hm]; simp [go_sem]
  have hblk : W5.heap[w.heap.size]? = W0.heap[w.heap.size]? := by
    rw [hW5, Below.heap_alloc _ _ _ (by simp; omega), Below.heap_alloc _ _ _ (by omega)]
  have q5 : Lib.Bytes W5 w.heap.size 0 (mkS s) := bytes_block (V := W0) (fun i hi => by
    rw [Nat.zero_add, hbc i hi]
    have : (mkS s).data.toList.getD i 0 = (mkS s)[i] := by
      rw [List.getD_eq_getElem?_getD, List.getElem?_eq_getElem (by simpa using hi)]; rfl
    rw [this]) hblk
  have f5 : ∀ j, j < s.length → W5.frozen? ⟨w.heap.size, j, none⟩ = false := fun j hj => (World.frozen?_of_block (w := W0) hblk).trans (hbf j hj)
  have b5 : Below w.heap.size w W5 := by rw [hW5]; exact (hbw.alloc (by omega) _).alloc (by simp; omega) _
  have Z5 := Lib.hid z5; have HM := Lib.hid hmw
  clear hW5 z5 hbw hbc hbs hbf hm hblk hmw hcap
  refine range_all (F := Fence.wide) (gf := 52) (lb := #[.pointer (some ⟨m + 1, 0, none⟩)]) (n := n) rfl (by omega) rfl trivial (enters_of Tryd.func52 (by kernel_rfl) rfl)
    (comments_iter (n - 1) (by omega) _ s W5 hs s5) (Below.refl _ _) (fun _ => rfl)
    (fun k => m + 2 ≤ k ∧ k < m + 11) ?hZ ?hZ0 ?hZ1
    (fun pre V => Lib.Bytes V w.heap.size 0 (mkS (blankAll s pre)) ∧ V.cell? ⟨m, 0, none⟩ = some (.slice (some ⟨w.heap.size, 0, none⟩) (mkS s).size cap) ∧ Hid (∀ j, j < s.length → V.frozen? ⟨w.heap.size, j, none⟩ = false) ∧ Below w.heap.size w V)
    ?hI ⟨q5, x5, f5, b5⟩
    (fun pre x a' V => (Lib.Bytes V w.heap.size 0 (mkS (blankAll s pre)) ∧ V.cell? ⟨m, 0, none⟩ = some (.slice (some ⟨w.heap.size, 0, none⟩) (mkS s).size cap) ∧ Hid (∀ j, j < s.length → V.frozen? ⟨w.heap.size, j, none⟩ = false) ∧ Below w.heap.size w V) ∧
      ∃ q, m + 11 ≤ q ∧ V.cell? ⟨q, 0, none⟩ = some (.int .i64 x.1) ∧ V.cell? ⟨q, 1, none⟩ = some (.int .i64 x.2) ∧
      a' = { tmps := #[.string (mkS s), undef, .string { data := #[] }, .pointer (some ⟨m, 0, none⟩), .pointer (some ⟨q, 0, none⟩), undef, .string (mkS s), .slice (some ⟨w.heap.size, 0, none⟩) (mkS s).size cap, .string (mkS s), .func (.func 52) #[] #[.pointer (some ⟨m + 1, 0, none⟩)], .agg #[.int .i64 x.1, .int .i64 x.2], undef, undef, undef, undef, undef, undef, undef, undef, undef, undef, undef, undef, undef, undef, undef, undef, undef], defers := [] })
    ?hAx ?assign ?body ?hZb ?done
  case hZ => rintro W1 h1 k ⟨k1, k2⟩; have := Z5.out; exact ⟨⟨by omega, by omega⟩, by omega, by omega⟩
  case hZ0 => have := Z5.out; omega
  case hZ1 => have := Z5.out; omega
  case hZb => rintro W1 h1 k ⟨k1, k2⟩; have := Z5.out; by_cases h : k < m + 4
              · exact .inr (by omega)
              · exact .inl ⟨by omega, by omega⟩
  case hI =>
    rintro pre A B ⟨a1, a2, a3, a4⟩ hd
    have e := HM.out
    have hw := a4.size
    have hc := cell_lt a2
    have hc' : m < A.heap.size := hc
    have hbl : B.heap[w.heap.size]? = A.heap[w.heap.size]? := hd.block _ (by omega) (by omega)
    exact ⟨bytes_block a1 hbl, cell_diff a2 hd (by omega), fun j hj => (World.frozen?_of_block (w := A) hbl).trans (a3.out j hj), a4.trans (hd.below hw (by omega))⟩
  case hAx =>
    rintro pre x a' A B ⟨⟨a1, a2, a3, a4⟩, q, hq, c1, c2, ha⟩ hd
    have e := HM.out
    have hw := a4.size
    have hc' : m < A.heap.size := cell_lt a2
    have hbl : B.heap[w.heap.size]? = A.heap[w.heap.size]? := hd.block _ (by omega) (by omega)
    exact ⟨⟨bytes_block a1 hbl, cell_diff a2 hd (by omega), fun j hj => (World.frozen?_of_block (w := A) hbl).trans (a3.out j hj), a4.trans (hd.below hw (by omega))⟩, q, hq, cell_diff c1 hd (by omega), cell_diff c2 hd (by omega), ha⟩
  case assign =>
    rintro l' pre x V K hpre ⟨a1, a2, a3, a4⟩ hbnd hK
    have hq : m + 11 ≤ V.heap.size := hbnd (m + 10) ⟨by omega, by omega⟩
    have HQ := Lib.hid hq
    gi_wp2
    refine hK _ _ ((Keep.refl _ _).alloc _) ⟨⟨bytes_block a1 (Below.heap_alloc _ _ _ ?_), ?_, fun j hj => (World.frozen?_of_block (w := V) (Below.heap_alloc _ _ _ ?_)).trans (a3.out j hj), a4.alloc a4.size _⟩, V.heap.size, hq, ?_, ?_, rfl⟩
    · have := HM.out; omega
    · rw [World.cell?_alloc_past _ _ _ (by omega)]; exact a2
    · have := HM.out; show w.heap.size < _; omega
    · rw [World.cell?_alloc_at _ _ _ _ rfl]; rfl
    · rw [World.cell?_alloc_at _ _ _ _ rfl]; rfl
  case body =>
    rintro l' pre x a' V hpre ⟨⟨a1, a2, a3, a4⟩, q, hq, c1, c2, rfl⟩ hbnd
    obtain ⟨h12, h2s⟩ := comL_in hpre
    obtain ⟨a, b⟩ := x
    simp only at h12 h2s c1 c2 ⊢
    have hms : (mkS s).size = s.length := mkS_size s
    have h2m : b ≤ (mkS s).size := by omega
    have hsm : (mkS s).size ≤ 281474976710656 := by omega
    have HMS := Lib.hid hms; have HHM := HM
    have hqB : w.heap.size + 1 < q := by have := HM.out; omega
    have hBm : w.heap.size < m := by have := HM.out; omega
    clear hms
    have base : ∃ U, U = blankAll s pre ∧ U.length = s.length := ⟨_, rfl, blankAll_length _ _⟩
    obtain ⟨U, hU, hUl⟩ := base
    rw [← hU] at a1
    have HUL := Lib.hid hUl; have HU := Lib.hid hU
    clear hUl hU
    gi_wp2
    gi_loopw [16] (fun i wr => ∃ k : Nat, k ≤ b - a ∧ i = .int .i64 k ∧ Hid (Lib.Bytes wr w.heap.size 0 (mkS (fillN U a k))) ∧ wr.cell? ⟨m, 0, none⟩ = some (.slice (some ⟨w.heap.size, 0, none⟩) (mkS s).size cap) ∧ Hid (∀ j, j < s.length → wr.frozen? ⟨w.heap.size, j, none⟩ = false) ∧ Hid (Below w.heap.size w wr) ∧ wr.cell? ⟨q, 0, none⟩ = some (.int .i64 a) ∧ Hid (Keep (fun k => m + 2 ≤ k ∧ k < m + 11) V wr))
      (fun i _ => (b - a) - (intOf i).toNat)
    case atStart => exact ⟨0, Nat.zero_le _, rfl, a1, a2, a3, a4, c1, Keep.refl _ _⟩
    case round =>
      obtain ⟨k, hk, rfl, d1, d2, d3, d4, d5, d6⟩ := hrel
      by_cases hlt : k < b - a
      · have ht : (k : Int) < (b : Int) - (a : Int) := by omega
        have hin : a + k < (mkS s).size := by omega
        have hin2 : a + k < s.length := by rw [HMS.out] at hin; exact hin
        obtain ⟨cv, hcv⟩ : ∃ cv, wr.cell? ⟨w.heap.size, a + k, none⟩ = some cv := by
          have := d1.out (a + k) (by rw [mkS_size, fillN_length, HUL.out]; exact hin2)
          rw [Nat.zero_add] at this
          exact ⟨_, this⟩
        have hfz := d3.out (a + k) hin2
        clear hlt
        gi_wp2
        go_roundw
        case rel =>
          refine ⟨k + 1, by omega, by go_num, ?_, ?_, ?_, ?_, ?_, ?_⟩
          · exact bytes_set d1.out (a + k) (by rw [fillN_length, HUL.out]; exact hin2)
          · exact (World.cell?_of_block (w := wr) (Below.heap_setCell _ _ _ _ (by simp; omega))).trans d2
          · exact fun j hj => by rw [World.frozen?_setCell]; exact d3.out j hj
          · exact d4.out.setCell (by simp) _
          · exact (World.cell?_of_block (w := wr) (Below.heap_setCell _ _ _ _ (by simp; omega))).trans d5
          · exact d6.out.setCell (by simp; omega) _
        case measure => simp [intOf]; omega
      · have ht : ¬ (k : Int) < (b : Int) - (a : Int) := by omega
        have hkk : k = b - a := by omega
        have HK := Lib.hid hkk
        clear hkk hlt
        gi_wp2
        refine ⟨d6.out, ?_, d2, d3, d4.out⟩
        rw [blankAll_snoc, ← HU.out, ← HK.out]
        exact d1.out
  case done =>
    rintro V ⟨a1, a2, a3, a4⟩ hK
    have hsz : (mkS s).size = (mkS (blankAll s (comL 0 (splitNl s)))).size := by rw [mkS_size, mkS_size, blankAll_length]
    have hback := Lib.run_convert_whole (P := Tryd.prog) V 64 5 9 Tryd.underlying64 Tryd.underlying5 Tryd.underlying9 _ _ _ a1 cap
    rw [← hsz] at hback
    have e := HM.out; have e5 := Z5.out
    have hbb : blankAll s (comL 0 (splitNl s)) = blankL s := rfl
    rw [hbb] at hback
    clear hsz hbb a1
    have HE := Lib.hid e; have HE5 := Lib.hid e5
    clear e e5
    gi_wp2
    refine ⟨by simp, .inl ⟨_, _, rfl, run_takeDeferred hK, ?_⟩⟩
    refine ⟨_, results_tmp rfl _ _ _, rfl, a4.trans ?_⟩
    have e := HE.out; have e5 := HE5.out
    exact ((Diff.refl (fun k => k = W5.heap.size) V).putObj rfl _).below a4.size (fun k hk => by omega)
end Go.Proofs.YtlhbfgkcalalkaaDoor
