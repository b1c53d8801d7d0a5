/- The law's turned: rows of places in memory. -/
import Derived.Test.YtmooikdodbjgpaaDoorOrKg
import Derived.Test.YtmooikdodbjgpaaDoorOrMa
import Derived.Test.YtmooikdodbjgpaaDoorOrLb
set_option linter.unusedVariables false
set_option linter.unusedSimpArgs false
namespace Go.Proofs.YtmooikdodbjgpaaDoor.Or
open Go.RowKit Go.Shelf

/-- A row of numbers of a block. -/
structure AtI (g n : Nat) (f : Nat → Nat) (V : World) : Prop where
  row : ∃ cs, V.heap[g]? = some (.cells cs 3 (0, 0)) ∧ ∀ j, j < n → cs[j]? = some (.int .i64 ((f j : Nat) : Int))
theorem AtI.cell {g n j : Nat} {f : Nat → Nat} {V : World} (h : AtI g n f V) (hj : j < n) : V.cell? ⟨g, j, none⟩ = some (.int .i64 ((f j : Nat) : Int)) := by
  obtain ⟨cs, h1, h2⟩ := h.row
  rw [Go.Joins.cell_of_block h1]; exact h2 j hj
theorem AtI.free {g n : Nat} {f : Nat → Nat} {V : World} (h : AtI g n f V) (j : Nat) : V.frozen? ⟨g, j, none⟩ = false := by
  obtain ⟨cs, h1, h2⟩ := h.row
  exact Go.Joins.unfrozen_of_block h1 j
theorem AtI.lt {g n : Nat} {f : Nat → Nat} {V : World} (h : AtI g n f V) : g < V.heap.size := by
  obtain ⟨cs, h1, h2⟩ := h.row
  exact heap_lt h1
theorem AtI.below {g n : Nat} {f : Nat → Nat} {V U : World} (h : AtI g n f V) (hb : Below V.heap.size V U) : AtI g n f U := by
  obtain ⟨cs, h1, h2⟩ := h.row
  exact ⟨cs, heap_below hb h1, h2⟩
theorem AtI.diff {g n : Nat} {f : Nat → Nat} {V U : World} {Z : Nat → Prop} (h : AtI g n f V) (hd : Diff Z V U) (hz : ¬ Z g) : AtI g n f U := by
  obtain ⟨cs, h1, h2⟩ := h.row
  exact ⟨cs, (hd.block g (heap_lt h1) hz).trans h1, h2⟩
theorem AtI.drew {g n : Nat} {f : Nat → Nat} {V : World} (h : AtI g n f V) : AtI g n f V.drew := by
  obtain ⟨cs, h1, h2⟩ := h.row
  exact ⟨cs, h1, h2⟩
theorem AtI.set {g n y x : Nat} {f : Nat → Nat} {V : World} (h : AtI g n f V) (hy : y < n) : AtI g n (fun j => if j = y then x else f j) (V.setCell ⟨g, y, none⟩ (.int .i64 ((x : Nat) : Int))) := by
  obtain ⟨cs, h1, h2⟩ := h.row
  refine ⟨_, setCell_heap h1, fun j hj => ?_⟩
  have hs : y < cs.size := (Array.getElem?_eq_some_iff.1 (h2 y hy)).1
  by_cases hjy : j = y
  · subst hjy
    rw [Array.getElem?_setIfInBounds_self_of_lt hs, if_pos rfl]
  · rw [Array.getElem?_setIfInBounds_ne (fun e => hjy e.symm), if_neg hjy]; exact h2 j hj
theorem AtI.congr {g n : Nat} {f f' : Nat → Nat} {V : World} (h : AtI g n f V) (he : ∀ j, j < n → f j = f' j) : AtI g n f' V := by
  obtain ⟨cs, h1, h2⟩ := h.row
  exact ⟨cs, h1, fun j hj => by rw [← he j hj]; exact h2 j hj⟩
theorem AtI.swap {g n i k : Nat} {f : Nat → Nat} {V : World} (h : AtI g n f V) (hi : i < n) (hk : k < n) : AtI g n (swapF f i k) ((V.setCell ⟨g, i, none⟩ (.int .i64 ((f k : Nat) : Int))).setCell ⟨g, k, none⟩ (.int .i64 ((f i : Nat) : Int))) := by
  refine ((h.set hi (x := f k)).set hk (x := f i)).congr fun j hj => ?_
  unfold swapF
  by_cases h1 : j = k
  · rw [if_pos h1]
    by_cases h2 : j = i
    · rw [if_pos h2, ← h2, h1]
    · rw [if_neg h2, if_pos h1]
  · rw [if_neg h1]
    by_cases h2 : j = i
    · rw [if_pos h2, if_pos h2]
    · rw [if_neg h2, if_neg h2, if_neg h1]
theorem AtI.start {g n cap : Nat} {w : World} {base : Nat} {xs : List Value} (h : w.ownsRow base 3 1 (.slice (some ⟨g, 0, none⟩) n cap) n xs) (hn : 0 < n) (f : Nat → Nat) (hx : ∀ j, j < n → xs[j]? = some (.int .i64 ((f j : Nat) : Int))) : AtI g n f w := by
  rcases h.2 with ⟨e, _⟩ | ⟨g', cap', cs, h1, h2, h3, h4, h5, h6, h7⟩
  · cases e
  · injection h1 with h1 _ _
    injection h1 with h1
    injection h1 with h1 _ _
    subst h1
    refine ⟨cs, h3, fun j hj => ?_⟩
    have := hx j hj
    rw [← h7, Nat.mul_one, List.getElem?_take_of_lt hj] at this
    simpa using this
theorem AtI.made {n : Nat} (w : World) : AtI w.heap.size n (fun _ => 0) (w.alloc (.cells (madeCells #[.int .i64 0] n) 3)) :=
  ⟨_, heap_alloc_at rfl, fun j hj => by rw [st_made]; exact st_get hj⟩
theorem owns_head {w : World} {base n : Nat} {e : TypeId} {v : Value} {xs : List Value} (h : w.ownsRow base e 1 v n xs) (hn : 0 < n) : ∃ g cap, v = .slice (some ⟨g, 0, none⟩) n cap ∧ base ≤ g ∧ g < w.heap.size ∧ n ≤ cap := by
  rcases h.2 with ⟨_, h0⟩ | ⟨g, cap, cs, h1, h2, h3, h4, h5, h6, h7⟩
  · omega
  · exact ⟨g, cap, h1, h2, heap_lt h3, h4⟩
theorem wrap_small (z : Nat) (h : z < 1000000) : wrap64 (z : Int) = (z : Int) := by
  have h1 := IntWalk.i64_in (z : Int) (by omega)
  rw [IntWalk.i64_left] at h1
  exact h1
theorem tmod_nat (z i : Nat) : (z : Int).tmod (i : Int) = ((z % i : Nat) : Int) := rfl
theorem getD_in {l : List Int} {k : Nat} (hk : k < l.length) : l.getD k 0 ∈ l := by
  rw [List.getD_eq_getElem?_getD, List.getElem?_eq_getElem hk]; exact List.getElem_mem hk
theorem AtI.set4 {g n z : Nat} {f : Nat → Nat} {V : World} {zs : Array Value} {fr : Nat × Nat} {y0 y1 y2 y3 : Value} (h : AtI g n f V) (hz : V.heap[z]? = some (.cells zs 26 fr)) : AtI g n f (Or.set4 V z y0 y1 y2 y3) := by
  obtain ⟨cs, hg, h2⟩ := h.row
  have hgz : g ≠ z := fun e => by subst e; rw [hg] at hz; injection hz with hz; injection hz with _ hz _; exact absurd hz (by decide)
  refine ⟨cs, ?_, h2⟩
  unfold Or.set4
  rw [Below.heap_setCell _ _ _ _ hgz, Below.heap_setCell _ _ _ _ hgz, Below.heap_setCell _ _ _ _ hgz, Below.heap_setCell _ _ _ _ hgz]
  exact hg
/-- A row of numbers as a list. -/
theorem AtI.rd {g n cap : Nat} {f : Nat → Nat} {V : World} (h : AtI g n f V) (hn : n ≤ 1000) (hc : n ≤ cap) : RdI V (.slice (some ⟨g, 0, none⟩) n cap) (ints ((List.range n).map f)) := by
  have hl : ((ints ((List.range n).map f)).map (Value.int .i64)).length = n := by rw [List.length_map, ints_length, List.length_map, List.length_range]
  refine ⟨_, cap, by rw [hl], ⟨by omega, by omega⟩, .inr ⟨g, 0, rfl, fun i hi => ?_⟩⟩
  rw [hl] at hi
  rw [Nat.zero_add, h.cell hi]
  simp [ints]
/-- What was noted of places so far: at once all are noted. -/
theorem inv_all {n : Nat} {f t : Nat → Nat} (hf : PermF n f) (h : ∀ j, j < n → t (f j) = j) : ∀ y, y < n → t y = invF n f y := fun y hy => by
  obtain ⟨j, hj, rfl⟩ := hf.sur y hy
  rw [h j hj, invF_at hf hj]
theorem inv_step {n i : Nat} {f t : Nat → Nat} (hf : PermF n f) (hi : i < n) (h : ∀ j, j < i → t (f j) = j) : ∀ j, j < i + 1 → (fun y => if y = f i then i else t y) (f j) = j := fun j hj => by
  show (if f j = f i then i else t (f j)) = j
  by_cases hji : j = i
  · subst hji; rw [if_pos rfl]
  · rw [if_neg (fun e => hji (hf.inj j i (by omega) hi e)), h j (by omega)]
end Go.Proofs.YtmooikdodbjgpaaDoor.Or
