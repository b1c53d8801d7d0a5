/- The reference's Slim. -/
import Derived.Test.YtmooikdodbjgpaaDoorOrLb
import Derived.Test.YtmooikdodbjgpaaDoorOrFf
set_option linter.unusedVariables false
set_option linter.unusedSimpArgs false
namespace Go.Proofs.YtmooikdodbjgpaaDoor.Or
open Go.RowKit Go.Shelf

/-- A row of lists whose first places were laid anew. -/
structure RsA (W4 : World) (g n : Nat) (PT : Nat → List Nat) (a : Nat) (V : World) : Prop where
  row : ∃ cs, V.heap[g]? = some (.cells cs 39 (0, 0)) ∧ n ≤ cs.size ∧ ∀ i, i < a → ∃ x, cs[i]? = some x ∧ V.ownsRow 0 3 1 x (PT i).length ((ints (PT i)).map (Value.int .i64))
  diff : Diff (fun k => k = g) W4 V
/-- The place that is being laid anew. -/
structure RsB (Va : World) (g a : Nat) (cs : Array Value) (l : Value) (lb : List Nat) (V : World) : Prop where
  heap : V.heap[g]? = some (.cells (cs.setIfInBounds a l) 39 (0, 0))
  own : V.ownsRow Va.heap.size 3 1 l lb.length ((ints lb).map (Value.int .i64))
  diff : Diff (fun k => k = g) Va V
theorem RsB.start {Va : World} {g a : Nat} {cs : Array Value} (h : Va.heap[g]? = some (.cells cs 39 (0, 0))) : RsB Va g a cs (.slice none 0 0) [] (Va.setCell ⟨g, a, none⟩ (.slice none 0 0)) :=
  ⟨setCell_heap h, ⟨rfl, .inl ⟨rfl, rfl⟩⟩, Diff.setCell (Z := fun k => k = g) (p := ⟨g, a, none⟩) (Diff.refl _ _) rfl _⟩
theorem RsB.below {Va V U : World} {g a : Nat} {cs : Array Value} {l : Value} {lb : List Nat} (h : RsB Va g a cs l lb V) (hb : Below V.heap.size V U) : RsB Va g a cs l lb U :=
  ⟨heap_below hb h.heap, ownsRow_below h.own hb, h.diff.trans (Below.diff hb _)⟩
theorem RsB.app {Va V X O : World} {g a b : Nat} {cs : Array Value} {l l' : Value} {lb : List Nat} (h : RsB Va g a cs l lb V) (hX : Below V.heap.size V X)
    (hO : O.ownsRow Va.heap.size 3 1 l' (lb.length + 1) ((ints lb).map (Value.int .i64) ++ [.int .i64 (b : Nat)])) (hg : X.grownBy O l.ownBlock) : RsB Va g a cs l' (lb ++ [b]) (O.setCell ⟨g, a, none⟩ l') := by
  have hX2 := h.below hX
  have hgO : O.heap[g]? = some (.cells (cs.setIfInBounds a l) 39 (0, 0)) := (hg.block g (heap_lt hX2.heap) (Lib.ownBlock_ne hX2.own hX2.heap (by decide)).symm).trans hX2.heap
  have hXO : Below Va.heap.size X O := (Below.refl _ _).grown hg hX2.diff.size (fun k e => by
    rcases hX2.own.2 with ⟨rfl, _⟩ | ⟨g', cap, cur, rfl, hbg, _⟩
    · cases e
    · simp only [Value.ownBlock, Option.some.injEq] at e; omega)
  refine ⟨?_, ?_, ?_⟩
  · rw [setCell_heap hgO]; simp
  · have : O.ownsRow Va.heap.size 3 1 l' (lb ++ [b]).length ((ints (lb ++ [b])).map (Value.int .i64)) := by simpa [ints] using hO
    exact ownsRow_set this hgO (by decide)
  · refine Diff.setCell (Z := fun k => k = g) (p := ⟨g, a, none⟩) ?_ rfl _
    exact ⟨hXO.os.trans hX2.diff.os, hXO.tape.trans hX2.diff.tape, hXO.output.trans hX2.diff.output, Nat.le_trans hX2.diff.size hXO.size, fun k hk hne => (hXO.block k hk).trans (hX2.diff.block k hk hne)⟩
theorem RsA.next {W4 Va V : World} {g n a : Nat} {PT : Nat → List Nat} {cs : Array Value} {l : Value} (hd : Diff (fun k => k = g) W4 Va) (hn : n ≤ cs.size) (hr : ∀ i, i < a → ∃ x, cs[i]? = some x ∧ Va.ownsRow 0 3 1 x (PT i).length ((ints (PT i)).map (Value.int .i64)))
    (hg : Va.heap[g]? = some (.cells cs 39 (0, 0))) (ha : a < n) (h : RsB Va g a cs l (PT a) V) : RsA W4 g n PT (a + 1) V := by
  refine ⟨⟨_, h.heap, by simpa using hn, fun i hi => ?_⟩, hd.trans h.diff⟩
  by_cases hia : i = a
  · subst hia
    refine ⟨l, Array.getElem?_setIfInBounds_self_of_lt (by omega), ownsRow_base h.own (Nat.zero_le _)⟩
  · obtain ⟨x, hx, ho⟩ := hr i (by omega)
    refine ⟨x, ?_, ?_⟩
    · rw [Array.getElem?_setIfInBounds_ne (fun e => hia e.symm)]; exact hx
    · refine ⟨ho.1, ?_⟩
      rcases ho.2 with hn' | ⟨g', cap, cur, rfl, hb, hgg, rest⟩
      · exact .inl hn'
      · refine .inr ⟨g', cap, cur, rfl, hb, ?_, rest⟩
        exact (h.diff.block g' (heap_lt hgg) (fun e => by subst e; rw [hgg] at hg; injection hg with hg; injection hg with _ hg _; exact absurd hg (by decide))).trans hgg
/-- What a row that was laid anew reads as. -/
theorem RsA.rd {W4 V : World} {g n cap : Nat} {PT : Nat → List Nat} {T : Tab} (h : RsA W4 g n PT n V) (hk : n = T.above.length) (hcap : n ≤ cap) (hP : ∀ i, i < n → T.above.getD i [] = ints (PT i)) (hPl : ∀ i, i < n → (PT i).length ≤ 20) (h2 : n ≤ 20) :
    RdII V (.slice (some ⟨g, 0, none⟩) n cap) T.above := by
  obtain ⟨cs, hg, hn, hr⟩ := h.row
  have hl : (cs.toList.take n).length = n := by simp; omega
  refine ⟨cs.toList.take n, ?_, by omega, fun i hi hi' => ?_⟩
  · refine ⟨_, cap, by rw [hl], ⟨by omega, by omega⟩, .inr ⟨g, 0, rfl, fun i hi => ?_⟩⟩
    have hi2 : i < cs.size := by omega
    simp [World.cell?, hg, hi2]
  · obtain ⟨x, hx, ho⟩ := hr i (by omega)
    have e : T.above[i] = ints (PT i) := by rw [← hP i (by omega)]; simp [List.getD_eq_getElem?_getD, hi]
    have e2 : (cs.toList.take n)[i] = x := by
      rw [List.getElem_take]
      obtain ⟨h1, h2⟩ := Array.getElem?_eq_some_iff.1 hx
      simpa using h2
    rw [e, e2]
    have hl := hPl i (by omega)
    exact rd_own (by rw [List.length_map, ints_length]; exact ho) (by rw [List.length_map, ints_length]; omega)
end Go.Proofs.YtmooikdodbjgpaaDoor.Or
