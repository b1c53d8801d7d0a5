/- Lists of ints in a row of one's own. -/
import Derived.Test.YtfhnigpjmljhbaaDoorOrDb
set_option linter.unusedVariables false
set_option linter.unusedSimpArgs false
namespace Go.Proofs.YtfhnigpjmljhbaaDoor.Or
open Go.RowKit Go.Shelf

/-- The lists of parts of the first elements, in a row of one's own. -/
structure AllI (B : Nat) (PT : Nat → List Nat) (v : Value) (a : Nat) (V : World) : Prop where
  row : ∃ xs, V.ownsRow B 35 1 v a xs ∧ ∀ i (h : i < xs.length), V.ownsRow 0 3 1 xs[i] (PT i).length ((ints (PT i)).map (Value.int .i64))
theorem AllI.below {B a : Nat} {PT : Nat → List Nat} {v : Value} {V U : World} (h : AllI B PT v a V) (hb : Below V.heap.size V U) : AllI B PT v a U := by
  obtain ⟨xs, h1, h2⟩ := h.row
  exact ⟨xs, ownsRow_below h1 hb, fun i hi => ownsRow_below (h2 i hi) hb⟩
theorem AllI.form {B a : Nat} {PT : Nat → List Nat} {v : Value} {V : World} (h : AllI B PT v a V) : ∃ p c, v = .slice p a c := by
  obtain ⟨xs, h1, _⟩ := h.row
  exact ownsRow_slice h1
theorem AllI.get {B a m cap k : Nat} {p : Option Addr} {PT : Nat → List Nat} {V : World} (h : AllI B PT (.slice p m cap) a V) (hk : k < a) (ha : a ≤ 1000) (hl : (PT k).length ≤ 1000) :
    ∃ g o q c, p = some ⟨g, o, none⟩ ∧ V.cell? ⟨g, o + k, none⟩ = some (.slice q (PT k).length c) ∧ RdI V (.slice q (PT k).length c) (ints (PT k)) := by
  obtain ⟨xs, h1, h2⟩ := h.row
  have hlen : xs.length = a := by have := h1.1; omega
  rw [← hlen] at h1
  obtain ⟨g, o, rfl, hc⟩ := (rd_own h1 (by omega)).cell (i := k) (by omega)
  have hx := h2 k (by omega)
  obtain ⟨q, c, e⟩ := ownsRow_slice hx
  refine ⟨g, o, q, c, rfl, by rw [hc, e], ?_⟩
  rw [← e]
  exact rd_own (by rw [List.length_map, ints_length]; exact hx) (by rw [List.length_map, ints_length]; omega)
theorem ownsRow_kept {w wB : World} {b base n m : Nat} {e T : TypeId} {v r : Value} {vs xs : List Value} (h : w.ownsRow b e 1 v n vs) (hr : w.ownsRow base T 1 r m xs) (hg : w.grownBy wB r.ownBlock) (hne : e ≠ T) : wB.ownsRow b e 1 v n vs := by
  refine ⟨h.1, ?_⟩
  rcases h.2 with hn | ⟨g, cap, cur, rfl, hb, hgg, rest⟩
  · exact .inl hn
  · exact .inr ⟨g, cap, cur, rfl, hb, (hg.block g (heap_lt hgg) (Lib.ownBlock_ne hr hgg hne).symm).trans hgg, rest⟩
theorem AllI.snoc {B a : Nat} {PT : Nat → List Nat} {v v' l : Value} {V U : World} {xs : List Value} (h1 : V.ownsRow B 35 1 v a xs) (h2 : ∀ i (h : i < xs.length), V.ownsRow 0 3 1 xs[i] (PT i).length ((ints (PT i)).map (Value.int .i64))) (hl : V.ownsRow 0 3 1 l (PT a).length ((ints (PT a)).map (Value.int .i64)))
    (h3 : U.ownsRow B 35 1 v' (a + 1) (xs ++ [l])) (hg : V.grownBy U v.ownBlock) : AllI B PT v' (a + 1) U := by
  have hlen : xs.length = a := by have := h1.1; omega
  refine ⟨xs ++ [l], h3, fun i hi => ?_⟩
  by_cases hx : i < xs.length
  · rw [List.getElem_append_left hx]
    exact ownsRow_kept (h2 i hx) h1 hg (by decide)
  · have hia : i = xs.length := by simp at hi; omega
    subst hia
    rw [List.getElem_append_right (Nat.le_refl _)]
    simp only [Nat.sub_self, List.getElem_cons_zero]
    rw [hlen]
    exact ownsRow_kept hl h1 hg (by decide)
theorem rd_sub {V : World} {g o n c k : Nat} {L : List Int} (h : RdI V (.slice (some ⟨g, o, none⟩) n c) L) (hk : k < L.length) : RdI V (.slice (some ⟨g, o + k, none⟩) 1 (c - k)) [L.getD k 0] := by
  obtain ⟨b, off, e, hc⟩ := h.cell hk
  simp only [Option.some.injEq, Addr.mk.injEq] at e
  obtain ⟨rfl, rfl, _⟩ := e
  have h1 := Rd.capE h
  rw [List.length_map] at h1
  refine ⟨_, c - k, rfl, ⟨by simp, by simp; omega⟩, .inr ⟨g, o + k, rfl, fun i hi => ?_⟩⟩
  have : i = 0 := by simpa using hi
  subst this
  simpa using hc
end Go.Proofs.YtfhnigpjmljhbaaDoor.Or
