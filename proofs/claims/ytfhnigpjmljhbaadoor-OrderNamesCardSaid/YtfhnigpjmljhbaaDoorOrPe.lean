/- A table that is being read. -/
import Derived.Test.YtfhnigpjmljhbaaDoorOrPd
import Derived.Test.YtfhnigpjmljhbaaDoorOrKj
import Derived.Test.YtfhnigpjmljhbaaDoorOrLb
set_option linter.unusedVariables false
set_option linter.unusedSimpArgs false
namespace Go.Proofs.YtfhnigpjmljhbaaDoor.Or
open Go.RowKit Go.Shelf Go.WideMaps Go.Maps

/-- A table in memory, by typed rows. -/
structure TyT (w : World) (ve va vw : Value) (t : Tab) : Prop where
  oe : w.ownsRow 0 9 1 ve t.elems.length (t.elems.map strV)
  ow : w.ownsRow 0 4 1 vw t.wrong.length (t.wrong.map Value.bool)
  oa : ∃ PT, (∀ i, i < t.above.length → t.above.getD i [] = ints (PT i) ∧ (PT i).length ≤ 1000) ∧ AllI 0 PT va t.above.length w
  l : t.elems.length ≤ 1000 ∧ t.above.length ≤ 1000 ∧ t.wrong.length ≤ 1000
theorem TyT.below {w X : World} {ve va vw : Value} {t : Tab} (h : TyT w ve va vw t) (hb : Below w.heap.size w X) : TyT X ve va vw t := by
  obtain ⟨PT, h1, h2⟩ := h.oa
  exact ⟨ownsRow_below h.oe hb, ownsRow_below h.ow hb, ⟨PT, h1, h2.below hb⟩, h.l⟩
theorem TyT.set4 {w : World} {ve va vw : Value} {t : Tab} (h : TyT w ve va vw t) {z : Nat} {cs : Array Value} {fr : Nat × Nat} {x0 x1 x2 x3 : Value} (hz : w.heap[z]? = some (.cells cs 26 fr)) : TyT (set4 w z x0 x1 x2 x3) ve va vw t := by
  obtain ⟨PT, h1, ys, g1, g2⟩ := h.oa
  exact ⟨ownsRow_set4 h.oe hz (by decide), ownsRow_set4 h.ow hz (by decide), ⟨PT, h1, ys, ownsRow_set4 g1 hz (by decide), fun i hi => ownsRow_set4 (g2 i hi) hz (by decide)⟩, h.l⟩
theorem TyT.tab {w : World} {ve va vw : Value} {t : Tab} (h : TyT w ve va vw t) : TabIn w ve va vw t := by
  obtain ⟨PT, h1, ys, g1, g2⟩ := h.oa
  obtain ⟨l1, l2, l3⟩ := h.l
  have hlen : ys.length = t.above.length := by have := g1.1; omega
  have e1 : (t.elems.map strV).length = t.elems.length := by simp
  have e3 : (t.wrong.map Value.bool).length = t.wrong.length := by simp
  refine ⟨rd_own (by rw [e1]; exact h.oe) (by rw [e1]; omega), ?_, rd_own (by rw [e3]; exact h.ow) (by rw [e3]; omega)⟩
  rw [← hlen] at g1
  refine ⟨ys, rd_own g1 (by omega), by omega, fun i hi hi' => ?_⟩
  obtain ⟨e0, hl⟩ := h1 i hi
  have e : t.above[i] = ints (PT i) := by rw [← e0]; simp [List.getD_eq_getElem?_getD, hi]
  show Rd _ _ _
  rw [e]
  exact rd_own (by rw [List.length_map, ints_length]; exact g2 i hi') (by rw [List.length_map, ints_length]; omega)
/-- A table that is being read: its block, its names, whether they are wrong, and the rows of names above them; what the reader has left. -/
structure TbR (W : World) (b q : Nat) (nm : List UInt8) (lost : Bool) (r : List UInt8) (Es : List (List UInt8)) (Ws : List Bool) (As : List (List (List UInt8))) (vE vW vA : Value) (w : World) : Prop where
  rd : RdSt b r lost W w
  blk : w.heap[q]? = some (.cells #[.string (mkS nm), vE, .slice none 0 0, vW] 26 (0, 0))
  oe : w.ownsRow W.heap.size 9 1 vE Es.length (Es.map strV)
  ow : w.ownsRow W.heap.size 4 1 vW Ws.length (Ws.map Value.bool)
  oa : ∃ xs, w.ownsRow W.heap.size 22 1 vA As.length xs ∧ ∀ i (h : i < xs.length), w.ownsRow 0 9 1 xs[i] (As.getD i []).length ((As.getD i []).map strV) ∧ (xs[i].ownBlock = none ∨ xs[i].ownBlock ≠ vE.ownBlock)
section
variable {W : World} {b q : Nat} {nm : List UInt8} {lost : Bool} {r : List UInt8} {Es : List (List UInt8)} {Ws : List Bool} {As : List (List (List UInt8))} {vE vW vA : Value} {w : World}
theorem RdSt.below {X : World} (h : RdSt b r lost W w) (hb : Below w.heap.size w X) : RdSt b r lost W X := ⟨h.r.below hb, h.d.trans (Below.diff hb _)⟩
theorem TbR.below {X : World} (h : TbR W b q nm lost r Es Ws As vE vW vA w) (hb : Below w.heap.size w X) : TbR W b q nm lost r Es Ws As vE vW vA X := by
  obtain ⟨xs, h1, h2⟩ := h.oa
  exact ⟨h.rd.below hb, heap_below hb h.blk, ownsRow_below h.oe hb, ownsRow_below h.ow hb, xs, ownsRow_below h1 hb, fun i hi => ⟨ownsRow_below (h2 i hi).1 hb, (h2 i hi).2⟩⟩
theorem TbR.call {X : World} {r' : List UInt8} {lost' : Bool} (h : TbR W b q nm lost r Es Ws As vE vW vA w) (hb : RdSt b r' lost' w X) : TbR W b q nm lost' r' Es Ws As vE vW vA X := by
  obtain ⟨xs, h1, h2⟩ := h.oa
  have hr := h.rd.r
  refine ⟨⟨hb.r, h.rd.d.trans hb.d⟩, (hb.d.block q (heap_lt h.blk) (fun e => ?_)).trans h.blk, ownsRow_type h.oe hr (by decide) hb.d, ownsRow_type h.ow hr (by decide) hb.d, xs, ownsRow_type h1 hr (by decide) hb.d, fun i hi => ⟨ownsRow_type (h2 i hi).1 hr (by decide) hb.d, (h2 i hi).2⟩⟩
  have e' : q = b := e
  have := h.blk
  rw [e', hr] at this
  injection this with this; injection this with _ this _; exact absurd this (by decide)
theorem TbR.qb (h : TbR W b q nm lost r Es Ws As vE vW vA w) : q ≠ b := fun e => by
  have := h.blk
  rw [e, h.rd.r] at this
  injection this with this; injection this with _ this _; exact absurd this (by decide)
/-- What is grown is none of the blocks but one. -/
theorem TbR.rdGrown {X : World} {T : TypeId} {m : Nat} {v : Value} {xs : List Value} (h : TbR W b q nm lost r Es Ws As vE vW vA w) (hbW : b < W.heap.size) (hown : w.ownsRow W.heap.size T 1 v m xs) (hg : w.grownBy X v.ownBlock) : RdSt b r lost W X :=
  h.rd.grown (Below.grown (Below.refl _ _) hg h.rd.d.size (fun j hj => (hown.lt j hj).1)) hbW
theorem rd_set_other {i : Nat} {x : Value} (h : RdSt b r lost W w) (hq : q ≠ b) (hqW : W.heap.size ≤ q) : RdSt b r lost W (w.setCell ⟨q, i, none⟩ x) :=
  ⟨(Below.heap_setCell _ _ _ _ (fun e => hq e.symm)).trans h.r, h.d.grown (Below.setCell (Below.refl _ _) hqW _)⟩
theorem TbR.putE {X : World} {x : List UInt8} {p : Option Addr} {c : Nat} (h : TbR W b q nm lost r Es Ws As vE vW vA w) (hbW : b < W.heap.size) (hqW : W.heap.size ≤ q)
    (ho : X.ownsRow W.heap.size 9 1 (.slice p (Es.length + 1) c) (Es.length + 1) (Es.map strV ++ [strV x])) (hg : w.grownBy X vE.ownBlock) (hf : (Value.slice p (Es.length + 1) c).ownBlock = vE.ownBlock ∨ (Value.slice p (Es.length + 1) c).ownBlock = some w.heap.size) :
    TbR W b q nm lost r (Es ++ [x]) Ws As (.slice p (Es.length + 1) c) vW vA (X.setCell ⟨q, 1, none⟩ (.slice p (Es.length + 1) c)) := by
  obtain ⟨xs, h1, h2⟩ := h.oa
  have hqX : X.heap[q]? = some (.cells #[.string (mkS nm), vE, .slice none 0 0, vW] 26 (0, 0)) := (hg.block q (heap_lt h.blk) (Lib.ownBlock_ne h.oe h.blk (by decide)).symm).trans h.blk
  refine ⟨rd_set_other (h.rdGrown hbW h.oe hg) h.qb hqW, by rw [setCell_heap hqX]; rfl, ?_, ownsRow_set (ownsRow_kept h.ow h.oe hg (by decide)) hqX (by decide), xs, ownsRow_set (ownsRow_kept h1 h.oe hg (by decide)) hqX (by decide), fun i hi => ?_⟩
  · have := ownsRow_set (x := .slice p (Es.length + 1) c) (i := 1) ho hqX (by decide)
    simpa using this
  · obtain ⟨g1, g2⟩ := h2 i hi
    refine ⟨ownsRow_set (g1.kept hg g2) hqX (by decide), ?_⟩
    rcases hf with hf | hf
    · rw [hf]; exact g2
    · rw [hf]
      cases hb : xs[i].ownBlock with
      | none => exact .inl rfl
      | some k =>
        have := (g1.lt k hb).2
        refine .inr fun e => ?_
        injection e with e; omega
theorem TbR.putW {X : World} {x : Bool} {p : Option Addr} {c : Nat} (h : TbR W b q nm lost r Es Ws As vE vW vA w) (hbW : b < W.heap.size) (hqW : W.heap.size ≤ q)
    (ho : X.ownsRow W.heap.size 4 1 (.slice p (Ws.length + 1) c) (Ws.length + 1) (Ws.map Value.bool ++ [.bool x])) (hg : w.grownBy X vW.ownBlock) :
    TbR W b q nm lost r Es (Ws ++ [x]) As vE (.slice p (Ws.length + 1) c) vA (X.setCell ⟨q, 3, none⟩ (.slice p (Ws.length + 1) c)) := by
  obtain ⟨xs, h1, h2⟩ := h.oa
  have hqX : X.heap[q]? = some (.cells #[.string (mkS nm), vE, .slice none 0 0, vW] 26 (0, 0)) := (hg.block q (heap_lt h.blk) (Lib.ownBlock_ne h.ow h.blk (by decide)).symm).trans h.blk
  refine ⟨rd_set_other (h.rdGrown hbW h.ow hg) h.qb hqW, by rw [setCell_heap hqX]; rfl, ownsRow_set (ownsRow_kept h.oe h.ow hg (by decide)) hqX (by decide), ?_, xs, ownsRow_set (ownsRow_kept h1 h.ow hg (by decide)) hqX (by decide), fun i hi => ?_⟩
  · have := ownsRow_set (x := .slice p (Ws.length + 1) c) (i := 3) ho hqX (by decide)
    simpa using this
  · obtain ⟨g1, g2⟩ := h2 i hi
    exact ⟨ownsRow_set (ownsRow_kept g1 h.ow hg (by decide)) hqX (by decide), g2⟩
theorem TbR.putA {X : World} {l : List (List UInt8)} {vl v' : Value} {xs : List Value} (h : TbR W b q nm lost r Es Ws As vE vW vA w) (hbW : b < W.heap.size) (hx : w.ownsRow W.heap.size 22 1 vA As.length xs)
    (hxs : ∀ i (h : i < xs.length), w.ownsRow 0 9 1 xs[i] (As.getD i []).length ((As.getD i []).map strV) ∧ (xs[i].ownBlock = none ∨ xs[i].ownBlock ≠ vE.ownBlock))
    (hl : w.ownsRow 0 9 1 vl l.length (l.map strV)) (hne : vl.ownBlock = none ∨ vl.ownBlock ≠ vE.ownBlock)
    (ho : X.ownsRow W.heap.size 22 1 v' (As.length + 1) (xs ++ [vl])) (hg : w.grownBy X vA.ownBlock) : TbR W b q nm lost r Es Ws (As ++ [l]) vE vW v' X := by
  have hlen : xs.length = As.length := by have := hx.1; omega
  refine ⟨h.rdGrown hbW hx hg, (hg.block q (heap_lt h.blk) (Lib.ownBlock_ne hx h.blk (by decide)).symm).trans h.blk, ownsRow_kept h.oe hx hg (by decide), ownsRow_kept h.ow hx hg (by decide), xs ++ [vl], by simpa using ho, fun i hi => ?_⟩
  by_cases hix : i < xs.length
  · rw [List.getElem_append_left hix]
    obtain ⟨g1, g2⟩ := hxs i hix
    have e : (As ++ [l]).getD i [] = As.getD i [] := by simp [List.getD_eq_getElem?_getD, List.getElem?_append_left (show i < As.length by omega)]
    rw [e]
    exact ⟨ownsRow_kept g1 hx hg (by decide), g2⟩
  · have hia : i = xs.length := by simp at hi; omega
    subst hia
    rw [List.getElem_append_right (Nat.le_refl _)]
    simp only [Nat.sub_self, List.getElem_cons_zero]
    have e : (As ++ [l]).getD xs.length [] = l := by simp [List.getD_eq_getElem?_getD, hlen]
    rw [e]
    exact ⟨ownsRow_kept hl hx hg (by decide), hne⟩
theorem TbR.setN {x : List UInt8} (h : TbR W b q nm lost r Es Ws As vE vW vA w) (hqW : W.heap.size ≤ q) : TbR W b q x lost r Es Ws As vE vW vA (w.setCell ⟨q, 0, none⟩ (.string (mkS x))) := by
  obtain ⟨xs, h1, h2⟩ := h.oa
  exact ⟨rd_set_other h.rd h.qb hqW, by rw [setCell_heap h.blk]; rfl, ownsRow_set h.oe h.blk (by decide), ownsRow_set h.ow h.blk (by decide), xs, ownsRow_set h1 h.blk (by decide), fun i hi => ⟨ownsRow_set (h2 i hi).1 h.blk (by decide), (h2 i hi).2⟩⟩
theorem cell_one {k : Nat} {y : Value} {T : TypeId} {fr : Nat × Nat} (h : w.heap[k]? = some (.cells #[y] T fr)) : w.cell? ⟨k, 0, none⟩ = some y := by simp [World.cell?, h]
theorem TbR.cells (h : TbR W b q nm lost r Es Ws As vE vW vA w) : (w.cell? ⟨q, 0, none⟩ = some (.string (mkS nm)) ∧ w.cell? ⟨q, 1, none⟩ = some vE ∧ w.cell? ⟨q, 2, none⟩ = some (.slice none 0 0) ∧ w.cell? ⟨q, 3, none⟩ = some vW) ∧ w.frozen? ⟨q, 0, none⟩ = false ∧ w.frozen? ⟨q, 1, none⟩ = false ∧ w.frozen? ⟨q, 2, none⟩ = false ∧ w.frozen? ⟨q, 3, none⟩ = false := by
  have y0 := Go.Joins.cell_of_block h.blk 0
  have y1 := Go.Joins.cell_of_block h.blk 1
  have y2 := Go.Joins.cell_of_block h.blk 2
  have y3 := Go.Joins.cell_of_block h.blk 3
  simp only [List.getElem?_toArray, List.getElem?_cons_zero, List.getElem?_cons_succ] at y0 y1 y2 y3
  exact ⟨⟨y0, y1, y2, y3⟩, Go.Joins.unfrozen_of_block h.blk 0, Go.Joins.unfrozen_of_block h.blk 1, Go.Joins.unfrozen_of_block h.blk 2, Go.Joins.unfrozen_of_block h.blk 3⟩
/-- The cell of a table that is stored into behind an append. -/
theorem grown_cells {X : World} {T : TypeId} {m : Nat} {v : Value} {xs : List Value} (h : TbR W b q nm lost r Es Ws As vE vW vA w) (hne : T ≠ 26) (hown : w.ownsRow W.heap.size T 1 v m xs) (hg : w.grownBy X v.ownBlock) :
    (X.cell? ⟨q, 1, none⟩ = some vE ∧ X.cell? ⟨q, 3, none⟩ = some vW) ∧ X.frozen? ⟨q, 1, none⟩ = false ∧ X.frozen? ⟨q, 3, none⟩ = false := by
  have hqX : X.heap[q]? = some (.cells #[.string (mkS nm), vE, .slice none 0 0, vW] 26 (0, 0)) := (hg.block q (heap_lt h.blk) (Lib.ownBlock_ne hown h.blk (fun e => hne e.symm)).symm).trans h.blk
  have y1 := Go.Joins.cell_of_block hqX 1
  have y3 := Go.Joins.cell_of_block hqX 3
  simp only [List.getElem?_toArray, List.getElem?_cons_zero, List.getElem?_cons_succ] at y1 y3
  exact ⟨⟨y1, y3⟩, Go.Joins.unfrozen_of_block hqX 1, Go.Joins.unfrozen_of_block hqX 3⟩
theorem own_ne_map {base mb m n : Nat} {e : TypeId} {v : Value} {xs : List Value} {P : Program} {k : TypeId} {R : Value → Option (DataW Unit × List MemPlace)} {D : DataW Unit} (h : w.ownsRow base e 1 v n xs) (hm : w.ownsMap P k R mb m D) : v.ownBlock = none ∨ v.ownBlock ≠ some mb := by
  rcases h.2 with ⟨rfl, _⟩ | ⟨g, cap, cur, rfl, hbg, hgg, rest⟩
  · exact .inl rfl
  · refine .inr fun e2 => ?_
    simp only [Value.ownBlock, Option.some.injEq] at e2
    exact map_ne hm hgg e2.symm
/-- What is not the map stays as it is when the map grows. -/
theorem TbR.map {X : World} {mb m : Nat} {P : Program} {k : TypeId} {R : Value → Option (DataW Unit × List MemPlace)} {D : DataW Unit} (h : TbR W b q nm lost r Es Ws As vE vW vA w) (hbW : b < W.heap.size) (hmW : W.heap.size ≤ mb) (hm : w.ownsMap P k R mb m D) (hg : w.grownBy X (some mb)) : TbR W b q nm lost r Es Ws As vE vW vA X := by
  obtain ⟨xs, h1, h2⟩ := h.oa
  have hq : q ≠ mb := fun e => map_ne hm h.blk e.symm
  refine ⟨h.rd.grown (Below.grown (Below.refl _ _) hg h.rd.d.size (fun j hj => by cases hj; exact hmW)) hbW, (hg.block q (heap_lt h.blk) (by simpa using hq)).trans h.blk, h.oe.kept hg (own_ne_map h.oe hm), h.ow.kept hg (own_ne_map h.ow hm), xs, h1.kept hg (own_ne_map h1 hm), fun i hi => ⟨(h2 i hi).1.kept hg (own_ne_map (h2 i hi).1 hm), (h2 i hi).2⟩⟩
/-- The table while its names are turned into numbers. -/
structure TnR (W : World) (b q mb : Nat) (nm : List UInt8) (lost : Bool) (r : List UInt8) (Es : List (List UInt8)) (Ws : List Bool) (As : List (List (List UInt8))) (vE vW vA : Value) (xs : List Value) (PT : Nat → List Nat) (k : Nat) (vB : Value) (w : World) : Prop where
  rd : RdSt b r lost W w
  blk : w.heap[q]? = some (.cells #[.string (mkS nm), vE, vB, vW] 26 (0, 0))
  oe : w.ownsRow W.heap.size 9 1 vE Es.length (Es.map strV)
  ow : w.ownsRow W.heap.size 4 1 vW Ws.length (Ws.map Value.bool)
  oa : w.ownsRow W.heap.size 22 1 vA As.length xs
  oi : ∀ i (h : i < xs.length), w.ownsRow 0 9 1 xs[i] (As.getD i []).length ((As.getD i []).map strV)
  al : AllI W.heap.size PT vB k w
  mp : w.ownsMap Tryd.prog 9 (plainElem (H := Unit) Tryd.prog 3) mb Es.length (putN Es Es.length)
variable {mb k : Nat} {xs : List Value} {PT : Nat → List Nat} {vB : Value}
theorem TnR.below {X : World} (h : TnR W b q mb nm lost r Es Ws As vE vW vA xs PT k vB w) (hb : Below w.heap.size w X) : TnR W b q mb nm lost r Es Ws As vE vW vA xs PT k vB X :=
  ⟨h.rd.below hb, heap_below hb h.blk, ownsRow_below h.oe hb, ownsRow_below h.ow hb, ownsRow_below h.oa hb, fun i hi => ownsRow_below (h.oi i hi) hb, h.al.below hb, ownsMap_at h.mp (hb.block mb h.mp.lt)⟩
theorem AllI.type {X : World} (h : AllI W.heap.size PT vB k w) {cs : Array Value} {fr : Nat × Nat} {T : TypeId} (hr : w.heap[b]? = some (.cells cs T fr)) (h1 : 35 ≠ T) (h2 : 3 ≠ T) (hd : Diff (fun k => k = b) w X) : AllI W.heap.size PT vB k X := by
  obtain ⟨ys, g1, g2⟩ := h.row
  exact ⟨ys, ownsRow_type g1 hr h1 hd, fun i hi => ownsRow_type (g2 i hi) hr h2 hd⟩
theorem TnR.call {X : World} {r' : List UInt8} {lost' : Bool} (h : TnR W b q mb nm lost r Es Ws As vE vW vA xs PT k vB w) (hb : RdSt b r' lost' w X) : TnR W b q mb nm lost' r' Es Ws As vE vW vA xs PT k vB X := by
  have hr := h.rd.r
  refine ⟨⟨hb.r, h.rd.d.trans hb.d⟩, (hb.d.block q (heap_lt h.blk) (fun e => ?_)).trans h.blk, ownsRow_type h.oe hr (by decide) hb.d, ownsRow_type h.ow hr (by decide) hb.d, ownsRow_type h.oa hr (by decide) hb.d, fun i hi => ownsRow_type (h.oi i hi) hr (by decide) hb.d, h.al.type hr (by decide) (by decide) hb.d, ownsMap_at h.mp (hb.d.block mb h.mp.lt (map_ne h.mp hr))⟩
  have e' : q = b := e
  have := h.blk
  rw [e', hr] at this
  injection this with this; injection this with _ this _; exact absurd this (by decide)
theorem TnR.qb (h : TnR W b q mb nm lost r Es Ws As vE vW vA xs PT k vB w) : q ≠ b := fun e => by
  have := h.blk
  rw [e, h.rd.r] at this
  injection this with this; injection this with _ this _; exact absurd this (by decide)
theorem TnR.putB {X : World} {p : Option Addr} {c : Nat} {l : Value} {ys : List Value} (h : TnR W b q mb nm lost r Es Ws As vE vW vA xs PT k vB w) (hbW : b < W.heap.size) (hqW : W.heap.size ≤ q)
    (hy : w.ownsRow W.heap.size 35 1 vB k ys) (hys : ∀ i (h : i < ys.length), w.ownsRow 0 3 1 ys[i] (PT i).length ((ints (PT i)).map (Value.int .i64))) (hl : w.ownsRow 0 3 1 l (PT k).length ((ints (PT k)).map (Value.int .i64)))
    (ho : X.ownsRow W.heap.size 35 1 (.slice p (k + 1) c) (k + 1) (ys ++ [l])) (hg : w.grownBy X vB.ownBlock) :
    TnR W b q mb nm lost r Es Ws As vE vW vA xs PT (k + 1) (.slice p (k + 1) c) (X.setCell ⟨q, 2, none⟩ (.slice p (k + 1) c)) := by
  have hqX : X.heap[q]? = some (.cells #[.string (mkS nm), vE, vB, vW] 26 (0, 0)) := (hg.block q (heap_lt h.blk) (Lib.ownBlock_ne hy h.blk (by decide)).symm).trans h.blk
  have hm : mb ≠ q := map_ne h.mp h.blk
  refine ⟨rd_set_other (h.rd.grown (Below.grown (Below.refl _ _) hg h.rd.d.size (fun j hj => (hy.lt j hj).1)) hbW) h.qb hqW, by rw [setCell_heap hqX]; rfl, ownsRow_set (ownsRow_kept h.oe hy hg (by decide)) hqX (by decide), ownsRow_set (ownsRow_kept h.ow hy hg (by decide)) hqX (by decide), ownsRow_set (ownsRow_kept h.oa hy hg (by decide)) hqX (by decide), fun i hi => ownsRow_set (ownsRow_kept (h.oi i hi) hy hg (by decide)) hqX (by decide), ?_, ?_⟩
  · obtain ⟨zs, z1, z2⟩ := (AllI.snoc hy hys hl ho hg).row
    exact ⟨zs, ownsRow_set z1 hqX (by decide), fun i hi => ownsRow_set (z2 i hi) hqX (by decide)⟩
  · refine ownsMap_at h.mp ?_
    rw [Below.heap_setCell _ _ _ _ hm]
    refine hg.block mb h.mp.lt fun e => ?_
    rcases own_ne_map hy h.mp with h1 | h1
    · rw [h1] at e; cases e
    · exact h1 e.symm
theorem TnR.cells (h : TnR W b q mb nm lost r Es Ws As vE vW vA xs PT k vB w) : (w.cell? ⟨q, 0, none⟩ = some (.string (mkS nm)) ∧ w.cell? ⟨q, 1, none⟩ = some vE ∧ w.cell? ⟨q, 2, none⟩ = some vB ∧ w.cell? ⟨q, 3, none⟩ = some vW) ∧ w.frozen? ⟨q, 0, none⟩ = false ∧ w.frozen? ⟨q, 1, none⟩ = false ∧ w.frozen? ⟨q, 2, none⟩ = false ∧ w.frozen? ⟨q, 3, none⟩ = false := by
  have y0 := Go.Joins.cell_of_block h.blk 0
  have y1 := Go.Joins.cell_of_block h.blk 1
  have y2 := Go.Joins.cell_of_block h.blk 2
  have y3 := Go.Joins.cell_of_block h.blk 3
  simp only [List.getElem?_toArray, List.getElem?_cons_zero, List.getElem?_cons_succ] at y0 y1 y2 y3
  exact ⟨⟨y0, y1, y2, y3⟩, Go.Joins.unfrozen_of_block h.blk 0, Go.Joins.unfrozen_of_block h.blk 1, Go.Joins.unfrozen_of_block h.blk 2, Go.Joins.unfrozen_of_block h.blk 3⟩
theorem grown_cell2 {X : World} {m : Nat} {ys : List Value} (h : TnR W b q mb nm lost r Es Ws As vE vW vA xs PT k vB w) (hown : w.ownsRow W.heap.size 35 1 vB m ys) (hg : w.grownBy X vB.ownBlock) : X.cell? ⟨q, 2, none⟩ = some vB ∧ X.frozen? ⟨q, 2, none⟩ = false := by
  have hqX : X.heap[q]? = some (.cells #[.string (mkS nm), vE, vB, vW] 26 (0, 0)) := (hg.block q (heap_lt h.blk) (Lib.ownBlock_ne hown h.blk (by decide)).symm).trans h.blk
  have y2 := Go.Joins.cell_of_block hqX 2
  simp only [List.getElem?_toArray, List.getElem?_cons_zero, List.getElem?_cons_succ] at y2
  exact ⟨y2, Go.Joins.unfrozen_of_block hqX 2⟩
/-- What a table that was read is. -/
theorem TnR.ty {T : Tab} (h : TnR W b q mb nm lost r Es Ws As vE vW vA xs PT k vB w) (h1 : T.elems = Es) (h3 : T.wrong = Ws) (hk : T.above.length = k) (h2 : ∀ i, i < k → T.above.getD i [] = ints (PT i)) (l1 : Es.length ≤ 1000) (l2 : k ≤ 1000) (l3 : Ws.length ≤ 1000) (l4 : ∀ i, i < k → (PT i).length ≤ 1000) : TyT w vE vB vW T := by
  subst h1 h3 hk
  obtain ⟨ys, g1, g2⟩ := h.al.row
  exact ⟨ownsRow_base h.oe (Nat.zero_le _), ownsRow_base h.ow (Nat.zero_le _), ⟨PT, fun i hi => ⟨h2 i hi, l4 i hi⟩, ys, ownsRow_base g1 (Nat.zero_le _), g2⟩, l1, l2, l3⟩
end
end Go.Proofs.YtfhnigpjmljhbaaDoor.Or
