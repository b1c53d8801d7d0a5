/- A table under way whose two rows grow in one statement. -/
import Derived.Test.YtmooikdodbjgpaaDoorOrKf
set_option linter.unusedVariables false
set_option linter.unusedSimpArgs false
namespace Go.Proofs.YtmooikdodbjgpaaDoor.Or
open Go.RowKit Go.Shelf

/-- step_append_rd, the row that comes of it laid open. -/
theorem step_append_sl {ops : Array Oper} {w : World} {o : Oper} {a : Act} {K : Act → World → Prop} {Q : Exit → Act → World → Prop} {E : Prop} (hg : o.guard = none) (s x : Operand) (T e : TypeId)
    (ho : o.op = .call { callee := .builtin .append, args := #[s, x], argTypes := #[T, T] })
    (i0 : TypeInfo) (z : Value) (by' : Nat) (ht : Tryd.prog.underlying T = some (.slice e)) (hi : Tryd.prog.info? e = some i0) (hz0 : i0.zero = some z) (hz1 : i0.size = 1) (hz2 : i0.bytes = by') (hzs : z.cells.size = 1) (hby : by' ≤ 1000)
    (base : Nat) (v u : Value) (n : Nat) (xs vs : List Value) (hs : a.eval s = v) (hown : w.ownsRow base e 1 v n xs) (hx : a.eval x = u) (hu : Rd w u vs) (hone : ∀ y ∈ vs, y.oneCell' = true) (hn : n + vs.length ≤ 1000) (hbase : base ≤ w.heap.size)
    (h : ∀ p c w', w'.ownsRow base e 1 (.slice p (n + vs.length) c) (n + vs.length) (xs ++ vs) → w.grownBy w' v.ownBlock → K (a.put o.dst (.slice p (n + vs.length) c)) w') :
    if Region.wanted o (yielded ops a.tmps) = true then Oper.wp Tryd.prog o a w K Q else E :=
  step_append_rd hg s x T e ho i0 z by' ht hi hz0 hz1 hz2 hzs hby base v u n xs vs hs hown hx hu hone hn hbase fun v' w' h1 h2 => by
    obtain ⟨p, c, rfl⟩ := ownsRow_slice h1
    exact h p c w' h1 h2
theorem heap_old_drew {V : World} {o : Obj} {k : Nat} {x : Obj} (h : V.drew.heap[k]? = some x) : (V.alloc o).drew.heap[k]? = some x := by
  have h2 : V.heap[k]? = some x := h
  exact heap_drew (heap_alloc_old h2)
structure TrM (W3 : World) (q : Nat) (x0 vA : Value) (PT : Nat → List Nat) (k : Nat) (xE vE xW vW : Value) (LE LW : List Value) (V : World) : Prop where
  blk : V.heap[q]? = some (.cells #[x0, xE, vA, xW] 26 (0, 0))
  all : AllI W3.heap.size PT vA k V
  e : V.ownsRow W3.heap.size 9 1 vE LE.length LE
  w : V.ownsRow W3.heap.size 4 1 vW LW.length LW
  bel : Below W3.heap.size W3 V
section
variable {W3 V O : World} {q k : Nat} {x0 vA xE vE xW vW : Value} {PT : Nat → List Nat} {LE LW : List Value}
theorem TrM.of (h : SlI W3 q x0 vE vW LE LW PT k V) : ∃ vA, TrM W3 q x0 vA PT k vE vE vW vW LE LW V := by
  obtain ⟨vA, h1, h2⟩ := h.row
  exact ⟨vA, h1, h2, h.e, h.w, h.bel⟩
theorem TrM.toSl (h : TrM W3 q x0 vA PT k vE vE vW vW LE LW V) : SlI W3 q x0 vE vW LE LW PT k V := ⟨⟨vA, h.blk, h.all⟩, h.e, h.w, h.bel⟩
theorem TrM.drew (h : TrM W3 q x0 vA PT k xE vE xW vW LE LW V) : TrM W3 q x0 vA PT k xE vE xW vW LE LW V.drew := by
  have hb : Below V.heap.size V V.drew := (Below.refl _ _).drew
  exact ⟨h.blk, h.all.below hb, ownsRow_below h.e hb, ownsRow_below h.w hb, h.bel.drew⟩
theorem TrM.undrew (h : TrM W3 q x0 vA PT k xE vE xW vW LE LW V.drew) : TrM W3 q x0 vA PT k xE vE xW vW LE LW V := by
  obtain ⟨xs, h1, h2⟩ := h.all.row
  exact ⟨h.blk, ⟨xs, h1, h2⟩, h.e, h.w, ⟨h.bel.os, h.bel.tape, h.bel.output, h.bel.size, h.bel.block⟩⟩
theorem TrM.alloc (h : TrM W3 q x0 vA PT k xE vE xW vW LE LW V) (o : Obj) : TrM W3 q x0 vA PT k xE vE xW vW LE LW (V.alloc o) := by
  have hb : Below V.heap.size V (V.alloc o) := (Below.refl _ _).alloc (Nat.le_refl _) _
  exact ⟨heap_below hb h.blk, h.all.below hb, ownsRow_below h.e hb, ownsRow_below h.w hb, h.bel.alloc h.bel.size _⟩
theorem TrM.allocD (h : TrM W3 q x0 vA PT k xE vE xW vW LE LW V.drew) (o : Obj) : TrM W3 q x0 vA PT k xE vE xW vW LE LW (V.alloc o).drew := (h.undrew.alloc o).drew
theorem TrM.appE {vE' s : Value} (h : TrM W3 q x0 vA PT k xE vE xW vW LE LW V) (hO : O.ownsRow W3.heap.size 9 1 vE' (LE.length + 1) (LE ++ [s])) (hg : V.grownBy O vE.ownBlock) : TrM W3 q x0 vA PT k xE vE' xW vW (LE ++ [s]) LW O := by
  obtain ⟨xs, h1, h2⟩ := h.all.row
  refine ⟨(hg.block q (heap_lt h.blk) (Lib.ownBlock_ne h.e h.blk (by decide)).symm).trans h.blk, ⟨xs, ownsRow_kept h1 h.e hg (by decide), fun i hi => ownsRow_kept (h2 i hi) h.e hg (by decide)⟩, ?_, ownsRow_kept h.w h.e hg (by decide), ?_⟩
  · rw [List.length_append]; exact hO
  · refine Below.grown h.bel hg h.bel.size (fun g e => ?_)
    rcases h.e.2 with ⟨rfl, _⟩ | ⟨g', cap, cur, rfl, hbg, _⟩
    · cases e
    · simp only [Value.ownBlock, Option.some.injEq] at e; omega
theorem TrM.appW {vW' s : Value} (h : TrM W3 q x0 vA PT k xE vE xW vW LE LW V) (hO : O.ownsRow W3.heap.size 4 1 vW' (LW.length + 1) (LW ++ [s])) (hg : V.grownBy O vW.ownBlock) : TrM W3 q x0 vA PT k xE vE xW vW' LE (LW ++ [s]) O := by
  obtain ⟨xs, h1, h2⟩ := h.all.row
  refine ⟨(hg.block q (heap_lt h.blk) (Lib.ownBlock_ne h.w h.blk (by decide)).symm).trans h.blk, ⟨xs, ownsRow_kept h1 h.w hg (by decide), fun i hi => ownsRow_kept (h2 i hi) h.w hg (by decide)⟩, ownsRow_kept h.e h.w hg (by decide), ?_, ?_⟩
  · rw [List.length_append]; exact hO
  · refine Below.grown h.bel hg h.bel.size (fun g e => ?_)
    rcases h.w.2 with ⟨rfl, _⟩ | ⟨g', cap, cur, rfl, hbg, _⟩
    · cases e
    · simp only [Value.ownBlock, Option.some.injEq] at e; omega
theorem TrM.setE (h : TrM W3 q x0 vA PT k xE vE xW vW LE LW V) (hq : W3.heap.size ≤ q) (v : Value) : TrM W3 q x0 vA PT k v vE xW vW LE LW (V.setCell ⟨q, 1, none⟩ v) :=
  ⟨setCell_heap h.blk, h.all.set h.blk, ownsRow_set h.e h.blk (by decide), ownsRow_set h.w h.blk (by decide), h.bel.setCell hq _⟩
theorem TrM.setW (h : TrM W3 q x0 vA PT k xE vE xW vW LE LW V) (hq : W3.heap.size ≤ q) (v : Value) : TrM W3 q x0 vA PT k xE vE v vW LE LW (V.setCell ⟨q, 3, none⟩ v) :=
  ⟨setCell_heap h.blk, h.all.set h.blk, ownsRow_set h.e h.blk (by decide), ownsRow_set h.w h.blk (by decide), h.bel.setCell hq _⟩
theorem TrM.setED (h : TrM W3 q x0 vA PT k xE vE xW vW LE LW V.drew) (hq : W3.heap.size ≤ q) (v : Value) : TrM W3 q x0 vA PT k v vE xW vW LE LW (V.setCell ⟨q, 1, none⟩ v).drew := (h.undrew.setE hq v).drew
theorem TrM.setWD (h : TrM W3 q x0 vA PT k xE vE xW vW LE LW V.drew) (hq : W3.heap.size ≤ q) (v : Value) : TrM W3 q x0 vA PT k xE vE v vW LE LW (V.setCell ⟨q, 3, none⟩ v).drew := (h.undrew.setW hq v).drew
theorem TrM.cells (h : TrM W3 q x0 vA PT k xE vE xW vW LE LW V) : V.cell? ⟨q, 1, none⟩ = some xE ∧ V.cell? ⟨q, 3, none⟩ = some xW ∧ V.frozen? ⟨q, 1, none⟩ = false ∧ V.frozen? ⟨q, 3, none⟩ = false := by
  obtain ⟨⟨_, h1, _, h3⟩, _, h5, _, h7⟩ := four_cells h.blk
  exact ⟨h1, h3, h5, h7⟩
/-- What follows an operation. -/
theorem TrM.next {P : Program} {md : Region.Mode} {ops : Array Oper} {Q : Exit → Act → World → Prop} {uE uW : Value} {L : Array Bool} {f : Nat} {K : Act → World → Prop} {a' : Act} {x y : Nat}
    (hK : Hid (∀ a' w', Two x y (fun u => u.cell? ⟨q, 1, none⟩ = some uE) (fun u => u.cell? ⟨q, 3, none⟩ = some uW) (Below W3.heap.size W3) L w' → AnyL P md ops Q (Two x y (fun u => u.cell? ⟨q, 1, none⟩ = some uE) (fun u => u.cell? ⟨q, 3, none⟩ = some uW) (Below W3.heap.size W3)) f L a' w' → K a' w'))
    (h : TrM W3 q x0 vA PT k xE vE xW vW LE LW V) (hx : L.getD x false = true ∨ xE = uE) (hy : L.getD y false = true ∨ xW = uW)
    (hn : TrM W3 q x0 vA PT k xE vE xW vW LE LW V → AnyL P md ops Q (Two x y (fun u => u.cell? ⟨q, 1, none⟩ = some uE) (fun u => u.cell? ⟨q, 3, none⟩ = some uW) (Below W3.heap.size W3)) f L a' V) : K a' V := by
  obtain ⟨h1, h3, _⟩ := h.cells
  refine hK.out _ _ ⟨hx.imp id (fun e => ?_), hy.imp id (fun e => ?_), h.bel⟩ (hn h)
  · rw [← e]; exact h1
  · rw [← e]; exact h3
end
end Go.Proofs.YtmooikdodbjgpaaDoor.Or
