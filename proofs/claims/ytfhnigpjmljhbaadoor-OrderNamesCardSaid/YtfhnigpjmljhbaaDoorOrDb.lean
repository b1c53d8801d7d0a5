/- Lists that are read at the head of a block of a type: what append to an empty row makes, also of nothing. -/
import Derived.Test.YtfhnigpjmljhbaaDoorOrCb
import Derived.Lib.SmallJoins
set_option linter.unusedVariables false
set_option linter.unusedSimpArgs false
namespace Go.Proofs.YtfhnigpjmljhbaaDoor.Or
open Go.RowKit Go.Shelf

/-- A slice that begins at the head of a block of elements of a type, and reads as a list. -/
def RdT (w : World) (e : TypeId) (v : Value) (vs : List Value) : Prop :=
  ∃ u cap cs fr, v = .slice (some ⟨u, 0, none⟩) vs.length cap ∧ w.heap[u]? = some (.cells cs e fr) ∧ cs.toList.take vs.length = vs ∧ vs.length ≤ 1000 ∧ vs.length ≤ cap
theorem heap_drew {V : World} {k : Nat} {x : Obj} (h : V.heap[k]? = some x) : V.drew.heap[k]? = some x := h
theorem heap_lt {V : World} {k : Nat} {x : Obj} (h : V.heap[k]? = some x) : k < V.heap.size := (Array.getElem?_eq_some_iff.1 h).1
theorem heap_below {A B : World} {k : Nat} {x : Obj} (hb : Below A.heap.size A B) (h : A.heap[k]? = some x) : B.heap[k]? = some x := (hb.block k (heap_lt h)).trans h
theorem below_step {n : Nat} {w A B : World} (hb : Below A.heap.size A B) (h : Below n w A) (hn : n ≤ w.heap.size) : Below n w B := h.trans (hb.mono (Nat.le_trans hn h.size))
theorem alloc_size (V : World) (o : Obj) : (V.alloc o).heap.size = V.heap.size + 1 := by simp
theorem drew_size (V : World) : V.drew.heap.size = V.heap.size := rfl
theorem RdT.rd {w : World} {e : TypeId} {v : Value} {vs : List Value} (h : RdT w e v vs) : Rd w v vs := by
  obtain ⟨u, cap, cs, fr, rfl, hu, ht, hl, hc⟩ := h
  refine ⟨_, cap, rfl, ⟨by omega, hc⟩, .inr ⟨u, 0, rfl, fun i hi => ?_⟩⟩
  have hi2 : i < (cs.toList.take vs.length).length := by rw [ht]; exact hi
  have e : vs[i] = (cs.toList.take vs.length)[i]'hi2 := by simp only [ht]
  rw [Nat.zero_add, e]
  have hi3 : i < cs.size := by rw [List.length_take] at hi2; simp at hi2; omega
  simp [World.cell?, hu, hi3]
theorem RdT.form {w : World} {e : TypeId} {v : Value} {vs : List Value} (h : RdT w e v vs) : ∃ u cap, v = .slice (some ⟨u, 0, none⟩) vs.length cap := let ⟨u, cap, _, _, h1, _⟩ := h; ⟨u, cap, h1⟩
theorem RdT.below {w w' : World} {e : TypeId} {v : Value} {vs : List Value} (h : RdT w e v vs) (hb : Below w.heap.size w w') : RdT w' e v vs := by
  obtain ⟨u, cap, cs, fr, h1, hu, h2⟩ := h
  exact ⟨u, cap, cs, fr, h1, heap_below hb hu, h2⟩
theorem RdT.kept {w wB : World} {e T : TypeId} {v r : Value} {vs xs : List Value} {base n : Nat} (h : RdT w e v vs) (hr : w.ownsRow base T 1 r n xs) (hg : w.grownBy wB r.ownBlock) (hne : e ≠ T) : RdT wB e v vs := by
  obtain ⟨u, cap, cs, fr, h1, hu, h2⟩ := h
  exact ⟨u, cap, cs, fr, h1, (hg.block u (heap_lt hu) (Lib.ownBlock_ne hr hu hne).symm).trans hu, h2⟩
theorem rd_one1 {w : World} {b : Nat} {x : Value} {T : TypeId} {fr : Nat × Nat} (h : w.heap[b]? = some (.cells #[x] T fr)) : Rd w (.slice (some ⟨b, 0, none⟩) 1 1) [x] := rd_block (vs := [x]) h rfl (by simp) (Nat.le_refl _)
/-- Append to an empty row without room, of any list: it is read at the head of a block behind it. -/
theorem step_append_emp {ops : Array Oper} {w : World} {o : Oper} {a : Act} {K : Act → World → Prop} {Q : Exit → Act → World → Prop} {E : Prop} (hg : o.guard = none) (s x : Operand) (T e : TypeId)
    (ho : o.op = .call { callee := .builtin .append, args := #[s, x], argTypes := #[T, T] })
    (i0 : TypeInfo) (z : Value) (by' : Nat) (ht : Tryd.prog.underlying T = some (.slice e)) (hi : Tryd.prog.info? e = some i0) (hz0 : i0.zero = some z) (hz1 : i0.size = 1) (hz2 : i0.bytes = by') (hby : by' ≤ 1000)
    (b : Nat) (u : Value) (vs : List Value) (fr : Nat × Nat) (hs : a.eval s = .slice (some ⟨b, 0, none⟩) 0 0) (hx : a.eval x = u) (hbw : w.heap[b]? = some (.cells #[] e fr)) (hu : Rd w u vs) (hn : vs.length ≤ 1000)
    (h : ∀ v' w', Below w.heap.size w w' → RdT w' e v' vs → K (a.put o.dst v') w') :
    if Region.wanted o (yielded ops a.tmps) = true then Oper.wp Tryd.prog o a w K Q else E := by
  have hw : Region.wanted o (yielded ops a.tmps) = true := by simp [Region.wanted, hg]
  rw [if_pos hw]
  obtain ⟨p, cap, rfl, hl, h0⟩ := hu
  by_cases hz : vs.length = 0
  · have hvs : vs = [] := List.length_eq_zero_iff.1 hz
    subst hvs
    refine Lib.wp_append_run w s x _ _ ho (.slice (some ⟨b, 0, none⟩) 0 0) (.slice p 0 cap) hs hx (.slice (some ⟨b, 0, none⟩) 0 0) w ?_ ?_
    · cases p <;> simp [Builtin.append_, run_underlying ht, sizeOf, typeInfo, hi, Builtin.lenOf, Builtin.firstCells, storeCells, loadCells, loadCellsFrom, hz1]
    · exact h _ _ (Below.refl _ _) ⟨b, 0, #[], fr, rfl, hbw, rfl, by simp, Nat.le_refl _⟩
  · rcases h0 with h0 | ⟨bl, off, rfl, hc⟩
    · omega
    have hcells : ∀ j y, vs[j]? = some y → w.cell? ((⟨bl, off, none⟩ : Addr).add j) = some y := by
      intro j y hj
      have hadd : (⟨bl, off, none⟩ : Addr).add j = ⟨bl, off + j, none⟩ := by unfold Addr.add; split <;> simp_all
      obtain ⟨hj1, hj2⟩ := List.getElem?_eq_some_iff.1 hj
      rw [hadd, hc j hj1, hj2]
    have hbb : (0 + vs.length) * i0.bytes ≤ 140737488355328 := by
      rw [Nat.zero_add, hz2]; exact Nat.le_trans (Nat.mul_le_mul hn hby) (by decide)
    have hr := run_append_grow (P := Tryd.prog) w T o.type e i0 z ht hi hz0 ⟨b, 0, none⟩ 0 0 [] (by simp) (by simp) ⟨bl, off, none⟩ vs.length cap vs (by rw [hz1]; simp) hcells (by omega) (by omega) (growslice_fits (by omega) hbb)
    have hge := grownCap_ge w (0 + vs.length) 0 e
    refine Lib.wp_append_run w s x _ _ ho _ _ hs hx _ _ hr ?_
    refine h _ _ (((Below.refl _ _).drew).alloc (Nat.le_refl _) _) ⟨w.heap.size, _, _, (0, 0), by rw [Nat.zero_add], heap_alloc_new w.drew _, by simp, hn, by rw [Nat.zero_add] at hge; exact hge⟩
theorem setCell_heap {w : World} {q i : Nat} {x : Value} {cs : Array Value} {T : TypeId} {fr : Nat × Nat} (hq : w.heap[q]? = some (.cells cs T fr)) : (w.setCell ⟨q, i, none⟩ x).heap[q]? = some (.cells (cs.setIfInBounds i x) T fr) := Go.Joins.block_setCell hq x
theorem RdT.set {w : World} {e T : TypeId} {v x : Value} {vs : List Value} {q i : Nat} {cs : Array Value} {fr : Nat × Nat} (h : RdT w e v vs) (hq : w.heap[q]? = some (.cells cs T fr)) (hne : e ≠ T) : RdT (w.setCell ⟨q, i, none⟩ x) e v vs := by
  obtain ⟨u, cap, cs', fr', h1, hu, h2⟩ := h
  refine ⟨u, cap, cs', fr', h1, ?_, h2⟩
  rw [Below.heap_setCell _ _ _ _ (show u ≠ q from fun e' => by subst e'; rw [hu] at hq; injection hq with hq; injection hq with _ hq _; exact hne hq)]
  exact hu
theorem ownsRow_set {w : World} {base n : Nat} {e T : TypeId} {v x : Value} {xs : List Value} {q i : Nat} {cs : Array Value} {fr : Nat × Nat} (h : w.ownsRow base e 1 v n xs) (hq : w.heap[q]? = some (.cells cs T fr)) (hne : e ≠ T) : (w.setCell ⟨q, i, none⟩ x).ownsRow base e 1 v n xs := by
  refine ⟨h.1, ?_⟩
  rcases h.2 with hn | ⟨g, cap, cur, rfl, hb, hgg, rest⟩
  · exact .inl hn
  · refine .inr ⟨g, cap, cur, rfl, hb, ?_, rest⟩
    rw [Below.heap_setCell _ _ _ _ (show g ≠ q from fun e' => by subst e'; rw [hgg] at hq; injection hq with hq; injection hq with _ hq _; exact hne hq)]
    exact hgg
/-- A guard: the operation is an append at this type. -/
theorem only_app (T : TypeId) {P : Program} {ops : Array Oper} {w : World} {a : Act} {K : Act → World → Prop} {Q : Exit → Act → World → Prop} {E : Prop} {d : Option Tmp} {ty : TypeId} {p : String} {af : Array Edge} {s x : Operand}
    (h : if Region.wanted { dst := d, op := .call { callee := .builtin .append, args := #[s, x], argTypes := #[T, T] }, type := ty, pos := p, after := af, guard := none } (yielded ops a.tmps) = true then Oper.wp P { dst := d, op := .call { callee := .builtin .append, args := #[s, x], argTypes := #[T, T] }, type := ty, pos := p, after := af, guard := none } a w K Q else E) :
    if Region.wanted { dst := d, op := .call { callee := .builtin .append, args := #[s, x], argTypes := #[T, T] }, type := ty, pos := p, after := af, guard := none } (yielded ops a.tmps) = true then Oper.wp P { dst := d, op := .call { callee := .builtin .append, args := #[s, x], argTypes := #[T, T] }, type := ty, pos := p, after := af, guard := none } a w K Q else E := h
/-- Append of nothing to an empty row. -/
theorem step_append_none {ops : Array Oper} {w : World} {o : Oper} {a : Act} {K : Act → World → Prop} {Q : Exit → Act → World → Prop} {E : Prop} (hg : o.guard = none) (s x : Operand) (T e : TypeId)
    (ho : o.op = .call { callee := .builtin .append, args := #[s, x], argTypes := #[T, T] })
    (i0 : TypeInfo) (ht : Tryd.prog.underlying T = some (.slice e)) (hi : Tryd.prog.info? e = some i0) (hz1 : i0.size = 1)
    (b : Addr) (u : Value) (vs : List Value) (hs : a.eval s = .slice (some b) 0 0) (hx : a.eval x = u) (hu : Rd w u vs) (hn : vs.length = 0)
    (h : K (a.put o.dst (.slice (some b) 0 0)) w) :
    if Region.wanted o (yielded ops a.tmps) = true then Oper.wp Tryd.prog o a w K Q else E := by
  have hw : Region.wanted o (yielded ops a.tmps) = true := by simp [Region.wanted, hg]
  rw [if_pos hw]
  obtain ⟨p, cap, rfl, hl, h0⟩ := hu
  have hvs : vs = [] := List.length_eq_zero_iff.1 hn
  subst hvs
  refine Lib.wp_append_run w s x _ _ ho (.slice (some b) 0 0) (.slice p 0 cap) hs hx (.slice (some b) 0 0) w ?_ h
  cases p <;> simp [Builtin.append_, run_underlying ht, sizeOf, typeInfo, hi, Builtin.lenOf, Builtin.firstCells, storeCells, loadCells, loadCellsFrom, hz1]
def set4 (w : World) (b : Nat) (x0 x1 x2 x3 : Value) : World := (((w.setCell ⟨b, 0, none⟩ x0).setCell ⟨b, 1, none⟩ x1).setCell ⟨b, 2, none⟩ x2).setCell ⟨b, 3, none⟩ x3
theorem set4_heap {w : World} {b : Nat} {c0 c1 c2 c3 x0 x1 x2 x3 : Value} {T : TypeId} {fr : Nat × Nat} (hz : w.heap[b]? = some (.cells #[c0, c1, c2, c3] T fr)) : (set4 w b x0 x1 x2 x3).heap[b]? = some (.cells #[x0, x1, x2, x3] T fr) := by
  unfold set4
  have h1 := setCell_heap (i := 0) (x := x0) hz
  have h2 := setCell_heap (i := 1) (x := x1) h1
  have h3 := setCell_heap (i := 2) (x := x2) h2
  have h4 := setCell_heap (i := 3) (x := x3) h3
  rw [h4]; simp
theorem RdT.set4 {w : World} {b : Nat} {cs : Array Value} {e T : TypeId} {fr : Nat × Nat} {v : Value} {vs : List Value} {x0 x1 x2 x3 : Value} (h : RdT w e v vs) (hz : w.heap[b]? = some (.cells cs T fr)) (hne : e ≠ T) : RdT (Or.set4 w b x0 x1 x2 x3) e v vs :=
  (((h.set hz hne).set (setCell_heap hz) hne).set (setCell_heap (setCell_heap hz)) hne).set (setCell_heap (setCell_heap (setCell_heap hz))) hne
theorem ownsRow_set4 {w : World} {b base n : Nat} {cs : Array Value} {e T : TypeId} {fr : Nat × Nat} {v : Value} {vs : List Value} {x0 x1 x2 x3 : Value} (h : w.ownsRow base e 1 v n vs) (hz : w.heap[b]? = some (.cells cs T fr)) (hne : e ≠ T) : (set4 w b x0 x1 x2 x3).ownsRow base e 1 v n vs :=
  ownsRow_set (ownsRow_set (ownsRow_set (ownsRow_set h hz hne) (setCell_heap hz) hne) (setCell_heap (setCell_heap hz)) hne) (setCell_heap (setCell_heap (setCell_heap hz))) hne
theorem below_set4 {w W : World} {B b : Nat} {x0 x1 x2 x3 : Value} (h : Below B w W) (hb : B ≤ b) : Below B w (set4 W b x0 x1 x2 x3) :=
  (((h.setCell hb _).setCell hb _).setCell hb _).setCell hb _
/-- A copy under way: its block, its lists of names and of wrong, and the row of what stands above the first elements. -/
structure CpI (W0 : World) (t : Tab) (q : Nat) (vE vW : Value) (LE LW : List Value) (k : Nat) (wr : World) : Prop where
  row : ∃ va xs, wr.heap[q]? = some (.cells #[.string (mkS t.name), vE, va, vW] 26 (0, 0)) ∧ wr.ownsRow W0.heap.size 35 1 va k xs ∧ ∀ i (h : i < xs.length), RdT wr 3 xs[i] ((t.above.getD i []).map (Value.int .i64))
  e : RdT wr 9 vE LE
  w : RdT wr 4 vW LW
  bel : Below W0.heap.size W0 wr
theorem CpI.step {W0 wr wX wO : World} {t : Tab} {q k : Nat} {vE vW va vI vO : Value} {LE LW xs : List Value}
    (hq : wr.heap[q]? = some (.cells #[.string (mkS t.name), vE, va, vW] 26 (0, 0))) (hown : wr.ownsRow W0.heap.size 35 1 va k xs) (hxs : ∀ i (h : i < xs.length), RdT wr 3 xs[i] ((t.above.getD i []).map (Value.int .i64)))
    (he : RdT wr 9 vE LE) (hw : RdT wr 4 vW LW) (hb : Below W0.heap.size W0 wr) (hq0 : W0.heap.size ≤ q)
    (hX : Below wr.heap.size wr wX) (hI : RdT wX 3 vI ((t.above.getD k []).map (Value.int .i64)))
    (hO : wO.ownsRow W0.heap.size 35 1 vO (k + 1) (xs ++ [vI])) (hg : wX.grownBy wO va.ownBlock) : CpI W0 t q vE vW LE LW (k + 1) (wO.setCell ⟨q, 2, none⟩ vO) := by
  have hlk : xs.length = k := by have := hown.1; omega
  have hownX := ownsRow_below hown hX
  have hqX := heap_below hX hq
  have hqO : wO.heap[q]? = some (.cells #[.string (mkS t.name), vE, va, vW] 26 (0, 0)) := (hg.block q (heap_lt hqX) (Lib.ownBlock_ne hownX hqX (by decide)).symm).trans hqX
  refine ⟨⟨vO, xs ++ [vI], ?_, ownsRow_set hO hqO (by decide), fun i hi => ?_⟩, ?_, ?_, ?_⟩
  · rw [setCell_heap hqO]; rfl
  · by_cases hik : i < k
    · rw [List.getElem_append_left (by omega)]
      exact (((hxs i (by omega)).below hX).kept hownX hg (by decide)).set hqO (by decide)
    · have hik2 : i = k := by rw [List.length_append] at hi; simp at hi; omega
      subst hik2
      have : (xs ++ [vI])[i] = vI := by rw [List.getElem_append_right (by omega)]; simp
      rw [this]
      exact (hI.kept hownX hg (by decide)).set hqO (by decide)
  · exact ((he.below hX).kept hownX hg (by decide)).set hqO (by decide)
  · exact ((hw.below hX).kept hownX hg (by decide)).set hqO (by decide)
  · refine Below.setCell (Below.grown (below_step hX hb (Nat.le_refl _)) hg (Nat.le_trans hb.size hX.size) (fun g e => ?_)) hq0 _
    rcases hown.2 with ⟨rfl, _⟩ | ⟨g', cap, cur, rfl, hbg, _⟩
    · cases e
    · simp only [Value.ownBlock, Option.some.injEq] at e; omega
theorem grown_heap {wr X wO : World} {q base k : Nat} {e T : TypeId} {cs : Array Value} {fr : Nat × Nat} {va : Value} {xs : List Value} (hq : wr.heap[q]? = some (.cells cs T fr)) (hX : Below wr.heap.size wr X) (hown : wr.ownsRow base e 1 va k xs) (hne : T ≠ e) (hg : X.grownBy wO va.ownBlock) : wO.heap[q]? = some (.cells cs T fr) :=
  (hg.block q (heap_lt (heap_below hX hq)) (Lib.ownBlock_ne (ownsRow_below hown hX) (heap_below hX hq) hne).symm).trans (heap_below hX hq)
/-- What a copy that is done is. -/
theorem CpI.done {W0 wr : World} {t : Tab} {q b : Nat} {vE vW : Value} {cs : Array Value} {fr : Nat × Nat} {x0 x1 x2 x3 : Value} (h : CpI W0 t q vE vW (t.elems.map strV) (t.wrong.map Value.bool) t.above.length wr) (hl : t.above.length ≤ 20) (hz : W0.heap[b]? = some (.cells cs 26 fr)) {va : Value} {xs : List Value}
    (hown : wr.ownsRow W0.heap.size 35 1 va t.above.length xs) (hxs : ∀ i (h : i < xs.length), RdT wr 3 xs[i] ((t.above.getD i []).map (Value.int .i64))) : TabIn (set4 wr b x0 x1 x2 x3) vE va vW t := by
  have hzr : wr.heap[b]? = some (.cells cs 26 fr) := (h.bel.block b (heap_lt hz)).trans hz
  refine ⟨(h.e.set4 hzr (by decide)).rd, ?_, (h.w.set4 hzr (by decide)).rd⟩
  have hlk : xs.length = t.above.length := by have := hown.1; omega
  rw [← hlk] at hown
  refine ⟨xs, rd_own (ownsRow_set4 hown hzr (by decide)) (by omega), hlk, fun i hi hi' => ?_⟩
  have := ((hxs i hi').set4 (x0 := x0) (x1 := x1) (x2 := x2) (x3 := x3) hzr (by decide)).rd
  rw [show t.above.getD i [] = t.above[i] by simp [List.getD_eq_getElem?_getD, hi]] at this
  exact this
theorem infoII : (Tryd.prog.info? 35).map (fun i => (i.zero, i.size, i.bytes)) = some (some (.slice none 0 0), 1, 24) := by kernel_rfl
end Go.Proofs.YtfhnigpjmljhbaaDoor.Or
