/- Append to empty rows: for the reference's Copy. -/
import Derived.Test.YtfhnigpjmljhbaaDoorOrCa
import Derived.Test.YtfhnigpjmljhbaaDoorOrBj
import Derived.Deep.RegionHeld3
import Derived.Lib.AppendZeros
set_option linter.unusedVariables false
set_option linter.unusedSimpArgs false
namespace Go.Proofs.YtfhnigpjmljhbaaDoor.Or
open Go.RowKit Go.Shelf

theorem run_append_zero (w : World) (base : Nat) (t ty e : TypeId) (i : TypeInfo) (size : Nat) (P : Program) (ht : P.underlying t = some (.slice e)) (hi : P.info? e = some i)
    (v : Value) (n : Nat) (xs : List Value) (hown : w.ownsRow base e size v n xs) (c : Nat) :
    (Builtin.append_ #[t, t] ty #[v, .slice none 0 c]).run P w = .ok v w := by
  rcases hown.2 with ⟨rfl, rfl⟩ | ⟨g, cap, cur, rfl, _, _, hnc, _⟩
  · simp [Builtin.append_, run_underlying ht, sizeOf, typeInfo, hi, Builtin.lenOf, Builtin.firstCells]
  · simp [Builtin.append_, run_underlying ht, sizeOf, typeInfo, hi, Builtin.lenOf, Builtin.firstCells, hnc, storeCells]
/-- Append of a list that is read to a row of one's own; behind it the row is one's own, and all but it is as it was. -/
theorem wp_append_rd {w : World} {o : Oper} {a : Act} {K : Act → World → Prop} {Q : Exit → Act → World → Prop} (s x : Operand) (T e : TypeId)
    (ho : o.op = .call { callee := .builtin .append, args := #[s, x], argTypes := #[T, T] })
    (i0 : TypeInfo) (z : Value) (by' : Nat) (ht : Tryd.prog.underlying T = some (.slice e)) (hi : Tryd.prog.info? e = some i0) (hz0 : i0.zero = some z) (hz1 : i0.size = 1) (hz2 : i0.bytes = by') (hzs : z.cells.size = 1) (hby : by' ≤ 1000)
    (base : Nat) (v u : Value) (n : Nat) (xs vs : List Value) (hs : a.eval s = v) (hown : w.ownsRow base e 1 v n xs) (hx : a.eval x = u) (hu : Rd w u vs) (hone : ∀ y ∈ vs, y.oneCell' = true) (hn : n + vs.length ≤ 1000) (hbase : base ≤ w.heap.size)
    (h : ∀ v' w', w'.ownsRow base e 1 v' (n + vs.length) (xs ++ vs) → w.grownBy w' v.ownBlock → K (a.put o.dst v') w') : o.wp Tryd.prog a w K Q := by
  obtain ⟨p, cap, rfl, hl, h0⟩ := hu
  cases p with
  | none =>
    have h00 : vs.length = 0 := by
      rcases h0 with h0 | ⟨b, off, hp, _⟩
      · exact h0
      · cases hp
    have hls : vs = [] := List.length_eq_zero_iff.1 h00
    subst hls
    refine Lib.wp_append_run w s x _ _ ho v (.slice none 0 cap) hs hx v w (run_append_zero w base _ _ _ i0 1 _ ht hi v n xs hown cap) (h v w ?_ (World.grownBy.refl w _))
    simpa using hown
  | some ad =>
    have hcells : ∀ j y, vs[j]? = some y → w.cell? (ad.add j) = some y := by
      rcases h0 with h0 | ⟨b, off, hp, hc⟩
      · have hls : vs = [] := List.length_eq_zero_iff.1 h0
        subst hls
        intro j y hj; simp at hj
      · simp only [Option.some.injEq] at hp
        subst hp
        intro j y hj
        have hadd : (⟨b, off, none⟩ : Addr).add j = ⟨b, off + j, none⟩ := by unfold Addr.add; split <;> simp_all
        obtain ⟨hj1, hj2⟩ := List.getElem?_eq_some_iff.1 hj
        rw [hadd, hc j hj1, hj2]
    refine wp_append_own w s x _ ho base e i0 z 1 by' ht hi hz0 hz1 hz2 hzs (by decide) v n xs hs hown ad vs.length cap vs hx (by simp) hcells hone (by unfold maxLen; omega) (Nat.le_trans (Nat.mul_le_mul hn hby) (by decide)) hbase ?_
    intro v' w' h1 h2 _
    exact h v' w' h1 h2
theorem step_append_rd {ops : Array Oper} {w : World} {o : Oper} {a : Act} {K : Act → World → Prop} {Q : Exit → Act → World → Prop} {E : Prop} (hg : o.guard = none) (s x : Operand) (T e : TypeId)
    (ho : o.op = .call { callee := .builtin .append, args := #[s, x], argTypes := #[T, T] })
    (i0 : TypeInfo) (z : Value) (by' : Nat) (ht : Tryd.prog.underlying T = some (.slice e)) (hi : Tryd.prog.info? e = some i0) (hz0 : i0.zero = some z) (hz1 : i0.size = 1) (hz2 : i0.bytes = by') (hzs : z.cells.size = 1) (hby : by' ≤ 1000)
    (base : Nat) (v u : Value) (n : Nat) (xs vs : List Value) (hs : a.eval s = v) (hown : w.ownsRow base e 1 v n xs) (hx : a.eval x = u) (hu : Rd w u vs) (hone : ∀ y ∈ vs, y.oneCell' = true) (hn : n + vs.length ≤ 1000) (hbase : base ≤ w.heap.size)
    (h : ∀ v' w', w'.ownsRow base e 1 v' (n + vs.length) (xs ++ vs) → w.grownBy w' v.ownBlock → K (a.put o.dst v') w') :
    if Region.wanted o (yielded ops a.tmps) = true then Oper.wp Tryd.prog o a w K Q else E := by
  have hw : Region.wanted o (yielded ops a.tmps) = true := by simp [Region.wanted, hg]
  rw [if_pos hw]
  exact wp_append_rd s x T e ho i0 z by' ht hi hz0 hz1 hz2 hzs hby base v u n xs vs hs hown hx hu hone hn hbase h
theorem kept_other {w W wB : World} {base g n : Nat} {e T : TypeId} {v : Value} {xs : List Value} {cs : Array Value} {fr : Nat × Nat} (h : w.ownsRow base e 1 v n xs) (hW : Below w.heap.size w W) (hg : W.grownBy wB (some g)) (hb : W.heap[g]? = some (.cells cs T fr)) (hne : T ≠ e) : wB.ownsRow base e 1 v n xs := by
  have h2 := ownsRow_below h hW
  exact World.ownsRow.kept h2 hg (.inr (Lib.ownBlock_ne h2 hb hne))
theorem owns_empty {w : World} {base g : Nat} {e : TypeId} (h : w.heap[g]? = some (.cells #[] e (0, 0))) (hb : base ≤ g) : w.ownsRow base e 1 (.slice (some ⟨g, 0, none⟩) 0 0) 0 [] :=
  ⟨rfl, .inr ⟨g, 0, #[], rfl, hb, h, Nat.le_refl _, Nat.zero_le _, rfl, rfl⟩⟩
theorem one_strs (l : List (List UInt8)) : ∀ y ∈ l.map strV, y.oneCell' = true := by
  intro y hy; rw [List.mem_map] at hy; obtain ⟨s, _, rfl⟩ := hy; rfl
theorem one_bools (l : List Bool) : ∀ y ∈ l.map Value.bool, y.oneCell' = true := by
  intro y hy; rw [List.mem_map] at hy; obtain ⟨s, _, rfl⟩ := hy; rfl
theorem one_ints (l : List Int) : ∀ y ∈ l.map (Value.int .i64), y.oneCell' = true := by
  intro y hy; rw [List.mem_map] at hy; obtain ⟨s, _, rfl⟩ := hy; rfl

/-- Append of a list that is read, and not empty, to an empty row without room: a new block, its first cells the list's. -/
theorem step_append_new {ops : Array Oper} {w : World} {o : Oper} {a : Act} {K : Act → World → Prop} {Q : Exit → Act → World → Prop} {E : Prop} (hg : o.guard = none) (s x : Operand) (T e : TypeId)
    (ho : o.op = .call { callee := .builtin .append, args := #[s, x], argTypes := #[T, T] })
    (i0 : TypeInfo) (z : Value) (by' : Nat) (ht : Tryd.prog.underlying T = some (.slice e)) (hi : Tryd.prog.info? e = some i0) (hz0 : i0.zero = some z) (hz1 : i0.size = 1) (hz2 : i0.bytes = by') (hby : by' ≤ 1000)
    (b : Addr) (u : Value) (vs : List Value) (hs : a.eval s = .slice (some b) 0 0) (hx : a.eval x = u) (hu : Rd w u vs) (hpos : 0 < vs.length) (hn : vs.length ≤ 1000)
    (h : ∀ (cs : Array Value) (cap : Nat), vs.length ≤ cap → cs.toList.take vs.length = vs → K (a.put o.dst (.slice (some ⟨w.heap.size, 0, none⟩) vs.length cap)) (w.drew.alloc (.cells cs e))) :
    if Region.wanted o (yielded ops a.tmps) = true then Oper.wp Tryd.prog o a w K Q else E := by
  have hw : Region.wanted o (yielded ops a.tmps) = true := by simp [Region.wanted, hg]
  rw [if_pos hw]
  obtain ⟨p, cap, rfl, hl, h0⟩ := hu
  rcases h0 with h0 | ⟨bl, off, rfl, hc⟩
  · omega
  have hcells : ∀ j y, vs[j]? = some y → w.cell? ((⟨bl, off, none⟩ : Addr).add j) = some y := by
    intro j y hj
    have hadd : (⟨bl, off, none⟩ : Addr).add j = ⟨bl, off + j, none⟩ := by unfold Addr.add; split <;> simp_all
    obtain ⟨hj1, hj2⟩ := List.getElem?_eq_some_iff.1 hj
    rw [hadd, hc j hj1, hj2]
  have hbb : (0 + vs.length) * i0.bytes ≤ 140737488355328 := by
    rw [Nat.zero_add, hz2]; exact Nat.le_trans (Nat.mul_le_mul hn hby) (by decide)
  have hr := run_append_grow (P := Tryd.prog) w T o.type e i0 z ht hi hz0 b 0 0 [] (by simp) (by simp) ⟨bl, off, none⟩ vs.length cap vs (by rw [hz1]; simp) hcells (by omega) (by omega) (growslice_fits (by omega) hbb)
  have hge := grownCap_ge w (0 + vs.length) 0 e
  refine Lib.wp_append_run w s x _ _ ho _ _ hs hx _ _ hr ?_
  have := h (([] : List Value).toArray ++ vs.toArray ++ Builtin.zeroCells z.cells (grownCap w (0 + vs.length) 0 e - (0 + vs.length))) (grownCap w (0 + vs.length) 0 e) (by omega) (by simp)
  rw [Nat.zero_add] at this ⊢
  exact this
end Go.Proofs.YtfhnigpjmljhbaaDoor.Or
