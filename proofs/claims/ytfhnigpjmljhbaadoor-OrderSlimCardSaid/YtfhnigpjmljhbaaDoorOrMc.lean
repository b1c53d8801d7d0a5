/- A table one of whose rows is laid anew in its own row of rows; append that shows the slice it makes. -/
import Derived.Test.YtfhnigpjmljhbaaDoorOrMb
set_option linter.unusedVariables false
set_option linter.unusedSimpArgs false
namespace Go.Proofs.YtfhnigpjmljhbaaDoor.Or
open Go.RowKit Go.Shelf

theorem step_append_vis {ops : Array Oper} {w : World} {o : Oper} {a : Act} {K : Act → World → Prop} {Q : Exit → Act → World → Prop} {E : Prop} (hg : o.guard = none) (s x : Operand) (T e : TypeId)
    (ho : o.op = .call { callee := .builtin .append, args := #[s, x], argTypes := #[T, T] })
    (i0 : TypeInfo) (z : Value) (by' : Nat) (ht : Tryd.prog.underlying T = some (.slice e)) (hi : Tryd.prog.info? e = some i0) (hz0 : i0.zero = some z) (hz1 : i0.size = 1) (hz2 : i0.bytes = by') (hzs : z.cells.size = 1) (hby : by' ≤ 1000)
    (base : Nat) (v u : Value) (n : Nat) (xs vs : List Value) (hs : a.eval s = v) (hown : w.ownsRow base e 1 v n xs) (hx : a.eval x = u) (hu : Rd w u vs) (hone : ∀ y ∈ vs, y.oneCell' = true) (hn : n + vs.length ≤ 1000) (hbase : base ≤ w.heap.size)
    (h : ∀ p c w', w'.ownsRow base e 1 (.slice p (n + vs.length) c) (n + vs.length) (xs ++ vs) → w.grownBy w' v.ownBlock → K (a.put o.dst (.slice p (n + vs.length) c)) w') :
    if Region.wanted o (yielded ops a.tmps) = true then Oper.wp Tryd.prog o a w K Q else E :=
  step_append_rd hg s x T e ho i0 z by' ht hi hz0 hz1 hz2 hzs hby base v u n xs vs hs hown hx hu hone hn hbase fun v' w' h1 h2 => by
    obtain ⟨p, c, rfl⟩ := ownsRow_slice h1
    exact h p c w' h1 h2
theorem step_append_first {ops : Array Oper} {w : World} {o : Oper} {a : Act} {K : Act → World → Prop} {Q : Exit → Act → World → Prop} {E : Prop} (hg : o.guard = none) (s x : Operand) (T e : TypeId)
    (ho : o.op = .call { callee := .builtin .append, args := #[s, x], argTypes := #[T, T] })
    (i0 : TypeInfo) (z : Value) (by' : Nat) (ht : Tryd.prog.underlying T = some (.slice e)) (hi : Tryd.prog.info? e = some i0) (hz0 : i0.zero = some z) (hz1 : i0.size = 1) (hz2 : i0.bytes = by') (hzs : z.cells.size = 1) (hby : by' ≤ 1000)
    (base g : Nat) (u : Value) (vs : List Value) (hs : a.eval s = .slice (some ⟨g, 0, none⟩) 0 0) (hg2 : w.heap[g]? = some (.cells #[] e (0, 0))) (hbg : base ≤ g) (hx : a.eval x = u) (hu : Rd w u vs) (hone : ∀ y ∈ vs, y.oneCell' = true) (hn : vs.length ≤ 1000) (hbase : base ≤ w.heap.size)
    (h : ∀ p c w', w'.ownsRow base e 1 (.slice p vs.length c) vs.length vs → w.grownBy w' (some g) → K (a.put o.dst (.slice p vs.length c)) w') :
    if Region.wanted o (yielded ops a.tmps) = true then Oper.wp Tryd.prog o a w K Q else E :=
  step_append_rd hg s x T e ho i0 z by' ht hi hz0 hz1 hz2 hzs hby base _ u 0 [] vs hs (owns_empty hg2 hbg) hx hu hone (by omega) hbase fun v' w' h1 h2 => by
    rw [Nat.zero_add] at h1
    obtain ⟨p, c, rfl⟩ := ownsRow_slice h1
    exact h p c w' h1 h2
theorem own_base {w : World} {base n m : Nat} {e : TypeId} {p : Option Addr} {c : Nat} {xs : List Value} (h : w.ownsRow base e 1 (.slice p n c) m xs) (k : Nat) (hk : (Value.slice p n c).ownBlock = some k) : base ≤ k := by
  rcases h.2 with ⟨h1, _⟩ | ⟨g, cap, cur, h1, hb, _⟩
  · rw [h1] at hk; cases hk
  · rw [h1] at hk; simp only [Value.ownBlock, Option.some.injEq] at hk; omega
theorem rd_drop {w : World} {b off n cap : Nat} {vs : List Value} (h : Rd w (.slice (some ⟨b, off, none⟩) n cap) vs) {k : Nat} (hk : k ≤ n) : Rd w (.slice (some ⟨b, off + k, none⟩) (n - k) (cap - k)) (vs.drop k) := by
  obtain ⟨p', cap', he, hl, h0⟩ := h
  simp only [Value.slice.injEq] at he
  obtain ⟨rfl, rfl, rfl⟩ := he
  have hlen : (vs.drop k).length = vs.length - k := List.length_drop
  refine ⟨_, cap - k, by rw [hlen], by rw [hlen]; omega, ?_⟩
  rcases h0 with h0 | ⟨b', off', e, hc⟩
  · exact .inl (by omega)
  · simp only [Option.some.injEq, Addr.mk.injEq] at e
    obtain ⟨rfl, rfl, _⟩ := e
    refine .inr ⟨b, off + k, rfl, fun i hi => ?_⟩
    rw [List.getElem_drop, Nat.add_assoc]
    exact hc (k + i) (by omega)
theorem rd_dropIf {w : World} {b off n cap : Nat} {vs : List Value} (h : Rd w (.slice (some ⟨b, off, none⟩) n cap) vs) {k : Nat} (hk : k ≤ n) : Rd w (.slice (if cap = k then some ⟨b, off, none⟩ else some ⟨b, off + k, none⟩) (n - k) (cap - k)) (vs.drop k) := by
  by_cases e : cap = k
  · rw [if_pos e]
    have h1 := Rd.capE h
    have hlen : (vs.drop k).length = n - k := by rw [List.length_drop, h1.1]
    exact ⟨_, cap - k, by rw [hlen], by rw [hlen]; omega, .inl (by rw [hlen]; omega)⟩
  · rw [if_neg e]; exact rd_drop h hk
theorem rd_set {V : World} {v x y : Value} {vs : List Value} {g a : Nat} (h : Rd V v vs) (hc : V.cell? ⟨g, a, none⟩ = some y) (hne : ∀ z ∈ vs, z ≠ y) : Rd (V.setCell ⟨g, a, none⟩ x) v vs := by
  obtain ⟨p, cap, e, hl, h0⟩ := h
  refine ⟨p, cap, e, hl, ?_⟩
  rcases h0 with h0 | ⟨b, off, rfl, hcs⟩
  · exact .inl h0
  · refine .inr ⟨b, off, rfl, fun i hi => ?_⟩
    have h1 := hcs i hi
    have hn : (⟨g, a, none⟩ : Addr) ≠ ⟨b, off + i, none⟩ := fun e2 => by
      rw [← e2, hc] at h1
      injection h1 with h1
      exact hne _ (List.getElem_mem hi) h1.symm
    rw [World.cell?_setCell_other (h := hn)]; exact h1
theorem rdI_set {V : World} {v x : Value} {l : List Int} {g a n c : Nat} {p : Option Addr} (h : RdI V v l) (hc : V.cell? ⟨g, a, none⟩ = some (.slice p n c)) : RdI (V.setCell ⟨g, a, none⟩ x) v l :=
  rd_set h hc fun z hz => by
    obtain ⟨y, _, rfl⟩ := List.mem_map.1 hz
    intro e; cases e
/-- A table of whose rows one is laid anew. -/
theorem tab_cut {V : World} {s : Tab} {g a i cap n c : Nat} {p : Option Addr} {ve vw x : Value} (hT : TabIn V ve (.slice (some ⟨g, 0, none⟩) s.above.length cap) vw s) (ha : a < s.above.length)
    (hc : V.cell? ⟨g, a, none⟩ = some (.slice p n c)) (hx : RdI (V.setCell ⟨g, a, none⟩ x) x (cutL (s.above.getD a []) i)) :
    TabIn (V.setCell ⟨g, a, none⟩ x) ve (.slice (some ⟨g, 0, none⟩) s.above.length cap) vw (cutT s a i) := by
  refine ⟨rd_set hT.e hc (fun z hz => ?_), ?_, rd_set hT.w hc (fun z hz => ?_)⟩
  · obtain ⟨y, _, rfl⟩ := List.mem_map.1 hz
    intro e; cases e
  · obtain ⟨vs, h1, h2, h3⟩ := hT.a
    have hlen : (vs.set a x).length = vs.length := List.length_set
    obtain ⟨p', cap', e1, hl, h0⟩ := h1
    simp only [Value.slice.injEq] at e1
    obtain ⟨rfl, e1, rfl⟩ := e1
    have hcs : ∀ j (h : j < vs.length), V.cell? ⟨g, j, none⟩ = some vs[j] := fun j hj => by
      rcases h0 with h0 | ⟨b, off, e, hcs⟩
      · omega
      · simp only [Option.some.injEq, Addr.mk.injEq] at e
        obtain ⟨rfl, rfl, _⟩ := e
        have := hcs j hj
        rwa [Nat.zero_add] at this
    refine ⟨vs.set a x, ⟨_, cap, by rw [hlen, h2], by rw [hlen]; exact hl, .inr ⟨g, 0, rfl, fun j hj => ?_⟩⟩, by rw [hlen, h2]; exact (cut_len_tab s a i).2.1.symm, fun j hj hj' => ?_⟩
    · rw [Nat.zero_add]
      rw [hlen] at hj
      by_cases e : j = a
      · subst e
        rw [List.getElem_set_self]
        exact World.cell?_setCell_same (v := x) (h := hc)
      · rw [List.getElem_set_ne (fun e2 => e e2.symm)]
        rw [World.cell?_setCell_other (h := (fun e2 => by simp only [Addr.mk.injEq] at e2; exact e e2.2.1.symm : (⟨g, a, none⟩ : Addr) ≠ ⟨g, j, none⟩))]
        exact hcs j hj
    · rw [hlen] at hj'
      have hg : (cutT s a i).above[j] = (cutT s a i).above.getD j [] := by simp [List.getD_eq_getElem?_getD, hj]
      rw [hg, cut_rows ha]
      by_cases e : j = a
      · subst e
        rw [if_pos rfl, List.getElem_set_self]
        exact hx
      · rw [if_neg e, List.getElem_set_ne (fun e2 => e e2.symm)]
        have hj2 : j < s.above.length := by omega
        have := h3 j hj2 hj'
        have hg2 : s.above.getD j [] = s.above[j] := by simp [List.getD_eq_getElem?_getD, hj2]
        rw [hg2]
        exact rdI_set this hc
  · obtain ⟨y, _, rfl⟩ := List.mem_map.1 hz
    intro e; cases e
theorem tab_cut' {V : World} {s : Tab} {g a i cap n m c : Nat} {p : Option Addr} {ve vw x : Value} (hm : s.above.length = m) (hT : TabIn V ve (.slice (some ⟨g, 0, none⟩) m cap) vw s) (ha : a < m)
    (hc : V.cell? ⟨g, a, none⟩ = some (.slice p n c)) (hx : RdI (V.setCell ⟨g, a, none⟩ x) x (cutL (s.above.getD a []) i)) :
    TabIn (V.setCell ⟨g, a, none⟩ x) ve (.slice (some ⟨g, 0, none⟩) m cap) vw (cutT s a i) := by
  subst hm
  exact tab_cut hT ha hc hx
theorem cut_rd {V : World} {g a i c base k : Nat} {p : Option Addr} {row : List Int} {L1 L2 : List Value} {cs : Array Value} {fr : Nat × Nat} {T : TypeId} (h1 : L1 = (row.map (Value.int .i64)).take i) (h2 : L2 = (row.map (Value.int .i64)).drop (i + 1))
    (ho : V.ownsRow base 3 1 (.slice p k c) k (L1 ++ L2)) (hg : V.heap[g]? = some (.cells cs T fr)) (hne : 3 ≠ T) (hl : k ≤ 1000) (y : Value) : RdI (V.setCell ⟨g, a, none⟩ y) (.slice p k c) (cutL row i) := by
  have e : (cutL row i).map (Value.int .i64) = L1 ++ L2 := by rw [h1, h2]; unfold cutL; rw [List.map_append, List.map_take, List.map_drop]
  have hk : (L1 ++ L2).length = k := by have := ho.1; omega
  show Rd _ _ _
  rw [e]
  rw [← hk] at ho
  have := rd_own (ownsRow_set (x := y) (i := a) ho hg hne) (by omega)
  rwa [hk] at this
end Go.Proofs.YtfhnigpjmljhbaaDoor.Or
