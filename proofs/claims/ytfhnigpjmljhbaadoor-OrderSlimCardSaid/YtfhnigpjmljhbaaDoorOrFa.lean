/- A queue in memory: a slice of numbers that loses its first and gets new last ones; a row of marks. -/
import Derived.Test.YtfhnigpjmljhbaaDoorOrDb
import Derived.Deep.OwnRows
set_option linter.unusedVariables false
set_option linter.unusedSimpArgs false
namespace Go.Proofs.YtfhnigpjmljhbaaDoor.Or
open Go.RowKit Go.Shelf

def intsV (l : List Nat) : List Value := l.map fun x : Nat => Value.int .i64 (x : Int)
theorem intsV_len (l : List Nat) : (intsV l).length = l.length := by simp [intsV]
/-- A slice of numbers somewhere in a block of one's own, whose room lies in the block. -/
def TailRow (w : World) (base : Nat) (v : Value) (xs : List Nat) : Prop :=
  ∃ g off cap cs, v = .slice (some ⟨g, off, none⟩) xs.length cap ∧ base ≤ g ∧ w.heap[g]? = some (.cells cs 3 (0, 0)) ∧ off + cap ≤ cs.size ∧ xs.length ≤ cap ∧ ∀ j, j < xs.length → cs[off + j]? = some (.int .i64 ((xs.getD j 0 : Nat) : Int))
theorem TailRow.block {w w' : World} {base : Nat} {v : Value} {xs : List Nat} (h : TailRow w base v xs) (hb : ∀ k, base ≤ k → k < w.heap.size → w'.heap[k]? = w.heap[k]?) : TailRow w' base v xs := by
  obtain ⟨g, off, cap, cs, h1, h2, h3, h4⟩ := h
  exact ⟨g, off, cap, cs, h1, h2, (hb g h2 (heap_lt h3)).trans h3, h4⟩
theorem TailRow.cell {w : World} {base : Nat} {v : Value} {xs : List Nat} (h : TailRow w base v xs) : ∃ g off cap, v = .slice (some ⟨g, off, none⟩) xs.length cap ∧ base ≤ g ∧ xs.length ≤ cap ∧ ∀ j, j < xs.length → w.cell? ⟨g, off + j, none⟩ = some (.int .i64 ((xs.getD j 0 : Nat) : Int)) := by
  obtain ⟨g, off, cap, cs, h1, h2, h3, h4, h5, h6⟩ := h
  exact ⟨g, off, cap, h1, h2, h5, fun j hj => by rw [Go.Joins.cell_of_block h3]; exact h6 j hj⟩
theorem TailRow.tail {w : World} {base g off n cap x : Nat} {xs : List Nat} (h : TailRow w base (.slice (some ⟨g, off, none⟩) n cap) (x :: xs)) : TailRow w base (.slice (some ⟨g, off + 1, none⟩) (n - 1) (cap - 1)) xs := by
  obtain ⟨g', off', cap', cs, h1, h2, h3, h4, h5, h6⟩ := h
  simp only [Value.slice.injEq, Option.some.injEq, Addr.mk.injEq] at h1
  obtain ⟨⟨rfl, rfl, _⟩, rfl, rfl⟩ := h1
  simp only [List.length_cons] at h4 h5 h6 ⊢
  refine ⟨g, off + 1, cap - 1, cs, by rw [Nat.add_sub_cancel], h2, h3, by omega, by omega, fun j hj => ?_⟩
  have := h6 (j + 1) (by omega)
  rw [show off + 1 + j = off + (j + 1) by omega, this]
  simp
theorem tail_new {w : World} {b base x : Nat} (h : w.heap[b]? = some (.cells #[.int .i64 (x : Int)] 3 (0, 0))) (hb : base ≤ b) : TailRow w base (.slice (some ⟨b, 0, none⟩) 1 1) [x] :=
  ⟨b, 0, 1, _, rfl, hb, h, Nat.le_refl _, Nat.le_refl _, fun j hj => by
    have : j = 0 := by simpa using hj
    subst this; rfl⟩
theorem wpList_append_tail {w : World} {ops : Array Oper} {rest : List Oper} {o : Oper} {a : Act} {Q : Exit → Act → World → Prop} (hgd : o.guard = none) (s x : Operand)
    (ho : o.op = .call { callee := .builtin .append, args := #[s, x], argTypes := #[35, 35] })
    (i0 : TypeInfo) (hi : Tryd.prog.info? 3 = some i0) (hz0 : i0.zero = some (.int .i64 0)) (hz1 : i0.size = 1) (hz2 : i0.bytes = 8)
    (base : Nat) (v : Value) (xs : List Nat) (nb y : Nat) (hs : a.eval s = v) (hrow : TailRow w base v xs) (hx : a.eval x = .slice (some ⟨nb, 0, none⟩) 1 1) (hnb : w.cell? ⟨nb, 0, none⟩ = some (.int .i64 (y : Int))) (hn : xs.length ≤ 1000) (hbase : base ≤ w.heap.size)
    (h : ∀ v' w', TailRow w' base v' (xs ++ [y]) → Below base w w' → wpList Tryd.prog ops Q rest (a.put o.dst v') w') : wpList Tryd.prog ops Q (o :: rest) a w := by
  refine wpList_plain hgd fun K hK' => ?_
  obtain ⟨g, off, cap, cs, rfl, hg, hgg, hcs, hcap, hel⟩ := hrow
  have hnews : ∀ j (u : Value), ([Value.int .i64 (y : Int)] : List Value)[j]? = some u → w.cell? ((⟨nb, 0, none⟩ : Addr).add j) = some u := by
    intro j u hj
    match j, hj with
    | 0, hj => simp at hj; subst hj; simpa [Addr.add] using hnb
  by_cases hroom : xs.length + 1 ≤ cap
  · have hr := run_append_room_cells (P := Tryd.prog) w 35 o.type 3 i0 Tryd.underlying35 hi g off xs.length cap ⟨nb, 0, none⟩ 1 1 [.int .i64 (y : Int)] (by rw [hz1]; rfl) hnews (by simp [Value.oneCell']) hroom
      (fun j hj => by
        have hj0 : j = 0 := by simpa using hj
        subst hj0
        rw [hz1, Nat.mul_one, Nat.add_zero, Go.Joins.cell_of_block hgg]
        have : off + xs.length < cs.size := by omega
        simp [this])
      (fun j hj => by rw [Go.Joins.unfrozen_of_block hgg])
    rw [hz1, Nat.mul_one] at hr
    refine Lib.wp_append_run w s x _ _ ho _ _ hs hx _ _ hr (hK' _ _ (h _ _ ?_ ?_))
    · refine ⟨g, off, cap, cs.setIfInBounds (off + xs.length) (.int .i64 (y : Int)), by simp, hg, setCell_heap hgg, by simpa using hcs, by simpa using hroom, fun j hj => ?_⟩
      rw [Array.getElem?_setIfInBounds]
      simp only [List.length_append, List.length_cons, List.length_nil] at hj
      by_cases hj2 : j = xs.length
      · subst hj2
        have : off + xs.length < cs.size := by omega
        simp [this]
      · rw [if_neg (by omega), hel j (by omega)]
        simp [List.getD_eq_getElem?_getD, List.getElem?_append_left (show j < xs.length by omega)]
    · exact Below.setCell (Below.refl _ _) hg _
  · have hfull : cap = xs.length := by omega
    subst hfull
    have holds : ∀ j (u : Value), (intsV xs)[j]? = some u → w.cell? ((⟨g, off, none⟩ : Addr).add j) = some u := by
      intro j u hj
      have hjl : j < xs.length := by
        have := (List.getElem?_eq_some_iff.1 hj).1; rwa [intsV_len] at this
      have hadd : (⟨g, off, none⟩ : Addr).add j = ⟨g, off + j, none⟩ := by unfold Addr.add; split <;> simp_all
      rw [hadd, Go.Joins.cell_of_block hgg, hel j hjl]
      simp only [intsV, List.getElem?_map] at hj
      rw [← hj]
      simp [List.getD_eq_getElem?_getD, hjl]
    have hbb : (xs.length + 1) * i0.bytes ≤ 140737488355328 := by rw [hz2]; omega
    have hr := run_append_grow (P := Tryd.prog) w 35 o.type 3 i0 (.int .i64 0) Tryd.underlying35 hi hz0 ⟨g, off, none⟩ xs.length xs.length (intsV xs) (by rw [hz1, intsV_len]; omega) holds ⟨nb, 0, none⟩ 1 1 [.int .i64 (y : Int)] (by rw [hz1]; rfl) hnews (by omega) (by omega) (growslice_fits (by omega) hbb)
    have hge := grownCap_ge w (xs.length + 1) xs.length 3
    refine Lib.wp_append_run w s x _ _ ho _ _ hs hx _ _ hr (hK' _ _ (h _ _ ?_ (((Below.refl _ _).drew).alloc hbase _)))
    refine ⟨w.heap.size, 0, grownCap w (xs.length + 1) xs.length 3, _, by simp, hbase, heap_alloc_new w.drew _, ?_, by simpa using hge, fun j hj => ?_⟩
    · have hz : (Value.int IntKind.i64 0).cells.size = 1 := rfl
      simp only [Array.size_append, List.size_toArray, size_zeroCells, hz, intsV_len, List.length_cons, List.length_nil, Nat.mul_one]; omega
    · simp only [List.length_append, List.length_cons, List.length_nil] at hj
      rw [Nat.zero_add, Array.getElem?_append_left (by simp [intsV_len]; omega)]
      simp only [List.append_toArray, List.getElem?_toArray]
      by_cases hj2 : j = xs.length
      · subst hj2
        rw [List.getElem?_append_right (by rw [intsV_len]; omega), intsV_len]
        simp
      · rw [List.getElem?_append_left (by rw [intsV_len]; omega)]
        have hjx : j < xs.length := by omega
        simp [intsV, List.getD_eq_getElem?_getD, List.getElem?_append_left hjx, hjx]

/-- A row of marks. -/
def seenA (n : Nat) (seen : Nat → Bool) : Array Value := ((List.range n).map fun i => Value.bool (seen i)).toArray
theorem seen_made (n : Nat) : madeCells #[.bool false] n = seenA n (fun _ => false) := by
  apply Array.ext'
  simp [madeCells, seenA, Nat.mod_one]
theorem seen_get {n : Nat} {seen : Nat → Bool} {y : Nat} (hy : y < n) : (seenA n seen)[y]? = some (.bool (seen y)) := by simp [seenA, hy]
theorem seen_set {n : Nat} {seen : Nat → Bool} {y : Nat} (hy : y < n) : (seenA n seen).setIfInBounds y (.bool true) = seenA n (fun z => seen z || z == y) := by
  apply Array.ext
  · simp [seenA]
  · intro i h1 h2
    simp only [seenA, Array.size_setIfInBounds, List.size_toArray, List.length_map, List.length_range] at h1 h2
    rw [Array.getElem_setIfInBounds (by simpa [seenA] using h1)]
    by_cases e : y = i
    · subst e; simp [seenA]
    · have : (i == y) = false := by simp; omega
      simp [seenA, e, this]
def unseen (n : Nat) (seen : Nat → Bool) : Nat := ((List.range n).filter fun i => !seen i).length
theorem unseen_less {n : Nat} {seen : Nat → Bool} {y : Nat} (hy : y < n) (hs : seen y = false) : unseen n (fun z => seen z || z == y) + 1 ≤ unseen n seen :=
  filter_less (p := fun i => !(seen i || i == y)) (q := fun i => !seen i) (fun x h => by revert h; cases seen x <;> simp) (z := y) (by simp) (by simp [hs]) (List.mem_range.2 hy)
def marksF : Value → Bool
  | .bool false => true
  | _ => false
def unseenW (s : Nat) (w : World) : Nat := match w.heap[s]? with
  | some (.cells cs _ _) => (cs.toList.filter marksF).length
  | _ => 0
theorem unseenW_of {w : World} {s n : Nat} {seen : Nat → Bool} (h : w.heap[s]? = some (.cells (seenA n seen) 4 (0, 0))) : unseenW s w = unseen n seen := by
  unfold unseenW; rw [h]; simp only [seenA, unseen, List.filter_map, List.length_map]
  congr 1
  refine List.filter_congr fun i _ => ?_
  simp only [Function.comp]; cases seen i <;> rfl
def lenOf : Value → Nat
  | .slice _ n _ => n
  | _ => 0
end Go.Proofs.YtfhnigpjmljhbaaDoor.Or
