/- Append of one element to a row of one's own: the row stays where it is, or lies in a new block. -/
import Derived.Test.YtfhnigpjmljhbaaDoorOrPc
set_option linter.unusedVariables false
set_option linter.unusedSimpArgs false
namespace Go.Proofs.YtfhnigpjmljhbaaDoor.Or
open Go.RowKit Go.Shelf

theorem run_append_one {P : Program} (w : World) (base : Nat) (t ty e : TypeId) (i : TypeInfo) (z : Value) (bytes : Nat) (ht : P.underlying t = some (.slice e)) (hi : P.info? e = some i) (hz : i.zero = some z) (hsize : i.size = 1) (hby : i.bytes = bytes) (hzs : z.cells.size = 1)
    (v : Value) (n : Nat) (xs : List Value) (hown : w.ownsRow base e 1 v n xs) (k : Nat) (y : Value) (hy : w.cell? ⟨k, 0, none⟩ = some y) (h1 : y.oneCell' = true) (h63 : n + 1 ≤ maxLen) (hbytes : (n + 1) * bytes ≤ 140737488355328) (hbase : base ≤ w.heap.size) :
    ∃ v' w', (Builtin.append_ #[t, t] ty #[v, .slice (some ⟨k, 0, none⟩) 1 1]).run P w = .ok v' w' ∧ w'.ownsRow base e 1 v' (n + 1) (xs ++ [y]) ∧ w.grownBy w' v.ownBlock ∧ (v'.ownBlock = v.ownBlock ∨ v'.ownBlock = some w.heap.size) := by
  have hnews : ∀ j u, [y][j]? = some u → w.cell? ((⟨k, 0, none⟩ : Addr).add j) = some u := fun j u hj => by
    match j, hj with
    | 0, hj => simp at hj; subst hj; simpa [Addr.add] using hy
  have hone : ∀ u ∈ [y], u.oneCell' = true := fun u hu => by simp at hu; subst hu; exact h1
  obtain ⟨v', w', hr, h2, h3, _⟩ := run_append_own (P := P) w base t ty e i z 1 bytes ht hi hz hsize hby hzs (by decide) v n xs hown ⟨k, 0, none⟩ 1 1 [y] rfl hnews hone h63 hbytes hbase
  refine ⟨v', w', hr, h2, h3, ?_⟩
  have hm : n + 1 ≤ 9223372036854775807 := by simp only [maxLen] at h63; omega
  rcases hown.2 with ⟨rfl, rfl⟩ | ⟨g, cap, cur, rfl, hbg, hg, hnc, hcm, hcs, htake⟩
  · have hr2 := run_append_nil (P := P) w t ty e i z ht hi hz ⟨k, 0, none⟩ 1 1 [y] (by simp [hsize]) hnews (by omega) (by omega) (by rw [hby]; omega)
    rw [hr2] at hr
    injection hr with hr _
    subst hr
    exact .inr rfl
  · by_cases hroom : n + 1 ≤ cap
    · have hr2 := run_append_room (P := P) w t ty e i ht hi g n cap cur hg ⟨k, 0, none⟩ 1 1 [y] (by simp [hsize]) hnews hone hroom (by rw [hsize, hcs]; simp; omega)
      rw [hr2] at hr
      injection hr with hr _
      subst hr
      exact .inl rfl
    · have hr2 := run_append_grow (P := P) w t ty e i z ht hi hz ⟨g, 0, none⟩ n cap xs (by rw [hsize]; exact hown.1) (hown.cells (g := g) rfl) ⟨k, 0, none⟩ 1 1 [y] (by simp [hsize]) hnews (by omega) (by omega) (by rw [hby]; exact growslice_fits (by omega) hbytes)
      rw [hr2] at hr
      injection hr with hr _
      subst hr
      exact .inr rfl
theorem step_append_one {ops : Array Oper} {w : World} {o : Oper} {a : Act} {K : Act → World → Prop} {Q : Exit → Act → World → Prop} {E : Prop} (hg : o.guard = none) (s x : Operand) (T e : TypeId)
    (ho : o.op = .call { callee := .builtin .append, args := #[s, x], argTypes := #[T, T] })
    (i0 : TypeInfo) (z : Value) (by' : Nat) (ht : Tryd.prog.underlying T = some (.slice e)) (hi : Tryd.prog.info? e = some i0) (hz0 : i0.zero = some z) (hz1 : i0.size = 1) (hz2 : i0.bytes = by') (hzs : z.cells.size = 1) (hby : by' ≤ 1000)
    (base : Nat) (v : Value) (n : Nat) (xs : List Value) (hs : a.eval s = v) (hown : w.ownsRow base e 1 v n xs) (k : Nat) (y : Value) (hx : a.eval x = .slice (some ⟨k, 0, none⟩) 1 1) (hy : w.cell? ⟨k, 0, none⟩ = some y) (hone : y.oneCell' = true) (hn : n + 1 ≤ 1000) (hbase : base ≤ w.heap.size)
    (h : ∀ p c w', w'.ownsRow base e 1 (.slice p (n + 1) c) (n + 1) (xs ++ [y]) → w.grownBy w' v.ownBlock → ((Value.slice p (n + 1) c).ownBlock = v.ownBlock ∨ (Value.slice p (n + 1) c).ownBlock = some w.heap.size) → K (a.put o.dst (.slice p (n + 1) c)) w') :
    if Region.wanted o (yielded ops a.tmps) = true then Oper.wp Tryd.prog o a w K Q else E := by
  have hw : Region.wanted o (yielded ops a.tmps) = true := by simp [Region.wanted, hg]
  rw [if_pos hw]
  obtain ⟨v', w', hr, h2, h3, h4⟩ := run_append_one (P := Tryd.prog) w base T o.type e i0 z by' ht hi hz0 hz1 hz2 hzs v n xs hown k y hy hone (by unfold maxLen; omega) (Nat.le_trans (Nat.mul_le_mul hn hby) (by decide)) hbase
  obtain ⟨p, c, rfl⟩ := ownsRow_slice h2
  unfold Oper.wp execOp
  simp only [ho, resolve, invoke, builtin, Sem.run_bind, Sem.run_pure, Result.andThen_ok, List.map_toArray, List.map_cons, List.map_nil, hs, hx, hr]
  exact h p c w' h2 h3 h4
theorem wpList_append_one {w : World} {ops : Array Oper} {rest : List Oper} {o : Oper} {a : Act} {Q : Exit → Act → World → Prop} (hg : o.guard = none) (s x : Operand) (T e : TypeId)
    (ho : o.op = .call { callee := .builtin .append, args := #[s, x], argTypes := #[T, T] })
    (i0 : TypeInfo) (z : Value) (by' : Nat) (ht : Tryd.prog.underlying T = some (.slice e)) (hi : Tryd.prog.info? e = some i0) (hz0 : i0.zero = some z) (hz1 : i0.size = 1) (hz2 : i0.bytes = by') (hzs : z.cells.size = 1) (hby : by' ≤ 1000)
    (base : Nat) (v : Value) (n : Nat) (xs : List Value) (hs : a.eval s = v) (hown : w.ownsRow base e 1 v n xs) (k : Nat) (y : Value) (hx : a.eval x = .slice (some ⟨k, 0, none⟩) 1 1) (hy : w.cell? ⟨k, 0, none⟩ = some y) (hone : y.oneCell' = true) (hn : n + 1 ≤ 1000) (hbase : base ≤ w.heap.size)
    (h : ∀ p c w', w'.ownsRow base e 1 (.slice p (n + 1) c) (n + 1) (xs ++ [y]) → w.grownBy w' v.ownBlock → ((Value.slice p (n + 1) c).ownBlock = v.ownBlock ∨ (Value.slice p (n + 1) c).ownBlock = some w.heap.size) → wpList Tryd.prog ops Q rest (a.put o.dst (.slice p (n + 1) c)) w') :
    wpList Tryd.prog ops Q (o :: rest) a w := by
  refine wpList_plain hg fun K' hK' => ?_
  obtain ⟨v', w', hr, h2, h3, h4⟩ := run_append_one (P := Tryd.prog) w base T o.type e i0 z by' ht hi hz0 hz1 hz2 hzs v n xs hown k y hy hone (by unfold maxLen; omega) (Nat.le_trans (Nat.mul_le_mul hn hby) (by decide)) hbase
  obtain ⟨p, c, rfl⟩ := ownsRow_slice h2
  unfold Oper.wp execOp
  simp only [ho, resolve, invoke, builtin, Sem.run_bind, Sem.run_pure, Result.andThen_ok, List.map_toArray, List.map_cons, List.map_nil, hs, hx, hr]
  exact hK' _ _ (h p c w' h2 h3 h4)

/-- An element of a table as it is read: its name, whether it is wrong, the names above it. -/
abbrev El := List UInt8 × Bool × List (List UInt8)
def elemF (r : List UInt8) : El × List UInt8 := ((wordF r, prefB [33] (leftF r), (aboveF (cutF [33] (leftF r))).1), (aboveF (cutF [33] (leftF r))).2)
def elemsF : Nat → List UInt8 → List El × List UInt8
  | 0, r => ([], r)
  | f + 1, r => if prefB [59, 32] (elemF r).2 then ((elemF r).1 :: (elemsF f (cutF [59, 32] (elemF r).2)).1, (elemsF f (cutF [59, 32] (elemF r).2)).2) else ([(elemF r).1], (elemF r).2)
theorem wordF_len (r : List UInt8) : (wordF r).length ≤ r.length := by unfold wordF; rw [List.length_take]; omega
theorem namesF_len : ∀ (f : Nat) (r : List UInt8), 2 * (namesF f r).1.length + (namesF f r).2.length ≤ r.length + 2 ∧ ∀ x ∈ (namesF f r).1, x.length ≤ r.length
  | 0, r => by simp [namesF]
  | f + 1, r => by
    have h1 := leftF_len r
    have h2 := wordF_len r
    unfold namesF
    cases hp : prefB [44, 32] (leftF r) with
    | true =>
      have h3 := cutF_less hp
      have ih := namesF_len f (cutF [44, 32] (leftF r))
      simp only [if_true, List.length_cons] at h3 ⊢
      refine ⟨by simp at h3; omega, fun x hx => ?_⟩
      rcases List.mem_cons.1 hx with e | e
      · subst e; exact h2
      · have := ih.2 x e; simp at h3; omega
    | false =>
      simp only [Bool.false_eq_true, if_false, List.length_cons, List.length_nil]
      refine ⟨by omega, fun x hx => ?_⟩
      have : x = wordF r := by simpa using hx
      subst this; exact h2
theorem aboveF_len (r : List UInt8) : 2 * (aboveF r).1.length + (aboveF r).2.length ≤ r.length ∧ ∀ x ∈ (aboveF r).1, x.length ≤ r.length := by
  unfold aboveF
  cases hp : prefB [58, 32] r with
  | true =>
    have h3 := cutF_less hp
    have ih := namesF_len (r.length + 1) (cutF [58, 32] r)
    simp only [if_true]
    refine ⟨by simp at h3; omega, fun x hx => ?_⟩
    have := ih.2 x hx; omega
  | false => simp
theorem elemF_len (r : List UInt8) : (elemF r).2.length ≤ r.length ∧ (elemF r).1.1.length ≤ r.length ∧ (elemF r).1.2.2.length ≤ r.length ∧ ∀ x ∈ (elemF r).1.2.2, x.length ≤ r.length := by
  have h1 := leftF_len r
  have h2 := wordF_len r
  have h3 := cutF_len [33] (leftF r)
  have h4 := aboveF_len (cutF [33] (leftF r))
  unfold elemF
  exact ⟨by simp only; omega, h2, by simp only; omega, fun x hx => by have := h4.2 x hx; omega⟩
theorem elemsF_len : ∀ (f : Nat) (r : List UInt8), 2 * (elemsF f r).1.length + (elemsF f r).2.length ≤ r.length + 2 ∧ ∀ e ∈ (elemsF f r).1, e.1.length ≤ r.length ∧ e.2.2.length ≤ r.length ∧ ∀ x ∈ e.2.2, x.length ≤ r.length
  | 0, r => by simp [elemsF]
  | f + 1, r => by
    obtain ⟨h1, h2, h3, h4⟩ := elemF_len r
    unfold elemsF
    cases hp : prefB [59, 32] (elemF r).2 with
    | true =>
      have h5 := cutF_less hp
      have ih := elemsF_len f (cutF [59, 32] (elemF r).2)
      simp only [if_true, List.length_cons] at h5 ⊢
      refine ⟨by simp at h5; omega, fun x hx => ?_⟩
      rcases List.mem_cons.1 hx with e | e
      · subst e; exact ⟨h2, h3, h4⟩
      · have := ih.2 x e
        refine ⟨by omega, by omega, fun z hz => ?_⟩
        have := this.2.2 z hz; omega
    | false =>
      simp only [Bool.false_eq_true, if_false, List.length_cons, List.length_nil]
      refine ⟨by omega, fun x hx => ?_⟩
      have : x = (elemF r).1 := by simpa using hx
      subst this; exact ⟨h2, h3, h4⟩
end Go.Proofs.YtfhnigpjmljhbaaDoor.Or
