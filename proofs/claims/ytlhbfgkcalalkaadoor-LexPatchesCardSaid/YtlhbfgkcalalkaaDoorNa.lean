/- Appending tokens that are read to a row of the call's own. -/
import Derived.Test.YtlhbfgkcalalkaaDoorIa
import Derived.Lib.AppendZerosOnto
import Derived.Lib.SliceRun
set_option linter.unusedVariables false
set_option linter.unusedSimpArgs false
namespace Go.Proofs.YtlhbfgkcalalkaaDoor
open Go.RowKit Go.Shelf Go.Lib

theorem run_append_zero (w : World) (base : Nat) (t ty e : TypeId) (i : TypeInfo) (size : Nat) (P : Program) (ht : P.underlying t = some (.slice e)) (hi : P.info? e = some i)
    (v : Value) (n : Nat) (xs : List Value) (hown : w.ownsRow base e size v n xs) (c : Nat) :
    (Builtin.append_ #[t, t] ty #[v, .slice none 0 c]).run P w = .ok v w := by
  rcases hown.2 with ⟨rfl, rfl⟩ | ⟨g, cap, cur, rfl, _, _, hnc, _⟩
  · simp [Builtin.append_, run_underlying ht, sizeOf, typeInfo, hi, Builtin.lenOf, Builtin.firstCells]
  · simp [Builtin.append_, run_underlying ht, sizeOf, typeInfo, hi, Builtin.lenOf, Builtin.firstCells, hnc, storeCells]

theorem rowCells_one (ls : List Lx) : ∀ u ∈ rowCells ls, u.oneCell' = true := by
  intro u hu
  unfold rowCells at hu
  rw [List.mem_flatMap] at hu
  obtain ⟨x, _, hx⟩ := hu
  exact lxCells_one x u hx
theorem rowCells_app (ls ms : List Lx) : rowCells (ls ++ ms) = rowCells ls ++ rowCells ms := by simp [rowCells]
/-- The cells of tokens, one by one. -/
theorem reads_cells {w : World} {b off : Nat} {ls : List Lx} (hc : ∀ i (h : i < ls.length), w.cell? ⟨b, off + i * 3, none⟩ = some (.int .u8 ls[i].1) ∧ w.cell? ⟨b, off + i * 3 + 1, none⟩ = some (.string (mkS ls[i].2.1)) ∧ w.cell? ⟨b, off + i * 3 + 2, none⟩ = some (.int .i64 ls[i].2.2)) :
    ∀ j u, (rowCells ls)[j]? = some u → w.cell? ⟨b, off + j, none⟩ = some u := by
  intro j u hu
  have hj : j < (rowCells ls).length := by
    rcases Nat.lt_or_ge j (rowCells ls).length with h | h
    · exact h
    · rw [List.getElem?_eq_none h] at hu; cases hu
  rw [rowCells_length] at hj
  obtain ⟨i, r, rfl, hr⟩ : ∃ i r, j = 3 * i + r ∧ r < 3 := ⟨j / 3, j % 3, by omega, by omega⟩
  have hi : i < ls.length := by omega
  obtain ⟨a1, a2, a3⟩ := rowCells_get ls i hi
  obtain ⟨c1, c2, c3⟩ := hc i hi
  rw [show off + (3 * i + r) = off + i * 3 + r by omega]
  match r, hr with
  | 0, _ => rw [Nat.add_zero] at hu ⊢; rw [a1] at hu; cases hu; exact c1
  | 1, _ => rw [a2] at hu; cases hu; exact c2
  | 2, _ => rw [a3] at hu; cases hu; exact c3

theorem wpList_append_reads {w : World} {ops : Array Oper} {rest : List Oper} {o : Oper} {a : Act} {Q : Exit → Act → World → Prop} (hgd : o.guard = none) (s x : Operand)
    (ho : o.op = .call { callee := .builtin .append, args := #[s, x], argTypes := #[22, 22] })
    (base : Nat) (v u : Value) (n : Nat) (xs : List Value) (hs : a.eval s = v) (hown : w.ownsRow base 36 3 v n xs) (hx : a.eval x = u) (ls : List Lx) (hu : ReadsLx w u ls) (hbase : base ≤ w.heap.size) (hn : n + ls.length ≤ 2000)
    (h : ∀ v' w', w'.ownsRow base 36 3 v' (n + ls.length) (xs ++ rowCells ls) → Below base w w' → wpList Tryd.prog ops Q rest (a.put o.dst v') w') : wpList Tryd.prog ops Q (o :: rest) a w := by
  obtain ⟨i0, hi, hz0, hz1, hz2⟩ := info_parts infoL
  obtain ⟨p, cap, rfl, hl, h0⟩ := hu
  have hlt := hown.lt
  cases p with
  | none =>
    have h00 : ls.length = 0 := by
      rcases h0 with h0 | ⟨b, off, hp, _⟩
      · exact h0
      · cases hp
    have hls : ls = [] := List.length_eq_zero_iff.1 h00
    subst hls
    refine Lib.wpList_append_run w hgd s x _ _ ho v (.slice none 0 cap) hs hx v w (run_append_zero w base _ _ _ i0 3 _ Tryd.underlying22 hi v n xs hown cap) (h v w ?_ (Below.refl _ _))
    simpa [rowCells] using hown
  | some ad =>
    have hcells : ∀ j u, (rowCells ls)[j]? = some u → w.cell? (ad.add j) = some u := by
      rcases h0 with h0 | ⟨b, off, hp, hc⟩
      · have hls : ls = [] := List.length_eq_zero_iff.1 h0
        subst hls
        intro j u hj; simp [rowCells] at hj
      · simp only [Option.some.injEq] at hp
        subst hp
        intro j u hj
        have hadd : (⟨b, off, none⟩ : Addr).add j = ⟨b, off + j, none⟩ := by unfold Addr.add; split <;> simp_all
        rw [hadd]; exact reads_cells hc j u hj
    refine wpList_append_own w hgd s x _ ho base 36 i0 _ 3 32 Tryd.underlying22 hi hz0 hz1 hz2 rfl (by decide) v n xs hs hown ad ls.length cap (rowCells ls) hx (rowCells_length ls) hcells (rowCells_one ls) (by unfold maxLen; omega) (by omega) hbase ?_
    intro v' w' h1 h2 _
    exact h v' w' h1 (Below.grown (Below.refl _ _) h2 hbase (fun k hk => (hlt k hk).1))
end Go.Proofs.YtlhbfgkcalalkaaDoor
