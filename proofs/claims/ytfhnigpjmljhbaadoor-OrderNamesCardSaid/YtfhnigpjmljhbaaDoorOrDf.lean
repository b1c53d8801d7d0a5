/- A table as an argument, opened: whatever its lists are, they lie in memory. -/
import Derived.Test.YtfhnigpjmljhbaaDoorOrP1
import Derived.Deep.Slices
import Derived.Deep.Strs
import Derived.WideKeyArgs
import Derived.Lib.SmallJoins
import Derived.OpenShut
import Derived.ChangeArms
set_option linter.unusedVariables false
set_option linter.unusedSimpArgs false
set_option maxRecDepth 100000
namespace Go.Proofs.YtfhnigpjmljhbaaDoor.Or
open Go.ChangeShapes Go.WideShapes Go.ChangeAt Go.RowKit Go.ChangeMaps Go.Deep

section
variable {H : Type} {enc : TypeId × Value → H}

theorem same_below {W W' : World} {B : Nat} (h : Below B W W') {p : MemPlace} (hp : p.block < B) : W.sameAt W' p := by
  have e := h.block p.block hp
  cases p with
  | cell b off => simp only [MemPlace.block] at e; simp [World.sameAt, World.cell?, e]
  | map b => simp only [MemPlace.block] at e; simp [World.sameAt, e]
theorem trodAll_same {P : Program} (hl : laidOutB P = true) {W W' : World} {sp' : Nat → Bool} : ∀ {ts : List TypeId} {vs : List Value} {ds : List (DataW H)} {p : List MemPlace},
    (∀ t ∈ ts, P.readableRec t = true ∧ t < P.types.size) → DataW.TrodAll enc P W 0 (fun _ => true) true ts vs ds p → (∀ q ∈ p, W.sameAt W' q) → (∀ q ∈ p, sp' q.block = true) → DataW.TrodAll enc P W' 0 sp' true ts vs ds p
  | [], _, _, _, _, h, _, _ => by
    obtain ⟨rfl, rfl, rfl⟩ := trodAll_nil h
    exact trodAll_mk0
  | t :: ts, _, _, _, ht, h, h1, h2 => by
    obtain ⟨v, vs1, d, ds1, a, b, rfl, rfl, rfl, k1, k2⟩ := trodAll_cons h
    obtain ⟨r1, r2⟩ := ht t (List.mem_cons_self ..)
    exact trodAll_cons_mk (WideElems.Trod_stays hl r1 r2 k1 (fun q hq => h1 q (List.mem_append_left _ hq)) (fun q hq => h2 q (List.mem_append_left _ hq)))
      (trodAll_same hl (fun u hu => ht u (List.mem_cons_of_mem _ hu)) k2 (fun q hq => h1 q (List.mem_append_right _ hq)) (fun q hq => h2 q (List.mem_append_right _ hq)))
theorem addr_plain {w : World} {a : Addr} {v : Value} (h : w.cell? a = some v) : a = ⟨a.block, a.off, none⟩ := by
  obtain ⟨b, o, s⟩ := a
  cases s with
  | none => rfl
  | some s =>
    simp only [World.cell?] at h
    split at h <;> simp_all

/-- A slice of elements of one cell each that came in: it is read, and its elements are what their type says. -/
theorem open_row {P : Program} {W : World} {base fuel : Nat} {sp : Nat → Bool} {held : Bool} {t e : TypeId} (ht : P.underlying t = some (.slice e)) (hC : P.cellsOf e = 1) {v : Value} {x : DataW H × List MemPlace}
    (hf : DataW.trod enc P W base sp held fuel t [v] = some x) (Ok : Value → Prop) (hok : ∀ n u y, DataW.trod enc P W base sp held n e [u] = some y → Ok u) :
    ∃ vs, Rd W v vs ∧ ∀ u ∈ vs, Ok u := by
  rcases open_slice ht hf with ⟨h1, _⟩ | ⟨a, len, cap, m, n, D, Pl, h1, hb, hl, hm, hmm, hx, hel⟩
  · simp only [List.cons.injEq, and_true] at h1
    subst h1
    exact ⟨[], Rd.nil W, fun u hu => by simp at hu⟩
  · simp only [List.cons.injEq, and_true] at h1
    subst h1
    have hlm : len ≤ m := by rw [hmm]; split <;> omega
    have each : ∀ i, i < len → ∃ u : Value, W.cell? (a.add i) = some u ∧ Ok u := fun i hi => by
      obtain ⟨cs', g1, g2⟩ := hel i (by omega)
      rw [hC, Nat.mul_one] at g1
      obtain ⟨_, hlen, hcell⟩ := World.cells?_some g1
      match cs', hlen with
      | [u], _ =>
        have e0 := hcell 0 (by omega)
        refine ⟨u, ?_, hok _ _ _ g2⟩
        simpa [Addr.add] using e0
    obtain ⟨f, hfx⟩ := choose_lt each
    refine ⟨(List.range len).map f, ⟨some a, cap, by simp, ⟨by simp; unfold maxLen at hm; omega, by simpa using hl⟩, ?_⟩, ?_⟩
    · by_cases h0 : len = 0
      · exact .inl (by simpa using h0)
      · have ha := (hfx 0 (by omega)).1
        have hap : a = ⟨a.block, a.off, none⟩ := addr_plain (v := f 0) (by simpa [Addr.add] using ha)
        obtain ⟨b, off, s⟩ := a
        simp only [Addr.mk.injEq, true_and] at hap
        subst hap
        refine .inr ⟨b, off, rfl, fun i hi => ?_⟩
        have hi' : i < len := by simpa using hi
        obtain ⟨k0, _⟩ := hfx i hi'
        simp only [WideShapes.add_plain] at k0
        simp only [List.getElem_map, List.getElem_range]
        exact k0
    · intro u hu
      rw [List.mem_map] at hu
      obtain ⟨i, hi, rfl⟩ := hu
      exact (hfx i (List.mem_range.1 hi)).2
theorem map_of {α : Type} {F : α → Value} : ∀ {vs : List Value}, (∀ u ∈ vs, ∃ a, u = F a) → ∃ ls : List α, vs = ls.map F
  | [], _ => ⟨[], rfl⟩
  | v :: vs, h => by
    obtain ⟨a, rfl⟩ := h v (List.mem_cons_self ..)
    obtain ⟨ls, rfl⟩ := map_of (fun u hu => h u (List.mem_cons_of_mem _ hu))
    exact ⟨a :: ls, rfl⟩
theorem rows_of {W : World} : ∀ {vs : List Value}, (∀ u ∈ vs, ∃ ns, RdI W u ns) → ∃ ls : List (List Int), vs.length = ls.length ∧ ∀ i (h : i < ls.length) (h' : i < vs.length), RdI W vs[i] ls[i]
  | [], _ => ⟨[], rfl, fun i h => by simp at h⟩
  | v :: vs, h => by
    obtain ⟨ns, hn⟩ := h v (List.mem_cons_self ..)
    obtain ⟨ls, hl, hr⟩ := rows_of (fun u hu => h u (List.mem_cons_of_mem _ hu))
    refine ⟨ns :: ls, by simp [hl], fun i hi hi' => ?_⟩
    cases i with
    | zero => exact hn
    | succ i => exact hr i (by simpa using hi) (by simpa using hi')
theorem open_ints {W : World} {base fuel : Nat} {sp : Nat → Bool} {held : Bool} {v : Value} {x : DataW H × List MemPlace} (hf : DataW.trod enc Tryd.prog W base sp held fuel 35 [v] = some x) : ∃ ns, RdI W v ns := by
  obtain ⟨vs, h1, h2⟩ := open_row Tryd.underlying35 (by kernel_rfl) hf (fun u => ∃ n : Int, u = Value.int .i64 n) (fun n u y h => by
    obtain ⟨m, e, _, _⟩ := DataW.trod_int Tryd.underlying3 h
    simp only [List.cons.injEq, and_true] at e
    exact ⟨m, e⟩)
  obtain ⟨ls, rfl⟩ := map_of h2
  exact ⟨ls, h1⟩
/-- A table that came in. -/
theorem open_table {W : World} {base b0 : Nat} {r : Reach} {sp : Nat → Bool} {held : Bool} {v : Value} {d : DataW H} {ps : List MemPlace}
    (hv : Value.okWide Tryd.prog W r b0 26 v) (h : DataW.Trod enc Tryd.prog W base sp held 26 v d ps) :
    ∃ t ve va vw, v = tabV t ve va vw ∧ TabIn W ve va vw t ∧ ∃ d1 d2 d3, d = .agg [.lit (.string t.name), d1, d2, d3] := by
  obtain ⟨c0, c1, c2, c3, y0, y1, y2, y3, n, rfl, rfl, rfl, k0, k1, k2, k3⟩ := Joins.open_agg4 Tryd.underlying26 (by kernel_rfl) (by kernel_rfl) hv h
  obtain ⟨u, e0, g0, w0⟩ := DataW.trod_string Tryd.underlying9 k0
  simp only [List.cons.injEq, and_true] at e0
  subst e0
  obtain ⟨vs1, h1, i1⟩ := open_row Tryd.underlying22 (by kernel_rfl) k1 (fun u => ∃ l : List UInt8, u = strV l) (fun n u y h => by
    obtain ⟨s, e, _, _⟩ := DataW.trod_string Tryd.underlying9 h
    simp only [List.cons.injEq, and_true] at e
    exact ⟨s.data.toList, by rw [e]; unfold strV; rw [mkS_self]⟩)
  obtain ⟨ls1, rfl⟩ := map_of i1
  obtain ⟨vs2, h2, i2⟩ := open_row Tryd.underlying23 (by kernel_rfl) k2 (fun u => ∃ ns, RdI W u ns) (fun n u y h => open_ints h)
  obtain ⟨ls2, j2, r2⟩ := rows_of i2
  obtain ⟨vs3, h3, i3⟩ := open_row Tryd.underlying24 (by kernel_rfl) k3 (fun u => ∃ l : Bool, u = Value.bool l) (fun n u y h => by
    obtain ⟨s, e, _⟩ := DataW.trod_bool Tryd.underlying4 h
    simp only [List.cons.injEq, and_true] at e
    exact ⟨s, e⟩)
  obtain ⟨ls3, rfl⟩ := map_of i3
  refine ⟨⟨u.data.toList, ls1, ls2, ls3⟩, c1, c2, c3, by unfold tabV; simp only [mkS_self], ⟨h1, ⟨vs2, h2, j2, r2⟩, h3⟩, y1.1, y2.1, y3.1, ?_⟩
  rw [g0]
end
end Go.Proofs.YtfhnigpjmljhbaaDoor.Or
