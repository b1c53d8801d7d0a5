/- A slice of tokens as an argument, opened; arguments of any types that are as they were behind a call. -/
import Derived.Test.YtlhbfgkcalalkaaDoorFa
import Derived.Deep.Slices
import Derived.Deep.Strs
import Derived.WideKeyArgs
import Derived.Lib.SmallJoins
import Derived.OpenShut
set_option linter.unusedVariables false
set_option linter.unusedSimpArgs false
set_option maxRecDepth 100000
namespace Go.Proofs.YtlhbfgkcalalkaaDoor
open Go.ChangeShapes Go.WideShapes Go.ChangeAt Go.RowKit Go.ChangeMaps Go.Deep

section
variable {H : Type} {enc : TypeId × Value → H}

theorem same_below {W W' : World} {B : Nat} (h : Below B W W') {p : MemPlace} (hp : p.block < B) : W.sameAt W' p := by
  have e := h.block p.block hp
  cases p with
  | cell b off => simp only [MemPlace.block] at e; simp [World.sameAt, World.cell?, e]
  | map b => simp only [MemPlace.block] at e; simp [World.sameAt, e]

/-- Arguments read behind a call as before it, where no block that was there has changed. -/
theorem trodAll_same {P : Program} (hl : laidOutB P = true) {W W' : World} {sp' : Nat → Bool} : ∀ {ts : List TypeId} {vs : List Value} {ds : List (DataW H)} {p : List MemPlace},
    (∀ t ∈ ts, P.readableRec t = true ∧ t < P.types.size) → DataW.TrodAll enc P W 0 (fun _ => true) true ts vs ds p → (∀ q ∈ p, W.sameAt W' q) → (∀ q ∈ p, sp' q.block = true) → DataW.TrodAll enc P W' 0 sp' true ts vs ds p
  | [], _, _, _, _, h, _, _ => by
    obtain ⟨rfl, rfl, rfl⟩ := trodAll_nil h
    exact trodAll_mk0
  | t :: ts, _, _, _, ht, h, h1, h2 => by
    obtain ⟨v, vs1, d, ds1, a, b, rfl, rfl, rfl, k1, k2⟩ := trodAll_cons h
    obtain ⟨r1, r2⟩ := ht t (List.mem_cons_self ..)
    exact trodAll_cons_mk (WideElems.Trod_stays hl r1 r2 k1 (fun q hq => h1 q (List.mem_append_left _ hq)) (fun q hq => h2 q (List.mem_append_left _ hq)))
      (trodAll_same hl (fun u hu => ht u (List.mem_cons_of_mem _ hu)) k2 (fun q hq => h1 q (List.mem_append_right _ hq)) (fun q hq => h2 q (List.mem_append_right _ hq)))

theorem addr_plain {w : World} {a : Addr} {v : Value} (h : w.cell? a = some v) : a = ⟨a.block, a.off, none⟩ := by
  obtain ⟨b, o, s⟩ := a
  cases s with
  | none => rfl
  | some s =>
    simp only [World.cell?] at h
    split at h <;> simp_all

/-- A token out of the three cells of an element. -/
theorem open_tok {W : World} {base n : Nat} {sp : Nat → Bool} {held : Bool} {cs : List Value} {x : DataW H × List MemPlace} (h : DataW.trod enc Tryd.prog W base sp held n 36 cs = some x) :
    ∃ y : Lx, cs = lxCells y := by
  have hC : Tryd.prog.cellsOf 36 = 3 := by kernel_rfl
  have c0 : Tryd.prog.cellsOf 5 = 1 := by kernel_rfl
  have c1 : Tryd.prog.cellsOf 9 = 1 := by kernel_rfl
  have c2 : Tryd.prog.cellsOf 3 = 1 := by kernel_rfl
  obtain ⟨y0, y1, y2, k, _, hlen, h0, h1, h2⟩ := trod_struct3 Tryd.underlying36 h
  rw [hC] at hlen
  match cs, hlen with
  | [v0, v1, v2], _ =>
    simp [c0, c1, c2] at h0 h1 h2
    obtain ⟨n0, e0, _, w0⟩ := DataW.trod_int Tryd.underlying5 h0
    obtain ⟨s, e1, _, _⟩ := DataW.trod_string Tryd.underlying9 h1
    obtain ⟨n2, e2, _, _⟩ := DataW.trod_int Tryd.underlying3 h2
    simp only [List.cons.injEq, and_true] at e0 e1 e2
    subst e0 e1 e2
    have hb := bounds_u8 w0
    refine ⟨(n0.toNat, s.data.toList, n2), ?_⟩
    have e : ((n0.toNat : Nat) : Int) = n0 := Int.toNat_of_nonneg hb.1
    simp only [lxCells, e, mkS_self]

/-- A slice of tokens that came in. -/
theorem open_toks_at {W : World} {base fuel : Nat} {sp : Nat → Bool} {held : Bool} {q : Option Addr} {len cap : Nat} {x : DataW H × List MemPlace}
    (hf' : DataW.trod enc Tryd.prog W base sp held fuel 22 [.slice q len cap] = some x) :
    len ≤ maxLen ∧ (len ≤ 100000000000 → ∃ ls : List Lx, ls.length = len ∧ ReadsLx W (.slice q len cap) ls) := by
  rcases open_slice Tryd.underlying22 hf' with ⟨h1, _⟩ | ⟨a, len', cap', m, n, D, Pl, h1, hb, hl, hm, hmm, hx, hel⟩
  · simp only [List.cons.injEq, Value.slice.injEq, and_true] at h1
    obtain ⟨rfl, rfl, rfl⟩ := h1
    exact ⟨Nat.zero_le _, fun _ => ⟨[], rfl, none, 0, rfl, Nat.zero_le _, .inl rfl⟩⟩
  · simp only [List.cons.injEq, Value.slice.injEq, and_true] at h1
    obtain ⟨rfl, rfl, rfl⟩ := h1
    refine ⟨by omega, fun hlen => ?_⟩
    have hlm : len ≤ m := by rw [hmm]; split <;> omega
    have each : ∀ i, i < len → ∃ y : Lx, W.cell? (a.add (i * 3)) = some (.int .u8 y.1) ∧ W.cell? ((a.add (i * 3)).add 1) = some (.string (mkS y.2.1)) ∧ W.cell? ((a.add (i * 3)).add 2) = some (.int .i64 y.2.2) := fun i hi => by
      obtain ⟨cs', g1, g2⟩ := hel i (by omega)
      have hC : Tryd.prog.cellsOf 36 = 3 := by kernel_rfl
      rw [hC] at g1
      obtain ⟨_, _, hcell⟩ := World.cells?_some g1
      obtain ⟨y, rfl⟩ := open_tok g2
      have e0 := hcell 0 (by omega)
      have e1 := hcell 1 (by omega)
      have e2 := hcell 2 (by omega)
      refine ⟨y, ?_, e1, e2⟩
      simpa [Addr.add, lxCells] using e0
    obtain ⟨f, hfx⟩ := choose_lt each
    refine ⟨(List.range len).map f, by simp, some a, cap, by simp, by simpa using hlen, ?_⟩
    by_cases h0 : len = 0
    · exact .inl (by simpa using h0)
    · have ha := (hfx 0 (by omega)).1
      rw [Nat.zero_mul] at ha
      have hap : a = ⟨a.block, a.off, none⟩ := addr_plain (v := .int .u8 (f 0).1) (by simpa [Addr.add] using ha)
      obtain ⟨b, off, s⟩ := a
      simp only [Addr.mk.injEq, true_and] at hap
      subst hap
      refine .inr ⟨b, off, rfl, fun i hi => ?_⟩
      have hi' : i < len := by simpa using hi
      obtain ⟨k0, k1, k2⟩ := hfx i hi'
      simp only [WideShapes.add_plain] at k0 k1 k2
      simp only [List.getElem_map, List.getElem_range]
      exact ⟨k0, k1, k2⟩
theorem open_toks {W : World} {base b0 : Nat} {r : Reach} {sp : Nat → Bool} {held : Bool} {v : Value} {d : DataW H} {ps : List MemPlace}
    (hv : Value.okWide Tryd.prog W r b0 22 v) (h : DataW.Trod enc Tryd.prog W base sp held 22 v d ps) :
    ∃ q len cap, v = .slice q len cap ∧ len ≤ maxLen ∧ (len ≤ 100000000000 → ∃ ls : List Lx, ls.length = len ∧ ReadsLx W v ls) := by
  obtain ⟨q, len, cap, rfl⟩ := okWide_slice Tryd.underlying22 hv
  obtain ⟨fuel, hf⟩ := h
  have hf' : DataW.trod enc Tryd.prog W base sp held fuel 22 [.slice q len cap] = some (d, ps) := by simpa [Value.cells] using hf
  exact ⟨q, len, cap, rfl, open_toks_at hf'⟩
end
end Go.Proofs.YtlhbfgkcalalkaaDoor
