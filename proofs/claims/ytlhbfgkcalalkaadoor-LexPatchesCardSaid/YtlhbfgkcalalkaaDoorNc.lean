/- An integer as an argument, opened; a slice of tokens in a field, opened. -/
import Derived.Test.YtlhbfgkcalalkaaDoorNb
set_option linter.unusedVariables false
set_option linter.unusedSimpArgs false
set_option maxRecDepth 100000
namespace Go.Proofs.YtlhbfgkcalalkaaDoor
open Go.ChangeShapes Go.WideShapes Go.ChangeAt Go.RowKit Go.ChangeMaps Go.Deep

section
variable {H : Type} {enc : TypeId × Value → H}

theorem open_int1 {P : Program} {W : World} {base b0 : Nat} {r : Reach} {sp : Nat → Bool} {held : Bool} {t : TypeId} {k : IntKind} {v : Value} {d : DataW H} {ps : List MemPlace} (ht : P.underlying t = some (.int k))
    (hv : Value.okWide P W r b0 t v) (h : DataW.Trod enc P W base sp held t v d ps) : ∃ n, v = .int k n ∧ (Lit.int k n).wf = true := by
  obtain ⟨n, rfl⟩ := okWide_int ht hv
  obtain ⟨fuel, hf⟩ := h
  obtain ⟨m, e, _, hw⟩ := DataW.trod_int ht (by simpa [Value.cells] using hf : DataW.trod enc P W base sp held fuel t [.int k n] = some (d, ps))
  simp only [List.cons.injEq, and_true, Value.int.injEq, true_and] at e
  subst e
  exact ⟨n, rfl, hw⟩

theorem open_toks_cell {W : World} {base n : Nat} {sp : Nat → Bool} {held : Bool} {v : Value} {y : DataW H × List MemPlace} (h : DataW.trod enc Tryd.prog W base sp held n 22 [v] = some y) :
    ∃ q len cap, [v] = [Value.slice q len cap] ∧ len ≤ maxLen ∧ (len ≤ 100000000000 → ∃ ls : List Lx, ls.length = len ∧ ReadsLx W (.slice q len cap) ls) := by
  obtain ⟨q, len, cap, hc⟩ := Joins.slice_form Tryd.underlying22 h
  simp only [List.cons.injEq, and_true] at hc
  subst hc
  exact ⟨_, _, _, rfl, open_toks_at h⟩
end
end Go.Proofs.YtlhbfgkcalalkaaDoor
