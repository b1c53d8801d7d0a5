/- A slice of bytes as an argument, opened. -/
import Derived.Test.YtmooikdodbjgpaaDoorOrHb
import Derived.Test.YtmooikdodbjgpaaDoorOrDf
set_option linter.unusedVariables false
set_option linter.unusedSimpArgs false
set_option maxRecDepth 100000
namespace Go.Proofs.YtmooikdodbjgpaaDoor.Or
open Go.ChangeShapes Go.WideShapes Go.ChangeAt Go.RowKit Go.ChangeMaps Go.Deep

section
variable {H : Type} {enc : TypeId × Value → H}
theorem bytes_of : ∀ {vs : List Value}, (∀ u ∈ vs, ∃ x : Nat, u = .int .u8 (x : Int) ∧ x < 256) → ∃ bs : List Nat, vs = bs.map (fun x : Nat => Value.int .u8 (x : Int)) ∧ ∀ x ∈ bs, x < 256
  | [], _ => ⟨[], rfl, fun x hx => by simp at hx⟩
  | v :: vs, h => by
    obtain ⟨x, rfl, hx⟩ := h v (List.mem_cons_self ..)
    obtain ⟨bs, rfl, hb⟩ := bytes_of (fun u hu => h u (List.mem_cons_of_mem _ hu))
    refine ⟨x :: bs, rfl, fun y hy => ?_⟩
    rcases List.mem_cons.1 hy with rfl | hy
    · exact hx
    · exact hb y hy
theorem open_bytes {W : World} {base b0 : Nat} {r : Reach} {sp : Nat → Bool} {held : Bool} {v : Value} {d : DataW H} {ps : List MemPlace}
    (hv : Value.okWide Tryd.prog W r b0 71 v) (h : DataW.Trod enc Tryd.prog W base sp held 71 v d ps) : ∃ bs : List Nat, RdU W v bs := by
  obtain ⟨q, len, cap, rfl⟩ := okWide_slice Tryd.underlying71 hv
  obtain ⟨fuel, hf⟩ := h
  obtain ⟨vs, h1, h2⟩ := open_row Tryd.underlying71 (by kernel_rfl) (by simpa [Value.cells] using hf : DataW.trod enc Tryd.prog W base sp held fuel 71 [.slice q len cap] = some (d, ps)) (fun u => ∃ x : Nat, u = .int .u8 (x : Int) ∧ x < 256) (fun n u y h => by
    obtain ⟨m, e, _, hw⟩ := DataW.trod_int Tryd.underlying5 h
    simp only [List.cons.injEq, and_true] at e
    have hb := bounds_u8 hw
    exact ⟨m.toNat, by rw [e, Int.toNat_of_nonneg hb.1], by omega⟩)
  obtain ⟨bs, rfl, hb⟩ := bytes_of h2
  exact ⟨bs, h1, hb⟩
end
end Go.Proofs.YtmooikdodbjgpaaDoor.Or
