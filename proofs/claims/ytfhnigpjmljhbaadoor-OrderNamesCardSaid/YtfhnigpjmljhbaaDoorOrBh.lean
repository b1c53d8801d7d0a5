/- strings.Join does what it must, by the shelf. -/
import Derived.Test.YtfhnigpjmljhbaaDoorOrBv
import Derived.Test.YtfhnigpjmljhbaaDoorShelf
set_option linter.unusedVariables false
set_option linter.unusedSimpArgs false
namespace Go.Proofs.YtfhnigpjmljhbaaDoor.Or
open Go.RowKit Go.Shelf

theorem joinT_lib (sep : List UInt8) : ∀ ls : List (List UInt8), Lib.join ls sep = joinT sep ls
  | [] => rfl
  | [x] => by simp [Lib.join, joinT]
  | x :: y :: r => by
    have := joinT_lib sep (y :: r)
    simp only [Lib.join, joinT] at this ⊢
    simp [this]
theorem joinOk : JoinOk := by
  intro w v ls sep hv hl hs hx
  obtain ⟨p, cap, rfl⟩ := hv.form
  by_cases h0 : ls.length = 0
  · have e : ls = [] := List.eq_nil_of_length_eq_zero h0
    subst e
    exact (Tryd.strings_Join_none p cap (mkS sep) w).mono fun e w' h => ⟨h.1, by rw [h.2]; exact Below.refl _ _⟩
  · obtain ⟨b, off, rfl, hc⟩ := hv.cells (by omega)
    have hcap := (Rd.capE hv).2
    have hb : b < w.heap.size := cell_lt (hc 0 (by omega))
    have hm : (ls.map mkS).map (·.data.toList) = ls := by simp [List.map_map, Function.comp_def, mkS_list]
    have hj : Lib.join ((ls.map mkS).map (·.data.toList)) (mkS sep).data.toList = joinT sep ls := by rw [hm, mkS_list]; exact joinT_lib sep ls
    have hjl := joinT_len sep ls 1000000 hx
    have hle : (1000000 + sep.length) * ls.length ≤ (1000000 + 1000) * 1000 := Nat.mul_le_mul (by omega) hl
    have := Tryd.strings_Join b off cap (ls.map mkS) (mkS sep) w (fun j x hjx => by
      rw [List.getElem?_map] at hjx
      rcases hq : ls[j]? with _ | y
      · rw [hq] at hjx; simp at hjx
      · rw [hq] at hjx
        have hlt : j < ls.length := (List.getElem?_eq_some_iff.1 hq).1
        have hxy : mkS y = x := by simpa using hjx
        rw [hc j hlt, ← hxy]
        simp [List.getD_eq_getElem?_getD, hq]) hb (by simp; omega) (by simpa using hcap) (by rw [hj]; omega)
    rw [hj, List.length_map] at this
    exact this
end Go.Proofs.YtfhnigpjmljhbaaDoor.Or
