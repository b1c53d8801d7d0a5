/- SameTokens. -/
import Derived.Test.YtlhbfgkcalalkaaDoorFa
import Derived.Test.YtlhbfgkcalalkaaDoorEa
import Derived.BigQuiet
set_option linter.unusedVariables false
set_option linter.unusedSimpArgs false
namespace Go.Proofs.YtlhbfgkcalalkaaDoor
open Go.RowKit

set_option maxRecDepth 100000 in
set_option maxHeartbeats 2000000 in
theorem same_any (v u : Value) (ls ms : List Lx) (w : World) (hv : ReadsLx w v ls) (hu : ReadsLx w u ms) :
    Calls Tryd.prog 9 #[v, u] w fun e w' => e = .returned (.bool (ls == ms)) ∧ Below w.heap.size w w' := by
  obtain ⟨p, cap, rfl, hl, hv⟩ := hv
  obtain ⟨q, cap2, rfl, hl2, hu⟩ := hu
  obtain ⟨n, hn⟩ : ∃ n, n = ls.length := ⟨_, rfl⟩
  obtain ⟨m, hm⟩ : ∃ m, m = ms.length := ⟨_, rfl⟩
  rw [← hn] at hl ⊢
  rw [← hm] at hl2 ⊢
  by_cases hnm : n = m
  case neg =>
    have hb : ((n : Int) != (m : Int)) = true := by rw [bne_iff_ne]; omega
    have HF : Hid ((ls == ms) = false) := by
      show _ = _; rw [beq_eq_false_iff_ne]; intro h; rw [h] at hn; omega
    clear hv hu hnm hn hm
    go_enter Tryd.func9, Tryd.ntmps9
    go_wp2
    go_ret
    exact ⟨ret_bool HF.out.symm, Below.refl _ _⟩
  case pos =>
    subst hnm
    have hb : ((n : Int) != (n : Int)) = false := by simp
    have HV := Lib.hid hv; have HU := Lib.hid hu
    have HN := Lib.hid hn; have HM := Lib.hid hm
    clear hv hu hn hm
    go_enter Tryd.func9, Tryd.ntmps9
    go_wp2
    go_loopw [5] (fun i wr => ∃ k : Nat, k ≤ n ∧ i = .int .i64 k ∧ Hid (∀ j, j < k → ls[j]? = ms[j]?) ∧ Below w.heap.size w wr) (fun i _ => n - (intOf i).toNat)
    case atStart => exact ⟨0, Nat.zero_le _, rfl, fun j hj => by omega, Below.refl _ _⟩
    case round =>
      obtain ⟨k, hk, rfl, hr, hbel⟩ := hrel
      by_cases hlt : k < n
      · have hv := HV.out; have hu := HU.out
        rcases hv with hv | ⟨b, off, rfl, hv⟩
        · have := HN.out; have := HM.out; omega
        rcases hu with hu | ⟨b2, off2, rfl, hu⟩
        · have := HN.out; have := HM.out; omega
        have hla : k < ls.length := by have := HN.out; omega
        have hlb : k < ms.length := by have := HM.out; omega
        obtain ⟨a1, a2, a3⟩ := hv k hla
        obtain ⟨c1, c2, c3⟩ := hu k hlb
        obtain ⟨hc, hf⟩ := bcell' hbel
        rw [← hc _ _ (cell_lt a1)] at a1; rw [← hc _ _ (cell_lt a2)] at a2; rw [← hc _ _ (cell_lt a3)] at a3
        rw [← hc _ _ (cell_lt c1)] at c1; rw [← hc _ _ (cell_lt c2)] at c2; rw [← hc _ _ (cell_lt c3)] at c3
        have hstep : Hid (ls[k] = ms[k] → ∀ j, j < k + 1 → ls[j]? = ms[j]?) := fun h j hj => by
          by_cases e : j = k
          · subst e; rw [List.getElem?_eq_getElem hla, List.getElem?_eq_getElem hlb, h]
          · exact hr.out j (by omega)
        have hne : Hid (ls[k] ≠ ms[k] → (ls == ms) = false) := fun h => by
          rw [beq_eq_false_iff_ne]; intro e; subst e; exact h rfl
        obtain ⟨x, hx⟩ : ∃ x, x = ls[k] := ⟨_, rfl⟩
        obtain ⟨y, hy⟩ : ∃ y, y = ms[k] := ⟨_, rfl⟩
        rw [← hx] at a1 a2 a3 hstep hne
        rw [← hy] at c1 c2 c3 hstep hne
        obtain ⟨x1, x2, x3⟩ := x
        obtain ⟨y1, y2, y3⟩ := y
        clear hx hy hv hu hc hf hr HV HU hla hlb
        by_cases hxy : ((x1, x2, x3) : Lx) = (y1, y2, y3)
        · have HS := Lib.hid (hstep.out hxy)
          simp only [Prod.mk.injEq] at hxy
          obtain ⟨rfl, rfl, rfl⟩ := hxy
          clear hstep hne
          go_wp2
          go_quiet (fail)
          go_wp2
          go_roundw
          case rel => exact ⟨k + 1, by omega, by go_num, HS.out, hbel.trans ((below_drewN _ _).mono hbel.size)⟩
          case measure => simp [intOf]; omega
        · have HS := Lib.hid (hne.out hxy)
          have hd : x1 ≠ y1 ∨ (x1 = y1 ∧ x2 ≠ y2) ∨ (x1 = y1 ∧ x2 = y2 ∧ x3 ≠ y3) := by
            by_cases e1 : x1 = y1
            · by_cases e2 : x2 = y2
              · refine .inr (.inr ⟨e1, e2, fun e3 => hxy (by rw [e1, e2, e3])⟩)
              · exact .inr (.inl ⟨e1, e2⟩)
            · exact .inl e1
          clear hstep hne hxy
          rcases hd with hd | ⟨rfl, hd⟩ | ⟨rfl, rfl, hd⟩
          · have g1 : ((x1 : Int) == (y1 : Int)) = false := by rw [beq_eq_false_iff_ne]; omega
            have g2 : ¬ ((x1 : Int) = (y1 : Int)) := by omega
            clear hd
            go_wp2
            go_quiet (fail)
            go_wp2
            go_ret
            exact ⟨ret_bool HS.out.symm, hbel.trans ((below_drewN _ _).mono hbel.size)⟩
          · have g2 : ¬ ((mkS x2).toList = (mkS y2).toList) := by rw [mkS_tl]; exact hd
            clear hd
            go_wp2
            go_quiet (fail)
            go_wp2
            go_ret
            exact ⟨ret_bool HS.out.symm, hbel.trans ((below_drewN _ _).mono hbel.size)⟩
          · go_wp2
            go_quiet (fail)
            go_wp2
            go_ret
            exact ⟨ret_bool HS.out.symm, hbel.trans ((below_drewN _ _).mono hbel.size)⟩
      · have HE : Hid ((ls == ms) = true) := by
          show _ = _
          rw [beq_iff_eq]
          apply List.ext_getElem?
          intro j
          by_cases hj : j < k
          · exact hr.out j hj
          · have := HN.out; have := HM.out
            rw [List.getElem?_eq_none (by omega), List.getElem?_eq_none (by omega)]
        clear hr HV HU
        go_wp2
        go_ret
        exact ⟨ret_bool HE.out.symm, hbel⟩
end Go.Proofs.YtlhbfgkcalalkaaDoor
