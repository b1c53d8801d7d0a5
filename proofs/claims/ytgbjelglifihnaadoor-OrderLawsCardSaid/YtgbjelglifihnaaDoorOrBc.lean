/- Thin and SameInts. -/
import Derived.Test.YtgbjelglifihnaaDoorOrN
set_option linter.unusedVariables false
set_option linter.unusedSimpArgs false
namespace Go.Proofs.YtgbjelglifihnaaDoor.Or
open Go.RowKit

/-- Whether a table is not more than the statements look at. -/
def thinF (t : Tab) : Bool := decide (t.elems.length ≤ 20) && decide (t.above.length ≤ 20) && decide (t.wrong.length ≤ 20) && decide (t.name.length ≤ 30) && t.elems.all (fun s => decide (s.length ≤ 30)) && t.above.all (fun l => decide (l.length ≤ 20))
theorem all_of {α : Type} (l : List α) (d : α) (p : α → Bool) (n : Nat) (hn : l.length ≤ n) (h : ∀ j, j < n → j < l.length → p (l.getD j d) = true) : l.all p = true := by
  rw [List.all_eq_true]
  intro x hx
  obtain ⟨i, hi, rfl⟩ := List.getElem_of_mem hx
  have := h i (by omega) hi
  simpa [List.getD_eq_getElem?_getD, hi] using this
theorem all_not {α : Type} (l : List α) (d : α) (p : α → Bool) (k : Nat) (hk : k < l.length) (h : p (l.getD k d) = false) : l.all p = false := by
  refine (Bool.not_eq_true _).mp fun ha => ?_
  rw [List.all_eq_true] at ha
  have := ha (l.getD k d) (by simp [List.getD_eq_getElem?_getD, hk])
  rw [h] at this; cases this

set_option maxRecDepth 100000 in
set_option maxHeartbeats 4000000 in
theorem thin_any (t : Tab) (ve va vw : Value) (w : World) (hT : TabIn w ve va vw t) (hnm : t.name.length ≤ 281474976710656) :
    Calls Tryd.prog 15 #[tabV t ve va vw] w fun e w' => e = .returned (.bool (thinF t)) ∧ Below w.heap.size w w' := by
  obtain ⟨pe, ce, rfl⟩ := hT.e.form
  obtain ⟨pa, ca, rfl⟩ := hT.a.form
  obtain ⟨pw, cw, rfl⟩ := hT.w.form
  have l1 := hT.e.len; have l2 := hT.a.len; have l3 := hT.w.len
  have HT := Lib.hid hT
  obtain ⟨n, hn⟩ : ∃ n, n = t.elems.length := ⟨_, rfl⟩
  obtain ⟨la, hla⟩ : ∃ n, n = t.above.length := ⟨_, rfl⟩
  obtain ⟨lw, hlw⟩ : ∃ n, n = t.wrong.length := ⟨_, rfl⟩
  obtain ⟨nm, hnmE⟩ : ∃ n, n = (mkS t.name).size := ⟨_, rfl⟩
  have hnmS : nm = t.name.length := by rw [hnmE, mkS_size]
  have HF : Hid (thinF t = (decide (n ≤ 20) && decide (la ≤ 20) && decide (lw ≤ 20) && decide (nm ≤ 30) && t.elems.all (fun s => decide (s.length ≤ 30)) && t.above.all (fun l => decide (l.length ≤ 20)))) := by
    show _ = _; unfold thinF; rw [hn, hla, hlw, hnmS]
  rw [← hn, ← hla, ← hlw] at HT
  rw [← hn] at l1; rw [← hla] at l2; rw [← hlw] at l3
  unfold tabV
  rw [← hn, ← hla, ← hlw]
  have HN := Lib.hid hn; have HLA := Lib.hid hla; have HNM := Lib.hid hnmE
  clear hT hn hla hlw hnmS
  have small : ∀ (F : thinF t = false), Hid (thinF t = false) := fun F => F
  by_cases h1 : 20 < n
  · have g1 : decide ((20 : Int) < (n : Int)) = true := decide_eq_true (by omega)
    have HX : Hid (thinF t = false) := by show _ = _; rw [HF.out, decide_eq_false (show ¬ n ≤ 20 by omega)]; simp
    clear small
    go_enter Tryd.func15, Tryd.ntmps15
    go_wp2
    go_ret
    exact ⟨ret_bool HX.out.symm, (Below.refl _ _).alloc (Nat.le_refl _) _⟩
  have g1 : decide ((20 : Int) < (n : Int)) = false := decide_eq_false (by omega)
  by_cases h2 : 20 < la
  · have g2 : decide ((20 : Int) < (la : Int)) = true := decide_eq_true (by omega)
    have HX : Hid (thinF t = false) := by show _ = _; rw [HF.out, decide_eq_false (show ¬ la ≤ 20 by omega)]; simp
    clear small
    go_enter Tryd.func15, Tryd.ntmps15
    go_wp2
    go_ret
    exact ⟨ret_bool HX.out.symm, (Below.refl _ _).alloc (Nat.le_refl _) _⟩
  have g2 : decide ((20 : Int) < (la : Int)) = false := decide_eq_false (by omega)
  by_cases h3 : 20 < lw
  · have g3 : decide ((20 : Int) < (lw : Int)) = true := decide_eq_true (by omega)
    have HX : Hid (thinF t = false) := by show _ = _; rw [HF.out, decide_eq_false (show ¬ lw ≤ 20 by omega)]; simp
    clear small
    go_enter Tryd.func15, Tryd.ntmps15
    go_wp2
    go_ret
    exact ⟨ret_bool HX.out.symm, (Below.refl _ _).alloc (Nat.le_refl _) _⟩
  have g3 : decide ((20 : Int) < (lw : Int)) = false := decide_eq_false (by omega)
  by_cases h4 : 30 < nm
  · have g4 : decide ((30 : Int) < ((mkS t.name).size : Int)) = true := decide_eq_true (by omega)
    have HX : Hid (thinF t = false) := by show _ = _; rw [HF.out, decide_eq_false (show ¬ nm ≤ 30 by omega)]; simp
    clear small hnmE
    go_enter Tryd.func15, Tryd.ntmps15
    go_wp2
    go_ret
    exact ⟨ret_bool HX.out.symm, (Below.refl _ _).alloc (Nat.le_refl _) _⟩
  have g4 : decide ((30 : Int) < ((mkS t.name).size : Int)) = false := decide_eq_false (by omega)
  have HX : Hid (thinF t = (t.elems.all (fun s => decide (s.length ≤ 30)) && t.above.all (fun l => decide (l.length ≤ 20)))) := by
    show _ = _
    rw [HF.out, decide_eq_true (show n ≤ 20 by omega), decide_eq_true (show la ≤ 20 by omega), decide_eq_true (show lw ≤ 20 by omega), decide_eq_true (show nm ≤ 30 by omega)]; simp
  have hbox : Below w.heap.size w (w.alloc (.cells #[.string (mkS t.name), .slice pe n ce, .slice pa la ca, .slice pw lw cw] 26)) := (Below.refl _ _).alloc (Nat.le_refl _) _
  have HB := Lib.hid hbox
  clear small hnmE HF hbox
  go_enter Tryd.func15, Tryd.ntmps15
  go_wp2
  go_loop [3] (fun i => ∃ k : Nat, k ≤ n ∧ i = .int .i64 k ∧ Hid (∀ j, j < k → j < t.elems.length → decide ((t.elems.getD j []).length ≤ 30) = true)) (fun i => n - (intOf i).toNat)
  case atStart => exact ⟨0, Nat.zero_le _, rfl, fun j hj => by omega⟩
  case round =>
    clear g1 g2 g3 g4
    obtain ⟨k, hk, rfl, hr⟩ := hrel
    by_cases hlt : k < n
    · have hkl : k < t.elems.length := by have := HN.out; omega
      obtain ⟨b, off, rfl, hc⟩ := HT.out.e.cell (i := k) hkl
      have lb : b < w.heap.size := cell_lt hc
      obtain ⟨s, hs⟩ : ∃ s, s = t.elems.getD k [] := ⟨_, rfl⟩
      rw [← hs] at hc
      obtain ⟨z, hz⟩ : ∃ z, z = (mkS s).size := ⟨_, rfl⟩
      have hzs : z = s.length := by rw [hz, mkS_size]
      by_cases h5 : 30 < z
      · have g5 : decide ((30 : Int) < ((mkS s).size : Int)) = true := decide_eq_true (by omega)
        have HY : Hid (thinF t = false) := by
          show _ = _
          rw [HX.out, all_not t.elems [] _ k hkl (by rw [← hs]; exact decide_eq_false (by omega))]; rfl
        clear hr hs hz hzs h5
        go_wp2
        go_ret
        exact ⟨ret_bool HY.out.symm, HB.out⟩
      · have g5 : decide ((30 : Int) < ((mkS s).size : Int)) = false := decide_eq_false (by omega)
        have HR : Hid (∀ j, j < k + 1 → j < t.elems.length → decide ((t.elems.getD j []).length ≤ 30) = true) := fun j hj hjl => by
          by_cases e : j = k
          · subst e; rw [← hs]; exact decide_eq_true (by omega)
          · exact hr.out j (by omega) hjl
        clear hr hs hz hzs h5
        go_wp2
        go_round
        case rel => exact ⟨k + 1, by omega, by go_num, HR⟩
        case measure => simp [intOf]; omega
    · have HE : Hid (t.elems.all (fun s => decide (s.length ≤ 30)) = true) := all_of t.elems [] _ k (by have := HN.out; omega) hr.out
      clear hr
      go_wp2
      go_loop [4] (fun i => ∃ k : Nat, k ≤ la ∧ i = .int .i64 k ∧ Hid (∀ j, j < k → j < t.above.length → decide ((t.above.getD j []).length ≤ 20) = true)) (fun i => la - (intOf i).toNat)
      case atStart => exact ⟨0, Nat.zero_le _, rfl, fun j hj => by omega⟩
      case round =>
        clear hk hlt
        obtain ⟨k, hk, rfl, hr⟩ := hrel
        by_cases hlt : k < la
        · have hkl : k < t.above.length := by have := HLA.out; omega
          obtain ⟨b, off, q, c, rfl, hc, hi⟩ := HT.out.a.cell (i := k) hkl
          have lb : b < w.heap.size := cell_lt hc
          have hil := hi.len
          clear hi
          obtain ⟨z, hz⟩ : ∃ z, z = (t.above.getD k []).length := ⟨_, rfl⟩
          rw [← hz] at hc hil
          by_cases h5 : 20 < z
          · have g5 : decide ((20 : Int) < (z : Int)) = true := decide_eq_true (by omega)
            have HY : Hid (thinF t = false) := by
              show _ = _
              rw [HX.out, all_not t.above [] _ k hkl (by rw [← hz]; exact decide_eq_false (by omega))]; simp
            clear hr hz h5
            go_wp2
            go_ret
            exact ⟨ret_bool HY.out.symm, HB.out⟩
          · have g5 : decide ((20 : Int) < (z : Int)) = false := decide_eq_false (by omega)
            have HR : Hid (∀ j, j < k + 1 → j < t.above.length → decide ((t.above.getD j []).length ≤ 20) = true) := fun j hj hjl => by
              by_cases e : j = k
              · subst e; rw [← hz]; exact decide_eq_true (by omega)
              · exact hr.out j (by omega) hjl
            clear hr hz h5
            go_wp2
            go_round
            case rel => exact ⟨k + 1, by omega, by go_num, HR⟩
            case measure => simp [intOf]; omega
        · have HA : Hid (t.above.all (fun l => decide (l.length ≤ 20)) = true) := all_of t.above [] _ k (by have := HLA.out; omega) hr.out
          clear hr
          go_wp2
          go_ret
          exact ⟨ret_bool (by rw [HX.out, HE.out, HA.out]; rfl), HB.out⟩

set_option maxRecDepth 100000 in
set_option maxHeartbeats 2000000 in
theorem sameInts_any (u v : Value) (a c : List Int) (w : World) (hu : RdI w u a) (hv : RdI w v c) :
    Calls Tryd.prog 27 #[u, v] w fun e w' => e = .returned (.bool (a == c)) ∧ Below w.heap.size w w' := by
  obtain ⟨p, cp, rfl⟩ := hu.form
  obtain ⟨q, cq, rfl⟩ := hv.form
  have l1 := hu.len; have l2 := hv.len
  have HU := Lib.hid hu; have HV := Lib.hid hv
  obtain ⟨n, hn⟩ : ∃ n, n = a.length := ⟨_, rfl⟩
  obtain ⟨k2, hk2⟩ : ∃ n, n = c.length := ⟨_, rfl⟩
  rw [← hn] at HU l1 ⊢; rw [← hk2] at HV l2 ⊢
  have HN := Lib.hid hn; have HK := Lib.hid hk2
  clear hu hv hn hk2
  by_cases h0 : n = k2
  · have g0 : ((n : Int) != (k2 : Int)) = false := by rw [bne_eq_false_iff_eq]; omega
    have H0 := Lib.hid h0
    clear h0
    go_enter Tryd.func27, Tryd.ntmps27
    go_wp2
    go_loopw [5] (fun i wr => ∃ k : Nat, k ≤ n ∧ i = .int .i64 k ∧ Hid (∀ j, j < k → a.getD j 0 = c.getD j 0) ∧ Hid (Below w.heap.size w wr)) (fun i _ => n - (intOf i).toNat)
    case atStart => exact ⟨0, Nat.zero_le _, rfl, fun j hj => by omega, Below.refl _ _⟩
    case round =>
      clear g0
      obtain ⟨k, hk, rfl, hr, hb⟩ := hrel
      by_cases hlt : k < n
      · have hlt2 : k < k2 := by have := H0.out; omega
        obtain ⟨b1, o1, rfl, c1⟩ := (HU.out.below hb.out).cell (i := k) (by have := HN.out; omega)
        obtain ⟨b2, o2, rfl, c2⟩ := (HV.out.below hb.out).cell (i := k) (by have := HK.out; omega)
        obtain ⟨x, hx⟩ : ∃ x, x = a.getD k 0 := ⟨_, rfl⟩
        obtain ⟨y, hy⟩ : ∃ y, y = c.getD k 0 := ⟨_, rfl⟩
        rw [← hx] at c1; rw [← hy] at c2
        by_cases he : x = y
        · have g1 : (x != y) = false := by rw [bne_eq_false_iff_eq]; exact he
          have HR : Hid (∀ j, j < k + 1 → a.getD j 0 = c.getD j 0) := fun j hj => by
            by_cases e : j = k
            · subst e; rw [← hx, ← hy]; exact he
            · exact hr.out j (by omega)
          clear hr hx hy he
          go_wp2
          go_quiet (fail)
          go_wp2
          go_roundw
          case rel => exact ⟨k + 1, by omega, by go_num, HR, hb.out.trans (below_drewAt _ _ _)⟩
          case measure => simp [intOf]; omega
        · have g1 : (x != y) = true := by rw [bne_iff_ne]; exact he
          have HX : Hid ((a == c) = false) := by
            show _ = _
            rw [beq_eq_false_iff_ne]
            intro e; exact he (by rw [hx, hy, e])
          clear hr hx hy he
          go_wp2
          go_quiet (fail)
          go_wp2
          go_ret
          exact ⟨ret_bool HX.out.symm, hb.out.trans (below_drewAt _ _ _)⟩
      · have HX : Hid ((a == c) = true) := by
          show _ = _
          rw [beq_iff_eq]
          refine List.ext_getElem (by have := HN.out; have := HK.out; have := H0.out; omega) fun i h1 h2 => ?_
          have := hr.out i (by have := HN.out; omega)
          simpa [List.getD_eq_getElem?_getD, h1, h2] using this
        clear hr
        go_wp2
        go_ret
        exact ⟨ret_bool HX.out.symm, hb.out⟩
  · have g0 : ((n : Int) != (k2 : Int)) = true := by rw [bne_iff_ne]; omega
    have HX : Hid ((a == c) = false) := by
      show _ = _
      rw [beq_eq_false_iff_ne]
      intro e; exact h0 (by rw [HN.out, HK.out, e])
    clear h0
    go_enter Tryd.func27, Tryd.ntmps27
    go_wp2
    go_ret
    exact ⟨ret_bool HX.out.symm, Below.refl _ _⟩
end Go.Proofs.YtgbjelglifihnaaDoor.Or
