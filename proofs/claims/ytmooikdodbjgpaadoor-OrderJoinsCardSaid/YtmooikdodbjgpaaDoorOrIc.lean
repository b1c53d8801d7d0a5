/- The reference's Join, Primes, Parts and Height, of any table and any numbers. -/
import Derived.Test.YtmooikdodbjgpaaDoorOrIb
import Derived.Test.YtmooikdodbjgpaaDoorOrGe
import Derived.Test.YtmooikdodbjgpaaDoorOrHa
set_option linter.unusedVariables false
set_option linter.unusedSimpArgs false
namespace Go.Proofs.YtmooikdodbjgpaaDoor.Or
open Go.RowKit Go.Shelf

theorem hg_eq {R : Nat → Nat → Bool} {n : Nat} (h : Acy R n) (a : Nat) (hn : 0 < n) : hg R n a = maxL (((List.range n).filter (R a)).map fun b => 1 + hg R n b) := by
  have hc := cnt_le R n a
  obtain ⟨g, hg'⟩ : ∃ g, n = g + 1 := ⟨n - 1, by omega⟩
  have h1 : hg R n a = hgt R n (g + 1) a := by unfold hg; rw [← hg']
  rw [h1, hgt]
  congr 1
  refine List.map_congr_left fun b hb => ?_
  rw [List.mem_filter] at hb
  have hl := cnt_less h hb.2
  unfold hg
  rw [hgt_fuel h (f := g) (g := n) (by omega) (by have := cnt_le R n b; omega)]
def hiP (R : Nat → Nat → Bool) (n a k : Nat) : Nat := maxL (((List.range k).filter (R a)).map fun b => 1 + hg R n b)
theorem maxL_put (l : List Nat) (x : Nat) : maxL (l ++ [x]) = max (maxL l) x := by
  unfold maxL; rw [List.foldl_append]; rfl
theorem hiP_succ (R : Nat → Nat → Bool) (n a k : Nat) : hiP R n a (k + 1) = if R a k then max (hiP R n a k) (1 + hg R n k) else hiP R n a k := by
  unfold hiP
  rw [List.range_succ, List.filter_append, List.map_append]
  cases h : R a k with
  | true => simp only [List.filter_cons, h, List.filter_nil, if_true, List.map_cons, List.map_nil]; exact maxL_put _ _
  | false => simp [List.filter_cons, h]

set_option maxRecDepth 100000 in
set_option maxHeartbeats 4000000 in
theorem refHigh_any (t : Tab) (hf : frmF t = true) (hAcy : Acy t.R t.n) : ∀ (f a : Nat), cntU t.R t.n a ≤ f → a < t.n → ∀ (ve va vw : Value) (w : World), TabIn w ve va vw t →
    Calls Tryd.prog 78 #[tabV t ve va vw, .int .i64 a] w fun e w' => e = .returned (.int .i64 (hg t.R t.n a : Nat)) ∧ Below w.heap.size w w' := by
  intro f
  induction f with
  | zero =>
    intro a hc ha ve va vw w hT
    have hno : ∀ b, b < t.n → t.R a b = false := fun b hb => by
      cases h : t.R a b with
      | false => rfl
      | true => have := cnt_less hAcy h; omega
    have HNO := Lib.hid hno
    have HG : Hid (hg t.R t.n a = 0) := by
      show _ = _
      rw [hg_eq hAcy a (by omega)]
      have : (List.range t.n).filter (t.R a) = [] := List.filter_eq_nil_iff.2 fun b hb => by rw [hno b (List.mem_range.1 hb)]; simp
      rw [this]; rfl
    have IH : Hid (∀ (b : Nat), t.R a b = true → b < t.n → ∀ (ve va vw : Value) (w : World), TabIn w ve va vw t → Calls Tryd.prog 78 #[tabV t ve va vw, .int .i64 b] w fun e w' => e = .returned (.int .i64 (hg t.R t.n b : Nat)) ∧ Below w.heap.size w w') := fun b h hb => by rw [hno b hb] at h; cases h
    clear hno HNO HG
    obtain ⟨f1, f2, f3, f4⟩ := frm_len hf
    obtain ⟨n, hn⟩ : ∃ n, n = t.elems.length := ⟨_, rfl⟩
    have hnT : t.n = n := hn.symm
    obtain ⟨W0, hW0⟩ : ∃ W0, W0 = w.alloc (Obj.cells #[.string (mkS t.name), ve, va, vw] 26) := ⟨_, rfl⟩
    have b0 : Below w.heap.size w W0 := by rw [hW0]; exact (Below.refl _ _).alloc (Nat.le_refl _) _
    have c0 : W0.cell? ⟨w.heap.size, 0, none⟩ = some (.string (mkS t.name)) := by rw [hW0]; simp [go_sem]
    have c1 : W0.cell? ⟨w.heap.size, 1, none⟩ = some ve := by rw [hW0]; simp [go_sem]
    have c2 : W0.cell? ⟨w.heap.size, 2, none⟩ = some va := by rw [hW0]; simp [go_sem]
    have c3 : W0.cell? ⟨w.heap.size, 3, none⟩ = some vw := by rw [hW0]; simp [go_sem]
    have CS : Hid (∀ U (b : Nat), Below W0.heap.size W0 U → b < n → Calls Tryd.prog 84 #[tabV t ve va vw, .int .i64 a, .int .i64 b] U fun e w' => e = .returned (.bool (t.R a b)) ∧ Below U.heap.size U w') := fun U b h hb => steps_any t ve va vw a b U (hT.below (b0.trans (h.mono b0.size))) hf ha (by omega)
    have CH : Hid (∀ U (b : Nat), Below W0.heap.size W0 U → t.R a b = true → b < n → Calls Tryd.prog 78 #[tabV t ve va vw, .int .i64 b] U fun e w' => e = .returned (.int .i64 (hg t.R n b : Nat)) ∧ Below U.heap.size U w') := fun U b h hR hb => by
      rw [← hnT]; exact IH.out b hR (by omega) ve va vw U (hT.below (b0.trans (h.mono b0.size)))
    obtain ⟨pe, ce, rfl⟩ := hT.e.form
    obtain ⟨pa, ca, rfl⟩ := hT.a.form
    obtain ⟨pw, cw, rfl⟩ := hT.w.form
    have KS : Hid (∀ U, Below W0.heap.size W0 U → U.cell? ⟨w.heap.size, 0, none⟩ = some (.string (mkS t.name)) ∧ U.cell? ⟨w.heap.size, 1, none⟩ = some (.slice pe n ce) ∧ U.cell? ⟨w.heap.size, 2, none⟩ = some (.slice pa t.above.length ca) ∧ U.cell? ⟨w.heap.size, 3, none⟩ = some (.slice pw t.wrong.length cw)) := fun U h => by
      rw [← hn] at c1
      exact ⟨(h.cell (cell_lt c0)).trans c0, (h.cell (cell_lt c1)).trans c1, (h.cell (cell_lt c2)).trans c2, (h.cell (cell_lt c3)).trans c3⟩
    rw [hnT]
    rw [hnT] at hAcy
    have HHG : Hid (hg t.R n a = hiP t.R n a n) := hg_eq hAcy a (by omega)
    have HLT : Hid (∀ b, b < n → hg t.R n b < n) := fun b hb => hg_lt hAcy hb
    have HW0 := Lib.hid hW0
    have HBW : Hid (∀ U, Below W0.heap.size W0 U → Below w.heap.size w U) := fun U h => b0.trans (h.mono b0.size)
    have n12 : n ≤ 12 := by omega
    obtain ⟨R, hR⟩ : ∃ R, R = t.R := ⟨_, rfl⟩
    rw [← hR] at CS CH HHG HLT ⊢
    unfold tabV at CS CH ⊢
    rw [← hn] at CS CH HW0 ⊢
    clear hT hf hAcy hc ha hW0 b0 c0 c1 c2 c3 f1 f2 f3 f4 hn hnT IH hR
    go_enter Tryd.func78, Tryd.ntmps78
    go_wp2_with fail
    rw [← HW0.out]
    go_loopw [5, 6] (fun m i wr => ∃ k : Nat, k ≤ n ∧ i = .int .i64 k ∧ m = .int .i64 (hiP R n a k : Nat) ∧ Hid (hiP R n a k ≤ 12) ∧ Hid (Below W0.heap.size W0 wr)) (fun _ i _ => n - (intOf i).toNat)
    case atStart => exact ⟨0, Nat.zero_le _, rfl, rfl, by show _ ≤ _; exact Nat.zero_le _, Below.refl _ _⟩
    case round =>
      obtain ⟨k, hkn, rfl, rfl, hm, hb⟩ := hrel
      obtain ⟨k0, k1, k2, k3⟩ := KS.out _ hb.out
      by_cases hlt : k < n
      · have HS : Hid (hiP R n a (k + 1) = if R a k then max (hiP R n a k) (1 + hg R n k) else hiP R n a k) := hiP_succ R n a k
        cases hRk : R a k with
        | false =>
          have HN : Hid (hiP R n a (k + 1) = hiP R n a k) := by show _ = _; rw [HS.out, hRk]; rfl
          go_wp2_with fail
          refine (CS.out _ k hb.out hlt).mono ?_
          rintro e w3 ⟨rfl, hb3⟩
          rw [hRk]
          have HB3 := Lib.hid (hb.out.trans (hb3.mono hb.out.size))
          clear hb3 k0 k1 k2 k3 hRk
          go_wp2
          go_roundw
          case rel => exact ⟨k + 1, by omega, by go_num, by rw [HN.out], by show _ ≤ _; rw [HN.out]; exact hm.out, HB3⟩
          case measure => simp [intOf]; omega
        | true =>
          obtain ⟨y, hy⟩ : ∃ y, y = hg R n k := ⟨_, rfl⟩
          have hyn : y < n := by rw [hy]; exact HLT.out k hlt
          obtain ⟨x, hx⟩ : ∃ x, x = hiP R n a k := ⟨_, rfl⟩
          have hx12 : x ≤ 12 := by rw [hx]; exact hm.out
          have HN : Hid (hiP R n a (k + 1) = max x (1 + y)) := by show _ = _; rw [HS.out, hRk, if_pos rfl, hx, hy]
          have HX : Hid (((hiP R n a (k + 1) : Nat) : Int) = max (x : Int) (1 + (y : Int))) := by show _ = _; rw [HN.out]; omega
          have HRK := Lib.hid hRk
          rw [← hx]
          go_wp2_with fail
          refine (CS.out _ k hb.out hlt).mono ?_
          rintro e w3 ⟨rfl, hb3⟩
          rw [HRK.out]
          have HB3 := Lib.hid (hb.out.trans (hb3.mono hb.out.size))
          clear hb3 k0 k1 k2 k3 hRk
          obtain ⟨k0, k1, k2, k3⟩ := KS.out _ HB3.out
          have HY := Lib.hid hy
          clear hy hx
          go_wp2_with fail
          refine (CH.out _ k HB3.out HRK.out hlt).mono ?_
          rintro e w4 ⟨rfl, hb4⟩
          rw [← HY.out]
          have HB4 := Lib.hid (HB3.out.trans (hb4.mono HB3.out.size))
          clear hb4 k0 k1 k2 k3
          go_wp2
          go_roundw
          case rel => exact ⟨k + 1, by omega, by go_num, by rw [HX.out], by show _ ≤ _; rw [HN.out]; omega, HB4⟩
          case measure => simp [intOf]; omega
      · have hkn2 : k = n := by omega
        subst hkn2
        rw [← HHG.out]
        clear hm
        go_wp2
        go_ret
        exact ⟨rfl, HBW.out _ hb.out⟩
  | succ f ih =>
    intro a hc ha ve va vw w hT
    have IH : Hid (∀ (b : Nat), t.R a b = true → b < t.n → ∀ (ve va vw : Value) (w : World), TabIn w ve va vw t → Calls Tryd.prog 78 #[tabV t ve va vw, .int .i64 b] w fun e w' => e = .returned (.int .i64 (hg t.R t.n b : Nat)) ∧ Below w.heap.size w w') := fun b h hb => ih b (by have := cnt_less hAcy h; omega) hb
    clear ih
    obtain ⟨f1, f2, f3, f4⟩ := frm_len hf
    obtain ⟨n, hn⟩ : ∃ n, n = t.elems.length := ⟨_, rfl⟩
    have hnT : t.n = n := hn.symm
    obtain ⟨W0, hW0⟩ : ∃ W0, W0 = w.alloc (Obj.cells #[.string (mkS t.name), ve, va, vw] 26) := ⟨_, rfl⟩
    have b0 : Below w.heap.size w W0 := by rw [hW0]; exact (Below.refl _ _).alloc (Nat.le_refl _) _
    have c0 : W0.cell? ⟨w.heap.size, 0, none⟩ = some (.string (mkS t.name)) := by rw [hW0]; simp [go_sem]
    have c1 : W0.cell? ⟨w.heap.size, 1, none⟩ = some ve := by rw [hW0]; simp [go_sem]
    have c2 : W0.cell? ⟨w.heap.size, 2, none⟩ = some va := by rw [hW0]; simp [go_sem]
    have c3 : W0.cell? ⟨w.heap.size, 3, none⟩ = some vw := by rw [hW0]; simp [go_sem]
    have CS : Hid (∀ U (b : Nat), Below W0.heap.size W0 U → b < n → Calls Tryd.prog 84 #[tabV t ve va vw, .int .i64 a, .int .i64 b] U fun e w' => e = .returned (.bool (t.R a b)) ∧ Below U.heap.size U w') := fun U b h hb => steps_any t ve va vw a b U (hT.below (b0.trans (h.mono b0.size))) hf ha (by omega)
    have CH : Hid (∀ U (b : Nat), Below W0.heap.size W0 U → t.R a b = true → b < n → Calls Tryd.prog 78 #[tabV t ve va vw, .int .i64 b] U fun e w' => e = .returned (.int .i64 (hg t.R n b : Nat)) ∧ Below U.heap.size U w') := fun U b h hR hb => by
      rw [← hnT]; exact IH.out b hR (by omega) ve va vw U (hT.below (b0.trans (h.mono b0.size)))
    obtain ⟨pe, ce, rfl⟩ := hT.e.form
    obtain ⟨pa, ca, rfl⟩ := hT.a.form
    obtain ⟨pw, cw, rfl⟩ := hT.w.form
    have KS : Hid (∀ U, Below W0.heap.size W0 U → U.cell? ⟨w.heap.size, 0, none⟩ = some (.string (mkS t.name)) ∧ U.cell? ⟨w.heap.size, 1, none⟩ = some (.slice pe n ce) ∧ U.cell? ⟨w.heap.size, 2, none⟩ = some (.slice pa t.above.length ca) ∧ U.cell? ⟨w.heap.size, 3, none⟩ = some (.slice pw t.wrong.length cw)) := fun U h => by
      rw [← hn] at c1
      exact ⟨(h.cell (cell_lt c0)).trans c0, (h.cell (cell_lt c1)).trans c1, (h.cell (cell_lt c2)).trans c2, (h.cell (cell_lt c3)).trans c3⟩
    rw [hnT]
    rw [hnT] at hAcy
    have HHG : Hid (hg t.R n a = hiP t.R n a n) := hg_eq hAcy a (by omega)
    have HLT : Hid (∀ b, b < n → hg t.R n b < n) := fun b hb => hg_lt hAcy hb
    have HW0 := Lib.hid hW0
    have HBW : Hid (∀ U, Below W0.heap.size W0 U → Below w.heap.size w U) := fun U h => b0.trans (h.mono b0.size)
    have n12 : n ≤ 12 := by omega
    obtain ⟨R, hR⟩ : ∃ R, R = t.R := ⟨_, rfl⟩
    rw [← hR] at CS CH HHG HLT ⊢
    unfold tabV at CS CH ⊢
    rw [← hn] at CS CH HW0 ⊢
    clear hT hf hAcy hc ha hW0 b0 c0 c1 c2 c3 f1 f2 f3 f4 hn hnT IH hR
    go_enter Tryd.func78, Tryd.ntmps78
    go_wp2_with fail
    rw [← HW0.out]
    go_loopw [5, 6] (fun m i wr => ∃ k : Nat, k ≤ n ∧ i = .int .i64 k ∧ m = .int .i64 (hiP R n a k : Nat) ∧ Hid (hiP R n a k ≤ 12) ∧ Hid (Below W0.heap.size W0 wr)) (fun _ i _ => n - (intOf i).toNat)
    case atStart => exact ⟨0, Nat.zero_le _, rfl, rfl, by show _ ≤ _; exact Nat.zero_le _, Below.refl _ _⟩
    case round =>
      obtain ⟨k, hkn, rfl, rfl, hm, hb⟩ := hrel
      obtain ⟨k0, k1, k2, k3⟩ := KS.out _ hb.out
      by_cases hlt : k < n
      · have HS : Hid (hiP R n a (k + 1) = if R a k then max (hiP R n a k) (1 + hg R n k) else hiP R n a k) := hiP_succ R n a k
        cases hRk : R a k with
        | false =>
          have HN : Hid (hiP R n a (k + 1) = hiP R n a k) := by show _ = _; rw [HS.out, hRk]; rfl
          go_wp2_with fail
          refine (CS.out _ k hb.out hlt).mono ?_
          rintro e w3 ⟨rfl, hb3⟩
          rw [hRk]
          have HB3 := Lib.hid (hb.out.trans (hb3.mono hb.out.size))
          clear hb3 k0 k1 k2 k3 hRk
          go_wp2
          go_roundw
          case rel => exact ⟨k + 1, by omega, by go_num, by rw [HN.out], by show _ ≤ _; rw [HN.out]; exact hm.out, HB3⟩
          case measure => simp [intOf]; omega
        | true =>
          obtain ⟨y, hy⟩ : ∃ y, y = hg R n k := ⟨_, rfl⟩
          have hyn : y < n := by rw [hy]; exact HLT.out k hlt
          obtain ⟨x, hx⟩ : ∃ x, x = hiP R n a k := ⟨_, rfl⟩
          have hx12 : x ≤ 12 := by rw [hx]; exact hm.out
          have HN : Hid (hiP R n a (k + 1) = max x (1 + y)) := by show _ = _; rw [HS.out, hRk, if_pos rfl, hx, hy]
          have HX : Hid (((hiP R n a (k + 1) : Nat) : Int) = max (x : Int) (1 + (y : Int))) := by show _ = _; rw [HN.out]; omega
          have HRK := Lib.hid hRk
          rw [← hx]
          go_wp2_with fail
          refine (CS.out _ k hb.out hlt).mono ?_
          rintro e w3 ⟨rfl, hb3⟩
          rw [HRK.out]
          have HB3 := Lib.hid (hb.out.trans (hb3.mono hb.out.size))
          clear hb3 k0 k1 k2 k3 hRk
          obtain ⟨k0, k1, k2, k3⟩ := KS.out _ HB3.out
          have HY := Lib.hid hy
          clear hy hx
          go_wp2_with fail
          refine (CH.out _ k HB3.out HRK.out hlt).mono ?_
          rintro e w4 ⟨rfl, hb4⟩
          rw [← HY.out]
          have HB4 := Lib.hid (HB3.out.trans (hb4.mono HB3.out.size))
          clear hb4 k0 k1 k2 k3
          go_wp2
          go_roundw
          case rel => exact ⟨k + 1, by omega, by go_num, by rw [HX.out], by show _ ≤ _; rw [HN.out]; omega, HB4⟩
          case measure => simp [intOf]; omega
      · have hkn2 : k = n := by omega
        subst hkn2
        rw [← HHG.out]
        clear hm
        go_wp2
        go_ret
        exact ⟨rfl, HBW.out _ hb.out⟩
end Go.Proofs.YtmooikdodbjgpaaDoor.Or
