/- The reference's Up, Reach and Below, of any elements. -/
import Derived.Test.YtmooikdodbjgpaaDoorOrFf
import Derived.Test.YtmooikdodbjgpaaDoorOrBu
set_option linter.unusedVariables false
set_option linter.unusedSimpArgs false
namespace Go.Proofs.YtmooikdodbjgpaaDoor.Or
open Go.RowKit Go.Shelf

set_option maxRecDepth 100000 in
set_option maxHeartbeats 4000000 in
theorem isElem_int (t : Tab) (ve va vw : Value) (a : Int) (w : World) (hT : TabIn w ve va vw t) :
    Calls Tryd.prog 54 #[tabV t ve va vw, .int .i64 a] w fun e w' => e = .returned (.bool (inF t.n a)) ∧ Below w.heap.size w w' := by
  have hl := hT.e.len
  obtain ⟨pe, ce, rfl⟩ := hT.e.form
  obtain ⟨pa, ca, rfl⟩ := hT.a.form
  obtain ⟨pw, cw, rfl⟩ := hT.w.form
  obtain ⟨n, hn'⟩ : ∃ n, n = t.elems.length := ⟨_, rfl⟩
  have hnT : t.n = n := hn'.symm
  rw [hnT]
  rw [← hn'] at hl
  have C : Hid (∀ W, Calls Tryd.prog 62 #[.int .i64 a, .int .i64 0, .int .i64 ((n : Int) - 1)] W fun e w' => e = .returned (.bool (decide ((0 : Int) ≤ a) && decide (a ≤ (n : Int) - 1))) ∧ w' = W) := fun W => in_any a 0 ((n : Int) - 1) W
  have HI : Hid ((decide ((0 : Int) ≤ a) && decide (a ≤ (n : Int) - 1)) = inF n a) := by
    show _ = _; unfold inF; rw [Bool.eq_iff_iff]; simp; omega
  unfold tabV
  rw [← hn']
  clear hT hn' hnT
  go_enter Tryd.func54, Tryd.ntmps54
  go_wp2_with fail
  refine (C.out _).mono ?_
  rintro e w2 ⟨rfl, rfl⟩
  rw [HI.out]
  go_wp2
  go_ret
  exact ⟨rfl, (Below.refl _ _).alloc (Nat.le_refl _) _⟩

set_option maxRecDepth 100000 in
set_option maxHeartbeats 4000000 in
theorem up_any (t : Tab) (ve va vw : Value) (a : Nat) (w : World) (hT : TabIn w ve va vw t) (hf : frmF t = true) (ha : a < t.n) :
    Calls Tryd.prog 68 #[tabV t ve va vw, .int .i64 a] w fun e w' => ∃ v, e = .returned v ∧ Rd w' v (intsV (ups t.R t.n [a])) ∧ Below w.heap.size w w' := by
  obtain ⟨W0, hW0⟩ : ∃ W0, W0 = w.alloc (Obj.cells #[.string (mkS t.name), ve, va, vw] 26) := ⟨_, rfl⟩
  have b0 : Below w.heap.size w W0 := by rw [hW0]; exact (Below.refl _ _).alloc (Nat.le_refl _) _
  have C := Lib.hid (rel_any t ve va vw W0 (hT.below b0) hf)
  have n12 : t.n ≤ 12 := (frm_len hf).2.1
  have HU : Hid (bothF t.R a a t.n = ups t.R t.n [a]) := by
    show _ = _; rw [both_ups]; unfold ups; congr 1; funext c; simp
  obtain ⟨pe, ce, rfl⟩ := hT.e.form
  obtain ⟨pa, ca, rfl⟩ := hT.a.form
  obtain ⟨pw, cw, rfl⟩ := hT.w.form
  have HB0 := Lib.hid b0; have HW0 := Lib.hid hW0
  unfold tabV at C ⊢
  clear hT hf hW0 b0
  go_enter Tryd.func68, Tryd.ntmps68
  go_wp2_with fail
  rw [← HW0.out]
  refine C.out.mono ?_
  rintro e w2 ⟨v, rfl, hv, hb⟩
  have HB2 := Lib.hid (HB0.out.trans (hb.mono HB0.out.size))
  have HV := Lib.hid hv
  clear hb hv
  go_wp2_with fail
  refine (bounds_any t.R t.n a a v w2 HV.out n12 ha ha).mono ?_
  rintro e w3 ⟨v3, rfl, h3, hb⟩
  have HB3 := Lib.hid (HB2.out.trans (hb.mono HB2.out.size))
  rw [HU.out] at h3
  have H3 := Lib.hid h3
  clear hb h3
  go_wp2
  go_ret
  exact ⟨_, rfl, H3.out, HB3.out⟩

/-- What Reach and Below answer. -/
theorem tabE_cases (t : Tab) (es : List Int) : (frmF t = false ∧ tabE t es = 4) ∨ (frmF t = true ∧ es.all (inF t.n) = false ∧ tabE t es = 7) ∨ (frmF t = true ∧ es.all (inF t.n) = true ∧ tabE t es = 0) := by
  unfold tabE
  cases hf : frmF t with
  | false => exact .inl ⟨rfl, rfl⟩
  | true =>
    cases hi : es.all (inF t.n) with
    | false => exact .inr (.inl ⟨rfl, rfl, rfl⟩)
    | true => exact .inr (.inr ⟨rfl, rfl, rfl⟩)

set_option maxRecDepth 100000 in
set_option maxHeartbeats 8000000 in
theorem refReach_any (t : Tab) (ve va vw : Value) (a : Int) (w : World) (hT : TabIn w ve va vw t) (hS : Small t) :
    Calls Tryd.prog 25 #[tabV t ve va vw, .int .i64 a] w fun e w' => ∃ v, e = .returned (.tuple #[v, .int .i64 (tabE t [a] : Nat)]) ∧ Rd w' v (intsV (if tabE t [a] = 0 then ups t.R t.n [a.toNat] else [])) ∧ Below w.heap.size w w' := by
  obtain ⟨W0, hW0⟩ : ∃ W0, W0 = w.alloc (Obj.cells #[.string (mkS t.name), ve, va, vw] 26) := ⟨_, rfl⟩
  have b0 : Below w.heap.size w W0 := by rw [hW0]; exact (Below.refl _ _).alloc (Nat.le_refl _) _
  have c0 : W0.cell? ⟨w.heap.size, 0, none⟩ = some (.string (mkS t.name)) := by rw [hW0]; simp [go_sem]
  have c1 : W0.cell? ⟨w.heap.size, 1, none⟩ = some ve := by rw [hW0]; simp [go_sem]
  have c2 : W0.cell? ⟨w.heap.size, 2, none⟩ = some va := by rw [hW0]; simp [go_sem]
  have c3 : W0.cell? ⟨w.heap.size, 3, none⟩ = some vw := by rw [hW0]; simp [go_sem]
  have KS : Hid (∀ U, Below W0.heap.size W0 U → U.cell? ⟨w.heap.size, 0, none⟩ = some (.string (mkS t.name)) ∧ U.cell? ⟨w.heap.size, 1, none⟩ = some ve ∧ U.cell? ⟨w.heap.size, 2, none⟩ = some va ∧ U.cell? ⟨w.heap.size, 3, none⟩ = some vw) := fun U h =>
    ⟨(h.cell (cell_lt c0)).trans c0, (h.cell (cell_lt c1)).trans c1, (h.cell (cell_lt c2)).trans c2, (h.cell (cell_lt c3)).trans c3⟩
  have CK := Lib.hid (refCheck_any t ve va vw W0 (hT.below b0) hS)
  have CI : Hid (∀ U, Below W0.heap.size W0 U → Calls Tryd.prog 54 #[tabV t ve va vw, .int .i64 a] U fun e w' => e = .returned (.bool (inF t.n a)) ∧ Below U.heap.size U w') := fun U h => isElem_int t ve va vw a U (hT.below (b0.trans (h.mono b0.size)))
  have CU : Hid (frmF t = true → ∀ U (k : Nat), Below W0.heap.size W0 U → k < t.n → Calls Tryd.prog 68 #[tabV t ve va vw, .int .i64 k] U fun e w' => ∃ v, e = .returned v ∧ Rd w' v (intsV (ups t.R t.n [k])) ∧ Below U.heap.size U w') := fun hf U k h hk => up_any t ve va vw k U (hT.below (b0.trans (h.mono b0.size))) hf hk
  obtain ⟨pe, ce, rfl⟩ := hT.e.form
  obtain ⟨pa, ca, rfl⟩ := hT.a.form
  obtain ⟨pw, cw, rfl⟩ := hT.w.form
  have HB0 := Lib.hid b0; have HW0 := Lib.hid hW0
  have HBW : Hid (∀ U, Below W0.heap.size W0 U → Below w.heap.size w U) := fun U h => b0.trans (h.mono b0.size)
  unfold tabV at CK CI CU ⊢
  rcases tabE_cases t [a] with ⟨hf, hE⟩ | ⟨hf, hin, hE⟩ | ⟨hf, hin, hE⟩
  · have hC : chkE t = 4 := by unfold chkE; rw [hf]; rfl
    rw [hC] at CK
    rw [hE]
    clear hT hS hW0 b0 c0 c1 c2 c3 hf hE hC CI CU
    obtain ⟨k0, k1, k2, k3⟩ := KS.out _ (Below.refl _ _)
    go_enter Tryd.func25, Tryd.ntmps25
    go_wp2_with fail
    rw [← HW0.out]
    refine CK.out.mono ?_
    rintro e w2 ⟨rfl, hb⟩
    have HB2 := Lib.hid hb
    clear hb k0 k1 k2 k3
    go_wp2
    go_ret2
    exact ⟨_, rfl, Rd.nil _, HBW.out _ HB2.out⟩
  · have hC : chkE t = 0 := by unfold chkE; rw [hf]; rfl
    have hIn : inF t.n a = false := by simpa using hin
    rw [hC] at CK
    rw [hE]
    rw [hIn] at CI
    clear hT hS hW0 b0 c0 c1 c2 c3 hf hE hC CU hin hIn
    obtain ⟨k0, k1, k2, k3⟩ := KS.out _ (Below.refl _ _)
    go_enter Tryd.func25, Tryd.ntmps25
    go_wp2_with fail
    rw [← HW0.out]
    refine CK.out.mono ?_
    rintro e w2 ⟨rfl, hb⟩
    have HB2 := Lib.hid hb
    clear hb k0 k1 k2 k3
    obtain ⟨k0, k1, k2, k3⟩ := KS.out _ HB2.out
    go_wp2_with fail
    refine (CI.out _ HB2.out).mono ?_
    rintro e w3 ⟨rfl, hb⟩
    have HB3 := Lib.hid (HB2.out.trans (hb.mono HB2.out.size))
    clear hb k0 k1 k2 k3
    go_wp2
    go_ret2
    exact ⟨_, rfl, Rd.nil _, HBW.out _ HB3.out⟩
  · have hC : chkE t = 0 := by unfold chkE; rw [hf]; rfl
    have hIn : inF t.n a = true := by simpa using hin
    obtain ⟨k, rfl, hkn⟩ := in_nat hIn
    have CU2 := Lib.hid (CU.out hf)
    rw [hC] at CK
    rw [hE, if_pos rfl, show (k : Int).toNat = k from rfl]
    rw [hIn] at CI
    clear hT hS hW0 b0 c0 c1 c2 c3 hf hE hC hin hIn CU
    obtain ⟨k0, k1, k2, k3⟩ := KS.out _ (Below.refl _ _)
    go_enter Tryd.func25, Tryd.ntmps25
    go_wp2_with fail
    rw [← HW0.out]
    refine CK.out.mono ?_
    rintro e w2 ⟨rfl, hb⟩
    have HB2 := Lib.hid hb
    clear hb k0 k1 k2 k3
    obtain ⟨k0, k1, k2, k3⟩ := KS.out _ HB2.out
    go_wp2_with fail
    refine (CI.out _ HB2.out).mono ?_
    rintro e w3 ⟨rfl, hb⟩
    have HB3 := Lib.hid (HB2.out.trans (hb.mono HB2.out.size))
    clear hb k0 k1 k2 k3
    obtain ⟨k0, k1, k2, k3⟩ := KS.out _ HB3.out
    go_wp2_with fail
    refine (CU2.out _ k HB3.out hkn).mono ?_
    rintro e w4 ⟨v4, rfl, h4, hb⟩
    have HB4 := Lib.hid (HB3.out.trans (hb.mono HB3.out.size))
    have H4 := Lib.hid h4
    clear hb k0 k1 k2 k3 h4
    go_wp2
    go_ret2
    exact ⟨_, rfl, H4.out, HBW.out _ HB4.out⟩

set_option maxRecDepth 100000 in
set_option maxHeartbeats 8000000 in
theorem refBelow_any (t : Tab) (ve va vw : Value) (a c : Int) (w : World) (hT : TabIn w ve va vw t) (hS : Small t) :
    Calls Tryd.prog 26 #[tabV t ve va vw, .int .i64 a, .int .i64 c] w fun e w' => e = .returned (.tuple #[.bool (decide (tabE t [a, c] = 0) && bel t.R a.toNat c.toNat), .int .i64 (tabE t [a, c] : Nat)]) ∧ Below w.heap.size w w' := by
  obtain ⟨W0, hW0⟩ : ∃ W0, W0 = w.alloc (Obj.cells #[.string (mkS t.name), ve, va, vw] 26) := ⟨_, rfl⟩
  have b0 : Below w.heap.size w W0 := by rw [hW0]; exact (Below.refl _ _).alloc (Nat.le_refl _) _
  have c0 : W0.cell? ⟨w.heap.size, 0, none⟩ = some (.string (mkS t.name)) := by rw [hW0]; simp [go_sem]
  have c1 : W0.cell? ⟨w.heap.size, 1, none⟩ = some ve := by rw [hW0]; simp [go_sem]
  have c2 : W0.cell? ⟨w.heap.size, 2, none⟩ = some va := by rw [hW0]; simp [go_sem]
  have c3 : W0.cell? ⟨w.heap.size, 3, none⟩ = some vw := by rw [hW0]; simp [go_sem]
  have KS : Hid (∀ U, Below W0.heap.size W0 U → U.cell? ⟨w.heap.size, 0, none⟩ = some (.string (mkS t.name)) ∧ U.cell? ⟨w.heap.size, 1, none⟩ = some ve ∧ U.cell? ⟨w.heap.size, 2, none⟩ = some va ∧ U.cell? ⟨w.heap.size, 3, none⟩ = some vw) := fun U h =>
    ⟨(h.cell (cell_lt c0)).trans c0, (h.cell (cell_lt c1)).trans c1, (h.cell (cell_lt c2)).trans c2, (h.cell (cell_lt c3)).trans c3⟩
  have CK := Lib.hid (refCheck_any t ve va vw W0 (hT.below b0) hS)
  have CI : Hid (∀ U x, Below W0.heap.size W0 U → Calls Tryd.prog 54 #[tabV t ve va vw, .int .i64 x] U fun e w' => e = .returned (.bool (inF t.n x)) ∧ Below U.heap.size U w') := fun U x h => isElem_int t ve va vw x U (hT.below (b0.trans (h.mono b0.size)))
  have CU : Hid (frmF t = true → ∀ U (k l : Nat), Below W0.heap.size W0 U → k < t.n → l < t.n → Calls Tryd.prog 69 #[tabV t ve va vw, .int .i64 k, .int .i64 l] U fun e w' => e = .returned (.bool (bel t.R k l)) ∧ Below U.heap.size U w') := fun hf U k l h hk hl => isBelow_any t ve va vw k l U (hT.below (b0.trans (h.mono b0.size))) hf hk hl
  obtain ⟨pe, ce, rfl⟩ := hT.e.form
  obtain ⟨pa, ca, rfl⟩ := hT.a.form
  obtain ⟨pw, cw, rfl⟩ := hT.w.form
  have HB0 := Lib.hid b0; have HW0 := Lib.hid hW0
  have HBW : Hid (∀ U, Below W0.heap.size W0 U → Below w.heap.size w U) := fun U h => b0.trans (h.mono b0.size)
  unfold tabV at CK CI CU ⊢
  rcases tabE_cases t [a, c] with ⟨hf, hE⟩ | ⟨hf, hin, hE⟩ | ⟨hf, hin, hE⟩
  · have hC : chkE t = 4 := by unfold chkE; rw [hf]; rfl
    rw [hC] at CK
    rw [hE]
    clear hT hS hW0 b0 c0 c1 c2 c3 hf hE hC CI CU
    obtain ⟨k0, k1, k2, k3⟩ := KS.out _ (Below.refl _ _)
    go_enter Tryd.func26, Tryd.ntmps26
    go_wp2_with fail
    rw [← HW0.out]
    refine CK.out.mono ?_
    rintro e w2 ⟨rfl, hb⟩
    have HB2 := Lib.hid hb
    clear hb k0 k1 k2 k3
    go_wp2
    go_ret2
    exact ⟨rfl, HBW.out _ HB2.out⟩
  · have hC : chkE t = 0 := by unfold chkE; rw [hf]; rfl
    rw [hC] at CK
    rw [hE]
    cases hIa : inF t.n a with
    | false =>
      clear hT hS hW0 b0 c0 c1 c2 c3 hf hE hC CU hin
      obtain ⟨k0, k1, k2, k3⟩ := KS.out _ (Below.refl _ _)
      go_enter Tryd.func26, Tryd.ntmps26
      go_wp2_with fail
      rw [← HW0.out]
      refine CK.out.mono ?_
      rintro e w2 ⟨rfl, hb⟩
      have HB2 := Lib.hid hb
      clear hb k0 k1 k2 k3
      obtain ⟨k0, k1, k2, k3⟩ := KS.out _ HB2.out
      go_wp2_with fail
      refine (CI.out _ a HB2.out).mono ?_
      rintro e w3 ⟨rfl, hb⟩
      rw [hIa]
      have HB3 := Lib.hid (HB2.out.trans (hb.mono HB2.out.size))
      clear hb k0 k1 k2 k3 hIa
      go_wp2
      go_ret2
      exact ⟨rfl, HBW.out _ HB3.out⟩
    | true =>
      have hIc : inF t.n c = false := by
        simp only [List.all_cons, List.all_nil, Bool.and_true, hIa, Bool.true_and] at hin; exact hin
      clear hT hS hW0 b0 c0 c1 c2 c3 hf hE hC CU hin
      obtain ⟨k0, k1, k2, k3⟩ := KS.out _ (Below.refl _ _)
      go_enter Tryd.func26, Tryd.ntmps26
      go_wp2_with fail
      rw [← HW0.out]
      refine CK.out.mono ?_
      rintro e w2 ⟨rfl, hb⟩
      have HB2 := Lib.hid hb
      clear hb k0 k1 k2 k3
      obtain ⟨k0, k1, k2, k3⟩ := KS.out _ HB2.out
      go_wp2_with fail
      refine (CI.out _ a HB2.out).mono ?_
      rintro e w3 ⟨rfl, hb⟩
      rw [hIa]
      have HB3 := Lib.hid (HB2.out.trans (hb.mono HB2.out.size))
      clear hb k0 k1 k2 k3 hIa
      obtain ⟨k0, k1, k2, k3⟩ := KS.out _ HB3.out
      go_wp2_with fail
      refine (CI.out _ c HB3.out).mono ?_
      rintro e w4 ⟨rfl, hb⟩
      rw [hIc]
      have HB4 := Lib.hid (HB3.out.trans (hb.mono HB3.out.size))
      clear hb k0 k1 k2 k3 hIc
      go_wp2
      go_ret2
      exact ⟨rfl, HBW.out _ HB4.out⟩
  · have hC : chkE t = 0 := by unfold chkE; rw [hf]; rfl
    simp only [List.all_cons, List.all_nil, Bool.and_true, Bool.and_eq_true] at hin
    obtain ⟨hIa, hIc⟩ := hin
    obtain ⟨k, rfl, hkn⟩ := in_nat hIa
    obtain ⟨l, rfl, hln⟩ := in_nat hIc
    have CU2 := Lib.hid (CU.out hf)
    rw [hC] at CK
    rw [hE, show (k : Int).toNat = k from rfl, show (l : Int).toNat = l from rfl]
    obtain ⟨r, hr⟩ : ∃ r, r = bel t.R k l := ⟨_, rfl⟩
    have CR : Hid (∀ U, Below W0.heap.size W0 U → Calls Tryd.prog 69 #[.agg #[.string (mkS t.name), .slice pe t.elems.length ce, .slice pa t.above.length ca, .slice pw t.wrong.length cw], .int .i64 k, .int .i64 l] U fun e w' => e = .returned (.bool r) ∧ Below U.heap.size U w') := fun U h => by rw [hr]; exact CU2.out U k l h hkn hln
    rw [← hr]
    have HIA := Lib.hid hIa; have HIC := Lib.hid hIc
    clear hT hS hW0 b0 c0 c1 c2 c3 hf hE hC CU CU2 hIa hIc hkn hln hr
    obtain ⟨k0, k1, k2, k3⟩ := KS.out _ (Below.refl _ _)
    go_enter Tryd.func26, Tryd.ntmps26
    go_wp2_with fail
    rw [← HW0.out]
    refine CK.out.mono ?_
    rintro e w2 ⟨rfl, hb⟩
    have HB2 := Lib.hid hb
    clear hb k0 k1 k2 k3
    obtain ⟨k0, k1, k2, k3⟩ := KS.out _ HB2.out
    go_wp2_with fail
    refine (CI.out _ k HB2.out).mono ?_
    rintro e w3 ⟨rfl, hb⟩
    rw [HIA.out]
    have HB3 := Lib.hid (HB2.out.trans (hb.mono HB2.out.size))
    clear hb k0 k1 k2 k3
    obtain ⟨k0, k1, k2, k3⟩ := KS.out _ HB3.out
    go_wp2_with fail
    refine (CI.out _ l HB3.out).mono ?_
    rintro e w4 ⟨rfl, hb⟩
    rw [HIC.out]
    have HB4 := Lib.hid (HB3.out.trans (hb.mono HB3.out.size))
    clear hb k0 k1 k2 k3
    obtain ⟨k0, k1, k2, k3⟩ := KS.out _ HB4.out
    go_wp2_with fail
    refine (CR.out _ HB4.out).mono ?_
    rintro e w5 ⟨rfl, hb⟩
    have HB5 := Lib.hid (HB4.out.trans (hb.mono HB4.out.size))
    clear hb k0 k1 k2 k3
    go_wp2
    go_ret2
    exact ⟨by simp, HBW.out _ HB5.out⟩
end Go.Proofs.YtmooikdodbjgpaaDoor.Or
