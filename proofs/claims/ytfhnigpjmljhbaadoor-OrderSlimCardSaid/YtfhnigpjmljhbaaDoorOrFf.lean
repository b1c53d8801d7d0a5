/- The reference's Prove and IsLattice; the law's right. -/
import Derived.Test.YtfhnigpjmljhbaaDoorOrFe
import Derived.Test.YtfhnigpjmljhbaaDoorOrCa
import Derived.Test.YtfhnigpjmljhbaaDoorOrDe
set_option linter.unusedVariables false
set_option linter.unusedSimpArgs false
namespace Go.Proofs.YtfhnigpjmljhbaaDoor.Or
open Go.RowKit Go.Shelf

theorem proveF_frm {t : Tab} (h : frmF t = true) : brkF t.R t.n t.wr = proveF t := by
  unfold proveF
  rw [h]
  cases hl : latF t with
  | false => rfl
  | true => exact brk_none (by unfold latF at hl; exact beq_iff_eq.1 hl)
theorem latE_frm {t : Tab} (h : frmF t = true) : latE t [] = if (proveF t).1 = 0 then 0 else 12 := by
  unfold latE
  rw [h, ← proveF_frm h]
  unfold latF
  cases hb : (brkF t.R t.n t.wr).1 with
  | zero => rfl
  | succ k => rfl

set_option maxRecDepth 100000 in
set_option maxHeartbeats 8000000 in
theorem refProve_any (t : Tab) (ve va vw : Value) (w : World) (hT : TabIn w ve va vw t) (hS : Small t) :
    Calls Tryd.prog 44 #[tabV t ve va vw] w fun e w' => e = .returned (.tuple #[brkV (proveF t), .int .i64 (latE t [])]) ∧ Below w.heap.size w w' := by
  obtain ⟨m, hm⟩ : ∃ m, m = w.heap.size := ⟨_, rfl⟩
  obtain ⟨W0, hW0⟩ : ∃ W0, W0 = (w.alloc (Obj.cells #[.string (mkS t.name), ve, va, vw] 26)).alloc (Obj.cells #[.int .u8 0, .int .i64 0, .int .i64 0] 52) := ⟨_, rfl⟩
  have b0 : Below w.heap.size w W0 := by rw [hW0]; exact ((Below.refl _ _).alloc (Nat.le_refl _) _).alloc (by simp) _
  have s0 : W0.heap.size = m + 2 := by rw [hW0, hm]; simp
  have c0 : W0.cell? ⟨m, 0, none⟩ = some (.string (mkS t.name)) := by rw [hW0, hm]; simp [go_sem]
  have c1 : W0.cell? ⟨m, 1, none⟩ = some ve := by rw [hW0, hm]; simp [go_sem]
  have c2 : W0.cell? ⟨m, 2, none⟩ = some va := by rw [hW0, hm]; simp [go_sem]
  have c3 : W0.cell? ⟨m, 3, none⟩ = some vw := by rw [hW0, hm]; simp [go_sem]
  have z0 : W0.heap[m + 1]? = some (.cells #[.int .u8 0, .int .i64 0, .int .i64 0] 52 (0, 0)) := by rw [hW0, hm]; exact heap_alloc_at (by simp only [alloc_size])
  have KS : Hid (∀ U, Below W0.heap.size W0 U → U.cell? ⟨m, 0, none⟩ = some (.string (mkS t.name)) ∧ U.cell? ⟨m, 1, none⟩ = some ve ∧ U.cell? ⟨m, 2, none⟩ = some va ∧ U.cell? ⟨m, 3, none⟩ = some vw) := fun U h =>
    ⟨(h.cell (cell_lt c0)).trans c0, (h.cell (cell_lt c1)).trans c1, (h.cell (cell_lt c2)).trans c2, (h.cell (cell_lt c3)).trans c3⟩
  have CK := Lib.hid (refCheck_any t ve va vw W0 (hT.below b0) hS)
  have CB : Hid (frmF t = true → ∀ U, Below W0.heap.size W0 U → Calls Tryd.prog 81 #[tabV t ve va vw] U fun e w' => e = .returned (brkV (proveF t)) ∧ Below U.heap.size U w') := fun hf U h => by
    have := refBreak_any t ve va vw U (hT.below (b0.trans (h.mono b0.size))) hf
    rw [proveF_frm hf] at this
    exact this
  obtain ⟨pe, ce, rfl⟩ := hT.e.form
  obtain ⟨pa, ca, rfl⟩ := hT.a.form
  obtain ⟨pw, cw, rfl⟩ := hT.w.form
  have HB0 := Lib.hid b0; have HW0 := Lib.hid hW0; have Z := Lib.hid z0
  have HBW : Hid (∀ U, Below W0.heap.size W0 U → Below w.heap.size w U) := fun U h => b0.trans (h.mono b0.size)
  have LZ : Hid (m + 1 < W0.heap.size) := by show _ < _; omega
  have HM := Lib.hid hm
  unfold tabV at CK CB ⊢
  cases hf : frmF t with
  | false =>
    have hE : Hid (latE t [] = 4) := by show _ = _; unfold latE; rw [hf]; rfl
    have hP : Hid (proveF t = (0, 0, 0)) := by show _ = _; unfold proveF; rw [hf]; rfl
    have hC : chkE t = 4 := by unfold chkE; rw [hf]; rfl
    rw [hC] at CK
    clear hf hC CB hT hS hW0 hm b0 s0 z0 c0 c1 c2 c3
    obtain ⟨k0, k1, k2, k3⟩ := KS.out _ (Below.refl _ _)
    go_enter Tryd.func44, Tryd.ntmps44
    go_wp2_with fail
    rw [← HM.out, ← HW0.out]
    refine CK.out.mono ?_
    rintro e w2 ⟨rfl, hb⟩
    have hzr := (hb.block _ LZ.out).trans Z.out
    have y0 := Go.Joins.cell_of_block hzr 0; have g0 := Go.Joins.unfrozen_of_block hzr 0
    have y1 := Go.Joins.cell_of_block hzr 1; have g1 := Go.Joins.unfrozen_of_block hzr 1
    have y2 := Go.Joins.cell_of_block hzr 2; have g2 := Go.Joins.unfrozen_of_block hzr 2
    simp only [List.getElem?_toArray, List.getElem?_cons_zero, List.getElem?_cons_succ] at y0 y1 y2
    have HZR := Lib.hid hzr
    have HB2 := Lib.hid hb
    clear hzr hb k0 k1 k2 k3
    go_wp2
    obtain ⟨WF, hWF⟩ : ∃ WF, WF = set3 w2 (m + 1) (.int .u8 0) (.int .i64 0) (.int .i64 0) := ⟨_, rfl⟩
    have hWF2 := hWF
    unfold set3 at hWF2
    rw [← hWF2]
    have hzF := set3_heap (x0 := .int .u8 0) (x1 := .int .i64 0) (x2 := .int .i64 0) HZR.out
    rw [← hWF] at hzF
    have HWF := Lib.hid hWF
    have v0 := Go.Joins.cell_of_block hzF 0
    have v1 := Go.Joins.cell_of_block hzF 1
    have v2 := Go.Joins.cell_of_block hzF 2
    simp only [List.getElem?_toArray, List.getElem?_cons_zero, List.getElem?_cons_succ] at v0 v1 v2
    clear hWF hWF2 hzF
    refine bodyPost_ret (v := .tuple #[brkV (0, 0, 0), .int .i64 4]) (by simp [results, Tryd.results44, go_sem, v0, v1, v2, brkV]) rfl ⟨by rw [hE.out, hP.out]; rfl, ?_⟩
    rw [HWF.out]
    exact below_set3 (HBW.out _ HB2.out) (by have := HM.out; omega)
  | true =>
    have hE : Hid (latE t [] = if (proveF t).1 = 0 then 0 else 12) := latE_frm hf
    have hC : chkE t = 0 := by unfold chkE; rw [hf]; rfl
    rw [hC] at CK
    have CB2 := Lib.hid (CB.out hf)
    obtain ⟨P, hP⟩ : ∃ P, P = proveF t := ⟨_, rfl⟩
    rw [← hP] at CB2 hE ⊢
    obtain ⟨K, A, B⟩ := P
    have h000 : K = 0 → A = 0 ∧ B = 0 := fun h => by
      have h1 := proveF_frm hf
      have h2 := brk_none (R := t.R) (n := t.n) (wr := t.wr) (by rw [h1, ← hP]; exact h)
      rw [h1, ← hP] at h2
      simp only [Prod.mk.injEq] at h2
      exact h2.2
    have H0 := Lib.hid h000
    clear hf hC CB hT hS hW0 hm b0 s0 z0 c0 c1 c2 c3 hP h000
    unfold brkV at CB2
    obtain ⟨k0, k1, k2, k3⟩ := KS.out _ (Below.refl _ _)
    go_enter Tryd.func44, Tryd.ntmps44
    go_wp2_with fail
    rw [← HM.out, ← HW0.out]
    refine CK.out.mono ?_
    rintro e w2 ⟨rfl, hb⟩
    obtain ⟨q0, q1, q2, q3⟩ := KS.out _ hb
    have HB2 := Lib.hid hb
    clear hb k0 k1 k2 k3
    go_wp2_with fail
    refine (CB2.out _ HB2.out).mono ?_
    rintro e w3 ⟨rfl, hb⟩
    have HB3 := Lib.hid (HB2.out.trans (hb.mono HB2.out.size))
    clear hb q0 q1 q2 q3
    have HZ : Hid (∀ o, (w3.alloc o).heap[m + 1]? = some (.cells #[.int .u8 0, .int .i64 0, .int .i64 0] 52 (0, 0))) := fun o => ((HB3.out.alloc HB3.out.size o).block _ LZ.out).trans Z.out
    have hneS : ¬ (m + 1 = w3.heap.size) := by have h1 := LZ.out; have h2 := HB3.out.size; omega
    by_cases hK : K = 0
    · have e := H0.out hK
      obtain ⟨rfl, rfl⟩ := e
      subst hK
      have hzr := HZ.out (.cells #[.int .u8 0, .int .i64 0, .int .i64 0] 52)
      have y0 := Go.Joins.cell_of_block hzr 0; have g0 := Go.Joins.unfrozen_of_block hzr 0
      have y1 := Go.Joins.cell_of_block hzr 1; have g1 := Go.Joins.unfrozen_of_block hzr 1
      have y2 := Go.Joins.cell_of_block hzr 2; have g2 := Go.Joins.unfrozen_of_block hzr 2
      simp only [List.getElem?_toArray, List.getElem?_cons_zero, List.getElem?_cons_succ] at y0 y1 y2
      have HZR := Lib.hid hzr
      clear hzr
      go_wp2
      obtain ⟨WF, hWF⟩ : ∃ WF, WF = set3 (w3.alloc (.cells #[.int .u8 0, .int .i64 0, .int .i64 0] 52)) (m + 1) (.int .u8 0) (.int .i64 0) (.int .i64 0) := ⟨_, rfl⟩
      have hWF2 := hWF
      unfold set3 at hWF2
      rw [← hWF2]
      have hzF := set3_heap (x0 := .int .u8 0) (x1 := .int .i64 0) (x2 := .int .i64 0) HZR.out
      rw [← hWF] at hzF
      have HWF := Lib.hid hWF
      have v0 := Go.Joins.cell_of_block hzF 0
      have v1 := Go.Joins.cell_of_block hzF 1
      have v2 := Go.Joins.cell_of_block hzF 2
      simp only [List.getElem?_toArray, List.getElem?_cons_zero, List.getElem?_cons_succ] at v0 v1 v2
      clear hWF hWF2 hzF
      refine bodyPost_ret (v := .tuple #[.agg #[.int .u8 0, .int .i64 0, .int .i64 0], .int .i64 0]) (by simp [results, Tryd.results44, go_sem, v0, v1, v2]) rfl ⟨by rw [hE.out]; rfl, ?_⟩
      rw [HWF.out]
      exact below_set3 (HBW.out _ (HB3.out.alloc HB3.out.size _)) (by have := HM.out; omega)
    · have gK : ((K : Int) != 0) = true := by rw [bne_iff_ne]; omega
      have HK := Lib.hid hK
      clear hK
      have hzr := HZ.out (.cells #[.int .u8 (K : Nat), .int .i64 (A : Nat), .int .i64 (B : Nat)] 52)
      have y0 := Go.Joins.cell_of_block hzr 0; have g0 := Go.Joins.unfrozen_of_block hzr 0
      have y1 := Go.Joins.cell_of_block hzr 1; have g1 := Go.Joins.unfrozen_of_block hzr 1
      have y2 := Go.Joins.cell_of_block hzr 2; have g2 := Go.Joins.unfrozen_of_block hzr 2
      simp only [List.getElem?_toArray, List.getElem?_cons_zero, List.getElem?_cons_succ] at y0 y1 y2
      have HZR := Lib.hid hzr
      clear hzr
      go_wp2
      obtain ⟨WF, hWF⟩ : ∃ WF, WF = set3 (w3.alloc (.cells #[.int .u8 (K : Nat), .int .i64 (A : Nat), .int .i64 (B : Nat)] 52)) (m + 1) (.int .u8 (K : Nat)) (.int .i64 (A : Nat)) (.int .i64 (B : Nat)) := ⟨_, rfl⟩
      have hWF2 := hWF
      unfold set3 at hWF2
      rw [← hWF2]
      have hzF := set3_heap (x0 := .int .u8 (K : Nat)) (x1 := .int .i64 (A : Nat)) (x2 := .int .i64 (B : Nat)) HZR.out
      rw [← hWF] at hzF
      have HWF := Lib.hid hWF
      have v0 := Go.Joins.cell_of_block hzF 0
      have v1 := Go.Joins.cell_of_block hzF 1
      have v2 := Go.Joins.cell_of_block hzF 2
      simp only [List.getElem?_toArray, List.getElem?_cons_zero, List.getElem?_cons_succ] at v0 v1 v2
      clear hWF hWF2 hzF
      refine bodyPost_ret (v := .tuple #[.agg #[.int .u8 (K : Nat), .int .i64 (A : Nat), .int .i64 (B : Nat)], .int .i64 12]) (by simp [results, Tryd.results44, go_sem, v0, v1, v2]) rfl ⟨by rw [hE.out, if_neg (show ¬ (K, A, B).1 = 0 from HK.out)]; rfl, ?_⟩
      rw [HWF.out]
      exact below_set3 (HBW.out _ (HB3.out.alloc HB3.out.size _)) (by have := HM.out; omega)

set_option maxRecDepth 100000 in
set_option maxHeartbeats 4000000 in
theorem isLattice_any (t : Tab) (ve va vw : Value) (w : World) (hT : TabIn w ve va vw t) (hS : Small t) :
    Calls Tryd.prog 12 #[tabV t ve va vw] w fun e w' => e = .returned (.int .i64 (latE t [])) ∧ Below w.heap.size w w' := by
  obtain ⟨W0, hW0⟩ : ∃ W0, W0 = w.alloc (Obj.cells #[.string (mkS t.name), ve, va, vw] 26) := ⟨_, rfl⟩
  have b0 : Below w.heap.size w W0 := by rw [hW0]; exact (Below.refl _ _).alloc (Nat.le_refl _) _
  have C := Lib.hid (refProve_any t ve va vw W0 (hT.below b0) hS)
  obtain ⟨pe, ce, rfl⟩ := hT.e.form
  obtain ⟨pa, ca, rfl⟩ := hT.a.form
  obtain ⟨pw, cw, rfl⟩ := hT.w.form
  have HB0 := Lib.hid b0; have HW0 := Lib.hid hW0
  obtain ⟨P, hP⟩ : ∃ P, P = proveF t := ⟨_, rfl⟩
  obtain ⟨E, hE⟩ : ∃ E, E = latE t [] := ⟨_, rfl⟩
  rw [← hP, ← hE] at C
  rw [← hE]
  obtain ⟨K, A, B⟩ := P
  unfold tabV brkV at C
  unfold tabV
  clear hT hS hW0 b0 hP hE
  go_enter Tryd.func12, Tryd.ntmps12
  go_wp2_with fail
  rw [← HW0.out]
  refine C.out.mono ?_
  rintro e w2 ⟨rfl, hb⟩
  have HB2 := Lib.hid (HB0.out.trans (hb.mono HB0.out.size))
  clear hb
  go_wp2
  go_ret
  exact ⟨rfl, HB2.out.alloc HB2.out.size _⟩
/-- The law's right: a table that a statement looks at, and that is a lattice. -/
theorem right_any (t : Tab) (ve va vw : Value) (w : World) (hT : TabIn w ve va vw t) (hnm : t.name.length ≤ 281474976710656) :
    Calls Tryd.prog 8 #[tabV t ve va vw] w fun e w' => e = .returned (.bool (thinF t && decide (latE t [] = 0))) ∧ Below w.heap.size w w' := by
  obtain ⟨W0, hW0⟩ : ∃ W0, W0 = w.alloc (Obj.cells #[.string (mkS t.name), ve, va, vw] 26) := ⟨_, rfl⟩
  have b0 : Below w.heap.size w W0 := by rw [hW0]; exact (Below.refl _ _).alloc (Nat.le_refl _) _
  have c0 : W0.cell? ⟨w.heap.size, 0, none⟩ = some (.string (mkS t.name)) := by rw [hW0]; simp [go_sem]
  have c1 : W0.cell? ⟨w.heap.size, 1, none⟩ = some ve := by rw [hW0]; simp [go_sem]
  have c2 : W0.cell? ⟨w.heap.size, 2, none⟩ = some va := by rw [hW0]; simp [go_sem]
  have c3 : W0.cell? ⟨w.heap.size, 3, none⟩ = some vw := by rw [hW0]; simp [go_sem]
  have CT := Lib.hid (thin_any t ve va vw W0 (hT.below b0) hnm)
  have CL : Hid (thinF t = true → ∀ U, Below W0.heap.size W0 U → Calls Tryd.prog 12 #[tabV t ve va vw] U fun e w' => e = .returned (.int .i64 (latE t [])) ∧ Below U.heap.size U w') := fun ht U h => isLattice_any t ve va vw U (hT.below (b0.trans (h.mono b0.size))) (thin_small ht)
  obtain ⟨pe, ce, rfl⟩ := hT.e.form
  obtain ⟨pa, ca, rfl⟩ := hT.a.form
  obtain ⟨pw, cw, rfl⟩ := hT.w.form
  have HB0 := Lib.hid b0; have HW0 := Lib.hid hW0
  unfold tabV at CT CL ⊢
  clear hT hW0 b0 hnm
  cases ht : thinF t with
  | false =>
    rw [ht] at CT
    clear ht CL
    go_enter Tryd.func8, Tryd.ntmps8
    go_wp2_with fail
    rw [← HW0.out]
    refine CT.out.mono ?_
    rintro e w2 ⟨rfl, hb⟩
    have HB2 := Lib.hid (HB0.out.trans (hb.mono HB0.out.size))
    clear hb c0 c1 c2 c3
    go_wp2
    go_ret
    exact ⟨rfl, HB2.out⟩
  | true =>
    rw [ht] at CT
    have CL2 := Lib.hid (CL.out ht)
    obtain ⟨E, hE⟩ : ∃ E, E = latE t [] := ⟨_, rfl⟩
    rw [← hE] at CL2 ⊢
    clear ht CL hE
    go_enter Tryd.func8, Tryd.ntmps8
    go_wp2_with fail
    rw [← HW0.out]
    refine CT.out.mono ?_
    rintro e w2 ⟨rfl, hb⟩
    have d0 := (hb.cell (cell_lt c0)).trans c0
    have d1 := (hb.cell (cell_lt c1)).trans c1
    have d2 := (hb.cell (cell_lt c2)).trans c2
    have d3 := (hb.cell (cell_lt c3)).trans c3
    have HBH := Lib.hid hb
    have HB2 := Lib.hid (HB0.out.trans (hb.mono HB0.out.size))
    clear hb c0 c1 c2 c3
    go_wp2_with fail
    refine (CL2.out _ HBH.out).mono ?_
    rintro e w3 ⟨rfl, hb⟩
    have HB3 := Lib.hid (HB2.out.trans (hb.mono HB2.out.size))
    clear hb d0 d1 d2 d3
    go_wp2
    go_ret
    exact ⟨ret_bool (by simp; rw [Bool.eq_iff_iff]; simp), HB3.out⟩
end Go.Proofs.YtfhnigpjmljhbaaDoor.Or
