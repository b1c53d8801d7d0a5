/- OrderSlims is true of every table. -/
import Derived.Test.YtmooikdodbjgpaaDoorOrLd
import Derived.Test.YtmooikdodbjgpaaDoorOrLe
import Derived.Test.YtmooikdodbjgpaaDoorOrGc
import Derived.Test.YtmooikdodbjgpaaDoorOrBk
set_option linter.unusedVariables false
set_option linter.unusedSimpArgs false
namespace Go.Proofs.YtmooikdodbjgpaaDoor.Or
open Go.RowKit Go.Shelf

theorem Text_all (HJ : JoinOk) (t : Tab) (ve va vw : Value) (w : World) (hT : TabIn w ve va vw t) (hS : Small t) (hL : LaidOk w) :
    Calls Tryd.prog 37 #[tabV t ve va vw] w fun e w' => e = .returned (.tuple #[.string (mkS (refTextF t)), .int .i64 (chkE t : Nat)]) ∧ Below w.heap.size w w' := by
  cases hf : frmF t with
  | false =>
    have hE : chkE t = 4 := by unfold chkE; rw [hf]; rfl
    have hX : refTextF t = [] := by unfold refTextF; rw [hf]; rfl
    rw [hE, hX]
    exact text_no t ve va vw w hT hS hL hf
  | true =>
    have hE : chkE t = 0 := by unfold chkE; rw [hf]; rfl
    have hX : refTextF t = textF t := by unfold refTextF; rw [hf]; rfl
    rw [hE, hX]
    exact text_yes HJ t ve va vw w hT hS hL hf
theorem slimF_lens (t : Tab) : (slimF t).elems.length ≤ 20 ∧ (slimF t).above.length ≤ 20 ∧ (slimF t).wrong.length ≤ 20 := by
  unfold slimF
  split
  · rename_i h
    obtain ⟨hf, _, _⟩ := latE_zero h
    obtain ⟨f1, f2, f3, f4⟩ := frm_len hf
    refine ⟨?_, ?_, ?_⟩
    · show t.elems.length ≤ 20; omega
    · rw [(slim_lens hf).1]; unfold Tab.n; omega
    · show t.wrong.length ≤ 20; omega
  · exact ⟨by simp [zeroT], by simp [zeroT], by simp [zeroT]⟩

set_option maxRecDepth 100000 in
set_option maxHeartbeats 8000000 in
theorem slims_any (HJ : JoinOk) (t : Tab) (ve va vw : Value) (w : World) (hT : TabIn w ve va vw t) (hnm : t.name.length ≤ 281474976710656) (hLd : LaidOk w) :
    Calls Tryd.prog 6 #[tabV t ve va vw] w fun e w' => e = .returned (.bool true) ∧ Below w.heap.size w w' := by
  obtain ⟨W1, hW1⟩ : ∃ W1, W1 = w.alloc (Obj.cells #[.string (mkS t.name), ve, va, vw] 26) := ⟨_, rfl⟩
  have b1 : Below w.heap.size w W1 := by rw [hW1]; exact (Below.refl _ _).alloc (Nat.le_refl _) _
  have c0 : W1.cell? ⟨w.heap.size, 0, none⟩ = some (.string (mkS t.name)) := by rw [hW1]; simp [go_sem]
  have c1 : W1.cell? ⟨w.heap.size, 1, none⟩ = some ve := by rw [hW1]; simp [go_sem]
  have c2 : W1.cell? ⟨w.heap.size, 2, none⟩ = some va := by rw [hW1]; simp [go_sem]
  have c3 : W1.cell? ⟨w.heap.size, 3, none⟩ = some vw := by rw [hW1]; simp [go_sem]
  have CT := Lib.hid (thin_any t ve va vw W1 (hT.below b1) hnm)
  have CA : Hid (∀ W, Below w.heap.size w W → Calls Tryd.prog 16 #[] W fun e w' => e = .returned (.bool true) ∧ Below W.heap.size W w') := fun W h => awake_any HJ W (hLd.below h)
  have HW1 := Lib.hid hW1; have HB1 := Lib.hid b1
  have HTI : Hid (∀ W, Below w.heap.size w W → TabIn W ve va vw t) := fun W h => hT.below h
  have HLI : Hid (∀ W, Below w.heap.size w W → LaidOk W) := fun W h => hLd.below h
  have HBW : Hid (∀ U, Below W1.heap.size W1 U → Below w.heap.size w U) := fun U h => b1.trans (h.mono b1.size)
  obtain ⟨pe, ce, rfl⟩ := hT.e.form
  obtain ⟨pa, ca, rfl⟩ := hT.a.form
  obtain ⟨pw, cw, rfl⟩ := hT.w.form
  cases hr : thinF t with
  | false =>
    rw [hr] at CT
    unfold tabV at CT ⊢
    clear hr hT hnm hLd hW1 b1 c0 c1 c2 c3
    go_enter Tryd.func6, Tryd.ntmps6
    go_wp2_with fail
    rw [← HW1.out]
    refine CT.out.mono ?_
    rintro e w2 ⟨rfl, hb⟩
    have HB2 := Lib.hid (HB1.out.trans (hb.mono HB1.out.size))
    clear hb
    go_wp2_with fail
    refine (CA.out _ HB2.out).mono ?_
    rintro e w3 ⟨rfl, hb⟩
    have HB3 := Lib.hid (HB2.out.trans (hb.mono HB2.out.size))
    clear hb
    go_wp2
    go_ret
    exact ⟨rfl, HB3.out⟩
  | true =>
    rw [hr] at CT
    have hS := thin_small hr
    obtain ⟨t1, t2, t3, t4⟩ := thin_lens hr
    obtain ⟨E, hE⟩ : ∃ E, E = latE t [] := ⟨_, rfl⟩
    obtain ⟨F, hF⟩ : ∃ F, F = chkE t := ⟨_, rfl⟩
    obtain ⟨s, hs⟩ : ∃ s, s = mkS (refTextF t) := ⟨_, rfl⟩
    obtain ⟨U, hU⟩ : ∃ U, U = slimF t := ⟨_, rfl⟩
    obtain ⟨u1, u2, u3⟩ := slimF_lens t
    rw [← hU] at u1 u2 u3
    have CC : Hid (∀ W, Below W1.heap.size W1 W → Calls Tryd.prog 17 #[tabV t (.slice pe t.elems.length ce) (.slice pa t.above.length ca) (.slice pw t.wrong.length cw)] W fun e w' => ∃ ve' va' vw', e = .returned (tabV t ve' va' vw') ∧ TabIn w' ve' va' vw' t ∧ Below W.heap.size W w') := fun W h => copy_any t _ _ _ W (HTI.out W (HBW.out W h)) t1 t2 t3 t4
    have CSl : Hid (∀ W ve va vw, TabIn W ve va vw t → Below W1.heap.size W1 W → Calls Tryd.prog 36 #[tabV t ve va vw] W fun e w' => ∃ xe xa xw, e = .returned (.tuple #[tabV U xe xa xw, .int .i64 (E : Nat)]) ∧ TabIn w' xe xa xw U ∧ Below W.heap.size W w') := fun W ve va vw h hb => by rw [hE, hU]; exact Slim_any t ve va vw W h hS (HLI.out W (HBW.out W hb))
    have CX : Hid (∀ W ve va vw, TabIn W ve va vw t → Below W1.heap.size W1 W → Calls Tryd.prog 37 #[tabV t ve va vw] W fun e w' => e = .returned (.tuple #[.string s, .int .i64 (F : Nat)]) ∧ Below W.heap.size W w') := fun W ve va vw h hb => by rw [hF, hs]; exact Text_all HJ t ve va vw W h hS (HLI.out W (HBW.out W hb))
    have DSl : Hid (∀ W, Below W1.heap.size W1 W → Calls Tryd.prog 38 #[tabV t (.slice pe t.elems.length ce) (.slice pa t.above.length ca) (.slice pw t.wrong.length cw)] W fun e w' => ∃ xe xa xw, e = .returned (.tuple #[tabV U xe xa xw, .int .i64 (E : Nat)]) ∧ TabIn w' xe xa xw U ∧ Below W.heap.size W w') := fun W hb => by rw [hE, hU]; exact refSlim_any t _ _ _ W (HTI.out W (HBW.out W hb)) hS t1 t2 t3 t4
    have DX : Hid (∀ W, Below W1.heap.size W1 W → Calls Tryd.prog 39 #[tabV t (.slice pe t.elems.length ce) (.slice pa t.above.length ca) (.slice pw t.wrong.length cw)] W fun e w' => e = .returned (.tuple #[.string s, .int .i64 (F : Nat)]) ∧ Below W.heap.size W w') := fun W hb => by rw [hF, hs]; exact refText_any t _ _ _ W (HTI.out W (HBW.out W hb)) hS
    have CU : Hid (∀ W a1 a2 a3 b1 b2 b3, TabIn W a1 a2 a3 U → TabIn W b1 b2 b3 U → Calls Tryd.prog 22 #[tabV U a1 a2 a3, tabV U b1 b2 b3] W fun e w' => e = .returned (.bool true) ∧ Below W.heap.size W w') := fun W a1 a2 a3 b1 b2 b3 ha hb => sameTable_any U _ _ _ _ _ _ W ha hb u1 u2 u3
    have CV : Hid (∀ W a1 a2 a3, TabIn W a1 a2 a3 t → Below W1.heap.size W1 W → Calls Tryd.prog 22 #[tabV t a1 a2 a3, tabV t (.slice pe t.elems.length ce) (.slice pa t.above.length ca) (.slice pw t.wrong.length cw)] W fun e w' => e = .returned (.bool true) ∧ Below W.heap.size W w') := fun W a1 a2 a3 ha hb => sameTable_any t _ _ _ _ _ _ W ha (HTI.out W (HBW.out W hb)) t1 t2 t3
    obtain ⟨nE, hnE⟩ : ∃ n, n = t.elems.length := ⟨_, rfl⟩
    obtain ⟨nA, hnA⟩ : ∃ n, n = t.above.length := ⟨_, rfl⟩
    obtain ⟨nW, hnW⟩ : ∃ n, n = t.wrong.length := ⟨_, rfl⟩
    have HNE := Lib.hid hnE; have HNA := Lib.hid hnA; have HNW := Lib.hid hnW
    unfold tabV at CT CC CSl CX DSl DX CU CV ⊢
    rw [← hnE, ← hnA, ← hnW] at CT CC DSl DX CV HW1 ⊢
    rw [← hnE] at c1; rw [← hnA] at c2; rw [← hnW] at c3
    have KS : Hid (∀ V, Below W1.heap.size W1 V → V.cell? ⟨w.heap.size, 0, none⟩ = some (.string (mkS t.name)) ∧ V.cell? ⟨w.heap.size, 1, none⟩ = some (.slice pe nE ce) ∧ V.cell? ⟨w.heap.size, 2, none⟩ = some (.slice pa nA ca) ∧ V.cell? ⟨w.heap.size, 3, none⟩ = some (.slice pw nW cw)) := fun V h =>
      ⟨(h.cell (cell_lt c0)).trans c0, (h.cell (cell_lt c1)).trans c1, (h.cell (cell_lt c2)).trans c2, (h.cell (cell_lt c3)).trans c3⟩
    clear hr hT hnm hLd hW1 b1 hS t1 t2 t3 t4 hE hF hs hU u1 u2 u3 HTI HLI hnE hnA hnW c0 c1 c2 c3
    go_enter Tryd.func6, Tryd.ntmps6
    go_wp2_with fail
    rw [← HW1.out]
    refine CT.out.mono ?_
    rintro e w2 ⟨rfl, hb⟩
    have HB2 : Hid (Below W1.heap.size W1 w2) := hb
    obtain ⟨k0, k1, k2, k3⟩ := KS.out _ HB2.out
    clear hb CT
    go_wp2_with fail
    refine (CC.out _ HB2.out).mono ?_
    rintro e w3 ⟨ve', va', vw', rfl, hT3, hb⟩
    have HB3 := Lib.hid (HB2.out.trans (hb.mono HB2.out.size))
    obtain ⟨pe', ce', rfl⟩ := hT3.e.form
    obtain ⟨pa', ca', rfl⟩ := hT3.a.form
    obtain ⟨pw', cw', rfl⟩ := hT3.w.form
    rw [← HNE.out, ← HNA.out, ← HNW.out] at hT3
    rw [← HNE.out, ← HNA.out, ← HNW.out]
    obtain ⟨X, hX⟩ : ∃ X, X = w3.alloc (.cells #[.string (mkS t.name), .slice pe' nE ce', .slice pa' nA ca', .slice pw' nW cw'] 26) := ⟨_, rfl⟩
    have bX : Below w3.heap.size w3 X := by rw [hX]; exact (Below.refl _ _).alloc (Nat.le_refl _) _
    have hxX : X.heap[w3.heap.size]? = some (.cells #[.string (mkS t.name), .slice pe' nE ce', .slice pa' nA ca', .slice pw' nW cw'] 26 (0, 0)) := by rw [hX]; exact heap_alloc_at rfl
    have HTX := Lib.hid (hT3.below bX)
    have HBX := Lib.hid (HB3.out.trans (bX.mono HB3.out.size))
    have KX : Hid (∀ V, Below X.heap.size X V → V.cell? ⟨w3.heap.size, 0, none⟩ = some (.string (mkS t.name)) ∧ V.cell? ⟨w3.heap.size, 1, none⟩ = some (.slice pe' nE ce') ∧ V.cell? ⟨w3.heap.size, 2, none⟩ = some (.slice pa' nA ca') ∧ V.cell? ⟨w3.heap.size, 3, none⟩ = some (.slice pw' nW cw')) := fun V h => (four_cells (heap_below h hxX)).1
    have HX := Lib.hid hX
    clear hb hT3 k0 k1 k2 k3 CC hX hxX bX
    obtain ⟨x0, x1, x2, x3⟩ := KX.out _ (Below.refl _ _)
    go_upto_region 4 with fail
    rw [← HX.out]
    go_wp2_with fail
    refine (CSl.out _ _ _ _ HTX.out HBX.out).mono ?_
    rintro e w4 ⟨xe, xa, xw, rfl, hT4, hb⟩
    have HXB4 : Hid (Below X.heap.size X w4) := hb
    obtain ⟨qe, de, rfl⟩ := hT4.e.form
    obtain ⟨qa, da, rfl⟩ := hT4.a.form
    obtain ⟨qw, dw, rfl⟩ := hT4.w.form
    obtain ⟨nU, hnU⟩ : ∃ n, n = mkS U.name := ⟨_, rfl⟩
    obtain ⟨Y, hY⟩ : ∃ Y, Y = w4.alloc (.cells #[.string (mkS U.name), .slice qe U.elems.length de, .slice qa U.above.length da, .slice qw U.wrong.length dw] 26) := ⟨_, rfl⟩
    have bY : Below w4.heap.size w4 Y := by rw [hY]; exact (Below.refl _ _).alloc (Nat.le_refl _) _
    have hyY : Y.heap[w4.heap.size]? = some (.cells #[.string (mkS U.name), .slice qe U.elems.length de, .slice qa U.above.length da, .slice qw U.wrong.length dw] 26 (0, 0)) := by rw [hY]; exact heap_alloc_at rfl
    have HXY := Lib.hid (HXB4.out.trans (bY.mono HXB4.out.size))
    have HTY := Lib.hid (hT4.below bY)
    have KY : Hid (∀ V, Below Y.heap.size Y V → V.cell? ⟨w4.heap.size, 0, none⟩ = some (.string (mkS U.name)) ∧ V.cell? ⟨w4.heap.size, 1, none⟩ = some (.slice qe U.elems.length de) ∧ V.cell? ⟨w4.heap.size, 2, none⟩ = some (.slice qa U.above.length da) ∧ V.cell? ⟨w4.heap.size, 3, none⟩ = some (.slice qw U.wrong.length dw)) := fun V h => (four_cells (heap_below h hyY)).1
    have HYI := Lib.hid hY
    clear hb hT4 hY hyY bY x0 x1 x2 x3 CSl hnU
    obtain ⟨x0, x1, x2, x3⟩ := KX.out _ HXY.out
    go_upto_region 5 with fail
    rw [← HYI.out]
    go_wp2_with fail
    refine (CX.out _ _ _ _ (HTX.out.below HXY.out) (HBX.out.trans (HXY.out.mono HBX.out.size))).mono ?_
    rintro e w5 ⟨rfl, hb⟩
    have HY5 : Hid (Below Y.heap.size Y w5) := hb
    have HX5 := Lib.hid (HXY.out.trans (hb.mono HXY.out.size))
    have HB5 := Lib.hid (HBX.out.trans (HX5.out.mono HBX.out.size))
    clear hb x0 x1 x2 x3 CX
    obtain ⟨k0, k1, k2, k3⟩ := KS.out _ HB5.out
    go_wp2_with fail
    refine (DSl.out _ HB5.out).mono ?_
    rintro e w6 ⟨xe, xa, xw, rfl, hT6, hb⟩
    have HY6 := Lib.hid (HY5.out.trans (hb.mono HY5.out.size))
    obtain ⟨re, fe, rfl⟩ := hT6.e.form
    obtain ⟨ra, fa, rfl⟩ := hT6.a.form
    obtain ⟨rw', fw, rfl⟩ := hT6.w.form
    obtain ⟨Z, hZ⟩ : ∃ Z, Z = w6.alloc (.cells #[.string (mkS U.name), .slice re U.elems.length fe, .slice ra U.above.length fa, .slice rw' U.wrong.length fw] 26) := ⟨_, rfl⟩
    have bZ : Below w6.heap.size w6 Z := by rw [hZ]; exact (Below.refl _ _).alloc (Nat.le_refl _) _
    have hzZ : Z.heap[w6.heap.size]? = some (.cells #[.string (mkS U.name), .slice re U.elems.length fe, .slice ra U.above.length fa, .slice rw' U.wrong.length fw] 26 (0, 0)) := by rw [hZ]; exact heap_alloc_at rfl
    have HYZ := Lib.hid (HY6.out.trans (bZ.mono HY6.out.size))
    have HXZ := Lib.hid (HXY.out.trans (HYZ.out.mono HXY.out.size))
    have HBZ := Lib.hid (HBX.out.trans (HXZ.out.mono HBX.out.size))
    have HTZ := Lib.hid (hT6.below bZ)
    have KZ : Hid (∀ V, Below Z.heap.size Z V → V.cell? ⟨w6.heap.size, 0, none⟩ = some (.string (mkS U.name)) ∧ V.cell? ⟨w6.heap.size, 1, none⟩ = some (.slice re U.elems.length fe) ∧ V.cell? ⟨w6.heap.size, 2, none⟩ = some (.slice ra U.above.length fa) ∧ V.cell? ⟨w6.heap.size, 3, none⟩ = some (.slice rw' U.wrong.length fw)) := fun V h => (four_cells (heap_below h hzZ)).1
    have HZI := Lib.hid hZ
    clear hb hT6 hZ hzZ bZ k0 k1 k2 k3 DSl
    obtain ⟨k0, k1, k2, k3⟩ := KS.out _ HBZ.out
    go_upto_region 7 with fail
    rw [← HZI.out]
    go_wp2_with fail
    refine (DX.out _ HBZ.out).mono ?_
    rintro e w7 ⟨rfl, hb⟩
    have HZ7 : Hid (Below Z.heap.size Z w7) := hb
    have HY7 := Lib.hid (HYZ.out.trans (hb.mono HYZ.out.size))
    clear hb k0 k1 k2 k3 DX
    obtain ⟨y0, y1, y2, y3⟩ := KY.out _ HY7.out
    obtain ⟨z0, z1, z2, z3⟩ := KZ.out _ HZ7.out
    go_wp2_with fail
    refine (CU.out _ _ _ _ _ _ _ (HTY.out.below HY7.out) (HTZ.out.below HZ7.out)).mono ?_
    rintro e w8 ⟨rfl, hb⟩
    have HZ8 := Lib.hid (HZ7.out.trans (hb.mono HZ7.out.size))
    have HX8 := Lib.hid (HXZ.out.trans (HZ8.out.mono HXZ.out.size))
    have HB8 := Lib.hid (HBX.out.trans (HX8.out.mono HBX.out.size))
    clear hb y0 y1 y2 y3 z0 z1 z2 z3 CU
    obtain ⟨k0, k1, k2, k3⟩ := KS.out _ HB8.out
    obtain ⟨x0, x1, x2, x3⟩ := KX.out _ HX8.out
    have g1 : ((E : Int) == (E : Int)) = true := by simp
    have g2 : ((F : Int) == (F : Int)) = true := by simp
    have g3 : (s.toList == s.toList) = true := by simp
    go_wp2_with fail
    refine (CV.out _ _ _ _ (HTX.out.below HX8.out) HB8.out).mono ?_
    rintro e w9 ⟨rfl, hb⟩
    have HB9 := Lib.hid (HBW.out _ (HB8.out.trans (hb.mono HB8.out.size)))
    clear hb k0 k1 k2 k3 x0 x1 x2 x3 CV
    go_wp2_with fail
    refine (CA.out _ HB9.out).mono ?_
    rintro e w10 ⟨rfl, hb⟩
    have HB10 := Lib.hid (HB9.out.trans (hb.mono HB9.out.size))
    clear hb
    go_wp2
    go_ret
    exact ⟨rfl, HB10.out⟩
end Go.Proofs.YtmooikdodbjgpaaDoor.Or
