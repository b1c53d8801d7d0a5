/- OrderProves is true of every table. -/
import Derived.Test.YtgbjelglifihnaaDoorOrGc
import Derived.Test.YtgbjelglifihnaaDoorOrBk
import Derived.Deep.Cut
set_option linter.unusedVariables false
set_option linter.unusedSimpArgs false
namespace Go.Proofs.YtgbjelglifihnaaDoor.Or
open Go.RowKit Go.Shelf

set_option maxRecDepth 100000 in
set_option maxHeartbeats 8000000 in
theorem proves_any (HJ : JoinOk) (t : Tab) (ve va vw : Value) (w : World) (hT : TabIn w ve va vw t) (hnm : t.name.length ≤ 281474976710656) (hLd : LaidOk w) :
    Calls Tryd.prog 3 #[tabV t ve va vw] w fun e w' => e = .returned (.bool true) ∧ Below w.heap.size w w' := by
  obtain ⟨W1, hW1⟩ : ∃ W1, W1 = (w.alloc (Obj.cells #[.string (mkS t.name), ve, va, vw] 26)) := ⟨_, rfl⟩
  have b1 : Below w.heap.size w W1 := by rw [hW1]; exact (Below.refl _ _).alloc (Nat.le_refl _) _
  have c0 : W1.cell? ⟨w.heap.size, 0, none⟩ = some (.string (mkS t.name)) := by rw [hW1]; simp [go_sem]
  have c1 : W1.cell? ⟨w.heap.size, 1, none⟩ = some ve := by rw [hW1]; simp [go_sem]
  have c2 : W1.cell? ⟨w.heap.size, 2, none⟩ = some va := by rw [hW1]; simp [go_sem]
  have c3 : W1.cell? ⟨w.heap.size, 3, none⟩ = some vw := by rw [hW1]; simp [go_sem]
  have CT := Lib.hid (thin_any t ve va vw W1 (hT.below b1) hnm)
  have CA : Hid (∀ W, Below w.heap.size w W → Calls Tryd.prog 16 #[] W fun e w' => e = .returned (.bool true) ∧ Below W.heap.size W w') := fun W h => awake_any HJ W (hLd.below h)
  have HW1 := Lib.hid hW1; have HB1 := Lib.hid b1
  have HTI : Hid (∀ W, Below w.heap.size w W → TabIn W ve va vw t) := fun W h => hT.below h
  have HLI : Hid (∀ W, Below w.heap.size w W → LaidOk W) := fun W h => hLd.below h
  obtain ⟨pe, ce, rfl⟩ := hT.e.form
  obtain ⟨pa, ca, rfl⟩ := hT.a.form
  obtain ⟨pw, cw, rfl⟩ := hT.w.form
  cases hr : thinF t with
  | false =>
    rw [hr] at CT
    unfold tabV at CT ⊢
    clear hr hT hnm hLd hW1 b1 c0 c1 c2 c3
    go_enter Tryd.func3, Tryd.ntmps3
    go_wp2_with fail
    rw [← HW1.out]
    refine CT.out.mono ?_
    rintro e w2 ⟨rfl, hb⟩
    have HB2 := Lib.hid (HB1.out.trans (hb.mono HB1.out.size))
    clear hb
    go_wp2_with fail
    refine (CA.out _ HB2.out).mono ?_
    rintro e w3 ⟨rfl, hb⟩
    have HB3 := Lib.hid (HB2.out.trans (hb.mono HB2.out.size))
    clear hb
    go_wp2
    go_ret
    exact ⟨rfl, HB3.out⟩
  | true =>
    rw [hr] at CT
    have hS := thin_small hr
    obtain ⟨t1, t2, t3, t4⟩ := thin_lens hr
    obtain ⟨E, hE⟩ : ∃ E, E = chkE t := ⟨_, rfl⟩
    obtain ⟨G, hG⟩ : ∃ G, G = latE t [] := ⟨_, rfl⟩
    obtain ⟨P, hP⟩ : ∃ P, P = proveF t := ⟨_, rfl⟩
    obtain ⟨K, A, B⟩ := P
    have CC : Hid (∀ W, Below w.heap.size w W → Calls Tryd.prog 17 #[tabV t (.slice pe t.elems.length ce) (.slice pa t.above.length ca) (.slice pw t.wrong.length cw)] W fun e w' => ∃ ve' va' vw', e = .returned (tabV t ve' va' vw') ∧ TabIn w' ve' va' vw' t ∧ Below W.heap.size W w') := fun W h => copy_any t _ _ _ W (HTI.out W h) t1 t2 t3 t4
    have CK : Hid (∀ W ve va vw, TabIn W ve va vw t → Below w.heap.size w W → Calls Tryd.prog 18 #[tabV t ve va vw] W fun e w' => e = .returned (.int .i64 (E : Nat)) ∧ Below W.heap.size W w') := fun W ve va vw h hb => by rw [hE]; exact check_any t ve va vw W h hS (HLI.out W hb)
    have CP : Hid (∀ W ve va vw, TabIn W ve va vw t → Below w.heap.size w W → Calls Tryd.prog 19 #[tabV t ve va vw] W fun e w' => e = .returned (.tuple #[.agg #[.int .u8 (K : Nat), .int .i64 (A : Nat), .int .i64 (B : Nat)], .int .i64 (G : Nat)]) ∧ Below W.heap.size W w') := fun W ve va vw h hb => by
      have := prove_any t ve va vw W h hS (HLI.out W hb)
      rw [← hP, ← hG] at this; exact this
    have CR : Hid (∀ W, Below w.heap.size w W → Calls Tryd.prog 20 #[tabV t (.slice pe t.elems.length ce) (.slice pa t.above.length ca) (.slice pw t.wrong.length cw)] W fun e w' => e = .returned (.tuple #[.agg #[.int .u8 (K : Nat), .int .i64 (A : Nat), .int .i64 (B : Nat)], .int .i64 (G : Nat)]) ∧ Below W.heap.size W w') := fun W h => by
      have := refProve_any t _ _ _ W (HTI.out W h) hS
      rw [← hP, ← hG] at this; exact this
    have CQ : Hid (∀ W, Below w.heap.size w W → Calls Tryd.prog 21 #[tabV t (.slice pe t.elems.length ce) (.slice pa t.above.length ca) (.slice pw t.wrong.length cw)] W fun e w' => e = .returned (.int .i64 (E : Nat)) ∧ Below W.heap.size W w') := fun W h => by rw [hE]; exact refCheck_any t _ _ _ W (HTI.out W h) hS
    have CS : Hid (∀ W ve2 va2 vw2, TabIn W ve2 va2 vw2 t → Below w.heap.size w W → Calls Tryd.prog 22 #[tabV t ve2 va2 vw2, tabV t (.slice pe t.elems.length ce) (.slice pa t.above.length ca) (.slice pw t.wrong.length cw)] W fun e w' => e = .returned (.bool true) ∧ Below W.heap.size W w') := fun W ve2 va2 vw2 h2 hb => sameTable_any t _ _ _ _ _ _ W h2 (HTI.out W hb) t1 t2 t3
    obtain ⟨nE, hnE⟩ : ∃ n, n = t.elems.length := ⟨_, rfl⟩
    obtain ⟨nA, hnA⟩ : ∃ n, n = t.above.length := ⟨_, rfl⟩
    obtain ⟨nW, hnW⟩ : ∃ n, n = t.wrong.length := ⟨_, rfl⟩
    unfold tabV at CT CC CK CP CR CQ CS ⊢
    rw [← hnE] at CT CC CR CQ CS HW1 c1 ⊢
    rw [← hnA] at CT CC CR CQ CS HW1 c2 ⊢
    rw [← hnW] at CT CC CR CQ CS HW1 c3 ⊢
    have HNE := Lib.hid hnE; have HNA := Lib.hid hnA; have HNW := Lib.hid hnW
    clear hr hT hnm hLd hW1 b1 hS t1 t2 t3 t4 hE hG hP HTI HLI hnE hnA hnW
    have KS : Hid (∀ U, Below W1.heap.size W1 U → U.cell? ⟨w.heap.size, 0, none⟩ = some (.string (mkS t.name)) ∧ U.cell? ⟨w.heap.size, 1, none⟩ = some (.slice pe nE ce) ∧ U.cell? ⟨w.heap.size, 2, none⟩ = some (.slice pa nA ca) ∧ U.cell? ⟨w.heap.size, 3, none⟩ = some (.slice pw nW cw)) := fun U h =>
      ⟨(h.cell (cell_lt c0)).trans c0, (h.cell (cell_lt c1)).trans c1, (h.cell (cell_lt c2)).trans c2, (h.cell (cell_lt c3)).trans c3⟩
    have HBW : Hid (∀ U, Below W1.heap.size W1 U → Below w.heap.size w U) := fun U h => HB1.out.trans (h.mono HB1.out.size)
    clear c0 c1 c2 c3
    go_enter Tryd.func3, Tryd.ntmps3
    go_wp2_with fail
    rw [← HW1.out]
    refine CT.out.mono ?_
    rintro e w2 ⟨rfl, hb⟩
    have HB2 : Hid (Below W1.heap.size W1 w2) := hb
    obtain ⟨k0, k1, k2, k3⟩ := KS.out _ HB2.out
    clear hb CT
    go_wp2_with fail
    refine (CC.out _ (HBW.out _ HB2.out)).mono ?_
    rintro e w3 ⟨ve', va', vw', rfl, hT3, hb⟩
    have HB3 := Lib.hid (HB2.out.trans (hb.mono HB2.out.size))
    obtain ⟨pe', ce', rfl⟩ := hT3.e.form
    obtain ⟨pa', ca', rfl⟩ := hT3.a.form
    obtain ⟨pw', cw', rfl⟩ := hT3.w.form
    rw [← HNE.out, ← HNA.out, ← HNW.out] at hT3
    rw [← HNE.out, ← HNA.out, ← HNW.out]
    have HT3 := Lib.hid hT3
    clear hb hT3 k0 k1 k2 k3
    obtain ⟨X, hX⟩ : ∃ X, X = w3.alloc (.cells #[.string (mkS t.name), .slice pe' nE ce', .slice pa' nA ca', .slice pw' nW cw'] 26) := ⟨_, rfl⟩
    have bX : Below w3.heap.size w3 X := by rw [hX]; exact (Below.refl _ _).alloc (Nat.le_refl _) _
    have x0 : X.cell? ⟨w3.heap.size, 0, none⟩ = some (.string (mkS t.name)) := by rw [hX]; simp [go_sem]
    have x1 : X.cell? ⟨w3.heap.size, 1, none⟩ = some (.slice pe' nE ce') := by rw [hX]; simp [go_sem]
    have x2 : X.cell? ⟨w3.heap.size, 2, none⟩ = some (.slice pa' nA ca') := by rw [hX]; simp [go_sem]
    have x3 : X.cell? ⟨w3.heap.size, 3, none⟩ = some (.slice pw' nW cw') := by rw [hX]; simp [go_sem]
    have KX : Hid (∀ U, Below X.heap.size X U → U.cell? ⟨w3.heap.size, 0, none⟩ = some (.string (mkS t.name)) ∧ U.cell? ⟨w3.heap.size, 1, none⟩ = some (.slice pe' nE ce') ∧ U.cell? ⟨w3.heap.size, 2, none⟩ = some (.slice pa' nA ca') ∧ U.cell? ⟨w3.heap.size, 3, none⟩ = some (.slice pw' nW cw')) := fun U h =>
      ⟨(h.cell (cell_lt x0)).trans x0, (h.cell (cell_lt x1)).trans x1, (h.cell (cell_lt x2)).trans x2, (h.cell (cell_lt x3)).trans x3⟩
    have HBX : Hid (∀ U, Below X.heap.size X U → Below W1.heap.size W1 U) := fun U h => (HB3.out.trans (bX.mono HB3.out.size)).trans (h.mono (HB3.out.trans (bX.mono HB3.out.size)).size)
    have HTX : Hid (∀ U, Below X.heap.size X U → TabIn U (.slice pe' nE ce') (.slice pa' nA ca') (.slice pw' nW cw') t) := fun U h => HT3.out.below (bX.trans (h.mono bX.size))
    have HX := Lib.hid hX
    clear hX bX x0 x1 x2 x3
    go_upto_region 4 with fail
    rw [← HX.out]
    obtain ⟨u0, u1, u2, u3⟩ := KX.out _ (Below.refl _ _)
    go_wp2_with fail
    refine (CK.out _ _ _ _ (HTX.out _ (Below.refl _ _)) (HBW.out _ (HBX.out _ (Below.refl _ _)))).mono ?_
    rintro e w4 ⟨rfl, hb⟩
    have HB4 : Hid (Below X.heap.size X w4) := hb
    clear hb u0 u1 u2 u3
    obtain ⟨u0, u1, u2, u3⟩ := KX.out _ HB4.out
    go_wp2_with fail
    refine (CP.out _ _ _ _ (HTX.out _ HB4.out) (HBW.out _ (HBX.out _ HB4.out))).mono ?_
    rintro e w5 ⟨rfl, hb⟩
    have HB5 := Lib.hid (HB4.out.trans (hb.mono HB4.out.size))
    clear hb u0 u1 u2 u3
    obtain ⟨Y, hY⟩ : ∃ Y, Y = w5.alloc (.cells #[.int .u8 (K : Nat), .int .i64 (A : Nat), .int .i64 (B : Nat)] 33) := ⟨_, rfl⟩
    have bY : Below w5.heap.size w5 Y := by rw [hY]; exact (Below.refl _ _).alloc (Nat.le_refl _) _
    have y0 : Y.cell? ⟨w5.heap.size, 0, none⟩ = some (.int .u8 (K : Nat)) := by rw [hY]; simp [go_sem]
    have y1 : Y.cell? ⟨w5.heap.size, 1, none⟩ = some (.int .i64 (A : Nat)) := by rw [hY]; simp [go_sem]
    have y2 : Y.cell? ⟨w5.heap.size, 2, none⟩ = some (.int .i64 (B : Nat)) := by rw [hY]; simp [go_sem]
    have KY : Hid (∀ U, Below Y.heap.size Y U → U.cell? ⟨w5.heap.size, 0, none⟩ = some (.int .u8 (K : Nat)) ∧ U.cell? ⟨w5.heap.size, 1, none⟩ = some (.int .i64 (A : Nat)) ∧ U.cell? ⟨w5.heap.size, 2, none⟩ = some (.int .i64 (B : Nat))) := fun U h =>
      ⟨(h.cell (cell_lt y0)).trans y0, (h.cell (cell_lt y1)).trans y1, (h.cell (cell_lt y2)).trans y2⟩
    have HBY : Hid (∀ U, Below Y.heap.size Y U → Below X.heap.size X U) := fun U h => (HB5.out.trans (bY.mono HB5.out.size)).trans (h.mono (HB5.out.trans (bY.mono HB5.out.size)).size)
    have HY := Lib.hid hY
    clear hY bY y0 y1 y2
    go_upto_region 6 with fail
    rw [← HY.out]
    obtain ⟨k0, k1, k2, k3⟩ := KS.out _ (HBX.out _ (HBY.out _ (Below.refl _ _)))
    go_wp2_with fail
    refine (CR.out _ (HBW.out _ (HBX.out _ (HBY.out _ (Below.refl _ _))))).mono ?_
    rintro e w6 ⟨rfl, hb⟩
    have HB6 : Hid (Below Y.heap.size Y w6) := hb
    clear hb k0 k1 k2 k3
    obtain ⟨Z, hZ⟩ : ∃ Z, Z = w6.alloc (.cells #[.int .u8 (K : Nat), .int .i64 (A : Nat), .int .i64 (B : Nat)] 33) := ⟨_, rfl⟩
    have bZ : Below w6.heap.size w6 Z := by rw [hZ]; exact (Below.refl _ _).alloc (Nat.le_refl _) _
    have z0 : Z.cell? ⟨w6.heap.size, 0, none⟩ = some (.int .u8 (K : Nat)) := by rw [hZ]; simp [go_sem]
    have z1 : Z.cell? ⟨w6.heap.size, 1, none⟩ = some (.int .i64 (A : Nat)) := by rw [hZ]; simp [go_sem]
    have z2 : Z.cell? ⟨w6.heap.size, 2, none⟩ = some (.int .i64 (B : Nat)) := by rw [hZ]; simp [go_sem]
    have KZ : Hid (∀ U, Below Z.heap.size Z U → U.cell? ⟨w6.heap.size, 0, none⟩ = some (.int .u8 (K : Nat)) ∧ U.cell? ⟨w6.heap.size, 1, none⟩ = some (.int .i64 (A : Nat)) ∧ U.cell? ⟨w6.heap.size, 2, none⟩ = some (.int .i64 (B : Nat))) := fun U h =>
      ⟨(h.cell (cell_lt z0)).trans z0, (h.cell (cell_lt z1)).trans z1, (h.cell (cell_lt z2)).trans z2⟩
    have HBZ : Hid (∀ U, Below Z.heap.size Z U → Below Y.heap.size Y U) := fun U h => (HB6.out.trans (bZ.mono HB6.out.size)).trans (h.mono (HB6.out.trans (bZ.mono HB6.out.size)).size)
    have HZ := Lib.hid hZ
    clear hZ bZ z0 z1 z2
    go_upto_region 7 with fail
    rw [← HZ.out]
    obtain ⟨k0, k1, k2, k3⟩ := KS.out _ (HBX.out _ (HBY.out _ (HBZ.out _ (Below.refl _ _))))
    go_wp2_with fail
    refine (CQ.out _ (HBW.out _ (HBX.out _ (HBY.out _ (HBZ.out _ (Below.refl _ _)))))).mono ?_
    rintro e w7 ⟨rfl, hb⟩
    have HB7 : Hid (Below Z.heap.size Z w7) := hb
    clear hb k0 k1 k2 k3
    obtain ⟨k0, k1, k2, k3⟩ := KS.out _ (HBX.out _ (HBY.out _ (HBZ.out _ HB7.out)))
    obtain ⟨u0, u1, u2, u3⟩ := KX.out _ (HBY.out _ (HBZ.out _ HB7.out))
    obtain ⟨y0, y1, y2⟩ := KY.out _ (HBZ.out _ HB7.out)
    obtain ⟨z0, z1, z2⟩ := KZ.out _ HB7.out
    go_wp2_with fail
    refine (CS.out _ _ _ _ (HTX.out _ (HBY.out _ (HBZ.out _ HB7.out))) (HBW.out _ (HBX.out _ (HBY.out _ (HBZ.out _ HB7.out))))).mono ?_
    rintro e w8 ⟨rfl, hb⟩
    have HB8 := Lib.hid (HB7.out.trans (hb.mono HB7.out.size))
    clear hb k0 k1 k2 k3 u0 u1 u2 u3 y0 y1 y2 z0 z1 z2
    go_wp2_with fail
    refine (CA.out _ (HBW.out _ (HBX.out _ (HBY.out _ (HBZ.out _ HB8.out))))).mono ?_
    rintro e w9 ⟨rfl, hb⟩
    have HB9 := Lib.hid (HB8.out.trans (hb.mono HB8.out.size))
    clear hb
    go_wp2
    go_ret
    exact ⟨rfl, HBW.out _ (HBX.out _ (HBY.out _ (HBZ.out _ HB9.out)))⟩
end Go.Proofs.YtgbjelglifihnaaDoor.Or
