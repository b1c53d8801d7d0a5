/- OrderSlim. -/
import Derived.Test.YtfhnigpjmljhbaaDoorOrMd
import Derived.Test.YtfhnigpjmljhbaaDoorOrMf
import Derived.Deep.CutRange
import Derived.Deep.RegionLaw
import Derived.Deep.Cut
set_option linter.unusedVariables false
set_option linter.unusedSimpArgs false
namespace Go.Proofs.YtfhnigpjmljhbaaDoor.Or
open Go.RowKit Go.Shelf

set_option maxRecDepth 100000 in
set_option maxHeartbeats 16000000 in
theorem slim_any (HJ : JoinOk) (t : Tab) (ve va vw : Value) (w : World) (hT : TabIn w ve va vw t) (hnm : t.name.length ≤ 281474976710656) (hLd : LaidOk w) :
    Calls Tryd.prog 3 #[tabV t ve va vw] w fun e w' => e = .returned (.bool true) ∧ Below w.heap.size w w' := by
  obtain ⟨iI, hIi, hI0, hI1, hI2⟩ := info_parts infoI
  obtain ⟨W1, hW1⟩ : ∃ W1, W1 = w.alloc (Obj.cells #[.string (mkS t.name), ve, va, vw] 26) := ⟨_, rfl⟩
  have b1 : Below w.heap.size w W1 := by rw [hW1]; exact (Below.refl _ _).alloc (Nat.le_refl _) _
  have c0 : W1.cell? ⟨w.heap.size, 0, none⟩ = some (.string (mkS t.name)) := by rw [hW1]; simp [go_sem]
  have c1 : W1.cell? ⟨w.heap.size, 1, none⟩ = some ve := by rw [hW1]; simp [go_sem]
  have c2 : W1.cell? ⟨w.heap.size, 2, none⟩ = some va := by rw [hW1]; simp [go_sem]
  have c3 : W1.cell? ⟨w.heap.size, 3, none⟩ = some vw := by rw [hW1]; simp [go_sem]
  have CT := Lib.hid (right_any t ve va vw W1 (hT.below b1) hnm)
  have HW1 := Lib.hid hW1; have HB1 := Lib.hid b1
  cases hr : (thinF t && decide (latE t [] = 0)) with
  | false =>
    have CA : Hid (∀ W, Below w.heap.size w W → Calls Tryd.prog 9 #[] W fun e w' => e = .returned (.bool true) ∧ Below W.heap.size W w') := fun W h => awake_any HJ W (hLd.below h)
    obtain ⟨pe, ce, rfl⟩ := hT.e.form
    obtain ⟨pa, ca, rfl⟩ := hT.a.form
    obtain ⟨pw, cw, rfl⟩ := hT.w.form
    rw [hr] at CT
    unfold tabV at CT ⊢
    clear hr hT hnm hLd hW1 b1
    go_enter Tryd.func3, Tryd.ntmps3
    go_wp2_with fail
    rw [← HW1.out]
    refine CT.out.mono ?_
    rintro e w2 ⟨rfl, hb⟩
    have HB2 := Lib.hid (HB1.out.trans (hb.mono HB1.out.size))
    clear hb
    go_wp2_with fail
    refine (CA.out _ HB2.out).mono ?_
    rintro e w3 ⟨rfl, hb⟩
    have HB3 := Lib.hid (HB2.out.trans (hb.mono HB2.out.size))
    clear hb
    go_wp2
    go_ret
    exact ⟨rfl, HB3.out⟩
  | true =>
    rw [hr] at CT
    simp only [Bool.and_eq_true, decide_eq_true_eq] at hr
    have HC := Lib.hid (sl_calls HJ t w hnm hLd hr.1 hr.2)
    obtain ⟨s, hs⟩ : ∃ s, s = slimT t := ⟨_, rfl⟩
    obtain ⟨nm, hn⟩ : ∃ x, x = mkS t.name := ⟨_, rfl⟩
    obtain ⟨n, hnn⟩ : ∃ x, x = t.elems.length := ⟨_, rfl⟩
    obtain ⟨U, hU⟩ : ∃ U : Nat → List Int, U = fun k => ints (ups t.R t.n [k]) := ⟨_, rfl⟩
    rw [← hs, ← hn, ← hnn, ← hU] at HC
    obtain ⟨n1, n12, l1, l3, l2, le, lw, lrow⟩ := HC.out.len
    have l4 : t.above.length = n := by
      have := (latE_zero hr.2).1
      rw [hnn]; exact (frm_len this).2.2.1
    obtain ⟨pe, ce, pa, ca, pw, cw, rfl, rfl, rfl⟩ := tab_form hT l1 l4 l3
    have lE : s.elems.length = n := by rw [le]; exact l1
    have lW : s.wrong.length = n := by rw [lw]; exact l3
    obtain ⟨be, oe, rfl, hte⟩ := hT.e.cells (by omega)
    obtain ⟨bw, ow, rfl, htw⟩ := hT.w.cells (by omega)
    have TT : Hid (∀ V, Below W1.heap.size W1 V → TabIn V (.slice (some ⟨be, oe, none⟩) n ce) (.slice pa n ca) (.slice (some ⟨bw, ow, none⟩) n cw) t) := fun V h => hT.below (b1.trans (h.mono b1.size))
    have KS : Hid (∀ V, Below W1.heap.size W1 V → V.cell? ⟨w.heap.size, 0, none⟩ = some (.string nm) ∧ V.cell? ⟨w.heap.size, 1, none⟩ = some (.slice (some ⟨be, oe, none⟩) n ce) ∧ V.cell? ⟨w.heap.size, 2, none⟩ = some (.slice pa n ca) ∧ V.cell? ⟨w.heap.size, 3, none⟩ = some (.slice (some ⟨bw, ow, none⟩) n cw)) := fun V h => by
      rw [hn]
      exact ⟨(h.cell (cell_lt c0)).trans c0, (h.cell (cell_lt c1)).trans c1, (h.cell (cell_lt c2)).trans c2, (h.cell (cell_lt c3)).trans c3⟩
    obtain ⟨sE, hsE⟩ : ∃ f : Nat → ByteArray, f = fun i => mkS (t.elems.getD i []) := ⟨_, rfl⟩
    obtain ⟨sW, hsW⟩ : ∃ f : Nat → Bool, f = fun i => t.wrong.getD i false := ⟨_, rfl⟩
    have KE : Hid (∀ V, Below W1.heap.size W1 V → ∀ i, i < n → V.cell? ⟨be, oe + i, none⟩ = some (.string (sE i)) ∧ V.cell? ⟨bw, ow + i, none⟩ = some (.bool (sW i))) := fun V h i hi => by
      have h1 := hte i (by omega)
      have h2 := htw i (by omega)
      have hb := b1.trans (h.mono b1.size)
      rw [hsE, hsW]
      exact ⟨(hb.cell (cell_lt h1)).trans h1, (hb.cell (cell_lt h2)).trans h2⟩
    have SE : Hid (∀ V p1 c1 p2 c2 p3 c3, TabIn V (.slice p1 n c1) (.slice p2 n c2) (.slice p3 n c3) s → ∃ b1 o1 b3 o3, p1 = some ⟨b1, o1, none⟩ ∧ p3 = some ⟨b3, o3, none⟩ ∧ ∀ i, i < n → V.cell? ⟨b1, o1 + i, none⟩ = some (.string (sE i)) ∧ V.cell? ⟨b3, o3 + i, none⟩ = some (.bool (sW i))) := fun V p1 c1 p2 c2 p3 c3 h => by
      obtain ⟨x1, y1, rfl, h1⟩ := h.e.cells (by omega)
      obtain ⟨x3, y3, rfl, h3⟩ := h.w.cells (by omega)
      refine ⟨x1, y1, x3, y3, rfl, rfl, fun i hi => ?_⟩
      have g1 := h1 i (by omega)
      have g3 := h3 i (by omega)
      rw [le] at g1
      rw [lw] at g3
      rw [hsE, hsW]
      exact ⟨g1, g3⟩
    have SR : Hid (∀ k, k < n → (s.above.getD k []).length ≤ 12) := lrow
    have L2 : Hid (s.above.length = n) := l2
    have HBW : Hid (∀ V, Below W1.heap.size W1 V → Below w.heap.size w V) := fun V h => b1.trans (h.mono b1.size)
    unfold tabV at CT ⊢
    rw [← hn] at CT HW1 ⊢
    clear hr hT hnm hLd hW1 b1 c0 c1 c2 c3 hte htw hsE hsW hn hnn hU hs l1 l2 l3 l4 le lw lrow lE lW
    go_enter Tryd.func3, Tryd.ntmps3
    go_wp2_with fail
    rw [← HW1.out]
    refine CT.out.mono ?_
    rintro e w2 ⟨rfl, hb⟩
    have HB2 : Hid (Below W1.heap.size W1 w2) := hb
    obtain ⟨k0, k1, k2, k3⟩ := KS.out _ HB2.out
    clear hb CT
    go_wp2_with fail
    refine (HC.out.copyT _ _ _ _ _ _ _ (TT.out _ HB2.out)).mono ?_
    rintro e w3 ⟨p1, d1, p2, d2, p3, d3, rfl, hT3, hb⟩
    have HB3 := Lib.hid (HB2.out.trans (hb.mono HB2.out.size))
    have HT3 := Lib.hid hT3
    clear hb hT3 k0 k1 k2 k3
    go_wp2_with fail
    refine (HC.out.slimT _ _ _ _ _ _ _ (HBW.out _ HB3.out) HT3.out).mono ?_
    rintro e w4 ⟨q1, e1, q2, e2, q3, e3, rfl, hT4, hb⟩
    have HB4 := Lib.hid (HB3.out.trans (hb.mono HB3.out.size))
    obtain ⟨s1, y1, s3, y3, rfl, rfl, hse⟩ := SE.out _ _ _ _ _ _ _ hT4
    obtain ⟨X, hX⟩ : ∃ X, X = w4.alloc (.cells #[.string nm, .slice (some ⟨s1, y1, none⟩) n e1, .slice q2 n e2, .slice (some ⟨s3, y3, none⟩) n e3] 26) := ⟨_, rfl⟩
    have bX : Below w4.heap.size w4 X := by rw [hX]; exact (Below.refl _ _).alloc (Nat.le_refl _) _
    have hxX : X.heap[w4.heap.size]? = some (.cells #[.string nm, .slice (some ⟨s1, y1, none⟩) n e1, .slice q2 n e2, .slice (some ⟨s3, y3, none⟩) n e3] 26 (0, 0)) := by rw [hX]; exact heap_alloc_at rfl
    obtain ⟨q, hq⟩ : ∃ q, q = w4.heap.size := ⟨_, rfl⟩
    have HBX := Lib.hid (HB4.out.trans (bX.mono HB4.out.size))
    have TX : Hid (∀ V, Below X.heap.size X V → TabIn V (.slice (some ⟨s1, y1, none⟩) n e1) (.slice q2 n e2) (.slice (some ⟨s3, y3, none⟩) n e3) s) := fun V h => (hT4.below bX).below h
    have KX : Hid (∀ V, Below X.heap.size X V → V.cell? ⟨q, 0, none⟩ = some (.string nm) ∧ V.cell? ⟨q, 1, none⟩ = some (.slice (some ⟨s1, y1, none⟩) n e1) ∧ V.cell? ⟨q, 2, none⟩ = some (.slice q2 n e2) ∧ V.cell? ⟨q, 3, none⟩ = some (.slice (some ⟨s3, y3, none⟩) n e3)) := fun V h => by rw [hq]; exact (four_cells (heap_below h hxX)).1
    have KY : Hid (∀ V, Below X.heap.size X V → ∀ i, i < n → V.cell? ⟨s1, y1 + i, none⟩ = some (.string (sE i)) ∧ V.cell? ⟨s3, y3 + i, none⟩ = some (.bool (sW i))) := fun V h i hi => by
      obtain ⟨h1, h3⟩ := hse i hi
      have h2 := bX.trans (h.mono bX.size)
      exact ⟨(h2.cell (cell_lt h1)).trans h1, (h2.cell (cell_lt h3)).trans h3⟩
    have HX := Lib.hid hX; have HQ := Lib.hid hq
    have BX : Hid (∀ V, Below X.heap.size X V → Below W1.heap.size W1 V) := fun V h => HBX.out.trans (h.mono HBX.out.size)
    clear hb hT4 hX bX hxX hse
    go_upto_region 4 with fail
    rw [← HX.out, ← hq]
    clear hq
    obtain ⟨x0, x1, x2, x3⟩ := KX.out _ (Below.refl _ _)
    go_wp2_with fail
    refine (HC.out.isLat _ _ _ _ _ _ _ (TX.out _ (Below.refl _ _))).mono ?_
    rintro e w5 ⟨rfl, hb⟩
    have HX5 : Hid (Below X.heap.size X w5) := hb
    clear hb x0 x1 x2 x3
    obtain ⟨x0, x1, x2, x3⟩ := KX.out _ HX5.out
    obtain ⟨k0, k1, k2, k3⟩ := KS.out _ (BX.out _ HX5.out)
    have g0 : (nm.toList == nm.toList) = true := by simp
    go_upto_region 6 with fail
    go_wp2_with fail
    refine (HC.out.copyS _ _ _ _ _ _ _ (TX.out _ HX5.out)).mono ?_
    rintro e w6 ⟨r1, a1, r2, a2, r3, a3, cs, rfl, hT6, _, _, hb⟩
    have HX6 := Lib.hid (HX5.out.trans (hb.mono HX5.out.size))
    have HT6 := Lib.hid hT6
    clear hb hT6 x0 x1 x2 x3 k0 k1 k2 k3
    go_wp2_with fail
    refine (HC.out.slimS _ _ _ _ _ _ _ (HBW.out _ (BX.out _ HX6.out)) HT6.out).mono ?_
    rintro e w7 ⟨t1, b1, t2, b2, t3, b3, rfl, hT7, hb⟩
    have HX7 := Lib.hid (HX6.out.trans (hb.mono HX6.out.size))
    obtain ⟨Z, hZ⟩ : ∃ Z, Z = w7.alloc (.cells #[.string nm, .slice t1 n b1, .slice t2 n b2, .slice t3 n b3] 26) := ⟨_, rfl⟩
    have bZ : Below w7.heap.size w7 Z := by rw [hZ]; exact (Below.refl _ _).alloc (Nat.le_refl _) _
    have hzZ : Z.heap[w7.heap.size]? = some (.cells #[.string nm, .slice t1 n b1, .slice t2 n b2, .slice t3 n b3] 26 (0, 0)) := by rw [hZ]; exact heap_alloc_at rfl
    have HXZ := Lib.hid (HX7.out.trans (bZ.mono HX7.out.size))
    have HTZ := Lib.hid (hT7.below bZ)
    have HZ := Lib.hid hZ; have HZZ := Lib.hid hzZ
    clear hb hT7 hZ bZ hzZ
    go_upto_region 7 with fail
    rw [← HZ.out]
    obtain ⟨x0, x1, x2, x3⟩ := KX.out _ HXZ.out
    obtain ⟨⟨z0, z1, z2, z3⟩, _⟩ := four_cells HZZ.out
    go_wp2_with fail
    refine (HC.out.same _ _ _ _ _ _ _ _ _ _ _ _ _ HTZ.out (TX.out _ HXZ.out)).mono ?_
    rintro e w8 ⟨rfl, hb⟩
    have HX8 := Lib.hid (HXZ.out.trans (hb.mono HXZ.out.size))
    clear hb x0 x1 x2 x3 z0 z1 z2 z3
    go_wp2_with fail
    go_loopw [7] (fun i wx => ∃ a : Nat, a ≤ n ∧ i = .int .i64 a ∧ Hid (Below X.heap.size X wx)) (fun i _ => n - (intOf i).toNat)
    case atStart => exact ⟨0, Nat.zero_le _, rfl, HX8.out⟩
    case round =>
      clear g0 HX8 HXZ HTZ HZ HZZ HX7 HT6 HX6 HX5
      obtain ⟨a, han, rfl, hb⟩ := hrel
      obtain ⟨k0, k1, k2, k3⟩ := KS.out _ (BX.out _ hb.out)
      by_cases hlt : a < n
      · go_wp2_with fail
        refine (HC.out.copyT _ _ _ _ _ _ _ (TT.out _ (BX.out _ hb.out))).mono ?_
        rintro e w9 ⟨p1, d1, p2, d2, p3, d3, rfl, hT9, hb9⟩
        have HB9 := Lib.hid (hb.out.trans (hb9.mono hb.out.size))
        have HT9 := Lib.hid hT9
        clear hb9 hT9 k0 k1 k2 k3
        go_wp2_with fail
        refine (HC.out.reachT _ _ _ _ _ _ _ a (HBW.out _ (BX.out _ HB9.out)) hlt HT9.out).mono ?_
        rintro e w10 ⟨v1, rfl, hv1, hb9⟩
        have HB10 := Lib.hid (HB9.out.trans (hb9.mono HB9.out.size))
        have HV1 := Lib.hid hv1
        obtain ⟨f1, h1, rfl⟩ := hv1.form
        clear hb9 hv1
        obtain ⟨x0, x1, x2, x3⟩ := KX.out _ HB10.out
        go_wp2_with fail
        refine (HC.out.copyS _ _ _ _ _ _ _ (TX.out _ HB10.out)).mono ?_
        rintro e w11 ⟨r1, a1, r2, a2, r3, a3, cs, rfl, hT11, _, _, hb9⟩
        have HB11 := Lib.hid (HB10.out.trans (hb9.mono HB10.out.size))
        have HC11 : Hid (Below w10.heap.size w10 w11) := hb9
        have HT11 := Lib.hid hT11
        clear hb9 hT11 x0 x1 x2 x3
        go_wp2_with fail
        refine (HC.out.reachS _ _ _ _ _ _ _ a (HBW.out _ (BX.out _ HB11.out)) hlt HT11.out).mono ?_
        rintro e w12 ⟨v2, rfl, hv2, hb9⟩
        have HB12 := Lib.hid (HB11.out.trans (hb9.mono HB11.out.size))
        have HV12 := Lib.hid (HV1.out.below (HC11.out.trans (hb9.mono HC11.out.size)))
        have HV2 := Lib.hid hv2
        obtain ⟨f2, h2, rfl⟩ := hv2.form
        clear hb9 hv2
        have gA : decide ((a : Int) < 0) = false := decide_eq_false (by omega)
        have gN : decide ((a : Int) < (n : Int)) = true := decide_eq_true (by omega)
        have g6 : (sW a != sW a) = false := by simp
        have g7 : ((sE a).toList == (sE a).toList) = true := by simp
        have CI : Hid (∀ V, Below w12.heap.size w12 V → Calls Tryd.prog 15 #[.slice f1 (U a).length h1, .slice f2 (U a).length h2] V fun e w' => e = .returned (.bool true) ∧ Below w12.heap.size w12 w') := fun V h => by
          refine (HC.out.ints V _ _ (U a) (U a) (HV12.out.below h) (HV2.out.below h)).mono ?_
          rintro e w' ⟨rfl, hb⟩
          exact ⟨by simp, h.trans (hb.mono h.size)⟩
        have KH : Hid (∀ V, Below w12.heap.size w12 V → (V.cell? ⟨q, 1, none⟩ = some (.slice (some ⟨s1, y1, none⟩) n e1) ∧ V.cell? ⟨q, 3, none⟩ = some (.slice (some ⟨s3, y3, none⟩) n e3)) ∧ (V.cell? ⟨w.heap.size, 1, none⟩ = some (.slice (some ⟨be, oe, none⟩) n ce) ∧ V.cell? ⟨w.heap.size, 3, none⟩ = some (.slice (some ⟨bw, ow, none⟩) n cw)) ∧ (V.cell? ⟨be, oe + a, none⟩ = some (.string (sE a)) ∧ V.cell? ⟨bw, ow + a, none⟩ = some (.bool (sW a))) ∧ V.cell? ⟨s1, y1 + a, none⟩ = some (.string (sE a)) ∧ V.cell? ⟨s3, y3 + a, none⟩ = some (.bool (sW a))) := fun V h => by
          have hV := HB12.out.trans (h.mono HB12.out.size)
          obtain ⟨_, x1, _, x3⟩ := KX.out V hV
          obtain ⟨_, k1, _, k3⟩ := KS.out V (BX.out _ hV)
          exact ⟨⟨x1, x3⟩, ⟨k1, k3⟩, KE.out V (BX.out _ hV) a hlt, KY.out V hV a hlt⟩
        go_upto_region 14 with fail
        go_cut [121] from 84 to 121 (fun q wx => q = .bool false ∧ Hid (Below w12.heap.size w12 wx))
        case first =>
          refine reg_below w12.heap.size w12 (by kernel_rfl) (by kernel_rfl) (Below.refl _ _) ?_
          repeat (
            refine wpQuiet_step (fun K hK => ?_)
            first
              | (refine qy_yes (by rfl) ?_ (fun V hV => ?_) (hK _ ?_)
                 rotate_left
                 · obtain ⟨⟨x1, x3⟩, ⟨k1, k3⟩, ⟨m1, m2⟩, m3, m4⟩ := KH.out V hV
                   unfold Oper.quietAt
                   go_simp
                   first
                     | exact rfl
                     | exact ⟨rfl, rfl⟩
                     | with_reducible exact CI.out V hV
                 clear hK K
                 simp only [Act.put, List.setIfInBounds_toArray, List.set_cons_zero, List.set_cons_succ])
              | (refine qy_no (by rfl) (hK _ ?_)
                 clear hK K
                 simp only [Act.put, List.setIfInBounds_toArray, List.set_cons_zero, List.set_cons_succ]))
          refine wpQuiet_nil ?_
          intro w13 hb13
          have hfin := Lib.hid hb13
          clear hb13
          go_wp2_with fail
          go_meet
          exact ⟨rfl, hfin⟩
        case rest =>
          obtain ⟨rfl, hb13⟩ := hcut
          clear CI KH g6 g7 HV12 HV1 HT11 HT9 HC11 HB9 HB10 HB11
          obtain ⟨row, hrow⟩ : ∃ r, r = s.above.getD a [] := ⟨_, rfl⟩
          have hL2 := L2.out
          obtain ⟨bA, oA, qr, cr, rfl, hcr, hrd⟩ := (TX.out _ (Below.refl _ _)).a.cell (i := a) (by omega)
          have hL12 := SR.out a hlt
          rw [← hrow] at hcr hrd hL12
          obtain ⟨L, hL⟩ : ∃ L, L = row.length := ⟨_, rfl⟩
          have HROW := Lib.hid hrow; have HL := Lib.hid hL
          rw [← hL] at hcr hrd hL12
          have hcap : L ≤ cr := (Rd.capE hrd).2
          have KR : Hid (∀ V, Below X.heap.size X V → V.cell? ⟨bA, oA + a, none⟩ = some (.slice qr L cr) ∧ RdI V (.slice qr L cr) row) := fun V h => ⟨(h.cell (cell_lt hcr)).trans hcr, hrd.below h⟩
          clear hcr hrd hrow hL hL2
          go_wp2_with fail
          go_loopw [12] (fun i wx => ∃ k : Nat, k ≤ L ∧ i = .int .i64 k ∧ Hid (Below w12.heap.size w12 wx)) (fun i _ => L - (intOf i).toNat)
          case atStart => exact ⟨0, Nat.zero_le _, rfl, hb13⟩
          case round =>
            clear hb13
            obtain ⟨i, hiL, rfl, hbi⟩ := hrel
            have HBi := Lib.hid (HB12.out.trans (hbi.out.mono HB12.out.size))
            obtain ⟨x0, x1, x2, x3⟩ := KX.out _ HBi.out
            obtain ⟨kr, _⟩ := KR.out _ HBi.out
            by_cases hli : i < L
            · go_wp2_with fail
              refine (HC.out.copyS _ _ _ _ _ _ _ (TX.out _ HBi.out)).mono ?_
              rintro e w14 ⟨r1, a1, g, a2, r3, a3, cs, rfl, hT14, hg0, hgh, hb14⟩
              clear x0 x1 x2 x3 kr
              obtain ⟨Y, hY⟩ : ∃ Y, Y = w14.alloc (.cells #[.string nm, .slice r1 n a1, .slice (some ⟨g, 0, none⟩) n a2, .slice r3 n a3] 26) := ⟨_, rfl⟩
              obtain ⟨z, hz⟩ : ∃ z, z = w14.heap.size := ⟨_, rfl⟩
              have bY : Below w14.heap.size w14 Y := by rw [hY]; exact (Below.refl _ _).alloc (Nat.le_refl _) _
              have hzY : Y.heap[z]? = some (.cells #[.string nm, .slice r1 n a1, .slice (some ⟨g, 0, none⟩) n a2, .slice r3 n a3] 26 (0, 0)) := by rw [hY, hz]; exact heap_alloc_at rfl
              have hgY : Y.heap[g]? = some (.cells cs 35 (0, 0)) := heap_below bY hgh
              have hTY := hT14.below bY
              have RY := Lib.hid (hb14.trans (bY.mono hb14.size))
              have HY := Lib.hid hY; have HZ2 := Lib.hid hz
              have hgz : g < Y.heap.size := heap_lt hgY
              have HTYH := Lib.hid hTY; have HZY := Lib.hid hzY; have HGY := Lib.hid hgY; have HG0 := Lib.hid hg0
              have HWY := Lib.hid (hbi.out.trans (RY.out.mono hbi.out.size))
              have HXY := Lib.hid (HBi.out.trans (RY.out.mono HBi.out.size))
              obtain ⟨x1', x2', p', c', hx', hcg, _⟩ := hTY.a.cell (i := a) (by have := L2.out; omega)
              simp only [Option.some.injEq, Addr.mk.injEq] at hx'
              obtain ⟨rfl, rfl, _⟩ := hx'
              rw [Nat.zero_add] at hcg
              have HCG := Lib.hid hcg
              obtain ⟨_, hrd⟩ := KR.out _ HXY.out
              obtain ⟨bR, oR, rfl, _⟩ := hrd.cell (i := i) (by have := HL.out; omega)
              obtain ⟨LT, hLT⟩ : ∃ l, l = (row.map (Value.int .i64)).take i := ⟨_, rfl⟩
              obtain ⟨LD, hLD⟩ : ∃ l, l = (row.map (Value.int .i64)).drop (i + 1) := ⟨_, rfl⟩
              have lT : LT.length = i := by rw [hLT, List.length_take, List.length_map, ← HL.out]; omega
              have lD : LD.length = L - (i + 1) := by rw [hLD, List.length_drop, List.length_map, ← HL.out]
              have RT : Hid (∀ V, Below Y.heap.size Y V → Rd V (.slice (some ⟨bR, oR, none⟩) i cr) LT) := fun V h => by rw [hLT]; exact Rd.take (Rd.below hrd h) (by omega)
              have RD0 : Hid (∀ V, Below Y.heap.size Y V → Rd V (.slice (if cr = i + 1 then some ⟨bR, oR, none⟩ else some ⟨bR, oR + (i + 1), none⟩) (L - (i + 1)) (cr - (i + 1))) LD) := fun V h => by rw [hLD]; exact rd_dropIf (Rd.below hrd h) (by omega)
              have oneT : Hid (∀ y ∈ LT, y.oneCell' = true) := fun y hy => by
                rw [hLT] at hy
                obtain ⟨v, _, rfl⟩ := List.mem_map.1 (List.mem_of_mem_take hy)
                rfl
              have oneD : Hid (∀ y ∈ LD, y.oneCell' = true) := fun y hy => by
                rw [hLD] at hy
                obtain ⟨v, _, rfl⟩ := List.mem_map.1 (List.mem_of_mem_drop hy)
                rfl
              have KH : Hid (∀ V, Below Y.heap.size Y V → V.cell? ⟨q, 2, none⟩ = some (.slice (some ⟨bA, oA, none⟩) n e2) ∧ V.cell? ⟨z, 2, none⟩ = some (.slice (some ⟨g, 0, none⟩) n a2) ∧ V.cell? ⟨bA, oA + a, none⟩ = some (.slice (some ⟨bR, oR, none⟩) L cr)) := fun V h => by
                have hV := HXY.out.trans (h.mono HXY.out.size)
                obtain ⟨_, _, x2, _⟩ := KX.out V hV
                exact ⟨x2, (four_cells (heap_below h HZY.out)).1.2.2.1, (KR.out V hV).1⟩
              have hxg : X.heap.size ≤ g := Nat.le_trans HBi.out.size hg0
              have hgz2 : z ≠ g := fun e => by rw [e, hgY] at hzY; injection hzY with h1; injection h1 with _ h1 _; exact absurd h1 (by decide)
              have hqg : q ≠ g := fun e => by have h1 := cell_lt (KX.out _ (Below.refl _ _)).2.2.1; simp only at h1; omega
              have hbg : bA ≠ g := fun e => by have h1 := cell_lt (KR.out _ (Below.refl _ _)).1; simp only at h1; omega
              have KG : Hid (∀ V x, Below Y.heap.size Y V → (V.setCell ⟨g, a, none⟩ x).cell? ⟨q, 2, none⟩ = some (.slice (some ⟨bA, oA, none⟩) n e2) ∧ (V.setCell ⟨g, a, none⟩ x).cell? ⟨z, 2, none⟩ = some (.slice (some ⟨g, 0, none⟩) n a2) ∧ (V.setCell ⟨g, a, none⟩ x).cell? ⟨bA, oA + a, none⟩ = some (.slice (some ⟨bR, oR, none⟩) L cr)) := fun V x h => by
                have key : ∀ b o, b ≠ g → (V.setCell ⟨g, a, none⟩ x).cell? ⟨b, o, none⟩ = V.cell? ⟨b, o, none⟩ := fun b o hb => World.cell?_setCell_other (w := V) (v := x) (h := (fun e2 => by simp only [Addr.mk.injEq] at e2; exact hb e2.1.symm : (⟨g, a, none⟩ : Addr) ≠ ⟨b, o, none⟩))
                rw [key _ _ hqg, key _ _ hgz2, key _ _ hbg]
                exact KH.out V h
              have HZG := Lib.hid hgz2
              have HLT := Lib.hid hLT; have HLD := Lib.hid hLD; have HlT := Lib.hid lT; have HlD := Lib.hid lD
              clear hY hz bY hzY hgY hTY hT14 hg0 hgh hb14 hcg hrd hLT hLD lT lD hxg hgz2 hqg hbg
              by_cases hcc : cr = i + 1
              · subst hcc
                have RD : Hid (∀ V, Below Y.heap.size Y V → Rd V (.slice (some ⟨bR, oR, none⟩) 0 0) LD) := fun V h => by
                  have h2 := RD0.out V h
                  rw [if_pos rfl, Nat.sub_self, show L - (i + 1) = 0 by omega] at h2
                  exact h2
                go_upto_region 20 with fail
                rw [← HY.out, ← HZ2.out]
                have w1 : IntKind.i64.wrap ((i : Int) + 1) = (i : Int) + 1 := IntWalk.i64_in _ (by omega)
                have gi0 : (0 : Int) ≤ (i : Int) := by omega
                have gi1 : (0 : Int) ≤ (i : Int) + 1 := by omega
                have gic : (i : Int) ≤ ((i : Int) + 1) := by omega
                have gid : (i : Int) + 1 ≤ (L : Int) := by omega
                have gie : (L : Int) ≤ ((i : Int) + 1) := by omega
                obtain ⟨x2, z2, kr⟩ := KH.out _ (Below.refl _ _)
                go_cut [] from 134 to 155 (fun wx => Hid (TabIn wx (.slice r1 n a1) (.slice (some ⟨g, 0, none⟩) n a2) (.slice r3 n a3) (cutT s a i) ∧ Below wr.heap.size wr wx ∧ wx.heap[z]? = some (.cells #[.string nm, .slice r1 n a1, .slice (some ⟨g, 0, none⟩) n a2, .slice r3 n a3] 26 (0, 0))))
                case first =>
                  go_region_held3 (fun V => V.cell? ⟨q, 2, none⟩ = some (.slice (some ⟨bA, oA, none⟩) n e2) ∧ V.cell? ⟨z, 2, none⟩ = some (.slice (some ⟨g, 0, none⟩) n a2) ∧ V.cell? ⟨bA, oA + a, none⟩ = some (.slice (some ⟨bR, oR, none⟩) L (i + 1)))
                    (first | exact KG.out _ _ (by repeat (first | with_reducible exact Below.refl _ _ | with_reducible refine Below.drew ?_ | with_reducible refine below_alloc ?_ _ | refine below_step (by with_reducible assumption) ?_ (Nat.le_refl _))) | exact KH.out _ (by repeat (first | with_reducible exact Below.refl _ _ | with_reducible refine Below.drew ?_ | with_reducible refine below_alloc ?_ _ | refine below_step (by with_reducible assumption) ?_ (Nat.le_refl _))))
                    (first
                      | (with_reducible refine only_app 35 ?_; refine step_append_vis rfl _ _ 35 3 rfl iI _ 8 Tryd.underlying35 hIi hI0 hI1 hI2 rfl (by decide) Y.heap.size (.slice pI LT.length cI) _ LT.length LT LD rfl (ownsRow_below hoI (show Below wI.heap.size wI _ from (by repeat (first | with_reducible exact Below.refl _ _ | with_reducible refine Below.drew ?_ | with_reducible refine below_alloc ?_ _ | refine below_step (by with_reducible assumption) ?_ (Nat.le_refl _))))) rfl (RD.out _ (show Below Y.heap.size Y _ from (by repeat (first | with_reducible exact Below.refl _ _ | with_reducible refine Below.drew ?_ | with_reducible refine below_alloc ?_ _ | refine below_step (by with_reducible assumption) ?_ (Nat.le_refl _))))) oneD.out (by have := HlT.out; have := HlD.out; omega) (show Below Y.heap.size Y _ from (by repeat (first | with_reducible exact Below.refl _ _ | with_reducible refine Below.drew ?_ | with_reducible refine below_alloc ?_ _ | refine below_step (by with_reducible assumption) ?_ (Nat.le_refl _)))).size ?_; intro pO cO wO hoO hgO; have hbO : Below Y.heap.size Y wO := Below.grown (by repeat (first | with_reducible exact Below.refl _ _ | with_reducible refine Below.drew ?_ | with_reducible refine below_alloc ?_ _ | refine below_step (by with_reducible assumption) ?_ (Nat.le_refl _))) hgO (show Below Y.heap.size Y _ from (by repeat (first | with_reducible exact Below.refl _ _ | with_reducible refine Below.drew ?_ | with_reducible refine below_alloc ?_ _ | refine below_step (by with_reducible assumption) ?_ (Nat.le_refl _)))).size (fun k e => own_base hoI k e); have hcO : wO.cell? ⟨g, a, none⟩ = some (.slice p' (s.above.getD a []).length c') := (hbO.cell hgz).trans HCG.out; have hfO : wO.frozen? ⟨g, a, none⟩ = false := Go.Joins.unfrozen_of_block (heap_below hbO HGY.out) a)
                      | (with_reducible refine only_app 35 ?_; refine step_append_first rfl _ _ 35 3 rfl iI _ 8 Tryd.underlying35 hIi hI0 hI1 hI2 rfl (by decide) Y.heap.size Y.heap.size _ LT rfl (by repeat (first | with_reducible refine heap_drew ?_ | with_reducible exact heap_alloc_at (by simp only [alloc_size, drew_size]) | with_reducible refine heap_alloc_old ?_)) (Nat.le_refl _) rfl (RT.out _ (show Below Y.heap.size Y _ from (by repeat (first | with_reducible exact Below.refl _ _ | with_reducible refine Below.drew ?_ | with_reducible refine below_alloc ?_ _ | refine below_step (by with_reducible assumption) ?_ (Nat.le_refl _))))) oneT.out (by have := HlT.out; omega) (show Below Y.heap.size Y _ from (by repeat (first | with_reducible exact Below.refl _ _ | with_reducible refine Below.drew ?_ | with_reducible refine below_alloc ?_ _ | refine below_step (by with_reducible assumption) ?_ (Nat.le_refl _)))).size ?_; intro pI cI wI hoI hgI; have hbI : Below Y.heap.size Y wI := Below.grown (by repeat (first | with_reducible exact Below.refl _ _ | with_reducible refine Below.drew ?_ | with_reducible refine below_alloc ?_ _ | refine below_step (by with_reducible assumption) ?_ (Nat.le_refl _))) hgI (show Below Y.heap.size Y _ from (by repeat (first | with_reducible exact Below.refl _ _ | with_reducible refine Below.drew ?_ | with_reducible refine below_alloc ?_ _ | refine below_step (by with_reducible assumption) ?_ (Nat.le_refl _)))).size (fun k e => by simp only [Option.some.injEq] at e; omega)))
                  all_goals
                    go_wp2_with fail
                    go_meet
                    have hGO := heap_below hbO HGY.out
                    refine ⟨tab_cut' L2.out (HTYH.out.below hbO) hlt hcO ?_, Below.setCell (RY.out.trans (hbO.mono RY.out.size)) HG0.out _, ?_⟩
                    · rw [← HROW.out]
                      exact cut_rd HLT.out HLD.out hoO hGO (by decide) (by have := HlT.out; have := HlD.out; omega) _
                    · rw [Below.heap_setCell _ _ _ _ HZG.out]
                      exact heap_below hbO HZY.out
                case rest =>
                  clear x2 z2 kr w1 gi0 gi1 gic gid gie KG KH RT RD RD0 oneT oneD HLT HLD HlT HlD HY HCG HGY HZY HTYH HWY HXY RY HG0 HZG
                  obtain ⟨hTc, hbc, hzc⟩ := hcut.out
                  have HTc := Lib.hid hTc
                  have HBc := Lib.hid (HBi.out.trans (hbc.mono HBi.out.size))
                  have HWc := Lib.hid (hbi.out.trans (hbc.mono hbi.out.size))
                  obtain ⟨⟨z0, z1, z2, z3⟩, _⟩ := four_cells hzc
                  have hia : i < (s.above.getD a []).length := by rw [← HROW.out, ← HL.out]; exact hli
                  have HIA := Lib.hid hia
                  clear hTc hbc hzc hcut hia
                  go_wp2_with fail
                  refine (HC.out.reachC _ _ _ _ _ _ _ a i (HBW.out _ (BX.out _ HBc.out)) hlt HIA.out HTc.out).mono ?_
                  rintro e w15 ⟨v3, L3, rfl, hv3, hne, hb15⟩
                  have HV3 := Lib.hid hv3
                  obtain ⟨f3, h3, rfl⟩ := hv3.form
                  have HNE := Lib.hid hne
                  have HW15 := Lib.hid (HWc.out.trans (hb15.mono HWc.out.size))
                  clear hb15 hv3 hne z0 z1 z2 z3
                  go_wp2_with fail
                  refine (HC.out.ints _ _ _ L3 (U a) HV3.out (HV2.out.below HW15.out)).mono ?_
                  rintro e w16 ⟨rfl, hb16⟩
                  rw [HNE.out]
                  have HW16 := Lib.hid (HW15.out.trans (hb16.mono HW15.out.size))
                  clear hb16
                  go_wp2
                  go_roundw
                  case rel => exact ⟨i + 1, by omega, by go_num, HW16.out⟩
                  case measure => simp [intOf]; omega
              · have RD : Hid (∀ V, Below Y.heap.size Y V → Rd V (.slice (some ⟨bR, oR + (i + 1), none⟩) (L - (i + 1)) (cr - (i + 1))) LD) := fun V h => by
                  have h2 := RD0.out V h
                  rw [if_neg hcc] at h2
                  exact h2
                go_upto_region 20 with fail
                rw [← HY.out, ← HZ2.out]
                have w1 : IntKind.i64.wrap ((i : Int) + 1) = (i : Int) + 1 := IntWalk.i64_in _ (by omega)
                have gi0 : (0 : Int) ≤ (i : Int) := by omega
                have gi1 : (0 : Int) ≤ (i : Int) + 1 := by omega
                have gic : (i : Int) ≤ (cr : Int) := by omega
                have gid : (i : Int) + 1 ≤ (L : Int) := by omega
                have gie : (L : Int) ≤ (cr : Int) := by omega
                obtain ⟨x2, z2, kr⟩ := KH.out _ (Below.refl _ _)
                go_cut [] from 134 to 155 (fun wx => Hid (TabIn wx (.slice r1 n a1) (.slice (some ⟨g, 0, none⟩) n a2) (.slice r3 n a3) (cutT s a i) ∧ Below wr.heap.size wr wx ∧ wx.heap[z]? = some (.cells #[.string nm, .slice r1 n a1, .slice (some ⟨g, 0, none⟩) n a2, .slice r3 n a3] 26 (0, 0))))
                case first =>
                  go_region_held3 (fun V => V.cell? ⟨q, 2, none⟩ = some (.slice (some ⟨bA, oA, none⟩) n e2) ∧ V.cell? ⟨z, 2, none⟩ = some (.slice (some ⟨g, 0, none⟩) n a2) ∧ V.cell? ⟨bA, oA + a, none⟩ = some (.slice (some ⟨bR, oR, none⟩) L cr))
                    (first | exact KG.out _ _ (by repeat (first | with_reducible exact Below.refl _ _ | with_reducible refine Below.drew ?_ | with_reducible refine below_alloc ?_ _ | refine below_step (by with_reducible assumption) ?_ (Nat.le_refl _))) | exact KH.out _ (by repeat (first | with_reducible exact Below.refl _ _ | with_reducible refine Below.drew ?_ | with_reducible refine below_alloc ?_ _ | refine below_step (by with_reducible assumption) ?_ (Nat.le_refl _))))
                    (first
                      | (with_reducible refine only_app 35 ?_; refine step_append_vis rfl _ _ 35 3 rfl iI _ 8 Tryd.underlying35 hIi hI0 hI1 hI2 rfl (by decide) Y.heap.size (.slice pI LT.length cI) _ LT.length LT LD rfl (ownsRow_below hoI (show Below wI.heap.size wI _ from (by repeat (first | with_reducible exact Below.refl _ _ | with_reducible refine Below.drew ?_ | with_reducible refine below_alloc ?_ _ | refine below_step (by with_reducible assumption) ?_ (Nat.le_refl _))))) rfl (RD.out _ (show Below Y.heap.size Y _ from (by repeat (first | with_reducible exact Below.refl _ _ | with_reducible refine Below.drew ?_ | with_reducible refine below_alloc ?_ _ | refine below_step (by with_reducible assumption) ?_ (Nat.le_refl _))))) oneD.out (by have := HlT.out; have := HlD.out; omega) (show Below Y.heap.size Y _ from (by repeat (first | with_reducible exact Below.refl _ _ | with_reducible refine Below.drew ?_ | with_reducible refine below_alloc ?_ _ | refine below_step (by with_reducible assumption) ?_ (Nat.le_refl _)))).size ?_; intro pO cO wO hoO hgO; have hbO : Below Y.heap.size Y wO := Below.grown (by repeat (first | with_reducible exact Below.refl _ _ | with_reducible refine Below.drew ?_ | with_reducible refine below_alloc ?_ _ | refine below_step (by with_reducible assumption) ?_ (Nat.le_refl _))) hgO (show Below Y.heap.size Y _ from (by repeat (first | with_reducible exact Below.refl _ _ | with_reducible refine Below.drew ?_ | with_reducible refine below_alloc ?_ _ | refine below_step (by with_reducible assumption) ?_ (Nat.le_refl _)))).size (fun k e => own_base hoI k e); have hcO : wO.cell? ⟨g, a, none⟩ = some (.slice p' (s.above.getD a []).length c') := (hbO.cell hgz).trans HCG.out; have hfO : wO.frozen? ⟨g, a, none⟩ = false := Go.Joins.unfrozen_of_block (heap_below hbO HGY.out) a)
                      | (with_reducible refine only_app 35 ?_; refine step_append_first rfl _ _ 35 3 rfl iI _ 8 Tryd.underlying35 hIi hI0 hI1 hI2 rfl (by decide) Y.heap.size Y.heap.size _ LT rfl (by repeat (first | with_reducible refine heap_drew ?_ | with_reducible exact heap_alloc_at (by simp only [alloc_size, drew_size]) | with_reducible refine heap_alloc_old ?_)) (Nat.le_refl _) rfl (RT.out _ (show Below Y.heap.size Y _ from (by repeat (first | with_reducible exact Below.refl _ _ | with_reducible refine Below.drew ?_ | with_reducible refine below_alloc ?_ _ | refine below_step (by with_reducible assumption) ?_ (Nat.le_refl _))))) oneT.out (by have := HlT.out; omega) (show Below Y.heap.size Y _ from (by repeat (first | with_reducible exact Below.refl _ _ | with_reducible refine Below.drew ?_ | with_reducible refine below_alloc ?_ _ | refine below_step (by with_reducible assumption) ?_ (Nat.le_refl _)))).size ?_; intro pI cI wI hoI hgI; have hbI : Below Y.heap.size Y wI := Below.grown (by repeat (first | with_reducible exact Below.refl _ _ | with_reducible refine Below.drew ?_ | with_reducible refine below_alloc ?_ _ | refine below_step (by with_reducible assumption) ?_ (Nat.le_refl _))) hgI (show Below Y.heap.size Y _ from (by repeat (first | with_reducible exact Below.refl _ _ | with_reducible refine Below.drew ?_ | with_reducible refine below_alloc ?_ _ | refine below_step (by with_reducible assumption) ?_ (Nat.le_refl _)))).size (fun k e => by simp only [Option.some.injEq] at e; omega)))
                  all_goals
                    go_wp2_with fail
                    go_meet
                    have hGO := heap_below hbO HGY.out
                    refine ⟨tab_cut' L2.out (HTYH.out.below hbO) hlt hcO ?_, Below.setCell (RY.out.trans (hbO.mono RY.out.size)) HG0.out _, ?_⟩
                    · rw [← HROW.out]
                      exact cut_rd HLT.out HLD.out hoO hGO (by decide) (by have := HlT.out; have := HlD.out; omega) _
                    · rw [Below.heap_setCell _ _ _ _ HZG.out]
                      exact heap_below hbO HZY.out
                case rest =>
                  clear x2 z2 kr w1 gi0 gi1 gic gid gie KG KH RT RD RD0 oneT oneD HLT HLD HlT HlD HY HCG HGY HZY HTYH HWY HXY RY HG0 HZG
                  obtain ⟨hTc, hbc, hzc⟩ := hcut.out
                  have HTc := Lib.hid hTc
                  have HBc := Lib.hid (HBi.out.trans (hbc.mono HBi.out.size))
                  have HWc := Lib.hid (hbi.out.trans (hbc.mono hbi.out.size))
                  obtain ⟨⟨z0, z1, z2, z3⟩, _⟩ := four_cells hzc
                  have hia : i < (s.above.getD a []).length := by rw [← HROW.out, ← HL.out]; exact hli
                  have HIA := Lib.hid hia
                  clear hTc hbc hzc hcut hia
                  go_wp2_with fail
                  refine (HC.out.reachC _ _ _ _ _ _ _ a i (HBW.out _ (BX.out _ HBc.out)) hlt HIA.out HTc.out).mono ?_
                  rintro e w15 ⟨v3, L3, rfl, hv3, hne, hb15⟩
                  have HV3 := Lib.hid hv3
                  obtain ⟨f3, h3, rfl⟩ := hv3.form
                  have HNE := Lib.hid hne
                  have HW15 := Lib.hid (HWc.out.trans (hb15.mono HWc.out.size))
                  clear hb15 hv3 hne z0 z1 z2 z3
                  go_wp2_with fail
                  refine (HC.out.ints _ _ _ L3 (U a) HV3.out (HV2.out.below HW15.out)).mono ?_
                  rintro e w16 ⟨rfl, hb16⟩
                  rw [HNE.out]
                  have HW16 := Lib.hid (HW15.out.trans (hb16.mono HW15.out.size))
                  clear hb16
                  go_wp2
                  go_roundw
                  case rel => exact ⟨i + 1, by omega, by go_num, HW16.out⟩
                  case measure => simp [intOf]; omega
            · go_wp2
              go_roundw
              case rel => exact ⟨a + 1, by omega, by go_num, Lib.hid (HB12.out.trans (hbi.out.mono HB12.out.size))⟩
              case measure => simp [intOf]; omega
      · go_wp2_with fail
        refine (HC.out.awake _ (HBW.out _ (BX.out _ hb.out))).mono ?_
        rintro e w3 ⟨rfl, hb3⟩
        have HB3 := Lib.hid ((HBW.out _ (BX.out _ hb.out)).trans (hb3.mono (HBW.out _ (BX.out _ hb.out)).size))
        clear hb3
        go_wp2
        go_ret
        exact ⟨rfl, HB3.out⟩
end Go.Proofs.YtfhnigpjmljhbaaDoor.Or
