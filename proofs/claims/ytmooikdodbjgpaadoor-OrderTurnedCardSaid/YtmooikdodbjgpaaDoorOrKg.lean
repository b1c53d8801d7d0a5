/- OrderTurned is true of every table and all bytes, where turned does what turnT says. -/
import Derived.Test.YtmooikdodbjgpaaDoorOrKe
import Derived.Test.YtmooikdodbjgpaaDoorOrHb
import Derived.Deep.CutRange
import Derived.Deep.Cut
set_option linter.unusedVariables false
set_option linter.unusedSimpArgs false
namespace Go.Proofs.YtmooikdodbjgpaaDoor.Or
open Go.RowKit Go.Shelf

/-- What turned comes to, at a table that has its form. -/
def TurnedOk (t : Tab) (bs : List Nat) (w : World) : Prop :=
  ∀ U ve va vw vb, Below w.heap.size w U → TabIn U ve va vw t → RdU U vb bs → Calls Tryd.prog 56 #[.agg #[.string (mkS t.name), ve, va, vw], vb] U fun e w' =>
    ∃ xe xa xw vt at' tn, e = .returned (.tuple #[.agg #[.string (mkS t.name), xe, xa, xw], vt]) ∧ TabIn w' xe xa xw (turnT t at') ∧ RdI w' vt (ints ((List.range t.n).map tn)) ∧ Turn t.n at' tn ∧ Below U.heap.size U w'

set_option maxRecDepth 100000 in
set_option maxHeartbeats 16000000 in
theorem turned_any (HJ : JoinOk) (t : Tab) (ve va vw : Value) (bs : List Nat) (vb : Value) (w : World) (hT : TabIn w ve va vw t) (hnm : t.name.length ≤ 281474976710656) (hvb : RdU w vb bs) (hLd : LaidOk w) (hTO : frmF t = true → TurnedOk t bs w) :
    Calls Tryd.prog 13 #[tabV t ve va vw, vb] w fun e w' => e = .returned (.bool true) ∧ Below w.heap.size w w' := by
  obtain ⟨W1, hW1⟩ : ∃ W1, W1 = (w.alloc (Obj.cells #[.string (mkS t.name), ve, va, vw] 26)) := ⟨_, rfl⟩
  have b1 : Below w.heap.size w W1 := by rw [hW1]; exact (Below.refl _ _).alloc (Nat.le_refl _) _
  have c0 : W1.cell? ⟨w.heap.size, 0, none⟩ = some (.string (mkS t.name)) := by rw [hW1]; simp [go_sem]
  have c1 : W1.cell? ⟨w.heap.size, 1, none⟩ = some ve := by rw [hW1]; simp [go_sem]
  have c2 : W1.cell? ⟨w.heap.size, 2, none⟩ = some va := by rw [hW1]; simp [go_sem]
  have c3 : W1.cell? ⟨w.heap.size, 3, none⟩ = some vw := by rw [hW1]; simp [go_sem]
  have CT := Lib.hid (thin_any t ve va vw W1 (hT.below b1) hnm)
  have CA : Hid (∀ W, Below w.heap.size w W → Calls Tryd.prog 16 #[] W fun e w' => e = .returned (.bool true) ∧ Below W.heap.size W w') := fun W h => awake_any HJ W (hLd.below h)
  have HW1 := Lib.hid hW1; have HB1 := Lib.hid b1
  obtain ⟨pe, ce, rfl⟩ := hT.e.form
  obtain ⟨pa, ca, rfl⟩ := hT.a.form
  obtain ⟨pw, cw, rfl⟩ := hT.w.form
  have KS : Hid (∀ U, Below W1.heap.size W1 U → U.cell? ⟨w.heap.size, 0, none⟩ = some (.string (mkS t.name)) ∧ U.cell? ⟨w.heap.size, 1, none⟩ = some (.slice pe t.elems.length ce) ∧ U.cell? ⟨w.heap.size, 2, none⟩ = some (.slice pa t.above.length ca) ∧ U.cell? ⟨w.heap.size, 3, none⟩ = some (.slice pw t.wrong.length cw)) := fun U h =>
    ⟨(h.cell (cell_lt c0)).trans c0, (h.cell (cell_lt c1)).trans c1, (h.cell (cell_lt c2)).trans c2, (h.cell (cell_lt c3)).trans c3⟩
  have HBW : Hid (∀ U, Below W1.heap.size W1 U → Below w.heap.size w U) := fun U h => b1.trans (h.mono b1.size)
  have TB : Hid (∀ U, Below w.heap.size w U → TabIn U (.slice pe t.elems.length ce) (.slice pa t.above.length ca) (.slice pw t.wrong.length cw) t) := fun U h => hT.below h
  have LL : Hid (∀ U, Below w.heap.size w U → LaidOk U) := fun U h => hLd.below h
  have HVB : Hid (∀ U, Below w.heap.size w U → RdU U vb bs) := fun U h => ⟨hvb.1.below h, hvb.2⟩
  have hformb : ∃ p n c, vb = .slice p n c := by obtain ⟨p, c, e⟩ := hvb.1.form; exact ⟨p, _, c, e⟩
  obtain ⟨pb, nb, cb, rfl⟩ := hformb
  cases hth : thinF t with
  | false =>
    rw [hth] at CT
    unfold tabV at CT ⊢
    clear hT hnm hvb hLd hTO hW1 b1 c0 c1 c2 c3 hth KS TB LL HVB
    go_enter Tryd.func13, Tryd.ntmps13
    go_wp2_with fail
    rw [← HW1.out]
    refine CT.out.mono ?_
    rintro e w2 ⟨rfl, hb⟩
    have HB2 := Lib.hid (HB1.out.trans (hb.mono HB1.out.size))
    clear hb
    go_wp2_with fail
    refine (CA.out _ HB2.out).mono ?_
    rintro e w3 ⟨rfl, hb⟩
    have HB3 := Lib.hid (HB2.out.trans (hb.mono HB2.out.size))
    clear hb
    go_wp2
    go_ret
    exact ⟨rfl, HB3.out⟩
  | true =>
    rw [hth] at CT
    obtain ⟨z, hz⟩ : ∃ z, z = chkE t := ⟨_, rfl⟩
    have CK : Hid (∀ U, Below w.heap.size w U → Calls Tryd.prog 21 #[tabV t (.slice pe t.elems.length ce) (.slice pa t.above.length ca) (.slice pw t.wrong.length cw)] U fun e w' => e = .returned (.int .i64 (z : Nat)) ∧ Below U.heap.size U w') := fun U h => by
      rw [hz]; exact refCheck_any t _ _ _ U (TB.out U h) (thin_small hth)
    by_cases hf : frmF t = true
    · have hz0 : z = 0 := by rw [hz]; unfold chkE; rw [hf]; rfl
      subst hz0
      obtain ⟨f1, f2, f3, f4⟩ := frm_len hf
      obtain ⟨n, hn⟩ : ∃ n, n = t.n := ⟨_, rfl⟩
      have n12 : n ≤ 12 := by rw [hn]; exact f2
      obtain ⟨E, hE⟩ : ∃ E, E = latE t [] := ⟨_, rfl⟩
      have hTO2 := hTO hf
      have CC : Hid (∀ (u : Tab) U xe xa xw, frmF u = true → TabIn U xe xa xw u → Calls Tryd.prog 17 #[.agg #[.string (mkS u.name), xe, xa, xw]] U fun e w' => ∃ ve' va' vw', e = .returned (.agg #[.string (mkS u.name), ve', va', vw']) ∧ TabIn w' ve' va' vw' u ∧ Below U.heap.size U w') := fun u U xe xa xw hfu h => by
        obtain ⟨g1, g2, g3, g4⟩ := frm_len hfu
        exact copy_any u xe xa xw U h (by omega) (by omega) (by omega) (frm_rows hfu)
      have CPv : Hid (∀ (u : Tab) U xe xa xw, frmF u = true → latE u [] = E → Below w.heap.size w U → TabIn U xe xa xw u → Calls Tryd.prog 19 #[.agg #[.string (mkS u.name), xe, xa, xw]] U fun e w' => ∃ x y z : Nat, e = .returned (.tuple #[.agg #[.int .u8 (x : Nat), .int .i64 (y : Nat), .int .i64 (z : Nat)], .int .i64 (E : Nat)]) ∧ Below U.heap.size U w') := fun u U xe xa xw hfu hEu hB h => by
        refine (prove_any u xe xa xw U h (frm_small hfu) (LL.out U hB)).mono ?_
        rintro e w' ⟨rfl, hb⟩
        exact ⟨_, _, _, by rw [hEu]; rfl, hb⟩
      have CJ : Hid (∀ (u : Tab) U xe xa xw (a c : Nat), latE u [] = 0 → Below w.heap.size w U → TabIn U xe xa xw u → a < u.n → c < u.n → Calls Tryd.prog 52 #[.agg #[.string (mkS u.name), xe, xa, xw], .int .i64 a, .int .i64 c] U fun e w' => e = .returned (.int .i64 (jn u.R u.n a c : Nat)) ∧ Below U.heap.size U w') := fun u U xe xa xw a c hl hB h ha hc =>
        lawJoin_any u xe xa xw a c U h hl (LL.out U hB) ha hc
      have HF := Lib.hid hf
      have HTO := Lib.hid hTO2
      have HE := Lib.hid hE
      have HN := Lib.hid hn
      unfold tabV at CT CK ⊢
      clear hT hnm hvb hLd hTO hTO2 hW1 b1 hth hf f1 f2 f3 f4 hE hn hz
      go_enter Tryd.func13, Tryd.ntmps13
      go_wp2_with fail
      rw [← HW1.out]
      refine CT.out.mono ?_
      rintro e w2 ⟨rfl, hb⟩
      have HB2 : Hid (Below W1.heap.size W1 w2) := hb
      clear hb c0 c1 c2 c3 CT
      obtain ⟨k0, k1, k2, k3⟩ := KS.out _ HB2.out
      go_wp2_with fail
      refine (CK.out _ (HBW.out _ HB2.out)).mono ?_
      rintro e w3 ⟨rfl, hb⟩
      have HB3 := Lib.hid (HB2.out.trans (hb.mono HB2.out.size))
      clear hb k0 k1 k2 k3 CK
      obtain ⟨k0, k1, k2, k3⟩ := KS.out _ HB3.out
      go_wp2_with fail
      refine (HTO.out _ _ _ _ _ (HBW.out _ HB3.out) (TB.out _ (HBW.out _ HB3.out)) (HVB.out _ (HBW.out _ HB3.out))).mono ?_
      rintro e w4 ⟨xe, xa, xw, vt, at', tn, rfl, hTu, hvt, hTurn, hb⟩
      have HB4 := Lib.hid (HB3.out.trans (hb.mono HB3.out.size))
      have hfu := turn_frm hTurn HF.out
      have hlu := turn_lat hTurn HF.out
      have HFU := Lib.hid hfu
      have HEU : Hid (latE (turnT t at') [] = E) := by
        show _ = _
        rw [HE.out]; unfold latE; rw [hfu, HF.out, hlu]; rfl
      have HTU := Lib.hid hTu
      have HTN := Lib.hid hTurn
      have HVT := Lib.hid hvt
      have hvl : (ints ((List.range t.n).map tn)).length = n := by rw [ints_length, List.length_map, List.length_range, HN.out]
      obtain ⟨pt, ct, rfl⟩ := hvt.form
      rw [hvl] at HVT
      rw [hvl]
      obtain ⟨qe, de, rfl⟩ := hTu.e.form
      obtain ⟨qa, da, rfl⟩ := hTu.a.form
      obtain ⟨qw, dw, rfl⟩ := hTu.w.form
      clear hb k0 k1 k2 k3 hTu hvt hTurn hfu hlu hvl
      have CCU : Hid (∀ U, Below w4.heap.size w4 U → Calls Tryd.prog 17 #[.agg #[.string (mkS t.name), .slice qe (turnT t at').elems.length de, .slice qa (turnT t at').above.length da, .slice qw (turnT t at').wrong.length dw]] U fun e w' => ∃ ve' va' vw', e = .returned (.agg #[.string (mkS t.name), ve', va', vw']) ∧ TabIn w' ve' va' vw' (turnT t at') ∧ Below U.heap.size U w') := fun U h =>
        CC.out (turnT t at') U _ _ _ HFU.out (HTU.out.below h)
      have CPU : Hid (∀ U xe xa xw, Below w4.heap.size w4 U → TabIn U xe xa xw (turnT t at') → Calls Tryd.prog 19 #[.agg #[.string (mkS t.name), xe, xa, xw]] U fun e w' => ∃ x y z : Nat, e = .returned (.tuple #[.agg #[.int .u8 (x : Nat), .int .i64 (y : Nat), .int .i64 (z : Nat)], .int .i64 (E : Nat)]) ∧ Below U.heap.size U w') := fun U xe xa xw hB h =>
        CPv.out (turnT t at') U xe xa xw HFU.out HEU.out ((HBW.out _ HB4.out).trans (hB.mono (HBW.out _ HB4.out).size)) h
      obtain ⟨W5, hW5⟩ : ∃ W5, W5 = w4.alloc (.cells #[.string (mkS t.name), .slice qe (turnT t at').elems.length de, .slice qa (turnT t at').above.length da, .slice qw (turnT t at').wrong.length dw] 26) := ⟨_, rfl⟩
      have b5 : Below w4.heap.size w4 W5 := by rw [hW5]; exact (Below.refl _ _).alloc (Nat.le_refl _) _
      have x0 : W5.cell? ⟨w4.heap.size, 0, none⟩ = some (.string (mkS t.name)) := by rw [hW5]; simp [go_sem]
      have x1 : W5.cell? ⟨w4.heap.size, 1, none⟩ = some (.slice qe (turnT t at').elems.length de) := by rw [hW5]; simp [go_sem]
      have x2 : W5.cell? ⟨w4.heap.size, 2, none⟩ = some (.slice qa (turnT t at').above.length da) := by rw [hW5]; simp [go_sem]
      have x3 : W5.cell? ⟨w4.heap.size, 3, none⟩ = some (.slice qw (turnT t at').wrong.length dw) := by rw [hW5]; simp [go_sem]
      have HB5 := Lib.hid (HB4.out.trans (b5.mono HB4.out.size))
      have HB45 := Lib.hid b5
      have KT : Hid (∀ V, Below W5.heap.size W5 V → (V.cell? ⟨w.heap.size, 0, none⟩ = some (.string (mkS t.name)) ∧ V.cell? ⟨w.heap.size, 1, none⟩ = some (.slice pe t.elems.length ce) ∧ V.cell? ⟨w.heap.size, 2, none⟩ = some (.slice pa t.above.length ca) ∧ V.cell? ⟨w.heap.size, 3, none⟩ = some (.slice pw t.wrong.length cw)) ∧ V.cell? ⟨w4.heap.size, 0, none⟩ = some (.string (mkS t.name)) ∧ V.cell? ⟨w4.heap.size, 1, none⟩ = some (.slice qe (turnT t at').elems.length de) ∧ V.cell? ⟨w4.heap.size, 2, none⟩ = some (.slice qa (turnT t at').above.length da) ∧ V.cell? ⟨w4.heap.size, 3, none⟩ = some (.slice qw (turnT t at').wrong.length dw)) := fun V h =>
        ⟨KS.out _ (HB5.out.trans (h.mono HB5.out.size)), (h.cell (cell_lt x0)).trans x0, (h.cell (cell_lt x1)).trans x1, (h.cell (cell_lt x2)).trans x2, (h.cell (cell_lt x3)).trans x3⟩
      have HW5 := Lib.hid hW5
      clear hW5 b5 x0 x1 x2 x3
      go_upto_region 4 with fail
      rw [← HW5.out]
      obtain ⟨⟨k0, k1, k2, k3⟩, _⟩ := KT.out _ (Below.refl _ _)
      go_wp2_with fail
      refine (CC.out t _ _ _ _ HF.out (TB.out _ (HBW.out _ HB5.out))).mono ?_
      rintro e w6 ⟨ve6, va6, vw6, rfl, hT6, hb⟩
      have HT6 := Lib.hid hT6
      have HD6 : Hid (Below W5.heap.size W5 w6) := hb
      have HB6 := Lib.hid (HB5.out.trans (hb.mono HB5.out.size))
      clear hb hT6 k0 k1 k2 k3
      go_wp2_with fail
      refine (CPv.out t _ _ _ _ HF.out HE.out.symm (HBW.out _ HB6.out) HT6.out).mono ?_
      rintro e w7 ⟨p1, p2, p3, rfl, hb⟩
      have HD7 := Lib.hid (HD6.out.trans (hb.mono HD6.out.size))
      clear hb HT6
      obtain ⟨W8, hW8⟩ : ∃ W8, W8 = w7.alloc (.cells #[.int .u8 (p1 : Nat), .int .i64 (p2 : Nat), .int .i64 (p3 : Nat)] 33) := ⟨_, rfl⟩
      have HD8 : Hid (Below W5.heap.size W5 W8) := by show Below _ _ _; rw [hW8]; exact HD7.out.alloc HD7.out.size _
      have HW8 := Lib.hid hW8
      clear hW8
      go_upto_region 5 with fail
      rw [← HW8.out]
      obtain ⟨_, k0, k1, k2, k3⟩ := KT.out _ HD8.out
      go_wp2_with fail
      refine (CCU.out _ (HB45.out.trans (HD8.out.mono HB45.out.size))).mono ?_
      rintro e w9 ⟨ve9, va9, vw9, rfl, hT9, hb⟩
      have HT9 := Lib.hid hT9
      have HD9 := Lib.hid (HD8.out.trans (hb.mono HD8.out.size))
      clear hb hT9 k0 k1 k2 k3
      go_wp2_with fail
      refine (CPU.out _ _ _ _ (HB45.out.trans (HD9.out.mono HB45.out.size)) HT9.out).mono ?_
      rintro e w10 ⟨r1, r2, r3, rfl, hb⟩
      have HD10 := Lib.hid (HD9.out.trans (hb.mono HD9.out.size))
      clear hb HT9
      obtain ⟨W11, hW11⟩ : ∃ W11, W11 = w10.alloc (.cells #[.int .u8 (r1 : Nat), .int .i64 (r2 : Nat), .int .i64 (r3 : Nat)] 33) := ⟨_, rfl⟩
      have HD11 : Hid (Below W5.heap.size W5 W11) := by show Below _ _ _; rw [hW11]; exact HD10.out.alloc HD10.out.size _
      have HW11 := Lib.hid hW11
      clear hW11
      have gE : ((E : Int) != (E : Int)) = false := by simp
      go_upto_region 6 with fail
      rw [← HW11.out]
      by_cases hE0 : E = 0
      · have HE0 := Lib.hid hE0
        have gE0 : ((E : Int) == 0) = true := by rw [beq_iff_eq]; omega
        have CJT : Hid (∀ U (a c : Nat), Below W5.heap.size W5 U → a < n → c < n → Calls Tryd.prog 52 #[.agg #[.string (mkS t.name), .slice pe t.elems.length ce, .slice pa t.above.length ca, .slice pw t.wrong.length cw], .int .i64 a, .int .i64 c] U fun e w' => e = .returned (.int .i64 (jn t.R n a c : Nat)) ∧ Below U.heap.size U w') := fun U a c h ha hc => by
          have hB := HBW.out _ (HB5.out.trans (h.mono HB5.out.size))
          have := CJ.out t U _ _ _ a c (by rw [← HE.out]; exact HE0.out) hB (TB.out _ hB) (by rw [← HN.out]; exact ha) (by rw [← HN.out]; exact hc)
          rw [← HN.out] at this
          exact this
        have CJU : Hid (∀ U (a c : Nat), Below W5.heap.size W5 U → a < n → c < n → Calls Tryd.prog 52 #[.agg #[.string (mkS t.name), .slice qe (turnT t at').elems.length de, .slice qa (turnT t at').above.length da, .slice qw (turnT t at').wrong.length dw], .int .i64 (tn a), .int .i64 (tn c)] U fun e w' => e = .returned (.int .i64 (tn (jn t.R n a c) : Nat)) ∧ Below U.heap.size U w') := fun U a c h ha hc => by
          have hB := HBW.out _ (HB5.out.trans (h.mono HB5.out.size))
          have hlt : latF t = true := (latE_zero (es := []) (by rw [← HE.out]; exact HE0.out)).2.1
          have e1 := turnT_n t at'
          rw [HN.out] at ha hc
          have := CJ.out (turnT t at') U _ _ _ (tn a) (tn c) (by rw [HEU.out]; exact HE0.out) hB (HTU.out.below (HB45.out.trans (h.mono HB45.out.size))) (by rw [e1]; exact HTN.out.t1 a ha) (by rw [e1]; exact HTN.out.t1 c hc)
          rw [e1, turn_jn HTN.out HF.out hlt ha hc] at this
          rw [HN.out]
          exact this
        have JL : Hid (∀ a c, a < n → c < n → jn t.R n a c < n) := fun a c ha hc => by
          have hlt : latF t = true := (latE_zero (es := []) (by rw [← HE.out]; exact HE0.out)).2.1
          have hL := latF_lat hlt
          rw [HN.out] at ha hc ⊢
          exact (jn_spec hL (frm_acy HF.out hL) ha hc).1
        have KV : Hid (∀ V, Below W5.heap.size W5 V → ∀ j, j < n → ∃ b off, pt = some ⟨b, off, none⟩ ∧ V.cell? ⟨b, off + j, none⟩ = some (.int .i64 (tn j : Nat))) := fun V h j hj => by
          have h1 := HVT.out.below (HB45.out.trans (h.mono HB45.out.size))
          obtain ⟨b, off, e, hc⟩ := h1.cell (i := j) (by rw [ints_length, List.length_map, List.length_range, ← HN.out]; exact hj)
          refine ⟨b, off, e, ?_⟩
          rw [hc, ← HN.out]
          simp [ints, List.getD_eq_getElem?_getD, hj]
        clear hE0
        go_wp2_with fail
        go_loopw [11] (fun i wx => ∃ a : Nat, a ≤ n ∧ i = .int .i64 a ∧ Hid (Below W5.heap.size W5 wx)) (fun i _ => n - (intOf i).toNat)
        case atStart => exact ⟨0, Nat.zero_le _, rfl, HD11.out⟩
        case round =>
          obtain ⟨a, han, rfl, hb⟩ := hrel
          by_cases hlt : a < n
          · go_wp2_with fail
            go_loopw [12] (fun i wx => ∃ c : Nat, c ≤ n ∧ i = .int .i64 c ∧ Hid (Below W5.heap.size W5 wx)) (fun i _ => n - (intOf i).toNat)
            case atStart => exact ⟨0, Nat.zero_le _, rfl, hb⟩
            case round =>
              clear hb
              obtain ⟨c, hcn, rfl, hb⟩ := hrel
              by_cases hlt2 : c < n
              · obtain ⟨j, hj⟩ : ∃ j, j = jn t.R n a c := ⟨_, rfl⟩
                have hjn : j < n := by rw [hj]; exact JL.out a c hlt hlt2
                have D1 : Hid (∀ V, Below wr.heap.size wr V → Calls Tryd.prog 52 #[.agg #[.string (mkS t.name), .slice pe t.elems.length ce, .slice pa t.above.length ca, .slice pw t.wrong.length cw], .int .i64 a, .int .i64 c] V fun e w'' => e = .returned (.int .i64 (j : Int)) ∧ Below wr.heap.size wr w'') := fun V hV => by
                  refine (CJT.out V a c (hb.out.trans (hV.mono hb.out.size)) hlt hlt2).mono ?_
                  rintro e w' ⟨rfl, hb⟩
                  exact ⟨by rw [hj], hV.trans (hb.mono hV.size)⟩
                obtain ⟨tj, htj⟩ : ∃ x, x = tn j := ⟨_, rfl⟩
                obtain ⟨ta, hta⟩ : ∃ x, x = tn a := ⟨_, rfl⟩
                obtain ⟨tc, htc⟩ : ∃ x, x = tn c := ⟨_, rfl⟩
                have D2 : Hid (∀ V, Below wr.heap.size wr V → Calls Tryd.prog 52 #[.agg #[.string (mkS t.name), .slice qe (turnT t at').elems.length de, .slice qa (turnT t at').above.length da, .slice qw (turnT t at').wrong.length dw], .int .i64 ta, .int .i64 tc] V fun e w'' => e = .returned (.int .i64 (tj : Int)) ∧ Below wr.heap.size wr w'') := fun V hV => by
                  rw [hta, htc]
                  refine (CJU.out V a c (hb.out.trans (hV.mono hb.out.size)) hlt hlt2).mono ?_
                  rintro e w' ⟨rfl, hb⟩
                  exact ⟨by rw [htj, hj], hV.trans (hb.mono hV.size)⟩
                obtain ⟨b, off, rfl, _⟩ := KV.out _ hb.out a hlt
                have KX : Hid (∀ V, Below W5.heap.size W5 V → V.cell? ⟨b, off + a, none⟩ = some (.int .i64 (ta : Int)) ∧ V.cell? ⟨b, off + c, none⟩ = some (.int .i64 (tc : Int)) ∧ V.cell? ⟨b, off + j, none⟩ = some (.int .i64 (tj : Int))) := fun V h => by
                  have key : ∀ i, i < n → V.cell? ⟨b, off + i, none⟩ = some (.int .i64 (tn i : Nat)) := fun i hi => by
                    obtain ⟨b', off', e, h2⟩ := KV.out V h i hi
                    simp only [Option.some.injEq, Addr.mk.injEq, and_true] at e
                    obtain ⟨rfl, rfl⟩ := e
                    exact h2
                  rw [hta, htc, htj]
                  exact ⟨key a hlt, key c hlt2, key j hjn⟩
                have KW : Hid (∀ V, Below wr.heap.size wr V → ((V.cell? ⟨w.heap.size, 0, none⟩ = some (.string (mkS t.name)) ∧ V.cell? ⟨w.heap.size, 1, none⟩ = some (.slice pe t.elems.length ce) ∧ V.cell? ⟨w.heap.size, 2, none⟩ = some (.slice pa t.above.length ca) ∧ V.cell? ⟨w.heap.size, 3, none⟩ = some (.slice pw t.wrong.length cw)) ∧ V.cell? ⟨w4.heap.size, 0, none⟩ = some (.string (mkS t.name)) ∧ V.cell? ⟨w4.heap.size, 1, none⟩ = some (.slice qe (turnT t at').elems.length de) ∧ V.cell? ⟨w4.heap.size, 2, none⟩ = some (.slice qa (turnT t at').above.length da) ∧ V.cell? ⟨w4.heap.size, 3, none⟩ = some (.slice qw (turnT t at').wrong.length dw)) ∧ V.cell? ⟨b, off + a, none⟩ = some (.int .i64 (ta : Int)) ∧ V.cell? ⟨b, off + c, none⟩ = some (.int .i64 (tc : Int)) ∧ V.cell? ⟨b, off + j, none⟩ = some (.int .i64 (tj : Int))) := fun V h =>
                  ⟨KT.out _ (hb.out.trans (h.mono hb.out.size)), KX.out _ (hb.out.trans (h.mono hb.out.size))⟩
                have gj : decide ((j : Int) < 0) = false := decide_eq_false (by omega)
                have gt : ((tj : Int) != (tj : Int)) = false := by simp
                clear hj htj hta htc
                go_upto_region 14 with fail
                refine wp_region_below wr.heap.size wr (by kernel_rfl) (by kernel_rfl) (Below.refl _ _) ?_
                repeat (
                  refine wpQuiet_step (fun K hK => ?_)
                  first
                    | (refine quiet_yes (by rfl) ?_ (fun V hV => ?_) (hK _ ?_)
                       rotate_left
                       · obtain ⟨⟨⟨k0, k1, k2, k3⟩, u0, u1, u2, u3⟩, hc1, hc2, hc3⟩ := KW.out V hV
                         unfold Oper.quietAt
                         go_simp
                         first
                           | exact rfl
                           | exact ⟨rfl, rfl⟩
                           | with_reducible exact D1.out V hV
                           | with_reducible exact D2.out V hV
                       clear hK K
                       simp only [Act.put, List.setIfInBounds_toArray, List.set_cons_zero, List.set_cons_succ])
                    | (refine quiet_no (by rfl) (hK _ ?_)
                       clear hK K
                       simp only [Act.put, List.setIfInBounds_toArray, List.set_cons_zero, List.set_cons_succ]))
                refine wpQuiet_nil ?_
                intro w12 hb12
                obtain ⟨_, hc1, hc2, hc3⟩ := KW.out _ hb12
                have HB12 := Lib.hid (hb.out.trans (hb12.mono hb.out.size))
                clear hb12 KW D1 D2
                go_wp2
                go_roundw
                case rel => exact ⟨c + 1, by omega, by go_num, HB12.out⟩
                case measure => simp [intOf]; omega
              · go_wp2
                go_roundw
                case rel => exact ⟨a + 1, by omega, by go_num, hb.out⟩
                case measure => simp [intOf]; omega
          · have HBr := Lib.hid (HBW.out _ (HB5.out.trans (hb.out.mono HB5.out.size)))
            go_wp2_with fail
            refine (CA.out _ HBr.out).mono ?_
            rintro e w13 ⟨rfl, hb13⟩
            have HB13 := Lib.hid (HBr.out.trans (hb13.mono HBr.out.size))
            clear hb13
            go_wp2
            go_ret
            exact ⟨rfl, HB13.out⟩
      · have gE0 : ((E : Int) == 0) = false := by rw [beq_eq_false_iff_ne]; omega
        clear hE0
        go_wp2_with fail
        go_loopw [11] (fun i wx => i = .int .i64 0 ∧ Hid (Below W5.heap.size W5 wx)) (fun i _ => 0)
        case atStart => exact ⟨rfl, HD11.out⟩
        case round =>
          obtain ⟨rfl, hb⟩ := hrel
          have HBr := Lib.hid (HBW.out _ (HB5.out.trans (hb.out.mono HB5.out.size)))
          have n1 : 0 < n := by have := (frm_len HF.out).1; have := HN.out; unfold Tab.n at this; omega
          go_wp2_with fail
          refine (CA.out _ HBr.out).mono ?_
          rintro e w13 ⟨rfl, hb13⟩
          have HB13 := Lib.hid (HBr.out.trans (hb13.mono HBr.out.size))
          clear hb13
          go_wp2
          go_ret
          exact ⟨rfl, HB13.out⟩
    · have hz1 : ((z : Int) != 0) = true := by
        rw [hz]; unfold chkE; rw [(Bool.not_eq_true _).mp hf]; rfl
      have HZ := Lib.hid hz1
      unfold tabV at CT CK ⊢
      clear hT hnm hvb hLd hTO hW1 b1 hth hf hz
      go_enter Tryd.func13, Tryd.ntmps13
      go_wp2_with fail
      rw [← HW1.out]
      refine CT.out.mono ?_
      rintro e w2 ⟨rfl, hb⟩
      have HB2 : Hid (Below W1.heap.size W1 w2) := hb
      clear hb c0 c1 c2 c3 CT
      obtain ⟨k0, k1, k2, k3⟩ := KS.out _ HB2.out
      go_wp2_with fail
      refine (CK.out _ (HBW.out _ HB2.out)).mono ?_
      rintro e w3 ⟨rfl, hb⟩
      have HB3 := Lib.hid ((HBW.out _ HB2.out).trans (hb.mono (HBW.out _ HB2.out).size))
      clear hb k0 k1 k2 k3 CK
      go_wp2_with fail
      refine (CA.out _ HB3.out).mono ?_
      rintro e w4 ⟨rfl, hb⟩
      have HB4 := Lib.hid (HB3.out.trans (hb.mono HB3.out.size))
      clear hb
      go_wp2
      go_ret
      exact ⟨rfl, HB4.out⟩
end Go.Proofs.YtmooikdodbjgpaaDoor.Or
