/- OrderJoins is true of every table and every two numbers. -/
import Derived.Test.YtmooikdodbjgpaaDoorOrId
import Derived.Test.YtmooikdodbjgpaaDoorOrAj
import Derived.Test.YtmooikdodbjgpaaDoorOrGc
import Derived.Test.YtmooikdodbjgpaaDoorOrGf
import Derived.Deep.Cut
set_option linter.unusedVariables false
set_option linter.unusedSimpArgs false
namespace Go.Proofs.YtmooikdodbjgpaaDoor.Or
open Go.RowKit Go.Shelf

set_option maxRecDepth 100000 in
set_option maxHeartbeats 8000000 in
theorem joins_any (HJ : JoinOk) (t : Tab) (ve va vw : Value) (a c : Int) (w : World) (hT : TabIn w ve va vw t) (hnm : t.name.length ≤ 281474976710656) (hLd : LaidOk w) :
    Calls Tryd.prog 5 #[tabV t ve va vw, pairV a c] w fun e w' => e = .returned (.bool true) ∧ Below w.heap.size w w' := by
  obtain ⟨m, hm⟩ : ∃ m, m = w.heap.size := ⟨_, rfl⟩
  obtain ⟨W1, hW1⟩ : ∃ W1, W1 = (w.alloc (Obj.cells #[.string (mkS t.name), ve, va, vw] 26)).alloc (Obj.cells #[.int .i64 a, .int .i64 c] 38) := ⟨_, rfl⟩
  have b1 : Below w.heap.size w W1 := by rw [hW1]; exact ((Below.refl _ _).alloc (Nat.le_refl _) _).alloc (by simp) _
  have c0 : W1.cell? ⟨m, 0, none⟩ = some (.string (mkS t.name)) := by rw [hW1, hm]; simp [go_sem]
  have c1 : W1.cell? ⟨m, 1, none⟩ = some ve := by rw [hW1, hm]; simp [go_sem]
  have c2 : W1.cell? ⟨m, 2, none⟩ = some va := by rw [hW1, hm]; simp [go_sem]
  have c3 : W1.cell? ⟨m, 3, none⟩ = some vw := by rw [hW1, hm]; simp [go_sem]
  have c4 : W1.cell? ⟨m + 1, 0, none⟩ = some (.int .i64 a) := by rw [hW1, hm]; simp [go_sem]
  have c5 : W1.cell? ⟨m + 1, 1, none⟩ = some (.int .i64 c) := by rw [hW1, hm]; simp [go_sem]
  have CT := Lib.hid (thin_any t ve va vw W1 (hT.below b1) hnm)
  have CA : Hid (∀ W, Below w.heap.size w W → Calls Tryd.prog 16 #[] W fun e w' => e = .returned (.bool true) ∧ Below W.heap.size W w') := fun W h => awake_any HJ W (hLd.below h)
  have HW1 := Lib.hid hW1; have HB1 := Lib.hid b1
  have HTI : Hid (∀ W, Below w.heap.size w W → TabIn W ve va vw t) := fun W h => hT.below h
  have HLI : Hid (∀ W, Below w.heap.size w W → LaidOk W) := fun W h => hLd.below h
  have HBW : Hid (∀ U, Below W1.heap.size W1 U → Below w.heap.size w U) := fun U h => b1.trans (h.mono b1.size)
  obtain ⟨pe, ce, rfl⟩ := hT.e.form
  obtain ⟨pa, ca, rfl⟩ := hT.a.form
  obtain ⟨pw, cw, rfl⟩ := hT.w.form
  have HM := Lib.hid hm
  cases hr : thinF t with
  | false =>
    rw [hr] at CT
    unfold tabV at CT
    unfold tabV pairV
    clear hr hT hnm hLd hW1 b1 c0 c1 c2 c3 c4 c5 hm
    go_enter Tryd.func5, Tryd.ntmps5
    go_wp2_with fail
    rw [← HW1.out]
    refine CT.out.mono ?_
    rintro e w2 ⟨rfl, hb⟩
    have HB2 := Lib.hid (HB1.out.trans (hb.mono HB1.out.size))
    clear hb
    go_wp2_with fail
    refine (CA.out _ HB2.out).mono ?_
    rintro e w3 ⟨rfl, hb⟩
    have HB3 := Lib.hid (HB2.out.trans (hb.mono HB2.out.size))
    clear hb
    go_wp2
    go_ret
    exact ⟨rfl, HB3.out⟩
  | true =>
    rw [hr] at CT
    have hS := thin_small hr
    obtain ⟨t1, t2, t3, t4⟩ := thin_lens hr
    obtain ⟨E0, hE0⟩ : ∃ E, E = latE t [] := ⟨_, rfl⟩
    obtain ⟨E1, hE1⟩ : ∃ E, E = latE t [a] := ⟨_, rfl⟩
    obtain ⟨E2, hE2⟩ : ∃ E, E = latE t [a, c] := ⟨_, rfl⟩
    obtain ⟨jv, hjv⟩ : ∃ j, j = (if latE t [a, c] = 0 then (joinO t.R t.n a.toNat c.toNat).getD 0 else 0 : Nat) := ⟨_, rfl⟩
    obtain ⟨hv, hhv⟩ : ∃ j, j = (if latE t [] = 0 then hgtC t.R t.n (t.n + 1) 0 else 0 : Nat) := ⟨_, rfl⟩
    obtain ⟨LP, hLP⟩ : ∃ L, L = (if latE t [] = 0 then (List.range t.n).filter (primeO t.R t.n) else []) := ⟨_, rfl⟩
    obtain ⟨LQ, hLQ⟩ : ∃ L, L = (if latE t [a] = 0 then partsL t a.toNat else []) := ⟨_, rfl⟩
    have CC : Hid (∀ W, Below W1.heap.size W1 W → Calls Tryd.prog 17 #[tabV t (.slice pe t.elems.length ce) (.slice pa t.above.length ca) (.slice pw t.wrong.length cw)] W fun e w' => ∃ ve' va' vw', e = .returned (tabV t ve' va' vw') ∧ TabIn w' ve' va' vw' t ∧ Below W.heap.size W w') := fun W h => copy_any t _ _ _ W (HTI.out W (HBW.out W h)) t1 t2 t3 t4
    have CJ : Hid (∀ W ve va vw, TabIn W ve va vw t → Below W1.heap.size W1 W → Calls Tryd.prog 28 #[tabV t ve va vw, .int .i64 a, .int .i64 c] W fun e w' => e = .returned (.tuple #[.int .i64 (jv : Nat), .int .i64 (E2 : Nat)]) ∧ Below W.heap.size W w') := fun W ve va vw h hb => by rw [hjv, hE2]; exact Join_any t ve va vw a c W h hS (HLI.out W (HBW.out W hb))
    have CP : Hid (∀ W ve va vw, TabIn W ve va vw t → Below W1.heap.size W1 W → Calls Tryd.prog 29 #[tabV t ve va vw] W fun e w' => ∃ v, e = .returned (.tuple #[v, .int .i64 (E0 : Nat)]) ∧ RdI w' v (ints LP) ∧ Below W.heap.size W w') := fun W ve va vw h hb => by
      refine (Primes_any t ve va vw W h hS (HLI.out W (HBW.out W hb))).mono ?_
      rintro e w' ⟨v, rfl, hv, hb'⟩
      refine ⟨v, by rw [hE0], ?_, hb'⟩
      rw [hLP]
      split at hv
      · rw [if_pos (by assumption)]; exact hv
      · rw [if_neg (by assumption)]; exact hv
    have CQ : Hid (∀ W ve va vw, TabIn W ve va vw t → Below W1.heap.size W1 W → Calls Tryd.prog 30 #[tabV t ve va vw, .int .i64 a] W fun e w' => ∃ v, e = .returned (.tuple #[v, .int .i64 (E1 : Nat)]) ∧ RdI w' v (ints LQ) ∧ Below W.heap.size W w') := fun W ve va vw h hb => by
      refine (Parts_any t ve va vw a W h hS (HLI.out W (HBW.out W hb))).mono ?_
      rintro e w' ⟨v, rfl, hv, hb'⟩
      refine ⟨v, by rw [hE1], ?_, hb'⟩
      rw [hLQ]
      split at hv
      · rw [if_pos (by assumption)]; exact hv
      · rw [if_neg (by assumption)]; exact hv
    have CH : Hid (∀ W ve va vw, TabIn W ve va vw t → Below W1.heap.size W1 W → Calls Tryd.prog 31 #[tabV t ve va vw] W fun e w' => e = .returned (.tuple #[.int .i64 (hv : Nat), .int .i64 (E0 : Nat)]) ∧ Below W.heap.size W w') := fun W ve va vw h hb => by rw [hhv, hE0]; exact Height_any t ve va vw W h hS (HLI.out W (HBW.out W hb))
    have DJ : Hid (∀ W, Below W1.heap.size W1 W → Calls Tryd.prog 32 #[tabV t (.slice pe t.elems.length ce) (.slice pa t.above.length ca) (.slice pw t.wrong.length cw), .int .i64 a, .int .i64 c] W fun e w' => e = .returned (.tuple #[.int .i64 (jv : Nat), .int .i64 (E2 : Nat)]) ∧ Below W.heap.size W w') := fun W h => by rw [hjv, hE2]; exact refJoin_any t _ _ _ a c W (HTI.out W (HBW.out W h)) hS
    have DP : Hid (∀ W, Below W1.heap.size W1 W → Calls Tryd.prog 33 #[tabV t (.slice pe t.elems.length ce) (.slice pa t.above.length ca) (.slice pw t.wrong.length cw)] W fun e w' => ∃ v, e = .returned (.tuple #[v, .int .i64 (E0 : Nat)]) ∧ RdI w' v (ints LP) ∧ Below W.heap.size W w') := fun W h => by
      refine (refPrimes_any t _ _ _ W (HTI.out W (HBW.out W h)) hS).mono ?_
      rintro e w' ⟨v, rfl, hv, hb'⟩
      rw [← hLP, intsV_ints] at hv
      exact ⟨v, by rw [hE0], hv, hb'⟩
    have DQ : Hid (∀ W, Below W1.heap.size W1 W → Calls Tryd.prog 34 #[tabV t (.slice pe t.elems.length ce) (.slice pa t.above.length ca) (.slice pw t.wrong.length cw), .int .i64 a] W fun e w' => ∃ v, e = .returned (.tuple #[v, .int .i64 (E1 : Nat)]) ∧ RdI w' v (ints LQ) ∧ Below W.heap.size W w') := fun W h => by
      refine (refParts_any t _ _ _ a W (HTI.out W (HBW.out W h)) hS).mono ?_
      rintro e w' ⟨v, rfl, hv, hb'⟩
      rw [← hLQ, intsV_ints] at hv
      exact ⟨v, by rw [hE1], hv, hb'⟩
    have DH : Hid (∀ W, Below W1.heap.size W1 W → Calls Tryd.prog 35 #[tabV t (.slice pe t.elems.length ce) (.slice pa t.above.length ca) (.slice pw t.wrong.length cw)] W fun e w' => e = .returned (.tuple #[.int .i64 (hv : Nat), .int .i64 (E0 : Nat)]) ∧ Below W.heap.size W w') := fun W h => by rw [hhv, hE0]; exact refHeight_any t _ _ _ W (HTI.out W (HBW.out W h)) hS
    have CS : Hid (∀ W u v L, RdI W u (ints L) → RdI W v (ints L) → Calls Tryd.prog 27 #[u, v] W fun e w' => e = .returned (.bool true) ∧ Below W.heap.size W w') := fun W u v L hu hv => by
      refine (sameInts_any u v _ _ W hu hv).mono ?_
      rintro e w' ⟨rfl, hb⟩
      exact ⟨by simp, hb⟩
    have CU : Hid (∀ W ve2 va2 vw2, TabIn W ve2 va2 vw2 t → Below W1.heap.size W1 W → Calls Tryd.prog 22 #[tabV t ve2 va2 vw2, tabV t (.slice pe t.elems.length ce) (.slice pa t.above.length ca) (.slice pw t.wrong.length cw)] W fun e w' => e = .returned (.bool true) ∧ Below W.heap.size W w') := fun W ve2 va2 vw2 h2 hb => sameTable_any t _ _ _ _ _ _ W h2 (HTI.out W (HBW.out W hb)) t1 t2 t3
    obtain ⟨nE, hnE⟩ : ∃ n, n = t.elems.length := ⟨_, rfl⟩
    obtain ⟨nA, hnA⟩ : ∃ n, n = t.above.length := ⟨_, rfl⟩
    obtain ⟨nW, hnW⟩ : ∃ n, n = t.wrong.length := ⟨_, rfl⟩
    unfold tabV at CT CC CJ CP CQ CH DJ DP DQ DH CU
    unfold tabV pairV
    rw [← hnE] at CT CC DJ DP DQ DH CU HW1 c1 ⊢
    rw [← hnA] at CT CC DJ DP DQ DH CU HW1 c2 ⊢
    rw [← hnW] at CT CC DJ DP DQ DH CU HW1 c3 ⊢
    have HNE := Lib.hid hnE; have HNA := Lib.hid hnA; have HNW := Lib.hid hnW
    clear hr hT hnm hLd hW1 b1 hS t1 t2 t3 t4 hE0 hE1 hE2 hjv hhv hLP hLQ HTI HLI hnE hnA hnW hm
    have KS : Hid (∀ U, Below W1.heap.size W1 U → U.cell? ⟨m, 0, none⟩ = some (.string (mkS t.name)) ∧ U.cell? ⟨m, 1, none⟩ = some (.slice pe nE ce) ∧ U.cell? ⟨m, 2, none⟩ = some (.slice pa nA ca) ∧ U.cell? ⟨m, 3, none⟩ = some (.slice pw nW cw) ∧ U.cell? ⟨m + 1, 0, none⟩ = some (.int .i64 a) ∧ U.cell? ⟨m + 1, 1, none⟩ = some (.int .i64 c)) := fun U h =>
      ⟨(h.cell (cell_lt c0)).trans c0, (h.cell (cell_lt c1)).trans c1, (h.cell (cell_lt c2)).trans c2, (h.cell (cell_lt c3)).trans c3, (h.cell (cell_lt c4)).trans c4, (h.cell (cell_lt c5)).trans c5⟩
    clear c0 c1 c2 c3 c4 c5
    go_enter Tryd.func5, Tryd.ntmps5
    go_wp2_with fail
    rw [← HM.out, ← HW1.out]
    refine CT.out.mono ?_
    rintro e w2 ⟨rfl, hb⟩
    have HB2 : Hid (Below W1.heap.size W1 w2) := hb
    obtain ⟨k0, k1, k2, k3, k4, k5⟩ := KS.out _ HB2.out
    clear hb CT
    go_wp2_with fail
    refine (CC.out _ HB2.out).mono ?_
    rintro e w3 ⟨ve', va', vw', rfl, hT3, hb⟩
    have HB3 := Lib.hid (HB2.out.trans (hb.mono HB2.out.size))
    obtain ⟨pe', ce', rfl⟩ := hT3.e.form
    obtain ⟨pa', ca', rfl⟩ := hT3.a.form
    obtain ⟨pw', cw', rfl⟩ := hT3.w.form
    rw [← HNE.out, ← HNA.out, ← HNW.out] at hT3
    rw [← HNE.out, ← HNA.out, ← HNW.out]
    have HT3 := Lib.hid hT3
    clear hb hT3 k0 k1 k2 k3 k4 k5
    obtain ⟨X, hX⟩ : ∃ X, X = w3.alloc (.cells #[.string (mkS t.name), .slice pe' nE ce', .slice pa' nA ca', .slice pw' nW cw'] 26) := ⟨_, rfl⟩
    have bX : Below w3.heap.size w3 X := by rw [hX]; exact (Below.refl _ _).alloc (Nat.le_refl _) _
    have x0 : X.cell? ⟨w3.heap.size, 0, none⟩ = some (.string (mkS t.name)) := by rw [hX]; simp [go_sem]
    have x1 : X.cell? ⟨w3.heap.size, 1, none⟩ = some (.slice pe' nE ce') := by rw [hX]; simp [go_sem]
    have x2 : X.cell? ⟨w3.heap.size, 2, none⟩ = some (.slice pa' nA ca') := by rw [hX]; simp [go_sem]
    have x3 : X.cell? ⟨w3.heap.size, 3, none⟩ = some (.slice pw' nW cw') := by rw [hX]; simp [go_sem]
    have KX : Hid (∀ U, Below X.heap.size X U → U.cell? ⟨w3.heap.size, 0, none⟩ = some (.string (mkS t.name)) ∧ U.cell? ⟨w3.heap.size, 1, none⟩ = some (.slice pe' nE ce') ∧ U.cell? ⟨w3.heap.size, 2, none⟩ = some (.slice pa' nA ca') ∧ U.cell? ⟨w3.heap.size, 3, none⟩ = some (.slice pw' nW cw')) := fun U h =>
      ⟨(h.cell (cell_lt x0)).trans x0, (h.cell (cell_lt x1)).trans x1, (h.cell (cell_lt x2)).trans x2, (h.cell (cell_lt x3)).trans x3⟩
    have HBX : Hid (∀ U, Below X.heap.size X U → Below W1.heap.size W1 U) := fun U h => (HB3.out.trans (bX.mono HB3.out.size)).trans (h.mono (HB3.out.trans (bX.mono HB3.out.size)).size)
    have HTX : Hid (∀ U, Below X.heap.size X U → TabIn U (.slice pe' nE ce') (.slice pa' nA ca') (.slice pw' nW cw') t) := fun U h => HT3.out.below (bX.trans (h.mono bX.size))
    have HX := Lib.hid hX
    clear hX bX x0 x1 x2 x3
    go_upto_region 4 with fail
    rw [← HX.out]
    have HBX0 : Hid (Below X.heap.size X X) := Below.refl _ _
    obtain ⟨k0, k1, k2, k3, k4, k5⟩ := KS.out _ (HBX.out _ HBX0.out)
    obtain ⟨u0, u1, u2, u3⟩ := KX.out _ HBX0.out
    go_wp2_with fail
    refine (CJ.out _ _ _ _ (HTX.out _ HBX0.out) (HBX.out _ HBX0.out)).mono ?_
    rintro e a1 ⟨rfl, hb⟩
    have HBa1 := Lib.hid (HBX0.out.trans (hb.mono HBX0.out.size))
    clear hb k0 k1 k2 k3 k4 k5 u0 u1 u2 u3
    obtain ⟨k0, k1, k2, k3, k4, k5⟩ := KS.out _ (HBX.out _ HBa1.out)
    obtain ⟨u0, u1, u2, u3⟩ := KX.out _ HBa1.out
    go_wp2_with fail
    refine (CP.out _ _ _ _ (HTX.out _ HBa1.out) (HBX.out _ HBa1.out)).mono ?_
    rintro e a2 ⟨v2, rfl, hrv2, hb⟩
    have HBa2 := Lib.hid (HBa1.out.trans (hb.mono HBa1.out.size))
    have HRv2 : Hid (∀ U, Below a2.heap.size a2 U → RdI U v2 (ints LP)) := fun U h => hrv2.below h
    clear hrv2
    clear hb k0 k1 k2 k3 k4 k5 u0 u1 u2 u3
    obtain ⟨k0, k1, k2, k3, k4, k5⟩ := KS.out _ (HBX.out _ HBa2.out)
    obtain ⟨u0, u1, u2, u3⟩ := KX.out _ HBa2.out
    go_wp2_with fail
    refine (CQ.out _ _ _ _ (HTX.out _ HBa2.out) (HBX.out _ HBa2.out)).mono ?_
    rintro e a3 ⟨v3, rfl, hrv3, hb⟩
    have HBa3 := Lib.hid (HBa2.out.trans (hb.mono HBa2.out.size))
    have HRv3 : Hid (∀ U, Below a3.heap.size a3 U → RdI U v3 (ints LQ)) := fun U h => hrv3.below h
    clear hrv3
    have HRv2 : Hid (∀ U, Below a3.heap.size a3 U → RdI U v2 (ints LP)) := fun U h => HRv2.out U (hb.trans (h.mono hb.size))
    clear hb k0 k1 k2 k3 k4 k5 u0 u1 u2 u3
    obtain ⟨k0, k1, k2, k3, k4, k5⟩ := KS.out _ (HBX.out _ HBa3.out)
    obtain ⟨u0, u1, u2, u3⟩ := KX.out _ HBa3.out
    go_wp2_with fail
    refine (CH.out _ _ _ _ (HTX.out _ HBa3.out) (HBX.out _ HBa3.out)).mono ?_
    rintro e a4 ⟨rfl, hb⟩
    have HBa4 := Lib.hid (HBa3.out.trans (hb.mono HBa3.out.size))
    have HRv2 : Hid (∀ U, Below a4.heap.size a4 U → RdI U v2 (ints LP)) := fun U h => HRv2.out U (hb.trans (h.mono hb.size))
    have HRv3 : Hid (∀ U, Below a4.heap.size a4 U → RdI U v3 (ints LQ)) := fun U h => HRv3.out U (hb.trans (h.mono hb.size))
    clear hb k0 k1 k2 k3 k4 k5 u0 u1 u2 u3
    obtain ⟨k0, k1, k2, k3, k4, k5⟩ := KS.out _ (HBX.out _ HBa4.out)
    obtain ⟨u0, u1, u2, u3⟩ := KX.out _ HBa4.out
    go_wp2_with fail
    refine (DJ.out _ (HBX.out _ HBa4.out)).mono ?_
    rintro e a5 ⟨rfl, hb⟩
    have HBa5 := Lib.hid (HBa4.out.trans (hb.mono HBa4.out.size))
    have HRv2 : Hid (∀ U, Below a5.heap.size a5 U → RdI U v2 (ints LP)) := fun U h => HRv2.out U (hb.trans (h.mono hb.size))
    have HRv3 : Hid (∀ U, Below a5.heap.size a5 U → RdI U v3 (ints LQ)) := fun U h => HRv3.out U (hb.trans (h.mono hb.size))
    clear hb k0 k1 k2 k3 k4 k5 u0 u1 u2 u3
    obtain ⟨k0, k1, k2, k3, k4, k5⟩ := KS.out _ (HBX.out _ HBa5.out)
    obtain ⟨u0, u1, u2, u3⟩ := KX.out _ HBa5.out
    go_wp2_with fail
    refine (DP.out _ (HBX.out _ HBa5.out)).mono ?_
    rintro e a6 ⟨v6, rfl, hrv6, hb⟩
    have HBa6 := Lib.hid (HBa5.out.trans (hb.mono HBa5.out.size))
    have HRv6 : Hid (∀ U, Below a6.heap.size a6 U → RdI U v6 (ints LP)) := fun U h => hrv6.below h
    clear hrv6
    have HRv2 : Hid (∀ U, Below a6.heap.size a6 U → RdI U v2 (ints LP)) := fun U h => HRv2.out U (hb.trans (h.mono hb.size))
    have HRv3 : Hid (∀ U, Below a6.heap.size a6 U → RdI U v3 (ints LQ)) := fun U h => HRv3.out U (hb.trans (h.mono hb.size))
    clear hb k0 k1 k2 k3 k4 k5 u0 u1 u2 u3
    obtain ⟨k0, k1, k2, k3, k4, k5⟩ := KS.out _ (HBX.out _ HBa6.out)
    obtain ⟨u0, u1, u2, u3⟩ := KX.out _ HBa6.out
    go_wp2_with fail
    refine (DQ.out _ (HBX.out _ HBa6.out)).mono ?_
    rintro e a7 ⟨v7, rfl, hrv7, hb⟩
    have HBa7 := Lib.hid (HBa6.out.trans (hb.mono HBa6.out.size))
    have HRv7 : Hid (∀ U, Below a7.heap.size a7 U → RdI U v7 (ints LQ)) := fun U h => hrv7.below h
    clear hrv7
    have HRv2 : Hid (∀ U, Below a7.heap.size a7 U → RdI U v2 (ints LP)) := fun U h => HRv2.out U (hb.trans (h.mono hb.size))
    have HRv3 : Hid (∀ U, Below a7.heap.size a7 U → RdI U v3 (ints LQ)) := fun U h => HRv3.out U (hb.trans (h.mono hb.size))
    have HRv6 : Hid (∀ U, Below a7.heap.size a7 U → RdI U v6 (ints LP)) := fun U h => HRv6.out U (hb.trans (h.mono hb.size))
    clear hb k0 k1 k2 k3 k4 k5 u0 u1 u2 u3
    obtain ⟨k0, k1, k2, k3, k4, k5⟩ := KS.out _ (HBX.out _ HBa7.out)
    obtain ⟨u0, u1, u2, u3⟩ := KX.out _ HBa7.out
    go_wp2_with fail
    refine (DH.out _ (HBX.out _ HBa7.out)).mono ?_
    rintro e a8 ⟨rfl, hb⟩
    have HBa8 := Lib.hid (HBa7.out.trans (hb.mono HBa7.out.size))
    have HRv2 : Hid (∀ U, Below a8.heap.size a8 U → RdI U v2 (ints LP)) := fun U h => HRv2.out U (hb.trans (h.mono hb.size))
    have HRv3 : Hid (∀ U, Below a8.heap.size a8 U → RdI U v3 (ints LQ)) := fun U h => HRv3.out U (hb.trans (h.mono hb.size))
    have HRv6 : Hid (∀ U, Below a8.heap.size a8 U → RdI U v6 (ints LP)) := fun U h => HRv6.out U (hb.trans (h.mono hb.size))
    have HRv7 : Hid (∀ U, Below a8.heap.size a8 U → RdI U v7 (ints LQ)) := fun U h => HRv7.out U (hb.trans (h.mono hb.size))
    clear hb k0 k1 k2 k3 k4 k5 u0 u1 u2 u3
    obtain ⟨k0, k1, k2, k3, k4, k5⟩ := KS.out _ (HBX.out _ HBa8.out)
    obtain ⟨u0, u1, u2, u3⟩ := KX.out _ HBa8.out
    go_wp2_with fail
    refine (CS.out _ _ _ LP (HRv2.out _ (Below.refl _ _)) (HRv6.out _ (Below.refl _ _))).mono ?_
    rintro e a9 ⟨rfl, hb⟩
    have HBa9 := Lib.hid (HBa8.out.trans (hb.mono HBa8.out.size))
    have HRv3 : Hid (∀ U, Below a9.heap.size a9 U → RdI U v3 (ints LQ)) := fun U h => HRv3.out U (hb.trans (h.mono hb.size))
    have HRv7 : Hid (∀ U, Below a9.heap.size a9 U → RdI U v7 (ints LQ)) := fun U h => HRv7.out U (hb.trans (h.mono hb.size))
    clear hb k0 k1 k2 k3 k4 k5 u0 u1 u2 u3
    obtain ⟨k0, k1, k2, k3, k4, k5⟩ := KS.out _ (HBX.out _ HBa9.out)
    obtain ⟨u0, u1, u2, u3⟩ := KX.out _ HBa9.out
    go_wp2_with fail
    refine (CS.out _ _ _ LQ (HRv3.out _ (Below.refl _ _)) (HRv7.out _ (Below.refl _ _))).mono ?_
    rintro e b1 ⟨rfl, hb⟩
    have HBb1 := Lib.hid (HBa9.out.trans (hb.mono HBa9.out.size))
    clear hb k0 k1 k2 k3 k4 k5 u0 u1 u2 u3
    obtain ⟨k0, k1, k2, k3, k4, k5⟩ := KS.out _ (HBX.out _ HBb1.out)
    obtain ⟨u0, u1, u2, u3⟩ := KX.out _ HBb1.out
    go_wp2_with fail
    refine (CU.out _ _ _ _ (HTX.out _ HBb1.out) (HBX.out _ HBb1.out)).mono ?_
    rintro e b2 ⟨rfl, hb⟩
    have HBb2 := Lib.hid (HBb1.out.trans (hb.mono HBb1.out.size))
    clear hb k0 k1 k2 k3 k4 k5 u0 u1 u2 u3
    obtain ⟨k0, k1, k2, k3, k4, k5⟩ := KS.out _ (HBX.out _ HBb2.out)
    obtain ⟨u0, u1, u2, u3⟩ := KX.out _ HBb2.out
    go_wp2_with fail
    refine (CA.out _ (HBW.out _ (HBX.out _ HBb2.out))).mono ?_
    rintro e b3 ⟨rfl, hb⟩
    have HBb3 := Lib.hid (HBb2.out.trans (hb.mono HBb2.out.size))
    clear hb k0 k1 k2 k3 k4 k5 u0 u1 u2 u3
    go_wp2
    go_ret
    exact ⟨rfl, HBW.out _ (HBX.out _ HBb3.out)⟩
end Go.Proofs.YtmooikdodbjgpaaDoor.Or
