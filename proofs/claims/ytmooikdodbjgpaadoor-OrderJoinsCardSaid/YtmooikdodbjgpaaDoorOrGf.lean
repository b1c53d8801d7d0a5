/- OrderReaches is true of every table and every two numbers. -/
import Derived.Test.YtmooikdodbjgpaaDoorOrGe
import Derived.Test.YtmooikdodbjgpaaDoorOrAe
import Derived.Test.YtmooikdodbjgpaaDoorOrBk
import Derived.Test.YtmooikdodbjgpaaDoorOrDe
import Derived.Deep.Cut
set_option linter.unusedVariables false
set_option linter.unusedSimpArgs false
namespace Go.Proofs.YtmooikdodbjgpaaDoor.Or
open Go.RowKit Go.Shelf

theorem intsV_ints (l : List Nat) : intsV l = (ints l).map (Value.int .i64) := by simp [intsV, ints]
def pairV (a b : Int) : Value := .agg #[.int .i64 a, .int .i64 b]

set_option maxRecDepth 100000 in
set_option maxHeartbeats 8000000 in
theorem reaches_any (HJ : JoinOk) (t : Tab) (ve va vw : Value) (a c : Int) (w : World) (hT : TabIn w ve va vw t) (hnm : t.name.length ≤ 281474976710656) (hLd : LaidOk w) :
    Calls Tryd.prog 4 #[tabV t ve va vw, pairV a c] w fun e w' => e = .returned (.bool true) ∧ Below w.heap.size w w' := by
  obtain ⟨m, hm⟩ : ∃ m, m = w.heap.size := ⟨_, rfl⟩
  obtain ⟨W1, hW1⟩ : ∃ W1, W1 = (w.alloc (Obj.cells #[.string (mkS t.name), ve, va, vw] 26)).alloc (Obj.cells #[.int .i64 a, .int .i64 c] 38) := ⟨_, rfl⟩
  have b1 : Below w.heap.size w W1 := by rw [hW1]; exact ((Below.refl _ _).alloc (Nat.le_refl _) _).alloc (by simp) _
  have c0 : W1.cell? ⟨m, 0, none⟩ = some (.string (mkS t.name)) := by rw [hW1, hm]; simp [go_sem]
  have c1 : W1.cell? ⟨m, 1, none⟩ = some ve := by rw [hW1, hm]; simp [go_sem]
  have c2 : W1.cell? ⟨m, 2, none⟩ = some va := by rw [hW1, hm]; simp [go_sem]
  have c3 : W1.cell? ⟨m, 3, none⟩ = some vw := by rw [hW1, hm]; simp [go_sem]
  have c4 : W1.cell? ⟨m + 1, 0, none⟩ = some (.int .i64 a) := by rw [hW1, hm]; simp [go_sem]
  have c5 : W1.cell? ⟨m + 1, 1, none⟩ = some (.int .i64 c) := by rw [hW1, hm]; simp [go_sem]
  have CT := Lib.hid (thin_any t ve va vw W1 (hT.below b1) hnm)
  have CA : Hid (∀ W, Below w.heap.size w W → Calls Tryd.prog 16 #[] W fun e w' => e = .returned (.bool true) ∧ Below W.heap.size W w') := fun W h => awake_any HJ W (hLd.below h)
  have HW1 := Lib.hid hW1; have HB1 := Lib.hid b1
  have HTI : Hid (∀ W, Below w.heap.size w W → TabIn W ve va vw t) := fun W h => hT.below h
  have HLI : Hid (∀ W, Below w.heap.size w W → LaidOk W) := fun W h => hLd.below h
  have HBW : Hid (∀ U, Below W1.heap.size W1 U → Below w.heap.size w U) := fun U h => b1.trans (h.mono b1.size)
  obtain ⟨pe, ce, rfl⟩ := hT.e.form
  obtain ⟨pa, ca, rfl⟩ := hT.a.form
  obtain ⟨pw, cw, rfl⟩ := hT.w.form
  have HM := Lib.hid hm
  cases hr : thinF t with
  | false =>
    rw [hr] at CT
    unfold tabV at CT
    unfold tabV pairV
    clear hr hT hnm hLd hW1 b1 c0 c1 c2 c3 c4 c5 hm
    go_enter Tryd.func4, Tryd.ntmps4
    go_wp2_with fail
    rw [← HW1.out]
    refine CT.out.mono ?_
    rintro e w2 ⟨rfl, hb⟩
    have HB2 := Lib.hid (HB1.out.trans (hb.mono HB1.out.size))
    clear hb
    go_wp2_with fail
    refine (CA.out _ HB2.out).mono ?_
    rintro e w3 ⟨rfl, hb⟩
    have HB3 := Lib.hid (HB2.out.trans (hb.mono HB2.out.size))
    clear hb
    go_wp2
    go_ret
    exact ⟨rfl, HB3.out⟩
  | true =>
    rw [hr] at CT
    have hS := thin_small hr
    obtain ⟨t1, t2, t3, t4⟩ := thin_lens hr
    obtain ⟨E, hE⟩ : ∃ E, E = tabE t [a] := ⟨_, rfl⟩
    obtain ⟨G, hG⟩ : ∃ G, G = tabE t [a, c] := ⟨_, rfl⟩
    obtain ⟨r, hrr⟩ : ∃ r, r = (decide (tabE t [a, c] = 0) && bel t.R a.toNat c.toNat) := ⟨_, rfl⟩
    obtain ⟨L, hL⟩ : ∃ L, L = (if tabE t [a] = 0 then ups t.R t.n [a.toNat] else []) := ⟨_, rfl⟩
    have CC : Hid (∀ W, Below W1.heap.size W1 W → Calls Tryd.prog 17 #[tabV t (.slice pe t.elems.length ce) (.slice pa t.above.length ca) (.slice pw t.wrong.length cw)] W fun e w' => ∃ ve' va' vw', e = .returned (tabV t ve' va' vw') ∧ TabIn w' ve' va' vw' t ∧ Below W.heap.size W w') := fun W h => copy_any t _ _ _ W (HTI.out W (HBW.out W h)) t1 t2 t3 t4
    have CR : Hid (∀ W ve va vw, TabIn W ve va vw t → Below W1.heap.size W1 W → Calls Tryd.prog 23 #[tabV t ve va vw, .int .i64 a] W fun e w' => ∃ v, e = .returned (.tuple #[v, .int .i64 (E : Nat)]) ∧ RdI w' v (ints L) ∧ Below W.heap.size W w') := fun W ve va vw h hb => by
      refine (Reach_any t ve va vw a W h hS (HLI.out W (HBW.out W hb))).mono ?_
      rintro e w' ⟨v, rfl, hv, hb'⟩
      refine ⟨v, by rw [hE], ?_, hb'⟩
      rw [hL]
      split at hv
      · rw [if_pos (by assumption)]; exact hv
      · rw [if_neg (by assumption)]; exact hv
    have CB : Hid (∀ W ve va vw, TabIn W ve va vw t → Below W1.heap.size W1 W → Calls Tryd.prog 24 #[tabV t ve va vw, .int .i64 a, .int .i64 c] W fun e w' => e = .returned (.tuple #[.bool r, .int .i64 (G : Nat)]) ∧ Below W.heap.size W w') := fun W ve va vw h hb => by rw [hrr, hG]; exact Below_any t ve va vw a c W h hS (HLI.out W (HBW.out W hb))
    have CRR : Hid (∀ W, Below W1.heap.size W1 W → Calls Tryd.prog 25 #[tabV t (.slice pe t.elems.length ce) (.slice pa t.above.length ca) (.slice pw t.wrong.length cw), .int .i64 a] W fun e w' => ∃ v, e = .returned (.tuple #[v, .int .i64 (E : Nat)]) ∧ RdI w' v (ints L) ∧ Below W.heap.size W w') := fun W h => by
      refine (refReach_any t _ _ _ a W (HTI.out W (HBW.out W h)) hS).mono ?_
      rintro e w' ⟨v, rfl, hv, hb'⟩
      rw [← hL, intsV_ints] at hv
      exact ⟨v, by rw [hE], hv, hb'⟩
    have CRB : Hid (∀ W, Below W1.heap.size W1 W → Calls Tryd.prog 26 #[tabV t (.slice pe t.elems.length ce) (.slice pa t.above.length ca) (.slice pw t.wrong.length cw), .int .i64 a, .int .i64 c] W fun e w' => e = .returned (.tuple #[.bool r, .int .i64 (G : Nat)]) ∧ Below W.heap.size W w') := fun W h => by rw [hrr, hG]; exact refBelow_any t _ _ _ a c W (HTI.out W (HBW.out W h)) hS
    have CS : Hid (∀ W u v, RdI W u (ints L) → RdI W v (ints L) → Calls Tryd.prog 27 #[u, v] W fun e w' => e = .returned (.bool true) ∧ Below W.heap.size W w') := fun W u v hu hv => by
      refine (sameInts_any u v _ _ W hu hv).mono ?_
      rintro e w' ⟨rfl, hb⟩
      exact ⟨by simp, hb⟩
    obtain ⟨nE, hnE⟩ : ∃ n, n = t.elems.length := ⟨_, rfl⟩
    obtain ⟨nA, hnA⟩ : ∃ n, n = t.above.length := ⟨_, rfl⟩
    obtain ⟨nW, hnW⟩ : ∃ n, n = t.wrong.length := ⟨_, rfl⟩
    unfold tabV at CT CC CR CB CRR CRB
    unfold tabV pairV
    rw [← hnE] at CT CC CRR CRB HW1 c1 ⊢
    rw [← hnA] at CT CC CRR CRB HW1 c2 ⊢
    rw [← hnW] at CT CC CRR CRB HW1 c3 ⊢
    clear hr hT hnm hLd hW1 b1 hS t1 t2 t3 t4 hE hG hrr hL HTI HLI hnE hnA hnW hm
    have KS : Hid (∀ U, Below W1.heap.size W1 U → U.cell? ⟨m, 0, none⟩ = some (.string (mkS t.name)) ∧ U.cell? ⟨m, 1, none⟩ = some (.slice pe nE ce) ∧ U.cell? ⟨m, 2, none⟩ = some (.slice pa nA ca) ∧ U.cell? ⟨m, 3, none⟩ = some (.slice pw nW cw) ∧ U.cell? ⟨m + 1, 0, none⟩ = some (.int .i64 a) ∧ U.cell? ⟨m + 1, 1, none⟩ = some (.int .i64 c)) := fun U h =>
      ⟨(h.cell (cell_lt c0)).trans c0, (h.cell (cell_lt c1)).trans c1, (h.cell (cell_lt c2)).trans c2, (h.cell (cell_lt c3)).trans c3, (h.cell (cell_lt c4)).trans c4, (h.cell (cell_lt c5)).trans c5⟩
    clear c0 c1 c2 c3 c4 c5
    go_enter Tryd.func4, Tryd.ntmps4
    go_wp2_with fail
    rw [← HM.out, ← HW1.out]
    refine CT.out.mono ?_
    rintro e w2 ⟨rfl, hb⟩
    have HB2 : Hid (Below W1.heap.size W1 w2) := hb
    clear hb CT
    go_wp2_with fail
    go_region_held3 (fun V => V.cell? ⟨m, 0, none⟩ = some (.string (mkS t.name)) ∧ V.cell? ⟨m, 1, none⟩ = some (.slice pe nE ce) ∧ V.cell? ⟨m, 2, none⟩ = some (.slice pa nA ca) ∧ V.cell? ⟨m, 3, none⟩ = some (.slice pw nW cw) ∧ V.cell? ⟨m + 1, 0, none⟩ = some (.int .i64 a) ∧ V.cell? ⟨m + 1, 1, none⟩ = some (.int .i64 c))
      (exact KS.out _ (HB2.out.trans ((show Below w2.heap.size w2 _ from (by repeat (first | with_reducible exact Below.refl _ _ | with_reducible refine Below.drew ?_ | refine below_step (by with_reducible assumption) ?_ (Nat.le_refl _)))).mono HB2.out.size)))
      (first
        | (go_at_call 17; refine (CC.out _ (HB2.out.trans ((show Below w2.heap.size w2 _ from (by repeat (first | with_reducible exact Below.refl _ _ | with_reducible refine Below.drew ?_ | refine below_step (by with_reducible assumption) ?_ (Nat.le_refl _)))).mono HB2.out.size))).mono ?_; rintro e w3 ⟨ve3, va3, vw3, rfl, hT3, hb3⟩)
        | (go_at_call 23; refine (CR.out _ _ _ _ (hT3.below (show Below w3.heap.size w3 _ from (by repeat (first | with_reducible exact Below.refl _ _ | with_reducible refine Below.drew ?_ | refine below_step (by with_reducible assumption) ?_ (Nat.le_refl _))))) (HB2.out.trans ((show Below w2.heap.size w2 _ from (by repeat (first | with_reducible exact Below.refl _ _ | with_reducible refine Below.drew ?_ | refine below_step (by with_reducible assumption) ?_ (Nat.le_refl _)))).mono HB2.out.size))).mono ?_; rintro e w4 ⟨v4, rfl, hv4, hb4⟩))
    have HB4 := Lib.hid (HB2.out.trans ((show Below w2.heap.size w2 w4 from (by repeat (first | with_reducible exact Below.refl _ _ | with_reducible refine Below.drew ?_ | refine below_step (by with_reducible assumption) ?_ (Nat.le_refl _)))).mono HB2.out.size))
    have HV4 : Hid (∀ U, Below w4.heap.size w4 U → RdI U v4 (ints L)) := fun U h => hv4.below h
    clear hT3 hb3 hv4 hb4
    go_wp2_with fail
    go_region_held3 (fun V => V.cell? ⟨m, 0, none⟩ = some (.string (mkS t.name)) ∧ V.cell? ⟨m, 1, none⟩ = some (.slice pe nE ce) ∧ V.cell? ⟨m, 2, none⟩ = some (.slice pa nA ca) ∧ V.cell? ⟨m, 3, none⟩ = some (.slice pw nW cw) ∧ V.cell? ⟨m + 1, 0, none⟩ = some (.int .i64 a) ∧ V.cell? ⟨m + 1, 1, none⟩ = some (.int .i64 c))
      (exact KS.out _ (HB4.out.trans ((show Below w4.heap.size w4 _ from (by repeat (first | with_reducible exact Below.refl _ _ | with_reducible refine Below.drew ?_ | refine below_step (by with_reducible assumption) ?_ (Nat.le_refl _)))).mono HB4.out.size)))
      (first
        | (go_at_call 17; refine (CC.out _ (HB4.out.trans ((show Below w4.heap.size w4 _ from (by repeat (first | with_reducible exact Below.refl _ _ | with_reducible refine Below.drew ?_ | refine below_step (by with_reducible assumption) ?_ (Nat.le_refl _)))).mono HB4.out.size))).mono ?_; rintro e w5 ⟨ve5, va5, vw5, rfl, hT5, hb5⟩)
        | (go_at_call 24; refine (CB.out _ _ _ _ (hT5.below (show Below w5.heap.size w5 _ from (by repeat (first | with_reducible exact Below.refl _ _ | with_reducible refine Below.drew ?_ | refine below_step (by with_reducible assumption) ?_ (Nat.le_refl _))))) (HB4.out.trans ((show Below w4.heap.size w4 _ from (by repeat (first | with_reducible exact Below.refl _ _ | with_reducible refine Below.drew ?_ | refine below_step (by with_reducible assumption) ?_ (Nat.le_refl _)))).mono HB4.out.size))).mono ?_; rintro e w6 ⟨rfl, hb6⟩))
    have hB46 : Below w4.heap.size w4 w6 := (by repeat (first | with_reducible exact Below.refl _ _ | with_reducible refine Below.drew ?_ | refine below_step (by with_reducible assumption) ?_ (Nat.le_refl _)))
    have HB6 := Lib.hid (HB4.out.trans (hB46.mono HB4.out.size))
    have HV6 : Hid (∀ U, Below w6.heap.size w6 U → RdI U v4 (ints L)) := fun U h => HV4.out U (hB46.trans (h.mono hB46.size))
    clear hT5 hb5 hb6 hB46 HV4
    obtain ⟨k0, k1, k2, k3, k4, k5⟩ := KS.out _ HB6.out
    go_wp2_with fail
    refine (CRR.out _ HB6.out).mono ?_
    rintro e w7 ⟨v7, rfl, hv7, hb⟩
    have HV7 : Hid (∀ U, Below w7.heap.size w7 U → RdI U v7 (ints L)) := fun U h => hv7.below h
    have HVA : Hid (∀ U, Below w7.heap.size w7 U → RdI U v4 (ints L)) := fun U h => HV6.out U (hb.trans (h.mono hb.size))
    have HB7 := Lib.hid (HB6.out.trans (hb.mono HB6.out.size))
    clear hb hv7 k0 k1 k2 k3 k4 k5
    obtain ⟨k0, k1, k2, k3, k4, k5⟩ := KS.out _ HB7.out
    go_wp2_with fail
    refine (CRB.out _ HB7.out).mono ?_
    rintro e w8 ⟨rfl, hb⟩
    have HB8 := Lib.hid (HB7.out.trans (hb.mono HB7.out.size))
    have HVX := Lib.hid (HVA.out _ hb)
    have HVY := Lib.hid (HV7.out _ hb)
    clear hb k0 k1 k2 k3 k4 k5
    go_wp2_with fail
    refine (CS.out _ _ _ HVX.out HVY.out).mono ?_
    rintro e w9 ⟨rfl, hb⟩
    have HB9 := Lib.hid (HB8.out.trans (hb.mono HB8.out.size))
    clear hb
    go_wp2_with fail
    refine (CA.out _ (HBW.out _ HB9.out)).mono ?_
    rintro e wA ⟨rfl, hb⟩
    have HBA := Lib.hid (HB9.out.trans (hb.mono HB9.out.size))
    clear hb
    go_wp2
    go_ret
    exact ⟨rfl, HBW.out _ HBA.out⟩
end Go.Proofs.YtmooikdodbjgpaaDoor.Or
