/- OrderLaws is true of every table. -/
import Derived.Test.YtgbjelglifihnaaDoorOrGa
import Derived.Deep.CutRange
import Derived.Deep.Cut
set_option linter.unusedVariables false
set_option linter.unusedSimpArgs false
namespace Go.Proofs.YtgbjelglifihnaaDoor.Or
open Go.RowKit Go.Shelf

set_option maxRecDepth 100000 in
set_option maxHeartbeats 16000000 in
theorem laws_any (HJ : JoinOk) (t : Tab) (ve va vw : Value) (w : World) (hT : TabIn w ve va vw t) (hnm : t.name.length ≤ 281474976710656) (hLd : LaidOk w) :
    Calls Tryd.prog 9 #[tabV t ve va vw] w fun e w' => e = .returned (.bool true) ∧ Below w.heap.size w w' := by
  have H := lat_calls HJ t ve va vw w hT hnm hLd
  obtain ⟨W1, hW1⟩ : ∃ W1, W1 = (w.alloc (Obj.cells #[.string (mkS t.name), ve, va, vw] 26)) := ⟨_, rfl⟩
  have b1 : Below w.heap.size w W1 := by rw [hW1]; exact (Below.refl _ _).alloc (Nat.le_refl _) _
  have c0 : W1.cell? ⟨w.heap.size, 0, none⟩ = some (.string (mkS t.name)) := by rw [hW1]; simp [go_sem]
  have c1 : W1.cell? ⟨w.heap.size, 1, none⟩ = some ve := by rw [hW1]; simp [go_sem]
  have c2 : W1.cell? ⟨w.heap.size, 2, none⟩ = some va := by rw [hW1]; simp [go_sem]
  have c3 : W1.cell? ⟨w.heap.size, 3, none⟩ = some vw := by rw [hW1]; simp [go_sem]
  have CT := Lib.hid (H.right W1 b1)
  have CA := Lib.hid H.awake
  have HH := Lib.hid H
  have HW1 := Lib.hid hW1; have HB1 := Lib.hid b1
  have HTI := Lib.hid hT
  obtain ⟨n, hn⟩ : ∃ n, n = t.elems.length := ⟨_, rfl⟩
  obtain ⟨pe, ce, rfl⟩ := hT.e.form
  obtain ⟨pa, ca, rfl⟩ := hT.a.form
  obtain ⟨pw, cw, rfl⟩ := hT.w.form
  obtain ⟨T, hTv⟩ : ∃ T, T = tabV t (.slice pe t.elems.length ce) (.slice pa t.above.length ca) (.slice pw t.wrong.length cw) := ⟨_, rfl⟩
  rw [← hn] at c1
  cases hr : (thinF t && decide (latE t [] = 0)) with
  | false =>
    rw [hr] at CT
    unfold tabV at CT ⊢
    clear hr HH H hT hnm hLd hW1 b1 hn hTv c0 c1 c2 c3
    go_enter Tryd.func9, Tryd.ntmps9
    go_wp2_with fail
    rw [← HW1.out]
    refine CT.out.mono ?_
    rintro e w2 ⟨rfl, hb⟩
    have HB2 := Lib.hid (HB1.out.trans (hb.mono HB1.out.size))
    clear hb
    go_wp2_with fail
    refine (CA.out _ HB2.out).mono ?_
    rintro e w3 ⟨rfl, hb⟩
    have HB3 := Lib.hid (HB2.out.trans (hb.mono HB2.out.size))
    clear hb
    go_wp2
    go_ret
    exact ⟨rfl, HB3.out⟩
  | true =>
    rw [hr] at CT
    have hl : latE t [] = 0 := by simp only [Bool.and_eq_true, decide_eq_true_eq] at hr; exact hr.2
    obtain ⟨hf, hlat, _⟩ := latE_zero hl
    have hLat := latF_lat hlat
    have hAcy := frm_acy hf hLat
    obtain ⟨f1, f2, f3, f4⟩ := frm_len hf
    have hnT : t.n = n := by unfold Tab.n; exact hn.symm
    have n12 : n ≤ 12 := by omega
    rw [hnT] at hLat hAcy
    obtain ⟨J, hJ⟩ : ∃ J, J = jn t.R n := ⟨_, rfl⟩
    obtain ⟨F, hF⟩ : ∃ F, F = bel t.R := ⟨_, rfl⟩
    have CJ : Hid (∀ U (a c : Nat), Below w.heap.size w U → a < n → c < n → Calls Tryd.prog 52 #[tabV t (.slice pe t.elems.length ce) (.slice pa t.above.length ca) (.slice pw t.wrong.length cw), .int .i64 a, .int .i64 c] U fun e w' => e = .returned (.int .i64 (J a c : Nat)) ∧ Below U.heap.size U w') := fun U a c h ha hc => by
      rw [hJ]; have := H.join hl U a c h (by omega) (by omega); rw [hnT] at this; exact this
    have CB : Hid (∀ U (a c : Nat), Below w.heap.size w U → a < n → c < n → Calls Tryd.prog 53 #[tabV t (.slice pe t.elems.length ce) (.slice pa t.above.length ca) (.slice pw t.wrong.length cw), .int .i64 a, .int .i64 c] U fun e w' => e = .returned (.bool (F a c)) ∧ Below U.heap.size U w') := fun U a c h ha hc => by
      rw [hF]; exact H.below hl U a c h (by omega) (by omega)
    have J1 : Hid (∀ a, a < n → J a a = a) := fun a ha => by rw [hJ]; exact jn_self hLat hAcy ha
    have J0 : Hid (∀ a, a < n → J a 0 = a) := fun a ha => by rw [hJ]; exact jn_zero hLat hAcy ha
    have JS : Hid (∀ a b, J b a = J a b) := fun a b => by rw [hJ]; exact jn_swap _ _ _ _
    have JP : Hid (∀ a b, a < n → b < n → J a b < n ∧ F a (J a b) = true ∧ F b (J a b) = true ∧ ∀ c, c < n → F a c = true → F b c = true → F (J a b) c = true) := fun a b ha hb => by rw [hJ, hF]; exact jn_spec hLat hAcy ha hb
    have JB : Hid (∀ a b, a < n → b < n → (J a b == b) = F a b) := fun a b ha hb => by rw [hJ, hF]; exact jn_below hLat hAcy ha hb
    have JA : Hid (∀ a b c, a < n → b < n → c < n → J (J a b) c = J a (J b c)) := fun a b c ha hb hc => by rw [hJ]; exact (jn_assoc hLat hAcy ha hb hc).symm
    have JW : Hid (∀ a b, a < n → b < n → t.wr a = true → t.wr (J a b) = true) := fun a b ha hb h => by
      have hs := jn_spec hLat hAcy ha hb
      rw [hJ]; exact wr_up hLat ha hs.1 hs.2.1 h
    have n1 : 1 ≤ n := by omega
    obtain ⟨bw, ow, rfl, hwr⟩ := hT.w.cells (by omega)
    have KS : Hid (∀ U, Below W1.heap.size W1 U → U.cell? ⟨w.heap.size, 0, none⟩ = some (.string (mkS t.name)) ∧ U.cell? ⟨w.heap.size, 1, none⟩ = some (.slice pe n ce) ∧ U.cell? ⟨w.heap.size, 2, none⟩ = some (.slice pa n ca) ∧ U.cell? ⟨w.heap.size, 3, none⟩ = some (.slice (some ⟨bw, ow, none⟩) n cw)) := fun U h => by
      rw [f3, ← hn] at c2; rw [f4, ← hn] at c3
      exact ⟨(h.cell (cell_lt c0)).trans c0, (h.cell (cell_lt c1)).trans c1, (h.cell (cell_lt c2)).trans c2, (h.cell (cell_lt c3)).trans c3⟩
    have KW : Hid (∀ U, Below W1.heap.size W1 U → ∀ i, i < n → U.cell? ⟨bw, ow + i, none⟩ = some (.bool (t.wr i))) := fun U h i hi => by
      have h1 := hwr i (by omega)
      exact ((b1.trans (h.mono b1.size)).cell (cell_lt h1)).trans h1
    have HBW : Hid (∀ U, Below W1.heap.size W1 U → Below w.heap.size w U) := fun U h => b1.trans (h.mono b1.size)
    unfold tabV at CT CJ CB ⊢
    rw [f3, f4, ← hn] at CT CJ CB ⊢
    rw [f3, f4, ← hn] at HW1
    obtain ⟨bad, hwrx⟩ : ∃ f, f = t.wr := ⟨_, rfl⟩
    rw [← hwrx] at KW JW
    clear hr HH H hT hnm hLd hW1 b1 hn hTv c0 c1 c2 c3 hl hf hlat hLat hAcy f1 f2 f3 f4 hnT hJ hF hwr hwrx HTI
    go_enter Tryd.func9, Tryd.ntmps9
    go_wp2_with fail
    rw [← HW1.out]
    refine CT.out.mono ?_
    rintro e w2 ⟨rfl, hb⟩
    have HB2 : Hid (Below W1.heap.size W1 w2) := hb
    obtain ⟨k0, k1, k2, k3⟩ := KS.out _ HB2.out
    clear hb CT
    go_wp2_with fail
    go_loopw [4] (fun i wx => ∃ a : Nat, a ≤ n ∧ i = .int .i64 a ∧ Hid (Below W1.heap.size W1 wx)) (fun i _ => n - (intOf i).toNat)
    case atStart => exact ⟨0, Nat.zero_le _, rfl, HB2.out⟩
    case round =>
      clear k0 k1 k2 k3
      obtain ⟨a, han, rfl, hb⟩ := hrel
      by_cases hlt : a < n
      · obtain ⟨k0, k1, k2, k3⟩ := KS.out _ hb.out
        go_wp2_with fail
        refine (CJ.out _ a a (HBW.out _ hb.out) hlt hlt).mono ?_
        rintro e w3 ⟨rfl, hb3⟩
        rw [J1.out a hlt]
        have HB3 := Lib.hid (hb.out.trans (hb3.mono hb.out.size))
        clear k0 k1 k2 k3 hb3
        obtain ⟨k0, k1, k2, k3⟩ := KS.out _ HB3.out
        go_wp2_with fail
        refine (CJ.out _ a 0 (HBW.out _ HB3.out) hlt (by omega)).mono ?_
        rintro e w4 ⟨rfl, hb3⟩
        rw [J0.out a hlt]
        have HB4 := Lib.hid (HB3.out.trans (hb3.mono HB3.out.size))
        clear k0 k1 k2 k3 hb3
        go_wp2_with fail
        go_loopw [5] (fun i wx => ∃ b : Nat, b ≤ n ∧ i = .int .i64 b ∧ Hid (Below W1.heap.size W1 wx)) (fun i _ => n - (intOf i).toNat)
        case atStart => exact ⟨0, Nat.zero_le _, rfl, HB4.out⟩
        case round =>
          clear hb HB3 HB4
          obtain ⟨b, hbn, rfl, hb⟩ := hrel
          by_cases hlt2 : b < n
          · obtain ⟨k0, k1, k2, k3⟩ := KS.out _ hb.out
            go_wp2_with fail
            refine (CJ.out _ a b (HBW.out _ hb.out) hlt hlt2).mono ?_
            rintro e w3 ⟨rfl, hb3⟩
            have HB3 := Lib.hid (hb.out.trans (hb3.mono hb.out.size))
            clear k0 k1 k2 k3 hb3
            obtain ⟨x, hx⟩ : ∃ x, x = J a b := ⟨_, rfl⟩
            have HXP := Lib.hid (JP.out a b hlt hlt2)
            rw [← hx] at HXP ⊢
            have hxn : x < n := HXP.out.1
            have HXS : Hid (J b a = x) := by show _ = _; rw [JS.out a b, hx]
            have HXB : Hid ((x == b) = F a b) := by show _ = _; rw [hx]; exact JB.out a b hlt hlt2
            have HXA : Hid (∀ c, c < n → J x c = J a (J b c)) := fun c hc => by rw [hx]; exact JA.out a b c hlt hlt2 hc
            have HXW : Hid (bad a = true → bad x = true) := fun h => by rw [hx]; exact JW.out a b hlt hlt2 h
            clear hx
            have gx : decide ((x : Int) < 0) = false := decide_eq_false (by omega)
            obtain ⟨k0, k1, k2, k3⟩ := KS.out _ HB3.out
            go_upto_region 13 with fail
            go_cut [91] from 43 to 91 (fun q wx => q = .bool false ∧ Hid (Below W1.heap.size W1 wx))
            case first =>
              go_wp2_with fail
              refine (CJ.out _ b a (HBW.out _ HB3.out) hlt2 hlt).mono ?_
              rintro e w4 ⟨rfl, hb3⟩
              rw [HXS.out]
              have HB4 := Lib.hid (HB3.out.trans (hb3.mono HB3.out.size))
              clear k0 k1 k2 k3 hb3
              obtain ⟨k0, k1, k2, k3⟩ := KS.out _ HB4.out
              go_wp2_with fail
              refine (CB.out _ a x (HBW.out _ HB4.out) hlt hxn).mono ?_
              rintro e w5 ⟨rfl, hb3⟩
              rw [HXP.out.2.1]
              have HB5 := Lib.hid (HB4.out.trans (hb3.mono HB4.out.size))
              clear k0 k1 k2 k3 hb3
              obtain ⟨k0, k1, k2, k3⟩ := KS.out _ HB5.out
              go_wp2_with fail
              refine (CB.out _ b x (HBW.out _ HB5.out) hlt2 hxn).mono ?_
              rintro e w6 ⟨rfl, hb3⟩
              rw [HXP.out.2.2.1]
              have HB6 := Lib.hid (HB5.out.trans (hb3.mono HB5.out.size))
              clear k0 k1 k2 k3 hb3
              obtain ⟨k0, k1, k2, k3⟩ := KS.out _ HB6.out
              go_wp2_with fail
              refine (CB.out _ a b (HBW.out _ HB6.out) hlt hlt2).mono ?_
              rintro e w7 ⟨rfl, hb3⟩
              have HB7 := Lib.hid (HB6.out.trans (hb3.mono HB6.out.size))
              clear k0 k1 k2 k3 hb3
              obtain ⟨k0, k1, k2, k3⟩ := KS.out _ HB7.out
              have kwa := KW.out _ HB7.out a hlt
              have kwx := KW.out _ HB7.out x hxn
              obtain ⟨y, hy⟩ : ∃ y, y = F a b := ⟨_, rfl⟩
              have hxb := HXB.out
              rw [← hy] at hxb ⊢
              have g5 : ((x : Int) == (b : Int)) = y := by rw [← hxb, Bool.eq_iff_iff]; simp; omega
              have g6 : (y != y) = false := by simp
              have HXX := Lib.hid hxb
              clear hy hxb
              cases hwa : bad a with
              | false =>
                rw [hwa] at kwa
                clear hwa
                cases y with
                | true =>
                  have hxe : x = b := by have := HXX.out; simpa using this
                  subst hxe
                  clear g5
                  go_wp2_with fail
                  go_meet
                  exact ⟨rfl, HB7.out⟩
                | false =>
                  go_wp2_with fail
                  go_meet
                  exact ⟨rfl, HB7.out⟩
              | true =>
                rw [hwa] at kwa
                rw [HXW.out hwa] at kwx
                clear hwa
                cases y with
                | true =>
                  have hxe : x = b := by have := HXX.out; simpa using this
                  subst hxe
                  clear g5
                  go_wp2_with fail
                  go_meet
                  exact ⟨rfl, HB7.out⟩
                | false =>
                  go_wp2_with fail
                  go_meet
                  exact ⟨rfl, HB7.out⟩
            case rest =>
              obtain ⟨rfl, hb4⟩ := hcut
              clear k0 k1 k2 k3
              go_wp2_with fail
              go_loopw [7] (fun i wx => ∃ c : Nat, c ≤ n ∧ i = .int .i64 c ∧ Hid (Below W1.heap.size W1 wx)) (fun i _ => n - (intOf i).toNat)
              case atStart => exact ⟨0, Nat.zero_le _, rfl, hb4⟩
              case round =>
                clear hb4
                obtain ⟨c, hcn, rfl, hb5⟩ := hrel
                by_cases hlt3 : c < n
                · obtain ⟨k0, k1, k2, k3⟩ := KS.out _ hb5.out
                  go_wp2_with fail
                  refine (CJ.out _ b c (HBW.out _ hb5.out) hlt2 hlt3).mono ?_
                  rintro e w6 ⟨rfl, hb3⟩
                  have HB6 := Lib.hid (hb5.out.trans (hb3.mono hb5.out.size))
                  clear k0 k1 k2 k3 hb3
                  obtain ⟨z, hz⟩ : ∃ z, z = J b c := ⟨_, rfl⟩
                  have hzn : z < n := by rw [hz]; exact (JP.out b c hlt2 hlt3).1
                  rw [← hz]
                  obtain ⟨s, hs⟩ : ∃ s, s = J a z := ⟨_, rfl⟩
                  have HS1 : Hid (J a z = s) := hs.symm
                  have HS2 : Hid (J x c = s) := by show _ = _; rw [HXA.out c hlt3, hs, hz]
                  clear hz hs
                  have gz : decide ((z : Int) < 0) = false := decide_eq_false (by omega)
                  have KV : Hid (∀ V, Below w6.heap.size w6 V → V.cell? ⟨w.heap.size, 0, none⟩ = some (.string (mkS t.name)) ∧ V.cell? ⟨w.heap.size, 1, none⟩ = some (.slice pe n ce) ∧ V.cell? ⟨w.heap.size, 2, none⟩ = some (.slice pa n ca) ∧ V.cell? ⟨w.heap.size, 3, none⟩ = some (.slice (some ⟨bw, ow, none⟩) n cw)) := fun V h => KS.out _ (HB6.out.trans (h.mono HB6.out.size))
                  have D1 : Hid (∀ V, Below w6.heap.size w6 V → Calls Tryd.prog 52 #[.agg #[.string (mkS t.name), .slice pe n ce, .slice pa n ca, .slice (some ⟨bw, ow, none⟩) n cw], .int .i64 a, .int .i64 z] V fun e w'' => e = .returned (.int .i64 (s : Int)) ∧ Below w6.heap.size w6 w'') := fun V hV => by
                    refine (CJ.out V a z (HBW.out _ (HB6.out.trans (hV.mono HB6.out.size))) hlt hzn).mono ?_
                    rintro e w' ⟨rfl, hb⟩
                    exact ⟨by rw [HS1.out], hV.trans (hb.mono hV.size)⟩
                  have D2 : Hid (∀ V, Below w6.heap.size w6 V → Calls Tryd.prog 52 #[.agg #[.string (mkS t.name), .slice pe n ce, .slice pa n ca, .slice (some ⟨bw, ow, none⟩) n cw], .int .i64 x, .int .i64 c] V fun e w'' => e = .returned (.int .i64 (s : Int)) ∧ Below w6.heap.size w6 w'') := fun V hV => by
                    refine (CJ.out V x c (HBW.out _ (HB6.out.trans (hV.mono HB6.out.size))) hxn hlt3).mono ?_
                    rintro e w' ⟨rfl, hb⟩
                    exact ⟨by rw [HS2.out], hV.trans (hb.mono hV.size)⟩
                  obtain ⟨p1, hp1⟩ : ∃ p, p = F a c := ⟨_, rfl⟩
                  obtain ⟨p2, hp2⟩ : ∃ p, p = F b c := ⟨_, rfl⟩
                  obtain ⟨p3, hp3⟩ : ∃ p, p = F x c := ⟨_, rfl⟩
                  have HP3 : Hid (p1 = true → p2 = true → p3 = true) := fun h1 h2 => by rw [hp3]; exact HXP.out.2.2.2 c hlt3 (by rw [← hp1]; exact h1) (by rw [← hp2]; exact h2)
                  have D3 : Hid (∀ V, Below w6.heap.size w6 V → Calls Tryd.prog 53 #[.agg #[.string (mkS t.name), .slice pe n ce, .slice pa n ca, .slice (some ⟨bw, ow, none⟩) n cw], .int .i64 a, .int .i64 c] V fun e w'' => e = .returned (.bool p1) ∧ Below w6.heap.size w6 w'') := fun V hV => by
                    refine (CB.out V a c (HBW.out _ (HB6.out.trans (hV.mono HB6.out.size))) hlt hlt3).mono ?_
                    rintro e w' ⟨rfl, hb⟩
                    exact ⟨by rw [hp1], hV.trans (hb.mono hV.size)⟩
                  have D4 : Hid (∀ V, Below w6.heap.size w6 V → Calls Tryd.prog 53 #[.agg #[.string (mkS t.name), .slice pe n ce, .slice pa n ca, .slice (some ⟨bw, ow, none⟩) n cw], .int .i64 b, .int .i64 c] V fun e w'' => e = .returned (.bool p2) ∧ Below w6.heap.size w6 w'') := fun V hV => by
                    refine (CB.out V b c (HBW.out _ (HB6.out.trans (hV.mono HB6.out.size))) hlt2 hlt3).mono ?_
                    rintro e w' ⟨rfl, hb⟩
                    exact ⟨by rw [hp2], hV.trans (hb.mono hV.size)⟩
                  have D5 : Hid (∀ V, Below w6.heap.size w6 V → Calls Tryd.prog 53 #[.agg #[.string (mkS t.name), .slice pe n ce, .slice pa n ca, .slice (some ⟨bw, ow, none⟩) n cw], .int .i64 x, .int .i64 c] V fun e w'' => e = .returned (.bool p3) ∧ Below w6.heap.size w6 w'') := fun V hV => by
                    refine (CB.out V x c (HBW.out _ (HB6.out.trans (hV.mono HB6.out.size))) hxn hlt3).mono ?_
                    rintro e w' ⟨rfl, hb⟩
                    exact ⟨by rw [hp3], hV.trans (hb.mono hV.size)⟩
                  clear hp1 hp2 hp3
                  go_upto_region 19 with fail
                  go_cut [132] from 101 to 132 (fun q wx => q = .bool false ∧ Hid (Below W1.heap.size W1 wx))
                  case first =>
                    cases p1 with
                    | false =>
                      refine wp_region_below w6.heap.size w6 (by kernel_rfl) (by kernel_rfl) (Below.refl _ _) ?_
                      repeat (
                        refine wpQuiet_step (fun K hK => ?_)
                        first
                          | (refine quiet_yes (by rfl) ?_ (fun V hV => ?_) (hK _ ?_)
                             rotate_left
                             · obtain ⟨k0, k1, k2, k3⟩ := KV.out V hV
                               unfold Oper.quietAt
                               go_simp
                               first
                                 | exact rfl
                                 | exact ⟨rfl, rfl⟩
                                 | with_reducible exact D1.out V hV
                                 | with_reducible exact D2.out V hV
                                 | with_reducible exact D3.out V hV
                                 | with_reducible exact D4.out V hV
                                 | with_reducible exact D5.out V hV
                             clear hK K
                             simp only [Act.put, List.setIfInBounds_toArray, List.set_cons_zero, List.set_cons_succ])
                          | (refine quiet_no (by rfl) (hK _ ?_)
                             clear hK K
                             simp only [Act.put, List.setIfInBounds_toArray, List.set_cons_zero, List.set_cons_succ]))
                      refine wpQuiet_nil ?_
                      intro w7 hb7
                      have hfin := Lib.hid (HB6.out.trans (hb7.mono HB6.out.size))
                      clear hb7
                      go_wp2_with fail
                      go_meet
                      exact ⟨rfl, hfin⟩
                    | true =>
                      cases p2 with
                      | false =>
                        refine wp_region_below w6.heap.size w6 (by kernel_rfl) (by kernel_rfl) (Below.refl _ _) ?_
                        repeat (
                          refine wpQuiet_step (fun K hK => ?_)
                          first
                            | (refine quiet_yes (by rfl) ?_ (fun V hV => ?_) (hK _ ?_)
                               rotate_left
                               · obtain ⟨k0, k1, k2, k3⟩ := KV.out V hV
                                 unfold Oper.quietAt
                                 go_simp
                                 first
                                   | exact rfl
                                   | exact ⟨rfl, rfl⟩
                                   | with_reducible exact D1.out V hV
                                   | with_reducible exact D2.out V hV
                                   | with_reducible exact D3.out V hV
                                   | with_reducible exact D4.out V hV
                                   | with_reducible exact D5.out V hV
                               clear hK K
                               simp only [Act.put, List.setIfInBounds_toArray, List.set_cons_zero, List.set_cons_succ])
                            | (refine quiet_no (by rfl) (hK _ ?_)
                               clear hK K
                               simp only [Act.put, List.setIfInBounds_toArray, List.set_cons_zero, List.set_cons_succ]))
                        refine wpQuiet_nil ?_
                        intro w7 hb7
                        have hfin := Lib.hid (HB6.out.trans (hb7.mono HB6.out.size))
                        clear hb7
                        go_wp2_with fail
                        go_meet
                        exact ⟨rfl, hfin⟩
                      | true =>
                        obtain rfl := HP3.out rfl rfl
                        refine wp_region_below w6.heap.size w6 (by kernel_rfl) (by kernel_rfl) (Below.refl _ _) ?_
                        repeat (
                          refine wpQuiet_step (fun K hK => ?_)
                          first
                            | (refine quiet_yes (by rfl) ?_ (fun V hV => ?_) (hK _ ?_)
                               rotate_left
                               · obtain ⟨k0, k1, k2, k3⟩ := KV.out V hV
                                 unfold Oper.quietAt
                                 go_simp
                                 first
                                   | exact rfl
                                   | exact ⟨rfl, rfl⟩
                                   | with_reducible exact D1.out V hV
                                   | with_reducible exact D2.out V hV
                                   | with_reducible exact D3.out V hV
                                   | with_reducible exact D4.out V hV
                                   | with_reducible exact D5.out V hV
                               clear hK K
                               simp only [Act.put, List.setIfInBounds_toArray, List.set_cons_zero, List.set_cons_succ])
                            | (refine quiet_no (by rfl) (hK _ ?_)
                               clear hK K
                               simp only [Act.put, List.setIfInBounds_toArray, List.set_cons_zero, List.set_cons_succ]))
                        refine wpQuiet_nil ?_
                        intro w7 hb7
                        have hfin := Lib.hid (HB6.out.trans (hb7.mono HB6.out.size))
                        clear hb7
                        go_wp2_with fail
                        go_meet
                        exact ⟨rfl, hfin⟩
                  case rest =>
                    obtain ⟨rfl, hb7⟩ := hcut
                    go_wp2
                    go_roundw
                    case rel => exact ⟨c + 1, by omega, by go_num, hb7⟩
                    case measure => simp [intOf]; omega
                · go_wp2
                  go_roundw
                  case rel => exact ⟨b + 1, by omega, by go_num, hb5⟩
                  case measure => simp [intOf]; omega
          · go_wp2
            go_roundw
            case rel => exact ⟨a + 1, by omega, by go_num, hb⟩
            case measure => simp [intOf]; omega
      · go_wp2_with fail
        refine (CA.out _ (HBW.out _ hb.out)).mono ?_
        rintro e w3 ⟨rfl, hb3⟩
        have HB3 := Lib.hid ((HBW.out _ hb.out).trans (hb3.mono (HBW.out _ hb.out).size))
        clear hb3
        go_wp2
        go_ret
        exact ⟨rfl, HB3.out⟩
end Go.Proofs.YtgbjelglifihnaaDoor.Or
