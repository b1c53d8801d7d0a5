/- The contract of Join, where it is right. -/
import Derived.Test.YtlhbfgkcalalkaaDoorKa
set_option linter.unusedVariables false
set_option linter.unusedSimpArgs false
namespace Go.Proofs.YtlhbfgkcalalkaaDoor
open Go.RowKit Go.Shelf

set_option maxRecDepth 100000 in
set_option maxHeartbeats 4000000 in
theorem join_ok (v : Value) (ls : List Lx) (w : World) (hv : ReadsLx w v ls) (he : ErrOk w) (hy : ∀ y ∈ ls, y.2.1.length ≤ 100000) (h : ¬ 900 < ls.length) (h2 : ls.all rightF = true) :
    Calls Tryd.prog 11 #[v] w fun e w' => e = .returned (.tuple #[.string (mkS (joinF ls).1), .int .i64 (joinF ls).2]) ∧ Below w.heap.size w w' := by
  have HR : Hid (joinF ls = if 2500 < (joinT ls).length then ([], 5) else (joinT ls, 0)) := by show _ = _; unfold joinF; rw [if_neg h, if_pos h2]
  have HV := Lib.hid hv
  have HE := Lib.hid he
  have HTX := Lib.hid (txt_len ls hy)
  have HJL := Lib.hid (joinUpto_len ls (txt_len ls hy))
  have CE : Hid (∀ W gb, GramAt W gb → Below w.heap.size w W → Calls Tryd.prog 23 #[v, .func (.func 24) #[] #[.pointer (some ⟨gb, 0, none⟩)]] W fun e w' => e = .returned (.bool true) ∧ Below W.heap.size W w') := fun W gb hg hb => by
    have := every_calls v ls 24 #[.pointer (some ⟨gb, 0, none⟩)] rightF W (hv.below hb) (enters_of Tryd.func24 (by kernel_rfl) rfl)
      (fun x V hx hV => join1 x gb V (by have := hy x hx; omega) (hg.below hV) ((he.below hb).below hV))
    rw [h2] at this; exact this
  obtain ⟨p, cap, rfl, hl, j2⟩ := hv
  obtain ⟨n, hn⟩ : ∃ n, n = ls.length := ⟨_, rfl⟩
  rw [← hn] at h CE HV ⊢
  have HN := Lib.hid hn
  clear j2 hl hn hy he h2
  go_enter Tryd.func11, Tryd.ntmps11
  go_wp2_with fail
  refine (newGrammar_any _).mono ?_
  rintro e w1 ⟨g, rfl, hg, hb⟩
  obtain ⟨mb, sb, rfl, hm, hc⟩ := hg
  have hga : GramAt (w1.alloc (.cells #[.map (some mb), .slice (some ⟨sb, 0, none⟩) 22 22] 52)) w1.heap.size :=
    ⟨_, _, Gram.below ⟨mb, sb, rfl, hm, hc⟩ ((Below.refl _ _).alloc (Nat.le_refl _) _), by simp [go_sem], by simp [go_sem]⟩
  have hgr : Gram (w1.alloc (.cells #[.map (some mb), .slice (some ⟨sb, 0, none⟩) 22 22] 52)) (.agg #[.map (some mb), .slice (some ⟨sb, 0, none⟩) 22 22]) :=
    Gram.below ⟨mb, sb, rfl, hm, hc⟩ ((Below.refl _ _).alloc (Nat.le_refl _) _)
  have HGA := Lib.hid hga; have HGR := Lib.hid hgr
  have Hb := Lib.hid hb
  clear hm hc hga hgr
  go_wp2_with fail
  refine (CE.out _ _ HGA.out (hb.alloc hb.size _)).mono ?_
  rintro e w2 ⟨rfl, hb2⟩
  obtain ⟨gb, hgb⟩ : ∃ gb, gb = w1.heap.size := ⟨_, rfl⟩
  have g0 : w2.cell? ⟨gb, 0, none⟩ = some (.map (some mb)) := by rw [hgb, hb2.cell (by simp)]; simp [go_sem]
  have g1 : w2.cell? ⟨gb, 1, none⟩ = some (.slice (some ⟨sb, 0, none⟩) 22 22) := by rw [hgb, hb2.cell (by simp)]; simp [go_sem]
  have G0 := Lib.hid g0; have G1 := Lib.hid g1
  have HGR2 := Lib.hid (HGR.out.below hb2)
  have hw2 : Below w.heap.size w w2 := (hb.alloc hb.size _).trans (hb2.mono (by simp; have := hb.size; omega))
  have HW2 := Lib.hid hw2
  have HV2 := Lib.hid (HV.out.below hw2)
  have HE2 := Lib.hid (HE.out.below hw2)
  have hfr : IsB w2.heap.size [] (w2.alloc (.cells #[.pointer none, .slice none 0 0] 66)) := Lib.fresh_isBuilder _ _ _
  have HFR := Lib.hid hfr
  rw [← hgb]
  clear hgb g0 g1 hb hb2 hw2 hfr HV HE HGA HGR Hb CE
  obtain ⟨B, hB⟩ : ∃ B, B = w2.heap.size := ⟨_, rfl⟩
  rw [← hB] at HFR
  have HBB := Lib.hid hB
  go_wp2
  rw [← hB]
  clear hB
  go_loopw [20] (fun i wr => ∃ k : Nat, k ≤ n ∧ i = .int .i64 k ∧ Hid (IsB B (joinUpto ls k) wr) ∧ Hid (Below B w2 wr) ∧ B < wr.heap.size) (fun i _ => n - (intOf i).toNat)
  case atStart => exact ⟨0, Nat.zero_le _, rfl, HFR.out, (by rw [HBB.out]; exact (Below.refl _ _).alloc (Nat.le_refl _) _), by rw [HBB.out]; simp⟩
  case round =>
    obtain ⟨k, hk, rfl, hisb, hbel, hBlt⟩ := hrel
    have hbel2 : Below w2.heap.size w2 wr := by rw [← HBB.out]; exact hbel.out
    by_cases hlt : k < n
    · have hnl : k < ls.length := by have := HN.out; omega
      have HVr := HV2.out.below hbel2
      have HEr := Lib.hid (HE2.out.below hbel2)
      have HGr := Lib.hid (HGR2.out.below hbel2)
      have k0 : wr.cell? ⟨gb, 0, none⟩ = some (.map (some mb)) := (hbel2.cell (cell_lt G0.out)).trans G0.out
      have k1 : wr.cell? ⟨gb, 1, none⟩ = some (.slice (some ⟨sb, 0, none⟩) 22 22) := (hbel2.cell (cell_lt G1.out)).trans G1.out
      obtain ⟨b, off, cap', hsl, a1, a2, a3⟩ := reads_at HVr k hnl
      simp only [Value.slice.injEq] at hsl
      obtain ⟨rfl, hnn, rfl⟩ := hsl
      clear hnn
      obtain ⟨y, hyy⟩ : ∃ y, y = ls.getD k (0, [], 0) := ⟨_, rfl⟩
      rw [← hyy] at a1 a2 a3
      obtain ⟨y1, y2, y3⟩ := y
      have hty : txt ls k = y2 := by unfold txt; rw [← hyy]
      have HLk : Hid ((joinUpto ls k).length ≤ 1000000000) := by
        show _ ≤ _
        have := HJL.out k
        have h9 : k * 100001 ≤ 900 * 100001 := Nat.mul_le_mul_right _ (by omega)
        omega
      have HLy : Hid (y2.length ≤ 100000) := by show _ ≤ _; rw [← hty]; exact HTX.out k
      have CS : Hid (∀ l W, IsB B l W → l.length ≤ 2000000000 → Calls Tryd.prog 28 #[.pointer (some ⟨B, 0, none⟩), .string (mkS y2)] W fun e w' => e = .returned (.tuple #[.int .i64 (mkS y2).size, .nilIface]) ∧ IsB B (l ++ y2) w' ∧ Below B W w' ∧ Frm B W w') := fun l W hi hl => wStr B l y2 W hi hl (by have := HLy.out; omega)
      have CB : Hid (∀ l W, IsB B l W → l.length ≤ 1000000000 → Calls Tryd.prog 27 #[.pointer (some ⟨B, 0, none⟩), .int .u8 32] W fun e w' => e = .returned .nilIface ∧ IsB B (l ++ [32]) w' ∧ Below B W w' ∧ Frm B W w') := fun l W hi hl => wByte B l W hi hl
      have hbn : Below wr.heap.size wr (wr.alloc (.cells #[.int .u8 y1, .string (mkS y2), .int .i64 y3] 36)) := (Below.refl _ _).alloc (Nat.le_refl _) _
      have HBN := Lib.hid hbn
      have HX : Hid (∀ V, Below wr.heap.size wr V → IsB B (joinUpto ls k) V ∧ Below B w2 V ∧ B < V.heap.size) := fun V hV =>
        ⟨isB_below hisb.out hV, hbel.out.trans (hV.mono (by omega)), by have := hV.size; omega⟩
      have hltb : b < wr.heap.size := cell_lt a1
      have hltg : gb < wr.heap.size := cell_lt k0
      have HBl := Lib.hid hbel2
      clear hbn hyy
      by_cases hk0 : k = 0
      · have HJ : Hid (joinUpto ls (k + 1) = joinUpto ls k ++ y2) := by
          show joinUpto ls k ++ ((if 0 < k && !partsF (txt ls (k - 1)) (txt ls k) then [32] else []) ++ txt ls k) = _
          rw [hty, hk0]; simp
        have hpk : decide (0 < k) = false := decide_eq_false (by omega)
        have hpk2 : decide ((0 : Int) < (k : Int)) = false := decide_eq_false (by omega)
        clear hty hbel2 hBlt hk0
        go_wp2
        go_quiet (fail)
        have HD := Lib.hid (HX.out _ (HBN.out.trans ((below_drewN _ nq).mono (by simp))))
        go_wp2_with fail
        refine (CS.out (joinUpto ls k) _ HD.out.1 (by have := HLk.out; omega)).mono ?_
        rintro e w3 ⟨rfl, hi3, hb3, hf3⟩
        have HI3 := Lib.hid hi3; have HB3 := Lib.hid hb3
        clear hi3 hb3 hf3
        go_wp2
        go_roundw
        case rel => exact ⟨k + 1, by omega, by go_num, by rw [HJ.out]; exact HI3.out, HD.out.2.1.trans HB3.out, by have := HB3.out.size; have := HD.out.2.2; omega⟩
        case measure => simp [intOf]; omega
      · obtain ⟨j, hj⟩ : ∃ j, j = k - 1 := ⟨_, rfl⟩
        have hjk : k = j + 1 := by omega
        have hjl : j < ls.length := by omega
        obtain ⟨b', off', cap'', hsl', c1, c2, c3⟩ := reads_at HVr j hjl
        simp only [Value.slice.injEq, Option.some.injEq, Addr.mk.injEq] at hsl'
        obtain ⟨⟨rfl, rfl, hu1⟩, hu2, rfl⟩ := hsl'
        clear hu1 hu2
        obtain ⟨x, hxx⟩ : ∃ x, x = ls.getD j (0, [], 0) := ⟨_, rfl⟩
        rw [← hxx] at c1 c2 c3
        obtain ⟨x1, x2, x3⟩ := x
        have htx : txt ls j = x2 := by unfold txt; rw [← hxx]
        have hlx : x2.length ≤ 100000 := by rw [← htx]; exact HTX.out j
        have hpk : decide ((0 : Int) < (k : Int)) = true := decide_eq_true (by omega)
        have hpk2 : decide (0 < k) = true := decide_eq_true (by omega)
        have hwj : IntKind.i64.wrap ((k : Int) - 1) = (j : Int) := by rw [IntWalk.i64_in _ (by omega)]; omega
        have hjn : j < n := by omega
        have HJ : Hid (joinUpto ls (k + 1) = joinUpto ls k ++ ((if !partsF x2 y2 then [32] else []) ++ y2)) := by
          show joinUpto ls k ++ ((if 0 < k && !partsF (txt ls (k - 1)) (txt ls k) then [32] else []) ++ txt ls k) = _
          rw [← hj, hty, htx, decide_eq_true (show 0 < k by omega)]; rfl
        have KS : Hid (∀ W, Below (wr.heap.size + 1) (wr.alloc (.cells #[.int .u8 y1, .string (mkS y2), .int .i64 y3] 36)) W → (W.cell? ⟨gb, 0, none⟩ = some (.map (some mb)) ∧ W.cell? ⟨gb, 1, none⟩ = some (.slice (some ⟨sb, 0, none⟩) 22 22) ∧ W.cell? ⟨b, off + j * 3 + 1, none⟩ = some (.string (mkS x2)) ∧ W.cell? ⟨wr.heap.size, 1, none⟩ = some (.string (mkS y2)) ∧ Below (wr.heap.size + 1) (wr.alloc (.cells #[.int .u8 y1, .string (mkS y2), .int .i64 y3] 36)) W)) := fun W hW => by
          have hw : Below wr.heap.size wr W := HBN.out.trans (hW.mono (by simp))
          refine ⟨(hw.cell (cell_lt k0)).trans k0, (hw.cell (cell_lt k1)).trans k1, (hw.cell (cell_lt c2)).trans c2, ?_, hW⟩
          rw [hW.cell (by simp)]; simp [go_sem]
        have HT8 : Hid (∀ W W', Below (wr.heap.size + 1) (wr.alloc (.cells #[.int .u8 y1, .string (mkS y2), .int .i64 y3] 36)) W → Frm B W W' → W'.cell? ⟨wr.heap.size, 1, none⟩ = some (.string (mkS y2))) := fun W W' hW hF => by
          have h1 : (wr.alloc (.cells #[.int .u8 y1, .string (mkS y2), .int .i64 y3] 36)).heap[wr.heap.size]? = some (.cells #[.int .u8 y1, .string (mkS y2), .int .i64 y3] 36 (0, 0)) := heap_alloc_new wr _
          have h2 := (hW.block wr.heap.size (by omega)).trans h1
          have h3 := hF _ _ _ _ (by decide) (by omega) h2
          rw [Lib.cell_of_heap h3]; rfl
        obtain ⟨pv, hpv⟩ : ∃ pv, pv = partsF x2 y2 := ⟨_, rfl⟩
        have CP : Hid (∀ W, Below (wr.heap.size + 1) (wr.alloc (.cells #[.int .u8 y1, .string (mkS y2), .int .i64 y3] 36)) W → Calls Tryd.prog 26 #[.agg #[.map (some mb), .slice (some ⟨sb, 0, none⟩) 22 22], .string (mkS x2), .string (mkS y2)] W fun e w' => e = .returned (.bool pv) ∧ Below (wr.heap.size + 1) (wr.alloc (.cells #[.int .u8 y1, .string (mkS y2), .int .i64 y3] 36)) w') := fun W hW => by
          have hw : Below wr.heap.size wr W := HBN.out.trans (hW.mono (by simp))
          rw [hpv]
          exact (parts_any _ x2 y2 W (by have := HLy.out; omega) (HGr.out.below hw) (HEr.out.below hw)).mono fun e w' ⟨he, hb'⟩ => ⟨he, hW.trans (hb'.mono (by have := hW.size; simp at this; omega))⟩
        have HWr : Hid (∀ V, Below (wr.heap.size + 1) (wr.alloc (.cells #[.int .u8 y1, .string (mkS y2), .int .i64 y3] 36)) V → Below wr.heap.size wr V) := fun V hV => HBN.out.trans (hV.mono (by simp))
        rw [← hpv] at HJ
        clear hty hbel2 hBlt htx hlx hxx hk0 hj hjk hjl hpv HVr HEr HGr
        cases pv with
        | true =>
          go_wp2
          go_region_held3 (fun W => W.cell? ⟨gb, 0, none⟩ = some (.map (some mb)) ∧ W.cell? ⟨gb, 1, none⟩ = some (.slice (some ⟨sb, 0, none⟩) 22 22) ∧ W.cell? ⟨b, off + j * 3 + 1, none⟩ = some (.string (mkS x2)) ∧ W.cell? ⟨wr.heap.size, 1, none⟩ = some (.string (mkS y2)) ∧ Below (wr.heap.size + 1) (wr.alloc (.cells #[.int .u8 y1, .string (mkS y2), .int .i64 y3] 36)) W)
            (first | exact KS.out _ (by first | assumption | exact (Below.refl _ _).drew | exact Below.refl _ _ | (refine Below.drew ?_; assumption)))
            (first | (go_at_call 26; refine (CP.out _ (by first | assumption | exact (Below.refl _ _).drew | exact Below.refl _ _ | (refine Below.drew ?_; assumption))).mono ?_; rintro e wa ⟨rfl, hba⟩))
          obtain ⟨_, _, _, t8, _⟩ := KS.out _ hba
          have HD := Lib.hid (HX.out _ (HWr.out _ hba))
          clear hba
          go_wp2_with fail
          refine (CS.out (joinUpto ls k) _ HD.out.1 (by have := HLk.out; omega)).mono ?_
          rintro e w3 ⟨rfl, hi3, hb3, hf3⟩
          have HI3 := Lib.hid hi3; have HB3 := Lib.hid hb3
          clear hi3 hb3 hf3
          go_wp2
          go_roundw
          case rel => exact ⟨k + 1, by omega, by go_num, by rw [HJ.out]; exact HI3.out, HD.out.2.1.trans HB3.out, by have := HB3.out.size; have := HD.out.2.2; omega⟩
          case measure => simp [intOf]; omega
        | false =>
          go_wp2
          go_region_held3 (fun W => W.cell? ⟨gb, 0, none⟩ = some (.map (some mb)) ∧ W.cell? ⟨gb, 1, none⟩ = some (.slice (some ⟨sb, 0, none⟩) 22 22) ∧ W.cell? ⟨b, off + j * 3 + 1, none⟩ = some (.string (mkS x2)) ∧ W.cell? ⟨wr.heap.size, 1, none⟩ = some (.string (mkS y2)) ∧ Below (wr.heap.size + 1) (wr.alloc (.cells #[.int .u8 y1, .string (mkS y2), .int .i64 y3] 36)) W)
            (first | exact KS.out _ (by first | assumption | exact (Below.refl _ _).drew | exact Below.refl _ _ | (refine Below.drew ?_; assumption)))
            (first | (go_at_call 26; refine (CP.out _ (by first | assumption | exact (Below.refl _ _).drew | exact Below.refl _ _ | (refine Below.drew ?_; assumption))).mono ?_; rintro e wa ⟨rfl, hba⟩))
          have HD := Lib.hid (HX.out _ (HWr.out _ hba))
          have Hba := Lib.hid hba
          clear hba
          go_wp2_with fail
          refine (CB.out (joinUpto ls k) _ HD.out.1 (by have := HLk.out; omega)).mono ?_
          rintro e wb ⟨rfl, hib, hbb, hfb⟩
          have t8 := HT8.out _ _ Hba.out hfb
          have HIb := Lib.hid hib; have HBb := Lib.hid hbb
          clear hib hbb hfb
          go_wp2_with fail
          refine (CS.out (joinUpto ls k ++ [32]) _ HIb.out (by have := HLk.out; simp; omega)).mono ?_
          rintro e w3 ⟨rfl, hi3, hb3, hf3⟩
          have HI3 := Lib.hid hi3; have HB3 := Lib.hid hb3
          clear hi3 hb3 hf3
          go_wp2
          go_roundw
          case rel => exact ⟨k + 1, by omega, by go_num, by (rw [HJ.out]; have h9 := HI3.out; rw [List.append_assoc] at h9; exact h9), (HD.out.2.1.trans HBb.out).trans HB3.out, by have := HB3.out.size; have := HBb.out.size; have := HD.out.2.2; omega⟩
          case measure => simp [intOf]; omega
    · have hkn : k = n := by omega
      subst hkn
      have hJT : joinUpto ls k = joinT ls := by unfold joinT; rw [← HN.out]
      rw [hJT] at hisb
      obtain ⟨L, hL⟩ : ∃ L, L = (joinT ls).length := ⟨_, rfl⟩
      have CL : Hid (Calls Tryd.prog 29 #[.pointer (some ⟨B, 0, none⟩)] wr fun e w' => e = .returned (.int .i64 L) ∧ wr = w') := by
        refine (Tryd.Builder_Len B B _ wr hisb.out).mono ?_
        rintro e w' ⟨rfl, rfl⟩
        exact ⟨by simp [Lib.byteCells, hL], rfl⟩
      have CT : Hid (Calls Tryd.prog 30 #[.pointer (some ⟨B, 0, none⟩)] wr fun e w' => e = .returned (.string (mkS (joinT ls))) ∧ Below B wr w') :=
        Tryd.Builder_String_any B B (joinT ls) wr hisb.out (by omega)
      have HFin : Hid (Below w.heap.size w wr) := HW2.out.trans (hbel2.mono HW2.out.size)
      have HBw : Hid (w.heap.size ≤ B) := by show _ ≤ _; rw [HBB.out]; exact HW2.out.size
      rw [← hL] at HR
      clear hL hJT hbel2 hisb hbel hlt
      by_cases hbig : 2500 < L
      · rw [if_pos hbig] at HR
        have hb1 : decide ((2500 : Int) < (L : Int)) = true := decide_eq_true (by omega)
        have hb2 : decide (2500 < L) = true := decide_eq_true (by omega)
        go_wp2_with fail
        refine CL.out.mono ?_
        rintro e w3 ⟨rfl, rfl⟩
        go_wp2
        go_ret2
        exact ⟨by rw [HR.out]; rfl, HFin.out⟩
      · rw [if_neg hbig] at HR
        have hb1 : decide ((2500 : Int) < (L : Int)) = false := decide_eq_false (by omega)
        have hb2 : decide (2500 < L) = false := decide_eq_false (by omega)
        go_wp2_with fail
        refine CL.out.mono ?_
        rintro e w3 ⟨rfl, rfl⟩
        go_wp2_with fail
        refine CT.out.mono ?_
        rintro e w3 ⟨rfl, hb3⟩
        go_wp2
        go_ret2
        exact ⟨by rw [HR.out]; rfl, HFin.out.trans (hb3.mono HBw.out)⟩

theorem join_any (v : Value) (ls : List Lx) (w : World) (hv : ReadsLx w v ls) (he : ErrOk w) (hy : ∀ y ∈ ls, y.2.1.length ≤ 100000) :
    Calls Tryd.prog 11 #[v] w fun e w' => e = .returned (.tuple #[.string (mkS (joinF ls).1), .int .i64 (joinF ls).2]) ∧ Below w.heap.size w w' := by
  by_cases h : 900 < ls.length
  · exact join_long v ls w hv h
  · cases h2 : ls.all rightF with
    | true => exact join_ok v ls w hv he hy h h2
    | false => exact join_form v ls w hv he hy h h2
end Go.Proofs.YtlhbfgkcalalkaaDoor
