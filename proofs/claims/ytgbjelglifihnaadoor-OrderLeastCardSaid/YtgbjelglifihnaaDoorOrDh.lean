/- OrderLeast, for tables whose break is one of a pair. -/
import Derived.Test.YtgbjelglifihnaaDoorOrDg
import Derived.Test.YtgbjelglifihnaaDoorOrFa
import Derived.Deep.CutRange
import Derived.Deep.Cut
set_option linter.unusedVariables false
set_option linter.unusedSimpArgs false
namespace Go.Proofs.YtgbjelglifihnaaDoor.Or
open Go.RowKit Go.Shelf

theorem rd_ints {w : World} {p : Option Addr} {m cap : Nat} {L : List Nat} (h : Rd w (.slice p m cap) (intsV L)) (h0 : 0 < L.length) : ∃ b off, p = some ⟨b, off, none⟩ ∧ ∀ j, j < L.length → w.cell? ⟨b, off + j, none⟩ = some (.int .i64 ((L.getD j 0 : Nat) : Int)) := by
  obtain ⟨p', cap', he, hl, h1⟩ := h
  simp only [Value.slice.injEq] at he
  obtain ⟨rfl, _, _⟩ := he
  rcases h1 with h1 | ⟨b, off, rfl, hc⟩
  · rw [intsV_len] at h1; omega
  · refine ⟨b, off, rfl, fun j hj => ?_⟩
    rw [hc j (by rw [intsV_len]; exact hj)]
    simp [intsV, List.getD_eq_getElem?_getD, hj]

set_option maxRecDepth 100000 in
set_option maxHeartbeats 8000000 in
theorem least_pairs (t : Tab) (ve va vw : Value) (w : World) (H : TabCalls t ve va vw w) (hth : thinF t = true) (hf : frmF t = true) (hk : (proveF t).1 = 3 ∨ (proveF t).1 = 4) :
    Calls Tryd.prog 14 #[tabV t ve va vw] w fun e w' => e = .returned (.bool true) ∧ Below w.heap.size w w' := by
  obtain ⟨i0, hi, hz0, hz1, hz2⟩ := info_parts infoI
  obtain ⟨W1, hW1⟩ : ∃ W1, W1 = (w.alloc (Obj.cells #[.string (mkS t.name), ve, va, vw] 26)) := ⟨_, rfl⟩
  have b1 : Below w.heap.size w W1 := by rw [hW1]; exact (Below.refl _ _).alloc (Nat.le_refl _) _
  have c0 : W1.cell? ⟨w.heap.size, 0, none⟩ = some (.string (mkS t.name)) := by rw [hW1]; simp [go_sem]
  have c1 : W1.cell? ⟨w.heap.size, 1, none⟩ = some ve := by rw [hW1]; simp [go_sem]
  have c2 : W1.cell? ⟨w.heap.size, 2, none⟩ = some va := by rw [hW1]; simp [go_sem]
  have c3 : W1.cell? ⟨w.heap.size, 3, none⟩ = some vw := by rw [hW1]; simp [go_sem]
  have hTab := H.tab w (Below.refl _ _)
  have CT := Lib.hid (H.thin W1 b1)
  rw [hth] at CT
  have CA := Lib.hid H.awake
  have CC := Lib.hid (H.copy hth)
  have LL := Lib.hid H.laid
  have TB := Lib.hid H.tab
  have HW1 := Lib.hid hW1; have HB1 := Lib.hid b1
  obtain ⟨n, hn⟩ : ∃ n, n = t.elems.length := ⟨_, rfl⟩
  have CK2 : Hid (∀ W, Below w.heap.size w W → Calls Tryd.prog 21 #[tabV t ve va vw] W fun e w' => e = .returned (.int .i64 0) ∧ Below W.heap.size W w') := fun W h => by
    refine (H.check hth W h).mono ?_
    rintro e w' ⟨rfl, hb⟩
    exact ⟨by unfold chkE; rw [hf]; rfl, hb⟩
  have CB : Hid (∀ W (a c : Nat), Below w.heap.size w W → a < n → c < n → Calls Tryd.prog 53 #[tabV t ve va vw, .int .i64 a, .int .i64 c] W fun e w' => e = .returned (.bool (bel t.R a c)) ∧ Below W.heap.size W w') := fun W a c h ha hc =>
    lawBelow_any t ve va vw a c W (TB.out W h) hf (LL.out W h) (by unfold Tab.n; omega) (by unfold Tab.n; omega)
  obtain ⟨K, hK⟩ : ∃ K, K = (proveF t).1 := ⟨_, rfl⟩
  obtain ⟨xa, hXA⟩ : ∃ K, K = (proveF t).2.1 := ⟨_, rfl⟩
  obtain ⟨xb, hXB⟩ : ∃ K, K = (proveF t).2.2 := ⟨_, rfl⟩
  rw [← hK] at hk
  have hlt : latF t = false ∧ proveF t = brkF t.R t.n t.wr := by
    cases hl : latF t with
    | true => have hp : proveF t = (0, 0, 0) := by unfold proveF; rw [hf, hl]; rfl
              rw [hp] at hK; simp only at hK; omega
    | false => exact ⟨rfl, by unfold proveF; rw [hf, hl]; rfl⟩
  have CP : Hid (∀ W ve va vw, Below w.heap.size w W → TabIn W ve va vw t → Calls Tryd.prog 19 #[.agg #[.string (mkS t.name), ve, va, vw]] W fun e w' => e = .returned (.tuple #[.agg #[.int .u8 (K : Nat), .int .i64 (xa : Nat), .int .i64 (xb : Nat)], .int .i64 12]) ∧ Below W.heap.size W w') := fun W ve va vw h hT => by
    refine (prove_any t ve va vw W hT (thin_small hth) (LL.out W h)).mono ?_
    rintro e w' ⟨rfl, hb⟩
    exact ⟨by rw [hK, hXA, hXB]; unfold latE; rw [hf, hlt.1]; rfl, hb⟩
  have hB : brkF t.R t.n t.wr = (K, xa, xb) := by rw [← hlt.2, hK, hXA, hXB]
  obtain ⟨hab, hbn, hnone, hkind, hsome⟩ := brk_what hB hk
  have hnT : t.n = n := by unfold Tab.n; exact hn.symm
  rw [hnT] at hbn hnone hkind hsome
  have n12 : n ≤ 12 := by have := (frm_len hf).2.1; omega
  have HNO := Lib.hid hnone; have HKI := Lib.hid hkind; have HSO := Lib.hid hsome; have HKK := Lib.hid hk
  obtain ⟨pe, ce, rfl⟩ := hTab.e.form
  obtain ⟨pa, ca, rfl⟩ := hTab.a.form
  obtain ⟨pw, cw, rfl⟩ := hTab.w.form
  obtain ⟨R, hR⟩ : ∃ R, R = t.R := ⟨_, rfl⟩
  rw [← hR] at CB HNO HKI HSO
  unfold tabV at CT CK2 CC CB ⊢
  rw [← hn] at CT CK2 CC CB c1 ⊢
  rw [← hn] at HW1
  clear H hTab hW1 b1 hth hf hk hK hXA hXB hlt hB hnone hkind hsome hnT hn LL TB hR
  go_enter Tryd.func14, Tryd.ntmps14
  go_wp2_with fail
  rw [← HW1.out]
  refine CT.out.mono ?_
  rintro e w2 ⟨rfl, hb⟩
  have d0 := (hb.cell (cell_lt c0)).trans c0
  have d1 := (hb.cell (cell_lt c1)).trans c1
  have d2 := (hb.cell (cell_lt c2)).trans c2
  have d3 := (hb.cell (cell_lt c3)).trans c3
  have HB2 := Lib.hid (HB1.out.trans (hb.mono HB1.out.size))
  clear hb c0 c1 c2 c3
  go_wp2_with fail
  refine (CK2.out _ HB2.out).mono ?_
  rintro e w3 ⟨rfl, hb⟩
  have c0 := (hb.cell (cell_lt d0)).trans d0
  have c1 := (hb.cell (cell_lt d1)).trans d1
  have c2 := (hb.cell (cell_lt d2)).trans d2
  have c3 := (hb.cell (cell_lt d3)).trans d3
  have HB3 := Lib.hid (HB2.out.trans (hb.mono HB2.out.size))
  clear hb d0 d1 d2 d3
  go_wp2_with fail
  refine (CC.out _ HB3.out).mono ?_
  rintro e w4 ⟨ve', va', vw', rfl, hT4, hb⟩
  have HB4 := Lib.hid (HB3.out.trans (hb.mono HB3.out.size))
  have HT4 := Lib.hid hT4
  have d0 := (hb.cell (cell_lt c0)).trans c0
  have d1 := (hb.cell (cell_lt c1)).trans c1
  have d2 := (hb.cell (cell_lt c2)).trans c2
  have d3 := (hb.cell (cell_lt c3)).trans c3
  clear hb hT4 c0 c1 c2 c3
  go_wp2_with fail
  refine (CP.out _ _ _ _ HB4.out HT4.out).mono ?_
  rintro e w5 ⟨rfl, hb⟩
  have HB5 := Lib.hid (HB4.out.trans (hb.mono HB4.out.size))
  have c0 := (hb.cell (cell_lt d0)).trans d0
  have c1 := (hb.cell (cell_lt d1)).trans d1
  have c2 := (hb.cell (cell_lt d2)).trans d2
  have c3 := (hb.cell (cell_lt d3)).trans d3
  have l0 : w.heap.size < w5.heap.size := cell_lt c0
  clear hb d0 d1 d2 d3 HT4 CP CC CK2 CT
  obtain ⟨B, hBB⟩ : ∃ B, B = w5.alloc (.cells #[.int .u8 (K : Nat), .int .i64 (xa : Nat), .int .i64 (xb : Nat)] 33) := ⟨_, rfl⟩
  have bB : Below w5.heap.size w5 B := by rw [hBB]; exact (Below.refl _ _).alloc (Nat.le_refl _) _
  have x0 : B.cell? ⟨w5.heap.size, 0, none⟩ = some (.int .u8 (K : Nat)) := by rw [hBB]; simp [go_sem]
  have x1 : B.cell? ⟨w5.heap.size, 1, none⟩ = some (.int .i64 (xa : Nat)) := by rw [hBB]; simp [go_sem]
  have x2 : B.cell? ⟨w5.heap.size, 2, none⟩ = some (.int .i64 (xb : Nat)) := by rw [hBB]; simp [go_sem]
  have HBB := Lib.hid hBB
  have HB6 := Lib.hid (HB5.out.trans (bB.mono HB5.out.size))
  have KS : Hid (∀ U, Below B.heap.size B U → (U.cell? ⟨w.heap.size, 0, none⟩ = some (.string (mkS t.name)) ∧ U.cell? ⟨w.heap.size, 1, none⟩ = some (.slice pe n ce) ∧ U.cell? ⟨w.heap.size, 2, none⟩ = some (.slice pa t.above.length ca) ∧ U.cell? ⟨w.heap.size, 3, none⟩ = some (.slice pw t.wrong.length cw)) ∧ U.cell? ⟨w5.heap.size, 0, none⟩ = some (.int .u8 (K : Nat)) ∧ U.cell? ⟨w5.heap.size, 1, none⟩ = some (.int .i64 (xa : Nat)) ∧ U.cell? ⟨w5.heap.size, 2, none⟩ = some (.int .i64 (xb : Nat))) := fun U h => by
    have l1 := bB.size
    have c0' := (bB.cell l0).trans c0
    have c1' := (bB.cell l0).trans c1
    have c2' := (bB.cell l0).trans c2
    have c3' := (bB.cell l0).trans c3
    exact ⟨⟨(h.cell (cell_lt c0')).trans c0', (h.cell (cell_lt c1')).trans c1', (h.cell (cell_lt c2')).trans c2', (h.cell (cell_lt c3')).trans c3'⟩, (h.cell (cell_lt x0)).trans x0, (h.cell (cell_lt x1)).trans x1, (h.cell (cell_lt x2)).trans x2⟩
  clear hBB bB c0 c1 c2 c3
  go_upto_region 4 with fail
  rw [← HBB.out]
  go_cut [39] from 28 to 39 (fun c wx => c = .bool false ∧ wx = B)
  case first =>
    rcases HKK.out with rfl | rfl
    all_goals
      go_wp2_with fail
      go_meet
      exact ⟨rfl, rfl⟩
  case rest =>
    obtain ⟨rfl, rfl⟩ := hcut
    clear x0 x1 x2
    go_wp2_with fail
    go_loopw [5] (fun i wr => ∃ a : Nat, a ≤ xa ∧ i = .int .i64 a ∧ Hid (Below wc.heap.size wc wr)) (fun i _ => n - (intOf i).toNat)
    case atStart => exact ⟨0, Nat.zero_le _, rfl, Below.refl _ _⟩
    case round =>
      obtain ⟨a, ha, rfl, hb⟩ := hrel
      obtain ⟨⟨k0, k1, k2, k3⟩, x0, x1, x2⟩ := KS.out _ hb.out
      have han : a < n := by omega
      go_wp2_with fail
      go_loopw [6] (fun j wr2 => ∃ b : Nat, a < b ∧ (a < xa ∧ b ≤ n ∨ a = xa ∧ b ≤ xb) ∧ j = .int .i64 b ∧ Hid (Below wc.heap.size wc wr2)) (fun j _ => n - (intOf j).toNat)
      case atStart => exact ⟨a + 1, by omega, by omega, by go_num, hb⟩
      case round =>
        clear k0 k1 k2 k3 x0 x1 x2 hb
        obtain ⟨b, hab2, hbb, rfl, hb⟩ := hrel
        obtain ⟨⟨k0, k1, k2, k3⟩, x0, x1, x2⟩ := KS.out _ hb.out
        by_cases hbn2 : b < n
        · have HBB2 := Lib.hid hbb
          clear hbb
          go_wp2_with fail
          go_loopw [7, 8] (fun v i wr3 => ∃ c : Nat, c ≤ n ∧ i = .int .i64 c ∧ wr3.ownsRow wc.heap.size 3 1 v (bothF R a b c).length (intsV (bothF R a b c)) ∧ Hid (Below wc.heap.size wc wr3)) (fun _ i _ => n - (intOf i).toNat)
          case atStart => exact ⟨0, Nat.zero_le _, rfl, World.ownsRow_nil _ _ _ _, hb⟩
          case round =>
            clear k0 k1 k2 k3 x0 x1 x2 hb
            obtain ⟨c, hcn, rfl, hrow, hb⟩ := hrel
            obtain ⟨⟨k0, k1, k2, k3⟩, x0, x1, x2⟩ := KS.out _ hb.out
            obtain ⟨ptr, cap, rfl⟩ := ownsRow_slice hrow
            by_cases hcn2 : c < n
            · have hl := both_len R a b c
              obtain ⟨m, hm⟩ : ∃ m, m = (bothF R a b c).length := ⟨_, rfl⟩
              rw [← hm] at hrow hl ⊢
              have HROW := Lib.hid hrow
              clear hrow
              cases h1 : bel R a c with
              | false =>
                have HN : Hid (bothF R a b (c + 1) = bothF R a b c) := by show _ = _; rw [both_snoc, h1]; simp
                have HM := Lib.hid hm
                clear hm
                go_wp2_with fail
                refine (CB.out _ a c (HB6.out.trans (hb.out.mono HB6.out.size)) han hcn2).mono ?_
                rintro e w7 ⟨rfl, hb7⟩
                rw [h1]
                have HB7 := Lib.hid (hb.out.trans (hb7.mono hb.out.size))
                have HR7 := Lib.hid (ownsRow_below HROW.out hb7)
                clear hb7 h1
                go_wp2
                go_roundw
                case rel => exact ⟨c + 1, by omega, by go_num, by rw [HN.out, ← HM.out]; exact HR7.out, HB7⟩
                case measure => simp [intOf]; omega
              | true =>
                cases h2 : bel R b c with
                | false =>
                  have HN : Hid (bothF R a b (c + 1) = bothF R a b c) := by show _ = _; rw [both_snoc, h1, h2]; simp
                  have HM := Lib.hid hm
                  clear hm
                  go_wp2_with fail
                  refine (CB.out _ a c (HB6.out.trans (hb.out.mono HB6.out.size)) han hcn2).mono ?_
                  rintro e w7 ⟨rfl, hb7⟩
                  rw [h1]
                  have q0 := (hb7.cell (cell_lt k0)).trans k0
                  have q1 := (hb7.cell (cell_lt k1)).trans k1
                  have q2 := (hb7.cell (cell_lt k2)).trans k2
                  have q3 := (hb7.cell (cell_lt k3)).trans k3
                  have HB7 := Lib.hid (hb.out.trans (hb7.mono hb.out.size))
                  have HR7 := Lib.hid (ownsRow_below HROW.out hb7)
                  clear hb7 h1 k0 k1 k2 k3 x0 x1 x2
                  go_wp2_with fail
                  refine (CB.out _ b c (HB6.out.trans (HB7.out.mono HB6.out.size)) hbn2 hcn2).mono ?_
                  rintro e w8 ⟨rfl, hb8⟩
                  rw [h2]
                  have HB8 := Lib.hid (HB7.out.trans (hb8.mono HB7.out.size))
                  have HR8 := Lib.hid (ownsRow_below HR7.out hb8)
                  clear hb8 h2
                  go_wp2
                  go_roundw
                  case rel => exact ⟨c + 1, by omega, by go_num, by rw [HN.out, ← HM.out]; exact HR8.out, HB8⟩
                  case measure => simp [intOf]; omega
                | true =>
                  have HN : Hid (bothF R a b (c + 1) = bothF R a b c ++ [c]) := by show _ = _; rw [both_snoc, h1, h2]; simp
                  have HM := Lib.hid hm
                  clear hm
                  go_wp2_with fail
                  refine (CB.out _ a c (HB6.out.trans (hb.out.mono HB6.out.size)) han hcn2).mono ?_
                  rintro e w7 ⟨rfl, hb7⟩
                  rw [h1]
                  have q0 := (hb7.cell (cell_lt k0)).trans k0
                  have q1 := (hb7.cell (cell_lt k1)).trans k1
                  have q2 := (hb7.cell (cell_lt k2)).trans k2
                  have q3 := (hb7.cell (cell_lt k3)).trans k3
                  have HB7 := Lib.hid (hb.out.trans (hb7.mono hb.out.size))
                  have HR7 := Lib.hid (ownsRow_below HROW.out hb7)
                  clear hb7 h1 k0 k1 k2 k3 x0 x1 x2
                  go_wp2_with fail
                  refine (CB.out _ b c (HB6.out.trans (HB7.out.mono HB6.out.size)) hbn2 hcn2).mono ?_
                  rintro e w8 ⟨rfl, hb8⟩
                  rw [h2]
                  have HB8 := Lib.hid (HB7.out.trans (hb8.mono HB7.out.size))
                  have hrow8 := ownsRow_below HR7.out hb8
                  have HLT := Lib.hid hrow8.lt
                  have hs8 := HB8.out.size
                  clear hb8 h2 q0 q1 q2 q3
                  go_wp2_with (at_builtin; refine wpList_append_own _ rfl _ _ 39 rfl wc.heap.size 3 i0 (.int .i64 0) 1 8 Tryd.underlying39 hi hz0 hz1 hz2 rfl (by decide) _ _ _ rfl (hrow8.alloc _) ⟨w8.heap.size, 0, none⟩ 1 1 [.int .i64 (c : Int)] rfl rfl ?c1 ?c2 (by unfold maxLen; omega) (by omega) (by simp; omega) ?_)
                  case c1 => intro j u hj; match j, hj with | 0, hj => (simp at hj; subst hj; simp [Addr.add])
                  case c2 => intro u hu; simp at hu; subst hu; rfl
                  intro v' w' hown' hgrow _
                  have HB9 := Lib.hid (Below.grown (HB8.out.alloc HB8.out.size _) hgrow (by simp; omega) (fun j hj => (HLT.out j hj).1))
                  have HR9 := Lib.hid hown'
                  clear hown' hgrow hrow8
                  go_wp2
                  go_roundw
                  case rel => exact ⟨c + 1, by omega, by go_num, by rw [HN.out, List.length_append, ← HM.out, intsV, List.map_append]; exact HR9.out, HB9⟩
                  case measure => simp [intOf]; omega
            · have hcn3 : c = n := by omega
              obtain ⟨wr3, hw3⟩ : ∃ U, U = wr := ⟨_, rfl⟩
              subst hw3
              obtain ⟨L, hL⟩ : ∃ L, L = bothF R a b c := ⟨_, rfl⟩
              have HLU : Hid (L = ups R n [a, b]) := by show _ = _; rw [hL, hcn3, both_ups]
              have hLl := both_len R a b c
              have hLr : ∀ j, j < L.length → L.getD j 0 < n := fun j hj => by
                have : L.getD j 0 ∈ bothF R a b c := by rw [← hL]; simp [List.getD_eq_getElem?_getD, hj]
                have := both_lt this; omega
              rw [← hL] at hrow hLl ⊢
              obtain ⟨m, hm⟩ : ∃ m, m = L.length := ⟨_, rfl⟩
              have hR : Rd wr3 (.slice ptr m cap) (intsV L) := by
                rw [hm] at *
                exact rd_own (by rw [intsV_len]; exact hrow) (by rw [intsV_len]; omega)
              rw [← hm] at hLl ⊢
              have hm12 : m ≤ 12 := by omega
              have HR := Lib.hid hR; have HM := Lib.hid hm; have HLR := Lib.hid hLr
              clear hrow hR hm hL hcn hcn3 hLr
              go_wp2_with fail
              clear k0 k1 k2 k3 x0 x1 x2
              go_loopw [9, 10] (fun s i wr4 => ∃ k : Nat, k ≤ m ∧ i = .int .i64 k ∧ s = .bool (someF R L k) ∧ Hid (Below wr3.heap.size wr3 wr4)) (fun _ i _ => m - (intOf i).toNat)
              case atStart => exact ⟨0, Nat.zero_le _, rfl, by simp [someF], Below.refl _ _⟩
              case round =>
                obtain ⟨k, hkm, rfl, rfl, hb4⟩ := hrel
                by_cases hkm2 : k < m
                · obtain ⟨bb, ob, rfl, hcel⟩ := rd_ints HR.out (by have := HM.out; omega)
                  have HCEL : Hid (∀ U, Below wr3.heap.size wr3 U → ∀ j, j < m → U.cell? ⟨bb, ob + j, none⟩ = some (.int .i64 ((L.getD j 0 : Nat) : Int))) := fun U hU j hj => by
                    have h := hcel j (by have := HM.out; omega)
                    exact (hU.cell (cell_lt h)).trans h
                  clear hcel
                  obtain ⟨x, hx⟩ : ∃ x, x = L.getD k 0 := ⟨_, rfl⟩
                  have hxn : x < n := by rw [hx]; exact HLR.out k (by have := HM.out; omega)
                  have HX := Lib.hid hx
                  clear hx
                  go_wp2_with fail
                  go_loopw [11, 12] (fun al i wr5 => ∃ j : Nat, j ≤ m ∧ i = .int .i64 j ∧ al = .bool (allF R L x j) ∧ Hid (Below wr3.heap.size wr3 wr5)) (fun _ i _ => m - (intOf i).toNat)
                  case atStart => exact ⟨0, Nat.zero_le _, rfl, by simp [allF], hb4⟩
                  case round =>
                    clear hb4
                    obtain ⟨j, hjm, rfl, rfl, hb5⟩ := hrel
                    by_cases hjm2 : j < m
                    · cases hal : allF R L x j with
                      | false =>
                        have HN : Hid (allF R L x (j + 1) = false) := by show _ = _; rw [all_snoc R L x j (by have := HM.out; omega), hal]; rfl
                        clear hal
                        go_wp2
                        go_quiet (fail)
                        go_wp2
                        go_roundw
                        case rel => exact ⟨j + 1, by omega, by go_num, by rw [HN.out], hb5.out.trans (below_drewAt _ _ _)⟩
                        case measure => simp [intOf]; omega
                      | true =>
                        obtain ⟨y, hy⟩ : ∃ y, y = L.getD j 0 := ⟨_, rfl⟩
                        have hyn : y < n := by rw [hy]; exact HLR.out j (by have := HM.out; omega)
                        have HN : Hid (allF R L x (j + 1) = bel R x y) := by show _ = _; rw [all_snoc R L x j (by have := HM.out; omega), hal, hy]; rfl
                        have HY := Lib.hid hy
                        clear hal hy
                        obtain ⟨wr5, hw5⟩ : ∃ U, U = wr := ⟨_, rfl⟩
                        subst hw5
                        have kx := HCEL.out _ hb5.out k hkm2
                        have ky := HCEL.out _ hb5.out j hjm2
                        rw [← HX.out] at kx
                        rw [← HY.out] at ky
                        obtain ⟨⟨k0, k1, k2, k3⟩, x0, x1, x2⟩ := KS.out _ (hb.out.trans (hb5.out.mono hb.out.size))
                        have hs5 := Lib.hid (hb.out.trans (hb5.out.mono hb.out.size))
                        have KV : Hid (∀ V, Below wr5.heap.size wr5 V → V.cell? ⟨w.heap.size, 0, none⟩ = some (.string (mkS t.name)) ∧ V.cell? ⟨w.heap.size, 1, none⟩ = some (.slice pe n ce) ∧ V.cell? ⟨w.heap.size, 2, none⟩ = some (.slice pa t.above.length ca) ∧ V.cell? ⟨w.heap.size, 3, none⟩ = some (.slice pw t.wrong.length cw) ∧ V.cell? ⟨bb, ob + k, none⟩ = some (.int .i64 (x : Int)) ∧ V.cell? ⟨bb, ob + j, none⟩ = some (.int .i64 (y : Int))) := fun V h =>
                          ⟨(h.cell (cell_lt k0)).trans k0, (h.cell (cell_lt k1)).trans k1, (h.cell (cell_lt k2)).trans k2, (h.cell (cell_lt k3)).trans k3, (h.cell (cell_lt kx)).trans kx, (h.cell (cell_lt ky)).trans ky⟩
                        clear k0 k1 k2 k3 x0 x1 x2 kx ky
                        go_wp2_with fail
                        go_region_held3 (fun V => V.cell? ⟨w.heap.size, 0, none⟩ = some (.string (mkS t.name)) ∧ V.cell? ⟨w.heap.size, 1, none⟩ = some (.slice pe n ce) ∧ V.cell? ⟨w.heap.size, 2, none⟩ = some (.slice pa t.above.length ca) ∧ V.cell? ⟨w.heap.size, 3, none⟩ = some (.slice pw t.wrong.length cw) ∧ V.cell? ⟨bb, ob + k, none⟩ = some (.int .i64 (x : Int)) ∧ V.cell? ⟨bb, ob + j, none⟩ = some (.int .i64 (y : Int)))
                          (exact KV.out _ (by repeat (first | exact Below.refl _ _ | with_reducible refine Below.drew ?_ | refine below_step (by assumption) ?_ (Nat.le_refl _))))
                          ((go_at_call 53; refine (CB.out _ x y (HB6.out.trans ((hs5.out.trans (show Below wc.heap.size wr5 _ from Below.drew (Below.refl _ _))).mono HB6.out.size)) hxn hyn).mono ?_; rintro e w7 ⟨rfl, hb7⟩))
                        all_goals
                          have HB7 := Lib.hid (hb5.out.trans ((below_step hb7 (Below.drew (Below.refl wr5.heap.size wr5)) (Nat.le_refl _)).mono hb5.out.size))
                          clear hb7
                          go_wp2
                          go_roundw
                          case rel => exact ⟨j + 1, by omega, by go_num, by rw [HN.out], HB7⟩
                          case measure => simp [intOf]; omega
                    · have HA : Hid (someF R L (k + 1) = (someF R L k || allF R L x m)) := by show _ = _; rw [some_snoc R L k (by have := HM.out; omega), ← HX.out, HM.out]
                      have hjm3 : j = m := by omega
                      subst hjm3
                      cases hs1 : someF R L k with
                      | true =>
                        have HN : Hid (someF R L (k + 1) = true) := by show _ = _; rw [HA.out, hs1]; rfl
                        clear hs1
                        go_wp2
                        go_roundw
                        case rel => exact ⟨k + 1, by omega, by go_num, by rw [HN.out], hb5⟩
                        case measure => simp [intOf]; omega
                      | false =>
                        have HN : Hid (someF R L (k + 1) = allF R L x j) := by show _ = _; rw [HA.out, hs1]; rfl
                        clear hs1
                        go_wp2
                        go_roundw
                        case rel => exact ⟨k + 1, by omega, by go_num, by rw [HN.out], hb5⟩
                        case measure => simp [intOf]; omega
                · have HS : Hid (someF R L k = (joinO R n a b).isSome) := by
                    have hk : k = L.length := by have := HM.out; omega
                    show _ = _
                    rw [hk, some_all, HLU.out]; rfl
                  have hkm3 : k = m := by omega
                  subst hkm3
                  have hb6 := Lib.hid (hb.out.trans (hb4.out.mono hb.out.size))
                  obtain ⟨⟨k0, k1, k2, k3⟩, x0, x1, x2⟩ := KS.out _ hb6.out
                  by_cases hE : a = xa ∧ b = xb
                  · obtain ⟨rfl, rfl⟩ := hE
                    have hsm : someF R L k = false := by rw [HS.out]; exact HNO.out
                    rw [hsm]
                    have HCA : Hid (∀ V, Below wr.heap.size wr V → Calls Tryd.prog 16 #[] V fun e w' => e = .returned (.bool true) ∧ Below w.heap.size w w') := fun V h => by
                      have hV := HB6.out.trans ((hb6.out.trans (h.mono hb6.out.size)).mono HB6.out.size)
                      refine (CA.out V hV).mono ?_
                      rintro e w' ⟨rfl, hb⟩
                      exact ⟨rfl, hV.trans (hb.mono hV.size)⟩
                    have hKL : K = 3 ∧ k = 0 ∨ K = 4 ∧ 0 < k := by
                      have h1 := HKI.out
                      rw [← HLU.out] at h1
                      have h2 := HM.out
                      rcases HKK.out with e | e
                      · rw [e] at h1
                        have : L = [] := by simpa using h1.symm
                        exact .inl ⟨e, by rw [h2, this]; rfl⟩
                      · rw [e] at h1
                        have : L ≠ [] := by intro h; rw [h] at h1; simp at h1
                        exact .inr ⟨e, by rw [h2]; exact List.length_pos_iff.2 this⟩
                    have HKL := Lib.hid hKL
                    clear hKL hsm HS
                    rcases HKL.out with ⟨rfl, rfl⟩ | ⟨rfl, hk0⟩
                    all_goals
                      try have g0 : ((k : Int) == 0) = false := by rw [beq_eq_false_iff_ne]; omega
                      go_wp2_with fail
                      refine (HCA.out _ (Below.refl _ _)).mono ?_
                      rintro e w6 ⟨rfl, hb⟩
                      have HB6 := Lib.hid hb
                      clear hb
                      go_wp2
                      go_ret
                      exact ⟨rfl, HB6.out⟩
                  · have hsm : someF R L k = true := by
                      rw [HS.out]
                      exact HSO.out a b hab2 hbn2 (by have := HBB2.out; omega)
                    rw [hsm]
                    clear hsm HS
                    by_cases hax : a = xa
                    · subst hax
                      have hbx : b ≠ xb := fun e => hE ⟨rfl, e⟩
                      have g1 : ((b : Int) == (xb : Int)) = false := by rw [beq_eq_false_iff_ne]; omega
                      have HBX := Lib.hid hbx
                      clear hE hbx
                      go_wp2
                      go_roundw
                      case rel => exact ⟨b + 1, by omega, .inr ⟨trivial, by have h1 := HBB2.out; have h2 := HBX.out; omega⟩, by go_num, hb6⟩
                      case measure => simp [intOf]; omega
                    · have g1 : ((a : Int) == (xa : Int)) = false := by rw [beq_eq_false_iff_ne]; omega
                      have HAX := Lib.hid hax
                      clear hE hax
                      go_wp2
                      go_roundw
                      case rel => exact ⟨b + 1, by omega, by have := HBB2.out; have := HAX.out; omega, by go_num, hb6⟩
                      case measure => simp [intOf]; omega
        · have HAX := Lib.hid (show a < xa by omega)
          clear hbb
          go_wp2_with fail
          go_roundw
          case rel => exact ⟨a + 1, HAX.out, by go_num, hb⟩
          case measure => simp [intOf]; omega
end Go.Proofs.YtgbjelglifihnaaDoor.Or
