/- The law's turned does what turnT says. -/
import Derived.Test.YtmooikdodbjgpaaDoorOrKk
import Derived.BigQuiet
import Derived.Deep.CutRange
import Derived.Deep.CutBlock
import Derived.Deep.Cut
set_option linter.unusedVariables false
set_option linter.unusedSimpArgs false
namespace Go.Proofs.YtmooikdodbjgpaaDoor.Or
open Go.RowKit Go.Shelf

set_option maxRecDepth 100000 in
set_option maxHeartbeats 16000000 in
theorem turned_ok (t : Tab) (bs : List Nat) (w : World) (hf : frmF t = true) : TurnedOk t bs w := by
  intro U ve va vw vb hBU hT hvb
  obtain ⟨i0, hi, hz0, hz1, hz2⟩ := info_parts infoI
  obtain ⟨iII, hJi, hJ0, hJ1, hJ2⟩ := info_parts infoII
  obtain ⟨iS, hSi, hS0, hS1, hS2⟩ := info_parts infoStr
  obtain ⟨iB, hBi, hB0, hB1, hB2⟩ := info_parts infoBool
  obtain ⟨f1, f2, f3, f4⟩ := frm_len hf
  obtain ⟨n, hn⟩ : ∃ n, n = t.n := ⟨_, rfl⟩
  have hnE : t.elems.length = n := by rw [hn]; rfl
  have hnW : t.wrong.length = n := by rw [f4, hn]; rfl
  have hnA : t.above.length = n := by rw [f3, hn]; rfl
  have n12 : n ≤ 12 := by omega
  have n1 : 1 ≤ n := by omega
  obtain ⟨W0, hW0⟩ : ∃ W0, W0 = (U.alloc (.cells #[.string (mkS t.name), ve, va, vw] 26)).alloc (.cells #[.string ⟨#[]⟩, .slice none 0 0, .slice none 0 0, .slice none 0 0] 26) := ⟨_, rfl⟩
  have b0 : Below U.heap.size U W0 := by rw [hW0]; exact ((Below.refl _ _).alloc (Nat.le_refl _) _).alloc (by simp) _
  have z0 : W0.heap[U.heap.size + 1]? = some (Obj.cells #[.string ⟨#[]⟩, .slice none 0 0, .slice none 0 0, .slice none 0 0] 26 (0, 0)) := by rw [hW0]; exact heap_alloc_at (by simp only [alloc_size])
  have k0 : W0.cell? ⟨U.heap.size, 0, none⟩ = some (.string (mkS t.name)) := by rw [hW0]; simp [go_sem]
  have k1 : W0.cell? ⟨U.heap.size, 1, none⟩ = some ve := by rw [hW0]; simp [go_sem]
  have k2 : W0.cell? ⟨U.heap.size, 2, none⟩ = some va := by rw [hW0]; simp [go_sem]
  have k3 : W0.cell? ⟨U.heap.size, 3, none⟩ = some vw := by rw [hW0]; simp [go_sem]
  have HT0 := Lib.hid (hT.below b0)
  have HV0 := Lib.hid (hvb.1.below b0)
  have H256 := Lib.hid hvb.2
  obtain ⟨pe, ce, rfl⟩ := hT.e.form
  obtain ⟨pa, ca, rfl⟩ := hT.a.form
  obtain ⟨pw, cw, rfl⟩ := hT.w.form
  obtain ⟨pb, cb, rfl⟩ := hvb.1.form
  obtain ⟨nb, hnb⟩ : ∃ nb, nb = (bs.map fun x : Nat => Value.int .u8 (x : Int)).length := ⟨_, rfl⟩
  have hnb2 : nb = bs.length := by rw [hnb, List.length_map]
  have hnbm : nb ≤ 9223372036854775807 := by rw [hnb]; exact hvb.1.len
  have HW0 := Lib.hid hW0; have HB0 := Lib.hid b0; have Z0 := Lib.hid z0
  have HN := Lib.hid hn; have HNE := Lib.hid hnE; have HNW := Lib.hid hnW; have HNA := Lib.hid hnA; have HF := Lib.hid hf; have HNB := Lib.hid hnb2
  rw [← hnb] at HV0 ⊢
  have KS : Hid (∀ V, Below W0.heap.size W0 V → V.cell? ⟨U.heap.size, 0, none⟩ = some (.string (mkS t.name)) ∧ V.cell? ⟨U.heap.size, 1, none⟩ = some (.slice pe n ce) ∧ V.cell? ⟨U.heap.size, 2, none⟩ = some (.slice pa n ca) ∧ V.cell? ⟨U.heap.size, 3, none⟩ = some (.slice pw n cw)) := fun V h => by
    rw [hnE] at k1; rw [hnA] at k2; rw [hnW] at k3
    exact ⟨(h.cell (cell_lt k0)).trans k0, (h.cell (cell_lt k1)).trans k1, (h.cell (cell_lt k2)).trans k2, (h.cell (cell_lt k3)).trans k3⟩
  rw [hnE, hnA, hnW] at HW0 HT0 ⊢
  clear hBU hT hvb hf hn hnE hnW hnA f1 f2 f3 f4 hW0 b0 z0 k0 k1 k2 k3 hnb hnb2
  obtain ⟨_, k1, _, _⟩ := KS.out _ (Below.refl _ _)
  go_enter Tryd.func56, Tryd.ntmps56
  go_wp2_with fail
  rw [← HW0.out]
  go_loopw [7, 9] (fun v i wx => ∃ i' : Nat, i' ≤ n ∧ i = .int .i64 i' ∧ Hid (wx.ownsRow W0.heap.size 3 1 v i' ((List.range i').map fun j : Nat => Value.int .i64 (j : Int))) ∧ Hid (Below W0.heap.size W0 wx)) (fun _ i _ => n - (intOf i).toNat)
  case atStart => exact ⟨0, Nat.zero_le _, rfl, ⟨rfl, .inl ⟨rfl, rfl⟩⟩, Below.refl _ _⟩
  case round =>
    clear k1
    obtain ⟨i, hin, rfl, hrow, hb⟩ := hrel
    obtain ⟨p7, c7, rfl⟩ := ownsRow_slice hrow.out
    by_cases hlt : i < n
    · have HLT := Lib.hid hrow.out.lt
      have hs := hb.out.size
      go_wp2_with (at_builtin; refine wpList_append_own _ rfl _ _ 39 rfl W0.heap.size 3 i0 (.int .i64 0) 1 8 Tryd.underlying39 hi hz0 hz1 hz2 rfl (by decide) _ _ _ rfl (hrow.out.alloc _) ⟨wr.heap.size, 0, none⟩ 1 1 [.int .i64 (i : Int)] rfl rfl ?c1 ?c2 (by unfold maxLen; omega) (by omega) (by simp; omega) ?_)
      case c1 => intro j u hj; match j, hj with | 0, hj => (simp at hj; subst hj; simp [Addr.add])
      case c2 => intro u hu; simp at hu; subst hu; rfl
      intro v' w' hown' hgrow _
      have HB9 := Lib.hid (Below.grown (hb.out.alloc hb.out.size _) hgrow (by simp; omega) (fun j hj => (HLT.out j hj).1))
      have HR9 : Hid (w'.ownsRow W0.heap.size 3 1 v' (i + 1) ((List.range (i + 1)).map fun j : Nat => Value.int .i64 (j : Int))) := by
        show World.ownsRow _ _ _ _ _ _ _
        rw [List.range_succ, List.map_append]; exact hown'
      clear hown' hgrow
      go_wp2
      go_roundw
      case rel => exact ⟨i + 1, by omega, by go_num, HR9, HB9⟩
      case measure => simp [intOf]; omega
    · have hin2 : i = n := by omega
      rw [hin2] at hrow
      obtain ⟨g, cap, hge, hg0, hgh, hncap⟩ := owns_head hrow.out n1
      injection hge with hge1 _ hge2
      subst hge1
      subst hge2
      have HAt : Hid (AtI g n (fun j => j) wr) := AtI.start hrow.out n1 _ (fun j hj => by simp [hj])
      have HP0 : Hid (PermF n (fun j => j)) := PermF.start n
      obtain ⟨W1, hW1⟩ : ∃ W1, W1 = wr := ⟨_, rfl⟩
      subst hW1
      have HB1 : Hid (Below W0.heap.size W0 W1) := hb.out
      rw [hin2]
      clear hrow hb hin2 hlt hin
      have hg1 := hg0
      have HG0 := Lib.hid hg0
      obtain ⟨_, k1, _, _⟩ := KS.out _ HB1.out
      go_upto_block 2 with fail
      go_cut [] from 10 to 64 (fun wx => ∃ f, Hid (AtI g n f wx) ∧ Hid (PermF n f) ∧ Hid (Diff (fun k => k = g) W1 wx))
      case first =>
        go_wp2_with fail
        go_loopw [10] (fun i wx => ∃ (i' : Nat) (f : Nat → Nat), 2 ≤ i' ∧ (i' ≤ n ∨ i' = 2) ∧ i = .int .i64 i' ∧ Hid (AtI g n f wx) ∧ Hid (PermF n f) ∧ Hid (Diff (fun k => k = g) W1 wx)) (fun i _ => n - (intOf i).toNat)
        case atStart => exact ⟨2, _, Nat.le_refl _, .inr rfl, rfl, HAt, HP0, Diff.refl _ _⟩
        case round =>
          clear k1
          obtain ⟨i, f, hi2, hin, rfl, hat, hpf, hdf⟩ := hrel
          have HBr : Hid (Below W0.heap.size W0 wr) := HB1.out.trans (Diff.below hdf.out HB1.out.size (fun k hk e => by omega))
          have hif : ¬ (i : Int) = 0 := by omega
          have hif' : ¬ i = 0 := by omega
          by_cases hlt : i < n
          · by_cases hb0 : 0 < nb
            · have hib : i % nb < bs.length := by rw [← HNB.out]; exact Nat.mod_lt _ hb0
              obtain ⟨bb, ob, rfl, hcb⟩ := HV0.out.cell (i := i % nb) (by rw [List.length_map]; exact hib)
              rw [List.getElem_map] at hcb
              obtain ⟨z, hz⟩ : ∃ z, z = bs[i % nb] := ⟨_, rfl⟩
              have hz256 : z < 256 := by rw [hz]; exact H256.out _ (List.getElem_mem hib)
              rw [← hz] at hcb
              have hcb2 := (HBr.out.cell (cell_lt hcb)).trans hcb
              obtain ⟨m, hm⟩ : ∃ m, m = i % nb := ⟨_, rfl⟩
              have hmn : m < nb := by rw [hm]; exact Nat.mod_lt _ hb0
              obtain ⟨r, hr⟩ : ∃ r, r = z % i := ⟨_, rfl⟩
              have hri : r < i := by rw [hr]; exact Nat.mod_lt _ (by omega)
              obtain ⟨kk, hkk⟩ : ∃ kk, kk = 1 + r := ⟨_, rfl⟩
              have hrem1 : (i : Int).tmod (nb : Int) = (m : Int) := by rw [hm, Int.tmod_eq_emod_of_nonneg (by omega)]; rfl
              have HK : Hid (wrap64 (1 + (wrap64 (z : Int)).tmod (i : Int)) = (kk : Int)) := by
                show _ = _
                rw [wrap_small z (Nat.lt_trans hz256 (by decide)), tmod_nat, ← hr]
                have e : (1 + (r : Int)) = ((1 + r : Nat) : Int) := (Int.natCast_add 1 r).symm
                rw [e, hkk]
                exact wrap_small _ (by omega)
              have hkn : kk < n := by omega
              have hk0 : 0 < kk := by omega
              have hki : kk ≤ i := by omega
              rw [← hm] at hcb2
              have hnb0 : ¬ (nb : Int) = 0 := by omega
              have hnb0' : ¬ nb = 0 := by omega
              have HAT2 : Hid (AtI g n (swapF f i kk) (((wr.setCell ⟨g, i, none⟩ (.int .i64 ((f kk : Nat) : Int))).setCell ⟨g, kk, none⟩ (.int .i64 ((f i : Nat) : Int))).drew)) := (hat.out.swap hlt hkn).drew
              have HPF2 : Hid (PermF n (swapF f i kk)) := hpf.out.swap hlt hkn (by omega) hk0
              have HDF2 : Hid (Diff (fun k => k = g) W1 (((wr.setCell ⟨g, i, none⟩ (.int .i64 ((f kk : Nat) : Int))).setCell ⟨g, kk, none⟩ (.int .i64 ((f i : Nat) : Int))).drew)) := (Diff.setCell (Z := fun k => k = g) (p := ⟨g, kk, none⟩) (Diff.setCell (Z := fun k => k = g) (p := ⟨g, i, none⟩) hdf.out rfl _) rfl _).drew
              obtain ⟨x, hx⟩ : ∃ x, x = f i := ⟨_, rfl⟩
              obtain ⟨y, hy⟩ : ∃ y, y = f kk := ⟨_, rfl⟩
              have hca := hat.out.cell hlt
              have hck := hat.out.cell hkn
              have hfa := hat.out.free i
              have hfk := hat.out.free kk
              rw [← hx] at hca HAT2 HDF2
              rw [← hy] at hck HAT2 HDF2
              clear hz hm hr hkk hcb hib hx hy hat hpf hdf hin hri hz256
              by_cases hik : i = kk
              · subst hik
                have hxy : Value.int .i64 (x : Int) = Value.int .i64 (y : Int) := by rw [hca] at hck; injection hck
                injection hxy with _ hxy2
                have hxy3 : x = y := by omega
                subst hxy3
                clear hxy2
                go_upto_region 11 with fail
                rw [HK.out]
                go_region_with (fail)
                all_goals
                  go_wp2
                  go_roundw
                  case rel => exact ⟨i + 1, _, by omega, .inl (by omega), by go_num, HAT2, HPF2, HDF2⟩
                  case measure => simp [intOf]; omega
              · have hik' : ¬ kk = i := fun e => hik e.symm
                go_upto_region 11 with fail
                rw [HK.out]
                go_region_with (fail)
                all_goals
                  go_wp2
                  go_roundw
                  case rel => exact ⟨i + 1, _, by omega, .inl (by omega), by go_num, HAT2, HPF2, HDF2⟩
                  case measure => simp [intOf]; omega
            · have hnb1 : nb = 0 := by omega
              have gb : decide ((0 : Int) < (nb : Int)) = false := decide_eq_false (by omega)
              have gb2 : decide (0 < nb) = false := decide_eq_false (by omega)
              clear hnb1
              go_wp2_with fail
              go_meet
              exact ⟨f, hat, hpf, hdf⟩
          · go_wp2_with fail
            go_meet
            exact ⟨f, hat, hpf, hdf⟩
      case rest =>
        obtain ⟨f, hat, hpf, hdf⟩ := hcut
        have HBc : Hid (Below W0.heap.size W0 wc) := HB1.out.trans (Diff.below hdf.out HB1.out.size (fun k hk e => by omega))
        clear HAt HP0 k1
        obtain ⟨WU, hWU⟩ : ∃ WU, WU = wc := ⟨_, rfl⟩
        subst hWU
        go_wp2_with (at_make; refine wpList_make_row _ rfl _ _ 39 rfl 3 i0 (.int .i64 0) Tryd.underlying39 hi hz0 hz1 rfl .i64 .i64 n rfl rfl (by rw [hz2]; omega) (by omega) ?_)
        have HT1 : Hid (AtI WU.heap.size n (fun _ => 0) (WU.alloc (.cells (madeCells #[.int .i64 0] n) 3))) := AtI.made WU
        obtain ⟨gt, hgt⟩ : ∃ gt, gt = WU.heap.size := ⟨_, rfl⟩
        have HGT := Lib.hid hgt
        rw [← hgt] at HT1 ⊢
        obtain ⟨W2, hW2⟩ : ∃ W2, W2 = WU.alloc (.cells (madeCells #[.int .i64 0] n) 3) := ⟨_, rfl⟩
        have b2 : Below WU.heap.size WU W2 := by rw [hW2]; exact (Below.refl _ _).alloc (Nat.le_refl _) _
        rw [← hW2] at HT1 ⊢
        have HA2 := Lib.hid (hat.out.below b2)
        have HB2' := Lib.hid (HBc.out.trans (b2.mono HBc.out.size))
        have hggt : g ≠ gt := by have := hat.out.lt; omega
        have hgt0 : W0.heap.size ≤ gt := by rw [hgt]; exact HBc.out.size
        clear hgt hW2 b2 hat hdf HBc
        go_wp2_with fail
        go_loopw [12] (fun i wx => ∃ (i' : Nat) (st : Nat → Nat), i' ≤ n ∧ i = .int .i64 i' ∧ Hid (AtI gt n st wx) ∧ Hid (∀ j, j < i' → st (f j) = j) ∧ Hid (Diff (fun k => k = gt) W2 wx)) (fun i _ => n - (intOf i).toNat)
        case atStart => exact ⟨0, _, Nat.zero_le _, rfl, HT1, fun j hj => absurd hj (by omega), Diff.refl _ _⟩
        case round =>
          obtain ⟨i, st, hin, rfl, hst, hiv, hdf⟩ := hrel
          have HAr := Lib.hid (HA2.out.diff hdf.out hggt)
          by_cases hlt : i < n
          · have hca := HAr.out.cell hlt
            obtain ⟨x, hx⟩ : ∃ x, x = f i := ⟨_, rfl⟩
            have hxn : x < n := by rw [hx]; exact hpf.out.lt i hlt
            have HIV := Lib.hid (inv_step hpf.out hlt hiv.out)
            rw [← hx] at hca HIV
            have hct := hst.out.cell hxn
            have hft := hst.out.free x
            have HS2 := Lib.hid (hst.out.set hxn (x := i))
            have HD2 : Hid (Diff (fun k => k = gt) W2 (wr.setCell ⟨gt, x, none⟩ (.int .i64 ((i : Nat) : Int)))) := Diff.setCell (Z := fun k => k = gt) (p := ⟨gt, x, none⟩) hdf.out rfl _
            clear hx hst hiv hdf
            go_wp2
            go_roundw
            case rel => exact ⟨i + 1, _, by omega, by go_num, HS2, HIV, HD2⟩
            case measure => simp [intOf]; omega
          · have hin2 : i = n := by omega
            have HTt : Hid (AtI gt n (invF n f) wr) := by
              rw [hin2] at hiv
              exact hst.out.congr (inv_all hpf.out hiv.out)
            have HB3 : Hid (Below W0.heap.size W0 wr) := HB2'.out.trans (Diff.below hdf.out HB2'.out.size (fun k hk e => by omega))
            obtain ⟨W3, hW3⟩ : ∃ W3, W3 = wr := ⟨_, rfl⟩
            subst hW3
            clear hin2 hst hiv hdf HT1
            obtain ⟨k0, k1, _, _⟩ := KS.out _ HB3.out
            obtain ⟨PT, hPT⟩ : ∃ PT : Nat → List Nat, PT = fun a => (List.range n).filter fun c => t.E (f a) (f c) := ⟨_, rfl⟩
            obtain ⟨LE, hLE⟩ : ∃ LE : Nat → List Value, LE = fun k => (List.range k).map fun j => strV (t.elems.getD (f j) []) := ⟨_, rfl⟩
            obtain ⟨LW, hLW⟩ : ∃ LW : Nat → List Value, LW = fun k => (List.range k).map fun j => Value.bool (t.wrong.getD (f j) false) := ⟨_, rfl⟩
            have HLEl : Hid (∀ k, (LE k).length = k) := fun k => by rw [hLE]; simp
            have HLWl : Hid (∀ k, (LW k).length = k) := fun k => by rw [hLW]; simp
            have HPT := Lib.hid hPT; have HLE := Lib.hid hLE; have HLW := Lib.hid hLW
            obtain ⟨q, hq⟩ : ∃ q, q = W3.heap.size := ⟨_, rfl⟩
            have HQ := Lib.hid hq
            obtain ⟨W4, hW4⟩ : ∃ W4, W4 = W3.alloc (.cells #[.string (mkS t.name), .slice none 0 0, .slice none 0 0, .slice none 0 0] 26) := ⟨_, rfl⟩
            have HS0 : Hid (SlI W3 q (.string (mkS t.name)) (.slice none 0 0) (.slice none 0 0) (LE 0) (LW 0) PT 0 W4) := by
              rw [hW4, hq]
              refine sl_begin' ?_ ?_ (Below.refl _ _)
              · rw [HLEl.out 0, hLE]; exact ⟨rfl, .inl ⟨rfl, rfl⟩⟩
              · rw [HLWl.out 0, hLW]; exact ⟨rfl, .inl ⟨rfl, rfl⟩⟩
            have HW4 := Lib.hid hW4
            clear hPT hLE hLW hq hW4 hin
            go_upto_region 18 with fail
            rw [← HQ.out]
            rw [← HW4.out]
            clear k0 k1
            obtain ⟨_, k1, _, _⟩ := KS.out _ (HB3.out.trans (HS0.out.bel.mono HB3.out.size))
            go_wp2_with fail
            go_loopw [14] (fun i wx => ∃ (i' : Nat) (vE vW : Value), i' ≤ n ∧ i = .int .i64 i' ∧ Hid (SlI W3 q (.string (mkS t.name)) vE vW (LE i') (LW i') PT i' wx)) (fun i _ => n - (intOf i).toNat)
            case atStart => exact ⟨0, _, _, Nat.zero_le _, rfl, HS0⟩
            case round =>
              clear k1
              obtain ⟨i, vE, vW, hin, rfl, hs⟩ := hrel
              have HBr := Lib.hid (HB3.out.trans (hs.out.bel.mono HB3.out.size))
              obtain ⟨k0, k1, k2, k3⟩ := KS.out _ HBr.out
              by_cases hlt : i < n
              · obtain ⟨a, ha⟩ : ∃ a, a = f i := ⟨_, rfl⟩
                have han : a < n := by rw [ha]; exact hpf.out.lt i hlt
                have HAI := Lib.hid ha
                have HAV : Hid (∀ V, Below W3.heap.size W3 V → V.cell? ⟨g, i, none⟩ = some (.int .i64 (a : Int))) := fun V h => by
                  rw [ha]; exact (HAr.out.below h).cell hlt
                clear ha
                go_upto_region 21 with fail
                go_cut [] from 87 to 112 (fun wx => ∃ vE' vW', Hid (SlI W3 q (.string (mkS t.name)) vE' vW' (LE (i + 1)) (LW (i + 1)) PT i wx))
                case first =>
                  obtain ⟨vA, hm0⟩ := TrM.of hs.out
                  obtain ⟨be, oe, rfl, hce⟩ := HT0.out.e.cell (i := a) (by have := HNE.out; omega)
                  obtain ⟨bw, ow, rfl, hcw⟩ := HT0.out.w.cell (i := a) (by have := HNW.out; omega)
                  obtain ⟨nm, hnm⟩ : ∃ x, x = mkS (t.elems.getD a []) := ⟨_, rfl⟩
                  obtain ⟨wv, hwv⟩ : ∃ x, x = t.wrong.getD a false := ⟨_, rfl⟩
                  rw [← hnm] at hce
                  rw [← hwv] at hcw
                  have HLE1 : Hid (LE (i + 1) = LE i ++ [.string nm]) := by show _ = _; rw [HLE.out, hnm, HAI.out]; simp [List.range_succ, strV]
                  have HLW1 : Hid (LW (i + 1) = LW i ++ [.bool wv]) := by show _ = _; rw [HLW.out, hwv, HAI.out]; simp [List.range_succ]
                  have KC : Hid (∀ V, Below W3.heap.size W3 V → V.cell? ⟨U.heap.size, 1, none⟩ = some (.slice (some ⟨be, oe, none⟩) n ce) ∧ V.cell? ⟨U.heap.size, 3, none⟩ = some (.slice (some ⟨bw, ow, none⟩) n cw) ∧ V.cell? ⟨g, i, none⟩ = some (.int .i64 (a : Int)) ∧ V.cell? ⟨be, oe + a, none⟩ = some (.string nm) ∧ V.cell? ⟨bw, ow + a, none⟩ = some (.bool wv)) := fun V h =>
                    ⟨(KS.out V (HB3.out.trans (h.mono HB3.out.size))).2.1, (KS.out V (HB3.out.trans (h.mono HB3.out.size))).2.2.2, HAV.out V h, ((HB3.out.trans (h.mono HB3.out.size)).cell (cell_lt hce)).trans hce, ((HB3.out.trans (h.mono HB3.out.size)).cell (cell_lt hcw)).trans hcw⟩
                  have hq0 : W3.heap.size ≤ q := by rw [HQ.out]; exact Nat.le_refl _
                  have lE := HLEl.out i; have lW := HLWl.out i
                  obtain ⟨p1, c1, rfl⟩ := ownsRow_slice hm0.e
                  obtain ⟨p3, c3, rfl⟩ := ownsRow_slice hm0.w
                  have HM0 := Lib.hid hm0; have HQ0 := Lib.hid hq0; have HLl := Lib.hid lE; have HWl := Lib.hid lW
                  clear hce hcw hnm hwv hm0 hs HBr k0 k1 k2 k3 HAr HTt hpf HB2' hggt hgt0 hq0 lE lW hg0 hg1 hgh hncap
                  refine wp_region_noPanic ?_
                  refine wp_region_two 11 23 (fun u => u.cell? ⟨q, 1, none⟩ = some (.slice p1 (LE i).length c1)) (fun u => u.cell? ⟨q, 3, none⟩ = some (.slice p3 (LW i).length c3)) (Below W3.heap.size W3) (by kernel_rfl) (fun hclo => ?_)
                  have hclo : Clo Region.Mode.any _ #[false, false, false, false, false, false, false, false, false, false, false, false, false, false, false, false, false, false, false, false, false, false, false, false, false, false, false, false] := hclo
                  change AnyL _ _ _ _ _ _ #[false, false, false, false, false, false, false, false, false, false, false, false, false, false, false, false, false, false, false, false, false, false, false, false, false, false, false, false] _ _
                  have hm := HM0.out.drew
                  have hT : ∀ L, Two 11 23 (fun u => u.cell? ⟨q, 1, none⟩ = some (.slice p1 (LE i).length c1)) (fun u => u.cell? ⟨q, 3, none⟩ = some (.slice p3 (LW i).length c3)) (Below W3.heap.size W3) L wr.drew := fun L => ⟨.inr hm.cells.1, .inr hm.cells.2.1, hm.bel⟩
                  have HT := Lib.hid hT
                  have HMM := Lib.hid hm
                  clear hT hm
                  refine AnyL.takeC (i := 0) (v := ?_) rfl (by kernel_rfl) (by kernel_rfl) (by kernel_rfl) (fun _ _ _ h => h) (by decide) (by decide) hclo (Or.inl ⟨by rfl, ?_⟩) (HT.out _) (fun hclo => ?_)
                  rotate_left
                  · intro u hu
                    have d := KC.out u hu
                    have d1 := d.1
                    have d2 := d.2.1
                    have d3 := d.2.2.1
                    have d4 := d.2.2.2.1
                    have d5 := d.2.2.2.2
                    clear d
                    go_simp
                    first | done | with_reducible rfl | exact rfl
                  simp only [Act.put, List.setIfInBounds_toArray, List.set_cons_zero, List.set_cons_succ] at hclo ⊢
                  refine AnyL.takeA (i := 1) (v := ?_) rfl (by kernel_rfl) (by kernel_rfl) (by kernel_rfl) (fun _ _ _ h => h) (by decide) (by decide) (by kernel_rfl) hclo (Or.inl ⟨by rfl, ?_⟩) (HT.out _) (fun hclo => ?_)
                  rotate_left
                  · intro u hu
                    have d1 := hu
                    go_simp
                    first | done | with_reducible rfl | exact rfl
                  simp only [Act.put, List.setIfInBounds_toArray, List.set_cons_zero, List.set_cons_succ] at hclo ⊢
                  refine AnyL.takeC (i := 2) (v := ?_) rfl (by kernel_rfl) (by kernel_rfl) (by kernel_rfl) (fun _ _ _ h => h) (by decide) (by decide) hclo (Or.inl ⟨by rfl, ?_⟩) (HT.out _) (fun hclo => ?_)
                  rotate_left
                  · intro u hu
                    have d := KC.out u hu
                    have d1 := d.1
                    have d2 := d.2.1
                    have d3 := d.2.2.1
                    have d4 := d.2.2.2.1
                    have d5 := d.2.2.2.2
                    clear d
                    go_simp
                    first | done | with_reducible rfl | exact rfl
                  simp only [Act.put, List.setIfInBounds_toArray, List.set_cons_zero, List.set_cons_succ] at hclo ⊢
                  refine AnyL.takeC (i := 3) (v := ?_) rfl (by kernel_rfl) (by kernel_rfl) (by kernel_rfl) (fun _ _ _ h => h) (by decide) (by decide) hclo (Or.inl ⟨by rfl, ?_⟩) (HT.out _) (fun hclo => ?_)
                  rotate_left
                  · intro u hu
                    have d := KC.out u hu
                    have d1 := d.1
                    have d2 := d.2.1
                    have d3 := d.2.2.1
                    have d4 := d.2.2.2.1
                    have d5 := d.2.2.2.2
                    clear d
                    go_simp
                    first | done | with_reducible rfl | exact rfl
                  simp only [Act.put, List.setIfInBounds_toArray, List.set_cons_zero, List.set_cons_succ] at hclo ⊢
                  refine AnyL.takeC (i := 4) (v := ?_) rfl (by kernel_rfl) (by kernel_rfl) (by kernel_rfl) (fun _ _ _ h => h) (by decide) (by decide) hclo (Or.inl ⟨by rfl, ?_⟩) (HT.out _) (fun hclo => ?_)
                  rotate_left
                  · intro u hu
                    have d := KC.out u hu
                    have d1 := d.1
                    have d2 := d.2.1
                    have d3 := d.2.2.1
                    have d4 := d.2.2.2.1
                    have d5 := d.2.2.2.2
                    clear d
                    go_simp
                    first | done | with_reducible rfl | exact rfl
                  simp only [Act.put, List.setIfInBounds_toArray, List.set_cons_zero, List.set_cons_succ] at hclo ⊢
                  refine AnyL.takeC (i := 5) (v := ?_) rfl (by kernel_rfl) (by kernel_rfl) (by kernel_rfl) (fun _ _ _ h => h) (by decide) (by decide) hclo (Or.inl ⟨by rfl, ?_⟩) (HT.out _) (fun hclo => ?_)
                  rotate_left
                  · intro u hu
                    have d := KC.out u hu
                    have d1 := d.1
                    have d2 := d.2.1
                    have d3 := d.2.2.1
                    have d4 := d.2.2.2.1
                    have d5 := d.2.2.2.2
                    clear d
                    go_simp
                    first | done | with_reducible rfl | exact rfl
                  simp only [Act.put, List.setIfInBounds_toArray, List.set_cons_zero, List.set_cons_succ] at hclo ⊢
                  refine AnyL.takeC (i := 6) (v := ?_) rfl (by kernel_rfl) (by kernel_rfl) (by kernel_rfl) (fun _ _ _ h => h) (by decide) (by decide) hclo (Or.inl ⟨by rfl, ?_⟩) (HT.out _) (fun hclo => ?_)
                  rotate_left
                  · intro u hu
                    have d := KC.out u hu
                    have d1 := d.1
                    have d2 := d.2.1
                    have d3 := d.2.2.1
                    have d4 := d.2.2.2.1
                    have d5 := d.2.2.2.2
                    clear d
                    go_simp
                    first | done | with_reducible rfl | exact rfl
                  simp only [Act.put, List.setIfInBounds_toArray, List.set_cons_zero, List.set_cons_succ] at hclo ⊢
                  refine AnyL.takeC (i := 7) (v := ?_) rfl (by kernel_rfl) (by kernel_rfl) (by kernel_rfl) (fun _ _ _ h => h) (by decide) (by decide) hclo (Or.inl ⟨by rfl, ?_⟩) (HT.out _) (fun hclo => ?_)
                  rotate_left
                  · intro u hu
                    have d := KC.out u hu
                    have d1 := d.1
                    have d2 := d.2.1
                    have d3 := d.2.2.1
                    have d4 := d.2.2.2.1
                    have d5 := d.2.2.2.2
                    clear d
                    go_simp
                    first | done | with_reducible rfl | exact rfl
                  simp only [Act.put, List.setIfInBounds_toArray, List.set_cons_zero, List.set_cons_succ] at hclo ⊢
                  refine AnyL.takeC (i := 8) (v := ?_) rfl (by kernel_rfl) (by kernel_rfl) (by kernel_rfl) (fun _ _ _ h => h) (by decide) (by decide) hclo (Or.inl ⟨by rfl, ?_⟩) (HT.out _) (fun hclo => ?_)
                  rotate_left
                  · intro u hu
                    have d := KC.out u hu
                    have d1 := d.1
                    have d2 := d.2.1
                    have d3 := d.2.2.1
                    have d4 := d.2.2.2.1
                    have d5 := d.2.2.2.2
                    clear d
                    go_simp
                    first | done | with_reducible rfl | exact rfl
                  simp only [Act.put, List.setIfInBounds_toArray, List.set_cons_zero, List.set_cons_succ] at hclo ⊢
                  refine AnyL.takeC (i := 9) (v := ?_) rfl (by kernel_rfl) (by kernel_rfl) (by kernel_rfl) (fun _ _ _ h => h) (by decide) (by decide) hclo (Or.inl ⟨by rfl, ?_⟩) (HT.out _) (fun hclo => ?_)
                  rotate_left
                  · intro u hu
                    have d := KC.out u hu
                    have d1 := d.1
                    have d2 := d.2.1
                    have d3 := d.2.2.1
                    have d4 := d.2.2.2.1
                    have d5 := d.2.2.2.2
                    clear d
                    go_simp
                    first | done | with_reducible rfl | exact rfl
                  simp only [Act.put, List.setIfInBounds_toArray, List.set_cons_zero, List.set_cons_succ] at hclo ⊢
                  refine AnyL.takeC (i := 12) (v := ?_) rfl (by kernel_rfl) (by kernel_rfl) (by kernel_rfl) (fun _ _ _ h => h) (by decide) (by decide) hclo (Or.inl ⟨by rfl, ?_⟩) (HT.out _) (fun hclo => ?_)
                  rotate_left
                  · intro u hu
                    have d := KC.out u hu
                    have d1 := d.1
                    have d2 := d.2.1
                    have d3 := d.2.2.1
                    have d4 := d.2.2.2.1
                    have d5 := d.2.2.2.2
                    clear d
                    go_simp
                    first | done | with_reducible rfl | exact rfl
                  simp only [Act.put, List.setIfInBounds_toArray, List.set_cons_zero, List.set_cons_succ] at hclo ⊢
                  refine AnyL.takeB (i := 13) (v := ?_) rfl (by kernel_rfl) (by kernel_rfl) (by kernel_rfl) (fun _ _ _ h => h) (by decide) (by decide) (by kernel_rfl) hclo (Or.inl ⟨by rfl, ?_⟩) (HT.out _) (fun hclo => ?_)
                  rotate_left
                  · intro u hu
                    have d1 := hu
                    go_simp
                    first | done | with_reducible rfl | exact rfl
                  simp only [Act.put, List.setIfInBounds_toArray, List.set_cons_zero, List.set_cons_succ] at hclo ⊢
                  refine AnyL.takeC (i := 14) (v := ?_) rfl (by kernel_rfl) (by kernel_rfl) (by kernel_rfl) (fun _ _ _ h => h) (by decide) (by decide) hclo (Or.inl ⟨by rfl, ?_⟩) (HT.out _) (fun hclo => ?_)
                  rotate_left
                  · intro u hu
                    have d := KC.out u hu
                    have d1 := d.1
                    have d2 := d.2.1
                    have d3 := d.2.2.1
                    have d4 := d.2.2.2.1
                    have d5 := d.2.2.2.2
                    clear d
                    go_simp
                    first | done | with_reducible rfl | exact rfl
                  simp only [Act.put, List.setIfInBounds_toArray, List.set_cons_zero, List.set_cons_succ] at hclo ⊢
                  refine AnyL.takeC (i := 15) (v := ?_) rfl (by kernel_rfl) (by kernel_rfl) (by kernel_rfl) (fun _ _ _ h => h) (by decide) (by decide) hclo (Or.inl ⟨by rfl, ?_⟩) (HT.out _) (fun hclo => ?_)
                  rotate_left
                  · intro u hu
                    have d := KC.out u hu
                    have d1 := d.1
                    have d2 := d.2.1
                    have d3 := d.2.2.1
                    have d4 := d.2.2.2.1
                    have d5 := d.2.2.2.2
                    clear d
                    go_simp
                    first | done | with_reducible rfl | exact rfl
                  simp only [Act.put, List.setIfInBounds_toArray, List.set_cons_zero, List.set_cons_succ] at hclo ⊢
                  refine AnyL.takeC (i := 16) (v := ?_) rfl (by kernel_rfl) (by kernel_rfl) (by kernel_rfl) (fun _ _ _ h => h) (by decide) (by decide) hclo (Or.inl ⟨by rfl, ?_⟩) (HT.out _) (fun hclo => ?_)
                  rotate_left
                  · intro u hu
                    have d := KC.out u hu
                    have d1 := d.1
                    have d2 := d.2.1
                    have d3 := d.2.2.1
                    have d4 := d.2.2.2.1
                    have d5 := d.2.2.2.2
                    clear d
                    go_simp
                    first | done | with_reducible rfl | exact rfl
                  simp only [Act.put, List.setIfInBounds_toArray, List.set_cons_zero, List.set_cons_succ] at hclo ⊢
                  refine AnyL.takeC (i := 17) (v := ?_) rfl (by kernel_rfl) (by kernel_rfl) (by kernel_rfl) (fun _ _ _ h => h) (by decide) (by decide) hclo (Or.inl ⟨by rfl, ?_⟩) (HT.out _) (fun hclo => ?_)
                  rotate_left
                  · intro u hu
                    have d := KC.out u hu
                    have d1 := d.1
                    have d2 := d.2.1
                    have d3 := d.2.2.1
                    have d4 := d.2.2.2.1
                    have d5 := d.2.2.2.2
                    clear d
                    go_simp
                    first | done | with_reducible rfl | exact rfl
                  simp only [Act.put, List.setIfInBounds_toArray, List.set_cons_zero, List.set_cons_succ] at hclo ⊢
                  refine AnyL.takeC (i := 18) (v := ?_) rfl (by kernel_rfl) (by kernel_rfl) (by kernel_rfl) (fun _ _ _ h => h) (by decide) (by decide) hclo (Or.inl ⟨by rfl, ?_⟩) (HT.out _) (fun hclo => ?_)
                  rotate_left
                  · intro u hu
                    have d := KC.out u hu
                    have d1 := d.1
                    have d2 := d.2.1
                    have d3 := d.2.2.1
                    have d4 := d.2.2.2.1
                    have d5 := d.2.2.2.2
                    clear d
                    go_simp
                    first | done | with_reducible rfl | exact rfl
                  simp only [Act.put, List.setIfInBounds_toArray, List.set_cons_zero, List.set_cons_succ] at hclo ⊢
                  refine AnyL.takeC (i := 19) (v := ?_) rfl (by kernel_rfl) (by kernel_rfl) (by kernel_rfl) (fun _ _ _ h => h) (by decide) (by decide) hclo (Or.inl ⟨by rfl, ?_⟩) (HT.out _) (fun hclo => ?_)
                  rotate_left
                  · intro u hu
                    have d := KC.out u hu
                    have d1 := d.1
                    have d2 := d.2.1
                    have d3 := d.2.2.1
                    have d4 := d.2.2.2.1
                    have d5 := d.2.2.2.2
                    clear d
                    go_simp
                    first | done | with_reducible rfl | exact rfl
                  simp only [Act.put, List.setIfInBounds_toArray, List.set_cons_zero, List.set_cons_succ] at hclo ⊢
                  refine AnyL.takeC (i := 20) (v := ?_) rfl (by kernel_rfl) (by kernel_rfl) (by kernel_rfl) (fun _ _ _ h => h) (by decide) (by decide) hclo (Or.inl ⟨by rfl, ?_⟩) (HT.out _) (fun hclo => ?_)
                  rotate_left
                  · intro u hu
                    have d := KC.out u hu
                    have d1 := d.1
                    have d2 := d.2.1
                    have d3 := d.2.2.1
                    have d4 := d.2.2.2.1
                    have d5 := d.2.2.2.2
                    clear d
                    go_simp
                    first | done | with_reducible rfl | exact rfl
                  simp only [Act.put, List.setIfInBounds_toArray, List.set_cons_zero, List.set_cons_succ] at hclo ⊢
                  refine AnyL.takeC (i := 21) (v := ?_) rfl (by kernel_rfl) (by kernel_rfl) (by kernel_rfl) (fun _ _ _ h => h) (by decide) (by decide) hclo (Or.inl ⟨by rfl, ?_⟩) (HT.out _) (fun hclo => ?_)
                  rotate_left
                  · intro u hu
                    have d := KC.out u hu
                    have d1 := d.1
                    have d2 := d.2.1
                    have d3 := d.2.2.1
                    have d4 := d.2.2.2.1
                    have d5 := d.2.2.2.2
                    clear d
                    go_simp
                    first | done | with_reducible rfl | exact rfl
                  simp only [Act.put, List.setIfInBounds_toArray, List.set_cons_zero, List.set_cons_succ] at hclo ⊢
                  have hm := HMM.out
                  clear HMM HT
                  refine AnyL.two (i := 10) (k := 22) (by kernel_rfl) rfl rfl (fun K hK => ?_) (fun K hK => ?_)
                  · unfold StepL
                    have hclo := Clo.up (j := 10) hclo (by kernel_rfl)
                    go_simp
                    refine TrM.next hK (TrM.allocD hm _) (by first | exact .inr rfl | exact .inl rfl) (by first | exact .inr rfl | exact .inl rfl) (fun hm => ?_)
                    have hbE := heap_drew (heap_alloc_at2 wr (Obj.cells #[.string nm] 9))
                    (try simp only [alloc_size, drew_size] at hbE)
                    simp only [Act.put, List.setIfInBounds_toArray, List.set_cons_zero, List.set_cons_succ] at hclo ⊢
                    refine AnyL.two (i := 11) (k := 22) (by kernel_rfl) rfl rfl (fun K hK => ?_) (fun K hK => ?_)
                    · unfold StepL
                      have hclo := Clo.up (j := 11) hclo (by kernel_rfl)
                      refine step_append_sl rfl _ _ 22 9 rfl iS _ 16 Tryd.underlying22 hSi hS0 hS1 hS2 rfl (by decide) W3.heap.size (.slice p1 (LE i).length c1) _ (LE i).length (LE i) [.string nm] rfl hm.e rfl (rd_one1 hbE) (by simp [Value.oneCell']) (by have := HLl.out; have := HWl.out; simp; omega) hm.bel.size (fun P2 C2 w2 ho2 hg2 => ?_)
                      refine TrM.next hK (TrM.appE hm ho2 hg2) (by first | exact .inr rfl | exact .inl rfl) (by first | exact .inr rfl | exact .inl rfl) (fun hm => ?_)
                      simp only [Act.put, List.setIfInBounds_toArray, List.set_cons_zero, List.set_cons_succ] at hclo ⊢
                      refine AnyL.takeC (i := 24) (v := ?_) rfl (by kernel_rfl) (by kernel_rfl) (by kernel_rfl) (fun _ _ _ h => h) (by decide) (by decide) hclo (Or.inl ⟨by rfl, ?_⟩) ⟨.inl rfl, .inr hm.cells.2.1, hm.bel⟩ (fun hclo => ?_)
                      rotate_left
                      · intro u hu
                        go_simp
                        first | done | with_reducible rfl | exact rfl
                      simp only [Act.put, List.setIfInBounds_toArray, List.set_cons_zero, List.set_cons_succ] at hclo ⊢
                      refine AnyL.one (i := 22) (by kernel_rfl) rfl (fun K hK => ?_)
                      unfold StepL
                      have hclo := Clo.up (j := 22) hclo (by kernel_rfl)
                      go_simp
                      refine TrM.next hK (TrM.alloc hm _) (by first | exact .inr rfl | exact .inl rfl) (by first | exact .inr rfl | exact .inl rfl) (fun hm => ?_)
                      have hbW := heap_alloc_at2 w2 (Obj.cells #[.bool wv] 4)
                      (try simp only [alloc_size, drew_size] at hbW)
                      simp only [Act.put, List.setIfInBounds_toArray, List.set_cons_zero, List.set_cons_succ] at hclo ⊢
                      refine AnyL.one (i := 23) (by kernel_rfl) rfl (fun K hK => ?_)
                      unfold StepL
                      have hclo := Clo.up (j := 23) hclo (by kernel_rfl)
                      refine step_append_sl rfl _ _ 24 4 rfl iB _ 1 Tryd.underlying24 hBi hB0 hB1 hB2 rfl (by decide) W3.heap.size (.slice p3 (LW i).length c3) _ (LW i).length (LW i) [.bool wv] rfl hm.w rfl (rd_one1 hbW) (by simp [Value.oneCell']) (by have := HLl.out; have := HWl.out; simp; omega) hm.bel.size (fun P4 C4 w4 ho4 hg4 => ?_)
                      refine TrM.next hK (TrM.appW hm ho4 hg4) (by first | exact .inr rfl | exact .inl rfl) (by first | exact .inr rfl | exact .inl rfl) (fun hm => ?_)
                      simp only [Act.put, List.setIfInBounds_toArray, List.set_cons_zero, List.set_cons_succ] at hclo ⊢
                      have e := hm.cells
                      have e1 := e.1
                      have e3 := e.2.1
                      have e5 := e.2.2.1
                      have e7 := e.2.2.2
                      clear e
                      refine AnyL.one (i := 25) (by kernel_rfl) rfl (fun K hK => ?_)
                      unfold StepL
                      have hclo := Clo.up (j := 25) hclo (by kernel_rfl)
                      go_simp
                      refine TrM.next hK (TrM.setE hm HQ0.out _) (.inl rfl) (.inl rfl) (fun hm => ?_)
                      simp only [Act.put, List.setIfInBounds_toArray, List.set_cons_zero, List.set_cons_succ] at hclo ⊢
                      refine AnyL.takeC (i := 26) (v := ?_) rfl (by kernel_rfl) (by kernel_rfl) (by kernel_rfl) (fun _ _ _ h => h) (by decide) (by decide) hclo (Or.inl ⟨by rfl, ?_⟩) ⟨.inl rfl, .inl rfl, hm.bel⟩ (fun hclo => ?_)
                      rotate_left
                      · intro u hu
                        go_simp
                        first | done | with_reducible rfl | exact rfl
                      simp only [Act.put, List.setIfInBounds_toArray, List.set_cons_zero, List.set_cons_succ] at hclo ⊢
                      refine AnyL.one (i := 27) (by kernel_rfl) rfl (fun K hK => ?_)
                      unfold StepL
                      have hclo := Clo.up (j := 27) hclo (by kernel_rfl)
                      go_simp
                      refine TrM.next hK (TrM.setW hm HQ0.out _) (.inl rfl) (.inl rfl) (fun hm => ?_)
                      simp only [Act.put, List.setIfInBounds_toArray, List.set_cons_zero, List.set_cons_succ] at hclo ⊢
                      refine AnyL.done (by kernel_rfl) ?_ _
                      refine NoPanic.normal ?_
                      go_wp2_with fail
                      go_meet
                      exact ⟨_, _, by rw [HLE1.out, HLW1.out]; exact hm.toSl⟩
                    · unfold StepL
                      have hclo := Clo.up (j := 22) hclo (by kernel_rfl)
                      go_simp
                      refine TrM.next hK (TrM.allocD hm _) (by first | exact .inr rfl | exact .inl rfl) (by first | exact .inr rfl | exact .inl rfl) (fun hm => ?_)
                      have hbE := heap_old_drew (o := (Obj.cells #[.bool wv] 4)) hbE
                      have hbW := heap_drew (heap_alloc_at2 (wr.alloc (Obj.cells #[.string nm] 9)) (Obj.cells #[.bool wv] 4))
                      (try simp only [alloc_size, drew_size] at hbW)
                      simp only [Act.put, List.setIfInBounds_toArray, List.set_cons_zero, List.set_cons_succ] at hclo ⊢
                      refine AnyL.one (i := 11) (by kernel_rfl) rfl (fun K hK => ?_)
                      unfold StepL
                      have hclo := Clo.up (j := 11) hclo (by kernel_rfl)
                      refine step_append_sl rfl _ _ 22 9 rfl iS _ 16 Tryd.underlying22 hSi hS0 hS1 hS2 rfl (by decide) W3.heap.size (.slice p1 (LE i).length c1) _ (LE i).length (LE i) [.string nm] rfl hm.e rfl (rd_one1 hbE) (by simp [Value.oneCell']) (by have := HLl.out; have := HWl.out; simp; omega) hm.bel.size (fun P6 C6 w6 ho6 hg6 => ?_)
                      have hbW := (hg6.block _ (heap_lt hbW) (Lib.ownBlock_ne hm.e hbW (by decide)).symm).trans hbW
                      refine TrM.next hK (TrM.appE hm ho6 hg6) (by first | exact .inr rfl | exact .inl rfl) (by first | exact .inr rfl | exact .inl rfl) (fun hm => ?_)
                      simp only [Act.put, List.setIfInBounds_toArray, List.set_cons_zero, List.set_cons_succ] at hclo ⊢
                      refine AnyL.takeC (i := 24) (v := ?_) rfl (by kernel_rfl) (by kernel_rfl) (by kernel_rfl) (fun _ _ _ h => h) (by decide) (by decide) hclo (Or.inl ⟨by rfl, ?_⟩) ⟨.inl rfl, .inr hm.cells.2.1, hm.bel⟩ (fun hclo => ?_)
                      rotate_left
                      · intro u hu
                        go_simp
                        first | done | with_reducible rfl | exact rfl
                      simp only [Act.put, List.setIfInBounds_toArray, List.set_cons_zero, List.set_cons_succ] at hclo ⊢
                      refine AnyL.one (i := 23) (by kernel_rfl) rfl (fun K hK => ?_)
                      unfold StepL
                      have hclo := Clo.up (j := 23) hclo (by kernel_rfl)
                      refine step_append_sl rfl _ _ 24 4 rfl iB _ 1 Tryd.underlying24 hBi hB0 hB1 hB2 rfl (by decide) W3.heap.size (.slice p3 (LW i).length c3) _ (LW i).length (LW i) [.bool wv] rfl hm.w rfl (rd_one1 hbW) (by simp [Value.oneCell']) (by have := HLl.out; have := HWl.out; simp; omega) hm.bel.size (fun P7 C7 w7 ho7 hg7 => ?_)
                      refine TrM.next hK (TrM.appW hm ho7 hg7) (by first | exact .inr rfl | exact .inl rfl) (by first | exact .inr rfl | exact .inl rfl) (fun hm => ?_)
                      simp only [Act.put, List.setIfInBounds_toArray, List.set_cons_zero, List.set_cons_succ] at hclo ⊢
                      have e := hm.cells
                      have e1 := e.1
                      have e3 := e.2.1
                      have e5 := e.2.2.1
                      have e7 := e.2.2.2
                      clear e
                      refine AnyL.one (i := 25) (by kernel_rfl) rfl (fun K hK => ?_)
                      unfold StepL
                      have hclo := Clo.up (j := 25) hclo (by kernel_rfl)
                      go_simp
                      refine TrM.next hK (TrM.setE hm HQ0.out _) (.inl rfl) (.inl rfl) (fun hm => ?_)
                      simp only [Act.put, List.setIfInBounds_toArray, List.set_cons_zero, List.set_cons_succ] at hclo ⊢
                      refine AnyL.takeC (i := 26) (v := ?_) rfl (by kernel_rfl) (by kernel_rfl) (by kernel_rfl) (fun _ _ _ h => h) (by decide) (by decide) hclo (Or.inl ⟨by rfl, ?_⟩) ⟨.inl rfl, .inl rfl, hm.bel⟩ (fun hclo => ?_)
                      rotate_left
                      · intro u hu
                        go_simp
                        first | done | with_reducible rfl | exact rfl
                      simp only [Act.put, List.setIfInBounds_toArray, List.set_cons_zero, List.set_cons_succ] at hclo ⊢
                      refine AnyL.one (i := 27) (by kernel_rfl) rfl (fun K hK => ?_)
                      unfold StepL
                      have hclo := Clo.up (j := 27) hclo (by kernel_rfl)
                      go_simp
                      refine TrM.next hK (TrM.setW hm HQ0.out _) (.inl rfl) (.inl rfl) (fun hm => ?_)
                      simp only [Act.put, List.setIfInBounds_toArray, List.set_cons_zero, List.set_cons_succ] at hclo ⊢
                      refine AnyL.done (by kernel_rfl) ?_ _
                      refine NoPanic.normal ?_
                      go_wp2_with fail
                      go_meet
                      exact ⟨_, _, by rw [HLE1.out, HLW1.out]; exact hm.toSl⟩
                  · unfold StepL
                    have hclo := Clo.up (j := 22) hclo (by kernel_rfl)
                    go_simp
                    refine TrM.next hK (TrM.allocD hm _) (by first | exact .inr rfl | exact .inl rfl) (by first | exact .inr rfl | exact .inl rfl) (fun hm => ?_)
                    have hbW := heap_drew (heap_alloc_at2 wr (Obj.cells #[.bool wv] 4))
                    (try simp only [alloc_size, drew_size] at hbW)
                    simp only [Act.put, List.setIfInBounds_toArray, List.set_cons_zero, List.set_cons_succ] at hclo ⊢
                    refine AnyL.one (i := 10) (by kernel_rfl) rfl (fun K hK => ?_)
                    unfold StepL
                    have hclo := Clo.up (j := 10) hclo (by kernel_rfl)
                    go_simp
                    refine TrM.next hK (TrM.allocD hm _) (by first | exact .inr rfl | exact .inl rfl) (by first | exact .inr rfl | exact .inl rfl) (fun hm => ?_)
                    have hbW := heap_old_drew (o := (Obj.cells #[.string nm] 9)) hbW
                    have hbE := heap_drew (heap_alloc_at2 (wr.alloc (Obj.cells #[.bool wv] 4)) (Obj.cells #[.string nm] 9))
                    (try simp only [alloc_size, drew_size] at hbE)
                    simp only [Act.put, List.setIfInBounds_toArray, List.set_cons_zero, List.set_cons_succ] at hclo ⊢
                    refine AnyL.one (i := 11) (by kernel_rfl) rfl (fun K hK => ?_)
                    unfold StepL
                    have hclo := Clo.up (j := 11) hclo (by kernel_rfl)
                    refine step_append_sl rfl _ _ 22 9 rfl iS _ 16 Tryd.underlying22 hSi hS0 hS1 hS2 rfl (by decide) W3.heap.size (.slice p1 (LE i).length c1) _ (LE i).length (LE i) [.string nm] rfl hm.e rfl (rd_one1 hbE) (by simp [Value.oneCell']) (by have := HLl.out; have := HWl.out; simp; omega) hm.bel.size (fun P10 C10 w10 ho10 hg10 => ?_)
                    have hbW := (hg10.block _ (heap_lt hbW) (Lib.ownBlock_ne hm.e hbW (by decide)).symm).trans hbW
                    refine TrM.next hK (TrM.appE hm ho10 hg10) (by first | exact .inr rfl | exact .inl rfl) (by first | exact .inr rfl | exact .inl rfl) (fun hm => ?_)
                    simp only [Act.put, List.setIfInBounds_toArray, List.set_cons_zero, List.set_cons_succ] at hclo ⊢
                    refine AnyL.takeC (i := 24) (v := ?_) rfl (by kernel_rfl) (by kernel_rfl) (by kernel_rfl) (fun _ _ _ h => h) (by decide) (by decide) hclo (Or.inl ⟨by rfl, ?_⟩) ⟨.inl rfl, .inr hm.cells.2.1, hm.bel⟩ (fun hclo => ?_)
                    rotate_left
                    · intro u hu
                      go_simp
                      first | done | with_reducible rfl | exact rfl
                    simp only [Act.put, List.setIfInBounds_toArray, List.set_cons_zero, List.set_cons_succ] at hclo ⊢
                    refine AnyL.one (i := 23) (by kernel_rfl) rfl (fun K hK => ?_)
                    unfold StepL
                    have hclo := Clo.up (j := 23) hclo (by kernel_rfl)
                    refine step_append_sl rfl _ _ 24 4 rfl iB _ 1 Tryd.underlying24 hBi hB0 hB1 hB2 rfl (by decide) W3.heap.size (.slice p3 (LW i).length c3) _ (LW i).length (LW i) [.bool wv] rfl hm.w rfl (rd_one1 hbW) (by simp [Value.oneCell']) (by have := HLl.out; have := HWl.out; simp; omega) hm.bel.size (fun P11 C11 w11 ho11 hg11 => ?_)
                    refine TrM.next hK (TrM.appW hm ho11 hg11) (by first | exact .inr rfl | exact .inl rfl) (by first | exact .inr rfl | exact .inl rfl) (fun hm => ?_)
                    simp only [Act.put, List.setIfInBounds_toArray, List.set_cons_zero, List.set_cons_succ] at hclo ⊢
                    have e := hm.cells
                    have e1 := e.1
                    have e3 := e.2.1
                    have e5 := e.2.2.1
                    have e7 := e.2.2.2
                    clear e
                    refine AnyL.one (i := 25) (by kernel_rfl) rfl (fun K hK => ?_)
                    unfold StepL
                    have hclo := Clo.up (j := 25) hclo (by kernel_rfl)
                    go_simp
                    refine TrM.next hK (TrM.setE hm HQ0.out _) (.inl rfl) (.inl rfl) (fun hm => ?_)
                    simp only [Act.put, List.setIfInBounds_toArray, List.set_cons_zero, List.set_cons_succ] at hclo ⊢
                    refine AnyL.takeC (i := 26) (v := ?_) rfl (by kernel_rfl) (by kernel_rfl) (by kernel_rfl) (fun _ _ _ h => h) (by decide) (by decide) hclo (Or.inl ⟨by rfl, ?_⟩) ⟨.inl rfl, .inl rfl, hm.bel⟩ (fun hclo => ?_)
                    rotate_left
                    · intro u hu
                      go_simp
                      first | done | with_reducible rfl | exact rfl
                    simp only [Act.put, List.setIfInBounds_toArray, List.set_cons_zero, List.set_cons_succ] at hclo ⊢
                    refine AnyL.one (i := 27) (by kernel_rfl) rfl (fun K hK => ?_)
                    unfold StepL
                    have hclo := Clo.up (j := 27) hclo (by kernel_rfl)
                    go_simp
                    refine TrM.next hK (TrM.setW hm HQ0.out _) (.inl rfl) (.inl rfl) (fun hm => ?_)
                    simp only [Act.put, List.setIfInBounds_toArray, List.set_cons_zero, List.set_cons_succ] at hclo ⊢
                    refine AnyL.done (by kernel_rfl) ?_ _
                    refine NoPanic.normal ?_
                    go_wp2_with fail
                    go_meet
                    exact ⟨_, _, by rw [HLE1.out, HLW1.out]; exact hm.toSl⟩
                case rest =>
                  clear k0 k1 k2 k3 hs HBr
                  obtain ⟨vE', vW', hs⟩ := hcut
                  obtain ⟨Wi, hWi⟩ : ∃ Wi, Wi = wc := ⟨_, rfl⟩
                  subst hWi
                  have HBi := Lib.hid (HB3.out.trans (hs.out.bel.mono HB3.out.size))
                  obtain ⟨L, hL⟩ : ∃ L, L = t.above.getD a [] := ⟨_, rfl⟩
                  obtain ⟨ba, oa, qa, cq, rfl, hca, hrow⟩ := HT0.out.a.cell (i := a) (by have := HNA.out; omega)
                  rw [← hL] at hca hrow
                  obtain ⟨m, hm⟩ : ∃ m, m = L.length := ⟨_, rfl⟩
                  rw [← hm] at hca hrow
                  have hm12 : m ≤ 12 := by rw [hm, hL]; exact above_len HF.out a
                  have HEX : Hid (∀ k, k < m → ∃ x : Nat, L.getD k 0 = x ∧ x < n) := fun k hk => by
                    have hasc := frm_asc HF.out (a := a) (by have := HNA.out; omega)
                    have hk2 : k < (t.above.getD a []).length := by rw [← hL, ← hm]; exact hk
                    have hmm : (t.above.getD a []).getD k 0 ∈ t.above.getD a [] := getD_in hk2
                    have := asc_mem hasc hmm
                    have h2 := HNE.out
                    exact ⟨((t.above.getD a []).getD k 0).toNat, by rw [hL]; omega, by omega⟩
                  have HON : Hid (∀ k, k < m → L.getD k 0 ∉ L.take k) := fun k hk => by
                    rw [hL]
                    exact asc_once (frm_asc HF.out (a := a) (by have := HNA.out; omega)) (by rw [← hL, ← hm]; exact hk)
                  have HCA := Lib.hid hca; have HROW := Lib.hid hrow; have HL := Lib.hid hL; have HM := Lib.hid hm
                  have HTV : Hid (∀ V x, Below W3.heap.size W3 V → x < n → V.cell? ⟨gt, x, none⟩ = some (.int .i64 ((invF n f x : Nat) : Int))) := fun V x h hx => (HTt.out.below h).cell hx
                  have HW3i := Lib.hid hs.out.bel
                  clear hL hm hca hrow
                  obtain ⟨_, k1, _, _⟩ := KS.out _ HBi.out
                  go_wp2_with fail
                  go_loopw [15, 16] (fun l c wx => ∃ c' : Nat, c' ≤ n ∧ c = .int .i64 c' ∧ Hid (wx.ownsRow Wi.heap.size 3 1 l (rowK t f a c' 0).length ((ints (rowK t f a c' 0)).map (Value.int .i64))) ∧ Hid (Below Wi.heap.size Wi wx)) (fun _ c _ => n - (intOf c).toNat)
                  case atStart => exact ⟨0, Nat.zero_le _, rfl, by show World.ownsRow _ _ _ _ _ _ _; rw [rowK_start]; exact ⟨rfl, .inl ⟨rfl, rfl⟩⟩, Below.refl _ _⟩
                  case round =>
                    clear k1
                    obtain ⟨c, hcn, rfl, hrw, hb⟩ := hrel
                    obtain ⟨p15, c15, rfl⟩ := ownsRow_slice hrw.out
                    have HB4 := Lib.hid (HBi.out.trans (hb.out.mono HBi.out.size))
                    by_cases hltc : c < n
                    · go_wp2_with fail
                      go_loopw [15, 17] (fun l k wx => ∃ k' : Nat, k' ≤ m ∧ k = .int .i64 k' ∧ Hid (wx.ownsRow Wi.heap.size 3 1 l (rowK t f a c k').length ((ints (rowK t f a c k')).map (Value.int .i64))) ∧ Hid (Below Wi.heap.size Wi wx)) (fun _ k _ => m - (intOf k).toNat)
                      case atStart => exact ⟨0, Nat.zero_le _, rfl, hrw, hb⟩
                      case round =>
                        clear hrw hb HB4
                        obtain ⟨k, hkm, rfl, hrw, hb⟩ := hrel
                        obtain ⟨p15, c15, rfl⟩ := ownsRow_slice hrw.out
                        have HB4 := Lib.hid (HBi.out.trans (hb.out.mono HBi.out.size))
                        have HB5 := Lib.hid (HW3i.out.trans (hb.out.mono HW3i.out.size))
                        obtain ⟨_, _, k2, _⟩ := KS.out _ HB4.out
                        have hat := HAV.out _ HB5.out
                        have hca := (HB4.out.cell (cell_lt HCA.out)).trans HCA.out
                        by_cases hltk : k < m
                        · obtain ⟨bq, oq, rfl, hcq0⟩ := HROW.out.cell (i := k) (by rw [← HM.out]; exact hltk)
                          obtain ⟨x, hx, hxn⟩ := HEX.out k hltk
                          rw [hx] at hcq0
                          have hcq := (HB4.out.cell (cell_lt hcq0)).trans hcq0
                          have hct := HTV.out _ x HB5.out hxn
                          obtain ⟨y, hy⟩ : ∃ y, y = invF n f x := ⟨_, rfl⟩
                          rw [← hy] at hct
                          have HLT := Lib.hid hrw.out.lt
                          have hsz := hb.out.size
                          have hlen := rowK_len t f a c k
                          by_cases hyc : y = c
                          · have HR : Hid (rowK t f a c (k + 1) = rowK t f a c k ++ [c]) := by
                              show _ = _
                              have hxc : x = f c := by
                                rw [← hyc, hy]
                                exact (hpf.out.turn.at1 x hxn).symm
                              have hkl : k < (t.above.getD a []).length := by rw [← HL.out, ← HM.out]; exact hltk
                              have h1 : (t.above.getD a []).getD k 0 = (f c : Nat) := by rw [← HL.out, hx, hxc]
                              refine rowK_yes hkl h1 ?_
                              have h2 := HON.out k hltk
                              rw [← h1, ← HL.out]; exact h2
                            have gy : ((y : Int) == (c : Int)) = true := by rw [beq_iff_eq]; omega
                            clear hy hx hyc hcq0
                            go_wp2
                            go_quiet (fail)
                            go_wp2
                            go_quiet (fail)
                            go_wp2_with (at_builtin; refine wpList_append_own _ rfl _ _ 39 rfl Wi.heap.size 3 i0 (.int .i64 0) 1 8 Tryd.underlying39 hi hz0 hz1 hz2 rfl (by decide) _ _ _ rfl ((ownsRow_below hrw.out (below_drewAt _ _ _)).alloc _) ⟨wr.heap.size, 0, none⟩ 1 1 [.int .i64 (c : Int)] rfl rfl ?c1 ?c2 (by unfold maxLen; omega) (by omega) (by simp; omega) ?_)
                            case c1 =>
                              intro j u hj
                              match j, hj with
                              | 0, hj =>
                                simp at hj; subst hj
                                show (wr.alloc (Obj.cells #[Value.int .i64 (c : Int)] 3)).cell? (Addr.add ⟨wr.heap.size, 0, none⟩ 0) = _
                                simp [Addr.add]
                            case c2 => intro u hu; simp at hu; subst hu; rfl
                            intro v' w' hown' hgrow _
                            have HB9 : Hid (Below Wi.heap.size Wi w') := Below.grown (Below.alloc (hb.out.trans (below_drewAt _ _ _)) hb.out.size _) hgrow (by simp; omega) (fun j hj => (HLT.out j hj).1)
                            have HR9 : Hid (w'.ownsRow Wi.heap.size 3 1 v' (rowK t f a c (k + 1)).length ((ints (rowK t f a c (k + 1))).map (Value.int .i64))) := by
                              show World.ownsRow _ _ _ _ _ _ _
                              rw [HR.out]
                              simpa [ints] using hown'
                            clear hown' hgrow
                            go_wp2
                            go_roundw
                            case rel => exact ⟨k + 1, by omega, by go_num, HR9, HB9⟩
                            case measure => simp [intOf]; omega
                          · have HR : Hid (rowK t f a c (k + 1) = rowK t f a c k) := by
                              show _ = _
                              have hkl : k < (t.above.getD a []).length := by rw [← HL.out, ← HM.out]; exact hltk
                              refine rowK_no hkl (fun h1 => hyc ?_)
                              have h2 : x = f c := by rw [← HL.out, hx] at h1; omega
                              rw [hy, h2]
                              exact invF_at hpf.out hltc
                            have gy : ((y : Int) == (c : Int)) = false := by rw [beq_eq_false_iff_ne]; omega
                            clear hy hx hyc hcq0
                            go_wp2
                            go_quiet (fail)
                            go_wp2
                            go_quiet (fail)
                            go_wp2
                            go_roundw
                            case rel => exact ⟨k + 1, by omega, by go_num, by rw [HR.out]; exact ownsRow_below hrw.out (below_drewAt _ _ _), hb.out.trans (below_drewAt _ _ _)⟩
                            case measure => simp [intOf]; omega
                        · have hkn : k = m := by omega
                          have HR : Hid (rowK t f a c k = rowK t f a (c + 1) 0) := by
                            show _ = _
                            rw [rowK_end t f a c k (by rw [← HL.out, ← HM.out]; omega), rowK_start]
                          clear hkn
                          go_wp2
                          go_quiet (fail)
                          go_wp2
                          go_roundw
                          case rel => exact ⟨c + 1, by omega, by go_num, by rw [← HR.out]; exact ownsRow_below hrw.out (below_drewAt _ _ _), hb.out.trans (below_drewAt _ _ _)⟩
                          case measure => simp [intOf]; omega
                    · have hcn2 : c = n := by omega
                      have HR : Hid (rowK t f a c 0 = PT i) := by
                        show _ = _
                        rw [rowK_start, hcn2, HPT.out, HAI.out]
                      rw [HR.out] at hrw ⊢
                      obtain ⟨vA, hqb, hA⟩ := hs.out.row
                      obtain ⟨xs, hown, hxs⟩ := hA.row
                      obtain ⟨pA, cA, rfl⟩ := ownsRow_slice hown
                      have hqr := heap_below hb.out hqb
                      obtain ⟨⟨_, _, r2, _⟩, _⟩ := four_cells hqr
                      have HQB := Lib.hid hqr; have HOW := Lib.hid (ownsRow_below hown hb.out)
                      have HXS : Hid (∀ i (h : i < xs.length), wr.ownsRow 0 3 1 xs[i] (PT i).length ((ints (PT i)).map (Value.int .i64))) := fun j hj => ownsRow_below (hxs j hj) hb.out
                      have HSr : Hid (SlI W3 q (.string (mkS t.name)) vE' vW' (LE (i + 1)) (LW (i + 1)) PT i wr) := ⟨⟨_, hqr, hA.below hb.out⟩, ownsRow_below hs.out.e hb.out, ownsRow_below hs.out.w hb.out, hs.out.bel.trans (hb.out.mono hs.out.bel.size)⟩
                      obtain ⟨_, k1, _, _⟩ := KS.out _ HB4.out
                      have hsz := HSr.out.bel.size
                      have lq : q < wr.heap.size := heap_lt hqr
                      clear hcn2 hqb hA hown hxs hqr
                      go_wp2_with (at_builtin; refine wpList_append_own _ rfl _ _ 23 rfl W3.heap.size 39 iII (.slice none 0 0) 1 24 Tryd.underlying23 hJi hJ0 hJ1 hJ2 rfl (by decide) _ _ _ rfl (HOW.out.alloc _) ⟨wr.heap.size, 0, none⟩ 1 1 [.slice p15 (PT i).length c15] rfl rfl ?c1 ?c2 (by unfold maxLen; omega) (by omega) (by simp; omega) ?_)
                      case c1 => intro j u hj; match j, hj with | 0, hj => (simp at hj; subst hj; simp [Addr.add])
                      case c2 => intro u hu; simp at hu; subst hu; rfl
                      intro v' w' hown' hgrow _
                      have hal : Below wr.heap.size wr (wr.alloc (.cells #[Value.slice p15 (PT i).length c15] 39)) := (Below.refl _ _).alloc (Nat.le_refl _) _
                      have hqO := grown_heap HQB.out hal HOW.out (by decide) hgrow
                      have hcO : w'.cell? ⟨q, 2, none⟩ = some (.slice pA i cA) := (four_cells hqO).1.2.2.1
                      have hfO : w'.frozen? ⟨q, 2, none⟩ = false := Go.Joins.unfrozen_of_block hqO 2
                      obtain ⟨pO, cO, rfl⟩ := ownsRow_slice hown'
                      have HSN := Lib.hid (SlI.step HSr.out HQB.out HOW.out HXS.out (by have := HQ.out; omega) hal (ownsRow_base (ownsRow_below hrw.out hal) (Nat.zero_le _)) hown' hgrow)
                      clear hqO hown' hgrow hal
                      go_wp2
                      go_roundw
                      case rel => exact ⟨i + 1, _, _, by omega, by go_num, HSN⟩
                      case measure => simp [intOf]; omega
              · have hin2 : i = n := by omega
                have eLE : LE n = (turnT t f).elems.map strV := by rw [HLE.out, HN.out]; simp [turnT, List.map_map]
                have eLW : LW n = (turnT t f).wrong.map Value.bool := by rw [HLW.out, HN.out]; simp [turnT, List.map_map]
                have hs2 : Hid (SlI W3 q (.string (mkS t.name)) vE vW ((turnT t f).elems.map strV) ((turnT t f).wrong.map Value.bool) PT n wr) := by
                  rw [hin2] at hs
                  show SlI _ _ _ _ _ _ _ _ _ _
                  rw [← eLE, ← eLW]; exact hs.out
                obtain ⟨vA, hqb, hA⟩ := hs2.out.row
                obtain ⟨⟨r0, r1, r2, r3⟩, _⟩ := four_cells hqb
                obtain ⟨pE, cE, rfl⟩ := ownsRow_slice hs2.out.e
                obtain ⟨pW, cW, rfl⟩ := ownsRow_slice hs2.out.w
                obtain ⟨pA, cA, rfl⟩ := hA.form
                have hzr := heap_below HBr.out Z0.out
                obtain ⟨⟨y0, y1, y2, y3⟩, g0, g1, g2, g3⟩ := four_cells hzr
                have HZR := Lib.hid hzr; have HAA := Lib.hid hA
                have HTr := Lib.hid (HTt.out.below hs2.out.bel)
                obtain ⟨lE, hlE⟩ : ∃ x, x = ((turnT t f).elems.map strV).length := ⟨_, rfl⟩
                obtain ⟨lW, hlW⟩ : ∃ x, x = ((turnT t f).wrong.map Value.bool).length := ⟨_, rfl⟩
                rw [← hlE] at r1 hs2
                rw [← hlW] at r3 hs2
                have HEn := Lib.hid hlE; have HWn := Lib.hid hlW
                clear hqb hA hzr hin2 eLE eLW hs hlE hlW
                go_wp2
                change bodyPost _ _ _ _ _ (set4 wr (U.heap.size + 1) (.string (mkS t.name)) (.slice pE lE cE) (.slice pA n cA) (.slice pW lW cW))
                obtain ⟨WF, hWF⟩ : ∃ WF, WF = set4 wr (U.heap.size + 1) (.string (mkS t.name)) (.slice pE lE cE) (.slice pA n cA) (.slice pW lW cW) := ⟨_, rfl⟩
                rw [← hWF]
                have hzF := set4_heap (x0 := .string (mkS t.name)) (x1 := .slice pE lE cE) (x2 := .slice pA n cA) (x3 := .slice pW lW cW) HZR.out
                rw [← hWF] at hzF
                have HWF := Lib.hid hWF
                obtain ⟨⟨v0, v1, v2, v3⟩, _⟩ := four_cells hzF
                clear hWF hzF
                refine bodyPost_ret (v := .tuple #[.agg #[.string (mkS t.name), .slice pE lE cE, .slice pA n cA, .slice pW lW cW], .slice (some ⟨gt, 0, none⟩) n n]) (by simp [results, Tryd.results56, go_sem, v0, v1, v2, v3]) rfl ⟨.slice pE lE cE, .slice pA n cA, .slice pW lW cW, .slice (some ⟨gt, 0, none⟩) n n, f, invF n f, rfl, ?_, ?_, ?_, ?_⟩
                · rw [HWF.out]
                  have hn2 := HN.out
                  have hEl := HEn.out; have hWl := HWn.out
                  refine SlI.done (T := turnT t f) hs2.out HAA.out HZR.out (by simp [turnT]; exact hn2) (fun i hi => ?_) (fun i hi => ?_) (by simp [turnT]; omega) (by omega) (by simp [turnT]; omega)
                  · rw [HPT.out, hn2]
                    exact getD_map_range _ _ _ _ (by omega)
                  · rw [HPT.out]
                    have := List.length_filter_le (fun c => t.E (f i) (f c)) (List.range n)
                    rw [List.length_range] at this
                    show ((List.range n).filter fun c => t.E (f i) (f c)).length ≤ 20
                    omega
                · rw [HWF.out, ← HN.out]
                  exact (HTr.out.set4 HZR.out).rd (by omega) (Nat.le_refl _)
                · rw [← HN.out]; exact hpf.out.turn
                · rw [HWF.out]
                  exact below_set4 (HB0.out.trans (HBr.out.mono HB0.out.size)) (Nat.le_succ _)

theorem turned_all (HJ : JoinOk) (t : Tab) (ve va vw : Value) (bs : List Nat) (vb : Value) (w : World) (hT : TabIn w ve va vw t) (hnm : t.name.length ≤ 281474976710656) (hvb : RdU w vb bs) (hLd : LaidOk w) :
    Calls Tryd.prog 13 #[tabV t ve va vw, vb] w fun e w' => e = .returned (.bool true) ∧ Below w.heap.size w w' :=
  turned_any HJ t ve va vw bs vb w hT hnm hvb hLd fun hf => turned_ok t bs w hf
end Go.Proofs.YtmooikdodbjgpaaDoor.Or
