/- OrderHigh is true of every table and all bytes. -/
import Derived.Test.YtmooikdodbjgpaaDoorOrGa
import Derived.Test.YtmooikdodbjgpaaDoorOrHa
import Derived.Test.YtmooikdodbjgpaaDoorOrFa
import Derived.Deep.Cut
import Derived.Deep.CutRange
set_option linter.unusedVariables false
set_option linter.unusedSimpArgs false
namespace Go.Proofs.YtmooikdodbjgpaaDoor.Or
open Go.RowKit Go.Shelf

/-- A slice of bytes. -/
def RdU (w : World) (v : Value) (bs : List Nat) : Prop := Rd w v (bs.map fun x : Nat => Value.int .u8 (x : Int)) ∧ ∀ x ∈ bs, x < 256
def stA (n : Nat) (st : Nat → Nat) : Array Value := ((List.range n).map fun i => Value.int .i64 ((st i : Nat) : Int)).toArray
theorem st_made (n : Nat) : madeCells #[.int .i64 0] n = stA n (fun _ => 0) := by
  apply Array.ext'
  simp [madeCells, stA, Nat.mod_one]
theorem st_get {n : Nat} {st : Nat → Nat} {y : Nat} (hy : y < n) : (stA n st)[y]? = some (.int .i64 ((st y : Nat) : Int)) := by simp [stA, hy]
theorem st_set {n : Nat} {st : Nat → Nat} {y x : Nat} (hy : y < n) : (stA n st).setIfInBounds y (.int .i64 (x : Int)) = stA n (fun z => if z = y then x else st z) := by
  apply Array.ext
  · simp [stA]
  · intro i h1 h2
    simp only [stA, Array.size_setIfInBounds, List.size_toArray, List.length_map, List.length_range] at h1 h2
    rw [Array.getElem_setIfInBounds (by simpa [stA] using h1)]
    by_cases e : y = i
    · subst e; simp [stA]
    · have : ¬ i = y := fun h => e h.symm
      simp [stA, e, this]
theorem bel_ne {R : Nat → Nat → Bool} {c a : Nat} (h : c ≠ a) : bel R c a = R c a := by
  unfold bel; rw [show (c == a) = false from by simp [h]]; rfl

/-- The row of steps, in a block of its own. -/
structure HiI (WU : World) (n : Nat) (st : Nat → Nat) (wr : World) : Prop where
  cells : wr.heap[WU.heap.size]? = some (.cells (stA n st) 3 (0, 0))
  bel : Below WU.heap.size WU wr
theorem HiI.below {WU wr w' : World} {n : Nat} {st : Nat → Nat} (h : HiI WU n st wr) (hb : Below wr.heap.size wr w') : HiI WU n st w' :=
  ⟨heap_below hb h.cells, h.bel.trans (hb.mono (Nat.le_of_lt (heap_lt h.cells)))⟩
theorem HiI.set {WU wr : World} {n y x : Nat} {st : Nat → Nat} (h : HiI WU n st wr) (hy : y < n) : HiI WU n (fun z => if z = y then x else st z) (wr.setCell ⟨WU.heap.size, y, none⟩ (.int .i64 (x : Int))) :=
  ⟨by rw [setCell_heap h.cells, st_set hy], h.bel.setCell (Nat.le_refl _) _⟩
theorem HiI.drew {WU wr : World} {n : Nat} {st : Nat → Nat} (h : HiI WU n st wr) : HiI WU n st wr.drew := ⟨h.cells, h.bel.drew⟩

set_option maxRecDepth 100000 in
set_option maxHeartbeats 16000000 in
theorem high_any (HJ : JoinOk) (t : Tab) (ve va vw : Value) (bs : List Nat) (vb : Value) (w : World) (hT : TabIn w ve va vw t) (hnm : t.name.length ≤ 281474976710656) (hvb : RdU w vb bs) (hLd : LaidOk w) :
    Calls Tryd.prog 11 #[tabV t ve va vw, vb] w fun e w' => e = .returned (.bool true) ∧ Below w.heap.size w w' := by
  have H := lat_calls HJ t ve va vw w hT hnm hLd
  obtain ⟨i0, hi, hz0, hz1, hz2⟩ := info_parts infoI
  obtain ⟨W1, hW1⟩ : ∃ W1, W1 = (w.alloc (Obj.cells #[.string (mkS t.name), ve, va, vw] 26)) := ⟨_, rfl⟩
  have b1 : Below w.heap.size w W1 := by rw [hW1]; exact (Below.refl _ _).alloc (Nat.le_refl _) _
  have c0 : W1.cell? ⟨w.heap.size, 0, none⟩ = some (.string (mkS t.name)) := by rw [hW1]; simp [go_sem]
  have c1 : W1.cell? ⟨w.heap.size, 1, none⟩ = some ve := by rw [hW1]; simp [go_sem]
  have c2 : W1.cell? ⟨w.heap.size, 2, none⟩ = some va := by rw [hW1]; simp [go_sem]
  have c3 : W1.cell? ⟨w.heap.size, 3, none⟩ = some vw := by rw [hW1]; simp [go_sem]
  have CT := Lib.hid (H.right W1 b1)
  have CA := Lib.hid H.awake
  have HW1 := Lib.hid hW1; have HB1 := Lib.hid b1
  obtain ⟨n, hn⟩ : ∃ n, n = t.elems.length := ⟨_, rfl⟩
  obtain ⟨pe, ce, rfl⟩ := hT.e.form
  obtain ⟨pa, ca, rfl⟩ := hT.a.form
  obtain ⟨pw, cw, rfl⟩ := hT.w.form
  obtain ⟨pb, cb, rfl⟩ := hvb.1.form
  obtain ⟨l, hl'⟩ : ∃ l, l = bs.length := ⟨_, rfl⟩
  have hbl := hvb.1.len
  have hvb1 := hvb.1
  rw [List.length_map, ← hl'] at hbl hvb1 ⊢
  have HVB := Lib.hid hvb1
  have H256 := Lib.hid hvb.2
  have HL := Lib.hid hl'
  rw [← hn] at c1
  cases hr : (thinF t && decide (latE t [] = 0)) with
  | false =>
    rw [hr] at CT
    unfold tabV at CT ⊢
    clear hr H hT hnm hLd hW1 b1 hn c0 c1 c2 c3 hvb hvb1 hl'
    go_enter Tryd.func11, Tryd.ntmps11
    go_wp2_with fail
    rw [← HW1.out]
    refine CT.out.mono ?_
    rintro e w2 ⟨rfl, hb⟩
    have HB2 := Lib.hid (HB1.out.trans (hb.mono HB1.out.size))
    clear hb
    go_wp2_with fail
    refine (CA.out _ HB2.out).mono ?_
    rintro e w3 ⟨rfl, hb⟩
    have HB3 := Lib.hid (HB2.out.trans (hb.mono HB2.out.size))
    clear hb
    go_wp2
    go_ret
    exact ⟨rfl, HB3.out⟩
  | true =>
    rw [hr] at CT
    by_cases hl40 : 40 < l
    · have g0 : decide ((40 : Int) < (l : Int)) = true := decide_eq_true (by omega)
      unfold tabV at CT ⊢
      clear hr H hT hnm hLd hW1 b1 hn c0 c1 c2 c3 hvb hvb1 hl' hl40
      go_enter Tryd.func11, Tryd.ntmps11
      go_wp2_with fail
      rw [← HW1.out]
      refine CT.out.mono ?_
      rintro e w2 ⟨rfl, hb⟩
      have HB2 := Lib.hid (HB1.out.trans (hb.mono HB1.out.size))
      clear hb
      go_wp2_with fail
      refine (CA.out _ HB2.out).mono ?_
      rintro e w3 ⟨rfl, hb⟩
      have HB3 := Lib.hid (HB2.out.trans (hb.mono HB2.out.size))
      clear hb
      go_wp2
      go_ret
      exact ⟨rfl, HB3.out⟩
    · have g0 : decide ((40 : Int) < (l : Int)) = false := decide_eq_false (by omega)
      have hl40' : l ≤ 40 := by omega
      have hl : latE t [] = 0 := by simp only [Bool.and_eq_true, decide_eq_true_eq] at hr; exact hr.2
      have hth : thinF t = true := by simp only [Bool.and_eq_true, decide_eq_true_eq] at hr; exact hr.1
      obtain ⟨hf, hlat, _⟩ := latE_zero hl
      have hLat := latF_lat hlat
      have hAcy := frm_acy hf hLat
      obtain ⟨f1, f2, f3, f4⟩ := frm_len hf
      have hnT : t.n = n := by unfold Tab.n; exact hn.symm
      have n12 : n ≤ 12 := by omega
      have n1 : 1 ≤ n := by omega
      rw [hnT] at hLat hAcy
      obtain ⟨J, hJ⟩ : ∃ J, J = jn t.R n := ⟨_, rfl⟩
      obtain ⟨R, hR⟩ : ∃ R, R = t.R := ⟨_, rfl⟩
      rw [← hR] at hLat hAcy hJ
      have HRR : Hid (∀ a b, R a b = true → a < n) := fun a b h => by rw [hR] at h; have := (R_rng hf h).1; omega
      have HBB : Hid (∀ a, a < n → bel R 0 a = true) := fun a ha => hLat.base a ha
      have HAC := Lib.hid hAcy
      obtain ⟨hh, hhh⟩ : ∃ h, h = hg R n 0 := ⟨_, rfl⟩
      have hhn : hh < n := by rw [hhh]; exact hg_lt hAcy (by omega)
      have CJ : Hid (∀ U (a c : Nat), Below w.heap.size w U → a < n → c < n → Calls Tryd.prog 52 #[tabV t (.slice pe t.elems.length ce) (.slice pa t.above.length ca) (.slice pw t.wrong.length cw), .int .i64 a, .int .i64 c] U fun e w' => e = .returned (.int .i64 (J a c : Nat)) ∧ Below U.heap.size U w') := fun U a c h ha hc => by
        rw [hJ, hR]; have := H.join hl U a c h (by omega) (by omega); rw [hnT] at this; exact this
      have CB : Hid (∀ U (a c : Nat), Below w.heap.size w U → a < n → c < n → Calls Tryd.prog 53 #[tabV t (.slice pe t.elems.length ce) (.slice pa t.above.length ca) (.slice pw t.wrong.length cw), .int .i64 a, .int .i64 c] U fun e w' => e = .returned (.bool (bel R a c)) ∧ Below U.heap.size U w') := fun U a c h ha hc => by
        rw [hR]; exact H.below hl U a c h (by omega) (by omega)
      have CC : Hid (∀ W, Below w.heap.size w W → Calls Tryd.prog 17 #[tabV t (.slice pe t.elems.length ce) (.slice pa t.above.length ca) (.slice pw t.wrong.length cw)] W fun e w' => ∃ ve' va' vw', e = .returned (tabV t ve' va' vw') ∧ TabIn w' ve' va' vw' t ∧ Below W.heap.size W w') := fun W h => copy_any t _ _ _ W (H.tab W h) (thin_lens hth).1 (thin_lens hth).2.1 (thin_lens hth).2.2.1 (thin_lens hth).2.2.2
      have CH : Hid (∀ W ve va vw, TabIn W ve va vw t → Below w.heap.size w W → Calls Tryd.prog 31 #[tabV t ve va vw] W fun e w' => e = .returned (.tuple #[.int .i64 (hh : Nat), .int .i64 0]) ∧ Below W.heap.size W w') := fun W ve va vw h hb => by
        refine (Height_any t ve va vw W h (frm_small hf) (H.laid W hb)).mono ?_
        rintro e w' ⟨rfl, hb'⟩
        refine ⟨?_, hb'⟩
        have hc := cnt_le R n 0
        rw [hl, if_pos rfl, hnT, ← hR, hgt_cov hAcy (by omega), hgt_fuel hAcy (f := n + 1) (g := n) (by omega) hc, hhh]; rfl
      have JN : Hid (∀ a c, a < n → c < n → J a c < n ∧ (J a c ≠ a → hg R n (J a c) + 1 ≤ hg R n a)) := fun a c ha hc => by
        have hs := jn_spec hLat hAcy ha hc
        rw [hJ]
        refine ⟨hs.1, fun hne => ?_⟩
        have h2 := hs.2.1
        rw [bel_ne (fun e => hne e.symm)] at h2
        exact hg_step hAcy h2
      have KS : Hid (∀ U, Below W1.heap.size W1 U → U.cell? ⟨w.heap.size, 0, none⟩ = some (.string (mkS t.name)) ∧ U.cell? ⟨w.heap.size, 1, none⟩ = some (.slice pe n ce) ∧ U.cell? ⟨w.heap.size, 2, none⟩ = some (.slice pa n ca) ∧ U.cell? ⟨w.heap.size, 3, none⟩ = some (.slice pw n cw)) := fun U h => by
        rw [f3, ← hn] at c2; rw [f4, ← hn] at c3
        exact ⟨(h.cell (cell_lt c0)).trans c0, (h.cell (cell_lt c1)).trans c1, (h.cell (cell_lt c2)).trans c2, (h.cell (cell_lt c3)).trans c3⟩
      have HBW : Hid (∀ U, Below W1.heap.size W1 U → Below w.heap.size w U) := fun U h => b1.trans (h.mono b1.size)
      have HH0 : Hid (hh = hg R n 0) := hhh
      unfold tabV at CT CJ CB CC CH ⊢
      rw [f3, f4, ← hn] at CT CJ CB CC ⊢
      rw [f3, f4, ← hn] at HW1
      clear hr H hT hnm hLd hW1 b1 hn c0 c1 c2 c3 hl hf hlat hLat hAcy f1 f2 f3 f4 hnT hJ hR hhh hth hvb hvb1 hl' hl40
      go_enter Tryd.func11, Tryd.ntmps11
      go_wp2_with fail
      rw [← HW1.out]
      refine CT.out.mono ?_
      rintro e w2 ⟨rfl, hb⟩
      have HB2 : Hid (Below W1.heap.size W1 w2) := hb
      obtain ⟨k0, k1, k2, k3⟩ := KS.out _ HB2.out
      clear hb CT
      go_wp2_with fail
      refine (CC.out _ (HBW.out _ HB2.out)).mono ?_
      rintro e w3 ⟨ve', va', vw', rfl, hT3, hb⟩
      have HB3 := Lib.hid (HB2.out.trans (hb.mono HB2.out.size))
      have HT3 := Lib.hid hT3
      clear hb hT3 k0 k1 k2 k3 g0
      go_wp2_with fail
      refine (CH.out _ _ _ _ HT3.out (HBW.out _ HB3.out)).mono ?_
      rintro e w4 ⟨rfl, hb⟩
      have HB4 := Lib.hid (HB3.out.trans (hb.mono HB3.out.size))
      clear hb HT3
      obtain ⟨k0, k1, k2, k3⟩ := KS.out _ HB4.out
      have g1 : decide ((hh : Int) < 0) = false := decide_eq_false (by omega)
      have g2 : decide ((n : Int) ≤ (hh : Int)) = false := decide_eq_false (by omega)
      have g3 : decide (n ≤ hh) = false := decide_eq_false (by omega)
      go_wp2_with fail
      go_loopw [7, 8, 9] (fun at' tm i wr => ∃ k x y : Nat, k ≤ l ∧ i = .int .i64 k ∧ at' = .int .i64 x ∧ tm = .int .i64 y ∧ x < n ∧ Hid (y + hg R n x ≤ hh) ∧ Hid (Below W1.heap.size W1 wr)) (fun _ _ i _ => l - (intOf i).toNat)
      case atStart => exact ⟨0, 0, 0, Nat.zero_le _, rfl, rfl, rfl, by omega, by show _ ≤ _; rw [HH0.out]; omega, HB4.out⟩
      case round =>
        clear k0 k1 k2 k3 g1 g2 g3
        obtain ⟨k, x, y, hkl, rfl, rfl, rfl, hxn, hy, hb⟩ := hrel
        obtain ⟨k0, k1, k2, k3⟩ := KS.out _ hb.out
        by_cases hlt : k < l
        · have hkb : k < bs.length := by have := HL.out; omega
          obtain ⟨bb, ob, rfl, hcb⟩ := (HVB.out).cell (i := k) (by rw [List.length_map]; exact hkb)
          rw [List.getElem_map] at hcb
          obtain ⟨z, hz⟩ : ∃ z, z = bs[k] := ⟨_, rfl⟩
          have hz256 : z < 256 := by rw [hz]; exact H256.out _ (List.getElem_mem hkb)
          rw [← hz] at hcb
          have hcb2 := ((HBW.out _ hb.out).cell (cell_lt hcb)).trans hcb
          have hrem : Hid ((IntKind.i64.wrap (z : Int)).tmod (n : Int) = ((z % n : Nat) : Int)) := by show _ = _; rw [IntWalk.i64_in _ (by omega), Int.tmod_eq_emod_of_nonneg (by omega)]; rfl
          have hzn : z % n < n := Nat.mod_lt _ (by omega)
          have CJq : Hid (∀ U (a : Nat) (q : Int), q = ((z % n : Nat) : Int) → Below w.heap.size w U → a < n → (z % n) < n → Calls Tryd.prog 52 #[.agg #[.string (mkS t.name), .slice pe n ce, .slice pa n ca, .slice pw n cw], .int .i64 a, .int .i64 q] U fun e w' => e = .returned (.int .i64 (J a (z % n) : Nat)) ∧ Below U.heap.size U w') := fun U a q h hb ha hc => by rw [h]; exact CJ.out U a (z % n) hb ha hc
          have hn0 : ¬ (n : Int) = 0 := by omega
          have hn0' : ¬ n = 0 := by omega
          have KV : Hid (∀ V, Below wr.heap.size wr V → V.cell? ⟨w.heap.size, 0, none⟩ = some (.string (mkS t.name)) ∧ V.cell? ⟨w.heap.size, 1, none⟩ = some (.slice pe n ce) ∧ V.cell? ⟨w.heap.size, 2, none⟩ = some (.slice pa n ca) ∧ V.cell? ⟨w.heap.size, 3, none⟩ = some (.slice pw n cw) ∧ V.cell? ⟨bb, ob + k, none⟩ = some (.int .u8 (z : Int))) := fun V h =>
            ⟨(h.cell (cell_lt k0)).trans k0, (h.cell (cell_lt k1)).trans k1, (h.cell (cell_lt k2)).trans k2, (h.cell (cell_lt k3)).trans k3, (h.cell (cell_lt hcb2)).trans hcb2⟩
          clear hcb hz hkb k0 k1 k2 k3 hcb2
          go_wp2_with fail
          go_region_held3 (fun V => V.cell? ⟨w.heap.size, 0, none⟩ = some (.string (mkS t.name)) ∧ V.cell? ⟨w.heap.size, 1, none⟩ = some (.slice pe n ce) ∧ V.cell? ⟨w.heap.size, 2, none⟩ = some (.slice pa n ca) ∧ V.cell? ⟨w.heap.size, 3, none⟩ = some (.slice pw n cw) ∧ V.cell? ⟨bb, ob + k, none⟩ = some (.int .u8 (z : Int)))
            (exact KV.out _ (by repeat (first | with_reducible exact Below.refl _ _ | with_reducible refine Below.drew ?_ | refine below_step (by with_reducible assumption) ?_ (Nat.le_refl _))))
            ((go_at_call 52; refine (CJq.out _ x _ (by first | exact hrem.out | rfl | omega | (trace_state; fail)) (HBW.out _ (hb.out.trans ((show Below wr.heap.size wr _ from (by repeat (first | with_reducible exact Below.refl _ _ | with_reducible refine Below.drew ?_ | refine below_step (by with_reducible assumption) ?_ (Nat.le_refl _)))).mono hb.out.size))) hxn hzn).mono ?_; rintro e w7 ⟨rfl, hb7⟩))
          all_goals
            have hJ := JN.out x (z % n) hxn hzn
            obtain ⟨j, hj⟩ : ∃ j, j = J x (z % n) := ⟨_, rfl⟩
            rw [← hj] at hJ ⊢
            have HB7 := Lib.hid (hb.out.trans ((below_step hb7 (Below.drew (Below.refl wr.heap.size wr)) (Nat.le_refl _)).mono hb.out.size))
            have hjn := hJ.1
            have gj : decide ((j : Int) < 0) = false := decide_eq_false (by omega)
            have HJ2 := Lib.hid hJ.2
            clear hb7 hj hJ
            by_cases hjx : j = x
            · subst hjx
              go_wp2
              go_roundw
              case rel => exact ⟨k + 1, _, y, by omega, by go_num, rfl, rfl, hxn, hy, HB7⟩
              case measure => simp [intOf]; omega
            · have gn : ((j : Int) != (x : Int)) = true := by rw [bne_iff_ne]; omega
              have HY2 : Hid (y + 1 + hg R n j ≤ hh) := by
                have h1 := HJ2.out hjx; have h2 := hy.out
                show _ ≤ _; omega
              have hy12 : y ≤ 12 := by have h2 := hy.out; omega
              clear hjx
              go_wp2
              go_roundw
              case rel => exact ⟨k + 1, j, y + 1, by omega, by go_num, rfl, by go_num, hjn, HY2, HB7⟩
              case measure => simp [intOf]; omega
        · have g4 : decide ((hh : Int) < (y : Int)) = false := decide_eq_false (by have h2 := hy.out; omega)
          have g5 : decide (hh < y) = false := decide_eq_false (by have h2 := hy.out; omega)
          obtain ⟨WU, hWU⟩ : ∃ U, U = wr := ⟨_, rfl⟩
          subst hWU
          go_wp2_with (at_make; refine wpList_make_row _ rfl _ _ 39 rfl 3 i0 (.int .i64 0) Tryd.underlying39 hi hz0 hz1 rfl .i64 .i64 n rfl rfl (by rw [hz2]; omega) (by omega) ?_)
          have HBU := Lib.hid hb.out
          have H0 : Hid (HiI WU n (fun _ => 0) (WU.alloc (.cells (madeCells #[.int .i64 0] n) 3))) := ⟨by rw [← st_made]; exact heap_alloc_at rfl, (Below.refl _ _).alloc (Nat.le_refl _) _⟩
          have KU : Hid (∀ st U, HiI WU n st U → U.cell? ⟨w.heap.size, 0, none⟩ = some (.string (mkS t.name)) ∧ U.cell? ⟨w.heap.size, 1, none⟩ = some (.slice pe n ce) ∧ U.cell? ⟨w.heap.size, 2, none⟩ = some (.slice pa n ca) ∧ U.cell? ⟨w.heap.size, 3, none⟩ = some (.slice pw n cw)) := fun st U h => KS.out _ (HBU.out.trans (h.bel.mono HBU.out.size))
          have BU : Hid (∀ st U, HiI WU n st U → Below w.heap.size w U) := fun st U h => HBW.out _ (HBU.out.trans (h.bel.mono HBU.out.size))
          clear k0 k1 k2 k3 g4 g5 hb hy hkl hlt
          go_loopw [12] (fun i wr => ∃ (r : Nat) (st : Nat → Nat), r ≤ n ∧ i = .int .i64 r ∧ Hid (HiI WU n st wr) ∧ Hid (StepsI R n r 0 0 st)) (fun i _ => n - (intOf i).toNat)
          case atStart => exact ⟨0, fun _ => 0, Nat.zero_le _, rfl, H0.out, StepsI.start _ _⟩
          case round =>
            obtain ⟨r, st, hrn, rfl, hst, hsi⟩ := hrel
            by_cases hlr : r < n
            · go_wp2_with fail
              go_loopw [13] (fun i wr => ∃ (a : Nat) (st : Nat → Nat), a ≤ n ∧ i = .int .i64 a ∧ Hid (HiI WU n st wr) ∧ Hid (StepsI R n r a 0 st)) (fun i _ => n - (intOf i).toNat)
              case atStart => exact ⟨0, st, Nat.zero_le _, rfl, hst, hsi⟩
              case round =>
                clear hst hsi
                obtain ⟨a, st, han, rfl, hst, hsi⟩ := hrel
                by_cases hla : a < n
                · go_wp2_with fail
                  go_loopw [14] (fun i wr => ∃ (c : Nat) (st : Nat → Nat), c ≤ n ∧ i = .int .i64 c ∧ Hid (HiI WU n st wr) ∧ Hid (StepsI R n r a c st)) (fun i _ => n - (intOf i).toNat)
                  case atStart => exact ⟨0, st, Nat.zero_le _, rfl, hst, hsi⟩
                  case round =>
                    clear hst hsi
                    obtain ⟨c, st, hcn, rfl, hst, hsi⟩ := hrel
                    by_cases hlc : c < n
                    · by_cases hca : c = a
                      · subst hca
                        have HS2 : Hid (StepsI R n r c (c + 1) st) := hsi.out.skip (HAC.out.irr c)
                        go_wp2
                        go_roundw
                        case rel => exact ⟨c + 1, st, by omega, by go_num, hst, HS2⟩
                        case measure => simp [intOf]; omega
                      · have gc : ((c : Int) != (a : Int)) = true := by rw [bne_iff_ne]; omega
                        have HCA := Lib.hid hca
                        clear hca
                        obtain ⟨k0, k1, k2, k3⟩ := KU.out _ _ hst.out
                        go_wp2_with fail
                        refine (CB.out _ c a (BU.out _ _ hst.out) hlc hla).mono ?_
                        rintro e w7 ⟨rfl, hb7⟩
                        rw [bel_ne HCA.out]
                        have HS7 := Lib.hid (hst.out.below hb7)
                        clear hb7 k0 k1 k2 k3
                        cases hR : R c a with
                        | false =>
                          have HS2 : Hid (StepsI R n r a (c + 1) st) := hsi.out.skip hR
                          clear hR
                          go_wp2
                          go_roundw
                          case rel => exact ⟨c + 1, st, by omega, by go_num, HS7, HS2⟩
                          case measure => simp [intOf]; omega
                        | true =>
                          have HS2 : Hid (StepsI R n r a (c + 1) (fun x => if x = a then max (st a) (st c + 1) else st x)) := hsi.out.raise HAC.out HRR.out hla hlc hR
                          have m1 : st a < n := by have h1 := hsi.out.most a hla; have h2 := hg_lt (rv_acy HAC.out HRR.out) hla; omega
                          have m2 : st c < n := by have h1 := hsi.out.most c hlc; have h2 := hg_lt (rv_acy HAC.out HRR.out) hlc; omega
                          obtain ⟨x, hx⟩ : ∃ x, x = st a := ⟨_, rfl⟩
                          obtain ⟨y, hy⟩ : ∃ y, y = st c := ⟨_, rfl⟩
                          have hca : w7.cell? ⟨WU.heap.size, a, none⟩ = some (.int .i64 (x : Int)) := by rw [Go.Joins.cell_of_block HS7.out.cells, st_get hla, hx]
                          have hcc : w7.cell? ⟨WU.heap.size, c, none⟩ = some (.int .i64 (y : Int)) := by rw [Go.Joins.cell_of_block HS7.out.cells, st_get hlc, hy]
                          have hfa : w7.frozen? ⟨WU.heap.size, a, none⟩ = false := Go.Joins.unfrozen_of_block HS7.out.cells a
                          rw [← hx, ← hy] at HS2
                          rw [← hx] at m1
                          rw [← hy] at m2
                          have HSET : Hid (HiI WU n (fun z => if z = a then max x (y + 1) else st z) ((w7.setCell ⟨WU.heap.size, a, none⟩ (.int .i64 ((max x (y + 1) : Nat) : Int))).drew)) := (HS7.out.set hla).drew
                          have HM2 : Hid (max (x : Int) (IntKind.i64.wrap ((y : Int) + 1)) = ((max x (y + 1) : Nat) : Int)) := by show _ = _; rw [IntWalk.i64_in _ (by omega)]; omega
                          clear hR hx hy
                          go_wp2_with fail
                          go_region_with (fail)
                          all_goals
                            rw [HM2.out]
                            go_wp2
                            go_roundw
                            case rel => exact ⟨c + 1, _, by omega, by go_num, HSET, HS2⟩
                            case measure => simp [intOf]; omega
                    · have hcn2 : c = n := by omega
                      have HS2 : Hid (StepsI R n r (a + 1) 0 st) := by rw [hcn2] at hsi; exact hsi.out.next
                      clear hcn2
                      go_wp2
                      go_roundw
                      case rel => exact ⟨a + 1, st, by omega, by go_num, hst, HS2⟩
                      case measure => simp [intOf]; omega
                · have han2 : a = n := by omega
                  have HS2 : Hid (StepsI R n (r + 1) 0 0 st) := by rw [han2] at hsi; exact hsi.out.round
                  clear han2
                  go_wp2
                  go_roundw
                  case rel => exact ⟨r + 1, st, by omega, by go_num, hst, HS2⟩
                  case measure => simp [intOf]; omega
            · have hrn2 : r = n := by omega
              have HMO : Hid (mostF st n = hh) := by
                show _ = _
                rw [HH0.out]
                rw [hrn2] at hsi
                exact height_most HAC.out HRR.out HBB.out n1 hsi.out
              have HMS : Hid (∀ i, i < n → st i < n) := fun i hin => by
                have h1 := hsi.out.most i hin; have h2 := hg_lt (rv_acy HAC.out HRR.out) hin; omega
              clear hrn2 hsi
              go_wp2_with fail
              go_loopw [15, 16] (fun mo i wr => ∃ i' : Nat, i' ≤ n ∧ i = .int .i64 i' ∧ mo = .int .i64 (mostF st i' : Nat) ∧ Hid (HiI WU n st wr)) (fun _ i _ => n - (intOf i).toNat)
              case atStart => exact ⟨0, Nat.zero_le _, rfl, rfl, hst⟩
              case round =>
                clear hst
                obtain ⟨i', hin, rfl, rfl, hst⟩ := hrel
                by_cases hli : i' < n
                · have hci : wr.cell? ⟨WU.heap.size, i', none⟩ = some (.int .i64 ((st i' : Nat) : Int)) := by rw [Go.Joins.cell_of_block hst.out.cells, st_get hli]
                  have HX : Hid (((mostF st (i' + 1) : Nat) : Int) = max ((mostF st i' : Nat) : Int) ((st i' : Nat) : Int)) := by show _ = _; rw [mostF]; omega
                  go_wp2
                  go_roundw
                  case rel => exact ⟨i' + 1, by omega, by go_num, by rw [HX.out], hst⟩
                  case measure => simp [intOf]; omega
                · have hin2 : i' = n := by omega
                  subst hin2
                  rw [HMO.out]
                  go_wp2_with fail
                  refine (CA.out _ (BU.out _ _ hst.out)).mono ?_
                  rintro e w9 ⟨rfl, hb9⟩
                  have HB9 := Lib.hid ((BU.out _ _ hst.out).trans (hb9.mono (BU.out _ _ hst.out).size))
                  clear hb9
                  go_wp2
                  go_ret
                  exact ⟨rfl, HB9.out⟩
end Go.Proofs.YtmooikdodbjgpaaDoor.Or
