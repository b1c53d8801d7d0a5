/- The reference's Rescan, where there is no error. -/
import Derived.Test.YtlhbfgkcalalkaaGreatDoorYd
import Derived.Test.YtlhbfgkcalalkaaGreatDoorNa
import Derived.Deep.CutRange
import Derived.Deep.CutBlock
import Derived.BigRegion
import Derived.BigQuiet
import Derived.StillTailTactics
set_option linter.unusedVariables false
set_option linter.unusedSimpArgs false
namespace Go.Proofs.YtlhbfgkcalalkaaGreatDoor
open Go.RowKit Go.Shelf

/-- The number in a cell. -/
def cnt (W : World) (b i : Nat) : Nat := match W.cell? ⟨b, i, none⟩ with | some (.int _ n) => n.toNat | _ => 0
theorem cnt_eq {W : World} {b i : Nat} {k : IntKind} {n : Int} (h : W.cell? ⟨b, i, none⟩ = some (.int k n)) : cnt W b i = n.toNat := by unfold cnt; rw [h]

theorem runF_next (p : Nat → Bool) (n k : Nat) (hk : k < n) (h : p k = true) : runF p (n - k) k = runF p (n - (k + 1)) (k + 1) := by
  rw [show n - k = (n - (k + 1)) + 1 by omega, runF, if_pos h]
theorem runF_stop (p : Nat → Bool) (n k : Nat) (h : k < n → p k = false) : runF p (n - k) k = k := by
  by_cases hk : k < n
  · rw [show n - k = (n - (k + 1)) + 1 by omega, runF, if_neg (by rw [h hk]; decide)]
  · rw [show n - k = 0 by omega, runF]

/-- The change that Rescan makes, in memory. -/
def ChgJ (w3 wr : World) (k j : Nat) : Prop :=
  wr.cell? ⟨w3.heap.size, 0, none⟩ = some (.int .i64 k) ∧ wr.cell? ⟨w3.heap.size, 1, none⟩ = some (.int .i64 j) ∧ wr.cell? ⟨w3.heap.size, 2, none⟩ = some (.slice none 0 0) ∧
  wr.frozen? ⟨w3.heap.size, 0, none⟩ = false ∧ wr.frozen? ⟨w3.heap.size, 1, none⟩ = false ∧ wr.frozen? ⟨w3.heap.size, 2, none⟩ = false ∧ w3.heap.size < wr.heap.size ∧ Below w3.heap.size w3 wr
theorem ChgJ.drew {w3 wr : World} {k j : Nat} (h : ChgJ w3 wr k j) (n : Nat) : ChgJ w3 (wr.drewN n) k j := by
  obtain ⟨a1, a2, a3, a4, a5, a6, a7, a8⟩ := h
  exact ⟨a1, a2, a3, a4, a5, a6, a7, a8.trans (below_drewAt _ _ _)⟩
theorem ChgJ.below {w3 wr W : World} {k j : Nat} (h : ChgJ w3 wr k j) (hb : Below wr.heap.size wr W) : ChgJ w3 W k j := by
  obtain ⟨a1, a2, a3, a4, a5, a6, a7, a8⟩ := h
  exact ⟨(hb.cell a7).trans a1, (hb.cell a7).trans a2, (hb.cell a7).trans a3, (hb.frozen a7).trans a4, (hb.frozen a7).trans a5, (hb.frozen a7).trans a6, Nat.lt_of_lt_of_le a7 hb.size, a8.trans (hb.mono (Nat.le_of_lt a7))⟩
theorem ChgJ.setH {w3 wr : World} {k j : Nat} (h : ChgJ w3 wr k j) (v : Int) (hv : v = ((k + 1 : Nat) : Int)) : ChgJ w3 (wr.setCell ⟨w3.heap.size, 0, none⟩ (.int .i64 v)) (k + 1) j := by
  subst hv
  obtain ⟨a1, a2, a3, a4, a5, a6, a7, a8⟩ := h
  refine ⟨World.cell?_setCell_same _ _ _ a1, ?_, ?_, by simpa [go_sem] using a4, by simpa [go_sem] using a5, by simpa [go_sem] using a6, by simpa using a7, a8.setCell (by simp) _⟩
  · rw [World.cell?_setCell_other (h := by intro h; have := congrArg Addr.off h; simp at this)]; exact a2
  · rw [World.cell?_setCell_other (h := by intro h; have := congrArg Addr.off h; simp at this)]; exact a3
theorem ChgJ.setT {w3 wr : World} {k j : Nat} (h : ChgJ w3 wr k j) (v : Int) (hv : v = ((j + 1 : Nat) : Int)) : ChgJ w3 (wr.setCell ⟨w3.heap.size, 1, none⟩ (.int .i64 v)) k (j + 1) := by
  subst hv
  obtain ⟨a1, a2, a3, a4, a5, a6, a7, a8⟩ := h
  refine ⟨?_, World.cell?_setCell_same _ _ _ a2, ?_, by simpa [go_sem] using a4, by simpa [go_sem] using a5, by simpa [go_sem] using a6, by simpa using a7, a8.setCell (by simp) _⟩
  · rw [World.cell?_setCell_other (h := by intro h; have := congrArg Addr.off h; simp at this)]; exact a1
  · rw [World.cell?_setCell_other (h := by intro h; have := congrArg Addr.off h; simp at this)]; exact a3
theorem lx_parts {x y : Lx} (h : x ≠ y) : x.1 ≠ y.1 ∨ (x.1 = y.1 ∧ x.2.1 ≠ y.2.1) ∨ (x.1 = y.1 ∧ x.2.1 = y.2.1 ∧ x.2.2 ≠ y.2.2) := by
  obtain ⟨x1, x2, x3⟩ := x
  obtain ⟨y1, y2, y3⟩ := y
  by_cases e1 : x1 = y1
  · by_cases e2 : x2 = y2
    · exact .inr (.inr ⟨e1, e2, fun e3 => h (by simp only at e3; rw [e1, e2, e3])⟩)
    · exact .inr (.inl ⟨e1, e2⟩)
  · exact .inl e1

set_option maxRecDepth 100000 in
set_option maxHeartbeats 8000000 in
theorem refResc_ok (s put : List UInt8) (F T : Nat) (w : World) (hs : s.length ≤ 100000) (hput : put.length ≤ 100000) (h : (scanF s).2.2 = 0) (h1 : F ≤ T) (h2 : T ≤ s.length) (h3 : (scanF (splF s (F, T, put))).2.2 = 0) :
    Calls Tryz.prog 21 #[.string (mkS s), edV (F, T, put)] w (RescPost s (F, T, put) w) := by
  have hed : isEd s (F, T, put) = true := by simp only [isEd, Bool.and_eq_true, decide_eq_true_eq]; exact ⟨⟨by omega, by omega⟩, by omega⟩
  have hsp : (mkS s).extract 0 F ++ mkS put ++ (mkS s).extract T (mkS s).size = mkS (splF s (F, T, put)) := splice_bytes s put F T
  have htll : (splF s (F, T, put)).length = F + put.length + (s.length - T) := by unfold splF; simp; omega
  have htl : (splF s (F, T, put)).length ≤ 300000 := by omega
  obtain ⟨t, ht⟩ : ∃ t, t = splF s (F, T, put) := ⟨_, rfl⟩
  have CS : Hid (∀ W, Calls Tryz.prog 11 #[.string (mkS s)] W (ScanP (scanF s).1 (scanF s).2.1 0 W)) := fun W => by
    have := refScan_any s W (by omega); rw [h] at this; exact this
  have CP : Hid (∀ W, Calls Tryz.prog 50 #[.string (mkS s), .agg #[.int .i64 F, .int .i64 T, .string (mkS put)]] W fun e w' => e = .returned (.bool true) ∧ Below W.heap.size W w') := fun W => by
    have := refIsEdit_any s (F, T, put) W
    rw [hed] at this; exact this
  obtain ⟨G, hG⟩ : ∃ G : Int, G = (t.length : Int) - s.length := ⟨_, rfl⟩
  obtain ⟨hd, hhd⟩ : ∃ hd, hd = headF (scanF s).1 (scanF t).1 F := ⟨_, rfl⟩
  obtain ⟨tl, htl2⟩ : ∃ tl, tl = tailF (scanF s).1 (scanF t).1 T G := ⟨_, rfl⟩
  have HR : Hid (rescF s (F, T, put) = ((hd, tl, ((scanF t).1.take ((scanF t).1.length - tl)).drop hd), 0, 0)) := by
    show _ = _; unfold rescF; rw [if_neg (by omega), if_pos hed, if_neg (by omega), hhd, htl2, hG, ht]
  have hap : hd + tl ≤ (scanF t).1.length := by
    rw [hhd, htl2]; apply apart; rw [hG, ht, htll]; omega
  rw [← ht] at h3 hsp htl htll
  have CT : Hid (∀ W, Calls Tryz.prog 11 #[.string (mkS t)] W (ScanP (scanF t).1 (scanF t).2.1 0 W)) := fun W => by
    have := refScan_any t W (by omega); rw [h3] at this; exact this
  obtain ⟨A, hA⟩ : ∃ A : Int, A = (scanF s).2.1 := ⟨_, rfl⟩
  obtain ⟨A2, hA2⟩ : ∃ A : Int, A = (scanF t).2.1 := ⟨_, rfl⟩
  rw [← hA] at CS
  rw [← hA2] at CT
  have hl1 := scanF_len s; have hl2 := scanF_len t
  have HP1 : Hid (∀ y ∈ (scanF s).1, 0 ≤ y.2.2 ∧ y.2.2 ≤ 100000) := fun y hy => by have := scanF_places s y hy; omega
  have HP2 : Hid (∀ y ∈ (scanF t).1, 0 ≤ y.2.2 ∧ y.2.2 ≤ 300000) := fun y hy => by have := scanF_places t y hy; omega
  obtain ⟨old, hold⟩ : ∃ old, old = (scanF s).1 := ⟨_, rfl⟩
  obtain ⟨now, hnow⟩ : ∃ now, now = (scanF t).1 := ⟨_, rfl⟩
  rw [← hold] at CS hl1 hhd htl2 HP1
  rw [← hnow] at CT HR hap hl2 hhd htl2 HP2
  obtain ⟨n1, hn1⟩ : ∃ n, n = old.length := ⟨_, rfl⟩
  obtain ⟨n2, hn2⟩ : ∃ n, n = now.length := ⟨_, rfl⟩
  rw [← hn1] at hl1
  rw [← hn2] at HR hap hl2
  obtain ⟨m, hm⟩ : ∃ m, m = min n1 n2 := ⟨_, rfl⟩
  have HH0 : Hid (runF (headP old now F) (m - 0) 0 = hd) := by show _ = _; rw [hhd, hm, hn1, hn2]; rfl
  have HT0 : Hid (runF (tailP old now T G) (m - 0) 0 = tl) := by show _ = _; rw [htl2, hm, hn1, hn2]; rfl
  have hm1 : m ≤ n1 := by omega
  have hm2 : m ≤ n2 := by omega
  have HM : Hid (m = min n1 n2) := hm
  have HN1 : Hid (n1 = old.length) := hn1
  have HN2 : Hid (n2 = now.length) := hn2
  have HC := Lib.hid (rescW_cells w (F, T, put))
  have HB := Lib.hid (rescW_below w (F, T, put))
  have hsz : (mkS s).size = s.length := mkS_size s
  have htz : ((mkS s).extract 0 F ++ mkS put ++ (mkS s).extract T (mkS s).size).size = t.length := by rw [hsp, mkS_size]
  have h2' : T ≤ (mkS s).size := by omega
  have g3 : (mkS s).size ≤ 100000 := by omega
  have g4 : (mkS put).size ≤ 100000 := by rw [mkS_size]; omega
  have HSP := Lib.hid hsp
  have hwl : IntKind.i64.wrap (((mkS t).size : Int) - ((mkS s).size : Int)) = G := by rw [IntWalk.i64_in _ (by rw [mkS_size, mkS_size]; omega), mkS_size, mkS_size, hG]
  have hGb : Hid (-300000 ≤ G ∧ G ≤ 300000) := by show _ ∧ _; omega
  have HG0 : Hid (G = ((F : Int) + (mkS put).size + ((mkS s).size - T : Nat)) - (mkS s).size) := by show _ = _; rw [hG, htll, mkS_size, mkS_size]; omega
  unfold edV
  clear hA hA2 h hput ht htl h3 hed hsp hsz h2 hs hhd htl2 hold hnow hn1 hn2 hm hG htll htz
  go_enter Tryz.func21, Tryz.ntmps21
  go_wp2_with fail
  refine (CS.out _).mono ?_
  rintro e w1 ⟨ov, rfl, hown, hb⟩
  obtain ⟨r0, r1, r2, q0, q1, q2, hz, k0, k1, k2, hfin⟩ := HC.out w1 hb
  have Hb := Lib.hid hb
  rw [← HN1.out] at hown
  have HO := Lib.hid (reads_own (ls := old) (by rw [← HN1.out]; exact hown) (by rw [← HN1.out]; omega))
  obtain ⟨op, ocap, rfl⟩ := ownsRow_slice hown
  clear hown hb r0 r1 r2 q0 q1 q2
  go_wp2_with fail
  refine (CP.out _).mono ?_
  rintro e w2 ⟨rfl, hb2⟩
  obtain ⟨r0, r1, r2, q0, q1, q2, hz2, k0', k1', k2', hfin2⟩ := HC.out w2 (Hb.out.trans (hb2.mono Hb.out.size))
  have Hb2 := Lib.hid (Hb.out.trans (hb2.mono Hb.out.size))
  have HO2 := Lib.hid (HO.out.below hb2)
  clear hb2 k0 k1 k2 hz r0 r1 r2 q0 q1 q2 hfin HO
  go_wp2
  go_region
  simp only [HSP.out]
  go_wp2_with fail
  refine (CT.out _).mono ?_
  rintro e w3 ⟨nv, rfl, hown3, hb3⟩
  have Hb3 := Lib.hid (Hb2.out.drew.trans (hb3.mono Hb2.out.drew.size))
  obtain ⟨r0, r1, r2, q0, q1, q2, hz3, k0, k1, k2, hfin3⟩ := HC.out w3 Hb3.out
  have HO3 := Lib.hid ((HO2.out.below ((Below.refl _ _).drew)).below hb3)
  rw [← HN2.out] at hown3
  have HN3 := Lib.hid (reads_own (ls := now) (by rw [← HN2.out]; exact hown3) (by rw [← HN2.out]; omega))
  have HOWN := Lib.hid hown3
  obtain ⟨np, ncap, rfl⟩ := ownsRow_slice hown3
  have hncap : n2 ≤ ncap := by
    rcases hown3.2 with ⟨h1, h0⟩ | ⟨g, cap, cur, h1, _, _, hcap, _⟩
    · omega
    · simp only [Value.slice.injEq] at h1; omega
  clear hb3 hown3 k0' k1' k2' hz2 r0 r1 r2 q0 q1 q2 hfin2 hz3 k0 k1 k2 hfin3
  have HA2 : Hid (∀ i, i < n1 → ∃ b off, op = some ⟨b, off, none⟩ ∧ ∀ W, Below w3.heap.size w3 W → W.cell? ⟨b, off + i * 3, none⟩ = some (.int .u8 (old.getD i (0, [], 0)).1) ∧ W.cell? ⟨b, off + i * 3 + 1, none⟩ = some (.string (mkS (old.getD i (0, [], 0)).2.1)) ∧ W.cell? ⟨b, off + i * 3 + 2, none⟩ = some (.int .i64 (old.getD i (0, [], 0)).2.2)) := fun i hi => by
    obtain ⟨b, off, cap', hsl, c1, c2, c3⟩ := reads_at HO3.out i (by rw [← HN1.out]; exact hi)
    simp only [Value.slice.injEq] at hsl
    exact ⟨b, off, hsl.1, fun W hW => ⟨(hW.cell (cell_lt c1)).trans c1, (hW.cell (cell_lt c2)).trans c2, (hW.cell (cell_lt c3)).trans c3⟩⟩
  have HB2 : Hid (∀ i, i < n2 → ∃ b off, np = some ⟨b, off, none⟩ ∧ ∀ W, Below w3.heap.size w3 W → W.cell? ⟨b, off + i * 3, none⟩ = some (.int .u8 (now.getD i (0, [], 0)).1) ∧ W.cell? ⟨b, off + i * 3 + 1, none⟩ = some (.string (mkS (now.getD i (0, [], 0)).2.1)) ∧ W.cell? ⟨b, off + i * 3 + 2, none⟩ = some (.int .i64 (now.getD i (0, [], 0)).2.2)) := fun i hi => by
    obtain ⟨b, off, cap', hsl, c1, c2, c3⟩ := reads_at HN3.out i (by rw [← HN2.out]; exact hi)
    simp only [Value.slice.injEq] at hsl
    exact ⟨b, off, hsl.1, fun W hW => ⟨(hW.cell (cell_lt c1)).trans c1, (hW.cell (cell_lt c2)).trans c2, (hW.cell (cell_lt c3)).trans c3⟩⟩
  have HX : Hid (∀ W, Below w3.heap.size w3 W → W.cell? ⟨w.heap.size, 0, none⟩ = some (.int .i64 F) ∧ W.cell? ⟨w.heap.size, 1, none⟩ = some (.int .i64 T) ∧ w.heap.size + 1 < W.heap.size ∧ Below w.heap.size w W) := fun W hW => by
    obtain ⟨_, _, _, _, _, _, hz, k0, k1, _, hf⟩ := HC.out W (Hb3.out.trans (hW.mono Hb3.out.size))
    exact ⟨k0, k1, hz, hf⟩
  go_wp2
  go_loopw [] (fun wr => ∃ k : Nat, k ≤ m ∧ Hid (ChgJ w3 wr k 0) ∧ Hid (runF (headP old now F) (m - k) k = hd)) (fun wr => m - cnt wr w3.heap.size 0)
  case atStart =>
    exact ⟨0, Nat.zero_le _, ⟨by simp [go_sem], by simp [go_sem], by simp [go_sem], by simp [go_sem], by simp [go_sem], by simp [go_sem], by simp, (Below.refl _ _).alloc (Nat.le_refl _) _⟩, HH0⟩
  case round =>
    obtain ⟨k, hk, hch, hrun⟩ := hrel
    obtain ⟨c0, c1, c2, f0, f1, f2, hwz, hbel⟩ := hch.out
    have HBL := Lib.hid hbel
    obtain ⟨kx0, kx1, hxz, hxb⟩ := HX.out wr hbel
    clear hbel hxb
    by_cases hc : k < m ∧ headP old now F k = true
    · obtain ⟨hkm, hp⟩ := hc
      have hk1 : k < n1 := by omega
      have hk2 : k < n2 := by omega
      obtain ⟨b, off, rfl, hcells⟩ := HA2.out k hk1
      obtain ⟨b2, off2, rfl, hcells2⟩ := HB2.out k hk2
      have HS : Hid (runF (headP old now F) (m - (k + 1)) (k + 1) = hd) := by show _ = _; rw [← hrun.out, runF_next _ m k hkm hp]
      simp only [headP, Bool.and_eq_true, decide_eq_true_eq, beq_iff_eq] at hp
      obtain ⟨hp1, hp2⟩ := hp
      obtain ⟨d1, d2, d3⟩ := hcells wr HBL.out
      obtain ⟨e1, e2, e3⟩ := hcells2 wr HBL.out
      rw [← hp2] at e1 e2 e3
      obtain ⟨x, hx⟩ : ∃ x, x = old.getD k (0, [], 0) := ⟨_, rfl⟩
      rw [← hx] at d1 d2 d3 e1 e2 e3 hp1
      obtain ⟨x1, x2, x3⟩ := x
      simp only at hp1
      have g1 : decide (x3 < (F : Int)) = true := decide_eq_true hp1
      have hkI1 : (k : Int) < (n1 : Int) := by omega
      have hkI2 : (k : Int) < (n2 : Int) := by omega
      clear hp1 hp2 hx hrun hcells hcells2 HX HA2 HB2
      go_wp2
      go_quiet (fail)
      go_wp2
      go_roundw
      case rel => exact ⟨k + 1, by omega, (hch.out.drew _).setH _ (by push_cast; rfl), HS⟩
      case measure =>
        rw [cnt_eq c0, cnt_eq ((hch.out.drew _).setH _ (by push_cast; rfl)).1]; simp; omega
    · have HD : Hid (hd = k) := by
        show _ = _
        rw [← hrun.out]
        refine runF_stop _ _ _ fun h => ?_
        simpa using fun h2 => hc ⟨h, h2⟩
      clear hrun
      go_wp2
      go_cut [89] from 54 to 93 (fun c wx => c = .bool false ∧ ∃ n, wx = wr.drewN n)
      case first =>
        by_cases a1 : k < n1
        · have hkI1 : (k : Int) < (n1 : Int) := by omega
          have D1 : decide ((k : Int) < (n1 : Int)) = true := decide_eq_true hkI1
          by_cases a2 : k < n2
          · have hkI2 : (k : Int) < (n2 : Int) := by omega
            have D2 : decide ((k : Int) < (n2 : Int)) = true := decide_eq_true hkI2
            have hkm : k < m := by have := HM.out; omega
            obtain ⟨b, off, rfl, hcells⟩ := HA2.out k a1
            obtain ⟨b2, off2, rfl, hcells2⟩ := HB2.out k a2
            obtain ⟨d1, d2, d3⟩ := hcells wr HBL.out
            obtain ⟨e1, e2, e3⟩ := hcells2 wr HBL.out
            have hnp : ¬ ((old.getD k (0, [], 0)).2.2 < (F : Int) ∧ old.getD k (0, [], 0) = now.getD k (0, [], 0)) := fun h => hc ⟨hkm, by simp only [headP, Bool.and_eq_true, decide_eq_true_eq, beq_iff_eq]; exact h⟩
            obtain ⟨x, hx⟩ : ∃ x, x = old.getD k (0, [], 0) := ⟨_, rfl⟩
            obtain ⟨y, hy⟩ : ∃ y, y = now.getD k (0, [], 0) := ⟨_, rfl⟩
            rw [← hx] at d1 d2 d3 hnp
            rw [← hy] at e1 e2 e3 hnp
            by_cases a3 : x.2.2 < (F : Int)
            · have hxy : x ≠ y := fun h => hnp ⟨a3, h⟩
              have hdd := lx_parts hxy
              obtain ⟨x1, x2, x3⟩ := x
              obtain ⟨y1, y2, y3⟩ := y
              simp only at hdd a3 d1 d2 d3 e1 e2 e3
              have D3 : decide (x3 < (F : Int)) = true := decide_eq_true a3
              clear hxy hnp hx hy hcells hcells2 hc HX HA2 HB2 a3
              rcases hdd with hdd | ⟨rfl, hdd⟩ | ⟨rfl, rfl, hdd⟩
              · have g1 : ((x1 : Int) == (y1 : Int)) = false := by rw [beq_eq_false_iff_ne]; omega
                have g2 : ¬ ((x1 : Int) = (y1 : Int)) := by omega
                clear hdd
                go_quiet (fail)
                go_wp2
                go_meet
                exact ⟨rfl, _, rfl⟩
              · have g2 : ¬ ((mkS x2).toList = (mkS y2).toList) := by rw [mkS_tl]; exact hdd
                clear hdd
                go_quiet (fail)
                go_wp2
                go_meet
                exact ⟨rfl, _, rfl⟩
              · skip
                go_quiet (fail)
                go_wp2
                go_meet
                exact ⟨rfl, _, rfl⟩
            · obtain ⟨x1, x2, x3⟩ := x
              obtain ⟨y1, y2, y3⟩ := y
              simp only at a3 d1 d2 d3 e1 e2 e3
              have D3 : decide (x3 < (F : Int)) = false := decide_eq_false a3
              clear hnp hx hy hcells hcells2 hc HX HA2 HB2 a3
              go_quiet (fail)
              go_wp2
              go_meet
              exact ⟨rfl, _, rfl⟩
          · have D2 : decide ((k : Int) < (n2 : Int)) = false := decide_eq_false (by omega)
            have D2' : decide (k < n2) = false := decide_eq_false a2
            clear hc HX HA2 HB2 a2
            go_quiet (fail)
            go_wp2
            go_meet
            exact ⟨rfl, _, rfl⟩
        · have D1 : decide ((k : Int) < (n1 : Int)) = false := decide_eq_false (by omega)
          have D1' : decide (k < n1) = false := decide_eq_false a1
          clear hc HX HA2 HB2 a1
          go_quiet (fail)
          go_wp2
          go_meet
          exact ⟨rfl, _, rfl⟩
      case rest =>
        obtain ⟨rfl, n, rfl⟩ := hcut
        have HK := Lib.hid hk
        have HCH := Lib.hid (hch.out.drew n)
        clear c0 c1 c2 f0 f1 f2 hwz kx0 kx1 hxz HBL hc hk hch
        go_upto_block 2 with fail
        go_cut [] from 94 to 159 (fun wx => Hid (ChgJ w3 wx k tl))
        case first =>
         go_wp2_with fail
         go_loopw [] (fun wr2 => ∃ j : Nat, j ≤ m ∧ Hid (ChgJ w3 wr2 k j) ∧ Hid (runF (tailP old now T G) (m - j) j = tl)) (fun wr2 => m - cnt wr2 w3.heap.size 1)
         case atStart => exact ⟨0, Nat.zero_le _, HCH, HT0⟩
         case round =>
           obtain ⟨j, hj, hch, hrun⟩ := hrel
           obtain ⟨c0, c1, c2, f0, f1, f2, hwz, hbel⟩ := hch.out
           have HBL := Lib.hid hbel
           obtain ⟨kx0, kx1, hxz, hxb⟩ := HX.out _ hbel
           clear hbel hxb
           by_cases hjm : j < m
           · have hj1 : j < n1 := by omega
             have hj2 : j < n2 := by omega
             have hjI1 : (j : Int) < (n1 : Int) := by omega
             have hjI2 : (j : Int) < (n2 : Int) := by omega
             obtain ⟨pa, hpa⟩ : ∃ pa, pa = n1 - 1 - j := ⟨_, rfl⟩
             obtain ⟨pb, hpb⟩ : ∃ pb, pb = n2 - 1 - j := ⟨_, rfl⟩
             have ha1 : pa < n1 := by omega
             have ha2 : pb < n2 := by omega
             obtain ⟨b, off, rfl, hcells⟩ := HA2.out pa ha1
             obtain ⟨b2, off2, rfl, hcells2⟩ := HB2.out pb ha2
             obtain ⟨d1, d2, d3⟩ := hcells _ HBL.out
             obtain ⟨e1, e2, e3⟩ := hcells2 _ HBL.out
             have hwa1 : IntKind.i64.wrap ((n1 : Int) - 1) = (n1 : Int) - 1 := IntWalk.i64_in _ (by omega)
             have hwa2 : IntKind.i64.wrap ((n1 : Int) - 1 - (j : Int)) = (pa : Int) := by rw [IntWalk.i64_in _ (by omega)]; omega
             have hwb1 : IntKind.i64.wrap ((n2 : Int) - 1) = (n2 : Int) - 1 := IntWalk.i64_in _ (by omega)
             have hwb2 : IntKind.i64.wrap ((n2 : Int) - 1 - (j : Int)) = (pb : Int) := by rw [IntWalk.i64_in _ (by omega)]; omega
             have haI : (pa : Int) < (n1 : Int) := by omega
             have hbI : (pb : Int) < (n2 : Int) := by omega
             obtain ⟨x, hx⟩ : ∃ x, x = old.getD pa (0, [], 0) := ⟨_, rfl⟩
             obtain ⟨y, hy⟩ : ∃ y, y = now.getD pb (0, [], 0) := ⟨_, rfl⟩
             rw [← hx] at d1 d2 d3
             rw [← hy] at e1 e2 e3
             have hP : Hid (tailP old now T G j = (decide (x.2.2 ≥ (T : Int)) && ((x.1, x.2.1, x.2.2 + G) == y))) := by
               show _ = _; unfold tailP; rw [← HN1.out, ← HN2.out, ← hpa, ← hpb, ← hx, ← hy]
             have hbX : Hid (0 ≤ x.2.2 ∧ x.2.2 ≤ 100000) := by
               show _ ∧ _
               refine HP1.out x ?_
               rw [hx, show old.getD pa (0, [], 0) = old[pa]'(by rw [← HN1.out]; exact ha1) by simp [List.getD_eq_getElem?_getD, show pa < old.length by rw [← HN1.out]; exact ha1]]
               exact List.getElem_mem _
             have hby : Hid (0 ≤ y.2.2 ∧ y.2.2 ≤ 300000) := by
               show _ ∧ _
               refine HP2.out y ?_
               rw [hy, show now.getD pb (0, [], 0) = now[pb]'(by rw [← HN2.out]; exact ha2) by simp [List.getD_eq_getElem?_getD, show pb < now.length by rw [← HN2.out]; exact ha2]]
               exact List.getElem_mem _
             obtain ⟨x1, x2, x3⟩ := x
             obtain ⟨y1, y2, y3⟩ := y
             simp only at d1 d2 d3 e1 e2 e3 hP hbX hby
             have HX2 := HX
             clear hx hy hcells hcells2 hpa hpb HX HA2 HB2 hj1 hj2
             have hlb := cell_lt d1
             have hlb2 := cell_lt e1
             simp only at hlb hlb2
             go_wp2
             go_cut [13, 14] from 94 to 159 (fun a b wx => ∃ na nb, a = .pointer (some ⟨na, 0, none⟩) ∧ b = .pointer (some ⟨nb, 0, none⟩) ∧ wx.cell? ⟨na, 0, none⟩ = some (.int .u8 x1) ∧ wx.cell? ⟨na, 1, none⟩ = some (.string (mkS x2)) ∧ wx.cell? ⟨na, 2, none⟩ = some (.int .i64 x3) ∧ wx.cell? ⟨nb, 0, none⟩ = some (.int .u8 y1) ∧ wx.cell? ⟨nb, 1, none⟩ = some (.string (mkS y2)) ∧ wx.cell? ⟨nb, 2, none⟩ = some (.int .i64 y3) ∧ Hid (Below wr.heap.size wr wx))
             case first =>
               go_region
               all_goals go_wp2_with fail
               all_goals go_meet
               all_goals exact ⟨_, _, rfl, rfl, by simp [go_sem], by simp [go_sem], by simp [go_sem], by simp [go_sem], by simp [go_sem], by simp [go_sem], (((Below.refl _ _).alloc (Nat.le_refl _) _).alloc (by simp) _).drew⟩
             case rest =>
               obtain ⟨na, nb, rfl, rfl, p0, p1, p2, z0, z1, z2, hbx⟩ := hcut
               have HC2 := Lib.hid (hch.out.below hbx.out)
               obtain ⟨kx0', kx1', hxz', _⟩ := HX2.out _ HC2.out.2.2.2.2.2.2.2
               obtain ⟨s0, s1, s2, sf0, sf1, sf2, swz, _⟩ := HC2.out
               have HK1 := Lib.hid c1
               clear c0 c1 c2 f0 f1 f2 hwz kx0 kx1 hxz d1 d2 d3 e1 e2 e3 hlb hlb2
               cases htp : tailP old now T G j with
               | true =>
                 have HS : Hid (runF (tailP old now T G) (m - (j + 1)) (j + 1) = tl) := by show _ = _; rw [← hrun.out, runF_next _ m j hjm htp]
                 have hq := hP.out
                 rw [htp, eq_comm, Bool.and_eq_true, decide_eq_true_eq, beq_iff_eq, Prod.mk.injEq, Prod.mk.injEq] at hq
                 obtain ⟨q1, rfl, rfl, q4⟩ := hq
                 have g1 : decide (x3 < (T : Int)) = false := decide_eq_false (by omega)
                 have hwd : IntKind.i64.wrap (y3 - x3) = G := by rw [IntWalk.i64_in _ (by have := hbX.out; have := hGb.out; omega)]; omega
                 have hjw : IntKind.i64.wrap ((j : Int) + 1) = (j : Int) + 1 := IntWalk.i64_in _ (by omega)
                 clear hP htp q1 q4 hrun
                 go_wp2
                 go_roundw
                 case rel => exact ⟨j + 1, by omega, HC2.out.setT _ (by push_cast; rfl), HS⟩
                 case measure =>
                   rw [cnt_eq HK1.out, cnt_eq (HC2.out.setT _ (by push_cast; rfl)).2.1]; simp; omega
               | false =>
                 have HS : Hid (tl = j) := by
                   show _ = _
                   rw [← hrun.out]
                   exact runF_stop _ _ _ fun h => htp
                 have hq := hP.out
                 rw [htp] at hq
                 clear hrun hP htp
                 go_upto_region 15 with fail
                 go_cut [155] from 94 to 159 (fun c wx => c = .bool true ∧ wx = wc)
                 case first =>
                   by_cases a1 : x3 < (T : Int)
                   · have g1 : decide (x3 < (T : Int)) = true := decide_eq_true a1
                     clear hq a1
                     go_wp2
                     go_meet
                     exact ⟨rfl, rfl⟩
                   · have g1 : decide (x3 < (T : Int)) = false := decide_eq_false a1
                     rw [decide_eq_true (show x3 ≥ (T : Int) by omega), Bool.true_and, eq_comm, beq_eq_false_iff_ne] at hq
                     have hdd := lx_parts hq
                     simp only at hdd
                     clear hq a1
                     rcases hdd with hdd | ⟨rfl, hdd⟩ | ⟨rfl, rfl, hdd⟩
                     · have g2 : ((x1 : Int) != (y1 : Int)) = true := by rw [bne_iff_ne]; omega
                       clear hdd
                       go_wp2
                       go_meet
                       exact ⟨rfl, rfl⟩
                     · have g2 : ¬ ((mkS x2).toList = (mkS y2).toList) := by rw [mkS_tl]; exact hdd
                       have g3 : ((mkS x2).toList == (mkS y2).toList) = false := by rw [beq_eq_false_iff_ne]; exact g2
                       clear hdd
                       go_wp2
                       go_meet
                       exact ⟨rfl, rfl⟩
                     · obtain ⟨D, hD⟩ : ∃ D, D = y3 - x3 := ⟨_, rfl⟩
                       have hwd : IntKind.i64.wrap (y3 - x3) = D := by rw [IntWalk.i64_in _ (by have := hbX.out; have := hby.out; omega), hD]
                       have g2 : (D != G) = true := by rw [bne_iff_ne]; omega
                       clear hdd hD
                       go_wp2
                       go_meet
                       exact ⟨rfl, rfl⟩
                 case rest =>
                   obtain ⟨rfl, rfl⟩ := hcut
                   go_wp2
                   go_meet
                   show ChgJ _ _ _ _
                   rw [HS.out]; exact HC2.out
           · have HS : Hid (tl = j) := by
               show _ = _
               rw [← hrun.out]
               exact runF_stop _ _ _ fun h => absurd h hjm
             clear hrun
             by_cases a1 : j < n1
             · have D1 : decide ((j : Int) < (n1 : Int)) = true := decide_eq_true (by omega)
               have D2 : decide ((j : Int) < (n2 : Int)) = false := decide_eq_false (by have := HM.out; omega)
               have D2' : decide (j < n2) = false := decide_eq_false (by have := HM.out; omega)
               clear hjm
               go_wp2
               go_meet
               show ChgJ _ _ _ _
               rw [HS.out]; exact hch.out
             · have D1 : decide ((j : Int) < (n1 : Int)) = false := decide_eq_false (by omega)
               have D1' : decide (j < n1) = false := decide_eq_false a1
               clear hjm
               go_wp2
               go_meet
               show ChgJ _ _ _ _
               rw [HS.out]; exact hch.out
        case rest =>
          have HCF := Lib.hid hcut.out
          obtain ⟨c0, c1, c2, f0, f1, f2, hwz, hbel⟩ := HCF.out
          have HBL := Lib.hid hbel
          obtain ⟨kx0, kx1, hxz, hxb⟩ := HX.out _ hbel
          have HZ3 : Hid (w.heap.size + 1 < w3.heap.size) := by have := (HX.out w3 (Below.refl _ _)).2.2.1; exact this
          obtain ⟨K, hK⟩ : ∃ K, K = n2 - tl := ⟨_, rfl⟩
          have hap2 : k + tl ≤ n2 := by rw [← HD.out]; exact hap
          have hw1 : IntKind.i64.wrap ((n2 : Int) - (tl : Int)) = (K : Int) := by rw [IntWalk.i64_in _ (by omega)]; omega
          have hK1 : k ≤ K := by omega
          have hK2 : K ≤ n2 := by omega
          have hK3 : K ≤ ncap := by omega
          have HR2 : Hid (rescF s (F, T, put) = ((k, tl, (now.take K).drop k), 0, 0)) := by show _ = _; rw [HR.out, ← HD.out, hK]
          have HLN : Hid (((now.take K).drop k).length = K - k) := by show _ = _; simp; rw [← HN2.out]; omega
          have HLM : Hid (((now.take K).drop k).length ≤ 900) := by show _ ≤ _; rw [HLN.out]; omega
          have HOW2 := HOWN.out
          clear hbel hxb hcut hK hap HX HA2 HB2
          rcases HOW2.2 with ⟨hnil, h0⟩ | ⟨g, cap, cur, hsl, _⟩
          · simp only [Value.slice.injEq] at hnil
            obtain ⟨rfl, hn0, rfl⟩ := hnil
            obtain rfl : K = 0 := by omega
            obtain rfl : k = 0 := by omega
            obtain rfl : tl = 0 := by omega
            subst hn0
            clear HOW2 hap2
            have HBW := HBL.out
            obtain ⟨r0, r1, r2, q0, q1, q2, hz, _, _, _, hfin⟩ := HC.out wc (Hb3.out.trans (HBL.out.mono Hb3.out.size))
            have HFIN := Lib.hid hfin
            have hz3 : w.heap.size + 1 < w3.heap.size := HZ3.out
            have hz4 : ¬ (w3.heap.size = w.heap.size + 1) := by omega
            have hz5 : ¬ (w.heap.size + 1 = w3.heap.size) := by omega
            clear hfin HBW
            go_wp2
            go_region
            go_wp2
            refine bodyPost_ret (v := .tuple #[.agg #[.int .i64 0, .int .i64 0, .slice none 0 0], .int .i64 0, .int .i64 0]) (by simp [results, Tryz.results21, go_sem, r0, r1, r2, hz, c0, c1, c2, hwz, hz4, hz5]) rfl ⟨.slice none 0 0, ?_, ?_, ?_⟩
            · rw [HR2.out]; rfl
            · rw [HR2.out]; exact ⟨none, 0, by simp, by simp, .inl (by simp)⟩
            · repeat (first | refine Below.drew ?_ | refine Below.setCell ?_ (by first | omega | (simp; omega) | simp) _)
              first | exact HFIN.out.drew | exact HFIN.out
          · simp only [Value.slice.injEq] at hsl
            obtain ⟨rfl, hu1, hu2⟩ := hsl
            clear hu1 hu2 hap2
            by_cases hcap : ncap = k
            · have hKk : K = k := by omega
              clear HOW2
              subst hKk
              have HBW := HBL.out
              obtain ⟨r0, r1, r2, q0, q1, q2, hz, _, _, _, hfin⟩ := HC.out wc (Hb3.out.trans (HBL.out.mono Hb3.out.size))
              have HFIN := Lib.hid hfin
              have hz3 : w.heap.size + 1 < w3.heap.size := HZ3.out
              have hz4 : ¬ (w3.heap.size = w.heap.size + 1) := by omega
              have hz5 : ¬ (w.heap.size + 1 = w3.heap.size) := by omega
              clear hfin HBW
              go_wp2
              go_still_tail 11, (by kernel_rfl)
              go_wp2
              refine bodyPost_ret (v := .tuple #[.agg #[.int .i64 K, .int .i64 tl, .slice none 0 0], .int .i64 0, .int .i64 0]) (by simp [results, Tryz.results21, go_sem, r0, r1, r2, hz, c0, c1, c2, hwz, hz4, hz5]) rfl ⟨.slice none 0 0, ?_, ?_, ?_⟩
              · rw [HR2.out]; rfl
              · rw [HR2.out]; exact ⟨none, 0, by simp, by simp, .inl (by simp)⟩
              · repeat (first | refine Below.drew ?_ | refine Below.setCell ?_ (by first | omega | (simp; omega) | simp) _)
                first | exact HFIN.out.drew | exact HFIN.out
            · skip
              have HRS : Hid (ReadsLx wc (.slice (some ⟨g, k * 3, none⟩) (K - k) (ncap - k)) ((now.take K).drop k)) := by
                show ReadsLx _ _ _
                refine ⟨some ⟨g, k * 3, none⟩, ncap - k, by rw [HLN.out], by have := HLM.out; omega, .inr ⟨g, k * 3, rfl, fun i hi => ?_⟩⟩
                have hi2 : i < K - k := by rw [← HLN.out]; exact hi
                have hki : k + i < now.length := by rw [← HN2.out]; omega
                obtain ⟨a1, a2, a3⟩ := rowCells_get now (k + i) hki
                have hcell : ∀ j u, (rowCells now)[j]? = some u → wc.cell? ⟨g, j, none⟩ = some u := fun j u hu => by
                  have := HOW2.cells (g := g) rfl j u hu
                  have hadd : (⟨g, 0, none⟩ : Addr).add j = ⟨g, j, none⟩ := by unfold Addr.add; split <;> simp_all
                  rw [hadd] at this
                  exact (HBL.out.cell (cell_lt this)).trans this
                have eg : ((now.take K).drop k)[i] = now[k + i] := by simp
                rw [eg, show k * 3 + i * 3 = 3 * (k + i) by omega]
                exact ⟨hcell _ _ a1, hcell _ _ a2, hcell _ _ a3⟩
              obtain ⟨ln, hln⟩ : ∃ ln, ln = ((now.take K).drop k).length := ⟨_, rfl⟩
              have HLE := Lib.hid hln
              clear HOW2 hln
              go_wp2
              go_still_tail 11, (by kernel_rfl)
              go_wp2_with (at_builtin; refine wpList_append_reads rfl _ _ rfl wc.heap.size _ _ 0 [] rfl (World.ownsRow_nil _ _ _ _) rfl ((now.take K).drop k) (HRS.out.below ((Below.refl _ _).drew)) (Nat.le_refl _) (by have := HLM.out; omega) ?_)
              intro v' w5 hown hb5
              have hown' : w5.ownsRow wc.heap.size 51 3 v' ln (rowCells ((now.take K).drop k)) := by rw [HLE.out]; simpa using hown
              clear hown
              obtain ⟨pp, cc, rfl⟩ := ownsRow_slice hown'
              have HB5 : Hid (Below wc.heap.size wc w5) := (Below.refl _ _).drew.trans hb5
              obtain ⟨t0, t1, t2, t3, t4, t5, t6, t7⟩ := HCF.out.below HB5.out
              obtain ⟨r0, r1, r2, q0, q1, q2, hz, _, _, _, hfin⟩ := HC.out w5 (Hb3.out.trans (t7.mono Hb3.out.size))
              have HFIN := Lib.hid hfin
              have HRD := Lib.hid (fun (W : World) hc => reads_far (W := W) (ls := (now.take K).drop k) (by rw [← HLE.out]; exact hown') (by have := HLM.out; omega) hc)
              have hzz : w.heap.size + 1 < wc.heap.size := hxz
              have hzw : w3.heap.size < wc.heap.size := hwz
              have hz3 : w.heap.size + 1 < w3.heap.size := HZ3.out
              have hz4 : ¬ (w3.heap.size = w.heap.size + 1) := by omega
              have hz5 : ¬ (w.heap.size + 1 = w3.heap.size) := by omega
              clear hown' hb5 hfin c0 c1 c2 f0 f1 f2 hwz kx0 kx1 hxz t7
              go_wp2
              refine bodyPost_ret (v := .tuple #[.agg #[.int .i64 k, .int .i64 tl, .slice pp ln cc], .int .i64 0, .int .i64 0]) (by simp [results, Tryz.results21, go_sem, r0, r1, r2, hz, t0, t1, t2, t6, hz4, hz5]) rfl ⟨.slice pp ln cc, ?_, ?_, ?_⟩
              · rw [HR2.out]; rfl
              · rw [HR2.out, HLE.out] at *
                exact HRD.out _ (fun b o hb => by rw [set_far (by first | omega | (simp; omega)) b o hb, set_far (by first | omega | (simp; omega)) b o hb, set_far (by first | omega | (simp; omega)) b o hb, set_far (by first | omega | (simp; omega)) b o hb])
              · repeat (first | refine Below.drew ?_ | refine Below.setCell ?_ (by first | omega | (simp; omega) | simp) _)
                exact HFIN.out

theorem refRescan_any (s : List UInt8) (x : Ed) (w : World) (hs : s.length ≤ 100000) (hput : x.2.2.length ≤ 100000) :
    Calls Tryz.prog 21 #[.string (mkS s), edV x] w (RescPost s x w) := by
  by_cases h : (scanF s).2.2 = 0
  · cases h2 : isEd s x with
    | true =>
      obtain ⟨F, T, hx, hF, hT⟩ := isEd_nat h2
      obtain ⟨F', T', put⟩ := x
      simp only [Prod.mk.injEq] at hx
      obtain ⟨rfl, rfl, _⟩ := hx
      by_cases h3 : (scanF (splF s (F, T, put))).2.2 = 0
      · exact refResc_ok s put F T w hs hput h hF hT h3
      · exact refResc_e2 s put F T w hs hput h hF hT h3
    | false => exact refResc_range s x w (by omega) h h2
  · exact refResc_e1 s x w (by omega) h
end Go.Proofs.YtlhbfgkcalalkaaGreatDoor
