/- The reference's Rescan, where there is an error. -/
import Derived.Test.YtlhbfgkcalalkaaGreatDoorYb
import Derived.Test.YtlhbfgkcalalkaaGreatDoorQa
import Derived.Test.YtlhbfgkcalalkaaGreatDoorIc
set_option linter.unusedVariables false
set_option linter.unusedSimpArgs false
namespace Go.Proofs.YtlhbfgkcalalkaaGreatDoor
open Go.RowKit Go.Shelf Go.Lib

set_option maxRecDepth 100000 in
set_option maxHeartbeats 2000000 in
theorem refResc_e1 (s : List UInt8) (x : Ed) (w : World) (hs : s.length ≤ 140737488355328) (h : (scanF s).2.2 ≠ 0) :
    Calls Tryz.prog 21 #[.string (mkS s), edV x] w (RescPost s x w) := by
  have CS : Hid (∀ W, Calls Tryz.prog 11 #[.string (mkS s)] W (ScanP (scanF s).1 (scanF s).2.1 (scanF s).2.2 W)) := fun W => refScan_any s W (by omega)
  obtain ⟨A, hA⟩ : ∃ A : Int, A = (scanF s).2.1 := ⟨_, rfl⟩
  obtain ⟨E, hE⟩ : ∃ E : Int, E = (scanF s).2.2 := ⟨_, rfl⟩
  rw [← hA, ← hE] at CS
  have hb0 : (E != 0) = true := by rw [bne_iff_ne, hE]; omega
  have HR : Hid (rescF s x = ((0, 0, []), (scanF s).2.1, (scanF s).2.2)) := by show _ = _; unfold rescF; rw [if_pos h]
  have HA := Lib.hid hA; have HE := Lib.hid hE
  have HC := Lib.hid (rescW_cells w x)
  have HB := Lib.hid (rescW_below w x)
  unfold edV
  clear hA hE h
  go_enter Tryz.func21, Tryz.ntmps21
  go_wp2_with fail
  refine (CS.out _).mono ?_
  rintro e w1 ⟨v, rfl, hown, hb⟩
  obtain ⟨r0, r1, r2, q0, q1, q2, hz, k0, k1, k2, hfin⟩ := HC.out w1 hb
  clear hown hb
  go_wp2
  refine bodyPost_ret (v := .tuple #[.agg #[.int .i64 0, .int .i64 0, .slice none 0 0], .int .i64 A, .int .i64 E]) (by simp [results, Tryz.results21, go_sem, r0, r1, r2, hz]) rfl ⟨.slice none 0 0, ?_, ?_, ?_⟩
  · rw [HR.out, HA.out, HE.out]; rfl
  · rw [HR.out]; exact ⟨none, 0, rfl, by simp, .inl rfl⟩
  · repeat (first | refine Below.setCell ?_ (by simp) _ | refine Below.alloc ?_ hfin.size _)
    exact hfin

set_option maxRecDepth 100000 in
set_option maxHeartbeats 2000000 in
theorem refResc_range (s : List UInt8) (x : Ed) (w : World) (hs : s.length ≤ 140737488355328) (h : (scanF s).2.2 = 0) (h2 : isEd s x = false) :
    Calls Tryz.prog 21 #[.string (mkS s), edV x] w (RescPost s x w) := by
  have CS : Hid (∀ W, Calls Tryz.prog 11 #[.string (mkS s)] W (ScanP (scanF s).1 (scanF s).2.1 0 W)) := fun W => by
    have := refScan_any s W (by omega); rw [h] at this; exact this
  have CP : Hid (∀ W, Calls Tryz.prog 50 #[.string (mkS s), .agg #[.int .i64 x.1, .int .i64 x.2.1, .string (mkS x.2.2)]] W fun e w' => e = .returned (.bool false) ∧ Below W.heap.size W w') := fun W => by
    have := refIsEdit_any s x W
    rw [h2] at this; exact this
  obtain ⟨A, hA⟩ : ∃ A : Int, A = (scanF s).2.1 := ⟨_, rfl⟩
  rw [← hA] at CS
  have HR : Hid (rescF s x = ((0, 0, []), 0, 3)) := by show _ = _; unfold rescF; rw [if_neg (by omega), if_neg (by rw [h2]; decide)]
  have HC := Lib.hid (rescW_cells w x)
  have HB := Lib.hid (rescW_below w x)
  unfold edV
  clear hA h h2
  go_enter Tryz.func21, Tryz.ntmps21
  go_wp2_with fail
  refine (CS.out _).mono ?_
  rintro e w1 ⟨v, rfl, hown, hb⟩
  obtain ⟨r0, r1, r2, q0, q1, q2, hz, k0, k1, k2, hfin⟩ := HC.out w1 hb
  have Hb := Lib.hid hb
  clear hown hb r0 r1 r2 q0 q1 q2
  go_wp2_with fail
  refine (CP.out _).mono ?_
  rintro e w2 ⟨rfl, hb2⟩
  obtain ⟨r0, r1, r2, q0, q1, q2, hz2, k0', k1', k2', hfin2⟩ := HC.out w2 (Hb.out.trans (hb2.mono Hb.out.size))
  clear hb2 k0 k1 k2 k0' k1' k2' hz
  go_wp2
  refine bodyPost_ret (v := .tuple #[.agg #[.int .i64 0, .int .i64 0, .slice none 0 0], .int .i64 0, .int .i64 3]) (by simp [results, Tryz.results21, go_sem, r0, r1, r2, hz2]) rfl ⟨.slice none 0 0, ?_, ?_, ?_⟩
  · rw [HR.out]; rfl
  · rw [HR.out]; exact ⟨none, 0, rfl, by simp, .inl rfl⟩
  · repeat (first | refine Below.setCell ?_ (by simp) _ | refine Below.alloc ?_ (by first | exact hfin2.size | (simp; have := hfin2.size; omega)) _)
    exact hfin2

set_option maxRecDepth 100000 in
set_option maxHeartbeats 2000000 in
theorem refResc_e2 (s put : List UInt8) (F T : Nat) (w : World) (hs : s.length ≤ 100000) (hput : put.length ≤ 100000) (h : (scanF s).2.2 = 0) (h1 : F ≤ T) (h2 : T ≤ s.length) (h3 : (scanF (splF s (F, T, put))).2.2 ≠ 0) :
    Calls Tryz.prog 21 #[.string (mkS s), edV (F, T, put)] w (RescPost s (F, T, put) w) := by
  have hed : isEd s (F, T, put) = true := by simp only [isEd, Bool.and_eq_true, decide_eq_true_eq]; exact ⟨⟨by omega, by omega⟩, by omega⟩
  have hsp : (mkS s).extract 0 F ++ mkS put ++ (mkS s).extract T (mkS s).size = mkS (splF s (F, T, put)) := splice_bytes s put F T
  have htl : (splF s (F, T, put)).length ≤ 300000 := by
    have : (splF s (F, T, put)).length = F + put.length + (s.length - T) := by unfold splF; simp; omega
    omega
  obtain ⟨t, ht⟩ : ∃ t, t = splF s (F, T, put) := ⟨_, rfl⟩
  have CS : Hid (∀ W, Calls Tryz.prog 11 #[.string (mkS s)] W (ScanP (scanF s).1 (scanF s).2.1 0 W)) := fun W => by
    have := refScan_any s W (by omega); rw [h] at this; exact this
  have CP : Hid (∀ W, Calls Tryz.prog 50 #[.string (mkS s), .agg #[.int .i64 F, .int .i64 T, .string (mkS put)]] W fun e w' => e = .returned (.bool true) ∧ Below W.heap.size W w') := fun W => by
    have := refIsEdit_any s (F, T, put) W
    rw [hed] at this; exact this
  have HR : Hid (rescF s (F, T, put) = ((0, 0, []), (scanF t).2.1, (scanF t).2.2)) := by show _ = _; unfold rescF; rw [if_neg (by omega), if_pos hed, if_pos h3, ht]
  rw [← ht] at h3 hsp htl
  have CT : Hid (∀ W, Calls Tryz.prog 11 #[.string ((mkS s).extract 0 F ++ mkS put ++ (mkS s).extract T (mkS s).size)] W (ScanP (scanF t).1 (scanF t).2.1 (scanF t).2.2 W)) := fun W => by
    rw [hsp]; exact refScan_any t W (by omega)
  obtain ⟨A, hA⟩ : ∃ A : Int, A = (scanF s).2.1 := ⟨_, rfl⟩
  obtain ⟨A2, hA2⟩ : ∃ A : Int, A = (scanF t).2.1 := ⟨_, rfl⟩
  obtain ⟨E2, hE2⟩ : ∃ E : Int, E = (scanF t).2.2 := ⟨_, rfl⟩
  rw [← hA] at CS
  rw [← hA2, ← hE2] at CT
  have hb0 : (E2 != 0) = true := by rw [bne_iff_ne, hE2]; omega
  have HA := Lib.hid hA2; have HE := Lib.hid hE2
  have HC := Lib.hid (rescW_cells w (F, T, put))
  have HB := Lib.hid (rescW_below w (F, T, put))
  have hsz : (mkS s).size = s.length := mkS_size s
  have h2' : T ≤ (mkS s).size := by omega
  have g3 : (mkS s).size ≤ 100000 := by omega
  have g4 : (mkS put).size ≤ 100000 := by rw [mkS_size]; omega
  unfold edV
  clear hA hA2 hE2 h hput ht htl h3 hed hsp hsz h2 hs
  go_enter Tryz.func21, Tryz.ntmps21
  go_wp2_with fail
  refine (CS.out _).mono ?_
  rintro e w1 ⟨v, rfl, hown, hb⟩
  obtain ⟨r0, r1, r2, q0, q1, q2, hz, k0, k1, k2, hfin⟩ := HC.out w1 hb
  have Hb := Lib.hid hb
  clear hown hb r0 r1 r2 q0 q1 q2
  go_wp2_with fail
  refine (CP.out _).mono ?_
  rintro e w2 ⟨rfl, hb2⟩
  obtain ⟨r0, r1, r2, q0, q1, q2, hz2, k0', k1', k2', hfin2⟩ := HC.out w2 (Hb.out.trans (hb2.mono Hb.out.size))
  have Hb2 := Lib.hid (Hb.out.trans (hb2.mono Hb.out.size))
  clear hb2 k0 k1 k2 hz r0 r1 r2 q0 q1 q2 hfin
  go_wp2
  go_region
  go_wp2_with fail
  refine (CT.out _).mono ?_
  rintro e w3 ⟨v3, rfl, hown3, hb3⟩
  obtain ⟨r0, r1, r2, q0, q1, q2, hz3, _, _, _, hfin3⟩ := HC.out w3 (Hb2.out.drew.trans (hb3.mono Hb2.out.drew.size))
  clear hb3 k0' k1' k2' hown3
  go_wp2
  refine bodyPost_ret (v := .tuple #[.agg #[.int .i64 0, .int .i64 0, .slice none 0 0], .int .i64 A2, .int .i64 E2]) (by simp [results, Tryz.results21, go_sem, r0, r1, r2, hz3]) rfl ⟨.slice none 0 0, ?_, ?_, ?_⟩
  · rw [HR.out, HA.out, HE.out]; rfl
  · rw [HR.out]; exact ⟨none, 0, rfl, by simp, .inl rfl⟩
  · repeat (first | refine Below.setCell ?_ (by simp) _ | refine Below.alloc ?_ (by first | exact hfin3.size | (simp; have := hfin3.size; omega)) _)
    exact hfin3
end Go.Proofs.YtlhbfgkcalalkaaGreatDoor
