/- Rescan, whole. -/
import Derived.Test.YtlhbfgkcalalkaaDoorIb
set_option linter.unusedVariables false
set_option linter.unusedSimpArgs false
namespace Go.Proofs.YtlhbfgkcalalkaaDoor
open Go.RowKit Go.Shelf Go.Lib

theorem reads_far {w W : World} {base : Nat} {v : Value} {ls : List Lx} (h : w.ownsRow base 36 3 v ls.length (rowCells ls)) (hl : ls.length ≤ 100000000000)
    (hc : ∀ b o, base ≤ b → W.cell? ⟨b, o, none⟩ = w.cell? ⟨b, o, none⟩) : ReadsLx W v ls := by
  have hr := reads_own h hl
  obtain ⟨p, cap, rfl, hl, h0⟩ := hr
  rcases h.2 with ⟨h1, h2⟩ | ⟨g, cap', cur, h1, hg, _⟩
  · exact ⟨p, cap, rfl, hl, .inl h2⟩
  · refine ⟨p, cap, rfl, hl, ?_⟩
    rcases h0 with h0 | ⟨b, off, rfl, hcc⟩
    · exact .inl h0
    · simp only [Value.slice.injEq, Option.some.injEq, Addr.mk.injEq] at h1
      obtain ⟨⟨rfl, _⟩, _⟩ := h1
      refine .inr ⟨b, off, rfl, fun i hi => ?_⟩
      obtain ⟨a1, a2, a3⟩ := hcc i hi
      exact ⟨(hc _ _ hg).trans a1, (hc _ _ hg).trans a2, (hc _ _ hg).trans a3⟩
theorem set_far {w : World} {a : Addr} {u : Value} {base : Nat} (h : a.block < base) (b o : Nat) (hb : base ≤ b) : (w.setCell a u).cell? ⟨b, o, none⟩ = w.cell? ⟨b, o, none⟩ := by
  rw [World.cell?_setCell_other (h := fun e => by have : a.block = b := congrArg Addr.block e; omega)]
theorem rowCells_mid (now : List Lx) (hd K : Nat) (h : hd ≤ K) (hK : K ≤ now.length) (j : Nat) (u : Value) (hu : (rowCells ((now.take K).drop hd))[j]? = some u) : (rowCells now)[hd * 3 + j]? = some u := by
  have e : now = (now.take K).take hd ++ ((now.take K).drop hd ++ now.drop K) := by
    rw [← List.append_assoc, List.take_append_drop, List.take_append_drop]
  have e2 : rowCells now = rowCells ((now.take K).take hd) ++ (rowCells ((now.take K).drop hd) ++ rowCells (now.drop K)) := by
    conv => lhs; rw [e]
    simp [rowCells]
  have hl : (rowCells ((now.take K).take hd)).length = hd * 3 := by
    rw [rowCells_length]; simp; omega
  have hj : j < (rowCells ((now.take K).drop hd)).length := (List.getElem?_eq_some_iff.1 hu).1
  rw [e2, List.getElem?_append_right (by omega), hl, show hd * 3 + j - hd * 3 = j by omega, List.getElem?_append_left hj]
  exact hu

set_option maxRecDepth 100000 in
set_option maxHeartbeats 2000000 in
theorem resc_e2 (s : List UInt8) (x : Ed) (w : World) (hs : s.length ≤ 100000000000) (hput : x.2.2.length ≤ 100000000000) (he : ErrOk w) (h : (scanF s).2.2 = 0) (h2 : isEd s x = true) (h3 : (scanF (splF s x)).2.2 ≠ 0) :
    Calls Tryd.prog 13 #[.string (mkS s), edV x] w (RescPost s x w) := by
  obtain ⟨t, ht⟩ : ∃ t, t = splF s x := ⟨_, rfl⟩
  have htl : t.length ≤ 300000000000 := by
    rw [ht]; unfold splF
    have h5 := List.length_take_le' x.1.toNat s
    have h6 : (s.drop x.2.1.toNat).length ≤ s.length := by simp
    rw [List.length_append, List.length_append]; omega
  have CS : Hid (∀ W, Below w.heap.size w W → Calls Tryd.prog 10 #[.string (mkS s)] W (ScanP (scanF s).1 (scanF s).2.1 0 W)) := fun W hW => by
    have := scanP s W (by omega) (he.below hW); rw [h] at this; exact this
  have CP : Hid (∀ W, Calls Tryd.prog 34 #[.string (mkS s), .agg #[.int .i64 x.1, .int .i64 x.2.1, .string (mkS x.2.2)]] W fun e w' => e = .returned (.tuple #[.agg #[.int .i64 x.1, .int .i64 x.2.1, .string (mkS x.2.2), .string (mkS s), .string (mkS t)], .bool true]) ∧ Below W.heap.size W w') := fun W => by
    have := splice_any s x W (by omega) (by omega)
    unfold splOut at this
    rw [h2, if_pos rfl, ← ht] at this; exact this
  have HR : Hid (rescF s x = ((0, 0, []), (scanF t).2.1, (scanF t).2.2)) := by show _ = _; unfold rescF; rw [if_neg (by omega), if_pos h2, if_pos h3, ht]
  rw [← ht] at h3
  have CT : Hid (∀ W, Below w.heap.size w W → Calls Tryd.prog 10 #[.string (mkS t)] W (ScanP (scanF t).1 (scanF t).2.1 (scanF t).2.2 W)) := fun W hW => scanP t W (by omega) (he.below hW)
  obtain ⟨A, hA⟩ : ∃ A : Int, A = (scanF s).2.1 := ⟨_, rfl⟩
  obtain ⟨A2, hA2⟩ : ∃ A : Int, A = (scanF t).2.1 := ⟨_, rfl⟩
  obtain ⟨E2, hE2⟩ : ∃ E : Int, E = (scanF t).2.2 := ⟨_, rfl⟩
  rw [← hA] at CS
  rw [← hA2, ← hE2] at CT
  have hb0 : (E2 != 0) = true := by rw [bne_iff_ne, hE2]; omega
  have HA := Lib.hid hA2; have HE := Lib.hid hE2
  have HC := Lib.hid (rescW_cells w x)
  have HB := Lib.hid (rescW_below w x)
  unfold edV
  clear hA hA2 hE2 he h h2 hput ht htl h3
  go_enter Tryd.func13, Tryd.ntmps13
  go_wp2_with fail
  refine (CS.out _ HB.out).mono ?_
  rintro e w1 ⟨v, rfl, hown, hb⟩
  obtain ⟨r0, r1, r2, q0, q1, q2, hz, k0, k1, k2, hfin⟩ := HC.out w1 hb
  have Hb := Lib.hid hb
  clear hown hb r0 r1 r2 q0 q1 q2
  go_wp2_with fail
  refine (CP.out _).mono ?_
  rintro e w2 ⟨rfl, hb2⟩
  obtain ⟨r0, r1, r2, q0, q1, q2, hz2, k0', k1', k2', hfin2⟩ := HC.out w2 (Hb.out.trans (hb2.mono Hb.out.size))
  have Hb2 := Lib.hid (Hb.out.trans (hb2.mono Hb.out.size))
  clear hb2 k0 k1 k2 k0' k1' k2' hz r0 r1 r2 q0 q1 q2 hfin
  go_wp2_with fail
  refine (CT.out _ (hfin2.alloc hfin2.size _)).mono ?_
  rintro e w3 ⟨v3, rfl, hown3, hb3⟩
  obtain ⟨r0, r1, r2, q0, q1, q2, hz3, k0', k1', k2', hfin3⟩ := HC.out w3 (((Hb2.out.alloc Hb2.out.size _)).trans (hb3.mono (by simp; have := Hb2.out.size; omega)))
  clear hb3 k0' k1' k2' hown3
  go_wp2
  refine bodyPost_ret (v := .tuple #[.agg #[.int .i64 0, .int .i64 0, .slice none 0 0], .int .i64 A2, .int .i64 E2]) (by simp [results, Tryd.results13, go_sem, r0, r1, r2, hz3]) rfl ⟨.slice none 0 0, ?_, ?_, ?_⟩
  · rw [HR.out, HA.out, HE.out]; rfl
  · rw [HR.out]; exact ⟨none, 0, rfl, by simp, .inl rfl⟩
  · repeat (first | refine Below.setCell ?_ (by simp) _ | refine Below.alloc ?_ (by first | exact hfin3.size | (simp; have := hfin3.size; omega)) _)
    exact hfin3

set_option maxRecDepth 100000 in
set_option maxHeartbeats 4000000 in
theorem resc_ok (s : List UInt8) (x : Ed) (w : World) (hs : s.length ≤ 100000000000) (hput : x.2.2.length ≤ 100000000000) (he : ErrOk w) (h : (scanF s).2.2 = 0) (h2 : isEd s x = true) (h3 : (scanF (splF s x)).2.2 = 0) :
    Calls Tryd.prog 13 #[.string (mkS s), edV x] w (RescPost s x w) := by
  obtain ⟨t, ht⟩ : ∃ t, t = splF s x := ⟨_, rfl⟩
  have htl : t.length ≤ 300000000000 := by
    rw [ht]; unfold splF
    have h5 := List.length_take_le' x.1.toNat s
    have h6 : (s.drop x.2.1.toNat).length ≤ s.length := by simp
    rw [List.length_append, List.length_append]; omega
  have CS : Hid (∀ W, Below w.heap.size w W → Calls Tryd.prog 10 #[.string (mkS s)] W (ScanP (scanF s).1 (scanF s).2.1 0 W)) := fun W hW => by
    have := scanP s W (by omega) (he.below hW); rw [h] at this; exact this
  have CP : Hid (∀ W, Calls Tryd.prog 34 #[.string (mkS s), .agg #[.int .i64 x.1, .int .i64 x.2.1, .string (mkS x.2.2)]] W fun e w' => e = .returned (.tuple #[.agg #[.int .i64 x.1, .int .i64 x.2.1, .string (mkS x.2.2), .string (mkS s), .string (mkS t)], .bool true]) ∧ Below W.heap.size W w') := fun W => by
    have := splice_any s x W (by omega) (by omega)
    unfold splOut at this
    rw [h2, if_pos rfl, ← ht] at this; exact this
  obtain ⟨hd, hhd⟩ : ∃ hd, hd = headF (scanF s).1 (scanF t).1 x.1 := ⟨_, rfl⟩
  obtain ⟨tl, htl2⟩ : ∃ tl, tl = tailF (scanF s).1 (scanF t).1 x.2.1 ((t.length : Int) - s.length) := ⟨_, rfl⟩
  have HR : Hid (rescF s x = ((hd, tl, ((scanF t).1.take ((scanF t).1.length - tl)).drop hd), 0, 0)) := by
    show _ = _; unfold rescF; rw [if_neg (by omega), if_pos h2, if_neg (by omega), hhd, htl2, ht]
  rw [← ht] at h3
  have hap : hd + tl ≤ (scanF t).1.length := by
    rw [hhd, htl2]
    apply apart
    obtain ⟨F, T, hx, hF, hT⟩ := isEd_nat h2
    obtain ⟨F', T', put⟩ := x
    simp only [Prod.mk.injEq] at hx
    obtain ⟨rfl, rfl, _⟩ := hx
    have : t.length = F + put.length + (s.length - T) := by
      rw [ht]; unfold splF; simp; omega
    simp only; omega
  have CT : Hid (∀ W, Below w.heap.size w W → Calls Tryd.prog 10 #[.string (mkS t)] W (ScanP (scanF t).1 (scanF t).2.1 0 W)) := fun W hW => by
    have := scanP t W (by omega) (he.below hW); rw [h3] at this; exact this
  have hl1 := scanF_len s; have hl2 := scanF_len t
  have CH : Hid (∀ W ov nv, ReadsLx W ov (scanF s).1 → ReadsLx W nv (scanF t).1 → Calls Tryd.prog 35 #[.agg #[.int .i64 x.1, .int .i64 x.2.1, .string (mkS x.2.2), .string (mkS s), .string (mkS t)], ov, nv] W fun e w' => e = .returned (.int .i64 hd) ∧ Below W.heap.size W w') := fun W ov nv ho hn => by
    rw [hhd]; exact head_any _ _ ov nv x s t W ho hn
  have CL : Hid (∀ W ov nv, ReadsLx W ov (scanF s).1 → ReadsLx W nv (scanF t).1 → Calls Tryd.prog 36 #[.agg #[.int .i64 x.1, .int .i64 x.2.1, .string (mkS x.2.2), .string (mkS s), .string (mkS t)], ov, nv] W fun e w' => e = .returned (.int .i64 tl) ∧ Below W.heap.size W w') := fun W ov nv ho hn => by
    rw [htl2]; exact tail_any _ _ ov nv x s t W ho hn (by omega) (by omega) (fun y hy => by have := scanF_places s y hy; omega)
  obtain ⟨A, hA⟩ : ∃ A : Int, A = (scanF s).2.1 := ⟨_, rfl⟩
  obtain ⟨A2, hA2⟩ : ∃ A : Int, A = (scanF t).2.1 := ⟨_, rfl⟩
  rw [← hA] at CS
  rw [← hA2] at CT
  obtain ⟨old, hold⟩ : ∃ old, old = (scanF s).1 := ⟨_, rfl⟩
  obtain ⟨now, hnow⟩ : ∃ now, now = (scanF t).1 := ⟨_, rfl⟩
  rw [← hold] at CS CH CL hl1
  rw [← hnow] at CT CH CL hap HR hl2
  obtain ⟨m, hm⟩ : ∃ m, m = now.length := ⟨_, rfl⟩
  rw [← hm] at hap HR hl2
  have HM := Lib.hid hm
  have HC := Lib.hid (rescW_cells w x)
  have HB := Lib.hid (rescW_below w x)
  have HL1 := Lib.hid hl1
  have HE := Lib.hid he
  unfold edV
  clear hA hA2 he h h2 hput ht htl h3 hhd htl2 hold hnow hm hs hl1
  go_enter Tryd.func13, Tryd.ntmps13
  go_wp2_with fail
  refine (CS.out _ HB.out).mono ?_
  rintro e w1 ⟨ov, rfl, hown, hb⟩
  obtain ⟨r0, r1, r2, q0, q1, q2, hz, k0, k1, k2, hfin⟩ := HC.out w1 hb
  have Hb := Lib.hid hb
  have HO := Lib.hid (reads_own hown (by have := HL1.out; omega))
  clear hown hb r0 r1 r2 q0 q1 q2
  go_wp2_with fail
  refine (CP.out _).mono ?_
  rintro e w2 ⟨rfl, hb2⟩
  obtain ⟨r0, r1, r2, q0, q1, q2, hz2, k0', k1', k2', hfin2⟩ := HC.out w2 (Hb.out.trans (hb2.mono Hb.out.size))
  have Hb2 := Lib.hid (Hb.out.trans (hb2.mono Hb.out.size))
  have HO2 := Lib.hid (HO.out.below hb2)
  clear hb2 k0 k1 k2 k0' k1' k2' hz r0 r1 r2 q0 q1 q2 hfin HO
  go_wp2_with fail
  refine (CT.out _ (hfin2.alloc hfin2.size _)).mono ?_
  rintro e w3 ⟨nv, rfl, hown3, hb3⟩
  have Hb3 := Lib.hid (((Hb2.out.alloc Hb2.out.size _)).trans (hb3.mono (by simp; have := Hb2.out.size; omega)))
  have HO3 := Lib.hid ((HO2.out.below ((Below.refl _ _).alloc (Nat.le_refl _) _)).below hb3)
  have HN3 := Lib.hid (reads_own hown3 (by rw [← HM.out]; omega) : ReadsLx w3 nv now)
  rw [← HM.out] at hown3
  have d : Hid (w3.cell? ⟨w2.heap.size, 0, none⟩ = some (.int .i64 x.1) ∧ w3.cell? ⟨w2.heap.size, 1, none⟩ = some (.int .i64 x.2.1) ∧ w3.cell? ⟨w2.heap.size, 2, none⟩ = some (.string (mkS x.2.2)) ∧ w3.cell? ⟨w2.heap.size, 3, none⟩ = some (.string (mkS s)) ∧ w3.cell? ⟨w2.heap.size, 4, none⟩ = some (.string (mkS t))) := by
    have e : ∀ i, w3.cell? ⟨w2.heap.size, i, none⟩ = (w2.alloc (.cells #[.int .i64 x.1, .int .i64 x.2.1, .string (mkS x.2.2), .string (mkS s), .string (mkS t)] 78)).cell? ⟨w2.heap.size, i, none⟩ := fun i => hb3.cell (by simp)
    refine ⟨?_, ?_, ?_, ?_, ?_⟩
    · rw [e]; simp [go_sem]
    · rw [e]; simp [go_sem]
    · rw [e]; simp [go_sem]
    · rw [e]; simp [go_sem]
    · rw [e]; simp [go_sem]
  have hD : w2.heap.size < w3.heap.size := cell_lt d.out.1
  have hown4 := hown3
  obtain ⟨np, ncap, rfl⟩ := ownsRow_slice hown3
  have hncap : m ≤ ncap := by
    rcases hown4.2 with ⟨h1, h0⟩ | ⟨g, cap, cur, h1, _, _, hcap, _⟩
    · omega
    · simp only [Value.slice.injEq] at h1; omega
  have KS : Hid (∀ W, Below w3.heap.size w3 W → (W.cell? ⟨w2.heap.size, 0, none⟩ = some (.int .i64 x.1) ∧ W.cell? ⟨w2.heap.size, 1, none⟩ = some (.int .i64 x.2.1) ∧ W.cell? ⟨w2.heap.size, 2, none⟩ = some (.string (mkS x.2.2)) ∧ W.cell? ⟨w2.heap.size, 3, none⟩ = some (.string (mkS s)) ∧ W.cell? ⟨w2.heap.size, 4, none⟩ = some (.string (mkS t)) ∧ Below w3.heap.size w3 W)) := fun W hW => by
    obtain ⟨d0, d1, d2, d3, d4⟩ := d.out
    exact ⟨(hW.cell hD).trans d0, (hW.cell hD).trans d1, (hW.cell hD).trans d2, (hW.cell hD).trans d3, (hW.cell hD).trans d4, hW⟩
  have CH2 : Hid (∀ W, Below w3.heap.size w3 W → Calls Tryd.prog 35 #[.agg #[.int .i64 x.1, .int .i64 x.2.1, .string (mkS x.2.2), .string (mkS s), .string (mkS t)], ov, .slice np m ncap] W fun e w' => e = .returned (.int .i64 hd) ∧ Below w3.heap.size w3 w') := fun W hW =>
    (CH.out W _ _ (HO3.out.below hW) (HN3.out.below hW)).mono fun e w' ⟨he, hb'⟩ => ⟨he, hW.trans (hb'.mono hW.size)⟩
  have CL2 : Hid (∀ W, Below w3.heap.size w3 W → Calls Tryd.prog 36 #[.agg #[.int .i64 x.1, .int .i64 x.2.1, .string (mkS x.2.2), .string (mkS s), .string (mkS t)], ov, .slice np m ncap] W fun e w' => e = .returned (.int .i64 tl) ∧ Below w3.heap.size w3 w') := fun W hW =>
    (CL.out W _ _ (HO3.out.below hW) (HN3.out.below hW)).mono fun e w' ⟨he, hb'⟩ => ⟨he, hW.trans (hb'.mono hW.size)⟩
  have HN4 := Lib.hid hncap
  have HOWN := Lib.hid hown3
  clear hb3 hown3 CH CL CS CT CP hown4 HO3 hfin2
  go_wp2
  go_region_held3 (fun W => W.cell? ⟨w2.heap.size, 0, none⟩ = some (.int .i64 x.1) ∧ W.cell? ⟨w2.heap.size, 1, none⟩ = some (.int .i64 x.2.1) ∧ W.cell? ⟨w2.heap.size, 2, none⟩ = some (.string (mkS x.2.2)) ∧ W.cell? ⟨w2.heap.size, 3, none⟩ = some (.string (mkS s)) ∧ W.cell? ⟨w2.heap.size, 4, none⟩ = some (.string (mkS t)) ∧ Below w3.heap.size w3 W)
    (first | exact KS.out _ (by first | assumption | exact (Below.refl _ _).drew | exact Below.refl _ _ | (refine Below.drew ?_; assumption)))
    (first | (go_at_call 35; refine (CH2.out _ (by first | assumption | exact (Below.refl _ _).drew | exact Below.refl _ _ | (refine Below.drew ?_; assumption))).mono ?_; rintro e wa ⟨rfl, hba⟩) | (go_at_call 36; refine (CL2.out _ (by first | assumption | exact (Below.refl _ _).drew | exact Below.refl _ _ | (refine Below.drew ?_; assumption))).mono ?_; rintro e wb ⟨rfl, hbb⟩))
  have hB : Below (rescW w x).heap.size (rescW w x) wb := Hb3.out.trans (hbb.mono Hb3.out.size)
  obtain ⟨r0, r1, r2, q0, q1, q2, hzb, k0', k1', k2', hfinb⟩ := HC.out wb hB
  have HBB := Lib.hid hB; have Hbb := Lib.hid hbb
  obtain ⟨K, hK⟩ : ∃ K, K = m - tl := ⟨_, rfl⟩
  have hw1 : IntKind.i64.wrap ((m : Int) - (tl : Int)) = (K : Int) := by rw [IntWalk.i64_in _ (by omega)]; omega
  have hK1 : hd ≤ K := by omega
  have hK2 : K ≤ m := by omega
  have hK3 : K ≤ ncap := by have := HN4.out; omega
  have HFin := Lib.hid hfinb
  rw [← hK] at HR
  have e1 : K - hd ≤ 900 := by omega
  clear hK hbb hba hB k0' k1' k2' r0 r1 r2 q0 q1 q2 hzb hncap KS CH2 CL2
  have HOW := HOWN.out
  rcases HOW.2 with ⟨hnil, h0⟩ | ⟨g, cap, cur, hsl, _⟩
  · simp only [Value.slice.injEq] at hnil
    obtain ⟨rfl, rfl, rfl⟩ := hnil
    obtain rfl : K = 0 := by omega
    obtain rfl : hd = 0 := by omega
    obtain rfl : tl = 0 := by omega
    clear HOW h0 hap
    go_wp2_with fail
    refine (clone_none _ _ _).mono ?_
    rintro e wc ⟨rfl, rfl⟩
    obtain ⟨r0, r1, r2, q0, q1, q2, hzb, k0', k1', k2', _⟩ := HC.out wb HBB.out
    clear k0' k1' k2'
    go_wp2
    refine bodyPost_ret (v := .tuple #[.agg #[.int .i64 0, .int .i64 0, .slice none 0 0], .int .i64 0, .int .i64 0]) (by simp [results, Tryd.results13, go_sem, r0, r1, r2, hzb]) rfl ⟨.slice none 0 0, ?_, ?_, ?_⟩
    · rw [HR.out]; rfl
    · rw [HR.out]; exact ⟨none, 0, by simp, by simp, .inl (by simp)⟩
    · repeat (refine Below.setCell ?_ (by simp) _)
      exact HFin.out
  · simp only [Value.slice.injEq] at hsl
    obtain ⟨rfl, _, rfl⟩ := hsl
    by_cases hcap : ncap = hd
    · obtain rfl : K = hd := by omega
      have CC : Hid (Calls Tryd.prog 37 #[.slice (some ⟨g, 0, none⟩) 0 0] wb fun e w' => ∃ v', e = .returned v' ∧ w'.ownsRow wb.heap.size 36 3 v' 0 (rowCells ((now.take K).drop K)) ∧ Below wb.heap.size wb w') :=
        clone_some g 0 0 0 ((now.take K).drop K) wb (by simp) (by omega) (fun j u hu => by
          have : (now.take K).drop K = [] := by simp
          rw [this] at hu; simp [rowCells] at hu)
      clear HOW hap
      go_wp2_with fail
      refine (CC.out).mono ?_
      rintro e wc ⟨v', rfl, hownc, hbc⟩
      obtain ⟨pp, cc, rfl⟩ := ownsRow_slice hownc
      obtain ⟨r0, r1, r2, q0, q1, q2, hzb, k0', k1', k2', hfinc⟩ := HC.out wc (HBB.out.trans (hbc.mono HBB.out.size))
      clear k0' k1' k2' hbc hownc
      go_wp2
      refine bodyPost_ret (v := .tuple #[.agg #[.int .i64 K, .int .i64 tl, .slice pp (0) cc], .int .i64 0, .int .i64 0]) (by simp [results, Tryd.results13, go_sem, r0, r1, r2, hzb]) rfl ⟨.slice pp (0) cc, ?_, ?_, ?_⟩
      · rw [HR.out]; rfl
      · rw [HR.out]
        exact ⟨pp, cc, by simp, by simp, .inl (by simp)⟩
      · repeat (refine Below.setCell ?_ (by simp) _)
        exact hfinc
    · have CC : Hid (Calls Tryd.prog 37 #[.slice (some ⟨g, hd * 3, none⟩) (K - hd) (ncap - hd)] wb fun e w' => ∃ v', e = .returned v' ∧ w'.ownsRow wb.heap.size 36 3 v' (K - hd) (rowCells ((now.take K).drop hd)) ∧ Below wb.heap.size wb w') :=
        clone_some g (hd * 3) (K - hd) (ncap - hd) ((now.take K).drop hd) wb (by have := HM.out; simp; omega) (by omega) (fun j u hu => by
          have hm := rowCells_mid now hd K hK1 (by rw [← HM.out]; exact hK2) j u hu
          have := HOWN.out.cells (g := g) rfl (hd * 3 + j) u hm
          have hadd : (⟨g, 0, none⟩ : Addr).add (hd * 3 + j) = ⟨g, hd * 3 + j, none⟩ := by unfold Addr.add; split <;> simp_all
          rw [hadd] at this
          exact (Hbb.out.cell (cell_lt this)).trans this)
      clear HOW hap
      go_wp2_with fail
      refine (CC.out).mono ?_
      rintro e wc ⟨v', rfl, hownc, hbc⟩
      obtain ⟨pp, cc, rfl⟩ := ownsRow_slice hownc
      obtain ⟨r0, r1, r2, q0, q1, q2, hzb, k0', k1', k2', hfinc⟩ := HC.out wc (HBB.out.trans (hbc.mono HBB.out.size))
      have HRD := Lib.hid (fun (W : World) hc => reads_far (W := W) (ls := (now.take K).drop hd) (by have := HM.out; simpa [Nat.min_eq_left (show K ≤ now.length by omega)] using hownc) (by simp <;> omega) hc)
      have hRb : w.heap.size + 1 < wb.heap.size := by have := HBB.out.size; simp [rescW] at this; omega
      clear k0' k1' k2' hbc hownc
      go_wp2
      refine bodyPost_ret (v := .tuple #[.agg #[.int .i64 hd, .int .i64 tl, .slice pp (K - hd) cc], .int .i64 0, .int .i64 0]) (by simp [results, Tryd.results13, go_sem, r0, r1, r2, hzb]) rfl ⟨.slice pp (K - hd) cc, ?_, ?_, ?_⟩
      · rw [HR.out]; rfl
      · rw [HR.out]
        exact HRD.out _ (fun b o hb => by rw [set_far hRb b o hb, set_far hRb b o hb, set_far hRb b o hb])
      · repeat (refine Below.setCell ?_ (by simp) _)
        exact hfinc

theorem rescan_any (s : List UInt8) (x : Ed) (w : World) (hs : s.length ≤ 100000000000) (hput : x.2.2.length ≤ 100000000000) (he : ErrOk w) :
    Calls Tryd.prog 13 #[.string (mkS s), edV x] w (RescPost s x w) := by
  by_cases h : (scanF s).2.2 = 0
  · cases h2 : isEd s x with
    | true =>
      by_cases h3 : (scanF (splF s x)).2.2 = 0
      · exact resc_ok s x w hs hput he h h2 h3
      · exact resc_e2 s x w hs hput he h h2 h3
    | false => exact resc_range s x w (by omega) (by omega) he h h2
  · exact resc_e1 s x w (by omega) he h
end Go.Proofs.YtlhbfgkcalalkaaDoor
