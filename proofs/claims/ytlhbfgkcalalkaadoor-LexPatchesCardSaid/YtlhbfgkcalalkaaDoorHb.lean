/- The contract of tail's comparison. -/
import Derived.Test.YtlhbfgkcalalkaaDoorHa
import Derived.Deep.RegionHeld3
set_option linter.unusedVariables false
set_option linter.unusedSimpArgs false
namespace Go.Proofs.YtlhbfgkcalalkaaDoor
open Go.RowKit Go.Shelf

/-- What tail asks of a token. -/
def tailP (old now : List Lx) (T G : Int) (i : Nat) : Bool :=
  decide ((old.getD (old.length - 1 - i) (0, [], 0)).2.2 ≥ T) && (((old.getD (old.length - 1 - i) (0, [], 0)).1, (old.getD (old.length - 1 - i) (0, [], 0)).2.1, (old.getD (old.length - 1 - i) (0, [], 0)).2.2 + G) == now.getD (now.length - 1 - i) (0, [], 0))

set_option maxRecDepth 100000 in
set_option maxHeartbeats 4000000 in
theorem tail1 (old now : List Lx) (ov nv : Value) (x : Ed) (s t : List UInt8) (bo bd bn : Nat) (i : Nat) (w : World) (hi : i < old.length) (hi2 : i < now.length)
    (ho : ReadsLx w ov old) (hn : ReadsLx w nv now) (co : w.cell? ⟨bo, 0, none⟩ = some ov) (cn : w.cell? ⟨bn, 0, none⟩ = some nv)
    (cd : w.cell? ⟨bd, 0, none⟩ = some (.int .i64 x.1)) (cd1 : w.cell? ⟨bd, 1, none⟩ = some (.int .i64 x.2.1)) (cd2 : w.cell? ⟨bd, 2, none⟩ = some (.string (mkS x.2.2))) (cd3 : w.cell? ⟨bd, 3, none⟩ = some (.string (mkS s))) (cd4 : w.cell? ⟨bd, 4, none⟩ = some (.string (mkS t)))
    (hs : s.length ≤ 1000000000000) (ht : t.length ≤ 1000000000000) (hpl : ∀ y ∈ old, 0 ≤ y.2.2 ∧ y.2.2 ≤ 100000000000000) :
    Calls Tryd.prog 50 #[.int .i64 i, .pointer (some ⟨bo, 0, none⟩), .pointer (some ⟨bd, 0, none⟩), .pointer (some ⟨bn, 0, none⟩)] w fun e W' => e = .returned (.bool (tailP old now x.2.1 ((t.length : Int) - s.length) i)) ∧ Below w.heap.size w W' := by
  have hlo := ho.len; have hln := hn.len
  obtain ⟨j, hj⟩ : ∃ j, j = old.length - 1 - i := ⟨_, rfl⟩
  obtain ⟨k, hk⟩ : ∃ k, k = now.length - 1 - i := ⟨_, rfl⟩
  obtain ⟨b, off, cap, rfl, a1, a2, a3⟩ := reads_at ho j (by omega)
  obtain ⟨b2, off2, cap2, rfl, c1, c2, c3⟩ := reads_at hn k (by omega)
  obtain ⟨G, hG⟩ : ∃ G, G = (t.length : Int) - (s.length : Int) := ⟨_, rfl⟩
  have HP : Hid (tailP old now x.2.1 G i = (decide ((old.getD j (0, [], 0)).2.2 ≥ x.2.1) && (((old.getD j (0, [], 0)).1, (old.getD j (0, [], 0)).2.1, (old.getD j (0, [], 0)).2.2 + G) == now.getD k (0, [], 0)))) := by show _ = _; rw [hj, hk]; rfl
  have hyr : 0 ≤ (old.getD j (0, [], 0)).2.2 ∧ (old.getD j (0, [], 0)).2.2 ≤ 100000000000000 := by
    have e : old.getD j (0, [], 0) = old[j]'(by omega) := by simp [List.getD_eq_getElem?_getD, show j < old.length by omega]
    rw [e]; exact hpl _ (List.getElem_mem _)
  obtain ⟨y, hy⟩ : ∃ y, y = old.getD j (0, [], 0) := ⟨_, rfl⟩
  obtain ⟨z, hz⟩ : ∃ z, z = now.getD k (0, [], 0) := ⟨_, rfl⟩
  obtain ⟨F, T, put⟩ := x
  rw [← hy] at a1 a2 a3 HP hyr
  rw [← hz] at c1 c2 c3 HP
  have CG : Hid (∀ W, Calls Tryd.prog 51 #[.agg #[.int .i64 F, .int .i64 T, .string (mkS put), .string (mkS s), .string (mkS t)]] W fun e w' => e = .returned (.int .i64 G) ∧ Below W.heap.size W w') := fun W => by
    rw [hG]; exact growth_any (F, T, put) s t W (by omega) (by omega)
  have hGb : -1000000000000 ≤ G ∧ G ≤ 1000000000000 := by omega
  rw [← hG]
  obtain ⟨n, hn'⟩ : ∃ n, n = old.length := ⟨_, rfl⟩
  obtain ⟨m, hm'⟩ : ∃ m, m = now.length := ⟨_, rfl⟩
  rw [← hn'] at co hi hlo hj
  rw [← hm'] at cn hi2 hln hk
  obtain ⟨y1, y2, y3⟩ := y
  obtain ⟨z1, z2, z3⟩ := z
  have CM : Hid (∀ W, Calls Tryd.prog 16 #[.agg #[.int .u8 y1, .string (mkS y2), .int .i64 y3], .int .i64 G] W fun e w' => e = .returned (.agg #[.int .u8 y1, .string (mkS y2), .int .i64 (y3 + G)]) ∧ Below W.heap.size W w') := fun W => by
    have : 0 ≤ y3 ∧ y3 ≤ 100000000000000 := hyr
    exact moved_any y1 y2 y3 G W (by omega) (by omega)
  have w1 : IntKind.i64.wrap ((n : Int) - 1) = (n : Int) - 1 := IntWalk.i64_in _ (by omega)
  have w2 : IntKind.i64.wrap ((n : Int) - 1 - (i : Int)) = (j : Int) := by rw [IntWalk.i64_in _ (by omega)]; omega
  have w3 : IntKind.i64.wrap ((m : Int) - 1) = (m : Int) - 1 := IntWalk.i64_in _ (by omega)
  have w4 : IntKind.i64.wrap ((m : Int) - 1 - (i : Int)) = (k : Int) := by rw [IntWalk.i64_in _ (by omega)]; omega
  have hjn : j < n := by omega
  have hkm : k < m := by omega
  clear hy hz ho hn hn' hm' hG hGb hyr hpl hs ht hj hk
  simp only at cd cd1 cd2 HP
  have KS : Hid (∀ W, Below (w.heap.size + 1) (w.alloc (.cells #[.int .u8 y1, .string (mkS y2), .int .i64 y3] 36)) W → (W.cell? ⟨w.heap.size, 0, none⟩ = some (.int .u8 y1) ∧ W.cell? ⟨w.heap.size, 1, none⟩ = some (.string (mkS y2)) ∧ W.cell? ⟨w.heap.size, 2, none⟩ = some (.int .i64 y3) ∧ W.cell? ⟨bd, 0, none⟩ = some (.int .i64 F) ∧ W.cell? ⟨bd, 1, none⟩ = some (.int .i64 T) ∧ W.cell? ⟨bd, 2, none⟩ = some (.string (mkS put)) ∧ W.cell? ⟨bd, 3, none⟩ = some (.string (mkS s)) ∧ W.cell? ⟨bd, 4, none⟩ = some (.string (mkS t)) ∧ W.cell? ⟨bn, 0, none⟩ = some (.slice (some ⟨b2, off2, none⟩) m cap2) ∧ W.cell? ⟨b2, off2 + k * 3, none⟩ = some (.int .u8 z1) ∧ W.cell? ⟨b2, off2 + k * 3 + 1, none⟩ = some (.string (mkS z2)) ∧ W.cell? ⟨b2, off2 + k * 3 + 2, none⟩ = some (.int .i64 z3) ∧ Below (w.heap.size + 1) (w.alloc (.cells #[.int .u8 y1, .string (mkS y2), .int .i64 y3] 36)) W)) := fun W hb => by
    have hbw : Below w.heap.size w W := ((Below.refl _ _).alloc (Nat.le_refl _) _).trans (hb.mono (by simp))
    refine ⟨?_, ?_, ?_, (hbw.cell (cell_lt cd)).trans cd, (hbw.cell (cell_lt cd1)).trans cd1, (hbw.cell (cell_lt cd2)).trans cd2, (hbw.cell (cell_lt cd3)).trans cd3, (hbw.cell (cell_lt cd4)).trans cd4, (hbw.cell (cell_lt cn)).trans cn, (hbw.cell (cell_lt c1)).trans c1, (hbw.cell (cell_lt c2)).trans c2, (hbw.cell (cell_lt c3)).trans c3, hb⟩
    · rw [hb.cell (by simp)]; simp [go_sem]
    · rw [hb.cell (by simp)]; simp [go_sem]
    · rw [hb.cell (by simp)]; simp [go_sem]
  have CG2 : Hid (∀ W, Below (w.heap.size + 1) (w.alloc (.cells #[.int .u8 y1, .string (mkS y2), .int .i64 y3] 36)) W → Calls Tryd.prog 51 #[.agg #[.int .i64 F, .int .i64 T, .string (mkS put), .string (mkS s), .string (mkS t)]] W fun e w' => e = .returned (.int .i64 G) ∧ Below (w.heap.size + 1) (w.alloc (.cells #[.int .u8 y1, .string (mkS y2), .int .i64 y3] 36)) w') := fun W hb =>
    (CG.out W).mono fun e w' ⟨he, hb'⟩ => ⟨he, hb.trans (hb'.mono (by have := hb.size; simp at this; omega))⟩
  have CM2 : Hid (∀ W, Below (w.heap.size + 1) (w.alloc (.cells #[.int .u8 y1, .string (mkS y2), .int .i64 y3] 36)) W → Calls Tryd.prog 16 #[.agg #[.int .u8 y1, .string (mkS y2), .int .i64 y3], .int .i64 G] W fun e w' => e = .returned (.agg #[.int .u8 y1, .string (mkS y2), .int .i64 (y3 + G)]) ∧ Below (w.heap.size + 1) (w.alloc (.cells #[.int .u8 y1, .string (mkS y2), .int .i64 y3] 36)) w') := fun W hb =>
    (CM.out W).mono fun e w' ⟨he, hb'⟩ => ⟨he, hb.trans (hb'.mono (by have := hb.size; simp at this; omega))⟩
  clear CG CM
  have l1 : bd < w.heap.size := cell_lt cd
  have l2 : bn < w.heap.size := cell_lt cn
  have l3 : b2 < w.heap.size := cell_lt c1
  show Calls _ _ _ _ fun e W' => e = .returned (.bool (tailP old now T G i)) ∧ _
  by_cases hge : y3 ≥ T
  case neg =>
    have hd : decide (y3 ≥ T) = false := decide_eq_false hge
    have HQ : Hid (tailP old now T G i = false) := by show _ = _; rw [HP.out, hd]; rfl
    have hd2 : decide (T ≤ y3) = false := decide_eq_false hge
    clear HP hge CG2 CM2 KS
    go_enter Tryd.func50, Tryd.ntmps50
    go_wp2
    go_quiet (fail)
    go_wp2
    go_ret
    exact ⟨ret_bool HQ.out.symm, ((Below.refl _ _).alloc (Nat.le_refl _) _).trans ((below_drewN _ _).mono (by simp))⟩
  case pos =>
    have hd : decide (y3 ≥ T) = true := decide_eq_true hge
    have hd2 : decide (T ≤ y3) = true := decide_eq_true hge
    have HQ : Hid (tailP old now T G i = (((y1, y2, y3 + G) : Lx) == (z1, z2, z3))) := by show _ = _; rw [HP.out, hd]; rfl
    clear HP hge
    have HF : Hid (∀ W, Below (w.heap.size + 1) (w.alloc (.cells #[.int .u8 y1, .string (mkS y2), .int .i64 y3] 36)) W → Below w.heap.size w W) := fun W hb => (((Below.refl _ _).alloc (Nat.le_refl _) _).trans (hb.mono (by simp)))
    rcases lx_cases y1 z1 y2 z2 (y3 + G) z3 with hE | ⟨hne, hE⟩
    · have HS : Hid (tailP old now T G i = true) := by show _ = _; rw [HQ.out, hE]; simp
      simp only [Prod.mk.injEq] at hE
      obtain ⟨rfl, rfl, rfl⟩ := hE
      clear HQ
      go_enter Tryd.func50, Tryd.ntmps50
      go_wp2
      go_region_held3 (fun W => W.cell? ⟨w.heap.size, 0, none⟩ = some (.int .u8 y1) ∧ W.cell? ⟨w.heap.size, 1, none⟩ = some (.string (mkS y2)) ∧ W.cell? ⟨w.heap.size, 2, none⟩ = some (.int .i64 y3) ∧ W.cell? ⟨bd, 0, none⟩ = some (.int .i64 F) ∧ W.cell? ⟨bd, 1, none⟩ = some (.int .i64 T) ∧ W.cell? ⟨bd, 2, none⟩ = some (.string (mkS put)) ∧ W.cell? ⟨bd, 3, none⟩ = some (.string (mkS s)) ∧ W.cell? ⟨bd, 4, none⟩ = some (.string (mkS t)) ∧ W.cell? ⟨bn, 0, none⟩ = some (.slice (some ⟨b2, off2, none⟩) m cap2) ∧ W.cell? ⟨b2, off2 + k * 3, none⟩ = some (.int .u8 y1) ∧ W.cell? ⟨b2, off2 + k * 3 + 1, none⟩ = some (.string (mkS y2)) ∧ W.cell? ⟨b2, off2 + k * 3 + 2, none⟩ = some (.int .i64 (y3 + G)) ∧ Below (w.heap.size + 1) (w.alloc (.cells #[.int .u8 y1, .string (mkS y2), .int .i64 y3] 36)) W)
        (first | exact KS.out _ (by first | assumption | exact (Below.refl _ _).drew | exact Below.refl _ _ | (refine Below.drew ?_; assumption)))
        (first | (go_at_call 51; refine (CG2.out _ (by first | assumption | exact (Below.refl _ _).drew | exact Below.refl _ _ | (refine Below.drew ?_; assumption))).mono ?_; rintro e wa ⟨rfl, hba⟩) | (go_at_call 16; refine (CM2.out _ (by first | assumption | exact (Below.refl _ _).drew | exact Below.refl _ _ | (refine Below.drew ?_; assumption))).mono ?_; rintro e wb ⟨rfl, hbb⟩))
      go_wp2
      go_ret
      exact ⟨ret_bool HS.out.symm, HF.out _ (by assumption)⟩
    · have HS : Hid (tailP old now T G i = false) := by show _ = _; rw [HQ.out]; exact beq_eq_false_iff_ne.2 hne
      clear HQ hne
      rcases hE with hE | ⟨rfl, hE⟩ | ⟨rfl, rfl, hE⟩
      · have g1 : ((y1 : Int) == (z1 : Int)) = false := by rw [beq_eq_false_iff_ne]; omega
        have g2 : ¬ ((y1 : Int) = (z1 : Int)) := by omega
        clear hE
        go_enter Tryd.func50, Tryd.ntmps50
        go_wp2
        go_region_held3 (fun W => W.cell? ⟨w.heap.size, 0, none⟩ = some (.int .u8 y1) ∧ W.cell? ⟨w.heap.size, 1, none⟩ = some (.string (mkS y2)) ∧ W.cell? ⟨w.heap.size, 2, none⟩ = some (.int .i64 y3) ∧ W.cell? ⟨bd, 0, none⟩ = some (.int .i64 F) ∧ W.cell? ⟨bd, 1, none⟩ = some (.int .i64 T) ∧ W.cell? ⟨bd, 2, none⟩ = some (.string (mkS put)) ∧ W.cell? ⟨bd, 3, none⟩ = some (.string (mkS s)) ∧ W.cell? ⟨bd, 4, none⟩ = some (.string (mkS t)) ∧ W.cell? ⟨bn, 0, none⟩ = some (.slice (some ⟨b2, off2, none⟩) m cap2) ∧ W.cell? ⟨b2, off2 + k * 3, none⟩ = some (.int .u8 z1) ∧ W.cell? ⟨b2, off2 + k * 3 + 1, none⟩ = some (.string (mkS z2)) ∧ W.cell? ⟨b2, off2 + k * 3 + 2, none⟩ = some (.int .i64 z3) ∧ Below (w.heap.size + 1) (w.alloc (.cells #[.int .u8 y1, .string (mkS y2), .int .i64 y3] 36)) W)
          (first | exact KS.out _ (by first | assumption | exact (Below.refl _ _).drew | exact Below.refl _ _ | (refine Below.drew ?_; assumption)))
          (first | (go_at_call 51; refine (CG2.out _ (by first | assumption | exact (Below.refl _ _).drew | exact Below.refl _ _ | (refine Below.drew ?_; assumption))).mono ?_; rintro e wa ⟨rfl, hba⟩) | (go_at_call 16; refine (CM2.out _ (by first | assumption | exact (Below.refl _ _).drew | exact Below.refl _ _ | (refine Below.drew ?_; assumption))).mono ?_; rintro e wb ⟨rfl, hbb⟩))
        go_wp2
        go_ret
        exact ⟨ret_bool HS.out.symm, HF.out _ (by assumption)⟩
      · have g2 : ¬ ((mkS y2).toList = (mkS z2).toList) := by rw [mkS_tl]; exact hE
        clear hE
        go_enter Tryd.func50, Tryd.ntmps50
        go_wp2
        go_region_held3 (fun W => W.cell? ⟨w.heap.size, 0, none⟩ = some (.int .u8 y1) ∧ W.cell? ⟨w.heap.size, 1, none⟩ = some (.string (mkS y2)) ∧ W.cell? ⟨w.heap.size, 2, none⟩ = some (.int .i64 y3) ∧ W.cell? ⟨bd, 0, none⟩ = some (.int .i64 F) ∧ W.cell? ⟨bd, 1, none⟩ = some (.int .i64 T) ∧ W.cell? ⟨bd, 2, none⟩ = some (.string (mkS put)) ∧ W.cell? ⟨bd, 3, none⟩ = some (.string (mkS s)) ∧ W.cell? ⟨bd, 4, none⟩ = some (.string (mkS t)) ∧ W.cell? ⟨bn, 0, none⟩ = some (.slice (some ⟨b2, off2, none⟩) m cap2) ∧ W.cell? ⟨b2, off2 + k * 3, none⟩ = some (.int .u8 y1) ∧ W.cell? ⟨b2, off2 + k * 3 + 1, none⟩ = some (.string (mkS z2)) ∧ W.cell? ⟨b2, off2 + k * 3 + 2, none⟩ = some (.int .i64 z3) ∧ Below (w.heap.size + 1) (w.alloc (.cells #[.int .u8 y1, .string (mkS y2), .int .i64 y3] 36)) W)
          (first | exact KS.out _ (by first | assumption | exact (Below.refl _ _).drew | exact Below.refl _ _ | (refine Below.drew ?_; assumption)))
          (first | (go_at_call 51; refine (CG2.out _ (by first | assumption | exact (Below.refl _ _).drew | exact Below.refl _ _ | (refine Below.drew ?_; assumption))).mono ?_; rintro e wa ⟨rfl, hba⟩) | (go_at_call 16; refine (CM2.out _ (by first | assumption | exact (Below.refl _ _).drew | exact Below.refl _ _ | (refine Below.drew ?_; assumption))).mono ?_; rintro e wb ⟨rfl, hbb⟩))
        go_wp2
        go_ret
        exact ⟨ret_bool HS.out.symm, HF.out _ (by assumption)⟩
      · have g1 : ((y3 + G : Int) == z3) = false := beq_eq_false_iff_ne.2 hE
        go_enter Tryd.func50, Tryd.ntmps50
        go_wp2
        go_region_held3 (fun W => W.cell? ⟨w.heap.size, 0, none⟩ = some (.int .u8 y1) ∧ W.cell? ⟨w.heap.size, 1, none⟩ = some (.string (mkS y2)) ∧ W.cell? ⟨w.heap.size, 2, none⟩ = some (.int .i64 y3) ∧ W.cell? ⟨bd, 0, none⟩ = some (.int .i64 F) ∧ W.cell? ⟨bd, 1, none⟩ = some (.int .i64 T) ∧ W.cell? ⟨bd, 2, none⟩ = some (.string (mkS put)) ∧ W.cell? ⟨bd, 3, none⟩ = some (.string (mkS s)) ∧ W.cell? ⟨bd, 4, none⟩ = some (.string (mkS t)) ∧ W.cell? ⟨bn, 0, none⟩ = some (.slice (some ⟨b2, off2, none⟩) m cap2) ∧ W.cell? ⟨b2, off2 + k * 3, none⟩ = some (.int .u8 y1) ∧ W.cell? ⟨b2, off2 + k * 3 + 1, none⟩ = some (.string (mkS y2)) ∧ W.cell? ⟨b2, off2 + k * 3 + 2, none⟩ = some (.int .i64 z3) ∧ Below (w.heap.size + 1) (w.alloc (.cells #[.int .u8 y1, .string (mkS y2), .int .i64 y3] 36)) W)
          (first | exact KS.out _ (by first | assumption | exact (Below.refl _ _).drew | exact Below.refl _ _ | (refine Below.drew ?_; assumption)))
          (first | (go_at_call 51; refine (CG2.out _ (by first | assumption | exact (Below.refl _ _).drew | exact Below.refl _ _ | (refine Below.drew ?_; assumption))).mono ?_; rintro e wa ⟨rfl, hba⟩) | (go_at_call 16; refine (CM2.out _ (by first | assumption | exact (Below.refl _ _).drew | exact Below.refl _ _ | (refine Below.drew ?_; assumption))).mono ?_; rintro e wb ⟨rfl, hbb⟩))
        go_wp2
        go_ret
        exact ⟨ret_bool HS.out.symm, HF.out _ (by assumption)⟩
end Go.Proofs.YtlhbfgkcalalkaaDoor
