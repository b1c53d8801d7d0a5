/- Both, where there is an edit that does two. -/
import Derived.Test.YthmhklmoodffcaaDoorVa
import Derived.Deep.RegionHeld3
set_option linter.unusedVariables false
set_option linter.unusedSimpArgs false
namespace Go.Proofs.YthmhklmoodffcaaDoor
open Go.RowKit Go.Shelf

/-- The places of the edit that does two. -/
theorem spl_len (s put : List UInt8) (F T : Nat) (h1 : F ≤ T) (h2 : T ≤ s.length) : (splF s ((F : Int), (T : Int), put)).length + T = s.length + F + put.length := by
  unfold splF; simp; omega
theorem spl_take (s put : List UInt8) (F T f : Nat) (hf : f ≤ F) (h1 : F ≤ T) (h2 : T ≤ s.length) : (splF s ((F : Int), (T : Int), put)).take f = s.take f := by
  show (s.take F ++ put ++ s.drop T).take f = _
  rw [List.append_assoc, List.take_append_of_le_length (by simp; omega), List.take_take]; congr 1; omega
theorem spl_drop (s put : List UInt8) (F T k : Nat) (h1 : F ≤ T) (h2 : T ≤ s.length) : (splF s ((F : Int), (T : Int), put)).drop (F + put.length + k) = s.drop (T + k) := by
  show (s.take F ++ put ++ s.drop T).drop _ = _
  rw [← List.drop_drop, List.drop_left' (by simp; omega), List.drop_drop]

theorem both_at (s p q : List UInt8) (F T G H : Nat) (h1 : F ≤ T) (h2 : T ≤ s.length) (g1 : G ≤ H) (g2 : H ≤ (splF s (F, T, p)).length) :
    ∃ to en : Nat, bothTo s (F, T, p) (G, H, q) = to ∧ bothEnd s (F, T, p) (G, H, q) = en ∧ T ≤ to ∧ to ≤ s.length ∧ min F G ≤ en ∧ en ≤ (splF (splF s (F, T, p)) (G, H, q)).length ∧
      (splF (splF s (F, T, p)) (G, H, q)).drop en = s.drop to ∧ (splF (splF s (F, T, p)) (G, H, q)).take (min F G) = s.take (min F G) := by
  obtain ⟨t, ht⟩ : ∃ t, t = splF s (F, T, p) := ⟨_, rfl⟩
  obtain ⟨u, hu⟩ : ∃ u, u = splF t (G, H, q) := ⟨_, rfl⟩
  have lt := spl_len s p F T h1 h2
  rw [← ht] at g2 lt
  have lu := spl_len t q G H g1 g2
  rw [← hu] at lu
  have htk : u.take (min F G) = s.take (min F G) := by
    rw [hu, spl_take t q G H _ (Nat.min_le_right _ _) g1 g2, ht, spl_take s p F T _ (Nat.min_le_left _ _) h1 h2]
  unfold bothTo bothEnd bothTo
  simp only [← ht, ← hu]
  by_cases hc : (H : Int) ≥ (F : Int) + (p.length : Int)
  · rw [if_pos hc]
    refine ⟨T + (H - (F + p.length)), G + q.length, by omega, by omega, by omega, by omega, by omega, by omega, ?_, htk⟩
    have e1 := spl_drop t q G H 0 g1 g2
    have e2 := spl_drop s p F T (H - (F + p.length)) h1 h2
    rw [← hu] at e1; rw [← ht] at e2
    rw [show G + q.length = G + q.length + 0 from rfl, e1, ← e2]; congr 1; omega
  · rw [if_neg hc]
    refine ⟨T, G + q.length + (F + p.length - H), by omega, by omega, by omega, by omega, by omega, by omega, ?_, htk⟩
    have e1 := spl_drop t q G H (F + p.length - H) g1 g2
    have e2 := spl_drop s p F T 0 h1 h2
    rw [← hu] at e1; rw [← ht] at e2
    rw [e1, show H + (F + p.length - H) = F + p.length + 0 by omega, e2]; rfl
theorem cut_join (u s : List UInt8) (f en to : Nat) (h1 : f ≤ en) (h3 : u.take f = s.take f) (h4 : u.drop en = s.drop to) : s.take f ++ (u.take en).drop f ++ s.drop to = u := by
  rw [← h3, ← h4]
  have : u.take f = (u.take en).take f := by rw [List.take_take]; congr 1; omega
  rw [this, List.take_append_drop, List.take_append_drop]
/-- An edit that leads where two do. -/
theorem both_spl (s p q : List UInt8) (F T G H : Nat) (h1 : F ≤ T) (h2 : T ≤ s.length) (g1 : G ≤ H) (g2 : H ≤ (splF s (F, T, p)).length) (z : Ed)
    (hz : z = (min (F : Int) (G : Int), bothTo s (F, T, p) (G, H, q), ((splF (splF s (F, T, p)) (G, H, q)).take (bothEnd s (F, T, p) (G, H, q)).toNat).drop (min (F : Int) (G : Int)).toNat)) :
    isEd s z = true ∧ splF s z = splF (splF s (F, T, p)) (G, H, q) ∧ z.1 ≤ F ∧ T ≤ z.2.1 ∧ z.2.2.length ≤ (splF (splF s (F, T, p)) (G, H, q)).length := by
  obtain ⟨to, en, e1, e2, k1, k2, k3, k4, k5, k6⟩ := both_at s p q F T G H h1 h2 g1 g2
  have hm : min (F : Int) (G : Int) = ((min F G : Nat) : Int) := by omega
  rw [e1, e2, hm] at hz
  subst hz
  have hf : min F G ≤ F := Nat.min_le_left _ _
  refine ⟨?_, ?_, by simp; omega, by simp; omega, by simp; omega⟩
  · simp only [isEd, Bool.and_eq_true, decide_eq_true_eq]
    exact ⟨⟨by omega, by omega⟩, by omega⟩
  · show s.take (((min F G : Nat) : Int)).toNat ++ _ ++ s.drop ((to : Int)).toNat = _
    rw [Int.toNat_natCast, Int.toNat_natCast, Int.toNat_natCast]
    exact cut_join _ _ _ _ _ k3 k6 k5

set_option maxRecDepth 100000 in
set_option maxHeartbeats 4000000 in
theorem both_walk (s p q t u : List UInt8) (F T G H f to en : Nat) (Bh g1 g2 m1 : Int) (w : World)
    (hs : s.length ≤ 2500) (ht : t.length ≤ 2500) (hu : u.length ≤ 2500) (hp : p.length ≤ 2500) (hq : q.length ≤ 2500)
    (C1 : Hid (∀ W, Calls Tryd.prog 49 #[.string (mkS s), .agg #[.int .i64 F, .int .i64 T, .string (mkS p)]] W fun e w' => e = .returned (.tuple #[.agg #[.int .i64 F, .int .i64 T, .string (mkS p), .string (mkS s), .string (mkS t)], .int .i64 0]) ∧ Below W.heap.size W w'))
    (C2 : Hid (∀ W, Calls Tryd.prog 49 #[.string (mkS t), .agg #[.int .i64 G, .int .i64 H, .string (mkS q)]] W fun e w' => e = .returned (.tuple #[.agg #[.int .i64 G, .int .i64 H, .string (mkS q), .string (mkS t), .string (mkS u)], .int .i64 0]) ∧ Below W.heap.size W w'))
    (CB : Hid (∀ W, Calls Tryd.prog 50 #[.agg #[.int .i64 F, .int .i64 T, .string (mkS p), .string (mkS s), .string (mkS t)]] W fun e w' => e = .returned (.int .i64 Bh) ∧ Below W.heap.size W w'))
    (CG1 : Hid (∀ W, Calls Tryd.prog 55 #[.agg #[.int .i64 F, .int .i64 T, .string (mkS p), .string (mkS s), .string (mkS t)]] W fun e w' => e = .returned (.int .i64 g1) ∧ Below W.heap.size W w'))
    (CG2 : Hid (∀ W, Calls Tryd.prog 55 #[.agg #[.int .i64 G, .int .i64 H, .string (mkS q), .string (mkS t), .string (mkS u)]] W fun e w' => e = .returned (.int .i64 g2) ∧ Below W.heap.size W w'))
    (hF : F ≤ 2500) (hT : T ≤ 2500) (hG : G ≤ 2500) (hH : H ≤ 2500) (hg1 : -2500 ≤ g1 ∧ g1 ≤ 2500) (hg2 : -2500 ≤ g2 ∧ g2 ≤ 2500)
    (hmin : f = min F G) (hm1 : m1 = (H : Int) - g1) (hto : (to : Int) = if Bh ≤ (H : Int) then max (T : Int) m1 else (T : Int)) (hen : (en : Int) = (to : Int) + g1 + g2) (hfe : f ≤ en) (heu : en ≤ u.length) :
    Calls Tryd.prog 30 #[.string (mkS s), .agg #[.int .i64 F, .int .i64 T, .string (mkS p)], .agg #[.int .i64 G, .int .i64 H, .string (mkS q)]] w fun e w' =>
      e = .returned (.tuple #[.agg #[.int .i64 f, .int .i64 to, .string (mkS ((u.take en).drop f))], .int .i64 0]) ∧ Below w.heap.size w w' := by
  have hsz : (mkS u).size = u.length := mkS_size u
  have heu' : en ≤ (mkS u).size := by omega
  have hx : (mkS u).extract f en = mkS ((u.take en).drop f) := by
    rw [← mkS_self ((mkS u).extract f en), Lib.extract_data, mkS_list, List.drop_take]
  rw [← hx]
  have a1 : IntKind.i64.wrap ((H : Int) - g1) = m1 := by rw [hm1]; exact IntWalk.i64_in _ (by omega)
  have a2 : IntKind.i64.wrap ((to : Int) + g1) = (to : Int) + g1 := IntWalk.i64_in _ (by split at hto <;> omega)
  have a3 : IntKind.i64.wrap ((to : Int) + g1 + g2) = (en : Int) := by rw [hen]; exact IntWalk.i64_in _ (by split at hto <;> omega)
  have HMIN' : Hid (min (F : Int) (G : Int) = (f : Int)) := by show _ = _; omega
  have HTO := Lib.hid hto
  clear hsz heu hx hs ht hu hp hq hm1 hen hF hT hG hH hg1 hg2 hmin hto
  go_enter Tryd.func30, Tryd.ntmps30
  go_wp2_with fail
  refine (C1.out _).mono ?_
  rintro e w1 ⟨rfl, hb⟩
  have hs1 := hb.size
  have hz1 : w.heap.size + 1 + 1 < w1.heap.size := by simp at hs1; omega
  have hz0 : w.heap.size + 1 < w1.heap.size := by omega
  have y0 : w1.cell? ⟨w.heap.size + 1, 0, none⟩ = some (.int .i64 G) := (hb.cell (by simp)).trans (by simp [go_sem])
  have y1 : w1.cell? ⟨w.heap.size + 1, 1, none⟩ = some (.int .i64 H) := (hb.cell (by simp)).trans (by simp [go_sem])
  have y2 : w1.cell? ⟨w.heap.size + 1, 2, none⟩ = some (.string (mkS q)) := (hb.cell (by simp)).trans (by simp [go_sem])
  have R0 := Lib.hid ((hb.cell (p := ⟨w.heap.size + 1 + 1, 0, none⟩) (by simp)).trans (show _ = some (Value.int .i64 0) by simp [go_sem]))
  have R1 := Lib.hid ((hb.cell (p := ⟨w.heap.size + 1 + 1, 1, none⟩) (by simp)).trans (show _ = some (Value.int .i64 0) by simp [go_sem]))
  have R2 := Lib.hid ((hb.cell (p := ⟨w.heap.size + 1 + 1, 2, none⟩) (by simp)).trans (show _ = some (Value.string ⟨#[]⟩) by simp [go_sem]))
  have Q0 := Lib.hid ((hb.frozen (p := ⟨w.heap.size + 1 + 1, 0, none⟩) (by simp)).trans (show _ = false by simp [go_sem]))
  have Q1 := Lib.hid ((hb.frozen (p := ⟨w.heap.size + 1 + 1, 1, none⟩) (by simp)).trans (show _ = false by simp [go_sem]))
  have Q2 := Lib.hid ((hb.frozen (p := ⟨w.heap.size + 1 + 1, 2, none⟩) (by simp)).trans (show _ = false by simp [go_sem]))
  have HF1 := Lib.hid (((((Below.refl w.heap.size w).alloc (Nat.le_refl _) _).alloc (by simp) _).alloc (by simp; omega) _).trans (hb.mono (by simp; omega)))
  clear hb hs1
  go_wp2_with fail
  refine (C2.out _).mono ?_
  rintro e w2 ⟨rfl, hb2⟩
  have hs2 := hb2.size
  have hzz : w1.heap.size < w2.heap.size := by simp at hs2; omega
  have d : ∀ i, w2.cell? ⟨w1.heap.size, i, none⟩ = (w1.alloc (.cells #[.int .i64 F, .int .i64 T, .string (mkS p), .string (mkS s), .string (mkS t)] 77)).cell? ⟨w1.heap.size, i, none⟩ := fun i => hb2.cell (by simp)
  have d0 : w2.cell? ⟨w1.heap.size, 0, none⟩ = some (.int .i64 F) := by rw [d]; simp [go_sem]
  have d1 : w2.cell? ⟨w1.heap.size, 1, none⟩ = some (.int .i64 T) := by rw [d]; simp [go_sem]
  have d2 : w2.cell? ⟨w1.heap.size, 2, none⟩ = some (.string (mkS p)) := by rw [d]; simp [go_sem]
  have d3 : w2.cell? ⟨w1.heap.size, 3, none⟩ = some (.string (mkS s)) := by rw [d]; simp [go_sem]
  have d4 : w2.cell? ⟨w1.heap.size, 4, none⟩ = some (.string (mkS t)) := by rw [d]; simp [go_sem]
  have hB : Below w1.heap.size w1 w2 := ((Below.refl _ _).alloc (Nat.le_refl _) _).trans (hb2.mono (by simp))
  have R0' := Lib.hid ((hB.cell (cell_lt R0.out)).trans R0.out)
  have R1' := Lib.hid ((hB.cell (cell_lt R1.out)).trans R1.out)
  have R2' := Lib.hid ((hB.cell (cell_lt R2.out)).trans R2.out)
  have Q0' := Lib.hid ((hB.frozen (p := ⟨w.heap.size + 1 + 1, 0, none⟩) (cell_lt R0.out)).trans Q0.out)
  have Q1' := Lib.hid ((hB.frozen (p := ⟨w.heap.size + 1 + 1, 1, none⟩) (cell_lt R1.out)).trans Q1.out)
  have Q2' := Lib.hid ((hB.frozen (p := ⟨w.heap.size + 1 + 1, 2, none⟩) (cell_lt R2.out)).trans Q2.out)
  have HF2 := Lib.hid (HF1.out.trans (hB.mono HF1.out.size))
  have KS : Hid (∀ W, Below (w2.heap.size + 1) (w2.alloc (.cells #[.int .i64 G, .int .i64 H, .string (mkS q), .string (mkS t), .string (mkS u)] 77)) W → (W.cell? ⟨w1.heap.size, 0, none⟩ = some (.int .i64 F) ∧ W.cell? ⟨w1.heap.size, 1, none⟩ = some (.int .i64 T) ∧ W.cell? ⟨w1.heap.size, 2, none⟩ = some (.string (mkS p)) ∧ W.cell? ⟨w1.heap.size, 3, none⟩ = some (.string (mkS s)) ∧ W.cell? ⟨w1.heap.size, 4, none⟩ = some (.string (mkS t)) ∧ W.cell? ⟨w2.heap.size, 0, none⟩ = some (.int .i64 G) ∧ W.cell? ⟨w2.heap.size, 1, none⟩ = some (.int .i64 H) ∧ W.cell? ⟨w2.heap.size, 2, none⟩ = some (.string (mkS q)) ∧ W.cell? ⟨w2.heap.size, 3, none⟩ = some (.string (mkS t)) ∧ W.cell? ⟨w2.heap.size, 4, none⟩ = some (.string (mkS u)) ∧ w1.heap.size < W.heap.size ∧ w2.heap.size < W.heap.size ∧ Below (w2.heap.size + 1) (w2.alloc (.cells #[.int .i64 G, .int .i64 H, .string (mkS q), .string (mkS t), .string (mkS u)] 77)) W)) := fun W hW => by
    have hsz := hW.size
    have e1 : ∀ i, W.cell? ⟨w1.heap.size, i, none⟩ = w2.cell? ⟨w1.heap.size, i, none⟩ := fun i => (((Below.refl w2.heap.size w2).alloc (Nat.le_refl _) _).trans (hW.mono (by simp))).cell hzz
    have e2 : ∀ i, W.cell? ⟨w2.heap.size, i, none⟩ = (w2.alloc (.cells #[.int .i64 G, .int .i64 H, .string (mkS q), .string (mkS t), .string (mkS u)] 77)).cell? ⟨w2.heap.size, i, none⟩ := fun i => hW.cell (by simp)
    refine ⟨?_, ?_, ?_, ?_, ?_, ?_, ?_, ?_, ?_, ?_, ?_, ?_, hW⟩
    · rw [e1]; exact d0
    · rw [e1]; exact d1
    · rw [e1]; exact d2
    · rw [e1]; exact d3
    · rw [e1]; exact d4
    · rw [e2]; simp [go_sem]
    · rw [e2]; simp [go_sem]
    · rw [e2]; simp [go_sem]
    · rw [e2]; simp [go_sem]
    · rw [e2]; simp [go_sem]
    · simp at hsz; omega
    · simp at hsz; omega
  have CB' : Hid (∀ W, Below (w2.heap.size + 1) (w2.alloc (.cells #[.int .i64 G, .int .i64 H, .string (mkS q), .string (mkS t), .string (mkS u)] 77)) W → Calls Tryd.prog 50 #[.agg #[.int .i64 F, .int .i64 T, .string (mkS p), .string (mkS s), .string (mkS t)]] W fun e w' => e = .returned (.int .i64 Bh) ∧ Below (w2.heap.size + 1) (w2.alloc (.cells #[.int .i64 G, .int .i64 H, .string (mkS q), .string (mkS t), .string (mkS u)] 77)) w') := fun W hW =>
    (CB.out W).mono fun e w' ⟨he, hb'⟩ => ⟨he, hW.trans (hb'.mono (by have := hW.size; simp at this; omega))⟩
  have CG1' : Hid (∀ W, Below (w2.heap.size + 1) (w2.alloc (.cells #[.int .i64 G, .int .i64 H, .string (mkS q), .string (mkS t), .string (mkS u)] 77)) W → Calls Tryd.prog 55 #[.agg #[.int .i64 F, .int .i64 T, .string (mkS p), .string (mkS s), .string (mkS t)]] W fun e w' => e = .returned (.int .i64 g1) ∧ Below (w2.heap.size + 1) (w2.alloc (.cells #[.int .i64 G, .int .i64 H, .string (mkS q), .string (mkS t), .string (mkS u)] 77)) w') := fun W hW =>
    (CG1.out W).mono fun e w' ⟨he, hb'⟩ => ⟨he, hW.trans (hb'.mono (by have := hW.size; simp at this; omega))⟩
  have CG2' : Hid (∀ W, Below (w2.heap.size + 1) (w2.alloc (.cells #[.int .i64 G, .int .i64 H, .string (mkS q), .string (mkS t), .string (mkS u)] 77)) W → Calls Tryd.prog 55 #[.agg #[.int .i64 G, .int .i64 H, .string (mkS q), .string (mkS t), .string (mkS u)]] W fun e w' => e = .returned (.int .i64 g2) ∧ Below (w2.heap.size + 1) (w2.alloc (.cells #[.int .i64 G, .int .i64 H, .string (mkS q), .string (mkS t), .string (mkS u)] 77)) w') := fun W hW =>
    (CG2.out W).mono fun e w' ⟨he, hb'⟩ => ⟨he, hW.trans (hb'.mono (by have := hW.size; simp at this; omega))⟩
  have HZ := Lib.hid hzz
  have D0 := Lib.hid d0
  clear hb2 hs2 d hB y0 y1 y2 hz1 hz0 CB CG1 CG2 C1 C2
  go_wp2
  rw [HMIN'.out]
  by_cases hc : Bh ≤ (H : Int)
  · have HMAX : Hid (max (T : Int) m1 = (to : Int)) := by show _ = _; rw [HTO.out, if_pos hc]
    have bge : decide ((H : Int) ≥ Bh) = true := decide_eq_true hc
    have ble : decide (Bh ≤ (H : Int)) = true := decide_eq_true hc
    clear HTO
    go_region_held3 (fun W => W.cell? ⟨w1.heap.size, 0, none⟩ = some (.int .i64 F) ∧ W.cell? ⟨w1.heap.size, 1, none⟩ = some (.int .i64 T) ∧ W.cell? ⟨w1.heap.size, 2, none⟩ = some (.string (mkS p)) ∧ W.cell? ⟨w1.heap.size, 3, none⟩ = some (.string (mkS s)) ∧ W.cell? ⟨w1.heap.size, 4, none⟩ = some (.string (mkS t)) ∧ W.cell? ⟨w2.heap.size, 0, none⟩ = some (.int .i64 G) ∧ W.cell? ⟨w2.heap.size, 1, none⟩ = some (.int .i64 H) ∧ W.cell? ⟨w2.heap.size, 2, none⟩ = some (.string (mkS q)) ∧ W.cell? ⟨w2.heap.size, 3, none⟩ = some (.string (mkS t)) ∧ W.cell? ⟨w2.heap.size, 4, none⟩ = some (.string (mkS u)) ∧ w1.heap.size < W.heap.size ∧ w2.heap.size < W.heap.size ∧ Below (w2.heap.size + 1) (w2.alloc (.cells #[.int .i64 G, .int .i64 H, .string (mkS q), .string (mkS t), .string (mkS u)] 77)) W)
      (first | exact KS.out _ (by first | assumption | exact (Below.refl _ _).drew | exact Below.refl _ _ | (refine Below.drew ?_; assumption)))
      (first | (go_at_call 50; refine (CB'.out _ (by first | assumption | exact (Below.refl _ _).drew | exact Below.refl _ _ | (refine Below.drew ?_; assumption))).mono ?_; rintro e wa ⟨rfl, hba⟩))
    obtain ⟨d0, d1, d2, d3, d4, c0, c1, c2, c3, c4, hz1, hz2, hbw⟩ := KS.out _ hba
    clear hba
    go_wp2
    go_region_held3 (fun W => W.cell? ⟨w1.heap.size, 0, none⟩ = some (.int .i64 F) ∧ W.cell? ⟨w1.heap.size, 1, none⟩ = some (.int .i64 T) ∧ W.cell? ⟨w1.heap.size, 2, none⟩ = some (.string (mkS p)) ∧ W.cell? ⟨w1.heap.size, 3, none⟩ = some (.string (mkS s)) ∧ W.cell? ⟨w1.heap.size, 4, none⟩ = some (.string (mkS t)) ∧ W.cell? ⟨w2.heap.size, 0, none⟩ = some (.int .i64 G) ∧ W.cell? ⟨w2.heap.size, 1, none⟩ = some (.int .i64 H) ∧ W.cell? ⟨w2.heap.size, 2, none⟩ = some (.string (mkS q)) ∧ W.cell? ⟨w2.heap.size, 3, none⟩ = some (.string (mkS t)) ∧ W.cell? ⟨w2.heap.size, 4, none⟩ = some (.string (mkS u)) ∧ w1.heap.size < W.heap.size ∧ w2.heap.size < W.heap.size ∧ Below (w2.heap.size + 1) (w2.alloc (.cells #[.int .i64 G, .int .i64 H, .string (mkS q), .string (mkS t), .string (mkS u)] 77)) W)
      (first | exact KS.out _ (by first | assumption | exact (Below.refl _ _).drew | exact Below.refl _ _ | (refine Below.drew ?_; assumption)))
      (first | (go_at_call 55; refine (CG1'.out _ (by first | assumption | exact (Below.refl _ _).drew | exact Below.refl _ _ | (refine Below.drew ?_; assumption))).mono ?_; rintro e wa ⟨rfl, hba⟩))
    rw [HMAX.out]
    clear hbw
    obtain ⟨d0, d1, d2, d3, d4, c0, c1, c2, c3, c4, hz1, hz2, hbw⟩ := KS.out _ hba
    clear hba
    go_wp2
    go_region_held3 (fun W => W.cell? ⟨w1.heap.size, 0, none⟩ = some (.int .i64 F) ∧ W.cell? ⟨w1.heap.size, 1, none⟩ = some (.int .i64 T) ∧ W.cell? ⟨w1.heap.size, 2, none⟩ = some (.string (mkS p)) ∧ W.cell? ⟨w1.heap.size, 3, none⟩ = some (.string (mkS s)) ∧ W.cell? ⟨w1.heap.size, 4, none⟩ = some (.string (mkS t)) ∧ W.cell? ⟨w2.heap.size, 0, none⟩ = some (.int .i64 G) ∧ W.cell? ⟨w2.heap.size, 1, none⟩ = some (.int .i64 H) ∧ W.cell? ⟨w2.heap.size, 2, none⟩ = some (.string (mkS q)) ∧ W.cell? ⟨w2.heap.size, 3, none⟩ = some (.string (mkS t)) ∧ W.cell? ⟨w2.heap.size, 4, none⟩ = some (.string (mkS u)) ∧ w1.heap.size < W.heap.size ∧ w2.heap.size < W.heap.size ∧ Below (w2.heap.size + 1) (w2.alloc (.cells #[.int .i64 G, .int .i64 H, .string (mkS q), .string (mkS t), .string (mkS u)] 77)) W)
      (first | exact KS.out _ (by first | assumption | exact (Below.refl _ _).drew | exact Below.refl _ _ | (refine Below.drew ?_; assumption)))
      (first | (go_at_call 55; refine (CG1'.out _ (by first | assumption | exact (Below.refl _ _).drew | exact Below.refl _ _ | (refine Below.drew ?_; assumption))).mono ?_; rintro e wa ⟨rfl, hba⟩) | (go_at_call 55; refine (CG2'.out _ (by first | assumption | exact (Below.refl _ _).drew | exact Below.refl _ _ | (refine Below.drew ?_; assumption))).mono ?_; rintro e wa ⟨rfl, hba⟩))
    obtain ⟨d0, d1, d2, d3, d4, c0, c1, c2, c3, c4, hz1, hz2, hbw⟩ := KS.out _ hba
    have hb9 : Below w2.heap.size w2 wa := ((Below.refl w2.heap.size w2).alloc (Nat.le_refl _) _).trans (hbw.mono (by simp))
    have z0 := cell_lt R0'.out
    have r0 := (hb9.cell (p := ⟨w.heap.size + 1 + 1, 0, none⟩) z0).trans R0'.out
    have r1 := (hb9.cell (p := ⟨w.heap.size + 1 + 1, 1, none⟩) z0).trans R1'.out
    have r2 := (hb9.cell (p := ⟨w.heap.size + 1 + 1, 2, none⟩) z0).trans R2'.out
    have q0 := (hb9.frozen (p := ⟨w.heap.size + 1 + 1, 0, none⟩) z0).trans Q0'.out
    have q1 := (hb9.frozen (p := ⟨w.heap.size + 1 + 1, 1, none⟩) z0).trans Q1'.out
    have q2 := (hb9.frozen (p := ⟨w.heap.size + 1 + 1, 2, none⟩) z0).trans Q2'.out
    have hz : w.heap.size + 1 + 1 < wa.heap.size := cell_lt r0
    have HFIN := Lib.hid (HF2.out.trans (hb9.mono HF2.out.size))
    clear hb9 hbw hba KS CB' CG1' CG2'
    go_wp2
    refine bodyPost_ret (v := .tuple #[.agg #[.int .i64 f, .int .i64 to, .string ((mkS u).extract f en)], .int .i64 0]) (by simp [results, Tryd.results30, go_sem, r0, r1, r2, hz]) rfl ⟨rfl, ?_⟩
    repeat (first | exact HFIN.out | refine Below.setCell ?_ (by simp <;> omega) _)
  · have hto : T = to := by have := HTO.out; rw [if_neg hc] at this; omega
    subst hto
    have bge : decide ((H : Int) ≥ Bh) = false := decide_eq_false hc
    have ble : decide (Bh ≤ (H : Int)) = false := decide_eq_false hc
    clear HTO
    go_region_held3 (fun W => W.cell? ⟨w1.heap.size, 0, none⟩ = some (.int .i64 F) ∧ W.cell? ⟨w1.heap.size, 1, none⟩ = some (.int .i64 T) ∧ W.cell? ⟨w1.heap.size, 2, none⟩ = some (.string (mkS p)) ∧ W.cell? ⟨w1.heap.size, 3, none⟩ = some (.string (mkS s)) ∧ W.cell? ⟨w1.heap.size, 4, none⟩ = some (.string (mkS t)) ∧ W.cell? ⟨w2.heap.size, 0, none⟩ = some (.int .i64 G) ∧ W.cell? ⟨w2.heap.size, 1, none⟩ = some (.int .i64 H) ∧ W.cell? ⟨w2.heap.size, 2, none⟩ = some (.string (mkS q)) ∧ W.cell? ⟨w2.heap.size, 3, none⟩ = some (.string (mkS t)) ∧ W.cell? ⟨w2.heap.size, 4, none⟩ = some (.string (mkS u)) ∧ w1.heap.size < W.heap.size ∧ w2.heap.size < W.heap.size ∧ Below (w2.heap.size + 1) (w2.alloc (.cells #[.int .i64 G, .int .i64 H, .string (mkS q), .string (mkS t), .string (mkS u)] 77)) W)
      (first | exact KS.out _ (by first | assumption | exact (Below.refl _ _).drew | exact Below.refl _ _ | (refine Below.drew ?_; assumption)))
      (first | (go_at_call 50; refine (CB'.out _ (by first | assumption | exact (Below.refl _ _).drew | exact Below.refl _ _ | (refine Below.drew ?_; assumption))).mono ?_; rintro e wa ⟨rfl, hba⟩))
    obtain ⟨d0, d1, d2, d3, d4, c0, c1, c2, c3, c4, hz1, hz2, hbw⟩ := KS.out _ hba
    clear hba
    go_wp2
    go_region_held3 (fun W => W.cell? ⟨w1.heap.size, 0, none⟩ = some (.int .i64 F) ∧ W.cell? ⟨w1.heap.size, 1, none⟩ = some (.int .i64 T) ∧ W.cell? ⟨w1.heap.size, 2, none⟩ = some (.string (mkS p)) ∧ W.cell? ⟨w1.heap.size, 3, none⟩ = some (.string (mkS s)) ∧ W.cell? ⟨w1.heap.size, 4, none⟩ = some (.string (mkS t)) ∧ W.cell? ⟨w2.heap.size, 0, none⟩ = some (.int .i64 G) ∧ W.cell? ⟨w2.heap.size, 1, none⟩ = some (.int .i64 H) ∧ W.cell? ⟨w2.heap.size, 2, none⟩ = some (.string (mkS q)) ∧ W.cell? ⟨w2.heap.size, 3, none⟩ = some (.string (mkS t)) ∧ W.cell? ⟨w2.heap.size, 4, none⟩ = some (.string (mkS u)) ∧ w1.heap.size < W.heap.size ∧ w2.heap.size < W.heap.size ∧ Below (w2.heap.size + 1) (w2.alloc (.cells #[.int .i64 G, .int .i64 H, .string (mkS q), .string (mkS t), .string (mkS u)] 77)) W)
      (first | exact KS.out _ (by first | assumption | exact (Below.refl _ _).drew | exact Below.refl _ _ | (refine Below.drew ?_; assumption)))
      (first | (go_at_call 55; refine (CG1'.out _ (by first | assumption | exact (Below.refl _ _).drew | exact Below.refl _ _ | (refine Below.drew ?_; assumption))).mono ?_; rintro e wa ⟨rfl, hba⟩) | (go_at_call 55; refine (CG2'.out _ (by first | assumption | exact (Below.refl _ _).drew | exact Below.refl _ _ | (refine Below.drew ?_; assumption))).mono ?_; rintro e wa ⟨rfl, hba⟩))
    obtain ⟨d0, d1, d2, d3, d4, c0, c1, c2, c3, c4, hz1, hz2, hbw⟩ := KS.out _ hba
    have hb9 : Below w2.heap.size w2 wa := ((Below.refl w2.heap.size w2).alloc (Nat.le_refl _) _).trans (hbw.mono (by simp))
    have z0 := cell_lt R0'.out
    have r0 := (hb9.cell (p := ⟨w.heap.size + 1 + 1, 0, none⟩) z0).trans R0'.out
    have r1 := (hb9.cell (p := ⟨w.heap.size + 1 + 1, 1, none⟩) z0).trans R1'.out
    have r2 := (hb9.cell (p := ⟨w.heap.size + 1 + 1, 2, none⟩) z0).trans R2'.out
    have q0 := (hb9.frozen (p := ⟨w.heap.size + 1 + 1, 0, none⟩) z0).trans Q0'.out
    have q1 := (hb9.frozen (p := ⟨w.heap.size + 1 + 1, 1, none⟩) z0).trans Q1'.out
    have q2 := (hb9.frozen (p := ⟨w.heap.size + 1 + 1, 2, none⟩) z0).trans Q2'.out
    have hz : w.heap.size + 1 + 1 < wa.heap.size := cell_lt r0
    have HFIN := Lib.hid (HF2.out.trans (hb9.mono HF2.out.size))
    clear hb9 hbw hba KS CB' CG1' CG2'
    go_wp2
    refine bodyPost_ret (v := .tuple #[.agg #[.int .i64 f, .int .i64 T, .string ((mkS u).extract f en)], .int .i64 0]) (by simp [results, Tryd.results30, go_sem, r0, r1, r2, hz]) rfl ⟨rfl, ?_⟩
    repeat (first | exact HFIN.out | refine Below.setCell ?_ (by simp <;> omega) _)
end Go.Proofs.YthmhklmoodffcaaDoor
