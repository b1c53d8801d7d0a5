/- The reference's Both. -/
import Derived.Test.YthmhklmoodffcaaDoorVa
import Derived.Test.YthmhklmoodffcaaDoorQa
set_option linter.unusedVariables false
set_option linter.unusedSimpArgs false
namespace Go.Proofs.YthmhklmoodffcaaDoor
open Go.RowKit Go.Shelf

set_option maxRecDepth 100000 in
set_option maxHeartbeats 4000000 in
theorem refBoth_no (s t u : List UInt8) (x y : Ed) (E1 E2 : Int) (w : World) (hE : E1 ≠ 0 ∨ (E1 = 0 ∧ E2 ≠ 0))
    (C1 : Hid (∀ W, Calls Tryd.prog 26 #[.string (mkS s), .agg #[.int .i64 x.1, .int .i64 x.2.1, .string (mkS x.2.2)]] W fun e w' => e = .returned (.tuple #[.string (mkS t), .int .i64 E1]) ∧ Below W.heap.size W w'))
    (C2 : Hid (∀ W, Calls Tryd.prog 26 #[.string (mkS t), .agg #[.int .i64 y.1, .int .i64 y.2.1, .string (mkS y.2.2)]] W fun e w' => e = .returned (.tuple #[.string (mkS u), .int .i64 E2]) ∧ Below W.heap.size W w')) :
    Calls Tryd.prog 31 #[.string (mkS s), .agg #[.int .i64 x.1, .int .i64 x.2.1, .string (mkS x.2.2)], .agg #[.int .i64 y.1, .int .i64 y.2.1, .string (mkS y.2.2)]] w fun e w' =>
      e = .returned (.tuple #[.agg #[.int .i64 0, .int .i64 0, .string ⟨#[]⟩], .int .i64 (if E1 = 0 then E2 else E1)]) ∧ Below w.heap.size w w' := by
  rcases hE with h1 | ⟨rfl, h2⟩
  · rw [if_neg h1]
    have b1 : (E1 != 0) = true := by rw [bne_iff_ne]; exact h1
    clear h1
    go_enter Tryd.func31, Tryd.ntmps31
    go_wp2_with fail
    refine (C1.out _).mono ?_
    rintro e w1 ⟨rfl, hb⟩
    have hs1 := hb.size
    have r0 : w1.cell? ⟨w.heap.size + 1 + 1, 0, none⟩ = some (.int .i64 0) := (hb.cell (by simp)).trans (by simp [go_sem])
    have r1 : w1.cell? ⟨w.heap.size + 1 + 1, 1, none⟩ = some (.int .i64 0) := (hb.cell (by simp)).trans (by simp [go_sem])
    have r2 : w1.cell? ⟨w.heap.size + 1 + 1, 2, none⟩ = some (.string ⟨#[]⟩) := (hb.cell (by simp)).trans (by simp [go_sem])
    have q0 : w1.frozen? ⟨w.heap.size + 1 + 1, 0, none⟩ = false := (hb.frozen (by simp)).trans (by simp [go_sem])
    have q1 : w1.frozen? ⟨w.heap.size + 1 + 1, 1, none⟩ = false := (hb.frozen (by simp)).trans (by simp [go_sem])
    have q2 : w1.frozen? ⟨w.heap.size + 1 + 1, 2, none⟩ = false := (hb.frozen (by simp)).trans (by simp [go_sem])
    have hz : w.heap.size + 1 + 1 < w1.heap.size := by simp at hs1; omega
    have hfin := Lib.hid (((((Below.refl w.heap.size w).alloc (Nat.le_refl _) _).alloc (by simp) _).alloc (by simp; omega) _).trans (hb.mono (by simp; omega)))
    clear hb hs1
    go_wp2
    refine bodyPost_ret (v := .tuple #[.agg #[.int .i64 0, .int .i64 0, .string ⟨#[]⟩], .int .i64 E1]) (by simp [results, Tryd.results31, go_sem, r0, r1, r2, hz]) rfl ⟨rfl, ?_⟩
    repeat (first | exact hfin.out | refine Below.setCell ?_ (by simp <;> omega) _ | refine Below.alloc ?_ (by first | exact hfin.out.size | (simp; omega)) _)
  · rw [if_pos rfl]
    have b1 : (E2 != 0) = true := by rw [bne_iff_ne]; exact h2
    clear h2
    go_enter Tryd.func31, Tryd.ntmps31
    go_wp2_with fail
    refine (C1.out _).mono ?_
    rintro e w1 ⟨rfl, hb⟩
    have hs1 := hb.size
    have l0 : w1.cell? ⟨w.heap.size + 1, 0, none⟩ = some (.int .i64 y.1) := (hb.cell (by simp <;> omega)).trans (by simp [go_sem])
    have l1 : w1.cell? ⟨w.heap.size + 1, 1, none⟩ = some (.int .i64 y.2.1) := (hb.cell (by simp <;> omega)).trans (by simp [go_sem])
    have l2 : w1.cell? ⟨w.heap.size + 1, 2, none⟩ = some (.string (mkS y.2.2)) := (hb.cell (by simp <;> omega)).trans (by simp [go_sem])
    have R0 := Lib.hid (show w1.cell? ⟨w.heap.size + 1 + 1, 0, none⟩ = some (.int .i64 0) from (hb.cell (by simp)).trans (by simp [go_sem]))
    have R1 := Lib.hid (show w1.cell? ⟨w.heap.size + 1 + 1, 1, none⟩ = some (.int .i64 0) from (hb.cell (by simp)).trans (by simp [go_sem]))
    have R2 := Lib.hid (show w1.cell? ⟨w.heap.size + 1 + 1, 2, none⟩ = some (.string ⟨#[]⟩) from (hb.cell (by simp)).trans (by simp [go_sem]))
    have Q0 := Lib.hid (show w1.frozen? ⟨w.heap.size + 1 + 1, 0, none⟩ = false from (hb.frozen (by simp)).trans (by simp [go_sem]))
    have Q1 := Lib.hid (show w1.frozen? ⟨w.heap.size + 1 + 1, 1, none⟩ = false from (hb.frozen (by simp)).trans (by simp [go_sem]))
    have Q2 := Lib.hid (show w1.frozen? ⟨w.heap.size + 1 + 1, 2, none⟩ = false from (hb.frozen (by simp)).trans (by simp [go_sem]))
    have HF1 := Lib.hid (((((Below.refl w.heap.size w).alloc (Nat.le_refl _) _).alloc (by simp) _).alloc (by simp; omega) _).trans (hb.mono (by simp; omega)))
    clear hb hs1
    go_wp2_with fail
    refine (C2.out _).mono ?_
    rintro e w2 ⟨rfl, hb⟩
    have r0 := (hb.cell (cell_lt R0.out)).trans R0.out
    have r1 := (hb.cell (cell_lt R1.out)).trans R1.out
    have r2 := (hb.cell (cell_lt R2.out)).trans R2.out
    have q0 := (hb.frozen (p := ⟨w.heap.size + 1 + 1, 0, none⟩) (cell_lt R0.out)).trans Q0.out
    have q1 := (hb.frozen (p := ⟨w.heap.size + 1 + 1, 1, none⟩) (cell_lt R1.out)).trans Q1.out
    have q2 := (hb.frozen (p := ⟨w.heap.size + 1 + 1, 2, none⟩) (cell_lt R2.out)).trans Q2.out
    have hz : w.heap.size + 1 + 1 < w2.heap.size := cell_lt r0
    have hfin := Lib.hid (HF1.out.trans (hb.mono HF1.out.size))
    clear hb l0 l1 l2
    go_wp2
    refine bodyPost_ret (v := .tuple #[.agg #[.int .i64 0, .int .i64 0, .string ⟨#[]⟩], .int .i64 E2]) (by simp [results, Tryd.results31, go_sem, r0, r1, r2, hz]) rfl ⟨rfl, ?_⟩
    repeat (first | exact hfin.out | refine Below.setCell ?_ (by simp <;> omega) _ | refine Below.alloc ?_ (by first | exact hfin.out.size | (simp; omega)) _)

set_option maxRecDepth 100000 in
set_option maxHeartbeats 4000000 in
theorem refBoth_walk (s p q t u : List UInt8) (F T G H f to en : Nat) (Bh m1 dd1 dd2 : Int) (w : World)
    (hs : s.length ≤ 2500) (ht : t.length ≤ 2500) (hu : u.length ≤ 2500) (hp : p.length ≤ 2500)
    (C1 : Hid (∀ W, Calls Tryd.prog 26 #[.string (mkS s), .agg #[.int .i64 F, .int .i64 T, .string (mkS p)]] W fun e w' => e = .returned (.tuple #[.string (mkS t), .int .i64 0]) ∧ Below W.heap.size W w'))
    (C2 : Hid (∀ W, Calls Tryd.prog 26 #[.string (mkS t), .agg #[.int .i64 G, .int .i64 H, .string (mkS q)]] W fun e w' => e = .returned (.tuple #[.string (mkS u), .int .i64 0]) ∧ Below W.heap.size W w'))
    (hF : F ≤ 2500) (hT : T ≤ 2500) (hG : G ≤ 2500) (hH : H ≤ 2500)
    (hmin : f = min F G) (hB : Bh = (F : Int) + (p.length : Int)) (hd2 : dd2 = (t.length : Int) - (H : Int)) (hm1 : m1 = (s.length : Int) - dd2) (hto : (to : Int) = if Bh ≤ (H : Int) then max (T : Int) m1 else (T : Int))
    (hd1 : dd1 = (s.length : Int) - (to : Int)) (hen : (en : Int) = (u.length : Int) - dd1) (hfe : f ≤ en) (heu : en ≤ u.length) :
    Calls Tryd.prog 31 #[.string (mkS s), .agg #[.int .i64 F, .int .i64 T, .string (mkS p)], .agg #[.int .i64 G, .int .i64 H, .string (mkS q)]] w fun e w' =>
      e = .returned (.tuple #[.agg #[.int .i64 f, .int .i64 to, .string (mkS ((u.take en).drop f))], .int .i64 0]) ∧ Below w.heap.size w w' := by
  have hsz : (mkS u).size = u.length := mkS_size u
  have hss : (mkS s).size = s.length := mkS_size s
  have hst : (mkS t).size = t.length := mkS_size t
  have hsp : (mkS p).size = p.length := mkS_size p
  have heu' : en ≤ (mkS u).size := by omega
  have hx : (mkS u).extract f en = mkS ((u.take en).drop f) := by
    rw [← mkS_self ((mkS u).extract f en), Lib.extract_data, mkS_list, List.drop_take]
  rw [← hx]
  have a0 : IntKind.i64.wrap ((F : Int) + ((mkS p).size : Int)) = Bh := by rw [hB, hsp]; exact IntWalk.i64_in _ (by omega)
  have a1 : IntKind.i64.wrap (((mkS t).size : Int) - (H : Int)) = dd2 := by rw [hd2, hst]; exact IntWalk.i64_in _ (by omega)
  have a2 : IntKind.i64.wrap (((mkS s).size : Int) - dd2) = m1 := by rw [hm1, hss]; exact IntWalk.i64_in _ (by omega)
  have a3 : IntKind.i64.wrap (((mkS s).size : Int) - (to : Int)) = dd1 := by rw [hd1, hss]; exact IntWalk.i64_in _ (by split at hto <;> omega)
  have a4 : IntKind.i64.wrap (((mkS u).size : Int) - dd1) = (en : Int) := by rw [hen, hsz]; exact IntWalk.i64_in _ (by split at hto <;> omega)
  have HMIN : Hid (min (F : Int) (G : Int) = (f : Int)) := by show _ = _; omega
  have HTO := Lib.hid hto
  clear hsz hss hst hsp heu hx hs ht hu hp hB hd2 hm1 hd1 hen hF hT hG hH hmin hto
  by_cases hc : Bh ≤ (H : Int)
  · have HMAX : Hid (max (T : Int) m1 = (to : Int)) := by show _ = _; rw [HTO.out, if_pos hc]
    have bge : decide ((H : Int) ≥ Bh) = true := decide_eq_true hc
    have ble : decide (Bh ≤ (H : Int)) = true := decide_eq_true hc
    clear HTO
    go_enter Tryd.func31, Tryd.ntmps31
    go_wp2_with fail
    refine (C1.out _).mono ?_
    rintro e w1 ⟨rfl, hb⟩
    have hs1 := hb.size
    have K0 := Lib.hid (show w1.cell? ⟨w.heap.size, 0, none⟩ = some (.int .i64 F) from (hb.cell (by simp <;> omega)).trans (by simp [go_sem]))
    have K1 := Lib.hid (show w1.cell? ⟨w.heap.size, 1, none⟩ = some (.int .i64 T) from (hb.cell (by simp <;> omega)).trans (by simp [go_sem]))
    have K2 := Lib.hid (show w1.cell? ⟨w.heap.size, 2, none⟩ = some (.string (mkS p)) from (hb.cell (by simp <;> omega)).trans (by simp [go_sem]))
    have l0 : w1.cell? ⟨w.heap.size + 1, 0, none⟩ = some (.int .i64 G) := (hb.cell (by simp <;> omega)).trans (by simp [go_sem])
    have l1 : w1.cell? ⟨w.heap.size + 1, 1, none⟩ = some (.int .i64 H) := (hb.cell (by simp <;> omega)).trans (by simp [go_sem])
    have l2 : w1.cell? ⟨w.heap.size + 1, 2, none⟩ = some (.string (mkS q)) := (hb.cell (by simp <;> omega)).trans (by simp [go_sem])
    have R0 := Lib.hid (show w1.cell? ⟨w.heap.size + 1 + 1, 0, none⟩ = some (.int .i64 0) from (hb.cell (by simp)).trans (by simp [go_sem]))
    have R1 := Lib.hid (show w1.cell? ⟨w.heap.size + 1 + 1, 1, none⟩ = some (.int .i64 0) from (hb.cell (by simp)).trans (by simp [go_sem]))
    have R2 := Lib.hid (show w1.cell? ⟨w.heap.size + 1 + 1, 2, none⟩ = some (.string ⟨#[]⟩) from (hb.cell (by simp)).trans (by simp [go_sem]))
    have Q0 := Lib.hid (show w1.frozen? ⟨w.heap.size + 1 + 1, 0, none⟩ = false from (hb.frozen (by simp)).trans (by simp [go_sem]))
    have Q1 := Lib.hid (show w1.frozen? ⟨w.heap.size + 1 + 1, 1, none⟩ = false from (hb.frozen (by simp)).trans (by simp [go_sem]))
    have Q2 := Lib.hid (show w1.frozen? ⟨w.heap.size + 1 + 1, 2, none⟩ = false from (hb.frozen (by simp)).trans (by simp [go_sem]))
    have HF1 := Lib.hid (((((Below.refl w.heap.size w).alloc (Nat.le_refl _) _).alloc (by simp) _).alloc (by simp; omega) _).trans (hb.mono (by simp; omega)))
    clear hb hs1
    go_wp2_with fail
    refine (C2.out _).mono ?_
    rintro e w2 ⟨rfl, hb⟩
    have k0 := (hb.cell (cell_lt K0.out)).trans K0.out
    have k1 := (hb.cell (cell_lt K1.out)).trans K1.out
    have k2 := (hb.cell (cell_lt K2.out)).trans K2.out
    have m0 := (hb.cell (cell_lt l0)).trans l0
    have m1' := (hb.cell (cell_lt l1)).trans l1
    have m2 := (hb.cell (cell_lt l2)).trans l2
    have r0 := (hb.cell (cell_lt R0.out)).trans R0.out
    have r1 := (hb.cell (cell_lt R1.out)).trans R1.out
    have r2 := (hb.cell (cell_lt R2.out)).trans R2.out
    have q0 := (hb.frozen (p := ⟨w.heap.size + 1 + 1, 0, none⟩) (cell_lt R0.out)).trans Q0.out
    have q1 := (hb.frozen (p := ⟨w.heap.size + 1 + 1, 1, none⟩) (cell_lt R1.out)).trans Q1.out
    have q2 := (hb.frozen (p := ⟨w.heap.size + 1 + 1, 2, none⟩) (cell_lt R2.out)).trans Q2.out
    have hz : w.heap.size + 1 + 1 < w2.heap.size := cell_lt r0
    have hz1 : w.heap.size + 1 < w2.heap.size := by omega
    have hz0 : w.heap.size < w2.heap.size := by omega
    have hfin := Lib.hid (HF1.out.trans (hb.mono HF1.out.size))
    have hmin := HMIN.out
    have hmax := HMAX.out
    clear hb l0 l1 l2
    go_wp2
    refine bodyPost_ret (v := .tuple #[.agg #[.int .i64 f, .int .i64 to, .string ((mkS u).extract f en)], .int .i64 0]) (by simp [results, Tryd.results31, go_sem, r0, r1, r2, hz]) rfl ⟨rfl, ?_⟩
    repeat (first | exact hfin.out | refine Below.setCell ?_ (by simp <;> omega) _ | refine Below.alloc ?_ (by first | exact hfin.out.size | (simp; omega)) _)
  · have hto : T = to := by have := HTO.out; rw [if_neg hc] at this; omega
    have bge : decide ((H : Int) ≥ Bh) = false := decide_eq_false hc
    have ble : decide (Bh ≤ (H : Int)) = false := decide_eq_false hc
    have HMAX : Hid True := trivial
    clear HTO
    subst hto
    go_enter Tryd.func31, Tryd.ntmps31
    go_wp2_with fail
    refine (C1.out _).mono ?_
    rintro e w1 ⟨rfl, hb⟩
    have hs1 := hb.size
    have K0 := Lib.hid (show w1.cell? ⟨w.heap.size, 0, none⟩ = some (.int .i64 F) from (hb.cell (by simp <;> omega)).trans (by simp [go_sem]))
    have K1 := Lib.hid (show w1.cell? ⟨w.heap.size, 1, none⟩ = some (.int .i64 T) from (hb.cell (by simp <;> omega)).trans (by simp [go_sem]))
    have K2 := Lib.hid (show w1.cell? ⟨w.heap.size, 2, none⟩ = some (.string (mkS p)) from (hb.cell (by simp <;> omega)).trans (by simp [go_sem]))
    have l0 : w1.cell? ⟨w.heap.size + 1, 0, none⟩ = some (.int .i64 G) := (hb.cell (by simp <;> omega)).trans (by simp [go_sem])
    have l1 : w1.cell? ⟨w.heap.size + 1, 1, none⟩ = some (.int .i64 H) := (hb.cell (by simp <;> omega)).trans (by simp [go_sem])
    have l2 : w1.cell? ⟨w.heap.size + 1, 2, none⟩ = some (.string (mkS q)) := (hb.cell (by simp <;> omega)).trans (by simp [go_sem])
    have R0 := Lib.hid (show w1.cell? ⟨w.heap.size + 1 + 1, 0, none⟩ = some (.int .i64 0) from (hb.cell (by simp)).trans (by simp [go_sem]))
    have R1 := Lib.hid (show w1.cell? ⟨w.heap.size + 1 + 1, 1, none⟩ = some (.int .i64 0) from (hb.cell (by simp)).trans (by simp [go_sem]))
    have R2 := Lib.hid (show w1.cell? ⟨w.heap.size + 1 + 1, 2, none⟩ = some (.string ⟨#[]⟩) from (hb.cell (by simp)).trans (by simp [go_sem]))
    have Q0 := Lib.hid (show w1.frozen? ⟨w.heap.size + 1 + 1, 0, none⟩ = false from (hb.frozen (by simp)).trans (by simp [go_sem]))
    have Q1 := Lib.hid (show w1.frozen? ⟨w.heap.size + 1 + 1, 1, none⟩ = false from (hb.frozen (by simp)).trans (by simp [go_sem]))
    have Q2 := Lib.hid (show w1.frozen? ⟨w.heap.size + 1 + 1, 2, none⟩ = false from (hb.frozen (by simp)).trans (by simp [go_sem]))
    have HF1 := Lib.hid (((((Below.refl w.heap.size w).alloc (Nat.le_refl _) _).alloc (by simp) _).alloc (by simp; omega) _).trans (hb.mono (by simp; omega)))
    clear hb hs1
    go_wp2_with fail
    refine (C2.out _).mono ?_
    rintro e w2 ⟨rfl, hb⟩
    have k0 := (hb.cell (cell_lt K0.out)).trans K0.out
    have k1 := (hb.cell (cell_lt K1.out)).trans K1.out
    have k2 := (hb.cell (cell_lt K2.out)).trans K2.out
    have m0 := (hb.cell (cell_lt l0)).trans l0
    have m1' := (hb.cell (cell_lt l1)).trans l1
    have m2 := (hb.cell (cell_lt l2)).trans l2
    have r0 := (hb.cell (cell_lt R0.out)).trans R0.out
    have r1 := (hb.cell (cell_lt R1.out)).trans R1.out
    have r2 := (hb.cell (cell_lt R2.out)).trans R2.out
    have q0 := (hb.frozen (p := ⟨w.heap.size + 1 + 1, 0, none⟩) (cell_lt R0.out)).trans Q0.out
    have q1 := (hb.frozen (p := ⟨w.heap.size + 1 + 1, 1, none⟩) (cell_lt R1.out)).trans Q1.out
    have q2 := (hb.frozen (p := ⟨w.heap.size + 1 + 1, 2, none⟩) (cell_lt R2.out)).trans Q2.out
    have hz : w.heap.size + 1 + 1 < w2.heap.size := cell_lt r0
    have hz1 : w.heap.size + 1 < w2.heap.size := by omega
    have hz0 : w.heap.size < w2.heap.size := by omega
    have hfin := Lib.hid (HF1.out.trans (hb.mono HF1.out.size))
    have hmin := HMIN.out
    have hmax := HMAX.out
    clear hb l0 l1 l2
    go_wp2
    refine bodyPost_ret (v := .tuple #[.agg #[.int .i64 f, .int .i64 T, .string ((mkS u).extract f en)], .int .i64 0]) (by simp [results, Tryd.results31, go_sem, r0, r1, r2, hz]) rfl ⟨rfl, ?_⟩
    repeat (first | exact hfin.out | refine Below.setCell ?_ (by simp <;> omega) _ | refine Below.alloc ?_ (by first | exact hfin.out.size | (simp; omega)) _)
end Go.Proofs.YthmhklmoodffcaaDoor
