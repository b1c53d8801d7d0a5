/- The reference's SameTable, at a table and a copy of it. -/
import Derived.Test.YtfhnigpjmljhbaaDoorOrFf
set_option linter.unusedVariables false
set_option linter.unusedSimpArgs false
namespace Go.Proofs.YtfhnigpjmljhbaaDoor.Or
open Go.RowKit Go.Shelf

set_option maxRecDepth 100000 in
set_option maxHeartbeats 8000000 in
theorem sameTable_any (t : Tab) (ve va vw ve2 va2 vw2 : Value) (w : World) (hT : TabIn w ve va vw t) (hT2 : TabIn w ve2 va2 vw2 t) (h1 : t.elems.length ≤ 20) (h2 : t.above.length ≤ 20) (h3 : t.wrong.length ≤ 20) :
    Calls Tryd.prog 13 #[tabV t ve va vw, tabV t ve2 va2 vw2] w fun e w' => e = .returned (.bool true) ∧ Below w.heap.size w w' := by
  obtain ⟨nE, hnE⟩ : ∃ n, n = t.elems.length := ⟨_, rfl⟩
  obtain ⟨nA, hnA⟩ : ∃ n, n = t.above.length := ⟨_, rfl⟩
  obtain ⟨nW, hnW⟩ : ∃ n, n = t.wrong.length := ⟨_, rfl⟩
  obtain ⟨m, hm⟩ : ∃ m, m = w.heap.size := ⟨_, rfl⟩
  obtain ⟨pe, ce, rfl⟩ := hT.e.form
  obtain ⟨pa, ca, rfl⟩ := hT.a.form
  obtain ⟨pw, cw, rfl⟩ := hT.w.form
  obtain ⟨pe2, ce2, rfl⟩ := hT2.e.form
  obtain ⟨pa2, ca2, rfl⟩ := hT2.a.form
  obtain ⟨pw2, cw2, rfl⟩ := hT2.w.form
  obtain ⟨W0, hW0⟩ : ∃ W0, W0 = (w.alloc (Obj.cells #[.string (mkS t.name), .slice pe nE ce, .slice pa nA ca, .slice pw nW cw] 26)).alloc (Obj.cells #[.string (mkS t.name), .slice pe2 nE ce2, .slice pa2 nA ca2, .slice pw2 nW cw2] 26) := ⟨_, rfl⟩
  have b0 : Below w.heap.size w W0 := by rw [hW0]; exact ((Below.refl _ _).alloc (Nat.le_refl _) _).alloc (by simp) _
  have c0 : W0.cell? ⟨m, 0, none⟩ = some (.string (mkS t.name)) := by rw [hW0, hm]; simp [go_sem]
  have c1 : W0.cell? ⟨m, 1, none⟩ = some (.slice pe nE ce) := by rw [hW0, hm]; simp [go_sem]
  have c2 : W0.cell? ⟨m, 2, none⟩ = some (.slice pa nA ca) := by rw [hW0, hm]; simp [go_sem]
  have c3 : W0.cell? ⟨m, 3, none⟩ = some (.slice pw nW cw) := by rw [hW0, hm]; simp [go_sem]
  have d0 : W0.cell? ⟨m + 1, 0, none⟩ = some (.string (mkS t.name)) := by rw [hW0, hm]; simp [go_sem]
  have d1 : W0.cell? ⟨m + 1, 1, none⟩ = some (.slice pe2 nE ce2) := by rw [hW0, hm]; simp [go_sem]
  have d2 : W0.cell? ⟨m + 1, 2, none⟩ = some (.slice pa2 nA ca2) := by rw [hW0, hm]; simp [go_sem]
  have d3 : W0.cell? ⟨m + 1, 3, none⟩ = some (.slice pw2 nW cw2) := by rw [hW0, hm]; simp [go_sem]
  have KS : Hid (∀ U, Below W0.heap.size W0 U → (U.cell? ⟨m, 1, none⟩ = some (.slice pe nE ce) ∧ U.cell? ⟨m, 2, none⟩ = some (.slice pa nA ca) ∧ U.cell? ⟨m, 3, none⟩ = some (.slice pw nW cw)) ∧ U.cell? ⟨m + 1, 1, none⟩ = some (.slice pe2 nE ce2) ∧ U.cell? ⟨m + 1, 2, none⟩ = some (.slice pa2 nA ca2) ∧ U.cell? ⟨m + 1, 3, none⟩ = some (.slice pw2 nW cw2)) := fun U h =>
    ⟨⟨(h.cell (cell_lt c1)).trans c1, (h.cell (cell_lt c2)).trans c2, (h.cell (cell_lt c3)).trans c3⟩, (h.cell (cell_lt d1)).trans d1, (h.cell (cell_lt d2)).trans d2, (h.cell (cell_lt d3)).trans d3⟩
  rw [← hnE, ← hnA, ← hnW] at hT hT2
  have HT := Lib.hid hT; have HT2 := Lib.hid hT2
  have HNE := Lib.hid hnE; have HNA := Lib.hid hnA; have HNW := Lib.hid hnW
  have HBW : Hid (∀ U, Below W0.heap.size W0 U → Below w.heap.size w U) := fun U h => b0.trans (h.mono b0.size)
  have n1 : nE ≤ 20 := by omega
  have n2 : nA ≤ 20 := by omega
  have n3 : nW ≤ 20 := by omega
  have HM := Lib.hid hm; have HW0 := Lib.hid hW0
  unfold tabV
  rw [← hnE, ← hnA, ← hnW]
  clear hT hT2 hnE hnA hnW hm hW0 b0 h1 h2 h3
  go_enter Tryd.func13, Tryd.ntmps13
  go_wp2_with fail
  rw [← HM.out, ← HW0.out]
  go_loopw [5] (fun i wr => ∃ k : Nat, k ≤ nE ∧ i = .int .i64 k ∧ Hid (Below W0.heap.size W0 wr)) (fun i _ => nE - (intOf i).toNat)
  case atStart => exact ⟨0, Nat.zero_le _, rfl, Below.refl _ _⟩
  case round =>
    clear c0 c1 c2 c3 d0 d1 d2 d3
    obtain ⟨k, hk, rfl, hb⟩ := hrel
    obtain ⟨⟨k1, k2, k3⟩, q1, q2, q3⟩ := KS.out _ hb.out
    by_cases hlt : k < nE
    · have hkl : k < t.elems.length := by have := HNE.out; omega
      obtain ⟨b1, o1, rfl, g1⟩ := HT.out.e.cell (i := k) hkl
      obtain ⟨b2, o2, rfl, g2⟩ := HT2.out.e.cell (i := k) hkl
      have hbw := HBW.out _ hb.out
      have g3 := (hbw.cell (cell_lt g1)).trans g1
      have g4 := (hbw.cell (cell_lt g2)).trans g2
      clear g1 g2 hbw hkl
      go_wp2
      go_quiet (fail)
      go_wp2
      go_roundw
      case rel => exact ⟨k + 1, by omega, by go_num, hb.out.trans (below_drewAt _ _ _)⟩
      case measure => simp [intOf]; omega
    · go_wp2
      go_loopw [6] (fun i wr => ∃ k : Nat, k ≤ nA ∧ i = .int .i64 k ∧ Hid (Below W0.heap.size W0 wr)) (fun i _ => nA - (intOf i).toNat)
      case atStart => exact ⟨0, Nat.zero_le _, rfl, hb⟩
      case round =>
        clear k1 k2 k3 q1 q2 q3 hb hk hlt
        obtain ⟨k, hk, rfl, hb⟩ := hrel
        obtain ⟨⟨k1, k2, k3⟩, q1, q2, q3⟩ := KS.out _ hb.out
        by_cases hlt : k < nA
        · have hkl : k < t.above.length := by have := HNA.out; omega
          obtain ⟨b1, o1, s1, e1, rfl, g1, r1⟩ := HT.out.a.cell (i := k) hkl
          obtain ⟨b2, o2, s2, e2, rfl, g2, r2⟩ := HT2.out.a.cell (i := k) hkl
          have hbw := HBW.out _ hb.out
          have g3 := (hbw.cell (cell_lt g1)).trans g1
          have g4 := (hbw.cell (cell_lt g2)).trans g2
          have r3 := Lib.hid (r1.below hbw)
          have r4 := Lib.hid (r2.below hbw)
          obtain ⟨L, hL⟩ : ∃ L, L = t.above.getD k [] := ⟨_, rfl⟩
          rw [← hL] at g3 g4 r3 r4
          obtain ⟨l, hl⟩ : ∃ l, l = L.length := ⟨_, rfl⟩
          rw [← hl] at g3 g4 r3 r4
          have CS : Hid (∀ U, Below wr.heap.size wr U → Calls Tryd.prog 15 #[.slice s1 l e1, .slice s2 l e2] U fun e w' => e = .returned (.bool true) ∧ Below U.heap.size U w') := fun U h => by
            refine (sameInts_any _ _ L L U (r3.out.below h) (r4.out.below h)).mono ?_
            rintro e w' ⟨rfl, hb⟩
            exact ⟨by simp, hb⟩
          have KV : Hid (∀ V, Below wr.heap.size wr V → V.cell? ⟨m, 2, none⟩ = some (.slice (some ⟨b1, o1, none⟩) nA ca) ∧ V.cell? ⟨m + 1, 2, none⟩ = some (.slice (some ⟨b2, o2, none⟩) nA ca2) ∧ V.cell? ⟨b1, o1 + k, none⟩ = some (.slice s1 l e1) ∧ V.cell? ⟨b2, o2 + k, none⟩ = some (.slice s2 l e2)) := fun V h =>
            ⟨(h.cell (cell_lt k2)).trans k2, (h.cell (cell_lt q2)).trans q2, (h.cell (cell_lt g3)).trans g3, (h.cell (cell_lt g4)).trans g4⟩
          clear g1 g2 r1 r2 hbw hkl hl hL
          go_wp2
          go_region_held3 (fun V => V.cell? ⟨m, 2, none⟩ = some (.slice (some ⟨b1, o1, none⟩) nA ca) ∧ V.cell? ⟨m + 1, 2, none⟩ = some (.slice (some ⟨b2, o2, none⟩) nA ca2) ∧ V.cell? ⟨b1, o1 + k, none⟩ = some (.slice s1 l e1) ∧ V.cell? ⟨b2, o2 + k, none⟩ = some (.slice s2 l e2))
            (exact KV.out _ (by repeat (first | with_reducible exact Below.refl _ _ | with_reducible refine Below.drew ?_ | refine below_step (by with_reducible assumption) ?_ (Nat.le_refl _))))
            ((go_at_call 15; refine (CS.out _ (Below.drew (Below.refl _ _))).mono ?_; rintro e w7 ⟨rfl, hb7⟩))
          all_goals
            have HB7 := Lib.hid (hb.out.trans ((below_step hb7 (Below.drew (Below.refl wr.heap.size wr)) (Nat.le_refl _)).mono hb.out.size))
            clear hb7
            go_wp2
            go_roundw
            case rel => exact ⟨k + 1, by omega, by go_num, HB7⟩
            case measure => simp [intOf]; omega
        · go_wp2
          go_loopw [7] (fun i wr => ∃ k : Nat, k ≤ nW ∧ i = .int .i64 k ∧ Hid (Below W0.heap.size W0 wr)) (fun i _ => nW - (intOf i).toNat)
          case atStart => exact ⟨0, Nat.zero_le _, rfl, hb⟩
          case round =>
            clear k1 k2 k3 q1 q2 q3 hb hk hlt
            obtain ⟨k, hk, rfl, hb⟩ := hrel
            obtain ⟨⟨k1, k2, k3⟩, q1, q2, q3⟩ := KS.out _ hb.out
            by_cases hlt : k < nW
            · have hkl : k < t.wrong.length := by have := HNW.out; omega
              obtain ⟨b1, o1, rfl, g1⟩ := HT.out.w.cell (i := k) hkl
              obtain ⟨b2, o2, rfl, g2⟩ := HT2.out.w.cell (i := k) hkl
              have hbw := HBW.out _ hb.out
              have g3 := (hbw.cell (cell_lt g1)).trans g1
              have g4 := (hbw.cell (cell_lt g2)).trans g2
              clear g1 g2 hbw hkl
              go_wp2
              go_quiet (fail)
              go_wp2
              go_roundw
              case rel => exact ⟨k + 1, by omega, by go_num, hb.out.trans (below_drewAt _ _ _)⟩
              case measure => simp [intOf]; omega
            · go_wp2
              go_ret
              exact ⟨rfl, HBW.out _ hb.out⟩
end Go.Proofs.YtfhnigpjmljhbaaDoor.Or
