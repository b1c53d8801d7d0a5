/- The reference's Copy. -/
import Derived.Test.YtfhnigpjmljhbaaDoorOrDb
import Derived.Deep.CutRange
import Derived.Deep.RegionLaw
set_option linter.unusedVariables false
set_option linter.unusedSimpArgs false
namespace Go.Proofs.YtfhnigpjmljhbaaDoor.Or
open Go.RowKit Go.Shelf

/-- What a copy has of its own. -/
structure CopyOwn (w w' : World) (t : Tab) (ve va vw : Value) : Prop where
  row : ∃ xs, w'.ownsRow w.heap.size 35 1 va t.above.length xs
  e : RdT w' 9 ve (t.elems.map strV)
  w : RdT w' 4 vw (t.wrong.map Value.bool)

set_option maxRecDepth 100000 in
set_option maxHeartbeats 8000000 in
theorem copy_own (t : Tab) (ve va vw : Value) (w : World) (hT : TabIn w ve va vw t) (h1 : t.elems.length ≤ 20) (h2 : t.above.length ≤ 20) (h3 : t.wrong.length ≤ 20) (h4 : ∀ l ∈ t.above, l.length ≤ 20) :
    Calls Tryd.prog 11 #[tabV t ve va vw] w fun e w' => ∃ ve' va' vw', e = .returned (tabV t ve' va' vw') ∧ TabIn w' ve' va' vw' t ∧ Below w.heap.size w w' ∧ CopyOwn w w' t ve' va' vw' := by
  obtain ⟨iS, hSi, hS0, hS1, hS2⟩ := info_parts infoStr
  obtain ⟨iB, hBi, hB0, hB1, hB2⟩ := info_parts infoBool
  obtain ⟨iI, hIi, hI0, hI1, hI2⟩ := info_parts infoI
  obtain ⟨iII, hJi, hJ0, hJ1, hJ2⟩ := info_parts infoII
  obtain ⟨pe, ce, rfl⟩ := hT.e.form
  obtain ⟨pa, ca, rfl⟩ := hT.a.form
  obtain ⟨pw, cw, rfl⟩ := hT.w.form
  obtain ⟨nE, hnE⟩ : ∃ x, x = t.elems.length := ⟨_, rfl⟩
  obtain ⟨nA, hnA⟩ : ∃ x, x = t.above.length := ⟨_, rfl⟩
  obtain ⟨nW, hnW⟩ : ∃ x, x = t.wrong.length := ⟨_, rfl⟩
  have qE : (t.elems.map strV).length = nE := by simp [hnE]
  have qW : (t.wrong.map Value.bool).length = nW := by simp [hnW]
  obtain ⟨W0, hW0⟩ : ∃ W0, W0 = (w.alloc (Obj.cells #[.string (mkS t.name), .slice pe nE ce, .slice pa nA ca, .slice pw nW cw] 26)).alloc (Obj.cells #[.string ⟨#[]⟩, .slice none 0 0, .slice none 0 0, .slice none 0 0] 26) := ⟨_, rfl⟩
  have k0 : W0.cell? ⟨w.heap.size, 0, none⟩ = some (.string (mkS t.name)) := by rw [hW0]; simp [go_sem]
  have k1 : W0.cell? ⟨w.heap.size, 1, none⟩ = some (.slice pe nE ce) := by rw [hW0]; simp [go_sem]
  have k2 : W0.cell? ⟨w.heap.size, 2, none⟩ = some (.slice pa nA ca) := by rw [hW0]; simp [go_sem]
  have k3 : W0.cell? ⟨w.heap.size, 3, none⟩ = some (.slice pw nW cw) := by rw [hW0]; simp [go_sem]
  have z0 : W0.heap[w.heap.size + 1]? = some (Obj.cells #[.string ⟨#[]⟩, .slice none 0 0, .slice none 0 0, .slice none 0 0] 26 (0, 0)) := by rw [hW0]; exact heap_alloc_at (by simp only [alloc_size])
  have Z := Lib.hid z0
  clear z0
  have b0 : Below w.heap.size w W0 := by rw [hW0]; exact ((Below.refl _ _).alloc (Nat.le_refl _) _).alloc (by simp) _
  have hT0 := hT.below b0
  have HE : Hid (Rd W0 (.slice pe nE ce) (t.elems.map strV)) := by show Rd _ _ _; rw [hnE]; exact hT0.e
  have HWr : Hid (Rd W0 (.slice pw nW cw) (t.wrong.map Value.bool)) := by show Rd _ _ _; rw [hnW]; exact hT0.w
  obtain ⟨LE, hLE⟩ : ∃ L, L = t.elems.map strV := ⟨_, rfl⟩
  obtain ⟨LW, hLW⟩ : ∃ L, L = t.wrong.map Value.bool := ⟨_, rfl⟩
  rw [← hLE] at HE qE
  rw [← hLW] at HWr qW
  have HW0 := Lib.hid hW0; have HB0 := Lib.hid b0; have HT0 := Lib.hid hT0
  have HLE := Lib.hid hLE; have HLW := Lib.hid hLW; have HNE := Lib.hid hnE; have HNA := Lib.hid hnA; have HNW := Lib.hid hnW
  have lw0 : w.heap.size < W0.heap.size := cell_lt k0
  have KS : Hid (∀ V, Below W0.heap.size W0 V → V.cell? ⟨w.heap.size, 0, none⟩ = some (.string (mkS t.name)) ∧ V.cell? ⟨w.heap.size, 1, none⟩ = some (.slice pe nE ce) ∧ V.cell? ⟨w.heap.size, 3, none⟩ = some (.slice pw nW cw)) := fun V h =>
    ⟨(h.cell (cell_lt k0)).trans k0, (h.cell (cell_lt k1)).trans k1, (h.cell (cell_lt k3)).trans k3⟩
  have oE : LE.length ≤ 1000 := by omega
  have oW : LW.length ≤ 1000 := by omega
  have OE := Lib.hid oE; have OW := Lib.hid oW
  clear qE qW
  unfold tabV
  rw [← hnE, ← hnA, ← hnW]
  clear hT hT0 b0 hW0 hLE hLW hnE hnA hnW h1 h3 oE oW
  go_enter Tryd.func11, Tryd.ntmps11
  go_wp2_with fail
  rw [← HW0.out]
  go_cut [3] from 5 to 15 (fun x wx => ∃ q vE vW, x = .pointer (some ⟨q, 0, none⟩) ∧ W0.heap.size ≤ q ∧ wx.heap[q]? = some (.cells #[.string (mkS t.name), vE, .slice none 0 0, vW] 26 (0, 0)) ∧ RdT wx 9 vE LE ∧ RdT wx 4 vW LW ∧ Hid (Below W0.heap.size W0 wx))
  case first =>
    rcases Nat.eq_zero_or_pos LE.length with e1 | e1 <;> rcases Nat.eq_zero_or_pos LW.length with e2 | e2 <;> (
      have E1 := Lib.hid e1; have E2 := Lib.hid e2
      clear e1 e2
      go_region_held3 (fun V => V.cell? ⟨w.heap.size, 0, none⟩ = some (.string (mkS t.name)) ∧ V.cell? ⟨w.heap.size, 1, none⟩ = some (.slice pe nE ce) ∧ V.cell? ⟨w.heap.size, 3, none⟩ = some (.slice pw nW cw))
        (exact KS.out _ (by repeat (first | with_reducible exact Below.refl _ _ | with_reducible refine Below.drew ?_ | with_reducible refine below_alloc ?_ _)))
        (first
          | (have _hp : 0 < _ := E1.out; with_reducible refine only_app 22 ?_; refine step_append_new rfl _ _ 22 9 rfl iS _ 16 Tryd.underlying22 hSi hS0 hS1 hS2 (by decide) _ _ LE rfl rfl (HE.out.below (show Below W0.heap.size W0 _ from (by repeat (first | with_reducible exact Below.refl _ _ | with_reducible refine Below.drew ?_ | with_reducible refine below_alloc ?_ _)))) E1.out OE.out ?_; intro csE capE h1csE h2csE)
          | (have _hp : 0 < _ := E2.out; with_reducible refine only_app 24 ?_; refine step_append_new rfl _ _ 24 4 rfl iB _ 1 Tryd.underlying24 hBi hB0 hB1 hB2 (by decide) _ _ LW rfl rfl (HWr.out.below (show Below W0.heap.size W0 _ from (by repeat (first | with_reducible exact Below.refl _ _ | with_reducible refine Below.drew ?_ | with_reducible refine below_alloc ?_ _)))) E2.out OW.out ?_; intro csW capW h1csW h2csW)
          | (have _hp : _ = 0 := E1.out; with_reducible refine only_app 22 ?_; refine step_append_none rfl _ _ 22 9 rfl iS Tryd.underlying22 hSi hS1 _ _ LE rfl rfl (HE.out.below (show Below W0.heap.size W0 _ from (by repeat (first | with_reducible exact Below.refl _ _ | with_reducible refine Below.drew ?_ | with_reducible refine below_alloc ?_ _)))) E1.out ?_)
          | (have _hp : _ = 0 := E2.out; with_reducible refine only_app 24 ?_; refine step_append_none rfl _ _ 24 4 rfl iB Tryd.underlying24 hBi hB1 _ _ LW rfl rfl (HWr.out.below (show Below W0.heap.size W0 _ from (by repeat (first | with_reducible exact Below.refl _ _ | with_reducible refine Below.drew ?_ | with_reducible refine below_alloc ?_ _)))) E2.out ?_))
      all_goals
        go_wp2
        go_meet
        refine ⟨_, _, _, rfl, ?_, (by repeat (first | with_reducible refine heap_drew ?_ | with_reducible exact heap_alloc_at (by simp only [alloc_size, drew_size]) | with_reducible refine heap_alloc_old ?_)), ?_, ?_, ?_⟩
        · first | exact Nat.le_refl _ | omega
        · first
            | exact ⟨_, capE, csE, (0, 0), rfl, (by repeat (first | with_reducible refine heap_drew ?_ | with_reducible exact heap_alloc_at (by simp only [alloc_size, drew_size]) | with_reducible refine heap_alloc_old ?_)), h2csE, OE.out, h1csE⟩
            | exact ⟨_, 0, #[], (0, 0), by rw [E1.out], (by repeat (first | with_reducible refine heap_drew ?_ | with_reducible exact heap_alloc_at (by simp only [alloc_size, drew_size]) | with_reducible refine heap_alloc_old ?_)), by rw [E1.out]; exact (List.length_eq_zero_iff.1 E1.out).symm, OE.out, by rw [E1.out]; exact Nat.le_refl _⟩
        · first
            | exact ⟨_, capW, csW, (0, 0), rfl, (by repeat (first | with_reducible refine heap_drew ?_ | with_reducible exact heap_alloc_at (by simp only [alloc_size, drew_size]) | with_reducible refine heap_alloc_old ?_)), h2csW, OW.out, h1csW⟩
            | exact ⟨_, 0, #[], (0, 0), by rw [E2.out], (by repeat (first | with_reducible refine heap_drew ?_ | with_reducible exact heap_alloc_at (by simp only [alloc_size, drew_size]) | with_reducible refine heap_alloc_old ?_)), by rw [E2.out]; exact (List.length_eq_zero_iff.1 E2.out).symm, OW.out, by rw [E2.out]; exact Nat.le_refl _⟩
        · show Below _ _ _; repeat (first | with_reducible exact Below.refl _ _ | with_reducible refine Below.drew ?_ | with_reducible refine below_alloc ?_ _))
  case rest =>
    obtain ⟨q, vE, vW, rfl, hq, hb, hE, hW, hbel⟩ := hcut
    have HQ := Lib.hid hq
    go_wp2_with fail
    go_loopw [4] (fun i wr => ∃ k : Nat, k ≤ nA ∧ i = .int .i64 k ∧ Hid (CpI W0 t q vE vW LE LW k wr)) (fun i _ => nA - (intOf i).toNat)
    case atStart => exact ⟨0, Nat.zero_le _, rfl, ⟨⟨.slice none 0 0, [], hb, ⟨rfl, .inl ⟨rfl, rfl⟩⟩, fun i h => by simp at h⟩, hE, hW, hbel.out⟩⟩
    case round =>
      clear hb hE hW hbel hq
      obtain ⟨k, hk, rfl, hci⟩ := hrel
      have hc2 : wr.cell? ⟨w.heap.size, 2, none⟩ = some (.slice pa nA ca) := (hci.out.bel.cell lw0).trans k2
      by_cases hlt : k < nA
      · have hkl : k < t.above.length := by have := HNA.out; omega
        obtain ⟨ba, oa, qk, ck, rfl, hcr, hrk⟩ := HT0.out.a.cell (i := k) hkl
        have hcr2 : wr.cell? ⟨ba, oa + k, none⟩ = some (.slice qk (t.above.getD k []).length ck) := (hci.out.bel.cell (cell_lt hcr)).trans hcr
        have hrk2 : Hid (Rd wr (.slice qk (t.above.getD k []).length ck) ((t.above.getD k []).map (Value.int .i64))) := (hrk.below hci.out.bel)
        have hl4 : Hid (((t.above.getD k []).map (Value.int .i64)).length ≤ 1000) := by
          have := h4 (t.above.getD k []) (by simp [List.getD_eq_getElem?_getD, hkl])
          show _ ≤ _; rw [List.length_map]; omega
        obtain ⟨z, hz⟩ : ∃ z, z = (t.above.getD k []).length := ⟨_, rfl⟩
        rw [← hz] at hcr2 hrk2
        obtain ⟨LR, hLR⟩ : ∃ L, L = (t.above.getD k []).map (Value.int .i64) := ⟨_, rfl⟩
        rw [← hLR] at hrk2 hl4
        have HLR := Lib.hid hLR
        obtain ⟨va, xs, hqb, hown, hxs⟩ := hci.out.row
        have lq : q < wr.heap.size := heap_lt hqb
        have lba : ba < wr.heap.size := cell_lt hcr2
        have lw : w.heap.size < wr.heap.size := cell_lt hc2
        have hq2 : wr.cell? ⟨q, 2, none⟩ = some va := by simp [World.cell?, hqb]
        have HB := Lib.hid hqb; have HO := Lib.hid hown; have HX := Lib.hid hxs
        have HH4 := Lib.hid h4
        have hn20 : nA ≤ 20 := by have := HNA.out; omega
        have hs0 := hci.out.bel.size
        clear hcr hrk hz hLR hqb hown hxs h4
        go_wp2_with fail
        go_region_law (first
            | (with_reducible refine only_app 35 ?_; refine step_append_emp rfl _ _ 35 3 rfl iI _ 8 Tryd.underlying35 hIi hI0 hI1 hI2 (by decide) _ _ LR (0, 0) rfl rfl (by repeat (first | with_reducible refine heap_drew ?_ | with_reducible exact heap_alloc_at (by simp only [alloc_size, drew_size]) | with_reducible refine heap_alloc_old ?_ | refine heap_below (by with_reducible assumption) ?_)) (hrk2.out.below (show Below wr.heap.size wr _ from (by repeat (first | with_reducible exact Below.refl _ _ | with_reducible refine Below.drew ?_ | with_reducible refine below_alloc ?_ _ | refine Below.setCell (by first | exact Nat.le_refl _ | omega) ?_ _ | refine below_step (by with_reducible assumption) ?_ (Nat.le_refl _))))) hl4.out ?_; intro vI wI hbI htI; obtain ⟨uI, capI, rfl⟩ := htI.form; have hqI : wI.cell? ⟨q, 2, none⟩ = some va := ((below_step hbI (show Below wr.heap.size wr _ from (by repeat (first | with_reducible exact Below.refl _ _ | with_reducible refine Below.drew ?_ | with_reducible refine below_alloc ?_ _ | refine Below.setCell (by first | exact Nat.le_refl _ | omega) ?_ _ | refine below_step (by with_reducible assumption) ?_ (Nat.le_refl _)))) (Nat.le_refl _)).cell lq).trans hq2; have lqI : q < wI.heap.size := cell_lt hqI; have hsI := hbI.size; simp only [alloc_size, drew_size] at hsI)
            | (with_reducible refine only_app 23 ?_; refine step_append_rd rfl _ _ 23 35 rfl iII _ 24 Tryd.underlying23 hJi hJ0 hJ1 hJ2 rfl (by decide) W0.heap.size va (.slice (some ⟨wI.heap.size, 0, none⟩) 1 1) k xs [.slice (some ⟨uI, 0, none⟩) LR.length capI] rfl (ownsRow_below HO.out (show Below wr.heap.size wr _ from (by repeat (first | with_reducible exact Below.refl _ _ | with_reducible refine Below.drew ?_ | with_reducible refine below_alloc ?_ _ | refine Below.setCell (by first | exact Nat.le_refl _ | omega) ?_ _ | refine below_step (by with_reducible assumption) ?_ (Nat.le_refl _))))) rfl (rd_one1 (by repeat (first | with_reducible refine heap_drew ?_ | with_reducible exact heap_alloc_at (by simp only [alloc_size, drew_size]) | with_reducible refine heap_alloc_old ?_ | refine heap_below (by with_reducible assumption) ?_))) (by simp [Value.oneCell']) (by simp; omega) (by simp only [alloc_size, drew_size]; omega) ?_; intro vO wO hoO hgO; obtain ⟨pO, cO, rfl⟩ := ownsRow_slice hoO; have hqO := grown_heap HB.out (by repeat (first | with_reducible exact Below.refl _ _ | with_reducible refine Below.drew ?_ | with_reducible refine below_alloc ?_ _ | refine below_step (by with_reducible assumption) ?_ (Nat.le_refl _))) HO.out (by decide) hgO; have hcO : wO.cell? ⟨q, 2, none⟩ = some va := by simp [World.cell?, hqO]
               have hfO : wO.frozen? ⟨q, 2, none⟩ = false := Go.Joins.unfrozen_of_block hqO 2
               clear hqO))
        all_goals
          go_wp2
          go_roundw
          case rel => exact ⟨k + 1, by omega, by go_num, CpI.step HB.out HO.out HX.out hci.out.e hci.out.w hci.out.bel HQ.out (by repeat (first | with_reducible exact Below.refl _ _ | with_reducible refine Below.drew ?_ | with_reducible refine below_alloc ?_ _ | refine below_step (by with_reducible assumption) ?_ (Nat.le_refl _))) (by rw [← HLR.out]; exact htI.below (by repeat (first | with_reducible exact Below.refl _ _ | with_reducible refine Below.drew ?_ | with_reducible refine below_alloc ?_ _ | refine below_step (by with_reducible assumption) ?_ (Nat.le_refl _)))) hoO hgO⟩
          case measure => simp [intOf]; omega
      · have hkn : k = nA := by omega
        subst hkn
        obtain ⟨va, xs, hqb, hown, hxs⟩ := hci.out.row
        have r0 : wr.cell? ⟨q, 0, none⟩ = some (.string (mkS t.name)) := by simp [World.cell?, hqb]
        have r1 : wr.cell? ⟨q, 1, none⟩ = some vE := by simp [World.cell?, hqb]
        have r2 : wr.cell? ⟨q, 2, none⟩ = some va := by simp [World.cell?, hqb]
        have r3 : wr.cell? ⟨q, 3, none⟩ = some vW := by simp [World.cell?, hqb]
        have RE := hci.out.e; have RW := hci.out.w
        obtain ⟨pE, cE, rfl⟩ := RE.form
        obtain ⟨pW, cW, rfl⟩ := RW.form
        obtain ⟨pA, cA, rfl⟩ := ownsRow_slice hown
        have hbw := hci.out.bel
        have lz : w.heap.size + 1 < W0.heap.size := heap_lt Z.out
        have hzr := (hbw.block _ lz).trans Z.out
        have y0 := Go.Joins.cell_of_block hzr 0; have g0 := Go.Joins.unfrozen_of_block hzr 0
        have y1 := Go.Joins.cell_of_block hzr 1; have g1 := Go.Joins.unfrozen_of_block hzr 1
        have y2 := Go.Joins.cell_of_block hzr 2; have g2 := Go.Joins.unfrozen_of_block hzr 2
        have y3 := Go.Joins.cell_of_block hzr 3; have g3 := Go.Joins.unfrozen_of_block hzr 3
        simp only [List.getElem?_toArray, List.getElem?_cons_zero, List.getElem?_cons_succ] at y0 y1 y2 y3
        have HOW := Lib.hid hown; have HXS := Lib.hid hxs
        have HCI := Lib.hid hci.out; have HZR := Lib.hid hzr
        have HH4 := Lib.hid h4
        clear hqb hown hxs RE RW hbw h4 hzr
        go_wp2
        obtain ⟨WF, hWF⟩ : ∃ WF, WF = set4 wr (w.heap.size + 1) (.string (mkS t.name)) (.slice (some ⟨pE, 0, none⟩) LE.length cE) (.slice pA k cA) (.slice (some ⟨pW, 0, none⟩) LW.length cW) := ⟨_, rfl⟩
        have hWF2 := hWF
        unfold set4 at hWF2
        rw [← hWF2]
        have hzF := set4_heap (x0 := .string (mkS t.name)) (x1 := .slice (some ⟨pE, 0, none⟩) LE.length cE) (x2 := .slice pA k cA) (x3 := .slice (some ⟨pW, 0, none⟩) LW.length cW) HZR.out
        rw [← hWF] at hzF
        have HWF := Lib.hid hWF
        have v0 := Go.Joins.cell_of_block hzF 0
        have v1 := Go.Joins.cell_of_block hzF 1
        have v2 := Go.Joins.cell_of_block hzF 2
        have v3 := Go.Joins.cell_of_block hzF 3
        simp only [List.getElem?_toArray, List.getElem?_cons_zero, List.getElem?_cons_succ] at v0 v1 v2 v3
        clear hWF hWF2 hzF
        refine bodyPost_ret (v := tabV t (.slice (some ⟨pE, 0, none⟩) LE.length cE) (.slice pA k cA) (.slice (some ⟨pW, 0, none⟩) LW.length cW)) (by simp [results, Tryd.results11, go_sem, v0, v1, v2, v3, tabV]) rfl ⟨_, _, _, rfl, ?_, ?_, ?_⟩
        · have e1 := HLE.out
          have e2 := HLW.out
          have e3 := HNA.out
          subst e1; subst e2; subst e3
          rw [HWF.out]
          exact CpI.done HCI.out h2 Z.out HOW.out HXS.out
        · rw [HWF.out]
          exact below_set4 (HB0.out.trans (HCI.out.bel.mono (by have := lz; omega))) (by omega)
        · have e1 := HLE.out
          have e2 := HLW.out
          have e3 := HNA.out
          subst e1; subst e2; subst e3
          rw [HWF.out]
          exact ⟨⟨_, ownsRow_base (ownsRow_set4 HOW.out HZR.out (by decide)) HB0.out.size⟩, HCI.out.e.set4 HZR.out (by decide), HCI.out.w.set4 HZR.out (by decide)⟩
theorem copy_any (t : Tab) (ve va vw : Value) (w : World) (hT : TabIn w ve va vw t) (h1 : t.elems.length ≤ 20) (h2 : t.above.length ≤ 20) (h3 : t.wrong.length ≤ 20) (h4 : ∀ l ∈ t.above, l.length ≤ 20) :
    Calls Tryd.prog 11 #[tabV t ve va vw] w fun e w' => ∃ ve' va' vw', e = .returned (tabV t ve' va' vw') ∧ TabIn w' ve' va' vw' t ∧ Below w.heap.size w w' := by
  refine (copy_own t ve va vw w hT h1 h2 h3 h4).mono ?_
  rintro e w' ⟨ve', va', vw', h1, h2, h3, _⟩
  exact ⟨ve', va', vw', h1, h2, h3⟩
end Go.Proofs.YtfhnigpjmljhbaaDoor.Or
