/- The reference's PrimesOf, in a lattice. -/
import Derived.Test.YtmooikdodbjgpaaDoorOrGa
import Derived.Test.YtmooikdodbjgpaaDoorOrFd
set_option linter.unusedVariables false
set_option linter.unusedSimpArgs false
namespace Go.Proofs.YtmooikdodbjgpaaDoor.Or
open Go.RowKit Go.Shelf

theorem seen_setB {n : Nat} {mk : Nat → Bool} {y : Nat} {x : Bool} (hy : y < n) : (seenA n mk).setIfInBounds y (.bool x) = seenA n (fun z => if z = y then x else mk z) := by
  apply Array.ext
  · simp [seenA]
  · intro i h1 h2
    simp only [seenA, Array.size_setIfInBounds, List.size_toArray, List.length_map, List.length_range] at h1 h2
    rw [Array.getElem_setIfInBounds (by simpa [seenA] using h1)]
    by_cases e : y = i
    · subst e; simp [seenA]
    · have : ¬ i = y := fun h => e h.symm
      simp [seenA, e, this]
/-- A row of marks, in a block of its own. -/
structure BoI (WU : World) (n : Nat) (mk : Nat → Bool) (wr : World) : Prop where
  cells : wr.heap[WU.heap.size]? = some (.cells (seenA n mk) 4 (0, 0))
  bel : Below WU.heap.size WU wr
theorem BoI.below {WU wr w' : World} {n : Nat} {mk : Nat → Bool} (h : BoI WU n mk wr) (hb : Below wr.heap.size wr w') : BoI WU n mk w' :=
  ⟨heap_below hb h.cells, h.bel.trans (hb.mono (Nat.le_of_lt (heap_lt h.cells)))⟩
theorem BoI.set {WU wr : World} {n y : Nat} {x : Bool} {mk : Nat → Bool} (h : BoI WU n mk wr) (hy : y < n) : BoI WU n (fun z => if z = y then x else mk z) (wr.setCell ⟨WU.heap.size, y, none⟩ (.bool x)) :=
  ⟨by rw [setCell_heap h.cells, seen_setB hy], h.bel.setCell (Nat.le_refl _) _⟩
theorem BoI.congr {WU wr : World} {n : Nat} {mk mk' : Nat → Bool} (h : BoI WU n mk wr) (e : ∀ z, z < n → mk' z = mk z) : BoI WU n mk' wr :=
  ⟨by rw [h.cells]; congr 2; unfold seenA; congr 1; exact (List.map_congr_left fun z hz => by rw [e z (List.mem_range.1 hz)]).symm, h.bel⟩
/-- No join of the pairs before (a, b) is z but of itself. -/
def NoPre (R : Nat → Nat → Bool) (n a b z : Nat) : Prop := ∀ x y, x < n → y < n → (x < a ∨ x = a ∧ y < b) → joinedBy R n z x y = false
theorem prime_nopre {R : Nat → Nat → Bool} {n z : Nat} (hz : z < n) {m : Bool} (h : m = true ↔ 0 < z ∧ NoPre R n n 0 z) : m = primeR R n z := by
  rw [Bool.eq_iff_iff, h]
  unfold primeR NoPre
  simp only [Bool.and_eq_true, decide_eq_true_eq, Bool.not_eq_true', List.any_eq_false, List.mem_range, Bool.not_eq_true]
  constructor
  · rintro ⟨h0, h1⟩; exact ⟨⟨h0, hz⟩, fun x hx y hy => h1 x y hx hy (.inl hx)⟩
  · rintro ⟨⟨h0, _⟩, h1⟩; exact ⟨h0, fun x y hx hy _ => h1 x hx y hy⟩

set_option maxRecDepth 100000 in
set_option maxHeartbeats 8000000 in
theorem primesOf_any (t : Tab) (ve va vw : Value) (w : World) (hT : TabIn w ve va vw t) (hf : frmF t = true) (hLat : Lat t.R t.n t.wr) :
    Calls Tryd.prog 76 #[tabV t ve va vw] w fun e w' => ∃ v, e = .returned v ∧ Rd w' v (intsV ((List.range t.n).filter (primeR t.R t.n))) ∧ Below w.heap.size w w' := by
  obtain ⟨i0, hi, hz0, hz1, hz2⟩ := info_parts infoI
  obtain ⟨iB, hBi, hB0, hB1, hB2⟩ := info_parts infoBool
  have hAcy := frm_acy hf hLat
  obtain ⟨f1, f2, f3, f4⟩ := frm_len hf
  obtain ⟨n, hn⟩ : ∃ n, n = t.n := ⟨_, rfl⟩
  obtain ⟨R, hR⟩ : ∃ R, R = t.R := ⟨_, rfl⟩
  have n12 : n ≤ 12 := by unfold Tab.n at hn; omega
  have n1 : 1 ≤ n := by unfold Tab.n at hn; omega
  obtain ⟨W0, hW0⟩ : ∃ W0, W0 = w.alloc (Obj.cells #[.string (mkS t.name), ve, va, vw] 26) := ⟨_, rfl⟩
  have b0 : Below w.heap.size w W0 := by rw [hW0]; exact (Below.refl _ _).alloc (Nat.le_refl _) _
  have C := Lib.hid (rel_any t ve va vw W0 (hT.below b0) hf)
  rw [← hn, ← hR] at hLat hAcy C ⊢
  have HLA := Lib.hid hLat; have HAC := Lib.hid hAcy
  obtain ⟨pe, ce, rfl⟩ := hT.e.form
  obtain ⟨pa, ca, rfl⟩ := hT.a.form
  obtain ⟨pw, cw, rfl⟩ := hT.w.form
  have HB0 := Lib.hid b0; have HW0 := Lib.hid hW0
  unfold tabV at C ⊢
  clear hT hf hW0 b0 hLat hAcy f1 f2 f3 f4 hn hR
  go_enter Tryd.func76, Tryd.ntmps76
  go_wp2_with fail
  rw [← HW0.out]
  refine C.out.mono ?_
  rintro e w2 ⟨v, rfl, hv, hb⟩
  have HB2 := Lib.hid (HB0.out.trans (hb.mono HB0.out.size))
  obtain ⟨p, cap, rfl, hrel⟩ := hv
  obtain ⟨bm, om, rfl, hrows⟩ := hrel (by omega)
  have HV : Hid (RelIn w2 (.slice (some ⟨bm, om, none⟩) n cap) n (bel R)) := ⟨_, _, rfl, fun _ => ⟨bm, om, rfl, hrows⟩⟩
  clear hrel hrows hb C
  go_wp2_with (at_make; refine wpList_make_row _ rfl _ _ 24 rfl 4 iB (.bool false) Tryd.underlying24 hBi hB0 hB1 rfl .i64 .i64 n rfl rfl (by rw [hB2]; omega) (by omega) ?_)
  have H0 : Hid (BoI w2 n (fun _ => false) (w2.alloc (.cells (madeCells #[.bool false] n) 4))) := ⟨by rw [← seen_made]; exact heap_alloc_at rfl, (Below.refl _ _).alloc (Nat.le_refl _) _⟩
  go_loopw [6] (fun i wr => ∃ k : Nat, 1 ≤ k ∧ k ≤ n ∧ i = .int .i64 k ∧ Hid (BoI w2 n (fun z => decide (0 < z) && decide (z < k)) wr)) (fun i _ => n - (intOf i).toNat)
  case atStart => exact ⟨1, Nat.le_refl _, n1, rfl, H0.out.congr fun z hz => by rw [Bool.eq_iff_iff]; simp; omega⟩
  case round =>
    obtain ⟨k, hk1, hkn, rfl, hst⟩ := hrel
    by_cases hlt : k < n
    · have hc : wr.cell? ⟨w2.heap.size, k, none⟩ = some (.bool (decide (0 < k) && decide (k < k))) := by rw [Go.Joins.cell_of_block hst.out.cells, seen_get hlt]
      have hfz : wr.frozen? ⟨w2.heap.size, k, none⟩ = false := Go.Joins.unfrozen_of_block hst.out.cells k
      have HN : Hid (BoI w2 n (fun z => decide (0 < z) && decide (z < k + 1)) (wr.setCell ⟨w2.heap.size, k, none⟩ (.bool true))) := (hst.out.set (x := true) hlt).congr fun z hz => by
        by_cases e : z = k
        · subst e; simp; omega
        · rw [if_neg e, Bool.eq_iff_iff]; simp; omega
      go_wp2
      go_roundw
      case rel => exact ⟨k + 1, by omega, by omega, by go_num, HN⟩
      case measure => simp [intOf]; omega
    · have hkn2 : k = n := by omega
      have HN : Hid (∃ mk, BoI w2 n mk wr ∧ ∀ z, z < n → (mk z = true ↔ 0 < z ∧ NoPre R n 0 0 z)) := by
        refine ⟨_, hst.out, fun z hz => ?_⟩
        simp only [Bool.and_eq_true, decide_eq_true_eq]
        refine ⟨fun h => ⟨h.1, fun x y _ _ h => by omega⟩, fun h => ⟨h.1, by omega⟩⟩
      clear hkn2 hst
      go_wp2_with fail
      go_loopw [7] (fun i wr => ∃ a : Nat, a ≤ n ∧ i = .int .i64 a ∧ Hid (∃ mk, BoI w2 n mk wr ∧ ∀ z, z < n → (mk z = true ↔ 0 < z ∧ NoPre R n a 0 z))) (fun i _ => n - (intOf i).toNat)
      case atStart => exact ⟨0, Nat.zero_le _, rfl, HN⟩
      case round =>
        clear HN hk1 hkn hlt
        obtain ⟨a, han, rfl, hst⟩ := hrel
        by_cases hla : a < n
        · go_wp2_with fail
          go_loopw [8] (fun i wr => ∃ b : Nat, b ≤ n ∧ i = .int .i64 b ∧ Hid (∃ mk, BoI w2 n mk wr ∧ ∀ z, z < n → (mk z = true ↔ 0 < z ∧ NoPre R n a b z))) (fun i _ => n - (intOf i).toNat)
          case atStart => exact ⟨0, Nat.zero_le _, rfl, hst⟩
          case round =>
            clear hst
            obtain ⟨b, hbn, rfl, hst⟩ := hrel
            by_cases hlb : b < n
            · obtain ⟨mk, hbo, hmk⟩ := hst.out
              have HBO := Lib.hid hbo; have HMK := Lib.hid hmk
              clear hbo hmk hst
              have hbw : Below w2.heap.size w2 wr := HBO.out.bel
              go_wp2_with fail
              refine (bounds_any R n a b _ _ (HV.out.below hbw) n12 hla hlb).mono ?_
              rintro e w3 ⟨vl, rfl, hl, hb3⟩
              have HBO3 := Lib.hid (HBO.out.below hb3)
              have hlen := both_len R a b n
              have HLT : Hid (∀ j, j < (bothF R a b n).length → (bothF R a b n).getD j 0 < n) := fun j hj => by
                have : (bothF R a b n).getD j 0 ∈ bothF R a b n := by simp [List.getD_eq_getElem?_getD, hj]
                exact both_lt this
              have HLl := Lib.hid hl
              clear hb3 hl HBO hbw
              go_wp2_with fail
              refine (least_ref R n (bothF R a b n) _ _ _ (HV.out.below HBO3.out.bel) n12 HLl.out (by omega) HLT.out).mono ?_
              rintro e w4 ⟨rfl, hb4⟩
              have HBO4 := Lib.hid (HBO3.out.below hb4)
              obtain ⟨j, hj, hjn, _, _⟩ := HLA.out.joins HAC.out hla hlb
              have hli : leastI R (bothF R a b n) = (j : Int) := by
                unfold leastI; rw [both_ups]; unfold joinO at hj; rw [hj]
              rw [hli]
              have HJ := Lib.hid hj
              have HJB : Hid (∀ z, joinedBy R n z a b = (decide (z = j) && (z != a && z != b))) := fun z => by
                unfold joinedBy; rw [hj]
                congr 1
                rw [Bool.eq_iff_iff]; simp; exact eq_comm
              clear hb4 hj hli HBO3 HLl HLT hlen
              by_cases hja : j = a
              · have HN : Hid (∃ mk, BoI w2 n mk w4 ∧ ∀ z, z < n → (mk z = true ↔ 0 < z ∧ NoPre R n a (b + 1) z)) := by
                  refine ⟨mk, HBO4.out, fun z hz => ?_⟩
                  rw [HMK.out z hz]
                  refine and_congr_right fun _ => ⟨fun h x y hx hy hl => ?_, fun h x y hx hy hl => h x y hx hy (by omega)⟩
                  by_cases e : x = a ∧ y = b
                  · obtain ⟨rfl, rfl⟩ := e
                    rw [HJB.out z, hja, Bool.eq_false_iff]; simp
                    intro h1 h2; exact absurd h1 h2
                  · exact h x y hx hy (by omega)
                subst hja
                go_wp2
                go_roundw
                case rel => exact ⟨b + 1, by omega, by go_num, HN⟩
                case measure => simp [intOf]; omega
              · have gja : ((j : Int) != (a : Int)) = true := by rw [bne_iff_ne]; omega
                have HJA := Lib.hid hja
                clear hja
                by_cases hjb : j = b
                · have HN : Hid (∃ mk, BoI w2 n mk w4 ∧ ∀ z, z < n → (mk z = true ↔ 0 < z ∧ NoPre R n a (b + 1) z)) := by
                    refine ⟨mk, HBO4.out, fun z hz => ?_⟩
                    rw [HMK.out z hz]
                    refine and_congr_right fun _ => ⟨fun h x y hx hy hl => ?_, fun h x y hx hy hl => h x y hx hy (by omega)⟩
                    by_cases e : x = a ∧ y = b
                    · obtain ⟨rfl, rfl⟩ := e
                      rw [HJB.out z, hjb, Bool.eq_false_iff]; simp
                      intro h1 _; exact h1
                    · exact h x y hx hy (by omega)
                  subst hjb
                  go_wp2
                  go_roundw
                  case rel => exact ⟨j + 1, by omega, by go_num, HN⟩
                  case measure => simp [intOf]; omega
                · have gjb : ((j : Int) != (b : Int)) = true := by rw [bne_iff_ne]; omega
                  have HN : Hid (∃ mk, BoI w2 n mk (w4.setCell ⟨w2.heap.size, j, none⟩ (.bool false)) ∧ ∀ z, z < n → (mk z = true ↔ 0 < z ∧ NoPre R n a (b + 1) z)) := by
                    refine ⟨_, HBO4.out.set (x := false) hjn, fun z hz => ?_⟩
                    by_cases ez : z = j
                    · rw [if_pos ez]
                      refine ⟨fun h => (by cases h), fun h => ?_⟩
                      have := h.2 a b hla hlb (.inr ⟨rfl, by omega⟩)
                      rw [HJB.out z, ez] at this
                      have h1 := HJA.out
                      simp [h1, hjb] at this
                    · rw [if_neg ez, HMK.out z hz]
                      refine and_congr_right fun _ => ⟨fun h x y hx hy hl => ?_, fun h x y hx hy hl => h x y hx hy (by omega)⟩
                      by_cases e : x = a ∧ y = b
                      · obtain ⟨rfl, rfl⟩ := e
                        rw [HJB.out z, decide_eq_false ez]; rfl
                      · exact h x y hx hy (by omega)
                  have hc : w4.cell? ⟨w2.heap.size, j, none⟩ = some (.bool (mk j)) := by rw [Go.Joins.cell_of_block HBO4.out.cells, seen_get hjn]
                  have hfz : w4.frozen? ⟨w2.heap.size, j, none⟩ = false := Go.Joins.unfrozen_of_block HBO4.out.cells j
                  clear hjb
                  go_wp2
                  go_roundw
                  case rel => exact ⟨b + 1, by omega, by go_num, HN⟩
                  case measure => simp [intOf]; omega
            · have HN : Hid (∃ mk, BoI w2 n mk wr ∧ ∀ z, z < n → (mk z = true ↔ 0 < z ∧ NoPre R n (a + 1) 0 z)) := by
                obtain ⟨mk, h1, h2⟩ := hst.out
                refine ⟨mk, h1, fun z hz => ?_⟩
                rw [h2 z hz]
                exact and_congr_right fun _ => ⟨fun h x y hx hy hl => h x y hx hy (by omega), fun h x y hx hy hl => h x y hx hy (by omega)⟩
              clear hst
              go_wp2
              go_roundw
              case rel => exact ⟨a + 1, by omega, by go_num, HN⟩
              case measure => simp [intOf]; omega
        · have han2 : a = n := by omega
          obtain ⟨mk, hbo, hmk⟩ := hst.out
          rw [han2] at hmk
          have HBO := Lib.hid hbo
          have HPR : Hid (∀ z, z < n → mk z = primeR R n z) := fun z hz => prime_nopre hz (hmk z hz)
          clear han2 hst hbo hmk
          go_wp2_with fail
          obtain ⟨wA, hwA⟩ : ∃ U, U = wr := ⟨_, rfl⟩
          subst hwA
          go_loopw [3, 10] (fun v i wr => ∃ k : Nat, k ≤ n ∧ i = .int .i64 k ∧ wr.ownsRow wA.heap.size 3 1 v ((List.range k).filter mk).length (intsV ((List.range k).filter mk)) ∧ Hid (Below wA.heap.size wA wr)) (fun _ i _ => n - (intOf i).toNat)
          case atStart => exact ⟨0, Nat.zero_le _, rfl, World.ownsRow_nil _ _ _ _, Below.refl _ _⟩
          case round =>
            obtain ⟨k, hkn, rfl, hrow, hb⟩ := hrel
            obtain ⟨ptr, cap', rfl⟩ := ownsRow_slice hrow
            have hl : ((List.range k).filter mk).length ≤ k := by have := List.length_filter_le mk (List.range k); simpa using this
            obtain ⟨m, hm⟩ : ∃ m, m = ((List.range k).filter mk).length := ⟨_, rfl⟩
            by_cases hlt : k < n
            · have hc : wr.cell? ⟨w2.heap.size, k, none⟩ = some (.bool (mk k)) := by rw [Go.Joins.cell_of_block (HBO.out.below hb.out).cells, seen_get hlt]
              have HS : Hid ((List.range (k + 1)).filter mk = (List.range k).filter mk ++ if mk k then [k] else []) := by show _ = _; rw [List.range_succ, List.filter_append]; simp [List.filter_cons]
              rw [← hm] at hrow hl ⊢
              have HROW := Lib.hid hrow; have HM := Lib.hid hm
              clear hrow hm
              cases hmk : mk k with
              | false =>
                rw [hmk] at hc
                have HN : Hid ((List.range (k + 1)).filter mk = (List.range k).filter mk) := by show _ = _; rw [HS.out, hmk]; simp
                clear hmk
                go_wp2
                go_roundw
                case rel => exact ⟨k + 1, by omega, by go_num, by rw [HN.out, ← HM.out]; exact HROW.out, hb⟩
                case measure => simp [intOf]; omega
              | true =>
                rw [hmk] at hc
                have HN : Hid ((List.range (k + 1)).filter mk = (List.range k).filter mk ++ [k]) := by show _ = _; rw [HS.out, hmk]; simp
                have HLT := Lib.hid HROW.out.lt
                have hs := hb.out.size
                clear hmk
                go_wp2_with (at_builtin; refine wpList_append_own _ rfl _ _ 39 rfl wA.heap.size 3 i0 (.int .i64 0) 1 8 Tryd.underlying39 hi hz0 hz1 hz2 rfl (by decide) _ _ _ rfl (HROW.out.alloc _) ⟨wr.heap.size, 0, none⟩ 1 1 [.int .i64 (k : Int)] rfl rfl ?c1 ?c2 (by unfold maxLen; omega) (by omega) (by simp; omega) ?_)
                case c1 => intro j u hj; match j, hj with | 0, hj => (simp at hj; subst hj; simp [Addr.add])
                case c2 => intro u hu; simp at hu; subst hu; rfl
                intro v' w' hown' hgrow _
                have HB9 := Lib.hid (Below.grown (hb.out.alloc hb.out.size _) hgrow (by simp; omega) (fun j hj => (HLT.out j hj).1))
                have HR9 := Lib.hid hown'
                clear hown' hgrow
                go_wp2
                go_roundw
                case rel => exact ⟨k + 1, by omega, by go_num, by rw [HN.out, List.length_append, ← HM.out, intsV, List.map_append]; exact HR9.out, HB9⟩
                case measure => simp [intOf]; omega
            · have hkn2 : k = n := by omega
              have HE : Hid ((List.range k).filter mk = (List.range n).filter (primeR R n)) := by
                show _ = _; rw [hkn2]
                exact List.filter_congr fun z hz => HPR.out z (List.mem_range.1 hz)
              have HR : Hid (Rd wr (.slice ptr ((List.range k).filter mk).length cap') (intsV ((List.range n).filter (primeR R n)))) := by
                show Rd _ _ _
                rw [← HE.out]
                exact rd_own (by rw [intsV_len]; exact hrow) (by rw [intsV_len]; omega)
              have HBF : Hid (Below w.heap.size w wr) := (HB2.out.trans (HBO.out.bel.mono HB2.out.size)).trans (hb.out.mono (HB2.out.trans (HBO.out.bel.mono HB2.out.size)).size)
              clear hrow hm hkn2
              go_wp2
              go_ret
              exact ⟨_, rfl, HR.out, HBF.out⟩
end Go.Proofs.YtmooikdodbjgpaaDoor.Or
