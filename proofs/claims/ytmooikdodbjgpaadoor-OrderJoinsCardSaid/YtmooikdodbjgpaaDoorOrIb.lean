/- The reference's PartsOf, in a lattice. -/
import Derived.Test.YtmooikdodbjgpaaDoorOrIa
import Derived.Deep.Cut
import Derived.Deep.CutRange
set_option linter.unusedVariables false
set_option linter.unusedSimpArgs false
namespace Go.Proofs.YtmooikdodbjgpaaDoor.Or
open Go.RowKit Go.Shelf

/-- Whether a prime of a list, by its number, is a part of a, as far as the first j of the list tell. -/
def topF (R : Nat → Nat → Bool) (L : List Nat) (a i j : Nat) : Bool :=
  bel R (L.getD i 0) a && (List.range j).all fun k => k == i || (!bel R (L.getD k 0) a || !bel R (L.getD i 0) (L.getD k 0))
theorem topF_succ (R : Nat → Nat → Bool) (L : List Nat) (a i j : Nat) : topF R L a i (j + 1) = (topF R L a i j && (j == i || (!bel R (L.getD j 0) a || !bel R (L.getD i 0) (L.getD j 0)))) := by
  unfold topF; rw [List.range_succ, List.all_append]; simp [Bool.and_assoc]
/-- The parts so far. -/
def partsI (R : Nat → Nat → Bool) (L : List Nat) (a i : Nat) : List Nat := ((List.range i).filter fun k => topF R L a k L.length).map fun k => L.getD k 0
theorem partsI_succ (R : Nat → Nat → Bool) (L : List Nat) (a i : Nat) : partsI R L a (i + 1) = partsI R L a i ++ if topF R L a i L.length then [L.getD i 0] else [] := by
  unfold partsI; rw [List.range_succ, List.filter_append, List.map_append]
  congr 1
  cases h : topF R L a i L.length <;> simp [List.filter_cons, h]
theorem partsI_len (R : Nat → Nat → Bool) (L : List Nat) (a i : Nat) : (partsI R L a i).length ≤ i := by
  unfold partsI; rw [List.length_map]; have := List.length_filter_le (fun k => topF R L a k L.length) (List.range i); simpa using this

set_option maxRecDepth 100000 in
set_option maxHeartbeats 8000000 in
theorem partsOf_any (t : Tab) (ve va vw : Value) (a : Nat) (w : World) (hT : TabIn w ve va vw t) (hf : frmF t = true) (hLat : Lat t.R t.n t.wr) (ha : a < t.n) :
    Calls Tryd.prog 77 #[tabV t ve va vw, .int .i64 a] w fun e w' => ∃ v, e = .returned v ∧ Rd w' v (intsV (partsI t.R ((List.range t.n).filter (primeR t.R t.n)) a ((List.range t.n).filter (primeR t.R t.n)).length)) ∧ Below w.heap.size w w' := by
  obtain ⟨i0, hi, hz0, hz1, hz2⟩ := info_parts infoI
  obtain ⟨f1, f2, f3, f4⟩ := frm_len hf
  obtain ⟨n, hn⟩ : ∃ n, n = t.n := ⟨_, rfl⟩
  obtain ⟨R, hR⟩ : ∃ R, R = t.R := ⟨_, rfl⟩
  obtain ⟨L, hL⟩ : ∃ L, L = (List.range t.n).filter (primeR t.R t.n) := ⟨_, rfl⟩
  have n12 : n ≤ 12 := by unfold Tab.n at hn; omega
  have HLR : Hid (∀ j, j < L.length → L.getD j 0 < n) := fun j hj => by
    have : L.getD j 0 ∈ (List.range t.n).filter (primeR t.R t.n) := by rw [← hL]; simp [List.getD_eq_getElem?_getD, hj]
    have := (List.mem_filter.1 this).1
    rw [List.mem_range] at this; omega
  have hl12 : L.length ≤ n := by rw [hL, hn]; have := List.length_filter_le (primeR t.R t.n) (List.range t.n); simpa using this
  obtain ⟨mb, hmb⟩ : ∃ m, m = w.heap.size := ⟨_, rfl⟩
  obtain ⟨W0, hW0⟩ : ∃ W0, W0 = w.alloc (Obj.cells #[.string (mkS t.name), ve, va, vw] 26) := ⟨_, rfl⟩
  have b0 : Below w.heap.size w W0 := by rw [hW0]; exact (Below.refl _ _).alloc (Nat.le_refl _) _
  have c0 : W0.cell? ⟨mb, 0, none⟩ = some (.string (mkS t.name)) := by rw [hW0, hmb]; simp [go_sem]
  have c1 : W0.cell? ⟨mb, 1, none⟩ = some ve := by rw [hW0, hmb]; simp [go_sem]
  have c2 : W0.cell? ⟨mb, 2, none⟩ = some va := by rw [hW0, hmb]; simp [go_sem]
  have c3 : W0.cell? ⟨mb, 3, none⟩ = some vw := by rw [hW0, hmb]; simp [go_sem]
  have CP : Hid (∀ U, Below W0.heap.size W0 U → Calls Tryd.prog 76 #[tabV t ve va vw] U fun e w' => ∃ v, e = .returned v ∧ Rd w' v (intsV L) ∧ Below U.heap.size U w') := fun U h => by
    rw [hL]; exact primesOf_any t ve va vw U (hT.below (b0.trans (h.mono b0.size))) hf hLat
  have CR : Hid (∀ U, Below W0.heap.size W0 U → Calls Tryd.prog 112 #[tabV t ve va vw] U fun e w' => ∃ v, e = .returned v ∧ RelIn w' v n (bel R) ∧ Below U.heap.size U w') := fun U h => by
    rw [hR, hn]; exact rel_any t ve va vw U (hT.below (b0.trans (h.mono b0.size))) hf
  rw [← hL, ← hR]
  obtain ⟨pe, ce, rfl⟩ := hT.e.form
  obtain ⟨pa, ca, rfl⟩ := hT.a.form
  obtain ⟨pw, cw, rfl⟩ := hT.w.form
  have KS : Hid (∀ U, Below W0.heap.size W0 U → U.cell? ⟨mb, 0, none⟩ = some (.string (mkS t.name)) ∧ U.cell? ⟨mb, 1, none⟩ = some (.slice pe t.elems.length ce) ∧ U.cell? ⟨mb, 2, none⟩ = some (.slice pa t.above.length ca) ∧ U.cell? ⟨mb, 3, none⟩ = some (.slice pw t.wrong.length cw)) := fun U h =>
    ⟨(h.cell (cell_lt c0)).trans c0, (h.cell (cell_lt c1)).trans c1, (h.cell (cell_lt c2)).trans c2, (h.cell (cell_lt c3)).trans c3⟩
  have HB0 := Lib.hid b0; have HW0 := Lib.hid hW0; have HMB := Lib.hid hmb
  have han : a < n := by omega
  unfold tabV at CP CR ⊢
  clear hT hf hW0 b0 hLat f1 f2 f3 f4 hn hR hL ha c0 c1 c2 c3 hmb
  go_enter Tryd.func77, Tryd.ntmps77
  go_upto_region 2 with fail
  rw [← HMB.out, ← HW0.out]
  go_cut [6, 7] from 11 to 14 (fun l m wx => ∃ pl cl pm cm, l = .slice pl L.length cl ∧ m = .slice pm n cm ∧ Hid (Rd wx (.slice pl L.length cl) (intsV L)) ∧ Hid (RelIn wx (.slice pm n cm) n (bel R)) ∧ Hid (Below W0.heap.size W0 wx))
  case first =>
    go_region_held3 (fun V => V.cell? ⟨mb, 0, none⟩ = some (.string (mkS t.name)) ∧ V.cell? ⟨mb, 1, none⟩ = some (.slice pe t.elems.length ce) ∧ V.cell? ⟨mb, 2, none⟩ = some (.slice pa t.above.length ca) ∧ V.cell? ⟨mb, 3, none⟩ = some (.slice pw t.wrong.length cw))
      (exact KS.out _ (by repeat (first | with_reducible exact Below.refl _ _ | with_reducible refine Below.drew ?_ | refine below_step (by with_reducible assumption) ?_ (Nat.le_refl _))))
      (first
        | (go_at_call 76; refine (CP.out _ (by repeat (first | with_reducible exact Below.refl _ _ | with_reducible refine Below.drew ?_ | refine below_step (by with_reducible assumption) ?_ (Nat.le_refl _)))).mono ?_; rintro e w2 ⟨v2, rfl, hv2, hb2⟩)
        | (go_at_call 112; refine (CR.out _ (by repeat (first | with_reducible exact Below.refl _ _ | with_reducible refine Below.drew ?_ | refine below_step (by with_reducible assumption) ?_ (Nat.le_refl _)))).mono ?_; rintro e w3 ⟨v3, rfl, hv3, hb3⟩))
    all_goals
      obtain ⟨pl, cl, rfl⟩ := hv2.form
      obtain ⟨pm, cm, rfl, hrl⟩ := hv3
      rw [intsV_len] at hv2 ⊢
      go_wp2_with fail
      go_meet
      refine ⟨pl, cl, pm, cm, rfl, rfl, ?_, ?_, ?_⟩
      · exact hv2.below (by repeat (first | with_reducible exact Below.refl _ _ | with_reducible refine Below.drew ?_ | refine below_step (by with_reducible assumption) ?_ (Nat.le_refl _)))
      · exact RelIn.below (show RelIn w3 _ _ _ from ⟨pm, cm, rfl, hrl⟩) (by repeat (first | with_reducible exact Below.refl _ _ | with_reducible refine Below.drew ?_ | refine below_step (by with_reducible assumption) ?_ (Nat.le_refl _)))
      · show Below _ _ _; exact (by repeat (first | with_reducible exact Below.refl _ _ | with_reducible refine Below.drew ?_ | refine below_step (by with_reducible assumption) ?_ (Nat.le_refl _)))
  case rest =>
    obtain ⟨pl, cl, pm, cm, rfl, rfl, hl, hm, hb⟩ := hcut
    obtain ⟨wB, hwB⟩ : ∃ U, U = wc := ⟨_, rfl⟩
    subst hwB
    obtain ⟨ll, hll⟩ : ∃ l, l = L.length := ⟨_, rfl⟩
    rw [← hll] at hl ⊢
    have HLL := Lib.hid hll
    rw [← hll] at hl12
    clear hll
    go_wp2_with fail
    go_loopw [5, 8] (fun v i wr => ∃ k : Nat, k ≤ ll ∧ i = .int .i64 k ∧ wr.ownsRow wB.heap.size 3 1 v (partsI R L a k).length (intsV (partsI R L a k)) ∧ Hid (Below wB.heap.size wB wr)) (fun _ i _ => ll - (intOf i).toNat)
    case atStart => exact ⟨0, Nat.zero_le _, rfl, World.ownsRow_nil _ _ _ _, Below.refl _ _⟩
    case round =>
      obtain ⟨k, hkl, rfl, hrow, hbw⟩ := hrel
      obtain ⟨ptr, cap', rfl⟩ := ownsRow_slice hrow
      have hpl := partsI_len R L a k
      obtain ⟨m, hmm⟩ : ∃ m, m = (partsI R L a k).length := ⟨_, rfl⟩
      by_cases hlt : k < ll
      · rw [← hmm] at hrow hpl ⊢
        have HROW := Lib.hid hrow; have HMM := Lib.hid hmm
        clear hrow hmm
        have hkL : k < L.length := by have := HLL.out; omega
        obtain ⟨bl, ol, rfl, hcl⟩ := rd_ints hl.out (by omega)
        obtain ⟨p', cm', hpm, hrel2⟩ := hm.out
        simp only [Value.slice.injEq, true_and] at hpm
        obtain ⟨rfl, rfl⟩ := hpm
        obtain ⟨bm, om, rfl, hrows⟩ := hrel2 (by omega)
        obtain ⟨x, hx⟩ : ∃ x, x = L.getD k 0 := ⟨_, rfl⟩
        have hxn : x < n := by rw [hx]; exact HLR.out k hkL
        have KL : Hid (∀ U, Below wB.heap.size wB U → ∀ j, j < ll → U.cell? ⟨bl, ol + j, none⟩ = some (.int .i64 ((L.getD j 0 : Nat) : Int))) := fun U h j hj => by
          have h1 := hcl j (by have := HLL.out; omega); exact (h.cell (cell_lt h1)).trans h1
        have KM : Hid (∀ U, Below wB.heap.size wB U → ∀ i, i < n → ∃ bi oi ci, U.cell? ⟨bm, om + i, none⟩ = some (.slice (some ⟨bi, oi, none⟩) n ci) ∧ ∀ j, j < n → U.cell? ⟨bi, oi + j, none⟩ = some (.bool (bel R i j))) := fun U h i hi => by
          obtain ⟨bi, oi, ci, h1, h2⟩ := hrows i hi
          exact ⟨bi, oi, ci, (h.cell (cell_lt h1)).trans h1, fun j hj => (h.cell (cell_lt (h2 j hj))).trans (h2 j hj)⟩
        have HX := Lib.hid hx
        have HKL := Lib.hid hkL
        clear hcl hrows hrel2 hx hkL
        have q1 := KL.out _ hbw.out k hlt
        rw [← HX.out] at q1
        obtain ⟨bx, ox, cx, q2, q3⟩ := KM.out _ hbw.out x hxn
        have q4 := q3 a han
        have HT0 : Hid (topF R L a k 0 = bel R x a) := by show _ = _; unfold topF; rw [← HX.out]; simp
        clear q3
        go_wp2_with fail
        clear q1 q2 q4
        go_loopw [9, 10] (fun tp i wr2 => ∃ j : Nat, j ≤ ll ∧ i = .int .i64 j ∧ tp = .bool (topF R L a k j) ∧ Hid (Below wB.heap.size wB wr2) ∧ Hid (Below wr.heap.size wr wr2)) (fun _ i _ => ll - (intOf i).toNat)
        case atStart => exact ⟨0, Nat.zero_le _, rfl, by rw [HT0.out], hbw, Below.refl _ _⟩
        case round =>
          obtain ⟨wC, hwC⟩ : ∃ U, U = wr := ⟨_, rfl⟩
          obtain ⟨j, hjl, rfl, rfl, hb2, hb3⟩ := hrel
          by_cases hjlt : j < ll
          · have hjL : j < L.length := by have := HLL.out; omega
            obtain ⟨y, hy⟩ : ∃ y, y = L.getD j 0 := ⟨_, rfl⟩
            have hyn : y < n := by rw [hy]; exact HLR.out j hjL
            have HS : Hid (topF R L a k (j + 1) = (topF R L a k j && (j == k || (!bel R y a || !bel R x y)))) := by show _ = _; rw [topF_succ, ← HX.out, ← hy]
            have q1 := KL.out _ hb2.out k hlt
            rw [← HX.out] at q1
            have q5 := KL.out _ hb2.out j hjlt
            rw [← hy] at q5
            obtain ⟨bx2, ox2, cx2, q2, q3⟩ := KM.out _ hb2.out x hxn
            have q4 := q3 y hyn
            obtain ⟨by2, oy2, cy2, q6, q7⟩ := KM.out _ hb2.out y hyn
            have q8 := q7 a han
            clear q3 q7 hy hjL hwC
            cases htp : topF R L a k j with
            | false =>
              have HN : Hid (topF R L a k (j + 1) = false) := by show _ = _; rw [HS.out, htp]; rfl
              clear htp q1 q5 q2 q4 q6 q8
              go_wp2
              go_quiet (fail)
              go_wp2
              go_roundw
              case rel => exact ⟨j + 1, by omega, by go_num, by rw [HN.out], hb2.out.trans (below_drewAt _ _ _), hb3.out.trans (below_drewAt _ _ _)⟩
              case measure => simp [intOf]; omega
            | true =>
              by_cases hjk : j = k
              · have HN : Hid (topF R L a k (j + 1) = true) := by show _ = _; rw [HS.out, htp, hjk]; simp
                subst hjk
                clear htp q1 q5 q2 q4 q6 q8
                go_wp2
                go_quiet (fail)
                go_wp2
                go_roundw
                case rel => exact ⟨j + 1, by omega, by go_num, by rw [HN.out], hb2.out.trans (below_drewAt _ _ _), hb3.out.trans (below_drewAt _ _ _)⟩
                case measure => simp [intOf]; omega
              · have gjk : ((j : Int) == (k : Int)) = false := by rw [beq_eq_false_iff_ne]; omega
                have hne : (j == k) = false := by simp [hjk]
                cases hya : bel R y a with
                | false =>
                  rw [hya] at q8
                  have HN : Hid (topF R L a k (j + 1) = true) := by show _ = _; rw [HS.out, htp, hne, hya]; rfl
                  clear htp hya hjk hne q1 q2 q4
                  go_wp2
                  go_quiet (fail)
                  go_wp2
                  go_roundw
                  case rel => exact ⟨j + 1, by omega, by go_num, by rw [HN.out], hb2.out.trans (below_drewAt _ _ _), hb3.out.trans (below_drewAt _ _ _)⟩
                  case measure => simp [intOf]; omega
                | true =>
                  rw [hya] at q8
                  obtain ⟨z, hz⟩ : ∃ z, z = bel R x y := ⟨_, rfl⟩
                  have HN : Hid (topF R L a k (j + 1) = !z) := by show _ = _; rw [HS.out, htp, hne, hya, hz]; simp
                  rw [← hz] at q4
                  clear htp hya hjk hne hz
                  go_wp2
                  go_quiet (fail)
                  go_wp2
                  go_roundw
                  case rel => exact ⟨j + 1, by omega, by go_num, by rw [HN.out], hb2.out.trans (below_drewAt _ _ _), hb3.out.trans (below_drewAt _ _ _)⟩
                  case measure => simp [intOf]; omega
          · have hjl2 : j = L.length := by have := HLL.out; omega
            have HP : Hid (partsI R L a (k + 1) = partsI R L a k ++ if topF R L a k j then [x] else []) := by show _ = _; rw [partsI_succ, hjl2, HX.out]
            have hro := ownsRow_below HROW.out hb3.out
            have q1 := KL.out _ hb2.out k hlt
            rw [← HX.out] at q1
            clear hjl2 hwC
            cases htp : topF R L a k j with
            | false =>
              have HN : Hid (partsI R L a (k + 1) = partsI R L a k) := by show _ = _; rw [HP.out, htp]; simp
              have HRO := Lib.hid hro
              clear htp q1 hro
              go_wp2
              go_roundw
              case rel => exact ⟨k + 1, by omega, by go_num, by rw [HN.out, ← HMM.out]; exact HRO.out, hb2⟩
              case measure => simp [intOf]; omega
            | true =>
              have HN : Hid (partsI R L a (k + 1) = partsI R L a k ++ [x]) := by show _ = _; rw [HP.out, htp]; simp
              have HLT := Lib.hid hro.lt
              have hs := hb2.out.size
              clear htp
              go_wp2_with (at_builtin; refine wpList_append_own _ rfl _ _ 39 rfl wB.heap.size 3 i0 (.int .i64 0) 1 8 Tryd.underlying39 hi hz0 hz1 hz2 rfl (by decide) _ _ _ rfl (hro.alloc _) ⟨wr.heap.size, 0, none⟩ 1 1 [.int .i64 (x : Int)] rfl rfl ?c1 ?c2 (by unfold maxLen; omega) (by omega) (by simp; omega) ?_)
              case c1 => intro j u hj; match j, hj with | 0, hj => (simp at hj; subst hj; simp [Addr.add])
              case c2 => intro u hu; simp at hu; subst hu; rfl
              intro v' w' hown' hgrow _
              have HB9 := Lib.hid (Below.grown (hb2.out.alloc hb2.out.size _) hgrow (by simp; omega) (fun j hj => (HLT.out j hj).1))
              have HR9 := Lib.hid hown'
              clear hown' hgrow hro q1
              go_wp2
              go_roundw
              case rel => exact ⟨k + 1, by omega, by go_num, by rw [HN.out, List.length_append, ← HMM.out, intsV, List.map_append]; exact HR9.out, HB9⟩
              case measure => simp [intOf]; omega
      · have hk2 : k = L.length := by have := HLL.out; omega
        have HR : Hid (Rd wr (.slice ptr (partsI R L a k).length cap') (intsV (partsI R L a L.length))) := by
          show Rd _ _ _
          rw [← hk2]
          exact rd_own (by rw [intsV_len]; exact hrow) (by rw [intsV_len]; omega)
        have HBF : Hid (Below w.heap.size w wr) := (HB0.out.trans (hb.out.mono HB0.out.size)).trans (hbw.out.mono (HB0.out.trans (hb.out.mono HB0.out.size)).size)
        clear hrow hmm hk2
        go_wp2
        go_ret
        exact ⟨_, rfl, HR.out, HBF.out⟩
end Go.Proofs.YtmooikdodbjgpaaDoor.Or
