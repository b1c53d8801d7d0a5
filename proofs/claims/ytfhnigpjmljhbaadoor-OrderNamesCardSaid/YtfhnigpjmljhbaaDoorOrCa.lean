/- The reference's Check. -/
import Derived.Test.YtfhnigpjmljhbaaDoorOrBu
import Derived.Test.YtfhnigpjmljhbaaDoorOrAd
set_option linter.unusedVariables false
set_option linter.unusedSimpArgs false
namespace Go.Proofs.YtfhnigpjmljhbaaDoor.Or
open Go.RowKit

/-- The last number of a list, or another one. -/
def lastD (d : Int) : List Int → Int
  | [] => d
  | x :: r => lastD x r
theorem asc_snoc (n : Int) : ∀ (l : List Int) (last x : Int), ascF n last (l ++ [x]) = (ascF n last l && (decide (lastD last l < x) && decide (x < n)))
  | [], last, x => by
    rw [Bool.eq_iff_iff]; simp [ascF, lastD]
    intro _; exact ⟨fun h => decide_eq_true h, fun h => of_decide_eq_true h⟩
  | y :: r, last, x => by
    rw [List.cons_append, ascF, asc_snoc n r y x, ascF, lastD]
    cases decide (last < y) <;> cases decide (y < n) <;> simp
theorem lastD_take : ∀ (l : List Int) (d : Int) (i : Nat), i < l.length → lastD d (l.take (i + 1)) = l.getD i 0
  | [], d, i, h => by simp at h
  | x :: r, d, 0, _ => by simp [lastD]
  | x :: r, d, i + 1, h => by
    have := lastD_take r x i (by simpa using h)
    rw [List.take_succ_cons, lastD, this]; simp
theorem asc_prefix (n : Int) : ∀ (l m : List Int) (last : Int), ascF n last (l ++ m) = true → ascF n last l = true
  | [], m, last, _ => rfl
  | x :: r, m, last, h => by
    simp only [List.cons_append, ascF, Bool.and_eq_true] at h ⊢
    exact ⟨h.1, asc_prefix n r m x h.2⟩
/-- The next number of a list of what stands above one. -/
theorem asc_next {n : Nat} {L : List Int} {i : Nat} (hi : i < L.length) (hp : ascF n (-1) (L.take i) = true) :
    ascF n (-1) (L.take (i + 1)) = (decide (0 ≤ L.getD i 0) && decide (L.getD i 0 ≤ (n : Int) - 1) && (decide (i = 0) || decide (L.getD (i - 1) 0 < L.getD i 0))) := by
  have e : L[i] = L.getD i 0 := by simp [List.getD_eq_getElem?_getD, hi]
  rw [List.take_succ_eq_append_getElem hi, asc_snoc, hp, Bool.true_and, e]
  generalize hx : L.getD i 0 = x
  cases i with
  | zero =>
    rw [List.take_zero, lastD, Bool.eq_iff_iff]; simp; omega
  | succ j =>
    rw [lastD_take L (-1) j (by omega)]
    have h0 : 0 ≤ L.getD j 0 := by
      have hm : L.getD j 0 ∈ L.take (j + 1) := by
        rw [List.mem_take_iff_getElem]; exact ⟨j, by omega, by simp [List.getD_eq_getElem?_getD, show j < L.length by omega]⟩
      have := asc_mem hp hm; omega
    rw [Nat.add_sub_cancel]
    generalize L.getD j 0 = y at h0 ⊢
    rw [Bool.eq_iff_iff]; simp; omega

theorem asc_bad {n : Int} {L : List Int} {i : Nat} (h : ascF n (-1) (L.take i) = false) : ascF n (-1) L = false := by
  refine (Bool.not_eq_true _).mp fun ha => ?_
  rw [← List.take_append_drop i L] at ha
  have := asc_prefix n _ _ _ ha
  rw [h] at this; cases this
theorem RdI.cells {w : World} {p : Option Addr} {n cap : Nat} {ls : List Int} (h : RdI w (.slice p n cap) ls) (h0 : 0 < ls.length) : ∃ b off, p = some ⟨b, off, none⟩ ∧ ∀ i, i < ls.length → w.cell? ⟨b, off + i, none⟩ = some (.int .i64 (ls.getD i 0)) := by
  obtain ⟨b, off, h1, h2⟩ := h.cell (i := 0) h0
  refine ⟨b, off, h1, fun i hi => ?_⟩
  obtain ⟨b', off', h1', h2'⟩ := h.cell hi
  rw [h1] at h1'; injection h1' with h1'; injection h1' with e1 e2 e3
  rw [e1, e2]; exact h2'

set_option maxRecDepth 100000 in
set_option maxHeartbeats 8000000 in
theorem refCheck_any (t : Tab) (ve va vw : Value) (w : World) (hT : TabIn w ve va vw t) (hS : Small t) :
    Calls Tryd.prog 34 #[tabV t ve va vw] w fun e w' => e = .returned (.int .i64 (chkE t)) ∧ Below w.heap.size w w' := by
  obtain ⟨W2, hW2⟩ : ∃ W2, W2 = w.alloc (.cells #[.string (mkS t.name), ve, va, vw] 26) := ⟨_, rfl⟩
  have b2 : Below w.heap.size w W2 := by rw [hW2]; exact (Below.refl _ _).alloc (Nat.le_refl _) _
  have c0 : W2.cell? ⟨w.heap.size, 0, none⟩ = some (.string (mkS t.name)) := by rw [hW2]; simp [go_sem]
  have c1 : W2.cell? ⟨w.heap.size, 1, none⟩ = some ve := by rw [hW2]; simp [go_sem]
  have c2 : W2.cell? ⟨w.heap.size, 2, none⟩ = some va := by rw [hW2]; simp [go_sem]
  have c3 : W2.cell? ⟨w.heap.size, 3, none⟩ = some vw := by rw [hW2]; simp [go_sem]
  have CT : Hid (∀ W, Calls Tryd.prog 73 #[.string (mkS t.name)] W fun e w' => e = .returned (.bool (tnameF t.name)) ∧ Below W.heap.size W w') := fun W => refTName_any t.name W hS.1
  obtain ⟨n, hn⟩ : ∃ n, n = t.elems.length := ⟨_, rfl⟩
  have CI : Hid (∀ W, Calls Tryd.prog 74 #[.int .i64 n, .int .i64 1, .int .i64 12] W fun e w' => e = .returned (.bool (decide ((1 : Int) ≤ (n : Int)) && decide ((n : Int) ≤ 12))) ∧ w' = W) := fun W => in_any _ 1 12 W
  have HFN : Hid (headF t = (decide (1 ≤ n) && decide (n ≤ 12) && decide (t.above.length = n) && decide (t.wrong.length = n))) := by show _ = _; rw [hn]; rfl
  have HFR : Hid (frmF t = (headF t && tnameF t.name && (List.range n).all (rowF t))) := by show _ = _; rw [hn]; rfl
  have HSE : Hid (∀ s ∈ t.elems, s.length ≤ 281474976710656) := hS.2
  have HT := Lib.hid hT
  obtain ⟨pe, ce, rfl⟩ := hT.e.form
  obtain ⟨pa, ca, rfl⟩ := hT.a.form
  obtain ⟨pw, cw, rfl⟩ := hT.w.form
  have lA := hT.a.len; have lW := hT.w.len; have lE := hT.e.len
  obtain ⟨nA, hnA⟩ : ∃ x, x = t.above.length := ⟨_, rfl⟩
  obtain ⟨nW, hnW⟩ : ∃ x, x = t.wrong.length := ⟨_, rfl⟩
  rw [← hn] at c1 hW2 lE
  rw [← hnA] at c2 hW2 HFN lA
  rw [← hnW] at c3 hW2 HFN lW
  unfold tabV
  rw [← hn, ← hnA, ← hnW]
  have HW2 := Lib.hid hW2; have HB2 := Lib.hid b2; have HN := Lib.hid hn; have HNA := Lib.hid hnA; have HNW := Lib.hid hnW
  have no : frmF t = false → Hid (chkE t = 4) := fun h => by show _ = _; unfold chkE; rw [h]; rfl
  have NO := Lib.hid no
  clear hT hS b2 hW2 hn hnA hnW no
  cases h1 : tnameF t.name with
  | false =>
    have HR := NO.out (by rw [HFR.out, h1]; simp)
    rw [h1] at CT
    clear h1 CI
    go_enter Tryd.func34, Tryd.ntmps34
    go_wp2_with fail
    rw [← HW2.out]
    refine (CT.out _).mono ?_
    rintro e w1 ⟨rfl, hb⟩
    have HB1 := Lib.hid (HB2.out.trans (hb.mono HB2.out.size))
    clear hb
    go_wp2
    go_ret
    exact ⟨ret_int (by rw [HR.out]; rfl), HB1.out⟩
  | true =>
    rw [h1] at CT
    by_cases h2 : (decide ((1 : Int) ≤ (n : Int)) && decide ((n : Int) ≤ 12)) = true
    · by_cases h3 : nA = n
      · by_cases h4 : nW = n
        · have g3 : ((nA : Int) != (n : Int)) = false := by rw [bne_eq_false_iff_eq]; omega
          have g4 : ((nW : Int) != (n : Int)) = false := by rw [bne_eq_false_iff_eq]; omega
          have hnn : 1 ≤ n ∧ n ≤ 12 := by
            rw [Bool.and_eq_true, decide_eq_true_eq, decide_eq_true_eq] at h2; omega
          have HFF : Hid (frmF t = (List.range n).all (rowF t)) := by
            show _ = _
            rw [HFR.out, HFN.out, h1, decide_eq_true hnn.1, decide_eq_true hnn.2, decide_eq_true h3, decide_eq_true h4]; simp
          have HBAD : Hid (∀ k, k < n → rowF t k = false → chkE t = 4) := fun k hk hr => by
            refine (NO.out ?_).out
            rw [HFF.out]
            refine (Bool.not_eq_true _).mp fun h => ?_
            rw [List.all_eq_true] at h
            have := h k (List.mem_range.2 hk)
            rw [hr] at this; cases this
          have HGOOD : Hid ((List.range n).all (rowF t) = true → chkE t = 0) := fun h => by unfold chkE; rw [HFF.out, h]; rfl
          have HROW : Hid (∀ k, rowF t k = (nameF (t.elems.getD k []) && (findF t.elems (t.elems.getD k []) == (k : Int)) && ascF n (-1) (t.above.getD k []))) := fun k => by rw [HN.out]; rfl
          rw [h2] at CI
          have HNA2 : Hid (n = t.above.length) := by show _ = _; rw [← HNA.out, h3]
          rw [h3] at c2
          rw [h4] at c3
          clear h1 h2 h3 h4 NO HFN HFR HNA HNW
          go_enter Tryd.func34, Tryd.ntmps34
          go_wp2_with fail
          rw [← HW2.out]
          refine (CT.out _).mono ?_
          rintro e w1 ⟨rfl, hb⟩
          have k1 := (hb.cell (cell_lt c1)).trans c1
          have k2 := (hb.cell (cell_lt c2)).trans c2
          have k3 := (hb.cell (cell_lt c3)).trans c3
          have HB1 := Lib.hid (HB2.out.trans (hb.mono HB2.out.size))
          have l0 : w.heap.size < w1.heap.size := cell_lt k1
          clear hb c0 c1 c2 c3
          go_wp2_with fail
          refine (CI.out _).mono ?_
          rintro e w2 ⟨rfl, rfl⟩
          clear CI CT
          go_wp2
          go_loopw [4] (fun i wr => ∃ k : Nat, k ≤ n ∧ i = .int .i64 k ∧ Hid ((List.range k).all (rowF t) = true) ∧ Hid (Below w2.heap.size w2 wr)) (fun i _ => n - (intOf i).toNat)
          case atStart => exact ⟨0, Nat.zero_le _, rfl, rfl, Below.refl _ _⟩
          case round =>
            obtain ⟨k, hk, rfl, hr, hbel⟩ := hrel
            have q1 := (hbel.out.cell (p := ⟨w.heap.size, 1, none⟩) l0).trans k1
            have q2 := (hbel.out.cell (p := ⟨w.heap.size, 2, none⟩) l0).trans k2
            by_cases hlt : k < n
            · have hwr := hbel.out
              have HWR := Lib.hid (HB1.out.trans (hwr.mono HB1.out.size))
              have hT2 := HT.out.below HWR.out
              obtain ⟨be, oe, rfl, hce⟩ := hT2.e.cell (i := k) (by have := HN.out; omega)
              obtain ⟨ba, oa, qa, cq, rfl, hca, hrow⟩ := hT2.a.cell (i := k) (by have := HNA2.out; omega)
              have lrow := hrow.len
              obtain ⟨x, hx⟩ : ∃ x, x = t.elems.getD k [] := ⟨_, rfl⟩
              obtain ⟨L, hL⟩ : ∃ L, L = t.above.getD k [] := ⟨_, rfl⟩
              have hR0 := HROW.out k
              rw [← hx, ← hL] at hR0
              rw [← hx] at hce
              rw [← hL] at hca hrow lrow
              obtain ⟨m, hm⟩ : ∃ m, m = L.length := ⟨_, rfl⟩
              rw [← hm] at hca hrow lrow
              have CN : Hid (∀ W, Calls Tryd.prog 75 #[.string (mkS x)] W fun e w' => e = .returned (.bool (nameF x)) ∧ w' = W) := fun W => refName_any x W (by
                rw [hx]; exact HSE.out _ (by simp [List.getD_eq_getElem?_getD, show k < t.elems.length by have := HN.out; omega]))
              have CF : Hid (∀ nq, Calls Tryd.prog 70 #[.slice (some ⟨be, oe, none⟩) n ce, .string (mkS x)] (wr.drewN nq) fun e w' => e = .returned (.int .i64 (findF t.elems x)) ∧ w' = wr.drewN nq) := fun nq => by
                have := find_any _ t.elems x (wr.drewN nq) (hT2.e.below (below_drewAt _ _ _))
                rw [← HN.out] at this; exact this
              obtain ⟨r, hrr⟩ : ∃ r, r = findF t.elems x := ⟨_, rfl⟩
              rw [← hrr] at CF hR0
              have HR0 := Lib.hid hR0
              have HM := Lib.hid hm; have HRW := Lib.hid hrow; have HL := Lib.hid hL
              clear hT2 hwr hx hL hm hrr hR0 hrow
              cases h5 : nameF x with
              | false =>
                have HR := Lib.hid (HBAD.out k hlt (by rw [HR0.out, h5]; simp))
                rw [h5] at CN
                clear h5 hbel hr
                go_wp2
                go_quiet ((first | (go_at_call 75; exact Calls.quiet_of_same (CN.out _)) | (go_at_call 70; exact Calls.quiet_of_same (CF.out _))))
                go_wp2
                go_ret
                exact ⟨ret_int (by rw [HR.out]; rfl), HWR.out.trans (below_drewAt _ _ _)⟩
              | true =>
                rw [h5] at CN
                by_cases h6 : r = (k : Int)
                · have g6 : (r != (k : Int)) = false := by rw [bne_eq_false_iff_eq]; exact h6
                  have HRA : Hid (rowF t k = ascF n (-1) L) := by show _ = _; rw [HR0.out, h5, beq_iff_eq.2 h6]; simp
                  have hw1 : IntKind.i64.wrap ((n : Int) - 1) = (n : Int) - 1 := by simp [IntKind.wrap, IntKind.bits, IntKind.signed]; omega
                  clear h5 h6
                  go_wp2
                  go_quiet ((first | (go_at_call 75; exact Calls.quiet_of_same (CN.out _)) | (go_at_call 70; exact Calls.quiet_of_same (CF.out _))))
                  obtain ⟨V, hV⟩ : ∃ V, V = wr.drewN nq := ⟨_, rfl⟩
                  have bV : Below wr.heap.size wr V := by rw [hV]; exact below_drewAt _ _ _
                  rw [← hV]
                  have HBV := Lib.hid (hbel.out.trans (bV.mono hbel.out.size))
                  have HRWV := Lib.hid (HRW.out.below bV)
                  have vca := (bV.cell (cell_lt hca)).trans hca
                  have lca : ba < V.heap.size := cell_lt vca
                  have v2 := (bV.cell (cell_lt q2)).trans q2
                  clear hV bV hbel hca q1 q2 hce
                  go_wp2
                  go_loopw [5] (fun i wr2 => ∃ j : Nat, j ≤ m ∧ i = .int .i64 j ∧ Hid (ascF n (-1) (L.take j) = true) ∧ Hid (Below V.heap.size V wr2)) (fun i _ => m - (intOf i).toNat)
                  case atStart => exact ⟨0, Nat.zero_le _, rfl, rfl, Below.refl _ _⟩
                  case round =>
                    obtain ⟨j, hj, rfl, hr2, hbel2⟩ := hrel
                    have r2 := (hbel2.out.cell (cell_lt v2)).trans v2
                    have rca := (hbel2.out.cell (cell_lt vca)).trans vca
                    have HW4 := Lib.hid (HB1.out.trans ((HBV.out.trans (hbel2.out.mono HBV.out.size)).mono HB1.out.size))
                    by_cases hlj : j < m
                    · have hjL : j < L.length := by have := HM.out; omega
                      obtain ⟨bq, oq, rfl, hcs⟩ := (HRWV.out.below hbel2.out).cells (by omega)
                      have hcx := hcs j hjL
                      have hcy := hcs (j - 1) (by omega)
                      have lq := cell_lt hcx
                      have hnext := asc_next hjL hr2.out
                      obtain ⟨z, hz⟩ : ∃ z, z = L.getD j 0 := ⟨_, rfl⟩
                      obtain ⟨y, hy⟩ : ∃ y, y = L.getD (j - 1) 0 := ⟨_, rfl⟩
                      rw [← hz, ← hy] at hnext
                      rw [← hz] at hcx
                      rw [← hy] at hcy
                      have CI2 : Hid (∀ W, Calls Tryd.prog 74 #[.int .i64 z, .int .i64 0, .int .i64 ((n : Int) - 1)] W fun e w' => e = .returned (.bool (decide (0 ≤ z) && decide (z ≤ (n : Int) - 1))) ∧ w' = W) := fun W => in_any z 0 ((n : Int) - 1) W
                      clear hcs hz hy hjL
                      cases h7 : (decide (0 ≤ z) && decide (z ≤ (n : Int) - 1)) with
                      | false =>
                        rw [h7] at CI2
                        rw [h7, Bool.false_and] at hnext
                        have HR := Lib.hid (HBAD.out k hlt (by rw [HRA.out]; exact asc_bad hnext))
                        clear hnext hr2 hbel2 h7 hr
                        go_wp2
                        go_quiet ((go_at_call 74; exact Calls.quiet_of_same (CI2.out _)))
                        go_wp2
                        go_ret
                        exact ⟨ret_int (by rw [HR.out]; rfl), HW4.out.trans (below_drewAt _ _ _)⟩
                      | true =>
                        rw [h7] at CI2
                        rw [h7, Bool.true_and] at hnext
                        by_cases j0 : j = 0
                        · have g7 : decide (0 < j) = false := decide_eq_false (by omega)
                          rw [decide_eq_true j0, Bool.true_or] at hnext
                          clear j0
                          have HN2 := Lib.hid hnext
                          have HB6 := Lib.hid hbel2.out
                          clear hnext hr2 hbel2 h7
                          go_wp2
                          go_quiet ((go_at_call 74; exact Calls.quiet_of_same (CI2.out _)))
                          go_wp2
                          go_roundw
                          case rel => exact ⟨j + 1, by omega, by go_num, HN2.out, HB6.out.trans (below_drewAt _ _ _)⟩
                          case measure => simp [intOf]; omega
                        · have g7 : decide (0 < j) = true := decide_eq_true (by omega)
                          have g7' : 0 < j := by omega
                          have hwj : IntKind.i64.wrap ((j : Int) - 1) = ((j - 1 : Nat) : Int) := by
                            rw [show (j : Int) - 1 = ((j - 1 : Nat) : Int) by omega]
                            simp [IntKind.wrap, IntKind.bits, IntKind.signed]; omega
                          rw [decide_eq_false j0, Bool.false_or] at hnext
                          clear j0
                          by_cases h8 : y < z
                          · have g8 : decide (z ≤ y) = false := decide_eq_false (by omega)
                            rw [decide_eq_true h8] at hnext
                            clear h8
                            have HN2 := Lib.hid hnext
                            have HB6 := Lib.hid hbel2.out
                            clear hnext hr2 hbel2 h7
                            go_wp2
                            go_quiet ((go_at_call 74; exact Calls.quiet_of_same (CI2.out _)))
                            go_wp2
                            go_roundw
                            case rel => exact ⟨j + 1, by omega, by go_num, HN2.out, HB6.out.trans (below_drewAt _ _ _)⟩
                            case measure => simp [intOf]; omega
                          · have g8 : decide (z ≤ y) = true := decide_eq_true (by omega)
                            rw [decide_eq_false h8] at hnext
                            clear h8
                            have HR := Lib.hid (HBAD.out k hlt (by rw [HRA.out]; exact asc_bad hnext))
                            clear hnext hr2 hbel2 h7 hr
                            go_wp2
                            go_quiet ((go_at_call 74; exact Calls.quiet_of_same (CI2.out _)))
                            go_wp2
                            go_ret
                            exact ⟨ret_int (by rw [HR.out]; rfl), HW4.out.trans (below_drewAt _ _ _)⟩
                    · have HS : Hid ((List.range (k + 1)).all (rowF t) = true) := by
                        show _ = _
                        have e := hr2.out
                        rw [List.take_of_length_le (by have := HM.out; omega)] at e
                        rw [List.range_succ, List.all_append, hr.out]; simp [HRA.out, e]
                      have HB5 := Lib.hid (HBV.out.trans (hbel2.out.mono HBV.out.size))
                      clear hr2 hbel2
                      go_wp2
                      go_roundw
                      case rel => exact ⟨k + 1, by omega, by go_num, HS, HB5⟩
                      case measure => simp [intOf]; omega
                · have g6 : (r != (k : Int)) = true := by rw [bne_iff_ne]; exact h6
                  have HR := Lib.hid (HBAD.out k hlt (by rw [HR0.out, beq_eq_false_iff_ne.2 h6]; simp))
                  clear h5 h6 hbel hr
                  go_wp2
                  go_quiet ((first | (go_at_call 75; exact Calls.quiet_of_same (CN.out _)) | (go_at_call 70; exact Calls.quiet_of_same (CF.out _))))
                  go_wp2
                  go_ret
                  exact ⟨ret_int (by rw [HR.out]; rfl), HWR.out.trans (below_drewAt _ _ _)⟩
            · have HR := Lib.hid (HGOOD.out (by rw [show n = k by omega]; exact hr.out))
              have HW3 := Lib.hid (HB1.out.trans (hbel.out.mono HB1.out.size))
              clear hr hbel
              go_wp2
              go_ret
              exact ⟨ret_int (by rw [HR.out]; rfl), HW3.out⟩
        · have g3 : ((nA : Int) != (n : Int)) = false := by rw [bne_eq_false_iff_eq]; omega
          have g4 : ((nW : Int) != (n : Int)) = true := by rw [bne_iff_ne]; omega
          have HR := NO.out (by rw [HFR.out, HFN.out, decide_eq_false h4]; simp)
          rw [h2] at CI
          clear h1 h2 h3 h4
          go_enter Tryd.func34, Tryd.ntmps34
          go_wp2_with fail
          rw [← HW2.out]
          refine (CT.out _).mono ?_
          rintro e w1 ⟨rfl, hb⟩
          have k1 := (hb.cell (cell_lt c1)).trans c1
          have k2 := (hb.cell (cell_lt c2)).trans c2
          have k3 := (hb.cell (cell_lt c3)).trans c3
          have HB1 := Lib.hid (HB2.out.trans (hb.mono HB2.out.size))
          clear hb c0 c1 c2 c3
          go_wp2_with fail
          refine (CI.out _).mono ?_
          rintro e w2 ⟨rfl, rfl⟩
          go_wp2
          go_ret
          exact ⟨ret_int (by rw [HR.out]; rfl), HB1.out⟩
      · have g3 : ((nA : Int) != (n : Int)) = true := by rw [bne_iff_ne]; omega
        have HR := NO.out (by rw [HFR.out, HFN.out, decide_eq_false h3]; simp)
        rw [h2] at CI
        clear h1 h2 h3
        go_enter Tryd.func34, Tryd.ntmps34
        go_wp2_with fail
        rw [← HW2.out]
        refine (CT.out _).mono ?_
        rintro e w1 ⟨rfl, hb⟩
        have k1 := (hb.cell (cell_lt c1)).trans c1
        have k2 := (hb.cell (cell_lt c2)).trans c2
        have k3 := (hb.cell (cell_lt c3)).trans c3
        have HB1 := Lib.hid (HB2.out.trans (hb.mono HB2.out.size))
        clear hb c0 c1 c2 c3
        go_wp2_with fail
        refine (CI.out _).mono ?_
        rintro e w2 ⟨rfl, rfl⟩
        go_wp2
        go_ret
        exact ⟨ret_int (by rw [HR.out]; rfl), HB1.out⟩
    · have h2' := (Bool.not_eq_true _).mp h2
      have HR := NO.out (by
        rw [HFR.out, HFN.out]
        have : (decide (1 ≤ n) && decide (n ≤ 12)) = false := by
          rw [Bool.and_eq_false_iff, decide_eq_false_iff_not, decide_eq_false_iff_not] at h2' ⊢; omega
        rw [this]; simp)
      rw [h2'] at CI
      clear h1 h2 h2'
      go_enter Tryd.func34, Tryd.ntmps34
      go_wp2_with fail
      rw [← HW2.out]
      refine (CT.out _).mono ?_
      rintro e w1 ⟨rfl, hb⟩
      have k1 := (hb.cell (cell_lt c1)).trans c1
      have k2 := (hb.cell (cell_lt c2)).trans c2
      have k3 := (hb.cell (cell_lt c3)).trans c3
      have HB1 := Lib.hid (HB2.out.trans (hb.mono HB2.out.size))
      clear hb c0 c1 c2 c3
      go_wp2_with fail
      refine (CI.out _).mono ?_
      rintro e w2 ⟨rfl, rfl⟩
      go_wp2
      go_ret
      exact ⟨ret_int (by rw [HR.out]; rfl), HB1.out⟩
end Go.Proofs.YtfhnigpjmljhbaaDoor.Or
