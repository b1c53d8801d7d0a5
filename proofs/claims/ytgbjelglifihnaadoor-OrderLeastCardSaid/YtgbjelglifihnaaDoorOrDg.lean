/- OrderLeast, but for tables whose break is one of a pair. -/
import Derived.Test.YtgbjelglifihnaaDoorOrDe
import Derived.Test.YtgbjelglifihnaaDoorOrP0
import Derived.Test.YtgbjelglifihnaaDoorOrBk
import Derived.Test.YtgbjelglifihnaaDoorOrCa
set_option linter.unusedVariables false
set_option linter.unusedSimpArgs false
namespace Go.Proofs.YtgbjelglifihnaaDoor.Or
open Go.RowKit Go.Shelf

theorem brk_kinds (R : Nat → Nat → Bool) (n : Nat) (wr : Nat → Bool) : (brkF R n wr).1 ≤ 5 := by
  unfold brkF
  split
  · simp
  · split
    · simp
    · split
      · simp only; split <;> decide
      · split
        · simp
        · split <;> simp

/-- The calls of the laws about a table, in every world behind the one in which it came. -/
structure TabCalls (t : Tab) (ve va vw : Value) (w : World) : Prop where
  tab : ∀ W, Below w.heap.size w W → TabIn W ve va vw t
  laid : ∀ W, Below w.heap.size w W → LaidOk W
  thin : ∀ W, Below w.heap.size w W → Calls Tryd.prog 15 #[tabV t ve va vw] W fun e w' => e = .returned (.bool (thinF t)) ∧ Below W.heap.size W w'
  awake : ∀ W, Below w.heap.size w W → Calls Tryd.prog 16 #[] W fun e w' => e = .returned (.bool true) ∧ Below W.heap.size W w'
  check : thinF t = true → ∀ W, Below w.heap.size w W → Calls Tryd.prog 21 #[tabV t ve va vw] W fun e w' => e = .returned (.int .i64 (chkE t)) ∧ Below W.heap.size W w'
  copy : thinF t = true → ∀ W, Below w.heap.size w W → Calls Tryd.prog 17 #[tabV t ve va vw] W fun e w' => ∃ ve' va' vw', e = .returned (tabV t ve' va' vw') ∧ TabIn w' ve' va' vw' t ∧ Below W.heap.size W w'
theorem tab_calls (HJ : JoinOk) (t : Tab) (ve va vw : Value) (w : World) (hT : TabIn w ve va vw t) (hnm : t.name.length ≤ 281474976710656) (hL : LaidOk w) : TabCalls t ve va vw w where
  tab := fun W h => hT.below h
  laid := fun W h => hL.below h
  thin := fun W h => thin_any t ve va vw W (hT.below h) hnm
  awake := fun W h => awake_any HJ W (hL.below h)
  check := fun ht W h => refCheck_any t ve va vw W (hT.below h) (thin_small ht)
  copy := fun ht W h => copy_any t ve va vw W (hT.below h) (thin_lens ht).1 (thin_lens ht).2.1 (thin_lens ht).2.2.1 (thin_lens ht).2.2.2

set_option maxRecDepth 100000 in
set_option maxHeartbeats 4000000 in
theorem least_other (t : Tab) (ve va vw : Value) (w : World) (H : TabCalls t ve va vw w) (hc : thinF t = true → frmF t = true → (proveF t).1 ≠ 3 ∧ (proveF t).1 ≠ 4) :
    Calls Tryd.prog 14 #[tabV t ve va vw] w fun e w' => e = .returned (.bool true) ∧ Below w.heap.size w w' := by
  obtain ⟨W1, hW1⟩ : ∃ W1, W1 = (w.alloc (Obj.cells #[.string (mkS t.name), ve, va, vw] 26)) := ⟨_, rfl⟩
  have b1 : Below w.heap.size w W1 := by rw [hW1]; exact (Below.refl _ _).alloc (Nat.le_refl _) _
  have c0 : W1.cell? ⟨w.heap.size, 0, none⟩ = some (.string (mkS t.name)) := by rw [hW1]; simp [go_sem]
  have c1 : W1.cell? ⟨w.heap.size, 1, none⟩ = some ve := by rw [hW1]; simp [go_sem]
  have c2 : W1.cell? ⟨w.heap.size, 2, none⟩ = some va := by rw [hW1]; simp [go_sem]
  have c3 : W1.cell? ⟨w.heap.size, 3, none⟩ = some vw := by rw [hW1]; simp [go_sem]
  have hTab := H.tab w (Below.refl _ _)
  have CT := Lib.hid (H.thin W1 b1)
  have CA := Lib.hid H.awake
  have CK := Lib.hid H.check
  have CC := Lib.hid H.copy
  have LL := Lib.hid H.laid
  have HW1 := Lib.hid hW1; have HB1 := Lib.hid b1
  obtain ⟨pe, ce, rfl⟩ := hTab.e.form
  obtain ⟨pa, ca, rfl⟩ := hTab.a.form
  obtain ⟨pw, cw, rfl⟩ := hTab.w.form
  have HC := Lib.hid hc
  clear H hTab hW1 b1 hc
  unfold tabV at CT CK CC ⊢
  cases hth : thinF t with
  | false =>
    rw [hth] at CT
    clear hth HC CK CC LL
    go_enter Tryd.func14, Tryd.ntmps14
    go_wp2_with fail
    rw [← HW1.out]
    refine CT.out.mono ?_
    rintro e w2 ⟨rfl, hb⟩
    have HB2 := Lib.hid (HB1.out.trans (hb.mono HB1.out.size))
    clear hb c0 c1 c2 c3
    go_wp2_with fail
    refine (CA.out _ HB2.out).mono ?_
    rintro e w3 ⟨rfl, hb⟩
    have HB3 := Lib.hid (HB2.out.trans (hb.mono HB2.out.size))
    clear hb
    go_wp2
    go_ret
    exact ⟨rfl, HB3.out⟩
  | true =>
    have HTH := Lib.hid hth
    rw [hth] at CT
    clear hth
    cases hf : frmF t with
    | false =>
      have CK2 : Hid (∀ W, Below w.heap.size w W → Calls Tryd.prog 21 #[.agg #[.string (mkS t.name), .slice pe t.elems.length ce, .slice pa t.above.length ca, .slice pw t.wrong.length cw]] W fun e w' => e = .returned (.int .i64 4) ∧ Below W.heap.size W w') := fun W h => by
        refine (CK.out HTH.out W h).mono ?_
        rintro e w' ⟨rfl, hb⟩
        exact ⟨by unfold chkE; rw [hf]; rfl, hb⟩
      clear hf HC CK CC LL HTH
      go_enter Tryd.func14, Tryd.ntmps14
      go_wp2_with fail
      rw [← HW1.out]
      refine CT.out.mono ?_
      rintro e w2 ⟨rfl, hb⟩
      have d0 := (hb.cell (cell_lt c0)).trans c0
      have d1 := (hb.cell (cell_lt c1)).trans c1
      have d2 := (hb.cell (cell_lt c2)).trans c2
      have d3 := (hb.cell (cell_lt c3)).trans c3
      have HB2 := Lib.hid (HB1.out.trans (hb.mono HB1.out.size))
      clear hb c0 c1 c2 c3
      go_wp2_with fail
      refine (CK2.out _ HB2.out).mono ?_
      rintro e w3 ⟨rfl, hb⟩
      have HB3 := Lib.hid (HB2.out.trans (hb.mono HB2.out.size))
      clear hb d0 d1 d2 d3
      go_wp2_with fail
      refine (CA.out _ HB3.out).mono ?_
      rintro e w4 ⟨rfl, hb⟩
      have HB4 := Lib.hid (HB3.out.trans (hb.mono HB3.out.size))
      clear hb
      go_wp2
      go_ret
      exact ⟨rfl, HB4.out⟩
    | true =>
      have CK2 : Hid (∀ W, Below w.heap.size w W → Calls Tryd.prog 21 #[.agg #[.string (mkS t.name), .slice pe t.elems.length ce, .slice pa t.above.length ca, .slice pw t.wrong.length cw]] W fun e w' => e = .returned (.int .i64 0) ∧ Below W.heap.size W w') := fun W h => by
        refine (CK.out HTH.out W h).mono ?_
        rintro e w' ⟨rfl, hb⟩
        exact ⟨by unfold chkE; rw [hf]; rfl, hb⟩
      obtain ⟨K, hK⟩ : ∃ K, K = (proveF t).1 := ⟨_, rfl⟩
      obtain ⟨XA, hXA⟩ : ∃ K, K = (proveF t).2.1 := ⟨_, rfl⟩
      obtain ⟨XB, hXB⟩ : ∃ K, K = (proveF t).2.2 := ⟨_, rfl⟩
      obtain ⟨E, hE⟩ : ∃ K, K = latE t [] := ⟨_, rfl⟩
      have CP : Hid (∀ W ve va vw, Below w.heap.size w W → TabIn W ve va vw t → Calls Tryd.prog 19 #[.agg #[.string (mkS t.name), ve, va, vw]] W fun e w' => e = .returned (.tuple #[.agg #[.int .u8 (K : Nat), .int .i64 (XA : Nat), .int .i64 (XB : Nat)], .int .i64 (E : Nat)]) ∧ Below W.heap.size W w') := fun W ve va vw h hT => by
        rw [hK, hXA, hXB, hE]
        exact prove_any t ve va vw W hT (thin_small HTH.out) (LL.out W h)
      have cases : (E = 0 ∧ K = 0 ∧ XA = 0 ∧ XB = 0) ∨ (E = 12 ∧ (K = 1 ∨ K = 2 ∨ K = 5)) := by
        have h34 := HC.out HTH.out hf
        rw [← hK] at h34
        cases hl : latF t with
        | true =>
          have hp : proveF t = (0, 0, 0) := by unfold proveF; rw [hf, hl]; rfl
          rw [hp] at hK hXA hXB
          exact .inl ⟨by rw [hE]; unfold latE; rw [hf, hl]; rfl, hK, hXA, hXB⟩
        | false =>
          have hp : proveF t = brkF t.R t.n t.wr := by unfold proveF; rw [hf, hl]; rfl
          have h5 := brk_kinds t.R t.n t.wr
          have h0 : (brkF t.R t.n t.wr).1 ≠ 0 := by unfold latF at hl; simpa using hl
          rw [← hp, ← hK] at h5 h0
          exact .inr ⟨by rw [hE]; unfold latE; rw [hf, hl]; rfl, by omega⟩
      clear hf HC CK hK hXA hXB hE
      go_enter Tryd.func14, Tryd.ntmps14
      have HCS := Lib.hid cases
      clear cases
      go_wp2_with fail
      rw [← HW1.out]
      refine CT.out.mono ?_
      rintro e w2 ⟨rfl, hb⟩
      have d0 := (hb.cell (cell_lt c0)).trans c0
      have d1 := (hb.cell (cell_lt c1)).trans c1
      have d2 := (hb.cell (cell_lt c2)).trans c2
      have d3 := (hb.cell (cell_lt c3)).trans c3
      have HB2 := Lib.hid (HB1.out.trans (hb.mono HB1.out.size))
      clear hb c0 c1 c2 c3
      go_wp2_with fail
      refine (CK2.out _ HB2.out).mono ?_
      rintro e w3 ⟨rfl, hb⟩
      have c0 := (hb.cell (cell_lt d0)).trans d0
      have c1 := (hb.cell (cell_lt d1)).trans d1
      have c2 := (hb.cell (cell_lt d2)).trans d2
      have c3 := (hb.cell (cell_lt d3)).trans d3
      have HB3 := Lib.hid (HB2.out.trans (hb.mono HB2.out.size))
      clear hb d0 d1 d2 d3
      go_wp2_with fail
      refine (CC.out HTH.out _ HB3.out).mono ?_
      rintro e w4 ⟨ve', va', vw', rfl, hT4, hb⟩
      have HB4 := Lib.hid (HB3.out.trans (hb.mono HB3.out.size))
      have HT4 := Lib.hid hT4
      clear hb hT4 c0 c1 c2 c3
      go_wp2_with fail
      refine (CP.out _ _ _ _ HB4.out HT4.out).mono ?_
      rintro e w5 ⟨rfl, hb⟩
      have HB5 := Lib.hid (HB4.out.trans (hb.mono HB4.out.size))
      clear hb
      have HCA : Hid (∀ V, Below w5.heap.size w5 V → Calls Tryd.prog 16 #[] V fun e w' => e = .returned (.bool true) ∧ Below w.heap.size w w') := fun V h => by
        have hV := HB5.out.trans (h.mono HB5.out.size)
        refine (CA.out V hV).mono ?_
        rintro e w' ⟨rfl, hb⟩
        exact ⟨rfl, hV.trans (hb.mono hV.size)⟩
      rcases HCS.out with ⟨rfl, rfl, rfl, rfl⟩ | ⟨rfl, rfl | rfl | rfl⟩
      all_goals
        clear CP CC LL CK2 CT
        go_wp2_with fail
        refine (HCA.out _ ((Below.refl _ _).alloc (Nat.le_refl _) _)).mono ?_
        rintro e w6 ⟨rfl, hb⟩
        have HB6 := Lib.hid hb
        clear hb
        go_wp2
        go_ret
        exact ⟨rfl, HB6.out⟩
end Go.Proofs.YtgbjelglifihnaaDoor.Or
