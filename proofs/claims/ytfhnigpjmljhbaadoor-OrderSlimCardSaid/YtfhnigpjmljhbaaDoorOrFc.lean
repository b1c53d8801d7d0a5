/- The reference's IsBelow, IsElem and Rel, at tables that have their form. -/
import Derived.Test.YtfhnigpjmljhbaaDoorOrFb
set_option linter.unusedVariables false
set_option linter.unusedSimpArgs false
namespace Go.Proofs.YtfhnigpjmljhbaaDoor.Or
open Go.RowKit Go.Shelf

set_option maxRecDepth 100000 in
set_option maxHeartbeats 4000000 in
theorem isBelow_any (t : Tab) (ve va vw : Value) (a b : Nat) (w : World) (hT : TabIn w ve va vw t) (hf : frmF t = true) (ha : a < t.n) (hb : b < t.n) :
    Calls Tryd.prog 128 #[tabV t ve va vw, .int .i64 a, .int .i64 b] w fun e w' => e = .returned (.bool (bel t.R a b)) ∧ Below w.heap.size w w' := by
  obtain ⟨W1, hW1⟩ : ∃ W1, W1 = w.alloc (.cells #[.string (mkS t.name), ve, va, vw] 26) := ⟨_, rfl⟩
  have b1 : Below w.heap.size w W1 := by rw [hW1]; exact (Below.refl _ _).alloc (Nat.le_refl _) _
  have C := Lib.hid (steps_any t ve va vw a b W1 (hT.below b1) hf ha hb)
  have HW1 := Lib.hid hW1; have HB1 := Lib.hid b1
  obtain ⟨pe, ce, rfl⟩ := hT.e.form
  obtain ⟨pa, ca, rfl⟩ := hT.a.form
  obtain ⟨pw, cw, rfl⟩ := hT.w.form
  clear hT hf ha hb hW1 b1
  unfold tabV at C ⊢
  by_cases hab : a = b
  · subst hab
    have HF : Hid (bel t.R a a = true) := bel_self _ _
    go_enter Tryd.func128, Tryd.ntmps128
    go_wp2
    go_ret
    exact ⟨ret_bool HF.out.symm, by rw [← HW1.out]; exact HB1.out⟩
  · have g1 : ((a : Int) == (b : Int)) = false := by rw [beq_eq_false_iff_ne]; omega
    have HF : Hid (bel t.R a b = t.R a b) := by show _ = _; unfold bel; rw [show (a == b) = false from by simp [hab]]; rfl
    obtain ⟨r, hr⟩ : ∃ r, r = t.R a b := ⟨_, rfl⟩
    rw [← hr] at C HF
    clear hr hab
    go_enter Tryd.func128, Tryd.ntmps128
    go_wp2_with fail
    rw [← HW1.out]
    refine C.out.mono ?_
    rintro e w2 ⟨rfl, hb⟩
    have HB2 := Lib.hid (HB1.out.trans (hb.mono HB1.out.size))
    clear hb
    go_wp2
    go_ret
    exact ⟨ret_bool HF.out.symm, HB2.out⟩

/-- A row of answers as a value's list; a table of answers in memory. -/
def rowB (f : Nat → Bool) (n : Nat) : List Value := (List.range n).map fun j => Value.bool (f j)
theorem rowB_len (f : Nat → Bool) (n : Nat) : (rowB f n).length = n := by simp [rowB]
theorem rowB_succ (f : Nat → Bool) (n : Nat) : rowB f (n + 1) = rowB f n ++ [.bool (f n)] := by simp [rowB, List.range_succ]
def RelIn (w : World) (v : Value) (n : Nat) (f : Nat → Nat → Bool) : Prop :=
  ∃ p cap, v = .slice p n cap ∧ (0 < n → ∃ b off, p = some ⟨b, off, none⟩ ∧ ∀ i, i < n → ∃ bi oi ci, w.cell? ⟨b, off + i, none⟩ = some (.slice (some ⟨bi, oi, none⟩) n ci) ∧ ∀ j, j < n → w.cell? ⟨bi, oi + j, none⟩ = some (.bool (f i j)))
theorem RelIn.below {w w' : World} {v : Value} {n : Nat} {f : Nat → Nat → Bool} (h : RelIn w v n f) (hb : Below w.heap.size w w') : RelIn w' v n f := by
  obtain ⟨p, cap, h1, h2⟩ := h
  refine ⟨p, cap, h1, fun hn => ?_⟩
  obtain ⟨b, off, h3, h4⟩ := h2 hn
  refine ⟨b, off, h3, fun i hi => ?_⟩
  obtain ⟨bi, oi, ci, h5, h6⟩ := h4 i hi
  exact ⟨bi, oi, ci, (hb.cell (cell_lt h5)).trans h5, fun j hj => (hb.cell (cell_lt (h6 j hj))).trans (h6 j hj)⟩
theorem rdT_own {w : World} {base : Nat} {e : TypeId} {v : Value} {n : Nat} {xs : List Value} (h : w.ownsRow base e 1 v n xs) (h0 : 0 < n) (hn : n ≤ 1000) : RdT w e v xs := by
  have hl : xs.length = n := by have := h.1; omega
  rcases h.2 with ⟨_, h1⟩ | ⟨g, cap, cur, rfl, hg, hgg, hcap, hmax, hsz, htake⟩
  · omega
  · exact ⟨g, cap, cur, (0, 0), by rw [hl], hgg, by simpa [hl] using htake, by omega, by omega⟩
theorem relIn_of {w : World} {base n : Nat} {v : Value} {rows : List Value} {f : Nat → Nat → Bool} (h : w.ownsRow base 24 1 v n rows) (hn : n ≤ 1000) (hr : ∀ i (h : i < rows.length), RdT w 4 rows[i] (rowB (f i) n)) : RelIn w v n f := by
  have hl : rows.length = n := by have := h.1; omega
  obtain ⟨p, cap, rfl⟩ := ownsRow_slice h
  refine ⟨p, cap, rfl, fun h0 => ?_⟩
  have hT := (rdT_own h h0 hn)
  obtain ⟨g, cap', cs, fr, e1, e2, e3, _⟩ := hT
  simp only [Value.slice.injEq] at e1
  obtain ⟨rfl, _, _⟩ := e1
  have hRd := (rdT_own h h0 hn).rd
  refine ⟨g, 0, rfl, fun i hi => ?_⟩
  obtain ⟨bi, ci, csi, fri, q1, q2, q3, q4, q5⟩ := hr i (by omega)
  obtain ⟨b2, o2, z1, z2⟩ := hRd.cell (i := i) (by omega)
  simp only [Option.some.injEq, Addr.mk.injEq] at z1
  obtain ⟨rfl, rfl, _⟩ := z1
  rw [q1, rowB_len] at z2
  refine ⟨bi, 0, ci, z2, fun j hj => ?_⟩
  have hrr := (show RdT w 4 (.slice (some ⟨bi, 0, none⟩) (rowB (f i) n).length ci) (rowB (f i) n) from ⟨bi, ci, csi, fri, rfl, q2, q3, q4, q5⟩).rd
  obtain ⟨b3, o3, y1, y2⟩ := hrr.cell (i := j) (by rw [rowB_len]; exact hj)
  simp only [Option.some.injEq, Addr.mk.injEq] at y1
  obtain ⟨rfl, rfl, _⟩ := y1
  rw [y2]; simp [rowB]
theorem infoBB : (Tryd.prog.info? 24).map (fun i => (i.zero, i.size, i.bytes)) = some (some (.slice none 0 0), 1, 24) := by kernel_rfl

set_option maxRecDepth 100000 in
set_option maxHeartbeats 8000000 in
theorem rel_any (t : Tab) (ve va vw : Value) (w : World) (hT : TabIn w ve va vw t) (hf : frmF t = true) :
    Calls Tryd.prog 114 #[tabV t ve va vw] w fun e w' => ∃ v, e = .returned v ∧ RelIn w' v t.n (bel t.R) ∧ Below w.heap.size w w' := by
  obtain ⟨iB, hBi, hB0, hB1, hB2⟩ := info_parts infoBool
  obtain ⟨iR, hRi, hR0, hR1, hR2⟩ := info_parts infoBB
  obtain ⟨f1, f2, f3, f4⟩ := frm_len hf
  obtain ⟨n, hn⟩ : ∃ n, n = t.elems.length := ⟨_, rfl⟩
  obtain ⟨m, hm⟩ : ∃ m, m = w.heap.size := ⟨_, rfl⟩
  obtain ⟨pe, ce, rfl⟩ := hT.e.form
  obtain ⟨pa, ca, rfl⟩ := hT.a.form
  obtain ⟨pw, cw, rfl⟩ := hT.w.form
  obtain ⟨W0, hW0⟩ : ∃ W0, W0 = w.alloc (Obj.cells #[.string (mkS t.name), .slice pe n ce, .slice pa n ca, .slice pw n cw] 26) := ⟨_, rfl⟩
  have b0 : Below w.heap.size w W0 := by rw [hW0]; exact (Below.refl _ _).alloc (Nat.le_refl _) _
  have s0 : W0.heap.size = m + 1 := by rw [hW0, hm]; simp
  have c0 : W0.cell? ⟨m, 0, none⟩ = some (.string (mkS t.name)) := by rw [hW0, hm]; simp [go_sem]
  have c1 : W0.cell? ⟨m, 1, none⟩ = some (.slice pe n ce) := by rw [hW0, hm]; simp [go_sem]
  have c2 : W0.cell? ⟨m, 2, none⟩ = some (.slice pa n ca) := by rw [hW0, hm]; simp [go_sem]
  have c3 : W0.cell? ⟨m, 3, none⟩ = some (.slice pw n cw) := by rw [hW0, hm]; simp [go_sem]
  have KS : Hid (∀ U, Below W0.heap.size W0 U → U.cell? ⟨m, 0, none⟩ = some (.string (mkS t.name)) ∧ U.cell? ⟨m, 1, none⟩ = some (.slice pe n ce) ∧ U.cell? ⟨m, 2, none⟩ = some (.slice pa n ca) ∧ U.cell? ⟨m, 3, none⟩ = some (.slice pw n cw)) := fun U h =>
    ⟨(h.cell (cell_lt c0)).trans c0, (h.cell (cell_lt c1)).trans c1, (h.cell (cell_lt c2)).trans c2, (h.cell (cell_lt c3)).trans c3⟩
  have CI : Hid (∀ U (a b : Nat), Below W0.heap.size W0 U → a < n → b < n → Calls Tryd.prog 128 #[.agg #[.string (mkS t.name), .slice pe n ce, .slice pa n ca, .slice pw n cw], .int .i64 a, .int .i64 b] U fun e w' => e = .returned (.bool (bel t.R a b)) ∧ Below U.heap.size U w') := fun U a b h ha hb => by
    have := isBelow_any t _ _ _ a b U (hT.below (b0.trans (h.mono b0.size))) hf (by unfold Tab.n; omega) (by unfold Tab.n; omega)
    unfold tabV at this
    rw [f3, f4, ← hn] at this
    exact this
  have HB0 := Lib.hid b0; have HW0 := Lib.hid hW0
  have HBW : Hid (∀ U, Below W0.heap.size W0 U → Below w.heap.size w U) := fun U h => b0.trans (h.mono b0.size)
  have hnT : t.n = n := hn.symm
  rw [hnT]
  have n12 : n ≤ 12 := by omega
  have n1 : 1 ≤ n := by omega
  have HS0 := Lib.hid s0
  obtain ⟨F, hF⟩ : ∃ F, F = bel t.R := ⟨_, rfl⟩
  rw [← hF] at CI ⊢
  unfold tabV
  rw [f3, f4, ← hn]
  have HM := Lib.hid hm
  clear hT hf hW0 hm hn b0 s0 f1 f2 f3 f4 hnT hF
  go_enter Tryd.func114, Tryd.ntmps114
  go_wp2_with fail
  rw [← HM.out, ← HW0.out]
  go_loopw [3, 4] (fun v i wr => ∃ (a : Nat) (rows : List Value), a ≤ n ∧ i = .int .i64 a ∧ wr.ownsRow W0.heap.size 24 1 v a rows ∧ Hid (∀ i (h : i < rows.length), RdT wr 4 rows[i] (rowB (F i) n)) ∧ Hid (Below W0.heap.size W0 wr)) (fun _ i _ => n - (intOf i).toNat)
  case atStart => exact ⟨0, [], Nat.zero_le _, rfl, World.ownsRow_nil _ _ _ _, fun i h => by simp at h, Below.refl _ _⟩
  case round =>
    clear c0 c1 c2 c3
    obtain ⟨a, rows, han, rfl, hrow, hrows, hb⟩ := hrel
    obtain ⟨k0, k1, k2, k3⟩ := KS.out _ hb.out
    obtain ⟨ptr, cap, rfl⟩ := ownsRow_slice hrow
    by_cases hlt : a < n
    · obtain ⟨wA, hwA⟩ : ∃ U, U = wr := ⟨_, rfl⟩
      subst hwA
      have HROW := Lib.hid hrow
      clear hrow
      go_wp2_with fail
      clear k0 k1 k2 k3
      go_loopw [5, 6] (fun v i wr2 => ∃ b : Nat, b ≤ n ∧ i = .int .i64 b ∧ wr2.ownsRow wA.heap.size 4 1 v b (rowB (F a) b) ∧ Hid (Below wA.heap.size wA wr2)) (fun _ i _ => n - (intOf i).toNat)
      case atStart => exact ⟨0, Nat.zero_le _, rfl, World.ownsRow_nil _ _ _ _, Below.refl _ _⟩
      case round =>
        obtain ⟨b, hbn, rfl, hrw2, hb2⟩ := hrel
        have hb3 := Lib.hid (hb.out.trans (hb2.out.mono hb.out.size))
        obtain ⟨k0, k1, k2, k3⟩ := KS.out _ hb3.out
        obtain ⟨ptr2, cap2, rfl⟩ := ownsRow_slice hrw2
        by_cases hlt2 : b < n
        · go_wp2_with fail
          refine (CI.out _ a b hb3.out hlt hlt2).mono ?_
          rintro e w3 ⟨rfl, hb4⟩
          have hrw3 := ownsRow_below hrw2 hb4
          have hB4 := Lib.hid (hb2.out.trans (hb4.mono hb2.out.size))
          have HLT := Lib.hid hrw3.lt
          have hs3 := hB4.out.size
          clear hrw2 hb4 k0 k1 k2 k3
          go_wp2_with (at_builtin; refine wpList_append_own _ rfl _ _ 24 rfl wA.heap.size 4 iB (.bool false) 1 1 Tryd.underlying24 hBi hB0 hB1 hB2 rfl (by decide) _ _ _ rfl (hrw3.alloc _) ⟨w3.heap.size, 0, none⟩ 1 1 [.bool (F a b)] rfl rfl ?c1 ?c2 (by unfold maxLen; omega) (by omega) (by simp; omega) ?_)
          case c1 => intro j u hj; match j, hj with | 0, hj => (simp at hj; subst hj; simp [Addr.add])
          case c2 => intro u hu; simp at hu; subst hu; rfl
          intro v' w' hown' hgrow _
          have HB5 := Lib.hid (Below.grown (hB4.out.alloc hB4.out.size _) hgrow (by simp; omega) (fun j hj => (HLT.out j hj).1))
          have HR5 := Lib.hid hown'
          clear hown' hgrow hrw3
          go_wp2
          go_roundw
          case rel => exact ⟨b + 1, by omega, by go_num, by rw [rowB_succ]; exact HR5.out, HB5⟩
          case measure => simp [intOf]; omega
        · have hbn2 : b = n := by omega
          subst hbn2
          have hT2 := Lib.hid (rdT_own hrw2 (by omega) (by omega))
          have hro := ownsRow_below HROW.out hb2.out
          have HRS : Hid (∀ i (h : i < rows.length), RdT wr 4 rows[i] (rowB (F i) b)) := fun i h => (hrows.out i h).below hb2.out
          have HLT := Lib.hid hro.lt
          have hs2 := hb3.out.size
          clear hrw2
          go_wp2_with (at_builtin; refine wpList_append_own _ rfl _ _ 144 rfl W0.heap.size 24 iR (.slice none 0 0) 1 24 Tryd.underlying144 hRi hR0 hR1 hR2 rfl (by decide) _ _ _ rfl (hro.alloc _) ⟨wr.heap.size, 0, none⟩ 1 1 [.slice ptr2 b cap2] rfl rfl ?c1 ?c2 (by unfold maxLen; omega) (by omega) (by simp; omega) ?_)
          case c1 => intro j u hj; match j, hj with | 0, hj => (simp at hj; subst hj; simp [Addr.add])
          case c2 => intro u hu; simp at hu; subst hu; rfl
          intro v' w' hown' hgrow _
          have HB5 := Lib.hid (Below.grown (hb3.out.alloc hb3.out.size _) hgrow (by simp; omega) (fun j hj => (HLT.out j hj).1))
          have HR5 := Lib.hid hown'
          have HRS2 : Hid (∀ i (h : i < (rows ++ [Value.slice ptr2 b cap2]).length), RdT w' 4 (rows ++ [Value.slice ptr2 b cap2])[i] (rowB (F i) b)) := fun i h => by
            have hal : Below wr.heap.size wr (wr.alloc (.cells #[Value.slice ptr2 b cap2] 24)) := (Below.refl _ _).alloc (Nat.le_refl _) _
            have hlr : rows.length = a := by have := hro.1; omega
            by_cases hi : i < rows.length
            · rw [List.getElem_append_left hi]
              exact ((HRS.out i hi).below hal).kept (hro.alloc _) hgrow (by decide)
            · have hia : i = rows.length := by simp at h; omega
              subst hia
              rw [List.getElem_append_right (Nat.le_refl _)]
              simp only [Nat.sub_self, List.getElem_cons_zero]
              rw [hlr]
              exact ((hT2.out).below hal).kept (hro.alloc _) hgrow (by decide)
          clear hown' hgrow hro k0 k1 k2 k3
          go_wp2
          go_roundw
          case rel => exact ⟨a + 1, _, by omega, by go_num, HR5.out, HRS2, HB5⟩
          case measure => simp [intOf]; omega
    · have han2 : a = n := by omega
      subst han2
      have HREL := Lib.hid (relIn_of (f := F) hrow (by omega) hrows.out)
      clear hrow
      go_wp2
      go_ret
      exact ⟨_, rfl, HREL.out, HBW.out _ hb.out⟩
end Go.Proofs.YtfhnigpjmljhbaaDoor.Or
